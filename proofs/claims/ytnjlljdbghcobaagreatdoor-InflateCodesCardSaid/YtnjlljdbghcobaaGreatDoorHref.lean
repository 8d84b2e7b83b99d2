/- Contracts of bits.Get and bits.Turn. -/
import Derived.Test.YtnjlljdbghcobaaGreatDoorPut
import Derived.Test.YtnjlljdbghcobaaGreatDoorQtail
import Derived.Test.YtnjlljdbghcobaaGreatDoorKheadp
import Derived.Test.YtnjlljdbghcobaaGreatDoorHround
import Derived.Deep.RegionHeld3
import Derived.Deep.RegionWith

namespace Go.Proofs.YtnjlljdbghcobaaGreatDoor
set_option maxRecDepth 100000
open Go.RowKit

theorem u8_and1 (x : Nat) (hx : x < 256) (k : Nat) : bits BinOp.and IntKind.u8 ((x : Int) / 2 ^ k) 1 = ((x.testBit k).toNat : Int) := by
  have e : ((x : Int) / 2 ^ k) = ((x / 2 ^ k : Nat) : Int) := by simp
  have h : x / 2 ^ k < 256 := Nat.lt_of_le_of_lt (Nat.div_le_self _ _) hx
  rw [e, show (1 : Int) = ((1 : Nat) : Int) from rfl, u8_and_nat _ _ h (by omega), nat_mask1, bit_mod]

/-- Of a row that is right the k-th bit is told. -/
theorem bitAt_row (s : Value) (l : List Bool) (k : Nat) (w : World) (hs : Sl w s (Bs.pack l)) (hk : k < l.length) (_h8 : l.length ≤ 2251799813685248) :
    Calls Tryz.prog 127 #[s, .int .i64 (k : Int)] w fun e w' => e = .returned (.int .u8 ((l[k]?.getD false).toNat : Int)) ∧ w = w' := by
  obtain ⟨a, len, cap, rfl, hl, h2, h3, h4, h5⟩ := hs
  have hl' : len = (l.length + 7) / 8 := by rw [hl, Bs.pack_length]
  obtain ⟨b, off, rfl, hlt, hc⟩ := h5 (by omega)
  have e := Bs.packTo_get ((l.length + 7) / 8) l (k / 8) (by omega)
  have hx := Bs.byteAt_lt l (k / 8)
  have hc' := hc (k / 8) (by omega)
  unfold Bs.pack at hc'
  rw [e] at hc'
  refine (bitAt_any b off len cap k _ w (by omega) hc' (by omega)).mono ?_
  rintro e w' ⟨rfl, rfl⟩
  refine ⟨?_, rfl⟩
  rw [u8_and1 _ hx, Bs.testBit_byteAt]
  have h8 : k % 8 < 8 := by omega
  have h9 : 8 * (k / 8) + k % 8 = k := by omega
  rw [h9]
  simp [h8]

theorem bitAt_is (s : Value) (l : List Bool) (q : Int) (k : Nat) (b : Bool) (w : World) (hs : Sl w s (Bs.pack l)) (hq : Hid (q = (k : Int))) (hb : Hid (b = l[k]?.getD false)) (hk : k < l.length) (h8 : l.length ≤ 2251799813685248) :
    Calls Tryz.prog 127 #[s, .int .i64 q] w fun e w' => e = .returned (.int .u8 (b.toNat : Int)) ∧ w = w' := by
  rw [hq.out, hb.out]
  exact bitAt_row s l k w hs hk h8

theorem i64_or_nat (a b : Nat) (ha : a < 2 ^ 62) (hb : b < 2 ^ 62) : bits .or .i64 (a : Int) (b : Int) = ((a ||| b : Nat) : Int) :=
  (bits_nat .i64 62 (by decide) (fun n h0 h1 => by rw [IntKind.wrap_i64]; omega) a b ha hb).2

theorem num_step (l : List Bool) (p k : Nat) (b : Bool) (h : p + k < l.length) (hb : b = l[p + k]?.getD false) : Bs.num ((l.drop p).take (k + 1)) = Bs.num ((l.drop p).take k) + b.toNat * 2 ^ k := by
  rw [Bs.num_take_succ _ _ (by rw [List.length_drop]; omega), List.getElem_drop, hb, List.getElem?_eq_getElem h]
  rfl

theorem or_step (V k : Nat) (b : Bool) (hk : k < 32) (hV : V < 2 ^ k) : bits .or .i64 (V : Int) (wrap64 ((b.toNat : Int) * 2 ^ k)) = ((V + b.toNat * 2 ^ k : Nat) : Int) := by
  have h2 : 2 ^ k < 2 ^ 32 := Nat.pow_lt_pow_right (by omega) hk
  have hb : b.toNat ≤ 1 := by cases b <;> simp
  have h3 : b.toNat * 2 ^ k < 2 ^ 32 := by have := Nat.mul_le_mul_right (2 ^ k) hb; omega
  have e : ((b.toNat : Int) * 2 ^ k) = ((b.toNat * 2 ^ k : Nat) : Int) := by simp
  rw [e, IntWalk.wrap64_in _ (by omega), i64_or_nat _ _ (by omega) (by omega), Nat.or_comm, nat_join k _ _ (by simp) hV]
  omega

theorem num_take_lt (l : List Bool) (p k : Nat) : Bs.num ((l.drop p).take k) < 2 ^ k :=
  Nat.lt_of_lt_of_le (Bs.num_lt _) (Nat.pow_le_pow_right (by omega) (List.length_take_le _ _))

/-- What is answered where two numbers are: the number, the error. -/
def Nums (w : World) (v c : Int) (e : Ending) (w' : World) : Prop := e = .returned (.tuple #[.int .i64 v, .int .i64 c]) ∧ Below w.heap.size w w'

set_option maxHeartbeats 1000000 in
theorem get_check (s : Value) (bs : List Nat) (N at' n : Int) (w : World) (hs : Sl w s bs) (hN : N ≤ 9223372036854775807) (hr : ¬ (0 ≤ N ∧ Bs.right bs N.toNat)) :
    Calls Tryz.prog 116 #[.agg #[s, .int .i64 N], .int .i64 at', .int .i64 n] w (Nums w 0 2) := by
  have HS := Lib.hid hs
  have HR := Lib.hid hr
  clear hs hr
  obtain ⟨a, len, cap, rfl, hl⟩ := HS.out.shape
  clear hl
  go_enter Tryz.func116, Tryz.ntmps116
  go_wp2_with fail
  refine (check_bad _ bs N _ (HS.out.later (below1 _ _)) hN HR.out).mono ?_
  rintro e w1 ⟨rfl, hb1⟩
  obtain ⟨k1, kb, ks⟩ := facts1 hb1
  clear hb1
  go_wp2
  go_ret2
  exact ⟨rfl, kb⟩

set_option maxHeartbeats 1000000 in
theorem get_args (s : Value) (bs : List Nat) (N : Nat) (at' n : Int) (w : World) (hs : Sl w s bs) (hN : N ≤ 9223372036854775807) (hr : Bs.right bs N) (hbad : n < 0 ∨ 32 < n ∨ at' < 0 ∨ (N : Int) < at') :
    Calls Tryz.prog 116 #[.agg #[s, .int .i64 (N : Int)], .int .i64 at', .int .i64 n] w (Nums w 0 2) := by
  have HS := Lib.hid hs
  have HR := Lib.hid hr
  have HB := Lib.hid hbad
  clear hs hr hbad
  obtain ⟨a, len, cap, rfl, hl⟩ := HS.out.shape
  clear hl
  go_enter Tryz.func116, Tryz.ntmps116
  go_wp2_with fail
  refine (check_ok _ bs N _ (HS.out.later (below1 _ _)) hN HR.out).mono ?_
  rintro e w1 ⟨rfl, hb1⟩
  obtain ⟨k1, kb, ks⟩ := facts1 hb1
  clear hb1
  obtain ⟨c0, c1, f0, f1⟩ := k1.two
  by_cases h1 : n < 0
  · have d1 : decide (n < 0) = true := by simpa using h1
    go_wp2
    go_ret2
    exact ⟨rfl, kb⟩
  · have d1 : decide (n < 0) = false := by simpa using h1
    by_cases h2 : 32 < n
    · have d2 : decide (32 < n) = true := by simpa using h2
      go_wp2
      go_ret2
      exact ⟨rfl, kb⟩
    · have d2 : decide (32 < n) = false := by simpa using h2
      by_cases h3 : at' < 0
      · have d3 : decide (at' < 0) = true := by simpa using h3
        go_wp2
        go_ret2
        exact ⟨rfl, kb⟩
      · have d3 : decide (at' < 0) = false := by simpa using h3
        have h4 : (N : Int) < at' := by rcases HB.out with h | h | h | h <;> first | exact h | exact absurd h (by assumption)
        have d4 : decide ((N : Int) < at') = true := by simpa using h4
        go_wp2
        go_ret2
        exact ⟨rfl, kb⟩

set_option maxHeartbeats 1000000 in
theorem get_short (s : Value) (bs : List Nat) (N p n : Nat) (w : World) (hs : Sl w s bs) (hN : N ≤ 9223372036854775807) (hr : Bs.right bs N) (hn : n ≤ 32) (hp : p ≤ N) (hsh : N - p < n) :
    Calls Tryz.prog 116 #[.agg #[s, .int .i64 (N : Int)], .int .i64 (p : Int), .int .i64 (n : Int)] w (Nums w 0 4) := by
  have HS := Lib.hid hs
  have HR := Lib.hid hr
  clear hs hr
  obtain ⟨a, len, cap, rfl, hl⟩ := HS.out.shape
  clear hl
  go_enter Tryz.func116, Tryz.ntmps116
  go_wp2_with fail
  refine (check_ok _ bs N _ (HS.out.later (below1 _ _)) hN HR.out).mono ?_
  rintro e w1 ⟨rfl, hb1⟩
  obtain ⟨k1, kb, ks⟩ := facts1 hb1
  clear hb1
  obtain ⟨c0, c1, f0, f1⟩ := k1.two
  have d1 : decide ((n : Int) < 0) = false := by simp
  have d2 : decide (32 < (n : Int)) = false := by simp; omega
  have d3 : decide ((p : Int) < 0) = false := by simp
  have d4 : decide ((N : Int) < (p : Int)) = false := by simp; omega
  have d5 : (N : Int) - (p : Int) < (n : Int) := by omega
  go_wp2
  go_ret2
  exact ⟨rfl, kb⟩

set_option maxHeartbeats 1000000 in
theorem get_ok (s : Value) (l : List Bool) (N p n : Nat) (w : World) (hs : Sl w s (Bs.pack l)) (hl : Hid (N = l.length)) (hN : N ≤ 2251799813685248) (hn : n ≤ 32) (hp : p + n ≤ N) :
    Calls Tryz.prog 116 #[.agg #[s, .int .i64 (N : Int)], .int .i64 (p : Int), .int .i64 (n : Int)] w (Nums w (Bs.num ((l.drop p).take n)) 0) := by
  have HS := Lib.hid hs
  clear hs
  obtain ⟨a, len, cap, rfl, hl'⟩ := HS.out.shape
  clear hl'
  go_enter Tryz.func116, Tryz.ntmps116
  go_wp2_with fail
  refine (check_ok _ (Bs.pack l) N _ (HS.out.later (below1 _ _)) (by omega) (by rw [hl.out]; exact Bs.pack_right l)).mono ?_
  rintro e w1 ⟨rfl, hb1⟩
  obtain ⟨k1, kb, ks⟩ := facts1 hb1
  clear hb1
  obtain ⟨c0, c1, f0, f1⟩ := k1.two
  have HS1 := Lib.hid (HS.out.later kb)
  have d1 : decide ((n : Int) < 0) = false := by simp
  have d2 : decide (32 < (n : Int)) = false := by simp; omega
  have d3 : decide ((p : Int) < 0) = false := by simp
  have d4 : decide (N < p) = false := by simp; omega
  have d5 : decide ((N : Int) - (p : Int) < (n : Int)) = false := by simp; omega
  go_wp2_with fail
  have HL : Hid (l.length ≤ 2251799813685248) := by show _ ≤ _; rw [← hl.out]; exact hN
  go_loop [9, 39] (fun v i => ∃ k V : Nat, k ≤ n ∧ i = .int .i64 k ∧ v = .int .i64 (V : Int) ∧ Hid (V = Bs.num ((l.drop p).take k))) (fun _ i => n - (intOf i).toNat)
  case atStart => exact ⟨0, 0, Nat.zero_le _, rfl, rfl, by show _ = _; simp [Bs.num]⟩
  case round =>
    obtain ⟨k, V, hk, rfl, rfl, hV⟩ := hrel
    by_cases hlt : k < n
    · obtain ⟨b, hb⟩ : ∃ b, b = l[p + k]?.getD false := ⟨_, rfl⟩
      have HB := Lib.hid hb
      have hb2 : b.toNat < 2 := Bool.toNat_lt b
      have hs1 : 0 ≤ (p : Int) + (k : Int) := by omega
      have hpk : p + k < l.length := by rw [← hl.out]; omega
      have HPK := Lib.hid hpk
      clear hb hpk
      go_wp2_with (go_at_call 127; refine (bitAt_is _ l _ (p + k) b _ HS1.out (show _ = _ by simp) HB HPK.out HL.out).mono ?_; rintro e w2 ⟨rfl, rfl⟩)
      refine ⟨⟨k + 1, V + b.toNat * 2 ^ k, by omega, by go_num, ?_, ?_⟩, ?_⟩
      · rw [or_step V k b (by omega) (by rw [hV.out]; exact num_take_lt l p k)]
      · show _ = _
        rw [num_step l p k b HPK.out HB.out, hV.out]
      · simp [intOf]; omega
    · obtain rfl : k = n := by omega
      go_wp2
      go_ret2
      exact ⟨by rw [hV.out]; rfl, kb⟩
end Go.Proofs.YtnjlljdbghcobaaGreatDoor

/- Contracts of header's reader: number. -/
namespace Go.Proofs.YtnjlljdbghcobaaGreatDoor
set_option maxRecDepth 100000
open Go.RowKit

/-- The block of a reader: its row, the place. -/
def rdr (s : Value) (N p : Nat) : Obj := .cells #[s, .int .i64 (N : Int), .int .i64 (p : Int)] 262 (0, 0)
theorem rdr_cells {w : World} {R : Nat} {s : Value} {N p : Nat} (h : Has w R (rdr s N p)) :
    w.cell? ⟨R, 0, none⟩ = some s ∧ w.cell? ⟨R, 1, none⟩ = some (.int .i64 (N : Int)) ∧ w.cell? ⟨R, 2, none⟩ = some (.int .i64 (p : Int)) ∧ w.frozen? ⟨R, 2, none⟩ = false := by
  unfold rdr at h
  exact ⟨by rw [h.cell]; rfl, by rw [h.cell]; rfl, by rw [h.cell]; rfl, h.free 2⟩
theorem rdr_set {w : World} {R : Nat} {s : Value} {N p : Nat} (h : Has w R (rdr s N p)) (q : Nat) : Has (w.setCell ⟨R, 2, none⟩ (.int .i64 (q : Int))) R (rdr s N q) := by
  unfold rdr at h ⊢
  have := h.setSelf (i := 2) (.int .i64 (q : Int))
  simpa using this

theorem Only.of_below {R : Nat} {w w' : World} (h : Below w.heap.size w w') : Only R w w' := ⟨h.os, h.tape, h.output, h.size, fun k hk _ => h.block k hk⟩
theorem Only.past {R : Nat} {w w1 w2 : World} (h : Only R w w1) (hb : Below w.heap.size w1 w2) : Only R w w2 :=
  ⟨hb.os.trans h.os, hb.tape.trans h.tape, hb.output.trans h.output, Nat.le_trans h.size hb.size, fun k hk hne => (hb.block k hk).trans (h.block k hk hne)⟩
theorem Only.setNew {R b : Nat} {w w' : World} (h : Only R w w') (hb : w.heap.size ≤ b) (i : Nat) (v : Value) : Only R w (w'.setCell ⟨b, i, none⟩ v) :=
  ⟨h.os, h.tape, h.output, by simpa using h.size, fun k hk hne => (Below.heap_setCell w' ⟨b, i, none⟩ v k (by simp only; omega)).trans (h.block k hk hne)⟩
theorem Only.drewN {R : Nat} (w : World) (n : Nat) : Only R w (w.drewN n) := ⟨rfl, rfl, rfl, Nat.le_refl _, fun _ _ _ => rfl⟩

/-- The row's bytes don't lie in the reader's block. -/
theorem Sl.ne_rdr {w : World} {a : Option Addr} {len cap : Nat} {bs : List Nat} {R N p : Nat} {s : Value} (h : Sl w (.slice a len cap) bs) (hx : Has w R (rdr s N p)) (hs : ∃ a len cap, s = .slice a len cap) :
    ∀ b off, 0 < len → a = some ⟨b, off, none⟩ → b ≠ R := by
  obtain ⟨a', len', cap', he, h1, h2, h3, h4, h5⟩ := h
  injection he with e1 e2 e3
  subst e1 e2 e3
  intro b off hl e hb
  obtain ⟨b', off', e', hlt, hc⟩ := h5 hl
  rw [e] at e'
  obtain ⟨rfl, rfl⟩ : b = b' ∧ off = off' := by simpa using e'
  subst hb
  have hc0 := hc 0 hl
  obtain ⟨a2, l2, c2, rfl⟩ := hs
  unfold rdr at hx
  rw [hx.cell] at hc0
  rcases off with _ | _ | _ | off <;> simp at hc0
theorem Sl.rdr {w w' : World} {bs : List Nat} {R N p : Nat} {s : Value} (h : Sl w s bs) (hx : Has w R (rdr s N p)) (ho : Only R w w') : Sl w' s bs := by
  obtain ⟨a, len, cap, rfl, hl⟩ := h.shape
  have hne := h.ne_rdr hx ⟨_, _, _, rfl⟩
  obtain ⟨a', len', cap', he, h1, h2, h3, h4, h5⟩ := h
  injection he with e1 e2 e3
  subst e1 e2 e3
  refine ⟨a, len, cap, rfl, h1, h2, h3, h4, fun hl => ?_⟩
  obtain ⟨b, off, rfl, hlt, hc⟩ := h5 hl
  refine ⟨b, off, rfl, Nat.lt_of_lt_of_le hlt ho.size, fun i hi => ?_⟩
  have := ho.block b hlt (hne b off hl rfl)
  rw [← hc i hi]
  unfold World.cell?
  simp only [this]

/-- Where a call has panicked within a region the walk is over. -/
theorem walk_over {X : Prop} {w : World} (h : X) (_ : wpAny Tryz.prog .any #[] (fun _ _ _ => True) 0 #[] { tmps := #[], defers := [] } w) : X := h

theorem get_num (s : Value) (l : List Bool) (N p n : Nat) (w : World) (hs : Sl w s (Bs.pack l)) (hl : Hid (N = l.length)) (hN : N ≤ 2251799813685248) (hn : n ≤ 32) (hp : p + n ≤ N) (x : Nat) (hx : Hid (x = Hd.num l p n)) :
    Calls Tryz.prog 116 #[.agg #[s, .int .i64 (N : Int)], .int .i64 (p : Int), .int .i64 (n : Int)] w (Nums w (x : Int) 0) := by
  rw [hx.out]; exact get_ok s l N p n w hs hl hN hn hp

theorem keep_rdr {w W w1 : World} {R : Nat} {s : Value} {N p : Nat} (hx : Has w R (rdr s N p)) (hb : Below w.heap.size w W) (hb1 : Below W.heap.size W w1) :
    w1.cell? ⟨R, 0, none⟩ = some s ∧ w1.cell? ⟨R, 1, none⟩ = some (.int .i64 (N : Int)) ∧ w1.cell? ⟨R, 2, none⟩ = some (.int .i64 (p : Int)) ∧ Below w.heap.size w w1 := by
  have h := hb.trans (hb1.mono hb.size)
  obtain ⟨c0, c1, c2, _⟩ := rdr_cells (hx.later h)
  exact ⟨c0, c1, c2, h⟩

set_option maxRecDepth 100000 in
set_option maxHeartbeats 2000000 in
theorem number_ok (R : Nat) (s : Value) (l : List Bool) (N p n : Nat) (w : World) (hx : Has w R (rdr s N p)) (hs : Sl w s (Bs.pack l)) (hl : Hid (N = l.length)) (hN : N ≤ 2251799813685248) (hn : n ≤ 32) (hp : p + n ≤ N) :
    Calls Tryz.prog 216 #[.pointer (some ⟨R, 0, none⟩), .int .i64 (n : Int)] w fun e w' => e = .returned (.int .i64 (Hd.num l p n : Int)) ∧ Has w' R (rdr s N (p + n)) ∧ Only R w w' := by
  obtain ⟨c0, c1, c2, z2⟩ := rdr_cells hx
  have HX := Lib.hid hx
  have B0 := Lib.hid (Below.refl w.heap.size w)
  obtain ⟨q, hq⟩ : ∃ q, q = p + n := ⟨_, rfl⟩
  have hsum : IntKind.i64.wrap ((p : Int) + (n : Int)) = (q : Int) := by rw [IntWalk.i64_in _ (by omega), hq]; norm_cast
  have HQ := Lib.hid hsum
  obtain ⟨x, hxx⟩ : ∃ x : Nat, x = Hd.num l p n := ⟨_, rfl⟩
  have HXX := Lib.hid hxx
  have HG := Lib.hid (fun w' (hb : Below w.heap.size w w') => get_num s l N p n w' (hs.later hb) hl hN hn hp x HXX)
  rw [← hxx, ← hq]
  clear hx hs hq hsum hxx
  go_enter Tryz.func216, Tryz.ntmps216
  go_wp2
  go_region_held3 (fun wx => wx.cell? ⟨R, 0, none⟩ = some s ∧ wx.cell? ⟨R, 1, none⟩ = some (.int .i64 (N : Int)) ∧ wx.cell? ⟨R, 2, none⟩ = some (.int .i64 (p : Int)) ∧ Below w.heap.size w wx) (first | exact ⟨c0, c1, c2, B0.out.drew⟩ | exact keep_rdr HX.out B0.out.drew hb1)
    (first | (go_at_call 116; refine (HG.out _ B0.out.drew).mono ?_; rintro e w1 ⟨rfl, hb1⟩) | (go_at_call 230; refine (needInt_ok _ _).mono ?_; rintro e w2 ⟨rfl, rfl⟩))
  all_goals
    have hb : Below w.heap.size w w1 := B0.out.drew.trans (hb1.mono (by simp))
    have hx1 := HX.out.later hb
    obtain ⟨d0, d1, d2, y2⟩ := rdr_cells hx1
    have HX1 := Lib.hid hx1
    have HB := Lib.hid hb
    have hsum := HQ.out
    clear hb1 hb hx1 c0 c1 c2 z2
    go_wp2
    go_ret
    exact ⟨rfl, rdr_set HX1.out q, (Only.of_below HB.out).trans (only_set _ R 2 _)⟩

set_option maxRecDepth 100000 in
set_option maxHeartbeats 2000000 in
theorem number_short (R : Nat) (s : Value) (l : List Bool) (N p n : Nat) (w : World) (hx : Has w R (rdr s N p)) (hs : Sl w s (Bs.pack l)) (hl : Hid (N = l.length)) (hN : N ≤ 2251799813685248) (hn : n ≤ 32) (hp : p ≤ N) (hsh : N < p + n) :
    Calls Tryz.prog 216 #[.pointer (some ⟨R, 0, none⟩), .int .i64 (n : Int)] w fun e w' => e = .panicked (Pan 4) ∧ Only R w w' := by
  obtain ⟨c0, c1, c2, z2⟩ := rdr_cells hx
  have HX := Lib.hid hx
  have B0 := Lib.hid (Below.refl w.heap.size w)
  have HG := Lib.hid (fun w' (hb : Below w.heap.size w w') => get_short s (Bs.pack l) N p n w' (hs.later hb) (by omega) (by rw [hl.out]; exact Bs.pack_right l) hn hp (by omega))
  clear hx hs
  go_enter Tryz.func216, Tryz.ntmps216
  go_wp2
  go_region_with (first | (go_at_call 116; refine (HG.out _ B0.out.drew).mono ?_; rintro e w1 ⟨rfl, hb1⟩) | (go_at_call 230; refine (needInt_bad _ 4 (by decide) _).mono ?_; rintro e w2 ⟨rfl, rfl⟩; refine walk_over (w := w1) ⟨rfl, rfl, Only.of_below (B0.out.drew.trans (hb1.mono (by simp)))⟩ ?_))
  all_goals trivial
end Go.Proofs.YtnjlljdbghcobaaGreatDoor

/- Contracts of header's reader: code. -/
namespace Go.Proofs.YtnjlljdbghcobaaGreatDoor
set_option maxRecDepth 100000
open Go.RowKit

/-- header.order holds its numbers. -/
def Glob (w : World) : Prop := ∀ k, k < 19 → w.cell? ⟨1, k, none⟩ = some (.int .i64 (Hd.ord k : Int))
theorem Glob.lt {w : World} (h : Glob w) : 1 < w.heap.size := World.block_lt_of_cell? w _ (h 0 (by omega))
theorem Glob.later {w w' : World} (h : Glob w) (hb : Below w.heap.size w w') : Glob w' := fun k hk => by
  rw [hb.cell (p := ⟨1, k, none⟩) h.lt]; exact h k hk
theorem Glob.ne {w : World} (h : Glob w) {R : Nat} {s : Value} {N p : Nat} (hx : Has w R (rdr s N p)) (hs : ∃ a len cap, s = .slice a len cap) : 1 ≠ R := by
  rintro rfl
  obtain ⟨c0, _⟩ := rdr_cells hx
  obtain ⟨a, len, cap, rfl⟩ := hs
  have := h 0 (by omega)
  rw [c0] at this; simp at this
theorem Glob.only {w w' : World} (h : Glob w) {R : Nat} (hne : 1 ≠ R) (ho : Only R w w') : Glob w' := fun k hk => by
  rw [cell_of_heap (ho.block _ h.lt hne)]; exact h k hk

theorem made_cl (l : List Bool) (p : Nat) : madeCells #[Value.int .i64 0] 19 = (vn (Hd.cl l p 0)).toArray := by
  apply Array.toList_inj.1
  rw [toList_madeCells_one]
  simp [Hd.cl, vn]
theorem nums_set {w : World} {g : Nat} {xs : List Nat} (h : Has w g (nums xs)) (i x : Nat) : Has (w.setCell ⟨g, i, none⟩ (.int .i64 (x : Int))) g (nums (xs.set i x)) := by
  have h' : Has w g (.cells (vn xs).toArray 3 (0, 0)) := h
  have := h'.setSelf (i := i) (.int .i64 (x : Int))
  unfold nums
  have e : (vn (xs.set i x)).toArray = ((vn xs).toArray.setIfInBounds i (.int .i64 (x : Int))) := by
    apply Array.toList_inj.1
    simp [vn, List.map_set]
  rw [e]; exact this

/-- What reading the run symbols' lengths leaves: p is the place behind their number, c how many there are. -/
def CodePost (R : Nat) (w : World) (s : Value) (l : List Bool) (N p c : Nat) (e : Ending) (w' : World) : Prop :=
  Only R w w' ∧ ((p + 3 * c ≤ N ∧ e = .returned (.slice (some ⟨w.heap.size, 0, none⟩) 19 19) ∧ Has w' w.heap.size (nums (Hd.cl l p c)) ∧ Has w' R (rdr s N (p + 3 * c))) ∨ (N < p + 3 * c ∧ e = .panicked (Pan 4)))

set_option maxRecDepth 100000 in
set_option maxHeartbeats 4000000 in
theorem code_short (R : Nat) (s : Value) (l : List Bool) (N p : Nat) (w : World) (hx : Has w R (rdr s N p)) (hs : Sl w s (Bs.pack l)) (hl : Hid (N = l.length)) (hN : N ≤ 2251799813685248) (hp : p ≤ N) (hsh : N < p + 4) :
    Calls Tryz.prog 218 #[.pointer (some ⟨R, 0, none⟩)] w fun e w' => e = .panicked (Pan 4) ∧ Only R w w' := by
  have hmk : ∀ w, (Instr.makeSlice 33 (.int .i64 19) (.int .i64 19)).run Tryz.prog w = .ok (.slice (some ⟨w.heap.size, 0, none⟩) 19 19) (w.alloc (.cells (madeCells #[.int .i64 0] 19) 3)) :=
    fun w => run_make_row' (P := Tryz.prog) 33 3 (.int .i64 0) 8 Tryz.underlying33 Tryz.infoInt rfl .i64 .i64 19 (by omega) (by omega) w
  have hb0 : Below w.heap.size w (w.alloc (.cells (madeCells #[.int .i64 0] 19) 3)) := below1 _ _
  have HS := Lib.hid (number_short R s l N p 4 _ (hx.later hb0) (hs.later hb0) hl hN (by omega) hp hsh)
  have HB := Lib.hid hb0
  clear hx hs hb0
  go_enter Tryz.func218, Tryz.ntmps218
  go_wp2_with fail
  refine HS.out.mono ?_
  rintro e w1 ⟨rfl, ho⟩
  exact ⟨rfl, rfl, (Only.of_below HB.out).trans ho⟩

set_option maxRecDepth 100000 in
set_option maxHeartbeats 4000000 in
theorem code_any (R : Nat) (s : Value) (l : List Bool) (N p : Nat) (w : World) (hx : Has w R (rdr s N p)) (hs : Sl w s (Bs.pack l)) (hgl : Glob w) (hl : Hid (N = l.length)) (hN : N ≤ 2251799813685248) (hp : p + 4 ≤ N) :
    Calls Tryz.prog 218 #[.pointer (some ⟨R, 0, none⟩)] w (CodePost R w s l N (p + 4) (Hd.num l p 4 + 4)) := by
  have hmk : ∀ w, (Instr.makeSlice 33 (.int .i64 19) (.int .i64 19)).run Tryz.prog w = .ok (.slice (some ⟨w.heap.size, 0, none⟩) 19 19) (w.alloc (.cells (madeCells #[.int .i64 0] 19) 3)) :=
    fun w => run_make_row' (P := Tryz.prog) 33 3 (.int .i64 0) 8 Tryz.underlying33 Tryz.infoInt rfl .i64 .i64 19 (by omega) (by omega) w
  have hb0 : Below w.heap.size w (w.alloc (.cells (madeCells #[.int .i64 0] 19) 3)) := below1 _ _
  have hshape := hs.shape
  obtain ⟨a, len, cap, rfl, hlen⟩ := hshape
  have hRlt := hx.lt
  have hne := hgl.ne hx ⟨_, _, _, rfl⟩
  have hgl0 := hgl.later hb0
  have hglt := hgl.lt
  have hG0 : Has (w.alloc (.cells (madeCells #[.int .i64 0] 19) 3)) w.heap.size (nums (Hd.cl l (p + 4) 0)) := by
    rw [made_cl l (p + 4)]; exact Has.new w _
  have HS := Lib.hid (number_ok R _ l N p 4 _ (hx.later hb0) (hs.later hb0) hl hN (by omega) hp)
  have HSL := Lib.hid (hs.later hb0)
  have HX0 := Lib.hid (hx.later hb0)
  have HG := Lib.hid hG0
  have HGL := Lib.hid hgl0
  have HB := Lib.hid hb0
  have HS00 := Lib.hid hs
  have HX00 := Lib.hid hx
  have HG00 := Lib.hid hgl
  have hc4 := Hd.num_lt l p 4
  obtain ⟨c, hc⟩ : ∃ c, c = Hd.num l p 4 := ⟨_, rfl⟩
  rw [← hc] at HS hc4 ⊢
  clear hx hs hb0 hG0 hgl0 hgl hlen hc
  go_enter Tryz.func218, Tryz.ntmps218
  go_wp2_with fail
  refine HS.out.mono ?_
  clear HS
  rintro e w1 ⟨rfl, hx1, ho⟩
  have HS1 := Lib.hid (HSL.out.rdr HX0.out ho)
  have HG1 := Lib.hid (HG.out.only ho (by omega))
  have HGL1 := Lib.hid (HGL.out.only hne ho)
  have HX1 := Lib.hid hx1
  have HO1 := Lib.hid ((Only.of_below HB.out).trans ho)
  clear HSL HG HGL HX0 HB hx1 ho hmk
  go_wp2_with fail
  go_loopw [9] (fun s9 wr => ∃ k : Nat, s9 = .int .i64 (k : Int) ∧ k ≤ c + 4 ∧ p + 4 + 3 * k ≤ N ∧ Hid (Has wr R (rdr (.slice a len cap) N (p + 4 + 3 * k))) ∧ Hid (Has wr w.heap.size (nums (Hd.cl l (p + 4) k))) ∧ Hid (Only R w wr)) (fun s _ => c + 4 - (intOf s).toNat)
  case atStart => exact ⟨0, by go_num, by omega, by omega, HX1, HG1, HO1⟩
  case round =>
    obtain ⟨k, rfl, hk, hpk, KX, KG, KO⟩ := hrel
    have KS := Lib.hid (HS00.out.rdr HX00.out KO.out)
    have KL := Lib.hid (HG00.out.only hne KO.out)
    by_cases hlt : k < c + 4
    · have j0 : decide ((k : Int) < (c : Int) + 4) = true := decide_eq_true (by omega)
      have j1 : (k : Int) < 19 := by omega
      have g0 : wr.cell? ⟨1, k, none⟩ = some (.int .i64 (Hd.ord k : Int)) := KL.out k (by omega)
      obtain ⟨o, ho⟩ : ∃ o, o = Hd.ord k := ⟨_, rfl⟩
      have ho19 : o < 19 := by rw [ho]; exact Hd.ord_lt k
      rw [← ho] at g0
      have HO := Lib.hid ho
      clear ho
      have i1 : (o : Int) < 19 := by omega
      by_cases h3 : p + 4 + 3 * k + 3 ≤ N
      · have HN3 := Lib.hid (number_ok R _ l N (p + 4 + 3 * k) 3 wr.drew KX.out KS.out hl hN (by omega) h3)
        obtain ⟨x, hxx⟩ : ∃ x, x = Hd.num l (p + 4 + 3 * k) 3 := ⟨_, rfl⟩
        rw [← hxx] at HN3
        have HXX := Lib.hid hxx
        clear hxx
        have keep : ∀ w2, Only R wr.drew w2 → w2.cell? ⟨1, k, none⟩ = some (.int .i64 (o : Int)) ∧ w2.cell? ⟨w.heap.size, o, none⟩ = some (.int .i64 (((Hd.cl l (p + 4) k)[o]?.getD 0 : Nat) : Int)) ∧ w2.frozen? ⟨w.heap.size, o, none⟩ = false := by
          intro w2 ho2
          have hg : Has wr.drew w.heap.size (nums (Hd.cl l (p + 4) k)) := KG.out
          have G2 := hg.only ho2 (by omega)
          have hlw : Glob wr.drew := KL.out
          have e2 : w2.heap[1]? = wr.drew.heap[1]? := ho2.block _ hlw.lt hne
          refine ⟨(cell_of_heap e2 k).trans g0, nums_cell G2 o (by rw [Hd.cl_length]; exact ho19), ?_⟩
          unfold nums at G2
          exact G2.free o
        have KEEP := Lib.hid keep
        clear keep
        obtain ⟨z, hz⟩ : ∃ z, z = (Hd.cl l (p + 4) k)[o]?.getD 0 := ⟨_, rfl⟩
        rw [← hz] at KEEP
        clear hz
        go_wp2
        go_region_held3 (fun wx => wx.cell? ⟨1, k, none⟩ = some (.int .i64 (o : Int))) (first | exact g0 | exact (KEEP.out w2 ho2).1 | exact (World.cell?_setCell_other _ _ _ _ (by simp <;> omega)).trans (KEEP.out w2 ho2).1)
          ((go_at_call 216; refine HN3.out.mono ?_; rintro e w2 ⟨rfl, hx2, ho2⟩; obtain ⟨_, y1, y2⟩ := KEEP.out w2 ho2))
        have hn1 : Has w2 w.heap.size (nums (Hd.cl l (p + 4) k)) := Has.only (show Has wr.drew w.heap.size (nums (Hd.cl l (p + 4) k)) from KG.out) ho2 (by omega)
        have hn2 := nums_set hn1 o x
        rw [HXX.out, HO.out] at hn2
        have N2 : Hid (Has (w2.setCell ⟨w.heap.size, o, none⟩ (.int .i64 (x : Int))) w.heap.size (nums (Hd.cl l (p + 4) (k + 1)))) := by
          show Has _ _ _
          rw [HXX.out, HO.out]; exact hn2
        have X2 : Hid (Has (w2.setCell ⟨w.heap.size, o, none⟩ (.int .i64 (x : Int))) R (rdr (.slice a len cap) N (p + 4 + 3 * (k + 1)))) := by
          show Has _ _ _
          rw [show p + 4 + 3 * (k + 1) = p + 4 + 3 * k + 3 by omega]
          exact hx2.set (by simp only; omega) _
        have O2 : Hid (Only R w (w2.setCell ⟨w.heap.size, o, none⟩ (.int .i64 (x : Int)))) := ((KO.out.trans (Only.drewN wr 1)).trans ho2).setNew (Nat.le_refl _) _ _
        clear hn1 hn2 hx2 ho2 g0
        go_wp2
        go_round
        case rel => exact ⟨k + 1, by go_num, by omega, by omega, X2, N2, O2⟩
        case measure => simp [intOf]; omega
      · have HN3 := Lib.hid (number_short R _ l N (p + 4 + 3 * k) 3 wr.drew KX.out KS.out hl hN (by omega) hpk (by omega))
        have HF : Hid (∀ w2, Only R wr.drew w2 → Only R w w2 ∧ N < p + 4 + 3 * (c + 4)) := fun w2 h => ⟨(KO.out.trans (Only.drewN wr 1)).trans h, by omega⟩
        go_wp2
        go_region_with ((go_at_call 216; refine HN3.out.mono ?_; rintro e w2 ⟨rfl, ho2⟩; refine walk_over (w := w2) ⟨rfl, (HF.out w2 ho2).1, Or.inr ⟨(HF.out w2 ho2).2, rfl⟩⟩ ?_))
        all_goals trivial
    · obtain rfl : k = c + 4 := by omega
      go_wp2
      go_ret
      exact ⟨KO.out, Or.inl ⟨hpk, rfl, KG.out, KX.out⟩⟩
end Go.Proofs.YtnjlljdbghcobaaGreatDoor

/- Contracts of bits.Turn. -/
namespace Go.Proofs.YtnjlljdbghcobaaGreatDoor
set_option maxRecDepth 100000
open Go.RowKit

/-- The number of n bits that has v's the other way about. -/
def turned (v n : Nat) : Nat := Bs.num (Bs.bitsOf v n).reverse

theorem turned_zero (v : Nat) : turned v 0 = 0 := rfl
theorem turned_succ (v n : Nat) : turned v (n + 1) = (v.testBit n).toNat + 2 * turned v n := by
  unfold turned
  rw [Bs.bitsOf_succ, List.reverse_append]
  rfl
theorem turned_lt (v n : Nat) : turned v n < 2 ^ n := by
  have := Bs.num_lt (Bs.bitsOf v n).reverse
  rw [List.length_reverse, Bs.bitsOf_length] at this
  exact this

set_option maxHeartbeats 400000 in
theorem turn_bad (v n : Int) (hf : n ≤ 16 → Hid (decide (0 ≤ n ∧ 0 ≤ v ∧ v / 2 ^ n.toNat = 0) = false)) (w : World) :
    Calls Tryz.prog 131 #[.int .i64 v, .int .i64 n] w (Nums w 0 2) := by
  have HF := Lib.hid hf
  clear hf
  by_cases h32 : n ≤ 16
  · go_enter Tryz.func131, Tryz.ntmps131
    go_wp2_with (go_at_call 171; refine (fits_is v n false (by omega) (HF.out h32) _).mono ?_; rintro e w2 ⟨rfl, rfl⟩)
    go_ret2
    exact ⟨rfl, Below.refl _ _⟩
  · go_enter Tryz.func131, Tryz.ntmps131
    go_wp2
    go_ret2
    exact ⟨rfl, Below.refl _ _⟩

theorem fit_nat (v n : Nat) (hv : v < 2 ^ n) : decide (0 ≤ (n : Int) ∧ 0 ≤ (v : Int) ∧ (v : Int) / 2 ^ (n : Int).toNat = 0) = true := by
  refine decide_eq_true ⟨by omega, by omega, ?_⟩
  have e : ((v : Int) / 2 ^ (n : Int).toNat) = ((v / 2 ^ n : Nat) : Int) := by simp
  rw [e, Nat.div_eq_of_lt hv]
  rfl

set_option maxHeartbeats 400000 in
theorem turn_ok (v n : Nat) (hn : n ≤ 16) (hv : Hid (v < 2 ^ n)) (w : World) :
    Calls Tryz.prog 131 #[.int .i64 (v : Int), .int .i64 (n : Int)] w (Nums w (turned v n) 0) := by
  have HF : Hid _ := fit_nat v n hv.out
  have d1 : decide (16 < (n : Int)) = false := by simp; omega
  have hi32 : (n : Int) ≤ 32 := by omega
  go_enter Tryz.func131, Tryz.ntmps131
  go_wp2_with (first | (go_at_call 171; refine (fits_is (v : Int) (n : Int) true hi32 HF _).mono ?_; rintro e w2 ⟨rfl, rfl⟩) | fail)
  go_loop [6, 17] (fun t i => ∃ k T : Nat, k ≤ n ∧ i = .int .i64 k ∧ t = .int .i64 (T : Int) ∧ Hid (T = turned v k)) (fun _ i => n - (intOf i).toNat)
  case atStart => exact ⟨0, 0, Nat.zero_le _, rfl, rfl, turned_zero v⟩
  case round =>
    obtain ⟨k, T, hk, rfl, rfl, hT⟩ := hrel
    have hT2 : T < 65536 := by
      have h1 := turned_lt v k
      have h2 : 2 ^ k ≤ 2 ^ 16 := Nat.pow_le_pow_right (by omega) (by omega)
      rw [hT.out]; omega
    by_cases hlt : k < n
    · go_wp2
      refine ⟨⟨k + 1, (v.testBit k).toNat + 2 * T, by omega, by go_num, ?_, ?_⟩, ?_⟩
      · have hb : (v.testBit k).toNat ≤ 1 := by cases v.testBit k <;> simp
        rw [i64_and1, bit_int, show ((T : Int) * 2) = ((T * 2 : Nat) : Int) by omega, i64_or_nat _ _ (by omega) (by omega), nat_join 1 _ _ (by omega) (by omega)]
        congr 1
        omega
      · show _ = _
        rw [turned_succ, hT.out]
      · simp [intOf]; omega
    · obtain rfl : k = n := by omega
      go_wp2
      go_ret2
      exact ⟨by rw [hT.out]; rfl, Below.refl _ _⟩

set_option maxHeartbeats 400000 in
theorem turn_same (v n : Nat) (hn : n ≤ 16) (hv : Hid (v < 2 ^ n)) (w : World) :
    Calls Tryz.prog 131 #[.int .i64 (v : Int), .int .i64 (n : Int)] w fun e w' => e = .returned (.tuple #[.int .i64 (turned v n : Int), .int .i64 0]) ∧ w = w' := by
  have HF : Hid _ := fit_nat v n hv.out
  have d1 : decide (16 < (n : Int)) = false := by simp; omega
  have hi32 : (n : Int) ≤ 32 := by omega
  go_enter Tryz.func131, Tryz.ntmps131
  go_wp2_with (first | (go_at_call 171; refine (fits_is (v : Int) (n : Int) true hi32 HF _).mono ?_; rintro e w2 ⟨rfl, rfl⟩) | fail)
  go_loop [6, 17] (fun t i => ∃ k T : Nat, k ≤ n ∧ i = .int .i64 k ∧ t = .int .i64 (T : Int) ∧ Hid (T = turned v k)) (fun _ i => n - (intOf i).toNat)
  case atStart => exact ⟨0, 0, Nat.zero_le _, rfl, rfl, turned_zero v⟩
  case round =>
    obtain ⟨k, T, hk, rfl, rfl, hT⟩ := hrel
    have hT2 : T < 65536 := by
      have h1 := turned_lt v k
      have h2 : 2 ^ k ≤ 2 ^ 16 := Nat.pow_le_pow_right (by omega) (by omega)
      rw [hT.out]; omega
    by_cases hlt : k < n
    · go_wp2
      refine ⟨⟨k + 1, (v.testBit k).toNat + 2 * T, by omega, by go_num, ?_, ?_⟩, ?_⟩
      · have hb : (v.testBit k).toNat ≤ 1 := by cases v.testBit k <;> simp
        rw [i64_and1, bit_int, show ((T : Int) * 2) = ((T * 2 : Nat) : Int) by omega, i64_or_nat _ _ (by omega) (by omega), nat_join 1 _ _ (by omega) (by omega)]
        congr 1
        omega
      · show _ = _
        rw [turned_succ, hT.out]
      · simp [intOf]; omega
    · obtain rfl : k = n := by omega
      go_wp2
      go_ret2
      exact ⟨by rw [hT.out]; rfl, rfl⟩

end Go.Proofs.YtnjlljdbghcobaaGreatDoor

/- Contracts of the document's functions on rows: Right, Check, Bit, Get, With, Copy, Put, Same. -/
namespace Go.Proofs.YtnjlljdbghcobaaGreatDoor
set_option maxRecDepth 100000
open Go.RowKit

set_option maxHeartbeats 400000 in
theorem right_neg (s : Value) (n : Int) (h : n < 0) (w : World) :
    Calls Tryz.prog 43 #[.agg #[s, .int .i64 n]] w fun e w' => e = .returned (.bool false) ∧ Below w.heap.size w w' := by
  have hd : decide (n < 0) = true := by simpa using h
  go_enter Tryz.func43, Tryz.ntmps43
  go_wp2
  go_ret
  exact ⟨rfl, below1 _ _⟩

set_option maxHeartbeats 400000 in
theorem right_len (a : Option Addr) (len cap N : Nat) (h2 : N ≤ 9223372036854775807) (hne : ((len : Int) != (N : Int) / 8 + ((N : Int) % 8 + 7) / 8) = true) (w : World) :
    Calls Tryz.prog 43 #[.agg #[.slice a len cap, .int .i64 N]] w fun e w' => e = .returned (.bool false) ∧ Below w.heap.size w w' := by
  have hd : decide ((N : Int) < 0) = false := by simp
  go_enter Tryz.func43, Tryz.ntmps43
  go_wp2
  go_ret
  exact ⟨rfl, below1 _ _⟩

set_option maxHeartbeats 400000 in
theorem right_whole (a : Option Addr) (len cap N : Nat) (h2 : N ≤ 9223372036854775807) (heq : ((len : Int) != (N : Int) / 8 + ((N : Int) % 8 + 7) / 8) = false) (h0 : ((N : Int) % 8 == 0) = true) (w : World) :
    Calls Tryz.prog 43 #[.agg #[.slice a len cap, .int .i64 N]] w fun e w' => e = .returned (.bool true) ∧ Below w.heap.size w w' := by
  have hd : decide ((N : Int) < 0) = false := by simp
  go_enter Tryz.func43, Tryz.ntmps43
  go_wp2
  go_quiet (fail)
  go_wp2
  go_ret
  exact ⟨rfl, below_drewN (below1 _ _) _⟩

set_option maxHeartbeats 400000 in
theorem right_last (b off len cap N : Nat) (x : Nat) (z : Bool) (h2 : N ≤ 9223372036854775807) (hl : len + 1 ≤ 281474976710656) (heq : (((len : Int) + 1) != (N : Int) / 8 + ((N : Int) % 8 + 7) / 8) = false) (h0 : ((N : Int) % 8 == 0) = false)
    (w : World) (hb : b < w.heap.size) (hc : w.cell? ⟨b, off + len, none⟩ = some (.int .u8 (x : Int))) (hx : ((x : Int) / 2 ^ (N % 8) == 0) = z) :
    Calls Tryz.prog 43 #[.agg #[.slice (some ⟨b, off, none⟩) (len + 1) cap, .int .i64 N]] w fun e w' => e = .returned (.bool z) ∧ Below w.heap.size w w' := by
  have hd : decide ((N : Int) < 0) = false := by simp
  cases z
  all_goals
    go_enter Tryz.func43, Tryz.ntmps43
    go_wp2
    go_quiet (fail)
    go_wp2
    go_ret
    exact ⟨rfl, below_drewN (below1 _ _) _⟩

theorem size_ne (len N : Nat) : ((len : Int) != (N : Int) / 8 + ((N : Int) % 8 + 7) / 8) = (len != (N + 7) / 8) := by
  rw [size_int, Bool.eq_iff_iff, bne_iff_ne, bne_iff_ne]; omega

theorem pow_zero_iff' (x k : Nat) : ((x : Int) / 2 ^ k == 0) = (x / 2 ^ k == 0) := by
  have e : ((x : Int) / 2 ^ k) = ((x / 2 ^ k : Nat) : Int) := by simp
  rw [e, Bool.eq_iff_iff, beq_iff_eq, beq_iff_eq]
  omega

theorem rright_ok (s : Value) (bs : List Nat) (N : Nat) (w : World) (hs : Sl w s bs) (hN : N ≤ 9223372036854775807) (hr : Bs.right bs N) :
    Calls Tryz.prog 43 #[.agg #[s, .int .i64 N]] w fun e w' => e = .returned (.bool true) ∧ Below w.heap.size w w' := by
  obtain ⟨a, len, cap, rfl, rfl, hl, hnil, h8, hc⟩ := hs
  obtain ⟨h1, h2⟩ := hr
  by_cases h0 : N % 8 = 0
  · exact right_whole a _ cap N hN (by rw [size_ne, h1, bne_eq_false_iff_eq]) (by rw [beq_iff_eq]; omega) w
  · rcases h2 with h2 | h2
    · exact absurd h2 h0
    · obtain ⟨k, hk⟩ : ∃ k, bs.length = k + 1 := ⟨bs.length - 1, by omega⟩
      obtain ⟨b, off, rfl, hb, hcell⟩ := hc (by omega)
      have hne := size_ne bs.length N
      rw [hk] at h2 hcell hne ⊢
      refine right_last b off k cap N (bs[k]?.getD 0) true hN (by omega) (hne.trans (by rw [bne_eq_false_iff_eq]; omega)) (by rw [beq_eq_false_iff_ne]; omega) w hb (hcell k (by omega)) ?_
      rw [pow_zero_iff', beq_iff_eq]
      simpa using h2

theorem rright_bad (s : Value) (bs : List Nat) (n : Int) (w : World) (hs : Sl w s bs) (hN : n ≤ 9223372036854775807) (hr : ¬ (0 ≤ n ∧ Bs.right bs n.toNat)) :
    Calls Tryz.prog 43 #[.agg #[s, .int .i64 n]] w fun e w' => e = .returned (.bool false) ∧ Below w.heap.size w w' := by
  by_cases h0 : n < 0
  · exact right_neg s n h0 w
  · obtain ⟨N, rfl⟩ := Int.eq_ofNat_of_zero_le (show 0 ≤ n by omega)
    obtain ⟨a, len, cap, rfl, rfl, hl, hnil, h8, hc⟩ := hs
    by_cases h1 : bs.length = (N + 7) / 8
    · have h3 : ¬ N % 8 = 0 := fun h => hr ⟨by omega, by simpa using h1, Or.inl (by simpa using h)⟩
      obtain ⟨k, hk⟩ : ∃ k, bs.length = k + 1 := ⟨bs.length - 1, by omega⟩
      have h4 : ¬ (bs[bs.length - 1]?.getD 0) / 2 ^ (N % 8) = 0 := fun h => hr ⟨by omega, by simpa using h1, Or.inr (by simpa using h)⟩
      obtain ⟨b, off, rfl, hb, hcell⟩ := hc (by omega)
      have hne := size_ne bs.length N
      rw [hk] at h4 hcell hne ⊢
      refine right_last b off k cap N (bs[k]?.getD 0) false (by omega) (by omega) (hne.trans (by rw [bne_eq_false_iff_eq]; omega)) (by rw [beq_eq_false_iff_ne]; omega) w hb (hcell k (by omega)) ?_
      rw [pow_zero_iff', beq_eq_false_iff_ne]
      simpa using h4
    · exact right_len a _ cap N (by omega) (by rw [size_ne, bne_iff_ne]; omega) w

theorem rright_is (s : Value) (bs : List Nat) (n : Int) (z : Bool) (w : World) (hs : Sl w s bs) (hN : n ≤ 9223372036854775807) (hz : Hid (z = true ↔ (0 ≤ n ∧ Bs.right bs n.toNat))) :
    Calls Tryz.prog 43 #[.agg #[s, .int .i64 n]] w fun e w' => e = .returned (.bool z) ∧ Below w.heap.size w w' := by
  cases z
  · exact rright_bad s bs n w hs hN fun h => by simpa using hz.out.2 h
  · obtain ⟨h1, h2⟩ := hz.out.1 rfl
    obtain ⟨N, rfl⟩ := Int.eq_ofNat_of_zero_le h1
    exact rright_ok s bs N w hs (by omega) h2

set_option maxHeartbeats 400000 in
theorem rbit_walk (b off len cap k N : Nat) (x : Nat) (w : World) (hb : b < w.heap.size) (hk : k / 8 < len) (hx : x < 256) (hc : w.cell? ⟨b, off + k / 8, none⟩ = some (.int .u8 (x : Int))) (h8 : k < 2251799813685248) :
    Calls Tryz.prog 164 #[.agg #[.slice (some ⟨b, off, none⟩) len cap, .int .i64 N], .int .i64 k] w fun e w' => e = .returned (.int .i64 (((x.testBit (k % 8)).toNat : Nat) : Int)) ∧ Below w.heap.size w w' := by
  have hbit := bit_int x (k % 8)
  go_enter Tryz.func164, Tryz.ntmps164
  go_wp2
  go_ret
  refine ⟨ret_int ?_, below1 _ _⟩
  have hq : x / 2 ^ (k % 8) < 256 := Nat.lt_of_le_of_lt (Nat.div_le_self _ _) hx
  have e : ((x : Int) / 2 ^ (k % 8)) = ((x / 2 ^ (k % 8) : Nat) : Int) := by simp
  generalize x / 2 ^ (k % 8) = q at hq e
  rw [i64_and1, e, IntWalk.wrap64_in _ (by omega), ← e]
  exact hbit

theorem rbit_row (s : Value) (l : List Bool) (k N : Nat) (w : World) (hs : Sl w s (Bs.pack l)) (hk : k < l.length) (_h8 : l.length ≤ 2251799813685248) :
    Calls Tryz.prog 164 #[.agg #[s, .int .i64 (N : Int)], .int .i64 (k : Int)] w fun e w' => e = .returned (.int .i64 ((l[k]?.getD false).toNat : Int)) ∧ Below w.heap.size w w' := by
  obtain ⟨a, len, cap, rfl, hl, h2, h3, h4, h5⟩ := hs
  have hl' : len = (l.length + 7) / 8 := by rw [hl, Bs.pack_length]
  obtain ⟨b, off, rfl, hlt, hc⟩ := h5 (by omega)
  have e := Bs.packTo_get ((l.length + 7) / 8) l (k / 8) (by omega)
  have hx := Bs.byteAt_lt l (k / 8)
  have hc' := hc (k / 8) (by omega)
  unfold Bs.pack at hc'
  rw [e] at hc'
  refine (rbit_walk b off len cap k N _ w hlt (by omega) hx hc' (by omega)).mono ?_
  rintro e w' ⟨rfl, hb⟩
  refine ⟨?_, hb⟩
  rw [Bs.testBit_byteAt]
  have h8 : k % 8 < 8 := by omega
  have h9 : 8 * (k / 8) + k % 8 = k := by omega
  rw [h9]
  simp [h8]

theorem rbit_is (s : Value) (l : List Bool) (q : Int) (k N : Nat) (b : Bool) (w : World) (hs : Sl w s (Bs.pack l)) (hq : Hid (q = (k : Int))) (hb : Hid (b = l[k]?.getD false)) (hk : k < l.length) (h8 : l.length ≤ 2251799813685248) :
    Calls Tryz.prog 164 #[.agg #[s, .int .i64 (N : Int)], .int .i64 q] w fun e w' => e = .returned (.int .i64 (b.toNat : Int)) ∧ Below w.heap.size w w' := by
  rw [hq.out, hb.out]
  exact rbit_row s l k N w hs hk h8

end Go.Proofs.YtnjlljdbghcobaaGreatDoor
