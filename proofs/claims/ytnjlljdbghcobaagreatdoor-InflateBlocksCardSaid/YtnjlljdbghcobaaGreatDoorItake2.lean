/- Contracts of match: tell, Expand. -/
import Derived.Test.YtnjlljdbghcobaaGreatDoorPut
import Derived.Test.YtnjlljdbghcobaaGreatDoorIst
import Derived.Deep.RegionLaw

namespace Go.Proofs.YtnjlljdbghcobaaGreatDoor
set_option maxRecDepth 100000
open Go.RowKit

theorem below_app {B : Nat} {w w1 w' : World} {base : Nat} {v : Value} {n : Nat} {xs : List Value} {e : TypeId} {size : Nat} (hb : Below B w w1) (ho : w1.ownsRow base e size v n xs) (hg : w1.grownBy w' v.ownBlock) (h1 : B ≤ base) (h2 : B ≤ w1.heap.size) : Below B w w' :=
  hb.grown hg h2 (fun q hq => Nat.le_trans h1 (World.ownsRow.lt ho q hq).1)

set_option maxHeartbeats 2000000 in
theorem tell_byte (base x : Nat) (v : Value) (bs : List Nat) (w : World) (ho : w.ownsRow base 5 1 v bs.length (vb bs)) (hb : base ≤ w.heap.size) (hn : bs.length ≤ 65536) :
    Calls Tryz.prog 69 #[v, .agg #[.int .i64 0, .int .i64 0, .int .u8 (x : Int)]] w fun e w' => ∃ v', e = .returned v' ∧ w'.ownsRow base 5 1 v' (bs.length + 1) (vb (bs ++ [x])) ∧ Below base w w' := by
  obtain ⟨n, hnn⟩ : ∃ n, n = bs.length := ⟨_, rfl⟩
  rw [← hnn] at ho hn ⊢
  have HO := Lib.hid ho
  have HB := Lib.hid hb
  clear ho hb hnn
  go_enter Tryz.func69, Tryz.ntmps69
  go_wp2_with fail
  refine (isByte_any 0 0 x _).mono ?_
  rintro e w1 ⟨rfl, hb1⟩
  obtain ⟨hT, hb2, _⟩ := facts1 hb1
  obtain ⟨c0, c1, c2⟩ := tk_cells hT
  have KO := Lib.hid (own_keep HO.out hb2)
  have KB := Lib.hid (hb2.mono HB.out)
  have A1 : Hid _ := KO.out.alloc (.cells #[.int .u8 (x : Int)] 5)
  have A2 : Hid ((w1.alloc (.cells #[.int .u8 (x : Int)] 5)).cell? ⟨w1.heap.size, 0, none⟩ = some (.int .u8 (x : Int))) := (Has.new w1 (.cells #[.int .u8 (x : Int)] 5)).one.1
  have A3 : Hid (base ≤ w1.heap.size) := Nat.le_trans HB.out KB.out.size
  have A4 : Hid (Below base w (w1.alloc (.cells #[.int .u8 (x : Int)] 5))) := KB.out.alloc A3.out _
  clear hb1 hT hb2
  go_wp2_with (at_builtin; (refine wpList_append_byte rfl (.tmp 7) (.tmp 10) rfl base _ n bs rfl A1.out w1.heap.size x rfl A2.out (by omega) (by have := A3.out; simp; omega) ?_; intro v' w' ho hg; have hb := Lib.hid (below_app A4.out A1.out hg.out (Nat.le_refl _) (by have := A3.out; simp; omega)); have hO := Lib.hid ho.out; clear ho hg))
  go_ret
  exact ⟨_, rfl, hO.out, hb.out⟩

/-- A cell of the call's own list. -/
theorem own_cell {w : World} {base n size : Nat} {e : TypeId} {v : Value} {xs : List Value} (h : w.ownsRow base e size v n xs) (hn : 0 < n) :
    ∃ b off cap, v = .slice (some ⟨b, off, none⟩) n cap ∧ off = 0 ∧ ∀ k, k < n * size → w.cell? ⟨b, off + k, none⟩ = xs[k]? := by
  obtain ⟨h1, h2⟩ := h
  rcases h2 with ⟨rfl, rfl⟩ | ⟨g, cap, cur, rfl, hb, hg, hc1, hc2, hc3, hc4⟩
  · omega
  · refine ⟨g, 0, cap, rfl, rfl, fun k hk => ?_⟩
    have hx : Has w g (.cells cur e (0, 0)) := hg
    rw [Nat.zero_add, hx.cell, ← hc4, List.getElem?_take_of_lt hk]
    simp
/-- A byte of the call's own row. -/
theorem own_byte {w : World} {base n : Nat} {v : Value} {bs : List Nat} (h : w.ownsRow base 5 1 v n (vb bs)) (k : Nat) (hk : k < bs.length) :
    ∃ b off cap, v = .slice (some ⟨b, off, none⟩) n cap ∧ w.cell? ⟨b, off + k, none⟩ = some (.int .u8 ((bs[k]?.getD 0 : Nat) : Int)) := by
  have hl : n = bs.length := by simpa [vb] using h.1.symm
  obtain ⟨b, off, cap, rfl, _, hc⟩ := own_cell h (by omega)
  refine ⟨b, off, cap, rfl, ?_⟩
  rw [hc k (by omega), vb_get, List.getElem?_eq_getElem hk]
  rfl

set_option maxHeartbeats 4000000 in
theorem tell_copy (base len far : Nat) (v : Value) (bs : List Nat) (w : World) (ho : w.ownsRow base 5 1 v bs.length (vb bs)) (hb : base ≤ w.heap.size) (hn : bs.length + len ≤ 65536) (h1 : 3 ≤ len) (h3 : 1 ≤ far) (h4 : far ≤ bs.length) :
    Calls Tryz.prog 69 #[v, .agg #[.int .i64 (len : Int), .int .i64 (far : Int), .int .u8 0]] w fun e w' => ∃ v', e = .returned v' ∧ w'.ownsRow base 5 1 v' (bs.length + len) (vb (If.cp far len bs)) ∧ Below base w w' := by
  obtain ⟨n, hnn⟩ : ∃ n, n = bs.length := ⟨_, rfl⟩
  rw [← hnn] at ho hn h4 ⊢
  have HO := Lib.hid ho
  have HB := Lib.hid hb
  have HN := Lib.hid hnn
  have hd : decide (len = 0 ∧ far = 0) = false := by simp; omega
  have HI := Lib.hid (fun W => isByte_any len far 0 W)
  rw [hd] at HI
  clear ho hb hnn hd
  go_enter Tryz.func69, Tryz.ntmps69
  go_wp2_with fail
  refine (HI.out _).mono ?_
  rintro e w1 ⟨rfl, hb1⟩
  obtain ⟨hT, hb2, _⟩ := facts1 hb1
  obtain ⟨c0, c1, c2⟩ := tk_cells hT
  have KO := Lib.hid (own_keep HO.out hb2)
  have KB := Lib.hid (hb2.mono HB.out)
  have KT := Lib.hid hT
  clear hb1 hT hb2 HI
  go_wp2_with fail
  go_loopw [0, 14] (fun s0 s14 wr => ∃ j : Nat, s14 = .int .i64 (j : Int) ∧ j ≤ len ∧ Hid (wr.ownsRow base 5 1 s0 (n + j) (vb (If.cp far j bs))) ∧ Hid (Below base w wr) ∧ Has wr w.heap.size (.cells #[.int .i64 (len : Int), .int .i64 (far : Int), .int .u8 0] 59 (0, 0))) (fun _ s _ => len - (intOf s).toNat)
  case atStart => exact ⟨0, rfl, Nat.zero_le _, KO, KB, KT.out⟩
  case round =>
    obtain ⟨j, rfl, hj, KO, KB, KT⟩ := hrel
    obtain ⟨c0, c1, c2⟩ := tk_cells KT
    by_cases hlt : j < len
    · have hcl : (If.cp far j bs).length = n + j := by rw [If.cp_length, HN.out]
      obtain ⟨b, off, cap, rfl, hcell⟩ := own_byte KO.out (n + j - far) (by rw [hcl]; omega)
      obtain ⟨y, hy⟩ : ∃ y, y = (If.cp far j bs)[n + j - far]?.getD 0 := ⟨_, rfl⟩
      rw [← hy] at hcell
      have hsub : IntKind.i64.wrap (((n + j : Nat) : Int) - (far : Int)) = ((n + j - far : Nat) : Int) := by rw [IntWalk.i64_in _ (by omega)]; omega
      have HE : Hid (If.cp far (j + 1) bs = If.cp far j bs ++ [y]) := by show _ = _; rw [If.cp_snoc, hcl, ← hy]
      have A1 : Hid _ := KO.out.alloc (.cells #[.int .u8 (y : Int)] 5)
      have A2 : Hid ((wr.alloc (.cells #[.int .u8 (y : Int)] 5)).cell? ⟨wr.heap.size, 0, none⟩ = some (.int .u8 (y : Int))) := (Has.new wr (.cells #[.int .u8 (y : Int)] 5)).one.1
      have A3 : Hid (base ≤ wr.heap.size) := Nat.le_trans HB.out KB.out.size
      have A4 : Hid (Below base w (wr.alloc (.cells #[.int .u8 (y : Int)] 5))) := KB.out.alloc A3.out _
      have A5 := Lib.hid (KT.alloc (.cells #[.int .u8 (y : Int)] 5))
      clear hy hcl KO KB KT
      go_wp2_with (at_builtin; (refine wpList_append_byte rfl (.tmp 16) (.tmp 25) rfl base _ (n + j) _ rfl A1.out wr.heap.size y rfl A2.out (by omega) (by have := A3.out; simp; omega) ?_; intro v' w' ho hg; have hb := Lib.hid (below_app A4.out A1.out hg.out (Nat.le_refl _) (by have := A3.out; simp; omega)); have hO := Lib.hid ho.out; have hT := Lib.hid ((hg.out.block _ A5.out.lt (own_ne_ty A1.out A5.out (by decide)).symm).trans A5.out); clear ho hg))
      go_roundw
      case rel => exact ⟨j + 1, by go_num, by omega, (by show World.ownsRow _ _ _ _ _ _ _; rw [HE.out]; exact hO.out), hb, hT.out⟩
      case measure => simp [intOf]; omega
    · obtain rfl : j = len := by omega
      go_wp2_with fail
      go_ret
      exact ⟨_, rfl, KO.out, KB.out⟩

theorem tell_any (base : Nat) (t : If.Tk) (v : Value) (bs : List Nat) (w : World) (ht : If.Val t bs.length) (ho : w.ownsRow base 5 1 v bs.length (vb bs)) (hb : base ≤ w.heap.size) (hn : bs.length + If.sz t ≤ 65536) :
    Calls Tryz.prog 69 #[v, tkv t] w fun e w' => ∃ v', e = .returned v' ∧ w'.ownsRow base 5 1 v' (If.tell1 bs t).length (vb (If.tell1 bs t)) ∧ Below base w w' := by
  obtain ⟨len, far, x⟩ := t
  rw [If.tell1_length]
  rcases ht with ⟨⟨h1, h2, h3⟩ | ⟨h1, h2, h3, h4, h5⟩, h6⟩
  · simp only at h1 h2 h3
    subst h1 h2
    have := tell_byte base x v bs w ho hb (by have := If.sz_pos ⟨0, 0, x⟩; omega)
    exact this
  · simp only at h1 h2 h3 h4 h5 h6
    subst h1
    have e1 : If.sz ⟨len, far, 0⟩ = len := by unfold If.sz; simp only; rw [if_neg (by omega)]
    have e2 : If.tell1 bs ⟨len, far, 0⟩ = If.cp far len bs := by unfold If.tell1; simp only; rw [if_neg (by omega)]
    rw [e1] at hn ⊢
    rw [e2]
    exact tell_copy base len far v bs w ho hb hn h2 h4 h6

theorem toks_sum {ts : List If.Tk} {i : Nat} {t : If.Tk} (h : ts[i]? = some t) : (If.tell (ts.take i)).length + If.sz t ≤ (If.tell ts).length := by
  have h1 := If.tell_take_succ h
  have h2 := If.tell1_length (If.tell (ts.take i)) t
  rw [← h1] at h2
  have h3 := (List.getElem?_eq_some_iff.1 h).1
  have h4 := If.tell_take_le ts (ts.length - (i + 1)) (i + 1) (by omega)
  omega

/-- A token among others, as cells. -/
theorem own_token {w : World} {base : Nat} {v : Value} {ts : List If.Tk} (h : w.ownsRow base 59 3 v ts.length (tc ts)) (i : Nat) (hi : i < ts.length) :
    ∃ b off cap, v = .slice (some ⟨b, off, none⟩) ts.length cap ∧ w.cell? ⟨b, off + i * 3, none⟩ = some (.int .i64 (ts[i].len : Int)) ∧ w.cell? ⟨b, off + i * 3 + 1, none⟩ = some (.int .i64 (ts[i].far : Int)) ∧ w.cell? ⟨b, off + i * 3 + 2, none⟩ = some (.int .u8 (ts[i].lit : Int)) := by
  obtain ⟨b, off, cap, rfl, _, hc⟩ := own_cell h (by omega)
  obtain ⟨h1, h2, h3⟩ := tc_get ts i ts[i] (List.getElem?_eq_getElem hi)
  rw [Nat.mul_comm 3 i] at h1 h2 h3
  exact ⟨b, off, cap, rfl, by rw [hc _ (by omega)]; exact h1, by rw [Nat.add_assoc, hc _ (by omega)]; exact h2, by rw [Nat.add_assoc, hc _ (by omega)]; exact h3⟩

set_option maxHeartbeats 4000000 in
theorem expand_ok (tv : Value) (ts : List If.Tk) (most : Nat) (w : World) (ho : w.ownsRow 0 59 3 tv ts.length (tc ts)) (hts : If.Toks ts) (hm : (If.tell ts).length ≤ most) (h9 : most ≤ 65536) :
    Calls Tryz.prog 32 #[tv, .int .i64 (most : Int)] w fun e w' => ∃ v', e = .returned (.tuple #[v', .int .i64 0]) ∧ w'.ownsRow w.heap.size 5 1 v' (If.tell ts).length (vb (If.tell ts)) ∧ Below w.heap.size w w' := by
  obtain ⟨a0, cap0, hv⟩ : ∃ a cap, tv = .slice a ts.length cap := by
    rcases ho.2 with ⟨rfl, h⟩ | ⟨g, cap, cur, rfl, _⟩
    · exact ⟨none, 0, by rw [h]⟩
    · exact ⟨_, _, rfl⟩
  subst hv
  have HO := Lib.hid ho
  have HT := Lib.hid (fun _ : Unit => hts)
  have HM := Lib.hid hm
  obtain ⟨n, hn⟩ : ∃ n, n = ts.length := ⟨_, rfl⟩
  have hn9 : n ≤ 65536 := by have := If.toks_length_le ts; omega
  rw [← hn] at HO ⊢
  have HN := Lib.hid hn
  clear ho hts hm hn
  go_enter Tryz.func32, Tryz.ntmps32
  go_wp2_with fail
  go_loopw [6, 18] (fun s6 s18 wr => ∃ (j q c6 : Nat) (a6 : Option Addr), s18 = .int .i64 (j : Int) ∧ j ≤ n ∧ s6 = .slice a6 q c6 ∧ Hid (Unit → q = (If.tell (ts.take j)).length) ∧ Hid (wr.ownsRow w.heap.size 5 1 (.slice a6 q c6) q (vb (If.tell (ts.take j)))) ∧ Hid (Below w.heap.size w wr)) (fun _ s _ => n - (intOf s).toNat)
  case atStart => exact ⟨0, 0, 0, none, rfl, Nat.zero_le _, rfl, fun _ => rfl, ⟨rfl, Or.inl ⟨rfl, rfl⟩⟩, Below.refl _ _⟩
  case round =>
    obtain ⟨j, q, c6, a6, rfl, hj, rfl, KQ, KO, KB⟩ := hrel
    by_cases hlt : j < n
    · have hjt : j < ts.length := by rw [← HN.out]; exact hlt
      have HO1 : wr.ownsRow 0 59 3 (.slice a0 ts.length cap0) ts.length (tc ts) := by rw [← HN.out]; exact own_keep HO.out KB.out
      obtain ⟨b, off, cap, hv, k0, k1, k2⟩ := own_token HO1 j hjt
      injection hv with hv1 hv2 hv3
      clear hv2
      subst hv1 hv3
      have hval := HT.out () j ts[j] (List.getElem?_eq_getElem hjt)
      have hsum := toks_sum (List.getElem?_eq_getElem hjt)
      have hle := HM.out
      obtain ⟨t, ht⟩ : ∃ t, t = ts[j] := ⟨_, rfl⟩
      rw [← ht] at k0 k1 k2 hval hsum
      have HE : Hid (Unit → If.tell (ts.take (j + 1)) = If.tell1 (If.tell (ts.take j)) t) := fun _ => by rw [If.tell_take_succ (List.getElem?_eq_getElem hjt), ← ht]
      obtain ⟨bs, hbs⟩ : ∃ bs, bs = If.tell (ts.take j) := ⟨_, rfl⟩
      have hq := KQ.out ()
      rw [← hbs] at KO hval hsum HE hq
      have hq1 : q + If.sz t ≤ most := by omega
      have hq2 : t.far ≤ q := by rw [hq]; exact hval.2
      have hq3 : q ≤ 65536 := by omega
      have HF := Lib.hid (fun W => fits_ok t q most W hval.1 hq2 hq1 h9)
      have HTL := Lib.hid (fun v W ho hb => tell_any w.heap.size t v bs W hval ho hb (by omega))
      have HBS := Lib.hid (fun _ : Unit => hq)
      clear KQ
      obtain ⟨len, far, x⟩ := t
      unfold tkv at HF HTL
      simp only at k0 k1 k2 HF HTL
      clear HO1 hval hsum hle ht hbs hq hq1 hq2 hjt
      go_wp2_with fail
      refine (HF.out _).mono ?_
      rintro e w1 ⟨rfl, hb1⟩
      obtain ⟨hT, hb, _⟩ := facts1 hb1
      obtain ⟨d0, d1, d2⟩ := tk_cells hT
      have KB1 := Lib.hid (KB.out.trans (hb.mono KB.out.size))
      have KO1 := Lib.hid (own_keep KO.out hb)
      clear hb1 hT hb KB KO
      go_wp2_with fail
      refine (HTL.out _ _ (by rw [← HBS.out ()]; exact KO1.out) KB1.out.size).mono ?_
      rintro e w2 ⟨v2, rfl, hO2, hB2⟩
      obtain ⟨a2, cap2, rfl⟩ := own_shape hO2
      obtain ⟨q2, hq2⟩ : ∃ q2, q2 = (If.tell1 bs ⟨len, far, x⟩).length := ⟨_, rfl⟩
      rw [← hq2] at hO2
      rw [← hq2]
      have KQ2 : Hid (Unit → q2 = (If.tell (ts.take (j + 1))).length) := fun _ => by rw [HE.out (), hq2]
      have KO2 : Hid (w2.ownsRow w.heap.size 5 1 (.slice a2 q2 cap2) q2 (vb (If.tell (ts.take (j + 1))))) := by show World.ownsRow _ _ _ _ _ _ _; rw [HE.out ()]; exact hO2
      have KB2 := Lib.hid (KB1.out.trans hB2)
      clear hO2 hB2 hq2 HE HF HTL HBS KO1 KB1
      go_wp2_with fail
      go_roundw
      case rel => exact ⟨j + 1, q2, cap2, a2, by go_num, by omega, rfl, KQ2, KO2, KB2⟩
      case measure => simp [intOf]; omega
    · obtain rfl : j = n := by omega
      have e : ts.take j = ts := List.take_of_length_le (by rw [← HN.out]; exact Nat.le_refl _)
      rw [e] at KO KQ
      clear e
      go_wp2_with fail
      go_ret2
      have hq := KQ.out ()
      exact ⟨_, rfl, by rw [← hq]; exact KO.out, KB.out⟩
end Go.Proofs.YtnjlljdbghcobaaGreatDoor

/- Contracts of inflate's reader: need, number, symbol. -/
namespace Go.Proofs.YtnjlljdbghcobaaGreatDoor
set_option maxRecDepth 100000
open Go.RowKit

set_option maxHeartbeats 1000000 in
theorem ineedInt_ok (x : Int) (w : World) : Calls Tryz.prog 115 #[.int .i64 x, .int .i64 0] w fun e w' => e = .returned (.int .i64 x) ∧ w = w' := by
  go_enter Tryz.func115, Tryz.ntmps115
  go_wp2
  go_ret
  exact ⟨rfl, rfl⟩
set_option maxHeartbeats 1000000 in
theorem ineedInt_bad (x : Int) (c : Int) (hc : c ≠ 0) (w : World) : Calls Tryz.prog 115 #[.int .i64 x, .int .i64 c] w fun e w' => e = .panicked (Pai c) ∧ w = w' := by
  have d1 : (c != 0) = true := by rw [bne_iff_ne]; exact hc
  clear hc
  go_enter Tryz.func115, Tryz.ntmps115
  go_wp2
  exact ⟨rfl, rfl, rfl⟩
set_option maxHeartbeats 1000000 in
theorem ineedTab_ok (a : Option Addr) (w : World) : Calls Tryz.prog 157 #[.pointer a, .int .i64 0] w fun e w' => e = .returned (.pointer a) ∧ w = w' := by
  go_enter Tryz.func157, Tryz.ntmps157
  go_wp2
  go_ret
  exact ⟨rfl, rfl⟩
set_option maxHeartbeats 1000000 in
theorem ineedTab_bad (a : Option Addr) (c : Int) (hc : c ≠ 0) (w : World) : Calls Tryz.prog 157 #[.pointer a, .int .i64 c] w fun e w' => e = .panicked (Pai c) ∧ w = w' := by
  have d1 : (c != 0) = true := by rw [bne_iff_ne]; exact hc
  clear hc
  go_enter Tryz.func157, Tryz.ntmps157
  go_wp2
  exact ⟨rfl, rfl, rfl⟩
set_option maxHeartbeats 1000000 in
theorem ineedBytes_ok (v : Value) (w : World) : Calls Tryz.prog 37 #[v, .int .i64 0] w fun e w' => e = .returned v ∧ w = w' := by
  go_enter Tryz.func37, Tryz.ntmps37
  go_wp2
  go_ret
  exact ⟨rfl, rfl⟩

/-- What is read of a number: its error. -/
def numE (N p n : Nat) : Int := if N < p + n then 4 else 0

set_option maxRecDepth 100000 in
set_option maxHeartbeats 2000000 in
theorem inum_ok {K : Nat → Prop} {R : Nat} {s : Value} {l : List Bool} {N most : Nat} {w : World} {r : Rv} (n : Nat) (hS : St K R s l N most w r) (hl : Hid (N = l.length)) (hN : N ≤ 2251799813685248) (hn : n ≤ 32) (hp : r.p + n ≤ N) :
    Calls Tryz.prog 73 #[.pointer (some ⟨R, 0, none⟩), .int .i64 (n : Int)] w (Out K w 0 (.int .i64 (Hd.num l r.p n : Int)) (fun w' => St K R s l N most w' { r with p := r.p + n })) := by
  obtain ⟨tv, hx, _, _⟩ := hS.has
  obtain ⟨p, ts, lv, dv⟩ := r
  obtain ⟨c0, c1, c2, _⟩ := rdi_cells hx
  simp only at c2 hp ⊢
  have HX := Lib.hid hx
  have HS := Lib.hid hS
  have B0 := Lib.hid (Below.refl w.heap.size w)
  obtain ⟨q, hq⟩ : ∃ q, q = p + n := ⟨_, rfl⟩
  have hsum : IntKind.i64.wrap ((p : Int) + (n : Int)) = (q : Int) := by rw [IntWalk.i64_in _ (by omega), hq]; norm_cast
  have HQ := Lib.hid hsum
  have hqN : q ≤ N := by omega
  obtain ⟨x, hxx⟩ : ∃ x : Nat, x = Hd.num l p n := ⟨_, rfl⟩
  have HXX := Lib.hid hxx
  have HG := Lib.hid (fun w' (hb : Below w.heap.size w w') => get_num s l N p n w' (hS.sl.later hb) hl hN hn hp x HXX)
  rw [← hxx, ← hq]
  clear hx hS hq hsum hxx
  go_enter Tryz.func73, Tryz.ntmps73
  go_wp2
  go_region_held3 (fun wx => wx.cell? ⟨R, 0, none⟩ = some s ∧ wx.cell? ⟨R, 1, none⟩ = some (.int .i64 (N : Int)) ∧ wx.cell? ⟨R, 2, none⟩ = some (.int .i64 (p : Int)) ∧ Below w.heap.size w wx) (first | exact ⟨c0, c1, c2, B0.out.drew⟩ | exact keep_rdi HX.out B0.out.drew hb1)
    (first | (go_at_call 116; refine (HG.out _ B0.out.drew).mono ?_; rintro e w1 ⟨rfl, hb1⟩) | (go_at_call 115; refine (ineedInt_ok _ _).mono ?_; rintro e w2 ⟨rfl, rfl⟩))
  all_goals
    have hb : Below w.heap.size w w1 := B0.out.drew.trans (hb1.mono (by simp))
    have hx1 := HX.out.later hb
    obtain ⟨d0, d1, d2, _⟩ := rdi_cells hx1
    have y2 := rdi_free hx1 2
    have HB := Lib.hid hb
    have hsum := HQ.out
    simp only at d2
    clear hb1 hb hx1 c0 c1 c2
    go_wp2
    go_ret
    have hS1 := HS.out.later HB.out
    exact Out.intro ((Fr.of_below HS.out.lt HB.out).trans (Fr.of_only hS1.lt hS1.ne (only_set _ R 2 _))) (hS1.at q hqN)

set_option maxRecDepth 100000 in
set_option maxHeartbeats 2000000 in
theorem inum_short {K : Nat → Prop} {R : Nat} {s : Value} {l : List Bool} {N most : Nat} {w : World} {r : Rv} (n : Nat) (hS : St K R s l N most w r) (hl : Hid (N = l.length)) (hN : N ≤ 2251799813685248) (hn : n ≤ 32) (hsh : N < r.p + n) (v : Value) (S : World → Prop) :
    Calls Tryz.prog 73 #[.pointer (some ⟨R, 0, none⟩), .int .i64 (n : Int)] w (Out K w 4 v S) := by
  obtain ⟨tv, hx, _, _⟩ := hS.has
  obtain ⟨p, ts, lv, dv⟩ := r
  have hp := hS.pn
  obtain ⟨c0, c1, c2, _⟩ := rdi_cells hx
  simp only at c2 hsh hp ⊢
  have HX := Lib.hid hx
  have HS := Lib.hid hS
  have B0 := Lib.hid (Below.refl w.heap.size w)
  have HG := Lib.hid (fun w' (hb : Below w.heap.size w w') => get_short s (Bs.pack l) N p n w' (hS.sl.later hb) (by omega) (by rw [hl.out]; exact Bs.pack_right l) hn hp (by omega))
  clear hx hS
  go_enter Tryz.func73, Tryz.ntmps73
  go_wp2
  go_region_with (first | (go_at_call 116; refine (HG.out _ B0.out.drew).mono ?_; rintro e w1 ⟨rfl, hb1⟩) | (go_at_call 115; refine (ineedInt_bad _ 4 (by decide) _).mono ?_; rintro e w2 ⟨rfl, rfl⟩; refine walk_over (w := w1) ⟨rfl, Out.fault (by decide) (Fr.of_below HS.out.lt (B0.out.drew.trans (hb1.mono (by simp))))⟩ ?_))
  all_goals trivial

theorem inum_any {K : Nat → Prop} {R : Nat} {s : Value} {l : List Bool} {N most : Nat} {w : World} {r : Rv} (n : Nat) (hS : St K R s l N most w r) (hl : Hid (N = l.length)) (hN : N ≤ 2251799813685248) (hn : n ≤ 32) :
    Calls Tryz.prog 73 #[.pointer (some ⟨R, 0, none⟩), .int .i64 (n : Int)] w (Out K w (numE N r.p n) (.int .i64 (Hd.num l r.p n : Int)) (fun w' => St K R s l N most w' { r with p := r.p + n })) := by
  unfold numE
  by_cases h : N < r.p + n
  · rw [if_pos h]; exact inum_short n hS hl hN hn h _ _
  · rw [if_neg h]; exact inum_ok n hS hl hN hn (by omega)

/-- A table of lengths at v, of blocks that are kept. -/
def TbK (K : Nat → Prop) (w : World) (v : Value) (ls : List Nat) : Prop := ∃ T g capg, v = .pointer (some ⟨T, 0, none⟩) ∧ Tb w T g capg ls ∧ Good ls ∧ K T ∧ K g
theorem TbK.fr {K : Nat → Prop} {w w' : World} {v : Value} {ls : List Nat} (h : TbK K w v ls) (hf : Fr K w w') : TbK K w' v ls := by
  obtain ⟨T, g, capg, rfl, ht, hg, k1, k2⟩ := h
  exact ⟨T, g, capg, rfl, ⟨ht.counts.same (hf.block T k1) (Nat.lt_of_lt_of_le ht.counts.lt hf.size), by rw [cell_of_heap (hf.block T k1)]; exact ht.slice, ht.cap, ht.syms.same (hf.block g k2) (Nat.lt_of_lt_of_le ht.syms.lt hf.size)⟩, hg, k1, k2⟩

set_option maxRecDepth 100000 in
set_option maxHeartbeats 4000000 in
theorem isym_any {K : Nat → Prop} {R : Nat} {s : Value} {l : List Bool} {N most : Nat} {w : World} {r : Rv} (tb : Value) (ls : List Nat) (hT : TbK K w tb ls) (hS : St K R s l N most w r) (hl : Hid (N = l.length)) (hN : N ≤ 2251799813685248)
    (y q : Nat) (c : Int) (hr : Hid (Hd.rd ls l r.p = (y, q, c))) :
    Calls Tryz.prog 193 #[.pointer (some ⟨R, 0, none⟩), tb] w (Out K w c (.int .i64 (y : Int)) (fun w' => St K R s l N most w' { r with p := q })) := by
  obtain ⟨T, g, capg, rfl, hT, hg, _, _⟩ := hT
  obtain ⟨tv, hx, _, _⟩ := hS.has
  obtain ⟨p, ts, lv, dv⟩ := r
  have hp := hS.pn
  obtain ⟨c0, c1, c2, _⟩ := rdi_cells hx
  simp only at c2 hp hr ⊢
  have hq : c = 0 → q ≤ N := fun h => by
    have := (Hd.rd_lt (by rw [← hl.out]; exact hp) hr.out).1 h
    rw [hl.out]; exact this.2.2
  have HX := Lib.hid hx
  have HS := Lib.hid hS
  have B0 := Lib.hid (Below.refl w.heap.size w)
  have HG := Lib.hid (fun w' (hb : Below w.heap.size w w') => read_rd T g capg ls hg s l N p w' (hT.below hb) (hS.sl.later hb) hl hN hp y q c hr)
  clear hx hS hT hg
  by_cases hc : c = 0
  · subst hc
    have hqN := hq rfl
    clear hq
    go_enter Tryz.func193, Tryz.ntmps193
    go_wp2
    go_region_held3 (fun wx => wx.cell? ⟨R, 0, none⟩ = some s ∧ wx.cell? ⟨R, 1, none⟩ = some (.int .i64 (N : Int)) ∧ wx.cell? ⟨R, 2, none⟩ = some (.int .i64 (p : Int)) ∧ Below w.heap.size w wx) (first | exact ⟨c0, c1, c2, B0.out.drew⟩ | exact keep_rdi HX.out B0.out.drew hb1)
      (first | (go_at_call 212; refine (HG.out _ B0.out.drew).mono ?_; rintro e w1 ⟨rfl, hb1⟩))
    all_goals
      have hb : Below w.heap.size w w1 := B0.out.drew.trans (hb1.mono (by simp))
      have hx1 := HX.out.later hb
      obtain ⟨d0, d1, d2, _⟩ := rdi_cells hx1
      have y2 := rdi_free hx1 2
      have HB := Lib.hid hb
      clear hb1 hb hx1 c0 c1 c2
      go_wp2_with fail
      refine (ineedInt_ok _ _).mono ?_
      rintro e w2 ⟨rfl, rfl⟩
      go_wp2
      go_ret
      have hS1 := HS.out.later HB.out
      exact Out.intro ((Fr.of_below HS.out.lt HB.out).trans (Fr.of_only hS1.lt hS1.ne (only_set _ R 2 _))) (hS1.at q hqN)
  · clear hq
    go_enter Tryz.func193, Tryz.ntmps193
    go_wp2
    go_region_held3 (fun wx => wx.cell? ⟨R, 0, none⟩ = some s ∧ wx.cell? ⟨R, 1, none⟩ = some (.int .i64 (N : Int)) ∧ wx.cell? ⟨R, 2, none⟩ = some (.int .i64 (p : Int)) ∧ Below w.heap.size w wx) (first | exact ⟨c0, c1, c2, B0.out.drew⟩ | exact keep_rdi HX.out B0.out.drew hb1)
      (first | (go_at_call 212; refine (HG.out _ B0.out.drew).mono ?_; rintro e w1 ⟨rfl, hb1⟩))
    all_goals
      have hb : Below w.heap.size w w1 := B0.out.drew.trans (hb1.mono (by simp))
      have HB := Lib.hid hb
      clear hb1 hb c0 c1 c2
      go_wp2_with fail
      refine (ineedInt_bad _ c hc _).mono ?_
      rintro e w2 ⟨rfl, rfl⟩
      exact ⟨rfl, Out.fault hc (Fr.of_below HS.out.lt HB.out)⟩
end Go.Proofs.YtnjlljdbghcobaaGreatDoor

/- Contracts of inflate's reader: room, take. -/
namespace Go.Proofs.YtnjlljdbghcobaaGreatDoor
set_option maxRecDepth 100000
open Go.RowKit

set_option maxHeartbeats 1000000 in
theorem room_ok {K : Nat → Prop} {R : Nat} {s : Value} {l : List Bool} {N most : Nat} {w : World} {r : Rv} (hS : St K R s l N most w r) (n : Nat) (hm : most ≤ 65536) (h : (If.tell r.ts).length + n ≤ most) :
    Calls Tryz.prog 155 #[.pointer (some ⟨R, 0, none⟩), .int .i64 (n : Int)] w fun e w' => e = .returned (.tuple #[]) ∧ ∃ m, w' = w.drewN m := by
  obtain ⟨tv, hx, _, _⟩ := hS.has
  obtain ⟨_, _, _, _, c4, c5, _⟩ := rdi_cells hx
  obtain ⟨q, hq⟩ : ∃ q, q = (If.tell r.ts).length := ⟨_, rfl⟩
  rw [← hq] at c4 h
  have hsub : IntKind.i64.wrap ((most : Int) - (q : Int)) = ((most - q : Nat) : Int) := by rw [IntWalk.i64_in _ (by omega)]; omega
  have d1 : decide (((most - q : Nat) : Int) < (n : Int)) = false := by simp; omega
  have d2 : decide (most - q < n) = false := by simp; omega
  clear hx hS hq h
  go_enter Tryz.func155, Tryz.ntmps155
  go_wp2
  go_quiet (fail)
  go_wp2
  refine ⟨rfl, .tuple #[], by simp [results, Tryz.results155, go_sem], rfl, _, rfl⟩
set_option maxHeartbeats 1000000 in
theorem room_bad {K : Nat → Prop} {R : Nat} {s : Value} {l : List Bool} {N most : Nat} {w : World} {r : Rv} (hS : St K R s l N most w r) (n : Nat) (hm : most ≤ 65536) (h : most < (If.tell r.ts).length + n) :
    Calls Tryz.prog 155 #[.pointer (some ⟨R, 0, none⟩), .int .i64 (n : Int)] w fun e w' => e = .panicked (Pai 3) ∧ ∃ m, w' = w.drewN m := by
  obtain ⟨tv, hx, _, _⟩ := hS.has
  obtain ⟨_, _, _, _, c4, c5, _⟩ := rdi_cells hx
  have hle := hS.le
  obtain ⟨q, hq⟩ : ∃ q, q = (If.tell r.ts).length := ⟨_, rfl⟩
  rw [← hq] at c4 h hle
  have hsub : IntKind.i64.wrap ((most : Int) - (q : Int)) = ((most - q : Nat) : Int) := by rw [IntWalk.i64_in _ (by omega)]; omega
  have d1 : decide (((most - q : Nat) : Int) < (n : Int)) = true := by simp; omega
  have d2 : decide (most - q < n) = true := by simp; omega
  clear hx hS hq h
  go_enter Tryz.func155, Tryz.ntmps155
  go_wp2
  go_quiet (fail)
  go_wp2
  exact ⟨rfl, rfl, _, rfl⟩

/-- What comes of a token behind n bytes. -/
def takeE (t : If.Tk) (n most : Nat) : Int := if n < t.far then 14 else if most < n + If.sz t then 3 else 0

set_option maxHeartbeats 4000000 in
theorem take_far {K : Nat → Prop} {R : Nat} {s : Value} {l : List Bool} {N most : Nat} {w : World} {r : Rv} (t : If.Tk) (hS : St K R s l N most w r) (h : (If.tell r.ts).length < t.far) (v : Value) (S : World → Prop) :
    Calls Tryz.prog 156 #[.pointer (some ⟨R, 0, none⟩), tkv t] w (Out K w 14 v S) := by
  obtain ⟨tv, hx, _, _⟩ := hS.has
  have HS := Lib.hid hS
  obtain ⟨len, far, x⟩ := t
  unfold tkv
  obtain ⟨_, _, _, _, c4, _⟩ := rdi_cells (hx.alloc (.cells #[.int .i64 (len : Int), .int .i64 (far : Int), .int .u8 (x : Int)] 59))
  obtain ⟨q, hq⟩ : ∃ q, q = (If.tell r.ts).length := ⟨_, rfl⟩
  rw [← hq] at c4 h
  simp only at h ⊢
  have d1 : decide ((q : Int) < (far : Int)) = true := by simp; omega
  have d2 : decide (q < far) = true := by simp; omega
  obtain ⟨t0, t1, t2⟩ := tk_cells (Has.new w (.cells #[.int .i64 (len : Int), .int .i64 (far : Int), .int .u8 (x : Int)] 59))
  have hRl := hx.lt
  clear hx hS hq h
  go_enter Tryz.func156, Tryz.ntmps156
  go_wp2
  go_quiet (fail)
  go_wp2
  exact ⟨rfl, Out.fault (by decide) (Fr.of_below HS.out.lt (below_drewN (below1 _ _) _))⟩

theorem Tryz.infoTok : (Tryz.prog.info? 59).map (fun i => (i.zero, i.size, i.bytes)) = some (some (.agg #[.int .i64 0, .int .i64 0, .int .u8 0]), 3, 24) := by kernel_rfl

/-- append of a token onto the reader's own list: its run. -/
theorem run_app_tok {w : World} {v : Value} {ts : List If.Tk} (t : If.Tk) (ty : TypeId) (hown : w.ownsRow 0 59 3 v ts.length (tc ts)) (g : Nat) (hx : Has w g (.cells #[.int .i64 (t.len : Int), .int .i64 (t.far : Int), .int .u8 (t.lit : Int)] 59 (0, 0))) (hn : ts.length ≤ 100000) :
    ∃ v' w', (Builtin.append_ #[46, 46] ty #[v, .slice (some ⟨g, 0, none⟩) 1 1]).run Tryz.prog w = .ok v' w' ∧ w'.ownsRow 0 59 3 v' (ts ++ [t]).length (tc (ts ++ [t])) ∧ w.grownBy w' v.ownBlock ∧ (v'.ownBlock = v.ownBlock ∨ v'.ownBlock = some w.heap.size) := by
  obtain ⟨i0, hi, hz0, hz1, hz2⟩ := info_parts Tryz.infoTok
  have hnews : ∀ (j : Nat) (u : Value), [Value.int .i64 (t.len : Int), .int .i64 (t.far : Int), .int .u8 (t.lit : Int)][j]? = some u → w.cell? ((⟨g, 0, none⟩ : Addr).add j) = some u := fun j u hj => by
    obtain ⟨c0, c1, c2⟩ := tk_cells hx
    match j, hj with
    | 0, hj => simp at hj; subst hj; simpa [Addr.add] using c0
    | 1, hj => simp at hj; subst hj; simpa [Addr.add] using c1
    | 2, hj => simp at hj; subst hj; simpa [Addr.add] using c2
  have hone : ∀ u ∈ [Value.int .i64 (t.len : Int), .int .i64 (t.far : Int), .int .u8 (t.lit : Int)], u.oneCell' = true := fun u hu => by simp at hu; rcases hu with rfl | rfl | rfl <;> rfl
  obtain ⟨v', w', h1, h2, h3, _⟩ := run_append_own (P := Tryz.prog) (w := w) 0 46 ty 59 i0 _ 3 24 Tryz.underlying46 hi hz0 hz1 hz2 rfl (by decide) v ts.length (tc ts) hown ⟨g, 0, none⟩ 1 1 [.int .i64 (t.len : Int), .int .i64 (t.far : Int), .int .u8 (t.lit : Int)] rfl hnews hone (by unfold maxLen; omega) (by omega) (Nat.zero_le _)
  refine ⟨v', w', h1, ?_, h3, ?_⟩
  · rw [tc_snoc, List.length_append]; exact h2
  · rcases hown.2 with ⟨rfl, h0⟩ | ⟨b, cap, cur, rfl, _, hg, hle, hcm, hcs, _⟩
    · have hr := run_append_nil (P := Tryz.prog) w 46 ty 59 i0 _ Tryz.underlying46 hi hz0 ⟨g, 0, none⟩ 1 1 _ (by rw [hz1]; rfl) hnews (by omega) (by omega) (by rw [hz2]; omega)
      rw [hr] at h1
      injection h1 with h1 _
      exact .inr (by rw [← h1]; rfl)
    · by_cases hroom : ts.length + 1 ≤ cap
      · have hr := run_append_room (P := Tryz.prog) w 46 ty 59 i0 Tryz.underlying46 hi b ts.length cap cur hg ⟨g, 0, none⟩ 1 1 _ (by rw [hz1]; rfl) hnews hone hroom (by rw [hz1]; simp; omega)
        rw [hr] at h1
        injection h1 with h1 _
        exact .inl (by rw [← h1]; rfl)
      · have holds : ∀ j u, (tc ts)[j]? = some u → w.cell? ((⟨b, 0, none⟩ : Addr).add j) = some u := hown.cells (g := b) rfl
        have hr := run_append_grow (P := Tryz.prog) w 46 ty 59 i0 _ Tryz.underlying46 hi hz0 ⟨b, 0, none⟩ ts.length cap (tc ts) (by rw [hz1]; exact hown.1) holds ⟨g, 0, none⟩ 1 1 _ (by rw [hz1]; rfl) hnews (by omega) (by omega) (growslice_fits (by omega) (by rw [hz2]; omega))
        rw [hr] at h1
        injection h1 with h1 _
        exact .inr (by rw [← h1]; rfl)

/-- The same in a region that draws its order. -/
theorem step_append_known {ops : Array Oper} {o : Oper} {a : Act} {w : World} {K : Act → World → Prop} {Q : Exit → Act → World → Prop} {E : Prop}
    (hg : o.guard = none) (s x : Operand) (t : TypeId) (hop : o.op = Op.call { callee := Callee.builtin Builtin.append, args := #[s, x], argTypes := #[t, t] })
    (S X v : Value) (w' : World) (hs : a.eval s = S) (hx : a.eval x = X) (hrun : (Builtin.append_ #[t, t] o.type #[S, X]).run Tryz.prog w = .ok v w') (hK : K (a.put o.dst v) w') :
    if Region.wanted o (yielded ops a.tmps) = true then Oper.wp Tryz.prog o a w K Q else E := by
  have hw : Region.wanted o (yielded ops a.tmps) = true := by simp [Region.wanted, hg]
  rw [if_pos hw]
  unfold Oper.wp
  simp [execOp, hop, resolve, invoke, builtin, hs, hx, hrun, Result.andThen]
  exact hK

/-- The reader's block behind an append onto its list. -/
theorem app_has {R : Nat} {s tv : Value} {N most : Nat} {r : Rv} {W w' : World} (o : Obj) (hx : Has W R (rdi s N most tv r)) (ho : W.ownsRow 0 59 3 tv r.ts.length (tc r.ts)) (hg : ((W.alloc o).drew).grownBy w' tv.ownBlock) : Has w' R (rdi s N most tv r) :=
  (hg.block R (by have := hx.lt; simp; omega) (fun e => tok_ne hx ho R e.symm rfl)).trans (hx.alloc o)

theorem St.app {K : Nat → Prop} {R : Nat} {s : Value} {l : List Bool} {N most : Nat} {W : World} {r : Rv} (hS : St K R s l N most W r) (t : If.Tk) (hval : If.Val t (If.tell r.ts).length) (hle : (If.tell r.ts).length + If.sz t ≤ most) (tv : Value)
    (hx : Has W R (rdi s N most tv r)) (ho : W.ownsRow 0 59 3 tv r.ts.length (tc r.ts)) (hnk : ∀ g, tv.ownBlock = some g → ¬ K g) {w' : World} {v' : Value} (o : Obj)
    (hown : w'.ownsRow 0 59 3 v' (r.ts ++ [t]).length (tc (r.ts ++ [t]))) (hg : ((W.alloc o).drew).grownBy w' tv.ownBlock) (hb : v'.ownBlock = tv.ownBlock ∨ v'.ownBlock = some ((W.alloc o).drew).heap.size) (n : Int) (hn : n = (((If.tell r.ts).length + If.sz t : Nat) : Int)) :
    St K R s l N most ((w'.setCell ⟨R, 3, none⟩ v').setCell ⟨R, 4, none⟩ (.int .i64 n)) { r with ts := r.ts ++ [t] } ∧ Fr K W ((w'.setCell ⟨R, 3, none⟩ v').setCell ⟨R, 4, none⟩ (.int .i64 n)) := by
  have hsz : ((W.alloc o).drew).heap.size = W.heap.size + 1 := by simp
  have hws := hg.size
  rw [hsz] at hws
  have F1 : Fr K W w' := ⟨hg.os, hg.tape, hg.output, by omega, fun k hk => by
    have hl := hS.lt k hk
    rw [hg.block k (by rw [hsz]; omega) (fun e => hnk k e.symm hk)]
    exact Below.heap_alloc W o k hl⟩
  have hlt' : ∀ k, K k → k < w'.heap.size := fun k hk => Nat.lt_of_lt_of_le (hS.lt k hk) (by omega)
  have F2 : Fr K w' ((w'.setCell ⟨R, 3, none⟩ v').setCell ⟨R, 4, none⟩ (.int .i64 n)) :=
    (Fr.of_only hlt' hS.ne (only_set w' R 3 v')).trans (Fr.of_only (fun k hk => by simpa using hlt' k hk) hS.ne (only_set _ R 4 _))
  have hf := F1.trans F2
  have hRl := hx.lt
  have hxw := app_has o hx ho hg
  have hne : ∀ g, v'.ownBlock = some g → g ≠ R := by
    intro g hgb
    rcases hb with h | h
    · exact tok_ne hx ho g (h ▸ hgb)
    · rw [h, hsz] at hgb
      injection hgb with hgb
      omega
  have hlen : (If.tell (r.ts ++ [t])).length = (If.tell r.ts).length + If.sz t := by rw [If.tell_snoc, If.tell1_length]
  refine ⟨⟨fun k hk => by simpa using hlt' k hk, hS.ne, sl_keep hS.sl hS.slK hf, hS.slK, glob_keep hS.gl hS.glK hf, hS.glK, hS.pn, hS.toks.snoc hval, by simp only; rw [hlen]; exact hle, v', ?_, ?_, ?_⟩, hf⟩
  · have h := (hxw.setSelf (i := 3) v').setSelf (i := 4) (.int .i64 n)
    unfold rdi at h ⊢
    simp only at h ⊢
    rw [hlen, ← hn]
    simpa using h
  · exact own_setR (own_setR hown hne) hne
  · intro g hgb
    rcases hb with h | h
    · exact hnk g (h ▸ hgb)
    · rw [h, hsz] at hgb
      injection hgb with hgb
      intro hk
      have := hS.lt g hk
      omega

set_option maxHeartbeats 4000000 in
theorem take_ok {K : Nat → Prop} {R : Nat} {s : Value} {l : List Bool} {N most : Nat} {w : World} {r : Rv} (t : If.Tk) (ht : Tv t) (hS : St K R s l N most w r) (hm : most ≤ 65536) (h1 : t.far ≤ (If.tell r.ts).length) (h2 : (If.tell r.ts).length + If.sz t ≤ most) :
    Calls Tryz.prog 156 #[.pointer (some ⟨R, 0, none⟩), tkv t] w (Out K w 0 (.tuple #[]) (fun w' => St K R s l N most w' { r with ts := r.ts ++ [t] })) := by
  have hsz := size_val t ht
  obtain ⟨z, hz⟩ : ∃ z, z = If.sz t := ⟨_, rfl⟩
  rw [← hz] at hsz h2
  have HZ := Lib.hid hz
  have HT := Lib.hid ht
  obtain ⟨len, far, x⟩ := t
  unfold tkv
  simp only at h1 hsz ⊢
  have b1 := below1 w (.cells #[.int .i64 (len : Int), .int .i64 (far : Int), .int .u8 (x : Int)] 59)
  have hS1 := hS.later b1
  have hTok := Has.new w (.cells #[.int .i64 (len : Int), .int .i64 (far : Int), .int .u8 (x : Int)] 59)
  obtain ⟨tv, hx0, ho0, hnk⟩ := hS.has
  have hx := hx0.later b1
  have ho := own_keep ho0 b1
  have HG0 : Hid (∀ g, tv.ownBlock = some g → g < w.heap.size) := fun g hg => (World.ownsRow.lt ho0 g hg).2
  obtain ⟨_, _, _, c3, c4, c5, _⟩ := rdi_cells hx
  obtain ⟨q, hq⟩ : ∃ q, q = (If.tell r.ts).length := ⟨_, rfl⟩
  rw [← hq] at c4 h1 h2
  have d1 : decide ((q : Int) < (far : Int)) = false := by simp; omega
  have d2 : decide (q < far) = false := by simp; omega
  obtain ⟨t0, t1, t2⟩ := tk_cells hTok
  have hRT : R ≠ w.heap.size := by have := hx0.lt; omega
  have HS := Lib.hid hS
  have HQ := Lib.hid hq
  have HRM := Lib.hid (fun m => room_ok (hS1.later (below_drewN (Below.refl _ _) m)) z hm (by rw [← hq]; exact h2))
  generalize hw1 : w.alloc (.cells #[.int .i64 (len : Int), .int .i64 (far : Int), .int .u8 (x : Int)] 59) = w1 at *
  have B1 := Lib.hid b1
  have HS1 := Lib.hid hS1
  have HTK := Lib.hid hTok
  have HX := Lib.hid hx
  have HO := Lib.hid ho
  have HNK := Lib.hid hnk
  have HW := Lib.hid hw1
  clear b1 hx0 ho0 hS hq hS1 hTok hx ho hnk hz ht
  go_enter Tryz.func156, Tryz.ntmps156
  go_wp2
  go_quiet (fail)
  go_wp2_with fail
  refine (HRM.out _).mono ?_
  rintro e w2 ⟨rfl, m2, rfl⟩
  have HSW := Lib.hid (HS1.out.later (below_drewN (below_drewN (Below.refl _ _) nq) m2))
  have HXW : Hid (Has ((w1.drewN nq).drewN m2) R (rdi s N most tv r)) := HX.out
  have HOW : Hid (((w1.drewN nq).drewN m2).ownsRow 0 59 3 tv r.ts.length (tc r.ts)) := HO.out
  have HTW : Hid (Has ((w1.drewN nq).drewN m2) w.heap.size (.cells #[.int .i64 (len : Int), .int .i64 (far : Int), .int .u8 (x : Int)] 59 (0, 0))) := HTK.out
  have HFW : Hid (Fr K w ((w1.drewN nq).drewN m2)) := Fr.of_below HS.out.lt (below_drewN (below_drewN B1.out nq) m2)
  generalize (w1.drewN nq).drewN m2 = W at HSW HXW HOW HTW HFW ⊢
  clear c3 c4 c5 t0 t1 t2 HS1 HTK HX HO B1 HW hw1 HRM
  obtain ⟨_, _, _, c3, c4, c5, _⟩ := rdi_cells HXW.out
  obtain ⟨t0, t1, t2⟩ := tk_cells HTW.out
  rw [← HQ.out] at c4
  have k3 := (rdi_cells (HXW.out.alloc (.cells #[.int .i64 (len : Int), .int .i64 (far : Int), .int .u8 (x : Int)] 59))).2.2.2.1
  have hnt : r.ts.length ≤ 100000 := by have := If.toks_length_le r.ts; have := HSW.out.le; omega
  obtain ⟨v2, w2, hrun, hown, hg, hb⟩ := run_app_tok (w := (W.alloc (.cells #[.int .i64 (len : Int), .int .i64 (far : Int), .int .u8 (x : Int)] 59)).drew) ⟨len, far, x⟩ 46 ((HOW.out.alloc _).drew) W.heap.size (Has.new W _) hnt
  obtain ⟨a2, n2, cap2, rfl⟩ : ∃ a n c, v2 = .slice a n c := by obtain ⟨a, c, h⟩ := own_shape hown; exact ⟨a, _, c, h⟩
  have HRUN := Lib.hid hrun
  have hx2 := app_has _ HXW.out HOW.out hg
  obtain ⟨_, _, _, e3, e4, e5, _⟩ := rdi_cells hx2
  rw [← HQ.out] at e4
  have y3 := rdi_free hx2 3
  have y4 := rdi_free hx2 4
  obtain ⟨f0, f1, f2⟩ := tk_cells ((hg.block w.heap.size (by have := HTW.out.lt; simp; omega) (fun e => Nat.lt_irrefl _ (HG0.out _ e.symm))).trans (HTW.out.alloc _))
  have HFIN := Lib.hid (fun n hn => St.app HSW.out ⟨len, far, x⟩ ⟨HT.out, by rw [← HQ.out]; exact h1⟩ (by rw [← HQ.out, ← HZ.out]; exact h2) tv HXW.out HOW.out HNK.out _ hown hg hb n hn)
  clear hrun hown hg hb hx2 hnt
  go_wp2_with fail
  go_region_law (first | (refine step_append_known rfl (.tmp 24) (.tmp 26) 46 rfl _ _ _ w2 (by simp [Act.eval]) (by simp [Act.eval]) HRUN.out ?_))
  all_goals
   have hsum : IntKind.i64.wrap ((q : Int) + (z : Int)) = ((q + z : Nat) : Int) := by rw [IntWalk.i64_in _ (by omega)]; norm_cast
   go_wp2
   have hfin := HFIN.out ((q : Int) + (z : Int)) (by rw [← HQ.out, ← HZ.out]; norm_cast)
   exact ⟨rfl, .tuple #[], by simp [results, Tryz.results156, go_sem], Out.intro (HFW.out.trans hfin.2) hfin.1⟩

set_option maxHeartbeats 4000000 in
theorem itk_large {K : Nat → Prop} {R : Nat} {s : Value} {l : List Bool} {N most : Nat} {w : World} {r : Rv} (t : If.Tk) (ht : Tv t) (hS : St K R s l N most w r) (hm : most ≤ 65536) (h1 : t.far ≤ (If.tell r.ts).length) (h2 : most < (If.tell r.ts).length + If.sz t) (v : Value) (S : World → Prop) :
    Calls Tryz.prog 156 #[.pointer (some ⟨R, 0, none⟩), tkv t] w (Out K w 3 v S) := by
  have hsz := size_val t ht
  obtain ⟨z, hz⟩ : ∃ z, z = If.sz t := ⟨_, rfl⟩
  rw [← hz] at hsz h2
  obtain ⟨len, far, x⟩ := t
  unfold tkv
  simp only at h1 hsz ⊢
  have b1 := below1 w (.cells #[.int .i64 (len : Int), .int .i64 (far : Int), .int .u8 (x : Int)] 59)
  have hS1 := hS.later b1
  have hTok := Has.new w (.cells #[.int .i64 (len : Int), .int .i64 (far : Int), .int .u8 (x : Int)] 59)
  obtain ⟨tv, hx0, _, _⟩ := hS.has
  have hx := hx0.later b1
  obtain ⟨_, _, _, c3, c4, c5, _⟩ := rdi_cells hx
  obtain ⟨q, hq⟩ : ∃ q, q = (If.tell r.ts).length := ⟨_, rfl⟩
  rw [← hq] at c4 h1 h2
  have d1 : decide ((q : Int) < (far : Int)) = false := by simp; omega
  have d2 : decide (q < far) = false := by simp; omega
  obtain ⟨t0, t1, t2⟩ := tk_cells hTok
  have hRT : R ≠ w.heap.size := by have := hx0.lt; omega
  have HS := Lib.hid hS
  have HRM := Lib.hid (fun m => room_bad (hS1.later (below_drewN (Below.refl _ _) m)) z hm (by rw [← hq]; exact h2))
  generalize hw1 : w.alloc (.cells #[.int .i64 (len : Int), .int .i64 (far : Int), .int .u8 (x : Int)] 59) = w1 at *
  have B1 := Lib.hid b1
  clear b1 hx0 hS hq hS1 hTok hx hz ht
  go_enter Tryz.func156, Tryz.ntmps156
  go_wp2
  go_quiet (fail)
  go_wp2_with fail
  refine (HRM.out _).mono ?_
  rintro e w2 ⟨rfl, m2, rfl⟩
  exact ⟨rfl, Out.fault (by decide) (Fr.of_below HS.out.lt (below_drewN (below_drewN B1.out nq) m2))⟩

theorem take_any {K : Nat → Prop} {R : Nat} {s : Value} {l : List Bool} {N most : Nat} {w : World} {r : Rv} (t : If.Tk) (ht : Tv t) (hS : St K R s l N most w r) (hm : most ≤ 65536) :
    Calls Tryz.prog 156 #[.pointer (some ⟨R, 0, none⟩), tkv t] w (Out K w (takeE t (If.tell r.ts).length most) (.tuple #[]) (fun w' => St K R s l N most w' { r with ts := r.ts ++ [t] })) := by
  unfold takeE
  by_cases h1 : (If.tell r.ts).length < t.far
  · rw [if_pos h1]; exact take_far t hS h1 _ _
  · rw [if_neg h1]
    by_cases h2 : most < (If.tell r.ts).length + If.sz t
    · rw [if_pos h2]; exact itk_large t ht hS hm (by omega) h2 _ _
    · rw [if_neg h2]; exact take_ok t ht hS hm (by omega) (by omega)
end Go.Proofs.YtnjlljdbghcobaaGreatDoor
