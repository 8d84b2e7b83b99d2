/- Contracts of the document's Put, Piece and Get. -/
import Derived.Test.YthbiibinmofmfaaCmore
import Derived.Test.YthbiibinmofmfaaZpow
import Derived.Test.YthbiibinmofmfaaEnew
import Derived.Test.YthbiibinmofmfaaFget
import Derived.Lib.MinMax

namespace Go.Proofs.Ythbiibinmofmfaa
set_option maxRecDepth 100000
open Go.RowKit

theorem own_later {w w' : World} {base : Nat} {e : TypeId} {size : Nat} {v : Value} {n : Nat} {xs : List Value} (h : w.ownsRow base e size v n xs) (hb : Below w.heap.size w w') : w'.ownsRow base e size v n xs := by
  obtain ⟨h1, h2⟩ := h
  refine ⟨h1, ?_⟩
  rcases h2 with h | ⟨g, c, cur, h, hbg, hg, r⟩
  · exact Or.inl h
  · exact Or.inr ⟨g, c, cur, h, hbg, (hb.block g (lt_of_block hg)).trans hg, r⟩

theorem Mine.later {w w' : World} {B : Nat} {a : Option Addr} {n cap : Nat} {l : List Nat} (h : Mine w B a n cap l) (hb : Below w.heap.size w w') : Mine w' B a n cap l := ⟨own_later h.1 hb, h.2⟩

/-- No bytes from a place within the capacity. -/
theorem Sl.cut0 {w : World} {a : Option Addr} {len cap : Nat} {bs : List Nat} (h : Sl w (.slice a len cap) bs) (i : Nat) (_hi : i ≤ len) (_hc : cap ≠ i) :
    Sl w (.slice (Option.map (fun x => x.add i) a) 0 (cap - i)) ((bs.drop i).take 0) := by
  obtain ⟨_, _, h3⟩ := h.len
  refine ⟨_, 0, _, rfl, by simp, by omega, fun hn => ?_, by simp, fun h => absurd h (by omega)⟩
  cases a with
  | none =>
    have := h3 rfl
    omega
  | some ad => simp at hn

set_option maxHeartbeats 2000000 in
theorem rpiece_bad (a : Option Addr) (len cap : Nat) (i k : Int) (h : i < 0 ∨ (len : Int) < i ∨ k < 0) (w : World) :
    Calls Try.prog 64 #[.slice a len cap, .int .i64 i, .int .i64 k] w fun e w' => e = .returned (.tuple #[.slice none 0 0, .int .i64 2]) ∧ w = w' := by
  have hd : ((decide (i < 0) || decide ((len : Int) < i)) || decide (k < 0)) = true := by simpa [Bool.or_eq_true, or_assoc] using h
  by_cases h0 : i < 0
  · go_enter Try.func64, Try.ntmps64
    go_wp2
    go_ret2
    exact ⟨rfl, rfl⟩
  · by_cases h1 : (len : Int) < i
    · go_enter Try.func64, Try.ntmps64
      go_wp2
      go_ret2
      exact ⟨rfl, rfl⟩
    · have h2 : k < 0 := by omega
      go_enter Try.func64, Try.ntmps64
      go_wp2
      go_ret2
      exact ⟨rfl, rfl⟩

set_option maxHeartbeats 2000000 in
theorem rpiece_short (a : Option Addr) (len cap : Nat) (i k : Int) (hl : len ≤ 281474976710656) (h0 : 0 ≤ i) (h1 : i ≤ (len : Int)) (h2 : (len : Int) - i < k) (w : World) :
    Calls Try.prog 64 #[.slice a len cap, .int .i64 i, .int .i64 k] w fun e w' => e = .returned (.tuple #[.slice none 0 0, .int .i64 4]) ∧ w = w' := by
  have h3 : IntKind.i64.wrap ((len : Int) - i) = (len : Int) - i := IntWalk.i64_in _ (by omega)
  have h4 : 0 ≤ k := by omega
  go_enter Try.func64, Try.ntmps64
  go_wp2
  go_ret2
  exact ⟨rfl, rfl⟩

set_option maxHeartbeats 2000000 in
theorem rpiece_ok (a : Option Addr) (len cap : Nat) (bs : List Nat) (i k : Nat) (h : i + k ≤ len) (hc : len ≤ cap) (hk8 : k ≤ 140737488355328) (w : World) (hs : Sl w (.slice a len cap) bs) :
    Calls Try.prog 64 #[.slice a len cap, .int .i64 (i : Int), .int .i64 (k : Int)] w fun e w' => ∃ g' cap', e = .returned (.tuple #[.slice (some ⟨g', 0, none⟩) k cap', .int .i64 0]) ∧ Mine w' w.heap.size (some ⟨g', 0, none⟩) k cap' ((bs.drop i).take k) ∧ Below w.heap.size w w' := by
  have hl := hs.len.2.1
  have HS := Lib.hid hs
  clear hs
  have h0 : (0 : Int) ≤ (i : Int) := by omega
  have h1 : (i : Int) ≤ (len : Int) := by omega
  have h2 : (0 : Int) ≤ (k : Int) := by omega
  have h3 : IntKind.i64.wrap ((len : Int) - (i : Int)) = (len : Int) - (i : Int) := IntWalk.i64_in _ (by omega)
  have h4 : (k : Int) ≤ (len : Int) - (i : Int) := by omega
  have h5 : IntKind.i64.wrap ((i : Int) + (k : Int)) = (i : Int) + (k : Int) := IntWalk.i64_in _ (by omega)
  have h6 : (i : Int) ≤ (i : Int) + (k : Int) := by omega
  have h7 : (i : Int) + (k : Int) ≤ (cap : Int) := by omega
  have A1 : Hid ((w.alloc (.cells #[] 5)).ownsRow w.heap.size 5 1 (.slice (some ⟨w.heap.size, 0, none⟩) 0 0) 0 []) :=
    World.ownsRow_lit (base := w.heap.size) (e := 5) (size := 1) w #[] 0 (by simp) (by unfold maxLen; omega) rfl
  have B0 : Hid (Below w.heap.size w (w.alloc (.cells #[] 5))) := below1 w _
  by_cases hcap : cap = i
  · obtain rfl : k = 0 := by omega
    have S0 := Lib.hid (Sl.empty (w.alloc (.cells #[] 5)) a)
    go_enter Try.func64, Try.ntmps64
    go_wp2_with (at_builtin; (refine wpList_append_sl rfl (.tmp 26) (.tmp 32) rfl w.heap.size w.heap.size 0 0 [] rfl A1.out a 0 0 [] rfl S0.out (by omega) (by simp) ?_; intro g1 c1 w1 ho1 hg1; have hO1 := Lib.hid (own_app_zero ho1.out); have hB1 := Lib.hid (below_grown B0.out hg1.out (by omega) B0.out.size); clear ho1 hg1))
    go_ret2
    exact ⟨_, _, rfl, ⟨by simpa using hO1.out, by simp, by simp⟩, hB1.out⟩
  · have hk3 : i + k - i = k := by omega
    have S0 : Hid (Sl (w.alloc (.cells #[] 5)) (.slice (Option.map (fun x => x.add i) a) k (cap - i)) ((bs.drop i).take k)) := by
      by_cases hk : k = 0
      · subst hk
        exact (HS.out.later B0.out).cut0 i (by omega) hcap
      · exact (HS.out.later B0.out).cut i k h hk (cap - i)
    have HL : Hid (k = ((bs.drop i).take k).length) := by
      have := HS.out.len.1
      show k = _
      rw [List.length_take, List.length_drop]
      omega
    have H8 : Hid (∀ x ∈ (bs.drop i).take k, x < 256) := S0.out.bytes
    generalize (bs.drop i).take k = l at *
    go_enter Try.func64, Try.ntmps64
    go_wp2_with (at_builtin; (refine wpList_append_sl rfl (.tmp 26) (.tmp 32) rfl w.heap.size w.heap.size 0 0 [] rfl A1.out (Option.map (fun x => x.add i) a) k (cap - i) l (by first | rfl | simp [Act.eval, hk3]) S0.out (by omega) (by simp) ?_; intro g1 c1 w1 ho1 hg1; have hO1 := Lib.hid (own_app_zero ho1.out); have hB1 := Lib.hid (below_grown B0.out hg1.out (by omega) B0.out.size); clear ho1 hg1))
    go_ret2
    exact ⟨_, _, by simp, ⟨hO1.out, HL.out, H8.out⟩, hB1.out⟩
end Go.Proofs.Ythbiibinmofmfaa

/- Contract of the document's Get. -/
namespace Go.Proofs.Ythbiibinmofmfaa
set_option maxRecDepth 100000
open Go.RowKit

set_option maxHeartbeats 1000000 in
theorem rget_bad (a : Option Addr) (len cap k : Nat) (i : Int) (h : i < 0 ∨ (len : Int) < i) (w : World) :
    Calls Try.prog 40 #[.slice a len cap, .int .i64 i, .int .i64 (k : Int)] w fun e w' => e = .returned (.tuple #[.int .i64 0, .int .i64 2]) ∧ w = w' := by
  have H := Lib.hid h
  clear h
  go_enter Try.func40, Try.ntmps40
  go_wp2_with fail
  refine (rpiece_bad a len cap i k (H.out.elim Or.inl (fun h => Or.inr (Or.inl h))) _).mono ?_
  rintro e w2 ⟨rfl, rfl⟩
  go_wp2
  go_ret2
  exact ⟨rfl, rfl⟩

set_option maxHeartbeats 1000000 in
theorem rget_short (a : Option Addr) (len cap k : Nat) (i : Int) (hl : len ≤ 281474976710656) (h0 : 0 ≤ i) (h1 : i ≤ (len : Int)) (h2 : (len : Int) - i < (k : Int)) (w : World) :
    Calls Try.prog 40 #[.slice a len cap, .int .i64 i, .int .i64 (k : Int)] w fun e w' => e = .returned (.tuple #[.int .i64 0, .int .i64 4]) ∧ w = w' := by
  go_enter Try.func40, Try.ntmps40
  go_wp2_with fail
  refine (rpiece_short a len cap i k hl h0 h1 h2 _).mono ?_
  rintro e w2 ⟨rfl, rfl⟩
  go_wp2
  go_ret2
  exact ⟨rfl, rfl⟩

set_option maxHeartbeats 2000000 in
theorem rget2_ok (a : Option Addr) (len cap : Nat) (bs : List Nat) (i x y : Nat) (h : i + 2 ≤ len) (hc : len ≤ cap) (hx : (bs.drop i).take 2 = [x, y]) (w : World) (hs : Sl w (.slice a len cap) bs) :
    Calls Try.prog 40 #[.slice a len cap, .int .i64 (i : Int), .int .i64 2] w fun e w' => e = .returned (.tuple #[.int .i64 ((x + 256 * y : Nat) : Int), .int .i64 0]) ∧ Below w.heap.size w w' := by
  have HS := Lib.hid hs
  have HX := Lib.hid hx
  clear hs hx
  obtain ⟨v0, hv0⟩ : ∃ v : Nat, 256 * y + x = v := ⟨_, rfl⟩
  have hv : x + 256 * y = v0 := by omega
  rw [hv]
  have HV0 := Lib.hid hv0
  clear hv hv0
  go_enter Try.func40, Try.ntmps40
  go_wp2_with fail
  refine (rpiece_ok a len cap bs i 2 h hc (by omega) _ HS.out).mono ?_
  rintro e w2 ⟨g, cap2, rfl, hm, hb⟩
  have hs2 := hm.sl (by omega)
  rw [HX.out] at hs2
  have HB := Lib.hid hb
  have h8 := hs2.bytes
  obtain ⟨a'', len', cap', he, _, _, _, _, hcell⟩ := hs2
  injection he with e1 e2 e3
  subst e1 e2 e3
  obtain ⟨b, off, hbo, _, hcl⟩ := hcell (by omega)
  injection hbo with hbo
  injection hbo with hb1 hb2 hb3
  subst hb1 hb2
  have c0 : w2.cell? ⟨g, 0, none⟩ = some (.int .u8 (x : Int)) := hcl 0 (by omega)
  have c1 : w2.cell? ⟨g, 1, none⟩ = some (.int .u8 (y : Int)) := hcl 1 (by omega)
  have gx : x < 256 := h8 x (by simp)
  have gy : y < 256 := h8 y (by simp)
  have q0 := HV0.out
  have F0 : IntKind.i64.wrap (256 * (y : Int)) = 256 * (y : Int) := IntWalk.i64_in _ (by omega)
  have E0 : IntKind.i64.wrap (256 * (y : Int) + (x : Int)) = (v0 : Int) := by rw [IntWalk.i64_in _ (by omega)]; omega
  clear hm hb hcell hcl h8 q0
  go_wp2_with fail
  refine wp_loop_rounds 3 ?_
  rw [rounds_succ]
  go_wp2_with fail
  rw [rounds_succ]
  go_wp2_with fail
  rw [rounds_succ]
  go_wp2_with fail
  go_ret2
  exact ⟨rfl, HB.out⟩

set_option maxHeartbeats 2000000 in
theorem rget4_ok (a : Option Addr) (len cap : Nat) (bs : List Nat) (i x y z u : Nat) (h : i + 4 ≤ len) (hc : len ≤ cap) (hx : (bs.drop i).take 4 = [x, y, z, u]) (w : World) (hs : Sl w (.slice a len cap) bs) :
    Calls Try.prog 40 #[.slice a len cap, .int .i64 (i : Int), .int .i64 4] w fun e w' => e = .returned (.tuple #[.int .i64 ((x + 256 * y + 65536 * z + 16777216 * u : Nat) : Int), .int .i64 0]) ∧ Below w.heap.size w w' := by
  have HS := Lib.hid hs
  have HX := Lib.hid hx
  clear hs hx
  obtain ⟨v2, hv2⟩ : ∃ v : Nat, 256 * u + z = v := ⟨_, rfl⟩
  obtain ⟨v1, hv1⟩ : ∃ v : Nat, 256 * v2 + y = v := ⟨_, rfl⟩
  obtain ⟨v0, hv0⟩ : ∃ v : Nat, 256 * v1 + x = v := ⟨_, rfl⟩
  have hv : x + 256 * y + 65536 * z + 16777216 * u = v0 := by omega
  rw [hv]
  have HV0 := Lib.hid hv0
  have HV1 := Lib.hid hv1
  have HV2 := Lib.hid hv2
  clear hv hv0 hv1 hv2
  go_enter Try.func40, Try.ntmps40
  go_wp2_with fail
  refine (rpiece_ok a len cap bs i 4 h hc (by omega) _ HS.out).mono ?_
  rintro e w2 ⟨g, cap2, rfl, hm, hb⟩
  have hs2 := hm.sl (by omega)
  rw [HX.out] at hs2
  have HB := Lib.hid hb
  have h8 := hs2.bytes
  obtain ⟨a'', len', cap', he, _, _, _, _, hcell⟩ := hs2
  injection he with e1 e2 e3
  subst e1 e2 e3
  obtain ⟨b, off, hbo, _, hcl⟩ := hcell (by omega)
  injection hbo with hbo
  injection hbo with hb1 hb2 hb3
  subst hb1 hb2
  have c0 : w2.cell? ⟨g, 0, none⟩ = some (.int .u8 (x : Int)) := hcl 0 (by omega)
  have c1 : w2.cell? ⟨g, 1, none⟩ = some (.int .u8 (y : Int)) := hcl 1 (by omega)
  have c2 : w2.cell? ⟨g, 2, none⟩ = some (.int .u8 (z : Int)) := hcl 2 (by omega)
  have c3 : w2.cell? ⟨g, 3, none⟩ = some (.int .u8 (u : Int)) := hcl 3 (by omega)
  have gx : x < 256 := h8 x (by simp)
  have gy : y < 256 := h8 y (by simp)
  have gz : z < 256 := h8 z (by simp)
  have gu : u < 256 := h8 u (by simp)
  have q2 := HV2.out
  have F2 : IntKind.i64.wrap (256 * (u : Int)) = 256 * (u : Int) := IntWalk.i64_in _ (by omega)
  have E2 : IntKind.i64.wrap (256 * (u : Int) + (z : Int)) = (v2 : Int) := by rw [IntWalk.i64_in _ (by omega)]; omega
  have q1 := HV1.out
  have F1 : IntKind.i64.wrap (256 * (v2 : Int)) = 256 * (v2 : Int) := IntWalk.i64_in _ (by omega)
  have E1 : IntKind.i64.wrap (256 * (v2 : Int) + (y : Int)) = (v1 : Int) := by rw [IntWalk.i64_in _ (by omega)]; omega
  have q0 := HV0.out
  have F0 : IntKind.i64.wrap (256 * (v1 : Int)) = 256 * (v1 : Int) := IntWalk.i64_in _ (by omega)
  have E0 : IntKind.i64.wrap (256 * (v1 : Int) + (x : Int)) = (v0 : Int) := by rw [IntWalk.i64_in _ (by omega)]; omega
  clear hm hb hcell hcl h8 q0 q1 q2
  go_wp2_with fail
  refine wp_loop_rounds 5 ?_
  rw [rounds_succ]
  go_wp2_with fail
  rw [rounds_succ]
  go_wp2_with fail
  rw [rounds_succ]
  go_wp2_with fail
  rw [rounds_succ]
  go_wp2_with fail
  rw [rounds_succ]
  go_wp2_with fail
  go_ret2
  exact ⟨rfl, HB.out⟩

end Go.Proofs.Ythbiibinmofmfaa

/- Contracts of slots' small calls: share, front, Room, check, put. -/
namespace Go.Proofs.Ythbiibinmofmfaa
set_option maxRecDepth 100000
open Go.RowKit

set_option maxHeartbeats 1000000 in
theorem zshare_any (n : Nat) (h1 : 1 ≤ n) (h2 : n ≤ 8192) (w : World) : Calls Try.prog 46 #[.int .i64 (n : Int)] w fun e w' => e = .returned (.int .i64 ((Sk.share n : Nat) : Int)) ∧ w = w' := by
  have hv : ((n : Int) - 1) / 2 = ((Sk.share n : Nat) : Int) := by unfold Sk.share; omega
  have hv2 : ((n : Int) - 1).tdiv 2 = ((Sk.share n : Nat) : Int) := by rw [Int.tdiv_eq_ediv_of_nonneg (by omega)]; exact hv
  have hb : Sk.share n ≤ 8192 := by unfold Sk.share; omega
  generalize Sk.share n = q at hv hv2 hb
  go_enter Try.func46, Try.ntmps46
  go_wp2_with fail
  go_ret
  exact ⟨rfl, rfl⟩

set_option maxHeartbeats 1000000 in
theorem zfront_any (n slot : Nat) (h1 : 1 ≤ n) (h2 : n ≤ 8192) (hs : slot ≤ 1) (w : World) : Calls Try.prog 56 #[.int .i64 (n : Int), .int .i64 (slot : Int)] w fun e w' => e = .returned (.int .i64 ((Sk.front n slot : Nat) : Int)) ∧ w = w' := by
  have HS := Lib.hid (zshare_any n h1 h2)
  have hb : Sk.share n ≤ 8192 := by unfold Sk.share; omega
  have hf : 1 + (slot : Int) * ((Sk.share n : Nat) : Int) = ((Sk.front n slot : Nat) : Int) := by unfold Sk.front; push_cast; rfl
  have hf2 : Sk.front n slot ≤ 20000 := by
    unfold Sk.front
    have : slot * Sk.share n ≤ 1 * Sk.share n := Nat.mul_le_mul_right _ hs
    omega
  have hm : IntKind.i64.wrap ((slot : Int) * ((Sk.share n : Nat) : Int)) = ((Sk.front n slot : Nat) : Int) - 1 := by
    rw [IntKind.wrap_i64]; omega
  generalize Sk.front n slot = fr at hf hf2 hm
  generalize Sk.share n = q at HS hf hb hm
  clear hf
  go_enter Try.func56, Try.ntmps56
  go_wp2_with fail
  refine (HS.out w).mono ?_
  rintro e w' ⟨rfl, rfl⟩
  go_wp2_with fail
  go_ret
  exact ⟨by rw [show (1 : Int) + ((fr : Int) - 1) = (fr : Int) by omega]; rfl, rfl⟩

/-- The room of any number of sectors. -/
def Sk.roomI (n : Int) : Nat := if n < 3 ∨ 8192 < n then 0 else Sk.room n.toNat
theorem Sk.roomI_nat (n : Nat) : Sk.roomI (n : Int) = Sk.room n := by
  unfold Sk.roomI
  split
  · unfold Sk.room; rw [if_pos (by omega)]
  · rw [Int.toNat_natCast]
set_option maxHeartbeats 1000000 in
theorem zroom_any (n : Int) (w : World) : Calls Try.prog 22 #[.int .i64 n] w fun e w' => e = .returned (.int .i64 ((Sk.roomI n : Nat) : Int)) ∧ w = w' := by
  by_cases h1 : n < 3
  · have e : Sk.roomI n = 0 := by unfold Sk.roomI; rw [if_pos (Or.inl h1)]
    rw [e]
    have c1 : decide (n < 3) = true := decide_eq_true h1
    clear e h1
    go_enter Try.func22, Try.ntmps22
    go_wp2_with fail
    go_ret
    exact ⟨rfl, rfl⟩
  · by_cases h2 : 8192 < n
    · have e : Sk.roomI n = 0 := by unfold Sk.roomI; rw [if_pos (Or.inr h2)]
      rw [e]
      have c1 : decide (n < 3) = false := decide_eq_false h1
      have c2 : decide (8192 < n) = true := decide_eq_true h2
      clear e h1 h2
      go_enter Try.func22, Try.ntmps22
      go_wp2_with fail
      go_ret
      exact ⟨rfl, rfl⟩
    · obtain ⟨m, rfl⟩ : ∃ m : Nat, n = (m : Int) := ⟨n.toNat, by omega⟩
      have HS := Lib.hid (zshare_any m (by omega) (by omega))
      have hb : Sk.share m ≤ 8192 := by unfold Sk.share; omega
      have e : ((Sk.roomI (m : Int) : Nat) : Int) = min (512 * ((Sk.share m : Nat) : Int)) 1048576 := by
        rw [Sk.roomI_nat]; unfold Sk.room; rw [if_neg (by omega)]; omega
      rw [e]
      have c1 : decide ((m : Int) < 3) = false := decide_eq_false h1
      have c2 : decide (8192 < (m : Int)) = false := decide_eq_false h2
      generalize Sk.share m = q at HS hb
      clear e h1 h2
      go_enter Try.func22, Try.ntmps22
      go_wp2_with fail
      refine (HS.out w).mono ?_
      rintro e w' ⟨rfl, rfl⟩
      go_wp2_with fail
      go_ret
      exact ⟨by congr 2, rfl⟩

set_option maxHeartbeats 1000000 in
theorem check_any (w : World) (S : Nat → Prop) (b : Nat) (d : Ek.Dk) (h : Dsk w S b d) : Calls Try.prog 35 #[.pointer (some ⟨b, 0, none⟩)] w fun e w' => e = .returned (.int .i64 (if d.n < 3 then 7 else 0)) ∧ w = w' := by
  have HL := Lib.hid (len_any w S b d h)
  have h1 := h.ok.lo
  generalize d.n = n at HL h1
  clear h
  have c0 : ((n : Int) == 0) = false := by simp; omega
  by_cases h3 : n < 3
  · rw [if_pos h3]
    have c1 : decide ((n : Int) < 3) = true := decide_eq_true (by omega)
    clear h3 h1
    go_enter Try.func35, Try.ntmps35
    go_wp2_with fail
    refine HL.out.mono ?_
    rintro e w' ⟨rfl, rfl⟩
    go_wp2_with fail
    go_ret
    exact ⟨rfl, rfl⟩
  · rw [if_neg h3]
    have c1 : decide ((n : Int) < 3) = false := decide_eq_false (by omega)
    clear h3 h1
    go_enter Try.func35, Try.ntmps35
    go_wp2_with fail
    refine HL.out.mono ?_
    rintro e w' ⟨rfl, rfl⟩
    go_wp2_with fail
    go_ret
    exact ⟨rfl, rfl⟩
set_option maxHeartbeats 1000000 in
theorem nod_check {w : World} {v : Value} (h : NoD w v) : Calls Try.prog 35 #[v] w fun e w' => e = .returned (.int .i64 1) ∧ w = w' := by
  have HL := Lib.hid (nod_len h)
  clear h
  go_enter Try.func35, Try.ntmps35
  go_wp2_with fail
  refine HL.out.mono ?_
  rintro e w' ⟨rfl, rfl⟩
  go_wp2_with fail
  go_ret
  exact ⟨rfl, rfl⟩

set_option maxHeartbeats 1000000 in
theorem put_any (a : Option Addr) (len cap : Nat) (bs : List Nat) (n : Nat) (hn : n < 4294967296) (hc : len ≤ cap) (hl : len ≤ 1000) (w : World) (hs : Sl w (.slice a len cap) bs) :
    Calls Try.prog 70 #[.slice a len cap, .int .i64 (n : Int)] w fun e w' => ∃ a' cap', e = .returned (.slice a' (len + 4) cap') ∧ Mine w' w.heap.size a' (len + 4) cap' (bs ++ Sk.le4 n) ∧ Below w.heap.size w w' := by
  have HP := Lib.hid (put4_ok a len cap bs n hn hc (by omega) w hs)
  have H9 : Hid (Sk.le4 n = [n / 1 % 256, n / 256 % 256, n / 65536 % 256, n / 16777216 % 256]) := rfl
  rw [H9.out]
  clear hs H9
  go_enter Try.func70, Try.ntmps70
  go_wp2_with fail
  refine HP.out.mono ?_
  clear HP
  rintro e w' ⟨a', cap', rfl, hm, hb⟩
  have HM := Lib.hid hm
  have HB := Lib.hid hb
  clear hm hb
  go_wp2_with fail
  go_ret
  exact ⟨a', cap', rfl, HM.out, HB.out⟩
end Go.Proofs.Ythbiibinmofmfaa
