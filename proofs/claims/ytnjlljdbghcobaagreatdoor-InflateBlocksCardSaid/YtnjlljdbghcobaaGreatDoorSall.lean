/- Contract of (scale).symbol, for lengths and for distances. -/
import Derived.Test.YtnjlljdbghcobaaGreatDoorSnum

namespace Go.Proofs.YtnjlljdbghcobaaGreatDoor
set_option maxRecDepth 100000
open Go.RowKit

theorem i64_and_nat (a b : Nat) (ha : a < 9223372036854775808) (hb : b < 9223372036854775808) : bits .and .i64 (a : Int) (b : Int) = ((a &&& b : Nat) : Int) := by
  have hx : a &&& b < 2 ^ 63 := Nat.and_lt_two_pow _ (by omega)
  have e1 : (BitVec.ofInt 64 (a : Int)).toNat = a := by rw [BitVec.toNat_ofInt]; omega
  have e2 : (BitVec.ofInt 64 (b : Int)).toNat = b := by rw [BitVec.toNat_ofInt]; omega
  show IntKind.i64.wrap ((BitVec.ofInt 64 (a : Int) &&& BitVec.ofInt 64 (b : Int)).toNat : Int) = _
  rw [BitVec.toNat_and, e1, e2, IntKind.wrap_i64]
  omega
theorem sym_val (a p g m j k : Nat) (hk : p * g + m / 2 ^ j ≤ 1000) (ha : a ≤ 1000) (h : p * g + m / 2 ^ j = k) : wrap64 ((a : Int) + (p : Int) * (g : Int) + (m : Int) / 2 ^ j) = ((a + k : Nat) : Int) := by
  have e : (a : Int) + (p : Int) * (g : Int) + (m : Int) / 2 ^ j = ((a + (p * g + m / 2 ^ j) : Nat) : Int) := by push_cast; omega
  rw [e, h]
  unfold wrap64
  omega
theorem sym_and (m j : Nat) (hj : j ≤ 20) (hm : m ≤ 4294967295) : bits BinOp.and IntKind.i64 (m : Int) (wrap64 (wrap64 (2 ^ j) - 1)) = ((m % 2 ^ j : Nat) : Int) := by
  have h : (2 : Nat) ^ j ≤ 2 ^ 20 := Nat.pow_le_pow_right (by omega) hj
  have h0 : 0 < (2 : Nat) ^ j := Nat.pow_pos (by omega)
  have h1 := pow_is j hj
  injection h1 with _ h2
  rw [h2, show wrap64 (((2 ^ j : Nat) : Int) - 1) = ((2 ^ j - 1 : Nat) : Int) from by generalize (2 : Nat) ^ j = x at h h0; unfold wrap64; omega, i64_and_nat _ _ (by omega) (by omega), Nat.and_two_pow_sub_one_eq_mod]

/-- What a call leaves that hands back two numbers and an error. -/
def Three (x y c : Int) (w : World) (e : Ending) (w' : World) : Prop := e = .returned (.tuple #[.int .i64 x, .int .i64 y, .int .i64 c]) ∧ Below w.heap.size w w'

set_option maxHeartbeats 4000000 in
theorem lsym_loop (n : Nat) (w : World) (h3 : 3 ≤ n) (hn : n ≠ 258) (hmax : n ≤ 9223372036854775807) :
    Calls Tryz.prog 133 #[scl 257 3 4 7, .int .i64 (n : Int)] w fun e w' => (n ≤ 257 ∧ Three ((257 + Sy.lk n : Nat) : Int) ((n - Sy.at' Sy.lf (Sy.lk n) : Nat) : Int) 0 w e w') ∨ (259 ≤ n ∧ Three 0 0 2 w e w') := by
  have HL := fun w => lengths_is w
  unfold scl at HL ⊢
  have H := Lib.hid HL
  clear HL
  have x0 := fun x => (boxed_cells w 257 3 4 7 x).1
  have x1 := fun x => (boxed_cells w 257 3 4 7 x).2.1
  have x2 := fun x => (boxed_cells w 257 3 4 7 x).2.2.1
  have x3 := fun x => (boxed_cells w 257 3 4 7 x).2.2.2
  have d1 : decide ((n : Int) < 3) = false := decide_eq_false (by omega)
  have d2 : ((n : Int) == 258) = false := by rw [beq_eq_false_iff_ne]; omega
  have d3 : ((n : Int) - 3) = ((n - 3 : Nat) : Int) := by omega
  go_enter Tryz.func133, Tryz.ntmps133
  go_wp2_with fail
  refine region_made (w.heap.size + 1) (boxed w 257 3 4 7) (by kernel_rfl) (by kernel_rfl) (Below.refl _ _) ?_
  repeat (go_big_quiet_step (exact made_call _ (boxed_le _ _ _ _ _) (H.out _)))
  refine wpQuiet_nil fun x => ?_
  have HX : Hid (Bx w 257 3 4 7 x.w) := Lib.hid x.h
  go_wp2_with fail
  go_quiet (fail)
  go_wp2_with fail
  go_loopw [7, 8, 32] (fun s7 s8 s32 wr => ∃ g m : Nat, g ≤ 7 ∧ s32 = .int .i64 (g : Int) ∧ s7 = .int .i64 ((257 + 4 * g : Nat) : Int) ∧ s8 = .int .i64 (m : Int) ∧ Hid (Sy.start 3 4 g + m = n) ∧ Hid (Bx w 257 3 4 7 wr)) (fun _ _ s _ => 7 - (intOf s).toNat)
  case atStart => exact ⟨0, n - 3, by omega, rfl, by go_num, by go_num, (show 3 + (n - 3) = n by omega), HX.out.drew _⟩
  case round =>
    obtain ⟨g, m, hg, rfl, rfl, rfl, HU, HB⟩ := hrel
    obtain ⟨y0, y1, y2, y3⟩ := HB.out.cells
    have hm9 : m ≤ 9223372036854775807 := by have := HU.out; omega
    by_cases hlt : g < 7
    · have hu2 := Sy.lf_start (g + 1) (by omega)
      rw [Sy.start_succ] at hu2
      have HG := Lib.hid (fun w => beside_is g w (by omega))
      obtain ⟨j, hj⟩ : ∃ j, j = g - 1 := ⟨_, rfl⟩
      rw [← hj] at HG hu2
      obtain ⟨t, ht⟩ : ∃ t, t = 4 * 2 ^ j := ⟨_, rfl⟩
      have hts : Value.int .i64 (wrap64 (4 * 2 ^ j)) = .int .i64 (t : Int) := shl_is 4 j t (by omega) (by omega) ht
      rw [← ht] at hu2
      have hmin : min j 64 = j := by omega
      have HT := Lib.hid ht
      have HJ := Lib.hid hj
      clear ht hj
      by_cases hm : m < t
      · go_wp2_with fail
        refine (HG.out _).mono ?_
        rintro e w3 ⟨rfl, rfl⟩
        go_wp2_with fail
        go_quiet (fail)
        go_wp2_with fail
        go_ret3
        have hg := Sy.l_group n g hlt (by have := HT.out; have := HJ.out; have := HU.out; have := Sy.lf_start (g + 1) (by omega); rw [Sy.start_succ, ← HJ.out, ← HT.out] at this; omega) (by have := HU.out; omega) (by have := HU.out; rw [← HJ.out, ← HT.out]; omega)
        rw [← HJ.out, show n - Sy.start 3 4 g = m from by have := HU.out; omega] at hg
        refine .inl ⟨by have := HU.out; omega, ?_, HB.out.below.trans (below_drewN (Below.refl _ _) _)⟩
        have v1 : wrap64 (257 + 4 * (g : Int) + (m : Int) / 2 ^ j) = ((257 + Sy.lk n : Nat) : Int) := sym_val 257 4 g m j _ (by have := hg.1; have := (Sy.lk_has n h3).1; omega) (by omega) hg.1
        have v2 := sym_and m j (by have := HJ.out; omega) (by omega)
        rw [hg.2] at v2
        show Ending.returned (.tuple #[.int .i64 (wrap64 (257 + 4 * (g : Int) + (m : Int) / 2 ^ j)), .int .i64 (bits BinOp.and IntKind.i64 (m : Int) (wrap64 (wrap64 (2 ^ j) - 1))), .int .i64 0]) = _
        rw [v1, v2]
      · have d4 : ((m : Int) - (t : Int)) = ((m - t : Nat) : Int) := by omega
        go_wp2_with fail
        refine (HG.out _).mono ?_
        rintro e w3 ⟨rfl, rfl⟩
        go_wp2_with fail
        go_quiet (fail)
        go_wp2_with fail
        go_roundw
        case rel => exact ⟨g + 1, m - t, by omega, by go_num, by go_num, by go_num, (by show _ = _; have := HU.out; have := HT.out; rw [Sy.start_succ, ← HJ.out, ← HT.out]; omega), HB.out.drew _⟩
        case measure => simp [intOf]; omega
    · obtain rfl : g = 7 := by omega
      go_wp2_with fail
      go_ret3
      exact .inr ⟨by have := HU.out; rw [Sy.lf_end] at this; omega, rfl, HB.out.below⟩

set_option maxHeartbeats 4000000 in
theorem dsym_loop (n : Nat) (w : World) (h3 : 1 ≤ n) (hmax : n ≤ 9223372036854775807) :
    Calls Tryz.prog 133 #[scl 0 1 2 15, .int .i64 (n : Int)] w fun e w' => (n ≤ 32768 ∧ Three ((Sy.dk n : Nat) : Int) ((n - Sy.at' Sy.df (Sy.dk n) : Nat) : Int) 0 w e w') ∨ (32769 ≤ n ∧ Three 0 0 2 w e w') := by
  have HL := fun w => lengths_is w
  unfold scl at HL ⊢
  have H := Lib.hid HL
  clear HL
  have x0 := fun x => (boxed_cells w 0 1 2 15 x).1
  have x1 := fun x => (boxed_cells w 0 1 2 15 x).2.1
  have x2 := fun x => (boxed_cells w 0 1 2 15 x).2.2.1
  have x3 := fun x => (boxed_cells w 0 1 2 15 x).2.2.2
  have d1 : decide ((n : Int) < 1) = false := decide_eq_false (by omega)
  have d3 : ((n : Int) - 1) = ((n - 1 : Nat) : Int) := by omega
  go_enter Tryz.func133, Tryz.ntmps133
  go_wp2_with fail
  refine region_made (w.heap.size + 1) (boxed w 0 1 2 15) (by kernel_rfl) (by kernel_rfl) (Below.refl _ _) ?_
  repeat (go_big_quiet_step (exact made_call _ (boxed_le _ _ _ _ _) (H.out _)))
  refine wpQuiet_nil fun x => ?_
  have HX : Hid (Bx w 0 1 2 15 x.w) := Lib.hid x.h
  go_wp2_with fail
  go_quiet (fail)
  go_wp2_with fail
  go_loopw [7, 8, 32] (fun s7 s8 s32 wr => ∃ g m : Nat, g ≤ 15 ∧ s32 = .int .i64 (g : Int) ∧ s7 = .int .i64 ((2 * g : Nat) : Int) ∧ s8 = .int .i64 (m : Int) ∧ Hid (Sy.start 1 2 g + m = n) ∧ Hid (Bx w 0 1 2 15 wr)) (fun _ _ s _ => 15 - (intOf s).toNat)
  case atStart => exact ⟨0, n - 1, by omega, rfl, by go_num, by go_num, (show 1 + (n - 1) = n by omega), HX.out.drew _⟩
  case round =>
    obtain ⟨g, m, hg, rfl, rfl, rfl, HU, HB⟩ := hrel
    obtain ⟨y0, y1, y2, y3⟩ := HB.out.cells
    have hm9 : m ≤ 9223372036854775807 := by have := HU.out; omega
    by_cases hlt : g < 15
    · have hu2 := Sy.df_start (g + 1) (by omega)
      rw [Sy.start_succ] at hu2
      have HG := Lib.hid (fun w => beside_is g w (by omega))
      obtain ⟨j, hj⟩ : ∃ j, j = g - 1 := ⟨_, rfl⟩
      rw [← hj] at HG hu2
      obtain ⟨t, ht⟩ : ∃ t, t = 2 * 2 ^ j := ⟨_, rfl⟩
      have hts : Value.int .i64 (wrap64 (2 * 2 ^ j)) = .int .i64 (t : Int) := shl_is 2 j t (by omega) (by omega) ht
      rw [← ht] at hu2
      have hmin : min j 64 = j := by omega
      have HT := Lib.hid ht
      have HJ := Lib.hid hj
      clear ht hj
      by_cases hm : m < t
      · go_wp2_with fail
        refine (HG.out _).mono ?_
        rintro e w3 ⟨rfl, rfl⟩
        go_wp2_with fail
        go_quiet (fail)
        go_wp2_with fail
        go_ret3
        have hg := Sy.d_group n g hlt (by have := HU.out; omega) (by have := HU.out; rw [← HJ.out, ← HT.out]; omega)
        rw [← HJ.out, show n - Sy.start 1 2 g = m from by have := HU.out; omega] at hg
        refine .inl ⟨by have := HU.out; omega, ?_, HB.out.below.trans (below_drewN (Below.refl _ _) _)⟩
        have v1 : wrap64 (2 * (g : Int) + (m : Int) / 2 ^ j) = ((Sy.dk n : Nat) : Int) := by have := sym_val 0 2 g m j _ (by have := hg.1; have := (Sy.dk_has n h3).1; omega) (by omega) hg.1; simpa using this
        have v2 := sym_and m j (by have := HJ.out; omega) (by omega)
        rw [hg.2] at v2
        show Ending.returned (.tuple #[.int .i64 (wrap64 (2 * (g : Int) + (m : Int) / 2 ^ j)), .int .i64 (bits BinOp.and IntKind.i64 (m : Int) (wrap64 (wrap64 (2 ^ j) - 1))), .int .i64 0]) = _
        rw [v1, v2]
      · have d4 : ((m : Int) - (t : Int)) = ((m - t : Nat) : Int) := by omega
        go_wp2_with fail
        refine (HG.out _).mono ?_
        rintro e w3 ⟨rfl, rfl⟩
        go_wp2_with fail
        go_quiet (fail)
        go_wp2_with fail
        go_roundw
        case rel => exact ⟨g + 1, m - t, by omega, by go_num, by go_num, by go_num, (by show _ = _; have := HU.out; have := HT.out; rw [Sy.start_succ, ← HJ.out, ← HT.out]; omega), HB.out.drew _⟩
        case measure => simp [intOf]; omega
    · obtain rfl : g = 15 := by omega
      go_wp2_with fail
      go_ret3
      exact .inr ⟨by have := HU.out; rw [Sy.df_end] at this; omega, rfl, HB.out.below⟩

set_option maxHeartbeats 2000000 in
theorem lsym_less (n : Int) (w : World) (h : n < 3) : Calls Tryz.prog 133 #[scl 257 3 4 7, .int .i64 n] w (Three 0 0 2 w) := by
  have d1 : decide (n < 3) = true := decide_eq_true h
  unfold scl
  clear h
  go_enter Tryz.func133, Tryz.ntmps133
  go_wp2_with fail
  go_ret3
  exact ⟨rfl, below1 w _⟩

set_option maxHeartbeats 2000000 in
theorem dsym_less (n : Int) (w : World) (h : n < 1) : Calls Tryz.prog 133 #[scl 0 1 2 15, .int .i64 n] w (Three 0 0 2 w) := by
  have d1 : decide (n < 1) = true := decide_eq_true h
  unfold scl
  clear h
  go_enter Tryz.func133, Tryz.ntmps133
  go_wp2_with fail
  go_ret3
  exact ⟨rfl, below1 w _⟩

set_option maxHeartbeats 2000000 in
theorem lsym_most (w : World) : Calls Tryz.prog 133 #[scl 257 3 4 7, .int .i64 258] w (Three 285 0 0 w) := by
  have HL := fun w => lengths_is w
  have HE := fun w => lend_is w
  unfold scl at HL HE ⊢
  have H := Lib.hid HL
  have H2 := Lib.hid HE
  clear HL HE
  have x0 := fun x => (boxed_cells w 257 3 4 7 x).1
  have x1 := fun x => (boxed_cells w 257 3 4 7 x).2.1
  have x2 := fun x => (boxed_cells w 257 3 4 7 x).2.2.1
  have x3 := fun x => (boxed_cells w 257 3 4 7 x).2.2.2
  go_enter Tryz.func133, Tryz.ntmps133
  go_wp2_with fail
  refine region_made (w.heap.size + 1) (boxed w 257 3 4 7) (by kernel_rfl) (by kernel_rfl) (Below.refl _ _) ?_
  repeat (go_big_quiet_step (exact made_call _ (boxed_le _ _ _ _ _) (H.out _)))
  refine wpQuiet_nil fun x => ?_
  have HX : Hid (Bx w 257 3 4 7 x.w) := Lib.hid x.h
  go_wp2_with fail
  refine (H2.out _).mono ?_
  rintro e w2 ⟨rfl, hb⟩
  have HY := Lib.hid (HX.out.next hb)
  clear hb
  go_wp2_with fail
  go_ret3
  exact ⟨rfl, HY.out.below⟩
end Go.Proofs.YtnjlljdbghcobaaGreatDoor

/- Contracts of the six calls of package symbol, by plain answers. -/
namespace Go.Proofs.YtnjlljdbghcobaaGreatDoor
set_option maxRecDepth 100000
open Go.RowKit

namespace Sy
/-- The symbol of a length, the number beside it, the error. -/
def lsymA (n : Int) : Nat × Nat × Nat := if 3 ≤ n ∧ n ≤ 258 then (257 + lk n.toNat, n.toNat - at' lf (lk n.toNat), 0) else (0, 0, 2)
def dsymA (n : Int) : Nat × Nat × Nat := if 1 ≤ n ∧ n ≤ 32768 then (dk n.toNat, n.toNat - at' df (dk n.toNat), 0) else (0, 0, 2)
/-- The bits beside a symbol, the error. -/
def lbitA (s : Int) : Nat × Nat := if 257 ≤ s ∧ s ≤ 285 then (at' lb (s - 257).toNat, 0) else (0, 13)
def dbitA (s : Int) : Nat × Nat := if 0 ≤ s ∧ s ≤ 29 then (at' db s.toNat, 0) else (0, 13)
/-- The length of a symbol and a number, the error. -/
def lnumA (s v : Int) : Nat × Nat := if 257 ≤ s ∧ s ≤ 285 then (if 0 ≤ v ∧ v < (2 ^ at' lb (s - 257).toNat : Nat) then (at' lf (s - 257).toNat + v.toNat, 0) else (0, 2)) else (0, 13)
def dnumA (s v : Int) : Nat × Nat := if 0 ≤ s ∧ s ≤ 29 then (if 0 ≤ v ∧ v < (2 ^ at' db s.toNat : Nat) then (at' df s.toNat + v.toNat, 0) else (0, 2)) else (0, 13)
end Sy

theorem lsym_any (n : Int) (w : World) (hi : n ≤ 9223372036854775807) : Calls Tryz.prog 133 #[scl 257 3 4 7, .int .i64 n] w (Three (Sy.lsymA n).1 (Sy.lsymA n).2.1 (Sy.lsymA n).2.2 w) := by
  unfold Sy.lsymA
  by_cases h3 : n < 3
  · rw [if_neg (by omega)]; exact lsym_less n w h3
  · by_cases h8 : n = 258
    · subst h8; rw [if_pos (by omega)]; exact lsym_most w
    · obtain ⟨m, rfl⟩ : ∃ m : Nat, n = (m : Int) := ⟨n.toNat, by omega⟩
      refine (lsym_loop m w (by omega) (by omega) (by omega)).mono ?_
      rintro e w' (⟨h1, h2⟩ | ⟨h1, h2⟩)
      · rw [if_pos (by omega)]; exact h2
      · rw [if_neg (by omega)]; exact h2
theorem dsym_any (n : Int) (w : World) (hi : n ≤ 9223372036854775807) : Calls Tryz.prog 133 #[scl 0 1 2 15, .int .i64 n] w (Three (Sy.dsymA n).1 (Sy.dsymA n).2.1 (Sy.dsymA n).2.2 w) := by
  unfold Sy.dsymA
  by_cases h3 : n < 1
  · rw [if_neg (by omega)]; exact dsym_less n w h3
  · obtain ⟨m, rfl⟩ : ∃ m : Nat, n = (m : Int) := ⟨n.toNat, by omega⟩
    refine (dsym_loop m w (by omega) (by omega)).mono ?_
    rintro e w' (⟨h1, h2⟩ | ⟨h1, h2⟩)
    · rw [if_pos (by omega)]; exact h2
    · rw [if_neg (by omega)]; exact h2
theorem lbits_any (s : Int) (w : World) : Calls Tryz.prog 134 #[scl 257 3 4 7, .int .i64 s] w (Two (Sy.lbitA s).1 (Sy.lbitA s).2 w) := by
  unfold Sy.lbitA
  by_cases h : 257 ≤ s ∧ s ≤ 285
  · rw [if_pos h]
    by_cases h8 : s = 285
    · subst h8; exact lbits_lone w
    · obtain ⟨k, rfl⟩ : ∃ k : Nat, s = 257 + (k : Int) := ⟨(s - 257).toNat, by omega⟩
      have e : (257 + (k : Int) - 257).toNat = k := by omega
      rw [e]; exact lbits_ok k w (by omega)
  · rw [if_neg h]; exact lbits_bad s w (by omega)
theorem dbits_any (s : Int) (w : World) : Calls Tryz.prog 134 #[scl 0 1 2 15, .int .i64 s] w (Two (Sy.dbitA s).1 (Sy.dbitA s).2 w) := by
  unfold Sy.dbitA
  by_cases h : 0 ≤ s ∧ s ≤ 29
  · rw [if_pos h]
    obtain ⟨k, rfl⟩ : ∃ k : Nat, s = (k : Int) := ⟨s.toNat, by omega⟩
    have := dbits_ok k w (by omega)
    rw [Int.zero_add] at this
    exact this
  · rw [if_neg h]; exact dbits_bad s w (by omega)
theorem lnum_any (s v : Int) (w : World) : Calls Tryz.prog 229 #[scl 257 3 4 7, .int .i64 s, .int .i64 v] w (Two (Sy.lnumA s v).1 (Sy.lnumA s v).2 w) := by
  unfold Sy.lnumA
  by_cases h : 257 ≤ s ∧ s ≤ 285
  · rw [if_pos h]
    by_cases h8 : s = 285
    · subst h8
      by_cases hv : v = 0
      · subst hv; exact lnum_lone w
      · rw [if_neg (by show ¬(0 ≤ v ∧ v < ((1 : Nat) : Int)); omega)]; exact lnum_lone_arg v w hv
    · obtain ⟨k, rfl⟩ : ∃ k : Nat, s = 257 + (k : Int) := ⟨(s - 257).toNat, by omega⟩
      have e : (257 + (k : Int) - 257).toNat = k := by omega
      rw [e]
      by_cases hv : 0 ≤ v ∧ v < (2 ^ Sy.at' Sy.lb k : Nat)
      · rw [if_pos hv]
        obtain ⟨m, rfl⟩ : ∃ m : Nat, v = (m : Int) := ⟨v.toNat, by omega⟩
        exact lnum_ok k m w (by omega) (by omega)
      · rw [if_neg hv]; exact lnum_arg k v w (by omega) (by omega)
  · rw [if_neg h]; exact lnum_bad s v w (by omega)
theorem dnum_any (s v : Int) (w : World) : Calls Tryz.prog 229 #[scl 0 1 2 15, .int .i64 s, .int .i64 v] w (Two (Sy.dnumA s v).1 (Sy.dnumA s v).2 w) := by
  unfold Sy.dnumA
  by_cases h : 0 ≤ s ∧ s ≤ 29
  · rw [if_pos h]
    obtain ⟨k, rfl⟩ : ∃ k : Nat, s = (k : Int) := ⟨s.toNat, by omega⟩
    rw [Int.toNat_natCast]
    by_cases hv : 0 ≤ v ∧ v < (2 ^ Sy.at' Sy.db k : Nat)
    · rw [if_pos hv]
      obtain ⟨m, rfl⟩ : ∃ m : Nat, v = (m : Int) := ⟨v.toNat, by omega⟩
      exact dnum_ok k m w (by omega) (by omega)
    · rw [if_neg hv]; exact dnum_arg k v w (by omega) (by omega)
  · rw [if_neg h]; exact dnum_bad s v w (by omega)

set_option maxHeartbeats 2000000 in
theorem lsym_go (n : Int) (w : World) (hi : n ≤ 9223372036854775807) : Calls Tryz.prog 84 #[.int .i64 n] w (Three (Sy.lsymA n).1 (Sy.lsymA n).2.1 (Sy.lsymA n).2.2 w) := by
  have h1 := fun w => lengths_is w
  have h2 := fun w => lsym_any n w hi
  obtain ⟨a, ha⟩ : ∃ a, a = (Sy.lsymA n).1 := ⟨_, rfl⟩
  obtain ⟨b, hb⟩ : ∃ b, b = (Sy.lsymA n).2.1 := ⟨_, rfl⟩
  obtain ⟨c, hc⟩ : ∃ c, c = (Sy.lsymA n).2.2 := ⟨_, rfl⟩
  rw [← ha, ← hb, ← hc]
  simp only [← ha, ← hb, ← hc] at h2
  unfold scl at h1 h2
  have H1 := Lib.hid h1
  have H2 := Lib.hid h2
  clear h1 h2 ha hb hc
  go_enter Tryz.func84, Tryz.ntmps84
  go_wp2_with fail
  refine (H1.out _).mono ?_
  rintro e w1 ⟨rfl, hb⟩
  have B1 := Lib.hid hb
  clear hb
  go_wp2_with fail
  refine (H2.out _).mono ?_
  rintro e w2 ⟨rfl, hb⟩
  have B2 := Lib.hid (B1.out.trans (hb.mono B1.out.size))
  clear hb
  go_wp2_with fail
  go_ret3
  exact ⟨rfl, B2.out⟩

set_option maxHeartbeats 2000000 in
theorem lbit_go (s : Int) (w : World) : Calls Tryz.prog 85 #[.int .i64 s] w (Two (Sy.lbitA s).1 (Sy.lbitA s).2 w) := by
  have h1 := fun w => lengths_is w
  have h2 := fun w => lbits_any s w
  obtain ⟨a, ha⟩ : ∃ a, a = (Sy.lbitA s).1 := ⟨_, rfl⟩
  obtain ⟨b, hb⟩ : ∃ b, b = (Sy.lbitA s).2 := ⟨_, rfl⟩
  rw [← ha, ← hb]
  simp only [← ha, ← hb] at h2
  unfold scl at h1 h2
  have H1 := Lib.hid h1
  have H2 := Lib.hid h2
  clear h1 h2 ha hb
  go_enter Tryz.func85, Tryz.ntmps85
  go_wp2_with fail
  refine (H1.out _).mono ?_
  rintro e w1 ⟨rfl, hb⟩
  have B1 := Lib.hid hb
  clear hb
  go_wp2_with fail
  refine (H2.out _).mono ?_
  rintro e w2 ⟨rfl, hb⟩
  have B2 := Lib.hid (B1.out.trans (hb.mono B1.out.size))
  clear hb
  go_wp2_with fail
  go_ret2
  exact ⟨rfl, B2.out⟩

set_option maxHeartbeats 2000000 in
theorem lnum_go (s v : Int) (w : World) : Calls Tryz.prog 214 #[.int .i64 s, .int .i64 v] w (Two (Sy.lnumA s v).1 (Sy.lnumA s v).2 w) := by
  have h1 := fun w => lengths_is w
  have h2 := fun w => lnum_any s v w
  obtain ⟨a, ha⟩ : ∃ a, a = (Sy.lnumA s v).1 := ⟨_, rfl⟩
  obtain ⟨b, hb⟩ : ∃ b, b = (Sy.lnumA s v).2 := ⟨_, rfl⟩
  rw [← ha, ← hb]
  simp only [← ha, ← hb] at h2
  unfold scl at h1 h2
  have H1 := Lib.hid h1
  have H2 := Lib.hid h2
  clear h1 h2 ha hb
  go_enter Tryz.func214, Tryz.ntmps214
  go_wp2_with fail
  refine (H1.out _).mono ?_
  rintro e w1 ⟨rfl, hb⟩
  have B1 := Lib.hid hb
  clear hb
  go_wp2_with fail
  refine (H2.out _).mono ?_
  rintro e w2 ⟨rfl, hb⟩
  have B2 := Lib.hid (B1.out.trans (hb.mono B1.out.size))
  clear hb
  go_wp2_with fail
  go_ret2
  exact ⟨rfl, B2.out⟩

set_option maxHeartbeats 2000000 in
theorem dsym_go (n : Int) (w : World) (hi : n ≤ 9223372036854775807) : Calls Tryz.prog 86 #[.int .i64 n] w (Three (Sy.dsymA n).1 (Sy.dsymA n).2.1 (Sy.dsymA n).2.2 w) := by
  have h1 := fun w => distances_is w
  have h2 := fun w => dsym_any n w hi
  obtain ⟨a, ha⟩ : ∃ a, a = (Sy.dsymA n).1 := ⟨_, rfl⟩
  obtain ⟨b, hb⟩ : ∃ b, b = (Sy.dsymA n).2.1 := ⟨_, rfl⟩
  obtain ⟨c, hc⟩ : ∃ c, c = (Sy.dsymA n).2.2 := ⟨_, rfl⟩
  rw [← ha, ← hb, ← hc]
  simp only [← ha, ← hb, ← hc] at h2
  unfold scl at h1 h2
  have H1 := Lib.hid h1
  have H2 := Lib.hid h2
  clear h1 h2 ha hb hc
  go_enter Tryz.func86, Tryz.ntmps86
  go_wp2_with fail
  refine (H1.out _).mono ?_
  rintro e w1 ⟨rfl, hb⟩
  have B1 := Lib.hid hb
  clear hb
  go_wp2_with fail
  refine (H2.out _).mono ?_
  rintro e w2 ⟨rfl, hb⟩
  have B2 := Lib.hid (B1.out.trans (hb.mono B1.out.size))
  clear hb
  go_wp2_with fail
  go_ret3
  exact ⟨rfl, B2.out⟩

set_option maxHeartbeats 2000000 in
theorem dbit_go (s : Int) (w : World) : Calls Tryz.prog 87 #[.int .i64 s] w (Two (Sy.dbitA s).1 (Sy.dbitA s).2 w) := by
  have h1 := fun w => distances_is w
  have h2 := fun w => dbits_any s w
  obtain ⟨a, ha⟩ : ∃ a, a = (Sy.dbitA s).1 := ⟨_, rfl⟩
  obtain ⟨b, hb⟩ : ∃ b, b = (Sy.dbitA s).2 := ⟨_, rfl⟩
  rw [← ha, ← hb]
  simp only [← ha, ← hb] at h2
  unfold scl at h1 h2
  have H1 := Lib.hid h1
  have H2 := Lib.hid h2
  clear h1 h2 ha hb
  go_enter Tryz.func87, Tryz.ntmps87
  go_wp2_with fail
  refine (H1.out _).mono ?_
  rintro e w1 ⟨rfl, hb⟩
  have B1 := Lib.hid hb
  clear hb
  go_wp2_with fail
  refine (H2.out _).mono ?_
  rintro e w2 ⟨rfl, hb⟩
  have B2 := Lib.hid (B1.out.trans (hb.mono B1.out.size))
  clear hb
  go_wp2_with fail
  go_ret2
  exact ⟨rfl, B2.out⟩

set_option maxHeartbeats 2000000 in
theorem dnum_go (s v : Int) (w : World) : Calls Tryz.prog 215 #[.int .i64 s, .int .i64 v] w (Two (Sy.dnumA s v).1 (Sy.dnumA s v).2 w) := by
  have h1 := fun w => distances_is w
  have h2 := fun w => dnum_any s v w
  obtain ⟨a, ha⟩ : ∃ a, a = (Sy.dnumA s v).1 := ⟨_, rfl⟩
  obtain ⟨b, hb⟩ : ∃ b, b = (Sy.dnumA s v).2 := ⟨_, rfl⟩
  rw [← ha, ← hb]
  simp only [← ha, ← hb] at h2
  unfold scl at h1 h2
  have H1 := Lib.hid h1
  have H2 := Lib.hid h2
  clear h1 h2 ha hb
  go_enter Tryz.func215, Tryz.ntmps215
  go_wp2_with fail
  refine (H1.out _).mono ?_
  rintro e w1 ⟨rfl, hb⟩
  have B1 := Lib.hid hb
  clear hb
  go_wp2_with fail
  refine (H2.out _).mono ?_
  rintro e w2 ⟨rfl, hb⟩
  have B2 := Lib.hid (B1.out.trans (hb.mono B1.out.size))
  clear hb
  go_wp2_with fail
  go_ret2
  exact ⟨rfl, B2.out⟩
end Go.Proofs.YtnjlljdbghcobaaGreatDoor
