/- Contract of (scale).symbol, for lengths and for distances. -/
import Derived.Test.YtgbojpakddjhlaaGreatDoorSnum

namespace Go.Proofs.YtgbojpakddjhlaaGreatDoor
set_option maxRecDepth 100000
open Go.RowKit

theorem i64_and_nat (a b : Nat) (ha : a < 9223372036854775808) (hb : b < 9223372036854775808) : bits .and .i64 (a : Int) (b : Int) = ((a &&& b : Nat) : Int) := by
  have hx : a &&& b < 2 ^ 63 := Nat.and_lt_two_pow _ (by omega)
  have e1 : (BitVec.ofInt 64 (a : Int)).toNat = a := by rw [BitVec.toNat_ofInt]; omega
  have e2 : (BitVec.ofInt 64 (b : Int)).toNat = b := by rw [BitVec.toNat_ofInt]; omega
  show IntKind.i64.wrap ((BitVec.ofInt 64 (a : Int) &&& BitVec.ofInt 64 (b : Int)).toNat : Int) = _
  rw [BitVec.toNat_and, e1, e2, IntKind.wrap_i64]
  omega
theorem sym_val (a p g m j k : Nat) (hk : p * g + m / 2 ^ j ≤ 1000) (ha : a ≤ 1000) (h : p * g + m / 2 ^ j = k) : wrap64 ((a : Int) + (p : Int) * (g : Int) + (m : Int) / 2 ^ j) = ((a + k : Nat) : Int) := by
  have e : (a : Int) + (p : Int) * (g : Int) + (m : Int) / 2 ^ j = ((a + (p * g + m / 2 ^ j) : Nat) : Int) := by push_cast; omega
  rw [e, h]
  unfold wrap64
  omega
theorem sym_and (m j : Nat) (hj : j ≤ 20) (hm : m ≤ 4294967295) : bits BinOp.and IntKind.i64 (m : Int) (wrap64 (wrap64 (2 ^ j) - 1)) = ((m % 2 ^ j : Nat) : Int) := by
  have h : (2 : Nat) ^ j ≤ 2 ^ 20 := Nat.pow_le_pow_right (by omega) hj
  have h0 : 0 < (2 : Nat) ^ j := Nat.pow_pos (by omega)
  have h1 := pow_is j hj
  injection h1 with _ h2
  rw [h2, show wrap64 (((2 ^ j : Nat) : Int) - 1) = ((2 ^ j - 1 : Nat) : Int) from by generalize (2 : Nat) ^ j = x at h h0; unfold wrap64; omega, i64_and_nat _ _ (by omega) (by omega), Nat.and_two_pow_sub_one_eq_mod]

/-- What a call leaves that hands back two numbers and an error. -/
def Three (x y c : Int) (w : World) (e : Ending) (w' : World) : Prop := e = .returned (.tuple #[.int .i64 x, .int .i64 y, .int .i64 c]) ∧ Below w.heap.size w w'

end Go.Proofs.YtgbojpakddjhlaaGreatDoor

/- Contracts of the six calls of package symbol, by plain answers. -/
namespace Go.Proofs.YtgbojpakddjhlaaGreatDoor
set_option maxRecDepth 100000
open Go.RowKit

namespace Sy
/-- The symbol of a length, the number beside it, the error. -/
def lsymA (n : Int) : Nat × Nat × Nat := if 3 ≤ n ∧ n ≤ 258 then (257 + lk n.toNat, n.toNat - at' lf (lk n.toNat), 0) else (0, 0, 2)
def dsymA (n : Int) : Nat × Nat × Nat := if 1 ≤ n ∧ n ≤ 32768 then (dk n.toNat, n.toNat - at' df (dk n.toNat), 0) else (0, 0, 2)
/-- The bits beside a symbol, the error. -/
def lbitA (s : Int) : Nat × Nat := if 257 ≤ s ∧ s ≤ 285 then (at' lb (s - 257).toNat, 0) else (0, 13)
def dbitA (s : Int) : Nat × Nat := if 0 ≤ s ∧ s ≤ 29 then (at' db s.toNat, 0) else (0, 13)
/-- The length of a symbol and a number, the error. -/
def lnumA (s v : Int) : Nat × Nat := if 257 ≤ s ∧ s ≤ 285 then (if 0 ≤ v ∧ v < (2 ^ at' lb (s - 257).toNat : Nat) then (at' lf (s - 257).toNat + v.toNat, 0) else (0, 2)) else (0, 13)
def dnumA (s v : Int) : Nat × Nat := if 0 ≤ s ∧ s ≤ 29 then (if 0 ≤ v ∧ v < (2 ^ at' db s.toNat : Nat) then (at' df s.toNat + v.toNat, 0) else (0, 2)) else (0, 13)
end Sy

theorem lbits_any (s : Int) (w : World) : Calls Tryz.prog 131 #[scl 257 3 4 7, .int .i64 s] w (Two (Sy.lbitA s).1 (Sy.lbitA s).2 w) := by
  unfold Sy.lbitA
  by_cases h : 257 ≤ s ∧ s ≤ 285
  · rw [if_pos h]
    by_cases h8 : s = 285
    · subst h8; exact lbits_lone w
    · obtain ⟨k, rfl⟩ : ∃ k : Nat, s = 257 + (k : Int) := ⟨(s - 257).toNat, by omega⟩
      have e : (257 + (k : Int) - 257).toNat = k := by omega
      rw [e]; exact lbits_ok k w (by omega)
  · rw [if_neg h]; exact lbits_bad s w (by omega)
theorem dbits_any (s : Int) (w : World) : Calls Tryz.prog 131 #[scl 0 1 2 15, .int .i64 s] w (Two (Sy.dbitA s).1 (Sy.dbitA s).2 w) := by
  unfold Sy.dbitA
  by_cases h : 0 ≤ s ∧ s ≤ 29
  · rw [if_pos h]
    obtain ⟨k, rfl⟩ : ∃ k : Nat, s = (k : Int) := ⟨s.toNat, by omega⟩
    have := dbits_ok k w (by omega)
    rw [Int.zero_add] at this
    exact this
  · rw [if_neg h]; exact dbits_bad s w (by omega)
theorem lnum_any (s v : Int) (w : World) : Calls Tryz.prog 132 #[scl 257 3 4 7, .int .i64 s, .int .i64 v] w (Two (Sy.lnumA s v).1 (Sy.lnumA s v).2 w) := by
  unfold Sy.lnumA
  by_cases h : 257 ≤ s ∧ s ≤ 285
  · rw [if_pos h]
    by_cases h8 : s = 285
    · subst h8
      by_cases hv : v = 0
      · subst hv; exact lnum_lone w
      · rw [if_neg (by show ¬(0 ≤ v ∧ v < ((1 : Nat) : Int)); omega)]; exact lnum_lone_arg v w hv
    · obtain ⟨k, rfl⟩ : ∃ k : Nat, s = 257 + (k : Int) := ⟨(s - 257).toNat, by omega⟩
      have e : (257 + (k : Int) - 257).toNat = k := by omega
      rw [e]
      by_cases hv : 0 ≤ v ∧ v < (2 ^ Sy.at' Sy.lb k : Nat)
      · rw [if_pos hv]
        obtain ⟨m, rfl⟩ : ∃ m : Nat, v = (m : Int) := ⟨v.toNat, by omega⟩
        exact lnum_ok k m w (by omega) (by omega)
      · rw [if_neg hv]; exact lnum_arg k v w (by omega) (by omega)
  · rw [if_neg h]; exact lnum_bad s v w (by omega)
theorem dnum_any (s v : Int) (w : World) : Calls Tryz.prog 132 #[scl 0 1 2 15, .int .i64 s, .int .i64 v] w (Two (Sy.dnumA s v).1 (Sy.dnumA s v).2 w) := by
  unfold Sy.dnumA
  by_cases h : 0 ≤ s ∧ s ≤ 29
  · rw [if_pos h]
    obtain ⟨k, rfl⟩ : ∃ k : Nat, s = (k : Int) := ⟨s.toNat, by omega⟩
    rw [Int.toNat_natCast]
    by_cases hv : 0 ≤ v ∧ v < (2 ^ Sy.at' Sy.db k : Nat)
    · rw [if_pos hv]
      obtain ⟨m, rfl⟩ : ∃ m : Nat, v = (m : Int) := ⟨v.toNat, by omega⟩
      exact dnum_ok k m w (by omega) (by omega)
    · rw [if_neg hv]; exact dnum_arg k v w (by omega) (by omega)
  · rw [if_neg h]; exact dnum_bad s v w (by omega)

set_option maxHeartbeats 2000000 in
theorem lbit_go (s : Int) (w : World) : Calls Tryz.prog 111 #[.int .i64 s] w (Two (Sy.lbitA s).1 (Sy.lbitA s).2 w) := by
  have h1 := fun w => lengths_is w
  have h2 := fun w => lbits_any s w
  obtain ⟨a, ha⟩ : ∃ a, a = (Sy.lbitA s).1 := ⟨_, rfl⟩
  obtain ⟨b, hb⟩ : ∃ b, b = (Sy.lbitA s).2 := ⟨_, rfl⟩
  rw [← ha, ← hb]
  simp only [← ha, ← hb] at h2
  unfold scl at h1 h2
  have H1 := Lib.hid h1
  have H2 := Lib.hid h2
  clear h1 h2 ha hb
  go_enter Tryz.func111, Tryz.ntmps111
  go_wp2_with fail
  refine (H1.out _).mono ?_
  rintro e w1 ⟨rfl, hb⟩
  have B1 := Lib.hid hb
  clear hb
  go_wp2_with fail
  refine (H2.out _).mono ?_
  rintro e w2 ⟨rfl, hb⟩
  have B2 := Lib.hid (B1.out.trans (hb.mono B1.out.size))
  clear hb
  go_wp2_with fail
  go_ret2
  exact ⟨rfl, B2.out⟩

set_option maxHeartbeats 2000000 in
theorem lnum_go (s v : Int) (w : World) : Calls Tryz.prog 112 #[.int .i64 s, .int .i64 v] w (Two (Sy.lnumA s v).1 (Sy.lnumA s v).2 w) := by
  have h1 := fun w => lengths_is w
  have h2 := fun w => lnum_any s v w
  obtain ⟨a, ha⟩ : ∃ a, a = (Sy.lnumA s v).1 := ⟨_, rfl⟩
  obtain ⟨b, hb⟩ : ∃ b, b = (Sy.lnumA s v).2 := ⟨_, rfl⟩
  rw [← ha, ← hb]
  simp only [← ha, ← hb] at h2
  unfold scl at h1 h2
  have H1 := Lib.hid h1
  have H2 := Lib.hid h2
  clear h1 h2 ha hb
  go_enter Tryz.func112, Tryz.ntmps112
  go_wp2_with fail
  refine (H1.out _).mono ?_
  rintro e w1 ⟨rfl, hb⟩
  have B1 := Lib.hid hb
  clear hb
  go_wp2_with fail
  refine (H2.out _).mono ?_
  rintro e w2 ⟨rfl, hb⟩
  have B2 := Lib.hid (B1.out.trans (hb.mono B1.out.size))
  clear hb
  go_wp2_with fail
  go_ret2
  exact ⟨rfl, B2.out⟩

set_option maxHeartbeats 2000000 in
theorem dbit_go (s : Int) (w : World) : Calls Tryz.prog 113 #[.int .i64 s] w (Two (Sy.dbitA s).1 (Sy.dbitA s).2 w) := by
  have h1 := fun w => distances_is w
  have h2 := fun w => dbits_any s w
  obtain ⟨a, ha⟩ : ∃ a, a = (Sy.dbitA s).1 := ⟨_, rfl⟩
  obtain ⟨b, hb⟩ : ∃ b, b = (Sy.dbitA s).2 := ⟨_, rfl⟩
  rw [← ha, ← hb]
  simp only [← ha, ← hb] at h2
  unfold scl at h1 h2
  have H1 := Lib.hid h1
  have H2 := Lib.hid h2
  clear h1 h2 ha hb
  go_enter Tryz.func113, Tryz.ntmps113
  go_wp2_with fail
  refine (H1.out _).mono ?_
  rintro e w1 ⟨rfl, hb⟩
  have B1 := Lib.hid hb
  clear hb
  go_wp2_with fail
  refine (H2.out _).mono ?_
  rintro e w2 ⟨rfl, hb⟩
  have B2 := Lib.hid (B1.out.trans (hb.mono B1.out.size))
  clear hb
  go_wp2_with fail
  go_ret2
  exact ⟨rfl, B2.out⟩

set_option maxHeartbeats 2000000 in
theorem dnum_go (s v : Int) (w : World) : Calls Tryz.prog 114 #[.int .i64 s, .int .i64 v] w (Two (Sy.dnumA s v).1 (Sy.dnumA s v).2 w) := by
  have h1 := fun w => distances_is w
  have h2 := fun w => dnum_any s v w
  obtain ⟨a, ha⟩ : ∃ a, a = (Sy.dnumA s v).1 := ⟨_, rfl⟩
  obtain ⟨b, hb⟩ : ∃ b, b = (Sy.dnumA s v).2 := ⟨_, rfl⟩
  rw [← ha, ← hb]
  simp only [← ha, ← hb] at h2
  unfold scl at h1 h2
  have H1 := Lib.hid h1
  have H2 := Lib.hid h2
  clear h1 h2 ha hb
  go_enter Tryz.func114, Tryz.ntmps114
  go_wp2_with fail
  refine (H1.out _).mono ?_
  rintro e w1 ⟨rfl, hb⟩
  have B1 := Lib.hid hb
  clear hb
  go_wp2_with fail
  refine (H2.out _).mono ?_
  rintro e w2 ⟨rfl, hb⟩
  have B2 := Lib.hid (B1.out.trans (hb.mono B1.out.size))
  clear hb
  go_wp2_with fail
  go_ret2
  exact ⟨rfl, B2.out⟩
end Go.Proofs.YtgbojpakddjhlaaGreatDoor
