/- Contracts of the six calls of package symbol, by plain answers. -/
import Derived.Test.YtpcgibbmllmbgaaSsym
namespace Go.Proofs.Ytpcgibbmllmbgaa
open Go.RowKit

namespace Sy
/-- The symbol of a length, the number beside it, the error. -/
def lsymA (n : Int) : Nat × Nat × Nat := if 3 ≤ n ∧ n ≤ 258 then (257 + lk n.toNat, n.toNat - at' lf (lk n.toNat), 0) else (0, 0, 2)
def dsymA (n : Int) : Nat × Nat × Nat := if 1 ≤ n ∧ n ≤ 32768 then (dk n.toNat, n.toNat - at' df (dk n.toNat), 0) else (0, 0, 2)
/-- The bits beside a symbol, the error. -/
def lbitA (s : Int) : Nat × Nat := if 257 ≤ s ∧ s ≤ 285 then (at' lb (s - 257).toNat, 0) else (0, 13)
def dbitA (s : Int) : Nat × Nat := if 0 ≤ s ∧ s ≤ 29 then (at' db s.toNat, 0) else (0, 13)
/-- The length of a symbol and a number, the error. -/
def lnumA (s v : Int) : Nat × Nat := if 257 ≤ s ∧ s ≤ 285 then (if 0 ≤ v ∧ v < (2 ^ at' lb (s - 257).toNat : Nat) then (at' lf (s - 257).toNat + v.toNat, 0) else (0, 2)) else (0, 13)
def dnumA (s v : Int) : Nat × Nat := if 0 ≤ s ∧ s ≤ 29 then (if 0 ≤ v ∧ v < (2 ^ at' db s.toNat : Nat) then (at' df s.toNat + v.toNat, 0) else (0, 2)) else (0, 13)
end Sy

theorem lsym_any (n : Int) (w : World) (hi : n ≤ 9223372036854775807) : Calls Try.prog 24 #[scl 257 3 4 7, .int .i64 n] w (Three (Sy.lsymA n).1 (Sy.lsymA n).2.1 (Sy.lsymA n).2.2 w) := by
  unfold Sy.lsymA
  by_cases h3 : n < 3
  · rw [if_neg (by omega)]; exact lsym_less n w h3
  · by_cases h8 : n = 258
    · subst h8; rw [if_pos (by omega)]; exact lsym_most w
    · obtain ⟨m, rfl⟩ : ∃ m : Nat, n = (m : Int) := ⟨n.toNat, by omega⟩
      refine (lsym_loop m w (by omega) (by omega) (by omega)).mono ?_
      rintro e w' (⟨h1, h2⟩ | ⟨h1, h2⟩)
      · rw [if_pos (by omega)]; exact h2
      · rw [if_neg (by omega)]; exact h2
theorem dsym_any (n : Int) (w : World) (hi : n ≤ 9223372036854775807) : Calls Try.prog 24 #[scl 0 1 2 15, .int .i64 n] w (Three (Sy.dsymA n).1 (Sy.dsymA n).2.1 (Sy.dsymA n).2.2 w) := by
  unfold Sy.dsymA
  by_cases h3 : n < 1
  · rw [if_neg (by omega)]; exact dsym_less n w h3
  · obtain ⟨m, rfl⟩ : ∃ m : Nat, n = (m : Int) := ⟨n.toNat, by omega⟩
    refine (dsym_loop m w (by omega) (by omega)).mono ?_
    rintro e w' (⟨h1, h2⟩ | ⟨h1, h2⟩)
    · rw [if_pos (by omega)]; exact h2
    · rw [if_neg (by omega)]; exact h2
theorem lbits_any (s : Int) (w : World) : Calls Try.prog 29 #[scl 257 3 4 7, .int .i64 s] w (Two (Sy.lbitA s).1 (Sy.lbitA s).2 w) := by
  unfold Sy.lbitA
  by_cases h : 257 ≤ s ∧ s ≤ 285
  · rw [if_pos h]
    by_cases h8 : s = 285
    · subst h8; exact lbits_lone w
    · obtain ⟨k, rfl⟩ : ∃ k : Nat, s = 257 + (k : Int) := ⟨(s - 257).toNat, by omega⟩
      have e : (257 + (k : Int) - 257).toNat = k := by omega
      rw [e]; exact lbits_ok k w (by omega)
  · rw [if_neg h]; exact lbits_bad s w (by omega)
theorem dbits_any (s : Int) (w : World) : Calls Try.prog 29 #[scl 0 1 2 15, .int .i64 s] w (Two (Sy.dbitA s).1 (Sy.dbitA s).2 w) := by
  unfold Sy.dbitA
  by_cases h : 0 ≤ s ∧ s ≤ 29
  · rw [if_pos h]
    obtain ⟨k, rfl⟩ : ∃ k : Nat, s = (k : Int) := ⟨s.toNat, by omega⟩
    have := dbits_ok k w (by omega)
    rw [Int.zero_add] at this
    exact this
  · rw [if_neg h]; exact dbits_bad s w (by omega)
theorem lnum_any (s v : Int) (w : World) : Calls Try.prog 30 #[scl 257 3 4 7, .int .i64 s, .int .i64 v] w (Two (Sy.lnumA s v).1 (Sy.lnumA s v).2 w) := by
  unfold Sy.lnumA
  by_cases h : 257 ≤ s ∧ s ≤ 285
  · rw [if_pos h]
    by_cases h8 : s = 285
    · subst h8
      by_cases hv : v = 0
      · subst hv; exact lnum_lone w
      · rw [if_neg (by show ¬(0 ≤ v ∧ v < ((1 : Nat) : Int)); omega)]; exact lnum_lone_arg v w hv
    · obtain ⟨k, rfl⟩ : ∃ k : Nat, s = 257 + (k : Int) := ⟨(s - 257).toNat, by omega⟩
      have e : (257 + (k : Int) - 257).toNat = k := by omega
      rw [e]
      by_cases hv : 0 ≤ v ∧ v < (2 ^ Sy.at' Sy.lb k : Nat)
      · rw [if_pos hv]
        obtain ⟨m, rfl⟩ : ∃ m : Nat, v = (m : Int) := ⟨v.toNat, by omega⟩
        exact lnum_ok k m w (by omega) (by omega)
      · rw [if_neg hv]; exact lnum_arg k v w (by omega) (by omega)
  · rw [if_neg h]; exact lnum_bad s v w (by omega)
theorem dnum_any (s v : Int) (w : World) : Calls Try.prog 30 #[scl 0 1 2 15, .int .i64 s, .int .i64 v] w (Two (Sy.dnumA s v).1 (Sy.dnumA s v).2 w) := by
  unfold Sy.dnumA
  by_cases h : 0 ≤ s ∧ s ≤ 29
  · rw [if_pos h]
    obtain ⟨k, rfl⟩ : ∃ k : Nat, s = (k : Int) := ⟨s.toNat, by omega⟩
    rw [Int.toNat_natCast]
    by_cases hv : 0 ≤ v ∧ v < (2 ^ Sy.at' Sy.db k : Nat)
    · rw [if_pos hv]
      obtain ⟨m, rfl⟩ : ∃ m : Nat, v = (m : Int) := ⟨v.toNat, by omega⟩
      exact dnum_ok k m w (by omega) (by omega)
    · rw [if_neg hv]; exact dnum_arg k v w (by omega) (by omega)
  · rw [if_neg h]; exact dnum_bad s v w (by omega)

set_option maxHeartbeats 2000000 in
theorem lsym_go (n : Int) (w : World) (hi : n ≤ 9223372036854775807) : Calls Try.prog 10 #[.int .i64 n] w (Three (Sy.lsymA n).1 (Sy.lsymA n).2.1 (Sy.lsymA n).2.2 w) := by
  have h1 := fun w => lengths_is w
  have h2 := fun w => lsym_any n w hi
  obtain ⟨a, ha⟩ : ∃ a, a = (Sy.lsymA n).1 := ⟨_, rfl⟩
  obtain ⟨b, hb⟩ : ∃ b, b = (Sy.lsymA n).2.1 := ⟨_, rfl⟩
  obtain ⟨c, hc⟩ : ∃ c, c = (Sy.lsymA n).2.2 := ⟨_, rfl⟩
  rw [← ha, ← hb, ← hc]
  simp only [← ha, ← hb, ← hc] at h2
  unfold scl at h1 h2
  have H1 := Lib.hid h1
  have H2 := Lib.hid h2
  clear h1 h2 ha hb hc
  go_enter Try.func10, Try.ntmps10
  go_wp2_with fail
  refine (H1.out _).mono ?_
  rintro e w1 ⟨rfl, hb⟩
  have B1 := Lib.hid hb
  clear hb
  go_wp2_with fail
  refine (H2.out _).mono ?_
  rintro e w2 ⟨rfl, hb⟩
  have B2 := Lib.hid (B1.out.trans (hb.mono B1.out.size))
  clear hb
  go_wp2_with fail
  go_ret3
  exact ⟨rfl, B2.out⟩

set_option maxHeartbeats 2000000 in
theorem lbit_go (s : Int) (w : World) : Calls Try.prog 15 #[.int .i64 s] w (Two (Sy.lbitA s).1 (Sy.lbitA s).2 w) := by
  have h1 := fun w => lengths_is w
  have h2 := fun w => lbits_any s w
  obtain ⟨a, ha⟩ : ∃ a, a = (Sy.lbitA s).1 := ⟨_, rfl⟩
  obtain ⟨b, hb⟩ : ∃ b, b = (Sy.lbitA s).2 := ⟨_, rfl⟩
  rw [← ha, ← hb]
  simp only [← ha, ← hb] at h2
  unfold scl at h1 h2
  have H1 := Lib.hid h1
  have H2 := Lib.hid h2
  clear h1 h2 ha hb
  go_enter Try.func15, Try.ntmps15
  go_wp2_with fail
  refine (H1.out _).mono ?_
  rintro e w1 ⟨rfl, hb⟩
  have B1 := Lib.hid hb
  clear hb
  go_wp2_with fail
  refine (H2.out _).mono ?_
  rintro e w2 ⟨rfl, hb⟩
  have B2 := Lib.hid (B1.out.trans (hb.mono B1.out.size))
  clear hb
  go_wp2_with fail
  go_ret2
  exact ⟨rfl, B2.out⟩

set_option maxHeartbeats 2000000 in
theorem lnum_go (s v : Int) (w : World) : Calls Try.prog 17 #[.int .i64 s, .int .i64 v] w (Two (Sy.lnumA s v).1 (Sy.lnumA s v).2 w) := by
  have h1 := fun w => lengths_is w
  have h2 := fun w => lnum_any s v w
  obtain ⟨a, ha⟩ : ∃ a, a = (Sy.lnumA s v).1 := ⟨_, rfl⟩
  obtain ⟨b, hb⟩ : ∃ b, b = (Sy.lnumA s v).2 := ⟨_, rfl⟩
  rw [← ha, ← hb]
  simp only [← ha, ← hb] at h2
  unfold scl at h1 h2
  have H1 := Lib.hid h1
  have H2 := Lib.hid h2
  clear h1 h2 ha hb
  go_enter Try.func17, Try.ntmps17
  go_wp2_with fail
  refine (H1.out _).mono ?_
  rintro e w1 ⟨rfl, hb⟩
  have B1 := Lib.hid hb
  clear hb
  go_wp2_with fail
  refine (H2.out _).mono ?_
  rintro e w2 ⟨rfl, hb⟩
  have B2 := Lib.hid (B1.out.trans (hb.mono B1.out.size))
  clear hb
  go_wp2_with fail
  go_ret2
  exact ⟨rfl, B2.out⟩

set_option maxHeartbeats 2000000 in
theorem dsym_go (n : Int) (w : World) (hi : n ≤ 9223372036854775807) : Calls Try.prog 13 #[.int .i64 n] w (Three (Sy.dsymA n).1 (Sy.dsymA n).2.1 (Sy.dsymA n).2.2 w) := by
  have h1 := fun w => distances_is w
  have h2 := fun w => dsym_any n w hi
  obtain ⟨a, ha⟩ : ∃ a, a = (Sy.dsymA n).1 := ⟨_, rfl⟩
  obtain ⟨b, hb⟩ : ∃ b, b = (Sy.dsymA n).2.1 := ⟨_, rfl⟩
  obtain ⟨c, hc⟩ : ∃ c, c = (Sy.dsymA n).2.2 := ⟨_, rfl⟩
  rw [← ha, ← hb, ← hc]
  simp only [← ha, ← hb, ← hc] at h2
  unfold scl at h1 h2
  have H1 := Lib.hid h1
  have H2 := Lib.hid h2
  clear h1 h2 ha hb hc
  go_enter Try.func13, Try.ntmps13
  go_wp2_with fail
  refine (H1.out _).mono ?_
  rintro e w1 ⟨rfl, hb⟩
  have B1 := Lib.hid hb
  clear hb
  go_wp2_with fail
  refine (H2.out _).mono ?_
  rintro e w2 ⟨rfl, hb⟩
  have B2 := Lib.hid (B1.out.trans (hb.mono B1.out.size))
  clear hb
  go_wp2_with fail
  go_ret3
  exact ⟨rfl, B2.out⟩

set_option maxHeartbeats 2000000 in
theorem dbit_go (s : Int) (w : World) : Calls Try.prog 19 #[.int .i64 s] w (Two (Sy.dbitA s).1 (Sy.dbitA s).2 w) := by
  have h1 := fun w => distances_is w
  have h2 := fun w => dbits_any s w
  obtain ⟨a, ha⟩ : ∃ a, a = (Sy.dbitA s).1 := ⟨_, rfl⟩
  obtain ⟨b, hb⟩ : ∃ b, b = (Sy.dbitA s).2 := ⟨_, rfl⟩
  rw [← ha, ← hb]
  simp only [← ha, ← hb] at h2
  unfold scl at h1 h2
  have H1 := Lib.hid h1
  have H2 := Lib.hid h2
  clear h1 h2 ha hb
  go_enter Try.func19, Try.ntmps19
  go_wp2_with fail
  refine (H1.out _).mono ?_
  rintro e w1 ⟨rfl, hb⟩
  have B1 := Lib.hid hb
  clear hb
  go_wp2_with fail
  refine (H2.out _).mono ?_
  rintro e w2 ⟨rfl, hb⟩
  have B2 := Lib.hid (B1.out.trans (hb.mono B1.out.size))
  clear hb
  go_wp2_with fail
  go_ret2
  exact ⟨rfl, B2.out⟩

set_option maxHeartbeats 2000000 in
theorem dnum_go (s v : Int) (w : World) : Calls Try.prog 21 #[.int .i64 s, .int .i64 v] w (Two (Sy.dnumA s v).1 (Sy.dnumA s v).2 w) := by
  have h1 := fun w => distances_is w
  have h2 := fun w => dnum_any s v w
  obtain ⟨a, ha⟩ : ∃ a, a = (Sy.dnumA s v).1 := ⟨_, rfl⟩
  obtain ⟨b, hb⟩ : ∃ b, b = (Sy.dnumA s v).2 := ⟨_, rfl⟩
  rw [← ha, ← hb]
  simp only [← ha, ← hb] at h2
  unfold scl at h1 h2
  have H1 := Lib.hid h1
  have H2 := Lib.hid h2
  clear h1 h2 ha hb
  go_enter Try.func21, Try.ntmps21
  go_wp2_with fail
  refine (H1.out _).mono ?_
  rintro e w1 ⟨rfl, hb⟩
  have B1 := Lib.hid hb
  clear hb
  go_wp2_with fail
  refine (H2.out _).mono ?_
  rintro e w2 ⟨rfl, hb⟩
  have B2 := Lib.hid (B1.out.trans (hb.mono B1.out.size))
  clear hb
  go_wp2_with fail
  go_ret2
  exact ⟨rfl, B2.out⟩
end Go.Proofs.Ytpcgibbmllmbgaa
