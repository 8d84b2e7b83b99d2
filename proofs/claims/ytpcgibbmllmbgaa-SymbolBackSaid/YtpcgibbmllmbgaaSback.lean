/- Plain facts on lengths and distances that come back, and rise. -/
import Derived.Test.YtpcgibbmllmbgaaSlives
namespace Go.Proofs.Ytpcgibbmllmbgaa
namespace Sy

theorem l_fits (n : Nat) (h : 3 ≤ n) (h2 : n ≤ 258) : n - at' lf (lk n) < 2 ^ at' lb (lk n) := by
  obtain ⟨h3, h4, h5⟩ := lk_has n h
  generalize lk n = k at h3 h4 h5
  rcases Nat.lt_or_ge k 27 with h6 | h6
  · have := lf_next k h6
    have := h5 (by omega)
    omega
  · rcases Nat.lt_or_ge k 28 with h7 | h7
    · obtain rfl : k = 27 := by omega
      have := h5 h7
      have e1 : at' lf 27 = 227 := by decide
      have e2 : at' lb 27 = 5 := by decide
      have e3 : at' lf (27 + 1) = 258 := by decide
      rw [e1, e2]; omega
    · obtain rfl : k = 28 := by omega
      have e1 : at' lf 28 = 258 := by decide
      have e2 : at' lb 28 = 0 := by decide
      rw [e1, e2]; omega
theorem d_fits (n : Nat) (h : 1 ≤ n) (h2 : n ≤ 32768) : n - at' df (dk n) < 2 ^ at' db (dk n) := by
  obtain ⟨h3, h4, h5⟩ := dk_has n h
  generalize dk n = k at h3 h4 h5
  rcases Nat.lt_or_ge k 29 with h6 | h6
  · have := df_next k h6
    have := h5 h6
    omega
  · obtain rfl : k = 29 := by omega
    have e1 : at' df 29 = 24577 := by decide
    have e2 : at' db 29 = 13 := by decide
    rw [e1, e2]; omega

theorem l_back (n : Int) (h : 3 ≤ n) (h2 : n ≤ 258) : ∃ k d : Nat, k ≤ 28 ∧ d ≤ 258 ∧ lsymA n = (257 + k, d, 0) ∧ (((lnumA ((257 + k : Nat) : Int) (d : Int)).1 : Nat) : Int) = n ∧ (lnumA ((257 + k : Nat) : Int) (d : Int)).2 = 0 := by
  obtain ⟨m, rfl⟩ : ∃ m : Nat, n = (m : Int) := ⟨n.toNat, by omega⟩
  have h3 := lk_has m (by omega)
  have h4 := l_fits m (by omega) (by omega)
  refine ⟨lk m, m - at' lf (lk m), h3.1, by omega, ?_, ?_⟩
  · unfold lsymA; rw [if_pos (by omega), Int.toNat_natCast]
  · unfold lnumA
    rw [if_pos (by omega), show (((257 + lk m : Nat) : Int) - 257).toNat = lk m from by omega, if_pos (by omega), Int.toNat_natCast]
    exact ⟨by show ((at' lf (lk m) + (m - at' lf (lk m)) : Nat) : Int) = _; omega, rfl⟩
theorem d_back (n : Int) (h : 1 ≤ n) (h2 : n ≤ 32768) : ∃ k d : Nat, k ≤ 29 ∧ d ≤ 32768 ∧ dsymA n = (k, d, 0) ∧ (((dnumA (k : Int) (d : Int)).1 : Nat) : Int) = n ∧ (dnumA (k : Int) (d : Int)).2 = 0 := by
  obtain ⟨m, rfl⟩ : ∃ m : Nat, n = (m : Int) := ⟨n.toNat, by omega⟩
  have h3 := dk_has m (by omega)
  have h4 := d_fits m (by omega) (by omega)
  refine ⟨dk m, m - at' df (dk m), h3.1, by omega, ?_, ?_⟩
  · unfold dsymA; rw [if_pos (by omega), Int.toNat_natCast]
  · unfold dnumA
    rw [if_pos (by omega), Int.toNat_natCast, if_pos (by omega), Int.toNat_natCast]
    exact ⟨by show ((at' df (dk m) + (m - at' df (dk m)) : Nat) : Int) = _; omega, rfl⟩
theorem d_none (n : Int) (h : n < 1 ∨ 32768 < n) : dsymA n = (0, 0, 2) := by unfold dsymA; rw [if_neg (by omega)]

theorem l_rises (n m : Int) (h : 3 ≤ n) (h1 : n < m) (h2 : m ≤ 258) : ∃ s v t u : Nat, lsymA n = (s, v, 0) ∧ lsymA m = (t, u, 0) ∧ s ≤ t ∧ (s = t → (u : Int) - (v : Int) = m - n) ∧ t ≤ 285 ∧ v ≤ 258 ∧ u ≤ 258 := by
  obtain ⟨N, rfl⟩ : ∃ N : Nat, n = (N : Int) := ⟨n.toNat, by omega⟩
  obtain ⟨M, rfl⟩ : ∃ M : Nat, m = (M : Int) := ⟨m.toNat, by omega⟩
  have a := lk_has N (by omega)
  have b := lk_has M (by omega)
  refine ⟨257 + lk N, N - at' lf (lk N), 257 + lk M, M - at' lf (lk M), ?_, ?_, ?_, fun e => ?_, by omega, by omega, by omega⟩
  · unfold lsymA; rw [if_pos (by omega), Int.toNat_natCast]
  · unfold lsymA; rw [if_pos (by omega), Int.toNat_natCast]
  · rcases Nat.lt_or_ge (lk M) (lk N) with h | h
    · have := rises lf_rises (lk M + 1) (lk N) (by omega) a.1
      have := b.2.2 (by omega)
      omega
    · omega
  · have e : lk N = lk M := by omega
    rw [e] at a ⊢
    omega
theorem d_rises (n m : Int) (h : 1 ≤ n) (h1 : n < m) (h2 : m ≤ 32768) : ∃ s v t u : Nat, dsymA n = (s, v, 0) ∧ dsymA m = (t, u, 0) ∧ s ≤ t ∧ (s = t → (u : Int) - (v : Int) = m - n) ∧ t ≤ 29 ∧ v ≤ 32768 ∧ u ≤ 32768 := by
  obtain ⟨N, rfl⟩ : ∃ N : Nat, n = (N : Int) := ⟨n.toNat, by omega⟩
  obtain ⟨M, rfl⟩ : ∃ M : Nat, m = (M : Int) := ⟨m.toNat, by omega⟩
  have a := dk_has N (by omega)
  have b := dk_has M (by omega)
  refine ⟨dk N, N - at' df (dk N), dk M, M - at' df (dk M), ?_, ?_, ?_, fun e => ?_, by omega, by omega, by omega⟩
  · unfold dsymA; rw [if_pos (by omega), Int.toNat_natCast]
  · unfold dsymA; rw [if_pos (by omega), Int.toNat_natCast]
  · rcases Nat.lt_or_ge (dk M) (dk N) with h | h
    · have := rises df_rises (dk M + 1) (dk N) (by omega) a.1
      have := b.2.2 (by omega)
      omega
    · omega
  · rw [e] at a ⊢
    omega

/-- Every number that fits is told of a distance of its own. -/
theorem d_number (k v : Nat) (hk : k ≤ 29) (hv : v < 2 ^ at' db k) : ∃ n : Nat, n ≤ 32768 ∧ dnumA (k : Int) (v : Int) = (n, 0) ∧ dsymA (n : Int) = (k, v, 0) := by
  have h1 := df_le k (by omega)
  refine ⟨at' df k + v, by omega, ?_, ?_⟩
  · unfold dnumA
    rw [if_pos (by omega), Int.toNat_natCast, if_pos (by omega), Int.toNat_natCast]
  · have e : dk (at' df k + v) = k := dk_is _ _ hk (by omega) fun h => by rw [df_next k h]; omega
    unfold dsymA
    rw [if_pos (by omega), Int.toNat_natCast, e]
    simp
end Sy
end Go.Proofs.Ytpcgibbmllmbgaa
