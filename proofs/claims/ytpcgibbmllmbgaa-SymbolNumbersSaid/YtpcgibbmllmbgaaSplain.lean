/- Plain facts on the two tables of symbols: no Go in them. -/
import Derived.Test.YtpcgibbmllmbgaaRows
namespace Go.Proofs.Ytpcgibbmllmbgaa
namespace Sy

def lf : List Nat := [3, 4, 5, 6, 7, 8, 9, 10, 11, 13, 15, 17, 19, 23, 27, 31, 35, 43, 51, 59, 67, 83, 99, 115, 131, 163, 195, 227, 258]
def lb : List Nat := [0, 0, 0, 0, 0, 0, 0, 0, 1, 1, 1, 1, 2, 2, 2, 2, 3, 3, 3, 3, 4, 4, 4, 4, 5, 5, 5, 5, 0]
def df : List Nat := [1, 2, 3, 4, 5, 7, 9, 13, 17, 25, 33, 49, 65, 97, 129, 193, 257, 385, 513, 769, 1025, 1537, 2049, 3073, 4097, 6145, 8193, 12289, 16385, 24577]
def db : List Nat := [0, 0, 0, 0, 1, 1, 2, 2, 3, 3, 4, 4, 5, 5, 6, 6, 7, 7, 8, 8, 9, 9, 10, 10, 11, 11, 12, 12, 13, 13]

/-- The entry at a place. -/
def at' (l : List Nat) (i : Nat) : Nat := l[i]?.getD 0

/-- Which of the first numbers of a list is the last one that is not above n. -/
def lastTo (l : List Nat) (n : Nat) : Nat → Nat
  | 0 => 0
  | i + 1 => if at' l i ≤ n then i else lastTo l n i

theorem lastTo_succ (l : List Nat) (n i : Nat) : lastTo l n (i + 1) = if at' l i ≤ n then i else lastTo l n i := rfl

/-- The first number of a group: per symbols each, with as many bits beside them as the groups from the second on count. -/
def start (least per : Nat) : Nat → Nat
  | 0 => least
  | g + 1 => start least per g + per * 2 ^ (g - 1)

theorem start_succ (least per g : Nat) : start least per (g + 1) = start least per g + per * 2 ^ (g - 1) := rfl

theorem lf_rises : ∀ i, i < 28 → at' lf i < at' lf (i + 1) := by decide
theorem df_rises : ∀ i, i < 29 → at' df i < at' df (i + 1) := by decide

theorem rises {l : List Nat} {N : Nat} (h : ∀ i, i < N → at' l i < at' l (i + 1)) (i j : Nat) (hij : i ≤ j) (hj : j ≤ N) : at' l i ≤ at' l j := by
  induction j with
  | zero => obtain rfl : i = 0 := by omega
            exact Nat.le_refl _
  | succ j ih =>
    rcases Nat.lt_or_ge i (j + 1) with h1 | h1
    · have := ih (by omega) (by omega)
      have := h j (by omega)
      omega
    · obtain rfl : i = j + 1 := by omega
      exact Nat.le_refl _

/-- Where n stands between two entries, the last one is the lower one. -/
theorem last_is {l : List Nat} {N : Nat} (h : ∀ i, i < N → at' l i < at' l (i + 1)) (n k : Nat) (hk : k ≤ N) (h1 : at' l k ≤ n) (h2 : k < N → n < at' l (k + 1)) : lastTo l n (N + 1) = k := by
  have : ∀ j, k < j → j ≤ N + 1 → lastTo l n j = k := by
    intro j
    induction j with
    | zero => intro _; omega
    | succ j ih =>
      intro ha hb
      rw [lastTo_succ]
      by_cases he : j = k
      · subst he; rw [if_pos h1]
      · have h3 := rises h (k + 1) j (by omega) (by omega)
        have h4 := h2 (by omega)
        rw [if_neg (by omega)]
        exact ih (by omega) (by omega)
  exact this _ (by omega) (Nat.le_refl _)

/-- What the last one is. -/
theorem last_has {l : List Nat} {N : Nat} (_ : ∀ i, i < N → at' l i < at' l (i + 1)) (n : Nat) (h0 : at' l 0 ≤ n) : lastTo l n (N + 1) ≤ N ∧ at' l (lastTo l n (N + 1)) ≤ n ∧ (lastTo l n (N + 1) < N → n < at' l (lastTo l n (N + 1) + 1)) := by
  have : ∀ j, 0 < j → j ≤ N + 1 → lastTo l n j < j ∧ at' l (lastTo l n j) ≤ n ∧ (lastTo l n j + 1 < j → n < at' l (lastTo l n j + 1)) := by
    intro j
    induction j with
    | zero => intro _; omega
    | succ j ih =>
      intro _ hb
      rw [lastTo_succ]
      by_cases he : at' l j ≤ n
      · rw [if_pos he]; exact ⟨by omega, he, by omega⟩
      · rw [if_neg he]
        rcases Nat.eq_zero_or_pos j with hj | hj
        · subst hj; exact absurd h0 he
        · have := ih hj (by omega)
          refine ⟨by omega, this.2.1, fun hlt => ?_⟩
          rcases Nat.lt_or_ge (lastTo l n j + 1) j with h5 | h5
          · exact this.2.2 h5
          · have : lastTo l n j + 1 = j := by omega
            rw [this]; omega
  have := this (N + 1) (by omega) (Nat.le_refl _)
  exact ⟨by omega, this.2.1, fun h => this.2.2 (by omega)⟩

/-- The symbol of a length, of a distance, counted from 0. -/
def lk (n : Nat) : Nat := lastTo lf n 29
def dk (n : Nat) : Nat := lastTo df n 30

theorem lk_has (n : Nat) (h : 3 ≤ n) : lk n ≤ 28 ∧ at' lf (lk n) ≤ n ∧ (lk n < 28 → n < at' lf (lk n + 1)) := last_has lf_rises n h
theorem dk_has (n : Nat) (h : 1 ≤ n) : dk n ≤ 29 ∧ at' df (dk n) ≤ n ∧ (dk n < 29 → n < at' df (dk n + 1)) := last_has df_rises n h
theorem lk_is (n k : Nat) (hk : k ≤ 28) (h1 : at' lf k ≤ n) (h2 : k < 28 → n < at' lf (k + 1)) : lk n = k := last_is lf_rises n k hk h1 h2
theorem dk_is (n k : Nat) (hk : k ≤ 29) (h1 : at' df k ≤ n) (h2 : k < 29 → n < at' df (k + 1)) : dk n = k := last_is df_rises n k hk h1 h2

/-- Each entry ends where the next one begins. -/
theorem lf_next : ∀ k, k < 27 → at' lf (k + 1) = at' lf k + 2 ^ at' lb k := by decide
theorem df_next : ∀ k, k < 29 → at' df (k + 1) = at' df k + 2 ^ at' db k := by decide
theorem lf_group : ∀ g, g < 7 → ∀ q, q < 4 → at' lf (4 * g + q) = start 3 4 g + q * 2 ^ (g - 1) ∧ at' lb (4 * g + q) = g - 1 := by decide
theorem df_group : ∀ g, g < 15 → ∀ q, q < 2 → at' df (2 * g + q) = start 1 2 g + q * 2 ^ (g - 1) ∧ at' db (2 * g + q) = g - 1 := by decide
theorem lf_start : ∀ g, g < 8 → start 3 4 g ≤ 259 := by decide
theorem df_start : ∀ g, g < 16 → start 1 2 g ≤ 32769 := by decide
theorem lf_end : start 3 4 7 = 259 := by decide
theorem df_end : start 1 2 15 = 32769 := by decide
theorem lb_le : ∀ k, k < 29 → at' lb k ≤ 5 := by decide
theorem db_le : ∀ k, k < 30 → at' db k ≤ 13 := by decide
theorem lf_le : ∀ k, k < 29 → 3 ≤ at' lf k ∧ at' lf k + 2 ^ at' lb k ≤ 259 := by decide
theorem df_le : ∀ k, k < 30 → 1 ≤ at' df k ∧ at' df k + 2 ^ at' db k ≤ 32769 := by decide

/-- What a round of 'symbol' tells, told by the table. -/
theorem l_group (n g : Nat) (hg : g < 7) (hn : n ≤ 257) (h1 : start 3 4 g ≤ n) (h2 : n - start 3 4 g < 4 * 2 ^ (g - 1)) :
    4 * g + (n - start 3 4 g) / 2 ^ (g - 1) = lk n ∧ (n - start 3 4 g) % 2 ^ (g - 1) = n - at' lf (lk n) := by
  have hp : 0 < 2 ^ (g - 1) := Nat.pow_pos (by omega)
  have hq : (n - start 3 4 g) / 2 ^ (g - 1) < 4 := (Nat.div_lt_iff_lt_mul hp).2 h2
  have hd := Nat.div_add_mod (n - start 3 4 g) (2 ^ (g - 1))
  have hm := Nat.mod_lt (n - start 3 4 g) hp
  obtain ⟨q, eq⟩ : ∃ q, q = (n - start 3 4 g) / 2 ^ (g - 1) := ⟨_, rfl⟩
  obtain ⟨r, er⟩ : ∃ r, r = (n - start 3 4 g) % 2 ^ (g - 1) := ⟨_, rfl⟩
  rw [← eq] at hq hd ⊢
  rw [← er] at hd hm ⊢
  obtain ⟨e1, e2⟩ := lf_group g hg q hq
  rw [Nat.mul_comm] at hd
  have hk : lk n = 4 * g + q := by
    refine lk_is n _ (by omega) (by omega) fun hlt => ?_
    rcases Nat.lt_or_ge (4 * g + q) 27 with h | h
    · rw [lf_next _ h, e2]; omega
    · obtain e : 4 * g + q = 27 := by omega
      rw [e]
      show n < 258
      omega
  rw [hk]
  exact ⟨rfl, by omega⟩

theorem d_group (n g : Nat) (hg : g < 15) (h1 : start 1 2 g ≤ n) (h2 : n - start 1 2 g < 2 * 2 ^ (g - 1)) :
    2 * g + (n - start 1 2 g) / 2 ^ (g - 1) = dk n ∧ (n - start 1 2 g) % 2 ^ (g - 1) = n - at' df (dk n) := by
  have hp : 0 < 2 ^ (g - 1) := Nat.pow_pos (by omega)
  have hq : (n - start 1 2 g) / 2 ^ (g - 1) < 2 := (Nat.div_lt_iff_lt_mul hp).2 h2
  have hd := Nat.div_add_mod (n - start 1 2 g) (2 ^ (g - 1))
  have hm := Nat.mod_lt (n - start 1 2 g) hp
  obtain ⟨q, eq⟩ : ∃ q, q = (n - start 1 2 g) / 2 ^ (g - 1) := ⟨_, rfl⟩
  obtain ⟨r, er⟩ : ∃ r, r = (n - start 1 2 g) % 2 ^ (g - 1) := ⟨_, rfl⟩
  rw [← eq] at hq hd ⊢
  rw [← er] at hd hm ⊢
  obtain ⟨e1, e2⟩ := df_group g hg q hq
  rw [Nat.mul_comm] at hd
  have hk : dk n = 2 * g + q := by
    refine dk_is n _ (by omega) (by omega) fun hlt => ?_
    rw [df_next _ hlt, e2]; omega
  rw [hk]
  exact ⟨rfl, by omega⟩

/-- What 'number' adds up, told by the table. -/
theorem l_sum (k : Nat) (hk : k < 28) : start 3 4 (k / 4) + k % 4 * 2 ^ (k / 4 - 1) = at' lf k ∧ at' lb k = k / 4 - 1 := by
  have h := lf_group (k / 4) (by omega) (k % 4) (by omega)
  rw [show 4 * (k / 4) + k % 4 = k from by omega] at h
  exact ⟨h.1.symm, h.2⟩
theorem d_sum (k : Nat) (hk : k < 30) : start 1 2 (k / 2) + k % 2 * 2 ^ (k / 2 - 1) = at' df k ∧ at' db k = k / 2 - 1 := by
  have h := df_group (k / 2) (by omega) (k % 2) (by omega)
  rw [show 2 * (k / 2) + k % 2 = k from by omega] at h
  exact ⟨h.1.symm, h.2⟩
end Sy
end Go.Proofs.Ytpcgibbmllmbgaa
