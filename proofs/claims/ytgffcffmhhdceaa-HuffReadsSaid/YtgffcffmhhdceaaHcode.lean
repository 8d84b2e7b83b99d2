/- The codes by lengths as numbers: plain facts. Nothing of the program is named here. -/
import Derived.Test.YtgffcffmhhdceaaHplain
namespace Go.Proofs.Ytgffcffmhhdceaa
namespace Hf

/-- The k-th symbol in the order of codes. -/
def sy (ls : List Nat) (k : Nat) : Nat := (ordl ls)[k]?.getD 0
/-- The next code, and the length of the last one, when k symbols have theirs. -/
def st (ls : List Nat) : Nat → Nat × Nat
  | 0 => (0, 0)
  | k + 1 => ((st ls k).1 * 2 ^ (ln ls (sy ls k) - (st ls k).2) + 1, ln ls (sy ls k))
/-- The k-th symbol's code. -/
def cd (ls : List Nat) (k : Nat) : Nat := (st ls k).1 * 2 ^ (ln ls (sy ls k) - (st ls k).2)
theorem st_succ (ls : List Nat) (k : Nat) : st ls (k + 1) = (cd ls k + 1, ln ls (sy ls k)) := rfl
/-- The first k symbols with their codes. -/
def codedTo (ls : List Nat) : Nat → List (Nat × Nat)
  | 0 => []
  | k + 1 => codedTo ls k ++ [(sy ls k, cd ls k)]
theorem codedTo_length (ls : List Nat) (k : Nat) : (codedTo ls k).length = k := by
  induction k with
  | zero => rfl
  | succ k ih => simp [codedTo, ih]
/-- Each symbol's code, when those of a list have theirs. -/
def outOf (n : Nat) (ps : List (Nat × Nat)) : List Nat := ps.foldl (fun o p => o.set p.1 p.2) (List.replicate n 0)
theorem outOf_length (n : Nat) (ps : List (Nat × Nat)) : (outOf n ps).length = n := by
  have : ∀ (ps : List (Nat × Nat)) (o : List Nat), (ps.foldl (fun o p => o.set p.1 p.2) o).length = o.length := by
    intro ps
    induction ps with
    | nil => intro o; rfl
    | cons p ps ih => intro o; rw [List.foldl_cons, ih]; simp
  unfold outOf
  rw [this]; simp
theorem outOf_snoc (n : Nat) (ps : List (Nat × Nat)) (p : Nat × Nat) : outOf n (ps ++ [p]) = (outOf n ps).set p.1 p.2 := by simp [outOf]
/-- The codes. -/
def codes (ls : List Nat) : List Nat := outOf ls.length (codedTo ls (ordl ls).length)
theorem codes_length (ls : List Nat) : (codes ls).length = ls.length := outOf_length _ _

/-- What the first k symbols take. -/
def pf (ls : List Nat) : Nat → Nat
  | 0 => 0
  | k + 1 => pf ls k + 2 ^ (15 - ln ls (sy ls k))

theorem sy_mem (ls : List Nat) (k : Nat) (hk : k < (ordl ls).length) : sy ls k < ls.length ∧ 0 < ln ls (sy ls k) ∧ ln ls (sy ls k) ≤ 15 := by
  have h : sy ls k ∈ ordl ls := by unfold sy; rw [List.getElem?_eq_getElem hk]; exact List.getElem_mem hk
  unfold ordl at h
  rwa [mem_ordTo] at h
theorem sy_lt (ls : List Nat) (j k : Nat) (hj : j < k) (hk : k < (ordl ls).length) : Lt ls (sy ls j) (sy ls k) := by
  have := List.pairwise_iff_getElem.1 (ordTo_sorted ls 15) j k (by unfold ordl at hk; omega) (by unfold ordl at hk; omega) hj
  unfold sy
  rw [List.getElem?_eq_getElem (by omega), List.getElem?_eq_getElem hk]
  exact this
theorem sy_le (ls : List Nat) (j k : Nat) (hj : j ≤ k) (hk : k < (ordl ls).length) : ln ls (sy ls j) ≤ ln ls (sy ls k) := by
  by_cases e : j = k
  · rw [e]; exact Nat.le_refl _
  · have := sy_lt ls j k (by omega) hk; unfold Lt at this; omega
theorem sy_of (ls : List Nat) (x : Nat) (hx : x < ls.length) (h0 : 0 < ln ls x) (h15 : ln ls x ≤ 15) : ∃ k, k < (ordl ls).length ∧ sy ls k = x := by
  have h : x ∈ ordl ls := by unfold ordl; rw [mem_ordTo]; exact ⟨hx, h0, h15⟩
  obtain ⟨k, hk, e⟩ := List.getElem_of_mem h
  exact ⟨k, hk, by unfold sy; rw [List.getElem?_eq_getElem hk]; exact e⟩
theorem sy_inj (ls : List Nat) (j k : Nat) (hj : j < (ordl ls).length) (hk : k < (ordl ls).length) (e : sy ls j = sy ls k) : j = k := by
  rcases Nat.lt_trichotomy j k with h | h | h
  · have := sy_lt ls j k h hk; unfold Lt at this; rw [e] at this; omega
  · exact h
  · have := sy_lt ls k j h hj; unfold Lt at this; rw [e] at this; omega

theorem pow_split (a b c : Nat) (h1 : a ≤ b) (h2 : b ≤ c) : 2 ^ (b - a) * 2 ^ (c - b) = 2 ^ (c - a) := by
  rw [← Nat.pow_add]; congr 1; omega

theorem st_le (ls : List Nat) (k : Nat) (hk : k < (ordl ls).length) : (st ls k).2 ≤ ln ls (sy ls k) := by
  cases k with
  | zero => simp [st]
  | succ k => rw [st_succ]; exact sy_le ls k (k + 1) (by omega) hk
theorem st_pf (ls : List Nat) (k : Nat) (hk : k ≤ (ordl ls).length) : (st ls k).1 * 2 ^ (15 - (st ls k).2) = pf ls k := by
  induction k with
  | zero => simp [st, pf]
  | succ k ih =>
    have h1 := ih (by omega)
    have h2 := st_le ls k (by omega)
    have h3 := (sy_mem ls k (by omega)).2.2
    rw [st_succ]
    show (cd ls k + 1) * 2 ^ (15 - ln ls (sy ls k)) = pf ls k + 2 ^ (15 - ln ls (sy ls k))
    rw [Nat.succ_mul, ← h1]
    unfold cd
    rw [Nat.mul_assoc, pow_split _ _ _ h2 h3]
/-- The k-th code, filled up to fifteen bits, is what the ones ahead take. -/
theorem cd_pf (ls : List Nat) (k : Nat) (hk : k < (ordl ls).length) : cd ls k * 2 ^ (15 - ln ls (sy ls k)) = pf ls k := by
  have h1 := st_pf ls k (by omega)
  have h2 := st_le ls k hk
  have h3 := (sy_mem ls k hk).2.2
  rw [← h1]
  unfold cd
  rw [Nat.mul_assoc, pow_split _ _ _ h2 h3]

theorem pf_mono (ls : List Nat) (j k : Nat) (h : j ≤ k) : pf ls j ≤ pf ls k := by
  induction k with
  | zero => have : j = 0 := by omega
            subst this; exact Nat.le_refl _
  | succ k ih =>
    by_cases e : j = k + 1
    · rw [e]; exact Nat.le_refl _
    · exact Nat.le_trans (ih (by omega)) (Nat.le_add_right _ _)

/-- What the symbols ahead of k take whose length q picks. -/
def tk (ls : List Nat) (q : Nat → Bool) : Nat → Nat
  | 0 => 0
  | k + 1 => tk ls q k + (if q (ln ls k) then 2 ^ (15 - ln ls k) else 0)
/-- What a list of symbols takes. -/
def sum (ls : List Nat) : List Nat → Nat
  | [] => 0
  | x :: xs => 2 ^ (15 - ln ls x) + sum ls xs
theorem sum_append (ls a b : List Nat) : sum ls (a ++ b) = sum ls a + sum ls b := by
  induction a with
  | nil => simp [sum]
  | cons x xs ih => simp only [List.cons_append, sum, ih]; omega
theorem sum_row (ls : List Nat) (l k : Nat) : sum ls (rowTo ls l k) = tk ls (fun x => x == l) k := by
  induction k with
  | zero => rfl
  | succ k ih =>
    simp only [rowTo, tk, sum_append, ih]
    by_cases h : ln ls k = l
    · rw [if_pos h, if_pos (by simp [h])]; simp [sum]
    · rw [if_neg h, if_neg (by simp [h])]; simp [sum]
theorem tk_add (ls : List Nat) (q r s : Nat → Bool) (h : ∀ x, s x = (q x || r x)) (hd : ∀ x, ¬ (q x = true ∧ r x = true)) (k : Nat) : tk ls s k = tk ls q k + tk ls r k := by
  induction k with
  | zero => rfl
  | succ k ih =>
    simp only [tk, ih, h]
    have := hd (ln ls k)
    generalize 2 ^ (15 - ln ls k) = z
    cases hq : q (ln ls k) <;> cases hr : r (ln ls k)
    · simp
    · simp; omega
    · simp; omega
    · exact absurd ⟨hq, hr⟩ this
theorem sum_ord (ls : List Nat) (l : Nat) : sum ls (ordTo ls l) = tk ls (fun x => decide (0 < x ∧ x ≤ l)) ls.length := by
  induction l with
  | zero =>
    have : ∀ k, tk ls (fun x => decide (0 < x ∧ x ≤ 0)) k = 0 := by
      intro k
      induction k with
      | zero => rfl
      | succ k ih => simp only [tk, ih]; rw [if_neg (by simp; omega)]
    rw [this]; rfl
  | succ l ih =>
    simp only [ordTo, sum_append, ih, sum_row]
    refine (tk_add ls _ _ _ (fun x => ?_) (fun x => ?_) _).symm
    · rw [Bool.eq_iff_iff]; simp; omega
    · simp; omega
theorem pf_sum (ls : List Nat) (k : Nat) (hk : k ≤ (ordl ls).length) : pf ls k = sum ls ((ordl ls).take k) := by
  induction k with
  | zero => rfl
  | succ k ih =>
    rw [List.take_succ_eq_append_getElem (by omega), sum_append, ← ih (by omega)]
    show pf ls k + _ = _
    unfold sy
    rw [List.getElem?_eq_getElem (by omega)]
    simp [sum]
/-- All symbols take what the lengths do. -/
theorem pf_all (ls : List Nat) (h15 : ∀ i, i < ls.length → ln ls i ≤ 15) : pf ls (ordl ls).length = tk ls (fun x => decide (0 < x)) ls.length := by
  rw [pf_sum ls _ (Nat.le_refl _), List.take_length]
  unfold ordl
  rw [sum_ord]
  have : ∀ k, k ≤ ls.length → tk ls (fun x => decide (0 < x ∧ x ≤ 15)) k = tk ls (fun x => decide (0 < x)) k := by
    intro k
    induction k with
    | zero => intro _; rfl
    | succ k ih =>
      intro hk
      have := h15 k (by omega)
      simp only [tk, ih (by omega)]
      congr 1
      by_cases h : 0 < ln ls k
      · rw [if_pos (by simp; omega), if_pos (by simp [h])]
      · rw [if_neg (by simp; omega), if_neg (by simp [h])]
  exact this _ (Nat.le_refl _)

/-- How many symbols ahead of k have a length that q picks. -/
def cn (ls : List Nat) (q : Nat → Bool) : Nat → Nat
  | 0 => 0
  | k + 1 => cn ls q k + (if q (ln ls k) then 1 else 0)
theorem cn_le (ls : List Nat) (q : Nat → Bool) (k : Nat) : cn ls q k ≤ k := by
  induction k with
  | zero => exact Nat.le_refl _
  | succ k ih => simp only [cn]; split <;> omega
theorem len_row (ls : List Nat) (l k : Nat) : (rowTo ls l k).length = cn ls (fun x => x == l) k := by
  induction k with
  | zero => rfl
  | succ k ih =>
    simp only [rowTo, cn, List.length_append, ih]
    by_cases h : ln ls k = l
    · rw [if_pos h, if_pos (by simp [h])]; rfl
    · rw [if_neg h, if_neg (by simp [h])]; rfl
theorem cn_add (ls : List Nat) (q r s : Nat → Bool) (h : ∀ x, s x = (q x || r x)) (hd : ∀ x, ¬ (q x = true ∧ r x = true)) (k : Nat) : cn ls s k = cn ls q k + cn ls r k := by
  induction k with
  | zero => rfl
  | succ k ih =>
    simp only [cn, ih, h]
    have := hd (ln ls k)
    cases hq : q (ln ls k) <;> cases hr : r (ln ls k)
    · simp
    · simp; omega
    · simp; omega
    · exact absurd ⟨hq, hr⟩ this
theorem len_ord (ls : List Nat) (l : Nat) : (ordTo ls l).length = cn ls (fun x => decide (0 < x ∧ x ≤ l)) ls.length := by
  induction l with
  | zero =>
    have : ∀ k, cn ls (fun x => decide (0 < x ∧ x ≤ 0)) k = 0 := by
      intro k
      induction k with
      | zero => rfl
      | succ k ih => simp only [cn, ih]; rw [if_neg (by simp; omega)]
    rw [this]; rfl
  | succ l ih =>
    simp only [ordTo, List.length_append, ih, len_row]
    refine (cn_add ls _ _ _ (fun x => ?_) (fun x => ?_) _).symm
    · rw [Bool.eq_iff_iff]; simp; omega
    · simp; omega
theorem ordl_length_le (ls : List Nat) : (ordl ls).length ≤ ls.length := by
  unfold ordl
  rw [len_ord]
  exact cn_le _ _ _

/-- With room for all, a code fits its length. -/
theorem cd_lt (ls : List Nat) (k : Nat) (hk : k < (ordl ls).length) (hp : pf ls (ordl ls).length ≤ 32768) : cd ls k < 2 ^ ln ls (sy ls k) := by
  have h1 := cd_pf ls k hk
  have h2 := pf_mono ls (k + 1) (ordl ls).length (by omega)
  have h3 := (sy_mem ls k hk).2.2
  have h4 : pf ls (k + 1) = pf ls k + 2 ^ (15 - ln ls (sy ls k)) := rfl
  have h5 : 2 ^ ln ls (sy ls k) * 2 ^ (15 - ln ls (sy ls k)) = 32768 := by rw [← Nat.pow_add, show ln ls (sy ls k) + (15 - ln ls (sy ls k)) = 15 by omega]
  have h6 : 0 < 2 ^ (15 - ln ls (sy ls k)) := Nat.two_pow_pos _
  refine Nat.lt_of_mul_lt_mul_right (a := 2 ^ (15 - ln ls (sy ls k))) ?_
  omega
theorem cd_small (ls : List Nat) (k : Nat) (hk : k < (ordl ls).length) (hp : pf ls (ordl ls).length ≤ 32768) : cd ls k < 32768 := by
  have h1 := cd_lt ls k hk hp
  have h2 := (sy_mem ls k hk).2.2
  have h3 : 2 ^ ln ls (sy ls k) ≤ 2 ^ 15 := Nat.pow_le_pow_right (by omega) h2
  omega

/-- The code of a symbol, by its place in the order. -/
theorem outOf_get (ls : List Nat) (k : Nat) (hk : k ≤ (ordl ls).length) (j : Nat) (hj : j < k) : (outOf ls.length (codedTo ls k))[sy ls j]?.getD 0 = cd ls j := by
  induction k with
  | zero => omega
  | succ k ih =>
    simp only [codedTo, outOf_snoc]
    by_cases e : j = k
    · subst e
      rw [List.getElem?_set_self (by rw [outOf_length]; exact (sy_mem ls j (by omega)).1)]
      rfl
    · have hne : sy ls k ≠ sy ls j := fun h => e (sy_inj ls j k (by omega) (by omega) h.symm)
      rw [List.getElem?_set_ne hne]
      exact ih (by omega) (by omega)
theorem codes_get (ls : List Nat) (j : Nat) (hj : j < (ordl ls).length) : (codes ls)[sy ls j]?.getD 0 = cd ls j := outOf_get ls _ (Nat.le_refl _) j hj

theorem rowTo_pre (ls : List Nat) (l i m : Nat) : rowTo ls l i <+: rowTo ls l (i + m) := by
  induction m with
  | zero => exact List.prefix_refl _
  | succ m ih => exact ih.trans (List.prefix_append _ _)
theorem ordTo_pre (ls : List Nat) (l m : Nat) : ordTo ls l <+: ordTo ls (l + m) := by
  induction m with
  | zero => exact List.prefix_refl _
  | succ m ih => exact ih.trans (List.prefix_append _ _)

/-- So many symbols have codes: those of at most l bits, and those of l + 1 ahead of i. -/
def At (ls : List Nat) (l i k : Nat) : Prop := k = (ordTo ls l).length + (rowTo ls (l + 1) i).length
theorem At.start (ls : List Nat) : At ls 0 0 0 := rfl
theorem At.next {ls : List Nat} {l k : Nat} (h : At ls l ls.length k) : At ls (l + 1) 0 k := by
  unfold At at h ⊢
  rw [h]; simp [ordTo, rowTo]
theorem At.skip {ls : List Nat} {l i k : Nat} (h : At ls l i k) (hne : ln ls i ≠ l + 1) : At ls l (i + 1) k := by
  unfold At at h ⊢
  rw [h]; simp [rowTo, hne]
theorem At.put {ls : List Nat} {l i k : Nat} (h : At ls l i k) (he : ln ls i = l + 1) : At ls l (i + 1) (k + 1) := by
  unfold At at h ⊢
  rw [h]; simp [rowTo, he]; omega
theorem At.here {ls : List Nat} {l i k : Nat} (h : At ls l i k) (he : ln ls i = l + 1) (hi : i < ls.length) (hl : l < 15) : k < (ordl ls).length ∧ sy ls k = i := by
  have h1 : rowTo ls (l + 1) (i + 1) <+: rowTo ls (l + 1) ls.length := by
    have := rowTo_pre ls (l + 1) (i + 1) (ls.length - (i + 1))
    rwa [show i + 1 + (ls.length - (i + 1)) = ls.length by omega] at this
  have h2 : ordTo ls (l + 1) <+: ordl ls := by
    have := ordTo_pre ls (l + 1) (15 - (l + 1))
    rwa [show l + 1 + (15 - (l + 1)) = 15 by omega] at this
  obtain ⟨t1, e1⟩ := h1
  obtain ⟨t2, e2⟩ := h2
  have e3 : ordl ls = (ordTo ls l ++ rowTo ls (l + 1) i) ++ (i :: (t1 ++ t2)) := by
    rw [← e2]
    show (ordTo ls l ++ rowTo ls (l + 1) ls.length) ++ t2 = _
    rw [← e1]
    simp [rowTo, he]
  have hk : k = (ordTo ls l ++ rowTo ls (l + 1) i).length := by rw [List.length_append]; exact h
  unfold sy
  rw [e3, hk]
  constructor
  · simp
  · rw [List.getElem?_append_right (Nat.le_refl _), Nat.sub_self]
    rfl
theorem At.fin {ls : List Nat} {k : Nat} (h : At ls 15 0 k) : k = (ordl ls).length := by
  unfold At at h
  rw [h]; simp [rowTo, ordl]
end Hf
end Go.Proofs.Ytgffcffmhhdceaa
