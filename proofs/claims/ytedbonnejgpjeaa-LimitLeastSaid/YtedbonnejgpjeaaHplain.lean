/- Codes by lengths: plain facts. Nothing of the program is named here. -/
import Derived.Test.YtedbonnejgpjeaaHsort
namespace Go.Proofs.Ytedbonnejgpjeaa
namespace Hf

/-- The length of symbol i. -/
def ln (ls : List Nat) (i : Nat) : Nat := ls[i]?.getD 0

/-- The symbols ahead of k whose length is l. -/
def rowTo (ls : List Nat) (l : Nat) : Nat → List Nat
  | 0 => []
  | k + 1 => rowTo ls l k ++ (if ln ls k = l then [k] else [])
/-- The used symbols of at most l bits, in the order of their codes. -/
def ordTo (ls : List Nat) : Nat → List Nat
  | 0 => []
  | l + 1 => ordTo ls l ++ rowTo ls (l + 1) ls.length
/-- The used symbols in the order of their codes. -/
def ordl (ls : List Nat) : List Nat := ordTo ls 15

theorem mem_rowTo (ls : List Nat) (l k x : Nat) : x ∈ rowTo ls l k ↔ x < k ∧ ln ls x = l := by
  induction k with
  | zero => simp [rowTo]
  | succ k ih =>
    simp only [rowTo, List.mem_append, ih]
    by_cases h : ln ls k = l
    · rw [if_pos h, List.mem_singleton]
      constructor
      · rintro (⟨h1, h2⟩ | rfl)
        · exact ⟨by omega, h2⟩
        · exact ⟨by omega, h⟩
      · rintro ⟨h1, h2⟩
        by_cases e : x = k
        · exact Or.inr e
        · exact Or.inl ⟨by omega, h2⟩
    · rw [if_neg h]
      constructor
      · rintro (⟨h1, h2⟩ | h3)
        · exact ⟨by omega, h2⟩
        · cases h3
      · rintro ⟨h1, h2⟩
        refine Or.inl ⟨?_, h2⟩
        by_cases e : x = k
        · subst e; exact absurd h2 h
        · omega
theorem mem_ordTo (ls : List Nat) (l x : Nat) : x ∈ ordTo ls l ↔ x < ls.length ∧ 0 < ln ls x ∧ ln ls x ≤ l := by
  induction l with
  | zero => simp [ordTo]; omega
  | succ l ih =>
    simp only [ordTo, List.mem_append, ih, mem_rowTo]
    constructor
    · rintro (⟨h1, h2, h3⟩ | ⟨h1, h2⟩)
      · exact ⟨h1, h2, by omega⟩
      · exact ⟨h1, by omega, by omega⟩
    · rintro ⟨h1, h2, h3⟩
      by_cases e : ln ls x = l + 1
      · exact Or.inr ⟨h1, e⟩
      · exact Or.inl ⟨h1, h2, by omega⟩

/-- Ahead in the order of codes. -/
def Lt (ls : List Nat) (x y : Nat) : Prop := ln ls x < ln ls y ∨ (ln ls x = ln ls y ∧ x < y)

theorem rowTo_sorted (ls : List Nat) (l k : Nat) : (rowTo ls l k).Pairwise (Lt ls) := by
  induction k with
  | zero => simp [rowTo]
  | succ k ih =>
    simp only [rowTo]
    rw [List.pairwise_append]
    refine ⟨ih, by split <;> simp, fun a ha b hb => ?_⟩
    rw [mem_rowTo] at ha
    by_cases h : ln ls k = l
    · rw [if_pos h, List.mem_singleton] at hb
      subst hb
      exact Or.inr ⟨by rw [ha.2, h], ha.1⟩
    · rw [if_neg h] at hb; cases hb
theorem ordTo_sorted (ls : List Nat) (l : Nat) : (ordTo ls l).Pairwise (Lt ls) := by
  induction l with
  | zero => simp [ordTo]
  | succ l ih =>
    simp only [ordTo]
    rw [List.pairwise_append]
    refine ⟨ih, rowTo_sorted _ _ _, fun a ha b hb => Or.inl ?_⟩
    rw [mem_ordTo] at ha
    rw [mem_rowTo] at hb
    omega

/-- Two rows in order that have the same members are one. -/
theorem sorted_unique (ls : List Nat) : ∀ (xs ys : List Nat), xs.Pairwise (Lt ls) → ys.Pairwise (Lt ls) → (∀ x, x ∈ xs ↔ x ∈ ys) → xs = ys := by
  have asym : ∀ x y, Lt ls x y → Lt ls y x → False := fun x y h1 h2 => by unfold Lt at h1 h2; omega
  intro xs
  induction xs with
  | nil =>
    intro ys _ _ h
    cases ys with
    | nil => rfl
    | cons y ys => exact absurd ((h y).2 (by simp)) (by simp)
  | cons x xs ih =>
    intro ys hx hy h
    cases ys with
    | nil => exact absurd ((h x).1 (by simp)) (by simp)
    | cons y ys =>
      rw [List.pairwise_cons] at hx hy
      have e : x = y := by
        have h1 := (h x).1 (by simp)
        have h2 := (h y).2 (by simp)
        rw [List.mem_cons] at h1 h2
        rcases h1 with e | h1
        · exact e
        · rcases h2 with e | h2
          · exact e.symm
          · exact (asym x y (hx.1 y h2) (hy.1 x h1)).elim
      subst e
      rw [ih ys hx.2 hy.2 fun z => ?_]
      constructor
      · intro hz
        have := (h z).1 (List.mem_cons_of_mem _ hz)
        rw [List.mem_cons] at this
        rcases this with e | h'
        · subst e; exact (asym z z (hx.1 z hz) (hx.1 z hz)).elim
        · exact h'
      · intro hz
        have := (h z).2 (List.mem_cons_of_mem _ hz)
        rw [List.mem_cons] at this
        rcases this with e | h'
        · subst e; exact (asym z z (hy.1 z hz) (hy.1 z hz)).elim
        · exact h'

/-- The used symbols, rising. -/
def usedL (ls : List Nat) : Nat → List Nat
  | 0 => []
  | k + 1 => usedL ls k ++ (if ln ls k = 0 then [] else [k])
theorem mem_usedL (ls : List Nat) (k x : Nat) : x ∈ usedL ls k ↔ x < k ∧ ln ls x ≠ 0 := by
  induction k with
  | zero => simp [usedL]
  | succ k ih =>
    simp only [usedL, List.mem_append, ih]
    by_cases h : ln ls k = 0
    · rw [if_pos h]
      constructor
      · rintro (⟨h1, h2⟩ | h3)
        · exact ⟨by omega, h2⟩
        · cases h3
      · rintro ⟨h1, h2⟩
        refine Or.inl ⟨?_, h2⟩
        by_cases e : x = k
        · subst e; exact absurd h h2
        · omega
    · rw [if_neg h, List.mem_singleton]
      constructor
      · rintro (⟨h1, h2⟩ | rfl)
        · exact ⟨by omega, h2⟩
        · exact ⟨by omega, h⟩
      · rintro ⟨h1, h2⟩
        by_cases e : x = k
        · exact Or.inr e
        · exact Or.inl ⟨by omega, h2⟩
theorem usedL_sorted (ls : List Nat) (k : Nat) : (usedL ls k).Pairwise (· < ·) := by
  induction k with
  | zero => simp [usedL]
  | succ k ih =>
    simp only [usedL]
    rw [List.pairwise_append]
    refine ⟨ih, by split <;> simp, fun a ha b hb => ?_⟩
    rw [mem_usedL] at ha
    by_cases h : ln ls k = 0
    · rw [if_pos h] at hb; cases hb
    · rw [if_neg h, List.mem_singleton] at hb; omega
theorem usedL_length (ls : List Nat) (k : Nat) : (usedL ls k).length ≤ k := by
  induction k with
  | zero => simp [usedL]
  | succ k ih => simp only [usedL, List.length_append]; split <;> simp <;> omega

/-- What a stable sort of the used symbols gives is their order by codes. -/
theorem sorted_is (ls : List Nat) (hl : ∀ i, i < ls.length → ln ls i ≤ 15) (n : Nat) (d d' : Nat → Nat) (hn : n = (usedL ls ls.length).length) (hd : ∀ i, i < n → d i = (usedL ls ls.length)[i]?.getD 0)
    (hs : St.Swaps 0 n d d') (hr : St.Ris (ln ls) d' n) (hw : St.Srt (ln ls) d' 0 n) : (List.range n).map d' = ordl ls := by
  have hm : ∀ x, x ∈ (List.range n).map d' ↔ x ∈ usedL ls ls.length := by
    intro x
    simp only [List.mem_map, List.mem_range]
    constructor
    · rintro ⟨i, hi, rfl⟩
      obtain ⟨k, _, k2, k3⟩ := hs.img i (by omega) hi
      rw [k3, hd k k2, List.getElem?_eq_getElem (by omega)]
      exact List.getElem_mem _
    · intro hx
      obtain ⟨i, hi, rfl⟩ := List.getElem_of_mem hx
      obtain ⟨k, _, k2, k3⟩ := hs.back i (by omega) (by omega)
      refine ⟨k, k2, ?_⟩
      rw [← k3, hd i (by omega), List.getElem?_eq_getElem hi]
      rfl
  refine sorted_unique ls _ _ ?_ (ordTo_sorted ls 15) fun x => ?_
  · rw [List.pairwise_map]
    refine List.Pairwise.imp_of_mem ?_ (List.pairwise_lt_range)
    intro a b ha hb hab
    rw [List.mem_range] at ha hb
    have h1 := hw a b (by omega) hab hb
    by_cases e : ln ls (d' a) = ln ls (d' b)
    · exact Or.inr ⟨e, hr a b hab hb e⟩
    · exact Or.inl (by omega)
  · rw [hm, mem_usedL]
    unfold ordl
    rw [mem_ordTo]
    constructor
    · rintro ⟨h1, h2⟩; exact ⟨h1, by omega, hl x h1⟩
    · rintro ⟨h1, h2, _⟩; exact ⟨h1, by omega⟩

/-- Before it is sorted: what has one key rises. -/
theorem used_ris (ls : List Nat) (k : Nat) : St.Ris (ln ls) (fun i => (usedL ls k)[i]?.getD 0) (usedL ls k).length := by
  intro p q h1 h2 _
  have := List.pairwise_iff_getElem.1 (usedL_sorted ls k) p q (by omega) h2 h1
  show (usedL ls k)[p]?.getD 0 < (usedL ls k)[q]?.getD 0
  rw [List.getElem?_eq_getElem (by omega), List.getElem?_eq_getElem h2]
  exact this
end Hf
end Go.Proofs.Ytedbonnejgpjeaa
