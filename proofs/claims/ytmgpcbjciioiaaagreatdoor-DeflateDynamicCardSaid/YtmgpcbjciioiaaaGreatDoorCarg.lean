import Derived.Test.YtmgpcbjciioiaaaGreatDoorHsort
import Derived.Test.YtmgpcbjciioiaaaGreatDoorRows
import Derived.Maps.OwnSet
import Derived.Deep.RegionLawGrows
import Derived.Deep.OwnRows
import Derived.Deep.RegionWith
import Derived.Deep.RegionHeld3
import Derived.Deep.DeepCutAuto
import Derived.Deep.DeepFit
import Derived.ProofKit
import Derived.OpenShut
import Derived.SizedLaws
import Derived.Lib.SmallJoins
namespace Go.Proofs.YtmgpcbjciioiaaaGreatDoor
set_option maxRecDepth 100000
set_option maxHeartbeats 8000000
section
namespace Hf
def ln (ls : List Nat) (i : Nat) : Nat := ls[i]?.getD 0
def rowTo (ls : List Nat) (l : Nat) : Nat -> List Nat
 | 0 => []
 | k + 1 => rowTo ls l k ++ (if ln ls k = l then [k] else [])
def ordTo (ls : List Nat) : Nat -> List Nat
 | 0 => []
 | l + 1 => ordTo ls l ++ rowTo ls (l + 1) ls.length
def ordl (ls : List Nat) : List Nat := ordTo ls 15
theorem mem_rowTo (ls : List Nat) (l k x : Nat) : x ∈ rowTo ls l k ↔ x < k /\ ln ls x = l := by
 induction k with
 | zero => simp [rowTo]
 | succ k ih =>
  simp only [rowTo,List.mem_append,ih]
  by_cases h : ln ls k = l
  ·rw [if_pos h,List.mem_singleton]
   constructor
   ·rintro (⟨h1,h2⟩ | rfl)
    ·exact ⟨by omega,h2⟩
    ·exact ⟨by omega,h⟩
   ·rintro ⟨h1,h2⟩
    by_cases e : x = k
    ·exact Or.inr e
    ·exact Or.inl ⟨by omega,h2⟩
  ·rw [if_neg h]
   constructor
   ·rintro (⟨h1,h2⟩ | h3)
    ·exact ⟨by omega,h2⟩
    ·cases h3
   ·rintro ⟨h1,h2⟩
    refine Or.inl ⟨?_,h2⟩
    by_cases e : x = k
    ·subst e; exact absurd h2 h
    ·omega
theorem mem_ordTo (ls : List Nat) (l x : Nat) : x ∈ ordTo ls l ↔ x < ls.length /\ 0 < ln ls x /\ ln ls x <= l := by
 induction l with
 | zero => simp [ordTo]; omega
 | succ l ih =>
  simp only [ordTo,List.mem_append,ih,mem_rowTo]
  constructor
  ·rintro (⟨h1,h2,h3⟩ | ⟨h1,h2⟩)
   ·exact ⟨h1,h2,by omega⟩
   ·exact ⟨h1,by omega,by omega⟩
  ·rintro ⟨h1,h2,h3⟩
   by_cases e : ln ls x = l + 1
   ·exact Or.inr ⟨h1,e⟩
   ·exact Or.inl ⟨h1,h2,by omega⟩
def Lt (ls : List Nat) (x y : Nat) : Prop := ln ls x < ln ls y ∨ (ln ls x = ln ls y /\ x < y)
theorem rowTo_sorted (ls : List Nat) (l k : Nat) : (rowTo ls l k).Pairwise (Lt ls) := by
 induction k with
 | zero => simp [rowTo]
 | succ k ih =>
  simp only [rowTo]
  rw [List.pairwise_append]
  refine ⟨ih,by split <;> simp,fun a ha b hb => ?_⟩
  rw [mem_rowTo] at ha
  by_cases h : ln ls k = l
  ·rw [if_pos h,List.mem_singleton] at hb
   subst hb
   exact Or.inr ⟨by rw [ha.2,h],ha.1⟩
  ·rw [if_neg h] at hb; cases hb
theorem ordTo_sorted (ls : List Nat) (l : Nat) : (ordTo ls l).Pairwise (Lt ls) := by
 induction l with
 | zero => simp [ordTo]
 | succ l ih =>
  simp only [ordTo]
  rw [List.pairwise_append]
  refine ⟨ih,rowTo_sorted _ _ _,fun a ha b hb => Or.inl ?_⟩
  rw [mem_ordTo] at ha
  rw [mem_rowTo] at hb
  omega
theorem sorted_unique (ls : List Nat) : ∀ (xs ys : List Nat),xs.Pairwise (Lt ls) -> ys.Pairwise (Lt ls) -> (∀ x,x ∈ xs ↔ x ∈ ys) -> xs = ys := by
 have asym : ∀ x y,Lt ls x y -> Lt ls y x -> False := fun x y h1 h2 => by unfold Lt at h1 h2; omega
 intro xs
 induction xs with
 | nil =>
  intro ys _ _ h
  cases ys with
  | nil => rfl
  | cons y ys => exact absurd ((h y).2 (by simp)) (by simp)
 | cons x xs ih =>
  intro ys hx hy h
  cases ys with
  | nil => exact absurd ((h x).1 (by simp)) (by simp)
  | cons y ys =>
   rw [List.pairwise_cons] at hx hy
   have e : x = y := by
    have h1 := (h x).1 (by simp)
    have h2 := (h y).2 (by simp)
    rw [List.mem_cons] at h1 h2
    rcases h1 with e | h1
    ·exact e
    ·rcases h2 with e | h2
     ·exact e.symm
     ·exact (asym x y (hx.1 y h2) (hy.1 x h1)).elim
   subst e
   rw [ih ys hx.2 hy.2 fun z => ?_]
   constructor
   ·intro hz
    have := (h z).1 (List.mem_cons_of_mem _ hz)
    rw [List.mem_cons] at this
    rcases this with e | h'
    ·subst e; exact (asym z z (hx.1 z hz) (hx.1 z hz)).elim
    ·exact h'
   ·intro hz
    have := (h z).2 (List.mem_cons_of_mem _ hz)
    rw [List.mem_cons] at this
    rcases this with e | h'
    ·subst e; exact (asym z z (hy.1 z hz) (hy.1 z hz)).elim
    ·exact h'
def usedL (ls : List Nat) : Nat -> List Nat
 | 0 => []
 | k + 1 => usedL ls k ++ (if ln ls k = 0 then [] else [k])
theorem mem_usedL (ls : List Nat) (k x : Nat) : x ∈ usedL ls k ↔ x < k /\ ln ls x ≠ 0 := by
 induction k with
 | zero => simp [usedL]
 | succ k ih =>
  simp only [usedL,List.mem_append,ih]
  by_cases h : ln ls k = 0
  ·rw [if_pos h]
   constructor
   ·rintro (⟨h1,h2⟩ | h3)
    ·exact ⟨by omega,h2⟩
    ·cases h3
   ·rintro ⟨h1,h2⟩
    refine Or.inl ⟨?_,h2⟩
    by_cases e : x = k
    ·subst e; exact absurd h h2
    ·omega
  ·rw [if_neg h,List.mem_singleton]
   constructor
   ·rintro (⟨h1,h2⟩ | rfl)
    ·exact ⟨by omega,h2⟩
    ·exact ⟨by omega,h⟩
   ·rintro ⟨h1,h2⟩
    by_cases e : x = k
    ·exact Or.inr e
    ·exact Or.inl ⟨by omega,h2⟩
theorem usedL_sorted (ls : List Nat) (k : Nat) : (usedL ls k).Pairwise (· < ·) := by
 induction k with
 | zero => simp [usedL]
 | succ k ih =>
  simp only [usedL]
  rw [List.pairwise_append]
  refine ⟨ih,by split <;> simp,fun a ha b hb => ?_⟩
  rw [mem_usedL] at ha
  by_cases h : ln ls k = 0
  ·rw [if_pos h] at hb; cases hb
  ·rw [if_neg h,List.mem_singleton] at hb; omega
theorem usedL_length (ls : List Nat) (k : Nat) : (usedL ls k).length <= k := by
 induction k with
 | zero => simp [usedL]
 | succ k ih => simp only [usedL,List.length_append]; split <;> simp <;> omega
theorem sorted_is (ls : List Nat) (hl : ∀ i,i < ls.length -> ln ls i <= 15) (n : Nat) (d d' : Nat -> Nat) (hn : n = (usedL ls ls.length).length) (hd : ∀ i,i < n -> d i = (usedL ls ls.length)[i]?.getD 0)
  (hs : St.Swaps 0 n d d') (hr : St.Ris (ln ls) d' n) (hw : St.Srt (ln ls) d' 0 n) : (List.range n).map d' = ordl ls := by
 have hm : ∀ x,x ∈ (List.range n).map d' ↔ x ∈ usedL ls ls.length := by
  intro x
  simp only [List.mem_map,List.mem_range]
  constructor
  ·rintro ⟨i,hi,rfl⟩
   obtain ⟨k,_,k2,k3⟩ := hs.img i (by omega) hi
   rw [k3,hd k k2,List.getElem?_eq_getElem (by omega)]
   exact List.getElem_mem _
  ·intro hx
   obtain ⟨i,hi,rfl⟩ := List.getElem_of_mem hx
   obtain ⟨k,_,k2,k3⟩ := hs.back i (by omega) (by omega)
   refine ⟨k,k2,?_⟩
   rw [<- k3,hd i (by omega),List.getElem?_eq_getElem hi]
   rfl
 refine sorted_unique ls _ _ ?_ (ordTo_sorted ls 15) fun x => ?_
 ·rw [List.pairwise_map]
  refine List.Pairwise.imp_of_mem ?_ (List.pairwise_lt_range)
  intro a b ha hb hab
  rw [List.mem_range] at ha hb
  have h1 := hw a b (by omega) hab hb
  by_cases e : ln ls (d' a) = ln ls (d' b)
  ·exact Or.inr ⟨e,hr a b hab hb e⟩
  ·exact Or.inl (by omega)
 ·rw [hm,mem_usedL]
  unfold ordl
  rw [mem_ordTo]
  constructor
  ·rintro ⟨h1,h2⟩; exact ⟨h1,by omega,hl x h1⟩
  ·rintro ⟨h1,h2,_⟩; exact ⟨h1,by omega⟩
theorem used_ris (ls : List Nat) (k : Nat) : St.Ris (ln ls) (fun i => (usedL ls k)[i]?.getD 0) (usedL ls k).length := by
 intro p q h1 h2 _
 have := List.pairwise_iff_getElem.1 (usedL_sorted ls k) p q (by omega) h2 h1
 show (usedL ls k)[p]?.getD 0 < (usedL ls k)[q]?.getD 0
 rw [List.getElem?_eq_getElem (by omega),List.getElem?_eq_getElem h2]
 exact this
end Hf
end
section
namespace Hf
def sy (ls : List Nat) (k : Nat) : Nat := (ordl ls)[k]?.getD 0
def st (ls : List Nat) : Nat -> Nat × Nat
 | 0 => (0,0)
 | k + 1 => ((st ls k).1 * 2 ^ (ln ls (sy ls k) - (st ls k).2) + 1,ln ls (sy ls k))
def cd (ls : List Nat) (k : Nat) : Nat := (st ls k).1 * 2 ^ (ln ls (sy ls k) - (st ls k).2)
theorem st_succ (ls : List Nat) (k : Nat) : st ls (k + 1) = (cd ls k + 1,ln ls (sy ls k)) := rfl
def codedTo (ls : List Nat) : Nat -> List (Nat × Nat)
 | 0 => []
 | k + 1 => codedTo ls k ++ [(sy ls k,cd ls k)]
theorem codedTo_length (ls : List Nat) (k : Nat) : (codedTo ls k).length = k := by
 induction k with
 | zero => rfl
 | succ k ih => simp [codedTo,ih]
def outOf (n : Nat) (ps : List (Nat × Nat)) : List Nat := ps.foldl (fun o p => o.set p.1 p.2) (List.replicate n 0)
theorem outOf_length (n : Nat) (ps : List (Nat × Nat)) : (outOf n ps).length = n := by
 have : ∀ (ps : List (Nat × Nat)) (o : List Nat),(ps.foldl (fun o p => o.set p.1 p.2) o).length = o.length := by
  intro ps
  induction ps with
  | nil => intro o; rfl
  | cons p ps ih => intro o; rw [List.foldl_cons,ih]; simp
 unfold outOf
 rw [this]; simp
theorem outOf_snoc (n : Nat) (ps : List (Nat × Nat)) (p : Nat × Nat) : outOf n (ps ++ [p]) = (outOf n ps).set p.1 p.2 := by simp [outOf]
def codes (ls : List Nat) : List Nat := outOf ls.length (codedTo ls (ordl ls).length)
theorem codes_length (ls : List Nat) : (codes ls).length = ls.length := outOf_length _ _
def pf (ls : List Nat) : Nat -> Nat
 | 0 => 0
 | k + 1 => pf ls k + 2 ^ (15 - ln ls (sy ls k))
theorem sy_mem (ls : List Nat) (k : Nat) (hk : k < (ordl ls).length) : sy ls k < ls.length /\ 0 < ln ls (sy ls k) /\ ln ls (sy ls k) <= 15 := by
 have h : sy ls k ∈ ordl ls := by unfold sy; rw [List.getElem?_eq_getElem hk]; exact List.getElem_mem hk
 unfold ordl at h
 rwa [mem_ordTo] at h
theorem sy_lt (ls : List Nat) (j k : Nat) (hj : j < k) (hk : k < (ordl ls).length) : Lt ls (sy ls j) (sy ls k) := by
 have := List.pairwise_iff_getElem.1 (ordTo_sorted ls 15) j k (by unfold ordl at hk; omega) (by unfold ordl at hk; omega) hj
 unfold sy
 rw [List.getElem?_eq_getElem (by omega),List.getElem?_eq_getElem hk]
 exact this
theorem sy_le (ls : List Nat) (j k : Nat) (hj : j <= k) (hk : k < (ordl ls).length) : ln ls (sy ls j) <= ln ls (sy ls k) := by
 by_cases e : j = k
 ·rw [e]; exact Nat.le_refl _
 ·have := sy_lt ls j k (by omega) hk; unfold Lt at this; omega
theorem sy_of (ls : List Nat) (x : Nat) (hx : x < ls.length) (h0 : 0 < ln ls x) (h15 : ln ls x <= 15) : ∃ k,k < (ordl ls).length /\ sy ls k = x := by
 have h : x ∈ ordl ls := by unfold ordl; rw [mem_ordTo]; exact ⟨hx,h0,h15⟩
 obtain ⟨k,hk,e⟩ := List.getElem_of_mem h
 exact ⟨k,hk,by unfold sy; rw [List.getElem?_eq_getElem hk]; exact e⟩
theorem sy_inj (ls : List Nat) (j k : Nat) (hj : j < (ordl ls).length) (hk : k < (ordl ls).length) (e : sy ls j = sy ls k) : j = k := by
 rcases Nat.lt_trichotomy j k with h | h | h
 ·have := sy_lt ls j k h hk; unfold Lt at this; rw [e] at this; omega
 ·exact h
 ·have := sy_lt ls k j h hj; unfold Lt at this; rw [e] at this; omega
theorem pow_split (a b c : Nat) (h1 : a <= b) (h2 : b <= c) : 2 ^ (b - a) * 2 ^ (c - b) = 2 ^ (c - a) := by
 rw [<- Nat.pow_add]; congr 1; omega
theorem st_le (ls : List Nat) (k : Nat) (hk : k < (ordl ls).length) : (st ls k).2 <= ln ls (sy ls k) := by
 cases k with
 | zero => simp [st]
 | succ k => rw [st_succ]; exact sy_le ls k (k + 1) (by omega) hk
theorem st_pf (ls : List Nat) (k : Nat) (hk : k <= (ordl ls).length) : (st ls k).1 * 2 ^ (15 - (st ls k).2) = pf ls k := by
 induction k with
 | zero => simp [st,pf]
 | succ k ih =>
  have h1 := ih (by omega)
  have h2 := st_le ls k (by omega)
  have h3 := (sy_mem ls k (by omega)).2.2
  rw [st_succ]
  show (cd ls k + 1) * 2 ^ (15 - ln ls (sy ls k)) = pf ls k + 2 ^ (15 - ln ls (sy ls k))
  rw [Nat.succ_mul,<- h1]
  unfold cd
  rw [Nat.mul_assoc,pow_split _ _ _ h2 h3]
theorem cd_pf (ls : List Nat) (k : Nat) (hk : k < (ordl ls).length) : cd ls k * 2 ^ (15 - ln ls (sy ls k)) = pf ls k := by
 have h1 := st_pf ls k (by omega)
 have h2 := st_le ls k hk
 have h3 := (sy_mem ls k hk).2.2
 rw [<- h1]
 unfold cd
 rw [Nat.mul_assoc,pow_split _ _ _ h2 h3]
theorem pf_mono (ls : List Nat) (j k : Nat) (h : j <= k) : pf ls j <= pf ls k := by
 induction k with
 | zero => have : j = 0 := by omega
           subst this; exact Nat.le_refl _
 | succ k ih =>
  by_cases e : j = k + 1
  ·rw [e]; exact Nat.le_refl _
  ·exact Nat.le_trans (ih (by omega)) (Nat.le_add_right _ _)
def tk (ls : List Nat) (q : Nat -> Bool) : Nat -> Nat
 | 0 => 0
 | k + 1 => tk ls q k + (if q (ln ls k) then 2 ^ (15 - ln ls k) else 0)
def sum (ls : List Nat) : List Nat -> Nat
 | [] => 0
 | x :: xs => 2 ^ (15 - ln ls x) + sum ls xs
theorem sum_append (ls a b : List Nat) : sum ls (a ++ b) = sum ls a + sum ls b := by
 induction a with
 | nil => simp [sum]
 | cons x xs ih => simp only [List.cons_append,sum,ih]; omega
theorem sum_row (ls : List Nat) (l k : Nat) : sum ls (rowTo ls l k) = tk ls (fun x => x == l) k := by
 induction k with
 | zero => rfl
 | succ k ih =>
  simp only [rowTo,tk,sum_append,ih]
  by_cases h : ln ls k = l
  ·rw [if_pos h,if_pos (by simp [h])]; simp [sum]
  ·rw [if_neg h,if_neg (by simp [h])]; simp [sum]
theorem tk_add (ls : List Nat) (q r s : Nat -> Bool) (h : ∀ x,s x = (q x || r x)) (hd : ∀ x,¬ (q x = true /\ r x = true)) (k : Nat) : tk ls s k = tk ls q k + tk ls r k := by
 induction k with
 | zero => rfl
 | succ k ih =>
  simp only [tk,ih,h]
  have := hd (ln ls k)
  generalize 2 ^ (15 - ln ls k) = z
  cases hq : q (ln ls k) <;> cases hr : r (ln ls k)
  ·simp
  ·simp; omega
  ·simp; omega
  ·exact absurd ⟨hq,hr⟩ this
theorem sum_ord (ls : List Nat) (l : Nat) : sum ls (ordTo ls l) = tk ls (fun x => decide (0 < x /\ x <= l)) ls.length := by
 induction l with
 | zero =>
  have : ∀ k,tk ls (fun x => decide (0 < x /\ x <= 0)) k = 0 := by
   intro k
   induction k with
   | zero => rfl
   | succ k ih => simp only [tk,ih]; rw [if_neg (by simp; omega)]
  rw [this]; rfl
 | succ l ih =>
  simp only [ordTo,sum_append,ih,sum_row]
  refine (tk_add ls _ _ _ (fun x => ?_) (fun x => ?_) _).symm
  ·rw [Bool.eq_iff_iff]; simp; omega
  ·simp; omega
theorem pf_sum (ls : List Nat) (k : Nat) (hk : k <= (ordl ls).length) : pf ls k = sum ls ((ordl ls).take k) := by
 induction k with
 | zero => rfl
 | succ k ih =>
  rw [List.take_succ_eq_append_getElem (by omega),sum_append,<- ih (by omega)]
  show pf ls k + _ = _
  unfold sy
  rw [List.getElem?_eq_getElem (by omega)]
  simp [sum]
theorem pf_all (ls : List Nat) (h15 : ∀ i,i < ls.length -> ln ls i <= 15) : pf ls (ordl ls).length = tk ls (fun x => decide (0 < x)) ls.length := by
 rw [pf_sum ls _ (Nat.le_refl _),List.take_length]
 unfold ordl
 rw [sum_ord]
 have : ∀ k,k <= ls.length -> tk ls (fun x => decide (0 < x /\ x <= 15)) k = tk ls (fun x => decide (0 < x)) k := by
  intro k
  induction k with
  | zero => intro _; rfl
  | succ k ih =>
   intro hk
   have := h15 k (by omega)
   simp only [tk,ih (by omega)]
   congr 1
   by_cases h : 0 < ln ls k
   ·rw [if_pos (by simp; omega),if_pos (by simp [h])]
   ·rw [if_neg (by simp; omega),if_neg (by simp [h])]
 exact this _ (Nat.le_refl _)
def cn (ls : List Nat) (q : Nat -> Bool) : Nat -> Nat
 | 0 => 0
 | k + 1 => cn ls q k + (if q (ln ls k) then 1 else 0)
theorem cn_le (ls : List Nat) (q : Nat -> Bool) (k : Nat) : cn ls q k <= k := by
 induction k with
 | zero => exact Nat.le_refl _
 | succ k ih => simp only [cn]; split <;> omega
theorem len_row (ls : List Nat) (l k : Nat) : (rowTo ls l k).length = cn ls (fun x => x == l) k := by
 induction k with
 | zero => rfl
 | succ k ih =>
  simp only [rowTo,cn,List.length_append,ih]
  by_cases h : ln ls k = l
  ·rw [if_pos h,if_pos (by simp [h])]; rfl
  ·rw [if_neg h,if_neg (by simp [h])]; rfl
theorem cn_add (ls : List Nat) (q r s : Nat -> Bool) (h : ∀ x,s x = (q x || r x)) (hd : ∀ x,¬ (q x = true /\ r x = true)) (k : Nat) : cn ls s k = cn ls q k + cn ls r k := by
 induction k with
 | zero => rfl
 | succ k ih =>
  simp only [cn,ih,h]
  have := hd (ln ls k)
  cases hq : q (ln ls k) <;> cases hr : r (ln ls k)
  ·simp
  ·simp; omega
  ·simp; omega
  ·exact absurd ⟨hq,hr⟩ this
theorem len_ord (ls : List Nat) (l : Nat) : (ordTo ls l).length = cn ls (fun x => decide (0 < x /\ x <= l)) ls.length := by
 induction l with
 | zero =>
  have : ∀ k,cn ls (fun x => decide (0 < x /\ x <= 0)) k = 0 := by
   intro k
   induction k with
   | zero => rfl
   | succ k ih => simp only [cn,ih]; rw [if_neg (by simp; omega)]
  rw [this]; rfl
 | succ l ih =>
  simp only [ordTo,List.length_append,ih,len_row]
  refine (cn_add ls _ _ _ (fun x => ?_) (fun x => ?_) _).symm
  ·rw [Bool.eq_iff_iff]; simp; omega
  ·simp; omega
theorem ordl_length_le (ls : List Nat) : (ordl ls).length <= ls.length := by
 unfold ordl
 rw [len_ord]
 exact cn_le _ _ _
theorem cd_lt (ls : List Nat) (k : Nat) (hk : k < (ordl ls).length) (hp : pf ls (ordl ls).length <= 32768) : cd ls k < 2 ^ ln ls (sy ls k) := by
 have h1 := cd_pf ls k hk
 have h2 := pf_mono ls (k + 1) (ordl ls).length (by omega)
 have h3 := (sy_mem ls k hk).2.2
 have h4 : pf ls (k + 1) = pf ls k + 2 ^ (15 - ln ls (sy ls k)) := rfl
 have h5 : 2 ^ ln ls (sy ls k) * 2 ^ (15 - ln ls (sy ls k)) = 32768 := by rw [<- Nat.pow_add,show ln ls (sy ls k) + (15 - ln ls (sy ls k)) = 15 by omega]
 have h6 : 0 < 2 ^ (15 - ln ls (sy ls k)) := Nat.two_pow_pos _
 refine Nat.lt_of_mul_lt_mul_right (a := 2 ^ (15 - ln ls (sy ls k))) ?_
 omega
theorem cd_small (ls : List Nat) (k : Nat) (hk : k < (ordl ls).length) (hp : pf ls (ordl ls).length <= 32768) : cd ls k < 32768 := by
 have h1 := cd_lt ls k hk hp
 have h2 := (sy_mem ls k hk).2.2
 have h3 : 2 ^ ln ls (sy ls k) <= 2 ^ 15 := Nat.pow_le_pow_right (by omega) h2
 omega
theorem outOf_get (ls : List Nat) (k : Nat) (hk : k <= (ordl ls).length) (j : Nat) (hj : j < k) : (outOf ls.length (codedTo ls k))[sy ls j]?.getD 0 = cd ls j := by
 induction k with
 | zero => omega
 | succ k ih =>
  simp only [codedTo,outOf_snoc]
  by_cases e : j = k
  ·subst e
   rw [List.getElem?_set_self (by rw [outOf_length]; exact (sy_mem ls j (by omega)).1)]
   rfl
  ·have hne : sy ls k ≠ sy ls j := fun h => e (sy_inj ls j k (by omega) (by omega) h.symm)
   rw [List.getElem?_set_ne hne]
   exact ih (by omega) (by omega)
theorem codes_get (ls : List Nat) (j : Nat) (hj : j < (ordl ls).length) : (codes ls)[sy ls j]?.getD 0 = cd ls j := outOf_get ls _ (Nat.le_refl _) j hj
theorem rowTo_pre (ls : List Nat) (l i m : Nat) : rowTo ls l i <+: rowTo ls l (i + m) := by
 induction m with
 | zero => exact List.prefix_refl _
 | succ m ih => exact ih.trans (List.prefix_append _ _)
theorem ordTo_pre (ls : List Nat) (l m : Nat) : ordTo ls l <+: ordTo ls (l + m) := by
 induction m with
 | zero => exact List.prefix_refl _
 | succ m ih => exact ih.trans (List.prefix_append _ _)
def At (ls : List Nat) (l i k : Nat) : Prop := k = (ordTo ls l).length + (rowTo ls (l + 1) i).length
theorem At.start (ls : List Nat) : At ls 0 0 0 := rfl
theorem At.next {ls : List Nat} {l k : Nat} (h : At ls l ls.length k) : At ls (l + 1) 0 k := by
 unfold At at h ⊢
 rw [h]; simp [ordTo,rowTo]
theorem At.skip {ls : List Nat} {l i k : Nat} (h : At ls l i k) (hne : ln ls i ≠ l + 1) : At ls l (i + 1) k := by
 unfold At at h ⊢
 rw [h]; simp [rowTo,hne]
theorem At.put {ls : List Nat} {l i k : Nat} (h : At ls l i k) (he : ln ls i = l + 1) : At ls l (i + 1) (k + 1) := by
 unfold At at h ⊢
 rw [h]; simp [rowTo,he]; omega
theorem At.here {ls : List Nat} {l i k : Nat} (h : At ls l i k) (he : ln ls i = l + 1) (hi : i < ls.length) (hl : l < 15) : k < (ordl ls).length /\ sy ls k = i := by
 have h1 : rowTo ls (l + 1) (i + 1) <+: rowTo ls (l + 1) ls.length := by
  have := rowTo_pre ls (l + 1) (i + 1) (ls.length - (i + 1))
  rwa [show i + 1 + (ls.length - (i + 1)) = ls.length by omega] at this
 have h2 : ordTo ls (l + 1) <+: ordl ls := by
  have := ordTo_pre ls (l + 1) (15 - (l + 1))
  rwa [show l + 1 + (15 - (l + 1)) = 15 by omega] at this
 obtain ⟨t1,e1⟩ := h1
 obtain ⟨t2,e2⟩ := h2
 have e3 : ordl ls = (ordTo ls l ++ rowTo ls (l + 1) i) ++ (i :: (t1 ++ t2)) := by
  rw [<- e2]
  show (ordTo ls l ++ rowTo ls (l + 1) ls.length) ++ t2 = _
  rw [<- e1]
  simp [rowTo,he]
 have hk : k = (ordTo ls l ++ rowTo ls (l + 1) i).length := by rw [List.length_append]; exact h
 unfold sy
 rw [e3,hk]
 constructor
 ·simp
 ·rw [List.getElem?_append_right (Nat.le_refl _),Nat.sub_self]
  rfl
theorem At.fin {ls : List Nat} {k : Nat} (h : At ls 15 0 k) : k = (ordl ls).length := by
 unfold At at h
 rw [h]; simp [rowTo,ordl]
end Hf
end
section
namespace Sy
def lf : List Nat := [3,4,5,6,7,8,9,10,11,13,15,17,19,23,27,31,35,43,51,59,67,83,99,115,131,163,195,227,258]
def lb : List Nat := [0,0,0,0,0,0,0,0,1,1,1,1,2,2,2,2,3,3,3,3,4,4,4,4,5,5,5,5,0]
def df : List Nat := [1,2,3,4,5,7,9,13,17,25,33,49,65,97,129,193,257,385,513,769,1025,1537,2049,3073,4097,6145,8193,12289,16385,24577]
def db : List Nat := [0,0,0,0,1,1,2,2,3,3,4,4,5,5,6,6,7,7,8,8,9,9,10,10,11,11,12,12,13,13]
def at' (l : List Nat) (i : Nat) : Nat := l[i]?.getD 0
def lastTo (l : List Nat) (n : Nat) : Nat -> Nat
 | 0 => 0
 | i + 1 => if at' l i <= n then i else lastTo l n i
theorem lastTo_succ (l : List Nat) (n i : Nat) : lastTo l n (i + 1) = if at' l i <= n then i else lastTo l n i := rfl
def start (least per : Nat) : Nat -> Nat
 | 0 => least
 | g + 1 => start least per g + per * 2 ^ (g - 1)
theorem start_succ (least per g : Nat) : start least per (g + 1) = start least per g + per * 2 ^ (g - 1) := rfl
theorem lf_rises : ∀ i,i < 28 -> at' lf i < at' lf (i + 1) := by decide
theorem df_rises : ∀ i,i < 29 -> at' df i < at' df (i + 1) := by decide
theorem rises {l : List Nat} {N : Nat} (h : ∀ i,i < N -> at' l i < at' l (i + 1)) (i j : Nat) (hij : i <= j) (hj : j <= N) : at' l i <= at' l j := by
 induction j with
 | zero => obtain rfl : i = 0 := by omega
           exact Nat.le_refl _
 | succ j ih =>
  rcases Nat.lt_or_ge i (j + 1) with h1 | h1
  ·have := ih (by omega) (by omega)
   have := h j (by omega)
   omega
  ·obtain rfl : i = j + 1 := by omega
   exact Nat.le_refl _
theorem last_is {l : List Nat} {N : Nat} (h : ∀ i,i < N -> at' l i < at' l (i + 1)) (n k : Nat) (hk : k <= N) (h1 : at' l k <= n) (h2 : k < N -> n < at' l (k + 1)) : lastTo l n (N + 1) = k := by
 have : ∀ j,k < j -> j <= N + 1 -> lastTo l n j = k := by
  intro j
  induction j with
  | zero => intro _; omega
  | succ j ih =>
   intro ha hb
   rw [lastTo_succ]
   by_cases he : j = k
   ·subst he; rw [if_pos h1]
   ·have h3 := rises h (k + 1) j (by omega) (by omega)
    have h4 := h2 (by omega)
    rw [if_neg (by omega)]
    exact ih (by omega) (by omega)
 exact this _ (by omega) (Nat.le_refl _)
theorem last_has {l : List Nat} {N : Nat} (_ : ∀ i,i < N -> at' l i < at' l (i + 1)) (n : Nat) (h0 : at' l 0 <= n) : lastTo l n (N + 1) <= N /\ at' l (lastTo l n (N + 1)) <= n /\ (lastTo l n (N + 1) < N -> n < at' l (lastTo l n (N + 1) + 1)) := by
 have : ∀ j,0 < j -> j <= N + 1 -> lastTo l n j < j /\ at' l (lastTo l n j) <= n /\ (lastTo l n j + 1 < j -> n < at' l (lastTo l n j + 1)) := by
  intro j
  induction j with
  | zero => intro _; omega
  | succ j ih =>
   intro _ hb
   rw [lastTo_succ]
   by_cases he : at' l j <= n
   ·rw [if_pos he]; exact ⟨by omega,he,by omega⟩
   ·rw [if_neg he]
    rcases Nat.eq_zero_or_pos j with hj | hj
    ·subst hj; exact absurd h0 he
    ·have := ih hj (by omega)
     refine ⟨by omega,this.2.1,fun hlt => ?_⟩
     rcases Nat.lt_or_ge (lastTo l n j + 1) j with h5 | h5
     ·exact this.2.2 h5
     ·have : lastTo l n j + 1 = j := by omega
      rw [this]; omega
 have := this (N + 1) (by omega) (Nat.le_refl _)
 exact ⟨by omega,this.2.1,fun h => this.2.2 (by omega)⟩
def lk (n : Nat) : Nat := lastTo lf n 29
def dk (n : Nat) : Nat := lastTo df n 30
theorem lk_has (n : Nat) (h : 3 <= n) : lk n <= 28 /\ at' lf (lk n) <= n /\ (lk n < 28 -> n < at' lf (lk n + 1)) := last_has lf_rises n h
theorem dk_has (n : Nat) (h : 1 <= n) : dk n <= 29 /\ at' df (dk n) <= n /\ (dk n < 29 -> n < at' df (dk n + 1)) := last_has df_rises n h
theorem lk_is (n k : Nat) (hk : k <= 28) (h1 : at' lf k <= n) (h2 : k < 28 -> n < at' lf (k + 1)) : lk n = k := last_is lf_rises n k hk h1 h2
theorem dk_is (n k : Nat) (hk : k <= 29) (h1 : at' df k <= n) (h2 : k < 29 -> n < at' df (k + 1)) : dk n = k := last_is df_rises n k hk h1 h2
theorem lf_next : ∀ k,k < 27 -> at' lf (k + 1) = at' lf k + 2 ^ at' lb k := by decide
theorem df_next : ∀ k,k < 29 -> at' df (k + 1) = at' df k + 2 ^ at' db k := by decide
theorem lf_group : ∀ g,g < 7 -> ∀ q,q < 4 -> at' lf (4 * g + q) = start 3 4 g + q * 2 ^ (g - 1) /\ at' lb (4 * g + q) = g - 1 := by decide
theorem df_group : ∀ g,g < 15 -> ∀ q,q < 2 -> at' df (2 * g + q) = start 1 2 g + q * 2 ^ (g - 1) /\ at' db (2 * g + q) = g - 1 := by decide
theorem lf_start : ∀ g,g < 8 -> start 3 4 g <= 259 := by decide
theorem df_start : ∀ g,g < 16 -> start 1 2 g <= 32769 := by decide
theorem lf_end : start 3 4 7 = 259 := by decide
theorem df_end : start 1 2 15 = 32769 := by decide
theorem lb_le : ∀ k,k < 29 -> at' lb k <= 5 := by decide
theorem db_le : ∀ k,k < 30 -> at' db k <= 13 := by decide
theorem lf_le : ∀ k,k < 29 -> 3 <= at' lf k /\ at' lf k + 2 ^ at' lb k <= 259 := by decide
theorem df_le : ∀ k,k < 30 -> 1 <= at' df k /\ at' df k + 2 ^ at' db k <= 32769 := by decide
theorem l_group (n g : Nat) (hg : g < 7) (hn : n <= 257) (h1 : start 3 4 g <= n) (h2 : n - start 3 4 g < 4 * 2 ^ (g - 1)) :
  4 * g + (n - start 3 4 g) / 2 ^ (g - 1) = lk n /\ (n - start 3 4 g) % 2 ^ (g - 1) = n - at' lf (lk n) := by
 have hp : 0 < 2 ^ (g - 1) := Nat.pow_pos (by omega)
 have hq : (n - start 3 4 g) / 2 ^ (g - 1) < 4 := (Nat.div_lt_iff_lt_mul hp).2 h2
 have hd := Nat.div_add_mod (n - start 3 4 g) (2 ^ (g - 1))
 have hm := Nat.mod_lt (n - start 3 4 g) hp
 obtain ⟨q,eq⟩ : ∃ q,q = (n - start 3 4 g) / 2 ^ (g - 1) := ⟨_,rfl⟩
 obtain ⟨r,er⟩ : ∃ r,r = (n - start 3 4 g) % 2 ^ (g - 1) := ⟨_,rfl⟩
 rw [<- eq] at hq hd ⊢
 rw [<- er] at hd hm ⊢
 obtain ⟨e1,e2⟩ := lf_group g hg q hq
 rw [Nat.mul_comm] at hd
 have hk : lk n = 4 * g + q := by
  refine lk_is n _ (by omega) (by omega) fun hlt => ?_
  rcases Nat.lt_or_ge (4 * g + q) 27 with h | h
  ·rw [lf_next _ h,e2]; omega
  ·obtain e : 4 * g + q = 27 := by omega
   rw [e]
   show n < 258
   omega
 rw [hk]
 exact ⟨rfl,by omega⟩
theorem d_group (n g : Nat) (hg : g < 15) (h1 : start 1 2 g <= n) (h2 : n - start 1 2 g < 2 * 2 ^ (g - 1)) :
  2 * g + (n - start 1 2 g) / 2 ^ (g - 1) = dk n /\ (n - start 1 2 g) % 2 ^ (g - 1) = n - at' df (dk n) := by
 have hp : 0 < 2 ^ (g - 1) := Nat.pow_pos (by omega)
 have hq : (n - start 1 2 g) / 2 ^ (g - 1) < 2 := (Nat.div_lt_iff_lt_mul hp).2 h2
 have hd := Nat.div_add_mod (n - start 1 2 g) (2 ^ (g - 1))
 have hm := Nat.mod_lt (n - start 1 2 g) hp
 obtain ⟨q,eq⟩ : ∃ q,q = (n - start 1 2 g) / 2 ^ (g - 1) := ⟨_,rfl⟩
 obtain ⟨r,er⟩ : ∃ r,r = (n - start 1 2 g) % 2 ^ (g - 1) := ⟨_,rfl⟩
 rw [<- eq] at hq hd ⊢
 rw [<- er] at hd hm ⊢
 obtain ⟨e1,e2⟩ := df_group g hg q hq
 rw [Nat.mul_comm] at hd
 have hk : dk n = 2 * g + q := by
  refine dk_is n _ (by omega) (by omega) fun hlt => ?_
  rw [df_next _ hlt,e2]; omega
 rw [hk]
 exact ⟨rfl,by omega⟩
theorem l_sum (k : Nat) (hk : k < 28) : start 3 4 (k / 4) + k % 4 * 2 ^ (k / 4 - 1) = at' lf k /\ at' lb k = k / 4 - 1 := by
 have h := lf_group (k / 4) (by omega) (k % 4) (by omega)
 rw [show 4 * (k / 4) + k % 4 = k from by omega] at h
 exact ⟨h.1.symm,h.2⟩
theorem d_sum (k : Nat) (hk : k < 30) : start 1 2 (k / 2) + k % 2 * 2 ^ (k / 2 - 1) = at' df k /\ at' db k = k / 2 - 1 := by
 have h := df_group (k / 2) (by omega) (k % 2) (by omega)
 rw [show 2 * (k / 2) + k % 2 = k from by omega] at h
 exact ⟨h.1.symm,h.2⟩
end Sy
end
section
open Go.RowKit Go.Maps Go.ChangeMaps
structure Tch (S : Nat -> Prop) (w w' : World) : Prop where
 os : w'.os = w.os
 tape : w'.tape = w.tape
 output : w'.output = w.output
 size : w.heap.size <= w'.heap.size
 block : ∀ k,k < w.heap.size -> ¬ S k -> w'.heap[k]? = w.heap[k]?
theorem Tch.refl (S : Nat -> Prop) (w : World) : Tch S w w := ⟨rfl,rfl,rfl,Nat.le_refl _,fun _ _ _ => rfl⟩
theorem Tch.trans {S : Nat -> Prop} {a b c : World} (h : Tch S a b) (k : Tch S b c) : Tch S a c :=
 ⟨k.os.trans h.os,k.tape.trans h.tape,k.output.trans h.output,Nat.le_trans h.size k.size,fun i hi hn => (k.block i (Nat.lt_of_lt_of_le hi h.size) hn).trans (h.block i hi hn)⟩
theorem Tch.then {S T : Nat -> Prop} {a b c : World} (h : Tch S a b) (k : Tch T b c) (hT : ∀ i,T i -> S i ∨ a.heap.size <= i) : Tch S a c :=
 ⟨k.os.trans h.os,k.tape.trans h.tape,k.output.trans h.output,Nat.le_trans h.size k.size,fun i hi hn => (k.block i (Nat.lt_of_lt_of_le hi h.size) (fun ht => (hT i ht).elim hn (fun hl => by omega))).trans (h.block i hi hn)⟩
theorem Tch.mono {S T : Nat -> Prop} {a b : World} (h : Tch S a b) (hT : ∀ i,S i -> T i) : Tch T a b := ⟨h.os,h.tape,h.output,h.size,fun i hi hn => h.block i hi (fun hs => hn (hT i hs))⟩
theorem Tch.below {S : Nat -> Prop} {B : Nat} {a w w' : World} (h : Tch S w w') (hb : Below B a w) (hS : ∀ k,S k -> B <= k) (hB : B <= w.heap.size) : Below B a w' :=
 hb.trans ⟨h.os,h.tape,h.output,h.size,fun k hk => h.block k (by omega) (fun hs => by have := hS k hs; omega)⟩
theorem Tch.of_below {S : Nat -> Prop} {w w' : World} (h : Below w.heap.size w w') : Tch S w w' := ⟨h.os,h.tape,h.output,h.size,fun k hk _ => h.block k hk⟩
theorem Tch.of_only {S : Nat -> Prop} {g : Nat} {w w' : World} (h : Only g w w') (hg : S g) : Tch S w w' := ⟨h.os,h.tape,h.output,h.size,fun k hk hn => h.block k hk (fun e => hn (by rw [e]; exact hg))⟩
theorem Tch.alloc {S : Nat -> Prop} {a w : World} (h : Tch S a w) (o : Obj) : Tch S a (w.alloc o) := h.trans (Tch.of_below (below1 w o))
theorem Tch.setCell {S : Nat -> Prop} {a w : World} (h : Tch S a w) {p : Addr} (hp : S p.block) (v : Value) : Tch S a (w.setCell p v) :=
 h.trans ⟨rfl,rfl,rfl,by simp,fun k _ hn => Below.heap_setCell w p v k (fun e => hn (by rw [e]; exact hp))⟩
theorem Tch.drewN {S : Nat -> Prop} {a w : World} (h : Tch S a w) (n : Nat) : Tch S a (w.drewN n) := ⟨h.os,h.tape,h.output,h.size,h.block⟩
theorem Tch.drew {S : Nat -> Prop} {a w : World} (h : Tch S a w) : Tch S a w.drew := ⟨h.os,h.tape,h.output,h.size,h.block⟩
def Mp (w : World) (b n : Nat) (f : Nat -> Option Value) : Prop :=
 ∃ es clock,w.heap[b]? = some (.map es clock) /\ es.size <= n /\ (∀ x ∈ es.toList,∃ i : Nat,i < 9223372036854775808 /\ x.key = .int .i64 (i : Int)) /\ es.toList.Pairwise (fun x y => x.key ≠ y.key) /\
  ∀ (i : Nat) (v : Value),f i = some v ↔ ∃ x ∈ es.toList,x.key = .int .i64 (i : Int) /\ x.val = v
theorem key_wf (i : Nat) (h : i < 9223372036854775808) : (Lit.int .i64 (i : Int)).wf = true := WalkArith.wf_i64 (by omega)
theorem keyOf_nat {P : Program} {k : TypeId} (hk : P.underlying k = some (.int .i64)) (i : Nat) (h : i < 9223372036854775808) : keyOf P k (.int .i64 (i : Int)) = some (.int .i64 (i : Int)) := keyOf_int_mk hk (key_wf i h)
theorem key_inj {i j : Nat} (h : Value.int .i64 (i : Int) = Value.int .i64 (j : Int)) : i = j := by
 simp only [Value.int.injEq,true_and] at h
 omega
theorem Mp.lt {w : World} {b n : Nat} {f : Nat -> Option Value} (h : Mp w b n f) : b < w.heap.size := by
 obtain ⟨es,clock,hb,_⟩ := h
 exact (Array.getElem?_eq_some_iff.1 hb).1
theorem Mp.mono {w : World} {b n m : Nat} {f : Nat -> Option Value} (h : Mp w b n f) (hm : n <= m) : Mp w b m f := by
 obtain ⟨es,clock,hb,hn,r⟩ := h
 exact ⟨es,clock,hb,by omega,r⟩
theorem Mp.same {w w' : World} {b n : Nat} {f : Nat -> Option Value} (h : Mp w b n f) (he : w'.heap[b]? = w.heap[b]?) : Mp w' b n f := by
 obtain ⟨es,clock,hb,r⟩ := h
 exact ⟨es,clock,he.trans hb,r⟩
theorem Mp.only {g : Nat} {w w' : World} {b n : Nat} {f : Nat -> Option Value} (h : Mp w b n f) (ht : Only g w w') (hn : b ≠ g) : Mp w' b n f := h.same (ht.block b h.lt hn)
theorem Mp.later {w w' : World} {b n : Nat} {f : Nat -> Option Value} (h : Mp w b n f) (hb : Below w.heap.size w w') : Mp w' b n f := h.same (hb.block b h.lt)
theorem Mp.alloc {w : World} {b n : Nat} {f : Nat -> Option Value} (h : Mp w b n f) (o : Obj) : Mp (w.alloc o) b n f := h.later (below1 w o)
theorem Mp.set {w : World} {b n : Nat} {f : Nat -> Option Value} (h : Mp w b n f) {a : Addr} (hne : b ≠ a.block) (v : Value) : Mp (w.setCell a v) b n f := h.same (Below.heap_setCell w a v b hne)
theorem Mp.new (w : World) : Mp (w.alloc (.map #[] 0)) w.heap.size 0 (fun _ => none) :=
 ⟨#[],0,(MapKept.heap_alloc w _).1,Nat.le_refl _,by simp,by simp,by simp⟩
theorem Mp.ne_has {w : World} {b n : Nat} {f : Nat -> Option Value} (h : Mp w b n f) {c : Nat} {cs : Array Value} {t : TypeId} {fr : Nat × Nat} (hc : Has w c (.cells cs t fr)) : b ≠ c := by
 rintro rfl
 obtain ⟨es,clock,hb,_⟩ := h
 have e : some (Obj.map es clock) = some (Obj.cells cs t fr) := hb.symm.trans hc
 cases e
section
variable {P : Program} {k t e : TypeId} {w : World} {b n : Nat} {f : Nat -> Option Value}
theorem Mp.keys (hk : P.underlying k = some (.int .i64)) {es : Array MapEntry} (h : ∀ x ∈ es.toList,∃ i : Nat,i < 9223372036854775808 /\ x.key = .int .i64 (i : Int)) : ∀ x ∈ es.toList,∃ l,keyOf P k x.key = some l := fun x hx => by
 obtain ⟨i,hi,he⟩ := h x hx
 exact ⟨_,by rw [he]; exact keyOf_nat hk i hi⟩
theorem Mp.look_none (h : Mp w b n f) (hk : P.underlying k = some (.int .i64)) (ht : P.underlying t = some (.map k e)) {z : Value} (hz : (zeroValue e).run P w = .ok z w) (c : Bool) (i : Nat) (hi : i < 9223372036854775808) (hf : f i = none) :
  (Instr.lookup t (.map (some b)) (.int .i64 (i : Int)) c).run P w = .ok (if c then .tuple #[z,.bool false] else z) w := by
 obtain ⟨es,clock,hb,hn,hks,hp,hv⟩ := h
 have K := int_keyed (P := P) hk
 have hkey := keyOf_nat (P := P) hk i hi
 rcases K.find w hkey es.toList (Mp.keys hk hks) with ⟨h1,h2⟩ | ⟨j,e0,h1,h2,h3⟩
 ·simp [Instr.lookup,run_underlying ht,MapKept.run_getObj_map hb,K.check w _ hkey,h1,hz,Result.andThen]
 ·have := (hv i e0.val).2 ⟨e0,List.mem_of_getElem? h2,h3,rfl⟩
  rw [hf] at this
  cases this
theorem Mp.look_some (h : Mp w b n f) (hk : P.underlying k = some (.int .i64)) (ht : P.underlying t = some (.map k e)) (c : Bool) (i : Nat) (hi : i < 9223372036854775808) {v : Value} (hf : f i = some v) :
  (Instr.lookup t (.map (some b)) (.int .i64 (i : Int)) c).run P w = .ok (if c then .tuple #[v,.bool true] else v) w := by
 obtain ⟨es,clock,hb,hn,hks,hp,hv⟩ := h
 have K := int_keyed (P := P) hk
 have hkey := keyOf_nat (P := P) hk i hi
 rcases K.find w hkey es.toList (Mp.keys hk hks) with ⟨h1,h2⟩ | ⟨j,e0,h1,h2,h3⟩
 ·obtain ⟨x,hx,he,_⟩ := (hv i v).1 hf
  exact absurd he (h2 x hx)
 ·have := (hv i e0.val).2 ⟨e0,List.mem_of_getElem? h2,h3,rfl⟩
  rw [hf] at this
  simp only [Option.some.injEq] at this
  simp [Instr.lookup,run_underlying ht,MapKept.run_getObj_map hb,K.check w _ hkey,h1,Result.andThen,this]
theorem only_setBlock {es : Array MapEntry} {clock : Nat} (hb : w.heap[b]? = some (.map es clock)) (o : Obj) : Only b w (setBlock w b o) :=
 ⟨rfl,rfl,rfl,by simp [setBlock],fun i _ hn => heap_setBlock_other hb o hn⟩
theorem Mp.store (h : Mp w b n f) (hk : P.underlying k = some (.int .i64)) (ht : P.underlying t = some (.map k e)) (i : Nat) (hi : i < 9223372036854775808) (v : Value) :
  ∃ w',(Instr.mapUpdate t (.map (some b)) (.int .i64 (i : Int)) v).run P w = .ok () w' /\ Mp w' b (n + 1) (fun j => if j = i then some v else f j) /\ Only b w w' /\ w'.heap.size = w.heap.size := by
 obtain ⟨es,clock,hb,hn,hks,hp,hv⟩ := h
 have K := int_keyed (P := P) hk
 have hkey := keyOf_nat (P := P) hk i hi
 rcases K.find w hkey es.toList (Mp.keys hk hks) with ⟨h1,h2⟩ | ⟨j,e0,h1,h2,h3⟩
 ·refine ⟨setBlock w b (.map (es.push ⟨.int .i64 (i : Int),v,clock⟩) (clock + 1)),?_,⟨_,_,heap_setBlock_same hb _,by simp; omega,?_,?_,?_⟩,only_setBlock hb _,by simp [setBlock]⟩
  ·simp [Instr.mapUpdate,run_underlying ht,MapKept.run_getObj_map hb,K.check w false hkey,h1,MapKept.run_setObj_map _ hb,Result.andThen,setBlock]
  ·intro x hx
   simp only [Array.toList_push,List.mem_append,List.mem_singleton] at hx
   rcases hx with hx | rfl
   ·exact hks x hx
   ·exact ⟨i,hi,rfl⟩
  ·rw [Array.toList_push,List.pairwise_append]
   exact ⟨hp,by simp,fun x hx y hy => by simp at hy; subst hy; exact h2 x hx⟩
  ·intro j u
   simp only [Array.toList_push,List.mem_append,List.mem_singleton]
   by_cases hj : j = i
   ·subst hj
    rw [if_pos rfl]
    constructor
    ·intro e; cases e; exact ⟨_,Or.inr rfl,rfl,rfl⟩
    ·rintro ⟨x,hx | rfl,he,hu⟩
     ·exact absurd he (h2 x hx)
     ·simp at hu; rw [hu]
   ·rw [if_neg hj,hv j u]
    constructor
    ·rintro ⟨x,hx,he,hu⟩; exact ⟨x,Or.inl hx,he,hu⟩
    ·rintro ⟨x,hx | rfl,he,hu⟩
     ·exact ⟨x,hx,he,hu⟩
     ·exact absurd (key_inj he).symm hj
 ·have hj : es[j]? = some e0 := by simpa using h2
  have hjl : j < es.toList.length := (List.getElem?_eq_some_iff.1 h2).1
  have hlist : (es.modify j (fun e' => { e' with key := .int .i64 (i : Int),val := v })).toList = es.toList.set j { e0 with key := .int .i64 (i : Int),val := v } := by rw [Array.toList_modify,modify_eq_set _ _ _ _ h2]
  have other : ∀ x ∈ es.toList,x.key = .int .i64 (i : Int) -> x = e0 := by
   intro x hx hxk
   obtain ⟨q,hq⟩ := List.getElem?_of_mem hx
   rcases Nat.lt_trichotomy q j with hlt | rfl | hlt
   ·have := (List.pairwise_iff_getElem.1 hp) q j (List.getElem?_eq_some_iff.1 hq).1 hjl hlt
    rw [(List.getElem?_eq_some_iff.1 hq).2,(List.getElem?_eq_some_iff.1 h2).2] at this
    exact absurd (hxk.trans h3.symm) this
   ·rw [hq] at h2; cases h2; rfl
   ·have := (List.pairwise_iff_getElem.1 hp) j q hjl (List.getElem?_eq_some_iff.1 hq).1 hlt
    rw [(List.getElem?_eq_some_iff.1 hq).2,(List.getElem?_eq_some_iff.1 h2).2] at this
    exact absurd (h3.trans hxk.symm) this
  have who : ∀ x ∈ es.toList.set j { e0 with key := .int .i64 (i : Int),val := v },x = { e0 with key := .int .i64 (i : Int),val := v } ∨ (x ∈ es.toList /\ x.key ≠ .int .i64 (i : Int)) := by
   intro x hx
   obtain ⟨q,hq,ex⟩ := List.getElem_of_mem hx
   rw [List.getElem_set] at ex
   split at ex
   ·exact Or.inl ex.symm
   ·rename_i hne
    have hq' : q < es.toList.length := by simpa using hq
    refine Or.inr ⟨ex ▸ List.getElem_mem hq',fun hk2 => ?_⟩
    have hx0 := other x (ex ▸ List.getElem_mem hq') hk2
    rcases Nat.lt_trichotomy q j with hlt | he | hlt
    ·have := (List.pairwise_iff_getElem.1 hp) q j hq' hjl hlt
     rw [ex,(List.getElem?_eq_some_iff.1 h2).2,hx0] at this
     exact this rfl
    ·exact hne he.symm
    ·have := (List.pairwise_iff_getElem.1 hp) j q hjl hq' hlt
     rw [ex,(List.getElem?_eq_some_iff.1 h2).2,hx0] at this
     exact this rfl
  have hin : ({ e0 with key := .int .i64 (i : Int),val := v } : MapEntry) ∈ es.toList.set j { e0 with key := .int .i64 (i : Int),val := v } := List.mem_iff_getElem.2 ⟨j,by simpa using hjl,by simp⟩
  have hold : ∀ x ∈ es.toList,x.key ≠ .int .i64 (i : Int) -> x ∈ es.toList.set j { e0 with key := .int .i64 (i : Int),val := v } := by
   intro x hx hne
   obtain ⟨q,hq⟩ := List.getElem?_of_mem hx
   have hqj : j ≠ q := by rintro rfl; rw [hq] at h2; cases h2; exact hne h3
   exact List.mem_of_getElem? (i := q) (by rw [List.getElem?_set_ne hqj]; exact hq)
  refine ⟨setBlock w b (.map (es.modify j (fun e' => { e' with key := .int .i64 (i : Int),val := v })) clock),?_,⟨_,_,heap_setBlock_same hb _,by simp; omega,?_,?_,?_⟩,only_setBlock hb _,by simp [setBlock]⟩
  ·simp [Instr.mapUpdate,run_underlying ht,MapKept.run_getObj_map hb,K.check w false hkey,h1,hj,h3,K.stays w hkey,MapKept.run_setObj_map _ hb,Result.andThen,setBlock]
  ·intro x hx
   rw [hlist] at hx
   rcases who x hx with rfl | ⟨hx',_⟩
   ·exact ⟨i,hi,rfl⟩
   ·exact hks x hx'
  ·rw [hlist,List.pairwise_iff_getElem]
   intro p q hp1 hq1 hpq
   have hp2 : p < es.toList.length := by simpa using hp1
   have hq2 : q < es.toList.length := by simpa using hq1
   have hh := (List.pairwise_iff_getElem.1 hp) p q hp2 hq2 hpq
   have ek : (es.toList[j]'hjl).key = .int .i64 (i : Int) := by rw [(List.getElem?_eq_some_iff.1 h2).2]; exact h3
   rw [List.getElem_set,List.getElem_set]
   split
   ·rename_i e1; subst e1
    rw [if_neg (by omega)]
    rw [ek] at hh; exact hh
   ·split
    ·rename_i e2; subst e2
     rw [ek] at hh; exact hh
    ·exact hh
  ·intro q u
   rw [hlist]
   show (if q = i then some v else f q) = some u ↔ _
   by_cases hq : q = i
   ·subst hq
    rw [if_pos rfl]
    constructor
    ·intro e; cases e; exact ⟨_,hin,rfl,rfl⟩
    ·rintro ⟨x,hx,he,hu⟩
     rcases who x hx with rfl | ⟨_,hne⟩
     ·simp at hu; rw [hu]
     ·exact absurd he hne
   ·rw [if_neg hq,hv q u]
    constructor
    ·rintro ⟨x,hx,he,hu⟩; exact ⟨x,hold x hx (by rw [he]; intro e; exact hq (key_inj e)),he,hu⟩
    ·rintro ⟨x,hx,he,hu⟩
     rcases who x hx with rfl | ⟨hx',_⟩
     ·exact absurd (key_inj he).symm hq
     ·exact ⟨x,hx',he,hu⟩
theorem Mp.drop {ty : TypeId} (h : Mp w b n f) (hk : P.underlying k = some (.int .i64)) (ht : P.underlying t = some (.map k e)) (i : Nat) (hi : i < 9223372036854775808) :
  ∃ w',(Builtin.delete_ #[t,k] ty #[.map (some b),.int .i64 (i : Int)]).run P w = .ok (.tuple #[]) w' /\ Mp w' b n (fun j => if j = i then none else f j) /\ Only b w w' /\ w'.heap.size = w.heap.size := by
 obtain ⟨es,clock,hb,hn,hks,hp,hv⟩ := h
 have K := int_keyed (P := P) hk
 have hkey := keyOf_nat (P := P) hk i hi
 rcases K.find w hkey es.toList (Mp.keys hk hks) with ⟨h1,h2⟩ | ⟨j,e0,h1,h2,h3⟩
 ·refine ⟨setBlock w b (.map es clock),?_,⟨_,_,heap_setBlock_same hb _,hn,hks,hp,?_⟩,only_setBlock hb _,by simp [setBlock]⟩
  ·simp [Builtin.delete_,run_underlying ht,MapKept.run_getObj_map hb,K.check w _ hkey,h1,MapKept.run_setObj_map _ hb,Result.andThen,setBlock]
  ·intro q u
   show (if q = i then none else f q) = some u ↔ _
   by_cases hq : q = i
   ·subst hq
    rw [if_pos rfl]
    constructor
    ·intro e; cases e
    ·rintro ⟨x,hx,he,_⟩; exact absurd he (h2 x hx)
   ·rw [if_neg hq,hv q u]
 ·have hjl : j < es.toList.length := (List.getElem?_eq_some_iff.1 h2).1
  have hjs : j < es.size := by simpa using hjl
  have hsub : (es.eraseIdxIfInBounds j).toList = es.toList.eraseIdx j := by
   unfold Array.eraseIdxIfInBounds
   rw [dif_pos hjs]
   simp
  have ek : (es.toList[j]'hjl).key = .int .i64 (i : Int) := by rw [(List.getElem?_eq_some_iff.1 h2).2]; exact h3
  refine ⟨setBlock w b (.map (es.eraseIdxIfInBounds j) clock),?_,⟨_,_,heap_setBlock_same hb _,Nat.le_trans (MapFrom.size_erase es j) hn,?_,?_,?_⟩,only_setBlock hb _,by simp [setBlock]⟩
  ·simp [Builtin.delete_,run_underlying ht,MapKept.run_getObj_map hb,K.check w _ hkey,h1,MapKept.run_setObj_map _ hb,Result.andThen,setBlock]
  ·intro x hx
   rw [hsub] at hx
   exact hks x ((List.eraseIdx_sublist _ _).subset hx)
  ·rw [hsub]
   exact hp.sublist (List.eraseIdx_sublist _ _)
  ·intro q u
   show (if q = i then none else f q) = some u ↔ _
   rw [hsub]
   have mem : ∀ x,x ∈ es.toList.eraseIdx j ↔ x ∈ es.toList /\ x.key ≠ .int .i64 (i : Int) := by
    intro x
    rw [List.mem_eraseIdx_iff_getElem?]
    constructor
    ·rintro ⟨r,hne,hr⟩
     refine ⟨List.mem_of_getElem? hr,fun hx => ?_⟩
     have hrl := (List.getElem?_eq_some_iff.1 hr).1
     have hre := (List.getElem?_eq_some_iff.1 hr).2
     rcases Nat.lt_or_gt_of_ne hne with hlt | hlt
     ·have := (List.pairwise_iff_getElem.1 hp) r j hrl hjl hlt
      rw [hre,ek,hx] at this; exact this rfl
     ·have := (List.pairwise_iff_getElem.1 hp) j r hjl hrl hlt
      rw [hre,ek,hx] at this; exact this rfl
    ·rintro ⟨hx,hne⟩
     obtain ⟨r,hr⟩ := List.getElem?_of_mem hx
     refine ⟨r,?_,hr⟩
     rintro rfl
     rw [h2] at hr; cases hr; exact hne h3
   by_cases hq : q = i
   ·subst hq
    rw [if_pos rfl]
    constructor
    ·intro e; cases e
    ·rintro ⟨x,hx,he,_⟩; exact absurd he ((mem x).1 hx).2
   ·rw [if_neg hq,hv q u]
    constructor
    ·rintro ⟨x,hx,he,hu⟩; exact ⟨x,(mem x).2 ⟨hx,by rw [he]; intro e; exact hq (key_inj e)⟩,he,hu⟩
    ·rintro ⟨x,hx,he,hu⟩; exact ⟨x,((mem x).1 hx).1,he,hu⟩
end
end
section
open Go.RowKit Go.Maps Go.ChangeMaps
def Ap (P : Program) (k : TypeId) (w : World) (b n : Nat) (f : Value -> Option Value) : Prop :=
 ∃ es clock,w.heap[b]? = some (.map es clock) /\ es.size <= n /\ (∀ x ∈ es.toList,∃ l,keyOf P k x.key = some l) /\ es.toList.Pairwise (fun x y => x.key ≠ y.key) /\
  ∀ (i v : Value),f i = some v ↔ ∃ x ∈ es.toList,x.key = i /\ x.val = v
noncomputable def apd (f : Value -> Option Value) (i : Value) (o : Option Value) : Value -> Option Value := fun j => by classical exact if j = i then o else f j
theorem apd_same (f : Value -> Option Value) (i : Value) (o : Option Value) : apd f i o i = o := by unfold apd; exact if_pos rfl
theorem apd_ne (f : Value -> Option Value) {i j : Value} (o : Option Value) (h : j ≠ i) : apd f i o j = f j := by unfold apd; exact if_neg h
theorem Ap.lt {P : Program} {k : TypeId} {w : World} {b n : Nat} {f : Value -> Option Value} (h : Ap P k w b n f) : b < w.heap.size := by
 obtain ⟨es,clock,hb,_⟩ := h
 exact (Array.getElem?_eq_some_iff.1 hb).1
theorem Ap.mono {P : Program} {k : TypeId} {w : World} {b n m : Nat} {f : Value -> Option Value} (h : Ap P k w b n f) (hm : n <= m) : Ap P k w b m f := by
 obtain ⟨es,clock,hb,hn,r⟩ := h
 exact ⟨es,clock,hb,by omega,r⟩
theorem Ap.same {P : Program} {k : TypeId} {w w' : World} {b n : Nat} {f : Value -> Option Value} (h : Ap P k w b n f) (he : w'.heap[b]? = w.heap[b]?) : Ap P k w' b n f := by
 obtain ⟨es,clock,hb,r⟩ := h
 exact ⟨es,clock,he.trans hb,r⟩
theorem Ap.only {P : Program} {k : TypeId} {g : Nat} {w w' : World} {b n : Nat} {f : Value -> Option Value} (h : Ap P k w b n f) (ht : Only g w w') (hn : b ≠ g) : Ap P k w' b n f := h.same (ht.block b h.lt hn)
theorem Ap.later {P : Program} {k : TypeId} {w w' : World} {b n : Nat} {f : Value -> Option Value} (h : Ap P k w b n f) (hb : Below w.heap.size w w') : Ap P k w' b n f := h.same (hb.block b h.lt)
theorem Ap.alloc {P : Program} {k : TypeId} {w : World} {b n : Nat} {f : Value -> Option Value} (h : Ap P k w b n f) (o : Obj) : Ap P k (w.alloc o) b n f := h.later (below1 w o)
theorem Ap.set {P : Program} {k : TypeId} {w : World} {b n : Nat} {f : Value -> Option Value} (h : Ap P k w b n f) {a : Addr} (hne : b ≠ a.block) (v : Value) : Ap P k (w.setCell a v) b n f := h.same (Below.heap_setCell w a v b hne)
theorem Ap.new {P : Program} {k : TypeId} (w : World) : Ap P k (w.alloc (.map #[] 0)) w.heap.size 0 (fun _ => none) :=
 ⟨#[],0,(MapKept.heap_alloc w _).1,Nat.le_refl _,by simp,by simp,by simp⟩
theorem Ap.ne_has {P : Program} {k : TypeId} {w : World} {b n : Nat} {f : Value -> Option Value} (h : Ap P k w b n f) {c : Nat} {cs : Array Value} {t : TypeId} {fr : Nat × Nat} (hc : Has w c (.cells cs t fr)) : b ≠ c := by
 rintro rfl
 obtain ⟨es,clock,hb,_⟩ := h
 have e : some (Obj.map es clock) = some (Obj.cells cs t fr) := hb.symm.trans hc
 cases e
section
variable {P : Program} {k t e : TypeId} {w : World} {b n : Nat} {f : Value -> Option Value}
theorem Ap.look_none (h : Ap P k w b n f) (K : Keyed P k) (ht : P.underlying t = some (.map k e)) {z : Value} (hz : (zeroValue e).run P w = .ok z w) (c : Bool) (i : Value) {li : Lit} (hi : keyOf P k i = some li) (hf : f i = none) :
  (Instr.lookup t (.map (some b)) i c).run P w = .ok (if c then .tuple #[z,.bool false] else z) w := by
 obtain ⟨es,clock,hb,hn,hks,hp,hv⟩ := h
 have hkey := hi
 rcases K.find w hkey es.toList hks with ⟨h1,h2⟩ | ⟨j,e0,h1,h2,h3⟩
 ·simp [Instr.lookup,run_underlying ht,MapKept.run_getObj_map hb,K.check w _ hkey,h1,hz,Result.andThen]
 ·have := (hv i e0.val).2 ⟨e0,List.mem_of_getElem? h2,h3,rfl⟩
  rw [hf] at this
  cases this
theorem Ap.look_some (h : Ap P k w b n f) (K : Keyed P k) (ht : P.underlying t = some (.map k e)) (c : Bool) (i : Value) {li : Lit} (hi : keyOf P k i = some li) {v : Value} (hf : f i = some v) :
  (Instr.lookup t (.map (some b)) i c).run P w = .ok (if c then .tuple #[v,.bool true] else v) w := by
 obtain ⟨es,clock,hb,hn,hks,hp,hv⟩ := h
 have hkey := hi
 rcases K.find w hkey es.toList hks with ⟨h1,h2⟩ | ⟨j,e0,h1,h2,h3⟩
 ·obtain ⟨x,hx,he,_⟩ := (hv i v).1 hf
  exact absurd he (h2 x hx)
 ·have := (hv i e0.val).2 ⟨e0,List.mem_of_getElem? h2,h3,rfl⟩
  rw [hf] at this
  simp only [Option.some.injEq] at this
  simp [Instr.lookup,run_underlying ht,MapKept.run_getObj_map hb,K.check w _ hkey,h1,Result.andThen,this]
theorem Ap.store (h : Ap P k w b n f) (K : Keyed P k) (ht : P.underlying t = some (.map k e)) (i : Value) {li : Lit} (hi : keyOf P k i = some li) (v : Value) :
  ∃ w',(Instr.mapUpdate t (.map (some b)) i v).run P w = .ok () w' /\ Ap P k w' b (n + 1) (apd f i (some v)) /\ Only b w w' /\ w'.heap.size = w.heap.size := by
 obtain ⟨es,clock,hb,hn,hks,hp,hv⟩ := h
 have hkey := hi
 rcases K.find w hkey es.toList hks with ⟨h1,h2⟩ | ⟨j,e0,h1,h2,h3⟩
 ·refine ⟨setBlock w b (.map (es.push ⟨i,v,clock⟩) (clock + 1)),?_,⟨_,_,heap_setBlock_same hb _,by simp; omega,?_,?_,?_⟩,only_setBlock hb _,by simp [setBlock]⟩
  ·simp [Instr.mapUpdate,run_underlying ht,MapKept.run_getObj_map hb,K.check w false hkey,h1,MapKept.run_setObj_map _ hb,Result.andThen,setBlock]
  ·intro x hx
   simp only [Array.toList_push,List.mem_append,List.mem_singleton] at hx
   rcases hx with hx | rfl
   ·exact hks x hx
   ·exact ⟨_,hi⟩
  ·rw [Array.toList_push,List.pairwise_append]
   exact ⟨hp,by simp,fun x hx y hy => by simp at hy; subst hy; exact h2 x hx⟩
  ·intro j u
   simp only [Array.toList_push,List.mem_append,List.mem_singleton]
   by_cases hj : j = i
   ·subst hj
    rw [apd_same]
    constructor
    ·intro e; cases e; exact ⟨_,Or.inr rfl,rfl,rfl⟩
    ·rintro ⟨x,hx | rfl,he,hu⟩
     ·exact absurd he (h2 x hx)
     ·simp at hu; rw [hu]
   ·rw [apd_ne _ _ hj,hv j u]
    constructor
    ·rintro ⟨x,hx,he,hu⟩; exact ⟨x,Or.inl hx,he,hu⟩
    ·rintro ⟨x,hx | rfl,he,hu⟩
     ·exact ⟨x,hx,he,hu⟩
     ·exact absurd he.symm hj
 ·have hj : es[j]? = some e0 := by simpa using h2
  have hjl : j < es.toList.length := (List.getElem?_eq_some_iff.1 h2).1
  have hlist : (es.modify j (fun e' => { e' with key := i,val := v })).toList = es.toList.set j { e0 with key := i,val := v } := by rw [Array.toList_modify,modify_eq_set _ _ _ _ h2]
  have other : ∀ x ∈ es.toList,x.key = i -> x = e0 := by
   intro x hx hxk
   obtain ⟨q,hq⟩ := List.getElem?_of_mem hx
   rcases Nat.lt_trichotomy q j with hlt | rfl | hlt
   ·have := (List.pairwise_iff_getElem.1 hp) q j (List.getElem?_eq_some_iff.1 hq).1 hjl hlt
    rw [(List.getElem?_eq_some_iff.1 hq).2,(List.getElem?_eq_some_iff.1 h2).2] at this
    exact absurd (hxk.trans h3.symm) this
   ·rw [hq] at h2; cases h2; rfl
   ·have := (List.pairwise_iff_getElem.1 hp) j q hjl (List.getElem?_eq_some_iff.1 hq).1 hlt
    rw [(List.getElem?_eq_some_iff.1 hq).2,(List.getElem?_eq_some_iff.1 h2).2] at this
    exact absurd (h3.trans hxk.symm) this
  have who : ∀ x ∈ es.toList.set j { e0 with key := i,val := v },x = { e0 with key := i,val := v } ∨ (x ∈ es.toList /\ x.key ≠ i) := by
   intro x hx
   obtain ⟨q,hq,ex⟩ := List.getElem_of_mem hx
   rw [List.getElem_set] at ex
   split at ex
   ·exact Or.inl ex.symm
   ·rename_i hne
    have hq' : q < es.toList.length := by simpa using hq
    refine Or.inr ⟨ex ▸ List.getElem_mem hq',fun hk2 => ?_⟩
    have hx0 := other x (ex ▸ List.getElem_mem hq') hk2
    rcases Nat.lt_trichotomy q j with hlt | he | hlt
    ·have := (List.pairwise_iff_getElem.1 hp) q j hq' hjl hlt
     rw [ex,(List.getElem?_eq_some_iff.1 h2).2,hx0] at this
     exact this rfl
    ·exact hne he.symm
    ·have := (List.pairwise_iff_getElem.1 hp) j q hjl hq' hlt
     rw [ex,(List.getElem?_eq_some_iff.1 h2).2,hx0] at this
     exact this rfl
  have hin : ({ e0 with key := i,val := v } : MapEntry) ∈ es.toList.set j { e0 with key := i,val := v } := List.mem_iff_getElem.2 ⟨j,by simpa using hjl,by simp⟩
  have hold : ∀ x ∈ es.toList,x.key ≠ i -> x ∈ es.toList.set j { e0 with key := i,val := v } := by
   intro x hx hne
   obtain ⟨q,hq⟩ := List.getElem?_of_mem hx
   have hqj : j ≠ q := by rintro rfl; rw [hq] at h2; cases h2; exact hne h3
   exact List.mem_of_getElem? (i := q) (by rw [List.getElem?_set_ne hqj]; exact hq)
  refine ⟨setBlock w b (.map (es.modify j (fun e' => { e' with key := i,val := v })) clock),?_,⟨_,_,heap_setBlock_same hb _,by simp; omega,?_,?_,?_⟩,only_setBlock hb _,by simp [setBlock]⟩
  ·simp [Instr.mapUpdate,run_underlying ht,MapKept.run_getObj_map hb,K.check w false hkey,h1,hj,h3,K.stays w hkey,MapKept.run_setObj_map _ hb,Result.andThen,setBlock]
  ·intro x hx
   rw [hlist] at hx
   rcases who x hx with rfl | ⟨hx',_⟩
   ·exact ⟨_,hi⟩
   ·exact hks x hx'
  ·rw [hlist,List.pairwise_iff_getElem]
   intro p q hp1 hq1 hpq
   have hp2 : p < es.toList.length := by simpa using hp1
   have hq2 : q < es.toList.length := by simpa using hq1
   have hh := (List.pairwise_iff_getElem.1 hp) p q hp2 hq2 hpq
   have ek : (es.toList[j]'hjl).key = i := by rw [(List.getElem?_eq_some_iff.1 h2).2]; exact h3
   rw [List.getElem_set,List.getElem_set]
   split
   ·rename_i e1; subst e1
    rw [if_neg (by omega)]
    rw [ek] at hh; exact hh
   ·split
    ·rename_i e2; subst e2
     rw [ek] at hh; exact hh
    ·exact hh
  ·intro q u
   rw [hlist]
   show apd f i (some v) q = some u ↔ _
   by_cases hq : q = i
   ·subst hq
    rw [apd_same]
    constructor
    ·intro e; cases e; exact ⟨_,hin,rfl,rfl⟩
    ·rintro ⟨x,hx,he,hu⟩
     rcases who x hx with rfl | ⟨_,hne⟩
     ·simp at hu; rw [hu]
     ·exact absurd he hne
   ·rw [apd_ne _ _ hq,hv q u]
    constructor
    ·rintro ⟨x,hx,he,hu⟩; exact ⟨x,hold x hx (by rw [he]; intro e; exact hq e),he,hu⟩
    ·rintro ⟨x,hx,he,hu⟩
     rcases who x hx with rfl | ⟨hx',_⟩
     ·exact absurd he.symm hq
     ·exact ⟨x,hx',he,hu⟩
theorem Ap.drop {ty : TypeId} (h : Ap P k w b n f) (K : Keyed P k) (ht : P.underlying t = some (.map k e)) (i : Value) {li : Lit} (hi : keyOf P k i = some li) :
  ∃ w',(Builtin.delete_ #[t,k] ty #[.map (some b),i]).run P w = .ok (.tuple #[]) w' /\ Ap P k w' b n (apd f i none) /\ Only b w w' /\ w'.heap.size = w.heap.size := by
 obtain ⟨es,clock,hb,hn,hks,hp,hv⟩ := h
 have hkey := hi
 rcases K.find w hkey es.toList hks with ⟨h1,h2⟩ | ⟨j,e0,h1,h2,h3⟩
 ·refine ⟨setBlock w b (.map es clock),?_,⟨_,_,heap_setBlock_same hb _,hn,hks,hp,?_⟩,only_setBlock hb _,by simp [setBlock]⟩
  ·simp [Builtin.delete_,run_underlying ht,MapKept.run_getObj_map hb,K.check w _ hkey,h1,MapKept.run_setObj_map _ hb,Result.andThen,setBlock]
  ·intro q u
   show apd f i none q = some u ↔ _
   by_cases hq : q = i
   ·subst hq
    rw [apd_same]
    constructor
    ·intro e; cases e
    ·rintro ⟨x,hx,he,_⟩; exact absurd he (h2 x hx)
   ·rw [apd_ne _ _ hq,hv q u]
 ·have hjl : j < es.toList.length := (List.getElem?_eq_some_iff.1 h2).1
  have hjs : j < es.size := by simpa using hjl
  have hsub : (es.eraseIdxIfInBounds j).toList = es.toList.eraseIdx j := by
   unfold Array.eraseIdxIfInBounds
   rw [dif_pos hjs]
   simp
  have ek : (es.toList[j]'hjl).key = i := by rw [(List.getElem?_eq_some_iff.1 h2).2]; exact h3
  refine ⟨setBlock w b (.map (es.eraseIdxIfInBounds j) clock),?_,⟨_,_,heap_setBlock_same hb _,Nat.le_trans (MapFrom.size_erase es j) hn,?_,?_,?_⟩,only_setBlock hb _,by simp [setBlock]⟩
  ·simp [Builtin.delete_,run_underlying ht,MapKept.run_getObj_map hb,K.check w _ hkey,h1,MapKept.run_setObj_map _ hb,Result.andThen,setBlock]
  ·intro x hx
   rw [hsub] at hx
   exact hks x ((List.eraseIdx_sublist _ _).subset hx)
  ·rw [hsub]
   exact hp.sublist (List.eraseIdx_sublist _ _)
  ·intro q u
   show apd f i none q = some u ↔ _
   rw [hsub]
   have mem : ∀ x,x ∈ es.toList.eraseIdx j ↔ x ∈ es.toList /\ x.key ≠ i := by
    intro x
    rw [List.mem_eraseIdx_iff_getElem?]
    constructor
    ·rintro ⟨r,hne,hr⟩
     refine ⟨List.mem_of_getElem? hr,fun hx => ?_⟩
     have hrl := (List.getElem?_eq_some_iff.1 hr).1
     have hre := (List.getElem?_eq_some_iff.1 hr).2
     rcases Nat.lt_or_gt_of_ne hne with hlt | hlt
     ·have := (List.pairwise_iff_getElem.1 hp) r j hrl hjl hlt
      rw [hre,ek,hx] at this; exact this rfl
     ·have := (List.pairwise_iff_getElem.1 hp) j r hjl hrl hlt
      rw [hre,ek,hx] at this; exact this rfl
    ·rintro ⟨hx,hne⟩
     obtain ⟨r,hr⟩ := List.getElem?_of_mem hx
     refine ⟨r,?_,hr⟩
     rintro rfl
     rw [h2] at hr; cases hr; exact hne h3
   by_cases hq : q = i
   ·subst hq
    rw [apd_same]
    constructor
    ·intro e; cases e
    ·rintro ⟨x,hx,he,_⟩; exact absurd he ((mem x).1 hx).2
   ·rw [apd_ne _ _ hq,hv q u]
    constructor
    ·rintro ⟨x,hx,he,hu⟩; exact ⟨x,(mem x).2 ⟨hx,by rw [he]; intro e; exact hq e⟩,he,hu⟩
    ·rintro ⟨x,hx,he,hu⟩; exact ⟨x,((mem x).1 hx).1,he,hu⟩
end
end
section
open Go.RowKit
theorem Tryz.infoU8 : (Tryz.prog.info? 5).map (fun i => (i.zero,i.size,i.bytes)) = some (some (.int .u8 0),1,1) := by kernel_rfl
theorem run_append_mine {P : Program} {w : World} (base : Nat) (t ty e : TypeId) (i : TypeInfo) (z : Value) (size bytes : Nat) (h1 : P.underlying t = some (.slice e)) (h2 : P.info? e = some i) (h3 : i.zero = some z) (h4 : i.size = size) (h5 : i.bytes = bytes) (h6 : z.cells.size = size) (h7 : 0 < size)
  (g0 cap0 n : Nat) (xs : List Value) (hown : w.ownsRow base e size (.slice (some ⟨g0,0,none⟩) n cap0) n xs)
  (sp : Option Addr) (m c : Nat) (news : List Value) (hn : news.length = m * size) (hsp : sp = none -> m = 0 /\ c = 0) (hc : 0 < m -> ∃ ad,sp = some ad /\ ∀ j u,news[j]? = some u -> w.cell? (ad.add j) = some u) (h1c : ∀ u ∈ news,u.oneCell' = true)
  (b1 : n + m <= maxLen) (b2 : (n + m) * bytes <= 140737488355328) (hbase : base <= w.heap.size) :
  ∃ g cap w',(Builtin.append_ #[t,t] ty #[.slice (some ⟨g0,0,none⟩) n cap0,.slice sp m c]).run P w = .ok (.slice (some ⟨g,0,none⟩) (n + m) cap) w' /\ w'.ownsRow base e size (.slice (some ⟨g,0,none⟩) (n + m) cap) (n + m) (xs ++ news) /\ w.grownBy w' (some g0) := by
 cases sp with
 | none =>
  obtain ⟨rfl,rfl⟩ := hsp rfl
  obtain rfl : news = [] := List.eq_nil_of_length_eq_zero (by simpa using hn)
  refine ⟨g0,cap0,w,run_append_owned_none w base t ty e i size h1 h2 _ n xs hown,by simpa using hown,⟨rfl,rfl,rfl,Nat.le_refl _,fun _ _ _ => rfl⟩⟩
 | some ad =>
  have hc' : ∀ j u,news[j]? = some u -> w.cell? (ad.add j) = some u := by
   intro j u hj
   have hlt : j < news.length := (List.getElem?_eq_some_iff.1 hj).1
   have hm : 0 < m := by
    rcases Nat.eq_zero_or_pos m with h | h
    ·subst h; simp at hn; rw [hn] at hlt; simp at hlt
    ·exact h
   obtain ⟨ad',he,h⟩ := hc hm
   injection he with he
   subst he
   exact h j u hj
  obtain ⟨v',w',hrun,r1,r2,r3⟩ := run_append_own (P := P) w base t ty e i z size bytes h1 h2 h3 h4 h5 h6 h7 _ n xs hown ad m c news hn hc' h1c b1 b2 hbase
  have hsh : ∃ g cap,v' = .slice (some ⟨g,0,none⟩) (n + m) cap := by
   rcases r1.2 with ⟨h,_⟩ | ⟨g,cap,_,h,_⟩
   ·have := (r3.1 h).1; simp at this
   ·exact ⟨g,cap,h⟩
  obtain ⟨g,cap,rfl⟩ := hsh
  exact ⟨g,cap,w',hrun,r1,r2⟩
end
section
open Go.RowKit
theorem size_any (n : Int) (h : 0 <= n) (h2 : n <= 9223372036854775807) (w : World) :
  Calls Tryz.prog 113 #[.int .i64 n] w fun e w' => e = .returned (.int .i64 (n / 8 + (n % 8 + 7) / 8)) /\ w = w' := by
 go_enter Tryz.func113,Tryz.ntmps113
 go_wp2
 go_ret
 exact ⟨rfl,rfl⟩
theorem size_is (n L : Int) (h : 0 <= n) (h2 : n <= 9223372036854775807) (hL : Hid (n / 8 + (n % 8 + 7) / 8 = L)) (w : World) :
  Calls Tryz.prog 113 #[.int .i64 n] w fun e w' => e = .returned (.int .i64 L) /\ w = w' := hL.out ▸ size_any n h h2 w
theorem fits_yes (v n : Int) (h1 : 0 <= n) (h2 : 0 <= v) (h3 : n <= 32) (h : v / 2 ^ n.toNat = 0) (w : World) :
  Calls Tryz.prog 143 #[.int .i64 v,.int .i64 n] w fun e w' => e = .returned (.bool true) /\ w = w' := by
 go_enter Tryz.func143,Tryz.ntmps143
 go_wp2
 go_ret
 exact ⟨rfl,rfl⟩
theorem bitAt_any (b off len cap k : Nat) (x : Int) (w : World) (hk : k / 8 < len) (hc : w.cell? ⟨b,off + k / 8,none⟩ = some (.int .u8 x)) (h8 : k < 2251799813685248) :
  Calls Tryz.prog 99 #[.slice (some ⟨b,off,none⟩) len cap,.int .i64 k] w fun e w' => e = .returned (.int .u8 (bits BinOp.and IntKind.u8 (x / 2 ^ (k % 8)) 1)) /\ w = w' := by
 go_enter Tryz.func99,Tryz.ntmps99
 go_wp2
 go_ret
 exact ⟨rfl,rfl⟩
theorem check_whole (a : Option Addr) (len cap N : Nat) (h2 : N <= 9223372036854775807) (heq : Hid ((N : Int) / 8 + ((N : Int) % 8 + 7) / 8 = (len : Int))) (h0 : N % 8 = 0) (w : World) :
  Calls Tryz.prog 75 #[.agg #[.slice a len cap,.int .i64 N]] w fun e w' => e = .returned (.int .i64 0) /\ Below w.heap.size w w' := by
 have hd : decide ((N : Int) < 0) = false := by simp
 have h0' : ((N : Int) % 8 != 0) = false := by rw [bne_eq_false_iff_eq]; omega
 go_enter Tryz.func75,Tryz.ntmps75
 go_wp2
 go_quiet ((go_at_call 113; exact quiet_left (size_is N len (by omega) (by omega) heq _)))
 go_wp2
 go_ret
 exact ⟨rfl,below_drewN ((Below.refl _ _).alloc (Nat.le_refl _) _) _⟩
theorem check_last (b off len cap N : Nat) (x : Nat) (z : Bool) (h2 : N <= 9223372036854775807) (hl : len + 1 <= 281474976710656) (heq : Hid ((N : Int) / 8 + ((N : Int) % 8 + 7) / 8 = ((len + 1 : Nat) : Int))) (h0 : ((N : Int) % 8 != 0) = true)
  (w : World) (hb : b < w.heap.size) (hc : w.cell? ⟨b,off + len,none⟩ = some (.int .u8 (x : Int))) (hx : ((x : Int) / 2 ^ (N % 8) != 0) = z) :
  Calls Tryz.prog 75 #[.agg #[.slice (some ⟨b,off,none⟩) (len + 1) cap,.int .i64 N]] w fun e w' => e = .returned (.int .i64 (if z then 2 else 0)) /\ Below w.heap.size w w' := by
 have hd : decide ((N : Int) < 0) = false := by simp
 cases z
 all_goals
  go_enter Tryz.func75,Tryz.ntmps75
  go_wp2
  go_quiet ((go_at_call 113; exact quiet_left (size_is N _ (by omega) (by omega) heq _)))
  go_wp2
  go_ret
  exact ⟨rfl,below_drewN ((Below.refl _ _).alloc (Nat.le_refl _) _) _⟩
theorem size_int (N : Nat) : (N : Int) / 8 + ((N : Int) % 8 + 7) / 8 = (((N + 7) / 8 : Nat) : Int) := by omega
theorem pow_zero_iff (x k : Nat) : ((x : Int) / 2 ^ k != 0) = (x / 2 ^ k != 0) := by
 have e : ((x : Int) / 2 ^ k) = ((x / 2 ^ k : Nat) : Int) := by simp
 rw [e,Bool.eq_iff_iff,bne_iff_ne,bne_iff_ne]
 omega
theorem check_ok (s : Value) (bs : List Nat) (N : Nat) (w : World) (hs : Sl w s bs) (hN : N <= 9223372036854775807) (hr : Bs.right bs N) :
  Calls Tryz.prog 75 #[.agg #[s,.int .i64 N]] w fun e w' => e = .returned (.int .i64 0) /\ Below w.heap.size w w' := by
 obtain ⟨a,len,cap,rfl,rfl,hl,hnil,h8,hc⟩ := hs
 obtain ⟨h1,h2⟩ := hr
 by_cases h0 : N % 8 = 0
 ·exact check_whole a _ cap N hN (show _ = _ by rw [size_int,h1]) h0 w
 ·rcases h2 with h2 | h2
  ·exact absurd h2 h0
  ·obtain ⟨k,hk⟩ : ∃ k,bs.length = k + 1 := ⟨bs.length - 1,by omega⟩
   obtain ⟨b,off,rfl,hb,hcell⟩ := hc (by omega)
   rw [hk] at h2 hcell ⊢
   refine check_last b off k cap N (bs[k]?.getD 0) false hN (by omega) (show _ = _ by rw [size_int,<- h1,hk]) (by rw [bne_iff_ne]; omega) w hb (hcell k (by omega)) ?_
   rw [pow_zero_iff,bne_eq_false_iff_eq]
   simpa using h2
end
section
open Go.RowKit
abbrev rowObj (g m n : Nat) : Obj := .cells #[.slice (some ⟨g,0,none⟩) m m,.int .i64 (n : Int)] 64 (0,0)
abbrev bytesObj (bs : List Nat) : Obj := .cells (vb bs).toArray 5 (0,0)
theorem cell_of_block {w : World} {b : Nat} {cs : Array Value} {t : TypeId} (h : w.heap[b]? = some (.cells cs t (0,0))) (i : Nat) : w.cell? ⟨b,i,none⟩ = cs[i]? := by
 simp [World.cell?,h]
theorem free_of_block {w : World} {b : Nat} {cs : Array Value} {t : TypeId} (h : w.heap[b]? = some (.cells cs t (0,0))) (i : Nat) : w.frozen? ⟨b,i,none⟩ = false := by
 simp [World.frozen?,h]
theorem lay_walk (R g m n x c : Nat) (w : World) (_hne : ¬ R = g) (_hne2 : ¬ g = R) (hn : n < 2251799813685248) (hm : n / 8 < m)
  (h0 : w.cell? ⟨R,0,none⟩ = some (.slice (some ⟨g,0,none⟩) m m)) (h1 : w.cell? ⟨R,1,none⟩ = some (.int .i64 (n : Int))) (f1 : w.frozen? ⟨R,1,none⟩ = false)
  (hg : w.cell? ⟨g,n / 8,none⟩ = some (.int .u8 (x : Int))) (fg : w.frozen? ⟨g,n / 8,none⟩ = false) :
  Calls Tryz.prog 132 #[.int .u8 (c : Int),.pointer (some ⟨R,0,none⟩)] w fun e w' => e = .returned (.tuple #[]) /\
   w' = ((w.setCell ⟨g,n / 8,none⟩ (.int .u8 (bits BinOp.or IntKind.u8 (x : Int) ((c : Int) * 2 ^ (n % 8) % 256)))).setCell ⟨R,1,none⟩ (.int .i64 ((n : Int) + 1))).drew := by
 go_enter Tryz.func132,Tryz.ntmps132
 go_wp2
 go_region
 go_wp2
 go_end0
 exact ⟨rfl,rfl⟩
theorem u8_lay (x n : Nat) (b : Bool) (hx : x < 256) : bits BinOp.or IntKind.u8 (x : Int) ((b.toNat : Int) * 2 ^ (n % 8) % 256) = ((x ||| (b.toNat <<< (n % 8)) : Nat) : Int) := by
 have h : b.toNat <<< (n % 8) < 256 := by
  have h1 : b.toNat <= 1 := by cases b <;> simp
  have h2 : 2 ^ (n % 8) <= 2 ^ 7 := Nat.pow_le_pow_right (by omega) (by omega)
  rw [Nat.shiftLeft_eq]
  have := Nat.mul_le_mul h1 h2
  omega
 have e : ((b.toNat : Int) * 2 ^ (n % 8) % 256) = ((b.toNat <<< (n % 8) : Nat) : Int) := by
  rw [Nat.shiftLeft_eq] at h ⊢
  have : ((b.toNat : Int) * 2 ^ (n % 8)) = ((b.toNat * 2 ^ (n % 8) : Nat) : Int) := by simp
  rw [this]
  omega
 rw [e]
 exact u8_or_nat _ _ hx h
theorem heap_setCell_self {w : World} {b i : Nat} {cs : Array Value} {t : TypeId} (h : w.heap[b]? = some (.cells cs t (0,0))) (u : Value) :
  (w.setCell ⟨b,i,none⟩ u).heap[b]? = some (.cells (cs.setIfInBounds i u) t (0,0)) := by
 simp [World.setCell,Array.getElem?_modify,h]
theorem lay_any (R g m : Nat) (l : List Bool) (b : Bool) (B : Nat) (w : World) (hRB : B <= R) (hgB : B <= g) (hm2 : m <= 281474976710656) (hm : l.length / 8 < m)
  (hR : w.heap[R]? = some (rowObj g m l.length)) (hg : w.heap[g]? = some (bytesObj (Bs.packTo m l))) :
  Calls Tryz.prog 132 #[.int .u8 (b.toNat : Int),.pointer (some ⟨R,0,none⟩)] w fun e w' => e = .returned (.tuple #[]) /\
   w'.heap[R]? = some (rowObj g m (l ++ [b]).length) /\ w'.heap[g]? = some (bytesObj (Bs.packTo m (l ++ [b]))) /\ Below B w w' := by
 have hne : ¬ R = g := by
  intro e
  subst e
  rw [hR] at hg
  simp at hg
 have hx := Bs.byteAt_lt l (l.length / 8)
 refine (lay_walk R g m l.length (Bs.byteAt l (l.length / 8)) b.toNat w hne (fun e => hne e.symm) (by omega) hm
  (by rw [cell_of_block hR]; rfl) (by rw [cell_of_block hR]; rfl) (free_of_block hR 1) ?_ (free_of_block hg _)).mono ?_
 ·rw [cell_of_block hg]
  have := Bs.packTo_get' m l _ hm
  simp [vb,this]
 ·rintro e w' ⟨rfl,rfl⟩
  rw [u8_lay _ _ _ hx]
  refine ⟨rfl,?_,?_,?_⟩
  ·have h1 : (w.setCell ⟨g,l.length / 8,none⟩ (.int .u8 ((Bs.byteAt l (l.length / 8) ||| b.toNat <<< (l.length % 8) : Nat) : Int))).heap[R]? = some (rowObj g m l.length) := by
    rw [Below.heap_setCell _ _ _ _ hne]; exact hR
   have h2 := heap_setCell_self (i := 1) h1 (.int .i64 ((l.length : Int) + 1))
   show (World.setCell _ _ _).heap[R]? = _
   rw [h2]
   simp
  ·show (World.setCell _ _ _).heap[g]? = _
   rw [Below.heap_setCell _ _ _ _ (fun e => hne e.symm),heap_setCell_self hg,Bs.packTo_snoc]
   simp [vb,List.map_set]
  ·exact Below.drew (((Below.refl _ _).setCell (by exact hgB) _).setCell (by exact hRB) _)
theorem made_zero (m : Nat) : madeCells #[Value.int .u8 0] m = (vb (Bs.packTo m [])).toArray := by
 apply Array.ext'
 rw [toList_madeCells_one]
 apply List.ext_getElem?
 intro i
 by_cases h : i < m
 ·simp [vb,Bs.packTo,h,Bs.byteAt,Bs.num]
 ·simp [vb,Bs.packTo,h]
theorem two_new (W : World) (o1 o2 : Obj) : ((W.alloc o1).alloc o2).drew.heap[W.heap.size]? = some o1 /\ ((W.alloc o1).alloc o2).drew.heap[W.heap.size + 1]? = some o2 := by
 constructor
 ·show ((W.heap.push o1).push o2)[_]? = _
  simp [Array.getElem?_push]
 ·show ((W.heap.push o1).push o2)[_]? = _
  rw [Array.getElem?_push,if_pos (by simp)]
theorem below_two (W : World) (o1 o2 : Obj) (B : Nat) (h : B <= W.heap.size) : Below B W ((W.alloc o1).alloc o2).drew :=
 Below.drew (((Below.refl _ _).alloc h _).alloc (by simp; omega) _)
def Laid (W wx : World) (s7 : Value) (m N : Nat) : Prop :=
 ∃ R g : Nat,s7 = .pointer (some ⟨R,0,none⟩) /\ W.heap.size <= R /\ W.heap.size <= g /\ wx.heap[R]? = some (rowObj g m N) /\ wx.heap[g]? = some (bytesObj (Bs.packTo m [])) /\ Below W.heap.size W wx
theorem Laid.one (W : World) (m N : Nat) (b : Nat) (hb : b = W.heap.size) : Laid W ((W.alloc (.cells (madeCells #[.int .u8 0] m) 5)).alloc (.cells #[.slice (some ⟨b,0,none⟩) m m,.int .i64 (N : Int)] 64)).drew (.pointer (some ⟨b + 1,0,none⟩)) m N := by
 subst hb
 have h := two_new W (.cells (madeCells #[.int .u8 0] m) 5) (.cells #[.slice (some ⟨W.heap.size,0,none⟩) m m,.int .i64 (N : Int)] 64)
 exact ⟨W.heap.size + 1,W.heap.size,rfl,by omega,by omega,h.2,by rw [h.1,made_zero],below_two _ _ _ _ (Nat.le_refl _)⟩
theorem Laid.two (W : World) (m N : Nat) (b : Nat) (hb : b = W.heap.size) : Laid W ((W.alloc (.cells #[.slice (some ⟨b + 1,0,none⟩) m m,.int .i64 (N : Int)] 64)).alloc (.cells (madeCells #[.int .u8 0] m) 5)).drew (.pointer (some ⟨b,0,none⟩)) m N := by
 subst hb
 have h := two_new W (.cells #[.slice (some ⟨W.heap.size + 1,0,none⟩) m m,.int .i64 (N : Int)] 64) (.cells (madeCells #[.int .u8 0] m) 5)
 exact ⟨W.heap.size,W.heap.size + 1,rfl,by omega,by omega,h.1,by rw [h.2,made_zero],below_two _ _ _ _ (Nat.le_refl _)⟩
theorem splice_zero (m : Nat) (l : List Bool) (h : (l.length + 7) / 8 <= m) : splice (vb (Bs.packTo m [])) 0 (vb (Bs.pack l)) = vb (Bs.packTo m l) := by
 unfold splice
 apply List.ext_getElem?
 intro i
 simp only [List.take_zero,List.nil_append,Nat.zero_add,vb_length,Bs.pack_length]
 by_cases h1 : i < (l.length + 7) / 8
 ·rw [List.getElem?_append_left (by rw [vb_length,Bs.pack_length]; exact h1),vb_get,vb_get,Bs.packTo_get' m l i (by omega)]
  unfold Bs.pack
  rw [Bs.packTo_get' _ l i h1]
 ·rw [List.getElem?_append_right (by rw [vb_length,Bs.pack_length]; omega),List.getElem?_drop,vb_get,vb_get,vb_length,Bs.pack_length]
  have e : (l.length + 7) / 8 + (i - (l.length + 7) / 8) = i := by omega
  rw [e]
  by_cases h2 : i < m
  ·rw [Bs.packTo_get' m _ i h2,Bs.packTo_get' m _ i h2]
   have : Bs.byteAt l i = Bs.byteAt [] i := by
    unfold Bs.byteAt
    rw [List.drop_eq_nil_of_le (by omega)]
    simp
   rw [this]
  ·rw [List.getElem?_eq_none (by rw [Bs.packTo_length]; omega),List.getElem?_eq_none (by rw [Bs.packTo_length]; omega)]
theorem alloc2_block (w : World) (o1 o2 : Obj) : ((w.alloc o1).alloc o2).heap[w.heap.size]? = some o1 /\ ((w.alloc o1).alloc o2).heap[w.heap.size + 1]? = some o2 /\ ∀ i,i < w.heap.size -> ((w.alloc o1).alloc o2).heap[i]? = w.heap[i]? := by
 refine ⟨?_,?_,fun i hi => ?_⟩
 ·show ((w.heap.push o1).push o2)[_]? = _
  simp [Array.getElem?_push]
 ·show ((w.heap.push o1).push o2)[_]? = _
  rw [Array.getElem?_push,if_pos (by simp)]
 ·show ((w.heap.push o1).push o2)[_]? = _
  rw [Array.getElem?_push,if_neg (by simp; omega),Array.getElem?_push,if_neg (by omega)]
theorem Laid.facts {w wx : World} {o1 o2 : Obj} {s7 : Value} {m N : Nat} (h : Laid ((w.alloc o1).alloc o2) wx s7 m N) :
  ∃ R g : Nat,s7 = .pointer (some ⟨R,0,none⟩) /\ w.heap.size + 2 <= R /\ w.heap.size + 2 <= g /\ ¬ R = g /\ w.heap.size + 2 <= wx.heap.size /\ wx.heap[R]? = some (rowObj g m N) /\ wx.heap[g]? = some (bytesObj (Bs.packTo m [])) /\
   wx.heap[w.heap.size]? = some o1 /\ wx.heap[w.heap.size + 1]? = some o2 /\ Below w.heap.size w wx := by
 obtain ⟨R,g,rfl,h1,h2,hR,hg,hb⟩ := h
 have e : ((w.alloc o1).alloc o2).heap.size = w.heap.size + 2 := by simp
 have h3 := hb.size
 obtain ⟨a1,a2,a3⟩ := alloc2_block w o1 o2
 rw [e] at h1 h2 h3
 refine ⟨R,g,rfl,h1,h2,?_,h3,hR,hg,?_,?_,⟨hb.os,hb.tape,hb.output,by omega,fun i hi => ?_⟩⟩
 ·intro e
  subst e
  rw [hR] at hg
  simp at hg
 ·rw [hb.block _ (by omega),a1]
 ·rw [hb.block _ (by omega),a2]
 ·rw [hb.block _ (by omega),a3 _ hi]
def more (l : List Bool) (f : Nat -> Bool) (i : Nat) : List Bool := l ++ (List.range i).map f
theorem more_zero (l : List Bool) (f : Nat -> Bool) : more l f 0 = l := by simp [more]
theorem more_succ (l : List Bool) (f : Nat -> Bool) (i : Nat) : more l f (i + 1) = more l f i ++ [f i] := by simp [more,List.range_succ]
theorem more_length (l : List Bool) (f : Nat -> Bool) (i : Nat) : (more l f i).length = l.length + i := by simp [more]
def ExtPost (w : World) (l : List Bool) (f : Nat -> Bool) (k m : Nat) (e : Ending) (w' : World) : Prop :=
 ∃ g : Nat,e = .returned (.agg #[.slice (some ⟨g,0,none⟩) m m,.int .i64 ((more l f k).length : Int)]) /\ w.heap.size <= g /\ w'.heap[g]? = some (bytesObj (Bs.packTo m (more l f k))) /\ Below w.heap.size w w'
theorem ext_any (F : FuncId) (hcall : ∀ (args : Array Value) (wx : World),(callFunc F args).run Tryz.prog wx = .ok (.enter F args) wx) (caps : Array Value) (l : List Bool) (f : Nat -> Bool) (a : Option Addr) (len cap N k m : Nat) (w : World)
  (hs : Sl w (.slice a len cap) (Bs.pack l)) (hl : Hid (N = l.length)) (hN : N <= 1125899906842624) (hk : k <= 1125899906842624) (hm : Hid ((N + k + 7) / 8 = m))
  (hnext : Hid (∀ (i : Nat) (wx : World),i < k -> Below w.heap.size w wx -> Calls Tryz.prog F (#[.int .i64 (i : Int)] ++ caps) wx fun e w' => e = .returned (.int .u8 ((f i).toNat : Int)) /\ Below wx.heap.size wx w')) :
  Calls Tryz.prog 91 #[.agg #[.slice a len cap,.int .i64 N],.int .i64 k,.func (.func F) #[] caps] w (ExtPost w l f k m) := by
 have hmk := run_make_row' (P := Tryz.prog) 22 5 (.int .u8 0) 1 Tryz.underlying22 Tryz.infoU8 rfl .i64 .i64 m (by have := hm.out; omega) (by have := hm.out; omega)
 have hsz : Hid ((((N : Int) + (k : Int)) / 8 + (((N : Int) + (k : Int)) % 8 + 7) / 8) = (m : Int)) := by
  show _ = _
  rw [<- hm.out]; omega
 have hA : 0 <= (N : Int) + (k : Int) := by omega
 have hB : (N : Int) + (k : Int) <= 9223372036854775807 := by omega
 have hs' := LH hs
 clear hs
 go_enter Tryz.func91,Tryz.ntmps91
 go_upto_region 1 with fail
 go_cut [7] (fun s7 wx => Laid ((w.alloc (.cells #[.slice a len cap,.int .i64 N] 64)).alloc (.cells #[.slice none 0 0,.int .i64 0] 64)) wx s7 m N)
 case first =>
  have hwr : IntKind.i64.wrap ((N : Int) + (k : Int)) = (N : Int) + (k : Int) := IntWalk.i64_in _ (by omega)
  clear hs' hnext hl hcall
  go_region_held3 (fun wx => wx.cell? ⟨w.heap.size,1,none⟩ = some (.int .i64 (N : Int))) (go_keep) (first | (go_at_call 113; go_fit (size_is ((N : Int) + (k : Int)) (m : Int) hA hB hsz _); rintro e w' ⟨rfl,rfl⟩))
  all_goals (go_wp2_with fail; go_meet; first | exact Laid.one _ m N (w.heap.size + 1 + 1) (by simp) | exact Laid.two _ m N (w.heap.size + 1 + 1) (by simp))
 case rest =>
  clear hmk hsz hA hB
  obtain ⟨R,g,rfl,hRB,hgB,hne,hsz2,hR,hg,hbox,hres,hb1⟩ := hcut.facts
  clear hcut
  have c0 := cell_of_block hbox 0
  have c1 := cell_of_block hR 0
  simp only [List.getElem?_toArray,List.getElem?_cons_zero] at c0 c1
  have hs2 : Sl wc (.slice a len cap) (Bs.pack l) := hs'.out.later hb1
  have hlen : len = (N + 7) / 8 := by rw [hs2.len.1,Bs.pack_length,hl.out]
  have hmN : (N + 7) / 8 <= m := by have := hm.out; omega
  have hn : (vb (Bs.pack l)).length = Nat.min len m := by
   rw [vb_length,Bs.pack_length,<- hl.out]
   show _ = min len m
   omega
  have hpos : 0 < (vb (Bs.pack l)).length -> some (⟨g,0,none⟩ : Addr) = some ⟨g,0,none⟩ /\ ∃ ad,a = some ad /\ ∀ j v,(vb (Bs.pack l))[j]? = some v -> wc.cell? (ad.add j) = some v := fun h =>
   ⟨rfl,hs2.cells (by rw [vb_length,Bs.pack_length,<- hl.out] at h; omega)⟩
  have hfit : 0 + (vb (Bs.pack l)).length <= (vb (Bs.packTo m [])).length := by
   rw [vb_length,vb_length,Bs.pack_length,Bs.packTo_length,<- hl.out]; omega
  have H1 := LH hg
  have H2 := LH hR
  have H3 := LH hbox
  have H4 := LH hn
  have H5 := LH hpos
  have H6 := LH hfit
  have H7 := LH hlen
  have H8 := LH hs2
  have H9 := LH hres
  have H10 := LH hb1
  clear hg hR hbox hn hpos hfit hlen hs2 hres hb1
  go_wp2_with (with_reducible refine wpList_copy_only rfl (.tmp 20) (.tmp 22) 22 22 rfl 5 Tryz.underlying22 (by kernel_rfl) (some ⟨g,0,none⟩) a m m len cap rfl rfl g 0 (vb (Bs.packTo m [])) 5 H1.out (vb (Bs.pack l)) H4.out H5.out H6.out (oneCell_vb _) ?_; intro w2 hg2 ho2)
  have HR2 : Hid (w2.heap[R]? = some (rowObj g m (more l f 0).length)) := by
   show _ = _
   rw [ho2.block R (lt_of_block H2.out) hne,more_zero,<- hl.out]; exact H2.out
  have HG2 : Hid (w2.heap[g]? = some (bytesObj (Bs.packTo m (more l f 0)))) := by
   show _ = _
   rw [more_zero]
   have e := splice_zero m l (by rw [<- hl.out]; exact hmN)
   have h := hg2.out
   rw [e] at h
   exact h
  have HB2 : Hid (Below w.heap.size w w2) := ho2.below H10.out (by omega) (by omega)
  have HE2 : Hid (w2.heap[w.heap.size + 1]? = some (.cells #[.slice none 0 0,.int .i64 0] 64 (0,0))) := by
   show _ = _
   rw [ho2.block _ (by omega) (by omega)]; exact H9.out
  clear hg2 ho2 H1 H2 H3 H4 H5 H6 H7 H8 H9 H10 c0 c1
  go_loopw [26] (fun s26 wr => ∃ i : Nat,i <= k /\ s26 = .int .i64 i /\ Hid (wr.heap[R]? = some (rowObj g m (more l f i).length)) /\ Hid (wr.heap[g]? = some (bytesObj (Bs.packTo m (more l f i)))) /\ Hid (Below (w.heap.size + 2) w2 wr))
   (fun s _ => k - (intOf s).toNat)
  case atStart => exact ⟨0,Nat.zero_le _,rfl,HR2,HG2,Below.refl _ _⟩
  case round =>
   obtain ⟨i,hi,rfl,KR,KG,KB⟩ := hrel
   by_cases hlt : i < k
   ·have KN : Hid (Below w.heap.size w wr) := HB2.out.trans (KB.out.mono (by omega))
    have ksz := lt_of_block KG.out
    go_wp2_with fail
    have HC := hnext.out i wr hlt KN.out
    refine HC.mono ?_
    clear HC
    rintro e w3 ⟨rfl,hb3⟩
    have KR3 : Hid (w3.heap[R]? = some (rowObj g m (more l f i).length)) := (hb3.block R (lt_of_block KR.out)).trans KR.out
    have KG3 : Hid (w3.heap[g]? = some (bytesObj (Bs.packTo m (more l f i)))) := (hb3.block g (lt_of_block KG.out)).trans KG.out
    have KB3 : Hid (Below (w.heap.size + 2) w2 w3) := KB.out.trans (hb3.mono (by omega))
    clear hb3
    go_wp2_with fail
    refine (lay_any R g m (more l f i) (f i) (w.heap.size + 2) _ hRB hgB (by have := hm.out; omega) (by rw [more_length,<- hl.out]; have := hm.out; omega) KR3.out KG3.out).mono ?_
    rintro e w4 ⟨rfl,h1,h2,h3⟩
    have KR4 := LH h1
    have KG4 := LH h2
    have KB4 := LH (KB3.out.trans h3)
    clear h1 h2 h3
    go_wp2
    go_roundw
    case rel => exact ⟨i + 1,by omega,by go_num,by rw [more_succ]; exact KR4,by rw [more_succ]; exact KG4,KB4⟩
    case measure => simp [intOf]; omega
   ·obtain rfl : i = k := by omega
    have c0 : wr.cell? ⟨R,0,none⟩ = some (.slice (some ⟨g,0,none⟩) m m) := by rw [cell_of_block KR.out]; rfl
    have c1 : wr.cell? ⟨R,1,none⟩ = some (.int .i64 ((more l f i).length : Int)) := by rw [cell_of_block KR.out]; rfl
    have KE : wr.heap[w.heap.size + 1]? = some (.cells #[.slice none 0 0,.int .i64 0] 64 (0,0)) := (KB.out.block _ (by omega)).trans HE2.out
    have f0 := free_of_block KE 0
    have f1 := free_of_block KE 1
    have e0 : wr.cell? ⟨w.heap.size + 1,0,none⟩ = some (.slice none 0 0) := by rw [cell_of_block KE]; rfl
    have e1 : wr.cell? ⟨w.heap.size + 1,1,none⟩ = some (.int .i64 0) := by rw [cell_of_block KE]; rfl
    have KE' := LH KE
    clear KE
    go_wp2
    refine bodyPost_ret (v := .agg #[.slice (some ⟨g,0,none⟩) m m,.int .i64 ((more l f i).length : Int)]) (by simp [results,Tryz.results91,go_sem,e0,e1]) rfl ⟨g,rfl,by omega,?_,?_⟩
    ·rw [Below.heap_setCell _ _ _ _ (by show g ≠ w.heap.size + 1; omega),Below.heap_setCell _ _ _ _ (by show g ≠ w.heap.size + 1; omega)]
     exact KG.out
    ·exact ((HB2.out.trans (KB.out.mono (by omega))).setCell (by show w.heap.size <= w.heap.size + 1; omega) _).setCell (by show w.heap.size <= w.heap.size + 1; omega) _
end
section
open Go.RowKit
def Rz (w : World) (g n : Nat) (d : Nat -> Nat) : Prop := ∃ cs : Array Value,Has w g (.cells cs 3 (0,0)) /\ cs.size = n /\ ∀ i,i < n -> cs[i]? = some (.int .i64 (d i : Int))
theorem Rz.cell {w : World} {g n : Nat} {d : Nat -> Nat} (h : Rz w g n d) (i : Nat) (hi : i < n) : w.cell? ⟨g,i,none⟩ = some (.int .i64 (d i : Int)) := by
 obtain ⟨cs,h1,_,h3⟩ := h
 rw [h1.cell]; exact h3 i hi
theorem Rz.free {w : World} {g n : Nat} {d : Nat -> Nat} (h : Rz w g n d) (i : Nat) : w.frozen? ⟨g,i,none⟩ = false := by
 obtain ⟨cs,h1,_,_⟩ := h
 exact h1.free i
theorem Rz.lt {w : World} {g n : Nat} {d : Nat -> Nat} (h : Rz w g n d) : g < w.heap.size := by obtain ⟨cs,h1,_,_⟩ := h; exact h1.lt
theorem Rz.later {w w' : World} {g n : Nat} {d : Nat -> Nat} (h : Rz w g n d) (hb : Below w.heap.size w w') : Rz w' g n d := by
 obtain ⟨cs,h1,h2,h3⟩ := h
 exact ⟨cs,h1.later hb,h2,h3⟩
theorem Rz.congr {w : World} {g n : Nat} {d e : Nat -> Nat} (h : Rz w g n d) (he : ∀ i,i < n -> e i = d i) : Rz w g n e := by
 obtain ⟨cs,h1,h2,h3⟩ := h
 exact ⟨cs,h1,h2,fun i hi => by rw [he i hi]; exact h3 i hi⟩
theorem Rz.set {w : World} {g n : Nat} {d : Nat -> Nat} (h : Rz w g n d) (p v : Nat) (hp : p < n) : Rz (w.setCell ⟨g,p,none⟩ (.int .i64 (v : Int))) g n (fun i => if i = p then v else d i) := by
 obtain ⟨cs,h1,h2,h3⟩ := h
 refine ⟨_,h1.setSelf _,by simp [h2],fun i hi => ?_⟩
 show _ = some (Value.int .i64 ((if i = p then v else d i : Nat) : Int))
 by_cases e : i = p
 ·subst e
  rw [if_pos rfl]
  simp [h2,hp]
 ·rw [if_neg e]
  rw [Array.getElem?_setIfInBounds_ne (by omega)]
  exact h3 i hi
theorem madeRz (w : World) (n : Nat) : Rz (w.alloc (.cells (madeCells #[Value.int .i64 0] n) 3)) w.heap.size n (fun _ => 0) := by
 refine ⟨_,Has.new w _,?_,fun i hi => ?_⟩
 ·simp [madeCells]
 ·simp [madeCells,hi,Nat.mod_one]
end
section
open Go.ChangeShapes Go.WideShapes Go.ChangeAt Go.RowKit Go.Joins
theorem Tryz.own : ownKnob Tryz.prog.godebug = none := by kernel_rfl
theorem Tryz.laidOut : laidOutB Tryz.prog = true := by kernel_rfl
theorem wf_u8 {n : Int} (h : (Lit.int .u8 n).wf = true) : 0 <= n /\ n <= 255 := by
 have := bounds_u8 h
 omega
end
end Go.Proofs.YtmgpcbjciioiaaaGreatDoor
