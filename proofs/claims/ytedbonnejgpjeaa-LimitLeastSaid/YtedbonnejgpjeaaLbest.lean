/- What is bought costs least; what lengths it gives: plain facts. -/
import Derived.Test.YtedbonnejgpjeaaLplain
namespace Go.Proofs.Ytedbonnejgpjeaa
namespace Lm

/-- Laid in behind all that weigh no more. -/
def ins {α : Type} (k : α → Nat) (x : α) : List α → List α
  | [] => [x]
  | y :: r => if k x < k y then x :: y :: r else y :: ins k x r
def isrt {α : Type} (k : α → Nat) (l : List α) : List α := l.foldl (fun s x => ins k x s) []

theorem ins_perm {α : Type} (k : α → Nat) (x : α) : ∀ l : List α, (ins k x l).Perm (x :: l)
  | [] => List.Perm.refl _
  | y :: r => by
    unfold ins
    by_cases h : k x < k y
    · rw [if_pos h]
    · rw [if_neg h]; exact ((ins_perm k x r).cons y).trans (List.Perm.swap x y r)
theorem ins_up {α : Type} (k : α → Nat) (x : α) : ∀ l : List α, Up k l → Up k (ins k x l)
  | [], _ => List.pairwise_singleton _ _
  | y :: r, h => by
    have h1 := List.pairwise_cons.1 h
    unfold ins
    by_cases hk : k x < k y
    · rw [if_pos hk]
      refine List.pairwise_cons.2 ⟨fun z hz => ?_, h⟩
      rcases List.mem_cons.1 hz with rfl | hz
      · omega
      · have := h1.1 z hz; omega
    · rw [if_neg hk]
      refine List.pairwise_cons.2 ⟨fun z hz => ?_, ins_up k x r h1.2⟩
      rcases List.mem_cons.1 ((ins_perm k x r).mem_iff.1 hz) with rfl | hz
      · omega
      · exact h1.1 z hz
theorem fold_perm {α : Type} (k : α → Nat) : ∀ (l s : List α), (l.foldl (fun s x => ins k x s) s).Perm (l ++ s)
  | [], s => List.Perm.refl _
  | x :: l, s => by
    rw [List.foldl_cons]
    exact (fold_perm k l (ins k x s)).trans (((ins_perm k x s).append_left l).trans List.perm_middle)
theorem fold_up {α : Type} (k : α → Nat) : ∀ (l s : List α), Up k s → Up k (l.foldl (fun s x => ins k x s) s)
  | [], _, h => h
  | x :: l, s, h => by rw [List.foldl_cons]; exact fold_up k l _ (ins_up k x s h)
theorem isrt_perm {α : Type} (k : α → Nat) (l : List α) : (isrt k l).Perm l := by have := fold_perm k l []; rwa [List.append_nil] at this
theorem isrt_up {α : Type} (k : α → Nat) (l : List α) : Up k (isrt k l) := fold_up k l [] List.Pairwise.nil
theorem isrt_length {α : Type} (k : α → Nat) (l : List α) : (isrt k l).length = l.length := (isrt_perm k l).length_eq

/-! Names for what is sorted -/
section Map
variable {α β : Type} (k : α → Nat) (k' : β → Nat) (f : α → β) (hf : ∀ x y, k' (f x) < k' (f y) ↔ k x < k y)
include hf
theorem map_ins (x : α) : ∀ l : List α, (ins k x l).map f = ins k' (f x) (l.map f)
  | [] => rfl
  | y :: r => by
    simp only [ins, List.map_cons]
    by_cases h : k x < k y
    · rw [if_pos h, if_pos ((hf x y).2 h)]; rfl
    · rw [if_neg h, if_neg (mt (hf x y).1 h), List.map_cons, map_ins x r]
theorem map_fold : ∀ l s : List α, (l.foldl (fun s x => ins k x s) s).map f = (l.map f).foldl (fun s x => ins k' x s) (s.map f)
  | [], _ => rfl
  | x :: l, s => by rw [List.foldl_cons, map_fold l, map_ins k k' f hf]; rfl
theorem map_isrt (l : List α) : (isrt k l).map f = isrt k' (l.map f) := map_fold k k' f hf l []
theorem map_mrg : ∀ a b : List α, (mrg k a b).map f = mrg k' (a.map f) (b.map f) := by
  refine mrg_ind k ?_ ?_ ?_ ?_
  · intro b; rw [mrg_nil_left, List.map_nil, mrg_nil_left]
  · intro a; rw [mrg_nil_right, List.map_nil, mrg_nil_right]
  · intro x a y b h ih
    rw [mrg_cons, if_neg h, List.map_cons, List.map_cons, List.map_cons, mrg_cons, if_neg (mt (hf y x).1 h), ih]; rfl
  · intro x a y b h ih
    rw [mrg_cons, if_pos h, List.map_cons, List.map_cons, List.map_cons, mrg_cons, if_pos ((hf y x).2 h), ih]; rfl
variable (ad : α → α → α) (ad' : β → β → β) (ha : ∀ x y, f (ad x y) = ad' (f x) (f y))
include ha
omit hf in
theorem map_prs : ∀ l : List α, (prs ad l).map f = prs ad' (l.map f)
  | [] => by simp [prs]
  | [_] => by simp [prs]
  | x :: y :: r => by simp only [prs, List.map_cons, ha, map_prs r]
theorem map_lvl (S : List α) (j : Nat) : (lvl k ad S j).map f = lvl k' ad' (S.map f) j := by
  induction j with
  | zero => rfl
  | succ j ih => simp only [lvl]; rw [map_mrg k k' f hf, map_prs f ad ad' ha, ih]
end Map

theorem sm_map {α β : Type} (c : β → Nat) (f : α → β) (l : List α) : sm c (l.map f) = sm (fun x => c (f x)) l := by simp [sm, Function.comp_def]
theorem sm_congr {α : Type} {c d : α → Nat} : ∀ {l : List α}, (∀ x ∈ l, c x = d x) → sm c l = sm d l
  | [], _ => rfl
  | x :: l, h => by rw [sm_cons, sm_cons, h x (by simp), sm_congr fun y hy => h y (by simp [hy])]
theorem sm_add {α : Type} (c d : α → Nat) (l : List α) : sm (fun x => c x + d x) l = sm c l + sm d l := by
  induction l with
  | nil => rfl
  | cons x l ih => rw [sm_cons, sm_cons, sm_cons, ih]; omega
theorem sm_mul {α : Type} (c : α → Nat) (m : Nat) (l : List α) : sm (fun x => m * c x) l = m * sm c l := by
  induction l with
  | nil => rfl
  | cons x l ih => rw [sm_cons, sm_cons, ih, Nat.mul_add]
theorem sm_le {α : Type} {c d : α → Nat} : ∀ {l : List α}, (∀ x ∈ l, c x ≤ d x) → sm c l ≤ sm d l
  | [], _ => Nat.le_refl _
  | x :: l, h => by
    have h1 := h x (by simp)
    have h2 : sm c l ≤ sm d l := sm_le fun y hy => h y (by simp [hy])
    rw [sm_cons, sm_cons]; omega
theorem sm_take_mono {α : Type} (c : α → Nat) : ∀ (l : List α) (s t : Nat), s ≤ t → sm c (l.take s) ≤ sm c (l.take t)
  | [], s, t, _ => by simp
  | x :: l, s, t, h => by
    cases s with
    | zero => simp [sm_nil]
    | succ s =>
      cases t with
      | zero => omega
      | succ t =>
        have := sm_take_mono c l s t (by omega)
        rw [List.take_succ_cons, List.take_succ_cons, sm_cons, sm_cons]; omega

/-! What is bought costs least -/
theorem shift {α : Type} (k : α → Nat) (x : α) : ∀ (S : List α) (y : α) (t : Nat), Up k (y :: S) → k x ≤ k y → t ≤ S.length → k x + sm k ((y :: S).take t) ≤ sm k ((y :: S).take (t + 1))
  | S, y, 0, _, hx, _ => by simp [sm, hx]
  | [], y, t + 1, _, _, ht => by simp at ht
  | z :: S, y, t + 1, hu, hx, ht => by
    have h1 := List.pairwise_cons.1 hu
    have := shift k x S z t h1.2 (Nat.le_trans hx (h1.1 z (by simp))) (by simpa using ht)
    rw [List.take_succ_cons (i := t), List.take_succ_cons (i := t + 1), sm_cons, sm_cons]; omega

theorem mrg_least {α : Type} (k : α → Nat) : ∀ a b : List α, Up k a → Up k b → ∀ i j, i ≤ a.length → j ≤ b.length → sm k ((mrg k a b).take (i + j)) ≤ sm k (a.take i) + sm k (b.take j) := by
  refine mrg_ind k ?_ ?_ ?_ ?_
  · intro b _ _ i j hi _
    have : i = 0 := by simpa using hi
    subst this
    rw [mrg_nil_left, Nat.zero_add]; simp [sm_nil]
  · intro a _ _ i j _ hj
    have : j = 0 := by simpa using hj
    subst this
    rw [mrg_nil_right, Nat.add_zero]; simp [sm_nil]
  · intro x a y b h ih ha hb i j hi hj
    have h1 := List.pairwise_cons.1 ha
    rw [mrg_cons, if_neg h]
    cases i with
    | succ i =>
      have := ih h1.2 hb i j (by simpa using hi) hj
      rw [show i + 1 + j = (i + j) + 1 by omega, List.take_succ_cons, List.take_succ_cons, sm_cons, sm_cons]; omega
    | zero =>
      cases j with
      | zero => simp [sm_nil]
      | succ j =>
        have g1 := ih h1.2 hb 0 j (Nat.zero_le _) (by omega)
        have g2 := shift k x b y j hb (by omega) (by simpa using hj)
        rw [Nat.zero_add, List.take_zero, sm_nil] at g1
        rw [Nat.zero_add, List.take_succ_cons, sm_cons, List.take_zero, sm_nil]; omega
  · intro x a y b h ih ha hb i j hi hj
    have h1 := List.pairwise_cons.1 hb
    rw [mrg_cons, if_pos h]
    cases j with
    | succ j =>
      have := ih ha h1.2 i j hi (by simpa using hj)
      rw [show i + (j + 1) = (i + j) + 1 by omega, List.take_succ_cons, List.take_succ_cons, sm_cons, sm_cons]; omega
    | zero =>
      cases i with
      | zero => simp [sm_nil]
      | succ i =>
        have g1 := ih ha h1.2 i 0 (by omega) (Nat.zero_le _)
        have g2 := shift k y a x i ha (by omega) (by simpa using hi)
        rw [Nat.add_zero, List.take_zero, sm_nil] at g1
        rw [Nat.add_zero, List.take_succ_cons, sm_cons, List.take_zero, sm_nil]; omega

def sumTo (f : Nat → Nat) : Nat → Nat
  | 0 => 0
  | n + 1 => sumTo f n + f n
theorem sumTo_congr {f g : Nat → Nat} {n : Nat} (h : ∀ i, i < n → f i = g i) : sumTo f n = sumTo g n := by
  induction n with
  | zero => rfl
  | succ n ih => simp only [sumTo]; rw [ih fun i hi => h i (by omega), h n (by omega)]
theorem sumTo_le {f g : Nat → Nat} {n : Nat} (h : ∀ i, i < n → f i ≤ g i) : sumTo f n ≤ sumTo g n := by
  induction n with
  | zero => exact Nat.le_refl _
  | succ n ih => have h1 := ih fun i hi => h i (by omega); have h2 := h n (by omega); simp only [sumTo]; omega
theorem sumTo_add (f g : Nat → Nat) (n : Nat) : sumTo (fun i => f i + g i) n = sumTo f n + sumTo g n := by
  induction n with
  | zero => rfl
  | succ n ih => simp only [sumTo, ih]; omega
theorem sumTo_mul (f : Nat → Nat) (m n : Nat) : sumTo (fun i => f i * m) n = sumTo f n * m := by
  induction n with
  | zero => simp [sumTo]
  | succ n ih => simp only [sumTo, ih, Nat.add_mul]
theorem sumTo_const (c n : Nat) : sumTo (fun _ => c) n = n * c := by
  induction n with
  | zero => simp [sumTo]
  | succ n ih => simp only [sumTo, ih, Nat.succ_mul]
theorem sumTo_zero (n : Nat) : sumTo (fun _ => 0) n = 0 := by rw [sumTo_const, Nat.mul_zero]

/-- How many there are of each level, when so many singles are taken. -/
def yy (t : Nat → Nat) : Nat → Nat
  | 0 => t 0
  | j + 1 => t (j + 1) + yy t j / 2

theorem opt {α : Type} (k : α → Nat) (ad : α → α → α) (hk : ∀ x y, k (ad x y) = k x + k y) (S : List α) (hS : Up k S) (t : Nat → Nat) (ht : ∀ j, t j ≤ S.length) (j : Nat) :
    yy t j ≤ (lvl k ad S j).length ∧ sm k ((lvl k ad S j).take (yy t j)) ≤ sumTo (fun i => sm k (S.take (t i))) (j + 1) := by
  induction j with
  | zero => exact ⟨ht 0, by simp [sumTo, lvl, yy]⟩
  | succ j ih =>
    refine ⟨by rw [lvl_length]; have := ht (j + 1); simp only [yy]; omega, ?_⟩
    have h1 := mrg_least k S (prs ad (lvl k ad S j)) hS (prs_up k ad hk _ (lvl_up k ad hk S hS j)) (t (j + 1)) (yy t j / 2) (ht _) (by rw [prs_length]; omega)
    rw [prs_take, sm_prs ad k hk _ (by rw [List.length_take]; omega)] at h1
    have h2 := sm_take_mono k (lvl k ad S j) (2 * (yy t j / 2)) (yy t j) (by omega)
    rw [sumTo]
    simp only [lvl, yy]
    omega
theorem yy_pow (t : Nat → Nat) (j : Nat) : sumTo (fun i => t i * 2 ^ i) (j + 1) + 1 ≤ yy t j * 2 ^ j + 2 ^ j := by
  induction j with
  | zero => simp [sumTo, yy]
  | succ j ih =>
    rw [sumTo]
    simp only [yy]
    have h1 : yy t j * 2 ^ j ≤ (yy t j / 2) * 2 ^ (j + 1) + 2 ^ j := by
      have : yy t j ≤ yy t j / 2 * 2 + 1 := by omega
      have := Nat.mul_le_mul_right (2 ^ j) this
      rw [Nat.add_mul, Nat.one_mul, Nat.mul_assoc, Nat.mul_comm 2 (2 ^ j), ← Nat.pow_succ] at this
      exact this
    have h2 : 2 ^ (j + 1) = 2 ^ j + 2 ^ j := by rw [Nat.pow_succ]; omega
    rw [Nat.add_mul]
    generalize yy t j / 2 * 2 ^ (j + 1) = u at *
    generalize t (j + 1) * 2 ^ (j + 1) = v at *
    generalize yy t j * 2 ^ j = x at *
    omega

/-- The least of a sorted list cost no more than as many others. -/
theorem ins_take {α : Type} (k : α → Nat) (x : α) : ∀ (S : List α) (c : Nat), sm k ((ins k x S).take (c + 1)) ≤ k x + sm k (S.take c)
  | [], c => by simp [ins, sm]
  | y :: S, c => by
    unfold ins
    by_cases h : k x < k y
    · rw [if_pos h, List.take_succ_cons, sm_cons]; exact Nat.le_refl _
    · rw [if_neg h]
      cases c with
      | zero => simp [sm]; omega
      | succ c =>
        have := ins_take k x S c
        rw [List.take_succ_cons, List.take_succ_cons, sm_cons, sm_cons]; omega
theorem ins_take_same {α : Type} (k : α → Nat) (x : α) : ∀ (S : List α) (c : Nat), Up k S → c ≤ S.length → sm k ((ins k x S).take c) ≤ sm k (S.take c)
  | [], c, _, h => by
    have : c = 0 := by simpa using h
    subst this
    simp [sm]
  | y :: S, c, hu, hc => by
    unfold ins
    by_cases h : k x < k y
    · rw [if_pos h]
      cases c with
      | zero => simp [sm]
      | succ c =>
        rw [List.take_succ_cons, sm_cons]
        exact shift k x S y c hu (by omega) (by simpa using hc)
    · rw [if_neg h]
      cases c with
      | zero => simp [sm]
      | succ c =>
        have := ins_take_same k x S c (List.pairwise_cons.1 hu).2 (by simpa using hc)
        rw [List.take_succ_cons, List.take_succ_cons, sm_cons, sm_cons]; omega

/-- How many, and what they cost: of those that q takes. -/
def cn (q : Nat → Bool) : List (Nat × Nat) → Nat
  | [] => 0
  | p :: P => (if q p.2 then 1 else 0) + cn q P
def co (q : Nat → Bool) : List (Nat × Nat) → Nat
  | [] => 0
  | p :: P => (if q p.2 then p.1 else 0) + co q P
theorem cn_le (q : Nat → Bool) : ∀ P, cn q P ≤ P.length
  | [] => Nat.le_refl _
  | p :: P => by have := cn_le q P; simp only [cn, List.length_cons]; split <;> omega

theorem least_fold (q : Nat → Bool) : ∀ (P : List (Nat × Nat)) (S : List Nat) (c T : Nat), Up (fun x => x) S → c ≤ S.length → sm (fun x => x) (S.take c) ≤ T →
    sm (fun x => x) (((P.map Prod.fst).foldl (fun s x => ins (fun x => x) x s) S).take (c + cn q P)) ≤ T + co q P
  | [], S, c, T, _, _, h => by simpa [cn, co] using h
  | p :: P, S, c, T, hu, hc, h => by
    rw [List.map_cons, List.foldl_cons]
    have hu2 := ins_up (fun x => x) p.1 S hu
    have hl : (ins (fun x => x) p.1 S).length = S.length + 1 := by rw [(ins_perm _ p.1 S).length_eq]; rfl
    simp only [cn, co]
    by_cases hq : q p.2
    · rw [if_pos hq, if_pos hq]
      have := least_fold q P _ (c + 1) (T + p.1) hu2 (by omega) (by have := ins_take (fun x => x) p.1 S c; omega)
      rw [show c + (1 + cn q P) = c + 1 + cn q P by omega, show T + (p.1 + co q P) = T + p.1 + co q P by omega]
      exact this
    · rw [if_neg hq, if_neg hq]
      have := least_fold q P _ c T hu2 (by omega) (by have := ins_take_same (fun x => x) p.1 S c hu hc; omega)
      rw [Nat.zero_add, Nat.zero_add]
      exact this
theorem least_of (q : Nat → Bool) (P : List (Nat × Nat)) : sm (fun x => x) ((isrt (fun x => x) (P.map Prod.fst)).take (cn q P)) ≤ co q P := by
  have := least_fold q P [] 0 0 List.Pairwise.nil (Nat.zero_le _) (by simp [sm])
  rwa [Nat.zero_add, Nat.zero_add] at this

/-- By levels, or by symbols. -/
theorem co_levels (M : Nat) : ∀ P : List (Nat × Nat), (∀ p ∈ P, p.2 ≤ M) → sumTo (fun j => co (fun l => decide (M - j ≤ l)) P) M = sm (fun p => p.1 * p.2) P
  | [], _ => by simp [co, sm, sumTo_const]
  | p :: P, h => by
    have h1 := co_levels M P fun x hx => h x (by simp [hx])
    have h2 := h p (by simp)
    simp only [co]
    rw [sumTo_add, h1, sm_cons]
    congr 1
    have : ∀ t, t ≤ M → sumTo (fun j => if decide (M - j ≤ p.2) = true then p.1 else 0) t = p.1 * (t - (M - p.2)) := by
      intro t
      induction t with
      | zero => intro _; simp [sumTo]
      | succ t ih =>
        intro ht
        simp only [sumTo]
        rw [ih (by omega)]
        by_cases hh : M - t ≤ p.2
        · rw [if_pos (by simpa using hh), show t + 1 - (M - p.2) = (t - (M - p.2)) + 1 by omega, Nat.mul_succ]
        · rw [if_neg (by simpa using hh), show t + 1 - (M - p.2) = 0 by omega, show t - (M - p.2) = 0 by omega, Nat.add_zero]
    rw [this M (Nat.le_refl _), show M - (M - p.2) = p.2 by omega]
theorem cn_levels (M : Nat) : ∀ P : List (Nat × Nat), (∀ p ∈ P, p.2 ≤ M) → sumTo (fun j => cn (fun l => decide (M - j ≤ l)) P * 2 ^ j) M + sm (fun p => 2 ^ (M - p.2)) P = P.length * 2 ^ M
  | [], _ => by simp [cn, sm, sumTo_const]
  | p :: P, h => by
    have h1 := cn_levels M P fun x hx => h x (by simp [hx])
    have h2 := h p (by simp)
    simp only [cn, Nat.add_mul]
    rw [sumTo_add, sm_cons, List.length_cons, Nat.succ_mul]
    have : ∀ t, t ≤ M → sumTo (fun j => (if decide (M - j ≤ p.2) = true then 1 else 0) * 2 ^ j) t + 2 ^ min t (M - p.2) = 2 ^ t := by
      intro t
      induction t with
      | zero => intro _; simp [sumTo]
      | succ t ih =>
        intro ht
        have ih := ih (by omega)
        simp only [sumTo]
        have hp : 2 ^ (t + 1) = 2 ^ t + 2 ^ t := by rw [Nat.pow_succ]; omega
        by_cases hh : M - t ≤ p.2
        · rw [if_pos (by simpa using hh), Nat.min_eq_right (by omega)]
          rw [Nat.min_eq_right (by omega)] at ih
          omega
        · rw [if_neg (by simpa using hh), Nat.min_eq_left (by omega)]
          rw [Nat.min_eq_left (by omega)] at ih
          omega
    have := this M (Nat.le_refl _)
    rw [Nat.min_eq_right (by omega)] at this
    omega

/-- NOTHING COSTS LESS: lengths up to M that a code may have cost no less than what is bought of M levels. -/
theorem best (M : Nat) (hM : 1 ≤ M) (P : List (Nat × Nat)) (h1 : ∀ p ∈ P, p.2 ≤ M) (h2 : sm (fun p => 2 ^ (M - p.2)) P ≤ 2 ^ M) :
    sm (fun x => x) ((lvl (fun x => x) (fun x y => x + y) (isrt (fun x => x) (P.map Prod.fst)) (M - 1)).take (2 * P.length - 2)) ≤ sm (fun p => p.1 * p.2) P := by
  obtain ⟨J, rfl⟩ : ∃ J, M = J + 1 := ⟨M - 1, by omega⟩
  rw [Nat.add_sub_cancel]
  have hlen : (isrt (fun x : Nat => x) (P.map Prod.fst)).length = P.length := by rw [isrt_length, List.length_map]
  have ho := (opt (fun x => x) (fun x y => x + y) (fun _ _ => rfl) (isrt (fun x => x) (P.map Prod.fst)) (isrt_up _ _) (fun j => cn (fun l => decide (J + 1 - j ≤ l)) P) (fun j => by rw [hlen]; exact cn_le _ _) J).2
  have hc := cn_levels (J + 1) P h1
  have hy := yy_pow (fun j => cn (fun l => decide (J + 1 - j ≤ l)) P) J
  have hco := co_levels (J + 1) P h1
  have hle : sumTo (fun i => sm (fun x => x) ((isrt (fun x => x) (P.map Prod.fst)).take (cn (fun l => decide (J + 1 - i ≤ l)) P))) (J + 1) ≤ sumTo (fun j => co (fun l => decide (J + 1 - j ≤ l)) P) (J + 1) :=
    sumTo_le fun i _ => least_of _ _
  generalize hY : yy (fun j => cn (fun l => decide (J + 1 - j ≤ l)) P) J = Y at *
  have hY2 : 2 * P.length - 2 ≤ Y := by
    refine Nat.le_of_not_lt fun hlt => ?_
    have e1 : 2 ^ (J + 1) = 2 * 2 ^ J := by rw [Nat.pow_succ, Nat.mul_comm]
    have e2 : P.length * 2 ^ (J + 1) = 2 * P.length * 2 ^ J := by rw [e1, Nat.mul_comm 2 P.length, Nat.mul_assoc]
    have e3 : (Y + 3) * 2 ^ J ≤ 2 * P.length * 2 ^ J := Nat.mul_le_mul_right _ (by omega)
    rw [Nat.add_mul] at e3
    generalize Y * 2 ^ J = u at *
    generalize 2 * P.length * 2 ^ J = v at *
    generalize 2 ^ J = z at *
    omega
  have hm := sm_take_mono (fun x : Nat => x) (lvl (fun x => x) (fun x y => x + y) (isrt (fun x => x) (P.map Prod.fst)) J) _ _ hY2
  omega
end Lm
end Go.Proofs.Ytedbonnejgpjeaa
