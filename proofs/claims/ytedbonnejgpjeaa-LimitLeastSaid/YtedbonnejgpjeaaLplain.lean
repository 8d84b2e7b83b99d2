/- Merged and paired lists, level by level: plain facts. Nothing of the program is named here. -/
namespace Go.Proofs.Ytedbonnejgpjeaa
namespace Lm

/-- Two lists as one; of what weighs the same the first list's come first. (With as many steps as there may be.) -/
def mrgF {α : Type} (k : α → Nat) : Nat → List α → List α → List α
  | 0, a, b => a ++ b
  | _ + 1, [], b => b
  | _ + 1, x :: a, [] => x :: a
  | n + 1, x :: a, y :: b => if k y < k x then y :: mrgF k n (x :: a) b else x :: mrgF k n a (y :: b)
def mrg {α : Type} (k : α → Nat) (a b : List α) : List α := mrgF k (a.length + b.length) a b

theorem mrg_nil_left {α : Type} (k : α → Nat) (b : List α) : mrg k [] b = b := by
  unfold mrg
  cases b with
  | nil => rfl
  | cons y b => rfl
theorem mrg_nil_right {α : Type} (k : α → Nat) (a : List α) : mrg k a [] = a := by
  unfold mrg
  cases a with
  | nil => rfl
  | cons x a => rfl
theorem mrg_cons {α : Type} (k : α → Nat) (x y : α) (a b : List α) : mrg k (x :: a) (y :: b) = if k y < k x then y :: mrg k (x :: a) b else x :: mrg k a (y :: b) := by
  unfold mrg
  rw [show (x :: a).length + (y :: b).length = ((x :: a).length + b.length) + 1 by simp; omega, mrgF]
  rw [show (x :: a).length + b.length = a.length + (y :: b).length by simp; omega]

theorem mrg_ind {α : Type} (k : α → Nat) {M : List α → List α → Prop} (hl : ∀ b, M [] b) (hr : ∀ a, M a [])
    (h1 : ∀ x a y b, ¬ k y < k x → M a (y :: b) → M (x :: a) (y :: b)) (h2 : ∀ x a y b, k y < k x → M (x :: a) b → M (x :: a) (y :: b)) : ∀ a b, M a b := by
  have h : ∀ n a b, a.length + b.length ≤ n → M a b := by
    intro n
    induction n with
    | zero =>
      intro a b h
      rw [List.eq_nil_of_length_eq_zero (l := a) (by omega)]; exact hl b
    | succ n ih =>
      intro a b h
      cases a with
      | nil => exact hl b
      | cons x a =>
        cases b with
        | nil => exact hr _
        | cons y b =>
          simp only [List.length_cons] at h
          by_cases hk : k y < k x
          · exact h2 x a y b hk (ih _ _ (by simp only [List.length_cons]; omega))
          · exact h1 x a y b hk (ih _ _ (by simp only [List.length_cons]; omega))
  exact fun a b => h _ a b (Nat.le_refl _)

theorem mrg_perm {α : Type} (k : α → Nat) : ∀ a b : List α, (mrg k a b).Perm (a ++ b) := by
  refine mrg_ind k ?_ ?_ ?_ ?_
  · intro b; rw [mrg_nil_left]; exact List.Perm.refl _
  · intro a; rw [mrg_nil_right, List.append_nil]
  · intro x a y b h ih
    rw [mrg_cons, if_neg h]
    exact ih.cons x
  · intro x a y b h ih
    rw [mrg_cons, if_pos h]
    exact (ih.cons y).trans (List.perm_middle.symm)
theorem mrg_length {α : Type} (k : α → Nat) (a b : List α) : (mrg k a b).length = a.length + b.length := by
  rw [(mrg_perm k a b).length_eq, List.length_append]

/-- Sorted. -/
def Up {α : Type} (k : α → Nat) (l : List α) : Prop := l.Pairwise fun x y => k x ≤ k y

theorem mrg_up {α : Type} (k : α → Nat) : ∀ a b : List α, Up k a → Up k b → Up k (mrg k a b) := by
  refine mrg_ind k ?_ ?_ ?_ ?_
  · intro b _ h; rw [mrg_nil_left]; exact h
  · intro a h _; rw [mrg_nil_right]; exact h
  · intro x a y b h ih ha hb
    rw [mrg_cons, if_neg h]
    have h1 := List.pairwise_cons.1 ha
    have h2 := List.pairwise_cons.1 hb
    refine List.pairwise_cons.2 ⟨fun z hz => ?_, ih h1.2 hb⟩
    rcases List.mem_append.1 ((mrg_perm k _ _).mem_iff.1 hz) with hz | hz
    · exact h1.1 z hz
    · rcases List.mem_cons.1 hz with rfl | hz
      · omega
      · have := h2.1 z hz; omega
  · intro x a y b h ih ha hb
    rw [mrg_cons, if_pos h]
    have h1 := List.pairwise_cons.1 ha
    have h2 := List.pairwise_cons.1 hb
    refine List.pairwise_cons.2 ⟨fun z hz => ?_, ih ha h2.2⟩
    rcases List.mem_append.1 ((mrg_perm k _ _).mem_iff.1 hz) with hz | hz
    · rcases List.mem_cons.1 hz with rfl | hz
      · omega
      · have := h1.1 z hz; omega
    · exact h2.1 z hz

/-- So many of the first m are of the first list. -/
def na {α : Type} (k : α → Nat) : Nat → List α → List α → Nat
  | 0, _, _ => 0
  | _ + 1, [], _ => 0
  | m + 1, _ :: a, [] => min (m + 1) (a.length + 1)
  | m + 1, x :: a, y :: b => if k y < k x then na k m (x :: a) b else na k m a (y :: b) + 1

theorem na_le {α : Type} (k : α → Nat) (m : Nat) : ∀ a b : List α, na k m a b ≤ m ∧ na k m a b ≤ a.length := by
  induction m with
  | zero => intro a b; simp [na]
  | succ m ih =>
    intro a b
    cases a with
    | nil => simp [na]
    | cons x a =>
      cases b with
      | nil => simp only [na, List.length_cons]; omega
      | cons y b =>
        simp only [na]
        by_cases h : k y < k x
        · rw [if_pos h]; have := ih (x :: a) b; omega
        · rw [if_neg h]; have := ih a (y :: b); simp only [List.length_cons]; omega
theorem na_rest {α : Type} (k : α → Nat) (m : Nat) : ∀ a b : List α, m ≤ a.length + b.length → m - na k m a b ≤ b.length := by
  induction m with
  | zero => intro a b; simp
  | succ m ih =>
    intro a b h
    cases a with
    | nil => simp [na] at h ⊢; omega
    | cons x a =>
      cases b with
      | nil => simp only [na, List.length_cons, List.length_nil] at h ⊢; omega
      | cons y b =>
        simp only [na]
        simp only [List.length_cons] at h
        by_cases hk : k y < k x
        · rw [if_pos hk]; have := ih (x :: a) b (by simp only [List.length_cons]; omega); have := (na_le k m (x :: a) b).1; simp only [List.length_cons]; omega
        · rw [if_neg hk]; have := ih a (y :: b) (by simp only [List.length_cons]; omega); simp only [List.length_cons] at this ⊢; omega

theorem mrg_take {α : Type} (k : α → Nat) (m : Nat) : ∀ a b : List α, m ≤ a.length + b.length → ((mrg k a b).take m).Perm (a.take (na k m a b) ++ b.take (m - na k m a b)) := by
  induction m with
  | zero => intro a b _; simp [na]
  | succ m ih =>
    intro a b h
    cases a with
    | nil => rw [mrg_nil_left]; simp [na]
    | cons x a =>
      cases b with
      | nil =>
        rw [mrg_nil_right]
        simp only [na, List.take_nil, List.append_nil]
        have e : (x :: a).take (m + 1) = (x :: a).take (min (m + 1) (a.length + 1)) := by
          rw [show a.length + 1 = (x :: a).length from rfl, ← List.take_take, List.take_of_length_le (l := x :: a) (i := (x :: a).length) (Nat.le_refl _)]
        rw [e]
      | cons y b =>
        simp only [List.length_cons] at h
        simp only [na]
        rw [mrg_cons]
        by_cases hk : k y < k x
        · rw [if_pos hk, if_pos hk, List.take_succ_cons]
          have h1 := ih (x :: a) b (by simp only [List.length_cons]; omega)
          have h2 := (na_le k m (x :: a) b).1
          rw [show m + 1 - na k m (x :: a) b = (m - na k m (x :: a) b) + 1 by omega, List.take_succ_cons]
          exact (h1.cons y).trans (List.perm_middle.symm)
        · rw [if_neg hk, if_neg hk, List.take_succ_cons, List.take_succ_cons]
          have h1 := ih a (y :: b) (by simp only [List.length_cons]; omega)
          rw [show m + 1 - (na k m a (y :: b) + 1) = m - na k m a (y :: b) by omega]
          exact h1.cons x

/-- What is taken of the second list is below what is left of the first one. -/
theorem gap {α : Type} (k : α → Nat) (m : Nat) : ∀ a b : List α, Up k a → ∀ y z, 0 < m - na k m a b → b[m - na k m a b - 1]? = some y → a[na k m a b]? = some z → k y < k z := by
  induction m with
  | zero => intro a b _ y z h; simp at h
  | succ m ih =>
    intro a b hu y z h hy hz
    cases a with
    | nil => simp at hz
    | cons x a =>
      cases b with
      | nil => simp at hy
      | cons u b =>
        simp only [na] at h hy hz
        by_cases hk : k u < k x
        · rw [if_pos hk] at h hy hz
          by_cases h0 : 0 < m - na k m (x :: a) b
          · rw [show m + 1 - na k m (x :: a) b - 1 = (m - na k m (x :: a) b - 1) + 1 by omega, List.getElem?_cons_succ] at hy
            exact ih (x :: a) b hu y z h0 hy hz
          · have h1 := (na_le k m (x :: a) b).1
            rw [show m + 1 - na k m (x :: a) b - 1 = 0 by omega, List.getElem?_cons_zero] at hy
            cases hy
            have hm : z ∈ x :: a := List.mem_of_getElem? hz
            have hp := List.pairwise_cons.1 hu
            rcases List.mem_cons.1 hm with rfl | hm
            · exact hk
            · have := hp.1 z hm; omega
        · rw [if_neg hk] at h hy hz
          rw [List.getElem?_cons_succ] at hz
          rw [show m + 1 - (na k m a (u :: b) + 1) = m - na k m a (u :: b) by omega] at h hy
          exact ih a (u :: b) (List.pairwise_cons.1 hu).2 y z h hy hz

/-- A list two by two; the last one of an odd list is left out. -/
def prs {α : Type} (ad : α → α → α) : List α → List α
  | x :: y :: r => ad x y :: prs ad r
  | _ => []

theorem prs_length {α : Type} (ad : α → α → α) : ∀ l : List α, (prs ad l).length = l.length / 2
  | [] => by simp [prs]
  | [_] => by simp [prs]
  | x :: y :: r => by simp only [prs, List.length_cons, prs_length ad r]; omega
theorem prs_take {α : Type} (ad : α → α → α) : ∀ (l : List α) (p : Nat), (prs ad l).take p = prs ad (l.take (2 * p))
  | [], p => by simp [prs]
  | [x], p => by
    cases p with
    | zero => simp [prs]
    | succ p => rw [show 2 * (p + 1) = (2 * p + 1) + 1 by omega, List.take_succ_cons, List.take_nil]; simp [prs]
  | x :: y :: r, p => by
    cases p with
    | zero => simp [prs]
    | succ p => rw [show 2 * (p + 1) = 2 * p + 1 + 1 by omega, List.take_succ_cons, List.take_succ_cons]; simp only [prs, List.take_succ_cons, prs_take ad r p]
theorem prs_get {α : Type} (ad : α → α → α) : ∀ (l : List α) (q : Nat) (z : α), (prs ad l)[q]? = some z → ∃ x y, l[2 * q]? = some x ∧ l[2 * q + 1]? = some y ∧ z = ad x y
  | [], q, z, h => by simp [prs] at h
  | [x], q, z, h => by simp [prs] at h
  | x :: y :: r, q, z, h => by
    cases q with
    | zero => simp [prs] at h; exact ⟨x, y, rfl, rfl, h.symm⟩
    | succ q =>
      simp only [prs, List.getElem?_cons_succ] at h
      obtain ⟨u, v, h1, h2, h3⟩ := prs_get ad r q z h
      refine ⟨u, v, ?_, ?_, h3⟩
      · rw [show 2 * (q + 1) = 2 * q + 1 + 1 by omega]; exact h1
      · rw [show 2 * (q + 1) + 1 = 2 * q + 1 + 1 + 1 by omega]; exact h2
theorem prs_snoc {α : Type} (ad : α → α → α) (x y : α) : ∀ (l : List α), l.length % 2 = 0 → prs ad (l ++ [x, y]) = prs ad l ++ [ad x y]
  | [], _ => rfl
  | [_], h => by simp at h
  | u :: v :: r, h => by
    simp only [List.cons_append, prs]
    rw [prs_snoc ad x y r (by simp only [List.length_cons] at h; omega)]

/-- The sum of what c says of each. -/
def sm {α : Type} (c : α → Nat) (l : List α) : Nat := (l.map c).sum
theorem sm_nil {α : Type} (c : α → Nat) : sm c [] = 0 := rfl
theorem sm_cons {α : Type} (c : α → Nat) (x : α) (l : List α) : sm c (x :: l) = c x + sm c l := by simp [sm]
theorem sm_append {α : Type} (c : α → Nat) (a b : List α) : sm c (a ++ b) = sm c a + sm c b := by simp [sm]
theorem sm_perm {α : Type} (c : α → Nat) {a b : List α} (h : a.Perm b) : sm c a = sm c b := (h.map c).sum_nat
theorem sm_prs {α : Type} (ad : α → α → α) (c : α → Nat) (hc : ∀ x y, c (ad x y) = c x + c y) : ∀ l : List α, l.length % 2 = 0 → sm c (prs ad l) = sm c l
  | [], _ => rfl
  | [_], h => by simp at h
  | x :: y :: r, h => by
    simp only [prs, sm_cons, hc]
    rw [sm_prs ad c hc r (by simp only [List.length_cons] at h; omega)]; omega

theorem prs_up {α : Type} (k : α → Nat) (ad : α → α → α) (hk : ∀ x y, k (ad x y) = k x + k y) : ∀ l : List α, Up k l → Up k (prs ad l)
  | [], _ => List.Pairwise.nil
  | [_], _ => List.Pairwise.nil
  | x :: y :: r, h => by
    have h1 := List.pairwise_cons.1 h
    have h2 := List.pairwise_cons.1 h1.2
    refine List.pairwise_cons.2 ⟨fun z hz => ?_, prs_up k ad hk r h2.2⟩
    obtain ⟨q, hq⟩ := List.getElem?_of_mem hz
    obtain ⟨u, v, e1, e2, rfl⟩ := prs_get ad r q z hq
    rw [hk, hk]
    have g1 := h1.1 u (List.mem_cons_of_mem _ (List.mem_of_getElem? e1))
    have g2 := h2.1 v (List.mem_of_getElem? e2)
    omega

/-- The lists, from the last bit on. -/
def lvl {α : Type} (k : α → Nat) (ad : α → α → α) (S : List α) : Nat → List α
  | 0 => S
  | j + 1 => mrg k S (prs ad (lvl k ad S j))

theorem lvl_up {α : Type} (k : α → Nat) (ad : α → α → α) (hk : ∀ x y, k (ad x y) = k x + k y) (S : List α) (h : Up k S) (j : Nat) : Up k (lvl k ad S j) := by
  induction j with
  | zero => exact h
  | succ j ih => exact mrg_up k _ _ h (prs_up k ad hk _ ih)
theorem lvl_length {α : Type} (k : α → Nat) (ad : α → α → α) (S : List α) (j : Nat) : (lvl k ad S (j + 1)).length = S.length + (lvl k ad S j).length / 2 := by
  simp only [lvl, mrg_length, prs_length]
theorem lvl_le {α : Type} (k : α → Nat) (ad : α → α → α) (S : List α) (j : Nat) : (lvl k ad S j).length ≤ 2 * S.length := by
  induction j with
  | zero => simp only [lvl]; omega
  | succ j ih => rw [lvl_length]; omega
theorem lvl_long {α : Type} (k : α → Nat) (ad : α → α → α) (S : List α) (hS : 1 ≤ S.length) (j : Nat) : 2 * S.length ≤ (lvl k ad S j).length + (S.length - 1) / 2 ^ j + 1 := by
  induction j with
  | zero => simp only [lvl, Nat.pow_zero, Nat.div_one]; omega
  | succ j ih =>
    rw [lvl_length, Nat.pow_succ, ← Nat.div_div_eq_div_mul]
    generalize (S.length - 1) / 2 ^ j = d at ih ⊢
    omega
theorem lvl_enough {α : Type} (k : α → Nat) (ad : α → α → α) (S : List α) (hS : 2 ≤ S.length) (j : Nat) (h : S.length ≤ 2 ^ (j + 1)) : 2 * S.length - 2 ≤ (lvl k ad S j).length := by
  have h1 := lvl_long k ad S (by omega) j
  have h2 : (S.length - 1) / 2 ^ j ≤ 1 := by
    have : (S.length - 1) / 2 ^ j < 2 := (Nat.div_lt_iff_lt_mul (Nat.two_pow_pos j)).2 (by rw [Nat.pow_succ] at h; omega)
    omega
  omega

/-- What is bought of each level: of the first m of a list so many of the singles, and so on. -/
def sel {α : Type} (k : α → Nat) (ad : α → α → α) (S : List α) : Nat → Nat → List Nat
  | 0, m => [m]
  | j + 1, m => na k m S (prs ad (lvl k ad S j)) :: sel k ad S j (2 * (m - na k m S (prs ad (lvl k ad S j))))

theorem sel_length {α : Type} (k : α → Nat) (ad : α → α → α) (S : List α) (j : Nat) : ∀ m, (sel k ad S j m).length = j + 1 := by
  induction j with
  | zero => intro m; rfl
  | succ j ih => intro m; simp only [sel, List.length_cons, ih]

theorem half_le {α : Type} (k : α → Nat) (ad : α → α → α) (S : List α) (j m : Nat) (h : m ≤ (lvl k ad S (j + 1)).length) : 2 * (m - na k m S (prs ad (lvl k ad S j))) ≤ (lvl k ad S j).length := by
  have h1 := na_rest k m S (prs ad (lvl k ad S j)) (by rw [lvl_length] at h; rw [prs_length]; exact h)
  rw [prs_length] at h1
  omega

/-- What is bought of all, by what is bought of each level. -/
theorem sel_sum {α : Type} (k : α → Nat) (ad : α → α → α) (S : List α) (c : α → Nat) (hc : ∀ x y, c (ad x y) = c x + c y) (j : Nat) :
    ∀ m, m ≤ (lvl k ad S j).length → sm c ((lvl k ad S j).take m) = sm (fun s => sm c (S.take s)) (sel k ad S j m) := by
  induction j with
  | zero => intro m _; simp [sel, sm, lvl]
  | succ j ih =>
    intro m h
    have h1 := half_le k ad S j m h
    have h2 : m ≤ S.length + (prs ad (lvl k ad S j)).length := by rw [lvl_length] at h; rw [prs_length]; exact h
    rw [show lvl k ad S (j + 1) = mrg k S (prs ad (lvl k ad S j)) from rfl, sm_perm c (mrg_take k m _ _ h2), sm_append, prs_take, sm_prs ad c hc _ (by rw [List.length_take]; omega), ih _ h1, sel, sm_cons]

/-- By halves. -/
def wsum : List Nat → Nat
  | [] => 0
  | s :: r => s * 2 ^ r.length + wsum r
theorem sel_wsum {α : Type} (k : α → Nat) (ad : α → α → α) (S : List α) (j : Nat) : ∀ m, wsum (sel k ad S j m) = m * 2 ^ j := by
  induction j with
  | zero => intro m; simp [sel, wsum]
  | succ j ih =>
    intro m
    have h1 := (na_le k m S (prs ad (lvl k ad S j))).1
    simp only [sel, wsum, ih, sel_length]
    generalize na k m S (prs ad (lvl k ad S j)) = s at h1
    obtain ⟨p, rfl⟩ : ∃ p, m = s + p := ⟨m - s, by omega⟩
    rw [show s + p - s = p by omega, Nat.add_mul, Nat.pow_succ, Nat.mul_comm 2 p, Nat.mul_assoc p 2, Nat.mul_comm 2 (2 ^ j)]

/-- So many of the first are singles: the first level's. -/
theorem sel_head {α : Type} (k : α → Nat) (ad : α → α → α) (S : List α) (j m : Nat) (h : m ≤ (lvl k ad S j).length) :
    ∃ s r, sel k ad S j m = s :: r ∧ s ≤ S.length ∧ s ≤ m ∧ ∀ i z, i < s → S[i]? = some z → z ∈ (lvl k ad S j).take m := by
  cases j with
  | zero =>
    refine ⟨m, [], rfl, h, Nat.le_refl _, fun i z hi hz => ?_⟩
    have : (S.take m)[i]? = some z := by rw [List.getElem?_take_of_lt hi]; exact hz
    exact List.mem_of_getElem? this
  | succ j =>
    have h2 : m ≤ S.length + (prs ad (lvl k ad S j)).length := by rw [lvl_length] at h; rw [prs_length]; exact h
    refine ⟨_, _, rfl, (na_le k m _ _).2, (na_le k m _ _).1, fun i z hi hz => ?_⟩
    refine (mrg_take k m _ _ h2).mem_iff.2 (List.mem_append_left _ ?_)
    have : (S.take (na k m S (prs ad (lvl k ad S j))))[i]? = some z := by rw [List.getElem?_take_of_lt hi]; exact hz
    exact List.mem_of_getElem? this

/-- The last of a sorted list's first is above all of them. -/
theorem up_last {α : Type} (k : α → Nat) (l : List α) (h : Up k l) (m : Nat) (z y : α) (hz : z ∈ l.take m) (hm : m ≤ l.length) (hy : l[m - 1]? = some y) : k z ≤ k y := by
  obtain ⟨i, hi⟩ := List.getElem?_of_mem hz
  have him : i < m := by
    have := (List.getElem?_eq_some_iff.1 hi).1
    rw [List.length_take] at this; omega
  rw [List.getElem?_take_of_lt him] at hi
  by_cases e : i = m - 1
  · rw [e, hy] at hi; cases hi; exact Nat.le_refl _
  · have h1 := List.getElem?_eq_some_iff.1 hi
    have h2 := List.getElem?_eq_some_iff.1 hy
    obtain ⟨g1, rfl⟩ := h1
    obtain ⟨g2, rfl⟩ := h2
    exact List.pairwise_iff_getElem.1 h i (m - 1) g1 g2 (by omega)

/-- A pair of the last two weighs as much as any of those ahead. -/
theorem pair_above {α : Type} (k : α → Nat) (ad : α → α → α) (hk : ∀ x y, k (ad x y) = k x + k y) (l : List α) (h : Up k l) (p : Nat) (hp : 0 < p) (hl : 2 * p ≤ l.length) (z y : α) (hz : z ∈ l.take (2 * p)) (hy : (prs ad l)[p - 1]? = some y) : k z ≤ k y := by
  obtain ⟨u, v, _, e2, rfl⟩ := prs_get ad l (p - 1) y hy
  have := up_last k l h (2 * p) z v hz hl (by rw [show 2 * p - 1 = 2 * (p - 1) + 1 by omega]; exact e2)
  rw [hk]; omega

/-- No level buys more singles than the one ahead. -/
theorem sel_down {α : Type} (k : α → Nat) (ad : α → α → α) (hk : ∀ x y, k (ad x y) = k x + k y) (S : List α) (hS : Up k S) (j : Nat) :
    ∀ m, m ≤ (lvl k ad S j).length → (sel k ad S j m).Pairwise (fun x y => y ≤ x) := by
  induction j with
  | zero => intro m _; exact List.pairwise_singleton _ _
  | succ j ih =>
    intro m h
    have h1 := half_le k ad S j m h
    have hr := ih _ h1
    obtain ⟨s, r, e, f1, f2, f3⟩ := sel_head k ad S j _ h1
    have hd : s ≤ na k m S (prs ad (lvl k ad S j)) := by
      refine Nat.le_of_not_lt fun hlt => ?_
      have h0 : 0 < m - na k m S (prs ad (lvl k ad S j)) := by omega
      have hin : na k m S (prs ad (lvl k ad S j)) < S.length := by omega
      have hpl : m - na k m S (prs ad (lvl k ad S j)) - 1 < (prs ad (lvl k ad S j)).length := by rw [prs_length]; omega
      have hz := List.getElem?_eq_getElem hin
      have hy := List.getElem?_eq_getElem hpl
      have g1 := gap k m S _ hS _ _ h0 hy hz
      have g2 := pair_above k ad hk _ (lvl_up k ad hk S hS j) _ h0 h1 _ _ (f3 _ _ hlt hz) hy
      omega
    simp only [sel]
    rw [e] at hr ⊢
    refine List.pairwise_cons.2 ⟨fun z hz => ?_, hr⟩
    rcases List.mem_cons.1 hz with rfl | hz
    · exact hd
    · have := (List.pairwise_cons.1 hr).1 z hz; omega

/-- Of the first level all singles are bought. -/
theorem sel_top {α : Type} (k : α → Nat) (ad : α → α → α) (hk : ∀ x y, k (ad x y) = k x + k y) (S : List α) (hS : Up k S) (hn : 2 ≤ S.length) (j : Nat) :
    2 * S.length - 2 ≤ (lvl k ad S j).length → ∃ r, sel k ad S j (2 * S.length - 2) = S.length :: r := by
  induction j with
  | zero =>
    intro h
    simp only [lvl] at h
    exact ⟨[], by simp only [sel]; congr 1; omega⟩
  | succ j ih =>
    intro h
    have h2 : 2 * S.length - 2 ≤ S.length + (prs ad (lvl k ad S j)).length := by rw [lvl_length] at h; rw [prs_length]; exact h
    have h3 := na_rest k (2 * S.length - 2) S _ h2
    have h4 := (na_le k (2 * S.length - 2) S (prs ad (lvl k ad S j))).2
    have hh := half_le k ad S j _ h
    refine ⟨sel k ad S j (2 * (2 * S.length - 2 - na k (2 * S.length - 2) S (prs ad (lvl k ad S j)))), ?_⟩
    · simp only [sel]
      congr 1
      generalize hs : na k (2 * S.length - 2) S (prs ad (lvl k ad S j)) = s at *
      refine Nat.le_antisymm h4 (Nat.le_of_not_lt fun hlt => ?_)
      have hll : 2 * S.length - 2 ≤ (lvl k ad S j).length := by rw [prs_length] at h3; omega
      obtain ⟨r, hr⟩ := ih hll
      obtain ⟨s', r', e, f1, f2, f3⟩ := sel_head k ad S j _ hll
      rw [hr] at e
      injection e with e1 e2
      subst e1
      -- the heaviest single lies within the first pairs
      have hz : S[S.length - 1]? = some (S[S.length - 1]'(by omega)) := List.getElem?_eq_getElem (by omega)
      have hmem := f3 _ _ (by omega) hz
      have h0 : 0 < 2 * S.length - 2 - s := by omega
      have hpl : 2 * S.length - 2 - s - 1 < (prs ad (lvl k ad S j)).length := by omega
      have hy := List.getElem?_eq_getElem hpl
      have hzs : S[s]? = some (S[s]'hlt) := List.getElem?_eq_getElem hlt
      have g1 := gap k (2 * S.length - 2) S _ hS _ _ (by rw [hs]; exact h0) (by rw [hs]; exact hy) (by rw [hs]; exact hzs)
      have hmem2 : S[S.length - 1]'(by omega) ∈ (lvl k ad S j).take (2 * (2 * S.length - 2 - s)) := by
        obtain ⟨i, hi⟩ := List.getElem?_of_mem hmem
        have him : i < 2 * S.length - 2 := by
          have := (List.getElem?_eq_some_iff.1 hi).1
          rw [List.length_take] at this; omega
        rw [List.getElem?_take_of_lt him] at hi
        refine List.mem_of_getElem? (i := i) ?_
        rw [List.getElem?_take_of_lt (by omega)]; exact hi
      have g2 := pair_above k ad hk _ (lvl_up k ad hk S hS j) _ h0 hh _ _ hmem2 hy
      have g3 : k (S[s]'hlt) ≤ k (S[S.length - 1]'(by omega)) := by
        by_cases e : s = S.length - 1
        · simp [e]
        · exact List.pairwise_iff_getElem.1 hS s (S.length - 1) hlt (by omega) (by omega)
      omega
end Lm
end Go.Proofs.Ytedbonnejgpjeaa
