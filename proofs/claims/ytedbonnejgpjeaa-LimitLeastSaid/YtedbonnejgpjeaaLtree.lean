/- Packages as trees, and the lengths that they give: plain facts. -/
import Derived.Test.YtedbonnejgpjeaaLbest
namespace Go.Proofs.Ytedbonnejgpjeaa
namespace Lm

/-- A package. -/
inductive Tr where
  | leaf (w s : Nat)
  | node (a b : Tr)
def Tr.wt : Tr → Nat
  | .leaf w _ => w
  | .node a b => a.wt + b.wt
def Tr.cnt (s : Nat) : Tr → Nat
  | .leaf _ y => if y = s then 1 else 0
  | .node a b => a.cnt s + b.cnt s

/-- The used ones ahead of k: how often, and which. -/
def usd (fs : List Nat) : Nat → List (Nat × Nat)
  | 0 => []
  | k + 1 => usd fs k ++ (if fs[k]?.getD 0 = 0 then [] else [(fs[k]?.getD 0, k)])
theorem usd_mem (fs : List Nat) (k : Nat) (p : Nat × Nat) : p ∈ usd fs k ↔ p.2 < k ∧ p.1 = fs[p.2]?.getD 0 ∧ p.1 ≠ 0 := by
  induction k with
  | zero => simp [usd]
  | succ k ih =>
    simp only [usd, List.mem_append, ih]
    by_cases h : fs[k]?.getD 0 = 0
    · rw [if_pos h]
      constructor
      · rintro (⟨h1, h2, h3⟩ | h4)
        · exact ⟨by omega, h2, h3⟩
        · cases h4
      · rintro ⟨h1, h2, h3⟩
        by_cases e : p.2 = k
        · rw [e, h] at h2; exact (h3 h2).elim
        · exact .inl ⟨by omega, h2, h3⟩
    · rw [if_neg h]
      constructor
      · rintro (⟨h1, h2, h3⟩ | h4)
        · exact ⟨by omega, h2, h3⟩
        · rw [List.mem_singleton] at h4; subst h4; exact ⟨by simp, rfl, h⟩
      · rintro ⟨h1, h2, h3⟩
        by_cases e : p.2 = k
        · refine .inr ?_; rw [List.mem_singleton]; rw [e] at h2; exact Prod.ext h2 e
        · exact .inl ⟨by omega, h2, h3⟩
theorem usd_rise (fs : List Nat) (k : Nat) : (usd fs k).Pairwise fun p q => p.2 < q.2 := by
  induction k with
  | zero => exact List.Pairwise.nil
  | succ k ih =>
    simp only [usd]
    refine List.pairwise_append.2 ⟨ih, ?_, fun p hp q hq => ?_⟩
    · split
      · exact List.Pairwise.nil
      · exact List.pairwise_singleton _ _
    · have h1 := ((usd_mem fs k p).1 hp).1
      split at hq
      · cases hq
      · rw [List.mem_singleton] at hq; subst hq; exact h1
theorem usd_length (fs : List Nat) (k : Nat) : (usd fs k).length ≤ k := by
  induction k with
  | zero => simp [usd]
  | succ k ih => simp only [usd, List.length_append]; split <;> simp <;> omega

/-- Sorted by how often. -/
def srt (fs : List Nat) : List (Nat × Nat) := isrt Prod.fst (usd fs fs.length)
def Tr.of (p : Nat × Nat) : Tr := .leaf p.1 p.2
def sgl (fs : List Nat) : List Tr := (srt fs).map Tr.of
/-- What is bought. -/
def lgt (ts : List Tr) (M : Nat) : List Tr := if ts.length < 2 then ts else (lvl Tr.wt .node ts (M - 1)).take (2 * ts.length - 2)
/-- How long a symbol's code is. -/
def len (fs : List Nat) (M s : Nat) : Nat := sm (Tr.cnt s) (lgt (sgl fs) M)

theorem srt_perm (fs : List Nat) : (srt fs).Perm (usd fs fs.length) := isrt_perm _ _
theorem srt_up (fs : List Nat) : Up Prod.fst (srt fs) := isrt_up _ _
theorem srt_apart (fs : List Nat) : (srt fs).Pairwise fun p q => p.2 ≠ q.2 :=
  ((srt_perm fs).symm.pairwise_iff fun h => Ne.symm h).1 ((usd_rise fs fs.length).imp fun h => Nat.ne_of_lt h)
theorem sgl_up (fs : List Nat) : Up Tr.wt (sgl fs) := by
  unfold sgl Up
  rw [List.pairwise_map]
  exact srt_up fs
theorem sgl_length (fs : List Nat) : (sgl fs).length = (srt fs).length := by simp [sgl]
theorem srt_length (fs : List Nat) : (srt fs).length = (usd fs fs.length).length := (srt_perm fs).length_eq

theorem cnt_take (Q : List (Nat × Nat)) : ∀ (_ : Q.Pairwise fun p q => p.2 ≠ q.2) (r t : Nat) (p : Nat × Nat), Q[r]? = some p → sm (Tr.cnt p.2) ((Q.map Tr.of).take t) = if r < t then 1 else 0 := by
  induction Q with
  | nil => intro _ r t p h; simp at h
  | cons q Q ih =>
    intro ha r t p h
    have h1 := List.pairwise_cons.1 ha
    cases t with
    | zero => simp [sm]
    | succ t =>
      rw [List.map_cons, List.take_succ_cons, sm_cons]
      cases r with
      | zero =>
        simp at h; subst h
        have : sm (Tr.cnt q.2) ((Q.map Tr.of).take t) = 0 := by
          rw [← List.map_take, sm_map]
          have : sm (fun x => Tr.cnt q.2 (Tr.of x)) (Q.take t) = sm (fun _ => 0) (Q.take t) := sm_congr fun x hx => by
            have hne := h1.1 x (List.mem_of_mem_take hx)
            simp only [Tr.of, Tr.cnt]
            rw [if_neg fun e => hne e.symm]
          rw [this]
          have := sm_mul (fun _ : Nat × Nat => 0) 0 (Q.take t)
          simpa using this
        rw [this]
        simp [Tr.of, Tr.cnt]
      | succ r =>
        rw [List.getElem?_cons_succ] at h
        rw [ih h1.2 r t p h]
        have hne := h1.1 p (List.mem_of_getElem? h)
        simp only [Tr.of, Tr.cnt]
        rw [if_neg hne]
        by_cases e : r < t
        · rw [if_pos e, if_pos (by omega)]
        · rw [if_neg e, if_neg (by omega)]

/-- Of so many levels a single of that place is bought. -/
def cr (l : List Nat) (r : Nat) : Nat := sm (fun t => if r < t then 1 else 0) l
theorem cr_cons (s : Nat) (l : List Nat) (r : Nat) : cr (s :: l) r = (if r < s then 1 else 0) + cr l r := sm_cons _ _ _
theorem cr_le (r : Nat) : ∀ l : List Nat, cr l r ≤ l.length
  | [] => Nat.le_refl _
  | s :: l => by have := cr_le r l; rw [cr_cons, List.length_cons]; split <;> omega
theorem cr_anti {r q : Nat} (h : r ≤ q) : ∀ l : List Nat, cr l q ≤ cr l r
  | [] => Nat.le_refl _
  | s :: l => by have := cr_anti h l; rw [cr_cons, cr_cons]; split <;> split <;> omega
theorem cr_zero (r : Nat) : ∀ l : List Nat, (∀ s ∈ l, s ≤ r) → cr l r = 0
  | [], _ => rfl
  | s :: l, h => by rw [cr_cons, if_neg (by have := h s (by simp); omega), cr_zero r l fun x hx => h x (by simp [hx])]

/-- The lists that are bought, by halves, of one place. -/
def wr (r : Nat) : List Nat → Nat
  | [] => 0
  | s :: l => (if r < s then 2 ^ l.length else 0) + wr r l
theorem wr_zero (r : Nat) : ∀ l : List Nat, (∀ s ∈ l, s ≤ r) → wr r l = 0
  | [], _ => rfl
  | s :: l, h => by rw [wr, if_neg (by have := h s (by simp); omega), wr_zero r l fun x hx => h x (by simp [hx])]
theorem wr_cr (r : Nat) : ∀ l : List Nat, l.Pairwise (fun x y => y ≤ x) → wr r l + 2 ^ (l.length - cr l r) = 2 ^ l.length
  | [], _ => rfl
  | s :: l, h => by
    have h1 := List.pairwise_cons.1 h
    by_cases hs : r < s
    · have ih := wr_cr r l h1.2
      have := cr_le r l
      rw [wr, cr_cons, if_pos hs, if_pos hs, List.length_cons, show l.length + 1 - (1 + cr l r) = l.length - cr l r by omega, Nat.pow_succ]
      omega
    · have hz : ∀ x ∈ l, x ≤ r := fun x hx => by have := h1.1 x hx; omega
      rw [wr, cr_cons, if_neg hs, if_neg hs, wr_zero r l hz, cr_zero r l hz]; simp
theorem wr_sum (n : Nat) : ∀ l : List Nat, (∀ s ∈ l, s ≤ n) → sumTo (fun r => wr r l) n = wsum l
  | [], _ => by simp [wr, wsum, sumTo_const]
  | s :: l, h => by
    have ih := wr_sum n l fun x hx => h x (by simp [hx])
    have hs := h s (by simp)
    simp only [wr, wsum]
    rw [sumTo_add, ih]
    congr 1
    have : ∀ t, sumTo (fun r => if r < s then 2 ^ l.length else 0) t = min t s * 2 ^ l.length := by
      intro t
      induction t with
      | zero => simp [sumTo]
      | succ t ih =>
        simp only [sumTo, ih]
        by_cases e : t < s
        · rw [if_pos e, Nat.min_eq_left (by omega), Nat.min_eq_left (by omega), Nat.succ_mul]
        · rw [if_neg e, Nat.min_eq_right (by omega), Nat.min_eq_right (by omega), Nat.add_zero]
    rw [this, Nat.min_eq_right hs]

theorem sm_index {α : Type} (c : α → Nat) (g : Nat → Nat) (Q : List α) (h : ∀ r p, Q[r]? = some p → c p = g r) : ∀ t, t ≤ Q.length → sm c (Q.take t) = sumTo g t := by
  intro t
  induction t with
  | zero => intro _; simp [sm, sumTo]
  | succ t ih =>
    intro ht
    rw [List.take_add_one, sm_append, ih (by omega), sumTo, List.getElem?_eq_getElem (by omega)]
    simp only [Option.toList, sm_cons, sm_nil]
    rw [h t _ (List.getElem?_eq_getElem (by omega))]; rfl
theorem sm_whole {α : Type} (c : α → Nat) (g : Nat → Nat) (Q : List α) (h : ∀ r p, Q[r]? = some p → c p = g r) : sm c Q = sumTo g Q.length := by
  have := sm_index c g Q h Q.length (Nat.le_refl _)
  rwa [List.take_length] at this

section Two
variable (fs : List Nat) (M : Nat)

/-- Of two symbols or more: what is bought, level by level. -/
def buy : List Nat := sel Tr.wt .node (sgl fs) (M - 1) (2 * (sgl fs).length - 2)

variable (hM : 1 ≤ M) (hn : 2 ≤ (srt fs).length) (hf : (srt fs).length ≤ 2 ^ M)
include hM hn hf

theorem enough : 2 * (sgl fs).length - 2 ≤ (lvl Tr.wt .node (sgl fs) (M - 1)).length :=
  lvl_enough _ _ _ (by rw [sgl_length]; exact hn) _ (by rw [sgl_length, show M - 1 + 1 = M by omega]; exact hf)
omit hn hf in
theorem buy_length : (buy fs M).length = M := by unfold buy; rw [sel_length]; omega
theorem buy_down : (buy fs M).Pairwise (fun x y => y ≤ x) := sel_down _ _ (fun _ _ => rfl) _ (sgl_up fs) _ _ (enough fs M hM hn hf)
theorem buy_head : ∃ l, buy fs M = (srt fs).length :: l := by
  obtain ⟨l, h⟩ := sel_top Tr.wt .node (fun _ _ => rfl) (sgl fs) (sgl_up fs) (by rw [sgl_length]; exact hn) (M - 1) (enough fs M hM hn hf)
  exact ⟨l, by unfold buy; rw [h, sgl_length]⟩
theorem buy_le : ∀ s ∈ buy fs M, s ≤ (srt fs).length := by
  obtain ⟨l, h⟩ := buy_head fs M hM hn hf
  have hd := buy_down fs M hM hn hf
  rw [h] at hd ⊢
  intro s hs
  rcases List.mem_cons.1 hs with rfl | hs
  · exact Nat.le_refl _
  · exact (List.pairwise_cons.1 hd).1 s hs
theorem lgt_sum (c : Tr → Nat) (hc : ∀ x y, c (.node x y) = c x + c y) : sm c (lgt (sgl fs) M) = sm (fun s => sm c ((sgl fs).take s)) (buy fs M) := by
  unfold lgt
  rw [if_neg (by rw [sgl_length]; omega)]
  exact sel_sum _ _ _ c hc _ _ (enough fs M hM hn hf)
theorem len_cr (r : Nat) (p : Nat × Nat) (h : (srt fs)[r]? = some p) : len fs M p.2 = cr (buy fs M) r := by
  unfold len
  rw [lgt_sum fs M hM hn hf (Tr.cnt p.2) fun _ _ => rfl]
  unfold cr
  refine sm_congr fun t _ => ?_
  exact cnt_take (srt fs) (srt_apart fs) r t p h
theorem len_two (p : Nat × Nat) (h : p ∈ srt fs) : 1 ≤ len fs M p.2 ∧ len fs M p.2 ≤ M := by
  obtain ⟨r, hr⟩ := List.getElem?_of_mem h
  rw [len_cr fs M hM hn hf r p hr]
  have h1 := cr_le r (buy fs M)
  rw [buy_length fs M hM] at h1
  refine ⟨?_, h1⟩
  obtain ⟨l, e⟩ := buy_head fs M hM hn hf
  have hrl := (List.getElem?_eq_some_iff.1 hr).1
  rw [e, cr_cons, if_pos hrl]; omega
/-- A WHOLE CODE. -/
theorem kraft : sm (fun p => 2 ^ (M - len fs M p.2)) (srt fs) = 2 ^ M := by
  have h1 := sm_whole (fun p => 2 ^ (M - len fs M p.2)) (fun r => 2 ^ (M - cr (buy fs M) r)) (srt fs) (fun r p h => by rw [len_cr fs M hM hn hf r p h])
  have h2 : sumTo (fun r => wr r (buy fs M) + 2 ^ (M - cr (buy fs M) r)) (srt fs).length = (srt fs).length * 2 ^ M := by
    rw [← sumTo_const]
    refine sumTo_congr fun r _ => ?_
    have := wr_cr r (buy fs M) (buy_down fs M hM hn hf)
    rwa [buy_length fs M hM] at this
  rw [sumTo_add, wr_sum _ _ (buy_le fs M hM hn hf)] at h2
  have h3 : wsum (buy fs M) = (2 * (srt fs).length - 2) * 2 ^ (M - 1) := by unfold buy; rw [sel_wsum, sgl_length]
  rw [h3] at h2
  rw [h1]
  have e : 2 ^ M = 2 * 2 ^ (M - 1) := by rw [Nat.mul_comm, ← Nat.pow_succ]; congr 1; omega
  have e2 : (2 * (srt fs).length - 2) * 2 ^ (M - 1) = (srt fs).length * 2 ^ M - 2 ^ M := by
    rw [Nat.sub_mul, Nat.mul_comm 2, Nat.mul_assoc, ← e]
  have e3 : 2 ^ M ≤ (srt fs).length * 2 ^ M := Nat.le_mul_of_pos_left _ (by omega)
  omega
theorem order (p q : Nat × Nat) (hp : p ∈ srt fs) (hq : q ∈ srt fs) (h : q.1 < p.1) : len fs M p.2 ≤ len fs M q.2 := by
  obtain ⟨r, hr⟩ := List.getElem?_of_mem hp
  obtain ⟨s, hs⟩ := List.getElem?_of_mem hq
  rw [len_cr fs M hM hn hf r p hr, len_cr fs M hM hn hf s q hs]
  refine cr_anti ?_ _
  refine Nat.le_of_not_lt fun hlt => ?_
  obtain ⟨g1, rfl⟩ := List.getElem?_eq_some_iff.1 hr
  obtain ⟨g2, rfl⟩ := List.getElem?_eq_some_iff.1 hs
  have := List.pairwise_iff_getElem.1 (srt_up fs) r s g1 g2 hlt
  omega
end Two

theorem cost_buy (fs : List Nat) (c : Nat × Nat → Nat) : ∀ l : List Nat, (∀ s ∈ l, s ≤ (srt fs).length) →
    sumTo (fun r => (((srt fs).map c)[r]?.getD 0) * cr l r) (srt fs).length = sm (fun s => sm c ((srt fs).take s)) l
  | [], _ => by simp [cr, sm, sumTo_const]
  | s :: l, h => by
    have ih := cost_buy fs c l fun x hx => h x (by simp [hx])
    have hs := h s (by simp)
    simp only [cr_cons, Nat.mul_add]
    rw [sumTo_add, ih, sm_cons]
    congr 1
    have h1 : ∀ t, sumTo (fun r => (((srt fs).map c)[r]?.getD 0) * if r < s then 1 else 0) t = sumTo (fun r => ((srt fs).map c)[r]?.getD 0) (min t s) := by
      intro t
      induction t with
      | zero => simp [sumTo]
      | succ t ih =>
        simp only [sumTo, ih]
        by_cases e : t < s
        · rw [if_pos e, Nat.min_eq_left (by omega), Nat.min_eq_left (by omega), Nat.mul_one]; rfl
        · rw [if_neg e, Nat.min_eq_right (by omega), Nat.min_eq_right (by omega), Nat.mul_zero, Nat.add_zero]
    rw [h1, Nat.min_eq_right hs]
    refine (sm_index c _ (srt fs) (fun r p hr => ?_) s hs).symm
    rw [List.getElem?_map, hr]; rfl

/-- What is bought weighs what the lengths cost. -/
theorem cost_two (fs : List Nat) (M : Nat) (hM : 1 ≤ M) (hn : 2 ≤ (srt fs).length) (hf : (srt fs).length ≤ 2 ^ M) : sm (fun p => p.1 * len fs M p.2) (srt fs) = sm Tr.wt (lgt (sgl fs) M) := by
  rw [lgt_sum fs M hM hn hf Tr.wt fun _ _ => rfl]
  have h1 := cost_buy fs Prod.fst (buy fs M) (buy_le fs M hM hn hf)
  rw [show (fun s => sm Tr.wt ((sgl fs).take s)) = fun s => sm Prod.fst ((srt fs).take s) from funext fun s => by unfold sgl; rw [← List.map_take, sm_map]; rfl, ← h1]
  refine sm_whole _ _ _ fun r p h => ?_
  rw [len_cr fs M hM hn hf r p h, List.getElem?_map, h]; rfl
end Lm
end Go.Proofs.Ytedbonnejgpjeaa
