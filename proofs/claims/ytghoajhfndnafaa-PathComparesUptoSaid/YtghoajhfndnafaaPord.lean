/- The order of texts and of paths, in plain lists. -/
import Derived.Test.YtghoajhfndnafaaPplain

namespace Go.Proofs.Ytghoajhfndnafaa
set_option maxRecDepth 100000
namespace Pn

/-- A comparison in three numbers that is an order. -/
structure Ord3 {α : Type} (c : α → α → Int) : Prop where
  r : ∀ a b, c a b = -1 ∨ c a b = 0 ∨ c a b = 1
  e : ∀ a b, c a b = 0 ↔ a = b
  s : ∀ a b, c b a = - c a b
  t : ∀ a b d, c a b ≤ 0 → c b d ≤ 0 → c a d ≤ 0

/-- List by list, the shorter one first. -/
def lex {α : Type} (c : α → α → Int) : List α → List α → Int
  | [], [] => 0
  | [], _ :: _ => -1
  | _ :: _, [] => 1
  | a :: l, b :: m => if c a b ≠ 0 then c a b else lex c l m

theorem Ord3.tight {α : Type} {c : α → α → Int} (h : Ord3 c) (a b d : α) (h1 : c a b ≤ 0) (h2 : c b d ≤ 0) (h3 : c a d = 0) : c a b = 0 ∧ c b d = 0 := by
  have e1 := (h.e a d).1 h3
  subst e1
  have := h.s a b
  omega

theorem lex_ord {α : Type} {c : α → α → Int} (h : Ord3 c) : Ord3 (lex c) := by
  have hself : ∀ a, c a a = 0 := fun a => (h.e a a).2 rfl
  refine ⟨?_, ?_, ?_, ?_⟩
  · intro a
    induction a with
    | nil => intro b; cases b <;> simp [lex]
    | cons x l ih =>
      intro b
      cases b with
      | nil => simp [lex]
      | cons y m =>
        simp only [lex]
        have := h.r x y
        have := ih m
        split <;> assumption
  · intro a
    induction a with
    | nil => intro b; cases b <;> simp [lex]
    | cons x l ih =>
      intro b
      cases b with
      | nil => simp [lex]
      | cons y m =>
        simp only [lex]
        split
        · rename_i hne
          constructor
          · intro h0; exact absurd h0 hne
          · intro he; cases he; exact absurd (hself x) hne
        · rename_i he
          have he' : c x y = 0 := Classical.not_not.1 he
          rw [ih m, (h.e x y).1 he']
          simp
  · intro a
    induction a with
    | nil => intro b; cases b <;> simp [lex]
    | cons x l ih =>
      intro b
      cases b with
      | nil => simp [lex]
      | cons y m =>
        simp only [lex]
        have hs := h.s x y
        by_cases h0 : c x y = 0
        · rw [if_neg (by omega), if_neg (by omega)]; exact ih m
        · rw [if_pos (by omega), if_pos h0]; exact hs
  · intro a
    induction a with
    | nil => intro b d _ _; cases d <;> simp [lex]
    | cons x l ih =>
      intro b d h1 h2
      cases b with
      | nil => simp [lex] at h1
      | cons y m =>
        cases d with
        | nil => simp [lex] at h2
        | cons z k =>
          simp only [lex] at h1 h2 ⊢
          have q1 : c x y ≤ 0 := by split at h1 <;> omega
          have q2 : c y z ≤ 0 := by split at h2 <;> omega
          have q3 := h.t x y z q1 q2
          split
          · exact q3
          · rename_i h0
            have h0' : c x z = 0 := Classical.not_not.1 h0
            obtain ⟨g1, g2⟩ := h.tight x y z q1 q2 h0'
            rw [if_neg (by omega)] at h1 h2
            exact ih m k h1 h2

/-- A byte against a byte. -/
def cb (a b : UInt8) : Int := if a < b then -1 else if b < a then 1 else 0
theorem cb_ord : Ord3 cb := by
  refine ⟨fun a b => ?_, fun a b => ?_, fun a b => ?_, fun a b d => ?_⟩
  all_goals simp only [cb, UInt8.lt_iff_toNat_lt]
  · split
    · simp
    · split <;> simp
  · rw [← UInt8.toNat_inj]
    split
    · simp; omega
    · split
      · simp; omega
      · simp; omega
  · split
    · rw [if_neg (by omega)]
    · split <;> simp
  · intro h1 h2
    have q1 : a.toNat ≤ b.toNat := by
      split at h1
      · omega
      · split at h1
        · omega
        · omega
    have q2 : b.toNat ≤ d.toNat := by
      split at h2
      · omega
      · split at h2
        · omega
        · omega
    split
    · omega
    · rw [if_neg (by omega)]; exact Int.le_refl 0
theorem compare_lex (a b : Tx) : Lib.compareBytes a b = lex cb a b := by
  induction a generalizing b with
  | nil => cases b <;> rfl
  | cons x l ih =>
    cases b with
    | nil => rfl
    | cons y m =>
      simp only [Lib.compareBytes, lex, cb, ih]
      split
      · simp
      · split <;> simp
theorem cmpL_lex (a b : List Tx) : cmpL a b = lex Lib.compareBytes a b := by
  induction a generalizing b with
  | nil => cases b <;> rfl
  | cons x l ih =>
    cases b with
    | nil => rfl
    | cons y m => simp only [cmpL, lex, ih]
theorem bytes_ord : Ord3 Lib.compareBytes := by
  have h : Lib.compareBytes = lex cb := funext fun a => funext fun b => compare_lex a b
  rw [h]
  exact lex_ord cb_ord
theorem cmpL_ord : Ord3 cmpL := by
  have h : cmpL = lex Lib.compareBytes := funext fun a => funext fun b => cmpL_lex a b
  rw [h]
  exact lex_ord bytes_ord
theorem names_inj {a b : Tx} (h : names a = names b) : a = b := by
  rw [← join_names a, ← join_names b, h]
theorem cmp_ord : Ord3 cmp :=
  ⟨fun a b => cmpL_ord.r _ _, fun a b => ⟨fun h => names_inj ((cmpL_ord.e _ _).1 h), fun h => by rw [h]; exact (cmpL_ord.e _ _).2 rfl⟩, fun a b => cmpL_ord.s _ _, fun a b d => cmpL_ord.t _ _ _⟩

/-- What a path goes on from is not above it. -/
theorem cmpL_take (p : List Tx) : ∀ k : Nat, cmpL (p.take k) p ≤ 0 := by
  induction p with
  | nil => intro k; simp [cmpL]
  | cons x l ih =>
    intro k
    cases k with
    | zero => simp [cmpL]
    | succ k =>
      rw [List.take_succ_cons]
      simp only [cmpL]
      rw [if_neg (by rw [(bytes_ord.e x x).2 rfl]; simp)]
      exact ih k
/-- Nothing stands between that does not go on from it. -/
theorem cmpL_between (d : List Tx) : ∀ p q : List Tx, d = p.take d.length → cmpL d q ≤ 0 → cmpL q p ≤ 0 → d.length ≤ q.length ∧ d = q.take d.length := by
  induction d with
  | nil => intro p q _ _ _; simp
  | cons x l ih =>
    intro p q h1 h2 h3
    cases p with
    | nil => simp at h1
    | cons y m =>
      rw [List.length_cons, List.take_succ_cons] at h1
      injection h1 with e1 e2
      subst e1
      cases q with
      | nil => simp [cmpL] at h2
      | cons z k =>
        simp only [cmpL] at h2 h3
        have q1 : Lib.compareBytes x z ≤ 0 := by split at h2 <;> omega
        have q2 : Lib.compareBytes z x ≤ 0 := by split at h3 <;> omega
        have q3 := bytes_ord.s x z
        have q4 : Lib.compareBytes x z = 0 := by omega
        have q5 : Lib.compareBytes z x = 0 := by omega
        have e := (bytes_ord.e x z).1 q4
        subst e
        rw [if_neg (by omega)] at h2 h3
        obtain ⟨g1, g2⟩ := ih m k e2 h2 h3
        exact ⟨by simpa using g1, by rw [List.length_cons, List.take_succ_cons, ← g2]⟩
theorem under_iff {p d : Tx} : under p d = true ↔ path (names p) = true ∧ path (names d) = true ∧ (names d).length ≤ (names p).length ∧ names d = (names p).take (names d).length := by
  simp only [under, Bool.and_eq_true, decide_eq_true_eq, and_assoc]
theorem under_below {p d : Tx} (h : under p d = true) : cmp d p ≤ 0 := by
  obtain ⟨_, _, _, h4⟩ := under_iff.1 h
  unfold cmp
  rw [h4]
  exact cmpL_take _ _
theorem under_between {p d q : Tx} (h : under p d = true) (hq : path (names q) = true) (h1 : cmp d q ≤ 0) (h2 : cmp q p ≤ 0) : under q d = true := by
  obtain ⟨_, h3, _, h4⟩ := under_iff.1 h
  obtain ⟨g1, g2⟩ := cmpL_between _ _ _ h4 h1 h2
  exact under_iff.2 ⟨hq, h3, g1, g2⟩

theorem pieces_app (a b : Tx) : pieces (a ++ 47 :: b) = pieces a ++ pieces b := by
  induction a with
  | nil => simp [pieces]
  | cons c cs ih =>
    by_cases h : c = 47
    · subst h
      have e1 : pieces (47 :: (cs ++ 47 :: b)) = [] :: pieces (cs ++ 47 :: b) := by simp [pieces]
      have e2 : pieces (47 :: cs) = [] :: pieces cs := by simp [pieces]
      rw [List.cons_append, e1, e2, ih]
      rfl
    · obtain ⟨p, ps, e1, e2⟩ := pieces_cons c (cs ++ 47 :: b) h
      obtain ⟨p', ps', e3, e4⟩ := pieces_cons c cs h
      rw [List.cons_append, e2, e4]
      rw [ih, e3, List.cons_append] at e1
      injection e1 with e5 e6
      rw [← e5, ← e6]
      rfl
theorem fold_names (s : Tx) (st : List Tx) : (pieces s).foldl step st = (names s).foldl step st := by
  unfold names
  split
  · rename_i h; subst h; simp [pieces, step]
  · rfl
theorem step_name (st : List Tx) (x : Tx) (h : name x = true) : step st x = st ++ [x] := by
  have h1 := name_len h
  have h2 : x ≠ [46] := by rintro rfl; revert h; decide
  have h3 : x ≠ [46, 46] := by rintro rfl; revert h; decide
  have h4 : x ≠ [] := by rintro rfl; simp at h1
  unfold step
  rw [if_neg (by simp [h2, h4]), if_neg h3]
theorem fold_these (l : List Tx) (h : ∀ x ∈ l, name x = true) : ∀ st, l.foldl step st = st ++ l := by
  induction l with
  | nil => intro st; simp
  | cons x t ih =>
    intro st
    rw [List.foldl_cons, step_name st x (h x (by simp)), ih (fun y hy => h y (by simp [hy]))]
    simp
theorem stack_join (l : List Tx) (h : path l = true) : stack (join l) = l := by
  unfold stack
  rw [names_join l (path_name h), fold_these l (path_name h)]
  simp
theorem clean_ok (l : List Tx) (h : path l = true) : clean (join l) = (join l, 0) := by
  unfold clean
  rw [if_neg (by have := path_size h; omega), stack_join l h]
  simp [joined, h]
theorem clean_more (l : List Tx) (h : path l = true) : clean ([47, 47, 46, 47] ++ join l ++ [47, 46, 47, 120, 47, 46, 46, 47, 47]) = (join l, 0) := by
  have hs := path_size h
  have e : [47, 47, 46, 47] ++ join l ++ [47, 46, 47, 120, 47, 46, 46, 47, 47] = [47, 47, 46] ++ 47 :: (join l ++ 47 :: [46, 47, 120, 47, 46, 46, 47, 47]) := by simp
  have e2 : stack ([47, 47, 46, 47] ++ join l ++ [47, 46, 47, 120, 47, 46, 46, 47, 47]) = l := by
    unfold stack
    rw [← fold_names, e, pieces_app, pieces_app, List.foldl_append, List.foldl_append, fold_names (join l), names_join l (path_name h)]
    rw [show (pieces [47, 47, 46]).foldl step [] = [] by decide, fold_these l (path_name h), List.nil_append]
    rw [show pieces [46, 47, 120, 47, 46, 46, 47, 47] = [[46], [120], [46, 46], [], []] by decide]
    simp [List.foldl, step]
  unfold clean
  rw [if_neg (by simp; omega), e2]
  simp [joined, h]
end Pn
end Go.Proofs.Ytghoajhfndnafaa
