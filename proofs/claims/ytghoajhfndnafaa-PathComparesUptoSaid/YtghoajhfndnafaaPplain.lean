/- What chapter 13 says of texts, in plain lists of bytes: names, pieces, paths, what is above and below. -/
import Derived.Test.YtghoajhfndnafaaRows
import Derived.WalkKit
import Derived.Lib.Hide
import Derived.Lib.Join
import Derived.Lib.Bytealg

namespace Go.Proofs.Ytghoajhfndnafaa
set_option maxRecDepth 100000

/-- A text. -/
abbrev Tx := List UInt8
/-- A text as the model has it. -/
def bx (s : Tx) : ByteArray := ⟨s.toArray⟩
theorem bx_list (s : Tx) : (bx s).data.toList = s := rfl
theorem bx_size (s : Tx) : (bx s).size = s.length := by simp [bx, ByteArray.size]
theorem bx_of (S : ByteArray) : bx S.data.toList = S := by cases S; simp [bx]
theorem bx_inj {s t : Tx} (h : bx s = bx t) : s = t := by
  have := congrArg (fun S : ByteArray => S.data.toList) h
  simpa [bx] using this
theorem bx_append (s t : Tx) : bx (s ++ t) = bx s ++ bx t := by
  apply ByteArray.ext
  rw [ByteArray.data_append]
  simp [bx]

namespace Pn
/-- May the byte stand in a name? -/
def okc (c : UInt8) : Bool := decide (32 ≤ c.toNat) && decide (c.toNat ≤ 126) && !(c.toNat == 47) && !(c.toNat == 92)
/-- May a name be? -/
def name (s : Tx) : Bool := decide (1 ≤ s.length) && decide (s.length ≤ 32) && !(s == [46]) && !(s == [46, 46]) && s.all okc
/-- What stands between any 47. -/
def pieces : Tx → List Tx
  | [] => [[]]
  | c :: cs => if c = 47 then [] :: pieces cs else match pieces cs with
    | p :: ps => (c :: p) :: ps
    | [] => [[c]]
/-- A text's names; the root has none. -/
def names (s : Tx) : List Tx := if s = [] then [] else pieces s
/-- Names with 47 between. -/
def join (l : List Tx) : Tx := Lib.join l [47]
/-- May a path of these names be? -/
def path (l : List Tx) : Bool := decide (l.length ≤ 8) && l.all name && decide ((join l).length ≤ 120)
def split (s : Tx) : List Tx × Nat := if path (names s) then (names s, 0) else ([], 8)
def joined (l : List Tx) : Tx × Nat := if path l then (join l, 0) else ([], 8)
def step (st : List Tx) (p : Tx) : List Tx := if p = [] ∨ p = [46] then st else if p = [46, 46] then st.dropLast else st ++ [p]
def stack (s : Tx) : List Tx := (names s).foldl step []
def clean (s : Tx) : Tx × Nat := if 1024 < s.length then ([], 3) else joined (stack s)
def parent (s : Tx) : Tx × Tx × Nat :=
  if path (names s) then (if names s = [] then ([], [], 9) else (join (names s).dropLast, (names s).getLast?.getD [], 0)) else ([], [], 8)
def under (p d : Tx) : Bool := path (names p) && path (names d) && decide ((names d).length ≤ (names p).length) && decide (names d = (names p).take (names d).length)
def cmpL : List Tx → List Tx → Int
  | [], [] => 0
  | [], _ :: _ => -1
  | _ :: _, [] => 1
  | a :: l, b :: m => if Lib.compareBytes a b ≠ 0 then Lib.compareBytes a b else cmpL l m
def cmp (a b : Tx) : Int := cmpL (names a) (names b)

theorem pieces_ne (s : Tx) : pieces s ≠ [] := by
  cases s with
  | nil => simp [pieces]
  | cons c cs =>
    simp only [pieces]
    split
    · simp
    · split <;> simp
theorem pieces_cons (c : UInt8) (cs : Tx) (h : c ≠ 47) : ∃ p ps, pieces cs = p :: ps ∧ pieces (c :: cs) = (c :: p) :: ps := by
  cases e : pieces cs with
  | nil => exact absurd e (pieces_ne cs)
  | cons p ps => exact ⟨p, ps, rfl, by simp [pieces, h, e]⟩
theorem join_cons2 (a b : Tx) (l : List Tx) : join (a :: b :: l) = a ++ 47 :: join (b :: l) := by
  simp [join, Lib.join, List.intercalate, List.intersperse]
theorem join_one (a : Tx) : join [a] = a := by simp [join, Lib.join, List.intercalate, List.intersperse]
theorem join_nil : join [] = [] := rfl
theorem join_pieces (s : Tx) : join (pieces s) = s := by
  induction s with
  | nil => rfl
  | cons c cs ih =>
    by_cases h : c = 47
    · subst h
      have e : pieces (47 :: cs) = [] :: pieces cs := by simp [pieces]
      rw [e]
      cases hp : pieces cs with
      | nil => exact absurd hp (pieces_ne cs)
      | cons p ps => rw [join_cons2, ← hp, ih]; rfl
    · obtain ⟨p, ps, e1, e2⟩ := pieces_cons c cs h
      rw [e2]
      rw [e1] at ih
      cases ps with
      | nil => rw [join_one] at ih ⊢; rw [ih]
      | cons q qs => rw [join_cons2] at ih ⊢; rw [List.cons_append, ih]
theorem join_names (s : Tx) : join (names s) = s := by
  unfold names
  split
  · rename_i h; subst h; rfl
  · exact join_pieces s
theorem pieces_plain (s : Tx) (h : (47 : UInt8) ∉ s) : pieces s = [s] := by
  induction s with
  | nil => rfl
  | cons c cs ih =>
    have h1 : c ≠ 47 := fun e => h (by simp [e])
    obtain ⟨p, ps, e1, e2⟩ := pieces_cons c cs h1
    rw [ih (fun e => h (by simp [e]))] at e1
    injection e1 with e3 e4
    rw [e2, ← e3, ← e4]
theorem pieces_cut (a b : Tx) (h : (47 : UInt8) ∉ a) : pieces (a ++ 47 :: b) = a :: pieces b := by
  induction a with
  | nil => simp [pieces]
  | cons c cs ih =>
    have h1 : c ≠ 47 := fun e => h (by simp [e])
    obtain ⟨p, ps, e1, e2⟩ := pieces_cons c (cs ++ 47 :: b) h1
    rw [ih (fun e => h (by simp [e]))] at e1
    injection e1 with e3 e4
    rw [List.cons_append, e2, ← e3, ← e4]
theorem pieces_join (l : List Tx) (hl : l ≠ []) (h : ∀ x ∈ l, (47 : UInt8) ∉ x) : pieces (join l) = l := by
  induction l with
  | nil => exact absurd rfl hl
  | cons a t ih =>
    cases t with
    | nil => rw [join_one, pieces_plain _ (h a (by simp))]
    | cons b r => rw [join_cons2, pieces_cut _ _ (h a (by simp)), ih (by simp) (fun x hx => h x (by simp at hx ⊢; exact Or.inr hx))]
theorem pieces_free (s : Tx) : ∀ x ∈ pieces s, (47 : UInt8) ∉ x := by
  induction s with
  | nil => intro x hx; simp [pieces] at hx; subst hx; simp
  | cons c cs ih =>
    by_cases h : c = 47
    · subst h
      intro x hx
      have e : pieces (47 :: cs) = [] :: pieces cs := by simp [pieces]
      rw [e] at hx
      rcases List.mem_cons.1 hx with rfl | hx
      · simp
      · exact ih x hx
    · obtain ⟨p, ps, e1, e2⟩ := pieces_cons c cs h
      intro x hx
      rw [e2] at hx
      rw [e1] at ih
      rcases List.mem_cons.1 hx with rfl | hx
      · intro hm
        rcases List.mem_cons.1 hm with hm | hm
        · exact h hm.symm
        · exact ih p (by simp) hm
      · exact ih x (by simp [hx])
theorem name_free (s : Tx) (h : name s = true) : (47 : UInt8) ∉ s := by
  simp only [name, Bool.and_eq_true, List.all_eq_true] at h
  intro hm
  have := h.2 _ hm
  simp [okc] at this
theorem name_len {s : Tx} (h : name s = true) : 1 ≤ s.length ∧ s.length ≤ 32 := by
  simp only [name, Bool.and_eq_true, decide_eq_true_eq] at h
  exact ⟨h.1.1.1.1, h.1.1.1.2⟩
theorem names_nil {s : Tx} : names s = [] ↔ s = [] := by
  unfold names
  split
  · simp_all
  · simp_all [pieces_ne]
theorem path_name {l : List Tx} (h : path l = true) : ∀ x ∈ l, name x = true := by
  simp only [path, Bool.and_eq_true, List.all_eq_true] at h
  exact h.1.2
theorem path_len {l : List Tx} (h : path l = true) : l.length ≤ 8 := by
  simp only [path, Bool.and_eq_true, decide_eq_true_eq] at h
  exact h.1.1
theorem path_size {l : List Tx} (h : path l = true) : (join l).length ≤ 120 := by
  simp only [path, Bool.and_eq_true, decide_eq_true_eq] at h
  exact h.2
theorem join_ne (l : List Tx) (hl : l ≠ []) (h : ∀ x ∈ l, name x = true) : join l ≠ [] := by
  cases l with
  | nil => exact absurd rfl hl
  | cons a t =>
    have ha := (name_len (h a (by simp))).1
    cases t with
    | nil => rw [join_one]; intro e; rw [e] at ha; simp at ha
    | cons b r => rw [join_cons2]; simp
/-- The names of a path are those that it was made of. -/
theorem names_join (l : List Tx) (h : ∀ x ∈ l, name x = true) : names (join l) = l := by
  by_cases hl : l = []
  · subst hl; rfl
  · unfold names
    rw [if_neg (join_ne l hl h), pieces_join l hl (fun x hx => name_free x (h x hx))]
theorem path_root : path [] = true := by decide
theorem path_app {a b : List Tx} (h : path (a ++ b) = true) : path a = true := by
  have h1 := path_len h
  have h2 := path_name h
  have h3 := path_size h
  simp only [path, Bool.and_eq_true, decide_eq_true_eq, List.all_eq_true]
  rw [List.length_append] at h1
  refine ⟨⟨by omega, fun x hx => h2 x (by simp [hx])⟩, ?_⟩
  clear h1 h2 h
  induction a with
  | nil => simp [join_nil]
  | cons x t ih =>
    cases t with
    | nil =>
      rw [join_one]
      cases b with
      | nil => simpa [join_one] using h3
      | cons y r => rw [List.cons_append, List.nil_append, join_cons2, List.length_append] at h3; omega
    | cons y r =>
      rw [List.cons_append, List.cons_append, join_cons2] at h3
      rw [join_cons2]
      simp only [List.length_append, List.length_cons] at h3 ⊢
      have : ∀ n, (join (y :: r ++ b)).length ≤ n → (join (y :: r)).length ≤ n := by
        intro n hn
        clear ih h3
        revert n
        generalize hq : y :: r = q
        clear hq
        induction q with
        | nil => intro n _; simp [join_nil]
        | cons u v ihq =>
          intro n hn
          cases v with
          | nil =>
            rw [join_one]
            cases b with
            | nil => simpa [join_one] using hn
            | cons z k => rw [List.cons_append, List.nil_append, join_cons2, List.length_append] at hn; omega
          | cons z k =>
            rw [List.cons_append, List.cons_append, join_cons2] at hn
            rw [join_cons2]
            simp only [List.length_append, List.length_cons] at hn ⊢
            have := ihq (n - u.length - 1) (by rw [List.cons_append]; omega)
            omega
      have := this _ (Nat.le_refl _)
      rw [List.cons_append] at this
      omega
theorem path_take {l : List Tx} (h : path l = true) (k : Nat) : path (l.take k) = true :=
  path_app (b := l.drop k) (by rw [List.take_append_drop]; exact h)
end Pn
end Go.Proofs.Ytghoajhfndnafaa
