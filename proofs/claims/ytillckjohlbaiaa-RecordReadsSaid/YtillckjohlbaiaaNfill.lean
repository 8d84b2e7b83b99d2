/- What a reader's numbers are, in plain lists. -/
import Derived.Test.YtillckjohlbaiaaNnum

namespace Go.Proofs.Ytillckjohlbaiaa
set_option maxRecDepth 100000
open Go.RowKit

/-- How many bytes numbers have. -/
def sumw (L : List (Nat × Int)) : Nat := (L.map fun p => p.2.toNat).sum
theorem sumw_succ (L : List (Nat × Int)) (i : Nat) (p : Nat × Int) (h : L[i]? = some p) : sumw (L.take (i + 1)) = sumw (L.take i) + p.2.toNat := by
  unfold sumw
  rw [List.take_add_one, h]
  simp
theorem sumw_take (L : List (Nat × Int)) (i : Nat) : sumw (L.take i) ≤ sumw L := by
  unfold sumw
  rw [List.map_take]
  have h := List.sum_append (l₁ := (L.map fun p => p.2.toNat).take i) (l₂ := (L.map fun p => p.2.toNat).drop i)
  rw [List.take_append_drop] at h
  omega

/-- The fields F with the numbers that stand from place p on, each in its own. -/
def fill (bs : List Nat) : Nat → List (Nat × Int) → List Int → List Int
  | _, [], F => F
  | p, (k, wd) :: L, F => fill bs (p + wd.toNat) L (F.set k (nm ((bs.drop p).take wd.toNat) : Nat))
theorem fill_append (bs : List Nat) (L M : List (Nat × Int)) : ∀ (p : Nat) (F : List Int), fill bs p (L ++ M) F = fill bs (p + sumw L) M (fill bs p L F) := by
  induction L with
  | nil => intro p F; simp [fill, sumw]
  | cons x L ih =>
    intro p F
    obtain ⟨k, wd⟩ := x
    show fill bs (p + wd.toNat) (L ++ M) _ = _
    rw [ih]
    show _ = fill bs (p + sumw ((k, wd) :: L)) M (fill bs (p + wd.toNat) L _)
    congr 1
    simp [sumw]
    omega
theorem fill_succ (bs : List Nat) (L : List (Nat × Int)) (i : Nat) (q : Nat × Int) (h : L[i]? = some q) (p : Nat) (F : List Int) :
    fill bs p (L.take (i + 1)) F = (fill bs p (L.take i) F).set q.1 (nm ((bs.drop (p + sumw (L.take i))).take q.2.toNat) : Nat) := by
  rw [List.take_add_one, h]
  show fill bs p (L.take i ++ [q]) F = _
  rw [fill_append]
  rfl
theorem fill_length (bs : List Nat) (L : List (Nat × Int)) : ∀ (p : Nat) (F : List Int), (fill bs p L F).length = F.length := by
  induction L with
  | nil => intro p F; rfl
  | cons x L ih =>
    intro p F
    obtain ⟨k, wd⟩ := x
    show (fill bs (p + wd.toNat) L _).length = _
    rw [ih, List.length_set]
theorem zeros_set (m k : Nat) : (List.replicate m (0 : Int)).set k 0 = List.replicate m 0 := by
  induction m generalizing k with
  | zero => rfl
  | succ m ih =>
    cases k with
    | zero => rfl
    | succ k => rw [List.replicate_succ, List.set_cons_succ, ih]
end Go.Proofs.Ytillckjohlbaiaa
