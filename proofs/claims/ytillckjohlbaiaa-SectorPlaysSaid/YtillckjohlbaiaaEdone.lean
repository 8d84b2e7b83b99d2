/- Contract of valiselaw11.done. -/
import Derived.Test.YtillckjohlbaiaaElive
import Derived.Test.YtillckjohlbaiaaEact

namespace Go.Proofs.Ytillckjohlbaiaa
set_option maxRecDepth 100000
open Go.RowKit

namespace Ek
def stepA (d : Dk) (ac : Ac) : Dk := if ac.kind = 1 then write d ac.i (fil ac.c (fln ac.long)) else if ac.kind = 2 then sync d else if ac.kind = 4 then crash d (nth ac.keep) else d
/-- The disk behind the first k calls. -/
def dn (n : Nat) (l : List Ac) : Nat → Dk
  | 0 => fresh n
  | k + 1 => match l[k]? with
    | some ac => stepA (dn n l k) ac
    | none => dn n l k
/-- A disk without a fuse. -/
structure Fr (d : Dk) (n i : Nat) : Prop where
  n : d.n = n
  dark : d.dark = false
  left : d.left = -1
  used : d.used ≤ i
theorem Fr.step {d : Dk} {n i : Nat} (h : Fr d n i) (ac : Ac) : Fr (stepA d ac) n (i + 1) := by
  have hu := h.used
  unfold stepA
  split
  · by_cases hb : Bad d ac.i (fil ac.c (fln ac.long))
    · have e : write d ac.i (fil ac.c (fln ac.long)) = d := by unfold write; rw [if_pos hb]
      rw [e]; exact ⟨h.n, h.dark, h.left, by omega⟩
    · have e : write d ac.i (fil ac.c (fln ac.long)) = added d ac.i (fil ac.c (fln ac.long)) := by
        unfold write
        rw [if_neg hb, if_neg (by rw [h.dark]; decide)]
        exact (change_free (d := added d ac.i (fil ac.c (fln ac.long))) h.dark h.left).1
      rw [e]; exact ⟨h.n, h.dark, h.left, by show d.used + 1 ≤ _; omega⟩
  · split
    · obtain ⟨a, b⟩ := change_free h.dark h.left
      have e : sync d = settled d (fun _ => 1) := by unfold sync; rw [if_pos b, a]
      rw [e]; exact ⟨h.n, h.dark, h.left, by show d.used ≤ _; omega⟩
    · split
      · exact ⟨h.n, rfl, rfl, by show d.used ≤ _; omega⟩
      · exact ⟨h.n, h.dark, h.left, by omega⟩
theorem dn_fr (n : Nat) (l : List Ac) (k : Nat) : Fr (dn n l k) n k := by
  induction k with
  | zero => exact ⟨rfl, rfl, rfl, Nat.le_refl _⟩
  | succ k ih =>
    simp only [dn]
    split
    · exact ih.step _
    · exact ⟨ih.n, ih.dark, ih.left, by have := ih.used; omega⟩
end Ek

end Go.Proofs.Ytillckjohlbaiaa
