/- A region that draws its order, of which all operations but the last ones only read: the first ones by one walk in the text's order, the last ones as they stand. -/
import Derived.Test.YtoipmdemicdhoaaMem
import Derived.StillTail

namespace Go.Proofs.Ytoipmdemicdhoaa
set_option maxRecDepth 100000
open Go

theorem still_of_quiet {P : Program} {ops : Array Oper} {W : World} {Q : Act → Prop} : ∀ (l : List Oper) (a : Act), wpQuiet P ops (fun w' => w' = W) Q l a → wpStill P ops W Q l a := by
  intro l
  induction l with
  | nil => intro a h; exact h
  | cons o rest ih =>
    intro a h
    unfold wpQuiet at h
    unfold wpStill
    split
    · rename_i hw
      rw [if_pos hw] at h
      obtain ⟨v, hv, hn⟩ := h
      have h1 := hv W rfl
      have hn := ih _ hn
      unfold Oper.quietAt at h1
      unfold Oper.still
      generalize (execOp a.eval o).run P W = r at h1
      cases r with
      | ok x w' =>
        cases x with
        | value v' => obtain ⟨e1, e2⟩ := h1; subst e2; exact ⟨e1, hn⟩
        | skip => obtain ⟨e1, e2⟩ := h1; subst e2; exact ⟨e1, hn⟩
        | enter f args => obtain ⟨e1, e2⟩ := h1; exact ⟨e1, v, e2, hn⟩
        | _ => exact h1.elim
      | halt x w' => exact h1.elim
    · rename_i hw
      rw [if_neg hw] at h
      exact ih _ h

theorem region_qtail {P : Program} {id : Nat} {Q : Exit → Act → World → Prop} {a : Act} {w : World} {l : List Oper} (n : Nat) (hm : P.follows .mixedOrders = true) (hB : Region.lexTailB .any l.toArray n = true)
    (h : ∀ W : World, W = w.drew → wpQuiet P l.toArray (fun w' => w' = W) (fun a' => wpList P l.toArray Q (l.drop n) a' W) (l.take n) a) : (Code.region id l.toArray true).wp P Q a w :=
  wp_region_still_tail n hm hB (still_of_quiet _ _ (h _ rfl))
end Go.Proofs.Ytoipmdemicdhoaa
