/- A region that draws its order, whose operations only read what lies below a bound, and whose calls may make memory, but leave all below that bound as it was: one walk in the text's order. -/
import Derived.Test.YtoipmdemicdhoaaMem
import Derived.BigQuiet

namespace Go.Proofs.Ytoipmdemicdhoaa
set_option maxRecDepth 100000
open Go.RowKit

/-- A world that is as W was below B. -/
structure Wd (B : Nat) (W : World) where
  w : World
  h : Below B W w

instance (B : Nat) (W : World) : Nonempty (Wd B W) := ⟨⟨W, Below.refl _ _⟩⟩

theorem region_made {P : Program} {id : Nat} {Q : Exit → Act → World → Prop} {a : Act} {w : World} {l : List Oper} (B : Nat) (W : World) (hm : P.follows .mixedOrders = true) (hB : Region.lexB .any l.toArray = true)
    (hC : Below B W w) (h : wpQuiet P l.toArray (fun w' => ∃ x : Wd B W, w' = x.w) (fun a' => ∀ x : Wd B W, Q .normal a' x.w) l a) : (Code.region id l.toArray true).wp P Q a w := by
  refine wp_region_quiet (C := fun w' => ∃ x : Wd B W, w' = x.w) hm hB ⟨⟨_, hC.drew⟩, rfl⟩ ?_
  have : (fun a' => ∀ w', (∃ x : Wd B W, w' = x.w) → Q .normal a' w') = fun a' => ∀ x : Wd B W, Q .normal a' x.w := by
    funext a'
    exact propext ⟨fun h x => h _ ⟨x, rfl⟩, fun h w' ⟨x, e⟩ => e ▸ h x⟩
  rw [this]
  simpa using h

/-- A contract at a call within such a region. -/
theorem made_call {P : Program} {f : FuncId} {args : Array Value} {B : Nat} {W : World} {v : Value} (x : Wd B W) (hB : B ≤ W.heap.size)
    (h : Calls P f args x.w fun e w' => e = .returned v ∧ Below x.w.heap.size x.w w') : Calls P f args x.w fun e w'' => e = .returned v ∧ ∃ y : Wd B W, w'' = y.w :=
  h.mono fun _ w' ⟨he, hb⟩ => ⟨he, ⟨w', x.h.trans (hb.mono (by have := x.h.size; omega))⟩, rfl⟩

/-- A cell below the bound. -/
theorem Wd.cell {B : Nat} {W : World} (x : Wd B W) {b o : Nat} (hb : b < B) : x.w.cell? ⟨b, o, none⟩ = W.cell? ⟨b, o, none⟩ := x.h.cell (p := ⟨b, o, none⟩) hb
end Go.Proofs.Ytoipmdemicdhoaa
