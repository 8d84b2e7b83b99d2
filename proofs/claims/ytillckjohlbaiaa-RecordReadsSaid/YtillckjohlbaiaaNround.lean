/- A region that draws its order, in a round of a loop over an iterator, walked as outside of one, under what is held. -/
import Derived.Test.YtillckjohlbaiaaNrng
import Derived.Deep.RegionHeld3

namespace Go.Proofs.Ytillckjohlbaiaa
set_option maxRecDepth 100000
open Go Go.RowKit Go.Shelf
namespace Nr

/-- Q, but no panic and no way out for want of room. -/
def NoBoth (Q : Exit → Act → World → Prop) : Exit → Act → World → Prop
  | .panic _, _, _ => False
  | .outgrown, _, _ => False
  | e, a, w => Q e a w
theorem NoBoth.imp {Q : Exit → Act → World → Prop} : ∀ (e : Exit) (a : Act) (w : World), NoBoth Q e a w → Q e a w := fun e a w h => by
  cases e <;> first | exact h | exact (h : False).elim
theorem NoBoth.normal {Q : Exit → Act → World → Prop} {a : Act} {w : World} (h : Q .normal a w) : NoBoth Q .normal a w := h
theorem NoBoth.lets {Q : Exit → Act → World → Prop} : ¬ LetsOut (NoBoth Q) := fun ⟨_, _, h⟩ => h

/-- No operation is a defer statement. -/
def noDefer' (ops : Array Oper) : Bool := ops.toList.all fun o => match o.op with | .defer _ => false | _ => true
theorem noDefer_at' {ops : Array Oper} (h : noDefer' ops = true) {i : Nat} {o : Oper} (ho : ops[i]? = some o) : ∀ c, o.op ≠ .defer c := by
  intro c e
  have hm : o ∈ ops.toList := by
    rw [← Array.getElem?_toList] at ho
    exact List.mem_of_getElem? ho
  have := List.all_eq_true.1 h o hm
  rw [e] at this
  cases this
theorem rows_wide {n l : Nat} {P : Program} {row : String} {args : Array Value} {w : World} {R : Value → World → Prop} (h : Rows P row args w R) : RowsIn (Fence.wide.inRound l) n P row args w R := fun c cs _ =>
  let ⟨v, w', r, s⟩ := h c cs
  ⟨v, w', r, stepsIn_wide.2 s⟩
theorem uponIn_of {n l : Nat} {P : Program} {o : Oper} {a : Act} {K : Act → World → Prop} {Q : Exit → Act → World → Prop} {r : Result Next} (h : o.upon P a K Q r) : o.uponIn (Fence.wide.inRound l) n P a K Q r := by
  cases r with
  | ok x w' =>
    cases x with
    | enter f args => exact ⟨fun q => (by simp [Fence.wide] at q), CallsIn.inRound l (callsIn_wide.2 h)⟩
    | row row args => exact ⟨fun q => (by simp [Fence.wide] at q), rows_wide h⟩
    | round _ _ _ _ _ => exact (h : False).elim
    | _ => exact h
  | halt x w' => cases x <;> exact h
theorem anyIn_of_any {n l : Nat} {P : Program} {md : Region.Mode} {ops : Array Oper} {Q : Exit → Act → World → Prop} (hd : noDefer' ops = true) (hQ : ¬ LetsOut Q) :
    ∀ (fuel : Nat) (listed : Array Bool) (a : Act) (w : World), wpAny P md ops Q fuel listed a w → wpAnyIn (Fence.wide.inRound l) n P md ops Q fuel listed a w := by
  intro fuel
  induction fuel with
  | zero => intro listed a w h; exact h
  | succ fuel ih =>
    intro listed a w h
    refine ⟨h.1, fun i hi => ?_⟩
    have h2 := h.2 i hi
    unfold wpOp at h2
    unfold wpOpIn
    split
    · rename_i ho; rw [ho] at h2; exact ih _ _ _ h2
    · rename_i o ho
      rw [ho] at h2
      simp only at h2 ⊢
      split
      · rename_i hw
        rw [if_pos hw] at h2
        rcases h2 with h2 | ⟨_, h2⟩
        · unfold Oper.wpIn
          refine ⟨fun _ _ => trivial, ?_⟩
          rw [Oper.semAt_eq _ _ _ (noDefer_at' hd ho)]
          have h3 : o.upon P a (wpAnyIn (Fence.wide.inRound l) n P md ops Q fuel (listed.setIfInBounds i true)) Q ((execOp a.eval o).run P w) := Oper.wp_mono (fun a w h => ih _ a w h) h2
          exact uponIn_of h3
        · exact absurd h2 hQ
      · rename_i hw
        rw [if_neg hw] at h2
        exact ⟨fun _ _ => trivial, ih _ _ _ h2⟩
theorem region_round_held {n l : Nat} {P : Program} {id : Nat} {ops : Array Oper} {Q : Exit → Act → World → Prop} {a : Act} {w : World} {S : World → Prop} (hm : P.follows .mixedOrders = true) (hd : noDefer' ops = true) (hS : S w.drew)
    (h : S w.drew → wpAnyH P .any ops (NoBoth Q) S ops.size (Array.replicate ops.size false) a w.drew) : (Code.region id ops true).wpIn (Fence.wide.inRound l) n P Q a w :=
  Code.wpIn_mono NoBoth.imp (wpIn_region_any hm (anyIn_of_any hd NoBoth.lets _ _ _ _ (wpAny_of_held _ _ _ _ (h hS))))
/-- All orders come to one state. -/
theorem region_round_one {n l : Nat} {P : Program} {id : Nat} {ops : Array Oper} {Q : Exit → Act → World → Prop} {a : Act} {w : World} {S : World → Prop} (a9 : Act) (w9 : World) (hm : P.follows .mixedOrders = true) (hd : noDefer' ops = true) (hS : S w.drew)
    (h : ∀ Q' : Exit → Act → World → Prop, Hid (Q' .normal a9 w9) → wpAnyH P .any ops (NoBoth Q') S ops.size (Array.replicate ops.size false) a w.drew) (ht : Q .normal a9 w9) : (Code.region id ops true).wpIn (Fence.wide.inRound l) n P Q a w :=
  region_round_held hm hd hS (fun _ => h Q ht)
end Nr
end Go.Proofs.Ytillckjohlbaiaa
