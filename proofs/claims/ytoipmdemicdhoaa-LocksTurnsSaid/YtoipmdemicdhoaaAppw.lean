/- An append whose run is known, within a fence. -/
import Derived.Test.YtoipmdemicdhoaaNrng

namespace Go.Proofs.Ytoipmdemicdhoaa
set_option maxRecDepth 100000
open Go.RowKit

/-- .. within a fence. -/
theorem wpListIn_append_knownQ {F : Fence} {n : Nat} {P : Program} {w : World} {ops : Array Oper} {rest : List Oper} {o : Oper} {a : Act} {Q : Exit → Act → World → Prop} (hgd : o.guard = none) (s x : Operand) (t : TypeId)
    (hop : o.op = Op.call { callee := Callee.builtin Builtin.append, args := #[s, x], argTypes := #[t, t] }) (S X v : Value) (w' : World) (hs : a.eval s = S) (hx : a.eval x = X)
    (hrun : (Builtin.append_ #[t, t] o.type #[S, X]).run P w = .ok v w') (h : wpListIn F n P ops Q rest (a.put o.dst v) w') : wpListIn F n P ops Q (o :: rest) a w :=
  wpListIn_plain hgd fun K hK => by
    unfold Oper.wpIn
    refine ⟨?_, ?_⟩
    · simp [Oper.about, hop, resolve, Target.leads, Sem.run_pure]
    · rw [Oper.semAt_plain F _ _ (by rw [hop]; intro c hc'; cases hc')]
      simp [execOp, hop, resolve, invoke, builtin, hs, hx, hrun, Result.andThen]
      exact hK _ _ h
end Go.Proofs.Ytoipmdemicdhoaa
