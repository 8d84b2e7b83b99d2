/- An append whose run is known (outside a fence); one more text behind a list of the call's own. -/
import Derived.Test.YtghoajhfndnafaaPapp

namespace Go.Proofs.Ytghoajhfndnafaa
set_option maxRecDepth 100000
open Go.RowKit

theorem wpList_append_known {P : Program} {w : World} {ops : Array Oper} {rest : List Oper} {o : Oper} {a : Act} {Q : Exit → Act → World → Prop} (hgd : o.guard = none) (s x : Operand) (t : TypeId)
    (hop : o.op = Op.call { callee := Callee.builtin Builtin.append, args := #[s, x], argTypes := #[t, t] }) (S X v : Value) (w' : World) (hs : a.eval s = S) (hx : a.eval x = X)
    (hrun : (Builtin.append_ #[t, t] o.type #[S, X]).run P w = .ok v w') (h : wpList P ops Q rest (a.put o.dst v) w') : wpList P ops Q (o :: rest) a w :=
  wpList_plain hgd fun K hK => by
    unfold Oper.wp
    simp [execOp, hop, resolve, invoke, builtin, hs, hx, hrun, Result.andThen]
    exact hK _ _ h

theorem Ot.grow {w : World} {base : Nat} {v : Value} {l : List Tx} (h : Ot w base v l) (x : Tx) (hb : base ≤ w.heap.size) (hl : l.length ≤ 2000000) :
    ∃ g c w', (Builtin.append_ #[22, 22] 22 #[v, .slice (some ⟨w.heap.size, 0, none⟩) 1 1]).run Try.prog (w.alloc (.cells #[.string (bx x)] 9)) = .ok (.slice (some ⟨g, 0, none⟩) (l.length + 1) c) w' ∧
      Ot w' base (.slice (some ⟨g, 0, none⟩) (l.length + 1) c) (l ++ [x]) ∧ Hid (∀ B, B ≤ base → Below B w w') := by
  have hoa : Ot (w.alloc (.cells #[.string (bx x)] 9)) base v l := h.later (below1 w _)
  obtain ⟨v', w2, hrun, ho2, hg, _⟩ := hoa.append x (by omega) w.heap.size 0 1 (Has.new w (.cells #[.string (bx x)] 9)).one.1 (by simp; omega)
  obtain ⟨g, c, rfl⟩ : ∃ g c, v' = .slice (some ⟨g, 0, none⟩) (l.length + 1) c := by
    rcases ho2.2 with ⟨_, h0⟩ | ⟨g, c, cur, e, _⟩
    · simp at h0
    · exact ⟨g, c, by rw [e]; simp⟩
  refine ⟨g, c, w2, hrun, ho2, fun B hB => ?_⟩
  refine ⟨hg.os, hg.tape, hg.output, by have := hg.size; simp at this; omega, fun k hk => ?_⟩
  rw [hg.block k (by simp; omega) (fun e => by have := (h.lt k e.symm).1; omega), Below.heap_alloc _ _ _ (by omega)]
end Go.Proofs.Ytghoajhfndnafaa
