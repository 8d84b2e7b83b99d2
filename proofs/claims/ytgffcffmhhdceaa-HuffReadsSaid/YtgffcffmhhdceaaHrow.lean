/- Contract of the document's Put. -/
import Derived.Test.YtgffcffmhhdceaaHcopy
namespace Go.Proofs.Ytgffcffmhhdceaa
open Go.RowKit

theorem Row.shape {w : World} {base : Nat} {s : Value} {l : List Bool} (h : Row w base s l) : ∃ a n cap, s = .slice a n cap := by
  rcases h.2 with ⟨rfl, _⟩ | ⟨g, cap, cur, rfl, _⟩
  · exact ⟨_, _, _, rfl⟩
  · exact ⟨_, _, _, rfl⟩

theorem Row.weaken {w : World} {base base' : Nat} {s : Value} {l : List Bool} (h : Row w base s l) (hb : base' ≤ base) : Row w base' s l := own_weaken h hb

/-- A row's block is not that of a variable of a row's type. -/
theorem Row.ne {w : World} {base b : Nat} {s : Value} {l : List Bool} {cs : Array Value} {fr : Nat × Nat} (h : Row w base s l) (hb : Has w b (.cells cs 36 fr)) : s.ownBlock ≠ some b := own_ne h hb

/-- The value of a variable that holds a row. -/
abbrev rowVar (a : Option Addr) (n cap : Nat) (N : Int) : Obj := .cells #[.slice a n cap, .int .i64 N] 36 (0, 0)

theorem with_is (a : Option Addr) (n cap : Nat) (l : List Bool) (b : Bool) (q : Int) (base N : Nat) (w : World) (hr : Row w base (.slice a n cap) l) (hb : base ≤ w.heap.size) (hl : Hid (N = l.length)) (hN : N ≤ 1125899906842000) (hq : Hid (q = (b.toNat : Int))) :
    Calls Try.prog 36 #[.agg #[.slice a n cap, .int .i64 (N : Int)], .int .i64 q] w fun e w' =>
      ∃ a' n' cap', e = .returned (.agg #[.slice a' n' cap', .int .i64 ((N : Int) + 1)]) ∧ Row w' base (.slice a' n' cap') (l ++ [b]) ∧ w.grownBy w' (Value.slice a n cap).ownBlock := by
  rw [hq.out]
  refine (with_any _ l b base N w hr hb hl hN).mono ?_
  rintro e w' ⟨s', rfl, h1, h2⟩
  obtain ⟨a', n', cap', rfl⟩ := h1.shape
  refine ⟨a', n', cap', ?_, h1, h2⟩
  rw [List.length_append, List.length_singleton, ← hl.out]
  rfl

theorem copy_is (a : Option Addr) (n cap : Nat) (l : List Bool) (N : Nat) (w : World) (hs : Sl w (.slice a n cap) (Bs.pack l)) (hl : Hid (N = l.length)) (hN : N ≤ 1125899906842000) :
    Calls Try.prog 35 #[.agg #[.slice a n cap, .int .i64 (N : Int)]] w fun e w' =>
      ∃ a' n' cap', e = .returned (.agg #[.slice a' n' cap', .int .i64 (N : Int)]) ∧ Row w' w.heap.size (.slice a' n' cap') l ∧ Below w.heap.size w w' := by
  refine (copy_any _ l N w hs hl hN).mono ?_
  rintro e w' ⟨s', rfl, h1, h2⟩
  obtain ⟨a', n', cap', rfl⟩ := h1.shape
  exact ⟨a', n', cap', by rw [hl.out], h1, h2⟩

/-- A variable's row and the variable itself, behind a step of With that was stored back into it. -/
theorem var_step {w w' : World} {base b : Nat} {a a' : Option Addr} {n n' cap cap' : Nat} {N : Int} {l l' : List Bool} (M : Int)
    (hv : Has w b (rowVar a n cap N)) (hr : Row w base (.slice a n cap) l) (hr' : Row w' base (.slice a' n' cap') l') (hg : w.grownBy w' (Value.slice a n cap).ownBlock) :
    Has w' b (rowVar a n cap N) ∧ Has ((w'.setCell ⟨b, 0, none⟩ (.slice a' n' cap')).setCell ⟨b, 1, none⟩ (.int .i64 M)) b (rowVar a' n' cap' M) ∧
      Row ((w'.setCell ⟨b, 0, none⟩ (.slice a' n' cap')).setCell ⟨b, 1, none⟩ (.int .i64 M)) base (.slice a' n' cap') l' := by
  have h1 : Has w' b (rowVar a n cap N) := hv.grown hg (fun e => hr.ne hv e.symm)
  refine ⟨h1, ?_, ?_⟩
  · have h2 := (h1.setSelf (i := 0) (.slice a' n' cap')).setSelf (i := 1) (.int .i64 M)
    simpa using h2
  · exact ownsRow_setCell_other (ownsRow_setCell_other hr' (hr'.ne h1) _) (hr'.ne h1) _

theorem row_grown_below {w0 w w' : World} {base B : Nat} {s : Value} {l : List Bool} (hr : Row w base s l) (hg : w.grownBy w' s.ownBlock) (hb : Below B w0 w) (hB : B ≤ base) (hs : B ≤ w.heap.size) : Below B w0 w' :=
  hb.grown hg hs fun k hk => Nat.le_trans hB (hr.block k hk).1

/-- What is answered where the document makes a row: it lies in memory of its own. -/
def RowOwn (w : World) (l : List Bool) (e : Ending) (w' : World) : Prop :=
  ∃ a n cap, e = .returned (.tuple #[.agg #[.slice a n cap, .int .i64 (l.length : Int)], .int .i64 0]) ∧ Row w' w.heap.size (.slice a n cap) l ∧ Below w.heap.size w w'

end Go.Proofs.Ytgffcffmhhdceaa
