/- What the bound of an '..UptoSaid' gives: how long a slice of bytes that came in can be. -/
import Derived.Test.YtheffpihhmdceaaCcap
import Derived.Deep.CondSized

namespace Go.Proofs.Ytheffpihhmdceaa
set_option maxRecDepth 100000
open Go.ChangeShapes Go.WideShapes Go.ChangeAt Go.RowKit Go.Joins

theorem bulk_one {H : Type} (d : DataW H) : 1 ≤ Rows.uptoBulk d := by
  cases d with
  | lit l => cases l <;> simp [Rows.uptoBulk]
  | nil => simp [Rows.uptoBulk]
  | ptr d => simp [Rows.uptoBulk]
  | slice elems spare => simp [Rows.uptoBulk]
  | agg parts => simp [Rows.uptoBulk]
  | iface t d => simp [Rows.uptoBulk]
  | map entries => simp [Rows.uptoBulk]
  | held h => simp [Rows.uptoBulk]

theorem bulk_length {H : Type} (l : List (DataW H)) : l.length ≤ Rows.uptoBulkAll l := by
  induction l with
  | nil => simp [Rows.uptoBulkAll]
  | cons x r ih => have := bulk_one x; simp only [Rows.uptoBulkAll, List.length_cons]; omega

theorem bulk_slice {H : Type} (elems spare : List (DataW H)) : elems.length + spare.length + 1 ≤ Rows.uptoBulk (.slice elems spare) := by
  have h1 := bulk_length elems
  have h2 := bulk_length spare
  simp only [Rows.uptoBulk]
  omega

theorem lits_length {H : Type} (k : IntKind) (zs : List Int) : (lits (H := H) k zs).length = zs.length := by simp [lits]

/-- A slice of bytes that came in, and its bulk. -/
theorem sl_open_bulk {H : Type} {enc : TypeId × Value → H} {W : World} {fuel : Nat} {cs : List Value} {x : DataW H × List MemPlace}
    (h : DataW.trod enc Try.prog W 0 (fun _ => true) true fuel 24 cs = some x) (hw : ∀ n ∈ x.1.weights Try.prog 24, n ≤ reachBytes) :
    ∃ s bs, cs = [s] ∧ Sl W s bs ∧ bs.length ≤ 140737488351232 ∧ bs.length ≤ Rows.uptoBulk x.1 := by
  obtain ⟨s, bs, e, hs, hl⟩ := sl_open h hw
  refine ⟨s, bs, e, hs, hl, ?_⟩
  rcases open_ints Try.underlying24 Try.underlying5 Try.cellsU8 h with ⟨rfl, rfl⟩ | ⟨a, len, cap, zs, rfl, _, hlc, hm, hz, rfl, hcell, hwz⟩
  · simp at e
    subst e
    have := hs.len.1
    omega
  · simp at e
    subst e
    have h1 := hs.len.1
    have hz' : zs.length = cap := by simpa using hz
    have h2 := bulk_slice (H := H) (lits .u8 (zs.take len)) (lits .u8 (zs.drop len))
    rw [lits_length, lits_length] at h2
    simp only [List.length_take, List.length_drop] at h2
    show bs.length ≤ Rows.uptoBulk (.slice (lits .u8 (zs.take len)) (lits .u8 (zs.drop len)))
    omega

/-- A slice of bytes as an argument, and its bulk. -/
theorem bytes_open_bulk {H : Type} {enc : TypeId × Value → H} {W : World} {base : Nat} {v : Value} {d : DataW H} {p : List MemPlace} (hv : Value.okWide Try.prog W .any base 24 v)
    (h : DataW.Trod enc Try.prog W 0 (fun _ => true) true 24 v d p) (hw : ∀ n ∈ d.weights Try.prog 24, n ≤ reachBytes) :
    ∃ bs, Sl W v bs ∧ bs.length ≤ 140737488351232 ∧ bs.length ≤ Rows.uptoBulk d := by
  obtain ⟨a1, len, cap, rfl⟩ := okWide_slice Try.underlying24 hv
  obtain ⟨fuel, hf⟩ := h
  obtain ⟨s, bs, e, hs, hl, hb⟩ := sl_open_bulk hf hw
  simp [Value.cells] at e
  subst e
  exact ⟨bs, hs, hl, hb⟩
end Go.Proofs.Ytheffpihhmdceaa
