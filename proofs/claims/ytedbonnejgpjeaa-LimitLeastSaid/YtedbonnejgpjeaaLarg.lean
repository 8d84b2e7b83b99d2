/- How a slice of numbers that came in reads. -/
import Derived.Test.YtedbonnejgpjeaaLlives
import Derived.ProofKit
import Derived.OpenShut
import Derived.SizedLaws
import Derived.Lib.SmallJoins
namespace Go.Proofs.Ytedbonnejgpjeaa
open Go.ChangeShapes Go.WideShapes Go.ChangeAt Go.RowKit Go.Joins

theorem Try.own : ownKnob Try.prog.godebug = none := by kernel_rfl
theorem Try.laidOut : laidOutB Try.prog = true := by kernel_rfl

theorem wf_bounds {n : Int} (h : (Lit.int .i64 n).wf = true) : -9223372036854775808 ≤ n ∧ n ≤ 9223372036854775807 := by
  have := bounds_i64 h
  omega

theorem Try.cellsInt : Try.prog.cellsOf 3 = 1 := by kernel_rfl
theorem Try.bytesInt : Try.prog.bytesOf 3 = 8 := by kernel_rfl

theorem Zl.nil (w : World) : Zl w (.slice none 0 0) [] := ⟨none, 0, 0, rfl, rfl, by omega, fun _ => ⟨rfl, rfl⟩, fun h => absurd h (by omega)⟩

theorem zl_open {H : Type} {enc : TypeId × Value → H} {W : World} {fuel : Nat} {cs : List Value} {x : DataW H × List MemPlace}
    (h : DataW.trod enc Try.prog W 0 (fun _ => true) true fuel 22 cs = some x) (hw : ∀ n ∈ x.1.weights Try.prog 22, n ≤ reachBytes) :
    ∃ s zs, cs = [s] ∧ Zl W s zs ∧ zs.length ≤ 17592186043904 := by
  rcases open_ints Try.underlying22 Try.underlying3 Try.cellsInt h with ⟨rfl, rfl⟩ | ⟨a, len, cap, zs, rfl, _, hl, hm, hz, rfl, hcell, hwz⟩
  · exact ⟨_, [], rfl, Zl.nil W, by simp⟩
  · have hz' : zs.length = cap := by simpa using hz
    have hr : cap * 8 ≤ 140737488351232 := by
      have := hw (cap * 8) (by
        simp only [DataW.weights, Try.underlying22, Try.bytesInt]
        simp [lits, hz']
        left
        omega)
      unfold reachBytes at this
      omega
    refine ⟨_, zs.take len, rfl, ⟨some a, len, cap, rfl, by simp; omega, by omega, fun h => by simp at h, fun h0 => ?_⟩, by simp; omega⟩
    obtain ⟨b, off, spot⟩ := a
    have hc0 := hcell 0 (by omega)
    have hspot : spot = none := by simpa [Addr.add] using World.cell?_spot hc0
    subst hspot
    refine ⟨b, off, rfl, ?_, fun i hi => ?_⟩
    · have := World.block_lt_of_cell? W _ hc0
      simpa [Addr.add] using this
    · have hc := hcell i (by omega)
      have e : (⟨b, off, none⟩ : Addr).add i = ⟨b, off + i, none⟩ := by cases i <;> simp [Addr.add]
      rw [e] at hc
      rw [hc]
      have hi' : i < zs.length := by omega
      simp [hi, List.getElem?_eq_getElem hi', List.getD]

/-- A slice of numbers as an argument. -/
theorem ints_open {H : Type} {enc : TypeId × Value → H} {W : World} {base : Nat} {v : Value} {d : DataW H} {p : List MemPlace} (hv : Value.okWide Try.prog W .any base 22 v)
    (h : DataW.Trod enc Try.prog W 0 (fun _ => true) true 22 v d p) (hw : ∀ n ∈ d.weights Try.prog 22, n ≤ reachBytes) :
    ∃ zs, Zl W v zs ∧ zs.length ≤ 17592186043904 := by
  obtain ⟨a1, len, cap, rfl⟩ := okWide_slice Try.underlying22 hv
  obtain ⟨fuel, hf⟩ := h
  obtain ⟨s, zs, e, hs, hl⟩ := zl_open hf hw
  simp [Value.cells] at e
  subst e
  exact ⟨zs, hs, hl⟩

end Go.Proofs.Ytedbonnejgpjeaa
