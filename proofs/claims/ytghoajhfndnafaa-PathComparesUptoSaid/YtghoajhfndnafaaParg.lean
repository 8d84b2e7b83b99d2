/- How texts that came in read. -/
import Derived.Test.YtghoajhfndnafaaPlives
import Derived.Test.YtghoajhfndnafaaPord
import Derived.ProofKit
import Derived.OpenShut
import Derived.SizedLaws
import Derived.SliceStrings
import Derived.ChangeMaps5
import Derived.Lib.SmallJoins

namespace Go.Proofs.Ytghoajhfndnafaa
set_option maxRecDepth 100000
open Go.ChangeShapes Go.WideShapes Go.ChangeAt Go.RowKit Go.Joins

theorem Try.own : ownKnob Try.prog.godebug = none := by kernel_rfl
theorem Try.laidOut : laidOutB Try.prog = true := by kernel_rfl
theorem Try.cellsStr : Try.prog.cellsOf 9 = 1 := by kernel_rfl

theorem ss_trod {H : Type} {enc : TypeId × Value → H} {W : World} {fuel : Nat} {cs : List Value} {x : DataW H × List MemPlace}
    (h : DataW.trod enc Try.prog W 0 (fun _ => true) true fuel 22 cs = some x) : ∃ s l, cs = [s] ∧ Ss W s l ∧ ∀ n c, s = .slice none n c → c = 0 := by
  rcases open_strings Try.underlying22 Try.underlying9 Try.cellsStr h with ⟨rfl, rfl⟩ | ⟨a, len, cap, ss, rfl, _, hl, hm, hz, rfl, hcell, hwz⟩
  · exact ⟨_, [], rfl, Ss.nil W none 0, fun n c h => by cases h; rfl⟩
  · have hz' : ss.length = cap := by simpa using hz
    have hlen : ((ss.take len).map (fun S => S.data.toList)).length = len := by simp; omega
    refine ⟨_, (ss.take len).map (fun S => S.data.toList), rfl, ⟨some a, cap, by rw [hlen], by omega, fun h0 => ?_⟩, fun n c h => by cases h⟩
    have h0' : 0 < len := by
      rcases Nat.eq_zero_or_pos len with h | h
      · subst h; simp at h0
      · exact h
    obtain ⟨b, off, spot⟩ := a
    have hc0 := hcell 0 (by omega)
    have hspot : spot = none := by simpa [Addr.add] using World.cell?_spot hc0
    subst hspot
    refine ⟨b, off, rfl, ?_, fun i hi => ?_⟩
    · have := World.block_lt_of_cell? W _ hc0
      simpa [Addr.add] using this
    · rw [hlen] at hi
      have hc := hcell i (by omega)
      have e : (⟨b, off, none⟩ : Addr).add i = ⟨b, off + i, none⟩ := by cases i <;> simp [Addr.add]
      rw [e] at hc
      rw [hc]
      have hi' : i < ss.length := by omega
      simp [List.getElem?_eq_getElem hi', List.getD, bx_of]

theorem ss_open {H : Type} {enc : TypeId × Value → H} {W : World} {base : Nat} {v : Value} {d : DataW H} {p : List MemPlace} (hv : Value.okWide Try.prog W .any base 22 v)
    (h : DataW.Trod enc Try.prog W 0 (fun _ => true) true 22 v d p) : ∃ l, Ss W v l := by
  obtain ⟨a1, len, cap, rfl⟩ := okWide_slice Try.underlying22 hv
  obtain ⟨fuel, hf⟩ := h
  obtain ⟨s, l, e, hs, _⟩ := ss_trod hf
  simp [Value.cells] at e
  subst e
  exact ⟨l, hs⟩
theorem ss_open2 {H : Type} {enc : TypeId × Value → H} {W : World} {base : Nat} {v : Value} {d : DataW H} {p : List MemPlace} (hv : Value.okWide Try.prog W .any base 22 v)
    (h : DataW.Trod enc Try.prog W 0 (fun _ => true) true 22 v d p) : ∃ l, Ss W v l ∧ ∀ n c, v = .slice none n c → c = 0 := by
  obtain ⟨a1, len, cap, rfl⟩ := okWide_slice Try.underlying22 hv
  obtain ⟨fuel, hf⟩ := h
  obtain ⟨s, l, e, hs, hn⟩ := ss_trod hf
  simp [Value.cells] at e
  subst e
  exact ⟨l, hs, hn⟩
end Go.Proofs.Ytghoajhfndnafaa
