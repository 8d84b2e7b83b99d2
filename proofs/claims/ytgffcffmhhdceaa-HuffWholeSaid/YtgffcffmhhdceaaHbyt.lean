/- Bytes laid behind none: a row of the call's own. -/
import Derived.Test.YtgffcffmhhdceaaHlent
import Derived.Test.YtgffcffmhhdceaaArg
namespace Go.Proofs.Ytgffcffmhhdceaa
open Go.ChangeShapes Go.WideShapes Go.ChangeAt Go.RowKit Go.Joins

theorem bytes_run (w : World) (a : Option Addr) (len cap : Nat) (bs : List Nat) (ty : TypeId) (hs : Sl w (.slice a len cap) bs) (hl : len ≤ 140737488351232) :
    ∃ g capn w', (Builtin.append_ #[34, 34] ty #[.slice (some ⟨w.heap.size, 0, none⟩) 0 0, .slice a len cap]).run Try.prog (w.alloc (.cells #[] 5)) = .ok (.slice (some ⟨g, 0, none⟩) len capn) w' ∧
      Sl w' (.slice (some ⟨g, 0, none⟩) len capn) bs ∧ Below w.heap.size w w' := by
  obtain ⟨i0, hi, hz0, hz1, hz2⟩ := info_parts Try.infoU8
  have hb := below1 w (.cells #[] 5)
  have hown := World.ownsRow_lit (base := w.heap.size) (e := 5) (size := 1) w #[] 0 (Nat.le_refl _) (by unfold maxLen; omega) rfl
  have hs1 := hs.later hb
  obtain ⟨g, capn, w', hrun, hown', hgrow⟩ := run_append_mine (P := Try.prog) (w := w.alloc (.cells #[] 5)) w.heap.size 34 ty 5 i0 (.int .u8 0) 1 1 Try.underlying34 hi hz0 hz1 hz2 rfl (by decide)
    w.heap.size 0 0 [] hown a len cap (vb bs) (by rw [vb_length]; have := hs.len.1; omega) hs.len.2.2 (fun h0 => hs1.cells h0) (oneCell_vb _) (by unfold maxLen; omega) (by omega) (by simp)
  have HB : Below w.heap.size w w' := (hb.mono (Nat.le_refl _)).grown hgrow (by simp) (fun k e => by cases e; exact Nat.le_refl _)
  rw [Nat.zero_add, List.nil_append] at hown'
  rw [Nat.zero_add] at hrun
  exact ⟨g, capn, w', hrun, own_sl hown' hs.facts.1 (by omega), HB⟩
theorem bytes_open {H : Type} {enc : TypeId × Value → H} {W : World} {base : Nat} {v : Value} {d : DataW H} {p : List MemPlace} (hv : Value.okWide Try.prog W .any base 34 v)
    (h : DataW.Trod enc Try.prog W 0 (fun _ => true) true 34 v d p) (hw : ∀ n ∈ d.weights Try.prog 34, n ≤ reachBytes) :
    ∃ bs, Sl W v bs ∧ bs.length ≤ 140737488351232 := by
  obtain ⟨a1, len, cap, rfl⟩ := okWide_slice Try.underlying34 hv
  obtain ⟨fuel, hf⟩ := h
  obtain ⟨s, bs, e, hs, hl⟩ := sl_open hf hw
  simp [Value.cells] at e
  subst e
  exact ⟨bs, hs, hl⟩
end Go.Proofs.Ytgffcffmhhdceaa
