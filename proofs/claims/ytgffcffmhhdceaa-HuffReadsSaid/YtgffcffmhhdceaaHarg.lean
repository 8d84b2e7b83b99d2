/- How a slice of numbers that came in reads; what the statements' own makes. -/
import Derived.Test.YtgffcffmhhdceaaHlives
import Derived.Test.YtgffcffmhhdceaaArg
namespace Go.Proofs.Ytgffcffmhhdceaa
open Go.ChangeShapes Go.WideShapes Go.ChangeAt Go.RowKit Go.Joins

theorem Try.cellsInt : Try.prog.cellsOf 3 = 1 := by kernel_rfl
theorem Try.bytesInt : Try.prog.bytesOf 3 = 8 := by kernel_rfl

theorem Zl.nil (w : World) : Zl w (.slice none 0 0) [] := ⟨none, 0, 0, rfl, rfl, by omega, fun _ => ⟨rfl, rfl⟩, fun h => absurd h (by omega)⟩

theorem zl_open {H : Type} {enc : TypeId × Value → H} {W : World} {fuel : Nat} {cs : List Value} {x : DataW H × List MemPlace}
    (h : DataW.trod enc Try.prog W 0 (fun _ => true) true fuel 22 cs = some x) (hw : ∀ n ∈ x.1.weights Try.prog 22, n ≤ reachBytes) :
    ∃ s zs, cs = [s] ∧ Zl W s zs ∧ zs.length ≤ 17592186043904 := by
  rcases open_ints Try.underlying22 Try.underlying3 Try.cellsInt h with ⟨rfl, rfl⟩ | ⟨a, len, cap, zs, rfl, _, hl, hm, hz, rfl, hcell, hwz⟩
  · exact ⟨_, [], rfl, Zl.nil W, by simp⟩
  · have hz' : zs.length = cap := by simpa using hz
    have hr : cap * 8 ≤ 140737488351232 := by
      have := hw (cap * 8) (by
        simp only [DataW.weights, Try.underlying22, Try.bytesInt]
        simp [lits, hz']
        left
        omega)
      unfold reachBytes at this
      omega
    refine ⟨_, zs.take len, rfl, ⟨some a, len, cap, rfl, by simp; omega, by omega, fun h => by simp at h, fun h0 => ?_⟩, by simp; omega⟩
    obtain ⟨b, off, spot⟩ := a
    have hc0 := hcell 0 (by omega)
    have hspot : spot = none := by simpa [Addr.add] using World.cell?_spot hc0
    subst hspot
    refine ⟨b, off, rfl, ?_, fun i hi => ?_⟩
    · have := World.block_lt_of_cell? W _ hc0
      simpa [Addr.add] using this
    · have hc := hcell i (by omega)
      have e : (⟨b, off, none⟩ : Addr).add i = ⟨b, off + i, none⟩ := by cases i <;> simp [Addr.add]
      rw [e] at hc
      rw [hc]
      have hi' : i < zs.length := by omega
      simp [hi, List.getElem?_eq_getElem hi', List.getD]

/-- A slice of numbers as an argument. -/
theorem ints_open {H : Type} {enc : TypeId × Value → H} {W : World} {base : Nat} {v : Value} {d : DataW H} {p : List MemPlace} (hv : Value.okWide Try.prog W .any base 22 v)
    (h : DataW.Trod enc Try.prog W 0 (fun _ => true) true 22 v d p) (hw : ∀ n ∈ d.weights Try.prog 22, n ≤ reachBytes) :
    ∃ zs, Zl W v zs ∧ zs.length ≤ 17592186043904 := by
  obtain ⟨a1, len, cap, rfl⟩ := okWide_slice Try.underlying22 hv
  obtain ⟨fuel, hf⟩ := h
  obtain ⟨s, zs, e, hs, hl⟩ := zl_open hf hw
  simp [Value.cells] at e
  subst e
  exact ⟨zs, hs, hl⟩

/-- What own leaves: the same numbers, in memory of their own. -/
def OwnI (w : World) (zs : List Int) (e : Ending) (w' : World) : Prop :=
  ∃ g cap, e = .returned (.slice (some ⟨g, 0, none⟩) zs.length cap) ∧ w'.ownsRow w.heap.size 3 1 (.slice (some ⟨g, 0, none⟩) zs.length cap) zs.length (zs.map (Value.int .i64)) ∧ Below w.heap.size w w'

theorem zl_own {w : World} {base g cap n : Nat} {zs : List Int} (h : w.ownsRow base 3 1 (.slice (some ⟨g, 0, none⟩) n cap) n (zs.map (Value.int .i64))) (hn : n = zs.length) (h2 : n ≤ 17592186044416) : Zl w (.slice (some ⟨g, 0, none⟩) n cap) zs := by
  refine ⟨_, n, cap, rfl, hn, h2, fun h => by simp at h, fun h0 => ⟨g, 0, rfl, ?_, fun i hi => ?_⟩⟩
  · have := h.cellAt 0 (by omega)
    rw [List.getElem?_eq_getElem (by rw [List.length_map]; omega)] at this
    exact World.block_lt_of_cell? w _ this
  · rw [Nat.zero_add, h.cellAt i (by omega)]
    have : i < zs.length := by omega
    simp [this]

/-- An append whose run is known. -/
theorem wpList_append_known {P : Program} {w : World} {ops : Array Oper} {rest : List Oper} {o : Oper} {a : Act} {Q : Exit → Act → World → Prop} (hgd : o.guard = none) (s x : Operand) (t : TypeId)
    (hop : o.op = Op.call { callee := Callee.builtin Builtin.append, args := #[s, x], argTypes := #[t, t] }) (S X v : Value) (w' : World) (hs : a.eval s = S) (hx : a.eval x = X)
    (hrun : (Builtin.append_ #[t, t] o.type #[S, X]).run P w = .ok v w') (h : wpList P ops Q rest (a.put o.dst v) w') : wpList P ops Q (o :: rest) a w :=
  wpList_plain hgd fun K hK => by
    unfold Oper.wp
    simp [execOp, hop, resolve, invoke, builtin, hs, hx, hrun, Result.andThen]
    exact hK _ _ h

set_option maxHeartbeats 1000000 in
theorem own_any (zs : List Int) (s : Value) (w : World) (hz : Zl w s zs) (hl : zs.length ≤ 17592186043904) : Calls Try.prog 10 #[s] w (OwnI w zs) := by
  obtain ⟨a, len, cap, rfl, h1, h2, h3, h4⟩ := hz
  obtain ⟨i0, hi, hz0, hz1, hz2⟩ := info_parts Try.infoInt
  have hb := below1 w (.cells #[] 3)
  have hown := World.ownsRow_lit (base := w.heap.size) (e := 3) (size := 1) w #[] 0 (Nat.le_refl _) (by unfold maxLen; omega) rfl
  obtain ⟨g, capn, w', hrun, hown', hgrow⟩ := run_append_mine (P := Try.prog) (w := w.alloc (.cells #[] 3)) w.heap.size 22 22 3 i0 (.int .i64 0) 1 8 Try.underlying22 hi hz0 hz1 hz2 rfl (by decide)
    w.heap.size 0 0 [] hown a len cap (zs.map (Value.int .i64)) (by rw [List.length_map]; omega) h3
    (fun h0 => by
      obtain ⟨b, off, rfl, hlt, hc⟩ := h4 h0
      refine ⟨_, rfl, fun j u hj => ?_⟩
      have e : (⟨b, off, none⟩ : Addr).add j = ⟨b, off + j, none⟩ := by cases j <;> simp [Addr.add]
      have hjl : j < zs.length := by
        have := (List.getElem?_eq_some_iff.1 hj).1
        rwa [List.length_map] at this
      rw [e, hb.cell (p := ⟨b, off + j, none⟩) hlt, hc j (by omega)]
      rw [List.getElem?_map, List.getElem?_eq_getElem hjl] at hj
      rw [List.getElem?_eq_getElem hjl]
      simpa using hj)
    (fun u hu => by simp only [List.mem_map] at hu; obtain ⟨x, _, rfl⟩ := hu; rfl) (by unfold maxLen; omega) (by omega) (by simp)
  have HB : Hid (Below w.heap.size w w') := (hb.mono (Nat.le_refl _)).grown hgrow (by simp) (fun k e => by cases e; exact Nat.le_refl _)
  have e0 : 0 + len = zs.length := by omega
  rw [e0, List.nil_append] at hown'
  rw [e0] at hrun
  have HO := Lib.hid hown'
  clear h1 h4 hown hown' hgrow hb h3 hi e0
  go_enter Try.func10, Try.ntmps10
  have HRUN := Lib.hid hrun
  clear hrun
  go_wp2_with (at_builtin; refine wpList_append_known rfl _ _ 22 rfl _ _ _ _ rfl rfl HRUN.out ?_)
  go_ret
  exact ⟨g, capn, rfl, HO.out, HB.out⟩
end Go.Proofs.Ytgffcffmhhdceaa
