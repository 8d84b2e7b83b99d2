/- Lists of calls on locks as arguments of the statements. -/
import Derived.Test.YtoipmdemicdhoaaQliv
import Derived.Test.YtoipmdemicdhoaaCarg
import Derived.ChangeArms
import Derived.DataReads
import Derived.ChangeMaps5

namespace Go.Proofs.Ytoipmdemicdhoaa
set_option maxRecDepth 100000
open Go.ChangeShapes Go.WideShapes Go.ChangeAt Go.RowKit

theorem Try.cellsIntQ : Try.prog.cellsOf 3 = 1 := by kernel_rfl
theorem Try.cellsBoolQ : Try.prog.cellsOf 4 = 1 := by kernel_rfl
theorem Try.cellsStrQ : Try.prog.cellsOf 9 = 1 := by kernel_rfl
theorem Try.cellsActQ : Try.prog.cellsOf 31 = 4 := by kernel_rfl

/-- A call of a list of calls. -/
structure QAc where
  fr : Bool
  who : Int
  key : ByteArray
  wr : Bool
/-- The call ac lies in block b from o on. -/
structure QAt (w : World) (b o : Nat) (ac : QAc) : Prop where
  fr : w.cell? ⟨b, o, none⟩ = some (.bool ac.fr)
  who : w.cell? ⟨b, o + 1, none⟩ = some (.int .i64 ac.who)
  key : w.cell? ⟨b, o + 2, none⟩ = some (.string ac.key)
  wr : w.cell? ⟨b, o + 3, none⟩ = some (.bool ac.wr)
  bw : -9223372036854775808 ≤ ac.who ∧ ac.who ≤ 9223372036854775807
theorem QAt.later {n : Nat} {w w' : World} {b o : Nat} {ac : QAc} (h : QAt w b o ac) (hb : Below n w w') (hl : b < n) : QAt w' b o ac :=
  ⟨(hb.cell (p := ⟨b, o, none⟩) hl).trans h.fr, (hb.cell (p := ⟨b, o + 1, none⟩) hl).trans h.who, (hb.cell (p := ⟨b, o + 2, none⟩) hl).trans h.key, (hb.cell (p := ⟨b, o + 3, none⟩) hl).trans h.wr, h.bw⟩
/-- The slice value s reads the calls l. -/
def QActs (w : World) (s : Value) (l : List QAc) : Prop :=
  ∃ a cap, s = .slice a l.length cap ∧ l.length ≤ 9223372036854775807 ∧ l.length ≤ cap ∧ (0 < l.length → ∃ b off, a = some ⟨b, off, none⟩ ∧ b < w.heap.size ∧ ∀ j ac, l[j]? = some ac → QAt w b (off + j * 4) ac)

theorem qact_cells {H : Type} {enc : TypeId × Value → H} {W : World} {n : Nat} {cs : List Value} {x : DataW H × List MemPlace} (h : DataW.trod enc Try.prog W 0 (fun _ => true) true n 31 cs = some x) (hl : cs.length = 4) :
    ∃ ac : QAc, cs = [.bool ac.fr, .int .i64 ac.who, .string ac.key, .bool ac.wr] ∧ (-9223372036854775808 ≤ ac.who ∧ ac.who ≤ 9223372036854775807) := by
  obtain ⟨xs, n', _, _, _, hxl, hf⟩ := DataW.trod_struct Try.underlying31 h
  match cs, hl with
  | [c0, c1, c2, c3], _ =>
    have hx5 : xs.length = 4 := by simpa using hxl
    have g : ∀ i, i < 4 → xs[i]? = some (xs[i]?.getD x) := fun i hi => by rw [List.getElem?_eq_getElem (by omega)]; rfl
    have f0 : DataW.trod enc Try.prog W 0 (fun _ => true) true n' 4 (List.take (Try.prog.cellsOf 4) (List.drop 0 [c0, c1, c2, c3])) = some _ := (hf 0 _ rfl).trans (g 0 (by decide))
    have f1 : DataW.trod enc Try.prog W 0 (fun _ => true) true n' 3 (List.take (Try.prog.cellsOf 3) (List.drop 1 [c0, c1, c2, c3])) = some _ := (hf 1 _ rfl).trans (g 1 (by decide))
    have f2 : DataW.trod enc Try.prog W 0 (fun _ => true) true n' 9 (List.take (Try.prog.cellsOf 9) (List.drop 2 [c0, c1, c2, c3])) = some _ := (hf 2 _ rfl).trans (g 2 (by decide))
    have f3 : DataW.trod enc Try.prog W 0 (fun _ => true) true n' 4 (List.take (Try.prog.cellsOf 4) (List.drop 3 [c0, c1, c2, c3])) = some _ := (hf 3 _ rfl).trans (g 3 (by decide))
    simp only [Try.cellsIntQ, Try.cellsBoolQ, Try.cellsStrQ, List.drop_zero, List.drop_succ_cons, List.take_succ_cons, List.take_zero] at f0 f1 f2 f3
    obtain ⟨n0, e0, _⟩ := DataW.trod_bool Try.underlying4 f0
    obtain ⟨n1, e1, _, w1⟩ := DataW.trod_int Try.underlying3 f1
    obtain ⟨n2, e2, _⟩ := DataW.trod_string Try.underlying9 f2
    obtain ⟨n3, e3, _⟩ := DataW.trod_bool Try.underlying4 f3
    simp only [List.cons.injEq, and_true] at e0 e1 e2 e3
    exact ⟨⟨n0, n1, n2, n3⟩, by rw [e0, e1, e2, e3], wf_bounds w1⟩

/-- A list of calls as an argument. -/
theorem qacts_open {H : Type} {enc : TypeId × Value → H} {W : World} {base : Nat} {v : Value} {d : DataW H} {p : List MemPlace} (hv : Value.okWide Try.prog W .any base 22 v)
    (h : DataW.Trod enc Try.prog W 0 (fun _ => true) true 22 v d p) : ∃ l, QActs W v l := by
  obtain ⟨a1, len, cap, rfl⟩ := okWide_slice Try.underlying22 hv
  obtain ⟨fuel, hf⟩ := h
  rcases DataW.trod_slice Try.underlying22 hf with ⟨hcs, _⟩ | ⟨a, len', cap', elems, rest, n, _, hcs, _, _, hl, hm, hlen, hel, _⟩
  · simp [Value.cells] at hcs
    obtain ⟨rfl, rfl, rfl⟩ := hcs
    exact ⟨[], none, 0, rfl, by simp, by simp, fun h => absurd h (by simp)⟩
  · simp [Value.cells] at hcs
    obtain ⟨rfl, rfl, rfl⟩ := hcs
    have hm' : cap ≤ 9223372036854775807 := by unfold maxLen at hm; omega
    obtain ⟨b, off, spot⟩ := a
    have els : ∀ j, j < len → ∃ cs x, W.cells? 0 ((⟨b, off, spot⟩ : Addr).add (j * 4)) 4 = some cs ∧ DataW.trod enc Try.prog W 0 (fun _ => true) true n 31 cs = some x := fun j hj => by
      have hE := hel j hj
      rw [Try.cellsActQ, List.getElem?_eq_getElem (by omega)] at hE
      simp only [Option.bind_eq_some_iff] at hE
      obtain ⟨cs, hcs, ht⟩ := hE
      exact ⟨cs, _, hcs, ht⟩
    rcases Nat.eq_zero_or_pos len with rfl | hpos
    · exact ⟨[], some ⟨b, off, spot⟩, cap, rfl, by simp, by simp, fun h => absurd h (by simp)⟩
    have hs : spot = none := by
      obtain ⟨cs, x, hcs, ht⟩ := els 0 hpos
      obtain ⟨_, hcl, hat⟩ := World.cells?_some hcs
      obtain ⟨ac, rfl, _⟩ := qact_cells ht hcl
      have at0 := hat 0 (by decide)
      simpa [Addr.add] using World.cell?_spot at0
    subst hs
    have one : ∀ j, j < len → ∃ ac : QAc, QAt W b (off + j * 4) ac := fun j hj => by
      obtain ⟨cs, x, hcs, ht⟩ := els j hj
      obtain ⟨_, hcl, hat⟩ := World.cells?_some hcs
      obtain ⟨ac, rfl, hk⟩ := qact_cells ht hcl
      have cell : ∀ k, k < 4 → W.cell? ⟨b, off + j * 4 + k, none⟩ = [Value.bool ac.fr, Value.int .i64 ac.who, Value.string ac.key, Value.bool ac.wr][k]? := fun k hk => by
        have := hat k hk
        rw [Addr.add_mid, Addr.add_mid] at this
        exact this
      exact ⟨ac, ⟨cell 0 (by decide), cell 1 (by decide), cell 2 (by decide), cell 3 (by decide), hk⟩⟩
    have hbl : b < W.heap.size := by
      obtain ⟨ac, ha⟩ := one 0 hpos
      exact World.block_lt_of_cell? W _ ha.fr
    have dflt : QAc := ⟨false, 0, ⟨#[]⟩, false⟩
    refine ⟨(List.range len).map fun j => if h : j < len then Classical.choose (one j h) else dflt, some ⟨b, off, none⟩, cap, by simp, by simp; omega, by simp; omega, fun _ => ⟨b, off, rfl, hbl, fun j ac hj => ?_⟩⟩
    have hjl : j < len := by
      have := (List.getElem?_eq_some_iff.1 hj).1
      simpa using this
    rw [List.getElem?_map, List.getElem?_range hjl] at hj
    simp only [Option.map_some, Option.some.injEq, dif_pos hjl] at hj
    rw [← hj]
    exact Classical.choose_spec (one j hjl)
end Go.Proofs.Ytoipmdemicdhoaa
