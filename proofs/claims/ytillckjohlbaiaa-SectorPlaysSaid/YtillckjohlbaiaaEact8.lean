/- A list of calls as an argument, with the reach of what each keeps; numbers appended to none. -/
import Derived.Test.YtillckjohlbaiaaEact
import Derived.Test.YtillckjohlbaiaaAppm
import Derived.Test.YtillckjohlbaiaaErep
import Derived.ChangeMaps5

namespace Go.Proofs.Ytillckjohlbaiaa
set_option maxRecDepth 100000
open Go.ChangeShapes Go.WideShapes Go.ChangeAt Go.RowKit Go.Joins

theorem Try.bytesInt : Try.prog.bytesOf 3 = 8 := by kernel_rfl
theorem weightsAll_mem {H : Type} {P : Program} {e : TypeId} (l : List (DataW H)) (j : Nat) (hj : j < l.length) : ∀ m ∈ l[j].weights P e, m ∈ DataW.weightsAll P e l := by
  induction l generalizing j with
  | nil => simp at hj
  | cons d l ih =>
    intro m hm
    simp only [DataW.weightsAll, List.mem_append]
    cases j with
    | zero => exact Or.inl hm
    | succ j => exact Or.inr (ih j (by simpa using hj) m (by simpa using hm))
/-- A call's numbers take no more bytes than there are, and where there is no list it has no room. -/
def Ks8 (ac : Ac) : Prop := ac.keep.length * 8 ≤ 140737488351232 ∧ ∀ n c, ac.kv = .slice none n c → c = 0
theorem ks_trod8 {H : Type} {enc : TypeId × Value → H} {W : World} {fuel : Nat} {cs : List Value} {x : DataW H × List MemPlace}
    (h : DataW.trod enc Try.prog W 0 (fun _ => true) true fuel 46 cs = some x) (hw : ∀ m ∈ x.1.weights Try.prog 46, m ≤ reachBytes) : ∃ s ks, cs = [s] ∧ Ks W s ks ∧ ks.length * 8 ≤ 140737488351232 ∧ ∀ n c, s = .slice none n c → c = 0 := by
  obtain ⟨s, ks, e, hk⟩ := ks_trod h
  refine ⟨s, ks, e, hk, ?_⟩
  obtain ⟨a, cap, rfl, h1, h2, h3⟩ := hk
  rcases open_ints Try.underlying46 Try.underlying3 Try.cellsInt h with ⟨rfl, rfl⟩ | ⟨a', len, cap', zs, rfl, _, hl, hm, hz, rfl, hcell, hwz⟩
  · simp only [List.cons.injEq, and_true, Value.slice.injEq] at e
    obtain ⟨e1, e2, e3⟩ := e
    exact ⟨by omega, fun n c hs => by injection hs with _ _ q; omega⟩
  · simp only [List.cons.injEq, and_true, Value.slice.injEq] at e
    obtain ⟨e1, e2, e3⟩ := e
    have hz' : zs.length = cap' := by simpa using hz
    have := hw (cap' * 8) (by
      simp only [DataW.weights, Try.underlying46, Try.bytesInt]
      simp [lits, hz']
      left
      omega)
    unfold reachBytes at this
    exact ⟨by omega, fun n c hs => by injection hs with q _ _; rw [← e1] at q; cases q⟩

theorem act_cells8 {H : Type} {enc : TypeId × Value → H} {W : World} {n : Nat} {cs : List Value} {x : DataW H × List MemPlace} (h : DataW.trod enc Try.prog W 0 (fun _ => true) true n 48 cs = some x) (hl : cs.length = 5) (hw : ∀ m ∈ x.1.weights Try.prog 48, m ≤ reachBytes) :
    ∃ ac : Ac, cs = [.int .i64 ac.kind, .int .i64 ac.i, .int .u8 (ac.c : Int), .int .i64 ac.long, ac.kv] ∧ Ks W ac.kv ac.keep ∧ ac.c < 256 ∧ (-9223372036854775808 ≤ ac.i ∧ ac.i ≤ 9223372036854775807) ∧ (-9223372036854775808 ≤ ac.kind ∧ ac.kind ≤ 9223372036854775807) ∧ (-9223372036854775808 ≤ ac.long ∧ ac.long ≤ 9223372036854775807) ∧ Ks8 ac := by
  obtain ⟨xs, n', _, hxd, _, hxl, hf⟩ := DataW.trod_struct Try.underlying48 h
  match cs, hl with
  | [c0, c1, c2, c3, c4], _ =>
    have hx5 : xs.length = 5 := by simpa using hxl
    have g : ∀ i, i < 5 → xs[i]? = some (xs[i]?.getD x) := fun i hi => by rw [List.getElem?_eq_getElem (by omega)]; rfl
    have f0 : DataW.trod enc Try.prog W 0 (fun _ => true) true n' 3 (List.take (Try.prog.cellsOf 3) (List.drop 0 [c0, c1, c2, c3, c4])) = some _ := (hf 0 _ rfl).trans (g 0 (by decide))
    have f1 : DataW.trod enc Try.prog W 0 (fun _ => true) true n' 3 (List.take (Try.prog.cellsOf 3) (List.drop 1 [c0, c1, c2, c3, c4])) = some _ := (hf 1 _ rfl).trans (g 1 (by decide))
    have f2 : DataW.trod enc Try.prog W 0 (fun _ => true) true n' 5 (List.take (Try.prog.cellsOf 5) (List.drop 2 [c0, c1, c2, c3, c4])) = some _ := (hf 2 _ rfl).trans (g 2 (by decide))
    have f3 : DataW.trod enc Try.prog W 0 (fun _ => true) true n' 3 (List.take (Try.prog.cellsOf 3) (List.drop 3 [c0, c1, c2, c3, c4])) = some _ := (hf 3 _ rfl).trans (g 3 (by decide))
    have f4 : DataW.trod enc Try.prog W 0 (fun _ => true) true n' 46 (List.take (Try.prog.cellsOf 46) (List.drop 4 [c0, c1, c2, c3, c4])) = some _ := (hf 4 _ rfl).trans (g 4 (by decide))
    simp only [Try.cellsInt, Try.cellsInts, Try.cellsU8, List.drop_zero, List.drop_succ_cons, List.take_succ_cons, List.take_zero] at f0 f1 f2 f3 f4
    obtain ⟨n0, e0, _, w0⟩ := DataW.trod_int Try.underlying3 f0
    obtain ⟨n1, e1, _, w1⟩ := DataW.trod_int Try.underlying3 f1
    obtain ⟨n2, e2, _, w2⟩ := DataW.trod_int Try.underlying5 f2
    obtain ⟨n3, e3, _, w3⟩ := DataW.trod_int Try.underlying3 f3
    obtain ⟨kv, ks, e4, hks, hk8, hkn⟩ := ks_trod8 f4 (fun m hm => hw m (by
      rw [hxd]
      simp only [DataW.weights, Try.underlying48]
      exact DataW.weights_mem_each (j := 4) rfl (by rw [List.getElem?_map, g 4 (by decide)]; rfl) m hm))
    simp only [List.cons.injEq, and_true] at e0 e1 e2 e3 e4
    have b2 := wf_u8 w2
    exact ⟨⟨n0, n1, n2.toNat, n3, kv, ks⟩, by rw [e0, e1, e2, e3, e4, show ((n2.toNat : Nat) : Int) = n2 by omega], hks, by show n2.toNat < 256; omega, wf_bounds w1, wf_bounds w0, wf_bounds w3, hk8, hkn⟩

theorem acts_open8 {H : Type} {enc : TypeId × Value → H} {W : World} {base : Nat} {v : Value} {d : DataW H} {p : List MemPlace} (hv : Value.okWide Try.prog W .any base 33 v)
    (h : DataW.Trod enc Try.prog W 0 (fun _ => true) true 33 v d p) (hw : ∀ m ∈ d.weights Try.prog 33, m ≤ reachBytes) : ∃ l, Acts W v l ∧ ∀ ac ∈ l, Ks8 ac := by
  obtain ⟨a1, len, cap, rfl⟩ := okWide_slice Try.underlying33 hv
  obtain ⟨fuel, hf⟩ := h
  rcases DataW.trod_slice Try.underlying33 hf with ⟨hcs, _⟩ | ⟨a, len', cap', elems, rest, n, _, hcs, hxd, _, hl, hm, hlen, hel, _⟩
  · simp [Value.cells] at hcs
    obtain ⟨rfl, rfl, rfl⟩ := hcs
    exact ⟨[], ⟨none, 0, rfl, by simp, fun h => absurd h (by simp)⟩, by simp⟩
  · simp [Value.cells] at hcs
    obtain ⟨rfl, rfl, rfl⟩ := hcs
    have hm' : cap ≤ 9223372036854775807 := by unfold maxLen at hm; omega
    obtain ⟨b, off, spot⟩ := a
    have hd : d = .slice (elems.map (·.1)) (rest.map (·.1)) := congrArg Prod.fst hxd
    have hwe : ∀ j, (hj : j < elems.length) → ∀ m ∈ elems[j].1.weights Try.prog 48, m ≤ reachBytes := fun j hj m hm => hw m (by
      rw [hd]
      simp only [DataW.weights, Try.underlying33]
      refine List.mem_cons_of_mem _ (List.mem_append.2 (Or.inl (weightsAll_mem (elems.map (·.1)) j (by simpa using hj) m ?_)))
      simpa using hm)
    have els : ∀ j, j < len → ∃ cs x, W.cells? 0 ((⟨b, off, spot⟩ : Addr).add (j * 5)) 5 = some cs ∧ DataW.trod enc Try.prog W 0 (fun _ => true) true n 48 cs = some x ∧ ∀ m ∈ x.1.weights Try.prog 48, m ≤ reachBytes := fun j hj => by
      have hE := hel j hj
      rw [Try.cellsAct, List.getElem?_eq_getElem (by omega)] at hE
      simp only [Option.bind_eq_some_iff] at hE
      obtain ⟨cs, hcs, ht⟩ := hE
      exact ⟨cs, _, hcs, ht, hwe j (by omega)⟩
    rcases Nat.eq_zero_or_pos len with rfl | hpos
    · exact ⟨[], ⟨some ⟨b, off, spot⟩, cap, rfl, by simp, fun h => absurd h (by simp)⟩, by simp⟩
    have hs : spot = none := by
      obtain ⟨cs, x, hcs, ht, hw8⟩ := els 0 hpos
      obtain ⟨_, hcl, hat⟩ := World.cells?_some hcs
      obtain ⟨ac, rfl, _⟩ := act_cells8 ht hcl hw8
      have at0 := hat 0 (by decide)
      simpa [Addr.add] using World.cell?_spot at0
    subst hs
    have one : ∀ j, j < len → ∃ ac : Ac, AcAt W b (off + j * 5) ac ∧ Ks8 ac := fun j hj => by
      obtain ⟨cs, x, hcs, ht, hw8⟩ := els j hj
      obtain ⟨_, hcl, hat⟩ := World.cells?_some hcs
      obtain ⟨ac, rfl, hk, h8, hi, hkd, hlg, hk8⟩ := act_cells8 ht hcl hw8
      have cell : ∀ k, k < 5 → W.cell? ⟨b, off + j * 5 + k, none⟩ = [Value.int .i64 ac.kind, .int .i64 ac.i, .int .u8 (ac.c : Int), .int .i64 ac.long, ac.kv][k]? := fun k hk => by
        have := hat k hk
        rw [Addr.add_mid, Addr.add_mid] at this
        exact this
      exact ⟨ac, ⟨cell 0 (by decide), cell 1 (by decide), cell 2 (by decide), cell 3 (by decide), cell 4 (by decide), hk, h8, hi, hkd, hlg⟩, hk8⟩
    have dflt : Ac := ⟨0, 0, 0, 0, .slice none 0 0, []⟩
    obtain ⟨f, hf1, hf2⟩ : ∃ f : Nat → Ac, (∀ j, j < len → AcAt W b (off + j * 5) (f j)) ∧ ∀ j, j < len → Ks8 (f j) :=
      ⟨fun j => if h : j < len then Classical.choose (one j h) else dflt, fun j hj => by simp only [dif_pos hj]; exact (Classical.choose_spec (one j hj)).1, fun j hj => by simp only [dif_pos hj]; exact (Classical.choose_spec (one j hj)).2⟩
    refine ⟨(List.range len).map f, ⟨some ⟨b, off, none⟩, cap, by simp, by simp; omega, fun _ => ⟨b, off, rfl, fun j ac hj => ?_⟩⟩, fun ac hac => ?_⟩
    · have hjl : j < len := by
        have := (List.getElem?_eq_some_iff.1 hj).1
        simpa using this
      rw [List.getElem?_map, List.getElem?_range hjl] at hj
      simp only [Option.map_some, Option.some.injEq] at hj
      rw [← hj]
      exact hf1 j hjl
    · simp only [List.mem_map, List.mem_range] at hac
      obtain ⟨j, hj, rfl⟩ := hac
      exact hf2 j hj

theorem ints_run (wb : World) (base g0 : Nat) (ho : wb.ownsRow base 3 1 (.slice (some ⟨g0, 0, none⟩) 0 0) 0 []) (hb : base ≤ wb.heap.size) (ka : Option Addr) (kn kc : Nat) (ks : List Int) (hk : Ks wb (.slice ka kn kc) ks) (h8 : ks.length * 8 ≤ 140737488351232) (hn : ka = none → kc = 0) :
    ∃ g capn w', (Builtin.append_ #[46, 46] 46 #[.slice (some ⟨g0, 0, none⟩) 0 0, .slice ka kn kc]).run Try.prog wb = .ok (.slice (some ⟨g, 0, none⟩) kn capn) w' ∧ Ks w' (.slice (some ⟨g, 0, none⟩) kn capn) ks ∧ wb.grownBy w' (some g0) ∧ base ≤ g := by
  obtain ⟨i0, hi, hz0, hz1, hz2⟩ := info_parts Try.infoInt
  obtain ⟨a, cap, e, h1, h2, h3⟩ := hk
  injection e with e1 e2 e3
  subst e1 e2 e3
  obtain ⟨g, capn, w', hrun, hown, hgrow⟩ := run_append_mine (P := Try.prog) (w := wb) base 46 46 3 i0 _ 1 8 Try.underlying46 hi hz0 hz1 hz2 rfl (by decide)
    g0 0 0 [] ho ka ks.length kc (ks.map fun z => .int .i64 z) (by simp) (fun e => ⟨by
      by_cases h0 : 0 < ks.length
      · obtain ⟨b, off, e2, _⟩ := h3 h0
        rw [e] at e2; cases e2
      · omega, hn e⟩) (fun h0 => by
      obtain ⟨b, off, e2, hc⟩ := h3 h0
      refine ⟨⟨b, off, none⟩, e2, fun j u hj => ?_⟩
      have hjl : j < ks.length := by have := (List.getElem?_eq_some_iff.1 hj).1; simpa using this
      rw [Addr.add_mid, hc j hjl]
      rw [List.getElem?_map, List.getElem?_eq_getElem hjl] at hj
      simp only [Option.map_some, Option.some.injEq] at hj
      rw [← hj]
      simp [List.getElem?_eq_getElem hjl]) (fun u hu => by simp only [List.mem_map] at hu; obtain ⟨x, _, rfl⟩ := hu; rfl) (by unfold maxLen; omega) (by omega) hb
  rw [Nat.zero_add] at hrun hown
  rw [List.nil_append] at hown
  refine ⟨g, capn, w', hrun, ⟨some ⟨g, 0, none⟩, capn, rfl, h1, h2, fun h0 => ⟨g, 0, rfl, fun i hi => ?_⟩⟩, hgrow, (hown.lt g rfl).1⟩
  rw [Nat.zero_add, hown.cellAt i (by omega), List.getElem?_map, List.getElem?_eq_getElem hi]
  simp
end Go.Proofs.Ytillckjohlbaiaa
