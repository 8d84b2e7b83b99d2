/- Contract of sector.Copy. -/
import Derived.Test.YtillckjohlbaiaaEall
import Derived.Shelf.SlMaps.Clone

namespace Go.Proofs.Ytillckjohlbaiaa
set_option maxRecDepth 100000
open Go.RowKit

set_option maxHeartbeats 2000000 in
theorem clone_sure (w : World) (bm : Nat) (es : Array MapEntry) (clock : Nat) (hb : w.heap[bm]? = some (.map es clock)) :
    Calls Try.prog 88 #[.map (some bm)] w fun e w' => e = .returned (.map (some w.heap.size)) ∧ w' = w.alloc (.map es clock) := by
  have hq := fun w => run_eql_map_nil_sl (P := Try.prog) w 92 _ _ (some bm) Try.underlying92
  go_enter Try.func88, Try.ntmps88
  go_wp2
  rw [run_callFunc_extern Try.func112 (by kernel_rfl) (by kernel_rfl) (by kernel_rfl) (e := Extern.MapsClone.clone) (by kernel_rfl), run_maps_clone_sl w 92 hb]
  simp only [Result.andThen]
  rw [Oper.upon_value]
  go_wp2
  rw [run_typeAssert_map_sl _ 92 _ _ _ _ Try.underlying92]
  simp only [Result.andThen]
  rw [Oper.upon_value]
  go_wp2
  go_ret
  exact ⟨rfl, rfl⟩
set_option maxHeartbeats 2000000 in
theorem clone_last (w : World) (bm : Nat) (es : Array MapEntry) (clock : Nat) (hb : w.heap[bm]? = some (.map es clock)) :
    Calls Try.prog 90 #[.map (some bm)] w fun e w' => e = .returned (.map (some w.heap.size)) ∧ w' = w.alloc (.map es clock) := by
  have hq := fun w => run_eql_map_nil_sl (P := Try.prog) w 93 _ _ (some bm) Try.underlying93
  go_enter Try.func90, Try.ntmps90
  go_wp2
  rw [run_callFunc_extern Try.func112 (by kernel_rfl) (by kernel_rfl) (by kernel_rfl) (e := Extern.MapsClone.clone) (by kernel_rfl), run_maps_clone_sl w 93 hb]
  simp only [Result.andThen]
  rw [Oper.upon_value]
  go_wp2
  rw [run_typeAssert_map_sl _ 93 _ _ _ _ Try.underlying93]
  simp only [Result.andThen]
  rw [Oper.upon_value]
  go_wp2
  go_ret
  exact ⟨rfl, rfl⟩

theorem eql_nil_writes (w : World) (a : Option Addr) (l c : Nat) : (binOp .eql 94 (.slice a l c) (.slice none 0 0)).run Try.prog w = .ok (.bool a.isNone) w := by
  simp only [binOp]
  simp [run_equal_slice_nil w 94 115 a l c Try.underlying94]

/-- What slices.Clone leaves: a list of its own. -/
def ClPost (w : World) (l : List (Nat × List Nat)) (e : Ending) (w' : World) : Prop :=
  ∃ v, e = .returned v ∧ w'.ownsRow w.heap.size 115 513 v l.length (vws l) ∧ Below w.heap.size w w'

set_option maxHeartbeats 2000000 in
theorem clone_loose (w : World) (lo : Value) (l : List (Nat × List Nat)) (h : w.ownsRow 0 115 513 lo l.length (vws l)) (hl : l.length ≤ 1000000) (hr : ∀ p ∈ l, Row p.2) :
    Calls Try.prog 89 #[lo] w (ClPost w l) := by
  rcases h.2 with ⟨rfl, h0⟩ | ⟨g, cap, cur, rfl, hb, hg, hc1, hc2, hc3, hc4⟩
  · have hl0 : l = [] := List.eq_nil_of_length_eq_zero h0
    have HP : Hid (ClPost w l (.returned (.slice none 0 0)) w) := ⟨_, rfl, by rw [hl0]; exact ⟨rfl, Or.inl ⟨rfl, rfl⟩⟩, Below.refl _ _⟩
    have hnil : ∀ W, (binOp .eql 94 (.slice none 0 0) (.slice none 0 0)).run Try.prog W = .ok (.bool true) W := fun W => eql_nil_writes W none 0 0
    clear h h0 hl0 hl hr
    go_enter Try.func89, Try.ntmps89
    go_wp2_with fail
    go_ret
    exact HP.out
  · have hb1 := below1 w (.cells #[] 115)
    have hx := Has.new w (.cells #[] 115)
    have hown : (w.alloc (.cells #[] 115)).ownsRow w.heap.size 115 513 (.slice (some ⟨w.heap.size, 0, none⟩) 0 0) 0 [] := ⟨rfl, Or.inr ⟨w.heap.size, 0, #[], rfl, Nat.le_refl _, hx, Nat.le_refl _, by unfold maxLen; omega, by simp, by simp⟩⟩
    have hg1 : Has (w.alloc (.cells #[] 115)) g (.cells cur 115 (0, 0)) := (show Has w g _ from hg).later hb1
    obtain ⟨i0, hi, hz0, hz1, hz2⟩ := info_parts Try.infoWrite
    obtain ⟨v', w', hrun, ho2, hg2, _, _⟩ := run_append_own_at (P := Try.prog) (w := w.alloc (.cells #[] 115)) w.heap.size 94 94 115 i0 _ 513 520 Try.underlying94 hi hz0 hz1 hz2 (by simp [Value.cells, vw_length _ _ zrow_length]) (by decide) _ 0 [] hown ⟨g, 0, none⟩ l.length cap (vws l) (vws_length l hr)
      (fun j u hj => by
        rw [Addr.add_mid, Nat.zero_add, hg1.cell, ← Array.getElem?_toList]
        have hjl := (List.getElem?_eq_some_iff.1 hj).1
        rw [vws_length l hr] at hjl
        rw [← hc4, List.getElem?_take_of_lt hjl] at hj
        exact hj)
      (fun v hv => by
        simp only [vws, List.mem_flatMap] at hv
        obtain ⟨p, _, hp⟩ := hv
        exact oneCell_vw _ _ v hp) (by unfold maxLen; omega) (by omega) hb1.size
    rw [Nat.zero_add] at ho2
    rw [List.nil_append] at ho2
    have HP : Hid (ClPost w l (.returned v') w') := ⟨v', rfl, ho2, hb1.grown hg2 hb1.size (fun q e => (hown.lt q e).1)⟩
    have HRUN := Lib.hid hrun
    have hnil : ∀ W, (binOp .eql 94 (.slice (some ⟨g, 0, none⟩) l.length cap) (.slice none 0 0)).run Try.prog W = .ok (.bool false) W := fun W => eql_nil_writes W _ _ _
    generalize l.length = m at HRUN hnil
    clear h hb hg hc1 hc2 hc3 hc4 hb1 hx hown hg1 hi hz0 hz1 hz2 hrun ho2 hg2 hl
    go_enter Try.func89, Try.ntmps89
    go_wp2_with (refine wpList_run rfl (exec_append (.tmp 5) (.tmp 6) 94 rfl _ _ _ rfl rfl HRUN.out) ?_)
    go_ret
    exact HP.out

/-- What Copy leaves: another disk alike, in memory of its own. -/
def CpPost (w : World) (d : Ek.Dk) (e : Ending) (w' : World) : Prop :=
  ∃ b S, e = .returned (.pointer (some ⟨b, 0, none⟩)) ∧ Dsk w' S b d ∧ (∀ k, S k → w.heap.size ≤ k ∧ k < w'.heap.size) ∧ Below w.heap.size w w'

/-- The copy, put together. -/
theorem copy_end {w wD : World} {d : Ek.Dk} {C bA bB : Nat} {v : Value} {ns : Nat} {lo0 m1 m3 : Value} {fs : Nat → Option Value} (hok : Ek.Ok d) (hb : Below w.heap.size w wD)
    (hC : Has wD C (.cells #[.int .i64 (d.n : Int), m1, lo0, m3, .int .i64 d.left, .bool d.dark] 96 (0, 0))) (hA : Mp wD bA ns fs) (hfs : ∀ i, fs i = some (.agg (vb (d.sure i)).toArray) ∨ (fs i = none ∧ d.sure i = zrow))
    (hB : Mp wD bB d.loose.length (fun i => (Ek.lastOf d.loose i).map fun (k : Nat) => Value.int .i64 (k : Int))) (ho : wD.ownsRow w.heap.size 115 513 v d.loose.length (vws d.loose)) (hCw : w.heap.size ≤ C) (hAw : w.heap.size ≤ bA) (hBw : w.heap.size ≤ bB) (hAB : bA ≠ bB) :
    CpPost w d (.returned (.pointer (some ⟨C, 0, none⟩))) (((wD.setCell ⟨C, 1, none⟩ (.map (some bA))).setCell ⟨C, 2, none⟩ v).setCell ⟨C, 3, none⟩ (.map (some bB))) := by
  have e1 := hC.setSelf (i := 1) (.map (some bA))
  have e2 := e1.setSelf (i := 2) v
  have e3 := e2.setSelf (i := 3) (.map (some bB))
  have nA := hA.ne_has hC
  have nB := hB.ne_has hC
  have nv := own_ne_has ho hC (by decide)
  have same : ∀ k, k ≠ C → (((wD.setCell ⟨C, 1, none⟩ (.map (some bA))).setCell ⟨C, 2, none⟩ v).setCell ⟨C, 3, none⟩ (.map (some bB))).heap[k]? = wD.heap[k]? := fun k hk =>
    (Below.heap_setCell _ ⟨C, 3, none⟩ _ k hk).trans ((Below.heap_setCell _ ⟨C, 2, none⟩ _ k hk).trans (Below.heap_setCell _ ⟨C, 1, none⟩ _ k hk))
  have hsz : (((wD.setCell ⟨C, 1, none⟩ (.map (some bA))).setCell ⟨C, 2, none⟩ v).setCell ⟨C, 3, none⟩ (.map (some bB))).heap.size = wD.heap.size := by simp
  have hv : ∀ g, v.ownBlock = some g → w.heap.size ≤ g ∧ g < wD.heap.size := ho.lt
  refine ⟨C, fun k => w.heap.size ≤ k ∧ k < wD.heap.size, rfl, ⟨bA, bB, ns, v, fs, e3, hA.same (same bA nA), hfs, hB.same (same bB nB), ?_, ⟨hCw, hC.lt⟩, ⟨hAw, hA.lt⟩, ⟨hBw, hB.lt⟩, hAB, hv, Nat.zero_le _, hok⟩, fun k hk => by rw [hsz]; exact hk, ?_⟩
  · have := own_same ho (w' := ((wD.setCell ⟨C, 1, none⟩ (.map (some bA))).setCell ⟨C, 2, none⟩ v).setCell ⟨C, 3, none⟩ (.map (some bB))) (fun g hg => same g (fun e => nv (by rw [hg, e])))
    exact ⟨this.1, this.2.imp id (fun ⟨g, cap, cur, a, _, c⟩ => ⟨g, cap, cur, a, Nat.zero_le _, c⟩)⟩
  · exact ((hb.setCell (p := ⟨C, 1, none⟩) hCw _).setCell (p := ⟨C, 2, none⟩) hCw _).setCell (p := ⟨C, 3, none⟩) hCw _

set_option maxRecDepth 100000 in
set_option maxHeartbeats 4000000 in
theorem copy_any (w : World) (S : Nat → Prop) (b : Nat) (d : Ek.Dk) (h : Dsk w S b d) : Calls Try.prog 54 #[.pointer (some ⟨b, 0, none⟩)] w (CpPost w d) := by
  have hok := h.ok
  have h1 := hok.lo
  obtain ⟨bm, bl, ns, lo, fs, hh, hm, hfs, hl, ho, _⟩ := h
  obtain ⟨c0, c1, c2, c3, c4, c5, _⟩ := has6 hh
  obtain ⟨es1, k1, hm1, hm2⟩ := hm
  obtain ⟨es2, k2, hl1, hl2⟩ := hl
  have hbmlt : bm < w.heap.size := (Array.getElem?_eq_some_iff.1 hm1).1
  have hbllt : bl < w.heap.size := (Array.getElem?_eq_some_iff.1 hl1).1
  obtain ⟨w1, hw1⟩ : ∃ w1, w1 = w.alloc (.cells #[.int .i64 (d.n : Int), .map (some bm), lo, .map (some bl), .int .i64 d.left, .bool d.dark] 96) := ⟨_, rfl⟩
  have hC1 : Has w1 w.heap.size (.cells #[.int .i64 (d.n : Int), .map (some bm), lo, .map (some bl), .int .i64 d.left, .bool d.dark] 96 (0, 0)) := by rw [hw1]; exact Has.new w _
  have hb1 : Below w.heap.size w w1 := by rw [hw1]; exact below1 w _
  have hs1 : w1.heap.size = w.heap.size + 1 := by rw [hw1]; simp
  have HC1 := Lib.hid hC1
  have HOK := Lib.hid hok
  have HFS := Lib.hid hfs
  have HO := Lib.hid ho
  have HM := Lib.hid (And.intro hm1 hm2)
  have HL := Lib.hid (And.intro hl1 hl2)
  have HS1 := Lib.hid hs1
  have HLT := Lib.hid (And.intro hbmlt hbllt)
  have CELLS : Hid (∀ w', Below w.heap.size w w' → w'.cell? ⟨b, 1, none⟩ = some (.map (some bm)) ∧ w'.cell? ⟨b, 2, none⟩ = some lo ∧ w'.cell? ⟨b, 3, none⟩ = some (.map (some bl))) := fun w' hb => by
    have hx := Has.below (show Has w b _ from hh) hb hh.lt
    exact ⟨by rw [hx.cell]; rfl, by rw [hx.cell]; rfl, by rw [hx.cell]; rfl⟩
  have HW0 : Hid (Below w.heap.size w w1.drew) := below_drewN hb1 1
  obtain ⟨la, lcap, rfl, _⟩ := own_len ho
  clear hok hm1 hm2 hl1 hl2 hbmlt hbllt hC1 hb1 hs1 hfs ho hh
  go_enter Try.func54, Try.ntmps54
  go_wp2_with fail
  refine (made_yes w b d.n c0 h1).mono ?_
  rintro e w' ⟨rfl, rfl⟩
  go_wp2_with fail
  rw [← hw1]
  clear hw1
  refine wp_region_held_drew (S := fun wx => Below w.heap.size w wx) (by kernel_rfl) HW0.out (fun _ => ?_)
  change wpAnyH _ _ _ _ _ 21 (Array.replicate 21 false) _ _
  refine wpAnyH_take (i := 0) (v := ?_) rfl (by kernel_rfl) (by kernel_rfl) (by kernel_rfl) (fun _ _ _ h => h) (Or.inl ⟨rfl, ?hy0⟩) HW0.out ?_
  case hy0 => intro w' hw'; clear hw'; go_simp; first | done | rfl
  try simp only [Act.put, List.getElem_toArray, List.getElem_cons_zero, List.setIfInBounds_toArray, List.set_cons_zero, List.set_cons_succ]
  refine wpAnyH_take (i := 1) (v := ?_) rfl (by kernel_rfl) (by kernel_rfl) (by kernel_rfl) (fun _ _ _ h => h) (Or.inl ⟨rfl, ?hy1⟩) HW0.out ?_
  case hy1 => intro w' hw'; clear hw'; go_simp; first | done | rfl
  try simp only [Act.put, List.getElem_toArray, List.getElem_cons_zero, List.getElem_cons_succ, List.setIfInBounds_toArray, List.set_cons_zero, List.set_cons_succ]
  refine wpAnyH_take (i := 2) (v := ?_) rfl (by kernel_rfl) (by kernel_rfl) (by kernel_rfl) (fun _ _ _ h => h) (Or.inl ⟨rfl, ?hy2⟩) HW0.out ?_
  case hy2 => intro w' hw'; clear hw'; go_simp; first | done | rfl
  try simp only [Act.put, List.getElem_toArray, List.getElem_cons_zero, List.getElem_cons_succ, List.setIfInBounds_toArray, List.set_cons_zero, List.set_cons_succ]
  refine wpAnyH_take (i := 3) (v := ?_) rfl (by kernel_rfl) (by kernel_rfl) (by kernel_rfl) (fun _ _ _ h => h) (Or.inl ⟨rfl, ?hy3⟩) HW0.out ?_
  case hy3 => intro w' hw'; obtain ⟨q1, q2, q3⟩ := CELLS.out w' hw'; clear hw'; go_simp; first | done | rfl
  try simp only [Act.put, List.getElem_toArray, List.getElem_cons_zero, List.getElem_cons_succ, List.setIfInBounds_toArray, List.set_cons_zero, List.set_cons_succ]
  refine wpAnyH_take (i := 5) (v := ?_) rfl (by kernel_rfl) (by kernel_rfl) (by kernel_rfl) (fun _ _ _ h => h) (Or.inl ⟨rfl, ?hy5⟩) HW0.out ?_
  case hy5 => intro w' hw'; clear hw'; go_simp; first | done | rfl
  try simp only [Act.put, List.getElem_toArray, List.getElem_cons_zero, List.getElem_cons_succ, List.setIfInBounds_toArray, List.set_cons_zero, List.set_cons_succ]
  refine wpAnyH_take (i := 6) (v := ?_) rfl (by kernel_rfl) (by kernel_rfl) (by kernel_rfl) (fun _ _ _ h => h) (Or.inl ⟨rfl, ?hy6⟩) HW0.out ?_
  case hy6 => intro w' hw'; clear hw'; go_simp; first | done | rfl
  try simp only [Act.put, List.getElem_toArray, List.getElem_cons_zero, List.getElem_cons_succ, List.setIfInBounds_toArray, List.set_cons_zero, List.set_cons_succ]
  refine wpAnyH_take (i := 7) (v := ?_) rfl (by kernel_rfl) (by kernel_rfl) (by kernel_rfl) (fun _ _ _ h => h) (Or.inl ⟨rfl, ?hy7⟩) HW0.out ?_
  case hy7 => intro w' hw'; clear hw'; go_simp; first | done | rfl
  try simp only [Act.put, List.getElem_toArray, List.getElem_cons_zero, List.getElem_cons_succ, List.setIfInBounds_toArray, List.set_cons_zero, List.set_cons_succ]
  refine wpAnyH_take (i := 8) (v := ?_) rfl (by kernel_rfl) (by kernel_rfl) (by kernel_rfl) (fun _ _ _ h => h) (Or.inl ⟨rfl, ?hy8⟩) HW0.out ?_
  case hy8 => intro w' hw'; obtain ⟨q1, q2, q3⟩ := CELLS.out w' hw'; clear hw'; go_simp; first | done | rfl
  try simp only [Act.put, List.getElem_toArray, List.getElem_cons_zero, List.getElem_cons_succ, List.setIfInBounds_toArray, List.set_cons_zero, List.set_cons_succ]
  refine wpAnyH_take (i := 10) (v := ?_) rfl (by kernel_rfl) (by kernel_rfl) (by kernel_rfl) (fun _ _ _ h => h) (Or.inl ⟨rfl, ?hy10⟩) HW0.out ?_
  case hy10 => intro w' hw'; clear hw'; go_simp; first | done | rfl
  try simp only [Act.put, List.getElem_toArray, List.getElem_cons_zero, List.getElem_cons_succ, List.setIfInBounds_toArray, List.set_cons_zero, List.set_cons_succ]
  refine wpAnyH_take (i := 11) (v := ?_) rfl (by kernel_rfl) (by kernel_rfl) (by kernel_rfl) (fun _ _ _ h => h) (Or.inl ⟨rfl, ?hy11⟩) HW0.out ?_
  case hy11 => intro w' hw'; clear hw'; go_simp; first | done | rfl
  try simp only [Act.put, List.getElem_toArray, List.getElem_cons_zero, List.getElem_cons_succ, List.setIfInBounds_toArray, List.set_cons_zero, List.set_cons_succ]
  refine wpAnyH_take (i := 12) (v := ?_) rfl (by kernel_rfl) (by kernel_rfl) (by kernel_rfl) (fun _ _ _ h => h) (Or.inl ⟨rfl, ?hy12⟩) HW0.out ?_
  case hy12 => intro w' hw'; clear hw'; go_simp; first | done | rfl
  try simp only [Act.put, List.getElem_toArray, List.getElem_cons_zero, List.getElem_cons_succ, List.setIfInBounds_toArray, List.set_cons_zero, List.set_cons_succ]
  refine wpAnyH_take (i := 13) (v := ?_) rfl (by kernel_rfl) (by kernel_rfl) (by kernel_rfl) (fun _ _ _ h => h) (Or.inl ⟨rfl, ?hy13⟩) HW0.out ?_
  case hy13 => intro w' hw'; obtain ⟨q1, q2, q3⟩ := CELLS.out w' hw'; clear hw'; go_simp; first | done | rfl
  try simp only [Act.put, List.getElem_toArray, List.getElem_cons_zero, List.getElem_cons_succ, List.setIfInBounds_toArray, List.set_cons_zero, List.set_cons_succ]
  refine wpAnyH_ready (rs := [4]) (by kernel_rfl) (by simp) ?_
  refine AllReadyH.cons rfl (fun K hK => ?_) AllReadyH.nil
  go_simp
  refine (clone_sure w1.drew bm es1 k1 ((HW0.out.block bm HLT.out.1).trans HM.out.1)).mono ?_
  rintro e w2 ⟨rfl, hw2⟩
  have HW2 : Hid (Below w.heap.size w w2) := by show Below _ _ _; rw [hw2]; exact HW0.out.trans ((below1 w1.drew _).mono HW0.out.size)
  have HA2 : Hid (w2.heap[w1.heap.size]? = some (.map es1 k1)) := by show _ = _; rw [hw2]; exact (MapKept.heap_alloc w1.drew _).1
  have HS2 : Hid (w2.heap.size = w1.heap.size + 1) := by show _ = _; rw [hw2]; simp
  have HC2 : Hid (Has w2 w.heap.size (.cells #[.int .i64 (d.n : Int), .map (some bm), .slice la d.loose.length lcap, .map (some bl), .int .i64 d.left, .bool d.dark] 96 (0, 0))) := by show Has _ _ _; rw [hw2]; exact (show Has w1.drew w.heap.size _ from HC1.out).alloc _
  clear hw2
  dsimp only
  refine hK.out _ _ HW2.out (fun _ => ?_)
  clear hK K
  try simp only [Act.put, List.getElem_toArray, List.getElem_cons_zero, List.getElem_cons_succ, List.setIfInBounds_toArray, List.set_cons_zero, List.set_cons_succ]
  refine wpAnyH_ready (rs := [9]) (by kernel_rfl) (by simp) ?_
  refine AllReadyH.cons rfl (fun K hK => ?_) AllReadyH.nil
  go_simp
  refine (clone_loose w2 _ d.loose (own_same HO.out (fun g hg => HW2.out.block g (HO.out.lt g hg).2)) (Nat.le_trans HOK.out.count HOK.out.used) (fun p hp => (HOK.out.loose p hp).2)).mono ?_
  rintro e w3 ⟨v3, rfl, ho3, hb3⟩
  have HW3 : Hid (Below w.heap.size w w3) := HW2.out.trans (hb3.mono HW2.out.size)
  have HO3 := Lib.hid ho3
  have HB3 := Lib.hid hb3
  clear ho3 hb3
  dsimp only
  refine hK.out _ _ HW3.out (fun _ => ?_)
  clear hK K
  try simp only [Act.put, List.getElem_toArray, List.getElem_cons_zero, List.getElem_cons_succ, List.setIfInBounds_toArray, List.set_cons_zero, List.set_cons_succ]
  refine wpAnyH_ready (rs := [14]) (by kernel_rfl) (by simp) ?_
  refine AllReadyH.cons rfl (fun K hK => ?_) AllReadyH.nil
  go_simp
  refine (clone_last w3 bl es2 k2 ((HW3.out.block bl HLT.out.2).trans HL.out.1)).mono ?_
  rintro e w4 ⟨rfl, hw4⟩
  have HW4 : Hid (Below w.heap.size w w4) := by show Below _ _ _; rw [hw4]; exact HW3.out.trans ((below1 w3 _).mono HW3.out.size)
  have HB4 : Hid (Below w3.heap.size w3 w4) := by show Below _ _ _; rw [hw4]; exact below1 w3 _
  have HA4 : Hid (w4.heap[w3.heap.size]? = some (.map es2 k2)) := by show _ = _; rw [hw4]; exact (MapKept.heap_alloc w3 _).1
  clear hw4
  dsimp only
  refine hK.out _ _ HW4.out (fun _ => ?_)
  clear hK K
  try simp only [Act.put, List.getElem_toArray, List.getElem_cons_zero, List.getElem_cons_succ, List.setIfInBounds_toArray, List.set_cons_zero, List.set_cons_succ]
  have HC4 := Lib.hid ((HC2.out.later HB3.out).later HB4.out)
  have HZ : Hid (w1.heap.size < w2.heap.size ∧ w2.heap.size ≤ w3.heap.size ∧ w1.heap.size = w.heap.size + 1) := ⟨by have := HS2.out; omega, HB3.out.size, HS1.out⟩
  have HO4 := Lib.hid (own_same HO3.out (w' := w4) (fun g hg => HB4.out.block g (HO3.out.lt g hg).2))
  obtain ⟨va, vcap, rfl, _⟩ := own_len HO4.out
  have HE : Hid (CpPost w d (.returned (.pointer (some ⟨w.heap.size, 0, none⟩))) (((w4.setCell ⟨w.heap.size, 1, none⟩ (.map (some w1.heap.size))).setCell ⟨w.heap.size, 2, none⟩ (.slice va d.loose.length vcap)).setCell ⟨w.heap.size, 3, none⟩ (.map (some w3.heap.size)))) := by
    have hz := HZ.out
    have hA4 : w4.heap[w1.heap.size]? = some (.map es1 k1) := (HB4.out.block _ (by omega)).trans ((HB3.out.block _ (by omega)).trans HA2.out)
    have ho5 : w4.ownsRow w.heap.size 115 513 (.slice va d.loose.length vcap) d.loose.length (vws d.loose) := ⟨HO4.out.1, HO4.out.2.imp id (fun ⟨g, cap, cur, a, b, c⟩ => ⟨g, cap, cur, a, by omega, c⟩)⟩
    exact copy_end HOK.out HW4.out HC4.out ⟨es1, k1, hA4, HM.out.2⟩ HFS.out ⟨es2, k2, HA4.out, HL.out.2⟩ ho5 (Nat.le_refl _) (by omega) (by omega) (by omega)
  have g1 : w4.cell? ⟨w.heap.size, 1, none⟩ = some (.map (some bm)) := by rw [HC4.out.cell]; rfl
  have g2 : w4.cell? ⟨w.heap.size, 2, none⟩ = some (.slice la d.loose.length lcap) := by rw [HC4.out.cell]; rfl
  have g3 : w4.cell? ⟨w.heap.size, 3, none⟩ = some (.map (some bl)) := by rw [HC4.out.cell]; rfl
  have f1 := HC4.out.free 1
  have f2 := HC4.out.free 2
  have f3 := HC4.out.free 3
  have HKB : Hid (∀ (a : Nat) (x : Value) (W : World), Below w.heap.size w W → Below w.heap.size w (W.setCell ⟨w.heap.size, a, none⟩ x)) := fun a x W h => h.setCell (p := ⟨w.heap.size, a, none⟩) (Nat.le_refl _) x
  refine wpAnyH_take (i := 15) (v := ?_) rfl (by kernel_rfl) (by kernel_rfl) (by kernel_rfl) (fun _ _ _ h => h) (Or.inl ⟨rfl, ?hy15⟩) HW4.out ?_
  case hy15 => intro w' hw'; clear hw'; go_simp; first | done | rfl
  try simp only [Act.put, List.getElem_toArray, List.getElem_cons_zero, List.getElem_cons_succ, List.setIfInBounds_toArray, List.set_cons_zero, List.set_cons_succ]
  refine wpAnyH_ready (rs := [16]) (by kernel_rfl) (by simp) ?_
  refine AllReadyH.cons rfl (fun K hK => ?_) AllReadyH.nil
  go_simp
  refine hK.out _ _ (HKB.out _ _ _ HW4.out) (fun _ => ?_)
  clear hK K
  try simp only [Act.put, List.getElem_toArray, List.getElem_cons_zero, List.getElem_cons_succ, List.setIfInBounds_toArray, List.set_cons_zero, List.set_cons_succ]
  refine wpAnyH_take (i := 17) (v := ?_) rfl (by kernel_rfl) (by kernel_rfl) (by kernel_rfl) (fun _ _ _ h => h) (Or.inl ⟨rfl, ?hy17⟩) (HKB.out _ _ _ HW4.out) ?_
  case hy17 => intro w' hw'; clear hw'; go_simp; first | done | rfl
  try simp only [Act.put, List.getElem_toArray, List.getElem_cons_zero, List.getElem_cons_succ, List.setIfInBounds_toArray, List.set_cons_zero, List.set_cons_succ]
  refine wpAnyH_ready (rs := [18]) (by kernel_rfl) (by simp) ?_
  refine AllReadyH.cons rfl (fun K hK => ?_) AllReadyH.nil
  go_simp
  refine hK.out _ _ (HKB.out _ _ _ (HKB.out _ _ _ HW4.out)) (fun _ => ?_)
  clear hK K
  try simp only [Act.put, List.getElem_toArray, List.getElem_cons_zero, List.getElem_cons_succ, List.setIfInBounds_toArray, List.set_cons_zero, List.set_cons_succ]
  refine wpAnyH_take (i := 19) (v := ?_) rfl (by kernel_rfl) (by kernel_rfl) (by kernel_rfl) (fun _ _ _ h => h) (Or.inl ⟨rfl, ?hy19⟩) (HKB.out _ _ _ (HKB.out _ _ _ HW4.out)) ?_
  case hy19 => intro w' hw'; clear hw'; go_simp; first | done | rfl
  try simp only [Act.put, List.getElem_toArray, List.getElem_cons_zero, List.getElem_cons_succ, List.setIfInBounds_toArray, List.set_cons_zero, List.set_cons_succ]
  refine wpAnyH_ready (rs := [20]) (by kernel_rfl) (by simp) ?_
  refine AllReadyH.cons rfl (fun K hK => ?_) AllReadyH.nil
  go_simp
  refine hK.out _ _ (HKB.out _ _ _ (HKB.out _ _ _ (HKB.out _ _ _ HW4.out))) (fun _ => ?_)
  clear hK K
  try simp only [Act.put, List.getElem_toArray, List.getElem_cons_zero, List.getElem_cons_succ, List.setIfInBounds_toArray, List.set_cons_zero, List.set_cons_succ]
  refine wpAnyH_done (by kernel_rfl) ?_ _
  go_wp2_with fail
  go_ret
  exact HE.out
end Go.Proofs.Ytillckjohlbaiaa
