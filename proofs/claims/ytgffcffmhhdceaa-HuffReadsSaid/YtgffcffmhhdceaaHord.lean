/- Contract of huff.ordered. -/
import Derived.Test.YtgffcffmhhdceaaHtaken
import Derived.Maps.AppendAt
namespace Go.Proofs.Ytgffcffmhhdceaa
open Go.RowKit Go.Shelf

attribute [local go_sem] Oper.semAt_some

/-- The slice value sv is nil, or owns a block from lo on that reads xs. -/
def Il (lo : Nat) (W : World) (sv : Value) (xs : List Nat) : Prop :=
  (sv = .slice none 0 0 ∧ xs = []) ∨ ∃ g cap, sv = .slice (some ⟨g, 0, none⟩) xs.length cap ∧ xs.length ≤ cap ∧ lo ≤ g ∧ Rw W g xs.length (fun i => xs[i]?.getD 0)

/-- What ordered leaves: the used symbols in the order of their codes, in memory of their own. -/
def OrdPost (w : World) (ls : List Nat) (e : Ending) (w' : World) : Prop :=
  ∃ v, e = .returned v ∧ Il w.heap.size w' v (Hf.ordl ls) ∧ Below w.heap.size w w'

theorem Try.infoInt : (Try.prog.info? 3).map (fun i => (i.zero, i.size, i.bytes)) = some (some (.int .i64 0), 1, 8) := by kernel_rfl

/-- The symbols as cells. -/
def vsym (ps : List (Nat × Nat)) : List Value := ps.map fun p => Value.int .i64 (p.1 : Int)

theorem cell_of_heap {w w' : World} {g : Nat} (h : w'.heap[g]? = w.heap[g]?) (i : Nat) : w'.cell? ⟨g, i, none⟩ = w.cell? ⟨g, i, none⟩ := by
  unfold World.cell?; simp only [h]
theorem frozen_of_heap {w w' : World} {g : Nat} (h : w'.heap[g]? = w.heap[g]?) (i : Nat) : w'.frozen? ⟨g, i, none⟩ = w.frozen? ⟨g, i, none⟩ := by
  unfold World.frozen?; simp only [h]
theorem Rw.same {w w' : World} {g n : Nat} {d : Nat → Nat} (h : Rw w g n d) (e : w'.heap[g]? = w.heap[g]?) (hs : g < w'.heap.size) : Rw w' g n d :=
  ⟨hs, fun i hi => (cell_of_heap e i).trans (h.cell i hi), fun i hi => (frozen_of_heap e i).trans (h.free i hi)⟩

theorem row_of_owns {W : World} {base g cap : Nat} {ls : List Nat} {k : Nat} (h : W.ownsRow base 3 1 (.slice (some ⟨g, 0, none⟩) (usedTo ls k).length cap) (usedTo ls k).length (vsym (usedTo ls k))) (hg : g < W.heap.size) :
    Rw W g (Hf.usedL ls k).length (fun i => (Hf.usedL ls k)[i]?.getD 0) := by
  have hl : (Hf.usedL ls k).length = (usedTo ls k).length := by rw [← usedTo_syms]; simp
  refine ⟨hg, fun i hi => ?_, fun i _ => h.frozenAt i⟩
  rw [h.cellAt i (by omega), ← usedTo_syms]
  have hi2 : i < (usedTo ls k).length := by omega
  simp [vsym, List.getElem?_eq_getElem hi2]

/-- What sorted leaves of the used symbols. -/
theorem ord_fin {w w1 W w2 : World} {g cap D : Nat} {ls : List Nat} {d' : Nat → Nat} (h15 : ∀ i, i < ls.length → Hf.ln ls i ≤ 15) (hs1 : w1.heap.size = w.heap.size + 1) (hB1 : Below w.heap.size w w1) (hB : Below (w.heap.size + 1) w1 W)
    (hg : w.heap.size + 1 ≤ g) (hgW : g < W.heap.size) (hD : w.heap.size ≤ D) (_hDW : D < W.heap.size) (hne : D ≠ g) (hcap : (Hf.usedL ls ls.length).length ≤ cap)
    (hr2 : Rw w2 g (Hf.usedL ls ls.length).length d') (hs : SortIs (Hf.ln ls) (Hf.usedL ls ls.length).length (fun i => (Hf.usedL ls ls.length)[i]?.getD 0) 0 (Hf.usedL ls ls.length).length d') (ho : Only g W w2) (o' : Obj) :
    Il w.heap.size (w2.putObj D o') (.slice (some ⟨g, 0, none⟩) (Hf.usedL ls ls.length).length cap) (Hf.ordl ls) ∧ Below w.heap.size w (w2.putObj D o') := by
  have e := Hf.sorted_is ls h15 _ _ d' rfl (fun i _ => rfl) hs.1 hs.2.1 hs.2.2
  have hn : (Hf.ordl ls).length = (Hf.usedL ls ls.length).length := by rw [← e]; simp
  have hsz := hB.size
  have hsz2 := ho.size
  refine ⟨Or.inr ⟨g, cap, by rw [hn], by omega, by omega, ?_⟩, ?_⟩
  · rw [hn]
    have h3 : Rw (w2.putObj D o') g (Hf.usedL ls ls.length).length d' := hr2.same (World.putObj_heap_other (by omega)) (by simp; omega)
    refine ⟨h3.lt, fun i hi => ?_, h3.free⟩
    rw [h3.cell i hi, ← e]
    simp [hi]
  · refine ((hB1.trans (hB.mono (by omega))).trans (ho.belowB (by omega) (by omega))).trans ?_
    exact (Below.refl w.heap.size w2).grown (grownBy_putObj' w2 D o') (by omega) (fun k e => by cases e; omega)

set_option maxRecDepth 100000 in
set_option maxHeartbeats 4000000 in
theorem ordered_in (n : Nat) (hn : 3 ≤ n) (sv : Value) (ls : List Nat) (w : World) (hL : Lsl w.heap.size w sv ls) (h15 : ∀ i, i < ls.length → Hf.ln ls i ≤ 15) :
    CallsIn Fence.wide n Try.prog 38 #[sv] w (OrdPost w ls) := by
  have h1 : 1 ≤ n := by omega
  have hL2 := hL
  obtain ⟨b, off, cap, rfl, hpos, h288, hbl, hcl⟩ := hL2
  clear hcl
  obtain ⟨i0, hi, hz0, hz1, hz2⟩ := info_parts Try.infoInt
  refine callsIn_of_wp_marks Try.func38 rfl trivial ?_ rfl
  simp only [Try.ntmps38, List.size_toArray, List.length_cons, List.length_nil, Nat.reduceAdd, Nat.reduceSub, Array.replicate_succ, Array.replicate_zero, List.push_toArray, List.append_toArray, List.nil_append, List.cons_append]
  have HL := Lib.hid hL
  have HI := Lib.hid hi
  clear hL hi
  gi_wp2_with (refine ⟨trivial, ?_⟩; gi_at_call 39; refine (used_in (n - 1) _ _ _ _ rfl _).mono ?_; rintro e w' ⟨rfl, rfl⟩)
  obtain ⟨w1, hw1⟩ : ∃ w1, w1 = w.alloc (.cells #[.slice (some ⟨b, off, none⟩) ls.length cap] 22) := ⟨_, rfl⟩
  have hs1 : w1.heap.size = w.heap.size + 1 := by rw [hw1]; simp
  have bL : Boxed w1 w.heap.size 22 (.slice (some ⟨b, off, none⟩) ls.length cap) := by rw [hw1]; exact Boxed.new w 22 _
  have hB1 : Below w.heap.size w w1 := by rw [hw1]; exact (Below.refl _ w).alloc (Nat.le_refl _) _
  rw [← hw1]
  have bS := Boxed.new w1 22 (.slice none 0 0)
  have bN := Boxed.new (w1.alloc (.cells #[.slice none 0 0] 22)) 22 (.slice (some ⟨b, off, none⟩) ls.length cap)
  rw [World.size_alloc] at bN
  rw [hs1] at bS bN
  have hB0 : Below (w.heap.size + 1) w1 ((w1.alloc (.cells #[.slice none 0 0] 22)).alloc (.cells #[.slice (some ⟨b, off, none⟩) ls.length cap] 22)) := ((Below.refl _ w1).alloc (by omega) _).alloc (by simp; omega) _
  have hL3 : Lsl (w.heap.size + 1) ((w1.alloc (.cells #[.slice none 0 0] 22)).alloc (.cells #[.slice (some ⟨b, off, none⟩) ls.length cap] 22)) (.slice (some ⟨b, off, none⟩) ls.length cap) ls := by
    obtain ⟨b', off', cap', e1, e2, e3, e4, e5⟩ := (HL.out.below hB1)
    exact Lsl.below ⟨b', off', cap', e1, e2, e3, by omega, e5⟩ hB0
  have hz3 : ((w1.alloc (.cells #[.slice none 0 0] 22)).alloc (.cells #[.slice (some ⟨b, off, none⟩) ls.length cap] 22)).heap.size = w.heap.size + 3 := by simp; omega
  clear hw1
  refine wpIn_rangeFunc_ownG rfl h1 (gf := 52) (lb := #[.pointer (some ⟨w.heap.size + 1 + 1, 0, none⟩)]) rfl trivial (enters_of Try.func52 (by kernel_rfl) rfl)
    (used_stops (n - 1) (by omega) (w.heap.size + 1 + 1) (w.heap.size + 1) _ ls _ (by rw [hz3]; omega) (by rw [hz3]; omega) bN.cell hL3) belowK_t (belowK_b (by rw [hz3]; omega)) (Below.refl _ _) (fun _ => rfl)
    (fun pre W => (∃ v, Boxed W (w.heap.size + 1) 22 v ∧ W.ownsRow (w.heap.size + 1) 3 1 v pre.length (vsym pre) ∧ (v = .slice none 0 0 ↔ pre = [])) ∧ Below (w.heap.size + 1) w1 W)
    (fun _ _ _ => False)
    (OwnFrom.and (Own.from (holdsRow_own (w.heap.size + 1) (w.heap.size + 1) 22 3 1 (fun pre => pre.length) (fun pre => vsym pre) (fun pre v => v = .slice none 0 0 ↔ pre = [])) _) (ownFrom_below (by omega) (by rw [hz3]; omega)))
    (fun _ _ _ _ _ hs _ _ => hs)
    ⟨⟨_, bS.alloc _, World.ownsRow_nil _ _ _ _, by simp⟩, hB0⟩
    (fun x => { tmps := #[.slice (some ⟨b, off, none⟩) ls.length cap, .pointer (some ⟨w.heap.size, 0, none⟩), .slice none 0 0, .pointer (some ⟨w.heap.size + 1, 0, none⟩), .int .i64 (x.1 : Int), .slice (some ⟨b, off, none⟩) ls.length cap, .func (.func 52) #[] #[.pointer (some ⟨w.heap.size + 1 + 1, 0, none⟩)], .int .i64 (x.1 : Int), .int .i64 (x.2 : Int), undef, undef, undef, undef, undef, undef, undef], defers := [] }) ?assign ?body ?done ?stop
  case assign =>
    intro l x W K hK
    gi_wp2
    exact hK
  case body =>
    rintro l pre x W ⟨⟨v, hv, hrow, hnil⟩, hB⟩ hlt
    have hc := hv.cell
    have hsz := hB.size
    have hW : w.heap.size + 1 ≤ W.heap.size := by omega
    have hi := HI.out
    gi_wp2_with (gi_at_builtin; refine wpListIn_append_own _ rfl _ _ 22 rfl (w.heap.size + 1) 3 i0 (.int .i64 0) 1 8 Try.underlying22 hi hz0 hz1 hz2 rfl (by decide) _ _ _ rfl (hrow.alloc _) ⟨W.heap.size, 0, none⟩ 1 1 [.int .i64 (x.1 : Int)] rfl rfl (cell_one_new _ _ _) (by simp [Value.oneCell']) (by unfold maxLen; omega) (by omega) (by simp; omega) ?_; intro v' w1 hown' hgrow _; obtain ⟨g', cap', rfl⟩ := ownsRow_succ hown'; obtain ⟨hv1, hv2, hr2, hk2, hb2⟩ := hv.appended (by decide) hrow hW (Nat.le_refl _) hown' hgrow; have hc1 := hv1.cell; have hf1 := hv1.frozen)
    exact ⟨hk2.from _, hb2, ⟨_, hv2, by simpa [vsym] using hr2, by simp⟩, hB.trans hb2⟩
  case done =>
    rintro D ys W hD rfl ⟨⟨v, hv, hrow, hnil⟩, hB⟩ hK
    have hc := hv.cell
    rw [hz3] at hD
    have hDW : D < W.heap.size := (Array.getElem?_eq_some_iff.1 hK).1
    have hsz := hB.size
    rcases hrow.2 with ⟨rfl, h0⟩ | ⟨g, cap2, cur, rfl, hbg, hgb, hle, _⟩
    · have he : usedTo ls ls.length = [] := hnil.1 rfl
      have hu : Hf.usedL ls ls.length = [] := by rw [← usedTo_syms, he]; rfl
      have ho : Hf.ordl ls = [] := by
        have := Hf.sorted_is ls h15 0 (fun _ => 0) (fun _ => 0) (by rw [hu]; rfl) (fun i hi => by omega) (.refl _) (fun p q h1 h2 => by omega) (fun p q h1 h2 h3 => by omega)
        rw [← this]; rfl
      have HB := Lib.hid hB
      have HO := Lib.hid ho
      clear hB ho hu he hnil hrow h0 hv
      gi_wp2_with (refine ⟨trivial, ?_⟩; gi_at_call 50; refine (callsIn_wide.2 (sorted_nil _ _)).mono ?_; rintro e w2 ⟨rfl, hb2⟩)
      have hK2 : w2.heap[D]? = some (.deferred (some [])) := (hb2.block D hDW).trans hK
      have hsz2 := hb2.size
      refine ⟨by simp, .inl ⟨_, _, rfl, run_takeDeferred hK2, ?_⟩⟩
      refine ⟨_, results_tmp rfl _ _ _, _, rfl, Or.inl ⟨rfl, HO.out⟩, ?_⟩
      refine ((hB1.trans (HB.out.mono (by omega))).trans (hb2.mono (by omega))).trans ?_
      exact (Below.refl w.heap.size w2).grown (grownBy_putObj' w2 D _) (by omega) (fun k e => by cases e; omega)
    · have hlen : (usedTo ls ls.length).length = (Hf.usedL ls ls.length).length := by rw [← usedTo_syms]; simp
      have hgW : g < W.heap.size := (Array.getElem?_eq_some_iff.1 hgb).1
      have hne : D ≠ g := by
        intro e; rw [e] at hK; rw [hK] at hgb; cases hgb
      have hr : Rw W g (Hf.usedL ls ls.length).length (fun i => (Hf.usedL ls ls.length)[i]?.getD 0) := row_of_owns hrow hgW
      have hLe : Lens (w.heap.size + 1) W w.heap.size ls := by
        refine ⟨by omega, some ⟨b, off, none⟩, ls.length, cap, (hB.cell (p := ⟨w.heap.size, 0, none⟩) (by show w.heap.size < _; omega)).trans bL.cell, rfl, h288, by omega, fun _ => ?_⟩
        obtain ⟨b', off', cap', e1, e2, e3, e4, e5⟩ := ((HL.out.below hB1).below (hB.mono (by omega)))
        cases e1
        exact ⟨b, off, rfl, by omega, e5⟩
      have hul := Hf.usedL_length ls ls.length
      have hle2 : (Hf.usedL ls ls.length).length ≤ cap2 := by omega
      have HC := sorted_any (w.heap.size + 1) g cap2 _ w.heap.size ls _ W hr (by omega) hbg hLe (Hf.used_ris ls ls.length) (fun i hi => by
        show (Hf.usedL ls ls.length)[i]?.getD 0 < _
        rw [List.getElem?_eq_getElem hi]
        exact ((Hf.mem_usedL ls ls.length _).1 (List.getElem_mem hi)).1)
      have HB := Lib.hid hB
      have HN := Lib.hid hne
      clear hB hnil hrow hv hr hLe hne hgb
      rw [hlen] at hc
      gi_wp2_with (refine ⟨trivial, ?_⟩; gi_at_call 50; refine (callsIn_wide.2 HC).mono ?_; rintro e w2 ⟨rfl, d', hr2, hs2, ho2⟩)
      have hK2 : w2.heap[D]? = some (.deferred (some [])) := (ho2.block D hDW HN.out).trans hK
      have fin := ord_fin h15 hs1 hB1 HB.out hbg hgW (by omega) hDW HN.out hle2 hr2 hs2 ho2 (.deferred none)
      refine ⟨by simp, .inl ⟨_, _, rfl, run_takeDeferred hK2, ?_⟩⟩
      refine ⟨_, results_tmp rfl _ _ _, ?_⟩
      exact ⟨_, rfl, fin.1, fin.2⟩
  case stop =>
    rintro D c pre W _ _ h _
    exact h.elim

theorem ordered_any (sv : Value) (ls : List Nat) (w : World) (hL : Lsl w.heap.size w sv ls) (h15 : ∀ i, i < ls.length → Hf.ln ls i ≤ 15) :
    Calls Try.prog 38 #[sv] w (OrdPost w ls) := callsIn_wide.1 (ordered_in 3 (Nat.le_refl _) sv ls w hL h15)
end Go.Proofs.Ytgffcffmhhdceaa
