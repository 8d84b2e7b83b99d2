/- Locks: does one wait; who waits. -/
import Derived.Test.YtoipmdemicdhoaaQit
import Derived.Laws.ResultCell

namespace Go.Proofs.Ytoipmdemicdhoaa
set_option maxRecDepth 100000
open Go.RowKit Go.Shelf

attribute [local go_sem] Oper.semAt_some

theorem results_cell1 {fn : Func} {p : Tmp} {ty : TypeId} (h : fn.results = #[.cell p ty]) (tmps : Array Value) (P : Program) (w : World) :
    (results fn tmps).run P w = ((asAddr (tmps.getD p undef)).run P w).andThen fun a w₁ => (loadVar ty a).run P w₁ := by
  simp only [results, h]
  simp [Sem.run_bind, Result.andThen]
theorem QvK.lo {T b m : Nat} {v : Value} {cs : List (Nat × Bool)} {A B : World} (h : QvK T v cs A) (hl : Lo b m A B) (hT : T < b) (hv : ∀ g, v.ownBlock = some g → g < b) : QvK T v cs B :=
  ⟨hl.has h.1 (Or.inl hT), qo_same h.2 (fun g hg => hl.block g (World.ownsRow.lt h.2 g hg).2 (Or.inl (hv g hg)))⟩
theorem QvK.below {T n : Nat} {v : Value} {cs : List (Nat × Bool)} {A B : World} (h : QvK T v cs A) (hl : Below n A B) (hT : T < n) (hv : ∀ g, v.ownBlock = some g → g < n) : QvK T v cs B :=
  ⟨h.1.below hl hT, qo_same h.2 (fun g hg => hl.block g (hv g hg))⟩

set_option maxRecDepth 100000 in
set_option maxHeartbeats 8000000 in
theorem awaits_any (w : World) (c : Nat) (O : Nat → Prop) (s : Qk.St) (p : Nat) (h : Lck w c O s) (hl : s.row.length ≤ 1000) :
    Calls Try.prog 29 #[.pointer (some ⟨c, 0, none⟩), .int .i64 (p : Int)] w fun e w' => e = .returned (.bool (decide (p ∈ s.row.map Prod.fst))) ∧ Below w.heap.size w w' := by
  obtain ⟨hv, rv, h⟩ := h
  obtain ⟨k, hk⟩ : ∃ k, k = s.row.findIdx (fun x => decide (x.1 = p)) := ⟨_, rfl⟩
  have hk1 : Hid (∀ i x, i < k → s.row[i]? = some x → ¬ x.1 = p) := fun i x hi hx e => by
    rw [hk] at hi
    have h1 := List.not_of_lt_findIdx hi
    obtain ⟨h2, h3⟩ := List.getElem?_eq_some_iff.1 hx
    rw [h3] at h1
    simp [e] at h1
  have hk2 : Hid (∀ x, s.row[k]? = some x → x.1 = p) := fun x hx => by
    obtain ⟨h2, h3⟩ := List.getElem?_eq_some_iff.1 hx
    have h1 := List.findIdx_getElem (p := fun x => decide (x.1 = p)) (xs := s.row) (w := by rw [← hk]; exact h2)
    have h4 : s.row[s.row.findIdx (fun x => decide (x.1 = p))]'(by rw [← hk]; exact h2) = x := by rw [← h3]; congr 1; exact hk.symm
    rw [h4] at h1
    simpa using h1
  obtain ⟨z, hz⟩ : ∃ z, z = decide (p ∈ s.row.map Prod.fst) := ⟨_, rfl⟩
  rw [← hz]
  have hk3 : Hid (k < s.row.length → z = true) := fun hlt => by
    rw [hz]
    have := hk2.out _ (List.getElem?_eq_getElem hlt)
    simp only [decide_eq_true_eq, List.mem_map]
    exact ⟨_, List.getElem_mem hlt, this⟩
  have hk4 : Hid (s.row.length ≤ k → z = false) := fun hle => by
    rw [hz]
    simp only [decide_eq_false_iff_not, List.mem_map]
    rintro ⟨x, hx, e⟩
    obtain ⟨i, hi, rfl⟩ := List.getElem_of_mem hx
    exact hk1.out i _ (by omega) (List.getElem?_eq_getElem hi) e
  obtain ⟨W1, hW1⟩ : ∃ W, W = (w.alloc (.cells #[.int .i64 (p : Int)] 3)).alloc (.cells #[.bool false] 4) := ⟨_, rfl⟩
  have b2 : Below w.heap.size w W1 := by rw [hW1]; exact below2 w _ _
  have hz1 : W1.heap.size = w.heap.size + 2 := by rw [hW1]; simp
  have f1 : Has W1 w.heap.size (.cells #[.int .i64 (p : Int)] 3 (0, 0)) := by rw [hW1]; exact (Has.new w _).alloc _
  have f2 : Has W1 (w.heap.size + 1) (.cells #[.bool false] 4 (0, 0)) := by
    have := Has.new (w.alloc (.cells #[.int .i64 (p : Int)] 3)) (.cells #[.bool false] 4)
    rw [hW1]; simpa using this
  have h1 := h.later b2
  have CA := Lib.hid (all_any W1 c O s hv rv h1)
  obtain ⟨W2, hW2⟩ : ∃ W, W = W1.alloc (.cells #[rv] 63) := ⟨_, rfl⟩
  rw [← hW2] at CA
  have b3 : Below W1.heap.size W1 W2 := by rw [hW2]; exact below1 _ _
  have hz2 : W2.heap.size = w.heap.size + 3 := by rw [hW2]; simp [hz1]
  have g1 := f1.later b3
  have g2 := f2.later b3
  have g3 : QvK (w.heap.size + 2) rv s.row W2 := ⟨by rw [hW2, ← hz1]; exact Has.new W1 _, (h1.later b3).r⟩
  have hrl : ∀ g, rv.ownBlock = some g → g < w.heap.size := fun g hg => h.lt g (h.ro g hg)
  have b4 : Below w.heap.size w W2 := b2.trans (b3.mono b2.size)
  have I0 : Hid (QvK (w.heap.size + 2) rv s.row W2 ∧ Has W2 w.heap.size (.cells #[.int .i64 (p : Int)] 3 (0, 0)) ∧ Has W2 (w.heap.size + 1) (.cells #[.bool false] 4 (0, 0)) ∧ Below w.heap.size w W2) := ⟨g3, g1, g2, b4⟩
  have V1 := Lib.hid hW1
  have HSEQ := Lib.hid (values_seq (w.heap.size + 2) rv s.row k hl)
  have HRL := Lib.hid hrl
  have HZ1 := Lib.hid hz1
  clear hz h1 f1 f2 b2 b3 g1 g2 g3 b4 hW1 hW2 hk hrl h hl
  refine callsIn_wide (n := 9).1 ?_
  refine callsIn_of_wp_marks Try.func29 rfl trivial ?_ rfl
  simp only [Try.ntmps29, List.size_toArray, List.length_cons, List.length_nil, Nat.reduceAdd, Nat.reduceSub, Array.replicate_succ, Array.replicate_zero, List.push_toArray, List.append_toArray, List.nil_append, List.cons_append]
  gi_wp2_with fail
  rw [← V1.out]
  refine ⟨trivial, (callsIn_wide.2 CA.out).mono ?_⟩
  rintro e W2 ⟨rfl, rfl⟩
  have hz1 := HZ1.out
  rw [hz1]
  gi_wp2_with fail
  have eg : ∀ args W, (callFunc 44 args).run Try.prog W = .ok (.enter 44 args) W := fun _ _ => rfl
  refine range_turn (α := Nat × Bool) (a₁ := fun o W0 => { tmps := #[.pointer (some ⟨c, 0, none⟩), .int .i64 (p : Int), undef, .pointer (some ⟨w.heap.size, 0, none⟩), .pointer (some ⟨w.heap.size + 1, 0, none⟩), .pointer (some ⟨W0.heap.size, 0, none⟩), .pointer (some ⟨c, 0, none⟩), .pointer (some ⟨c, 0, none⟩), .pointer (some ⟨c, 2, none⟩), .func (.func 44) #[] #[.pointer (some ⟨w.heap.size + 2, 0, none⟩)], .agg #[.int .i64 (o.1 : Int), .bool o.2], undef, undef, undef, undef], defers := [] }) (asg := fun o W0 => W0.alloc (.cells #[.int .i64 (o.1 : Int), .bool o.2] 70)) (hasg := fun o W0 => below1 W0 _)
    (gf := 44) (first := #[]) (lb := #[.pointer (some ⟨w.heap.size + 2, 0, none⟩)]) (encs := q1) (xs := s.row) rfl eg HSEQ.out (fun _ => rfl)
    (fun _ W => QvK (w.heap.size + 2) rv s.row W ∧ Has W w.heap.size (.cells #[.int .i64 (p : Int)] 3 (0, 0)) ∧ Has W (w.heap.size + 1) (.cells #[.bool false] 4 (0, 0)) ∧ Below w.heap.size w W)
    (fun _ W => QvK (w.heap.size + 2) rv s.row W ∧ Has W w.heap.size (.cells #[.int .i64 (p : Int)] 3 (0, 0)) ∧ Has W (w.heap.size + 1) (.cells #[.bool false] 4 (0, 0)) ∧ Below w.heap.size w W)
    (fun W => Has W (w.heap.size + 1) (.cells #[.bool true] 4 (0, 0)) ∧ Below w.heap.size w W)
    (fun i W h => h.1)
    (fun i A C h hl => ⟨h.1.lo hl (by omega) (fun g hg => by have := HRL.out g hg; omega), hl.has h.2.1 (Or.inl (by omega)), hl.has h.2.2.1 (Or.inl (by omega)), hl.below h.2.2.2 (by omega) h.2.2.2.size⟩)
    (fun i A C h hl => ⟨h.1.lo hl (by omega) (fun g hg => by have := HRL.out g hg; omega), hl.has h.2.1 (Or.inl (by omega)), hl.has h.2.2.1 (Or.inl (by omega)), hl.below h.2.2.2 (by omega) h.2.2.2.size⟩)
    (fun A C h hl => ⟨hl.has h.1 (Or.inl (by omega)), hl.below h.2 (by omega) h.2.size⟩)
    (fun i A B _ h _ e => by subst e; exact ⟨h, Nat.le_refl _, fun _ _ _ => rfl⟩)
    I0.out ?assign ?body ?last ?done ?ret
  case assign =>
    intro l o W K hK
    unfold q1
    gi_wp2
    exact hK
  case body =>
    rintro l i o W0 W his hp - ⟨hQ, hP, hF, hB⟩ hs0 hlo
    have hbox : Has W W0.heap.size (.cells #[.int .i64 (o.1 : Int), .bool o.2] 70 (0, 0)) := hlo.has (Has.new W0 _) (Or.inr (by omega))
    obtain ⟨r0, -, -, -⟩ := hbox.two
    have r1 := hP.one.1
    have hne := hk1.out i o his hp
    have hq : ((o.1 : Int) == (p : Int)) = false := by rw [beq_eq_false_iff_ne]; intro e; exact hne (by omega)
    have HF : Hid (∀ aa : Act, GoPost W2.heap.size (fun W => QvK (w.heap.size + 2) rv s.row W ∧ Has W w.heap.size (.cells #[.int .i64 (p : Int)] 3 (0, 0)) ∧ Has W (w.heap.size + 1) (.cells #[.bool false] 4 (0, 0)) ∧ Below w.heap.size w W) W .normal aa W) := fun aa => ⟨rfl, ⟨Nat.le_refl _, fun _ _ _ => rfl⟩, hQ, hP, hF, hB⟩
    obtain ⟨x, hx⟩ : ∃ x, x = o.1 := ⟨_, rfl⟩
    rw [← hx] at r0 hq ⊢
    clear hQ hP hF hB hbox hlo hp his hne hx I0 HSEQ CA V1 eg
    gi_wp2
    exact HF.out _
  case last =>
    rintro l o W0 W hp - ⟨hQ, hP, hF, hB⟩ hs0 hlo
    have hbox : Has W W0.heap.size (.cells #[.int .i64 (o.1 : Int), .bool o.2] 70 (0, 0)) := hlo.has (Has.new W0 _) (Or.inr (by omega))
    obtain ⟨r0, -, -, -⟩ := hbox.two
    have r1 := hP.one.1
    obtain ⟨r2, r3⟩ := hF.one
    have hne := hk2.out o hp
    have hq : ((o.1 : Int) == (p : Int)) = true := by rw [beq_iff_eq]; omega
    have HF : Hid (∀ aa : Act, EndPost W2.heap.size (fun W => Has W (w.heap.size + 1) (.cells #[.bool true] 4 (0, 0)) ∧ Below w.heap.size w W) W .ret aa (W.setCell ⟨w.heap.size + 1, 0, none⟩ (.bool true))) := fun aa => by
      refine ⟨rfl, ⟨by simp, fun k h1 h2 => Below.heap_setCell _ ⟨w.heap.size + 1, 0, none⟩ _ k (by show k ≠ w.heap.size + 1; omega)⟩, hF.setSelf (i := 0) (.bool true), ?_⟩
      exact hB.trans ⟨rfl, rfl, rfl, by simp, fun k hk => Below.heap_setCell _ ⟨w.heap.size + 1, 0, none⟩ _ k (by show k ≠ w.heap.size + 1; omega)⟩
    obtain ⟨x, hx⟩ : ∃ x, x = o.1 := ⟨_, rfl⟩
    rw [← hx] at r0 hq ⊢
    clear hQ hP hF hB hbox hlo hp hne hx I0 HSEQ CA V1 eg
    gi_wp2
    exact HF.out _
  case done =>
    rintro W hle ⟨hQ, hP, hF, hB⟩ hD
    obtain rfl := hk4.out hle
    obtain ⟨r2, r3⟩ := hF.one
    have HD : Hid ((W.setCell ⟨w.heap.size + 1, 0, none⟩ (.bool false)).heap[W2.heap.size]? = some (.deferred (some []))) := (Below.heap_setCell _ ⟨w.heap.size + 1, 0, none⟩ _ _ (by show W2.heap.size ≠ w.heap.size + 1; omega)).trans hD
    have H0 := Lib.hid (hF.setSelf (i := 0) (.bool false))
    have HB : Hid (Below w.heap.size w (W.setCell ⟨w.heap.size + 1, 0, none⟩ (.bool false))) := hB.trans ⟨rfl, rfl, rfl, by simp, fun k hk => Below.heap_setCell _ ⟨w.heap.size + 1, 0, none⟩ _ k (by show k ≠ w.heap.size + 1; omega)⟩
    have HZ2 := Lib.hid hz2
    clear hQ hP hF hB hD I0 HSEQ CA V1 eg hle hk1 hk2 hk3 hk4 hz1 hz2
    gi_wp2
    refine ⟨by simp, .inl ⟨_, _, rfl, run_takeDeferred HD.out, ?_⟩⟩
    have hz2 := HZ2.out
    have q0 := (Lo.putObj (W.setCell ⟨w.heap.size + 1, 0, none⟩ (.bool false)) W2.heap.size (.deferred none)).has H0.out (Or.inl (by omega))
    have q4 : Below w.heap.size w ((W.setCell ⟨w.heap.size + 1, 0, none⟩ (.bool false)).putObj W2.heap.size (.deferred none)) := (Lo.putObj _ W2.heap.size _).below HB.out (by omega) HB.out.size
    generalize (W.setCell ⟨w.heap.size + 1, 0, none⟩ (.bool false)).putObj W2.heap.size (.deferred none) = w4 at *
    refine ⟨.bool false, ?_, rfl, q4⟩
    have e0 : w4.cell? ⟨w.heap.size + 1, 0, none⟩ = some (.bool false) := q0.cell 0
    rw [results_cell1 rfl]
    clear q0 q4
    go_simp
  case ret =>
    rintro W hlt ⟨hF, hB⟩ hD
    obtain rfl := hk3.out hlt
    have HD := Lib.hid hD
    have H0 := Lib.hid hF
    have HB := Lib.hid hB
    have HZ2 := Lib.hid hz2
    clear hF hB hD I0 HSEQ CA V1 eg hlt hk1 hk2 hk3 hk4 hz1 hz2
    gi_wp2
    refine ⟨by simp, .inl ⟨_, _, rfl, run_takeDeferred HD.out, ?_⟩⟩
    have hz2 := HZ2.out
    have q0 := (Lo.putObj W W2.heap.size (.deferred none)).has H0.out (Or.inl (by omega))
    have q4 : Below w.heap.size w (W.putObj W2.heap.size (.deferred none)) := (Lo.putObj _ W2.heap.size _).below HB.out (by omega) HB.out.size
    generalize W.putObj W2.heap.size (.deferred none) = w4 at *
    refine ⟨.bool true, ?_, rfl, q4⟩
    have e0 : w4.cell? ⟨w.heap.size + 1, 0, none⟩ = some (.bool true) := q0.cell 0
    rw [results_cell1 rfl]
    clear q0 q4
    go_simp
end Go.Proofs.Ytoipmdemicdhoaa
