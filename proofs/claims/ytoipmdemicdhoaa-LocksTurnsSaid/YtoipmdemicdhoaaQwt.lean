/- Locks: who waits. -/
import Derived.Test.YtoipmdemicdhoaaQks
import Derived.Test.YtoipmdemicdhoaaAppw

namespace Go.Proofs.Ytoipmdemicdhoaa
set_option maxRecDepth 100000
open Go.RowKit Go.Shelf

attribute [local go_sem] Oper.semAt_some

/-- What Waits tells. -/
def WaitsP (w : World) (s : Qk.St) (e : Ending) (w' : World) : Prop := ∃ v, e = .returned v ∧ w'.ownsRow w.heap.size 3 1 v (s.row.map Prod.fst).length (qn (s.row.map Prod.fst)) ∧ Below w.heap.size w w'
/-- The list that is made, in its box. -/
def QBx (w : World) (xs : List Nat) (W : World) : Prop := ∃ v, Has W w.heap.size (.cells #[v] 32 (0, 0)) ∧ W.ownsRow w.heap.size 3 1 v xs.length (qn xs) ∧ ∀ g, v.ownBlock = some g → g < w.heap.size + 2 ∨ w.heap.size + 4 ≤ g
theorem QBx.lo {w : World} {xs : List Nat} {A B : World} (h : QBx w xs A) (hl : Lo (w.heap.size + 2) 2 A B) : QBx w xs B := by
  obtain ⟨v, h1, h2, h3⟩ := h
  exact ⟨v, hl.has h1 (Or.inl (by omega)), qo_same h2 (fun g hg => hl.block g (World.ownsRow.lt h2 g hg).2 (by have := h3 g hg; omega)), h3⟩

set_option maxRecDepth 100000 in
set_option maxHeartbeats 8000000 in
theorem waits_any (w : World) (b : Nat) (D : Nat → Prop) (s : Qk.Sts) (S : ByteArray) (hS : S.size ≤ 1000) (h : Lks w b D s) :
    Calls Try.prog 18 #[.pointer (some ⟨b, 0, none⟩), .string S] w (WaitsP w (s S)) := by
  obtain ⟨m, n, f, ow, h⟩ := h
  rcases h.keys S with ⟨hf, hs⟩ | ⟨c, hf, hne, hL⟩
  · have HL := Lib.hid (look_any h.has h.map S hS none (Or.inl ⟨hf, rfl⟩))
    rw [hs]
    clear h hf hs hS
    refine callsIn_wide (n := 9).1 ?_
    refine callsIn_of_wp_marks Try.func18 rfl trivial ?_ rfl
    simp only [Try.ntmps18, List.size_toArray, List.length_cons, List.length_nil, Nat.reduceAdd, Nat.reduceSub, Array.replicate_succ, Array.replicate_zero, List.push_toArray, List.append_toArray, List.nil_append, List.cons_append]
    gi_wp2_with fail
    refine ⟨trivial, (callsIn_wide.2 HL.out).mono ?_⟩
    rintro e w' ⟨rfl, rfl⟩
    gi_wp2
    exact ⟨.slice none 0 0, by simp [results, Try.results18, go_sem], _, rfl, ⟨rfl, Or.inl ⟨rfl, rfl⟩⟩, Below.refl _ _⟩
  · have HL := Lib.hid (look_any h.has h.map S hS (some ⟨c, 0, none⟩) (Or.inr hf))
    have hle := (h.good S).le
    obtain ⟨hv, rv, hV⟩ := hL
    obtain ⟨W1, hW1⟩ : ∃ W, W = w.alloc (.cells #[.slice none 0 0] 32) := ⟨_, rfl⟩
    have b2 : Below w.heap.size w W1 := by rw [hW1]; exact below1 w _
    have hz1 : W1.heap.size = w.heap.size + 1 := by rw [hW1]; simp
    have f1 : Has W1 w.heap.size (.cells #[.slice none 0 0] 32 (0, 0)) := by rw [hW1]; exact Has.new w _
    have h1 := hV.later b2
    have CA := Lib.hid (all_any W1 c _ (s S) hv rv h1)
    obtain ⟨W2, hW2⟩ : ∃ W, W = W1.alloc (.cells #[rv] 63) := ⟨_, rfl⟩
    rw [← hW2] at CA
    have b3 : Below W1.heap.size W1 W2 := by rw [hW2]; exact below1 _ _
    have hz2 : W2.heap.size = w.heap.size + 2 := by rw [hW2]; simp [hz1]
    have g1 := f1.later b3
    have g3 : QvK (w.heap.size + 1) rv (s S).row W2 := ⟨by rw [hW2, ← hz1]; exact Has.new W1 _, (h1.later b3).r⟩
    have hrl : ∀ g, rv.ownBlock = some g → g < w.heap.size := fun g hg => hV.lt g (hV.ro g hg)
    have b4 : Below w.heap.size w W2 := b2.trans (b3.mono b2.size)
    obtain ⟨row, hrow⟩ : ∃ r, r = (s S).row := ⟨_, rfl⟩
    rw [← hrow] at g3 hle
    have I0 : Hid (QvK (w.heap.size + 1) rv row W2 ∧ QBx w ((row.take 0).map Prod.fst) W2 ∧ Below w.heap.size w W2) := ⟨g3, ⟨_, g1, ⟨rfl, Or.inl ⟨rfl, rfl⟩⟩, fun g hg => by cases hg⟩, b4⟩
    have V1 := Lib.hid hW1
    have HSEQ := Lib.hid (values_seq (w.heap.size + 1) rv row row.length (by omega))
    have HRL := Lib.hid hrl
    have HZ1 := Lib.hid hz1
    have HLE := Lib.hid hle
    have HROW := Lib.hid hrow
    clear h1 f1 b2 b3 g1 g3 b4 hW1 hW2 hV hrl h hle hne hf hS hrow
    refine callsIn_wide (n := 9).1 ?_
    refine callsIn_of_wp_marks Try.func18 rfl trivial ?_ rfl
    simp only [Try.ntmps18, List.size_toArray, List.length_cons, List.length_nil, Nat.reduceAdd, Nat.reduceSub, Array.replicate_succ, Array.replicate_zero, List.push_toArray, List.append_toArray, List.nil_append, List.cons_append]
    gi_wp2_with fail
    refine ⟨trivial, (callsIn_wide.2 HL.out).mono ?_⟩
    rintro e w' ⟨rfl, rfl⟩
    gi_wp2_with fail
    rw [← V1.out]
    refine ⟨trivial, (callsIn_wide.2 CA.out).mono ?_⟩
    rintro e W2 ⟨rfl, rfl⟩
    have hz1 := HZ1.out
    rw [hz1]
    gi_wp2_with fail
    have eg : ∀ args W, (callFunc 44 args).run Try.prog W = .ok (.enter 44 args) W := fun _ _ => rfl
    refine range_turn (α := Nat × Bool) (a₁ := fun o W0 => { tmps := #[.pointer (some ⟨b, 0, none⟩), .string S, undef, undef, .slice none 0 0, .pointer (some ⟨c, 0, none⟩), .pointer (some ⟨w'.heap.size, 0, none⟩), .pointer (some ⟨W0.heap.size, 0, none⟩), .pointer (some ⟨b, 0, none⟩), .string S, .pointer (some ⟨c, 0, none⟩), .pointer (some ⟨c, 0, none⟩), .bool false, .pointer (some ⟨c, 0, none⟩), .pointer (some ⟨c, 0, none⟩), .pointer (some ⟨c, 2, none⟩), .func (.func 44) #[] #[.pointer (some ⟨w'.heap.size + 1, 0, none⟩)], .agg #[.int .i64 (o.1 : Int), .bool o.2], undef, undef, undef, undef, undef, undef], defers := [] }) (asg := fun o W0 => W0.alloc (.cells #[.int .i64 (o.1 : Int), .bool o.2] 70)) (hasg := fun o W0 => below1 W0 _)
      (gf := 44) (first := #[]) (lb := #[.pointer (some ⟨w'.heap.size + 1, 0, none⟩)]) (encs := q1) (xs := row) rfl eg HSEQ.out (fun _ => rfl)
      (fun i W => QvK (w'.heap.size + 1) rv row W ∧ QBx w' ((row.take i).map Prod.fst) W ∧ Below w'.heap.size w' W)
      (fun i W => QvK (w'.heap.size + 1) rv row W ∧ QBx w' ((row.take i).map Prod.fst) W ∧ Below w'.heap.size w' W)
      (fun W => False)
      (fun i W h => h.1)
      (fun i A C h hl => ⟨h.1.lo hl (by omega) (fun g hg => by have := HRL.out g hg; omega), h.2.1.lo (by rw [← hz2]; exact hl), hl.below h.2.2 (by omega) h.2.2.size⟩)
      (fun i A C h hl => ⟨h.1.lo hl (by omega) (fun g hg => by have := HRL.out g hg; omega), h.2.1.lo (by rw [← hz2]; exact hl), hl.below h.2.2 (by omega) h.2.2.size⟩)
      (fun A C h hl => h)
      (fun i A B _ h _ e => by subst e; exact ⟨h, Nat.le_refl _, fun _ _ _ => rfl⟩)
      I0.out ?assign ?body ?last ?done ?ret
    case assign =>
      intro l o W K hK
      unfold q1
      gi_wp2
      exact hK
    case body =>
      rintro l i o W0 W his hp - ⟨hQ, ⟨v, hB1, hB2, hB3⟩, hB⟩ hs0 hlo
      have hbox : Has W W0.heap.size (.cells #[.int .i64 (o.1 : Int), .bool o.2] 70 (0, 0)) := hlo.has (Has.new W0 _) (Or.inr (by omega))
      obtain ⟨r0, -, -, -⟩ := hbox.two
      obtain ⟨r1, -⟩ := hB1.one
      have htk : (row.take (i + 1)).map Prod.fst = (row.take i).map Prod.fst ++ [o.1] := by
        rw [List.take_add_one, hp]; simp
      have htl : ((row.take i).map Prod.fst).length ≤ 8 := by rw [List.length_map, List.length_take]; have := HLE.out; omega
      have hbl := below1 W (.cells #[.int .i64 (o.1 : Int)] 3)
      obtain ⟨v2, w2, hrun, hown, hg, hw⟩ := qn_app (w := W.alloc (.cells #[.int .i64 (o.1 : Int)] 3)) (hB2.alloc _) o.1 32 W.heap.size (Has.new W _) (by omega) (Nat.le_trans hB.size hbl.size)
      have hvl := fun g hg => (World.ownsRow.lt hB2 g hg)
      have hv0 : v.ownBlock ≠ some w'.heap.size := qo_ne hB2 hB1 (by decide)
      obtain ⟨a1, cap1, rfl⟩ := qo_form hB2
      have hb2 : Has w2 w'.heap.size (.cells #[.slice a1 ((row.take i).map Prod.fst).length cap1] 32 (0, 0)) := (hg.block _ (by have := hB1.lt; simp; omega) (fun e => hv0 e.symm)).trans (hB1.later hbl)
      obtain ⟨p0, p1⟩ := hb2.one
      have hzl : W.heap.size ≤ w2.heap.size := Nat.le_trans hbl.size hg.size
      have HF : Hid (∀ aa : Act, GoPost W2.heap.size (fun W => QvK (w'.heap.size + 1) rv row W ∧ QBx w' ((row.take (i + 1)).map Prod.fst) W ∧ Below w'.heap.size w' W) W .normal aa (w2.setCell ⟨w'.heap.size, 0, none⟩ v2)) := fun aa => by
        have hst : ∀ k, k ≠ w'.heap.size → (w2.setCell ⟨w'.heap.size, 0, none⟩ v2).heap[k]? = w2.heap[k]? := fun k hk => Below.heap_setCell _ ⟨w'.heap.size, 0, none⟩ _ k hk
        have hsz := hB1.lt
        have hzs : (w2.setCell ⟨w'.heap.size, 0, none⟩ v2).heap.size = w2.heap.size := by simp
        have hwk : ∀ k, k < W.heap.size → k ≠ w'.heap.size → (Value.slice a1 ((row.take i).map Prod.fst).length cap1).ownBlock ≠ some k → (w2.setCell ⟨w'.heap.size, 0, none⟩ v2).heap[k]? = W.heap[k]? := fun k h1 h2 h3 =>
          (hst k h2).trans ((hg.block k (Nat.lt_of_lt_of_le h1 hbl.size) (fun e => h3 e.symm)).trans (hbl.block k h1))
        have hWs : w'.heap.size + 4 ≤ W.heap.size := by have := hlo.size; have : (W0.alloc (.cells #[.int .i64 (o.1 : Int), .bool o.2] 70)).heap.size = W0.heap.size + 1 := by simp
                                                        omega
        refine ⟨rfl, ⟨by rw [hzs]; exact hzl, fun k h1 h2 => hwk k (by omega) (by omega) (fun e => by have := hB3 k e; omega)⟩, ⟨?_, ?_⟩, ⟨v2, hb2.setSelf (i := 0) v2, ?_, fun g hg => ?_⟩, ⟨?_, ?_, ?_, ?_, fun k hk => ?_⟩⟩
        · exact (hwk _ (by omega) (by omega) (fun e => qo_ne hB2 hQ.1 (by decide) e)).trans hQ.1
        · exact qo_same hQ.2 (fun g hg2 => hwk g (by have := HRL.out g hg2; omega) (by have := HRL.out g hg2; omega) (fun e => by have := (hvl g e).1; have := HRL.out g hg2; omega))
        · rw [htk]
          exact qo_same hown (fun g hg2 => hst g (fun e => qo_ne hown hb2 (by decide) (by rw [hg2, e])))
        · rcases hw with hw | hw
          · rw [hw] at hg; exact hB3 g hg
          · rw [hw] at hg; cases hg; exact Or.inr (Nat.le_trans hWs hbl.size)
        · exact hg.os.trans hB.os
        · exact hg.tape.trans hB.tape
        · exact hg.output.trans hB.output
        · rw [hzs]; exact Nat.le_trans hB.size hzl
        · rw [hwk k (by have := hB.size; omega) (by omega) (fun e => by have := (hvl k e).1; omega)]
          exact hB.block k hk
      obtain ⟨x, hx⟩ : ∃ x, x = o.1 := ⟨_, rfl⟩
      obtain ⟨ln, hln⟩ : ∃ x, x = ((row.take i).map Prod.fst).length := ⟨_, rfl⟩
      rw [← hln] at r1 hrun p0
      obtain ⟨n2, hn2⟩ : ∃ n2, n2 = ((row.take i).map Prod.fst ++ [o.1]).length := ⟨_, rfl⟩
      rw [← hn2] at hown
      obtain ⟨a2, cap2, rfl⟩ := qo_form hown
      rw [← hx] at r0 hrun ⊢
      have HRUN := Lib.hid hrun
      have r1' := (hB1.later hbl).one.1
      rw [← hln] at r1'
      have r0' := (hbox.later hbl).two.1
      clear hQ hB1 hB2 hB3 hB hbox hlo hp his hx I0 HSEQ CA V1 eg htk htl hown hg hw hvl hv0 hb2 hzl hbl hrun hln hn2
      gi_wp2_with (gi_at_builtin; refine wpListIn_append_knownQ rfl (.tmp 18) (.tmp 21) 32 rfl _ _ _ _ rfl rfl HRUN.out ?_)
      exact HF.out _
    case last =>
      rintro l o W0 W hp
      have := (List.getElem?_eq_some_iff.1 hp).1
      omega
    case done =>
      rintro W hle ⟨hQ, ⟨v, hB1, hB2, hB3⟩, hB⟩ hD
      rw [List.take_length] at hB2
      obtain ⟨ln, hln⟩ : ∃ x, x = (row.map Prod.fst).length := ⟨_, rfl⟩
      rw [← hln] at hB2
      obtain ⟨a1, cap1, rfl⟩ := qo_form hB2
      obtain ⟨r1, -⟩ := hB1.one
      have HLN := Lib.hid hln
      have HD := Lib.hid hD
      have HO := Lib.hid hB2
      have HN := Lib.hid hB3
      have HB := Lib.hid hB
      have HZ2 := Lib.hid hz2
      clear hQ hB1 hB2 hB3 hB hD I0 HSEQ CA V1 eg hle hz1 hz2 hln
      gi_wp2
      refine ⟨by simp, .inl ⟨_, _, rfl, run_takeDeferred HD.out, ?_⟩⟩
      have hz2 := HZ2.out
      refine ⟨.slice a1 ln cap1, by simp [results, Try.results18, go_sem], _, rfl, ?_, ?_⟩
      · rw [← HROW.out, ← HLN.out]
        exact qo_same HO.out (fun g hg => World.putObj_heap_other (by have := HN.out g hg; omega))
      · exact (Lo.putObj W W2.heap.size _).below HB.out (by omega) HB.out.size
    case ret =>
      rintro W hlt
      omega
end Go.Proofs.Ytoipmdemicdhoaa
