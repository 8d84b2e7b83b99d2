/- The statement RecordLays. It holds for every record, without a condition. -/
import Derived.Test.YtheffpihhmdceaaNlives
import Derived.Test.YtheffpihhmdceaaNref3
import Derived.Test.YtheffpihhmdceaaNarg

namespace Go.Proofs.Ytheffpihhmdceaa
set_option maxRecDepth 100000
open Go.ChangeShapes Go.WideShapes Go.ChangeAt Go.RowKit

theorem keepL {w : World} {S : ByteArray} {m a b c d : Int} {x1 x2 : Option Addr} {k1 c1 k2 c2 : Nat} {X1 X2 : ByteArray} {l1 l2 : List Nat} (e1 : Hid (X1 = strB l1)) (e2 : Hid (X2 = strB l2)) {W W' : World} (h : W.cell? ⟨w.heap.size, 0, none⟩ = some (.string S) ∧ W.cell? ⟨w.heap.size, 1, none⟩ = some (.int .i64 m) ∧ W.cell? ⟨w.heap.size, 2, none⟩ = some (.int .i64 a) ∧ W.cell? ⟨w.heap.size, 3, none⟩ = some (.int .i64 b) ∧ W.cell? ⟨w.heap.size, 4, none⟩ = some (.int .i64 c) ∧ W.cell? ⟨w.heap.size, 5, none⟩ = some (.int .i64 d) ∧ (Below w.heap.size w W ∧ w.heap.size < W.heap.size) ∧ (convert 24 9 (.slice x1 k1 c1)).run Try.prog W = .ok (.string X1) W ∧ (convert 24 9 (.slice x2 k2 c2)).run Try.prog W = .ok (.string X2) W ∧ (Sl W (.slice x1 k1 c1) l1 ∧ Sl W (.slice x2 k2 c2) l2)) (hb : Below W.heap.size W W') :
    W'.cell? ⟨w.heap.size, 0, none⟩ = some (.string S) ∧ W'.cell? ⟨w.heap.size, 1, none⟩ = some (.int .i64 m) ∧ W'.cell? ⟨w.heap.size, 2, none⟩ = some (.int .i64 a) ∧ W'.cell? ⟨w.heap.size, 3, none⟩ = some (.int .i64 b) ∧ W'.cell? ⟨w.heap.size, 4, none⟩ = some (.int .i64 c) ∧ W'.cell? ⟨w.heap.size, 5, none⟩ = some (.int .i64 d) ∧ (Below w.heap.size w W' ∧ w.heap.size < W'.heap.size) ∧ (convert 24 9 (.slice x1 k1 c1)).run Try.prog W' = .ok (.string X1) W' ∧ (convert 24 9 (.slice x2 k2 c2)).run Try.prog W' = .ok (.string X2) W' ∧ (Sl W' (.slice x1 k1 c1) l1 ∧ Sl W' (.slice x2 k2 c2) l2) := by
  obtain ⟨h0, h1, h2, h3, h4, h5, ⟨h6, h7⟩, -, -, h8, h9⟩ := h
  have hB : B6 w w.heap.size S m a b c d W := ⟨h0, h1, h2, h3, h4, h5, h6, h7⟩
  obtain ⟨g0, g1, g2, g3, g4, g5, g6, g7⟩ := hB.later hb
  exact ⟨g0, g1, g2, g3, g4, g5, ⟨g6, g7⟩, string_of _ _ _ _ _ _ (h8.later hb) e1, string_of _ _ _ _ _ _ (h9.later hb) e2, h8.later hb, h9.later hb⟩

set_option maxHeartbeats 8000000 in
theorem lays_any (S : ByteArray) (m a b c d E : Int) (l1 l2 : List Nat) (X1 X2 : ByteArray) (e1 : Hid (X1 = strB l1)) (e2 : Hid (X2 = strB l2)) (w : World)
    (hC : ∀ w, Calls Try.prog 14 #[rv S m a b c d] w fun e w' => e = .returned (.int .i64 E) ∧ Below w.heap.size w w')
    (hR : ∀ w, Calls Try.prog 15 #[rv S m a b c d] w fun e w' => e = .returned (.int .i64 E) ∧ Below w.heap.size w w')
    (hL : ∀ w, Calls Try.prog 10 #[rv S m a b c d] w fun e w' => ∃ x k cap, e = .returned (.tuple #[.slice x k cap, .int .i64 E]) ∧ Sl w' (.slice x k cap) l1 ∧ Below w.heap.size w w')
    (hM : ∀ w, Calls Try.prog 11 #[rv S m a b c d] w fun e w' => e = .returned (.tuple #[.string X1, .int .i64 E]) ∧ Below w.heap.size w w')
    (hN : ∀ w, Calls Try.prog 12 #[rv S m a b c d] w fun e w' => ∃ x k cap, e = .returned (.tuple #[.slice x k cap, .int .i64 E]) ∧ Sl w' (.slice x k cap) l2 ∧ Below w.heap.size w w')
    (hO : ∀ w, Calls Try.prog 13 #[rv S m a b c d] w fun e w' => e = .returned (.tuple #[.string X2, .int .i64 E]) ∧ Below w.heap.size w w') :
    Calls Try.prog 3 #[rv S m a b c d] w fun e w' => e = .returned (.bool true) ∧ Below w.heap.size w w' := by
  have LV := Lib.hid lives_any
  have hi : (Try.prog.info? 23).map (·.size) = some 6 := by kernel_rfl
  have HC := Lib.hid hC
  have HR := Lib.hid hR
  have HL := Lib.hid hL
  have HM := Lib.hid hM
  have HN := Lib.hid hN
  have HO := Lib.hid hO
  unfold rv at HC HR HL HM HN HO ⊢
  have F0 := Lib.hid (Has.new w (.cells #[.string S, .int .i64 m, .int .i64 a, .int .i64 b, .int .i64 c, .int .i64 d] 23))
  have G0 := Lib.hid (below1 w (.cells #[.string S, .int .i64 m, .int .i64 a, .int .i64 b, .int .i64 c, .int .i64 d] 23))
  clear hC hR hL hM hN hO
  go_enter Try.func3, Try.ntmps3
  go_wp2_with fail
  refine (HL.out _).mono ?_
  rintro e w1 ⟨x1, k1, c1, rfl, hs1, h1⟩
  have S1 := Lib.hid hs1
  have F1 := Lib.hid (F0.out.later h1)
  have B1 := Lib.hid (G0.out.trans (h1.mono G0.out.size))
  clear h1 hs1
  go_wp2_with (refine wpList_load_row rfl 23 (.tmp 1) rfl w.heap.size rfl 23 _ (0, 0) _ F1.out Try.underlying23 rfl hi ?_)
  refine (HM.out _).mono ?_
  rintro e w2 ⟨rfl, h2⟩
  have S2 := Lib.hid (S1.out.later h2)
  have F2 := Lib.hid (F1.out.later h2)
  have B2 := Lib.hid (B1.out.trans (h2.mono B1.out.size))
  clear h2
  go_wp2_with (refine wpList_load_row rfl 23 (.tmp 1) rfl w.heap.size rfl 23 _ (0, 0) _ F2.out Try.underlying23 rfl hi ?_)
  refine (HN.out _).mono ?_
  rintro e w3 ⟨x2, k2, c2, rfl, hs3, h3⟩
  have S3 := Lib.hid (S2.out.later h3)
  have R3 := Lib.hid hs3
  have F3 := Lib.hid (F2.out.later h3)
  have B3 := Lib.hid (B2.out.trans (h3.mono B2.out.size))
  clear h3 hs3
  go_wp2_with (refine wpList_load_row rfl 23 (.tmp 1) rfl w.heap.size rfl 23 _ (0, 0) _ F3.out Try.underlying23 rfl hi ?_)
  refine (HO.out _).mono ?_
  rintro e w4 ⟨rfl, h4⟩
  have H4 : Hid (w4.cell? ⟨w.heap.size, 0, none⟩ = some (.string S) ∧ w4.cell? ⟨w.heap.size, 1, none⟩ = some (.int .i64 m) ∧ w4.cell? ⟨w.heap.size, 2, none⟩ = some (.int .i64 a) ∧ w4.cell? ⟨w.heap.size, 3, none⟩ = some (.int .i64 b) ∧ w4.cell? ⟨w.heap.size, 4, none⟩ = some (.int .i64 c) ∧ w4.cell? ⟨w.heap.size, 5, none⟩ = some (.int .i64 d) ∧ (Below w.heap.size w w4 ∧ w.heap.size < w4.heap.size) ∧ (convert 24 9 (.slice x1 k1 c1)).run Try.prog w4 = .ok (.string X1) w4 ∧ (convert 24 9 (.slice x2 k2 c2)).run Try.prog w4 = .ok (.string X2) w4 ∧ (Sl w4 (.slice x1 k1 c1) l1 ∧ Sl w4 (.slice x2 k2 c2) l2)) := by
    have F4 := F3.out.later h4
    have s1 := S3.out.later h4
    have s2 := R3.out.later h4
    exact Lib.hid ⟨F4.cell 0, F4.cell 1, F4.cell 2, F4.cell 3, F4.cell 4, F4.cell 5, ⟨B3.out.trans (h4.mono B3.out.size), F4.lt⟩, string_of _ _ _ _ _ _ s1 e1, string_of _ _ _ _ _ _ s2 e2, s1, s2⟩
  clear h4 F0 F1 F2 F3 G0 B1 B2 B3 S1 S2 S3 R3 HL HM HN HO
  have HD := Lib.hid (keepL e1 e2 H4.out (Below.refl _ _).drew)
  go_wp2_with fail
  go_region_held3 (fun W => W.cell? ⟨w.heap.size, 0, none⟩ = some (.string S) ∧ W.cell? ⟨w.heap.size, 1, none⟩ = some (.int .i64 m) ∧ W.cell? ⟨w.heap.size, 2, none⟩ = some (.int .i64 a) ∧ W.cell? ⟨w.heap.size, 3, none⟩ = some (.int .i64 b) ∧ W.cell? ⟨w.heap.size, 4, none⟩ = some (.int .i64 c) ∧ W.cell? ⟨w.heap.size, 5, none⟩ = some (.int .i64 d) ∧ (Below w.heap.size w W ∧ w.heap.size < W.heap.size) ∧ (convert 24 9 (.slice x1 k1 c1)).run Try.prog W = .ok (.string X1) W ∧ (convert 24 9 (.slice x2 k2 c2)).run Try.prog W = .ok (.string X2) W ∧ (Sl W (.slice x1 k1 c1) l1 ∧ Sl W (.slice x2 k2 c2) l2)) (first | assumption | exact HD.out) (first | (go_at_call 14; with_reducible refine (HC.out _).mono ?_; rintro e wn ⟨rfl, hbn⟩; have hSn := keepL (w := w) (S := S) (m := m) (a := a) (b := b) (c := c) (d := d) e1 e2 (by assumption) hbn; clear hbn) | (go_at_call 15; with_reducible refine (HR.out _).mono ?_; rintro e wn ⟨rfl, hbn⟩; have hSn := keepL (w := w) (S := S) (m := m) (a := a) (b := b) (c := c) (d := d) e1 e2 (by assumption) hbn; clear hbn) | (go_at_call 16; with_reducible refine (LV.out _).mono ?_; rintro e wn ⟨rfl, hbn⟩; have hSn := keepL (w := w) (S := S) (m := m) (a := a) (b := b) (c := c) (d := d) e1 e2 (by assumption) hbn; clear hbn))
  go_wp2
  go_ret
  exact ⟨rfl, (keepL (w := w) (S := S) (m := m) (a := a) (b := b) (c := c) (d := d) e1 e2 (by assumption) (Below.refl _ _)).2.2.2.2.2.2.1.1⟩

theorem recordLays_walk (S : ByteArray) (m a b c d : Int) (w : World) :
    Calls Try.prog 3 #[rv S m a b c d] w fun e w' => e = .returned (.bool true) ∧ Below w.heap.size w w' := by
  have hC := fun w => check_any S m a b c d w
  have hR := fun w => rcheck_any S m a b c d w
  cases h : okR S.size m a b c d
  · rw [h] at hC hR
    exact lays_any S m a b c d 2 [] [] ⟨#[]⟩ ⟨#[]⟩ (Lib.hid strB_nil.symm) (Lib.hid strB_nil.symm) w hC hR
      (fun w => (local_bad S m a b c d h w).mono (by rintro e w' ⟨rfl, hb⟩; exact ⟨none, 0, 0, rfl, Sl.nil _, hb⟩)) (rlocal_bad S m a b c d h)
      (fun w => (central_bad S m a b c d h w).mono (by rintro e w' ⟨rfl, hb⟩; exact ⟨none, 0, 0, rfl, Sl.nil _, hb⟩)) (rcentral_bad S m a b c d h)
  · rw [h] at hC hR
    obtain ⟨n1, n2, -⟩ := okR_yes h
    exact lays_any S m a b c d 0 (localB S m a b c d) (centralB S m a b c d) _ _ (Lib.hid rfl) (Lib.hid rfl) w hC hR
      (fun w => (local_ok S m a b c d h w).mono (by rintro e w' ⟨x, k, cap, rfl, hm, hb⟩; exact ⟨x, k, cap, rfl, hm.sl (by rw [hm.2.1, local_is]; simp only [List.length_append, mid_size, Fd.le_length, sB_length, List.length_cons, List.length_nil]; omega), hb⟩)) (rlocal_ok S m a b c d h _ (Lib.hid rfl))
      (fun w => (central_ok S m a b c d h w).mono (by rintro e w' ⟨x, k, cap, rfl, hm, hb⟩; exact ⟨x, k, cap, rfl, hm.sl (by rw [hm.2.1, central_is]; simp only [List.length_append, mid_size, Fd.le_length, sB_length, List.length_cons, List.length_nil]; omega), hb⟩)) (rcentral_ok S m a b c d h _ (Lib.hid rfl))

set_option maxRecDepth 100000 in
theorem recordLays_lifted (os : Os) (started : os.Started) (H : Type) (enc : TypeId × Value → H) :
    ReturnsInHanded {} Try.checked os 3 .any (Rows.recordLaysSpec.pre6 enc Try.prog Try.f3 Rows.recordLaysRow.domain false) (Rows.recordLaysSpec.post enc Try.prog Try.f3 false true false false) := by
  refine returnsInHanded_of_change_sized (C := Try.checked) Try.own started (by kernel_rfl) Try.func3
    (ChangeSpec.witness6 (enc := enc) (C := Try.checked) false ⟨#[], #[.agg #[.string ByteArray.empty, .int .i64 0, .int .i64 0, .int .i64 0, .int .i64 0, .int .i64 0]], []⟩ 8 (by kernel_rfl) (by kernel_rfl) (by kernel_rfl) (by kernel_rfl)) ?_
  intro W base args ds gs before hval0 hW _ hsz0 _
  have hval : ∀ (j : Nat) t v, Try.f3.params[j]? = some t → args[j]? = some v → Value.okWide Try.prog W .any base t v := hval0
  have hsz : (DataW.weightsEach Try.prog (Try.f3.params.toList ++ Rows.recordLaysSpec.plain.varTypes Try.prog) (ds ++ gs)).all (· ≤ reachBytes) = true := hsz0
  have hW' := hW
  obtain ⟨p, q, hA0, hV, rfl, hfz, hnd⟩ := hW
  have hA : DataW.TrodAll enc Try.prog W 0 (fun _ => true) true Try.f3.params.toList args.toList ds p := hA0
  rw [Try.params3] at hA hval hsz
  obtain ⟨v0, vs0, d0, ds0, p0, q0, hargs, rfl, rfl, h0, r0⟩ := trodAll_cons hA
  obtain ⟨rfl, rfl, rfl⟩ := trodAll_nil r0
  obtain rfl : args = #[v0] := by cases args; simp_all
  obtain ⟨rfl, rfl⟩ := trodVars_none hV
  have k0 := h0
  have lt0 : ∀ x ∈ p0, x.block < W.heap.size := by obtain ⟨m, hm⟩ := k0; exact DataW.trod_lt m _ _ _ hm
  obtain ⟨S0, rm0, ra0, rb0, rc0, re0, rfl⟩ := rec_open (hval 0 23 v0 rfl rfl) h0
  clear hA0 hval0 hsz0
  refine (recordLays_walk S0 rm0 ra0 rb0 rc0 re0 W ).mono fun e W' ⟨he, bel⟩ => ?_
  subst he
  exact ⟨_, rfl, _, _, _, [], _, [], hW', trodAll_mk1 (shut_bool Try.underlying4 _), (trodAll_cons_mk (Below.trod Try.laidOut (by kernel_rfl) (of_decide_eq_true (by kernel_rfl)) k0 bel lt0) trodAll_mk0), rfl, bel.frame _, fun h => by cases h⟩

theorem recordLays_proved : Rows.RecordLaysSaid :=
  OpenClaim.holds_of_wide 3 Try.f3 rfl rfl rfl rfl rfl rfl rfl ⟨rfl, rfl, rfl, rfl, rfl⟩ rfl rfl rfl rfl rfl (by kernel_rfl) Try.func3 (by kernel_rfl)
    (of_decide_eq_true (by kernel_rfl)) (by unfold Func.isWrapper; rw [if_neg (of_decide_eq_false (by kernel_rfl))]; exact ⟨rfl, rfl⟩)
    (fun os started H enc _ => recordLays_lifted os started H enc)
end Go.Proofs.Ytheffpihhmdceaa
