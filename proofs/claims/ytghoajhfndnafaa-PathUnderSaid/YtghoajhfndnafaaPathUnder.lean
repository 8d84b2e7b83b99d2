/- The statement PathUnder. It holds for every input, without a condition. -/
import Derived.Test.YtghoajhfndnafaaParg

namespace Go.Proofs.Ytghoajhfndnafaa
set_option maxRecDepth 100000
open Go.ChangeShapes Go.WideShapes Go.ChangeAt Go.RowKit

set_option maxRecDepth 100000 in
set_option maxHeartbeats 4000000 in
theorem pathUnder_walk (d p q : Tx) (w : World) (ld : d.length ≤ 9223372036854775807) (lp : p.length ≤ 9223372036854775807) (lq : q.length ≤ 9223372036854775807) :
    Calls Try.prog 11 #[.string (bx d), .string (bx p), .string (bx q)] w fun e w' => e = .returned (.bool true) ∧ Below w.heap.size w w' := by
  have C1 := Lib.hid (fun w => under_any p d w)
  have C2 := Lib.hid (fun w => compare_any d p w ld lp)
  have C3 := Lib.hid (fun w => split_any q w)
  have C4 := Lib.hid (fun w => compare_any d q w ld lq)
  have C5 := Lib.hid (fun w => compare_any q p w lq lp)
  have C6 := Lib.hid (fun w => under_any q d w)
  have LV := Lib.hid lives_any
  have F1 := Lib.hid (fun (h : Pn.under p d = true) => Pn.under_below h)
  have F2 := Lib.hid (fun (h : Pn.under p d = true) (hq : Pn.path (Pn.names q) = true) (h1 : Pn.cmp d q ≤ 0) (h2 : Pn.cmp q p ≤ 0) => Pn.under_between h hq h1 h2)
  have F3 := Lib.hid (Pn.cmp_ord.e d p)
  have td := bx_toList d
  have tp := bx_toList p
  obtain ⟨D, hD⟩ : ∃ D, D = bx d := ⟨_, rfl⟩
  obtain ⟨P, hP⟩ : ∃ P, P = bx p := ⟨_, rfl⟩
  obtain ⟨Q, hQ⟩ : ∃ Q, Q = bx q := ⟨_, rfl⟩
  rw [← hD] at C1 C2 C4 C6 td ⊢
  rw [← hP] at C1 C2 C5 tp ⊢
  rw [← hQ] at C3 C4 C5 C6 ⊢
  generalize Pn.under p d = z1 at *
  generalize Pn.under q d = z2 at *
  generalize Pn.path (Pn.names q) = z3 at *
  generalize Pn.cmp d p = x1 at *
  generalize Pn.cmp d q = x2 at *
  generalize Pn.cmp q p = x3 at *
  generalize (Pn.split q).1 = L at *
  clear hD hP hQ ld lp lq
  cases z1 with
  | false =>
    go_enter Try.func11, Try.ntmps11
    go_wp2_with fail
    refine (C1.out _).mono ?_
    rintro e w1 ⟨rfl, b1⟩
    go_wp2_with fail
    refine (LV.out _).mono ?_
    rintro e w2 ⟨rfl, b2⟩
    go_wp2_with fail
    go_ret
    exact ⟨rfl, b1.trans (b2.mono b1.size)⟩
  | true =>
    have f1 : x1 ≤ 0 := F1.out rfl
    have g1 : decide (x1 > 0) = false := by simp; omega
    have g2 : (x1 == 0) = (d == p) := by
      rw [Bool.eq_iff_iff]
      simpa using F3.out
    have g3 : ((d == p) != (d == p)) = false := by simp
    go_enter Try.func11, Try.ntmps11
    go_wp2_with fail
    refine (C1.out _).mono ?_
    rintro e w1 ⟨rfl, b1⟩
    have B1 := Lib.hid b1
    clear b1
    go_wp2_with fail
    refine (C2.out _).mono ?_
    rintro e w2 ⟨rfl, b2⟩
    have B2 := Lib.hid (B1.out.trans (b2.mono B1.out.size))
    clear b2 B1
    go_wp2_with fail
    refine (C2.out _).mono ?_
    rintro e w3 ⟨rfl, b3⟩
    have B3 := Lib.hid (B2.out.trans (b3.mono B2.out.size))
    clear b3 B2
    go_wp2_with fail
    refine (C3.out _).mono ?_
    rintro e w4 ⟨v, rfl, _, b4⟩
    have B4 := Lib.hid (B3.out.trans (b4.mono B3.out.size))
    clear b4 B3
    go_wp2_with fail
    refine (C4.out _).mono ?_
    rintro e w5 ⟨rfl, b5⟩
    have B5 := Lib.hid (B4.out.trans (b5.mono B4.out.size))
    clear b5 B4
    clear C1 C2 C3 C4 F1 F3 f1 g1 g2 g3
    by_cases h2 : x2 ≤ 0
    · have k2 : decide (x2 ≤ 0) = true := by simpa using h2
      go_wp2_with fail
      refine (C5.out _).mono ?_
      rintro e w6 ⟨rfl, b6⟩
      have B6 := Lib.hid (B5.out.trans (b6.mono B5.out.size))
      clear b6 B5
      by_cases h3 : x3 ≤ 0
      · have k3 : decide (x3 ≤ 0) = true := by simpa using h3
        cases z3 with
        | false =>
          simp only [ec]
          go_wp2_with fail
          refine (LV.out _).mono ?_
          rintro e w9 ⟨rfl, b9⟩
          go_wp2_with fail
          go_ret
          exact ⟨rfl, B6.out.trans (b9.mono B6.out.size)⟩
        | true =>
          have hz2 : z2 = true := by
            have h := F2.out
            simp at h
            exact h h2 h3
          rw [hz2] at C6
          simp only [ec]
          go_wp2_with fail
          refine (C6.out _).mono ?_
          rintro e w7 ⟨rfl, b7⟩
          have B7 := Lib.hid (B6.out.trans (b7.mono B6.out.size))
          clear b7 B6
          go_wp2_with fail
          refine (LV.out _).mono ?_
          rintro e w9 ⟨rfl, b9⟩
          go_wp2_with fail
          go_ret
          exact ⟨rfl, B7.out.trans (b9.mono B7.out.size)⟩
      · have k3 : decide (x3 ≤ 0) = false := by simpa using h3
        cases z3 with
        | false =>
          simp only [ec]
          go_wp2_with fail
          refine (LV.out _).mono ?_
          rintro e w9 ⟨rfl, b9⟩
          go_wp2_with fail
          go_ret
          exact ⟨rfl, B6.out.trans (b9.mono B6.out.size)⟩
        | true =>
          simp only [ec]
          go_wp2_with fail
          refine (LV.out _).mono ?_
          rintro e w9 ⟨rfl, b9⟩
          go_wp2_with fail
          go_ret
          exact ⟨rfl, B6.out.trans (b9.mono B6.out.size)⟩
    · have k2 : decide (x2 ≤ 0) = false := by simpa using h2
      cases z3 with
      | false =>
        simp only [ec]
        go_wp2_with fail
        refine (LV.out _).mono ?_
        rintro e w9 ⟨rfl, b9⟩
        go_wp2_with fail
        go_ret
        exact ⟨rfl, B5.out.trans (b9.mono B5.out.size)⟩
      | true =>
        simp only [ec]
        go_wp2_with fail
        refine (LV.out _).mono ?_
        rintro e w9 ⟨rfl, b9⟩
        go_wp2_with fail
        go_ret
        exact ⟨rfl, B5.out.trans (b9.mono B5.out.size)⟩
set_option maxRecDepth 100000 in
theorem pathUnder_lifted (os : Os) (started : os.Started) (H : Type) (enc : TypeId × Value → H) :
    ReturnsInHanded {} Try.checked os 11 .any (Rows.pathUnderSpec.pre6 enc Try.prog Try.f11 Rows.pathUnderRow.domain false) (Rows.pathUnderSpec.post enc Try.prog Try.f11 false true false false) := by
  refine returnsInHanded_of_change_sized (C := Try.checked) Try.own started (by kernel_rfl) Try.func11
    (ChangeSpec.witness6 (enc := enc) (C := Try.checked) false ⟨#[], #[.string ByteArray.empty, .string ByteArray.empty, .string ByteArray.empty], []⟩ 8 (by kernel_rfl) (by kernel_rfl) (by kernel_rfl) (by kernel_rfl)) ?_
  intro W base args ds gs before hval0 hW _ hsz0 _
  have hval : ∀ (j : Nat) t v, Try.f11.params[j]? = some t → args[j]? = some v → Value.okWide Try.prog W .any base t v := hval0
  have hsz : (DataW.weightsEach Try.prog (Try.f11.params.toList ++ Rows.pathUnderSpec.plain.varTypes Try.prog) (ds ++ gs)).all (· ≤ reachBytes) = true := hsz0
  have hW' := hW
  obtain ⟨p, q, hA0, hV, rfl, hfz, hnd⟩ := hW
  have hA : DataW.TrodAll enc Try.prog W 0 (fun _ => true) true Try.f11.params.toList args.toList ds p := hA0
  rw [Try.params11] at hA hval hsz
  obtain ⟨v0, vs0, d0, ds0, p0, q0, hargs, rfl, rfl, h0, r0⟩ := trodAll_cons hA
  obtain ⟨v1, vs1, d1, ds1, p1, q1, rfl, rfl, rfl, h1, r1⟩ := trodAll_cons r0
  obtain ⟨v2, vs2, d2, ds2, p2, q2, rfl, rfl, rfl, h2, r2⟩ := trodAll_cons r1
  obtain ⟨rfl, rfl, rfl⟩ := trodAll_nil r2
  obtain rfl : args = #[v0, v1, v2] := by cases args; simp_all
  obtain ⟨rfl, rfl⟩ := trodVars_none hV
  have k0 := h0
  have lt0 : ∀ x ∈ p0, x.block < W.heap.size := by obtain ⟨m, hm⟩ := k0; exact DataW.trod_lt m _ _ _ hm
  obtain ⟨S0, ev0, ed0, _, wn0⟩ := Go.ChangeMaps.open_string Try.underlying9 (hval 0 9 v0 rfl rfl) h0
  subst ev0
  obtain ⟨x0, rfl⟩ : ∃ x, S0 = bx x := ⟨S0.data.toList, (bx_of S0).symm⟩
  have ln0 : x0.length ≤ 9223372036854775807 := by rw [bx_size] at wn0; exact wn0
  have k1 := h1
  have lt1 : ∀ x ∈ p1, x.block < W.heap.size := by obtain ⟨m, hm⟩ := k1; exact DataW.trod_lt m _ _ _ hm
  obtain ⟨S1, ev1, ed1, _, wn1⟩ := Go.ChangeMaps.open_string Try.underlying9 (hval 1 9 v1 rfl rfl) h1
  subst ev1
  obtain ⟨x1, rfl⟩ : ∃ x, S1 = bx x := ⟨S1.data.toList, (bx_of S1).symm⟩
  have ln1 : x1.length ≤ 9223372036854775807 := by rw [bx_size] at wn1; exact wn1
  have k2 := h2
  have lt2 : ∀ x ∈ p2, x.block < W.heap.size := by obtain ⟨m, hm⟩ := k2; exact DataW.trod_lt m _ _ _ hm
  obtain ⟨S2, ev2, ed2, _, wn2⟩ := Go.ChangeMaps.open_string Try.underlying9 (hval 2 9 v2 rfl rfl) h2
  subst ev2
  obtain ⟨x2, rfl⟩ : ∃ x, S2 = bx x := ⟨S2.data.toList, (bx_of S2).symm⟩
  have ln2 : x2.length ≤ 9223372036854775807 := by rw [bx_size] at wn2; exact wn2
  clear hA0 hval0 hsz0
  refine (pathUnder_walk x0 x1 x2 W ln0 ln1 ln2).mono fun e W' ⟨he, bel⟩ => ?_
  subst he
  exact ⟨_, rfl, _, _, _, [], _, [], hW', trodAll_mk1 (shut_bool Try.underlying4 _), (trodAll_cons_mk (Below.trod Try.laidOut (by kernel_rfl) (of_decide_eq_true (by kernel_rfl)) k0 bel lt0) (trodAll_cons_mk (Below.trod Try.laidOut (by kernel_rfl) (of_decide_eq_true (by kernel_rfl)) k1 bel lt1) (trodAll_cons_mk (Below.trod Try.laidOut (by kernel_rfl) (of_decide_eq_true (by kernel_rfl)) k2 bel lt2) trodAll_mk0))), rfl, bel.frame _, fun h => by cases h⟩

theorem pathUnder_proved : Rows.PathUnderSaid :=
  OpenClaim.holds_of_wide 11 Try.f11 rfl rfl rfl rfl rfl rfl rfl ⟨rfl, rfl, rfl, rfl, rfl⟩ rfl rfl rfl rfl rfl (by kernel_rfl) Try.func11 (by kernel_rfl)
    (of_decide_eq_true (by kernel_rfl)) (by unfold Func.isWrapper; rw [if_neg (of_decide_eq_false (by kernel_rfl))]; exact ⟨rfl, rfl⟩)
    (fun os started H enc _ => pathUnder_lifted os started H enc)
end Go.Proofs.Ytghoajhfndnafaa
