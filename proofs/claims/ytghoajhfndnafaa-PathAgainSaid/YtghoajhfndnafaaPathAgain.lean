/- The statement PathAgain. It holds for every input, without a condition. -/
import Derived.Test.YtghoajhfndnafaaParg

namespace Go.Proofs.Ytghoajhfndnafaa
set_option maxRecDepth 100000
open Go.ChangeShapes Go.WideShapes Go.ChangeAt Go.RowKit

/-- What Clean tells: a path's text, or nothing. -/
theorem clean_cases (s : Tx) : (∃ l, Pn.path l = true ∧ Pn.clean s = (Pn.join l, 0)) ∨ Pn.clean s = ([], 3) ∨ Pn.clean s = ([], 8) := by
  unfold Pn.clean
  split
  · exact Or.inr (Or.inl rfl)
  · cases h : Pn.path (Pn.stack s) with
    | true => exact Or.inl ⟨_, h, by simp [Pn.joined, h]⟩
    | false => exact Or.inr (Or.inr (by simp [Pn.joined, h]))

set_option maxRecDepth 100000 in
set_option maxHeartbeats 4000000 in
theorem pathAgain_walk (s : Tx) (w : World) (_ls : s.length ≤ 9223372036854775807) :
    Calls Try.prog 9 #[.string (bx s)] w fun e w' => e = .returned (.bool true) ∧ Below w.heap.size w w' := by
  have C1 := Lib.hid (fun w => clean_any s w)
  have LV := Lib.hid lives_any
  rcases clean_cases s with ⟨l, hp, hc⟩ | hc | hc
  · have hsz := Pn.path_size hp
    have C2 := Lib.hid (fun w => split_any (Pn.join l) w)
    have C3 := Lib.hid (fun w => clean_any (Pn.join l) w)
    have C4 := Lib.hid (fun w => clean_any ([47, 47, 46, 47] ++ Pn.join l ++ [47, 46, 47, 120, 47, 46, 46, 47, 47]) w)
    rw [Pn.clean_ok l hp] at C3
    rw [Pn.clean_more l hp] at C4
    rw [Pn.names_join l (Pn.path_name hp), hp] at C2
    rw [hc] at C1
    rw [bx_append, bx_append] at C4
    generalize (Pn.split (Pn.join l)).1 = L at C2
    have tp := bx_toList (Pn.join l)
    have tz := bx_size (Pn.join l)
    generalize Pn.join l = p at *
    obtain ⟨P, hP⟩ : ∃ P, P = bx p := ⟨_, rfl⟩
    obtain ⟨S, hS⟩ : ∃ S, S = bx s := ⟨_, rfl⟩
    try dsimp only at C1
    try dsimp only at C3
    try dsimp only at C4
    rw [← hS] at C1 ⊢
    rw [← hP] at C1 C2 C3 C4 tp tz
    have e1 : (p == p) = true := by simp
    clear hp hc hS hP
    go_enter Try.func9, Try.ntmps9
    go_wp2_with fail
    refine (C1.out _).mono ?_
    rintro e w1 ⟨rfl, b1⟩
    have B1 := Lib.hid b1
    clear b1
    go_wp2_with fail
    refine (C2.out _).mono ?_
    rintro e w2 ⟨v, rfl, _, b2⟩
    have B2 := Lib.hid (B1.out.trans (b2.mono B1.out.size))
    clear b2 B1
    simp only [ec]
    go_wp2_with fail
    refine (C3.out _).mono ?_
    rintro e w3 ⟨rfl, b3⟩
    have B3 := Lib.hid (B2.out.trans (b3.mono B2.out.size))
    clear b3 B2
    go_wp2_with fail
    refine (C4.out _).mono ?_
    rintro e w4 ⟨rfl, b4⟩
    have B4 := Lib.hid (B3.out.trans (b4.mono B3.out.size))
    clear b4 B3
    go_wp2_with fail
    refine (LV.out _).mono ?_
    rintro e w5 ⟨rfl, b5⟩
    go_wp2_with fail
    go_ret
    exact ⟨rfl, B4.out.trans (b5.mono B4.out.size)⟩
  · rw [hc] at C1
    generalize bx s = S at C1 ⊢
    clear hc
    have e0 : bx ([] : Tx) = ⟨#[]⟩ := rfl
    try dsimp only at C1
    rw [e0] at C1
    clear e0
    go_enter Try.func9, Try.ntmps9
    go_wp2_with fail
    refine (C1.out _).mono ?_
    rintro e w1 ⟨rfl, b1⟩
    go_wp2_with fail
    refine (LV.out _).mono ?_
    rintro e w2 ⟨rfl, b2⟩
    go_wp2_with fail
    go_ret
    exact ⟨rfl, b1.trans (b2.mono b1.size)⟩
  · rw [hc] at C1
    generalize bx s = S at C1 ⊢
    clear hc
    have e0 : bx ([] : Tx) = ⟨#[]⟩ := rfl
    try dsimp only at C1
    rw [e0] at C1
    clear e0
    go_enter Try.func9, Try.ntmps9
    go_wp2_with fail
    refine (C1.out _).mono ?_
    rintro e w1 ⟨rfl, b1⟩
    go_wp2_with fail
    refine (LV.out _).mono ?_
    rintro e w2 ⟨rfl, b2⟩
    go_wp2_with fail
    go_ret
    exact ⟨rfl, b1.trans (b2.mono b1.size)⟩

set_option maxRecDepth 100000 in
theorem pathAgain_lifted (os : Os) (started : os.Started) (H : Type) (enc : TypeId × Value → H) :
    ReturnsInHanded {} Try.checked os 9 .any (Rows.pathAgainSpec.pre6 enc Try.prog Try.f9 Rows.pathAgainRow.domain false) (Rows.pathAgainSpec.post enc Try.prog Try.f9 false true false false) := by
  refine returnsInHanded_of_change_sized (C := Try.checked) Try.own started (by kernel_rfl) Try.func9
    (ChangeSpec.witness6 (enc := enc) (C := Try.checked) false ⟨#[], #[.string ByteArray.empty], []⟩ 8 (by kernel_rfl) (by kernel_rfl) (by kernel_rfl) (by kernel_rfl)) ?_
  intro W base args ds gs before hval0 hW _ hsz0 _
  have hval : ∀ (j : Nat) t v, Try.f9.params[j]? = some t → args[j]? = some v → Value.okWide Try.prog W .any base t v := hval0
  have hsz : (DataW.weightsEach Try.prog (Try.f9.params.toList ++ Rows.pathAgainSpec.plain.varTypes Try.prog) (ds ++ gs)).all (· ≤ reachBytes) = true := hsz0
  have hW' := hW
  obtain ⟨p, q, hA0, hV, rfl, hfz, hnd⟩ := hW
  have hA : DataW.TrodAll enc Try.prog W 0 (fun _ => true) true Try.f9.params.toList args.toList ds p := hA0
  rw [Try.params9] at hA hval hsz
  obtain ⟨v0, vs0, d0, ds0, p0, q0, hargs, rfl, rfl, h0, r0⟩ := trodAll_cons hA
  obtain ⟨rfl, rfl, rfl⟩ := trodAll_nil r0
  obtain rfl : args = #[v0] := by cases args; simp_all
  obtain ⟨rfl, rfl⟩ := trodVars_none hV
  have k0 := h0
  have lt0 : ∀ x ∈ p0, x.block < W.heap.size := by obtain ⟨m, hm⟩ := k0; exact DataW.trod_lt m _ _ _ hm
  obtain ⟨S0, ev0, ed0, _, wn0⟩ := Go.ChangeMaps.open_string Try.underlying9 (hval 0 9 v0 rfl rfl) h0
  subst ev0
  obtain ⟨x0, rfl⟩ : ∃ x, S0 = bx x := ⟨S0.data.toList, (bx_of S0).symm⟩
  have ln0 : x0.length ≤ 9223372036854775807 := by rw [bx_size] at wn0; exact wn0
  clear hA0 hval0 hsz0
  refine (pathAgain_walk x0 W ln0).mono fun e W' ⟨he, bel⟩ => ?_
  subst he
  exact ⟨_, rfl, _, _, _, [], _, [], hW', trodAll_mk1 (shut_bool Try.underlying4 _), (trodAll_cons_mk (Below.trod Try.laidOut (by kernel_rfl) (of_decide_eq_true (by kernel_rfl)) k0 bel lt0) trodAll_mk0), rfl, bel.frame _, fun h => by cases h⟩

theorem pathAgain_proved : Rows.PathAgainSaid :=
  OpenClaim.holds_of_wide 9 Try.f9 rfl rfl rfl rfl rfl rfl rfl ⟨rfl, rfl, rfl, rfl, rfl⟩ rfl rfl rfl rfl rfl (by kernel_rfl) Try.func9 (by kernel_rfl)
    (of_decide_eq_true (by kernel_rfl)) (by unfold Func.isWrapper; rw [if_neg (of_decide_eq_false (by kernel_rfl))]; exact ⟨rfl, rfl⟩)
    (fun os started H enc _ => pathAgain_lifted os started H enc)
end Go.Proofs.Ytghoajhfndnafaa
