/- The statement PathSteps. It holds for every input, without a condition. -/
import Derived.Test.YtghoajhfndnafaaParg
import Derived.Test.YtghoajhfndnafaaPgrow

namespace Go.Proofs.Ytghoajhfndnafaa
set_option maxRecDepth 100000
open Go.ChangeShapes Go.WideShapes Go.ChangeAt Go.RowKit

set_option maxRecDepth 100000 in
set_option maxHeartbeats 4000000 in
theorem pathSteps_walk (p : Tx) (w : World) (_lp : p.length ≤ 9223372036854775807) :
    Calls Try.prog 12 #[.string (bx p)] w fun e w' => e = .returned (.bool true) ∧ Below w.heap.size w w' := by
  have C1 := Lib.hid (fun w => parent_any p w)
  have LV := Lib.hid lives_any
  by_cases hp : Pn.path (Pn.names p) = true ∧ Pn.names p ≠ []
  · obtain ⟨hp, h0⟩ := hp
    obtain ⟨m, hm⟩ : ∃ m, (Pn.names p).length = m + 1 := ⟨(Pn.names p).length - 1, by have := List.length_pos_iff.2 h0; omega⟩
    have hlt : m < (Pn.names p).length := by omega
    have h8 := Pn.path_len hp
    have hq : Pn.parent p = (Pn.join ((Pn.names p).take m), (Pn.names p)[m]'hlt, 0) := by
      unfold Pn.parent
      rw [hp, if_pos rfl, if_neg h0, List.dropLast_eq_take, List.getLast?_eq_getElem?, hm, Nat.add_sub_cancel, List.getElem?_eq_getElem hlt]
      rfl
    have hpt := Pn.path_take hp m
    have hnt := Pn.names_join _ (Pn.path_name hpt)
    have htl : ((Pn.names p).take m).length = m := by simp; omega
    have C2 := Lib.hid (fun w => split_any (Pn.join ((Pn.names p).take m)) w)
    have hall : (Pn.names p).take m ++ [(Pn.names p)[m]'hlt] = Pn.names p := by
      rw [← List.take_succ_eq_append_getElem hlt, ← hm, List.take_length]
    have C3 := Lib.hid (fun v w (h : Ss w v ((Pn.names p).take m ++ [(Pn.names p)[m]'hlt])) => join_any v _ w h (by rw [hall]; omega))
    have C4 := Lib.hid (fun w => under_any p (Pn.join ((Pn.names p).take m)) w)
    have C5 := Lib.hid (fun w => under_any (Pn.join ((Pn.names p).take m)) p w)
    have C6 := Lib.hid (fun w => name_any ((Pn.names p)[m]'hlt) w)
    have u1 : Pn.under p (Pn.join ((Pn.names p).take m)) = true := Pn.under_iff.2 ⟨hp, by rw [hnt]; exact hpt, by rw [hnt]; omega, by rw [hnt, htl]⟩
    have u2 : Pn.under (Pn.join ((Pn.names p).take m)) p = false := by
      rw [Bool.eq_false_iff]
      intro h
      have := (Pn.under_iff.1 h).2.2.1
      rw [hnt] at this
      omega
    have u3 : Pn.name ((Pn.names p)[m]'hlt) = true := Pn.path_name hp _ (List.getElem_mem hlt)
    have HA := Lib.hid (fun (w : World) (v : Value) (h : Ot w w.heap.size v ((Pn.names p).take m)) => h)
    rw [hq] at C1
    rw [split_fst, hnt, hpt, if_pos rfl] at C2
    have j1 : (Pn.joined (Pn.names p)).1 = p := by simp only [Pn.joined, hp, if_true]; exact Pn.join_names p
    have j2 : Pn.path ((Pn.names p).take m ++ [(Pn.names p)[m]'hlt]) = true := by rw [hall]; exact hp
    have j3 : (Pn.joined ((Pn.names p).take m ++ [(Pn.names p)[m]'hlt])).1 = p := by rw [hall]; exact j1
    rw [j2, j3] at C3
    rw [u1] at C4
    rw [u2] at C5
    rw [u3] at C6
    have htl2 : ((Pn.names p).take m).length ≤ 8 := by omega
    have tp := bx_toList p
    obtain ⟨D, hD⟩ : ∃ D, D = bx (Pn.join ((Pn.names p).take m)) := ⟨_, rfl⟩
    have HAP := Lib.hid (fun (w : World) (base : Nat) (v : Value) (h : Ot w base v ((Pn.names p).take m)) (hb : base ≤ w.heap.size) => h.grow ((Pn.names p)[m]'hlt) hb (by omega))
    obtain ⟨N, hN⟩ : ∃ N, N = bx ((Pn.names p)[m]'hlt) := ⟨_, rfl⟩
    obtain ⟨P, hP⟩ : ∃ P, P = bx p := ⟨_, rfl⟩
    dsimp only at C1
    rw [← hP] at C1 C3 C4 C5 tp ⊢
    rw [← hD] at C1 C2 C4 C5
    rw [← hN] at C1 C6 HAP
    have e1 : (p == p) = true := by simp
    generalize (Pn.names p).take m = L at *
    generalize (Pn.names p)[m]'hlt = X at *
    clear u1 u2 u3 j1 j2 j3 hq hpt hnt htl hall hp h0 hm h8 hD hN hP HA htl2
    go_enter Try.func12, Try.ntmps12
    go_wp2_with fail
    refine (C1.out _).mono ?_
    rintro e w1 ⟨rfl, b1⟩
    have B1 := Lib.hid b1
    clear b1
    go_wp2_with fail
    refine (C2.out _).mono ?_
    rintro e w2 ⟨v, rfl, ho, b2⟩
    have B2 := Lib.hid (B1.out.trans (b2.mono B1.out.size))
    have HB12 := Lib.hid b2.size
    obtain ⟨g, cc, w3, hrun, hss, hb3⟩ := HAP.out w2 _ v ho b2.size
    have B3 : Hid (Below w.heap.size w w3) := B2.out.trans (hb3.out _ B1.out.size)
    have HSS := Lib.hid hss.ss
    clear b2 ho hss
    simp only [ec]
    go_wp2_with (at_builtin; refine wpList_append_known rfl (.tmp 33) (.tmp 35) 22 rfl _ _ _ w3 rfl rfl hrun ?_)
    refine (C3.out _ _ HSS.out).mono ?_
    rintro e w4 ⟨rfl, b4⟩
    have B4 := Lib.hid (B3.out.trans (b4.mono B3.out.size))
    clear b4 B3
    simp only [ec]
    go_wp2_with fail
    refine (C4.out _).mono ?_
    rintro e w5 ⟨rfl, b5⟩
    have B5 := Lib.hid (B4.out.trans (b5.mono B4.out.size))
    clear b5 B4
    go_wp2_with fail
    refine (C5.out _).mono ?_
    rintro e w6 ⟨rfl, b6⟩
    have B6 := Lib.hid (B5.out.trans (b6.mono B5.out.size))
    clear b6 B5
    go_wp2_with fail
    refine (C6.out _).mono ?_
    rintro e w7 ⟨rfl, b7⟩
    have B7 := Lib.hid (B6.out.trans (b7.mono B6.out.size))
    clear b7 B6
    simp only [ec]
    go_wp2_with fail
    refine (LV.out _).mono ?_
    rintro e w8 ⟨rfl, b8⟩
    go_wp2_with fail
    go_ret
    exact ⟨rfl, B7.out.trans (b8.mono B7.out.size)⟩
  · have hq : Pn.parent p = ([], [], 9) ∨ Pn.parent p = ([], [], 8) := by
      unfold Pn.parent
      split
      · split
        · exact Or.inl rfl
        · rename_i h1 h2
          exact absurd ⟨h1, h2⟩ hp
      · exact Or.inr rfl
    have hq2 : ∃ e : Nat, ((e : Int) != 0) = true ∧ Pn.parent p = ([], [], e) := by
      rcases hq with h | h
      · exact ⟨9, by decide, h⟩
      · exact ⟨8, by decide, h⟩
    obtain ⟨ev, he, hq2⟩ := hq2
    rw [hq2] at C1
    have e0 : bx ([] : Tx) = ⟨#[]⟩ := rfl
    dsimp only at C1
    rw [e0] at C1
    generalize bx p = P at C1 ⊢
    clear e0 hq hq2 hp
    go_enter Try.func12, Try.ntmps12
    go_wp2_with fail
    refine (C1.out _).mono ?_
    rintro e w1 ⟨rfl, b1⟩
    go_wp2_with fail
    refine (LV.out _).mono ?_
    rintro e w2 ⟨rfl, b2⟩
    go_wp2_with fail
    go_ret
    exact ⟨rfl, b1.trans (b2.mono b1.size)⟩

set_option maxRecDepth 100000 in
theorem pathSteps_lifted (os : Os) (started : os.Started) (H : Type) (enc : TypeId × Value → H) :
    ReturnsInHanded {} Try.checked os 12 .any (Rows.pathStepsSpec.pre6 enc Try.prog Try.f12 Rows.pathStepsRow.domain false) (Rows.pathStepsSpec.post enc Try.prog Try.f12 false true false false) := by
  refine returnsInHanded_of_change_sized (C := Try.checked) Try.own started (by kernel_rfl) Try.func12
    (ChangeSpec.witness6 (enc := enc) (C := Try.checked) false ⟨#[], #[.string ByteArray.empty], []⟩ 8 (by kernel_rfl) (by kernel_rfl) (by kernel_rfl) (by kernel_rfl)) ?_
  intro W base args ds gs before hval0 hW _ hsz0 _
  have hval : ∀ (j : Nat) t v, Try.f12.params[j]? = some t → args[j]? = some v → Value.okWide Try.prog W .any base t v := hval0
  have hsz : (DataW.weightsEach Try.prog (Try.f12.params.toList ++ Rows.pathStepsSpec.plain.varTypes Try.prog) (ds ++ gs)).all (· ≤ reachBytes) = true := hsz0
  have hW' := hW
  obtain ⟨p, q, hA0, hV, rfl, hfz, hnd⟩ := hW
  have hA : DataW.TrodAll enc Try.prog W 0 (fun _ => true) true Try.f12.params.toList args.toList ds p := hA0
  rw [Try.params12] at hA hval hsz
  obtain ⟨v0, vs0, d0, ds0, p0, q0, hargs, rfl, rfl, h0, r0⟩ := trodAll_cons hA
  obtain ⟨rfl, rfl, rfl⟩ := trodAll_nil r0
  obtain rfl : args = #[v0] := by cases args; simp_all
  obtain ⟨rfl, rfl⟩ := trodVars_none hV
  have k0 := h0
  have lt0 : ∀ x ∈ p0, x.block < W.heap.size := by obtain ⟨m, hm⟩ := k0; exact DataW.trod_lt m _ _ _ hm
  obtain ⟨S0, ev0, ed0, _, wn0⟩ := Go.ChangeMaps.open_string Try.underlying9 (hval 0 9 v0 rfl rfl) h0
  subst ev0
  obtain ⟨x0, rfl⟩ : ∃ x, S0 = bx x := ⟨S0.data.toList, (bx_of S0).symm⟩
  have ln0 : x0.length ≤ 9223372036854775807 := by rw [bx_size] at wn0; exact wn0
  clear hA0 hval0 hsz0
  refine (pathSteps_walk x0 W ln0).mono fun e W' ⟨he, bel⟩ => ?_
  subst he
  exact ⟨_, rfl, _, _, _, [], _, [], hW', trodAll_mk1 (shut_bool Try.underlying4 _), (trodAll_cons_mk (Below.trod Try.laidOut (by kernel_rfl) (of_decide_eq_true (by kernel_rfl)) k0 bel lt0) trodAll_mk0), rfl, bel.frame _, fun h => by cases h⟩

theorem pathSteps_proved : Rows.PathStepsSaid :=
  OpenClaim.holds_of_wide 12 Try.f12 rfl rfl rfl rfl rfl rfl rfl ⟨rfl, rfl, rfl, rfl, rfl⟩ rfl rfl rfl rfl rfl (by kernel_rfl) Try.func12 (by kernel_rfl)
    (of_decide_eq_true (by kernel_rfl)) (by unfold Func.isWrapper; rw [if_neg (of_decide_eq_false (by kernel_rfl))]; exact ⟨rfl, rfl⟩)
    (fun os started H enc _ => pathSteps_lifted os started H enc)
end Go.Proofs.Ytghoajhfndnafaa
