/- The statement PathOrder. It holds for every input, without a condition. -/
import Derived.Test.YtghoajhfndnafaaParg

namespace Go.Proofs.Ytghoajhfndnafaa
set_option maxRecDepth 100000
open Go.ChangeShapes Go.WideShapes Go.ChangeAt Go.RowKit

set_option maxHeartbeats 1000000 in
theorem sign_any (n : Int) (h : n = -1 ∨ n = 0 ∨ n = 1) (w : World) : Calls Try.prog 29 #[.int .i64 n] w fun e w' => e = .returned (.int .i64 n) ∧ w' = w := by
  have e1 : min (1 : Int) (max (-1) n) = n := by omega
  have e2 : max (-1 : Int) n = n := by omega
  have e3 : min (1 : Int) n = n := by omega
  clear h
  go_enter Try.func29, Try.ntmps29
  go_wp2_with fail
  go_ret
  exact ⟨rfl, rfl⟩

set_option maxRecDepth 100000 in
set_option maxHeartbeats 4000000 in
theorem pathOrder_walk (a b c : Tx) (w : World) (la : a.length ≤ 9223372036854775807) (lb : b.length ≤ 9223372036854775807) (lc : c.length ≤ 9223372036854775807) :
    Calls Try.prog 10 #[.string (bx a), .string (bx b), .string (bx c)] w fun e w' => e = .returned (.bool true) ∧ Below w.heap.size w w' := by
  have C1 := Lib.hid (fun w => compare_any a b w la lb)
  have C2 := Lib.hid (fun w => compare_any b c w lb lc)
  have C3 := Lib.hid (fun w => compare_any a c w la lc)
  have C4 := Lib.hid (fun w => compare_any b a w lb la)
  have C5 := Lib.hid (fun w => compare_any a a w la la)
  have O := Pn.cmp_ord
  have x1 := O.r a b
  have y1 := O.r b c
  have z1 := O.r a c
  have x2 := O.e a b
  have x3 := O.s a b
  have x4 := (O.e a a).2 rfl
  have x5 := O.t a b c
  have x6 := O.tight a b c
  rw [x3] at C4
  rw [x4] at C5
  have ta := bx_toList a
  have tb := bx_toList b
  obtain ⟨A, hA⟩ : ∃ A, A = bx a := ⟨_, rfl⟩
  obtain ⟨B, hB⟩ : ∃ B, B = bx b := ⟨_, rfl⟩
  obtain ⟨C, hC⟩ : ∃ C, C = bx c := ⟨_, rfl⟩
  rw [← hA] at C1 C3 C4 C5 ta ⊢
  rw [← hB] at C1 C2 C4 tb ⊢
  rw [← hC] at C2 C3 ⊢
  generalize Pn.cmp a b = x at *
  generalize Pn.cmp b c = y at *
  generalize Pn.cmp a c = z at *
  have hs := Lib.hid (fun w => sign_any x x1 w)
  have LV := Lib.hid lives_any
  have hneg : IntKind.i64.wrap (-x) = -x := IntWalk.i64_in _ (by omega)
  have hab : x ≠ 0 ∨ (a == b) = true := by
    by_cases h : x = 0
    · right; simpa using x2.1 h
    · left; exact h
  clear O x2 x3 x4 hA hB hC la lb lc
  go_enter Try.func10, Try.ntmps10
  go_wp2_with fail
  refine (C1.out _).mono ?_
  rintro e w1 ⟨rfl, b1⟩
  have B1 := Lib.hid b1
  clear b1
  go_wp2_with fail
  refine (C2.out _).mono ?_
  rintro e w2 ⟨rfl, b2⟩
  have B2 := Lib.hid (B1.out.trans (b2.mono B1.out.size))
  clear b2 B1
  go_wp2_with fail
  refine (C3.out _).mono ?_
  rintro e w3 ⟨rfl, b3⟩
  have B3 := Lib.hid (B2.out.trans (b3.mono B2.out.size))
  clear b3 B2
  go_wp2_with fail
  refine (hs.out _).mono ?_
  rintro e w' ⟨rfl, rfl⟩
  have n1 : (x != x) = false := by simp
  go_wp2_with fail
  refine (C4.out _).mono ?_
  rintro e w4 ⟨rfl, b4⟩
  have B4 := Lib.hid (B3.out.trans (b4.mono B3.out.size))
  clear b4 B3
  have n2 : ((-x) != (-x)) = false := by simp
  go_wp2_with fail
  refine (C5.out _).mono ?_
  rintro e w5 ⟨rfl, b5⟩
  have B5 := Lib.hid (B4.out.trans (b5.mono B4.out.size))
  clear b5 B4
  have LB := Lib.hid (fun e w' (h : Below w5.heap.size w5 w') (he : e = Ending.returned (.bool true)) => (⟨he, B5.out.trans (h.mono B5.out.size)⟩ : e = Ending.returned (.bool true) ∧ Below w.heap.size w w'))
  clear hneg hs C1 C2 C3 C4 C5 n1 n2 B5
  rcases x1 with rfl | rfl | rfl <;> rcases y1 with rfl | rfl | rfl <;> rcases z1 with rfl | rfl | rfl
  all_goals first
    | (exfalso; omega)
    | (have hab2 : (a == b) = true := by rcases hab with h | h
                                         · exact absurd rfl h
                                         · exact h
       clear x5 x6 hab
       go_wp2_with fail
       refine (LV.out _).mono ?_
       rintro e w6 ⟨rfl, b6⟩
       go_wp2_with fail
       go_ret
       exact LB.out _ _ b6 rfl)
    | (clear x5 x6 hab
       go_wp2_with fail
       refine (LV.out _).mono ?_
       rintro e w6 ⟨rfl, b6⟩
       go_wp2_with fail
       go_ret
       exact LB.out _ _ b6 rfl)

set_option maxRecDepth 100000 in
theorem pathOrder_lifted (os : Os) (started : os.Started) (H : Type) (enc : TypeId × Value → H) :
    ReturnsInHanded {} Try.checked os 10 .any (Rows.pathOrderSpec.pre6 enc Try.prog Try.f10 Rows.pathOrderRow.domain false) (Rows.pathOrderSpec.post enc Try.prog Try.f10 false true false false) := by
  refine returnsInHanded_of_change_sized (C := Try.checked) Try.own started (by kernel_rfl) Try.func10
    (ChangeSpec.witness6 (enc := enc) (C := Try.checked) false ⟨#[], #[.string ByteArray.empty, .string ByteArray.empty, .string ByteArray.empty], []⟩ 8 (by kernel_rfl) (by kernel_rfl) (by kernel_rfl) (by kernel_rfl)) ?_
  intro W base args ds gs before hval0 hW _ hsz0 _
  have hval : ∀ (j : Nat) t v, Try.f10.params[j]? = some t → args[j]? = some v → Value.okWide Try.prog W .any base t v := hval0
  have hsz : (DataW.weightsEach Try.prog (Try.f10.params.toList ++ Rows.pathOrderSpec.plain.varTypes Try.prog) (ds ++ gs)).all (· ≤ reachBytes) = true := hsz0
  have hW' := hW
  obtain ⟨p, q, hA0, hV, rfl, hfz, hnd⟩ := hW
  have hA : DataW.TrodAll enc Try.prog W 0 (fun _ => true) true Try.f10.params.toList args.toList ds p := hA0
  rw [Try.params10] at hA hval hsz
  obtain ⟨v0, vs0, d0, ds0, p0, q0, hargs, rfl, rfl, h0, r0⟩ := trodAll_cons hA
  obtain ⟨v1, vs1, d1, ds1, p1, q1, rfl, rfl, rfl, h1, r1⟩ := trodAll_cons r0
  obtain ⟨v2, vs2, d2, ds2, p2, q2, rfl, rfl, rfl, h2, r2⟩ := trodAll_cons r1
  obtain ⟨rfl, rfl, rfl⟩ := trodAll_nil r2
  obtain rfl : args = #[v0, v1, v2] := by cases args; simp_all
  obtain ⟨rfl, rfl⟩ := trodVars_none hV
  have k0 := h0
  have lt0 : ∀ x ∈ p0, x.block < W.heap.size := by obtain ⟨m, hm⟩ := k0; exact DataW.trod_lt m _ _ _ hm
  obtain ⟨S0, ev0, ed0, _, wn0⟩ := Go.ChangeMaps.open_string Try.underlying9 (hval 0 9 v0 rfl rfl) h0
  subst ev0
  obtain ⟨x0, rfl⟩ : ∃ x, S0 = bx x := ⟨S0.data.toList, (bx_of S0).symm⟩
  have ln0 : x0.length ≤ 9223372036854775807 := by rw [bx_size] at wn0; exact wn0
  have k1 := h1
  have lt1 : ∀ x ∈ p1, x.block < W.heap.size := by obtain ⟨m, hm⟩ := k1; exact DataW.trod_lt m _ _ _ hm
  obtain ⟨S1, ev1, ed1, _, wn1⟩ := Go.ChangeMaps.open_string Try.underlying9 (hval 1 9 v1 rfl rfl) h1
  subst ev1
  obtain ⟨x1, rfl⟩ : ∃ x, S1 = bx x := ⟨S1.data.toList, (bx_of S1).symm⟩
  have ln1 : x1.length ≤ 9223372036854775807 := by rw [bx_size] at wn1; exact wn1
  have k2 := h2
  have lt2 : ∀ x ∈ p2, x.block < W.heap.size := by obtain ⟨m, hm⟩ := k2; exact DataW.trod_lt m _ _ _ hm
  obtain ⟨S2, ev2, ed2, _, wn2⟩ := Go.ChangeMaps.open_string Try.underlying9 (hval 2 9 v2 rfl rfl) h2
  subst ev2
  obtain ⟨x2, rfl⟩ : ∃ x, S2 = bx x := ⟨S2.data.toList, (bx_of S2).symm⟩
  have ln2 : x2.length ≤ 9223372036854775807 := by rw [bx_size] at wn2; exact wn2
  clear hA0 hval0 hsz0
  refine (pathOrder_walk x0 x1 x2 W ln0 ln1 ln2).mono fun e W' ⟨he, bel⟩ => ?_
  subst he
  exact ⟨_, rfl, _, _, _, [], _, [], hW', trodAll_mk1 (shut_bool Try.underlying4 _), (trodAll_cons_mk (Below.trod Try.laidOut (by kernel_rfl) (of_decide_eq_true (by kernel_rfl)) k0 bel lt0) (trodAll_cons_mk (Below.trod Try.laidOut (by kernel_rfl) (of_decide_eq_true (by kernel_rfl)) k1 bel lt1) (trodAll_cons_mk (Below.trod Try.laidOut (by kernel_rfl) (of_decide_eq_true (by kernel_rfl)) k2 bel lt2) trodAll_mk0))), rfl, bel.frame _, fun h => by cases h⟩

theorem pathOrder_proved : Rows.PathOrderSaid :=
  OpenClaim.holds_of_wide 10 Try.f10 rfl rfl rfl rfl rfl rfl rfl ⟨rfl, rfl, rfl, rfl, rfl⟩ rfl rfl rfl rfl rfl (by kernel_rfl) Try.func10 (by kernel_rfl)
    (of_decide_eq_true (by kernel_rfl)) (by unfold Func.isWrapper; rw [if_neg (of_decide_eq_false (by kernel_rfl))]; exact ⟨rfl, rfl⟩)
    (fun os started H enc _ => pathOrder_lifted os started H enc)
end Go.Proofs.Ytghoajhfndnafaa
