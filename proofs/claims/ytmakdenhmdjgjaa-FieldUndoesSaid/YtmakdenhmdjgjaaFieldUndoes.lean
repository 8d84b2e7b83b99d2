/- The statement FieldUndoes: Sub undoes Add, however far it goes; a product is that many times the same, one more is one sum more. It holds for every two integers, without a condition. -/
import Derived.Test.YtmakdenhmdjgjaaFlives
import Derived.Test.YtmakdenhmdjgjaaCarg
namespace Go.Proofs.Ytmakdenhmdjgjaa
open Go.ChangeShapes Go.WideShapes Go.ChangeAt Go.RowKit

theorem Fd.add_ok {a b : Int} (h : Fd.addE a b = 0) : Fd.addV a b = a + b ∧ Fd.isn a = true ∧ Fd.isn b = true ∧ Fd.isn (a + b) = true := by
  unfold Fd.addE Fd.addV Fd.both Fd.toldE Fd.toldV at *
  cases ha : Fd.isn a <;> cases hb : Fd.isn b <;> cases hc : Fd.isn (a + b) <;> simp_all
theorem Fd.mul_ok {a b : Int} (h : Fd.mulE a b = 0) : Fd.mulV a b = a * b ∧ Fd.isn a = true ∧ Fd.isn b = true ∧ Fd.isn (a * b) = true := by
  unfold Fd.mulE Fd.mulV Fd.both Fd.toldE Fd.toldV at *
  cases ha : Fd.isn a <;> cases hb : Fd.isn b <;> cases hc : Fd.isn (a * b) <;> simp_all
theorem Fd.undo {a b : Int} (h : Fd.addE a b = 0) : Fd.subV (Fd.addV a b) b = a ∧ Fd.subE (Fd.addV a b) b = 0 := by
  obtain ⟨h1, h2, h3, h4⟩ := Fd.add_ok h
  rw [h1]
  have e : a + b - b = a := by omega
  simp [Fd.subV, Fd.subE, Fd.both, h2, h3, h4, e, Fd.toldV, Fd.toldE]
theorem Fd.once_more {a b : Int} (h : Fd.mulE a b = 0) (hb : b < 4294967295) : Fd.mulV a (b + 1) = Fd.addV (Fd.mulV a b) a ∧ Fd.mulE a (b + 1) = Fd.addE (Fd.mulV a b) a := by
  obtain ⟨h1, h2, h3, h4⟩ := Fd.mul_ok h
  rw [h1]
  have hb1 : Fd.isn (b + 1) = true := by
    have := Fd.isn_of h3
    exact Fd.isn_yes (by omega) (by omega)
  have e : a * (b + 1) = a * b + a := by rw [Int.mul_add, Int.mul_one]
  simp [Fd.mulV, Fd.mulE, Fd.addV, Fd.addE, Fd.both, h2, hb1, h4, e]


set_option maxHeartbeats 4000000 in
theorem fieldUndoes_walk (x y : Int) (w : World) (_ : -9223372036854775808 ≤ x) (_ : x ≤ 9223372036854775807) (_ : -9223372036854775808 ≤ y) (_ : y ≤ 9223372036854775807) :
    Calls Try.prog 9 #[.int .i64 x, .int .i64 y] w fun e w' => e = .returned (.bool true) ∧ Below w.heap.size w w' := by
  have p1 := fun w => add_walk x y w
  have p2 : Fd.addE x y = 0 → ∀ w, Calls Try.prog 23 #[.int .i64 (Fd.addV x y), .int .i64 y] w fun e w' => e = .returned (.tuple #[.int .i64 x, .int .i64 0]) ∧ w = w' := by
    intro h w
    have := sub_walk (Fd.addV x y) y w
    rw [(Fd.undo h).1, (Fd.undo h).2] at this
    exact this
  have p3 := fun w => mul_walk x y w
  have hy : Fd.mulE x y = 0 → 0 ≤ y := fun h => (Fd.isn_of (Fd.mul_ok h).2.2.1).1
  have p4 : Fd.mulE x y = 0 → y < 4294967295 → ∃ q f, (∀ w, Calls Try.prog 25 #[.int .i64 x, .int .i64 (y + 1)] w fun e w' => e = .returned (.tuple #[.int .i64 q, .int .i64 f]) ∧ w = w') ∧ (∀ w, Calls Try.prog 21 #[.int .i64 (Fd.mulV x y), .int .i64 x] w fun e w' => e = .returned (.tuple #[.int .i64 q, .int .i64 f]) ∧ w = w') := by
    intro h hb
    refine ⟨_, _, fun w => mul_walk x (y + 1) w, fun w => ?_⟩
    rw [(Fd.once_more h hb).1, (Fd.once_more h hb).2]
    exact add_walk _ _ w
  generalize Fd.addV x y = v1 at p1 p2
  generalize Fd.addE x y = e1 at p1 p2
  generalize Fd.mulV x y = v3 at p3 p4
  generalize Fd.mulE x y = e3 at p3 p4 hy
  have P1 := Lib.hid p1
  have P3 := Lib.hid p3
  clear p1 p3
  by_cases a0 : e1 = 0
  · subst a0
    have P2 := Lib.hid (p2 rfl)
    clear p2
    by_cases m0 : e3 = 0
    · subst m0
      by_cases mb : y < 4294967295
      · obtain ⟨q, f, p5, p6⟩ := p4 rfl mb
        have hw : IntKind.i64.wrap (y + 1) = y + 1 := IntWalk.i64_in _ (by omega)
        have P4 := Lib.hid p5
        have P5 := Lib.hid p6
        clear p4 p5 p6 hy
        go_enter Try.func9, Try.ntmps9
        go_wp2_with fail
        refine (P1.out _).mono ?_
        rintro e w2 ⟨rfl, rfl⟩
        go_wp2_with fail
        refine (P2.out _).mono ?_
        rintro e w2 ⟨rfl, rfl⟩
        go_wp2_with fail
        refine (P3.out _).mono ?_
        rintro e w2 ⟨rfl, rfl⟩
        go_wp2_with fail
        refine (P4.out _).mono ?_
        rintro e w2 ⟨rfl, rfl⟩
        go_wp2_with fail
        refine (P5.out _).mono ?_
        rintro e w2 ⟨rfl, rfl⟩
        go_wp2_with fail
        refine (lives_any _).mono ?_
        rintro e w2 ⟨rfl, hb⟩
        have HB := Lib.hid hb
        clear hb
        go_wp2_with fail
        go_ret
        exact ⟨rfl, HB.out⟩
      · clear p4 hy
        have mb2 : 4294967295 ≤ y := by omega
        go_enter Try.func9, Try.ntmps9
        go_wp2_with fail
        refine (P1.out _).mono ?_
        rintro e w2 ⟨rfl, rfl⟩
        go_wp2_with fail
        refine (P2.out _).mono ?_
        rintro e w2 ⟨rfl, rfl⟩
        go_wp2_with fail
        refine (P3.out _).mono ?_
        rintro e w2 ⟨rfl, rfl⟩
        go_wp2_with fail
        refine (lives_any _).mono ?_
        rintro e w2 ⟨rfl, hb⟩
        have HB := Lib.hid hb
        clear hb
        go_wp2_with fail
        go_ret
        exact ⟨rfl, HB.out⟩
    · clear p4 hy
      go_enter Try.func9, Try.ntmps9
      go_wp2_with fail
      refine (P1.out _).mono ?_
      rintro e w2 ⟨rfl, rfl⟩
      go_wp2_with fail
      refine (P2.out _).mono ?_
      rintro e w2 ⟨rfl, rfl⟩
      go_wp2_with fail
      refine (P3.out _).mono ?_
      rintro e w2 ⟨rfl, rfl⟩
      go_wp2_with fail
      refine (lives_any _).mono ?_
      rintro e w2 ⟨rfl, hb⟩
      have HB := Lib.hid hb
      clear hb
      go_wp2_with fail
      go_ret
      exact ⟨rfl, HB.out⟩
  · clear p2
    by_cases m0 : e3 = 0
    · subst m0
      by_cases mb : y < 4294967295
      · obtain ⟨q, f, p5, p6⟩ := p4 rfl mb
        have hw : IntKind.i64.wrap (y + 1) = y + 1 := IntWalk.i64_in _ (by omega)
        have P4 := Lib.hid p5
        have P5 := Lib.hid p6
        clear p4 p5 p6 hy
        go_enter Try.func9, Try.ntmps9
        go_wp2_with fail
        refine (P1.out _).mono ?_
        rintro e w2 ⟨rfl, rfl⟩
        go_wp2_with fail
        refine (P3.out _).mono ?_
        rintro e w2 ⟨rfl, rfl⟩
        go_wp2_with fail
        refine (P4.out _).mono ?_
        rintro e w2 ⟨rfl, rfl⟩
        go_wp2_with fail
        refine (P5.out _).mono ?_
        rintro e w2 ⟨rfl, rfl⟩
        go_wp2_with fail
        refine (lives_any _).mono ?_
        rintro e w2 ⟨rfl, hb⟩
        have HB := Lib.hid hb
        clear hb
        go_wp2_with fail
        go_ret
        exact ⟨rfl, HB.out⟩
      · clear p4 hy
        have mb2 : 4294967295 ≤ y := by omega
        go_enter Try.func9, Try.ntmps9
        go_wp2_with fail
        refine (P1.out _).mono ?_
        rintro e w2 ⟨rfl, rfl⟩
        go_wp2_with fail
        refine (P3.out _).mono ?_
        rintro e w2 ⟨rfl, rfl⟩
        go_wp2_with fail
        refine (lives_any _).mono ?_
        rintro e w2 ⟨rfl, hb⟩
        have HB := Lib.hid hb
        clear hb
        go_wp2_with fail
        go_ret
        exact ⟨rfl, HB.out⟩
    · clear p4 hy
      go_enter Try.func9, Try.ntmps9
      go_wp2_with fail
      refine (P1.out _).mono ?_
      rintro e w2 ⟨rfl, rfl⟩
      go_wp2_with fail
      refine (P3.out _).mono ?_
      rintro e w2 ⟨rfl, rfl⟩
      go_wp2_with fail
      refine (lives_any _).mono ?_
      rintro e w2 ⟨rfl, hb⟩
      have HB := Lib.hid hb
      clear hb
      go_wp2_with fail
      go_ret
      exact ⟨rfl, HB.out⟩

set_option maxRecDepth 100000 in
theorem fieldUndoes_lifted (os : Os) (started : os.Started) (H : Type) (enc : TypeId × Value → H) :
    ReturnsInHanded {} Try.checked os 9 .any (Rows.fieldUndoesSpec.pre6 enc Try.prog Try.f9 Rows.fieldUndoesRow.domain false) (Rows.fieldUndoesSpec.post enc Try.prog Try.f9 false true false false) := by
  refine returnsInHanded_of_change_sized (C := Try.checked) Try.own started (by kernel_rfl) Try.func9
    (ChangeSpec.witness6 (enc := enc) (C := Try.checked) false ⟨#[], #[.int .i64 0, .int .i64 0], []⟩ 8 (by kernel_rfl) (by kernel_rfl) (by kernel_rfl) (by kernel_rfl)) ?_
  intro W base args ds gs before hval0 hW _ hsz0 _
  have hval : ∀ (j : Nat) t v, Try.f9.params[j]? = some t → args[j]? = some v → Value.okWide Try.prog W .any base t v := hval0
  have hsz : (DataW.weightsEach Try.prog (Try.f9.params.toList ++ Rows.fieldUndoesSpec.plain.varTypes Try.prog) (ds ++ gs)).all (· ≤ reachBytes) = true := hsz0
  have hW' := hW
  obtain ⟨p, q, hA0, hV, rfl, hfz, hnd⟩ := hW
  have hA : DataW.TrodAll enc Try.prog W 0 (fun _ => true) true Try.f9.params.toList args.toList ds p := hA0
  rw [Try.params9] at hA hval hsz
  obtain ⟨v0, vs0, d0, ds0, p0, q0, hargs, rfl, rfl, h0, r0⟩ := trodAll_cons hA
  obtain ⟨v1, vs1, d1, ds1, p1, q1, rfl, rfl, rfl, h1, r1⟩ := trodAll_cons r0
  obtain ⟨rfl, rfl, rfl⟩ := trodAll_nil r1
  obtain rfl : args = #[v0, v1] := by cases args; simp_all
  obtain ⟨rfl, rfl⟩ := trodVars_none hV
  have k0 := h0
  have lt0 : ∀ x ∈ p0, x.block < W.heap.size := by obtain ⟨m, hm⟩ := k0; exact DataW.trod_lt m _ _ _ hm
  obtain ⟨n0, ev0, _, _, wn0⟩ := open_int Try.underlying3 (hval 0 3 v0 rfl rfl) h0
  subst ev0
  obtain ⟨lo0, hi0⟩ := wf_bounds wn0
  have k1 := h1
  have lt1 : ∀ x ∈ p1, x.block < W.heap.size := by obtain ⟨m, hm⟩ := k1; exact DataW.trod_lt m _ _ _ hm
  obtain ⟨n1, ev1, _, _, wn1⟩ := open_int Try.underlying3 (hval 1 3 v1 rfl rfl) h1
  subst ev1
  obtain ⟨lo1, hi1⟩ := wf_bounds wn1
  clear hA0 hval0 hsz0
  refine (fieldUndoes_walk n0 n1 W lo0 hi0 lo1 hi1).mono fun e W' ⟨he, bel⟩ => ?_
  subst he
  exact ⟨_, rfl, _, _, _, [], _, [], hW', trodAll_mk1 (shut_bool Try.underlying4 _), (trodAll_cons_mk (Below.trod Try.laidOut (by kernel_rfl) (of_decide_eq_true (by kernel_rfl)) k0 bel lt0) (trodAll_cons_mk (Below.trod Try.laidOut (by kernel_rfl) (of_decide_eq_true (by kernel_rfl)) k1 bel lt1) trodAll_mk0)), rfl, bel.frame _, fun h => by cases h⟩

theorem fieldUndoes_proved : Rows.FieldUndoesSaid :=
  OpenClaim.holds_of_wide 9 Try.f9 rfl rfl rfl rfl rfl rfl rfl ⟨rfl, rfl, rfl, rfl, rfl⟩ rfl rfl rfl rfl rfl (by kernel_rfl) Try.func9 (by kernel_rfl)
    (of_decide_eq_true (by kernel_rfl)) (by unfold Func.isWrapper; rw [if_neg (of_decide_eq_false (by kernel_rfl))]; exact ⟨rfl, rfl⟩)
    (fun os started H enc _ => fieldUndoes_lifted os started H enc)
end Go.Proofs.Ytmakdenhmdjgjaa
