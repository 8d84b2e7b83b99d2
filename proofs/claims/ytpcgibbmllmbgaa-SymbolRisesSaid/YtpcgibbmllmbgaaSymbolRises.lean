/- The statement SymbolRises: a greater distance has no lower symbol, and of one symbol the greater number; likewise lengths. It holds for every two integers, without a condition. -/
import Derived.Test.YtpcgibbmllmbgaaSback
import Derived.Test.YtpcgibbmllmbgaaSarg
namespace Go.Proofs.Ytpcgibbmllmbgaa
open Go.ChangeShapes Go.WideShapes Go.ChangeAt Go.RowKit

set_option maxHeartbeats 4000000 in
theorem rises_none (n m : Int) (w : World) (h : n < 1 ∨ m ≤ n ∨ 32768 < m) :
    Calls Try.prog 8 #[.int .i64 n, .int .i64 m] w fun e w' => e = .returned (.bool true) ∧ Below w.heap.size w w' := by
  by_cases h1 : n < 1
  · have t1 : decide (n < 1) = true := decide_eq_true h1
    clear h h1
    go_enter Try.func8, Try.ntmps8
    go_wp2_with fail
    refine (lives_any _).mono ?_
    rintro e w9 ⟨rfl, hb⟩
    have B9 := Lib.hid hb
    clear hb
    go_wp2_with fail
    go_ret
    exact ⟨rfl, B9.out⟩
  · have t1 : decide (n < 1) = false := decide_eq_false h1
    by_cases h2 : m ≤ n
    · have t2 : decide (m ≤ n) = true := decide_eq_true h2
      clear h h1 h2
      go_enter Try.func8, Try.ntmps8
      go_wp2_with fail
      refine (lives_any _).mono ?_
      rintro e w9 ⟨rfl, hb⟩
      have B9 := Lib.hid hb
      clear hb
      go_wp2_with fail
      go_ret
      exact ⟨rfl, B9.out⟩
    · have t2 : decide (m ≤ n) = false := decide_eq_false h2
      have t3 : decide (32768 < m) = true := decide_eq_true (by omega)
      clear h h1 h2
      go_enter Try.func8, Try.ntmps8
      go_wp2_with fail
      refine (lives_any _).mono ?_
      rintro e w9 ⟨rfl, hb⟩
      have B9 := Lib.hid hb
      clear hb
      go_wp2_with fail
      go_ret
      exact ⟨rfl, B9.out⟩

/-- The tests on two symbols and their numbers, as the walk has them. -/
structure Up (s v t u : Nat) (n m : Int) (z : Bool) : Prop where
  a : decide ((t : Int) < (s : Int)) = false
  a' : decide (t < s) = false
  b : decide ((s : Int) < (t : Int)) = !z
  b' : decide (s < t) = !z
  c : ((t : Int) == (s : Int)) = z
  c' : (t == s) = z
  d : z = true → ((u : Int) - (v : Int) != m - n) = false
  d' : z = true → ((u : Int) - (v : Int) == m - n) = true
theorem Up.of (s v t u : Nat) (n m : Int) (h1 : s ≤ t) (h2 : s = t → (u : Int) - (v : Int) = m - n) : ∃ z, Up s v t u n m z := by
  by_cases h : s = t
  · have e := h2 h
    subst h
    refine ⟨true, ⟨decide_eq_false (by omega), decide_eq_false (by omega), decide_eq_false (by omega), decide_eq_false (by omega), by simp, by simp, fun _ => ?_, fun _ => ?_⟩⟩
    · rw [e]; simp
    · rw [e]; simp
  · refine ⟨false, ⟨decide_eq_false (by omega), decide_eq_false (by omega), decide_eq_true (by omega), decide_eq_true (by omega), ?_, ?_, fun h => by simp at h, fun h => by simp at h⟩⟩
    · rw [beq_eq_false_iff_ne]; omega
    · rw [beq_eq_false_iff_ne]; omega

set_option maxHeartbeats 4000000 in
theorem rises_dist (n m : Int) (w : World) (h : 1 ≤ n) (h1 : n < m) (h2 : m ≤ 32768) (h3 : n < 3 ∨ 258 < m) :
    Calls Try.prog 8 #[.int .i64 n, .int .i64 m] w fun e w' => e = .returned (.bool true) ∧ Below w.heap.size w w' := by
  obtain ⟨s, v, t, u, e1, e2, hst, hup, ht, hv, hu⟩ := Sy.d_rises n m h h1 h2
  have m1 : ∀ w, Calls Try.prog 13 #[.int .i64 n] w (Three (s : Int) (v : Int) 0 w) := fun w => by have := dsym_go n w (by omega); rw [e1] at this; exact this
  have m2 : ∀ w, Calls Try.prog 13 #[.int .i64 m] w (Three (t : Int) (u : Int) 0 w) := fun w => by have := dsym_go m w (by omega); rw [e2] at this; exact this
  obtain ⟨z, hz⟩ := Up.of s v t u n m hst hup
  have M1 := Lib.hid m1
  have M2 := Lib.hid m2
  have t1 : decide (n < 1) = false := decide_eq_false (by omega)
  have t2 : decide (m ≤ n) = false := decide_eq_false (by omega)
  have t3 : decide (32768 < m) = false := decide_eq_false (by omega)
  clear m1 m2 e1 e2 hst hup
  obtain ⟨ha, ha', hb, hb', hc, hc', hd, hd'⟩ := hz
  by_cases h4 : n < 3
  · have t4 : decide (n < 3) = true := decide_eq_true h4
    clear h3 h4
    cases z
    · clear hd hd'
      go_enter Try.func8, Try.ntmps8
      go_wp2_with fail
      refine (M1.out _).mono ?_
      rintro e w1 ⟨rfl, hbb⟩
      have B1 := Lib.hid hbb
      clear hbb
      go_wp2_with fail
      refine (M2.out _).mono ?_
      rintro e w2 ⟨rfl, hbb⟩
      have B2 := Lib.hid (B1.out.trans (hbb.mono B1.out.size))
      clear hbb
      go_wp2_with fail
      refine (lives_any _).mono ?_
      rintro e w9 ⟨rfl, hbb⟩
      have B9 := Lib.hid (B2.out.trans (hbb.mono B2.out.size))
      clear hbb
      go_wp2_with fail
      go_ret
      exact ⟨rfl, B9.out⟩
    · have hd := hd rfl
      clear hd'
      go_enter Try.func8, Try.ntmps8
      go_wp2_with fail
      refine (M1.out _).mono ?_
      rintro e w1 ⟨rfl, hbb⟩
      have B1 := Lib.hid hbb
      clear hbb
      go_wp2_with fail
      refine (M2.out _).mono ?_
      rintro e w2 ⟨rfl, hbb⟩
      have B2 := Lib.hid (B1.out.trans (hbb.mono B1.out.size))
      clear hbb
      go_wp2_with fail
      refine (lives_any _).mono ?_
      rintro e w9 ⟨rfl, hbb⟩
      have B9 := Lib.hid (B2.out.trans (hbb.mono B2.out.size))
      clear hbb
      go_wp2_with fail
      go_ret
      exact ⟨rfl, B9.out⟩
  · have t4 : decide (n < 3) = false := decide_eq_false h4
    have t5 : decide (258 < m) = true := decide_eq_true (by omega)
    clear h3 h4
    cases z
    · clear hd hd'
      go_enter Try.func8, Try.ntmps8
      go_wp2_with fail
      refine (M1.out _).mono ?_
      rintro e w1 ⟨rfl, hbb⟩
      have B1 := Lib.hid hbb
      clear hbb
      go_wp2_with fail
      refine (M2.out _).mono ?_
      rintro e w2 ⟨rfl, hbb⟩
      have B2 := Lib.hid (B1.out.trans (hbb.mono B1.out.size))
      clear hbb
      go_wp2_with fail
      refine (lives_any _).mono ?_
      rintro e w9 ⟨rfl, hbb⟩
      have B9 := Lib.hid (B2.out.trans (hbb.mono B2.out.size))
      clear hbb
      go_wp2_with fail
      go_ret
      exact ⟨rfl, B9.out⟩
    · have hd := hd rfl
      clear hd'
      go_enter Try.func8, Try.ntmps8
      go_wp2_with fail
      refine (M1.out _).mono ?_
      rintro e w1 ⟨rfl, hbb⟩
      have B1 := Lib.hid hbb
      clear hbb
      go_wp2_with fail
      refine (M2.out _).mono ?_
      rintro e w2 ⟨rfl, hbb⟩
      have B2 := Lib.hid (B1.out.trans (hbb.mono B1.out.size))
      clear hbb
      go_wp2_with fail
      refine (lives_any _).mono ?_
      rintro e w9 ⟨rfl, hbb⟩
      have B9 := Lib.hid (B2.out.trans (hbb.mono B2.out.size))
      clear hbb
      go_wp2_with fail
      go_ret
      exact ⟨rfl, B9.out⟩

set_option maxHeartbeats 8000000 in
theorem rises_len (n m : Int) (w : World) (h : 3 ≤ n) (h1 : n < m) (h2 : m ≤ 258) :
    Calls Try.prog 8 #[.int .i64 n, .int .i64 m] w fun e w' => e = .returned (.bool true) ∧ Below w.heap.size w w' := by
  obtain ⟨s, v, t, u, e1, e2, hst, hup, ht, hv, hu⟩ := Sy.d_rises n m (by omega) h1 (by omega)
  have m1 : ∀ w, Calls Try.prog 13 #[.int .i64 n] w (Three (s : Int) (v : Int) 0 w) := fun w => by have := dsym_go n w (by omega); rw [e1] at this; exact this
  have m2 : ∀ w, Calls Try.prog 13 #[.int .i64 m] w (Three (t : Int) (u : Int) 0 w) := fun w => by have := dsym_go m w (by omega); rw [e2] at this; exact this
  obtain ⟨z, hz⟩ := Up.of s v t u n m hst hup
  obtain ⟨s2, v2, t2, u2, f1, f2, hst2, hup2, ht2, hv2, hu2⟩ := Sy.l_rises n m h h1 h2
  have m3 : ∀ w, Calls Try.prog 10 #[.int .i64 n] w (Three (s2 : Int) (v2 : Int) 0 w) := fun w => by have := lsym_go n w (by omega); rw [f1] at this; exact this
  have m4 : ∀ w, Calls Try.prog 10 #[.int .i64 m] w (Three (t2 : Int) (u2 : Int) 0 w) := fun w => by have := lsym_go m w (by omega); rw [f2] at this; exact this
  obtain ⟨z2, hz2⟩ := Up.of s2 v2 t2 u2 n m hst2 hup2
  have M1 := Lib.hid m1
  have M2 := Lib.hid m2
  have M3 := Lib.hid m3
  have M4 := Lib.hid m4
  have g1 : decide (n < 1) = false := decide_eq_false (by omega)
  have g2 : decide (m ≤ n) = false := decide_eq_false (by omega)
  have g3 : decide (32768 < m) = false := decide_eq_false (by omega)
  have g4 : decide (n < 3) = false := decide_eq_false (by omega)
  have g5 : decide (258 < m) = false := decide_eq_false (by omega)
  clear m1 m2 m3 m4 e1 e2 f1 f2 hst hup hst2 hup2
  obtain ⟨ha, ha', hb, hb', hc, hc', hd, hd'⟩ := hz
  obtain ⟨ia, ia', ib, ib', ic, ic', id, id'⟩ := hz2
  cases z
  · cases z2
    · clear hd hd'
      clear id id'
      go_enter Try.func8, Try.ntmps8
      go_wp2_with fail
      refine (M1.out _).mono ?_
      rintro e w1 ⟨rfl, hbb⟩
      have B1 := Lib.hid hbb
      clear hbb
      go_wp2_with fail
      refine (M2.out _).mono ?_
      rintro e w2 ⟨rfl, hbb⟩
      have B2 := Lib.hid (B1.out.trans (hbb.mono B1.out.size))
      clear hbb
      go_wp2_with fail
      refine (M3.out _).mono ?_
      rintro e w3 ⟨rfl, hbb⟩
      have B3 := Lib.hid (B2.out.trans (hbb.mono B2.out.size))
      clear hbb
      go_wp2_with fail
      refine (M4.out _).mono ?_
      rintro e w4 ⟨rfl, hbb⟩
      have B4 := Lib.hid (B3.out.trans (hbb.mono B3.out.size))
      clear hbb
      go_wp2_with fail
      refine (lives_any _).mono ?_
      rintro e w9 ⟨rfl, hbb⟩
      have B9 := Lib.hid (B4.out.trans (hbb.mono B4.out.size))
      clear hbb
      go_wp2_with fail
      go_ret
      exact ⟨rfl, B9.out⟩
    · clear hd hd'
      have id' := id' rfl
      clear id
      go_enter Try.func8, Try.ntmps8
      go_wp2_with fail
      refine (M1.out _).mono ?_
      rintro e w1 ⟨rfl, hbb⟩
      have B1 := Lib.hid hbb
      clear hbb
      go_wp2_with fail
      refine (M2.out _).mono ?_
      rintro e w2 ⟨rfl, hbb⟩
      have B2 := Lib.hid (B1.out.trans (hbb.mono B1.out.size))
      clear hbb
      go_wp2_with fail
      refine (M3.out _).mono ?_
      rintro e w3 ⟨rfl, hbb⟩
      have B3 := Lib.hid (B2.out.trans (hbb.mono B2.out.size))
      clear hbb
      go_wp2_with fail
      refine (M4.out _).mono ?_
      rintro e w4 ⟨rfl, hbb⟩
      have B4 := Lib.hid (B3.out.trans (hbb.mono B3.out.size))
      clear hbb
      go_wp2_with fail
      refine (lives_any _).mono ?_
      rintro e w9 ⟨rfl, hbb⟩
      have B9 := Lib.hid (B4.out.trans (hbb.mono B4.out.size))
      clear hbb
      go_wp2_with fail
      go_ret
      exact ⟨rfl, B9.out⟩
  · cases z2
    · have hd := hd rfl
      clear hd'
      clear id id'
      go_enter Try.func8, Try.ntmps8
      go_wp2_with fail
      refine (M1.out _).mono ?_
      rintro e w1 ⟨rfl, hbb⟩
      have B1 := Lib.hid hbb
      clear hbb
      go_wp2_with fail
      refine (M2.out _).mono ?_
      rintro e w2 ⟨rfl, hbb⟩
      have B2 := Lib.hid (B1.out.trans (hbb.mono B1.out.size))
      clear hbb
      go_wp2_with fail
      refine (M3.out _).mono ?_
      rintro e w3 ⟨rfl, hbb⟩
      have B3 := Lib.hid (B2.out.trans (hbb.mono B2.out.size))
      clear hbb
      go_wp2_with fail
      refine (M4.out _).mono ?_
      rintro e w4 ⟨rfl, hbb⟩
      have B4 := Lib.hid (B3.out.trans (hbb.mono B3.out.size))
      clear hbb
      go_wp2_with fail
      refine (lives_any _).mono ?_
      rintro e w9 ⟨rfl, hbb⟩
      have B9 := Lib.hid (B4.out.trans (hbb.mono B4.out.size))
      clear hbb
      go_wp2_with fail
      go_ret
      exact ⟨rfl, B9.out⟩
    · have hd := hd rfl
      clear hd'
      have id' := id' rfl
      clear id
      go_enter Try.func8, Try.ntmps8
      go_wp2_with fail
      refine (M1.out _).mono ?_
      rintro e w1 ⟨rfl, hbb⟩
      have B1 := Lib.hid hbb
      clear hbb
      go_wp2_with fail
      refine (M2.out _).mono ?_
      rintro e w2 ⟨rfl, hbb⟩
      have B2 := Lib.hid (B1.out.trans (hbb.mono B1.out.size))
      clear hbb
      go_wp2_with fail
      refine (M3.out _).mono ?_
      rintro e w3 ⟨rfl, hbb⟩
      have B3 := Lib.hid (B2.out.trans (hbb.mono B2.out.size))
      clear hbb
      go_wp2_with fail
      refine (M4.out _).mono ?_
      rintro e w4 ⟨rfl, hbb⟩
      have B4 := Lib.hid (B3.out.trans (hbb.mono B3.out.size))
      clear hbb
      go_wp2_with fail
      refine (lives_any _).mono ?_
      rintro e w9 ⟨rfl, hbb⟩
      have B9 := Lib.hid (B4.out.trans (hbb.mono B4.out.size))
      clear hbb
      go_wp2_with fail
      go_ret
      exact ⟨rfl, B9.out⟩

theorem symbolRises_walk (n m : Int) (w : World) (_ : -9223372036854775808 ≤ n) (_ : n ≤ 9223372036854775807) (_ : -9223372036854775808 ≤ m) (_ : m ≤ 9223372036854775807) :
    Calls Try.prog 8 #[.int .i64 n, .int .i64 m] w fun e w' => e = .returned (.bool true) ∧ Below w.heap.size w w' := by
  by_cases h1 : n < 1 ∨ m ≤ n ∨ 32768 < m
  · exact rises_none n m w h1
  by_cases h2 : n < 3 ∨ 258 < m
  · exact rises_dist n m w (by omega) (by omega) (by omega) h2
  · exact rises_len n m w (by omega) (by omega) (by omega)

set_option maxRecDepth 100000 in
theorem symbolRises_lifted (os : Os) (started : os.Started) (H : Type) (enc : TypeId × Value → H) :
    ReturnsInHanded {} Try.checked os 8 .any (Rows.symbolRisesSpec.pre6 enc Try.prog Try.f8 Rows.symbolRisesRow.domain false) (Rows.symbolRisesSpec.post enc Try.prog Try.f8 false true false false) := by
  refine returnsInHanded_of_change_sized (C := Try.checked) Try.own started (by kernel_rfl) Try.func8
    (ChangeSpec.witness6 (enc := enc) (C := Try.checked) false ⟨#[], #[.int .i64 0, .int .i64 0], []⟩ 8 (by kernel_rfl) (by kernel_rfl) (by kernel_rfl) (by kernel_rfl)) ?_
  intro W base args ds gs before hval0 hW _ hsz0 _
  have hval : ∀ (j : Nat) t v, Try.f8.params[j]? = some t → args[j]? = some v → Value.okWide Try.prog W .any base t v := hval0
  have hsz : (DataW.weightsEach Try.prog (Try.f8.params.toList ++ Rows.symbolRisesSpec.plain.varTypes Try.prog) (ds ++ gs)).all (· ≤ reachBytes) = true := hsz0
  have hW' := hW
  obtain ⟨p, q, hA0, hV, rfl, hfz, hnd⟩ := hW
  have hA : DataW.TrodAll enc Try.prog W 0 (fun _ => true) true Try.f8.params.toList args.toList ds p := hA0
  rw [Try.params8] at hA hval hsz
  obtain ⟨v0, vs0, d0, ds0, p0, q0, hargs, rfl, rfl, h0, r0⟩ := trodAll_cons hA
  obtain ⟨v1, vs1, d1, ds1, p1, q1, rfl, rfl, rfl, h1, r1⟩ := trodAll_cons r0
  obtain ⟨rfl, rfl, rfl⟩ := trodAll_nil r1
  obtain rfl : args = #[v0, v1] := by cases args; simp_all
  obtain ⟨rfl, rfl⟩ := trodVars_none hV
  have k0 := h0
  have lt0 : ∀ x ∈ p0, x.block < W.heap.size := by obtain ⟨m, hm⟩ := k0; exact DataW.trod_lt m _ _ _ hm
  obtain ⟨n0, ev0, _, _, wn0⟩ := open_int Try.underlying3 (hval 0 3 v0 rfl rfl) h0
  subst ev0
  obtain ⟨lo0, hi0⟩ := wf_bounds wn0
  have k1 := h1
  have lt1 : ∀ x ∈ p1, x.block < W.heap.size := by obtain ⟨m, hm⟩ := k1; exact DataW.trod_lt m _ _ _ hm
  obtain ⟨n1, ev1, _, _, wn1⟩ := open_int Try.underlying3 (hval 1 3 v1 rfl rfl) h1
  subst ev1
  obtain ⟨lo1, hi1⟩ := wf_bounds wn1
  clear hA0 hval0 hsz0
  refine (symbolRises_walk n0 n1 W lo0 hi0 lo1 hi1).mono fun e W' ⟨he, bel⟩ => ?_
  subst he
  exact ⟨_, rfl, _, _, _, [], _, [], hW', trodAll_mk1 (shut_bool Try.underlying4 _), (trodAll_cons_mk (Below.trod Try.laidOut (by kernel_rfl) (of_decide_eq_true (by kernel_rfl)) k0 bel lt0) (trodAll_cons_mk (Below.trod Try.laidOut (by kernel_rfl) (of_decide_eq_true (by kernel_rfl)) k1 bel lt1) trodAll_mk0)), rfl, bel.frame _, fun h => by cases h⟩

theorem symbolRises_proved : Rows.SymbolRisesSaid :=
  OpenClaim.holds_of_wide 8 Try.f8 rfl rfl rfl rfl rfl rfl rfl ⟨rfl, rfl, rfl, rfl, rfl⟩ rfl rfl rfl rfl rfl (by kernel_rfl) Try.func8 (by kernel_rfl)
    (of_decide_eq_true (by kernel_rfl)) (by unfold Func.isWrapper; rw [if_neg (of_decide_eq_false (by kernel_rfl))]; exact ⟨rfl, rfl⟩)
    (fun os started H enc _ => symbolRises_lifted os started H enc)
end Go.Proofs.Ytpcgibbmllmbgaa
