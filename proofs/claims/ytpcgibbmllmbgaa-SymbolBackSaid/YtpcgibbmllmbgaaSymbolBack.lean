/- The statement SymbolBack: a length, a distance, is that of its symbol and the number beside it. It holds for every integer, without a condition. -/
import Derived.Test.YtpcgibbmllmbgaaSback
import Derived.Test.YtpcgibbmllmbgaaSarg
namespace Go.Proofs.Ytpcgibbmllmbgaa
open Go.ChangeShapes Go.WideShapes Go.ChangeAt Go.RowKit

set_option maxHeartbeats 4000000 in
theorem back_a (n : Int) (w : World) (h : n < 1) (hi : n ≤ 9223372036854775807) :
    Calls Try.prog 7 #[.int .i64 n] w fun e w' => e = .returned (.bool true) ∧ Below w.heap.size w w' := by
  have t0 : decide (3 ≤ n) = false := decide_eq_false (by omega)
  have t1 : decide (n < 1) = true := decide_eq_true (by omega)
  have m1 : ∀ w, Calls Try.prog 13 #[.int .i64 n] w (Three 0 0 2 w) := fun w => by have := dsym_go n w hi; rw [Sy.d_none n (by omega)] at this; exact this
  have M1 := Lib.hid m1
  clear m1
  go_enter Try.func7, Try.ntmps7
  go_wp2_with fail
  refine (M1.out _).mono ?_
  rintro e w1 ⟨rfl, hb⟩
  have B1 := Lib.hid hb
  clear hb
  go_wp2_with fail
  refine (lives_any _).mono ?_
  rintro e w9 ⟨rfl, hb⟩
  have B9 := Lib.hid (B1.out.trans (hb.mono B1.out.size))
  clear hb
  go_wp2_with fail
  go_ret
  exact ⟨rfl, B9.out⟩

set_option maxHeartbeats 4000000 in
theorem back_b (n : Int) (w : World) (h : 1 ≤ n) (h2 : n < 3) (hi : n ≤ 9223372036854775807) :
    Calls Try.prog 7 #[.int .i64 n] w fun e w' => e = .returned (.bool true) ∧ Below w.heap.size w w' := by
  have t0 : decide (3 ≤ n) = false := decide_eq_false (by omega)
  have t1 : decide (n < 1) = false := decide_eq_false (by omega)
  have t2 : decide (32768 < n) = false := decide_eq_false (by omega)
  obtain ⟨k2, d2, hk2, hd2, f1, f2, f3⟩ := Sy.d_back n (by omega) (by omega)
  have m1 : ∀ w, Calls Try.prog 13 #[.int .i64 n] w (Three (k2 : Int) (d2 : Int) 0 w) := fun w => by have := dsym_go n w hi; rw [f1] at this; exact this
  have m2 : ∀ w, Calls Try.prog 21 #[.int .i64 (k2 : Int), .int .i64 (d2 : Int)] w (Two n 0 w) := fun w => by have := dnum_go (k2 : Int) (d2 : Int) w; rw [f2, f3] at this; exact this
  have g1 : decide (0 ≤ (k2 : Int)) = true := decide_eq_true (by omega)
  have g2 : decide ((k2 : Int) ≤ 29) = true := decide_eq_true (by omega)
  have g2' : decide (k2 ≤ 29) = true := decide_eq_true (by omega)
  have g3 : (n == n) = true := by simp
  have M1 := Lib.hid m1
  have M2 := Lib.hid m2
  clear m1 m2 f1 f2 f3
  go_enter Try.func7, Try.ntmps7
  go_wp2_with fail
  refine (M1.out _).mono ?_
  rintro e w1 ⟨rfl, hb⟩
  have B1 := Lib.hid hb
  clear hb
  go_wp2_with fail
  refine (M2.out _).mono ?_
  rintro e w2 ⟨rfl, hb⟩
  have B2 := Lib.hid (B1.out.trans (hb.mono B1.out.size))
  clear hb
  go_wp2_with fail
  refine (lives_any _).mono ?_
  rintro e w9 ⟨rfl, hb⟩
  have B9 := Lib.hid (B2.out.trans (hb.mono B2.out.size))
  clear hb
  go_wp2_with fail
  go_ret
  exact ⟨rfl, B9.out⟩

set_option maxHeartbeats 4000000 in
theorem back_c (n : Int) (w : World) (h : 3 ≤ n) (h2 : n ≤ 258) (hi : n ≤ 9223372036854775807) :
    Calls Try.prog 7 #[.int .i64 n] w fun e w' => e = .returned (.bool true) ∧ Below w.heap.size w w' := by
  have t0 : decide (3 ≤ n) = true := decide_eq_true (by omega)
  have t1 : decide (n ≤ 258) = true := decide_eq_true (by omega)
  have t2 : decide (n < 1) = false := decide_eq_false (by omega)
  have t3 : decide (32768 < n) = false := decide_eq_false (by omega)
  obtain ⟨k, d, hk, hd, e1, e2, e3⟩ := Sy.l_back n (by omega) (by omega)
  have l1 : ∀ w, Calls Try.prog 10 #[.int .i64 n] w (Three ((257 + k : Nat) : Int) (d : Int) 0 w) := fun w => by have := lsym_go n w hi; rw [e1] at this; exact this
  have l2 : ∀ w, Calls Try.prog 17 #[.int .i64 ((257 + k : Nat) : Int), .int .i64 (d : Int)] w (Two n 0 w) := fun w => by have := lnum_go ((257 + k : Nat) : Int) (d : Int) w; rw [e2, e3] at this; exact this
  obtain ⟨s, hs⟩ : ∃ s, s = 257 + k := ⟨_, rfl⟩
  rw [← hs] at l1 l2
  have s1 : decide ((s : Int) < 257) = false := decide_eq_false (by omega)
  have s2 : decide (285 < (s : Int)) = false := decide_eq_false (by omega)
  have s1' : decide (s < 257) = false := decide_eq_false (by omega)
  have s2' : decide (285 < s) = false := decide_eq_false (by omega)
  have n1 : (n != n) = false := by simp
  have L1 := Lib.hid l1
  have L2 := Lib.hid l2
  clear l1 l2 e1 e2 e3 hs hk hd
  obtain ⟨k2, d2, hk2, hd2, f1, f2, f3⟩ := Sy.d_back n (by omega) (by omega)
  have m1 : ∀ w, Calls Try.prog 13 #[.int .i64 n] w (Three (k2 : Int) (d2 : Int) 0 w) := fun w => by have := dsym_go n w hi; rw [f1] at this; exact this
  have m2 : ∀ w, Calls Try.prog 21 #[.int .i64 (k2 : Int), .int .i64 (d2 : Int)] w (Two n 0 w) := fun w => by have := dnum_go (k2 : Int) (d2 : Int) w; rw [f2, f3] at this; exact this
  have g1 : decide (0 ≤ (k2 : Int)) = true := decide_eq_true (by omega)
  have g2 : decide ((k2 : Int) ≤ 29) = true := decide_eq_true (by omega)
  have g2' : decide (k2 ≤ 29) = true := decide_eq_true (by omega)
  have g3 : (n == n) = true := by simp
  have M1 := Lib.hid m1
  have M2 := Lib.hid m2
  clear m1 m2 f1 f2 f3
  go_enter Try.func7, Try.ntmps7
  go_wp2_with fail
  refine (L1.out _).mono ?_
  rintro e w1 ⟨rfl, hb⟩
  have B1 := Lib.hid hb
  clear hb
  go_wp2_with fail
  refine (L2.out _).mono ?_
  rintro e w2 ⟨rfl, hb⟩
  have B2 := Lib.hid (B1.out.trans (hb.mono B1.out.size))
  clear hb
  go_wp2_with fail
  refine (M1.out _).mono ?_
  rintro e w3 ⟨rfl, hb⟩
  have B3 := Lib.hid (B2.out.trans (hb.mono B2.out.size))
  clear hb
  go_wp2_with fail
  refine (M2.out _).mono ?_
  rintro e w4 ⟨rfl, hb⟩
  have B4 := Lib.hid (B3.out.trans (hb.mono B3.out.size))
  clear hb
  go_wp2_with fail
  refine (lives_any _).mono ?_
  rintro e w9 ⟨rfl, hb⟩
  have B9 := Lib.hid (B4.out.trans (hb.mono B4.out.size))
  clear hb
  go_wp2_with fail
  go_ret
  exact ⟨rfl, B9.out⟩

set_option maxHeartbeats 4000000 in
theorem back_d (n : Int) (w : World) (h : 258 < n) (h2 : n ≤ 32768) (hi : n ≤ 9223372036854775807) :
    Calls Try.prog 7 #[.int .i64 n] w fun e w' => e = .returned (.bool true) ∧ Below w.heap.size w w' := by
  have t0 : decide (3 ≤ n) = true := decide_eq_true (by omega)
  have t1 : decide (n ≤ 258) = false := decide_eq_false (by omega)
  have t2 : decide (n < 1) = false := decide_eq_false (by omega)
  have t3 : decide (32768 < n) = false := decide_eq_false (by omega)
  obtain ⟨k2, d2, hk2, hd2, f1, f2, f3⟩ := Sy.d_back n (by omega) (by omega)
  have m1 : ∀ w, Calls Try.prog 13 #[.int .i64 n] w (Three (k2 : Int) (d2 : Int) 0 w) := fun w => by have := dsym_go n w hi; rw [f1] at this; exact this
  have m2 : ∀ w, Calls Try.prog 21 #[.int .i64 (k2 : Int), .int .i64 (d2 : Int)] w (Two n 0 w) := fun w => by have := dnum_go (k2 : Int) (d2 : Int) w; rw [f2, f3] at this; exact this
  have g1 : decide (0 ≤ (k2 : Int)) = true := decide_eq_true (by omega)
  have g2 : decide ((k2 : Int) ≤ 29) = true := decide_eq_true (by omega)
  have g2' : decide (k2 ≤ 29) = true := decide_eq_true (by omega)
  have g3 : (n == n) = true := by simp
  have M1 := Lib.hid m1
  have M2 := Lib.hid m2
  clear m1 m2 f1 f2 f3
  go_enter Try.func7, Try.ntmps7
  go_wp2_with fail
  refine (M1.out _).mono ?_
  rintro e w1 ⟨rfl, hb⟩
  have B1 := Lib.hid hb
  clear hb
  go_wp2_with fail
  refine (M2.out _).mono ?_
  rintro e w2 ⟨rfl, hb⟩
  have B2 := Lib.hid (B1.out.trans (hb.mono B1.out.size))
  clear hb
  go_wp2_with fail
  refine (lives_any _).mono ?_
  rintro e w9 ⟨rfl, hb⟩
  have B9 := Lib.hid (B2.out.trans (hb.mono B2.out.size))
  clear hb
  go_wp2_with fail
  go_ret
  exact ⟨rfl, B9.out⟩

set_option maxHeartbeats 4000000 in
theorem back_e (n : Int) (w : World) (h : 32768 < n) (hi : n ≤ 9223372036854775807) :
    Calls Try.prog 7 #[.int .i64 n] w fun e w' => e = .returned (.bool true) ∧ Below w.heap.size w w' := by
  have t0 : decide (3 ≤ n) = true := decide_eq_true (by omega)
  have t1 : decide (n ≤ 258) = false := decide_eq_false (by omega)
  have t2 : decide (n < 1) = false := decide_eq_false (by omega)
  have t3 : decide (32768 < n) = true := decide_eq_true (by omega)
  have m1 : ∀ w, Calls Try.prog 13 #[.int .i64 n] w (Three 0 0 2 w) := fun w => by have := dsym_go n w hi; rw [Sy.d_none n (by omega)] at this; exact this
  have M1 := Lib.hid m1
  clear m1
  go_enter Try.func7, Try.ntmps7
  go_wp2_with fail
  refine (M1.out _).mono ?_
  rintro e w1 ⟨rfl, hb⟩
  have B1 := Lib.hid hb
  clear hb
  go_wp2_with fail
  refine (lives_any _).mono ?_
  rintro e w9 ⟨rfl, hb⟩
  have B9 := Lib.hid (B1.out.trans (hb.mono B1.out.size))
  clear hb
  go_wp2_with fail
  go_ret
  exact ⟨rfl, B9.out⟩

theorem symbolBack_walk (n : Int) (w : World) (_ : -9223372036854775808 ≤ n) (hi : n ≤ 9223372036854775807) :
    Calls Try.prog 7 #[.int .i64 n] w fun e w' => e = .returned (.bool true) ∧ Below w.heap.size w w' := by
  by_cases h1 : n < 1
  · exact back_a n w h1 hi
  by_cases h2 : n < 3
  · exact back_b n w (by omega) h2 hi
  by_cases h3 : n ≤ 258
  · exact back_c n w (by omega) h3 hi
  by_cases h4 : n ≤ 32768
  · exact back_d n w (by omega) h4 hi
  · exact back_e n w (by omega) hi

set_option maxRecDepth 100000 in
theorem symbolBack_lifted (os : Os) (started : os.Started) (H : Type) (enc : TypeId × Value → H) :
    ReturnsInHanded {} Try.checked os 7 .any (Rows.symbolBackSpec.pre6 enc Try.prog Try.f7 Rows.symbolBackRow.domain false) (Rows.symbolBackSpec.post enc Try.prog Try.f7 false true false false) := by
  refine returnsInHanded_of_change_sized (C := Try.checked) Try.own started (by kernel_rfl) Try.func7
    (ChangeSpec.witness6 (enc := enc) (C := Try.checked) false ⟨#[], #[.int .i64 0], []⟩ 8 (by kernel_rfl) (by kernel_rfl) (by kernel_rfl) (by kernel_rfl)) ?_
  intro W base args ds gs before hval0 hW _ hsz0 _
  have hval : ∀ (j : Nat) t v, Try.f7.params[j]? = some t → args[j]? = some v → Value.okWide Try.prog W .any base t v := hval0
  have hsz : (DataW.weightsEach Try.prog (Try.f7.params.toList ++ Rows.symbolBackSpec.plain.varTypes Try.prog) (ds ++ gs)).all (· ≤ reachBytes) = true := hsz0
  have hW' := hW
  obtain ⟨p, q, hA0, hV, rfl, hfz, hnd⟩ := hW
  have hA : DataW.TrodAll enc Try.prog W 0 (fun _ => true) true Try.f7.params.toList args.toList ds p := hA0
  rw [Try.params7] at hA hval hsz
  obtain ⟨v0, vs0, d0, ds0, p0, q0, hargs, rfl, rfl, h0, r0⟩ := trodAll_cons hA
  obtain ⟨rfl, rfl, rfl⟩ := trodAll_nil r0
  obtain rfl : args = #[v0] := by cases args; simp_all
  obtain ⟨rfl, rfl⟩ := trodVars_none hV
  have k0 := h0
  have lt0 : ∀ x ∈ p0, x.block < W.heap.size := by obtain ⟨m, hm⟩ := k0; exact DataW.trod_lt m _ _ _ hm
  obtain ⟨n0, ev0, _, _, wn0⟩ := open_int Try.underlying3 (hval 0 3 v0 rfl rfl) h0
  subst ev0
  obtain ⟨lo0, hi0⟩ := wf_bounds wn0
  clear hA0 hval0 hsz0
  refine (symbolBack_walk n0 W lo0 hi0).mono fun e W' ⟨he, bel⟩ => ?_
  subst he
  exact ⟨_, rfl, _, _, _, [], _, [], hW', trodAll_mk1 (shut_bool Try.underlying4 _), (trodAll_cons_mk (Below.trod Try.laidOut (by kernel_rfl) (of_decide_eq_true (by kernel_rfl)) k0 bel lt0) trodAll_mk0), rfl, bel.frame _, fun h => by cases h⟩

theorem symbolBack_proved : Rows.SymbolBackSaid :=
  OpenClaim.holds_of_wide 7 Try.f7 rfl rfl rfl rfl rfl rfl rfl ⟨rfl, rfl, rfl, rfl, rfl⟩ rfl rfl rfl rfl rfl (by kernel_rfl) Try.func7 (by kernel_rfl)
    (of_decide_eq_true (by kernel_rfl)) (by unfold Func.isWrapper; rw [if_neg (of_decide_eq_false (by kernel_rfl))]; exact ⟨rfl, rfl⟩)
    (fun os started H enc _ => symbolBack_lifted os started H enc)
end Go.Proofs.Ytpcgibbmllmbgaa
