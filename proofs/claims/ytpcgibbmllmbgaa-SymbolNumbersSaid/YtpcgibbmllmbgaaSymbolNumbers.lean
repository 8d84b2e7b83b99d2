/- The statement SymbolNumbers: the number beside a symbol fits its bits, and every number that fits is told of a length, a distance of its own. It holds for every two integers, without a condition. -/
import Derived.Test.YtpcgibbmllmbgaaSback
import Derived.Test.YtpcgibbmllmbgaaSarg
namespace Go.Proofs.Ytpcgibbmllmbgaa
open Go.ChangeShapes Go.WideShapes Go.ChangeAt Go.RowKit

set_option maxHeartbeats 4000000 in
theorem numbers_none (s v : Int) (w : World) (h : ¬(0 ≤ s ∧ s ≤ 29)) :
    Calls Try.prog 9 #[.int .i64 s, .int .i64 v] w fun e w' => e = .returned (.bool true) ∧ Below w.heap.size w w' := by
  have m1 : ∀ w, Calls Try.prog 19 #[.int .i64 s] w (Two 0 13 w) := fun w => by have := dbit_go s w; unfold Sy.dbitA at this; rw [if_neg h] at this; exact this
  have M1 := Lib.hid m1
  clear m1
  by_cases h1 : s < 0
  · have t1 : decide (s < 0) = true := decide_eq_true h1
    clear h h1
    go_enter Try.func9, Try.ntmps9
    go_wp2_with fail
    refine (M1.out _).mono ?_
    rintro e w1 ⟨rfl, hbb⟩
    have B1 := Lib.hid hbb
    clear hbb
    go_wp2_with fail
    refine (lives_any _).mono ?_
    rintro e w9 ⟨rfl, hbb⟩
    have B9 := Lib.hid (B1.out.trans (hbb.mono B1.out.size))
    clear hbb
    go_wp2_with fail
    go_ret
    exact ⟨rfl, B9.out⟩
  · have t1 : decide (s < 0) = false := decide_eq_false h1
    have t2 : decide (29 < s) = true := decide_eq_true (by omega)
    clear h h1
    go_enter Try.func9, Try.ntmps9
    go_wp2_with fail
    refine (M1.out _).mono ?_
    rintro e w1 ⟨rfl, hbb⟩
    have B1 := Lib.hid hbb
    clear hbb
    go_wp2_with fail
    refine (lives_any _).mono ?_
    rintro e w9 ⟨rfl, hbb⟩
    have B9 := Lib.hid (B1.out.trans (hbb.mono B1.out.size))
    clear hbb
    go_wp2_with fail
    go_ret
    exact ⟨rfl, B9.out⟩

set_option maxHeartbeats 4000000 in
theorem numbers_less (k : Nat) (v : Int) (w : World) (hk : k ≤ 29) (hv : v < 0) :
    Calls Try.prog 9 #[.int .i64 (k : Int), .int .i64 v] w fun e w' => e = .returned (.bool true) ∧ Below w.heap.size w w' := by
  have m1 : ∀ w, Calls Try.prog 19 #[.int .i64 (k : Int)] w (Two (Sy.at' Sy.db k : Nat) 0 w) := fun w => by have := dbit_go (k : Int) w; unfold Sy.dbitA at this; rw [if_pos (by omega), Int.toNat_natCast] at this; exact this
  have m2 : ∀ w, Calls Try.prog 21 #[.int .i64 (k : Int), .int .i64 v] w (Two 0 2 w) := fun w => by have := dnum_go (k : Int) v w; unfold Sy.dnumA at this; rw [if_pos (by omega), Int.toNat_natCast, if_neg (by omega)] at this; exact this
  have hb := Sy.db_le k (by omega)
  obtain ⟨b, eb⟩ : ∃ b, b = Sy.at' Sy.db k := ⟨_, rfl⟩
  rw [← eb] at m1 hb
  have M1 := Lib.hid m1
  have M2 := Lib.hid m2
  have t1 : decide (v < 0) = true := decide_eq_true hv
  clear m1 m2 eb hv
  go_enter Try.func9, Try.ntmps9
  go_wp2_with fail
  refine (M1.out _).mono ?_
  rintro e w1 ⟨rfl, hbb⟩
  have B1 := Lib.hid hbb
  clear hbb
  go_wp2_with fail
  refine (M2.out _).mono ?_
  rintro e w2 ⟨rfl, hbb⟩
  have B2 := Lib.hid (B1.out.trans (hbb.mono B1.out.size))
  clear hbb
  go_wp2_with fail
  refine (lives_any _).mono ?_
  rintro e w9 ⟨rfl, hbb⟩
  have B9 := Lib.hid (B2.out.trans (hbb.mono B2.out.size))
  clear hbb
  go_wp2_with fail
  go_ret
  exact ⟨rfl, B9.out⟩

set_option maxHeartbeats 4000000 in
theorem numbers_nat (k v : Nat) (w : World) (hk : k ≤ 29) (hv9 : v ≤ 9223372036854775807) :
    Calls Try.prog 9 #[.int .i64 (k : Int), .int .i64 (v : Int)] w fun e w' => e = .returned (.bool true) ∧ Below w.heap.size w w' := by
  have m1 : ∀ w, Calls Try.prog 19 #[.int .i64 (k : Int)] w (Two (Sy.at' Sy.db k : Nat) 0 w) := fun w => by have := dbit_go (k : Int) w; unfold Sy.dbitA at this; rw [if_pos (by omega), Int.toNat_natCast] at this; exact this
  have hb := Sy.db_le k (by omega)
  have t1 : decide ((v : Int) < 0) = false := decide_eq_false (by omega)
  have hpw : 0 < 2 ^ Sy.at' Sy.db k := Nat.pow_pos (by omega)
  by_cases hv : v < 2 ^ Sy.at' Sy.db k
  · obtain ⟨n, hn, e1, e2⟩ := Sy.d_number k v hk hv
    have m2 : ∀ w, Calls Try.prog 21 #[.int .i64 (k : Int), .int .i64 (v : Int)] w (Two (n : Int) 0 w) := fun w => by have := dnum_go (k : Int) (v : Int) w; rw [e1] at this; exact this
    have m3 : ∀ w, Calls Try.prog 13 #[.int .i64 (n : Int)] w (Three (k : Int) (v : Int) 0 w) := fun w => by have := dsym_go (n : Int) w (by omega); rw [e2] at this; exact this
    have hz : (v : Int) / 2 ^ Sy.at' Sy.db k = 0 := by
      have e : (v : Int) / 2 ^ Sy.at' Sy.db k = ((v / 2 ^ Sy.at' Sy.db k : Nat) : Int) := by simp
      rw [e, Nat.div_eq_of_lt hv]; rfl
    obtain ⟨b, eb⟩ : ∃ b, b = Sy.at' Sy.db k := ⟨_, rfl⟩
    rw [← eb] at m1 hb hz
    have M1 := Lib.hid m1
    have M2 := Lib.hid m2
    have M3 := Lib.hid m3
    clear m1 m2 m3 e1 e2 eb hv hpw
    go_enter Try.func9, Try.ntmps9
    go_wp2_with fail
    refine (M1.out _).mono ?_
    rintro e w1 ⟨rfl, hbb⟩
    have B1 := Lib.hid hbb
    clear hbb
    go_wp2_with fail
    refine (M2.out _).mono ?_
    rintro e w2 ⟨rfl, hbb⟩
    have B2 := Lib.hid (B1.out.trans (hbb.mono B1.out.size))
    clear hbb
    go_wp2_with fail
    refine (M3.out _).mono ?_
    rintro e w3 ⟨rfl, hbb⟩
    have B3 := Lib.hid (B2.out.trans (hbb.mono B2.out.size))
    clear hbb
    go_wp2_with fail
    refine (lives_any _).mono ?_
    rintro e w9 ⟨rfl, hbb⟩
    have B9 := Lib.hid (B3.out.trans (hbb.mono B3.out.size))
    clear hbb
    go_wp2_with fail
    go_ret
    exact ⟨rfl, B9.out⟩
  · have m2 : ∀ w, Calls Try.prog 21 #[.int .i64 (k : Int), .int .i64 (v : Int)] w (Two 0 2 w) := fun w => by have := dnum_go (k : Int) (v : Int) w; unfold Sy.dnumA at this; rw [if_pos (by omega), Int.toNat_natCast, if_neg (by omega)] at this; exact this
    obtain ⟨q, hq⟩ : ∃ q : Nat, q = v / 2 ^ Sy.at' Sy.db k := ⟨_, rfl⟩
    have hq0 : 0 < q := by rw [hq]; exact Nat.div_pos (by omega) hpw
    have hz : (v : Int) / 2 ^ Sy.at' Sy.db k = (q : Int) := by rw [hq]; simp
    have hz2 : ((q : Int) != 0) = true := by rw [bne_iff_ne]; omega
    have hz3 : ((q : Int) == 0) = false := by rw [beq_eq_false_iff_ne]; omega
    obtain ⟨b, eb⟩ : ∃ b, b = Sy.at' Sy.db k := ⟨_, rfl⟩
    rw [← eb] at m1 hb hz
    have M1 := Lib.hid m1
    have M2 := Lib.hid m2
    clear m1 m2 eb hv hpw hq
    go_enter Try.func9, Try.ntmps9
    go_wp2_with fail
    refine (M1.out _).mono ?_
    rintro e w1 ⟨rfl, hbb⟩
    have B1 := Lib.hid hbb
    clear hbb
    go_wp2_with fail
    refine (M2.out _).mono ?_
    rintro e w2 ⟨rfl, hbb⟩
    have B2 := Lib.hid (B1.out.trans (hbb.mono B1.out.size))
    clear hbb
    go_wp2_with fail
    refine (lives_any _).mono ?_
    rintro e w9 ⟨rfl, hbb⟩
    have B9 := Lib.hid (B2.out.trans (hbb.mono B2.out.size))
    clear hbb
    go_wp2_with fail
    go_ret
    exact ⟨rfl, B9.out⟩

theorem symbolNumbers_walk (s v : Int) (w : World) (_ : -9223372036854775808 ≤ s) (_ : s ≤ 9223372036854775807) (_ : -9223372036854775808 ≤ v) (_ : v ≤ 9223372036854775807) :
    Calls Try.prog 9 #[.int .i64 s, .int .i64 v] w fun e w' => e = .returned (.bool true) ∧ Below w.heap.size w w' := by
  by_cases h : 0 ≤ s ∧ s ≤ 29
  · obtain ⟨k, rfl⟩ : ∃ k : Nat, s = (k : Int) := ⟨s.toNat, by omega⟩
    by_cases hv : v < 0
    · exact numbers_less k v w (by omega) hv
    · obtain ⟨m, rfl⟩ : ∃ m : Nat, v = (m : Int) := ⟨v.toNat, by omega⟩
      exact numbers_nat k m w (by omega) (by omega)
  · exact numbers_none s v w h

set_option maxRecDepth 100000 in
theorem symbolNumbers_lifted (os : Os) (started : os.Started) (H : Type) (enc : TypeId × Value → H) :
    ReturnsInHanded {} Try.checked os 9 .any (Rows.symbolNumbersSpec.pre6 enc Try.prog Try.f9 Rows.symbolNumbersRow.domain false) (Rows.symbolNumbersSpec.post enc Try.prog Try.f9 false true false false) := by
  refine returnsInHanded_of_change_sized (C := Try.checked) Try.own started (by kernel_rfl) Try.func9
    (ChangeSpec.witness6 (enc := enc) (C := Try.checked) false ⟨#[], #[.int .i64 0, .int .i64 0], []⟩ 8 (by kernel_rfl) (by kernel_rfl) (by kernel_rfl) (by kernel_rfl)) ?_
  intro W base args ds gs before hval0 hW _ hsz0 _
  have hval : ∀ (j : Nat) t v, Try.f9.params[j]? = some t → args[j]? = some v → Value.okWide Try.prog W .any base t v := hval0
  have hsz : (DataW.weightsEach Try.prog (Try.f9.params.toList ++ Rows.symbolNumbersSpec.plain.varTypes Try.prog) (ds ++ gs)).all (· ≤ reachBytes) = true := hsz0
  have hW' := hW
  obtain ⟨p, q, hA0, hV, rfl, hfz, hnd⟩ := hW
  have hA : DataW.TrodAll enc Try.prog W 0 (fun _ => true) true Try.f9.params.toList args.toList ds p := hA0
  rw [Try.params9] at hA hval hsz
  obtain ⟨v0, vs0, d0, ds0, p0, q0, hargs, rfl, rfl, h0, r0⟩ := trodAll_cons hA
  obtain ⟨v1, vs1, d1, ds1, p1, q1, rfl, rfl, rfl, h1, r1⟩ := trodAll_cons r0
  obtain ⟨rfl, rfl, rfl⟩ := trodAll_nil r1
  obtain rfl : args = #[v0, v1] := by cases args; simp_all
  obtain ⟨rfl, rfl⟩ := trodVars_none hV
  have k0 := h0
  have lt0 : ∀ x ∈ p0, x.block < W.heap.size := by obtain ⟨m, hm⟩ := k0; exact DataW.trod_lt m _ _ _ hm
  obtain ⟨n0, ev0, _, _, wn0⟩ := open_int Try.underlying3 (hval 0 3 v0 rfl rfl) h0
  subst ev0
  obtain ⟨lo0, hi0⟩ := wf_bounds wn0
  have k1 := h1
  have lt1 : ∀ x ∈ p1, x.block < W.heap.size := by obtain ⟨m, hm⟩ := k1; exact DataW.trod_lt m _ _ _ hm
  obtain ⟨n1, ev1, _, _, wn1⟩ := open_int Try.underlying3 (hval 1 3 v1 rfl rfl) h1
  subst ev1
  obtain ⟨lo1, hi1⟩ := wf_bounds wn1
  clear hA0 hval0 hsz0
  refine (symbolNumbers_walk n0 n1 W lo0 hi0 lo1 hi1).mono fun e W' ⟨he, bel⟩ => ?_
  subst he
  exact ⟨_, rfl, _, _, _, [], _, [], hW', trodAll_mk1 (shut_bool Try.underlying4 _), (trodAll_cons_mk (Below.trod Try.laidOut (by kernel_rfl) (of_decide_eq_true (by kernel_rfl)) k0 bel lt0) (trodAll_cons_mk (Below.trod Try.laidOut (by kernel_rfl) (of_decide_eq_true (by kernel_rfl)) k1 bel lt1) trodAll_mk0)), rfl, bel.frame _, fun h => by cases h⟩

theorem symbolNumbers_proved : Rows.SymbolNumbersSaid :=
  OpenClaim.holds_of_wide 9 Try.f9 rfl rfl rfl rfl rfl rfl rfl ⟨rfl, rfl, rfl, rfl, rfl⟩ rfl rfl rfl rfl rfl (by kernel_rfl) Try.func9 (by kernel_rfl)
    (of_decide_eq_true (by kernel_rfl)) (by unfold Func.isWrapper; rw [if_neg (of_decide_eq_false (by kernel_rfl))]; exact ⟨rfl, rfl⟩)
    (fun os started H enc _ => symbolNumbers_lifted os started H enc)
end Go.Proofs.Ytpcgibbmllmbgaa
