/- The statement CrcFar: sums of very many bytes 0 are joined as those of their parts, in whatever steps. It holds for every number and every two integers, without a condition. -/
import Derived.Test.YtbegehgfdjmibaaClives
import Derived.Test.YtbegehgfdjmibaaCarg
namespace Go.Proofs.Ytbegehgfdjmibaa
open Go.ChangeShapes Go.WideShapes Go.ChangeAt Go.RowKit

theorem join_zeros (a n N : Nat) (hn : n ≤ 2147483647) (ha : a < 4294967296) (hN : Hid (N = Cr.stn (8 * n) a)) (w : World) :
    Calls Try.prog 14 #[.int .u32 (a : Int), .int .u32 0, .int .i64 (n : Int)] w (Joined N w) :=
  join_is a 0 n N hn ha (by decide) w (Lib.hid (by rw [hN.out, Nat.xor_zero]))

set_option maxHeartbeats 1000000 in
theorem crcFar_walk (a : Nat) (n c : Int) (w : World) (ha : a < 4294967296) (_ : -9223372036854775808 ≤ n) (_ : n ≤ 9223372036854775807) (_ : -9223372036854775808 ≤ c) (_ : c ≤ 9223372036854775807) :
    Calls Try.prog 6 #[.int .u32 (a : Int), .int .i64 n, .int .i64 c] w fun e w' => e = .returned (.bool true) ∧ Below w.heap.size w w' := by
  by_cases h : n < 0 ∨ 2147483647 < n ∨ c < 0 ∨ n < c
  · go_enter Try.func6, Try.ntmps6
    by_cases h1 : n < 0
    · clear h
      go_wp2_with fail
      refine (lives_any _).mono ?_
      rintro e w3 ⟨rfl, b3⟩
      have B3 := Lib.hid b3
      clear b3
      go_wp2
      go_ret
      exact ⟨rfl, B3.out⟩
    · by_cases h2 : 2147483647 < n
      · clear h
        go_wp2_with fail
        refine (lives_any _).mono ?_
        rintro e w3 ⟨rfl, b3⟩
        have B3 := Lib.hid b3
        clear b3
        go_wp2
        go_ret
        exact ⟨rfl, B3.out⟩
      · by_cases h3 : c < 0
        · clear h
          go_wp2_with fail
          refine (lives_any _).mono ?_
          rintro e w3 ⟨rfl, b3⟩
          have B3 := Lib.hid b3
          clear b3
          go_wp2
          go_ret
          exact ⟨rfl, B3.out⟩
        · have h4 : n < c := by omega
          clear h
          go_wp2_with fail
          refine (lives_any _).mono ?_
          rintro e w3 ⟨rfl, b3⟩
          have B3 := Lib.hid b3
          clear b3
          go_wp2
          go_ret
          exact ⟨rfl, B3.out⟩
  · have hc0 : 0 ≤ c := by omega
    have hcn : c ≤ n := by omega
    have hn0 : n ≤ 2147483647 := by omega
    obtain ⟨C, rfl⟩ := Int.eq_ofNat_of_zero_le hc0
    obtain ⟨M, rfl⟩ := Int.eq_ofNat_of_zero_le (show 0 ≤ n by omega)
    obtain ⟨X, hX⟩ : ∃ X, X = Cr.stn (8 * M) a := ⟨_, rfl⟩
    obtain ⟨Y, hY⟩ : ∃ Y, Y = Cr.stn (8 * C) a := ⟨_, rfl⟩
    have hY2 : Y < 4294967296 := by rw [hY]; exact Cr.stn_lt _ _ ha
    have hZ : X = Cr.stn (8 * (M - C)) Y := by
      rw [hX, hY, ← Cr.stn_add]
      congr 1
      omega
    have HX := Lib.hid hX
    have HY := Lib.hid hY
    have HZ := Lib.hid hZ
    clear hX hY hZ h hc0
    have hMC : ((M : Int) - (C : Int)) = ((M - C : Nat) : Int) := by omega
    have hM1 : M ≤ 2147483647 := by omega
    have hC1 : C ≤ 2147483647 := by omega
    have hD1 : M - C ≤ 2147483647 := by omega
    go_enter Try.func6, Try.ntmps6
    go_wp2_with fail
    refine (join_zeros a M X hM1 ha HX _).mono ?_
    rintro e w1 ⟨rfl, b1⟩
    have B1 := Lib.hid b1
    clear b1
    go_wp2_with fail
    refine (join_zeros a C Y hC1 ha HY _).mono ?_
    rintro e w2 ⟨rfl, b2⟩
    have B2 := Lib.hid (B1.out.trans (b2.mono B1.out.size))
    clear b2 B1
    go_wp2_with fail
    refine (join_zeros Y (M - C) X hD1 hY2 HZ _).mono ?_
    rintro e w3 ⟨rfl, b3⟩
    have B3 := Lib.hid (B2.out.trans (b3.mono B2.out.size))
    clear b3 B2
    go_wp2_with fail
    refine (lives_any _).mono ?_
    rintro e w4 ⟨rfl, b4⟩
    have B4 := Lib.hid (B3.out.trans (b4.mono B3.out.size))
    clear b4 B3
    go_wp2
    go_ret
    exact ⟨rfl, B4.out⟩

set_option maxRecDepth 100000 in
theorem crcFar_lifted (os : Os) (started : os.Started) (H : Type) (enc : TypeId × Value → H) :
    ReturnsInHanded {} Try.checked os 6 .any (Rows.crcFarSpec.pre6 enc Try.prog Try.f6 Rows.crcFarRow.domain false) (Rows.crcFarSpec.post enc Try.prog Try.f6 false true false false) := by
  refine returnsInHanded_of_change_sized (C := Try.checked) Try.own started (by kernel_rfl) Try.func6
    (ChangeSpec.witness6 (enc := enc) (C := Try.checked) false ⟨#[], #[.int .u32 0, .int .i64 0, .int .i64 0], []⟩ 8 (by kernel_rfl) (by kernel_rfl) (by kernel_rfl) (by kernel_rfl)) ?_
  intro W base args ds gs before hval0 hW _ hsz0 _
  have hval : ∀ (j : Nat) t v, Try.f6.params[j]? = some t → args[j]? = some v → Value.okWide Try.prog W .any base t v := hval0
  have hsz : (DataW.weightsEach Try.prog (Try.f6.params.toList ++ Rows.crcFarSpec.plain.varTypes Try.prog) (ds ++ gs)).all (· ≤ reachBytes) = true := hsz0
  have hW' := hW
  obtain ⟨p, q, hA0, hV, rfl, hfz, hnd⟩ := hW
  have hA : DataW.TrodAll enc Try.prog W 0 (fun _ => true) true Try.f6.params.toList args.toList ds p := hA0
  rw [Try.params6] at hA hval hsz
  obtain ⟨v0, vs0, d0, ds0, p0, q0, hargs, rfl, rfl, h0, r0⟩ := trodAll_cons hA
  obtain ⟨v1, vs1, d1, ds1, p1, q1, rfl, rfl, rfl, h1, r1⟩ := trodAll_cons r0
  obtain ⟨v2, vs2, d2, ds2, p2, q2, rfl, rfl, rfl, h2, r2⟩ := trodAll_cons r1
  obtain ⟨rfl, rfl, rfl⟩ := trodAll_nil r2
  obtain rfl : args = #[v0, v1, v2] := by cases args; simp_all
  obtain ⟨rfl, rfl⟩ := trodVars_none hV
  have k0 := h0
  have lt0 : ∀ x ∈ p0, x.block < W.heap.size := by obtain ⟨m, hm⟩ := k0; exact DataW.trod_lt m _ _ _ hm
  obtain ⟨n0, ev0, _, _, wn0⟩ := open_int Try.underlying22 (hval 0 22 v0 rfl rfl) h0
  subst ev0
  obtain ⟨m0, rfl, lm0⟩ := u32_nat wn0
  have k1 := h1
  have lt1 : ∀ x ∈ p1, x.block < W.heap.size := by obtain ⟨m, hm⟩ := k1; exact DataW.trod_lt m _ _ _ hm
  obtain ⟨n1, ev1, _, _, wn1⟩ := open_int Try.underlying3 (hval 1 3 v1 rfl rfl) h1
  subst ev1
  obtain ⟨lo1, hi1⟩ := wf_bounds wn1
  have k2 := h2
  have lt2 : ∀ x ∈ p2, x.block < W.heap.size := by obtain ⟨m, hm⟩ := k2; exact DataW.trod_lt m _ _ _ hm
  obtain ⟨n2, ev2, _, _, wn2⟩ := open_int Try.underlying3 (hval 2 3 v2 rfl rfl) h2
  subst ev2
  obtain ⟨lo2, hi2⟩ := wf_bounds wn2
  clear hA0 hval0 hsz0
  refine (crcFar_walk m0 n1 n2 W lm0 lo1 hi1 lo2 hi2).mono fun e W' ⟨he, bel⟩ => ?_
  subst he
  exact ⟨_, rfl, _, _, _, [], _, [], hW', trodAll_mk1 (shut_bool Try.underlying4 _), (trodAll_cons_mk (Below.trod Try.laidOut (by kernel_rfl) (of_decide_eq_true (by kernel_rfl)) k0 bel lt0) (trodAll_cons_mk (Below.trod Try.laidOut (by kernel_rfl) (of_decide_eq_true (by kernel_rfl)) k1 bel lt1) (trodAll_cons_mk (Below.trod Try.laidOut (by kernel_rfl) (of_decide_eq_true (by kernel_rfl)) k2 bel lt2) trodAll_mk0))), rfl, bel.frame _, fun h => by cases h⟩

theorem crcFar_proved : Rows.CrcFarSaid :=
  OpenClaim.holds_of_wide 6 Try.f6 rfl rfl rfl rfl rfl rfl rfl ⟨rfl, rfl, rfl, rfl, rfl⟩ rfl rfl rfl rfl rfl (by kernel_rfl) Try.func6 (by kernel_rfl)
    (of_decide_eq_true (by kernel_rfl)) (by unfold Func.isWrapper; rw [if_neg (of_decide_eq_false (by kernel_rfl))]; exact ⟨rfl, rfl⟩)
    (fun os started H enc _ => crcFar_lifted os started H enc)
end Go.Proofs.Ytbegehgfdjmibaa
