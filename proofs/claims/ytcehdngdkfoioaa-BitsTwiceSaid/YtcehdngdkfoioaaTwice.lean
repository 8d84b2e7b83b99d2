/- The statement BitsTwice: what is turned twice is as it was; the first bit of a number is the last one of the turned one. It holds for every two integers, without a condition. -/
import Derived.Test.YtcehdngdkfoioaaPairs
import Derived.Test.YtcehdngdkfoioaaArg
namespace Go.Proofs.Ytcehdngdkfoioaa
open Go.ChangeShapes Go.WideShapes Go.ChangeAt Go.RowKit

theorem bitsOf_num (l : List Bool) (n : Nat) (h : n = l.length) : Bs.bitsOf (Bs.num l) n = l := by
  subst h
  apply List.ext_getElem?
  intro i
  by_cases hi : i < l.length
  · have h1 : (Bs.bitsOf (Bs.num l) l.length)[i]? = some ((Bs.num l).testBit i) := by simp [Bs.bitsOf, hi]
    rw [h1, Bs.testBit_num, List.getElem?_eq_getElem hi]
    rfl
  · rw [List.getElem?_eq_none (by rw [Bs.bitsOf_length]; omega), List.getElem?_eq_none (by omega)]

theorem turned_twice (v n : Nat) (hv : v < 2 ^ n) : turned (turned v n) n = v := by
  unfold turned
  rw [bitsOf_num _ n (by rw [List.length_reverse, Bs.bitsOf_length]), List.reverse_reverse, Bs.num_bitsOf v n hv]

theorem turned_top (v n : Nat) : turned v (n + 1) / 2 ^ n = v % 2 := by
  have h1 := turned_lt v (n + 1)
  have h2 : turned v (n + 1) / 2 ^ n < 2 := by
    rw [Nat.div_lt_iff_lt_mul (Nat.two_pow_pos n)]
    rw [Nat.pow_succ] at h1
    omega
  have h3 := bit_mod (turned v (n + 1)) n
  have h4 : (turned v (n + 1)).testBit n = v.testBit 0 := by
    unfold turned
    rw [Bs.testBit_num, List.getElem?_reverse (by rw [Bs.bitsOf_length]; omega), Bs.bitsOf_length]
    have e : n + 1 - 1 - n = 0 := by omega
    rw [e]
    have := Bs.bitsOf_get v (n + 1) 0
    rw [this]
    simp
  have h5 := bit_mod v 0
  rw [h4] at h3
  simp only [Nat.pow_zero, Nat.div_one] at h5
  rw [Nat.mod_eq_of_lt h2] at h3
  rw [h3, h5]

set_option maxHeartbeats 1000000 in
theorem bitsTwice_walk (v n : Int) (w : World) (_ : -9223372036854775808 ≤ v) (_ : v ≤ 9223372036854775807) (_ : -9223372036854775808 ≤ n) (_ : n ≤ 9223372036854775807) :
    Calls Try.prog 8 #[.int .i64 v, .int .i64 n] w fun e w' => e = .returned (.bool true) ∧ Below w.heap.size w w' := by
  rcases fit_cases v n 16 with ⟨v', n', rfl, rfl, hn, hv⟩ | hf
  · have Hv := Lib.hid hv
    have hn' : n' ≤ 16 := by omega
    obtain ⟨V, hV⟩ : ∃ V : Nat, V = turned v' n' := ⟨_, rfl⟩
    have HV := Lib.hid hV
    have Hlt : Hid (V < 2 ^ n') := by show _ < _; rw [hV]; exact turned_lt v' n'
    have Hback : Hid (((v' : Nat) : Int) = ((turned V n' : Nat) : Int)) := by show _ = _; rw [hV, turned_twice v' n' hv]
    clear hV hv
    cases n' with
    | zero =>
      go_enter Try.func8, Try.ntmps8
      go_wp2_with fail
      refine (turn_is v' 0 (V : Int) hn' Hv (by show _ = _; rw [HV.out]) _).mono ?_
      rintro e w1 ⟨rfl, b1⟩
      have B1 := Lib.hid b1
      clear b1
      go_wp2_with fail
      refine (turn_is V 0 (v' : Int) hn' Hlt Hback _).mono ?_
      rintro e w2 ⟨rfl, b2⟩
      have B2 := Lib.hid (B1.out.trans (b2.mono B1.out.size))
      clear b2 B1
      go_wp2_with fail
      refine (lives_any _).mono ?_
      rintro e w3 ⟨rfl, b3⟩
      have B3 := Lib.hid (B2.out.trans (b3.mono B2.out.size))
      clear b3 B2
      go_wp2
      go_ret
      exact ⟨rfl, B3.out⟩
    | succ n' =>
      have htop := turned_top v' n'
      rw [← HV.out] at htop
      have htop2 : (((V : Int) / 2 ^ n') == bits BinOp.and IntKind.i64 (v' : Int) 1) = true := by
        rw [i64_and1, beq_iff_eq]
        have e : ((V : Int) / 2 ^ n') = ((V / 2 ^ n' : Nat) : Int) := by simp
        rw [e, htop]
        omega
      have hne : (((n' : Int) + 1) == 0) = false := by rw [beq_eq_false_iff_ne]; omega
      clear htop
      go_enter Try.func8, Try.ntmps8
      go_wp2_with fail
      refine (turn_is v' (n' + 1) (V : Int) hn' Hv (by show _ = _; rw [HV.out]) _).mono ?_
      rintro e w1 ⟨rfl, b1⟩
      have B1 := Lib.hid b1
      clear b1
      go_wp2_with fail
      refine (turn_is V (n' + 1) (v' : Int) hn' Hlt Hback _).mono ?_
      rintro e w2 ⟨rfl, b2⟩
      have B2 := Lib.hid (B1.out.trans (b2.mono B1.out.size))
      clear b2 B1
      go_wp2_with fail
      refine (lives_any _).mono ?_
      rintro e w3 ⟨rfl, b3⟩
      have B3 := Lib.hid (B2.out.trans (b3.mono B2.out.size))
      clear b3 B2
      go_wp2
      go_ret
      exact ⟨rfl, B3.out⟩
  · have HF : n ≤ 16 → Hid (decide (0 ≤ n ∧ 0 ≤ v ∧ v / 2 ^ n.toNat = 0) = false) := hf
    have HG := Lib.hid HF
    clear hf HF
    go_enter Try.func8, Try.ntmps8
    go_wp2_with fail
    refine (turn_none v n HG.out _).mono ?_
    rintro e w1 ⟨rfl, b1⟩
    have B1 := Lib.hid b1
    clear b1
    go_wp2_with fail
    refine (lives_any _).mono ?_
    rintro e w3 ⟨rfl, b3⟩
    have B3 := Lib.hid (B1.out.trans (b3.mono B1.out.size))
    clear b3 B1
    go_wp2
    go_ret
    exact ⟨rfl, B3.out⟩

set_option maxRecDepth 100000 in
theorem bitsTwice_lifted (os : Os) (started : os.Started) (H : Type) (enc : TypeId × Value → H) :
    ReturnsInHanded {} Try.checked os 8 .any (Rows.bitsTwiceSpec.pre6 enc Try.prog Try.f8 Rows.bitsTwiceRow.domain false) (Rows.bitsTwiceSpec.post enc Try.prog Try.f8 false true false false) := by
  refine returnsInHanded_of_change_sized (C := Try.checked) Try.own started (by kernel_rfl) Try.func8
    (ChangeSpec.witness6 (enc := enc) (C := Try.checked) false ⟨#[], #[.int .i64 0, .int .i64 0], []⟩ 8 (by kernel_rfl) (by kernel_rfl) (by kernel_rfl) (by kernel_rfl)) ?_
  intro W base args ds gs before hval0 hW _ hsz0 _
  have hval : ∀ (j : Nat) t v, Try.f8.params[j]? = some t → args[j]? = some v → Value.okWide Try.prog W .any base t v := hval0
  have hsz : (DataW.weightsEach Try.prog (Try.f8.params.toList ++ Rows.bitsTwiceSpec.plain.varTypes Try.prog) (ds ++ gs)).all (· ≤ reachBytes) = true := hsz0
  have hW' := hW
  obtain ⟨p, q, hA0, hV, rfl, hfz, hnd⟩ := hW
  have hA : DataW.TrodAll enc Try.prog W 0 (fun _ => true) true Try.f8.params.toList args.toList ds p := hA0
  rw [Try.params8] at hA hval hsz
  obtain ⟨v0, vs0, d0, ds0, p0, q0, hargs, rfl, rfl, h0, r0⟩ := trodAll_cons hA
  obtain ⟨v1, vs1, d1, ds1, p1, q1, rfl, rfl, rfl, h1, r1⟩ := trodAll_cons r0
  obtain ⟨rfl, rfl, rfl⟩ := trodAll_nil r1
  obtain rfl : args = #[v0, v1] := by cases args; simp_all
  obtain ⟨rfl, rfl⟩ := trodVars_none hV
  have k0 := h0
  have lt0 : ∀ x ∈ p0, x.block < W.heap.size := by obtain ⟨m, hm⟩ := k0; exact DataW.trod_lt m _ _ _ hm
  obtain ⟨n0, ev0, _, _, wn0⟩ := open_int Try.underlying3 (hval 0 3 v0 rfl rfl) h0
  subst ev0
  obtain ⟨lo0, hi0⟩ := wf_bounds wn0
  have k1 := h1
  have lt1 : ∀ x ∈ p1, x.block < W.heap.size := by obtain ⟨m, hm⟩ := k1; exact DataW.trod_lt m _ _ _ hm
  obtain ⟨n1, ev1, _, _, wn1⟩ := open_int Try.underlying3 (hval 1 3 v1 rfl rfl) h1
  subst ev1
  obtain ⟨lo1, hi1⟩ := wf_bounds wn1
  clear hA0 hval0 hsz0
  refine (bitsTwice_walk n0 n1 W lo0 hi0 lo1 hi1).mono fun e W' ⟨he, bel⟩ => ?_
  subst he
  exact ⟨_, rfl, _, _, _, [], _, [], hW', trodAll_mk1 (shut_bool Try.underlying4 _), (trodAll_cons_mk (Below.trod Try.laidOut (by kernel_rfl) (of_decide_eq_true (by kernel_rfl)) k0 bel lt0) (trodAll_cons_mk (Below.trod Try.laidOut (by kernel_rfl) (of_decide_eq_true (by kernel_rfl)) k1 bel lt1) trodAll_mk0)), rfl, bel.frame _, fun h => by cases h⟩

theorem bitsTwice_proved : Rows.BitsTwiceSaid :=
  OpenClaim.holds_of_wide 8 Try.f8 rfl rfl rfl rfl rfl rfl rfl ⟨rfl, rfl, rfl, rfl, rfl⟩ rfl rfl rfl rfl rfl (by kernel_rfl) Try.func8 (by kernel_rfl)
    (of_decide_eq_true (by kernel_rfl)) (by unfold Func.isWrapper; rw [if_neg (of_decide_eq_false (by kernel_rfl))]; exact ⟨rfl, rfl⟩)
    (fun os started H enc _ => bitsTwice_lifted os started H enc)
end Go.Proofs.Ytcehdngdkfoioaa
