/- The statement LimitOrder: of two symbols the one that comes more often has no longer code. It holds for all rows of numbers, without a condition. -/
import Derived.Test.YtedbonnejgpjeaaLarg
namespace Go.Proofs.Ytedbonnejgpjeaa
open Go.ChangeShapes Go.WideShapes Go.ChangeAt Go.RowKit

set_option maxHeartbeats 4000000 in
theorem limitOrder_walk (s : Value) (zs : List Int) (most : Int) (w : World) (hz : Zl w s zs) (hl : zs.length ≤ 17592186043904) (lo : -9223372036854775808 ≤ most) (hi : most ≤ 9223372036854775807) :
    Calls Try.prog 5 #[s, .int .i64 most] w fun e w' => e = .returned (.bool true) ∧ Below w.heap.size w w' := by
  have HL := lengths_all zs s most w hz
  have HZ := Lib.hid hz
  obtain ⟨a, n, cap, rfl, e1, _, _, d1⟩ := hz
  obtain ⟨c, hc⟩ : ∃ c, c = lerr zs most := ⟨_, rfl⟩
  rw [← hc] at HL
  by_cases hg : Good zs most
  · have hc0 : c = 0 := by rw [hc]; exact lerr_good hg
    subst hc0
    rw [show lensOf zs most = lensZ zs most.toNat from if_pos hg, lensZ_length, ← e1] at HL
    have h288 : n ≤ 288 := by have := hg.1.2.1; omega
    have hpos : 0 < n := by have := hg.1.1; omega
    obtain ⟨b1, o1, rfl, lt1, q1⟩ := d1 hpos
    have HO : Hid (∀ i k, i < n → k < n → zs[k]?.getD 0 < zs[i]?.getD 0 → 0 < zs[k]?.getD 0 → Lm.len (nat zs) most.toNat i ≤ Lm.len (nat zs) most.toNat k) := fun i k h1 h2 h3 h4 =>
      Lm.order_len (nat zs) most.toNat (by have := hg.2.1; omega) hg.2.2 i k (by rw [nat_length]; omega) (by rw [nat_length]; omega) (by rw [nat_get, nat_get]; omega) (by rw [nat_get]; omega)
    have HG : Hid (∀ i, i < n → (lensZ zs most.toNat)[i]?.getD 0 = ((Lm.len (nat zs) most.toNat i : Nat) : Int)) := fun i hi => lensZ_get zs _ i (by omega)
    have Q1 := Lib.hid q1
    have hne : ((n : Int) != (n : Int)) = false := by simp
    clear hc hg e1 d1 q1 hl
    go_enter Try.func5, Try.ntmps5
    go_wp2_with fail
    refine HL.mono ?_
    clear HL
    rintro e w1 ⟨a1, c1, rfl, hz1, hb1⟩
    obtain ⟨a', n', c', e', _, _, _, d2⟩ := hz1
    cases e'
    obtain ⟨b2, o2, rfl, lt2, q2⟩ := d2 hpos
    have B1 := Lib.hid hb1
    have Q2 := Lib.hid q2
    clear d2 q2 hb1
    go_wp2_with fail
    go_loopw [7] (fun s7 wr => ∃ k q : Nat, k ≤ n ∧ s7 = .int .i64 (k : Int) ∧ wr = w1.drewN q) (fun s _ => n - (intOf s).toNat)
    case atStart => exact ⟨0, 0, Nat.zero_le _, rfl, rfl⟩
    case round =>
      obtain ⟨k, q, hk, rfl, rfl⟩ := hrel
      by_cases hlt : k < n
      · go_wp2_with fail
        go_loopw [8] (fun s8 wr => ∃ j q : Nat, j ≤ n ∧ s8 = .int .i64 (j : Int) ∧ wr = w1.drewN q) (fun s _ => n - (intOf s).toNat)
        case atStart => exact ⟨0, q, Nat.zero_le _, rfl, rfl⟩
        case round =>
          obtain ⟨j, q, hj, rfl, rfl⟩ := hrel
          by_cases hjn : j < n
          · have gi := (B1.out.cell (p := ⟨b1, o1 + k, none⟩) lt1).trans (Q1.out k hlt)
            have gk := (B1.out.cell (p := ⟨b1, o1 + j, none⟩) lt1).trans (Q1.out j hjn)
            have li := Q2.out k hlt
            have lk := Q2.out j hjn
            rw [HG.out k hlt] at li
            rw [HG.out j hjn] at lk
            have ho := HO.out k j hlt hjn
            obtain ⟨x, hx⟩ : ∃ x, x = zs[k]?.getD 0 := ⟨_, rfl⟩
            obtain ⟨y, hy⟩ : ∃ y, y = zs[j]?.getD 0 := ⟨_, rfl⟩
            obtain ⟨u, hu⟩ : ∃ u, u = Lm.len (nat zs) most.toNat k := ⟨_, rfl⟩
            obtain ⟨v, hv⟩ : ∃ v, v = Lm.len (nat zs) most.toNat j := ⟨_, rfl⟩
            rw [← hx] at gi ho
            rw [← hy] at gk ho
            rw [← hu] at li ho
            rw [← hv] at lk ho
            clear hx hy hu hv
            by_cases h1 : y < x
            · have t1 : decide (y < x) = true := by simpa using h1
              by_cases h2 : 0 < y
              · have t2 : decide (0 < y) = true := by simpa using h2
                have t3 : decide ((v : Int) < (u : Int)) = false := by have := ho h1 h2; simp; omega
                have t4 : decide (v < u) = false := by have := ho h1 h2; simp; omega
                clear ho h1 h2
                go_wp2_with fail
                go_quiet (fail)
                go_wp2_with fail
                go_roundw
                case rel => exact ⟨j + 1, _, by omega, by go_num, by first | rfl | (rw [World.drewN_drewN])⟩
                case measure => simp [intOf]; omega
              · have t2 : decide (0 < y) = false := by simpa using h2
                clear ho h1 h2
                go_wp2_with fail
                go_quiet (fail)
                go_wp2_with fail
                go_roundw
                case rel => exact ⟨j + 1, _, by omega, by go_num, by first | rfl | (rw [World.drewN_drewN])⟩
                case measure => simp [intOf]; omega
            · have t1 : decide (y < x) = false := by simpa using h1
              clear ho h1
              go_wp2_with fail
              go_quiet (fail)
              go_wp2_with fail
              go_roundw
              case rel => exact ⟨j + 1, _, by omega, by go_num, by first | rfl | (rw [World.drewN_drewN])⟩
              case measure => simp [intOf]; omega
          · obtain rfl : j = n := by omega
            go_wp2_with fail
            go_roundw
            case rel => exact ⟨k + 1, q, by omega, by go_num, rfl⟩
            case measure => simp [intOf]; omega
      · obtain rfl : k = n := by omega
        go_wp2_with fail
        refine (lives_any _).mono ?_
        rintro e w5 ⟨rfl, hb⟩
        have B5 := Lib.hid ((below_drewN B1.out q).trans (hb.mono B1.out.size))
        clear hb
        go_wp2
        go_ret
        exact ⟨rfl, B5.out⟩
  · have hne : (c != 0) = true := by rw [bne_iff_ne, hc]; exact lerr_bad hg
    rw [show lensOf zs most = [] from if_neg hg] at HL
    clear hc hg e1 d1 hl
    go_enter Try.func5, Try.ntmps5
    go_wp2_with fail
    refine HL.mono ?_
    clear HL
    rintro e w1 ⟨a1, c1, rfl, hz1, hb1⟩
    have B1 := Lib.hid hb1
    clear hz1 hb1
    go_wp2_with fail
    refine (lives_any _).mono ?_
    rintro e w5 ⟨rfl, hb⟩
    have B5 := Lib.hid (B1.out.trans (hb.mono B1.out.size))
    clear hb B1
    go_wp2
    go_ret
    exact ⟨rfl, B5.out⟩

set_option maxRecDepth 100000 in
theorem limitOrder_lifted (os : Os) (started : os.Started) (H : Type) (enc : TypeId × Value → H) :
    ReturnsInHanded {} Try.checked os 5 .any (Rows.limitOrderSpec.pre6 enc Try.prog Try.f5 Rows.limitOrderRow.domain false) (Rows.limitOrderSpec.post enc Try.prog Try.f5 false true false false) := by
  refine returnsInHanded_of_change_sized (C := Try.checked) Try.own started (by kernel_rfl) Try.func5
    (ChangeSpec.witness6 (enc := enc) (C := Try.checked) false ⟨#[], #[.slice none 0 0, .int .i64 0], []⟩ 8 (by kernel_rfl) (by kernel_rfl) (by kernel_rfl) (by kernel_rfl)) ?_
  intro W base args ds gs before hval0 hW _ hsz0 _
  have hval : ∀ (j : Nat) t v, Try.f5.params[j]? = some t → args[j]? = some v → Value.okWide Try.prog W .any base t v := hval0
  have hsz : (DataW.weightsEach Try.prog (Try.f5.params.toList ++ Rows.limitOrderSpec.plain.varTypes Try.prog) (ds ++ gs)).all (· ≤ reachBytes) = true := hsz0
  have hW' := hW
  obtain ⟨p, q, hA0, hV, rfl, hfz, hnd⟩ := hW
  have hA : DataW.TrodAll enc Try.prog W 0 (fun _ => true) true Try.f5.params.toList args.toList ds p := hA0
  rw [Try.params5] at hA hval hsz
  obtain ⟨v0, vs0, d0, ds0, p0, q0, hargs, rfl, rfl, h0, r0⟩ := trodAll_cons hA
  obtain ⟨v1, vs1, d1, ds1, p1, q1, rfl, rfl, rfl, h1, r1⟩ := trodAll_cons r0
  obtain ⟨rfl, rfl, rfl⟩ := trodAll_nil r1
  obtain rfl : args = #[v0, v1] := by cases args; simp_all
  obtain ⟨rfl, rfl⟩ := trodVars_none hV
  have k0 := h0
  have lt0 : ∀ x ∈ p0, x.block < W.heap.size := by obtain ⟨m, hm⟩ := k0; exact DataW.trod_lt m _ _ _ hm
  have w0 : ∀ n ∈ d0.weights Try.prog 22, n ≤ reachBytes := fun n hn => by simpa using List.all_eq_true.1 hsz n (DataW.weights_mem_each (j := 0) rfl rfl n hn)
  obtain ⟨zs0, zl0, ln0⟩ := ints_open (hval 0 22 v0 rfl rfl) h0 w0
  have k1 := h1
  have lt1 : ∀ x ∈ p1, x.block < W.heap.size := by obtain ⟨m, hm⟩ := k1; exact DataW.trod_lt m _ _ _ hm
  obtain ⟨n1, ev1, _, _, wn1⟩ := open_int Try.underlying3 (hval 1 3 v1 rfl rfl) h1
  subst ev1
  obtain ⟨lo1, hi1⟩ := wf_bounds wn1
  clear hA0 hval0 hsz0
  refine (limitOrder_walk v0 zs0 n1 W zl0 ln0 lo1 hi1).mono fun e W' ⟨he, bel⟩ => ?_
  subst he
  exact ⟨_, rfl, _, _, _, [], _, [], hW', trodAll_mk1 (shut_bool Try.underlying4 _), (trodAll_cons_mk (Below.trod Try.laidOut (by kernel_rfl) (of_decide_eq_true (by kernel_rfl)) k0 bel lt0) (trodAll_cons_mk (Below.trod Try.laidOut (by kernel_rfl) (of_decide_eq_true (by kernel_rfl)) k1 bel lt1) trodAll_mk0)), rfl, bel.frame _, fun h => by cases h⟩

theorem limitOrder_proved : Rows.LimitOrderSaid :=
  OpenClaim.holds_of_wide 5 Try.f5 rfl rfl rfl rfl rfl rfl rfl ⟨rfl, rfl, rfl, rfl, rfl⟩ rfl rfl rfl rfl rfl (by kernel_rfl) Try.func5 (by kernel_rfl)
    (of_decide_eq_true (by kernel_rfl)) (by unfold Func.isWrapper; rw [if_neg (of_decide_eq_false (by kernel_rfl))]; exact ⟨rfl, rfl⟩)
    (fun os started H enc _ => limitOrder_lifted os started H enc)
end Go.Proofs.Ytedbonnejgpjeaa
