/- The statement LimitRoom: with one more bit lengths cost no more; of numbers that are twice as great twice as much. It holds for all rows of numbers, without a condition. -/
import Derived.Test.YtedbonnejgpjeaaLarg
namespace Go.Proofs.Ytedbonnejgpjeaa
open Go.ChangeShapes Go.WideShapes Go.ChangeAt Go.RowKit

theorem nat_twice (zs : List Int) (h : ∀ z ∈ zs, 0 ≤ z) : nat (zs.map (2 * ·)) = (nat zs).map (2 * ·) := by
  unfold nat
  rw [List.map_map, List.map_map]
  refine List.map_congr_left fun z hz => ?_
  have := h z hz
  show (2 * z).toNat = 2 * z.toNat
  omega
theorem nums_mem {zs : List Int} (h : Nums zs) : ∀ z ∈ zs, 0 ≤ z := fun z hz => by
  obtain ⟨i, hi⟩ := List.getElem?_of_mem hz
  have hl := (List.getElem?_eq_some_iff.1 hi).1
  have := h.2.2 i hl
  rw [hi] at this
  exact this.1
theorem twice_get (zs : List Int) (i : Nat) : (zs.map (2 * ·))[i]?.getD 0 = 2 * zs[i]?.getD 0 := by
  rw [List.getElem?_map]
  cases zs[i]? <;> rfl
theorem twice_good {zs : List Int} {most : Int} (h : Good zs most) (hs : ∀ i, i < zs.length → zs[i]?.getD 0 ≤ 2147483647) : Good (zs.map (2 * ·)) most := by
  refine ⟨⟨by rw [List.length_map]; exact h.1.1, by rw [List.length_map]; exact h.1.2.1, fun i hi => ?_⟩, h.2.1, ?_⟩
  · rw [List.length_map] at hi
    rw [twice_get]
    have := hs i hi
    have := h.1.2.2 i hi
    omega
  · rw [nat_twice zs (nums_mem h.1), Lm.srt_twice]; exact h.2.2
theorem twice_cst {zs : List Int} {most : Int} (h : Good zs most) (hs : ∀ i, i < zs.length → zs[i]?.getD 0 ≤ 2147483647) : cst (zs.map (2 * ·)) most = 2 * cst zs most := by
  unfold cst
  rw [if_pos (twice_good h hs), if_pos h, nat_twice zs (nums_mem h.1), List.length_map]
  have := Lm.least_twice (nat zs) most.toNat
  rw [nat_length] at this
  exact this
theorem more_good {zs : List Int} {most : Int} (h : Good zs most) (hm : most ≠ 15) : Good zs (most + 1) := by
  refine ⟨h.1, by have := h.2.1; omega, Nat.le_trans h.2.2 (Nat.pow_le_pow_right (by omega) (by omega))⟩
theorem more_cst {zs : List Int} {most : Int} (h : Good zs most) (hm : most ≠ 15) : cst zs (most + 1) ≤ cst zs most := by
  unfold cst
  rw [if_pos (more_good h hm), if_pos h]
  have := Lm.room (nat zs) most.toNat (by have := h.2.1; omega) h.2.2
  rw [nat_length, show most.toNat + 1 = (most + 1).toNat by have := h.2.1; omega] at this
  exact this
theorem cst_le (zs : List Int) (most : Int) : cst zs most ≤ 18554258714400 := by
  unfold cst
  by_cases h : Good zs most
  · rw [if_pos h, ← cost_lens h]
    have hv := valid_lens h
    have h1 := costTo_le (nat zs) (nat (lensZ zs most.toNat)) zs.length fun i hi => by
      have g1 := h.1.2.2 i hi
      have g2 := Lm.len_le (nat zs) most.toNat (by have := h.2.1; omega) h.2.2 i
      have g3 := h.2.1
      rw [nat_get, nat_lens zs _ i hi]
      omega
    have h2 := h.1.2.1
    have := Nat.mul_le_mul_right 64424509425 h2
    omega
  · rw [if_neg h]; exact Nat.zero_le _

set_option maxHeartbeats 4000000 in
theorem limitRoom_walk (s : Value) (zs : List Int) (most : Int) (w : World) (hz : Zl w s zs) (hl : zs.length ≤ 17592186043904) (lo : -9223372036854775808 ≤ most) (hi : most ≤ 9223372036854775807) :
    Calls Try.prog 6 #[s, .int .i64 most] w fun e w' => e = .returned (.bool true) ∧ Below w.heap.size w w' := by
  have HZ := Lib.hid hz
  have HC := Lib.hid (fun (m : Int) (w : World) (h : Zl w s zs) => lcost_any zs s m w h)
  obtain ⟨a, n, cap, rfl, e1, r1, r2, d1⟩ := hz
  obtain ⟨u, hu⟩ : ∃ u, u = cst zs most := ⟨_, rfl⟩
  have hub : u ≤ 18554258714400 := by rw [hu]; exact cst_le _ _
  have H0 := Lib.hid (HC.out most w HZ.out)
  rw [← hu] at H0
  by_cases hg : Good zs most
  · rw [decide_eq_true hg] at H0
    have h288 : n ≤ 288 := by have := hg.1.2.1; omega
    have hpos : 0 < n := by have := hg.1.1; omega
    obtain ⟨b1, o1, rfl, lt1, q1⟩ := d1 hpos
    have E1 : Hid (∀ i, i < n → w.cell? ⟨b1, o1 + i, none⟩ = some (.int .i64 (((nat zs)[i]?.getD 0 : Nat) : Int)) ∧ zs[i]?.getD 0 = (((nat zs)[i]?.getD 0 : Nat) : Int) ∧ (nat zs)[i]?.getD 0 ≤ 4294967295) := fun i hi => by
      have := hg.1.2.2 i (by omega)
      rw [q1 i hi, nat_get]
      exact ⟨by congr 2; omega, by omega, by omega⟩
    have HN := Lib.hid e1
    have HTW : Hid ((∀ i, i < n → zs[i]?.getD 0 ≤ 2147483647) → ∀ (s2 : Value) (w2 : World), Zl w2 s2 (zs.map (2 * ·)) → Calls Try.prog 17 #[s2, .int .i64 most] w2 fun e w' => e = .returned (.tuple #[.int .i64 ((2 * u : Nat) : Int), .bool true]) ∧ Below w2.heap.size w2 w') := fun hs s2 w2 h2 => by
      have h := lcost_any (zs.map (2 * ·)) s2 most w2 h2
      rw [twice_cst hg (fun i hi => hs i (by omega)), ← hu, decide_eq_true (twice_good hg (fun i hi => hs i (by omega)))] at h
      exact h
    have HMO : Hid (most ≠ 15 → ∃ k : Nat, k ≤ u ∧ ∀ (w2 : World), Zl w2 (.slice (some ⟨b1, o1, none⟩) n cap) zs → Calls Try.prog 17 #[.slice (some ⟨b1, o1, none⟩) n cap, .int .i64 (most + 1)] w2 fun e w' => e = .returned (.tuple #[.int .i64 (k : Int), .bool true]) ∧ Below w2.heap.size w2 w') := fun hm => by
      refine ⟨_, by rw [hu]; exact more_cst hg hm, fun w2 h2 => ?_⟩
      have h := HC.out (most + 1) w2 h2
      rw [decide_eq_true (more_good hg hm)] at h
      exact h
    have hmo : most ≤ 15 := hg.2.1.2
    have hmo1 : 1 ≤ most := hg.2.1.1
    clear hg hu HC d1 q1 r1 r2 e1 hl
    go_enter Try.func6, Try.ntmps6
    go_wp2_with fail
    refine H0.out.mono ?_
    clear H0
    rintro e w1 ⟨rfl, hb⟩
    have B1 := Lib.hid hb
    clear hb
    go_wp2_with fail
    go_loopw [7, 8] (fun s7 s8 wr => ∃ (k cap2 : Nat) (v : Option Addr), k ≤ n ∧ s8 = .int .i64 (k : Int) ∧ s7 = .slice v k cap2 ∧ Hid (Io w.heap.size wr (.slice v k cap2) (((nat zs).map (2 * ·)).take k)) ∧ Hid (∀ i, i < k → zs[i]?.getD 0 ≤ 2147483647) ∧ Hid (Below w.heap.size w wr)) (fun _ s _ => n - (intOf s).toNat)
    case atStart => exact ⟨0, 0, none, Nat.zero_le _, rfl, rfl, Io.nil _ _, fun i hi => by omega, B1⟩
    case round =>
      obtain ⟨k, cap2, v, hk, rfl, rfl, KI, KS, KB⟩ := hrel
      by_cases hlt : k < n
      · obtain ⟨g1, x1, x2⟩ := E1.out k hlt
        have gx := (KB.out.cell (p := ⟨b1, o1 + k, none⟩) lt1).trans g1
        obtain ⟨x, hx⟩ : ∃ x, x = (nat zs)[k]?.getD 0 := ⟨_, rfl⟩
        rw [← hx] at gx x1 x2
        by_cases hbig : 2147483647 < x
        · have t1 : decide (2147483647 < (x : Int)) = true := by simp; omega
          clear g1 x1 x2 hx hbig KI KS
          go_wp2_with fail
          refine (lives_any _).mono ?_
          rintro e w5 ⟨rfl, hb⟩
          have B5 := Lib.hid (KB.out.trans (hb.mono KB.out.size))
          clear hb
          go_wp2
          go_ret
          exact ⟨rfl, B5.out⟩
        · have t1 : decide (2147483647 < (x : Int)) = false := by simp; omega
          obtain ⟨z, hzz⟩ : ∃ z, z = 2 * x := ⟨_, rfl⟩
          have hz2 : (2 : Int) * (x : Int) = (z : Int) := by omega
          have hln : (((nat zs).map (2 * ·)).take k).length = k := by rw [List.length_take, List.length_map, nat_length]; have := HN.out; omega
          obtain ⟨g', cap', w2, hrun, hO, hB2⟩ := Io.more KI.out KB.out z (by rw [hln]; omega)
          rw [hln] at hrun hO
          have hst : ((nat zs).map (2 * ·)).take (k + 1) = ((nat zs).map (2 * ·)).take k ++ [z] := by
            have hkl : k < (nat zs).length := by rw [nat_length]; have := HN.out; omega
            have e : (nat zs)[k]? = some x := by rw [hx, List.getElem?_eq_getElem hkl]; rfl
            rw [List.take_add_one, List.getElem?_map, e, hzz]; rfl
          have HRUN := Lib.hid hrun
          have KI2 : Hid (Io w.heap.size w2 (.slice (some ⟨g', 0, none⟩) (k + 1) cap') (((nat zs).map (2 * ·)).take (k + 1))) := by show Io _ _ _ _; rw [hst]; exact hO.out
          have KB2 := Lib.hid hB2
          have KS2 : Hid (∀ i, i < k + 1 → zs[i]?.getD 0 ≤ 2147483647) := fun i hi => by
            by_cases e : i = k
            · rw [e, x1]; omega
            · exact KS.out i (by omega)
          have hzb : z ≤ 4294967294 := by omega
          clear g1 x1 x2 hx hzz hbig hln hrun hO hB2 hst KI KB KS
          go_wp2_with (at_builtin; refine wpList_append_known rfl (.tmp 34) (.tmp 40) 22 rfl _ _ _ _ rfl rfl HRUN.out ?_)
          go_roundw
          case rel => exact ⟨k + 1, _, _, by omega, by go_num, rfl, KI2, KS2, KB2⟩
          case measure => simp [intOf]; omega
      · obtain rfl : k = n := by omega
        have hzl : Zl wr (.slice v k cap2) (zs.map (2 * ·)) := by
          have hln : ((nat zs).map (2 * ·)).length = k := by rw [List.length_map, nat_length]; exact HN.out.symm
          have h := Io.nl KI.out (by rw [List.length_take]; omega)
          rw [List.take_of_length_le (by rw [hln]; exact Nat.le_refl _)] at h
          obtain ⟨a', len', cap', e, h1, h2, h3, h4, h5⟩ := h
          cases e
          refine ⟨_, k, cap2, rfl, by rw [List.length_map]; exact HN.out, by omega, h4, fun h0 => ?_⟩
          obtain ⟨b, off, rfl, hlt, hc⟩ := h5 h0
          refine ⟨b, off, rfl, hlt, fun i hi => ?_⟩
          have hil : i < (nat zs).length := by rw [nat_length]; have := HN.out; omega
          have e : (nat zs)[i]? = some ((nat zs)[i]?.getD 0) := by rw [List.getElem?_eq_getElem hil]; rfl
          rw [hc i (2 * (nat zs)[i]?.getD 0) (by rw [List.getElem?_map, e]; rfl), twice_get, (E1.out i hi).2.1]
          simp
        have HC2 := HTW.out KS.out _ _ hzl
        have B2 := KB
        have h2u : (2 : Int) * (u : Int) = ((2 * u : Nat) : Int) := by omega
        obtain ⟨u2, hu2⟩ : ∃ u2, u2 = 2 * u := ⟨_, rfl⟩
        rw [← hu2] at HC2 h2u
        clear hzl KI KS HTW hu2
        go_wp2_with fail
        refine HC2.mono ?_
        clear HC2
        rintro e w3 ⟨rfl, hb⟩
        have B3 := Lib.hid (B2.out.trans (hb.mono B2.out.size))
        have hne : ((u2 : Int) != (u2 : Int)) = false := by simp
        clear hb B2
        by_cases h15 : most = 15
        · have t1 : (most == 15) = true := by simp [h15]
          clear h15 HMO
          go_wp2_with fail
          refine (lives_any _).mono ?_
          rintro e w5 ⟨rfl, hb⟩
          have B5 := Lib.hid (B3.out.trans (hb.mono B3.out.size))
          clear hb
          go_wp2
          go_ret
          exact ⟨rfl, B5.out⟩
        · have t1 : (most == 15) = false := by rw [beq_eq_false_iff_ne]; exact h15
          obtain ⟨q, hq, HQ⟩ := HMO.out h15
          have H4 := HQ w3 (HZ.out.later B3.out)
          have t2 : decide ((q : Int) ≤ (u : Int)) = true := by simp; omega
          have hw : IntKind.i64.wrap (most + 1) = most + 1 := IntWalk.i64_in _ (by omega)
          clear h15 HMO HQ
          go_wp2_with fail
          refine H4.mono ?_
          clear H4
          rintro e w4 ⟨rfl, hb⟩
          have B4 := Lib.hid (B3.out.trans (hb.mono B3.out.size))
          clear hb B3
          go_wp2_with fail
          refine (lives_any _).mono ?_
          rintro e w5 ⟨rfl, hb⟩
          have B5 := Lib.hid (B4.out.trans (hb.mono B4.out.size))
          clear hb
          go_wp2
          go_ret
          exact ⟨rfl, B5.out⟩
  · rw [decide_eq_false hg] at H0
    clear hg hu HC d1 r1 r2 e1 hl
    go_enter Try.func6, Try.ntmps6
    go_wp2_with fail
    refine H0.out.mono ?_
    clear H0
    rintro e w1 ⟨rfl, hb⟩
    have B1 := Lib.hid hb
    clear hb
    go_wp2_with fail
    refine (lives_any _).mono ?_
    rintro e w5 ⟨rfl, hb⟩
    have B5 := Lib.hid (B1.out.trans (hb.mono B1.out.size))
    clear hb
    go_wp2
    go_ret
    exact ⟨rfl, B5.out⟩

set_option maxRecDepth 100000 in
theorem limitRoom_lifted (os : Os) (started : os.Started) (H : Type) (enc : TypeId × Value → H) :
    ReturnsInHanded {} Try.checked os 6 .any (Rows.limitRoomSpec.pre6 enc Try.prog Try.f6 Rows.limitRoomRow.domain false) (Rows.limitRoomSpec.post enc Try.prog Try.f6 false true false false) := by
  refine returnsInHanded_of_change_sized (C := Try.checked) Try.own started (by kernel_rfl) Try.func6
    (ChangeSpec.witness6 (enc := enc) (C := Try.checked) false ⟨#[], #[.slice none 0 0, .int .i64 0], []⟩ 8 (by kernel_rfl) (by kernel_rfl) (by kernel_rfl) (by kernel_rfl)) ?_
  intro W base args ds gs before hval0 hW _ hsz0 _
  have hval : ∀ (j : Nat) t v, Try.f6.params[j]? = some t → args[j]? = some v → Value.okWide Try.prog W .any base t v := hval0
  have hsz : (DataW.weightsEach Try.prog (Try.f6.params.toList ++ Rows.limitRoomSpec.plain.varTypes Try.prog) (ds ++ gs)).all (· ≤ reachBytes) = true := hsz0
  have hW' := hW
  obtain ⟨p, q, hA0, hV, rfl, hfz, hnd⟩ := hW
  have hA : DataW.TrodAll enc Try.prog W 0 (fun _ => true) true Try.f6.params.toList args.toList ds p := hA0
  rw [Try.params6] at hA hval hsz
  obtain ⟨v0, vs0, d0, ds0, p0, q0, hargs, rfl, rfl, h0, r0⟩ := trodAll_cons hA
  obtain ⟨v1, vs1, d1, ds1, p1, q1, rfl, rfl, rfl, h1, r1⟩ := trodAll_cons r0
  obtain ⟨rfl, rfl, rfl⟩ := trodAll_nil r1
  obtain rfl : args = #[v0, v1] := by cases args; simp_all
  obtain ⟨rfl, rfl⟩ := trodVars_none hV
  have k0 := h0
  have lt0 : ∀ x ∈ p0, x.block < W.heap.size := by obtain ⟨m, hm⟩ := k0; exact DataW.trod_lt m _ _ _ hm
  have w0 : ∀ n ∈ d0.weights Try.prog 22, n ≤ reachBytes := fun n hn => by simpa using List.all_eq_true.1 hsz n (DataW.weights_mem_each (j := 0) rfl rfl n hn)
  obtain ⟨zs0, zl0, ln0⟩ := ints_open (hval 0 22 v0 rfl rfl) h0 w0
  have k1 := h1
  have lt1 : ∀ x ∈ p1, x.block < W.heap.size := by obtain ⟨m, hm⟩ := k1; exact DataW.trod_lt m _ _ _ hm
  obtain ⟨n1, ev1, _, _, wn1⟩ := open_int Try.underlying3 (hval 1 3 v1 rfl rfl) h1
  subst ev1
  obtain ⟨lo1, hi1⟩ := wf_bounds wn1
  clear hA0 hval0 hsz0
  refine (limitRoom_walk v0 zs0 n1 W zl0 ln0 lo1 hi1).mono fun e W' ⟨he, bel⟩ => ?_
  subst he
  exact ⟨_, rfl, _, _, _, [], _, [], hW', trodAll_mk1 (shut_bool Try.underlying4 _), (trodAll_cons_mk (Below.trod Try.laidOut (by kernel_rfl) (of_decide_eq_true (by kernel_rfl)) k0 bel lt0) (trodAll_cons_mk (Below.trod Try.laidOut (by kernel_rfl) (of_decide_eq_true (by kernel_rfl)) k1 bel lt1) trodAll_mk0)), rfl, bel.frame _, fun h => by cases h⟩

theorem limitRoom_proved : Rows.LimitRoomSaid :=
  OpenClaim.holds_of_wide 6 Try.f6 rfl rfl rfl rfl rfl rfl rfl ⟨rfl, rfl, rfl, rfl, rfl⟩ rfl rfl rfl rfl rfl (by kernel_rfl) Try.func6 (by kernel_rfl)
    (of_decide_eq_true (by kernel_rfl)) (by unfold Func.isWrapper; rw [if_neg (of_decide_eq_false (by kernel_rfl))]; exact ⟨rfl, rfl⟩)
    (fun os started H enc _ => limitRoom_lifted os started H enc)
end Go.Proofs.Ytedbonnejgpjeaa
