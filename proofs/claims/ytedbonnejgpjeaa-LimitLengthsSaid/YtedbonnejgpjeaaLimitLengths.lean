/- The statement LimitLengths: any numbers have lengths or none, as the document says; the lengths are those of a whole code, none too long, and cost just what the best ones cost. It holds for all rows of numbers, without a condition. -/
import Derived.Test.YtedbonnejgpjeaaLarg
import Derived.Test.YtedbonnejgpjeaaLrc
namespace Go.Proofs.Ytedbonnejgpjeaa
open Go.ChangeShapes Go.WideShapes Go.ChangeAt Go.RowKit

/-- What lengths take, of these lengths. -/
theorem tk_lens (zs : List Int) (M : Nat) (k : Nat) (hk : k ≤ zs.length) : Hf.tk (nat (lensZ zs M)) (fun x => decide (0 < x)) k = Lm.sumTo (fun i => if 0 < Lm.len (nat zs) M i then 2 ^ (15 - Lm.len (nat zs) M i) else 0) k := by
  induction k with
  | zero => rfl
  | succ k ih =>
    simp only [Hf.tk, Lm.sumTo]
    rw [ih (by omega)]
    have e : Hf.ln (nat (lensZ zs M)) k = Lm.len (nat zs) M k := nat_lens zs M k (by omega)
    rw [e]
    simp
theorem tk_all {zs : List Int} {most : Int} (h : Good zs most) : Hf.tk (nat (lensZ zs most.toNat)) (fun x => decide (0 < x)) zs.length = if (Lm.srt (nat zs)).length < 2 then (Lm.srt (nat zs)).length * 16384 else 32768 := by
  rw [tk_lens zs _ _ (Nat.le_refl _)]
  have := Lm.take15 (nat zs) most.toNat (by have := h.2.1; omega) (by have := h.2.1; omega) h.2.2
  rw [nat_length] at this
  exact this
theorem chk_lens {zs : List Int} {most : Int} (h : Good zs most) (hn : ¬ (Lm.srt (nat zs)).length < 2) : chk (lensZ zs most.toNat) = 0 := by
  have hv := valid_lens h
  unfold chk
  rw [if_pos hv]
  have h1 : takes (nat (lensZ zs most.toNat)) = 32768 := by
    unfold takes
    rw [takes_tk _ (fun i hi => hv.le i hi) _ (Nat.le_refl _), nat_length, lensZ_length, tk_all h, if_neg hn]
  rw [h1]; rfl
/-- What is asked of each length. -/
theorem len_is {zs : List Int} {most : Int} (h : Good zs most) (i : Nat) (hi : i < zs.length) : (0 < Lm.len (nat zs) most.toNat i ↔ 0 < zs[i]?.getD 0) ∧ ((Lm.len (nat zs) most.toNat i : Nat) : Int) ≤ most ∧ (nat zs)[i]?.getD 0 = (zs[i]?.getD 0).toNat := by
  have hM : 1 ≤ most.toNat := by have := h.2.1; omega
  refine ⟨?_, ?_, nat_get zs i⟩
  · by_cases h0 : (nat zs)[i]?.getD 0 = 0
    · rw [Lm.len_unused (nat zs) _ i hM h.2.2 h0]
      rw [nat_get] at h0
      constructor <;> intro <;> omega
    · have := Lm.len_used (nat zs) _ i hM h.2.2 (by rw [nat_length]; exact hi) h0
      rw [nat_get] at h0
      constructor <;> intro <;> omega
  · have := Lm.len_le (nat zs) _ hM h.2.2 i
    have := h.2.1
    omega

theorem usd_step (fs : List Nat) (k : Nat) : (Lm.usd fs (k + 1)).length = (Lm.usd fs k).length + (if fs[k]?.getD 0 = 0 then 0 else 1) := by
  rw [Lm.usd, List.length_append]
  split <;> rfl

set_option maxHeartbeats 4000000 in
theorem right_any (zs : List Int) (most : Int) (s1 s2 : Value) (w : World) (h1 : Zl w s1 zs) (hg : Good zs most) (h2 : Zl w s2 (lensZ zs most.toNat)) :
    Calls Try.prog 12 #[s1, s2, .int .i64 most] w fun e w' => e = .returned (.bool true) ∧ Below w.heap.size w w' := by
  have hva := valid_lens hg
  have HR := rare_any (lensZ zs most.toNat) s2 w h2
  rw [decide_eq_true hva] at HR
  have HT := Lib.hid (fun (w' : World) (hb : Below w.heap.size w w') => rtakes_any (nat (lensZ zs most.toNat)) s2 w.heap.size w' ((hva.lsl h2 (Nat.le_refl _)).below hb) (fun i hi => hva.le i hi))
  rw [nat_length, lensZ_length, tk_all hg] at HT
  have HC := Lib.hid (fun (w' : World) (hb : Below w.heap.size w w') => rcheck_any (lensZ zs most.toNat) s2 w' (h2.later hb))
  obtain ⟨u, hu⟩ : ∃ u, u = (Lm.srt (nat zs)).length := ⟨_, rfl⟩
  rw [← hu] at HT
  have hcz : Hid (¬ u < 2 → chk (lensZ zs most.toNat) = 0) := fun h => chk_lens hg (by rw [← hu]; exact h)
  have hu2 : u = (Lm.usd (nat zs) zs.length).length := by rw [hu, Lm.srt_length, nat_length]
  obtain ⟨a1, n, c1, rfl, e1, _, _, d1⟩ := h1
  obtain ⟨a2, n2, c2, rfl, e2, _, _, d2⟩ := h2
  rw [lensZ_length] at e2
  have hn2 : n2 = n := by omega
  subst hn2
  have h288 : n2 ≤ 288 := by have := hg.1.2.1; omega
  have hpos : 0 < n2 := by have := hg.1.1; omega
  obtain ⟨b1, o1, rfl, lt1, q1⟩ := d1 hpos
  obtain ⟨b2, o2, rfl, lt2, q2⟩ := d2 hpos
  have E1 : Hid (∀ i, i < n2 → w.cell? ⟨b1, o1 + i, none⟩ = some (.int .i64 (zs[i]?.getD 0)) ∧ 0 ≤ zs[i]?.getD 0) := fun i hi => ⟨q1 i hi, by have := hg.1.2.2 i (by omega); omega⟩
  have E2 : Hid (∀ i, i < n2 → w.cell? ⟨b2, o2 + i, none⟩ = some (.int .i64 (Lm.len (nat zs) most.toNat i : Nat)) ∧ (0 < Lm.len (nat zs) most.toNat i ↔ 0 < zs[i]?.getD 0) ∧ ((Lm.len (nat zs) most.toNat i : Nat) : Int) ≤ most ∧ (nat zs)[i]?.getD 0 = (zs[i]?.getD 0).toNat) := fun i hi => ⟨by rw [q2 i hi, lensZ_get zs _ i (by omega)], len_is hg i (by omega)⟩
  rw [← e1] at hu2
  have HU := Lib.hid (fun _ : Unit => hu2)
  have hne : ((n2 : Int) != (n2 : Int)) = false := by simp
  have hu288 : u ≤ 288 := by have := Lm.usd_length (nat zs) n2; omega
  clear hva hg hu hu2 e1 e2 d1 d2 q1 q2
  go_enter Try.func12, Try.ntmps12
  go_wp2_with fail
  refine HR.mono ?_
  clear HR
  rintro e w0 ⟨rfl, rfl⟩
  go_wp2_with fail
  go_loopw [7, 8] (fun s7 s8 wr => ∃ k v q : Nat, k ≤ n2 ∧ v ≤ k ∧ s8 = .int .i64 (k : Int) ∧ s7 = .int .i64 (v : Int) ∧ Hid (Unit → v = (Lm.usd (nat zs) k).length) ∧ wr = w.drewN q) (fun _ s _ => n2 - (intOf s).toNat)
  case atStart => exact ⟨0, 0, 0, Nat.zero_le _, Nat.le_refl _, rfl, rfl, fun _ => rfl, rfl⟩
  case round =>
    obtain ⟨k, v, q, hk, hvk, rfl, rfl, KV, rfl⟩ := hrel
    by_cases hlt : k < n2
    · obtain ⟨g1, x1⟩ := E1.out k hlt
      obtain ⟨g2, x2, x3, x4⟩ := E2.out k hlt
      have hst := usd_step (nat zs) k
      rw [x4] at hst
      obtain ⟨x, hx⟩ : ∃ x, x = zs[k]?.getD 0 := ⟨_, rfl⟩
      obtain ⟨y, hy⟩ : ∃ y, y = Lm.len (nat zs) most.toNat k := ⟨_, rfl⟩
      rw [← hx] at g1 x1 x2 hst
      rw [← hy] at g2 x2 x3
      have t3 : decide (most < (y : Int)) = false := by simp; omega
      by_cases h0 : 0 < x
      · have hy0 : 0 < y := x2.2 h0
        have t1 : decide (0 < (y : Int)) = true := by simp; omega
        have t2 : decide (0 < x) = true := by simpa using h0
        have t1' : decide (0 < y) = true := by simpa using hy0
        have KV2 : Hid (Unit → v + 1 = (Lm.usd (nat zs) (k + 1)).length) := fun _ => by rw [hst, ← KV.out (), if_neg (by omega)]
        clear hst x2 x3 x4 hx hy hy0 KV x1
        go_wp2_with fail
        go_quiet (fail)
        go_wp2_with fail
        go_roundw
        case rel => exact ⟨k + 1, v + 1, _, by omega, by omega, by go_num, by go_num, KV2, by first | rfl | (rw [World.drewN_drewN])⟩
        case measure => simp [intOf]; omega
      · have hy0 : ¬ 0 < y := fun h => h0 (x2.1 h)
        have t1 : decide (0 < (y : Int)) = false := by simp; omega
        have t2 : decide (0 < x) = false := by simpa using h0
        have t1' : decide (0 < y) = false := by simpa using hy0
        have KV2 : Hid (Unit → v = (Lm.usd (nat zs) (k + 1)).length) := fun _ => by rw [hst, ← KV.out (), if_pos (by omega)]; rfl
        clear hst x2 x3 x4 hx hy hy0 KV x1
        go_wp2_with fail
        go_quiet (fail)
        go_wp2_with fail
        go_roundw
        case rel => exact ⟨k + 1, v, _, by omega, by omega, by go_num, rfl, KV2, by first | rfl | (rw [World.drewN_drewN])⟩
        case measure => simp [intOf]; omega
    · obtain rfl : k = n2 := by omega
      have hvu : v = u := by rw [KV.out (), HU.out ()]
      subst hvu
      have hbq := Lib.hid (below_drewN (Below.refl w.heap.size w) q)
      by_cases h2 : v < 2
      · have HT2 := HT.out (w.drewN q) hbq.out
        rw [if_pos h2] at HT2
        clear KV HU HT HC hcz
        go_wp2_with fail
        refine HT2.mono ?_
        clear HT2
        rintro e w1 ⟨rfl, rfl⟩
        rcases (by omega : v = 0 ∨ v = 1) with rfl | rfl
        · go_wp2
          go_ret
          exact ⟨rfl, hbq.out⟩
        · go_wp2
          go_ret
          exact ⟨rfl, hbq.out⟩
      · have HC2 := HC.out (w.drewN q) hbq.out
        rw [hcz.out h2] at HC2
        clear KV HU HT HC hcz
        go_wp2_with fail
        refine HC2.mono ?_
        clear HC2
        rintro e w1 ⟨rfl, rfl⟩
        go_wp2
        go_ret
        exact ⟨rfl, hbq.out⟩

theorem rcheck_all (zs : List Int) (s : Value) (most : Int) (w : World) (hz : Zl w s zs) : Calls Try.prog 10 #[s, .int .i64 most] w fun e w' => e = .returned (.int .i64 (lerr zs most)) ∧ Below w.heap.size w w' := by
  unfold lerr
  by_cases h1 : Nums zs ∧ 1 ≤ most ∧ most ≤ 15
  · rw [if_pos h1]
    have h := rcheck_fit zs s most.toNat w hz h1.1 (by omega) (by omega) _ rfl
    rw [show ((most.toNat : Nat) : Int) = most by omega] at h
    by_cases h2 : (Lm.srt (nat zs)).length ≤ 2 ^ most.toNat
    · rw [decide_eq_false (by omega)] at h
      rw [if_pos h2]; exact h
    · rw [decide_eq_true (by omega)] at h
      rw [if_neg h2]; exact h
  · rw [if_neg h1]; exact rcheck_arg zs s most w hz h1

set_option maxHeartbeats 4000000 in
theorem limitLengths_walk (s : Value) (zs : List Int) (most : Int) (w : World) (hz : Zl w s zs) (hl : zs.length ≤ 17592186043904) (lo : -9223372036854775808 ≤ most) (hi : most ≤ 9223372036854775807) :
    Calls Try.prog 3 #[s, .int .i64 most] w fun e w' => e = .returned (.bool true) ∧ Below w.heap.size w w' := by
  have HZ := Lib.hid hz
  have HLA := Lib.hid (fun (s : Value) (w : World) (h : Zl w s zs) => lengths_all zs s most w h)
  have HCA := Lib.hid (fun (s : Value) (w : World) (h : Zl w s zs) => rcheck_all zs s most w h)
  obtain ⟨a, n, cap, rfl, e1, r1⟩ := hz
  have HN := Lib.hid e1
  obtain ⟨g1, p1, w1, hr1, hc1, hb1⟩ := run_copy zs a n cap w HZ.out hl
  have R1 := Lib.hid hr1
  have C1 := Lib.hid hc1
  have B1 := Lib.hid hb1
  have hl2 : n ≤ 17592186043904 := by omega
  clear r1 e1 hr1 hc1 hb1 hl
  obtain ⟨c, hc⟩ : ∃ c, c = lerr zs most := ⟨_, rfl⟩
  rw [← hc] at HLA HCA
  by_cases hg : Good zs most
  · have hc0 : c = 0 := by rw [hc]; exact lerr_good hg
    subst hc0
    rw [show lensOf zs most = lensZ zs most.toNat from if_pos hg, lensZ_length, ← HN.out] at HLA
    have HRI := Lib.hid (fun (s1 s2 : Value) (w : World) (h1 : Zl w s1 zs) (h2 : Zl w s2 (lensZ zs most.toNat)) => right_any zs most s1 s2 w h1 hg h2)
    have HCO := Lib.hid (fun (s1 s2 : Value) (w : World) (h1 : Zl w s1 zs) (h2 : Zl w s2 (lensZ zs most.toNat)) => rcost_ok zs (lensZ zs most.toNat) s1 s2 w h1 h2 (fits_lens hg))
    have HLE := Lib.hid (fun (s : Value) (w : World) (h : Zl w s zs) => rleast_any zs s most.toNat w h hg.1 (by have := hg.2.1; omega) (by have := hg.2.1; omega) (by rw [Lm.wts_length]; have := hg.2.2; rw [Lm.srt_length, nat_length] at this; exact this))
    rw [cost_lens hg] at HCO
    obtain ⟨L, hL⟩ : ∃ L, L = Lm.leastN (Lm.wts (nat zs) zs.length) most.toNat := ⟨_, rfl⟩
    rw [← hL, show ((most.toNat : Nat) : Int) = most by have := hg.2.1; omega] at HLE
    rw [← hL] at HCO
    clear hc hg hL
    go_enter Try.func3, Try.ntmps3
    go_wp2_with (at_builtin; refine wpList_append_known rfl (.tmp 11) (.tmp 12) 22 rfl _ _ _ _ rfl rfl R1.out ?_)
    refine (HLA.out _ _ C1.out).mono ?_
    clear HLA
    rintro e w2 ⟨a2, c2, rfl, hz2, hb2⟩
    have L2 := Lib.hid hz2
    have C2 := Lib.hid (C1.out.later hb2)
    have B2 := Lib.hid (B1.out.trans (hb2.mono B1.out.size))
    clear hz2 hb2 C1 B1
    go_wp2_with fail
    refine (HCA.out _ _ (HZ.out.later B2.out)).mono ?_
    clear HCA
    rintro e w3 ⟨rfl, hb⟩
    have L3 := Lib.hid (L2.out.later hb)
    have C3 := Lib.hid (C2.out.later hb)
    have B3 := Lib.hid (B2.out.trans (hb.mono B2.out.size))
    clear hb L2 C2 B2
    go_wp2_with fail
    refine (HRI.out _ _ _ (HZ.out.later B3.out) L3.out).mono ?_
    clear HRI
    rintro e w4 ⟨rfl, hb⟩
    have L4 := Lib.hid (L3.out.later hb)
    have C4 := Lib.hid (C3.out.later hb)
    have B4 := Lib.hid (B3.out.trans (hb.mono B3.out.size))
    clear hb L3 C3 B3
    go_wp2_with fail
    refine (same_to _ _ n n _ _ zs _ HN.out rfl (by omega) (sm_zl C4.out) (sm_zl (HZ.out.later B4.out))).mono ?_
    rintro e w5 ⟨rfl, hb⟩
    have L5 := Lib.hid (L4.out.later hb)
    have B5 := Lib.hid (B4.out.trans (hb.mono B4.out.size))
    clear hb L4 C4 B4
    go_wp2_with fail
    refine (HCO.out _ _ _ (HZ.out.later B5.out) L5.out).mono ?_
    clear HCO
    rintro e w6 ⟨rfl, hb⟩
    have B6 := Lib.hid (B5.out.trans (hb.mono B5.out.size))
    clear hb L5 B5
    go_wp2_with fail
    refine (HLE.out _ _ (HZ.out.later B6.out)).mono ?_
    clear HLE
    rintro e w7 ⟨rfl, hb⟩
    have B7 := Lib.hid (B6.out.trans (hb.mono B6.out.size))
    clear hb B6
    go_wp2_with fail
    refine (lives_any _).mono ?_
    rintro e w8 ⟨rfl, hb⟩
    have B8 := Lib.hid (B7.out.trans (hb.mono B7.out.size))
    clear hb B7
    go_wp2
    go_ret
    exact ⟨rfl, B8.out⟩
  · have hne : (c != 0) = true := by rw [bne_iff_ne, hc]; exact lerr_bad hg
    rw [show lensOf zs most = [] from if_neg hg] at HLA
    clear hc hg
    go_enter Try.func3, Try.ntmps3
    go_wp2_with (at_builtin; refine wpList_append_known rfl (.tmp 11) (.tmp 12) 22 rfl _ _ _ _ rfl rfl R1.out ?_)
    refine (HLA.out _ _ C1.out).mono ?_
    clear HLA
    rintro e w2 ⟨a2, c2, rfl, hz2, hb2⟩
    have B2 := Lib.hid (B1.out.trans (hb2.mono B1.out.size))
    clear hz2 hb2 C1 B1
    go_wp2_with fail
    refine (HCA.out _ _ (HZ.out.later B2.out)).mono ?_
    clear HCA
    rintro e w3 ⟨rfl, hb⟩
    have B3 := Lib.hid (B2.out.trans (hb.mono B2.out.size))
    clear hb B2
    go_wp2_with fail
    refine (lives_any _).mono ?_
    rintro e w8 ⟨rfl, hb⟩
    have B8 := Lib.hid (B3.out.trans (hb.mono B3.out.size))
    clear hb B3
    go_wp2
    go_ret
    exact ⟨rfl, B8.out⟩

set_option maxRecDepth 100000 in
theorem limitLengths_lifted (os : Os) (started : os.Started) (H : Type) (enc : TypeId × Value → H) :
    ReturnsInHanded {} Try.checked os 3 .any (Rows.limitLengthsSpec.pre6 enc Try.prog Try.f3 Rows.limitLengthsRow.domain false) (Rows.limitLengthsSpec.post enc Try.prog Try.f3 false true false false) := by
  refine returnsInHanded_of_change_sized (C := Try.checked) Try.own started (by kernel_rfl) Try.func3
    (ChangeSpec.witness6 (enc := enc) (C := Try.checked) false ⟨#[], #[.slice none 0 0, .int .i64 0], []⟩ 8 (by kernel_rfl) (by kernel_rfl) (by kernel_rfl) (by kernel_rfl)) ?_
  intro W base args ds gs before hval0 hW _ hsz0 _
  have hval : ∀ (j : Nat) t v, Try.f3.params[j]? = some t → args[j]? = some v → Value.okWide Try.prog W .any base t v := hval0
  have hsz : (DataW.weightsEach Try.prog (Try.f3.params.toList ++ Rows.limitLengthsSpec.plain.varTypes Try.prog) (ds ++ gs)).all (· ≤ reachBytes) = true := hsz0
  have hW' := hW
  obtain ⟨p, q, hA0, hV, rfl, hfz, hnd⟩ := hW
  have hA : DataW.TrodAll enc Try.prog W 0 (fun _ => true) true Try.f3.params.toList args.toList ds p := hA0
  rw [Try.params3] at hA hval hsz
  obtain ⟨v0, vs0, d0, ds0, p0, q0, hargs, rfl, rfl, h0, r0⟩ := trodAll_cons hA
  obtain ⟨v1, vs1, d1, ds1, p1, q1, rfl, rfl, rfl, h1, r1⟩ := trodAll_cons r0
  obtain ⟨rfl, rfl, rfl⟩ := trodAll_nil r1
  obtain rfl : args = #[v0, v1] := by cases args; simp_all
  obtain ⟨rfl, rfl⟩ := trodVars_none hV
  have k0 := h0
  have lt0 : ∀ x ∈ p0, x.block < W.heap.size := by obtain ⟨m, hm⟩ := k0; exact DataW.trod_lt m _ _ _ hm
  have w0 : ∀ n ∈ d0.weights Try.prog 22, n ≤ reachBytes := fun n hn => by simpa using List.all_eq_true.1 hsz n (DataW.weights_mem_each (j := 0) rfl rfl n hn)
  obtain ⟨zs0, zl0, ln0⟩ := ints_open (hval 0 22 v0 rfl rfl) h0 w0
  have k1 := h1
  have lt1 : ∀ x ∈ p1, x.block < W.heap.size := by obtain ⟨m, hm⟩ := k1; exact DataW.trod_lt m _ _ _ hm
  obtain ⟨n1, ev1, _, _, wn1⟩ := open_int Try.underlying3 (hval 1 3 v1 rfl rfl) h1
  subst ev1
  obtain ⟨lo1, hi1⟩ := wf_bounds wn1
  clear hA0 hval0 hsz0
  refine (limitLengths_walk v0 zs0 n1 W zl0 ln0 lo1 hi1).mono fun e W' ⟨he, bel⟩ => ?_
  subst he
  exact ⟨_, rfl, _, _, _, [], _, [], hW', trodAll_mk1 (shut_bool Try.underlying4 _), (trodAll_cons_mk (Below.trod Try.laidOut (by kernel_rfl) (of_decide_eq_true (by kernel_rfl)) k0 bel lt0) (trodAll_cons_mk (Below.trod Try.laidOut (by kernel_rfl) (of_decide_eq_true (by kernel_rfl)) k1 bel lt1) trodAll_mk0)), rfl, bel.frame _, fun h => by cases h⟩

theorem limitLengths_proved : Rows.LimitLengthsSaid :=
  OpenClaim.holds_of_wide 3 Try.f3 rfl rfl rfl rfl rfl rfl rfl ⟨rfl, rfl, rfl, rfl, rfl⟩ rfl rfl rfl rfl rfl (by kernel_rfl) Try.func3 (by kernel_rfl)
    (of_decide_eq_true (by kernel_rfl)) (by unfold Func.isWrapper; rw [if_neg (of_decide_eq_false (by kernel_rfl))]; exact ⟨rfl, rfl⟩)
    (fun os started H enc _ => limitLengths_lifted os started H enc)
end Go.Proofs.Ytedbonnejgpjeaa
