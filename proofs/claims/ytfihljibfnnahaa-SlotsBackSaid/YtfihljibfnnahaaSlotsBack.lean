/- The statement SlotsBack: what was committed last is loaded, also behind a crash. It holds for every input, without a condition. -/
import Derived.Test.YtfihljibfnnahaaZback

namespace Go.Proofs.Ytfihljibfnnahaa
set_option maxRecDepth 100000
open Go.ChangeShapes Go.WideShapes Go.ChangeAt Go.RowKit

set_option maxRecDepth 100000 in
set_option maxHeartbeats 8000000 in
theorem back_main (a : Option Addr) (n cap : Nat) (a2 : Option Addr) (n2 cap2 : Nat) (w : World) (h12 : n ≤ 12) (hat : EllAt w a n) (hbt : BlAt w a2 n2) :
    Calls Try.prog 8 #[.slice a n cap, .slice a2 n2 cap2] w fun e w' => e = .returned (.bool true) ∧ Below w.heap.size w w' := by
  have HAT := Lib.hid hat
  have HBT := Lib.hid hbt
  have H12 := Lib.hid h12
  have d0 : decide ((12 : Int) < (n : Int)) = false := decide_eq_false (by omega)
  clear hat hbt h12
  go_enter Try.func8, Try.ntmps8
  go_wp2_with fail
  refine (lv_new (Below.refl w.heap.size w) 9 (by omega) (by omega)).mono ?_
  rintro e w1 ⟨b, rfl, H1⟩
  have CC := Lib.hid (lz_format H1 (by decide))
  rw [Sk.Good.start.1] at CC
  have HG0 := Lib.hid Sk.Good.start.2
  have HS0 : Hid ((⟨#[]⟩ : ByteArray) = strB []) := rfl
  generalize Sk.format (Ek.fresh 9) = d0' at CC HG0
  clear H1
  go_wp2_with fail
  refine CC.out.mono ?_
  clear CC
  rintro e w2 ⟨rfl, h2⟩
  have H2 : Hid (Lv w w2 b d0' w2.heap.size) := h2
  clear h2
  go_wp2_with fail
  go_loopw [7, 8, 9] (fun s7 s8 s9 wr => ∃ (k g : Nat) (d : Ek.Dk) (last : List Nat) (LS : ByteArray) (M : Nat), s7 = .string LS ∧ s8 = .int .i64 (g : Int) ∧ s9 = .int .i64 (k : Int) ∧ k ≤ n ∧ g ≤ k ∧ Hid (LS = strB last) ∧ Hid (Sk.Good d last g (2 + 7 * k)) ∧ Hid (Lv w wr b d M)) (fun _ _ s9 _ => n - (intOf s9).toNat)
  case atStart => exact ⟨0, 0, d0', [], ⟨#[]⟩, _, by first | rfl | go_num, by go_num, by go_num, Nat.zero_le _, Nat.le_refl _, HS0, HG0, H2⟩
  case round =>
    obtain ⟨k, g, d, last, LS, M, rfl, rfl, rfl, hk, hgk, KS, KG, KL⟩ := hrel
    by_cases hlt : k < n
    · have j0 : decide ((k : Int) < (n : Int)) = true := decide_eq_true (by omega)
      have j1 : (0 : Int) ≤ (k : Int) := by omega
      have j2 : (k : Int) < (n : Int) := by omega
      have h12 := H12.out
      have j3 : (k : Int) < 12 := by omega
      have j4 : (g : Int) < 12 := by omega
      have j5 : (0 : Int) ≤ (g : Int) := by omega
      obtain ⟨bA, oA, ai, li, ci, bs, rfl, hc, had, hA⟩ := HAT.out k hlt
      have HA := Lib.hid hA
      have q0 := (HA.out wr KL.out.below).1
      have HU : Hid (d.used ≤ 100) := by have := KG.out.2.2.2; show _ ≤ _; omega
      have HB : Hid (k < n2 → ∃ bB oB t, a2 = some ⟨bB, oB, none⟩ ∧ ∀ w', Below w.heap.size w w' → w'.cell? ⟨bB, oB + k, none⟩ = some (.bool t)) := HBT.out k
      clear hA HAT HBT
      by_cases hl : li ≤ 2048
      · have l0 : decide ((2048 : Int) < (li : Int)) = false := decide_eq_false (by omega)
        have hsl := (HA.out wr KL.out.below).2 (by omega)
        have hlen : bs.length = li := by
          obtain ⟨a', len', cap', e, q1, _⟩ := hsl
          injection e with e1 e2 e3; omega
        obtain ⟨p1, p2⟩ := KG.out.put KL.out.ok bs hsl.facts8 (by omega) (by omega)
        have CC := Lib.hid (lz_commit KL.out ai li ci bs hsl hc (fun h0 gg off spot e => ⟨Or.inl (had (by omega) h0 gg off spot e), Nat.lt_of_lt_of_le (had (by omega) h0 gg off spot e) KL.out.below.size⟩) (by rw [KG.out.2.1]; unfold Sk.share; have := HU.out; omega))
        rw [p1] at CC
        have HG := Lib.hid (p2.up (v := 2 + 7 * (k + 1)) (by omega))
        obtain ⟨LT, hLT⟩ : ∃ S, S = strB bs := ⟨_, rfl⟩
        have HLT := Lib.hid hLT
        generalize Sk.commit d bs = d1 at CC HG
        clear hLT p1 p2 hsl had hc KG HU KS
        go_wp2_with fail
        refine CC.out.mono ?_
        clear CC
        rintro e w3 ⟨rfl, h3⟩
        have H3 : Hid (Lv w w3 b d1 w3.heap.size) := h3
        clear h3 KL q0
        have q3 := (HA.out w3 H3.out.below).1
        have hcv := string_of w3 ai li ci bs LT ((HA.out w3 H3.out.below).2 (by omega)) HLT.out
        by_cases hcr : k < n2
        · have c0 : decide ((k : Int) < (n2 : Int)) = true := decide_eq_true (by omega)
          have c1 : (k : Int) < (n2 : Int) := by omega
          obtain ⟨bB, oB, t, rfl, hB⟩ := HB.out hcr
          have q4 := hB w3 H3.out.below
          clear HB HA hB
          cases t with
          | true =>
            go_wp2_with fail
            have CK := Lib.hid (lv_crash H3.out (.slice none 0 0) [] (ks_nil w3))
            refine CK.out.mono ?_
            clear CK
            rintro e w4 ⟨rfl, h4⟩
            have H4 : Hid (Lv w w4 b (Ek.crash d1 (Ek.nth [])) w4.heap.size) := h4
            have HGx := Lib.hid (HG.out.crash (Ek.nth []))
            generalize Ek.crash d1 (Ek.nth []) = d4 at H4 HGx
            clear h4 H3 HG q3 q4
            have CL := Lib.hid (lz_load H4.out)
            have HT := Lib.hid HGx.out.told
            go_wp2_with fail
            refine CL.out.mono ?_
            clear CL
            rintro e w5 ⟨hb5, a5, c5, rfl, hs5, _⟩
            rw [HT.out.2.1] at hs5 ⊢
            rw [HT.out.1, HT.out.2.2.1]
            have H5 := Lib.hid (H4.out.top.later hb5)
            have CO := Lib.hid (lz_loose0 H5.out HGx.out.1.1)
            generalize hLN : (bs).length = LN at hs5 ⊢
            have hc5 := string_of w5 a5 LN c5 bs LT hs5 HLT.out
            clear hb5 hs5 hLN H4 HT
            go_wp2_with fail
            refine CO.out.mono ?_
            clear CO
            rintro e w6 ⟨rfl, rfl⟩
            go_wp2_with fail
            go_round
            case rel => exact ⟨k + 1, g + 1, d4, bs, LT, _, by first | rfl | go_num, by go_num, by go_num, by omega, by omega, HLT, HGx, H5⟩
            case measure => simp [intOf]; omega
          | false =>
            have HGx := HG
            have CL := Lib.hid (lz_load H3.out)
            have HT := Lib.hid HGx.out.told
            go_wp2_with fail
            refine CL.out.mono ?_
            clear CL
            rintro e w5 ⟨hb5, a5, c5, rfl, hs5, _⟩
            rw [HT.out.2.1] at hs5 ⊢
            rw [HT.out.1, HT.out.2.2.1]
            have H5 := Lib.hid (H3.out.top.later hb5)
            have CO := Lib.hid (lz_loose0 H5.out HGx.out.1.1)
            generalize hLN : (bs).length = LN at hs5 ⊢
            have hc5 := string_of w5 a5 LN c5 bs LT hs5 HLT.out
            clear hb5 hs5 hLN H3 HT
            go_wp2_with fail
            refine CO.out.mono ?_
            clear CO
            rintro e w6 ⟨rfl, rfl⟩
            go_wp2_with fail
            go_round
            case rel => exact ⟨k + 1, g + 1, d1, bs, LT, _, by first | rfl | go_num, by go_num, by go_num, by omega, by omega, HLT, HGx, H5⟩
            case measure => simp [intOf]; omega
        · have c0 : decide ((k : Int) < (n2 : Int)) = false := decide_eq_false (by omega)
          clear HB HA
          have HGx := HG
          have CL := Lib.hid (lz_load H3.out)
          have HT := Lib.hid HGx.out.told
          go_wp2_with fail
          refine CL.out.mono ?_
          clear CL
          rintro e w5 ⟨hb5, a5, c5, rfl, hs5, _⟩
          rw [HT.out.2.1] at hs5 ⊢
          rw [HT.out.1, HT.out.2.2.1]
          have H5 := Lib.hid (H3.out.top.later hb5)
          have CO := Lib.hid (lz_loose0 H5.out HGx.out.1.1)
          generalize hLN : (bs).length = LN at hs5 ⊢
          have hc5 := string_of w5 a5 LN c5 bs LT hs5 HLT.out
          clear hb5 hs5 hLN H3 HT
          go_wp2_with fail
          refine CO.out.mono ?_
          clear CO
          rintro e w6 ⟨rfl, rfl⟩
          go_wp2_with fail
          go_round
          case rel => exact ⟨k + 1, g + 1, d1, bs, LT, _, by first | rfl | go_num, by go_num, by go_num, by omega, by omega, HLT, HGx, H5⟩
          case measure => simp [intOf]; omega
      · have l0 : decide ((2048 : Int) < (li : Int)) = true := decide_eq_true (by omega)
        have CC := Lib.hid (lz_long KL.out KG.out (by omega) ai li ci (by omega))
        have HG := Lib.hid (KG.out.up (v := 2 + 7 * (k + 1)) (by omega))
        clear had hc KG HU
        go_wp2_with fail
        refine CC.out.mono ?_
        clear CC
        rintro e w3 ⟨rfl, h3⟩
        have H3 : Hid (Lv w w3 b d w3.heap.size) := h3
        clear h3 KL q0
        have q3 := (HA.out w3 H3.out.below).1
        by_cases hcr : k < n2
        · have c0 : decide ((k : Int) < (n2 : Int)) = true := decide_eq_true (by omega)
          have c1 : (k : Int) < (n2 : Int) := by omega
          obtain ⟨bB, oB, t, rfl, hB⟩ := HB.out hcr
          have q4 := hB w3 H3.out.below
          clear HB HA hB
          cases t with
          | true =>
            go_wp2_with fail
            have CK := Lib.hid (lv_crash H3.out (.slice none 0 0) [] (ks_nil w3))
            refine CK.out.mono ?_
            clear CK
            rintro e w4 ⟨rfl, h4⟩
            have H4 : Hid (Lv w w4 b (Ek.crash d (Ek.nth [])) w4.heap.size) := h4
            have HGx := Lib.hid (HG.out.crash (Ek.nth []))
            generalize Ek.crash d (Ek.nth []) = d4 at H4 HGx
            clear h4 H3 HG q3 q4
            have CL := Lib.hid (lz_load H4.out)
            have HT := Lib.hid HGx.out.told
            go_wp2_with fail
            refine CL.out.mono ?_
            clear CL
            rintro e w5 ⟨hb5, a5, c5, rfl, hs5, _⟩
            rw [HT.out.2.1] at hs5 ⊢
            rw [HT.out.1, HT.out.2.2.1]
            have H5 := Lib.hid (H4.out.top.later hb5)
            have CO := Lib.hid (lz_loose0 H5.out HGx.out.1.1)
            generalize hLN : (last).length = LN at hs5 ⊢
            have hc5 := string_of w5 a5 LN c5 last LS hs5 KS.out
            clear hb5 hs5 hLN H4 HT
            go_wp2_with fail
            refine CO.out.mono ?_
            clear CO
            rintro e w6 ⟨rfl, rfl⟩
            go_wp2_with fail
            go_round
            case rel => exact ⟨k + 1, g, d4, last, LS, _, by first | rfl | go_num, by go_num, by go_num, by omega, by omega, KS, HGx, H5⟩
            case measure => simp [intOf]; omega
          | false =>
            have HGx := HG
            have CL := Lib.hid (lz_load H3.out)
            have HT := Lib.hid HGx.out.told
            go_wp2_with fail
            refine CL.out.mono ?_
            clear CL
            rintro e w5 ⟨hb5, a5, c5, rfl, hs5, _⟩
            rw [HT.out.2.1] at hs5 ⊢
            rw [HT.out.1, HT.out.2.2.1]
            have H5 := Lib.hid (H3.out.top.later hb5)
            have CO := Lib.hid (lz_loose0 H5.out HGx.out.1.1)
            generalize hLN : (last).length = LN at hs5 ⊢
            have hc5 := string_of w5 a5 LN c5 last LS hs5 KS.out
            clear hb5 hs5 hLN H3 HT
            go_wp2_with fail
            refine CO.out.mono ?_
            clear CO
            rintro e w6 ⟨rfl, rfl⟩
            go_wp2_with fail
            go_round
            case rel => exact ⟨k + 1, g, d, last, LS, _, by first | rfl | go_num, by go_num, by go_num, by omega, by omega, KS, HGx, H5⟩
            case measure => simp [intOf]; omega
        · have c0 : decide ((k : Int) < (n2 : Int)) = false := decide_eq_false (by omega)
          clear HB HA
          have HGx := HG
          have CL := Lib.hid (lz_load H3.out)
          have HT := Lib.hid HGx.out.told
          go_wp2_with fail
          refine CL.out.mono ?_
          clear CL
          rintro e w5 ⟨hb5, a5, c5, rfl, hs5, _⟩
          rw [HT.out.2.1] at hs5 ⊢
          rw [HT.out.1, HT.out.2.2.1]
          have H5 := Lib.hid (H3.out.top.later hb5)
          have CO := Lib.hid (lz_loose0 H5.out HGx.out.1.1)
          generalize hLN : (last).length = LN at hs5 ⊢
          have hc5 := string_of w5 a5 LN c5 last LS hs5 KS.out
          clear hb5 hs5 hLN H3 HT
          go_wp2_with fail
          refine CO.out.mono ?_
          clear CO
          rintro e w6 ⟨rfl, rfl⟩
          go_wp2_with fail
          go_round
          case rel => exact ⟨k + 1, g, d, last, LS, _, by first | rfl | go_num, by go_num, by go_num, by omega, by omega, KS, HGx, H5⟩
          case measure => simp [intOf]; omega
    · have j0 : decide ((k : Int) < (n : Int)) = false := decide_eq_false (by omega)
      have HBx := Lib.hid KL.out.below
      clear KG KL KS HAT HBT
      go_wp2_with fail
      refine (zlives_is wr).mono ?_
      rintro e w5 ⟨rfl, hb5⟩
      have HB5 := Lib.hid (HBx.out.trans (hb5.mono HBx.out.size))
      clear hb5
      go_wp2_with fail
      go_ret
      exact ⟨rfl, HB5.out⟩

set_option maxRecDepth 100000 in
set_option maxHeartbeats 2000000 in
theorem slotsBack_walk (v0 v1 : Value) (w : World) (h0 : Ells w v0) (h1 : Bls w v1) :
    Calls Try.prog 8 #[v0, v1] w fun e w' => e = .returned (.bool true) ∧ Below w.heap.size w w' := by
  obtain ⟨a, n, cap, rfl, hn9, hat⟩ := h0
  obtain ⟨a2, n2, cap2, rfl, hm9, hbt⟩ := h1
  by_cases h12 : n ≤ 12
  · exact back_main a n cap a2 n2 cap2 w h12 (ell_at hat) (bl_at hbt)
  · have d0 : decide ((12 : Int) < (n : Int)) = true := decide_eq_true (by omega)
    clear h12 hat hbt hn9 hm9
    go_enter Try.func8, Try.ntmps8
    go_wp2_with fail
    refine (lv_new (Below.refl w.heap.size w) 9 (by omega) (by omega)).mono ?_
    rintro e w1 ⟨b, rfl, H1⟩
    have CC := Lib.hid (lz_format H1 (by decide))
    rw [Sk.Good.start.1] at CC
    clear H1
    go_wp2_with fail
    refine CC.out.mono ?_
    clear CC
    rintro e w2 ⟨rfl, h2⟩
    have HB2 : Hid (Below w.heap.size w w2) := h2.below
    clear h2
    go_wp2_with fail
    refine (zlives_is w2).mono ?_
    rintro e w5 ⟨rfl, hb5⟩
    have HB5 := Lib.hid (HB2.out.trans (hb5.mono HB2.out.size))
    clear hb5
    go_wp2_with fail
    go_ret
    exact ⟨rfl, HB5.out⟩
set_option maxRecDepth 100000 in
theorem slotsBack_lifted (os : Os) (started : os.Started) (H : Type) (enc : TypeId × Value → H) :
    ReturnsInHanded {} Try.checked os 8 .any (Rows.slotsBackSpec.pre6 enc Try.prog Try.f8 Rows.slotsBackRow.domain false) (Rows.slotsBackSpec.post enc Try.prog Try.f8 false true false false) := by
  refine returnsInHanded_of_change_sized (C := Try.checked) Try.own started (by kernel_rfl) Try.func8
    (ChangeSpec.witness6 (enc := enc) (C := Try.checked) false ⟨#[], #[.slice none 0 0, .slice none 0 0], []⟩ 8 (by kernel_rfl) (by kernel_rfl) (by kernel_rfl) (by kernel_rfl)) ?_
  intro W base args ds gs before hval0 hW _ hsz0 _
  have hval : ∀ (j : Nat) t v, Try.f8.params[j]? = some t → args[j]? = some v → Value.okWide Try.prog W .any base t v := hval0
  have hsz : (DataW.weightsEach Try.prog (Try.f8.params.toList ++ Rows.slotsBackSpec.plain.varTypes Try.prog) (ds ++ gs)).all (· ≤ reachBytes) = true := hsz0
  have hW' := hW
  obtain ⟨p, q, hA0, hV, rfl, hfz, hnd⟩ := hW
  have hA : DataW.TrodAll enc Try.prog W 0 (fun _ => true) true Try.f8.params.toList args.toList ds p := hA0
  rw [Try.params8] at hA hval hsz
  obtain ⟨v0, vs0, d0, ds0, p0, q0, hargs, rfl, rfl, h0, r0⟩ := trodAll_cons hA
  obtain ⟨v1, vs1, d1, ds1, p1, q1, rfl, rfl, rfl, h1, r1⟩ := trodAll_cons r0
  obtain ⟨rfl, rfl, rfl⟩ := trodAll_nil r1
  obtain rfl : args = #[v0, v1] := by cases args; simp_all
  obtain ⟨rfl, rfl⟩ := trodVars_none hV
  have k0 := h0
  have lt0 : ∀ x ∈ p0, x.block < W.heap.size := by obtain ⟨m, hm⟩ := k0; exact DataW.trod_lt m _ _ _ hm
  have el0 := ells_open (hval 0 74 v0 rfl rfl) h0
  have k1 := h1
  have lt1 : ∀ x ∈ p1, x.block < W.heap.size := by obtain ⟨m, hm⟩ := k1; exact DataW.trod_lt m _ _ _ hm
  have el1 := bls_open (hval 1 75 v1 rfl rfl) h1
  clear hA0 hval0 hsz0
  refine (slotsBack_walk v0 v1 W el0 el1).mono fun e W' ⟨he, bel⟩ => ?_
  subst he
  exact ⟨_, rfl, _, _, _, [], _, [], hW', trodAll_mk1 (shut_bool Try.underlying4 _), (trodAll_cons_mk (Below.trod Try.laidOut (by kernel_rfl) (of_decide_eq_true (by kernel_rfl)) k0 bel lt0) (trodAll_cons_mk (Below.trod Try.laidOut (by kernel_rfl) (of_decide_eq_true (by kernel_rfl)) k1 bel lt1) trodAll_mk0)), rfl, bel.frame _, fun h => by cases h⟩

theorem slotsBack_proved : Rows.SlotsBackSaid :=
  OpenClaim.holds_of_wide 8 Try.f8 rfl rfl rfl rfl rfl rfl rfl ⟨rfl, rfl, rfl, rfl, rfl⟩ rfl rfl rfl rfl rfl (by kernel_rfl) Try.func8 (by kernel_rfl)
    (of_decide_eq_true (by kernel_rfl)) (by unfold Func.isWrapper; rw [if_neg (of_decide_eq_false (by kernel_rfl))]; exact ⟨rfl, rfl⟩)
    (fun os started H enc _ => slotsBack_lifted os started H enc)
end Go.Proofs.Ytfihljibfnnahaa
