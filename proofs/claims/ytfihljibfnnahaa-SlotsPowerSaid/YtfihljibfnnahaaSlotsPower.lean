/- The statement SlotsPower: wherever the power goes within a Commit, behind the crash there is what was committed ahead, or what was given, whole. It holds for every input, without a condition. -/
import Derived.Test.YtfihljibfnnahaaZcut
import Derived.BigQuiet

namespace Go.Proofs.Ytfihljibfnnahaa
set_option maxRecDepth 100000
open Go.ChangeShapes Go.WideShapes Go.ChangeAt Go.RowKit Go.BigFrame

set_option maxRecDepth 100000 in
set_option maxHeartbeats 16000000 in
theorem power_main (a : Option Addr) (n cap : Nat) (af : Option Addr) (nf cf : Nat) (a2 : Option Addr) (n2 cap2 : Nat) (w : World) (h12 : n ≤ 12) (hat : EllAt w a n) (hft : ByAt w af nf) (hbt : KsAt w a2 n2) :
    Calls Try.prog 9 #[.slice a n cap, .slice af nf cf, .slice a2 n2 cap2] w fun e w' => e = .returned (.bool true) ∧ Below w.heap.size w w' := by
  have HAT := Lib.hid hat
  have HFT := Lib.hid hft
  have HBT := Lib.hid hbt
  have H12 := Lib.hid h12
  have d0 : decide ((12 : Int) < (n : Int)) = false := decide_eq_false (by omega)
  clear hat hbt hft h12
  go_enter Try.func9, Try.ntmps9
  go_wp2_with fail
  refine (lv_new (Below.refl w.heap.size w) 9 (by omega) (by omega)).mono ?_
  rintro e w1 ⟨b, rfl, H1⟩
  have CC := Lib.hid (lz_format H1 (by decide))
  rw [Sk.Good.start.1] at CC
  have HG0 := Lib.hid Sk.Good.start.2
  have HS0 : Hid ((⟨#[]⟩ : ByteArray) = strB []) := rfl
  generalize Sk.format (Ek.fresh 9) = d0' at CC HG0
  clear H1
  go_wp2_with fail
  refine CC.out.mono ?_
  clear CC
  rintro e w2 ⟨rfl, h2⟩
  have H2 : Hid (Lv w w2 b d0' w2.heap.size) := h2
  clear h2
  go_wp2_with fail
  go_loopw [9, 10, 11] (fun s7 s8 s9 wr => ∃ (k g : Nat) (d : Ek.Dk) (last : List Nat) (LS : ByteArray) (M : Nat), s7 = .string LS ∧ s8 = .int .i64 (g : Int) ∧ s9 = .int .i64 (k : Int) ∧ k ≤ n ∧ g ≤ k ∧ Hid (LS = strB last) ∧ Hid (Sk.Good d last g (2 + 7 * k)) ∧ Hid (Lv w wr b d M)) (fun _ _ s9 _ => n - (intOf s9).toNat)
  case atStart => exact ⟨0, 0, d0', [], ⟨#[]⟩, _, by first | rfl | go_num, by go_num, by go_num, Nat.zero_le _, Nat.le_refl _, HS0, HG0, H2⟩
  case round =>
    obtain ⟨k, g, d, last, LS, M, rfl, rfl, rfl, hk, hgk, KS, KG, KL⟩ := hrel
    by_cases hlt : k < n
    · have j0 : decide ((k : Int) < (n : Int)) = true := decide_eq_true (by omega)
      have j1 : (0 : Int) ≤ (k : Int) := by omega
      have j2 : (k : Int) < (n : Int) := by omega
      have h12 := H12.out
      have j3 : (k : Int) < 12 := by omega
      have j4 : (g : Int) < 12 := by omega
      have j5 : (0 : Int) ≤ (g : Int) := by omega
      obtain ⟨bA, oA, ai, li, ci, bs, rfl, hc, had, hA⟩ := HAT.out k hlt
      have HA := Lib.hid hA
      have q0 := (HA.out wr KL.out.below).1
      have HU : Hid (d.used ≤ 100) := by have := KG.out.2.2.2; show _ ≤ _; omega
      have HB : Hid (k < n2 → ∃ b off ka kn kc ks, a2 = some ⟨b, off, none⟩ ∧ ∀ w', Below w.heap.size w w' → w'.cell? ⟨b, off + k, none⟩ = some (.slice ka kn kc) ∧ Ks w' (.slice ka kn kc) ks) := HBT.out k
      have HF : Hid (k < nf → ∃ b off x, af = some ⟨b, off, none⟩ ∧ x < 256 ∧ ∀ w', Below w.heap.size w w' → w'.cell? ⟨b, off + k, none⟩ = some (.int .u8 ((x : Nat) : Int))) := HFT.out k
      clear hA HAT HBT HFT
      by_cases hl : li ≤ 2048
      · have l0 : decide ((2048 : Int) < (li : Int)) = false := decide_eq_false (by omega)
        have HAD : Hid (0 < li → ∀ g off spot, ai = some ⟨g, off, spot⟩ → g < w.heap.size) := had (by omega)
        have HC1 := Lib.hid hc
        obtain ⟨LT, hLT⟩ : ∃ S, S = strB bs := ⟨_, rfl⟩
        have HLT := Lib.hid hLT
        obtain ⟨g', hg'⟩ : ∃ g', g' = g + 1 := ⟨_, rfl⟩
        have e1 : ((g' : Int) == (g : Int)) = false := by simp; omega
        have e3 : ((g : Int) == (g' : Int)) = false := by simp; omega
        have HG' := Lib.hid hg'
        clear hLT hg' had hc
        by_cases hf : k < nf
        · have f0 : decide ((k : Int) < (nf : Int)) = true := decide_eq_true (by omega)
          have f1 : (k : Int) < (nf : Int) := by omega
          obtain ⟨bF, oF, x, rfl, hx, hF⟩ := HF.out hf
          have q1 := hF wr KL.out.below
          obtain ⟨y, hy⟩ : ∃ y, y = x % 12 := ⟨_, rfl⟩
          have m0 : ((x : Nat) : Int).tmod 12 = ((y : Nat) : Int) := by rw [Int.tmod_eq_emod_of_nonneg (by omega)]; omega
          have m1 : IntKind.u8.wrap ((y : Nat) : Int) = ((y : Nat) : Int) := by rw [IntKind.wrap_u8]; omega
          have m2 : IntKind.i64.wrap ((y : Nat) : Int) = ((y : Nat) : Int) := IntWalk.i64_in _ (by omega)
          have m3 : ((y : Nat) : Int) ≤ 9223372036854775807 := by omega
          clear hF HF hy hx
          go_wp2_with fail
          refine (lv_fuse KL.out ((y : Nat) : Int) m3).mono ?_
          rintro e w1 ⟨rfl, h1⟩
          have H1 : Hid (Lv w w1 b (Ek.fuse d (y : Int)) w1.heap.size) := h1
          have HH := Lib.hid (KG.out.fused (y : Int))
          have HU1 : Hid ((Ek.fuse d (y : Int)).used ≤ 100) := HU.out
          generalize Ek.fuse d (y : Int) = d1 at H1 HH HU1
          clear h1 q0 q1 m0 m1 m2 m3 KG KL HU
          have q2 := (HA.out w1 H1.out.below).1
          have hsl := (HA.out w1 H1.out.below).2 (by omega)
          have hlen : bs.length = li := by
            obtain ⟨a', len', cap', e, q1, _⟩ := hsl
            injection e with e1 e2 e3; omega
          have CC := Lib.hid (lz_commit H1.out ai li ci bs hsl HC1.out (fun h0 gg off spot e => ⟨Or.inl (HAD.out h0 gg off spot e), Nat.lt_of_lt_of_le (HAD.out h0 gg off spot e) H1.out.below.size⟩) (by rw [HH.out.2.2.1]; unfold Sk.share; have := HU1.out; omega))
          rcases HH.out.cut H1.out.ok bs hsl.facts8 (by omega) (by omega) with ⟨p1, p2⟩ | ⟨p1, p3, p2⟩
          · rw [p1] at CC
            have HC := Lib.hid p2
            generalize Sk.commit d1 bs = d2 at CC HC
            clear p1 p2 hsl hlen HH HU1 H1
            go_wp2_with fail
            refine CC.out.mono ?_
            clear CC
            rintro e w3 ⟨rfl, h3⟩
            have H3 : Hid (Lv w w3 b d2 w3.heap.size) := h3
            clear h3 q2
            by_cases hcr : k < n2
            · have c0 : decide ((k : Int) < (n2 : Int)) = true := decide_eq_true (by omega)
              have c1 : (k : Int) < (n2 : Int) := by omega
              obtain ⟨bB, oB, ka, kn, kc, ks, rfl, hB⟩ := HB.out hcr
              have q4 := (hB w3 H3.out.below).1
              have HKS := Lib.hid (hB w3 H3.out.below).2
              clear HB hB
              have CK := Lib.hid (lv_crash H3.out (.slice ka kn kc) ks HKS.out)
              go_wp2_with fail
              have HG4 := Lib.hid ((HC.out (Ek.nth ks)).up (v := 2 + 7 * (k + 1)) (by omega))
              rw [← HG'.out] at HG4
              generalize Ek.crash d2 (Ek.nth ks) = d4 at CK HG4
              refine CK.out.mono ?_
              clear CK
              rintro e w4 ⟨rfl, h4⟩
              have H4 : Hid (Lv w w4 b d4 w4.heap.size) := h4
              clear h4 H3 HC
              have CL := Lib.hid (lz_load H4.out)
              have HT := Lib.hid HG4.out.told
              go_wp2_with fail
              refine CL.out.mono ?_
              clear CL
              rintro e w5 ⟨hb5, a5, c5, rfl, hs5, _⟩
              rw [HT.out.2.1] at hs5 ⊢
              rw [HT.out.1, HT.out.2.2.1]
              have H5 := Lib.hid (H4.out.top.later hb5)
              generalize hLN : (bs).length = LN at hs5 ⊢
              have hc5 := string_of w5 a5 LN c5 bs LT hs5 HLT.out
              have HX5 : Hid (∀ W : World, (∃ n, W = w5.drewN n) → (convert 43 9 (.slice a5 LN c5)).run Try.prog W = .ok (.string LT) W) := fun W hW => by
                obtain ⟨m, rfl⟩ := hW
                exact string_of _ a5 LN c5 bs LT (sl_drewN hs5 m) HLT.out
              have hsx := (HA.out w5 H5.out.below).2 (by omega)
              have HZ5 : Hid (∀ nq, Lv w (w5.drewN nq) b d4 _) := fun nq => H5.out.later (below_drewN (Below.refl _ _) nq)
              have hc6 := string_of w5 ai li ci bs LT hsx HLT.out
              have HX6 : Hid (∀ W : World, (∃ n, W = w5.drewN n) → (convert 43 9 (.slice ai li ci)).run Try.prog W = .ok (.string LT) W) := fun W hW => by
                obtain ⟨m, rfl⟩ := hW
                exact string_of _ ai li ci bs LT (sl_drewN hsx m) HLT.out
              have q5 := (HA.out w5 H5.out.below).1
              have e2 : IntKind.i64.wrap ((g : Int) + 1) = (g' : Int) := by rw [IntWalk.i64_in _ (by omega)]; have := HG'.out; omega
              clear hb5 hs5 hLN H4 HT hsx
              cases hqb : (LT.toList == LS.toList) with
              | true =>
                go_wp2_with fail
                refine wp_region_quiet_lit (by kernel_rfl) (by kernel_rfl) ?_
                repeat (go_big_quiet_step (fail))
                go_big_quiet_want
                refine quiet_conv _ _ _ _ _ rfl rfl HX5.out ?_
                go_big_quiet_on
                simp only [Act.put, List.setIfInBounds_toArray, List.set_cons_zero, List.set_cons_succ]
                repeat (go_big_quiet_step (fail))
                go_big_quiet_want
                refine quiet_conv _ _ _ _ _ rfl rfl HX5.out ?_
                go_big_quiet_on
                simp only [Act.put, List.setIfInBounds_toArray, List.set_cons_zero, List.set_cons_succ]
                repeat (go_big_quiet_step (fail))
                go_big_quiet_want
                refine quiet_conv _ _ _ _ _ rfl rfl HX6.out ?_
                go_big_quiet_on
                simp only [Act.put, List.setIfInBounds_toArray, List.set_cons_zero, List.set_cons_succ]
                repeat (go_big_quiet_step (fail))
                refine wpQuiet_nil ?_
                intro _ hw'
                obtain ⟨nq, hw''⟩ := hw'
                subst hw''
                have hy5 := HX5.out _ ⟨nq, rfl⟩
                clear hc5 hc6 HX5 HX6
                all_goals go_wp2_with fail
                all_goals go_round
                case rel => exact ⟨k + 1, g', d4, bs, LT, _, by first | rfl | go_num, by first | rfl | go_num, by go_num, by omega, by have := HG'.out; omega, HLT, HG4, HZ5.out nq⟩
                case measure => simp [intOf]; omega
              | false =>
                go_wp2_with fail
                refine wp_region_quiet_lit (by kernel_rfl) (by kernel_rfl) ?_
                repeat (go_big_quiet_step (fail))
                go_big_quiet_want
                refine quiet_conv _ _ _ _ _ rfl rfl HX5.out ?_
                go_big_quiet_on
                simp only [Act.put, List.setIfInBounds_toArray, List.set_cons_zero, List.set_cons_succ]
                repeat (go_big_quiet_step (fail))
                go_big_quiet_want
                refine quiet_conv _ _ _ _ _ rfl rfl HX5.out ?_
                go_big_quiet_on
                simp only [Act.put, List.setIfInBounds_toArray, List.set_cons_zero, List.set_cons_succ]
                repeat (go_big_quiet_step (fail))
                go_big_quiet_want
                refine quiet_conv _ _ _ _ _ rfl rfl HX6.out ?_
                go_big_quiet_on
                simp only [Act.put, List.setIfInBounds_toArray, List.set_cons_zero, List.set_cons_succ]
                repeat (go_big_quiet_step (fail))
                refine wpQuiet_nil ?_
                intro _ hw'
                obtain ⟨nq, hw''⟩ := hw'
                subst hw''
                have hy5 := HX5.out _ ⟨nq, rfl⟩
                clear hc5 hc6 HX5 HX6
                all_goals go_wp2_with fail
                all_goals go_round
                case rel => exact ⟨k + 1, g', d4, bs, LT, _, by first | rfl | go_num, by first | rfl | go_num, by go_num, by omega, by have := HG'.out; omega, HLT, HG4, HZ5.out nq⟩
                case measure => simp [intOf]; omega
            · have c0 : decide ((k : Int) < (n2 : Int)) = false := decide_eq_false (by omega)
              clear HB
              have CK := Lib.hid (lv_crash H3.out (.slice none 0 0) [] (ks_nil w3))
              go_wp2_with fail
              have HG4 := Lib.hid ((HC.out (Ek.nth [])).up (v := 2 + 7 * (k + 1)) (by omega))
              rw [← HG'.out] at HG4
              generalize Ek.crash d2 (Ek.nth []) = d4 at CK HG4
              refine CK.out.mono ?_
              clear CK
              rintro e w4 ⟨rfl, h4⟩
              have H4 : Hid (Lv w w4 b d4 w4.heap.size) := h4
              clear h4 H3 HC
              have CL := Lib.hid (lz_load H4.out)
              have HT := Lib.hid HG4.out.told
              go_wp2_with fail
              refine CL.out.mono ?_
              clear CL
              rintro e w5 ⟨hb5, a5, c5, rfl, hs5, _⟩
              rw [HT.out.2.1] at hs5 ⊢
              rw [HT.out.1, HT.out.2.2.1]
              have H5 := Lib.hid (H4.out.top.later hb5)
              generalize hLN : (bs).length = LN at hs5 ⊢
              have hc5 := string_of w5 a5 LN c5 bs LT hs5 HLT.out
              have HX5 : Hid (∀ W : World, (∃ n, W = w5.drewN n) → (convert 43 9 (.slice a5 LN c5)).run Try.prog W = .ok (.string LT) W) := fun W hW => by
                obtain ⟨m, rfl⟩ := hW
                exact string_of _ a5 LN c5 bs LT (sl_drewN hs5 m) HLT.out
              have hsx := (HA.out w5 H5.out.below).2 (by omega)
              have HZ5 : Hid (∀ nq, Lv w (w5.drewN nq) b d4 _) := fun nq => H5.out.later (below_drewN (Below.refl _ _) nq)
              have hc6 := string_of w5 ai li ci bs LT hsx HLT.out
              have HX6 : Hid (∀ W : World, (∃ n, W = w5.drewN n) → (convert 43 9 (.slice ai li ci)).run Try.prog W = .ok (.string LT) W) := fun W hW => by
                obtain ⟨m, rfl⟩ := hW
                exact string_of _ ai li ci bs LT (sl_drewN hsx m) HLT.out
              have q5 := (HA.out w5 H5.out.below).1
              have e2 : IntKind.i64.wrap ((g : Int) + 1) = (g' : Int) := by rw [IntWalk.i64_in _ (by omega)]; have := HG'.out; omega
              clear hb5 hs5 hLN H4 HT hsx
              cases hqb : (LT.toList == LS.toList) with
              | true =>
                go_wp2_with fail
                refine wp_region_quiet_lit (by kernel_rfl) (by kernel_rfl) ?_
                repeat (go_big_quiet_step (fail))
                go_big_quiet_want
                refine quiet_conv _ _ _ _ _ rfl rfl HX5.out ?_
                go_big_quiet_on
                simp only [Act.put, List.setIfInBounds_toArray, List.set_cons_zero, List.set_cons_succ]
                repeat (go_big_quiet_step (fail))
                go_big_quiet_want
                refine quiet_conv _ _ _ _ _ rfl rfl HX5.out ?_
                go_big_quiet_on
                simp only [Act.put, List.setIfInBounds_toArray, List.set_cons_zero, List.set_cons_succ]
                repeat (go_big_quiet_step (fail))
                go_big_quiet_want
                refine quiet_conv _ _ _ _ _ rfl rfl HX6.out ?_
                go_big_quiet_on
                simp only [Act.put, List.setIfInBounds_toArray, List.set_cons_zero, List.set_cons_succ]
                repeat (go_big_quiet_step (fail))
                refine wpQuiet_nil ?_
                intro _ hw'
                obtain ⟨nq, hw''⟩ := hw'
                subst hw''
                have hy5 := HX5.out _ ⟨nq, rfl⟩
                clear hc5 hc6 HX5 HX6
                all_goals go_wp2_with fail
                all_goals go_round
                case rel => exact ⟨k + 1, g', d4, bs, LT, _, by first | rfl | go_num, by first | rfl | go_num, by go_num, by omega, by have := HG'.out; omega, HLT, HG4, HZ5.out nq⟩
                case measure => simp [intOf]; omega
              | false =>
                go_wp2_with fail
                refine wp_region_quiet_lit (by kernel_rfl) (by kernel_rfl) ?_
                repeat (go_big_quiet_step (fail))
                go_big_quiet_want
                refine quiet_conv _ _ _ _ _ rfl rfl HX5.out ?_
                go_big_quiet_on
                simp only [Act.put, List.setIfInBounds_toArray, List.set_cons_zero, List.set_cons_succ]
                repeat (go_big_quiet_step (fail))
                go_big_quiet_want
                refine quiet_conv _ _ _ _ _ rfl rfl HX5.out ?_
                go_big_quiet_on
                simp only [Act.put, List.setIfInBounds_toArray, List.set_cons_zero, List.set_cons_succ]
                repeat (go_big_quiet_step (fail))
                go_big_quiet_want
                refine quiet_conv _ _ _ _ _ rfl rfl HX6.out ?_
                go_big_quiet_on
                simp only [Act.put, List.setIfInBounds_toArray, List.set_cons_zero, List.set_cons_succ]
                repeat (go_big_quiet_step (fail))
                refine wpQuiet_nil ?_
                intro _ hw'
                obtain ⟨nq, hw''⟩ := hw'
                subst hw''
                have hy5 := HX5.out _ ⟨nq, rfl⟩
                clear hc5 hc6 HX5 HX6
                all_goals go_wp2_with fail
                all_goals go_round
                case rel => exact ⟨k + 1, g', d4, bs, LT, _, by first | rfl | go_num, by first | rfl | go_num, by go_num, by omega, by have := HG'.out; omega, HLT, HG4, HZ5.out nq⟩
                case measure => simp [intOf]; omega
          · rw [p1] at CC
            have HC := Lib.hid p2
            have HD := Lib.hid p3
            generalize Sk.commit d1 bs = d2 at CC HC HD
            clear p1 p2 p3 hsl hlen HH HU1 H1
            go_wp2_with fail
            refine CC.out.mono ?_
            clear CC
            rintro e w3 ⟨rfl, h3⟩
            have H3 : Hid (Lv w w3 b d2 w3.heap.size) := h3
            clear h3 q2
            by_cases hcr : k < n2
            · have c0 : decide ((k : Int) < (n2 : Int)) = true := decide_eq_true (by omega)
              have c1 : (k : Int) < (n2 : Int) := by omega
              obtain ⟨bB, oB, ka, kn, kc, ks, rfl, hB⟩ := HB.out hcr
              have q4 := (hB w3 H3.out.below).1
              have HKS := Lib.hid (hB w3 H3.out.below).2
              clear HB hB
              have CK := Lib.hid (lv_crash H3.out (.slice ka kn kc) ks HKS.out)
              go_wp2_with fail
              refine (lz_dark1 H3.out HD.out).mono ?_
              rintro e w' ⟨rfl, rfl⟩
              go_wp2_with fail
              rcases HC.out (Ek.nth ks) with hg4 | hg4
              · have HG4 := Lib.hid (hg4.up (v := 2 + 7 * (k + 1)) (by omega))
                clear hg4 HD
                generalize Ek.crash d2 (Ek.nth ks) = d4 at CK HG4
                refine CK.out.mono ?_
                clear CK
                rintro e w4 ⟨rfl, h4⟩
                have H4 : Hid (Lv w w4 b d4 w4.heap.size) := h4
                clear h4 H3 HC
                have CL := Lib.hid (lz_load H4.out)
                have HT := Lib.hid HG4.out.told
                go_wp2_with fail
                refine CL.out.mono ?_
                clear CL
                rintro e w5 ⟨hb5, a5, c5, rfl, hs5, _⟩
                rw [HT.out.2.1] at hs5 ⊢
                rw [HT.out.1, HT.out.2.2.1]
                have H5 := Lib.hid (H4.out.top.later hb5)
                generalize hLN : (last).length = LN at hs5 ⊢
                have hc5 := string_of w5 a5 LN c5 last LS hs5 KS.out
                have HX5 : Hid (∀ W : World, (∃ n, W = w5.drewN n) → (convert 43 9 (.slice a5 LN c5)).run Try.prog W = .ok (.string LS) W) := fun W hW => by
                  obtain ⟨m, rfl⟩ := hW
                  exact string_of _ a5 LN c5 last LS (sl_drewN hs5 m) KS.out
                have hsx := (HA.out w5 H5.out.below).2 (by omega)
                have HZ5 : Hid (∀ nq, Lv w (w5.drewN nq) b d4 _) := fun nq => H5.out.later (below_drewN (Below.refl _ _) nq)
                have hc6 := string_of w5 ai li ci bs LT hsx HLT.out
                have HX6 : Hid (∀ W : World, (∃ n, W = w5.drewN n) → (convert 43 9 (.slice ai li ci)).run Try.prog W = .ok (.string LT) W) := fun W hW => by
                  obtain ⟨m, rfl⟩ := hW
                  exact string_of _ ai li ci bs LT (sl_drewN hsx m) HLT.out
                have q5 := (HA.out w5 H5.out.below).1
                have e2 : IntKind.i64.wrap ((g : Int) + 1) = (g' : Int) := by rw [IntWalk.i64_in _ (by omega)]; have := HG'.out; omega
                clear hb5 hs5 hLN H4 HT hsx
                cases hqb : (LS.toList == LT.toList) with
                | true =>
                  go_wp2_with fail
                  refine wp_region_quiet_lit (by kernel_rfl) (by kernel_rfl) ?_
                  repeat (go_big_quiet_step (fail))
                  go_big_quiet_want
                  refine quiet_conv _ _ _ _ _ rfl rfl HX5.out ?_
                  go_big_quiet_on
                  simp only [Act.put, List.setIfInBounds_toArray, List.set_cons_zero, List.set_cons_succ]
                  repeat (go_big_quiet_step (fail))
                  go_big_quiet_want
                  refine quiet_conv _ _ _ _ _ rfl rfl HX5.out ?_
                  go_big_quiet_on
                  simp only [Act.put, List.setIfInBounds_toArray, List.set_cons_zero, List.set_cons_succ]
                  repeat (go_big_quiet_step (fail))
                  go_big_quiet_want
                  refine quiet_conv _ _ _ _ _ rfl rfl HX6.out ?_
                  go_big_quiet_on
                  simp only [Act.put, List.setIfInBounds_toArray, List.set_cons_zero, List.set_cons_succ]
                  repeat (go_big_quiet_step (fail))
                  refine wpQuiet_nil ?_
                  intro _ hw'
                  obtain ⟨nq, hw''⟩ := hw'
                  subst hw''
                  have hy5 := HX5.out _ ⟨nq, rfl⟩
                  clear hc5 hc6 HX5 HX6
                  all_goals go_wp2_with fail
                  all_goals go_round
                  case rel => exact ⟨k + 1, g, d4, last, LS, _, by first | rfl | go_num, by first | rfl | go_num, by go_num, by omega, by have := HG'.out; omega, KS, HG4, HZ5.out nq⟩
                  case measure => simp [intOf]; omega
                | false =>
                  go_wp2_with fail
                  refine wp_region_quiet_lit (by kernel_rfl) (by kernel_rfl) ?_
                  repeat (go_big_quiet_step (fail))
                  go_big_quiet_want
                  refine quiet_conv _ _ _ _ _ rfl rfl HX5.out ?_
                  go_big_quiet_on
                  simp only [Act.put, List.setIfInBounds_toArray, List.set_cons_zero, List.set_cons_succ]
                  repeat (go_big_quiet_step (fail))
                  go_big_quiet_want
                  refine quiet_conv _ _ _ _ _ rfl rfl HX5.out ?_
                  go_big_quiet_on
                  simp only [Act.put, List.setIfInBounds_toArray, List.set_cons_zero, List.set_cons_succ]
                  repeat (go_big_quiet_step (fail))
                  go_big_quiet_want
                  refine quiet_conv _ _ _ _ _ rfl rfl HX6.out ?_
                  go_big_quiet_on
                  simp only [Act.put, List.setIfInBounds_toArray, List.set_cons_zero, List.set_cons_succ]
                  repeat (go_big_quiet_step (fail))
                  refine wpQuiet_nil ?_
                  intro _ hw'
                  obtain ⟨nq, hw''⟩ := hw'
                  subst hw''
                  have hy5 := HX5.out _ ⟨nq, rfl⟩
                  clear hc5 hc6 HX5 HX6
                  all_goals go_wp2_with fail
                  all_goals go_round
                  case rel => exact ⟨k + 1, g, d4, last, LS, _, by first | rfl | go_num, by first | rfl | go_num, by go_num, by omega, by have := HG'.out; omega, KS, HG4, HZ5.out nq⟩
                  case measure => simp [intOf]; omega
              · have HG4 := Lib.hid (hg4.up (v := 2 + 7 * (k + 1)) (by omega))
                rw [← HG'.out] at HG4
                clear hg4 HD
                generalize Ek.crash d2 (Ek.nth ks) = d4 at CK HG4
                refine CK.out.mono ?_
                clear CK
                rintro e w4 ⟨rfl, h4⟩
                have H4 : Hid (Lv w w4 b d4 w4.heap.size) := h4
                clear h4 H3 HC
                have CL := Lib.hid (lz_load H4.out)
                have HT := Lib.hid HG4.out.told
                go_wp2_with fail
                refine CL.out.mono ?_
                clear CL
                rintro e w5 ⟨hb5, a5, c5, rfl, hs5, _⟩
                rw [HT.out.2.1] at hs5 ⊢
                rw [HT.out.1, HT.out.2.2.1]
                have H5 := Lib.hid (H4.out.top.later hb5)
                generalize hLN : (bs).length = LN at hs5 ⊢
                have hc5 := string_of w5 a5 LN c5 bs LT hs5 HLT.out
                have HX5 : Hid (∀ W : World, (∃ n, W = w5.drewN n) → (convert 43 9 (.slice a5 LN c5)).run Try.prog W = .ok (.string LT) W) := fun W hW => by
                  obtain ⟨m, rfl⟩ := hW
                  exact string_of _ a5 LN c5 bs LT (sl_drewN hs5 m) HLT.out
                have hsx := (HA.out w5 H5.out.below).2 (by omega)
                have HZ5 : Hid (∀ nq, Lv w (w5.drewN nq) b d4 _) := fun nq => H5.out.later (below_drewN (Below.refl _ _) nq)
                have hc6 := string_of w5 ai li ci bs LT hsx HLT.out
                have HX6 : Hid (∀ W : World, (∃ n, W = w5.drewN n) → (convert 43 9 (.slice ai li ci)).run Try.prog W = .ok (.string LT) W) := fun W hW => by
                  obtain ⟨m, rfl⟩ := hW
                  exact string_of _ ai li ci bs LT (sl_drewN hsx m) HLT.out
                have q5 := (HA.out w5 H5.out.below).1
                have e2 : IntKind.i64.wrap ((g : Int) + 1) = (g' : Int) := by rw [IntWalk.i64_in _ (by omega)]; have := HG'.out; omega
                clear hb5 hs5 hLN H4 HT hsx
                cases hqb : (LT.toList == LS.toList) with
                | true =>
                  go_wp2_with fail
                  refine wp_region_quiet_lit (by kernel_rfl) (by kernel_rfl) ?_
                  repeat (go_big_quiet_step (fail))
                  go_big_quiet_want
                  refine quiet_conv _ _ _ _ _ rfl rfl HX5.out ?_
                  go_big_quiet_on
                  simp only [Act.put, List.setIfInBounds_toArray, List.set_cons_zero, List.set_cons_succ]
                  repeat (go_big_quiet_step (fail))
                  go_big_quiet_want
                  refine quiet_conv _ _ _ _ _ rfl rfl HX5.out ?_
                  go_big_quiet_on
                  simp only [Act.put, List.setIfInBounds_toArray, List.set_cons_zero, List.set_cons_succ]
                  repeat (go_big_quiet_step (fail))
                  go_big_quiet_want
                  refine quiet_conv _ _ _ _ _ rfl rfl HX6.out ?_
                  go_big_quiet_on
                  simp only [Act.put, List.setIfInBounds_toArray, List.set_cons_zero, List.set_cons_succ]
                  repeat (go_big_quiet_step (fail))
                  refine wpQuiet_nil ?_
                  intro _ hw'
                  obtain ⟨nq, hw''⟩ := hw'
                  subst hw''
                  have hy5 := HX5.out _ ⟨nq, rfl⟩
                  clear hc5 hc6 HX5 HX6
                  all_goals go_wp2_with fail
                  all_goals go_round
                  case rel => exact ⟨k + 1, g', d4, bs, LT, _, by first | rfl | go_num, by first | rfl | go_num, by go_num, by omega, by have := HG'.out; omega, HLT, HG4, HZ5.out nq⟩
                  case measure => simp [intOf]; omega
                | false =>
                  go_wp2_with fail
                  refine wp_region_quiet_lit (by kernel_rfl) (by kernel_rfl) ?_
                  repeat (go_big_quiet_step (fail))
                  go_big_quiet_want
                  refine quiet_conv _ _ _ _ _ rfl rfl HX5.out ?_
                  go_big_quiet_on
                  simp only [Act.put, List.setIfInBounds_toArray, List.set_cons_zero, List.set_cons_succ]
                  repeat (go_big_quiet_step (fail))
                  go_big_quiet_want
                  refine quiet_conv _ _ _ _ _ rfl rfl HX5.out ?_
                  go_big_quiet_on
                  simp only [Act.put, List.setIfInBounds_toArray, List.set_cons_zero, List.set_cons_succ]
                  repeat (go_big_quiet_step (fail))
                  go_big_quiet_want
                  refine quiet_conv _ _ _ _ _ rfl rfl HX6.out ?_
                  go_big_quiet_on
                  simp only [Act.put, List.setIfInBounds_toArray, List.set_cons_zero, List.set_cons_succ]
                  repeat (go_big_quiet_step (fail))
                  refine wpQuiet_nil ?_
                  intro _ hw'
                  obtain ⟨nq, hw''⟩ := hw'
                  subst hw''
                  have hy5 := HX5.out _ ⟨nq, rfl⟩
                  clear hc5 hc6 HX5 HX6
                  all_goals go_wp2_with fail
                  all_goals go_round
                  case rel => exact ⟨k + 1, g', d4, bs, LT, _, by first | rfl | go_num, by first | rfl | go_num, by go_num, by omega, by have := HG'.out; omega, HLT, HG4, HZ5.out nq⟩
                  case measure => simp [intOf]; omega
            · have c0 : decide ((k : Int) < (n2 : Int)) = false := decide_eq_false (by omega)
              clear HB
              have CK := Lib.hid (lv_crash H3.out (.slice none 0 0) [] (ks_nil w3))
              go_wp2_with fail
              refine (lz_dark1 H3.out HD.out).mono ?_
              rintro e w' ⟨rfl, rfl⟩
              go_wp2_with fail
              rcases HC.out (Ek.nth []) with hg4 | hg4
              · have HG4 := Lib.hid (hg4.up (v := 2 + 7 * (k + 1)) (by omega))
                clear hg4 HD
                generalize Ek.crash d2 (Ek.nth []) = d4 at CK HG4
                refine CK.out.mono ?_
                clear CK
                rintro e w4 ⟨rfl, h4⟩
                have H4 : Hid (Lv w w4 b d4 w4.heap.size) := h4
                clear h4 H3 HC
                have CL := Lib.hid (lz_load H4.out)
                have HT := Lib.hid HG4.out.told
                go_wp2_with fail
                refine CL.out.mono ?_
                clear CL
                rintro e w5 ⟨hb5, a5, c5, rfl, hs5, _⟩
                rw [HT.out.2.1] at hs5 ⊢
                rw [HT.out.1, HT.out.2.2.1]
                have H5 := Lib.hid (H4.out.top.later hb5)
                generalize hLN : (last).length = LN at hs5 ⊢
                have hc5 := string_of w5 a5 LN c5 last LS hs5 KS.out
                have HX5 : Hid (∀ W : World, (∃ n, W = w5.drewN n) → (convert 43 9 (.slice a5 LN c5)).run Try.prog W = .ok (.string LS) W) := fun W hW => by
                  obtain ⟨m, rfl⟩ := hW
                  exact string_of _ a5 LN c5 last LS (sl_drewN hs5 m) KS.out
                have hsx := (HA.out w5 H5.out.below).2 (by omega)
                have HZ5 : Hid (∀ nq, Lv w (w5.drewN nq) b d4 _) := fun nq => H5.out.later (below_drewN (Below.refl _ _) nq)
                have hc6 := string_of w5 ai li ci bs LT hsx HLT.out
                have HX6 : Hid (∀ W : World, (∃ n, W = w5.drewN n) → (convert 43 9 (.slice ai li ci)).run Try.prog W = .ok (.string LT) W) := fun W hW => by
                  obtain ⟨m, rfl⟩ := hW
                  exact string_of _ ai li ci bs LT (sl_drewN hsx m) HLT.out
                have q5 := (HA.out w5 H5.out.below).1
                have e2 : IntKind.i64.wrap ((g : Int) + 1) = (g' : Int) := by rw [IntWalk.i64_in _ (by omega)]; have := HG'.out; omega
                clear hb5 hs5 hLN H4 HT hsx
                cases hqb : (LS.toList == LT.toList) with
                | true =>
                  go_wp2_with fail
                  refine wp_region_quiet_lit (by kernel_rfl) (by kernel_rfl) ?_
                  repeat (go_big_quiet_step (fail))
                  go_big_quiet_want
                  refine quiet_conv _ _ _ _ _ rfl rfl HX5.out ?_
                  go_big_quiet_on
                  simp only [Act.put, List.setIfInBounds_toArray, List.set_cons_zero, List.set_cons_succ]
                  repeat (go_big_quiet_step (fail))
                  go_big_quiet_want
                  refine quiet_conv _ _ _ _ _ rfl rfl HX5.out ?_
                  go_big_quiet_on
                  simp only [Act.put, List.setIfInBounds_toArray, List.set_cons_zero, List.set_cons_succ]
                  repeat (go_big_quiet_step (fail))
                  go_big_quiet_want
                  refine quiet_conv _ _ _ _ _ rfl rfl HX6.out ?_
                  go_big_quiet_on
                  simp only [Act.put, List.setIfInBounds_toArray, List.set_cons_zero, List.set_cons_succ]
                  repeat (go_big_quiet_step (fail))
                  refine wpQuiet_nil ?_
                  intro _ hw'
                  obtain ⟨nq, hw''⟩ := hw'
                  subst hw''
                  have hy5 := HX5.out _ ⟨nq, rfl⟩
                  clear hc5 hc6 HX5 HX6
                  all_goals go_wp2_with fail
                  all_goals go_round
                  case rel => exact ⟨k + 1, g, d4, last, LS, _, by first | rfl | go_num, by first | rfl | go_num, by go_num, by omega, by have := HG'.out; omega, KS, HG4, HZ5.out nq⟩
                  case measure => simp [intOf]; omega
                | false =>
                  go_wp2_with fail
                  refine wp_region_quiet_lit (by kernel_rfl) (by kernel_rfl) ?_
                  repeat (go_big_quiet_step (fail))
                  go_big_quiet_want
                  refine quiet_conv _ _ _ _ _ rfl rfl HX5.out ?_
                  go_big_quiet_on
                  simp only [Act.put, List.setIfInBounds_toArray, List.set_cons_zero, List.set_cons_succ]
                  repeat (go_big_quiet_step (fail))
                  go_big_quiet_want
                  refine quiet_conv _ _ _ _ _ rfl rfl HX5.out ?_
                  go_big_quiet_on
                  simp only [Act.put, List.setIfInBounds_toArray, List.set_cons_zero, List.set_cons_succ]
                  repeat (go_big_quiet_step (fail))
                  go_big_quiet_want
                  refine quiet_conv _ _ _ _ _ rfl rfl HX6.out ?_
                  go_big_quiet_on
                  simp only [Act.put, List.setIfInBounds_toArray, List.set_cons_zero, List.set_cons_succ]
                  repeat (go_big_quiet_step (fail))
                  refine wpQuiet_nil ?_
                  intro _ hw'
                  obtain ⟨nq, hw''⟩ := hw'
                  subst hw''
                  have hy5 := HX5.out _ ⟨nq, rfl⟩
                  clear hc5 hc6 HX5 HX6
                  all_goals go_wp2_with fail
                  all_goals go_round
                  case rel => exact ⟨k + 1, g, d4, last, LS, _, by first | rfl | go_num, by first | rfl | go_num, by go_num, by omega, by have := HG'.out; omega, KS, HG4, HZ5.out nq⟩
                  case measure => simp [intOf]; omega
              · have HG4 := Lib.hid (hg4.up (v := 2 + 7 * (k + 1)) (by omega))
                rw [← HG'.out] at HG4
                clear hg4 HD
                generalize Ek.crash d2 (Ek.nth []) = d4 at CK HG4
                refine CK.out.mono ?_
                clear CK
                rintro e w4 ⟨rfl, h4⟩
                have H4 : Hid (Lv w w4 b d4 w4.heap.size) := h4
                clear h4 H3 HC
                have CL := Lib.hid (lz_load H4.out)
                have HT := Lib.hid HG4.out.told
                go_wp2_with fail
                refine CL.out.mono ?_
                clear CL
                rintro e w5 ⟨hb5, a5, c5, rfl, hs5, _⟩
                rw [HT.out.2.1] at hs5 ⊢
                rw [HT.out.1, HT.out.2.2.1]
                have H5 := Lib.hid (H4.out.top.later hb5)
                generalize hLN : (bs).length = LN at hs5 ⊢
                have hc5 := string_of w5 a5 LN c5 bs LT hs5 HLT.out
                have HX5 : Hid (∀ W : World, (∃ n, W = w5.drewN n) → (convert 43 9 (.slice a5 LN c5)).run Try.prog W = .ok (.string LT) W) := fun W hW => by
                  obtain ⟨m, rfl⟩ := hW
                  exact string_of _ a5 LN c5 bs LT (sl_drewN hs5 m) HLT.out
                have hsx := (HA.out w5 H5.out.below).2 (by omega)
                have HZ5 : Hid (∀ nq, Lv w (w5.drewN nq) b d4 _) := fun nq => H5.out.later (below_drewN (Below.refl _ _) nq)
                have hc6 := string_of w5 ai li ci bs LT hsx HLT.out
                have HX6 : Hid (∀ W : World, (∃ n, W = w5.drewN n) → (convert 43 9 (.slice ai li ci)).run Try.prog W = .ok (.string LT) W) := fun W hW => by
                  obtain ⟨m, rfl⟩ := hW
                  exact string_of _ ai li ci bs LT (sl_drewN hsx m) HLT.out
                have q5 := (HA.out w5 H5.out.below).1
                have e2 : IntKind.i64.wrap ((g : Int) + 1) = (g' : Int) := by rw [IntWalk.i64_in _ (by omega)]; have := HG'.out; omega
                clear hb5 hs5 hLN H4 HT hsx
                cases hqb : (LT.toList == LS.toList) with
                | true =>
                  go_wp2_with fail
                  refine wp_region_quiet_lit (by kernel_rfl) (by kernel_rfl) ?_
                  repeat (go_big_quiet_step (fail))
                  go_big_quiet_want
                  refine quiet_conv _ _ _ _ _ rfl rfl HX5.out ?_
                  go_big_quiet_on
                  simp only [Act.put, List.setIfInBounds_toArray, List.set_cons_zero, List.set_cons_succ]
                  repeat (go_big_quiet_step (fail))
                  go_big_quiet_want
                  refine quiet_conv _ _ _ _ _ rfl rfl HX5.out ?_
                  go_big_quiet_on
                  simp only [Act.put, List.setIfInBounds_toArray, List.set_cons_zero, List.set_cons_succ]
                  repeat (go_big_quiet_step (fail))
                  go_big_quiet_want
                  refine quiet_conv _ _ _ _ _ rfl rfl HX6.out ?_
                  go_big_quiet_on
                  simp only [Act.put, List.setIfInBounds_toArray, List.set_cons_zero, List.set_cons_succ]
                  repeat (go_big_quiet_step (fail))
                  refine wpQuiet_nil ?_
                  intro _ hw'
                  obtain ⟨nq, hw''⟩ := hw'
                  subst hw''
                  have hy5 := HX5.out _ ⟨nq, rfl⟩
                  clear hc5 hc6 HX5 HX6
                  all_goals go_wp2_with fail
                  all_goals go_round
                  case rel => exact ⟨k + 1, g', d4, bs, LT, _, by first | rfl | go_num, by first | rfl | go_num, by go_num, by omega, by have := HG'.out; omega, HLT, HG4, HZ5.out nq⟩
                  case measure => simp [intOf]; omega
                | false =>
                  go_wp2_with fail
                  refine wp_region_quiet_lit (by kernel_rfl) (by kernel_rfl) ?_
                  repeat (go_big_quiet_step (fail))
                  go_big_quiet_want
                  refine quiet_conv _ _ _ _ _ rfl rfl HX5.out ?_
                  go_big_quiet_on
                  simp only [Act.put, List.setIfInBounds_toArray, List.set_cons_zero, List.set_cons_succ]
                  repeat (go_big_quiet_step (fail))
                  go_big_quiet_want
                  refine quiet_conv _ _ _ _ _ rfl rfl HX5.out ?_
                  go_big_quiet_on
                  simp only [Act.put, List.setIfInBounds_toArray, List.set_cons_zero, List.set_cons_succ]
                  repeat (go_big_quiet_step (fail))
                  go_big_quiet_want
                  refine quiet_conv _ _ _ _ _ rfl rfl HX6.out ?_
                  go_big_quiet_on
                  simp only [Act.put, List.setIfInBounds_toArray, List.set_cons_zero, List.set_cons_succ]
                  repeat (go_big_quiet_step (fail))
                  refine wpQuiet_nil ?_
                  intro _ hw'
                  obtain ⟨nq, hw''⟩ := hw'
                  subst hw''
                  have hy5 := HX5.out _ ⟨nq, rfl⟩
                  clear hc5 hc6 HX5 HX6
                  all_goals go_wp2_with fail
                  all_goals go_round
                  case rel => exact ⟨k + 1, g', d4, bs, LT, _, by first | rfl | go_num, by first | rfl | go_num, by go_num, by omega, by have := HG'.out; omega, HLT, HG4, HZ5.out nq⟩
                  case measure => simp [intOf]; omega
        · have f0 : decide ((k : Int) < (nf : Int)) = false := decide_eq_false (by omega)
          have H1 : Hid (Lv w wr b d wr.heap.size) := KL.out.top
          have HH := Lib.hid KG.out.half
          have HU1 := HU
          clear HF KG KL HU q0
          have q2 := (HA.out wr H1.out.below).1
          have hsl := (HA.out wr H1.out.below).2 (by omega)
          have hlen : bs.length = li := by
            obtain ⟨a', len', cap', e, q1, _⟩ := hsl
            injection e with e1 e2 e3; omega
          have CC := Lib.hid (lz_commit H1.out ai li ci bs hsl HC1.out (fun h0 gg off spot e => ⟨Or.inl (HAD.out h0 gg off spot e), Nat.lt_of_lt_of_le (HAD.out h0 gg off spot e) H1.out.below.size⟩) (by rw [HH.out.2.2.1]; unfold Sk.share; have := HU1.out; omega))
          rcases HH.out.cut H1.out.ok bs hsl.facts8 (by omega) (by omega) with ⟨p1, p2⟩ | ⟨p1, p3, p2⟩
          · rw [p1] at CC
            have HC := Lib.hid p2
            generalize Sk.commit d bs = d2 at CC HC
            clear p1 p2 hsl hlen HH HU1 H1
            go_wp2_with fail
            refine CC.out.mono ?_
            clear CC
            rintro e w3 ⟨rfl, h3⟩
            have H3 : Hid (Lv w w3 b d2 w3.heap.size) := h3
            clear h3 q2
            by_cases hcr : k < n2
            · have c0 : decide ((k : Int) < (n2 : Int)) = true := decide_eq_true (by omega)
              have c1 : (k : Int) < (n2 : Int) := by omega
              obtain ⟨bB, oB, ka, kn, kc, ks, rfl, hB⟩ := HB.out hcr
              have q4 := (hB w3 H3.out.below).1
              have HKS := Lib.hid (hB w3 H3.out.below).2
              clear HB hB
              have CK := Lib.hid (lv_crash H3.out (.slice ka kn kc) ks HKS.out)
              go_wp2_with fail
              have HG4 := Lib.hid ((HC.out (Ek.nth ks)).up (v := 2 + 7 * (k + 1)) (by omega))
              rw [← HG'.out] at HG4
              generalize Ek.crash d2 (Ek.nth ks) = d4 at CK HG4
              refine CK.out.mono ?_
              clear CK
              rintro e w4 ⟨rfl, h4⟩
              have H4 : Hid (Lv w w4 b d4 w4.heap.size) := h4
              clear h4 H3 HC
              have CL := Lib.hid (lz_load H4.out)
              have HT := Lib.hid HG4.out.told
              go_wp2_with fail
              refine CL.out.mono ?_
              clear CL
              rintro e w5 ⟨hb5, a5, c5, rfl, hs5, _⟩
              rw [HT.out.2.1] at hs5 ⊢
              rw [HT.out.1, HT.out.2.2.1]
              have H5 := Lib.hid (H4.out.top.later hb5)
              generalize hLN : (bs).length = LN at hs5 ⊢
              have hc5 := string_of w5 a5 LN c5 bs LT hs5 HLT.out
              have HX5 : Hid (∀ W : World, (∃ n, W = w5.drewN n) → (convert 43 9 (.slice a5 LN c5)).run Try.prog W = .ok (.string LT) W) := fun W hW => by
                obtain ⟨m, rfl⟩ := hW
                exact string_of _ a5 LN c5 bs LT (sl_drewN hs5 m) HLT.out
              have hsx := (HA.out w5 H5.out.below).2 (by omega)
              have HZ5 : Hid (∀ nq, Lv w (w5.drewN nq) b d4 _) := fun nq => H5.out.later (below_drewN (Below.refl _ _) nq)
              have hc6 := string_of w5 ai li ci bs LT hsx HLT.out
              have HX6 : Hid (∀ W : World, (∃ n, W = w5.drewN n) → (convert 43 9 (.slice ai li ci)).run Try.prog W = .ok (.string LT) W) := fun W hW => by
                obtain ⟨m, rfl⟩ := hW
                exact string_of _ ai li ci bs LT (sl_drewN hsx m) HLT.out
              have q5 := (HA.out w5 H5.out.below).1
              have e2 : IntKind.i64.wrap ((g : Int) + 1) = (g' : Int) := by rw [IntWalk.i64_in _ (by omega)]; have := HG'.out; omega
              clear hb5 hs5 hLN H4 HT hsx
              cases hqb : (LT.toList == LS.toList) with
              | true =>
                go_wp2_with fail
                refine wp_region_quiet_lit (by kernel_rfl) (by kernel_rfl) ?_
                repeat (go_big_quiet_step (fail))
                go_big_quiet_want
                refine quiet_conv _ _ _ _ _ rfl rfl HX5.out ?_
                go_big_quiet_on
                simp only [Act.put, List.setIfInBounds_toArray, List.set_cons_zero, List.set_cons_succ]
                repeat (go_big_quiet_step (fail))
                go_big_quiet_want
                refine quiet_conv _ _ _ _ _ rfl rfl HX5.out ?_
                go_big_quiet_on
                simp only [Act.put, List.setIfInBounds_toArray, List.set_cons_zero, List.set_cons_succ]
                repeat (go_big_quiet_step (fail))
                go_big_quiet_want
                refine quiet_conv _ _ _ _ _ rfl rfl HX6.out ?_
                go_big_quiet_on
                simp only [Act.put, List.setIfInBounds_toArray, List.set_cons_zero, List.set_cons_succ]
                repeat (go_big_quiet_step (fail))
                refine wpQuiet_nil ?_
                intro _ hw'
                obtain ⟨nq, hw''⟩ := hw'
                subst hw''
                have hy5 := HX5.out _ ⟨nq, rfl⟩
                clear hc5 hc6 HX5 HX6
                all_goals go_wp2_with fail
                all_goals go_round
                case rel => exact ⟨k + 1, g', d4, bs, LT, _, by first | rfl | go_num, by first | rfl | go_num, by go_num, by omega, by have := HG'.out; omega, HLT, HG4, HZ5.out nq⟩
                case measure => simp [intOf]; omega
              | false =>
                go_wp2_with fail
                refine wp_region_quiet_lit (by kernel_rfl) (by kernel_rfl) ?_
                repeat (go_big_quiet_step (fail))
                go_big_quiet_want
                refine quiet_conv _ _ _ _ _ rfl rfl HX5.out ?_
                go_big_quiet_on
                simp only [Act.put, List.setIfInBounds_toArray, List.set_cons_zero, List.set_cons_succ]
                repeat (go_big_quiet_step (fail))
                go_big_quiet_want
                refine quiet_conv _ _ _ _ _ rfl rfl HX5.out ?_
                go_big_quiet_on
                simp only [Act.put, List.setIfInBounds_toArray, List.set_cons_zero, List.set_cons_succ]
                repeat (go_big_quiet_step (fail))
                go_big_quiet_want
                refine quiet_conv _ _ _ _ _ rfl rfl HX6.out ?_
                go_big_quiet_on
                simp only [Act.put, List.setIfInBounds_toArray, List.set_cons_zero, List.set_cons_succ]
                repeat (go_big_quiet_step (fail))
                refine wpQuiet_nil ?_
                intro _ hw'
                obtain ⟨nq, hw''⟩ := hw'
                subst hw''
                have hy5 := HX5.out _ ⟨nq, rfl⟩
                clear hc5 hc6 HX5 HX6
                all_goals go_wp2_with fail
                all_goals go_round
                case rel => exact ⟨k + 1, g', d4, bs, LT, _, by first | rfl | go_num, by first | rfl | go_num, by go_num, by omega, by have := HG'.out; omega, HLT, HG4, HZ5.out nq⟩
                case measure => simp [intOf]; omega
            · have c0 : decide ((k : Int) < (n2 : Int)) = false := decide_eq_false (by omega)
              clear HB
              have CK := Lib.hid (lv_crash H3.out (.slice none 0 0) [] (ks_nil w3))
              go_wp2_with fail
              have HG4 := Lib.hid ((HC.out (Ek.nth [])).up (v := 2 + 7 * (k + 1)) (by omega))
              rw [← HG'.out] at HG4
              generalize Ek.crash d2 (Ek.nth []) = d4 at CK HG4
              refine CK.out.mono ?_
              clear CK
              rintro e w4 ⟨rfl, h4⟩
              have H4 : Hid (Lv w w4 b d4 w4.heap.size) := h4
              clear h4 H3 HC
              have CL := Lib.hid (lz_load H4.out)
              have HT := Lib.hid HG4.out.told
              go_wp2_with fail
              refine CL.out.mono ?_
              clear CL
              rintro e w5 ⟨hb5, a5, c5, rfl, hs5, _⟩
              rw [HT.out.2.1] at hs5 ⊢
              rw [HT.out.1, HT.out.2.2.1]
              have H5 := Lib.hid (H4.out.top.later hb5)
              generalize hLN : (bs).length = LN at hs5 ⊢
              have hc5 := string_of w5 a5 LN c5 bs LT hs5 HLT.out
              have HX5 : Hid (∀ W : World, (∃ n, W = w5.drewN n) → (convert 43 9 (.slice a5 LN c5)).run Try.prog W = .ok (.string LT) W) := fun W hW => by
                obtain ⟨m, rfl⟩ := hW
                exact string_of _ a5 LN c5 bs LT (sl_drewN hs5 m) HLT.out
              have hsx := (HA.out w5 H5.out.below).2 (by omega)
              have HZ5 : Hid (∀ nq, Lv w (w5.drewN nq) b d4 _) := fun nq => H5.out.later (below_drewN (Below.refl _ _) nq)
              have hc6 := string_of w5 ai li ci bs LT hsx HLT.out
              have HX6 : Hid (∀ W : World, (∃ n, W = w5.drewN n) → (convert 43 9 (.slice ai li ci)).run Try.prog W = .ok (.string LT) W) := fun W hW => by
                obtain ⟨m, rfl⟩ := hW
                exact string_of _ ai li ci bs LT (sl_drewN hsx m) HLT.out
              have q5 := (HA.out w5 H5.out.below).1
              have e2 : IntKind.i64.wrap ((g : Int) + 1) = (g' : Int) := by rw [IntWalk.i64_in _ (by omega)]; have := HG'.out; omega
              clear hb5 hs5 hLN H4 HT hsx
              cases hqb : (LT.toList == LS.toList) with
              | true =>
                go_wp2_with fail
                refine wp_region_quiet_lit (by kernel_rfl) (by kernel_rfl) ?_
                repeat (go_big_quiet_step (fail))
                go_big_quiet_want
                refine quiet_conv _ _ _ _ _ rfl rfl HX5.out ?_
                go_big_quiet_on
                simp only [Act.put, List.setIfInBounds_toArray, List.set_cons_zero, List.set_cons_succ]
                repeat (go_big_quiet_step (fail))
                go_big_quiet_want
                refine quiet_conv _ _ _ _ _ rfl rfl HX5.out ?_
                go_big_quiet_on
                simp only [Act.put, List.setIfInBounds_toArray, List.set_cons_zero, List.set_cons_succ]
                repeat (go_big_quiet_step (fail))
                go_big_quiet_want
                refine quiet_conv _ _ _ _ _ rfl rfl HX6.out ?_
                go_big_quiet_on
                simp only [Act.put, List.setIfInBounds_toArray, List.set_cons_zero, List.set_cons_succ]
                repeat (go_big_quiet_step (fail))
                refine wpQuiet_nil ?_
                intro _ hw'
                obtain ⟨nq, hw''⟩ := hw'
                subst hw''
                have hy5 := HX5.out _ ⟨nq, rfl⟩
                clear hc5 hc6 HX5 HX6
                all_goals go_wp2_with fail
                all_goals go_round
                case rel => exact ⟨k + 1, g', d4, bs, LT, _, by first | rfl | go_num, by first | rfl | go_num, by go_num, by omega, by have := HG'.out; omega, HLT, HG4, HZ5.out nq⟩
                case measure => simp [intOf]; omega
              | false =>
                go_wp2_with fail
                refine wp_region_quiet_lit (by kernel_rfl) (by kernel_rfl) ?_
                repeat (go_big_quiet_step (fail))
                go_big_quiet_want
                refine quiet_conv _ _ _ _ _ rfl rfl HX5.out ?_
                go_big_quiet_on
                simp only [Act.put, List.setIfInBounds_toArray, List.set_cons_zero, List.set_cons_succ]
                repeat (go_big_quiet_step (fail))
                go_big_quiet_want
                refine quiet_conv _ _ _ _ _ rfl rfl HX5.out ?_
                go_big_quiet_on
                simp only [Act.put, List.setIfInBounds_toArray, List.set_cons_zero, List.set_cons_succ]
                repeat (go_big_quiet_step (fail))
                go_big_quiet_want
                refine quiet_conv _ _ _ _ _ rfl rfl HX6.out ?_
                go_big_quiet_on
                simp only [Act.put, List.setIfInBounds_toArray, List.set_cons_zero, List.set_cons_succ]
                repeat (go_big_quiet_step (fail))
                refine wpQuiet_nil ?_
                intro _ hw'
                obtain ⟨nq, hw''⟩ := hw'
                subst hw''
                have hy5 := HX5.out _ ⟨nq, rfl⟩
                clear hc5 hc6 HX5 HX6
                all_goals go_wp2_with fail
                all_goals go_round
                case rel => exact ⟨k + 1, g', d4, bs, LT, _, by first | rfl | go_num, by first | rfl | go_num, by go_num, by omega, by have := HG'.out; omega, HLT, HG4, HZ5.out nq⟩
                case measure => simp [intOf]; omega
          · rw [p1] at CC
            have HC := Lib.hid p2
            have HD := Lib.hid p3
            generalize Sk.commit d bs = d2 at CC HC HD
            clear p1 p2 p3 hsl hlen HH HU1 H1
            go_wp2_with fail
            refine CC.out.mono ?_
            clear CC
            rintro e w3 ⟨rfl, h3⟩
            have H3 : Hid (Lv w w3 b d2 w3.heap.size) := h3
            clear h3 q2
            by_cases hcr : k < n2
            · have c0 : decide ((k : Int) < (n2 : Int)) = true := decide_eq_true (by omega)
              have c1 : (k : Int) < (n2 : Int) := by omega
              obtain ⟨bB, oB, ka, kn, kc, ks, rfl, hB⟩ := HB.out hcr
              have q4 := (hB w3 H3.out.below).1
              have HKS := Lib.hid (hB w3 H3.out.below).2
              clear HB hB
              have CK := Lib.hid (lv_crash H3.out (.slice ka kn kc) ks HKS.out)
              go_wp2_with fail
              refine (lz_dark1 H3.out HD.out).mono ?_
              rintro e w' ⟨rfl, rfl⟩
              go_wp2_with fail
              rcases HC.out (Ek.nth ks) with hg4 | hg4
              · have HG4 := Lib.hid (hg4.up (v := 2 + 7 * (k + 1)) (by omega))
                clear hg4 HD
                generalize Ek.crash d2 (Ek.nth ks) = d4 at CK HG4
                refine CK.out.mono ?_
                clear CK
                rintro e w4 ⟨rfl, h4⟩
                have H4 : Hid (Lv w w4 b d4 w4.heap.size) := h4
                clear h4 H3 HC
                have CL := Lib.hid (lz_load H4.out)
                have HT := Lib.hid HG4.out.told
                go_wp2_with fail
                refine CL.out.mono ?_
                clear CL
                rintro e w5 ⟨hb5, a5, c5, rfl, hs5, _⟩
                rw [HT.out.2.1] at hs5 ⊢
                rw [HT.out.1, HT.out.2.2.1]
                have H5 := Lib.hid (H4.out.top.later hb5)
                generalize hLN : (last).length = LN at hs5 ⊢
                have hc5 := string_of w5 a5 LN c5 last LS hs5 KS.out
                have HX5 : Hid (∀ W : World, (∃ n, W = w5.drewN n) → (convert 43 9 (.slice a5 LN c5)).run Try.prog W = .ok (.string LS) W) := fun W hW => by
                  obtain ⟨m, rfl⟩ := hW
                  exact string_of _ a5 LN c5 last LS (sl_drewN hs5 m) KS.out
                have hsx := (HA.out w5 H5.out.below).2 (by omega)
                have HZ5 : Hid (∀ nq, Lv w (w5.drewN nq) b d4 _) := fun nq => H5.out.later (below_drewN (Below.refl _ _) nq)
                have hc6 := string_of w5 ai li ci bs LT hsx HLT.out
                have HX6 : Hid (∀ W : World, (∃ n, W = w5.drewN n) → (convert 43 9 (.slice ai li ci)).run Try.prog W = .ok (.string LT) W) := fun W hW => by
                  obtain ⟨m, rfl⟩ := hW
                  exact string_of _ ai li ci bs LT (sl_drewN hsx m) HLT.out
                have q5 := (HA.out w5 H5.out.below).1
                have e2 : IntKind.i64.wrap ((g : Int) + 1) = (g' : Int) := by rw [IntWalk.i64_in _ (by omega)]; have := HG'.out; omega
                clear hb5 hs5 hLN H4 HT hsx
                cases hqb : (LS.toList == LT.toList) with
                | true =>
                  go_wp2_with fail
                  refine wp_region_quiet_lit (by kernel_rfl) (by kernel_rfl) ?_
                  repeat (go_big_quiet_step (fail))
                  go_big_quiet_want
                  refine quiet_conv _ _ _ _ _ rfl rfl HX5.out ?_
                  go_big_quiet_on
                  simp only [Act.put, List.setIfInBounds_toArray, List.set_cons_zero, List.set_cons_succ]
                  repeat (go_big_quiet_step (fail))
                  go_big_quiet_want
                  refine quiet_conv _ _ _ _ _ rfl rfl HX5.out ?_
                  go_big_quiet_on
                  simp only [Act.put, List.setIfInBounds_toArray, List.set_cons_zero, List.set_cons_succ]
                  repeat (go_big_quiet_step (fail))
                  go_big_quiet_want
                  refine quiet_conv _ _ _ _ _ rfl rfl HX6.out ?_
                  go_big_quiet_on
                  simp only [Act.put, List.setIfInBounds_toArray, List.set_cons_zero, List.set_cons_succ]
                  repeat (go_big_quiet_step (fail))
                  refine wpQuiet_nil ?_
                  intro _ hw'
                  obtain ⟨nq, hw''⟩ := hw'
                  subst hw''
                  have hy5 := HX5.out _ ⟨nq, rfl⟩
                  clear hc5 hc6 HX5 HX6
                  all_goals go_wp2_with fail
                  all_goals go_round
                  case rel => exact ⟨k + 1, g, d4, last, LS, _, by first | rfl | go_num, by first | rfl | go_num, by go_num, by omega, by have := HG'.out; omega, KS, HG4, HZ5.out nq⟩
                  case measure => simp [intOf]; omega
                | false =>
                  go_wp2_with fail
                  refine wp_region_quiet_lit (by kernel_rfl) (by kernel_rfl) ?_
                  repeat (go_big_quiet_step (fail))
                  go_big_quiet_want
                  refine quiet_conv _ _ _ _ _ rfl rfl HX5.out ?_
                  go_big_quiet_on
                  simp only [Act.put, List.setIfInBounds_toArray, List.set_cons_zero, List.set_cons_succ]
                  repeat (go_big_quiet_step (fail))
                  go_big_quiet_want
                  refine quiet_conv _ _ _ _ _ rfl rfl HX5.out ?_
                  go_big_quiet_on
                  simp only [Act.put, List.setIfInBounds_toArray, List.set_cons_zero, List.set_cons_succ]
                  repeat (go_big_quiet_step (fail))
                  go_big_quiet_want
                  refine quiet_conv _ _ _ _ _ rfl rfl HX6.out ?_
                  go_big_quiet_on
                  simp only [Act.put, List.setIfInBounds_toArray, List.set_cons_zero, List.set_cons_succ]
                  repeat (go_big_quiet_step (fail))
                  refine wpQuiet_nil ?_
                  intro _ hw'
                  obtain ⟨nq, hw''⟩ := hw'
                  subst hw''
                  have hy5 := HX5.out _ ⟨nq, rfl⟩
                  clear hc5 hc6 HX5 HX6
                  all_goals go_wp2_with fail
                  all_goals go_round
                  case rel => exact ⟨k + 1, g, d4, last, LS, _, by first | rfl | go_num, by first | rfl | go_num, by go_num, by omega, by have := HG'.out; omega, KS, HG4, HZ5.out nq⟩
                  case measure => simp [intOf]; omega
              · have HG4 := Lib.hid (hg4.up (v := 2 + 7 * (k + 1)) (by omega))
                rw [← HG'.out] at HG4
                clear hg4 HD
                generalize Ek.crash d2 (Ek.nth ks) = d4 at CK HG4
                refine CK.out.mono ?_
                clear CK
                rintro e w4 ⟨rfl, h4⟩
                have H4 : Hid (Lv w w4 b d4 w4.heap.size) := h4
                clear h4 H3 HC
                have CL := Lib.hid (lz_load H4.out)
                have HT := Lib.hid HG4.out.told
                go_wp2_with fail
                refine CL.out.mono ?_
                clear CL
                rintro e w5 ⟨hb5, a5, c5, rfl, hs5, _⟩
                rw [HT.out.2.1] at hs5 ⊢
                rw [HT.out.1, HT.out.2.2.1]
                have H5 := Lib.hid (H4.out.top.later hb5)
                generalize hLN : (bs).length = LN at hs5 ⊢
                have hc5 := string_of w5 a5 LN c5 bs LT hs5 HLT.out
                have HX5 : Hid (∀ W : World, (∃ n, W = w5.drewN n) → (convert 43 9 (.slice a5 LN c5)).run Try.prog W = .ok (.string LT) W) := fun W hW => by
                  obtain ⟨m, rfl⟩ := hW
                  exact string_of _ a5 LN c5 bs LT (sl_drewN hs5 m) HLT.out
                have hsx := (HA.out w5 H5.out.below).2 (by omega)
                have HZ5 : Hid (∀ nq, Lv w (w5.drewN nq) b d4 _) := fun nq => H5.out.later (below_drewN (Below.refl _ _) nq)
                have hc6 := string_of w5 ai li ci bs LT hsx HLT.out
                have HX6 : Hid (∀ W : World, (∃ n, W = w5.drewN n) → (convert 43 9 (.slice ai li ci)).run Try.prog W = .ok (.string LT) W) := fun W hW => by
                  obtain ⟨m, rfl⟩ := hW
                  exact string_of _ ai li ci bs LT (sl_drewN hsx m) HLT.out
                have q5 := (HA.out w5 H5.out.below).1
                have e2 : IntKind.i64.wrap ((g : Int) + 1) = (g' : Int) := by rw [IntWalk.i64_in _ (by omega)]; have := HG'.out; omega
                clear hb5 hs5 hLN H4 HT hsx
                cases hqb : (LT.toList == LS.toList) with
                | true =>
                  go_wp2_with fail
                  refine wp_region_quiet_lit (by kernel_rfl) (by kernel_rfl) ?_
                  repeat (go_big_quiet_step (fail))
                  go_big_quiet_want
                  refine quiet_conv _ _ _ _ _ rfl rfl HX5.out ?_
                  go_big_quiet_on
                  simp only [Act.put, List.setIfInBounds_toArray, List.set_cons_zero, List.set_cons_succ]
                  repeat (go_big_quiet_step (fail))
                  go_big_quiet_want
                  refine quiet_conv _ _ _ _ _ rfl rfl HX5.out ?_
                  go_big_quiet_on
                  simp only [Act.put, List.setIfInBounds_toArray, List.set_cons_zero, List.set_cons_succ]
                  repeat (go_big_quiet_step (fail))
                  go_big_quiet_want
                  refine quiet_conv _ _ _ _ _ rfl rfl HX6.out ?_
                  go_big_quiet_on
                  simp only [Act.put, List.setIfInBounds_toArray, List.set_cons_zero, List.set_cons_succ]
                  repeat (go_big_quiet_step (fail))
                  refine wpQuiet_nil ?_
                  intro _ hw'
                  obtain ⟨nq, hw''⟩ := hw'
                  subst hw''
                  have hy5 := HX5.out _ ⟨nq, rfl⟩
                  clear hc5 hc6 HX5 HX6
                  all_goals go_wp2_with fail
                  all_goals go_round
                  case rel => exact ⟨k + 1, g', d4, bs, LT, _, by first | rfl | go_num, by first | rfl | go_num, by go_num, by omega, by have := HG'.out; omega, HLT, HG4, HZ5.out nq⟩
                  case measure => simp [intOf]; omega
                | false =>
                  go_wp2_with fail
                  refine wp_region_quiet_lit (by kernel_rfl) (by kernel_rfl) ?_
                  repeat (go_big_quiet_step (fail))
                  go_big_quiet_want
                  refine quiet_conv _ _ _ _ _ rfl rfl HX5.out ?_
                  go_big_quiet_on
                  simp only [Act.put, List.setIfInBounds_toArray, List.set_cons_zero, List.set_cons_succ]
                  repeat (go_big_quiet_step (fail))
                  go_big_quiet_want
                  refine quiet_conv _ _ _ _ _ rfl rfl HX5.out ?_
                  go_big_quiet_on
                  simp only [Act.put, List.setIfInBounds_toArray, List.set_cons_zero, List.set_cons_succ]
                  repeat (go_big_quiet_step (fail))
                  go_big_quiet_want
                  refine quiet_conv _ _ _ _ _ rfl rfl HX6.out ?_
                  go_big_quiet_on
                  simp only [Act.put, List.setIfInBounds_toArray, List.set_cons_zero, List.set_cons_succ]
                  repeat (go_big_quiet_step (fail))
                  refine wpQuiet_nil ?_
                  intro _ hw'
                  obtain ⟨nq, hw''⟩ := hw'
                  subst hw''
                  have hy5 := HX5.out _ ⟨nq, rfl⟩
                  clear hc5 hc6 HX5 HX6
                  all_goals go_wp2_with fail
                  all_goals go_round
                  case rel => exact ⟨k + 1, g', d4, bs, LT, _, by first | rfl | go_num, by first | rfl | go_num, by go_num, by omega, by have := HG'.out; omega, HLT, HG4, HZ5.out nq⟩
                  case measure => simp [intOf]; omega
            · have c0 : decide ((k : Int) < (n2 : Int)) = false := decide_eq_false (by omega)
              clear HB
              have CK := Lib.hid (lv_crash H3.out (.slice none 0 0) [] (ks_nil w3))
              go_wp2_with fail
              refine (lz_dark1 H3.out HD.out).mono ?_
              rintro e w' ⟨rfl, rfl⟩
              go_wp2_with fail
              rcases HC.out (Ek.nth []) with hg4 | hg4
              · have HG4 := Lib.hid (hg4.up (v := 2 + 7 * (k + 1)) (by omega))
                clear hg4 HD
                generalize Ek.crash d2 (Ek.nth []) = d4 at CK HG4
                refine CK.out.mono ?_
                clear CK
                rintro e w4 ⟨rfl, h4⟩
                have H4 : Hid (Lv w w4 b d4 w4.heap.size) := h4
                clear h4 H3 HC
                have CL := Lib.hid (lz_load H4.out)
                have HT := Lib.hid HG4.out.told
                go_wp2_with fail
                refine CL.out.mono ?_
                clear CL
                rintro e w5 ⟨hb5, a5, c5, rfl, hs5, _⟩
                rw [HT.out.2.1] at hs5 ⊢
                rw [HT.out.1, HT.out.2.2.1]
                have H5 := Lib.hid (H4.out.top.later hb5)
                generalize hLN : (last).length = LN at hs5 ⊢
                have hc5 := string_of w5 a5 LN c5 last LS hs5 KS.out
                have HX5 : Hid (∀ W : World, (∃ n, W = w5.drewN n) → (convert 43 9 (.slice a5 LN c5)).run Try.prog W = .ok (.string LS) W) := fun W hW => by
                  obtain ⟨m, rfl⟩ := hW
                  exact string_of _ a5 LN c5 last LS (sl_drewN hs5 m) KS.out
                have hsx := (HA.out w5 H5.out.below).2 (by omega)
                have HZ5 : Hid (∀ nq, Lv w (w5.drewN nq) b d4 _) := fun nq => H5.out.later (below_drewN (Below.refl _ _) nq)
                have hc6 := string_of w5 ai li ci bs LT hsx HLT.out
                have HX6 : Hid (∀ W : World, (∃ n, W = w5.drewN n) → (convert 43 9 (.slice ai li ci)).run Try.prog W = .ok (.string LT) W) := fun W hW => by
                  obtain ⟨m, rfl⟩ := hW
                  exact string_of _ ai li ci bs LT (sl_drewN hsx m) HLT.out
                have q5 := (HA.out w5 H5.out.below).1
                have e2 : IntKind.i64.wrap ((g : Int) + 1) = (g' : Int) := by rw [IntWalk.i64_in _ (by omega)]; have := HG'.out; omega
                clear hb5 hs5 hLN H4 HT hsx
                cases hqb : (LS.toList == LT.toList) with
                | true =>
                  go_wp2_with fail
                  refine wp_region_quiet_lit (by kernel_rfl) (by kernel_rfl) ?_
                  repeat (go_big_quiet_step (fail))
                  go_big_quiet_want
                  refine quiet_conv _ _ _ _ _ rfl rfl HX5.out ?_
                  go_big_quiet_on
                  simp only [Act.put, List.setIfInBounds_toArray, List.set_cons_zero, List.set_cons_succ]
                  repeat (go_big_quiet_step (fail))
                  go_big_quiet_want
                  refine quiet_conv _ _ _ _ _ rfl rfl HX5.out ?_
                  go_big_quiet_on
                  simp only [Act.put, List.setIfInBounds_toArray, List.set_cons_zero, List.set_cons_succ]
                  repeat (go_big_quiet_step (fail))
                  go_big_quiet_want
                  refine quiet_conv _ _ _ _ _ rfl rfl HX6.out ?_
                  go_big_quiet_on
                  simp only [Act.put, List.setIfInBounds_toArray, List.set_cons_zero, List.set_cons_succ]
                  repeat (go_big_quiet_step (fail))
                  refine wpQuiet_nil ?_
                  intro _ hw'
                  obtain ⟨nq, hw''⟩ := hw'
                  subst hw''
                  have hy5 := HX5.out _ ⟨nq, rfl⟩
                  clear hc5 hc6 HX5 HX6
                  all_goals go_wp2_with fail
                  all_goals go_round
                  case rel => exact ⟨k + 1, g, d4, last, LS, _, by first | rfl | go_num, by first | rfl | go_num, by go_num, by omega, by have := HG'.out; omega, KS, HG4, HZ5.out nq⟩
                  case measure => simp [intOf]; omega
                | false =>
                  go_wp2_with fail
                  refine wp_region_quiet_lit (by kernel_rfl) (by kernel_rfl) ?_
                  repeat (go_big_quiet_step (fail))
                  go_big_quiet_want
                  refine quiet_conv _ _ _ _ _ rfl rfl HX5.out ?_
                  go_big_quiet_on
                  simp only [Act.put, List.setIfInBounds_toArray, List.set_cons_zero, List.set_cons_succ]
                  repeat (go_big_quiet_step (fail))
                  go_big_quiet_want
                  refine quiet_conv _ _ _ _ _ rfl rfl HX5.out ?_
                  go_big_quiet_on
                  simp only [Act.put, List.setIfInBounds_toArray, List.set_cons_zero, List.set_cons_succ]
                  repeat (go_big_quiet_step (fail))
                  go_big_quiet_want
                  refine quiet_conv _ _ _ _ _ rfl rfl HX6.out ?_
                  go_big_quiet_on
                  simp only [Act.put, List.setIfInBounds_toArray, List.set_cons_zero, List.set_cons_succ]
                  repeat (go_big_quiet_step (fail))
                  refine wpQuiet_nil ?_
                  intro _ hw'
                  obtain ⟨nq, hw''⟩ := hw'
                  subst hw''
                  have hy5 := HX5.out _ ⟨nq, rfl⟩
                  clear hc5 hc6 HX5 HX6
                  all_goals go_wp2_with fail
                  all_goals go_round
                  case rel => exact ⟨k + 1, g, d4, last, LS, _, by first | rfl | go_num, by first | rfl | go_num, by go_num, by omega, by have := HG'.out; omega, KS, HG4, HZ5.out nq⟩
                  case measure => simp [intOf]; omega
              · have HG4 := Lib.hid (hg4.up (v := 2 + 7 * (k + 1)) (by omega))
                rw [← HG'.out] at HG4
                clear hg4 HD
                generalize Ek.crash d2 (Ek.nth []) = d4 at CK HG4
                refine CK.out.mono ?_
                clear CK
                rintro e w4 ⟨rfl, h4⟩
                have H4 : Hid (Lv w w4 b d4 w4.heap.size) := h4
                clear h4 H3 HC
                have CL := Lib.hid (lz_load H4.out)
                have HT := Lib.hid HG4.out.told
                go_wp2_with fail
                refine CL.out.mono ?_
                clear CL
                rintro e w5 ⟨hb5, a5, c5, rfl, hs5, _⟩
                rw [HT.out.2.1] at hs5 ⊢
                rw [HT.out.1, HT.out.2.2.1]
                have H5 := Lib.hid (H4.out.top.later hb5)
                generalize hLN : (bs).length = LN at hs5 ⊢
                have hc5 := string_of w5 a5 LN c5 bs LT hs5 HLT.out
                have HX5 : Hid (∀ W : World, (∃ n, W = w5.drewN n) → (convert 43 9 (.slice a5 LN c5)).run Try.prog W = .ok (.string LT) W) := fun W hW => by
                  obtain ⟨m, rfl⟩ := hW
                  exact string_of _ a5 LN c5 bs LT (sl_drewN hs5 m) HLT.out
                have hsx := (HA.out w5 H5.out.below).2 (by omega)
                have HZ5 : Hid (∀ nq, Lv w (w5.drewN nq) b d4 _) := fun nq => H5.out.later (below_drewN (Below.refl _ _) nq)
                have hc6 := string_of w5 ai li ci bs LT hsx HLT.out
                have HX6 : Hid (∀ W : World, (∃ n, W = w5.drewN n) → (convert 43 9 (.slice ai li ci)).run Try.prog W = .ok (.string LT) W) := fun W hW => by
                  obtain ⟨m, rfl⟩ := hW
                  exact string_of _ ai li ci bs LT (sl_drewN hsx m) HLT.out
                have q5 := (HA.out w5 H5.out.below).1
                have e2 : IntKind.i64.wrap ((g : Int) + 1) = (g' : Int) := by rw [IntWalk.i64_in _ (by omega)]; have := HG'.out; omega
                clear hb5 hs5 hLN H4 HT hsx
                cases hqb : (LT.toList == LS.toList) with
                | true =>
                  go_wp2_with fail
                  refine wp_region_quiet_lit (by kernel_rfl) (by kernel_rfl) ?_
                  repeat (go_big_quiet_step (fail))
                  go_big_quiet_want
                  refine quiet_conv _ _ _ _ _ rfl rfl HX5.out ?_
                  go_big_quiet_on
                  simp only [Act.put, List.setIfInBounds_toArray, List.set_cons_zero, List.set_cons_succ]
                  repeat (go_big_quiet_step (fail))
                  go_big_quiet_want
                  refine quiet_conv _ _ _ _ _ rfl rfl HX5.out ?_
                  go_big_quiet_on
                  simp only [Act.put, List.setIfInBounds_toArray, List.set_cons_zero, List.set_cons_succ]
                  repeat (go_big_quiet_step (fail))
                  go_big_quiet_want
                  refine quiet_conv _ _ _ _ _ rfl rfl HX6.out ?_
                  go_big_quiet_on
                  simp only [Act.put, List.setIfInBounds_toArray, List.set_cons_zero, List.set_cons_succ]
                  repeat (go_big_quiet_step (fail))
                  refine wpQuiet_nil ?_
                  intro _ hw'
                  obtain ⟨nq, hw''⟩ := hw'
                  subst hw''
                  have hy5 := HX5.out _ ⟨nq, rfl⟩
                  clear hc5 hc6 HX5 HX6
                  all_goals go_wp2_with fail
                  all_goals go_round
                  case rel => exact ⟨k + 1, g', d4, bs, LT, _, by first | rfl | go_num, by first | rfl | go_num, by go_num, by omega, by have := HG'.out; omega, HLT, HG4, HZ5.out nq⟩
                  case measure => simp [intOf]; omega
                | false =>
                  go_wp2_with fail
                  refine wp_region_quiet_lit (by kernel_rfl) (by kernel_rfl) ?_
                  repeat (go_big_quiet_step (fail))
                  go_big_quiet_want
                  refine quiet_conv _ _ _ _ _ rfl rfl HX5.out ?_
                  go_big_quiet_on
                  simp only [Act.put, List.setIfInBounds_toArray, List.set_cons_zero, List.set_cons_succ]
                  repeat (go_big_quiet_step (fail))
                  go_big_quiet_want
                  refine quiet_conv _ _ _ _ _ rfl rfl HX5.out ?_
                  go_big_quiet_on
                  simp only [Act.put, List.setIfInBounds_toArray, List.set_cons_zero, List.set_cons_succ]
                  repeat (go_big_quiet_step (fail))
                  go_big_quiet_want
                  refine quiet_conv _ _ _ _ _ rfl rfl HX6.out ?_
                  go_big_quiet_on
                  simp only [Act.put, List.setIfInBounds_toArray, List.set_cons_zero, List.set_cons_succ]
                  repeat (go_big_quiet_step (fail))
                  refine wpQuiet_nil ?_
                  intro _ hw'
                  obtain ⟨nq, hw''⟩ := hw'
                  subst hw''
                  have hy5 := HX5.out _ ⟨nq, rfl⟩
                  clear hc5 hc6 HX5 HX6
                  all_goals go_wp2_with fail
                  all_goals go_round
                  case rel => exact ⟨k + 1, g', d4, bs, LT, _, by first | rfl | go_num, by first | rfl | go_num, by go_num, by omega, by have := HG'.out; omega, HLT, HG4, HZ5.out nq⟩
                  case measure => simp [intOf]; omega
      · have l0 : decide ((2048 : Int) < (li : Int)) = true := decide_eq_true (by omega)
        have HBx := Lib.hid KL.out.below
        clear KG KL KS HB HF had hc
        go_wp2_with fail
        refine (zlives_is wr).mono ?_
        rintro e w5 ⟨rfl, hb5⟩
        have HB5 := Lib.hid (HBx.out.trans (hb5.mono HBx.out.size))
        clear hb5
        go_wp2_with fail
        go_ret
        exact ⟨rfl, HB5.out⟩
    · have j0 : decide ((k : Int) < (n : Int)) = false := decide_eq_false (by omega)
      have HBx := Lib.hid KL.out.below
      clear KG KL KS HAT HBT HFT
      go_wp2_with fail
      refine (zlives_is wr).mono ?_
      rintro e w5 ⟨rfl, hb5⟩
      have HB5 := Lib.hid (HBx.out.trans (hb5.mono HBx.out.size))
      clear hb5
      go_wp2_with fail
      go_ret
      exact ⟨rfl, HB5.out⟩

set_option maxRecDepth 100000 in
set_option maxHeartbeats 2000000 in
theorem slotsPower_walk (v0 v1 : Value) (fs : List Nat) (v2 : Value) (w : World) (h0 : Ells w v0) (h1 : Sl w v1 fs) (_ln : fs.length ≤ reachBytes) (h2 : Kss w v2) :
    Calls Try.prog 9 #[v0, v1, v2] w fun e w' => e = .returned (.bool true) ∧ Below w.heap.size w w' := by
  obtain ⟨a, n, cap, rfl, hn9, hat⟩ := h0
  obtain ⟨a2, n2, cap2, rfl, hm9, hbt⟩ := h2
  obtain ⟨af, nf, cf, rfl⟩ : ∃ af nf cf, v1 = .slice af nf cf := by
    obtain ⟨a', l', c', e, _⟩ := h1
    exact ⟨a', l', c', e⟩
  by_cases h12 : n ≤ 12
  · exact power_main a n cap af nf cf a2 n2 cap2 w h12 (ell_at hat) (by_at h1) (ks_at hbt)
  · have d0 : decide ((12 : Int) < (n : Int)) = true := decide_eq_true (by omega)
    clear h12 hat hbt hn9 hm9 h1 _ln
    go_enter Try.func9, Try.ntmps9
    go_wp2_with fail
    refine (lv_new (Below.refl w.heap.size w) 9 (by omega) (by omega)).mono ?_
    rintro e w1 ⟨b, rfl, H1⟩
    have CC := Lib.hid (lz_format H1 (by decide))
    rw [Sk.Good.start.1] at CC
    clear H1
    go_wp2_with fail
    refine CC.out.mono ?_
    clear CC
    rintro e w2 ⟨rfl, h2⟩
    have HB2 : Hid (Below w.heap.size w w2) := h2.below
    clear h2
    go_wp2_with fail
    refine (zlives_is w2).mono ?_
    rintro e w5 ⟨rfl, hb5⟩
    have HB5 := Lib.hid (HB2.out.trans (hb5.mono HB2.out.size))
    clear hb5
    go_wp2_with fail
    go_ret
    exact ⟨rfl, HB5.out⟩
set_option maxRecDepth 100000 in
theorem slotsPower_lifted (os : Os) (started : os.Started) (H : Type) (enc : TypeId × Value → H) :
    ReturnsInHanded {} Try.checked os 9 .any (Rows.slotsPowerSpec.pre6 enc Try.prog Try.f9 Rows.slotsPowerRow.domain false) (Rows.slotsPowerSpec.post enc Try.prog Try.f9 false true false false) := by
  refine returnsInHanded_of_change_sized (C := Try.checked) Try.own started (by kernel_rfl) Try.func9
    (ChangeSpec.witness6 (enc := enc) (C := Try.checked) false ⟨#[], #[.slice none 0 0, .slice none 0 0, .slice none 0 0], []⟩ 8 (by kernel_rfl) (by kernel_rfl) (by kernel_rfl) (by kernel_rfl)) ?_
  intro W base args ds gs before hval0 hW _ hsz0 _
  have hval : ∀ (j : Nat) t v, Try.f9.params[j]? = some t → args[j]? = some v → Value.okWide Try.prog W .any base t v := hval0
  have hsz : (DataW.weightsEach Try.prog (Try.f9.params.toList ++ Rows.slotsPowerSpec.plain.varTypes Try.prog) (ds ++ gs)).all (· ≤ reachBytes) = true := hsz0
  have hW' := hW
  obtain ⟨p, q, hA0, hV, rfl, hfz, hnd⟩ := hW
  have hA : DataW.TrodAll enc Try.prog W 0 (fun _ => true) true Try.f9.params.toList args.toList ds p := hA0
  rw [Try.params9] at hA hval hsz
  obtain ⟨v0, vs0, d0, ds0, p0, q0, hargs, rfl, rfl, h0, r0⟩ := trodAll_cons hA
  obtain ⟨v1, vs1, d1, ds1, p1, q1, rfl, rfl, rfl, h1, r1⟩ := trodAll_cons r0
  obtain ⟨v2, vs2, d2, ds2, p2, q2, rfl, rfl, rfl, h2, r2⟩ := trodAll_cons r1
  obtain ⟨rfl, rfl, rfl⟩ := trodAll_nil r2
  obtain rfl : args = #[v0, v1, v2] := by cases args; simp_all
  obtain ⟨rfl, rfl⟩ := trodVars_none hV
  have k0 := h0
  have lt0 : ∀ x ∈ p0, x.block < W.heap.size := by obtain ⟨m, hm⟩ := k0; exact DataW.trod_lt m _ _ _ hm
  have el0 := ells_open (hval 0 74 v0 rfl rfl) h0
  have k1 := h1
  have lt1 : ∀ x ∈ p1, x.block < W.heap.size := by obtain ⟨m, hm⟩ := k1; exact DataW.trod_lt m _ _ _ hm
  have w1 : ∀ n ∈ d1.weights Try.prog 43, n ≤ reachBytes := fun n hn => by simpa using List.all_eq_true.1 hsz n (DataW.weights_mem_each (j := 1) rfl rfl n hn)
  obtain ⟨bs1, sl1, ln1⟩ := bytes_open (hval 1 43 v1 rfl rfl) h1 w1
  have k2 := h2
  have lt2 : ∀ x ∈ p2, x.block < W.heap.size := by obtain ⟨m, hm⟩ := k2; exact DataW.trod_lt m _ _ _ hm
  have el2 := kss_open (hval 2 77 v2 rfl rfl) h2
  clear hA0 hval0 hsz0
  refine (slotsPower_walk v0 v1 bs1 v2 W el0 sl1 ln1 el2).mono fun e W' ⟨he, bel⟩ => ?_
  subst he
  exact ⟨_, rfl, _, _, _, [], _, [], hW', trodAll_mk1 (shut_bool Try.underlying4 _), (trodAll_cons_mk (Below.trod Try.laidOut (by kernel_rfl) (of_decide_eq_true (by kernel_rfl)) k0 bel lt0) (trodAll_cons_mk (Below.trod Try.laidOut (by kernel_rfl) (of_decide_eq_true (by kernel_rfl)) k1 bel lt1) (trodAll_cons_mk (Below.trod Try.laidOut (by kernel_rfl) (of_decide_eq_true (by kernel_rfl)) k2 bel lt2) trodAll_mk0))), rfl, bel.frame _, fun h => by cases h⟩

theorem slotsPower_proved : Rows.SlotsPowerSaid :=
  OpenClaim.holds_of_wide 9 Try.f9 rfl rfl rfl rfl rfl rfl rfl ⟨rfl, rfl, rfl, rfl, rfl⟩ rfl rfl rfl rfl rfl (by kernel_rfl) Try.func9 (by kernel_rfl)
    (of_decide_eq_true (by kernel_rfl)) (by unfold Func.isWrapper; rw [if_neg (of_decide_eq_false (by kernel_rfl))]; exact ⟨rfl, rfl⟩)
    (fun os started H enc _ => slotsPower_lifted os started H enc)
end Go.Proofs.Ytfihljibfnnahaa
