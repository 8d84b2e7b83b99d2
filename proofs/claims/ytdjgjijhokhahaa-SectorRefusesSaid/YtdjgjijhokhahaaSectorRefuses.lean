/- The statement SectorRefuses: what is refused changes nothing, and spends nothing of a fuse. It holds for every input, without a condition. -/
import Derived.Test.YtdjgjijhokhahaaEall
import Derived.Test.YtdjgjijhokhahaaEdone

namespace Go.Proofs.Ytdjgjijhokhahaa
set_option maxRecDepth 100000
open Go.ChangeShapes Go.WideShapes Go.ChangeAt Go.RowKit

theorem strsTo_fuse (d : Ek.Dk) (n : Int) (k : Nat) : strsTo (Ek.fuse d n) k = strsTo d k := rfl
theorem Strs.cell {w : World} {d : Ek.Dk} {s : Value} {k g : Nat} (h : Strs w s (strsTo d k) g) (i : Nat) (hi : i < k) : w.cell? ⟨g, i, none⟩ = some (.string (strB (Ek.now d i))) := by
  obtain ⟨cap, _, _, hc⟩ := h
  rw [hc i (by rw [strsTo_length]; exact hi), strsTo_get d k i hi]; rfl

/-- One change is left. -/
theorem fuse_one {d : Ek.Dk} (h : d.dark = false) : Ek.changeE (Ek.fuse d 1) = 0 ∧ Ek.changeE (Ek.sync (Ek.fuse d 1)) = 6 ∧ (Ek.sync (Ek.fuse d 1)).used = d.used := by
  have hl : (Ek.fuse d 1).left = 1 := by show max (1 : Int) 0 = 1; omega
  have hd : (Ek.fuse d 1).dark = false := h
  have hn : ¬ ((Ek.fuse d 1).dark = true ∨ (Ek.fuse d 1).left = 0) := by rw [hl, hd]; simp
  have h1 : Ek.changeE (Ek.fuse d 1) = 0 := by unfold Ek.changeE; rw [if_neg hn]
  have h2 : Ek.change (Ek.fuse d 1) = { Ek.fuse d 1 with left := (Ek.fuse d 1).left - 1 } := by unfold Ek.change; rw [if_neg hn, if_neg (by omega)]
  have h3 : Ek.sync (Ek.fuse d 1) = Ek.settled { Ek.fuse d 1 with left := (Ek.fuse d 1).left - 1 } (fun _ => 1) := by unfold Ek.sync; rw [if_pos h1, h2]
  refine ⟨h1, ?_, by rw [h3]; rfl⟩
  unfold Ek.changeE
  rw [if_pos (Or.inr (by rw [h3]; show (Ek.fuse d 1).left - 1 = 0; omega))]

set_option maxRecDepth 100000 in
set_option maxHeartbeats 4000000 in
theorem refuses_main (v : Value) (l : List Ac) (i m : Int) (w : World) (_li : -9223372036854775808 ≤ i) (_hi : i ≤ 9223372036854775807) (_lm : -9223372036854775808 ≤ m) (_hm : m ≤ 9223372036854775807) (hl : Acts w v l) (h40 : l.length ≤ 40) :
    Calls Try.prog 8 #[v, .int .i64 i, .int .i64 m] w fun e w' => e = .returned (.bool true) ∧ Below w.heap.size w w' := by
  have HD := Lib.hid (done_any w 7 v l (by omega) (by omega) hl)
  have hfr := Ek.dn_fr 7 l (min l.length 40)
  obtain ⟨a, cap, rfl, _, _⟩ := hl
  obtain ⟨N, hN⟩ : ∃ N, N = l.length := ⟨_, rfl⟩
  rw [← hN] at HD hfr h40 ⊢
  obtain ⟨d, hd⟩ : ∃ d, d = Ek.dn 7 l (min N 40) := ⟨_, rfl⟩
  rw [← hd] at HD hfr
  have HFR := Lib.hid hfr
  have hu : d.used ≤ 40 := by have := hfr.used; omega
  have d0 : decide ((40 : Int) < (N : Int)) = false := decide_eq_false (by omega)
  have hfl := Ek.fln_le m
  obtain ⟨fl, hfl2⟩ : ∃ fl, fl = Ek.fln m := ⟨_, rfl⟩
  rw [← hfl2] at hfl
  have HFL := Lib.hid hfl2
  clear hN hd hfr h40 _li _hi _lm _hm hfl2
  go_enter Try.func8, Try.ntmps8
  go_wp2_with fail
  refine HD.out.mono ?_
  rintro e w1 ⟨b, rfl, H1⟩
  clear HD
  have CA := Lib.hid (all_any H1 HFR.out.dark)
  have H1' := Lib.hid H1.ly
  clear H1
  go_wp2_with fail
  refine CA.out.mono ?_
  clear CA
  rintro e w2 ⟨s, g, rfl, hs, hg, hb2⟩
  rw [HFR.out.n] at hs
  have H2 := Lib.hid (H1'.out.add hb2 g hg (by obtain ⟨_, _, h, _⟩ := hs; exact h))
  obtain ⟨sc, hse, hsg, hsc⟩ := hs
  have HS : Hid (Strs w2 s (strsTo d 7) g) := ⟨sc, hse, hsg, hsc⟩
  rw [strsTo_length] at hse
  subst hse
  clear hb2 hg hsg hsc H1'
  have CL := lv_loose H2.out.lv
  go_wp2_with fail
  refine CL.mono ?_
  clear CL
  rintro e w' ⟨rfl, rfl⟩
  have CF := Lib.hid (ly_fuse H2.out 1 (by decide))
  go_wp2_with fail
  refine CF.out.mono ?_
  clear CF
  rintro e w3 ⟨rfl, H3, hk3⟩
  have HS3 := Lib.hid (HS.out.same (hk3 g (Or.inr rfl)))
  have H3' := Lib.hid H3
  clear H2 HS H3 hk3
  go_wp2_with fail
  refine (filled_len w3 1 fl m HFL.out).mono ?_
  rintro e w4 F
  have ef := F.1
  subst ef
  have HF := Lib.hid F
  clear F
  by_cases hbad : 0 ≤ i ∧ i < 7 ∧ fl = 512
  · have g1 : decide (0 ≤ i) = true := decide_eq_true hbad.1
    have g2 : decide (i < 7) = true := decide_eq_true hbad.2.1
    have g3 : ((fl : Int) == 512) = true := by simp; omega
    have HB4 := Lib.hid (H3'.out.later HF.out.2.2.1).below
    clear hbad HS3 H3' HF
    go_wp2_with fail
    refine (lives_is w4).mono ?_
    rintro e w5 ⟨rfl, hb5⟩
    have HB5 := Lib.hid (HB4.out.trans (hb5.mono HB4.out.size))
    clear hb5
    go_wp2_with fail
    go_ret
    exact ⟨rfl, HB5.out⟩
  · have hB : Ek.Bad (Ek.fuse d 1) i (Ek.fil 1 fl) := by
      unfold Ek.Bad
      rw [Ek.fil_length, show (Ek.fuse d 1).n = 7 from HFR.out.n]
      omega
    have CW := ly_filled_write H3'.out HF.out (by omega) i (show d.used < 1000000 by omega)
    rw [show Ek.write (Ek.fuse d 1) i (Ek.fil 1 fl) = Ek.fuse d 1 by unfold Ek.write; rw [if_pos hB], show Ek.writeE (Ek.fuse d 1) i (Ek.fil 1 fl) = 2 by unfold Ek.writeE; rw [if_pos hB]] at CW
    have CWH := Lib.hid CW
    have HS4 := Lib.hid (HS3.out.later HF.out.2.2.1)
    clear hB CW H3' HS3 HF
    have HREST := trivial
    by_cases hi0 : 0 ≤ i
    · have g1 : decide (0 ≤ i) = true := decide_eq_true hi0
      by_cases hi7 : i < 7
      · have g2 : decide (i < 7) = true := decide_eq_true hi7
        have g3 : ((fl : Int) == 512) = false := by simp; omega
        clear hbad HREST hi0 hi7
        go_wp2_with fail
        refine CWH.out.mono ?_
        clear CWH
        rintro e w5 ⟨rfl, H5, hk5⟩
        have HS5 := Lib.hid (HS4.out.same (hk5 g (Or.inr rfl)))
        have CL := lv_loose H5.lv
        rw [show (Ek.fuse d 1).loose.length = d.loose.length from rfl] at CL
        have H5' := Lib.hid H5
        clear HS4 H5 hk5
        go_wp2_with fail
        refine CL.mono ?_
        clear CL
        rintro e w' ⟨rfl, rfl⟩
        have CD := lv_dark H5'.out.lv
        rw [show (Ek.fuse d 1).dark = false from HFR.out.dark] at CD
        go_wp2_with fail
        refine CD.mono ?_
        clear CD
        rintro e w' ⟨rfl, rfl⟩
        have CA := Lib.hid (all_any H5'.out.lv (show (Ek.fuse d 1).dark = false from HFR.out.dark))
        go_wp2_with fail
        refine CA.out.mono ?_
        clear CA
        rintro e w6 ⟨s, g6, rfl, hs, hg, hb6⟩
        rw [show (Ek.fuse d 1).n = 7 from HFR.out.n, strsTo_fuse] at hs
        have HS6 := Lib.hid (HS5.out.later hb6)
        have H6 := Lib.hid (H5'.out.later hb6)
        obtain ⟨sc6, hse, hsg, hsc⟩ := hs
        have HT6 : Hid (Strs w6 s (strsTo d 7) g6) := ⟨sc6, hse, hsg, hsc⟩
        rw [strsTo_length] at hse
        subst hse
        clear hb6 hg hsg hsc H5' HS5
        go_wp2_with fail
        go_loopw [12] (fun s12 wr => ∃ k : Nat, s12 = .int .i64 (k : Int) ∧ k ≤ 7 ∧ Hid (∃ m, wr = w6.drewN m)) (fun s12 _ => 7 - (intOf s12).toNat)
        case atStart => exact ⟨0, by go_num, by omega, 0, rfl⟩
        case round =>
          obtain ⟨k, rfl, hk, KW⟩ := hrel
          by_cases hlt : k < 7
          · have j0 : decide ((k : Int) < 7) = true := decide_eq_true (by omega)
            have j1 : (0 : Int) ≤ (k : Int) := by omega
            have j2 : (k : Int) < 7 := by omega
            have x1 : wr.cell? ⟨g, k, none⟩ = some (.string (strB (Ek.now d k))) := by obtain ⟨q, hq⟩ := KW.out; rw [hq]; exact HS6.out.cell k hlt
            have x2 : wr.cell? ⟨g6, k, none⟩ = some (.string (strB (Ek.now d k))) := by obtain ⟨q, hq⟩ := KW.out; rw [hq]; exact HT6.out.cell k hlt
            have KW2 : Hid (∃ m, wr.drew = w6.drewN m) := by obtain ⟨q, hq⟩ := KW.out; exact ⟨q + 1, by rw [hq]; rfl⟩
            generalize strB (Ek.now d k) = S at x1 x2
            go_wp2
            go_region
            go_wp2
            go_round
            case rel => exact ⟨k + 1, by go_num, by omega, KW2⟩
            case measure => simp [intOf]; omega
          · obtain rfl : k = 7 := by omega
            have H7 : Hid (Ly w wr b (Ek.fuse d 1) (fun k => False ∨ k = g)) := by
              obtain ⟨q, hq⟩ := KW.out
              rw [hq]
              exact H6.out.later (below_drewN (Below.refl _ _) q)
            obtain ⟨hc1, hc2, hu1⟩ := fuse_one (d := d) HFR.out.dark
            have hu2 : (Ek.sync (Ek.fuse d 1)).used ≤ 1000 := by omega
            have CS := lv_sync H7.out.lv (show d.used ≤ 1000 by omega)
            rw [hc1] at CS
            have CSH := Lib.hid CS
            have HC2 := Lib.hid hc2
            have HU2 := Lib.hid hu2
            clear CS hc1 hc2 hu2 hu1
            go_wp2_with fail
            refine CSH.out.mono ?_
            clear CSH
            rintro e w8 ⟨rfl, H8⟩
            have CS := lv_sync H8 HU2.out
            rw [HC2.out] at CS
            clear H8
            go_wp2_with fail
            refine CS.mono ?_
            clear CS
            rintro e w9 ⟨rfl, H9⟩
            have HB9 := Lib.hid H9.below
            clear H9
            go_wp2_with fail
            refine (lives_is w9).mono ?_
            rintro e w10 ⟨rfl, hb10⟩
            have HB10 := Lib.hid (HB9.out.trans (hb10.mono HB9.out.size))
            clear hb10
            go_wp2_with fail
            go_ret
            exact ⟨rfl, HB10.out⟩
      · have g2 : decide (i < 7) = false := decide_eq_false hi7
        clear hbad HREST hi0 hi7
        go_wp2_with fail
        refine CWH.out.mono ?_
        clear CWH
        rintro e w5 ⟨rfl, H5, hk5⟩
        have HS5 := Lib.hid (HS4.out.same (hk5 g (Or.inr rfl)))
        have CL := lv_loose H5.lv
        rw [show (Ek.fuse d 1).loose.length = d.loose.length from rfl] at CL
        have H5' := Lib.hid H5
        clear HS4 H5 hk5
        go_wp2_with fail
        refine CL.mono ?_
        clear CL
        rintro e w' ⟨rfl, rfl⟩
        have CD := lv_dark H5'.out.lv
        rw [show (Ek.fuse d 1).dark = false from HFR.out.dark] at CD
        go_wp2_with fail
        refine CD.mono ?_
        clear CD
        rintro e w' ⟨rfl, rfl⟩
        have CA := Lib.hid (all_any H5'.out.lv (show (Ek.fuse d 1).dark = false from HFR.out.dark))
        go_wp2_with fail
        refine CA.out.mono ?_
        clear CA
        rintro e w6 ⟨s, g6, rfl, hs, hg, hb6⟩
        rw [show (Ek.fuse d 1).n = 7 from HFR.out.n, strsTo_fuse] at hs
        have HS6 := Lib.hid (HS5.out.later hb6)
        have H6 := Lib.hid (H5'.out.later hb6)
        obtain ⟨sc6, hse, hsg, hsc⟩ := hs
        have HT6 : Hid (Strs w6 s (strsTo d 7) g6) := ⟨sc6, hse, hsg, hsc⟩
        rw [strsTo_length] at hse
        subst hse
        clear hb6 hg hsg hsc H5' HS5
        go_wp2_with fail
        go_loopw [12] (fun s12 wr => ∃ k : Nat, s12 = .int .i64 (k : Int) ∧ k ≤ 7 ∧ Hid (∃ m, wr = w6.drewN m)) (fun s12 _ => 7 - (intOf s12).toNat)
        case atStart => exact ⟨0, by go_num, by omega, 0, rfl⟩
        case round =>
          obtain ⟨k, rfl, hk, KW⟩ := hrel
          by_cases hlt : k < 7
          · have j0 : decide ((k : Int) < 7) = true := decide_eq_true (by omega)
            have j1 : (0 : Int) ≤ (k : Int) := by omega
            have j2 : (k : Int) < 7 := by omega
            have x1 : wr.cell? ⟨g, k, none⟩ = some (.string (strB (Ek.now d k))) := by obtain ⟨q, hq⟩ := KW.out; rw [hq]; exact HS6.out.cell k hlt
            have x2 : wr.cell? ⟨g6, k, none⟩ = some (.string (strB (Ek.now d k))) := by obtain ⟨q, hq⟩ := KW.out; rw [hq]; exact HT6.out.cell k hlt
            have KW2 : Hid (∃ m, wr.drew = w6.drewN m) := by obtain ⟨q, hq⟩ := KW.out; exact ⟨q + 1, by rw [hq]; rfl⟩
            generalize strB (Ek.now d k) = S at x1 x2
            go_wp2
            go_region
            go_wp2
            go_round
            case rel => exact ⟨k + 1, by go_num, by omega, KW2⟩
            case measure => simp [intOf]; omega
          · obtain rfl : k = 7 := by omega
            have H7 : Hid (Ly w wr b (Ek.fuse d 1) (fun k => False ∨ k = g)) := by
              obtain ⟨q, hq⟩ := KW.out
              rw [hq]
              exact H6.out.later (below_drewN (Below.refl _ _) q)
            obtain ⟨hc1, hc2, hu1⟩ := fuse_one (d := d) HFR.out.dark
            have hu2 : (Ek.sync (Ek.fuse d 1)).used ≤ 1000 := by omega
            have CS := lv_sync H7.out.lv (show d.used ≤ 1000 by omega)
            rw [hc1] at CS
            have CSH := Lib.hid CS
            have HC2 := Lib.hid hc2
            have HU2 := Lib.hid hu2
            clear CS hc1 hc2 hu2 hu1
            go_wp2_with fail
            refine CSH.out.mono ?_
            clear CSH
            rintro e w8 ⟨rfl, H8⟩
            have CS := lv_sync H8 HU2.out
            rw [HC2.out] at CS
            clear H8
            go_wp2_with fail
            refine CS.mono ?_
            clear CS
            rintro e w9 ⟨rfl, H9⟩
            have HB9 := Lib.hid H9.below
            clear H9
            go_wp2_with fail
            refine (lives_is w9).mono ?_
            rintro e w10 ⟨rfl, hb10⟩
            have HB10 := Lib.hid (HB9.out.trans (hb10.mono HB9.out.size))
            clear hb10
            go_wp2_with fail
            go_ret
            exact ⟨rfl, HB10.out⟩
    · have g1 : decide (0 ≤ i) = false := decide_eq_false hi0
      clear hbad HREST hi0
      go_wp2_with fail
      refine CWH.out.mono ?_
      clear CWH
      rintro e w5 ⟨rfl, H5, hk5⟩
      have HS5 := Lib.hid (HS4.out.same (hk5 g (Or.inr rfl)))
      have CL := lv_loose H5.lv
      rw [show (Ek.fuse d 1).loose.length = d.loose.length from rfl] at CL
      have H5' := Lib.hid H5
      clear HS4 H5 hk5
      go_wp2_with fail
      refine CL.mono ?_
      clear CL
      rintro e w' ⟨rfl, rfl⟩
      have CD := lv_dark H5'.out.lv
      rw [show (Ek.fuse d 1).dark = false from HFR.out.dark] at CD
      go_wp2_with fail
      refine CD.mono ?_
      clear CD
      rintro e w' ⟨rfl, rfl⟩
      have CA := Lib.hid (all_any H5'.out.lv (show (Ek.fuse d 1).dark = false from HFR.out.dark))
      go_wp2_with fail
      refine CA.out.mono ?_
      clear CA
      rintro e w6 ⟨s, g6, rfl, hs, hg, hb6⟩
      rw [show (Ek.fuse d 1).n = 7 from HFR.out.n, strsTo_fuse] at hs
      have HS6 := Lib.hid (HS5.out.later hb6)
      have H6 := Lib.hid (H5'.out.later hb6)
      obtain ⟨sc6, hse, hsg, hsc⟩ := hs
      have HT6 : Hid (Strs w6 s (strsTo d 7) g6) := ⟨sc6, hse, hsg, hsc⟩
      rw [strsTo_length] at hse
      subst hse
      clear hb6 hg hsg hsc H5' HS5
      go_wp2_with fail
      go_loopw [12] (fun s12 wr => ∃ k : Nat, s12 = .int .i64 (k : Int) ∧ k ≤ 7 ∧ Hid (∃ m, wr = w6.drewN m)) (fun s12 _ => 7 - (intOf s12).toNat)
      case atStart => exact ⟨0, by go_num, by omega, 0, rfl⟩
      case round =>
        obtain ⟨k, rfl, hk, KW⟩ := hrel
        by_cases hlt : k < 7
        · have j0 : decide ((k : Int) < 7) = true := decide_eq_true (by omega)
          have j1 : (0 : Int) ≤ (k : Int) := by omega
          have j2 : (k : Int) < 7 := by omega
          have x1 : wr.cell? ⟨g, k, none⟩ = some (.string (strB (Ek.now d k))) := by obtain ⟨q, hq⟩ := KW.out; rw [hq]; exact HS6.out.cell k hlt
          have x2 : wr.cell? ⟨g6, k, none⟩ = some (.string (strB (Ek.now d k))) := by obtain ⟨q, hq⟩ := KW.out; rw [hq]; exact HT6.out.cell k hlt
          have KW2 : Hid (∃ m, wr.drew = w6.drewN m) := by obtain ⟨q, hq⟩ := KW.out; exact ⟨q + 1, by rw [hq]; rfl⟩
          generalize strB (Ek.now d k) = S at x1 x2
          go_wp2
          go_region
          go_wp2
          go_round
          case rel => exact ⟨k + 1, by go_num, by omega, KW2⟩
          case measure => simp [intOf]; omega
        · obtain rfl : k = 7 := by omega
          have H7 : Hid (Ly w wr b (Ek.fuse d 1) (fun k => False ∨ k = g)) := by
            obtain ⟨q, hq⟩ := KW.out
            rw [hq]
            exact H6.out.later (below_drewN (Below.refl _ _) q)
          obtain ⟨hc1, hc2, hu1⟩ := fuse_one (d := d) HFR.out.dark
          have hu2 : (Ek.sync (Ek.fuse d 1)).used ≤ 1000 := by omega
          have CS := lv_sync H7.out.lv (show d.used ≤ 1000 by omega)
          rw [hc1] at CS
          have CSH := Lib.hid CS
          have HC2 := Lib.hid hc2
          have HU2 := Lib.hid hu2
          clear CS hc1 hc2 hu2 hu1
          go_wp2_with fail
          refine CSH.out.mono ?_
          clear CSH
          rintro e w8 ⟨rfl, H8⟩
          have CS := lv_sync H8 HU2.out
          rw [HC2.out] at CS
          clear H8
          go_wp2_with fail
          refine CS.mono ?_
          clear CS
          rintro e w9 ⟨rfl, H9⟩
          have HB9 := Lib.hid H9.below
          clear H9
          go_wp2_with fail
          refine (lives_is w9).mono ?_
          rintro e w10 ⟨rfl, hb10⟩
          have HB10 := Lib.hid (HB9.out.trans (hb10.mono HB9.out.size))
          clear hb10
          go_wp2_with fail
          go_ret
          exact ⟨rfl, HB10.out⟩

set_option maxRecDepth 100000 in
set_option maxHeartbeats 2000000 in
theorem sectorRefuses_walk (v : Value) (l : List Ac) (i m : Int) (w : World) (hl : Acts w v l) (li : -9223372036854775808 ≤ i) (hi : i ≤ 9223372036854775807) (lm : -9223372036854775808 ≤ m) (hm : m ≤ 9223372036854775807) :
    Calls Try.prog 8 #[v, .int .i64 i, .int .i64 m] w fun e w' => e = .returned (.bool true) ∧ Below w.heap.size w w' := by
  by_cases h : l.length ≤ 40
  · exact refuses_main v l i m w li hi lm hm hl h
  · obtain ⟨a, cap, rfl, _, _⟩ := hl
    have d0 : decide ((40 : Int) < (l.length : Int)) = true := decide_eq_true (by omega)
    generalize l.length = N at d0
    clear h li hi lm hm
    go_enter Try.func8, Try.ntmps8
    go_wp2_with fail
    refine (lives_is w).mono ?_
    rintro e w5 ⟨rfl, hb5⟩
    go_wp2_with fail
    go_ret
    exact ⟨rfl, hb5⟩
set_option maxRecDepth 100000 in
theorem sectorRefuses_lifted (os : Os) (started : os.Started) (H : Type) (enc : TypeId × Value → H) :
    ReturnsInHanded {} Try.checked os 8 .any (Rows.sectorRefusesSpec.pre6 enc Try.prog Try.f8 Rows.sectorRefusesRow.domain false) (Rows.sectorRefusesSpec.post enc Try.prog Try.f8 false true false false) := by
  refine returnsInHanded_of_change_sized (C := Try.checked) Try.own started (by kernel_rfl) Try.func8
    (ChangeSpec.witness6 (enc := enc) (C := Try.checked) false ⟨#[], #[.slice none 0 0, .int .i64 0, .int .i64 0], []⟩ 8 (by kernel_rfl) (by kernel_rfl) (by kernel_rfl) (by kernel_rfl)) ?_
  intro W base args ds gs before hval0 hW _ hsz0 _
  have hval : ∀ (j : Nat) t v, Try.f8.params[j]? = some t → args[j]? = some v → Value.okWide Try.prog W .any base t v := hval0
  have hsz : (DataW.weightsEach Try.prog (Try.f8.params.toList ++ Rows.sectorRefusesSpec.plain.varTypes Try.prog) (ds ++ gs)).all (· ≤ reachBytes) = true := hsz0
  have hW' := hW
  obtain ⟨p, q, hA0, hV, rfl, hfz, hnd⟩ := hW
  have hA : DataW.TrodAll enc Try.prog W 0 (fun _ => true) true Try.f8.params.toList args.toList ds p := hA0
  rw [Try.params8] at hA hval hsz
  obtain ⟨v0, vs0, d0, ds0, p0, q0, hargs, rfl, rfl, h0, r0⟩ := trodAll_cons hA
  obtain ⟨v1, vs1, d1, ds1, p1, q1, rfl, rfl, rfl, h1, r1⟩ := trodAll_cons r0
  obtain ⟨v2, vs2, d2, ds2, p2, q2, rfl, rfl, rfl, h2, r2⟩ := trodAll_cons r1
  obtain ⟨rfl, rfl, rfl⟩ := trodAll_nil r2
  obtain rfl : args = #[v0, v1, v2] := by cases args; simp_all
  obtain ⟨rfl, rfl⟩ := trodVars_none hV
  have k0 := h0
  have lt0 : ∀ x ∈ p0, x.block < W.heap.size := by obtain ⟨m, hm⟩ := k0; exact DataW.trod_lt m _ _ _ hm
  obtain ⟨as0, al0⟩ := acts_open (hval 0 22 v0 rfl rfl) h0
  have k1 := h1
  have lt1 : ∀ x ∈ p1, x.block < W.heap.size := by obtain ⟨m, hm⟩ := k1; exact DataW.trod_lt m _ _ _ hm
  obtain ⟨n1, ev1, _, _, wn1⟩ := open_int Try.underlying3 (hval 1 3 v1 rfl rfl) h1
  subst ev1
  obtain ⟨lo1, hi1⟩ := wf_bounds wn1
  have k2 := h2
  have lt2 : ∀ x ∈ p2, x.block < W.heap.size := by obtain ⟨m, hm⟩ := k2; exact DataW.trod_lt m _ _ _ hm
  obtain ⟨n2, ev2, _, _, wn2⟩ := open_int Try.underlying3 (hval 2 3 v2 rfl rfl) h2
  subst ev2
  obtain ⟨lo2, hi2⟩ := wf_bounds wn2
  clear hA0 hval0 hsz0
  refine (sectorRefuses_walk v0 as0 n1 n2 W al0 lo1 hi1 lo2 hi2).mono fun e W' ⟨he, bel⟩ => ?_
  subst he
  exact ⟨_, rfl, _, _, _, [], _, [], hW', trodAll_mk1 (shut_bool Try.underlying4 _), (trodAll_cons_mk (Below.trod Try.laidOut (by kernel_rfl) (of_decide_eq_true (by kernel_rfl)) k0 bel lt0) (trodAll_cons_mk (Below.trod Try.laidOut (by kernel_rfl) (of_decide_eq_true (by kernel_rfl)) k1 bel lt1) (trodAll_cons_mk (Below.trod Try.laidOut (by kernel_rfl) (of_decide_eq_true (by kernel_rfl)) k2 bel lt2) trodAll_mk0))), rfl, bel.frame _, fun h => by cases h⟩

theorem sectorRefuses_proved : Rows.SectorRefusesSaid :=
  OpenClaim.holds_of_wide 8 Try.f8 rfl rfl rfl rfl rfl rfl rfl ⟨rfl, rfl, rfl, rfl, rfl⟩ rfl rfl rfl rfl rfl (by kernel_rfl) Try.func8 (by kernel_rfl)
    (of_decide_eq_true (by kernel_rfl)) (by unfold Func.isWrapper; rw [if_neg (of_decide_eq_false (by kernel_rfl))]; exact ⟨rfl, rfl⟩)
    (fun os started H enc _ => sectorRefuses_lifted os started H enc)
end Go.Proofs.Ytdjgjijhokhahaa
