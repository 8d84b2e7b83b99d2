/- InflateCodes, walked. -/
import Derived.Test.YtnjlljdbghcobaaGreatDoorIcdw
import Derived.Test.YtnjlljdbghcobaaGreatDoorQtail
import Derived.Test.YtnjlljdbghcobaaGreatDoorIstow
import Derived.Test.YtnjlljdbghcobaaGreatDoorHcoded
import Derived.Deep.CutBlock

namespace Go.Proofs.YtnjlljdbghcobaaGreatDoor
set_option maxRecDepth 100000
open Go.RowKit

set_option maxHeartbeats 8000000 in
theorem codes_beyond (a : Option Addr) (len cap : Nat) (a2 : Option Addr) (len2 cap2 : Nat) (w : World) (hg : GG w) (h : 256 < len ∨ 300 < len2) :
    Calls Tryz.prog 5 #[.slice a len cap, .slice a2 len2 cap2] w fun e w' => e = .returned (.bool true) ∧ Below w.heap.size w w' := by
  have HL := Lib.hid (tail_lives (Below.refl w.heap.size w) hg)
  clear hg
  by_cases h1 : 256 < len
  · have d1 : decide ((256 : Int) < (len : Int)) = true := by simp; omega
    have d1' : decide (256 < len) = true := by simp; omega
    clear h
    go_enter Tryz.func5, Tryz.ntmps5
    go_wp2_with fail
    refine HL.out.mono ?_
    rintro e w' ⟨rfl, hb⟩
    have HB := Lib.hid hb
    clear hb HL
    go_wp2
    go_ret
    exact ⟨rfl, HB.out⟩
  · have d1 : decide ((256 : Int) < (len : Int)) = false := by simp; omega
    have d1' : decide (256 < len) = false := by simp; omega
    have d2 : decide ((300 : Int) < (len2 : Int)) = true := by simp; omega
    have d2' : decide (300 < len2) = true := by simp; omega
    clear h
    go_enter Tryz.func5, Tryz.ntmps5
    go_wp2_with fail
    refine HL.out.mono ?_
    rintro e w' ⟨rfl, hb⟩
    have HB := Lib.hid hb
    clear hb HL
    go_wp2
    go_ret
    exact ⟨rfl, HB.out⟩

set_option maxRecDepth 100000 in
set_option maxHeartbeats 16000000 in
theorem codes_in' (a : Option Addr) (len cap : Nat) (zs : List Int) (a2 : Option Addr) (len2 cap2 : Nat) (ys : List Int) (w : World) (hz : Zl w (.slice a len cap) zs) (hy : Zl w (.slice a2 len2 cap2) ys) (hg : GG w) (h1 : len ≤ 256) (h2 : len2 ≤ 300) (hlz : Hid (len = zs.length)) (hly : Hid (len2 = ys.length)) :
    Calls Tryz.prog 5 #[.slice a len cap, .slice a2 len2 cap2] w fun e w' => e = .returned (.bool true) ∧ Below w.heap.size w w' := by
  have HZ := Lib.hid hz
  have HY := Lib.hid hy
  have HG := Lib.hid hg
  have d1 : decide ((256 : Int) < (len : Int)) = false := by simp; omega
  have d1' : decide (256 < len) = false := by simp; omega
  have d2 : decide ((300 : Int) < (len2 : Int)) = false := by simp; omega
  have d2' : decide (300 < len2) = false := by simp; omega
  have hm1 : ∀ w, (Instr.makeSlice 33 (.int .i64 257) (.int .i64 257)).run Tryz.prog w = .ok (.slice (some ⟨w.heap.size, 0, none⟩) 257 257) (w.alloc (.cells (madeCells #[.int .i64 0] 257) 3)) :=
    fun w => run_make_row' (P := Tryz.prog) 33 3 (.int .i64 0) 8 Tryz.underlying33 Tryz.infoInt rfl .i64 .i64 257 (by decide) (by decide) w
  have hm2 : ∀ w, (Instr.makeSlice 33 (.int .i64 19) (.int .i64 19)).run Tryz.prog w = .ok (.slice (some ⟨w.heap.size, 0, none⟩) 19 19) (w.alloc (.cells (madeCells #[.int .i64 0] 19) 3)) :=
    fun w => run_make_row' (P := Tryz.prog) 33 3 (.int .i64 0) 8 Tryz.underlying33 Tryz.infoInt rfl .i64 .i64 19 (by decide) (by decide) w
  have RZ0 := Lib.hid (madeRz w 257)
  have hb1 := below1 w (.cells (madeCells #[.int .i64 0] 257) 3)
  have hlt1 : w.heap.size < (w.alloc (.cells (madeCells #[.int .i64 0] 257) 3)).heap.size := by simp
  obtain ⟨W1, hW1⟩ : ∃ W1, w.alloc (.cells (madeCells #[.int .i64 0] 257) 3) = W1 := ⟨_, rfl⟩
  rw [hW1] at RZ0 hb1 hlt1
  have HB1 := Lib.hid hb1
  clear hz hy hg hb1
  go_enter Tryz.func5, Tryz.ntmps5
  go_wp2_with fail
  try rw [hW1]
  clear hW1 hm1
  go_loopw [6] (fun s6 wr => ∃ i : Nat, i ≤ len ∧ s6 = .int .i64 (i : Int) ∧ Hid (∀ j, j < i → 0 ≤ zs[j]?.getD 0 ∧ zs[j]?.getD 0 ≤ 14) ∧ Hid (Rz wr w.heap.size 257 (dl zs i)) ∧ Hid (Below w.heap.size w wr)) (fun s _ => len - (intOf s).toNat)
  case atStart => exact ⟨0, Nat.zero_le _, rfl, (fun j hj => absurd hj (Nat.not_lt_zero _) : ∀ j, j < 0 → _), RZ0.out.congr (fun i _ => by unfold dl; rw [if_neg (fun h => by omega)]), HB1.out⟩
  case round =>
    obtain ⟨i, hi, rfl, K14, KR, KB⟩ := hrel
    by_cases hlt : i < len
    · obtain ⟨b0, off0, rfl, hb0, hq, hc⟩ := zl_cell HZ.out i (by have := hlz.out; omega)
      have hc1 := (KB.out.cell (p := ⟨b0, off0 + i, none⟩) hb0).trans hc
      obtain ⟨z, hz⟩ : ∃ z, z = zs[i]?.getD 0 := ⟨_, rfl⟩
      rw [← hz] at hc1
      have HZI := Lib.hid hz
      have hgl := KR.out.lt
      have hne : b0 ≠ w.heap.size := by omega
      clear hq hc hb0 hz
      by_cases hz14 : 0 ≤ z ∧ z ≤ 14
      · obtain ⟨x, rfl⟩ : ∃ x : Nat, z = (x : Int) := ⟨z.toNat, by omega⟩
        have hx14 : x ≤ 14 := by omega
        have e1 : decide ((x : Int) < 0) = false := by simp
        have e2 : decide ((14 : Int) < (x : Int)) = false := by simp; omega
        have e2' : decide (14 < x) = false := by simp; omega
        have N14 : Hid (∀ j, j < i + 1 → 0 ≤ zs[j]?.getD 0 ∧ zs[j]?.getD 0 ≤ 14) := fun j hj => by
          by_cases h : j < i
          · exact K14.out j h
          · obtain rfl : j = i := by omega
            rw [← HZI.out]; exact hz14
        clear hz14
        by_cases h0 : 0 < x
        · have e3 : decide ((0 : Int) < (x : Int)) = true := by simp; omega
          have e3' : decide (0 < x) = true := by simp; omega
          have f1 := KR.out.free i
          have f0 := KR.out.cell i (by omega)
          have NR := Lib.hid ((KR.out.set i (x + 1) (by omega)).congr (e := dl zs (i + 1)) (fun j _ => by rw [dl_succ zs i x HZI.out.symm, if_pos h0]))
          have NB' := Lib.hid (KB.out.setCell (p := ⟨w.heap.size, i, none⟩) (Nat.le_refl _) (.int .i64 ((x + 1 : Nat) : Int)))
          clear KR KB K14
          go_wp2_with fail
          go_roundw
          case rel => exact ⟨i + 1, by omega, by go_num, N14, NR, NB'⟩
          case measure => simp [intOf]; omega
        · have e3 : decide ((0 : Int) < (x : Int)) = false := by simp; omega
          have e3' : decide (0 < x) = false := by simp; omega
          have NR := Lib.hid (KR.out.congr (e := dl zs (i + 1)) (fun j _ => by
            rw [dl_succ zs i x HZI.out.symm, if_neg h0]
            by_cases e : j = i
            · subst e; rw [if_pos rfl, dl_self]
            · rw [if_neg e]))
          clear KR K14
          go_wp2_with fail
          go_roundw
          case rel => exact ⟨i + 1, by omega, by go_num, N14, NR, KB⟩
          case measure => simp [intOf]; omega
      · have HL := Lib.hid (tail_lives KB.out HG.out)
        by_cases hz0 : z < 0
        · have e1 : decide (z < 0) = true := by simpa using hz0
          clear hz14 hz0
          go_wp2_with fail
          refine HL.out.mono ?_
          rintro e w' ⟨rfl, hb⟩
          have HB := Lib.hid hb
          clear hb HL
          go_wp2
          go_ret
          exact ⟨rfl, HB.out⟩
        · have e1 : decide (z < 0) = false := by simp; omega
          have e2 : decide (14 < z) = true := by simp; omega
          clear hz14 hz0
          go_wp2_with fail
          refine HL.out.mono ?_
          rintro e w' ⟨rfl, hb⟩
          have HB := Lib.hid hb
          clear hb HL
          go_wp2
          go_ret
          exact ⟨rfl, HB.out⟩
    · obtain rfl : i = len := by omega
      have f0 := KR.out.cell 256 (by omega)
      have f1 := KR.out.free 256
      have NR := Lib.hid ((KR.out.set 256 1 (by omega)).congr (e := dL zs) (fun j _ => by unfold dL; rw [hlz.out]))
      have NB' := Lib.hid (KB.out.setCell (p := ⟨w.heap.size, 256, none⟩) (Nat.le_refl _) (.int .i64 ((1 : Nat) : Int)))
      have N14 := K14
      clear KR KB K14 hlt
      obtain ⟨W2, hW2⟩ : ∃ W2, wr.setCell ⟨w.heap.size, 256, none⟩ (.int .i64 1) = W2 := ⟨_, rfl⟩
      have hW2' : wr.setCell ⟨w.heap.size, 256, none⟩ (.int .i64 ((1 : Nat) : Int)) = W2 := hW2
      rw [hW2'] at NR NB'
      have HC := Lib.hid (rcheck_any _ _ W2 (zl_of_rz NR.out (by decide)))
      rw [show (List.range 257).map (dL zs) = cL zs from rfl] at HC
      clear hW2'
      obtain ⟨c, hc⟩ : ∃ c, c = chk (Hd.zz (cL zs)) := ⟨_, rfl⟩
      rw [← hc] at HC
      have HCH := Lib.hid (fun _ : Unit => hc)
      clear hc
      go_wp2_with fail
      try rw [hW2]
      clear hW2 f0 f1
      refine HC.out.mono ?_
      clear HC
      rintro e w2 ⟨rfl, rfl⟩
      by_cases hc0 : c = 0
      · subst hc0
        have hl14 : ∀ x ∈ cL zs, x < 16 := cL_lt zs (fun j hj => N14.out j (by rw [hlz.out]; exact hj))
        have hnew : newE (Hd.zz (cL zs)) = 0 := by unfold newE; rw [if_neg (by rintro ⟨h, _⟩; have := HCH.out (); omega)]; exact (HCH.out ()).symm
        have h256 : Hf.ln (cL zs) 256 = 1 := cL_ln zs 256 (by decide)
        have HL16 := Lib.hid hl14
        have HNEW := Lib.hid (fun _ : Unit => hnew)
        have H256 := Lib.hid h256
        have hsz2 : w.heap.size < W2.heap.size := NR.out.lt
        have hbB := below1 W2 (.cells #[.slice none 0 0, .int .i64 0] 36)
        have R0 : Rst w (W2.alloc (.cells #[.slice none 0 0, .int .i64 0] 36)) w.heap.size W2.heap.size none 0 0 0 [] := ⟨Has.new W2 _, ⟨rfl, Or.inl ⟨rfl, rfl⟩⟩, NB'.out.trans (hbB.mono NB'.out.size), rfl, NB'.out.size⟩
        have RR0 := Lib.hid R0
        have Z0 := Lib.hid (NR.out.later hbB)
        clear hbB R0 NR NB' N14 HCH hl14 hnew h256 RZ0 HB1 hlt1 h1 hi
        go_wp2_with fail
        refine (show Calls Tryz.prog 19 #[_, .int .i64 1, .int .i64 1] (W2.alloc (.cells #[.slice none 0 0, .int .i64 0] 36)) _ from lay_call RR0.out (by decide) 1 1 (by decide) 1 rfl).mono ?_
        rintro e w4 ⟨b1, m1, c1, rfl, hx4, hr4, hk4⟩
        obtain ⟨q0, q1, q2, q3⟩ := hx4.two
        have RR1 := Lib.hid hr4
        have Z1 := Lib.hid (hk4.rz Z0.out (by omega))
        obtain ⟨V1, hV1⟩ : ∃ V, (w4.setCell ⟨W2.heap.size, 0, none⟩ (.slice b1 m1 c1)).setCell ⟨W2.heap.size, 1, none⟩ (.int .i64 ((1 : Nat) : Int)) = V := ⟨_, rfl⟩
        rw [hV1] at RR1 Z1
        have hV1' : (w4.setCell ⟨W2.heap.size, 0, none⟩ (.slice b1 m1 c1)).setCell ⟨W2.heap.size, 1, none⟩ (.int .i64 1) = V1 := hV1
        obtain ⟨p0, p1, p2, p3⟩ := RR1.out.x.two
        clear hx4 hr4 hk4 RR0 Z0 hV1
        go_wp2_with fail
        try rw [hV1']
        clear hV1' q0 q1 q2 q3 p0 p1 p2 p3
        refine (show Calls Tryz.prog 19 #[_, .int .i64 2, .int .i64 2] V1 _ from lay_call RR1.out (by decide) 2 2 (by decide) 3 rfl).mono ?_
        rintro e w4 ⟨b2, m2, c2, rfl, hx4, hr4, hk4⟩
        obtain ⟨q0, q1, q2, q3⟩ := hx4.two
        have RR2 := Lib.hid hr4
        have Z2 := Lib.hid (hk4.rz Z1.out (by omega))
        obtain ⟨V2, hV2⟩ : ∃ V, (w4.setCell ⟨W2.heap.size, 0, none⟩ (.slice b2 m2 c2)).setCell ⟨W2.heap.size, 1, none⟩ (.int .i64 ((3 : Nat) : Int)) = V := ⟨_, rfl⟩
        rw [hV2] at RR2 Z2
        have hV2' : (w4.setCell ⟨W2.heap.size, 0, none⟩ (.slice b2 m2 c2)).setCell ⟨W2.heap.size, 1, none⟩ (.int .i64 3) = V2 := hV2
        obtain ⟨p0, p1, p2, p3⟩ := RR2.out.x.two
        clear hx4 hr4 hk4 RR1 Z1 hV2
        go_wp2_with fail
        try rw [hV2']
        clear hV2' q0 q1 q2 q3 p0 p1 p2 p3
        refine (show Calls Tryz.prog 19 #[_, .int .i64 0, .int .i64 10] V2 _ from lay_call RR2.out (by decide) 0 10 (by decide) 13 rfl).mono ?_
        rintro e w4 ⟨b3, m3, c3, rfl, hx4, hr4, hk4⟩
        obtain ⟨q0, q1, q2, q3⟩ := hx4.two
        have RR3 := Lib.hid hr4
        have Z3 := Lib.hid (hk4.rz Z2.out (by omega))
        obtain ⟨V3, hV3⟩ : ∃ V, (w4.setCell ⟨W2.heap.size, 0, none⟩ (.slice b3 m3 c3)).setCell ⟨W2.heap.size, 1, none⟩ (.int .i64 ((13 : Nat) : Int)) = V := ⟨_, rfl⟩
        rw [hV3] at RR3 Z3
        have hV3' : (w4.setCell ⟨W2.heap.size, 0, none⟩ (.slice b3 m3 c3)).setCell ⟨W2.heap.size, 1, none⟩ (.int .i64 13) = V3 := hV3
        obtain ⟨p0, p1, p2, p3⟩ := RR3.out.x.two
        clear hx4 hr4 hk4 RR2 Z2 hV3
        go_wp2_with fail
        try rw [hV3']
        clear hV3' q0 q1 q2 q3 p0 p1 p2 p3
        refine (show Calls Tryz.prog 19 #[_, .int .i64 15, .int .i64 4] V3 _ from lay_call RR3.out (by decide) 15 4 (by decide) 17 rfl).mono ?_
        rintro e w4 ⟨b4, m4, c4, rfl, hx4, hr4, hk4⟩
        obtain ⟨q0, q1, q2, q3⟩ := hx4.two
        have RR4 := Lib.hid hr4
        have Z4 := Lib.hid (hk4.rz Z3.out (by omega))
        obtain ⟨V4, hV4⟩ : ∃ V, (w4.setCell ⟨W2.heap.size, 0, none⟩ (.slice b4 m4 c4)).setCell ⟨W2.heap.size, 1, none⟩ (.int .i64 ((17 : Nat) : Int)) = V := ⟨_, rfl⟩
        rw [hV4] at RR4 Z4
        have hV4' : (w4.setCell ⟨W2.heap.size, 0, none⟩ (.slice b4 m4 c4)).setCell ⟨W2.heap.size, 1, none⟩ (.int .i64 17) = V4 := hV4
        obtain ⟨p0, p1, p2, p3⟩ := RR4.out.x.two
        clear hx4 hr4 hk4 RR3 Z3 hV4
        go_wp2_with fail
        try rw [hV4']
        have hbb := below2 V4 ordObj (.cells (madeCells #[.int .i64 0] 19) 3)
        have M0 : Mm w ((V4.alloc ordObj).alloc (.cells (madeCells #[.int .i64 0] 19) 3)) W2.heap.size V4.heap.size b4 m4 c4 17 ([] ++ Bs.bitsOf 1 1 ++ Bs.bitsOf 2 2 ++ Bs.bitsOf 0 10 ++ Bs.bitsOf 15 4) (dL zs) (fun _ => 0) :=
          ⟨RR4.out.later hbb, Z4.out.later hbb, by have := madeRz (V4.alloc ordObj) 19; simpa using this, (Has.new V4 _).alloc _, hsz2, RR4.out.x.lt⟩
        have HM0 := Lib.hid M0
        obtain ⟨W5, hW5⟩ : ∃ W5, (V4.alloc ordObj).alloc (.cells (madeCells #[.int .i64 0] 19) 3) = W5 := ⟨_, rfl⟩
        rw [hW5] at HM0
        try rw [hW5]
        clear hbb M0 hW5 hV4' q0 q1 q2 q3 p0 p1 p2 p3 RR4 Z4 hm2
        generalize V4.heap.size = o at *
        generalize W2.heap.size = bB at *
        go_loopw [10] (fun s10 wr => ∃ j : Nat, j ≤ 16 ∧ s10 = .int .i64 (j : Int) ∧ Hid (Mm w wr bB o b4 m4 c4 17 ([] ++ Bs.bitsOf 1 1 ++ Bs.bitsOf 2 2 ++ Bs.bitsOf 0 10 ++ Bs.bitsOf 15 4) (dL zs) (fun t => if t < j then 4 else 0))) (fun s _ => 16 - (intOf s).toNat)
        case atStart => exact ⟨0, by omega, rfl, HM0.out⟩
        case round =>
          obtain ⟨j, hj, rfl, KM⟩ := hrel
          by_cases hlt : j < 16
          · have f0 := KM.out.r.cell j (by omega)
            have f1 := KM.out.r.free j
            have e1 : decide ((j : Int) < 16) = true := by simp; omega
            have NM := Lib.hid (KM.out.setRun j 4 (by omega) (fun t => if t < j + 1 then 4 else 0) (fun i _ => by
              by_cases h : i = j
              · subst h; rw [if_pos rfl, if_pos (by omega)]
              · rw [if_neg h]
                by_cases h2 : i < j
                · rw [if_pos h2, if_pos (by omega)]
                · rw [if_neg h2, if_neg (by omega)]))
            clear KM HM0
            go_wp2_with fail
            go_roundw
            case rel => exact ⟨j + 1, by omega, by go_num, NM⟩
            case measure => simp [intOf]; omega
          · obtain rfl : j = 16 := by omega
            have hd : (fun t => if t < 16 then 4 else 0) = d16 := rfl
            rw [hd] at KM
            clear hd HM0 hlt hj
            obtain ⟨l0, hl0⟩ : ∃ l0, l0 = [] ++ Bs.bitsOf 1 1 ++ Bs.bitsOf 2 2 ++ Bs.bitsOf 0 10 ++ Bs.bitsOf 15 4 := ⟨_, rfl⟩
            rw [← hl0] at KM
            have HL0 := Lib.hid hl0
            clear hl0
            go_wp2_with fail
            go_loopw [11] (fun s11 wr => ∃ (k : Nat) (a : Option Addr) (m c N : Nat), k ≤ 19 ∧ s11 = .int .i64 (k : Int) ∧ N = 17 + 3 * k ∧ Hid (Mm w wr bB o a m c N (l0 ++ If.clRow If.C16 k) (dL zs) d16)) (fun s _ => 19 - (intOf s).toNat)
            case atStart => exact ⟨0, b4, m4, c4, 17, by omega, rfl, rfl, by show Mm _ _ _ _ _ _ _ _ _ _ _; rw [show l0 ++ If.clRow If.C16 0 = l0 by simp [If.clRow]]; exact KM.out⟩
            case round =>
              obtain ⟨k, a5, m5, c5, N, hk, rfl, hN, KK⟩ := hrel
              by_cases hlt : k < 19
              · obtain ⟨q0, q1, q2, q3⟩ := KK.out.s.x.two
                obtain ⟨x, hx⟩ : ∃ x, x = Hd.ord k := ⟨_, rfl⟩
                have hx19 : x < 19 := by rw [hx]; exact Hd.ord_lt k
                have oc := ord_cell KK.out.od k hlt
                rw [← hx] at oc
                have rc := KK.out.r.cell x hx19
                obtain ⟨v, hv⟩ : ∃ v, v = d16 x := ⟨_, rfl⟩
                rw [← hv] at rc
                have hvl : Hf.ln If.C16 (Hd.ord k) = v := by
                  rw [← hx, hv, ← C16_is]
                  unfold Hf.ln
                  simp [hx19]
                have HVL := Lib.hid hvl
                obtain ⟨M, hM⟩ : ∃ M, M = N + 3 := ⟨_, rfl⟩
                have HW := Lib.hid (lay_call KK.out.drew.s (by omega) v 3 (by decide) M hM)
                have HK := Lib.hid KK.out.drew
                have HNN : Hid (N = 17 + 3 * k) := hN
                have HMM : Hid (M = N + 3) := hM
                clear hx hv hvl KK hN hM
                have j1 : (0 : Int) ≤ (k : Int) := by omega
                have j2 : (k : Int) < 19 := by omega
                have j3 : (0 : Int) ≤ (x : Int) := by omega
                have j4 : (x : Int) < 19 := by omega
                go_wp2_with fail
                refine region_qtail 8 (by kernel_rfl) (by kernel_rfl) fun W hW => ?_
                have q0' : W.cell? ⟨bB, 0, none⟩ = some (.slice a5 m5 c5) := by rw [hW]; exact q0
                have q1' : W.cell? ⟨bB, 1, none⟩ = some (.int .i64 (N : Int)) := by rw [hW]; exact q1
                have oc' : W.cell? ⟨o, k, none⟩ = some (.int .i64 (x : Int)) := by rw [hW]; exact oc
                have rc' : W.cell? ⟨o + 1, x, none⟩ = some (.int .i64 (v : Int)) := by rw [hW]; exact rc
                rw [← hW] at HW HK
                clear hW q0 q1 q2 q3 oc rc
                simp only [List.take_succ_cons, List.take_zero, List.drop_succ_cons, List.drop_zero]
                iterate 8 (go_big_quiet_step (fail))
                refine wpQuiet_nil ?_
                go_wp2_with fail
                refine HW.out.mono ?_
                rintro e w4 ⟨a', m', c', rfl, hn⟩
                have NMM := Lib.hid (HK.out.next hn)
                obtain ⟨g0, g1, g2, g3⟩ := hn.1.two
                clear hn HW HK
                go_wp2_with fail
                go_roundw
                have NM2 : Hid (Mm w ((w4.setCell ⟨bB, 0, none⟩ (.slice a' m' c')).setCell ⟨bB, 1, none⟩ (.int .i64 (M : Int))) bB o a' m' c' M (l0 ++ If.clRow If.C16 (k + 1)) (dL zs) d16) := by
                  show Mm _ _ _ _ _ _ _ _ _ _ _
                  rw [show l0 ++ If.clRow If.C16 (k + 1) = l0 ++ If.clRow If.C16 k ++ Bs.bitsOf v 3 by simp only [If.clRow]; rw [HVL.out, List.append_assoc]]
                  exact NMM.out
                case rel =>
                  (repeat apply Exists.intro)
                  exact ⟨⟨k + 1, a', m', c', M, by omega, by go_num, by have := HNN.out; have := HMM.out; omega, NM2⟩, rfl⟩
                case measure => simp [intOf]; omega
              · obtain rfl : k = 19 := by omega
                have HNN : Hid (N = 74) := hN
                obtain ⟨l1, hl1⟩ : ∃ l1, l1 = l0 ++ If.clRow If.C16 19 := ⟨_, rfl⟩
                rw [← hl1] at KK
                have HL1 := Lib.hid hl1
                clear hl1 hN hlt hk KM
                obtain ⟨L, hL⟩ : ∃ L, L = cL zs := ⟨_, rfl⟩
                have HLL := Lib.hid hL
                rw [← hL] at HL16 HNEW H256
                clear hL
                have HLN : Hid (∀ q, q < 257 → Hf.ln L q = dL zs q ∧ dL zs q < 16) := fun q hq => by
                  have h1 := cL_ln zs q hq
                  rw [← HLL.out] at h1
                  refine ⟨h1, ?_⟩
                  rw [← h1]
                  unfold Hf.ln
                  have h2 : L.length = 257 := by rw [HLL.out]; exact cL_length zs
                  rw [List.getElem?_eq_getElem (by omega)]
                  exact HL16.out _ (List.getElem_mem _)
                go_wp2_with fail
                go_loopw [12] (fun s12 wr => ∃ (k : Nat) (a : Option Addr) (m c N : Nat), k ≤ 257 ∧ s12 = .int .i64 (k : Int) ∧ Hid (N = 74 + 4 * k) ∧ Hid (Mm w wr bB o a m c N (l1 ++ rowOf If.C16 (L.take k)) (dL zs) d16)) (fun s _ => 257 - (intOf s).toNat)
                case atStart => exact ⟨0, a5, m5, c5, N, by omega, rfl, HNN.out, by show Mm _ _ _ _ _ _ _ _ _ _ _; rw [show l1 ++ rowOf If.C16 (L.take 0) = l1 by simp [rowOf]]; exact KK.out⟩
                case round =>
                  obtain ⟨k, a6, m6, c6, N, hk, rfl, HN6, K6⟩ := hrel
                  by_cases hlt : k < 257
                  · obtain ⟨q0, q1, q2, q3⟩ := K6.out.s.x.two
                    obtain ⟨x, hx⟩ : ∃ x, x = dL zs k := ⟨_, rfl⟩
                    have hx16 : x < 16 := by rw [hx]; exact (HLN.out k hlt).2
                    have rc := K6.out.z.cell k hlt
                    rw [← hx] at rc
                    have HX : Hid (L[k]? = some x) := by
                      show _ = _
                      have h2 : L.length = 257 := by rw [HLL.out]; exact cL_length zs
                      have h1 := (HLN.out k hlt).1
                      rw [← hx] at h1
                      unfold Hf.ln at h1
                      rw [List.getElem?_eq_getElem (by omega)] at h1 ⊢
                      exact congrArg some h1
                    obtain ⟨M, hM⟩ : ∃ M, M = N + 4 := ⟨_, rfl⟩
                    have HMM : Hid (M = N + 4) := hM
                    have hzr := zl_of_rz K6.out.drew.r (by decide)
                    rw [C16_is] at hzr
                    have HW := Lib.hid (put_call K6.out.drew.s (by have := HN6.out; omega) If.C16 _ hzr x (If.fit_of_newE If.C16_new) (by rw [If.ln_C16 x hx16]; decide) M (by rw [If.ln_C16 x hx16]; exact hM))
                    have HK := Lib.hid K6.out.drew
                    clear hx hM hzr K6
                    have j1 : (0 : Int) ≤ (k : Int) := by omega
                    have j2 : (k : Int) < 257 := by omega
                    go_wp2_with fail
                    go_region_with (go_at_call 20; refine HW.out.mono ?_; rintro e w4 ⟨a', m', c', rfl, hn⟩; have NMM := Lib.hid (HK.out.next hn); obtain ⟨g0, g1, g2, g3⟩ := hn.1.two; clear hn)
                    all_goals
                      go_wp2
                      refine ⟨?_, ?_⟩
                      · (repeat apply Exists.intro)
                        refine ⟨⟨k + 1, a', m', c', M, by omega, by go_num, ?_, ?_⟩, rfl⟩
                        · have := HN6.out; have := HMM.out; show _ = _; omega
                        · show Mm _ _ _ _ _ _ _ _ _ _ _
                          rw [show l1 ++ rowOf If.C16 (L.take (k + 1)) = l1 ++ rowOf If.C16 (L.take k) ++ cw If.C16 x by rw [List.take_add_one, HX.out, Option.toList, rowOf_snoc, List.append_assoc]]
                          exact NMM.out
                      · simp [intOf]; omega
                  · obtain rfl : k = 257 := by omega
                    have htk : L.take 257 = L := List.take_of_length_le (by have h2 : L.length = 257 := by rw [HLL.out]; exact cL_length zs
                                                                            omega)
                    rw [htk] at K6
                    clear htk hk hlt
                    obtain ⟨q0, q1, q2, q3⟩ := K6.out.s.x.two
                    obtain ⟨M, hM⟩ : ∃ M, M = N + 4 := ⟨_, rfl⟩
                    have HMM : Hid (M = N + 4) := hM
                    have hzr := zl_of_rz K6.out.r (by decide)
                    rw [C16_is] at hzr
                    have HW := Lib.hid (put_call K6.out.s (by have := HN6.out; omega) If.C16 _ hzr 0 (If.fit_of_newE If.C16_new) (by decide) M (by rw [If.ln_C16 0 (by decide)]; exact hM))
                    clear hM hzr
                    go_wp2_with fail
                    refine (show Calls Tryz.prog 20 #[_, _, .int .i64 0] _ _ from HW.out).mono ?_
                    rintro e w4 ⟨b7, m7, c7, rfl, hn⟩
                    obtain ⟨l3, hl3⟩ : ∃ l3, l3 = l1 ++ rowOf If.C16 L ++ cw If.C16 0 := ⟨_, rfl⟩
                    rw [← hl3] at hn
                    have HL3 := Lib.hid hl3
                    have NMM := Lib.hid (K6.out.next hn)
                    obtain ⟨g0, g1, g2, g3⟩ := hn.1.two
                    clear hn hl3 HW K6 q0 q1 q2 q3
                    have HM0 : Hid (M = 1106) := by show _ = _; have := HN6.out; have := HMM.out; omega
                    have HS0 : Hid (({ data := #[] } : ByteArray) = strB ([] : List Nat)) := rfl
                    go_wp2_with fail
                    go_loopw [13, 14] (fun s13 s14 wr => ∃ (k : Nat) (S : ByteArray) (ks : List Nat) (a : Option Addr) (m c N : Nat), k ≤ len2 ∧ s14 = .int .i64 (k : Int) ∧ s13 = .string S ∧ Hid (S = strB ks) ∧ Hid (N ≤ 1106 + 15 * k) ∧ Hid (ks.length ≤ k) ∧ Hid (∀ x ∈ ks, x < 256 ∧ Hf.ln L x ≠ 0) ∧ Hid (Mm w wr bB o a m c N (l3 ++ rowOf L ks) (dL zs) d16)) (fun _ s _ => len2 - (intOf s).toNat)
                    case atStart => exact ⟨0, _, [], b7, m7, c7, M, Nat.zero_le _, rfl, rfl, HS0.out, by show _ ≤ _; rw [HM0.out]; omega, Nat.zero_le _, (fun x hx => nomatch hx : ∀ x ∈ ([] : List Nat), _), by show Mm _ _ _ _ _ _ _ _ _ _ _; rw [show l3 ++ rowOf L [] = l3 by simp [rowOf]]; exact NMM.out⟩
                    case round =>
                      obtain ⟨k, S, ks, a8, m8, c8, N, hk, rfl, rfl, HS, HN, HK, HKS, K8⟩ := hrel
                      by_cases hlt : k < len2
                      · obtain ⟨b9, off9, rfl, hb9, hq9, hc9⟩ := zl_cell HY.out k (by have := hly.out; omega)
                        have hcy := (K8.out.s.b.cell (p := ⟨b9, off9 + k, none⟩) hb9).trans hc9
                        obtain ⟨y, hy⟩ : ∃ y, y = ys[k]?.getD 0 := ⟨_, rfl⟩
                        rw [← hy] at hcy
                        obtain ⟨q, hq256, hq⟩ : ∃ q : Nat, q < 256 ∧ bits .and .i64 y 255 = (q : Int) := ⟨(y % 256).toNat, by omega, by rw [i64_and255]; omega⟩
                        clear hq9 hc9 hy hb9
                        have hzc := K8.out.z.cell q (by omega)
                        obtain ⟨x, hx⟩ : ∃ x, x = dL zs q := ⟨_, rfl⟩
                        rw [← hx] at hzc
                        have HX : Hid (Hf.ln L q = x ∧ x < 16) := by rw [hx]; exact HLN.out q (by omega)
                        have j3 : (0 : Int) ≤ (q : Int) := by omega
                        have j4 : (q : Int) < 257 := by omega
                        have j5 : q < 257 := by omega
                        clear hx
                        by_cases h0 : 0 < x
                        · have e3 : decide ((0 : Int) < (x : Int)) = true := by simp; omega
                          have e3' : decide (0 < x) = true := by simp; omega
                          obtain ⟨M, hM⟩ : ∃ M, M = N + x := ⟨_, rfl⟩
                          have HMM2 : Hid (M = N + x) := hM
                          have hzr := zl_of_rz K8.out.z (by decide)
                          rw [show (List.range 257).map (dL zs) = L from HLL.out.symm] at hzr
                          have HW := Lib.hid (put_call K8.out.s (by have := HN.out; omega) L _ hzr q (If.fit_of_newE (HNEW.out ())) (by rw [HX.out.1]; omega) M (by rw [HX.out.1]; exact hM))
                          obtain ⟨q0, q1, q2, q3⟩ := K8.out.s.x.two
                          clear hM hzr
                          go_wp2_with fail
                          refine HW.out.mono ?_
                          rintro e w4 ⟨a', m', c', rfl, hn⟩
                          obtain ⟨g0', g1', g2', g3'⟩ := hn.1.two
                          have nm := K8.out.next hn
                          obtain ⟨W9, hW9⟩ : ∃ W9, (w4.setCell ⟨bB, 0, none⟩ (.slice a' m' c')).setCell ⟨bB, 1, none⟩ (.int .i64 (M : Int)) = W9 := ⟨_, rfl⟩
                          rw [hW9] at nm
                          have NMM2 := Lib.hid nm
                          obtain ⟨T, hT⟩ : ∃ T, T = strB [q] := ⟨_, rfl⟩
                          have r1 := string_of (W9.alloc (.cells #[.int .u8 (q : Int)] 5)) (some ⟨W9.heap.size, 0, none⟩) 1 1 [q] T (new_sl W9 #[.int .u8 (q : Int)] (0, 0) [q] 1 1 rfl (by intro z hz; rw [List.mem_singleton] at hz; omega) rfl (by decide)) hT
                          have hTs : T.size = 1 := by rw [hT, strB_size]; rfl
                          have hSs : S.size ≤ 300 := by rw [HS.out, strB_size]; have := HK.out; omega
                          have hss : ¬ 9223372036854775807 < S.size + T.size := by omega
                          have HST : Hid (S ++ T = strB (ks ++ [q])) := by show _ = _; rw [strB_append, ← HS.out, ← hT]
                          clear hn nm hT hTs hSs HW K8 q0 q1 q2 q3
                          go_wp2_with fail
                          have M9 : Hid (Mm w (W9.alloc (.cells #[.int .u8 (q : Int)] 5)) bB o a' m' c' M (l3 ++ rowOf L (ks ++ [q])) (dL zs) d16) := by
                            have hb := below1 W9 (.cells #[.int .u8 (q : Int)] 5)
                            obtain ⟨n1, n2, n3, n4, n5, n6⟩ := NMM2.out
                            show Mm _ _ _ _ _ _ _ _ _ _ _
                            rw [rowOf_snoc, ← List.append_assoc]
                            exact ⟨n1.later hb, n2.later hb, n3.later hb, n4.later hb, n5, n6⟩
                          have hn2 : Hid (M ≤ 1106 + 15 * (k + 1)) := by show _ ≤ _; have := HN.out; have := HMM2.out; have := HX.out.2; omega
                          have hk2 : Hid ((ks ++ [q]).length ≤ k + 1) := by show _ ≤ _; rw [List.length_append]; have := HK.out; simp; omega
                          have hks2 : Hid (∀ z ∈ ks ++ [q], z < 256 ∧ Hf.ln L z ≠ 0) := fun z hz => by
                            rcases List.mem_append.1 hz with hz | hz
                            · exact HKS.out z hz
                            · rw [List.mem_singleton] at hz; subst hz; exact ⟨hq256, by rw [HX.out.1]; omega⟩
                          go_roundw
                          case rel =>
                            first | exact ⟨k + 1, S ++ T, ks ++ [q], a', m', c', M, by omega, by go_num, rfl, HST, hn2, hk2, hks2, M9⟩ | ((repeat apply Exists.intro); exact ⟨⟨k + 1, S ++ T, ks ++ [q], a', m', c', M, by omega, by go_num, rfl, HST, hn2, hk2, hks2, M9⟩, rfl⟩)
                          case measure => simp [intOf]; omega
                        · have e3 : decide ((0 : Int) < (x : Int)) = false := by simp; omega
                          have e3' : decide (0 < x) = false := by simp; omega
                          go_wp2_with fail
                          go_roundw
                          case rel =>
                            have hn2 : Hid (N ≤ 1106 + 15 * (k + 1)) := by show _ ≤ _; have := HN.out; omega
                            have hk2 : Hid (ks.length ≤ k + 1) := by show _ ≤ _; have := HK.out; omega
                            first | exact ⟨k + 1, S, ks, a8, m8, c8, N, by omega, by go_num, rfl, HS, hn2, hk2, HKS, K8⟩ | ((repeat apply Exists.intro); exact ⟨⟨k + 1, S, ks, a8, m8, c8, N, by omega, by go_num, rfl, HS, hn2, hk2, HKS, K8⟩, rfl⟩)
                          case measure => simp [intOf]; omega
                      · obtain rfl : k = len2 := by omega
                        obtain ⟨M, hM⟩ : ∃ M, M = N + 1 := ⟨_, rfl⟩
                        have hzr := zl_of_rz K8.out.z (by decide)
                        rw [show (List.range 257).map (dL zs) = L from HLL.out.symm] at hzr
                        have HW := Lib.hid (put_call K8.out.s (by have := HN.out; omega) L _ hzr 256 (If.fit_of_newE (HNEW.out ())) (by rw [H256.out]; decide) M (by rw [H256.out]; exact hM))
                        obtain ⟨q0, q1, q2, q3⟩ := K8.out.s.x.two
                        clear hM hzr hlt hk
                        go_wp2_with fail
                        refine (show Calls Tryz.prog 20 #[_, _, .int .i64 256] _ _ from HW.out).mono ?_
                        rintro e w4 ⟨a', m', c', rfl, hn⟩
                        obtain ⟨g0', g1', g2', g3'⟩ := hn.1.two
                        have nm := K8.out.next hn
                        obtain ⟨W9, hW9⟩ : ∃ W9, (w4.setCell ⟨bB, 0, none⟩ (.slice a' m' c')).setCell ⟨bB, 1, none⟩ (.int .i64 (M : Int)) = W9 := ⟨_, rfl⟩
                        rw [hW9] at nm
                        obtain ⟨l, hl⟩ : ∃ l, l = l3 ++ rowOf L ks ++ cw L 256 := ⟨_, rfl⟩
                        rw [← hl] at nm
                        have hlen : L.length = 257 := by rw [HLL.out]; exact cL_length zs
                        have hcod := all_codes HL0.out HL1.out HL3.out hl
                        have hdec := If.codes_decode (ks := ks) hlen HL16.out (HNEW.out ()) (by rw [H256.out]; decide) HKS.out (by have := HK.out; omega)
                        rw [← hcod] at hdec
                        have hrl := row_len nm.s.r
                        have hll : l.length ≤ 20000 := by have h1 := nm.s.n; have h2 := HN.out; have h3 := (congrArg List.length hl); rw [List.length_append, cw_len, H256.out] at h3; have h4 := K8.out.s.n; omega
                        obtain ⟨q, hqd⟩ : ∃ q, q = (Bs.pack l).length := ⟨_, rfl⟩
                        rw [← hqd] at hrl hdec
                        have hsl := nm.s.r.sl (by omega)
                        have HD := Lib.hid (dec_is _ _ 65536 W9 hsl (by rw [← hqd]; rw [hqd, Bs.pack_length]; omega) (HG.out.later nm.s.b) _ _ _ hdec)
                        obtain ⟨t0, t1, t2, t3⟩ := nm.s.x.two
                        have NMM2 := Lib.hid nm
                        subst hrl
                        obtain ⟨kl, hkl⟩ : ∃ kl, kl = ks.length := ⟨_, rfl⟩
                        rw [← hkl] at HD
                        clear hn nm hl hlen hcod hdec hll hqd hsl HW K8 q0 q1 q2 q3 hkl
                        go_wp2_with fail
                        try rw [hW9]
                        refine HD.out.mono ?_
                        clear HD
                        rintro e w5 ⟨a5', c5', rfl, hs5, hb5, _, _⟩
                        have r1 := string_of w5 a5' kl c5' _ S hs5 HS.out
                        have hx5 := NMM2.out.s.x.later hb5
                        obtain ⟨z0, z1, z2, z3⟩ := hx5.two
                        have HL := Lib.hid (tail_lives (NMM2.out.s.b.trans (hb5.mono NMM2.out.s.b.size)) HG.out)
                        clear hs5 hb5 hx5 hW9 t0 t1 t2 t3 g0' g1' g2' g3'
                        go_wp2_with fail
                        refine HL.out.mono ?_
                        rintro e w' ⟨rfl, hb⟩
                        have HB := Lib.hid hb
                        clear hb HL r1
                        go_wp2
                        go_ret
                        exact ⟨rfl, HB.out⟩
      · have e1 : (c != 0) = true := by rw [bne_iff_ne]; exact hc0
        have HL := Lib.hid (tail_lives NB'.out HG.out)
        clear hc0
        go_wp2_with fail
        refine HL.out.mono ?_
        rintro e w' ⟨rfl, hb⟩
        have HB := Lib.hid hb
        clear hb HL
        go_wp2
        go_ret
        exact ⟨rfl, HB.out⟩
end Go.Proofs.YtnjlljdbghcobaaGreatDoor

/- How a slice of numbers that came in reads. -/
namespace Go.Proofs.YtnjlljdbghcobaaGreatDoor
set_option maxRecDepth 100000
open Go.ChangeShapes Go.WideShapes Go.ChangeAt Go.RowKit Go.Joins

theorem Tryz.cellsInt : Tryz.prog.cellsOf 3 = 1 := by kernel_rfl
theorem Tryz.bytesInt : Tryz.prog.bytesOf 3 = 8 := by kernel_rfl

theorem Zl.nil (w : World) : Zl w (.slice none 0 0) [] := ⟨none, 0, 0, rfl, rfl, by omega, fun _ => ⟨rfl, rfl⟩, fun h => absurd h (by omega)⟩

theorem zl_open {H : Type} {enc : TypeId × Value → H} {W : World} {fuel : Nat} {cs : List Value} {x : DataW H × List MemPlace}
    (h : DataW.trod enc Tryz.prog W 0 (fun _ => true) true fuel 33 cs = some x) (hw : ∀ n ∈ x.1.weights Tryz.prog 33, n ≤ reachBytes) :
    ∃ s zs, cs = [s] ∧ Zl W s zs ∧ zs.length ≤ 17592186043904 := by
  rcases open_ints Tryz.underlying33 Tryz.underlying3 Tryz.cellsInt h with ⟨rfl, rfl⟩ | ⟨a, len, cap, zs, rfl, _, hl, hm, hz, rfl, hcell, hwz⟩
  · exact ⟨_, [], rfl, Zl.nil W, by simp⟩
  · have hz' : zs.length = cap := by simpa using hz
    have hr : cap * 8 ≤ 140737488351232 := by
      have := hw (cap * 8) (by
        simp only [DataW.weights, Tryz.underlying33, Tryz.bytesInt]
        simp [lits, hz']
        left
        omega)
      unfold reachBytes at this
      omega
    refine ⟨_, zs.take len, rfl, ⟨some a, len, cap, rfl, by simp; omega, by omega, fun h => by simp at h, fun h0 => ?_⟩, by simp; omega⟩
    obtain ⟨b, off, spot⟩ := a
    have hc0 := hcell 0 (by omega)
    have hspot : spot = none := by simpa [Addr.add] using World.cell?_spot hc0
    subst hspot
    refine ⟨b, off, rfl, ?_, fun i hi => ?_⟩
    · have := World.block_lt_of_cell? W _ hc0
      simpa [Addr.add] using this
    · have hc := hcell i (by omega)
      have e : (⟨b, off, none⟩ : Addr).add i = ⟨b, off + i, none⟩ := by cases i <;> simp [Addr.add]
      rw [e] at hc
      rw [hc]
      have hi' : i < zs.length := by omega
      simp [hi, List.getElem?_eq_getElem hi', List.getD]

/-- A slice of numbers as an argument. -/
theorem ints_open {H : Type} {enc : TypeId × Value → H} {W : World} {base : Nat} {v : Value} {d : DataW H} {p : List MemPlace} (hv : Value.okWide Tryz.prog W .any base 33 v)
    (h : DataW.Trod enc Tryz.prog W 0 (fun _ => true) true 33 v d p) (hw : ∀ n ∈ d.weights Tryz.prog 33, n ≤ reachBytes) :
    ∃ zs, Zl W v zs ∧ zs.length ≤ 17592186043904 := by
  obtain ⟨a1, len, cap, rfl⟩ := okWide_slice Tryz.underlying33 hv
  obtain ⟨fuel, hf⟩ := h
  obtain ⟨s, zs, e, hs, hl⟩ := zl_open hf hw
  simp [Value.cells] at e
  subst e
  exact ⟨zs, hs, hl⟩

end Go.Proofs.YtnjlljdbghcobaaGreatDoor
