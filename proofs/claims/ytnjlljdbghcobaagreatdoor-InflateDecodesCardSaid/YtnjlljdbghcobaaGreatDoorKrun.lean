/- Contract of inflate's reader: stored. -/
import Derived.Test.YtnjlljdbghcobaaGreatDoorIpst
import Derived.Test.YtnjlljdbghcobaaGreatDoorAppm
import Derived.Test.YtnjlljdbghcobaaGreatDoorQtail
import Derived.Test.YtnjlljdbghcobaaGreatDoorIst

namespace Go.Proofs.YtnjlljdbghcobaaGreatDoor
set_option maxRecDepth 100000
open Go.RowKit

theorem i64_xor_nat (a b : Nat) (ha : a < 9223372036854775808) (hb : b < 9223372036854775808) : bits .xor .i64 (a : Int) (b : Int) = ((a ^^^ b : Nat) : Int) := by
  have hx : a ^^^ b < 9223372036854775808 := Nat.xor_lt_two_pow (n := 63) ha hb
  have e1 : (BitVec.ofInt 64 (a : Int)).toNat = a := by rw [BitVec.toNat_ofInt]; omega
  have e2 : (BitVec.ofInt 64 (b : Int)).toNat = b := by rw [BitVec.toNat_ofInt]; omega
  show IntKind.i64.wrap ((BitVec.ofInt 64 (a : Int) ^^^ BitVec.ofInt 64 (b : Int)).toNat : Int) = _
  rw [BitVec.toNat_xor, e1, e2, IntKind.wrap_i64]
  omega
theorem xor_turned (n : Nat) (h : n < 65536) : n ^^^ 65535 = 65535 - n := by
  apply Nat.eq_of_testBit_eq
  intro i
  rw [Nat.testBit_xor, show 65535 - n = 2 ^ 16 - (n + 1) by omega, Nat.testBit_two_pow_sub_succ (by omega), show (65535 : Nat) = 2 ^ 16 - (0 + 1) by rfl, Nat.testBit_two_pow_sub_succ (by omega)]
  by_cases hi : i < 16
  · simp [hi]
  · have : n.testBit i = false := Nat.testBit_lt_two_pow (Nat.lt_of_lt_of_le (show n < 2 ^ 16 by omega) (Nat.pow_le_pow_right (by omega) (by omega)))
    simp [hi, this]

set_option maxHeartbeats 1000000 in
theorem wholeBytes_is (n : Nat) (w : World) (hn : n ≤ 2251799813685248) : Calls Tryz.prog 38 #[.int .i64 (n : Int)] w fun e w' => e = .returned (.int .i64 (((n + 7) / 8 : Nat) : Int)) ∧ w = w' := by
  go_enter Tryz.func38, Tryz.ntmps38
  go_wp2
  go_ret
  exact ⟨by rw [show ((n : Int) + 8 - 1) / 8 = (((n + 7) / 8 : Nat) : Int) by omega]; rfl, rfl⟩

namespace If
/-- A stored block, by numbers. -/
theorem stored_is (l : List Bool) (most p n m u : Nat) (out : List Nat) (hu : u = 8 * ((p + 7) / 8)) (hn : n = Hd.num l u 16) (hm : m = Hd.num l (u + 16) 16) :
    stored l most p out = if l.length < u + 32 then ([], 0, 4) else if m ≠ 65535 - n then ([], 0, 5) else if most < out.length + n then ([], 0, 3) else if l.length < u + 32 + 8 * n then ([], 0, 4) else
      (out ++ (List.range n).map fun i => Bs.byteAt l (u / 8 + 4 + i), u + 32 + 8 * n, 0) := by
  have e : up p = u := by unfold up; omega
  have h1 : n < 65536 := by rw [hn]; exact Hd.num_lt _ _ _
  have h2 : m < 65536 := by rw [hm]; exact Hd.num_lt _ _ _
  unfold stored
  rw [e, ← hn, ← hm]
  have e2 : (n + m ≠ 65535 ∨ n &&& m ≠ 0) ↔ m ≠ 65535 - n := by
    constructor
    · rintro (h | h) h'
      · omega
      · rw [h'] at h; exact h (and_turned n h1)
    · intro h; left; omega
  simp only [e2]
  rw [show (u + 32) / 8 = u / 8 + 4 by omega]
theorem num8 (l : List Bool) (j : Nat) : Hd.num l (8 * j) 8 = Bs.byteAt l j := rfl
end If

set_option maxHeartbeats 8000000 in
theorem stored_any {K : Nat → Prop} {R : Nat} {s : Value} {l : List Bool} {N most : Nat} {w : World} {r : Rv} (hS : St K R s l N most w r) (hl : Hid (N = l.length)) (hN : N ≤ 2251799813685248) (h8 : Hid (N % 8 = 0)) (hm : most ≤ 65536) (res : List Nat × Nat × Int) (hres : Hid (Unit → If.stored l most r.p (If.tell r.ts) = res)) :
    Calls Tryz.prog 117 #[.pointer (some ⟨R, 0, none⟩)] w (Out K w res.2.2 (.tuple #[]) (fun w' => ∃ ts', If.tell ts' = res.1 ∧ St K R s l N most w' { r with p := res.2.1, ts := ts' })) := by
  obtain ⟨p, ts, lv, dvv⟩ := r
  simp only at hres ⊢
  have hp := hS.pn
  simp only at hp
  obtain ⟨tv, hx, _, _⟩ := hS.has
  obtain ⟨_, _, c2, _⟩ := rdi_cells hx
  simp only at c2
  have y2 := rdi_free hx 2
  obtain ⟨a, ha⟩ : ∃ a, a = (p + 7) / 8 := ⟨_, rfl⟩
  obtain ⟨u, hu⟩ : ∃ u, u = 8 * a := ⟨_, rfl⟩
  have huN : u ≤ N := by have := h8.out; omega
  have hmul : IntKind.i64.wrap (8 * (a : Int)) = (u : Int) := by rw [IntWalk.i64_in _ (by omega)]; omega
  have HW := Lib.hid (wholeBytes_is p w (by omega))
  rw [← ha] at HW
  obtain ⟨n, hn⟩ : ∃ n, n = Hd.num l u 16 := ⟨_, rfl⟩
  obtain ⟨m, hmm⟩ : ∃ m, m = Hd.num l (u + 16) 16 := ⟨_, rfl⟩
  have hst := If.stored_is l most p n m u (If.tell ts) (by rw [hu, ha]) hn hmm
  rw [hres.out ()] at hst
  have hn9 : n < 65536 := by rw [hn]; exact Hd.num_lt _ _ _
  have hm9 : m < 65536 := by rw [hmm]; exact Hd.num_lt _ _ _
  have HS1 := Lib.hid (hS.at u huN)
  have HF1 : Hid (Fr K w (w.setCell ⟨R, 2, none⟩ (.int .i64 (u : Int)))) := Fr.of_only hS.lt hS.ne (only_set _ R 2 _)
  have hq1 := inum_any 16 HS1.out hl hN (by omega)
  simp only at hq1
  rw [← hn] at hq1
  have HQ1 := Lib.hid hq1
  have HMM := Lib.hid (fun _ : Unit => hmm)
  have HU : Hid (u = 8 * a) := hu
  have HST := Lib.hid (fun _ : Unit => hst)
  have HS := Lib.hid hS
  clear hq1 hmm hst hx ha hu hn hres hS
  go_enter Tryz.func117, Tryz.ntmps117
  go_wp2_with fail
  refine HW.out.mono ?_
  rintro e w0 ⟨rfl, rfl⟩
  go_wp2_with fail
  refine HQ1.out.mono ?_
  clear HQ1
  intro e w1 ho
  unfold numE at ho
  by_cases hE1 : N < u + 16
  · rw [if_pos hE1] at ho
    obtain ⟨rfl, hf1⟩ := ho.bad (by decide)
    have hst := HST.out ()
    rw [if_pos (by rw [← hl.out]; omega)] at hst
    subst hst
    exact ⟨rfl, Out.fault (by decide) (HF1.out.trans hf1)⟩
  rw [if_neg hE1] at ho
  obtain ⟨rfl, hS1, hf1⟩ := ho.ok
  have HF2 := Lib.hid (HF1.out.trans hf1)
  have HS2 := Lib.hid hS1
  have hq2 := inum_any 16 hS1 hl hN (by omega)
  simp only at hq2
  rw [← HMM.out ()] at hq2
  have HQ2 := Lib.hid hq2
  clear ho hS1 hf1 hq2 HMM HF1 HS1
  go_wp2_with fail
  refine HQ2.out.mono ?_
  clear HQ2
  intro e w2 ho
  unfold numE at ho
  by_cases hE2 : N < u + 16 + 16
  · rw [if_pos hE2] at ho
    obtain ⟨rfl, hf1⟩ := ho.bad (by decide)
    have hst := HST.out ()
    rw [if_pos (by rw [← hl.out]; omega)] at hst
    subst hst
    exact ⟨rfl, Out.fault (by decide) (HF2.out.trans hf1)⟩
  rw [if_neg hE2] at ho
  obtain ⟨rfl, hS3, hf3⟩ := ho.ok
  have HF3 := Lib.hid (HF2.out.trans hf3)
  have HS3 := Lib.hid hS3
  have hst := HST.out ()
  rw [if_neg (by rw [← hl.out]; omega)] at hst
  have HST2 := Lib.hid (fun _ : Unit => hst)
  have hxor : bits .xor .i64 (n : Int) 65535 = ((65535 - n : Nat) : Int) := by rw [← xor_turned n hn9]; exact i64_xor_nat n 65535 (by omega) (by omega)
  clear ho hS3 hf3 HF2 HS2 hst HST
  by_cases hE3 : m = 65535 - n
  · subst hE3
    have d1 : (((65535 - n : Nat) : Int) != ((65535 - n : Nat) : Int)) = false := by simp
    have hst := HST2.out ()
    rw [if_neg (by simp)] at hst
    have HST3 := Lib.hid (fun _ : Unit => hst)
    clear hst HST2
    by_cases hE4 : most < (If.tell ts).length + n
    · have hst := HST3.out ()
      rw [if_pos hE4] at hst
      subst hst
      have HR := Lib.hid (room_bad HS3.out n hm hE4)
      clear hE4 HST3
      go_wp2_with fail
      refine HR.out.mono ?_
      rintro e w3 ⟨rfl, m3, rfl⟩
      exact ⟨rfl, Out.fault (by decide) (HF3.out.trans (Fr.of_below HS3.out.lt (below_drewN (Below.refl _ _) m3)))⟩
    · have hst := HST3.out ()
      rw [if_neg hE4] at hst
      have HST4 := Lib.hid (fun _ : Unit => hst)
      have HR := Lib.hid (room_ok HS3.out n hm (by simp only; omega))
      have HE4 := Lib.hid hE4
      clear hE4 HST3 hst
      go_wp2_with fail
      refine HR.out.mono ?_
      rintro e w3 ⟨rfl, m3, rfl⟩
      have HS4 := Lib.hid (HS3.out.later (below_drewN (Below.refl _ _) m3))
      have HF4 := Lib.hid (HF3.out.trans (Fr.of_below HS3.out.lt (below_drewN (Below.refl _ _) m3)))
      clear HR HS3 HF3
      go_wp2_with fail
      go_loopw [27] (fun s27 wr => ∃ (j : Nat) (ts' : List If.Tk), s27 = .int .i64 (j : Int) ∧ j ≤ n ∧ Hid (St K R s l N most wr ⟨u + 32 + 8 * j, ts', lv, dvv⟩) ∧ Hid (Fr K w wr) ∧ Hid (If.tell ts' = If.tell ts ++ (List.range j).map fun i => Bs.byteAt l (u / 8 + 4 + i))) (fun s _ => n - (intOf s).toNat)
      case atStart => exact ⟨0, ts, rfl, Nat.zero_le _, HS4.out, HF4.out, by show _ = _; simp⟩
      case round =>
        obtain ⟨j, ts', rfl, hj, KS, KF, KT⟩ := hrel
        by_cases hlt : j < n
        · have hq := inum_any 8 KS.out hl hN (by omega)
          simp only at hq
          have hb : Hd.num l (u + 32 + 8 * j) 8 = Bs.byteAt l (u / 8 + 4 + j) := by
            rw [show u + 32 + 8 * j = 8 * (u / 8 + 4 + j) by have := HU.out; omega]
            rfl
          rw [hb] at hq
          have hb9 := Bs.byteAt_lt l (u / 8 + 4 + j)
          obtain ⟨y, hy⟩ : ∃ y, y = Bs.byteAt l (u / 8 + 4 + j) := ⟨_, rfl⟩
          rw [← hy] at hq hb9
          have ew : IntKind.u8.wrap (y : Int) = (y : Int) := by simp [IntKind.wrap, IntKind.signed, IntKind.bits]; omega
          have HQ := Lib.hid hq
          have HY := Lib.hid (fun _ : Unit => hy)
          clear hq hb hy
          go_wp2_with fail
          refine HQ.out.mono ?_
          clear HQ
          intro e w5 ho
          unfold numE at ho
          by_cases hE5 : N < u + 32 + 8 * j + 8
          · rw [if_pos hE5] at ho
            obtain ⟨rfl, hf1⟩ := ho.bad (by decide)
            have hst := HST4.out ()
            rw [if_pos (by rw [← hl.out]; omega)] at hst
            subst hst
            exact ⟨rfl, Out.fault (by decide) (KF.out.trans hf1)⟩
          clear HST4
          rw [if_neg hE5] at ho
          obtain ⟨rfl, hS5, hf5⟩ := ho.ok
          have hlen : (If.tell ts').length = (If.tell ts).length + j := by rw [KT.out]; simp
          have hta := take_any ⟨0, 0, y⟩ (Or.inl ⟨rfl, rfl, hb9⟩) hS5 hm
          simp only [If.takeE_byte] at hta
          rw [if_neg (by have := HE4.out; omega)] at hta
          unfold tkv at hta
          have HTA := Lib.hid hta
          have HF5 := Lib.hid (KF.out.trans hf5)
          have HT5 : Hid (If.tell (ts' ++ [({ len := 0, far := 0, lit := y } : If.Tk)]) = If.tell ts ++ (List.range (j + 1)).map fun i => Bs.byteAt l (u / 8 + 4 + i)) := by
            show _ = _
            rw [If.tell_snoc, List.range_succ, List.map_append, List.map_singleton, ← HY.out (), ← List.append_assoc, ← KT.out]
            rfl
          have hpp : u + 32 + 8 * j + 8 = u + 32 + 8 * (j + 1) := by omega
          rw [hpp] at HTA
          clear ho hS5 hf5 hlen hta KF KS KT hpp
          go_wp2_with fail
          refine HTA.out.mono ?_
          clear HTA
          intro e w6 ho
          obtain ⟨rfl, hS6, hf6⟩ := ho.ok
          have HS6 := Lib.hid hS6
          have HF6 := Lib.hid (HF5.out.trans hf6)
          clear ho hS6 hf6
          go_wp2_with fail
          go_roundw
          case rel => exact ⟨j + 1, ts' ++ [({ len := 0, far := 0, lit := y } : If.Tk)], by go_num, by omega, HS6.out, HF6.out, HT5.out⟩
          case measure => simp [intOf]; omega
        · obtain rfl : j = n := by omega
          have hpn := KS.out.pn
          simp only at hpn
          have hst := HST4.out ()
          rw [if_neg (by rw [← hl.out]; omega)] at hst
          subst hst
          clear HST4 hpn
          go_wp2_with fail
          refine ⟨rfl, .tuple #[], by simp [results, Tryz.results117, go_sem], Out.intro KF.out ⟨ts', KT.out, KS.out⟩⟩
  · have hst := HST2.out ()
    rw [if_pos hE3] at hst
    subst hst
    have d1 : ((m : Int) != ((65535 - n : Nat) : Int)) = true := by rw [bne_iff_ne]; omega
    have d2 : (m != 65535 - n) = true := by rw [bne_iff_ne]; omega
    clear HST2 hE3
    go_wp2
    exact ⟨rfl, Out.fault (by decide) HF3.out⟩
end Go.Proofs.YtnjlljdbghcobaaGreatDoor

/- Contracts of inflate: fixedLit, fixedDist, and their tables. -/
namespace Go.Proofs.YtnjlljdbghcobaaGreatDoor
set_option maxRecDepth 100000
open Go.RowKit

set_option maxHeartbeats 4000000 in
theorem fixedDist_is (w : World) : Calls Tryz.prog 160 #[] w fun e w' => ∃ v, e = .returned v ∧ Own w.heap.size w' v If.fixD ∧ Below w.heap.size w w' := by
  have hA := Has.new w (.cells #[.int .i64 5] 3)
  have HR := Lib.hid (repeat_one w.heap.size 1 5 32 (by decide) (by decide) (w.alloc (.cells #[.int .i64 5] 3)) hA.lt hA.one.1)
  clear hA
  go_enter Tryz.func160, Tryz.ntmps160
  go_wp2_with fail
  refine HR.out.mono ?_
  rintro e w1 ⟨g, rfl, hx, hge, hb⟩
  have HX := Lib.hid hx
  have HG := Lib.hid hge
  have HB := Lib.hid hb
  clear hx hge hb
  go_wp2
  go_ret
  refine ⟨_, rfl, ⟨by unfold If.fixD; rfl, Or.inr ⟨g, 32, _, rfl, ?_, HX.out, Nat.le_refl _, by unfold maxLen; omega, ?_, ?_⟩⟩, (below1 _ _).trans (HB.out.mono (by simp))⟩
  · have := HG.out; simp at this; omega
  · rfl
  · rfl

set_option maxHeartbeats 8000000 in
theorem fixedLit_is (w : World) : Calls Tryz.prog 159 #[] w fun e w' => ∃ v, e = .returned v ∧ Own w.heap.size w' v If.fixL ∧ Below w.heap.size w w' := by
  have hA := Has.new w (.cells #[.int .i64 8] 3)
  have HR := Lib.hid (repeat_one w.heap.size 1 8 144 (by decide) (by decide) (w.alloc (.cells #[.int .i64 8] 3)) hA.lt hA.one.1)
  clear hA
  go_enter Tryz.func159, Tryz.ntmps159
  go_wp2_with fail
  refine HR.out.mono ?_
  clear HR
  rintro e w1 ⟨g0, rfl, hx0, hge0, hb⟩
  have HB1 := Lib.hid ((below1 w (.cells #[.int .i64 8] 3)).trans (hb.mono (by simp)))
  have hA := Has.new w1 (.cells #[.int .i64 9] 3)
  have HR := Lib.hid (repeat_one w1.heap.size 1 9 112 (by decide) (by decide) (w1.alloc (.cells #[.int .i64 9] 3)) hA.lt hA.one.1)
  have HX0 := Lib.hid hx0
  clear hA hx0 hge0 hb
  go_wp2_with fail
  refine HR.out.mono ?_
  clear HR
  rintro e w2 ⟨g1, rfl, hx1, hge1, hb⟩
  have hb12 := (below1 w1 (.cells #[.int .i64 9] 3)).trans (hb.mono (by simp))
  have HB2 := Lib.hid (HB1.out.trans (hb12.mono HB1.out.size))
  have hA := Has.new w2 (.cells #[.int .i64 7] 3)
  have HR := Lib.hid (repeat_one w2.heap.size 1 7 24 (by decide) (by decide) (w2.alloc (.cells #[.int .i64 7] 3)) hA.lt hA.one.1)
  have HX0' := Lib.hid (HX0.out.later hb12)
  have HX1 := Lib.hid hx1
  clear hA hx1 hge1 hb hb12 HX0 HB1
  go_wp2_with fail
  refine HR.out.mono ?_
  clear HR
  rintro e w3 ⟨g2, rfl, hx2, hge2, hb⟩
  have hb12 := (below1 w2 (.cells #[.int .i64 7] 3)).trans (hb.mono (by simp))
  have HB3 := Lib.hid (HB2.out.trans (hb12.mono HB2.out.size))
  have hA := Has.new w3 (.cells #[.int .i64 8] 3)
  have HR := Lib.hid (repeat_one w3.heap.size 1 8 8 (by decide) (by decide) (w3.alloc (.cells #[.int .i64 8] 3)) hA.lt hA.one.1)
  have HX0 := Lib.hid (HX0'.out.later hb12)
  have HX1' := Lib.hid (HX1.out.later hb12)
  have HX2 := Lib.hid hx2
  clear hA hx2 hge2 hb hb12 HX0' HX1 HB2
  go_wp2_with fail
  refine HR.out.mono ?_
  clear HR
  rintro e w4 ⟨g3, rfl, hx3, hge3, hb⟩
  have hb12 := (below1 w3 (.cells #[.int .i64 8] 3)).trans (hb.mono (by simp))
  have HB4 := Lib.hid (HB3.out.trans (hb12.mono HB3.out.size))
  have bC := below1 w4 (.cells #[.slice (some ⟨g0, 0, none⟩) 144 144, .slice (some ⟨g1, 0, none⟩) 112 112, .slice (some ⟨g2, 0, none⟩) 24 24, .slice (some ⟨g3, 0, none⟩) 8 8] 33)
  have HC := Lib.hid (concat4 w4.heap.size g0 g1 g2 g3 144 112 24 8 8 9 7 8 _ (Has.new w4 (.cells #[.slice (some ⟨g0, 0, none⟩) 144 144, .slice (some ⟨g1, 0, none⟩) 112 112, .slice (some ⟨g2, 0, none⟩) 24 24, .slice (some ⟨g3, 0, none⟩) 8 8] 33))
    ((HX0.out.later hb12).later bC) ((HX1'.out.later hb12).later bC) ((HX2.out.later hb12).later bC) (hx3.later bC) (by decide) (by decide) (by decide) (by decide) (by decide) (by decide) (by decide) (by decide))
  have BC := Lib.hid (HB4.out.trans (bC.mono HB4.out.size))
  clear hx3 hge3 hb hb12 bC HX0 HX1' HX2 HB3
  go_wp2_with fail
  refine HC.out.mono ?_
  rintro e w5 ⟨v, rfl, ho, hb5⟩
  have HO := Lib.hid ho
  have HB5 := Lib.hid hb5
  clear ho hb5 HC
  go_wp2
  go_ret
  exact ⟨_, rfl, HO.out.weaken (by have := BC.out.size; omega), BC.out.trans (HB5.out.mono BC.out.size)⟩

theorem newE_fixL : newE (Hd.zz If.fixL) = 0 := by decide +kernel
theorem newE_fixD : newE (Hd.zz If.fixD) = 0 := by decide +kernel

/-- A new table, besides what is kept. -/
theorem new_tab (ls : List Nat) (v : Value) (w : World) (base : Nat) (ho : Own base w v ls) (h9 : ls.length ≤ 1000) (he : newE (Hd.zz ls) = 0) :
    Calls Tryz.prog 158 #[v] w fun e w' => ∃ T g capg, e = .returned (.tuple #[.pointer (some ⟨T, 0, none⟩), .int .i64 0]) ∧ Tb w' T g capg ls ∧ Good ls ∧ w.heap.size ≤ T ∧ w.heap.size ≤ g ∧ Below w.heap.size w w' := by
  refine (new_ok (Hd.zz ls) v w (ho.zl (by omega)) he).mono ?_
  rintro e w' ⟨T, rfl, ht, hb'⟩
  have hg := good_of he
  rw [Hd.nat_zz] at ht hg
  obtain ⟨g, capg, hle, htb⟩ := tb_of ht hg
  exact ⟨T, g, capg, rfl, htb, hg, ht.le, hle, hb'⟩
end Go.Proofs.YtnjlljdbghcobaaGreatDoor

/- Contract of inflate's reader: fixed. -/
namespace Go.Proofs.YtnjlljdbghcobaaGreatDoor
set_option maxRecDepth 100000
open Go.RowKit

/-- New blocks are kept besides. -/
theorem St.widenSet {K : Nat → Prop} {R : Nat} {s : Value} {l : List Bool} {N most : Nat} {w w' : World} {r : Rv} (h : St K R s l N most w r) (hb : Below w.heap.size w w') (A : Nat → Prop) (hA : ∀ k, A k → w.heap.size ≤ k ∧ k < w'.heap.size) : St (fun k => K k ∨ A k) R s l N most w' r := by
  have h1 := h.later hb
  obtain ⟨tv, hx, ho, hn⟩ := h.has
  refine ⟨fun k hk => ?_, fun hk => ?_, h1.sl, fun a len cap b off e hl ha => Or.inl (h.slK a len cap b off e hl ha), h1.gl, Or.inl h.glK, h.pn, h.toks, h.le, tv, hx.later hb, own_keep ho hb, fun g hg hk => ?_⟩
  · rcases hk with hk | hk
    · exact Nat.lt_of_lt_of_le (h.lt k hk) hb.size
    · exact (hA k hk).2
  · rcases hk with hk | hk
    · exact h.ne hk
    · have := hx.lt; have := (hA _ hk).1; omega
  · rcases hk with hk | hk
    · exact hn g hg hk
    · have := (World.ownsRow.lt ho g hg).2; have := (hA _ hk).1; omega

/-- The tables of fixed blocks: not made yet, or made. -/
def Ftabs (K : Nat → Prop) (w : World) (r : Rv) : Prop := (r.lv = .pointer none) ∨ (TbK K w r.lv If.fixL ∧ TbK K w r.dv If.fixD)
theorem Ftabs.fr {K : Nat → Prop} {w w' : World} {r : Rv} (h : Ftabs K w r) (hf : Fr K w w') : Ftabs K w' r := h.imp id (fun h => ⟨h.1.fr hf, h.2.fr hf⟩)

/-- The reader with its tables, over what K0 names and more. -/
def Sx (K0 : Nat → Prop) (R : Nat) (s : Value) (l : List Bool) (N most : Nat) (w : World) (r : Rv) : Prop := ∃ K, (∀ k, K0 k → K k) ∧ St K R s l N most w r ∧ Ftabs K w r

/-- What a block of symbols leaves. -/
def BlkPost (K0 : Nat → Prop) (R : Nat) (s : Value) (l : List Bool) (N most : Nat) (w : World) (res : List Nat × Nat × Int) : Ending → World → Prop :=
  Out K0 w res.2.2 (.tuple #[]) (fun w' => ∃ r', r'.p = res.2.1 ∧ If.tell r'.ts = res.1 ∧ Sx K0 R s l N most w' r')

theorem Out.from {K : Nat → Prop} {w W w' : World} {c : Int} {v : Value} {S : World → Prop} {e : Ending} (hf : Fr K w W) (h : Out K W c v S e w') : Out K w c v S e w' := ⟨hf.trans h.1, h.2⟩

theorem fixD_some : ¬ ∀ x ∈ If.fixD, x = 0 := by decide

set_option maxHeartbeats 8000000 in
theorem fixed_have {K0 K : Nat → Prop} {R : Nat} {s : Value} {l : List Bool} {N most : Nat} {w : World} {r : Rv} (hK : ∀ k, K0 k → K k) (hS : St K R s l N most w r) (hL : TbK K w r.lv If.fixL) (hD : TbK K w r.dv If.fixD) (hl : Hid (N = l.length)) (hN : N ≤ 2251799813685248) (hm : most ≤ 65536)
    (k : Nat) (hk : N < r.p + k) (res : List Nat × Nat × Int) (hres : Hid (Unit → If.syms l If.fixL If.fixD most k (If.tell r.ts) r.p = res)) :
    Calls Tryz.prog 161 #[.pointer (some ⟨R, 0, none⟩), r.lv, r.dv] w (BlkPost K0 R s l N most w res) := by
  refine (symbols_any r.lv r.dv If.fixL If.fixD hL (Or.inr ⟨hD, fixD_some⟩) hS hl hN hm k hk res hres).mono ?_
  intro e w' ho
  by_cases hc : res.2.2 = 0
  · obtain ⟨c, hcc⟩ : ∃ c, c = res.2.2 := ⟨_, rfl⟩
    unfold BlkPost
    rw [← hcc] at ho hc ⊢
    subst hc
    obtain ⟨rfl, ⟨ts', h1, h2⟩, hf⟩ := ho.ok
    exact Out.intro (hf.mono hK) ⟨_, rfl, h1, K, hK, h2, Or.inr ⟨hL.fr hf, hD.fr hf⟩⟩
  · obtain ⟨rfl, hf⟩ := ho.bad hc
    exact Out.fault hc (hf.mono hK)

set_option maxHeartbeats 8000000 in
theorem fixed_kept {K0 K : Nat → Prop} {R : Nat} {s : Value} {l : List Bool} {N most : Nat} {w : World} {r : Rv} (hK : ∀ k, K0 k → K k) (hS : St K R s l N most w r) (hL : TbK K w r.lv If.fixL) (hD : TbK K w r.dv If.fixD) (hl : Hid (N = l.length)) (hN : N ≤ 2251799813685248) (hm : most ≤ 65536)
    (k : Nat) (hk : N < r.p + k) (res : List Nat × Nat × Int) (hres : Hid (Unit → If.syms l If.fixL If.fixD most k (If.tell r.ts) r.p = res)) :
    Calls Tryz.prog 118 #[.pointer (some ⟨R, 0, none⟩)] w (BlkPost K0 R s l N most w res) := by
  have HC := Lib.hid (fun n => fixed_have (w := w.drewN n) hK (hS.later (below_drewN (Below.refl _ _) n)) (hL.fr (Fr.of_below hS.lt (below_drewN (Below.refl _ _) n))) (hD.fr (Fr.of_below hS.lt (below_drewN (Below.refl _ _) n))) hl hN hm k hk res hres)
  have HLT : Hid (∀ k, K0 k → k < w.heap.size) := fun k hk => hS.lt k (hK k hk)
  obtain ⟨tv, hx, _, _⟩ := hS.has
  obtain ⟨_, _, _, _, _, _, c6, c7⟩ := rdi_cells hx
  obtain ⟨T, _, _, hTe, _⟩ := hL
  obtain ⟨T2, _, _, hTe2, _⟩ := hD
  rw [hTe, hTe2] at HC
  rw [hTe] at c6
  rw [hTe2] at c7
  clear hx hS hTe hTe2 hK hres hk
  go_enter Tryz.func118, Tryz.ntmps118
  go_wp2_with fail
  refine region_qtail 9 (by kernel_rfl) (by kernel_rfl) fun W hW => ?_
  have c6' : W.cell? ⟨R, 6, none⟩ = some (.pointer (some ⟨T, 0, none⟩)) := by rw [hW]; exact c6
  have c7' : W.cell? ⟨R, 7, none⟩ = some (.pointer (some ⟨T2, 0, none⟩)) := by rw [hW]; exact c7
  have hcall := HC.out 1
  rw [show w.drewN 1 = W from hW.symm] at hcall
  have HCALL := Lib.hid hcall
  have HFW : Hid (Fr K0 w W) := by rw [hW]; exact Fr.of_below HLT.out (below_drewN (Below.refl _ _) 1)
  clear hW c6 c7 hcall HC
  simp only [List.take_succ_cons, List.take_zero, List.drop_succ_cons, List.drop_zero]
  repeat (go_big_quiet_step (fail))
  refine wpQuiet_nil ?_
  go_wp2_with fail
  refine HCALL.out.mono ?_
  intro e w1 ho
  have hf := HFW.out
  by_cases hc : res.2.2 = 0
  · have ho2 := Out.from hf ho
    have e2 := (ho.2.1 hc).1
    subst e2
    have HO := Lib.hid ho2
    clear ho ho2 hc hf
    go_wp2
    refine ⟨rfl, .tuple #[], by simp [results, Tryz.results118, go_sem], HO.out⟩
  · have e2 := ho.2.2 hc
    subst e2
    exact ⟨rfl, Out.from hf ho⟩

set_option maxHeartbeats 8000000 in
theorem fixed_new {K0 K : Nat → Prop} {R : Nat} {s : Value} {l : List Bool} {N most : Nat} {w : World} {r : Rv} (hK : ∀ k, K0 k → K k) (hS : St K R s l N most w r) (hv : r.lv = .pointer none) (hl : Hid (N = l.length)) (hN : N ≤ 2251799813685248) (hm : most ≤ 65536)
    (k : Nat) (hk : N < r.p + k) (res : List Nat × Nat × Int) (hres : Hid (Unit → If.syms l If.fixL If.fixD most k (If.tell r.ts) r.p = res)) :
    Calls Tryz.prog 118 #[.pointer (some ⟨R, 0, none⟩)] w (BlkPost K0 R s l N most w res) := by
  have HLT : Hid (∀ k, K0 k → k < w.heap.size) := fun k hk => hS.lt k (hK k hk)
  obtain ⟨tv, hx, _, _⟩ := hS.has
  obtain ⟨_, _, _, _, _, _, c6, _⟩ := rdi_cells hx
  rw [hv] at c6
  have HS := Lib.hid hS
  have HK := Lib.hid hK
  have HX := Lib.hid hx
  clear hx hS hK hv
  go_enter Tryz.func118, Tryz.ntmps118
  go_wp2_with fail
  refine (fixedLit_is _).mono ?_
  rintro e w1 ⟨v1, rfl, ho1, hb1⟩
  have HN1 := Lib.hid (new_tab If.fixL v1 w1 w.heap.size ho1 (by decide) newE_fixL)
  have HB1 := Lib.hid hb1
  clear ho1 hb1 c6
  go_wp2_with fail
  refine HN1.out.mono ?_
  clear HN1
  rintro e w2 ⟨T, g, capg, rfl, ht, hg, hle, hle2, hb2⟩
  have HB2 := Lib.hid (HB1.out.trans (hb2.mono HB1.out.size))
  have HT := Lib.hid ht
  have HG := Lib.hid hg
  have HLE : Hid (w.heap.size ≤ T ∧ w.heap.size ≤ g) := ⟨by have := HB1.out.size; omega, by have := HB1.out.size; omega⟩
  clear ht hg hle hle2 hb2 HB1
  go_wp2_with fail
  refine (ineedTab_ok _ _).mono ?_
  rintro e w2' ⟨rfl, rfl⟩
  go_wp2_with fail
  refine (fixedDist_is _).mono ?_
  rintro e w3 ⟨v3, rfl, ho3, hb3⟩
  have HN1 := Lib.hid (new_tab If.fixD v3 w3 w2.heap.size ho3 (by decide) newE_fixD)
  have HB23 := Lib.hid hb3
  clear ho3 hb3
  go_wp2_with fail
  refine HN1.out.mono ?_
  clear HN1
  rintro e w4 ⟨T2, g2, capg2, rfl, ht, hg, hle, hle2, hb4⟩
  have hb24 := HB23.out.trans (hb4.mono HB23.out.size)
  have hb04 := HB2.out.trans (hb24.mono HB2.out.size)
  have hsz2 := HB2.out.size
  have hsz3 := HB23.out.size
  have hl1 := HLE.out
  have htl := (HT.out.below hb24)
  have hA : ∀ k, (k = T ∨ k = g ∨ k = T2 ∨ k = g2) → w.heap.size ≤ k ∧ k < w4.heap.size := by
    rintro k (rfl | rfl | rfl | rfl)
    · exact ⟨hl1.1, htl.counts.lt⟩
    · exact ⟨hl1.2, htl.syms.lt⟩
    · exact ⟨by omega, ht.counts.lt⟩
    · exact ⟨by omega, ht.syms.lt⟩
  have hS4 := HS.out.widenSet hb04 (fun k => k = T ∨ k = g ∨ k = T2 ∨ k = g2) hA
  have hS5 : St (fun k => K k ∨ (k = T ∨ k = g ∨ k = T2 ∨ k = g2)) R s l N most (w4.setCell ⟨R, 6, none⟩ (.pointer (some ⟨T, 0, none⟩))) { r with lv := .pointer (some ⟨T, 0, none⟩) } := hS4.turn 6 _ hS4.pn rfl fun tv hh => by
    unfold rdi at hh ⊢
    have := hh.setSelf (i := 6) (.pointer (some ⟨T, 0, none⟩))
    simpa using this
  have hS6 : St (fun k => K k ∨ (k = T ∨ k = g ∨ k = T2 ∨ k = g2)) R s l N most ((w4.setCell ⟨R, 6, none⟩ (.pointer (some ⟨T, 0, none⟩))).setCell ⟨R, 7, none⟩ (.pointer (some ⟨T2, 0, none⟩))) { r with lv := .pointer (some ⟨T, 0, none⟩), dv := .pointer (some ⟨T2, 0, none⟩) } := hS5.turn 7 _ hS5.pn rfl fun tv hh => by
    unfold rdi at hh ⊢
    have := hh.setSelf (i := 7) (.pointer (some ⟨T2, 0, none⟩))
    simpa using this
  have hf46 : Fr (fun k => K k ∨ (k = T ∨ k = g ∨ k = T2 ∨ k = g2)) w4 ((w4.setCell ⟨R, 6, none⟩ (.pointer (some ⟨T, 0, none⟩))).setCell ⟨R, 7, none⟩ (.pointer (some ⟨T2, 0, none⟩))) :=
    (Fr.of_only hS4.lt hS4.ne (only_set w4 R 6 _)).trans (Fr.of_only hS5.lt hS5.ne (only_set _ R 7 _))
  have hTL : TbK (fun k => K k ∨ (k = T ∨ k = g ∨ k = T2 ∨ k = g2)) w4 (.pointer (some ⟨T, 0, none⟩)) If.fixL := ⟨T, g, capg, rfl, htl, HG.out, Or.inr (Or.inl rfl), Or.inr (Or.inr (Or.inl rfl))⟩
  have hTD : TbK (fun k => K k ∨ (k = T ∨ k = g ∨ k = T2 ∨ k = g2)) w4 (.pointer (some ⟨T2, 0, none⟩)) If.fixD := ⟨T2, g2, capg2, rfl, ht, hg, Or.inr (Or.inr (Or.inr (Or.inl rfl))), Or.inr (Or.inr (Or.inr (Or.inr rfl)))⟩
  have hC := fun n => fixed_have (K0 := K0) (w := ((w4.setCell ⟨R, 6, none⟩ (.pointer (some ⟨T, 0, none⟩))).setCell ⟨R, 7, none⟩ (.pointer (some ⟨T2, 0, none⟩))).drewN n) (fun k hk => Or.inl (HK.out k hk)) (hS6.later (below_drewN (Below.refl _ _) n)) ((hTL.fr hf46).fr (Fr.of_below hS6.lt (below_drewN (Below.refl _ _) n))) ((hTD.fr hf46).fr (Fr.of_below hS6.lt (below_drewN (Below.refl _ _) n))) hl hN hm k hk res hres
  have HC := Lib.hid hC
  have HFA : Hid (Fr K0 w ((w4.setCell ⟨R, 6, none⟩ (.pointer (some ⟨T, 0, none⟩))).setCell ⟨R, 7, none⟩ (.pointer (some ⟨T2, 0, none⟩)))) := (Fr.of_below HLT.out hb04).trans (hf46.mono fun k hk => Or.inl (HK.out k hk))
  have hx4 := HX.out.below hb04 HX.out.lt
  have y6 := rdi_free hx4 6
  obtain ⟨_, _, _, _, _, _, d6, d7⟩ := rdi_cells hx4
  have y7 := rdi_free hx4 7
  obtain ⟨tv6, hx6, _, _⟩ := hS6.has
  obtain ⟨_, _, _, _, _, _, c6, c7⟩ := rdi_cells hx6
  simp only at c6 c7
  have HT2 := Lib.hid ht
  clear hb24 hb04 hsz2 hsz3 hl1 htl hA hS4 hS5 hS6 hf46 hTL hTD hC hx4 hx6 ht hg hle hle2 hb4 HB23 HB2 HX
  go_wp2_with fail
  refine (ineedTab_ok _ _).mono ?_
  rintro e w4' ⟨rfl, rfl⟩
  go_wp2_with fail
  generalize hW5 : (w4.setCell ⟨R, 6, none⟩ (.pointer (some ⟨T, 0, none⟩))).setCell ⟨R, 7, none⟩ (.pointer (some ⟨T2, 0, none⟩)) = w5 at HC HFA c6 c7 ⊢
  refine region_qtail 9 (by kernel_rfl) (by kernel_rfl) fun W hW => ?_
  have c6' : W.cell? ⟨R, 6, none⟩ = some (.pointer (some ⟨T, 0, none⟩)) := by rw [hW]; exact c6
  have c7' : W.cell? ⟨R, 7, none⟩ = some (.pointer (some ⟨T2, 0, none⟩)) := by rw [hW]; exact c7
  have hcall := HC.out 1
  rw [show w5.drewN 1 = W from hW.symm] at hcall
  have HCALL := Lib.hid hcall
  have HFW : Hid (Fr K0 w W) := by
    rw [hW]
    exact HFA.out.trans (Fr.of_below (fun k hk => by have := HFA.out.size; have := HLT.out k hk; omega) (below_drewN (Below.refl _ _) 1))
  clear hW c6 c7 hcall HC HFA hW5 d6 d7 y6 y7
  simp only [List.take_succ_cons, List.take_zero, List.drop_succ_cons, List.drop_zero]
  repeat (go_big_quiet_step (fail))
  refine wpQuiet_nil ?_
  go_wp2_with fail
  refine HCALL.out.mono ?_
  intro e w1 ho
  have hf := HFW.out
  by_cases hc : res.2.2 = 0
  · have ho2 := Out.from hf ho
    have e2 := (ho.2.1 hc).1
    subst e2
    have HO := Lib.hid ho2
    clear ho ho2 hc hf
    go_wp2
    refine ⟨rfl, .tuple #[], by simp [results, Tryz.results118, go_sem], HO.out⟩
  · have e2 := ho.2.2 hc
    subst e2
    exact ⟨rfl, Out.from hf ho⟩

theorem fixed_any {K0 : Nat → Prop} {R : Nat} {s : Value} {l : List Bool} {N most : Nat} {w : World} {r : Rv} (hX : Sx K0 R s l N most w r) (hl : Hid (N = l.length)) (hN : N ≤ 2251799813685248) (hm : most ≤ 65536)
    (k : Nat) (hk : N < r.p + k) (res : List Nat × Nat × Int) (hres : Hid (Unit → If.syms l If.fixL If.fixD most k (If.tell r.ts) r.p = res)) :
    Calls Tryz.prog 118 #[.pointer (some ⟨R, 0, none⟩)] w (BlkPost K0 R s l N most w res) := by
  obtain ⟨K, hK, hS, hT⟩ := hX
  rcases hT with hv | ⟨h1, h2⟩
  · exact fixed_new hK hS hv hl hN hm k hk res hres
  · exact fixed_kept hK hS h1 h2 hl hN hm k hk res hres
end Go.Proofs.YtnjlljdbghcobaaGreatDoor

/- Contracts of header's reader: run. -/
namespace Go.Proofs.YtnjlljdbghcobaaGreatDoor
set_option maxRecDepth 100000
open Go.RowKit

theorem shape_ex (y m : Nat) (hm : Hid (m = Hd.ex y)) (w : World) : Calls Tryz.prog 189 #[.int .i64 (y : Int)] w (Gvs (.agg #[.int .i64 (Hd.least y : Int), .int .i64 (m : Int)]) w) := by
  rw [hm.out]; exact shape_is y w

set_option maxRecDepth 100000 in
set_option maxHeartbeats 4000000 in
theorem run_bad (R T g capg : Nat) (ls : List Nat) (hg : Good ls) (s : Value) (l : List Bool) (N p : Nat) (w : World) (hx : Has w R (rdr s N p)) (hT : Tb w T g capg ls) (hs : Sl w s (Bs.pack l)) (hl : Hid (N = l.length)) (hN : N ≤ 2251799813685248) (hp : p ≤ N)
    (y q : Nat) (c : Int) (hr : Hid (Hd.rd ls l p = (y, q, c))) (hc : c ≠ 0) :
    Calls Tryz.prog 220 #[.pointer (some ⟨R, 0, none⟩), .pointer (some ⟨T, 0, none⟩)] w fun e w' => e = .panicked (Pan c) ∧ Only R w w' := by
  have hb0 : Below w.heap.size w (w.alloc (.cells #[.int .i64 0, .int .i64 0] 192)) := below1 _ _
  have HS := Lib.hid (symbol_any R T g capg ls hg s l N p _ (hx.later hb0) (hT.below hb0) (hs.later hb0) hl hN hp y q c hr)
  have HB := Lib.hid hb0
  clear hx hs hT hb0
  go_enter Tryz.func220, Tryz.ntmps220
  go_wp2_with fail
  refine HS.out.mono ?_
  intro e w1 h
  obtain ⟨rfl, ho⟩ := h.bad hc
  exact ⟨rfl, rfl, (Only.of_below HB.out).trans ho⟩

set_option maxRecDepth 100000 in
set_option maxHeartbeats 4000000 in
theorem run_short (R T g capg : Nat) (ls : List Nat) (hg : Good ls) (s : Value) (l : List Bool) (N p : Nat) (w : World) (hx : Has w R (rdr s N p)) (hT : Tb w T g capg ls) (hs : Sl w s (Bs.pack l)) (hl : Hid (N = l.length)) (hN : N ≤ 2251799813685248) (hp : p ≤ N)
    (y q : Nat) (hr : Hid (Hd.rd ls l p = (y, q, 0))) (hq : q ≤ N) (hsh : N < q + Hd.ex y) :
    Calls Tryz.prog 220 #[.pointer (some ⟨R, 0, none⟩), .pointer (some ⟨T, 0, none⟩)] w fun e w' => e = .panicked (Pan 4) ∧ Only R w w' := by
  have hb0 : Below w.heap.size w (w.alloc (.cells #[.int .i64 0, .int .i64 0] 192)) := below1 _ _
  have HS := Lib.hid (symbol_any R T g capg ls hg s l N p _ (hx.later hb0) (hT.below hb0) (hs.later hb0) hl hN hp y q 0 hr)
  have HX0 := Lib.hid (hx.later hb0)
  have HSL := Lib.hid (hs.later hb0)
  have HB := Lib.hid hb0
  obtain ⟨a, len, cap, rfl, _⟩ := hs.shape
  obtain ⟨m, hm⟩ : ∃ m, m = Hd.ex y := ⟨_, rfl⟩
  have hm7 : m ≤ 7 := by rw [hm]; exact Hd.ex_le y
  rw [← hm] at hsh
  have HM := Lib.hid hm
  have hfd := fld1 (Hd.least y : Int) (m : Int)
  clear hx hs hT hb0 hm
  go_enter Tryz.func220, Tryz.ntmps220
  go_wp2_with fail
  refine HS.out.mono ?_
  clear HS
  intro e w1 h
  obtain ⟨rfl, hx1, ho⟩ := h.ok
  have HS1 := Lib.hid (HSL.out.rdr HX0.out ho)
  have HX1 := Lib.hid hx1
  have HO1 := Lib.hid ((Only.of_below HB.out).trans ho)
  clear h ho hx1 HX0 HSL HB
  go_wp2_with fail
  refine (shape_ex y m HM w1).mono ?_
  rintro e w2 ⟨rfl, hb2⟩
  have HS2 := Lib.hid (HS1.out.later hb2)
  have HX2 := Lib.hid (HX1.out.later hb2)
  have HO2 := Lib.hid (HO1.out.trans (Only.of_below hb2))
  clear hb2
  go_wp2_with fail
  refine (number_short R _ l N q m w2 HX2.out HS2.out hl hN (by omega) hq hsh).mono ?_
  rintro e w3 ⟨rfl, ho3⟩
  exact ⟨rfl, rfl, HO2.out.trans ho3⟩

set_option maxRecDepth 100000 in
set_option maxHeartbeats 4000000 in
theorem run_ok (R T g capg : Nat) (ls : List Nat) (hg : Good ls) (s : Value) (l : List Bool) (N p : Nat) (w : World) (hx : Has w R (rdr s N p)) (hT : Tb w T g capg ls) (hs : Sl w s (Bs.pack l)) (hl : Hid (N = l.length)) (hN : N ≤ 2251799813685248) (hp : p ≤ N)
    (y q v : Nat) (hr : Hid (Hd.rd ls l p = (y, q, 0))) (hq : q + Hd.ex y ≤ N) (hv : Hid (v = Hd.num l q (Hd.ex y))) :
    Calls Tryz.prog 220 #[.pointer (some ⟨R, 0, none⟩), .pointer (some ⟨T, 0, none⟩)] w fun e w' => e = .returned (.agg #[.int .i64 (y : Int), .int .i64 (v : Int)]) ∧ Has w' R (rdr s N (q + Hd.ex y)) ∧ Only R w w' := by
  have hb0 : Below w.heap.size w (w.alloc (.cells #[.int .i64 0, .int .i64 0] 192)) := below1 _ _
  have HS := Lib.hid (symbol_any R T g capg ls hg s l N p _ (hx.later hb0) (hT.below hb0) (hs.later hb0) hl hN hp y q 0 hr)
  have HX0 := Lib.hid (hx.later hb0)
  have HSL := Lib.hid (hs.later hb0)
  have HB := Lib.hid hb0
  have HN0 := Lib.hid ((Has.new w (.cells #[.int .i64 0, .int .i64 0] 192)))
  have hRlt : R < w.heap.size := hx.lt
  obtain ⟨a, len, cap, rfl, _⟩ := hs.shape
  obtain ⟨m, hm⟩ : ∃ m, m = Hd.ex y := ⟨_, rfl⟩
  have hm7 : m ≤ 7 := by rw [hm]; exact Hd.ex_le y
  rw [← hm] at hq hv ⊢
  have HM := Lib.hid hm
  have hfd := fld1 (Hd.least y : Int) (m : Int)
  clear hx hs hT hb0 hm
  go_enter Tryz.func220, Tryz.ntmps220
  go_wp2_with fail
  refine HS.out.mono ?_
  clear HS
  intro e w1 h
  obtain ⟨rfl, hx1, ho⟩ := h.ok
  have HS1 := Lib.hid (HSL.out.rdr HX0.out ho)
  have HX1 := Lib.hid hx1
  have HN1 := Lib.hid (HN0.out.only ho (by omega))
  have HO1 := Lib.hid ((Only.of_below HB.out).trans ho)
  clear h ho hx1 HX0 HSL HB HN0
  go_wp2_with fail
  refine (shape_ex y m HM w1).mono ?_
  rintro e w2 ⟨rfl, hb2⟩
  have HS2 := Lib.hid (HS1.out.later hb2)
  have HX2 := Lib.hid (HX1.out.later hb2)
  have HN2 := Lib.hid (HN1.out.later hb2)
  have HO2 := Lib.hid (HO1.out.trans (Only.of_below hb2))
  clear hb2 HN1 HX1 HS1 HO1
  go_wp2_with fail
  refine (number_ok R _ l N q m w2 HX2.out HS2.out hl hN (by omega) hq).mono ?_
  rintro e w3 ⟨rfl, hx3, ho3⟩
  rw [← hv.out]
  have hn3 := HN2.out.only ho3 (by omega)
  obtain ⟨c0, c1, z0, z1⟩ := hn3.two
  have HN3 := Lib.hid hn3
  have HX3 := Lib.hid hx3
  have HO3 := Lib.hid (HO2.out.trans ho3)
  clear hx3 ho3 hn3
  go_wp2
  have hn4 := (HN3.out.setSelf (i := 0) (.int .i64 (y : Int))).setSelf (i := 1) (.int .i64 (v : Int))
  obtain ⟨d0, d1, _, _⟩ := Has.two (x := .int .i64 (y : Int)) (y := .int .i64 (v : Int)) (by simpa using hn4)
  refine bodyPost_ret (v := .agg #[.int .i64 (y : Int), .int .i64 (v : Int)]) (by simp [results, Tryz.results220, go_sem, d0, d1]) rfl ⟨rfl, ?_, ?_⟩
  · exact (HX3.out.set (by simp only; omega) _).set (by simp only; omega) _
  · exact (HO3.out.setNew (Nat.le_refl _) _ _).setNew (Nat.le_refl _) _ _
end Go.Proofs.YtnjlljdbghcobaaGreatDoor
