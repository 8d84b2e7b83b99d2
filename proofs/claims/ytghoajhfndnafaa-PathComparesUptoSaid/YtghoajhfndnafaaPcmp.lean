/- path.Compare. -/
import Derived.Test.YtghoajhfndnafaaPiter

namespace Go.Proofs.Ytghoajhfndnafaa
set_option maxRecDepth 100000
open Go.RowKit

/-- What a cutter has still to tell. -/
def rem (rest : Tx) (m : Bool) : List Tx := if m then Pn.pieces rest else []
theorem rem_first (s : Tx) : rem s (!s.isEmpty) = Pn.names s := by
  unfold rem Pn.names
  cases s <;> simp
theorem rem_step (s : Tx) : rem s true = (Pn.cut s).1 :: rem (Pn.cut s).2.1 (Pn.cut s).2.2 := by
  show Pn.pieces s = _
  rw [Pn.pieces_by_cut]
  rfl
theorem Cu.keep {w w' : World} {b c m : Nat} {s : Tx} {z : Bool} (h : Cu w b s z) (hl : Lo c m w w') (hb : b + 2 ≤ c ∨ c + m ≤ b) : Cu w' b s z :=
  ⟨hl.has h.1 (by omega), hl.has h.2 (by omega)⟩

set_option maxRecDepth 100000 in
set_option maxHeartbeats 4000000 in
theorem compare_any (s t : Tx) (w : World) (hs : s.length ≤ 9223372036854775807) (ht : t.length ≤ 9223372036854775807) :
    Calls Try.prog 27 #[.string (bx s), .string (bx t)] w fun e w' => e = .returned (.int .i64 (Pn.cmp s t)) ∧ Below w.heap.size w w' := by
  have HS := Lib.hid (fun _ : Unit => hs)
  have HT := Lib.hid (fun _ : Unit => ht)
  have HA := Lib.hid (fun w1 => cutter_any s w1)
  have HB := Lib.hid (fun w1 => cutter_any t w1)
  have HC1 := Lib.hid (fun s m b w1 h hl => cutter1_any s m b w1 h hl)
  obtain ⟨S, hS⟩ : ∃ S, S = bx s := ⟨_, rfl⟩
  obtain ⟨T, hT⟩ : ∃ T, T = bx t := ⟨_, rfl⟩
  rw [← hS] at HA ⊢
  rw [← hT] at HB ⊢
  clear hs ht hS hT
  have c1 : ∀ args w, (callFunc 46 args).run Try.prog w = .ok (.enter 46 args) w := enters_of Try.func46 (by kernel_rfl) rfl
  obtain ⟨R, hR⟩ : ∃ R, R = Pn.cmp s t := ⟨_, rfl⟩
  rw [← hR]
  have HR := Lib.hid hR
  clear hR
  go_enter Try.func27, Try.ntmps27
  go_wp2_with (first
    | (go_at_call 37; refine (HA.out w).mono ?_; rintro e w1 ⟨rfl, hc1, hb1, hz1⟩; have HCA := Lib.hid hc1; have HB1 := Lib.hid hb1; have HZ1 := Lib.hid hz1; clear hc1 hb1 hz1 HA)
    | (go_at_call 37; refine (HB.out w1).mono ?_; rintro e w2 ⟨rfl, hc2, hb2, hz2⟩; have HCB := Lib.hid hc2; have HB2 := Lib.hid hb2; have HZ2 := Lib.hid hz2; clear hc2 hb2 hz2 HB))
  have HBB : Hid (w1.heap.size = w.heap.size + 2) := HZ1.out
  have HCA2 : Hid (Cu w2 w.heap.size s !s.isEmpty) := HCA.out.keep (Lo.of_below (b := w1.heap.size) (m := 2) HB2.out) (Or.inl (by rw [HBB.out]; exact Nat.le_refl _))
  have HBW : Hid (Below w.heap.size w w2) := HB1.out.trans (HB2.out.mono HB1.out.size)
  have HF : Hid (R = Pn.cmpL (rem s (!s.isEmpty)) (rem t (!t.isEmpty))) := by show _ = _; rw [rem_first, rem_first]; exact HR.out
  clear HB1 HB2 HZ1 HZ2 HCA HR
  generalize (!s.isEmpty) = za at HCA2 HF
  generalize (!t.isEmpty) = zb at HCB HF
  go_loopw [7] (fun _ wr => ∃ (ra rb : Tx) (ma mb : Bool), Hid (Cu wr w.heap.size ra ma) ∧ Hid (Cu wr w1.heap.size rb mb) ∧ Hid (Unit → ra.length ≤ s.length) ∧ Hid (Unit → rb.length ≤ t.length) ∧ Hid (R = Pn.cmpL (rem ra ma) (rem rb mb)) ∧ Hid (Below w.heap.size w wr))
    (fun _ wr => mz w.heap.size (.bool true) wr)
  case atStart => exact ⟨s, t, za, zb, HCA2, HCB, Lib.hid (fun _ => Nat.le_refl _), Lib.hid (fun _ => Nat.le_refl _), HF, HBW⟩
  case round =>
    obtain ⟨ra, rb, ma, mb, KA, KB, KLA, KLB, KF, KW⟩ := hrel
    clear HCA2 HCB HF HBW
    go_wp2_with fail
    refine (HC1.out ra ma _ wr KA.out (Nat.le_trans (KLA.out ()) (HS.out ()))).mono ?_
    rintro e w3 ⟨rfl, ha3, hl3, hz3⟩
    have HA3 := Lib.hid ha3
    have HL3 := Lib.hid hl3
    have HZ3 := Lib.hid hz3
    have KB3 := Lib.hid (KB.out.keep hl3 (Or.inr (by rw [HBB.out]; exact Nat.le_refl _)))
    clear ha3 hl3 hz3
    obtain ⟨X, hX⟩ : ∃ X, X = bx (Pn.cut ra).1 := ⟨_, rfl⟩
    rw [← hX]
    have HX := Lib.hid hX
    clear hX
    go_wp2_with fail
    refine (HC1.out rb mb _ w3 KB3.out (Nat.le_trans (KLB.out ()) (HT.out ()))).mono ?_
    rintro e w4 ⟨rfl, hb4, hl4, hz4⟩
    have HB4 := Lib.hid hb4
    have HL4 := Lib.hid hl4
    have HA4 := Lib.hid (HA3.out.keep hl4 (Or.inl (by rw [HBB.out]; exact Nat.le_refl _)))
    clear hb4 hl4 hz4 
    obtain ⟨Y, hY⟩ : ∃ Y, Y = bx (Pn.cut rb).1 := ⟨_, rfl⟩
    rw [← hY]
    have HY := Lib.hid hY
    clear hY
    have HW4 : Hid (Below w.heap.size w w4) := HL4.out.below (HL3.out.below KW.out (Nat.le_refl _) KW.out.size) (by rw [HBB.out]; omega) (Nat.le_trans KW.out.size HL3.out.size)
    cases ma with
    | false =>
      cases mb with
      | false =>
        have HE : Hid (R = 0) := KF.out
        go_wp2_with fail
        go_ret
        exact ⟨by rw [HE.out]; rfl, HW4.out⟩
      | true =>
        have HE : Hid (R = -1) := by show _ = _; rw [KF.out, rem_step]; rfl
        go_wp2_with fail
        go_ret
        exact ⟨by rw [HE.out]; rfl, HW4.out⟩
    | true =>
      cases mb with
      | false =>
        have HE : Hid (R = 1) := by show _ = _; rw [KF.out, rem_step]; rfl
        go_wp2_with fail
        go_ret
        exact ⟨by rw [HE.out]; rfl, HW4.out⟩
      | true =>
        have HCM := Lib.hid (Try.strings_Compare X Y w4)
        have HE : Hid (R = if Lib.compareBytes (Pn.cut ra).1 (Pn.cut rb).1 ≠ 0 then Lib.compareBytes (Pn.cut ra).1 (Pn.cut rb).1 else Pn.cmpL (rem (Pn.cut ra).2.1 (Pn.cut ra).2.2) (rem (Pn.cut rb).2.1 (Pn.cut rb).2.2)) := by show _ = _; rw [KF.out, rem_step ra, rem_step rb]; rfl
        have hcx : X.data.toList = (Pn.cut ra).1 := by rw [HX.out]; rfl
        have hcy : Y.data.toList = (Pn.cut rb).1 := by rw [HY.out]; rfl
        rw [hcx, hcy] at HCM
        have HM := Lib.hid (mz_next KA.out HA4.out)
        clear hcx hcy
        generalize Lib.compareBytes (Pn.cut ra).1 (Pn.cut rb).1 = c at HCM HE
        by_cases h0 : c = 0
        · subst h0
          have HE2 : Hid (R = Pn.cmpL (rem (Pn.cut ra).2.1 (Pn.cut ra).2.2) (rem (Pn.cut rb).2.1 (Pn.cut rb).2.2)) := by show _ = _; rw [HE.out, if_neg (by simp)]
          clear HE
          go_wp2_with (go_at_call 38; refine HCM.out.mono ?_; rintro e w5 ⟨rfl, rfl⟩)
          go_roundw
          case rel => exact ⟨_, _, _, _, HA4, HB4, Lib.hid (fun _ => Nat.le_trans (Pn.cut_le ra).2 (KLA.out ())), Lib.hid (fun _ => Nat.le_trans (Pn.cut_le rb).2 (KLB.out ())), HE2, HW4⟩
          case measure => exact HM.out
        · have hc0 : (c != 0) = true := by simpa using h0
          have HE2 : Hid (R = c) := by show _ = _; rw [HE.out, if_pos h0]
          clear HE h0
          go_wp2_with (go_at_call 38; refine HCM.out.mono ?_; rintro e w5 ⟨rfl, rfl⟩)
          go_ret
          exact ⟨by rw [HE2.out]; rfl, HW4.out⟩
end Go.Proofs.Ytghoajhfndnafaa
