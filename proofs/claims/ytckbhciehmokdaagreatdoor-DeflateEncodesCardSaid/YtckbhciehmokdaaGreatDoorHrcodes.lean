import Derived.Test.YtckbhciehmokdaaGreatDoorDrng
namespace Go.Proofs.YtckbhciehmokdaaGreatDoor
set_option maxRecDepth 100000
set_option maxHeartbeats 8000000
open Go.RowKit
def Cod (ls : List Nat) (l i k nx le : Nat) : Prop := Hf.At ls l i k /\ Hf.st ls k = (nx, le) /\ le <= l + 1 /\ nx <= 32768 /\ k <= (Hf.ordl ls).length
def Dbl (ls : List Nat) (k nx le m c : Nat) : Prop := c = nx * 2 ^ m /\ c * 2 ^ (Hf.ln ls (Hf.sy ls k) - le - m) = Hf.cd ls k
theorem Dbl.start {ls : List Nat} {k nx le : Nat} (h : Hf.st ls k = (nx, le)) : Dbl ls k nx le 0 nx := by
 refine ⟨by simp, ?_⟩
 unfold Hf.cd; rw [h]; rfl
theorem Dbl.step {ls : List Nat} {k nx le m c : Nat} (h : Dbl ls k nx le m c) (hm : le + m < Hf.ln ls (Hf.sy ls k)) : Dbl ls k nx le (m + 1) (2 * c) := by
 obtain ⟨h1, h2⟩ := h
 refine ⟨by rw [h1, Nat.pow_succ, Nat.mul_comm 2, Nat.mul_assoc], ?_⟩
 rw [<- h2, show Hf.ln ls (Hf.sy ls k) - le - m = (Hf.ln ls (Hf.sy ls k) - le - (m + 1)) + 1 by omega, Nat.pow_succ, Nat.mul_comm 2 c, Nat.mul_assoc, Nat.mul_comm 2]
theorem Dbl.le {ls : List Nat} {k nx le m c : Nat} (h : Dbl ls k nx le m c) : c <= Hf.cd ls k := by
 rw [<- h.2]
 exact Nat.le_mul_of_pos_right _ (Nat.two_pow_pos _)
theorem Dbl.done {ls : List Nat} {k nx le m c : Nat} (h : Dbl ls k nx le m c) (hm : le + m = Hf.ln ls (Hf.sy ls k)) : c = Hf.cd ls k := by
 rw [<- h.2, show Hf.ln ls (Hf.sy ls k) - le - m = 0 by omega]; simp
theorem row_codes {w1 wr : World} {C len : Nat} {ls : List Nat} {k i c : Nat} (hr : Rw wr C len (fun j => (Hf.outOf len (Hf.codedTo ls k))[j]?.getD 0)) (ho : Only C w1 wr) (hi : i = Hf.sy ls k) (hc : c = Hf.cd ls k) (hil : i < len) :
  Rw (wr.setCell ⟨C, i, none⟩ (.int .i64 (c : Int))) C len (fun j => (Hf.outOf len (Hf.codedTo ls (k + 1)))[j]?.getD 0) /\ Only C w1 (wr.setCell ⟨C, i, none⟩ (.int .i64 (c : Int))) := by
 refine ⟨row_set hr i c hil fun j hj => ?_, ho.trans (only_set _ _ _ _)⟩
 simp only [Hf.codedTo]
 rw [Hf.outOf_snoc, <- hi, <- hc]
 by_cases e : j = i
 ·rw [if_pos e, e, List.getElem?_set_self (by rw [Hf.outOf_length]; exact hil)]; rfl
 ·rw [if_neg e, List.getElem?_set_ne (by omega)]
theorem rcodes_ok (zs : List Int) (s : Value) (w : World) (hz : Zl w s zs) (hf : Fit zs) : Calls Tryz.prog 34 #[s] w (CodesPost w (Hf.codes (nat zs))) := by
 have HC := rcheck_any zs s w hz
 have hv := hf.valid
 have hp := hf.pf
 obtain ⟨b, off, cap, rfl, hpos, h288, hb, hcl⟩ := hv.lsl hz (Nat.le_refl _)
 obtain ⟨len, hlen⟩ : ∃ len, len = (nat zs).length := ⟨_, rfl⟩
 rw [<- hlen] at hpos h288 hcl HC ⊢
 have HLN := LH hlen
 have HCL := LH hcl
 have HP := LH (fun _ : Unit => hp)
 have HV := LH hv
 have hmk := run_make_row' (P := Tryz.prog) 57 3 (.int .i64 0) 8 Tryz.underlying57 Tryz.infoInt rfl .i64 .i64 len (by omega) (by omega)
 unfold Fit at hf
 generalize chk zs = c0 at HC hf
 clear hz hlen hcl hp hv
 obtain ⟨w1, hw1⟩ : ∃ w1, w1 = w.alloc (.cells (madeCells #[Value.int .i64 0] len) 3) := ⟨_, rfl⟩
 have R1 : Hid (Rw w1 w.heap.size len (fun j => (Hf.outOf len (Hf.codedTo (nat zs) 0))[j]?.getD 0)) := by
  have h := made_nat w len
  rw [<- hw1] at h
  refine ⟨h.lt, fun i hi => ?_, h.free⟩
  rw [h.cell i hi]
  simp [Hf.outOf, Hf.codedTo, hi]
 have hb1 : Below w.heap.size w w1 := by rw [hw1]; exact below1 _ _
 have hz1 : w1.heap.size = w.heap.size + 1 := by rw [hw1]; simp
 have HB1 := LH hb1
 have HZ1 := LH hz1
 clear hb1 hz1
 rcases hf with rfl | rfl
 all_goals
  go_enter Tryz.func34, Tryz.ntmps34
  go_wp2_with (go_at_call 68; refine HC.mono ?_; rintro e w' ⟨rfl, rfl⟩)
  clear HC hmk
  rw [<- hw1]
  clear hw1
  go_loopw [6, 7, 8, 9] (fun s6 s7 s8 _ wr => ∃ l k nx le : Nat, l <= 15 /\ s8 = .int .i64 ((l : Int) + 1) /\ s6 = .int .i64 ((nx : Int) - 1) /\ s7 = .int .i64 le /\ Hid (Cod (nat zs) l 0 k nx le) /\
   Hid (Rw wr w.heap.size len (fun j => (Hf.outOf len (Hf.codedTo (nat zs) k))[j]?.getD 0)) /\ Hid (Only w.heap.size w1 wr)) (fun _ _ s _ _ => 16 - (intOf s).toNat)
  case atStart => exact ⟨0, 0, 0, 0, by omega, by go_num, by go_num, rfl, ⟨Hf.At.start _, rfl, by omega, by omega, by omega⟩, R1, Only.refl _ _⟩
  case round =>
   obtain ⟨l, k, nx, le, hl, rfl, rfl, rfl, KC, KR, KO⟩ := hrel
   by_cases hl15 : l < 15
   ·go_wp2
    go_loopw [6, 7, 9] (fun s6 s7 s9 wx => ∃ i k nx le : Nat, i <= len /\ s9 = .int .i64 i /\ s6 = .int .i64 ((nx : Int) - 1) /\ s7 = .int .i64 le /\ Hid (Cod (nat zs) l i k nx le) /\
     Hid (Rw wx w.heap.size len (fun j => (Hf.outOf len (Hf.codedTo (nat zs) k))[j]?.getD 0)) /\ Hid (Only w.heap.size w1 wx)) (fun _ _ s _ => len - (intOf s).toNat)
    case atStart => exact ⟨0, k, nx, le, by omega, by go_num, rfl, rfl, KC, KR, KO⟩
    case round =>
     clear KC KR KO
     obtain ⟨i, k, nx, le, hi, rfl, rfl, rfl, KC, KR, KO⟩ := hrel
     by_cases hlt : i < len
     ·have hci : wr.cell? ⟨b, off + i, none⟩ = some (.int .i64 (((nat zs)[i]?.getD 0 : Nat) : Int)) := by
       rw [cell_of_heap (KO.out.block b (by have := HZ1.out; omega) (by omega)), HB1.out.cell (p := ⟨b, off + i, none⟩) hb]
       exact HCL.out i hlt
      obtain ⟨x, hx⟩ : ∃ x, x = (nat zs)[i]?.getD 0 := ⟨_, rfl⟩
      rw [<- hx] at hci
      have HX : Hid (x = Hf.ln (nat zs) i) := hx
      clear hx
      by_cases hxl : x = l + 1
      ·obtain ⟨hk1, hk2⟩ := KC.out.1.here (by rw [<- HX.out]; exact hxl) (by rw [<- HLN.out]; exact hlt) hl15
       have hcs := Hf.cd_small (nat zs) k hk1 (HP.out ())
       have hle := KC.out.2.2.1
       have hlx : Hid (Hf.ln (nat zs) (Hf.sy (nat zs) k) = l + 1) := by show _ = _; rw [hk2, <- HX.out]; exact hxl
       have HK2 := LH hk2
       have HCS := LH (fun _ : Unit => hcs)
       have HK1 := LH (fun _ : Unit => hk1)
       have hx0 : ((x : Int) != (l : Int) + 1) = false := by rw [bne_eq_false_iff_eq]; omega
       have D0 : Hid (Dbl (nat zs) k nx le 0 nx) := Dbl.start KC.out.2.1
       have hnx : nx <= 32768 := KC.out.2.2.2.1
       clear hk1 hk2 hcs hxl
       go_wp2
       go_loop [6, 7] (fun s6 s7 => ∃ m c : Nat, le + m <= l + 1 /\ s6 = .int .i64 c /\ s7 = .int .i64 ((le : Int) + (m : Int)) /\ Hid (Dbl (nat zs) k nx le m c)) (fun _ s => 16 - (intOf s).toNat)
       case atStart => exact ⟨0, nx, by omega, by go_num, by go_num, D0⟩
       case round =>
        clear D0
        obtain ⟨m, c, hm, rfl, rfl, KD⟩ := hrel
        have hc := KD.out.le
        have hc2 : c < 32768 := Nat.lt_of_le_of_lt hc (HCS.out ())
        clear hc
        by_cases hm2 : le + m < l + 1
        ·go_wp2
         go_round
         case rel => exact ⟨m + 1, 2 * c, by omega, by go_num, by go_num, KD.out.step (by rw [hlx.out]; exact hm2)⟩
         case measure => simp [intOf]; omega
        ·have hcd := KD.out.done (by rw [hlx.out]; omega)
         have hi2 := KR.out.cell i hlt
         have hf2 := KR.out.free i hlt
         have RW := LH (row_codes KR.out KO.out HK2.out.symm hcd hlt)
         have ST : Hid (Cod (nat zs) l (i + 1) (k + 1) (c + 1) (l + 1)) :=
          ⟨KC.out.1.put (by rw [<- HK2.out, hlx.out]), by rw [Hf.st_succ, <- hcd, hlx.out], Nat.le_refl _, by omega, HK1.out ()⟩
         clear hcd
         go_wp2
         go_roundw
         case rel => exact ⟨i + 1, k + 1, c + 1, l + 1, by omega, by go_num, by go_num, by go_num, ST, RW.out.1, RW.out.2⟩
         case measure => simp [intOf]; omega
      ·have hx0 : ((x : Int) != (l : Int) + 1) = true := by rw [bne_iff_ne]; omega
       have KC2 : Hid (Cod (nat zs) l (i + 1) k nx le) := ⟨KC.out.1.skip (by rw [<- HX.out]; exact hxl), KC.out.2⟩
       go_wp2
       go_roundw
       case rel => exact ⟨i + 1, k, nx, le, by omega, by go_num, rfl, rfl, KC2, KR, KO⟩
       case measure => simp [intOf]; omega
     ·obtain rfl : i = len := by omega
      go_wp2
      go_roundw
      case rel => exact ⟨l + 1, k, nx, le, by omega, by go_num, rfl, rfl, ⟨by have := KC.out.1; rw [HLN.out] at this; exact this.next, KC.out.2.1, by have := KC.out.2.2.1; omega, KC.out.2.2.2.1, KC.out.2.2.2.2⟩, KR, KO⟩
      case measure => simp [intOf]; omega
   ·obtain rfl : l = 15 := by omega
    go_wp2
    go_ret2
    have e : Hf.outOf len (Hf.codedTo (nat zs) k) = Hf.codes (nat zs) := by rw [HLN.out, KC.out.1.fin]; rfl
    have hr := KR.out
    rw [e] at hr
    refine ⟨.slice (some ⟨w.heap.size, 0, none⟩) len len, rfl, Or.inr ⟨w.heap.size, len, by rw [Hf.codes_length, <- HLN.out], by rw [Hf.codes_length, <- HLN.out]; exact Nat.le_refl _, Nat.le_refl _, by rw [Hf.codes_length, <- HLN.out]; exact hr⟩, HB1.out.trans (KO.out.belowB (Nat.le_refl _) (by have := HZ1.out; omega))⟩
end Go.Proofs.YtckbhciehmokdaaGreatDoor
