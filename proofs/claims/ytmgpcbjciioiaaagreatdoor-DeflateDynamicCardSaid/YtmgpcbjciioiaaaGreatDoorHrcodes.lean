import Derived.Test.YtmgpcbjciioiaaaGreatDoorSlone
namespace Go.Proofs.YtmgpcbjciioiaaaGreatDoor
set_option maxRecDepth 100000
set_option maxHeartbeats 8000000
section
open Go.RowKit
theorem rare_any (zs : List Int) (s : Value) (w : World) (hz : Zl w s zs) : Calls Tryz.prog 110 #[s] w fun e w' => e = .returned (.bool (decide (Valid zs))) /\ w = w' := by
 obtain ⟨a,len,cap,rfl,hl,h2,h3,h4⟩ := hz
 clear h3
 by_cases g1 : len = 0
 ·have hd : decide (Valid zs) = false := decide_eq_false fun h => by have := h.1; omega
  have e1 : ((len : Int) == 0) = true := by rw [beq_iff_eq]; omega
  rw [hd]
  clear hd hl g1 h4
  go_enter Tryz.func110,Tryz.ntmps110
  go_wp2
  go_ret
  exact ⟨rfl,rfl⟩
 ·have e1 : ((len : Int) == 0) = false := by rw [beq_eq_false_iff_ne]; omega
  by_cases g2 : 288 < len
  ·have hd : decide (Valid zs) = false := decide_eq_false fun h => by have := h.2.1; omega
   have e2 : decide (288 < (len : Int)) = true := by simp; omega
   rw [hd]
   clear hd hl g1 h4
   go_enter Tryz.func110,Tryz.ntmps110
   go_wp2
   go_ret
   exact ⟨rfl,rfl⟩
  ·have e2 : decide (288 < (len : Int)) = false := by simp; omega
   have HV := LH (valid_iff zs (by omega) (by omega))
   obtain ⟨b,off,rfl,hb,hc⟩ := h4 (by omega)
   have HL := LH hl
   have HC := LH hc
   clear hl h4 hc g1
   go_enter Tryz.func110,Tryz.ntmps110
   go_wp2
   go_loop [3] (fun s3 => ∃ k : Nat,k <= len /\ s3 = .int .i64 k /\ Hid (∀ i,i < k -> ¬ Bad (zs[i]?.getD 0))) (fun s => len - (intOf s).toNat)
   case atStart => exact ⟨0,Nat.zero_le _,rfl,fun i hi => by omega⟩
   case round =>
    obtain ⟨k,hk,rfl,KB⟩ := hrel
    by_cases hlt : k < len
    ·have hck := HC.out k hlt
     obtain ⟨z,hz⟩ : ∃ z,z = zs[k]?.getD 0 := ⟨_,rfl⟩
     rw [<- hz] at hck
     have HK := LH hz
     clear hz
     have no : Bad z -> Hid (decide (Valid zs) = false) := fun hb => decide_eq_false fun h => HV.out.1 h k (by have := HL.out; omega) (by rw [<- HK.out]; exact hb)
     by_cases d1 : z < 0
     ·have hd1 : decide (z < 0) = true := by simpa using d1
      have NO := no (Or.inl d1)
      clear no
      go_wp2
      go_ret
      exact ⟨by rw [NO.out]; rfl,rfl⟩
     ·have hd1 : decide (z < 0) = false := by simpa using d1
      by_cases d2 : 15 < z
      ·have hd2 : decide (15 < z) = true := by simpa using d2
       have NO := no (Or.inr d2)
       clear no
       go_wp2
       go_ret
       exact ⟨by rw [NO.out]; rfl,rfl⟩
      ·have hd2 : decide (15 < z) = false := by simpa using d2
       clear no
       go_wp2
       go_round
       case rel =>
        refine ⟨k + 1,by omega,by go_num,?_⟩
        show ∀ i,i < k + 1 -> _
        intro i hi
        by_cases e : i = k
        ·rw [e,<- HK.out]; exact fun h => h.elim d1 d2
        ·exact KB.out i (by omega)
       case measure => simp [intOf]; omega
    ·obtain rfl : k = len := by omega
     have YES : Hid (decide (Valid zs) = true) := decide_eq_true (HV.out.2 (by rw [<- HL.out]; exact KB.out))
     go_wp2
     go_ret
     exact ⟨by rw [YES.out]; rfl,rfl⟩
theorem tk_le (ls : List Nat) (q : Nat -> Bool) (k : Nat) : Hf.tk ls q k <= 32768 * k := by
 induction k with
 | zero => exact Nat.le_refl _
 | succ k ih =>
  have h : 2 ^ (15 - Hf.ln ls k) <= 2 ^ 15 := Nat.pow_le_pow_right (by omega) (by omega)
  simp only [Hf.tk]
  split <;> omega
theorem tk_step (ls : List Nat) (k x t : Nat) (hx : x = ls[k]?.getD 0) (ht : t = Hf.tk ls (fun x => decide (0 < x)) k) : Hf.tk ls (fun x => decide (0 < x)) (k + 1) = t + (if 0 < x then 2 ^ (15 - x) else 0) := by
 simp only [Hf.tk]
 show _ + (if decide (0 < ls[k]?.getD 0) = true then 2 ^ (15 - ls[k]?.getD 0) else 0) = _
 rw [<- hx,<- ht]
 simp
theorem wrap_pow (d c : Nat) (h : c = 2 ^ d) (hc : c <= 32768) : wrap64 (2 ^ d) = (c : Int) := by
 have e : ((2 : Int) ^ d) = (c : Int) := by rw [h]; simp
 rw [e,IntWalk.wrap64_in _ (by omega)]
theorem rtakes_any (ls : List Nat) (s : Value) (B : Nat) (w : World) (hL : Lsl B w s ls) (h15 : ∀ i,i < ls.length -> Hf.ln ls i <= 15) :
  Calls Tryz.prog 111 #[s] w fun e w' => e = .returned (.int .i64 (Hf.tk ls (fun x => decide (0 < x)) ls.length : Int)) /\ w = w' := by
 obtain ⟨b,off,cap,rfl,hpos,h288,hb,hc⟩ := hL
 obtain ⟨len,hlen⟩ : ∃ len,len = ls.length := ⟨_,rfl⟩
 rw [<- hlen] at hpos h288 hc h15 ⊢
 have HC := LH hc
 have H15 := LH h15
 clear hc h15 hlen
 go_enter Tryz.func111,Tryz.ntmps111
 go_wp2
 go_loop [3,4] (fun s3 s4 => ∃ k t : Nat,k <= len /\ s4 = .int .i64 k /\ s3 = .int .i64 t /\ Hid (t = Hf.tk ls (fun x => decide (0 < x)) k)) (fun _ s => len - (intOf s).toNat)
 case atStart => exact ⟨0,0,Nat.zero_le _,rfl,rfl,rfl⟩
 case round =>
  obtain ⟨k,t,hk,rfl,rfl,KT⟩ := hrel
  by_cases hlt : k < len
  ·have hck := HC.out k hlt
   have h15k := H15.out k hlt
   unfold Hf.ln at h15k
   obtain ⟨x,hx⟩ : ∃ x,x = ls[k]?.getD 0 := ⟨_,rfl⟩
   have ST := LH (tk_step ls k x t hx KT.out)
   rw [<- hx] at hck h15k
   have ht := tk_le ls (fun x => decide (0 < x)) k
   rw [<- KT.out] at ht
   clear hx
   by_cases h0 : 0 < x
   ·obtain ⟨d,hd⟩ : ∃ d,d = 15 - x := ⟨_,rfl⟩
    obtain ⟨c,hc⟩ : ∃ c,c = 2 ^ d := ⟨_,rfl⟩
    have hc2 : c <= 32768 := by rw [hc]; exact Nat.le_trans (Nat.pow_le_pow_right (by omega) (show d <= 15 by omega)) (by decide)
    have hw := wrap_pow d c hc hc2
    have hd2 : 15 - (x : Int) = (d : Int) := by omega
    have ST2 : Hid (t + c = Hf.tk ls (fun x => decide (0 < x)) (k + 1)) := by show _ = _; rw [ST.out,if_pos h0,hc,hd]
    clear hc hd
    go_wp2
    go_round
    case rel => exact ⟨k + 1,t + c,by omega,by go_num,by go_num,ST2⟩
    case measure => simp [intOf]; omega
   ·have ST2 : Hid (t = Hf.tk ls (fun x => decide (0 < x)) (k + 1)) := by show _ = _; rw [ST.out,if_neg h0]; rfl
    go_wp2
    go_round
    case rel => exact ⟨k + 1,t,by omega,by go_num,rfl,ST2⟩
    case measure => simp [intOf]; omega
  ·obtain rfl : k = len := by omega
   go_wp2
   go_ret
   exact ⟨by rw [<- KT.out]; rfl,rfl⟩
theorem rcheck_any (zs : List Int) (s : Value) (w : World) (hz : Zl w s zs) : Calls Tryz.prog 68 #[s] w fun e w' => e = .returned (.int .i64 (chk zs)) /\ w = w' := by
 have H1 := rare_any zs s w hz
 by_cases hv : Valid zs
 ·have e : chk zs = cmpr (takes (nat zs)) := if_pos hv
  have H2 := rtakes_any (nat zs) s w.heap.size w (hv.lsl hz (Nat.le_refl _)) (fun i hi => hv.le i hi)
  rw [e,decide_eq_true hv] at *
  rw [<- Hf.pf_all _ (fun i hi => hv.le i hi),takes_pf _ (fun i hi => hv.le i hi)] at H2
  clear e
  obtain ⟨a,len,cap,rfl,hl⟩ := hz.shape
  generalize takes (nat zs) = t at H2 ⊢
  clear hz hv hl
  by_cases h : 32768 < t
  ·have e : cmpr t = 11 := by unfold cmpr; rw [if_pos h]
   have h1 : decide (32768 < (t : Int)) = true := by simp; omega
   rw [e]
   clear e
   go_enter Tryz.func68,Tryz.ntmps68
   go_wp2_with (first | (go_at_call 110; refine H1.mono ?_; rintro e w' ⟨rfl,rfl⟩) | (go_at_call 111; refine H2.mono ?_; rintro e w' ⟨rfl,rfl⟩))
   go_ret
   exact ⟨rfl,rfl⟩
  ·have h1 : decide (32768 < (t : Int)) = false := by simp; omega
   by_cases h2 : t < 32768
   ·have e : cmpr t = 12 := by unfold cmpr; rw [if_neg h,if_pos h2]
    have h3 : decide ((t : Int) < 32768) = true := by simp; omega
    rw [e]
    clear e
    go_enter Tryz.func68,Tryz.ntmps68
    go_wp2_with (first | (go_at_call 110; refine H1.mono ?_; rintro e w' ⟨rfl,rfl⟩) | (go_at_call 111; refine H2.mono ?_; rintro e w' ⟨rfl,rfl⟩))
    go_ret
    exact ⟨rfl,rfl⟩
   ·have e : cmpr t = 0 := by unfold cmpr; rw [if_neg h,if_neg h2]
    have h3 : decide ((t : Int) < 32768) = false := by simp; omega
    rw [e]
    clear e
    go_enter Tryz.func68,Tryz.ntmps68
    go_wp2_with (first | (go_at_call 110; refine H1.mono ?_; rintro e w' ⟨rfl,rfl⟩) | (go_at_call 111; refine H2.mono ?_; rintro e w' ⟨rfl,rfl⟩))
    go_ret
    exact ⟨rfl,rfl⟩
 ·have e : chk zs = 2 := if_neg hv
  rw [decide_eq_false hv] at H1
  rw [e]
  clear e
  obtain ⟨a,len,cap,rfl,hl⟩ := hz.shape
  clear hz hv hl
  go_enter Tryz.func68,Tryz.ntmps68
  go_wp2_with (go_at_call 110; refine H1.mono ?_; rintro e w' ⟨rfl,rfl⟩)
  go_ret
  exact ⟨rfl,rfl⟩
end
section
open Go.RowKit
def Cod (ls : List Nat) (l i k nx le : Nat) : Prop := Hf.At ls l i k /\ Hf.st ls k = (nx,le) /\ le <= l + 1 /\ nx <= 32768 /\ k <= (Hf.ordl ls).length
def Dbl (ls : List Nat) (k nx le m c : Nat) : Prop := c = nx * 2 ^ m /\ c * 2 ^ (Hf.ln ls (Hf.sy ls k) - le - m) = Hf.cd ls k
theorem Dbl.start {ls : List Nat} {k nx le : Nat} (h : Hf.st ls k = (nx,le)) : Dbl ls k nx le 0 nx := by
 refine ⟨by simp,?_⟩
 unfold Hf.cd; rw [h]; rfl
theorem Dbl.step {ls : List Nat} {k nx le m c : Nat} (h : Dbl ls k nx le m c) (hm : le + m < Hf.ln ls (Hf.sy ls k)) : Dbl ls k nx le (m + 1) (2 * c) := by
 obtain ⟨h1,h2⟩ := h
 refine ⟨by rw [h1,Nat.pow_succ,Nat.mul_comm 2,Nat.mul_assoc],?_⟩
 rw [<- h2,show Hf.ln ls (Hf.sy ls k) - le - m = (Hf.ln ls (Hf.sy ls k) - le - (m + 1)) + 1 by omega,Nat.pow_succ,Nat.mul_comm 2 c,Nat.mul_assoc,Nat.mul_comm 2]
theorem Dbl.le {ls : List Nat} {k nx le m c : Nat} (h : Dbl ls k nx le m c) : c <= Hf.cd ls k := by
 rw [<- h.2]
 exact Nat.le_mul_of_pos_right _ (Nat.two_pow_pos _)
theorem Dbl.done {ls : List Nat} {k nx le m c : Nat} (h : Dbl ls k nx le m c) (hm : le + m = Hf.ln ls (Hf.sy ls k)) : c = Hf.cd ls k := by
 rw [<- h.2,show Hf.ln ls (Hf.sy ls k) - le - m = 0 by omega]; simp
theorem row_codes {w1 wr : World} {C len : Nat} {ls : List Nat} {k i c : Nat} (hr : Rw wr C len (fun j => (Hf.outOf len (Hf.codedTo ls k))[j]?.getD 0)) (ho : Only C w1 wr) (hi : i = Hf.sy ls k) (hc : c = Hf.cd ls k) (hil : i < len) :
  Rw (wr.setCell ⟨C,i,none⟩ (.int .i64 (c : Int))) C len (fun j => (Hf.outOf len (Hf.codedTo ls (k + 1)))[j]?.getD 0) /\ Only C w1 (wr.setCell ⟨C,i,none⟩ (.int .i64 (c : Int))) := by
 refine ⟨row_set hr i c hil fun j hj => ?_,ho.trans (only_set _ _ _ _)⟩
 simp only [Hf.codedTo]
 rw [Hf.outOf_snoc,<- hi,<- hc]
 by_cases e : j = i
 ·rw [if_pos e,e,List.getElem?_set_self (by rw [Hf.outOf_length]; exact hil)]; rfl
 ·rw [if_neg e,List.getElem?_set_ne (by omega)]
theorem rcodes_ok (zs : List Int) (s : Value) (w : World) (hz : Zl w s zs) (hf : Fit zs) : Calls Tryz.prog 34 #[s] w (CodesPost w (Hf.codes (nat zs))) := by
 have HC := rcheck_any zs s w hz
 have hv := hf.valid
 have hp := hf.pf
 obtain ⟨b,off,cap,rfl,hpos,h288,hb,hcl⟩ := hv.lsl hz (Nat.le_refl _)
 obtain ⟨len,hlen⟩ : ∃ len,len = (nat zs).length := ⟨_,rfl⟩
 rw [<- hlen] at hpos h288 hcl HC ⊢
 have HLN := LH hlen
 have HCL := LH hcl
 have HP := LH (fun _ : Unit => hp)
 have HV := LH hv
 have hmk := run_make_row' (P := Tryz.prog) 57 3 (.int .i64 0) 8 Tryz.underlying57 Tryz.infoInt rfl .i64 .i64 len (by omega) (by omega)
 unfold Fit at hf
 generalize chk zs = c0 at HC hf
 clear hz hlen hcl hp hv
 obtain ⟨w1,hw1⟩ : ∃ w1,w1 = w.alloc (.cells (madeCells #[Value.int .i64 0] len) 3) := ⟨_,rfl⟩
 have R1 : Hid (Rw w1 w.heap.size len (fun j => (Hf.outOf len (Hf.codedTo (nat zs) 0))[j]?.getD 0)) := by
  have h := made_nat w len
  rw [<- hw1] at h
  refine ⟨h.lt,fun i hi => ?_,h.free⟩
  rw [h.cell i hi]
  simp [Hf.outOf,Hf.codedTo,hi]
 have hb1 : Below w.heap.size w w1 := by rw [hw1]; exact below1 _ _
 have hz1 : w1.heap.size = w.heap.size + 1 := by rw [hw1]; simp
 have HB1 := LH hb1
 have HZ1 := LH hz1
 clear hb1 hz1
 rcases hf with rfl | rfl
 all_goals
  go_enter Tryz.func34,Tryz.ntmps34
  go_wp2_with (go_at_call 68; refine HC.mono ?_; rintro e w' ⟨rfl,rfl⟩)
  clear HC hmk
  rw [<- hw1]
  clear hw1
  go_loopw [6,7,8,9] (fun s6 s7 s8 _ wr => ∃ l k nx le : Nat,l <= 15 /\ s8 = .int .i64 ((l : Int) + 1) /\ s6 = .int .i64 ((nx : Int) - 1) /\ s7 = .int .i64 le /\ Hid (Cod (nat zs) l 0 k nx le) /\
   Hid (Rw wr w.heap.size len (fun j => (Hf.outOf len (Hf.codedTo (nat zs) k))[j]?.getD 0)) /\ Hid (Only w.heap.size w1 wr)) (fun _ _ s _ _ => 16 - (intOf s).toNat)
  case atStart => exact ⟨0,0,0,0,by omega,by go_num,by go_num,rfl,⟨Hf.At.start _,rfl,by omega,by omega,by omega⟩,R1,Only.refl _ _⟩
  case round =>
   obtain ⟨l,k,nx,le,hl,rfl,rfl,rfl,KC,KR,KO⟩ := hrel
   by_cases hl15 : l < 15
   ·go_wp2
    go_loopw [6,7,9] (fun s6 s7 s9 wx => ∃ i k nx le : Nat,i <= len /\ s9 = .int .i64 i /\ s6 = .int .i64 ((nx : Int) - 1) /\ s7 = .int .i64 le /\ Hid (Cod (nat zs) l i k nx le) /\
     Hid (Rw wx w.heap.size len (fun j => (Hf.outOf len (Hf.codedTo (nat zs) k))[j]?.getD 0)) /\ Hid (Only w.heap.size w1 wx)) (fun _ _ s _ => len - (intOf s).toNat)
    case atStart => exact ⟨0,k,nx,le,by omega,by go_num,rfl,rfl,KC,KR,KO⟩
    case round =>
     clear KC KR KO
     obtain ⟨i,k,nx,le,hi,rfl,rfl,rfl,KC,KR,KO⟩ := hrel
     by_cases hlt : i < len
     ·have hci : wr.cell? ⟨b,off + i,none⟩ = some (.int .i64 (((nat zs)[i]?.getD 0 : Nat) : Int)) := by
       rw [cell_of_heap (KO.out.block b (by have := HZ1.out; omega) (by omega)),HB1.out.cell (p := ⟨b,off + i,none⟩) hb]
       exact HCL.out i hlt
      obtain ⟨x,hx⟩ : ∃ x,x = (nat zs)[i]?.getD 0 := ⟨_,rfl⟩
      rw [<- hx] at hci
      have HX : Hid (x = Hf.ln (nat zs) i) := hx
      clear hx
      by_cases hxl : x = l + 1
      ·obtain ⟨hk1,hk2⟩ := KC.out.1.here (by rw [<- HX.out]; exact hxl) (by rw [<- HLN.out]; exact hlt) hl15
       have hcs := Hf.cd_small (nat zs) k hk1 (HP.out ())
       have hle := KC.out.2.2.1
       have hlx : Hid (Hf.ln (nat zs) (Hf.sy (nat zs) k) = l + 1) := by show _ = _; rw [hk2,<- HX.out]; exact hxl
       have HK2 := LH hk2
       have HCS := LH (fun _ : Unit => hcs)
       have HK1 := LH (fun _ : Unit => hk1)
       have hx0 : ((x : Int) != (l : Int) + 1) = false := by rw [bne_eq_false_iff_eq]; omega
       have D0 : Hid (Dbl (nat zs) k nx le 0 nx) := Dbl.start KC.out.2.1
       have hnx : nx <= 32768 := KC.out.2.2.2.1
       clear hk1 hk2 hcs hxl
       go_wp2
       go_loop [6,7] (fun s6 s7 => ∃ m c : Nat,le + m <= l + 1 /\ s6 = .int .i64 c /\ s7 = .int .i64 ((le : Int) + (m : Int)) /\ Hid (Dbl (nat zs) k nx le m c)) (fun _ s => 16 - (intOf s).toNat)
       case atStart => exact ⟨0,nx,by omega,by go_num,by go_num,D0⟩
       case round =>
        clear D0
        obtain ⟨m,c,hm,rfl,rfl,KD⟩ := hrel
        have hc := KD.out.le
        have hc2 : c < 32768 := Nat.lt_of_le_of_lt hc (HCS.out ())
        clear hc
        by_cases hm2 : le + m < l + 1
        ·go_wp2
         go_round
         case rel => exact ⟨m + 1,2 * c,by omega,by go_num,by go_num,KD.out.step (by rw [hlx.out]; exact hm2)⟩
         case measure => simp [intOf]; omega
        ·have hcd := KD.out.done (by rw [hlx.out]; omega)
         have hi2 := KR.out.cell i hlt
         have hf2 := KR.out.free i hlt
         have RW := LH (row_codes KR.out KO.out HK2.out.symm hcd hlt)
         have ST : Hid (Cod (nat zs) l (i + 1) (k + 1) (c + 1) (l + 1)) :=
          ⟨KC.out.1.put (by rw [<- HK2.out,hlx.out]),by rw [Hf.st_succ,<- hcd,hlx.out],Nat.le_refl _,by omega,HK1.out ()⟩
         clear hcd
         go_wp2
         go_roundw
         case rel => exact ⟨i + 1,k + 1,c + 1,l + 1,by omega,by go_num,by go_num,by go_num,ST,RW.out.1,RW.out.2⟩
         case measure => simp [intOf]; omega
      ·have hx0 : ((x : Int) != (l : Int) + 1) = true := by rw [bne_iff_ne]; omega
       have KC2 : Hid (Cod (nat zs) l (i + 1) k nx le) := ⟨KC.out.1.skip (by rw [<- HX.out]; exact hxl),KC.out.2⟩
       go_wp2
       go_roundw
       case rel => exact ⟨i + 1,k,nx,le,by omega,by go_num,rfl,rfl,KC2,KR,KO⟩
       case measure => simp [intOf]; omega
     ·obtain rfl : i = len := by omega
      go_wp2
      go_roundw
      case rel => exact ⟨l + 1,k,nx,le,by omega,by go_num,rfl,rfl,⟨by have := KC.out.1; rw [HLN.out] at this; exact this.next,KC.out.2.1,by have := KC.out.2.2.1; omega,KC.out.2.2.2.1,KC.out.2.2.2.2⟩,KR,KO⟩
      case measure => simp [intOf]; omega
   ·obtain rfl : l = 15 := by omega
    go_wp2
    go_ret2
    have e : Hf.outOf len (Hf.codedTo (nat zs) k) = Hf.codes (nat zs) := by rw [HLN.out,KC.out.1.fin]; rfl
    have hr := KR.out
    rw [e] at hr
    refine ⟨.slice (some ⟨w.heap.size,0,none⟩) len len,rfl,Or.inr ⟨w.heap.size,len,by rw [Hf.codes_length,<- HLN.out],by rw [Hf.codes_length,<- HLN.out]; exact Nat.le_refl _,Nat.le_refl _,by rw [Hf.codes_length,<- HLN.out]; exact hr⟩,HB1.out.trans (KO.out.belowB (Nat.le_refl _) (by have := HZ1.out; omega))⟩
end
end Go.Proofs.YtmgpcbjciioiaaaGreatDoor
