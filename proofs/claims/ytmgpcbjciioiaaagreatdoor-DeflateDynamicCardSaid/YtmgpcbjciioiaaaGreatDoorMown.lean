import Derived.Test.YtmgpcbjciioiaaaGreatDoorDwr
import Derived.Test.YtmgpcbjciioiaaaGreatDoorMref
import Derived.Test.YtmgpcbjciioiaaaGreatDoorImost
import Derived.Test.YtmgpcbjciioiaaaGreatDoorCarg
import Derived.BigQuiet
import Derived.Laws.StructEq
namespace Go.Proofs.YtmgpcbjciioiaaaGreatDoor
set_option maxRecDepth 100000
set_option maxHeartbeats 8000000
section
open Go.RowKit
theorem clRow_succ (C : List Nat) (k : Nat) : If.clRow C (k + 1) = If.clRow C k ++ Bs.bitsOf (Hf.ln C (Hd.ord k)) 3 := rfl
theorem only_cell {w w' : World} {R b i : Nat} {v : Option Value} (h : Only R w w') (hb : b < w.heap.size) (hne : b ≠ R) (hc : w.cell? ⟨b,i,none⟩ = v) : w'.cell? ⟨b,i,none⟩ = v := (cell_of_heap (h.block b hb hne) i).trans hc
theorem wcode_ok (R : Nat) (l : List Bool) (C : List Nat) (b off cap : Nat) (w : World) (h : Wr w R l) (hl : l.length <= 1000) (hc : ∀ i,i < 19 -> w.cell? ⟨b,off + i,none⟩ = some (.int .i64 ((Hf.ln C i : Nat) : Int))) (hb : b < w.heap.size) (hne : b ≠ R) (hgl : Glob w) (hgR : 1 ≠ R) (h8 : ∀ i,Hf.ln C i < 8) :
  Calls Tryz.prog 120 #[.pointer (some ⟨R,0,none⟩),.slice (some ⟨b,off,none⟩) 19 cap] w fun e w' => e = .returned (.tuple #[]) /\ ∃ c,4 <= c /\ c <= 19 /\ (∀ k,c <= k -> k < 19 -> Hf.ln C (Hd.ord k) = 0) /\ Wr w' R (l ++ (Bs.bitsOf (c - 4) 4 ++ If.clRow C c)) /\ Only R w w' := by
 have HG := LH hgl
 have HC := LH hc
 have HW := LH h
 have H8 := LH h8
 clear hc h hgl h8
 go_enter Tryz.func120,Tryz.ntmps120
 go_wp2_with fail
 go_loop [4] (fun s4 => ∃ k : Nat,s4 = .int .i64 (k : Int) /\ 4 <= k /\ k <= 19 /\ Hid (∀ j,k <= j -> j < 19 -> Hf.ln C (Hd.ord j) = 0)) (fun s => (intOf s).toNat)
 case atStart => exact ⟨19,by go_num,by omega,by omega,fun j h1 h2 => by omega⟩
 case round =>
  obtain ⟨k,rfl,h4,h19,KZ⟩ := hrel
  have done : Hid (∀ c,c = k -> Hid (∀ j,c <= j -> j < 19 -> Hf.ln C (Hd.ord j) = 0)) := fun c hc => by rw [hc]; exact KZ.out
  by_cases hk4 : 4 < k
  ·have d0 : decide ((4 : Int) < (k : Int)) = true := decide_eq_true (by omega)
   have i1 : (0 : Int) <= (k : Int) - 1 := by omega
   have i2 : (k : Int) - 1 < 19 := by omega
   have i3 : ((k : Int) - 1).toNat = k - 1 := by omega
   have i4 : (k : Int) <= 19 := by omega
   have g0 : w.cell? ⟨1,k - 1,none⟩ = some (.int .i64 (Hd.ord (k - 1) : Int)) := HG.out (k - 1) (by omega)
   obtain ⟨o,ho⟩ : ∃ o,o = Hd.ord (k - 1) := ⟨_,rfl⟩
   have ho19 : o < 19 := by rw [ho]; exact Hd.ord_lt _
   rw [<- ho] at g0
   have HO := LH ho
   have j1 : (o : Int) < 19 := by omega
   have j2 : (0 : Int) <= (o : Int) := by omega
   have gc := HC.out o ho19
   obtain ⟨z,hz⟩ : ∃ z,z = Hf.ln C o := ⟨_,rfl⟩
   rw [<- hz] at gc
   have HZ := LH hz
   clear ho hz
   by_cases hz0 : z = 0
   ·subst hz0
    have KZ2 : Hid (∀ j,k - 1 <= j -> j < 19 -> Hf.ln C (Hd.ord j) = 0) := fun j h1 h2 => by
     by_cases e : j = k - 1
     ·subst e; rw [<- HO.out,<- HZ.out]
     ·exact KZ.out j (by omega) h2
    clear KZ done
    go_wp2_with fail
    go_round
    case rel => exact ⟨k - 1,by first | rfl | go_num | (congr 1; omega),by omega,by omega,KZ2⟩
    case measure => simp [intOf]; omega
   ·have hzb : ((z : Int) == 0) = false := by rw [beq_eq_false_iff_ne]; omega
    have hzn : ¬ ((z : Int) = 0) := by omega
    go_wp2_with fail
    have e4 : (k : Int) - 4 = ((k - 4 : Nat) : Int) := by omega
    rw [e4]
    have HN := wnum_ok R l (k - 4) 4 w HW.out (by omega) (by omega) (by omega)
    refine HN.mono ?_
    clear HN
    rintro e w1 ⟨rfl,hw1,ho1⟩
    have W0 : Hid (Wr w1 R (l ++ (Bs.bitsOf (k - 4) 4 ++ If.clRow C 0))) := by
     show Wr _ _ _
     rw [show If.clRow C 0 = [] from rfl,List.append_nil]; exact hw1
    have O0 := LH ho1
    have CZ := done.out k rfl
    clear hw1 ho1 done KZ e4 g0 gc hzb hzn d0 i1 i2 i3 i4 j1 j2 HO HZ hz0 ho19
    go_wp2_with fail
    go_loopw [25] (fun s25 wr => ∃ j : Nat,s25 = .int .i64 (j : Int) /\ j <= k /\ Hid (Wr wr R (l ++ (Bs.bitsOf (k - 4) 4 ++ If.clRow C j))) /\ Hid (Only R w wr)) (fun s25 _ => k - (intOf s25).toNat)
    case atStart => exact ⟨0,by go_num,Nat.zero_le _,W0,O0⟩
    clear W0 O0
    case round =>
     obtain ⟨j,rfl,hj,KW,KO⟩ := hrel
     by_cases hlt : j < k
     ·have d0 : decide ((j : Int) < (k : Int)) = true := decide_eq_true (by omega)
      have i1 : (0 : Int) <= (j : Int) := by omega
      have i2 : (j : Int) < 19 := by omega
      have g0 : wr.cell? ⟨1,j,none⟩ = some (.int .i64 (Hd.ord j : Int)) := only_cell KO.out HG.out.lt hgR (HG.out j (by omega))
      obtain ⟨o,ho⟩ : ∃ o,o = Hd.ord j := ⟨_,rfl⟩
      have ho19 : o < 19 := by rw [ho]; exact Hd.ord_lt _
      rw [<- ho] at g0
      have j1 : (o : Int) < 19 := by omega
      have j2 : (0 : Int) <= (o : Int) := by omega
      have gc := only_cell KO.out hb hne (HC.out o ho19)
      obtain ⟨z,hz⟩ : ∃ z,z = Hf.ln C o := ⟨_,rfl⟩
      rw [<- hz] at gc
      have hz8 : z < 8 := by rw [hz]; exact H8.out o
      have HN3 := wnum_ok R _ z 3 wr KW.out (by simp only [List.length_append,Bs.bitsOf_length,If.clRow_length]; omega) (by omega) (by omega)
      have es : l ++ (Bs.bitsOf (k - 4) 4 ++ If.clRow C j) ++ Bs.bitsOf z 3 = l ++ (Bs.bitsOf (k - 4) 4 ++ If.clRow C (j + 1)) := by
       rw [clRow_succ,<- ho,<- hz,List.append_assoc,List.append_assoc]
      rw [es] at HN3
      have HN3' := LH HN3
      clear HN3 es ho hz KW
      go_wp2_with fail
      refine HN3'.out.mono ?_
      clear HN3'
      rintro e w2 ⟨rfl,hw2,ho2⟩
      have KW2 := LH hw2
      have KO2 := LH (KO.out.trans ho2)
      clear hw2 ho2 g0 gc
      go_wp2_with fail
      go_round
      case rel => exact ⟨j + 1,by go_num,by omega,KW2,KO2⟩
      case measure => simp [intOf]; omega
     ·obtain rfl : j = k := by omega
      have d0 : decide ((j : Int) < (j : Int)) = false := decide_eq_false (by omega)
      go_wp2_with fail
      go_end0
      exact ⟨rfl,j,by omega,h19,CZ.out,KW.out,KO.out⟩
  ·obtain rfl : k = 4 := by omega
   have d9 : decide ((4 : Int) < (4 : Int)) = false := by decide
   have e4 : True := trivial
   go_wp2_with fail
   skip
   have HN := wnum_ok R l 0 4 w HW.out (by omega) (by omega) (by omega)
   refine HN.mono ?_
   clear HN
   rintro e w1 ⟨rfl,hw1,ho1⟩
   have W0 : Hid (Wr w1 R (l ++ (Bs.bitsOf 0 4 ++ If.clRow C 0))) := by
    show Wr _ _ _
    rw [show If.clRow C 0 = [] from rfl,List.append_nil]; exact hw1
   have O0 := LH ho1
   have CZ := done.out 4 rfl
   clear hw1 ho1 done KZ e4
   go_wp2_with fail
   go_loopw [25] (fun s25 wr => ∃ j : Nat,s25 = .int .i64 (j : Int) /\ j <= 4 /\ Hid (Wr wr R (l ++ (Bs.bitsOf 0 4 ++ If.clRow C j))) /\ Hid (Only R w wr)) (fun s25 _ => 4 - (intOf s25).toNat)
   case atStart => exact ⟨0,by go_num,Nat.zero_le _,W0,O0⟩
   clear W0 O0
   case round =>
    obtain ⟨j,rfl,hj,KW,KO⟩ := hrel
    by_cases hlt : j < 4
    ·have d0 : decide ((j : Int) < (4 : Int)) = true := decide_eq_true (by omega)
     have i1 : (0 : Int) <= (j : Int) := by omega
     have i2 : (j : Int) < 19 := by omega
     have g0 : wr.cell? ⟨1,j,none⟩ = some (.int .i64 (Hd.ord j : Int)) := only_cell KO.out HG.out.lt hgR (HG.out j (by omega))
     obtain ⟨o,ho⟩ : ∃ o,o = Hd.ord j := ⟨_,rfl⟩
     have ho19 : o < 19 := by rw [ho]; exact Hd.ord_lt _
     rw [<- ho] at g0
     have j1 : (o : Int) < 19 := by omega
     have j2 : (0 : Int) <= (o : Int) := by omega
     have gc := only_cell KO.out hb hne (HC.out o ho19)
     obtain ⟨z,hz⟩ : ∃ z,z = Hf.ln C o := ⟨_,rfl⟩
     rw [<- hz] at gc
     have hz8 : z < 8 := by rw [hz]; exact H8.out o
     have HN3 := wnum_ok R _ z 3 wr KW.out (by simp only [List.length_append,Bs.bitsOf_length,If.clRow_length]; omega) (by omega) (by omega)
     have es : l ++ (Bs.bitsOf 0 4 ++ If.clRow C j) ++ Bs.bitsOf z 3 = l ++ (Bs.bitsOf 0 4 ++ If.clRow C (j + 1)) := by
      rw [clRow_succ,<- ho,<- hz,List.append_assoc,List.append_assoc]
     rw [es] at HN3
     have HN3' := LH HN3
     clear HN3 es ho hz KW
     go_wp2_with fail
     refine HN3'.out.mono ?_
     clear HN3'
     rintro e w2 ⟨rfl,hw2,ho2⟩
     have KW2 := LH hw2
     have KO2 := LH (KO.out.trans ho2)
     clear hw2 ho2 g0 gc
     go_wp2_with fail
     go_round
     case rel => exact ⟨j + 1,by go_num,by omega,KW2,KO2⟩
     case measure => simp [intOf]; omega
    ·obtain rfl : j = 4 := by omega
     have d0 : decide ((4 : Int) < (4 : Int)) = false := decide_eq_false (by omega)
     go_wp2_with fail
     go_end0
     exact ⟨rfl,4,by omega,h19,CZ.out,KW.out,KO.out⟩
end
section
open Go.RowKit
theorem rexp_ok (a0 : Option Addr) (n cap0 : Nat) (ts : List If.Tk) (most : Nat) (w : World) (ho : Tks w (.slice a0 n cap0) ts) (hts : If.Toks ts) (hm : (If.tell ts).length <= most) (h9 : most <= 65536) :
  Calls Tryz.prog 19 #[.slice a0 n cap0,.int .i64 (most : Int)] w fun e w' => ∃ v',e = .returned (.tuple #[v',.int .i64 0]) /\ w'.ownsRow w.heap.size 5 1 v' (If.tell ts).length (vb (If.tell ts)) /\ Below w.heap.size w w' := by
 have HO := LH ho
 have HT := LH (fun _ : Unit => hts)
 have HM := LH hm
 have hn : n = ts.length := by obtain ⟨a,c,h,_⟩ := ho; cases h; rfl
 have hn9 : n <= 65536 := by have := If.toks_length_le ts; omega
 have HN := LH hn
 have e1 : ¬ (most : Int) < 0 := by omega
 have e2 : ¬ (65536 : Int) < (most : Int) := by omega
 clear ho hts hm hn
 go_enter Tryz.func19,Tryz.ntmps19
 go_wp2_with fail
 clear e1 e2
 go_loopw [6,7] (fun s6 s7 wr => ∃ (j q c6 : Nat) (a6 : Option Addr),s7 = .int .i64 (j : Int) /\ j <= n /\ s6 = .slice a6 q c6 /\ Hid (Unit -> q = (If.tell (ts.take j)).length) /\ Hid (wr.ownsRow w.heap.size 5 1 (.slice a6 q c6) q (vb (If.tell (ts.take j)))) /\ Hid (Below w.heap.size w wr)) (fun _ s _ => n - (intOf s).toNat)
 case atStart => exact ⟨0,0,0,none,rfl,Nat.zero_le _,rfl,fun _ => rfl,⟨rfl,Or.inl ⟨rfl,rfl⟩⟩,Below.refl _ _⟩
 case round =>
  obtain ⟨j,q,c6,a6,rfl,hj,rfl,KQ,KO,KB⟩ := hrel
  by_cases hlt : j < n
  ·have hjt : j < ts.length := by rw [<- HN.out]; exact hlt
   obtain ⟨hnn,b,off,rfl,hbl,k0,k1,k2⟩ := (HO.out.later KB.out).at' j ts[j] (List.getElem?_eq_getElem hjt)
   clear hnn hbl
   have hval := HT.out () j ts[j] (List.getElem?_eq_getElem hjt)
   have hsum := toks_sum (List.getElem?_eq_getElem hjt)
   have hle := HM.out
   obtain ⟨t,ht⟩ : ∃ t,t = ts[j] := ⟨_,rfl⟩
   rw [<- ht] at k0 k1 k2 hval hsum
   have HE : Hid (Unit -> If.tell (ts.take (j + 1)) = If.tell1 (If.tell (ts.take j)) t) := fun _ => by rw [If.tell_take_succ (List.getElem?_eq_getElem hjt),<- ht]
   obtain ⟨bs,hbs⟩ : ∃ bs,bs = If.tell (ts.take j) := ⟨_,rfl⟩
   have hq := KQ.out ()
   rw [<- hbs] at KO hval hsum HE hq
   have hq1 : q + If.sz t <= most := by omega
   have hq2 : t.far <= q := by rw [hq]; exact hval.2
   have hq3 : q <= 65536 := by omega
   have HBS := LH (fun _ : Unit => hq)
   clear KQ ht hbs hsum hle hq hjt
   obtain ⟨len,far,x⟩ := t
   have HC := LH (fun W => rcheck_yes ⟨len,far,x⟩ W hval.1)
   have HV := LH (fun _ : Unit => hval)
   unfold tkv at HC
   simp only at k0 k1 k2 HC hq2
   have hsz := size_val ⟨len,far,x⟩ hval.1
   obtain ⟨z,hz⟩ : ∃ z,z = If.sz ⟨len,far,x⟩ := ⟨_,rfl⟩
   rw [<- hz] at hq1 hsz
   simp only at hsz
   have hmx : max 1 (len : Int) = (z : Int) := by omega
   have hsub : IntKind.i64.wrap ((most : Int) - (q : Int)) = ((most - q : Nat) : Int) := by rw [IntWalk.i64_in _ (by omega)]; omega
   have g1 : ¬ ((q : Int) < (far : Int)) := by omega
   have g2 : ¬ (((most - q : Nat) : Int) < (z : Int)) := by omega
   have g3 : decide (q < far) = false := by simp; omega
   have g4 : decide ((q : Int) < (far : Int)) = false := by simp; omega
   have g6 : decide (most - q < z) = false := by simp; omega
   have g5 : decide (((most - q : Nat) : Int) < (z : Int)) = false := by simp; omega
   clear hval hz hsz
   have hb8 := below1 wr (.cells #[.int .i64 (len : Int),.int .i64 (far : Int),.int .u8 (x : Int)] 48)
   have hT8 := Has.new wr (.cells #[.int .i64 (len : Int),.int .i64 (far : Int),.int .u8 (x : Int)] 48)
   obtain ⟨y0,y1,y2⟩ := tk_cells hT8
   obtain ⟨T,hT⟩ : ∃ T,T = wr.heap.size := ⟨_,rfl⟩
   have hTs : w.heap.size <= T := by rw [hT]; exact KB.out.size
   obtain ⟨w8,hw8⟩ : ∃ W,W = wr.alloc (.cells #[.int .i64 (len : Int),.int .i64 (far : Int),.int .u8 (x : Int)] 48) := ⟨_,rfl⟩
   rw [<- hw8,<- hT] at hT8
   rw [<- hw8] at hb8
   have KO8 := LH (own_keep KO.out hb8)
   have KB8 := LH (KB.out.trans (hb8.mono KB.out.size))
   have HT8 := LH hT8
   have HTS := LH hTs
   have V8 := LH hw8
   have VT := LH hT
   clear hb8 hT8 hTs hw8 KO KB
   go_wp2_with fail
   rw [<- V8.out,<- VT.out]
   refine (HC.out _).mono ?_
   clear HC
   rintro e w1 ⟨rfl,hb1⟩
   have KO1 := LH (own_keep KO8.out hb1)
   have KB1 := LH (KB8.out.trans (hb1.mono KB8.out.size))
   have HT1 := LH (HT8.out.later hb1)
   obtain ⟨d0,d1,d2⟩ := tk_cells HT1.out
   clear hb1 KO8 KB8 HT8 y0 y1 y2 k0 k1 k2 V8 VT hT
   by_cases h0 : len = 0
   ·subst h0
    have A1 : Hid _ := KO1.out.alloc (.cells #[.int .u8 (x : Int)] 5)
    have A2 : Hid ((w1.alloc (.cells #[.int .u8 (x : Int)] 5)).cell? ⟨w1.heap.size,0,none⟩ = some (.int .u8 (x : Int))) := (Has.new w1 (.cells #[.int .u8 (x : Int)] 5)).one.1
    have A3 : Hid (w.heap.size <= w1.heap.size) := KB1.out.size
    have A4 : Hid (Below w.heap.size w (w1.alloc (.cells #[.int .u8 (x : Int)] 5))) := KB1.out.alloc A3.out _
    have A5 := LH (HT1.out.alloc (.cells #[.int .u8 (x : Int)] 5))
    clear KO1 KB1 HT1
    go_wp2_with (at_builtin; (refine wpList_append_byte rfl (.tmp 48) (.tmp 51) rfl w.heap.size _ q bs rfl A1.out w1.heap.size x rfl A2.out (by omega) (by have := A3.out; simp; omega) ?_; intro v' w' ho hg; have hb := LH (below_app A4.out A1.out hg.out (Nat.le_refl _) (by have := A3.out; simp; omega)); have hO := LH ho.out; have hT2 := LH ((hg.out.block _ A5.out.lt (own_ne_ty A1.out A5.out (by decide)).symm).trans A5.out); clear ho hg))
    obtain ⟨a7,c7,rfl⟩ := own_shape hO.out
    obtain ⟨d0,-,-⟩ := tk_cells (show Has w' T _ from hT2.out)
    have KQ2 : Hid (Unit -> q + 1 = (If.tell (ts.take (j + 1))).length) := fun _ => by rw [HE.out (),If.tell1_length,<- HBS.out ()]; rfl
    have KO2 : Hid (w'.ownsRow w.heap.size 5 1 (.slice a7 (q + 1) c7) (q + 1) (vb (If.tell (ts.take (j + 1))))) := by show World.ownsRow _ _ _ _ _ _ _; rw [HE.out ()]; exact hO.out
    clear A1 A2 A3 A4 A5 hO HE HBS hmx hsub g1 g2 g3 g4 g5 g6 hT2 d1 d2
    go_loopw [6,10] (fun s6 s wx => s6 = .slice a7 (q + 1) c7 /\ s = .int .i64 0 /\ w' = wx) (fun _ _ _ => 0)
    case atStart => exact ⟨rfl,rfl,rfl⟩
    case round =>
     obtain ⟨rfl,rfl,rfl⟩ := hrel
     go_wp2_with fail
     go_roundw
     case rel => exact ⟨j + 1,q + 1,c7,a7,by go_num,by omega,rfl,KQ2,KO2,hb⟩
     case measure => simp [intOf]; omega
   ·have HV1 := HV.out ()
    have hcop : 3 <= len /\ 1 <= far /\ x = 0 := by rcases HV1.1 with ⟨h,_⟩ | ⟨g0,g1',_,g3,_⟩ <;> simp only at * <;> omega
    obtain ⟨hl3,hf1,rfl⟩ := hcop
    have hz : z = len := by omega
    subst hz
    have i0 : ((z : Int) == 0) = false := by simp; omega
    have HTL : Hid (Unit -> If.tell (ts.take (j + 1)) = If.cp far z bs) := fun _ => by rw [HE.out ()]; unfold If.tell1; rw [if_neg h0]
    have HB1 := LH (show w.heap.size <= w1.heap.size from KB1.out.size)
    clear HV HV1 HE
    go_wp2_with fail
    clear hmx hsub g1 g2 g3 g4 g5 g6
    go_loopw [6,10] (fun s6 s10 wx => ∃ k : Nat,s10 = .int .i64 (k : Int) /\ k <= z /\ Hid (wx.ownsRow w.heap.size 5 1 s6 (q + k) (vb (If.cp far k bs))) /\ Hid (Below w.heap.size w wx) /\ Hid (Has wx T (.cells #[.int .i64 (z : Int),.int .i64 (far : Int),.int .u8 ((0 : Nat) : Int)] 48 (0,0)))) (fun _ s _ => z - (intOf s).toNat)
    case atStart => exact ⟨0,rfl,Nat.zero_le _,KO1,KB1,HT1⟩
    case round =>
     obtain ⟨k,rfl,hk,KO,KB,KT⟩ := hrel
     clear KO1 KB1 HT1 d0 d1 d2
     obtain ⟨d0,d1,d2⟩ := tk_cells KT.out
     by_cases hlk : k < z
     ·have hcl : (If.cp far k bs).length = q + k := by rw [If.cp_length,<- HBS.out ()]
      obtain ⟨b2,off2,cap2,rfl,hcell⟩ := own_byte KO.out (q + k - far) (by rw [hcl]; omega)
      obtain ⟨y,hy⟩ : ∃ y,y = (If.cp far k bs)[q + k - far]?.getD 0 := ⟨_,rfl⟩
      rw [<- hy] at hcell
      have hsub : IntKind.i64.wrap (((q + k : Nat) : Int) - (far : Int)) = ((q + k - far : Nat) : Int) := by rw [IntWalk.i64_in _ (by omega)]; omega
      have HE : Hid (If.cp far (k + 1) bs = If.cp far k bs ++ [y]) := by show _ = _; rw [If.cp_snoc,hcl,<- hy]
      have A1 : Hid _ := KO.out.alloc (.cells #[.int .u8 (y : Int)] 5)
      have A2 : Hid ((wr.alloc (.cells #[.int .u8 (y : Int)] 5)).cell? ⟨wr.heap.size,0,none⟩ = some (.int .u8 (y : Int))) := (Has.new wr (.cells #[.int .u8 (y : Int)] 5)).one.1
      have A3 : Hid (w.heap.size <= wr.heap.size) := KB.out.size
      have A4 : Hid (Below w.heap.size w (wr.alloc (.cells #[.int .u8 (y : Int)] 5))) := KB.out.alloc A3.out _
      have A5 := LH (KT.out.alloc (.cells #[.int .u8 (y : Int)] 5))
      clear hy hcl KO KB KT
      go_wp2_with (at_builtin; (refine wpList_append_byte rfl (.tmp 59) (.tmp 68) rfl w.heap.size _ (q + k) _ rfl A1.out wr.heap.size y rfl A2.out (by omega) (by have := A3.out; simp; omega) ?_; intro v' w' ho hg; have hb := LH (below_app A4.out A1.out hg.out (Nat.le_refl _) (by have := A3.out; simp; omega)); have hO := LH ho.out; have hT := LH ((hg.out.block _ A5.out.lt (own_ne_ty A1.out A5.out (by decide)).symm).trans A5.out); clear ho hg))
      go_roundw
      case rel => first | exact ⟨k + 1,by go_num,by omega,(by show World.ownsRow _ _ _ _ _ _ _; rw [HE.out]; exact hO.out),hb,hT.out⟩ | ((repeat apply Exists.intro); exact ⟨⟨k + 1,by go_num,by omega,(by show World.ownsRow _ _ _ _ _ _ _; rw [HE.out]; exact hO.out),hb,hT.out⟩,rfl⟩)
      case measure => simp [intOf]; omega
     ·obtain rfl : k = z := by omega
      obtain ⟨a7,c7,rfl⟩ := own_shape KO.out
      have KQ2 : Hid (Unit -> q + k = (If.tell (ts.take (j + 1))).length) := fun _ => by rw [HTL.out (),If.cp_length,<- HBS.out ()]
      have KO2 : Hid (wr.ownsRow w.heap.size 5 1 (.slice a7 (q + k) c7) (q + k) (vb (If.tell (ts.take (j + 1))))) := by show World.ownsRow _ _ _ _ _ _ _; rw [HTL.out ()]; exact KO.out
      clear KO HTL HBS KT
      go_wp2_with fail
      go_roundw
      case rel => exact ⟨j + 1,q + k,c7,a7,by go_num,by omega,rfl,KQ2,KO2,KB⟩
      case measure => simp [intOf]; omega
  ·obtain rfl : j = n := by omega
   have e : ts.take j = ts := List.take_of_length_le (by rw [<- HN.out]; exact Nat.le_refl _)
   rw [e] at KO KQ
   clear e
   go_wp2_with fail
   go_ret2
   have hq := KQ.out ()
   exact ⟨_,rfl,by rw [<- hq]; exact KO.out,KB.out⟩
theorem rexp_bad (a0 : Option Addr) (n cap0 : Nat) (ts : List If.Tk) (t0 : Ti) (rest : List Ti) (most : Nat) (w : World) (ho : Tis w (.slice a0 n cap0) (ts.map Ti.of ++ t0 :: rest)) (hts : If.Toks ts) (hm : (If.tell ts).length <= most) (h9 : most <= 65536) (h8 : t0.lit < 256) (ee : Int) (hee : t0.flt (If.tell ts).length most = ee) (he0 : ee ≠ 0) :
  Calls Tryz.prog 19 #[.slice a0 n cap0,.int .i64 (most : Int)] w fun e w' => e = .returned (.tuple #[.slice none 0 0,.int .i64 ee]) /\ Below w.heap.size w w' := by
 have HO := LH ho
 have HT := LH (fun _ : Unit => hts)
 have HM := LH hm
 have hn9 : ts.length <= 65536 := by have := If.toks_length_le ts; omega
 obtain ⟨m,hmm⟩ : ∃ m,m = ts.length := ⟨_,rfl⟩
 have hmn : m < n := by have h := (ho.at' ts.length t0 at_mid).1; simp at h; omega
 rw [<- hmm] at hn9
 have HN := LH hmm
 have HEE := LH (fun _ : Unit => And.intro h8 (And.intro hee he0))
 have e1 : ¬ (most : Int) < 0 := by omega
 have e2 : ¬ (65536 : Int) < (most : Int) := by omega
 clear ho hts hm hmm h8 hee he0
 go_enter Tryz.func19,Tryz.ntmps19
 go_wp2_with fail
 clear e1 e2
 go_loopw [6,7] (fun s6 s7 wr => ∃ (j q c6 : Nat) (a6 : Option Addr),s7 = .int .i64 (j : Int) /\ j <= m /\ s6 = .slice a6 q c6 /\ Hid (Unit -> q = (If.tell (ts.take j)).length) /\ Hid (wr.ownsRow w.heap.size 5 1 (.slice a6 q c6) q (vb (If.tell (ts.take j)))) /\ Hid (Below w.heap.size w wr)) (fun _ s _ => n - (intOf s).toNat)
 case atStart => exact ⟨0,0,0,none,rfl,Nat.zero_le _,rfl,fun _ => rfl,⟨rfl,Or.inl ⟨rfl,rfl⟩⟩,Below.refl _ _⟩
 case round =>
  obtain ⟨j,q,c6,a6,rfl,hj,rfl,KQ,KO,KB⟩ := hrel
  by_cases hlt : j < m
  ·have hjt : j < ts.length := by rw [<- HN.out]; exact hlt
   have hjn : j < n := by omega
   obtain ⟨hnn,b,off,rfl,hbl,k0,k1,k2⟩ := (HO.out.later KB.out).at' j (Ti.of ts[j]) (at_pre (List.getElem?_eq_getElem hjt))
   clear hnn hbl
   have hval := HT.out () j ts[j] (List.getElem?_eq_getElem hjt)
   have hsum := toks_sum (List.getElem?_eq_getElem hjt)
   have hle := HM.out
   obtain ⟨t,ht⟩ : ∃ t,t = ts[j] := ⟨_,rfl⟩
   rw [<- ht] at k0 k1 k2 hval hsum
   have HE : Hid (Unit -> If.tell (ts.take (j + 1)) = If.tell1 (If.tell (ts.take j)) t) := fun _ => by rw [If.tell_take_succ (List.getElem?_eq_getElem hjt),<- ht]
   obtain ⟨bs,hbs⟩ : ∃ bs,bs = If.tell (ts.take j) := ⟨_,rfl⟩
   have hq := KQ.out ()
   rw [<- hbs] at KO hval hsum HE hq
   have hq1 : q + If.sz t <= most := by omega
   have hq2 : t.far <= q := by rw [hq]; exact hval.2
   have hq3 : q <= 65536 := by omega
   have HBS := LH (fun _ : Unit => hq)
   clear KQ ht hbs hsum hle hq hjt
   obtain ⟨len,far,x⟩ := t
   have HC := LH (fun W => rcheck_yes ⟨len,far,x⟩ W hval.1)
   have HV := LH (fun _ : Unit => hval)
   unfold tkv at HC
   unfold Ti.of at k0 k1 k2
   simp only at k0 k1 k2 HC hq2
   have hsz := size_val ⟨len,far,x⟩ hval.1
   obtain ⟨z,hz⟩ : ∃ z,z = If.sz ⟨len,far,x⟩ := ⟨_,rfl⟩
   rw [<- hz] at hq1 hsz
   simp only at hsz
   have hmx : max 1 (len : Int) = (z : Int) := by omega
   have hsub : IntKind.i64.wrap ((most : Int) - (q : Int)) = ((most - q : Nat) : Int) := by rw [IntWalk.i64_in _ (by omega)]; omega
   have g1 : ¬ ((q : Int) < (far : Int)) := by omega
   have g2 : ¬ (((most - q : Nat) : Int) < (z : Int)) := by omega
   have g3 : decide (q < far) = false := by simp; omega
   have g4 : decide ((q : Int) < (far : Int)) = false := by simp; omega
   have g6 : decide (most - q < z) = false := by simp; omega
   have g5 : decide (((most - q : Nat) : Int) < (z : Int)) = false := by simp; omega
   clear hval hz hsz
   have hb8 := below1 wr (.cells #[.int .i64 (len : Int),.int .i64 (far : Int),.int .u8 (x : Int)] 48)
   have hT8 := Has.new wr (.cells #[.int .i64 (len : Int),.int .i64 (far : Int),.int .u8 (x : Int)] 48)
   obtain ⟨y0,y1,y2⟩ := tk_cells hT8
   obtain ⟨T,hT⟩ : ∃ T,T = wr.heap.size := ⟨_,rfl⟩
   have hTs : w.heap.size <= T := by rw [hT]; exact KB.out.size
   obtain ⟨w8,hw8⟩ : ∃ W,W = wr.alloc (.cells #[.int .i64 (len : Int),.int .i64 (far : Int),.int .u8 (x : Int)] 48) := ⟨_,rfl⟩
   rw [<- hw8,<- hT] at hT8
   rw [<- hw8] at hb8
   have KO8 := LH (own_keep KO.out hb8)
   have KB8 := LH (KB.out.trans (hb8.mono KB.out.size))
   have HT8 := LH hT8
   have HTS := LH hTs
   have V8 := LH hw8
   have VT := LH hT
   clear hb8 hT8 hTs hw8 KO KB
   go_wp2_with fail
   rw [<- V8.out,<- VT.out]
   refine (HC.out _).mono ?_
   clear HC
   rintro e w1 ⟨rfl,hb1⟩
   have KO1 := LH (own_keep KO8.out hb1)
   have KB1 := LH (KB8.out.trans (hb1.mono KB8.out.size))
   have HT1 := LH (HT8.out.later hb1)
   obtain ⟨d0,d1,d2⟩ := tk_cells HT1.out
   clear hb1 KO8 KB8 HT8 y0 y1 y2 k0 k1 k2 V8 VT hT
   by_cases h0 : len = 0
   ·subst h0
    have A1 : Hid _ := KO1.out.alloc (.cells #[.int .u8 (x : Int)] 5)
    have A2 : Hid ((w1.alloc (.cells #[.int .u8 (x : Int)] 5)).cell? ⟨w1.heap.size,0,none⟩ = some (.int .u8 (x : Int))) := (Has.new w1 (.cells #[.int .u8 (x : Int)] 5)).one.1
    have A3 : Hid (w.heap.size <= w1.heap.size) := KB1.out.size
    have A4 : Hid (Below w.heap.size w (w1.alloc (.cells #[.int .u8 (x : Int)] 5))) := KB1.out.alloc A3.out _
    have A5 := LH (HT1.out.alloc (.cells #[.int .u8 (x : Int)] 5))
    clear KO1 KB1 HT1
    go_wp2_with (at_builtin; (refine wpList_append_byte rfl (.tmp 48) (.tmp 51) rfl w.heap.size _ q bs rfl A1.out w1.heap.size x rfl A2.out (by omega) (by have := A3.out; simp; omega) ?_; intro v' w' ho hg; have hb := LH (below_app A4.out A1.out hg.out (Nat.le_refl _) (by have := A3.out; simp; omega)); have hO := LH ho.out; have hT2 := LH ((hg.out.block _ A5.out.lt (own_ne_ty A1.out A5.out (by decide)).symm).trans A5.out); clear ho hg))
    obtain ⟨a7,c7,rfl⟩ := own_shape hO.out
    obtain ⟨d0,-,-⟩ := tk_cells (show Has w' T _ from hT2.out)
    have KQ2 : Hid (Unit -> q + 1 = (If.tell (ts.take (j + 1))).length) := fun _ => by rw [HE.out (),If.tell1_length,<- HBS.out ()]; rfl
    have KO2 : Hid (w'.ownsRow w.heap.size 5 1 (.slice a7 (q + 1) c7) (q + 1) (vb (If.tell (ts.take (j + 1))))) := by show World.ownsRow _ _ _ _ _ _ _; rw [HE.out ()]; exact hO.out
    clear A1 A2 A3 A4 A5 hO HE HBS hmx hsub g1 g2 g3 g4 g5 g6 hT2 d1 d2
    go_loopw [6,10] (fun s6 s wx => s6 = .slice a7 (q + 1) c7 /\ s = .int .i64 0 /\ w' = wx) (fun _ _ _ => 0)
    case atStart => exact ⟨rfl,rfl,rfl⟩
    case round =>
     obtain ⟨rfl,rfl,rfl⟩ := hrel
     go_wp2_with fail
     go_roundw
     case rel => exact ⟨j + 1,q + 1,c7,a7,by go_num,by omega,rfl,KQ2,KO2,hb⟩
     case measure => simp [intOf]; omega
   ·have HV1 := HV.out ()
    have hcop : 3 <= len /\ 1 <= far /\ x = 0 := by rcases HV1.1 with ⟨h,_⟩ | ⟨g0,g1',_,g3,_⟩ <;> simp only at * <;> omega
    obtain ⟨hl3,hf1,rfl⟩ := hcop
    have hz : z = len := by omega
    subst hz
    have i0 : ((z : Int) == 0) = false := by simp; omega
    have HTL : Hid (Unit -> If.tell (ts.take (j + 1)) = If.cp far z bs) := fun _ => by rw [HE.out ()]; unfold If.tell1; rw [if_neg h0]
    have HB1 := LH (show w.heap.size <= w1.heap.size from KB1.out.size)
    clear HV HV1 HE
    go_wp2_with fail
    clear hmx hsub g1 g2 g3 g4 g5 g6
    go_loopw [6,10] (fun s6 s10 wx => ∃ k : Nat,s10 = .int .i64 (k : Int) /\ k <= z /\ Hid (wx.ownsRow w.heap.size 5 1 s6 (q + k) (vb (If.cp far k bs))) /\ Hid (Below w.heap.size w wx) /\ Hid (Has wx T (.cells #[.int .i64 (z : Int),.int .i64 (far : Int),.int .u8 ((0 : Nat) : Int)] 48 (0,0)))) (fun _ s _ => z - (intOf s).toNat)
    case atStart => exact ⟨0,rfl,Nat.zero_le _,KO1,KB1,HT1⟩
    case round =>
     obtain ⟨k,rfl,hk,KO,KB,KT⟩ := hrel
     clear KO1 KB1 HT1 d0 d1 d2
     obtain ⟨d0,d1,d2⟩ := tk_cells KT.out
     by_cases hlk : k < z
     ·have hcl : (If.cp far k bs).length = q + k := by rw [If.cp_length,<- HBS.out ()]
      obtain ⟨b2,off2,cap2,rfl,hcell⟩ := own_byte KO.out (q + k - far) (by rw [hcl]; omega)
      obtain ⟨y,hy⟩ : ∃ y,y = (If.cp far k bs)[q + k - far]?.getD 0 := ⟨_,rfl⟩
      rw [<- hy] at hcell
      have hsub : IntKind.i64.wrap (((q + k : Nat) : Int) - (far : Int)) = ((q + k - far : Nat) : Int) := by rw [IntWalk.i64_in _ (by omega)]; omega
      have HE : Hid (If.cp far (k + 1) bs = If.cp far k bs ++ [y]) := by show _ = _; rw [If.cp_snoc,hcl,<- hy]
      have A1 : Hid _ := KO.out.alloc (.cells #[.int .u8 (y : Int)] 5)
      have A2 : Hid ((wr.alloc (.cells #[.int .u8 (y : Int)] 5)).cell? ⟨wr.heap.size,0,none⟩ = some (.int .u8 (y : Int))) := (Has.new wr (.cells #[.int .u8 (y : Int)] 5)).one.1
      have A3 : Hid (w.heap.size <= wr.heap.size) := KB.out.size
      have A4 : Hid (Below w.heap.size w (wr.alloc (.cells #[.int .u8 (y : Int)] 5))) := KB.out.alloc A3.out _
      have A5 := LH (KT.out.alloc (.cells #[.int .u8 (y : Int)] 5))
      clear hy hcl KO KB KT
      go_wp2_with (at_builtin; (refine wpList_append_byte rfl (.tmp 59) (.tmp 68) rfl w.heap.size _ (q + k) _ rfl A1.out wr.heap.size y rfl A2.out (by omega) (by have := A3.out; simp; omega) ?_; intro v' w' ho hg; have hb := LH (below_app A4.out A1.out hg.out (Nat.le_refl _) (by have := A3.out; simp; omega)); have hO := LH ho.out; have hT := LH ((hg.out.block _ A5.out.lt (own_ne_ty A1.out A5.out (by decide)).symm).trans A5.out); clear ho hg))
      go_roundw
      case rel => first | exact ⟨k + 1,by go_num,by omega,(by show World.ownsRow _ _ _ _ _ _ _; rw [HE.out]; exact hO.out),hb,hT.out⟩ | ((repeat apply Exists.intro); exact ⟨⟨k + 1,by go_num,by omega,(by show World.ownsRow _ _ _ _ _ _ _; rw [HE.out]; exact hO.out),hb,hT.out⟩,rfl⟩)
      case measure => simp [intOf]; omega
     ·obtain rfl : k = z := by omega
      obtain ⟨a7,c7,rfl⟩ := own_shape KO.out
      have KQ2 : Hid (Unit -> q + k = (If.tell (ts.take (j + 1))).length) := fun _ => by rw [HTL.out (),If.cp_length,<- HBS.out ()]
      have KO2 : Hid (wr.ownsRow w.heap.size 5 1 (.slice a7 (q + k) c7) (q + k) (vb (If.tell (ts.take (j + 1))))) := by show World.ownsRow _ _ _ _ _ _ _; rw [HTL.out ()]; exact KO.out
      clear KO HTL HBS KT
      go_wp2_with fail
      go_roundw
      case rel => exact ⟨j + 1,q + k,c7,a7,by go_num,by omega,rfl,KQ2,KO2,KB⟩
      case measure => simp [intOf]; omega
  ·obtain rfl : j = m := by omega
   have e : ts.take j = ts := List.take_of_length_le (by rw [<- HN.out]; exact Nat.le_refl _)
   rw [e] at KO KQ
   have hq := KQ.out ()
   have hmid := (at_mid (us := ts) (t := t0) (rest := rest))
   rw [<- HN.out] at hmid
   obtain ⟨hnn,b,off,rfl,hbl,k0,k1,k2⟩ := (HO.out.later KB.out).at' j t0 hmid
   obtain ⟨h8,hee,he0⟩ := HEE.out ()
   rw [<- hq] at hee
   have hq3 : q <= most := by rw [hq]; exact HM.out
   have HT0 := LH (fun _ : Unit => And.intro h8 hee)
   clear e hmid hnn hbl hq HEE KQ HT HM HO HN KO h8 hee
   have hb8 := below1 wr (.cells #[.int .i64 t0.len,.int .i64 t0.far,.int .u8 (t0.lit : Int)] 48)
   have hT8 := Has.new wr (.cells #[.int .i64 t0.len,.int .i64 t0.far,.int .u8 (t0.lit : Int)] 48)
   have KB8 := LH (KB.out.trans (hb8.mono KB.out.size))
   have HT8 := LH hT8
   obtain ⟨y0,y1,y2⟩ := tk_cells hT8
   clear hb8 hT8 KB
   by_cases hmay : t0.May
   ·obtain ⟨v1,v2⟩ := hmay.tv (HT0.out ()).1
    have hv : t0.v = tkv t0.tk := by rw [show t0.v = (Ti.of t0.tk).v by rw [v2]]; rfl
    have HC := LH (fun W => rcheck_yes t0.tk W v1)
    rw [<- hv] at HC
    unfold Ti.v at HC
    have hf := (HT0.out ()).2
    unfold Ti.flt at hf
    rw [if_pos hmay] at hf
    have hl := congrArg Ti.len v2
    have hfa := congrArg Ti.far v2
    unfold Ti.of at hl hfa
    simp only at hl hfa
    have hsz := size_val t0.tk v1
    by_cases hd : q < t0.tk.far
    ·rw [if_pos hd] at hf
     have g4 : decide ((q : Int) < t0.far) = true := by simp; omega
     have g5 : (q : Int) < t0.far := by omega
     subst hf
     clear hsz hl hfa v1 v2 hv hmay hd HT0
     go_wp2_with fail
     refine (HC.out _).mono ?_
     clear HC
     rintro e w1 ⟨rfl,hb1⟩
     have KB1 := LH (KB8.out.trans (hb1.mono KB8.out.size))
     obtain ⟨d0,d1,d2⟩ := tk_cells (HT8.out.later hb1)
     clear hb1 KB8 HT8 y0 y1 y2 k0 k1 k2
     go_wp2_with fail
     refine bodyPost_ret (v := .tuple #[.slice none 0 0,.int .i64 14]) (by simp [results,Tryz.results19,go_sem]) rfl ⟨rfl,KB1.out⟩
    ·rw [if_neg hd] at hf
     by_cases hla : most < q + If.sz t0.tk
     ·rw [if_pos hla] at hf
      obtain ⟨z,hz⟩ : ∃ z,z = If.sz t0.tk := ⟨_,rfl⟩
      rw [<- hz] at hla hsz
      have hmx : max 1 t0.len = (z : Int) := by rw [<- hl]; omega
      have hsub : IntKind.i64.wrap ((most : Int) - (q : Int)) = ((most - q : Nat) : Int) := by rw [IntWalk.i64_in _ (by omega)]; omega
      have g4 : decide ((q : Int) < t0.far) = false := by simp; omega
      have g1 : ¬ (q : Int) < t0.far := by omega
      have g2 : ((most - q : Nat) : Int) < (z : Int) := by omega
      have g3 : decide (most - q < z) = true := by simp; omega
      have g6 : most - q < z := by omega
      subst hf
      clear hsz hl hfa v1 v2 hv hmay hd HT0 hz
      go_wp2_with fail
      refine (HC.out _).mono ?_
      clear HC
      rintro e w1 ⟨rfl,hb1⟩
      have KB1 := LH (KB8.out.trans (hb1.mono KB8.out.size))
      obtain ⟨d0,d1,d2⟩ := tk_cells (HT8.out.later hb1)
      clear hb1 KB8 HT8 y0 y1 y2 k0 k1 k2
      go_wp2_with fail
      refine bodyPost_ret (v := .tuple #[.slice none 0 0,.int .i64 3]) (by simp [results,Tryz.results19,go_sem]) rfl ⟨rfl,KB1.out⟩
     ·rw [if_neg hla] at hf
      exact absurd hf.symm he0
   ·have HC := LH (fun W => rcheck_no t0 W hmay)
    unfold Ti.v at HC
    have hf := (HT0.out ()).2
    unfold Ti.flt at hf
    rw [if_neg hmay] at hf
    subst hf
    clear hmay HT0
    go_wp2_with fail
    refine (HC.out _).mono ?_
    clear HC
    rintro e w1 ⟨rfl,hb1⟩
    have KB1 := LH (KB8.out.trans (hb1.mono KB8.out.size))
    clear hb1 KB8 HT8 y0 y1 y2 k0 k1 k2
    go_wp2_with fail
    refine bodyPost_ret (v := .tuple #[.slice none 0 0,.int .i64 2]) (by simp [results,Tryz.results19,go_sem]) rfl ⟨rfl,KB1.out⟩
end
section
open Go.RowKit
def tic (l : List Ti) : List Value := l.flatMap fun t => [.int .i64 t.len,.int .i64 t.far,.int .u8 (t.lit : Int)]
theorem tic_length (l : List Ti) : (tic l).length = l.length * 3 := by
 induction l with
 | nil => rfl
 | cons t ts ih => simp only [tic,List.flatMap_cons,List.length_append,List.length_cons,List.length_nil] at ih ⊢; omega
theorem tic_get : ∀ (l : List Ti) (i : Nat) (t : Ti),l[i]? = some t -> (tic l)[i * 3]? = some (.int .i64 t.len) /\ (tic l)[i * 3 + 1]? = some (.int .i64 t.far) /\ (tic l)[i * 3 + 2]? = some (.int .u8 (t.lit : Int))
 | [],i,t,h => by simp at h
 | u :: ts,0,t,h => by simp at h; subst h; simp [tic]
 | u :: ts,i + 1,t,h => by
  have := tic_get ts i t (by simpa using h)
  simp only [tic,List.flatMap_cons] at this ⊢
  rw [show (i + 1) * 3 = [Value.int .i64 u.len,.int .i64 u.far,.int .u8 (u.lit : Int)].length + i * 3 by simp; omega]
  simp only [Nat.add_assoc]
  rw [List.getElem?_append_right (Nat.le_add_right _ _),List.getElem?_append_right (Nat.le_add_right _ _),List.getElem?_append_right (Nat.le_add_right _ _)]
  simp only [Nat.add_sub_cancel_left]
  exact this
theorem tic_one (l : List Ti) : ∀ v ∈ tic l,v.oneCell' = true := by
 intro v hv
 simp only [tic,List.mem_flatMap] at hv
 obtain ⟨t,_,hv⟩ := hv
 simp at hv
 rcases hv with rfl | rfl | rfl <;> rfl
theorem Tis.cells {w : World} {a : Option Addr} {n c : Nat} {l : List Ti} (h : Tis w (.slice a n c) l) (h0 : 0 < n) : ∃ ad,a = some ad /\ ∀ j u,(tic l)[j]? = some u -> w.cell? (ad.add j) = some u := by
 obtain ⟨a',cap,e,hc⟩ := h
 cases e
 obtain ⟨b,off,rfl,hlt,hat⟩ := hc h0
 refine ⟨_,rfl,fun j u hj => ?_⟩
 have hjl := (List.getElem?_eq_some_iff.1 hj).1
 rw [tic_length] at hjl
 have hi : j / 3 < l.length := by omega
 obtain ⟨c0,c1,c2⟩ := hat (j / 3) _ (List.getElem?_eq_getElem hi)
 obtain ⟨t0,t1,t2⟩ := tic_get l (j / 3) _ (List.getElem?_eq_getElem hi)
 have hm : j % 3 = 0 ∨ j % 3 = 1 ∨ j % 3 = 2 := by omega
 rcases hm with hm | hm | hm
 ·have e : j = j / 3 * 3 := by omega
  rw [e] at hj ⊢
  rw [t0] at hj
  cases hj
  rw [Addr.add_mid]; exact c0
 ·have e : j = j / 3 * 3 + 1 := by omega
  rw [e] at hj ⊢
  rw [t1] at hj
  cases hj
  rw [Addr.add_mid,<- Nat.add_assoc]; exact c1
 ·have e : j = j / 3 * 3 + 2 := by omega
  rw [e] at hj ⊢
  rw [t2] at hj
  cases hj
  rw [Addr.add_mid,<- Nat.add_assoc]; exact c2
theorem tis_of_own {w : World} {base g n c : Nat} {l : List Ti} (h : w.ownsRow base 48 3 (.slice (some ⟨g,0,none⟩) n c) n (tic l)) (hn : n = l.length) : Tis w (.slice (some ⟨g,0,none⟩) n c) l := by
 subst hn
 refine ⟨_,c,rfl,fun h0 => ?_⟩
 obtain ⟨b,off,cap,e,ho,hc⟩ := own_cell h h0
 cases e
 have hc0 := hc 0 (by omega)
 have hb : g < w.heap.size := (World.ownsRow.lt h g rfl).2
 refine ⟨g,0,rfl,hb,fun i t ht => ?_⟩
 have hi := (List.getElem?_eq_some_iff.1 ht).1
 obtain ⟨t0,t1,t2⟩ := tic_get l i t ht
 refine ⟨(hc (i * 3) (by omega)).trans t0,?_,?_⟩
 ·rw [Nat.add_assoc]; exact (hc (i * 3 + 1) (by omega)).trans t1
 ·rw [Nat.add_assoc]; exact (hc (i * 3 + 2) (by omega)).trans t2
theorem own_toks (a : Option Addr) (n c : Nat) (l : List Ti) (w : World) (hs : Tis w (.slice a n c) l) (hnil : a = none -> c = 0) (hn : n = l.length) (h9 : n <= 100000) :
  Calls Tryz.prog 14 #[.slice a n c] w fun e w' => ∃ g k,e = .returned (.slice (some ⟨g,0,none⟩) n k) /\ Tis w' (.slice (some ⟨g,0,none⟩) n k) l /\ Below w.heap.size w w' := by
 obtain ⟨i0,hi,hz0,hz1,hz2⟩ := info_parts Tryz.infoTok
 have hb := below1 w (.cells #[] 48)
 have hown := World.ownsRow_lit (base := w.heap.size) (e := 48) (size := 3) w #[] 0 (Nat.le_refl _) (by unfold maxLen; omega) rfl
 have hs1 := hs.later hb
 have hnn : a = none -> n = 0 /\ c = 0 := fun h => by
  obtain ⟨a',cap,e,hc⟩ := hs
  cases e
  refine ⟨?_,hnil h⟩
  rcases Nat.eq_zero_or_pos l.length with h0 | h0
  ·exact h0
  ·obtain ⟨b,off,e2,_⟩ := hc h0
   rw [h] at e2
   cases e2
 obtain ⟨g,k,w',hrun,hown',hgrow⟩ := run_append_mine (P := Tryz.prog) (w := w.alloc (.cells #[] 48)) w.heap.size 30 30 48 i0 _ 3 24 Tryz.underlying30 hi hz0 hz1 hz2 rfl (by decide)
  w.heap.size 0 0 [] hown a n c (tic l) (by rw [tic_length]; omega) hnn (fun h0 => hs1.cells h0) (tic_one l) (by unfold maxLen; omega) (by omega) (by simp)
 have HB := LH ((hb.mono (Nat.le_refl _)).grown hgrow (by simp) (fun k e => by cases e; exact Nat.le_refl _))
 rw [Nat.zero_add,List.nil_append] at hown'
 rw [Nat.zero_add] at hrun
 have HT := LH (tis_of_own hown' hn)
 have HR := LH hrun
 clear hrun hown' hgrow hs1 hb hs hnil hn hown hnn
 go_enter Tryz.func14,Tryz.ntmps14
 go_wp2_with (at_builtin; (refine wpList_append_is rfl (.tmp 3) (.tmp 4) 30 rfl _ _ _ _ rfl rfl HR.out ?_))
 go_ret
 exact ⟨g,k,rfl,HT.out,HB.out⟩
theorem same_toks (a a2 : Option Addr) (n c c2 : Nat) (l : List Ti) (w : World) (hs : Tis w (.slice a n c) l) (hs2 : Tis w (.slice a2 n c2) l) (h9 : n <= 100000) :
  Calls Tryz.prog 17 #[.slice a n c,.slice a2 n c2] w fun e w' => e = .returned (.bool true) /\ Below w.heap.size w w' := by
 have hn : n = l.length := by obtain ⟨_,_,e,_⟩ := hs; cases e; rfl
 have HS := LH hs
 have HS2 := LH hs2
 have HN := LH hn
 clear hs hs2 hn
 go_enter Tryz.func17,Tryz.ntmps17
 go_wp2_with fail
 go_loopw [5] (fun s wr => ∃ k : Nat,s = .int .i64 (k : Int) /\ k <= n /\ Hid (Below w.heap.size w wr)) (fun s _ => n - (intOf s).toNat)
 case atStart => exact ⟨0,rfl,Nat.zero_le _,Below.refl _ _⟩
 case round =>
  obtain ⟨k,rfl,hk,KB⟩ := hrel
  by_cases hlt : k < n
  ·have hkl : k < l.length := by rw [<- HN.out]; exact hlt
   obtain ⟨_,b,off,rfl,_,k0,k1,k2⟩ := (HS.out.later KB.out).at' k _ (List.getElem?_eq_getElem hkl)
   obtain ⟨_,b2,off2,rfl,_,m0,m1,m2⟩ := (HS2.out.later KB.out).at' k _ (List.getElem?_eq_getElem hkl)
   obtain ⟨t,ht⟩ : ∃ t,t = l[k] := ⟨_,rfl⟩
   rw [<- ht] at k0 k1 k2 m0 m1 m2
   obtain ⟨x,y,z⟩ := t
   simp only at k0 k1 k2 m0 m1 m2
   clear ht hkl
   go_wp2_with fail
   go_region
   go_wp2_with fail
   go_roundw
   case rel => exact ⟨k + 1,by go_num,by omega,below_drewN KB.out _⟩
   case measure => simp [intOf]; omega
  ·obtain rfl : k = n := by omega
   go_wp2_with fail
   go_ret
   exact ⟨rfl,KB.out⟩
end
end Go.Proofs.YtmgpcbjciioiaaaGreatDoor
