import Derived.Test.YtmgpcbjciioiaaaGreatDoorKlen
import Derived.Test.YtmgpcbjciioiaaaGreatDoorKneed
import Derived.Test.YtmgpcbjciioiaaaGreatDoorKclone
import Derived.Test.YtmgpcbjciioiaaaGreatDoorWruns
namespace Go.Proofs.YtmgpcbjciioiaaaGreatDoor
set_option maxRecDepth 100000
set_option maxHeartbeats 8000000
open Go.RowKit
theorem needBits_ok (a : Option Addr) (m c : Nat) (N : Int) (w : World) : Calls Tryz.prog 80 #[.agg #[.slice a m c,.int .i64 N],.int .i64 0] w fun e w' => e = .returned (.agg #[.slice a m c,.int .i64 N]) /\ Below w.heap.size w w' := by
 go_enter Tryz.func80,Tryz.ntmps80
 go_wp2
 refine bodyPost_ret (v := .agg #[.slice a m c,.int .i64 N]) (by simp [results,Tryz.results80,go_sem]) rfl ⟨rfl,?_⟩
 exact (below1 w _).trans ((below1 _ _).mono (by simp))
def Wr (w : World) (R : Nat) (l : List Bool) : Prop := ∃ a m c,Has w R (.cells #[.slice a m c,.int .i64 (l.length : Int)] 116) /\ Sl w (.slice a m c) (Bs.pack l)
theorem Wr.later {w w' : World} {R : Nat} {l : List Bool} (h : Wr w R l) (hb : Below w.heap.size w w') : Wr w' R l := by
 obtain ⟨a,m,c,h1,h2⟩ := h
 exact ⟨a,m,c,h1.later hb,h2.later hb⟩
theorem Wr.lt {w : World} {R : Nat} {l : List Bool} (h : Wr w R l) : R < w.heap.size := by
 obtain ⟨a,m,c,h1,_⟩ := h
 exact h1.lt
def WrN (B : Nat) (w : World) (R : Nat) (l : List Bool) : Prop := ∃ g m c,Has w R (.cells #[.slice (some ⟨g,0,none⟩) m c,.int .i64 (l.length : Int)] 116) /\ Sl w (.slice (some ⟨g,0,none⟩) m c) (Bs.pack l) /\ B <= g
theorem WrN.wr {B : Nat} {w : World} {R : Nat} {l : List Bool} (h : WrN B w R l) : Wr w R l := by
 obtain ⟨g,m,c,h1,h2,_⟩ := h
 exact ⟨_,m,c,h1,h2⟩
theorem WrN.mono {B B' : Nat} {w : World} {R : Nat} {l : List Bool} (h : WrN B w R l) (hb : B' <= B) : WrN B' w R l := by
 obtain ⟨g,m,c,h1,h2,h3⟩ := h
 exact ⟨g,m,c,h1,h2,Nat.le_trans hb h3⟩
theorem wr_set {B : Nat} {w : World} {R g m : Nat} {l : List Bool} {s0 s1 : Value} (hx : Has w R (.cells #[s0,s1] 116)) (hg : Has w g (bytesObj (Bs.pack l))) (hne : g ≠ R) (hm : m = (l.length + 7) / 8) (hl : l.length <= 1000000) (hB : B <= g) :
  WrN B ((w.setCell ⟨R,0,none⟩ (.slice (some ⟨g,0,none⟩) m m)).setCell ⟨R,1,none⟩ (.int .i64 (l.length : Int))) R l := by
 refine ⟨g,m,m,?_,?_,hB⟩
 ·have h := (hx.setSelf (i := 0) (.slice (some ⟨g,0,none⟩) m m)).setSelf (i := 1) (.int .i64 (l.length : Int))
  simpa using h
 ·exact Sl.has ((hg.set (a := ⟨R,0,none⟩) (by exact hne) _).set (a := ⟨R,1,none⟩) (by exact hne) _) (Bs.pack_lt _) (by rw [Bs.pack_length]; omega) _ _ (by rw [Bs.pack_length,hm])
theorem only_set2 {w w1 : World} {R : Nat} (h : Only R w w1) (x y : Value) : Only R w ((w1.setCell ⟨R,0,none⟩ x).setCell ⟨R,1,none⟩ y) := (h.trans (only_set _ R 0 _)).trans (only_set _ R 1 _)
theorem wnum_n (R : Nat) (l : List Bool) (v n : Nat) (w : World) (h : Wr w R l) (hl : l.length <= 100000) (hn : n <= 32) (hv : v < 2 ^ n) :
  Calls Tryz.prog 119 #[.pointer (some ⟨R,0,none⟩),.int .i64 (v : Int),.int .i64 (n : Int)] w fun e w' => e = .returned (.tuple #[]) /\ WrN w.heap.size w' R (l ++ Bs.bitsOf v n) /\ Only R w w' := by
 obtain ⟨a,m,c,hx,hs⟩ := h
 have HP := LH (put_ok (.slice a m c) l v n w hs (show l.length <= 1125899906842624 by omega) hn hv l.length rfl)
 obtain ⟨c0,c1,z0,z1⟩ := hx.two
 have HX := LH hx
 have HR := LH hx.lt
 obtain ⟨N,hN⟩ : ∃ N,N = l.length := ⟨_,rfl⟩
 rw [<- hN] at HP HX c1
 have HL := LH (show (l ++ Bs.bitsOf v n).length <= 1000000 by rw [List.length_append,Bs.bitsOf_length]; omega)
 obtain ⟨L2,hL2⟩ : ∃ x,x = l ++ Bs.bitsOf v n := ⟨_,rfl⟩
 rw [<- hL2] at HP HL ⊢
 clear hx hs hv hN hl hL2
 go_enter Tryz.func119,Tryz.ntmps119
 go_wp2_with fail
 refine HP.out.mono ?_
 clear HP
 rintro e w1 ⟨g,mm,rfl,hm,hg,hh,hb⟩
 have HM := LH hm
 have HG := LH hg
 have HH := LH hh
 have HB := LH hb
 have HX1 := LH (HX.out.later hb)
 clear hm hg hh hb c0 c1 z0 z1
 go_wp2_with fail
 refine (needBits_ok _ _ _ _ _).mono ?_
 rintro e w2 ⟨rfl,hb2⟩
 have HX2 := LH (HX1.out.later hb2)
 have HH2 := LH (HH.out.later hb2)
 have HB2 := LH (HB.out.trans (hb2.mono HB.out.size))
 obtain ⟨d0,d1,y0,y1⟩ := HX2.out.two
 clear hb2 HX1 HH HB
 go_wp2_with fail
 go_end0
 exact ⟨rfl,wr_set HX2.out HH2.out (by have := HG.out; have := HR.out; omega) HM.out HL.out HG.out,only_set2 (Only.of_below HB2.out) _ _⟩
theorem wnum_ok (R : Nat) (l : List Bool) (v n : Nat) (w : World) (h : Wr w R l) (hl : l.length <= 100000) (hn : n <= 32) (hv : v < 2 ^ n) :
  Calls Tryz.prog 119 #[.pointer (some ⟨R,0,none⟩),.int .i64 (v : Int),.int .i64 (n : Int)] w fun e w' => e = .returned (.tuple #[]) /\ Wr w' R (l ++ Bs.bitsOf v n) /\ Only R w w' :=
 (wnum_n R l v n w h hl hn hv).mono fun _ _ hp => ⟨hp.1,hp.2.1.wr,hp.2.2⟩
theorem wrun_n (R : Nat) (l : List Bool) (C : List Nat) (cs : Value) (sym v : Nat) (w : World) (h : Wr w R l) (hl : l.length <= 90000) (hz : Zl w cs (Hd.zz C)) (hf : Fit (Hd.zz C)) (hs : sym < C.length) (h0 : Hf.ln C sym ≠ 0) (hv : v < 2 ^ Hd.ex sym) :
  Calls Tryz.prog 121 #[.pointer (some ⟨R,0,none⟩),cs,.agg #[.int .i64 (sym : Int),.int .i64 (v : Int)]] w fun e w' => e = .returned (.tuple #[]) /\ WrN w.heap.size w' R (l ++ If.opRow C (sym,v)) /\ Only R w w' := by
 obtain ⟨a,m,c,hx,hsl⟩ := h
 have hzn : nat (Hd.zz C) = C := Hd.nat_zz C
 have HP := LH (fun W (hb : Below w.heap.size w W) => hput_ok (.slice a m c) l l.length cs (Hd.zz C) sym W (hsl.later hb) (hz.later hb) rfl (by omega) (by simpa [Hd.zz] using hs) hf (by
  have := h0
  unfold Hf.ln at this
  rw [Hd.zz_get]
  omega))
 rw [hzn] at HP
 have hcw : (cw C sym).length <= 15 := by
  rw [cw_len]
  have := (hf.valid.2.2 sym (by simpa [Hd.zz] using hs)).2
  rw [Hd.zz_get] at this
  unfold Hf.ln
  omega
 obtain ⟨L1,hL1⟩ : ∃ x,x = l ++ cw C sym := ⟨_,rfl⟩
 have hL1l : L1.length <= 90015 := by rw [hL1,List.length_append]; omega
 rw [<- hL1] at HP
 have hop : l ++ If.opRow C (sym,v) = L1 ++ Bs.bitsOf v (Hd.ex sym) := by rw [hL1]; unfold If.opRow; rw [List.append_assoc]
 rw [hop]
 have hex := Hd.ex_le sym
 have HN := LH (fun W (hw : Wr W R L1) => wnum_n R L1 v (Hd.ex sym) W hw (by omega) (by omega) hv)
 have HSH := LH (fun W => shape_is sym W)
 unfold shp at HSH
 obtain ⟨ex,hexe⟩ : ∃ e,e = Hd.ex sym := ⟨_,rfl⟩
 rw [<- hexe] at HN HSH ⊢
 obtain ⟨le,hle⟩ : ∃ e,e = Hd.least sym := ⟨_,rfl⟩
 rw [<- hle] at HSH
 obtain ⟨n0,hn0⟩ : ∃ n,n = l.length := ⟨_,rfl⟩
 rw [<- hn0] at HP hx
 have hb0 := below1 w (.cells #[.int .i64 (sym : Int),.int .i64 (v : Int)] 165)
 have HX := LH hx
 have HX1 := hx.later hb0
 obtain ⟨c0,c1,z0,z1⟩ := HX1.two
 have HRU := LH (Has.new w (.cells #[.int .i64 (sym : Int),.int .i64 (v : Int)] 165))
 have HB0 := LH hb0
 have HR := LH hx.lt
 have hfd := fld1 (le : Int) (ex : Int)
 have HLL := LH hL1l
 obtain ⟨ca,cn,cc,rfl,-⟩ := hz.shape
 clear hsl hz hf hs h0 hv hcw hL1 hop hex hexe hle hn0 hx hb0 HX1 hzn hl hL1l
 go_enter Tryz.func121,Tryz.ntmps121
 go_wp2_with fail
 go_region_with (first | (go_at_call 160; refine (HP.out _ (below_drewN HB0.out 1)).mono ?_; rintro e w1 ⟨g,mm,rfl,hm,hg,hh,hb⟩; have HM := LH hm; have HG := LH (show w.heap.size < g by have := hg; simp at this; omega); have HH := LH hh; have HB1 := LH ((below_drewN HB0.out 1).trans (hb.mono (by simp))); have HX1 := LH (HX.out.later HB1.out); have HRU1 := LH ((HRU.out.later (below_drewN (Below.refl _ _) 1)).later hb); clear hm hg hh hb) | (go_at_call 80; refine (needBits_ok _ _ _ _ _).mono ?_; rintro e w2 ⟨rfl,hb2⟩; have HX2 := LH (HX1.out.later hb2); have HH2 := LH (HH.out.later hb2); have HB2 := LH (HB1.out.trans (hb2.mono HB1.out.size)); have HRU2 := LH (HRU1.out.later hb2); obtain ⟨d0,d1,y0,y1⟩ := HX2.out.two; clear hb2 HX1 HH HB1 HRU1))
 all_goals
  have hw : Wr ((w2.setCell ⟨R,0,none⟩ (.slice (some ⟨g,0,none⟩) mm mm)).setCell ⟨R,1,none⟩ (.int .i64 (L1.length : Int))) R L1 := (wr_set (B := 0) HX2.out HH2.out (by have := HG.out; have := HR.out; omega) HM.out (by have := HLL.out; omega) (Nat.zero_le _)).wr
  have hru : Has ((w2.setCell ⟨R,0,none⟩ (.slice (some ⟨g,0,none⟩) mm mm)).setCell ⟨R,1,none⟩ (.int .i64 (L1.length : Int))) w.heap.size (.cells #[.int .i64 (sym : Int),.int .i64 (v : Int)] 165) := (HRU2.out.set (a := ⟨R,0,none⟩) (by have := HR.out; show w.heap.size ≠ R; omega) _).set (a := ⟨R,1,none⟩) (by have := HR.out; show w.heap.size ≠ R; omega) _
  have ho := only_set2 (R := R) (Only.of_below HB2.out) (.slice (some ⟨g,0,none⟩) mm mm) (.int .i64 (L1.length : Int))
  obtain ⟨w3,hw3⟩ : ∃ W,W = (w2.setCell ⟨R,0,none⟩ (.slice (some ⟨g,0,none⟩) mm mm)).setCell ⟨R,1,none⟩ (.int .i64 (L1.length : Int)) := ⟨_,rfl⟩
  rw [<- hw3] at hw hru ho ⊢
  have HW3 := LH (hw.later (below_drewN (Below.refl w3.heap.size w3) 1))
  have RU3 := LH (hru.later (below_drewN (Below.refl w3.heap.size w3) 1))
  have HO3 := LH (ho.trans (Only.of_below (R := R) (below_drewN (Below.refl w3.heap.size w3) 1)))
  obtain ⟨r0,r1,r2,r3⟩ := hru.two
  clear hw3 hw hru ho HX2 HH2 HB2 HRU2 HM HG c0 c1 z0 z1 d0 d1 y0 y1 r2 r3 HP HX HRU HB0 HR HLL
  go_wp2_with fail
  go_region_with (first | (go_at_call 161; refine (HSH.out _).mono ?_; rintro e w4 ⟨rfl,hb4⟩; have HW4 := LH (HW3.out.later hb4); have RU4 := LH (RU3.out.later hb4); have HO4 := LH (HO3.out.trans (Only.of_below (R := R) hb4)); obtain ⟨p0,p1,p2,p3⟩ := RU4.out.two; clear hb4 p2 p3) | (go_at_call 119; refine (HN.out _ HW4.out).mono ?_; rintro e w5 ⟨rfl,hw5,ho5⟩; have HW5 := LH hw5; have HO5 := LH (HO4.out.trans ho5); clear hw5 ho5))
  all_goals
   go_wp2_with fail
   go_end0
   exact ⟨rfl,HW5.out.mono HO4.out.size,HO5.out⟩
end Go.Proofs.YtmgpcbjciioiaaaGreatDoor
