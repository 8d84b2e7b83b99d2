import Derived.Test.YtckbhciehmokdaaGreatDoorDwr
import Derived.Test.YtckbhciehmokdaaGreatDoorJfix
import Derived.Test.YtckbhciehmokdaaGreatDoorJget
import Derived.Test.YtckbhciehmokdaaGreatDoorMfbad
import Derived.Test.YtckbhciehmokdaaGreatDoorIcop
namespace Go.Proofs.YtckbhciehmokdaaGreatDoor
set_option maxRecDepth 100000
set_option maxHeartbeats 8000000
section
open Go.RowKit
theorem clRow_succ (C : List Nat) (k : Nat) : If.clRow C (k + 1) = If.clRow C k ++ Bs.bitsOf (Hf.ln C (Hd.ord k)) 3 := rfl
theorem only_cell {w w' : World} {R b i : Nat} {v : Option Value} (h : Only R w w') (hb : b < w.heap.size) (hne : b ≠ R) (hc : w.cell? ⟨b,i,none⟩ = v) : w'.cell? ⟨b,i,none⟩ = v := (cell_of_heap (h.block b hb hne) i).trans hc
theorem wcode_ok (R : Nat) (l : List Bool) (C : List Nat) (b off cap : Nat) (w : World) (h : Wr w R l) (hl : l.length <= 1000) (hc : ∀ i,i < 19 -> w.cell? ⟨b,off + i,none⟩ = some (.int .i64 ((Hf.ln C i : Nat) : Int))) (hb : b < w.heap.size) (hne : b ≠ R) (hgl : Glob w) (hgR : 1 ≠ R) (h8 : ∀ i,Hf.ln C i < 8) :
  Calls Tryz.prog 120 #[.pointer (some ⟨R,0,none⟩),.slice (some ⟨b,off,none⟩) 19 cap] w fun e w' => e = .returned (.tuple #[]) /\ ∃ c,4 <= c /\ c <= 19 /\ (∀ k,c <= k -> k < 19 -> Hf.ln C (Hd.ord k) = 0) /\ Wr w' R (l ++ (Bs.bitsOf (c - 4) 4 ++ If.clRow C c)) /\ Only R w w' := by
 have HG := LH hgl
 have HC := LH hc
 have HW := LH h
 have H8 := LH h8
 clear hc h hgl h8
 go_enter Tryz.func120,Tryz.ntmps120
 go_wp2_with fail
 go_loop [4] (fun s4 => ∃ k : Nat,s4 = .int .i64 (k : Int) /\ 4 <= k /\ k <= 19 /\ Hid (∀ j,k <= j -> j < 19 -> Hf.ln C (Hd.ord j) = 0)) (fun s => (intOf s).toNat)
 case atStart => exact ⟨19,by go_num,by omega,by omega,fun j h1 h2 => by omega⟩
 case round =>
  obtain ⟨k,rfl,h4,h19,KZ⟩ := hrel
  have done : Hid (∀ c,c = k -> Hid (∀ j,c <= j -> j < 19 -> Hf.ln C (Hd.ord j) = 0)) := fun c hc => by rw [hc]; exact KZ.out
  by_cases hk4 : 4 < k
  ·have d0 : decide ((4 : Int) < (k : Int)) = true := decide_eq_true (by omega)
   have i1 : (0 : Int) <= (k : Int) - 1 := by omega
   have i2 : (k : Int) - 1 < 19 := by omega
   have i3 : ((k : Int) - 1).toNat = k - 1 := by omega
   have i4 : (k : Int) <= 19 := by omega
   have g0 : w.cell? ⟨1,k - 1,none⟩ = some (.int .i64 (Hd.ord (k - 1) : Int)) := HG.out (k - 1) (by omega)
   obtain ⟨o,ho⟩ : ∃ o,o = Hd.ord (k - 1) := ⟨_,rfl⟩
   have ho19 : o < 19 := by rw [ho]; exact Hd.ord_lt _
   rw [<- ho] at g0
   have HO := LH ho
   have j1 : (o : Int) < 19 := by omega
   have j2 : (0 : Int) <= (o : Int) := by omega
   have gc := HC.out o ho19
   obtain ⟨z,hz⟩ : ∃ z,z = Hf.ln C o := ⟨_,rfl⟩
   rw [<- hz] at gc
   have HZ := LH hz
   clear ho hz
   by_cases hz0 : z = 0
   ·subst hz0
    have KZ2 : Hid (∀ j,k - 1 <= j -> j < 19 -> Hf.ln C (Hd.ord j) = 0) := fun j h1 h2 => by
     by_cases e : j = k - 1
     ·subst e; rw [<- HO.out,<- HZ.out]
     ·exact KZ.out j (by omega) h2
    clear KZ done
    go_wp2_with fail
    go_round
    case rel => exact ⟨k - 1,by first | rfl | go_num | (congr 1; omega),by omega,by omega,KZ2⟩
    case measure => simp [intOf]; omega
   ·have hzb : ((z : Int) == 0) = false := by rw [beq_eq_false_iff_ne]; omega
    have hzn : ¬ ((z : Int) = 0) := by omega
    go_wp2_with fail
    have e4 : (k : Int) - 4 = ((k - 4 : Nat) : Int) := by omega
    rw [e4]
    have HN := wnum_ok R l (k - 4) 4 w HW.out (by omega) (by omega) (by omega)
    refine HN.mono ?_
    clear HN
    rintro e w1 ⟨rfl,hw1,ho1⟩
    have W0 : Hid (Wr w1 R (l ++ (Bs.bitsOf (k - 4) 4 ++ If.clRow C 0))) := by
     show Wr _ _ _
     rw [show If.clRow C 0 = [] from rfl,List.append_nil]; exact hw1
    have O0 := LH ho1
    have CZ := done.out k rfl
    clear hw1 ho1 done KZ e4 g0 gc hzb hzn d0 i1 i2 i3 i4 j1 j2 HO HZ hz0 ho19
    go_wp2_with fail
    go_loopw [25] (fun s25 wr => ∃ j : Nat,s25 = .int .i64 (j : Int) /\ j <= k /\ Hid (Wr wr R (l ++ (Bs.bitsOf (k - 4) 4 ++ If.clRow C j))) /\ Hid (Only R w wr)) (fun s25 _ => k - (intOf s25).toNat)
    case atStart => exact ⟨0,by go_num,Nat.zero_le _,W0,O0⟩
    clear W0 O0
    case round =>
     obtain ⟨j,rfl,hj,KW,KO⟩ := hrel
     by_cases hlt : j < k
     ·have d0 : decide ((j : Int) < (k : Int)) = true := decide_eq_true (by omega)
      have i1 : (0 : Int) <= (j : Int) := by omega
      have i2 : (j : Int) < 19 := by omega
      have g0 : wr.cell? ⟨1,j,none⟩ = some (.int .i64 (Hd.ord j : Int)) := only_cell KO.out HG.out.lt hgR (HG.out j (by omega))
      obtain ⟨o,ho⟩ : ∃ o,o = Hd.ord j := ⟨_,rfl⟩
      have ho19 : o < 19 := by rw [ho]; exact Hd.ord_lt _
      rw [<- ho] at g0
      have j1 : (o : Int) < 19 := by omega
      have j2 : (0 : Int) <= (o : Int) := by omega
      have gc := only_cell KO.out hb hne (HC.out o ho19)
      obtain ⟨z,hz⟩ : ∃ z,z = Hf.ln C o := ⟨_,rfl⟩
      rw [<- hz] at gc
      have hz8 : z < 8 := by rw [hz]; exact H8.out o
      have HN3 := wnum_ok R _ z 3 wr KW.out (by simp only [List.length_append,Bs.bitsOf_length,If.clRow_length]; omega) (by omega) (by omega)
      have es : l ++ (Bs.bitsOf (k - 4) 4 ++ If.clRow C j) ++ Bs.bitsOf z 3 = l ++ (Bs.bitsOf (k - 4) 4 ++ If.clRow C (j + 1)) := by
       rw [clRow_succ,<- ho,<- hz,List.append_assoc,List.append_assoc]
      rw [es] at HN3
      have HN3' := LH HN3
      clear HN3 es ho hz KW
      go_wp2_with fail
      refine HN3'.out.mono ?_
      clear HN3'
      rintro e w2 ⟨rfl,hw2,ho2⟩
      have KW2 := LH hw2
      have KO2 := LH (KO.out.trans ho2)
      clear hw2 ho2 g0 gc
      go_wp2_with fail
      go_round
      case rel => exact ⟨j + 1,by go_num,by omega,KW2,KO2⟩
      case measure => simp [intOf]; omega
     ·obtain rfl : j = k := by omega
      have d0 : decide ((j : Int) < (j : Int)) = false := decide_eq_false (by omega)
      go_wp2_with fail
      go_end0
      exact ⟨rfl,j,by omega,h19,CZ.out,KW.out,KO.out⟩
  ·obtain rfl : k = 4 := by omega
   have d9 : decide ((4 : Int) < (4 : Int)) = false := by decide
   have e4 : True := trivial
   go_wp2_with fail
   skip
   have HN := wnum_ok R l 0 4 w HW.out (by omega) (by omega) (by omega)
   refine HN.mono ?_
   clear HN
   rintro e w1 ⟨rfl,hw1,ho1⟩
   have W0 : Hid (Wr w1 R (l ++ (Bs.bitsOf 0 4 ++ If.clRow C 0))) := by
    show Wr _ _ _
    rw [show If.clRow C 0 = [] from rfl,List.append_nil]; exact hw1
   have O0 := LH ho1
   have CZ := done.out 4 rfl
   clear hw1 ho1 done KZ e4
   go_wp2_with fail
   go_loopw [25] (fun s25 wr => ∃ j : Nat,s25 = .int .i64 (j : Int) /\ j <= 4 /\ Hid (Wr wr R (l ++ (Bs.bitsOf 0 4 ++ If.clRow C j))) /\ Hid (Only R w wr)) (fun s25 _ => 4 - (intOf s25).toNat)
   case atStart => exact ⟨0,by go_num,Nat.zero_le _,W0,O0⟩
   clear W0 O0
   case round =>
    obtain ⟨j,rfl,hj,KW,KO⟩ := hrel
    by_cases hlt : j < 4
    ·have d0 : decide ((j : Int) < (4 : Int)) = true := decide_eq_true (by omega)
     have i1 : (0 : Int) <= (j : Int) := by omega
     have i2 : (j : Int) < 19 := by omega
     have g0 : wr.cell? ⟨1,j,none⟩ = some (.int .i64 (Hd.ord j : Int)) := only_cell KO.out HG.out.lt hgR (HG.out j (by omega))
     obtain ⟨o,ho⟩ : ∃ o,o = Hd.ord j := ⟨_,rfl⟩
     have ho19 : o < 19 := by rw [ho]; exact Hd.ord_lt _
     rw [<- ho] at g0
     have j1 : (o : Int) < 19 := by omega
     have j2 : (0 : Int) <= (o : Int) := by omega
     have gc := only_cell KO.out hb hne (HC.out o ho19)
     obtain ⟨z,hz⟩ : ∃ z,z = Hf.ln C o := ⟨_,rfl⟩
     rw [<- hz] at gc
     have hz8 : z < 8 := by rw [hz]; exact H8.out o
     have HN3 := wnum_ok R _ z 3 wr KW.out (by simp only [List.length_append,Bs.bitsOf_length,If.clRow_length]; omega) (by omega) (by omega)
     have es : l ++ (Bs.bitsOf 0 4 ++ If.clRow C j) ++ Bs.bitsOf z 3 = l ++ (Bs.bitsOf 0 4 ++ If.clRow C (j + 1)) := by
      rw [clRow_succ,<- ho,<- hz,List.append_assoc,List.append_assoc]
     rw [es] at HN3
     have HN3' := LH HN3
     clear HN3 es ho hz KW
     go_wp2_with fail
     refine HN3'.out.mono ?_
     clear HN3'
     rintro e w2 ⟨rfl,hw2,ho2⟩
     have KW2 := LH hw2
     have KO2 := LH (KO.out.trans ho2)
     clear hw2 ho2 g0 gc
     go_wp2_with fail
     go_round
     case rel => exact ⟨j + 1,by go_num,by omega,KW2,KO2⟩
     case measure => simp [intOf]; omega
    ·obtain rfl : j = 4 := by omega
     have d0 : decide ((4 : Int) < (4 : Int)) = false := decide_eq_false (by omega)
     go_wp2_with fail
     go_end0
     exact ⟨rfl,4,by omega,h19,CZ.out,KW.out,KO.out⟩
end
section
open Go.RowKit
theorem Zk.of_new {K : Nat -> Prop} {w w1 : World} {v : Value} {ls : List Nat} (hz : Zl w1 v (Hd.zz ls)) (hn : Newer w v) (hf : (∀ x ∈ ls,x = 0) ∨ Fit (Hd.zz ls)) : Zk (fun k => K k ∨ (w.heap.size <= k /\ k < w1.heap.size)) w1 v ls := by
 refine ⟨hz,fun a len cap b off e h0 ha => Or.inr ⟨hn a len cap b off e ha,?_⟩,hf⟩
 obtain ⟨a',len',cap',e',_,_,_,h4⟩ := hz
 rw [e] at e'
 injection e' with e1 e2 _
 obtain ⟨b',off',e3,hlt,_⟩ := h4 (by omega)
 rw [<- e1,ha] at e3
 injection e3 with e3
 injection e3 with e3 _ _
 omega
theorem Zl.newer {w w1 : World} {v x : Value} {zs : List Int} {R i : Nat} (h : Zl w1 v zs) (hn : Newer w v) (hR : R < w.heap.size) : Zl (w1.setCell ⟨R,i,none⟩ x) v zs := by
 obtain ⟨a,len,cap,rfl,h1,h2,h3,h4⟩ := h
 refine ⟨a,len,cap,rfl,h1,h2,h3,fun h0 => ?_⟩
 obtain ⟨b,off,rfl,hlt,hc⟩ := h4 h0
 have hb := hn _ _ _ _ _ rfl rfl
 refine ⟨b,off,rfl,by simpa using hlt,fun j hj => ?_⟩
 rw [cell_of_heap (Below.heap_setCell w1 ⟨R,i,none⟩ x b (by simp only; omega))]
 exact hc j hj
def Jd (K : Nat -> Prop) (R : Nat) (s : Value) (l : List Bool) (N most : Nat) (out : List Nat) (w : World) (r : List Nat × List Nat × Nat × Int) (e : Ending) (w' : World) : Prop :=
 Fr K w w' /\ (r.2.2.2 = 0 -> ∃ v1 v2 K',e = .returned (.tuple #[v1,v2,.int .i64 0]) /\ (∀ k,K k -> K' k) /\ Zk K' w' v1 r.1 /\ Zk K' w' v2 r.2.1 /\ Fit (Hd.zz r.1) /\ Ds K' R s l N most w' r.2.2.1 out) /\
  (r.2.2.2 ≠ 0 -> e = .returned (.tuple #[.slice none 0 0,.slice none 0 0,.int .i64 r.2.2.2]))
noncomputable def jdynE (h : List Nat × List Nat × Nat × Int) : List Nat × List Nat × Nat × Int :=
 if h.2.2.2 ≠ 0 then ([],[],0,h.2.2.2) else if h.1[256]?.getD 0 = 0 then ([],[],0,13) else if newE (Hd.zz h.1) ≠ 0 then ([],[],0,newE (Hd.zz h.1)) else
 if newE (Hd.zz h.2.1) ≠ 0 /\ ¬ (∀ x ∈ h.2.1,x = 0) then ([],[],0,newE (Hd.zz h.2.1)) else h
theorem jdynamic_any {K : Nat -> Prop} {R : Nat} {s : Value} {l : List Bool} {N most : Nat} {w : World} {p : Nat} {out : List Nat} (hS : Ds K R s l N most w p out) (hl : Hid (N = l.length)) (hN : N <= 2251799813685248) (r : List Nat × List Nat × Nat × Int) (hr : Hid (Unit -> jdynE (Hd.head l p) = r)) :
  Calls Tryz.prog 84 #[.pointer (some ⟨R,0,none⟩)] w (Jd K R s l N most out w r) := by
 have HS := LH hS
 obtain ⟨ov,hx,_,_⟩ := hS.has
 obtain ⟨c0,c1,c2,_⟩ := jdi_cells hx
 have hp := hS.pn
 obtain ⟨lit,dist,q,c,hh⟩ : ∃ lit dist q c,Hd.head l p = (lit,dist,q,c) := ⟨_,_,_,_,rfl⟩
 have hst := hr.out ()
 rw [hh] at hst
 unfold jdynE at hst
 simp only at hst
 have HST := LH (fun _ : Unit => hst)
 have HH := LH (fun _ : Unit => hh)
 obtain ⟨sa,sl,sc,rfl,hsl⟩ := hS.sl.shape
 clear hsl
 have HX := LH hx
 have HG := LH (fun W (hb : Below w.heap.size w W) => rhread_any _ l N p W (hS.sl.later hb) hl hN hp)
 rw [hh] at HG
 have B0 := LH (Below.refl w.heap.size w)
 have HP := LH hp
 clear hx hS hst hh hr hp
 go_enter Tryz.func84,Tryz.ntmps84
 go_wp2
 go_region_held3 (fun wx => wx.cell? ⟨R,0,none⟩ = some (.slice sa sl sc) /\ wx.cell? ⟨R,1,none⟩ = some (.int .i64 (N : Int)) /\ wx.cell? ⟨R,2,none⟩ = some (.int .i64 (p : Int)) /\ Below w.heap.size w wx) (first | exact ⟨c0,c1,c2,B0.out.drew⟩ | exact keep_jdi HX.out B0.out.drew hb1.out)
  (first | (go_at_call 125; refine (HG.out _ B0.out.drew).mono ?_; rintro e w1 ⟨s1,s2,rfl,z1,z2,hb,n1,n2⟩; have HZ1 := LH z1; have HZ2 := LH z2; have hb1 := LH hb; have HN1 := LH n1; have HN2 := LH n2; clear z1 z2 hb n1 n2))
 have HB := LH (B0.out.drew.trans (hb1.out.mono (Nat.le_refl _)))
 clear c0 c1 c2 HG
 by_cases hc : c = 0
 ·subst hc
  have hx1 := HX.out.later HB.out
  obtain ⟨_,_,e2,_⟩ := jdi_cells hx1
  have y2 := jdi_free hx1 2
  have hfacts := If.head_facts (l := l) (p := p) (by rw [HH.out ()])
  rw [HH.out ()] at hfacts
  simp only at hfacts
  have hq : q <= N := by rw [hl.out]; exact hfacts.2
  have hlens := Hd.head_lens (HH.out ())
  have hst := HST.out ()
  rw [if_neg (by simp)] at hst
  have hSK := HS.out.widen HB.out
  have HSK := LH (hSK.at q hq)
  have HFK := LH ((Fr.of_below HS.out.lt HB.out).trans ((HS.out.later HB.out).at_fr q))
  have HY1 := LH (HZ1.out.newer (i := 2) (x := .int .i64 (q : Int)) HN1.out HX.out.lt)
  have HY2 := LH (HZ2.out.newer (i := 2) (x := .int .i64 (q : Int)) HN2.out HX.out.lt)
  obtain ⟨a1,m1,k1,rfl,hm1⟩ := HY1.out.shape
  rw [Hd.zz_length] at hm1
  obtain ⟨a2,m2,k2,rfl,hm2⟩ := HY2.out.shape
  rw [Hd.zz_length] at hm2
  obtain ⟨b,off,rfl,hb0,hq0,hc5⟩ := zl_cell HY1.out 256 (by rw [Hd.zz_length]; omega)
  clear hb0 hq0
  rw [Hd.zz_get] at hc5
  obtain ⟨x,hx0⟩ : ∃ x,x = lit[256]?.getD 0 := ⟨_,rfl⟩
  rw [<- hx0] at hc5 hst
  have HST2 := LH (fun _ : Unit => hst)
  have hm9 : 257 <= m1 /\ m1 <= 286 := by omega
  have HXX : R < w.heap.size := HX.out.lt
  have HM2 := LH hm2
  have HW1 : Hid (w1.heap.size = (w1.setCell ⟨R,2,none⟩ (.int .i64 (q : Int))).heap.size) := by show _ = _; simp
  clear hst HST hfacts hlens hx1 hx0 hm1 hm2 hSK HZ1 HZ2 HX hb1
  by_cases h0 : x = 0
  ·have hst := HST2.out ()
   rw [if_pos h0] at hst
   subst hst h0
   clear HST2
   go_wp2
   refine bodyPost_ret (v := .tuple #[.slice none 0 0,.slice none 0 0,.int .i64 13]) (by simp [results,Tryz.results84,go_sem]) rfl ⟨HFK.out,fun h => absurd h (by decide),fun _ => rfl⟩
  have hst := HST2.out ()
  rw [if_neg h0] at hst
  have dx : ((x : Int) == 0) = false := by simp; omega
  have dx2 : (x == 0) = false := by simp; omega
  have HE1 := LH (rnew_any _ _ _ HY1.out)
  have HE2 := LH (rnew_any _ _ _ HY2.out)
  have HF1 : Hid (newE (Hd.zz lit) = 0 -> Fit (Hd.zz lit)) := fit_of
  have HF2 : Hid (newE (Hd.zz dist) = 0 -> Fit (Hd.zz dist)) := fit_of
  generalize newE (Hd.zz lit) = cl at hst HE1 HF1
  generalize newE (Hd.zz dist) = cd at hst HE2 HF2
  have HST3 := LH (fun _ : Unit => hst)
  have HNO := LH (jnone_any dist _ _ HY2.out)
  generalize hW : w1.setCell ⟨R,2,none⟩ (.int .i64 (q : Int)) = W at *
  clear hst HST2 h0
  by_cases hcl : cl = 0
  ·subst hcl
   have hst := HST3.out ()
   rw [if_neg (by simp)] at hst
   have HST4 := LH (fun _ : Unit => hst)
   clear hst HST3
   by_cases hcd : cd = 0
   ·subst hcd
    have hst := HST4.out ()
    rw [if_neg (by simp)] at hst
    subst hst
    clear HST4 HNO
    go_wp2_with fail
    try rw [hW]
    refine HE1.out.mono ?_
    rintro e w2 ⟨rfl,rfl⟩
    go_wp2_with fail
    refine HE2.out.mono ?_
    rintro e w2 ⟨rfl,rfl⟩
    go_wp2
    refine bodyPost_ret (v := .tuple #[.slice (some ⟨b,off,none⟩) m1 k1,.slice a2 m2 k2,.int .i64 0]) (by simp [results,Tryz.results84,go_sem]) rfl ⟨HFK.out,fun _ => ⟨_,_,_,rfl,fun k hk => Or.inl hk,?_,?_,HF1.out (by trivial),HSK.out⟩,fun h => absurd rfl h⟩
    ·have := Zk.of_new (K := K) HY1.out HN1.out (Or.inr (HF1.out (by trivial))); rw [<- HW1.out] at this; exact this
    ·have := Zk.of_new (K := K) HY2.out HN2.out (Or.inr (HF2.out (by trivial))); rw [<- HW1.out] at this; exact this
   ·have e9 : (cd != 0) = true := by rw [bne_iff_ne]; exact hcd
    by_cases hz : ∀ x ∈ dist,x = 0
    ·have hst := HST4.out ()
     rw [if_neg (fun h => h.2 hz)] at hst
     subst hst
     have dz : decide (∀ x ∈ dist,x = 0) = true := decide_eq_true hz
     rw [dz] at HNO
     have HZZ := LH hz
     clear HST4 dz hz hcd HF2
     go_wp2_with fail
     try rw [hW]
     refine HE1.out.mono ?_
     rintro e w2 ⟨rfl,rfl⟩
     go_wp2_with fail
     refine HE2.out.mono ?_
     rintro e w2 ⟨rfl,rfl⟩
     go_wp2_with fail
     refine HNO.out.mono ?_
     rintro e w2 ⟨rfl,rfl⟩
     go_wp2
     refine bodyPost_ret (v := .tuple #[.slice (some ⟨b,off,none⟩) m1 k1,.slice a2 m2 k2,.int .i64 0]) (by simp [results,Tryz.results84,go_sem]) rfl ⟨HFK.out,fun _ => ⟨_,_,_,rfl,fun k hk => Or.inl hk,?_,?_,HF1.out (by trivial),HSK.out⟩,fun h => absurd rfl h⟩
     ·have := Zk.of_new (K := K) HY1.out HN1.out (Or.inr (HF1.out (by trivial))); rw [<- HW1.out] at this; exact this
     ·have := Zk.of_new (K := K) HY2.out HN2.out (Or.inl HZZ.out); rw [<- HW1.out] at this; exact this
    ·have hst := HST4.out ()
     rw [if_pos ⟨hcd,hz⟩] at hst
     subst hst
     have dz : decide (∀ x ∈ dist,x = 0) = false := decide_eq_false hz
     rw [dz] at HNO
     have HC := LH hcd
     clear HST4 dz hz hcd HF2
     go_wp2_with fail
     try rw [hW]
     refine HE1.out.mono ?_
     rintro e w2 ⟨rfl,rfl⟩
     go_wp2_with fail
     refine HE2.out.mono ?_
     rintro e w2 ⟨rfl,rfl⟩
     go_wp2_with fail
     refine HNO.out.mono ?_
     rintro e w2 ⟨rfl,rfl⟩
     go_wp2
     refine bodyPost_ret (v := .tuple #[.slice none 0 0,.slice none 0 0,.int .i64 cd]) (by simp [results,Tryz.results84,go_sem]) rfl ⟨HFK.out,fun h => absurd h HC.out,fun _ => rfl⟩
  ·have hst := HST3.out ()
   rw [if_pos hcl] at hst
   subst hst
   have e9 : (cl != 0) = true := by rw [bne_iff_ne]; exact hcl
   have HC := LH hcl
   clear HST3 hcl HNO HE2 HF1 HF2
   go_wp2_with fail
   try rw [hW]
   refine HE1.out.mono ?_
   rintro e w2 ⟨rfl,rfl⟩
   go_wp2
   refine bodyPost_ret (v := .tuple #[.slice none 0 0,.slice none 0 0,.int .i64 cl]) (by simp [results,Tryz.results84,go_sem]) rfl ⟨HFK.out,fun h => absurd h HC.out,fun _ => rfl⟩
 ·have hst := HST.out ()
  rw [if_pos hc] at hst
  subst hst
  have e9 : (c != 0) = true := by rw [bne_iff_ne]; exact hc
  have HC := LH hc
  clear hc HZ1 HZ2 HN1 HN2 HST
  go_wp2
  refine bodyPost_ret (v := .tuple #[.slice none 0 0,.slice none 0 0,.int .i64 c]) (by simp [results,Tryz.results84,go_sem]) rfl ⟨Fr.of_below HS.out.lt HB.out,fun h => absurd h HC.out,fun _ => rfl⟩
end
section
open Go.RowKit
structure Ti where
 len : Int
 far : Int
 lit : Nat
namespace Ti
def v (t : Ti) : Value := .agg #[.int .i64 t.len,.int .i64 t.far,.int .u8 (t.lit : Int)]
def of (t : If.Tk) : Ti := ⟨t.len,t.far,t.lit⟩
def tk (t : Ti) : If.Tk := ⟨t.len.toNat,t.far.toNat,t.lit⟩
def May (t : Ti) : Prop := (t.len = 0 /\ t.far = 0) ∨ (t.lit = 0 /\ 3 <= t.len /\ t.len <= 258 /\ 1 <= t.far /\ t.far <= 32768)
instance (t : Ti) : Decidable t.May := by unfold May; infer_instance
theorem May.tv {t : Ti} (h : t.May) (h8 : t.lit < 256) : Tv t.tk /\ Ti.of t.tk = t := by
 obtain ⟨n,d,x⟩ := t
 unfold tk of
 rcases h with ⟨h1,h2⟩ | ⟨h0,h1,h2,h3,h4⟩
 ·simp only at h1 h2 h8
  subst h1 h2
  exact ⟨Or.inl ⟨rfl,rfl,h8⟩,rfl⟩
 ·simp only at h0 h1 h2 h3 h4
  refine ⟨Or.inr ⟨h0,by simp only; omega,by simp only; omega,by simp only; omega,by simp only; omega⟩,?_⟩
  simp only [Ti.mk.injEq,and_true]
  omega
def flt (t : Ti) (q most : Nat) : Int := if t.May then if q < t.tk.far then 14 else if most < q + If.sz t.tk then 3 else 0 else 2
end Ti
def Tis (w : World) (s : Value) (l : List Ti) : Prop := ∃ a cap,s = .slice a l.length cap /\ (0 < l.length -> ∃ b off,a = some ⟨b,off,none⟩ /\ b < w.heap.size /\ ∀ i t,l[i]? = some t ->
 w.cell? ⟨b,off + i * 3,none⟩ = some (.int .i64 t.len) /\ w.cell? ⟨b,off + i * 3 + 1,none⟩ = some (.int .i64 t.far) /\ w.cell? ⟨b,off + i * 3 + 2,none⟩ = some (.int .u8 (t.lit : Int)))
theorem Tis.later {w w' : World} {s : Value} {ts : List Ti} (h : Tis w s ts) (hb : Below w.heap.size w w') : Tis w' s ts := by
 obtain ⟨a,cap,rfl,h⟩ := h
 refine ⟨a,cap,rfl,fun h0 => ?_⟩
 obtain ⟨b,off,rfl,hlt,hc⟩ := h h0
 refine ⟨b,off,rfl,Nat.lt_of_lt_of_le hlt hb.size,fun i t ht => ?_⟩
 obtain ⟨h1,h2,h3⟩ := hc i t ht
 exact ⟨(hb.cell (p := ⟨b,off + i * 3,none⟩) hlt).trans h1,(hb.cell (p := ⟨b,off + i * 3 + 1,none⟩) hlt).trans h2,(hb.cell (p := ⟨b,off + i * 3 + 2,none⟩) hlt).trans h3⟩
theorem Tis.at' {w : World} {a : Option Addr} {n cap : Nat} {ts : List Ti} (h : Tis w (.slice a n cap) ts) (i : Nat) (t : Ti) (ht : ts[i]? = some t) : n = ts.length /\ ∃ b off,a = some ⟨b,off,none⟩ /\ b < w.heap.size /\
  w.cell? ⟨b,off + i * 3,none⟩ = some (.int .i64 t.len) /\ w.cell? ⟨b,off + i * 3 + 1,none⟩ = some (.int .i64 t.far) /\ w.cell? ⟨b,off + i * 3 + 2,none⟩ = some (.int .u8 (t.lit : Int)) := by
 obtain ⟨a',cap',e,h⟩ := h
 injection e with e1 e2 e3
 subst e1 e2
 have hi := (List.getElem?_eq_some_iff.1 ht).1
 obtain ⟨b,off,rfl,hlt,hc⟩ := h (by omega)
 exact ⟨rfl,b,off,rfl,hlt,hc i t ht⟩
theorem Tis.tks {w : World} {s : Value} {ts : List If.Tk} (h : Tis w s (ts.map Ti.of)) : Tks w s ts := by
 obtain ⟨a,cap,rfl,h⟩ := h
 rw [List.length_map] at h ⊢
 refine ⟨a,cap,rfl,fun h0 => ?_⟩
 obtain ⟨b,off,rfl,hlt,hc⟩ := h h0
 exact ⟨b,off,rfl,hlt,fun i t ht => hc i (Ti.of t) (by rw [List.getElem?_map,ht]; rfl)⟩
theorem isByte_int (n d : Int) (x : Nat) (w : World) : Calls Tryz.prog 97 #[.agg #[.int .i64 n,.int .i64 d,.int .u8 (x : Int)]] w fun e w' => e = .returned (.bool (decide (n = 0 /\ d = 0))) /\ Below w.heap.size w w' := by
 by_cases h1 : n = 0
 ·subst h1
  by_cases h2 : d = 0
  ·subst h2
   go_enter Tryz.func97,Tryz.ntmps97
   go_wp2
   go_ret
   exact ⟨rfl,below1 _ _⟩
  ·have e : decide ((0 : Int) = 0 /\ d = 0) = false := by simp [h2]
   rw [e]
   have d1 : (d == 0) = false := by simp; omega
   clear h2 e
   go_enter Tryz.func97,Tryz.ntmps97
   go_wp2
   go_ret
   exact ⟨rfl,below1 _ _⟩
 ·have e : decide (n = 0 /\ d = 0) = false := by simp [h1]
  rw [e]
  have d1 : (n == 0) = false := by simp; omega
  clear h1 e
  go_enter Tryz.func97,Tryz.ntmps97
  go_wp2
  go_ret
  exact ⟨rfl,below1 _ _⟩
theorem isCopy_no (n d : Int) (x : Nat) (w : World) (h : ¬ (x = 0 /\ 3 <= n /\ n <= 258 /\ 1 <= d /\ d <= 32768)) : Calls Tryz.prog 142 #[.agg #[.int .i64 n,.int .i64 d,.int .u8 (x : Int)]] w fun e w' => e = .returned (.bool false) /\ Below w.heap.size w w' := by
 by_cases h0 : x = 0
 ·subst h0
  by_cases h1 : 3 <= n
  ·by_cases h2 : n <= 258
   ·by_cases h3 : 1 <= d
    ·have h4 : ¬ d <= 32768 := by omega
     have e : decide (d <= 32768) = false := by simp; omega
     clear h
     go_enter Tryz.func142,Tryz.ntmps142
     go_wp2
     go_ret
     exact ⟨by rw [<- e]; rfl,below1 _ _⟩
    ·clear h
     go_enter Tryz.func142,Tryz.ntmps142
     go_wp2
     go_ret
     exact ⟨rfl,below1 _ _⟩
   ·clear h
    go_enter Tryz.func142,Tryz.ntmps142
    go_wp2
    go_ret
    exact ⟨rfl,below1 _ _⟩
  ·clear h
   go_enter Tryz.func142,Tryz.ntmps142
   go_wp2
   go_ret
   exact ⟨rfl,below1 _ _⟩
 ·have e : ((x : Int) == 0) = false := by simp; omega
  clear h
  go_enter Tryz.func142,Tryz.ntmps142
  go_wp2
  go_ret
  exact ⟨rfl,below1 _ _⟩
theorem mcheck_no (t : Ti) (w : World) (ht : ¬ t.May) : Calls Tryz.prog 96 #[t.v] w fun e w' => e = .returned (.int .i64 2) /\ Below w.heap.size w w' := by
 obtain ⟨n,d,x⟩ := t
 unfold Ti.May at ht
 unfold Ti.v
 simp only at ht ⊢
 have hb : decide (n = 0 /\ d = 0) = false := by simp; omega
 have HI := LH (fun W => isByte_int n d x W)
 rw [hb] at HI
 have HC := LH (fun W => isCopy_no n d x W (fun h => ht (Or.inr h)))
 clear hb ht
 go_enter Tryz.func96,Tryz.ntmps96
 go_wp2_with fail
 refine (HI.out _).mono ?_
 rintro e w1 ⟨rfl,hb1⟩
 obtain ⟨hT,hb,_⟩ := facts1 hb1
 obtain ⟨c0,c1,c2⟩ := tk_cells hT
 have HB := LH hb
 clear hb1 hT hb
 go_wp2_with fail
 refine (HC.out _).mono ?_
 rintro e w2 ⟨rfl,hb2⟩
 go_wp2
 go_ret
 exact ⟨rfl,HB.out.trans (hb2.mono HB.out.size)⟩
theorem fits_arg (t : Ti) (n most : Int) (w : World) (ht : ¬ t.May) : Calls Tryz.prog 55 #[t.v,.int .i64 n,.int .i64 most] w fun e w' => e = .returned (.int .i64 2) /\ Below w.heap.size w w' := by
 have HC := LH (fun W => mcheck_no t W ht)
 obtain ⟨len,d,x⟩ := t
 unfold Ti.v at *
 simp only at HC ⊢
 clear ht
 go_enter Tryz.func55,Tryz.ntmps55
 go_wp2_with fail
 refine (HC.out _).mono ?_
 rintro e w1 ⟨rfl,hb1⟩
 obtain ⟨hT,hb,_⟩ := facts1 hb1
 have HB := LH hb
 clear hb1 hT hb
 go_wp2
 go_ret
 exact ⟨rfl,HB.out⟩
theorem fits_dist (t : If.Tk) (n : Nat) (most : Int) (w : World) (ht : Tv t) (h1 : n < t.far) : Calls Tryz.prog 55 #[tkv t,.int .i64 (n : Int),.int .i64 most] w fun e w' => e = .returned (.int .i64 14) /\ Below w.heap.size w w' := by
 have HC := LH (fun W => mcheck_ok t W ht)
 obtain ⟨len,d,x⟩ := t
 unfold tkv at *
 simp only at h1 HC ⊢
 have d1 : decide ((d : Int) > (n : Int)) = true := by simp; omega
 have d2 : decide ((n : Int) < (d : Int)) = true := by simp; omega
 have d3 : decide (n < d) = true := by simp; omega
 clear ht
 go_enter Tryz.func55,Tryz.ntmps55
 go_wp2_with fail
 refine (HC.out _).mono ?_
 rintro e w1 ⟨rfl,hb1⟩
 obtain ⟨hT,hb,_⟩ := facts1 hb1
 obtain ⟨c0,c1,c2⟩ := tk_cells hT
 have HB := LH hb
 clear hb1 hT hb
 go_wp2
 go_ret
 exact ⟨rfl,HB.out⟩
theorem fits_large (t : If.Tk) (n most : Nat) (w : World) (ht : Tv t) (h1 : t.far <= n) (h2 : most < n + If.sz t) (h3 : n <= 65536) : Calls Tryz.prog 55 #[tkv t,.int .i64 (n : Int),.int .i64 (most : Int)] w fun e w' => e = .returned (.int .i64 3) /\ Below w.heap.size w w' := by
 obtain ⟨z,hz⟩ : ∃ z,z = If.sz t := ⟨_,rfl⟩
 have hz9 : z <= 258 := by
  rw [hz]; unfold If.sz
  rcases ht with ⟨e1,_⟩ | ⟨_,_,e1,_⟩
  ·rw [if_pos e1]; omega
  ·split <;> omega
 have HC := LH (fun W => mcheck_ok t W ht)
 have HS := LH (fun W => msize_ok t W ht)
 rw [<- hz] at HS h2
 obtain ⟨len,d,x⟩ := t
 unfold tkv at *
 simp only at h1 HC HS ⊢
 have d1 : decide ((d : Int) > (n : Int)) = false := by simp; omega
 have d2 : decide ((n : Int) < (d : Int)) = false := by simp; omega
 have d3 : decide (n < d) = false := by simp; omega
 have e1 : decide ((most : Int) < ((n + z : Nat) : Int)) = true := by simp; omega
 have e2 : decide (most < n + z) = true := by simp; omega
 clear ht hz
 go_enter Tryz.func55,Tryz.ntmps55
 go_wp2_with fail
 refine (HC.out _).mono ?_
 rintro e w1 ⟨rfl,hb1⟩
 obtain ⟨hT,hb,_⟩ := facts1 hb1
 obtain ⟨c0,c1,c2⟩ := tk_cells hT
 have HB := LH hb
 clear hb1 hT hb
 go_wp2_with fail
 refine (HS.out _).mono ?_
 rintro e w2 ⟨rfl,hb2⟩
 have HB2 := LH (HB.out.trans (hb2.mono HB.out.size))
 clear hb2
 go_wp2
 go_ret
 exact ⟨rfl,HB2.out⟩
theorem fits_bad {t : Ti} {q most : Nat} (h8 : t.lit < 256) (h : t.flt q most ≠ 0) (hq : q <= 65536) (w : World) : Calls Tryz.prog 55 #[t.v,.int .i64 (q : Int),.int .i64 (most : Int)] w fun e w' => e = .returned (.int .i64 (t.flt q most)) /\ Below w.heap.size w w' := by
 unfold Ti.flt at h ⊢
 by_cases hm : t.May
 ·rw [if_pos hm] at h ⊢
  obtain ⟨h1,h2⟩ := hm.tv h8
  have hv : t.v = tkv t.tk := by rw [show t.v = (Ti.of t.tk).v by rw [h2]]; rfl
  rw [hv]
  by_cases hd : q < t.tk.far
  ·rw [if_pos hd]
   exact fits_dist t.tk q most w h1 hd
  ·rw [if_neg hd] at h ⊢
   by_cases hl : most < q + If.sz t.tk
   ·rw [if_pos hl]
    exact fits_large t.tk q most w h1 (by omega) hl hq
   ·rw [if_neg hl] at h
    exact absurd rfl h
 ·rw [if_neg hm]
  exact fits_arg t q most w hm
end
section
open Go.RowKit
theorem at_pre {us : List If.Tk} {t : Ti} {rest : List Ti} {i : Nat} {u : If.Tk} (h : us[i]? = some u) : (us.map Ti.of ++ t :: rest)[i]? = some (Ti.of u) := by
 have hi := (List.getElem?_eq_some_iff.1 h).1
 rw [List.getElem?_append_left (by simpa using hi),List.getElem?_map,h]
 rfl
theorem at_mid {us : List If.Tk} {t : Ti} {rest : List Ti} : (us.map Ti.of ++ t :: rest)[us.length]? = some t := by
 rw [List.getElem?_append_right (by simp)]
 simp
theorem expand_bad (a0 : Option Addr) (n cap0 : Nat) (ts : List If.Tk) (t0 : Ti) (rest : List Ti) (most : Nat) (w : World) (ho : Tis w (.slice a0 n cap0) (ts.map Ti.of ++ t0 :: rest)) (hts : If.Toks ts) (hm : (If.tell ts).length <= most) (h9 : most <= 65536) (h8 : t0.lit < 256) (ee : Int) (hee : t0.flt (If.tell ts).length most = ee) (he0 : ee ≠ 0) :
  Calls Tryz.prog 24 #[.slice a0 n cap0,.int .i64 (most : Int)] w fun e w' => e = .returned (.tuple #[.slice none 0 0,.int .i64 ee]) /\ Below w.heap.size w w' := by
 have HO := LH ho
 have HT := LH (fun _ : Unit => hts)
 have HM := LH hm
 have HFB := LH (fun _ : Unit => fun W => fits_bad h8 (hee.symm ▸ he0) (Nat.le_trans hm h9) W)
 have HEE := LH (fun _ : Unit => hee)
 have hn9 : ts.length <= 65536 := by have := If.toks_length_le ts; omega
 obtain ⟨m,hmm⟩ : ∃ m,m = ts.length := ⟨_,rfl⟩
 have hmn : m < n := by have h := (ho.at' ts.length t0 at_mid).1; simp at h; omega
 rw [<- hmm] at hn9
 have HN := LH hmm
 clear ho hts hm hmm h8 hee
 go_enter Tryz.func24,Tryz.ntmps24
 go_wp2_with fail
 go_loopw [6,18] (fun s6 s18 wr => ∃ (j q c6 : Nat) (a6 : Option Addr),s18 = .int .i64 (j : Int) /\ j <= m /\ s6 = .slice a6 q c6 /\ Hid (Unit -> q = (If.tell (ts.take j)).length) /\ Hid (wr.ownsRow w.heap.size 5 1 (.slice a6 q c6) q (vb (If.tell (ts.take j)))) /\ Hid (Below w.heap.size w wr)) (fun _ s _ => n - (intOf s).toNat)
 case atStart => exact ⟨0,0,0,none,rfl,Nat.zero_le _,rfl,fun _ => rfl,⟨rfl,Or.inl ⟨rfl,rfl⟩⟩,Below.refl _ _⟩
 case round =>
  obtain ⟨j,q,c6,a6,rfl,hj,rfl,KQ,KO,KB⟩ := hrel
  by_cases hlt : j < m
  ·have hjt : j < ts.length := by rw [<- HN.out]; exact hlt
   have hjn : j < n := by omega
   obtain ⟨hnn,b,off,rfl,hbl,k0,k1,k2⟩ := (HO.out.later KB.out).at' j (Ti.of ts[j]) (at_pre (List.getElem?_eq_getElem hjt))
   clear hnn hbl
   have hval := HT.out () j ts[j] (List.getElem?_eq_getElem hjt)
   have hsum := toks_sum (List.getElem?_eq_getElem hjt)
   have hle := HM.out
   obtain ⟨t,ht⟩ : ∃ t,t = ts[j] := ⟨_,rfl⟩
   rw [<- ht] at k0 k1 k2 hval hsum
   have HE : Hid (Unit -> If.tell (ts.take (j + 1)) = If.tell1 (If.tell (ts.take j)) t) := fun _ => by rw [If.tell_take_succ (List.getElem?_eq_getElem hjt),<- ht]
   obtain ⟨bs,hbs⟩ : ∃ bs,bs = If.tell (ts.take j) := ⟨_,rfl⟩
   have hq := KQ.out ()
   rw [<- hbs] at KO hval hsum HE hq
   have hq1 : q + If.sz t <= most := by omega
   have hq2 : t.far <= q := by rw [hq]; exact hval.2
   have hq3 : q <= 65536 := by omega
   have HF := LH (fun W => fits_ok t q most W hval.1 hq2 hq1 h9)
   have HTL := LH (fun v W ho hb => tell_any w.heap.size t v bs W hval ho hb (by omega))
   have HBS := LH (fun _ : Unit => hq)
   clear KQ
   obtain ⟨len,far,x⟩ := t
   unfold tkv at HF HTL
   unfold Ti.of at k0 k1 k2
   simp only at k0 k1 k2 HF HTL
   clear hval hsum hle ht hbs hq hq1 hq2 hjt
   go_wp2_with fail
   refine (HF.out _).mono ?_
   rintro e w1 ⟨rfl,hb1⟩
   obtain ⟨hT,hb,_⟩ := facts1 hb1
   obtain ⟨d0,d1,d2⟩ := tk_cells hT
   have KB1 := LH (KB.out.trans (hb.mono KB.out.size))
   have KO1 := LH (own_keep KO.out hb)
   clear hb1 hT hb KB KO
   go_wp2_with fail
   refine (HTL.out _ _ (by rw [<- HBS.out ()]; exact KO1.out) KB1.out.size).mono ?_
   rintro e w2 ⟨v2,rfl,hO2,hB2⟩
   obtain ⟨a2,cap2,rfl⟩ := own_shape hO2
   obtain ⟨q2,hq2⟩ : ∃ q2,q2 = (If.tell1 bs ⟨len,far,x⟩).length := ⟨_,rfl⟩
   rw [<- hq2] at hO2
   rw [<- hq2]
   have KQ2 : Hid (Unit -> q2 = (If.tell (ts.take (j + 1))).length) := fun _ => by rw [HE.out (),hq2]
   have KO2 : Hid (w2.ownsRow w.heap.size 5 1 (.slice a2 q2 cap2) q2 (vb (If.tell (ts.take (j + 1))))) := by show World.ownsRow _ _ _ _ _ _ _; rw [HE.out ()]; exact hO2
   have KB2 := LH (KB1.out.trans hB2)
   clear hO2 hB2 hq2 HE HF HTL HBS KO1 KB1
   go_wp2_with fail
   go_roundw
   case rel => exact ⟨j + 1,q2,cap2,a2,by go_num,by omega,rfl,KQ2,KO2,KB2⟩
   case measure => simp [intOf]; omega
  ·obtain rfl : j = m := by omega
   have e : ts.take j = ts := List.take_of_length_le (by rw [<- HN.out]; exact Nat.le_refl _)
   rw [e] at KO KQ
   have hq := KQ.out ()
   have hmid := (at_mid (us := ts) (t := t0) (rest := rest))
   rw [<- HN.out] at hmid
   obtain ⟨hnn,b,off,rfl,hbl,k0,k1,k2⟩ := (HO.out.later KB.out).at' j t0 hmid
   have HF := LH (HFB.out ())
   rw [HEE.out (),<- hq] at HF
   have hq3 : q <= 65536 := by rw [hq]; exact Nat.le_trans HM.out h9
   obtain ⟨len,far,x⟩ := t0
   unfold Ti.v at HF
   simp only at k0 k1 k2 HF
   clear e hmid hnn hbl hq HFB HEE KQ HT HM HO HN
   go_wp2_with fail
   refine (HF.out _).mono ?_
   rintro e w1 ⟨rfl,hb1⟩
   obtain ⟨hT,hb,_⟩ := facts1 hb1
   have KB1 := LH (KB.out.trans (hb.mono KB.out.size))
   have d1 : (ee == 0) = false := by simp; exact he0
   have d2 : (ee != 0) = true := by simp; exact he0
   clear hb1 hT hb KB KO HF
   go_wp2_with fail
   refine bodyPost_ret (v := .tuple #[.slice none 0 0,.int .i64 ee]) (by simp [results,Tryz.results24,go_sem]) rfl ?_
   exact ⟨rfl,KB1.out⟩
theorem fixed_bad (a : Option Addr) (n c : Nat) (w : World) (ee : Int) (he0 : ee ≠ 0) (hs : ∀ W,Below w.heap.size w W -> Calls Tryz.prog 24 #[.slice a n c,.int .i64 65536] W fun e w' => e = .returned (.tuple #[.slice none 0 0,.int .i64 ee]) /\ Below W.heap.size W w') :
  Calls Tryz.prog 15 #[.slice a n c] w fun e w' => e = .returned (.tuple #[.slice none 0 0,.int .i64 ee]) /\ Below w.heap.size w w' := by
 have hb1 := below1 w (.cells #[.slice a n c] 30)
 obtain ⟨c0,_⟩ := (Has.new w (.cells #[.slice a n c] 30)).one
 have HE := LH (hs _ hb1)
 have HB := LH hb1
 have d1 : (ee == 0) = false := by simp; exact he0
 have d2 : (ee != 0) = true := by simp; exact he0
 clear hs hb1
 go_enter Tryz.func15,Tryz.ntmps15
 go_wp2_with fail
 refine HE.out.mono ?_
 clear HE
 rintro e w1 ⟨rfl,hb⟩
 have HB1 := LH (HB.out.trans (hb.mono HB.out.size))
 clear hb
 go_wp2_with fail
 refine bodyPost_ret (v := .tuple #[.slice none 0 0,.int .i64 ee]) (by simp [results,Tryz.results15,go_sem]) rfl ?_
 exact ⟨rfl,HB1.out⟩
end
end Go.Proofs.YtckbhciehmokdaaGreatDoor
