import Derived.Test.YtmgpcbjciioiaaaGreatDoorJget
import Derived.Test.YtmgpcbjciioiaaaGreatDoorJfix
import Derived.Test.YtmgpcbjciioiaaaGreatDoorDtis
import Derived.Test.YtmgpcbjciioiaaaGreatDoorIstr
import Derived.Test.YtmgpcbjciioiaaaGreatDoorIlaid
namespace Go.Proofs.YtmgpcbjciioiaaaGreatDoor
set_option maxRecDepth 100000
set_option maxHeartbeats 8000000
section
open Go.RowKit
theorem Zk.of_new {K : Nat -> Prop} {w w1 : World} {v : Value} {ls : List Nat} (hz : Zl w1 v (Hd.zz ls)) (hn : Newer w v) (hf : (∀ x ∈ ls,x = 0) ∨ Fit (Hd.zz ls)) : Zk (fun k => K k ∨ (w.heap.size <= k /\ k < w1.heap.size)) w1 v ls := by
 refine ⟨hz,fun a len cap b off e h0 ha => Or.inr ⟨hn a len cap b off e ha,?_⟩,hf⟩
 obtain ⟨a',len',cap',e',_,_,_,h4⟩ := hz
 rw [e] at e'
 injection e' with e1 e2 _
 obtain ⟨b',off',e3,hlt,_⟩ := h4 (by omega)
 rw [<- e1,ha] at e3
 injection e3 with e3
 injection e3 with e3 _ _
 omega
theorem Zl.newer {w w1 : World} {v x : Value} {zs : List Int} {R i : Nat} (h : Zl w1 v zs) (hn : Newer w v) (hR : R < w.heap.size) : Zl (w1.setCell ⟨R,i,none⟩ x) v zs := by
 obtain ⟨a,len,cap,rfl,h1,h2,h3,h4⟩ := h
 refine ⟨a,len,cap,rfl,h1,h2,h3,fun h0 => ?_⟩
 obtain ⟨b,off,rfl,hlt,hc⟩ := h4 h0
 have hb := hn _ _ _ _ _ rfl rfl
 refine ⟨b,off,rfl,by simpa using hlt,fun j hj => ?_⟩
 rw [cell_of_heap (Below.heap_setCell w1 ⟨R,i,none⟩ x b (by simp only; omega))]
 exact hc j hj
def Jd (K : Nat -> Prop) (R : Nat) (s : Value) (l : List Bool) (N most : Nat) (out : List Nat) (w : World) (r : List Nat × List Nat × Nat × Int) (e : Ending) (w' : World) : Prop :=
 Fr K w w' /\ (r.2.2.2 = 0 -> ∃ v1 v2 K',e = .returned (.tuple #[v1,v2,.int .i64 0]) /\ (∀ k,K k -> K' k) /\ Zk K' w' v1 r.1 /\ Zk K' w' v2 r.2.1 /\ Fit (Hd.zz r.1) /\ Ds K' R s l N most w' r.2.2.1 out) /\
  (r.2.2.2 ≠ 0 -> e = .returned (.tuple #[.slice none 0 0,.slice none 0 0,.int .i64 r.2.2.2]))
noncomputable def jdynE (h : List Nat × List Nat × Nat × Int) : List Nat × List Nat × Nat × Int :=
 if h.2.2.2 ≠ 0 then ([],[],0,h.2.2.2) else if h.1[256]?.getD 0 = 0 then ([],[],0,13) else if newE (Hd.zz h.1) ≠ 0 then ([],[],0,newE (Hd.zz h.1)) else
 if newE (Hd.zz h.2.1) ≠ 0 /\ ¬ (∀ x ∈ h.2.1,x = 0) then ([],[],0,newE (Hd.zz h.2.1)) else h
theorem jdynamic_any {K : Nat -> Prop} {R : Nat} {s : Value} {l : List Bool} {N most : Nat} {w : World} {p : Nat} {out : List Nat} (hS : Ds K R s l N most w p out) (hl : Hid (N = l.length)) (hN : N <= 2251799813685248) (r : List Nat × List Nat × Nat × Int) (hr : Hid (Unit -> jdynE (Hd.head l p) = r)) :
  Calls Tryz.prog 84 #[.pointer (some ⟨R,0,none⟩)] w (Jd K R s l N most out w r) := by
 have HS := LH hS
 obtain ⟨ov,hx,_,_⟩ := hS.has
 obtain ⟨c0,c1,c2,_⟩ := jdi_cells hx
 have hp := hS.pn
 obtain ⟨lit,dist,q,c,hh⟩ : ∃ lit dist q c,Hd.head l p = (lit,dist,q,c) := ⟨_,_,_,_,rfl⟩
 have hst := hr.out ()
 rw [hh] at hst
 unfold jdynE at hst
 simp only at hst
 have HST := LH (fun _ : Unit => hst)
 have HH := LH (fun _ : Unit => hh)
 obtain ⟨sa,sl,sc,rfl,hsl⟩ := hS.sl.shape
 clear hsl
 have HX := LH hx
 have HG := LH (fun W (hb : Below w.heap.size w W) => rhread_any _ l N p W (hS.sl.later hb) hl hN hp)
 rw [hh] at HG
 have B0 := LH (Below.refl w.heap.size w)
 have HP := LH hp
 clear hx hS hst hh hr hp
 go_enter Tryz.func84,Tryz.ntmps84
 go_wp2
 go_region_held3 (fun wx => wx.cell? ⟨R,0,none⟩ = some (.slice sa sl sc) /\ wx.cell? ⟨R,1,none⟩ = some (.int .i64 (N : Int)) /\ wx.cell? ⟨R,2,none⟩ = some (.int .i64 (p : Int)) /\ Below w.heap.size w wx) (first | exact ⟨c0,c1,c2,B0.out.drew⟩ | exact keep_jdi HX.out B0.out.drew hb1.out)
  (first | (go_at_call 125; refine (HG.out _ B0.out.drew).mono ?_; rintro e w1 ⟨s1,s2,rfl,z1,z2,hb,n1,n2⟩; have HZ1 := LH z1; have HZ2 := LH z2; have hb1 := LH hb; have HN1 := LH n1; have HN2 := LH n2; clear z1 z2 hb n1 n2))
 have HB := LH (B0.out.drew.trans (hb1.out.mono (Nat.le_refl _)))
 clear c0 c1 c2 HG
 by_cases hc : c = 0
 ·subst hc
  have hx1 := HX.out.later HB.out
  obtain ⟨_,_,e2,_⟩ := jdi_cells hx1
  have y2 := jdi_free hx1 2
  have hfacts := If.head_facts (l := l) (p := p) (by rw [HH.out ()])
  rw [HH.out ()] at hfacts
  simp only at hfacts
  have hq : q <= N := by rw [hl.out]; exact hfacts.2
  have hlens := Hd.head_lens (HH.out ())
  have hst := HST.out ()
  rw [if_neg (by simp)] at hst
  have hSK := HS.out.widen HB.out
  have HSK := LH (hSK.at q hq)
  have HFK := LH ((Fr.of_below HS.out.lt HB.out).trans ((HS.out.later HB.out).at_fr q))
  have HY1 := LH (HZ1.out.newer (i := 2) (x := .int .i64 (q : Int)) HN1.out HX.out.lt)
  have HY2 := LH (HZ2.out.newer (i := 2) (x := .int .i64 (q : Int)) HN2.out HX.out.lt)
  obtain ⟨a1,m1,k1,rfl,hm1⟩ := HY1.out.shape
  rw [Hd.zz_length] at hm1
  obtain ⟨a2,m2,k2,rfl,hm2⟩ := HY2.out.shape
  rw [Hd.zz_length] at hm2
  obtain ⟨b,off,rfl,hb0,hq0,hc5⟩ := zl_cell HY1.out 256 (by rw [Hd.zz_length]; omega)
  clear hb0 hq0
  rw [Hd.zz_get] at hc5
  obtain ⟨x,hx0⟩ : ∃ x,x = lit[256]?.getD 0 := ⟨_,rfl⟩
  rw [<- hx0] at hc5 hst
  have HST2 := LH (fun _ : Unit => hst)
  have hm9 : 257 <= m1 /\ m1 <= 286 := by omega
  have HXX : R < w.heap.size := HX.out.lt
  have HM2 := LH hm2
  have HW1 : Hid (w1.heap.size = (w1.setCell ⟨R,2,none⟩ (.int .i64 (q : Int))).heap.size) := by show _ = _; simp
  clear hst HST hfacts hlens hx1 hx0 hm1 hm2 hSK HZ1 HZ2 HX hb1
  by_cases h0 : x = 0
  ·have hst := HST2.out ()
   rw [if_pos h0] at hst
   subst hst h0
   clear HST2
   go_wp2
   refine bodyPost_ret (v := .tuple #[.slice none 0 0,.slice none 0 0,.int .i64 13]) (by simp [results,Tryz.results84,go_sem]) rfl ⟨HFK.out,fun h => absurd h (by decide),fun _ => rfl⟩
  have hst := HST2.out ()
  rw [if_neg h0] at hst
  have dx : ((x : Int) == 0) = false := by simp; omega
  have dx2 : (x == 0) = false := by simp; omega
  have HE1 := LH (rnew_any _ _ _ HY1.out)
  have HE2 := LH (rnew_any _ _ _ HY2.out)
  have HF1 : Hid (newE (Hd.zz lit) = 0 -> Fit (Hd.zz lit)) := fit_of
  have HF2 : Hid (newE (Hd.zz dist) = 0 -> Fit (Hd.zz dist)) := fit_of
  generalize newE (Hd.zz lit) = cl at hst HE1 HF1
  generalize newE (Hd.zz dist) = cd at hst HE2 HF2
  have HST3 := LH (fun _ : Unit => hst)
  have HNO := LH (jnone_any dist _ _ HY2.out)
  generalize hW : w1.setCell ⟨R,2,none⟩ (.int .i64 (q : Int)) = W at *
  clear hst HST2 h0
  by_cases hcl : cl = 0
  ·subst hcl
   have hst := HST3.out ()
   rw [if_neg (by simp)] at hst
   have HST4 := LH (fun _ : Unit => hst)
   clear hst HST3
   by_cases hcd : cd = 0
   ·subst hcd
    have hst := HST4.out ()
    rw [if_neg (by simp)] at hst
    subst hst
    clear HST4 HNO
    go_wp2_with fail
    try rw [hW]
    refine HE1.out.mono ?_
    rintro e w2 ⟨rfl,rfl⟩
    go_wp2_with fail
    refine HE2.out.mono ?_
    rintro e w2 ⟨rfl,rfl⟩
    go_wp2
    refine bodyPost_ret (v := .tuple #[.slice (some ⟨b,off,none⟩) m1 k1,.slice a2 m2 k2,.int .i64 0]) (by simp [results,Tryz.results84,go_sem]) rfl ⟨HFK.out,fun _ => ⟨_,_,_,rfl,fun k hk => Or.inl hk,?_,?_,HF1.out (by trivial),HSK.out⟩,fun h => absurd rfl h⟩
    ·have := Zk.of_new (K := K) HY1.out HN1.out (Or.inr (HF1.out (by trivial))); rw [<- HW1.out] at this; exact this
    ·have := Zk.of_new (K := K) HY2.out HN2.out (Or.inr (HF2.out (by trivial))); rw [<- HW1.out] at this; exact this
   ·have e9 : (cd != 0) = true := by rw [bne_iff_ne]; exact hcd
    by_cases hz : ∀ x ∈ dist,x = 0
    ·have hst := HST4.out ()
     rw [if_neg (fun h => h.2 hz)] at hst
     subst hst
     have dz : decide (∀ x ∈ dist,x = 0) = true := decide_eq_true hz
     rw [dz] at HNO
     have HZZ := LH hz
     clear HST4 dz hz hcd HF2
     go_wp2_with fail
     try rw [hW]
     refine HE1.out.mono ?_
     rintro e w2 ⟨rfl,rfl⟩
     go_wp2_with fail
     refine HE2.out.mono ?_
     rintro e w2 ⟨rfl,rfl⟩
     go_wp2_with fail
     refine HNO.out.mono ?_
     rintro e w2 ⟨rfl,rfl⟩
     go_wp2
     refine bodyPost_ret (v := .tuple #[.slice (some ⟨b,off,none⟩) m1 k1,.slice a2 m2 k2,.int .i64 0]) (by simp [results,Tryz.results84,go_sem]) rfl ⟨HFK.out,fun _ => ⟨_,_,_,rfl,fun k hk => Or.inl hk,?_,?_,HF1.out (by trivial),HSK.out⟩,fun h => absurd rfl h⟩
     ·have := Zk.of_new (K := K) HY1.out HN1.out (Or.inr (HF1.out (by trivial))); rw [<- HW1.out] at this; exact this
     ·have := Zk.of_new (K := K) HY2.out HN2.out (Or.inl HZZ.out); rw [<- HW1.out] at this; exact this
    ·have hst := HST4.out ()
     rw [if_pos ⟨hcd,hz⟩] at hst
     subst hst
     have dz : decide (∀ x ∈ dist,x = 0) = false := decide_eq_false hz
     rw [dz] at HNO
     have HC := LH hcd
     clear HST4 dz hz hcd HF2
     go_wp2_with fail
     try rw [hW]
     refine HE1.out.mono ?_
     rintro e w2 ⟨rfl,rfl⟩
     go_wp2_with fail
     refine HE2.out.mono ?_
     rintro e w2 ⟨rfl,rfl⟩
     go_wp2_with fail
     refine HNO.out.mono ?_
     rintro e w2 ⟨rfl,rfl⟩
     go_wp2
     refine bodyPost_ret (v := .tuple #[.slice none 0 0,.slice none 0 0,.int .i64 cd]) (by simp [results,Tryz.results84,go_sem]) rfl ⟨HFK.out,fun h => absurd h HC.out,fun _ => rfl⟩
  ·have hst := HST3.out ()
   rw [if_pos hcl] at hst
   subst hst
   have e9 : (cl != 0) = true := by rw [bne_iff_ne]; exact hcl
   have HC := LH hcl
   clear HST3 hcl HNO HE2 HF1 HF2
   go_wp2_with fail
   try rw [hW]
   refine HE1.out.mono ?_
   rintro e w2 ⟨rfl,rfl⟩
   go_wp2
   refine bodyPost_ret (v := .tuple #[.slice none 0 0,.slice none 0 0,.int .i64 cl]) (by simp [results,Tryz.results84,go_sem]) rfl ⟨HFK.out,fun h => absurd h HC.out,fun _ => rfl⟩
 ·have hst := HST.out ()
  rw [if_pos hc] at hst
  subst hst
  have e9 : (c != 0) = true := by rw [bne_iff_ne]; exact hc
  have HC := LH hc
  clear hc HZ1 HZ2 HN1 HN2 HST
  go_wp2
  refine bodyPost_ret (v := .tuple #[.slice none 0 0,.slice none 0 0,.int .i64 c]) (by simp [results,Tryz.results84,go_sem]) rfl ⟨Fr.of_below HS.out.lt HB.out,fun h => absurd h HC.out,fun _ => rfl⟩
end
section
open Go.ChangeShapes Go.WideShapes Go.ChangeAt Go.WideElems Go.RowKit
abbrev laid1 : List (String × DataW Unit) := [("valise/header.order",Rows.laid_valise_header_order)]
theorem door_met1 (os : Os) (args : Array Value) : laidMetH Tryz.prog laid1 ((World.doorLaid Tryz.prog 400 os).forCall (fun _ _ => 0) ⟨#[],args,[]⟩).memory :=
 laidMetH_of_parts (laidMet_of_run' 8 (by kernel_rfl) (by kernel_rfl)) (by kernel_rfl)
theorem glob_of_laid {W : World} (h : laidMetH Tryz.prog laid1 W) : Glob W := by
 have hd : laidMet Tryz.prog [("valise/header.order",Rows.laid_valise_header_order)] W := h
 obtain ⟨ps,⟨g0,t0,cs0,f0,p0,q0,hg0,ht0,hv0,hd0,_,_⟩,_,_⟩ := hd
 obtain rfl := Option.some.inj (g_ord.symm.trans hg0)
 obtain rfl := Option.some.inj (t_ord.symm.trans ht0)
 obtain ⟨xs,m1,rfl,hx1,hlen,hn3,hel⟩ := DataW.trod_array Tryz.underlying214 hd0
 have c3 : Tryz.prog.cellsOf 3 = 1 := by kernel_rfl
 simp only [Prod.mk.injEq] at hx1
 intro k hk
 have h0 := hel k hk
 have hxk := List.getElem?_eq_getElem (show k < xs.length by omega)
 rw [hxk] at h0
 have ho := ord_is k hk _ xs hxk hx1.1.symm
 obtain ⟨n,e1,e2,_⟩ := DataW.trod_int Tryz.underlying3 h0
 rw [e2] at ho
 have hn : n = (Hd.ord k : Int) := by simpa using ho
 subst hn
 rw [c3] at e1
 have hcell := World.var?_cell hg0 hv0 k
 rw [hcell]
 have : cs0.toList[k]? = some (.int .i64 (Hd.ord k : Int)) := by
  have h1 : ((cs0.toList.drop (k * 1)).take 1)[0]? = some (.int .i64 (Hd.ord k : Int)) := by rw [e1]; rfl
  rw [List.getElem?_take_of_lt (by omega),List.getElem?_drop] at h1
  simpa using h1
 simpa using this
end
end Go.Proofs.YtmgpcbjciioiaaaGreatDoor
