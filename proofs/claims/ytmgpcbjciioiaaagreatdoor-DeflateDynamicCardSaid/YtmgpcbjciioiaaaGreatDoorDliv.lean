import Derived.Test.YtmgpcbjciioiaaaGreatDoorJcop
import Derived.Test.YtmgpcbjciioiaaaGreatDoorJsto
import Derived.Test.YtmgpcbjciioiaaaGreatDoorDlaid
import Derived.Test.YtmgpcbjciioiaaaGreatDoorIstow
import Derived.Test.YtmgpcbjciioiaaaGreatDoorDenc2
import Derived.Test.YtmgpcbjciioiaaaGreatDoorMref
namespace Go.Proofs.YtmgpcbjciioiaaaGreatDoor
set_option maxRecDepth 100000
set_option maxHeartbeats 8000000
section
open Go.RowKit
theorem jsymbols_any {K : Nat -> Prop} {R : Nat} {s : Value} {l : List Bool} {N most : Nat} {w : World} {p : Nat} {out : List Nat} (tb dv : Value) (lit dist : List Nat) (hT : Zk K w tb lit) (hfit : Fit (Hd.zz lit)) (hD : Zk K w dv dist) (hS : Ds K R s l N most w p out) (hl : Hid (N = l.length)) (hN : N <= 2251799813685248) (hm : most <= 65536)
  (k : Nat) (hk : N < p + k) (res : List Nat × Nat × Int) (hres : Hid (Unit -> If.syms l lit dist most k out p = res)) :
  Calls Tryz.prog 83 #[.pointer (some ⟨R,0,none⟩),tb,dv] w (Jo K w res.2.2 (.int .i64 0) (.int .i64 res.2.2) (fun w' => Ds K R s l N most w' res.2.1 res.1)) := by
 have HS := LH hS
 have HT := LH hT
 have HD := LH hD
 have HFIT := LH hfit
 clear hS hT hD hfit
 go_enter Tryz.func83,Tryz.ntmps83
 go_wp2_with fail
 go_loopw [13] (fun _ wr => ∃ (k' p : Nat) (ou : List Nat),Hid (N < p + k') /\ Hid (Ds K R s l N most wr p ou) /\ Hid (Fr K w wr) /\ Hid (Unit -> If.syms l lit dist most k' ou p = res)) (fun _ wr => N - placeOf R wr)
 case atStart => exact ⟨k,p,out,hk,HS.out,Fr.refl _ _,fun u => hres.out u⟩
 case round =>
  clear hk
  obtain ⟨k',p,ou,HK,KS,KF,KR⟩ := hrel
  have hpl := KS.out.place
  have hpn := KS.out.pn
  obtain ⟨k2,rfl⟩ : ∃ k2,k' = k2 + 1 := ⟨k' - 1,by have := HK.out; omega⟩
  obtain ⟨rr,hrr⟩ : ∃ rr,Hd.rd lit l p = rr := ⟨_,rfl⟩
  obtain ⟨y,q,c⟩ := rr
  have hstep := KR.out ()
  rw [If.syms_succ l lit dist most k2 _ p y q c hrr] at hstep
  have hlt := Hd.rd_lt (by rw [<- hl.out]; exact hpn) hrr
  have HY := LH (jsym_any tb lit (HT.out.fr KF.out) HFIT.out KS.out hl hN y q c hrr)
  have HPL := LH hpl
  have HSTEP := LH (fun _ : Unit => hstep)
  have HLT := LH (fun _ : Unit => hlt)
  have HK2 := LH HK.out
  clear hstep hlt hrr KR hpl HK
  go_wp2_with fail
  refine HY.out.mono ?_
  clear HY
  intro e w1 ho
  by_cases hc : c ≠ 0
  ·obtain ⟨rfl,hf1⟩ := ho.bad hc
   have hst := HSTEP.out ()
   rw [if_pos hc] at hst
   subst hst
   have e9 : (c != 0) = true := by rw [bne_iff_ne]; exact hc
   have HF1 := LH (KF.out.trans hf1)
   have HC := LH hc
   clear ho hf1 hc HSTEP hres
   go_wp2
   go_ret
   exact Jo.fault HC.out HF1.out
  obtain rfl : c = 0 := by simpa using hc
  obtain ⟨rfl,hS1,hf1⟩ := ho.ok
  have HS1 := LH hS1
  have HF1 := LH (KF.out.trans hf1)
  clear ho hS1 hf1 hc
  have hN9 : N < q + k2 := by have := (HLT.out ()).1 rfl; have := HK2.out; omega
  have HNK := LH hN9
  have hqy : Hid (p < q /\ q <= N /\ y < lit.length) := by have := (HLT.out ()).1 rfl; exact ⟨this.2.1,by rw [hl.out]; exact this.2.2,this.1⟩
  clear hN9 HK2 HLT KS hpn KF
  by_cases h256 : y = 256
  ·have hst := HSTEP.out ()
   rw [if_neg (by simp),if_pos h256] at hst
   subst hst h256
   clear HSTEP hres
   go_wp2
   go_ret
   exact Jo.intro HF1.out HS1.out
  have e3 : ((y : Int) == 256) = false := by simp; omega
  have e4 : (y == 256) = false := by simp; omega
  by_cases hgt : 256 < y
  ·have e1 : decide ((256 : Int) < (y : Int)) = true := decide_eq_true (by omega)
   have e2 : decide (256 < y) = true := decide_eq_true hgt
   have hst := HSTEP.out ()
   rw [if_neg (by simp),if_neg h256,if_pos hgt] at hst
   have hcf := @If.copy_facts l dist most y q ou
   obtain ⟨cc,hcce⟩ : ∃ cc,If.copy l dist most y q ou = cc := ⟨_,rfl⟩
   have HC := LH (jcopied_any y hgt dv dist (HD.out.fr HF1.out) HS1.out hl hN hm cc (fun _ => hcce))
   rw [hcce] at hst hcf
   obtain ⟨o2,q2,c2⟩ := cc
   simp only at hst hcf HC
   have HST := LH (fun _ : Unit => hst)
   have HCF := LH (fun _ : Unit => hcf)
   clear hst hcf hcce HSTEP hres h256
   go_wp2_with fail
   refine HC.out.mono ?_
   clear HC
   intro e w2 ho
   by_cases hc2 : c2 = 0
   ·subst hc2
    obtain ⟨rfl,hS2,hf2⟩ := ho.ok
    have hst := HST.out ()
    rw [if_neg (by simp)] at hst
    have hq2 := HCF.out () rfl
    have HST3 := LH (fun _ : Unit => hst)
    have HQ2 := LH (show q < q2 /\ q2 <= N from ⟨hq2.1,by rw [hl.out]; exact hq2.2⟩)
    have HS3 := LH hS2
    have HF3 := LH (HF1.out.trans hf2)
    clear hst hq2 hS2 hf2 ho HST HCF HF1 HS1
    go_wp2
    go_roundw
    case rel => exact ⟨k2,q2,o2,by show _ < _; have := HNK.out; have := HQ2.out; omega,HS3.out,HF3.out,HST3.out⟩
    case measure => have h1 := HS3.out.place; have h2 := HPL.out; have h3 := HQ2.out; have h4 := hqy.out; rw [h1,h2]; omega
   ·obtain ⟨rfl,hf2⟩ := ho.bad hc2
    have hst := HST.out ()
    rw [if_pos hc2] at hst
    subst hst
    have e9 : (c2 != 0) = true := by rw [bne_iff_ne]; exact hc2
    have HF3 := LH (HF1.out.trans hf2)
    have HC2 := LH hc2
    clear hf2 ho HST HCF HF1 HS1 hc2
    go_wp2
    go_ret
    exact Jo.fault HC2.out HF3.out
  ·have hlt : y < 256 := by omega
   have ew : IntKind.u8.wrap (y : Int) = (y : Int) := by simp [IntKind.wrap,IntKind.signed,IntKind.bits]; omega
   have e1 : decide ((256 : Int) < (y : Int)) = false := decide_eq_false (by omega)
   have e2 : decide (256 < y) = false := decide_eq_false hgt
   have hst := HSTEP.out ()
   rw [if_neg (by simp),if_neg h256,if_neg hgt] at hst
   have HST := LH (fun _ : Unit => hst)
   clear hst HSTEP hres h256 hgt
   obtain ⟨ov,hx,hown,hnk⟩ := HS1.out.has
   obtain ⟨oa,oc,rfl⟩ := own_shape hown
   obtain ⟨_,_,_,c3,c4⟩ := jdi_cells hx
   obtain ⟨o,ho2⟩ : ∃ o,o = ou.length := ⟨_,rfl⟩
   rw [<- ho2] at c3
   have HX := LH hx
   have HO := LH hown
   have HNN := LH hnk
   have HOL := LH ho2
   clear hx hown hnk ho2
   by_cases hfull : most <= o
   ·have d1 : decide ((most : Int) <= (o : Int)) = true := decide_eq_true (by omega)
    have d2 : decide (most <= o) = true := decide_eq_true hfull
    have hst := HST.out ()
    rw [if_pos (by rw [<- HOL.out]; exact hfull)] at hst
    subst hst
    clear HST hfull HX HO HNN
    go_wp2
    go_quiet (fail)
    go_wp2
    go_ret
    exact Jo.fault (by decide) (HF1.out.trans (Fr.of_below HS1.out.lt (below_drewN (Below.refl _ _) _)))
   ·have d1 : decide ((most : Int) <= (o : Int)) = false := decide_eq_false (by omega)
    have d2 : decide (most <= o) = false := decide_eq_false hfull
    have hst := HST.out ()
    rw [if_neg (by rw [<- HOL.out]; exact hfull)] at hst
    have HST3 := LH (fun _ : Unit => hst)
    have HFU := LH hfull
    clear hst hfull HST
    go_wp2
    go_quiet (fail)
    have HSW := LH (HS1.out.later (below_drewN (Below.refl _ w1) nq))
    have HFW := LH (HF1.out.trans (Fr.of_below HS1.out.lt (below_drewN (Below.refl _ w1) nq)))
    have HXW : Hid (Has (w1.drewN nq) R (jdi s N q most (.slice oa ou.length oc))) := HX.out
    have HOW : Hid ((w1.drewN nq).ownsRow 0 5 1 (.slice oa ou.length oc) ou.length (vb ou)) := HO.out
    generalize w1.drewN nq = W at HSW HFW HXW HOW ⊢
    clear c3 c4 HX HO HS1 HF1 d1 d2
    have hb1 := below1 W (.cells #[.int .u8 (y : Int)] 5)
    have hx := HXW.out
    have hxA : Has (W.alloc (.cells #[.int .u8 (y : Int)] 5)) R (jdi s N q most (.slice oa ou.length oc)) := hx.alloc _
    have hownA : (W.alloc (.cells #[.int .u8 (y : Int)] 5)).ownsRow 0 5 1 (.slice oa ou.length oc) ou.length (vb ou) := own_keep HOW.out hb1
    have hsl : Sl (W.alloc (.cells #[.int .u8 (y : Int)] 5)) (.slice (some ⟨W.heap.size,0,none⟩) 1 1) [y] := sl_byte1 (Has.new W _) hlt
    have hle1 : ou.length + [y].length <= most := by have := HOL.out; have := HFU.out; simp; omega
    obtain ⟨v9,w9,hrun,hown9,hg9,hb9⟩ := run_app_out 22 hownA (some ⟨W.heap.size,0,none⟩) 1 1 hsl (by omega)
    obtain ⟨a9,n9,k9,rfl⟩ : ∃ a q k,v9 = .slice a q k := by obtain ⟨a,c,h⟩ := own_shape hown9; exact ⟨a,_,c,h⟩
    have HRUN := LH hrun
    have happ := Ds.app (HSW.out.later hb1) [y] (by rw [List.length_append]; exact hle1) (fun z hz => by simp at hz; omega) _ hxA hownA HNN.out hown9 hg9 hb9
    have HAPP := LH happ.1
    have HFA := LH ((HFW.out.trans (Fr.of_below HSW.out.lt hb1)).trans happ.2)
    have hx9 := (hg9.block R (by have := hx.lt; simp; omega) (fun e => ov_ne hx HOW.out R e.symm rfl)).trans hxA
    obtain ⟨_,_,_,c3,_⟩ := jdi_cells hx
    obtain ⟨_,_,_,f3,_⟩ := jdi_cells hx9
    have y3 := jdi_free hx9 3
    rw [<- HOL.out] at c3 HRUN
    clear hx hxA hownA hsl hle1 hrun hown9 hg9 hb9 happ hx9 hb1
    go_wp2_with (at_builtin; (refine wpList_append_is rfl (.tmp 23) (.tmp 26) 22 rfl _ _ _ _ rfl rfl HRUN.out ?_))
    clear HRUN
    go_wp2
    go_roundw
    case rel => exact ⟨k2,q,ou ++ [y],HNK.out,HAPP.out,HFA.out,HST3.out⟩
    case measure => have h1 := HAPP.out.place; have h2 := HPL.out; have h4 := hqy.out; rw [h1,h2]; omega
end
section
open Go.RowKit
def Jb (K : Nat -> Prop) (R : Nat) (s : Value) (l : List Bool) (N most : Nat) (la : Nat) (w : World) (res : List Nat × Nat × Int) (e : Ending) (w' : World) : Prop :=
 Fr K w w' /\ (res.2.2 = 0 -> e = .returned (.tuple #[.bool ((la : Int) == 1),.int .i64 0]) /\ Ds K R s l N most w' res.2.1 res.1) /\ (res.2.2 ≠ 0 -> ∃ v : Value,e = .returned (.tuple #[v,.int .i64 res.2.2]))
theorem Jo.narrow {K K' : Nat -> Prop} {R : Nat} {s : Value} {l : List Bool} {N most : Nat} {w0 w w' : World} {p : Nat} {out : List Nat} {res : List Nat × Nat × Int} {ev bad : Value} {e : Ending} (h0 : Ds K R s l N most w0 p out) (hK : ∀ k,K k -> K' k)
  (h : Jo K' w res.2.2 ev bad (fun w' => Ds K' R s l N most w' res.2.1 res.1) e w') : Jo K w res.2.2 ev bad (fun w' => Ds K R s l N most w' res.2.1 res.1) e w' :=
 ⟨h.1.mono hK,fun hc => ⟨(h.2.1 hc).1,(h.2.1 hc).2.narrow h0 hK⟩,h.2.2⟩
theorem fit_fixL : Fit (Hd.zz If.fixL) := fit_of newE_fixL
theorem fit_fixD : Fit (Hd.zz If.fixD) := fit_of newE_fixD
namespace If
theorem dynamic_j (l : List Bool) (most p : Nat) (out : List Nat) :
  dynamic l most p out = if (jdynE (Hd.head l p)).2.2.2 ≠ 0 then ([],0,(jdynE (Hd.head l p)).2.2.2) else syms l (jdynE (Hd.head l p)).1 (jdynE (Hd.head l p)).2.1 most (l.length + 1) out (jdynE (Hd.head l p)).2.2.1 := by
 unfold dynamic jdynE
 by_cases h1 : (Hd.head l p).2.2.2 ≠ 0
 ·rw [if_pos h1,if_pos h1,if_pos h1]
 rw [if_neg h1,if_neg h1]
 by_cases h2 : (Hd.head l p).1[256]?.getD 0 = 0
 ·rw [if_pos h2,if_pos h2,if_pos (by simp)]
 rw [if_neg h2,if_neg h2]
 by_cases h3 : newE (Hd.zz (Hd.head l p).1) ≠ 0
 ·rw [if_pos h3,if_pos h3,if_pos h3]
 rw [if_neg h3,if_neg h3]
 by_cases h4 : newE (Hd.zz (Hd.head l p).2.1) ≠ 0 /\ ¬ (∀ x ∈ (Hd.head l p).2.1,x = 0)
 ·rw [if_pos h4,if_pos h4,if_pos h4.1]
 rw [if_neg h4,if_neg h4,if_neg h1]
end If
theorem jblock_any {K : Nat -> Prop} {R : Nat} {s : Value} {l : List Bool} {N most : Nat} {w : World} {p : Nat} {out : List Nat} (hS : Ds K R s l N most w p out) (hl : Hid (N = l.length)) (hN : N <= 2251799813685248) (h8 : Hid (N % 8 = 0)) (hm : most <= 65536) (hcap : Hid (∀ a len cap,s = .slice a len cap -> len <= cap)) (res : List Nat × Nat × Int) (hres : Hid (Unit -> If.block l most p out = res)) :
  Calls Tryz.prog 45 #[.pointer (some ⟨R,0,none⟩)] w (Jb K R s l N most (Hd.num l p 1) w res) := by
 have hst := hres.out ()
 unfold If.block at hst
 have HS := LH hS
 have HG := LH (jget_any 1 hS hl hN (by omega))
 obtain ⟨la,hla⟩ : ∃ la,la = Hd.num l p 1 := ⟨_,rfl⟩
 rw [<- hla] at HG
 rw [<- hla]
 have HST := LH (fun _ : Unit => hst)
 clear hst hS hres hla
 go_enter Tryz.func45,Tryz.ntmps45
 go_wp2_with fail
 refine HG.out.mono ?_
 clear HG
 intro e w1 ho
 unfold numE at ho
 by_cases hE1 : N < p + 1
 ·rw [if_pos hE1] at ho
  obtain ⟨rfl,hf⟩ := ho.bad (by decide)
  have hst := HST.out ()
  rw [if_pos (by rw [<- hl.out]; omega)] at hst
  subst hst
  have HF := LH hf
  clear ho hf HST
  go_wp2
  go_ret2
  exact ⟨HF.out,fun h => absurd h (by decide),fun _ => ⟨_,rfl⟩⟩
 rw [if_neg hE1] at ho
 obtain ⟨rfl,hS1,hf⟩ := ho.ok
 have HF1 := LH hf
 have HG := LH (jget_any 2 hS1 hl hN (by omega))
 obtain ⟨kd,hkd⟩ : ∃ kd,kd = Hd.num l (p + 1) 2 := ⟨_,rfl⟩
 have hk4 : kd < 4 := by rw [hkd]; exact Hd.num_lt _ _ _
 rw [<- hkd] at HG
 have hst := HST.out ()
 rw [<- hkd] at hst
 have HST2 := LH (fun _ : Unit => hst)
 clear ho hf hst HST hkd hS1
 go_wp2_with fail
 refine HG.out.mono ?_
 clear HG
 intro e w2 ho
 unfold numE at ho
 by_cases hE2 : N < p + 1 + 2
 ·rw [if_pos hE2] at ho
  obtain ⟨rfl,hf⟩ := ho.bad (by decide)
  have hst := HST2.out ()
  rw [if_pos (by rw [<- hl.out]; omega)] at hst
  subst hst
  have HF := LH (HF1.out.trans hf)
  clear ho hf HST2
  go_wp2
  go_ret2
  exact ⟨HF.out,fun h => absurd h (by decide),fun _ => ⟨_,rfl⟩⟩
 rw [if_neg hE2] at ho
 obtain ⟨rfl,hS2,hf⟩ := ho.ok
 have HF2 := LH (HF1.out.trans hf)
 have HS2 := LH hS2
 have hst := HST2.out ()
 rw [if_neg (by rw [<- hl.out]; omega)] at hst
 have HST3 := LH (fun _ : Unit => hst)
 clear ho hf hst HST2 hS2 HF1
 by_cases k0 : kd = 0
 ·subst k0
  have hst := HST3.out ()
  rw [if_pos rfl] at hst
  have HC := LH (jstored_any (HS2.out) hl hN h8 hm hcap res (fun _ => hst))
  clear hst HST3
  go_wp2_with fail
  refine HC.out.mono ?_
  clear HC
  intro e w3 ho
  by_cases hc : res.2.2 = 0
  ·have e1 := (ho.2.1 hc).1
   have HD := LH (ho.2.1 hc).2
   have HF := LH (HF2.out.trans ho.1)
   have HC := LH hc
   subst e1
   clear ho hc
   go_wp2
   go_ret2
   exact ⟨HF.out,fun _ => ⟨rfl,HD.out⟩,fun h => absurd HC.out h⟩
  ·have e1 := ho.2.2 hc
   have HF := LH (HF2.out.trans ho.1)
   have HC := LH hc
   subst e1
   clear ho hc
   go_wp2
   go_ret2
   exact ⟨HF.out,fun h => absurd h HC.out,fun _ => ⟨_,rfl⟩⟩
 have b0 : ((kd : Int) == 0) = false := by simp; omega
 have b0' : (kd == 0) = false := by simp; omega
 by_cases k1 : kd = 1
 ·subst k1
  have hst := HST3.out ()
  rw [if_neg (by omega),if_pos rfl] at hst
  have HST4 := LH (fun _ : Unit => hst)
  clear hst HST3 b0 b0' k0
  go_wp2_with fail
  refine (jfixed_is w2).mono ?_
  rintro e w3 ⟨v1,v2,rfl,g1,g2,rfl,rfl,h1,h2,h3,hx,hy,hb⟩
  have z1 := Zk.of_new (K := K) (v := .slice (some ⟨g1,0,none⟩) 288 288) (zl_nums hx fixL_len.symm (by omega)) (newer_at h1) (Or.inr fit_fixL)
  have z2 := Zk.of_new (K := K) (v := .slice (some ⟨g2,0,none⟩) 32 32) (zl_nums hy fixD_len.symm (by omega)) (newer_at h2) (Or.inr fit_fixD)
  have HC := LH (jsymbols_any _ _ _ _ z1 fit_fixL z2 (HS2.out.widen hb) hl hN hm (l.length + 1) (by have := hl.out; omega) res (fun _ => HST4.out ()))
  have HF3 := LH (HF2.out.trans (Fr.of_below HS2.out.lt hb))
  clear hx hy hb z1 z2 HST4
  go_wp2_with fail
  refine HC.out.mono ?_
  clear HC
  intro e w4 ho
  have ho := Jo.narrow HS2.out (fun k hk => Or.inl hk) ho
  by_cases hc : res.2.2 = 0
  ·have e1 := (ho.2.1 hc).1
   have HD := LH (ho.2.1 hc).2
   have HF := LH (HF3.out.trans ho.1)
   have HC := LH hc
   subst e1
   clear ho hc
   go_wp2
   go_ret2
   exact ⟨HF.out,fun _ => ⟨rfl,HD.out⟩,fun h => absurd HC.out h⟩
  ·have e1 := ho.2.2 hc
   have HF := LH (HF3.out.trans ho.1)
   have HC := LH hc
   subst e1
   clear ho hc
   go_wp2
   go_ret2
   exact ⟨HF.out,fun h => absurd h HC.out,fun _ => ⟨_,rfl⟩⟩
 have b1 : ((kd : Int) == 1) = false := by simp; omega
 have b1' : (kd == 1) = false := by simp; omega
 by_cases k2 : kd = 2
 ·subst k2
  have hst := HST3.out ()
  rw [if_neg (by omega),if_neg (by omega),if_pos rfl,If.dynamic_j] at hst
  obtain ⟨r,hr⟩ : ∃ r,jdynE (Hd.head l (p + 1 + 2)) = r := ⟨_,rfl⟩
  have hr' : jdynE (Hd.head l (p + 3)) = r := hr
  rw [hr'] at hst
  have HC := LH (jdynamic_any HS2.out hl hN r (fun _ => hr))
  obtain ⟨lit,dist,q,c⟩ := r
  simp only at hst
  have HST4 := LH (fun _ : Unit => hst)
  clear hst HST3 b0 b0' b1 b1' k0 k1 hr hr'
  go_wp2_with fail
  refine HC.out.mono ?_
  clear HC
  intro e w3 ho
  by_cases hc : c = 0
  ·subst hc
   obtain ⟨v1,v2,K',rfl,hK',z1,z2,hfit,hS3⟩ := ho.2.1 rfl
   have hst := HST4.out ()
   rw [if_neg (by simp)] at hst
   have HF3 := LH (HF2.out.trans ho.1)
   have HC := LH (jsymbols_any _ _ _ _ z1 hfit z2 hS3 hl hN hm (l.length + 1) (by have := hl.out; omega) res (fun _ => hst))
   have HKK := LH hK'
   clear ho hst HST4 z1 z2 hfit hS3
   go_wp2_with fail
   refine HC.out.mono ?_
   clear HC
   intro e w4 ho
   have ho := Jo.narrow HS2.out HKK.out ho
   by_cases hc : res.2.2 = 0
   ·have e1 := (ho.2.1 hc).1
    have HD := LH (ho.2.1 hc).2
    have HF := LH (HF3.out.trans ho.1)
    have HC := LH hc
    subst e1
    clear ho hc
    go_wp2
    go_ret2
    exact ⟨HF.out,fun _ => ⟨rfl,HD.out⟩,fun h => absurd HC.out h⟩
   ·have e1 := ho.2.2 hc
    have HF := LH (HF3.out.trans ho.1)
    have HC := LH hc
    subst e1
    clear ho hc
    go_wp2
    go_ret2
    exact ⟨HF.out,fun h => absurd h HC.out,fun _ => ⟨_,rfl⟩⟩
  ·have e1 := ho.2.2 hc
   subst e1
   have hst := HST4.out ()
   rw [if_pos hc] at hst
   subst hst
   have HF := LH (HF2.out.trans ho.1)
   have HC := LH hc
   have e9 : (c == 0) = false := by rw [beq_eq_false_iff_ne]; exact hc
   clear ho hc HST4
   go_wp2
   go_ret2
   exact ⟨HF.out,fun h => absurd h HC.out,fun _ => ⟨_,rfl⟩⟩
 have b2 : ((kd : Int) == 2) = false := by simp; omega
 have b2' : (kd == 2) = false := by simp; omega
 have hst := HST3.out ()
 rw [if_neg k0,if_neg k1,if_neg k2] at hst
 subst hst
 clear HST3
 go_wp2
 go_ret2
 exact ⟨HF2.out,fun h => absurd h (by decide),fun _ => ⟨_,rfl⟩⟩
end
section
open Go.RowKit
abbrev jdiO (a : Option Addr) (len cap N most : Nat) : Obj := .cells #[.slice a len cap,.int .i64 (N : Int),.int .i64 0,.slice none 0 0,.int .i64 (most : Int)] 78
def JDec (w : World) (res : List Nat × Nat × Int) (e : Ending) (w' : World) : Prop :=
 ∃ v,e = .returned (.tuple #[v,.int .i64 (res.2.1 : Int),.int .i64 res.2.2]) /\ Sl w' v res.1 /\ Below w.heap.size w w'
theorem JDec.bad {w w' : World} {c : Int} (h : Below w.heap.size w w') : JDec w ([],0,c) (.returned (.tuple #[.slice none 0 0,.int .i64 0,.int .i64 c])) w' := ⟨_,rfl,Sl.nil _,h⟩
theorem jdecode_arg (b : Value) (l : List Bool) (most : Int) (w : World) (hm : most < 0 ∨ 65536 < most) :
  Calls Tryz.prog 20 #[b,.int .i64 most] w (JDec w (If.decode l most)) := by
 have e : If.decode l most = ([],0,2) := by unfold If.decode; rw [if_pos hm]
 rw [e]
 clear e
 rcases hm with hm | hm
 ·have d1 : decide (most < 0) = true := by simpa using hm
  go_enter Tryz.func20,Tryz.ntmps20
  go_wp2
  exact bodyPost_ret (v := .tuple #[.slice none 0 0,.int .i64 0,.int .i64 2]) (by simp [results,Tryz.results20,go_sem]) rfl (JDec.bad (Below.refl _ _))
 ·have d1 : decide (most < 0) = false := by simp; omega
  have d2 : decide (65536 < most) = true := by simpa using hm
  go_enter Tryz.func20,Tryz.ntmps20
  go_wp2
  exact bodyPost_ret (v := .tuple #[.slice none 0 0,.int .i64 0,.int .i64 2]) (by simp [results,Tryz.results20,go_sem]) rfl (JDec.bad (Below.refl _ _))
theorem jdecode_in (a : Option Addr) (len cap : Nat) (l : List Bool) (most N : Nat) (w : World) (hs : Sl w (.slice a len cap) (Bs.pack l)) (hl : Hid (8 * len = l.length)) (hN : Hid (N = l.length)) (h9 : len <= 1000000) (hcp : len <= cap) (hm : most <= 65536) (res : List Nat × Nat × Int) (hres : Hid (Unit -> If.decode l most = res)) :
  Calls Tryz.prog 20 #[.slice a len cap,.int .i64 (most : Int)] w (JDec w res) := by
 have d1 : decide ((most : Int) < 0) = false := by simp
 have d2 : decide (65536 < (most : Int)) = false := by simp; omega
 have d3 : decide (65536 < most) = false := by simp; omega
 have hmul : IntKind.i64.wrap (8 * (len : Int)) = (N : Int) := by rw [IntWalk.i64_in _ (by omega)]; have := hl.out; have := hN.out; omega
 have hb1 := below1 w (jdiO a len cap N most)
 obtain ⟨fin,hfin⟩ : ∃ fin,If.blocks l most (l.length + 1) [] 0 = fin := ⟨_,rfl⟩
 have hdec : res = if fin.2.2 ≠ 0 then ([],0,fin.2.2) else (fin.1,(fin.2.1 + 7) / 8,0) := by
  rw [<- hres.out ()]
  unfold If.decode
  rw [if_neg (by omega),Int.toNat_natCast,hfin]
 have HDEC := LH (fun _ : Unit => hdec)
 have hSt : Ds (fun k => k < w.heap.size) w.heap.size (.slice a len cap) l N most (w.alloc (jdiO a len cap N most)) 0 [] := by
  refine ⟨fun k hk => by simp; omega,fun hk => Nat.lt_irrefl _ hk,hs.later hb1,fun a' len' cap' b off e hl' ha => ?_,Nat.zero_le _,Nat.zero_le _,fun x hx => (nomatch hx),.slice none 0 0,Has.new w _,⟨rfl,Or.inl ⟨rfl,rfl⟩⟩,fun q hq => by simp [Value.ownBlock] at hq⟩
  obtain ⟨a2,n2,c2,e2,_,_,_,_,h5⟩ := hs
  rw [e] at e2
  injection e2 with e3 e4 _
  obtain ⟨b',off',e5,hlt,_⟩ := h5 (by omega)
  rw [<- e3,ha] at e5
  injection e5 with e5
  injection e5 with e5 _ _
  omega
 have HS := LH hSt
 have h8 : Hid (N % 8 = 0) := by show _ = _; have := hl.out; have := hN.out; omega
 have HCAP : Hid (∀ a' len' cap',(Value.slice a len cap) = .slice a' len' cap' -> len' <= cap') := fun a' len' cap' e => by injection e with _ e1 e2; omega
 have hN9 : N <= 2251799813685248 := by have := hl.out; have := hN.out; omega
 have HFR : Hid (Fr (fun k => k < w.heap.size) w (w.alloc (jdiO a len cap N most))) := Fr.of_below (fun k hk => hk) hb1
 have HFIN := LH (fun _ : Unit => hfin)
 obtain ⟨W,hW⟩ : ∃ W,w.alloc (jdiO a len cap N most) = W := ⟨_,rfl⟩
 rw [hW] at HS HFR
 obtain ⟨K,hK⟩ : ∃ K : Nat -> Prop,K = (fun k => k < w.heap.size) := ⟨_,rfl⟩
 rw [<- hK] at HS HFR
 have HKB : Hid (∀ k,k < w.heap.size -> K k) := by show ∀ _,_; rw [hK]; exact fun k h => h
 clear hK
 unfold jdiO at hW
 obtain ⟨R,hR⟩ : ∃ R,R = w.heap.size := ⟨_,rfl⟩
 rw [<- hR] at HS
 clear hs hres hb1 hdec hSt hfin
 go_enter Tryz.func20,Tryz.ntmps20
 go_wp2_with fail
 try rw [hW]
 try rw [<- hR]
 clear hW hR hmul d1 d2 d3 hcp h9
 go_loopw [24] (fun _ wr => ∃ (k' p : Nat) (ou : List Nat),Hid (N < p + k') /\ Hid (Ds K R (.slice a len cap) l N most wr p ou) /\ Hid (Fr K w wr) /\ Hid (Unit -> If.blocks l most k' ou p = fin)) (fun _ wr => N - placeOf R wr)
 case atStart => exact ⟨l.length + 1,0,[],by show _ < _; have := hN.out; omega,HS.out,HFR.out,fun u => HFIN.out u⟩
 case round =>
  obtain ⟨k',p,ou,HK,KS,KF,KR⟩ := hrel
  have hpn := KS.out.pn
  obtain ⟨k2,rfl⟩ : ∃ k2,k' = k2 + 1 := ⟨k' - 1,by have := HK.out; omega⟩
  have hb := KR.out ()
  rw [If.blocks_succ] at hb
  obtain ⟨bk,hbk⟩ : ∃ bk,If.block l most p ou = bk := ⟨_,rfl⟩
  have hbf := @If.block_facts l most p ou
  rw [hbk] at hb hbf
  have HB := LH (jblock_any KS.out hN hN9 h8 hm HCAP bk (fun _ => hbk))
  have HPL := LH KS.out.place
  obtain ⟨la,hla⟩ : ∃ la,la = Hd.num l p 1 := ⟨_,rfl⟩
  rw [<- hla] at HB hb
  have HB2 := LH (fun _ : Unit => hb)
  have HBF := LH (fun _ : Unit => hbf)
  clear hb hbf hbk KR hla KS hpn
  go_wp2_with fail
  refine HB.out.mono ?_
  clear HB
  intro e w1 ho
  obtain ⟨o1,p1,c1⟩ := bk
  by_cases hc : c1 = 0
  ·subst hc
   obtain ⟨rfl,hS1⟩ := ho.2.1 rfl
   have HF1 := LH (KF.out.trans ho.1)
   have HS1 := LH hS1
   have hb := HB2.out ()
   rw [if_neg (by simp)] at hb
   have hbf := HBF.out () rfl
   have HB3 := LH (fun _ : Unit => hb)
   have HBF3 := LH hbf
   clear ho hS1 hb hbf HB2 HBF KF
   by_cases hla1 : la = 1
   ·subst hla1
    have hb := HB3.out ()
    rw [if_pos rfl] at hb
    subst hb
    have hres := HDEC.out ()
    simp only [ne_eq,not_true_eq_false,if_false] at hres
    subst hres
    obtain ⟨ov,hx,hown,_⟩ := HS1.out.has
    obtain ⟨_,_,c2,c3,_⟩ := jdi_cells hx
    obtain ⟨oa,oc,rfl⟩ := own_shape hown
    have hle := HS1.out.le
    have hb8 := HS1.out.b8
    have HSL := LH (Sl.owned hown hb8 (by omega))
    have hp1 := HS1.out.pn
    clear hx hown HB3 HDEC hb8
    go_wp2
    go_quiet (fail)
    go_wp2
    have e7 : ((p1 : Int) + 7) / 8 = (((p1 + 7) / 8 : Nat) : Int) := by omega
    refine bodyPost_ret (v := .tuple #[.slice oa o1.length oc,.int .i64 (((p1 + 7) / 8 : Nat) : Int),.int .i64 0]) (by simp [results,Tryz.results20,go_sem]) rfl ⟨_,rfl,HSL.out,below_drewN (HF1.out.below HKB.out) _⟩
   ·have hb := HB3.out ()
    rw [if_neg hla1] at hb
    have HB6 := LH (fun _ : Unit => hb)
    have dl : ((la : Int) == 1) = false := by simp; omega
    have dl2 : (la == 1) = false := by simp; omega
    clear hb HB3 hla1
    go_wp2
    go_roundw
    case rel => exact ⟨k2,p1,o1,by show _ < _; have h1 := HK.out; have h2 := HBF3.out; omega,HS1.out,HF1.out,fun _ => HB6.out ()⟩
    case measure => have h1 := HPL.out; have h2 := HBF3.out; have h4 := HS1.out.place; rw [h1,h4]; have h3 := hN.out; omega
  ·obtain ⟨v,rfl⟩ := ho.2.2 hc
   have hb := HB2.out ()
   rw [if_pos hc] at hb
   subst hb
   have hres := HDEC.out ()
   simp only at hres
   rw [if_pos hc] at hres
   subst hres
   have HF1 := LH (KF.out.trans ho.1)
   have e9 : (c1 != 0) = true := by rw [bne_iff_ne]; exact hc
   have HC := LH hc
   clear ho hc HB2 HBF HDEC HFIN
   go_wp2
   refine bodyPost_ret (v := .tuple #[.slice none 0 0,.int .i64 0,.int .i64 c1]) (by simp [results,Tryz.results20,go_sem]) rfl (JDec.bad (HF1.out.below HKB.out))
end
section
open Go.RowKit
theorem jdec_is (a : Option Addr) (len cap : Nat) (bs : List Nat) (most : Int) (w : World) (hs : Sl w (.slice a len cap) bs) (hcp : len <= cap) (h9 : len <= 1000000) (out : List Nat) (n : Nat) (c : Int) (hd : If.decode (If.bb bs) most = (out,n,c)) :
  Calls Tryz.prog 20 #[.slice a len cap,.int .i64 most] w fun e w' => ∃ a2 cap2,e = .returned (.tuple #[.slice a2 out.length cap2,.int .i64 (n : Int),.int .i64 c]) /\ Sl w' (.slice a2 out.length cap2) out /\ Below w.heap.size w w' := by
 have key : Calls Tryz.prog 20 #[.slice a len cap,.int .i64 most] w (JDec w (out,n,c)) := by
  by_cases hm : most < 0 ∨ 65536 < most
  ·rw [<- hd]
   exact jdecode_arg _ _ most w hm
  ·obtain ⟨m,rfl⟩ : ∃ m : Nat,most = (m : Int) := ⟨most.toNat,by omega⟩
   have h8 : ∀ x ∈ bs,x < 256 := sl_byte hs
   have hlen := hs.len.1
   exact jdecode_in a len cap (If.bb bs) m (If.bb bs).length w (by rw [If.bb_pack bs h8]; exact hs) (by show _ = _; rw [If.bb_length,hlen]) rfl (by omega) hcp (by omega) _ (fun _ => hd)
 refine key.mono ?_
 rintro e w' ⟨v,rfl,ho,hb⟩
 simp only at ho
 obtain ⟨a2,len2,cap2,rfl,hl⟩ := ho.shape
 subst hl
 exact ⟨a2,cap2,rfl,ho,hb⟩
end
section
open Go.RowKit
theorem pkF_decode {ts : List If.Tk} {out : List Nat} (h : PkF ts out) (ht : If.Toks ts) (most : Int) (h1 : ((If.tell ts).length : Int) <= most) (h2 : most <= 65536) : If.decode (If.bb out) most = (If.tell ts,out.length,0) := by
 unfold PkF at h
 subst h
 exact If.fix_toks ht most h1 h2
theorem pkD_decode {ts : List If.Tk} {out : List Nat} (h : PkD ts out) (ht : If.Toks ts) (most : Int) (h1 : ((If.tell ts).length : Int) <= most) (h2 : most <= 65536) : If.decode (If.bb out) most = (If.tell ts,out.length,0) := by
 obtain ⟨l,hl,rfl⟩ := h
 exact dyn_toks ht most h1 h2 hl
theorem src_decode {bs : List Nat} {d : Nat} {out : List Nat} (h : Src bs d out) (h8 : ∀ x ∈ bs,x < 256) (h9 : bs.length <= 65536) (most : Int) (h1 : (bs.length : Int) <= most) (h2 : most <= 65536) : If.decode (If.bb out) most = (bs,out.length,0) := by
 rcases h with rfl | ⟨ts,rfl | rfl,h | h⟩
 ·exact If.stoS_decode bs h9 h8 most h1 h2
 ·have := pkF_decode h (Mt.all_toks h8 d) most (by rw [Mt.all_tell h8]; exact h1) h2
  rwa [Mt.all_tell h8] at this
 ·have := pkD_decode h (Mt.all_toks h8 d) most (by rw [Mt.all_tell h8]; exact h1) h2
  rwa [Mt.all_tell h8] at this
 ·have := pkF_decode h (bytk_toks h8) most (by rw [bytk_all]; exact h1) h2
  rwa [bytk_all] at this
 ·have := pkD_decode h (bytk_toks h8) most (by rw [bytk_all]; exact h1) h2
  rwa [bytk_all] at this
theorem pack_lt (l : List Bool) : ∀ x ∈ Bs.pack l,x < 256 := Bs.pack_lt l
theorem src_lt {bs : List Nat} {d : Nat} {out : List Nat} (h : Src bs d out) (h8 : ∀ x ∈ bs,x < 256) (h9 : bs.length <= 65536) : ∀ x ∈ out,x < 256 := by
 rcases h with rfl | ⟨ts,_,h | ⟨l,_,h⟩⟩
 ·exact If.stoS_lt bs h9 h8
 ·unfold PkF at h; subst h; exact pack_lt _
 ·subst h; exact pack_lt _
theorem stoS_length (bs : List Nat) (h9 : bs.length <= 65536) : (If.stoS bs).length <= bs.length + 10 := by
 have h := congrArg List.length (If.stoS_bits bs h9)
 rw [If.bb_length] at h
 by_cases e : bs.length < 65535
 ·rw [if_pos e,If.stoBits_length _ _ (by omega)] at h
  omega
 ·rw [if_neg e,List.length_append,If.stoBits_length _ _ (by rw [List.length_take]; omega),If.stoBits_length _ _ (by rw [List.length_drop]; omega),List.length_take,List.length_drop] at h
  omega
theorem opsRow_ge {C : List Nat} : ∀ (ops : List (Nat × Nat)) (acc : List Nat),If.OV C ops acc -> ops.length <= (If.opsRow C ops).length /\ (If.told acc ops).length <= acc.length + 138 * ops.length
 | [],acc,_ => ⟨Nat.zero_le _,by simp [If.told]⟩
 | o :: ops,acc,h => by
  obtain ⟨h1,h2,_,h4⟩ := h
  obtain ⟨i1,i2⟩ := opsRow_ge ops _ h4
  rw [If.opsRow_cons,List.length_append,List.length_cons]
  have e : (If.told acc (o :: ops)) = If.told (If.told1 acc o) ops := rfl
  rw [If.told1_length] at i2
  have hx : (If.opRow C o).length = Hf.ln C o.1 + Hd.ex o.1 := by unfold If.opRow; rw [List.length_append,cw_len,Bs.bitsOf_length]
  have hm : Hd.least o.1 + o.2 <= 138 := by
   unfold Hd.ex at h2
   unfold Hd.least
   by_cases a1 : o.1 = 16
   ·rw [if_pos a1] at h2 ⊢; omega
   ·rw [if_neg a1] at h2 ⊢
    by_cases a2 : o.1 = 17
    ·rw [if_pos a2] at h2 ⊢; omega
    ·rw [if_neg a2] at h2 ⊢
     by_cases a3 : o.1 = 18
     ·rw [if_pos a3] at h2 ⊢; omega
     ·rw [if_neg a3] at h2 ⊢; omega
  rw [e]
  omega
theorem dyn_length (L D C : List Nat) (c : Nat) (ops : List (Nat × Nat)) (ts : List If.Tk) : (If.dynRow L D C c ops ts).length = 3 + ((14 + 3 * c + (If.opsRow C ops).length) + ((If.toksRow L D ts).length + Hf.ln L 256)) := by
 unfold If.dynRow
 simp only [List.length_append,If.begRow_length,cw_len,If.headRow_length]
theorem dyn_len {L D C : List Nat} {c : Nat} {ts : List If.Tk} (hv : If.HV L D C c (rnL (L ++ D))) (h15 : ∀ x ∈ L ++ D,x <= 15) (h0 : ts.length <= (If.toksRow L D ts).length) (h1 : (If.toksRow L D ts).length <= 48 * ts.length) (h3 : Hf.ln L 256 <= 15) (he : Hf.ln L 256 ≠ 0) (ht : ts.length <= 65536) :
  (1 <= ts.length -> 4 < (Bs.pack (If.dynRow L D C c (rnL (L ++ D)) ts)).length) /\ (Bs.pack (If.dynRow L D C c (rnL (L ++ D)) ts)).length <= 1000000 := by
 have h4 := head_few hv h15
 rw [If.headRow_length] at h4
 obtain ⟨h5,h6⟩ := opsRow_ge _ _ hv.ov
 rw [hv.tl,List.length_append] at h6
 have h7 := hv.l1
 have h8 := hv.d1
 have h9 := hv.c1
 rw [Bs.pack_length,dyn_length]
 have hz : ([] : List Nat).length = 0 := rfl
 generalize (If.opsRow C (rnL (L ++ D))).length = a at *
 generalize (rnL (L ++ D)).length = b at *
 generalize (If.toksRow L D ts).length = t at *
 generalize Hf.ln L 256 = z at *
 exact ⟨fun h => by omega,by omega⟩
theorem pkD_len {ts : List If.Tk} {out : List Nat} (h : PkD ts out) (ht : If.Toks ts) (hl : (If.tell ts).length <= 65536) : (1 <= ts.length -> 4 < out.length) /\ out.length <= 1000000 /\ ∀ x ∈ out,x < 256 := by
 unfold PkD DynQ at h
 have hfh := Dp.fits_has ts (If.toks_vals ht)
 have h2 := If.toks_length_le ts
 have hfL : Fit (Hd.zz (Dp.best (Dp.litF ts))) := Dp.best_fit _ (by rw [Dp.litF_length]; omega) (by rw [Dp.litF_length]; omega)
 have hfD : Fit (Hd.zz (Dp.best (Dp.distF ts))) := Dp.best_fit _ (by rw [Dp.distF_length]; omega) (by rw [Dp.distF_length]; omega)
 have h15 := Dp.best_all15 ts
 generalize Dp.best (Dp.litF ts) = L at *
 generalize Dp.best (Dp.distF ts) = D at *
 obtain ⟨l,⟨C,c,hv,hl2⟩,ho⟩ := h
 have h1 := toksRow_le hfL hfD ts (If.toks_vals ht)
 have h3 := cw_le hfL 256
 rw [cw_len] at h3
 obtain ⟨r1,r2⟩ := dyn_len hv h15 (If.toksRow_ge hfh.1) h1 h3 hfh.2 (by omega)
 rw [ho,hl2]
 exact ⟨r1,r2,pack_lt _⟩
end
section
open Go.RowKit Go.Maps
theorem ex_sto : If.stoS [97,98,99] = [1,3,0,252,255,97,98,99] := by decide +kernel
theorem ex_fix : Bs.pack (If.fixRow [⟨0,0,97⟩]) = [75,4,0] := by decide +kernel
theorem toks_one (x : Nat) (hx : x < 256) : If.Toks [⟨0,0,x⟩] /\ If.tell [⟨0,0,x⟩] = [x] := by
 refine ⟨?_,rfl⟩
 have h : If.Toks ([] ++ [⟨0,0,x⟩]) := If.Toks.nil.snoc ⟨Or.inl ⟨rfl,rfl,hx⟩,Nat.zero_le _⟩
 exact h
theorem tks_one (w : World) (t : If.Tk) : Tks (w.alloc (.cells #[.int .i64 (t.len : Int),.int .i64 (t.far : Int),.int .u8 (t.lit : Int)] 48)) (.slice (some ⟨w.heap.size,0,none⟩) 1 1) [t] := by
 have h := Has.new w (.cells #[.int .i64 (t.len : Int),.int .i64 (t.far : Int),.int .u8 (t.lit : Int)] 48)
 obtain ⟨c0,c1,c2⟩ := tk_cells h
 refine ⟨_,1,rfl,fun _ => ⟨w.heap.size,0,rfl,h.lt,fun i u hu => ?_⟩⟩
 match i,hu with
 | 0,hu => simp at hu; subst hu; exact ⟨c0,c1,c2⟩
theorem tis_one (w : World) (t : Ti) : Tis (w.alloc (.cells #[.int .i64 t.len,.int .i64 t.far,.int .u8 (t.lit : Int)] 48)) (.slice (some ⟨w.heap.size,0,none⟩) 1 1) [t] := by
 have h := Has.new w (.cells #[.int .i64 t.len,.int .i64 t.far,.int .u8 (t.lit : Int)] 48)
 obtain ⟨c0,c1,c2⟩ := tk_cells h
 refine ⟨_,1,rfl,fun _ => ⟨w.heap.size,0,rfl,h.lt,fun i u hu => ?_⟩⟩
 match i,hu with
 | 0,hu => simp at hu; subst hu; exact ⟨c0,c1,c2⟩
theorem own_le {w : World} {base : Nat} {e : TypeId} {size : Nat} {a : Option Addr} {n c : Nat} {xs : List Value} (h : w.ownsRow base e size (.slice a n c) n xs) : n <= c := by
 rcases h.2 with ⟨h1,h2⟩ | ⟨g,cap,cur,h1,_,_,hle,_⟩
 ·subst h2; exact Nat.zero_le _
 ·cases h1; exact hle
theorem str_post {w : World} {bs : List Nat} {e : Ending} {w' : World} (h : StrPost w bs e w') (h8 : ∀ x ∈ bs,x < 256) (h9 : bs.length <= 1000000) :
  ∃ a c,e = .returned (.tuple #[.slice a bs.length c,.int .i64 0]) /\ Sl w' (.slice a bs.length c) bs /\ bs.length <= c /\ Below w.heap.size w w' := by
 obtain ⟨v,rfl,ho,hb⟩ := h
 obtain ⟨a,c,rfl⟩ := own_slice ho
 exact ⟨a,c,rfl,Sl.owned ho h8 (by omega),own_le ho,hb⟩
theorem abc15 : ∀ x ∈ ([97,98,99,97,98,99,97,98,99,97,98,99,97,98,99] : List Nat),x < 256 := by decide
theorem lives10 (w : World) (hg : Glob w) : Calls Tryz.prog 13 #[] w fun e w' => e = .returned (.bool true) /\ Below w.heap.size w w' := by
 have HG := LH hg
 have kc := fun (w : World) (C : Array Value) (n c : Nat) => Lib.run_convert_bytes_const (P := Tryz.prog) w 22 5 C n c Tryz.underlying22 Tryz.underlying5
 clear hg
 go_enter Tryz.func13,Tryz.ntmps13
 have hba1 := below1 w (.cells #[.int .u8 97,.int .u8 98,.int .u8 99] 5 (3,4))
 have HBA1 := LH hba1
 clear hba1
 have HD := LH (stored_ok (some ⟨w.heap.size,0,none⟩) 3 3 [97,98,99] (w.alloc (.cells #[.int .u8 97,.int .u8 98,.int .u8 99] 5 (3,4))) (new_sl w _ (3,4) [97,98,99] 3 3 rfl (by decide) rfl (by decide)) (by decide) (by decide))
 rw [ex_sto] at HD
 go_wp2_with fail
 refine HD.out.mono ?_
 clear HD
 rintro e w1 h1
 obtain ⟨a1,c1,rfl,hs1,-,hb1⟩ := str_post h1 (by decide) (by decide)
 clear h1
 have HB1 := LH ((HBA1.out).trans (hb1.mono (HBA1.out).size))
 clear hb1
 have S1 := LH hs1
 clear hs1
 clear HBA1
 have hba2 := below1 w1 (.cells #[.int .i64 0,.int .i64 0,.int .u8 97] 48)
 have HBA2 := LH ((HB1.out).trans (hba2.mono (HB1.out).size))
 have S2a := LH (S1.out.later hba2)
 clear S1
 clear hba2
 have HD := LH (fixed_ok (some ⟨w1.heap.size,0,none⟩) 1 1 [⟨0,0,97⟩] (w1.alloc (.cells #[.int .i64 0,.int .i64 0,.int .u8 97] 48)) (tks_one w1 ⟨0,0,97⟩) rfl (toks_one 97 (by decide)).1 (by decide))
 rw [ex_fix] at HD
 go_wp2_with fail
 refine HD.out.mono ?_
 clear HD
 rintro e w2 h2
 obtain ⟨a2,c2,rfl,hs2,-,hb2⟩ := str_post h2 (by decide) (by decide)
 clear h2
 have HB2 := LH ((HBA2.out).trans (hb2.mono (HBA2.out).size))
 have S2 := LH (S2a.out.later hb2)
 clear S2a
 clear hb2
 have U2 := LH hs2
 clear hs2
 clear HBA2 HB1
 have hba3 := below1 w2 (.cells #[.int .i64 3,.int .i64 1,.int .u8 0] 48)
 have HBA3 := LH ((HB2.out).trans (hba3.mono (HB2.out).size))
 have S3a := LH (S2.out.later hba3)
 clear S2
 have U3a := LH (U2.out.later hba3)
 clear U2
 clear hba3
 have HD := LH (fixed_bad (some ⟨w2.heap.size,0,none⟩) 1 1 (w2.alloc (.cells #[.int .i64 3,.int .i64 1,.int .u8 0] 48)) 14 (by decide) (fun W hW => expand_bad (some ⟨w2.heap.size,0,none⟩) 1 1 [] ⟨3,1,0⟩ [] 65536 W ((tis_one w2 ⟨3,1,0⟩).later hW) If.Toks.nil (by decide) (by decide) (by decide) 14 (by decide) (by decide)))
 go_wp2_with fail
 refine HD.out.mono ?_
 clear HD
 rintro e w3 ⟨rfl,hb3⟩
 have HB3 := LH ((HBA3.out).trans (hb3.mono (HBA3.out).size))
 have S3 := LH (S3a.out.later hb3)
 clear S3a
 have U3 := LH (U3a.out.later hb3)
 clear U3a
 clear hb3
 clear HBA3 HB2
 have hba4 := below1 w3 (.cells #[.int .u8 97,.int .u8 98,.int .u8 99,.int .u8 97,.int .u8 98,.int .u8 99,.int .u8 97,.int .u8 98,.int .u8 99,.int .u8 97,.int .u8 98,.int .u8 99,.int .u8 97,.int .u8 98,.int .u8 99] 5 (15,16))
 have HBA4 := LH ((HB3.out).trans (hba4.mono (HB3.out).size))
 have S4a := LH (S3.out.later hba4)
 clear S3
 have U4a := LH (U3.out.later hba4)
 clear U3
 clear hba4
 have HD := LH (encode_ok (some ⟨w3.heap.size,0,none⟩) 15 15 9 [97,98,99,97,98,99,97,98,99,97,98,99,97,98,99] (w3.alloc (.cells #[.int .u8 97,.int .u8 98,.int .u8 99,.int .u8 97,.int .u8 98,.int .u8 99,.int .u8 97,.int .u8 98,.int .u8 99,.int .u8 97,.int .u8 98,.int .u8 99,.int .u8 97,.int .u8 98,.int .u8 99] 5 (15,16))) (HG.out.later HBA4.out) (new_sl w3 _ (15,16) [97,98,99,97,98,99,97,98,99,97,98,99,97,98,99] 15 15 rfl (by decide) rfl (by decide)) (by decide) (by decide) (by decide) (by decide))
 go_wp2_with fail
 refine HD.out.mono ?_
 clear HD
 rintro e w4 ⟨a4,n4,c4,o4,rfl,hp4,-,hb4⟩
 have HB4 := LH ((HBA4.out).trans (hb4.mono (HBA4.out).size))
 have S4 := LH (S4a.out.later hb4)
 clear S4a
 have U4 := LH (U4a.out.later hb4)
 clear U4a
 clear hb4
 clear HBA4 HB3
 have hl4 : n4 <= 1000000 := by have h1 := hp4.len; have h2 := hp4.sto; have h3 := stoS_length [97,98,99,97,98,99,97,98,99,97,98,99,97,98,99] (by decide); have h5 : ([97,98,99,97,98,99,97,98,99,97,98,99,97,98,99] : List Nat).length = 15 := rfl; omega
 have HD := LH (jdec_is a4 n4 c4 o4 99 w4 (Sl.owned hp4.own (src_lt hp4.src abc15 (by decide)) (by omega)) (own_le hp4.own) hl4 _ _ _ (src_decode hp4.src abc15 (by decide) 99 (by decide) (by decide)))
 rw [<- hp4.len] at HD
 clear hp4 hl4
 go_wp2_with fail
 refine HD.out.mono ?_
 clear HD
 rintro e w5 ⟨a5,c5,rfl,hs5,hb5⟩
 have HB5 := LH ((HB4.out).trans (hb5.mono (HB4.out).size))
 have S5 := LH (S4.out.later hb5)
 clear S4
 have U5 := LH (U4.out.later hb5)
 clear U4
 clear hb5
 have X5 := LH hs5
 clear hs5
 clear HB4
 have hba6 := below1 w5 (.cells #[.int .i64 0,.int .i64 0,.int .u8 97] 48)
 have HBA6 := LH ((HB5.out).trans (hba6.mono (HB5.out).size))
 have S6a := LH (S5.out.later hba6)
 clear S5
 have U6a := LH (U5.out.later hba6)
 clear U5
 have X6a := LH (X5.out.later hba6)
 clear X5
 clear hba6
 have HD := LH (dyn_go (some ⟨w5.heap.size,0,none⟩) 1 1 [⟨0,0,97⟩] (w5.alloc (.cells #[.int .i64 0,.int .i64 0,.int .u8 97] 48)) (HG.out.later HBA6.out) (tks_one w5 ⟨0,0,97⟩) rfl (toks_one 97 (by decide)).1 (by decide))
 go_wp2_with fail
 refine HD.out.mono ?_
 clear HD
 rintro e w6 ⟨a6,n6,c6,o6,rfl,ho6,hn6,hq6,hb6⟩
 have HB6 := LH ((HBA6.out).trans (hb6.mono (HBA6.out).size))
 have S6 := LH (S6a.out.later hb6)
 clear S6a
 have U6 := LH (U6a.out.later hb6)
 clear U6a
 have X6 := LH (X6a.out.later hb6)
 clear X6a
 clear hb6
 clear HBA6 HB5
 obtain ⟨hg6,hl6,h86⟩ := pkD_len hq6 (toks_one 97 (by decide)).1 (by decide)
 have hn4 : 4 < n6 := by have := hg6 (by decide); omega
 have HN4 : (4 : Int) < (n6 : Int) := by omega
 have HD := LH (jdec_is a6 n6 c6 o6 99 w6 (Sl.owned ho6 h86 (by omega)) (own_le ho6) (by omega) _ _ _ (pkD_decode hq6 (toks_one 97 (by decide)).1 99 (by decide) (by decide)))
 rw [<- hn6,(toks_one 97 (by decide)).2] at HD
 clear ho6 hn6 hq6 hg6 hl6 h86
 go_wp2_with fail
 refine HD.out.mono ?_
 clear HD
 rintro e w7 ⟨a7,c7,rfl,hs7,hb7⟩
 have HB7 := LH ((HB6.out).trans (hb7.mono (HB6.out).size))
 have S7 := LH (S6.out.later hb7)
 clear S6
 have U7 := LH (U6.out.later hb7)
 clear U6
 have X7 := LH (X6.out.later hb7)
 clear X6
 clear hb7
 have Y7 := LH hs7
 clear hs7
 clear HB6
 have r1 := string_of w7 a1 8 c1 _ _ S7.out (show Hid (({ data := #[1,3,0,252,255,97,98,99] } : ByteArray) = strB [1,3,0,252,255,97,98,99]) from rfl)
 have r2 := string_of w7 a2 3 c2 _ _ U7.out (show Hid (({ data := #[75,4,0] } : ByteArray) = strB [75,4,0]) from rfl)
 have r3 := string_of w7 a5 15 c5 _ _ X7.out (show Hid (({ data := #[97,98,99,97,98,99,97,98,99,97,98,99,97,98,99] } : ByteArray) = strB [97,98,99,97,98,99,97,98,99,97,98,99,97,98,99]) from rfl)
 have r4 := string_of w7 a7 1 c7 _ _ Y7.out (show Hid (({ data := #[97] } : ByteArray) = strB [97]) from rfl)
 clear S7 U7 X7 Y7
 go_wp2
 go_ret
 exact ⟨rfl,HB7.out⟩
end
end Go.Proofs.YtmgpcbjciioiaaaGreatDoor
