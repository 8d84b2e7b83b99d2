import Derived.Test.YtmgpcbjciioiaaaGreatDoorJget
import Derived.Test.YtmgpcbjciioiaaaGreatDoorImost
import Derived.Test.YtmgpcbjciioiaaaGreatDoorIstow
namespace Go.Proofs.YtmgpcbjciioiaaaGreatDoor
set_option maxRecDepth 100000
set_option maxHeartbeats 8000000
open Go.RowKit
theorem Ds.place {K : Nat -> Prop} {R : Nat} {s : Value} {l : List Bool} {N most : Nat} {w : World} {p : Nat} {out : List Nat} (h : Ds K R s l N most w p out) : placeOf R w = p := by
 obtain ⟨ov,hx,_,_⟩ := h.has
 obtain ⟨_,_,c2,_⟩ := jdi_cells hx
 unfold placeOf
 rw [c2]
 simp [intOf]
namespace If
theorem stored_at (l : List Bool) (most p n m u : Nat) (out : List Nat) (hu : u = up p) (hn : n = Hd.num l u 16) (hm : m = Hd.num l (u + 16) 16) :
  stored l most p out = if l.length < u + 32 then ([],0,4) else if n + m ≠ 65535 ∨ n &&& m ≠ 0 then ([],0,5) else if most < out.length + n then ([],0,3) else if l.length < u + 32 + 8 * n then ([],0,4) else
   (out ++ (List.range n).map fun i => Bs.byteAt l (u / 8 + 4 + i),u + 32 + 8 * n,0) := by
 unfold stored
 rw [<- hu,<- hn,<- hm]
 have : u % 8 = 0 := by rw [hu]; unfold up; omega
 rw [show (u + 32) / 8 = u / 8 + 4 by omega]
end If
theorem sl_run {w : World} {b off len cap : Nat} {l : List Bool} (h : Sl w (.slice (some ⟨b,off,none⟩) len cap) (Bs.pack l)) (i m c : Nat) (hm : i + m <= len) : Sl w (.slice (some ⟨b,off + i,none⟩) m c) ((List.range m).map fun j => Bs.byteAt l (i + j)) := by
 have hlen := h.len.1
 rw [Bs.pack_length] at hlen
 have e : ((Bs.pack l).drop i).take m = (List.range m).map fun j => Bs.byteAt l (i + j) := by
  apply List.ext_getElem
  ·simp [Bs.pack_length]; omega
  ·intro j h1 h2
   have h3 : i + j < (Bs.pack l).length := by rw [Bs.pack_length]; simp at h2; omega
   have h4 := Bs.packTo_get' ((l.length + 7) / 8) l (i + j) (by simp at h2; omega)
   have h5 : (Bs.pack l)[i + j]? = some (Bs.byteAt l (i + j)) := h4
   rw [List.getElem?_eq_getElem h3] at h5
   simp only [List.getElem_take,List.getElem_drop,List.getElem_map,List.getElem_range]
   exact Option.some.inj h5
 obtain ⟨a',len',cap',he,h1,h2,h3,h4,h5⟩ := h
 injection he with e1 e2 e3
 subst e1 e2 e3
 refine ⟨_,m,c,rfl,by simp,by omega,fun h => by simp at h,fun x hx => ?_,fun h0 => ?_⟩
 ·rw [<- e] at hx
  exact h4 x (List.mem_of_mem_drop (List.mem_of_mem_take hx))
 ·obtain ⟨b',off',he,hlt,hc⟩ := h5 (by omega)
  injection he with he
  injection he with e1 e2 _
  subst e1 e2
  refine ⟨b,off + i,rfl,hlt,fun j hj => ?_⟩
  rw [<- e,Nat.add_assoc,hc (i + j) (by omega),List.getElem?_take_of_lt hj,List.getElem?_drop]
theorem jstored_any {K : Nat -> Prop} {R : Nat} {s : Value} {l : List Bool} {N most : Nat} {w : World} {p : Nat} {out : List Nat} (hS : Ds K R s l N most w p out) (hl : Hid (N = l.length)) (hN : N <= 2251799813685248) (h8 : Hid (N % 8 = 0)) (hm : most <= 65536) (hcap : Hid (∀ a len cap,s = .slice a len cap -> len <= cap)) (res : List Nat × Nat × Int) (hres : Hid (Unit -> If.stored l most p out = res)) :
  Calls Tryz.prog 82 #[.pointer (some ⟨R,0,none⟩)] w (Jo K w res.2.2 (.int .i64 0) (.int .i64 res.2.2) (fun w' => Ds K R s l N most w' res.2.1 res.1)) := by
 have hp := hS.pn
 obtain ⟨u,hu⟩ : ∃ u,u = If.up p := ⟨_,rfl⟩
 have hu8 : Hid (u % 8 = 0 /\ p <= u /\ u < p + 8) := by show _ /\ _; rw [hu]; unfold If.up; omega
 have huN : u <= N := by have := h8.out; have := hu8.out; omega
 obtain ⟨n,hn⟩ : ∃ n,n = Hd.num l u 16 := ⟨_,rfl⟩
 obtain ⟨m,hmm⟩ : ∃ m,m = Hd.num l (u + 16) 16 := ⟨_,rfl⟩
 have hst := If.stored_at l most p n m u out hu hn hmm
 rw [hres.out ()] at hst
 have hn9 : n < 65536 := by rw [hn]; exact Hd.num_lt _ _ _
 have hm9 : m < 65536 := by rw [hmm]; exact Hd.num_lt _ _ _
 have HNN := LH (fun _ : Unit => hn)
 have HMM := LH (fun _ : Unit => hmm)
 have HST := LH (fun _ : Unit => hst)
 have HS := LH hS
 clear hmm hst hu hn hres hS
 go_enter Tryz.func82,Tryz.ntmps82
 go_wp2_with fail
 go_loopw [16] (fun _ wr => ∃ q : Nat,Hid (q <= u /\ p <= q) /\ Hid (Ds K R s l N most wr q out) /\ Hid (Fr K w wr)) (fun _ wr => u - placeOf R wr)
 case atStart => exact ⟨p,⟨hu8.out.2.1,Nat.le_refl _⟩,HS.out,Fr.refl _ _⟩
 case round =>
  obtain ⟨q,HQ,KS,KF⟩ := hrel
  obtain ⟨ov,hx,_,_⟩ := KS.out.has
  obtain ⟨_,_,c2,_⟩ := jdi_cells hx
  have y2 := jdi_free hx 2
  have hqN : q <= N := KS.out.pn
  obtain ⟨r,hr⟩ : ∃ r,r = q % 8 := ⟨_,rfl⟩
  have hr8 : r < 8 := by omega
  have ht1 : (q : Int).tmod 8 = (r : Int) := by rw [Int.tmod_eq_emod_of_nonneg (by omega)]; omega
  have ht2 : (q : Int) % 8 = (r : Int) := by omega
  by_cases hlt : q = u
  ·obtain rfl : u = q := hlt.symm
   obtain rfl : r = 0 := by have := hu8.out.1; omega
   have hq1 := jget_any 16 KS.out hl hN (by omega)
   rw [<- HNN.out ()] at hq1
   have HQ1 := LH hq1
   clear hq1 hx y2 HNN HS HQ hlt hr KS
   go_wp2_with fail
   refine HQ1.out.mono ?_
   clear HQ1
   intro e w1 ho
   clear c2 ht1 ht2
   unfold numE at ho
   by_cases hE1 : N < u + 16
   ·rw [if_pos hE1] at ho
    obtain ⟨rfl,hf1⟩ := ho.bad (by decide)
    have hst := HST.out ()
    rw [if_pos (by rw [<- hl.out]; omega)] at hst
    subst hst
    have HF1 := LH (KF.out.trans hf1)
    clear ho hf1 HST
    go_wp2
    go_ret
    exact Jo.fault (by decide) HF1.out
   rw [if_neg hE1] at ho
   obtain ⟨rfl,hS1,hf1⟩ := ho.ok
   have HF2 := LH (KF.out.trans hf1)
   have hq2 := jget_any 16 hS1 hl hN (by omega)
   rw [<- HMM.out ()] at hq2
   have HQ2 := LH hq2
   clear ho hS1 hf1 hq2 HMM KF
   go_wp2_with fail
   refine HQ2.out.mono ?_
   clear HQ2
   intro e w2 ho
   unfold numE at ho
   by_cases hE2 : N < u + 16 + 16
   ·rw [if_pos hE2] at ho
    obtain ⟨rfl,hf1⟩ := ho.bad (by decide)
    have hst := HST.out ()
    rw [if_pos (by rw [<- hl.out]; omega)] at hst
    subst hst
    have HF1 := LH (HF2.out.trans hf1)
    clear ho hf1 HST
    go_wp2
    go_ret
    exact Jo.fault (by decide) HF1.out
   rw [if_neg hE2] at ho
   obtain ⟨rfl,hS3,hf3⟩ := ho.ok
   have HF3 := LH (HF2.out.trans hf3)
   have HS3 := LH hS3
   have hst := HST.out ()
   rw [if_neg (by rw [<- hl.out]; omega)] at hst
   have HST2 := LH (fun _ : Unit => hst)
   clear ho hS3 hf3 HF2 hst HST
   have hw1 : IntKind.i64.wrap ((n : Int) + (m : Int)) = ((n + m : Nat) : Int) := by rw [IntWalk.i64_in _ (by omega)]; norm_cast
   by_cases hE3 : n + m = 65535
   ·obtain rfl : m = 65535 - n := by omega
    have hand : bits .and .i64 (n : Int) ((65535 - n : Nat) : Int) = 0 := by
     have h := i64_and_nat n (65535 - n) (by omega) (by omega)
     rw [If.and_turned n hn9] at h
     exact h
    have e1 : (((n : Int) + ((65535 - n : Nat) : Int)) != 65535) = false := by rw [bne_eq_false_iff_eq]; omega
    have e2 : ((n + (65535 - n)) != 65535) = false := by rw [bne_eq_false_iff_eq]; omega
    have hst := HST2.out ()
    rw [if_neg (by rw [If.and_turned n hn9]; simp; omega)] at hst
    have HST3 := LH (fun _ : Unit => hst)
    clear hst HST2
    obtain ⟨ov,hx,hown,hnk⟩ := HS3.out.has
    obtain ⟨oa,oc,rfl⟩ := own_shape hown
    obtain ⟨_,c1,c2,c3,c4⟩ := jdi_cells hx
    obtain ⟨o,ho⟩ : ∃ o,o = out.length := ⟨_,rfl⟩
    have hle := HS3.out.le
    rw [<- ho] at c3 hle
    have hsub : IntKind.i64.wrap ((most : Int) - (o : Int)) = ((most - o : Nat) : Int) := by rw [IntWalk.i64_in _ (by omega)]; omega
    by_cases hE4 : most < o + n
    ·have d1 : decide (((most - o : Nat) : Int) < (n : Int)) = true := by simp; omega
     have d2 : decide (most - o < n) = true := by simp; omega
     have hst := HST3.out ()
     rw [if_pos (by rw [<- ho]; exact hE4)] at hst
     subst hst
     clear HST3 hx hown hnk ho
     go_wp2
     go_quiet (fail)
     go_wp2
     go_ret
     exact Jo.fault (by decide) (HF3.out.trans (Fr.of_below HS3.out.lt (below_drewN (Below.refl _ _) _)))
    ·have d1 : decide (((most - o : Nat) : Int) < (n : Int)) = false := by simp; omega
     have d2 : decide (most - o < n) = false := by simp; omega
     have hst := HST3.out ()
     rw [if_neg (by rw [<- ho]; exact hE4)] at hst
     have HST4 := LH (fun _ : Unit => hst)
     obtain ⟨v,hv⟩ : ∃ v,v = u + 16 + 16 := ⟨_,rfl⟩
     rw [<- hv] at c2 HS3 hx
     have hvN : v <= N := by omega
     obtain ⟨z,hz⟩ : ∃ z,z = 8 * n := ⟨_,rfl⟩
     have hz9 : z <= 600000 := by omega
     have hsub2 : IntKind.i64.wrap ((N : Int) - (v : Int)) = ((N - v : Nat) : Int) := by rw [IntWalk.i64_in _ (by omega)]; omega
     have hmul : IntKind.i64.wrap (8 * (n : Int)) = (z : Int) := by rw [IntWalk.i64_in _ (by omega)]; omega
     have HX := LH hx
     have HO := LH hown
     have HNK := LH hnk
     have HON := LH ho
     have HE4 := LH hE4
     have HV := LH (fun _ : Unit => hv)
     have HZ := LH (fun _ : Unit => hz)
     clear hst HST3 hx hown hnk ho hE4
     by_cases hE5 : N < v + z
     ·have d3 : decide (((N - v : Nat) : Int) < (z : Int)) = true := by simp; omega
      have d4 : decide (N - v < z) = true := by simp; omega
      have hst := HST4.out ()
      rw [if_pos (by rw [<- hl.out]; omega)] at hst
      subst hst
      clear HST4 hv hz
      go_wp2
      go_quiet (fail)
      go_wp2
      go_quiet (fail)
      go_wp2
      go_ret
      exact Jo.fault (by decide) (HF3.out.trans (Fr.of_below HS3.out.lt (below_drewN (Below.refl _ _) _)))
     ·have d3 : decide (((N - v : Nat) : Int) < (z : Int)) = false := by simp; omega
      have d4 : decide (N - v < z) = false := by simp; omega
      have hst := HST4.out ()
      rw [if_neg (by rw [<- hl.out]; omega)] at hst
      have HST5 := LH (fun _ : Unit => hst)
      obtain ⟨i,hi⟩ : ∃ i,i = u / 8 + 4 := ⟨_,rfl⟩
      have hi1 : (v : Int) / 8 = (i : Int) := by have := hu8.out.1; omega
      have hi2 : (v : Int).tdiv 8 = (i : Int) := by rw [Int.tdiv_eq_ediv_of_nonneg (by omega)]; exact hi1
      have hi9 : i + n <= 281474976710656 := by omega
      obtain ⟨j,hj⟩ : ∃ j,j = i + n := ⟨_,rfl⟩
      have hsum : IntKind.i64.wrap ((i : Int) + (n : Int)) = (j : Int) := by rw [IntWalk.i64_in _ (by omega)]; omega
      have hwi : IntKind.i64.wrap (i : Int) = (i : Int) := IntWalk.i64_in _ (by omega)
      have hjn : j - i = n := by omega
      have HJN := LH hjn
      have HJ : Hid (j = i + n) := hj
      have HI := LH (fun _ : Unit => hi)
      clear hst HST4 hv hz hi hj hjn
      go_wp2
      go_quiet (fail)
      generalize nq = nqa
      go_wp2
      go_quiet (fail)
      have HSW := LH (HS3.out.later (below_drewN (below_drewN (Below.refl _ w2) nqa) nq))
      have HFW : Hid (Fr K w ((w2.drewN nqa).drewN nq)) := HF3.out.trans (Fr.of_below HS3.out.lt (below_drewN (below_drewN (Below.refl _ _) _) _))
      have HXW : Hid (Has ((w2.drewN nqa).drewN nq) R (jdi s N v most (.slice oa out.length oc))) := HX.out
      have HOW : Hid (((w2.drewN nqa).drewN nq).ownsRow 0 5 1 (.slice oa out.length oc) out.length (vb out)) := HO.out
      generalize (w2.drewN nqa).drewN nq = W at HSW HFW HXW HOW ⊢
      clear c1 c2 c3 c4 HX HO HS3 HF3
      obtain ⟨sa,sl,sc,hse,hsl⟩ := HSW.out.sl.shape
      have hcp := hcap.out sa sl sc hse
      subst hse
      have hs1 := HSW.out.sl
      rw [Bs.pack_length] at hsl
      obtain ⟨b,off,rfl,hbl,_,_⟩ := hs1.at 0 (by have := hl.out; omega)
      have hij9 : i + n <= (l.length + 7) / 8 := by have := hl.out; have := h8.out; have := HI.out (); have := HV.out (); have := HZ.out (); have := hu8.out; clear hi1 hi2 hsum hwi hmul hsub hsub2 d1 d2 d3 d4 hw1 hand e1 e2; omega
      obtain ⟨A,hA⟩ : ∃ A,(if sc = i then some (⟨b,off,none⟩ : Addr) else some ⟨b,off + i,none⟩) = A := ⟨_,rfl⟩
      have hr : Sl W (.slice A (j - i) (sc - i)) ((List.range n).map fun k => Bs.byteAt l (i + k)) := by
       rw [HJN.out,<- hA]
       by_cases hic : sc = i
       ·obtain rfl : n = 0 := by have := HJ.out; omega
        rw [if_pos hic]
        refine ⟨_,0,sc - i,rfl,rfl,Nat.zero_le _,fun h => by simp at h,fun x hx => by simp at hx,fun h => absurd h (by omega)⟩
       ·rw [if_neg hic]
        exact sl_run hs1 i n (sc - i) (by omega)
      have h0j : (0 : Int) <= (j : Int) := by omega
      have h0i : (0 : Int) <= (i : Int) := by omega
      have hjc : (j : Int) <= (sc : Int) := by have := HJ.out; omega
      have hij : (i : Int) <= max (j : Int) 0 := by have := HJ.out; omega
      have hij2 : (i : Int) <= (j : Int) := by have := HJ.out; omega
      have hti : (i : Int).toNat = i := by omega
      have htj : (j : Int).toNat = j := by omega
      have hm0 : max (j : Int) 0 = (j : Int) := by omega
      clear hs1
      obtain ⟨c0,c1,c2,c3,c4⟩ := jdi_cells HXW.out
      have hlen9 : out.length + ((List.range n).map fun k => Bs.byteAt l (i + k)).length <= 100000 := by simp; have := HE4.out; have := HON.out; omega
      obtain ⟨v2,w5,hrun,hown2,hg2,hb2⟩ := run_app_out (w := W.drew) (v := .slice oa out.length oc) (out := out) 22 HOW.out.drew A (j - i) (sc - i) hr hlen9
      obtain ⟨a2,q2,k2,rfl⟩ : ∃ a q k,v2 = .slice a q k := by obtain ⟨a,c,h⟩ := own_shape hown2; exact ⟨a,_,c,h⟩
      have HRUN := LH hrun
      have hD := HSW.out
      have happ := Ds.app (W := W.drew) (hD.later (Below.refl _ _).drew) ((List.range n).map fun k => Bs.byteAt l (i + k)) (by simp; have := HE4.out; have := HON.out; omega) (fun x hx => by simp at hx; obtain ⟨k,_,rfl⟩ := hx; exact Bs.byteAt_lt _ _) (.slice oa out.length oc) HXW.out HOW.out.drew HNK.out hown2 hg2 hb2
      have HAPP := LH happ
      have hxa := (hg2.block R (show R < W.heap.size from HXW.out.lt) (fun e => ov_ne HXW.out HOW.out R e.symm rfl)).trans (show Has W.drew R _ from HXW.out)
      have y3 := jdi_free hxa 3
      obtain ⟨_,_,_,e3,_⟩ := jdi_cells hxa
      obtain ⟨ov9,hx9,_,_⟩ := happ.1.has
      obtain ⟨_,_,e9,_,_⟩ := jdi_cells hx9
      have y9 := jdi_free hx9 2
      have hfin : IntKind.i64.wrap ((v : Int) + (z : Int)) = ((v + z : Nat) : Int) := by rw [IntWalk.i64_in _ (by omega)]; norm_cast
      have HR := LH hr
      have HON2 := LH HON.out
      clear hr hrun hown2 hg2 hb2 happ hx9 hD hxa hij9 hlen9
      go_upto_region 15 with fail
      go_cut [93] from 70 to 95 (fun s93 wx => s93 = .slice a2 q2 k2 /\ wx = w5.setCell ⟨R,3,none⟩ (.slice a2 q2 k2))
      case first =>
       go_region_law (first | (refine step_append_known rfl (.tmp 74) (.tmp 92) 22 rfl _ _ _ w5 (by first | rfl | simp [Act.eval,go_sem]) (by first | rfl | simp [Act.eval,go_sem]) HRUN.out ?_))
       all_goals (go_wp2_with fail; go_meet; exact ⟨rfl,rfl⟩)
      case rest =>
       obtain ⟨rfl,rfl⟩ := hcut
       clear c0 c1 c2 c3 c4 y3 e3 HRUN
       go_wp2
       go_ret
       have hst := HST5.out ()
       have evz : v + z = u + 32 + 8 * n := by have := HV.out (); have := HZ.out (); omega
       rw [<- HI.out (),<- evz] at hst
       subst hst
       have h1 := HAPP.out.1
       exact Jo.intro (((HFW.out.trans (Fr.of_below HSW.out.lt (Below.refl _ _).drew)).trans HAPP.out.2).trans (h1.at_fr (v + z))) (h1.at (v + z) (by omega))
   ·have e1 : (((n : Int) + (m : Int)) != 65535) = true := by rw [bne_iff_ne]; omega
    have e2 : ((n + m) != 65535) = true := by rw [bne_iff_ne]; omega
    have hst := HST2.out ()
    rw [if_pos (Or.inl hE3)] at hst
    subst hst
    clear HST2 hE3
    go_wp2
    go_ret
    exact Jo.fault (by decide) HF3.out
  ·have d1 : ((r : Int) != 0) = true := by
    have h1 := hu8.out
    have h2 := HQ.out
    rw [bne_iff_ne]; omega
   have hws : IntKind.i64.wrap ((q : Int) + 1) = ((q + 1 : Nat) : Int) := by rw [IntWalk.i64_in _ (by omega)]; norm_cast
   have HA := LH (KS.out.at (q + 1) (by have := HQ.out; omega))
   have HFA := LH (KF.out.trans (KS.out.at_fr (q + 1)))
   have HPL := LH KS.out.place
   have HQ2 : Hid (q + 1 <= u /\ p <= q + 1) := by have := HQ.out; show _ /\ _; omega
   have HLT : Hid (q < u) := by have := HQ.out; show _ < _; omega
   clear hx KS KF HQ hlt hr
   go_wp2
   go_roundw
   case rel => exact ⟨q + 1,HQ2.out,by first | exact HA.out | exact (by norm_cast; exact HA.out),HFA.out⟩
   case measure => have h1 := HA.out.place; have h2 := HPL.out; have h3 := HLT.out; push_cast at h1; first | (rw [h1,h2]; omega) | omega
end Go.Proofs.YtmgpcbjciioiaaaGreatDoor
