import Derived.Test.YtckbhciehmokdaaGreatDoorJget
import Derived.Test.YtckbhciehmokdaaGreatDoorJfix
import Derived.Test.YtckbhciehmokdaaGreatDoorIcau
import Derived.Test.YtckbhciehmokdaaGreatDoorSrall
namespace Go.Proofs.YtckbhciehmokdaaGreatDoor
set_option maxRecDepth 100000
set_option maxHeartbeats 8000000
open Go.RowKit
theorem lbit_in (y : Nat) (h : 256 < y) (h2 : y < 286) : Sy.lbitA (y : Int) = (Sy.at' Sy.lb (y - 257),0) := by
 unfold Sy.lbitA
 rw [if_pos (by omega)]
 congr 2
 omega
theorem lnum_in (y v : Nat) (h : 256 < y) (h2 : y < 286) (hv : v < 2 ^ Sy.at' Sy.lb (y - 257)) : Sy.lnumA (y : Int) (v : Int) = (Sy.at' Sy.lf (y - 257) + v,0) := by
 have e4 : ((y : Int) - 257).toNat = (y - 257) := by omega
 unfold Sy.lnumA
 rw [if_pos (by omega),e4,if_pos ⟨by omega,by norm_cast⟩,Int.toNat_natCast]
theorem dbit_in (y : Nat) (h2 : y < 30) : Sy.dbitA (y : Int) = (Sy.at' Sy.db y,0) := by
 unfold Sy.dbitA
 rw [if_pos (by omega),Int.toNat_natCast]
theorem dnum_in (y v : Nat) (h2 : y < 30) (hv : v < 2 ^ Sy.at' Sy.db y) : Sy.dnumA (y : Int) (v : Int) = (Sy.at' Sy.df y + v,0) := by
 unfold Sy.dnumA
 rw [if_pos (by omega),Int.toNat_natCast,if_pos ⟨by omega,by norm_cast⟩,Int.toNat_natCast]
theorem cp_more (far n : Nat) (out : List Nat) : If.cp far (n + 1) out = If.cp far n (out ++ [out[out.length - far]?.getD 0]) := rfl
theorem sl_byte1 {w : World} {g x : Nat} (h : Has w g (.cells #[.int .u8 (x : Int)] 5 (0,0))) (hx : x < 256) : Sl w (.slice (some ⟨g,0,none⟩) 1 1) [x] :=
 ⟨_,1,1,rfl,rfl,by omega,fun h => by simp at h,fun z hz => by simp at hz; omega,fun _ => ⟨g,0,rfl,h.lt,fun i hi => by
  obtain rfl : i = 0 := by omega
  rw [h.cell]; rfl⟩⟩
theorem jcopied_any {K : Nat -> Prop} {R : Nat} {s : Value} {l : List Bool} {N most : Nat} {w : World} {p : Nat} {out : List Nat} (y : Nat) (hy : 256 < y) (dv : Value) (ls : List Nat) (hD : Zk K w dv ls) (hS : Ds K R s l N most w p out) (hl : Hid (N = l.length)) (hN : N <= 2251799813685248) (hm : most <= 65536) (res : List Nat × Nat × Int) (hres : Hid (Unit -> If.copy l ls most y p out = res)) :
  Calls Tryz.prog 124 #[.pointer (some ⟨R,0,none⟩),.int .i64 (y : Int),dv] w (Jo K w res.2.2 (.int .i64 0) (.int .i64 res.2.2) (fun w' => Ds K R s l N most w' res.2.1 res.1)) := by
 have hst := hres.out ()
 unfold If.copy at hst
 have HS := LH hS
 have HD := LH hD
 by_cases h1 : 286 <= y
 ·rw [if_pos h1] at hst
  subst hst
  have e2 : Sy.lbitA (y : Int) = (0,13) := by unfold Sy.lbitA; rw [if_neg (by omega)]
  have HB := LH (rlbit_go (y : Int) w)
  rw [e2] at HB
  clear hS hD hres e2 h1 hy
  go_enter Tryz.func124,Tryz.ntmps124
  go_wp2_with fail
  refine HB.out.mono ?_
  rintro e w1 ⟨rfl,hb1⟩
  have HB1 := LH hb1
  clear hb1
  go_wp2
  go_ret
  exact Jo.fault (by decide) (Fr.of_below HS.out.lt HB1.out)
 rw [if_neg h1] at hst
 have HB := LH (rlbit_go (y : Int) w)
 rw [lbit_in y hy (by omega)] at HB
 have HLN := LH (fun (v : Nat) (hv : v < 2 ^ Sy.at' Sy.lb (y - 257)) (W : World) => by have h := rlnum_go (y : Int) (v : Int) W (by have : 2 ^ Sy.at' Sy.lb (y - 257) <= 2 ^ 13 := Nat.pow_le_pow_right (by omega) ((by decide : ∀ i : Fin 29,Sy.at' Sy.lb i.1 <= 13) ⟨y - 257,by omega⟩); omega); rw [lnum_in y v hy (by omega) hv] at h; exact h)
 have hk9 : Sy.at' Sy.lb (y - 257) <= 13 := (by decide : ∀ i : Fin 29,Sy.at' Sy.lb i.1 <= 13) ⟨y - 257,by omega⟩
 have hlf := If.lf_ok ⟨y - 257,by omega⟩
 simp only at hlf
 generalize Sy.at' Sy.lb (y - 257) = k at hst HB HLN hk9 hlf
 generalize Sy.at' Sy.lf (y - 257) = f at hst HLN hlf
 have hv2 := Hd.num_lt l p k
 obtain ⟨v,hv⟩ : ∃ v,v = Hd.num l p k := ⟨_,rfl⟩
 have HG := LH (fun W (hb : Below w.heap.size w W) => jget_any k (HS.out.later hb) hl hN (by omega))
 rw [<- hv] at hst hv2 HG
 obtain ⟨n,hn⟩ : ∃ n,n = f + v := ⟨_,rfl⟩
 have HLV := LH (fun W => HLN.out v hv2 W)
 rw [<- hn] at hst HLV
 have hn9 : n <= 258 /\ 3 <= n := by omega
 have HST := LH (fun _ : Unit => hst)
 clear hst hS hD hres HLN hlf hv hn hv2 hy h1
 go_enter Tryz.func124,Tryz.ntmps124
 go_wp2_with fail
 refine HB.out.mono ?_
 clear HB
 rintro e w1 ⟨rfl,hb1⟩
 have HB1 := LH hb1
 clear hb1
 go_wp2_with fail
 refine (HG.out _ HB1.out).mono ?_
 clear HG
 intro e w2 ho
 have HF1 : Hid (Fr K w w1) := Fr.of_below HS.out.lt HB1.out
 unfold numE at ho
 by_cases hE1 : N < p + k
 ·rw [if_pos hE1] at ho
  obtain ⟨rfl,hf⟩ := ho.bad (by decide)
  have hst := HST.out ()
  rw [if_pos (by rw [<- hl.out]; exact hE1)] at hst
  subst hst
  have HF2 := LH (HF1.out.trans hf)
  clear ho hf HST
  go_wp2
  go_ret
  exact Jo.fault (by decide) HF2.out
 rw [if_neg hE1] at ho
 obtain ⟨rfl,hS2,hf⟩ := ho.ok
 have HF2 := LH (HF1.out.trans hf)
 have HS2 := LH hS2
 have hst := HST.out ()
 rw [if_neg (by rw [<- hl.out]; exact hE1)] at hst
 have HST2 := LH (fun _ : Unit => hst)
 clear ho hf hS2 hst HST HF1 HB1 hE1
 go_wp2_with fail
 refine (HLV.out _).mono ?_
 clear HLV
 rintro e w3 ⟨rfl,hb3⟩
 have HS3 := LH (HS2.out.later hb3)
 have HF3 := LH (HF2.out.trans (Fr.of_below HS2.out.lt hb3))
 clear hb3 HF2 HS2
 go_wp2_with fail
 refine (jnone_any ls dv _ (HD.out.fr HF3.out).zl).mono ?_
 rintro e w4 ⟨rfl,rfl⟩
 by_cases h0 : ∀ x ∈ ls,x = 0
 ·have d1 : decide (∀ x ∈ ls,x = 0) = true := decide_eq_true h0
  have hst := HST2.out ()
  rw [if_pos h0] at hst
  subst hst
  rw [d1]
  clear HST2 h0 d1
  go_wp2
  go_ret
  exact Jo.fault (by decide) HF3.out
 have d1 : decide (∀ x ∈ ls,x = 0) = false := decide_eq_false h0
 rw [d1]
 have hst := HST2.out ()
 rw [if_neg h0] at hst
 obtain ⟨rr,hrr⟩ : ∃ rr,Hd.rd ls l (p + k) = rr := ⟨_,rfl⟩
 rw [hrr] at hst
 obtain ⟨y2,q2,c2⟩ := rr
 simp only at hst
 have HY := LH (jsym_any dv ls (HD.out.fr HF3.out) (((HD.out).fit).resolve_left h0) HS3.out hl hN y2 q2 c2 hrr)
 have HST3 := LH (fun _ : Unit => hst)
 clear hst HST2 hrr d1 h0 HS3
 go_wp2_with fail
 refine HY.out.mono ?_
 clear HY
 intro e w5 ho
 by_cases hc : c2 ≠ 0
 ·obtain ⟨rfl,hf⟩ := ho.bad hc
  have hst := HST3.out ()
  rw [if_pos hc] at hst
  subst hst
  have e9 : (c2 != 0) = true := by rw [bne_iff_ne]; exact hc
  have HF4 := LH (HF3.out.trans hf)
  have HC := LH hc
  clear ho hf HST3 hc
  go_wp2
  go_ret
  exact Jo.fault HC.out HF4.out
 obtain rfl : c2 = 0 := by simpa using hc
 obtain ⟨rfl,hS5,hf⟩ := ho.ok
 have HF5 := LH (HF3.out.trans hf)
 have HS5 := LH hS5
 have hst := HST3.out ()
 rw [if_neg hc] at hst
 have HST4 := LH (fun _ : Unit => hst)
 clear ho hf hS5 hst HST3 HF3 hc
 by_cases h30 : 30 <= y2
 ·have hst := HST4.out ()
  rw [if_pos h30] at hst
  subst hst
  have e2 : Sy.dbitA (y2 : Int) = (0,13) := by unfold Sy.dbitA; rw [if_neg (by omega)]
  have HB := LH (rdbit_go (y2 : Int) w5)
  rw [e2] at HB
  clear HST4 e2 h30
  go_wp2_with fail
  refine HB.out.mono ?_
  rintro e w6 ⟨rfl,hb6⟩
  have HF6 := LH (HF5.out.trans (Fr.of_below HS5.out.lt hb6))
  clear hb6
  go_wp2
  go_ret
  exact Jo.fault (by decide) HF6.out
 have hst := HST4.out ()
 rw [if_neg h30] at hst
 have HB := LH (rdbit_go (y2 : Int) w5)
 rw [dbit_in y2 (by omega)] at HB
 have hk2 : Sy.at' Sy.db y2 <= 13 := (by decide : ∀ i : Fin 30,Sy.at' Sy.db i.1 <= 13) ⟨y2,by omega⟩
 have hdf := If.df_ok ⟨y2,by omega⟩
 simp only at hdf
 have HDN := LH (fun (v : Nat) (hv : v < 2 ^ Sy.at' Sy.db y2) (W : World) => by have h := rdnum_go (y2 : Int) (v : Int) W (by have : 2 ^ Sy.at' Sy.db y2 <= 2 ^ 13 := Nat.pow_le_pow_right (by omega) hk2; omega); rw [dnum_in y2 v (by omega) hv] at h; exact h)
 generalize Sy.at' Sy.db y2 = k2 at hst HB HDN hk2 hdf
 generalize Sy.at' Sy.df y2 = f2 at hst HDN hdf
 have hv2 := Hd.num_lt l q2 k2
 obtain ⟨v2,hv⟩ : ∃ v,v = Hd.num l q2 k2 := ⟨_,rfl⟩
 have HG := LH (fun W (hb : Below w5.heap.size w5 W) => jget_any k2 (HS5.out.later hb) hl hN (by omega))
 rw [<- hv] at hst hv2 HG
 obtain ⟨d,hd⟩ : ∃ d,d = f2 + v2 := ⟨_,rfl⟩
 have HDV := LH (fun W => HDN.out v2 hv2 W)
 rw [<- hd] at hst HDV
 have hd9 : d <= 32768 /\ 1 <= d := by omega
 have HST5 := LH (fun _ : Unit => hst)
 clear hst HST4 HDN hdf hv hd hv2 h30
 go_wp2_with fail
 refine HB.out.mono ?_
 clear HB
 rintro e w6 ⟨rfl,hb6⟩
 have HB6 := LH hb6
 have HF6 := LH (HF5.out.trans (Fr.of_below HS5.out.lt hb6))
 clear hb6 HF5
 go_wp2_with fail
 refine (HG.out _ HB6.out).mono ?_
 clear HG HB6
 intro e w7 ho
 unfold numE at ho
 by_cases hE2 : N < q2 + k2
 ·rw [if_pos hE2] at ho
  obtain ⟨rfl,hf⟩ := ho.bad (by decide)
  have hst := HST5.out ()
  rw [if_pos (by rw [<- hl.out]; exact hE2)] at hst
  subst hst
  have HF7 := LH (HF6.out.trans hf)
  clear ho hf HST5
  go_wp2
  go_ret
  exact Jo.fault (by decide) HF7.out
 rw [if_neg hE2] at ho
 obtain ⟨rfl,hS7,hf⟩ := ho.ok
 have HF7 := LH (HF6.out.trans hf)
 have HS7 := LH hS7
 have hst := HST5.out ()
 rw [if_neg (by rw [<- hl.out]; exact hE2)] at hst
 have HST6 := LH (fun _ : Unit => hst)
 clear ho hf hS7 hst HST5 HF6 hE2 HS5
 go_wp2_with fail
 refine (HDV.out _).mono ?_
 clear HDV
 rintro e w8 ⟨rfl,hb8⟩
 have HS8 := LH (HS7.out.later hb8)
 have HF8 := LH (HF7.out.trans (Fr.of_below HS7.out.lt hb8))
 clear hb8 HF7 HS7
 obtain ⟨ov,hx,hown,hnk⟩ := HS8.out.has
 obtain ⟨oa,oc,rfl⟩ := own_shape hown
 obtain ⟨_,_,c2,c3,c4⟩ := jdi_cells hx
 obtain ⟨o,ho⟩ : ∃ o,o = out.length := ⟨_,rfl⟩
 have hle := HS8.out.le
 rw [<- ho] at c3 hle
 have HO := LH ho
 clear hx hown hnk c2 ho
 by_cases hE3 : o < d
 ·have d1 : decide ((o : Int) < (d : Int)) = true := decide_eq_true (by omega)
  have d2 : decide (o < d) = true := decide_eq_true hE3
  have hst := HST6.out ()
  rw [if_pos (by rw [<- HO.out]; exact hE3)] at hst
  subst hst
  clear HST6
  go_wp2
  go_ret
  exact Jo.fault (by decide) HF8.out
 have d1 : decide ((o : Int) < (d : Int)) = false := decide_eq_false (by omega)
 have d2 : decide (o < d) = false := decide_eq_false hE3
 have hst := HST6.out ()
 rw [if_neg (by rw [<- HO.out]; exact hE3)] at hst
 have HST7 := LH (fun _ : Unit => hst)
 clear hst HST6
 have hsub : IntKind.i64.wrap ((most : Int) - (o : Int)) = ((most - o : Nat) : Int) := by rw [IntWalk.i64_in _ (by omega)]; omega
 by_cases hE4 : most < o + n
 ·have d3 : decide (((most - o : Nat) : Int) < (n : Int)) = true := by simp; omega
  have d4 : decide (most - o < n) = true := by simp; omega
  have hst := HST7.out ()
  rw [if_pos (by rw [<- HO.out]; exact hE4)] at hst
  subst hst
  clear HST7
  go_wp2
  go_quiet (fail)
  go_wp2
  go_ret
  exact Jo.fault (by decide) (HF8.out.trans (Fr.of_below HS8.out.lt (below_drewN (Below.refl _ _) _)))
 have d3 : decide (((most - o : Nat) : Int) < (n : Int)) = false := by simp; omega
 have d4 : decide (most - o < n) = false := by simp; omega
 have hst := HST7.out ()
 rw [if_neg (by rw [<- HO.out]; exact hE4)] at hst
 have HST8 := LH (fun _ : Unit => hst)
 clear hst HST7
 go_wp2
 go_quiet (fail)
 have HS9 := LH (HS8.out.later (below_drewN (Below.refl _ w8) nq))
 have HF9 := LH (HF8.out.trans (Fr.of_below HS8.out.lt (below_drewN (Below.refl _ w8) nq)))
 generalize w8.drewN nq = W at HS9 HF9 ⊢
 clear c3 c4 HS8 HF8 d1 d2 d3 d4 hsub
 have HD9 := LH hd9
 have HN9 := LH hn9
 have HE9 : Hid (o + n <= most /\ d <= o) := by show _ /\ _; omega
 clear hE3 hE4 hd9 hn9 hle
 go_wp2_with fail
 go_loopw [15] (fun s15 wr => ∃ (i : Nat) (ou : List Nat),s15 = .int .i64 (i : Int) /\ i <= n /\ Hid (Ds K R s l N most wr (q2 + k2) ou) /\ Hid (Fr K w wr) /\ Hid (ou.length = o + i) /\ Hid (Unit -> If.cp d (n - i) ou = If.cp d n out)) (fun s _ => n - (intOf s).toNat)
 case atStart => exact ⟨0,out,rfl,Nat.zero_le _,HS9.out,HF9.out,by show _ = _; rw [HO.out]; rfl,(fun _ => rfl : Unit -> _)⟩
 case round =>
  obtain ⟨i,ou,rfl,hi,KS,KF,KL,KC⟩ := hrel
  by_cases hlt : i < n
  ·have hn258 : n <= 258 := HN9.out.1
   obtain ⟨ov,hx,hown,hnk⟩ := KS.out.has
   have hL1 : 0 < ou.length := by have := KL.out; have := HD9.out; have := HE9.out; omega
   obtain ⟨g,gc,rfl⟩ : ∃ g c,ov = .slice (some ⟨g,0,none⟩) ou.length c := by
    rcases hown.2 with ⟨_,h0⟩ | ⟨g,cap,cur,rfl,_⟩
    ·omega
    ·exact ⟨g,cap,rfl⟩
   have hcell := hown.cells (g := g) rfl
   obtain ⟨m,hm2⟩ : ∃ m,m = ou.length - d := ⟨_,rfl⟩
   have hmL : m < ou.length := by have := HD9.out; omega
   obtain ⟨x,hxx⟩ : ∃ x,x = ou[m]?.getD 0 := ⟨_,rfl⟩
   have c5 : wr.cell? ⟨g,m,none⟩ = some (.int .u8 (x : Int)) := by
    have h := hcell m (.int .u8 (x : Int)) (by rw [vb_get,List.getElem?_eq_getElem hmL,hxx,List.getElem?_eq_getElem hmL]; rfl)
    by_cases hm0 : m = 0
    ·rw [hm0] at h ⊢; simpa [Addr.add] using h
    ·simpa [Addr.add,hm0] using h
   have hx8 : x < 256 := by
    rw [hxx,List.getElem?_eq_getElem hmL]
    exact KS.out.b8 _ (List.getElem_mem _)
   have hgl : g < wr.heap.size := (World.ownsRow.lt hown g (by simp [Value.ownBlock])).2
   obtain ⟨o1,ho1⟩ : ∃ o1,o1 = Obj.cells #[.int .u8 (x : Int)] 5 (0,0) := ⟨_,rfl⟩
   have hb1 := below1 wr (.cells #[.int .u8 (x : Int)] 5)
   have hSA := KS.out.later hb1.drew
   obtain ⟨_,_,_,c3,_⟩ := jdi_cells hx
   have hxA : Has (wr.alloc (.cells #[.int .u8 (x : Int)] 5)).drew R (jdi s N (q2 + k2) most (.slice (some ⟨g,0,none⟩) ou.length gc)) := hx.alloc _
   obtain ⟨_,_,_,e3,_⟩ := jdi_cells (hx.alloc (.cells #[.int .u8 (x : Int)] 5))
   have e5 : (wr.alloc (.cells #[.int .u8 (x : Int)] 5)).cell? ⟨g,m,none⟩ = some (.int .u8 (x : Int)) := (World.cell?_alloc_lt _ _ ⟨g,m,none⟩ hgl).trans c5
   have hownA : (wr.alloc (.cells #[.int .u8 (x : Int)] 5)).drew.ownsRow 0 5 1 (.slice (some ⟨g,0,none⟩) ou.length gc) ou.length (vb ou) := own_keep hown hb1.drew
   have hsl : Sl (wr.alloc (.cells #[.int .u8 (x : Int)] 5)).drew (.slice (some ⟨wr.heap.size,0,none⟩) 1 1) [x] := sl_byte1 (Has.new wr _) hx8
   have hle1 : ou.length + [x].length <= most := by have := KL.out; have := HE9.out; simp; omega
   obtain ⟨v9,w9,hrun,hown9,hg9,hb9⟩ := run_app_out 22 hownA (some ⟨wr.heap.size,0,none⟩) 1 1 hsl (by omega)
   obtain ⟨a9,n9,k9,rfl⟩ : ∃ a q k,v9 = .slice a q k := by obtain ⟨a,c,h⟩ := own_shape hown9; exact ⟨a,_,c,h⟩
   have HRUN := LH hrun
   have happ := Ds.app hSA [x] (by rw [List.length_append]; exact hle1) (fun z hz => by simp at hz; omega) _ hxA hownA hnk hown9 hg9 hb9
   have HAPP := LH happ.1
   have HFA := LH ((KF.out.trans (Fr.of_below KS.out.lt hb1.drew)).trans happ.2)
   have hx9 := (hg9.block R (by have := hx.lt; simp; omega) (fun e => ov_ne hx hown R e.symm rfl)).trans hxA
   obtain ⟨_,_,_,f3,_⟩ := jdi_cells hx9
   have y3 := jdi_free hx9 3
   have KL2 : Hid ((ou ++ [x]).length = o + (i + 1)) := by show _ = _; rw [List.length_append,KL.out]; rfl
   have KC2 : Hid (Unit -> If.cp d (n - (i + 1)) (ou ++ [x]) = If.cp d n out) := fun u => by
    have h := KC.out u
    obtain ⟨j,hj⟩ : ∃ j,n - i = j + 1 := ⟨n - i - 1,by omega⟩
    rw [hj,cp_more,<- hm2,<- hxx] at h
    rw [show n - (i + 1) = j by omega]
    exact h
   obtain ⟨L,hL⟩ : ∃ L,L = ou.length := ⟨_,rfl⟩
   have hLl : L <= 65536 := by rw [hL]; have := KS.out.le; omega
   have hsum : IntKind.i64.wrap ((L : Int) - (d : Int)) = (m : Int) := by rw [IntWalk.i64_in _ (by have := HD9.out; omega)]; have := HD9.out; have := KL.out; have := HE9.out; omega
   rw [<- hL] at c3 e3 hmL HRUN
   have i0 : (0 : Int) <= (m : Int) := by omega
   have i1 : (m : Int) < (L : Int) := by omega
   clear hx hown hnk hcell hxx hm2 hL1 ho1 o1 hb1 hSA hxA hownA hsl hle1 hrun hown9 hg9 hb9 happ hx9 hL KS KF KL KC hx8
   go_wp2_with fail
   go_region_law (first | (refine step_append_known rfl (.tmp 99) (.tmp 113) 22 rfl _ _ _ w9 (by first | rfl | simp [Act.eval,go_sem]) (by first | rfl | simp [Act.eval,go_sem]) HRUN.out ?_))
   all_goals
    clear c3 e3 f3 c5 e5 y3 HRUN
    go_wp2
    go_roundw
    case rel => exact ⟨i + 1,ou ++ [x],by go_num,by omega,HAPP.out,HFA.out,KL2.out,KC2.out⟩
    case measure => simp [intOf]; omega
  ·obtain rfl : i = n := by omega
   have hst := HST8.out ()
   have hc := KC.out ()
   rw [Nat.sub_self] at hc
   rw [<- hc] at hst
   simp only [If.cp] at hst
   have hS := KS.out
   have hF := KF.out
   subst hst
   have HS10 := LH hS
   have HF10 := LH hF
   clear KS KF KL KC HST8 hS hF hc
   go_wp2
   go_ret
   exact Jo.intro HF10.out HS10.out
end Go.Proofs.YtckbhciehmokdaaGreatDoor
