import Derived.Test.YtckbhciehmokdaaGreatDoorDlon
import Derived.Test.YtckbhciehmokdaaGreatDoorDrng
import Derived.Test.YtckbhciehmokdaaGreatDoorIstr2
import Derived.Test.YtckbhciehmokdaaGreatDoorJfix
import Derived.Test.YtckbhciehmokdaaGreatDoorMbad
import Derived.Test.YtckbhciehmokdaaGreatDoorIex
import Derived.Test.YtckbhciehmokdaaGreatDoorKrtake
namespace Go.Proofs.YtckbhciehmokdaaGreatDoor
set_option maxRecDepth 100000
set_option maxHeartbeats 8000000
section
open Go.RowKit Go.Shelf
attribute [local go_sem] Oper.semAt_some
def rn1 (o : Nat × Nat) : Array Value := #[.agg #[.int .i64 (o.1 : Int),.int .i64 (o.2 : Int)]]
def RnK (T b off cap : Nat) (ls : List Nat) (W : World) : Prop := Has W T (.cells #[.slice (some ⟨b,off,none⟩) ls.length cap] 57) /\ b < W.heap.size /\ ∀ j,j < ls.length -> W.cell? ⟨b,off + j,none⟩ = some (.int .i64 ((Rn.at1 ls j : Nat) : Int))
def rnL (ls : List Nat) : List (Nat × Nat) := Rn.ops ls (ls.length + 1) 0
theorem rn_step (ls : List Nat) (h15 : ∀ x ∈ ls,x <= 15) (F i at' : Nat) (h : (rnL ls).drop i = Rn.ops ls F at') (hF : ls.length < F + at') (hlt : at' < ls.length) :
  (rnL ls)[i]? = some (Rn.op ls at') /\ ∃ F',(rnL ls).drop (i + 1) = Rn.ops ls F' (at' + Rn.siz ls at') /\ ls.length < F' + (at' + Rn.siz ls at') /\ at' + Rn.siz ls at' <= ls.length := by
 obtain ⟨F',rfl⟩ : ∃ F',F = F' + 1 := ⟨F - 1,by omega⟩
 simp only [Rn.ops] at h
 rw [if_neg (by omega)] at h
 have hs := Rn.siz_le ls h15 at' hlt
 have hr := Rn.run_le ls at'
 have h0 : (rnL ls)[i]? = ((rnL ls).drop i)[0]? := by rw [List.getElem?_drop,Nat.add_zero]
 refine ⟨by rw [h0,h]; rfl,F',?_,by omega,by omega⟩
 rw [<- List.drop_drop,h]
 rfl
theorem rn_end (ls : List Nat) (F i at' : Nat) (h : (rnL ls).drop i = Rn.ops ls F at') (hF : ls.length < F + at') (hge : ls.length <= at') (hi : i <= (rnL ls).length) : i = (rnL ls).length := by
 have : Rn.ops ls F at' = [] := by
  cases F with
  | zero => rfl
  | succ F => simp only [Rn.ops]; rw [if_pos hge]
 rw [this] at h
 have := List.drop_eq_nil_iff.1 h
 omega
theorem runs_seq (ls : List Nat) (h15 : ∀ x ∈ ls,x <= 15) (hl : ls.length <= 1000) (T b off cap : Nat) (hcp : ls.length <= cap) : SeqKeep Tryz.prog 157 #[] #[.pointer (some ⟨T,0,none⟩)] ((rnL ls).map rn1) (RnK T b off cap ls) := by
 intro l J W hJ hK hY h0
 rw [List.length_map]
 show Calls Tryz.prog 157 #[.func (.yield l) #[] #[],.pointer (some ⟨T,0,none⟩)] W _
 have HLN := LH (fun (W' : World) (i : Nat) (hk : RnK T b off cap ls W') (hi : i < ls.length) => longest_is ls i ls.length b off cap W' rfl hi hl hcp hk.2.1 h15 hk.2.2)
 have HSZ := LH (fun (W' : World) (i : Nat) => size_run (Rn.sym ls i) (Rn.num ls i) (Nat.lt_of_lt_of_le (Rn.num_lt ls i) (by have := Hd.ex_le (Rn.sym ls i); exact Nat.pow_le_pow_right (by omega) this)) W')
 have HST := LH (fun F i at' => rn_step ls h15 F i at')
 have HEN := LH (fun F i at' => rn_end ls F i at')
 have HY' := LH (fun (i : Nat) (o : Nat × Nat) (h : (rnL ls)[i]? = some o) => hY i (rn1 o) (by rw [List.getElem?_map,h]; rfl))
 have HJ := LH hJ
 have HK := LH hK
 have H0 := LH h0
 obtain ⟨n,hn⟩ : ∃ n,n = ls.length := ⟨_,rfl⟩
 have HN := LH hn
 have HD0 : Hid ((rnL ls).drop 0 = Rn.ops ls (ls.length + 1) 0 /\ ls.length < ls.length + 1 + 0) := ⟨rfl,by omega⟩
 have hn9 : (n : Int) <= 1000 := by omega
 clear hY hJ hK h0 h15 hl hcp hn
 refine callsIn_wide (n := 9).1 ?_
 refine callsIn_of_wp Tryz.func157 rfl trivial ?_ rfl
 simp only [Tryz.ntmps157,List.size_toArray,List.length_cons,List.length_nil,Nat.reduceAdd,Nat.reduceSub,Array.replicate_succ,Array.replicate_zero,List.push_toArray,List.append_toArray,List.nil_append,List.cons_append]
 gi_wp2
 gi_loopw [3] (fun s3 wr => ∃ i F at' : Nat,s3 = .int .i64 (at' : Int) /\ at' <= n /\ Hid (i <= (rnL ls).length) /\ Hid ((rnL ls).drop i = Rn.ops ls F at' /\ ls.length < F + at') /\ Hid (J i wr) /\ Hid (W.heap.size <= wr.heap.size)) (fun s3 _ => n - (intOf s3).toNat)
 case atStart => exact ⟨0,_,0,rfl,Nat.zero_le _,Nat.zero_le _,HD0,H0,Nat.le_refl W.heap.size⟩
 case round =>
  obtain ⟨i,F,at',rfl,hat,KI,KD,KJ,KS⟩ := hrel
  have hk := HK.out i wr KJ.out
  have t0 := (hk.1.cell 0 : _ = some (Value.slice (some ⟨b,off,none⟩) ls.length cap))
  rw [<- HN.out] at t0
  by_cases hlt : at' < n
  ·have j0 : decide ((at' : Int) < (n : Int)) = true := decide_eq_true (by omega)
   obtain ⟨hop,F2,hd2,hF2,hle2⟩ := HST.out F i at' KD.out.1 KD.out.2 (by rw [<- HN.out]; exact hlt)
   have CL := LH (HLN.out wr at' hk (by rw [<- HN.out]; exact hlt))
   rw [<- HN.out] at CL
   have CS := LH (fun W' => HSZ.out W' at')
   have CY := LH (HY'.out i (Rn.op ls at') hop)
   unfold rn1 Rn.op at CY
   obtain ⟨sy,hsy⟩ : ∃ x,x = Rn.sym ls at' := ⟨_,rfl⟩
   obtain ⟨nu,hnu⟩ : ∃ x,x = Rn.num ls at' := ⟨_,rfl⟩
   obtain ⟨sz,hsz⟩ : ∃ x,x = Rn.siz ls at' := ⟨_,rfl⟩
   have hszd : Hd.least (Rn.sym ls at') + Rn.num ls at' = sz := by rw [hsz]; rfl
   rw [hszd] at CS
   rw [<- hsz] at hd2 hF2 hle2
   rw [<- hsy,<- hnu] at CL CS CY
   have HD2 := LH (And.intro hd2 hF2)
   have HI2 : Hid (i + 1 <= (rnL ls).length) := by have := (List.getElem?_eq_some_iff.1 hop).1; show _ <= _; omega
   have hle3 : at' + sz <= n := by rw [HN.out]; exact hle2
   have hszp : 1 <= sz := by
    rw [<- hszd]
    have := Hd.least_le (Rn.sym ls at')
    omega
   have sm : IntKind.i64.wrap ((at' : Int) + (sz : Int)) = ((at' + sz : Nat) : Int) := by rw [IntWalk.i64_in _ (by omega)]; omega
   clear hsy hnu hsz hszd hd2 hF2 hle2 hop hk
   gi_wp2_with fail
   refine ⟨trivial,(callsIn_wide.2 CL.out).mono ?_⟩
   clear CL
   rintro e w1 ⟨rfl,hb1⟩
   have hn1 : Has (w1.alloc (.cells #[.int .i64 (sy : Int),.int .i64 (nu : Int)] 165)) w1.heap.size (.cells #[.int .i64 (sy : Int),.int .i64 (nu : Int)] 165) := Has.new w1 _
   have hb2 : Below wr.heap.size wr (w1.alloc (.cells #[.int .i64 (sy : Int),.int .i64 (nu : Int)] 165)) := hb1.trans ((below1 w1 _).mono hb1.size)
   have hz2 : W.heap.size <= (w1.alloc (.cells #[.int .i64 (sy : Int),.int .i64 (nu : Int)] 165)).heap.size := Nat.le_trans KS.out hb2.size
   obtain ⟨fn,tmps,assign,body,hy,hR⟩ := CY.out _ (HJ.out i wr _ KJ.out KS.out hb2) hz2
   have HN1 := LH hn1
   have HZ1 := LH (Nat.le_trans KS.out hb1.size)
   have HZ2 := LH hz2
   clear hn1 hb2 hz2 hb1 t0 CY KJ KD KI
   gi_wp2
   refine (roundIn_wide hR).mono ?_
   rintro e W3 ⟨rfl,hu3,hj3⟩
   obtain ⟨r0,r1,-,-⟩ := (hu3.has HN1.out HZ1.out).two
   have KJ3 := LH hj3
   have KS3 := LH (Nat.le_trans HZ2.out hu3.size)
   have CS3 := LH (CS.out W3)
   clear hu3 hj3 hy hR CS HN1 HZ1 HZ2 KS
   gi_wp2_with fail
   refine ⟨trivial,(callsIn_wide.2 CS3.out).mono ?_⟩
   clear CS3
   rintro e W4 ⟨rfl,hb4⟩
   have KJ4 := LH (HJ.out (i + 1) W3 W4 KJ3.out KS3.out hb4)
   have KS4 := LH (Nat.le_trans KS3.out hb4.size)
   clear hb4 KJ3 KS3 r0 r1
   gi_wp2_with fail
   go_roundw
   case rel => exact ⟨i + 1,F2,at' + sz,by first | rfl | simp,by omega,HI2,HD2,KJ4,KS4⟩
   case measure => simp [intOf]; omega
  ·have hiL := HEN.out F i at' KD.out.1 KD.out.2 (by rw [<- HN.out]; omega) KI.out
   have j0 : decide ((at' : Int) < (n : Int)) = false := decide_eq_false (by omega)
   have KJ9 : Hid (J (rnL ls).length wr) := by show J _ _; rw [<- hiL]; exact KJ.out
   clear hiL hk KJ KD KI
   gi_wp2_with fail
   go_end0
   exact ⟨⟨_,rfl⟩,KJ9.out⟩
end
section
namespace Dp
def code7 (fs : List Nat) : List Nat := (List.range fs.length).map (Ls.Lm.len fs 7)
theorem code7_length (fs : List Nat) : (code7 fs).length = fs.length := by simp [code7]
theorem code7_ln (fs : List Nat) (i : Nat) (hi : i < fs.length) : Hf.ln (code7 fs) i = Ls.Lm.len fs 7 i := by simp [Hf.ln,code7,hi]
theorem code7_ge (fs : List Nat) (i : Nat) (h : fs.length <= i) : Hf.ln (code7 fs) i = 0 := by
 unfold Hf.ln; rw [List.getElem?_eq_none (by rw [code7_length]; exact h)]; rfl
theorem srt_few7 (fs : List Nat) (hl : fs.length <= 19) : (Ls.Lm.srt fs).length <= 2 ^ 7 := by
 rw [Ls.Lm.srt_length]
 have := Ls.Lm.usd_length fs fs.length
 have : (2 : Nat) ^ 7 = 128 := rfl
 omega
theorem code7_7 (fs : List Nat) (hl : fs.length <= 19) (i : Nat) : Hf.ln (code7 fs) i <= 7 := by
 by_cases h : i < fs.length
 ·rw [code7_ln fs i h]; exact Ls.Lm.len_le fs 7 (by omega) (srt_few7 fs hl) i
 ·rw [code7_ge fs i (by omega)]; omega
theorem code7_used (fs : List Nat) (hl : fs.length <= 19) (i : Nat) : Hf.ln (code7 fs) i ≠ 0 ↔ fs[i]?.getD 0 ≠ 0 := by
 rcases Nat.lt_or_ge i fs.length with hi | hi
 ·rw [code7_ln fs i hi]
  constructor
  ·intro h e
   exact h (Ls.Lm.len_unused fs 7 i (by omega) (srt_few7 fs hl) e)
  ·intro h
   have := Ls.Lm.len_used fs 7 i (by omega) (srt_few7 fs hl) hi h
   omega
 ·rw [code7_ge fs i hi,List.getElem?_eq_none hi]
  simp
theorem code7_tk (fs : List Nat) (n : Nat) (hn : n <= fs.length) : Hf.tk (code7 fs) (fun x => decide (0 < x)) n = Ls.Lm.sumTo (fun i => if 0 < Ls.Lm.len fs 7 i then 2 ^ (15 - Ls.Lm.len fs 7 i) else 0) n := by
 induction n with
 | zero => rfl
 | succ k ih =>
  simp only [Hf.tk,Ls.Lm.sumTo]
  rw [ih (by omega),code7_ln fs k (by omega)]
  simp
theorem code7_takes (fs : List Nat) (hl : fs.length <= 19) : takes (code7 fs) = if (Ls.Lm.srt fs).length < 2 then (Ls.Lm.srt fs).length * 16384 else 32768 := by
 have h1 := takes_tk (code7 fs) (fun i _ => Nat.le_trans (code7_7 fs hl i) (by omega)) (code7 fs).length (Nat.le_refl _)
 have h3 := code7_tk fs _ (Nat.le_refl _)
 rw [Ls.Lm.take15 fs 7 (by omega) (by omega) (srt_few7 fs hl)] at h3
 unfold takes
 rw [h1,code7_length,h3]
theorem code7_valid (fs : List Nat) (h0 : 0 < fs.length) (hl : fs.length <= 19) : Valid (Hd.zz (code7 fs)) := by
 refine ⟨by rw [Hd.zz_length,code7_length]; exact h0,by rw [Hd.zz_length,code7_length]; omega,fun i _ => ?_⟩
 rw [Hd.zz_get]
 have : (code7 fs)[i]?.getD 0 <= 7 := code7_7 fs hl i
 omega
theorem code7_new (fs : List Nat) (hl : fs.length <= 19) (i : Nat) (h : fs[i]?.getD 0 ≠ 0) : newE (Hd.zz (code7 fs)) = 0 := by
 have hi : i < fs.length := by
  rcases Nat.lt_or_ge i fs.length with h1 | h1
  ·exact h1
  ·rw [List.getElem?_eq_none h1] at h; exact absurd rfl h
 have hin := Ls.Lm.srt_in fs i hi h
 have hc : chk (Hd.zz (code7 fs)) = cmpr (if (Ls.Lm.srt fs).length < 2 then (Ls.Lm.srt fs).length * 16384 else 32768) := by
  unfold chk
  rw [if_pos (code7_valid fs (by omega) hl),Hd.nat_zz,code7_takes fs hl]
 unfold newE
 rw [hc,Hd.nat_zz]
 by_cases h2 : (Ls.Lm.srt fs).length < 2
 ·have hone := Ls.Lm.one_srt fs (by omega) _ hin
  have hlen1 : Hf.ln (code7 fs) i = 1 := by
   rw [code7_ln fs i hi]; exact Ls.Lm.len_lone fs 7 (by omega) _ hin
  have honly : ∀ x,Hf.ln (code7 fs) x ≠ 0 -> x = i := fun x hx => by
   have h3 := (code7_used fs hl x).1 hx
   have hxl : x < fs.length := by
    rcases Nat.lt_or_ge x fs.length with h1 | h1
    ·exact h1
    ·rw [List.getElem?_eq_none h1] at h3; exact absurd rfl h3
   have h4 := Ls.Lm.srt_in fs x hxl h3
   rw [hone,List.mem_singleton] at h4
   exact (Prod.mk.inj h4).2
  have hib : i < (code7 fs).length := by rw [code7_length]; exact hi
  have hlone : Lone (code7 fs) := by
   obtain ⟨k,hk,hki⟩ := Hf.sy_of (code7 fs) i hib (by omega) (by omega)
   have hall : ∀ j,j < (Hf.ordl (code7 fs)).length -> Hf.sy (code7 fs) j = i := fun j hj => honly _ (by have := (Hf.sy_mem (code7 fs) j hj).2.1; omega)
   have e1 : (Hf.ordl (code7 fs)).length = 1 := by
    rcases Nat.lt_or_ge 1 (Hf.ordl (code7 fs)).length with h1 | h1
    ·have := Hf.sy_inj (code7 fs) 0 1 (by omega) h1 ((hall 0 (by omega)).trans (hall 1 h1).symm)
     omega
    ·omega
   exact ⟨e1,by rw [hall 0 (by omega)]; exact hlen1⟩
  rw [hone]
  rw [if_pos ⟨rfl,hlone⟩]
 ·rw [if_neg h2]
  rfl
def rfq (ls : List Nat) (i : Nat) : List Nat := (List.range 19).map fun s => (((rnL ls).take i).map Prod.fst).count s
theorem rfq_length (ls : List Nat) (i : Nat) : (rfq ls i).length = 19 := by simp [rfq]
theorem rfq_get (ls : List Nat) (i s : Nat) (h : s < 19) : (rfq ls i)[s]?.getD 0 = (((rnL ls).take i).map Prod.fst).count s := by simp [rfq,h]
theorem rfq_zero (ls : List Nat) : rfq ls 0 = List.replicate 19 0 := by
 apply List.ext_getElem (by simp [rfq]) fun i h1 h2 => by rw [List.getElem_replicate]; simp [rfq]
theorem rfq_succ (ls : List Nat) (i : Nat) (o : Nat × Nat) (h : (rnL ls)[i]? = some o) : rfq ls (i + 1) = (rfq ls i).set o.1 ((rfq ls i)[o.1]?.getD 0 + 1) := by
 have hi := (List.getElem?_eq_some_iff.1 h).1
 have et : (rnL ls).take (i + 1) = (rnL ls).take i ++ [o] := by rw [List.take_add_one,h]; rfl
 apply List.ext_getElem?
 intro s
 by_cases hs : s < 19
 ·have e1 : (rfq ls (i + 1))[s]? = some ((rfq ls (i + 1))[s]?.getD 0) := by rw [List.getElem?_eq_getElem (by rw [rfq_length]; exact hs)]; rfl
  rw [e1,rfq_get _ _ _ hs,et,List.map_append,List.count_append]
  by_cases e : o.1 = s
  ·subst e
   rw [List.getElem?_set_self (by rw [rfq_length]; exact hs),rfq_get _ _ _ hs]
   simp
  ·rw [List.getElem?_set_ne e]
   have e2 : (rfq ls i)[s]? = some ((rfq ls i)[s]?.getD 0) := by rw [List.getElem?_eq_getElem (by rw [rfq_length]; exact hs)]; rfl
   rw [e2,rfq_get _ _ _ hs]
   simp [e]
 ·rw [List.getElem?_eq_none (by rw [rfq_length]; omega),List.getElem?_eq_none (by rw [List.length_set,rfq_length]; omega)]
theorem rfq_le (ls : List Nat) (i s : Nat) : (rfq ls i)[s]?.getD 0 <= (rnL ls).length := by
 by_cases hs : s < 19
 ·rw [rfq_get _ _ _ hs]
  refine Nat.le_trans List.count_le_length ?_
  simp
  exact Nat.min_le_right _ _
 ·rw [List.getElem?_eq_none (by rw [rfq_length]; omega)]; exact Nat.zero_le _
theorem ops_few (ls : List Nat) (h15 : ∀ x ∈ ls,x <= 15) : ∀ (k i : Nat),i <= ls.length -> (Rn.ops ls k i).length + i <= ls.length
 | 0,i,h => by simpa [Rn.ops] using h
 | k + 1,i,h => by
  simp only [Rn.ops]
  by_cases e : ls.length <= i
  ·rw [if_pos e]; simpa using h
  ·rw [if_neg e]
   have hs := Rn.siz_le ls h15 i (by omega)
   have hr := Rn.run_le ls i
   have := ops_few ls h15 k (i + Rn.siz ls i) (by omega)
   simp only [List.length_cons]
   omega
theorem rnL_few (ls : List Nat) (h15 : ∀ x ∈ ls,x <= 15) : (rnL ls).length <= ls.length := by
 have := ops_few ls h15 (ls.length + 1) 0 (Nat.zero_le _)
 unfold rnL
 omega
theorem rnL_lt (ls : List Nat) (h15 : ∀ x ∈ ls,x <= 15) : ∀ o ∈ rnL ls,o.1 < 19 := Rn.ops_lt ls h15 _ _
theorem rnL_fit (ls : List Nat) : ∀ (k i : Nat),∀ o ∈ Rn.ops ls k i,o.2 < 2 ^ Hd.ex o.1
 | 0,_,o,h => nomatch h
 | k + 1,i,o,h => by
  simp only [Rn.ops] at h
  by_cases e : ls.length <= i
  ·rw [if_pos e] at h; exact nomatch h
  ·rw [if_neg e] at h
   rcases List.mem_cons.1 h with rfl | h
   ·exact Rn.num_lt ls i
   ·exact rnL_fit ls k _ o h
theorem head_hv (L D : List Nat) (hL1 : 257 <= L.length) (hL2 : L.length <= 286) (hD1 : 1 <= D.length) (hD2 : D.length <= 30) (h15 : ∀ x ∈ L ++ D,x <= 15) (C : List Nat) (hC : C = code7 (rfq (L ++ D) (rnL (L ++ D)).length))
  (c : Nat) (hc4 : 4 <= c) (hc19 : c <= 19) (hcz : ∀ k,c <= k -> k < 19 -> Hf.ln C (Hd.ord k) = 0) : If.HV L D C c (rnL (L ++ D)) /\ Fit (Hd.zz C) /\ ∀ o ∈ rnL (L ++ D),Hf.ln C o.1 ≠ 0 := by
 have hfl := rfq_length (L ++ D) (rnL (L ++ D)).length
 have hused : ∀ o ∈ rnL (L ++ D),Hf.ln C o.1 ≠ 0 := fun o ho => by
  rw [hC]
  refine (code7_used _ (by rw [hfl]; exact Nat.le_refl _) _).2 ?_
  rw [rfq_get _ _ _ (rnL_lt _ h15 o ho),List.take_length]
  have : 0 < ((rnL (L ++ D)).map Prod.fst).count o.1 := List.count_pos_iff.2 (List.mem_map_of_mem ho)
  omega
 have hne : ∃ o,o ∈ rnL (L ++ D) := by
  have h1 : rnL (L ++ D) = Rn.op (L ++ D) 0 :: Rn.ops (L ++ D) (L ++ D).length (0 + Rn.siz (L ++ D) 0) := by
   unfold rnL
   simp only [Rn.ops]
   rw [if_neg (by rw [List.length_append]; omega)]
  rw [h1]
  exact ⟨_,List.mem_cons_self ..⟩
 obtain ⟨o,ho⟩ := hne
 have hnew : newE (Hd.zz C) = 0 := by
  have h1 := hused o ho
  rw [hC] at h1 ⊢
  exact code7_new _ (by rw [hfl]; exact Nat.le_refl _) o.1 ((code7_used _ (by rw [hfl]; exact Nat.le_refl _) _).1 h1)
 refine ⟨⟨hL1,hL2,hD1,hD2,hc4,hc19,fun i => by rw [hC]; have := code7_7 _ (by rw [hfl]; exact Nat.le_refl _) i; omega,by rw [hC,code7_length,hfl],hcz,hnew,?_,?_⟩,If.fit_of_newE hnew,hused⟩
 ·exact Rn.ops_ov (L ++ D) C h15 _ 0 (Nat.zero_le _) hused
 ·exact Rn.ops_told (L ++ D) h15 _ 0 (by omega) (Nat.zero_le _)
end Dp
end
section
open Go.RowKit Go.Shelf
attribute [local go_sem] Oper.semAt_some
theorem runs_is (a : Option Addr) (n c : Nat) (w : World) : Calls Tryz.prog 117 #[.slice a n c] w fun e w' => e = .returned (.func (.func 157) #[] #[.pointer (some ⟨w.heap.size,0,none⟩)]) /\ w' = w.alloc (.cells #[.slice a n c] 57) := by
 have hmf : ∀ (fn : Fn) (first cap : Array Value) (w : World),(Instr.makeFunc fn first cap).run Tryz.prog w = .ok (.func fn first cap) w := fun _ _ _ _ => rfl
 go_enter Tryz.func117,Tryz.ntmps117
 go_wp2
 go_ret
 exact ⟨rfl,rfl⟩
def WrL (b : Nat) (W : World) (R : Nat) (l : List Bool) : Prop := ∃ a m c,Has W R (.cells #[.slice a m c,.int .i64 (l.length : Int)] 116) /\ Sl W (.slice a m c) (Bs.pack l) /\ ∀ g off sp,a = some ⟨g,off,sp⟩ -> g < b ∨ b + 2 <= g
theorem WrL.wr {b : Nat} {W : World} {R : Nat} {l : List Bool} (h : WrL b W R l) : Wr W R l := by
 obtain ⟨a,m,c,h1,h2,_⟩ := h
 exact ⟨a,m,c,h1,h2⟩
theorem sl_block {w w' : World} {a : Option Addr} {n cap : Nat} {bs : List Nat} (h : Sl w (.slice a n cap) bs) (hs : ∀ g off,a = some ⟨g,off,none⟩ -> g < w.heap.size -> w'.heap[g]? = w.heap[g]?) : Sl w' (.slice a n cap) bs := by
 obtain ⟨a',len,c,e,h1,h2,h3,h4,h5⟩ := h
 injection e with e1 e2 e3
 subst e1 e2 e3
 refine ⟨_,_,_,rfl,h1,h2,h3,h4,fun h0 => ?_⟩
 obtain ⟨b,off,e,hl,hc⟩ := h5 h0
 have he := hs b off e hl
 exact ⟨b,off,e,(Array.getElem?_eq_some_iff.1 (he.trans (Array.getElem?_eq_getElem hl))).1,fun i hi => (World.cell?_of_block (a := ⟨b,off + i,none⟩) he).trans (hc i hi)⟩
theorem WrL.lo {b : Nat} {A B : World} {R : Nat} {l : List Bool} (h : WrL b A R l) (hl : Lo b 2 A B) (hR : R < b) : WrL b B R l := by
 obtain ⟨a,m,c,h1,h2,h3⟩ := h
 exact ⟨a,m,c,hl.has h1 (Or.inl hR),sl_block h2 fun g off e hg => hl.block g hg (h3 g off none e),h3⟩
theorem Wr.toL {b : Nat} {W : World} {R : Nat} {l : List Bool} (h : Wr W R l) (h0 : 0 < l.length) (hb : W.heap.size <= b) : WrL b W R l := by
 obtain ⟨a,m,c,h1,h2⟩ := h
 refine ⟨a,m,c,h1,h2,fun g off sp e => ?_⟩
 have hm := h2.len.1
 rw [Bs.pack_length] at hm
 obtain ⟨a',len,c',e',-,-,-,-,h5⟩ := h2
 injection e' with e1 e2 e3
 subst e1 e2 e3
 obtain ⟨b',off',e2,hl,-⟩ := h5 (by omega)
 rw [e] at e2
 injection e2 with e2
 injection e2 with e3 _ _
 omega
theorem WrN.toL {b B : Nat} {W : World} {R : Nat} {l : List Bool} (h : WrN B W R l) (hb : b + 2 <= B) : WrL b W R l := by
 obtain ⟨g,m,c,h1,h2,h3⟩ := h
 refine ⟨_,m,c,h1,h2,fun g' off sp e => ?_⟩
 injection e with e
 injection e with e _ _
 omega
theorem Wr.put {W : World} {R k : Nat} {l : List Bool} (h : Wr W R l) (hR : R ≠ k) (o : Obj) (hno : ∀ cs t fr,W.heap[k]? ≠ some (.cells cs t fr)) (h0 : 0 < l.length) : Wr (W.putObj k o) R l := by
 obtain ⟨a,m,c,h1,h2⟩ := h
 refine ⟨a,m,c,(World.putObj_heap_other hR).trans h1,sl_block h2 fun g off e hg => World.putObj_heap_other fun e2 => ?_⟩
 subst e2
 have hm := h2.len.1
 rw [Bs.pack_length] at hm
 obtain ⟨a',len,c',e',-,-,-,-,h5⟩ := h2
 injection e' with e1 e2 e3
 subst e1 e2 e3
 obtain ⟨b',off',e2,hl,hc⟩ := h5 (by omega)
 rw [e] at e2
 injection e2 with e2
 injection e2 with e3 e4 _
 subst e3
 have := hc 0 (by omega)
 unfold World.cell? at this
 cases hh : W.heap[g]? with
 | none => simp [hh] at this
 | some ob =>
  cases ob with
  | cells cs t fr => exact hno cs t fr hh
  | _ => simp [hh] at this
theorem only_put {R k : Nat} {w W : World} (h : Only R w W) (hk : w.heap.size <= k) (o : Obj) : Only R w (W.putObj k o) := ⟨h.os,h.tape,h.output,by simpa using h.size,fun i hi hn => (World.putObj_heap_other (by omega)).trans (h.block i hi hn)⟩
theorem Only.trans9 {R b : Nat} {w A B : World} (h : Only R w A) (hl : Lo b 2 A B) (hb : w.heap.size <= b) : Only R w B := ⟨hl.os.trans h.os,hl.tape.trans h.tape,hl.output.trans h.output,Nat.le_trans h.size hl.size,fun k hk hn => (hl.block k (Nat.lt_of_lt_of_le hk h.size) (Or.inl (by omega))).trans (h.block k hk hn)⟩
theorem opsRow_le (C : List Nat) (h7 : ∀ i,Hf.ln C i <= 7) : ∀ ops : List (Nat × Nat),(If.opsRow C ops).length <= 14 * ops.length
 | [] => Nat.zero_le _
 | o :: ops => by
  have ih := opsRow_le C h7 ops
  have h1 := h7 o.1
  have h2 := Hd.ex_le o.1
  rw [If.opsRow_cons,List.length_append]
  unfold If.opRow
  rw [List.length_append,cw_len,Bs.bitsOf_length,List.length_cons]
  omega
theorem made19 : madeCells #[Value.int .i64 0] 19 = (vn (List.replicate 19 0)).toArray := by
 apply Array.toList_inj.1
 rw [toList_madeCells_one]
 simp [vn]
theorem own_nat {w : World} {base : Nat} {v : Value} {ls : List Nat} (h : Own base w v ls) (h0 : 0 < ls.length) : ∃ g c,v = .slice (some ⟨g,0,none⟩) ls.length c /\ ls.length <= c /\ base <= g /\ Nat9 w g 0 ls := by
 obtain ⟨g,c,rfl,hb,hg,hc⟩ := own_ints h h0
 refine ⟨g,c,rfl,?_,hb,hg,fun j hj => by rw [Nat.zero_add]; exact hc j hj⟩
 rcases h.2 with ⟨e,_⟩ | ⟨g',cap',cur,e,h1,h2,h3,h4,_⟩
 ·injection e with e1 e2 e3; cases e1
 ·injection e with e1 e2 e3
  omega
theorem wheader_ok (R : Nat) (L D : List Nat) (bL oL kL bD oD kD : Nat) (w : World) (h : Wr w R []) (hgl : Glob w) (hgR : 1 ≠ R)
  (hL : Nat9 w bL oL L) (hD : Nat9 w bD oD D) (hL1 : 257 <= L.length) (hL2 : L.length <= 286) (hD1 : 1 <= D.length) (hD2 : D.length <= 30) (h15 : ∀ x ∈ L ++ D,x <= 15) :
  Calls Tryz.prog 79 #[.pointer (some ⟨R,0,none⟩),.slice (some ⟨bL,oL,none⟩) L.length kL,.slice (some ⟨bD,oD,none⟩) D.length kD] w fun e w' => e = .returned (.tuple #[]) /\ ∃ C c,If.HV L D C c (rnL (L ++ D)) /\ Wr w' R (If.headRow L D C c (rnL (L ++ D))) /\ Only R w w' := by
 have hmk : ∀ w,(Instr.makeSlice 57 (.int .i64 19) (.int .i64 19)).run Tryz.prog w = .ok (.slice (some ⟨w.heap.size,0,none⟩) 19 19) (w.alloc (.cells (madeCells #[.int .i64 0] 19) 3)) :=
  fun w => run_make_row' (P := Tryz.prog) 57 3 (.int .i64 0) 8 Tryz.underlying57 Tryz.infoInt rfl .i64 .i64 19 (by omega) (by omega) w
 obtain ⟨ls,hls⟩ : ∃ x,x = L ++ D := ⟨_,rfl⟩
 have hlen : ls.length = L.length + D.length := by rw [hls,List.length_append]
 obtain ⟨nl,hnl⟩ : ∃ x,x = L.length := ⟨_,rfl⟩
 obtain ⟨nd,hnd⟩ : ∃ x,x = D.length := ⟨_,rfl⟩
 obtain ⟨W1,hW1⟩ : ∃ W,W = (w.alloc (.cells #[.pointer (some ⟨R,0,none⟩)] 160)).alloc (.cells #[.slice (some ⟨bL,oL,none⟩) nl kL,.slice (some ⟨bD,oD,none⟩) nd kD] 57) := ⟨_,rfl⟩
 have hb1 : Below w.heap.size w W1 := by rw [hW1]; exact (below1 w _).trans ((below1 _ _).mono (by simp))
 have hs1 : W1.heap.size = w.heap.size + 2 := by rw [hW1]; simp
 have hC1 : Has W1 (w.heap.size + 1) (.cells #[.slice (some ⟨bL,oL,none⟩) nl kL,.slice (some ⟨bD,oD,none⟩) nd kD] 57 (0,0)) := by
  rw [hW1]
  have := Has.new (w.alloc (.cells #[.pointer (some ⟨R,0,none⟩)] 160)) (.cells #[.slice (some ⟨bL,oL,none⟩) nl kL,.slice (some ⟨bD,oD,none⟩) nd kD] 57)
  rwa [show (w.alloc (.cells #[.pointer (some ⟨R,0,none⟩)] 160)).heap.size = w.heap.size + 1 by simp] at this
 have hX1 : Has W1 w.heap.size (.cells #[.pointer (some ⟨R,0,none⟩)] 160 (0,0)) := by
  rw [hW1]
  exact (Has.new w _).later (below1 _ _)
 have CC := LH (concat2 (w.heap.size + 1) bL oL nl kL bD oD nd kD L D W1 hC1 (hL.later hb1) (hD.later hb1) hnl hnd (by omega) (by omega) (by omega) (by omega))
 rw [<- hls] at CC
 rw [<- hnl,<- hnd]
 have V1 := LH hW1
 have HB1 := LH hb1
 have HX1 := LH hX1
 have HS1 := LH hs1
 have HW := LH h
 have HG := LH hgl
 have HLS := LH (And.intro hls hlen)
 have HH15 : Hid (∀ x ∈ ls,x <= 15) := by show ∀ x ∈ ls,x <= 15; rw [hls]; exact h15
 have HNL := LH (And.intro hnl hnd)
 have HNN := LH (show 257 <= nl /\ nl <= 286 /\ 1 <= nd /\ nd <= 30 by omega)
 clear h hgl hL hD hL1 hL2 hD1 hD2 h15 hls hlen hnl hnd hW1 hb1 hs1 hC1 hX1
 refine callsIn_wide (n := 9).1 ?_
 refine callsIn_of_wp_marks Tryz.func79 rfl trivial ?_ rfl
 simp only [Tryz.ntmps79,List.size_toArray,List.length_cons,List.length_nil,Nat.reduceAdd,Nat.reduceSub,Array.replicate_succ,Array.replicate_zero,List.push_toArray,List.append_toArray,List.nil_append,List.cons_append]
 gi_wp2_with fail
 rw [<- V1.out]
 refine ⟨trivial,(callsIn_wide.2 CC.out).mono ?_⟩
 clear CC V1
 rintro e w2 ⟨v2,rfl,hown,hb2⟩
 obtain ⟨g,cg,rfl,hcg,hgb,hgn⟩ := own_nat hown (by rw [HLS.out.2]; have := HNN.out; have := HNL.out; omega)
 have HB2 := LH (HB1.out.trans (hb2.mono HB1.out.size))
 have HX2 := LH (HX1.out.later hb2)
 have HGN := LH hgn
 have HCG := LH (And.intro hcg hgb)
 clear hown hb2 hcg hgb hgn
 have F5 := Has.new w2 (nums (Dp.rfq ls 0))
 obtain ⟨w5,hw5⟩ : ∃ W,W = ((w2.alloc (.cells (madeCells #[.int .i64 0] 19) 3)).alloc (.cells #[.slice (some ⟨w2.heap.size,0,none⟩) 19 19] 57)).alloc (.cells #[.slice (some ⟨g,0,none⟩) ls.length cg] 57) := ⟨_,rfl⟩
 obtain ⟨Q1,hQ1⟩ : ∃ W,W = w2.alloc (.cells (madeCells #[.int .i64 0] 19) 3) := ⟨_,rfl⟩
 obtain ⟨Q2,hQ2⟩ : ∃ W,W = Q1.alloc (.cells #[.slice (some ⟨w2.heap.size,0,none⟩) 19 19] 57) := ⟨_,rfl⟩
 have z1 : Q1.heap.size = w2.heap.size + 1 := by rw [hQ1]; simp
 have z2 : Q2.heap.size = w2.heap.size + 2 := by rw [hQ2]; simp [z1]
 have F1 : Has Q1 w2.heap.size (nums (Dp.rfq ls 0)) := by rw [hQ1,Dp.rfq_zero,made19]; exact Has.new w2 _
 have T1 : Has Q2 (w2.heap.size + 1) (.cells #[.slice (some ⟨w2.heap.size,0,none⟩) 19 19] 57) := by rw [hQ2,<- z1]; exact Has.new Q1 _
 have hw5' : w5 = Q2.alloc (.cells #[.slice (some ⟨g,0,none⟩) ls.length cg] 57) := by rw [hw5,hQ2,hQ1]
 have hz5 : w5.heap.size = w2.heap.size + 3 := by rw [hw5']; simp [z2]
 have i1 : Has w5 w2.heap.size (nums (Dp.rfq ls 0)) := by rw [hw5',hQ2]; exact (F1.later (below1 _ _)).later (below1 _ _)
 have i2 : Has w5 (w2.heap.size + 1) (.cells #[.slice (some ⟨w2.heap.size,0,none⟩) 19 19] 57) := by rw [hw5']; exact T1.later (below1 _ _)
 have i3 : Has w5 (w2.heap.size + 2) (.cells #[.slice (some ⟨g,0,none⟩) ls.length cg] 57) := by rw [hw5',<- z2]; exact Has.new Q2 _
 have b5 : Below w2.heap.size w2 w5 := by rw [hw5',hQ2,hQ1]; exact (below1 w2 _).trans (((below1 _ _).mono (by simp)).trans ((below1 _ _).mono (by simp; omega)))
 have hgl2 : g < w2.heap.size := HGN.out.1
 have I0 : Hid (Has w5 w2.heap.size (nums (Dp.rfq ls 0)) /\ Has w5 (w2.heap.size + 1) (.cells #[.slice (some ⟨w2.heap.size,0,none⟩) 19 19] 57) /\ RnK (w2.heap.size + 2) g 0 cg ls w5 /\ Below w2.heap.size w2 w5) := ⟨i1,i2,⟨i3,Nat.lt_of_lt_of_le hgl2 b5.size,fun j hj => (b5.cell (p := ⟨g,0 + j,none⟩) hgl2).trans (HGN.out.2 j hj)⟩,b5⟩
 have V5 := LH hw5
 have HZ5 := LH hz5
 clear hw5 hQ1 hQ2 z1 z2 F1 T1 hw5' hz5 i1 i2 i3 b5 F5
 gi_wp2_with fail
 refine ⟨trivial,(callsIn_wide.2 (runs_is _ _ _ _)).mono ?_⟩
 rintro e w5x ⟨rfl,rfl⟩
 gi_wp2_with fail
 have hz5 := HZ5.out
 have hgl2 : g < w2.heap.size := HGN.out.1
 have HSEQ := LH (runs_seq ls HH15.out (by rw [HLS.out.2]; have := HNN.out; have := HNL.out; omega) (w2.heap.size + 2) g 0 cg HCG.out.1)
 have HLT := LH (Dp.rnL_lt ls HH15.out)
 have HFW := LH (Dp.rnL_few ls HH15.out)
 have eg : ∀ args W,(callFunc 157 args).run Tryz.prog W = .ok (.enter 157 args) W := fun _ _ => rfl
 rw [<- V5.out]
 refine range_keep (α := Nat × Nat) (a₁ := fun o W0 => { tmps := #[.pointer (some ⟨R,0,none⟩),.slice (some ⟨bL,oL,none⟩) nl kL,.slice (some ⟨bD,oD,none⟩) nd kD,.pointer (some ⟨w.heap.size,0,none⟩),undef,undef,.slice (some ⟨g,0,none⟩) ls.length cg,.pointer (some ⟨w2.heap.size + 1,0,none⟩),.pointer (some ⟨W0.heap.size,0,none⟩),undef,undef,.slice (some ⟨bL,oL,none⟩) nl kL,.slice (some ⟨bD,oD,none⟩) nd kD,.slice (some ⟨w.heap.size + 1,0,none⟩) 2 2,.slice (some ⟨g,0,none⟩) ls.length cg,.slice (some ⟨w2.heap.size,0,none⟩) 19 19,.slice (some ⟨g,0,none⟩) ls.length cg,.func (.func 157) #[] #[.pointer (some ⟨w2.heap.size + 1 + 1,0,none⟩)],.agg #[.int .i64 (o.1 : Int),.int .i64 (o.2 : Int)],undef,undef,undef,undef,undef,undef,undef,undef,undef,undef,undef,undef,undef,undef,undef,undef,undef,undef,undef,undef,undef,undef,undef,undef,undef,undef,undef,undef,undef,undef,undef,undef],defers := [] }) (asg := fun o W0 => W0.alloc (.cells #[.int .i64 (o.1 : Int),.int .i64 (o.2 : Int)] 165)) (hasg := fun o W0 => below1 W0 _)
  (gf := 157) (first := #[]) (lb := #[.pointer (some ⟨w2.heap.size + 2,0,none⟩)]) (encs := rn1) (xs := rnL ls) rfl eg HSEQ.out (fun _ => rfl)
  (fun i W => Has W w2.heap.size (nums (Dp.rfq ls i)) /\ Has W (w2.heap.size + 1) (.cells #[.slice (some ⟨w2.heap.size,0,none⟩) 19 19] 57) /\ RnK (w2.heap.size + 2) g 0 cg ls W /\ Below w2.heap.size w2 W)
  (fun i W h => h.2.2.1)
  (fun i A C h hl => ⟨hl.has h.1 (Or.inl (by omega)),hl.has h.2.1 (Or.inl (by omega)),⟨hl.has h.2.2.1.1 (Or.inl (by omega)),Nat.lt_of_lt_of_le h.2.2.1.2.1 hl.size,fun j hj => (cell_of_heap (hl.block g h.2.2.1.2.1 (Or.inl (by omega))) (0 + j)).trans (h.2.2.1.2.2 j hj)⟩,hl.below h.2.2.2 (by omega) h.2.2.2.size⟩) I0.out ?assign ?body ?done
 case assign =>
  intro l o W K hK
  unfold rn1
  gi_wp2
  exact hK
 case body =>
  rintro l i o W0 W hp ⟨hF,hT,hK,hB⟩ hs0 hlo
  have hbox : Has W W0.heap.size (.cells #[.int .i64 (o.1 : Int),.int .i64 (o.2 : Int)] 165) := hlo.has (Has.new W0 _) (Or.inr (by omega))
  obtain ⟨r0,r1,-,-⟩ := hbox.two
  have h19 := HLT.out o (List.mem_of_getElem? hp)
  have hrs := Dp.rfq_succ ls i o hp
  have hx316 := Dp.rfq_le ls i o.1
  have hfw := HFW.out
  have hls := HLS.out.2
  have hnn := HNN.out
  have hnl := HNL.out
  obtain ⟨c0,c1⟩ := hT.one
  obtain ⟨x,hx⟩ : ∃ x,x = (Dp.rfq ls i)[o.1]?.getD 0 := ⟨_,rfl⟩
  rw [<- hx] at hrs hx316
  have hcf : W.cell? ⟨w2.heap.size,o.1,none⟩ = some (.int .i64 (x : Int)) := by rw [hx]; exact nums_cell hF o.1 (by rw [Dp.rfq_length]; exact h19)
  have hfz : W.frozen? ⟨w2.heap.size,o.1,none⟩ = false := by
   have hF' := hF
   unfold nums at hF'
   exact hF'.free o.1
  have hset := nums_set hF o.1 (x + 1)
  rw [<- hrs] at hset
  have hcast : ((x + 1 : Nat) : Int) = (x : Int) + 1 := by omega
  rw [hcast] at hset
  have E : IntKind.i64.wrap ((x : Int) + 1) = (x : Int) + 1 := IntWalk.i64_in _ (by omega)
  have HF : Hid (∀ aa : Act,FixPost w5.heap.size (fun W => Has W w2.heap.size (nums (Dp.rfq ls (i + 1))) /\ Has W (w2.heap.size + 1) (.cells #[.slice (some ⟨w2.heap.size,0,none⟩) 19 19] 57) /\ RnK (w2.heap.size + 2) g 0 cg ls W /\ Below w2.heap.size w2 W) W .normal aa (W.setCell ⟨w2.heap.size,o.1,none⟩ (.int .i64 ((x : Int) + 1)))) := by
   intro aa
   refine ⟨rfl,⟨rfl,rfl,rfl,by simp [World.setCell],fun k hk _ => Below.heap_setCell _ _ _ _ (by show k ≠ w2.heap.size; omega)⟩,hset,hT.set (by show w2.heap.size + 1 ≠ w2.heap.size; omega) _,⟨hK.1.set (by show w2.heap.size + 2 ≠ w2.heap.size; omega) _,by simpa [World.setCell] using hK.2.1,fun j hj => ?_⟩,hB.setCell (p := ⟨w2.heap.size,o.1,none⟩) (Nat.le_refl _) _⟩
   exact (World.cell?_setCell_other _ _ _ _ (by simp <;> omega)).trans (hK.2.2 j hj)
  have i1 : (o.1 : Int) < 19 := by omega
  have i2 : (0 : Int) <= (o.1 : Int) := by omega
  have i3 : (x : Int) <= 400 := by omega
  obtain ⟨q1,hq1⟩ : ∃ q1,q1 = o.1 := ⟨_,rfl⟩
  obtain ⟨q2,hq2⟩ : ∃ q2,q2 = o.2 := ⟨_,rfl⟩
  rw [<- hq1] at HF r0 hcf hfz i1 i2
  rw [<- hq1,<- hq2]
  clear hF hT hK hB hs0 hlo hbox h19 hrs hx316 hfw hls hnn hnl hx hset hcast hp hq1 hq2 r1 I0 HSEQ HLT HFW hz5
  gi_wp2
  exact HF.out _
 case done =>
  rintro W ⟨hF,hT,hK,hB⟩ hD
  obtain ⟨N,hN⟩ : ∃ N,N = (rnL ls).length := ⟨_,rfl⟩
  rw [<- hN] at hF
  obtain ⟨fs,hfs⟩ : ∃ x,x = Dp.rfq ls N := ⟨_,rfl⟩
  have hfl : fs.length = 19 := by rw [hfs]; exact Dp.rfq_length _ _
  have hfle : ∀ i : Nat,fs[i]?.getD 0 <= 4294967295 := fun i => by
   have h1 := Dp.rfq_le ls N i
   have h2 := HFW.out
   have h3 := HLS.out.2
   have h4 := HNN.out
   have h5 := HNL.out
   rw [hfs]; omega
  rw [<- hfs] at hF
  have hBW : Below w.heap.size w W := HB2.out.trans (hB.mono HB2.out.size)
  have hz : Zl W (.slice (some ⟨w2.heap.size,0,none⟩) 19 19) (Hd.zz fs) := ⟨_,19,19,rfl,by rw [Hd.zz_length,hfl],by decide,fun h => (nomatch h),fun _ => ⟨w2.heap.size,0,rfl,hF.lt,fun i hi => by rw [Nat.zero_add,nums_cell hF i (by omega),Hd.zz_get]⟩⟩
  have hle2 := Ls.lengths_ok (Hd.zz fs) (.slice (some ⟨w2.heap.size,0,none⟩) 19 19) 7 W hz ⟨by rw [Hd.zz_length,hfl]; decide,by rw [Hd.zz_length,hfl]; decide,fun i _ => by rw [Hd.zz_get]; have := hfle i; omega⟩ (by omega) (by omega) (by rw [Hd.nat_zz]; exact Dp.srt_few7 fs (by omega))
  rw [Hd.nat_zz] at hle2
  have CLE := LH hle2
  have HRlt := LH HW.out.lt
  have HXW := LH (show Has W w.heap.size (.cells #[.pointer (some ⟨R,0,none⟩)] 160 (0,0)) from HX2.out.below hB (by have := HX2.out.lt; exact this))
  have HWW := LH (HW.out.later hBW)
  have HGW := LH (HG.out.later hBW)
  have HBW := LH hBW
  have HKW := LH (show ∀ j,j < ls.length -> W.cell? ⟨g,0 + j,none⟩ = some (.int .i64 ((Rn.at1 ls j : Nat) : Int)) from hK.2.2)
  have HDW := LH (show Has W w5.heap.size (.deferred (some [])) from hD)
  have HWz := LH (show w5.heap.size < W.heap.size /\ g < w2.heap.size /\ w2.heap.size <= W.heap.size /\ w.heap.size <= w2.heap.size from ⟨(show Has W w5.heap.size (.deferred (some [])) from hD).lt,hgl2,hB.size,HB2.out.size⟩)
  have HFS := LH (And.intro hfs (And.intro hfl hN))
  obtain ⟨t0,t1⟩ := hT.one
  have HW1Z := LH (show R < W1.heap.size by have := HS1.out; have := HRlt.out; omega)
  clear hF hT hK hB hD hBW hz hle2 hfle hfs hN I0 V5 eg HX2 HW HG HSEQ hz5 hgl2 HB2 HX1 HB1 HS1
  gi_wp2_with fail
  refine ⟨trivial,(callsIn_wide.2 (show Calls Tryz.prog 112 #[_,.int .i64 7] _ _ from CLE.out)).mono ?_⟩
  clear CLE t0 t1
  rintro e w6 ⟨C,rfl,hC,hr,hb6⟩
  rw [HFS.out.2.1] at hr ⊢
  have HR6 := LH hr
  have HC6 := LH hC
  have HB6 := LH hb6
  clear hr hC hb6
  gi_wp2_with fail
  refine ⟨trivial,(callsIn_wide.2 (needInts_ok _ _)).mono ?_⟩
  rintro e w6x ⟨rfl,rfl⟩
  obtain ⟨w7,hw7⟩ : ∃ W',W' = w6.alloc (.cells #[.slice (some ⟨C,0,none⟩) 19 19] 57) := ⟨_,rfl⟩
  have hb7 : Below W.heap.size W w7 := by rw [hw7]; exact HB6.out.trans ((below1 w6 _).mono HB6.out.size)
  have hs7 : w7.heap.size = w6.heap.size + 1 := by rw [hw7]; simp
  have X7 := LH (HXW.out.later hb7)
  have W7 := LH (HWW.out.later hb7)
  have G7 := LH (HGW.out.later hb7)
  have CB7 : Hid (Has w7 w6.heap.size (.cells #[.slice (some ⟨C,0,none⟩) 19 19] 57)) := by show Has _ _ _; rw [hw7]; exact Has.new w6 _
  obtain ⟨C7,hC7⟩ : ∃ x,x = Dp.code7 fs := ⟨_,rfl⟩
  have CC7 : Hid (∀ i,i < 19 -> w7.cell? ⟨C,0 + i,none⟩ = some (.int .i64 ((Hf.ln C7 i : Nat) : Int))) := fun i hi => by
   have h1 : w7.cell? ⟨C,0 + i,none⟩ = w6.cell? ⟨C,0 + i,none⟩ := by rw [hw7]; exact (below1 w6 _).cell (p := ⟨C,0 + i,none⟩) HR6.out.lt
   rw [h1,Nat.zero_add,HR6.out.cell i hi,hC7,Dp.code7_ln fs i (by rw [HFS.out.2.1]; exact hi)]
  have HK7 := LH (fun j (hj : j < ls.length) => (hb7.cell (p := ⟨g,0 + j,none⟩) (by have := HWz.out; show g < W.heap.size; omega)).trans (HKW.out j hj))
  have HD7 := LH (HDW.out.later hb7)
  have HB7 := LH (HBW.out.trans (hb7.mono HBW.out.size))
  have HZ7 := LH (show C < w7.heap.size /\ w5.heap.size < C /\ w6.heap.size < w7.heap.size /\ W.heap.size <= w6.heap.size /\ C < w6.heap.size by
   have h1 := HR6.out.lt; have h2 := HC6.out; have h3 := HWz.out; have h4 := HB6.out.size; omega)
  have HC7 := LH hC7
  have V7 := LH hw7
  have nb := HNN.out
  have CN1 := LH (wnum_ok R [] (nl - 257) 5 w7 W7.out (by decide) (by decide) (by omega))
  have e1 : (nl : Int) - 257 = ((nl - 257 : Nat) : Int) := by omega
  have e2 : (nd : Int) - 1 = ((nd - 1 : Nat) : Int) := by omega
  have HE12 := LH (And.intro e1 e2)
  have x7 := X7.out
  rw [hw7] at x7
  obtain ⟨x0,x1⟩ := x7.one
  have nb1 : (nl : Int) <= 286 := by omega
  have nb2 : (nd : Int) <= 30 := by omega
  clear x7 hb7 hs7 hC7 hw7 nb e1 e2 HR6 HC6 HB6 HXW HWW HGW HBW HKW HDW
  gi_wp2_with fail
  rw [<- V7.out,HE12.out.1]
  refine ⟨trivial,(callsIn_wide.2 CN1.out).mono ?_⟩
  clear CN1 V7 x0 x1
  rintro e w8 ⟨rfl,hw8,ho8⟩
  obtain ⟨r5,hr5⟩ : ∃ x,x = [] ++ Bs.bitsOf (nl - 257) 5 := ⟨_,rfl⟩
  rw [<- hr5] at hw8
  have HR5 := LH hr5
  have hr5l : r5.length = 5 := by rw [hr5]; simp [Bs.bitsOf_length]
  have X8 := LH (X7.out.only ho8 (by have := HRlt.out; omega))
  have CN2 := LH (wnum_ok R r5 (nd - 1) 5 w8 hw8 (by omega) (by decide) (by have := HNN.out; omega))
  have HO8 := LH ho8
  obtain ⟨x0,x1⟩ := X8.out.one
  clear hw8 ho8 hr5 X7
  gi_wp2_with fail
  rw [HE12.out.2]
  refine ⟨trivial,(callsIn_wide.2 CN2.out).mono ?_⟩
  clear CN2 x0 x1
  rintro e w9 ⟨rfl,hw9,ho9⟩
  obtain ⟨r10,hr10⟩ : ∃ x,x = r5 ++ Bs.bitsOf (nd - 1) 5 := ⟨_,rfl⟩
  rw [<- hr10] at hw9
  have HR10 := LH hr10
  have hr10l : r10.length = 10 := by rw [hr10,List.length_append,Bs.bitsOf_length,hr5l]
  have ho9' := HO8.out.trans ho9
  have X9 := LH (X8.out.only ho9 (by have := HRlt.out; omega))
  have CB9 := LH (CB7.out.only ho9' (by have := HRlt.out; have := HZ7.out; have := HWz.out; omega))
  have hne1 : C ≠ R := by have := HZ5.out; have := HRlt.out; have := HZ7.out; have := HWz.out; omega
  have CC9 := LH (fun i hi => only_cell ho9' HZ7.out.1 hne1 (CC7.out i hi))
  have G9 := LH (G7.out.only hgR ho9')
  have CN3 := LH (wcode_ok R r10 C7 C 0 19 w9 hw9 (by omega) CC9.out (Nat.lt_of_lt_of_le HZ7.out.1 ho9'.size) hne1 G9.out hgR (fun i => by rw [HC7.out]; have := Dp.code7_7 fs (by rw [HFS.out.2.1]; exact Nat.le_refl _) i; omega))
  have HO9 := LH ho9'
  obtain ⟨x0,x1⟩ := X9.out.one
  obtain ⟨y0,y1⟩ := CB9.out.one
  clear hw9 ho9 ho9' hr10 X8 CB7 CC7 G7 HO8 hne1
  gi_wp2_with fail
  refine ⟨trivial,(callsIn_wide.2 CN3.out).mono ?_⟩
  clear CN3 x0 x1 y0 y1
  rintro e w10 ⟨rfl,c,hc4,hc19,hcz,hw10,ho10⟩
  obtain ⟨r0,hr0⟩ : ∃ x,x = r10 ++ (Bs.bitsOf (c - 4) 4 ++ If.clRow C7 c) := ⟨_,rfl⟩
  rw [<- hr0] at hw10
  have hr0l : r0.length <= 80 := by rw [hr0]; simp only [List.length_append,Bs.bitsOf_length,If.clRow_length,hr10l]; omega
  have hr0p : 0 < r0.length := by rw [hr0]; simp only [List.length_append,Bs.bitsOf_length,If.clRow_length,hr10l]; omega
  have hO10 := HO9.out.trans ho10
  have hzs := HZ7.out
  have hws := HWz.out
  have hrs := HRlt.out
  have hz5' := HZ5.out
  have x10 := X9.out.only ho10 (by omega)
  have cb10 := CB9.out.only ho10 (by omega)
  have hCR : C ≠ R := by omega
  have hgR2 : g ≠ R := by
   have h1 := HCG.out.2
   have h2 := HW1Z.out
   omega
  have cc10 : ∀ i,i < 19 -> w10.cell? ⟨C,0 + i,none⟩ = some (.int .i64 ((Hf.ln C7 i : Nat) : Int)) := fun i hi => only_cell ho10 (Nat.lt_of_lt_of_le hzs.1 HO9.out.size) hCR (CC9.out i hi)
  have hg7 : g < w7.heap.size := by omega
  have hk10 : ∀ j,j < ls.length -> w10.cell? ⟨g,0 + j,none⟩ = some (.int .i64 ((Rn.at1 ls j : Nat) : Int)) := fun j hj => only_cell hO10 hg7 hgR2 (HK7.out j hj)
  have hd10 : Has w10 w5.heap.size (.deferred (some [])) := HD7.out.only hO10 (by omega)
  obtain ⟨hHV,hFit,hUse⟩ := Dp.head_hv L D (by have := HNN.out; have := HNL.out; omega) (by have := HNN.out; have := HNL.out; omega) (by have := HNN.out; have := HNL.out; omega) (by have := HNN.out; have := HNL.out; omega) (by rw [<- HLS.out.1]; exact HH15.out) C7 (by rw [HC7.out,HFS.out.1,HFS.out.2.2,HLS.out.1]) c hc4 hc19 hcz
  rw [<- HLS.out.1] at hHV hUse
  have hhr : If.headRow L D C7 c (rnL ls) = r0 ++ If.opsRow C7 (rnL ls) := by
   rw [hr0,HR10.out,HR5.out]
   unfold If.headRow
   rw [HNL.out.1,HNL.out.2]
   simp only [List.nil_append,List.append_assoc]
  obtain ⟨w11,hw11⟩ : ∃ W',W' = w10.alloc (.cells #[.slice (some ⟨g,0,none⟩) ls.length cg] 57) := ⟨_,rfl⟩
  have hb11 : Below w10.heap.size w10 w11 := by rw [hw11]; exact below1 w10 _
  have hs11 : w11.heap.size = w10.heap.size + 1 := by rw [hw11]; simp
  have t11 : Has w11 w10.heap.size (.cells #[.slice (some ⟨g,0,none⟩) ls.length cg] 57) := by rw [hw11]; exact Has.new w10 _
  have hsz10 := hO10.size
  have J0 : Hid (WrL w11.heap.size w11 R (r0 ++ If.opsRow C7 ((rnL ls).take 0)) /\ Has w11 w.heap.size (.cells #[.pointer (some ⟨R,0,none⟩)] 160) /\ Has w11 w6.heap.size (.cells #[.slice (some ⟨C,0,none⟩) 19 19] 57) /\ (∀ i,i < 19 -> w11.cell? ⟨C,0 + i,none⟩ = some (.int .i64 ((Hf.ln C7 i : Nat) : Int))) /\ RnK w10.heap.size g 0 cg ls w11 /\ Has w11 w5.heap.size (.deferred (some [])) /\ Only R w7 w11) := by
   refine ⟨?_,x10.later hb11,cb10.later hb11,fun i hi => (hb11.cell (p := ⟨C,0 + i,none⟩) (by show C < w10.heap.size; omega)).trans (cc10 i hi),⟨t11,by show g < w11.heap.size; omega,fun j hj => (hb11.cell (p := ⟨g,0 + j,none⟩) (by show g < w10.heap.size; omega)).trans (hk10 j hj)⟩,hd10.later hb11,hO10.trans (Only.of_below hb11)⟩
   have : If.opsRow C7 ((rnL ls).take 0) = [] := rfl
   rw [this,List.append_nil]
   exact (hw10.later hb11).toL hr0p (Nat.le_refl _)
  have HHV := LH hHV
  have HFit := LH hFit
  have HUse := LH hUse
  have HHR := LH hhr
  have HZ11 := LH (And.intro hs11 hsz10)
  have V11 := LH hw11
  have HR0L := LH (And.intro hr0l hr0p)
  have HC77 : Hid (∀ i,Hf.ln C7 i <= 7) := fun i => by rw [HC7.out]; exact Dp.code7_7 fs (by rw [HFS.out.2.1]; exact Nat.le_refl _) i
  have HC19 : Hid (C7.length = 19) := by show _ = _; rw [HC7.out,Dp.code7_length,HFS.out.2.1]
  have HCR := LH (And.intro hCR hgR2)
  clear hw10 ho10 hr0 hr0l hr0p hO10 hzs hws hrs hz5' x10 cb10 hCR hgR2 cc10 hg7 hk10 hd10 hHV hFit hUse hhr hw11 hb11 hs11 t11 hsz10 hc4 hc19 hcz X9 CB9 CC9 G9 HO9
  gi_wp2_with fail
  refine ⟨trivial,(callsIn_wide.2 (runs_is _ _ _ _)).mono ?_⟩
  rintro e w11x ⟨rfl,rfl⟩
  gi_wp2_with fail
  rw [<- V11.out]
  have hz11 := HZ11.out
  have hzs := HZ7.out
  have hws := HWz.out
  have hrs := HRlt.out
  have hz5' := HZ5.out
  have HSEQ := LH (runs_seq ls HH15.out (by rw [HLS.out.2]; have := HNN.out; have := HNL.out; omega) w10.heap.size g 0 cg HCG.out.1)
  have eg : ∀ args W,(callFunc 157 args).run Tryz.prog W = .ok (.enter 157 args) W := fun _ _ => rfl
  refine range_keep (α := Nat × Nat) (a₁ := fun o W0 => { tmps := #[.pointer (some ⟨R,0,none⟩),.slice (some ⟨bL,oL,none⟩) nl kL,.slice (some ⟨bD,oD,none⟩) nd kD,.pointer (some ⟨w.heap.size,0,none⟩),undef,undef,.slice (some ⟨g,0,none⟩) ls.length cg,.pointer (some ⟨w2.heap.size + 1,0,none⟩),undef,.pointer (some ⟨w6.heap.size,0,none⟩),.pointer (some ⟨W0.heap.size,0,none⟩),.slice (some ⟨bL,oL,none⟩) nl kL,.slice (some ⟨bD,oD,none⟩) nd kD,.slice (some ⟨w.heap.size + 1,0,none⟩) 2 2,.slice (some ⟨g,0,none⟩) ls.length cg,.slice (some ⟨w2.heap.size,0,none⟩) 19 19,.slice (some ⟨g,0,none⟩) ls.length cg,.func (.func 157) #[] #[.pointer (some ⟨w2.heap.size + 1 + 1,0,none⟩)],undef,undef,undef,undef,undef,undef,undef,undef,.slice (some ⟨w2.heap.size,0,none⟩) 19 19,.tuple #[.slice (some ⟨C,0,none⟩) 19 19,.int .i64 0],.slice (some ⟨C,0,none⟩) 19 19,.int .i64 0,.slice (some ⟨C,0,none⟩) 19 19,.pointer (some ⟨R,0,none⟩),.slice (some ⟨bL,oL,none⟩) nl kL,.int .i64 (nl : Int),.int .i64 ((nl - 257 : Nat) : Int),.tuple #[],.pointer (some ⟨R,0,none⟩),.slice (some ⟨bD,oD,none⟩) nd kD,.int .i64 (nd : Int),.int .i64 ((nd - 1 : Nat) : Int),.tuple #[],.pointer (some ⟨R,0,none⟩),.slice (some ⟨C,0,none⟩) 19 19,.tuple #[],.slice (some ⟨g,0,none⟩) ls.length cg,.func (.func 157) #[] #[.pointer (some ⟨w10.heap.size,0,none⟩)],.agg #[.int .i64 (o.1 : Int),.int .i64 (o.2 : Int)],undef,undef,undef,undef],defers := [] }) (asg := fun o W0 => W0.alloc (.cells #[.int .i64 (o.1 : Int),.int .i64 (o.2 : Int)] 165)) (hasg := fun o W0 => below1 W0 _)
   (gf := 157) (first := #[]) (lb := #[.pointer (some ⟨w10.heap.size,0,none⟩)]) (encs := rn1) (xs := rnL ls) rfl eg HSEQ.out (fun _ => rfl)
   (fun i W => WrL w11.heap.size W R (r0 ++ If.opsRow C7 ((rnL ls).take i)) /\ Has W w.heap.size (.cells #[.pointer (some ⟨R,0,none⟩)] 160) /\ Has W w6.heap.size (.cells #[.slice (some ⟨C,0,none⟩) 19 19] 57) /\ (∀ i,i < 19 -> W.cell? ⟨C,0 + i,none⟩ = some (.int .i64 ((Hf.ln C7 i : Nat) : Int))) /\ RnK w10.heap.size g 0 cg ls W /\ Has W w5.heap.size (.deferred (some [])) /\ Only R w7 W)
   (fun i W h => h.2.2.2.2.1)
   (fun i A B h hl => ⟨h.1.lo hl (by omega),hl.has h.2.1 (Or.inl (by omega)),hl.has h.2.2.1 (Or.inl (by omega)),fun j hj => (cell_of_heap (hl.block C (by have := h.2.2.2.2.2.2.size; omega) (Or.inl (by omega))) (0 + j)).trans (h.2.2.2.1 j hj),⟨hl.has h.2.2.2.2.1.1 (Or.inl (by omega)),Nat.lt_of_lt_of_le h.2.2.2.2.1.2.1 hl.size,fun j hj => (cell_of_heap (hl.block g h.2.2.2.2.1.2.1 (Or.inl (by omega))) (0 + j)).trans (h.2.2.2.2.1.2.2 j hj)⟩,hl.has h.2.2.2.2.2.1 (Or.inl (by omega)),h.2.2.2.2.2.2.trans9 hl (by omega)⟩) J0.out ?assign ?body ?done
  case assign =>
   intro l o W K hK
   unfold rn1
   gi_wp2
   exact hK
  case body =>
   rintro l i o W0 W hp ⟨hWr,hX,hCB,hCC,hK,hDD,hO⟩ hs0 hlo
   have hbox : Has W W0.heap.size (.cells #[.int .i64 (o.1 : Int),.int .i64 (o.2 : Int)] 165) := hlo.has (Has.new W0 _) (Or.inr (by omega))
   obtain ⟨b0,b1,-,-⟩ := hbox.two
   obtain ⟨x0,x1⟩ := hX.one
   obtain ⟨y0,y1⟩ := hCB.one
   have h19 := HLT.out o (List.mem_of_getElem? hp)
   have hix := (List.getElem?_eq_some_iff.1 hp).1
   have hle := opsRow_le C7 HC77.out ((rnL ls).take i)
   have hlt := List.length_take_le i (rnL ls)
   have hfw := HFW.out
   have hls := HLS.out.2
   have hnn := HNN.out
   have hnl := HNL.out
   have hr0l := HR0L.out.1
   have hzl : Zl W (.slice (some ⟨C,0,none⟩) 19 19) (Hd.zz C7) := ⟨_,19,19,rfl,by rw [Hd.zz_length]; exact HC19.out.symm,by decide,fun h => (nomatch h),fun _ => ⟨C,0,rfl,by have := hO.size; omega,fun i hi => by rw [hCC i hi,Hd.zz_get]; rfl⟩⟩
   have hrun := wrun_n R _ C7 (.slice (some ⟨C,0,none⟩) 19 19) o.1 o.2 W hWr.wr (by rw [List.length_append]; omega) hzl HFit.out (by rw [HC19.out]; exact h19) (HUse.out o (List.mem_of_getElem? hp)) (Dp.rnL_fit ls _ _ o (List.mem_of_getElem? hp))
   have es : r0 ++ If.opsRow C7 ((rnL ls).take i) ++ If.opRow C7 (o.1,o.2) = r0 ++ If.opsRow C7 ((rnL ls).take (i + 1)) := by
    rw [List.take_add_one,hp,If.opsRow_append,List.append_assoc]
    congr 2
    show _ = If.opsRow C7 [o]
    rw [If.opsRow_cons]
    exact (List.append_nil _).symm
   rw [es] at hrun
   have HRN := LH hrun
   have HF : Hid (∀ aa W4,WrN W.heap.size W4 R (r0 ++ If.opsRow C7 ((rnL ls).take (i + 1))) -> Only R W W4 -> FixPost w11.heap.size (fun W => WrL w11.heap.size W R (r0 ++ If.opsRow C7 ((rnL ls).take (i + 1))) /\ Has W w.heap.size (.cells #[.pointer (some ⟨R,0,none⟩)] 160) /\ Has W w6.heap.size (.cells #[.slice (some ⟨C,0,none⟩) 19 19] 57) /\ (∀ i,i < 19 -> W.cell? ⟨C,0 + i,none⟩ = some (.int .i64 ((Hf.ln C7 i : Nat) : Int))) /\ RnK w10.heap.size g 0 cg ls W /\ Has W w5.heap.size (.deferred (some [])) /\ Only R w7 W) W .normal aa W4) := by
    intro aa W4 hw4 ho4
    have hsz4 := ho4.size
    have hloz := hlo.size
    refine ⟨rfl,⟨ho4.os,ho4.tape,ho4.output,ho4.size,fun k hk hk2 => ho4.block k hk2 (by omega)⟩,hw4.toL (by simp at hloz; omega),hX.only ho4 (by omega),hCB.only ho4 (by omega),fun j hj => only_cell ho4 (by have := hO.size; omega) HCR.out.1 (hCC j hj),⟨hK.1.only ho4 (by omega),Nat.lt_of_lt_of_le hK.2.1 hsz4,fun j hj => only_cell ho4 hK.2.1 HCR.out.2 (hK.2.2 j hj)⟩,hDD.only ho4 (by omega),hO.trans ho4⟩
   obtain ⟨q1,hq1⟩ : ∃ q1,q1 = o.1 := ⟨_,rfl⟩
   obtain ⟨q2,hq2⟩ : ∃ q2,q2 = o.2 := ⟨_,rfl⟩
   rw [<- hq1] at HRN b0
   rw [<- hq2] at HRN b1
   rw [<- hq1,<- hq2]
   clear hWr hX hCB hCC hK hDD hO hs0 hlo hbox h19 hix hle hlt hfw hls hnn hnl hr0l hzl hrun es hp hq1 hq2 J0 HSEQ hz11 hzs hws hrs hz5'
   gi_wp2_with (refine ⟨trivial,?_⟩; gi_at_call 121; refine (CallsIn.inRound l (callsIn_wide.2 HRN.out)).mono ?_; rintro e w4 ⟨rfl,hw4,ho4⟩)
   exact HF.out _ _ hw4 ho4
  case done =>
   rintro W9 ⟨hWr,hX,hCB,hCC,hK,hDD,hO⟩ hD2
   rw [List.take_length,<- HHR.out] at hWr
   have HW9 := LH hWr.wr
   have HD9 := LH hDD
   have HD2 := LH hD2
   have HO9 := LH ((Only.of_below (R := R) HB7.out).trans hO)
   have HZF := LH (show w5.heap.size < w11.heap.size /\ R < w5.heap.size /\ R < w11.heap.size /\ w.heap.size <= w5.heap.size /\ w.heap.size <= w11.heap.size by omega)
   have HHL : Hid (0 < (If.headRow L D C7 c (rnL ls)).length) := by show 0 < _; rw [HHR.out,List.length_append]; have := HR0L.out.2; omega
   clear hWr hX hCB hCC hK hDD hO hD2 J0 HSEQ hz11 hzs hws hrs hz5' eg
   gi_wp2
   refine ⟨by simp,.inl ⟨_,_,rfl,run_takeDeferred HD2.out,?_⟩⟩
   have hzf := HZF.out
   have D1 : Has (W9.putObj w11.heap.size (.deferred none)) w5.heap.size (.deferred (some [])) := (World.putObj_heap_other (by omega)).trans HD9.out
   refine ⟨by simp,.inl ⟨_,_,rfl,run_takeDeferred D1,?_⟩⟩
   have K1 := HW9.out.put (k := w11.heap.size) (by omega) (.deferred none) (fun cs t fr e => by have := (show W9.heap[w11.heap.size]? = some (.deferred (some [])) from HD2.out).symm.trans e; simp at this) HHL.out
   have K2 := K1.put (k := w5.heap.size) (by omega) (.deferred none) (fun cs t fr e => by have := (show (W9.putObj w11.heap.size (.deferred none)).heap[w5.heap.size]? = some (.deferred (some [])) from D1).symm.trans e; simp at this) HHL.out
   refine ⟨.tuple #[],by simp [results,Tryz.results79,go_sem],rfl,C7,c,?_,?_,?_⟩
   ·rw [<- HLS.out.1]; exact HHV.out
   ·rw [<- HLS.out.1]; exact K2
   ·exact only_put (only_put HO9.out (by omega) _) (by omega) _
end
end Go.Proofs.YtckbhciehmokdaaGreatDoor
