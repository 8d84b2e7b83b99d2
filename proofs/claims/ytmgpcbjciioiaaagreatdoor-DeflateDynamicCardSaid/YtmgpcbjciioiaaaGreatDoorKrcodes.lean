import Derived.Test.YtmgpcbjciioiaaaGreatDoorHrnew
import Derived.Test.YtmgpcbjciioiaaaGreatDoorKlen
import Derived.Test.YtmgpcbjciioiaaaGreatDoorKclone
import Derived.Test.YtmgpcbjciioiaaaGreatDoorSone
namespace Go.Proofs.YtmgpcbjciioiaaaGreatDoor
set_option maxRecDepth 100000
set_option maxHeartbeats 8000000
section
namespace If
open Hd (num rd head)
theorem copy_facts {l : List Bool} {dist : List Nat} {most s p : Nat} {out : List Nat} (h : (copy l dist most s p out).2.2 = 0) : p < (copy l dist most s p out).2.1 /\ (copy l dist most s p out).2.1 <= l.length := by
 unfold copy at h ⊢
 by_cases h1 : 286 <= s
 ·rw [if_pos h1] at h; simp at h
 rw [if_neg h1] at h ⊢
 by_cases h2 : l.length < p + Sy.at' Sy.lb (s - 257)
 ·rw [if_pos h2] at h; simp at h
 rw [if_neg h2] at h ⊢
 by_cases h3 : ∀ x ∈ dist,x = 0
 ·rw [if_pos h3] at h; simp at h
 rw [if_neg h3] at h ⊢
 generalize hr : rd dist l (p + Sy.at' Sy.lb (s - 257)) = r at h ⊢
 obtain ⟨y,q,c⟩ := r
 simp only at h ⊢
 by_cases h4 : c ≠ 0
 ·rw [if_pos h4] at h; exact absurd h h4
 rw [if_neg h4] at h ⊢
 have hl := Hd.rd_lt (by omega) hr
 have hc : c = 0 := by simpa using h4
 by_cases h5 : 30 <= y
 ·rw [if_pos h5] at h; simp at h
 rw [if_neg h5] at h ⊢
 by_cases h6 : l.length < q + Sy.at' Sy.db y
 ·rw [if_pos h6] at h; simp at h
 rw [if_neg h6] at h ⊢
 by_cases h7 : out.length < Sy.at' Sy.df y + num l q (Sy.at' Sy.db y)
 ·rw [if_pos h7] at h; simp at h
 rw [if_neg h7] at h ⊢
 by_cases h8 : most < out.length + (Sy.at' Sy.lf (s - 257) + num l p (Sy.at' Sy.lb (s - 257)))
 ·rw [if_pos h8] at h; simp at h
 rw [if_neg h8]
 have := (hl.1 hc)
 simp only
 omega
theorem runs_facts {ls : List Nat} {l : List Bool} {n : Nat} : ∀ (k : Nat) (acc : List Nat) (p : Nat),p <= l.length -> (Hd.runs ls l n k acc p).2.2 = 0 -> p <= (Hd.runs ls l n k acc p).2.1 /\ (Hd.runs ls l n k acc p).2.1 <= l.length := by
 intro k
 induction k with
 | zero => intro acc p hp _; exact ⟨Nat.le_refl _,hp⟩
 | succ k ih =>
  intro acc p hp h
  simp only [Hd.runs] at h ⊢
  by_cases h1 : n <= acc.length
  ·rw [if_pos h1]; exact ⟨Nat.le_refl _,hp⟩
  rw [if_neg h1] at h ⊢
  generalize hr : rd ls l p = r at h ⊢
  obtain ⟨y,q,c⟩ := r
  simp only at h ⊢
  by_cases h2 : c ≠ 0
  ·rw [if_pos h2] at h; exact absurd h h2
  rw [if_neg h2] at h ⊢
  have hl := (Hd.rd_lt hp hr).1 (by simpa using h2)
  by_cases h3 : l.length < q + Hd.ex y
  ·rw [if_pos h3] at h; simp at h
  rw [if_neg h3] at h ⊢
  generalize Hd.take acc y (num l q (Hd.ex y)) n = t at h ⊢
  by_cases h4 : t.2 ≠ 0
  ·rw [if_pos h4] at h; exact absurd h h4
  rw [if_neg h4] at h ⊢
  have := ih t.1 (q + Hd.ex y) (by omega) h
  omega
theorem head_facts {l : List Bool} {p : Nat} (h : (head l p).2.2.2 = 0) : p + 14 < (head l p).2.2.1 /\ (head l p).2.2.1 <= l.length := by
 by_cases h1 : l.length < p + 10
 ·rw [Hd.head_e1 h1] at h; simp at h
 by_cases h3 : 286 < num l p 5 + 257 ∨ 30 < num l (p + 5) 5 + 1
 ·rw [Hd.head_e3 (l := l) (p := p) (by omega) rfl rfl h3] at h; simp at h
 by_cases h4 : l.length < p + 14
 ·rw [Hd.head_e4 (l := l) (p := p) (by omega) rfl rfl h3 h4] at h; simp at h
 by_cases h5 : l.length < p + 14 + 3 * (num l (p + 10) 4 + 4)
 ·rw [Hd.head_e5 (l := l) (p := p) (by omega) rfl rfl rfl h3 h5] at h; simp at h
 by_cases h6 : newE (Hd.zz (Hd.cl l (p + 14) (num l (p + 10) 4 + 4))) = 0
 ·rw [Hd.head_run (l := l) (p := p) (by omega) rfl rfl rfl rfl h3 (by omega) h6] at h ⊢
  by_cases h7 : (Hd.runs (Hd.cl l (p + 14) (num l (p + 10) 4 + 4)) l (num l p 5 + 257 + (num l (p + 5) 5 + 1)) 400 [] (p + 14 + 3 * (num l (p + 10) 4 + 4))).2.2 ≠ 0
  ·rw [if_pos h7] at h; exact absurd h h7
  ·rw [if_neg h7]
   have h8 : (Hd.runs (Hd.cl l (p + 14) (num l (p + 10) 4 + 4)) l (num l p 5 + 257 + (num l (p + 5) 5 + 1)) 400 [] (p + 14 + 3 * (num l (p + 10) 4 + 4))).2.2 = 0 := by simpa using h7
   have := runs_facts (l := l) 400 [] (p + 14 + 3 * (num l (p + 10) 4 + 4)) (by omega) h8
   simp only
   omega
 ·rw [Hd.head_e6 (l := l) (p := p) (by omega) rfl rfl rfl rfl h3 (by omega) h6] at h; exact absurd h h6
theorem stored_facts {l : List Bool} {most p : Nat} {out : List Nat} (h : (stored l most p out).2.2 = 0) : p < (stored l most p out).2.1 /\ (stored l most p out).2.1 <= l.length := by
 unfold stored at h ⊢
 by_cases h1 : l.length < up p + 32
 ·rw [if_pos h1] at h; simp at h
 rw [if_neg h1] at h ⊢
 by_cases h2 : num l (up p) 16 + num l (up p + 16) 16 ≠ 65535 ∨ num l (up p) 16 &&& num l (up p + 16) 16 ≠ 0
 ·rw [if_pos h2] at h; simp at h
 rw [if_neg h2] at h ⊢
 by_cases h3 : most < out.length + num l (up p) 16
 ·rw [if_pos h3] at h; simp at h
 rw [if_neg h3] at h ⊢
 by_cases h4 : l.length < up p + 32 + 8 * num l (up p) 16
 ·rw [if_pos h4] at h; simp at h
 rw [if_neg h4]
 have : p <= up p := by unfold up; omega
 simp only
 omega
theorem syms_facts {l : List Bool} {lit dist : List Nat} {most : Nat} : ∀ (k : Nat) (out : List Nat) (p : Nat),p <= l.length -> l.length - p < k -> (syms l lit dist most k out p).2.2 = 0 -> p < (syms l lit dist most k out p).2.1 /\ (syms l lit dist most k out p).2.1 <= l.length := by
 intro k
 induction k with
 | zero => intro out p hp hk _; omega
 | succ k ih =>
  intro out p hp hk h
  simp only [syms] at h ⊢
  generalize hr : rd lit l p = r at h ⊢
  obtain ⟨y,q,c⟩ := r
  simp only at h ⊢
  by_cases h1 : c ≠ 0
  ·rw [if_pos h1] at h; exact absurd h h1
  rw [if_neg h1] at h ⊢
  have hl := (Hd.rd_lt hp hr).1 (by simpa using h1)
  by_cases h2 : y = 256
  ·rw [if_pos h2]; exact ⟨hl.2.1,hl.2.2⟩
  rw [if_neg h2] at h ⊢
  by_cases h3 : 256 < y
  ·rw [if_pos h3] at h ⊢
   by_cases h4 : (copy l dist most y q out).2.2 ≠ 0
   ·rw [if_pos h4] at h; exact absurd h h4
   rw [if_neg h4] at h ⊢
   have hc := copy_facts (by simpa using h4 : (copy l dist most y q out).2.2 = 0)
   have := ih _ _ hc.2 (by omega) h
   omega
  rw [if_neg h3] at h ⊢
  by_cases h5 : most <= out.length
  ·rw [if_pos h5] at h; simp at h
  rw [if_neg h5] at h ⊢
  have := ih _ _ hl.2.2 (by omega) h
  omega
theorem dynamic_facts {l : List Bool} {most p : Nat} {out : List Nat} (h : (dynamic l most p out).2.2 = 0) : p < (dynamic l most p out).2.1 /\ (dynamic l most p out).2.1 <= l.length := by
 unfold dynamic at h ⊢
 by_cases h1 : (head l p).2.2.2 ≠ 0
 ·rw [if_pos h1] at h; exact absurd h h1
 rw [if_neg h1] at h ⊢
 by_cases h2 : (head l p).1[256]?.getD 0 = 0
 ·rw [if_pos h2] at h; simp at h
 rw [if_neg h2] at h ⊢
 by_cases h3 : newE (Hd.zz (head l p).1) ≠ 0
 ·rw [if_pos h3] at h; exact absurd h h3
 rw [if_neg h3] at h ⊢
 by_cases h4 : newE (Hd.zz (head l p).2.1) ≠ 0 /\ ¬ (∀ x ∈ (head l p).2.1,x = 0)
 ·rw [if_pos h4] at h; exact absurd h h4.1
 rw [if_neg h4] at h ⊢
 have hh := head_facts (by simpa using h1 : (head l p).2.2.2 = 0)
 have := syms_facts (l.length + 1) out _ hh.2 (by omega) h
 omega
theorem block_facts {l : List Bool} {most p : Nat} {out : List Nat} (h : (block l most p out).2.2 = 0) : p + 3 <= (block l most p out).2.1 /\ (block l most p out).2.1 <= l.length := by
 unfold block at h ⊢
 by_cases h1 : l.length < p + 3
 ·rw [if_pos h1] at h; simp at h
 rw [if_neg h1] at h ⊢
 by_cases h2 : num l (p + 1) 2 = 0
 ·rw [if_pos h2] at h ⊢; have := stored_facts h; omega
 rw [if_neg h2] at h ⊢
 by_cases h3 : num l (p + 1) 2 = 1
 ·rw [if_pos h3] at h ⊢; have := syms_facts (l.length + 1) out (p + 3) (by omega) (by omega) h; omega
 rw [if_neg h3] at h ⊢
 by_cases h4 : num l (p + 1) 2 = 2
 ·rw [if_pos h4] at h ⊢; have := dynamic_facts h; omega
 rw [if_neg h4] at h; simp at h
end If
end
section
open Go.RowKit
def HeadPost (R : Nat) (w : World) (s : Value) (N : Nat) (r : List Nat × List Nat × Nat × Int) (e : Ending) (w' : World) : Prop :=
 Only R w w' /\ ((r.2.2.2 ≠ 0 /\ e = .panicked (Pan r.2.2.2)) ∨ (r.2.2.2 = 0 /\ ∃ s1 s2,e = .returned (.tuple #[s1,s2]) /\ Own w.heap.size w' s1 r.1 /\ Own w.heap.size w' s2 r.2.1 /\ Has w' R (rdr s N r.2.2.1)))
theorem HeadPost.bad {R : Nat} {w w' : World} {s : Value} {N : Nat} {c : Int} (h : Only R w w') (hc : c ≠ 0) : HeadPost R w s N ([],[],0,c) (.panicked (Pan c)) w' := ⟨h,Or.inl ⟨hc,rfl⟩⟩
theorem zl_nums {w : World} {g n cap : Nat} {xs : List Nat} (h : Has w g (nums xs)) (hn : n = xs.length) (h2 : n <= 17592186044416) : Zl w (.slice (some ⟨g,0,none⟩) n cap) (Hd.zz xs) := by
 refine ⟨_,n,cap,rfl,by rw [Hd.zz_length]; exact hn,h2,fun h => by simp at h,fun _ => ⟨g,0,rfl,h.lt,fun i hi => ?_⟩⟩
 rw [Nat.zero_add,nums_cell h i (by omega),Hd.zz_get]
def slLen : Value -> Nat
 | .slice _ n _ => n
 | _ => 0
theorem own_part {base : Nat} {w : World} {g len cap : Nat} {xs : List Nat} (h : Own base w (.slice (some ⟨g,0,none⟩) len cap) xs) (h0 : 0 < xs.length) (h9 : xs.length <= 100000) (i m cap' : Nat) (hm : i + m <= xs.length) :
  Zl w (.slice (some ⟨g,i,none⟩) m cap') (Hd.zz ((xs.drop i).take m)) := by
 obtain ⟨g',e,hg,hb,hc⟩ := h.cells h0
 obtain rfl : g = g' := by simpa using e
 refine ⟨_,m,cap',rfl,by rw [Hd.zz_length,List.length_take,List.length_drop]; omega,by omega,fun h => by simp at h,fun _ => ⟨g,i,rfl,hg,fun j hj => ?_⟩⟩
 rw [hc (i + j) (by omega),Hd.zz_get,List.getElem?_take_of_lt hj,List.getElem?_drop]
end
section
open Go.RowKit
structure Only3 (R L D : Nat) (w w' : World) : Prop where
 os : w'.os = w.os
 tape : w'.tape = w.tape
 output : w'.output = w.output
 size : w.heap.size <= w'.heap.size
 block : ∀ k,k < w.heap.size -> k ≠ R -> k ≠ L -> k ≠ D -> w'.heap[k]? = w.heap[k]?
theorem Only3.below {R L D B : Nat} {w w' : World} (h : Only3 R L D w w') (h1 : B <= R) (h2 : B <= L) (h3 : B <= D) (h4 : B <= w.heap.size) : Below B w w' :=
 ⟨h.os,h.tape,h.output,h.size,fun k hk => h.block k (by omega) (by omega) (by omega) (by omega)⟩
theorem Only.three {R : Nat} {w w' : World} (h : Only R w w') (L D : Nat) : Only3 R L D w w' := ⟨h.os,h.tape,h.output,h.size,fun k hk h1 _ _ => h.block k hk h1⟩
end
section
open Go.RowKit
theorem rget_short (s : Value) (bs : List Nat) (N p n : Nat) (w : World) (hs : Sl w s bs) (hN : N <= 9223372036854775807) (hr : Bs.right bs N) (hn : n <= 32) (hp : p <= N) (hsh : N - p < n) :
  Calls Tryz.prog 122 #[.agg #[s,.int .i64 (N : Int)],.int .i64 (p : Int),.int .i64 (n : Int)] w (Nums w 0 4) := by
 have HS := LH hs
 have HR := LH hr
 clear hs hr
 obtain ⟨a,len,cap,rfl,hl⟩ := HS.out.shape
 clear hl
 go_enter Tryz.func122,Tryz.ntmps122
 go_wp2_with fail
 refine (rright_ok _ bs N _ (HS.out.later (below1 _ _)) hN HR.out).mono ?_
 rintro e w1 ⟨rfl,hb1⟩
 obtain ⟨k1,kb,ks⟩ := facts1 hb1
 clear hb1
 obtain ⟨c0,c1,f0,f1⟩ := k1.two
 have d1 : decide ((n : Int) < 0) = false := by simp
 have d2 : decide (32 < (n : Int)) = false := by simp; omega
 have d3 : decide ((p : Int) < 0) = false := by simp
 have d4 : decide (N < p) = false := by simp; omega
 have d5 : decide ((N : Int) - (p : Int) < (n : Int)) = true := by simp; omega
 go_wp2
 go_ret2
 exact ⟨rfl,kb⟩
theorem add_step (V k : Nat) (b : Bool) (hk : k < 32) (hV : V < 2 ^ k) : wrap64 ((V : Int) + wrap64 ((b.toNat : Int) * 2 ^ k)) = ((V + b.toNat * 2 ^ k : Nat) : Int) := by
 have h2 : 2 ^ k < 2 ^ 32 := Nat.pow_lt_pow_right (by omega) hk
 have hb : b.toNat <= 1 := by cases b <;> simp
 have h3 : b.toNat * 2 ^ k < 2 ^ 32 := by have := Nat.mul_le_mul_right (2 ^ k) hb; omega
 have e : ((b.toNat : Int) * 2 ^ k) = ((b.toNat * 2 ^ k : Nat) : Int) := by simp
 rw [e,IntWalk.wrap64_in ((b.toNat * 2 ^ k : Nat) : Int) (by omega),IntWalk.wrap64_in _ (by omega)]
 omega
theorem rget_ok (s : Value) (l : List Bool) (N p n : Nat) (w : World) (hs : Sl w s (Bs.pack l)) (hl : Hid (N = l.length)) (hN : N <= 2251799813685248) (hn : n <= 32) (hp : p + n <= N) :
  Calls Tryz.prog 122 #[.agg #[s,.int .i64 (N : Int)],.int .i64 (p : Int),.int .i64 (n : Int)] w (Nums w (Bs.num ((l.drop p).take n)) 0) := by
 have HS := LH hs
 clear hs
 obtain ⟨a,len,cap,rfl,hl'⟩ := HS.out.shape
 clear hl'
 go_enter Tryz.func122,Tryz.ntmps122
 go_wp2_with fail
 refine (rright_ok _ (Bs.pack l) N _ (HS.out.later (below1 _ _)) (by omega) (by rw [hl.out]; exact Bs.pack_right l)).mono ?_
 rintro e w1 ⟨rfl,hb1⟩
 obtain ⟨k1,kb,ks⟩ := facts1 hb1
 clear hb1
 obtain ⟨c0,c1,f0,f1⟩ := k1.two
 have HS1 := LH (HS.out.later kb)
 have d1 : decide ((n : Int) < 0) = false := by simp
 have d2 : decide (32 < (n : Int)) = false := by simp; omega
 have d3 : decide ((p : Int) < 0) = false := by simp
 have d4 : decide (N < p) = false := by simp; omega
 have d5 : decide ((N : Int) - (p : Int) < (n : Int)) = false := by simp; omega
 go_wp2_with fail
 have HL : Hid (l.length <= 2251799813685248) := by show _ <= _; rw [<- hl.out]; exact hN
 have HW1 : Hid (Below w1.heap.size w1 w1) := Below.refl _ _
 clear c0 c1 f0 f1
 go_loopw [8,9] (fun v i wr => ∃ k V : Nat,k <= n /\ i = .int .i64 k /\ v = .int .i64 (V : Int) /\ Hid (V = Bs.num ((l.drop p).take k)) /\ Hid (Below w1.heap.size w1 wr)) (fun _ i _ => n - (intOf i).toNat)
 case atStart => exact ⟨0,0,Nat.zero_le _,rfl,rfl,by show _ = _; simp [Bs.num],HW1⟩
 case round =>
  obtain ⟨k,V,hk,rfl,rfl,hV,HW⟩ := hrel
  have k2 := k1.later HW.out
  obtain ⟨c0,c1,f0,f1⟩ := k2.two
  by_cases hlt : k < n
  ·obtain ⟨b,hb⟩ : ∃ b,b = l[p + k]?.getD false := ⟨_,rfl⟩
   have HB := LH hb
   have hb2 : b.toNat < 2 := Bool.toNat_lt b
   have hs1 : 0 <= (p : Int) + (k : Int) := by omega
   have hpk : p + k < l.length := by rw [<- hl.out]; omega
   have HPK := LH hpk
   have HS2 := LH (HS1.out.later HW.out)
   clear hb hpk
   go_wp2_with (go_at_call 163; refine (rbit_is _ l _ (p + k) N b _ HS2.out (show _ = _ by simp) HB HPK.out HL.out).mono ?_; rintro e w2 ⟨rfl,hb3⟩; have HB3 := LH hb3; clear hb3)
   refine ⟨⟨k + 1,V + b.toNat * 2 ^ k,by omega,by go_num,?_,?_,?_⟩,?_⟩
   ·rw [add_step V k b (by omega) (by rw [hV.out]; exact num_take_lt l p k)]
   ·show _ = _
    rw [num_step l p k b HPK.out HB.out,hV.out]
   ·exact HW.out.trans (HB3.out.mono HW.out.size)
   ·simp [intOf]; omega
  ·obtain rfl : k = n := by omega
   go_wp2
   go_ret2
   exact ⟨by rw [hV.out]; rfl,kb.trans (HW.out.mono (by omega))⟩
end
section
open Go.RowKit
def ordL : List Nat := [16,17,18,0,8,7,9,6,10,5,11,4,12,3,13,2,14,1,15]
theorem ordL_get (k : Nat) : ordL[k]?.getD 0 = Hd.ord k := rfl
theorem rorder_is (w : World) : Calls Tryz.prog 194 #[] w fun e w' => e = .returned (.slice (some ⟨w.heap.size,0,none⟩) 19 19) /\ Has w' w.heap.size (nums ordL) /\ Below w.heap.size w w' := by
 go_enter Tryz.func194,Tryz.ntmps194
 go_wp2
 go_ret
 exact ⟨rfl,Has.new w _,below1 _ _⟩
theorem rget_num (s : Value) (l : List Bool) (N p n : Nat) (w : World) (hs : Sl w s (Bs.pack l)) (hl : Hid (N = l.length)) (hN : N <= 2251799813685248) (hn : n <= 32) (hp : p + n <= N) (x : Nat) (hx : Hid (x = Hd.num l p n)) :
  Calls Tryz.prog 122 #[.agg #[s,.int .i64 (N : Int)],.int .i64 (p : Int),.int .i64 (n : Int)] w (Nums w (x : Int) 0) := by
 rw [hx.out]; exact rget_ok s l N p n w hs hl hN hn hp
def RCodePost (w : World) (l : List Bool) (N p c : Nat) (c6 : Int) (e : Ending) (w' : World) : Prop :=
 Below w.heap.size w w' /\ ((p + 3 * c <= N /\ ∃ g,e = .returned (.tuple #[.slice (some ⟨g,0,none⟩) 19 19,.int .i64 ((p + 3 * c : Nat) : Int),.int .i64 c6]) /\ Has w' g (nums (Hd.cl l p c))) ∨ (N < p + 3 * c /\ e = .returned (.tuple #[.slice none 0 0,.int .i64 0,.int .i64 4])))
theorem RCodePost.short {w w' : World} {l : List Bool} {N p c : Nat} {c6 : Int} {e : Ending} (h : RCodePost w l N p c c6 e w') (hs : N < p + 3 * c) : e = .returned (.tuple #[.slice none 0 0,.int .i64 0,.int .i64 4]) /\ Below w.heap.size w w' := by
 obtain ⟨hb,h⟩ := h
 rcases h with ⟨h,_⟩ | ⟨_,rfl⟩
 ·omega
 ·exact ⟨rfl,hb⟩
theorem RCodePost.ok {w w' : World} {l : List Bool} {N p c : Nat} {c6 : Int} {e : Ending} (h : RCodePost w l N p c c6 e w') (hs : p + 3 * c <= N) : ∃ g,e = .returned (.tuple #[.slice (some ⟨g,0,none⟩) 19 19,.int .i64 ((p + 3 * c : Nat) : Int),.int .i64 c6]) /\ Has w' g (nums (Hd.cl l p c)) /\ Below w.heap.size w w' := by
 obtain ⟨hb,h⟩ := h
 rcases h with ⟨_,g,rfl,h⟩ | ⟨h,_⟩
 ·exact ⟨g,rfl,h,hb⟩
 ·omega
theorem rcodes_any (s : Value) (l : List Bool) (N p c : Nat) (w : World) (hs : Sl w s (Bs.pack l)) (hl : Hid (N = l.length)) (hN : N <= 2251799813685248) (hp : p <= N) (hc : c <= 19) :
  Calls Tryz.prog 167 #[.agg #[s,.int .i64 (N : Int)],.int .i64 (p : Int),.int .i64 (c : Int)] w (RCodePost w l N p c (newE (Hd.zz (Hd.cl l p c)))) := by
 have hmk : ∀ w,(Instr.makeSlice 57 (.int .i64 19) (.int .i64 19)).run Tryz.prog w = .ok (.slice (some ⟨w.heap.size,0,none⟩) 19 19) (w.alloc (.cells (madeCells #[.int .i64 0] 19) 3)) :=
  fun w => run_make_row' (P := Tryz.prog) 57 3 (.int .i64 0) 8 Tryz.underlying57 Tryz.infoInt rfl .i64 .i64 19 (by omega) (by omega) w
 obtain ⟨a,len,cap,rfl,hlen⟩ := hs.shape
 clear hlen
 obtain ⟨w2,hw2⟩ : ∃ w2,w2 = (w.alloc (.cells #[.slice a len cap,.int .i64 (N : Int)] 64)).alloc (.cells (madeCells #[.int .i64 0] 19) 3) := ⟨_,rfl⟩
 have F2 : Below w2.heap.size w2 w2 := Below.refl _ _
 rw [hw2] at F2
 obtain ⟨X2,G2,B2,Z2⟩ := facts2 F2
 rw [<- hw2] at X2 G2 B2 Z2
 have HS := LH hs
 have HX2 := LH X2
 have HG2 : Hid (Has w2 (w.heap.size + 1) (nums (Hd.cl l p 0))) := by
  have h := G2
  rw [made_cl l p] at h
  exact h
 have HB2 := LH B2
 have HZ2 := LH Z2
 have HNEW : Hid (∀ g W,Has W g (nums (Hd.cl l p c)) -> Calls Tryz.prog 126 #[.slice (some ⟨g,0,none⟩) 19 19] W fun e w' => e = .returned (.int .i64 (newE (Hd.zz (Hd.cl l p c)))) /\ W = w') := fun g W h =>
  rnew_any _ _ W (zl_nums h (Hd.cl_length l p c).symm (by omega))
 generalize newE (Hd.zz (Hd.cl l p c)) = c6 at HNEW ⊢
 clear hs F2 X2 G2 B2 Z2
 go_enter Tryz.func167,Tryz.ntmps167
 go_wp2_with fail
 rw [<- hw2]
 refine (rorder_is w2).mono ?_
 rintro e w3 ⟨rfl,ho3,hb3⟩
 have HO3 := LH ho3
 have HX3 := LH (HX2.out.later hb3)
 have HG3 := LH (HG2.out.later hb3)
 have HB3 := LH (HB2.out.trans (hb3.mono (by have := HZ2.out; omega)))
 have hz2 := HZ2.out
 have hz3 : w2.heap.size < w3.heap.size := ho3.lt
 clear ho3 hb3 HX2 HG2 HB2 HZ2 hw2 hmk
 go_wp2_with fail
 go_loopw [1,11] (fun s1 s11 wr => ∃ k : Nat,s1 = .int .i64 ((p + 3 * k : Nat) : Int) /\ s11 = .int .i64 (k : Int) /\ k <= c /\ p + 3 * k <= N /\ Hid (Has wr w.heap.size (.cells #[.slice a len cap,.int .i64 (N : Int)] 64 (0,0))) /\ Hid (Has wr (w.heap.size + 1) (nums (Hd.cl l p k))) /\ Hid (Has wr w2.heap.size (nums ordL)) /\ Hid (Below w.heap.size w wr)) (fun _ s _ => c - (intOf s).toNat)
 case atStart => exact ⟨0,by go_num,by go_num,by omega,by omega,HX3,HG3,HO3,HB3⟩
 case round =>
  obtain ⟨k,rfl,rfl,hk,hpk,KX,KG,KO,KB⟩ := hrel
  obtain ⟨q,hq⟩ : ∃ q,q = p + 3 * k := ⟨_,rfl⟩
  rw [<- hq] at hpk ⊢
  have HQ := LH hq
  by_cases hlt : k < c
  ·have j0 : decide ((k : Int) < (c : Int)) = true := decide_eq_true (by omega)
   have j0' : decide (k < c) = true := decide_eq_true hlt
   obtain ⟨c0,c1,_,_⟩ := KX.out.two
   have KS := LH (HS.out.later KB.out)
   by_cases h3 : q + 3 <= N
   ·obtain ⟨x,hxx⟩ : ∃ x,x = Hd.num l q 3 := ⟨_,rfl⟩
    have HXX := LH hxx
    have HGET := LH (rget_num _ l N q 3 wr KS.out hl hN (by omega) h3 x HXX)
    obtain ⟨o,ho⟩ : ∃ o,o = Hd.ord k := ⟨_,rfl⟩
    have ho19 : o < 19 := by rw [ho]; exact Hd.ord_lt k
    have HOO := LH ho
    have hk19 : k < 19 := by omega
    clear hxx ho hq
    go_wp2_with fail
    refine HGET.out.mono ?_
    clear HGET
    rintro e w4 ⟨rfl,hb4⟩
    have g0 := nums_cell (KO.out.later hb4) k hk19
    rw [ordL_get,<- HOO.out] at g0
    have hG4 := KG.out.later hb4
    have g1 := nums_cell hG4 o (by rw [Hd.cl_length]; exact ho19)
    have g2 : w4.frozen? ⟨w.heap.size + 1,o,none⟩ = false := by unfold nums at hG4; exact hG4.free o
    obtain ⟨z,hz⟩ : ∃ z,z = (Hd.cl l p k)[o]?.getD 0 := ⟨_,rfl⟩
    rw [<- hz] at g1
    have hset := nums_set hG4 o x
    have N4 : Hid (Has (w4.setCell ⟨w.heap.size + 1,o,none⟩ (.int .i64 (x : Int))) (w.heap.size + 1) (nums (Hd.cl l p (k + 1)))) := by
     show Has _ _ _
     rw [HXX.out,HOO.out,HQ.out] at hset ⊢
     exact hset
    have X4 := LH ((KX.out.later hb4).set (a := ⟨w.heap.size + 1,o,none⟩) (by simp) (.int .i64 (x : Int)))
    have O4 := LH ((KO.out.later hb4).set (a := ⟨w.heap.size + 1,o,none⟩) (by simp only; omega) (.int .i64 (x : Int)))
    have B4 := LH ((KB.out.trans (hb4.mono KB.out.size)).setCell (p := ⟨w.heap.size + 1,o,none⟩) (by simp) (.int .i64 (x : Int)))
    have i1 : (o : Int) < 19 := by omega
    have i2 : (k : Int) < 19 := by omega
    clear hG4 hset hz hb4 c0 c1
    go_wp2
    go_round
    case rel => exact ⟨k + 1,by rw [show p + 3 * (k + 1) = q + 3 by have := HQ.out; omega]; go_num,by go_num,by omega,by have := HQ.out; omega,X4,N4,O4,B4⟩
    case measure => simp [intOf]; omega
   ·have HGET := LH (rget_short _ (Bs.pack l) N q 3 wr KS.out (by omega) (by rw [hl.out]; exact Bs.pack_right l) (by omega) hpk (by omega))
    have hsh : N < p + 3 * c := by omega
    clear hq
    go_wp2_with fail
    refine HGET.out.mono ?_
    rintro e w4 ⟨rfl,hb4⟩
    have B4 := LH (KB.out.trans (hb4.mono KB.out.size))
    clear hb4
    go_wp2
    go_ret3
    exact ⟨B4.out,Or.inr ⟨hsh,rfl⟩⟩
  ·obtain rfl : k = c := by omega
   have j0 : decide ((k : Int) < (k : Int)) = false := decide_eq_false (by omega)
   clear hq
   go_wp2_with fail
   refine (HNEW.out _ wr KG.out).mono ?_
   rintro e w4 ⟨rfl,rfl⟩
   go_wp2
   go_ret3
   exact ⟨KB.out,Or.inl ⟨by rw [<- HQ.out]; exact hpk,_,by rw [<- HQ.out]; rfl,KG.out⟩⟩
end
end Go.Proofs.YtmgpcbjciioiaaaGreatDoor
