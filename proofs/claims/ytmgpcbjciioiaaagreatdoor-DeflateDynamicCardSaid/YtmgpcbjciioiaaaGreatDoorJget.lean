import Derived.Test.YtmgpcbjciioiaaaGreatDoorKrread2
import Derived.Test.YtmgpcbjciioiaaaGreatDoorKlen
import Derived.Test.YtmgpcbjciioiaaaGreatDoorKneed
import Derived.Test.YtmgpcbjciioiaaaGreatDoorKrcodes
import Derived.Test.YtmgpcbjciioiaaaGreatDoorInum
import Derived.Maps.AppendAt
namespace Go.Proofs.YtmgpcbjciioiaaaGreatDoor
set_option maxRecDepth 100000
set_option maxHeartbeats 8000000
section
open Go.RowKit
theorem fit_of {zs : List Int} (h : newE zs = 0) : Fit zs := by
 unfold newE at h
 by_cases hc : chk zs = 12 /\ Lone (nat zs)
 ·exact Or.inr hc.1
 ·rw [if_neg hc] at h; exact Or.inl h
theorem rread_rd (s2 : Value) (ls : List Nat) (s : Value) (l : List Bool) (N p : Nat) (w : World) (hs : Sl w s (Bs.pack l)) (hz : Zl w s2 (Hd.zz ls)) (hl : Hid (N = l.length)) (hN : N <= 2251799813685248) (hp : p <= N) (hf : Fit (Hd.zz ls)) (y q : Nat) (c : Int) (hr : Hid (Hd.rd ls l p = (y,q,c))) :
  Calls Tryz.prog 164 #[s2,.agg #[s,.int .i64 (N : Int)],.int .i64 (p : Int)] w fun e w' => e = .returned (.tuple #[.int .i64 (y : Int),.int .i64 (q : Int),.int .i64 c]) /\ Below w.heap.size w w' := by
 refine (rread_ok s2 (Hd.zz ls) s l N p w hs hz hl hN hp hf).mono ?_
 rintro e w' ⟨r,rfl,hrd,hb⟩
 rw [Hd.nat_zz] at hrd
 have h := Hd.rd_is hrd
 rw [hr.out] at h
 subst h
 exact ⟨rfl,hb⟩
theorem rhead_run (s : Value) (l : List Bool) (N p : Nat) (w : World) (hs : Sl w s (Bs.pack l)) (hl : Hid (N = l.length)) (hN : N <= 2251799813685248) (hp : p + 14 <= N) (h3 : ¬ (286 < Hd.num l p 5 + 257 ∨ 30 < Hd.num l (p + 5) 5 + 1)) (h5 : p + 14 + 3 * (Hd.num l (p + 10) 4 + 4) <= N) (h6 : newE (Hd.zz (Hd.cl l (p + 14) (Hd.num l (p + 10) 4 + 4))) = 0) :
  Calls Tryz.prog 125 #[.agg #[s,.int .i64 (N : Int)],.int .i64 (p : Int)] w (RReadPost w (Hd.fin (Hd.num l p 5 + 257) (Hd.runs (Hd.cl l (p + 14) (Hd.num l (p + 10) 4 + 4)) l (Hd.num l p 5 + 257 + (Hd.num l (p + 5) 5 + 1)) 400 [] (p + 14 + 3 * (Hd.num l (p + 10) 4 + 4))))) := by
 obtain ⟨a,len,cap,rfl,hlen⟩ := hs.shape
 clear hlen
 have hb0 := below1 w (.cells #[.slice a len cap,.int .i64 (N : Int)] 64)
 have X0 := LH (Has.new w (.cells #[.slice a len cap,.int .i64 (N : Int)] 64))
 have HC := LH (rright_ok _ (Bs.pack l) N _ (hs.later hb0) (by omega) (by rw [hl.out]; exact Bs.pack_right l))
 have HS := LH hs
 have HB := LH hb0
 have d1 : decide ((p : Int) < 0) = false := decide_eq_false (by omega)
 have d2 : decide ((N : Int) < (p : Int)) = false := decide_eq_false (by omega)
 have d3 : decide (N < p) = false := decide_eq_false (by omega)
 obtain ⟨x,hvx⟩ : ∃ v,v = Hd.num l (p) 5 := ⟨_,rfl⟩
 have hx9 : x <= 31 := by have := Hd.num_lt l (p) 5; omega
 have HYx := LH hvx
 obtain ⟨y,hvy⟩ : ∃ v,v = Hd.num l (p + 5) 5 := ⟨_,rfl⟩
 have hy9 : y <= 31 := by have := Hd.num_lt l (p + 5) 5; omega
 have HYy := LH hvy
 obtain ⟨z,hvz⟩ : ∃ v,v = Hd.num l (p + 10) 4 := ⟨_,rfl⟩
 have hz9 : z <= 15 := by have := Hd.num_lt l (p + 10) 4; omega
 have HYz := LH hvz
 rw [<- hvx,<- hvy] at h3
 have hc6 := h6
 rw [<- hvx,<- hvy,<- hvz]
 rw [<- hvz] at h5 h6
 obtain ⟨ls,hls⟩ : ∃ ls,ls = Hd.cl l (p + 14) (z + 4) := ⟨_,rfl⟩
 rw [<- hls] at h6 ⊢
 have hl19 : ls.length = 19 := by rw [hls]; exact Hd.cl_length _ _ _
 have HFIT := LH (fun _ : Unit => fit_of h6)
 have HE0 : Hid (Unit -> newE (Hd.zz ls) = 0) := fun _ => h6
 obtain ⟨n,hn⟩ : ∃ n,n = x + 257 + (y + 1) := ⟨_,rfl⟩
 have hni : (x : Int) + 257 + (y : Int) + 1 = (n : Int) := by omega
 rw [<- hn]
 obtain ⟨res,hres⟩ : ∃ res,res = Hd.runs ls l n 400 [] (p + 14 + 3 * (z + 4)) := ⟨_,rfl⟩
 rw [<- hres]
 have HRES := LH (fun _ : Unit => hres)
 have HLS := LH hls
 have HL19 := LH hl19
 have HN := LH hn
 have hn0 : 258 <= n /\ n <= 316 := by omega
 have HNI := LH hni
 clear hvx hvy hvz hc6 h6 hls hl19 hn hni hres
 clear hs hb0
 go_enter Tryz.func125,Tryz.ntmps125
 go_wp2_with fail
 refine HC.out.mono ?_
 clear HC
 rintro e w1 ⟨rfl,hb1⟩
 obtain ⟨c0,c1,_,_⟩ := (X0.out.later hb1).two
 have HX1 := LH (X0.out.later hb1)
 have HB1 := LH (HB.out.trans (hb1.mono HB.out.size))
 have hlt1 : w.heap.size < w1.heap.size := HX1.out.lt
 clear hb1 X0 HB
 obtain ⟨w2,hw2⟩ : ∃ w2,w2 = w1.alloc (.cells #[.int .i64 5,.int .i64 5,.int .i64 4] 3) := ⟨_,rfl⟩
 have HW2 : Hid (Has w2 w1.heap.size (nums [5,5,4])) := by rw [hw2]; exact Has.new w1 _
 have hb2 : Below w1.heap.size w1 w2 := by rw [hw2]; exact below1 _ _
 have hz2 : w2.heap.size = w1.heap.size + 1 := by rw [hw2]; simp
 have HX2 := LH (HX1.out.later hb2)
 have HB2 := LH (HB1.out.trans (hb2.mono HB1.out.size))
 have HK2 : Hid (Own w2.heap.size w2 (.slice none 0 0) []) := Own.nil _ _
 have HZ2 := LH hz2
 clear hb2 HX1 HB1 hz2
 go_wp2_with fail
 rw [<- hw2]
 clear hw2 c0 c1
 refine wp_loop_rounds 4 ?_
 have HXx : Hid (x = Hd.num l p 5) := HYx.out
 have HY2 : Hid (w2.heap.size <= w2.heap.size) := Nat.le_refl _
 rw [rounds_succ]
 obtain ⟨c0,c1,g0⟩ := keep_rounds (j := 0) HX2.out HW2.out (by decide) (Below.refl _ _)
 have KS0 := LH (fun W' (h : Below w2.heap.size w2 W') => HS.out.later (HB2.out.trans (h.mono HB2.out.size)))
 have HGET0 := LH (fun W' (h : Below w2.heap.size w2 W') => rget_num _ l N (p) 5 W' (KS0.out W' h) hl hN (by omega) (by omega) x HXx)
 have BD0 := LH ((Below.refl w2.heap.size w2).drew)
 simp only [List.getElem?_cons_zero,Option.getD_some] at g0
 go_wp2
 go_region_held3 (fun wx => wx.cell? ⟨w.heap.size,0,none⟩ = some (.slice a len cap) /\ wx.cell? ⟨w.heap.size,1,none⟩ = some (.int .i64 (N : Int)) /\ wx.cell? ⟨w1.heap.size,0,none⟩ = some (.int .i64 5)) (first | exact ⟨c0,c1,g0⟩ | exact keep_rounds (j := 0) HX2.out HW2.out (by decide) (BD0.out.trans (hb3.mono (Nat.le_refl _))))
  ((go_at_call 122; refine (HGET0.out _ BD0.out).mono ?_; rintro e w3 ⟨rfl,hb3⟩))
 obtain ⟨v0,w12,r1,r2,r3⟩ := one_append (base := w2.heap.size) (xs := []) (v := .slice none 0 0) (HK2.out.keep (BD0.out.trans (hb3.mono (Nat.le_refl _)))) 57 x (by simp) (Nat.le_trans HY2.out (BD0.out.trans (hb3.mono (Nat.le_refl _))).size)
 have HBE := BD0.out.trans (hb3.mono (Nat.le_refl _))
 have R0 := LH r1
 have HX12 := LH ((HX2.out.later HBE).below r3 (by have := HZ2.out; omega))
 have HW12 := LH ((HW2.out.later HBE).below r3 (by have := HZ2.out; omega))
 have HB12 := LH (HB2.out.trans ((HBE.mono HB2.out.size).trans (r3.mono HB2.out.size)))
 have HY12 : Hid (w2.heap.size <= w12.heap.size) := Nat.le_trans HY2.out (Nat.le_trans HBE.size r3.size)
 obtain ⟨a1,cap1,rfl⟩ := r2.shape
 have HK12 : Hid (Own w2.heap.size w12 (.slice a1 1 cap1) [x]) := r2
 obtain ⟨gg0,rfl,_,_,hcl⟩ := r2.cells (by simp)
 have n1 := (keep_rounds (j := 0) HX12.out HW12.out (by decide) (Below.refl _ _)).2.2
 simp only [List.getElem?_cons_zero,Option.getD_some] at n1
 have m0 : w12.cell? ⟨gg0,0,none⟩ = some (.int .i64 (x : Int)) := hcl 0 (by simp)
 obtain ⟨q1,hq1⟩ : ∃ m,m = p + 5 := ⟨_,rfl⟩
 have iq1 : (p : Int) + 5 = (q1 : Int) := by omega
 have bq1 : q1 <= 2251799813685300 := by omega
 have Hq1 := LH hq1
 clear r1 r2 r3 hb3 c0 c1 g0 HBE hcl hq1
 go_wp2_with (at_builtin; refine wpList_append_is rfl _ _ 57 rfl _ _ _ _ rfl rfl R0.out ?_)
 clear iq1 n1 m0
 have HXy : Hid (y = Hd.num l q1 5) := by show _ = _; rw [Hq1.out]; exact HYy.out
 rw [rounds_succ]
 obtain ⟨c0,c1,g0⟩ := keep_rounds (j := 1) HX12.out HW12.out (by decide) (Below.refl _ _)
 have KS1 := LH (fun W' (h : Below w12.heap.size w12 W') => HS.out.later (HB12.out.trans (h.mono HB12.out.size)))
 have HGET1 := LH (fun W' (h : Below w12.heap.size w12 W') => rget_num _ l N (q1) 5 W' (KS1.out W' h) hl hN (by omega) (by have := Hq1.out; omega) y HXy)
 have BD1 := LH ((Below.refl w12.heap.size w12).drew)
 simp only [List.getElem?_cons_zero,List.getElem?_cons_succ,Option.getD_some] at g0
 go_wp2
 go_region_held3 (fun wx => wx.cell? ⟨w.heap.size,0,none⟩ = some (.slice a len cap) /\ wx.cell? ⟨w.heap.size,1,none⟩ = some (.int .i64 (N : Int)) /\ wx.cell? ⟨w1.heap.size,1,none⟩ = some (.int .i64 5)) (first | exact ⟨c0,c1,g0⟩ | exact keep_rounds (j := 1) HX12.out HW12.out (by decide) (BD1.out.trans (hb13.mono (Nat.le_refl _))))
  ((go_at_call 122; refine (HGET1.out _ BD1.out).mono ?_; rintro e w13 ⟨rfl,hb13⟩))
 obtain ⟨v1,w22,r1,r2,r3⟩ := one_append (base := w2.heap.size) (xs := [x]) (v := .slice (some ⟨gg0,0,none⟩) 1 cap1) (HK12.out.keep (BD1.out.trans (hb13.mono (Nat.le_refl _)))) 57 y (by simp) (Nat.le_trans HY12.out (BD1.out.trans (hb13.mono (Nat.le_refl _))).size)
 have HBE := BD1.out.trans (hb13.mono (Nat.le_refl _))
 have R1 := LH r1
 have HX22 := LH ((HX12.out.later HBE).below r3 (by have := HZ2.out; omega))
 have HW22 := LH ((HW12.out.later HBE).below r3 (by have := HZ2.out; omega))
 have HB22 := LH (HB12.out.trans ((HBE.mono HB12.out.size).trans (r3.mono HB2.out.size)))
 have HY22 : Hid (w2.heap.size <= w22.heap.size) := Nat.le_trans HY12.out (Nat.le_trans HBE.size r3.size)
 obtain ⟨a2,cap2,rfl⟩ := r2.shape
 have HK22 : Hid (Own w2.heap.size w22 (.slice a2 2 cap2) [x,y]) := r2
 obtain ⟨gg1,rfl,_,_,hcl⟩ := r2.cells (by simp)
 have n1 := (keep_rounds (j := 1) HX22.out HW22.out (by decide) (Below.refl _ _)).2.2
 simp only [List.getElem?_cons_zero,List.getElem?_cons_succ,Option.getD_some] at n1
 have m0 : w22.cell? ⟨gg1,0,none⟩ = some (.int .i64 (x : Int)) := hcl 0 (by simp)
 have m1 : w22.cell? ⟨gg1,1,none⟩ = some (.int .i64 (y : Int)) := hcl 1 (by simp)
 obtain ⟨q2,hq2⟩ : ∃ m,m = q1 + 5 := ⟨_,rfl⟩
 have iq2 : (q1 : Int) + 5 = (q2 : Int) := by omega
 have bq2 : q2 <= 2251799813685310 := by omega
 have Hq2 := LH hq2
 clear r1 r2 r3 hb13 c0 c1 g0 HBE hcl hq2
 have t1 : decide ((286 : Int) < (x : Int) + 257) = false := decide_eq_false (by omega)
 have t2 : decide ((30 : Int) < (y : Int) + 1) = false := decide_eq_false (by omega)
 go_wp2_with (at_builtin; refine wpList_append_is rfl _ _ 57 rfl _ _ _ _ rfl rfl R1.out ?_)
 clear iq2 n1 m0 m1
 have HXz : Hid (z = Hd.num l q2 4) := by show _ = _; rw [Hq2.out,Hq1.out]; exact HYz.out
 rw [rounds_succ]
 obtain ⟨c0,c1,g0⟩ := keep_rounds (j := 2) HX22.out HW22.out (by decide) (Below.refl _ _)
 have KS2 := LH (fun W' (h : Below w22.heap.size w22 W') => HS.out.later (HB22.out.trans (h.mono HB22.out.size)))
 have HGET2 := LH (fun W' (h : Below w22.heap.size w22 W') => rget_num _ l N (q2) 4 W' (KS2.out W' h) hl hN (by omega) (by have := Hq1.out; have := Hq2.out; omega) z HXz)
 have BD2 := LH ((Below.refl w22.heap.size w22).drew)
 simp only [List.getElem?_cons_zero,List.getElem?_cons_succ,Option.getD_some] at g0
 go_wp2
 go_region_held3 (fun wx => wx.cell? ⟨w.heap.size,0,none⟩ = some (.slice a len cap) /\ wx.cell? ⟨w.heap.size,1,none⟩ = some (.int .i64 (N : Int)) /\ wx.cell? ⟨w1.heap.size,2,none⟩ = some (.int .i64 4)) (first | exact ⟨c0,c1,g0⟩ | exact keep_rounds (j := 2) HX22.out HW22.out (by decide) (BD2.out.trans (hb23.mono (Nat.le_refl _))))
  ((go_at_call 122; refine (HGET2.out _ BD2.out).mono ?_; rintro e w23 ⟨rfl,hb23⟩))
 obtain ⟨v2,w32,r1,r2,r3⟩ := one_append (base := w2.heap.size) (xs := [x,y]) (v := .slice (some ⟨gg1,0,none⟩) 2 cap2) (HK22.out.keep (BD2.out.trans (hb23.mono (Nat.le_refl _)))) 57 z (by simp) (Nat.le_trans HY22.out (BD2.out.trans (hb23.mono (Nat.le_refl _))).size)
 have HBE := BD2.out.trans (hb23.mono (Nat.le_refl _))
 have R2 := LH r1
 have HX32 := LH ((HX22.out.later HBE).below r3 (by have := HZ2.out; omega))
 have HW32 := LH ((HW22.out.later HBE).below r3 (by have := HZ2.out; omega))
 have HB32 := LH (HB22.out.trans ((HBE.mono HB22.out.size).trans (r3.mono HB2.out.size)))
 have HY32 : Hid (w2.heap.size <= w32.heap.size) := Nat.le_trans HY22.out (Nat.le_trans HBE.size r3.size)
 obtain ⟨a3,cap3,rfl⟩ := r2.shape
 have HK32 : Hid (Own w2.heap.size w32 (.slice a3 3 cap3) [x,y,z]) := r2
 obtain ⟨gg2,rfl,_,_,hcl⟩ := r2.cells (by simp)
 have n1 := (keep_rounds (j := 2) HX32.out HW32.out (by decide) (Below.refl _ _)).2.2
 simp only [List.getElem?_cons_zero,List.getElem?_cons_succ,Option.getD_some] at n1
 have m0 : w32.cell? ⟨gg2,0,none⟩ = some (.int .i64 (x : Int)) := hcl 0 (by simp)
 have m1 : w32.cell? ⟨gg2,1,none⟩ = some (.int .i64 (y : Int)) := hcl 1 (by simp)
 have m2 : w32.cell? ⟨gg2,2,none⟩ = some (.int .i64 (z : Int)) := hcl 2 (by simp)
 obtain ⟨q3,hq3⟩ : ∃ m,m = q2 + 4 := ⟨_,rfl⟩
 have iq3 : (q2 : Int) + 4 = (q3 : Int) := by omega
 have bq3 : q3 <= 2251799813685320 := by omega
 have Hq3 := LH hq3
 clear r1 r2 r3 hb23 c0 c1 g0 HBE hcl hq3
 go_wp2_with (at_builtin; refine wpList_append_is rfl _ _ 57 rfl _ _ _ _ rfl rfl R2.out ?_)
 clear iq3 n1 m0 m1 m2
 obtain ⟨e0,e1,_⟩ := keep_rounds (j := 0) HX32.out HW32.out (by decide) (Below.refl _ _)
 obtain ⟨g2,hg2,_,_,hcl⟩ := HK32.out.cells (by simp)
 obtain rfl : gg2 = g2 := by simpa using hg2
 have m0 : w32.cell? ⟨gg2,0,none⟩ = some (.int .i64 (x : Int)) := hcl 0 (by simp)
 have m1 : w32.cell? ⟨gg2,1,none⟩ = some (.int .i64 (y : Int)) := hcl 1 (by simp)
 have m2 : w32.cell? ⟨gg2,2,none⟩ = some (.int .i64 (z : Int)) := hcl 2 (by simp)
 have hg2lt : gg2 < w32.heap.size := World.block_lt_of_cell? w32 _ m0
 obtain ⟨c,hc⟩ : ∃ c,c = z + 4 := ⟨_,rfl⟩
 have ic : (z : Int) + 4 = (c : Int) := by omega
 have hcc : IntKind.i64.wrap ((z : Int) + 4) = (c : Int) := by rw [IntWalk.i64_in _ (by omega)]; exact ic
 have hq3 : q3 = p + 14 := by have := Hq1.out; have := Hq2.out; have := Hq3.out; omega
 have HCODE := LH (fun W' (h : Below w32.heap.size w32 W') => rcodes_any _ l N q3 c W' (HS.out.later (HB32.out.trans (h.mono HB32.out.size))) hl hN (by omega) (by omega))
 have HCC := LH hc
 have HQ3 := LH hq3
 have BD3 := LH ((Below.refl w32.heap.size w32).drew)
 have hcN : c <= 19 := by omega
 clear hg2 hcl hc hq3 ic
 have KEEP3 : Hid (∀ W',Below w32.heap.size w32 W' -> W'.cell? ⟨w.heap.size,0,none⟩ = some (.slice a len cap) /\ W'.cell? ⟨w.heap.size,1,none⟩ = some (.int .i64 (N : Int)) /\ W'.cell? ⟨gg2,2,none⟩ = some (.int .i64 (z : Int))) := fun W' h => by
  obtain ⟨f0,f1,_⟩ := keep_rounds (j := 0) HX32.out HW32.out (by decide) h
  exact ⟨f0,f1,by rw [h.cell (p := ⟨gg2,2,none⟩) hg2lt]; exact m2⟩
 have HCODE6 : Hid (∀ W',Below w32.heap.size w32 W' -> Calls Tryz.prog 167 #[.agg #[.slice a len cap,.int .i64 (N : Int)],.int .i64 (q3 : Int),.int .i64 (c : Int)] W' (RCodePost W' l N q3 c 0)) := fun W' h => by
  have := HCODE.out W' h
  rwa [show newE (Hd.zz (Hd.cl l q3 c)) = 0 from by rw [HQ3.out,HCC.out,<- HLS.out]; exact HE0.out ()] at this
 clear HCODE
 have hok : q3 + 3 * c <= N := by have := HQ3.out; have := HCC.out; omega
 rw [rounds_succ]
 go_wp2
 go_region_held3 (fun wx => wx.cell? ⟨w.heap.size,0,none⟩ = some (.slice a len cap) /\ wx.cell? ⟨w.heap.size,1,none⟩ = some (.int .i64 (N : Int)) /\ wx.cell? ⟨gg2,2,none⟩ = some (.int .i64 (z : Int))) (first | exact ⟨e0,e1,m2⟩ | exact KEEP3.out _ (BD3.out.trans (hb33.mono (Nat.le_refl _))))
  ((go_at_call 167; refine (HCODE6.out _ BD3.out).mono ?_; intro e w33 h33; obtain ⟨g5,rfl,hn5,hb33⟩ := h33.ok hok))
 have HBE := BD3.out.trans (hb33.mono (Nat.le_refl _))
 have hls33 : Hd.cl l q3 c = ls := by rw [HQ3.out,HCC.out,HLS.out]
 rw [hls33] at hn5
 have HZ33 := LH (zl_nums (cap := 19) hn5 HL19.out.symm (by omega))
 have HX33 := LH (HX32.out.later HBE)
 have HB33 := LH (HB32.out.trans (HBE.mono HB32.out.size))
 have HS33 := LH (HS.out.later HB33.out)
 have k0 : w33.cell? ⟨gg2,0,none⟩ = some (.int .i64 (x : Int)) := by rw [HBE.cell (p := ⟨gg2,0,none⟩) hg2lt]; exact m0
 have k1 : w33.cell? ⟨gg2,1,none⟩ = some (.int .i64 (y : Int)) := by rw [HBE.cell (p := ⟨gg2,1,none⟩) hg2lt]; exact m1
 have hg33 : gg2 < w33.heap.size := Nat.lt_of_lt_of_le hg2lt HBE.size
 obtain ⟨q4,hq4⟩ : ∃ m,m = q3 + 3 * c := ⟨_,rfl⟩
 rw [<- hq4] at hok
 have hq4i : (q3 : Int) + 3 * (c : Int) = (q4 : Int) := by omega
 rw [hq4i]
 have HRES4 : Hid (Unit -> res = Hd.runs ls l n 400 [] q4) := fun _ => by rw [HRES.out (),hq4,HQ3.out,HCC.out]
 have hni := HNI.out
 clear hb33 hn5 HBE hls33 m0 m1 m2 e0 e1 hcc hq4 hq4i HRES
 go_wp2
 go_quiet (fail)
 go_wp2
 have HK0 := LH k0
 have HK1 := LH k1
 clear hni k0 k1
 have HG33 := LH hg33
 go_loopw [1,16] (fun s1 s16 wr => ∃ (acc : List Nat) (q k : Nat),s1 = .int .i64 (q : Int) /\ Hid (Own w33.heap.size wr s16 acc) /\ acc.length <= n /\ q <= N /\ n - acc.length < k /\ Hid (Below w33.heap.size w33 wr) /\ Hid (Unit -> res = Hd.runs ls l n k acc q)) (fun _ s _ => n - slLen s)
 case atStart => exact ⟨[],q4,400,rfl,Own.nil _ _,Nat.zero_le _,hok,by simp only [List.length_nil]; omega,below_drewN (Below.refl _ _) _,HRES4.out⟩
 case round =>
  obtain ⟨acc,q,k,rfl,KW,hal,hqN,hk,KB,KRES⟩ := hrel
  have KS := LH (HS33.out.later KB.out)
  have KZ := LH (HZ33.out.later KB.out)
  have KX := LH (HX33.out.later KB.out)
  have KF := LH (HB33.out.trans (KB.out.mono HB33.out.size))
  obtain ⟨aa,capa,rfl⟩ := KW.out.shape
  obtain ⟨ln,hlen⟩ : ∃ ln,ln = acc.length := ⟨_,rfl⟩
  rw [<- hlen] at KW hal hk ⊢
  have HL := LH hlen
  clear hlen
  obtain ⟨c0,c1,_,_⟩ := KX.out.two
  by_cases hlt : ln < n
  ·have j0 : decide ((ln : Int) < (n : Int)) = true := decide_eq_true (by omega)
   obtain ⟨sy,hsy⟩ : ∃ v,v = (Hd.rd ls l q).1 := ⟨_,rfl⟩
   obtain ⟨qq,hqq⟩ : ∃ v,v = (Hd.rd ls l q).2.1 := ⟨_,rfl⟩
   obtain ⟨cc,hcc⟩ : ∃ v,v = (Hd.rd ls l q).2.2 := ⟨_,rfl⟩
   have hr : Hd.rd ls l q = (sy,qq,cc) := by rw [hsy,hqq,hcc]
   have hrl := Hd.rd_lt (by rw [<- hl.out]; exact hqN) hr
   have HR := LH hr
   have HRD := LH (rread_rd _ ls _ l N q wr KS.out KZ.out hl hN hqN (HFIT.out ()) sy qq cc HR)
   have hk0 : 0 < k := by omega
   clear hsy hqq hcc hr
   by_cases hc0 : cc = 0
   ·subst hc0
    obtain ⟨hs19,hpq,hqN2⟩ := hrl.1 rfl
    rw [<- hl.out] at hqN2
    clear hrl hs19
    obtain ⟨m,hm⟩ : ∃ m,m = Hd.ex sy := ⟨_,rfl⟩
    have hm7 : m <= 7 := by rw [hm]; exact Hd.ex_le sy
    have HM := LH hm
    have HEX : Hid (∀ W,Calls Tryz.prog 168 #[.int .i64 (sy : Int)] W fun e w' => e = .returned (.int .i64 (m : Int)) /\ W = w') := fun W => by
     rw [HM.out]; exact rextra_is sy W
    clear hm
    by_cases hsh : N < qq + m
    ·have HF : Hid (Hd.fin (x + 257) res = ([],[],0,4)) := by
      show _ = _
      rw [KRES.out (),Hd.runs_short ls l n k acc q qq sy (by rw [<- HL.out]; exact hlt) hk0 HR.out (by rw [<- hl.out,<- HM.out]; exact hsh)]
      exact Hd.fin_bad _ _ _ _ (by decide)
     have HGET := LH (fun W' (h : Below wr.heap.size wr W') => rget_short _ (Bs.pack l) N qq m W' (KS.out.later h) (by omega) (by rw [hl.out]; exact Bs.pack_right l) (by omega) hqN2 (by omega))
     clear hsh
     go_wp2_with fail
     refine HRD.out.mono ?_
     rintro e w6 ⟨rfl,hb6⟩
     have HB6 := LH hb6
     obtain ⟨f0,f1,_,_⟩ := (KX.out.later hb6).two
     have BD := LH (hb6.drew)
     clear hb6 c0 c1
     go_wp2
     go_region_held3 (fun wx => wx.cell? ⟨w.heap.size,0,none⟩ = some (.slice a len cap) /\ wx.cell? ⟨w.heap.size,1,none⟩ = some (.int .i64 (N : Int))) (first | exact ⟨f0,f1⟩ | exact ⟨((KX.out.later (BD.out.trans (hb7.mono BD.out.size))).two).1,((KX.out.later (BD.out.trans (hb7.mono BD.out.size))).two).2.1⟩)
      (first | (go_at_call 168; refine (HEX.out _).mono ?_; rintro e w' ⟨rfl,rfl⟩) | (go_at_call 122; refine (HGET.out _ BD.out).mono ?_; rintro e w7 ⟨rfl,hb7⟩))
     have HBE := LH (KF.out.trans ((BD.out.trans (hb7.mono BD.out.size)).mono KF.out.size))
     clear hb7
     go_wp2
     rw [HF.out]
     exact bodyPost_ret (v := .tuple #[.slice none 0 0,.slice none 0 0,.int .i64 0,.int .i64 4]) (by simp [results,Tryz.results125,go_sem]) rfl (RReadPost.bad HBE.out)
    ·obtain ⟨v,hvv⟩ : ∃ v,v = Hd.num l qq m := ⟨_,rfl⟩
     have HV := LH hvv
     have hv2 : v < 2 ^ Hd.ex sy := by rw [hvv,<- HM.out]; exact Hd.num_lt l qq m
     have hv9 : v < 128 := Nat.lt_of_lt_of_le hv2 (by have : 2 ^ Hd.ex sy <= 2 ^ 7 := Nat.pow_le_pow_right (by omega) (Hd.ex_le sy); omega)
     obtain ⟨nx,hnx⟩ : ∃ nx,nx = qq + m := ⟨_,rfl⟩
     have hnxN : nx <= N := by omega
     have inx : (qq : Int) + (m : Int) = (nx : Int) := by omega
     obtain ⟨x2,c2,ht⟩ : ∃ x2 c2,Hd.take acc sy v n = (x2,c2) := ⟨_,_,rfl⟩
     have HT2 := LH ht
     have HSTEP : Hid (Unit -> res = if c2 ≠ 0 then ([],0,c2) else Hd.runs ls l n (k - 1) x2 nx) := fun _ => by
      rw [KRES.out (),Hd.runs_take ls l n k acc q qq sy v x2 c2 (by rw [<- HL.out]; exact hlt) hk0 HR.out (by rw [<- hl.out,<- HM.out,<- hnx]; exact hnxN) (by rw [<- HM.out]; exact HV.out) HT2.out,<- HM.out,<- hnx]
     have HAL : Hid (acc.length <= n) := by show _ <= _; rw [<- HL.out]; exact hal
     have HV2 := LH hv2
     have HGET := LH (fun W' (h : Below wr.heap.size wr W') => rget_num _ l N qq m W' (KS.out.later h) hl hN (by omega) (by omega) v HV)
     have INX := LH inx
     clear hvv hv2 hnx ht hsh KRES inx
     go_wp2_with fail
     refine HRD.out.mono ?_
     rintro e w6 ⟨rfl,hb6⟩
     have HB6 := LH hb6
     obtain ⟨f0,f1,_,_⟩ := (KX.out.later hb6).two
     have BD := LH (hb6.drew)
     clear hb6 c0 c1
     go_wp2
     go_region_held3 (fun wx => wx.cell? ⟨w.heap.size,0,none⟩ = some (.slice a len cap) /\ wx.cell? ⟨w.heap.size,1,none⟩ = some (.int .i64 (N : Int))) (first | exact ⟨f0,f1⟩ | exact ⟨((KX.out.later (BD.out.trans (hb7.mono BD.out.size))).two).1,((KX.out.later (BD.out.trans (hb7.mono BD.out.size))).two).2.1⟩)
      (first | (go_at_call 168; refine (HEX.out _).mono ?_; rintro e w' ⟨rfl,rfl⟩) | (go_at_call 122; refine (HGET.out _ BD.out).mono ?_; rintro e w7 ⟨rfl,hb7⟩))
     have hb67 : Below wr.heap.size wr w7 := BD.out.trans (hb7.mono BD.out.size)
     have HB7 := LH hb67
     have KW7 := LH (KW.out.keep hb67)
     have KB7 := LH (KB.out.trans (hb67.mono KB.out.size))
     have HTK : Hid (Calls Tryz.prog 169 #[.slice aa ln capa,.agg #[.int .i64 (sy : Int),.int .i64 (v : Int)],.int .i64 (n : Int)] w7 (LenPost w33.heap.size w7 (x2,c2))) := by
      have := rtake_any w33.heap.size _ acc sy v n HV2.out (by omega) HAL.out w7 KW7.out KB7.out.size
      rwa [HT2.out] at this
     have inx := INX.out
     clear hb7 hb67 f0 f1
     go_wp2_with fail
     refine (HEX.out _).mono ?_
     rintro e w' ⟨rfl,rfl⟩
     go_wp2_with fail
     clear inx
     refine HTK.out.mono ?_
     clear HTK
     intro e w8 h8
     obtain ⟨s8,rfl,hown8,hb8⟩ := h8.pair
     have KB8 := LH (KB7.out.trans hb8)
     clear h8 hb8
     by_cases hc2 : c2 = 0
     ·subst hc2
      obtain ⟨a8,cap8,rfl⟩ := (hown8 rfl).shape
      have KW8 := LH (hown8 rfl)
      have htl := Hd.take_length HT2.out
      rw [<- HL.out] at htl
      have KRES8 : Hid (Unit -> res = Hd.runs ls l n (k - 1) x2 nx) := fun _ => by have := HSTEP.out (); rwa [if_neg (by simp)] at this
      clear hown8 HSTEP
      go_wp2
      go_round
      case rel => first | exact ⟨x2,nx,k - 1,rfl,KW8,htl.2,hnxN,by omega,KB8,KRES8⟩ | ((repeat apply Exists.intro); exact ⟨⟨x2,nx,k - 1,rfl,KW8,htl.2,hnxN,by omega,KB8,KRES8⟩,rfl⟩)
      case measure => simp [slLen]; omega
     ·have HF : Hid (Hd.fin (x + 257) res = ([],[],0,c2)) := by
       show _ = _
       rw [HSTEP.out (),if_pos hc2]
       exact Hd.fin_bad _ _ _ _ hc2
      have e9 : (c2 != 0) = true := by rw [bne_iff_ne]; exact hc2
      have HBE := LH (HB33.out.trans (KB8.out.mono HB33.out.size))
      clear hown8 HSTEP hc2
      go_wp2
      rw [HF.out]
      exact bodyPost_ret (v := .tuple #[.slice none 0 0,.slice none 0 0,.int .i64 0,.int .i64 c2]) (by simp [results,Tryz.results125,go_sem]) rfl (RReadPost.bad HBE.out)
   ·have HF : Hid (Hd.fin (x + 257) res = ([],[],0,cc)) := by
     show _ = _
     rw [KRES.out (),Hd.runs_sym ls l n k acc q qq sy cc (by rw [<- HL.out]; exact hlt) hk0 HR.out hc0]
     exact Hd.fin_bad _ _ _ _ hc0
    have e9 : (cc != 0) = true := by rw [bne_iff_ne]; exact hc0
    clear hrl hc0
    go_wp2_with fail
    refine HRD.out.mono ?_
    rintro e w6 ⟨rfl,hb6⟩
    have HBE := LH (KF.out.trans (hb6.mono KF.out.size))
    clear hb6
    go_wp2
    rw [HF.out]
    exact bodyPost_ret (v := .tuple #[.slice none 0 0,.slice none 0 0,.int .i64 0,.int .i64 cc]) (by simp [results,Tryz.results125,go_sem]) rfl (RReadPost.bad HBE.out)
  ·obtain rfl : ln = n := by omega
   have j0 : decide ((ln : Int) < (ln : Int)) = false := decide_eq_false (by omega)
   have j0' : decide (ln < ln) = false := decide_eq_false (by omega)
   have HF : Hid (Hd.fin (x + 257) res = (acc.take (x + 257),acc.drop (x + 257),q,0)) := by
    show _ = _
    rw [KRES.out (),Hd.runs_done ls l ln k acc q (by rw [<- HL.out]; omega)]
    exact Hd.fin_ok _ _ _
   have hal0 : 0 < acc.length := by rw [<- HL.out]; omega
   obtain ⟨gg,rfl,hgg,hge,_⟩ := KW.out.cells hal0
   have HGE := LH (Nat.le_trans HB33.out.size hge)
   have hcap := KW.out.cap.2
   have hxl : x + 257 < ln := by have := HN.out; omega
   have hxi : (x : Int) + 257 <= (ln : Int) := by omega
   have hxc : (x : Int) + 257 <= (capa : Int) := by omega
   have hne7 : ¬ capa = x + 257 := by omega
   have hx0 : (0 : Int) <= (x : Int) + 257 := by omega
   have hnat : ((x : Int) + 257).toNat = x + 257 := by omega
   have hln : ln = acc.length := HL.out
   have Z1 := LH (own_part KW.out hal0 (by omega) 0 (x + 257) capa (by omega))
   have Z2 := LH (own_part KW.out hal0 (by omega) (x + 257) (ln - (x + 257)) (capa - (x + 257)) (by omega))
   have k0 : wr.cell? ⟨gg2,0,none⟩ = some (.int .i64 (x : Int)) := by rw [KB.out.cell (p := ⟨gg2,0,none⟩) HG33.out]; exact HK0.out
   clear hal hk hal0 hln hgg hge
   have hws : IntKind.i64.wrap ((x : Int) + 257) = (x : Int) + 257 := IntWalk.i64_in _ (by omega)
   go_wp2
   go_quiet (fail)
   go_wp2
   rw [HF.out]
   refine bodyPost_ret (v := .tuple #[.slice (some ⟨gg,0,none⟩) (x + 257) capa,.slice (some ⟨gg,x + 257,none⟩) (ln - (x + 257)) (capa - (x + 257)),.int .i64 (q : Int),.int .i64 0]) (by simp [results,Tryz.results125,go_sem]) rfl ⟨_,_,rfl,?_,?_,below_drewN KF.out _,newer_at HGE.out,newer_at HGE.out⟩
   ·have := Z1.out
    rw [List.drop_zero] at this
    exact this
   ·have := Z2.out
    rw [List.take_of_length_le (by rw [List.length_drop,<- HL.out]; omega)] at this
    exact this
end
section
open Go.RowKit
def jdi (s : Value) (N p most : Nat) (ov : Value) : Obj := .cells #[s,.int .i64 (N : Int),.int .i64 (p : Int),ov,.int .i64 (most : Int)] 78 (0,0)
structure Ds (K : Nat -> Prop) (R : Nat) (s : Value) (l : List Bool) (N most : Nat) (w : World) (p : Nat) (out : List Nat) : Prop where
 lt : ∀ k,K k -> k < w.heap.size
 ne : ¬ K R
 sl : Sl w s (Bs.pack l)
 slK : ∀ a len cap b off,s = .slice a len cap -> 0 < len -> a = some ⟨b,off,none⟩ -> K b
 pn : p <= N
 le : out.length <= most
 b8 : ∀ x ∈ out,x < 256
 has : ∃ ov,Has w R (jdi s N p most ov) /\ w.ownsRow 0 5 1 ov out.length (vb out) /\ (∀ g,ov.ownBlock = some g -> ¬ K g)
theorem jdi_cells {w : World} {R : Nat} {s ov : Value} {N p most : Nat} (h : Has w R (jdi s N p most ov)) :
  w.cell? ⟨R,0,none⟩ = some s /\ w.cell? ⟨R,1,none⟩ = some (.int .i64 (N : Int)) /\ w.cell? ⟨R,2,none⟩ = some (.int .i64 (p : Int)) /\ w.cell? ⟨R,3,none⟩ = some ov /\ w.cell? ⟨R,4,none⟩ = some (.int .i64 (most : Int)) := by
 unfold jdi at h
 exact ⟨by rw [h.cell]; rfl,by rw [h.cell]; rfl,by rw [h.cell]; rfl,by rw [h.cell]; rfl,by rw [h.cell]; rfl⟩
theorem jdi_free {w : World} {R : Nat} {s ov : Value} {N p most : Nat} (h : Has w R (jdi s N p most ov)) (i : Nat) : w.frozen? ⟨R,i,none⟩ = false := by unfold jdi at h; exact h.free i
theorem ov_ne {w : World} {R : Nat} {s ov : Value} {N p most n : Nat} {xs : List Value} (h : Has w R (jdi s N p most ov)) (ho : w.ownsRow 0 5 1 ov n xs) : ∀ g,ov.ownBlock = some g -> g ≠ R := by
 intro g hg
 rcases ho.2 with ⟨rfl,_⟩ | ⟨g',cap,cur,rfl,_,hh,_⟩
 ·simp [Value.ownBlock] at hg
 ·simp [Value.ownBlock] at hg
  subst hg
  rintro rfl
  unfold jdi at h
  have e : some (Obj.cells cur 5 (0,0)) = some _ := Eq.trans (Eq.symm hh) h
  simp only [Option.some.injEq,Obj.cells.injEq] at e
  exact absurd e.2.1 (by decide)
theorem ob_set {w : World} {R i : Nat} {x : Value} {ov : Value} {n : Nat} {xs : List Value} (ho : w.ownsRow 0 5 1 ov n xs) (hne : ∀ g,ov.ownBlock = some g -> g ≠ R) : (w.setCell ⟨R,i,none⟩ x).ownsRow 0 5 1 ov n xs := by
 refine ho.kept (row := some R) ⟨rfl,rfl,rfl,by simp,fun k hk hr => ?_⟩ ?_
 ·exact Below.heap_setCell w ⟨R,i,none⟩ x k (by simpa using hr)
 ·cases hv : ov.ownBlock with
  | none => exact Or.inl rfl
  | some g => exact Or.inr (fun e => hne g hv (by simpa using e))
theorem Ds.later {K : Nat -> Prop} {R : Nat} {s : Value} {l : List Bool} {N most : Nat} {w w' : World} {p : Nat} {out : List Nat} (h : Ds K R s l N most w p out) (hb : Below w.heap.size w w') : Ds K R s l N most w' p out := by
 obtain ⟨ov,h1,h2,h3⟩ := h.has
 exact ⟨fun k hk => Nat.lt_of_lt_of_le (h.lt k hk) hb.size,h.ne,h.sl.later hb,h.slK,h.pn,h.le,h.b8,ov,h1.later hb,own_keep h2 hb,h3⟩
theorem Ds.at {K : Nat -> Prop} {R : Nat} {s : Value} {l : List Bool} {N most : Nat} {w : World} {p : Nat} {out : List Nat} (h : Ds K R s l N most w p out) (q : Nat) (hq : q <= N) : Ds K R s l N most (w.setCell ⟨R,2,none⟩ (.int .i64 (q : Int))) q out := by
 have hf : Fr K w (w.setCell ⟨R,2,none⟩ (.int .i64 (q : Int))) := Fr.of_only h.lt h.ne (only_set w R 2 _)
 obtain ⟨ov,h1,h2,h3⟩ := h.has
 refine ⟨fun k hk => by simpa using h.lt k hk,h.ne,sl_keep h.sl h.slK hf,h.slK,hq,h.le,h.b8,ov,?_,ob_set h2 (ov_ne h1 h2),h3⟩
 unfold jdi at h1 ⊢
 have := h1.setSelf (i := 2) (.int .i64 (q : Int))
 simpa using this
theorem Ds.at_fr {K : Nat -> Prop} {R : Nat} {s : Value} {l : List Bool} {N most : Nat} {w : World} {p : Nat} {out : List Nat} (h : Ds K R s l N most w p out) (q : Nat) : Fr K w (w.setCell ⟨R,2,none⟩ (.int .i64 (q : Int))) := Fr.of_only h.lt h.ne (only_set w R 2 _)
theorem Ds.narrow {K K' : Nat -> Prop} {R : Nat} {s : Value} {l : List Bool} {N most : Nat} {w w0 : World} {p p0 : Nat} {out out0 : List Nat} (h : Ds K' R s l N most w p out) (h0 : Ds K R s l N most w0 p0 out0) (hK : ∀ k,K k -> K' k) : Ds K R s l N most w p out := by
 obtain ⟨ov,h1,h2,h3⟩ := h.has
 exact ⟨fun k hk => h.lt k (hK k hk),h0.ne,h.sl,h0.slK,h.pn,h.le,h.b8,ov,h1,h2,fun g hg hk => h3 g hg (hK g hk)⟩
theorem Ds.widen {K : Nat -> Prop} {R : Nat} {s : Value} {l : List Bool} {N most : Nat} {w w' : World} {p : Nat} {out : List Nat} (h : Ds K R s l N most w p out) (hb : Below w.heap.size w w') : Ds (fun k => K k ∨ (w.heap.size <= k /\ k < w'.heap.size)) R s l N most w' p out := by
 obtain ⟨ov,h1,h2,h3⟩ := h.has
 refine ⟨fun k hk => ?_,fun hk => ?_,h.sl.later hb,fun a len cap b off e h0 e2 => Or.inl (h.slK a len cap b off e h0 e2),h.pn,h.le,h.b8,ov,h1.later hb,own_keep h2 hb,fun g hg hk => ?_⟩
 ·rcases hk with hk | hk
  ·exact Nat.lt_of_lt_of_le (h.lt k hk) hb.size
  ·exact hk.2
 ·rcases hk with hk | hk
  ·exact h.ne hk
  ·have := h1.lt; omega
 ·rcases hk with hk | hk
  ·exact h3 g hg hk
  ·have := (World.ownsRow.lt h2 g hg).2; omega
def Jo (K : Nat -> Prop) (w : World) (c : Int) (ev bad : Value) (S : World -> Prop) (e : Ending) (w' : World) : Prop := Fr K w w' /\ (c = 0 -> e = .returned ev /\ S w') /\ (c ≠ 0 -> e = .returned bad)
theorem Jo.ok {K : Nat -> Prop} {w w' : World} {v b : Value} {S : World -> Prop} {e : Ending} (h : Jo K w 0 v b S e w') : e = .returned v /\ S w' /\ Fr K w w' := ⟨(h.2.1 rfl).1,(h.2.1 rfl).2,h.1⟩
theorem Jo.bad {K : Nat -> Prop} {w w' : World} {c : Int} {v b : Value} {S : World -> Prop} {e : Ending} (h : Jo K w c v b S e w') (hc : c ≠ 0) : e = .returned b /\ Fr K w w' := ⟨h.2.2 hc,h.1⟩
theorem Jo.intro {K : Nat -> Prop} {w w' : World} {v b : Value} {S : World -> Prop} (hf : Fr K w w') (hs : S w') : Jo K w 0 v b S (.returned v) w' := ⟨hf,fun _ => ⟨rfl,hs⟩,fun h => absurd rfl h⟩
theorem Jo.fault {K : Nat -> Prop} {w w' : World} {c : Int} {v b : Value} {S : World -> Prop} (hc : c ≠ 0) (hf : Fr K w w') : Jo K w c v b S (.returned b) w' := ⟨hf,fun h => absurd h hc,fun _ => rfl⟩
theorem keep_jdi {w W w1 : World} {R : Nat} {s ov : Value} {N p most : Nat} (hx : Has w R (jdi s N p most ov)) (hb : Below w.heap.size w W) (hb1 : Below W.heap.size W w1) :
  w1.cell? ⟨R,0,none⟩ = some s /\ w1.cell? ⟨R,1,none⟩ = some (.int .i64 (N : Int)) /\ w1.cell? ⟨R,2,none⟩ = some (.int .i64 (p : Int)) /\ Below w.heap.size w w1 := by
 have h := hb.trans (hb1.mono hb.size)
 obtain ⟨c0,c1,c2,_⟩ := jdi_cells (hx.later h)
 exact ⟨c0,c1,c2,h⟩
structure Zk (K : Nat -> Prop) (w : World) (v : Value) (ls : List Nat) : Prop where
 zl : Zl w v (Hd.zz ls)
 kept : ∀ a len cap b off,v = .slice a len cap -> 0 < len -> a = some ⟨b,off,none⟩ -> K b
 fit : (∀ x ∈ ls,x = 0) ∨ Fit (Hd.zz ls)
theorem Zk.fr {K : Nat -> Prop} {w w' : World} {v : Value} {ls : List Nat} (h : Zk K w v ls) (hf : Fr K w w') : Zk K w' v ls := by
 refine ⟨?_,h.kept,h.fit⟩
 obtain ⟨a,len,cap,rfl,h1,h2,h3,h4⟩ := h.zl
 refine ⟨a,len,cap,rfl,h1,h2,h3,fun hl => ?_⟩
 obtain ⟨b,off,rfl,hlt,hc⟩ := h4 hl
 refine ⟨b,off,rfl,Nat.lt_of_lt_of_le hlt hf.size,fun i hi => ?_⟩
 rw [cell_of_heap (hf.block b (h.kept _ _ _ _ _ rfl hl rfl))]
 exact hc i hi
theorem run_app_out {w : World} {v : Value} {out ys : List Nat} (ty : TypeId) (hown : w.ownsRow 0 5 1 v out.length (vb out)) (sp : Option Addr) (m c : Nat) (hy : Sl w (.slice sp m c) ys) (hn : out.length + ys.length <= 100000) :
  ∃ v' w',(Builtin.append_ #[22,22] ty #[v,.slice sp m c]).run Tryz.prog w = .ok v' w' /\ w'.ownsRow 0 5 1 v' (out ++ ys).length (vb (out ++ ys)) /\ w.grownBy w' v.ownBlock /\ (v'.ownBlock = v.ownBlock ∨ v'.ownBlock = some w.heap.size) := by
 obtain ⟨i0,hi,hz0,hz1,hz2⟩ := info_parts Tryz.infoU8
 obtain ⟨hl,hle,hnil⟩ := hy.len
 cases sp with
 | none =>
  obtain ⟨rfl,rfl⟩ := hnil rfl
  obtain rfl : ys = [] := List.eq_nil_of_length_eq_zero (by omega)
  refine ⟨v,w,run_append_owned_none w 0 22 ty 5 i0 1 Tryz.underlying22 hi v out.length (vb out) hown,by simpa using hown,⟨rfl,rfl,rfl,Nat.le_refl _,fun _ _ _ => rfl⟩,Or.inl rfl⟩
 | some ad =>
  have hc' : ∀ j u,(vb ys)[j]? = some u -> w.cell? (ad.add j) = some u := by
   intro j u hj
   have hlt : j < (vb ys).length := (List.getElem?_eq_some_iff.1 hj).1
   rw [vb_length] at hlt
   obtain ⟨ad',he,h⟩ := hy.cells (by omega)
   injection he with he
   subst he
   exact h j u hj
  obtain ⟨v',w',h1,h2,h3,_,h5⟩ := run_append_own_at (P := Tryz.prog) (w := w) 0 22 ty 5 i0 (.int .u8 0) 1 1 Tryz.underlying22 hi hz0 hz1 hz2 rfl (by decide) v out.length (vb out) hown ad m c (vb ys) (by rw [vb_length]; omega) hc' (oneCell_vb ys) (by unfold maxLen; omega) (by omega) (Nat.zero_le _)
  refine ⟨v',w',h1,?_,h3,h5⟩
  rw [vb_append,List.length_append,<- hl]
  exact h2
theorem Ds.app {K : Nat -> Prop} {R : Nat} {s : Value} {l : List Bool} {N most : Nat} {W : World} {p : Nat} {out : List Nat} (hS : Ds K R s l N most W p out) (ys : List Nat) (hle : (out ++ ys).length <= most) (h8 : ∀ x ∈ ys,x < 256) (ov : Value)
  (hx : Has W R (jdi s N p most ov)) (ho : W.ownsRow 0 5 1 ov out.length (vb out)) (hnk : ∀ g,ov.ownBlock = some g -> ¬ K g) {w' : World} {v' : Value}
  (hown : w'.ownsRow 0 5 1 v' (out ++ ys).length (vb (out ++ ys))) (hg : W.grownBy w' ov.ownBlock) (hb : v'.ownBlock = ov.ownBlock ∨ v'.ownBlock = some W.heap.size) :
  Ds K R s l N most (w'.setCell ⟨R,3,none⟩ v') p (out ++ ys) /\ Fr K W (w'.setCell ⟨R,3,none⟩ v') := by
 have hws := hg.size
 have F1 : Fr K W w' := ⟨hg.os,hg.tape,hg.output,hws,fun k hk => hg.block k (hS.lt k hk) (fun e => hnk k e.symm hk)⟩
 have hlt' : ∀ k,K k -> k < w'.heap.size := fun k hk => Nat.lt_of_lt_of_le (hS.lt k hk) hws
 have hf := F1.trans (Fr.of_only hlt' hS.ne (only_set w' R 3 v'))
 have hRl := hx.lt
 have hxw : Has w' R (jdi s N p most ov) := (hg.block R hRl (fun e => ov_ne hx ho R e.symm rfl)).trans hx
 have hne : ∀ g,v'.ownBlock = some g -> g ≠ R := by
  intro g hgb
  rcases hb with h | h
  ·exact ov_ne hx ho g (h ▸ hgb)
  ·rw [h] at hgb
   injection hgb with hgb
   omega
 refine ⟨⟨fun k hk => by simpa using hlt' k hk,hS.ne,sl_keep hS.sl hS.slK hf,hS.slK,hS.pn,hle,fun x hx => ?_,v',?_,ob_set hown hne,?_⟩,hf⟩
 ·rcases List.mem_append.1 hx with h | h
  ·exact hS.b8 x h
  ·exact h8 x h
 ·have h := hxw.setSelf (i := 3) v'
  unfold jdi at h ⊢
  simpa using h
 ·intro g hgb
  rcases hb with h | h
  ·exact hnk g (h ▸ hgb)
  ·rw [h] at hgb
   injection hgb with hgb
   intro hk
   have := hS.lt g hk
   omega
end
section
open Go.RowKit
theorem jget_ok {K : Nat -> Prop} {R : Nat} {s : Value} {l : List Bool} {N most : Nat} {w : World} {p : Nat} {out : List Nat} (n : Nat) (hS : Ds K R s l N most w p out) (hl : Hid (N = l.length)) (hN : N <= 2251799813685248) (hn : n <= 32) (hp : p + n <= N) (b : Value) :
  Calls Tryz.prog 81 #[.pointer (some ⟨R,0,none⟩),.int .i64 (n : Int)] w (Jo K w 0 (.tuple #[.int .i64 (Hd.num l p n : Int),.int .i64 0]) b (fun w' => Ds K R s l N most w' (p + n) out)) := by
 obtain ⟨ov,hx,_,_⟩ := hS.has
 obtain ⟨c0,c1,c2,_⟩ := jdi_cells hx
 have HX := LH hx
 have HS := LH hS
 have B0 := LH (Below.refl w.heap.size w)
 obtain ⟨q,hq⟩ : ∃ q,q = p + n := ⟨_,rfl⟩
 have hsum : IntKind.i64.wrap ((p : Int) + (n : Int)) = (q : Int) := by rw [IntWalk.i64_in _ (by omega),hq]; norm_cast
 have HQ := LH hsum
 have hqN : q <= N := by omega
 obtain ⟨x,hxx⟩ : ∃ x : Nat,x = Hd.num l p n := ⟨_,rfl⟩
 have HG := LH (fun w' (hb : Below w.heap.size w w') => rget_ok s l N p n w' (hS.sl.later hb) hl hN hn hp)
 have hxx' : Bs.num ((l.drop p).take n) = x := by rw [hxx]; rfl
 rw [hxx'] at HG
 rw [<- hxx,<- hq]
 clear hx hS hq hsum hxx hxx'
 go_enter Tryz.func81,Tryz.ntmps81
 go_wp2
 go_region_held3 (fun wx => wx.cell? ⟨R,0,none⟩ = some s /\ wx.cell? ⟨R,1,none⟩ = some (.int .i64 (N : Int)) /\ wx.cell? ⟨R,2,none⟩ = some (.int .i64 (p : Int)) /\ Below w.heap.size w wx) (first | exact ⟨c0,c1,c2,B0.out.drew⟩ | exact keep_jdi HX.out B0.out.drew hb1)
  (first | (go_at_call 122; refine (HG.out _ B0.out.drew).mono ?_; rintro e w1 ⟨rfl,hb1⟩))
 all_goals
  have hb : Below w.heap.size w w1 := B0.out.drew.trans (hb1.mono (by simp))
  have hx1 := HX.out.later hb
  obtain ⟨d0,d1,d2,_⟩ := jdi_cells hx1
  have y2 := jdi_free hx1 2
  have HB := LH hb
  have hsum := HQ.out
  clear hb1 hb hx1 c0 c1 c2
  go_wp2
  go_ret2
  have hS1 := HS.out.later HB.out
  exact Jo.intro ((Fr.of_below HS.out.lt HB.out).trans (hS1.at_fr q)) (hS1.at q hqN)
theorem jget_short {K : Nat -> Prop} {R : Nat} {s : Value} {l : List Bool} {N most : Nat} {w : World} {p : Nat} {out : List Nat} (n : Nat) (hS : Ds K R s l N most w p out) (hl : Hid (N = l.length)) (hN : N <= 2251799813685248) (hn : n <= 32) (hsh : N < p + n) (v : Value) (S : World -> Prop) :
  Calls Tryz.prog 81 #[.pointer (some ⟨R,0,none⟩),.int .i64 (n : Int)] w (Jo K w 4 v (.tuple #[.int .i64 0,.int .i64 4]) S) := by
 obtain ⟨ov,hx,_,_⟩ := hS.has
 have hp := hS.pn
 obtain ⟨c0,c1,c2,_⟩ := jdi_cells hx
 have HX := LH hx
 have HS := LH hS
 have B0 := LH (Below.refl w.heap.size w)
 have HG := LH (fun w' (hb : Below w.heap.size w w') => rget_short s (Bs.pack l) N p n w' (hS.sl.later hb) (by omega) (by rw [hl.out]; exact Bs.pack_right l) hn hp (by omega))
 clear hx hS
 go_enter Tryz.func81,Tryz.ntmps81
 go_wp2
 go_region_held3 (fun wx => wx.cell? ⟨R,0,none⟩ = some s /\ wx.cell? ⟨R,1,none⟩ = some (.int .i64 (N : Int)) /\ wx.cell? ⟨R,2,none⟩ = some (.int .i64 (p : Int)) /\ Below w.heap.size w wx) (first | exact ⟨c0,c1,c2,B0.out.drew⟩ | exact keep_jdi HX.out B0.out.drew hb1)
  (first | (go_at_call 122; refine (HG.out _ B0.out.drew).mono ?_; rintro e w1 ⟨rfl,hb1⟩))
 all_goals
  have hb : Below w.heap.size w w1 := B0.out.drew.trans (hb1.mono (by simp))
  have HB := LH hb
  clear hb1 hb c0 c1 c2
  go_wp2
  go_ret2
  exact Jo.fault (by decide) (Fr.of_below HS.out.lt HB.out)
theorem jget_any {K : Nat -> Prop} {R : Nat} {s : Value} {l : List Bool} {N most : Nat} {w : World} {p : Nat} {out : List Nat} (n : Nat) (hS : Ds K R s l N most w p out) (hl : Hid (N = l.length)) (hN : N <= 2251799813685248) (hn : n <= 32) :
  Calls Tryz.prog 81 #[.pointer (some ⟨R,0,none⟩),.int .i64 (n : Int)] w (Jo K w (numE N p n) (.tuple #[.int .i64 (Hd.num l p n : Int),.int .i64 0]) (.tuple #[.int .i64 0,.int .i64 4]) (fun w' => Ds K R s l N most w' (p + n) out)) := by
 unfold numE
 by_cases h : N < p + n
 ·rw [if_pos h]; exact jget_short n hS hl hN hn h _ _
 ·rw [if_neg h]; exact jget_ok n hS hl hN hn (by omega) _
theorem jsym_any {K : Nat -> Prop} {R : Nat} {s : Value} {l : List Bool} {N most : Nat} {w : World} {p : Nat} {out : List Nat} (tb : Value) (ls : List Nat) (hT : Zk K w tb ls) (hfit : Fit (Hd.zz ls)) (hS : Ds K R s l N most w p out) (hl : Hid (N = l.length)) (hN : N <= 2251799813685248)
  (y q : Nat) (c : Int) (hr : Hid (Hd.rd ls l p = (y,q,c))) :
  Calls Tryz.prog 123 #[.pointer (some ⟨R,0,none⟩),tb] w (Jo K w c (.tuple #[.int .i64 (y : Int),.int .i64 0]) (.tuple #[.int .i64 0,.int .i64 c]) (fun w' => Ds K R s l N most w' q out)) := by
 obtain ⟨ov,hx,_,_⟩ := hS.has
 have hp := hS.pn
 obtain ⟨c0,c1,c2,_⟩ := jdi_cells hx
 have hq : c = 0 -> q <= N := fun h => by
  have := (Hd.rd_lt (by rw [<- hl.out]; exact hp) hr.out).1 h
  rw [hl.out]; exact this.2.2
 have HX := LH hx
 have HS := LH hS
 have B0 := LH (Below.refl w.heap.size w)
 have HG := LH (fun w' (hb : Below w.heap.size w w') => rread_rd tb ls s l N p w' (hS.sl.later hb) (hT.zl.later hb) hl hN hp hfit y q c hr)
 clear hx hS hT
 by_cases hc : c = 0
 ·subst hc
  have hqN := hq rfl
  clear hq
  go_enter Tryz.func123,Tryz.ntmps123
  go_wp2
  go_region_held3 (fun wx => wx.cell? ⟨R,0,none⟩ = some s /\ wx.cell? ⟨R,1,none⟩ = some (.int .i64 (N : Int)) /\ wx.cell? ⟨R,2,none⟩ = some (.int .i64 (p : Int)) /\ Below w.heap.size w wx) (first | exact ⟨c0,c1,c2,B0.out.drew⟩ | exact keep_jdi HX.out B0.out.drew hb1)
   (first | (go_at_call 164; refine (HG.out _ B0.out.drew).mono ?_; rintro e w1 ⟨rfl,hb1⟩))
  all_goals
   have hb : Below w.heap.size w w1 := B0.out.drew.trans (hb1.mono (by simp))
   have hx1 := HX.out.later hb
   obtain ⟨d0,d1,d2,_⟩ := jdi_cells hx1
   have y2 := jdi_free hx1 2
   have HB := LH hb
   clear hb1 hb hx1 c0 c1 c2
   go_wp2
   go_ret2
   have hS1 := HS.out.later HB.out
   exact Jo.intro ((Fr.of_below HS.out.lt HB.out).trans (hS1.at_fr q)) (hS1.at q hqN)
 ·clear hq
  have e9 : (c != 0) = true := by rw [bne_iff_ne]; exact hc
  have HC := LH hc
  clear hc
  go_enter Tryz.func123,Tryz.ntmps123
  go_wp2
  go_region_held3 (fun wx => wx.cell? ⟨R,0,none⟩ = some s /\ wx.cell? ⟨R,1,none⟩ = some (.int .i64 (N : Int)) /\ wx.cell? ⟨R,2,none⟩ = some (.int .i64 (p : Int)) /\ Below w.heap.size w wx) (first | exact ⟨c0,c1,c2,B0.out.drew⟩ | exact keep_jdi HX.out B0.out.drew hb1)
   (first | (go_at_call 164; refine (HG.out _ B0.out.drew).mono ?_; rintro e w1 ⟨rfl,hb1⟩))
  all_goals
   have hb : Below w.heap.size w w1 := B0.out.drew.trans (hb1.mono (by simp))
   have HB := LH hb
   clear hb1 hb c0 c1 c2
   go_wp2
   go_ret2
   exact Jo.fault HC.out (Fr.of_below HS.out.lt HB.out)
end
end Go.Proofs.YtmgpcbjciioiaaaGreatDoor
