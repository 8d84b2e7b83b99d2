import Derived.Test.YtmgpcbjciioiaaaGreatDoorKrcodes
import Derived.Test.YtmgpcbjciioiaaaGreatDoorHrread
namespace Go.Proofs.YtmgpcbjciioiaaaGreatDoor
set_option maxRecDepth 100000
set_option maxHeartbeats 8000000
open Go.RowKit
def Newer (w : World) (s : Value) : Prop := ∀ a len cap b off,s = .slice a len cap -> a = some ⟨b,off,none⟩ -> w.heap.size <= b
theorem newer_none (w : World) : Newer w (.slice none 0 0) := fun a len cap b off e h => by
 injection e with e1 _ _
 rw [<- e1] at h
 exact absurd h (by simp)
theorem newer_at {w : World} {b off len cap : Nat} (h : w.heap.size <= b) : Newer w (.slice (some ⟨b,off,none⟩) len cap) := fun a len' cap' b' off' e h' => by
 injection e with e1 _ _
 rw [<- e1] at h'
 injection h' with h'
 injection h' with h' _ _
 omega
def RReadPost (w : World) (r : List Nat × List Nat × Nat × Int) (e : Ending) (w' : World) : Prop :=
 ∃ s1 s2,e = .returned (.tuple #[s1,s2,.int .i64 (r.2.2.1 : Int),.int .i64 r.2.2.2]) /\ Zl w' s1 (Hd.zz r.1) /\ Zl w' s2 (Hd.zz r.2.1) /\ Below w.heap.size w w' /\ Newer w s1 /\ Newer w s2
theorem zl_none (w : World) : Zl w (.slice none 0 0) (Hd.zz []) := ⟨none,0,0,rfl,rfl,by omega,fun _ => ⟨rfl,rfl⟩,fun h => absurd h (by omega)⟩
theorem RReadPost.bad {w w' : World} {c : Int} (h : Below w.heap.size w w') : RReadPost w ([],[],0,c) (.returned (.tuple #[.slice none 0 0,.slice none 0 0,.int .i64 0,.int .i64 c])) w' := ⟨_,_,rfl,zl_none _,zl_none _,h,newer_none w,newer_none w⟩
theorem keep_rounds {W w' : World} {bx wg j : Nat} {a : Option Addr} {len cap : Nat} {N : Int} {ws : List Nat} (hx : Has W bx (.cells #[.slice a len cap,.int .i64 N] 64 (0,0))) (hw : Has W wg (nums ws)) (hj : j < ws.length) (hb : Below W.heap.size W w') :
  w'.cell? ⟨bx,0,none⟩ = some (.slice a len cap) /\ w'.cell? ⟨bx,1,none⟩ = some (.int .i64 N) /\ w'.cell? ⟨wg,j,none⟩ = some (.int .i64 ((ws[j]?.getD 0 : Nat) : Int)) := by
 obtain ⟨c0,c1,_,_⟩ := (hx.later hb).two
 exact ⟨c0,c1,nums_cell (hw.later hb) j hj⟩
theorem rhead_e1 (s : Value) (l : List Bool) (N p : Nat) (w : World) (hs : Sl w s (Bs.pack l)) (hl : Hid (N = l.length)) (hN : N <= 2251799813685248) (hp : p <= N) (h1 : N < p + 5) :
  Calls Tryz.prog 125 #[.agg #[s,.int .i64 (N : Int)],.int .i64 (p : Int)] w (RReadPost w ([],[],0,4)) := by
 obtain ⟨a,len,cap,rfl,hlen⟩ := hs.shape
 clear hlen
 have hb0 := below1 w (.cells #[.slice a len cap,.int .i64 (N : Int)] 64)
 have X0 := LH (Has.new w (.cells #[.slice a len cap,.int .i64 (N : Int)] 64))
 have HC := LH (rright_ok _ (Bs.pack l) N _ (hs.later hb0) (by omega) (by rw [hl.out]; exact Bs.pack_right l))
 have HS := LH hs
 have HB := LH hb0
 have d1 : decide ((p : Int) < 0) = false := decide_eq_false (by omega)
 have d2 : decide ((N : Int) < (p : Int)) = false := decide_eq_false (by omega)
 have d3 : decide (N < p) = false := decide_eq_false (by omega)
 clear hs hb0
 go_enter Tryz.func125,Tryz.ntmps125
 go_wp2_with fail
 refine HC.out.mono ?_
 clear HC
 rintro e w1 ⟨rfl,hb1⟩
 obtain ⟨c0,c1,_,_⟩ := (X0.out.later hb1).two
 have HX1 := LH (X0.out.later hb1)
 have HB1 := LH (HB.out.trans (hb1.mono HB.out.size))
 have hlt1 : w.heap.size < w1.heap.size := HX1.out.lt
 clear hb1 X0 HB
 obtain ⟨w2,hw2⟩ : ∃ w2,w2 = w1.alloc (.cells #[.int .i64 5,.int .i64 5,.int .i64 4] 3) := ⟨_,rfl⟩
 have HW2 : Hid (Has w2 w1.heap.size (nums [5,5,4])) := by rw [hw2]; exact Has.new w1 _
 have hb2 : Below w1.heap.size w1 w2 := by rw [hw2]; exact below1 _ _
 have hz2 : w2.heap.size = w1.heap.size + 1 := by rw [hw2]; simp
 have HX2 := LH (HX1.out.later hb2)
 have HB2 := LH (HB1.out.trans (hb2.mono HB1.out.size))
 have HK2 : Hid (Own w2.heap.size w2 (.slice none 0 0) []) := Own.nil _ _
 have HZ2 := LH hz2
 clear hb2 HX1 HB1 hz2
 go_wp2_with fail
 rw [<- hw2]
 clear hw2 c0 c1
 refine wp_loop_rounds 4 ?_
 rw [rounds_succ]
 obtain ⟨c0,c1,g0⟩ := keep_rounds (j := 0) HX2.out HW2.out (by decide) (Below.refl _ _)
 have KS0 := LH (fun W' (h : Below w2.heap.size w2 W') => HS.out.later (HB2.out.trans (h.mono HB2.out.size)))
 have HGET0 := LH (fun W' (h : Below w2.heap.size w2 W') => rget_short _ (Bs.pack l) N (p) 5 W' (KS0.out W' h) (by omega) (by rw [hl.out]; exact Bs.pack_right l) (by omega) (by omega) (by omega))
 have BD0 := LH ((Below.refl w2.heap.size w2).drew)
 simp only [List.getElem?_cons_zero,Option.getD_some] at g0
 go_wp2
 go_region_held3 (fun wx => wx.cell? ⟨w.heap.size,0,none⟩ = some (.slice a len cap) /\ wx.cell? ⟨w.heap.size,1,none⟩ = some (.int .i64 (N : Int)) /\ wx.cell? ⟨w1.heap.size,0,none⟩ = some (.int .i64 5)) (first | exact ⟨c0,c1,g0⟩ | exact keep_rounds (j := 0) HX2.out HW2.out (by decide) (BD0.out.trans (hb3.mono (Nat.le_refl _))))
  ((go_at_call 122; refine (HGET0.out _ BD0.out).mono ?_; rintro e w3 ⟨rfl,hb3⟩))
 have HBE := LH (HB2.out.trans ((BD0.out.trans (hb3.mono (Nat.le_refl _))).mono HB2.out.size))
 clear hb3
 go_wp2
 exact bodyPost_ret (v := .tuple #[.slice none 0 0,.slice none 0 0,.int .i64 0,.int .i64 4]) (by simp [results,Tryz.results125,go_sem]) rfl (RReadPost.bad HBE.out)
theorem rhead_e2 (s : Value) (l : List Bool) (N p : Nat) (w : World) (hs : Sl w s (Bs.pack l)) (hl : Hid (N = l.length)) (hN : N <= 2251799813685248) (hp : p + 5 <= N) (h1 : N < p + 10) :
  Calls Tryz.prog 125 #[.agg #[s,.int .i64 (N : Int)],.int .i64 (p : Int)] w (RReadPost w ([],[],0,4)) := by
 obtain ⟨a,len,cap,rfl,hlen⟩ := hs.shape
 clear hlen
 have hb0 := below1 w (.cells #[.slice a len cap,.int .i64 (N : Int)] 64)
 have X0 := LH (Has.new w (.cells #[.slice a len cap,.int .i64 (N : Int)] 64))
 have HC := LH (rright_ok _ (Bs.pack l) N _ (hs.later hb0) (by omega) (by rw [hl.out]; exact Bs.pack_right l))
 have HS := LH hs
 have HB := LH hb0
 have d1 : decide ((p : Int) < 0) = false := decide_eq_false (by omega)
 have d2 : decide ((N : Int) < (p : Int)) = false := decide_eq_false (by omega)
 have d3 : decide (N < p) = false := decide_eq_false (by omega)
 obtain ⟨x,hx⟩ : ∃ x,x = Hd.num l p 5 := ⟨_,rfl⟩
 have hx5 := Hd.num_lt l p 5
 rw [<- hx] at hx5
 have HXx := LH hx
 have hx31 : x <= 31 := by omega
 clear hx
 clear hs hb0
 go_enter Tryz.func125,Tryz.ntmps125
 go_wp2_with fail
 refine HC.out.mono ?_
 clear HC
 rintro e w1 ⟨rfl,hb1⟩
 obtain ⟨c0,c1,_,_⟩ := (X0.out.later hb1).two
 have HX1 := LH (X0.out.later hb1)
 have HB1 := LH (HB.out.trans (hb1.mono HB.out.size))
 have hlt1 : w.heap.size < w1.heap.size := HX1.out.lt
 clear hb1 X0 HB
 obtain ⟨w2,hw2⟩ : ∃ w2,w2 = w1.alloc (.cells #[.int .i64 5,.int .i64 5,.int .i64 4] 3) := ⟨_,rfl⟩
 have HW2 : Hid (Has w2 w1.heap.size (nums [5,5,4])) := by rw [hw2]; exact Has.new w1 _
 have hb2 : Below w1.heap.size w1 w2 := by rw [hw2]; exact below1 _ _
 have hz2 : w2.heap.size = w1.heap.size + 1 := by rw [hw2]; simp
 have HX2 := LH (HX1.out.later hb2)
 have HB2 := LH (HB1.out.trans (hb2.mono HB1.out.size))
 have HK2 : Hid (Own w2.heap.size w2 (.slice none 0 0) []) := Own.nil _ _
 have HZ2 := LH hz2
 clear hb2 HX1 HB1 hz2
 go_wp2_with fail
 rw [<- hw2]
 clear hw2 c0 c1
 refine wp_loop_rounds 4 ?_
 have HY2 : Hid (w2.heap.size <= w2.heap.size) := Nat.le_refl _
 rw [rounds_succ]
 obtain ⟨c0,c1,g0⟩ := keep_rounds (j := 0) HX2.out HW2.out (by decide) (Below.refl _ _)
 have KS0 := LH (fun W' (h : Below w2.heap.size w2 W') => HS.out.later (HB2.out.trans (h.mono HB2.out.size)))
 have HGET0 := LH (fun W' (h : Below w2.heap.size w2 W') => rget_num _ l N (p) 5 W' (KS0.out W' h) hl hN (by omega) (by omega) x HXx)
 have BD0 := LH ((Below.refl w2.heap.size w2).drew)
 simp only [List.getElem?_cons_zero,Option.getD_some] at g0
 go_wp2
 go_region_held3 (fun wx => wx.cell? ⟨w.heap.size,0,none⟩ = some (.slice a len cap) /\ wx.cell? ⟨w.heap.size,1,none⟩ = some (.int .i64 (N : Int)) /\ wx.cell? ⟨w1.heap.size,0,none⟩ = some (.int .i64 5)) (first | exact ⟨c0,c1,g0⟩ | exact keep_rounds (j := 0) HX2.out HW2.out (by decide) (BD0.out.trans (hb3.mono (Nat.le_refl _))))
  ((go_at_call 122; refine (HGET0.out _ BD0.out).mono ?_; rintro e w3 ⟨rfl,hb3⟩))
 obtain ⟨v0,w12,r1,r2,r3⟩ := one_append (base := w2.heap.size) (xs := []) (v := .slice none 0 0) (HK2.out.keep (BD0.out.trans (hb3.mono (Nat.le_refl _)))) 57 x (by simp) (Nat.le_trans HY2.out (BD0.out.trans (hb3.mono (Nat.le_refl _))).size)
 have HBE := BD0.out.trans (hb3.mono (Nat.le_refl _))
 have R0 := LH r1
 have HX12 := LH ((HX2.out.later HBE).below r3 (by have := HZ2.out; omega))
 have HW12 := LH ((HW2.out.later HBE).below r3 (by have := HZ2.out; omega))
 have HB12 := LH (HB2.out.trans ((HBE.mono HB2.out.size).trans (r3.mono HB2.out.size)))
 have HY12 : Hid (w2.heap.size <= w12.heap.size) := Nat.le_trans HY2.out (Nat.le_trans HBE.size r3.size)
 obtain ⟨a1,cap1,rfl⟩ := r2.shape
 have HK12 : Hid (Own w2.heap.size w12 (.slice a1 1 cap1) [x]) := r2
 obtain ⟨gg0,rfl,_,_,hcl⟩ := r2.cells (by simp)
 have n1 := (keep_rounds (j := 0) HX12.out HW12.out (by decide) (Below.refl _ _)).2.2
 simp only [List.getElem?_cons_zero,Option.getD_some] at n1
 have m0 : w12.cell? ⟨gg0,0,none⟩ = some (.int .i64 (x : Int)) := hcl 0 (by simp)
 obtain ⟨q1,hq1⟩ : ∃ m,m = p + 5 := ⟨_,rfl⟩
 have iq1 : (p : Int) + 5 = (q1 : Int) := by omega
 have bq1 : q1 <= 2251799813685300 := by omega
 have Hq1 := LH hq1
 clear r1 r2 r3 hb3 c0 c1 g0 HBE hcl hq1
 go_wp2_with (at_builtin; refine wpList_append_is rfl _ _ 57 rfl _ _ _ _ rfl rfl R0.out ?_)
 clear iq1 n1 m0
 rw [rounds_succ]
 obtain ⟨c0,c1,g0⟩ := keep_rounds (j := 1) HX12.out HW12.out (by decide) (Below.refl _ _)
 have KS1 := LH (fun W' (h : Below w12.heap.size w12 W') => HS.out.later (HB12.out.trans (h.mono HB12.out.size)))
 have HGET1 := LH (fun W' (h : Below w12.heap.size w12 W') => rget_short _ (Bs.pack l) N (q1) 5 W' (KS1.out W' h) (by omega) (by rw [hl.out]; exact Bs.pack_right l) (by omega) (by have := Hq1.out; omega) (by have := Hq1.out; omega))
 have BD1 := LH ((Below.refl w12.heap.size w12).drew)
 simp only [List.getElem?_cons_zero,List.getElem?_cons_succ,Option.getD_some] at g0
 go_wp2
 go_region_held3 (fun wx => wx.cell? ⟨w.heap.size,0,none⟩ = some (.slice a len cap) /\ wx.cell? ⟨w.heap.size,1,none⟩ = some (.int .i64 (N : Int)) /\ wx.cell? ⟨w1.heap.size,1,none⟩ = some (.int .i64 5)) (first | exact ⟨c0,c1,g0⟩ | exact keep_rounds (j := 1) HX12.out HW12.out (by decide) (BD1.out.trans (hb13.mono (Nat.le_refl _))))
  ((go_at_call 122; refine (HGET1.out _ BD1.out).mono ?_; rintro e w13 ⟨rfl,hb13⟩))
 have HBE := LH (HB12.out.trans ((BD1.out.trans (hb13.mono (Nat.le_refl _))).mono HB12.out.size))
 clear hb13
 go_wp2
 exact bodyPost_ret (v := .tuple #[.slice none 0 0,.slice none 0 0,.int .i64 0,.int .i64 4]) (by simp [results,Tryz.results125,go_sem]) rfl (RReadPost.bad HBE.out)
theorem rhead_e3a (s : Value) (l : List Bool) (N p : Nat) (w : World) (hs : Sl w s (Bs.pack l)) (hl : Hid (N = l.length)) (hN : N <= 2251799813685248) (hp : p + 10 <= N) (h3 : 286 < Hd.num l p 5 + 257) :
  Calls Tryz.prog 125 #[.agg #[s,.int .i64 (N : Int)],.int .i64 (p : Int)] w (RReadPost w ([],[],0,3)) := by
 obtain ⟨a,len,cap,rfl,hlen⟩ := hs.shape
 clear hlen
 have hb0 := below1 w (.cells #[.slice a len cap,.int .i64 (N : Int)] 64)
 have X0 := LH (Has.new w (.cells #[.slice a len cap,.int .i64 (N : Int)] 64))
 have HC := LH (rright_ok _ (Bs.pack l) N _ (hs.later hb0) (by omega) (by rw [hl.out]; exact Bs.pack_right l))
 have HS := LH hs
 have HB := LH hb0
 have d1 : decide ((p : Int) < 0) = false := decide_eq_false (by omega)
 have d2 : decide ((N : Int) < (p : Int)) = false := decide_eq_false (by omega)
 have d3 : decide (N < p) = false := decide_eq_false (by omega)
 obtain ⟨x,hvx⟩ : ∃ v,v = Hd.num l (p) 5 := ⟨_,rfl⟩
 have hx9 : x <= 31 := by have := Hd.num_lt l (p) 5; omega
 have HYx := LH hvx
 obtain ⟨y,hvy⟩ : ∃ v,v = Hd.num l (p + 5) 5 := ⟨_,rfl⟩
 have hy9 : y <= 31 := by have := Hd.num_lt l (p + 5) 5; omega
 have HYy := LH hvy
 rw [<- hvx] at h3
 clear hvx hvy
 clear hs hb0
 go_enter Tryz.func125,Tryz.ntmps125
 go_wp2_with fail
 refine HC.out.mono ?_
 clear HC
 rintro e w1 ⟨rfl,hb1⟩
 obtain ⟨c0,c1,_,_⟩ := (X0.out.later hb1).two
 have HX1 := LH (X0.out.later hb1)
 have HB1 := LH (HB.out.trans (hb1.mono HB.out.size))
 have hlt1 : w.heap.size < w1.heap.size := HX1.out.lt
 clear hb1 X0 HB
 obtain ⟨w2,hw2⟩ : ∃ w2,w2 = w1.alloc (.cells #[.int .i64 5,.int .i64 5,.int .i64 4] 3) := ⟨_,rfl⟩
 have HW2 : Hid (Has w2 w1.heap.size (nums [5,5,4])) := by rw [hw2]; exact Has.new w1 _
 have hb2 : Below w1.heap.size w1 w2 := by rw [hw2]; exact below1 _ _
 have hz2 : w2.heap.size = w1.heap.size + 1 := by rw [hw2]; simp
 have HX2 := LH (HX1.out.later hb2)
 have HB2 := LH (HB1.out.trans (hb2.mono HB1.out.size))
 have HK2 : Hid (Own w2.heap.size w2 (.slice none 0 0) []) := Own.nil _ _
 have HZ2 := LH hz2
 clear hb2 HX1 HB1 hz2
 go_wp2_with fail
 rw [<- hw2]
 clear hw2 c0 c1
 refine wp_loop_rounds 4 ?_
 have HXx : Hid (x = Hd.num l p 5) := HYx.out
 have HY2 : Hid (w2.heap.size <= w2.heap.size) := Nat.le_refl _
 rw [rounds_succ]
 obtain ⟨c0,c1,g0⟩ := keep_rounds (j := 0) HX2.out HW2.out (by decide) (Below.refl _ _)
 have KS0 := LH (fun W' (h : Below w2.heap.size w2 W') => HS.out.later (HB2.out.trans (h.mono HB2.out.size)))
 have HGET0 := LH (fun W' (h : Below w2.heap.size w2 W') => rget_num _ l N (p) 5 W' (KS0.out W' h) hl hN (by omega) (by omega) x HXx)
 have BD0 := LH ((Below.refl w2.heap.size w2).drew)
 simp only [List.getElem?_cons_zero,Option.getD_some] at g0
 go_wp2
 go_region_held3 (fun wx => wx.cell? ⟨w.heap.size,0,none⟩ = some (.slice a len cap) /\ wx.cell? ⟨w.heap.size,1,none⟩ = some (.int .i64 (N : Int)) /\ wx.cell? ⟨w1.heap.size,0,none⟩ = some (.int .i64 5)) (first | exact ⟨c0,c1,g0⟩ | exact keep_rounds (j := 0) HX2.out HW2.out (by decide) (BD0.out.trans (hb3.mono (Nat.le_refl _))))
  ((go_at_call 122; refine (HGET0.out _ BD0.out).mono ?_; rintro e w3 ⟨rfl,hb3⟩))
 obtain ⟨v0,w12,r1,r2,r3⟩ := one_append (base := w2.heap.size) (xs := []) (v := .slice none 0 0) (HK2.out.keep (BD0.out.trans (hb3.mono (Nat.le_refl _)))) 57 x (by simp) (Nat.le_trans HY2.out (BD0.out.trans (hb3.mono (Nat.le_refl _))).size)
 have HBE := BD0.out.trans (hb3.mono (Nat.le_refl _))
 have R0 := LH r1
 have HX12 := LH ((HX2.out.later HBE).below r3 (by have := HZ2.out; omega))
 have HW12 := LH ((HW2.out.later HBE).below r3 (by have := HZ2.out; omega))
 have HB12 := LH (HB2.out.trans ((HBE.mono HB2.out.size).trans (r3.mono HB2.out.size)))
 have HY12 : Hid (w2.heap.size <= w12.heap.size) := Nat.le_trans HY2.out (Nat.le_trans HBE.size r3.size)
 obtain ⟨a1,cap1,rfl⟩ := r2.shape
 have HK12 : Hid (Own w2.heap.size w12 (.slice a1 1 cap1) [x]) := r2
 obtain ⟨gg0,rfl,_,_,hcl⟩ := r2.cells (by simp)
 have n1 := (keep_rounds (j := 0) HX12.out HW12.out (by decide) (Below.refl _ _)).2.2
 simp only [List.getElem?_cons_zero,Option.getD_some] at n1
 have m0 : w12.cell? ⟨gg0,0,none⟩ = some (.int .i64 (x : Int)) := hcl 0 (by simp)
 obtain ⟨q1,hq1⟩ : ∃ m,m = p + 5 := ⟨_,rfl⟩
 have iq1 : (p : Int) + 5 = (q1 : Int) := by omega
 have bq1 : q1 <= 2251799813685300 := by omega
 have Hq1 := LH hq1
 clear r1 r2 r3 hb3 c0 c1 g0 HBE hcl hq1
 go_wp2_with (at_builtin; refine wpList_append_is rfl _ _ 57 rfl _ _ _ _ rfl rfl R0.out ?_)
 clear iq1 n1 m0
 have HXy : Hid (y = Hd.num l q1 5) := by show _ = _; rw [Hq1.out]; exact HYy.out
 rw [rounds_succ]
 obtain ⟨c0,c1,g0⟩ := keep_rounds (j := 1) HX12.out HW12.out (by decide) (Below.refl _ _)
 have KS1 := LH (fun W' (h : Below w12.heap.size w12 W') => HS.out.later (HB12.out.trans (h.mono HB12.out.size)))
 have HGET1 := LH (fun W' (h : Below w12.heap.size w12 W') => rget_num _ l N (q1) 5 W' (KS1.out W' h) hl hN (by omega) (by have := Hq1.out; omega) y HXy)
 have BD1 := LH ((Below.refl w12.heap.size w12).drew)
 simp only [List.getElem?_cons_zero,List.getElem?_cons_succ,Option.getD_some] at g0
 go_wp2
 go_region_held3 (fun wx => wx.cell? ⟨w.heap.size,0,none⟩ = some (.slice a len cap) /\ wx.cell? ⟨w.heap.size,1,none⟩ = some (.int .i64 (N : Int)) /\ wx.cell? ⟨w1.heap.size,1,none⟩ = some (.int .i64 5)) (first | exact ⟨c0,c1,g0⟩ | exact keep_rounds (j := 1) HX12.out HW12.out (by decide) (BD1.out.trans (hb13.mono (Nat.le_refl _))))
  ((go_at_call 122; refine (HGET1.out _ BD1.out).mono ?_; rintro e w13 ⟨rfl,hb13⟩))
 obtain ⟨v1,w22,r1,r2,r3⟩ := one_append (base := w2.heap.size) (xs := [x]) (v := .slice (some ⟨gg0,0,none⟩) 1 cap1) (HK12.out.keep (BD1.out.trans (hb13.mono (Nat.le_refl _)))) 57 y (by simp) (Nat.le_trans HY12.out (BD1.out.trans (hb13.mono (Nat.le_refl _))).size)
 have HBE := BD1.out.trans (hb13.mono (Nat.le_refl _))
 have R1 := LH r1
 have HX22 := LH ((HX12.out.later HBE).below r3 (by have := HZ2.out; omega))
 have HW22 := LH ((HW12.out.later HBE).below r3 (by have := HZ2.out; omega))
 have HB22 := LH (HB12.out.trans ((HBE.mono HB12.out.size).trans (r3.mono HB2.out.size)))
 have HY22 : Hid (w2.heap.size <= w22.heap.size) := Nat.le_trans HY12.out (Nat.le_trans HBE.size r3.size)
 obtain ⟨a2,cap2,rfl⟩ := r2.shape
 have HK22 : Hid (Own w2.heap.size w22 (.slice a2 2 cap2) [x,y]) := r2
 obtain ⟨gg1,rfl,_,_,hcl⟩ := r2.cells (by simp)
 have n1 := (keep_rounds (j := 1) HX22.out HW22.out (by decide) (Below.refl _ _)).2.2
 simp only [List.getElem?_cons_zero,List.getElem?_cons_succ,Option.getD_some] at n1
 have m0 : w22.cell? ⟨gg1,0,none⟩ = some (.int .i64 (x : Int)) := hcl 0 (by simp)
 have m1 : w22.cell? ⟨gg1,1,none⟩ = some (.int .i64 (y : Int)) := hcl 1 (by simp)
 obtain ⟨q2,hq2⟩ : ∃ m,m = q1 + 5 := ⟨_,rfl⟩
 have iq2 : (q1 : Int) + 5 = (q2 : Int) := by omega
 have bq2 : q2 <= 2251799813685310 := by omega
 have Hq2 := LH hq2
 clear r1 r2 r3 hb13 c0 c1 g0 HBE hcl hq2
 have t1 : decide ((286 : Int) < (x : Int) + 257) = true := decide_eq_true (by omega)
 go_wp2_with (at_builtin; refine wpList_append_is rfl _ _ 57 rfl _ _ _ _ rfl rfl R1.out ?_)
 clear iq2 n1 m0 m1
 exact bodyPost_ret (v := .tuple #[.slice none 0 0,.slice none 0 0,.int .i64 0,.int .i64 3]) (by simp [results,Tryz.results125,go_sem]) rfl (RReadPost.bad HB22.out)
theorem rhead_e3b (s : Value) (l : List Bool) (N p : Nat) (w : World) (hs : Sl w s (Bs.pack l)) (hl : Hid (N = l.length)) (hN : N <= 2251799813685248) (hp : p + 10 <= N) (h3 : ¬ 286 < Hd.num l p 5 + 257 /\ 30 < Hd.num l (p + 5) 5 + 1) :
  Calls Tryz.prog 125 #[.agg #[s,.int .i64 (N : Int)],.int .i64 (p : Int)] w (RReadPost w ([],[],0,3)) := by
 obtain ⟨a,len,cap,rfl,hlen⟩ := hs.shape
 clear hlen
 have hb0 := below1 w (.cells #[.slice a len cap,.int .i64 (N : Int)] 64)
 have X0 := LH (Has.new w (.cells #[.slice a len cap,.int .i64 (N : Int)] 64))
 have HC := LH (rright_ok _ (Bs.pack l) N _ (hs.later hb0) (by omega) (by rw [hl.out]; exact Bs.pack_right l))
 have HS := LH hs
 have HB := LH hb0
 have d1 : decide ((p : Int) < 0) = false := decide_eq_false (by omega)
 have d2 : decide ((N : Int) < (p : Int)) = false := decide_eq_false (by omega)
 have d3 : decide (N < p) = false := decide_eq_false (by omega)
 obtain ⟨x,hvx⟩ : ∃ v,v = Hd.num l (p) 5 := ⟨_,rfl⟩
 have hx9 : x <= 31 := by have := Hd.num_lt l (p) 5; omega
 have HYx := LH hvx
 obtain ⟨y,hvy⟩ : ∃ v,v = Hd.num l (p + 5) 5 := ⟨_,rfl⟩
 have hy9 : y <= 31 := by have := Hd.num_lt l (p + 5) 5; omega
 have HYy := LH hvy
 rw [<- hvx,<- hvy] at h3
 clear hvx hvy
 clear hs hb0
 go_enter Tryz.func125,Tryz.ntmps125
 go_wp2_with fail
 refine HC.out.mono ?_
 clear HC
 rintro e w1 ⟨rfl,hb1⟩
 obtain ⟨c0,c1,_,_⟩ := (X0.out.later hb1).two
 have HX1 := LH (X0.out.later hb1)
 have HB1 := LH (HB.out.trans (hb1.mono HB.out.size))
 have hlt1 : w.heap.size < w1.heap.size := HX1.out.lt
 clear hb1 X0 HB
 obtain ⟨w2,hw2⟩ : ∃ w2,w2 = w1.alloc (.cells #[.int .i64 5,.int .i64 5,.int .i64 4] 3) := ⟨_,rfl⟩
 have HW2 : Hid (Has w2 w1.heap.size (nums [5,5,4])) := by rw [hw2]; exact Has.new w1 _
 have hb2 : Below w1.heap.size w1 w2 := by rw [hw2]; exact below1 _ _
 have hz2 : w2.heap.size = w1.heap.size + 1 := by rw [hw2]; simp
 have HX2 := LH (HX1.out.later hb2)
 have HB2 := LH (HB1.out.trans (hb2.mono HB1.out.size))
 have HK2 : Hid (Own w2.heap.size w2 (.slice none 0 0) []) := Own.nil _ _
 have HZ2 := LH hz2
 clear hb2 HX1 HB1 hz2
 go_wp2_with fail
 rw [<- hw2]
 clear hw2 c0 c1
 refine wp_loop_rounds 4 ?_
 have HXx : Hid (x = Hd.num l p 5) := HYx.out
 have HY2 : Hid (w2.heap.size <= w2.heap.size) := Nat.le_refl _
 rw [rounds_succ]
 obtain ⟨c0,c1,g0⟩ := keep_rounds (j := 0) HX2.out HW2.out (by decide) (Below.refl _ _)
 have KS0 := LH (fun W' (h : Below w2.heap.size w2 W') => HS.out.later (HB2.out.trans (h.mono HB2.out.size)))
 have HGET0 := LH (fun W' (h : Below w2.heap.size w2 W') => rget_num _ l N (p) 5 W' (KS0.out W' h) hl hN (by omega) (by omega) x HXx)
 have BD0 := LH ((Below.refl w2.heap.size w2).drew)
 simp only [List.getElem?_cons_zero,Option.getD_some] at g0
 go_wp2
 go_region_held3 (fun wx => wx.cell? ⟨w.heap.size,0,none⟩ = some (.slice a len cap) /\ wx.cell? ⟨w.heap.size,1,none⟩ = some (.int .i64 (N : Int)) /\ wx.cell? ⟨w1.heap.size,0,none⟩ = some (.int .i64 5)) (first | exact ⟨c0,c1,g0⟩ | exact keep_rounds (j := 0) HX2.out HW2.out (by decide) (BD0.out.trans (hb3.mono (Nat.le_refl _))))
  ((go_at_call 122; refine (HGET0.out _ BD0.out).mono ?_; rintro e w3 ⟨rfl,hb3⟩))
 obtain ⟨v0,w12,r1,r2,r3⟩ := one_append (base := w2.heap.size) (xs := []) (v := .slice none 0 0) (HK2.out.keep (BD0.out.trans (hb3.mono (Nat.le_refl _)))) 57 x (by simp) (Nat.le_trans HY2.out (BD0.out.trans (hb3.mono (Nat.le_refl _))).size)
 have HBE := BD0.out.trans (hb3.mono (Nat.le_refl _))
 have R0 := LH r1
 have HX12 := LH ((HX2.out.later HBE).below r3 (by have := HZ2.out; omega))
 have HW12 := LH ((HW2.out.later HBE).below r3 (by have := HZ2.out; omega))
 have HB12 := LH (HB2.out.trans ((HBE.mono HB2.out.size).trans (r3.mono HB2.out.size)))
 have HY12 : Hid (w2.heap.size <= w12.heap.size) := Nat.le_trans HY2.out (Nat.le_trans HBE.size r3.size)
 obtain ⟨a1,cap1,rfl⟩ := r2.shape
 have HK12 : Hid (Own w2.heap.size w12 (.slice a1 1 cap1) [x]) := r2
 obtain ⟨gg0,rfl,_,_,hcl⟩ := r2.cells (by simp)
 have n1 := (keep_rounds (j := 0) HX12.out HW12.out (by decide) (Below.refl _ _)).2.2
 simp only [List.getElem?_cons_zero,Option.getD_some] at n1
 have m0 : w12.cell? ⟨gg0,0,none⟩ = some (.int .i64 (x : Int)) := hcl 0 (by simp)
 obtain ⟨q1,hq1⟩ : ∃ m,m = p + 5 := ⟨_,rfl⟩
 have iq1 : (p : Int) + 5 = (q1 : Int) := by omega
 have bq1 : q1 <= 2251799813685300 := by omega
 have Hq1 := LH hq1
 clear r1 r2 r3 hb3 c0 c1 g0 HBE hcl hq1
 go_wp2_with (at_builtin; refine wpList_append_is rfl _ _ 57 rfl _ _ _ _ rfl rfl R0.out ?_)
 clear iq1 n1 m0
 have HXy : Hid (y = Hd.num l q1 5) := by show _ = _; rw [Hq1.out]; exact HYy.out
 rw [rounds_succ]
 obtain ⟨c0,c1,g0⟩ := keep_rounds (j := 1) HX12.out HW12.out (by decide) (Below.refl _ _)
 have KS1 := LH (fun W' (h : Below w12.heap.size w12 W') => HS.out.later (HB12.out.trans (h.mono HB12.out.size)))
 have HGET1 := LH (fun W' (h : Below w12.heap.size w12 W') => rget_num _ l N (q1) 5 W' (KS1.out W' h) hl hN (by omega) (by have := Hq1.out; omega) y HXy)
 have BD1 := LH ((Below.refl w12.heap.size w12).drew)
 simp only [List.getElem?_cons_zero,List.getElem?_cons_succ,Option.getD_some] at g0
 go_wp2
 go_region_held3 (fun wx => wx.cell? ⟨w.heap.size,0,none⟩ = some (.slice a len cap) /\ wx.cell? ⟨w.heap.size,1,none⟩ = some (.int .i64 (N : Int)) /\ wx.cell? ⟨w1.heap.size,1,none⟩ = some (.int .i64 5)) (first | exact ⟨c0,c1,g0⟩ | exact keep_rounds (j := 1) HX12.out HW12.out (by decide) (BD1.out.trans (hb13.mono (Nat.le_refl _))))
  ((go_at_call 122; refine (HGET1.out _ BD1.out).mono ?_; rintro e w13 ⟨rfl,hb13⟩))
 obtain ⟨v1,w22,r1,r2,r3⟩ := one_append (base := w2.heap.size) (xs := [x]) (v := .slice (some ⟨gg0,0,none⟩) 1 cap1) (HK12.out.keep (BD1.out.trans (hb13.mono (Nat.le_refl _)))) 57 y (by simp) (Nat.le_trans HY12.out (BD1.out.trans (hb13.mono (Nat.le_refl _))).size)
 have HBE := BD1.out.trans (hb13.mono (Nat.le_refl _))
 have R1 := LH r1
 have HX22 := LH ((HX12.out.later HBE).below r3 (by have := HZ2.out; omega))
 have HW22 := LH ((HW12.out.later HBE).below r3 (by have := HZ2.out; omega))
 have HB22 := LH (HB12.out.trans ((HBE.mono HB12.out.size).trans (r3.mono HB2.out.size)))
 have HY22 : Hid (w2.heap.size <= w22.heap.size) := Nat.le_trans HY12.out (Nat.le_trans HBE.size r3.size)
 obtain ⟨a2,cap2,rfl⟩ := r2.shape
 have HK22 : Hid (Own w2.heap.size w22 (.slice a2 2 cap2) [x,y]) := r2
 obtain ⟨gg1,rfl,_,_,hcl⟩ := r2.cells (by simp)
 have n1 := (keep_rounds (j := 1) HX22.out HW22.out (by decide) (Below.refl _ _)).2.2
 simp only [List.getElem?_cons_zero,List.getElem?_cons_succ,Option.getD_some] at n1
 have m0 : w22.cell? ⟨gg1,0,none⟩ = some (.int .i64 (x : Int)) := hcl 0 (by simp)
 have m1 : w22.cell? ⟨gg1,1,none⟩ = some (.int .i64 (y : Int)) := hcl 1 (by simp)
 obtain ⟨q2,hq2⟩ : ∃ m,m = q1 + 5 := ⟨_,rfl⟩
 have iq2 : (q1 : Int) + 5 = (q2 : Int) := by omega
 have bq2 : q2 <= 2251799813685310 := by omega
 have Hq2 := LH hq2
 clear r1 r2 r3 hb13 c0 c1 g0 HBE hcl hq2
 have t1 : decide ((286 : Int) < (x : Int) + 257) = false := decide_eq_false (by omega)
 have t2 : decide ((30 : Int) < (y : Int) + 1) = true := decide_eq_true (by omega)
 go_wp2_with (at_builtin; refine wpList_append_is rfl _ _ 57 rfl _ _ _ _ rfl rfl R1.out ?_)
 clear iq2 n1 m0 m1
 exact bodyPost_ret (v := .tuple #[.slice none 0 0,.slice none 0 0,.int .i64 0,.int .i64 3]) (by simp [results,Tryz.results125,go_sem]) rfl (RReadPost.bad HB22.out)
theorem rhead_e4 (s : Value) (l : List Bool) (N p : Nat) (w : World) (hs : Sl w s (Bs.pack l)) (hl : Hid (N = l.length)) (hN : N <= 2251799813685248) (hp : p + 10 <= N) (h3 : ¬ (286 < Hd.num l p 5 + 257 ∨ 30 < Hd.num l (p + 5) 5 + 1)) (h4 : N < p + 14) :
  Calls Tryz.prog 125 #[.agg #[s,.int .i64 (N : Int)],.int .i64 (p : Int)] w (RReadPost w ([],[],0,4)) := by
 obtain ⟨a,len,cap,rfl,hlen⟩ := hs.shape
 clear hlen
 have hb0 := below1 w (.cells #[.slice a len cap,.int .i64 (N : Int)] 64)
 have X0 := LH (Has.new w (.cells #[.slice a len cap,.int .i64 (N : Int)] 64))
 have HC := LH (rright_ok _ (Bs.pack l) N _ (hs.later hb0) (by omega) (by rw [hl.out]; exact Bs.pack_right l))
 have HS := LH hs
 have HB := LH hb0
 have d1 : decide ((p : Int) < 0) = false := decide_eq_false (by omega)
 have d2 : decide ((N : Int) < (p : Int)) = false := decide_eq_false (by omega)
 have d3 : decide (N < p) = false := decide_eq_false (by omega)
 obtain ⟨x,hvx⟩ : ∃ v,v = Hd.num l (p) 5 := ⟨_,rfl⟩
 have hx9 : x <= 31 := by have := Hd.num_lt l (p) 5; omega
 have HYx := LH hvx
 obtain ⟨y,hvy⟩ : ∃ v,v = Hd.num l (p + 5) 5 := ⟨_,rfl⟩
 have hy9 : y <= 31 := by have := Hd.num_lt l (p + 5) 5; omega
 have HYy := LH hvy
 rw [<- hvx,<- hvy] at h3
 clear hvx hvy
 clear hs hb0
 go_enter Tryz.func125,Tryz.ntmps125
 go_wp2_with fail
 refine HC.out.mono ?_
 clear HC
 rintro e w1 ⟨rfl,hb1⟩
 obtain ⟨c0,c1,_,_⟩ := (X0.out.later hb1).two
 have HX1 := LH (X0.out.later hb1)
 have HB1 := LH (HB.out.trans (hb1.mono HB.out.size))
 have hlt1 : w.heap.size < w1.heap.size := HX1.out.lt
 clear hb1 X0 HB
 obtain ⟨w2,hw2⟩ : ∃ w2,w2 = w1.alloc (.cells #[.int .i64 5,.int .i64 5,.int .i64 4] 3) := ⟨_,rfl⟩
 have HW2 : Hid (Has w2 w1.heap.size (nums [5,5,4])) := by rw [hw2]; exact Has.new w1 _
 have hb2 : Below w1.heap.size w1 w2 := by rw [hw2]; exact below1 _ _
 have hz2 : w2.heap.size = w1.heap.size + 1 := by rw [hw2]; simp
 have HX2 := LH (HX1.out.later hb2)
 have HB2 := LH (HB1.out.trans (hb2.mono HB1.out.size))
 have HK2 : Hid (Own w2.heap.size w2 (.slice none 0 0) []) := Own.nil _ _
 have HZ2 := LH hz2
 clear hb2 HX1 HB1 hz2
 go_wp2_with fail
 rw [<- hw2]
 clear hw2 c0 c1
 refine wp_loop_rounds 4 ?_
 have HXx : Hid (x = Hd.num l p 5) := HYx.out
 have HY2 : Hid (w2.heap.size <= w2.heap.size) := Nat.le_refl _
 rw [rounds_succ]
 obtain ⟨c0,c1,g0⟩ := keep_rounds (j := 0) HX2.out HW2.out (by decide) (Below.refl _ _)
 have KS0 := LH (fun W' (h : Below w2.heap.size w2 W') => HS.out.later (HB2.out.trans (h.mono HB2.out.size)))
 have HGET0 := LH (fun W' (h : Below w2.heap.size w2 W') => rget_num _ l N (p) 5 W' (KS0.out W' h) hl hN (by omega) (by omega) x HXx)
 have BD0 := LH ((Below.refl w2.heap.size w2).drew)
 simp only [List.getElem?_cons_zero,Option.getD_some] at g0
 go_wp2
 go_region_held3 (fun wx => wx.cell? ⟨w.heap.size,0,none⟩ = some (.slice a len cap) /\ wx.cell? ⟨w.heap.size,1,none⟩ = some (.int .i64 (N : Int)) /\ wx.cell? ⟨w1.heap.size,0,none⟩ = some (.int .i64 5)) (first | exact ⟨c0,c1,g0⟩ | exact keep_rounds (j := 0) HX2.out HW2.out (by decide) (BD0.out.trans (hb3.mono (Nat.le_refl _))))
  ((go_at_call 122; refine (HGET0.out _ BD0.out).mono ?_; rintro e w3 ⟨rfl,hb3⟩))
 obtain ⟨v0,w12,r1,r2,r3⟩ := one_append (base := w2.heap.size) (xs := []) (v := .slice none 0 0) (HK2.out.keep (BD0.out.trans (hb3.mono (Nat.le_refl _)))) 57 x (by simp) (Nat.le_trans HY2.out (BD0.out.trans (hb3.mono (Nat.le_refl _))).size)
 have HBE := BD0.out.trans (hb3.mono (Nat.le_refl _))
 have R0 := LH r1
 have HX12 := LH ((HX2.out.later HBE).below r3 (by have := HZ2.out; omega))
 have HW12 := LH ((HW2.out.later HBE).below r3 (by have := HZ2.out; omega))
 have HB12 := LH (HB2.out.trans ((HBE.mono HB2.out.size).trans (r3.mono HB2.out.size)))
 have HY12 : Hid (w2.heap.size <= w12.heap.size) := Nat.le_trans HY2.out (Nat.le_trans HBE.size r3.size)
 obtain ⟨a1,cap1,rfl⟩ := r2.shape
 have HK12 : Hid (Own w2.heap.size w12 (.slice a1 1 cap1) [x]) := r2
 obtain ⟨gg0,rfl,_,_,hcl⟩ := r2.cells (by simp)
 have n1 := (keep_rounds (j := 0) HX12.out HW12.out (by decide) (Below.refl _ _)).2.2
 simp only [List.getElem?_cons_zero,Option.getD_some] at n1
 have m0 : w12.cell? ⟨gg0,0,none⟩ = some (.int .i64 (x : Int)) := hcl 0 (by simp)
 obtain ⟨q1,hq1⟩ : ∃ m,m = p + 5 := ⟨_,rfl⟩
 have iq1 : (p : Int) + 5 = (q1 : Int) := by omega
 have bq1 : q1 <= 2251799813685300 := by omega
 have Hq1 := LH hq1
 clear r1 r2 r3 hb3 c0 c1 g0 HBE hcl hq1
 go_wp2_with (at_builtin; refine wpList_append_is rfl _ _ 57 rfl _ _ _ _ rfl rfl R0.out ?_)
 clear iq1 n1 m0
 have HXy : Hid (y = Hd.num l q1 5) := by show _ = _; rw [Hq1.out]; exact HYy.out
 rw [rounds_succ]
 obtain ⟨c0,c1,g0⟩ := keep_rounds (j := 1) HX12.out HW12.out (by decide) (Below.refl _ _)
 have KS1 := LH (fun W' (h : Below w12.heap.size w12 W') => HS.out.later (HB12.out.trans (h.mono HB12.out.size)))
 have HGET1 := LH (fun W' (h : Below w12.heap.size w12 W') => rget_num _ l N (q1) 5 W' (KS1.out W' h) hl hN (by omega) (by have := Hq1.out; omega) y HXy)
 have BD1 := LH ((Below.refl w12.heap.size w12).drew)
 simp only [List.getElem?_cons_zero,List.getElem?_cons_succ,Option.getD_some] at g0
 go_wp2
 go_region_held3 (fun wx => wx.cell? ⟨w.heap.size,0,none⟩ = some (.slice a len cap) /\ wx.cell? ⟨w.heap.size,1,none⟩ = some (.int .i64 (N : Int)) /\ wx.cell? ⟨w1.heap.size,1,none⟩ = some (.int .i64 5)) (first | exact ⟨c0,c1,g0⟩ | exact keep_rounds (j := 1) HX12.out HW12.out (by decide) (BD1.out.trans (hb13.mono (Nat.le_refl _))))
  ((go_at_call 122; refine (HGET1.out _ BD1.out).mono ?_; rintro e w13 ⟨rfl,hb13⟩))
 obtain ⟨v1,w22,r1,r2,r3⟩ := one_append (base := w2.heap.size) (xs := [x]) (v := .slice (some ⟨gg0,0,none⟩) 1 cap1) (HK12.out.keep (BD1.out.trans (hb13.mono (Nat.le_refl _)))) 57 y (by simp) (Nat.le_trans HY12.out (BD1.out.trans (hb13.mono (Nat.le_refl _))).size)
 have HBE := BD1.out.trans (hb13.mono (Nat.le_refl _))
 have R1 := LH r1
 have HX22 := LH ((HX12.out.later HBE).below r3 (by have := HZ2.out; omega))
 have HW22 := LH ((HW12.out.later HBE).below r3 (by have := HZ2.out; omega))
 have HB22 := LH (HB12.out.trans ((HBE.mono HB12.out.size).trans (r3.mono HB2.out.size)))
 have HY22 : Hid (w2.heap.size <= w22.heap.size) := Nat.le_trans HY12.out (Nat.le_trans HBE.size r3.size)
 obtain ⟨a2,cap2,rfl⟩ := r2.shape
 have HK22 : Hid (Own w2.heap.size w22 (.slice a2 2 cap2) [x,y]) := r2
 obtain ⟨gg1,rfl,_,_,hcl⟩ := r2.cells (by simp)
 have n1 := (keep_rounds (j := 1) HX22.out HW22.out (by decide) (Below.refl _ _)).2.2
 simp only [List.getElem?_cons_zero,List.getElem?_cons_succ,Option.getD_some] at n1
 have m0 : w22.cell? ⟨gg1,0,none⟩ = some (.int .i64 (x : Int)) := hcl 0 (by simp)
 have m1 : w22.cell? ⟨gg1,1,none⟩ = some (.int .i64 (y : Int)) := hcl 1 (by simp)
 obtain ⟨q2,hq2⟩ : ∃ m,m = q1 + 5 := ⟨_,rfl⟩
 have iq2 : (q1 : Int) + 5 = (q2 : Int) := by omega
 have bq2 : q2 <= 2251799813685310 := by omega
 have Hq2 := LH hq2
 clear r1 r2 r3 hb13 c0 c1 g0 HBE hcl hq2
 have t1 : decide ((286 : Int) < (x : Int) + 257) = false := decide_eq_false (by omega)
 have t2 : decide ((30 : Int) < (y : Int) + 1) = false := decide_eq_false (by omega)
 go_wp2_with (at_builtin; refine wpList_append_is rfl _ _ 57 rfl _ _ _ _ rfl rfl R1.out ?_)
 clear iq2 n1 m0 m1
 rw [rounds_succ]
 obtain ⟨c0,c1,g0⟩ := keep_rounds (j := 2) HX22.out HW22.out (by decide) (Below.refl _ _)
 have KS2 := LH (fun W' (h : Below w22.heap.size w22 W') => HS.out.later (HB22.out.trans (h.mono HB22.out.size)))
 have HGET2 := LH (fun W' (h : Below w22.heap.size w22 W') => rget_short _ (Bs.pack l) N (q2) 4 W' (KS2.out W' h) (by omega) (by rw [hl.out]; exact Bs.pack_right l) (by omega) (by have := Hq1.out; have := Hq2.out; omega) (by have := Hq1.out; have := Hq2.out; omega))
 have BD2 := LH ((Below.refl w22.heap.size w22).drew)
 simp only [List.getElem?_cons_zero,List.getElem?_cons_succ,Option.getD_some] at g0
 go_wp2
 go_region_held3 (fun wx => wx.cell? ⟨w.heap.size,0,none⟩ = some (.slice a len cap) /\ wx.cell? ⟨w.heap.size,1,none⟩ = some (.int .i64 (N : Int)) /\ wx.cell? ⟨w1.heap.size,2,none⟩ = some (.int .i64 4)) (first | exact ⟨c0,c1,g0⟩ | exact keep_rounds (j := 2) HX22.out HW22.out (by decide) (BD2.out.trans (hb23.mono (Nat.le_refl _))))
  ((go_at_call 122; refine (HGET2.out _ BD2.out).mono ?_; rintro e w23 ⟨rfl,hb23⟩))
 have HBE := LH (HB22.out.trans ((BD2.out.trans (hb23.mono (Nat.le_refl _))).mono HB22.out.size))
 clear hb23
 go_wp2
 exact bodyPost_ret (v := .tuple #[.slice none 0 0,.slice none 0 0,.int .i64 0,.int .i64 4]) (by simp [results,Tryz.results125,go_sem]) rfl (RReadPost.bad HBE.out)
end Go.Proofs.YtmgpcbjciioiaaaGreatDoor
