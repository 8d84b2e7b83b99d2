/- Contract of the document's header.Read: the runs. -/
import Derived.Test.YtnjlljdbghcobaaGreatDoorKrread2

namespace Go.Proofs.YtnjlljdbghcobaaGreatDoor
set_option maxRecDepth 100000
open Go.RowKit

theorem fit_of {zs : List Int} (h : newE zs = 0) : Fit zs := by
  unfold newE at h
  by_cases hc : chk zs = 12 ∧ Lone (nat zs)
  · exact Or.inr hc.1
  · rw [if_neg hc] at h; exact Or.inl h

theorem rread_rd (s2 : Value) (ls : List Nat) (s : Value) (l : List Bool) (N p : Nat) (w : World) (hs : Sl w s (Bs.pack l)) (hz : Zl w s2 (Hd.zz ls)) (hl : Hid (N = l.length)) (hN : N ≤ 2251799813685248) (hp : p ≤ N) (hf : Fit (Hd.zz ls)) (y q : Nat) (c : Int) (hr : Hid (Hd.rd ls l p = (y, q, c))) :
    Calls Tryz.prog 165 #[s2, .agg #[s, .int .i64 (N : Int)], .int .i64 (p : Int)] w fun e w' => e = .returned (.tuple #[.int .i64 (y : Int), .int .i64 (q : Int), .int .i64 c]) ∧ Below w.heap.size w w' := by
  refine (rread_ok s2 (Hd.zz ls) s l N p w hs hz hl hN hp hf).mono ?_
  rintro e w' ⟨r, rfl, hrd, hb⟩
  rw [Hd.nat_zz] at hrd
  have h := Hd.rd_is hrd
  rw [hr.out] at h
  subst h
  exact ⟨rfl, hb⟩

set_option maxRecDepth 100000 in
set_option maxHeartbeats 8000000 in
theorem rhead_run (s : Value) (l : List Bool) (N p : Nat) (w : World) (hs : Sl w s (Bs.pack l)) (hl : Hid (N = l.length)) (hN : N ≤ 2251799813685248) (hp : p + 14 ≤ N) (h3 : ¬ (286 < Hd.num l p 5 + 257 ∨ 30 < Hd.num l (p + 5) 5 + 1)) (h5 : p + 14 + 3 * (Hd.num l (p + 10) 4 + 4) ≤ N) (h6 : newE (Hd.zz (Hd.cl l (p + 14) (Hd.num l (p + 10) 4 + 4))) = 0) :
    Calls Tryz.prog 123 #[.agg #[s, .int .i64 (N : Int)], .int .i64 (p : Int)] w (RReadPost w (Hd.fin (Hd.num l p 5 + 257) (Hd.runs (Hd.cl l (p + 14) (Hd.num l (p + 10) 4 + 4)) l (Hd.num l p 5 + 257 + (Hd.num l (p + 5) 5 + 1)) 400 [] (p + 14 + 3 * (Hd.num l (p + 10) 4 + 4))))) := by
  obtain ⟨a, len, cap, rfl, hlen⟩ := hs.shape
  clear hlen
  have hb0 := below1 w (.cells #[.slice a len cap, .int .i64 (N : Int)] 36)
  have X0 := Lib.hid (Has.new w (.cells #[.slice a len cap, .int .i64 (N : Int)] 36))
  have HC := Lib.hid (rright_ok _ (Bs.pack l) N _ (hs.later hb0) (by omega) (by rw [hl.out]; exact Bs.pack_right l))
  have HS := Lib.hid hs
  have HB := Lib.hid hb0
  have d1 : decide ((p : Int) < 0) = false := decide_eq_false (by omega)
  have d2 : decide ((N : Int) < (p : Int)) = false := decide_eq_false (by omega)
  have d3 : decide (N < p) = false := decide_eq_false (by omega)
  obtain ⟨x, hvx⟩ : ∃ v, v = Hd.num l (p) 5 := ⟨_, rfl⟩
  have hx9 : x ≤ 31 := by have := Hd.num_lt l (p) 5; omega
  have HYx := Lib.hid hvx
  obtain ⟨y, hvy⟩ : ∃ v, v = Hd.num l (p + 5) 5 := ⟨_, rfl⟩
  have hy9 : y ≤ 31 := by have := Hd.num_lt l (p + 5) 5; omega
  have HYy := Lib.hid hvy
  obtain ⟨z, hvz⟩ : ∃ v, v = Hd.num l (p + 10) 4 := ⟨_, rfl⟩
  have hz9 : z ≤ 15 := by have := Hd.num_lt l (p + 10) 4; omega
  have HYz := Lib.hid hvz
  rw [← hvx, ← hvy] at h3
  have hc6 := h6
  rw [← hvx, ← hvy, ← hvz]
  rw [← hvz] at h5 h6
  obtain ⟨ls, hls⟩ : ∃ ls, ls = Hd.cl l (p + 14) (z + 4) := ⟨_, rfl⟩
  rw [← hls] at h6 ⊢
  have hl19 : ls.length = 19 := by rw [hls]; exact Hd.cl_length _ _ _
  have HFIT := Lib.hid (fun _ : Unit => fit_of h6)
  have HE0 : Hid (Unit → newE (Hd.zz ls) = 0) := fun _ => h6
  obtain ⟨n, hn⟩ : ∃ n, n = x + 257 + (y + 1) := ⟨_, rfl⟩
  have hni : (x : Int) + 257 + (y : Int) + 1 = (n : Int) := by omega
  rw [← hn]
  obtain ⟨res, hres⟩ : ∃ res, res = Hd.runs ls l n 400 [] (p + 14 + 3 * (z + 4)) := ⟨_, rfl⟩
  rw [← hres]
  have HRES := Lib.hid (fun _ : Unit => hres)
  have HLS := Lib.hid hls
  have HL19 := Lib.hid hl19
  have HN := Lib.hid hn
  have hn0 : 258 ≤ n ∧ n ≤ 316 := by omega
  have HNI := Lib.hid hni
  clear hvx hvy hvz hc6 h6 hls hl19 hn hni hres
  clear hs hb0
  go_enter Tryz.func123, Tryz.ntmps123
  go_wp2_with fail
  refine HC.out.mono ?_
  clear HC
  rintro e w1 ⟨rfl, hb1⟩
  obtain ⟨c0, c1, _, _⟩ := (X0.out.later hb1).two
  have HX1 := Lib.hid (X0.out.later hb1)
  have HB1 := Lib.hid (HB.out.trans (hb1.mono HB.out.size))
  have hlt1 : w.heap.size < w1.heap.size := HX1.out.lt
  clear hb1 X0 HB
  obtain ⟨w2, hw2⟩ : ∃ w2, w2 = w1.alloc (.cells #[.int .i64 5, .int .i64 5, .int .i64 4] 3) := ⟨_, rfl⟩
  have HW2 : Hid (Has w2 w1.heap.size (nums [5, 5, 4])) := by rw [hw2]; exact Has.new w1 _
  have hb2 : Below w1.heap.size w1 w2 := by rw [hw2]; exact below1 _ _
  have hz2 : w2.heap.size = w1.heap.size + 1 := by rw [hw2]; simp
  have HX2 := Lib.hid (HX1.out.later hb2)
  have HB2 := Lib.hid (HB1.out.trans (hb2.mono HB1.out.size))
  have HK2 : Hid (Own w2.heap.size w2 (.slice none 0 0) []) := Own.nil _ _
  have HZ2 := Lib.hid hz2
  clear hb2 HX1 HB1 hz2
  go_wp2_with fail
  rw [← hw2]
  clear hw2 c0 c1
  refine wp_loop_rounds 4 ?_
  have HXx : Hid (x = Hd.num l p 5) := HYx.out
  have HY2 : Hid (w2.heap.size ≤ w2.heap.size) := Nat.le_refl _
  rw [rounds_succ]
  obtain ⟨c0, c1, g0⟩ := keep_rounds (j := 0) HX2.out HW2.out (by decide) (Below.refl _ _)
  have KS0 := Lib.hid (fun W' (h : Below w2.heap.size w2 W') => HS.out.later (HB2.out.trans (h.mono HB2.out.size)))
  have HGET0 := Lib.hid (fun W' (h : Below w2.heap.size w2 W') => rget_num _ l N (p) 5 W' (KS0.out W' h) hl hN (by omega) (by omega) x HXx)
  have BD0 := Lib.hid ((Below.refl w2.heap.size w2).drew)
  simp only [List.getElem?_cons_zero, Option.getD_some] at g0
  go_wp2
  go_region_held3 (fun wx => wx.cell? ⟨w.heap.size, 0, none⟩ = some (.slice a len cap) ∧ wx.cell? ⟨w.heap.size, 1, none⟩ = some (.int .i64 (N : Int)) ∧ wx.cell? ⟨w1.heap.size, 0, none⟩ = some (.int .i64 5)) (first | exact ⟨c0, c1, g0⟩ | exact keep_rounds (j := 0) HX2.out HW2.out (by decide) (BD0.out.trans (hb3.mono (Nat.le_refl _))))
    ((go_at_call 120; refine (HGET0.out _ BD0.out).mono ?_; rintro e w3 ⟨rfl, hb3⟩))
  obtain ⟨v0, w12, r1, r2, r3⟩ := one_append (base := w2.heap.size) (xs := []) (v := .slice none 0 0) (HK2.out.keep (BD0.out.trans (hb3.mono (Nat.le_refl _)))) 33 x (by simp) (Nat.le_trans HY2.out (BD0.out.trans (hb3.mono (Nat.le_refl _))).size)
  have HBE := BD0.out.trans (hb3.mono (Nat.le_refl _))
  have R0 := Lib.hid r1
  have HX12 := Lib.hid ((HX2.out.later HBE).below r3 (by have := HZ2.out; omega))
  have HW12 := Lib.hid ((HW2.out.later HBE).below r3 (by have := HZ2.out; omega))
  have HB12 := Lib.hid (HB2.out.trans ((HBE.mono HB2.out.size).trans (r3.mono HB2.out.size)))
  have HY12 : Hid (w2.heap.size ≤ w12.heap.size) := Nat.le_trans HY2.out (Nat.le_trans HBE.size r3.size)
  obtain ⟨a1, cap1, rfl⟩ := r2.shape
  have HK12 : Hid (Own w2.heap.size w12 (.slice a1 1 cap1) [x]) := r2
  obtain ⟨gg0, rfl, _, _, hcl⟩ := r2.cells (by simp)
  have n1 := (keep_rounds (j := 0) HX12.out HW12.out (by decide) (Below.refl _ _)).2.2
  simp only [List.getElem?_cons_zero, Option.getD_some] at n1
  have m0 : w12.cell? ⟨gg0, 0, none⟩ = some (.int .i64 (x : Int)) := hcl 0 (by simp)
  obtain ⟨q1, hq1⟩ : ∃ m, m = p + 5 := ⟨_, rfl⟩
  have iq1 : (p : Int) + 5 = (q1 : Int) := by omega
  have bq1 : q1 ≤ 2251799813685300 := by omega
  have Hq1 := Lib.hid hq1
  clear r1 r2 r3 hb3 c0 c1 g0 HBE hcl hq1
  go_wp2_with (at_builtin; refine wpList_append_is rfl _ _ 33 rfl _ _ _ _ rfl rfl R0.out ?_)
  clear iq1 n1 m0
  have HXy : Hid (y = Hd.num l q1 5) := by show _ = _; rw [Hq1.out]; exact HYy.out
  rw [rounds_succ]
  obtain ⟨c0, c1, g0⟩ := keep_rounds (j := 1) HX12.out HW12.out (by decide) (Below.refl _ _)
  have KS1 := Lib.hid (fun W' (h : Below w12.heap.size w12 W') => HS.out.later (HB12.out.trans (h.mono HB12.out.size)))
  have HGET1 := Lib.hid (fun W' (h : Below w12.heap.size w12 W') => rget_num _ l N (q1) 5 W' (KS1.out W' h) hl hN (by omega) (by have := Hq1.out; omega) y HXy)
  have BD1 := Lib.hid ((Below.refl w12.heap.size w12).drew)
  simp only [List.getElem?_cons_zero, List.getElem?_cons_succ, Option.getD_some] at g0
  go_wp2
  go_region_held3 (fun wx => wx.cell? ⟨w.heap.size, 0, none⟩ = some (.slice a len cap) ∧ wx.cell? ⟨w.heap.size, 1, none⟩ = some (.int .i64 (N : Int)) ∧ wx.cell? ⟨w1.heap.size, 1, none⟩ = some (.int .i64 5)) (first | exact ⟨c0, c1, g0⟩ | exact keep_rounds (j := 1) HX12.out HW12.out (by decide) (BD1.out.trans (hb13.mono (Nat.le_refl _))))
    ((go_at_call 120; refine (HGET1.out _ BD1.out).mono ?_; rintro e w13 ⟨rfl, hb13⟩))
  obtain ⟨v1, w22, r1, r2, r3⟩ := one_append (base := w2.heap.size) (xs := [x]) (v := .slice (some ⟨gg0, 0, none⟩) 1 cap1) (HK12.out.keep (BD1.out.trans (hb13.mono (Nat.le_refl _)))) 33 y (by simp) (Nat.le_trans HY12.out (BD1.out.trans (hb13.mono (Nat.le_refl _))).size)
  have HBE := BD1.out.trans (hb13.mono (Nat.le_refl _))
  have R1 := Lib.hid r1
  have HX22 := Lib.hid ((HX12.out.later HBE).below r3 (by have := HZ2.out; omega))
  have HW22 := Lib.hid ((HW12.out.later HBE).below r3 (by have := HZ2.out; omega))
  have HB22 := Lib.hid (HB12.out.trans ((HBE.mono HB12.out.size).trans (r3.mono HB2.out.size)))
  have HY22 : Hid (w2.heap.size ≤ w22.heap.size) := Nat.le_trans HY12.out (Nat.le_trans HBE.size r3.size)
  obtain ⟨a2, cap2, rfl⟩ := r2.shape
  have HK22 : Hid (Own w2.heap.size w22 (.slice a2 2 cap2) [x, y]) := r2
  obtain ⟨gg1, rfl, _, _, hcl⟩ := r2.cells (by simp)
  have n1 := (keep_rounds (j := 1) HX22.out HW22.out (by decide) (Below.refl _ _)).2.2
  simp only [List.getElem?_cons_zero, List.getElem?_cons_succ, Option.getD_some] at n1
  have m0 : w22.cell? ⟨gg1, 0, none⟩ = some (.int .i64 (x : Int)) := hcl 0 (by simp)
  have m1 : w22.cell? ⟨gg1, 1, none⟩ = some (.int .i64 (y : Int)) := hcl 1 (by simp)
  obtain ⟨q2, hq2⟩ : ∃ m, m = q1 + 5 := ⟨_, rfl⟩
  have iq2 : (q1 : Int) + 5 = (q2 : Int) := by omega
  have bq2 : q2 ≤ 2251799813685310 := by omega
  have Hq2 := Lib.hid hq2
  clear r1 r2 r3 hb13 c0 c1 g0 HBE hcl hq2
  have t1 : decide ((286 : Int) < (x : Int) + 257) = false := decide_eq_false (by omega)
  have t2 : decide ((30 : Int) < (y : Int) + 1) = false := decide_eq_false (by omega)
  go_wp2_with (at_builtin; refine wpList_append_is rfl _ _ 33 rfl _ _ _ _ rfl rfl R1.out ?_)
  clear iq2 n1 m0 m1
  have HXz : Hid (z = Hd.num l q2 4) := by show _ = _; rw [Hq2.out, Hq1.out]; exact HYz.out
  rw [rounds_succ]
  obtain ⟨c0, c1, g0⟩ := keep_rounds (j := 2) HX22.out HW22.out (by decide) (Below.refl _ _)
  have KS2 := Lib.hid (fun W' (h : Below w22.heap.size w22 W') => HS.out.later (HB22.out.trans (h.mono HB22.out.size)))
  have HGET2 := Lib.hid (fun W' (h : Below w22.heap.size w22 W') => rget_num _ l N (q2) 4 W' (KS2.out W' h) hl hN (by omega) (by have := Hq1.out; have := Hq2.out; omega) z HXz)
  have BD2 := Lib.hid ((Below.refl w22.heap.size w22).drew)
  simp only [List.getElem?_cons_zero, List.getElem?_cons_succ, Option.getD_some] at g0
  go_wp2
  go_region_held3 (fun wx => wx.cell? ⟨w.heap.size, 0, none⟩ = some (.slice a len cap) ∧ wx.cell? ⟨w.heap.size, 1, none⟩ = some (.int .i64 (N : Int)) ∧ wx.cell? ⟨w1.heap.size, 2, none⟩ = some (.int .i64 4)) (first | exact ⟨c0, c1, g0⟩ | exact keep_rounds (j := 2) HX22.out HW22.out (by decide) (BD2.out.trans (hb23.mono (Nat.le_refl _))))
    ((go_at_call 120; refine (HGET2.out _ BD2.out).mono ?_; rintro e w23 ⟨rfl, hb23⟩))
  obtain ⟨v2, w32, r1, r2, r3⟩ := one_append (base := w2.heap.size) (xs := [x, y]) (v := .slice (some ⟨gg1, 0, none⟩) 2 cap2) (HK22.out.keep (BD2.out.trans (hb23.mono (Nat.le_refl _)))) 33 z (by simp) (Nat.le_trans HY22.out (BD2.out.trans (hb23.mono (Nat.le_refl _))).size)
  have HBE := BD2.out.trans (hb23.mono (Nat.le_refl _))
  have R2 := Lib.hid r1
  have HX32 := Lib.hid ((HX22.out.later HBE).below r3 (by have := HZ2.out; omega))
  have HW32 := Lib.hid ((HW22.out.later HBE).below r3 (by have := HZ2.out; omega))
  have HB32 := Lib.hid (HB22.out.trans ((HBE.mono HB22.out.size).trans (r3.mono HB2.out.size)))
  have HY32 : Hid (w2.heap.size ≤ w32.heap.size) := Nat.le_trans HY22.out (Nat.le_trans HBE.size r3.size)
  obtain ⟨a3, cap3, rfl⟩ := r2.shape
  have HK32 : Hid (Own w2.heap.size w32 (.slice a3 3 cap3) [x, y, z]) := r2
  obtain ⟨gg2, rfl, _, _, hcl⟩ := r2.cells (by simp)
  have n1 := (keep_rounds (j := 2) HX32.out HW32.out (by decide) (Below.refl _ _)).2.2
  simp only [List.getElem?_cons_zero, List.getElem?_cons_succ, Option.getD_some] at n1
  have m0 : w32.cell? ⟨gg2, 0, none⟩ = some (.int .i64 (x : Int)) := hcl 0 (by simp)
  have m1 : w32.cell? ⟨gg2, 1, none⟩ = some (.int .i64 (y : Int)) := hcl 1 (by simp)
  have m2 : w32.cell? ⟨gg2, 2, none⟩ = some (.int .i64 (z : Int)) := hcl 2 (by simp)
  obtain ⟨q3, hq3⟩ : ∃ m, m = q2 + 4 := ⟨_, rfl⟩
  have iq3 : (q2 : Int) + 4 = (q3 : Int) := by omega
  have bq3 : q3 ≤ 2251799813685320 := by omega
  have Hq3 := Lib.hid hq3
  clear r1 r2 r3 hb23 c0 c1 g0 HBE hcl hq3
  go_wp2_with (at_builtin; refine wpList_append_is rfl _ _ 33 rfl _ _ _ _ rfl rfl R2.out ?_)
  clear iq3 n1 m0 m1 m2
  obtain ⟨e0, e1, _⟩ := keep_rounds (j := 0) HX32.out HW32.out (by decide) (Below.refl _ _)
  obtain ⟨g2, hg2, _, _, hcl⟩ := HK32.out.cells (by simp)
  obtain rfl : gg2 = g2 := by simpa using hg2
  have m0 : w32.cell? ⟨gg2, 0, none⟩ = some (.int .i64 (x : Int)) := hcl 0 (by simp)
  have m1 : w32.cell? ⟨gg2, 1, none⟩ = some (.int .i64 (y : Int)) := hcl 1 (by simp)
  have m2 : w32.cell? ⟨gg2, 2, none⟩ = some (.int .i64 (z : Int)) := hcl 2 (by simp)
  have hg2lt : gg2 < w32.heap.size := World.block_lt_of_cell? w32 _ m0
  obtain ⟨c, hc⟩ : ∃ c, c = z + 4 := ⟨_, rfl⟩
  have ic : (z : Int) + 4 = (c : Int) := by omega
  have hcc : IntKind.i64.wrap ((z : Int) + 4) = (c : Int) := by rw [IntWalk.i64_in _ (by omega)]; exact ic
  have hq3 : q3 = p + 14 := by have := Hq1.out; have := Hq2.out; have := Hq3.out; omega
  have HCODE := Lib.hid (fun W' (h : Below w32.heap.size w32 W') => rcodes_any _ l N q3 c W' (HS.out.later (HB32.out.trans (h.mono HB32.out.size))) hl hN (by omega) (by omega))
  have HCC := Lib.hid hc
  have HQ3 := Lib.hid hq3
  have BD3 := Lib.hid ((Below.refl w32.heap.size w32).drew)
  have hcN : c ≤ 19 := by omega
  clear hg2 hcl hc hq3 ic
  have KEEP3 : Hid (∀ W', Below w32.heap.size w32 W' → W'.cell? ⟨w.heap.size, 0, none⟩ = some (.slice a len cap) ∧ W'.cell? ⟨w.heap.size, 1, none⟩ = some (.int .i64 (N : Int)) ∧ W'.cell? ⟨gg2, 2, none⟩ = some (.int .i64 (z : Int))) := fun W' h => by
    obtain ⟨f0, f1, _⟩ := keep_rounds (j := 0) HX32.out HW32.out (by decide) h
    exact ⟨f0, f1, by rw [h.cell (p := ⟨gg2, 2, none⟩) hg2lt]; exact m2⟩
  have HCODE6 : Hid (∀ W', Below w32.heap.size w32 W' → Calls Tryz.prog 168 #[.agg #[.slice a len cap, .int .i64 (N : Int)], .int .i64 (q3 : Int), .int .i64 (c : Int)] W' (RCodePost W' l N q3 c 0)) := fun W' h => by
    have := HCODE.out W' h
    rwa [show newE (Hd.zz (Hd.cl l q3 c)) = 0 from by rw [HQ3.out, HCC.out, ← HLS.out]; exact HE0.out ()] at this
  clear HCODE
  have hok : q3 + 3 * c ≤ N := by have := HQ3.out; have := HCC.out; omega
  rw [rounds_succ]
  go_wp2
  go_region_held3 (fun wx => wx.cell? ⟨w.heap.size, 0, none⟩ = some (.slice a len cap) ∧ wx.cell? ⟨w.heap.size, 1, none⟩ = some (.int .i64 (N : Int)) ∧ wx.cell? ⟨gg2, 2, none⟩ = some (.int .i64 (z : Int))) (first | exact ⟨e0, e1, m2⟩ | exact KEEP3.out _ (BD3.out.trans (hb33.mono (Nat.le_refl _))))
    ((go_at_call 168; refine (HCODE6.out _ BD3.out).mono ?_; intro e w33 h33; obtain ⟨g5, rfl, hn5, hb33⟩ := h33.ok hok))
  have HBE := BD3.out.trans (hb33.mono (Nat.le_refl _))
  have hls33 : Hd.cl l q3 c = ls := by rw [HQ3.out, HCC.out, HLS.out]
  rw [hls33] at hn5
  have HZ33 := Lib.hid (zl_nums (cap := 19) hn5 HL19.out.symm (by omega))
  have HX33 := Lib.hid (HX32.out.later HBE)
  have HB33 := Lib.hid (HB32.out.trans (HBE.mono HB32.out.size))
  have HS33 := Lib.hid (HS.out.later HB33.out)
  have k0 : w33.cell? ⟨gg2, 0, none⟩ = some (.int .i64 (x : Int)) := by rw [HBE.cell (p := ⟨gg2, 0, none⟩) hg2lt]; exact m0
  have k1 : w33.cell? ⟨gg2, 1, none⟩ = some (.int .i64 (y : Int)) := by rw [HBE.cell (p := ⟨gg2, 1, none⟩) hg2lt]; exact m1
  have hg33 : gg2 < w33.heap.size := Nat.lt_of_lt_of_le hg2lt HBE.size
  obtain ⟨q4, hq4⟩ : ∃ m, m = q3 + 3 * c := ⟨_, rfl⟩
  rw [← hq4] at hok
  have hq4i : (q3 : Int) + 3 * (c : Int) = (q4 : Int) := by omega
  rw [hq4i]
  have HRES4 : Hid (Unit → res = Hd.runs ls l n 400 [] q4) := fun _ => by rw [HRES.out (), hq4, HQ3.out, HCC.out]
  have hni := HNI.out
  clear hb33 hn5 HBE hls33 m0 m1 m2 e0 e1 hcc hq4 hq4i HRES
  go_wp2
  go_quiet (fail)
  go_wp2
  have HK0 := Lib.hid k0
  have HK1 := Lib.hid k1
  clear hni k0 k1
  have HG33 := Lib.hid hg33
  go_loopw [1, 16] (fun s1 s16 wr => ∃ (acc : List Nat) (q k : Nat), s1 = .int .i64 (q : Int) ∧ Hid (Own w33.heap.size wr s16 acc) ∧ acc.length ≤ n ∧ q ≤ N ∧ n - acc.length < k ∧ Hid (Below w33.heap.size w33 wr) ∧ Hid (Unit → res = Hd.runs ls l n k acc q)) (fun _ s _ => n - slLen s)
  case atStart => exact ⟨[], q4, 400, rfl, Own.nil _ _, Nat.zero_le _, hok, by simp only [List.length_nil]; omega, below_drewN (Below.refl _ _) _, HRES4.out⟩
  case round =>
    obtain ⟨acc, q, k, rfl, KW, hal, hqN, hk, KB, KRES⟩ := hrel
    have KS := Lib.hid (HS33.out.later KB.out)
    have KZ := Lib.hid (HZ33.out.later KB.out)
    have KX := Lib.hid (HX33.out.later KB.out)
    have KF := Lib.hid (HB33.out.trans (KB.out.mono HB33.out.size))
    obtain ⟨aa, capa, rfl⟩ := KW.out.shape
    obtain ⟨ln, hlen⟩ : ∃ ln, ln = acc.length := ⟨_, rfl⟩
    rw [← hlen] at KW hal hk ⊢
    have HL := Lib.hid hlen
    clear hlen
    obtain ⟨c0, c1, _, _⟩ := KX.out.two
    by_cases hlt : ln < n
    · have j0 : decide ((ln : Int) < (n : Int)) = true := decide_eq_true (by omega)
      obtain ⟨sy, hsy⟩ : ∃ v, v = (Hd.rd ls l q).1 := ⟨_, rfl⟩
      obtain ⟨qq, hqq⟩ : ∃ v, v = (Hd.rd ls l q).2.1 := ⟨_, rfl⟩
      obtain ⟨cc, hcc⟩ : ∃ v, v = (Hd.rd ls l q).2.2 := ⟨_, rfl⟩
      have hr : Hd.rd ls l q = (sy, qq, cc) := by rw [hsy, hqq, hcc]
      have hrl := Hd.rd_lt (by rw [← hl.out]; exact hqN) hr
      have HR := Lib.hid hr
      have HRD := Lib.hid (rread_rd _ ls _ l N q wr KS.out KZ.out hl hN hqN (HFIT.out ()) sy qq cc HR)
      have hk0 : 0 < k := by omega
      clear hsy hqq hcc hr
      by_cases hc0 : cc = 0
      · subst hc0
        obtain ⟨hs19, hpq, hqN2⟩ := hrl.1 rfl
        rw [← hl.out] at hqN2
        clear hrl hs19
        obtain ⟨m, hm⟩ : ∃ m, m = Hd.ex sy := ⟨_, rfl⟩
        have hm7 : m ≤ 7 := by rw [hm]; exact Hd.ex_le sy
        have HM := Lib.hid hm
        have HEX : Hid (∀ W, Calls Tryz.prog 169 #[.int .i64 (sy : Int)] W fun e w' => e = .returned (.int .i64 (m : Int)) ∧ W = w') := fun W => by
          rw [HM.out]; exact rextra_is sy W
        clear hm
        by_cases hsh : N < qq + m
        · have HF : Hid (Hd.fin (x + 257) res = ([], [], 0, 4)) := by
            show _ = _
            rw [KRES.out (), Hd.runs_short ls l n k acc q qq sy (by rw [← HL.out]; exact hlt) hk0 HR.out (by rw [← hl.out, ← HM.out]; exact hsh)]
            exact Hd.fin_bad _ _ _ _ (by decide)
          have HGET := Lib.hid (fun W' (h : Below wr.heap.size wr W') => rget_short _ (Bs.pack l) N qq m W' (KS.out.later h) (by omega) (by rw [hl.out]; exact Bs.pack_right l) (by omega) hqN2 (by omega))
          clear hsh
          go_wp2_with fail
          refine HRD.out.mono ?_
          rintro e w6 ⟨rfl, hb6⟩
          have HB6 := Lib.hid hb6
          obtain ⟨f0, f1, _, _⟩ := (KX.out.later hb6).two
          have BD := Lib.hid (hb6.drew)
          clear hb6 c0 c1
          go_wp2
          go_region_held3 (fun wx => wx.cell? ⟨w.heap.size, 0, none⟩ = some (.slice a len cap) ∧ wx.cell? ⟨w.heap.size, 1, none⟩ = some (.int .i64 (N : Int))) (first | exact ⟨f0, f1⟩ | exact ⟨((KX.out.later (BD.out.trans (hb7.mono BD.out.size))).two).1, ((KX.out.later (BD.out.trans (hb7.mono BD.out.size))).two).2.1⟩)
            (first | (go_at_call 169; refine (HEX.out _).mono ?_; rintro e w' ⟨rfl, rfl⟩) | (go_at_call 120; refine (HGET.out _ BD.out).mono ?_; rintro e w7 ⟨rfl, hb7⟩))
          have HBE := Lib.hid (KF.out.trans ((BD.out.trans (hb7.mono BD.out.size)).mono KF.out.size))
          clear hb7
          go_wp2
          rw [HF.out]
          exact bodyPost_ret (v := .tuple #[.slice none 0 0, .slice none 0 0, .int .i64 0, .int .i64 4]) (by simp [results, Tryz.results123, go_sem]) rfl (RReadPost.bad HBE.out)
        · obtain ⟨v, hvv⟩ : ∃ v, v = Hd.num l qq m := ⟨_, rfl⟩
          have HV := Lib.hid hvv
          have hv2 : v < 2 ^ Hd.ex sy := by rw [hvv, ← HM.out]; exact Hd.num_lt l qq m
          have hv9 : v < 128 := Nat.lt_of_lt_of_le hv2 (by have : 2 ^ Hd.ex sy ≤ 2 ^ 7 := Nat.pow_le_pow_right (by omega) (Hd.ex_le sy); omega)
          obtain ⟨nx, hnx⟩ : ∃ nx, nx = qq + m := ⟨_, rfl⟩
          have hnxN : nx ≤ N := by omega
          have inx : (qq : Int) + (m : Int) = (nx : Int) := by omega
          obtain ⟨x2, c2, ht⟩ : ∃ x2 c2, Hd.take acc sy v n = (x2, c2) := ⟨_, _, rfl⟩
          have HT2 := Lib.hid ht
          have HSTEP : Hid (Unit → res = if c2 ≠ 0 then ([], 0, c2) else Hd.runs ls l n (k - 1) x2 nx) := fun _ => by
            rw [KRES.out (), Hd.runs_take ls l n k acc q qq sy v x2 c2 (by rw [← HL.out]; exact hlt) hk0 HR.out (by rw [← hl.out, ← HM.out, ← hnx]; exact hnxN) (by rw [← HM.out]; exact HV.out) HT2.out, ← HM.out, ← hnx]
          have HAL : Hid (acc.length ≤ n) := by show _ ≤ _; rw [← HL.out]; exact hal
          have HV2 := Lib.hid hv2
          have HGET := Lib.hid (fun W' (h : Below wr.heap.size wr W') => rget_num _ l N qq m W' (KS.out.later h) hl hN (by omega) (by omega) v HV)
          have INX := Lib.hid inx
          clear hvv hv2 hnx ht hsh KRES inx
          go_wp2_with fail
          refine HRD.out.mono ?_
          rintro e w6 ⟨rfl, hb6⟩
          have HB6 := Lib.hid hb6
          obtain ⟨f0, f1, _, _⟩ := (KX.out.later hb6).two
          have BD := Lib.hid (hb6.drew)
          clear hb6 c0 c1
          go_wp2
          go_region_held3 (fun wx => wx.cell? ⟨w.heap.size, 0, none⟩ = some (.slice a len cap) ∧ wx.cell? ⟨w.heap.size, 1, none⟩ = some (.int .i64 (N : Int))) (first | exact ⟨f0, f1⟩ | exact ⟨((KX.out.later (BD.out.trans (hb7.mono BD.out.size))).two).1, ((KX.out.later (BD.out.trans (hb7.mono BD.out.size))).two).2.1⟩)
            (first | (go_at_call 169; refine (HEX.out _).mono ?_; rintro e w' ⟨rfl, rfl⟩) | (go_at_call 120; refine (HGET.out _ BD.out).mono ?_; rintro e w7 ⟨rfl, hb7⟩))
          have hb67 : Below wr.heap.size wr w7 := BD.out.trans (hb7.mono BD.out.size)
          have HB7 := Lib.hid hb67
          have KW7 := Lib.hid (KW.out.keep hb67)
          have KB7 := Lib.hid (KB.out.trans (hb67.mono KB.out.size))
          have HTK : Hid (Calls Tryz.prog 170 #[.slice aa ln capa, .agg #[.int .i64 (sy : Int), .int .i64 (v : Int)], .int .i64 (n : Int)] w7 (LenPost w33.heap.size w7 (x2, c2))) := by
            have := rtake_any w33.heap.size _ acc sy v n HV2.out (by omega) HAL.out w7 KW7.out KB7.out.size
            rwa [HT2.out] at this
          have inx := INX.out
          clear hb7 hb67 f0 f1
          go_wp2_with fail
          refine (HEX.out _).mono ?_
          rintro e w' ⟨rfl, rfl⟩
          go_wp2_with fail
          clear inx
          refine HTK.out.mono ?_
          clear HTK
          intro e w8 h8
          obtain ⟨s8, rfl, hown8, hb8⟩ := h8.pair
          have KB8 := Lib.hid (KB7.out.trans hb8)
          clear h8 hb8
          by_cases hc2 : c2 = 0
          · subst hc2
            obtain ⟨a8, cap8, rfl⟩ := (hown8 rfl).shape
            have KW8 := Lib.hid (hown8 rfl)
            have htl := Hd.take_length HT2.out
            rw [← HL.out] at htl
            have KRES8 : Hid (Unit → res = Hd.runs ls l n (k - 1) x2 nx) := fun _ => by have := HSTEP.out (); rwa [if_neg (by simp)] at this
            clear hown8 HSTEP
            go_wp2
            go_round
            case rel => first | exact ⟨x2, nx, k - 1, rfl, KW8, htl.2, hnxN, by omega, KB8, KRES8⟩ | ((repeat apply Exists.intro); exact ⟨⟨x2, nx, k - 1, rfl, KW8, htl.2, hnxN, by omega, KB8, KRES8⟩, rfl⟩)
            case measure => simp [slLen]; omega
          · have HF : Hid (Hd.fin (x + 257) res = ([], [], 0, c2)) := by
              show _ = _
              rw [HSTEP.out (), if_pos hc2]
              exact Hd.fin_bad _ _ _ _ hc2
            have e9 : (c2 != 0) = true := by rw [bne_iff_ne]; exact hc2
            have HBE := Lib.hid (HB33.out.trans (KB8.out.mono HB33.out.size))
            clear hown8 HSTEP hc2
            go_wp2
            rw [HF.out]
            exact bodyPost_ret (v := .tuple #[.slice none 0 0, .slice none 0 0, .int .i64 0, .int .i64 c2]) (by simp [results, Tryz.results123, go_sem]) rfl (RReadPost.bad HBE.out)
      · have HF : Hid (Hd.fin (x + 257) res = ([], [], 0, cc)) := by
          show _ = _
          rw [KRES.out (), Hd.runs_sym ls l n k acc q qq sy cc (by rw [← HL.out]; exact hlt) hk0 HR.out hc0]
          exact Hd.fin_bad _ _ _ _ hc0
        have e9 : (cc != 0) = true := by rw [bne_iff_ne]; exact hc0
        clear hrl hc0
        go_wp2_with fail
        refine HRD.out.mono ?_
        rintro e w6 ⟨rfl, hb6⟩
        have HBE := Lib.hid (KF.out.trans (hb6.mono KF.out.size))
        clear hb6
        go_wp2
        rw [HF.out]
        exact bodyPost_ret (v := .tuple #[.slice none 0 0, .slice none 0 0, .int .i64 0, .int .i64 cc]) (by simp [results, Tryz.results123, go_sem]) rfl (RReadPost.bad HBE.out)
    · obtain rfl : ln = n := by omega
      have j0 : decide ((ln : Int) < (ln : Int)) = false := decide_eq_false (by omega)
      have j0' : decide (ln < ln) = false := decide_eq_false (by omega)
      have HF : Hid (Hd.fin (x + 257) res = (acc.take (x + 257), acc.drop (x + 257), q, 0)) := by
        show _ = _
        rw [KRES.out (), Hd.runs_done ls l ln k acc q (by rw [← HL.out]; omega)]
        exact Hd.fin_ok _ _ _
      have hal0 : 0 < acc.length := by rw [← HL.out]; omega
      obtain ⟨gg, rfl, hgg, hge, _⟩ := KW.out.cells hal0
      have HGE := Lib.hid (Nat.le_trans HB33.out.size hge)
      have hcap := KW.out.cap.2
      have hxl : x + 257 < ln := by have := HN.out; omega
      have hxi : (x : Int) + 257 ≤ (ln : Int) := by omega
      have hxc : (x : Int) + 257 ≤ (capa : Int) := by omega
      have hne7 : ¬ capa = x + 257 := by omega
      have hx0 : (0 : Int) ≤ (x : Int) + 257 := by omega
      have hnat : ((x : Int) + 257).toNat = x + 257 := by omega
      have hln : ln = acc.length := HL.out
      have Z1 := Lib.hid (own_part KW.out hal0 (by omega) 0 (x + 257) capa (by omega))
      have Z2 := Lib.hid (own_part KW.out hal0 (by omega) (x + 257) (ln - (x + 257)) (capa - (x + 257)) (by omega))
      have k0 : wr.cell? ⟨gg2, 0, none⟩ = some (.int .i64 (x : Int)) := by rw [KB.out.cell (p := ⟨gg2, 0, none⟩) HG33.out]; exact HK0.out
      clear hal hk hal0 hln hgg hge
      have hws : IntKind.i64.wrap ((x : Int) + 257) = (x : Int) + 257 := IntWalk.i64_in _ (by omega)
      go_wp2
      go_quiet (fail)
      go_wp2
      rw [HF.out]
      refine bodyPost_ret (v := .tuple #[.slice (some ⟨gg, 0, none⟩) (x + 257) capa, .slice (some ⟨gg, x + 257, none⟩) (ln - (x + 257)) (capa - (x + 257)), .int .i64 (q : Int), .int .i64 0]) (by simp [results, Tryz.results123, go_sem]) rfl ⟨_, _, rfl, ?_, ?_, below_drewN KF.out _, newer_at HGE.out, newer_at HGE.out⟩
      · have := Z1.out
        rw [List.drop_zero] at this
        exact this
      · have := Z2.out
        rw [List.take_of_length_le (by rw [List.length_drop, ← HL.out]; omega)] at this
        exact this
end Go.Proofs.YtnjlljdbghcobaaGreatDoor
