import Derived.Test.YtmgpcbjciioiaaaGreatDoorJfix
import Derived.Test.YtmgpcbjciioiaaaGreatDoorKclone
import Derived.Lib.MinMax
namespace Go.Proofs.YtmgpcbjciioiaaaGreatDoor
set_option maxRecDepth 100000
set_option maxHeartbeats 8000000
open Go.RowKit
theorem nxt {w W W' : World} {o : Obj} (h : Below (w.heap.size + 1) (w.alloc o) W) (h' : Below W.heap.size W W') : Below (w.heap.size + 1) (w.alloc o) W' := h.trans (h'.mono (by have := h.size; simpa using this))
theorem lon_fin {w V : World} (hv : Below (w.heap.size + 1) (w.alloc (.cells #[.int .i64 0,.int .i64 0] 165)) V) (x y : Int) :
  (((V.setCell ⟨w.heap.size,0,none⟩ (.int .i64 x)).setCell ⟨w.heap.size,1,none⟩ (.int .i64 y)).drew.cell? ⟨w.heap.size,0,none⟩ = some (.int .i64 x) /\ ((V.setCell ⟨w.heap.size,0,none⟩ (.int .i64 x)).setCell ⟨w.heap.size,1,none⟩ (.int .i64 y)).drew.cell? ⟨w.heap.size,1,none⟩ = some (.int .i64 y)) /\
  Below w.heap.size w ((V.setCell ⟨w.heap.size,0,none⟩ (.int .i64 x)).setCell ⟨w.heap.size,1,none⟩ (.int .i64 y)).drew := by
 have hr : Has V w.heap.size (.cells #[.int .i64 0,.int .i64 0] 165) := (hv.block w.heap.size (by omega)).trans (Has.new w _)
 have h2 := Has.setSelf (Has.setSelf hr (i := 0) (.int .i64 x)) (i := 1) (.int .i64 y)
 have h3 : Has ((V.setCell ⟨w.heap.size,0,none⟩ (.int .i64 x)).setCell ⟨w.heap.size,1,none⟩ (.int .i64 y)).drew w.heap.size (.cells #[.int .i64 x,.int .i64 y] 165) := by
  have h5 : Has ((V.setCell ⟨w.heap.size,0,none⟩ (.int .i64 x)).setCell ⟨w.heap.size,1,none⟩ (.int .i64 y)) w.heap.size (.cells #[.int .i64 x,.int .i64 y] 165) := by simpa using h2
  exact h5
 have h4 := h3.two
 exact ⟨⟨h4.1,h4.2.1⟩,(((((below1 w _).trans (hv.mono (by omega))).setCell (p := ⟨w.heap.size,0,none⟩) (Nat.le_refl _) _).setCell (p := ⟨w.heap.size,1,none⟩) (Nat.le_refl _) _)).drew⟩
theorem shape18 (w : World) : Calls Tryz.prog 161 #[.int .i64 18] w (Gvs (.agg #[.int .i64 11,.int .i64 7]) w) := shape_is 18 w
theorem shape17 (w : World) : Calls Tryz.prog 161 #[.int .i64 17] w (Gvs (.agg #[.int .i64 3,.int .i64 3]) w) := shape_is 17 w
theorem shape16 (w : World) : Calls Tryz.prog 161 #[.int .i64 16] w (Gvs (.agg #[.int .i64 3,.int .i64 2]) w) := shape_is 16 w
theorem longest_is (ls : List Nat) (i n b off cap : Nat) (w : World) (hn : n = ls.length) (hi : i < n) (hl : n <= 1000) (hcp : n <= cap) (hb : b < w.heap.size) (h15 : ∀ x ∈ ls,x <= 15)
  (hc : ∀ j,j < n -> w.cell? ⟨b,off + j,none⟩ = some (.int .i64 ((Rn.at1 ls j : Nat) : Int))) :
  Calls Tryz.prog 158 #[.slice (some ⟨b,off,none⟩) n cap,.int .i64 (i : Int)] w (Gvs (.agg #[.int .i64 ((Rn.sym ls i : Nat) : Int),.int .i64 ((Rn.num ls i : Nat) : Int)]) w) := by
 have hb1 := below1 w (.cells #[.int .i64 0,.int .i64 0] 165)
 have HA := LH (fun (W : World) (hbW : Below w.heap.size w W) => alike_is ls i (n - i) b (off + i) (cap - i) W (by omega) (by omega) (by omega) (Nat.lt_of_lt_of_le hb hbW.size) (fun j hj => by
  have h := (hbW.cell (p := ⟨b,off + (i + j),none⟩) hb).trans (hc (i + j) (by omega))
  rw [show off + i + j = off + (i + j) by omega]
  exact h))
 have HC := LH (fun (W : World) (hbW : Below w.heap.size w W) (j : Nat) (hj : j < n) => (hbW.cell (p := ⟨b,off + j,none⟩) hb).trans (hc j hj))
 have hr1 := Rn.run_pos ls i (by omega)
 have hr2 := Rn.run_le ls i
 have hs19 := Rn.sym_lt ls h15 i
 have HSY : Hid (Rn.sym ls i = if Rn.at1 ls i = 0 /\ 11 <= Rn.run ls i then 18 else if Rn.at1 ls i = 0 /\ 3 <= Rn.run ls i then 17 else if 0 < i /\ Rn.at1 ls i = Rn.at1 ls (i - 1) /\ 3 <= Rn.run ls i then 16 else Rn.at1 ls i) := rfl
 have HNU : Hid (Rn.num ls i = min (Rn.run ls i - Hd.least (Rn.sym ls i)) (2 ^ Hd.ex (Rn.sym ls i) - 1)) := rfl
 have HLR := LH (Rn.least_run ls h15 i (by omega))
 obtain ⟨s0,hs0⟩ : ∃ s0,s0 = Rn.at1 ls i := ⟨_,rfl⟩
 have h015 : s0 <= 15 := by
  rw [hs0]; unfold Rn.at1; rw [List.getElem?_eq_getElem (by omega)]; exact h15 _ (List.getElem_mem _)
 have HCI := LH (fun (W : World) (hbW : Below w.heap.size w W) => by have := HC.out W hbW i hi; rw [<- hs0] at this; exact this)
 obtain ⟨k,hk⟩ : ∃ k,k = Rn.run ls i := ⟨_,rfl⟩
 obtain ⟨sy,hsy⟩ : ∃ sy,sy = Rn.sym ls i := ⟨_,rfl⟩
 obtain ⟨nu,hnu⟩ : ∃ nu,nu = Rn.num ls i := ⟨_,rfl⟩
 rw [<- hs0,<- hk,<- hsy] at HSY
 rw [<- hk,<- hsy,<- hnu] at HNU
 rw [<- hk,<- hsy] at HLR
 rw [<- hk] at HA hr1 hr2
 rw [<- hsy] at hs19
 rw [<- hsy,<- hnu]
 have hk9 : k <= 1000 := by omega
 have HB1 := LH hb1
 have hcell := HCI.out _ hb1
 clear hs0 hk hsy hnu hn hc h15 hb1 hr2 hb
 go_enter Tryz.func158,Tryz.ntmps158
 go_wp2_with fail
 have hcx := fun (x : Wd (w.heap.size + 1) (w.alloc (.cells #[.int .i64 0,.int .i64 0] 165))) => HCI.out x.w (HB1.out.trans (x.h.mono (by omega)))
 refine region_made (w.heap.size + 1) (w.alloc (.cells #[.int .i64 0,.int .i64 0] 165)) (by kernel_rfl) (by kernel_rfl) (Below.refl _ _) ?_
 iterate 7 (go_big_quiet_step (fail))
 go_big_quiet_step (exact made_call _ (by simp) (HA.out _ (HB1.out.trans (Wd.h _ |>.mono (by omega)))))
 iterate 2 (go_big_quiet_step (fail))
 refine wpQuiet_nil fun x => ?_
 clear hcx hcell
 obtain ⟨W,hW⟩ := x
 have HW := LH hW
 have HWB := LH (HB1.out.trans (hW.mono (by omega)))
 show Exit.then _ _ _ _ W
 have HX := LH hW
 clear hW HA HW
 obtain ⟨p,hp⟩ : ∃ p,p = Rn.at1 ls (i - 1) := ⟨_,rfl⟩
 have HCP : Hid (0 < i -> ∀ (W : World),Below w.heap.size w W -> W.cell? ⟨b,off + (i - 1),none⟩ = some (.int .i64 (p : Int))) := fun h0 W hb => by
  have := HC.out W hb (i - 1) (by omega)
  rw [<- hp] at this; exact this
 rw [<- hp] at HSY
 clear hp HC HCI HWB
 have f18 := fld0 11 7
 have f17 := fld0 3 3
 have f16 := fld0 3 2
 by_cases z : s0 = 0
 ·subst z
  have HG : Hid (∀ W : World,Calls Tryz.prog 161 #[.int .i64 0] W (Gvs (.agg #[.int .i64 1,.int .i64 0]) W)) := fun W => shape_is 0 W
  by_cases k11 : 11 <= k
  ·have hsy : sy = 18 := by rw [HSY.out,if_pos ⟨rfl,k11⟩]
   subst hsy
   have d1 : decide (11 <= (k : Int)) = true := by simp; omega
   have hn : nu = min (k - 11) 127 := HNU.out
   go_upto_region 9 with (go_at_call 161; (first | (with_reducible refine (shape18 _).mono ?_) | (with_reducible refine (shape17 _).mono ?_) | (with_reducible refine (shape16 _).mono ?_) | (with_reducible refine (HG.out _).mono ?_)); rintro e w18 ⟨rfl,h18⟩; have HX := LH (nxt HX.out h18); clear h18)
   obtain ⟨V,hV⟩ : ∃ V,V = w18.alloc (.cells #[.int .i64 11,.int .i64 7] 217) := ⟨_,rfl⟩
   obtain ⟨g,hg⟩ : ∃ g,g = w18.heap.size := ⟨_,rfl⟩
   have q := (Has.new w18 (.cells #[.int .i64 11,.int .i64 7] 217)).two
   have hxv : Below (w.heap.size + 1) (w.alloc (.cells #[.int .i64 0,.int .i64 0] 165)) V := by rw [hV]; exact nxt HX.out (below1 w18 _)
   rw [<- hV,<- hg] at q
   have r := (show Has V w.heap.size (.cells #[.int .i64 0,.int .i64 0] 165) from (hxv.block w.heap.size (by omega)).trans (Has.new w _)).two
   obtain ⟨q1,q2,_,_⟩ := q
   obtain ⟨r1,r2,r3,r4⟩ := r
   rw [<- hV,<- hg]
   have HXV := LH (lon_fin hxv 18 (nu : Int))
   have e1 : min ((k : Int) - 11) 127 = (nu : Int) := by omega
   clear hV hg hxv hn HX HNU HLR HSY
   go_region
   all_goals go_wp2_with fail
   obtain ⟨Z,hZ⟩ : ∃ Z,Z = ((V.setCell ⟨w.heap.size,0,none⟩ (.int .i64 18)).setCell ⟨w.heap.size,1,none⟩ (.int .i64 (nu : Int))).drew := ⟨_,rfl⟩
   rw [<- hZ] at HXV ⊢
   obtain ⟨⟨z0,z1⟩,hbz⟩ := HXV.out
   clear hZ HXV e1 r1 r2 r3 r4 q1 q2
   exact bodyPost_ret (v := .agg #[.int .i64 18,.int .i64 (nu : Int)]) (by simp [results,Tryz.results158,go_sem,z0,z1]) rfl ⟨rfl,hbz⟩
  ·have d1 : decide (11 <= (k : Int)) = false := by simp; omega
   by_cases k3 : 3 <= k
   ·have hsy : sy = 17 := by rw [HSY.out,if_neg (fun h => k11 h.2),if_pos ⟨rfl,k3⟩]
    subst hsy
    have d2 : decide (3 <= (k : Int)) = true := by simp; omega
    have hn : nu = min (k - 3) 7 := HNU.out
    go_upto_region 9 with (go_at_call 161; (first | (with_reducible refine (shape18 _).mono ?_) | (with_reducible refine (shape17 _).mono ?_) | (with_reducible refine (shape16 _).mono ?_) | (with_reducible refine (HG.out _).mono ?_)); rintro e w18 ⟨rfl,h18⟩; have HX := LH (nxt HX.out h18); clear h18)
    obtain ⟨V,hV⟩ : ∃ V,V = w18.alloc (.cells #[.int .i64 3,.int .i64 3] 217) := ⟨_,rfl⟩
    obtain ⟨g,hg⟩ : ∃ g,g = w18.heap.size := ⟨_,rfl⟩
    have q := (Has.new w18 (.cells #[.int .i64 3,.int .i64 3] 217)).two
    have hxv : Below (w.heap.size + 1) (w.alloc (.cells #[.int .i64 0,.int .i64 0] 165)) V := by rw [hV]; exact nxt HX.out (below1 w18 _)
    rw [<- hV,<- hg] at q
    have r := (show Has V w.heap.size (.cells #[.int .i64 0,.int .i64 0] 165) from (hxv.block w.heap.size (by omega)).trans (Has.new w _)).two
    obtain ⟨q1,q2,_,_⟩ := q
    obtain ⟨r1,r2,r3,r4⟩ := r
    rw [<- hV,<- hg]
    have HXV := LH (lon_fin hxv 17 (nu : Int))
    have e1 : min ((k : Int) - 3) 7 = (nu : Int) := by omega
    clear hV hg hxv hn HX HNU HLR HSY
    go_region
    all_goals go_wp2_with fail
    obtain ⟨Z,hZ⟩ : ∃ Z,Z = ((V.setCell ⟨w.heap.size,0,none⟩ (.int .i64 17)).setCell ⟨w.heap.size,1,none⟩ (.int .i64 (nu : Int))).drew := ⟨_,rfl⟩
    rw [<- hZ] at HXV ⊢
    obtain ⟨⟨z0,z1⟩,hbz⟩ := HXV.out
    clear hZ HXV e1 r1 r2 r3 r4 q1 q2
    exact bodyPost_ret (v := .agg #[.int .i64 17,.int .i64 (nu : Int)]) (by simp [results,Tryz.results158,go_sem,z0,z1]) rfl ⟨rfl,hbz⟩
   ·have hsy : sy = 0 := by rw [HSY.out,if_neg (fun h => k11 h.2),if_neg (fun h => k3 h.2),if_neg (fun h => k3 h.2.2)]
    subst hsy
    have d2 : decide (3 <= (k : Int)) = false := by simp; omega
    have hn : nu = min (k - 1) 0 := HNU.out
    by_cases hi0 : 0 < i
    ·have d3 : decide (0 < (i : Int)) = true := by simp; omega
     have i2 : (0 : Int) <= (i : Int) - 1 := by omega
     have i3 : (i : Int) - 1 < (n : Int) := by omega
     have i4 : ((i : Int) - 1).toNat = i - 1 := by omega
     by_cases hp0 : p = 0
     ·have hpz : (p : Int) = 0 := by omega
      rw [hpz] at HCP
      clear hpz hp0
      go_upto_region 9 with (go_at_call 161; (first | (with_reducible refine (shape18 _).mono ?_) | (with_reducible refine (shape17 _).mono ?_) | (with_reducible refine (shape16 _).mono ?_) | (with_reducible refine (HG.out _).mono ?_)); rintro e w18 ⟨rfl,h18⟩; have HX := LH (nxt HX.out h18); clear h18; have cp := HCP.out hi0 w18 (HB1.out.trans (HX.out.mono (by omega))))
      obtain ⟨V,hV⟩ : ∃ V,V = w18.alloc (.cells #[.int .i64 1,.int .i64 0] 217) := ⟨_,rfl⟩
      obtain ⟨g,hg⟩ : ∃ g,g = w18.heap.size := ⟨_,rfl⟩
      have q := (Has.new w18 (.cells #[.int .i64 1,.int .i64 0] 217)).two
      have hxv : Below (w.heap.size + 1) (w.alloc (.cells #[.int .i64 0,.int .i64 0] 165)) V := by rw [hV]; exact nxt HX.out (below1 w18 _)
      rw [<- hV,<- hg] at q
      have r := (show Has V w.heap.size (.cells #[.int .i64 0,.int .i64 0] 165) from (hxv.block w.heap.size (by omega)).trans (Has.new w _)).two
      obtain ⟨q1,q2,_,_⟩ := q
      obtain ⟨r1,r2,r3,r4⟩ := r
      rw [<- hV,<- hg]
      have HXV := LH (lon_fin hxv 0 (nu : Int))
      have e1 : min ((k : Int) - 1) 0 = (nu : Int) := by omega
      clear hV hg hxv hn HX HNU HLR HSY
      go_region
      all_goals go_wp2_with fail
      obtain ⟨Z,hZ⟩ : ∃ Z,Z = ((V.setCell ⟨w.heap.size,0,none⟩ (.int .i64 0)).setCell ⟨w.heap.size,1,none⟩ (.int .i64 (nu : Int))).drew := ⟨_,rfl⟩
      rw [<- hZ] at HXV ⊢
      obtain ⟨⟨z0,z1⟩,hbz⟩ := HXV.out
      clear hZ HXV e1 r1 r2 r3 r4 q1 q2
      exact bodyPost_ret (v := .agg #[.int .i64 0,.int .i64 (nu : Int)]) (by simp [results,Tryz.results158,go_sem,z0,z1]) rfl ⟨rfl,hbz⟩
     ·have hpz : ((0 : Int) == (p : Int)) = false := by rw [beq_eq_false_iff_ne]; omega
      have hpz2 : (0 : Int) ≠ (p : Int) := by omega
      go_upto_region 9 with (go_at_call 161; (first | (with_reducible refine (shape18 _).mono ?_) | (with_reducible refine (shape17 _).mono ?_) | (with_reducible refine (shape16 _).mono ?_) | (with_reducible refine (HG.out _).mono ?_)); rintro e w18 ⟨rfl,h18⟩; have HX := LH (nxt HX.out h18); clear h18; have cp := HCP.out hi0 w18 (HB1.out.trans (HX.out.mono (by omega))))
      obtain ⟨V,hV⟩ : ∃ V,V = w18.alloc (.cells #[.int .i64 1,.int .i64 0] 217) := ⟨_,rfl⟩
      obtain ⟨g,hg⟩ : ∃ g,g = w18.heap.size := ⟨_,rfl⟩
      have q := (Has.new w18 (.cells #[.int .i64 1,.int .i64 0] 217)).two
      have hxv : Below (w.heap.size + 1) (w.alloc (.cells #[.int .i64 0,.int .i64 0] 165)) V := by rw [hV]; exact nxt HX.out (below1 w18 _)
      rw [<- hV,<- hg] at q
      have r := (show Has V w.heap.size (.cells #[.int .i64 0,.int .i64 0] 165) from (hxv.block w.heap.size (by omega)).trans (Has.new w _)).two
      obtain ⟨q1,q2,_,_⟩ := q
      obtain ⟨r1,r2,r3,r4⟩ := r
      rw [<- hV,<- hg]
      have HXV := LH (lon_fin hxv 0 (nu : Int))
      have e1 : min ((k : Int) - 1) 0 = (nu : Int) := by omega
      clear hV hg hxv hn HX HNU HLR HSY
      go_region
      all_goals go_wp2_with fail
      obtain ⟨Z,hZ⟩ : ∃ Z,Z = ((V.setCell ⟨w.heap.size,0,none⟩ (.int .i64 0)).setCell ⟨w.heap.size,1,none⟩ (.int .i64 (nu : Int))).drew := ⟨_,rfl⟩
      rw [<- hZ] at HXV ⊢
      obtain ⟨⟨z0,z1⟩,hbz⟩ := HXV.out
      clear hZ HXV e1 r1 r2 r3 r4 q1 q2
      exact bodyPost_ret (v := .agg #[.int .i64 0,.int .i64 (nu : Int)]) (by simp [results,Tryz.results158,go_sem,z0,z1]) rfl ⟨rfl,hbz⟩
    ·have d3 : decide (0 < (i : Int)) = false := by simp; omega
     go_upto_region 9 with (go_at_call 161; (first | (with_reducible refine (shape18 _).mono ?_) | (with_reducible refine (shape17 _).mono ?_) | (with_reducible refine (shape16 _).mono ?_) | (with_reducible refine (HG.out _).mono ?_)); rintro e w18 ⟨rfl,h18⟩; have HX := LH (nxt HX.out h18); clear h18)
     obtain ⟨V,hV⟩ : ∃ V,V = w18.alloc (.cells #[.int .i64 1,.int .i64 0] 217) := ⟨_,rfl⟩
     obtain ⟨g,hg⟩ : ∃ g,g = w18.heap.size := ⟨_,rfl⟩
     have q := (Has.new w18 (.cells #[.int .i64 1,.int .i64 0] 217)).two
     have hxv : Below (w.heap.size + 1) (w.alloc (.cells #[.int .i64 0,.int .i64 0] 165)) V := by rw [hV]; exact nxt HX.out (below1 w18 _)
     rw [<- hV,<- hg] at q
     have r := (show Has V w.heap.size (.cells #[.int .i64 0,.int .i64 0] 165) from (hxv.block w.heap.size (by omega)).trans (Has.new w _)).two
     obtain ⟨q1,q2,_,_⟩ := q
     obtain ⟨r1,r2,r3,r4⟩ := r
     rw [<- hV,<- hg]
     have HXV := LH (lon_fin hxv 0 (nu : Int))
     have e1 : min ((k : Int) - 1) 0 = (nu : Int) := by omega
     clear hV hg hxv hn HX HNU HLR HSY
     go_region
     all_goals go_wp2_with fail
     obtain ⟨Z,hZ⟩ : ∃ Z,Z = ((V.setCell ⟨w.heap.size,0,none⟩ (.int .i64 0)).setCell ⟨w.heap.size,1,none⟩ (.int .i64 (nu : Int))).drew := ⟨_,rfl⟩
     rw [<- hZ] at HXV ⊢
     obtain ⟨⟨z0,z1⟩,hbz⟩ := HXV.out
     clear hZ HXV e1 r1 r2 r3 r4 q1 q2
     exact bodyPost_ret (v := .agg #[.int .i64 0,.int .i64 (nu : Int)]) (by simp [results,Tryz.results158,go_sem,z0,z1]) rfl ⟨rfl,hbz⟩
 ·have HG : Hid (∀ W : World,Calls Tryz.prog 161 #[.int .i64 (s0 : Int)] W (Gvs (.agg #[.int .i64 1,.int .i64 0]) W)) := fun W => by
   have := shape_is s0 W
   unfold shp Hd.least Hd.ex at this
   rw [if_neg (by omega),if_neg (by omega),if_neg (by omega),if_neg (by omega),if_neg (by omega),if_neg (by omega)] at this
   exact this
  have hz0 : ((s0 : Int) == 0) = false := by rw [beq_eq_false_iff_ne]; omega
  have HSY2 : Hid (sy = if 0 < i /\ s0 = p /\ 3 <= k then 16 else s0) := by
   show _ = _
   rw [HSY.out,if_neg (fun h => z h.1),if_neg (fun h => z h.1)]
  have HN0 : Hid (sy = s0 -> nu = min (k - 1) 0) := fun e => by
   rw [HNU.out,e]
   unfold Hd.least Hd.ex
   rw [if_neg (by omega),if_neg (by omega),if_neg (by omega),if_neg (by omega),if_neg (by omega),if_neg (by omega)]
  by_cases hi0 : 0 < i
  ·have d3 : decide (0 < (i : Int)) = true := by simp; omega
   have i2 : (0 : Int) <= (i : Int) - 1 := by omega
   have i3 : (i : Int) - 1 < (n : Int) := by omega
   have i4 : ((i : Int) - 1).toNat = i - 1 := by omega
   have cp := HCP.out hi0 W (HB1.out.trans (HX.out.mono (by omega)))
   by_cases hps : s0 = p
   ·subst hps
    have hpe : ((s0 : Int) == (s0 : Int)) = true := by simp
    by_cases k3 : 3 <= k
    ·have hsy : sy = 16 := by rw [HSY2.out,if_pos ⟨hi0,rfl,k3⟩]
     subst hsy
     have d2 : decide (3 <= (k : Int)) = true := by simp; omega
     have hn : nu = min (k - 3) 3 := HNU.out
     clear HSY2 HN0
     go_upto_region 9 with (go_at_call 161; (first | (with_reducible refine (shape18 _).mono ?_) | (with_reducible refine (shape17 _).mono ?_) | (with_reducible refine (shape16 _).mono ?_) | (with_reducible refine (HG.out _).mono ?_)); rintro e w18 ⟨rfl,h18⟩; have HX := LH (nxt HX.out h18); clear h18)
     obtain ⟨V,hV⟩ : ∃ V,V = w18.alloc (.cells #[.int .i64 3,.int .i64 2] 217) := ⟨_,rfl⟩
     obtain ⟨g,hg⟩ : ∃ g,g = w18.heap.size := ⟨_,rfl⟩
     have q := (Has.new w18 (.cells #[.int .i64 3,.int .i64 2] 217)).two
     have hxv : Below (w.heap.size + 1) (w.alloc (.cells #[.int .i64 0,.int .i64 0] 165)) V := by rw [hV]; exact nxt HX.out (below1 w18 _)
     rw [<- hV,<- hg] at q
     have r := (show Has V w.heap.size (.cells #[.int .i64 0,.int .i64 0] 165) from (hxv.block w.heap.size (by omega)).trans (Has.new w _)).two
     obtain ⟨q1,q2,_,_⟩ := q
     obtain ⟨r1,r2,r3,r4⟩ := r
     rw [<- hV,<- hg]
     have HXV := LH (lon_fin hxv 16 (nu : Int))
     have e1 : min ((k : Int) - 3) 3 = (nu : Int) := by omega
     clear hV hg hxv hn HX HNU HLR HSY
     go_region
     all_goals go_wp2_with fail
     obtain ⟨Z,hZ⟩ : ∃ Z,Z = ((V.setCell ⟨w.heap.size,0,none⟩ (.int .i64 16)).setCell ⟨w.heap.size,1,none⟩ (.int .i64 (nu : Int))).drew := ⟨_,rfl⟩
     rw [<- hZ] at HXV ⊢
     obtain ⟨⟨z0,z1⟩,hbz⟩ := HXV.out
     clear hZ HXV e1 r1 r2 r3 r4 q1 q2
     exact bodyPost_ret (v := .agg #[.int .i64 16,.int .i64 (nu : Int)]) (by simp [results,Tryz.results158,go_sem,z0,z1]) rfl ⟨rfl,hbz⟩
    ·have hsy : sy = s0 := by rw [HSY2.out,if_neg (fun h => k3 h.2.2)]
     subst hsy
     have d2 : decide (3 <= (k : Int)) = false := by simp; omega
     have hn : nu = min (k - 1) 0 := HN0.out rfl
     clear HSY2 HN0
     go_upto_region 9 with (go_at_call 161; (first | (with_reducible refine (shape18 _).mono ?_) | (with_reducible refine (shape17 _).mono ?_) | (with_reducible refine (shape16 _).mono ?_) | (with_reducible refine (HG.out _).mono ?_)); rintro e w18 ⟨rfl,h18⟩; have HX := LH (nxt HX.out h18); clear h18)
     obtain ⟨V,hV⟩ : ∃ V,V = w18.alloc (.cells #[.int .i64 1,.int .i64 0] 217) := ⟨_,rfl⟩
     obtain ⟨g,hg⟩ : ∃ g,g = w18.heap.size := ⟨_,rfl⟩
     have q := (Has.new w18 (.cells #[.int .i64 1,.int .i64 0] 217)).two
     have hxv : Below (w.heap.size + 1) (w.alloc (.cells #[.int .i64 0,.int .i64 0] 165)) V := by rw [hV]; exact nxt HX.out (below1 w18 _)
     rw [<- hV,<- hg] at q
     have r := (show Has V w.heap.size (.cells #[.int .i64 0,.int .i64 0] 165) from (hxv.block w.heap.size (by omega)).trans (Has.new w _)).two
     obtain ⟨q1,q2,_,_⟩ := q
     obtain ⟨r1,r2,r3,r4⟩ := r
     rw [<- hV,<- hg]
     have HXV := LH (lon_fin hxv (sy : Int) (nu : Int))
     have e1 : min ((k : Int) - 1) 0 = (nu : Int) := by omega
     clear hV hg hxv hn HX HNU HLR HSY
     go_region
     all_goals go_wp2_with fail
     obtain ⟨Z,hZ⟩ : ∃ Z,Z = ((V.setCell ⟨w.heap.size,0,none⟩ (.int .i64 (sy : Int))).setCell ⟨w.heap.size,1,none⟩ (.int .i64 (nu : Int))).drew := ⟨_,rfl⟩
     rw [<- hZ] at HXV ⊢
     obtain ⟨⟨z0,z1⟩,hbz⟩ := HXV.out
     clear hZ HXV e1 r1 r2 r3 r4 q1 q2
     exact bodyPost_ret (v := .agg #[.int .i64 (sy : Int),.int .i64 (nu : Int)]) (by simp [results,Tryz.results158,go_sem,z0,z1]) rfl ⟨rfl,hbz⟩
   ·have hsy : sy = s0 := by rw [HSY2.out,if_neg (fun h => hps h.2.1)]
    subst hsy
    have hpz : ((sy : Int) == (p : Int)) = false := by rw [beq_eq_false_iff_ne]; omega
    have hn : nu = min (k - 1) 0 := HN0.out rfl
    clear HSY2 HN0
    go_upto_region 9 with (go_at_call 161; (first | (with_reducible refine (shape18 _).mono ?_) | (with_reducible refine (shape17 _).mono ?_) | (with_reducible refine (shape16 _).mono ?_) | (with_reducible refine (HG.out _).mono ?_)); rintro e w18 ⟨rfl,h18⟩; have HX := LH (nxt HX.out h18); clear h18)
    obtain ⟨V,hV⟩ : ∃ V,V = w18.alloc (.cells #[.int .i64 1,.int .i64 0] 217) := ⟨_,rfl⟩
    obtain ⟨g,hg⟩ : ∃ g,g = w18.heap.size := ⟨_,rfl⟩
    have q := (Has.new w18 (.cells #[.int .i64 1,.int .i64 0] 217)).two
    have hxv : Below (w.heap.size + 1) (w.alloc (.cells #[.int .i64 0,.int .i64 0] 165)) V := by rw [hV]; exact nxt HX.out (below1 w18 _)
    rw [<- hV,<- hg] at q
    have r := (show Has V w.heap.size (.cells #[.int .i64 0,.int .i64 0] 165) from (hxv.block w.heap.size (by omega)).trans (Has.new w _)).two
    obtain ⟨q1,q2,_,_⟩ := q
    obtain ⟨r1,r2,r3,r4⟩ := r
    rw [<- hV,<- hg]
    have HXV := LH (lon_fin hxv (sy : Int) (nu : Int))
    have e1 : min ((k : Int) - 1) 0 = (nu : Int) := by omega
    clear hV hg hxv hn HX HNU HLR HSY
    go_region
    all_goals go_wp2_with fail
    obtain ⟨Z,hZ⟩ : ∃ Z,Z = ((V.setCell ⟨w.heap.size,0,none⟩ (.int .i64 (sy : Int))).setCell ⟨w.heap.size,1,none⟩ (.int .i64 (nu : Int))).drew := ⟨_,rfl⟩
    rw [<- hZ] at HXV ⊢
    obtain ⟨⟨z0,z1⟩,hbz⟩ := HXV.out
    clear hZ HXV e1 r1 r2 r3 r4 q1 q2
    exact bodyPost_ret (v := .agg #[.int .i64 (sy : Int),.int .i64 (nu : Int)]) (by simp [results,Tryz.results158,go_sem,z0,z1]) rfl ⟨rfl,hbz⟩
  ·have hsy : sy = s0 := by rw [HSY2.out,if_neg (fun h => hi0 h.1)]
   subst hsy
   have d3 : decide (0 < (i : Int)) = false := by simp; omega
   have hn : nu = min (k - 1) 0 := HN0.out rfl
   clear HSY2 HN0
   go_upto_region 9 with (go_at_call 161; (first | (with_reducible refine (shape18 _).mono ?_) | (with_reducible refine (shape17 _).mono ?_) | (with_reducible refine (shape16 _).mono ?_) | (with_reducible refine (HG.out _).mono ?_)); rintro e w18 ⟨rfl,h18⟩; have HX := LH (nxt HX.out h18); clear h18)
   obtain ⟨V,hV⟩ : ∃ V,V = w18.alloc (.cells #[.int .i64 1,.int .i64 0] 217) := ⟨_,rfl⟩
   obtain ⟨g,hg⟩ : ∃ g,g = w18.heap.size := ⟨_,rfl⟩
   have q := (Has.new w18 (.cells #[.int .i64 1,.int .i64 0] 217)).two
   have hxv : Below (w.heap.size + 1) (w.alloc (.cells #[.int .i64 0,.int .i64 0] 165)) V := by rw [hV]; exact nxt HX.out (below1 w18 _)
   rw [<- hV,<- hg] at q
   have r := (show Has V w.heap.size (.cells #[.int .i64 0,.int .i64 0] 165) from (hxv.block w.heap.size (by omega)).trans (Has.new w _)).two
   obtain ⟨q1,q2,_,_⟩ := q
   obtain ⟨r1,r2,r3,r4⟩ := r
   rw [<- hV,<- hg]
   have HXV := LH (lon_fin hxv (sy : Int) (nu : Int))
   have e1 : min ((k : Int) - 1) 0 = (nu : Int) := by omega
   clear hV hg hxv hn HX HNU HLR HSY
   go_region
   all_goals go_wp2_with fail
   obtain ⟨Z,hZ⟩ : ∃ Z,Z = ((V.setCell ⟨w.heap.size,0,none⟩ (.int .i64 (sy : Int))).setCell ⟨w.heap.size,1,none⟩ (.int .i64 (nu : Int))).drew := ⟨_,rfl⟩
   rw [<- hZ] at HXV ⊢
   obtain ⟨⟨z0,z1⟩,hbz⟩ := HXV.out
   clear hZ HXV e1 r1 r2 r3 r4 q1 q2
   exact bodyPost_ret (v := .agg #[.int .i64 (sy : Int),.int .i64 (nu : Int)]) (by simp [results,Tryz.results158,go_sem,z0,z1]) rfl ⟨rfl,hbz⟩
end Go.Proofs.YtmgpcbjciioiaaaGreatDoor
