import Derived.Test.YtmgpcbjciioiaaaGreatDoorKlen
import Derived.Test.YtmgpcbjciioiaaaGreatDoorLpair
import Derived.Test.YtmgpcbjciioiaaaGreatDoorLapp
import Derived.Test.YtmgpcbjciioiaaaGreatDoorCarg
import Derived.Test.YtmgpcbjciioiaaaGreatDoorHsort
import Derived.Test.YtmgpcbjciioiaaaGreatDoorHrnew
import Derived.Test.YtmgpcbjciioiaaaGreatDoorSlone
import Derived.Test.YtmgpcbjciioiaaaGreatDoorKneed
import Derived.Deep.RegionHeld3
import Derived.Deep.OwnRows
import Derived.RangeFuncNested
import Derived.RangeFuncBound
import Derived.RangeFuncCalls
import Derived.RangeFuncLeaves
import Derived.RangeFuncBox
import Derived.Shelf.Abstract
import Derived.Shelf.RegionOpen
import Derived.WalkKit
import Derived.OwnWalkIn
import Derived.TacticsInMore
import Derived.LoopNIn
import Derived.LoopIn
namespace Go.Proofs.YtmgpcbjciioiaaaGreatDoor.Ls
set_option maxRecDepth 100000
set_option maxHeartbeats 8000000
section
open Go.RowKit
theorem choose_list {α : Type} : ∀ (ts : List α) (R : Nat -> α -> Nat -> Prop),(∀ i t,ts[i]? = some t -> ∃ p,R i t p) -> ∃ qs : List Nat,qs.length = ts.length /\ ∀ (i : Nat) (t : α) (q : Nat),ts[i]? = some t -> qs[i]? = some q -> R i t q
 | [],R,_ => ⟨[],rfl,fun i t q h => by simp at h⟩
 | t :: ts,R,h => by
  obtain ⟨p,hp⟩ := h 0 t rfl
  obtain ⟨qs,h1,h2⟩ := choose_list ts (fun i => R (i + 1)) fun i u hu => h (i + 1) u (by rw [List.getElem?_cons_succ]; exact hu)
  refine ⟨p :: qs,by simp [h1],fun i u q hu hq => ?_⟩
  cases i with
  | zero => simp at hu hq; subst hu hq; exact hp
  | succ i => rw [List.getElem?_cons_succ] at hu hq; exact h2 i u q hu hq
def Ow (w wr : World) (v : Value) (zs : List Lm.Tr) : Prop :=
 ∃ bs : List Nat,bs.length = zs.length /\ wr.ownsRow w.heap.size 209 1 v zs.length (vp bs) /\ (∀ (i b : Nat) (t : Lm.Tr),bs[i]? = some b -> zs[i]? = some t -> Pk wr t b) /\ Below w.heap.size w wr
theorem Ow.pl {w wr : World} {v : Value} {zs : List Lm.Tr} (h : Ow w wr v zs) (hl : zs.length <= 1024) : Pl wr v zs := by
 obtain ⟨bs,h1,h2,h3,_⟩ := h
 rcases h2.2 with ⟨rfl,h0⟩ | ⟨g,cap,cur,rfl,_,hg,hle,_⟩
 ·rw [List.eq_nil_of_length_eq_zero h0]; exact Pl.nil _
 ·refine ⟨_,_,_,rfl,rfl,hle,by omega,fun h => by simp at h,fun _ => ⟨g,0,rfl,lt_of_block hg,fun i t hi => ?_⟩⟩
  have hil := (List.getElem?_eq_some_iff.1 hi).1
  have er : bs[i]? = some (bs[i]'(by omega)) := List.getElem?_eq_getElem _
  refine ⟨bs[i]'(by omega),?_,h3 i _ t er hi⟩
  rw [Nat.zero_add,h2.cellAt i (by omega)]
  simp [vp,er]
theorem snoc_get {α : Type} {xs : List α} {y z : α} {i : Nat} (h : (xs ++ [y])[i]? = some z) : (i < xs.length /\ xs[i]? = some z) ∨ (i = xs.length /\ z = y) := by
 by_cases hlt : i < xs.length
 ·rw [List.getElem?_append_left hlt] at h; exact .inl ⟨hlt,h⟩
 ·have e : i = xs.length := by
   have := (List.getElem?_eq_some_iff.1 h).1
   rw [List.length_append,List.length_singleton] at this; omega
  subst e
  rw [List.getElem?_append_right (Nat.le_refl _),Nat.sub_self] at h
  simp at h
  exact .inr ⟨rfl,h.symm⟩
theorem Ow.more {w wr : World} {g cap n : Nat} {zs : List Lm.Tr} (h : Ow w wr (.slice (some ⟨g,0,none⟩) n cap) zs) (hn : n = zs.length) (t : Lm.Tr) (p : Nat) (hp : Pk wr t p) (hl : zs.length <= 5000) :
  ∃ g' cap' w2,(Builtin.append_ #[206,206] 206 #[.slice (some ⟨g,0,none⟩) n cap,.slice (some ⟨wr.heap.size,0,none⟩) 1 1]).run Tryz.prog
   ((wr.alloc (.cells #[.pointer (some ⟨p,0,none⟩)] 209)).drew) = .ok (.slice (some ⟨g',0,none⟩) (n + 1) cap') w2 /\ Hid (Ow w w2 (.slice (some ⟨g',0,none⟩) (n + 1) cap') (zs ++ [t])) := by
 obtain ⟨bs,h1,h2,h3,hb⟩ := h
 subst hn
 have hsz := hb.size
 have k2 := (h2.alloc (.cells #[.pointer (some ⟨p,0,none⟩)] 209)).drew
 have hc := (Has.new wr (.cells #[.pointer (some ⟨p,0,none⟩)] 209)).one.1
 obtain ⟨v',w2,hrun,ho,hg⟩ := run_app1 206 209 (.pointer none) Tryz.underlying206 Tryz.infoPack rfl 206 k2 wr.heap.size _ rfl hc (by omega) (by simp; omega)
 obtain ⟨g',cap',rfl⟩ := ownsRow_succ ho
 refine ⟨g',cap',w2,hrun,bs ++ [p],by rw [List.length_append,List.length_append,h1]; rfl,by rw [vp_snoc,List.length_append]; exact ho,fun i b u hi hu => ?_,?_⟩
 ·have step : ∀ {u : Lm.Tr} {b : Nat},Pk wr u b -> Pk w2 u b := fun hh => Pk.grown k2 hg (hh.later ((below1 wr _).drew))
  rcases snoc_get hi with ⟨hlt,hi⟩ | ⟨rfl,rfl⟩
  ·rw [List.getElem?_append_left (by omega)] at hu
   exact step (h3 i b u hi hu)
  ·rw [h1,List.getElem?_append_right (Nat.le_refl _),Nat.sub_self] at hu
   simp at hu
   subst hu
   exact step hp
 ·exact (hb.trans (((below1 wr _).mono hsz).drew)).grown hg (by simp; omega) (fun q e => (World.ownsRow.lt h2 q e).1)
theorem Ow.all {w wr : World} {g cap n : Nat} {zs : List Lm.Tr} (h : Ow w wr (.slice (some ⟨g,0,none⟩) n cap) zs) (hn : n = zs.length) {a : Option Addr} {m c : Nat} {xs : List Lm.Tr} (hx : Pl w (.slice a m c) xs) (hl : zs.length + xs.length <= 5000) :
  ∃ g' cap' w2,(Builtin.append_ #[206,206] 206 #[.slice (some ⟨g,0,none⟩) n cap,.slice a m c]).run Tryz.prog wr = .ok (.slice (some ⟨g',0,none⟩) (n + m) cap') w2 /\
   Hid (Ow w w2 (.slice (some ⟨g',0,none⟩) (n + m) cap') (zs ++ xs)) := by
 obtain ⟨bs,h1,h2,h3,hb⟩ := h
 subst hn
 have hx' := hx.later hb
 obtain ⟨a',m',c',e,e1,e2,e3,e4,e5⟩ := hx'
 cases e
 subst e1
 have hsz := hb.size
 obtain ⟨i0,hi,hz0,hz1,hz2⟩ := info_parts Tryz.infoPack
 obtain ⟨qs,q1,q2⟩ : ∃ qs : List Nat,qs.length = xs.length /\ (0 < xs.length -> ∃ ad,a = some ad /\ ∀ (j : Nat) (t : Lm.Tr) (q : Nat),xs[j]? = some t -> qs[j]? = some q -> wr.cell? (ad.add j) = some (.pointer (some ⟨q,0,none⟩)) /\ Pk wr t q) := by
  rcases Nat.eq_zero_or_pos xs.length with h0 | h0
  ·exact ⟨[],by simp [h0],fun h => by omega⟩
  ·obtain ⟨b,off,rfl,hlt,hc⟩ := e5 h0
   obtain ⟨qs,q1,q2⟩ := choose_list xs _ hc
   refine ⟨qs,q1,fun _ => ⟨_,rfl,fun j t q ht hq => ?_⟩⟩
   have e : (⟨b,off,none⟩ : Addr).add j = ⟨b,off + j,none⟩ := by cases j <;> simp [Addr.add]
   rw [e]; exact q2 j t q ht hq
 obtain ⟨g',cap',w2,hrun,ho,hg⟩ := run_append_mine (P := Tryz.prog) (w := wr) w.heap.size 206 206 209 i0 (.pointer none) 1 8 Tryz.underlying206 hi hz0 hz1 hz2 rfl (by decide)
  g cap zs.length (vp bs) h2 a xs.length c (vp qs) (by rw [vp_length]; omega) e4
  (fun h0 => by
   obtain ⟨ad,rfl,hh⟩ := q2 h0
   refine ⟨ad,rfl,fun j u hj => ?_⟩
   have hjl := (List.getElem?_eq_some_iff.1 hj).1
   rw [vp_length] at hjl
   have eq : qs[j]? = some (qs[j]'hjl) := List.getElem?_eq_getElem _
   have ex : xs[j]? = some (xs[j]'(by omega)) := List.getElem?_eq_getElem _
   simp only [vp,List.getElem?_map,eq,Option.map_some,Option.some.injEq] at hj
   subst hj
   exact (hh j _ _ ex eq).1)
  (fun u hu => by simp only [vp,List.mem_map] at hu; obtain ⟨x,_,rfl⟩ := hu; rfl) (by unfold maxLen; omega) (by omega) (by omega)
 refine ⟨g',cap',w2,hrun,bs ++ qs,by simp [h1,q1],by rw [List.length_append,show vp (bs ++ qs) = vp bs ++ vp qs by simp [vp]]; exact ho,fun i b u hi' hu => ?_,?_⟩
 ·have step : ∀ {u : Lm.Tr} {b : Nat},Pk wr u b -> Pk w2 u b := fun hh => Pk.grown h2 hg hh
  by_cases hlt : i < bs.length
  ·rw [List.getElem?_append_left hlt] at hi'
   rw [List.getElem?_append_left (by omega)] at hu
   exact step (h3 i b u hi' hu)
  ·rw [List.getElem?_append_right (by omega)] at hi'
   rw [List.getElem?_append_right (by omega)] at hu
   have hil := (List.getElem?_eq_some_iff.1 hu).1
   obtain ⟨ad,_,hh⟩ := q2 (by omega)
   rw [<- h1] at hu
   exact step (hh _ _ _ hu hi').2
 ·exact hb.grown hg hsz (fun q e => (World.ownsRow.lt h2 q (by exact e)).1)
theorem Ow.drewN {w wr : World} {v : Value} {zs : List Lm.Tr} (h : Ow w wr v zs) (k : Nat) : Ow w (wr.drewN k) v zs := by
 obtain ⟨bs,h1,h2,h3,h4⟩ := h
 exact ⟨bs,h1,h2,fun i b t e1 e2 => (h3 i b t e1 e2).later (below_drewN (Below.refl _ _) k),below_drewN h4 k⟩
theorem merged_any (s1 s2 : Value) (xs ys : List Lm.Tr) (w : World) (h1 : Pl w s1 xs) (h2 : Pl w s2 ys) :
  Calls Tryz.prog 190 #[s1,s2] w fun e w' => ∃ v,e = .returned v /\ Ow w w' v (Lm.mrg Lm.Tr.wt xs ys) /\ Below w.heap.size w w' := by
 obtain ⟨a1,c1,rfl,_,l1⟩ := h1.shape
 obtain ⟨a2,c2,rfl,_,l2⟩ := h2.shape
 obtain ⟨zz,hzz⟩ : ∃ zz,zz = Lm.mrg Lm.Tr.wt xs ys := ⟨_,rfl⟩
 have hzl : zz.length = xs.length + ys.length := by rw [hzz,Lm.mrg_length]
 rw [<- hzz]
 obtain ⟨n1,hn1⟩ : ∃ n1,n1 = xs.length := ⟨_,rfl⟩
 obtain ⟨n2,hn2⟩ : ∃ n2,n2 = ys.length := ⟨_,rfl⟩
 rw [<- hn1] at h1 l1 hzl ⊢
 rw [<- hn2] at h2 l2 hzl ⊢
 have H1 := LH h1
 have H2 := LH h2
 have N1 := LH hn1
 have N2 := LH hn2
 have HZ := LH hzz
 have HZL := LH hzl
 clear h1 h2 hn1 hn2 hzz hzl
 obtain ⟨i0,hi,hz0,hz1,hz2⟩ := info_parts Tryz.infoPack
 go_enter Tryz.func190,Tryz.ntmps190
 go_wp2_with (at_make; refine wpList_make_own _ rfl _ _ 206 rfl w.heap.size 209 i0 (.pointer none) 1 Tryz.underlying206 hi hz0 hz1 .i64 .i64 _ (n1 + n2) rfl rfl (by go_num) (by rw [hz2]; omega) (by unfold maxLen; omega) (Nat.le_refl _) ?_; intro w1 hown hgr)
 have hO : Ow w w1 (.slice (some ⟨w.heap.size,0,none⟩) 0 (n1 + n2)) [] := ⟨[],rfl,hown,fun i b t h => by simp at h,(Below.refl _ w).grown hgr (Nat.le_refl _) (fun q e => by cases e)⟩
 have HO := LH hO
 clear hO hown hgr hi hz0 hz1 hz2
 go_loopw [0,1,5] (fun s0 s1 s5 wr => ∃ (u1 u2 : Option Addr) (m1 d1 m2 d2 g n cap : Nat) (xs' ys' zs : List Lm.Tr),s0 = .slice u1 m1 d1 /\ s1 = .slice u2 m2 d2 /\ s5 = .slice (some ⟨g,0,none⟩) n cap /\ m1 <= 1024 /\ m2 <= 1024 /\ Hid (m1 = xs'.length) /\ Hid (m2 = ys'.length) /\ Hid (n = zs.length) /\
   Hid (Pl w (.slice u1 m1 d1) xs') /\ Hid (Pl w (.slice u2 m2 d2) ys') /\ Hid (Ow w wr (.slice (some ⟨g,0,none⟩) n cap) zs) /\ Hid (Unit -> zs ++ Lm.mrg Lm.Tr.wt xs' ys' = zz))
  (fun s t _ _ => (match s with | .slice _ m _ => m | _ => 0) + (match t with | .slice _ m _ => m | _ => 0))
 case atStart => exact ⟨_,_,_,_,_,_,_,_,_,xs,ys,[],rfl,rfl,rfl,l1,l2,N1,N2,rfl,H1,H2,HO,fun _ => HZ.out.symm⟩
 case round =>
  clear N1 N2 H1 H2 HO
  obtain ⟨u1,u2,m1,d1,m2,d2,g,n,cap,xs',ys',zs,rfl,rfl,rfl,b1,b2,N1,N2,N3,H1,H2,HO,HE⟩ := hrel
  have hB : Below w.heap.size w wr := by obtain ⟨_,_,_,_,h⟩ := HO.out; exact h
  have hzn : zs.length <= 2048 := by
   have h1 := congrArg List.length (HE.out ())
   rw [List.length_append,HZL.out] at h1; omega
  by_cases h1 : 0 < m1
  ·by_cases h2 : 0 < m2
   ·obtain ⟨x,xs2,rfl⟩ : ∃ x xs2,xs' = x :: xs2 := by
     cases xs' with
     | nil => have := N1.out; simp at this; omega
     | cons x xs2 => exact ⟨x,xs2,rfl⟩
    obtain ⟨y,ys2,rfl⟩ : ∃ y ys2,ys' = y :: ys2 := by
     cases ys' with
     | nil => have := N2.out; simp at this; omega
     | cons y ys2 => exact ⟨y,ys2,rfl⟩
    obtain ⟨e1,o1,p,rfl,lt1,cx,kx,hd1,hx0,hx1⟩ := H1.out.head
    obtain ⟨e2,o2,q,rfl,lt2,cy,ky,hd2,hy0,hy1⟩ := H2.out.head
    have M1 : Hid (m1 - 1 = xs2.length) := by have := N1.out; simp at this; show _ = _; omega
    have M2 : Hid (m2 - 1 = ys2.length) := by have := N2.out; simp at this; show _ = _; omega
    rw [<- M1.out] at hx0 hx1
    rw [<- M2.out] at hy0 hy1
    have X1 := LH hx1
    have Y1 := LH hy1
    have X0 := LH hx0
    have Y0 := LH hy0
    have gx := (hB.cell (p := ⟨e1,o1,none⟩) lt1).trans cx
    have gy := (hB.cell (p := ⟨e2,o2,none⟩) lt2).trans cy
    have px := kx.later hB
    have py := ky.later hB
    have wx := px.wt
    have wy := py.wt
    obtain ⟨vx,hvx⟩ : ∃ vx,vx = x.wt := ⟨_,rfl⟩
    obtain ⟨vy,hvy⟩ : ∃ vy,vy = y.wt := ⟨_,rfl⟩
    rw [<- hvx] at wx
    rw [<- hvy] at wy
    have PX := LH px
    have PY := LH py
    have EX := LH hvx
    have EY := LH hvy
    clear cx cy kx ky px py hvx hvy hx0 hy0 hx1 hy1
    by_cases hlt : vy < vx
    ·have HE2 : Hid (Unit -> (zs ++ [y]) ++ Lm.mrg Lm.Tr.wt (x :: xs2) ys2 = zz) := fun _ => by
      rw [<- HE.out (),Lm.mrg_cons,if_pos (by rw [<- EX.out,<- EY.out]; exact hlt),List.append_assoc]; rfl
     clear HE
     go_wp2_with fail
     go_quiet (fail)
     obtain ⟨g',cap',w2,hrun,hO⟩ := (HO.out.drewN nq).more N3.out y q (PY.out.later (below_drewN (Below.refl _ _) nq)) (by omega)
     have hB2 : Below w.heap.size w w2 := by obtain ⟨_,_,_,_,h⟩ := hO.out; exact h
     have d2' : w2.cell? ⟨e2,o2,none⟩ = some (.pointer (some ⟨q,0,none⟩)) := (hB2.cell (p := ⟨e2,o2,none⟩) lt2).trans ((hB.cell (p := ⟨e2,o2,none⟩) lt2).symm.trans gy)
     have HRUN := LH hrun
     have NN : Hid (n + 1 = (zs ++ [y]).length) := by show _ = _; rw [List.length_append,<- N3.out]; rfl
     clear hrun hB hB2 HO PX PY EX EY N3 H2 N2 X0 X1 gx wx wy
     have g1 : (1 : Int) <= (m2 : Int) := by omega
     have g2 : (m2 : Int) <= (d2 : Int) := by omega
     by_cases g3 : d2 = 1
     ·have G3 := LH g3
      go_wp2_with fail
      go_region_held3 (fun wx => wx.cell? ⟨e2,o2,none⟩ = some (.pointer (some ⟨q,0,none⟩))) (go_keep) (first | (refine step_append_known rfl (.tmp 33) (.tmp 37) 206 rfl _ _ _ w2 (by simp [Act.eval]) (by simp [Act.eval]) HRUN.out ?_))
      go_wp2_with fail
      go_roundw
      case rel => exact ⟨_,_,_,_,_,_,_,_,_,x :: xs2,ys2,zs ++ [y],rfl,rfl,rfl,b1,by omega,N1,M2,NN,H1,(by have h := Y0.out G3.out; rw [G3.out] at h; exact h),hO,HE2⟩
      case measure => simp; omega
     ·have g4 : ¬ d2 - 1 = 0 := by omega
      go_wp2_with fail
      go_region_held3 (fun wx => wx.cell? ⟨e2,o2,none⟩ = some (.pointer (some ⟨q,0,none⟩))) (go_keep) (first | (refine step_append_known rfl (.tmp 33) (.tmp 37) 206 rfl _ _ _ w2 (by simp [Act.eval]) (by simp [Act.eval]) HRUN.out ?_))
      go_wp2_with fail
      go_roundw
      case rel => exact ⟨_,_,_,_,_,_,_,_,_,x :: xs2,ys2,zs ++ [y],rfl,rfl,rfl,b1,by omega,N1,M2,NN,H1,Y1,hO,HE2⟩
      case measure => simp; omega
    ·have HE2 : Hid (Unit -> (zs ++ [x]) ++ Lm.mrg Lm.Tr.wt xs2 (y :: ys2) = zz) := fun _ => by
      rw [<- HE.out (),Lm.mrg_cons,if_neg (by rw [<- EX.out,<- EY.out]; exact hlt),List.append_assoc]; rfl
     clear HE
     go_wp2_with fail
     go_quiet (fail)
     obtain ⟨g',cap',w2,hrun,hO⟩ := (HO.out.drewN nq).more N3.out x p (PX.out.later (below_drewN (Below.refl _ _) nq)) (by omega)
     have hB2 : Below w.heap.size w w2 := by obtain ⟨_,_,_,_,h⟩ := hO.out; exact h
     have d2' : w2.cell? ⟨e1,o1,none⟩ = some (.pointer (some ⟨p,0,none⟩)) := (hB2.cell (p := ⟨e1,o1,none⟩) lt1).trans ((hB.cell (p := ⟨e1,o1,none⟩) lt1).symm.trans gx)
     have HRUN := LH hrun
     have NN : Hid (n + 1 = (zs ++ [x]).length) := by show _ = _; rw [List.length_append,<- N3.out]; rfl
     clear hrun hB hB2 HO PX PY EX EY N3 H1 N1 Y0 Y1 gy wx wy
     have g1 : (1 : Int) <= (m1 : Int) := by omega
     have g2 : (m1 : Int) <= (d1 : Int) := by omega
     by_cases g3 : d1 = 1
     ·have G3 := LH g3
      go_wp2_with fail
      go_region_held3 (fun wx => wx.cell? ⟨e1,o1,none⟩ = some (.pointer (some ⟨p,0,none⟩))) (go_keep) (first | (refine step_append_known rfl (.tmp 41) (.tmp 45) 206 rfl _ _ _ w2 (by simp [Act.eval]) (by simp [Act.eval]) HRUN.out ?_))
      go_wp2_with fail
      go_roundw
      case rel => exact ⟨_,_,_,_,_,_,_,_,_,xs2,y :: ys2,zs ++ [x],rfl,rfl,rfl,by omega,b2,M1,N2,NN,(by have h := X0.out G3.out; rw [G3.out] at h; exact h),H2,hO,HE2⟩
      case measure => simp; omega
     ·have g4 : ¬ d1 - 1 = 0 := by omega
      go_wp2_with fail
      go_region_held3 (fun wx => wx.cell? ⟨e1,o1,none⟩ = some (.pointer (some ⟨p,0,none⟩))) (go_keep) (first | (refine step_append_known rfl (.tmp 41) (.tmp 45) 206 rfl _ _ _ w2 (by simp [Act.eval]) (by simp [Act.eval]) HRUN.out ?_))
      go_wp2_with fail
      go_roundw
      case rel => exact ⟨_,_,_,_,_,_,_,_,_,xs2,y :: ys2,zs ++ [x],rfl,rfl,rfl,by omega,b2,M1,N2,NN,X1,H2,hO,HE2⟩
      case measure => simp; omega
   ·have h20 : m2 = 0 := by omega
    obtain ⟨g',cap',w2,hrun,hO⟩ := HO.out.all N3.out H1.out (by have := N1.out; omega)
    have N4 : Hid (n + m1 = (zs ++ xs').length) := by show _ = _; rw [List.length_append,<- N3.out,<- N1.out]
    obtain ⟨g3,cap3,w3,hrun3,hO3⟩ := hO.out.all N4.out H2.out (by have := N1.out; have := N2.out; rw [List.length_append]; omega)
    have HF : Hid ((zs ++ xs') ++ ys' = zz) := by
     show _ = _
     rw [<- HE.out (),List.append_assoc]
     congr 1
     rw [show ys' = [] from List.eq_nil_of_length_eq_zero (by have := N2.out; omega),Lm.mrg_nil_right,List.append_nil]
    have R1 := LH hrun
    have R3 := LH hrun3
    clear hrun hrun3 hB h20 N1 N2 N3 H1 H2 HO HE hO N4
    go_wp2_with (at_builtin; first | (refine wpList_append_known rfl (.tmp 49) (.tmp 50) 206 rfl _ _ _ w2 rfl rfl R1.out ?_) | (refine wpList_append_known rfl (.tmp 51) (.tmp 52) 206 rfl _ _ _ w3 rfl rfl R3.out ?_))
    go_ret
    refine ⟨_,rfl,?_,?_⟩
    ·have h := hO3.out
     rw [HF.out] at h
     exact h
    ·obtain ⟨_,_,_,_,h⟩ := hO3.out; exact h
  ·have h10 : m1 = 0 := by omega
   obtain ⟨g',cap',w2,hrun,hO⟩ := HO.out.all N3.out H1.out (by have := N1.out; omega)
   have N4 : Hid (n + m1 = (zs ++ xs').length) := by show _ = _; rw [List.length_append,<- N3.out,<- N1.out]
   obtain ⟨g3,cap3,w3,hrun3,hO3⟩ := hO.out.all N4.out H2.out (by have := N1.out; have := N2.out; rw [List.length_append]; omega)
   have HF : Hid ((zs ++ xs') ++ ys' = zz) := by
    show _ = _
    rw [<- HE.out (),List.append_assoc]
    congr 1
    rw [show xs' = [] from List.eq_nil_of_length_eq_zero (by have := N1.out; omega),Lm.mrg_nil_left,List.nil_append]
   have R1 := LH hrun
   have R3 := LH hrun3
   clear hrun hrun3 hB h10 N1 N2 N3 H1 H2 HO HE hO N4
   go_wp2_with (at_builtin; first | (refine wpList_append_known rfl (.tmp 49) (.tmp 50) 206 rfl _ _ _ w2 rfl rfl R1.out ?_) | (refine wpList_append_known rfl (.tmp 51) (.tmp 52) 206 rfl _ _ _ w3 rfl rfl R3.out ?_))
   go_ret
   refine ⟨_,rfl,?_,?_⟩
   ·have h := hO3.out
    rw [HF.out] at h
    exact h
   ·obtain ⟨_,_,_,_,h⟩ := hO3.out; exact h
end
section
open Go.RowKit
namespace Lm
theorem prs_bound (ts : List Tr) (B : Nat) (h : ∀ t ∈ ts,t.wt <= B) : ∀ t ∈ prs Tr.node ts,t.wt <= 2 * B := by
 intro t ht
 obtain ⟨q,hq⟩ := List.getElem?_of_mem ht
 obtain ⟨x,y,h1,h2,rfl⟩ := prs_get _ _ _ _ hq
 have g1 := h x (List.mem_of_getElem? h1)
 have g2 := h y (List.mem_of_getElem? h2)
 simp only [Tr.wt]; omega
theorem lvl_bound (ts : List Tr) (B : Nat) (h : ∀ t ∈ ts,t.wt <= B) (j : Nat) : ∀ t ∈ lvl Tr.wt .node ts j,t.wt <= 2 ^ j * B := by
 induction j with
 | zero => intro t ht; rw [Nat.pow_zero,Nat.one_mul]; exact h t ht
 | succ j ih =>
  intro t ht
  rcases List.mem_append.1 ((mrg_perm Tr.wt _ _).mem_iff.1 ht) with ht | ht
  ·have h1 := h t ht
   have : B <= 2 ^ (j + 1) * B := Nat.le_mul_of_pos_left _ (Nat.two_pow_pos _)
   omega
  ·have := prs_bound _ _ ih t ht
   rw [Nat.pow_succ,Nat.mul_comm (2 ^ j) 2,Nat.mul_assoc]; exact this
end Lm
theorem lightest_any (sv : Value) (ts : List Lm.Tr) (M : Nat) (w : World) (hP : Pl w sv ts) (h288 : ts.length <= 288) (hM : 1 <= M) (hM2 : M <= 15) (hf : ts.length <= 2 ^ M) (hwt : ∀ t ∈ ts,t.wt <= 4294967295) :
  Calls Tryz.prog 154 #[sv,.int .i64 (M : Int)] w fun e w' => ∃ v,e = .returned v /\ Pl w' v (Lm.lgt ts M) /\ Below w.heap.size w w' := by
 have HP := LH hP
 obtain ⟨a,cap,rfl,hcap,_⟩ := hP.shape
 obtain ⟨n,hn⟩ : ∃ n,n = ts.length := ⟨_,rfl⟩
 rw [<- hn] at hcap h288 HP ⊢
 by_cases h2 : n < 2
 ·have HG : Hid (Lm.lgt ts M = ts) := by show _ = _; unfold Lm.lgt; rw [if_pos (by omega)]
  clear hP hn hf hwt
  go_enter Tryz.func154,Tryz.ntmps154
  go_wp2
  go_ret
  exact ⟨_,rfl,by rw [HG.out]; exact HP.out,Below.refl _ _⟩
 ·have HG : Hid (Lm.lgt ts M = (Lm.lvl Lm.Tr.wt .node ts (M - 1)).take (2 * ts.length - 2)) := by show _ = _; unfold Lm.lgt; rw [if_neg (by omega)]
  have HE : Hid (2 * ts.length - 2 <= (Lm.lvl Lm.Tr.wt .node ts (M - 1)).length) := Lm.lvl_enough _ _ _ (by omega) _ (by rw [show M - 1 + 1 = M by omega]; exact hf)
  have HW : Hid (∀ j,j <= 14 -> ∀ t ∈ Lm.lvl Lm.Tr.wt .node ts j,t.wt <= 281474976710656) := by
   intro j hj t ht
   have h1 := Lm.lvl_bound ts _ hwt j t ht
   have h2 : 2 ^ j <= 2 ^ 14 := Nat.pow_le_pow_right (by omega) hj
   have h3 : 2 ^ j * 4294967295 <= 2 ^ 14 * 4294967295 := Nat.mul_le_mul_right _ h2
   omega
  have HLN : Hid (∀ j,0 < (Lm.lvl Lm.Tr.wt .node ts j).length /\ (Lm.lvl Lm.Tr.wt .node ts j).length <= 576) := by
   intro j
   have := Lm.lvl_le Lm.Tr.wt .node ts j
   refine ⟨?_,by omega⟩
   cases j with
   | zero => simp only [Lm.lvl]; omega
   | succ j => rw [Lm.lvl_length]; omega
  have HN := LH hn
  clear hP hn hf hwt
  go_enter Tryz.func154,Tryz.ntmps154
  go_wp2
  go_loopw [5,13] (fun s5 s13 wr => ∃ (k : Nat) (v : Value),k <= M - 1 /\ v = s5 /\ s13 = .int .i64 (k : Int) /\ Hid (Pl wr v (Lm.lvl Lm.Tr.wt .node ts k)) /\ Hid (Below w.heap.size w wr)) (fun _ s _ => M - (intOf s).toNat)
  case atStart => exact ⟨0,_,Nat.zero_le _,rfl,rfl,HP,Below.refl _ _⟩
  case round =>
   obtain ⟨k,v,hk,rfl,rfl,KP,KB⟩ := hrel
   by_cases hlt : k < M - 1
   ·have HC := paired_any v _ wr KP.out ((HLN.out k).1) (fun i t hi => HW.out k (by omega) t (List.mem_of_getElem? hi))
    obtain ⟨a3,cap3,e3,_⟩ := KP.out.shape
    obtain ⟨n3,hn3⟩ : ∃ n3,n3 = (Lm.lvl Lm.Tr.wt .node ts k).length := ⟨_,rfl⟩
    rw [<- hn3] at e3
    rw [e3] at HC ⊢
    clear hn3 e3 KP
    have hlt2 : (k : Int) < (M : Int) - 1 := by omega
    go_wp2_with fail
    refine HC.mono ?_
    clear HC
    rintro e w1 ⟨v1,rfl,hp1,hb1⟩
    have P1 := LH hp1
    have B1 := LH (KB.out.trans (hb1.mono KB.out.size))
    clear hp1 hb1 KB
    go_wp2_with fail
    refine (merged_any _ v1 ts _ w1 (HP.out.later B1.out) P1.out).mono ?_
    rintro e w2 ⟨v2,rfl,ho2,hb2⟩
    have P2 : Hid (Pl w2 v2 (Lm.lvl Lm.Tr.wt .node ts (k + 1))) := ho2.pl (by have := (HLN.out (k + 1)).2; simp only [Lm.lvl] at this; omega)
    have B2 := LH (B1.out.trans (hb2.mono B1.out.size))
    clear ho2 hb2 P1 B1
    go_wp2_with fail
    go_roundw
    case rel => exact ⟨k + 1,_,by omega,rfl,by go_num,P2,B2⟩
    case measure => simp [intOf]; omega
   ·obtain rfl : k = M - 1 := by omega
    obtain ⟨a3,cap3,rfl,hc3,h13⟩ := KP.out.shape
    have hle : 2 * n - 2 <= (Lm.lvl Lm.Tr.wt .node ts (M - 1)).length := by rw [HN.out]; exact HE.out
    obtain ⟨n3,hn3⟩ : ∃ n3,n3 = (Lm.lvl Lm.Tr.wt .node ts (M - 1)).length := ⟨_,rfl⟩
    rw [<- hn3] at hc3 h13 hle KP ⊢
    have KT : Hid (Pl wr (.slice a3 (2 * n - 2) cap3) (Lm.lgt ts M)) := by
     have h := KP.out.take (2 * n - 2) (by rw [<- hn3]; exact hle)
     rw [HN.out] at h ⊢
     rw [HG.out]; exact h
    clear hn3 KP
    have hlt2 : ¬ ((M - 1 : Nat) : Int) < (M : Int) - 1 := by omega
    obtain ⟨m,hm⟩ : ∃ m,m = 2 * n - 2 := ⟨_,rfl⟩
    rw [<- hm] at hle KT
    have g1 : (2 : Int) * (n : Int) - 2 = (m : Int) := by omega
    have g2 : (m : Int) <= (cap3 : Int) := by omega
    have g3 : (0 : Int) <= (m : Int) := by omega
    have HM := LH hm
    clear hm
    go_wp2
    go_ret
    exact ⟨_,rfl,KT.out,KB.out⟩
end
section
open Go.RowKit
def SymsIn (n : Nat) : Lm.Tr -> Prop
 | .leaf _ s => s < n
 | .node a b => SymsIn n a /\ SymsIn n b
def LenPost (w : World) (C n : Nat) (d : Nat -> Nat) (t : Lm.Tr) (e : Ending) (w' : World) : Prop := e = .returned (.tuple #[]) /\ Rz w' C n (fun i => d i + t.cnt i) /\ Only C w w'
theorem lengthen_any (C n cap : Nat) : ∀ (t : Lm.Tr) (b : Nat) (d : Nat -> Nat) (w : World),Pk w t b -> Rz w C n d -> SymsIn n t -> (∀ i,i < n -> d i + t.cnt i <= 1000000) ->
  Calls Tryz.prog 155 #[.pointer (some ⟨b,0,none⟩),.slice (some ⟨C,0,none⟩) n cap] w (LenPost w C n d t)
 | .leaf x s,b,d,w,hp,hr,hs,hd => by
  have hp' : Has w b (.cells #[.int .i64 (x : Int),.int .i64 (s : Int),.pointer none,.pointer none] 252 (0,0)) := hp
  have hs' : s < n := hs
  have c1 : w.cell? ⟨b,1,none⟩ = some (.int .i64 (s : Int)) := by rw [hp'.cell]; rfl
  have c2 : w.cell? ⟨b,2,none⟩ = some (.pointer none) := by rw [hp'.cell]; rfl
  have c3 := hr.cell s hs'
  have f3 := hr.free s
  have hb := hd s hs'
  obtain ⟨y,hy⟩ : ∃ y,y = d s := ⟨_,rfl⟩
  rw [<- hy] at c3 hb
  have hy2 : y <= 1000000 := by omega
  have HR : Hid (Rz (w.setCell ⟨C,s,none⟩ (.int .i64 ((y + 1 : Nat) : Int))) C n (fun i => d i + (Lm.Tr.leaf x s).cnt i)) := by
   refine (hr.set s (y + 1) hs').congr fun i hi => ?_
   simp only [Lm.Tr.cnt]
   by_cases e : i = s
   ·subst e; rw [if_pos rfl,if_pos rfl,hy]
   ·rw [if_neg e,if_neg (fun h => e h.symm),Nat.add_zero]
  clear hp hp' hr hs hd hb hy
  go_enter Tryz.func155,Tryz.ntmps155
  go_wp2
  go_end0
  exact ⟨rfl,HR.out,only_set _ _ _ _⟩
 | .node x y,b,d,w,hp,hr,hs,hd => by
  obtain ⟨p,q,hh,hx,hy⟩ := hp
  have c2 : w.cell? ⟨b,2,none⟩ = some (.pointer (some ⟨p,0,none⟩)) := by rw [hh.cell]; rfl
  have HC1 := lengthen_any C n cap x p d w hx hr hs.1 (fun i hi => by have := hd i hi; simp only [Lm.Tr.cnt] at this; omega)
  have HH := LH hh
  have HY := LH hy
  have HD := LH hd
  have HS := LH hs
  have HT := LH hr
  clear hh hx hy hr hs hd
  go_enter Tryz.func155,Tryz.ntmps155
  go_wp2_with fail
  refine HC1.mono ?_
  clear HC1
  rintro e w1 ⟨rfl,hr1,ho1⟩
  obtain ⟨cs,hcs,_⟩ := HT.out
  have hh1 := HH.out.only ho1 (HH.out.apart hcs (by decide))
  have c3 : w1.cell? ⟨b,3,none⟩ = some (.pointer (some ⟨q,0,none⟩)) := by rw [hh1.cell]; rfl
  have HC2 := lengthen_any C n cap y q _ w1 (Pk.only hcs (by decide) ho1 HY.out) hr1 HS.out.2 (fun i hi => by have := HD.out i hi; simp only [Lm.Tr.cnt] at this; omega)
  have O1 := LH ho1
  clear hcs hh1 ho1 hr1 c2
  go_wp2_with fail
  refine HC2.mono ?_
  clear HC2
  rintro e w2 ⟨rfl,hr2,ho2⟩
  have R2 : Hid (Rz w2 C n (fun i => d i + (Lm.Tr.node x y).cnt i)) := hr2.congr fun i hi => by simp only [Lm.Tr.cnt]; omega
  have O2 := LH (O1.out.trans ho2)
  clear hr2 ho2
  go_wp2
  go_end0
  exact ⟨rfl,R2.out,O2.out⟩
namespace Lm
theorem sgl_mem (fs : List Nat) (t : Tr) (h : t ∈ sgl fs) : ∃ p,p ∈ srt fs /\ t = .of p /\ p.2 < fs.length /\ p.1 = fs[p.2]?.getD 0 /\ p.1 ≠ 0 := by
 obtain ⟨p,hp,rfl⟩ := List.mem_map.1 h
 have := (usd_mem fs fs.length p).1 ((srt_perm fs).mem_iff.1 hp)
 exact ⟨p,hp,rfl,this⟩
theorem syms_prs (n : Nat) (ts : List Tr) (h : ∀ t ∈ ts,SymsIn n t) : ∀ t ∈ prs Tr.node ts,SymsIn n t := by
 intro t ht
 obtain ⟨q,hq⟩ := List.getElem?_of_mem ht
 obtain ⟨x,y,h1,h2,rfl⟩ := prs_get _ _ _ _ hq
 exact ⟨h x (List.mem_of_getElem? h1),h y (List.mem_of_getElem? h2)⟩
theorem syms_lvl (n : Nat) (ts : List Tr) (h : ∀ t ∈ ts,SymsIn n t) (j : Nat) : ∀ t ∈ lvl Tr.wt .node ts j,SymsIn n t := by
 induction j with
 | zero => exact h
 | succ j ih =>
  intro t ht
  rcases List.mem_append.1 ((mrg_perm Tr.wt _ _).mem_iff.1 ht) with ht | ht
  ·exact h t ht
  ·exact syms_prs n _ ih t ht
theorem lgt_mem (ts : List Tr) (M : Nat) (t : Tr) (h : t ∈ lgt ts M) : ∃ j,t ∈ lvl Tr.wt .node ts j := by
 unfold lgt at h
 split at h
 ·exact ⟨0,h⟩
 ·exact ⟨_,List.mem_of_mem_take h⟩
theorem lgt_syms (fs : List Nat) (M : Nat) : ∀ t ∈ lgt (sgl fs) M,SymsIn fs.length t := by
 intro t ht
 obtain ⟨j,hj⟩ := lgt_mem _ _ _ ht
 refine syms_lvl _ _ (fun u hu => ?_) j t hj
 obtain ⟨p,_,rfl,hp,_⟩ := sgl_mem fs u hu
 exact hp
theorem sgl_wt (fs : List Nat) (h : ∀ i,i < fs.length -> fs[i]?.getD 0 <= 4294967295) : ∀ t ∈ sgl fs,t.wt <= 4294967295 := by
 intro t ht
 obtain ⟨p,_,rfl,hp,he,_⟩ := sgl_mem fs t ht
 show p.1 <= _
 rw [he]; exact h _ hp
theorem len_le (fs : List Nat) (M : Nat) (hM : 1 <= M) (hf : (srt fs).length <= 2 ^ M) (s : Nat) : len fs M s <= M := by
 by_cases hn : 2 <= (srt fs).length
 ·by_cases h : ∃ p ∈ srt fs,p.2 = s
  ·obtain ⟨p,hp,rfl⟩ := h
   exact (len_two fs M hM hn hf p hp).2
  ·unfold len
   rw [lgt_sum fs M hM hn hf (Tr.cnt s) fun _ _ => rfl]
   have : sm (fun t => sm (Tr.cnt s) ((sgl fs).take t)) (buy fs M) = sm (fun _ => 0 * 1) (buy fs M) := sm_congr fun t _ => by
    show sm (Tr.cnt s) ((sgl fs).take t) = 0
    unfold sgl
    rw [<- List.map_take,sm_map]
    have : sm (fun x => Tr.cnt s (Tr.of x)) ((srt fs).take t) = sm (fun _ => 0 * 1) ((srt fs).take t) := sm_congr fun x hx => by
     have : x.2 ≠ s := fun e => h ⟨x,List.mem_of_mem_take hx,e⟩
     simp only [Tr.of,Tr.cnt]
     rw [if_neg this]
    rw [this,sm_mul]; simp
   rw [this,sm_mul]; simp
 ·have h1 : len fs M s = sm (Tr.cnt s) (sgl fs) := by unfold len lgt; rw [if_pos (by rw [sgl_length]; omega)]
  rw [h1]
  have h2 : sm (Tr.cnt s) (sgl fs) <= sm (fun _ => 1 * 1) (sgl fs) := sm_le fun t ht => by
   obtain ⟨p,_,rfl,_⟩ := sgl_mem fs t ht
   simp only [Tr.of,Tr.cnt]
   split <;> omega
  rw [sm_mul] at h2
  have h3 : sm (fun _ => 1) (sgl fs) = (sgl fs).length := by
   induction sgl fs with
   | nil => rfl
   | cons x l ih => rw [sm_cons,ih,List.length_cons]; omega
  rw [h3,sgl_length] at h2
  omega
theorem sm_take_le {α : Type} (c : α -> Nat) (l : List α) (k : Nat) : sm c (l.take k) <= sm c l := by
 have := sm_take_mono c l k (max k l.length) (by omega)
 rwa [List.take_of_length_le (l := l) (i := max k l.length) (by omega)] at this
end Lm
def LensPost (w : World) (fs : List Nat) (M : Nat) (e : Ending) (w' : World) : Prop :=
 ∃ C,e = .returned (.tuple #[.slice (some ⟨C,0,none⟩) fs.length fs.length,.int .i64 0]) /\ w.heap.size <= C /\ Rz w' C fs.length (Lm.len fs M) /\ Below w.heap.size w w'
theorem Pl.only {w w' : World} {C n : Nat} {d : Nat -> Nat} (hr : Rz w C n d) (ho : Only C w w') {s : Value} {ts : List Lm.Tr} (h : Pl w s ts) : Pl w' s ts := by
 obtain ⟨a,len,cap,rfl,h1,h2,h3,h4,h5⟩ := h
 obtain ⟨cs,hC,hn,hv⟩ := hr
 refine ⟨a,len,cap,rfl,h1,h2,h3,h4,fun hl => ?_⟩
 obtain ⟨b,off,rfl,hlt,hc⟩ := h5 hl
 have hne : b ≠ C := by
  rintro rfl
  obtain ⟨t,ht⟩ : ∃ t,ts[0]? = some t := ⟨_,List.getElem?_eq_getElem (by omega)⟩
  obtain ⟨p,hp,_⟩ := hc 0 t ht
  rw [hC.cell] at hp
  have hin := (Array.getElem?_eq_some_iff.1 hp).1
  rw [hv _ (by omega)] at hp
  cases hp
 refine ⟨b,off,rfl,Nat.lt_of_lt_of_le hlt ho.size,fun i t hi => ?_⟩
 obtain ⟨p,hp,hk⟩ := hc i t hi
 refine ⟨p,?_,Pk.only hC (by decide) ho hk⟩
 rw [<- hp]
 unfold World.cell?
 simp only
 rw [ho.block b hlt hne]
theorem lengths_ok (zs : List Int) (s : Value) (M : Nat) (w : World) (hz : Zl w s zs) (hv : Nums zs) (hM : 1 <= M) (hM2 : M <= 15) (hf : (Lm.srt (nat zs)).length <= 2 ^ M) :
  Calls Tryz.prog 112 #[s,.int .i64 (M : Int)] w (LensPost w (nat zs) M) := by
 have HA := aren_yes zs s w hz hv
 have HU := lused_any zs s w hz hv
 obtain ⟨a,len,cap,rfl,hl⟩ := hz.shape
 have hl2 : len <= 288 := by have := hv.2.1; omega
 have hl1 : 0 < len := by have := hv.1; omega
 have HL : Hid (len = (nat zs).length) := by show _ = _; rw [nat_length,hl]
 have HWT : Hid (∀ t ∈ Lm.sgl (nat zs),t.wt <= 4294967295) := Lm.sgl_wt _ fun i hi => by rw [nat_length] at hi; rw [nat_get]; have := hv.2.2 i hi; omega
 have HLE : Hid (∀ i,Lm.len (nat zs) M i <= 15) := fun i => by have := Lm.len_le (nat zs) M hM hf i; omega
 have HF := LH hf
 have hsl : (Lm.sgl (nat zs)).length <= 288 := by
  rw [Lm.sgl_length,Lm.srt_length]
  have h1 := Lm.usd_length (nat zs) (nat zs).length
  have h2 := HL.out
  omega
 have hmk := run_make_row' (P := Tryz.prog) 57 3 (.int .i64 0) 8 Tryz.underlying57 Tryz.infoInt rfl .i64 .i64 len (by omega) (by omega)
 have g1 : decide ((M : Int) < 1) = false := by simp; omega
 have g2 : decide (15 < (M : Int)) = false := by simp; omega
 clear hz hl hv hf
 go_enter Tryz.func112,Tryz.ntmps112
 go_wp2_with fail
 refine HA.mono ?_
 clear HA
 rintro e w0 ⟨rfl,rfl⟩
 go_wp2_with fail
 refine HU.mono ?_
 clear HU
 rintro e w1 ⟨v1,rfl,hp1,hb1⟩
 have P1 := LH hp1
 have B1 := LH hb1
 obtain ⟨a1,c1,rfl,_,_⟩ := hp1.shape
 obtain ⟨n1,hn1⟩ : ∃ n1,n1 = (Lm.sgl (nat zs)).length := ⟨_,rfl⟩
 rw [<- hn1] at hsl P1 ⊢
 have HN1 := LH hn1
 obtain ⟨q,hq⟩ : ∃ q,q = 2 ^ M := ⟨_,rfl⟩
 have hq2 : q <= 32768 := by rw [hq]; exact Nat.pow_le_pow_right (by omega) hM2
 have hnq : ¬ q < n1 := by have h1 := HF.out; rw [<- Lm.sgl_length,<- hn1,<- hq] at h1; omega
 have hsw : Value.int .i64 (wrap64 (2 ^ M)) = .int .i64 (q : Int) := by
  have e : ((2 : Int) ^ M) = (q : Int) := by rw [hq]; simp
  rw [e,IntWalk.wrap64_in _ (by omega)]
 clear hn1 hp1 hb1 hq
 go_wp2_with fail
 have hrz := madeRz w1 len
 have hbA := below1 w1 (.cells (madeCells #[Value.int IntKind.i64 0] len) 3)
 have HC := lightest_any _ _ M _ (P1.out.later hbA) (by rw [<- HN1.out]; exact hsl) hM hM2 (by rw [Lm.sgl_length]; exact HF.out) HWT.out
 have RZ := LH hrz
 have BA := LH (B1.out.trans (hbA.mono B1.out.size))
 have HCW : Hid (w.heap.size <= w1.heap.size) := B1.out.size
 clear hrz hbA hsw hmk
 refine HC.mono ?_
 clear HC
 rintro e w2 ⟨v2,rfl,hp2,hb2⟩
 have P2 := LH hp2
 have R2 := LH (RZ.out.later hb2)
 have B2 := LH (BA.out.trans (hb2.mono BA.out.size))
 obtain ⟨a2,c2,rfl,hmc,hm1⟩ := hp2.shape
 obtain ⟨m,hm⟩ : ∃ m,m = (Lm.lgt (Lm.sgl (nat zs)) M).length := ⟨_,rfl⟩
 rw [<- hm] at hm1 hmc P2 ⊢
 have HM := LH hm
 clear hp2 hb2 hm RZ BA P1
 obtain ⟨C,hC⟩ : ∃ C,C = w1.heap.size := ⟨_,rfl⟩
 rw [<- hC] at R2 HCW ⊢
 clear hC B1
 go_wp2_with fail
 go_loopw [35] (fun s35 wr => ∃ k : Nat,k <= m /\ s35 = .int .i64 (k : Int) /\ Hid (Rz wr C len (fun i => Lm.sm (Lm.Tr.cnt i) ((Lm.lgt (Lm.sgl (nat zs)) M).take k))) /\ Hid (Pl wr (.slice a2 m c2) (Lm.lgt (Lm.sgl (nat zs)) M)) /\ Hid (Below w.heap.size w wr)) (fun s _ => m - (intOf s).toNat)
 case atStart => exact ⟨0,Nat.zero_le _,rfl,R2.out.congr fun i _ => by simp [Lm.sm],P2,B2⟩
 case round =>
  clear R2 P2 B2
  obtain ⟨k,hk,rfl,KR,KP,KB⟩ := hrel
  by_cases hlt : k < m
  ·obtain ⟨a',m',c',e',e1,e2,e3,e4,e5⟩ := KP.out
   cases e'
   obtain ⟨b,off,rfl,hb,hc⟩ := e5 (by omega)
   obtain ⟨t,ht⟩ : ∃ t,(Lm.lgt (Lm.sgl (nat zs)) M)[k]? = some t := ⟨_,List.getElem?_eq_getElem (by rw [<- HM.out]; exact hlt)⟩
   obtain ⟨p,hp,hpk⟩ := hc k t ht
   have hstep : ∀ i,Lm.sm (Lm.Tr.cnt i) ((Lm.lgt (Lm.sgl (nat zs)) M).take (k + 1)) = Lm.sm (Lm.Tr.cnt i) ((Lm.lgt (Lm.sgl (nat zs)) M).take k) + t.cnt i := fun i => by
    rw [List.take_add_one,Lm.sm_append,ht]; simp [Lm.sm]
   have hbd : ∀ i,i < len -> Lm.sm (Lm.Tr.cnt i) ((Lm.lgt (Lm.sgl (nat zs)) M).take k) + t.cnt i <= 1000000 := fun i _ => by
    rw [<- hstep]
    have h1 := Lm.sm_take_le (Lm.Tr.cnt i) (Lm.lgt (Lm.sgl (nat zs)) M) (k + 1)
    have h2 : Lm.sm (Lm.Tr.cnt i) (Lm.lgt (Lm.sgl (nat zs)) M) <= 15 := HLE.out i
    omega
   have HC := lengthen_any C len len t p _ wr hpk KR.out (by rw [HL.out]; exact Lm.lgt_syms (nat zs) M t (List.mem_of_getElem? ht)) hbd
   have HS := LH hstep
   clear e1 e2 e3 e4 e5 hc ht hpk hstep hbd
   go_wp2_with fail
   refine HC.mono ?_
   clear HC
   rintro e w3 ⟨rfl,hr3,ho3⟩
   have R3 : Hid (Rz w3 C len (fun i => Lm.sm (Lm.Tr.cnt i) ((Lm.lgt (Lm.sgl (nat zs)) M).take (k + 1)))) := hr3.congr fun i _ => HS.out i
   have P3 := LH (KP.out.only KR.out ho3)
   have B3 := LH (ho3.below KB.out HCW.out KB.out.size)
   clear hr3 ho3 hp KR KP KB HS
   go_wp2_with fail
   go_roundw
   case rel => exact ⟨k + 1,by omega,by go_num,R3,P3,B3⟩
   case measure => simp [intOf]; omega
  ·obtain rfl : k = m := by omega
   have R4 : Hid (Rz wr C len (Lm.len (nat zs) M)) := by
    refine KR.out.congr fun i _ => ?_
    unfold Lm.len
    rw [List.take_of_length_le (by rw [<- HM.out]; exact Nat.le_refl _)]
   clear KR KP
   go_wp2
   go_ret2
   refine ⟨C,?_,HCW.out,?_,KB.out⟩
   ·rw [<- HL.out]; rfl
   ·rw [<- HL.out]; exact R4.out
end
section
namespace Lm
theorem usd_sum (fs : List Nat) (c : Nat × Nat -> Nat) (k : Nat) : sm c (usd fs k) = sumTo (fun i => if fs[i]?.getD 0 = 0 then 0 else c (fs[i]?.getD 0,i)) k := by
 induction k with
 | zero => rfl
 | succ k ih =>
  simp only [usd,sumTo,sm_append,ih]
  congr 1
  by_cases h : fs[k]?.getD 0 = 0
  ·rw [if_pos h,if_pos h]; rfl
  ·rw [if_neg h,if_neg h,sm_cons,sm_nil,Nat.add_zero]
theorem srt_sum (fs : List Nat) (c : Nat × Nat -> Nat) : sm c (srt fs) = sumTo (fun i => if fs[i]?.getD 0 = 0 then 0 else c (fs[i]?.getD 0,i)) fs.length := by
 rw [sm_perm c (srt_perm fs),usd_sum]
theorem srt_in (fs : List Nat) (i : Nat) (hi : i < fs.length) (h : fs[i]?.getD 0 ≠ 0) : (fs[i]?.getD 0,i) ∈ srt fs :=
 (srt_perm fs).mem_iff.2 ((usd_mem fs fs.length _).2 ⟨hi,rfl,h⟩)
theorem cnt_none (fs : List Nat) (s : Nat) (h : ∀ p ∈ srt fs,p.2 ≠ s) (t : Nat) : sm (Tr.cnt s) ((sgl fs).take t) = 0 := by
 unfold sgl
 rw [<- List.map_take,sm_map]
 have : sm (fun x => Tr.cnt s (Tr.of x)) ((srt fs).take t) = sm (fun _ => 0 * 1) ((srt fs).take t) := sm_congr fun x hx => by
  simp only [Tr.of,Tr.cnt]
  rw [if_neg (h x (List.mem_of_mem_take hx))]
 rw [this,sm_mul]; simp
theorem len_zero (fs : List Nat) (M s : Nat) (hM : 1 <= M) (hf : (srt fs).length <= 2 ^ M) (h : ∀ p ∈ srt fs,p.2 ≠ s) : len fs M s = 0 := by
 unfold len
 by_cases hn : 2 <= (srt fs).length
 ·rw [lgt_sum fs M hM hn hf (Tr.cnt s) fun _ _ => rfl]
  have : sm (fun t => sm (Tr.cnt s) ((sgl fs).take t)) (buy fs M) = sm (fun _ => 0 * 1) (buy fs M) := sm_congr fun t _ => cnt_none fs s h t
  rw [this,sm_mul]; simp
 ·unfold lgt
  rw [if_pos (by rw [sgl_length]; omega)]
  have := cnt_none fs s h (sgl fs).length
  rwa [List.take_length] at this
theorem len_unused (fs : List Nat) (M i : Nat) (hM : 1 <= M) (hf : (srt fs).length <= 2 ^ M) (h : fs[i]?.getD 0 = 0) : len fs M i = 0 := by
 refine len_zero fs M i hM hf fun p hp e => ?_
 have := (usd_mem fs fs.length p).1 ((srt_perm fs).mem_iff.1 hp)
 rw [e] at this
 exact this.2.2 (this.2.1.trans h)
theorem one_srt (fs : List Nat) (hn : ¬ 2 <= (srt fs).length) (p : Nat × Nat) (hp : p ∈ srt fs) : srt fs = [p] := by
 cases e : srt fs with
 | nil => rw [e] at hp; cases hp
 | cons q l =>
  rw [e] at hp hn
  cases l with
  | nil => rw [List.mem_singleton] at hp; rw [hp]
  | cons r l => simp at hn
theorem len_used (fs : List Nat) (M i : Nat) (hM : 1 <= M) (hf : (srt fs).length <= 2 ^ M) (hi : i < fs.length) (h : fs[i]?.getD 0 ≠ 0) : 1 <= len fs M i := by
 have hp := srt_in fs i hi h
 by_cases hn : 2 <= (srt fs).length
 ·exact (len_two fs M hM hn hf _ hp).1
 ·have e := one_srt fs hn _ hp
  unfold len lgt
  rw [if_pos (by rw [sgl_length]; omega)]
  unfold sgl
  rw [e]
  simp [sm,Tr.of,Tr.cnt]
theorem len_lone (fs : List Nat) (M : Nat) (hn : ¬ 2 <= (srt fs).length) (p : Nat × Nat) (hp : p ∈ srt fs) : len fs M p.2 = 1 := by
 have e := one_srt fs hn _ hp
 unfold len lgt
 rw [if_pos (by rw [sgl_length]; omega)]
 unfold sgl
 rw [e]
 simp [sm,Tr.of,Tr.cnt]
theorem kraft15 (fs : List Nat) (M : Nat) (hM : 1 <= M) (hM2 : M <= 15) (hn : 2 <= (srt fs).length) (hf : (srt fs).length <= 2 ^ M) : sm (fun p => 2 ^ (15 - len fs M p.2)) (srt fs) = 32768 := by
 have h1 : sm (fun p => 2 ^ (15 - len fs M p.2)) (srt fs) = sm (fun p => 2 ^ (15 - M) * 2 ^ (M - len fs M p.2)) (srt fs) := sm_congr fun p hp => by
  have := len_two fs M hM hn hf p hp
  rw [<- Nat.pow_add]; congr 1; omega
 rw [h1,sm_mul,kraft fs M hM hn hf,<- Nat.pow_add,show 15 - M + M = 15 by omega]
theorem take15 (fs : List Nat) (M : Nat) (hM : 1 <= M) (hM2 : M <= 15) (hf : (srt fs).length <= 2 ^ M) : sumTo (fun i => if 0 < len fs M i then 2 ^ (15 - len fs M i) else 0) fs.length = if (srt fs).length < 2 then (srt fs).length * 16384 else 32768 := by
 have h1 : sumTo (fun i => if 0 < len fs M i then 2 ^ (15 - len fs M i) else 0) fs.length = sm (fun p => 2 ^ (15 - len fs M p.2)) (srt fs) := by
  rw [srt_sum]
  refine sumTo_congr fun i hi => ?_
  by_cases h : fs[i]?.getD 0 = 0
  ·rw [if_pos h,len_unused fs M i hM hf h]; rfl
  ·have := len_used fs M i hM hf hi h
   rw [if_neg h,if_pos (by omega)]
 rw [h1]
 by_cases hn : 2 <= (srt fs).length
 ·rw [if_neg (by omega),kraft15 fs M hM hM2 hn hf]
 ·rw [if_pos (by omega)]
  have h2 : sm (fun p => 2 ^ (15 - len fs M p.2)) (srt fs) = sm (fun _ => 16384 * 1) (srt fs) := sm_congr fun p hp => by rw [len_lone fs M hn p hp]
  rw [h2,sm_mul,Nat.mul_comm]
  congr 1
  induction srt fs with
  | nil => rfl
  | cons x l ih => rw [sm_cons,ih,List.length_cons]; omega
end Lm
end
end Go.Proofs.YtmgpcbjciioiaaaGreatDoor.Ls
namespace Go.Proofs.YtmgpcbjciioiaaaGreatDoor
set_option maxRecDepth 100000
set_option maxHeartbeats 8000000
section
open Go.RowKit Go.Shelf
structure Lo (b m : Nat) (A B : World) : Prop where
 os : B.os = A.os
 tape : B.tape = A.tape
 output : B.output = A.output
 size : A.heap.size <= B.heap.size
 block : ∀ k,k < A.heap.size -> (k < b ∨ b + m <= k) -> B.heap[k]? = A.heap[k]?
theorem Lo.refl (b m : Nat) (A : World) : Lo b m A A := ⟨rfl,rfl,rfl,Nat.le_refl _,fun _ _ _ => rfl⟩
theorem Lo.trans {b m : Nat} {A B C : World} (h : Lo b m A B) (k : Lo b m B C) : Lo b m A C :=
 ⟨k.os.trans h.os,k.tape.trans h.tape,k.output.trans h.output,Nat.le_trans h.size k.size,fun i hi hb => (k.block i (Nat.lt_of_lt_of_le hi h.size) hb).trans (h.block i hi hb)⟩
theorem Lo.wide {b m c n : Nat} {A B : World} (h : Lo b m A B) (h1 : c <= b) (h2 : b + m <= c + n) : Lo c n A B :=
 ⟨h.os,h.tape,h.output,h.size,fun k hk hb => h.block k hk (by omega)⟩
theorem Lo.of_below {b m : Nat} {A B : World} (h : Below A.heap.size A B) : Lo b m A B := ⟨h.os,h.tape,h.output,h.size,fun k hk _ => h.block k hk⟩
theorem Lo.below {b m B0 : Nat} {W A B : World} (h : Lo b m A B) (hb : Below B0 W A) (hB : B0 <= b) (hs : B0 <= A.heap.size) : Below B0 W B :=
 hb.trans ⟨h.os,h.tape,h.output,h.size,fun k hk => h.block k (Nat.lt_of_lt_of_le hk hs) (Or.inl (Nat.lt_of_lt_of_le hk hB))⟩
theorem Lo.has {b m : Nat} {A B : World} (h : Lo b m A B) {k : Nat} {o : Obj} (hk : Has A k o) (hb : k < b ∨ b + m <= k) : Has B k o := (h.block k hk.lt hb).trans hk
theorem Lo.putObj (A : World) (k : Nat) (o : Obj) : Lo k 1 A (A.putObj k o) :=
 ⟨rfl,rfl,rfl,by simp,fun i _ hb => World.putObj_heap_other (by omega)⟩
structure Up (B : Nat) (A C : World) : Prop where
 os : C.os = A.os
 tape : C.tape = A.tape
 output : C.output = A.output
 size : A.heap.size <= C.heap.size
 block : ∀ k,B <= k -> k < A.heap.size -> C.heap[k]? = A.heap[k]?
theorem Up.refl (B : Nat) (A : World) : Up B A A := ⟨rfl,rfl,rfl,Nat.le_refl _,fun _ _ _ => rfl⟩
theorem Up.trans {b : Nat} {A B C : World} (h : Up b A B) (k : Up b B C) : Up b A C :=
 ⟨k.os.trans h.os,k.tape.trans h.tape,k.output.trans h.output,Nat.le_trans h.size k.size,fun i hb hi => (k.block i hb (Nat.lt_of_lt_of_le hi h.size)).trans (h.block i hb hi)⟩
theorem Up.of_below {b : Nat} {A B : World} (h : Below A.heap.size A B) : Up b A B := ⟨h.os,h.tape,h.output,h.size,fun k _ hk => h.block k hk⟩
theorem Up.mono {b c : Nat} {A B : World} (h : Up b A B) (hb : b <= c) : Up c A B := ⟨h.os,h.tape,h.output,h.size,fun k h1 h2 => h.block k (Nat.le_trans hb h1) h2⟩
theorem Up.has {b : Nat} {A B : World} (h : Up b A B) {k : Nat} {o : Obj} (hk : Has A k o) (hb : b <= k) : Has B k o := (h.block k hb hk.lt).trans hk
theorem Up.putObj {b : Nat} (A : World) (k : Nat) (o : Obj) (hk : k < b) : Up b A (A.putObj k o) := ⟨rfl,rfl,rfl,by simp,fun i hi _ => World.putObj_heap_other (by omega)⟩
theorem roundIn_wide {n m : Nat} {P : Program} {l : Nat} {f : FuncId} {tmps : Array Value} {assign body : Code} {w : World} {R : Ending -> World -> Prop} (h : RoundIn Fence.wide n P l f tmps assign body w R) : RoundIn Fence.wide m P l f tmps assign body w R :=
 ⟨h.1,fun c cs _ => h.2 c cs (room_wide _)⟩
def Goes (P : Program) (B l : Nat) (args : Array Value) (J J' : World -> Prop) : Prop :=
 ∀ W1,J W1 -> B <= W1.heap.size -> YieldAt Fence.wide 9 P l args W1 fun e W' => e = .returned (.bool true) /\ Up B W1 W' /\ J' W'
def Grows (B : Nat) (J : World -> Prop) : Prop := ∀ A C,J A -> B <= A.heap.size -> Below A.heap.size A C -> J C
def FixPost (b : Nat) (J : World -> Prop) (W : World) (e : Exit) (_ : Act) (W' : World) : Prop := e = .normal /\ Up b W W' /\ J W'
section
variable {n : Nat} {P : Program}
end
end
section
open Go.RowKit
def Lss (w : World) (b : Nat) (L : List (List Nat)) : Prop := ∀ (j : Nat) (xs : List Nat),L[j]? = some xs -> ∃ a n c,w.cell? ⟨b,j,none⟩ = some (.slice a n c) /\ Zl w (.slice a n c) (Hd.zz xs)
theorem count_take_succ (L : List (List Nat)) (j : Nat) (xs : List Nat) (h : L[j]? = some xs) (i : Nat) : (L.take (j + 1)).flatten.count i = (L.take j).flatten.count i + xs.count i := by
 rw [List.take_add_one,h,Option.toList,List.flatten_append,List.count_append]
 simp
theorem count_step (xs : List Nat) (k x : Nat) (h : xs[k]? = some x) (i : Nat) : (xs.take (k + 1)).count i = (xs.take k).count i + (if i = x then 1 else 0) := by
 rw [List.take_add_one,h,Option.toList,List.count_append]
 congr 1
 by_cases e : i = x
 ·subst e; simp
 ·rw [if_neg e]
  simp [List.count_singleton]
  omega
theorem tally_ok (n b cap m : Nat) (L : List (List Nat)) (w : World) (hL : Lss w b L) (hm : m = L.length) (hb : b < w.heap.size) (hx : ∀ xs ∈ L,∀ x ∈ xs,x < n) (hn : n <= 300) (h9 : L.flatten.length <= 1000000) (hm9 : m <= 1000) :
  Calls Tryz.prog 74 #[.int .i64 (n : Int),.slice (some ⟨b,0,none⟩) m cap] w fun e w' => e = .returned (.slice (some ⟨w.heap.size,0,none⟩) n n) /\ Rz w' w.heap.size n (fun i => L.flatten.count i) /\ Below w.heap.size w w' := by
 have hmk := run_make_row' (P := Tryz.prog) 57 3 (.int .i64 0) 8 Tryz.underlying57 Tryz.infoInt rfl .i64 .i64 n (by omega) (by omega)
 have HL := LH hL
 have HM := LH hm
 have HX := LH hx
 have H9 := LH h9
 have RZ0 := LH (madeRz w n)
 have HB0 := LH (below1 w (.cells (madeCells #[.int .i64 0] n) 3))
 clear hL hm hx h9
 go_enter Tryz.func74,Tryz.ntmps74
 go_wp2_with fail
 go_loopw [14] (fun s14 wr => ∃ j : Nat,j <= m /\ s14 = .int .i64 (j : Int) /\ Hid (Rz wr w.heap.size n (fun i => (L.take j).flatten.count i)) /\ Hid (Below w.heap.size w wr)) (fun s _ => m - (intOf s).toNat)
 case atStart => exact ⟨0,Nat.zero_le _,rfl,RZ0.out.congr (fun i _ => by simp),HB0.out⟩
 case round =>
  obtain ⟨j,hj,rfl,KR,KB⟩ := hrel
  by_cases hlt : j < m
  ·obtain ⟨xs,hxs⟩ : ∃ xs,L[j]? = some xs := ⟨L[j]'(by rw [<- HM.out]; exact hlt),List.getElem?_eq_getElem _⟩
   obtain ⟨a1,n1,c1,hc1,hz1⟩ := HL.out j xs hxs
   have hcell := (KB.out.cell (p := ⟨b,j,none⟩) hb).trans hc1
   have HZ := LH hz1
   have hn1 : n1 = xs.length := by obtain ⟨a,len,cap,e,h,_⟩ := hz1; injection e with _ e _; rw [e,h,Hd.zz_length]
   have HN1 := LH hn1
   have HXS := LH (fun _ : Unit => hxs)
   have hxm := List.mem_of_getElem? hxs
   have hlen : xs.length <= 1000000 := by
    have h1 := H9.out
    have h2 : xs.length <= L.flatten.length := (List.sublist_flatten_of_mem hxm).length_le
    omega
   have hn19 : n1 <= 1000000 := by omega
   have HXX := LH (HX.out xs hxm)
   have j1 : (0 : Int) <= (j : Int) := by omega
   have j2 : (j : Int) < (m : Int) := by omega
   clear hc1 hz1 hn1 hxs hxm hlen
   go_wp2_with fail
   go_loopw [20] (fun s20 wx => ∃ k : Nat,k <= n1 /\ s20 = .int .i64 (k : Int) /\ Hid (Rz wx w.heap.size n (fun i => (L.take j).flatten.count i + (xs.take k).count i)) /\ Hid (Below w.heap.size w wx)) (fun s _ => n1 - (intOf s).toNat)
   case atStart => exact ⟨0,Nat.zero_le _,rfl,KR.out.congr (fun i _ => by simp),KB⟩
   case round =>
    obtain ⟨k,hk,rfl,XR,XB⟩ := hrel
    by_cases hlt2 : k < n1
    ·obtain ⟨b1,off1,rfl,hb1,hq1,hc⟩ := zl_cell HZ.out k (by rw [Hd.zz_length]; have := HN1.out; omega)
     rw [Hd.zz_get] at hc
     obtain ⟨x,hx⟩ : ∃ x,xs[k]? = some x := ⟨xs[k]'(by have := HN1.out; omega),List.getElem?_eq_getElem _⟩
     rw [hx,Option.getD_some] at hc
     have hcx := (XB.out.cell (p := ⟨b1,off1 + k,none⟩) hb1).trans hc
     have hxn : x < n := HXX.out x (List.mem_of_getElem? hx)
     obtain ⟨q,hq⟩ : ∃ q,q = (L.take j).flatten.count x + (xs.take k).count x := ⟨_,rfl⟩
     have f0 := XR.out.cell x hxn
     rw [<- hq] at f0
     have f1 := XR.out.free x
     have hq9 : q <= 2000000 := by
      have h1 := List.count_le_length (a := x) (l := (L.take j).flatten)
      have h2 := List.count_le_length (a := x) (l := xs.take k)
      have h3 : (L.take j).flatten.length <= L.flatten.length := by
       have e : L.flatten = (L.take j).flatten ++ (L.drop j).flatten := by rw [<- List.flatten_append,List.take_append_drop]
       rw [e,List.length_append]; omega
      have h4 := H9.out
      have h5 : (xs.take k).length <= n1 := by rw [List.length_take]; omega
      omega
     have NR : Hid (Rz (wr.setCell ⟨w.heap.size,x,none⟩ (.int .i64 ((q + 1 : Nat) : Int))) w.heap.size n (fun i => (L.take j).flatten.count i + (xs.take (k + 1)).count i)) :=
      (XR.out.set x (q + 1) hxn).congr (fun i _ => by
       rw [count_step xs k x hx i]
       by_cases e : i = x
       ·subst e; rw [if_pos rfl,if_pos rfl,hq,Nat.add_assoc]
       ·rw [if_neg e,if_neg e]; rfl)
     have NB := LH (XB.out.setCell (p := ⟨w.heap.size,x,none⟩) (Nat.le_refl _) (.int .i64 ((q + 1 : Nat) : Int)))
     have i1 : (0 : Int) <= (x : Int) := by omega
     have i2 : (x : Int) < (n : Int) := by omega
     have i3 : (0 : Int) <= (k : Int) := by omega
     have i4 : (k : Int) < (n1 : Int) := by omega
     clear hq1 hc hx hq hb1 XR XB
     go_wp2_with fail
     go_roundw
     case rel => first | exact ⟨k + 1,by omega,by go_num,NR,NB⟩ | ((repeat apply Exists.intro); exact ⟨⟨k + 1,by omega,by go_num,NR,NB⟩,rfl⟩)
     case measure => simp [intOf]; omega
    ·obtain rfl : k = n1 := by omega
     have NR : Hid (Rz wr w.heap.size n (fun i => (L.take (j + 1)).flatten.count i)) := XR.out.congr (fun i _ => by
      rw [count_take_succ L j xs (HXS.out ()) i]
      congr 1
      rw [List.take_of_length_le (by have := HN1.out; omega)])
     clear XR
     go_wp2_with fail
     go_roundw
     case rel => first | exact ⟨j + 1,by omega,by go_num,NR,XB⟩ | ((repeat apply Exists.intro); exact ⟨⟨j + 1,by omega,by go_num,NR,XB⟩,rfl⟩)
     case measure => simp [intOf]; omega
  ·obtain rfl : j = m := by omega
   have NR : Hid (Rz wr w.heap.size n (fun i => L.flatten.count i)) := KR.out.congr (fun i _ => by rw [List.take_of_length_le (by have := HM.out; omega)])
   clear KR
   go_wp2_with fail
   go_ret
   exact ⟨rfl,NR.out,KB.out⟩
end
end Go.Proofs.YtmgpcbjciioiaaaGreatDoor
