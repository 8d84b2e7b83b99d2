import Derived.Test.YtckbhciehmokdaaGreatDoorHrget
import Derived.Test.YtckbhciehmokdaaGreatDoorMfbad
import Derived.Test.YtckbhciehmokdaaGreatDoorIcop
import Derived.Test.YtckbhciehmokdaaGreatDoorNrng
import Derived.Test.YtckbhciehmokdaaGreatDoorDrng
import Derived.Test.YtckbhciehmokdaaGreatDoorIex
import Derived.Test.YtckbhciehmokdaaGreatDoorMbad
import Derived.Deep.RegionHeld3
import Derived.Deep.OwnRows
import Derived.Maps.AppendAt
namespace Go.Proofs.YtckbhciehmokdaaGreatDoor.Ls
set_option maxRecDepth 100000
set_option maxHeartbeats 8000000
section
open Go.RowKit Go.Shelf
attribute [local go_sem] Oper.semAt_some
theorem step_append_in {F : Fence} {n : Nat} {P : Program} {ops : Array Oper} {o : Oper} {a : Act} {w : World} {K : Act -> World -> Prop} {Q : Exit -> Act -> World -> Prop} {E : Prop} (hw : Region.wanted o (yielded ops a.tmps) = true) (s x : Operand) (t : TypeId)
  (hop : o.op = Op.call { callee := Callee.builtin Builtin.append,args := #[s,x],argTypes := #[t,t] }) (S X v : Value) (w' : World) (hs : a.eval s = S) (hx : a.eval x = X)
  (hrun : (Builtin.append_ #[t,t] o.type #[S,X]).run P w = .ok v w') (hK : K (a.put o.dst v) w') :
  if Region.wanted o (yielded ops a.tmps) = true then Oper.wpIn F n P o a w K Q else E := by
 rw [if_pos hw]
 unfold Oper.wpIn
 refine ⟨?_,?_⟩
 ·simp [Oper.about,hop,resolve,Target.leads,Sem.run_pure]
 ·rw [Oper.semAt_plain F _ _ (by rw [hop]; intro c hc'; cases hc')]
  simp [execOp,hop,resolve,invoke,builtin,hs,hx,hrun,Result.andThen]
  exact hK
theorem twTo_prs (ts : List Lm.Tr) : ∀ j,2 * j <= ts.length -> (twTo ts j).map (fun p => Lm.Tr.node p.1 p.2) = Lm.prs .node (ts.take (2 * j)) := by
 intro j
 induction j with
 | zero => intro _; simp [twTo,Lm.prs]
 | succ j ih =>
  intro h
  have e1 : ts[2 * j]? = some (ts[2 * j]'(by omega)) := List.getElem?_eq_getElem _
  have e2 : ts[2 * j + 1]? = some (ts[2 * j + 1]'(by omega)) := List.getElem?_eq_getElem _
  have e3 : ts.take (2 * (j + 1)) = ts.take (2 * j) ++ [ts[2 * j]'(by omega),ts[2 * j + 1]'(by omega)] := by
   rw [show 2 * (j + 1) = 2 * j + 1 + 1 by omega,List.take_add_one,List.take_add_one,e1,e2,List.append_assoc]; rfl
  rw [e3,Lm.prs_snoc _ _ _ _ (by rw [List.length_take]; omega),<- ih (by omega)]
  simp only [twTo,List.map_append,List.map_cons,List.map_nil,e1,e2,Option.getD_some]
theorem twTo_all (ts : List Lm.Tr) : (twTo ts (ts.length / 2)).map (fun p => Lm.Tr.node p.1 p.2) = Lm.prs .node ts := by
 rw [twTo_prs ts _ (by omega)]
 have h := Lm.prs_take Lm.Tr.node ts (ts.length / 2)
 rw [<- h,List.take_of_length_le (by rw [Lm.prs_length]; exact Nat.le_refl _)]
def Prd (w : World) (C : Nat) (W : World) (v : Value) (pre : List (Tw w)) : Prop :=
 ∃ rs : List Nat,Boxed W C 206 v /\ W.ownsRow w.heap.size 209 1 v pre.length (vp rs) /\ rs.length = pre.length /\
  ∀ (i r : Nat) (x : Tw w),rs[i]? = some r -> pre[i]? = some x -> Pk W (.node x.1.2.1 x.1.2.2) r
theorem has_kept {A B : World} {row : Option Nat} (hg : A.grownBy B row) (hr : ∀ r,row = some r -> ∃ o : Obj,A.heap[r]? = some o /\ o.isCells = false) {b : Nat} {cs : Array Value} {t : TypeId} {f : Nat × Nat} (h : Has A b (.cells cs t f)) : Has B b (.cells cs t f) := by
 refine (hg.block b h.lt fun e => ?_).trans h
 obtain ⟨o,h1,h2⟩ := hr b e.symm
 have h' : A.heap[b]? = some (.cells cs t f) := h
 rw [h'] at h1
 cases h1
 cases h2
theorem own_kept {A B : World} {row : Option Nat} (hg : A.grownBy B row) (hr : ∀ r,row = some r -> ∃ o : Obj,A.heap[r]? = some o /\ o.isCells = false) {base : Nat} {e : TypeId} {size : Nat} {v : Value} {n : Nat} {xs : List Value} (h : A.ownsRow base e size v n xs) : B.ownsRow base e size v n xs := by
 obtain ⟨h1,h2⟩ := h
 refine ⟨h1,?_⟩
 rcases h2 with h | ⟨g,c,cur,h,hbg,hgc,r⟩
 ·exact Or.inl h
 ·exact Or.inr ⟨g,c,cur,h,hbg,has_kept hg hr hgc,r⟩
theorem prd_own (w : World) (C : Nat) : Go.Own (fun (pre : List (Tw w)) W => ∃ v,Prd w C W v pre) := by
 rintro pre A B row ⟨v,rs,h1,h2,h3,h4⟩ hg hr
 exact ⟨v,rs,has_kept hg hr h1,own_kept hg hr h2,h3,fun i r x e1 e2 => (h4 i r x e1 e2).keep fun _ _ h => has_kept hg hr h⟩
theorem Prd.more {w W : World} {C : Nat} {v : Value} {pre : List (Tw w)} (h : Prd w C W v pre) (hB : Below w.heap.size w W) (hC : w.heap.size <= C) (x : Tw w) (w1 : World) (r : Nat) (hpk : Pk w1 (.node x.1.2.1 x.1.2.2) r) (hb : Below W.heap.size W w1) (hl : pre.length <= 1000) :
  ∃ g' cap' w2,(Builtin.append_ #[206,206] 206 #[v,.slice (some ⟨w1.heap.size,0,none⟩) 1 1]).run Tryz.prog (w1.alloc (.cells #[.pointer (some ⟨r,0,none⟩)] 209)) = .ok (.slice (some ⟨g',0,none⟩) (pre.length + 1) cap') w2 /\
   w2.cell? ⟨C,0,none⟩ = some v /\ w2.frozen? ⟨C,0,none⟩ = false /\ Hid (KeepsOthers W (w2.setCell ⟨C,0,none⟩ (.slice (some ⟨g',0,none⟩) (pre.length + 1) cap')) /\ Below w.heap.size W (w2.setCell ⟨C,0,none⟩ (.slice (some ⟨g',0,none⟩) (pre.length + 1) cap')) /\
    Prd w C (w2.setCell ⟨C,0,none⟩ (.slice (some ⟨g',0,none⟩) (pre.length + 1) cap')) (.slice (some ⟨g',0,none⟩) (pre.length + 1) cap') (pre ++ [x]) /\
    ∀ b u,b ≠ C -> Boxed W b 206 u -> Boxed (w2.setCell ⟨C,0,none⟩ (.slice (some ⟨g',0,none⟩) (pre.length + 1) cap')) b 206 u) := by
 obtain ⟨rs,h1,h2,h3,h4⟩ := h
 have hsz := hB.size
 have hs1 := hb.size
 have k1 : Boxed w1 C 206 v := (hb.block C h1.lt).trans h1
 have k2 := own_stays h2 hb
 have hc := (Has.new w1 (.cells #[.pointer (some ⟨r,0,none⟩)] 209)).one.1
 obtain ⟨v',w2,hrun,ho,hg⟩ := run_app1 206 209 (.pointer none) Tryz.underlying206 Tryz.infoPack rfl 206 (k2.alloc (.cells #[.pointer (some ⟨r,0,none⟩)] 209)) w1.heap.size _ rfl hc (by omega) (by simp; omega)
 obtain ⟨g',cap',rfl⟩ := ownsRow_succ ho
 obtain ⟨a1,a2,a3,a4,a5⟩ := k1.appended (by decide) k2 (by omega) hC ho hg
 have hko : KeepsOthers W w1 := ⟨hs1,fun k o hk _ => (hb.block k (Array.getElem?_eq_some_iff.1 hk).1).trans hk⟩
 refine ⟨g',cap',w2,hrun,a1.cell,a1.frozen,hko.trans a4,(hb.mono hsz).trans a5,⟨rs ++ [r],a2,?_,?_,?_⟩,?_⟩
 ·rw [vp_snoc,List.length_append]; exact a3
 ·rw [List.length_append,List.length_append,h3]; rfl
 ·have step : ∀ {t : Lm.Tr} {b : Nat},Pk w1 t b -> Pk (w2.setCell ⟨C,0,none⟩ (.slice (some ⟨g',0,none⟩) (pre.length + 1) cap')) t b := by
   intro t b hp
   have q1 := Pk.grown (k2.alloc (.cells #[.pointer (some ⟨r,0,none⟩)] 209)) hg (hp.later (below1 w1 _))
   exact q1.keep fun _ _ hh => Has.set hh (hh.apart (show Has w2 C _ from a1) (by decide)) _
  intro i b y hi hy
  by_cases hlt : i < rs.length
  ·rw [List.getElem?_append_left hlt] at hi
   rw [List.getElem?_append_left (by omega)] at hy
   exact step ((h4 i b y hi hy).later hb)
  ·have e : i = rs.length := by
    have := (List.getElem?_eq_some_iff.1 hi).1
    rw [List.length_append,List.length_singleton] at this; omega
   subst e
   rw [List.getElem?_append_right (Nat.le_refl _),Nat.sub_self] at hi
   rw [h3,List.getElem?_append_right (Nat.le_refl _),Nat.sub_self] at hy
   simp only [List.getElem?_cons_zero,Option.some.injEq] at hi hy
   subst hi hy
   exact step hpk
 ·intro b u hne hbu
  have q0 : Has w1 b (.cells #[u] 206 (0,0)) := (hb.block b hbu.lt).trans hbu
  have q1 : Has w2 b (.cells #[u] 206 (0,0)) := (hg.block b (by have := q0.lt; simp; omega) (own_ne_type k2 q0 (by decide)).symm).trans (q0.alloc _)
  exact Has.set q1 hne _
theorem Prd.done {w W : World} {C : Nat} {v : Value} {ts : List Lm.Tr} {ys : List (Tw w)} (h : Prd w C W v ys) (hT : TellsTw ts (ts.length / 2) ys) (hl : ts.length <= 1024) : Pl W v (Lm.prs .node ts) := by
 obtain ⟨rs,h1,h2,h3,h4⟩ := h
 have hn := tellsTw_length hT
 have hlen : (Lm.prs Lm.Tr.node ts).length = ys.length := by rw [Lm.prs_length,hn]
 have he : Lm.prs Lm.Tr.node ts = ys.map (fun x => Lm.Tr.node x.1.2.1 x.1.2.2) := by
  rw [<- twTo_all,<- hT,List.map_map]; rfl
 rcases h2.2 with ⟨rfl,h0⟩ | ⟨g,cap,cur,rfl,_,hg,hle,_⟩
 ·rw [List.eq_nil_of_length_eq_zero (by omega : (Lm.prs Lm.Tr.node ts).length = 0)]; exact Pl.nil _
 ·refine ⟨_,_,_,rfl,hlen.symm,hle,by omega,fun h => by simp at h,fun _ => ⟨g,0,rfl,lt_of_block hg,fun i t hi => ?_⟩⟩
  rw [he,List.getElem?_map] at hi
  have hil : i < ys.length := by
   by_cases hh : i < ys.length
   ·exact hh
   ·rw [List.getElem?_eq_none (by omega)] at hi; cases hi
  rw [List.getElem?_eq_getElem hil] at hi
  simp only [Option.map_some,Option.some.injEq] at hi
  subst hi
  have er : rs[i]? = some (rs[i]'(by omega)) := List.getElem?_eq_getElem _
  refine ⟨rs[i]'(by omega),?_,h4 i _ _ er (List.getElem?_eq_getElem hil)⟩
  rw [Nat.zero_add,h2.cellAt i (by omega)]
  simp [vp,er]
theorem paired_in (n : Nat) (hn : 3 <= n) (sv : Value) (ts : List Lm.Tr) (w : World) (hP : Pl w sv ts) (hpos : 0 < ts.length) (hwt : ∀ (i : Nat) (t : Lm.Tr),ts[i]? = some t -> t.wt <= 281474976710656) :
  CallsIn Fence.wide n Tryz.prog 191 #[sv] w fun e W' => ∃ v,e = .returned v /\ Pl W' v (Lm.prs .node ts) /\ Below w.heap.size w W' := by
 have h1 : 1 <= n := by omega
 have HP := LH hP
 obtain ⟨a,cap,rfl,hcap,h1024⟩ := hP.shape
 have HW := LH hwt
 obtain ⟨len,hlen⟩ : ∃ len,len = ts.length := ⟨_,rfl⟩
 rw [<- hlen] at hcap h1024 HP hpos ⊢
 have HL := LH hlen
 clear hP hwt hlen
 refine callsIn_of_wp_marks Tryz.func191 rfl trivial ?_ rfl
 simp only [Tryz.ntmps191,List.size_toArray,List.length_cons,List.length_nil,Nat.reduceAdd,Nat.reduceSub,Array.replicate_succ,Array.replicate_zero,List.push_toArray,List.append_toArray,List.nil_append,List.cons_append]
 gi_wp2_with (refine ⟨trivial,?_⟩; gi_at_call 205; refine (twos_in (n - 1) _ _ _ _ rfl _).mono ?_; rintro e w' ⟨rfl,rfl⟩)
 obtain ⟨w1,hw1⟩ : ∃ w1,w1 = (w.alloc (.cells #[.slice none 0 0] 206)).alloc (.cells #[.slice a len cap] 206) := ⟨_,rfl⟩
 have hz1 : w1.heap.size = w.heap.size + 2 := by rw [hw1]; simp
 have bC : Boxed w1 w.heap.size 206 (.slice none 0 0) := by rw [hw1]; exact (Boxed.new w 206 _).alloc _
 have bN : Boxed w1 (w.heap.size + 1) 206 (.slice a len cap) := by
  have := Boxed.new (w.alloc (.cells #[.slice none 0 0] 206)) 206 (.slice a len cap)
  rw [World.size_alloc] at this
  rw [hw1]; exact this
 have hB1 : Below w.heap.size w w1 := by rw [hw1]; exact ((Below.refl _ w).alloc (Nat.le_refl _) _).alloc (by simp) _
 rw [<- hw1]
 clear hw1
 refine wpIn_rangeFunc_ownG rfl h1 (gf := 223) (lb := #[.pointer (some ⟨w.heap.size + 1,0,none⟩)]) rfl trivial (enters_of Tryz.func223 (by kernel_rfl) rfl)
  (twos_stops (n - 1) (by omega) (w.heap.size + 1) w w1 _ ts (by rw [<- HL.out]; exact hpos) HP.out (fun i t h => HW.out i t h) hB1 bN) keepB_t (keepB_b (by omega)) (Below.refl _ _) (fun _ => rfl)
  (fun pre W => ((∃ v,Prd w w.heap.size W v pre) /\ Boxed W (w.heap.size + 1) 206 (.slice a len cap)) /\ Below w.heap.size w W)
  (fun _ _ _ => False)
  (OwnFrom.and (Go.Own.from (fun s A B row hs hg hr => ⟨prd_own w w.heap.size s A B row hs.1 hg hr,has_kept hg hr hs.2⟩) _) (ownFrom_below (by omega) (by omega)))
  (fun _ _ _ _ _ hs _ _ => hs)
  ⟨⟨⟨_,[],bC,World.ownsRow_nil _ _ _ _,rfl,fun i r x h => by simp at h⟩,bN⟩,hB1⟩
  (fun x => { tmps := #[.slice a len cap,undef,.slice none 0 0,.pointer (some ⟨w.heap.size,0,none⟩),.pointer (some ⟨x.1.1.1,0,none⟩),.pointer (some ⟨x.1.1.2,0,none⟩),.slice a len cap,.func (.func 223) #[] #[.pointer (some ⟨w.heap.size + 1,0,none⟩)],.pointer (some ⟨x.1.1.1,0,none⟩),.pointer (some ⟨x.1.1.2,0,none⟩),undef,undef,undef,undef,undef,undef,undef],defers := [] }) ?assign ?body ?done ?stop
 case assign =>
  intro l x W K hK
  gi_wp2
  exact hK
 case body =>
  rintro l pre x W ⟨⟨⟨v,hv⟩,hbx⟩,hB⟩ hlt
  have hx := x.2
  have hBd : Below w.heap.size w W.drew := hB.drew
  have hCW := hB.size
  obtain ⟨a3,cap3,rfl⟩ : ∃ a cap,v = .slice a pre.length cap := by obtain ⟨_,_,h,_⟩ := hv; exact own_slice h
  have hvd : Prd w w.heap.size W.drew (.slice a3 pre.length cap3) pre := by
   obtain ⟨rs,g1,g2,g3,g4⟩ := hv
   exact ⟨rs,g1,g2,g3,fun i r y e1 e2 => (g4 i r y e1 e2).later ((Below.refl _ W).drew)⟩
  have hbC : Boxed W w.heap.size 206 (.slice a3 pre.length cap3) := by obtain ⟨_,h,_⟩ := hv; exact h
  have hc := hbC.cell
  have hf := hbC.frozen
  have hcl := hbC.lt
  have hwith := with_any x.1.1.1 x.1.1.2 x.1.2.1 x.1.2.2 W.drew (hx.1.later hBd) (hx.2.1.later hBd) hx.2.2
  have hpl : pre.length <= 1000 := by have := HL.out; omega
  have HM := LH (fun (w1 : World) (r : Nat) (hpk : Pk w1 (.node x.1.2.1 x.1.2.2) r) (hb : Below W.drew.heap.size W.drew w1) => hvd.more hBd (Nat.le_refl _) x w1 r hpk hb hpl)
  have HBX := LH hbx
  obtain ⟨p,hp⟩ : ∃ p,p = x.1.1.1 := ⟨_,rfl⟩
  obtain ⟨q,hq⟩ : ∃ q,q = x.1.1.2 := ⟨_,rfl⟩
  obtain ⟨np,hnp⟩ : ∃ np,np = pre.length := ⟨_,rfl⟩
  rw [<- hp,<- hq] at hwith ⊢
  rw [<- hnp] at hc HM
  have hmx : Tryz.prog.follows .mixedOrders = true := by kernel_rfl
  have hd1 : 1 <= n - 1 - 1 := by omega
  have HB := LH hB
  have HX := LH hx
  clear hx hv hvd hbC hbx hp hq hnp hpl hBd hB
  gi_wp2
  refine wpIn_region_any hmx ?_
  change wpAnyIn _ _ _ _ _ _ _ _ _ (World.drew _)
  refine wpAny_round l (by kernel_rfl) _ _ _ _ ?_
  refine wpAnyIn_take (i := 1) (v := ?_) rfl rfl (by kernel_rfl) (by kernel_rfl) (by kernel_rfl) (fun _ _ _ h => h) ⟨Or.inl ⟨by rfl,?hy1_1⟩,fun _ => rfl⟩ ?_
  case hy1_1 => intro w; go_simp; first | done | rfl
  refine wpAnyIn_take (i := 2) (v := ?_) rfl rfl (by kernel_rfl) (by kernel_rfl) (by kernel_rfl) (fun _ _ _ h => h) ⟨Or.inl ⟨by rfl,?hy1_2⟩,fun _ => rfl⟩ ?_
  case hy1_2 => intro w; go_simp; first | done | rfl
  refine wpAnyIn_ready (rs := [0,3]) (by kernel_rfl) (by simp) ?_
  refine AllReadyIn.cons rfl (fun K hK => ?_) (AllReadyIn.cons rfl (fun K hK => ?_) AllReadyIn.nil)
  ·go_simp
   refine hK _ _ ?_
   clear hK K
   refine wpAnyIn_ready (rs := [3]) (by kernel_rfl) (by simp) ?_
   refine AllReadyIn.cons rfl (fun K hK => ?_) AllReadyIn.nil
   go_simp
   refine ⟨trivial,?_⟩; refine (callsIn_wide.2 hwith).mono ?_; rintro e w1 ⟨r,rfl,hpk,hb⟩; obtain ⟨g',cap',w2,hrun,hc2,hf2,hfin⟩ := HM.out w1 r hpk hb; have hc1 : w1.cell? ⟨w.heap.size,0,none⟩ = some (.slice a3 np cap3) := (hb.cell (p := ⟨w.heap.size,0,none⟩) hcl).trans hc
   have hc1b : (w1.alloc (.cells #[.pointer (some ⟨r,0,none⟩)] 209)).cell? ⟨w.heap.size,0,none⟩ = some (.slice a3 np cap3) := ((below1 w1 _).cell (p := ⟨w.heap.size,0,none⟩) (by have := hb.size; exact Nat.lt_of_lt_of_le hcl this)).trans hc1
   dsimp only
   refine hK _ _ ?_
   clear hK K
   refine wpAnyIn_ready (rs := [4]) (by kernel_rfl) (by simp) ?_
   refine AllReadyIn.cons rfl (fun K hK => ?_) AllReadyIn.nil
   go_simp
   refine hK _ _ ?_
   clear hK K
   refine wpAnyIn_ready (rs := [5]) (by kernel_rfl) (by simp) ?_
   refine AllReadyIn.cons rfl (fun K hK => ?_) AllReadyIn.nil
   refine step_append_in rfl (.tmp 10) (.tmp 14) 206 rfl _ _ _ w2 rfl rfl hrun ?_
   refine hK _ _ ?_
   clear hK K
   refine wpAnyIn_ready (rs := [6]) (by kernel_rfl) (by simp) ?_
   refine AllReadyIn.cons rfl (fun K hK => ?_) AllReadyIn.nil
   go_simp
   refine hK _ _ ?_
   clear hK K
   refine wpAnyIn_done (by kernel_rfl) ?_ _
   exact ⟨((KeepsOthers.drew W).trans hfin.out.1).from _,⟨below_of_drew hfin.out.2.1,fun u hu => hfin.out.2.2.2 _ u (by omega) hu⟩,⟨⟨_,hfin.out.2.2.1⟩,hfin.out.2.2.2 _ _ (by omega) HBX.out⟩,HB.out.trans (below_of_drew hfin.out.2.1)⟩
  ·go_simp
   refine ⟨trivial,?_⟩; refine (callsIn_wide.2 hwith).mono ?_; rintro e w1 ⟨r,rfl,hpk,hb⟩; obtain ⟨g',cap',w2,hrun,hc2,hf2,hfin⟩ := HM.out w1 r hpk hb; have hc1 : w1.cell? ⟨w.heap.size,0,none⟩ = some (.slice a3 np cap3) := (hb.cell (p := ⟨w.heap.size,0,none⟩) hcl).trans hc
   have hc1b : (w1.alloc (.cells #[.pointer (some ⟨r,0,none⟩)] 209)).cell? ⟨w.heap.size,0,none⟩ = some (.slice a3 np cap3) := ((below1 w1 _).cell (p := ⟨w.heap.size,0,none⟩) (by have := hb.size; exact Nat.lt_of_lt_of_le hcl this)).trans hc1
   dsimp only
   refine hK _ _ ?_
   clear hK K
   refine wpAnyIn_ready (rs := [0,4]) (by kernel_rfl) (by simp) ?_
   refine AllReadyIn.cons rfl (fun K hK => ?_) (AllReadyIn.cons rfl (fun K hK => ?_) AllReadyIn.nil)
   ·go_simp
    refine hK _ _ ?_
    clear hK K
    refine wpAnyIn_ready (rs := [4]) (by kernel_rfl) (by simp) ?_
    refine AllReadyIn.cons rfl (fun K hK => ?_) AllReadyIn.nil
    go_simp
    refine hK _ _ ?_
    clear hK K
    refine wpAnyIn_ready (rs := [5]) (by kernel_rfl) (by simp) ?_
    refine AllReadyIn.cons rfl (fun K hK => ?_) AllReadyIn.nil
    refine step_append_in rfl (.tmp 10) (.tmp 14) 206 rfl _ _ _ w2 rfl rfl hrun ?_
    refine hK _ _ ?_
    clear hK K
    refine wpAnyIn_ready (rs := [6]) (by kernel_rfl) (by simp) ?_
    refine AllReadyIn.cons rfl (fun K hK => ?_) AllReadyIn.nil
    go_simp
    refine hK _ _ ?_
    clear hK K
    refine wpAnyIn_done (by kernel_rfl) ?_ _
    exact ⟨((KeepsOthers.drew W).trans hfin.out.1).from _,⟨below_of_drew hfin.out.2.1,fun u hu => hfin.out.2.2.2 _ u (by omega) hu⟩,⟨⟨_,hfin.out.2.2.1⟩,hfin.out.2.2.2 _ _ (by omega) HBX.out⟩,HB.out.trans (below_of_drew hfin.out.2.1)⟩
   ·go_simp
    refine hK _ _ ?_
    clear hK K
    refine wpAnyIn_ready (rs := [0]) (by kernel_rfl) (by simp) ?_
    refine AllReadyIn.cons rfl (fun K hK => ?_) AllReadyIn.nil
    go_simp
    refine hK _ _ ?_
    clear hK K
    refine wpAnyIn_ready (rs := [5]) (by kernel_rfl) (by simp) ?_
    refine AllReadyIn.cons rfl (fun K hK => ?_) AllReadyIn.nil
    refine step_append_in rfl (.tmp 10) (.tmp 14) 206 rfl _ _ _ w2 rfl rfl hrun ?_
    refine hK _ _ ?_
    clear hK K
    refine wpAnyIn_ready (rs := [6]) (by kernel_rfl) (by simp) ?_
    refine AllReadyIn.cons rfl (fun K hK => ?_) AllReadyIn.nil
    go_simp
    refine hK _ _ ?_
    clear hK K
    refine wpAnyIn_done (by kernel_rfl) ?_ _
    exact ⟨((KeepsOthers.drew W).trans hfin.out.1).from _,⟨below_of_drew hfin.out.2.1,fun u hu => hfin.out.2.2.2 _ u (by omega) hu⟩,⟨⟨_,hfin.out.2.2.1⟩,hfin.out.2.2.2 _ _ (by omega) HBX.out⟩,HB.out.trans (below_of_drew hfin.out.2.1)⟩
 case done =>
  rintro D ys W hD hT ⟨⟨⟨v,hv⟩,hbx⟩,hB⟩ hK
  have hc : W.cell? ⟨w.heap.size,0,none⟩ = some v := by obtain ⟨_,h,_⟩ := hv; exact h.cell
  obtain ⟨a3,cap3,rfl⟩ : ∃ a cap,v = .slice a ys.length cap := by obtain ⟨_,_,h,_⟩ := hv; exact own_slice h
  have hDW := (Array.getElem?_eq_some_iff.1 hK).1
  have hgr := grownBy_putObj' W D (.deferred none)
  have hrr : ∀ r,some D = some r -> ∃ o : Obj,W.heap[r]? = some o /\ o.isCells = false := fun r e => by cases e; exact ⟨_,hK,rfl⟩
  have hfin : Pl (W.putObj D (.deferred none)) (.slice a3 ys.length cap3) (Lm.prs .node ts) := by
   obtain ⟨rs,g1,g2,g3,g4⟩ := hv
   exact Prd.done (C := w.heap.size) ⟨rs,has_kept hgr hrr g1,own_kept hgr hrr g2,g3,fun i r x e1 e2 => (g4 i r x e1 e2).keep fun _ _ h => has_kept hgr hrr h⟩ hT (by rw [<- HL.out]; omega)
  have HFIN := LH hfin
  obtain ⟨ny,hny⟩ : ∃ ny,ny = ys.length := ⟨_,rfl⟩
  rw [<- hny] at hc HFIN
  clear hfin hv hny
  gi_wp2
  refine ⟨by simp,.inl ⟨_,_,rfl,run_takeDeferred hK,?_⟩⟩
  refine ⟨_,results_tmp rfl _ _ _,.slice a3 ny cap3,rfl,HFIN.out,?_⟩
  exact hB.trans ((Below.refl w.heap.size W).grown hgr (by omega) (fun k e => by cases e; omega))
 case stop =>
  rintro D c pre W _ _ h _
  exact h.elim
theorem paired_any (sv : Value) (ts : List Lm.Tr) (w : World) (hP : Pl w sv ts) (hpos : 0 < ts.length) (hwt : ∀ (i : Nat) (t : Lm.Tr),ts[i]? = some t -> t.wt <= 281474976710656) :
  Calls Tryz.prog 191 #[sv] w fun e W' => ∃ v,e = .returned v /\ Pl W' v (Lm.prs .node ts) /\ Below w.heap.size w W' :=
 callsIn_wide.1 (paired_in 3 (Nat.le_refl _) sv ts w hP hpos hwt)
end
section
open Go.RowKit
theorem choose_list {α : Type} : ∀ (ts : List α) (R : Nat -> α -> Nat -> Prop),(∀ i t,ts[i]? = some t -> ∃ p,R i t p) -> ∃ qs : List Nat,qs.length = ts.length /\ ∀ (i : Nat) (t : α) (q : Nat),ts[i]? = some t -> qs[i]? = some q -> R i t q
 | [],R,_ => ⟨[],rfl,fun i t q h => by simp at h⟩
 | t :: ts,R,h => by
  obtain ⟨p,hp⟩ := h 0 t rfl
  obtain ⟨qs,h1,h2⟩ := choose_list ts (fun i => R (i + 1)) fun i u hu => h (i + 1) u (by rw [List.getElem?_cons_succ]; exact hu)
  refine ⟨p :: qs,by simp [h1],fun i u q hu hq => ?_⟩
  cases i with
  | zero => simp at hu hq; subst hu hq; exact hp
  | succ i => rw [List.getElem?_cons_succ] at hu hq; exact h2 i u q hu hq
def Ow (w wr : World) (v : Value) (zs : List Lm.Tr) : Prop :=
 ∃ bs : List Nat,bs.length = zs.length /\ wr.ownsRow w.heap.size 209 1 v zs.length (vp bs) /\ (∀ (i b : Nat) (t : Lm.Tr),bs[i]? = some b -> zs[i]? = some t -> Pk wr t b) /\ Below w.heap.size w wr
theorem Ow.pl {w wr : World} {v : Value} {zs : List Lm.Tr} (h : Ow w wr v zs) (hl : zs.length <= 1024) : Pl wr v zs := by
 obtain ⟨bs,h1,h2,h3,_⟩ := h
 rcases h2.2 with ⟨rfl,h0⟩ | ⟨g,cap,cur,rfl,_,hg,hle,_⟩
 ·rw [List.eq_nil_of_length_eq_zero h0]; exact Pl.nil _
 ·refine ⟨_,_,_,rfl,rfl,hle,by omega,fun h => by simp at h,fun _ => ⟨g,0,rfl,lt_of_block hg,fun i t hi => ?_⟩⟩
  have hil := (List.getElem?_eq_some_iff.1 hi).1
  have er : bs[i]? = some (bs[i]'(by omega)) := List.getElem?_eq_getElem _
  refine ⟨bs[i]'(by omega),?_,h3 i _ t er hi⟩
  rw [Nat.zero_add,h2.cellAt i (by omega)]
  simp [vp,er]
theorem snoc_get {α : Type} {xs : List α} {y z : α} {i : Nat} (h : (xs ++ [y])[i]? = some z) : (i < xs.length /\ xs[i]? = some z) ∨ (i = xs.length /\ z = y) := by
 by_cases hlt : i < xs.length
 ·rw [List.getElem?_append_left hlt] at h; exact .inl ⟨hlt,h⟩
 ·have e : i = xs.length := by
   have := (List.getElem?_eq_some_iff.1 h).1
   rw [List.length_append,List.length_singleton] at this; omega
  subst e
  rw [List.getElem?_append_right (Nat.le_refl _),Nat.sub_self] at h
  simp at h
  exact .inr ⟨rfl,h.symm⟩
theorem Ow.more {w wr : World} {g cap n : Nat} {zs : List Lm.Tr} (h : Ow w wr (.slice (some ⟨g,0,none⟩) n cap) zs) (hn : n = zs.length) (t : Lm.Tr) (p : Nat) (hp : Pk wr t p) (hl : zs.length <= 5000) :
  ∃ g' cap' w2,(Builtin.append_ #[206,206] 206 #[.slice (some ⟨g,0,none⟩) n cap,.slice (some ⟨wr.heap.size,0,none⟩) 1 1]).run Tryz.prog
   ((wr.alloc (.cells #[.pointer (some ⟨p,0,none⟩)] 209)).drew) = .ok (.slice (some ⟨g',0,none⟩) (n + 1) cap') w2 /\ Hid (Ow w w2 (.slice (some ⟨g',0,none⟩) (n + 1) cap') (zs ++ [t])) := by
 obtain ⟨bs,h1,h2,h3,hb⟩ := h
 subst hn
 have hsz := hb.size
 have k2 := (h2.alloc (.cells #[.pointer (some ⟨p,0,none⟩)] 209)).drew
 have hc := (Has.new wr (.cells #[.pointer (some ⟨p,0,none⟩)] 209)).one.1
 obtain ⟨v',w2,hrun,ho,hg⟩ := run_app1 206 209 (.pointer none) Tryz.underlying206 Tryz.infoPack rfl 206 k2 wr.heap.size _ rfl hc (by omega) (by simp; omega)
 obtain ⟨g',cap',rfl⟩ := ownsRow_succ ho
 refine ⟨g',cap',w2,hrun,bs ++ [p],by rw [List.length_append,List.length_append,h1]; rfl,by rw [vp_snoc,List.length_append]; exact ho,fun i b u hi hu => ?_,?_⟩
 ·have step : ∀ {u : Lm.Tr} {b : Nat},Pk wr u b -> Pk w2 u b := fun hh => Pk.grown k2 hg (hh.later ((below1 wr _).drew))
  rcases snoc_get hi with ⟨hlt,hi⟩ | ⟨rfl,rfl⟩
  ·rw [List.getElem?_append_left (by omega)] at hu
   exact step (h3 i b u hi hu)
  ·rw [h1,List.getElem?_append_right (Nat.le_refl _),Nat.sub_self] at hu
   simp at hu
   subst hu
   exact step hp
 ·exact (hb.trans (((below1 wr _).mono hsz).drew)).grown hg (by simp; omega) (fun q e => (World.ownsRow.lt h2 q e).1)
theorem Ow.all {w wr : World} {g cap n : Nat} {zs : List Lm.Tr} (h : Ow w wr (.slice (some ⟨g,0,none⟩) n cap) zs) (hn : n = zs.length) {a : Option Addr} {m c : Nat} {xs : List Lm.Tr} (hx : Pl w (.slice a m c) xs) (hl : zs.length + xs.length <= 5000) :
  ∃ g' cap' w2,(Builtin.append_ #[206,206] 206 #[.slice (some ⟨g,0,none⟩) n cap,.slice a m c]).run Tryz.prog wr = .ok (.slice (some ⟨g',0,none⟩) (n + m) cap') w2 /\
   Hid (Ow w w2 (.slice (some ⟨g',0,none⟩) (n + m) cap') (zs ++ xs)) := by
 obtain ⟨bs,h1,h2,h3,hb⟩ := h
 subst hn
 have hx' := hx.later hb
 obtain ⟨a',m',c',e,e1,e2,e3,e4,e5⟩ := hx'
 cases e
 subst e1
 have hsz := hb.size
 obtain ⟨i0,hi,hz0,hz1,hz2⟩ := info_parts Tryz.infoPack
 obtain ⟨qs,q1,q2⟩ : ∃ qs : List Nat,qs.length = xs.length /\ (0 < xs.length -> ∃ ad,a = some ad /\ ∀ (j : Nat) (t : Lm.Tr) (q : Nat),xs[j]? = some t -> qs[j]? = some q -> wr.cell? (ad.add j) = some (.pointer (some ⟨q,0,none⟩)) /\ Pk wr t q) := by
  rcases Nat.eq_zero_or_pos xs.length with h0 | h0
  ·exact ⟨[],by simp [h0],fun h => by omega⟩
  ·obtain ⟨b,off,rfl,hlt,hc⟩ := e5 h0
   obtain ⟨qs,q1,q2⟩ := choose_list xs _ hc
   refine ⟨qs,q1,fun _ => ⟨_,rfl,fun j t q ht hq => ?_⟩⟩
   have e : (⟨b,off,none⟩ : Addr).add j = ⟨b,off + j,none⟩ := by cases j <;> simp [Addr.add]
   rw [e]; exact q2 j t q ht hq
 obtain ⟨g',cap',w2,hrun,ho,hg⟩ := run_append_mine (P := Tryz.prog) (w := wr) w.heap.size 206 206 209 i0 (.pointer none) 1 8 Tryz.underlying206 hi hz0 hz1 hz2 rfl (by decide)
  g cap zs.length (vp bs) h2 a xs.length c (vp qs) (by rw [vp_length]; omega) e4
  (fun h0 => by
   obtain ⟨ad,rfl,hh⟩ := q2 h0
   refine ⟨ad,rfl,fun j u hj => ?_⟩
   have hjl := (List.getElem?_eq_some_iff.1 hj).1
   rw [vp_length] at hjl
   have eq : qs[j]? = some (qs[j]'hjl) := List.getElem?_eq_getElem _
   have ex : xs[j]? = some (xs[j]'(by omega)) := List.getElem?_eq_getElem _
   simp only [vp,List.getElem?_map,eq,Option.map_some,Option.some.injEq] at hj
   subst hj
   exact (hh j _ _ ex eq).1)
  (fun u hu => by simp only [vp,List.mem_map] at hu; obtain ⟨x,_,rfl⟩ := hu; rfl) (by unfold maxLen; omega) (by omega) (by omega)
 refine ⟨g',cap',w2,hrun,bs ++ qs,by simp [h1,q1],by rw [List.length_append,show vp (bs ++ qs) = vp bs ++ vp qs by simp [vp]]; exact ho,fun i b u hi' hu => ?_,?_⟩
 ·have step : ∀ {u : Lm.Tr} {b : Nat},Pk wr u b -> Pk w2 u b := fun hh => Pk.grown h2 hg hh
  by_cases hlt : i < bs.length
  ·rw [List.getElem?_append_left hlt] at hi'
   rw [List.getElem?_append_left (by omega)] at hu
   exact step (h3 i b u hi' hu)
  ·rw [List.getElem?_append_right (by omega)] at hi'
   rw [List.getElem?_append_right (by omega)] at hu
   have hil := (List.getElem?_eq_some_iff.1 hu).1
   obtain ⟨ad,_,hh⟩ := q2 (by omega)
   rw [<- h1] at hu
   exact step (hh _ _ _ hu hi').2
 ·exact hb.grown hg hsz (fun q e => (World.ownsRow.lt h2 q (by exact e)).1)
theorem Ow.drewN {w wr : World} {v : Value} {zs : List Lm.Tr} (h : Ow w wr v zs) (k : Nat) : Ow w (wr.drewN k) v zs := by
 obtain ⟨bs,h1,h2,h3,h4⟩ := h
 exact ⟨bs,h1,h2,fun i b t e1 e2 => (h3 i b t e1 e2).later (below_drewN (Below.refl _ _) k),below_drewN h4 k⟩
theorem merged_any (s1 s2 : Value) (xs ys : List Lm.Tr) (w : World) (h1 : Pl w s1 xs) (h2 : Pl w s2 ys) :
  Calls Tryz.prog 190 #[s1,s2] w fun e w' => ∃ v,e = .returned v /\ Ow w w' v (Lm.mrg Lm.Tr.wt xs ys) /\ Below w.heap.size w w' := by
 obtain ⟨a1,c1,rfl,_,l1⟩ := h1.shape
 obtain ⟨a2,c2,rfl,_,l2⟩ := h2.shape
 obtain ⟨zz,hzz⟩ : ∃ zz,zz = Lm.mrg Lm.Tr.wt xs ys := ⟨_,rfl⟩
 have hzl : zz.length = xs.length + ys.length := by rw [hzz,Lm.mrg_length]
 rw [<- hzz]
 obtain ⟨n1,hn1⟩ : ∃ n1,n1 = xs.length := ⟨_,rfl⟩
 obtain ⟨n2,hn2⟩ : ∃ n2,n2 = ys.length := ⟨_,rfl⟩
 rw [<- hn1] at h1 l1 hzl ⊢
 rw [<- hn2] at h2 l2 hzl ⊢
 have H1 := LH h1
 have H2 := LH h2
 have N1 := LH hn1
 have N2 := LH hn2
 have HZ := LH hzz
 have HZL := LH hzl
 clear h1 h2 hn1 hn2 hzz hzl
 obtain ⟨i0,hi,hz0,hz1,hz2⟩ := info_parts Tryz.infoPack
 go_enter Tryz.func190,Tryz.ntmps190
 go_wp2_with (at_make; refine wpList_make_own _ rfl _ _ 206 rfl w.heap.size 209 i0 (.pointer none) 1 Tryz.underlying206 hi hz0 hz1 .i64 .i64 _ (n1 + n2) rfl rfl (by go_num) (by rw [hz2]; omega) (by unfold maxLen; omega) (Nat.le_refl _) ?_; intro w1 hown hgr)
 have hO : Ow w w1 (.slice (some ⟨w.heap.size,0,none⟩) 0 (n1 + n2)) [] := ⟨[],rfl,hown,fun i b t h => by simp at h,(Below.refl _ w).grown hgr (Nat.le_refl _) (fun q e => by cases e)⟩
 have HO := LH hO
 clear hO hown hgr hi hz0 hz1 hz2
 go_loopw [0,1,5] (fun s0 s1 s5 wr => ∃ (u1 u2 : Option Addr) (m1 d1 m2 d2 g n cap : Nat) (xs' ys' zs : List Lm.Tr),s0 = .slice u1 m1 d1 /\ s1 = .slice u2 m2 d2 /\ s5 = .slice (some ⟨g,0,none⟩) n cap /\ m1 <= 1024 /\ m2 <= 1024 /\ Hid (m1 = xs'.length) /\ Hid (m2 = ys'.length) /\ Hid (n = zs.length) /\
   Hid (Pl w (.slice u1 m1 d1) xs') /\ Hid (Pl w (.slice u2 m2 d2) ys') /\ Hid (Ow w wr (.slice (some ⟨g,0,none⟩) n cap) zs) /\ Hid (Unit -> zs ++ Lm.mrg Lm.Tr.wt xs' ys' = zz))
  (fun s t _ _ => (match s with | .slice _ m _ => m | _ => 0) + (match t with | .slice _ m _ => m | _ => 0))
 case atStart => exact ⟨_,_,_,_,_,_,_,_,_,xs,ys,[],rfl,rfl,rfl,l1,l2,N1,N2,rfl,H1,H2,HO,fun _ => HZ.out.symm⟩
 case round =>
  clear N1 N2 H1 H2 HO
  obtain ⟨u1,u2,m1,d1,m2,d2,g,n,cap,xs',ys',zs,rfl,rfl,rfl,b1,b2,N1,N2,N3,H1,H2,HO,HE⟩ := hrel
  have hB : Below w.heap.size w wr := by obtain ⟨_,_,_,_,h⟩ := HO.out; exact h
  have hzn : zs.length <= 2048 := by
   have h1 := congrArg List.length (HE.out ())
   rw [List.length_append,HZL.out] at h1; omega
  by_cases h1 : 0 < m1
  ·by_cases h2 : 0 < m2
   ·obtain ⟨x,xs2,rfl⟩ : ∃ x xs2,xs' = x :: xs2 := by
     cases xs' with
     | nil => have := N1.out; simp at this; omega
     | cons x xs2 => exact ⟨x,xs2,rfl⟩
    obtain ⟨y,ys2,rfl⟩ : ∃ y ys2,ys' = y :: ys2 := by
     cases ys' with
     | nil => have := N2.out; simp at this; omega
     | cons y ys2 => exact ⟨y,ys2,rfl⟩
    obtain ⟨e1,o1,p,rfl,lt1,cx,kx,hd1,hx0,hx1⟩ := H1.out.head
    obtain ⟨e2,o2,q,rfl,lt2,cy,ky,hd2,hy0,hy1⟩ := H2.out.head
    have M1 : Hid (m1 - 1 = xs2.length) := by have := N1.out; simp at this; show _ = _; omega
    have M2 : Hid (m2 - 1 = ys2.length) := by have := N2.out; simp at this; show _ = _; omega
    rw [<- M1.out] at hx0 hx1
    rw [<- M2.out] at hy0 hy1
    have X1 := LH hx1
    have Y1 := LH hy1
    have X0 := LH hx0
    have Y0 := LH hy0
    have gx := (hB.cell (p := ⟨e1,o1,none⟩) lt1).trans cx
    have gy := (hB.cell (p := ⟨e2,o2,none⟩) lt2).trans cy
    have px := kx.later hB
    have py := ky.later hB
    have wx := px.wt
    have wy := py.wt
    obtain ⟨vx,hvx⟩ : ∃ vx,vx = x.wt := ⟨_,rfl⟩
    obtain ⟨vy,hvy⟩ : ∃ vy,vy = y.wt := ⟨_,rfl⟩
    rw [<- hvx] at wx
    rw [<- hvy] at wy
    have PX := LH px
    have PY := LH py
    have EX := LH hvx
    have EY := LH hvy
    clear cx cy kx ky px py hvx hvy hx0 hy0 hx1 hy1
    by_cases hlt : vy < vx
    ·have HE2 : Hid (Unit -> (zs ++ [y]) ++ Lm.mrg Lm.Tr.wt (x :: xs2) ys2 = zz) := fun _ => by
      rw [<- HE.out (),Lm.mrg_cons,if_pos (by rw [<- EX.out,<- EY.out]; exact hlt),List.append_assoc]; rfl
     clear HE
     go_wp2_with fail
     go_quiet (fail)
     obtain ⟨g',cap',w2,hrun,hO⟩ := (HO.out.drewN nq).more N3.out y q (PY.out.later (below_drewN (Below.refl _ _) nq)) (by omega)
     have hB2 : Below w.heap.size w w2 := by obtain ⟨_,_,_,_,h⟩ := hO.out; exact h
     have d2' : w2.cell? ⟨e2,o2,none⟩ = some (.pointer (some ⟨q,0,none⟩)) := (hB2.cell (p := ⟨e2,o2,none⟩) lt2).trans ((hB.cell (p := ⟨e2,o2,none⟩) lt2).symm.trans gy)
     have HRUN := LH hrun
     have NN : Hid (n + 1 = (zs ++ [y]).length) := by show _ = _; rw [List.length_append,<- N3.out]; rfl
     clear hrun hB hB2 HO PX PY EX EY N3 H2 N2 X0 X1 gx wx wy
     have g1 : (1 : Int) <= (m2 : Int) := by omega
     have g2 : (m2 : Int) <= (d2 : Int) := by omega
     by_cases g3 : d2 = 1
     ·have G3 := LH g3
      go_wp2_with fail
      go_region_held3 (fun wx => wx.cell? ⟨e2,o2,none⟩ = some (.pointer (some ⟨q,0,none⟩))) (go_keep) (first | (refine step_append_known rfl (.tmp 33) (.tmp 37) 206 rfl _ _ _ w2 (by simp [Act.eval]) (by simp [Act.eval]) HRUN.out ?_))
      go_wp2_with fail
      go_roundw
      case rel => exact ⟨_,_,_,_,_,_,_,_,_,x :: xs2,ys2,zs ++ [y],rfl,rfl,rfl,b1,by omega,N1,M2,NN,H1,(by have h := Y0.out G3.out; rw [G3.out] at h; exact h),hO,HE2⟩
      case measure => simp; omega
     ·have g4 : ¬ d2 - 1 = 0 := by omega
      go_wp2_with fail
      go_region_held3 (fun wx => wx.cell? ⟨e2,o2,none⟩ = some (.pointer (some ⟨q,0,none⟩))) (go_keep) (first | (refine step_append_known rfl (.tmp 33) (.tmp 37) 206 rfl _ _ _ w2 (by simp [Act.eval]) (by simp [Act.eval]) HRUN.out ?_))
      go_wp2_with fail
      go_roundw
      case rel => exact ⟨_,_,_,_,_,_,_,_,_,x :: xs2,ys2,zs ++ [y],rfl,rfl,rfl,b1,by omega,N1,M2,NN,H1,Y1,hO,HE2⟩
      case measure => simp; omega
    ·have HE2 : Hid (Unit -> (zs ++ [x]) ++ Lm.mrg Lm.Tr.wt xs2 (y :: ys2) = zz) := fun _ => by
      rw [<- HE.out (),Lm.mrg_cons,if_neg (by rw [<- EX.out,<- EY.out]; exact hlt),List.append_assoc]; rfl
     clear HE
     go_wp2_with fail
     go_quiet (fail)
     obtain ⟨g',cap',w2,hrun,hO⟩ := (HO.out.drewN nq).more N3.out x p (PX.out.later (below_drewN (Below.refl _ _) nq)) (by omega)
     have hB2 : Below w.heap.size w w2 := by obtain ⟨_,_,_,_,h⟩ := hO.out; exact h
     have d2' : w2.cell? ⟨e1,o1,none⟩ = some (.pointer (some ⟨p,0,none⟩)) := (hB2.cell (p := ⟨e1,o1,none⟩) lt1).trans ((hB.cell (p := ⟨e1,o1,none⟩) lt1).symm.trans gx)
     have HRUN := LH hrun
     have NN : Hid (n + 1 = (zs ++ [x]).length) := by show _ = _; rw [List.length_append,<- N3.out]; rfl
     clear hrun hB hB2 HO PX PY EX EY N3 H1 N1 Y0 Y1 gy wx wy
     have g1 : (1 : Int) <= (m1 : Int) := by omega
     have g2 : (m1 : Int) <= (d1 : Int) := by omega
     by_cases g3 : d1 = 1
     ·have G3 := LH g3
      go_wp2_with fail
      go_region_held3 (fun wx => wx.cell? ⟨e1,o1,none⟩ = some (.pointer (some ⟨p,0,none⟩))) (go_keep) (first | (refine step_append_known rfl (.tmp 41) (.tmp 45) 206 rfl _ _ _ w2 (by simp [Act.eval]) (by simp [Act.eval]) HRUN.out ?_))
      go_wp2_with fail
      go_roundw
      case rel => exact ⟨_,_,_,_,_,_,_,_,_,xs2,y :: ys2,zs ++ [x],rfl,rfl,rfl,by omega,b2,M1,N2,NN,(by have h := X0.out G3.out; rw [G3.out] at h; exact h),H2,hO,HE2⟩
      case measure => simp; omega
     ·have g4 : ¬ d1 - 1 = 0 := by omega
      go_wp2_with fail
      go_region_held3 (fun wx => wx.cell? ⟨e1,o1,none⟩ = some (.pointer (some ⟨p,0,none⟩))) (go_keep) (first | (refine step_append_known rfl (.tmp 41) (.tmp 45) 206 rfl _ _ _ w2 (by simp [Act.eval]) (by simp [Act.eval]) HRUN.out ?_))
      go_wp2_with fail
      go_roundw
      case rel => exact ⟨_,_,_,_,_,_,_,_,_,xs2,y :: ys2,zs ++ [x],rfl,rfl,rfl,by omega,b2,M1,N2,NN,X1,H2,hO,HE2⟩
      case measure => simp; omega
   ·have h20 : m2 = 0 := by omega
    obtain ⟨g',cap',w2,hrun,hO⟩ := HO.out.all N3.out H1.out (by have := N1.out; omega)
    have N4 : Hid (n + m1 = (zs ++ xs').length) := by show _ = _; rw [List.length_append,<- N3.out,<- N1.out]
    obtain ⟨g3,cap3,w3,hrun3,hO3⟩ := hO.out.all N4.out H2.out (by have := N1.out; have := N2.out; rw [List.length_append]; omega)
    have HF : Hid ((zs ++ xs') ++ ys' = zz) := by
     show _ = _
     rw [<- HE.out (),List.append_assoc]
     congr 1
     rw [show ys' = [] from List.eq_nil_of_length_eq_zero (by have := N2.out; omega),Lm.mrg_nil_right,List.append_nil]
    have R1 := LH hrun
    have R3 := LH hrun3
    clear hrun hrun3 hB h20 N1 N2 N3 H1 H2 HO HE hO N4
    go_wp2_with (at_builtin; first | (refine wpList_append_known rfl (.tmp 49) (.tmp 50) 206 rfl _ _ _ w2 rfl rfl R1.out ?_) | (refine wpList_append_known rfl (.tmp 51) (.tmp 52) 206 rfl _ _ _ w3 rfl rfl R3.out ?_))
    go_ret
    refine ⟨_,rfl,?_,?_⟩
    ·have h := hO3.out
     rw [HF.out] at h
     exact h
    ·obtain ⟨_,_,_,_,h⟩ := hO3.out; exact h
  ·have h10 : m1 = 0 := by omega
   obtain ⟨g',cap',w2,hrun,hO⟩ := HO.out.all N3.out H1.out (by have := N1.out; omega)
   have N4 : Hid (n + m1 = (zs ++ xs').length) := by show _ = _; rw [List.length_append,<- N3.out,<- N1.out]
   obtain ⟨g3,cap3,w3,hrun3,hO3⟩ := hO.out.all N4.out H2.out (by have := N1.out; have := N2.out; rw [List.length_append]; omega)
   have HF : Hid ((zs ++ xs') ++ ys' = zz) := by
    show _ = _
    rw [<- HE.out (),List.append_assoc]
    congr 1
    rw [show xs' = [] from List.eq_nil_of_length_eq_zero (by have := N1.out; omega),Lm.mrg_nil_left,List.nil_append]
   have R1 := LH hrun
   have R3 := LH hrun3
   clear hrun hrun3 hB h10 N1 N2 N3 H1 H2 HO HE hO N4
   go_wp2_with (at_builtin; first | (refine wpList_append_known rfl (.tmp 49) (.tmp 50) 206 rfl _ _ _ w2 rfl rfl R1.out ?_) | (refine wpList_append_known rfl (.tmp 51) (.tmp 52) 206 rfl _ _ _ w3 rfl rfl R3.out ?_))
   go_ret
   refine ⟨_,rfl,?_,?_⟩
   ·have h := hO3.out
    rw [HF.out] at h
    exact h
   ·obtain ⟨_,_,_,_,h⟩ := hO3.out; exact h
end
section
open Go.RowKit
namespace Lm
theorem prs_bound (ts : List Tr) (B : Nat) (h : ∀ t ∈ ts,t.wt <= B) : ∀ t ∈ prs Tr.node ts,t.wt <= 2 * B := by
 intro t ht
 obtain ⟨q,hq⟩ := List.getElem?_of_mem ht
 obtain ⟨x,y,h1,h2,rfl⟩ := prs_get _ _ _ _ hq
 have g1 := h x (List.mem_of_getElem? h1)
 have g2 := h y (List.mem_of_getElem? h2)
 simp only [Tr.wt]; omega
theorem lvl_bound (ts : List Tr) (B : Nat) (h : ∀ t ∈ ts,t.wt <= B) (j : Nat) : ∀ t ∈ lvl Tr.wt .node ts j,t.wt <= 2 ^ j * B := by
 induction j with
 | zero => intro t ht; rw [Nat.pow_zero,Nat.one_mul]; exact h t ht
 | succ j ih =>
  intro t ht
  rcases List.mem_append.1 ((mrg_perm Tr.wt _ _).mem_iff.1 ht) with ht | ht
  ·have h1 := h t ht
   have : B <= 2 ^ (j + 1) * B := Nat.le_mul_of_pos_left _ (Nat.two_pow_pos _)
   omega
  ·have := prs_bound _ _ ih t ht
   rw [Nat.pow_succ,Nat.mul_comm (2 ^ j) 2,Nat.mul_assoc]; exact this
end Lm
theorem lightest_any (sv : Value) (ts : List Lm.Tr) (M : Nat) (w : World) (hP : Pl w sv ts) (h288 : ts.length <= 288) (hM : 1 <= M) (hM2 : M <= 15) (hf : ts.length <= 2 ^ M) (hwt : ∀ t ∈ ts,t.wt <= 4294967295) :
  Calls Tryz.prog 154 #[sv,.int .i64 (M : Int)] w fun e w' => ∃ v,e = .returned v /\ Pl w' v (Lm.lgt ts M) /\ Below w.heap.size w w' := by
 have HP := LH hP
 obtain ⟨a,cap,rfl,hcap,_⟩ := hP.shape
 obtain ⟨n,hn⟩ : ∃ n,n = ts.length := ⟨_,rfl⟩
 rw [<- hn] at hcap h288 HP ⊢
 by_cases h2 : n < 2
 ·have HG : Hid (Lm.lgt ts M = ts) := by show _ = _; unfold Lm.lgt; rw [if_pos (by omega)]
  clear hP hn hf hwt
  go_enter Tryz.func154,Tryz.ntmps154
  go_wp2
  go_ret
  exact ⟨_,rfl,by rw [HG.out]; exact HP.out,Below.refl _ _⟩
 ·have HG : Hid (Lm.lgt ts M = (Lm.lvl Lm.Tr.wt .node ts (M - 1)).take (2 * ts.length - 2)) := by show _ = _; unfold Lm.lgt; rw [if_neg (by omega)]
  have HE : Hid (2 * ts.length - 2 <= (Lm.lvl Lm.Tr.wt .node ts (M - 1)).length) := Lm.lvl_enough _ _ _ (by omega) _ (by rw [show M - 1 + 1 = M by omega]; exact hf)
  have HW : Hid (∀ j,j <= 14 -> ∀ t ∈ Lm.lvl Lm.Tr.wt .node ts j,t.wt <= 281474976710656) := by
   intro j hj t ht
   have h1 := Lm.lvl_bound ts _ hwt j t ht
   have h2 : 2 ^ j <= 2 ^ 14 := Nat.pow_le_pow_right (by omega) hj
   have h3 : 2 ^ j * 4294967295 <= 2 ^ 14 * 4294967295 := Nat.mul_le_mul_right _ h2
   omega
  have HLN : Hid (∀ j,0 < (Lm.lvl Lm.Tr.wt .node ts j).length /\ (Lm.lvl Lm.Tr.wt .node ts j).length <= 576) := by
   intro j
   have := Lm.lvl_le Lm.Tr.wt .node ts j
   refine ⟨?_,by omega⟩
   cases j with
   | zero => simp only [Lm.lvl]; omega
   | succ j => rw [Lm.lvl_length]; omega
  have HN := LH hn
  clear hP hn hf hwt
  go_enter Tryz.func154,Tryz.ntmps154
  go_wp2
  go_loopw [5,13] (fun s5 s13 wr => ∃ (k : Nat) (v : Value),k <= M - 1 /\ v = s5 /\ s13 = .int .i64 (k : Int) /\ Hid (Pl wr v (Lm.lvl Lm.Tr.wt .node ts k)) /\ Hid (Below w.heap.size w wr)) (fun _ s _ => M - (intOf s).toNat)
  case atStart => exact ⟨0,_,Nat.zero_le _,rfl,rfl,HP,Below.refl _ _⟩
  case round =>
   obtain ⟨k,v,hk,rfl,rfl,KP,KB⟩ := hrel
   by_cases hlt : k < M - 1
   ·have HC := paired_any v _ wr KP.out ((HLN.out k).1) (fun i t hi => HW.out k (by omega) t (List.mem_of_getElem? hi))
    obtain ⟨a3,cap3,e3,_⟩ := KP.out.shape
    obtain ⟨n3,hn3⟩ : ∃ n3,n3 = (Lm.lvl Lm.Tr.wt .node ts k).length := ⟨_,rfl⟩
    rw [<- hn3] at e3
    rw [e3] at HC ⊢
    clear hn3 e3 KP
    have hlt2 : (k : Int) < (M : Int) - 1 := by omega
    go_wp2_with fail
    refine HC.mono ?_
    clear HC
    rintro e w1 ⟨v1,rfl,hp1,hb1⟩
    have P1 := LH hp1
    have B1 := LH (KB.out.trans (hb1.mono KB.out.size))
    clear hp1 hb1 KB
    go_wp2_with fail
    refine (merged_any _ v1 ts _ w1 (HP.out.later B1.out) P1.out).mono ?_
    rintro e w2 ⟨v2,rfl,ho2,hb2⟩
    have P2 : Hid (Pl w2 v2 (Lm.lvl Lm.Tr.wt .node ts (k + 1))) := ho2.pl (by have := (HLN.out (k + 1)).2; simp only [Lm.lvl] at this; omega)
    have B2 := LH (B1.out.trans (hb2.mono B1.out.size))
    clear ho2 hb2 P1 B1
    go_wp2_with fail
    go_roundw
    case rel => exact ⟨k + 1,_,by omega,rfl,by go_num,P2,B2⟩
    case measure => simp [intOf]; omega
   ·obtain rfl : k = M - 1 := by omega
    obtain ⟨a3,cap3,rfl,hc3,h13⟩ := KP.out.shape
    have hle : 2 * n - 2 <= (Lm.lvl Lm.Tr.wt .node ts (M - 1)).length := by rw [HN.out]; exact HE.out
    obtain ⟨n3,hn3⟩ : ∃ n3,n3 = (Lm.lvl Lm.Tr.wt .node ts (M - 1)).length := ⟨_,rfl⟩
    rw [<- hn3] at hc3 h13 hle KP ⊢
    have KT : Hid (Pl wr (.slice a3 (2 * n - 2) cap3) (Lm.lgt ts M)) := by
     have h := KP.out.take (2 * n - 2) (by rw [<- hn3]; exact hle)
     rw [HN.out] at h ⊢
     rw [HG.out]; exact h
    clear hn3 KP
    have hlt2 : ¬ ((M - 1 : Nat) : Int) < (M : Int) - 1 := by omega
    obtain ⟨m,hm⟩ : ∃ m,m = 2 * n - 2 := ⟨_,rfl⟩
    rw [<- hm] at hle KT
    have g1 : (2 : Int) * (n : Int) - 2 = (m : Int) := by omega
    have g2 : (m : Int) <= (cap3 : Int) := by omega
    have g3 : (0 : Int) <= (m : Int) := by omega
    have HM := LH hm
    clear hm
    go_wp2
    go_ret
    exact ⟨_,rfl,KT.out,KB.out⟩
end
section
open Go.RowKit
def SymsIn (n : Nat) : Lm.Tr -> Prop
 | .leaf _ s => s < n
 | .node a b => SymsIn n a /\ SymsIn n b
def LenPost (w : World) (C n : Nat) (d : Nat -> Nat) (t : Lm.Tr) (e : Ending) (w' : World) : Prop := e = .returned (.tuple #[]) /\ Rz w' C n (fun i => d i + t.cnt i) /\ Only C w w'
theorem lengthen_any (C n cap : Nat) : ∀ (t : Lm.Tr) (b : Nat) (d : Nat -> Nat) (w : World),Pk w t b -> Rz w C n d -> SymsIn n t -> (∀ i,i < n -> d i + t.cnt i <= 1000000) ->
  Calls Tryz.prog 155 #[.pointer (some ⟨b,0,none⟩),.slice (some ⟨C,0,none⟩) n cap] w (LenPost w C n d t)
 | .leaf x s,b,d,w,hp,hr,hs,hd => by
  have hp' : Has w b (.cells #[.int .i64 (x : Int),.int .i64 (s : Int),.pointer none,.pointer none] 252 (0,0)) := hp
  have hs' : s < n := hs
  have c1 : w.cell? ⟨b,1,none⟩ = some (.int .i64 (s : Int)) := by rw [hp'.cell]; rfl
  have c2 : w.cell? ⟨b,2,none⟩ = some (.pointer none) := by rw [hp'.cell]; rfl
  have c3 := hr.cell s hs'
  have f3 := hr.free s
  have hb := hd s hs'
  obtain ⟨y,hy⟩ : ∃ y,y = d s := ⟨_,rfl⟩
  rw [<- hy] at c3 hb
  have hy2 : y <= 1000000 := by omega
  have HR : Hid (Rz (w.setCell ⟨C,s,none⟩ (.int .i64 ((y + 1 : Nat) : Int))) C n (fun i => d i + (Lm.Tr.leaf x s).cnt i)) := by
   refine (hr.set s (y + 1) hs').congr fun i hi => ?_
   simp only [Lm.Tr.cnt]
   by_cases e : i = s
   ·subst e; rw [if_pos rfl,if_pos rfl,hy]
   ·rw [if_neg e,if_neg (fun h => e h.symm),Nat.add_zero]
  clear hp hp' hr hs hd hb hy
  go_enter Tryz.func155,Tryz.ntmps155
  go_wp2
  go_end0
  exact ⟨rfl,HR.out,only_set _ _ _ _⟩
 | .node x y,b,d,w,hp,hr,hs,hd => by
  obtain ⟨p,q,hh,hx,hy⟩ := hp
  have c2 : w.cell? ⟨b,2,none⟩ = some (.pointer (some ⟨p,0,none⟩)) := by rw [hh.cell]; rfl
  have HC1 := lengthen_any C n cap x p d w hx hr hs.1 (fun i hi => by have := hd i hi; simp only [Lm.Tr.cnt] at this; omega)
  have HH := LH hh
  have HY := LH hy
  have HD := LH hd
  have HS := LH hs
  have HT := LH hr
  clear hh hx hy hr hs hd
  go_enter Tryz.func155,Tryz.ntmps155
  go_wp2_with fail
  refine HC1.mono ?_
  clear HC1
  rintro e w1 ⟨rfl,hr1,ho1⟩
  obtain ⟨cs,hcs,_⟩ := HT.out
  have hh1 := HH.out.only ho1 (HH.out.apart hcs (by decide))
  have c3 : w1.cell? ⟨b,3,none⟩ = some (.pointer (some ⟨q,0,none⟩)) := by rw [hh1.cell]; rfl
  have HC2 := lengthen_any C n cap y q _ w1 (Pk.only hcs (by decide) ho1 HY.out) hr1 HS.out.2 (fun i hi => by have := HD.out i hi; simp only [Lm.Tr.cnt] at this; omega)
  have O1 := LH ho1
  clear hcs hh1 ho1 hr1 c2
  go_wp2_with fail
  refine HC2.mono ?_
  clear HC2
  rintro e w2 ⟨rfl,hr2,ho2⟩
  have R2 : Hid (Rz w2 C n (fun i => d i + (Lm.Tr.node x y).cnt i)) := hr2.congr fun i hi => by simp only [Lm.Tr.cnt]; omega
  have O2 := LH (O1.out.trans ho2)
  clear hr2 ho2
  go_wp2
  go_end0
  exact ⟨rfl,R2.out,O2.out⟩
namespace Lm
theorem sgl_mem (fs : List Nat) (t : Tr) (h : t ∈ sgl fs) : ∃ p,p ∈ srt fs /\ t = .of p /\ p.2 < fs.length /\ p.1 = fs[p.2]?.getD 0 /\ p.1 ≠ 0 := by
 obtain ⟨p,hp,rfl⟩ := List.mem_map.1 h
 have := (usd_mem fs fs.length p).1 ((srt_perm fs).mem_iff.1 hp)
 exact ⟨p,hp,rfl,this⟩
theorem syms_prs (n : Nat) (ts : List Tr) (h : ∀ t ∈ ts,SymsIn n t) : ∀ t ∈ prs Tr.node ts,SymsIn n t := by
 intro t ht
 obtain ⟨q,hq⟩ := List.getElem?_of_mem ht
 obtain ⟨x,y,h1,h2,rfl⟩ := prs_get _ _ _ _ hq
 exact ⟨h x (List.mem_of_getElem? h1),h y (List.mem_of_getElem? h2)⟩
theorem syms_lvl (n : Nat) (ts : List Tr) (h : ∀ t ∈ ts,SymsIn n t) (j : Nat) : ∀ t ∈ lvl Tr.wt .node ts j,SymsIn n t := by
 induction j with
 | zero => exact h
 | succ j ih =>
  intro t ht
  rcases List.mem_append.1 ((mrg_perm Tr.wt _ _).mem_iff.1 ht) with ht | ht
  ·exact h t ht
  ·exact syms_prs n _ ih t ht
theorem lgt_mem (ts : List Tr) (M : Nat) (t : Tr) (h : t ∈ lgt ts M) : ∃ j,t ∈ lvl Tr.wt .node ts j := by
 unfold lgt at h
 split at h
 ·exact ⟨0,h⟩
 ·exact ⟨_,List.mem_of_mem_take h⟩
theorem lgt_syms (fs : List Nat) (M : Nat) : ∀ t ∈ lgt (sgl fs) M,SymsIn fs.length t := by
 intro t ht
 obtain ⟨j,hj⟩ := lgt_mem _ _ _ ht
 refine syms_lvl _ _ (fun u hu => ?_) j t hj
 obtain ⟨p,_,rfl,hp,_⟩ := sgl_mem fs u hu
 exact hp
theorem sgl_wt (fs : List Nat) (h : ∀ i,i < fs.length -> fs[i]?.getD 0 <= 4294967295) : ∀ t ∈ sgl fs,t.wt <= 4294967295 := by
 intro t ht
 obtain ⟨p,_,rfl,hp,he,_⟩ := sgl_mem fs t ht
 show p.1 <= _
 rw [he]; exact h _ hp
theorem len_le (fs : List Nat) (M : Nat) (hM : 1 <= M) (hf : (srt fs).length <= 2 ^ M) (s : Nat) : len fs M s <= M := by
 by_cases hn : 2 <= (srt fs).length
 ·by_cases h : ∃ p ∈ srt fs,p.2 = s
  ·obtain ⟨p,hp,rfl⟩ := h
   exact (len_two fs M hM hn hf p hp).2
  ·unfold len
   rw [lgt_sum fs M hM hn hf (Tr.cnt s) fun _ _ => rfl]
   have : sm (fun t => sm (Tr.cnt s) ((sgl fs).take t)) (buy fs M) = sm (fun _ => 0 * 1) (buy fs M) := sm_congr fun t _ => by
    show sm (Tr.cnt s) ((sgl fs).take t) = 0
    unfold sgl
    rw [<- List.map_take,sm_map]
    have : sm (fun x => Tr.cnt s (Tr.of x)) ((srt fs).take t) = sm (fun _ => 0 * 1) ((srt fs).take t) := sm_congr fun x hx => by
     have : x.2 ≠ s := fun e => h ⟨x,List.mem_of_mem_take hx,e⟩
     simp only [Tr.of,Tr.cnt]
     rw [if_neg this]
    rw [this,sm_mul]; simp
   rw [this,sm_mul]; simp
 ·have h1 : len fs M s = sm (Tr.cnt s) (sgl fs) := by unfold len lgt; rw [if_pos (by rw [sgl_length]; omega)]
  rw [h1]
  have h2 : sm (Tr.cnt s) (sgl fs) <= sm (fun _ => 1 * 1) (sgl fs) := sm_le fun t ht => by
   obtain ⟨p,_,rfl,_⟩ := sgl_mem fs t ht
   simp only [Tr.of,Tr.cnt]
   split <;> omega
  rw [sm_mul] at h2
  have h3 : sm (fun _ => 1) (sgl fs) = (sgl fs).length := by
   induction sgl fs with
   | nil => rfl
   | cons x l ih => rw [sm_cons,ih,List.length_cons]; omega
  rw [h3,sgl_length] at h2
  omega
theorem sm_take_le {α : Type} (c : α -> Nat) (l : List α) (k : Nat) : sm c (l.take k) <= sm c l := by
 have := sm_take_mono c l k (max k l.length) (by omega)
 rwa [List.take_of_length_le (l := l) (i := max k l.length) (by omega)] at this
end Lm
def LensPost (w : World) (fs : List Nat) (M : Nat) (e : Ending) (w' : World) : Prop :=
 ∃ C,e = .returned (.tuple #[.slice (some ⟨C,0,none⟩) fs.length fs.length,.int .i64 0]) /\ w.heap.size <= C /\ Rz w' C fs.length (Lm.len fs M) /\ Below w.heap.size w w'
theorem Pl.only {w w' : World} {C n : Nat} {d : Nat -> Nat} (hr : Rz w C n d) (ho : Only C w w') {s : Value} {ts : List Lm.Tr} (h : Pl w s ts) : Pl w' s ts := by
 obtain ⟨a,len,cap,rfl,h1,h2,h3,h4,h5⟩ := h
 obtain ⟨cs,hC,hn,hv⟩ := hr
 refine ⟨a,len,cap,rfl,h1,h2,h3,h4,fun hl => ?_⟩
 obtain ⟨b,off,rfl,hlt,hc⟩ := h5 hl
 have hne : b ≠ C := by
  rintro rfl
  obtain ⟨t,ht⟩ : ∃ t,ts[0]? = some t := ⟨_,List.getElem?_eq_getElem (by omega)⟩
  obtain ⟨p,hp,_⟩ := hc 0 t ht
  rw [hC.cell] at hp
  have hin := (Array.getElem?_eq_some_iff.1 hp).1
  rw [hv _ (by omega)] at hp
  cases hp
 refine ⟨b,off,rfl,Nat.lt_of_lt_of_le hlt ho.size,fun i t hi => ?_⟩
 obtain ⟨p,hp,hk⟩ := hc i t hi
 refine ⟨p,?_,Pk.only hC (by decide) ho hk⟩
 rw [<- hp]
 unfold World.cell?
 simp only
 rw [ho.block b hlt hne]
theorem lengths_ok (zs : List Int) (s : Value) (M : Nat) (w : World) (hz : Zl w s zs) (hv : Nums zs) (hM : 1 <= M) (hM2 : M <= 15) (hf : (Lm.srt (nat zs)).length <= 2 ^ M) :
  Calls Tryz.prog 112 #[s,.int .i64 (M : Int)] w (LensPost w (nat zs) M) := by
 have HA := aren_yes zs s w hz hv
 have HU := lused_any zs s w hz hv
 obtain ⟨a,len,cap,rfl,hl⟩ := hz.shape
 have hl2 : len <= 288 := by have := hv.2.1; omega
 have hl1 : 0 < len := by have := hv.1; omega
 have HL : Hid (len = (nat zs).length) := by show _ = _; rw [nat_length,hl]
 have HWT : Hid (∀ t ∈ Lm.sgl (nat zs),t.wt <= 4294967295) := Lm.sgl_wt _ fun i hi => by rw [nat_length] at hi; rw [nat_get]; have := hv.2.2 i hi; omega
 have HLE : Hid (∀ i,Lm.len (nat zs) M i <= 15) := fun i => by have := Lm.len_le (nat zs) M hM hf i; omega
 have HF := LH hf
 have hsl : (Lm.sgl (nat zs)).length <= 288 := by
  rw [Lm.sgl_length,Lm.srt_length]
  have h1 := Lm.usd_length (nat zs) (nat zs).length
  have h2 := HL.out
  omega
 have hmk := run_make_row' (P := Tryz.prog) 57 3 (.int .i64 0) 8 Tryz.underlying57 Tryz.infoInt rfl .i64 .i64 len (by omega) (by omega)
 have g1 : decide ((M : Int) < 1) = false := by simp; omega
 have g2 : decide (15 < (M : Int)) = false := by simp; omega
 clear hz hl hv hf
 go_enter Tryz.func112,Tryz.ntmps112
 go_wp2_with fail
 refine HA.mono ?_
 clear HA
 rintro e w0 ⟨rfl,rfl⟩
 go_wp2_with fail
 refine HU.mono ?_
 clear HU
 rintro e w1 ⟨v1,rfl,hp1,hb1⟩
 have P1 := LH hp1
 have B1 := LH hb1
 obtain ⟨a1,c1,rfl,_,_⟩ := hp1.shape
 obtain ⟨n1,hn1⟩ : ∃ n1,n1 = (Lm.sgl (nat zs)).length := ⟨_,rfl⟩
 rw [<- hn1] at hsl P1 ⊢
 have HN1 := LH hn1
 obtain ⟨q,hq⟩ : ∃ q,q = 2 ^ M := ⟨_,rfl⟩
 have hq2 : q <= 32768 := by rw [hq]; exact Nat.pow_le_pow_right (by omega) hM2
 have hnq : ¬ q < n1 := by have h1 := HF.out; rw [<- Lm.sgl_length,<- hn1,<- hq] at h1; omega
 have hsw : Value.int .i64 (wrap64 (2 ^ M)) = .int .i64 (q : Int) := by
  have e : ((2 : Int) ^ M) = (q : Int) := by rw [hq]; simp
  rw [e,IntWalk.wrap64_in _ (by omega)]
 clear hn1 hp1 hb1 hq
 go_wp2_with fail
 have hrz := madeRz w1 len
 have hbA := below1 w1 (.cells (madeCells #[Value.int IntKind.i64 0] len) 3)
 have HC := lightest_any _ _ M _ (P1.out.later hbA) (by rw [<- HN1.out]; exact hsl) hM hM2 (by rw [Lm.sgl_length]; exact HF.out) HWT.out
 have RZ := LH hrz
 have BA := LH (B1.out.trans (hbA.mono B1.out.size))
 have HCW : Hid (w.heap.size <= w1.heap.size) := B1.out.size
 clear hrz hbA hsw hmk
 refine HC.mono ?_
 clear HC
 rintro e w2 ⟨v2,rfl,hp2,hb2⟩
 have P2 := LH hp2
 have R2 := LH (RZ.out.later hb2)
 have B2 := LH (BA.out.trans (hb2.mono BA.out.size))
 obtain ⟨a2,c2,rfl,hmc,hm1⟩ := hp2.shape
 obtain ⟨m,hm⟩ : ∃ m,m = (Lm.lgt (Lm.sgl (nat zs)) M).length := ⟨_,rfl⟩
 rw [<- hm] at hm1 hmc P2 ⊢
 have HM := LH hm
 clear hp2 hb2 hm RZ BA P1
 obtain ⟨C,hC⟩ : ∃ C,C = w1.heap.size := ⟨_,rfl⟩
 rw [<- hC] at R2 HCW ⊢
 clear hC B1
 go_wp2_with fail
 go_loopw [35] (fun s35 wr => ∃ k : Nat,k <= m /\ s35 = .int .i64 (k : Int) /\ Hid (Rz wr C len (fun i => Lm.sm (Lm.Tr.cnt i) ((Lm.lgt (Lm.sgl (nat zs)) M).take k))) /\ Hid (Pl wr (.slice a2 m c2) (Lm.lgt (Lm.sgl (nat zs)) M)) /\ Hid (Below w.heap.size w wr)) (fun s _ => m - (intOf s).toNat)
 case atStart => exact ⟨0,Nat.zero_le _,rfl,R2.out.congr fun i _ => by simp [Lm.sm],P2,B2⟩
 case round =>
  clear R2 P2 B2
  obtain ⟨k,hk,rfl,KR,KP,KB⟩ := hrel
  by_cases hlt : k < m
  ·obtain ⟨a',m',c',e',e1,e2,e3,e4,e5⟩ := KP.out
   cases e'
   obtain ⟨b,off,rfl,hb,hc⟩ := e5 (by omega)
   obtain ⟨t,ht⟩ : ∃ t,(Lm.lgt (Lm.sgl (nat zs)) M)[k]? = some t := ⟨_,List.getElem?_eq_getElem (by rw [<- HM.out]; exact hlt)⟩
   obtain ⟨p,hp,hpk⟩ := hc k t ht
   have hstep : ∀ i,Lm.sm (Lm.Tr.cnt i) ((Lm.lgt (Lm.sgl (nat zs)) M).take (k + 1)) = Lm.sm (Lm.Tr.cnt i) ((Lm.lgt (Lm.sgl (nat zs)) M).take k) + t.cnt i := fun i => by
    rw [List.take_add_one,Lm.sm_append,ht]; simp [Lm.sm]
   have hbd : ∀ i,i < len -> Lm.sm (Lm.Tr.cnt i) ((Lm.lgt (Lm.sgl (nat zs)) M).take k) + t.cnt i <= 1000000 := fun i _ => by
    rw [<- hstep]
    have h1 := Lm.sm_take_le (Lm.Tr.cnt i) (Lm.lgt (Lm.sgl (nat zs)) M) (k + 1)
    have h2 : Lm.sm (Lm.Tr.cnt i) (Lm.lgt (Lm.sgl (nat zs)) M) <= 15 := HLE.out i
    omega
   have HC := lengthen_any C len len t p _ wr hpk KR.out (by rw [HL.out]; exact Lm.lgt_syms (nat zs) M t (List.mem_of_getElem? ht)) hbd
   have HS := LH hstep
   clear e1 e2 e3 e4 e5 hc ht hpk hstep hbd
   go_wp2_with fail
   refine HC.mono ?_
   clear HC
   rintro e w3 ⟨rfl,hr3,ho3⟩
   have R3 : Hid (Rz w3 C len (fun i => Lm.sm (Lm.Tr.cnt i) ((Lm.lgt (Lm.sgl (nat zs)) M).take (k + 1)))) := hr3.congr fun i _ => HS.out i
   have P3 := LH (KP.out.only KR.out ho3)
   have B3 := LH (ho3.below KB.out HCW.out KB.out.size)
   clear hr3 ho3 hp KR KP KB HS
   go_wp2_with fail
   go_roundw
   case rel => exact ⟨k + 1,by omega,by go_num,R3,P3,B3⟩
   case measure => simp [intOf]; omega
  ·obtain rfl : k = m := by omega
   have R4 : Hid (Rz wr C len (Lm.len (nat zs) M)) := by
    refine KR.out.congr fun i _ => ?_
    unfold Lm.len
    rw [List.take_of_length_le (by rw [<- HM.out]; exact Nat.le_refl _)]
   clear KR KP
   go_wp2
   go_ret2
   refine ⟨C,?_,HCW.out,?_,KB.out⟩
   ·rw [<- HL.out]; rfl
   ·rw [<- HL.out]; exact R4.out
end
section
namespace Lm
theorem usd_sum (fs : List Nat) (c : Nat × Nat -> Nat) (k : Nat) : sm c (usd fs k) = sumTo (fun i => if fs[i]?.getD 0 = 0 then 0 else c (fs[i]?.getD 0,i)) k := by
 induction k with
 | zero => rfl
 | succ k ih =>
  simp only [usd,sumTo,sm_append,ih]
  congr 1
  by_cases h : fs[k]?.getD 0 = 0
  ·rw [if_pos h,if_pos h]; rfl
  ·rw [if_neg h,if_neg h,sm_cons,sm_nil,Nat.add_zero]
theorem srt_sum (fs : List Nat) (c : Nat × Nat -> Nat) : sm c (srt fs) = sumTo (fun i => if fs[i]?.getD 0 = 0 then 0 else c (fs[i]?.getD 0,i)) fs.length := by
 rw [sm_perm c (srt_perm fs),usd_sum]
theorem srt_in (fs : List Nat) (i : Nat) (hi : i < fs.length) (h : fs[i]?.getD 0 ≠ 0) : (fs[i]?.getD 0,i) ∈ srt fs :=
 (srt_perm fs).mem_iff.2 ((usd_mem fs fs.length _).2 ⟨hi,rfl,h⟩)
theorem cnt_none (fs : List Nat) (s : Nat) (h : ∀ p ∈ srt fs,p.2 ≠ s) (t : Nat) : sm (Tr.cnt s) ((sgl fs).take t) = 0 := by
 unfold sgl
 rw [<- List.map_take,sm_map]
 have : sm (fun x => Tr.cnt s (Tr.of x)) ((srt fs).take t) = sm (fun _ => 0 * 1) ((srt fs).take t) := sm_congr fun x hx => by
  simp only [Tr.of,Tr.cnt]
  rw [if_neg (h x (List.mem_of_mem_take hx))]
 rw [this,sm_mul]; simp
theorem len_zero (fs : List Nat) (M s : Nat) (hM : 1 <= M) (hf : (srt fs).length <= 2 ^ M) (h : ∀ p ∈ srt fs,p.2 ≠ s) : len fs M s = 0 := by
 unfold len
 by_cases hn : 2 <= (srt fs).length
 ·rw [lgt_sum fs M hM hn hf (Tr.cnt s) fun _ _ => rfl]
  have : sm (fun t => sm (Tr.cnt s) ((sgl fs).take t)) (buy fs M) = sm (fun _ => 0 * 1) (buy fs M) := sm_congr fun t _ => cnt_none fs s h t
  rw [this,sm_mul]; simp
 ·unfold lgt
  rw [if_pos (by rw [sgl_length]; omega)]
  have := cnt_none fs s h (sgl fs).length
  rwa [List.take_length] at this
theorem len_unused (fs : List Nat) (M i : Nat) (hM : 1 <= M) (hf : (srt fs).length <= 2 ^ M) (h : fs[i]?.getD 0 = 0) : len fs M i = 0 := by
 refine len_zero fs M i hM hf fun p hp e => ?_
 have := (usd_mem fs fs.length p).1 ((srt_perm fs).mem_iff.1 hp)
 rw [e] at this
 exact this.2.2 (this.2.1.trans h)
theorem one_srt (fs : List Nat) (hn : ¬ 2 <= (srt fs).length) (p : Nat × Nat) (hp : p ∈ srt fs) : srt fs = [p] := by
 cases e : srt fs with
 | nil => rw [e] at hp; cases hp
 | cons q l =>
  rw [e] at hp hn
  cases l with
  | nil => rw [List.mem_singleton] at hp; rw [hp]
  | cons r l => simp at hn
theorem len_used (fs : List Nat) (M i : Nat) (hM : 1 <= M) (hf : (srt fs).length <= 2 ^ M) (hi : i < fs.length) (h : fs[i]?.getD 0 ≠ 0) : 1 <= len fs M i := by
 have hp := srt_in fs i hi h
 by_cases hn : 2 <= (srt fs).length
 ·exact (len_two fs M hM hn hf _ hp).1
 ·have e := one_srt fs hn _ hp
  unfold len lgt
  rw [if_pos (by rw [sgl_length]; omega)]
  unfold sgl
  rw [e]
  simp [sm,Tr.of,Tr.cnt]
theorem len_lone (fs : List Nat) (M : Nat) (hn : ¬ 2 <= (srt fs).length) (p : Nat × Nat) (hp : p ∈ srt fs) : len fs M p.2 = 1 := by
 have e := one_srt fs hn _ hp
 unfold len lgt
 rw [if_pos (by rw [sgl_length]; omega)]
 unfold sgl
 rw [e]
 simp [sm,Tr.of,Tr.cnt]
theorem kraft15 (fs : List Nat) (M : Nat) (hM : 1 <= M) (hM2 : M <= 15) (hn : 2 <= (srt fs).length) (hf : (srt fs).length <= 2 ^ M) : sm (fun p => 2 ^ (15 - len fs M p.2)) (srt fs) = 32768 := by
 have h1 : sm (fun p => 2 ^ (15 - len fs M p.2)) (srt fs) = sm (fun p => 2 ^ (15 - M) * 2 ^ (M - len fs M p.2)) (srt fs) := sm_congr fun p hp => by
  have := len_two fs M hM hn hf p hp
  rw [<- Nat.pow_add]; congr 1; omega
 rw [h1,sm_mul,kraft fs M hM hn hf,<- Nat.pow_add,show 15 - M + M = 15 by omega]
theorem take15 (fs : List Nat) (M : Nat) (hM : 1 <= M) (hM2 : M <= 15) (hf : (srt fs).length <= 2 ^ M) : sumTo (fun i => if 0 < len fs M i then 2 ^ (15 - len fs M i) else 0) fs.length = if (srt fs).length < 2 then (srt fs).length * 16384 else 32768 := by
 have h1 : sumTo (fun i => if 0 < len fs M i then 2 ^ (15 - len fs M i) else 0) fs.length = sm (fun p => 2 ^ (15 - len fs M p.2)) (srt fs) := by
  rw [srt_sum]
  refine sumTo_congr fun i hi => ?_
  by_cases h : fs[i]?.getD 0 = 0
  ·rw [if_pos h,len_unused fs M i hM hf h]; rfl
  ·have := len_used fs M i hM hf hi h
   rw [if_neg h,if_pos (by omega)]
 rw [h1]
 by_cases hn : 2 <= (srt fs).length
 ·rw [if_neg (by omega),kraft15 fs M hM hM2 hn hf]
 ·rw [if_pos (by omega)]
  have h2 : sm (fun p => 2 ^ (15 - len fs M p.2)) (srt fs) = sm (fun _ => 16384 * 1) (srt fs) := sm_congr fun p hp => by rw [len_lone fs M hn p hp]
  rw [h2,sm_mul,Nat.mul_comm]
  congr 1
  induction srt fs with
  | nil => rfl
  | cons x l ih => rw [sm_cons,ih,List.length_cons]; omega
end Lm
end
end Go.Proofs.YtckbhciehmokdaaGreatDoor.Ls
namespace Go.Proofs.YtckbhciehmokdaaGreatDoor
set_option maxRecDepth 100000
set_option maxHeartbeats 8000000
section
open Go.RowKit
namespace Dp
def trim (f : Nat -> Nat) : Nat -> Nat
 | 0 => 0
 | k + 1 => if k = 0 ∨ f k ≠ 0 then k + 1 else trim f k
theorem trim_le (f : Nat -> Nat) : ∀ n,trim f n <= n
 | 0 => Nat.le_refl _
 | k + 1 => by have := trim_le f k; simp only [trim]; split <;> omega
theorem trim_pos (f : Nat -> Nat) : ∀ n,0 < n -> 0 < trim f n
 | 0,h => h
 | k + 1,_ => by
  simp only [trim]
  split
  ·omega
  ·exact trim_pos f k (by omega)
theorem trim_zero (f : Nat -> Nat) : ∀ n i,trim f n <= i -> i < n -> f i = 0
 | 0,_,_,h => absurd h (by omega)
 | k + 1,i,h1,h2 => by
  simp only [trim] at h1
  split at h1
  ·omega
  ·rename_i e
   by_cases e2 : i = k
   ·subst e2
    exact Classical.byContradiction fun h => e (Or.inr h)
   ·exact trim_zero f k i h1 (by omega)
theorem trim_stop (f : Nat -> Nat) (k : Nat) (h : k = 0 ∨ f k ≠ 0) : trim f (k + 1) = k + 1 := by simp only [trim]; rw [if_pos h]
theorem trim_next (f : Nat -> Nat) (k : Nat) (h : ¬ (k = 0 ∨ f k ≠ 0)) : trim f (k + 1) = trim f k := by simp only [trim]; rw [if_neg h]
def best (fs : List Nat) : List Nat := (List.range (trim (Ls.Lm.len fs 15) fs.length)).map (Ls.Lm.len fs 15)
theorem best_length (fs : List Nat) : (best fs).length = trim (Ls.Lm.len fs 15) fs.length := by simp [best]
theorem best_lt (fs : List Nat) (i : Nat) (h : i < (best fs).length) : Hf.ln (best fs) i = Ls.Lm.len fs 15 i := by
 rw [best_length] at h
 simp [Hf.ln,best,h]
theorem best_ge (fs : List Nat) (i : Nat) (h : (best fs).length <= i) : Hf.ln (best fs) i = 0 := by
 unfold Hf.ln; rw [List.getElem?_eq_none h]; rfl
theorem best_ln (fs : List Nat) (i : Nat) (hi : i < fs.length) : Hf.ln (best fs) i = Ls.Lm.len fs 15 i := by
 by_cases h : i < (best fs).length
 ·exact best_lt fs i h
 ·rw [best_ge fs i (by omega)]
  rw [best_length] at h
  exact (trim_zero _ fs.length i (by omega) hi).symm
theorem srt_few (fs : List Nat) (hl : fs.length <= 288) : (Ls.Lm.srt fs).length <= 2 ^ 15 := by
 rw [Ls.Lm.srt_length]
 have := Ls.Lm.usd_length fs fs.length
 have : (2 : Nat) ^ 15 = 32768 := rfl
 omega
theorem best_15 (fs : List Nat) (hl : fs.length <= 288) (i : Nat) : Hf.ln (best fs) i <= 15 := by
 by_cases h : i < (best fs).length
 ·rw [best_lt fs i h]; exact Ls.Lm.len_le fs 15 (by omega) (srt_few fs hl) i
 ·rw [best_ge fs i (by omega)]; omega
theorem best_used (fs : List Nat) (hl : fs.length <= 288) (i : Nat) : Hf.ln (best fs) i ≠ 0 ↔ fs[i]?.getD 0 ≠ 0 := by
 rcases Nat.lt_or_ge i fs.length with hi | hi
 ·rw [best_ln fs i hi]
  constructor
  ·intro h e
   exact h (Ls.Lm.len_unused fs 15 i (by omega) (srt_few fs hl) e)
  ·intro h
   have := Ls.Lm.len_used fs 15 i (by omega) (srt_few fs hl) hi h
   omega
 ·rw [best_ge fs i (by have := trim_le (Ls.Lm.len fs 15) fs.length; rw [best_length]; omega),List.getElem?_eq_none hi]
  simp
theorem best_tk (fs : List Nat) (n : Nat) (hn : n <= fs.length) : Hf.tk (best fs) (fun x => decide (0 < x)) n = Ls.Lm.sumTo (fun i => if 0 < Ls.Lm.len fs 15 i then 2 ^ (15 - Ls.Lm.len fs 15 i) else 0) n := by
 induction n with
 | zero => rfl
 | succ k ih =>
  simp only [Hf.tk,Ls.Lm.sumTo]
  rw [ih (by omega),best_ln fs k (by omega)]
  simp
theorem tk_more (ls : List Nat) : ∀ n,Hf.tk ls (fun x => decide (0 < x)) (ls.length + n) = Hf.tk ls (fun x => decide (0 < x)) ls.length
 | 0 => rfl
 | n + 1 => by
  rw [<- Nat.add_assoc]
  simp only [Hf.tk]
  rw [tk_more ls n]
  have : Hf.ln ls (ls.length + n) = 0 := by unfold Hf.ln; rw [List.getElem?_eq_none (by omega)]; rfl
  rw [this]
  simp
theorem best_takes (fs : List Nat) (hl : fs.length <= 288) : takes (best fs) = if (Ls.Lm.srt fs).length < 2 then (Ls.Lm.srt fs).length * 16384 else 32768 := by
 have h1 := takes_tk (best fs) (fun i _ => best_15 fs hl i) (best fs).length (Nat.le_refl _)
 have h2 := trim_le (Ls.Lm.len fs 15) fs.length
 rw [<- best_length] at h2
 have h3 := tk_more (best fs) (fs.length - (best fs).length)
 rw [show (best fs).length + (fs.length - (best fs).length) = fs.length by omega,best_tk fs _ (Nat.le_refl _),Ls.Lm.take15 fs 15 (by omega) (by omega) (srt_few fs hl)] at h3
 unfold takes
 rw [h1,h3]
theorem best_valid (fs : List Nat) (h0 : 0 < fs.length) (hl : fs.length <= 288) : Valid (Hd.zz (best fs)) := by
 have h2 := trim_le (Ls.Lm.len fs 15) fs.length
 have h3 := trim_pos (Ls.Lm.len fs 15) fs.length h0
 rw [<- best_length] at h2 h3
 refine ⟨by rw [Hd.zz_length]; exact h3,by rw [Hd.zz_length]; omega,fun i _ => ?_⟩
 rw [Hd.zz_get]
 have : (best fs)[i]?.getD 0 <= 15 := best_15 fs hl i
 omega
theorem best_fit (fs : List Nat) (h0 : 0 < fs.length) (hl : fs.length <= 288) : Fit (Hd.zz (best fs)) := by
 unfold Fit chk
 rw [if_pos (best_valid fs h0 hl),Hd.nat_zz,best_takes fs hl]
 unfold cmpr
 by_cases h : (Ls.Lm.srt fs).length < 2
 ·rw [if_pos h]
  rw [if_neg (by omega),if_pos (by omega)]
  exact Or.inr rfl
 ·rw [if_neg h]
  exact Or.inl rfl
theorem best_new (fs : List Nat) (hl : fs.length <= 288) (i : Nat) (h : fs[i]?.getD 0 ≠ 0) : newE (Hd.zz (best fs)) = 0 := by
 have hi : i < fs.length := by
  rcases Nat.lt_or_ge i fs.length with h1 | h1
  ·exact h1
  ·rw [List.getElem?_eq_none h1] at h; exact absurd rfl h
 have hin := Ls.Lm.srt_in fs i hi h
 have hc : chk (Hd.zz (best fs)) = cmpr (if (Ls.Lm.srt fs).length < 2 then (Ls.Lm.srt fs).length * 16384 else 32768) := by
  unfold chk
  rw [if_pos (best_valid fs (by omega) hl),Hd.nat_zz,best_takes fs hl]
 unfold newE
 rw [hc,Hd.nat_zz]
 by_cases h2 : (Ls.Lm.srt fs).length < 2
 ·have hone := Ls.Lm.one_srt fs (by omega) _ hin
  have hlen1 : Hf.ln (best fs) i = 1 := by
   rw [best_ln fs i hi]; exact Ls.Lm.len_lone fs 15 (by omega) _ hin
  have honly : ∀ x,Hf.ln (best fs) x ≠ 0 -> x = i := fun x hx => by
   have h3 := (best_used fs hl x).1 hx
   have hxl : x < fs.length := by
    rcases Nat.lt_or_ge x fs.length with h1 | h1
    ·exact h1
    ·rw [List.getElem?_eq_none h1] at h3; exact absurd rfl h3
   have h4 := Ls.Lm.srt_in fs x hxl h3
   rw [hone,List.mem_singleton] at h4
   exact (Prod.mk.inj h4).2
  have hib : i < (best fs).length := by
   rcases Nat.lt_or_ge i (best fs).length with h1 | h1
   ·exact h1
   ·rw [best_ge fs i h1] at hlen1; omega
  have hlone : Lone (best fs) := by
   obtain ⟨k,hk,hki⟩ := Hf.sy_of (best fs) i hib (by omega) (by omega)
   have hall : ∀ j,j < (Hf.ordl (best fs)).length -> Hf.sy (best fs) j = i := fun j hj => honly _ (by have := (Hf.sy_mem (best fs) j hj).2.1; omega)
   have e1 : (Hf.ordl (best fs)).length = 1 := by
    rcases Nat.lt_or_ge 1 (Hf.ordl (best fs)).length with h1 | h1
    ·have := Hf.sy_inj (best fs) 0 1 (by omega) h1 ((hall 0 (by omega)).trans (hall 1 h1).symm)
     omega
    ·omega
   exact ⟨e1,by rw [hall 0 (by omega)]; exact hlen1⟩
  rw [hone]
  rw [if_pos ⟨rfl,hlone⟩]
 ·rw [if_neg h2]
  rfl
theorem best_none (fs : List Nat) (hl : fs.length <= 288) (h : ∀ i : Nat,fs[i]?.getD 0 = 0) : ∀ x ∈ best fs,x = 0 := by
 intro x hx
 obtain ⟨i,hi⟩ := List.getElem?_of_mem hx
 have h1 : Hf.ln (best fs) i = x := by unfold Hf.ln; rw [hi]; rfl
 by_cases e : x = 0
 ·exact e
 ·exact absurd (h i) ((best_used fs hl i).1 (by rw [h1]; exact e))
end Dp
def BstPost (w : World) (fs : List Nat) (e : Ending) (w' : World) : Prop :=
 ∃ C,e = .returned (.tuple #[.slice (some ⟨C,0,none⟩) (Dp.best fs).length fs.length,.int .i64 0]) /\ w.heap.size <= C /\ C < w'.heap.size /\ (∀ i,i < (Dp.best fs).length -> w'.cell? ⟨C,i,none⟩ = some (.int .i64 ((Hf.ln (Dp.best fs) i : Nat) : Int))) /\ Below w.heap.size w w'
theorem best_ok (fs : List Nat) (s : Value) (w : World) (hz : Zl w s (Hd.zz fs)) (h0 : 0 < fs.length) (hl : fs.length <= 288) (hv : ∀ i : Nat,fs[i]?.getD 0 <= 4294967295) :
  Calls Tryz.prog 73 #[s] w (BstPost w fs) := by
 have HL := LH (Ls.lengths_ok (Hd.zz fs) s 15 w hz ⟨by rw [Hd.zz_length]; exact h0,by rw [Hd.zz_length]; exact hl,fun i _ => by rw [Hd.zz_get]; have := hv i; omega⟩ (by omega) (by omega) (by rw [Hd.nat_zz]; exact Dp.srt_few fs hl))
 rw [Hd.nat_zz] at HL
 obtain ⟨a,len,cap,rfl,hlen⟩ := hz.shape
 have HN := LH (fun _ : Unit => Dp.best_length fs)
 have HT := LH (fun i => Dp.best_lt fs i)
 have HLE := LH (fun i => Ls.Lm.len_le fs 15 (by omega) (Dp.srt_few fs hl) i)
 obtain ⟨f,hf⟩ : ∃ f,f = Ls.Lm.len fs 15 := ⟨_,rfl⟩
 obtain ⟨n,hn⟩ : ∃ n,n = fs.length := ⟨_,rfl⟩
 rw [<- hn] at HN h0 hl
 rw [<- hf] at HN HT HLE
 have HF := LH (fun _ : Unit => hf)
 have HFN := LH (fun _ : Unit => hn)
 clear hz hlen hv hf hn
 go_enter Tryz.func73,Tryz.ntmps73
 go_wp2_with fail
 refine (show Calls Tryz.prog 112 #[_,.int .i64 15] _ _ from HL.out).mono ?_
 clear HL
 rintro e w1 ⟨C,rfl,hC,hr,hb⟩
 rw [<- HF.out (),<- HFN.out ()] at hr
 rw [<- HFN.out ()]
 have HR := LH hr
 have HB := LH hb
 have HC := LH (And.intro hC hr.lt)
 clear hr hb hC
 go_wp2_with fail
 go_loopw [4] (fun s4 wr => ∃ k q : Nat,0 < k /\ k <= n /\ s4 = .slice (some ⟨C,0,none⟩) k n /\ Hid (Unit -> Dp.trim f k = Dp.trim f n) /\ wr = w1.drewN q) (fun s _ => match s with | .slice _ k _ => k | _ => 0)
 case atStart => exact ⟨n,0,h0,Nat.le_refl _,rfl,fun _ => rfl,rfl⟩
 case round =>
  obtain ⟨k,q,hk0,hk,rfl,KT,rfl⟩ := hrel
  by_cases h1 : 1 < k
  ·have hc := HR.out.cell (k - 1) (by omega)
   obtain ⟨x,hx⟩ : ∃ x,x = f (k - 1) := ⟨_,rfl⟩
   rw [<- hx] at hc
   have hx15 : x <= 15 := by rw [hx]; exact HLE.out _
   have i1 : decide (1 < (k : Int)) = true := by simp; omega
   have i2 : (0 : Int) <= (k : Int) - 1 := by omega
   have i3 : (k : Int) - 1 < (k : Int) := by omega
   have i4 : ((k : Int) - 1).toNat = k - 1 := by omega
   by_cases hz : x = 0
   ·have hnx : Hid (Unit -> Dp.trim f (k - 1) = Dp.trim f n) := fun _ => by
     have h3 := Dp.trim_next f (k - 1) (by rw [<- hx]; omega)
     rw [show k - 1 + 1 = k by omega] at h3
     rw [<- h3]
     exact KT.out ()
    have hxz : ((x : Nat) : Int) = 0 := by omega
    rw [hxz] at hc
    clear hx hz hxz hx15 KT
    go_wp2_with fail
    go_roundw
    case rel => first | exact ⟨k - 1,q,by omega,by omega,rfl,hnx,rfl⟩ | ((repeat apply Exists.intro); exact ⟨⟨k - 1,q,by omega,by omega,rfl,hnx,rfl⟩,rfl⟩)
    case measure => simp; omega
   ·have hst : Hid (Unit -> k = (Dp.best fs).length) := fun _ => by
     have h3 := Dp.trim_stop f (k - 1) (by rw [<- hx]; omega)
     rw [show k - 1 + 1 = k by omega] at h3
     rw [HN.out (),<- KT.out ()]
     exact h3.symm
    have hxz : ((x : Nat) : Int) ≠ 0 := by omega
    have hxe : (((x : Nat) : Int) == 0) = false := by simp; omega
    clear hx hz hx15 KT
    go_wp2_with fail
    refine bodyPost_ret (v := .tuple #[.slice (some ⟨C,0,none⟩) k n,.int .i64 0]) (by simp [results,Tryz.results73,go_sem]) rfl ?_
    refine ⟨C,by rw [<- hst.out (),<- HFN.out ()],HC.out.1,HC.out.2,fun i hi => ?_,below_drewN HB.out _⟩
    rw [HT.out i hi]
    exact HR.out.cell i (by have := hst.out (); omega)
  ·have i1 : decide (1 < (k : Int)) = false := by simp; omega
   obtain rfl : k = 1 := by omega
   have hst : Hid (Unit -> 1 = (Dp.best fs).length) := fun _ => by
    rw [HN.out (),<- KT.out ()]
    exact (Dp.trim_stop f 0 (Or.inl rfl)).symm
   clear KT
   go_wp2_with fail
   refine bodyPost_ret (v := .tuple #[.slice (some ⟨C,0,none⟩) 1 n,.int .i64 0]) (by simp [results,Tryz.results73,go_sem]) rfl ?_
   refine ⟨C,by rw [<- hst.out (),<- HFN.out ()],HC.out.1,HC.out.2,fun i hi => ?_,below_drewN HB.out _⟩
   rw [HT.out i hi]
   exact HR.out.cell i (by have := hst.out (); omega)
end
section
open Go.RowKit
theorem Own.alloc' {base : Nat} {w : World} {v : Value} {xs : List Nat} (h : Own base w v xs) (o : Obj) : Own base (w.alloc o) v xs := World.ownsRow.alloc h o
theorem Own.lt' {base : Nat} {w : World} {v : Value} {xs : List Nat} (h : Own base w v xs) (g : Nat) (e : v.ownBlock = some g) : g < w.heap.size := (World.ownsRow.lt h g e).2
structure Tri (w0 w : World) (u v z : Value) (xs ys zs : List Nat) : Prop where
 a : Own w0.heap.size w u xs
 b : Own w0.heap.size w v ys
 c : Own w0.heap.size w z zs
 ab : ∀ g,u.ownBlock = some g -> v.ownBlock ≠ some g
 bc : ∀ g,v.ownBlock = some g -> z.ownBlock ≠ some g
 ca : ∀ g,z.ownBlock = some g -> u.ownBlock ≠ some g
 l : Below w0.heap.size w0 w
theorem Tri.rot {w0 w : World} {u v z : Value} {xs ys zs : List Nat} (h : Tri w0 w u v z xs ys zs) : Tri w0 w v z u ys zs xs := ⟨h.b,h.c,h.a,h.bc,h.ca,h.ab,h.l⟩
theorem Tri.swap {w0 w : World} {u v z : Value} {xs ys zs : List Nat} (h : Tri w0 w u v z xs ys zs) : Tri w0 w v u z ys xs zs := ⟨h.b,h.a,h.c,fun g e1 e2 => h.ab g e2 e1,fun g e1 e2 => h.ca g e2 e1,fun g e1 e2 => h.bc g e2 e1,h.l⟩
theorem Tri.later {w0 w w' : World} {u v z : Value} {xs ys zs : List Nat} (h : Tri w0 w u v z xs ys zs) (hb : Below w.heap.size w w') : Tri w0 w' u v z xs ys zs :=
 ⟨h.a.keep hb,h.b.keep hb,h.c.keep hb,h.ab,h.bc,h.ca,h.l.trans (hb.mono h.l.size)⟩
theorem Tri.start (w : World) : Tri w w (.slice none 0 0) (.slice none 0 0) (.slice none 0 0) [] [] [] :=
 ⟨Own.nil _ _,Own.nil _ _,Own.nil _ _,fun g e => by simp [Value.ownBlock] at e,fun g e => by simp [Value.ownBlock] at e,fun g e => by simp [Value.ownBlock] at e,Below.refl _ _⟩
structure Pd (w : World) (u v z : Value) (g x : Nat) : Prop where
 c : w.cell? ⟨g,0,none⟩ = some (.int .i64 (x : Int))
 lt : g < w.heap.size
 u : u.ownBlock ≠ some g
 v : v.ownBlock ≠ some g
 z : z.ownBlock ≠ some g
theorem Pd.alloc {w : World} {u v z : Value} {g x : Nat} (h : Pd w u v z g x) (o : Obj) : Pd (w.alloc o) u v z g x :=
 ⟨((below1 w o).cell (p := ⟨g,0,none⟩) h.lt).trans h.c,by have := h.lt; simp; omega,h.u,h.v,h.z⟩
theorem Pd.swap {w : World} {u v z : Value} {g x : Nat} (h : Pd w u v z g x) : Pd w v u z g x := ⟨h.c,h.lt,h.v,h.u,h.z⟩
theorem Tri.new {w0 w : World} {u v z : Value} {xs ys zs : List Nat} (h : Tri w0 w u v z xs ys zs) (x : Nat) : Pd (w.alloc (.cells #[.int .i64 (x : Int)] 3)) u v z w.heap.size x :=
 ⟨(Has.new w (.cells #[.int .i64 (x : Int)] 3)).one.1,by simp,fun e => by have := h.a.lt' _ e; omega,fun e => by have := h.b.lt' _ e; omega,fun e => by have := h.c.lt' _ e; omega⟩
theorem Tri.alloc {w0 w : World} {u v z : Value} {xs ys zs : List Nat} (h : Tri w0 w u v z xs ys zs) (o : Obj) : Tri w0 (w.alloc o) u v z xs ys zs := h.later (below1 w o)
theorem Tri.push {w0 w : World} {u v z : Value} {xs ys zs : List Nat} (h : Tri w0 w u v z xs ys zs) {g x : Nat} (hp : Pd w u v z g x) (hx : xs.length <= 99999) (ty : TypeId) :
  ∃ u' w',(Builtin.append_ #[57,57] ty #[u,.slice (some ⟨g,0,none⟩) 1 1]).run Tryz.prog w = .ok u' w' /\ Tri w0 w' u' v z (xs ++ [x]) ys zs /\ ∀ g' x',g' ≠ g -> Pd w u v z g' x' -> Pd w' u' v z g' x' := by
 obtain ⟨i0,hi,hz0,hz1,hz2⟩ := info_parts Tryz.infoInt
 obtain ⟨u',w',h1,h2,h3,_,h5⟩ := run_append_own_at (P := Tryz.prog) (w := w) w0.heap.size 57 ty 3 i0 (.int .i64 0) 1 8 Tryz.underlying57 hi hz0 hz1 hz2 rfl (by decide) u xs.length (vn xs) h.a ⟨g,0,none⟩ 1 1 [.int .i64 (x : Int)] rfl
  (fun j t hj => by
   cases j with
   | zero => simp at hj; subst hj; exact hp.c
   | succ j => simp at hj) (by simp [Value.oneCell']) (by unfold maxLen; omega) (by omega) h.l.size
 have hne : ∀ {q : Value} {qs : List Nat},Own w0.heap.size w q qs -> (∀ k,q.ownBlock = some k -> u.ownBlock ≠ some k) -> Own w0.heap.size w' q qs := fun {q qs} ho hk =>
  World.ownsRow.kept ho h3 (by
   cases e : q.ownBlock with
   | none => exact .inl rfl
   | some k => exact .inr fun e2 => hk k e e2.symm)
 refine ⟨u',w',h1,⟨?_,hne h.b (fun k e1 e2 => h.ab k e2 e1),hne h.c h.ca,fun k e1 e2 => ?_,h.bc,fun k e1 e2 => ?_,h.l.grown h3 h.l.size (fun q e => (World.ownsRow.lt h.a q e).1)⟩,fun g' x' hg' hq => ?_⟩
 ·show w'.ownsRow _ _ _ _ (xs ++ [x]).length (vn (xs ++ [x]))
  rw [vn_append,List.length_append]; exact h2
 ·rcases h5 with h6 | h6
  ·rw [h6] at e1; exact h.ab k e1 e2
  ·rw [h6] at e1
   have := h.b.lt' k e2
   injection e1 with e1
   omega
 ·rcases h5 with h6 | h6
  ·rw [h6] at e2; exact h.ca k e1 e2
  ·rw [h6] at e2
   have := h.c.lt' k e1
   injection e2 with e2
   omega
 ·have hb := h3.block g' hq.lt (fun e => hq.u e.symm)
  refine ⟨(World.cell?_of_block (a := ⟨g',0,none⟩) hb).trans hq.c,Nat.lt_of_lt_of_le hq.lt h3.size,fun e => ?_,hq.v,hq.z⟩
  rcases h5 with h6 | h6
  ·rw [h6] at e; exact hq.u e
  ·rw [h6] at e
   injection e with e
   have := hq.lt
   omega
theorem Tri.one {w0 w : World} {u v z : Value} {xs ys zs : List Nat} (h : Tri w0 w u v z xs ys zs) (x : Nat) (hx : xs.length <= 99999) (ty : TypeId) :
  ∃ u' w',(Builtin.append_ #[57,57] ty #[u,.slice (some ⟨w.heap.size,0,none⟩) 1 1]).run Tryz.prog (w.alloc (.cells #[.int .i64 (x : Int)] 3)) = .ok u' w' /\ Tri w0 w' u' v z (xs ++ [x]) ys zs := by
 obtain ⟨u',w',h1,h2,_⟩ := (h.alloc _).push (h.new x) hx ty
 exact ⟨u',w',h1,h2⟩
abbrev OneN (x : Nat) : Obj := .cells #[.int .i64 (x : Int)] 3
theorem Tri.apbq {w0 w : World} {u v z : Value} {xs ys zs : List Nat} (h : Tri w0 w u v z xs ys zs) (x y : Nat) (hx : xs.length <= 99999) (hy : ys.length <= 99999) (ty : TypeId) :
  ∃ u' v' w1 w2,(Builtin.append_ #[57,57] ty #[u,.slice (some ⟨w.heap.size,0,none⟩) 1 1]).run Tryz.prog (w.alloc (OneN x)) = .ok u' w1 /\
   (Builtin.append_ #[57,57] ty #[v,.slice (some ⟨w1.heap.size,0,none⟩) 1 1]).run Tryz.prog (w1.alloc (OneN y)) = .ok v' w2 /\ Tri w0 w2 u' v' z (xs ++ [x]) (ys ++ [y]) zs := by
 obtain ⟨u',w1,h1,h2⟩ := h.one x hx ty
 obtain ⟨v',w2,h3,h4⟩ := h2.swap.one y hy ty
 exact ⟨u',v',w1,w2,h1,h3,h4.swap⟩
end
section
open Go.RowKit
namespace If
theorem toks_at {ts : List Tk} {i : Nat} {t : Tk} (h : ts[i]? = some t) : (tell (ts.take (i + 1))).length = (tell (ts.take i)).length + sz t := by rw [tell_take_succ h,tell1_length]
theorem tv_from {ts : List Tk} (h : Toks ts) {most : Nat} (hm : (tell ts).length <= most) : ∀ (d i : Nat),i + d = ts.length -> TV most (ts.drop i) (tell (ts.take i)).length
 | 0,i,hi => by rw [List.drop_of_length_le (by omega)]; exact trivial
 | d + 1,i,hi => by
  have hlt : i < ts.length := by omega
  have hg := List.getElem?_eq_getElem hlt
  rw [List.drop_eq_getElem_cons hlt]
  have ih := tv_from h hm d (i + 1) (by omega)
  rw [toks_at hg] at ih
  have hle := tell_take_le ts (ts.length - (i + 1)) (i + 1) (by omega)
  rw [toks_at hg] at hle
  exact ⟨h i _ hg,by omega,ih⟩
theorem tv_of {ts : List Tk} (h : Toks ts) {most : Nat} (hm : (tell ts).length <= most) : TV most ts 0 := by
 have := tv_from h hm ts.length 0 (by omega)
 simpa [tell] using this
theorem toks_vals {ts : List Tk} (h : Toks ts) : ∀ t ∈ ts,Byt t ∨ Cop t := by
 intro t ht
 obtain ⟨i,hi⟩ := List.getElem?_of_mem ht
 exact (h i t hi).1
theorem fix_toks {ts : List Tk} (h : Toks ts) (most : Int) (h1 : ((tell ts).length : Int) <= most) (h2 : most <= 65536) : decode (bb (Bs.pack (fixRow ts))) most = (tell ts,(Bs.pack (fixRow ts)).length,0) :=
 fix_decode most (by omega) h2 (tv_of h (by omega))
end If
theorem fixed_ok (a : Option Addr) (n c : Nat) (ts : List If.Tk) (w : World) (hs : Tks w (.slice a n c) ts) (hn : n = ts.length) (hts : If.Toks ts) (hl : (If.tell ts).length <= 65536) :
  Calls Tryz.prog 15 #[.slice a n c] w (StrPost w (Bs.pack (If.fixRow ts))) := by
 have hb1 := below1 w (.cells #[.slice a n c] 30)
 have hx := Has.new w (.cells #[.slice a n c] 30)
 have hn9 : n <= 65536 := by have := If.toks_length_le ts; omega
 have HE := LH (expand_tks (.slice a n c) ts 65536 (w.alloc (.cells #[.slice a n c] 30)) (hs.later hb1) hts hl (Nat.le_refl _))
 have HST := LH (fun W (hb : Below (w.alloc (.cells #[.slice a n c] 30)).heap.size (w.alloc (.cells #[.slice a n c] 30)) W) => stream_ok 28 #[.pointer (some ⟨w.heap.size,0,none⟩)] Tryz.call28 W _ (fixed1_lay W w.heap.size a n c ts (hx.later hb) ((hs.later hb1).later hb) hn hn9 (If.toks_vals hts)))
 have HB := LH hb1
 have HX := LH hx
 clear hs hn hts hl hb1 hx hn9
 go_enter Tryz.func15,Tryz.ntmps15
 go_wp2_with fail
 refine (show Calls Tryz.prog 24 #[_,.int .i64 65536] _ _ from HE.out).mono ?_
 clear HE
 rintro e w1 ⟨v,rfl,_,hb⟩
 have HS1 := LH (HST.out w1 hb)
 have HB1 := LH (HB.out.trans (hb.mono HB.out.size))
 have hx1 := HX.out.later hb
 obtain ⟨c0,_⟩ := hx1.one
 clear HST HX hx1 hb
 go_wp2_with fail
 refine HS1.out.mono ?_
 clear HS1
 rintro e w2 ⟨v2,rfl,ho,hb2⟩
 have HO := LH (own_weaken ho HB1.out.size)
 have HBB := LH (HB1.out.trans (hb2.mono HB1.out.size))
 clear ho hb2
 go_wp2
 refine bodyPost_ret (v := .tuple #[v2,.int .i64 0]) (by simp [results,Tryz.results15,go_sem]) rfl ⟨_,rfl,HO.out,HBB.out⟩
end
section
open Go.RowKit
theorem Sx.place {K : Nat -> Prop} {R : Nat} {s : Value} {l : List Bool} {N most : Nat} {w : World} {r : Rv} (h : Sx K R s l N most w r) : placeOf R w = r.p := by obtain ⟨_,_,h,_⟩ := h; exact h.place
theorem Sx.pn {K : Nat -> Prop} {R : Nat} {s : Value} {l : List Bool} {N most : Nat} {w : World} {r : Rv} (h : Sx K R s l N most w r) : r.p <= N := by obtain ⟨_,_,h,_⟩ := h; exact h.pn
theorem Sx.lt {K : Nat -> Prop} {R : Nat} {s : Value} {l : List Bool} {N most : Nat} {w : World} {r : Rv} (h : Sx K R s l N most w r) : ∀ k,K k -> k < w.heap.size := by obtain ⟨_,h1,h,_⟩ := h; exact fun k hk => h.lt k (h1 k hk)
namespace If
end If
end
section
open Go.RowKit
namespace If
theorem blocks_succ (l : List Bool) (most k : Nat) (out : List Nat) (p : Nat) :
  blocks l most (k + 1) out p = if (block l most p out).2.2 ≠ 0 then ([],0,(block l most p out).2.2) else
   if Hd.num l p 1 = 1 then ((block l most p out).1,(block l most p out).2.1,0) else blocks l most k (block l most p out).1 (block l most p out).2.1 := rfl
end If
end
end Go.Proofs.YtckbhciehmokdaaGreatDoor
