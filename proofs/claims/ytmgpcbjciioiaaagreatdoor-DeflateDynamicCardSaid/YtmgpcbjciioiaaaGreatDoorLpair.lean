import Derived.Test.YtmgpcbjciioiaaaGreatDoorKlen
import Derived.Test.YtmgpcbjciioiaaaGreatDoorLsing
namespace Go.Proofs.YtmgpcbjciioiaaaGreatDoor.Ls
set_option maxRecDepth 100000
set_option maxHeartbeats 8000000
section
open Go.RowKit Go.Shelf
attribute [local go_sem] Oper.semAt_some
theorem with_any (p q : Nat) (x y : Lm.Tr) (w : World) (hp : Pk w x p) (hq : Pk w y q) (hw : x.wt + y.wt <= 1125899906842624) :
  Calls Tryz.prog 206 #[.pointer (some ⟨p,0,none⟩),.pointer (some ⟨q,0,none⟩)] w fun e w' => ∃ r,e = .returned (.pointer (some ⟨r,0,none⟩)) /\ Pk w' (.node x y) r /\ Below w.heap.size w w' := by
 have HP := LH hp
 have HQ := LH hq
 have c1 := hp.wt
 have c2 := hq.wt
 obtain ⟨u,hu⟩ : ∃ u,u = x.wt := ⟨_,rfl⟩
 obtain ⟨v,hv⟩ : ∃ v,v = y.wt := ⟨_,rfl⟩
 rw [<- hu] at c1
 rw [<- hv] at c2
 rw [<- hu,<- hv] at hw
 have HU := LH hu
 have HV := LH hv
 clear hp hq hu hv
 go_enter Tryz.func206,Tryz.ntmps206
 go_wp2
 go_region
 go_wp2
 go_ret
 rw [HU.out,HV.out]
 have hb := (below1 w (.cells #[.int .i64 ((x.wt : Int) + (y.wt : Int)),.int .i64 0,.pointer (some ⟨p,0,none⟩),.pointer (some ⟨q,0,none⟩)] 252)).drew
 refine ⟨_,rfl,⟨p,q,?_,HP.out.later hb,HQ.out.later hb⟩,hb⟩
 have h := Has.new w (.cells #[.int .i64 ((x.wt : Int) + (y.wt : Int)),.int .i64 0,.pointer (some ⟨p,0,none⟩),.pointer (some ⟨q,0,none⟩)] 252)
 rw [show ((x.wt + y.wt : Nat) : Int) = (x.wt : Int) + (y.wt : Int) by omega]
 exact h
theorem below_of_drew {B : Nat} {w w' : World} (h : Below B w.drew w') : Below B w w' := ⟨h.os,h.tape,h.output,h.size,h.block⟩
def Two (w : World) (x : (Nat × Nat) × (Lm.Tr × Lm.Tr)) : Prop := Pk w x.2.1 x.1.1 /\ Pk w x.2.2 x.1.2 /\ x.2.1.wt + x.2.2.wt <= 1125899906842624
abbrev Tw (w : World) := { x : (Nat × Nat) × (Lm.Tr × Lm.Tr) // Two w x }
def twTo (ts : List Lm.Tr) : Nat -> List (Lm.Tr × Lm.Tr)
 | 0 => []
 | j + 1 => twTo ts j ++ [(ts[2 * j]?.getD (.leaf 0 0),ts[2 * j + 1]?.getD (.leaf 0 0))]
theorem twTo_length (ts : List Lm.Tr) (j : Nat) : (twTo ts j).length = j := by
 induction j with
 | zero => rfl
 | succ j ih => simp only [twTo,List.length_append,ih]; rfl
def TellsTw {w : World} (ts : List Lm.Tr) (j : Nat) (pre : List (Tw w)) : Prop := pre.map (fun x => x.1.2) = twTo ts j
theorem tellsTw_length {w : World} {ts : List Lm.Tr} {j : Nat} {pre : List (Tw w)} (h : TellsTw ts j pre) : pre.length = j := by
 have := congrArg List.length h
 rwa [List.length_map,twTo_length] at this
theorem twos_in (n : Nat) (sv : Value) (a : Option Addr) (len cap : Nat) (hsv : sv = .slice a len cap) (w : World) :
  CallsIn Fence.wide n Tryz.prog 205 #[sv] w fun e w' => e = .returned (.func (.func 223) #[] #[.pointer (some ⟨w.heap.size,0,none⟩)]) /\ w' = w.alloc (.cells #[sv] 206) := by
 subst hsv
 refine callsIn_of_wp Tryz.func205 rfl trivial ?_ rfl
 simp only [Tryz.ntmps205,List.size_toArray,List.length_cons,List.length_nil,Nat.reduceAdd,Nat.reduceSub,Array.replicate_succ,Array.replicate_zero,List.push_toArray,List.append_toArray,List.nil_append,List.cons_append]
 gi_wp2
 go_ret
 exact ⟨rfl,rfl⟩
def KeepB (n₀ Bs : Nat) (A B : World) : Prop := Below n₀ A B /\ ∀ v,Boxed A Bs 206 v -> Boxed B Bs 206 v
theorem KeepB.refl (n₀ Bs : Nat) (W : World) : KeepB n₀ Bs W W := ⟨Below.refl _ _,fun _ h => h⟩
theorem keepB_t {n₀ Bs : Nat} {A B C : World} (h : KeepB n₀ Bs A B) (k : KeepB n₀ Bs B C) : KeepB n₀ Bs A C := ⟨h.1.trans k.1,fun v hv => k.2 v (h.2 v hv)⟩
theorem keepB_b {n₀ Bs : Nat} {w : World} (hn : n₀ <= w.heap.size) (W : World) (l : Nat) (_o o' : Obj) (hl : w.heap.size <= l) (h : W.heap[l]? = some _o) (hc : _o.isCells = false) (_ : _o.isWalk = false) : KeepB n₀ Bs W (W.putObj l o') := by
 refine ⟨(Below.refl n₀ W).grown (grownBy_putObj' W l o') (by have := (Array.getElem?_eq_some_iff.1 h).1; omega) (fun k e => by cases e; omega),fun v hv => ?_⟩
 have hne : Bs ≠ l := by rintro rfl; rw [show W.heap[Bs]? = _ from hv] at h; cases h; cases hc
 show (W.putObj l o').heap[Bs]? = _
 rw [World.putObj_heap_other (by omega)]; exact hv
theorem twos1_in (n : Nat) (hn : 2 <= n) (l Bs : Nat) (w : World) (sv : Value) (ts : List Lm.Tr) (hpos : 0 < ts.length) (hP : Pl w sv ts) (hwt : ∀ (i : Nat) (t : Lm.Tr),ts[i]? = some t -> t.wt <= 281474976710656) (J Jx : List (Tw w) -> World -> Prop)
  (hY : ∀ pre x W,J pre W -> pre.length < ts.length / 2 -> YieldAt Fence.wide (n - 1) Tryz.prog l #[.pointer (some ⟨x.1.1.1,0,none⟩),.pointer (some ⟨x.1.1.2,0,none⟩)] W fun e W' =>
   (e = .returned (.bool true) /\ J (pre ++ [x]) W' /\ KeepB w.heap.size Bs W W') ∨ (e = .returned (.bool false) /\ Jx (pre ++ [x]) W'))
  (W : World) (hJ : AbidesFrom W.heap.size J) (hW : Below w.heap.size w W) (hBs : Boxed W Bs 206 sv) (h0 : J [] W) :
  CallsIn Fence.wide n Tryz.prog 223 #[.func (.yield l) #[] #[],.pointer (some ⟨Bs,0,none⟩)] W fun e W' => (∃ v,e = .returned v) /\
   ((∃ ys,TellsTw ts (ts.length / 2) ys /\ J ys W') ∨ (∃ pre,True /\ Jx pre W')) := by
 obtain ⟨a,len,cap,rfl,hlen,_,h1024,_,hc⟩ := hP
 obtain ⟨b,off,rfl,hb,hcc⟩ := hc (by omega)
 have HC := LH hcc
 have HW := LH hwt
 obtain ⟨m,hm⟩ : ∃ m,m = ts.length / 2 := ⟨_,rfl⟩
 rw [<- hm] at hY ⊢
 have hm1 : 2 * m <= len := by omega
 have hm2 : len < 2 * m + 2 := by omega
 have HL := LH hlen
 clear hc hcc hwt hlen hm
 refine callsIn_of_wp Tryz.func223 rfl trivial ?_ rfl
 simp only [Tryz.ntmps223,List.size_toArray,List.length_cons,List.length_nil,Nat.reduceAdd,Nat.reduceSub,Array.replicate_succ,Array.replicate_zero,List.push_toArray,List.append_toArray,List.nil_append,List.cons_append]
 gi_wp2
 gi_loopw [3] (fun i wr => ∃ (k c : Nat) (pre : List (Tw w)),k <= m /\ i = .int .i64 (c : Int) /\ Hid (c = 2 * k + 1) /\ Hid (TellsTw ts k pre) /\ J pre wr /\ Hid (KeepB w.heap.size Bs W wr))
  (fun i _ => 2 * m + 2 - (intOf i).toNat)
 case atStart => exact ⟨0,1,[],Nat.zero_le _,rfl,rfl,rfl,h0,KeepB.refl _ _ _⟩
 case round =>
  obtain ⟨k,c,pre,hk,rfl,KC,KT,hJs,hnx⟩ := hrel
  have hkn := tellsTw_length KT.out
  have cB : wr.cell? ⟨Bs,0,none⟩ = some (.slice (some ⟨b,off,none⟩) len cap) := (hnx.out.2 _ hBs).cell
  by_cases hlt : k < m
  ·have i1 : 2 * k < ts.length := by have := HL.out; omega
   have i2 : 2 * k + 1 < ts.length := by have := HL.out; omega
   obtain ⟨tx,htx⟩ : ∃ t,ts[2 * k]? = some t := ⟨_,List.getElem?_eq_getElem i1⟩
   obtain ⟨ty,hty⟩ : ∃ t,ts[2 * k + 1]? = some t := ⟨_,List.getElem?_eq_getElem i2⟩
   obtain ⟨p,hp1,hp2⟩ := HC.out (2 * k) tx htx
   obtain ⟨q,hq1,hq2⟩ := HC.out (2 * k + 1) ty hty
   have w1 := HW.out (2 * k) tx htx
   have w2 := HW.out (2 * k + 1) ty hty
   have g1 : wr.cell? ⟨b,off + 2 * k,none⟩ = some (.pointer (some ⟨p,0,none⟩)) := ((hW.trans hnx.out.1).cell (p := ⟨b,off + 2 * k,none⟩) hb).trans hp1
   have g2 : wr.cell? ⟨b,off + (2 * k + 1),none⟩ = some (.pointer (some ⟨q,0,none⟩)) := ((hW.trans hnx.out.1).cell (p := ⟨b,off + (2 * k + 1),none⟩) hb).trans hq1
   have hx : Two w ((p,q),(tx,ty)) := ⟨hp2,hq2,by show tx.wt + ty.wt <= _; omega⟩
   have KT2 : Hid (TellsTw ts (k + 1) (pre ++ [(⟨((p,q),(tx,ty)),hx⟩ : Tw w)])) := by
    show List.map _ _ = _
    rw [List.map_append,show List.map (fun x => x.1.2) pre = _ from KT.out]
    simp only [twTo,List.map_cons,List.map_nil,htx,hty,Option.getD_some]
   obtain ⟨fn,tmps,assign,body,hy,hR0⟩ := hY pre ⟨_,hx⟩ wr.drew (hJ _ _ wr.drew none hJs ⟨rfl,rfl,rfl,Nat.le_refl _,fun _ _ _ => rfl⟩ (fun r e => by cases e)) (by omega)
   dsimp only at hy
   have hR := hR0.mono (R' := fun e W' => ∃ bb,e = Ending.returned (.bool bb) /\ Hid ((bb = true /\ J (pre ++ [⟨((p,q),tx,ty),hx⟩]) W' /\ KeepB w.heap.size Bs wr.drew W') ∨ (bb = false /\ Jx (pre ++ [⟨((p,q),tx,ty),hx⟩]) W'))) (by
    rintro e W3 (⟨rfl,hJ3,hk3⟩ | ⟨rfl,hJx3⟩)
    ·exact ⟨true,rfl,.inl ⟨rfl,hJ3,hk3⟩⟩
    ·exact ⟨false,rfl,.inr ⟨rfl,hJx3⟩⟩)
   clear hR0
   obtain ⟨d,hd⟩ : ∃ d,d = 2 * k := ⟨_,rfl⟩
   have hcd : c = d + 1 := by have := KC.out; omega
   have hcd2 : (c : Int) - 1 = (d : Int) := by omega
   have hcl : c < len := by omega
   have hdl : d < len := by omega
   rw [<- hd] at g1
   rw [show 2 * k + 1 = c from KC.out.symm] at g2
   have HD := LH hd
   clear hcd w1 w2 hd hp1 hp2 hq1 hq2 htx hty i1 i2 hkn
   have hmx : Tryz.prog.follows .mixedOrders = true := by kernel_rfl
   have hd1 : 1 <= n - 1 := by omega
   have hn1 : 1 <= n := by omega
   gi_wp2
   have hwd : IntKind.i64.wrap (d : Int) = (d : Int) := IntWalk.i64_in _ (by omega)
   gi_region_with_o (refine hR.mono ?_; rintro e W3 ⟨bb,rfl,hbb⟩)
   all_goals
    rcases hbb.out with ⟨rfl,hJ3,hk3⟩ | ⟨rfl,hJx3⟩
    ·clear hbb hwd hcd2
     gi_wp2
     go_roundw
     case rel => exact ⟨k + 1,c + 2,_,by omega,by go_num,by show _ = _; have := KC.out; omega,KT2,hJ3,keepB_t hnx.out ⟨below_of_drew hk3.1,fun v hv => hk3.2 v hv⟩⟩
     case measure => simp [intOf]; omega
    ·clear hbb hwd hcd2
     gi_wp2
     refine bodyPost_ret (results_none rfl _ _ _) rfl ?_
     exact ⟨⟨_,rfl⟩,.inr ⟨_,trivial,hJx3⟩⟩
  ·obtain rfl : k = m := by omega
   have hcl : ¬ c < len := by have := KC.out; omega
   gi_wp2
   go_end0
   exact ⟨⟨_,rfl⟩,.inl ⟨pre,KT.out,hJs⟩⟩
theorem twos_stops (n : Nat) (hn : 2 <= n) (Bs : Nat) (w w1 : World) (sv : Value) (ts : List Lm.Tr) (hpos : 0 < ts.length) (hP : Pl w sv ts) (hwt : ∀ (i : Nat) (t : Lm.Tr),ts[i]? = some t -> t.wt <= 281474976710656) (hB : Below w.heap.size w w1) (hc : Boxed w1 Bs 206 sv) :
  SeqStopsK Fence.wide n Tryz.prog 223 #[.pointer (some ⟨Bs,0,none⟩)] (fun x : Tw w => #[Value.pointer (some ⟨x.1.1.1,0,none⟩),Value.pointer (some ⟨x.1.1.2,0,none⟩)]) (KeepB w.heap.size Bs) (fun ys => TellsTw ts (ts.length / 2) ys) (fun _ => True) (ts.length / 2) w1 := fun l J Jx W hW hJ _ hY h0 =>
 twos1_in n hn l Bs w sv ts hpos hP hwt J Jx hY W hJ (hB.trans (hW.mono hB.size)) ((hW.block Bs hc.lt).trans hc) h0
end
section
open Go.RowKit Go.Shelf
attribute [local go_sem] Oper.semAt_some
theorem step_append_in {F : Fence} {n : Nat} {P : Program} {ops : Array Oper} {o : Oper} {a : Act} {w : World} {K : Act -> World -> Prop} {Q : Exit -> Act -> World -> Prop} {E : Prop} (hw : Region.wanted o (yielded ops a.tmps) = true) (s x : Operand) (t : TypeId)
  (hop : o.op = Op.call { callee := Callee.builtin Builtin.append,args := #[s,x],argTypes := #[t,t] }) (S X v : Value) (w' : World) (hs : a.eval s = S) (hx : a.eval x = X)
  (hrun : (Builtin.append_ #[t,t] o.type #[S,X]).run P w = .ok v w') (hK : K (a.put o.dst v) w') :
  if Region.wanted o (yielded ops a.tmps) = true then Oper.wpIn F n P o a w K Q else E := by
 rw [if_pos hw]
 unfold Oper.wpIn
 refine ⟨?_,?_⟩
 ·simp [Oper.about,hop,resolve,Target.leads,Sem.run_pure]
 ·rw [Oper.semAt_plain F _ _ (by rw [hop]; intro c hc'; cases hc')]
  simp [execOp,hop,resolve,invoke,builtin,hs,hx,hrun,Result.andThen]
  exact hK
theorem twTo_prs (ts : List Lm.Tr) : ∀ j,2 * j <= ts.length -> (twTo ts j).map (fun p => Lm.Tr.node p.1 p.2) = Lm.prs .node (ts.take (2 * j)) := by
 intro j
 induction j with
 | zero => intro _; simp [twTo,Lm.prs]
 | succ j ih =>
  intro h
  have e1 : ts[2 * j]? = some (ts[2 * j]'(by omega)) := List.getElem?_eq_getElem _
  have e2 : ts[2 * j + 1]? = some (ts[2 * j + 1]'(by omega)) := List.getElem?_eq_getElem _
  have e3 : ts.take (2 * (j + 1)) = ts.take (2 * j) ++ [ts[2 * j]'(by omega),ts[2 * j + 1]'(by omega)] := by
   rw [show 2 * (j + 1) = 2 * j + 1 + 1 by omega,List.take_add_one,List.take_add_one,e1,e2,List.append_assoc]; rfl
  rw [e3,Lm.prs_snoc _ _ _ _ (by rw [List.length_take]; omega),<- ih (by omega)]
  simp only [twTo,List.map_append,List.map_cons,List.map_nil,e1,e2,Option.getD_some]
theorem twTo_all (ts : List Lm.Tr) : (twTo ts (ts.length / 2)).map (fun p => Lm.Tr.node p.1 p.2) = Lm.prs .node ts := by
 rw [twTo_prs ts _ (by omega)]
 have h := Lm.prs_take Lm.Tr.node ts (ts.length / 2)
 rw [<- h,List.take_of_length_le (by rw [Lm.prs_length]; exact Nat.le_refl _)]
def Prd (w : World) (C : Nat) (W : World) (v : Value) (pre : List (Tw w)) : Prop :=
 ∃ rs : List Nat,Boxed W C 206 v /\ W.ownsRow w.heap.size 209 1 v pre.length (vp rs) /\ rs.length = pre.length /\
  ∀ (i r : Nat) (x : Tw w),rs[i]? = some r -> pre[i]? = some x -> Pk W (.node x.1.2.1 x.1.2.2) r
theorem has_kept {A B : World} {row : Option Nat} (hg : A.grownBy B row) (hr : ∀ r,row = some r -> ∃ o : Obj,A.heap[r]? = some o /\ o.isCells = false) {b : Nat} {cs : Array Value} {t : TypeId} {f : Nat × Nat} (h : Has A b (.cells cs t f)) : Has B b (.cells cs t f) := by
 refine (hg.block b h.lt fun e => ?_).trans h
 obtain ⟨o,h1,h2⟩ := hr b e.symm
 have h' : A.heap[b]? = some (.cells cs t f) := h
 rw [h'] at h1
 cases h1
 cases h2
theorem own_kept {A B : World} {row : Option Nat} (hg : A.grownBy B row) (hr : ∀ r,row = some r -> ∃ o : Obj,A.heap[r]? = some o /\ o.isCells = false) {base : Nat} {e : TypeId} {size : Nat} {v : Value} {n : Nat} {xs : List Value} (h : A.ownsRow base e size v n xs) : B.ownsRow base e size v n xs := by
 obtain ⟨h1,h2⟩ := h
 refine ⟨h1,?_⟩
 rcases h2 with h | ⟨g,c,cur,h,hbg,hgc,r⟩
 ·exact Or.inl h
 ·exact Or.inr ⟨g,c,cur,h,hbg,has_kept hg hr hgc,r⟩
theorem prd_own (w : World) (C : Nat) : Go.Own (fun (pre : List (Tw w)) W => ∃ v,Prd w C W v pre) := by
 rintro pre A B row ⟨v,rs,h1,h2,h3,h4⟩ hg hr
 exact ⟨v,rs,has_kept hg hr h1,own_kept hg hr h2,h3,fun i r x e1 e2 => (h4 i r x e1 e2).keep fun _ _ h => has_kept hg hr h⟩
theorem Prd.more {w W : World} {C : Nat} {v : Value} {pre : List (Tw w)} (h : Prd w C W v pre) (hB : Below w.heap.size w W) (hC : w.heap.size <= C) (x : Tw w) (w1 : World) (r : Nat) (hpk : Pk w1 (.node x.1.2.1 x.1.2.2) r) (hb : Below W.heap.size W w1) (hl : pre.length <= 1000) :
  ∃ g' cap' w2,(Builtin.append_ #[206,206] 206 #[v,.slice (some ⟨w1.heap.size,0,none⟩) 1 1]).run Tryz.prog (w1.alloc (.cells #[.pointer (some ⟨r,0,none⟩)] 209)) = .ok (.slice (some ⟨g',0,none⟩) (pre.length + 1) cap') w2 /\
   w2.cell? ⟨C,0,none⟩ = some v /\ w2.frozen? ⟨C,0,none⟩ = false /\ Hid (KeepsOthers W (w2.setCell ⟨C,0,none⟩ (.slice (some ⟨g',0,none⟩) (pre.length + 1) cap')) /\ Below w.heap.size W (w2.setCell ⟨C,0,none⟩ (.slice (some ⟨g',0,none⟩) (pre.length + 1) cap')) /\
    Prd w C (w2.setCell ⟨C,0,none⟩ (.slice (some ⟨g',0,none⟩) (pre.length + 1) cap')) (.slice (some ⟨g',0,none⟩) (pre.length + 1) cap') (pre ++ [x]) /\
    ∀ b u,b ≠ C -> Boxed W b 206 u -> Boxed (w2.setCell ⟨C,0,none⟩ (.slice (some ⟨g',0,none⟩) (pre.length + 1) cap')) b 206 u) := by
 obtain ⟨rs,h1,h2,h3,h4⟩ := h
 have hsz := hB.size
 have hs1 := hb.size
 have k1 : Boxed w1 C 206 v := (hb.block C h1.lt).trans h1
 have k2 := own_stays h2 hb
 have hc := (Has.new w1 (.cells #[.pointer (some ⟨r,0,none⟩)] 209)).one.1
 obtain ⟨v',w2,hrun,ho,hg⟩ := run_app1 206 209 (.pointer none) Tryz.underlying206 Tryz.infoPack rfl 206 (k2.alloc (.cells #[.pointer (some ⟨r,0,none⟩)] 209)) w1.heap.size _ rfl hc (by omega) (by simp; omega)
 obtain ⟨g',cap',rfl⟩ := ownsRow_succ ho
 obtain ⟨a1,a2,a3,a4,a5⟩ := k1.appended (by decide) k2 (by omega) hC ho hg
 have hko : KeepsOthers W w1 := ⟨hs1,fun k o hk _ => (hb.block k (Array.getElem?_eq_some_iff.1 hk).1).trans hk⟩
 refine ⟨g',cap',w2,hrun,a1.cell,a1.frozen,hko.trans a4,(hb.mono hsz).trans a5,⟨rs ++ [r],a2,?_,?_,?_⟩,?_⟩
 ·rw [vp_snoc,List.length_append]; exact a3
 ·rw [List.length_append,List.length_append,h3]; rfl
 ·have step : ∀ {t : Lm.Tr} {b : Nat},Pk w1 t b -> Pk (w2.setCell ⟨C,0,none⟩ (.slice (some ⟨g',0,none⟩) (pre.length + 1) cap')) t b := by
   intro t b hp
   have q1 := Pk.grown (k2.alloc (.cells #[.pointer (some ⟨r,0,none⟩)] 209)) hg (hp.later (below1 w1 _))
   exact q1.keep fun _ _ hh => Has.set hh (hh.apart (show Has w2 C _ from a1) (by decide)) _
  intro i b y hi hy
  by_cases hlt : i < rs.length
  ·rw [List.getElem?_append_left hlt] at hi
   rw [List.getElem?_append_left (by omega)] at hy
   exact step ((h4 i b y hi hy).later hb)
  ·have e : i = rs.length := by
    have := (List.getElem?_eq_some_iff.1 hi).1
    rw [List.length_append,List.length_singleton] at this; omega
   subst e
   rw [List.getElem?_append_right (Nat.le_refl _),Nat.sub_self] at hi
   rw [h3,List.getElem?_append_right (Nat.le_refl _),Nat.sub_self] at hy
   simp only [List.getElem?_cons_zero,Option.some.injEq] at hi hy
   subst hi hy
   exact step hpk
 ·intro b u hne hbu
  have q0 : Has w1 b (.cells #[u] 206 (0,0)) := (hb.block b hbu.lt).trans hbu
  have q1 : Has w2 b (.cells #[u] 206 (0,0)) := (hg.block b (by have := q0.lt; simp; omega) (own_ne_type k2 q0 (by decide)).symm).trans (q0.alloc _)
  exact Has.set q1 hne _
theorem Prd.done {w W : World} {C : Nat} {v : Value} {ts : List Lm.Tr} {ys : List (Tw w)} (h : Prd w C W v ys) (hT : TellsTw ts (ts.length / 2) ys) (hl : ts.length <= 1024) : Pl W v (Lm.prs .node ts) := by
 obtain ⟨rs,h1,h2,h3,h4⟩ := h
 have hn := tellsTw_length hT
 have hlen : (Lm.prs Lm.Tr.node ts).length = ys.length := by rw [Lm.prs_length,hn]
 have he : Lm.prs Lm.Tr.node ts = ys.map (fun x => Lm.Tr.node x.1.2.1 x.1.2.2) := by
  rw [<- twTo_all,<- hT,List.map_map]; rfl
 rcases h2.2 with ⟨rfl,h0⟩ | ⟨g,cap,cur,rfl,_,hg,hle,_⟩
 ·rw [List.eq_nil_of_length_eq_zero (by omega : (Lm.prs Lm.Tr.node ts).length = 0)]; exact Pl.nil _
 ·refine ⟨_,_,_,rfl,hlen.symm,hle,by omega,fun h => by simp at h,fun _ => ⟨g,0,rfl,lt_of_block hg,fun i t hi => ?_⟩⟩
  rw [he,List.getElem?_map] at hi
  have hil : i < ys.length := by
   by_cases hh : i < ys.length
   ·exact hh
   ·rw [List.getElem?_eq_none (by omega)] at hi; cases hi
  rw [List.getElem?_eq_getElem hil] at hi
  simp only [Option.map_some,Option.some.injEq] at hi
  subst hi
  have er : rs[i]? = some (rs[i]'(by omega)) := List.getElem?_eq_getElem _
  refine ⟨rs[i]'(by omega),?_,h4 i _ _ er (List.getElem?_eq_getElem hil)⟩
  rw [Nat.zero_add,h2.cellAt i (by omega)]
  simp [vp,er]
theorem paired_in (n : Nat) (hn : 3 <= n) (sv : Value) (ts : List Lm.Tr) (w : World) (hP : Pl w sv ts) (hpos : 0 < ts.length) (hwt : ∀ (i : Nat) (t : Lm.Tr),ts[i]? = some t -> t.wt <= 281474976710656) :
  CallsIn Fence.wide n Tryz.prog 191 #[sv] w fun e W' => ∃ v,e = .returned v /\ Pl W' v (Lm.prs .node ts) /\ Below w.heap.size w W' := by
 have h1 : 1 <= n := by omega
 have HP := LH hP
 obtain ⟨a,cap,rfl,hcap,h1024⟩ := hP.shape
 have HW := LH hwt
 obtain ⟨len,hlen⟩ : ∃ len,len = ts.length := ⟨_,rfl⟩
 rw [<- hlen] at hcap h1024 HP hpos ⊢
 have HL := LH hlen
 clear hP hwt hlen
 refine callsIn_of_wp_marks Tryz.func191 rfl trivial ?_ rfl
 simp only [Tryz.ntmps191,List.size_toArray,List.length_cons,List.length_nil,Nat.reduceAdd,Nat.reduceSub,Array.replicate_succ,Array.replicate_zero,List.push_toArray,List.append_toArray,List.nil_append,List.cons_append]
 gi_wp2_with (refine ⟨trivial,?_⟩; gi_at_call 205; refine (twos_in (n - 1) _ _ _ _ rfl _).mono ?_; rintro e w' ⟨rfl,rfl⟩)
 obtain ⟨w1,hw1⟩ : ∃ w1,w1 = (w.alloc (.cells #[.slice none 0 0] 206)).alloc (.cells #[.slice a len cap] 206) := ⟨_,rfl⟩
 have hz1 : w1.heap.size = w.heap.size + 2 := by rw [hw1]; simp
 have bC : Boxed w1 w.heap.size 206 (.slice none 0 0) := by rw [hw1]; exact (Boxed.new w 206 _).alloc _
 have bN : Boxed w1 (w.heap.size + 1) 206 (.slice a len cap) := by
  have := Boxed.new (w.alloc (.cells #[.slice none 0 0] 206)) 206 (.slice a len cap)
  rw [World.size_alloc] at this
  rw [hw1]; exact this
 have hB1 : Below w.heap.size w w1 := by rw [hw1]; exact ((Below.refl _ w).alloc (Nat.le_refl _) _).alloc (by simp) _
 rw [<- hw1]
 clear hw1
 refine wpIn_rangeFunc_ownG rfl h1 (gf := 223) (lb := #[.pointer (some ⟨w.heap.size + 1,0,none⟩)]) rfl trivial (enters_of Tryz.func223 (by kernel_rfl) rfl)
  (twos_stops (n - 1) (by omega) (w.heap.size + 1) w w1 _ ts (by rw [<- HL.out]; exact hpos) HP.out (fun i t h => HW.out i t h) hB1 bN) keepB_t (keepB_b (by omega)) (Below.refl _ _) (fun _ => rfl)
  (fun pre W => ((∃ v,Prd w w.heap.size W v pre) /\ Boxed W (w.heap.size + 1) 206 (.slice a len cap)) /\ Below w.heap.size w W)
  (fun _ _ _ => False)
  (OwnFrom.and (Go.Own.from (fun s A B row hs hg hr => ⟨prd_own w w.heap.size s A B row hs.1 hg hr,has_kept hg hr hs.2⟩) _) (ownFrom_below (by omega) (by omega)))
  (fun _ _ _ _ _ hs _ _ => hs)
  ⟨⟨⟨_,[],bC,World.ownsRow_nil _ _ _ _,rfl,fun i r x h => by simp at h⟩,bN⟩,hB1⟩
  (fun x => { tmps := #[.slice a len cap,undef,.slice none 0 0,.pointer (some ⟨w.heap.size,0,none⟩),.pointer (some ⟨x.1.1.1,0,none⟩),.pointer (some ⟨x.1.1.2,0,none⟩),.slice a len cap,.func (.func 223) #[] #[.pointer (some ⟨w.heap.size + 1,0,none⟩)],.pointer (some ⟨x.1.1.1,0,none⟩),.pointer (some ⟨x.1.1.2,0,none⟩),undef,undef,undef,undef,undef,undef,undef],defers := [] }) ?assign ?body ?done ?stop
 case assign =>
  intro l x W K hK
  gi_wp2
  exact hK
 case body =>
  rintro l pre x W ⟨⟨⟨v,hv⟩,hbx⟩,hB⟩ hlt
  have hx := x.2
  have hBd : Below w.heap.size w W.drew := hB.drew
  have hCW := hB.size
  obtain ⟨a3,cap3,rfl⟩ : ∃ a cap,v = .slice a pre.length cap := by obtain ⟨_,_,h,_⟩ := hv; exact own_slice h
  have hvd : Prd w w.heap.size W.drew (.slice a3 pre.length cap3) pre := by
   obtain ⟨rs,g1,g2,g3,g4⟩ := hv
   exact ⟨rs,g1,g2,g3,fun i r y e1 e2 => (g4 i r y e1 e2).later ((Below.refl _ W).drew)⟩
  have hbC : Boxed W w.heap.size 206 (.slice a3 pre.length cap3) := by obtain ⟨_,h,_⟩ := hv; exact h
  have hc := hbC.cell
  have hf := hbC.frozen
  have hcl := hbC.lt
  have hwith := with_any x.1.1.1 x.1.1.2 x.1.2.1 x.1.2.2 W.drew (hx.1.later hBd) (hx.2.1.later hBd) hx.2.2
  have hpl : pre.length <= 1000 := by have := HL.out; omega
  have HM := LH (fun (w1 : World) (r : Nat) (hpk : Pk w1 (.node x.1.2.1 x.1.2.2) r) (hb : Below W.drew.heap.size W.drew w1) => hvd.more hBd (Nat.le_refl _) x w1 r hpk hb hpl)
  have HBX := LH hbx
  obtain ⟨p,hp⟩ : ∃ p,p = x.1.1.1 := ⟨_,rfl⟩
  obtain ⟨q,hq⟩ : ∃ q,q = x.1.1.2 := ⟨_,rfl⟩
  obtain ⟨np,hnp⟩ : ∃ np,np = pre.length := ⟨_,rfl⟩
  rw [<- hp,<- hq] at hwith ⊢
  rw [<- hnp] at hc HM
  have hmx : Tryz.prog.follows .mixedOrders = true := by kernel_rfl
  have hd1 : 1 <= n - 1 - 1 := by omega
  have HB := LH hB
  have HX := LH hx
  clear hx hv hvd hbC hbx hp hq hnp hpl hBd hB
  gi_wp2
  refine wpIn_region_any hmx ?_
  change wpAnyIn _ _ _ _ _ _ _ _ _ (World.drew _)
  refine wpAny_round l (by kernel_rfl) _ _ _ _ ?_
  refine wpAnyIn_take (i := 1) (v := ?_) rfl rfl (by kernel_rfl) (by kernel_rfl) (by kernel_rfl) (fun _ _ _ h => h) ⟨Or.inl ⟨by rfl,?hy1_1⟩,fun _ => rfl⟩ ?_
  case hy1_1 => intro w; go_simp; first | done | rfl
  refine wpAnyIn_take (i := 2) (v := ?_) rfl rfl (by kernel_rfl) (by kernel_rfl) (by kernel_rfl) (fun _ _ _ h => h) ⟨Or.inl ⟨by rfl,?hy1_2⟩,fun _ => rfl⟩ ?_
  case hy1_2 => intro w; go_simp; first | done | rfl
  refine wpAnyIn_ready (rs := [0,3]) (by kernel_rfl) (by simp) ?_
  refine AllReadyIn.cons rfl (fun K hK => ?_) (AllReadyIn.cons rfl (fun K hK => ?_) AllReadyIn.nil)
  ·go_simp
   refine hK _ _ ?_
   clear hK K
   refine wpAnyIn_ready (rs := [3]) (by kernel_rfl) (by simp) ?_
   refine AllReadyIn.cons rfl (fun K hK => ?_) AllReadyIn.nil
   go_simp
   refine ⟨trivial,?_⟩; refine (callsIn_wide.2 hwith).mono ?_; rintro e w1 ⟨r,rfl,hpk,hb⟩; obtain ⟨g',cap',w2,hrun,hc2,hf2,hfin⟩ := HM.out w1 r hpk hb; have hc1 : w1.cell? ⟨w.heap.size,0,none⟩ = some (.slice a3 np cap3) := (hb.cell (p := ⟨w.heap.size,0,none⟩) hcl).trans hc
   have hc1b : (w1.alloc (.cells #[.pointer (some ⟨r,0,none⟩)] 209)).cell? ⟨w.heap.size,0,none⟩ = some (.slice a3 np cap3) := ((below1 w1 _).cell (p := ⟨w.heap.size,0,none⟩) (by have := hb.size; exact Nat.lt_of_lt_of_le hcl this)).trans hc1
   dsimp only
   refine hK _ _ ?_
   clear hK K
   refine wpAnyIn_ready (rs := [4]) (by kernel_rfl) (by simp) ?_
   refine AllReadyIn.cons rfl (fun K hK => ?_) AllReadyIn.nil
   go_simp
   refine hK _ _ ?_
   clear hK K
   refine wpAnyIn_ready (rs := [5]) (by kernel_rfl) (by simp) ?_
   refine AllReadyIn.cons rfl (fun K hK => ?_) AllReadyIn.nil
   refine step_append_in rfl (.tmp 10) (.tmp 14) 206 rfl _ _ _ w2 rfl rfl hrun ?_
   refine hK _ _ ?_
   clear hK K
   refine wpAnyIn_ready (rs := [6]) (by kernel_rfl) (by simp) ?_
   refine AllReadyIn.cons rfl (fun K hK => ?_) AllReadyIn.nil
   go_simp
   refine hK _ _ ?_
   clear hK K
   refine wpAnyIn_done (by kernel_rfl) ?_ _
   exact ⟨((KeepsOthers.drew W).trans hfin.out.1).from _,⟨below_of_drew hfin.out.2.1,fun u hu => hfin.out.2.2.2 _ u (by omega) hu⟩,⟨⟨_,hfin.out.2.2.1⟩,hfin.out.2.2.2 _ _ (by omega) HBX.out⟩,HB.out.trans (below_of_drew hfin.out.2.1)⟩
  ·go_simp
   refine ⟨trivial,?_⟩; refine (callsIn_wide.2 hwith).mono ?_; rintro e w1 ⟨r,rfl,hpk,hb⟩; obtain ⟨g',cap',w2,hrun,hc2,hf2,hfin⟩ := HM.out w1 r hpk hb; have hc1 : w1.cell? ⟨w.heap.size,0,none⟩ = some (.slice a3 np cap3) := (hb.cell (p := ⟨w.heap.size,0,none⟩) hcl).trans hc
   have hc1b : (w1.alloc (.cells #[.pointer (some ⟨r,0,none⟩)] 209)).cell? ⟨w.heap.size,0,none⟩ = some (.slice a3 np cap3) := ((below1 w1 _).cell (p := ⟨w.heap.size,0,none⟩) (by have := hb.size; exact Nat.lt_of_lt_of_le hcl this)).trans hc1
   dsimp only
   refine hK _ _ ?_
   clear hK K
   refine wpAnyIn_ready (rs := [0,4]) (by kernel_rfl) (by simp) ?_
   refine AllReadyIn.cons rfl (fun K hK => ?_) (AllReadyIn.cons rfl (fun K hK => ?_) AllReadyIn.nil)
   ·go_simp
    refine hK _ _ ?_
    clear hK K
    refine wpAnyIn_ready (rs := [4]) (by kernel_rfl) (by simp) ?_
    refine AllReadyIn.cons rfl (fun K hK => ?_) AllReadyIn.nil
    go_simp
    refine hK _ _ ?_
    clear hK K
    refine wpAnyIn_ready (rs := [5]) (by kernel_rfl) (by simp) ?_
    refine AllReadyIn.cons rfl (fun K hK => ?_) AllReadyIn.nil
    refine step_append_in rfl (.tmp 10) (.tmp 14) 206 rfl _ _ _ w2 rfl rfl hrun ?_
    refine hK _ _ ?_
    clear hK K
    refine wpAnyIn_ready (rs := [6]) (by kernel_rfl) (by simp) ?_
    refine AllReadyIn.cons rfl (fun K hK => ?_) AllReadyIn.nil
    go_simp
    refine hK _ _ ?_
    clear hK K
    refine wpAnyIn_done (by kernel_rfl) ?_ _
    exact ⟨((KeepsOthers.drew W).trans hfin.out.1).from _,⟨below_of_drew hfin.out.2.1,fun u hu => hfin.out.2.2.2 _ u (by omega) hu⟩,⟨⟨_,hfin.out.2.2.1⟩,hfin.out.2.2.2 _ _ (by omega) HBX.out⟩,HB.out.trans (below_of_drew hfin.out.2.1)⟩
   ·go_simp
    refine hK _ _ ?_
    clear hK K
    refine wpAnyIn_ready (rs := [0]) (by kernel_rfl) (by simp) ?_
    refine AllReadyIn.cons rfl (fun K hK => ?_) AllReadyIn.nil
    go_simp
    refine hK _ _ ?_
    clear hK K
    refine wpAnyIn_ready (rs := [5]) (by kernel_rfl) (by simp) ?_
    refine AllReadyIn.cons rfl (fun K hK => ?_) AllReadyIn.nil
    refine step_append_in rfl (.tmp 10) (.tmp 14) 206 rfl _ _ _ w2 rfl rfl hrun ?_
    refine hK _ _ ?_
    clear hK K
    refine wpAnyIn_ready (rs := [6]) (by kernel_rfl) (by simp) ?_
    refine AllReadyIn.cons rfl (fun K hK => ?_) AllReadyIn.nil
    go_simp
    refine hK _ _ ?_
    clear hK K
    refine wpAnyIn_done (by kernel_rfl) ?_ _
    exact ⟨((KeepsOthers.drew W).trans hfin.out.1).from _,⟨below_of_drew hfin.out.2.1,fun u hu => hfin.out.2.2.2 _ u (by omega) hu⟩,⟨⟨_,hfin.out.2.2.1⟩,hfin.out.2.2.2 _ _ (by omega) HBX.out⟩,HB.out.trans (below_of_drew hfin.out.2.1)⟩
 case done =>
  rintro D ys W hD hT ⟨⟨⟨v,hv⟩,hbx⟩,hB⟩ hK
  have hc : W.cell? ⟨w.heap.size,0,none⟩ = some v := by obtain ⟨_,h,_⟩ := hv; exact h.cell
  obtain ⟨a3,cap3,rfl⟩ : ∃ a cap,v = .slice a ys.length cap := by obtain ⟨_,_,h,_⟩ := hv; exact own_slice h
  have hDW := (Array.getElem?_eq_some_iff.1 hK).1
  have hgr := grownBy_putObj' W D (.deferred none)
  have hrr : ∀ r,some D = some r -> ∃ o : Obj,W.heap[r]? = some o /\ o.isCells = false := fun r e => by cases e; exact ⟨_,hK,rfl⟩
  have hfin : Pl (W.putObj D (.deferred none)) (.slice a3 ys.length cap3) (Lm.prs .node ts) := by
   obtain ⟨rs,g1,g2,g3,g4⟩ := hv
   exact Prd.done (C := w.heap.size) ⟨rs,has_kept hgr hrr g1,own_kept hgr hrr g2,g3,fun i r x e1 e2 => (g4 i r x e1 e2).keep fun _ _ h => has_kept hgr hrr h⟩ hT (by rw [<- HL.out]; omega)
  have HFIN := LH hfin
  obtain ⟨ny,hny⟩ : ∃ ny,ny = ys.length := ⟨_,rfl⟩
  rw [<- hny] at hc HFIN
  clear hfin hv hny
  gi_wp2
  refine ⟨by simp,.inl ⟨_,_,rfl,run_takeDeferred hK,?_⟩⟩
  refine ⟨_,results_tmp rfl _ _ _,.slice a3 ny cap3,rfl,HFIN.out,?_⟩
  exact hB.trans ((Below.refl w.heap.size W).grown hgr (by omega) (fun k e => by cases e; omega))
 case stop =>
  rintro D c pre W _ _ h _
  exact h.elim
theorem paired_any (sv : Value) (ts : List Lm.Tr) (w : World) (hP : Pl w sv ts) (hpos : 0 < ts.length) (hwt : ∀ (i : Nat) (t : Lm.Tr),ts[i]? = some t -> t.wt <= 281474976710656) :
  Calls Tryz.prog 191 #[sv] w fun e W' => ∃ v,e = .returned v /\ Pl W' v (Lm.prs .node ts) /\ Below w.heap.size w W' :=
 callsIn_wide.1 (paired_in 3 (Nat.le_refl _) sv ts w hP hpos hwt)
end
end Go.Proofs.YtmgpcbjciioiaaaGreatDoor.Ls
