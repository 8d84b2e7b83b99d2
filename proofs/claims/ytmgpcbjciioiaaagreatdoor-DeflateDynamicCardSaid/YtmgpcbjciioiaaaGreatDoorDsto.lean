import Derived.Test.YtmgpcbjciioiaaaGreatDoorDtis
import Derived.Test.YtmgpcbjciioiaaaGreatDoorDcat
import Derived.Test.YtmgpcbjciioiaaaGreatDoorMown
import Derived.Test.YtmgpcbjciioiaaaGreatDoorMref
import Derived.Test.YtmgpcbjciioiaaaGreatDoorIstr
import Derived.Test.YtmgpcbjciioiaaaGreatDoorLsing
import Derived.Test.YtmgpcbjciioiaaaGreatDoorIstow
namespace Go.Proofs.YtmgpcbjciioiaaaGreatDoor
set_option maxRecDepth 100000
set_option maxHeartbeats 8000000
section
open Go.RowKit Go.Shelf
attribute [local go_sem] Oper.semAt_some
theorem runs_is (a : Option Addr) (n c : Nat) (w : World) : Calls Tryz.prog 117 #[.slice a n c] w fun e w' => e = .returned (.func (.func 157) #[] #[.pointer (some ⟨w.heap.size,0,none⟩)]) /\ w' = w.alloc (.cells #[.slice a n c] 57) := by
 have hmf : ∀ (fn : Fn) (first cap : Array Value) (w : World),(Instr.makeFunc fn first cap).run Tryz.prog w = .ok (.func fn first cap) w := fun _ _ _ _ => rfl
 go_enter Tryz.func117,Tryz.ntmps117
 go_wp2
 go_ret
 exact ⟨rfl,rfl⟩
def WrL (b : Nat) (W : World) (R : Nat) (l : List Bool) : Prop := ∃ a m c,Has W R (.cells #[.slice a m c,.int .i64 (l.length : Int)] 116) /\ Sl W (.slice a m c) (Bs.pack l) /\ ∀ g off sp,a = some ⟨g,off,sp⟩ -> g < b ∨ b + 2 <= g
theorem WrL.wr {b : Nat} {W : World} {R : Nat} {l : List Bool} (h : WrL b W R l) : Wr W R l := by
 obtain ⟨a,m,c,h1,h2,_⟩ := h
 exact ⟨a,m,c,h1,h2⟩
theorem sl_block {w w' : World} {a : Option Addr} {n cap : Nat} {bs : List Nat} (h : Sl w (.slice a n cap) bs) (hs : ∀ g off,a = some ⟨g,off,none⟩ -> g < w.heap.size -> w'.heap[g]? = w.heap[g]?) : Sl w' (.slice a n cap) bs := by
 obtain ⟨a',len,c,e,h1,h2,h3,h4,h5⟩ := h
 injection e with e1 e2 e3
 subst e1 e2 e3
 refine ⟨_,_,_,rfl,h1,h2,h3,h4,fun h0 => ?_⟩
 obtain ⟨b,off,e,hl,hc⟩ := h5 h0
 have he := hs b off e hl
 exact ⟨b,off,e,(Array.getElem?_eq_some_iff.1 (he.trans (Array.getElem?_eq_getElem hl))).1,fun i hi => (World.cell?_of_block (a := ⟨b,off + i,none⟩) he).trans (hc i hi)⟩
theorem WrL.lo {b : Nat} {A B : World} {R : Nat} {l : List Bool} (h : WrL b A R l) (hl : Lo b 2 A B) (hR : R < b) : WrL b B R l := by
 obtain ⟨a,m,c,h1,h2,h3⟩ := h
 exact ⟨a,m,c,hl.has h1 (Or.inl hR),sl_block h2 fun g off e hg => hl.block g hg (h3 g off none e),h3⟩
theorem Wr.toL {b : Nat} {W : World} {R : Nat} {l : List Bool} (h : Wr W R l) (h0 : 0 < l.length) (hb : W.heap.size <= b) : WrL b W R l := by
 obtain ⟨a,m,c,h1,h2⟩ := h
 refine ⟨a,m,c,h1,h2,fun g off sp e => ?_⟩
 have hm := h2.len.1
 rw [Bs.pack_length] at hm
 obtain ⟨a',len,c',e',-,-,-,-,h5⟩ := h2
 injection e' with e1 e2 e3
 subst e1 e2 e3
 obtain ⟨b',off',e2,hl,-⟩ := h5 (by omega)
 rw [e] at e2
 injection e2 with e2
 injection e2 with e3 _ _
 omega
theorem WrN.toL {b B : Nat} {W : World} {R : Nat} {l : List Bool} (h : WrN B W R l) (hb : b + 2 <= B) : WrL b W R l := by
 obtain ⟨g,m,c,h1,h2,h3⟩ := h
 refine ⟨_,m,c,h1,h2,fun g' off sp e => ?_⟩
 injection e with e
 injection e with e _ _
 omega
theorem Wr.put {W : World} {R k : Nat} {l : List Bool} (h : Wr W R l) (hR : R ≠ k) (o : Obj) (hno : ∀ cs t fr,W.heap[k]? ≠ some (.cells cs t fr)) (h0 : 0 < l.length) : Wr (W.putObj k o) R l := by
 obtain ⟨a,m,c,h1,h2⟩ := h
 refine ⟨a,m,c,(World.putObj_heap_other hR).trans h1,sl_block h2 fun g off e hg => World.putObj_heap_other fun e2 => ?_⟩
 subst e2
 have hm := h2.len.1
 rw [Bs.pack_length] at hm
 obtain ⟨a',len,c',e',-,-,-,-,h5⟩ := h2
 injection e' with e1 e2 e3
 subst e1 e2 e3
 obtain ⟨b',off',e2,hl,hc⟩ := h5 (by omega)
 rw [e] at e2
 injection e2 with e2
 injection e2 with e3 e4 _
 subst e3
 have := hc 0 (by omega)
 unfold World.cell? at this
 cases hh : W.heap[g]? with
 | none => simp [hh] at this
 | some ob =>
  cases ob with
  | cells cs t fr => exact hno cs t fr hh
  | _ => simp [hh] at this
theorem only_put {R k : Nat} {w W : World} (h : Only R w W) (hk : w.heap.size <= k) (o : Obj) : Only R w (W.putObj k o) := ⟨h.os,h.tape,h.output,by simpa using h.size,fun i hi hn => (World.putObj_heap_other (by omega)).trans (h.block i hi hn)⟩
theorem Only.trans9 {R b : Nat} {w A B : World} (h : Only R w A) (hl : Lo b 2 A B) (hb : w.heap.size <= b) : Only R w B := ⟨hl.os.trans h.os,hl.tape.trans h.tape,hl.output.trans h.output,Nat.le_trans h.size hl.size,fun k hk hn => (hl.block k (Nat.lt_of_lt_of_le hk h.size) (Or.inl (by omega))).trans (h.block k hk hn)⟩
theorem opsRow_le (C : List Nat) (h7 : ∀ i,Hf.ln C i <= 7) : ∀ ops : List (Nat × Nat),(If.opsRow C ops).length <= 14 * ops.length
 | [] => Nat.zero_le _
 | o :: ops => by
  have ih := opsRow_le C h7 ops
  have h1 := h7 o.1
  have h2 := Hd.ex_le o.1
  rw [If.opsRow_cons,List.length_append]
  unfold If.opRow
  rw [List.length_append,cw_len,Bs.bitsOf_length,List.length_cons]
  omega
theorem made19 : madeCells #[Value.int .i64 0] 19 = (vn (List.replicate 19 0)).toArray := by
 apply Array.toList_inj.1
 rw [toList_madeCells_one]
 simp [vn]
theorem own_nat {w : World} {base : Nat} {v : Value} {ls : List Nat} (h : Own base w v ls) (h0 : 0 < ls.length) : ∃ g c,v = .slice (some ⟨g,0,none⟩) ls.length c /\ ls.length <= c /\ base <= g /\ Nat9 w g 0 ls := by
 obtain ⟨g,c,rfl,hb,hg,hc⟩ := own_ints h h0
 refine ⟨g,c,rfl,?_,hb,hg,fun j hj => by rw [Nat.zero_add]; exact hc j hj⟩
 rcases h.2 with ⟨e,_⟩ | ⟨g',cap',cur,e,h1,h2,h3,h4,_⟩
 ·injection e with e1 e2 e3; cases e1
 ·injection e with e1 e2 e3
  omega
theorem wheader_ok (R : Nat) (L D : List Nat) (bL oL kL bD oD kD : Nat) (w : World) (h : Wr w R []) (hgl : Glob w) (hgR : 1 ≠ R)
  (hL : Nat9 w bL oL L) (hD : Nat9 w bD oD D) (hL1 : 257 <= L.length) (hL2 : L.length <= 286) (hD1 : 1 <= D.length) (hD2 : D.length <= 30) (h15 : ∀ x ∈ L ++ D,x <= 15) :
  Calls Tryz.prog 79 #[.pointer (some ⟨R,0,none⟩),.slice (some ⟨bL,oL,none⟩) L.length kL,.slice (some ⟨bD,oD,none⟩) D.length kD] w fun e w' => e = .returned (.tuple #[]) /\ ∃ C c,If.HV L D C c (rnL (L ++ D)) /\ Wr w' R (If.headRow L D C c (rnL (L ++ D))) /\ Only R w w' := by
 have hmk : ∀ w,(Instr.makeSlice 57 (.int .i64 19) (.int .i64 19)).run Tryz.prog w = .ok (.slice (some ⟨w.heap.size,0,none⟩) 19 19) (w.alloc (.cells (madeCells #[.int .i64 0] 19) 3)) :=
  fun w => run_make_row' (P := Tryz.prog) 57 3 (.int .i64 0) 8 Tryz.underlying57 Tryz.infoInt rfl .i64 .i64 19 (by omega) (by omega) w
 obtain ⟨ls,hls⟩ : ∃ x,x = L ++ D := ⟨_,rfl⟩
 have hlen : ls.length = L.length + D.length := by rw [hls,List.length_append]
 obtain ⟨nl,hnl⟩ : ∃ x,x = L.length := ⟨_,rfl⟩
 obtain ⟨nd,hnd⟩ : ∃ x,x = D.length := ⟨_,rfl⟩
 obtain ⟨W1,hW1⟩ : ∃ W,W = (w.alloc (.cells #[.pointer (some ⟨R,0,none⟩)] 160)).alloc (.cells #[.slice (some ⟨bL,oL,none⟩) nl kL,.slice (some ⟨bD,oD,none⟩) nd kD] 57) := ⟨_,rfl⟩
 have hb1 : Below w.heap.size w W1 := by rw [hW1]; exact (below1 w _).trans ((below1 _ _).mono (by simp))
 have hs1 : W1.heap.size = w.heap.size + 2 := by rw [hW1]; simp
 have hC1 : Has W1 (w.heap.size + 1) (.cells #[.slice (some ⟨bL,oL,none⟩) nl kL,.slice (some ⟨bD,oD,none⟩) nd kD] 57 (0,0)) := by
  rw [hW1]
  have := Has.new (w.alloc (.cells #[.pointer (some ⟨R,0,none⟩)] 160)) (.cells #[.slice (some ⟨bL,oL,none⟩) nl kL,.slice (some ⟨bD,oD,none⟩) nd kD] 57)
  rwa [show (w.alloc (.cells #[.pointer (some ⟨R,0,none⟩)] 160)).heap.size = w.heap.size + 1 by simp] at this
 have hX1 : Has W1 w.heap.size (.cells #[.pointer (some ⟨R,0,none⟩)] 160 (0,0)) := by
  rw [hW1]
  exact (Has.new w _).later (below1 _ _)
 have CC := LH (concat2 (w.heap.size + 1) bL oL nl kL bD oD nd kD L D W1 hC1 (hL.later hb1) (hD.later hb1) hnl hnd (by omega) (by omega) (by omega) (by omega))
 rw [<- hls] at CC
 rw [<- hnl,<- hnd]
 have V1 := LH hW1
 have HB1 := LH hb1
 have HX1 := LH hX1
 have HS1 := LH hs1
 have HW := LH h
 have HG := LH hgl
 have HLS := LH (And.intro hls hlen)
 have HH15 : Hid (∀ x ∈ ls,x <= 15) := by show ∀ x ∈ ls,x <= 15; rw [hls]; exact h15
 have HNL := LH (And.intro hnl hnd)
 have HNN := LH (show 257 <= nl /\ nl <= 286 /\ 1 <= nd /\ nd <= 30 by omega)
 clear h hgl hL hD hL1 hL2 hD1 hD2 h15 hls hlen hnl hnd hW1 hb1 hs1 hC1 hX1
 refine callsIn_wide (n := 9).1 ?_
 refine callsIn_of_wp_marks Tryz.func79 rfl trivial ?_ rfl
 simp only [Tryz.ntmps79,List.size_toArray,List.length_cons,List.length_nil,Nat.reduceAdd,Nat.reduceSub,Array.replicate_succ,Array.replicate_zero,List.push_toArray,List.append_toArray,List.nil_append,List.cons_append]
 gi_wp2_with fail
 rw [<- V1.out]
 refine ⟨trivial,(callsIn_wide.2 CC.out).mono ?_⟩
 clear CC V1
 rintro e w2 ⟨v2,rfl,hown,hb2⟩
 obtain ⟨g,cg,rfl,hcg,hgb,hgn⟩ := own_nat hown (by rw [HLS.out.2]; have := HNN.out; have := HNL.out; omega)
 have HB2 := LH (HB1.out.trans (hb2.mono HB1.out.size))
 have HX2 := LH (HX1.out.later hb2)
 have HGN := LH hgn
 have HCG := LH (And.intro hcg hgb)
 clear hown hb2 hcg hgb hgn
 have F5 := Has.new w2 (nums (Dp.rfq ls 0))
 obtain ⟨w5,hw5⟩ : ∃ W,W = ((w2.alloc (.cells (madeCells #[.int .i64 0] 19) 3)).alloc (.cells #[.slice (some ⟨w2.heap.size,0,none⟩) 19 19] 57)).alloc (.cells #[.slice (some ⟨g,0,none⟩) ls.length cg] 57) := ⟨_,rfl⟩
 obtain ⟨Q1,hQ1⟩ : ∃ W,W = w2.alloc (.cells (madeCells #[.int .i64 0] 19) 3) := ⟨_,rfl⟩
 obtain ⟨Q2,hQ2⟩ : ∃ W,W = Q1.alloc (.cells #[.slice (some ⟨w2.heap.size,0,none⟩) 19 19] 57) := ⟨_,rfl⟩
 have z1 : Q1.heap.size = w2.heap.size + 1 := by rw [hQ1]; simp
 have z2 : Q2.heap.size = w2.heap.size + 2 := by rw [hQ2]; simp [z1]
 have F1 : Has Q1 w2.heap.size (nums (Dp.rfq ls 0)) := by rw [hQ1,Dp.rfq_zero,made19]; exact Has.new w2 _
 have T1 : Has Q2 (w2.heap.size + 1) (.cells #[.slice (some ⟨w2.heap.size,0,none⟩) 19 19] 57) := by rw [hQ2,<- z1]; exact Has.new Q1 _
 have hw5' : w5 = Q2.alloc (.cells #[.slice (some ⟨g,0,none⟩) ls.length cg] 57) := by rw [hw5,hQ2,hQ1]
 have hz5 : w5.heap.size = w2.heap.size + 3 := by rw [hw5']; simp [z2]
 have i1 : Has w5 w2.heap.size (nums (Dp.rfq ls 0)) := by rw [hw5',hQ2]; exact (F1.later (below1 _ _)).later (below1 _ _)
 have i2 : Has w5 (w2.heap.size + 1) (.cells #[.slice (some ⟨w2.heap.size,0,none⟩) 19 19] 57) := by rw [hw5']; exact T1.later (below1 _ _)
 have i3 : Has w5 (w2.heap.size + 2) (.cells #[.slice (some ⟨g,0,none⟩) ls.length cg] 57) := by rw [hw5',<- z2]; exact Has.new Q2 _
 have b5 : Below w2.heap.size w2 w5 := by rw [hw5',hQ2,hQ1]; exact (below1 w2 _).trans (((below1 _ _).mono (by simp)).trans ((below1 _ _).mono (by simp; omega)))
 have hgl2 : g < w2.heap.size := HGN.out.1
 have I0 : Hid (Has w5 w2.heap.size (nums (Dp.rfq ls 0)) /\ Has w5 (w2.heap.size + 1) (.cells #[.slice (some ⟨w2.heap.size,0,none⟩) 19 19] 57) /\ RnK (w2.heap.size + 2) g 0 cg ls w5 /\ Below w2.heap.size w2 w5) := ⟨i1,i2,⟨i3,Nat.lt_of_lt_of_le hgl2 b5.size,fun j hj => (b5.cell (p := ⟨g,0 + j,none⟩) hgl2).trans (HGN.out.2 j hj)⟩,b5⟩
 have V5 := LH hw5
 have HZ5 := LH hz5
 clear hw5 hQ1 hQ2 z1 z2 F1 T1 hw5' hz5 i1 i2 i3 b5 F5
 gi_wp2_with fail
 refine ⟨trivial,(callsIn_wide.2 (runs_is _ _ _ _)).mono ?_⟩
 rintro e w5x ⟨rfl,rfl⟩
 gi_wp2_with fail
 have hz5 := HZ5.out
 have hgl2 : g < w2.heap.size := HGN.out.1
 have HSEQ := LH (runs_seq ls HH15.out (by rw [HLS.out.2]; have := HNN.out; have := HNL.out; omega) (w2.heap.size + 2) g 0 cg HCG.out.1)
 have HLT := LH (Dp.rnL_lt ls HH15.out)
 have HFW := LH (Dp.rnL_few ls HH15.out)
 have eg : ∀ args W,(callFunc 157 args).run Tryz.prog W = .ok (.enter 157 args) W := fun _ _ => rfl
 rw [<- V5.out]
 refine range_keep (α := Nat × Nat) (a₁ := fun o W0 => { tmps := #[.pointer (some ⟨R,0,none⟩),.slice (some ⟨bL,oL,none⟩) nl kL,.slice (some ⟨bD,oD,none⟩) nd kD,.pointer (some ⟨w.heap.size,0,none⟩),undef,undef,.slice (some ⟨g,0,none⟩) ls.length cg,.pointer (some ⟨w2.heap.size + 1,0,none⟩),.pointer (some ⟨W0.heap.size,0,none⟩),undef,undef,.slice (some ⟨bL,oL,none⟩) nl kL,.slice (some ⟨bD,oD,none⟩) nd kD,.slice (some ⟨w.heap.size + 1,0,none⟩) 2 2,.slice (some ⟨g,0,none⟩) ls.length cg,.slice (some ⟨w2.heap.size,0,none⟩) 19 19,.slice (some ⟨g,0,none⟩) ls.length cg,.func (.func 157) #[] #[.pointer (some ⟨w2.heap.size + 1 + 1,0,none⟩)],.agg #[.int .i64 (o.1 : Int),.int .i64 (o.2 : Int)],undef,undef,undef,undef,undef,undef,undef,undef,undef,undef,undef,undef,undef,undef,undef,undef,undef,undef,undef,undef,undef,undef,undef,undef,undef,undef,undef,undef,undef,undef,undef,undef],defers := [] }) (asg := fun o W0 => W0.alloc (.cells #[.int .i64 (o.1 : Int),.int .i64 (o.2 : Int)] 165)) (hasg := fun o W0 => below1 W0 _)
  (gf := 157) (first := #[]) (lb := #[.pointer (some ⟨w2.heap.size + 2,0,none⟩)]) (encs := rn1) (xs := rnL ls) rfl eg HSEQ.out (fun _ => rfl)
  (fun i W => Has W w2.heap.size (nums (Dp.rfq ls i)) /\ Has W (w2.heap.size + 1) (.cells #[.slice (some ⟨w2.heap.size,0,none⟩) 19 19] 57) /\ RnK (w2.heap.size + 2) g 0 cg ls W /\ Below w2.heap.size w2 W)
  (fun i W h => h.2.2.1)
  (fun i A C h hl => ⟨hl.has h.1 (Or.inl (by omega)),hl.has h.2.1 (Or.inl (by omega)),⟨hl.has h.2.2.1.1 (Or.inl (by omega)),Nat.lt_of_lt_of_le h.2.2.1.2.1 hl.size,fun j hj => (cell_of_heap (hl.block g h.2.2.1.2.1 (Or.inl (by omega))) (0 + j)).trans (h.2.2.1.2.2 j hj)⟩,hl.below h.2.2.2 (by omega) h.2.2.2.size⟩) I0.out ?assign ?body ?done
 case assign =>
  intro l o W K hK
  unfold rn1
  gi_wp2
  exact hK
 case body =>
  rintro l i o W0 W hp ⟨hF,hT,hK,hB⟩ hs0 hlo
  have hbox : Has W W0.heap.size (.cells #[.int .i64 (o.1 : Int),.int .i64 (o.2 : Int)] 165) := hlo.has (Has.new W0 _) (Or.inr (by omega))
  obtain ⟨r0,r1,-,-⟩ := hbox.two
  have h19 := HLT.out o (List.mem_of_getElem? hp)
  have hrs := Dp.rfq_succ ls i o hp
  have hx316 := Dp.rfq_le ls i o.1
  have hfw := HFW.out
  have hls := HLS.out.2
  have hnn := HNN.out
  have hnl := HNL.out
  obtain ⟨c0,c1⟩ := hT.one
  obtain ⟨x,hx⟩ : ∃ x,x = (Dp.rfq ls i)[o.1]?.getD 0 := ⟨_,rfl⟩
  rw [<- hx] at hrs hx316
  have hcf : W.cell? ⟨w2.heap.size,o.1,none⟩ = some (.int .i64 (x : Int)) := by rw [hx]; exact nums_cell hF o.1 (by rw [Dp.rfq_length]; exact h19)
  have hfz : W.frozen? ⟨w2.heap.size,o.1,none⟩ = false := by
   have hF' := hF
   unfold nums at hF'
   exact hF'.free o.1
  have hset := nums_set hF o.1 (x + 1)
  rw [<- hrs] at hset
  have hcast : ((x + 1 : Nat) : Int) = (x : Int) + 1 := by omega
  rw [hcast] at hset
  have E : IntKind.i64.wrap ((x : Int) + 1) = (x : Int) + 1 := IntWalk.i64_in _ (by omega)
  have HF : Hid (∀ aa : Act,FixPost w5.heap.size (fun W => Has W w2.heap.size (nums (Dp.rfq ls (i + 1))) /\ Has W (w2.heap.size + 1) (.cells #[.slice (some ⟨w2.heap.size,0,none⟩) 19 19] 57) /\ RnK (w2.heap.size + 2) g 0 cg ls W /\ Below w2.heap.size w2 W) W .normal aa (W.setCell ⟨w2.heap.size,o.1,none⟩ (.int .i64 ((x : Int) + 1)))) := by
   intro aa
   refine ⟨rfl,⟨rfl,rfl,rfl,by simp [World.setCell],fun k hk _ => Below.heap_setCell _ _ _ _ (by show k ≠ w2.heap.size; omega)⟩,hset,hT.set (by show w2.heap.size + 1 ≠ w2.heap.size; omega) _,⟨hK.1.set (by show w2.heap.size + 2 ≠ w2.heap.size; omega) _,by simpa [World.setCell] using hK.2.1,fun j hj => ?_⟩,hB.setCell (p := ⟨w2.heap.size,o.1,none⟩) (Nat.le_refl _) _⟩
   exact (World.cell?_setCell_other _ _ _ _ (by simp <;> omega)).trans (hK.2.2 j hj)
  have i1 : (o.1 : Int) < 19 := by omega
  have i2 : (0 : Int) <= (o.1 : Int) := by omega
  have i3 : (x : Int) <= 400 := by omega
  obtain ⟨q1,hq1⟩ : ∃ q1,q1 = o.1 := ⟨_,rfl⟩
  obtain ⟨q2,hq2⟩ : ∃ q2,q2 = o.2 := ⟨_,rfl⟩
  rw [<- hq1] at HF r0 hcf hfz i1 i2
  rw [<- hq1,<- hq2]
  clear hF hT hK hB hs0 hlo hbox h19 hrs hx316 hfw hls hnn hnl hx hset hcast hp hq1 hq2 r1 I0 HSEQ HLT HFW hz5
  gi_wp2
  exact HF.out _
 case done =>
  rintro W ⟨hF,hT,hK,hB⟩ hD
  obtain ⟨N,hN⟩ : ∃ N,N = (rnL ls).length := ⟨_,rfl⟩
  rw [<- hN] at hF
  obtain ⟨fs,hfs⟩ : ∃ x,x = Dp.rfq ls N := ⟨_,rfl⟩
  have hfl : fs.length = 19 := by rw [hfs]; exact Dp.rfq_length _ _
  have hfle : ∀ i : Nat,fs[i]?.getD 0 <= 4294967295 := fun i => by
   have h1 := Dp.rfq_le ls N i
   have h2 := HFW.out
   have h3 := HLS.out.2
   have h4 := HNN.out
   have h5 := HNL.out
   rw [hfs]; omega
  rw [<- hfs] at hF
  have hBW : Below w.heap.size w W := HB2.out.trans (hB.mono HB2.out.size)
  have hz : Zl W (.slice (some ⟨w2.heap.size,0,none⟩) 19 19) (Hd.zz fs) := ⟨_,19,19,rfl,by rw [Hd.zz_length,hfl],by decide,fun h => (nomatch h),fun _ => ⟨w2.heap.size,0,rfl,hF.lt,fun i hi => by rw [Nat.zero_add,nums_cell hF i (by omega),Hd.zz_get]⟩⟩
  have hle2 := Ls.lengths_ok (Hd.zz fs) (.slice (some ⟨w2.heap.size,0,none⟩) 19 19) 7 W hz ⟨by rw [Hd.zz_length,hfl]; decide,by rw [Hd.zz_length,hfl]; decide,fun i _ => by rw [Hd.zz_get]; have := hfle i; omega⟩ (by omega) (by omega) (by rw [Hd.nat_zz]; exact Dp.srt_few7 fs (by omega))
  rw [Hd.nat_zz] at hle2
  have CLE := LH hle2
  have HRlt := LH HW.out.lt
  have HXW := LH (show Has W w.heap.size (.cells #[.pointer (some ⟨R,0,none⟩)] 160 (0,0)) from HX2.out.below hB (by have := HX2.out.lt; exact this))
  have HWW := LH (HW.out.later hBW)
  have HGW := LH (HG.out.later hBW)
  have HBW := LH hBW
  have HKW := LH (show ∀ j,j < ls.length -> W.cell? ⟨g,0 + j,none⟩ = some (.int .i64 ((Rn.at1 ls j : Nat) : Int)) from hK.2.2)
  have HDW := LH (show Has W w5.heap.size (.deferred (some [])) from hD)
  have HWz := LH (show w5.heap.size < W.heap.size /\ g < w2.heap.size /\ w2.heap.size <= W.heap.size /\ w.heap.size <= w2.heap.size from ⟨(show Has W w5.heap.size (.deferred (some [])) from hD).lt,hgl2,hB.size,HB2.out.size⟩)
  have HFS := LH (And.intro hfs (And.intro hfl hN))
  obtain ⟨t0,t1⟩ := hT.one
  have HW1Z := LH (show R < W1.heap.size by have := HS1.out; have := HRlt.out; omega)
  clear hF hT hK hB hD hBW hz hle2 hfle hfs hN I0 V5 eg HX2 HW HG HSEQ hz5 hgl2 HB2 HX1 HB1 HS1
  gi_wp2_with fail
  refine ⟨trivial,(callsIn_wide.2 (show Calls Tryz.prog 112 #[_,.int .i64 7] _ _ from CLE.out)).mono ?_⟩
  clear CLE t0 t1
  rintro e w6 ⟨C,rfl,hC,hr,hb6⟩
  rw [HFS.out.2.1] at hr ⊢
  have HR6 := LH hr
  have HC6 := LH hC
  have HB6 := LH hb6
  clear hr hC hb6
  gi_wp2_with fail
  refine ⟨trivial,(callsIn_wide.2 (needInts_ok _ _)).mono ?_⟩
  rintro e w6x ⟨rfl,rfl⟩
  obtain ⟨w7,hw7⟩ : ∃ W',W' = w6.alloc (.cells #[.slice (some ⟨C,0,none⟩) 19 19] 57) := ⟨_,rfl⟩
  have hb7 : Below W.heap.size W w7 := by rw [hw7]; exact HB6.out.trans ((below1 w6 _).mono HB6.out.size)
  have hs7 : w7.heap.size = w6.heap.size + 1 := by rw [hw7]; simp
  have X7 := LH (HXW.out.later hb7)
  have W7 := LH (HWW.out.later hb7)
  have G7 := LH (HGW.out.later hb7)
  have CB7 : Hid (Has w7 w6.heap.size (.cells #[.slice (some ⟨C,0,none⟩) 19 19] 57)) := by show Has _ _ _; rw [hw7]; exact Has.new w6 _
  obtain ⟨C7,hC7⟩ : ∃ x,x = Dp.code7 fs := ⟨_,rfl⟩
  have CC7 : Hid (∀ i,i < 19 -> w7.cell? ⟨C,0 + i,none⟩ = some (.int .i64 ((Hf.ln C7 i : Nat) : Int))) := fun i hi => by
   have h1 : w7.cell? ⟨C,0 + i,none⟩ = w6.cell? ⟨C,0 + i,none⟩ := by rw [hw7]; exact (below1 w6 _).cell (p := ⟨C,0 + i,none⟩) HR6.out.lt
   rw [h1,Nat.zero_add,HR6.out.cell i hi,hC7,Dp.code7_ln fs i (by rw [HFS.out.2.1]; exact hi)]
  have HK7 := LH (fun j (hj : j < ls.length) => (hb7.cell (p := ⟨g,0 + j,none⟩) (by have := HWz.out; show g < W.heap.size; omega)).trans (HKW.out j hj))
  have HD7 := LH (HDW.out.later hb7)
  have HB7 := LH (HBW.out.trans (hb7.mono HBW.out.size))
  have HZ7 := LH (show C < w7.heap.size /\ w5.heap.size < C /\ w6.heap.size < w7.heap.size /\ W.heap.size <= w6.heap.size /\ C < w6.heap.size by
   have h1 := HR6.out.lt; have h2 := HC6.out; have h3 := HWz.out; have h4 := HB6.out.size; omega)
  have HC7 := LH hC7
  have V7 := LH hw7
  have nb := HNN.out
  have CN1 := LH (wnum_ok R [] (nl - 257) 5 w7 W7.out (by decide) (by decide) (by omega))
  have e1 : (nl : Int) - 257 = ((nl - 257 : Nat) : Int) := by omega
  have e2 : (nd : Int) - 1 = ((nd - 1 : Nat) : Int) := by omega
  have HE12 := LH (And.intro e1 e2)
  have x7 := X7.out
  rw [hw7] at x7
  obtain ⟨x0,x1⟩ := x7.one
  have nb1 : (nl : Int) <= 286 := by omega
  have nb2 : (nd : Int) <= 30 := by omega
  clear x7 hb7 hs7 hC7 hw7 nb e1 e2 HR6 HC6 HB6 HXW HWW HGW HBW HKW HDW
  gi_wp2_with fail
  rw [<- V7.out,HE12.out.1]
  refine ⟨trivial,(callsIn_wide.2 CN1.out).mono ?_⟩
  clear CN1 V7 x0 x1
  rintro e w8 ⟨rfl,hw8,ho8⟩
  obtain ⟨r5,hr5⟩ : ∃ x,x = [] ++ Bs.bitsOf (nl - 257) 5 := ⟨_,rfl⟩
  rw [<- hr5] at hw8
  have HR5 := LH hr5
  have hr5l : r5.length = 5 := by rw [hr5]; simp [Bs.bitsOf_length]
  have X8 := LH (X7.out.only ho8 (by have := HRlt.out; omega))
  have CN2 := LH (wnum_ok R r5 (nd - 1) 5 w8 hw8 (by omega) (by decide) (by have := HNN.out; omega))
  have HO8 := LH ho8
  obtain ⟨x0,x1⟩ := X8.out.one
  clear hw8 ho8 hr5 X7
  gi_wp2_with fail
  rw [HE12.out.2]
  refine ⟨trivial,(callsIn_wide.2 CN2.out).mono ?_⟩
  clear CN2 x0 x1
  rintro e w9 ⟨rfl,hw9,ho9⟩
  obtain ⟨r10,hr10⟩ : ∃ x,x = r5 ++ Bs.bitsOf (nd - 1) 5 := ⟨_,rfl⟩
  rw [<- hr10] at hw9
  have HR10 := LH hr10
  have hr10l : r10.length = 10 := by rw [hr10,List.length_append,Bs.bitsOf_length,hr5l]
  have ho9' := HO8.out.trans ho9
  have X9 := LH (X8.out.only ho9 (by have := HRlt.out; omega))
  have CB9 := LH (CB7.out.only ho9' (by have := HRlt.out; have := HZ7.out; have := HWz.out; omega))
  have hne1 : C ≠ R := by have := HZ5.out; have := HRlt.out; have := HZ7.out; have := HWz.out; omega
  have CC9 := LH (fun i hi => only_cell ho9' HZ7.out.1 hne1 (CC7.out i hi))
  have G9 := LH (G7.out.only hgR ho9')
  have CN3 := LH (wcode_ok R r10 C7 C 0 19 w9 hw9 (by omega) CC9.out (Nat.lt_of_lt_of_le HZ7.out.1 ho9'.size) hne1 G9.out hgR (fun i => by rw [HC7.out]; have := Dp.code7_7 fs (by rw [HFS.out.2.1]; exact Nat.le_refl _) i; omega))
  have HO9 := LH ho9'
  obtain ⟨x0,x1⟩ := X9.out.one
  obtain ⟨y0,y1⟩ := CB9.out.one
  clear hw9 ho9 ho9' hr10 X8 CB7 CC7 G7 HO8 hne1
  gi_wp2_with fail
  refine ⟨trivial,(callsIn_wide.2 CN3.out).mono ?_⟩
  clear CN3 x0 x1 y0 y1
  rintro e w10 ⟨rfl,c,hc4,hc19,hcz,hw10,ho10⟩
  obtain ⟨r0,hr0⟩ : ∃ x,x = r10 ++ (Bs.bitsOf (c - 4) 4 ++ If.clRow C7 c) := ⟨_,rfl⟩
  rw [<- hr0] at hw10
  have hr0l : r0.length <= 80 := by rw [hr0]; simp only [List.length_append,Bs.bitsOf_length,If.clRow_length,hr10l]; omega
  have hr0p : 0 < r0.length := by rw [hr0]; simp only [List.length_append,Bs.bitsOf_length,If.clRow_length,hr10l]; omega
  have hO10 := HO9.out.trans ho10
  have hzs := HZ7.out
  have hws := HWz.out
  have hrs := HRlt.out
  have hz5' := HZ5.out
  have x10 := X9.out.only ho10 (by omega)
  have cb10 := CB9.out.only ho10 (by omega)
  have hCR : C ≠ R := by omega
  have hgR2 : g ≠ R := by
   have h1 := HCG.out.2
   have h2 := HW1Z.out
   omega
  have cc10 : ∀ i,i < 19 -> w10.cell? ⟨C,0 + i,none⟩ = some (.int .i64 ((Hf.ln C7 i : Nat) : Int)) := fun i hi => only_cell ho10 (Nat.lt_of_lt_of_le hzs.1 HO9.out.size) hCR (CC9.out i hi)
  have hg7 : g < w7.heap.size := by omega
  have hk10 : ∀ j,j < ls.length -> w10.cell? ⟨g,0 + j,none⟩ = some (.int .i64 ((Rn.at1 ls j : Nat) : Int)) := fun j hj => only_cell hO10 hg7 hgR2 (HK7.out j hj)
  have hd10 : Has w10 w5.heap.size (.deferred (some [])) := HD7.out.only hO10 (by omega)
  obtain ⟨hHV,hFit,hUse⟩ := Dp.head_hv L D (by have := HNN.out; have := HNL.out; omega) (by have := HNN.out; have := HNL.out; omega) (by have := HNN.out; have := HNL.out; omega) (by have := HNN.out; have := HNL.out; omega) (by rw [<- HLS.out.1]; exact HH15.out) C7 (by rw [HC7.out,HFS.out.1,HFS.out.2.2,HLS.out.1]) c hc4 hc19 hcz
  rw [<- HLS.out.1] at hHV hUse
  have hhr : If.headRow L D C7 c (rnL ls) = r0 ++ If.opsRow C7 (rnL ls) := by
   rw [hr0,HR10.out,HR5.out]
   unfold If.headRow
   rw [HNL.out.1,HNL.out.2]
   simp only [List.nil_append,List.append_assoc]
  obtain ⟨w11,hw11⟩ : ∃ W',W' = w10.alloc (.cells #[.slice (some ⟨g,0,none⟩) ls.length cg] 57) := ⟨_,rfl⟩
  have hb11 : Below w10.heap.size w10 w11 := by rw [hw11]; exact below1 w10 _
  have hs11 : w11.heap.size = w10.heap.size + 1 := by rw [hw11]; simp
  have t11 : Has w11 w10.heap.size (.cells #[.slice (some ⟨g,0,none⟩) ls.length cg] 57) := by rw [hw11]; exact Has.new w10 _
  have hsz10 := hO10.size
  have J0 : Hid (WrL w11.heap.size w11 R (r0 ++ If.opsRow C7 ((rnL ls).take 0)) /\ Has w11 w.heap.size (.cells #[.pointer (some ⟨R,0,none⟩)] 160) /\ Has w11 w6.heap.size (.cells #[.slice (some ⟨C,0,none⟩) 19 19] 57) /\ (∀ i,i < 19 -> w11.cell? ⟨C,0 + i,none⟩ = some (.int .i64 ((Hf.ln C7 i : Nat) : Int))) /\ RnK w10.heap.size g 0 cg ls w11 /\ Has w11 w5.heap.size (.deferred (some [])) /\ Only R w7 w11) := by
   refine ⟨?_,x10.later hb11,cb10.later hb11,fun i hi => (hb11.cell (p := ⟨C,0 + i,none⟩) (by show C < w10.heap.size; omega)).trans (cc10 i hi),⟨t11,by show g < w11.heap.size; omega,fun j hj => (hb11.cell (p := ⟨g,0 + j,none⟩) (by show g < w10.heap.size; omega)).trans (hk10 j hj)⟩,hd10.later hb11,hO10.trans (Only.of_below hb11)⟩
   have : If.opsRow C7 ((rnL ls).take 0) = [] := rfl
   rw [this,List.append_nil]
   exact (hw10.later hb11).toL hr0p (Nat.le_refl _)
  have HHV := LH hHV
  have HFit := LH hFit
  have HUse := LH hUse
  have HHR := LH hhr
  have HZ11 := LH (And.intro hs11 hsz10)
  have V11 := LH hw11
  have HR0L := LH (And.intro hr0l hr0p)
  have HC77 : Hid (∀ i,Hf.ln C7 i <= 7) := fun i => by rw [HC7.out]; exact Dp.code7_7 fs (by rw [HFS.out.2.1]; exact Nat.le_refl _) i
  have HC19 : Hid (C7.length = 19) := by show _ = _; rw [HC7.out,Dp.code7_length,HFS.out.2.1]
  have HCR := LH (And.intro hCR hgR2)
  clear hw10 ho10 hr0 hr0l hr0p hO10 hzs hws hrs hz5' x10 cb10 hCR hgR2 cc10 hg7 hk10 hd10 hHV hFit hUse hhr hw11 hb11 hs11 t11 hsz10 hc4 hc19 hcz X9 CB9 CC9 G9 HO9
  gi_wp2_with fail
  refine ⟨trivial,(callsIn_wide.2 (runs_is _ _ _ _)).mono ?_⟩
  rintro e w11x ⟨rfl,rfl⟩
  gi_wp2_with fail
  rw [<- V11.out]
  have hz11 := HZ11.out
  have hzs := HZ7.out
  have hws := HWz.out
  have hrs := HRlt.out
  have hz5' := HZ5.out
  have HSEQ := LH (runs_seq ls HH15.out (by rw [HLS.out.2]; have := HNN.out; have := HNL.out; omega) w10.heap.size g 0 cg HCG.out.1)
  have eg : ∀ args W,(callFunc 157 args).run Tryz.prog W = .ok (.enter 157 args) W := fun _ _ => rfl
  refine range_keep (α := Nat × Nat) (a₁ := fun o W0 => { tmps := #[.pointer (some ⟨R,0,none⟩),.slice (some ⟨bL,oL,none⟩) nl kL,.slice (some ⟨bD,oD,none⟩) nd kD,.pointer (some ⟨w.heap.size,0,none⟩),undef,undef,.slice (some ⟨g,0,none⟩) ls.length cg,.pointer (some ⟨w2.heap.size + 1,0,none⟩),undef,.pointer (some ⟨w6.heap.size,0,none⟩),.pointer (some ⟨W0.heap.size,0,none⟩),.slice (some ⟨bL,oL,none⟩) nl kL,.slice (some ⟨bD,oD,none⟩) nd kD,.slice (some ⟨w.heap.size + 1,0,none⟩) 2 2,.slice (some ⟨g,0,none⟩) ls.length cg,.slice (some ⟨w2.heap.size,0,none⟩) 19 19,.slice (some ⟨g,0,none⟩) ls.length cg,.func (.func 157) #[] #[.pointer (some ⟨w2.heap.size + 1 + 1,0,none⟩)],undef,undef,undef,undef,undef,undef,undef,undef,.slice (some ⟨w2.heap.size,0,none⟩) 19 19,.tuple #[.slice (some ⟨C,0,none⟩) 19 19,.int .i64 0],.slice (some ⟨C,0,none⟩) 19 19,.int .i64 0,.slice (some ⟨C,0,none⟩) 19 19,.pointer (some ⟨R,0,none⟩),.slice (some ⟨bL,oL,none⟩) nl kL,.int .i64 (nl : Int),.int .i64 ((nl - 257 : Nat) : Int),.tuple #[],.pointer (some ⟨R,0,none⟩),.slice (some ⟨bD,oD,none⟩) nd kD,.int .i64 (nd : Int),.int .i64 ((nd - 1 : Nat) : Int),.tuple #[],.pointer (some ⟨R,0,none⟩),.slice (some ⟨C,0,none⟩) 19 19,.tuple #[],.slice (some ⟨g,0,none⟩) ls.length cg,.func (.func 157) #[] #[.pointer (some ⟨w10.heap.size,0,none⟩)],.agg #[.int .i64 (o.1 : Int),.int .i64 (o.2 : Int)],undef,undef,undef,undef],defers := [] }) (asg := fun o W0 => W0.alloc (.cells #[.int .i64 (o.1 : Int),.int .i64 (o.2 : Int)] 165)) (hasg := fun o W0 => below1 W0 _)
   (gf := 157) (first := #[]) (lb := #[.pointer (some ⟨w10.heap.size,0,none⟩)]) (encs := rn1) (xs := rnL ls) rfl eg HSEQ.out (fun _ => rfl)
   (fun i W => WrL w11.heap.size W R (r0 ++ If.opsRow C7 ((rnL ls).take i)) /\ Has W w.heap.size (.cells #[.pointer (some ⟨R,0,none⟩)] 160) /\ Has W w6.heap.size (.cells #[.slice (some ⟨C,0,none⟩) 19 19] 57) /\ (∀ i,i < 19 -> W.cell? ⟨C,0 + i,none⟩ = some (.int .i64 ((Hf.ln C7 i : Nat) : Int))) /\ RnK w10.heap.size g 0 cg ls W /\ Has W w5.heap.size (.deferred (some [])) /\ Only R w7 W)
   (fun i W h => h.2.2.2.2.1)
   (fun i A B h hl => ⟨h.1.lo hl (by omega),hl.has h.2.1 (Or.inl (by omega)),hl.has h.2.2.1 (Or.inl (by omega)),fun j hj => (cell_of_heap (hl.block C (by have := h.2.2.2.2.2.2.size; omega) (Or.inl (by omega))) (0 + j)).trans (h.2.2.2.1 j hj),⟨hl.has h.2.2.2.2.1.1 (Or.inl (by omega)),Nat.lt_of_lt_of_le h.2.2.2.2.1.2.1 hl.size,fun j hj => (cell_of_heap (hl.block g h.2.2.2.2.1.2.1 (Or.inl (by omega))) (0 + j)).trans (h.2.2.2.2.1.2.2 j hj)⟩,hl.has h.2.2.2.2.2.1 (Or.inl (by omega)),h.2.2.2.2.2.2.trans9 hl (by omega)⟩) J0.out ?assign ?body ?done
  case assign =>
   intro l o W K hK
   unfold rn1
   gi_wp2
   exact hK
  case body =>
   rintro l i o W0 W hp ⟨hWr,hX,hCB,hCC,hK,hDD,hO⟩ hs0 hlo
   have hbox : Has W W0.heap.size (.cells #[.int .i64 (o.1 : Int),.int .i64 (o.2 : Int)] 165) := hlo.has (Has.new W0 _) (Or.inr (by omega))
   obtain ⟨b0,b1,-,-⟩ := hbox.two
   obtain ⟨x0,x1⟩ := hX.one
   obtain ⟨y0,y1⟩ := hCB.one
   have h19 := HLT.out o (List.mem_of_getElem? hp)
   have hix := (List.getElem?_eq_some_iff.1 hp).1
   have hle := opsRow_le C7 HC77.out ((rnL ls).take i)
   have hlt := List.length_take_le i (rnL ls)
   have hfw := HFW.out
   have hls := HLS.out.2
   have hnn := HNN.out
   have hnl := HNL.out
   have hr0l := HR0L.out.1
   have hzl : Zl W (.slice (some ⟨C,0,none⟩) 19 19) (Hd.zz C7) := ⟨_,19,19,rfl,by rw [Hd.zz_length]; exact HC19.out.symm,by decide,fun h => (nomatch h),fun _ => ⟨C,0,rfl,by have := hO.size; omega,fun i hi => by rw [hCC i hi,Hd.zz_get]; rfl⟩⟩
   have hrun := wrun_n R _ C7 (.slice (some ⟨C,0,none⟩) 19 19) o.1 o.2 W hWr.wr (by rw [List.length_append]; omega) hzl HFit.out (by rw [HC19.out]; exact h19) (HUse.out o (List.mem_of_getElem? hp)) (Dp.rnL_fit ls _ _ o (List.mem_of_getElem? hp))
   have es : r0 ++ If.opsRow C7 ((rnL ls).take i) ++ If.opRow C7 (o.1,o.2) = r0 ++ If.opsRow C7 ((rnL ls).take (i + 1)) := by
    rw [List.take_add_one,hp,If.opsRow_append,List.append_assoc]
    congr 2
    show _ = If.opsRow C7 [o]
    rw [If.opsRow_cons]
    exact (List.append_nil _).symm
   rw [es] at hrun
   have HRN := LH hrun
   have HF : Hid (∀ aa W4,WrN W.heap.size W4 R (r0 ++ If.opsRow C7 ((rnL ls).take (i + 1))) -> Only R W W4 -> FixPost w11.heap.size (fun W => WrL w11.heap.size W R (r0 ++ If.opsRow C7 ((rnL ls).take (i + 1))) /\ Has W w.heap.size (.cells #[.pointer (some ⟨R,0,none⟩)] 160) /\ Has W w6.heap.size (.cells #[.slice (some ⟨C,0,none⟩) 19 19] 57) /\ (∀ i,i < 19 -> W.cell? ⟨C,0 + i,none⟩ = some (.int .i64 ((Hf.ln C7 i : Nat) : Int))) /\ RnK w10.heap.size g 0 cg ls W /\ Has W w5.heap.size (.deferred (some [])) /\ Only R w7 W) W .normal aa W4) := by
    intro aa W4 hw4 ho4
    have hsz4 := ho4.size
    have hloz := hlo.size
    refine ⟨rfl,⟨ho4.os,ho4.tape,ho4.output,ho4.size,fun k hk hk2 => ho4.block k hk2 (by omega)⟩,hw4.toL (by simp at hloz; omega),hX.only ho4 (by omega),hCB.only ho4 (by omega),fun j hj => only_cell ho4 (by have := hO.size; omega) HCR.out.1 (hCC j hj),⟨hK.1.only ho4 (by omega),Nat.lt_of_lt_of_le hK.2.1 hsz4,fun j hj => only_cell ho4 hK.2.1 HCR.out.2 (hK.2.2 j hj)⟩,hDD.only ho4 (by omega),hO.trans ho4⟩
   obtain ⟨q1,hq1⟩ : ∃ q1,q1 = o.1 := ⟨_,rfl⟩
   obtain ⟨q2,hq2⟩ : ∃ q2,q2 = o.2 := ⟨_,rfl⟩
   rw [<- hq1] at HRN b0
   rw [<- hq2] at HRN b1
   rw [<- hq1,<- hq2]
   clear hWr hX hCB hCC hK hDD hO hs0 hlo hbox h19 hix hle hlt hfw hls hnn hnl hr0l hzl hrun es hp hq1 hq2 J0 HSEQ hz11 hzs hws hrs hz5'
   gi_wp2_with (refine ⟨trivial,?_⟩; gi_at_call 121; refine (CallsIn.inRound l (callsIn_wide.2 HRN.out)).mono ?_; rintro e w4 ⟨rfl,hw4,ho4⟩)
   exact HF.out _ _ hw4 ho4
  case done =>
   rintro W9 ⟨hWr,hX,hCB,hCC,hK,hDD,hO⟩ hD2
   rw [List.take_length,<- HHR.out] at hWr
   have HW9 := LH hWr.wr
   have HD9 := LH hDD
   have HD2 := LH hD2
   have HO9 := LH ((Only.of_below (R := R) HB7.out).trans hO)
   have HZF := LH (show w5.heap.size < w11.heap.size /\ R < w5.heap.size /\ R < w11.heap.size /\ w.heap.size <= w5.heap.size /\ w.heap.size <= w11.heap.size by omega)
   have HHL : Hid (0 < (If.headRow L D C7 c (rnL ls)).length) := by show 0 < _; rw [HHR.out,List.length_append]; have := HR0L.out.2; omega
   clear hWr hX hCB hCC hK hDD hO hD2 J0 HSEQ hz11 hzs hws hrs hz5' eg
   gi_wp2
   refine ⟨by simp,.inl ⟨_,_,rfl,run_takeDeferred HD2.out,?_⟩⟩
   have hzf := HZF.out
   have D1 : Has (W9.putObj w11.heap.size (.deferred none)) w5.heap.size (.deferred (some [])) := (World.putObj_heap_other (by omega)).trans HD9.out
   refine ⟨by simp,.inl ⟨_,_,rfl,run_takeDeferred D1,?_⟩⟩
   have K1 := HW9.out.put (k := w11.heap.size) (by omega) (.deferred none) (fun cs t fr e => by have := (show W9.heap[w11.heap.size]? = some (.deferred (some [])) from HD2.out).symm.trans e; simp at this) HHL.out
   have K2 := K1.put (k := w5.heap.size) (by omega) (.deferred none) (fun cs t fr e => by have := (show (W9.putObj w11.heap.size (.deferred none)).heap[w5.heap.size]? = some (.deferred (some [])) from D1).symm.trans e; simp at this) HHL.out
   refine ⟨.tuple #[],by simp [results,Tryz.results79,go_sem],rfl,C7,c,?_,?_,?_⟩
   ·rw [<- HLS.out.1]; exact HHV.out
   ·rw [<- HLS.out.1]; exact K2
   ·exact only_put (only_put HO9.out (by omega) _) (by omega) _
end
section
open Go.RowKit
theorem areLen1_no (x : Nat) (h : x <= 15) (w : World) : Calls Tryz.prog 115 #[.int .i64 (x : Int)] w fun e w' => e = .returned (.bool false) /\ w = w' := by
 have h1 : decide ((x : Int) < 0) = false := decide_eq_false (by omega)
 have h3 : decide ((15 : Int) < (x : Int)) = false := decide_eq_false (by omega)
 have h4 : ¬ 15 < x := by omega
 clear h
 go_enter Tryz.func115,Tryz.ntmps115
 go_wp2
 go_ret
 exact ⟨rfl,rfl⟩
theorem index_none (b off cap : Nat) (ls : List Nat) (w : World) (hn : Nat9 w b off ls) (h15 : ∀ x ∈ ls,x <= 15) (hl : ls.length <= 1000) :
  Calls Tryz.prog 156 #[.slice (some ⟨b,off,none⟩) ls.length cap,.func (.func 115) #[] #[]] w fun e w' => e = .returned (.int .i64 (-1)) /\ w = w' := by
 have HN := LH hn
 have H15 := LH h15
 obtain ⟨n,hnl⟩ : ∃ n,n = ls.length := ⟨_,rfl⟩
 have HL := LH hnl
 rw [<- hnl] at hl ⊢
 clear hn h15 hnl
 go_enter Tryz.func156,Tryz.ntmps156
 go_wp2
 go_loop [8] (fun s8 => ∃ k : Nat,k <= n /\ s8 = .int .i64 k) (fun s => n - (intOf s).toNat)
 case atStart => exact ⟨0,Nat.zero_le _,rfl⟩
 case round =>
  obtain ⟨k,hk,rfl⟩ := hrel
  by_cases hlt : k < n
  ·have hck := HN.out.2 k (by rw [<- HL.out]; exact hlt)
   have hx15 : ls[k]?.getD 0 <= 15 := by
    rw [List.getElem?_eq_getElem (by rw [<- HL.out]; exact hlt)]
    exact H15.out _ (List.getElem_mem _)
   obtain ⟨x,hx⟩ : ∃ x,x = ls[k]?.getD 0 := ⟨_,rfl⟩
   rw [<- hx] at hck hx15
   clear hx
   go_wp2_with (go_at_call 115; refine (areLen1_no x hx15 _).mono ?_; rintro e w' ⟨rfl,rfl⟩)
   go_round
   case rel => exact ⟨k + 1,by omega,by go_num⟩
   case measure => simp [intOf]; omega
  ·obtain rfl : k = n := by omega
   go_wp2
   go_ret
   exact ⟨rfl,rfl⟩
theorem contains_none (b off cap : Nat) (ls : List Nat) (w : World) (hn : Nat9 w b off ls) (h15 : ∀ x ∈ ls,x <= 15) (hl : ls.length <= 1000) :
  Calls Tryz.prog 114 #[.slice (some ⟨b,off,none⟩) ls.length cap,.func (.func 115) #[] #[]] w fun e w' => e = .returned (.bool false) /\ w = w' := by
 have H := LH (index_none b off cap ls w hn h15 hl)
 clear hn h15 hl
 go_enter Tryz.func114,Tryz.ntmps114
 go_wp2_with fail
 refine H.out.mono ?_
 rintro e w1 ⟨rfl,rfl⟩
 go_wp2_with fail
 go_ret
 exact ⟨rfl,rfl⟩
theorem areLen_yes (b off cap least most : Nat) (ls : List Nat) (w : World) (hn : Nat9 w b off ls) (h15 : ∀ x ∈ ls,x <= 15) (h1 : least <= ls.length) (h2 : ls.length <= most) (hm : most <= 1000) :
  Calls Tryz.prog 76 #[.slice (some ⟨b,off,none⟩) ls.length cap,.int .i64 (least : Int),.int .i64 (most : Int)] w fun e w' => e = .returned (.bool true) /\ w = w' := by
 have H := LH (contains_none b off cap ls w hn h15 (by omega))
 obtain ⟨n,hnl⟩ : ∃ n,n = ls.length := ⟨_,rfl⟩
 rw [<- hnl] at H h1 h2 ⊢
 have d1 : decide ((n : Int) < (least : Int)) = false := decide_eq_false (by omega)
 have d2 : decide ((most : Int) < (n : Int)) = false := decide_eq_false (by omega)
 have d1' : ¬ n < least := by omega
 have d2' : ¬ most < n := by omega
 clear hn h15 hnl h1 h2
 go_enter Tryz.func76,Tryz.ntmps76
 go_wp2_with fail
 refine H.out.mono ?_
 rintro e w1 ⟨rfl,rfl⟩
 go_wp2_with fail
 go_ret
 exact ⟨rfl,rfl⟩
def HdV (B : Nat) (w : World) (V : Nat) (L D : List Nat) : Prop := ∃ C c g m,B <= g /\ If.HV L D C c (rnL (L ++ D)) /\ Has w V (.cells #[.slice (some ⟨g,0,none⟩) m m,.int .i64 ((If.headRow L D C c (rnL (L ++ D))).length : Int)] 64) /\ Sl w (.slice (some ⟨g,0,none⟩) m m) (Bs.pack (If.headRow L D C c (rnL (L ++ D))))
theorem hput1_ok (P0 P1 P2 V : Nat) (L D : List Nat) (bL oL kL bD oD kD : Nat) (w : World) (hgl : Glob w)
  (h0 : Has w P0 (.cells #[.slice (some ⟨bL,oL,none⟩) L.length kL] 57)) (h1 : Has w P1 (.cells #[.slice (some ⟨bD,oD,none⟩) D.length kD] 57))
  (h2 : Has w P2 (.cells #[.slice none 0 0,.int .i64 0] 64)) (hV : Has w V (.cells #[.slice none 0 0,.int .i64 0] 64))
  (hL : Nat9 w bL oL L) (hD : Nat9 w bD oD D) (hL1 : 257 <= L.length) (hL2 : L.length <= 286) (hD1 : 1 <= D.length) (hD2 : D.length <= 30) (h15 : ∀ x ∈ L ++ D,x <= 15) :
  Calls Tryz.prog 78 #[.pointer (some ⟨P0,0,none⟩),.pointer (some ⟨P1,0,none⟩),.pointer (some ⟨P2,0,none⟩),.pointer (some ⟨V,0,none⟩)] w fun e w' => e = .returned (.tuple #[]) /\ HdV w.heap.size w' V L D /\ Only V w w' := by
 obtain ⟨W1,hW1⟩ : ∃ W,W = w.alloc (.cells #[.slice none 0 0,.int .i64 0] 116) := ⟨_,rfl⟩
 have hb1 : Below w.heap.size w W1 := by rw [hW1]; exact below1 w _
 have hx1 : Has W1 w.heap.size (.cells #[.slice none 0 0,.int .i64 0] 116) := by rw [hW1]; exact Has.new w _
 have hwr : Wr W1 w.heap.size [] := ⟨none,0,0,hx1,Sl.nil _⟩
 have CH := LH (wheader_ok w.heap.size L D bL oL kL bD oD kD W1 hwr (hgl.later hb1) (by have := hgl.lt; omega) (hL.later hb1) (hD.later hb1) hL1 hL2 hD1 hD2 h15)
 obtain ⟨nl,hnl⟩ : ∃ x,x = L.length := ⟨_,rfl⟩
 obtain ⟨nd,hnd⟩ : ∃ x,x = D.length := ⟨_,rfl⟩
 rw [<- hnl] at h0
 rw [<- hnd] at h1
 rw [<- hnl,<- hnd] at CH
 obtain ⟨c0,-⟩ := (h0.later hb1).one
 obtain ⟨c1,-⟩ := (h1.later hb1).one
 rw [hW1] at c0 c1
 have V1 := LH hW1
 have HB1 := LH hb1
 have H2 := LH h2
 have HV := LH hV
 have H15 := LH h15
 clear hgl h0 h1 h2 hV hL hD hL1 hL2 hD1 hD2 h15 hW1 hb1 hx1 hwr hnl hnd
 go_enter Tryz.func78,Tryz.ntmps78
 go_wp2_with fail
 rw [<- V1.out]
 refine CH.out.mono ?_
 clear CH V1 c0 c1
 rintro e w2 ⟨rfl,C,c,hHV,hw2,ho2⟩
 obtain ⟨ra,rm,rc,hr,hsl⟩ := hw2
 obtain ⟨row,hrow⟩ : ∃ x,x = If.headRow L D C c (rnL (L ++ D)) := ⟨_,rfl⟩
 have hrl : row.length <= 100000 := by
  rw [hrow,If.headRow_length]
  have q1 := opsRow_le C (fun i => by have := hHV.c8 i; omega) (rnL (L ++ D))
  have q2 := Dp.rnL_few (L ++ D) H15.out
  have q3 := hHV.l2
  have q4 := hHV.d2
  have q5 := hHV.c2
  rw [List.length_append] at q2
  omega
 rw [<- hrow] at hr hsl
 have HHV := LH hHV
 have HROW := LH hrow
 have hP2 : Has w2 P2 (.cells #[.slice none 0 0,.int .i64 0] 64) := (H2.out.later HB1.out).only ho2 (by have := H2.out.lt; omega)
 have hVV : Has w2 V (.cells #[.slice none 0 0,.int .i64 0] 64) := (HV.out.later HB1.out).only ho2 (by have := HV.out.lt; omega)
 have CJ := LH (join_ok (.slice none 0 0) (.slice ra rm rc) [] row 0 row.length w2 (Sl.nil _) hsl rfl rfl (by decide) (by omega))
 rw [List.nil_append] at CJ
 obtain ⟨p0,p1,-,-⟩ := hP2.two
 obtain ⟨r0,r1,-,-⟩ := hr.two
 have HV2 := LH hVV
 have HRL := LH hrl
 have HB2 : Hid (Below w.heap.size w w2) := HB1.out.trans ⟨ho2.os,ho2.tape,ho2.output,ho2.size,fun k hk => ho2.block k (by have := HB1.out.size; omega) (by omega)⟩
 have HVlt := LH HV.out.lt
 obtain ⟨nr,hnr⟩ : ∃ x,x = row.length := ⟨_,rfl⟩
 rw [<- hnr] at CJ r1
 have HNR := LH hnr
 clear hHV ho2 hr hsl hrow hrl hP2 hVV H2 HV HB1 hnr
 go_wp2_with fail
 refine (show Calls Tryz.prog 58 #[.agg #[.slice none 0 0,.int .i64 0],_] _ _ from CJ.out).mono ?_
 clear CJ p0 p1 r0 r1
 rintro e w3 ⟨g,mm,rfl,hm,hg,hh,hb3⟩
 have HM := LH hm
 have HG := LH hg
 have HH := LH hh
 have HB3 := LH (HB2.out.trans (hb3.mono HB2.out.size))
 have HV3 := LH (HV2.out.later hb3)
 have HGW := LH (show w.heap.size <= g by have := HG.out; have := HB2.out.size; omega)
 have HG2 := LH (show V < g by have := HVlt.out; have := HB2.out.size; omega)
 clear hm hg hh hb3 HV2 HB2
 go_wp2_with fail
 refine (needBits_ok _ _ _ _ _).mono ?_
 rintro e w4 ⟨rfl,hb4⟩
 have HV4 := LH (HV3.out.later hb4)
 have HH4 := LH (HH.out.later hb4)
 have HB4 := LH (HB3.out.trans (hb4.mono HB3.out.size))
 obtain ⟨v0,v1,y0,y1⟩ := HV4.out.two
 obtain ⟨nr2,hnr2⟩ : ∃ x,x = row.length := ⟨_,rfl⟩
 rw [<- hnr2]
 have HNR2 := LH hnr2
 clear hb4 HV3 HH HB3 hnr2
 go_wp2_with fail
 go_end0
 refine ⟨rfl,⟨C,c,g,mm,HGW.out,HHV.out,?_,?_⟩,only_set2 (Only.of_below (R := V) HB4.out) _ _⟩
 ·rw [<- HROW.out,<- HNR2.out]
  have h := (HV4.out.setSelf (i := 0) (.slice (some ⟨g,0,none⟩) mm mm)).setSelf (i := 1) (.int .i64 (nr2 : Int))
  simpa using h
 ·rw [<- HROW.out]
  exact Sl.has ((HH4.out.set (a := ⟨V,0,none⟩) (by have := HG2.out; show g ≠ V; omega) _).set (a := ⟨V,1,none⟩) (by have := HG2.out; show g ≠ V; omega) _) (Bs.pack_lt _) (by rw [Bs.pack_length]; have := HRL.out; omega) _ _ (by rw [Bs.pack_length,HM.out])
theorem sl_set9 {w : World} {g m c k : Nat} {bs : List Nat} (h : Sl w (.slice (some ⟨g,0,none⟩) m c) bs) (hne : g ≠ k) (i : Nat) (v : Value) : Sl (w.setCell ⟨k,i,none⟩ v) (.slice (some ⟨g,0,none⟩) m c) bs :=
 sl_block h fun g' off e _ => by
  injection e with e
  injection e with e _ _
  subst e
  exact Below.heap_setCell _ _ _ _ hne
def HPut (w : World) (L D : List Nat) (e : Ending) (w' : World) : Prop := ∃ C c g m,If.HV L D C c (rnL (L ++ D)) /\ e = .returned (.tuple #[.agg #[.slice (some ⟨g,0,none⟩) m m,.int .i64 ((If.headRow L D C c (rnL (L ++ D))).length : Int)],.int .i64 0]) /\ Sl w' (.slice (some ⟨g,0,none⟩) m m) (Bs.pack (If.headRow L D C c (rnL (L ++ D)))) /\ Below w.heap.size w w'
theorem put_boxes (w : World) (O0 O1 O2 O3 : Obj) : ∃ W,W = (((w.alloc O0).alloc O1).alloc O2).alloc O3 /\ Below w.heap.size w W /\ W.heap.size = w.heap.size + 4 /\ Has W w.heap.size O0 /\ Has W (w.heap.size + 1) O1 /\ Has W (w.heap.size + 2) O2 /\ Has W (w.heap.size + 3) O3 := by
 have b1 := below1 w O0
 have b2 := below1 (w.alloc O0) O1
 have b3 := below1 ((w.alloc O0).alloc O1) O2
 have b4 := below1 (((w.alloc O0).alloc O1).alloc O2) O3
 have z1 : (w.alloc O0).heap.size = w.heap.size + 1 := by simp
 have z2 : ((w.alloc O0).alloc O1).heap.size = w.heap.size + 2 := by simp
 have z3 : (((w.alloc O0).alloc O1).alloc O2).heap.size = w.heap.size + 3 := by simp
 have n1 := Has.new (w.alloc O0) O1
 have n2 := Has.new ((w.alloc O0).alloc O1) O2
 have n3 := Has.new (((w.alloc O0).alloc O1).alloc O2) O3
 rw [z1] at n1
 rw [z2] at n2
 rw [z3] at n3
 refine ⟨_,rfl,b1.trans ((b2.mono (by omega)).trans ((b3.mono (by omega)).trans (b4.mono (by omega)))),by simp,(((Has.new w O0).later b2).later b3).later b4,(n1.later b3).later b4,n2.later b4,n3⟩
theorem header_put (L D : List Nat) (bL oL kL bD oD kD : Nat) (w : World) (hgl : Glob w) (hL : Nat9 w bL oL L) (hD : Nat9 w bD oD D) (hL1 : 257 <= L.length) (hL2 : L.length <= 286) (hD1 : 1 <= D.length) (hD2 : D.length <= 30) (h15 : ∀ x ∈ L ++ D,x <= 15) :
  Calls Tryz.prog 43 #[.agg #[.slice none 0 0,.int .i64 0],.slice (some ⟨bL,oL,none⟩) L.length kL,.slice (some ⟨bD,oD,none⟩) D.length kD] w (HPut w L D) := by
 have hmf : ∀ (fn : Fn) (first cap : Array Value) (w : World),(Instr.makeFunc fn first cap).run Tryz.prog w = .ok (.func fn first cap) w := fun _ _ _ _ => rfl
 obtain ⟨W0,hW0,hb0,hs0,hx0,hx1,hx2,hx3⟩ := put_boxes w (.cells #[.slice none 0 0,.int .i64 0] 64) (.cells #[.slice (some ⟨bL,oL,none⟩) L.length kL] 57) (.cells #[.slice (some ⟨bD,oD,none⟩) D.length kD] 57) (.cells #[.slice none 0 0,.int .i64 0] 64)
 have CK := LH (check_ok (.slice none 0 0) [] 0 W0 (Sl.nil _) (by decide) (Bs.pack_right []))
 have V0 := LH hW0
 have HB0 := LH hb0
 have HX0 := LH hx0
 have HX1 := LH hx1
 have HX2 := LH hx2
 have HX3 := LH hx3
 have HS0 := LH hs0
 have HA1 := LH (fun W (hb : Below w.heap.size w W) => areLen_yes bL oL kL 257 286 L W (hL.later hb) (fun x hx => h15 x (List.mem_append_left _ hx)) hL1 hL2 (by decide))
 have HA2 := LH (fun W (hb : Below w.heap.size w W) => areLen_yes bD oD kD 1 30 D W (hD.later hb) (fun x hx => h15 x (List.mem_append_right _ hx)) hD1 hD2 (by decide))
 have HP1 := LH (fun (V : Nat) W (hb : Below w.heap.size w W) (q0 : Has W (w.heap.size + 1) (.cells #[.slice (some ⟨bL,oL,none⟩) L.length kL] 57)) (q1 : Has W (w.heap.size + 2) (.cells #[.slice (some ⟨bD,oD,none⟩) D.length kD] 57)) (q2 : Has W w.heap.size (.cells #[.slice none 0 0,.int .i64 0] 64)) (qV : Has W V (.cells #[.slice none 0 0,.int .i64 0] 64)) => hput1_ok (w.heap.size + 1) (w.heap.size + 2) w.heap.size V L D bL oL kL bD oD kD W (hgl.later hb) q0 q1 q2 qV (hL.later hb) (hD.later hb) hL1 hL2 hD1 hD2 h15)
 obtain ⟨nl,hnl⟩ : ∃ x,x = L.length := ⟨_,rfl⟩
 obtain ⟨nd,hnd⟩ : ∃ x,x = D.length := ⟨_,rfl⟩
 rw [<- hnl] at HX1 HA1 HP1 hW0 V0 ⊢
 rw [<- hnd] at HX2 HA2 HP1 hW0 V0 ⊢
 clear hgl hL hD hL1 hL2 hD1 hD2 h15 hW0 hb0 hs0 hx0 hx1 hx2 hx3 hnl hnd
 go_enter Tryz.func43,Tryz.ntmps43
 go_wp2_with fail
 rw [<- V0.out]
 refine (show Calls Tryz.prog 75 #[.agg #[.slice none 0 0,.int .i64 0]] _ _ from CK.out).mono ?_
 clear CK V0
 rintro e w1 ⟨rfl,hb1⟩
 have HB1 := LH (HB0.out.trans (hb1.mono HB0.out.size))
 have Y0 := LH (HX0.out.later hb1)
 have Y1 := LH (HX1.out.later hb1)
 have Y2 := LH (HX2.out.later hb1)
 have Y3 := LH (HX3.out.later hb1)
 have CA1 := LH (HA1.out w1 HB1.out)
 have CA2 := LH (HA2.out w1 HB1.out)
 have HS1 : Hid (w.heap.size + 4 <= w1.heap.size) := by have := hb1.size; have := HS0.out; show _ <= _; omega
 obtain ⟨y1,-⟩ := Y1.out.one
 obtain ⟨y2,-⟩ := Y2.out.one
 clear hb1 HX0 HX1 HX2 HX3 HA1 HA2 HB0 HS0
 go_wp2_with fail
 refine (show Calls Tryz.prog 76 #[_,.int .i64 257,.int .i64 286] _ _ from CA1.out).mono ?_
 clear CA1
 rintro e w1x ⟨rfl,rfl⟩
 go_wp2_with fail
 refine (show Calls Tryz.prog 76 #[_,.int .i64 1,.int .i64 30] _ _ from CA2.out).mono ?_
 clear CA2
 rintro e w1x ⟨rfl,rfl⟩
 obtain ⟨W2,hW2⟩ : ∃ W,W = w1.alloc (.cells #[.slice none 0 0,.int .i64 0] 64) := ⟨_,rfl⟩
 have hb2 : Below w1.heap.size w1 W2 := by rw [hW2]; exact below1 w1 _
 have hv2 : Has W2 w1.heap.size (.cells #[.slice none 0 0,.int .i64 0] 64) := by rw [hW2]; exact Has.new w1 _
 have hb3 := below1 W2 (.cells #[.int .i64 0] 23)
 have hbw : Below w.heap.size w (W2.alloc (.cells #[.int .i64 0] 23)) := HB1.out.trans ((hb2.trans (hb3.mono hb2.size)).mono HB1.out.size)
 have hcall := HP1.out w1.heap.size (W2.alloc (.cells #[.int .i64 0] 23)) hbw ((Y1.out.later hb2).later hb3) ((Y2.out.later hb2).later hb3) ((Y0.out.later hb2).later hb3) (hv2.later hb3)
 have hEr : Has (W2.alloc (.cells #[.int .i64 0] 23)) W2.heap.size (.cells #[.int .i64 0] 23 (0,0)) := Has.new W2 _
 have hs2 : W2.heap.size = w1.heap.size + 1 := by rw [hW2]; simp
 have CT := LH (caught_ok 78 #[.pointer (some ⟨w.heap.size + 1,0,none⟩),.pointer (some ⟨w.heap.size + 2,0,none⟩),.pointer (some ⟨w.heap.size,0,none⟩),.pointer (some ⟨w1.heap.size,0,none⟩)] W2 (fun W' => HdV (W2.alloc (.cells #[.int .i64 0] 23)).heap.size W' w1.heap.size L D /\ Only w1.heap.size (W2.alloc (.cells #[.int .i64 0] 23)) W') (fun _ _ => rfl) (hcall.mono fun e w' hp => ⟨hp.1,hEr.only hp.2.2 (by omega),hp.2.1,hp.2.2⟩))
 have V2 := LH hW2
 have HW2 := LH (And.intro hs2 hb2)
 have HBW := LH hbw
 have Z3 := LH ((Y3.out.later hb2).later hb3)
 clear hW2 hb2 hv2 hb3 hbw hcall hEr hs2 HP1 y1 y2 Y0 Y1 Y2 Y3
 go_wp2_with fail
 rw [<- V2.out]
 refine CT.out.mono ?_
 clear CT V2
 rintro e w3 ⟨rfl,w4,⟨hdv,ho4⟩,rfl⟩
 obtain ⟨C,c,g,m,hgB,hHV,hvb,hsl⟩ := hdv
 have hz2 := HW2.out.1
 have hs1 := HS1.out
 have hz4 := ho4.size
 have hsz3 : (W2.alloc (.cells #[.int .i64 0] 23)).heap.size = W2.heap.size + 1 := by simp
 obtain ⟨row,hrow⟩ : ∃ x,x = If.headRow L D C c (rnL (L ++ D)) := ⟨_,rfl⟩
 rw [<- hrow] at hvb hsl
 have z4 := (Z3.out.only ho4 (by omega))
 obtain ⟨w5,hw5⟩ : ∃ W,W = w4.setCell ⟨W2.heap.size,0,none⟩ (.int .i64 0) := ⟨_,rfl⟩
 have hvb5 : Has w5 w1.heap.size (.cells #[.slice (some ⟨g,0,none⟩) m m,.int .i64 (row.length : Int)] 64) := by rw [hw5]; exact hvb.set (a := ⟨W2.heap.size,0,none⟩) (by show w1.heap.size ≠ W2.heap.size; omega) _
 have hz5 : Has w5 (w.heap.size + 3) (.cells #[.slice none 0 0,.int .i64 0] 64) := by rw [hw5]; exact z4.set (a := ⟨W2.heap.size,0,none⟩) (by show w.heap.size + 3 ≠ W2.heap.size; omega) _
 have hsl5 : Sl w5 (.slice (some ⟨g,0,none⟩) m m) (Bs.pack row) := by rw [hw5]; exact sl_set9 hsl (by omega) 0 _
 have hbf : Below w.heap.size w w5 := by
  have h4 : Below w.heap.size w w4 := HBW.out.trans ⟨ho4.os,ho4.tape,ho4.output,ho4.size,fun k hk => ho4.block k (by have := HBW.out.size; omega) (by omega)⟩
  rw [hw5]
  exact h4.setCell (p := ⟨W2.heap.size,0,none⟩) (by show w.heap.size <= W2.heap.size; omega) _
 have V5 := LH hw5
 have HROW := LH hrow
 have HHV := LH hHV
 obtain ⟨nr,hnr⟩ : ∃ x,x = row.length := ⟨_,rfl⟩
 rw [<- hnr] at hvb5
 have HNR := LH hnr
 obtain ⟨v0,v1,-,-⟩ := hvb5.two
 obtain ⟨z0,z1,z2,z3⟩ := hz5.two
 have hfin : Has ((w5.setCell ⟨w.heap.size + 3,0,none⟩ (.slice (some ⟨g,0,none⟩) m m)).setCell ⟨w.heap.size + 3,1,none⟩ (.int .i64 (nr : Int))) (w.heap.size + 3) (.cells #[.slice (some ⟨g,0,none⟩) m m,.int .i64 (nr : Int)] 64) := by
  have h := (hz5.setSelf (i := 0) (.slice (some ⟨g,0,none⟩) m m)).setSelf (i := 1) (.int .i64 (nr : Int))
  simpa using h
 obtain ⟨e0,e1,-,-⟩ := hfin.two
 have HSF := LH (sl_set9 (sl_set9 hsl5 (show g ≠ w.heap.size + 3 by omega) 0 (.slice (some ⟨g,0,none⟩) m m)) (show g ≠ w.heap.size + 3 by omega) 1 (.int .i64 (nr : Int)))
 have HBF := LH (set2_below hbf (w.heap.size + 3) (by omega) (.slice (some ⟨g,0,none⟩) m m) (.int .i64 (nr : Int)))
 clear hgB hHV hvb hsl hz2 hs1 hz4 hsz3 hrow z4 hw5 hvb5 hz5 hsl5 hbf hnr hfin ho4 Z3 HBW HW2 HS1
 rw [<- V5.out]
 clear V5
 go_wp2_with fail
 refine bodyPost_ret (v := .tuple #[.agg #[.slice (some ⟨g,0,none⟩) m m,.int .i64 (nr : Int)],.int .i64 0]) (by simp [results,Tryz.results43,go_sem,e0,e1]) rfl ⟨C,c,g,m,HHV.out,?_,?_,HBF.out⟩
 ·rw [<- HROW.out,<- HNR.out]
 ·rw [<- HROW.out]; exact HSF.out
end
section
open Go.RowKit
namespace If
theorem bb_append (a b : List Nat) : bb (a ++ b) = bb a ++ bb b := by
 apply List.ext_getElem?
 intro i
 by_cases h : i < 8 * a.length
 ·rw [List.getElem?_append_left (by rw [bb_length]; exact h)]
  unfold bb Bs.bitsFrom
  rw [List.getElem?_map,List.getElem?_map,List.getElem?_range (by rw [List.length_append]; omega),List.getElem?_range h,Option.map_some,Option.map_some,List.getElem?_append_left (by omega)]
 ·rw [List.getElem?_append_right (by rw [bb_length]; omega),bb_length]
  by_cases h2 : i < 8 * (a ++ b).length
  ·rw [List.length_append] at h2
   unfold bb Bs.bitsFrom
   rw [List.getElem?_map,List.getElem?_map,List.getElem?_range (by rw [List.length_append]; omega),List.getElem?_range (by omega),Option.map_some,Option.map_some,List.getElem?_append_right (by omega)]
   rw [show (i - 8 * a.length) / 8 = i / 8 - a.length by omega,show (i - 8 * a.length) % 8 = i % 8 by omega]
  ·rw [List.getElem?_eq_none (by rw [bb_length]; omega),List.getElem?_eq_none (by rw [bb_length]; rw [List.length_append] at h2; omega)]
theorem bb_one (x : Nat) : bb [x] = Bs.bitsOf x 8 := by
 unfold bb Bs.bitsFrom Bs.bitsOf
 apply List.map_congr_left
 intro i hi
 rw [List.mem_range] at hi
 have : i < 8 := by simpa using hi
 rw [show i / 8 = 0 by omega,show i % 8 = i by omega]
 rfl
theorem bitsOf_add (v a b : Nat) : Bs.bitsOf v (a + b) = Bs.bitsOf v a ++ Bs.bitsOf (v / 2 ^ a) b := by
 unfold Bs.bitsOf
 rw [List.range_add,List.map_append,List.map_map]
 congr 1
 apply List.map_congr_left
 intro i _
 simp [Nat.testBit_div_two_pow,Nat.add_comm]
theorem bitsOf_mod (v n : Nat) : Bs.bitsOf (v % 2 ^ n) n = Bs.bitsOf v n := by
 unfold Bs.bitsOf
 apply List.map_congr_left
 intro i hi
 rw [List.mem_range] at hi
 rw [Nat.testBit_mod_two_pow]
 simp [hi]
theorem bits16 (n : Nat) : Bs.bitsOf n 16 = bb [n % 256,n / 256] := by
 rw [show [n % 256,n / 256] = [n % 256] ++ [n / 256] from rfl,bb_append,bb_one,bb_one,show (16 : Nat) = 8 + 8 from rfl,bitsOf_add]
 congr 1
 exact (bitsOf_mod n 8).symm
def stoBits (last : Bool) (x : List Nat) : List Bool := begBits last 0 ++ (Bs.bitsOf 0 5 ++ (Bs.bitsOf x.length 16 ++ (Bs.bitsOf (65535 - x.length) 16 ++ bb x)))
theorem stoBits_is (last : Bool) (x : List Nat) (h : x.length < 65536) : stoBits last x = bb (blk last.toNat x) := by
 unfold stoBits blk
 rw [bits16,bits16]
 have e : begBits last 0 ++ (Bs.bitsOf 0 5 ++ (bb [x.length % 256,x.length / 256] ++ (bb [(65535 - x.length) % 256,(65535 - x.length) / 256] ++ bb x))) = bb [last.toNat] ++ (bb [x.length % 256,x.length / 256] ++ (bb [(65535 - x.length) % 256,(65535 - x.length) / 256] ++ bb x)) := by
  rw [<- List.append_assoc]
  congr 1
  rw [bb_one]
  cases last <;> decide
 rw [e,<- bb_append,<- bb_append,<- bb_append,show (65535 - x.length) % 256 = 255 - x.length % 256 by omega,show (65535 - x.length) / 256 = 255 - x.length / 256 by omega]
 rfl
theorem stoBits_length (last : Bool) (x : List Nat) (h : x.length < 65536) : (stoBits last x).length = 8 * (5 + x.length) := by rw [stoBits_is last x h,bb_length,blk_length]
end If
theorem stored_lay {w0 w : World} {T : Nat} {tv : Value} {l : List Bool} (h : Ly w0 w T tv l) (last : Bool) (a : Option Addr) (n c : Nat) (x : List Nat) (hs : ∀ W,Below T w0 W -> Sl W (.slice a n c) x) (hn : n <= 65535) (h9 : l.length <= 10000000) :
  Calls Tryz.prog 27 #[LF T,.bool last,.slice a n c] w (LayPost w0 w T tv (l ++ If.stoBits last x)) := by
 have hlen := (hs w h.b).len.1
 have h8 := sl_byte (hs w h.b)
 have HS := LH hs
 have H8 := LH h8
 have HLEN := LH hlen
 have HB := LH (begin_lay h last 0 (by decide) (by omega))
 have hsub : IntKind.i64.wrap (65535 - (n : Int)) = ((65535 - n : Nat) : Int) := by rw [IntWalk.i64_in _ (by omega)]; omega
 have hsub2 : (65535 - (n : Int)) = ((65535 - n : Nat) : Int) := by omega
 have H0 := LH (Lx.start h)
 clear hs h8 hlen h
 go_enter Tryz.func27,Tryz.ntmps27
 go_wp2_with fail
 refine (show Calls Tryz.prog 29 #[LF T,_,.int .i64 0] _ _ from HB.out).mono ?_
 clear HB
 rintro e w1 ⟨rfl,h1⟩
 have hl1 : (l ++ begBits last 0).length = l.length + 3 := by simp [begBits,Bs.bitsOf_length]
 have H1 := LH (show Lx w0 w tv w1 T (l ++ begBits last 0) from h1)
 have HN := LH (number_lay 0 5 w1 (by decide) (by decide))
 clear h1 H0
 go_wp2_with fail
 refine (show Calls Tryz.prog 59 #[.int .i64 0,.int .i64 5] _ _ from HN.out).mono ?_
 rintro e w2 ⟨a2,m2,c2,rfl,hs2,hb2⟩
 have HL := LH ((H1.out.later hb2).lay _ _ 5 hs2 (by show 5 = _; rw [Bs.bitsOf_length]) (by rw [hl1]; omega))
 clear HN H1 hs2 hb2
 go_wp2_with fail
 refine (show Calls Tryz.prog 57 #[.agg #[_,.int .i64 5],_,_,_,_] _ _ from HL.out).mono ?_
 rintro e w3 ⟨rfl,h3⟩
 have H3 := LH h3
 have HN := LH (number_lay n 16 w3 (by decide) (by omega))
 clear HL h3
 go_wp2_with fail
 refine (show Calls Tryz.prog 59 #[_,.int .i64 16] _ _ from HN.out).mono ?_
 rintro e w4 ⟨a4,m4,c4,rfl,hs4,hb4⟩
 have HL := LH ((H3.out.later hb4).lay _ _ 16 hs4 (by show 16 = _; rw [Bs.bitsOf_length]) (by simp only [List.length_append,Bs.bitsOf_length] at hl1 ⊢; omega))
 clear HN H3 hs4 hb4
 go_wp2_with fail
 refine (show Calls Tryz.prog 57 #[.agg #[_,.int .i64 16],_,_,_,_] _ _ from HL.out).mono ?_
 rintro e w5 ⟨rfl,h5⟩
 have H5 := LH h5
 have HN := LH (number_lay (65535 - n) 16 w5 (by decide) (by omega))
 clear HL h5
 go_wp2_with fail
 refine (show Calls Tryz.prog 59 #[_,.int .i64 16] _ _ from HN.out).mono ?_
 rintro e w6 ⟨a6,m6,c6,rfl,hs6,hb6⟩
 have HL := LH ((H5.out.later hb6).lay _ _ 16 hs6 (by show 16 = _; rw [Bs.bitsOf_length]) (by simp only [List.length_append,Bs.bitsOf_length] at hl1 ⊢; omega))
 clear HN H5 hs6 hb6 hsub hsub2
 go_wp2_with fail
 refine (show Calls Tryz.prog 57 #[.agg #[_,.int .i64 16],_,_,_,_] _ _ from HL.out).mono ?_
 rintro e w7 ⟨rfl,h7⟩
 have hs7 := HS.out w7 h7.b
 have HO := LH (of_any a n c (If.bb x) w7 (by rw [If.bb_pack x H8.out]; exact hs7) (by show _ = _; rw [If.bb_length,<- HLEN.out]) (by omega))
 have H7 := LH h7
 clear HL h7 hs7
 go_wp2_with fail
 refine HO.out.mono ?_
 rintro e w8 ⟨g,m,rfl,hm,hg,hx,hb8⟩
 have hxl : (If.bb x).length = 8 * n := by rw [If.bb_length,HLEN.out]
 rw [hxl] at hm ⊢
 have HL := LH ((H7.out.later hb8).lay (.slice (some ⟨g,0,none⟩) m m) (If.bb x) (8 * n) (Sl.has hx (Bs.pack_lt _) (by rw [Bs.pack_length,hxl]; omega) _ _ (by rw [Bs.pack_length,hxl,hm])) (by show _ = _; rw [hxl]) (by simp only [List.length_append,Bs.bitsOf_length] at hl1 ⊢; omega))
 clear HO H7 hm hg hx hb8 hxl
 go_wp2_with fail
 refine HL.out.mono ?_
 rintro e w9 ⟨rfl,h9'⟩
 have e9 : l ++ begBits last 0 ++ Bs.bitsOf 0 5 ++ Bs.bitsOf n 16 ++ Bs.bitsOf (65535 - n) 16 ++ If.bb x = l ++ If.stoBits last x := by
  unfold If.stoBits
  rw [<- HLEN.out]
  simp only [List.append_assoc]
 rw [e9] at h9'
 have H9 := LH h9'
 clear HL h9' e9
 go_wp2
 exact ⟨rfl,.tuple #[],by simp [results,Tryz.results27,go_sem],H9.out.post⟩
namespace If
def chk2 (x : List Nat) : List (List Nat) := if x.length < 65535 then [x] else [x.take 65535,x.drop 65535]
theorem chk2_ne (x : List Nat) : chk2 x ≠ [] := by unfold chk2; split <;> simp
theorem chk2_flat (x : List Nat) : (chk2 x).flatten = x := by unfold chk2; split <;> simp
theorem chk2_lt (x : List Nat) (h : x.length <= 65536) : ∀ y ∈ chk2 x,y.length < 65536 := by
 unfold chk2
 split
 ·intro y hy; simp at hy; subst hy; omega
 ·intro y hy
  simp at hy
  rcases hy with rfl | rfl
  ·rw [List.length_take]; omega
  ·rw [List.length_drop]; omega
theorem chk2_mem (x : List Nat) : ∀ y ∈ chk2 x,∀ z ∈ y,z ∈ x := by
 unfold chk2
 split
 ·intro y hy z hz; simp at hy; subst hy; exact hz
 ·intro y hy z hz
  simp at hy
  rcases hy with rfl | rfl
  ·exact List.mem_of_mem_take hz
  ·exact List.mem_of_mem_drop hz
def stoS (x : List Nat) : List Nat := strm (chk2 x)
theorem stoS_lt (x : List Nat) (h : x.length <= 65536) (h8 : ∀ z ∈ x,z < 256) : ∀ z ∈ stoS x,z < 256 := strm_lt _ (chk2_lt x h) (fun y hy z hz => h8 z (chk2_mem x y hy z hz))
theorem stoS_decode (x : List Nat) (h : x.length <= 65536) (h8 : ∀ z ∈ x,z < 256) (most : Int) (h1 : (x.length : Int) <= most) (h2 : most <= 65536) : decode (bb (stoS x)) most = (x,(stoS x).length,0) := by
 have := stored_decode (chk2 x) most (chk2_ne x) (chk2_lt x h) (fun y hy z hz => h8 z (chk2_mem x y hy z hz)) (by rw [chk2_flat]; exact h1) h2
 rw [chk2_flat] at this
 exact this
theorem stoS_bits (x : List Nat) (h : x.length <= 65536) : bb (stoS x) = if x.length < 65535 then stoBits true x else stoBits false (x.take 65535) ++ stoBits true (x.drop 65535) := by
 unfold stoS chk2
 split
 ·rw [stoBits_is true x (by omega)]; rfl
 ·rw [stoBits_is false _ (by rw [List.length_take]; omega),stoBits_is true _ (by rw [List.length_drop]; omega),<- bb_append]
  rfl
end If
theorem stored1_lay (w : World) (P : Nat) (a : Option Addr) (n c : Nat) (x : List Nat) (hp : Has w P (.cells #[.slice a n c] 22 (0,0))) (hs : Sl w (.slice a n c) x) (hcp : n <= c) (hn : n <= 65536) :
  Calls Tryz.prog 26 #[LF w.heap.size,.pointer (some ⟨P,0,none⟩)] (boxes w) (LayPost w (boxes w) w.heap.size (.slice none 0 0) (If.bb (If.stoS x))) := by
 have hly := boxes_ly w
 have hlen := hs.len.1
 obtain ⟨c0,_⟩ := (hp.later hly.b).one
 have hpl := hp.lt
 rw [If.stoS_bits x (by omega)]
 by_cases h65 : x.length < 65535
 ·rw [if_pos h65]
  have d1 : decide ((65535 : Int) <= (n : Int)) = false := by simp; omega
  have d1' : decide (65535 <= n) = false := by simp; omega
  have d2 : decide ((n : Int) ≥ 65535) = false := by simp; omega
  have HS := LH (stored_lay hly true a n c x (fun W hb => hs.later hb) (by omega) (by simp))
  clear hly hlen hp hs h65
  go_enter Tryz.func26,Tryz.ntmps26
  go_wp2_with fail
  refine wp_loop_rounds 1 ?_
  rw [rounds_succ]
  go_wp2_with fail
  refine HS.out.mono ?_
  rintro e w1 ⟨rfl,h1⟩
  have H1 := LH (show Lx w (boxes w) (.slice none 0 0) w1 w.heap.size ([] ++ If.stoBits true x) from h1)
  clear h1
  go_wp2
  exact ⟨rfl,.tuple #[],by simp [results,Tryz.results26,go_sem],H1.out.post⟩
 ·rw [if_neg h65]
  have d1 : decide ((65535 : Int) <= (n : Int)) = true := by simp; omega
  have d1' : decide (65535 <= n) = true := by simp; omega
  have d2 : decide ((n : Int) ≥ 65535) = true := by simp; omega
  have e1 : decide ((65535 : Int) <= ((n - 65535 : Nat) : Int)) = false := by simp; omega
  have e1' : decide (65535 <= n - 65535) = false := by simp; omega
  have i1 : (65535 : Int) <= (c : Int) := by omega
  have i2 : (65535 : Int) <= (n : Int) := by omega
  have i3 : 65535 <= c := by omega
  have i4 : 65535 <= n := by omega
  have HS1 := LH (stored_lay hly false a 65535 c (x.take 65535) (fun W hb => sl_take (hs.later hb) 65535 (by omega)) (Nat.le_refl _) (by simp))
  obtain ⟨b,off,rfl,hrow⟩ : ∃ b off,a = some ⟨b,off,none⟩ /\ ∀ W,Sl W (.slice a n c) x -> Sl W (.slice (some ⟨b,off + 65535,none⟩) (n - 65535) (c - 65535)) (x.drop 65535) /\ (n = 65535 -> ∀ q,Sl W (.slice (some q) 0 0) (x.drop 65535)) := by
   obtain ⟨a',len',cap',e,h1,h2,h3,h4,h5⟩ := hs
   injection e with ea el ec
   subst ea el ec
   obtain ⟨b,off,rfl,_,_⟩ := h5 (by omega)
   refine ⟨b,off,rfl,fun W hW => ?_⟩
   obtain ⟨a',len',cap',e,h1,h2,h3,h4,h5⟩ := hW
   injection e with ea el ec
   subst ea el ec
   refine ⟨⟨_,n - 65535,c - 65535,rfl,by rw [List.length_drop]; omega,by omega,fun h => by simp at h,fun z hz => h4 z (List.mem_of_mem_drop hz),fun h0 => ?_⟩,fun h0 q => ?_⟩
   ·obtain ⟨b',off',e,hb,hc⟩ := h5 (by omega)
    injection e with e
    injection e with e1 e2 _
    subst e1 e2
    refine ⟨b,off + 65535,rfl,hb,fun i hi => ?_⟩
    have := hc (65535 + i) (by omega)
    rw [List.getElem?_drop]
    rw [Nat.add_assoc]
    exact this
   ·have hd : x.drop 65535 = [] := by apply List.eq_nil_of_length_eq_zero; rw [List.length_drop]; omega
    rw [hd]
    exact ⟨_,0,0,rfl,rfl,by omega,fun h => by simp at h,(by intro z hz; cases hz),fun h => absurd h (by omega)⟩
  have HROW := LH (fun W (hb : Below w.heap.size w W) => hrow W (hs.later hb))
  have hfl : (If.stoBits false (x.take 65535)).length = 8 * (5 + 65535) := by rw [If.stoBits_length false _ (by rw [List.length_take]; omega),List.length_take]; omega
  have HFL := LH hfl
  have HC0 : Hid (c = 65535 -> n = 65535) := by show _ -> _; omega
  clear hly hlen hp hs h65 hrow hfl
  by_cases hc65 : c = 65535
  ·obtain rfl : n = 65535 := HC0.out hc65
   subst hc65
   go_enter Tryz.func26,Tryz.ntmps26
   go_wp2_with fail
   refine wp_loop_rounds 2 ?_
   rw [rounds_succ]
   go_wp2_with fail
   refine HS1.out.mono ?_
   rintro e w1 ⟨rfl,h1⟩
   have h1' : Lx w (boxes w) (.slice none 0 0) w1 w.heap.size ([] ++ If.stoBits false (x.take 65535)) := h1
   have h2 := h1'.call fun tvi hly => stored_lay hly true (some ⟨b,off,none⟩) 0 0 (x.drop 65535) (fun W hb => (HROW.out W hb).2 (by first | trivial | rfl) _) (by omega) (by rw [List.nil_append,HFL.out]; omega)
   have HS2 := LH h2
   clear h1 h1' h2 HS1
   go_wp2_with fail
   rw [rounds_succ]
   go_wp2_with fail
   refine HS2.out.mono ?_
   rintro e w2 ⟨rfl,h2⟩
   have H2 := LH (show Lx w (boxes w) (.slice none 0 0) w2 w.heap.size (If.stoBits false (x.take 65535) ++ If.stoBits true (x.drop 65535)) from h2)
   clear h2 HS2
   go_wp2
   exact ⟨rfl,.tuple #[],by simp [results,Tryz.results26,go_sem],H2.out.post⟩
  ·go_enter Tryz.func26,Tryz.ntmps26
   go_wp2_with fail
   refine wp_loop_rounds 2 ?_
   rw [rounds_succ]
   go_wp2_with fail
   refine HS1.out.mono ?_
   rintro e w1 ⟨rfl,h1⟩
   have h1' : Lx w (boxes w) (.slice none 0 0) w1 w.heap.size ([] ++ If.stoBits false (x.take 65535)) := h1
   have h2 := h1'.call fun tvi hly => stored_lay hly true (some ⟨b,off + 65535,none⟩) (n - 65535) (c - 65535) (x.drop 65535) (fun W hb => (HROW.out W hb).1) (by omega) (by rw [List.nil_append,HFL.out]; omega)
   have HS2 := LH h2
   clear h1 h1' h2 HS1
   go_wp2_with fail
   rw [rounds_succ]
   go_wp2_with fail
   refine HS2.out.mono ?_
   rintro e w2 ⟨rfl,h2⟩
   have H2 := LH (show Lx w (boxes w) (.slice none 0 0) w2 w.heap.size (If.stoBits false (x.take 65535) ++ If.stoBits true (x.drop 65535)) from h2)
   clear h2 HS2
   go_wp2
   exact ⟨rfl,.tuple #[],by simp [results,Tryz.results26,go_sem],H2.out.post⟩
theorem stored_ok (a : Option Addr) (n c : Nat) (x : List Nat) (w : World) (hs : Sl w (.slice a n c) x) (hcp : n <= c) (hn : n <= 65536) : Calls Tryz.prog 11 #[.slice a n c] w (StrPost w (If.stoS x)) := by
 have hb1 := below1 w (.cells #[.slice a n c] 22)
 have hx := Has.new w (.cells #[.slice a n c] 22)
 have hst := stream_ok 26 #[.pointer (some ⟨w.heap.size,0,none⟩)] Tryz.call26 (w.alloc (.cells #[.slice a n c] 22)) _ (stored1_lay (w.alloc (.cells #[.slice a n c] 22)) w.heap.size a n c x hx (hs.later hb1) hcp hn)
 rw [If.bb_pack _ (If.stoS_lt x (by have := hs.len.1; omega) (sl_byte hs))] at hst
 have HST := LH hst
 have HB := LH hb1
 have d1 : decide ((65536 : Int) < (n : Int)) = false := by simp; omega
 have d1' : decide (65536 < n) = false := by simp; omega
 clear hst hb1 hx hs
 go_enter Tryz.func11,Tryz.ntmps11
 go_wp2_with fail
 refine HST.out.mono ?_
 clear HST
 rintro e w1 ⟨v,rfl,ho,hb⟩
 have HO := LH (own_weaken ho (show w.heap.size <= (w.alloc (.cells #[.slice a n c] 22)).heap.size by simp))
 have HBB := LH (HB.out.trans (hb.mono HB.out.size))
 clear ho hb
 go_wp2
 refine bodyPost_ret (v := .tuple #[v,.int .i64 0]) (by simp [results,Tryz.results11,go_sem]) rfl ⟨_,rfl,HO.out,HBB.out⟩
end
end Go.Proofs.YtmgpcbjciioiaaaGreatDoor
