import Derived.Test.YtmgpcbjciioiaaaGreatDoorWruns
import Derived.Test.YtmgpcbjciioiaaaGreatDoorImost
import Derived.Test.YtmgpcbjciioiaaaGreatDoorLplain
import Derived.Test.YtmgpcbjciioiaaaGreatDoorSone
import Derived.Test.YtmgpcbjciioiaaaGreatDoorSlone
import Derived.Test.YtmgpcbjciioiaaaGreatDoorHsort
import Derived.Test.YtmgpcbjciioiaaaGreatDoorJget
import Derived.Test.YtmgpcbjciioiaaaGreatDoorHrnew
import Derived.Test.YtmgpcbjciioiaaaGreatDoorIstr
namespace Go.Proofs.YtmgpcbjciioiaaaGreatDoor
set_option maxRecDepth 100000
set_option maxHeartbeats 8000000
section
open Go.RowKit Go.Maps Mt
theorem app_num {w : World} {base m : Nat} {v : Value} {xs : List Value} (hown : w.ownsRow base 3 1 v m xs) (x : Int) (g : Nat) (hx : Has w g (.cells #[.int .i64 x] 3 (0,0))) (h1 : m <= 100000) (hb : base <= w.heap.size) :
  ∃ v' w',(Builtin.append_ #[57,57] 57 #[v,.slice (some ⟨g,0,none⟩) 1 1]).run Tryz.prog w = .ok v' w' /\ w'.ownsRow base 3 1 v' (m + 1) (xs ++ [.int .i64 x]) /\ w.grownBy w' v.ownBlock := by
 obtain ⟨i0,hi,hz0,hz1,hz2⟩ := info_parts Tryz.infoInt
 obtain ⟨v',w',hrun,r1,r2,_⟩ := run_append_own (P := Tryz.prog) w base 57 57 3 i0 (.int .i64 0) 1 8 Tryz.underlying57 hi hz0 hz1 hz2 rfl (by decide) v m xs hown ⟨g,0,none⟩ 1 1 [.int .i64 x] rfl
  (fun j u hj => by
   have hj0 : j = 0 := by have := (List.getElem?_eq_some_iff.1 hj).1; simp at this; omega
   subst hj0
   simp only [List.getElem?_cons_zero,Option.some.injEq] at hj
   subst hj
   exact hx.one.1) (fun u hu => by simp at hu; subst hu; rfl) (by unfold maxLen; omega) (by omega) hb
 exact ⟨v',w',hrun,r1,r2⟩
theorem Bt.mk' {w w' : World} {b off base : Nat} {bs : List Nat} (h : Bt w b off bs) (hb : Below base w w') (hbb : b < base) : Bt w' b off bs := ⟨Nat.lt_of_lt_of_le h.1 hb.size,fun j hj => (hb.cell (p := ⟨b,off + j,none⟩) hbb).trans (h.2 j hj)⟩
theorem own_ne_ap {P : Program} {kt : TypeId} {w : World} {base n b size m : Nat} {v : Value} {e : TypeId} {xs : List Value} {f : Value -> Option Value} (h : w.ownsRow base e size v n xs) (hb : Ap P kt w b m f) : v.ownBlock ≠ some b := by
 rcases h.2 with ⟨rfl,_⟩ | ⟨g,cap,cur,rfl,_,hg,_⟩
 ·simp [Value.ownBlock]
 ·intro e'
  simp only [Value.ownBlock,Option.some.injEq] at e'
  subst e'
  obtain ⟨es,cl,hm,_⟩ := hb
  rw [hm] at hg
  cases hg
theorem own_same9 {w w' : World} {e : TypeId} {size n base : Nat} {v : Value} {xs : List Value} (h : w.ownsRow base e size v n xs) (he : ∀ g,v.ownBlock = some g -> w'.heap[g]? = w.heap[g]?) : w'.ownsRow base e size v n xs := by
 refine ⟨h.1,?_⟩
 rcases h.2 with h0 | ⟨g,cap,cur,rfl,h1,h2,h3⟩
 ·exact Or.inl h0
 ·exact Or.inr ⟨g,cap,cur,rfl,h1,(he g rfl).trans h2,h3⟩
def KeepTok (w w' : World) : Prop := ∀ (g : Nat) (cs : Array Value) (fr : Nat × Nat),w.heap[g]? = some (Obj.cells cs 48 fr) -> w'.heap[g]? = some (Obj.cells cs 48 fr)
theorem KeepTok.refl (w : World) : KeepTok w w := fun _ _ _ h => h
theorem KeepTok.trans {a b c : World} (h : KeepTok a b) (k : KeepTok b c) : KeepTok a c := fun g cs fr hg => k g cs fr (h g cs fr hg)
theorem KeepTok.of {a b : World} (h : Below a.heap.size a b) : KeepTok a b := fun g _ _ hg => (h.block g (Array.getElem?_eq_some_iff.1 hg).1).trans hg
theorem KeepTok.set {w : World} {R : Nat} {cs : Array Value} {t : TypeId} {fr : Nat × Nat} (hR : Has w R (.cells cs t fr)) (ht : t ≠ 48) (i : Nat) (v : Value) : KeepTok w (w.setCell ⟨R,i,none⟩ v) := fun g ds fr' hg => by
 refine (Below.heap_setCell w ⟨R,i,none⟩ v g ?_).trans hg
 intro e0
 have e : some (Obj.cells cs t fr) = some (Obj.cells ds 48 fr') := (show w.heap[R]? = _ from hR).symm.trans ((show R = g from e0.symm) ▸ hg)
 simp only [Option.some.injEq,Obj.cells.injEq] at e
 exact ht e.2.1
theorem KeepTok.grown {w w' : World} {base n size : Nat} {e : TypeId} {v : Value} {xs : List Value} (ho : w.ownsRow base e size v n xs) (hg : w.grownBy w' v.ownBlock) (he : e ≠ 48) : KeepTok w w' := fun g cs fr h => by
 refine (hg.block g (Array.getElem?_eq_some_iff.1 h).1 ?_).trans h
 intro e2
 exact own_ne_ty ho (show Has w g (.cells cs 48 fr) from h) (fun e3 => he e3.symm) e2.symm
theorem KeepTok.map {P : Program} {kt : TypeId} {w w' : World} {b m : Nat} {f : Value -> Option Value} (h : Ap P kt w b m f) (ho : Only b w w') : KeepTok w w' := fun g cs fr hg => by
 refine (ho.block g (Array.getElem?_eq_some_iff.1 hg).1 ?_).trans hg
 intro e
 exact h.ne_has (show Has w g (.cells cs 48 fr) from hg) e.symm
theorem lay_mid {base : Nat} {W1 wl w2 : World} {R B k c2 c4 : Nat} {a2 a4 : Option Addr} {bs : List Nat} {f : Value -> Option Value} (o : Obj)
  (q1 : base <= R) (q4 : Ap Tryz.prog 178 W1 B k f) (q6 : W1.ownsRow base 3 1 (.slice a2 k c2) k (az bs k))
  (hbl : Below W1.drew.heap.size W1.drew wl) (hr1 : w2.ownsRow base 3 1 (.slice a4 (k + 1) c4) (k + 1) (az bs k ++ [.int .i64 (az1 bs k k)])) (hr2 : (wl.alloc o).grownBy w2 (Value.slice a2 k c2).ownBlock) (hx2 : Has w2 R (.cells #[.map (some B),.slice a2 k c2] 125 (0,0))) (hB : base <= W1.heap.size) :
  Has (w2.setCell ⟨R,1,none⟩ (.slice a4 (k + 1) c4)) R (.cells #[.map (some B),.slice a4 (k + 1) c4] 125 (0,0)) /\ Ap Tryz.prog 178 (w2.setCell ⟨R,1,none⟩ (.slice a4 (k + 1) c4)) B k f /\
   (w2.setCell ⟨R,1,none⟩ (.slice a4 (k + 1) c4)).ownsRow base 3 1 (.slice a4 (k + 1) c4) (k + 1) (az bs (k + 1)) /\ Below base W1 (w2.setCell ⟨R,1,none⟩ (.slice a4 (k + 1) c4)) /\ KeepTok W1 (w2.setCell ⟨R,1,none⟩ (.slice a4 (k + 1) c4)) := by
 have hml : Ap Tryz.prog 178 wl B k f := (show Ap Tryz.prog 178 W1.drew B k f from q4.same rfl).later hbl
 have hma := hml.alloc o
 have hol := own_stays (own_stays (show W1.drew.ownsRow base 3 1 _ k _ from q6) hbl) (below1 wl o)
 have hm2 : Ap Tryz.prog 178 w2 B k f := hma.same (hr2.block B hma.lt (fun e => own_ne_ap hol hma e.symm))
 have hRB : B ≠ R := hm2.ne_has hx2
 have hb2 : Below base W1 w2 := by
  have h1 : Below base W1 wl := (show Below W1.heap.size W1 wl from ⟨hbl.os,hbl.tape,hbl.output,hbl.size,hbl.block⟩).mono hB
  have hz : base <= (wl.alloc o).heap.size := by have := hbl.size; have h3 : W1.drew.heap.size = W1.heap.size := rfl; simp; omega
  exact (h1.alloc (Nat.le_trans hB h1.size) o).grown hr2 hz (fun q hq => (World.ownsRow.lt hol q hq).1)
 refine ⟨by have := hx2.setSelf (i := 1) (.slice a4 (k + 1) c4); simpa using this,hm2.set hRB _,?_,hb2.setCell (p := ⟨R,1,none⟩) q1 _,(((KeepTok.of (show Below W1.heap.size W1 wl from ⟨hbl.os,hbl.tape,hbl.output,hbl.size,hbl.block⟩)).trans (KeepTok.of (below1 wl o))).trans (KeepTok.grown hol hr2 (by decide))).trans (KeepTok.set hx2 (by decide) 1 _)⟩
 rw [az_succ]
 exact own_same9 hr1 (fun g hg => Below.heap_setCell w2 ⟨R,1,none⟩ _ g (fun e => own_ne_ty hr1 hx2 (by decide) (by rw [hg]; exact congrArg some e)))
theorem lay_put {base : Nat} {W3 w5 : World} {R B k : Nat} {A : Value} {bs : List Nat} {f : Value -> Option Value} (q1 : base <= R) (q2 : base <= B) (hf : Led bs k f) (h3 : Has W3 R (.cells #[.map (some B),A] 125 (0,0))) (hm : Ap Tryz.prog 178 W3 B k f) (ho : W3.ownsRow base 3 1 A (k + 1) (az bs (k + 1)))
  (hm5 : Ap Tryz.prog 178 w5 B (k + 1) (apd f (k3 bs k) (some (.int .i64 (k : Int))))) (h5 : Only B W3 w5) (hB : base <= W3.heap.size) : Pla base w5 R B bs (k + 1) /\ Below base W3 w5 /\ KeepTok W3 w5 :=
 ⟨⟨A,_,q1,q2,h3.only h5 (hm.ne_has h3).symm,hm5,led_step hf,own_same9 ho (fun g hg => h5.block g (World.ownsRow.lt ho g hg).2 (fun e => own_ne_ap ho hm (by rw [hg,e])))⟩,
  ⟨h5.os,h5.tape,h5.output,h5.size,fun i hi => h5.block i (by omega) (by omega)⟩,KeepTok.map hm h5⟩
theorem lay_pla (base : Nat) (R B b off cap n m e : Nat) (bs : List Nat) (w : World) (h : Pla base w R B bs m) (h8 : ∀ x ∈ bs,x < 256) (hbt : Bt w b off bs) (hbb : b < base) (hn : n = bs.length) (h9 : n <= 65536) (he : e <= n) (hm : m <= laid bs e) (hbw : base <= w.heap.size) :
  Calls Tryz.prog 87 #[.pointer (some ⟨R,0,none⟩),.slice (some ⟨b,off,none⟩) n cap,.int .i64 (e : Int)] w fun r w' => r = .returned (.tuple #[]) /\ Pla base w' R B bs (laid bs e) /\ Below base w w' /\ KeepTok w w' := by
 have HBT := LH hbt
 have H8 := LH h8
 have HN := LH hn
 have HM := LH hm
 obtain ⟨A0,f0,q1,q2,q3,q4,q5,q6⟩ := h
 obtain ⟨aA,cA,rfl⟩ := own_slice q6
 obtain ⟨c0,c1,-,f1⟩ := q3.two
 have HP := LH (show Pla base w R B bs m from ⟨_,f0,q1,q2,q3,q4,q5,q6⟩)
 clear h8 hbt q1 q2 q3 q4 q5 q6 hn hm
 go_enter Tryz.func87,Tryz.ntmps87
 go_wp2_with fail
 go_loopw [6] (fun s wr => ∃ k : Nat,s = .int .i64 (k : Int) /\ k <= laid bs e /\ Hid (Pla base wr R B bs k) /\ Hid (Below base w wr /\ KeepTok w wr)) (fun s _ => n - (intOf s).toNat)
 case atStart => exact ⟨m,rfl,HM.out,HP,⟨Below.refl _ _,KeepTok.refl _⟩⟩
 case round =>
  obtain ⟨k,rfl,hk,KP,KB⟩ := hrel
  have hk' := hk
  unfold laid at hk'
  rw [<- HN.out] at hk'
  by_cases hlt : k < e /\ k + 3 <= n
  ·obtain ⟨hlt1,hlt2⟩ := hlt
   have w3 : IntKind.i64.wrap ((k : Int) + 3) = ((k + 3 : Nat) : Int) := by rw [IntWalk.i64_in _ (by omega)]; omega
   have b3 : ((k + 3 : Nat) : Int) <= (n : Int) := by omega
   have HTA := LH (threeAt_ok b off cap n k bs _ (Bt.mk' HBT.out KB.out.1 hbb) HN.out (by omega) (by omega))
   clear hk'
   go_wp2_with fail
   refine HTA.out.mono ?_
   clear HTA
   rintro r w1 ⟨rfl,hb1⟩
   have hbK := below1 w1 (.cells #[.int .u8 ((by' bs k : Nat) : Int),.int .u8 ((by' bs (k + 1) : Nat) : Int),.int .u8 ((by' bs (k + 2) : Nat) : Int)] 178)
   have hnK := Has.new w1 (.cells #[.int .u8 ((by' bs k : Nat) : Int),.int .u8 ((by' bs (k + 1) : Nat) : Int),.int .u8 ((by' bs (k + 2) : Nat) : Int)] 178)
   obtain ⟨W1,hW1⟩ : ∃ W,W = w1.alloc (.cells #[.int .u8 ((by' bs k : Nat) : Int),.int .u8 ((by' bs (k + 1) : Nat) : Int),.int .u8 ((by' bs (k + 2) : Nat) : Int)] 178) := ⟨_,rfl⟩
   rw [<- hW1] at hbK hnK
   have kp := (KP.out.later hb1).later hbK
   have hbW := And.intro (KB.out.1.trans ((hb1.trans (hbK.mono hb1.size)).mono (Nat.le_trans hbw KB.out.1.size))) (KB.out.2.trans ((KeepTok.of hb1).trans (KeepTok.of hbK)))
   have LAT := LH (latest_pla (w := W1.drew) (show Pla base W1.drew R B bs k from kp) H8.out k)
   obtain ⟨A,f,q1,q2,q3,q4,q5,q6⟩ := kp
   obtain ⟨a2,c2,rfl⟩ := own_slice q6
   have hRK : R ≠ w1.heap.size := by
    rintro rfl
    have e : some (Obj.cells _ _ _) = some (Obj.cells _ _ _) := q3.symm.trans hnK
    simp at e
   obtain ⟨p0,p1,-,-⟩ := q3.two
   obtain ⟨u0,u1,u2⟩ := cells3 hnK
   have Q := LH (And.intro q1 (And.intro q2 (And.intro q3 (And.intro q4 (And.intro q5 q6)))))
   have HBW := LH hbW
   have HNK := LH (And.intro hnK hRK)
   have V := LH hW1
   clear hb1 hbK hnK hW1 hbW q1 q2 q3 q4 q5 q6 hRK KP KB w3 b3 c0 c1 f1 HP
   unfold k3 at LAT ⊢
   go_wp2_with fail
   rw [<- V.out]
   refine wp_region_held_drew (S := (fun wx => wx.cell? ⟨w1.heap.size,0,none⟩ = some (.int .u8 ((by' bs k : Nat) : Int)) /\ wx.cell? ⟨w1.heap.size,1,none⟩ = some (.int .u8 ((by' bs (k + 1) : Nat) : Int)) /\ wx.cell? ⟨w1.heap.size,2,none⟩ = some (.int .u8 ((by' bs (k + 2) : Nat) : Int)))) (by kernel_rfl) (show _ from ⟨u0,u1,u2⟩) (fun _ => ?_)
   change wpAnyH _ _ _ _ _ 13 (Array.replicate 13 false) _ _
   refine wpAnyH_take (i := 0) (v := ?_) rfl (by kernel_rfl) (by kernel_rfl) (by kernel_rfl) (fun _ _ _ h => h) (Or.inl ⟨rfl,?hy0⟩) (show _ from ⟨u0,u1,u2⟩) ?_
   case hy0 => intro w' hw'; clear hw'; go_simp; first | done | rfl
   try simp only [Act.put,List.getElem_toArray,List.getElem_cons_zero,List.setIfInBounds_toArray,List.set_cons_zero,List.set_cons_succ]
   refine wpAnyH_take (i := 1) (v := ?_) rfl (by kernel_rfl) (by kernel_rfl) (by kernel_rfl) (fun _ _ _ h => h) (Or.inl ⟨rfl,?hy1⟩) (show _ from ⟨u0,u1,u2⟩) ?_
   case hy1 => intro w' hw'; clear hw'; go_simp; first | done | rfl
   try simp only [Act.put,List.getElem_toArray,List.getElem_cons_zero,List.getElem_cons_succ,List.setIfInBounds_toArray,List.set_cons_zero,List.set_cons_succ]
   refine wpAnyH_take (i := 2) (v := ?_) rfl (by kernel_rfl) (by kernel_rfl) (by kernel_rfl) (fun _ _ _ h => h) (Or.inl ⟨rfl,?hy2⟩) (show _ from ⟨u0,u1,u2⟩) ?_
   case hy2 => intro w' hw'; clear hw'; go_simp; first | done | rfl
   try simp only [Act.put,List.getElem_toArray,List.getElem_cons_zero,List.getElem_cons_succ,List.setIfInBounds_toArray,List.set_cons_zero,List.set_cons_succ]
   refine wpAnyH_take (i := 3) (v := ?_) rfl (by kernel_rfl) (by kernel_rfl) (by kernel_rfl) (fun _ _ _ h => h) (Or.inl ⟨rfl,?hy3⟩) (show _ from ⟨u0,u1,u2⟩) ?_
   case hy3 => intro w' hw'; clear hw'; go_simp; first | done | rfl
   try simp only [Act.put,List.getElem_toArray,List.getElem_cons_zero,List.getElem_cons_succ,List.setIfInBounds_toArray,List.set_cons_zero,List.set_cons_succ]
   refine wpAnyH_take (i := 5) (v := ?_) rfl (by kernel_rfl) (by kernel_rfl) (by kernel_rfl) (fun _ _ _ h => h) (Or.inl ⟨rfl,?hy5⟩) (show _ from ⟨u0,u1,u2⟩) ?_
   case hy5 => intro w' hw'; clear hw'; go_simp; first | done | rfl
   try simp only [Act.put,List.getElem_toArray,List.getElem_cons_zero,List.getElem_cons_succ,List.setIfInBounds_toArray,List.set_cons_zero,List.set_cons_succ]
   refine wpAnyH_take (i := 6) (v := ?_) rfl (by kernel_rfl) (by kernel_rfl) (by kernel_rfl) (fun _ _ _ h => h) (Or.inl ⟨rfl,?hy6⟩) (show _ from ⟨u0,u1,u2⟩) ?_
   case hy6 => intro w' hw'; obtain ⟨e0,e1,e2⟩ := hw'; go_simp; first | done | rfl
   try simp only [Act.put,List.getElem_toArray,List.getElem_cons_zero,List.getElem_cons_succ,List.setIfInBounds_toArray,List.set_cons_zero,List.set_cons_succ]
   refine wpAnyH_ready (rs := [4,7]) (by kernel_rfl) (by simp) ?_
   refine AllReadyH.cons rfl (fun K hK => ?_) (AllReadyH.cons rfl (fun K hK => ?_) AllReadyH.nil)
   ·go_simp
    refine hK.out _ _ (by (first | exact ⟨u0,u1,u2⟩ | exact PL.out.2 | exact PA.out.2 | exact PW.out.2 | exact cells3 (HK2.out.set (a := ⟨R,1,none⟩) (fun e => HNK.out.2 e.symm) _))) (fun _ => ?_)
    clear hK K
    try simp only [Act.put,List.getElem_toArray,List.getElem_cons_zero,List.getElem_cons_succ,List.setIfInBounds_toArray,List.set_cons_zero,List.set_cons_succ]
    refine wpAnyH_ready (rs := [7]) (by kernel_rfl) (by simp) ?_
    refine AllReadyH.cons rfl (fun K hK => ?_) AllReadyH.nil
    go_simp
    refine (show Calls Tryz.prog 128 #[_,.agg #[_,_,_]] _ _ from LAT.out).mono ?_
    rintro r wl ⟨rfl,hbl⟩
    have HBL := LH hbl; have hxl := (show Has W1.drew R _ from Q.out.2.2.1).later hbl; have p1l := hxl.two.2.1; have p1a := (hxl.alloc (.cells #[.int .i64 (az1 bs k k)] 3)).two.2.1; have hol := own_stays (own_stays (show W1.drew.ownsRow base 3 1 _ k _ from Q.out.2.2.2.2.2) hbl) (below1 wl (.cells #[.int .i64 (az1 bs k k)] 3)); obtain ⟨v2,w2,hrun,hr1,hr2⟩ := app_num hol (az1 bs k k) wl.heap.size (Has.new wl _) (by omega) (by have := HBW.out.1.size; have h2 : W1.heap.size <= wl.heap.size := hbl.size; simp; omega); obtain ⟨a4,c4,rfl⟩ := own_slice hr1; have hx2 := (hxl.alloc (.cells #[.int .i64 (az1 bs k k)] 3)).grown hr2 (fun e => own_ne_ty hol (hxl.alloc (.cells #[.int .i64 (az1 bs k k)] 3)) (by decide) e.symm); have p12 := hx2.two.2.1; have f12 := hx2.two.2.2.2; have hkl := (show Has W1.drew w1.heap.size _ from HNK.out.1).later hbl; have hka := hkl.alloc (.cells #[.int .i64 (az1 bs k k)] 3); have hk2 := hka.grown hr2 (fun e => own_ne_ty hol hka (by decide) e.symm); have PL := LH (And.intro p1l (cells3 hkl)); have PA := LH (And.intro (hxl.alloc (.cells #[.int .i64 (az1 bs k k)] 3)).two.2.1 (cells3 hka)); have PW := LH (And.intro p12 (cells3 hk2)); have HK2 := LH hk2; clear hkl hka hk2; have HRUN := LH hrun; have HR2 := LH (And.intro hr1 (And.intro hr2 hx2)); clear hbl hxl hol hrun hr1 hr2 hx2
    dsimp only
    refine hK.out _ _ (by (first | exact ⟨u0,u1,u2⟩ | exact PL.out.2 | exact PA.out.2 | exact PW.out.2 | exact cells3 (HK2.out.set (a := ⟨R,1,none⟩) (fun e => HNK.out.2 e.symm) _))) (fun _ => ?_)
    clear hK K
    try simp only [Act.put,List.getElem_toArray,List.getElem_cons_zero,List.getElem_cons_succ,List.setIfInBounds_toArray,List.set_cons_zero,List.set_cons_succ]
    refine wpAnyH_ready (rs := [8]) (by kernel_rfl) (by simp) ?_
    refine AllReadyH.cons rfl (fun K hK => ?_) AllReadyH.nil
    go_simp
    refine hK.out _ _ (by (first | exact ⟨u0,u1,u2⟩ | exact PL.out.2 | exact PA.out.2 | exact PW.out.2 | exact cells3 (HK2.out.set (a := ⟨R,1,none⟩) (fun e => HNK.out.2 e.symm) _))) (fun _ => ?_)
    clear hK K
    try simp only [Act.put,List.getElem_toArray,List.getElem_cons_zero,List.getElem_cons_succ,List.setIfInBounds_toArray,List.set_cons_zero,List.set_cons_succ]
    refine wpAnyH_ready (rs := [9]) (by kernel_rfl) (by simp) ?_
    refine AllReadyH.cons rfl (fun K hK => ?_) AllReadyH.nil
    refine step_append_known rfl (.tmp 32) (.tmp 36) 57 rfl _ _ _ w2 (by first | rfl | simp [Act.eval,go_sem]) (by first | rfl | simp [Act.eval,go_sem]) HRUN.out ?_
    refine hK.out _ _ (by (first | exact ⟨u0,u1,u2⟩ | exact PL.out.2 | exact PA.out.2 | exact PW.out.2 | exact cells3 (HK2.out.set (a := ⟨R,1,none⟩) (fun e => HNK.out.2 e.symm) _))) (fun _ => ?_)
    clear hK K
    try simp only [Act.put,List.getElem_toArray,List.getElem_cons_zero,List.getElem_cons_succ,List.setIfInBounds_toArray,List.set_cons_zero,List.set_cons_succ]
    refine wpAnyH_take (i := 10) (v := ?_) rfl (by kernel_rfl) (by kernel_rfl) (by kernel_rfl) (fun _ _ _ h => h) (Or.inl ⟨rfl,?hy10⟩) (by (first | exact ⟨u0,u1,u2⟩ | exact PL.out.2 | exact PA.out.2 | exact PW.out.2 | exact cells3 (HK2.out.set (a := ⟨R,1,none⟩) (fun e => HNK.out.2 e.symm) _))) ?_
    case hy10 => intro w' hw'; clear hw'; go_simp; first | done | rfl
    try simp only [Act.put,List.getElem_toArray,List.getElem_cons_zero,List.getElem_cons_succ,List.setIfInBounds_toArray,List.set_cons_zero,List.set_cons_succ]
    refine wpAnyH_take (i := 11) (v := ?_) rfl (by kernel_rfl) (by kernel_rfl) (by kernel_rfl) (fun _ _ _ h => h) (Or.inl ⟨rfl,?hy11⟩) (by (first | exact ⟨u0,u1,u2⟩ | exact PL.out.2 | exact PA.out.2 | exact PW.out.2 | exact cells3 (HK2.out.set (a := ⟨R,1,none⟩) (fun e => HNK.out.2 e.symm) _))) ?_
    case hy11 => intro w' hw'; clear hw'; go_simp; first | done | rfl
    try simp only [Act.put,List.getElem_toArray,List.getElem_cons_zero,List.getElem_cons_succ,List.setIfInBounds_toArray,List.set_cons_zero,List.set_cons_succ]
    refine wpAnyH_ready (rs := [12]) (by kernel_rfl) (by simp) ?_
    refine AllReadyH.cons rfl (fun K hK => ?_) AllReadyH.nil
    go_simp
    refine hK.out _ _ (by (first | exact ⟨u0,u1,u2⟩ | exact PL.out.2 | exact PA.out.2 | exact PW.out.2 | exact cells3 (HK2.out.set (a := ⟨R,1,none⟩) (fun e => HNK.out.2 e.symm) _))) (fun _ => ?_)
    clear hK K
    try simp only [Act.put,List.getElem_toArray,List.getElem_cons_zero,List.getElem_cons_succ,List.setIfInBounds_toArray,List.set_cons_zero,List.set_cons_succ]
    refine wpAnyH_done (by kernel_rfl) ?_ _
    obtain ⟨q1,q2,q3,q4,q5,q6⟩ := Q.out
    obtain ⟨r1,r2,r3⟩ := HR2.out
    have hBW : base <= W1.heap.size := by have := HBW.out.1.size; omega
    obtain ⟨m1,m2,m3,m4,m5⟩ := lay_mid (.cells #[.int .i64 (az1 bs k k)] 3) q1 q4 q6 HBL.out r1 r2 r3 hBW
    have hkx := cells3 (HK2.out.set (a := ⟨R,1,none⟩) (fun e => HNK.out.2 e.symm) (.slice a4 (k + 1) c4))
    obtain ⟨W3,hW3⟩ : ∃ W,W = w2.setCell ⟨R,1,none⟩ (.slice a4 (k + 1) c4) := ⟨_,rfl⟩
    rw [<- hW3] at m1 m2 m3 m4 m5 hkx
    rw [<- hW3]
    obtain ⟨kl,hkl⟩ := k3_key bs H8.out k
    obtain ⟨w5,hup,hm5,ho5,-⟩ := (show Ap Tryz.prog 178 W3.drew B k f from m2.same rfl).store (P := Tryz.prog) three_keyed (t := 123) Tryz.underlying123 (k3 bs k) hkl (.int .i64 (k : Int))
    have hfin := lay_put q1 q2 q5 m1 m2 m3 hm5 (show Only B W3 w5 from ⟨ho5.os,ho5.tape,ho5.output,ho5.size,ho5.block⟩) (by have := m4.size; omega)
    obtain ⟨t0,-,-,-⟩ := m1.two
    obtain ⟨v0,v1,v2⟩ := hkx
    have HF1 := LH hfin.1
    have HF2 := LH (And.intro (HBW.out.1.trans (m4.trans hfin.2.1)) (HBW.out.2.trans (m5.trans hfin.2.2)))
    have HK := LH (show k + 1 <= laid bs e by unfold laid; rw [<- HN.out]; omega)
    unfold k3 at hup
    clear q1 q2 q3 q4 q5 q6 r1 r2 r3 m1 m2 m3 m4 m5 hm5 ho5 hfin hkl hW3 hBW p0 p1 p1l p1a p12 f12 u0 u1 u2
    go_wp2_with fail
    go_region
    go_wp2_with fail
    go_roundw
    case rel => exact ⟨k + 1,by go_num,HK.out,HF1,HF2⟩
    case measure => simp [intOf]; omega
   ·go_simp
    refine (show Calls Tryz.prog 128 #[_,.agg #[_,_,_]] _ _ from LAT.out).mono ?_
    rintro r wl ⟨rfl,hbl⟩
    have HBL := LH hbl; have hxl := (show Has W1.drew R _ from Q.out.2.2.1).later hbl; have p1l := hxl.two.2.1; have p1a := (hxl.alloc (.cells #[.int .i64 (az1 bs k k)] 3)).two.2.1; have hol := own_stays (own_stays (show W1.drew.ownsRow base 3 1 _ k _ from Q.out.2.2.2.2.2) hbl) (below1 wl (.cells #[.int .i64 (az1 bs k k)] 3)); obtain ⟨v2,w2,hrun,hr1,hr2⟩ := app_num hol (az1 bs k k) wl.heap.size (Has.new wl _) (by omega) (by have := HBW.out.1.size; have h2 : W1.heap.size <= wl.heap.size := hbl.size; simp; omega); obtain ⟨a4,c4,rfl⟩ := own_slice hr1; have hx2 := (hxl.alloc (.cells #[.int .i64 (az1 bs k k)] 3)).grown hr2 (fun e => own_ne_ty hol (hxl.alloc (.cells #[.int .i64 (az1 bs k k)] 3)) (by decide) e.symm); have p12 := hx2.two.2.1; have f12 := hx2.two.2.2.2; have hkl := (show Has W1.drew w1.heap.size _ from HNK.out.1).later hbl; have hka := hkl.alloc (.cells #[.int .i64 (az1 bs k k)] 3); have hk2 := hka.grown hr2 (fun e => own_ne_ty hol hka (by decide) e.symm); have PL := LH (And.intro p1l (cells3 hkl)); have PA := LH (And.intro (hxl.alloc (.cells #[.int .i64 (az1 bs k k)] 3)).two.2.1 (cells3 hka)); have PW := LH (And.intro p12 (cells3 hk2)); have HK2 := LH hk2; clear hkl hka hk2; have HRUN := LH hrun; have HR2 := LH (And.intro hr1 (And.intro hr2 hx2)); clear hbl hxl hol hrun hr1 hr2 hx2
    dsimp only
    refine hK.out _ _ (by (first | exact ⟨u0,u1,u2⟩ | exact PL.out.2 | exact PA.out.2 | exact PW.out.2 | exact cells3 (HK2.out.set (a := ⟨R,1,none⟩) (fun e => HNK.out.2 e.symm) _))) (fun _ => ?_)
    clear hK K
    try simp only [Act.put,List.getElem_toArray,List.getElem_cons_zero,List.getElem_cons_succ,List.setIfInBounds_toArray,List.set_cons_zero,List.set_cons_succ]
    refine wpAnyH_ready (rs := [4,8]) (by kernel_rfl) (by simp) ?_
    refine AllReadyH.cons rfl (fun K hK => ?_) (AllReadyH.cons rfl (fun K hK => ?_) AllReadyH.nil)
    ·go_simp
     refine hK.out _ _ (by (first | exact ⟨u0,u1,u2⟩ | exact PL.out.2 | exact PA.out.2 | exact PW.out.2 | exact cells3 (HK2.out.set (a := ⟨R,1,none⟩) (fun e => HNK.out.2 e.symm) _))) (fun _ => ?_)
     clear hK K
     try simp only [Act.put,List.getElem_toArray,List.getElem_cons_zero,List.getElem_cons_succ,List.setIfInBounds_toArray,List.set_cons_zero,List.set_cons_succ]
     refine wpAnyH_ready (rs := [8]) (by kernel_rfl) (by simp) ?_
     refine AllReadyH.cons rfl (fun K hK => ?_) AllReadyH.nil
     go_simp
     refine hK.out _ _ (by (first | exact ⟨u0,u1,u2⟩ | exact PL.out.2 | exact PA.out.2 | exact PW.out.2 | exact cells3 (HK2.out.set (a := ⟨R,1,none⟩) (fun e => HNK.out.2 e.symm) _))) (fun _ => ?_)
     clear hK K
     try simp only [Act.put,List.getElem_toArray,List.getElem_cons_zero,List.getElem_cons_succ,List.setIfInBounds_toArray,List.set_cons_zero,List.set_cons_succ]
     refine wpAnyH_ready (rs := [9]) (by kernel_rfl) (by simp) ?_
     refine AllReadyH.cons rfl (fun K hK => ?_) AllReadyH.nil
     refine step_append_known rfl (.tmp 32) (.tmp 36) 57 rfl _ _ _ w2 (by first | rfl | simp [Act.eval,go_sem]) (by first | rfl | simp [Act.eval,go_sem]) HRUN.out ?_
     refine hK.out _ _ (by (first | exact ⟨u0,u1,u2⟩ | exact PL.out.2 | exact PA.out.2 | exact PW.out.2 | exact cells3 (HK2.out.set (a := ⟨R,1,none⟩) (fun e => HNK.out.2 e.symm) _))) (fun _ => ?_)
     clear hK K
     try simp only [Act.put,List.getElem_toArray,List.getElem_cons_zero,List.getElem_cons_succ,List.setIfInBounds_toArray,List.set_cons_zero,List.set_cons_succ]
     refine wpAnyH_take (i := 10) (v := ?_) rfl (by kernel_rfl) (by kernel_rfl) (by kernel_rfl) (fun _ _ _ h => h) (Or.inl ⟨rfl,?hy10⟩) (by (first | exact ⟨u0,u1,u2⟩ | exact PL.out.2 | exact PA.out.2 | exact PW.out.2 | exact cells3 (HK2.out.set (a := ⟨R,1,none⟩) (fun e => HNK.out.2 e.symm) _))) ?_
     case hy10 => intro w' hw'; clear hw'; go_simp; first | done | rfl
     try simp only [Act.put,List.getElem_toArray,List.getElem_cons_zero,List.getElem_cons_succ,List.setIfInBounds_toArray,List.set_cons_zero,List.set_cons_succ]
     refine wpAnyH_take (i := 11) (v := ?_) rfl (by kernel_rfl) (by kernel_rfl) (by kernel_rfl) (fun _ _ _ h => h) (Or.inl ⟨rfl,?hy11⟩) (by (first | exact ⟨u0,u1,u2⟩ | exact PL.out.2 | exact PA.out.2 | exact PW.out.2 | exact cells3 (HK2.out.set (a := ⟨R,1,none⟩) (fun e => HNK.out.2 e.symm) _))) ?_
     case hy11 => intro w' hw'; clear hw'; go_simp; first | done | rfl
     try simp only [Act.put,List.getElem_toArray,List.getElem_cons_zero,List.getElem_cons_succ,List.setIfInBounds_toArray,List.set_cons_zero,List.set_cons_succ]
     refine wpAnyH_ready (rs := [12]) (by kernel_rfl) (by simp) ?_
     refine AllReadyH.cons rfl (fun K hK => ?_) AllReadyH.nil
     go_simp
     refine hK.out _ _ (by (first | exact ⟨u0,u1,u2⟩ | exact PL.out.2 | exact PA.out.2 | exact PW.out.2 | exact cells3 (HK2.out.set (a := ⟨R,1,none⟩) (fun e => HNK.out.2 e.symm) _))) (fun _ => ?_)
     clear hK K
     try simp only [Act.put,List.getElem_toArray,List.getElem_cons_zero,List.getElem_cons_succ,List.setIfInBounds_toArray,List.set_cons_zero,List.set_cons_succ]
     refine wpAnyH_done (by kernel_rfl) ?_ _
     obtain ⟨q1,q2,q3,q4,q5,q6⟩ := Q.out
     obtain ⟨r1,r2,r3⟩ := HR2.out
     have hBW : base <= W1.heap.size := by have := HBW.out.1.size; omega
     obtain ⟨m1,m2,m3,m4,m5⟩ := lay_mid (.cells #[.int .i64 (az1 bs k k)] 3) q1 q4 q6 HBL.out r1 r2 r3 hBW
     have hkx := cells3 (HK2.out.set (a := ⟨R,1,none⟩) (fun e => HNK.out.2 e.symm) (.slice a4 (k + 1) c4))
     obtain ⟨W3,hW3⟩ : ∃ W,W = w2.setCell ⟨R,1,none⟩ (.slice a4 (k + 1) c4) := ⟨_,rfl⟩
     rw [<- hW3] at m1 m2 m3 m4 m5 hkx
     rw [<- hW3]
     obtain ⟨kl,hkl⟩ := k3_key bs H8.out k
     obtain ⟨w5,hup,hm5,ho5,-⟩ := (show Ap Tryz.prog 178 W3.drew B k f from m2.same rfl).store (P := Tryz.prog) three_keyed (t := 123) Tryz.underlying123 (k3 bs k) hkl (.int .i64 (k : Int))
     have hfin := lay_put q1 q2 q5 m1 m2 m3 hm5 (show Only B W3 w5 from ⟨ho5.os,ho5.tape,ho5.output,ho5.size,ho5.block⟩) (by have := m4.size; omega)
     obtain ⟨t0,-,-,-⟩ := m1.two
     obtain ⟨v0,v1,v2⟩ := hkx
     have HF1 := LH hfin.1
     have HF2 := LH (And.intro (HBW.out.1.trans (m4.trans hfin.2.1)) (HBW.out.2.trans (m5.trans hfin.2.2)))
     have HK := LH (show k + 1 <= laid bs e by unfold laid; rw [<- HN.out]; omega)
     unfold k3 at hup
     clear q1 q2 q3 q4 q5 q6 r1 r2 r3 m1 m2 m3 m4 m5 hm5 ho5 hfin hkl hW3 hBW p0 p1 p1l p1a p12 f12 u0 u1 u2
     go_wp2_with fail
     go_region
     go_wp2_with fail
     go_roundw
     case rel => exact ⟨k + 1,by go_num,HK.out,HF1,HF2⟩
     case measure => simp [intOf]; omega
    ·go_simp
     refine hK.out _ _ (by (first | exact ⟨u0,u1,u2⟩ | exact PL.out.2 | exact PA.out.2 | exact PW.out.2 | exact cells3 (HK2.out.set (a := ⟨R,1,none⟩) (fun e => HNK.out.2 e.symm) _))) (fun _ => ?_)
     clear hK K
     try simp only [Act.put,List.getElem_toArray,List.getElem_cons_zero,List.getElem_cons_succ,List.setIfInBounds_toArray,List.set_cons_zero,List.set_cons_succ]
     refine wpAnyH_ready (rs := [4]) (by kernel_rfl) (by simp) ?_
     refine AllReadyH.cons rfl (fun K hK => ?_) AllReadyH.nil
     go_simp
     refine hK.out _ _ (by (first | exact ⟨u0,u1,u2⟩ | exact PL.out.2 | exact PA.out.2 | exact PW.out.2 | exact cells3 (HK2.out.set (a := ⟨R,1,none⟩) (fun e => HNK.out.2 e.symm) _))) (fun _ => ?_)
     clear hK K
     try simp only [Act.put,List.getElem_toArray,List.getElem_cons_zero,List.getElem_cons_succ,List.setIfInBounds_toArray,List.set_cons_zero,List.set_cons_succ]
     refine wpAnyH_ready (rs := [9]) (by kernel_rfl) (by simp) ?_
     refine AllReadyH.cons rfl (fun K hK => ?_) AllReadyH.nil
     refine step_append_known rfl (.tmp 32) (.tmp 36) 57 rfl _ _ _ w2 (by first | rfl | simp [Act.eval,go_sem]) (by first | rfl | simp [Act.eval,go_sem]) HRUN.out ?_
     refine hK.out _ _ (by (first | exact ⟨u0,u1,u2⟩ | exact PL.out.2 | exact PA.out.2 | exact PW.out.2 | exact cells3 (HK2.out.set (a := ⟨R,1,none⟩) (fun e => HNK.out.2 e.symm) _))) (fun _ => ?_)
     clear hK K
     try simp only [Act.put,List.getElem_toArray,List.getElem_cons_zero,List.getElem_cons_succ,List.setIfInBounds_toArray,List.set_cons_zero,List.set_cons_succ]
     refine wpAnyH_take (i := 10) (v := ?_) rfl (by kernel_rfl) (by kernel_rfl) (by kernel_rfl) (fun _ _ _ h => h) (Or.inl ⟨rfl,?hy10⟩) (by (first | exact ⟨u0,u1,u2⟩ | exact PL.out.2 | exact PA.out.2 | exact PW.out.2 | exact cells3 (HK2.out.set (a := ⟨R,1,none⟩) (fun e => HNK.out.2 e.symm) _))) ?_
     case hy10 => intro w' hw'; clear hw'; go_simp; first | done | rfl
     try simp only [Act.put,List.getElem_toArray,List.getElem_cons_zero,List.getElem_cons_succ,List.setIfInBounds_toArray,List.set_cons_zero,List.set_cons_succ]
     refine wpAnyH_take (i := 11) (v := ?_) rfl (by kernel_rfl) (by kernel_rfl) (by kernel_rfl) (fun _ _ _ h => h) (Or.inl ⟨rfl,?hy11⟩) (by (first | exact ⟨u0,u1,u2⟩ | exact PL.out.2 | exact PA.out.2 | exact PW.out.2 | exact cells3 (HK2.out.set (a := ⟨R,1,none⟩) (fun e => HNK.out.2 e.symm) _))) ?_
     case hy11 => intro w' hw'; clear hw'; go_simp; first | done | rfl
     try simp only [Act.put,List.getElem_toArray,List.getElem_cons_zero,List.getElem_cons_succ,List.setIfInBounds_toArray,List.set_cons_zero,List.set_cons_succ]
     refine wpAnyH_ready (rs := [12]) (by kernel_rfl) (by simp) ?_
     refine AllReadyH.cons rfl (fun K hK => ?_) AllReadyH.nil
     go_simp
     refine hK.out _ _ (by (first | exact ⟨u0,u1,u2⟩ | exact PL.out.2 | exact PA.out.2 | exact PW.out.2 | exact cells3 (HK2.out.set (a := ⟨R,1,none⟩) (fun e => HNK.out.2 e.symm) _))) (fun _ => ?_)
     clear hK K
     try simp only [Act.put,List.getElem_toArray,List.getElem_cons_zero,List.getElem_cons_succ,List.setIfInBounds_toArray,List.set_cons_zero,List.set_cons_succ]
     refine wpAnyH_done (by kernel_rfl) ?_ _
     obtain ⟨q1,q2,q3,q4,q5,q6⟩ := Q.out
     obtain ⟨r1,r2,r3⟩ := HR2.out
     have hBW : base <= W1.heap.size := by have := HBW.out.1.size; omega
     obtain ⟨m1,m2,m3,m4,m5⟩ := lay_mid (.cells #[.int .i64 (az1 bs k k)] 3) q1 q4 q6 HBL.out r1 r2 r3 hBW
     have hkx := cells3 (HK2.out.set (a := ⟨R,1,none⟩) (fun e => HNK.out.2 e.symm) (.slice a4 (k + 1) c4))
     obtain ⟨W3,hW3⟩ : ∃ W,W = w2.setCell ⟨R,1,none⟩ (.slice a4 (k + 1) c4) := ⟨_,rfl⟩
     rw [<- hW3] at m1 m2 m3 m4 m5 hkx
     rw [<- hW3]
     obtain ⟨kl,hkl⟩ := k3_key bs H8.out k
     obtain ⟨w5,hup,hm5,ho5,-⟩ := (show Ap Tryz.prog 178 W3.drew B k f from m2.same rfl).store (P := Tryz.prog) three_keyed (t := 123) Tryz.underlying123 (k3 bs k) hkl (.int .i64 (k : Int))
     have hfin := lay_put q1 q2 q5 m1 m2 m3 hm5 (show Only B W3 w5 from ⟨ho5.os,ho5.tape,ho5.output,ho5.size,ho5.block⟩) (by have := m4.size; omega)
     obtain ⟨t0,-,-,-⟩ := m1.two
     obtain ⟨v0,v1,v2⟩ := hkx
     have HF1 := LH hfin.1
     have HF2 := LH (And.intro (HBW.out.1.trans (m4.trans hfin.2.1)) (HBW.out.2.trans (m5.trans hfin.2.2)))
     have HK := LH (show k + 1 <= laid bs e by unfold laid; rw [<- HN.out]; omega)
     unfold k3 at hup
     clear q1 q2 q3 q4 q5 q6 r1 r2 r3 m1 m2 m3 m4 m5 hm5 ho5 hfin hkl hW3 hBW p0 p1 p1l p1a p12 f12 u0 u1 u2
     go_wp2_with fail
     go_region
     go_wp2_with fail
     go_roundw
     case rel => exact ⟨k + 1,by go_num,HK.out,HF1,HF2⟩
     case measure => simp [intOf]; omega
  ·have hkl : k = laid bs e := by unfold laid at hk ⊢; rw [<- HN.out] at hk ⊢; omega
   have HKL := LH hkl
   have KP2 := LH (show Pla base _ R B bs (laid bs e) from hkl ▸ KP.out)
   clear hk hkl KP hk'
   by_cases h1 : k < e
   ·have w3 : IntKind.i64.wrap ((k : Int) + 3) = ((k + 3 : Nat) : Int) := by rw [IntWalk.i64_in _ (by omega)]; omega
    have b3 : ¬ ((k + 3 : Nat) : Int) <= (n : Int) := by omega
    go_wp2_with fail
    go_end0
    exact ⟨rfl,KP2.out,KB.out⟩
   ·go_wp2_with fail
    go_end0
    exact ⟨rfl,KP2.out,KB.out⟩
end
section
open Go.RowKit
namespace Rn
theorem alk_stop (ls : List Nat) (c : Nat) : ∀ (k n i : Nat),k <= n -> (∀ j,j < k -> at1 ls (i + j) = c) -> (k = n ∨ at1 ls (i + k) ≠ c) -> alk ls c n i = k
 | 0,n,i,_,_,h2 => by
  cases n with
  | zero => rfl
  | succ n =>
   simp only [alk]
   rw [if_neg (by rcases h2 with h | h; · omega
                  ·exact h)]
 | k + 1,n,i,h,h1,h2 => by
  obtain ⟨n',rfl⟩ : ∃ n',n = n' + 1 := ⟨n - 1,by omega⟩
  simp only [alk]
  have e0 := h1 0 (by omega)
  rw [Nat.add_zero] at e0
  rw [if_pos e0,alk_stop ls c k n' (i + 1) (by omega) (fun j hj => by have := h1 (j + 1) (by omega); rwa [show i + (j + 1) = i + 1 + j by omega] at this)
   (by rcases h2 with h2 | h2
       ·exact Or.inl (by omega)
       ·exact Or.inr (by rwa [show i + (k + 1) = i + 1 + k by omega] at h2))]
end Rn
theorem alike1_is (T b off m cap : Nat) (z c : Int) (w : World) (hx : w.cell? ⟨T,0,none⟩ = some (.slice (some ⟨b,off,none⟩) m cap)) (hm : 0 < m) (hc : w.cell? ⟨b,off,none⟩ = some (.int .i64 c)) :
  Calls Tryz.prog 207 #[.int .i64 z,.pointer (some ⟨T,0,none⟩)] w fun e w' => e = .returned (.bool (z != c)) /\ w = w' := by
 have i1 : (0 : Int) < (m : Int) := by omega
 go_enter Tryz.func207,Tryz.ntmps207
 go_wp2
 go_ret
 exact ⟨rfl,rfl⟩
def AlkPost (w : World) (m k : Nat) (e : Ending) (w' : World) : Prop := e = .returned (.int .i64 (if k = m then -1 else (k : Int))) /\ w = w'
theorem index_alike (ls : List Nat) (i m T b off cap : Nat) (w : World) (hm : m = ls.length - i) (hi : i < ls.length) (hx : w.cell? ⟨T,0,none⟩ = some (.slice (some ⟨b,off,none⟩) m cap)) (hl : ls.length <= 1000)
  (hc : ∀ j,j < m -> w.cell? ⟨b,off + j,none⟩ = some (.int .i64 ((Rn.at1 ls (i + j) : Nat) : Int))) :
  Calls Tryz.prog 156 #[.slice (some ⟨b,off,none⟩) m cap,.func (.func 207) #[] #[.pointer (some ⟨T,0,none⟩)]] w (AlkPost w m (Rn.run ls i)) := by
 have h0 := hc 0 (by omega)
 rw [Nat.add_zero,Nat.add_zero] at h0
 obtain ⟨c,hcc⟩ : ∃ c,c = Rn.at1 ls i := ⟨_,rfl⟩
 rw [<- hcc] at h0
 have m0 : 0 < m := by omega
 have m9 : m <= 1000 := by omega
 have HCL := LH (fun z => alike1_is T b off m cap z c w hx m0 h0)
 have HC := LH hc
 have HM := LH (fun _ : Unit => hm)
 have HCC := LH (fun _ : Unit => hcc)
 clear hx hc h0 hm hi hl hcc
 go_enter Tryz.func156,Tryz.ntmps156
 go_wp2
 go_loop [8] (fun s8 => ∃ k : Nat,k <= m /\ s8 = .int .i64 (k : Int) /\ Hid (∀ j,j < k -> Rn.at1 ls (i + j) = c)) (fun s => m - (intOf s).toNat)
 case atStart => exact ⟨0,Nat.zero_le _,rfl,fun i hi => by omega⟩
 case round =>
  obtain ⟨k,hk,rfl,KB⟩ := hrel
  by_cases hlt : k < m
  ·have hck := HC.out k hlt
   obtain ⟨z,hz⟩ : ∃ z,z = Rn.at1 ls (i + k) := ⟨_,rfl⟩
   rw [<- hz] at hck
   have HK := LH (fun _ : Unit => hz)
   clear hz
   by_cases hb : z = c
   ·have hne : (((z : Nat) : Int) != (c : Int)) = false := by simp; omega
    have KN : Hid (∀ j,j < k + 1 -> Rn.at1 ls (i + j) = c) := fun j hj => by
     by_cases e : j = k
     ·subst e; rw [<- HK.out ()]; exact hb
     ·exact KB.out j (by omega)
    have HCZ := LH (HCL.out z)
    rw [hne] at HCZ
    clear hb KB hne
    go_wp2_with (go_at_call 207; refine HCZ.out.mono ?_; rintro e w' ⟨rfl,rfl⟩)
    go_round
    case rel => exact ⟨k + 1,by omega,by go_num,KN⟩
    case measure => simp [intOf]; omega
   ·have hne : (((z : Nat) : Int) != (c : Int)) = true := by rw [bne_iff_ne]; omega
    have HR : Hid (Unit -> Rn.run ls i = k) := fun _ => by
     unfold Rn.run
     rw [<- HCC.out (),<- HM.out ()]
     exact Rn.alk_stop ls c k m i (by omega) KB.out (Or.inr (by rw [<- HK.out ()]; exact hb))
    have HCZ := LH (HCL.out z)
    rw [hne] at HCZ
    clear hb KB hne
    go_wp2_with (go_at_call 207; refine HCZ.out.mono ?_; rintro e w' ⟨rfl,rfl⟩)
    go_ret
    refine ⟨?_,rfl⟩
    rw [HR.out (),if_neg (by omega)]
    rfl
  ·obtain rfl : k = m := by omega
   have HR : Hid (Unit -> Rn.run ls i = k) := fun _ => by
    unfold Rn.run
    rw [<- HCC.out (),<- HM.out ()]
    exact Rn.alk_stop ls c k k i (by omega) KB.out (Or.inl rfl)
   clear KB
   go_wp2
   go_ret
   refine ⟨?_,rfl⟩
   rw [HR.out (),if_pos rfl]
   rfl
theorem alike_is (ls : List Nat) (i m b off cap : Nat) (w : World) (hm : m = ls.length - i) (hi : i < ls.length) (hl : ls.length <= 1000) (hb : b < w.heap.size)
  (hc : ∀ j,j < m -> w.cell? ⟨b,off + j,none⟩ = some (.int .i64 ((Rn.at1 ls (i + j) : Nat) : Int))) :
  Calls Tryz.prog 192 #[.slice (some ⟨b,off,none⟩) m cap] w fun e w' => e = .returned (.int .i64 ((Rn.run ls i : Nat) : Int)) /\ Below w.heap.size w w' := by
 have hb1 := below1 w (.cells #[.slice (some ⟨b,off,none⟩) m cap] 57)
 have hx := (Has.new w (.cells #[.slice (some ⟨b,off,none⟩) m cap] 57)).one.1
 have HI := LH (index_alike ls i m w.heap.size b off cap _ hm hi hx hl (fun j hj => (hb1.cell (p := ⟨b,off + j,none⟩) hb).trans (hc j hj)))
 have hr1 := Rn.run_pos ls i hi
 have hr2 := Rn.run_le ls i
 rw [<- hm] at hr2
 obtain ⟨k,hk⟩ : ∃ k,k = Rn.run ls i := ⟨_,rfl⟩
 rw [<- hk] at HI hr1 hr2 ⊢
 have m9 : m <= 1000 := by omega
 have HB := LH hb1
 clear hk hb1 hm hi hl hb hc
 go_enter Tryz.func192,Tryz.ntmps192
 by_cases e : k = m
 ·subst e
  go_wp2_with (go_at_call 156; refine HI.out.mono ?_; rintro e w' ⟨rfl,rfl⟩; simp only [if_true])
  go_ret
  exact ⟨rfl,HB.out⟩
 ·unfold AlkPost at HI
  rw [if_neg e] at HI
  clear e
  go_wp2_with (go_at_call 156; refine HI.out.mono ?_; rintro e w' ⟨rfl,rfl⟩)
  go_ret
  exact ⟨rfl,HB.out⟩
end
section
open Go.RowKit
theorem jnone_any (ls : List Nat) (s : Value) (w : World) (hz : Zl w s (Hd.zz ls)) : Calls Tryz.prog 127 #[s] w fun e w' => e = .returned (.bool (decide (∀ x ∈ ls,x = 0))) /\ w = w' := by
 have HZ := LH hz
 obtain ⟨a,len,cap,rfl,hlen⟩ := hz.shape
 rw [Hd.zz_length] at hlen
 have hl9 : len <= 17592186044416 := by
  obtain ⟨_,_,_,e,_,h,_⟩ := hz
  injection e with _ e2 _
  rw [e2]; exact h
 have HL := LH hlen
 obtain ⟨r,hr⟩ : ∃ r : Bool,r = decide (∀ x ∈ ls,x = 0) := ⟨_,rfl⟩
 rw [<- hr]
 have HR := LH (fun _ : Unit => hr)
 clear hz hlen hr
 go_enter Tryz.func127,Tryz.ntmps127
 go_wp2_with fail
 go_loop [3] (fun s3 => ∃ k : Nat,k <= len /\ s3 = .int .i64 k /\ Hid (∀ j,j < k -> ls[j]?.getD 0 = 0)) (fun s => len - (intOf s).toNat)
 case atStart => exact ⟨0,Nat.zero_le _,rfl,(fun j hj => absurd hj (Nat.not_lt_zero _) : ∀ j,j < 0 -> _)⟩
 case round =>
  obtain ⟨k,hk,rfl,H0⟩ := hrel
  by_cases hlt : k < len
  ·obtain ⟨b,off,rfl,hbl,hq,hc⟩ := zl_cell HZ.out k (by rw [Hd.zz_length]; have := HL.out; omega)
   rw [Hd.zz_get] at hc
   obtain ⟨x,hx⟩ : ∃ x : Nat,x = ls[k]?.getD 0 := ⟨_,rfl⟩
   rw [<- hx] at hc
   have HX := LH hx
   clear hq hx hbl
   have j1 : (0 : Int) <= (k : Int) := by omega
   have j2 : (k : Int) < (len : Int) := by omega
   by_cases h0 : 0 < x
   ·have d1 : decide ((0 : Int) < (x : Int)) = true := decide_eq_true (by omega)
    have d2 : decide (0 < x) = true := decide_eq_true h0
    have hr : Hid (r = false) := by
     show _ = _
     rw [HR.out ()]
     apply decide_eq_false
     intro h
     have := h x (by rw [HX.out]; rw [List.getElem?_eq_getElem (by have := HL.out; omega)]; exact List.getElem_mem _)
     omega
    clear HR
    go_wp2
    go_ret
    exact ⟨by rw [hr.out]; rfl,rfl⟩
   ·have d1 : decide ((0 : Int) < (x : Int)) = false := decide_eq_false (by omega)
    have d2 : decide (0 < x) = false := decide_eq_false h0
    have N0 : Hid (∀ j,j < k + 1 -> ls[j]?.getD 0 = 0) := fun j hj => by
     by_cases h : j < k
     ·exact H0.out j h
     ·obtain rfl : j = k := by omega
      rw [<- HX.out]; omega
    clear H0
    go_wp2
    go_round
    case rel => exact ⟨k + 1,by omega,by go_num,N0⟩
    case measure => simp [intOf]; omega
  ·obtain rfl : k = len := by omega
   have hr : Hid (r = true) := by
    show _ = _
    rw [HR.out ()]
    apply decide_eq_true
    intro x hx
    obtain ⟨j,hj,rfl⟩ := List.getElem_of_mem hx
    have := H0.out j (by rw [HL.out]; exact hj)
    rw [List.getElem?_eq_getElem hj] at this
    exact this
   clear HR H0
   go_wp2
   go_ret
   exact ⟨by rw [hr.out]; rfl,rfl⟩
def upd (L : List Nat) (k : Nat) : List Nat := L.take k ++ List.replicate (L.length - k) 0
theorem upd_length (L : List Nat) (k : Nat) (h : k <= L.length) : (upd L k).length = L.length := by simp [upd]; omega
theorem upd_full (L : List Nat) : upd L L.length = L := by simp [upd]
theorem upd_set (L : List Nat) (k : Nat) (h : k < L.length) : (upd L k).set k (L[k]?.getD 0) = upd L (k + 1) := by
 unfold upd
 have e1 : (L.take k).length = k := by rw [List.length_take]; omega
 rw [List.set_append_right _ _ (by omega),e1,Nat.sub_self]
 obtain ⟨m,hm⟩ : ∃ m,L.length - k = m + 1 := ⟨L.length - k - 1,by omega⟩
 rw [hm,List.replicate_succ,List.set_cons_zero,List.take_add_one,List.getElem?_eq_getElem h,show L.length - (k + 1) = m by omega,List.append_assoc]
 rfl
theorem fixL_get : ∀ k : Fin 288,If.fixL[k.1]?.getD 0 = if k.1 < 144 ∨ 280 <= k.1 then 8 else if k.1 < 256 then 9 else 7 := by decide +kernel
theorem fixD_get : ∀ k : Fin 32,If.fixD[k.1]?.getD 0 = 5 := by decide +kernel
theorem fixL_len : If.fixL.length = 288 := by decide +kernel
theorem fixD_len : If.fixD.length = 32 := by decide +kernel
theorem made_upd (L : List Nat) : Obj.cells (madeCells #[Value.int .i64 0] L.length) 3 (0,0) = nums (upd L 0) := by
 unfold nums
 congr 1
 apply Array.toList_inj.1
 rw [toList_madeCells_one]
 simp [upd,vn]
def TwoL (w wx : World) (s2 s3 : Value) (a b : List Nat) : Prop :=
 ∃ g1 g2 : Nat,s2 = .slice (some ⟨g1,0,none⟩) 288 288 /\ s3 = .slice (some ⟨g2,0,none⟩) 32 32 /\ w.heap.size <= g1 /\ w.heap.size <= g2 /\ g1 ≠ g2 /\ Has wx g1 (nums a) /\ Has wx g2 (nums b) /\ Below w.heap.size w wx
theorem has_two {w : World} {x y : Obj} : Has ((w.alloc x).alloc y) (w.heap.size + 1) y := by
 have h := Has.new (w.alloc x) y
 simpa using h
theorem TwoL.ab {w : World} {a b : List Nat} : TwoL w ((w.alloc (nums a)).alloc (nums b)).drew (.slice (some ⟨w.heap.size,0,none⟩) 288 288) (.slice (some ⟨w.heap.size + 1,0,none⟩) 32 32) a b :=
 ⟨_,_,rfl,rfl,Nat.le_refl _,by omega,by omega,(Has.new w (nums a)).alloc (nums b),has_two,(below2 w (nums a) (nums b)).drew⟩
theorem TwoL.ba {w : World} {a b : List Nat} : TwoL w ((w.alloc (nums b)).alloc (nums a)).drew (.slice (some ⟨w.heap.size + 1,0,none⟩) 288 288) (.slice (some ⟨w.heap.size,0,none⟩) 32 32) a b :=
 ⟨_,_,rfl,rfl,by omega,Nat.le_refl _,by omega,has_two,(Has.new w (nums b)).alloc (nums a),(below2 w (nums b) (nums a)).drew⟩
theorem jfixed_is (w : World) : Calls Tryz.prog 33 #[] w fun e w' => ∃ v1 v2,e = .returned (.tuple #[v1,v2]) /\ TwoL w w' v1 v2 If.fixL If.fixD := by
 have hm1 : ∀ w,(Instr.makeSlice 57 (.int .i64 288) (.int .i64 288)).run Tryz.prog w = .ok (.slice (some ⟨w.heap.size,0,none⟩) 288 288) (w.alloc (nums (upd If.fixL 0))) := fun w => by
  rw [<- made_upd,fixL_len]
  exact run_make_row' (P := Tryz.prog) 57 3 (.int .i64 0) 8 Tryz.underlying57 Tryz.infoInt rfl .i64 .i64 288 (by omega) (by omega) w
 have hm2 : ∀ w,(Instr.makeSlice 57 (.int .i64 32) (.int .i64 32)).run Tryz.prog w = .ok (.slice (some ⟨w.heap.size,0,none⟩) 32 32) (w.alloc (nums (upd If.fixD 0))) := fun w => by
  rw [<- made_upd,fixD_len]
  exact run_make_row' (P := Tryz.prog) 57 3 (.int .i64 0) 8 Tryz.underlying57 Tryz.infoInt rfl .i64 .i64 32 (by omega) (by omega) w
 have HFIN : Hid (∀ wx g1 g2,w.heap.size <= g1 -> w.heap.size <= g2 -> g1 ≠ g2 -> Has wx g1 (nums (upd If.fixL 288)) -> Has wx g2 (nums (upd If.fixD 32)) -> Below w.heap.size w wx -> TwoL w wx (.slice (some ⟨g1,0,none⟩) 288 288) (.slice (some ⟨g2,0,none⟩) 32 32) If.fixL If.fixD) := by
  show ∀ _,_
  intro wx g1 g2 h1 h2 h3 h4 h5 h6
  rw [<- fixL_len,upd_full] at h4
  rw [<- fixD_len,upd_full] at h5
  exact ⟨g1,g2,rfl,rfl,h1,h2,h3,h4,h5,h6⟩
 have HLS : Hid (∀ k,k < 288 -> (upd If.fixL k).length = 288 /\ (upd If.fixL k).set k (if k < 144 ∨ 280 <= k then 8 else if k < 256 then 9 else 7) = upd If.fixL (k + 1)) := fun k hk => by
  have h := upd_set If.fixL k (by rw [fixL_len]; exact hk)
  rw [fixL_get ⟨k,hk⟩] at h
  exact ⟨by rw [upd_length _ _ (by rw [fixL_len]; omega),fixL_len],h⟩
 have HDS : Hid (∀ k,k < 32 -> (upd If.fixD k).length = 32 /\ (upd If.fixD k).set k 5 = upd If.fixD (k + 1)) := fun k hk => by
  have h := upd_set If.fixD k (by rw [fixD_len]; exact hk)
  rw [fixD_get ⟨k,hk⟩] at h
  exact ⟨by rw [upd_length _ _ (by rw [fixD_len]; omega),fixD_len],h⟩
 generalize hU : upd If.fixL = U at *
 generalize hV : upd If.fixD = V at *
 generalize hfl : If.fixL = FL at *
 generalize hfd : If.fixD = FD at *
 clear hU hV hfl hfd
 go_enter Tryz.func33,Tryz.ntmps33
 go_upto_region 1 with fail
 go_cut [2,3] from 6 to 7 (fun s2 s3 wx => TwoL w wx s2 s3 (U 0) (V 0))
 case first =>
  go_region
  all_goals (go_wp2_with fail; go_meet; first | with_reducible exact TwoL.ab | with_reducible exact TwoL.ba | exact TwoL.ab | exact TwoL.ba)
 case rest =>
  obtain ⟨g1,g2,rfl,rfl,h1,h2,h3,hx,hy,hb⟩ := hcut
  clear hm1 hm2
  have HX := LH hx
  have HY := LH hy
  have HB := LH hb
  clear hx hy hb
  go_wp2_with fail
  go_loopw [4] (fun s4 wr => ∃ k : Nat,k <= 288 /\ s4 = .int .i64 (k : Int) /\ Hid (Has wr g1 (nums (U k))) /\ Hid (Has wr g2 (nums (V 0))) /\ Hid (Below w.heap.size w wr)) (fun s _ => 288 - (intOf s).toNat)
  case atStart => exact ⟨0,Nat.zero_le _,rfl,HX,HY,HB⟩
  case round =>
   obtain ⟨k,hk,rfl,KX,KY,KB⟩ := hrel
   by_cases hlt : k < 288
   ·obtain ⟨hlen,hset⟩ := HLS.out k hlt
    have c0 := nums_cell KX.out k (by rw [hlen]; exact hlt)
    have y0 : wr.frozen? ⟨g1,k,none⟩ = false := by have := KX.out; unfold nums at this; exact this.free k
    have KN : ∀ x : Nat,(U k).set k x = U (k + 1) -> Hid (Has (wr.setCell ⟨g1,k,none⟩ (.int .i64 (x : Int))) g1 (nums (U (k + 1)))) /\ Hid (Has (wr.setCell ⟨g1,k,none⟩ (.int .i64 (x : Int))) g2 (nums (V 0))) /\ Hid (Below w.heap.size w (wr.setCell ⟨g1,k,none⟩ (.int .i64 (x : Int)))) := fun x hx => by
     refine ⟨?_,?_,?_⟩
     ·show Has _ _ _
      have := nums_set KX.out k x
      rw [hx] at this
      exact this
     ·exact KY.out.set (a := ⟨g1,k,none⟩) (fun e => h3 e.symm) _
     ·exact KB.out.setCell (p := ⟨g1,k,none⟩) h1 _
    have HKN := LH KN
    have i1 : (k : Int) < 288 := by omega
    have HSET := LH (fun _ : Unit => hset)
    clear hset hlen KN
    by_cases k1 : k < 144
    ·have d1 : decide ((k : Int) < 144) = true := decide_eq_true (by omega)
     have d1' : decide (k < 144) = true := decide_eq_true (by omega)
     obtain ⟨n1,n2,n3⟩ := HKN.out 8 (by have := HSET.out (); rwa [if_pos (Or.inl k1)] at this)
     clear HSET HKN KX KY KB
     go_wp2
     go_roundw
     case rel => exact ⟨k + 1,by omega,by go_num,n1,n2,n3⟩
     case measure => simp [intOf]; omega
    ·have d1 : decide ((k : Int) < 144) = false := decide_eq_false (by omega)
     have d1' : decide (k < 144) = false := decide_eq_false (by omega)
     by_cases k2 : 280 <= k
     ·have d2 : decide ((280 : Int) <= (k : Int)) = true := decide_eq_true (by omega)
      have d2' : decide (280 <= k) = true := decide_eq_true (by omega)
      obtain ⟨n1,n2,n3⟩ := HKN.out 8 (by have := HSET.out (); rwa [if_pos (Or.inr k2)] at this)
      clear HSET HKN KX KY KB
      go_wp2
      go_roundw
      case rel => exact ⟨k + 1,by omega,by go_num,n1,n2,n3⟩
      case measure => simp [intOf]; omega
     ·have d2 : decide ((280 : Int) <= (k : Int)) = false := decide_eq_false (by omega)
      have d2' : decide (280 <= k) = false := decide_eq_false (by omega)
      have hset := HSET.out ()
      rw [if_neg (by omega)] at hset
      by_cases k3 : k < 256
      ·have d3 : decide ((k : Int) < 256) = true := decide_eq_true (by omega)
       have d3' : decide (k < 256) = true := decide_eq_true (by omega)
       obtain ⟨n1,n2,n3⟩ := HKN.out 9 (by rwa [if_pos k3] at hset)
       clear HSET HKN KX KY KB hset
       go_wp2
       go_roundw
       case rel => exact ⟨k + 1,by omega,by go_num,n1,n2,n3⟩
       case measure => simp [intOf]; omega
      ·have d3 : decide ((k : Int) < 256) = false := decide_eq_false (by omega)
       have d3' : decide (k < 256) = false := decide_eq_false (by omega)
       obtain ⟨n1,n2,n3⟩ := HKN.out 7 (by rwa [if_neg k3] at hset)
       clear HSET HKN KX KY KB hset
       go_wp2
       go_roundw
       case rel => exact ⟨k + 1,by omega,by go_num,n1,n2,n3⟩
       case measure => simp [intOf]; omega
   ·obtain rfl : k = 288 := by omega
    clear HX HY HB HLS
    go_wp2_with fail
    go_loopw [5] (fun s5 wq => ∃ k : Nat,k <= 32 /\ s5 = .int .i64 (k : Int) /\ Hid (Has wq g1 (nums (U 288))) /\ Hid (Has wq g2 (nums (V k))) /\ Hid (Below w.heap.size w wq)) (fun s _ => 32 - (intOf s).toNat)
    case atStart => exact ⟨0,Nat.zero_le _,rfl,KX,KY,KB⟩
    case round =>
     clear KX KY KB
     obtain ⟨k,hk,rfl,KX,KY,KB⟩ := hrel
     by_cases hlt : k < 32
     ·obtain ⟨hlen,hset⟩ := HDS.out k hlt
      have c0 := nums_cell KY.out k (by rw [hlen]; exact hlt)
      have y0 : wr.frozen? ⟨g2,k,none⟩ = false := by have := KY.out; unfold nums at this; exact this.free k
      have n2 : Hid (Has (wr.setCell ⟨g2,k,none⟩ (.int .i64 ((5 : Nat) : Int))) g2 (nums (V (k + 1)))) := by
       show Has _ _ _
       have := nums_set KY.out k 5
       rw [hset] at this
       exact this
      have n1 := LH (KX.out.set (a := ⟨g2,k,none⟩) h3 (.int .i64 ((5 : Nat) : Int)))
      have n3 := LH (KB.out.setCell (p := ⟨g2,k,none⟩) h2 (.int .i64 ((5 : Nat) : Int)))
      have i1 : (k : Int) < 32 := by omega
      clear hset hlen KX KY KB
      go_wp2
      go_roundw
      case rel => exact ⟨k + 1,by omega,by go_num,n1,n2,n3⟩
      case measure => simp [intOf]; omega
     ·obtain rfl : k = 32 := by omega
      have hf := HFIN.out _ g1 g2 h1 h2 h3 KX.out KY.out KB.out
      have HF := LH hf
      clear hf HFIN KX KY KB HDS
      go_wp2
      go_ret2
      exact ⟨_,_,rfl,HF.out⟩
end
end Go.Proofs.YtmgpcbjciioiaaaGreatDoor
