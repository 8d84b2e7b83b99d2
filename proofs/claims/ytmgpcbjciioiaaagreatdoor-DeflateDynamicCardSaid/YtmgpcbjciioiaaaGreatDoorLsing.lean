import Derived.Test.YtmgpcbjciioiaaaGreatDoorDcod
import Derived.Test.YtmgpcbjciioiaaaGreatDoorKlen
import Derived.Test.YtmgpcbjciioiaaaGreatDoorIlaid
namespace Go.Proofs.YtmgpcbjciioiaaaGreatDoor
set_option maxRecDepth 100000
set_option maxHeartbeats 8000000
open Go.RowKit
def boxes (w : World) : World := ((w.alloc (.cells #[.slice none 0 0] 22)).alloc (.cells #[.slice none 0 0,.int .i64 0] 64)).alloc (.cells #[.int .i64 0] 23)
theorem boxes_ly (w : World) : Ly w (boxes w) w.heap.size (.slice none 0 0) [] := by
 have h1 := Has.new w (.cells #[.slice none 0 0] 22)
 have h2 := Has.new (w.alloc (.cells #[.slice none 0 0] 22)) (.cells #[.slice none 0 0,.int .i64 0] 64)
 have h3 := Has.new ((w.alloc (.cells #[.slice none 0 0] 22)).alloc (.cells #[.slice none 0 0,.int .i64 0] 64)) (.cells #[.int .i64 0] 23)
 refine ⟨by show Has _ (w.heap.size + 1 + 1) _; unfold boxes; simpa using h3,⟨none,0,0,by show Has _ (w.heap.size + 1) (rowVar none 0 0 0); unfold boxes; simpa using h2.alloc (.cells #[.int .i64 0] 23),Sl.nil _,Nat.le_refl _⟩,⟨(h1.alloc _).alloc _,⟨rfl,Or.inl ⟨rfl,rfl⟩⟩⟩,(below2 w _ _).alloc (by simp; omega) _,by simp⟩
theorem app_any (w : World) (base n : Nat) (v : Value) (bs : List Nat) (hown : w.ownsRow base 5 1 v n (vb bs)) (a : Option Addr) (m c : Nat) (ms : List Nat) (ty : TypeId) (hs : Sl w (.slice a m c) ms) (h1 : n <= 1000000000) (h2 : m <= 1000000000) (hb : base <= w.heap.size) :
  ∃ v' w',(Builtin.append_ #[22,22] ty #[v,.slice a m c]).run Tryz.prog w = .ok v' w' /\ w'.ownsRow base 5 1 v' (n + m) (vb (bs ++ ms)) /\ w.grownBy w' v.ownBlock := by
 obtain ⟨i0,hi,hz0,hz1,hz2⟩ := info_parts Tryz.infoU8
 cases a with
 | none =>
  have h0 := (hs.len.2.2 rfl)
  obtain ⟨rfl,rfl⟩ := h0
  have hms : ms = [] := List.eq_nil_of_length_eq_zero hs.len.1.symm
  subst hms
  exact ⟨v,w,run_append_owned_none (P := Tryz.prog) w base 22 ty 5 i0 1 Tryz.underlying22 hi v n (vb bs) hown,by rw [List.append_nil]; exact hown,World.grownBy_refl' w _⟩
 | some ad =>
  obtain ⟨v',w',hrun,r1,r2,_⟩ := run_append_own (P := Tryz.prog) w base 22 ty 5 i0 (.int .u8 0) 1 1 Tryz.underlying22 hi hz0 hz1 hz2 rfl (by decide) v n (vb bs) hown ad m c (vb ms) (by rw [vb_length]; have := hs.len.1; omega)
   (fun j u hj => by
    have hlt := (List.getElem?_eq_some_iff.1 hj).1
    rw [vb_length] at hlt
    obtain ⟨ad',he,h⟩ := hs.cells (by have := hs.len.1; omega)
    injection he with he
    subst he
    exact h j u hj) (oneCell_vb _) (by unfold maxLen; omega) (by omega) hb
  exact ⟨v',w',hrun,by rw [vb_append]; exact r1,r2⟩
def StrPost (w : World) (bs : List Nat) (e : Ending) (w' : World) : Prop := ∃ v,e = .returned (.tuple #[v,.int .i64 0]) /\ w'.ownsRow w.heap.size 5 1 v bs.length (vb bs) /\ Below w.heap.size w w'
theorem stream_ok (F : FuncId) (caps : Array Value) (hcall : ∀ (args : Array Value) (wx : World),(callFunc F args).run Tryz.prog wx = .ok (.enter F args) wx) (w : World) (l : List Bool)
  (hw : Calls Tryz.prog F (#[LF w.heap.size] ++ caps) (boxes w) (LayPost w (boxes w) w.heap.size (.slice none 0 0) l)) :
  Calls Tryz.prog 25 #[.func (.func F) #[] caps] w (StrPost w (Bs.pack l)) := by
 have HW := LH hw
 clear hw
 go_enter Tryz.func25,Tryz.ntmps25
 go_wp2_with fail
 refine (show Calls Tryz.prog F (#[LF w.heap.size] ++ caps) (boxes w) _ from HW.out).mono ?_
 clear HW
 rintro e w3 ⟨rfl,tv,hl,_⟩
 have hb := hl.b
 obtain ⟨ra,rm,rc,hr,hrs,hrc⟩ := hl.r
 obtain ⟨ht,hto⟩ := hl.t
 obtain ⟨d0,_⟩ := (show Has w3 (w.heap.size + 1 + 1) _ from hl.f).one
 obtain ⟨c0,_,_,_⟩ := hr.two
 obtain ⟨t0,_⟩ := ht.one
 have hn := hl.n
 have hsz3 : w.heap.size <= w3.heap.size := by have := hl.f.lt; omega
 have hrl := hrs.len.1
 rw [Bs.pack_length,Bs.rest_length] at hrl
 obtain ⟨v',w4,hrun,hown,hg⟩ := app_any w3 w.heap.size (l.length / 8) tv _ hto ra rm rc _ 22 hrs (by omega) (by omega) hsz3
 have e1 : l.length / 8 + rm = (Bs.pack l).length := by rw [Bs.pack_length]; omega
 rw [Bs.whole_rest,e1] at hown
 obtain ⟨av,cv,rfl⟩ := own_slice hown
 obtain ⟨at',ct,rfl⟩ := own_slice hto
 have HRUN := LH hrun
 have HOWN := LH hown
 have HB := LH (hb.grown hg hsz3 (fun q hq => (World.ownsRow.lt hto q hq).1))
 obtain ⟨pl,hpl⟩ : ∃ pl,pl = (Bs.pack l).length := ⟨_,rfl⟩
 rw [<- hpl] at HOWN HRUN
 have HPL := LH hpl
 clear hpl
 clear hl hb hr hrs hrc ht hto hn hrl hrun hown hg e1
 go_wp2_with (at_builtin; (refine wpList_append_is rfl (.tmp 13) (.tmp 15) 22 rfl _ _ _ _ rfl rfl HRUN.out ?_))
 refine bodyPost_ret (v := .tuple #[.slice av pl cv,.int .i64 0]) (by simp [results,Tryz.results25,go_sem]) rfl ⟨_,rfl,by rw [<- HPL.out]; exact HOWN.out,HB.out⟩
end Go.Proofs.YtmgpcbjciioiaaaGreatDoor
namespace Go.Proofs.YtmgpcbjciioiaaaGreatDoor.Ls
set_option maxRecDepth 100000
set_option maxHeartbeats 8000000
open Go.RowKit
namespace Lm
theorem lex_unique {α : Type} (R : α -> α -> Prop) (hR : ∀ x y,R x y -> ¬ R y x) : ∀ xs ys : List α,xs.Pairwise R -> ys.Pairwise R -> (∀ x,x ∈ xs ↔ x ∈ ys) -> xs = ys
 | [],ys,_,_,h => by
  cases ys with
  | nil => rfl
  | cons y ys => have := (h y).2 (by simp); cases this
 | x :: xs,[],_,_,h => by have := (h x).1 (by simp); cases this
 | x :: xs,y :: ys,h1,h2,h => by
  have a1 := List.pairwise_cons.1 h1
  have a2 := List.pairwise_cons.1 h2
  have hxy : x = y := by
   rcases List.mem_cons.1 ((h x).1 (by simp)) with e | e
   ·exact e
   ·rcases List.mem_cons.1 ((h y).2 (by simp)) with e2 | e2
    ·exact e2.symm
    ·exact (hR _ _ (a2.1 x e) (a1.1 y e2)).elim
  subst hxy
  rw [lex_unique R hR xs ys a1.2 a2.2 fun z => ?_]
  constructor
  ·intro hz
   rcases List.mem_cons.1 ((h z).1 (by simp [hz])) with e | e
   ·subst e; have := a1.1 z hz; exact (hR _ _ this this).elim
   ·exact e
  ·intro hz
   rcases List.mem_cons.1 ((h z).2 (by simp [hz])) with e | e
   ·subst e; have := a2.1 z hz; exact (hR _ _ this this).elim
   ·exact e
def Ah (p q : Nat × Nat) : Prop := p.1 < q.1 ∨ (p.1 = q.1 /\ p.2 < q.2)
theorem ah_one (p q : Nat × Nat) (h : Ah p q) : ¬ Ah q p := by unfold Ah at *; omega
theorem ins_ah (p : Nat × Nat) : ∀ S : List (Nat × Nat),S.Pairwise Ah -> (∀ q ∈ S,q.2 < p.2) -> (ins Prod.fst p S).Pairwise Ah
 | [],_,_ => List.pairwise_singleton _ _
 | q :: S,h,hp => by
  have h1 := List.pairwise_cons.1 h
  unfold ins
  by_cases hk : p.1 < q.1
  ·rw [if_pos hk]
   refine List.pairwise_cons.2 ⟨fun z hz => ?_,h⟩
   rcases List.mem_cons.1 hz with rfl | hz
   ·exact .inl hk
   ·have := h1.1 z hz; unfold Ah at *; omega
  ·rw [if_neg hk]
   refine List.pairwise_cons.2 ⟨fun z hz => ?_,ins_ah p S h1.2 fun z hz => hp z (by simp [hz])⟩
   rcases List.mem_cons.1 ((ins_perm Prod.fst p S).mem_iff.1 hz) with rfl | hz
   ·have := hp q (by simp); unfold Ah; omega
   ·exact h1.1 z hz
theorem fold_ah : ∀ (l S : List (Nat × Nat)),S.Pairwise Ah -> l.Pairwise (fun p q => p.2 < q.2) -> (∀ q ∈ S,∀ p ∈ l,q.2 < p.2) -> (l.foldl (fun s x => ins Prod.fst x s) S).Pairwise Ah
 | [],_,h,_,_ => h
 | p :: l,S,h,hl,hp => by
  have h1 := List.pairwise_cons.1 hl
  rw [List.foldl_cons]
  refine fold_ah l _ (ins_ah p S h fun q hq => hp q hq p (by simp)) h1.2 fun q hq z hz => ?_
  rcases List.mem_cons.1 ((ins_perm Prod.fst p S).mem_iff.1 hq) with rfl | hq
  ·exact h1.1 z hz
  ·exact hp q hq z (by simp [hz])
theorem srt_ah (fs : List Nat) : (srt fs).Pairwise Ah := fold_ah _ [] List.Pairwise.nil (usd_rise fs fs.length) (fun q hq => by cases hq)
theorem sorted_is (fs : List Nat) (n : Nat) (hn : n = (usd fs fs.length).length) (pr : Nat -> Nat × Nat) (d d' : Nat -> Nat) (hd : ∀ i,i < n -> (usd fs fs.length)[i]? = some (pr (d i))) (hr : ∀ i j,i < j -> j < n -> d i < d j)
  (hs : St.Swaps 0 n d d') (h1 : St.Ris (fun b => (pr b).1) d' n) (h2 : St.Srt (fun b => (pr b).1) d' 0 n) : (List.range n).map (fun i => pr (d' i)) = srt fs := by
 refine lex_unique Ah ah_one _ _ ?_ (srt_ah fs) fun p => ?_
 ·rw [List.pairwise_map]
  refine List.pairwise_iff_getElem.2 fun i j hi hj hij => ?_
  rw [List.length_range] at hi hj
  rw [List.getElem_range,List.getElem_range]
  have g1 := h2 i j (Nat.zero_le _) hij hj
  by_cases e : (pr (d' i)).1 = (pr (d' j)).1
  ·have g2 := h1 i j hij hj e
   obtain ⟨a,_,ha,ea⟩ := hs.img i (Nat.zero_le _) hi
   obtain ⟨b,_,hb,eb⟩ := hs.img j (Nat.zero_le _) hj
   rw [ea,eb] at g2
   have hab : a < b := by
    refine Nat.lt_of_not_le fun hle => ?_
    rcases Nat.eq_or_lt_of_le hle with h | h
    ·rw [h] at g2; omega
    ·have := hr b a h ha; omega
   refine .inr ⟨e,?_⟩
   rw [ea,eb]
   have u1 := List.getElem?_eq_some_iff.1 (hd a ha)
   have u2 := List.getElem?_eq_some_iff.1 (hd b hb)
   obtain ⟨l1,e1⟩ := u1
   obtain ⟨l2,e2⟩ := u2
   have := List.pairwise_iff_getElem.1 (usd_rise fs fs.length) a b l1 l2 hab
   rwa [e1,e2] at this
  ·refine .inl ?_
   show (pr (d' i)).1 < (pr (d' j)).1
   have : (pr (d' i)).1 <= (pr (d' j)).1 := g1
   omega
 ·rw [(srt_perm fs).mem_iff]
  constructor
  ·intro hp
   obtain ⟨i,hi,rfl⟩ := List.mem_map.1 hp
   obtain ⟨a,_,ha,ea⟩ := hs.img i (Nat.zero_le _) (List.mem_range.1 hi)
   rw [ea]
   exact List.mem_of_getElem? (hd a ha)
  ·intro hp
   obtain ⟨a,ha⟩ := List.getElem?_of_mem hp
   have hal : a < n := by rw [hn]; exact (List.getElem?_eq_some_iff.1 ha).1
   obtain ⟨b,_,hb,eb⟩ := hs.back a (Nat.zero_le _) hal
   rw [hd a hal] at ha
   injection ha with ha
   rw [<- ha,eb]
   exact List.mem_map.2 ⟨b,List.mem_range.2 hb,rfl⟩
end Lm
def Sg (fs : List Nat) (w wr : World) (v : Value) (k : Nat) : Prop :=
 ∃ bs : List Nat,bs.length = (Lm.usd fs k).length /\ wr.ownsRow w.heap.size 209 1 v bs.length (vp bs) /\ bs.Pairwise (· < ·) /\ (∀ (i b : Nat) (p : Nat × Nat),bs[i]? = some b -> (Lm.usd fs k)[i]? = some p -> Pk wr (.of p) b) /\ Below w.heap.size w wr
theorem Sg.start (fs : List Nat) (w : World) : Sg fs w w (.slice none 0 0) 0 := ⟨[],rfl,World.ownsRow_nil _ _ _ _,List.Pairwise.nil,fun i b p h => by simp at h,Below.refl _ _⟩
theorem Sg.skip {fs : List Nat} {w wr : World} {v : Value} {k : Nat} (h : Sg fs w wr v k) (h0 : fs[k]?.getD 0 = 0) : Sg fs w wr v (k + 1) := by
 have e : Lm.usd fs (k + 1) = Lm.usd fs k := by rw [Lm.usd,if_pos h0,List.append_nil]
 unfold Sg; rw [e]; exact h
theorem Sg.more {fs : List Nat} {w wr : World} {v : Value} {k x : Nat} (h : Sg fs w wr v k) (hx : x = fs[k]?.getD 0) (h0 : x ≠ 0) (hk : k <= 288) :
  ∃ v' w',(Builtin.append_ #[206,206] 206 #[v,.slice (some ⟨wr.heap.size + 1,0,none⟩) 1 1]).run Tryz.prog
   ((wr.alloc (.cells #[.int .i64 (x : Int),.int .i64 (k : Int),.pointer none,.pointer none] 252)).alloc (.cells #[.pointer (some ⟨wr.heap.size,0,none⟩)] 209)) = .ok v' w' /\ Sg fs w w' v' (k + 1) := by
 obtain ⟨bs,hl,hown,hri,hpk,hb⟩ := h
 have hle := Lm.usd_length fs k
 have hown2 := (hown.alloc (.cells #[.int .i64 (x : Int),.int .i64 (k : Int),.pointer none,.pointer none] 252)).alloc (.cells #[.pointer (some ⟨wr.heap.size,0,none⟩)] 209)
 have hc := (Has.new (wr.alloc (.cells #[.int .i64 (x : Int),.int .i64 (k : Int),.pointer none,.pointer none] 252)) (.cells #[.pointer (some ⟨wr.heap.size,0,none⟩)] 209)).one.1
 rw [World.size_alloc] at hc
 obtain ⟨v',w',hrun,ho,hg⟩ := run_app1 206 209 (.pointer none) Tryz.underlying206 Tryz.infoPack rfl 206 hown2 (wr.heap.size + 1) _ rfl hc (by omega) (by have := hb.size; simp; omega)
 refine ⟨v',w',hrun,bs ++ [wr.heap.size],?_,?_,?_,?_,?_⟩
 ·rw [Lm.usd,<- hx,if_neg h0,List.length_append,List.length_append,hl]; rfl
 ·rw [vp_snoc,List.length_append]; exact ho
 ·refine List.pairwise_append.2 ⟨hri,List.pairwise_singleton _ _,fun a ha b hb' => ?_⟩
  rw [List.mem_singleton] at hb'
  subst hb'
  obtain ⟨i,hi⟩ := List.getElem?_of_mem ha
  have hil := (List.getElem?_eq_some_iff.1 hi).1
  exact (hpk i a _ hi (List.getElem?_eq_getElem (by omega))).lt
 ·intro i b p hi hp
  rw [Lm.usd,<- hx,if_neg h0] at hp
  by_cases hlt : i < bs.length
  ·rw [List.getElem?_append_left hlt] at hi
   rw [List.getElem?_append_left (by omega)] at hp
   exact Pk.grown hown2 hg ((hpk i b p hi hp).later (below2 wr _ _))
  ·have e : i = bs.length := by
    have := (List.getElem?_eq_some_iff.1 hi).1
    rw [List.length_append,List.length_singleton] at this; omega
   subst e
   rw [List.getElem?_append_right (Nat.le_refl _),Nat.sub_self] at hi
   rw [hl,List.getElem?_append_right (Nat.le_refl _),Nat.sub_self] at hp
   simp only [List.getElem?_cons_zero,Option.some.injEq] at hi hp
   subst hi hp
   refine Pk.grown hown2 hg ?_
   exact (Has.new wr _).alloc _
 ·have hbs := hb.size
  exact (hb.trans ((below2 wr _ _).mono hbs)).grown hg (by simp; omega) (fun q e => (World.ownsRow.lt hown q e).1)
def prOf (w : World) (b : Nat) : Nat × Nat := ((intOf ((w.cell? ⟨b,0,none⟩).getD undef)).toNat,(intOf ((w.cell? ⟨b,1,none⟩).getD undef)).toNat)
theorem prOf_is {w : World} {p : Nat × Nat} {b : Nat} (h : Pk w (.of p) b) : prOf w b = p := by
 have h' : Has w b (.cells #[.int .i64 (p.1 : Int),.int .i64 (p.2 : Int),.pointer none,.pointer none] 252 (0,0)) := h
 unfold prOf
 rw [h'.cell,h'.cell]
 simp [intOf]
theorem Sg.sort {fs : List Nat} {w wr : World} {g cap : Nat} {n : Nat} (h : Sg fs w wr (.slice (some ⟨g,0,none⟩) n cap) fs.length) (h288 : fs.length <= 288) :
  Calls Tryz.prog 188 #[.slice (some ⟨g,0,none⟩) n cap,.func (.func 189) #[] #[]] wr fun e w' =>
   e = .returned (.tuple #[]) /\ Pl w' (.slice (some ⟨g,0,none⟩) n cap) (Lm.sgl fs) /\ Below w.heap.size w w' := by
 obtain ⟨bs,hl,hown,hri,hpk,hb⟩ := h
 have hul := Lm.usd_length fs fs.length
 obtain ⟨g',cap',cur,e,hbase,hg,hle,_,_,_⟩ : ∃ g' cap' cur,Value.slice (some ⟨g,0,none⟩) n cap = .slice (some ⟨g',0,none⟩) bs.length cap' /\ w.heap.size <= g' /\ wr.heap[g']? = some (.cells cur 209 (0,0)) /\ bs.length <= cap' /\ cap' <= maxLen /\ cur.size = cap' * 1 /\ cur.toList.take (bs.length * 1) = vp bs := by
  rcases hown.2 with ⟨h,_⟩ | h
  ·cases h
  ·exact h
 cases e
 have hrw : Rw wr g bs.length (fun i => bs[i]?.getD 0) := by
  refine ⟨lt_of_block hg,fun i hi => ?_,fun i _ => hown.frozenAt i⟩
  rw [hown.cellAt i (by omega)]
  simp [vp,List.getElem?_eq_getElem hi]
 have hpr : ∀ i,i < bs.length -> (Lm.usd fs fs.length)[i]? = some (prOf wr (bs[i]?.getD 0)) := by
  intro i hi
  have e1 := List.getElem?_eq_getElem hi
  have e2 : (Lm.usd fs fs.length)[i]? = some ((Lm.usd fs fs.length)[i]'(by omega)) := List.getElem?_eq_getElem (by omega)
  rw [e1,Option.getD_some,prOf_is (hpk i _ _ e1 e2),e2]
 have hrise : ∀ i j,i < j -> j < bs.length -> bs[i]?.getD 0 < bs[j]?.getD 0 := by
  intro i j hij hj
  rw [List.getElem?_eq_getElem hj,List.getElem?_eq_getElem (by omega : i < bs.length)]
  exact List.pairwise_iff_getElem.1 hri i j (by omega) hj hij
 have hpkb : ∀ i,i < bs.length -> ∃ p,Pk wr (.of p) (bs[i]?.getD 0) := by
  intro i hi
  have e1 := List.getElem?_eq_getElem hi
  have e2 : (Lm.usd fs fs.length)[i]? = some ((Lm.usd fs fs.length)[i]'(by omega)) := List.getElem?_eq_getElem (by omega)
  rw [e1,Option.getD_some]
  exact ⟨_,hpk i _ _ e1 e2⟩
 have hG : Has wr g (.cells cur 209 (0,0)) := hg
 have hcm : Cmps g (fun b => (prOf wr b).1) (fun b => ∃ p,Pk wr (.of p) b) wr := by
  rintro w' x y ho ⟨p,hp⟩ ⟨q,hq⟩
  show Calls _ _ _ _ (CmpPost w' (cmpv (prOf wr x).1 (prOf wr y).1))
  rw [prOf_is hp,prOf_is hq]
  exact cmp_any x y p.1 q.1 w' (Pk.only hG (by decide) ho hp).wt (Pk.only hG (by decide) ho hq).wt
 refine (sortStable_any g cap bs.length _ _ _ wr hrw (by omega) (fun i j h1 h2 _ => hrise i j h1 h2) hpkb hcm).mono ?_
 rintro e w' ⟨rfl,d',hr',ho,hs⟩
 have hs1 := Lm.sorted_is fs bs.length hl (prOf wr) _ d' hpr hrise hs.1 hs.2.1 hs.2.2
 have hsz := ho.size
 have hglt := hG.lt
 refine ⟨rfl,⟨_,_,_,rfl,?_,hle,by omega,fun h => by simp at h,fun _ => ⟨g,0,rfl,by omega,fun i t hi => ?_⟩⟩,ho.below hb hbase hb.size⟩
 ·rw [Lm.sgl_length,<- hs1]; simp
 ·unfold Lm.sgl at hi
  rw [<- hs1,List.map_map,List.getElem?_map] at hi
  have hil : i < bs.length := by
   by_cases h : i < bs.length
   ·exact h
   ·rw [List.getElem?_eq_none (by simp; omega)] at hi; cases hi
  rw [List.getElem?_eq_getElem (by simpa using hil),List.getElem_range] at hi
  simp only [Option.map_some,Option.some.injEq,Function.comp_def] at hi
  subst hi
  refine ⟨d' i,by rw [Nat.zero_add]; exact hr'.cell i hil,?_⟩
  obtain ⟨p,hp⟩ := hs.1.all (Nat.le_refl _) (fun b => ∃ p,Pk wr (.of p) b) hpkb i hil
  rw [prOf_is hp]
  exact Pk.only hG (by decide) ho hp
theorem lused_any (zs : List Int) (s : Value) (w : World) (hz : Zl w s zs) (hv : Nums zs) : Calls Tryz.prog 153 #[s] w fun e w' => ∃ v,e = .returned v /\ Pl w' v (Lm.sgl (nat zs)) /\ Below w.heap.size w w' := by
 have HV := LH hv
 obtain ⟨a,len,cap,rfl,h1,h2,h3,h4⟩ := hz
 have h288 : len <= 288 := by have := hv.2.1; omega
 have H1 := LH h1
 have H4 := LH h4
 clear h1 h3 h4 hv
 go_enter Tryz.func153,Tryz.ntmps153
 go_wp2
 go_loopw [3,8] (fun s3 s8 wr => ∃ (k : Nat) (v : Value),k <= len /\ v = s3 /\ s8 = .int .i64 k /\ Hid (Sg (nat zs) w wr v k)) (fun _ s _ => len - (intOf s).toNat)
 case atStart => exact ⟨0,_,Nat.zero_le _,rfl,rfl,Sg.start _ _⟩
 case round =>
  obtain ⟨k,v,hk,rfl,rfl,KS⟩ := hrel
  by_cases hlt : k < len
  ·obtain ⟨b,off,rfl,hbw,hc⟩ := H4.out (by omega)
   have hB : Below w.heap.size w wr := by obtain ⟨_,_,_,_,_,h⟩ := KS.out; exact h
   have hck := (hB.cell (p := ⟨b,off + k,none⟩) hbw).trans (hc k hlt)
   have hzk : zs[k]?.getD 0 = (((nat zs)[k]?.getD 0 : Nat) : Int) := by rw [nat_get]; have := HV.out.2.2 k (by have := H1.out; omega); omega
   rw [hzk] at hck
   obtain ⟨x,hx⟩ : ∃ x,x = (nat zs)[k]?.getD 0 := ⟨_,rfl⟩
   rw [<- hx] at hck
   have HX := LH hx
   clear hc hzk hx hB
   by_cases h0 : x = 0
   ·have ST := LH (KS.out.skip (by rw [<- HX.out]; exact h0))
    have hne : ((x : Int) != 0) = false := by simp [h0]
    clear KS h0 HX
    go_wp2
    go_roundw
    case rel => exact ⟨k + 1,_,by omega,rfl,by go_num,ST⟩
    case measure => simp [intOf]; omega
   ·obtain ⟨v',w',hrun,hsg⟩ := KS.out.more HX.out h0 (by omega)
    have HR := LH hrun
    have ST := LH hsg
    have hne : ((x : Int) != 0) = true := by rw [bne_iff_ne]; omega
    clear KS h0 HX hrun hsg
    go_wp2_with (at_builtin; refine wpList_append_known rfl _ _ 206 rfl _ _ _ _ rfl rfl HR.out ?_)
    go_roundw
    case rel => exact ⟨k + 1,_,by omega,rfl,by go_num,ST⟩
    case measure => simp [intOf]; omega
  ·obtain rfl : k = len := by omega
   have hlen : k = (nat zs).length := by rw [nat_length]; exact H1.out
   have KS2 : Hid (Sg (nat zs) w wr v (nat zs).length) := by show Sg _ _ _ _ _; rw [<- hlen]; exact KS.out
   have HL : Hid ((nat zs).length <= 288) := by show _ <= _; omega
   clear KS hlen
   have hsh : v = .slice none 0 0 ∨ ∃ g n cap,v = .slice (some ⟨g,0,none⟩) n cap := by
    obtain ⟨bs,_,ho,_⟩ := KS2.out
    rcases ho.2 with ⟨h,_⟩ | ⟨g,cap,_,h,_⟩
    ·exact Or.inl h
    ·exact Or.inr ⟨g,_,cap,h⟩
   rcases hsh with rfl | ⟨g,n,cap2,rfl⟩
   ·go_wp2_with (go_at_call 188; refine (sortStable_nil _ _).mono ?_; rintro e w' ⟨rfl,rfl⟩)
    go_ret
    obtain ⟨bs,hl,ho,_,_,hB⟩ := KS2.out
    have hb0 : bs.length = 0 := by
     rcases ho.2 with ⟨_,h⟩ | ⟨g,cap,_,h,_⟩
     ·exact h
     ·cases h
    have hs0 : Lm.sgl (nat zs) = [] := List.eq_nil_of_length_eq_zero (by rw [Lm.sgl_length,Lm.srt_length]; omega)
    exact ⟨_,rfl,by rw [hs0]; exact Pl.nil _,hB⟩
   ·have HC := KS2.out.sort HL.out
    clear KS2
    go_wp2_with fail
    refine HC.mono ?_
    clear HC
    rintro e w2 ⟨rfl,hp,hb⟩
    have Z1 := LH hp
    have Z2 := LH hb
    clear hp hb
    go_wp2
    go_ret
    exact ⟨_,rfl,Z1.out,Z2.out⟩
end Go.Proofs.YtmgpcbjciioiaaaGreatDoor.Ls
