import Derived.Test.YtmgpcbjciioiaaaGreatDoorJcop
import Derived.Test.YtmgpcbjciioiaaaGreatDoorKlen
import Derived.Test.YtmgpcbjciioiaaaGreatDoorLapp
import Derived.Test.YtmgpcbjciioiaaaGreatDoorDtis
import Derived.Test.YtmgpcbjciioiaaaGreatDoorDtal
import Derived.Test.YtmgpcbjciioiaaaGreatDoorHsort
namespace Go.Proofs.YtmgpcbjciioiaaaGreatDoor
set_option maxRecDepth 100000
set_option maxHeartbeats 8000000
section
open Go.RowKit Go.Maps
theorem longest_any (base R B b off cap n q d : Nat) (bs : List Nat) (w : World) (hP : Pla base w R B bs (Mt.laid bs q)) (h8 : ∀ x ∈ bs,x < 256) (hbt : Bt w b off bs) (hn : n = bs.length) (h9 : n <= 65536) (hcap : n <= cap) (hq : q < n) (hd : d <= 65536) :
  Calls Tryz.prog 85 #[.pointer (some ⟨R,0,none⟩),.slice (some ⟨b,off,none⟩) n cap,.int .i64 (q : Int),.int .i64 (d : Int)] w fun e w' => e = .returned (tkv (Mt.tok bs d q (Mt.laid bs q))) /\ Below w.heap.size w w' := by
 by_cases hw : Mt.wid bs q < 3
 ·exact longest_short R b off cap n q d bs w hbt hn h9 hcap hq hw (Mt.laid bs q)
 ·exact longest_long base R B b off cap n q d (Mt.laid bs q) bs w hP h8 hbt hn h9 hcap hq hw (Mt.laid_le bs q) hd
theorem app_tok {w : World} {base m : Nat} {v : Value} {ts : List If.Tk} (hown : w.ownsRow base 48 3 v m (tc ts)) (t : If.Tk) (g : Nat) (hx : TB w g t) (h1 : m <= 100000) (hb : base <= w.heap.size) :
  ∃ v' w',(Builtin.append_ #[30,30] 30 #[v,.slice (some ⟨g,0,none⟩) 1 1]).run Tryz.prog w = .ok v' w' /\ w'.ownsRow base 48 3 v' (m + 1) (tc (ts ++ [t])) /\ w.grownBy w' v.ownBlock := by
 obtain ⟨i0,hi,hz0,hz1,hz2⟩ := info_parts Tryz.infoTok
 have hnews : ∀ (j : Nat) (u : Value),[Value.int .i64 (t.len : Int),.int .i64 (t.far : Int),.int .u8 (t.lit : Int)][j]? = some u -> w.cell? ((⟨g,0,none⟩ : Addr).add j) = some u := fun j u hj => by
  obtain ⟨c0,c1,c2⟩ := tk_cells hx
  match j,hj with
  | 0,hj => simp at hj; subst hj; simpa [Addr.add] using c0
  | 1,hj => simp at hj; subst hj; simpa [Addr.add] using c1
  | 2,hj => simp at hj; subst hj; simpa [Addr.add] using c2
 have hone : ∀ u ∈ [Value.int .i64 (t.len : Int),.int .i64 (t.far : Int),.int .u8 (t.lit : Int)],u.oneCell' = true := fun u hu => by simp at hu; rcases hu with rfl | rfl | rfl <;> rfl
 obtain ⟨v',w',h1,h2,h3,_⟩ := run_append_own (P := Tryz.prog) (w := w) base 30 30 48 i0 _ 3 24 Tryz.underlying30 hi hz0 hz1 hz2 rfl (by decide) v m (tc ts) hown ⟨g,0,none⟩ 1 1 [.int .i64 (t.len : Int),.int .i64 (t.far : Int),.int .u8 (t.lit : Int)] rfl hnews hone (by unfold maxLen; omega) (by omega) hb
 exact ⟨v',w',h1,by rw [tc_snoc]; exact h2,h3⟩
theorem tok_le {bs : List Nat} (h8 : ∀ x ∈ bs,x < 256) (d q m : Nat) (ha : q < bs.length) (hm : m <= q) : (Mt.tok bs d q m).len <= 258 := by
 rcases (Mt.tok_is h8 d q m ha hm).1.1 with ⟨h,_⟩ | ⟨_,_,h,_⟩ <;> omega
theorem Pla.grown {base n : Nat} {w w' : World} {R B : Nat} {bs : List Nat} {m : Nat} {v : Value} {xs : List Value} (h : Pla base w R B bs m) (ho : w.ownsRow base 48 3 v n xs) (hg : w.grownBy w' v.ownBlock) : Pla base w' R B bs m := by
 obtain ⟨A,f,h1,h2,hx,hm,hf,ha⟩ := h
 refine ⟨A,f,h1,h2,hx.grown hg (fun e => own_ne_ty ho hx (by decide) e.symm),hm.same (hg.block B hm.lt (fun e => own_ne_ap ho hm e.symm)),hf,own_same9 ha (fun g hg2 => hg.block g (World.ownsRow.lt ha g hg2).2 (fun e => ?_))⟩
 rcases ha.2 with ⟨rfl,_⟩ | ⟨g2,cap,cur,rfl,_,hc,_⟩
 ·simp [Value.ownBlock] at hg2
 ·simp only [Value.ownBlock,Option.some.injEq] at hg2
  subst hg2
  exact own_ne_ty ho (show Has w g2 (.cells cur 3 (0,0)) from hc) (by decide) e.symm
theorem places_new (w : World) (bs : List Nat) : ∃ W,W = (w.alloc (.map #[] 0)).alloc (.cells #[.map (some w.heap.size),.slice none 0 0] 125) /\ Pla w.heap.size W (w.heap.size + 1) w.heap.size bs (Mt.laid bs 0) /\ Below w.heap.size w W /\ w.heap.size <= W.heap.size := by
 have hx := Has.new (w.alloc (.map #[] 0)) (.cells #[.map (some w.heap.size),.slice none 0 0] 125)
 rw [show (w.alloc (.map #[] 0)).heap.size = w.heap.size + 1 by simp] at hx
 have e : Mt.laid bs 0 = 0 := by unfold Mt.laid; omega
 refine ⟨_,rfl,⟨.slice none 0 0,fun _ => none,by omega,Nat.le_refl _,hx,?_,fun x => ?_,?_⟩,(below1 w _).alloc (by simp) _,by simp; omega⟩
 ·rw [e]; exact (Ap.new w).alloc _
 ·rw [e]; rfl
 ·rw [e]; exact ⟨rfl,Or.inl ⟨rfl,rfl⟩⟩
theorem find_some (b off cap n d : Nat) (bs : List Nat) (w : World) (hbt : Bt w b off bs) (h8 : ∀ x ∈ bs,x < 256) (hn : n = bs.length) (h9 : n <= 65536) (hcap : n <= cap) (hd : 1 <= d) (hd2 : d <= 4096) :
  Calls Tryz.prog 46 #[.slice (some ⟨b,off,none⟩) n cap,.int .i64 (d : Int)] w fun e w' => ∃ v,e = .returned (.tuple #[v,.int .i64 0]) /\ w'.ownsRow w.heap.size 48 3 v (Mt.all bs d).length (tc (Mt.all bs d)) /\ Below w.heap.size w w' := by
 have hmm := @run_makeMap Tryz.prog
 have c1 : ¬ (65536 : Int) < (n : Int) := by omega
 have c2 : ¬ (d : Int) < 1 := by omega
 have c3 : ¬ (4096 : Int) < (d : Int) := by omega
 have HBT := LH hbt
 have H8 := LH h8
 have HN := LH hn
 obtain ⟨W,hW,hP0,hB0,hz0⟩ := places_new w bs
 have HP0 := LH hP0
 have HB0 := LH hB0
 have V := LH hW
 have HL := LH (fun (q : Nat) (wx : World) (hq : q < n) (hb : Below w.heap.size w wx) (hp : Pla w.heap.size wx (w.heap.size + 1) w.heap.size bs (Mt.laid bs q)) => longest_any w.heap.size (w.heap.size + 1) w.heap.size b off cap n q d bs wx hp h8 ⟨Nat.lt_of_lt_of_le hbt.1 hb.size,fun j hj => (hb.cell (p := ⟨b,off + j,none⟩) hbt.1).trans (hbt.2 j hj)⟩ hn h9 hcap hq (by omega))
 have HLAY := LH (fun (q e : Nat) (wx : World) (hb : Below w.heap.size w wx) (hp : Pla w.heap.size wx (w.heap.size + 1) w.heap.size bs q) (he : e <= n) (hq : q <= Mt.laid bs e) => lay_pla w.heap.size (w.heap.size + 1) w.heap.size b off cap n q e bs wx hp h8 ⟨Nat.lt_of_lt_of_le hbt.1 hb.size,fun j hj => (hb.cell (p := ⟨b,off + j,none⟩) hbt.1).trans (hbt.2 j hj)⟩ hbt.1 hn h9 he hq hb.size)
 clear hbt h8 hn hW hP0 hB0 hz0
 go_enter Tryz.func46,Tryz.ntmps46
 go_wp2_with fail
 rw [<- V.out]
 clear V
 go_loopw [6,8] (fun s6 s8 wr => ∃ (q k c6 : Nat) (a6 : Option Addr) (ts : List If.Tk),s8 = .int .i64 (q : Int) /\ q <= n /\ s6 = .slice a6 k c6 /\ Hid (Unit -> Mt.all bs d = ts ++ Mt.fnd bs d (n + 1 - k) q /\ k <= q /\ k = ts.length) /\ Hid (wr.ownsRow w.heap.size 48 3 (.slice a6 k c6) k (tc ts)) /\ Hid (Pla w.heap.size wr (w.heap.size + 1) w.heap.size bs (Mt.laid bs q)) /\ Hid (Below w.heap.size w wr)) (fun _ s8 _ => n - (intOf s8).toNat)
 case atStart => exact ⟨0,0,0,none,[],rfl,Nat.zero_le _,rfl,fun _ => ⟨by rw [HN.out]; rfl,Nat.le_refl _,rfl⟩,⟨rfl,Or.inl ⟨rfl,rfl⟩⟩,HP0,HB0⟩
 case round =>
  obtain ⟨q,k,c6,a6,ts,rfl,hq,rfl,KT,KO,KP,KB⟩ := hrel
  clear HP0 HB0
  by_cases hlt : q < n
  ·have hlt1 : (q : Int) < (n : Int) := by omega
   have hk := (KT.out ()).2.1
   have HL1 := LH (HL.out q _ hlt KB.out KP.out)
   have htl := tok_le H8.out d q (Mt.laid bs q) (by rw [<- HN.out]; exact hlt) (Mt.laid_le bs q)
   have hsz := (Mt.tok_is H8.out d q (Mt.laid bs q) (by rw [<- HN.out]; exact hlt) (Mt.laid_le bs q)).2.2
   rw [<- HN.out] at hsz
   have hfn : Hid (Unit -> Mt.fnd bs d (n + 1 - k) q = Mt.tok bs d q (Mt.laid bs q) :: Mt.fnd bs d (n + 1 - (k + 1)) (q + If.sz (Mt.tok bs d q (Mt.laid bs q)))) := fun _ => by
    obtain ⟨z,hz⟩ : ∃ z,n + 1 - k = z + 1 := ⟨n - k,by omega⟩
    rw [hz,show n + 1 - (k + 1) = z by omega]
    simp only [Mt.fnd]
    rw [<- HN.out,if_neg (by omega)]
   obtain ⟨t,ht⟩ : ∃ t,t = Mt.tok bs d q (Mt.laid bs q) := ⟨_,rfl⟩
   rw [<- ht] at HL1 hfn htl hsz
   clear ht
   have hs1 := If.sz_pos t
   unfold tkv at HL1
   go_wp2_with fail
   refine HL1.out.mono ?_
   clear HL1
   rintro e w1 ⟨rfl,hb1⟩
   have hb2 := (hb1.alloc hb1.size (.cells #[.int .i64 (t.len : Int),.int .i64 (t.far : Int),.int .u8 (t.lit : Int)] 48))
   have hT2 : TB (w1.alloc (.cells #[.int .i64 (t.len : Int),.int .i64 (t.far : Int),.int .u8 (t.lit : Int)] 48)) w1.heap.size t := Has.new w1 _
   obtain ⟨d0,d1,d2⟩ := tk_cells hT2
   have hb3 := hb2.alloc (by simp; have := hb1.size; omega) (.cells #[.int .i64 (t.len : Int),.int .i64 (t.far : Int),.int .u8 (t.lit : Int)] 48)
   have hT3 : TB _ w1.heap.size t := Has.alloc hT2 (.cells #[.int .i64 (t.len : Int),.int .i64 (t.far : Int),.int .u8 (t.lit : Int)] 48)
   have hN3 : TB ((w1.alloc (.cells #[.int .i64 (t.len : Int),.int .i64 (t.far : Int),.int .u8 (t.lit : Int)] 48)).alloc (.cells #[.int .i64 (t.len : Int),.int .i64 (t.far : Int),.int .u8 (t.lit : Int)] 48)) (w1.heap.size + 1) t := by
    have h := Has.new (w1.alloc (.cells #[.int .i64 (t.len : Int),.int .i64 (t.far : Int),.int .u8 (t.lit : Int)] 48)) (.cells #[.int .i64 (t.len : Int),.int .i64 (t.far : Int),.int .u8 (t.lit : Int)] 48)
    rwa [show (w1.alloc (.cells #[.int .i64 (t.len : Int),.int .i64 (t.far : Int),.int .u8 (t.lit : Int)] 48)).heap.size = w1.heap.size + 1 by simp] at h
   obtain ⟨W3,hW3⟩ : ∃ W,W = (w1.alloc (.cells #[.int .i64 (t.len : Int),.int .i64 (t.far : Int),.int .u8 (t.lit : Int)] 48)).alloc (.cells #[.int .i64 (t.len : Int),.int .i64 (t.far : Int),.int .u8 (t.lit : Int)] 48) := ⟨_,rfl⟩
   rw [<- hW3] at hb3 hT3 hN3
   have hO3 := own_stays KO.out hb3
   have hbw3 := KB.out.trans (hb3.mono KB.out.size)
   obtain ⟨v4,w4,hrun,hO4,hg4⟩ := app_tok hO3 t (w1.heap.size + 1) hN3 (by omega) hbw3.size
   obtain ⟨a7,c7,rfl⟩ := own_slice hO4
   have hP4 := (KP.out.later hb3).grown hO3 hg4
   have hB4 := Below.grown hbw3 hg4 hbw3.size (fun q hq => (World.ownsRow.lt hO3 q hq).1)
   have hT4 : TB w4 w1.heap.size t := Has.grown hT3 hg4 (fun e => by
    rcases hO3.2 with ⟨h0,_⟩ | ⟨g2,cap2,cur,h0,_,hc,_⟩
    ·rw [h0] at e; simp [Value.ownBlock] at e
    ·have hlo := (World.ownsRow.lt KO.out g2 (by rw [h0]; rfl)).2
     rw [h0] at e
     simp only [Value.ownBlock,Option.some.injEq] at e
     have := hb1.size
     omega)
   rw [hW3] at hrun
   obtain ⟨e0,e1,e2⟩ := tk_cells hT4
   have HRUN := LH hrun
   have HO4 := LH hO4
   have HP4 := LH hP4
   have HB4 := LH hB4
   have HSZ := LH (size_ok t htl w4)
   clear hb1 hb2 hT2 hb3 hT3 hN3 hW3 hO3 hbw3 hrun hO4 hg4 hP4 hB4 hT4 KO KP KB hk
   go_wp2_with (at_builtin; (refine wpList_append_is rfl (.tmp 29) (.tmp 31) 30 rfl _ _ _ _ rfl rfl HRUN.out ?_))
   refine HSZ.out.mono ?_
   clear HSZ HRUN
   rintro e w5 ⟨rfl,hb5⟩
   have HO5 := LH (own_stays HO4.out hb5)
   have HP5 := LH (HP4.out.later hb5)
   have HB5 := LH (HB4.out.trans (hb5.mono HB4.out.size))
   obtain ⟨z,hz⟩ : ∃ z,z = If.sz t := ⟨_,rfl⟩
   rw [<- hz] at hfn hsz hs1
   rw [<- hz]
   have HLY := LH (HLAY.out (Mt.laid bs q) (q + z) w5 HB5.out HP5.out hsz (by unfold Mt.laid; rw [<- HN.out]; omega))
   have e9 : IntKind.i64.wrap ((q : Int) + (z : Int)) = ((q + z : Nat) : Int) := by rw [IntWalk.i64_in _ (by omega)]; omega
   clear hb5 HO4 HP4 HB4 hz e0 e1 e2 d0 d1 d2
   go_wp2_with fail
   refine (show Calls Tryz.prog 87 #[_,_,.int .i64 ((q + z : Nat) : Int)] _ _ from HLY.out).mono ?_
   clear HLY
   rintro e w6 ⟨rfl,hP6,hb6,hk6⟩
   have HO6 : Hid (w6.ownsRow w.heap.size 48 3 (.slice a7 (k + 1) c7) (k + 1) (tc (ts ++ [t]))) := own_same9 HO5.out (fun g hg => by
    rcases HO5.out.2 with ⟨h0,_⟩ | ⟨g2,cap2,cur,h0,_,hc,_⟩
    ·rw [h0] at hg; simp [Value.ownBlock] at hg
    ·rw [h0] at hg
     simp only [Value.ownBlock,Option.some.injEq] at hg
     subst hg
     rw [hc]
     exact hk6 g2 cur (0,0) hc)
   have HP6 := LH hP6
   have HB6 := LH (HB5.out.trans hb6)
   have KT6 : Hid (Unit -> Mt.all bs d = (ts ++ [t]) ++ Mt.fnd bs d (n + 1 - (k + 1)) (q + z) /\ k + 1 <= q + z /\ k + 1 = (ts ++ [t]).length) := fun _ => by
    obtain ⟨h1,h2,h3⟩ := KT.out ()
    refine ⟨?_,by omega,by simp; omega⟩
    rw [h1,hfn.out (),List.append_assoc]
    rfl
   clear hP6 hb6 hk6 KT hfn HO5 HP5 HB5
   go_wp2_with fail
   go_roundw
   case rel => exact ⟨q + z,k + 1,c7,a7,ts ++ [t],by go_num,hsz,rfl,KT6,HO6,HP6,HB6⟩
   case measure => simp [intOf]; omega
  ·obtain rfl : q = n := by omega
   have hlt1 : ¬ (q : Int) < (q : Int) := by omega
   have hfin : Hid (Unit -> Mt.all bs d = ts /\ k = ts.length) := fun _ => by
    obtain ⟨h1,h2,h3⟩ := KT.out ()
    have e : Mt.fnd bs d (q + 1 - k) q = [] := by
     obtain ⟨z,hz⟩ : ∃ z,q + 1 - k = z + 1 := ⟨q - k,by omega⟩
     rw [hz]
     simp only [Mt.fnd]
     rw [<- HN.out,if_pos (Nat.le_refl _)]
    rw [e,List.append_nil] at h1
    exact ⟨h1,h3⟩
   clear KT
   go_wp2_with fail
   go_ret2
   obtain ⟨h1,h2⟩ := hfin.out ()
   exact ⟨_,rfl,by rw [h1,<- h2]; exact KO.out,KB.out⟩
end
section
open Go.RowKit
namespace Dp
open If (Tk)
def lits (ts : List Tk) : List Nat := (ts.filter fun t => decide (t.len = 0)).map Tk.lit
def lens (ts : List Tk) : List Nat := (ts.filter fun t => decide (t.len ≠ 0)).map fun t => 257 + Sy.lk t.len
def dists (ts : List Tk) : List Nat := (ts.filter fun t => decide (t.len ≠ 0)).map fun t => Sy.dk t.far
theorem lits_byte (ts : List Tk) (t : Tk) (h : t.len = 0) : lits (ts ++ [t]) = lits ts ++ [t.lit] /\ lens (ts ++ [t]) = lens ts /\ dists (ts ++ [t]) = dists ts := by
 simp [lits,lens,dists,List.filter_append,h]
theorem lits_copy (ts : List Tk) (t : Tk) (h : t.len ≠ 0) : lits (ts ++ [t]) = lits ts /\ lens (ts ++ [t]) = lens ts ++ [257 + Sy.lk t.len] /\ dists (ts ++ [t]) = dists ts ++ [Sy.dk t.far] := by
 simp [lits,lens,dists,List.filter_append,h]
theorem lits_len (ts : List Tk) : (lits ts).length <= ts.length /\ (lens ts).length <= ts.length /\ (dists ts).length <= ts.length := by
 simp only [lits,lens,dists,List.length_map]
 exact ⟨List.length_filter_le ..,List.length_filter_le ..,List.length_filter_le ..⟩
def litF (ts : List Tk) : List Nat := (List.range 286).map fun i => ([lits ts,lens ts,[256]] : List (List Nat)).flatten.count i
def distF (ts : List Tk) : List Nat := (List.range 30).map fun i => ([dists ts] : List (List Nat)).flatten.count i
theorem litF_length (ts : List Tk) : (litF ts).length = 286 := by simp [litF]
theorem distF_length (ts : List Tk) : (distF ts).length = 30 := by simp [distF]
theorem litF_get (ts : List Tk) (i : Nat) (h : i < 286) : (litF ts)[i]?.getD 0 = ([lits ts,lens ts,[256]] : List (List Nat)).flatten.count i := by simp [litF,h]
theorem distF_get (ts : List Tk) (i : Nat) (h : i < 30) : (distF ts)[i]?.getD 0 = ([dists ts] : List (List Nat)).flatten.count i := by simp [distF,h]
theorem litF_le (ts : List Tk) (i : Nat) : (litF ts)[i]?.getD 0 <= 2 * ts.length + 1 := by
 rcases Nat.lt_or_ge i 286 with h | h
 ·rw [litF_get ts i h]
  have h1 := List.count_le_length (a := i) (l := ([lits ts,lens ts,[256]] : List (List Nat)).flatten)
  have h2 := lits_len ts
  simp only [List.flatten_cons,List.flatten_nil,List.length_append,List.length_cons,List.length_nil,List.append_nil] at h1 ⊢
  omega
 ·rw [List.getElem?_eq_none (by rw [litF_length]; exact h)]; exact Nat.zero_le _
theorem distF_le (ts : List Tk) (i : Nat) : (distF ts)[i]?.getD 0 <= ts.length := by
 rcases Nat.lt_or_ge i 30 with h | h
 ·rw [distF_get ts i h]
  have h1 := List.count_le_length (a := i) (l := ([dists ts] : List (List Nat)).flatten)
  have h2 := lits_len ts
  simp only [List.flatten_cons,List.flatten_nil,List.append_nil] at h1 ⊢
  omega
 ·rw [List.getElem?_eq_none (by rw [distF_length]; exact h)]; exact Nat.zero_le _
theorem lits_lt (ts : List Tk) (h : ∀ t ∈ ts,If.Byt t ∨ If.Cop t) : (∀ x ∈ lits ts,x < 286) /\ (∀ x ∈ lens ts,x < 286) /\ (∀ x ∈ dists ts,x < 30) := by
 refine ⟨fun x hx => ?_,fun x hx => ?_,fun x hx => ?_⟩
 ·simp only [lits,List.mem_map,List.mem_filter,decide_eq_true_eq] at hx
  obtain ⟨t,⟨h1,h2⟩,rfl⟩ := hx
  rcases h t h1 with hb | hc
  ·have := hb.2; omega
  ·have := hc.1; omega
 ·simp only [lens,List.mem_map,List.mem_filter,decide_eq_true_eq] at hx
  obtain ⟨t,⟨h1,h2⟩,rfl⟩ := hx
  rcases h t h1 with hb | ⟨_,c1,c2,c3,c4⟩
  ·exact absurd hb.1 h2
  ·have := (Sy.lk_has t.len c1).1; omega
 ·simp only [dists,List.mem_map,List.mem_filter,decide_eq_true_eq] at hx
  obtain ⟨t,⟨h1,h2⟩,rfl⟩ := hx
  rcases h t h1 with hb | ⟨_,c1,c2,c3,c4⟩
  ·exact absurd hb.1 h2
  ·have := (Sy.dk_has t.far c3).1; omega
theorem fits_has (ts : List Tk) (h : ∀ t ∈ ts,If.Byt t ∨ If.Cop t) : (∀ t ∈ ts,If.Has1 (best (litF ts)) (best (distF ts)) t) /\ Hf.ln (best (litF ts)) 256 ≠ 0 := by
 have hl := lits_lt ts h
 have use : ∀ x,x < 286 -> x ∈ ([lits ts,lens ts,[256]] : List (List Nat)).flatten -> Hf.ln (best (litF ts)) x ≠ 0 := fun x hx hm => by
  rw [best_used _ (by rw [litF_length]; omega),litF_get ts x hx]
  have := List.count_pos_iff.2 hm
  omega
 have used : ∀ x,x < 30 -> x ∈ ([dists ts] : List (List Nat)).flatten -> Hf.ln (best (distF ts)) x ≠ 0 := fun x hx hm => by
  rw [best_used _ (by rw [distF_length]; omega),distF_get ts x hx]
  have := List.count_pos_iff.2 hm
  omega
 refine ⟨fun t ht => ?_,use 256 (by omega) (by simp)⟩
 unfold If.Has1
 by_cases h0 : t.len = 0
 ·rw [if_pos h0]
  have hm : t.lit ∈ lits ts := by simp only [lits,List.mem_map,List.mem_filter,decide_eq_true_eq]; exact ⟨t,⟨ht,h0⟩,rfl⟩
  exact use _ (hl.1 _ hm) (by simp [hm])
 ·rw [if_neg h0]
  have hm : 257 + Sy.lk t.len ∈ lens ts := by simp only [lens,List.mem_map,List.mem_filter,decide_eq_true_eq]; exact ⟨t,⟨ht,h0⟩,rfl⟩
  have hd : Sy.dk t.far ∈ dists ts := by simp only [dists,List.mem_map,List.mem_filter,decide_eq_true_eq]; exact ⟨t,⟨ht,h0⟩,rfl⟩
  exact ⟨use _ (hl.2.1 _ hm) (by simp [hm]),used _ (hl.2.2 _ hd) (by simp [hd])⟩
end Dp
theorem alloc_size' (w : World) (o : Obj) : (w.alloc o).heap.size = w.heap.size + 1 := by simp
theorem rz_zl {w : World} {g n : Nat} {d : Nat -> Nat} {fs : List Nat} (h : Rz w g n d) (hn : fs.length = n) (hn2 : n <= 1000) (hd : ∀ i,i < n -> fs[i]?.getD 0 = d i) : Zl w (.slice (some ⟨g,0,none⟩) n n) (Hd.zz fs) := by
 refine ⟨_,n,n,rfl,by rw [Hd.zz_length]; exact hn.symm,by omega,(fun e => by cases e),fun _ => ⟨g,0,rfl,h.lt,fun i hi => ?_⟩⟩
 rw [Hd.zz_get,hd i hi,Nat.zero_add]
 exact h.cell i hi
abbrev Blk256 : Obj := .cells #[.int .i64 256] 3
theorem lss3 {base : Nat} {w : World} {u v : Value} {xs ys : List Nat} (h1 : Own base w u xs) (h2 : Own base w v ys) (l1 : xs.length <= 1000000) (l2 : ys.length <= 1000000) :
  Lss ((w.alloc (Blk256)).alloc (.cells #[u,v,.slice (some ⟨w.heap.size,0,none⟩) 1 1] 57)) (w.heap.size + 1) [xs,ys,[256]] := by
 have hb : Below w.heap.size w ((w.alloc (Blk256)).alloc (.cells #[u,v,.slice (some ⟨w.heap.size,0,none⟩) 1 1] 57)) := (below1 w _).trans ((below1 _ _).mono (by simp))
 have hx := Has.new (w.alloc (Blk256)) (.cells #[u,v,.slice (some ⟨w.heap.size,0,none⟩) 1 1] 57)
 rw [alloc_size'] at hx
 obtain ⟨a1,c1,rfl⟩ := h1.shape
 obtain ⟨a2,c2,rfl⟩ := h2.shape
 have z1 := (h1.keep hb).zl (by omega)
 have z2 := (h2.keep hb).zl (by omega)
 have h3 := (Has.new w (Blk256)).one.1
 have h4 := ((below1 (w.alloc (Blk256)) (.cells #[.slice a1 xs.length c1,.slice a2 ys.length c2,.slice (some ⟨w.heap.size,0,none⟩) 1 1] 57)).cell (p := ⟨w.heap.size,0,none⟩) (by simp)).trans h3
 obtain ⟨k0,k1,k2⟩ := tk_cells hx
 intro j xs' hj
 match j,hj with
 | 0,hj => cases hj; exact ⟨_,_,_,k0,z1⟩
 | 1,hj => cases hj; exact ⟨_,_,_,k1,z2⟩
 | 2,hj =>
  cases hj
  refine ⟨_,_,_,k2,_,1,1,rfl,rfl,by omega,(fun e => by cases e),fun _ => ⟨w.heap.size,0,rfl,by simp; omega,fun i hi => ?_⟩⟩
  obtain rfl : i = 0 := by omega
  exact h4
 | j + 3,hj => simp at hj
theorem lss1 {base : Nat} {w : World} {u : Value} {xs : List Nat} (h1 : Own base w u xs) (l1 : xs.length <= 1000000) : Lss (w.alloc (.cells #[u] 57)) w.heap.size [xs] := by
 obtain ⟨a1,c1,rfl⟩ := h1.shape
 have z1 := (h1.alloc' (.cells #[.slice a1 xs.length c1] 57)).zl (by omega)
 have k0 := (Has.new w (.cells #[.slice a1 xs.length c1] 57)).one.1
 intro j xs' hj
 match j,hj with
 | 0,hj => cases hj; exact ⟨_,_,_,k0,z1⟩
 | j + 1,hj => simp at hj
theorem tally_zl (n b cap m : Nat) (L : List (List Nat)) (w : World) (hL : Lss w b L) (hm : m = L.length) (hb : b < w.heap.size) (hx : ∀ xs ∈ L,∀ x ∈ xs,x < n) (hn : n <= 300) (h9 : L.flatten.length <= 1000000) (hm9 : m <= 1000) (fs : List Nat) (hfl : fs.length = n) (hfs : ∀ i,i < n -> fs[i]?.getD 0 = L.flatten.count i) :
  Calls Tryz.prog 74 #[.int .i64 (n : Int),.slice (some ⟨b,0,none⟩) m cap] w fun e w' => ∃ g,e = .returned (.slice (some ⟨g,0,none⟩) n n) /\ Zl w' (.slice (some ⟨g,0,none⟩) n n) (Hd.zz fs) /\ Below w.heap.size w w' := by
 refine (tally_ok n b cap m L w hL hm hb hx hn h9 hm9).mono ?_
 rintro e w' ⟨rfl,h1,h2⟩
 exact ⟨_,rfl,rz_zl h1 hfl (by omega) hfs,h2⟩
def FitPost (w : World) (ts : List If.Tk) (e : Ending) (w' : World) : Prop :=
 ∃ L D,e = .returned (.tuple #[.slice (some ⟨L,0,none⟩) (Dp.best (Dp.litF ts)).length 286,.slice (some ⟨D,0,none⟩) (Dp.best (Dp.distF ts)).length 30,.int .i64 0]) /\ w.heap.size <= L /\ L < w'.heap.size /\ w.heap.size <= D /\ D < w'.heap.size /\
  (∀ i,i < (Dp.best (Dp.litF ts)).length -> w'.cell? ⟨L,i,none⟩ = some (.int .i64 ((Hf.ln (Dp.best (Dp.litF ts)) i : Nat) : Int))) /\
  (∀ i,i < (Dp.best (Dp.distF ts)).length -> w'.cell? ⟨D,i,none⟩ = some (.int .i64 ((Hf.ln (Dp.best (Dp.distF ts)) i : Nat) : Int))) /\ Below w.heap.size w w'
theorem fitting_ok (a : Option Addr) (n c : Nat) (ts : List If.Tk) (w : World) (hs : Tks w (.slice a n c) ts) (hn : n = ts.length) (hv : ∀ t ∈ ts,If.Byt t ∨ If.Cop t) (hl : n <= 65536) :
  Calls Tryz.prog 41 #[.slice a n c] w (FitPost w ts) := by
 have HS := LH hs
 have HN := LH hn
 have HV := LH hv
 have T0 := LH (Tri.start w)
 clear hs hn hv
 go_enter Tryz.func41,Tryz.ntmps41
 go_wp2_with fail
 go_loopw [5,6,7,17] (fun s5 s6 s7 s17 wr => ∃ i : Nat,i <= n /\ s17 = .int .i64 (i : Int) /\ Hid (Tri w wr s6 s7 s5 (Dp.lens (ts.take i)) (Dp.dists (ts.take i)) (Dp.lits (ts.take i)))) (fun _ _ _ s _ => n - (intOf s).toNat)
 case atStart => exact ⟨0,Nat.zero_le _,rfl,by show Tri _ _ _ _ _ _ _ _; simpa [Dp.lens,Dp.dists,Dp.lits] using T0.out⟩
 case round =>
  obtain ⟨i,hi,rfl,KT⟩ := hrel
  by_cases hlt : i < n
  ·have hit : i < ts.length := by rw [<- HN.out]; exact hlt
   obtain ⟨t,ht⟩ : ∃ t,ts[i]? = some t := ⟨ts[i],List.getElem?_eq_getElem hit⟩
   obtain ⟨hnn,b,off,rfl,hbl,k0,k1,k2⟩ := (HS.out.later (KT.out.l)).at' i t ht
   clear hnn
   have hval := HV.out t (List.mem_of_getElem? ht)
   have hsn : ts.take (i + 1) = ts.take i ++ [t] := by rw [List.take_add_one,ht,Option.toList]
   have hlk := Dp.lits_len (ts.take i)
   have htl : (ts.take i).length <= n := by rw [List.length_take]; omega
   by_cases h0 : t.len = 0
   ·obtain ⟨e1,e2,e3⟩ := Dp.lits_byte (ts.take i) t h0
    rw [<- hsn] at e1 e2 e3
    obtain ⟨len,far,x⟩ := t
    simp only at h0
    subst h0
    have k0' : wr.cell? ⟨b,off + i * 3,none⟩ = some (.int .i64 0) := k0
    have KB := LH (KT.out.alloc (.cells #[.int .i64 0,.int .i64 (far : Int),.int .u8 (x : Int)] 48))
    obtain ⟨f0,f1,f2⟩ := tk_cells (Has.new wr (.cells #[.int .i64 0,.int .i64 (far : Int),.int .u8 (x : Int)] 48))
    simp only at k1 k2 e1 e2 e3
    clear k0
    have hx8 : x < 256 := by
     rcases hval with hb | hc
     ·exact hb.2.2
     ·have := hc.2.1; simp at this
    obtain ⟨v5,w5,hrun,ht5⟩ := KB.out.rot.rot.one x (by omega) 57
    rw [alloc_size'] at hrun
    have HRUN := LH hrun
    have H5 : Hid (Tri w w5 u6 u7 v5 (Dp.lens (ts.take (i + 1))) (Dp.dists (ts.take (i + 1))) (Dp.lits (ts.take (i + 1)))) := by
     show Tri _ _ _ _ _ _ _ _
     rw [e1,e2,e3]
     exact ht5.rot
    clear KT KB hrun ht5 hval hsn hlk htl hit ht hbl e1 e2 e3
    go_wp2_with (at_builtin; (refine wpList_append_is rfl (.tmp 24) (.tmp 28) 57 rfl _ _ _ _ rfl rfl HRUN.out ?_))
    go_roundw
    case rel => first | exact ⟨i + 1,by omega,by go_num,H5⟩ | ((repeat apply Exists.intro); exact ⟨⟨i + 1,by omega,by go_num,H5⟩,rfl⟩)
    case measure => simp [intOf]; omega
   ·obtain ⟨e1,e2,e3⟩ := Dp.lits_copy (ts.take i) t h0
    rw [<- hsn] at e1 e2 e3
    have hcop : If.Cop t := by
     rcases hval with hb | hc
     ·exact absurd hb.1 h0
     ·exact hc
    obtain ⟨len,far,x⟩ := t
    obtain ⟨hx0,q1,q2,q3,q4⟩ := hcop
    simp only at q1 q2 q3 q4 h0 e1 e2 e3 k0 k1 k2
    have HBX := LH (Has.new wr (.cells #[.int .i64 (len : Int),.int .i64 (far : Int),.int .u8 (x : Int)] 48))
    have KB := LH (KT.out.alloc (.cells #[.int .i64 (len : Int),.int .i64 (far : Int),.int .u8 (x : Int)] 48))
    obtain ⟨f0,f1,f2⟩ := tk_cells HBX.out
    have g1 := (Sy.lk_has len q1).1
    have g2 := (Sy.dk_has far q3).1
    obtain ⟨sl,hsl⟩ : ∃ sl,sl = Sy.lk len := ⟨_,rfl⟩
    obtain ⟨sd,hsd⟩ : ∃ sd,sd = Sy.dk far := ⟨_,rfl⟩
    have gl := LH (fun W => len_go len q1 q2 W)
    have gd := LH (fun W => dist_go far q3 q4 W)
    rw [<- hsl] at gl e2 g1
    rw [<- hsd] at gd e3 g2
    obtain ⟨vl,hvl⟩ : ∃ vl,vl = len - Sy.at' Sy.lf sl := ⟨_,rfl⟩
    obtain ⟨vd,hvd⟩ : ∃ vd,vd = far - Sy.at' Sy.df sd := ⟨_,rfl⟩
    rw [<- hvl] at gl
    rw [<- hvd] at gd
    have E := LH (And.intro e1 (And.intro e2 e3))
    have HLK := LH (And.intro hlk htl)
    clear KT hx0 hval hsn hlk htl hit ht hbl e1 e2 e3 hsl hsd hvl hvd q2 q4
    go_wp2_with fail
    refine (gl.out _).mono ?_
    rintro e w4 ⟨rfl,hb4⟩
    have KC := LH (KB.out.later hb4)
    obtain ⟨f3,f4,f5⟩ := tk_cells (HBX.out.later hb4)
    clear KB hb4 f0 f1 f2 gl
    go_wp2_with fail
    refine (gd.out _).mono ?_
    rintro e w5 ⟨rfl,hb5⟩
    have KD := LH (KC.out.later hb5)
    clear KC hb5 f3 f4 f5 gd
    obtain ⟨v6,v7,w6,w7,hr1,hr2,ht⟩ := KD.out.apbq (257 + sl) sd (by have := HLK.out; omega) (by have := HLK.out; omega) 57
    have ev : (((257 + sl : Nat) : Nat) : Int) = 257 + (sl : Int) := by omega
    unfold OneN at hr1 hr2
    rw [ev] at hr1
    have HR1 := LH hr1
    have HR2 := LH hr2
    have H5 : Hid (Tri w w7 v6 v7 u5 (Dp.lens (ts.take (i + 1))) (Dp.dists (ts.take (i + 1))) (Dp.lits (ts.take (i + 1)))) := by
     show Tri _ _ _ _ _ _ _ _
     rw [E.out.1,E.out.2.1,E.out.2.2]
     exact ht
    clear KD hr1 hr2 ht ev E HLK
    go_wp2_with (at_builtin; (first | (refine wpList_append_is rfl (.tmp 50) (.tmp 52) 57 rfl _ _ _ _ rfl rfl HR1.out ?_) | (refine wpList_append_is rfl (.tmp 54) (.tmp 56) 57 rfl _ _ _ _ rfl rfl HR2.out ?_)))
    go_roundw
    case rel => first | exact ⟨i + 1,by omega,by go_num,H5⟩ | ((repeat apply Exists.intro); exact ⟨⟨i + 1,by omega,by go_num,H5⟩,rfl⟩)
    case measure => simp [intOf]; omega
  ·obtain rfl : i = n := by omega
   have htk : ts.take i = ts := List.take_of_length_le (by rw [<- HN.out]; exact Nat.le_refl _)
   rw [htk] at KT
   have hlt := Dp.lits_lt ts HV.out
   have hll := Dp.lits_len ts
   have hnl : ts.length <= 65536 := by have := HN.out; omega
   have FL := LH (Dp.litF_length ts)
   have FD := LH (Dp.distF_length ts)
   obtain ⟨a5,c5,e5⟩ := KT.out.c.shape
   obtain ⟨a6,c6,e6⟩ := KT.out.a.shape
   obtain ⟨a7,c7,e7⟩ := KT.out.b.shape
   obtain ⟨m5,hm5⟩ : ∃ m5,m5 = (Dp.lits ts).length := ⟨_,rfl⟩
   obtain ⟨m6,hm6⟩ : ∃ m6,m6 = (Dp.lens ts).length := ⟨_,rfl⟩
   obtain ⟨m7,hm7⟩ : ∃ m7,m7 = (Dp.dists ts).length := ⟨_,rfl⟩
   rw [<- hm5] at e5
   rw [<- hm6] at e6
   rw [<- hm7] at e7
   subst e5 e6 e7
   clear hm5 hm6 hm7
   have hlss := lss3 KT.out.c KT.out.a (by omega) (by omega)
   have TL := LH (tally_zl 286 (wr.heap.size + 1) 3 3 [Dp.lits ts,Dp.lens ts,[256]] _ hlss rfl (by simp) (by
     intro xs hxs x hx
     simp only [List.mem_cons,List.not_mem_nil,or_false] at hxs
     rcases hxs with rfl | rfl | rfl
     ·exact hlt.1 x hx
     ·exact hlt.2.1 x hx
     ·simp at hx; omega) (by omega) (by simp; omega) (by omega) (Dp.litF ts) (Dp.litF_length ts) (fun i hi => Dp.litF_get ts i hi))
   have hb2 : Below wr.heap.size wr ((wr.alloc Blk256).alloc (.cells #[.slice a5 m5 c5,.slice a6 m6 c6,.slice (some ⟨wr.heap.size,0,none⟩) 1 1] 57)) := (below1 wr _).trans ((below1 _ _).mono (by simp))
   have K2 := LH (KT.out.later hb2)
   unfold Blk256 at TL K2
   have BL := LH (fun (W : World) (g : Nat) (hz : Zl W (.slice (some ⟨g,0,none⟩) 286 286) (Hd.zz (Dp.litF ts))) => best_ok (Dp.litF ts) _ W hz (by rw [FL.out]; omega) (by rw [FL.out]; omega) (fun i => by have := Dp.litF_le ts i; omega))
   have BD := LH (fun (W : World) (g : Nat) (hz : Zl W (.slice (some ⟨g,0,none⟩) 30 30) (Hd.zz (Dp.distF ts))) => best_ok (Dp.distF ts) _ W hz (by rw [FD.out]; omega) (by rw [FD.out]; omega) (fun i => by have := Dp.distF_le ts i; omega))
   have HTD := LH (fun (W : World) (hlss : Lss (W.alloc (.cells #[.slice a7 m7 c7] 57)) W.heap.size [Dp.dists ts]) => tally_zl 30 W.heap.size 1 1 [Dp.dists ts] _ hlss rfl (by simp) (by
     intro xs hxs x hx
     simp only [List.mem_cons,List.not_mem_nil,or_false] at hxs
     subst hxs
     exact hlt.2.2 x hx) (by omega) (by simp; omega) (by omega) (Dp.distF ts) (Dp.distF_length ts) (fun i hi => Dp.distF_get ts i hi))
   have HD7 := LH (And.intro hll.2.2 hnl)
   clear KT htk hlt hll hnl hlss hb2
   go_wp2_with fail
   refine (show Calls Tryz.prog 74 #[.int .i64 286,_] _ _ from TL.out).mono ?_
   clear TL
   rintro e w1 ⟨g1,rfl,hr1,hb1⟩
   have K3 := LH (K2.out.later hb1)
   have Z1 := LH hr1
   clear hr1 hb1 K2
   go_wp2_with fail
   refine (BL.out _ _ Z1.out).mono ?_
   rintro e w2 ⟨L,rfl,hL1,hL2,hL3,hb2⟩
   have K4 := LH (K3.out.later hb2)
   have XL := LH (And.intro (Nat.le_trans K3.out.l.size hL1) (And.intro hL2 hL3))
   have hlss := lss1 K4.out.b (by have := HD7.out; omega)
   have TD := LH (HTD.out w2 hlss)
   have K5 := LH (K4.out.later (below1 w2 (.cells #[.slice a7 m7 c7] 57)))
   have HB5 := LH (below1 w2 (.cells #[.slice a7 m7 c7] 57))
   clear BL Z1 HTD K3 K4 hL1 hL2 hL3 hb2 hlss
   go_wp2_with fail
   refine (show Calls Tryz.prog 74 #[.int .i64 30,_] _ _ from TD.out).mono ?_
   clear TD
   rintro e w3 ⟨g3,rfl,hr1,hb1⟩
   have K6 := LH (K5.out.later hb1)
   have HB6 := LH (HB5.out.trans (hb1.mono HB5.out.size))
   have Z1 := LH hr1
   clear hr1 hb1 K5 HB5
   go_wp2_with fail
   refine (BD.out _ _ Z1.out).mono ?_
   rintro e w4 ⟨D,rfl,hD1,hD2,hD3,hb2⟩
   have HB7 := HB6.out.trans (hb2.mono HB6.out.size)
   have hfin : FitPost w ts (.returned (.tuple #[.slice (some ⟨L,0,none⟩) (Dp.best (Dp.litF ts)).length 286,.slice (some ⟨D,0,none⟩) (Dp.best (Dp.distF ts)).length 30,.int .i64 0])) w4 :=
    ⟨L,D,rfl,XL.out.1,Nat.lt_of_lt_of_le XL.out.2.1 HB7.size,Nat.le_trans K6.out.l.size hD1,hD2,fun i hi => (HB7.cell (p := ⟨L,i,none⟩) XL.out.2.1).trans (XL.out.2.2 i hi),hD3,(K6.out.later hb2).l⟩
   have HFIN := LH hfin
   clear BD Z1 hD1 hD2 hD3 hb2 HB7 HB6 K6 hfin XL
   rw [FL.out,FD.out]
   go_wp2_with fail
   exact bodyPost_ret (v := .tuple #[.slice (some ⟨L,0,none⟩) (Dp.best (Dp.litF ts)).length 286,.slice (some ⟨D,0,none⟩) (Dp.best (Dp.distF ts)).length 30,.int .i64 0]) (by simp [results,Tryz.results41,go_sem]) rfl HFIN.out
end
section
open Go.RowKit
theorem short1_ok (a b : Option Addr) (n c m d : Nat) (w : World) : Calls Tryz.prog 89 #[.slice a n c,.slice b m d] w fun e w' => e = .returned (.int .i64 (cmpv n m)) /\ w = w' := by
 go_enter Tryz.func89,Tryz.ntmps89
 go_wp2_with (go_at_call 90; refine (compare_any n m _).mono ?_; rintro e w' ⟨rfl,rfl⟩)
 go_ret
 exact ⟨rfl,rfl⟩
theorem min2_ok (a b : Option Addr) (n c m d L cap : Nat) (r : Value) (w : World) (h0 : w.cell? ⟨L,0,none⟩ = some (.slice a n c)) (h1 : w.cell? ⟨L,1,none⟩ = some (.slice b m d)) (hr : m < n /\ r = .slice b m d ∨ n <= m /\ r = .slice a n c) :
  Calls Tryz.prog 88 #[.slice (some ⟨L,0,none⟩) 2 cap,.func (.func 89) #[] #[]] w fun e w' => e = .returned r /\ w = w' := by
 have HC := LH (fun W => short1_ok b a m d n c W)
 have HR := LH hr
 clear hr
 go_enter Tryz.func88,Tryz.ntmps88
 go_wp2
 go_loop [5,6] (fun s t => (s = .slice a n c /\ t = .int .i64 1) ∨ (s = r /\ t = .int .i64 2)) (fun _ t => 2 - (intOf t).toNat)
 case atStart => exact Or.inl ⟨rfl,rfl⟩
 case round =>
  rcases hrel with ⟨rfl,rfl⟩ | ⟨rfl,rfl⟩
  ·rcases HR.out with ⟨hlt,rfl⟩ | ⟨hle,rfl⟩
   ·have e1 : cmpv m n = -1 := by unfold cmpv; rw [if_pos hlt]
    rw [e1] at HC
    clear e1 hlt HR
    go_wp2_with (go_at_call 89; refine (HC.out _).mono ?_; rintro e w' ⟨rfl,rfl⟩)
    go_round
    case rel => exact Or.inr ⟨rfl,rfl⟩
    case measure => simp [intOf]
   ·obtain ⟨q,hq,hq0⟩ : ∃ q : Int,q = cmpv m n /\ ¬ q < 0 := by
     refine ⟨_,rfl,?_⟩
     unfold cmpv
     rw [if_neg (by omega)]
     split <;> omega
    rw [<- hq] at HC
    clear hq hle HR
    go_wp2_with (go_at_call 89; refine (HC.out _).mono ?_; rintro e w' ⟨rfl,rfl⟩)
    go_round
    case rel => exact Or.inr ⟨rfl,rfl⟩
    case measure => simp [intOf]
  ·rcases HR.out with ⟨_,rfl⟩ | ⟨_,rfl⟩ <;>
   ·clear HR HC
    go_wp2
    go_ret
    exact ⟨rfl,rfl⟩
theorem shortest_ok (a b : Option Addr) (n c m d L cap : Nat) (r : Value) (w : World) (h0 : w.cell? ⟨L,0,none⟩ = some (.slice a n c)) (h1 : w.cell? ⟨L,1,none⟩ = some (.slice b m d)) (hr : m < n /\ r = .slice b m d ∨ n <= m /\ r = .slice a n c) :
  Calls Tryz.prog 48 #[.slice (some ⟨L,0,none⟩) 2 cap] w fun e w' => e = .returned r /\ w = w' := by
 have H := LH (min2_ok a b n c m d L cap r w h0 h1 hr)
 clear h0 h1 hr
 go_enter Tryz.func48,Tryz.ntmps48
 go_wp2_with fail
 refine H.out.mono ?_
 rintro e w1 ⟨rfl,rfl⟩
 go_wp2_with fail
 go_ret
 exact ⟨rfl,rfl⟩
end
end Go.Proofs.YtmgpcbjciioiaaaGreatDoor
