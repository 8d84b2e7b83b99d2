import Derived.Test.YtmgpcbjciioiaaaGreatDoorIstr
import Derived.Test.YtmgpcbjciioiaaaGreatDoorLapp
import Derived.Test.YtmgpcbjciioiaaaGreatDoorWruns
namespace Go.Proofs.YtmgpcbjciioiaaaGreatDoor
set_option maxRecDepth 100000
set_option maxHeartbeats 8000000
section
open Go.RowKit
theorem dfixedDist_is (w : World) : Calls Tryz.prog 32 #[] w fun e w' => ∃ v,e = .returned v /\ Own w.heap.size w' v If.fixD /\ Below w.heap.size w w' := by
 have hA := Has.new w (.cells #[.int .i64 5] 3)
 have HR := LH (repeat_one w.heap.size 1 5 32 (by decide) (by decide) (w.alloc (.cells #[.int .i64 5] 3)) hA.lt hA.one.1)
 clear hA
 go_enter Tryz.func32,Tryz.ntmps32
 go_wp2_with fail
 refine HR.out.mono ?_
 rintro e w1 ⟨g,rfl,hx,hge,hb⟩
 have HX := LH hx
 have HG := LH hge
 have HB := LH hb
 clear hx hge hb
 go_wp2
 go_ret
 refine ⟨_,rfl,⟨by unfold If.fixD; rfl,Or.inr ⟨g,32,_,rfl,?_,HX.out,Nat.le_refl _,by unfold maxLen; omega,?_,?_⟩⟩,(below1 _ _).trans (HB.out.mono (by simp))⟩
 ·have := HG.out; simp at this; omega
 ·rfl
 ·rfl
theorem dfixedLit_is (w : World) : Calls Tryz.prog 31 #[] w fun e w' => ∃ v,e = .returned v /\ Own w.heap.size w' v If.fixL /\ Below w.heap.size w w' := by
 have hA := Has.new w (.cells #[.int .i64 8] 3)
 have HR := LH (repeat_one w.heap.size 1 8 144 (by decide) (by decide) (w.alloc (.cells #[.int .i64 8] 3)) hA.lt hA.one.1)
 clear hA
 go_enter Tryz.func31,Tryz.ntmps31
 go_wp2_with fail
 refine HR.out.mono ?_
 clear HR
 rintro e w1 ⟨g0,rfl,hx0,hge0,hb⟩
 have HB1 := LH ((below1 w (.cells #[.int .i64 8] 3)).trans (hb.mono (by simp)))
 have hA := Has.new w1 (.cells #[.int .i64 9] 3)
 have HR := LH (repeat_one w1.heap.size 1 9 112 (by decide) (by decide) (w1.alloc (.cells #[.int .i64 9] 3)) hA.lt hA.one.1)
 have HX0 := LH hx0
 clear hA hx0 hge0 hb
 go_wp2_with fail
 refine HR.out.mono ?_
 clear HR
 rintro e w2 ⟨g1,rfl,hx1,hge1,hb⟩
 have hb12 := (below1 w1 (.cells #[.int .i64 9] 3)).trans (hb.mono (by simp))
 have HB2 := LH (HB1.out.trans (hb12.mono HB1.out.size))
 have hA := Has.new w2 (.cells #[.int .i64 7] 3)
 have HR := LH (repeat_one w2.heap.size 1 7 24 (by decide) (by decide) (w2.alloc (.cells #[.int .i64 7] 3)) hA.lt hA.one.1)
 have HX0' := LH (HX0.out.later hb12)
 have HX1 := LH hx1
 clear hA hx1 hge1 hb hb12 HX0 HB1
 go_wp2_with fail
 refine HR.out.mono ?_
 clear HR
 rintro e w3 ⟨g2,rfl,hx2,hge2,hb⟩
 have hb12 := (below1 w2 (.cells #[.int .i64 7] 3)).trans (hb.mono (by simp))
 have HB3 := LH (HB2.out.trans (hb12.mono HB2.out.size))
 have hA := Has.new w3 (.cells #[.int .i64 8] 3)
 have HR := LH (repeat_one w3.heap.size 1 8 8 (by decide) (by decide) (w3.alloc (.cells #[.int .i64 8] 3)) hA.lt hA.one.1)
 have HX0 := LH (HX0'.out.later hb12)
 have HX1' := LH (HX1.out.later hb12)
 have HX2 := LH hx2
 clear hA hx2 hge2 hb hb12 HX0' HX1 HB2
 go_wp2_with fail
 refine HR.out.mono ?_
 clear HR
 rintro e w4 ⟨g3,rfl,hx3,hge3,hb⟩
 have hb12 := (below1 w3 (.cells #[.int .i64 8] 3)).trans (hb.mono (by simp))
 have HB4 := LH (HB3.out.trans (hb12.mono HB3.out.size))
 have bC := below1 w4 (.cells #[.slice (some ⟨g0,0,none⟩) 144 144,.slice (some ⟨g1,0,none⟩) 112 112,.slice (some ⟨g2,0,none⟩) 24 24,.slice (some ⟨g3,0,none⟩) 8 8] 57)
 have HC := LH (concat4 w4.heap.size g0 g1 g2 g3 144 112 24 8 8 9 7 8 _ (Has.new w4 (.cells #[.slice (some ⟨g0,0,none⟩) 144 144,.slice (some ⟨g1,0,none⟩) 112 112,.slice (some ⟨g2,0,none⟩) 24 24,.slice (some ⟨g3,0,none⟩) 8 8] 57))
  ((HX0.out.later hb12).later bC) ((HX1'.out.later hb12).later bC) ((HX2.out.later hb12).later bC) (hx3.later bC) (by decide) (by decide) (by decide) (by decide) (by decide) (by decide) (by decide) (by decide))
 have BC := LH (HB4.out.trans (bC.mono HB4.out.size))
 clear hx3 hge3 hb hb12 bC HX0 HX1' HX2 HB3
 go_wp2_with fail
 refine HC.out.mono ?_
 rintro e w5 ⟨v,rfl,ho,hb5⟩
 have HO := LH ho
 have HB5 := LH hb5
 clear ho hb5 HC
 go_wp2
 go_ret
 exact ⟨_,rfl,HO.out.weaken (by have := BC.out.size; omega),BC.out.trans (HB5.out.mono BC.out.size)⟩
def Cells (w : World) (g : Nat) (ls : List Nat) : Prop := ∀ i,i < ls.length -> w.cell? ⟨g,i,none⟩ = some (.int .i64 ((Hf.ln ls i : Nat) : Int))
theorem Cells.later {w w' : World} {g : Nat} {ls : List Nat} (h : Cells w g ls) (hg : g < w.heap.size) (hb : Below w.heap.size w w') : Cells w' g ls := fun i hi => (hb.cell (p := ⟨g,i,none⟩) hg).trans (h i hi)
theorem own_ints {w : World} {base : Nat} {v : Value} {ls : List Nat} (h : Own base w v ls) (h0 : 0 < ls.length) : ∃ g c,v = .slice (some ⟨g,0,none⟩) ls.length c /\ base <= g /\ g < w.heap.size /\ Cells w g ls := by
 have hh : w.ownsRow base 3 1 v ls.length (vn ls) := h
 rcases hh.2 with ⟨_,h1⟩ | ⟨g,c,cur,rfl,hb,hg,_⟩
 ·omega
 ·refine ⟨g,c,rfl,hb,lt_of_block hg,fun i hi => ?_⟩
  have hc := hh.cells (g := g) rfl i (.int .i64 ((Hf.ln ls i : Nat) : Int)) (by
   unfold vn Hf.ln
   rw [List.getElem?_map,List.getElem?_eq_getElem hi]
   rfl)
  have e : (⟨g,0,none⟩ : Addr).add i = ⟨g,i,none⟩ := by cases i <;> simp [Addr.add]
  rw [e] at hc
  exact hc
def NewL (W : World) (ls : List Nat) (n : Nat) (e : Ending) (w' : World) : Prop := ∃ g c,e = .returned (.slice (some ⟨g,0,none⟩) n c) /\ W.heap.size <= g /\ g < w'.heap.size /\ Cells w' g ls /\ Below W.heap.size W w'
theorem fixLit_go (W : World) : Calls Tryz.prog 31 #[] W (NewL W If.fixL 288) := by
 refine (dfixedLit_is W).mono ?_
 rintro e w' ⟨v,rfl,ho,hb⟩
 obtain ⟨g,c,rfl,h1,h2,h3⟩ := own_ints ho (by decide)
 exact ⟨g,c,rfl,h1,h2,h3,hb⟩
theorem fixDist_go (W : World) : Calls Tryz.prog 32 #[] W (NewL W If.fixD 32) := by
 refine (dfixedDist_is W).mono ?_
 rintro e w' ⟨v,rfl,ho,hb⟩
 obtain ⟨g,c,rfl,h1,h2,h3⟩ := own_ints ho (by decide)
 exact ⟨g,c,rfl,h1,h2,h3,hb⟩
theorem fixed1_lay (w : World) (P : Nat) (a : Option Addr) (n c : Nat) (ts : List If.Tk) (hp : Has w P (.cells #[.slice a n c] 30 (0,0))) (hs : Tks w (.slice a n c) ts) (hn : n = ts.length) (hn9 : n <= 65536) (hv : ∀ t ∈ ts,If.Byt t ∨ If.Cop t) :
  Calls Tryz.prog 28 #[LF w.heap.size,.pointer (some ⟨P,0,none⟩)] (boxes w) (LayPost w (boxes w) w.heap.size (.slice none 0 0) (If.fixRow ts)) := by
 have hly := boxes_ly w
 have HB := LH (begin_lay hly true 1 (by decide) (by simp))
 have HP := LH (fun W (hb : Below w.heap.size w W) => (hp.later hb).one.1)
 have hpl := hp.lt
 have htk : ∀ W,Below w.heap.size w W -> Tks W (.slice a n c) ts := fun W hb => hs.later hb
 have hhas : ∀ t ∈ ts,If.Has1 If.fixL If.fixD t := fun t h => If.has_fix (hv t h)
 have he : Hf.ln If.fixL 256 ≠ 0 := by have := If.ln_fixL 256 (by decide); omega
 have SYM : Hid (∀ (w1 W : World),Lx w (boxes w) (.slice none 0 0) w1 w.heap.size ([] ++ begBits true 1) -> Below w1.heap.size w1 W -> ∀ (gL cL gD cD : Nat),w1.heap.size <= gL -> gL < W.heap.size -> Cells W gL If.fixL -> w1.heap.size <= gD -> gD < W.heap.size -> Cells W gD If.fixD ->
   Calls Tryz.prog 30 #[LF w.heap.size,.slice a n c,.slice (some ⟨gL,0,none⟩) 288 cL,.slice (some ⟨gD,0,none⟩) 32 cD] W fun e w' => e = .returned (.tuple #[]) /\ Lx w (boxes w) (.slice none 0 0) w' w.heap.size (If.fixRow ts)) := by
  intro w1 W h1 hb gL cL gD cD h2 h3 h4 h5 h6 h7
  obtain ⟨tv1,hly1,hfz1⟩ := h1
  have hT := hly1.f.lt
  have hfb : ∀ g,w1.heap.size <= g -> g < W.heap.size -> Fb w.heap.size tv1 W g := fun g k1 k2 => ⟨k2,by omega,by omega,by omega,fun e => by have := (World.ownsRow.lt hly1.t.2 g e).2; omega⟩
  refine (symbols_lay (hly1.later hb) a n c ts htk hn If.fixL If.fixD gL cL gD cD h4 h7 (hfb gL h2 h3) (hfb gD h5 h6) If.fit_fixL If.fit_fixD (by decide) (by decide) (by decide) (by decide) hv hhas he (by simp [begBits,Bs.bitsOf_length]; omega)).mono ?_
  rintro e w' ⟨rfl,tv',h8,h9⟩
  refine ⟨rfl,tv',?_,(hfz1.trans (Fz.of_below hb)).trans h9⟩
  exact h8
 clear hly hp hs hn hn9 hv htk hhas he
 go_enter Tryz.func28,Tryz.ntmps28
 go_wp2_with fail
 refine (show Calls Tryz.prog 29 #[_,_,.int .i64 1] _ _ from HB.out).mono ?_
 clear HB
 rintro e w1 ⟨rfl,h1⟩
 have H1 := LH (show Lx w (boxes w) (.slice none 0 0) w1 w.heap.size ([] ++ begBits true 1) from h1)
 have SY := LH (fun W => SYM.out w1 W H1.out)
 have cP := HP.out w1 H1.out.b
 have hP1 : P < w1.heap.size := by have := H1.out.s; have h2 : (boxes w).heap.size = w.heap.size + 3 := by simp [boxes]
                                   omega
 clear h1 SYM
 go_wp2_with fail
 go_region_with (first
  | (go_at_call 31; refine (fixLit_go _).mono ?_; rintro e wl ⟨gL,cL,rfl,hL1,hL2,hL3,hL4⟩; have cPl := (hL4.cell (p := ⟨P,0,none⟩) (by first | exact hP1 | exact hPd)).trans (by first | exact cP | exact cPd); have hPl := Nat.lt_of_lt_of_le (show P < _ by first | exact hP1 | exact hPd) hL4.size; have XL := LH (And.intro hL1 (And.intro hL2 (And.intro hL3 hL4))); clear hL1 hL2 hL3 hL4)
  | (go_at_call 32; refine (fixDist_go _).mono ?_; rintro e wd ⟨gD,cD,rfl,hD1,hD2,hD3,hD4⟩; have cPd := (hD4.cell (p := ⟨P,0,none⟩) (by first | exact hP1 | exact hPl)).trans (by first | exact cP | exact cPl); have hPd := Nat.lt_of_lt_of_le (show P < _ by first | exact hP1 | exact hPl) hD4.size; have XD := LH (And.intro hD1 (And.intro hD2 (And.intro hD3 hD4))); clear hD1 hD2 hD3 hD4)
  | (go_at_call 30; (first
    | (refine (SY.out wd (((Below.refl w1.heap.size w1).drew).trans (XL.out.2.2.2.trans (XD.out.2.2.2.mono XL.out.2.2.2.size))) gL cL gD cD XL.out.1 (Nat.lt_of_lt_of_le XL.out.2.1 XD.out.2.2.2.size) (XL.out.2.2.1.later XL.out.2.1 XD.out.2.2.2) (Nat.le_trans XL.out.2.2.2.size XD.out.1) XD.out.2.1 XD.out.2.2.1).mono ?_)
    | (refine (SY.out wl (((Below.refl w1.heap.size w1).drew).trans (XD.out.2.2.2.trans (XL.out.2.2.2.mono XD.out.2.2.2.size))) gL cL gD cD (Nat.le_trans XD.out.2.2.2.size XL.out.1) XL.out.2.1 XL.out.2.2.1 XD.out.1 (Nat.lt_of_lt_of_le XD.out.2.1 XL.out.2.2.2.size) (XD.out.2.2.1.later XD.out.2.1 XL.out.2.2.2)).mono ?_)); rintro e w9 ⟨rfl,h9⟩; have H9 := LH h9; clear h9))
 all_goals
  go_wp2
  exact ⟨rfl,.tuple #[],by simp [results,Tryz.results28,go_sem],H9.out.post⟩
end
section
open Go.RowKit
structure Ti where
 len : Int
 far : Int
 lit : Nat
namespace Ti
def v (t : Ti) : Value := .agg #[.int .i64 t.len,.int .i64 t.far,.int .u8 (t.lit : Int)]
def of (t : If.Tk) : Ti := ⟨t.len,t.far,t.lit⟩
def tk (t : Ti) : If.Tk := ⟨t.len.toNat,t.far.toNat,t.lit⟩
def May (t : Ti) : Prop := (t.len = 0 /\ t.far = 0) ∨ (t.lit = 0 /\ 3 <= t.len /\ t.len <= 258 /\ 1 <= t.far /\ t.far <= 32768)
instance (t : Ti) : Decidable t.May := by unfold May; infer_instance
theorem May.tv {t : Ti} (h : t.May) (h8 : t.lit < 256) : Tv t.tk /\ Ti.of t.tk = t := by
 obtain ⟨n,d,x⟩ := t
 unfold tk of
 rcases h with ⟨h1,h2⟩ | ⟨h0,h1,h2,h3,h4⟩
 ·simp only at h1 h2 h8
  subst h1 h2
  exact ⟨Or.inl ⟨rfl,rfl,h8⟩,rfl⟩
 ·simp only at h0 h1 h2 h3 h4
  refine ⟨Or.inr ⟨h0,by simp only; omega,by simp only; omega,by simp only; omega,by simp only; omega⟩,?_⟩
  simp only [Ti.mk.injEq,and_true]
  omega
def flt (t : Ti) (q most : Nat) : Int := if t.May then if q < t.tk.far then 14 else if most < q + If.sz t.tk then 3 else 0 else 2
def scan (most : Nat) : List Ti -> List Nat -> Int × List Nat
 | [],out => (0,out)
 | t :: l,out => if t.flt out.length most = 0 then scan most l (If.tell1 out t.tk) else (t.flt out.length most,[])
theorem flt_ok {t : Ti} {q most : Nat} (h8 : t.lit < 256) (h : t.flt q most = 0) : If.Val t.tk q /\ q + If.sz t.tk <= most /\ Ti.of t.tk = t := by
 unfold flt at h
 split at h
 ·rename_i hm
  split at h
  ·cases h
  ·split at h
   ·cases h
   ·obtain ⟨h1,h2⟩ := hm.tv h8
    exact ⟨⟨h1,by omega⟩,by omega,h2⟩
 ·cases h
theorem scan_is {most : Nat} : ∀ (l : List Ti) (ts : List If.Tk),(∀ t ∈ l,t.lit < 256) -> If.Toks ts -> (If.tell ts).length <= most ->
  ((scan most l (If.tell ts)).1 = 0 /\ ∃ us,l = us.map Ti.of /\ If.Toks (ts ++ us) /\ (If.tell (ts ++ us)).length <= most /\ (scan most l (If.tell ts)).2 = If.tell (ts ++ us)) ∨
  ((scan most l (If.tell ts)).1 ≠ 0 /\ (scan most l (If.tell ts)).2 = [] /\ ∃ us t rest,l = us.map Ti.of ++ t :: rest /\ If.Toks (ts ++ us) /\ (If.tell (ts ++ us)).length <= most /\ t.lit < 256 /\ t.flt (If.tell (ts ++ us)).length most = (scan most l (If.tell ts)).1)
 | [],ts,_,h1,h2 => Or.inl ⟨rfl,[],rfl,by rwa [List.append_nil],by rwa [List.append_nil],by rw [List.append_nil]; rfl⟩
 | t :: l,ts,h8,h1,h2 => by
  simp only [scan]
  by_cases e : t.flt (If.tell ts).length most = 0
  ·rw [if_pos e]
   obtain ⟨v1,v2,v3⟩ := flt_ok (h8 t (List.mem_cons_self ..)) e
   rw [<- If.tell_snoc]
   rcases scan_is l (ts ++ [t.tk]) (fun x hx => h8 x (List.mem_cons_of_mem _ hx)) (h1.snoc v1) (by rw [If.tell_snoc,If.tell1_length]; exact v2) with ⟨a1,us,a2,a3,a4,a5⟩ | ⟨a1,a0,us,u,rest,a2,a3,a4,a5,a6⟩
   ·refine Or.inl ⟨a1,t.tk :: us,by rw [List.map_cons,v3,<- a2],?_,?_,?_⟩
    ·rw [List.append_assoc] at a3; exact a3
    ·rw [List.append_assoc] at a4; exact a4
    ·rw [List.append_assoc] at a5; exact a5
   ·refine Or.inr ⟨a1,a0,t.tk :: us,u,rest,by rw [List.map_cons,v3,List.cons_append,<- a2],?_,?_,a5,?_⟩
    ·rw [List.append_assoc] at a3; exact a3
    ·rw [List.append_assoc] at a4; exact a4
    ·rw [List.append_assoc] at a6; exact a6
  ·rw [if_neg e]
   exact Or.inr ⟨e,rfl,[],t,l,rfl,by rwa [List.append_nil],by rwa [List.append_nil],h8 t (List.mem_cons_self ..),by rw [List.append_nil]⟩
end Ti
def Tis (w : World) (s : Value) (l : List Ti) : Prop := ∃ a cap,s = .slice a l.length cap /\ (0 < l.length -> ∃ b off,a = some ⟨b,off,none⟩ /\ b < w.heap.size /\ ∀ i t,l[i]? = some t ->
 w.cell? ⟨b,off + i * 3,none⟩ = some (.int .i64 t.len) /\ w.cell? ⟨b,off + i * 3 + 1,none⟩ = some (.int .i64 t.far) /\ w.cell? ⟨b,off + i * 3 + 2,none⟩ = some (.int .u8 (t.lit : Int)))
theorem Tis.later {w w' : World} {s : Value} {ts : List Ti} (h : Tis w s ts) (hb : Below w.heap.size w w') : Tis w' s ts := by
 obtain ⟨a,cap,rfl,h⟩ := h
 refine ⟨a,cap,rfl,fun h0 => ?_⟩
 obtain ⟨b,off,rfl,hlt,hc⟩ := h h0
 refine ⟨b,off,rfl,Nat.lt_of_lt_of_le hlt hb.size,fun i t ht => ?_⟩
 obtain ⟨h1,h2,h3⟩ := hc i t ht
 exact ⟨(hb.cell (p := ⟨b,off + i * 3,none⟩) hlt).trans h1,(hb.cell (p := ⟨b,off + i * 3 + 1,none⟩) hlt).trans h2,(hb.cell (p := ⟨b,off + i * 3 + 2,none⟩) hlt).trans h3⟩
theorem Tis.at' {w : World} {a : Option Addr} {n cap : Nat} {ts : List Ti} (h : Tis w (.slice a n cap) ts) (i : Nat) (t : Ti) (ht : ts[i]? = some t) : n = ts.length /\ ∃ b off,a = some ⟨b,off,none⟩ /\ b < w.heap.size /\
  w.cell? ⟨b,off + i * 3,none⟩ = some (.int .i64 t.len) /\ w.cell? ⟨b,off + i * 3 + 1,none⟩ = some (.int .i64 t.far) /\ w.cell? ⟨b,off + i * 3 + 2,none⟩ = some (.int .u8 (t.lit : Int)) := by
 obtain ⟨a',cap',e,h⟩ := h
 injection e with e1 e2 e3
 subst e1 e2
 have hi := (List.getElem?_eq_some_iff.1 ht).1
 obtain ⟨b,off,rfl,hlt,hc⟩ := h (by omega)
 exact ⟨rfl,b,off,rfl,hlt,hc i t ht⟩
theorem Tis.tks {w : World} {s : Value} {ts : List If.Tk} (h : Tis w s (ts.map Ti.of)) : Tks w s ts := by
 obtain ⟨a,cap,rfl,h⟩ := h
 rw [List.length_map] at h ⊢
 refine ⟨a,cap,rfl,fun h0 => ?_⟩
 obtain ⟨b,off,rfl,hlt,hc⟩ := h h0
 exact ⟨b,off,rfl,hlt,fun i t ht => hc i (Ti.of t) (by rw [List.getElem?_map,ht]; rfl)⟩
theorem isByte_int (n d : Int) (x : Nat) (w : World) : Calls Tryz.prog 97 #[.agg #[.int .i64 n,.int .i64 d,.int .u8 (x : Int)]] w fun e w' => e = .returned (.bool (decide (n = 0 /\ d = 0))) /\ Below w.heap.size w w' := by
 by_cases h1 : n = 0
 ·subst h1
  by_cases h2 : d = 0
  ·subst h2
   go_enter Tryz.func97,Tryz.ntmps97
   go_wp2
   go_ret
   exact ⟨rfl,below1 _ _⟩
  ·have e : decide ((0 : Int) = 0 /\ d = 0) = false := by simp [h2]
   rw [e]
   have d1 : (d == 0) = false := by simp; omega
   clear h2 e
   go_enter Tryz.func97,Tryz.ntmps97
   go_wp2
   go_ret
   exact ⟨rfl,below1 _ _⟩
 ·have e : decide (n = 0 /\ d = 0) = false := by simp [h1]
  rw [e]
  have d1 : (n == 0) = false := by simp; omega
  clear h1 e
  go_enter Tryz.func97,Tryz.ntmps97
  go_wp2
  go_ret
  exact ⟨rfl,below1 _ _⟩
theorem isCopy_no (n d : Int) (x : Nat) (w : World) (h : ¬ (x = 0 /\ 3 <= n /\ n <= 258 /\ 1 <= d /\ d <= 32768)) : Calls Tryz.prog 142 #[.agg #[.int .i64 n,.int .i64 d,.int .u8 (x : Int)]] w fun e w' => e = .returned (.bool false) /\ Below w.heap.size w w' := by
 by_cases h0 : x = 0
 ·subst h0
  by_cases h1 : 3 <= n
  ·by_cases h2 : n <= 258
   ·by_cases h3 : 1 <= d
    ·have h4 : ¬ d <= 32768 := by omega
     have e : decide (d <= 32768) = false := by simp; omega
     clear h
     go_enter Tryz.func142,Tryz.ntmps142
     go_wp2
     go_ret
     exact ⟨by rw [<- e]; rfl,below1 _ _⟩
    ·clear h
     go_enter Tryz.func142,Tryz.ntmps142
     go_wp2
     go_ret
     exact ⟨rfl,below1 _ _⟩
   ·clear h
    go_enter Tryz.func142,Tryz.ntmps142
    go_wp2
    go_ret
    exact ⟨rfl,below1 _ _⟩
  ·clear h
   go_enter Tryz.func142,Tryz.ntmps142
   go_wp2
   go_ret
   exact ⟨rfl,below1 _ _⟩
 ·have e : ((x : Int) == 0) = false := by simp; omega
  clear h
  go_enter Tryz.func142,Tryz.ntmps142
  go_wp2
  go_ret
  exact ⟨rfl,below1 _ _⟩
theorem mcheck_no (t : Ti) (w : World) (ht : ¬ t.May) : Calls Tryz.prog 96 #[t.v] w fun e w' => e = .returned (.int .i64 2) /\ Below w.heap.size w w' := by
 obtain ⟨n,d,x⟩ := t
 unfold Ti.May at ht
 unfold Ti.v
 simp only at ht ⊢
 have hb : decide (n = 0 /\ d = 0) = false := by simp; omega
 have HI := LH (fun W => isByte_int n d x W)
 rw [hb] at HI
 have HC := LH (fun W => isCopy_no n d x W (fun h => ht (Or.inr h)))
 clear hb ht
 go_enter Tryz.func96,Tryz.ntmps96
 go_wp2_with fail
 refine (HI.out _).mono ?_
 rintro e w1 ⟨rfl,hb1⟩
 obtain ⟨hT,hb,_⟩ := facts1 hb1
 obtain ⟨c0,c1,c2⟩ := tk_cells hT
 have HB := LH hb
 clear hb1 hT hb
 go_wp2_with fail
 refine (HC.out _).mono ?_
 rintro e w2 ⟨rfl,hb2⟩
 go_wp2
 go_ret
 exact ⟨rfl,HB.out.trans (hb2.mono HB.out.size)⟩
theorem fits_arg (t : Ti) (n most : Int) (w : World) (ht : ¬ t.May) : Calls Tryz.prog 55 #[t.v,.int .i64 n,.int .i64 most] w fun e w' => e = .returned (.int .i64 2) /\ Below w.heap.size w w' := by
 have HC := LH (fun W => mcheck_no t W ht)
 obtain ⟨len,d,x⟩ := t
 unfold Ti.v at *
 simp only at HC ⊢
 clear ht
 go_enter Tryz.func55,Tryz.ntmps55
 go_wp2_with fail
 refine (HC.out _).mono ?_
 rintro e w1 ⟨rfl,hb1⟩
 obtain ⟨hT,hb,_⟩ := facts1 hb1
 have HB := LH hb
 clear hb1 hT hb
 go_wp2
 go_ret
 exact ⟨rfl,HB.out⟩
theorem fits_dist (t : If.Tk) (n : Nat) (most : Int) (w : World) (ht : Tv t) (h1 : n < t.far) : Calls Tryz.prog 55 #[tkv t,.int .i64 (n : Int),.int .i64 most] w fun e w' => e = .returned (.int .i64 14) /\ Below w.heap.size w w' := by
 have HC := LH (fun W => mcheck_ok t W ht)
 obtain ⟨len,d,x⟩ := t
 unfold tkv at *
 simp only at h1 HC ⊢
 have d1 : decide ((d : Int) > (n : Int)) = true := by simp; omega
 have d2 : decide ((n : Int) < (d : Int)) = true := by simp; omega
 have d3 : decide (n < d) = true := by simp; omega
 clear ht
 go_enter Tryz.func55,Tryz.ntmps55
 go_wp2_with fail
 refine (HC.out _).mono ?_
 rintro e w1 ⟨rfl,hb1⟩
 obtain ⟨hT,hb,_⟩ := facts1 hb1
 obtain ⟨c0,c1,c2⟩ := tk_cells hT
 have HB := LH hb
 clear hb1 hT hb
 go_wp2
 go_ret
 exact ⟨rfl,HB.out⟩
theorem fits_large (t : If.Tk) (n most : Nat) (w : World) (ht : Tv t) (h1 : t.far <= n) (h2 : most < n + If.sz t) (h3 : n <= 65536) : Calls Tryz.prog 55 #[tkv t,.int .i64 (n : Int),.int .i64 (most : Int)] w fun e w' => e = .returned (.int .i64 3) /\ Below w.heap.size w w' := by
 obtain ⟨z,hz⟩ : ∃ z,z = If.sz t := ⟨_,rfl⟩
 have hz9 : z <= 258 := by
  rw [hz]; unfold If.sz
  rcases ht with ⟨e1,_⟩ | ⟨_,_,e1,_⟩
  ·rw [if_pos e1]; omega
  ·split <;> omega
 have HC := LH (fun W => mcheck_ok t W ht)
 have HS := LH (fun W => msize_ok t W ht)
 rw [<- hz] at HS h2
 obtain ⟨len,d,x⟩ := t
 unfold tkv at *
 simp only at h1 HC HS ⊢
 have d1 : decide ((d : Int) > (n : Int)) = false := by simp; omega
 have d2 : decide ((n : Int) < (d : Int)) = false := by simp; omega
 have d3 : decide (n < d) = false := by simp; omega
 have e1 : decide ((most : Int) < ((n + z : Nat) : Int)) = true := by simp; omega
 have e2 : decide (most < n + z) = true := by simp; omega
 clear ht hz
 go_enter Tryz.func55,Tryz.ntmps55
 go_wp2_with fail
 refine (HC.out _).mono ?_
 rintro e w1 ⟨rfl,hb1⟩
 obtain ⟨hT,hb,_⟩ := facts1 hb1
 obtain ⟨c0,c1,c2⟩ := tk_cells hT
 have HB := LH hb
 clear hb1 hT hb
 go_wp2_with fail
 refine (HS.out _).mono ?_
 rintro e w2 ⟨rfl,hb2⟩
 have HB2 := LH (HB.out.trans (hb2.mono HB.out.size))
 clear hb2
 go_wp2
 go_ret
 exact ⟨rfl,HB2.out⟩
theorem fits_bad {t : Ti} {q most : Nat} (h8 : t.lit < 256) (h : t.flt q most ≠ 0) (hq : q <= 65536) (w : World) : Calls Tryz.prog 55 #[t.v,.int .i64 (q : Int),.int .i64 (most : Int)] w fun e w' => e = .returned (.int .i64 (t.flt q most)) /\ Below w.heap.size w w' := by
 unfold Ti.flt at h ⊢
 by_cases hm : t.May
 ·rw [if_pos hm] at h ⊢
  obtain ⟨h1,h2⟩ := hm.tv h8
  have hv : t.v = tkv t.tk := by rw [show t.v = (Ti.of t.tk).v by rw [h2]]; rfl
  rw [hv]
  by_cases hd : q < t.tk.far
  ·rw [if_pos hd]
   exact fits_dist t.tk q most w h1 hd
  ·rw [if_neg hd] at h ⊢
   by_cases hl : most < q + If.sz t.tk
   ·rw [if_pos hl]
    exact fits_large t.tk q most w h1 (by omega) hl hq
   ·rw [if_neg hl] at h
    exact absurd rfl h
 ·rw [if_neg hm]
  exact fits_arg t q most w hm
end
section
open Go.RowKit
theorem at_pre {us : List If.Tk} {t : Ti} {rest : List Ti} {i : Nat} {u : If.Tk} (h : us[i]? = some u) : (us.map Ti.of ++ t :: rest)[i]? = some (Ti.of u) := by
 have hi := (List.getElem?_eq_some_iff.1 h).1
 rw [List.getElem?_append_left (by simpa using hi),List.getElem?_map,h]
 rfl
theorem at_mid {us : List If.Tk} {t : Ti} {rest : List Ti} : (us.map Ti.of ++ t :: rest)[us.length]? = some t := by
 rw [List.getElem?_append_right (by simp)]
 simp
theorem expand_bad (a0 : Option Addr) (n cap0 : Nat) (ts : List If.Tk) (t0 : Ti) (rest : List Ti) (most : Nat) (w : World) (ho : Tis w (.slice a0 n cap0) (ts.map Ti.of ++ t0 :: rest)) (hts : If.Toks ts) (hm : (If.tell ts).length <= most) (h9 : most <= 65536) (h8 : t0.lit < 256) (ee : Int) (hee : t0.flt (If.tell ts).length most = ee) (he0 : ee ≠ 0) :
  Calls Tryz.prog 24 #[.slice a0 n cap0,.int .i64 (most : Int)] w fun e w' => e = .returned (.tuple #[.slice none 0 0,.int .i64 ee]) /\ Below w.heap.size w w' := by
 have HO := LH ho
 have HT := LH (fun _ : Unit => hts)
 have HM := LH hm
 have HFB := LH (fun _ : Unit => fun W => fits_bad h8 (hee.symm ▸ he0) (Nat.le_trans hm h9) W)
 have HEE := LH (fun _ : Unit => hee)
 have hn9 : ts.length <= 65536 := by have := If.toks_length_le ts; omega
 obtain ⟨m,hmm⟩ : ∃ m,m = ts.length := ⟨_,rfl⟩
 have hmn : m < n := by have h := (ho.at' ts.length t0 at_mid).1; simp at h; omega
 rw [<- hmm] at hn9
 have HN := LH hmm
 clear ho hts hm hmm h8 hee
 go_enter Tryz.func24,Tryz.ntmps24
 go_wp2_with fail
 go_loopw [6,18] (fun s6 s18 wr => ∃ (j q c6 : Nat) (a6 : Option Addr),s18 = .int .i64 (j : Int) /\ j <= m /\ s6 = .slice a6 q c6 /\ Hid (Unit -> q = (If.tell (ts.take j)).length) /\ Hid (wr.ownsRow w.heap.size 5 1 (.slice a6 q c6) q (vb (If.tell (ts.take j)))) /\ Hid (Below w.heap.size w wr)) (fun _ s _ => n - (intOf s).toNat)
 case atStart => exact ⟨0,0,0,none,rfl,Nat.zero_le _,rfl,fun _ => rfl,⟨rfl,Or.inl ⟨rfl,rfl⟩⟩,Below.refl _ _⟩
 case round =>
  obtain ⟨j,q,c6,a6,rfl,hj,rfl,KQ,KO,KB⟩ := hrel
  by_cases hlt : j < m
  ·have hjt : j < ts.length := by rw [<- HN.out]; exact hlt
   have hjn : j < n := by omega
   obtain ⟨hnn,b,off,rfl,hbl,k0,k1,k2⟩ := (HO.out.later KB.out).at' j (Ti.of ts[j]) (at_pre (List.getElem?_eq_getElem hjt))
   clear hnn hbl
   have hval := HT.out () j ts[j] (List.getElem?_eq_getElem hjt)
   have hsum := toks_sum (List.getElem?_eq_getElem hjt)
   have hle := HM.out
   obtain ⟨t,ht⟩ : ∃ t,t = ts[j] := ⟨_,rfl⟩
   rw [<- ht] at k0 k1 k2 hval hsum
   have HE : Hid (Unit -> If.tell (ts.take (j + 1)) = If.tell1 (If.tell (ts.take j)) t) := fun _ => by rw [If.tell_take_succ (List.getElem?_eq_getElem hjt),<- ht]
   obtain ⟨bs,hbs⟩ : ∃ bs,bs = If.tell (ts.take j) := ⟨_,rfl⟩
   have hq := KQ.out ()
   rw [<- hbs] at KO hval hsum HE hq
   have hq1 : q + If.sz t <= most := by omega
   have hq2 : t.far <= q := by rw [hq]; exact hval.2
   have hq3 : q <= 65536 := by omega
   have HF := LH (fun W => fits_ok t q most W hval.1 hq2 hq1 h9)
   have HTL := LH (fun v W ho hb => tell_any w.heap.size t v bs W hval ho hb (by omega))
   have HBS := LH (fun _ : Unit => hq)
   clear KQ
   obtain ⟨len,far,x⟩ := t
   unfold tkv at HF HTL
   unfold Ti.of at k0 k1 k2
   simp only at k0 k1 k2 HF HTL
   clear hval hsum hle ht hbs hq hq1 hq2 hjt
   go_wp2_with fail
   refine (HF.out _).mono ?_
   rintro e w1 ⟨rfl,hb1⟩
   obtain ⟨hT,hb,_⟩ := facts1 hb1
   obtain ⟨d0,d1,d2⟩ := tk_cells hT
   have KB1 := LH (KB.out.trans (hb.mono KB.out.size))
   have KO1 := LH (own_keep KO.out hb)
   clear hb1 hT hb KB KO
   go_wp2_with fail
   refine (HTL.out _ _ (by rw [<- HBS.out ()]; exact KO1.out) KB1.out.size).mono ?_
   rintro e w2 ⟨v2,rfl,hO2,hB2⟩
   obtain ⟨a2,cap2,rfl⟩ := own_shape hO2
   obtain ⟨q2,hq2⟩ : ∃ q2,q2 = (If.tell1 bs ⟨len,far,x⟩).length := ⟨_,rfl⟩
   rw [<- hq2] at hO2
   rw [<- hq2]
   have KQ2 : Hid (Unit -> q2 = (If.tell (ts.take (j + 1))).length) := fun _ => by rw [HE.out (),hq2]
   have KO2 : Hid (w2.ownsRow w.heap.size 5 1 (.slice a2 q2 cap2) q2 (vb (If.tell (ts.take (j + 1))))) := by show World.ownsRow _ _ _ _ _ _ _; rw [HE.out ()]; exact hO2
   have KB2 := LH (KB1.out.trans hB2)
   clear hO2 hB2 hq2 HE HF HTL HBS KO1 KB1
   go_wp2_with fail
   go_roundw
   case rel => exact ⟨j + 1,q2,cap2,a2,by go_num,by omega,rfl,KQ2,KO2,KB2⟩
   case measure => simp [intOf]; omega
  ·obtain rfl : j = m := by omega
   have e : ts.take j = ts := List.take_of_length_le (by rw [<- HN.out]; exact Nat.le_refl _)
   rw [e] at KO KQ
   have hq := KQ.out ()
   have hmid := (at_mid (us := ts) (t := t0) (rest := rest))
   rw [<- HN.out] at hmid
   obtain ⟨hnn,b,off,rfl,hbl,k0,k1,k2⟩ := (HO.out.later KB.out).at' j t0 hmid
   have HF := LH (HFB.out ())
   rw [HEE.out (),<- hq] at HF
   have hq3 : q <= 65536 := by rw [hq]; exact Nat.le_trans HM.out h9
   obtain ⟨len,far,x⟩ := t0
   unfold Ti.v at HF
   simp only at k0 k1 k2 HF
   clear e hmid hnn hbl hq HFB HEE KQ HT HM HO HN
   go_wp2_with fail
   refine (HF.out _).mono ?_
   rintro e w1 ⟨rfl,hb1⟩
   obtain ⟨hT,hb,_⟩ := facts1 hb1
   have KB1 := LH (KB.out.trans (hb.mono KB.out.size))
   have d1 : (ee == 0) = false := by simp; exact he0
   have d2 : (ee != 0) = true := by simp; exact he0
   clear hb1 hT hb KB KO HF
   go_wp2_with fail
   refine bodyPost_ret (v := .tuple #[.slice none 0 0,.int .i64 ee]) (by simp [results,Tryz.results24,go_sem]) rfl ?_
   exact ⟨rfl,KB1.out⟩
theorem fixed_bad (a : Option Addr) (n c : Nat) (w : World) (ee : Int) (he0 : ee ≠ 0) (hs : ∀ W,Below w.heap.size w W -> Calls Tryz.prog 24 #[.slice a n c,.int .i64 65536] W fun e w' => e = .returned (.tuple #[.slice none 0 0,.int .i64 ee]) /\ Below W.heap.size W w') :
  Calls Tryz.prog 15 #[.slice a n c] w fun e w' => e = .returned (.tuple #[.slice none 0 0,.int .i64 ee]) /\ Below w.heap.size w w' := by
 have hb1 := below1 w (.cells #[.slice a n c] 30)
 obtain ⟨c0,_⟩ := (Has.new w (.cells #[.slice a n c] 30)).one
 have HE := LH (hs _ hb1)
 have HB := LH hb1
 have d1 : (ee == 0) = false := by simp; exact he0
 have d2 : (ee != 0) = true := by simp; exact he0
 clear hs hb1
 go_enter Tryz.func15,Tryz.ntmps15
 go_wp2_with fail
 refine HE.out.mono ?_
 clear HE
 rintro e w1 ⟨rfl,hb⟩
 have HB1 := LH (HB.out.trans (hb.mono HB.out.size))
 clear hb
 go_wp2_with fail
 refine bodyPost_ret (v := .tuple #[.slice none 0 0,.int .i64 ee]) (by simp [results,Tryz.results15,go_sem]) rfl ?_
 exact ⟨rfl,HB1.out⟩
theorem dynamic_bad (a : Option Addr) (n c : Nat) (w : World) (ee : Int) (he0 : ee ≠ 0) (hs : ∀ W,Below w.heap.size w W -> Calls Tryz.prog 24 #[.slice a n c,.int .i64 65536] W fun e w' => e = .returned (.tuple #[.slice none 0 0,.int .i64 ee]) /\ Below W.heap.size W w') :
  Calls Tryz.prog 18 #[.slice a n c] w fun e w' => e = .returned (.tuple #[.slice none 0 0,.int .i64 ee]) /\ Below w.heap.size w w' := by
 have hb1 := below1 w (.cells #[.slice a n c] 30)
 obtain ⟨c0,_⟩ := (Has.new w (.cells #[.slice a n c] 30)).one
 have HE := LH (hs _ hb1)
 have HB := LH hb1
 have d1 : (ee == 0) = false := by simp; exact he0
 have d2 : (ee != 0) = true := by simp; exact he0
 clear hs hb1
 go_enter Tryz.func18,Tryz.ntmps18
 go_wp2_with fail
 refine HE.out.mono ?_
 clear HE
 rintro e w1 ⟨rfl,hb⟩
 have HB1 := LH (HB.out.trans (hb.mono HB.out.size))
 clear hb
 go_wp2_with fail
 refine bodyPost_ret (v := .tuple #[.slice none 0 0,.int .i64 ee]) (by simp [results,Tryz.results18,go_sem]) rfl ?_
 exact ⟨rfl,HB1.out⟩
end
section
open Go.RowKit
theorem rcheck_yes (t : If.Tk) (w : World) (ht : Tv t) : Calls Tryz.prog 44 #[tkv t] w fun e w' => e = .returned (.int .i64 0) /\ Below w.heap.size w w' := by
 obtain ⟨n,d,x⟩ := t
 unfold tkv
 rcases ht with ⟨h1,h2,_⟩ | ⟨h0,h1,h2,h3,h4⟩
 ·simp only at h1 h2
  subst h1 h2
  go_enter Tryz.func44,Tryz.ntmps44
  go_wp2
  go_ret
  exact ⟨rfl,below1 _ _⟩
 ·simp only at h0 h1 h2 h3 h4
  subst h0
  have e0 : ((n : Int) == 0) = false := by simp; omega
  have e1 : (3 : Int) <= (n : Int) := by omega
  have e2 : (n : Int) <= 258 := by omega
  have e3 : (1 : Int) <= (d : Int) := by omega
  have e4 : (d : Int) <= 32768 := by omega
  clear h1 h2 h3 h4
  go_enter Tryz.func44,Tryz.ntmps44
  go_wp2
  go_ret
  exact ⟨rfl,below1 _ _⟩
theorem rcheck_no (t : Ti) (w : World) (ht : ¬ t.May) : Calls Tryz.prog 44 #[t.v] w fun e w' => e = .returned (.int .i64 2) /\ Below w.heap.size w w' := by
 obtain ⟨n,d,x⟩ := t
 unfold Ti.May at ht
 unfold Ti.v
 simp only at ht ⊢
 by_cases hn : n = 0
 ·subst hn
  have e1 : (d == 0) = false := by simp; omega
  by_cases hx : x = 0
  ·subst hx
   clear ht
   go_enter Tryz.func44,Tryz.ntmps44
   go_wp2
   go_ret
   exact ⟨rfl,below1 _ _⟩
  ·have e2 : ((x : Int) == 0) = false := by simp; omega
   clear ht hx
   go_enter Tryz.func44,Tryz.ntmps44
   go_wp2
   go_ret
   exact ⟨rfl,below1 _ _⟩
 ·have e0 : (n == 0) = false := by simp; omega
  by_cases hx : x = 0
  ·subst hx
   by_cases h1 : 3 <= n
   ·by_cases h2 : n <= 258
    ·by_cases h3 : 1 <= d
     ·have h4 : ¬ d <= 32768 := by omega
      clear ht hn
      go_enter Tryz.func44,Tryz.ntmps44
      go_wp2
      go_ret
      exact ⟨rfl,below1 _ _⟩
     ·clear ht hn
      go_enter Tryz.func44,Tryz.ntmps44
      go_wp2
      go_ret
      exact ⟨rfl,below1 _ _⟩
    ·clear ht hn
     go_enter Tryz.func44,Tryz.ntmps44
     go_wp2
     go_ret
     exact ⟨rfl,below1 _ _⟩
   ·clear ht hn
    go_enter Tryz.func44,Tryz.ntmps44
    go_wp2
    go_ret
    exact ⟨rfl,below1 _ _⟩
  ·have e2 : ((x : Int) == 0) = false := by simp; omega
   clear ht hx hn
   go_enter Tryz.func44,Tryz.ntmps44
   go_wp2
   go_ret
   exact ⟨rfl,below1 _ _⟩
end
end Go.Proofs.YtmgpcbjciioiaaaGreatDoor
