import Derived.Test.YtmgpcbjciioiaaaGreatDoorKneed
import Derived.Test.YtmgpcbjciioiaaaGreatDoorCarg
import Derived.Test.YtmgpcbjciioiaaaGreatDoorHrcodes
import Derived.Test.YtmgpcbjciioiaaaGreatDoorSone
import Derived.BigRegion
import Derived.WideKeyPair
import Derived.Maps.Keyed
import Derived.Deep.RegionHeld3
namespace Go.Proofs.YtmgpcbjciioiaaaGreatDoor
set_option maxRecDepth 100000
set_option maxHeartbeats 8000000
section
namespace Hd
theorem head_e1 {l : List Bool} {p : Nat} (h : l.length < p + 10) : head l p = ([],[],0,4) := by unfold head; rw [if_pos h]
theorem head_e3 {l : List Bool} {p a b : Nat} (h : p + 10 <= l.length) (ha : a = num l p 5 + 257) (hb : b = num l (p + 5) 5 + 1) (h3 : 286 < a ∨ 30 < b) : head l p = ([],[],0,3) := by
 subst ha hb; unfold head; rw [if_neg (by omega),if_pos h3]
theorem head_e4 {l : List Bool} {p a b : Nat} (h : p + 10 <= l.length) (ha : a = num l p 5 + 257) (hb : b = num l (p + 5) 5 + 1) (h3 : ¬ (286 < a ∨ 30 < b)) (h4 : l.length < p + 14) : head l p = ([],[],0,4) := by
 subst ha hb; unfold head; rw [if_neg (by omega),if_neg h3,if_pos h4]
theorem head_e5 {l : List Bool} {p a b c : Nat} (h : p + 14 <= l.length) (ha : a = num l p 5 + 257) (hb : b = num l (p + 5) 5 + 1) (hc : c = num l (p + 10) 4 + 4) (h3 : ¬ (286 < a ∨ 30 < b)) (h5 : l.length < p + 14 + 3 * c) : head l p = ([],[],0,4) := by
 subst ha hb hc; unfold head; rw [if_neg (by omega),if_neg h3,if_neg (by omega),if_pos h5]
theorem head_e6 {l : List Bool} {p a b c : Nat} {ls : List Nat} (h : p + 14 <= l.length) (ha : a = num l p 5 + 257) (hb : b = num l (p + 5) 5 + 1) (hc : c = num l (p + 10) 4 + 4) (hls : ls = cl l (p + 14) c) (h3 : ¬ (286 < a ∨ 30 < b)) (h5 : p + 14 + 3 * c <= l.length)
  (h6 : newE (zz ls) ≠ 0) : head l p = ([],[],0,newE (zz ls)) := by
 subst ha hb hc hls; unfold head; rw [if_neg (by omega),if_neg h3,if_neg (by omega),if_neg (by omega),if_pos h6]
theorem head_run {l : List Bool} {p a b c : Nat} {ls : List Nat} (h : p + 14 <= l.length) (ha : a = num l p 5 + 257) (hb : b = num l (p + 5) 5 + 1) (hc : c = num l (p + 10) 4 + 4) (hls : ls = cl l (p + 14) c) (h3 : ¬ (286 < a ∨ 30 < b)) (h5 : p + 14 + 3 * c <= l.length)
  (h6 : newE (zz ls) = 0) : head l p = if (runs ls l (a + b) 400 [] (p + 14 + 3 * c)).2.2 ≠ 0 then ([],[],0,(runs ls l (a + b) 400 [] (p + 14 + 3 * c)).2.2) else
   ((runs ls l (a + b) 400 [] (p + 14 + 3 * c)).1.take a,(runs ls l (a + b) 400 [] (p + 14 + 3 * c)).1.drop a,(runs ls l (a + b) 400 [] (p + 14 + 3 * c)).2.1,0) := by
 subst ha hb hc hls; unfold head; rw [if_neg (by omega),if_neg h3,if_neg (by omega),if_neg (by omega),if_neg (by rw [h6]; simp)]
theorem rd_ex (ls : List Nat) (l : List Bool) (p : Nat) : ∀ d j,15 - j = d -> j <= 15 -> p + j <= l.length -> ∃ r,Hf.Rd ls l p j r := by
 intro d
 induction d with
 | zero =>
  intro j h1 h2 h3
  obtain rfl : j = 15 := by omega
  exact ⟨_,Hf.Rd.last⟩
 | succ d ih =>
  intro j h1 h2 h3
  by_cases hl : p + j = l.length
  ·exact ⟨_,Hf.Rd.short j (by omega) hl⟩
  ·by_cases hh : ∃ k,Hf.Hit ls l p (j + 1) k
   ·obtain ⟨k,hk⟩ := hh
    exact ⟨_,Hf.Rd.hit j k (by omega) (by omega) hk⟩
   ·by_cases hb : ∃ k,Hf.Beg ls l p (j + 1) k
    ·obtain ⟨k,hk⟩ := hb
     obtain ⟨r,hr⟩ := ih (j + 1) (by omega) (by omega) (by omega)
     exact ⟨r,Hf.Rd.next j k r (by omega) (by omega) (fun k h => hh ⟨k,h⟩) hk hr⟩
    ·exact ⟨_,Hf.Rd.miss j (by omega) (by omega) (fun k h => hh ⟨k,h⟩) (fun k h => hb ⟨k,h⟩)⟩
theorem rd_lt {ls : List Nat} {l : List Bool} {p y q : Nat} {c : Int} (hp : p <= l.length) (h : rd ls l p = (y,q,c)) : (c = 0 -> y < ls.length /\ p < q /\ q <= l.length) /\ (c = 0 ∨ c = 4 ∨ c = 13) := by
 obtain ⟨r,hr⟩ := rd_ex ls l p 15 0 rfl (by omega) (by omega)
 have h1 := rd_is hr
 rw [h] at h1
 have h2 := rd_facts hr
 rw [<- h1] at h2
 exact ⟨fun h0 => by have := h2.1 h0; simpa using this,h2.2.2⟩
def fin (a : Nat) (r : List Nat × Nat × Int) : List Nat × List Nat × Nat × Int := if r.2.2 ≠ 0 then ([],[],0,r.2.2) else (r.1.take a,r.1.drop a,r.2.1,0)
theorem fin_bad (a : Nat) (x : List Nat) (q : Nat) (c : Int) (h : c ≠ 0) : fin a (x,q,c) = ([],[],0,c) := by unfold fin; rw [if_pos h]
theorem fin_ok (a : Nat) (x : List Nat) (q : Nat) : fin a (x,q,0) = (x.take a,x.drop a,q,0) := by unfold fin; rw [if_neg (by simp)]
end Hd
end
section
namespace If
open Hd (num rd head)
def cp (far : Nat) : Nat -> List Nat -> List Nat
 | 0,out => out
 | n + 1,out => cp far n (out ++ [out[out.length - far]?.getD 0])
theorem cp_length (far n : Nat) (out : List Nat) : (cp far n out).length = out.length + n := by
 induction n generalizing out with
 | zero => rfl
 | succ n ih => simp only [cp]; rw [ih,List.length_append]; simp; omega
noncomputable def copy (l : List Bool) (dist : List Nat) (most s p : Nat) (out : List Nat) : List Nat × Nat × Int :=
 if 286 <= s then ([],0,13) else
 if l.length < p + Sy.at' Sy.lb (s - 257) then ([],0,4) else
 if ∀ x ∈ dist,x = 0 then ([],0,13) else
 if (rd dist l (p + Sy.at' Sy.lb (s - 257))).2.2 ≠ 0 then ([],0,(rd dist l (p + Sy.at' Sy.lb (s - 257))).2.2) else
 if 30 <= (rd dist l (p + Sy.at' Sy.lb (s - 257))).1 then ([],0,13) else
 if l.length < (rd dist l (p + Sy.at' Sy.lb (s - 257))).2.1 + Sy.at' Sy.db (rd dist l (p + Sy.at' Sy.lb (s - 257))).1 then ([],0,4) else
 if out.length < Sy.at' Sy.df (rd dist l (p + Sy.at' Sy.lb (s - 257))).1 + num l (rd dist l (p + Sy.at' Sy.lb (s - 257))).2.1 (Sy.at' Sy.db (rd dist l (p + Sy.at' Sy.lb (s - 257))).1) then ([],0,14) else
 if most < out.length + (Sy.at' Sy.lf (s - 257) + num l p (Sy.at' Sy.lb (s - 257))) then ([],0,3) else
 (cp (Sy.at' Sy.df (rd dist l (p + Sy.at' Sy.lb (s - 257))).1 + num l (rd dist l (p + Sy.at' Sy.lb (s - 257))).2.1 (Sy.at' Sy.db (rd dist l (p + Sy.at' Sy.lb (s - 257))).1)) (Sy.at' Sy.lf (s - 257) + num l p (Sy.at' Sy.lb (s - 257))) out,
  (rd dist l (p + Sy.at' Sy.lb (s - 257))).2.1 + Sy.at' Sy.db (rd dist l (p + Sy.at' Sy.lb (s - 257))).1,0)
noncomputable def syms (l : List Bool) (lit dist : List Nat) (most : Nat) : Nat -> List Nat -> Nat -> List Nat × Nat × Int
 | 0,out,p => (out,p,0)
 | k + 1,out,p =>
  if (rd lit l p).2.2 ≠ 0 then ([],0,(rd lit l p).2.2) else
  if (rd lit l p).1 = 256 then (out,(rd lit l p).2.1,0) else
  if 256 < (rd lit l p).1 then
   (if (copy l dist most (rd lit l p).1 (rd lit l p).2.1 out).2.2 ≠ 0 then ([],0,(copy l dist most (rd lit l p).1 (rd lit l p).2.1 out).2.2) else
    syms l lit dist most k (copy l dist most (rd lit l p).1 (rd lit l p).2.1 out).1 (copy l dist most (rd lit l p).1 (rd lit l p).2.1 out).2.1) else
  if most <= out.length then ([],0,3) else
  syms l lit dist most k (out ++ [(rd lit l p).1]) (rd lit l p).2.1
def up (p : Nat) : Nat := (p + 7) / 8 * 8
def stored (l : List Bool) (most p : Nat) (out : List Nat) : List Nat × Nat × Int :=
 if l.length < up p + 32 then ([],0,4) else
 if num l (up p) 16 + num l (up p + 16) 16 ≠ 65535 ∨ num l (up p) 16 &&& num l (up p + 16) 16 ≠ 0 then ([],0,5) else
 if most < out.length + num l (up p) 16 then ([],0,3) else
 if l.length < up p + 32 + 8 * num l (up p) 16 then ([],0,4) else
 (out ++ (List.range (num l (up p) 16)).map fun i => Bs.byteAt l ((up p + 32) / 8 + i),up p + 32 + 8 * num l (up p) 16,0)
def fixL : List Nat := List.replicate 144 8 ++ List.replicate 112 9 ++ List.replicate 24 7 ++ List.replicate 8 8
def fixD : List Nat := List.replicate 32 5
noncomputable def dynamic (l : List Bool) (most p : Nat) (out : List Nat) : List Nat × Nat × Int :=
 if (head l p).2.2.2 ≠ 0 then ([],0,(head l p).2.2.2) else
 if (head l p).1[256]?.getD 0 = 0 then ([],0,13) else
 if newE (Hd.zz (head l p).1) ≠ 0 then ([],0,newE (Hd.zz (head l p).1)) else
 if newE (Hd.zz (head l p).2.1) ≠ 0 /\ ¬ (∀ x ∈ (head l p).2.1,x = 0) then ([],0,newE (Hd.zz (head l p).2.1)) else
 syms l (head l p).1 (head l p).2.1 most (l.length + 1) out (head l p).2.2.1
noncomputable def block (l : List Bool) (most p : Nat) (out : List Nat) : List Nat × Nat × Int :=
 if l.length < p + 3 then ([],0,4) else
 if num l (p + 1) 2 = 0 then stored l most (p + 3) out else
 if num l (p + 1) 2 = 1 then syms l fixL fixD most (l.length + 1) out (p + 3) else
 if num l (p + 1) 2 = 2 then dynamic l most (p + 3) out else ([],0,13)
noncomputable def blocks (l : List Bool) (most : Nat) : Nat -> List Nat -> Nat -> List Nat × Nat × Int
 | 0,out,p => (out,p,0)
 | k + 1,out,p =>
  if (block l most p out).2.2 ≠ 0 then ([],0,(block l most p out).2.2) else
  if num l p 1 = 1 then ((block l most p out).1,(block l most p out).2.1,0) else blocks l most k (block l most p out).1 (block l most p out).2.1
noncomputable def decode (l : List Bool) (most : Int) : List Nat × Nat × Int :=
 if most < 0 ∨ 65536 < most then ([],0,2) else
 if (blocks l most.toNat (l.length + 1) [] 0).2.2 ≠ 0 then ([],0,(blocks l most.toNat (l.length + 1) [] 0).2.2) else
 ((blocks l most.toNat (l.length + 1) [] 0).1,((blocks l most.toNat (l.length + 1) [] 0).2.1 + 7) / 8,0)
end If
end
section
namespace If
structure Tk where
 len : Nat
 far : Nat
 lit : Nat
def tell1 (out : List Nat) (t : Tk) : List Nat := if t.len = 0 then out ++ [t.lit] else cp t.far t.len out
def tell (ts : List Tk) : List Nat := ts.foldl tell1 []
def Byt (t : Tk) : Prop := t.len = 0 /\ t.far = 0 /\ t.lit < 256
def Cop (t : Tk) : Prop := t.lit = 0 /\ 3 <= t.len /\ t.len <= 258 /\ 1 <= t.far /\ t.far <= 32768
def Val (t : Tk) (n : Nat) : Prop := (Byt t ∨ Cop t) /\ t.far <= n
def sz (t : Tk) : Nat := if t.len = 0 then 1 else t.len
theorem sz_pos (t : Tk) : 1 <= sz t := by unfold sz; split <;> omega
theorem tell1_length (out : List Nat) (t : Tk) : (tell1 out t).length = out.length + sz t := by
 unfold tell1 sz
 split
 ·simp
 ·rw [cp_length]
theorem tell_snoc (ts : List Tk) (t : Tk) : tell (ts ++ [t]) = tell1 (tell ts) t := by simp [tell,List.foldl_append]
def Toks (ts : List Tk) : Prop := ∀ i t,ts[i]? = some t -> Val t (tell (ts.take i)).length
theorem Toks.nil : Toks [] := fun i t h => by simp at h
theorem Toks.snoc {ts : List Tk} {t : Tk} (h : Toks ts) (ht : Val t (tell ts).length) : Toks (ts ++ [t]) := by
 intro i u hu
 rcases Nat.lt_trichotomy i ts.length with hi | hi | hi
 ·rw [List.getElem?_append_left hi] at hu
  rw [List.take_append_of_le_length (by omega)]
  exact h i u hu
 ·subst hi
  rw [List.getElem?_append_right (Nat.le_refl _)] at hu
  simp at hu
  subst hu
  simpa using ht
 ·rw [List.getElem?_eq_none (by simp; omega)] at hu
  cases hu
theorem tell_take_succ {ts : List Tk} {i : Nat} {t : Tk} (h : ts[i]? = some t) : tell (ts.take (i + 1)) = tell1 (tell (ts.take i)) t := by
 rw [List.take_add_one,h]
 exact tell_snoc _ _
theorem tell_take_le (ts : List Tk) : ∀ d i,i + d = ts.length -> (tell (ts.take i)).length <= (tell ts).length := by
 intro d
 induction d with
 | zero => intro i hi; rw [List.take_of_length_le (by omega)]; exact Nat.le_refl _
 | succ d ih =>
  intro i hi
  have h := ih (i + 1) (by omega)
  rw [tell_take_succ (List.getElem?_eq_getElem (show i < ts.length by omega)),tell1_length] at h
  omega
theorem tell_length_ge (ts : List Tk) : ∀ i,i <= ts.length -> i <= (tell (ts.take i)).length := by
 intro i
 induction i with
 | zero => intro _; omega
 | succ i ih =>
  intro hi
  have h := ih (by omega)
  rw [tell_take_succ (List.getElem?_eq_getElem (show i < ts.length by omega)),tell1_length]
  have := sz_pos ts[i]
  omega
theorem toks_length_le (ts : List Tk) : ts.length <= (tell ts).length := by
 have := tell_length_ge ts ts.length (Nat.le_refl _)
 rwa [List.take_length] at this
theorem cp_lt {far : Nat} : ∀ (n : Nat) (out : List Nat),(∀ x ∈ out,x < 256) -> ∀ x ∈ cp far n out,x < 256
 | 0,out,h => h
 | n + 1,out,h => by
  simp only [cp]
  apply cp_lt n
  intro x hx
  rw [List.mem_append] at hx
  rcases hx with hx | hx
  ·exact h x hx
  ·simp only [List.mem_singleton] at hx
   subst hx
   cases hg : out[out.length - far]? with
   | none => simp
   | some y => simp only [Option.getD_some]; exact h y (List.mem_of_getElem? hg)
theorem tell_lt : ∀ (ts : List Tk),Toks ts -> ∀ i,i <= ts.length -> ∀ x ∈ tell (ts.take i),x < 256 := by
 intro ts hts i
 induction i with
 | zero => intro _ x hx; simp [tell] at hx
 | succ i ih =>
  intro hi
  have hg := List.getElem?_eq_getElem (show i < ts.length by omega)
  rw [tell_take_succ hg]
  have hv := hts i _ hg
  have ih := ih (by omega)
  unfold tell1
  split
  ·rename_i h0
   intro x hx
   rw [List.mem_append] at hx
   rcases hx with hx | hx
   ·exact ih x hx
   ·simp only [List.mem_singleton] at hx
    subst hx
    rcases hv.1 with hb | hc
    ·exact hb.2.2
    ·have := hc.2.1; omega
  ·exact cp_lt _ _ ih
theorem tell_bytes {ts : List Tk} (h : Toks ts) : ∀ x ∈ tell ts,x < 256 := by
 have := tell_lt ts h ts.length (Nat.le_refl _)
 rwa [List.take_length] at this
theorem cp_snoc (far : Nat) : ∀ (n : Nat) (out : List Nat),cp far (n + 1) out = cp far n out ++ [(cp far n out)[(cp far n out).length - far]?.getD 0]
 | 0,out => rfl
 | n + 1,out => by
  have := cp_snoc far n (out ++ [out[out.length - far]?.getD 0])
  simp only [cp] at this ⊢
  exact this
end If
end
section
namespace Mt
def by' (bs : List Nat) (i : Nat) : Nat := bs[i]?.getD 0
def E3 (bs : List Nat) (p q : Nat) : Prop := by' bs p = by' bs q /\ by' bs (p + 1) = by' bs (q + 1) /\ by' bs (p + 2) = by' bs (q + 2)
instance (bs : List Nat) (p q : Nat) : Decidable (E3 bs p q) := by unfold E3; infer_instance
theorem E3.trans {bs : List Nat} {p q r : Nat} (h : E3 bs p q) (h2 : E3 bs q r) : E3 bs p r := ⟨h.1.trans h2.1,h.2.1.trans h2.2.1,h.2.2.trans h2.2.2⟩
theorem E3.symm {bs : List Nat} {p q : Nat} (h : E3 bs p q) : E3 bs q p := ⟨h.1.symm,h.2.1.symm,h.2.2.symm⟩
def lst (bs : List Nat) (x : Nat) : Nat -> Option Nat
 | 0 => none
 | m + 1 => if E3 bs m x then some m else lst bs x m
theorem lst_some {bs : List Nat} {x : Nat} : ∀ {m p : Nat},lst bs x m = some p -> p < m /\ E3 bs p x
 | 0,p,h => by simp [lst] at h
 | m + 1,p,h => by
  simp only [lst] at h
  by_cases e : E3 bs m x
  ·rw [if_pos e] at h
   obtain rfl := Option.some.inj h
   exact ⟨by omega,e⟩
  ·rw [if_neg e] at h
   have := lst_some h
   exact ⟨by omega,this.2⟩
def alk (bs : List Nat) (p at' : Nat) : Nat -> Nat -> Nat
 | 0,_ => 0
 | W + 1,i => if by' bs (p + i) = by' bs (at' + i) then alk bs p at' W (i + 1) + 1 else 0
theorem alk_le (bs : List Nat) (p at' : Nat) : ∀ W i,alk bs p at' W i <= W
 | 0,i => Nat.le_refl _
 | W + 1,i => by simp only [alk]; split <;> (try have := alk_le bs p at' W (i + 1)) <;> omega
theorem alk_is (bs : List Nat) (p at' : Nat) : ∀ W i j,j < alk bs p at' W i -> by' bs (p + (i + j)) = by' bs (at' + (i + j))
 | 0,i,j,h => by simp [alk] at h
 | W + 1,i,j,h => by
  simp only [alk] at h
  split at h
  ·rename_i e
   cases j with
   | zero => exact e
   | succ j =>
    have := alk_is bs p at' W (i + 1) j (by omega)
    rw [show i + 1 + j = i + (j + 1) by omega] at this
    exact this
  ·omega
theorem alk_ge (bs : List Nat) (p at' : Nat) : ∀ W i n,n <= W -> (∀ j,j < n -> by' bs (p + (i + j)) = by' bs (at' + (i + j))) -> n <= alk bs p at' W i
 | W,i,0,_,_ => Nat.zero_le _
 | 0,i,n + 1,h,_ => by omega
 | W + 1,i,n + 1,h,h2 => by
  simp only [alk]
  have h0 := h2 0 (by omega)
  rw [Nat.add_zero] at h0
  rw [if_pos h0]
  have := alk_ge bs p at' W (i + 1) n (by omega) fun j hj => by
   have := h2 (j + 1) (by omega)
   rwa [show i + (j + 1) = i + 1 + j by omega] at this
  omega
def wid (bs : List Nat) (at' : Nat) : Nat := min (at' + 258) bs.length - at'
def lg (bs : List Nat) (at' : Nat) : Nat -> Option Nat -> Nat × Nat -> Nat × Nat
 | 0,_,r => r
 | _ + 1,none,r => r
 | d + 1,some p,r =>
  if 32768 < at' - p then r else
  if alk bs p at' (wid bs at') 0 = wid bs at' then (wid bs at',at' - p) else
  lg bs at' d (lst bs p p) (if r.1 < alk bs p at' (wid bs at') 0 then (alk bs p at' (wid bs at') 0,at' - p) else r)
def Cpy (bs : List Nat) (at' : Nat) (r : Nat × Nat) : Prop := r = (0,0) ∨ (3 <= r.1 /\ r.1 <= wid bs at' /\ 1 <= r.2 /\ r.2 <= 32768 /\ r.2 <= at' /\ ∀ j,j < r.1 -> by' bs (at' - r.2 + j) = by' bs (at' + j))
theorem cpy_at {bs : List Nat} {at' p : Nat} (hw : 3 <= wid bs at') (hp : p < at') (he : E3 bs p at') (hd : at' - p <= 32768) : Cpy bs at' (alk bs p at' (wid bs at') 0,at' - p) := by
 right
 have h3 : 3 <= alk bs p at' (wid bs at') 0 := alk_ge bs p at' _ 0 3 hw fun j hj => by
  rw [Nat.zero_add]
  match j,hj with
  | 0,_ => exact he.1
  | 1,_ => exact he.2.1
  | 2,_ => exact he.2.2
 refine ⟨h3,alk_le _ _ _ _ _,by simp only; omega,hd,by simp only; omega,fun j hj => ?_⟩
 have := alk_is bs p at' _ 0 j hj
 rw [Nat.zero_add] at this
 simp only
 rw [show at' - (at' - p) = p by omega]
 exact this
theorem lg_cpy {bs : List Nat} {at' : Nat} (hw : 3 <= wid bs at') : ∀ (d : Nat) (o : Option Nat) (r : Nat × Nat),(∀ p,o = some p -> p < at' /\ E3 bs p at') -> Cpy bs at' r -> Cpy bs at' (lg bs at' d o r)
 | 0,_,r,_,h => h
 | _ + 1,none,r,_,h => h
 | d + 1,some p,r,ho,h => by
  obtain ⟨h1,h2⟩ := ho p rfl
  simp only [lg]
  by_cases e1 : 32768 < at' - p
  ·rw [if_pos e1]; exact h
  ·rw [if_neg e1]
   have hc := cpy_at hw h1 h2 (by omega)
   by_cases e2 : alk bs p at' (wid bs at') 0 = wid bs at'
   ·rw [if_pos e2]
    rw [e2] at hc
    exact hc
   ·rw [if_neg e2]
    refine lg_cpy hw d _ _ (fun q hq => ?_) ?_
    ·have := lst_some hq
     exact ⟨by omega,this.2.trans h2⟩
    ·split
     ·exact hc
     ·exact h
def tok (bs : List Nat) (depth at' m : Nat) : If.Tk :=
 if wid bs at' < 3 then ⟨0,0,by' bs at'⟩ else
 if (lg bs at' depth (lst bs at' m) (0,0)).1 = 0 then ⟨0,0,by' bs at'⟩ else ⟨(lg bs at' depth (lst bs at' m) (0,0)).1,(lg bs at' depth (lst bs at' m) (0,0)).2,0⟩
def laid (bs : List Nat) (at' : Nat) : Nat := min at' (bs.length - 2)
theorem take_snoc (bs : List Nat) (n : Nat) (h : n < bs.length) : bs.take n ++ [by' bs n] = bs.take (n + 1) := by
 rw [List.take_add_one]
 unfold by'
 rw [List.getElem?_eq_getElem h]
 rfl
theorem cp_take (bs : List Nat) (far : Nat) (h1 : 1 <= far) : ∀ (n at' : Nat),far <= at' -> at' + n <= bs.length -> (∀ j,j < n -> by' bs (at' - far + j) = by' bs (at' + j)) -> If.cp far n (bs.take at') = bs.take (at' + n)
 | 0,at',_,_,_ => rfl
 | n + 1,at',h2,h3,h4 => by
  simp only [If.cp]
  have e : (bs.take at').length = at' := by rw [List.length_take]; omega
  have e2 : (bs.take at')[(bs.take at').length - far]?.getD 0 = by' bs at' := by
   rw [e,List.getElem?_take_of_lt (by omega)]
   have := h4 0 (by omega)
   exact this
  rw [e2,take_snoc bs at' (by omega)]
  have := cp_take bs far h1 n (at' + 1) (by omega) (by omega) fun j hj => by
   have := h4 (j + 1) (by omega)
   rw [show at' + 1 - far + j = at' - far + (j + 1) by omega,show at' + 1 + j = at' + (j + 1) by omega]
   exact this
  rw [this]
  congr 1
  omega
theorem tok_is {bs : List Nat} (h8 : ∀ x ∈ bs,x < 256) (depth at' m : Nat) (ha : at' < bs.length) (hm : m <= at') :
  If.Val (tok bs depth at' m) at' /\ If.tell1 (bs.take at') (tok bs depth at' m) = bs.take (at' + If.sz (tok bs depth at' m)) /\ at' + If.sz (tok bs depth at' m) <= bs.length := by
 have lit : If.Val ⟨0,0,by' bs at'⟩ at' /\ If.tell1 (bs.take at') ⟨0,0,by' bs at'⟩ = bs.take (at' + If.sz ⟨0,0,by' bs at'⟩) /\ at' + If.sz ⟨0,0,by' bs at'⟩ <= bs.length := by
  refine ⟨⟨Or.inl ⟨rfl,rfl,?_⟩,Nat.zero_le _⟩,?_,by show at' + 1 <= _; omega⟩
  ·unfold by'
   simp only
   rw [List.getElem?_eq_getElem ha]
   exact h8 _ (List.getElem_mem ha)
  ·exact take_snoc bs at' ha
 unfold tok
 by_cases hw : wid bs at' < 3
 ·rw [if_pos hw]; exact lit
 ·rw [if_neg hw]
  have hc := lg_cpy (bs := bs) (at' := at') (by omega) depth (lst bs at' m) (0,0) (fun p hp => by have := lst_some hp; exact ⟨by omega,this.2⟩) (Or.inl rfl)
  generalize lg bs at' depth (lst bs at' m) (0,0) = r at hc ⊢
  by_cases h0 : r.1 = 0
  ·rw [if_pos h0]; exact lit
  ·rw [if_neg h0]
   rcases hc with rfl | ⟨c1,c2,c3,c4,c5,c6⟩
   ·exact absurd rfl h0
   ·unfold wid at c2
    have hs : If.sz ⟨r.1,r.2,0⟩ = r.1 := by unfold If.sz; rw [if_neg h0]
    rw [hs]
    refine ⟨⟨Or.inr ⟨rfl,c1,by simp only; omega,c3,c4⟩,c5⟩,?_,by omega⟩
    unfold If.tell1
    rw [if_neg h0]
    exact cp_take bs r.2 c3 r.1 at' c5 (by omega) c6
def fnd (bs : List Nat) (depth : Nat) : Nat -> Nat -> List If.Tk
 | 0,_ => []
 | k + 1,at' => if bs.length <= at' then [] else tok bs depth at' (laid bs at') :: fnd bs depth k (at' + If.sz (tok bs depth at' (laid bs at')))
theorem laid_le (bs : List Nat) (at' : Nat) : laid bs at' <= at' := Nat.min_le_left _ _
theorem fnd_tell {bs : List Nat} (h8 : ∀ x ∈ bs,x < 256) (depth : Nat) : ∀ (k at' : Nat),bs.length < k + at' -> at' <= bs.length -> (fnd bs depth k at').foldl If.tell1 (bs.take at') = bs
 | 0,at',h,h2 => by omega
 | k + 1,at',h,h2 => by
  simp only [fnd]
  by_cases e : bs.length <= at'
  ·rw [if_pos e]
   exact List.take_of_length_le e
  ·rw [if_neg e,List.foldl_cons]
   obtain ⟨_,t2,t3⟩ := tok_is h8 depth at' (laid bs at') (by omega) (laid_le bs at')
   rw [t2]
   have := If.sz_pos (tok bs depth at' (laid bs at'))
   exact fnd_tell h8 depth k _ (by omega) t3
theorem fnd_ok {bs : List Nat} (h8 : ∀ x ∈ bs,x < 256) (depth : Nat) : ∀ (k at' i : Nat) (t : If.Tk),at' <= bs.length -> (fnd bs depth k at')[i]? = some t -> ∃ n,If.Val t n /\ n + If.sz t <= bs.length /\ n = at' + (((fnd bs depth k at').take i).map If.sz).sum
 | 0,at',i,t,_,h => by simp [fnd] at h
 | k + 1,at',i,t,h2,h => by
  simp only [fnd] at h ⊢
  by_cases e : bs.length <= at'
  ·rw [if_pos e] at h
   simp at h
  ·rw [if_neg e] at h ⊢
   obtain ⟨t1,t2,t3⟩ := tok_is h8 depth at' (laid bs at') (by omega) (laid_le bs at')
   cases i with
   | zero =>
    simp at h
    subst h
    exact ⟨at',t1,t3,by simp⟩
   | succ i =>
    rw [List.getElem?_cons_succ] at h
    obtain ⟨n,n1,n2,n3⟩ := fnd_ok h8 depth k _ i t t3 h
    refine ⟨n,n1,n2,?_⟩
    rw [List.take_succ_cons,List.map_cons,List.sum_cons]
    omega
end Mt
end
section
open Go.RowKit Go.Maps Go.WideMaps
open Mt
def k3 (bs : List Nat) (i : Nat) : Value := .agg #[.int .u8 ((by' bs i : Nat) : Int),.int .u8 ((by' bs (i + 1) : Nat) : Int),.int .u8 ((by' bs (i + 2) : Nat) : Int)]
def Bt (w : World) (b off : Nat) (bs : List Nat) : Prop := b < w.heap.size /\ ∀ j,j < bs.length -> w.cell? ⟨b,off + j,none⟩ = some (.int .u8 ((by' bs j : Nat) : Int))
theorem Bt.later {w w' : World} {b off : Nat} {bs : List Nat} (h : Bt w b off bs) (hb : Below w.heap.size w w') : Bt w' b off bs := ⟨Nat.lt_of_lt_of_le h.1 hb.size,fun j hj => (hb.cell (p := ⟨b,off + j,none⟩) h.1).trans (h.2 j hj)⟩
theorem cells3 {w : World} {g : Nat} {x y z : Value} {t : TypeId} (h : Has w g (.cells #[x,y,z] t (0,0))) : w.cell? ⟨g,0,none⟩ = some x /\ w.cell? ⟨g,1,none⟩ = some y /\ w.cell? ⟨g,2,none⟩ = some z := by
 have h' : w.heap[g]? = some (.cells #[x,y,z] t (0,0)) := h
 refine ⟨?_,?_,?_⟩ <;> simp [World.cell?,h']
theorem threeAt_ok (b off cap n i : Nat) (bs : List Nat) (w : World) (h : Bt w b off bs) (hn : n = bs.length) (hi : i + 2 < n) (h9 : n <= 100000) :
  Calls Tryz.prog 129 #[.slice (some ⟨b,off,none⟩) n cap,.int .i64 (i : Int)] w fun e w' => e = .returned (k3 bs i) /\ Below w.heap.size w w' := by
 have hb1 := below1 w (.cells #[.int .u8 0,.int .u8 0,.int .u8 0] 178)
 have h1 := h.later hb1
 have c0 := h1.2 i (by omega)
 have c1 := h1.2 (i + 1) (by omega)
 have c2 := h1.2 (i + 2) (by omega)
 have w1 : IntKind.i64.wrap ((i : Int) + 1) = ((i + 1 : Nat) : Int) := by rw [IntWalk.i64_in _ (by omega)]; omega
 have w2 : IntKind.i64.wrap ((i : Int) + 2) = ((i + 2 : Nat) : Int) := by rw [IntWalk.i64_in _ (by omega)]; omega
 have b0 : (i : Int) < (n : Int) := by omega
 have b1 : ((i + 1 : Nat) : Int) < (n : Int) := by omega
 have b2 : ((i + 2 : Nat) : Int) < (n : Int) := by omega
 have HB2 := LH (below1 w (.cells #[.int .u8 ((by' bs i : Nat) : Int),.int .u8 ((by' bs (i + 1) : Nat) : Int),.int .u8 ((by' bs (i + 2) : Nat) : Int)] 178))
 clear hb1 h1 h hn hi h9
 go_enter Tryz.func129,Tryz.ntmps129
 go_wp2_with fail
 go_region
 go_wp2
 obtain ⟨u0,u1,u2⟩ := cells3 (Has.new w (.cells #[.int .u8 ((by' bs i : Nat) : Int),.int .u8 ((by' bs (i + 1) : Nat) : Int),.int .u8 ((by' bs (i + 2) : Nat) : Int)] 178))
 refine bodyPost_ret (v := k3 bs i) ?_ rfl ⟨rfl,HB2.out.drew⟩
 simp [results,Tryz.results129,go_sem,k3,u0,u1,u2]
theorem three_arr : ArrKey Tryz.prog 178 5 3 := ⟨Tryz.underlying178,by kernel_rfl,by kernel_rfl,by kernel_rfl⟩
theorem keyOf_three {P : Program} {k e : TypeId} {q : IntKind} (A : ArrKey P k e 3) (he : P.underlying e = some (.int q)) (hsz : ∃ m,P.types.size = m + 1) {a b c : Int} (wa : (Lit.int q a).wf = true) (wb : (Lit.int q b).wf = true) (wc : (Lit.int q c).wf = true) :
  keyOf P k (.agg #[.int q a,.int q b,.int q c]) = some (.string (keyBytes [.int q a,.int q b,.int q c])) := by
 have hkt := A.keyType hsz
 obtain ⟨m,hm⟩ := hsz
 unfold keyOf
 simp only [A.hu]
 rw [if_pos (by simp [hkt,Value.formed,A.hu,A.size]),hm]
 unfold Program.keyLits
 simp only [A.hu,Value.cells]
 rw [if_pos (by rw [A.size]; rfl),show List.range 3 = [0,1,2] from rfl,List.mapM_cons,List.mapM_cons,List.mapM_cons,List.mapM_nil]
 simp [A.one,Program.keyLits,he,wa,wb,wc]
theorem k3_key (bs : List Nat) (h8 : ∀ x ∈ bs,x < 256) (i : Nat) : ∃ l,keyOf Tryz.prog 178 (k3 bs i) = some l := by
 have hw : ∀ j,(Lit.int .u8 ((by' bs j : Nat) : Int)).wf = true := fun j => by
  have h : by' bs j < 256 := by
   unfold by'
   cases e : bs[j]? with
   | none => simp
   | some x => exact h8 x (List.mem_of_getElem? e)
  exact WalkArith.wf_u8 (by omega)
 exact ⟨_,keyOf_three three_arr Tryz.underlying5 ⟨_,rfl⟩ (hw i) (hw (i + 1)) (hw (i + 2))⟩
theorem three_keyed : Keyed Tryz.prog 178 := Keyed.of_law three_arr.law
theorem latest_ok (R B n i : Nat) (A : Value) (f : Value -> Option Value) (bs : List Nat) (w : World) (h8 : ∀ x ∈ bs,x < 256) (hx : Has w R (.cells #[.map (some B),A] 125 (0,0))) (hm : Ap Tryz.prog 178 w B n f) (r : Int) (hr : f (k3 bs i) = none /\ r = -1 ∨ f (k3 bs i) = some (.int .i64 r)) :
  Calls Tryz.prog 128 #[.pointer (some ⟨R,0,none⟩),k3 bs i] w fun e w' => e = .returned (.int .i64 r) /\ Below w.heap.size w w' := by
 have hb1 := below1 w (.cells #[.int .u8 ((by' bs i : Nat) : Int),.int .u8 ((by' bs (i + 1) : Nat) : Int),.int .u8 ((by' bs (i + 2) : Nat) : Int)] 178)
 have HB := LH hb1
 obtain ⟨c0,-,-,-⟩ := (hx.later hb1).two
 obtain ⟨u0,u1,u2⟩ := cells3 (Has.new w (.cells #[.int .u8 ((by' bs i : Nat) : Int),.int .u8 ((by' bs (i + 1) : Nat) : Int),.int .u8 ((by' bs (i + 2) : Nat) : Int)] 178))
 obtain ⟨kl,hk⟩ := k3_key bs h8 i
 have hm1 : Ap Tryz.prog 178 (w.alloc (.cells #[.int .u8 ((by' bs i : Nat) : Int),.int .u8 ((by' bs (i + 1) : Nat) : Int),.int .u8 ((by' bs (i + 2) : Nat) : Int)] 178)).drew B n f := (hm.later hb1).same rfl
 rcases hr with ⟨hf,rfl⟩ | hf
 ·have L0 := hm1.look_none three_keyed (t := 123) Tryz.underlying123 (z := .int .i64 0) rfl true (k3 bs i) hk hf
  have L : (Instr.lookup 123 (.map (some B)) (k3 bs i) true).run Tryz.prog (w.alloc (.cells #[.int .u8 ((by' bs i : Nat) : Int),.int .u8 ((by' bs (i + 1) : Nat) : Int),.int .u8 ((by' bs (i + 2) : Nat) : Int)] 178)).drew = .ok (.tuple #[.int .i64 0,.bool false]) _ := L0
  unfold k3 at L ⊢
  clear hm1 hm hf L0 hb1 hx hk h8
  go_enter Tryz.func128,Tryz.ntmps128
  go_wp2_with fail
  go_region
  go_wp2
  exact bodyPost_ret (v := .int .i64 (-1)) (by simp [results,Tryz.results128,go_sem]) rfl ⟨rfl,HB.out.drew⟩
 ·have L0 := hm1.look_some three_keyed (t := 123) Tryz.underlying123 true (k3 bs i) hk hf
  have L : (Instr.lookup 123 (.map (some B)) (k3 bs i) true).run Tryz.prog (w.alloc (.cells #[.int .u8 ((by' bs i : Nat) : Int),.int .u8 ((by' bs (i + 1) : Nat) : Int),.int .u8 ((by' bs (i + 2) : Nat) : Int)] 178)).drew = .ok (.tuple #[.int .i64 r,.bool true]) _ := L0
  unfold k3 at L ⊢
  clear hm1 hm hf L0 hb1 hx hk h8
  go_enter Tryz.func128,Tryz.ntmps128
  go_wp2_with fail
  go_region
  go_wp2
  exact bodyPost_ret (v := .int .i64 r) (by simp [results,Tryz.results128,go_sem]) rfl ⟨rfl,HB.out.drew⟩
end
section
open Go.RowKit
theorem zl_cell {w : World} {a : Option Addr} {len cap : Nat} {zs : List Int} (h : Zl w (.slice a len cap) zs) (k : Nat) (hk : k < zs.length) : ∃ b off,a = some ⟨b,off,none⟩ /\ b < w.heap.size /\ len = zs.length /\ w.cell? ⟨b,off + k,none⟩ = some (.int .i64 (zs[k]?.getD 0)) := by
 obtain ⟨a',len',cap',e,h1,h2,h3,h4⟩ := h
 cases e
 obtain ⟨b,off,rfl,hb,hc⟩ := h4 (by omega)
 exact ⟨b,off,rfl,hb,h1,hc k (by omega)⟩
def cw (ls : List Nat) (x : Nat) : List Bool := Bs.bitsOf (turned ((Hf.codes ls)[x]?.getD 0) (Hf.ln ls x)) (Hf.ln ls x)
theorem il_cell {lo : Nat} {w : World} {v : Value} {xs : List Nat} (h : Il lo w v xs) (h0 : 0 < xs.length) : ∃ g cap,v = .slice (some ⟨g,0,none⟩) xs.length cap /\ lo <= g /\ Rw w g xs.length (fun i => xs[i]?.getD 0) := by
 rcases h with ⟨rfl,rfl⟩ | ⟨g,cap,e,_,hg,hr⟩
 ·simp at h0
 ·exact ⟨g,cap,e,hg,hr⟩
theorem code_fits {zs : List Int} (hf : Fit zs) (x : Nat) (hx : x < zs.length) (h0 : zs[x]?.getD 0 ≠ 0) : (Hf.codes (nat zs))[x]?.getD 0 < 2 ^ Hf.ln (nat zs) x /\ Hf.ln (nat zs) x <= 15 /\ 0 < Hf.ln (nat zs) x := by
 have hv := hf.valid
 have hg := hv.get x hx
 have h15 := hv.le x (by rw [nat_length]; exact hx)
 have hpos : 0 < Hf.ln (nat zs) x := by show 0 < (nat zs)[x]?.getD 0; omega
 obtain ⟨k,hk,rfl⟩ := Hf.sy_of (nat zs) x (by rw [nat_length]; exact hx) hpos h15
 rw [Hf.codes_get _ _ hk]
 exact ⟨Hf.cd_lt _ _ hk hf.pf,h15,hpos⟩
end
section
open Go.RowKit
theorem ext_nil (l : List Bool) (f : Nat -> Bool) (a : Option Addr) (len cap N k m : Nat) (w : World)
  (hs : Sl w (.slice a len cap) (Bs.pack l)) (hl : Hid (N = l.length)) (hN : N <= 1125899906842624) (hk : k <= 1125899906842624) (hm : Hid ((N + k + 7) / 8 = m)) (hk0 : k <= 0) :
  Calls Tryz.prog 91 #[.agg #[.slice a len cap,.int .i64 N],.int .i64 k,.nilFunc] w (ExtPost w l f k m) := by
 have hmk := run_make_row' (P := Tryz.prog) 22 5 (.int .u8 0) 1 Tryz.underlying22 Tryz.infoU8 rfl .i64 .i64 m (by have := hm.out; omega) (by have := hm.out; omega)
 have hsz : Hid ((((N : Int) + (k : Int)) / 8 + (((N : Int) + (k : Int)) % 8 + 7) / 8) = (m : Int)) := by
  show _ = _
  rw [<- hm.out]; omega
 have hA : 0 <= (N : Int) + (k : Int) := by omega
 have hB : (N : Int) + (k : Int) <= 9223372036854775807 := by omega
 have hs' := LH hs
 clear hs
 go_enter Tryz.func91,Tryz.ntmps91
 go_upto_region 1 with fail
 go_cut [7] (fun s7 wx => Laid ((w.alloc (.cells #[.slice a len cap,.int .i64 N] 64)).alloc (.cells #[.slice none 0 0,.int .i64 0] 64)) wx s7 m N)
 case first =>
  have hwr : IntKind.i64.wrap ((N : Int) + (k : Int)) = (N : Int) + (k : Int) := IntWalk.i64_in _ (by omega)
  clear hs' hl
  go_region_held3 (fun wx => wx.cell? ⟨w.heap.size,1,none⟩ = some (.int .i64 (N : Int))) (go_keep) (first | (go_at_call 113; go_fit (size_is ((N : Int) + (k : Int)) (m : Int) hA hB hsz _); rintro e w' ⟨rfl,rfl⟩))
  all_goals (go_wp2_with fail; go_meet; first | exact Laid.one _ m N (w.heap.size + 1 + 1) (by simp) | exact Laid.two _ m N (w.heap.size + 1 + 1) (by simp))
 case rest =>
  clear hmk hsz hA hB
  obtain ⟨R,g,rfl,hRB,hgB,hne,hsz2,hR,hg,hbox,hres,hb1⟩ := hcut.facts
  clear hcut
  have c0 := cell_of_block hbox 0
  have c1 := cell_of_block hR 0
  simp only [List.getElem?_toArray,List.getElem?_cons_zero] at c0 c1
  have hs2 : Sl wc (.slice a len cap) (Bs.pack l) := hs'.out.later hb1
  have hlen : len = (N + 7) / 8 := by rw [hs2.len.1,Bs.pack_length,hl.out]
  have hmN : (N + 7) / 8 <= m := by have := hm.out; omega
  have hn : (vb (Bs.pack l)).length = Nat.min len m := by
   rw [vb_length,Bs.pack_length,<- hl.out]
   show _ = min len m
   omega
  have hpos : 0 < (vb (Bs.pack l)).length -> some (⟨g,0,none⟩ : Addr) = some ⟨g,0,none⟩ /\ ∃ ad,a = some ad /\ ∀ j v,(vb (Bs.pack l))[j]? = some v -> wc.cell? (ad.add j) = some v := fun h =>
   ⟨rfl,hs2.cells (by rw [vb_length,Bs.pack_length,<- hl.out] at h; omega)⟩
  have hfit : 0 + (vb (Bs.pack l)).length <= (vb (Bs.packTo m [])).length := by
   rw [vb_length,vb_length,Bs.pack_length,Bs.packTo_length,<- hl.out]; omega
  have H1 := LH hg
  have H2 := LH hR
  have H3 := LH hbox
  have H4 := LH hn
  have H5 := LH hpos
  have H6 := LH hfit
  have H7 := LH hlen
  have H8 := LH hs2
  have H9 := LH hres
  have H10 := LH hb1
  clear hg hR hbox hn hpos hfit hlen hs2 hres hb1
  go_wp2_with (with_reducible refine wpList_copy_only rfl (.tmp 20) (.tmp 22) 22 22 rfl 5 Tryz.underlying22 (by kernel_rfl) (some ⟨g,0,none⟩) a m m len cap rfl rfl g 0 (vb (Bs.packTo m [])) 5 H1.out (vb (Bs.pack l)) H4.out H5.out H6.out (oneCell_vb _) ?_; intro w2 hg2 ho2)
  have HR2 : Hid (w2.heap[R]? = some (rowObj g m (more l f 0).length)) := by
   show _ = _
   rw [ho2.block R (lt_of_block H2.out) hne,more_zero,<- hl.out]; exact H2.out
  have HG2 : Hid (w2.heap[g]? = some (bytesObj (Bs.packTo m (more l f 0)))) := by
   show _ = _
   rw [more_zero]
   have e := splice_zero m l (by rw [<- hl.out]; exact hmN)
   have h := hg2.out
   rw [e] at h
   exact h
  have HB2 : Hid (Below w.heap.size w w2) := ho2.below H10.out (by omega) (by omega)
  have HE2 : Hid (w2.heap[w.heap.size + 1]? = some (.cells #[.slice none 0 0,.int .i64 0] 64 (0,0))) := by
   show _ = _
   rw [ho2.block _ (by omega) (by omega)]; exact H9.out
  clear hg2 ho2 H1 H2 H3 H4 H5 H6 H7 H8 H9 H10 c0 c1
  go_loopw [26] (fun s26 wr => ∃ i : Nat,i <= k /\ s26 = .int .i64 i /\ Hid (wr.heap[R]? = some (rowObj g m (more l f i).length)) /\ Hid (wr.heap[g]? = some (bytesObj (Bs.packTo m (more l f i)))) /\ Hid (Below (w.heap.size + 2) w2 wr))
   (fun s _ => k - (intOf s).toNat)
  case atStart => exact ⟨0,Nat.zero_le _,rfl,HR2,HG2,Below.refl _ _⟩
  case round =>
   obtain ⟨i,hi,rfl,KR,KG,KB⟩ := hrel
   by_cases hlt : i < k
   ·omega
   ·obtain rfl : i = k := by omega
    have c0 : wr.cell? ⟨R,0,none⟩ = some (.slice (some ⟨g,0,none⟩) m m) := by rw [cell_of_block KR.out]; rfl
    have c1 : wr.cell? ⟨R,1,none⟩ = some (.int .i64 ((more l f i).length : Int)) := by rw [cell_of_block KR.out]; rfl
    have KE : wr.heap[w.heap.size + 1]? = some (.cells #[.slice none 0 0,.int .i64 0] 64 (0,0)) := (KB.out.block _ (by omega)).trans HE2.out
    have f0 := free_of_block KE 0
    have f1 := free_of_block KE 1
    have e0 : wr.cell? ⟨w.heap.size + 1,0,none⟩ = some (.slice none 0 0) := by rw [cell_of_block KE]; rfl
    have e1 : wr.cell? ⟨w.heap.size + 1,1,none⟩ = some (.int .i64 0) := by rw [cell_of_block KE]; rfl
    have KE' := LH KE
    clear KE
    go_wp2
    refine bodyPost_ret (v := .agg #[.slice (some ⟨g,0,none⟩) m m,.int .i64 ((more l f i).length : Int)]) (by simp [results,Tryz.results91,go_sem,e0,e1]) rfl ⟨g,rfl,by omega,?_,?_⟩
    ·rw [Below.heap_setCell _ _ _ _ (by show g ≠ w.heap.size + 1; omega),Below.heap_setCell _ _ _ _ (by show g ≠ w.heap.size + 1; omega)]
     exact KG.out
    ·exact ((HB2.out.trans (KB.out.mono (by omega))).setCell (by show w.heap.size <= w.heap.size + 1; omega) _).setCell (by show w.heap.size <= w.heap.size + 1; omega) _
theorem ext_nil_is (l : List Bool) (q : Int) (a : Option Addr) (len cap N : Nat) (w : World) (hs : Sl w (.slice a len cap) (Bs.pack l)) (hl : Hid (N = l.length)) (hN : N <= 1125899906842624) (hq : Hid (q = (N : Int))) :
  Calls Tryz.prog 91 #[.agg #[.slice a len cap,.int .i64 q],.int .i64 0,.nilFunc] w (ExtPost w l (fun _ => false) 0 ((N + 0 + 7) / 8)) := by
 rw [hq.out]
 exact ext_nil l (fun _ => false) a len cap N 0 ((N + 0 + 7) / 8) w hs hl hN (by omega) rfl (by omega)
def OneRow (w : World) (l : List Bool) (e : Ending) (w' : World) : Prop :=
 ∃ g m : Nat,e = .returned (.agg #[.slice (some ⟨g,0,none⟩) m m,.int .i64 (l.length : Int)]) /\ m = (l.length + 7) / 8 /\ w.heap.size <= g /\ Has w' g (bytesObj (Bs.pack l)) /\ Below w.heap.size w w'
theorem ExtPost.pack {w w' : World} {l : List Bool} {f : Nat -> Bool} {k m : Nat} {e : Ending} (h : ExtPost w l f k m e w') (hm : m = (l.length + k + 7) / 8) : OneRow w (more l f k) e w' := by
 obtain ⟨g,he,hg,hh,hb⟩ := h
 refine ⟨g,m,he,by rw [hm,more_length],hg,?_,hb⟩
 have e2 : Bs.pack (more l f k) = Bs.packTo m (more l f k) := by unfold Bs.pack; rw [more_length,hm]
 rw [e2]
 exact hh
theorem of_any (a : Option Addr) (len cap : Nat) (l : List Bool) (w : World) (hs : Sl w (.slice a len cap) (Bs.pack l)) (hl : Hid (8 * len = l.length)) (hlen : len <= 140737488351232) :
  Calls Tryz.prog 49 #[.slice a len cap] w (OneRow w l) := by
 have HS := LH hs
 clear hs
 have hq : Hid ((8 : Int) * (len : Int) = ((8 * len : Nat) : Int)) := by show _ = _; omega
 have hk1 := Has.new w (.cells #[.slice none 0 0,.int .i64 0] 64)
 go_enter Tryz.func49,Tryz.ntmps49
 go_wp2_with fail
 refine (ext_nil_is l _ a len cap (8 * len) _ (HS.out.later (below2 _ _ _)) hl (by omega) hq).mono ?_
 rintro e w1 h1
 obtain ⟨g,m,rfl,hm,hg,hh,hb⟩ := h1.pack (by rw [<- hl.out])
 obtain ⟨k1,k2,kb,ks⟩ := facts2 hb
 have HH := LH hh
 have HM := LH hm
 have hg' : w.heap.size + 2 <= g := by simpa using hg
 clear hb hh h1 hg hm hk1
 obtain ⟨c0,c1,f0,f1⟩ := k1.two
 go_wp2
 refine bodyPost_ret (v := .agg #[.slice (some ⟨g,0,none⟩) m m,.int .i64 ((more l (fun _ => false) 0).length : Int)]) (by simp [results,Tryz.results49,go_sem,c0,c1]) rfl ⟨g,m,?_,?_,by omega,?_,set2_below kb _ (Nat.le_refl _) _ _⟩
 ·rw [more_zero]
 ·rw [HM.out,more_zero]
 ·refine Has.set (Has.set ?_ (by show g ≠ w.heap.size; omega) _) (by show g ≠ w.heap.size; omega) _
  rw [<- more_zero l (fun _ => false)]
  exact HH.out
end
section
open Go.RowKit
def lastOf (ls : List Nat) (xs : List Nat) : Nat := (xs.getLast?.map (Hf.ln ls)).getD 0
theorem ordl_usedL (ls : List Nat) (h15 : ∀ i,i < ls.length -> Hf.ln ls i <= 15) (x : Nat) : x ∈ Hf.ordl ls ↔ x ∈ Hf.usedL ls ls.length := by
 unfold Hf.ordl
 rw [Hf.mem_ordTo,Hf.mem_usedL]
 constructor
 ·rintro ⟨h1,h2,_⟩; exact ⟨h1,by omega⟩
 ·rintro ⟨h1,h2⟩; exact ⟨h1,by omega,h15 x h1⟩
theorem one_of_nodup {xs ys : List Nat} (hx : xs.Nodup) (h : ∀ x,x ∈ xs ↔ x ∈ ys) {y : Nat} (hy : ys = [y]) : xs = [y] := by
 subst hy
 match xs,hx,h with
 | [],_,h => exact absurd ((h y).2 (List.mem_singleton.2 rfl)) (by simp)
 | [a],_,h => rw [List.mem_singleton.1 ((h a).1 (List.mem_singleton.2 rfl))]
 | a :: b :: r,hx,h =>
  have ha := List.mem_singleton.1 ((h a).1 (by simp))
  have hb := List.mem_singleton.1 ((h b).1 (by simp))
  rw [ha,hb] at hx
  simp at hx
theorem ordl_nodup (ls : List Nat) : (Hf.ordl ls).Nodup := by
 refine (Hf.ordTo_sorted ls 15).imp ?_
 intro a b h e
 subst e
 unfold Hf.Lt at h
 omega
theorem usedL_nodup (ls : List Nat) (k : Nat) : (Hf.usedL ls k).Nodup := (Hf.usedL_sorted ls k).imp fun h e => by omega
theorem lone_iff (ls : List Nat) (h15 : ∀ i,i < ls.length -> Hf.ln ls i <= 15) : Lone ls ↔ ((Hf.usedL ls ls.length).length = 1 /\ lastOf ls (Hf.usedL ls ls.length) = 1) := by
 unfold Lone lastOf
 constructor
 ·rintro ⟨h1,h2⟩
  obtain ⟨x,hx⟩ := List.length_eq_one_iff.1 h1
  have hu := one_of_nodup (usedL_nodup ls ls.length) (fun y => (ordl_usedL ls h15 y).symm) hx
  rw [hu]
  refine ⟨rfl,?_⟩
  unfold Hf.sy at h2
  rw [hx] at h2
  exact h2
 ·rintro ⟨h1,h2⟩
  obtain ⟨x,hx⟩ := List.length_eq_one_iff.1 h1
  have ho := one_of_nodup (ordl_nodup ls) (ordl_usedL ls h15) hx
  rw [hx] at h2
  refine ⟨by rw [ho]; rfl,?_⟩
  unfold Hf.sy
  rw [ho]
  exact h2
theorem usedL_step (ls : List Nat) (k x n : Nat) (hx : x = Hf.ln ls k) (hn : n = (Hf.usedL ls k).length) : (Hf.usedL ls (k + 1)).length = n + (if 0 < x then 1 else 0) := by
 simp only [Hf.usedL]
 rw [<- hx,List.length_append,<- hn]
 by_cases h : x = 0
 ·rw [if_pos h,if_neg (by omega)]; rfl
 ·rw [if_neg h,if_pos (by omega)]; rfl
theorem lastOf_step (ls : List Nat) (k x n : Nat) (hx : x = Hf.ln ls k) (hn : n = lastOf ls (Hf.usedL ls k)) : lastOf ls (Hf.usedL ls (k + 1)) = if 0 < x then x else n := by
 simp only [Hf.usedL]
 rw [<- hx]
 by_cases h : x = 0
 ·rw [if_pos h,if_neg (by omega),List.append_nil,hn]
 ·rw [if_neg h,if_pos (by omega)]
  unfold lastOf
  simp [hx]
theorem rnew_any (zs : List Int) (s : Value) (w : World) (hz : Zl w s zs) : Calls Tryz.prog 126 #[s] w fun e w' => e = .returned (.int .i64 (newE zs)) /\ w = w' := by
 have HC := LH (rcheck_any zs s w hz)
 have HZ := LH hz
 obtain ⟨a,len,cap,rfl,hlen⟩ := hz.shape
 have HL := LH hlen
 by_cases h12 : chk zs = 12
 ·have hv : Valid zs := Fit.valid (Or.inr h12)
  have hl9 : len <= 288 := by have := hv.2.1; omega
  have HE : Hid (newE zs = if (Hf.usedL (nat zs) (nat zs).length).length = 1 /\ lastOf (nat zs) (Hf.usedL (nat zs) (nat zs).length) = 1 then 0 else 12) := by
   show _ = _
   unfold newE
   rw [h12]
   by_cases hl : Lone (nat zs)
   ·rw [if_pos ⟨rfl,hl⟩,if_pos ((lone_iff _ fun i hi => hv.le i hi).1 hl)]
   ·rw [if_neg (fun h => hl h.2),if_neg (fun h => hl ((lone_iff _ fun i hi => hv.le i hi).2 h))]
  rw [h12] at HC
  have HV := LH hv
  obtain ⟨r,hr⟩ : ∃ r,r = newE zs := ⟨_,rfl⟩
  rw [<- hr] at HE ⊢
  clear hz hlen h12 hv hr
  go_enter Tryz.func126,Tryz.ntmps126
  go_wp2_with fail
  refine HC.out.mono ?_
  clear HC
  rintro e w' ⟨rfl,rfl⟩
  go_wp2_with fail
  go_loop [4,5,6] (fun s4 s5 s6 => ∃ k u o : Nat,k <= len /\ s6 = .int .i64 k /\ s4 = .int .i64 u /\ s5 = .int .i64 o /\ u <= k /\ o <= 15 /\ Hid (Unit -> u = (Hf.usedL (nat zs) k).length) /\ Hid (Unit -> o = lastOf (nat zs) (Hf.usedL (nat zs) k))) (fun _ _ s => len - (intOf s).toNat)
  case atStart => exact ⟨0,0,0,Nat.zero_le _,rfl,rfl,rfl,Nat.le_refl _,by omega,(fun _ => rfl : Unit -> _),(fun _ => rfl : Unit -> _)⟩
  case round =>
   obtain ⟨k,u,o,hk,rfl,rfl,rfl,huk,ho,HU,HO⟩ := hrel
   by_cases hlt : k < len
   ·obtain ⟨b,off,rfl,_,hq,hc⟩ := zl_cell HZ.out k (by have := HL.out; omega)
    have hg := HV.out.get k (by have := HL.out; omega)
    obtain ⟨x,hx⟩ : ∃ x : Nat,x = (nat zs)[k]?.getD 0 := ⟨_,rfl⟩
    rw [hg,<- hx] at hc
    have hx15 : x <= 15 := by rw [hx]; exact HV.out.le k (by rw [nat_length]; have := HL.out; omega)
    have HX := LH hx
    clear hq hg hx
    have j1 : (0 : Int) <= (k : Int) := by omega
    have j2 : (k : Int) < (len : Int) := by omega
    have NU : Hid (Unit -> u + (if 0 < x then 1 else 0) = (Hf.usedL (nat zs) (k + 1)).length) := fun _ => (usedL_step (nat zs) k x u HX.out (HU.out ())).symm
    have NO : Hid (Unit -> (if 0 < x then x else o) = lastOf (nat zs) (Hf.usedL (nat zs) (k + 1))) := fun _ => (lastOf_step (nat zs) k x o HX.out (HO.out ())).symm
    by_cases h0 : 0 < x
    ·rw [if_pos h0] at NU NO
     have d1 : decide ((0 : Int) < (x : Int)) = true := decide_eq_true (by omega)
     have d2 : decide (0 < x) = true := decide_eq_true h0
     go_wp2
     go_round
     case rel => exact ⟨k + 1,u + 1,x,by omega,by go_num,by go_num,rfl,by omega,hx15,NU,NO⟩
     case measure => simp [intOf]; omega
    ·rw [if_neg h0] at NU NO
     have d1 : decide ((0 : Int) < (x : Int)) = false := decide_eq_false (by omega)
     have d2 : decide (0 < x) = false := decide_eq_false h0
     go_wp2
     go_round
     case rel => exact ⟨k + 1,u,o,by omega,by go_num,rfl,rfl,by omega,ho,NU,NO⟩
     case measure => simp [intOf]; omega
   ·obtain rfl : k = len := by omega
    have e1 : u = (Hf.usedL (nat zs) (nat zs).length).length := by rw [HU.out (),nat_length,HL.out]
    have e2 : o = lastOf (nat zs) (Hf.usedL (nat zs) (nat zs).length) := by rw [HO.out (),nat_length,HL.out]
    have HE2 : Hid (r = if u = 1 /\ o = 1 then 0 else 12) := by rw [e1,e2]; exact HE.out
    clear e1 e2 HE HU HO
    by_cases hu : u = 1
    ·by_cases ho1 : o = 1
     ·have hr : Hid (r = 0) := by have := HE2.out; rw [if_pos ⟨hu,ho1⟩] at this; exact this
      subst hu ho1
      clear HE2
      go_wp2
      go_ret
      exact ⟨by rw [hr.out]; rfl,rfl⟩
     ·have hr : Hid (r = 12) := by have := HE2.out; rw [if_neg (fun h => ho1 h.2)] at this; exact this
      have d2 : ((o : Int) == 1) = false := by rw [beq_eq_false_iff_ne]; omega
      subst hu
      clear HE2
      go_wp2
      go_ret
      exact ⟨by rw [hr.out]; rfl,rfl⟩
    ·have hr : Hid (r = 12) := by have := HE2.out; rw [if_neg (fun h => hu h.1)] at this; exact this
     have d1 : ((u : Int) == 1) = false := by rw [beq_eq_false_iff_ne]; omega
     clear HE2
     go_wp2
     go_ret
     exact ⟨by rw [hr.out]; rfl,rfl⟩
 ·have HE : newE zs = chk zs := by unfold newE; rw [if_neg (fun h => h12 h.1)]
  rw [HE]
  obtain ⟨c,hc⟩ : ∃ c,c = chk zs := ⟨_,rfl⟩
  rw [<- hc] at HC h12 ⊢
  have d1 : (c == 12) = false := by rw [beq_eq_false_iff_ne]; exact h12
  clear hz hlen hc HE
  go_enter Tryz.func126,Tryz.ntmps126
  go_wp2_with fail
  refine HC.out.mono ?_
  clear HC
  rintro e w' ⟨rfl,rfl⟩
  go_wp2_with fail
  refine wp_loop_rounds 1 ?_
  rw [rounds_succ]
  by_cases h0 : 0 < len
  ·have d2 : decide ((0 : Int) < (len : Int)) = true := decide_eq_true (by omega)
   go_wp2
   go_ret
   exact ⟨rfl,rfl⟩
  ·have d2 : decide ((0 : Int) < (len : Int)) = false := decide_eq_false (by omega)
   go_wp2
   go_ret
   exact ⟨rfl,rfl⟩
end
end Go.Proofs.YtmgpcbjciioiaaaGreatDoor
