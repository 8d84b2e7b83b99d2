import Derived.Test.YtmgpcbjciioiaaaGreatDoorKneed
import Derived.Test.YtmgpcbjciioiaaaGreatDoorKlen
import Derived.Test.YtmgpcbjciioiaaaGreatDoorIstr
import Derived.Test.YtmgpcbjciioiaaaGreatDoorLplain
import Derived.Test.YtmgpcbjciioiaaaGreatDoorHrnew
import Derived.Test.YtmgpcbjciioiaaaGreatDoorDcat
import Derived.Test.YtmgpcbjciioiaaaGreatDoorHsort
import Derived.Test.YtmgpcbjciioiaaaGreatDoorCarg
import Derived.RangeFuncNested
import Derived.RangeFuncBound
import Derived.RangeFuncCalls
import Derived.RangeFuncLeaves
import Derived.RangeFuncBox
import Derived.Shelf.Abstract
import Derived.Shelf.RegionOpen
import Derived.WalkKit
import Derived.OwnWalkIn
import Derived.TacticsInMore
import Derived.LoopNIn
import Derived.LoopIn
namespace Go.Proofs.YtmgpcbjciioiaaaGreatDoor
set_option maxRecDepth 100000
set_option maxHeartbeats 8000000
section
open Go.RowKit
theorem cw_len (ls : List Nat) (x : Nat) : (cw ls x).length = Hf.ln ls x := by unfold cw; exact Bs.bitsOf_length _ _
theorem testBit_two (v d : Nat) : 2 * (v / 2 ^ (d + 1)) + (v.testBit d).toNat = v / 2 ^ d := by
 rw [Nat.testBit_eq_decide_div_mod_eq,Nat.pow_succ,<- Nat.div_div_eq_div_mul]
 generalize v / 2 ^ d = q
 by_cases h : q % 2 = 1
 ·rw [decide_eq_true h]; show 2 * (q / 2) + 1 = q; omega
 ·rw [decide_eq_false h]; show 2 * (q / 2) + 0 = q; omega
theorem vb_code (l : List Bool) (p n v : Nat) (hv : v < 2 ^ n) (h : ∀ i,i < n -> l[p + i]?.getD false = v.testBit (n - 1 - i)) : Hf.vb l p n = v := by
 have key : ∀ m,m <= n -> Hf.vb l p m = v / 2 ^ (n - m) := by
  intro m
  induction m with
  | zero => intro _; rw [Nat.sub_zero,Nat.div_eq_of_lt hv]; rfl
  | succ m ih =>
   intro hm
   show 2 * Hf.vb l p m + (l[p + m]?.getD false).toNat = _
   rw [ih (by omega),h m (by omega),show n - m = (n - 1 - m) + 1 by omega,testBit_two,show n - (m + 1) = n - 1 - m by omega]
 rw [key n (Nat.le_refl _)]
 simp
theorem cw_get (ls : List Nat) (x i : Nat) (hi : i < Hf.ln ls x) : (cw ls x)[i]?.getD false = ((Hf.codes ls)[x]?.getD 0).testBit (Hf.ln ls x - 1 - i) := by
 unfold cw
 rw [<- tops_all]
 unfold tops
 simp [hi]
theorem code_hit {zs : List Int} (hf : Fit zs) (l pre post : List Bool) (x : Nat) (h1 : x < zs.length) (h2 : zs[x]?.getD 0 ≠ 0) (hl : l = pre ++ (cw (nat zs) x ++ post)) :
  ∃ kk,Hf.sy (nat zs) kk = x /\ Hf.Hit (nat zs) l pre.length (Hf.ln (nat zs) x) kk /\ 0 < Hf.ln (nat zs) x /\ pre.length + Hf.ln (nat zs) x <= l.length := by
 have hc := code_fits hf x h1 h2
 have hg := cw_get (nat zs) x
 have hlen := cw_len (nat zs) x
 obtain ⟨kk,hkk,e⟩ := Hf.sy_of (nat zs) x (by rw [nat_length]; exact h1) hc.2.2 hc.2.1
 have hcd := Hf.codes_get (nat zs) kk hkk
 rw [e] at hcd
 refine ⟨kk,e,⟨hkk,by rw [e],?_⟩,hc.2.2,?_⟩
 ·have h3 := hc.1
  rw [hcd] at h3 hg
  refine (vb_code l _ _ _ h3 fun i hi => ?_).symm
  rw [hl,List.getElem?_append_right (Nat.le_add_right _ _),Nat.add_sub_cancel_left,List.getElem?_append_left (by rw [hlen]; exact hi)]
  exact hg i hi
 ·rw [hl,List.length_append,List.length_append,hlen]
  omega
theorem own_stays {w w' : World} {base : Nat} {e : TypeId} {size : Nat} {v : Value} {n : Nat} {xs : List Value} (h : w.ownsRow base e size v n xs) (hb : Below w.heap.size w w') : w'.ownsRow base e size v n xs := by
 obtain ⟨h1,h2⟩ := h
 refine ⟨h1,?_⟩
 rcases h2 with h | ⟨g,c,cur,h,hbg,hg,r⟩
 ·exact Or.inl h
 ·exact Or.inr ⟨g,c,cur,h,hbg,(hb.block g (lt_of_block hg)).trans hg,r⟩
theorem own_slice {w : World} {base : Nat} {e : TypeId} {size : Nat} {v : Value} {n : Nat} {xs : List Value} (h : w.ownsRow base e size v n xs) : ∃ a cap,v = .slice a n cap := by
 rcases h.2 with ⟨rfl,rfl⟩ | ⟨g,cap,cur,rfl,_⟩
 ·exact ⟨_,_,rfl⟩
 ·exact ⟨_,_,rfl⟩
def RowMem (w : World) (s : Value) (l : List Bool) : Prop := (s = .slice none 0 0 /\ l = []) ∨ ∃ g,s = .slice (some ⟨g,0,none⟩) ((l.length + 7) / 8) ((l.length + 7) / 8) /\ Has w g (bytesObj (Bs.pack l))
theorem RowMem.sl {w : World} {s : Value} {l : List Bool} (h : RowMem w s l) (hl : l.length <= 100000) : Sl w s (Bs.pack l) := by
 rcases h with ⟨rfl,rfl⟩ | ⟨g,rfl,h⟩
 ·exact Sl.nil _
 ·exact Sl.has h (Bs.pack_lt l) (by rw [Bs.pack_length]; omega) _ _ (Bs.pack_length l).symm
theorem RowMem.later {w w' : World} {s : Value} {l : List Bool} (h : RowMem w s l) (hb : Below w.heap.size w w') : RowMem w' s l := h.imp id fun ⟨g,e,h⟩ => ⟨g,e,h.later hb⟩
theorem RowMem.shape {w : World} {s : Value} {l : List Bool} (h : RowMem w s l) : ∃ a m cap,s = .slice a m cap := by
 rcases h with ⟨rfl,_⟩ | ⟨g,rfl,_⟩ <;> exact ⟨_,_,_,rfl⟩
end
section
open Go.RowKit Go.Maps Mt
def az1 (bs : List Nat) (x m : Nat) : Int := match lst bs x m with
 | none => -1
 | some p => (p : Int)
def az (bs : List Nat) (m : Nat) : List Value := (List.range m).map fun i => .int .i64 (az1 bs i i)
theorem az_succ (bs : List Nat) (m : Nat) : az bs (m + 1) = az bs m ++ [.int .i64 (az1 bs m m)] := by simp [az,List.range_succ]
theorem az_get (bs : List Nat) (m i : Nat) (h : i < m) : (az bs m)[i]? = some (.int .i64 (az1 bs i i)) := by simp [az,h]
theorem k3_inj (bs : List Nat) (x y : Nat) : k3 bs x = k3 bs y ↔ E3 bs x y := by
 unfold k3 E3
 constructor
 ·intro h
  simp only [Value.agg.injEq,Array.mk.injEq,List.cons.injEq,Value.int.injEq,true_and,and_true] at h
  omega
 ·rintro ⟨h1,h2,h3⟩
  rw [h1,h2,h3]
def Led (bs : List Nat) (m : Nat) (f : Value -> Option Value) : Prop := ∀ x,f (k3 bs x) = (lst bs x m).map fun (p : Nat) => Value.int .i64 (p : Int)
theorem led_step {bs : List Nat} {m : Nat} {f : Value -> Option Value} (h : Led bs m f) : Led bs (m + 1) (apd f (k3 bs m) (some (.int .i64 (m : Int)))) := fun x => by
 simp only [lst]
 by_cases e : E3 bs m x
 ·rw [if_pos e,(k3_inj bs x m).2 e.symm,apd_same]; rfl
 ·rw [if_neg e,apd_ne _ _ (fun e2 => e ((k3_inj bs x m).1 e2).symm)]
  exact h x
theorem led_at {bs : List Nat} {m : Nat} {f : Value -> Option Value} (h : Led bs m f) (x : Nat) : f (k3 bs x) = none /\ az1 bs x m = -1 ∨ f (k3 bs x) = some (.int .i64 (az1 bs x m)) := by
 rw [h x]
 unfold az1
 cases lst bs x m with
 | none => exact Or.inl ⟨rfl,rfl⟩
 | some p => exact Or.inr rfl
def Pla (base : Nat) (w : World) (R B : Nat) (bs : List Nat) (m : Nat) : Prop :=
 ∃ A f,base <= R /\ base <= B /\ Has w R (.cells #[.map (some B),A] 125 (0,0)) /\ Ap Tryz.prog 178 w B m f /\ Led bs m f /\ w.ownsRow base 3 1 A m (az bs m)
theorem latest_pla {base : Nat} {w : World} {R B : Nat} {bs : List Nat} {m : Nat} (h : Pla base w R B bs m) (h8 : ∀ x ∈ bs,x < 256) (i : Nat) :
  Calls Tryz.prog 128 #[.pointer (some ⟨R,0,none⟩),k3 bs i] w fun e w' => e = .returned (.int .i64 (az1 bs i m)) /\ Below w.heap.size w w' := by
 obtain ⟨A,f,_,_,hx,hm,hf,_⟩ := h
 exact latest_ok R B m i A f bs w h8 hx hm _ (led_at hf i)
theorem Pla.later {base : Nat} {w w' : World} {R B : Nat} {bs : List Nat} {m : Nat} (h : Pla base w R B bs m) (hb : Below w.heap.size w w') : Pla base w' R B bs m := by
 obtain ⟨A,f,h1,h2,hx,hm,hf,ho⟩ := h
 exact ⟨A,f,h1,h2,hx.later hb,hm.later hb,hf,own_stays ho hb⟩
end
section
open Go.RowKit
def NB (w w' : World) : Prop := ∀ (k : Nat) (cs : Array Value) (t : TypeId) (fr : Nat × Nat),Has w k (.cells cs t fr) -> t ≠ 5 -> Has w' k (.cells cs t fr)
theorem NB.refl (w : World) : NB w w := fun _ _ _ _ h _ => h
theorem NB.trans {w w1 w2 : World} (h : NB w w1) (h2 : NB w1 w2) : NB w w2 := fun k cs t fr hk ht => h2 k cs t fr (h k cs t fr hk ht) ht
theorem NB.of_below {w w' : World} (h : Below w.heap.size w w') : NB w w' := fun _ _ _ _ hk _ => hk.later h
theorem NB.drew {w w' : World} (h : NB w w') : NB w w'.drew := h
theorem NB.grown {w w' : World} {base : Nat} {s : Value} {l : List Bool} (hr : Row w base s l) (h : w.grownBy w' s.ownBlock) : NB w w' := fun _ _ _ _ hk ht => hk.grown h (fun e => (own_ne_ty hr hk ht) e.symm)
theorem NB.set {w w1 : World} (h : NB w w1) {a : Addr} (ha : w.heap.size <= a.block) (v : Value) : NB w (w1.setCell a v) := fun k cs t fr hk ht => (h k cs t fr hk ht).set (show k ≠ a.block by have := hk.lt; omega) v
end
section
namespace If
open Hd (num rd head)
def Sg (l : List Bool) (p : Nat) (s : List Bool) : Prop := ∃ pre post,pre.length = p /\ l = pre ++ (s ++ post)
theorem Sg.left {l : List Bool} {p : Nat} {a b : List Bool} (h : Sg l p (a ++ b)) : Sg l p a := by
 obtain ⟨x,y,e1,e2⟩ := h
 exact ⟨x,b ++ y,e1,by rw [e2,List.append_assoc]⟩
theorem Sg.right {l : List Bool} {p : Nat} {a b : List Bool} (h : Sg l p (a ++ b)) : Sg l (p + a.length) b := by
 obtain ⟨x,y,e1,e2⟩ := h
 exact ⟨x ++ a,y,by rw [List.length_append,e1],by rw [e2,List.append_assoc,List.append_assoc]⟩
theorem Sg.le {l : List Bool} {p : Nat} {s : List Bool} (h : Sg l p s) : p + s.length <= l.length := by
 obtain ⟨x,y,e1,e2⟩ := h
 rw [e2,List.length_append,List.length_append]; omega
theorem Sg.num {l : List Bool} {p : Nat} {s : List Bool} (h : Sg l p s) : Hd.num l p s.length = Bs.num s := by
 obtain ⟨x,y,e1,e2⟩ := h
 subst e2
 unfold Hd.num
 rw [<- e1,List.drop_left,List.take_left]
theorem Sg.bits {l : List Bool} {p v n : Nat} (h : Sg l p (Bs.bitsOf v n)) (hv : v < 2 ^ n) : Hd.num l p n = v := by
 have := h.num
 rwa [Bs.bitsOf_length,Bs.num_bitsOf v n hv] at this
theorem Sg.room {l : List Bool} {p v n : Nat} (h : Sg l p (Bs.bitsOf v n)) : p + n <= l.length := by
 have := h.le
 rwa [Bs.bitsOf_length] at this
theorem Sg.whole (l z : List Bool) : Sg (l ++ z) 0 l := ⟨[],z,rfl,rfl⟩
theorem ln_zz (ls : List Nat) (x : Nat) : (Hd.zz ls)[x]?.getD 0 = ((Hf.ln ls x : Nat) : Int) := Hd.zz_get ls x
theorem Sg.rd {ls : List Nat} {l : List Bool} {p x : Nat} (hf : Fit (Hd.zz ls)) (h2 : Hf.ln ls x ≠ 0) (h : Sg l p (cw ls x)) : Hd.rd ls l p = (x,p + Hf.ln ls x,0) := by
 obtain ⟨pre,post,rfl,e⟩ := h
 have h1 : x < ls.length := by
  rcases Nat.lt_or_ge x ls.length with h | h
  ·exact h
  ·exact absurd (by unfold Hf.ln; rw [List.getElem?_eq_none h]; rfl) h2
 obtain ⟨kk,e1,e2,e3,e4⟩ := code_hit hf l pre post x (by rw [Hd.zz_length]; exact h1) (by rw [ln_zz]; omega) (by rw [Hd.nat_zz]; exact e)
 rw [Hd.nat_zz] at e1 e2 e3 e4
 have := Hd.rd_is (Hf.rd_hit e2 e3 e4)
 rw [e1] at this
 exact this
def tokRow (lit dist : List Nat) (t : Tk) : List Bool :=
 if t.len = 0 then cw lit t.lit else
 (cw lit (257 + Sy.lk t.len) ++ Bs.bitsOf (t.len - Sy.at' Sy.lf (Sy.lk t.len)) (Sy.at' Sy.lb (Sy.lk t.len))) ++ (cw dist (Sy.dk t.far) ++ Bs.bitsOf (t.far - Sy.at' Sy.df (Sy.dk t.far)) (Sy.at' Sy.db (Sy.dk t.far)))
def toksRow (lit dist : List Nat) (ts : List Tk) : List Bool := (ts.map (tokRow lit dist)).flatten
theorem toksRow_cons (lit dist : List Nat) (t : Tk) (ts : List Tk) : toksRow lit dist (t :: ts) = tokRow lit dist t ++ toksRow lit dist ts := rfl
theorem toksRow_snoc (lit dist : List Nat) (t : Tk) (ts : List Tk) : toksRow lit dist (ts ++ [t]) = toksRow lit dist ts ++ tokRow lit dist t := by simp [toksRow]
def Has1 (lit dist : List Nat) (t : Tk) : Prop := if t.len = 0 then Hf.ln lit t.lit ≠ 0 else Hf.ln lit (257 + Sy.lk t.len) ≠ 0 /\ Hf.ln dist (Sy.dk t.far) ≠ 0
theorem lsym_lt (n : Nat) (h1 : 3 <= n) (h2 : n <= 258) : n - Sy.at' Sy.lf (Sy.lk n) < 2 ^ Sy.at' Sy.lb (Sy.lk n) := by
 obtain ⟨h3,h4,h5⟩ := Sy.lk_has n h1
 generalize Sy.lk n = k at h3 h4 h5 ⊢
 rcases Nat.lt_or_ge k 27 with h6 | h6
 ·have := Sy.lf_next k h6
  have := h5 (by omega)
  omega
 ·rcases Nat.lt_or_ge k 28 with h7 | h7
  ·obtain rfl : k = 27 := by omega
   have := h5 h7
   have e1 : Sy.at' Sy.lf 27 = 227 := by decide
   have e2 : Sy.at' Sy.lb 27 = 5 := by decide
   have e3 : Sy.at' Sy.lf (27 + 1) = 258 := by decide
   rw [e1,e2]; omega
  ·obtain rfl : k = 28 := by omega
   have e1 : Sy.at' Sy.lf 28 = 258 := by decide
   have e2 : Sy.at' Sy.lb 28 = 0 := by decide
   rw [e1,e2]; omega
theorem dsym_lt (n : Nat) (h : 1 <= n) (h2 : n <= 32768) : n - Sy.at' Sy.df (Sy.dk n) < 2 ^ Sy.at' Sy.db (Sy.dk n) := by
 obtain ⟨h3,h4,h5⟩ := Sy.dk_has n h
 generalize Sy.dk n = k at h3 h4 h5 ⊢
 rcases Nat.lt_or_ge k 29 with h6 | h6
 ·have := Sy.df_next k h6
  have := h5 h6
  omega
 ·obtain rfl : k = 29 := by omega
  have e1 : Sy.at' Sy.df 29 = 24577 := by decide
  have e2 : Sy.at' Sy.db 29 = 13 := by decide
  rw [e1,e2]; omega
theorem ln_mem {ls : List Nat} {x : Nat} (h : Hf.ln ls x ≠ 0) : ¬ ∀ y ∈ ls,y = 0 := by
 intro h0
 rcases Nat.lt_or_ge x ls.length with hx | hx
 ·apply h
  unfold Hf.ln
  rw [List.getElem?_eq_getElem hx]
  exact h0 _ (List.getElem_mem hx)
 ·apply h
  unfold Hf.ln
  rw [List.getElem?_eq_none hx]
  rfl
theorem copy_told {dist : List Nat} {l : List Bool} {p most n far : Nat} {out : List Nat} (hf : Fit (Hd.zz dist)) (h1 : 3 <= n) (h2 : n <= 258) (h3 : 1 <= far) (h4 : far <= 32768) (h5 : far <= out.length) (h6 : out.length + n <= most) (hd : Hf.ln dist (Sy.dk far) ≠ 0)
  (h : Sg l p (Bs.bitsOf (n - Sy.at' Sy.lf (Sy.lk n)) (Sy.at' Sy.lb (Sy.lk n)) ++ (cw dist (Sy.dk far) ++ Bs.bitsOf (far - Sy.at' Sy.df (Sy.dk far)) (Sy.at' Sy.db (Sy.dk far))))) :
  copy l dist most (257 + Sy.lk n) p out = (cp far n out,p + Sy.at' Sy.lb (Sy.lk n) + Hf.ln dist (Sy.dk far) + Sy.at' Sy.db (Sy.dk far),0) := by
 have g1 := Sy.lk_has n h1
 have g2 := Sy.dk_has far h3
 have a1 := h.left
 have a2 := h.right
 rw [Bs.bitsOf_length] at a2
 have a3 := a2.left
 have a4 := a2.right
 rw [cw_len] at a4
 have e1 := a1.bits (lsym_lt n h1 h2)
 have e2 := a4.bits (dsym_lt far h3 h4)
 have r1 := a1.room
 have r2 := a4.room
 have e3 := a3.rd hf hd
 unfold copy
 rw [show 257 + Sy.lk n - 257 = Sy.lk n by omega,e3]
 simp only
 rw [if_neg (by omega),if_neg (by omega),if_neg (ln_mem hd),if_neg (by simp),if_neg (by omega),if_neg (by omega),e1,e2,if_neg (by omega),if_neg (by omega)]
 rw [show Sy.at' Sy.df (Sy.dk far) + (far - Sy.at' Sy.df (Sy.dk far)) = far by omega,show Sy.at' Sy.lf (Sy.lk n) + (n - Sy.at' Sy.lf (Sy.lk n)) = n by omega]
def TV (most : Nat) : List Tk -> Nat -> Prop
 | [],_ => True
 | t :: ts,n => Val t n /\ n + sz t <= most /\ TV most ts (n + sz t)
theorem syms_is {lit dist : List Nat} {l : List Bool} {most : Nat} (hf : Fit (Hd.zz lit)) (hd : (∃ t : Tk,t.len ≠ 0) -> Fit (Hd.zz dist) ∨ ∀ x,Hf.ln dist x = 0) (he : Hf.ln lit 256 ≠ 0) :
  ∀ (ts : List Tk) (k : Nat) (out : List Nat) (p : Nat),(∀ t ∈ ts,Has1 lit dist t) -> TV most ts out.length -> ts.length < k -> Sg l p (toksRow lit dist ts ++ cw lit 256) ->
  syms l lit dist most k out p = (ts.foldl tell1 out,p + (toksRow lit dist ts).length + Hf.ln lit 256,0)
 | [],0,_,_,_,_,h,_ => by simp at h
 | [],k + 1,out,p,_,_,_,h => by
  have e := h.rd hf he
  simp only [syms]
  rw [e]
  simp only
  rw [if_neg (by simp),if_pos trivial]
  rfl
 | t :: ts,0,_,_,_,_,h,_ => by simp at h
 | t :: ts,k + 1,out,p,h1,h2,h3,h => by
  obtain ⟨v1,v2,v3⟩ := h2
  rw [toksRow_cons,List.append_assoc] at h
  have b1 := h.left
  have b2 := h.right
  have u1 := h1 t (List.mem_cons_self ..)
  have ih := syms_is hf hd he ts k (tell1 out t) (p + (tokRow lit dist t).length) (fun x hx => h1 x (List.mem_cons_of_mem _ hx)) (by rw [tell1_length]; exact v3) (by simpa using h3) b2
  rw [List.foldl_cons,toksRow_cons,List.length_append]
  rw [show p + ((tokRow lit dist t).length + (toksRow lit dist ts).length) + Hf.ln lit 256 = p + (tokRow lit dist t).length + (toksRow lit dist ts).length + Hf.ln lit 256 by omega,<- ih]
  unfold Has1 at u1
  unfold tokRow at b1 ⊢
  unfold tell1
  by_cases h0 : t.len = 0
  ·rw [if_pos h0] at u1 b1 ⊢
   rw [if_pos h0]
   have e := b1.rd hf u1
   have hb : t.lit < 256 := by
    rcases v1.1 with hb | hc
    ·exact hb.2.2
    ·have := hc.2.1; omega
   have hs : sz t = 1 := by unfold sz; rw [if_pos h0]
   simp only [syms]
   rw [e]
   simp only
   rw [if_neg (by simp),if_neg (by omega),if_neg (by omega),if_neg (by omega),cw_len]
  ·rw [if_neg h0] at u1 b1 ⊢
   rw [if_neg h0]
   have hc : Cop t := by
    rcases v1.1 with hb | hc
    ·exact absurd hb.1 h0
    ·exact hc
   obtain ⟨_,c1,c2,c3,c4⟩ := hc
   have hs : sz t = t.len := by unfold sz; rw [if_neg h0]
   have fd : Fit (Hd.zz dist) := by
    rcases hd ⟨t,h0⟩ with h | h
    ·exact h
    ·exact absurd (h _) u1.2
   have b0 := b1
   rw [List.append_assoc] at b1
   have e := b1.left.rd hf u1.1
   have b3 := b1.right
   rw [cw_len] at b3
   have ec := copy_told (most := most) fd c1 c2 c3 c4 v1.2 (by omega) u1.2 b3
   simp only [syms]
   rw [e]
   simp only
   rw [if_neg (by simp),if_neg (by omega),if_pos (by omega),ec]
   simp only
   rw [if_neg (by simp)]
   congr 1
   simp only [List.length_append,cw_len,Bs.bitsOf_length]
   omega
end If
end
end Go.Proofs.YtmgpcbjciioiaaaGreatDoor
namespace Go.Proofs.YtmgpcbjciioiaaaGreatDoor.Ls
set_option maxRecDepth 100000
set_option maxHeartbeats 8000000
section
namespace Lm
inductive Tr where
 | leaf (w s : Nat)
 | node (a b : Tr)
def Tr.wt : Tr -> Nat
 | .leaf w _ => w
 | .node a b => a.wt + b.wt
def Tr.cnt (s : Nat) : Tr -> Nat
 | .leaf _ y => if y = s then 1 else 0
 | .node a b => a.cnt s + b.cnt s
def usd (fs : List Nat) : Nat -> List (Nat × Nat)
 | 0 => []
 | k + 1 => usd fs k ++ (if fs[k]?.getD 0 = 0 then [] else [(fs[k]?.getD 0,k)])
theorem usd_mem (fs : List Nat) (k : Nat) (p : Nat × Nat) : p ∈ usd fs k ↔ p.2 < k /\ p.1 = fs[p.2]?.getD 0 /\ p.1 ≠ 0 := by
 induction k with
 | zero => simp [usd]
 | succ k ih =>
  simp only [usd,List.mem_append,ih]
  by_cases h : fs[k]?.getD 0 = 0
  ·rw [if_pos h]
   constructor
   ·rintro (⟨h1,h2,h3⟩ | h4)
    ·exact ⟨by omega,h2,h3⟩
    ·cases h4
   ·rintro ⟨h1,h2,h3⟩
    by_cases e : p.2 = k
    ·rw [e,h] at h2; exact (h3 h2).elim
    ·exact .inl ⟨by omega,h2,h3⟩
  ·rw [if_neg h]
   constructor
   ·rintro (⟨h1,h2,h3⟩ | h4)
    ·exact ⟨by omega,h2,h3⟩
    ·rw [List.mem_singleton] at h4; subst h4; exact ⟨by simp,rfl,h⟩
   ·rintro ⟨h1,h2,h3⟩
    by_cases e : p.2 = k
    ·refine .inr ?_; rw [List.mem_singleton]; rw [e] at h2; exact Prod.ext h2 e
    ·exact .inl ⟨by omega,h2,h3⟩
theorem usd_rise (fs : List Nat) (k : Nat) : (usd fs k).Pairwise fun p q => p.2 < q.2 := by
 induction k with
 | zero => exact List.Pairwise.nil
 | succ k ih =>
  simp only [usd]
  refine List.pairwise_append.2 ⟨ih,?_,fun p hp q hq => ?_⟩
  ·split
   ·exact List.Pairwise.nil
   ·exact List.pairwise_singleton _ _
  ·have h1 := ((usd_mem fs k p).1 hp).1
   split at hq
   ·cases hq
   ·rw [List.mem_singleton] at hq; subst hq; exact h1
theorem usd_length (fs : List Nat) (k : Nat) : (usd fs k).length <= k := by
 induction k with
 | zero => simp [usd]
 | succ k ih => simp only [usd,List.length_append]; split <;> simp <;> omega
def srt (fs : List Nat) : List (Nat × Nat) := isrt Prod.fst (usd fs fs.length)
def Tr.of (p : Nat × Nat) : Tr := .leaf p.1 p.2
def sgl (fs : List Nat) : List Tr := (srt fs).map Tr.of
def lgt (ts : List Tr) (M : Nat) : List Tr := if ts.length < 2 then ts else (lvl Tr.wt .node ts (M - 1)).take (2 * ts.length - 2)
def len (fs : List Nat) (M s : Nat) : Nat := sm (Tr.cnt s) (lgt (sgl fs) M)
theorem srt_perm (fs : List Nat) : (srt fs).Perm (usd fs fs.length) := isrt_perm _ _
theorem srt_up (fs : List Nat) : Up Prod.fst (srt fs) := isrt_up _ _
theorem srt_apart (fs : List Nat) : (srt fs).Pairwise fun p q => p.2 ≠ q.2 :=
 ((srt_perm fs).symm.pairwise_iff fun h => Ne.symm h).1 ((usd_rise fs fs.length).imp fun h => Nat.ne_of_lt h)
theorem sgl_up (fs : List Nat) : Up Tr.wt (sgl fs) := by
 unfold sgl Up
 rw [List.pairwise_map]
 exact srt_up fs
theorem sgl_length (fs : List Nat) : (sgl fs).length = (srt fs).length := by simp [sgl]
theorem srt_length (fs : List Nat) : (srt fs).length = (usd fs fs.length).length := (srt_perm fs).length_eq
theorem cnt_take (Q : List (Nat × Nat)) : ∀ (_ : Q.Pairwise fun p q => p.2 ≠ q.2) (r t : Nat) (p : Nat × Nat),Q[r]? = some p -> sm (Tr.cnt p.2) ((Q.map Tr.of).take t) = if r < t then 1 else 0 := by
 induction Q with
 | nil => intro _ r t p h; simp at h
 | cons q Q ih =>
  intro ha r t p h
  have h1 := List.pairwise_cons.1 ha
  cases t with
  | zero => simp [sm]
  | succ t =>
   rw [List.map_cons,List.take_succ_cons,sm_cons]
   cases r with
   | zero =>
    simp at h; subst h
    have : sm (Tr.cnt q.2) ((Q.map Tr.of).take t) = 0 := by
     rw [<- List.map_take,sm_map]
     have : sm (fun x => Tr.cnt q.2 (Tr.of x)) (Q.take t) = sm (fun _ => 0) (Q.take t) := sm_congr fun x hx => by
      have hne := h1.1 x (List.mem_of_mem_take hx)
      simp only [Tr.of,Tr.cnt]
      rw [if_neg fun e => hne e.symm]
     rw [this]
     have := sm_mul (fun _ : Nat × Nat => 0) 0 (Q.take t)
     simpa using this
    rw [this]
    simp [Tr.of,Tr.cnt]
   | succ r =>
    rw [List.getElem?_cons_succ] at h
    rw [ih h1.2 r t p h]
    have hne := h1.1 p (List.mem_of_getElem? h)
    simp only [Tr.of,Tr.cnt]
    rw [if_neg hne]
    by_cases e : r < t
    ·rw [if_pos e,if_pos (by omega)]
    ·rw [if_neg e,if_neg (by omega)]
def cr (l : List Nat) (r : Nat) : Nat := sm (fun t => if r < t then 1 else 0) l
theorem cr_cons (s : Nat) (l : List Nat) (r : Nat) : cr (s :: l) r = (if r < s then 1 else 0) + cr l r := sm_cons _ _ _
theorem cr_le (r : Nat) : ∀ l : List Nat,cr l r <= l.length
 | [] => Nat.le_refl _
 | s :: l => by have := cr_le r l; rw [cr_cons,List.length_cons]; split <;> omega
theorem cr_anti {r q : Nat} (h : r <= q) : ∀ l : List Nat,cr l q <= cr l r
 | [] => Nat.le_refl _
 | s :: l => by have := cr_anti h l; rw [cr_cons,cr_cons]; split <;> split <;> omega
theorem cr_zero (r : Nat) : ∀ l : List Nat,(∀ s ∈ l,s <= r) -> cr l r = 0
 | [],_ => rfl
 | s :: l,h => by rw [cr_cons,if_neg (by have := h s (by simp); omega),cr_zero r l fun x hx => h x (by simp [hx])]
def wr (r : Nat) : List Nat -> Nat
 | [] => 0
 | s :: l => (if r < s then 2 ^ l.length else 0) + wr r l
theorem wr_zero (r : Nat) : ∀ l : List Nat,(∀ s ∈ l,s <= r) -> wr r l = 0
 | [],_ => rfl
 | s :: l,h => by rw [wr,if_neg (by have := h s (by simp); omega),wr_zero r l fun x hx => h x (by simp [hx])]
theorem wr_cr (r : Nat) : ∀ l : List Nat,l.Pairwise (fun x y => y <= x) -> wr r l + 2 ^ (l.length - cr l r) = 2 ^ l.length
 | [],_ => rfl
 | s :: l,h => by
  have h1 := List.pairwise_cons.1 h
  by_cases hs : r < s
  ·have ih := wr_cr r l h1.2
   have := cr_le r l
   rw [wr,cr_cons,if_pos hs,if_pos hs,List.length_cons,show l.length + 1 - (1 + cr l r) = l.length - cr l r by omega,Nat.pow_succ]
   omega
  ·have hz : ∀ x ∈ l,x <= r := fun x hx => by have := h1.1 x hx; omega
   rw [wr,cr_cons,if_neg hs,if_neg hs,wr_zero r l hz,cr_zero r l hz]; simp
theorem wr_sum (n : Nat) : ∀ l : List Nat,(∀ s ∈ l,s <= n) -> sumTo (fun r => wr r l) n = wsum l
 | [],_ => by simp [wr,wsum,sumTo_const]
 | s :: l,h => by
  have ih := wr_sum n l fun x hx => h x (by simp [hx])
  have hs := h s (by simp)
  simp only [wr,wsum]
  rw [sumTo_add,ih]
  congr 1
  have : ∀ t,sumTo (fun r => if r < s then 2 ^ l.length else 0) t = min t s * 2 ^ l.length := by
   intro t
   induction t with
   | zero => simp [sumTo]
   | succ t ih =>
    simp only [sumTo,ih]
    by_cases e : t < s
    ·rw [if_pos e,Nat.min_eq_left (by omega),Nat.min_eq_left (by omega),Nat.succ_mul]
    ·rw [if_neg e,Nat.min_eq_right (by omega),Nat.min_eq_right (by omega),Nat.add_zero]
  rw [this,Nat.min_eq_right hs]
theorem sm_index {α : Type} (c : α -> Nat) (g : Nat -> Nat) (Q : List α) (h : ∀ r p,Q[r]? = some p -> c p = g r) : ∀ t,t <= Q.length -> sm c (Q.take t) = sumTo g t := by
 intro t
 induction t with
 | zero => intro _; simp [sm,sumTo]
 | succ t ih =>
  intro ht
  rw [List.take_add_one,sm_append,ih (by omega),sumTo,List.getElem?_eq_getElem (by omega)]
  simp only [Option.toList,sm_cons,sm_nil]
  rw [h t _ (List.getElem?_eq_getElem (by omega))]; rfl
theorem sm_whole {α : Type} (c : α -> Nat) (g : Nat -> Nat) (Q : List α) (h : ∀ r p,Q[r]? = some p -> c p = g r) : sm c Q = sumTo g Q.length := by
 have := sm_index c g Q h Q.length (Nat.le_refl _)
 rwa [List.take_length] at this
section Two
variable (fs : List Nat) (M : Nat)
def buy : List Nat := sel Tr.wt .node (sgl fs) (M - 1) (2 * (sgl fs).length - 2)
variable (hM : 1 <= M) (hn : 2 <= (srt fs).length) (hf : (srt fs).length <= 2 ^ M)
include hM hn hf
theorem enough : 2 * (sgl fs).length - 2 <= (lvl Tr.wt .node (sgl fs) (M - 1)).length :=
 lvl_enough _ _ _ (by rw [sgl_length]; exact hn) _ (by rw [sgl_length,show M - 1 + 1 = M by omega]; exact hf)
omit hn hf in
theorem buy_length : (buy fs M).length = M := by unfold buy; rw [sel_length]; omega
theorem buy_down : (buy fs M).Pairwise (fun x y => y <= x) := sel_down _ _ (fun _ _ => rfl) _ (sgl_up fs) _ _ (enough fs M hM hn hf)
theorem buy_head : ∃ l,buy fs M = (srt fs).length :: l := by
 obtain ⟨l,h⟩ := sel_top Tr.wt .node (fun _ _ => rfl) (sgl fs) (sgl_up fs) (by rw [sgl_length]; exact hn) (M - 1) (enough fs M hM hn hf)
 exact ⟨l,by unfold buy; rw [h,sgl_length]⟩
theorem buy_le : ∀ s ∈ buy fs M,s <= (srt fs).length := by
 obtain ⟨l,h⟩ := buy_head fs M hM hn hf
 have hd := buy_down fs M hM hn hf
 rw [h] at hd ⊢
 intro s hs
 rcases List.mem_cons.1 hs with rfl | hs
 ·exact Nat.le_refl _
 ·exact (List.pairwise_cons.1 hd).1 s hs
theorem lgt_sum (c : Tr -> Nat) (hc : ∀ x y,c (.node x y) = c x + c y) : sm c (lgt (sgl fs) M) = sm (fun s => sm c ((sgl fs).take s)) (buy fs M) := by
 unfold lgt
 rw [if_neg (by rw [sgl_length]; omega)]
 exact sel_sum _ _ _ c hc _ _ (enough fs M hM hn hf)
theorem len_cr (r : Nat) (p : Nat × Nat) (h : (srt fs)[r]? = some p) : len fs M p.2 = cr (buy fs M) r := by
 unfold len
 rw [lgt_sum fs M hM hn hf (Tr.cnt p.2) fun _ _ => rfl]
 unfold cr
 refine sm_congr fun t _ => ?_
 exact cnt_take (srt fs) (srt_apart fs) r t p h
theorem len_two (p : Nat × Nat) (h : p ∈ srt fs) : 1 <= len fs M p.2 /\ len fs M p.2 <= M := by
 obtain ⟨r,hr⟩ := List.getElem?_of_mem h
 rw [len_cr fs M hM hn hf r p hr]
 have h1 := cr_le r (buy fs M)
 rw [buy_length fs M hM] at h1
 refine ⟨?_,h1⟩
 obtain ⟨l,e⟩ := buy_head fs M hM hn hf
 have hrl := (List.getElem?_eq_some_iff.1 hr).1
 rw [e,cr_cons,if_pos hrl]; omega
theorem kraft : sm (fun p => 2 ^ (M - len fs M p.2)) (srt fs) = 2 ^ M := by
 have h1 := sm_whole (fun p => 2 ^ (M - len fs M p.2)) (fun r => 2 ^ (M - cr (buy fs M) r)) (srt fs) (fun r p h => by rw [len_cr fs M hM hn hf r p h])
 have h2 : sumTo (fun r => wr r (buy fs M) + 2 ^ (M - cr (buy fs M) r)) (srt fs).length = (srt fs).length * 2 ^ M := by
  rw [<- sumTo_const]
  refine sumTo_congr fun r _ => ?_
  have := wr_cr r (buy fs M) (buy_down fs M hM hn hf)
  rwa [buy_length fs M hM] at this
 rw [sumTo_add,wr_sum _ _ (buy_le fs M hM hn hf)] at h2
 have h3 : wsum (buy fs M) = (2 * (srt fs).length - 2) * 2 ^ (M - 1) := by unfold buy; rw [sel_wsum,sgl_length]
 rw [h3] at h2
 rw [h1]
 have e : 2 ^ M = 2 * 2 ^ (M - 1) := by rw [Nat.mul_comm,<- Nat.pow_succ]; congr 1; omega
 have e2 : (2 * (srt fs).length - 2) * 2 ^ (M - 1) = (srt fs).length * 2 ^ M - 2 ^ M := by
  rw [Nat.sub_mul,Nat.mul_comm 2,Nat.mul_assoc,<- e]
 have e3 : 2 ^ M <= (srt fs).length * 2 ^ M := Nat.le_mul_of_pos_left _ (by omega)
 omega
theorem order (p q : Nat × Nat) (hp : p ∈ srt fs) (hq : q ∈ srt fs) (h : q.1 < p.1) : len fs M p.2 <= len fs M q.2 := by
 obtain ⟨r,hr⟩ := List.getElem?_of_mem hp
 obtain ⟨s,hs⟩ := List.getElem?_of_mem hq
 rw [len_cr fs M hM hn hf r p hr,len_cr fs M hM hn hf s q hs]
 refine cr_anti ?_ _
 refine Nat.le_of_not_lt fun hlt => ?_
 obtain ⟨g1,rfl⟩ := List.getElem?_eq_some_iff.1 hr
 obtain ⟨g2,rfl⟩ := List.getElem?_eq_some_iff.1 hs
 have := List.pairwise_iff_getElem.1 (srt_up fs) r s g1 g2 hlt
 omega
end Two
end Lm
end
section
open Go.RowKit Go.Shelf
attribute [local go_sem] Oper.semAt_some
end
section
open Go.RowKit Go.Shelf
attribute [local go_sem] Oper.semAt_some
end
section
open Go.RowKit
instance (zs : List Int) : Decidable (Valid zs) := by unfold Valid; infer_instance
end
end Go.Proofs.YtmgpcbjciioiaaaGreatDoor.Ls
namespace Go.Proofs.YtmgpcbjciioiaaaGreatDoor
set_option maxRecDepth 100000
set_option maxHeartbeats 8000000
section
namespace If
open Hd (num rd head)
def clRow (C : List Nat) : Nat -> List Bool
 | 0 => []
 | k + 1 => clRow C k ++ Bs.bitsOf (Hf.ln C (Hd.ord k)) 3
theorem clRow_length (C : List Nat) (k : Nat) : (clRow C k).length = 3 * k := by
 induction k with
 | zero => rfl
 | succ k ih => simp only [clRow]; rw [List.length_append,ih,Bs.bitsOf_length]; omega
theorem clRow_at {C : List Nat} {l : List Bool} {p : Nat} (h8 : ∀ i,Hf.ln C i < 8) : ∀ (c : Nat),Sg l p (clRow C c) -> ∀ k,k < c -> num l (p + 3 * k) 3 = Hf.ln C (Hd.ord k)
 | 0,_,k,h => by omega
 | c + 1,h,k,hk => by
  have h1 := h.left
  have h2 := h.right
  rw [clRow_length] at h2
  rcases Nat.lt_or_ge k c with h3 | h3
  ·exact clRow_at h8 c h1 k h3
  ·obtain rfl : k = c := by omega
   exact h2.bits (h8 _)
def iord (i : Nat) : Nat := [3,17,15,13,11,9,7,5,4,6,8,10,12,14,16,18,0,1,2][i]?.getD 0
theorem ord_iord : ∀ i,i < 19 -> Hd.ord (iord i) = i /\ iord i < 19 := by decide
theorem iord_ord : ∀ k,k < 19 -> iord (Hd.ord k) = k := by decide
theorem cl_get {C : List Nat} {l : List Bool} {p c : Nat} (h : ∀ k,k < c -> num l (p + 3 * k) 3 = Hf.ln C (Hd.ord k)) (hc : c <= 19) : ∀ k,k <= c -> ∀ i,i < 19 -> (Hd.cl l p k)[i]?.getD 0 = if iord i < k then Hf.ln C i else 0
 | 0,_,i,hi => by
  simp only [Hd.cl]
  rw [if_neg (by omega),List.getElem?_replicate,if_pos hi]
  rfl
 | k + 1,hk,i,hi => by
  have ih := cl_get h hc k (by omega) i hi
  simp only [Hd.cl]
  have o1 := Hd.ord_lt k
  by_cases e : Hd.ord k = i
  ·subst e
   rw [List.getElem?_set_self (by rw [Hd.cl_length]; exact o1),Option.getD_some,h k (by omega),iord_ord k (by omega),if_pos (by omega)]
  ·rw [List.getElem?_set_ne e,ih]
   have : iord i ≠ k := by
    intro e2
    apply e
    rw [<- e2]
    exact (ord_iord i hi).1
   by_cases h3 : iord i < k
   ·rw [if_pos h3,if_pos (by omega)]
   ·rw [if_neg h3,if_neg (by omega)]
theorem cl_is {C : List Nat} {l : List Bool} {p c : Nat} (h8 : ∀ i,Hf.ln C i < 8) (hC : C.length = 19) (hc : c <= 19) (hz : ∀ k,c <= k -> k < 19 -> Hf.ln C (Hd.ord k) = 0) (h : Sg l p (clRow C c)) : Hd.cl l p c = C := by
 have hg := cl_get (clRow_at h8 c h) hc c (Nat.le_refl _)
 apply List.ext_getElem?
 intro i
 by_cases hi : i < 19
 ·have := hg i hi
  have e : Hf.ln C i = (Hd.cl l p c)[i]?.getD 0 := by
   rw [this]
   by_cases h3 : iord i < c
   ·rw [if_pos h3]
   ·rw [if_neg h3]
    have := hz (iord i) (by omega) (ord_iord i hi).2
    rwa [(ord_iord i hi).1] at this
  unfold Hf.ln at e
  have a1 : i < (Hd.cl l p c).length := by rw [Hd.cl_length]; exact hi
  have a2 : i < C.length := by omega
  rw [List.getElem?_eq_getElem a1,List.getElem?_eq_getElem a2] at e ⊢
  simp only [Option.getD_some] at e
  rw [e]
 ·rw [List.getElem?_eq_none (by rw [Hd.cl_length]; omega),List.getElem?_eq_none (by omega)]
def opRow (C : List Nat) (o : Nat × Nat) : List Bool := cw C o.1 ++ Bs.bitsOf o.2 (Hd.ex o.1)
def opsRow (C : List Nat) (ops : List (Nat × Nat)) : List Bool := (ops.map (opRow C)).flatten
theorem opsRow_cons (C : List Nat) (o : Nat × Nat) (ops : List (Nat × Nat)) : opsRow C (o :: ops) = opRow C o ++ opsRow C ops := rfl
theorem opsRow_append (C : List Nat) (a b : List (Nat × Nat)) : opsRow C (a ++ b) = opsRow C a ++ opsRow C b := by simp [opsRow]
def told1 (acc : List Nat) (o : Nat × Nat) : List Nat := acc ++ List.replicate (Hd.least o.1 + o.2) (Hd.val acc o.1)
def told (acc : List Nat) (ops : List (Nat × Nat)) : List Nat := ops.foldl told1 acc
theorem told1_length (acc : List Nat) (o : Nat × Nat) : (told1 acc o).length = acc.length + (Hd.least o.1 + o.2) := by simp [told1]
theorem told_grows : ∀ (ops : List (Nat × Nat)) (acc : List Nat),acc.length + ops.length <= (told acc ops).length
 | [],acc => by simp [told]
 | o :: ops,acc => by
  have := told_grows ops (told1 acc o)
  rw [told1_length] at this
  have h := Hd.least_le o.1
  simp only [told,List.foldl_cons,List.length_cons] at this ⊢
  omega
def OV (C : List Nat) : List (Nat × Nat) -> List Nat -> Prop
 | [],_ => True
 | o :: ops,acc => Hf.ln C o.1 ≠ 0 /\ o.2 < 2 ^ Hd.ex o.1 /\ (o.1 = 16 -> acc.length ≠ 0) /\ OV C ops (told1 acc o)
theorem runs_is {C : List Nat} {l : List Bool} (hf : Fit (Hd.zz C)) (n : Nat) : ∀ (ops : List (Nat × Nat)) (k : Nat) (acc : List Nat) (p : Nat),OV C ops acc -> (told acc ops).length = n -> ops.length <= k -> Sg l p (opsRow C ops) ->
  Hd.runs C l n k acc p = (told acc ops,p + (opsRow C ops).length,0)
 | [],k,acc,p,_,h,_,_ => Hd.runs_done _ _ _ _ _ _ (by rw [<- h]; exact Nat.le_refl _)
 | o :: ops,0,_,_,_,_,h,_ => by simp at h
 | o :: ops,k + 1,acc,p,h1,h2,h3,h => by
  obtain ⟨v1,v2,v3,v4⟩ := h1
  rw [opsRow_cons] at h
  have b1 := h.left
  have b2 := h.right
  have e := b1.left.rd hf v1
  have b3 := b1.right
  rw [cw_len] at b3
  have e3 := b3.bits v2
  have r3 := b3.room
  have hn : (told (told1 acc o) ops).length = n := h2
  have hlen : (opRow C o).length = Hf.ln C o.1 + Hd.ex o.1 := by unfold opRow; rw [List.length_append,cw_len,Bs.bitsOf_length]
  have hg := told_grows ops (told1 acc o)
  rw [told1_length] at hg
  have hl := Hd.least_le o.1
  have ht : Hd.take acc o.1 o.2 n = (told1 acc o,0) := by
   unfold Hd.take told1
   rw [if_neg (fun h => v3 h.1 h.2),if_neg (by omega)]
  rw [Hd.runs_take C l n (k + 1) acc p (p + Hf.ln C o.1) o.1 o.2 (told1 acc o) 0 (by omega) (by omega) e (by omega) e3.symm ht,if_neg (by simp)]
  have ih := runs_is hf n ops k (told1 acc o) (p + (opRow C o).length) v4 hn (by simpa using h3) b2
  rw [Nat.add_sub_cancel,show p + Hf.ln C o.1 + Hd.ex o.1 = p + (opRow C o).length by omega,ih,opsRow_cons,List.length_append,Nat.add_assoc]
  rfl
theorem fit_of_newE {zs : List Int} (h : newE zs = 0) : Fit zs := by
 unfold newE at h
 by_cases hc : chk zs = 12 /\ Lone (nat zs)
 ·exact Or.inr hc.1
 ·rw [if_neg hc] at h
  exact Or.inl h
def headRow (L D C : List Nat) (c : Nat) (ops : List (Nat × Nat)) : List Bool :=
 Bs.bitsOf (L.length - 257) 5 ++ (Bs.bitsOf (D.length - 1) 5 ++ (Bs.bitsOf (c - 4) 4 ++ (clRow C c ++ opsRow C ops)))
theorem headRow_length (L D C : List Nat) (c : Nat) (ops : List (Nat × Nat)) : (headRow L D C c ops).length = 14 + 3 * c + (opsRow C ops).length := by
 unfold headRow
 simp only [List.length_append,Bs.bitsOf_length,clRow_length]
 omega
structure HV (L D C : List Nat) (c : Nat) (ops : List (Nat × Nat)) : Prop where
 l1 : 257 <= L.length
 l2 : L.length <= 286
 d1 : 1 <= D.length
 d2 : D.length <= 30
 c1 : 4 <= c
 c2 : c <= 19
 c8 : ∀ i,Hf.ln C i < 8
 cl : C.length = 19
 cz : ∀ k,c <= k -> k < 19 -> Hf.ln C (Hd.ord k) = 0
 ce : newE (Hd.zz C) = 0
 ov : OV C ops []
 tl : told [] ops = L ++ D
theorem head_is {L D C : List Nat} {c : Nat} {ops : List (Nat × Nat)} (hv : HV L D C c ops) {l : List Bool} {p : Nat} (h : Sg l p (headRow L D C c ops)) :
  head l p = (L,D,p + (headRow L D C c ops).length,0) := by
 have r0 := h.le
 rw [headRow_length] at r0
 rw [headRow_length]
 unfold headRow at h
 have n1 := h.left.bits (by have := hv.l2; omega)
 have a1 := h.right
 rw [Bs.bitsOf_length] at a1
 have n2 := a1.left.bits (by have := hv.d2; omega)
 have a2 := a1.right
 rw [Bs.bitsOf_length] at a2
 have n3 := a2.left.bits (by have := hv.c2; omega)
 have a3 := a2.right
 rw [Bs.bitsOf_length] at a3
 have n4 := cl_is hv.c8 hv.cl hv.c2 hv.cz a3.left
 have a4 := a3.right
 rw [clRow_length] at a4
 obtain ⟨l1,l2,d1,d2,c1,c2,c8,cl,cz,ce,ov,tl⟩ := hv
 have hlen : (told [] ops).length = L.length + D.length := by rw [tl,List.length_append]
 have hops := told_grows ops []
 simp only [List.length_nil] at hops
 have e := runs_is (fit_of_newE ce) (L.length + D.length) ops 400 [] (p + 5 + 5 + 4 + 3 * c) ov hlen (by omega) a4
 have q1 : L.length = num l p 5 + 257 := by omega
 have q2 : D.length = num l (p + 5) 5 + 1 := by omega
 have q3 : c = num l (p + 10) 4 + 4 := by rw [show p + 10 = p + 5 + 5 by omega]; omega
 have q4 : C = Hd.cl l (p + 14) c := by rw [show p + 14 = p + 5 + 5 + 4 by omega]; exact n4.symm
 rw [Hd.head_run (l := l) (p := p) (a := L.length) (b := D.length) (c := c) (ls := C) (by omega) q1 q2 q3 q4 (by omega) (by omega) ce]
 rw [show p + 14 + 3 * c = p + 5 + 5 + 4 + 3 * c by omega,e]
 simp only
 rw [if_neg (by simp),tl,List.take_left,List.drop_left]
 congr 3
 omega
theorem bb_pack_pad (l : List Bool) : ∃ z,bb (Bs.pack l) = l ++ z := by
 refine ⟨(bb (Bs.pack l)).drop l.length,?_⟩
 have h : (bb (Bs.pack l)).take l.length = l := by
  apply List.ext_getElem?
  intro i
  by_cases hi : i < l.length
  ·rw [List.getElem?_take_of_lt hi]
   have e : (Bs.bitsFrom (Bs.pack l) l.length)[i]? = l[i]? := by rw [Bs.bitsFrom_pack]
   rw [<- e]
   unfold bb Bs.bitsFrom
   rw [List.getElem?_map,List.getElem?_map,List.getElem?_range hi,List.getElem?_range (by rw [Bs.pack_length]; omega)]
  ·rw [List.getElem?_eq_none (by rw [List.length_take]; omega),List.getElem?_eq_none (by omega)]
 exact (h ▸ List.take_append_drop l.length (bb (Bs.pack l))).symm
theorem one_block {l : List Bool} {most : Int} {out : List Nat} {q : Nat} (h0 : 0 <= most) (h1 : most <= 65536) (hb : block l most.toNat 0 [] = (out,q,0)) (hl : num l 0 1 = 1) : decode l most = (out,(q + 7) / 8,0) := by
 have e : blocks l most.toNat (l.length + 1) [] 0 = (out,q,0) := by
  simp only [blocks]
  rw [hb]
  simp only
  rw [if_neg (by simp),if_pos hl]
 unfold decode
 rw [if_neg (by omega),e,if_neg (by simp)]
def begRow (kind : Nat) : List Bool := Bs.bitsOf 1 1 ++ Bs.bitsOf kind 2
theorem begRow_length (kind : Nat) : (begRow kind).length = 3 := by simp [begRow,Bs.bitsOf_length]
theorem beg_is {l : List Bool} {kind : Nat} {r : List Bool} (hk : kind < 4) (h : Sg l 0 (begRow kind ++ r)) : num l 0 1 = 1 /\ num l 1 2 = kind /\ Sg l 3 r /\ 3 <= l.length := by
 have a := h.left
 unfold begRow at a
 have b := h.right
 rw [begRow_length] at b
 have c := a.right
 rw [Bs.bitsOf_length] at c
 have d := c.room
 exact ⟨a.left.bits (by decide),c.bits (by omega),by simpa using b,by omega⟩
def dynRow (L D C : List Nat) (c : Nat) (ops : List (Nat × Nat)) (ts : List Tk) : List Bool := begRow 2 ++ (headRow L D C c ops ++ (toksRow L D ts ++ cw L 256))
theorem dyn_decode {L D C : List Nat} {c : Nat} {ops : List (Nat × Nat)} (hv : HV L D C c ops) {ts : List Tk} (most : Int) (h0 : 0 <= most) (h1 : most <= 65536) (hL : newE (Hd.zz L) = 0) (hD : newE (Hd.zz D) = 0 ∨ ∀ x ∈ D,x = 0) (he : Hf.ln L 256 ≠ 0)
  (ht : ∀ t ∈ ts,Has1 L D t) (htv : TV most.toNat ts 0) (hts : ts.length <= (toksRow L D ts).length) :
  decode (bb (Bs.pack (dynRow L D C c ops ts))) most = (tell ts,(Bs.pack (dynRow L D C c ops ts)).length,0) := by
 obtain ⟨z,hz⟩ := bb_pack_pad (dynRow L D C c ops ts)
 have hs : Sg (bb (Bs.pack (dynRow L D C c ops ts))) 0 (dynRow L D C c ops ts) := by rw [hz]; exact Sg.whole _ _
 have hlen : (dynRow L D C c ops ts).length = 3 + ((headRow L D C c ops).length + ((toksRow L D ts).length + Hf.ln L 256)) := by
  unfold dynRow; simp only [List.length_append,begRow_length,cw_len]
 have hle := hs.le
 rw [Bs.pack_length]
 generalize bb (Bs.pack (dynRow L D C c ops ts)) = l at hs hle ⊢
 generalize (dynRow L D C c ops ts).length = m at hlen hle ⊢
 unfold dynRow at hs
 obtain ⟨b1,b2,b3,b4⟩ := beg_is (by decide) hs
 have hh := head_is hv b3.left
 have b5 := b3.right
 have hd : (∃ t : Tk,t.len ≠ 0) -> Fit (Hd.zz D) ∨ ∀ x,Hf.ln D x = 0 := fun _ => hD.imp fit_of_newE fun h x => by
  unfold Hf.ln
  rcases Nat.lt_or_ge x D.length with hx | hx
  ·rw [List.getElem?_eq_getElem hx]; exact h _ (List.getElem_mem hx)
  ·rw [List.getElem?_eq_none hx]; rfl
 have e := syms_is (most := most.toNat) (fit_of_newE hL) hd he ts (l.length + 1) [] _ ht htv (by omega) b5
 have hb : block l most.toNat 0 [] = (tell ts,m,0) := by
  unfold block
  rw [if_neg (by omega),show 0 + 1 = 1 from rfl,b2,if_neg (by decide),if_neg (by decide),if_pos rfl]
  unfold dynamic
  rw [show 0 + 3 = 3 from rfl,hh]
  simp only
  rw [if_neg (by simp),if_neg (show ¬ L[256]?.getD 0 = 0 from he),if_neg (by rw [hL]; simp),if_neg (by
   rintro ⟨h1,h2⟩
   rcases hD with h | h
   ·exact h1 h
   ·exact h2 h),e]
  have e2 : 3 + (headRow L D C c ops).length + (toksRow L D ts).length + Hf.ln L 256 = m := by omega
  rw [e2]
  rfl
 rw [one_block h0 h1 hb b1]
theorem fit_fixL : Fit (Hd.zz fixL) := Or.inl (by decide +kernel)
theorem fit_fixD : Fit (Hd.zz fixD) := Or.inl (by decide +kernel)
def fixRow (ts : List Tk) : List Bool := begRow 1 ++ (toksRow fixL fixD ts ++ cw fixL 256)
theorem ln_fixL : ∀ i,i < 288 -> 7 <= Hf.ln fixL i := by decide +kernel
theorem ln_fixD : ∀ i,i < 32 -> Hf.ln fixD i = 5 := by decide +kernel
theorem has_fix {t : Tk} (h : Byt t ∨ Cop t) : Has1 fixL fixD t := by
 unfold Has1
 rcases h with ⟨h1,_,h2⟩ | ⟨_,h1,h2,h3,h4⟩
 ·rw [if_pos h1]
  have := ln_fixL t.lit (by omega)
  omega
 ·rw [if_neg (by omega)]
  have g1 := (Sy.lk_has t.len h1).1
  have g2 := (Sy.dk_has t.far h3).1
  have := ln_fixL (257 + Sy.lk t.len) (by omega)
  have := ln_fixD (Sy.dk t.far) (by omega)
  omega
theorem TV.all {most : Nat} : ∀ {ts : List Tk} {n : Nat},TV most ts n -> ∀ t ∈ ts,Byt t ∨ Cop t
 | [],_,_,t,h => nomatch h
 | u :: ts,n,h,t,ht => by
  obtain ⟨h1,_,h3⟩ := h
  rcases List.mem_cons.1 ht with rfl | ht
  ·exact h1.1
  ·exact TV.all h3 t ht
theorem toksRow_ge {lit dist : List Nat} : ∀ {ts : List Tk},(∀ t ∈ ts,Has1 lit dist t) -> ts.length <= (toksRow lit dist ts).length
 | [],_ => Nat.zero_le _
 | t :: ts,h => by
  have ih := toksRow_ge (ts := ts) fun x hx => h x (List.mem_cons_of_mem _ hx)
  have h1 := h t (List.mem_cons_self ..)
  rw [toksRow_cons,List.length_append,List.length_cons]
  unfold Has1 at h1
  unfold tokRow
  split
  ·rename_i h0
   rw [if_pos h0] at h1
   rw [cw_len]; omega
  ·rename_i h0
   rw [if_neg h0] at h1
   simp only [List.length_append,cw_len]
   omega
theorem fix_decode {ts : List Tk} (most : Int) (h0 : 0 <= most) (h1 : most <= 65536) (htv : TV most.toNat ts 0) :
  decode (bb (Bs.pack (fixRow ts))) most = (tell ts,(Bs.pack (fixRow ts)).length,0) := by
 have ht : ∀ t ∈ ts,Has1 fixL fixD t := fun t h => has_fix (htv.all t h)
 have hts := toksRow_ge ht
 obtain ⟨z,hz⟩ := bb_pack_pad (fixRow ts)
 have hs : Sg (bb (Bs.pack (fixRow ts))) 0 (fixRow ts) := by rw [hz]; exact Sg.whole _ _
 have he : Hf.ln fixL 256 ≠ 0 := by have := ln_fixL 256 (by decide); omega
 have hlen : (fixRow ts).length = 3 + ((toksRow fixL fixD ts).length + Hf.ln fixL 256) := by
  unfold fixRow; simp only [List.length_append,begRow_length,cw_len]
 have hle := hs.le
 rw [Bs.pack_length]
 generalize bb (Bs.pack (fixRow ts)) = l at hs hle ⊢
 generalize (fixRow ts).length = m at hlen hle ⊢
 unfold fixRow at hs
 obtain ⟨b1,b2,b3,b4⟩ := beg_is (by decide) hs
 have e := syms_is (most := most.toNat) fit_fixL (fun _ => Or.inl fit_fixD) he ts (l.length + 1) [] 3 ht htv (by omega) b3
 have hb : block l most.toNat 0 [] = (tell ts,m,0) := by
  unfold block
  rw [if_neg (by omega),show 0 + 1 = 1 from rfl,b2,if_neg (by decide),if_pos rfl,show 0 + 3 = 3 from rfl,e]
  have e2 : 3 + (toksRow fixL fixD ts).length + Hf.ln fixL 256 = m := by omega
  rw [e2]
  rfl
 rw [one_block h0 h1 hb b1]
end If
end
section
namespace Rn
def at1 (ls : List Nat) (i : Nat) : Nat := ls[i]?.getD 0
def alk (ls : List Nat) (c : Nat) : Nat -> Nat -> Nat
 | 0,_ => 0
 | k + 1,i => if at1 ls i = c then alk ls c k (i + 1) + 1 else 0
theorem alk_le (ls : List Nat) (c : Nat) : ∀ k i,alk ls c k i <= k
 | 0,_ => Nat.le_refl _
 | k + 1,i => by simp only [alk]; split <;> (try have := alk_le ls c k (i + 1)) <;> omega
theorem alk_is (ls : List Nat) (c : Nat) : ∀ k i j,j < alk ls c k i -> at1 ls (i + j) = c
 | 0,i,j,h => by simp [alk] at h
 | k + 1,i,j,h => by
  simp only [alk] at h
  split at h
  ·rename_i e
   cases j with
   | zero => exact e
   | succ j =>
    have := alk_is ls c k (i + 1) j (by omega)
    rw [show i + 1 + j = i + (j + 1) by omega] at this
    exact this
  ·omega
def run (ls : List Nat) (i : Nat) : Nat := alk ls (at1 ls i) (ls.length - i) i
theorem run_pos (ls : List Nat) (i : Nat) (h : i < ls.length) : 1 <= run ls i := by
 unfold run
 obtain ⟨k,hk⟩ : ∃ k,ls.length - i = k + 1 := ⟨ls.length - i - 1,by omega⟩
 rw [hk]
 simp only [alk]
 rw [if_pos trivial]
 omega
theorem run_le (ls : List Nat) (i : Nat) : run ls i <= ls.length - i := alk_le _ _ _ _
theorem run_is (ls : List Nat) (i j : Nat) (h : j < run ls i) : at1 ls (i + j) = at1 ls i := alk_is _ _ _ _ _ h
def sym (ls : List Nat) (i : Nat) : Nat :=
 if at1 ls i = 0 /\ 11 <= run ls i then 18 else if at1 ls i = 0 /\ 3 <= run ls i then 17 else if 0 < i /\ at1 ls i = at1 ls (i - 1) /\ 3 <= run ls i then 16 else at1 ls i
def num (ls : List Nat) (i : Nat) : Nat := min (run ls i - Hd.least (sym ls i)) (2 ^ Hd.ex (sym ls i) - 1)
def siz (ls : List Nat) (i : Nat) : Nat := Hd.least (sym ls i) + num ls i
def op (ls : List Nat) (i : Nat) : Nat × Nat := (sym ls i,num ls i)
theorem sym_lt (ls : List Nat) (h15 : ∀ x ∈ ls,x <= 15) (i : Nat) : sym ls i < 19 := by
 have : at1 ls i <= 15 := by
  unfold at1
  rcases Nat.lt_or_ge i ls.length with hi | hi
  ·rw [List.getElem?_eq_getElem hi]; exact h15 _ (List.getElem_mem hi)
  ·rw [List.getElem?_eq_none hi]; exact Nat.zero_le _
 unfold sym
 split
 ·omega
 ·split
  ·omega
  ·split <;> omega
theorem num_lt (ls : List Nat) (i : Nat) : num ls i < 2 ^ Hd.ex (sym ls i) := by
 have := Nat.two_pow_pos (Hd.ex (sym ls i))
 unfold num
 omega
theorem least_run (ls : List Nat) (h15 : ∀ x ∈ ls,x <= 15) (i : Nat) (h : i < ls.length) : Hd.least (sym ls i) <= run ls i := by
 have h1 := run_pos ls i h
 have ha : at1 ls i <= 15 := by unfold at1; rw [List.getElem?_eq_getElem h]; exact h15 _ (List.getElem_mem h)
 unfold sym
 split
 ·rename_i e; exact e.2
 ·split
  ·rename_i e; exact e.2
  ·split
   ·rename_i e; exact e.2.2
   ·unfold Hd.least
    rw [if_neg (by omega),if_neg (by omega),if_neg (by omega)]
    exact h1
theorem siz_le (ls : List Nat) (h15 : ∀ x ∈ ls,x <= 15) (i : Nat) (h : i < ls.length) : siz ls i <= run ls i /\ 1 <= siz ls i := by
 have := least_run ls h15 i h
 have h2 := Hd.least_le (sym ls i)
 unfold siz num
 omega
theorem take_run (ls : List Nat) (i : Nat) : ∀ n,n <= run ls i -> i + n <= ls.length -> ls.take i ++ List.replicate n (at1 ls i) = ls.take (i + n)
 | 0,_,_ => by simp
 | n + 1,h,h2 => by
  have ih := take_run ls i n (by omega) (by omega)
  rw [List.replicate_succ',<- List.append_assoc,ih,<- Nat.add_assoc,List.take_add_one]
  have e := run_is ls i n (by omega)
  unfold at1 at e
  rw [List.getElem?_eq_getElem (show i + n < ls.length by omega)] at e ⊢
  simp only [Option.getD_some] at e
  rw [e]
  rfl
theorem told_run (ls : List Nat) (h15 : ∀ x ∈ ls,x <= 15) (i : Nat) (h : i < ls.length) : If.told1 (ls.take i) (op ls i) = ls.take (i + siz ls i) := by
 have hs := siz_le ls h15 i h
 have hr := run_le ls i
 have hv : Hd.val (ls.take i) (sym ls i) = at1 ls i := by
  have ha : at1 ls i <= 15 := by unfold at1; rw [List.getElem?_eq_getElem h]; exact h15 _ (List.getElem_mem h)
  unfold Hd.val sym
  split
  ·rename_i e; simp; omega
  ·split
   ·rename_i e; simp; omega
   ·split
    ·rename_i e
     rw [if_pos rfl,List.length_take,Nat.min_eq_left (by omega),List.getElem?_take_of_lt (by omega),e.2.1]
     rfl
    ·rw [if_neg (by omega),if_neg (by omega)]
 unfold If.told1 op
 simp only
 rw [hv]
 exact take_run ls i (siz ls i) hs.1 (by omega)
def ops (ls : List Nat) : Nat -> Nat -> List (Nat × Nat)
 | 0,_ => []
 | k + 1,i => if ls.length <= i then [] else op ls i :: ops ls k (i + siz ls i)
theorem ops_told (ls : List Nat) (h15 : ∀ x ∈ ls,x <= 15) : ∀ (k i : Nat),ls.length < k + i -> i <= ls.length -> If.told (ls.take i) (ops ls k i) = ls
 | 0,i,h,h2 => by omega
 | k + 1,i,h,h2 => by
  simp only [ops]
  by_cases e : ls.length <= i
  ·rw [if_pos e]; exact List.take_of_length_le e
  ·rw [if_neg e]
   have hs := siz_le ls h15 i (by omega)
   have hr := run_le ls i
   have ih := ops_told ls h15 k (i + siz ls i) (by omega) (by omega)
   unfold If.told at ih ⊢
   rw [List.foldl_cons,told_run ls h15 i (by omega),ih]
theorem ops_ov (ls C : List Nat) (h15 : ∀ x ∈ ls,x <= 15) : ∀ (k i : Nat),i <= ls.length -> (∀ o ∈ ops ls k i,Hf.ln C o.1 ≠ 0) -> If.OV C (ops ls k i) (ls.take i)
 | 0,i,_,_ => trivial
 | k + 1,i,h,h2 => by
  simp only [ops] at h2 ⊢
  by_cases e : ls.length <= i
  ·rw [if_pos e]; exact trivial
  ·rw [if_neg e] at h2 ⊢
   have hs := siz_le ls h15 i (by omega)
   have hr := run_le ls i
   refine ⟨h2 _ (List.mem_cons_self ..),num_lt ls i,fun e2 => ?_,?_⟩
   ·rw [List.length_take]
    have ha : at1 ls i <= 15 := by unfold at1; rw [List.getElem?_eq_getElem (by omega)]; exact h15 _ (List.getElem_mem (by omega))
    show min i ls.length ≠ 0
    have : 0 < i := by
     simp only [op,sym] at e2
     split at e2
     ·omega
     ·split at e2
      ·omega
      ·split at e2
       ·rename_i e3; exact e3.1
       ·omega
    omega
   ·rw [told_run ls h15 i (by omega)]
    exact ops_ov ls C h15 k _ (by omega) fun o ho => h2 o (List.mem_cons_of_mem _ ho)
theorem ops_lt (ls : List Nat) (h15 : ∀ x ∈ ls,x <= 15) : ∀ (k i : Nat),∀ o ∈ ops ls k i,o.1 < 19
 | 0,_,o,h => nomatch h
 | k + 1,i,o,h => by
  simp only [ops] at h
  by_cases e : ls.length <= i
  ·rw [if_pos e] at h; exact nomatch h
  ·rw [if_neg e] at h
   rcases List.mem_cons.1 h with rfl | h
   ·exact sym_lt ls h15 i
   ·exact ops_lt ls h15 k _ o h
end Rn
end
end Go.Proofs.YtmgpcbjciioiaaaGreatDoor
