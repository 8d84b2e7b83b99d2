import Derived.Test.YtmgpcbjciioiaaaGreatDoorRows
import Derived.WalkKit
import Derived.WalkSpells
import Derived.WalkLawsBesides
import Derived.Handy
import Derived.BigQuiet
import Derived.Deep.QuietTactic
import Derived.Lib.Hide
import Derived.Laws.CopyOwn
namespace Go.Proofs.YtmgpcbjciioiaaaGreatDoor.Bs
def num : List Bool -> Nat
 | [] => 0
 | b :: l => b.toNat + 2 * num l
theorem num_lt (l : List Bool) : num l < 2 ^ l.length := by
 induction l with
 | nil => simp [num]
 | cons b l ih =>
  have : b.toNat <= 1 := by cases b <;> simp
  simp only [num,List.length_cons,Nat.pow_succ]
  omega
theorem testBit_num (l : List Bool) (i : Nat) : (num l).testBit i = l[i]?.getD false := by
 induction l generalizing i with
 | nil => simp [num]
 | cons b l ih =>
  cases i with
  | zero =>
   simp only [num,Nat.testBit_zero,List.getElem?_cons_zero,Option.getD_some]
   cases b <;> simp <;> omega
  | succ i =>
   rw [Nat.testBit_succ]
   have : (num (b :: l)) / 2 = num l := by
    simp only [num]
    cases b <;> simp <;> omega
   rw [this,ih]
   simp
def byteAt (l : List Bool) (j : Nat) : Nat := num ((l.drop (8 * j)).take 8)
theorem byteAt_lt (l : List Bool) (j : Nat) : byteAt l j < 256 := by
 have h := num_lt ((l.drop (8 * j)).take 8)
 have h2 : ((l.drop (8 * j)).take 8).length <= 8 := List.length_take_le _ _
 have h3 : 2 ^ ((l.drop (8 * j)).take 8).length <= 2 ^ 8 := Nat.pow_le_pow_right (by omega) h2
 unfold byteAt
 omega
theorem testBit_byteAt (l : List Bool) (j i : Nat) : (byteAt l j).testBit i = (decide (i < 8) && (l[8 * j + i]?.getD false)) := by
 unfold byteAt
 rw [testBit_num]
 by_cases h : i < 8
 ·simp [h,List.getElem?_drop]
 ·simp [h,List.getElem?_take]
def packTo (m : Nat) (l : List Bool) : List Nat := (List.range m).map (byteAt l)
def pack (l : List Bool) : List Nat := packTo ((l.length + 7) / 8) l
theorem packTo_length (m : Nat) (l : List Bool) : (packTo m l).length = m := by simp [packTo]
theorem pack_length (l : List Bool) : (pack l).length = (l.length + 7) / 8 := by simp [pack,packTo]
theorem packTo_get (m : Nat) (l : List Bool) (j : Nat) (h : j < m) : (packTo m l)[j]?.getD 0 = byteAt l j := by
 simp [packTo,h]
theorem packTo_get' (m : Nat) (l : List Bool) (j : Nat) (h : j < m) : (packTo m l)[j]? = some (byteAt l j) := by
 simp [packTo,h]
def bitsOf (v n : Nat) : List Bool := (List.range n).map v.testBit
theorem bitsOf_length (v n : Nat) : (bitsOf v n).length = n := by simp [bitsOf]
theorem bitsOf_get (v n i : Nat) : (bitsOf v n)[i]?.getD false = (decide (i < n) && v.testBit i) := by
 by_cases h : i < n <;> simp [bitsOf,h]
theorem bitsOf_succ (v n : Nat) : bitsOf v (n + 1) = bitsOf v n ++ [v.testBit n] := by
 simp [bitsOf,List.range_succ]
theorem num_bitsOf (v n : Nat) (h : v < 2 ^ n) : num (bitsOf v n) = v := by
 apply Nat.eq_of_testBit_eq
 intro i
 rw [testBit_num,bitsOf_get]
 by_cases hi : i < n
 ·simp [hi]
 ·have : v.testBit i = false := Nat.testBit_lt_two_pow (Nat.lt_of_lt_of_le h (Nat.pow_le_pow_right (by omega) (by omega)))
  simp [this]
theorem num_take_succ (l : List Bool) (k : Nat) (h : k < l.length) : num (l.take (k + 1)) = num (l.take k) + (l[k]).toNat * 2 ^ k := by
 induction l generalizing k with
 | nil => simp at h
 | cons b l ih =>
  cases k with
  | zero => simp [num]
  | succ k =>
   simp only [List.length_cons] at h
   have := ih k (by omega)
   simp only [List.take_succ_cons,num,List.getElem_cons_succ,Nat.pow_succ]
   rw [this,Nat.mul_add]
   have e : l[k].toNat * (2 ^ k * 2) = 2 * (l[k].toNat * 2 ^ k) := by rw [Nat.mul_comm (2 ^ k) 2,<- Nat.mul_assoc,Nat.mul_comm _ 2,Nat.mul_assoc]
   rw [e]
   omega
theorem byteAt_snoc (l : List Bool) (b : Bool) (j : Nat) : byteAt (l ++ [b]) j = if j = l.length / 8 then byteAt l j ||| (b.toNat <<< (l.length % 8)) else byteAt l j := by
 apply Nat.eq_of_testBit_eq
 intro i
 have e1 : l.length % 8 + 8 * (l.length / 8) = l.length := by omega
 have hb : ∀ k,(b.toNat).testBit k = (decide (k = 0) && b) := by
  intro k
  cases b
  ·simp
  ·cases k with
   | zero => simp
   | succ k => rw [Nat.testBit_succ]; simp
 rw [testBit_byteAt]
 have app : (l ++ [b])[8 * j + i]?.getD false = if 8 * j + i = l.length then b else l[8 * j + i]?.getD false := by
  by_cases h : 8 * j + i < l.length
  ·rw [if_neg (by omega),List.getElem?_append_left h]
  ·rw [List.getElem?_append_right (by omega)]
   by_cases h2 : 8 * j + i = l.length
   ·simp [h2]
   ·rw [if_neg h2,List.getElem?_eq_none (by simp; omega),List.getElem?_eq_none (by omega)]
 rw [app]
 by_cases hj : j = l.length / 8
 ·rw [if_pos hj,Nat.testBit_or,testBit_byteAt,Nat.testBit_shiftLeft,hb]
  by_cases hi : i < 8
  ·by_cases hq : 8 * j + i = l.length
   ·have : i - l.length % 8 = 0 := by omega
    have h2 : l.length % 8 <= i := by omega
    rw [if_pos hq,hq]
    simp [hi,this,h2]
   ·rw [if_neg hq]
    by_cases h2 : i ≥ l.length % 8
    ·have : ¬ (i - l.length % 8 = 0) := by omega
     simp [hi,this]
    ·simp [h2]
  ·by_cases h2 : i ≥ l.length % 8
   ·have : ¬ (i - l.length % 8 = 0) := by omega
    simp [hi,this]
   ·omega
 ·rw [if_neg hj,testBit_byteAt]
  by_cases hi : i < 8
  ·have : ¬ (8 * j + i = l.length) := by omega
   simp [this]
  ·simp [hi]
theorem packTo_snoc (m : Nat) (l : List Bool) (b : Bool) : packTo m (l ++ [b]) = (packTo m l).set (l.length / 8) (byteAt l (l.length / 8) ||| (b.toNat <<< (l.length % 8))) := by
 apply List.ext_getElem?
 intro j
 rw [List.getElem?_set]
 by_cases h : j < m
 ·rw [packTo_get' _ _ _ h,packTo_get' _ _ _ h,byteAt_snoc]
  by_cases hj : l.length / 8 = j
  ·rw [if_pos hj.symm,if_pos hj,packTo_length,if_pos (by omega)]
   rw [<- hj]
  ·rw [if_neg (fun e => hj e.symm),if_neg hj]
 ·rw [List.getElem?_eq_none (by rw [packTo_length]; omega)]
  by_cases hj : l.length / 8 = j
  ·rw [if_pos hj,packTo_length,if_neg (by omega)]
  ·rw [if_neg hj,List.getElem?_eq_none (by rw [packTo_length]; omega)]
def bitsFrom (bs : List Nat) (n : Nat) : List Bool := (List.range n).map fun i => (bs[i / 8]?.getD 0).testBit (i % 8)
theorem bitsFrom_length (bs : List Nat) (n : Nat) : (bitsFrom bs n).length = n := by simp [bitsFrom]
theorem bitsFrom_get (bs : List Nat) (n i : Nat) (h : i < n) : (bitsFrom bs n)[i]?.getD false = (bs[i / 8]?.getD 0).testBit (i % 8) := by
 simp [bitsFrom,h]
def right (bs : List Nat) (n : Nat) : Prop := bs.length = (n + 7) / 8 /\ (n % 8 = 0 ∨ (bs[bs.length - 1]?.getD 0) / 2 ^ (n % 8) = 0)
theorem pack_bitsFrom (bs : List Nat) (n : Nat) (h : right bs n) (h8 : ∀ x ∈ bs,x < 256) : pack (bitsFrom bs n) = bs := by
 obtain ⟨h1,h2⟩ := h
 apply List.ext_getElem?
 intro j
 unfold pack
 rw [bitsFrom_length,<- h1]
 by_cases hj : j < bs.length
 ·rw [packTo_get' _ _ _ hj,List.getElem?_eq_getElem hj]
  congr 1
  apply Nat.eq_of_testBit_eq
  intro i
  rw [testBit_byteAt]
  have hlt : bs[j] < 256 := h8 _ (List.getElem_mem hj)
  by_cases hi : i < 8
  ·by_cases hn : 8 * j + i < n
   ·rw [bitsFrom_get _ _ _ hn]
    have e1 : (8 * j + i) / 8 = j := by omega
    have e2 : (8 * j + i) % 8 = i := by omega
    rw [e1,e2,List.getElem?_eq_getElem hj]
    simp [hi]
   ·rw [List.getElem?_eq_none (by rw [bitsFrom_length]; omega)]
    simp only [Option.getD_none,Bool.and_false]
    have hj2 : j = bs.length - 1 := by omega
    rcases h2 with h2 | h2
    ·omega
    ·rw [<- hj2,List.getElem?_eq_getElem hj,Option.getD_some] at h2
     have h3 : bs[j] < 2 ^ (n % 8) := by
      rcases Nat.div_eq_zero_iff.1 h2 with h | h
      ·exact absurd h (by have := Nat.two_pow_pos (n % 8); omega)
      ·exact h
     have : n % 8 <= i := by omega
     exact (Nat.testBit_lt_two_pow (Nat.lt_of_lt_of_le h3 (Nat.pow_le_pow_right (by omega) this))).symm
  ·simp only [hi,decide_false,Bool.false_and]
   exact (Nat.testBit_lt_two_pow (Nat.lt_of_lt_of_le hlt (show 2 ^ 8 <= 2 ^ i from Nat.pow_le_pow_right (by omega) (by omega)))).symm
 ·rw [List.getElem?_eq_none (by rw [packTo_length]; omega),List.getElem?_eq_none (by omega)]
theorem pack_right (l : List Bool) : right (pack l) l.length := by
 refine ⟨pack_length l,?_⟩
 by_cases h : l.length % 8 = 0
 ·exact Or.inl h
 ·right
  rw [pack_length]
  unfold pack
  rw [packTo_get _ _ _ (by omega)]
  have e : byteAt l ((l.length + 7) / 8 - 1) < 2 ^ (l.length % 8) := by
   unfold byteAt
   refine Nat.lt_of_lt_of_le (num_lt _) (Nat.pow_le_pow_right (by omega) ?_)
   rw [List.length_take,List.length_drop]
   omega
  exact Nat.div_eq_of_lt e
theorem pack_lt (l : List Bool) : ∀ x ∈ pack l,x < 256 := by
 intro x hx
 simp only [pack,packTo,List.mem_map] at hx
 obtain ⟨j,_,rfl⟩ := hx
 exact byteAt_lt _ _
theorem bitsFrom_pack (l : List Bool) : bitsFrom (pack l) l.length = l := by
 apply List.ext_getElem?
 intro i
 by_cases h : i < l.length
 ·simp only [bitsFrom,List.getElem?_map,List.getElem?_range h,Option.map_some]
  unfold pack
  rw [packTo_get _ _ _ (by omega),testBit_byteAt]
  have e : 8 * (i / 8) + i % 8 = i := by omega
  rw [e,List.getElem?_eq_getElem h]
  have : i % 8 < 8 := by omega
  simp [this]
 ·rw [List.getElem?_eq_none (by rw [bitsFrom_length]; omega),List.getElem?_eq_none (by omega)]
end Go.Proofs.YtmgpcbjciioiaaaGreatDoor.Bs
namespace Go.Proofs.YtmgpcbjciioiaaaGreatDoor
set_option maxRecDepth 100000
set_option maxHeartbeats 8000000
section
open Go.RowKit
theorem LH {p : Prop} (h : p) : Hid p := h
theorem quiet_left {P : Program} {f : FuncId} {args : Array Value} {w : World} {n : Nat} {v : Value}
  (h : Calls P f args (w.drewN n) fun e w' => e = .returned v /\ w.drewN n = w') : Calls P f args (w.drewN n) fun e w'' => e = .returned v /\ ∃ m,w'' = w.drewN m :=
 h.mono fun _ _ ⟨he,hm⟩ => ⟨he,n,hm.symm⟩
theorem below_drewN {B : Nat} {a w : World} (h : Below B a w) (n : Nat) : Below B a (w.drewN n) := by
 exact ⟨h.os,h.tape,h.output,h.size,h.block⟩
def vb (bs : List Nat) : List Value := bs.map fun (x : Nat) => Value.int .u8 (x : Int)
def Sl (w : World) (s : Value) (bs : List Nat) : Prop :=
 ∃ a len cap,s = .slice a len cap /\ len = bs.length /\ len <= 281474976710656 /\ (a = none -> len = 0 /\ cap = 0) /\ (∀ x ∈ bs,x < 256) /\
  (0 < len -> ∃ b off,a = some ⟨b,off,none⟩ /\ b < w.heap.size /\ ∀ i,i < len -> w.cell? ⟨b,off + i,none⟩ = some (.int .u8 ((bs[i]?.getD 0 : Nat) : Int)))
theorem Sl.nil (w : World) : Sl w (.slice none 0 0) [] := ⟨none,0,0,rfl,rfl,by omega,fun _ => ⟨rfl,rfl⟩,fun _ h => (nomatch h),fun h => absurd h (by omega)⟩
theorem Sl.later {w w' : World} {s : Value} {bs : List Nat} (h : Sl w s bs) (hb : Below w.heap.size w w') : Sl w' s bs := by
 obtain ⟨a,len,cap,rfl,h1,h2,h3,h4,h5⟩ := h
 refine ⟨a,len,cap,rfl,h1,h2,h3,h4,fun hl => ?_⟩
 obtain ⟨b,off,rfl,hlt,hc⟩ := h5 hl
 refine ⟨b,off,rfl,Nat.lt_of_lt_of_le hlt hb.size,fun i hi => ?_⟩
 rw [hb.cell (p := ⟨b,off + i,none⟩) hlt]
 exact hc i hi
theorem vb_length (bs : List Nat) : (vb bs).length = bs.length := by simp [vb]
theorem vb_get (bs : List Nat) (i : Nat) : (vb bs)[i]? = (bs[i]?).map fun (x : Nat) => Value.int .u8 (x : Int) := by simp [vb]
theorem vb_append (bs cs : List Nat) : vb (bs ++ cs) = vb bs ++ vb cs := by simp [vb]
theorem vb_set (bs : List Nat) (i x : Nat) : vb (bs.set i x) = (vb bs).set i (.int .u8 (x : Int)) := by simp [vb,List.map_set]
theorem Sl.owned {w : World} {base : Nat} {s : Value} {n : Nat} {bs : List Nat} (h : w.ownsRow base 5 1 s n (vb bs)) (h8 : ∀ x ∈ bs,x < 256) (hn : n <= 281474976710656) : Sl w s bs := by
 obtain ⟨h1,h2⟩ := h
 have hl : n = bs.length := by simpa [vb] using h1.symm
 rcases h2 with ⟨rfl,rfl⟩ | ⟨g,cap,cur,rfl,hb,hg,hc1,hc2,hc3,hc4⟩
 ·exact ⟨none,0,0,rfl,hl,by omega,fun _ => ⟨rfl,rfl⟩,h8,fun h => absurd h (by omega)⟩
 ·have hown : w.ownsRow base 5 1 (.slice (some ⟨g,0,none⟩) n cap) n (vb bs) := ⟨h1,Or.inr ⟨g,cap,cur,rfl,hb,hg,hc1,hc2,hc3,hc4⟩⟩
  refine ⟨_,n,cap,rfl,hl,hn,fun h => by simp at h,h8,fun _ => ⟨g,0,rfl,(Array.getElem?_eq_some_iff.1 hg).1,fun i hi => ?_⟩⟩
  rw [Nat.zero_add,hown.cellAt i (by omega),vb_get,List.getElem?_eq_getElem (by omega)]
  simp
structure Only (g : Nat) (w w' : World) : Prop where
 os : w'.os = w.os
 tape : w'.tape = w.tape
 output : w'.output = w.output
 size : w.heap.size <= w'.heap.size
 block : ∀ k,k < w.heap.size -> k ≠ g -> w'.heap[k]? = w.heap[k]?
theorem Only.refl (g : Nat) (w : World) : Only g w w := ⟨rfl,rfl,rfl,Nat.le_refl _,fun _ _ _ => rfl⟩
theorem Only.below {g B : Nat} {a w w' : World} (h : Only g w w') (hb : Below B a w) (hB : B <= g) (hs : B <= w.heap.size) : Below B a w' :=
 hb.trans ⟨h.os,h.tape,h.output,h.size,fun k hk => h.block k (by omega) (by omega)⟩
theorem wpList_copy_only {P : Program} {w : World} {ops : Array Oper} {rest : List Oper} {o : Oper} {a : Act} {Q : Exit -> Act -> World -> Prop} (hgd : o.guard = none) (d s : Operand) (dT sT : TypeId)
  (ho : o.op = .call { callee := .builtin .copy,args := #[d,s],argTypes := #[dT,sT] }) (elem : TypeId) (hu : P.underlying dT = some (.slice elem)) (hsz : (P.info? elem).map (·.size) = some 1)
  (dp sp : Option Addr) (dLen dCap sLen sCap : Nat) (hd : a.eval d = .slice dp dLen dCap) (hs : a.eval s = .slice sp sLen sCap)
  (g off : Nat) (cur : List Value) (t : TypeId) (hg : w.heap[g]? = some (.cells cur.toArray t (0,0))) (cs : List Value) (hn : cs.length = Nat.min sLen dLen)
  (hpos : 0 < cs.length -> dp = some ⟨g,off,none⟩ /\ ∃ ad,sp = some ad /\ ∀ j v,cs[j]? = some v -> w.cell? (ad.add j) = some v)
  (hfit : off + cs.length <= cur.length) (h1 : ∀ v ∈ cs,v.oneCell' = true)
  (h : ∀ w',Hid (w'.heap[g]? = some (.cells (splice cur off cs).toArray t (0,0))) -> Only g w w' -> wpList P ops Q rest (a.put o.dst (goInt cs.length)) w') :
  wpList P ops Q (o :: rest) a w := by
 by_cases h0 : cs.length = 0
 ·obtain rfl : cs = [] := List.eq_nil_of_length_eq_zero h0
  refine wpList_copy_nothing hgd d s dT sT ho elem hu hsz dp sp dLen dCap sLen sCap hd hs (by simpa using hn.symm) ?_
  exact h w (show _ = _ by simpa [splice] using hg) (Only.refl _ _)
 ·obtain ⟨rfl,ad,rfl,hsrc⟩ := hpos (by omega)
  refine wpList_copy_own hgd d s dT sT ho elem hu hsz g off dLen dCap ad sLen sCap hd hs cur.toArray t hg cs hn hsrc (by simpa using hfit) h1 ?_
  exact h _ (show _ = _ by simpa [splice] using setRow_heap w g _ _ t _ hg) ⟨rfl,rfl,rfl,by simp [World.setRow],fun k _ hk => setRow_other w g k _ (by omega)⟩
theorem oneCell_vb (bs : List Nat) : ∀ v ∈ vb bs,v.oneCell' = true := by
 intro v hv
 simp only [vb,List.mem_map] at hv
 obtain ⟨x,_,rfl⟩ := hv
 rfl
theorem Sl.cells {w : World} {a : Option Addr} {len cap : Nat} {bs : List Nat} (h : Sl w (.slice a len cap) bs) (hl : 0 < len) : ∃ ad,a = some ad /\ ∀ j v,(vb bs)[j]? = some v -> w.cell? (ad.add j) = some v := by
 obtain ⟨a',len',cap',he,h1,h2,h3,h4,h5⟩ := h
 injection he with e1 e2 e3
 subst e1 e2 e3
 obtain ⟨b,off,rfl,hlt,hc⟩ := h5 hl
 refine ⟨_,rfl,fun j v hj => ?_⟩
 rw [vb_get] at hj
 have hjl : j < bs.length := by
  rcases Nat.lt_or_ge j bs.length with h | h
  ·exact h
  ·rw [List.getElem?_eq_none h] at hj; cases hj
 have e : (⟨b,off,none⟩ : Addr).add j = ⟨b,off + j,none⟩ := by
  cases j <;> simp [Addr.add]
 rw [e,hc j (by omega)]
 rw [List.getElem?_eq_getElem hjl] at hj ⊢
 simpa using hj
theorem Sl.len {w : World} {a : Option Addr} {len cap : Nat} {bs : List Nat} (h : Sl w (.slice a len cap) bs) : len = bs.length /\ len <= 281474976710656 /\ (a = none -> len = 0 /\ cap = 0) := by
 obtain ⟨a',len',cap',he,h1,h2,h3,h4,h5⟩ := h
 injection he with e1 e2 e3
 subst e1 e2 e3
 exact ⟨h1,h2,h3⟩
theorem Sl.shape {w : World} {s : Value} {bs : List Nat} (h : Sl w s bs) : ∃ a len cap,s = .slice a len cap /\ len = bs.length := by
 obtain ⟨a',len',cap',he,h1,_⟩ := h
 exact ⟨_,_,_,he,h1⟩
def Has (w : World) (b : Nat) (o : Obj) : Prop := w.heap[b]? = some o
theorem Has.lt {w : World} {b : Nat} {o : Obj} (h : Has w b o) : b < w.heap.size := lt_of_block h
theorem Has.later {w w' : World} {b : Nat} {o : Obj} (h : Has w b o) (hb : Below w.heap.size w w') : Has w' b o := (hb.block b h.lt).trans h
theorem Has.below {B : Nat} {w w' : World} {b : Nat} {o : Obj} (h : Has w b o) (hb : Below B w w') (hB : b < B) : Has w' b o := (hb.block b hB).trans h
theorem Has.new (w : World) (o : Obj) : Has (w.alloc o) w.heap.size o := by
 show (w.heap.push o)[_]? = _
 simp
theorem Has.alloc {w : World} {b : Nat} {o : Obj} (h : Has w b o) (o' : Obj) : Has (w.alloc o') b o := (Below.heap_alloc w o' b h.lt).trans h
theorem Has.set {w : World} {b : Nat} {o : Obj} (h : Has w b o) {a : Addr} (hne : b ≠ a.block) (v : Value) : Has (w.setCell a v) b o := (Below.heap_setCell w a v b hne).trans h
theorem Has.only {g : Nat} {w w' : World} {b : Nat} {o : Obj} (h : Has w b o) (ho : Only g w w') (hne : b ≠ g) : Has w' b o := (ho.block b h.lt hne).trans h
theorem Has.setSelf {w : World} {b i : Nat} {cs : Array Value} {t : TypeId} (h : Has w b (.cells cs t (0,0))) (u : Value) : Has (w.setCell ⟨b,i,none⟩ u) b (.cells (cs.setIfInBounds i u) t (0,0)) := by
 have h' : w.heap[b]? = some (.cells cs t (0,0)) := h
 show (w.setCell ⟨b,i,none⟩ u).heap[b]? = _
 simp [World.setCell,Array.getElem?_modify,h']
theorem Has.cell {w : World} {b : Nat} {cs : Array Value} {t : TypeId} (h : Has w b (.cells cs t (0,0))) (i : Nat) : w.cell? ⟨b,i,none⟩ = cs[i]? := by
 have h' : w.heap[b]? = some (.cells cs t (0,0)) := h
 simp [World.cell?,h']
theorem Has.free {w : World} {b : Nat} {cs : Array Value} {t : TypeId} (h : Has w b (.cells cs t (0,0))) (i : Nat) : w.frozen? ⟨b,i,none⟩ = false := by
 have h' : w.heap[b]? = some (.cells cs t (0,0)) := h
 simp [World.frozen?,h']
theorem Has.two {w : World} {b : Nat} {x y : Value} {t : TypeId} (h : Has w b (.cells #[x,y] t (0,0))) :
  w.cell? ⟨b,0,none⟩ = some x /\ w.cell? ⟨b,1,none⟩ = some y /\ w.frozen? ⟨b,0,none⟩ = false /\ w.frozen? ⟨b,1,none⟩ = false :=
 ⟨by rw [h.cell]; rfl,by rw [h.cell]; rfl,h.free 0,h.free 1⟩
theorem Has.one {w : World} {b : Nat} {x : Value} {t : TypeId} (h : Has w b (.cells #[x] t (0,0))) : w.cell? ⟨b,0,none⟩ = some x /\ w.frozen? ⟨b,0,none⟩ = false :=
 ⟨by rw [h.cell]; rfl,h.free 0⟩
theorem below1 (w : World) (o1 : Obj) : Below w.heap.size w (w.alloc o1) := (Below.refl _ _).alloc (Nat.le_refl _) _
theorem below2 (w : World) (o1 o2 : Obj) : Below w.heap.size w ((w.alloc o1).alloc o2) := (below1 w o1).alloc (by simp) _
theorem below3 (w : World) (o1 o2 o3 : Obj) : Below w.heap.size w (((w.alloc o1).alloc o2).alloc o3) := (below2 w o1 o2).alloc (by simp; omega) _
theorem facts1 {w w1 : World} {o1 : Obj} (h : Below (w.alloc o1).heap.size (w.alloc o1) w1) : Has w1 w.heap.size o1 /\ Below w.heap.size w w1 /\ w.heap.size + 1 <= w1.heap.size :=
 ⟨(Has.new w o1).later h,(below1 w o1).trans (h.mono (by simp)),by have := h.size; simpa using this⟩
theorem facts2 {w w1 : World} {o1 o2 : Obj} (h : Below ((w.alloc o1).alloc o2).heap.size ((w.alloc o1).alloc o2) w1) :
  Has w1 w.heap.size o1 /\ Has w1 (w.heap.size + 1) o2 /\ Below w.heap.size w w1 /\ w.heap.size + 2 <= w1.heap.size :=
 ⟨((Has.new w o1).alloc o2).later h,by have := (Has.new (w.alloc o1) o2).later h; simpa using this,(below2 w o1 o2).trans (h.mono (by simp; omega)),by have := h.size; simp at this; omega⟩
theorem facts3 {w w1 : World} {o1 o2 o3 : Obj} (h : Below (((w.alloc o1).alloc o2).alloc o3).heap.size (((w.alloc o1).alloc o2).alloc o3) w1) :
  Has w1 w.heap.size o1 /\ Has w1 (w.heap.size + 1) o2 /\ Has w1 (w.heap.size + 2) o3 /\ Below w.heap.size w w1 /\ w.heap.size + 3 <= w1.heap.size :=
 ⟨(((Has.new w o1).alloc o2).alloc o3).later h,by have := ((Has.new (w.alloc o1) o2).alloc o3).later h; simpa using this,by have := (Has.new ((w.alloc o1).alloc o2) o3).later h; simpa using this,
  (below3 w o1 o2 o3).trans (h.mono (by simp; omega)),by have := h.size; simp at this; omega⟩
end
section
open Go.RowKit
theorem isNaN_any (x : Int) (w : World) : Calls Tryz.prog 131 #[.int .i64 x] w fun e w' => e = .returned (.bool false) /\ w = w' := by
 go_enter Tryz.func131,Tryz.ntmps131
 go_wp2
 go_ret
 exact ⟨by simp,rfl⟩
def cmpv (a b : Nat) : Int := if a < b then -1 else if b < a then 1 else 0
theorem cmpv_neg (a b : Nat) : decide (cmpv a b < 0) = decide (a < b) := by
 unfold cmpv
 by_cases h : a < b
 ·simp [h]
 ·by_cases h2 : b < a <;> simp [h,h2]
theorem compare_any (a b : Nat) (w : World) : Calls Tryz.prog 90 #[.int .i64 (a : Int),.int .i64 (b : Int)] w fun e w' => e = .returned (.int .i64 (cmpv a b)) /\ w = w' := by
 by_cases h : a < b
 ·have e : cmpv a b = -1 := by unfold cmpv; rw [if_pos h]
  rw [e]
  clear e
  go_enter Tryz.func90,Tryz.ntmps90
  go_wp2_with (go_at_call 131; refine (isNaN_any _ _).mono ?_; rintro e w' ⟨rfl,rfl⟩)
  go_ret
  exact ⟨rfl,rfl⟩
 ·by_cases h2 : b < a
  ·have e : cmpv a b = 1 := by unfold cmpv; rw [if_neg h,if_pos h2]
   rw [e]
   clear e
   go_enter Tryz.func90,Tryz.ntmps90
   go_wp2_with (go_at_call 131; refine (isNaN_any _ _).mono ?_; rintro e w' ⟨rfl,rfl⟩)
   go_ret
   exact ⟨rfl,rfl⟩
  ·have e : cmpv a b = 0 := by unfold cmpv; rw [if_neg h,if_neg h2]
   rw [e]
   clear e
   go_enter Tryz.func90,Tryz.ntmps90
   go_wp2_with (go_at_call 131; refine (isNaN_any _ _).mono ?_; rintro e w' ⟨rfl,rfl⟩)
   go_ret
   exact ⟨rfl,rfl⟩
structure Lens (B : Nat) (w : World) (L : Nat) (ls : List Nat) : Prop where
 size : B <= w.heap.size
 some : ∃ a len cap,w.cell? ⟨L,0,none⟩ = some (.slice a len cap) /\ len = ls.length /\ len <= 288 /\ L < B /\
  (0 < len -> ∃ b off,a = some ⟨b,off,none⟩ /\ b < B /\ ∀ i,i < len -> w.cell? ⟨b,off + i,none⟩ = some (.int .i64 ((ls[i]?.getD 0 : Nat) : Int)))
theorem Lens.below {B : Nat} {w w' : World} {L : Nat} {ls : List Nat} (h : Lens B w L ls) (hb : Below B w w') : Lens B w' L ls := by
 obtain ⟨a,len,cap,h1,h2,h3,h4,h5⟩ := h.some
 refine ⟨Nat.le_trans h.size hb.size,a,len,cap,?_,h2,h3,h4,fun hl => ?_⟩
 ·rw [hb.cell (p := ⟨L,0,none⟩) h4]; exact h1
 ·obtain ⟨b,off,rfl,hlt,hc⟩ := h5 hl
  refine ⟨b,off,rfl,hlt,fun i hi => ?_⟩
  rw [hb.cell (p := ⟨b,off + i,none⟩) hlt]
  exact hc i hi
theorem key_any (B L x : Nat) (ls : List Nat) (w : World) (hL : Lens B w L ls) (hx : x < ls.length) :
  Calls Tryz.prog 203 #[.int .i64 (x : Int),.pointer (some ⟨L,0,none⟩)] w fun e w' => e = .returned (.int .i64 ((ls[x]?.getD 0 : Nat) : Int)) /\ w = w' := by
 obtain ⟨a,len,cap,h1,h2,h3,h4,h5⟩ := hL.some
 have hlt : x < len := by omega
 obtain ⟨b,off,rfl,hb,hc⟩ := h5 (by omega)
 have hcx := hc x hlt
 clear h2 h5 hc hx hL
 go_enter Tryz.func203,Tryz.ntmps203
 go_wp2
 go_ret
 exact ⟨rfl,rfl⟩
def CmpPost (w : World) (c : Int) (e : Ending) (w' : World) : Prop := e = .returned (.int .i64 c) /\ ∃ n,w' = w.drewN n
theorem cmp_any (B K L x y : Nat) (ls : List Nat) (w : World) (hK : w.cell? ⟨K,0,none⟩ = some (.func (.func 203) #[] #[.pointer (some ⟨L,0,none⟩)])) (hL : Lens B w L ls) (hx : x < ls.length) (hy : y < ls.length) :
  Calls Tryz.prog 220 #[.int .i64 (x : Int),.int .i64 (y : Int),.pointer (some ⟨K,0,none⟩)] w (CmpPost w (cmpv (ls[x]?.getD 0) (ls[y]?.getD 0))) := by
 obtain ⟨p,hp⟩ : ∃ p,p = ls[x]?.getD 0 := ⟨_,rfl⟩
 obtain ⟨q,hq⟩ : ∃ q,q = ls[y]?.getD 0 := ⟨_,rfl⟩
 have kx := fun n => key_any B L x ls (w.drewN n) (hL.below (below_drewN (Below.refl _ _) n)) hx
 have ky := fun n => key_any B L y ls (w.drewN n) (hL.below (below_drewN (Below.refl _ _) n)) hy
 rw [<- hp] at kx
 rw [<- hq] at ky
 rw [<- hp,<- hq]
 clear hp hq hL hx hy
 go_enter Tryz.func220,Tryz.ntmps220
 go_wp2
 go_quiet ((first | (go_at_call 203; exact quiet_left (kx _)) | (go_at_call 203; exact quiet_left (ky _)) | (go_at_call 90; exact quiet_left (compare_any p q _))))
 go_wp2
 go_ret
 exact ⟨rfl,_,rfl⟩
end
section
namespace St
def sw (d : Nat -> Nat) (i j : Nat) : Nat -> Nat := fun k => if k = i then d j else if k = j then d i else d k
inductive Swaps (a b : Nat) : (Nat -> Nat) -> (Nat -> Nat) -> Prop
 | refl (d) : Swaps a b d d
 | step {d e i j} : Swaps a b d e -> a <= i -> i < b -> a <= j -> j < b -> Swaps a b d (sw e i j)
theorem Swaps.trans {a b : Nat} {d e f : Nat -> Nat} (h : Swaps a b d e) (k : Swaps a b e f) : Swaps a b d f := by
 induction k with
 | refl => exact h
 | step _ h1 h2 h3 h4 ih => exact .step ih h1 h2 h3 h4
theorem Swaps.mono {a b a' b' : Nat} {d e : Nat -> Nat} (h : Swaps a b d e) (ha : a' <= a) (hb : b <= b') : Swaps a' b' d e := by
 induction h with
 | refl => exact .refl _
 | step _ h1 h2 h3 h4 ih => exact .step ih (by omega) (by omega) (by omega) (by omega)
theorem Swaps.out {a b : Nat} {d e : Nat -> Nat} (h : Swaps a b d e) (k : Nat) (hk : k < a ∨ b <= k) : e k = d k := by
 induction h with
 | refl => rfl
 | step _ h1 h2 h3 h4 ih => unfold sw; rw [if_neg (by omega),if_neg (by omega)]; exact ih
theorem Swaps.img {a b : Nat} {d e : Nat -> Nat} (h : Swaps a b d e) (k : Nat) (h1 : a <= k) (h2 : k < b) : ∃ k',a <= k' /\ k' < b /\ e k = d k' := by
 induction h generalizing k with
 | refl => exact ⟨k,h1,h2,rfl⟩
 | @step e i j _ g1 g2 g3 g4 ih =>
  unfold sw
  by_cases hi : k = i
  ·rw [if_pos hi]; exact ih j g3 g4
  ·rw [if_neg hi]
   by_cases hj : k = j
   ·rw [if_pos hj]; exact ih i g1 g2
   ·rw [if_neg hj]; exact ih k h1 h2
theorem Swaps.back {a b : Nat} {d e : Nat -> Nat} (h : Swaps a b d e) (k : Nat) (h1 : a <= k) (h2 : k < b) : ∃ k',a <= k' /\ k' < b /\ d k = e k' := by
 induction h with
 | refl => exact ⟨k,h1,h2,rfl⟩
 | @step e i j _ g1 g2 g3 g4 ih =>
  obtain ⟨q,q1,q2,q3⟩ := ih
  unfold sw
  by_cases hi : q = i
  ·refine ⟨j,g3,g4,?_⟩
   by_cases hj : j = i
   ·rw [if_pos hj,q3,hi,hj]
   ·rw [if_neg hj,if_pos rfl,q3,hi]
  ·by_cases hj : q = j
   ·exact ⟨i,g1,g2,by rw [if_pos rfl,q3,hj]⟩
   ·exact ⟨q,q1,q2,by rw [if_neg hi,if_neg hj]; exact q3⟩
theorem Swaps.all {a b n : Nat} {d e : Nat -> Nat} (h : Swaps a b d e) (hb : b <= n) (p : Nat -> Prop) (hp : ∀ i,i < n -> p (d i)) : ∀ i,i < n -> p (e i) := by
 intro i hi
 by_cases hk : i < a ∨ b <= i
 ·rw [h.out i hk]; exact hp i hi
 ·obtain ⟨k,h1,h2,h3⟩ := h.img i (by omega) (by omega)
  rw [h3]; exact hp k (by omega)
def Srt (kf : Nat -> Nat) (d : Nat -> Nat) (a b : Nat) : Prop := ∀ p q,a <= p -> p < q -> q < b -> kf (d p) <= kf (d q)
def Ris (kf : Nat -> Nat) (d : Nat -> Nat) (n : Nat) : Prop := ∀ p q,p < q -> q < n -> kf (d p) = kf (d q) -> d p < d q
theorem Srt.keep {kf d e : Nat -> Nat} {a b : Nat} (h : Srt kf d a b) (he : ∀ k,a <= k -> k < b -> e k = d k) : Srt kf e a b := by
 intro p q h1 h2 h3
 rw [he p (by omega) (by omega),he q (by omega) (by omega)]
 exact h p q h1 h2 h3
theorem Srt.sub {kf d : Nat -> Nat} {a b a' b' : Nat} (h : Srt kf d a b) (ha : a <= a') (hb : b' <= b) : Srt kf d a' b' := fun p q h1 h2 h3 => h p q (by omega) h2 (by omega)
def Ins (kf d : Nat -> Nat) (a i j : Nat) : Prop := ∀ p q,a <= p -> p < q -> q <= i -> q ≠ j -> kf (d p) <= kf (d q)
theorem Ins.start {kf d : Nat -> Nat} {a i : Nat} (h : Srt kf d a i) : Ins kf d a i i := fun p q h1 h2 h3 h4 => h p q h1 h2 (by omega)
theorem Ins.first {kf d : Nat -> Nat} {a i : Nat} (h : Ins kf d a i a) : Srt kf d a (i + 1) := fun p q h1 h2 h3 => h p q h1 h2 (by omega) (by omega)
theorem Ins.stop {kf d : Nat -> Nat} {a i j : Nat} (h : Ins kf d a i j) (hj : a < j) (hji : j <= i) (hge : ¬ kf (d j) < kf (d (j - 1))) : Srt kf d a (i + 1) := by
 intro p q h1 h2 h3
 by_cases hq : q = j
 ·subst hq
  by_cases hp : p = q - 1
  ·subst hp; omega
  ·have := h p (q - 1) h1 (by omega) (by omega) (by omega)
   omega
 ·exact h p q h1 h2 (by omega) hq
theorem Ins.step {kf d : Nat -> Nat} {a i j : Nat} (h : Ins kf d a i j) (hj : a < j) (hji : j <= i) (hlt : kf (d j) < kf (d (j - 1))) : Ins kf (sw d j (j - 1)) a i (j - 1) := by
 intro p q h1 h2 h3 h4
 unfold sw
 have ep : p = j ∨ p = j - 1 ∨ (p ≠ j /\ p ≠ j - 1) := by omega
 have eq : q = j ∨ (q ≠ j /\ q ≠ j - 1) := by omega
 rcases ep with rfl | rfl | ⟨e1,e2⟩ <;> rcases eq with rfl | ⟨e3,e4⟩
 ·omega
 ·rw [if_pos rfl,if_neg e3,if_neg e4]; exact h _ q (by omega) (by omega) h3 e3
 ·rw [if_neg (by omega),if_pos rfl,if_pos rfl]; omega
 ·rw [if_neg (by omega),if_pos rfl,if_neg e3,if_neg e4]; exact h _ q (by omega) (by omega) h3 e3
 ·rw [if_neg e1,if_neg e2,if_pos rfl]; exact h p _ h1 (by omega) (by omega) (by omega)
 ·rw [if_neg e1,if_neg e2,if_neg e3,if_neg e4]; exact h p q h1 h2 h3 e3
theorem Ris.step {kf d : Nat -> Nat} {n j : Nat} (h : Ris kf d n) (hj : 0 < j) (hjn : j < n) (hlt : kf (d j) < kf (d (j - 1))) : Ris kf (sw d j (j - 1)) n := by
 intro p q h2 h3
 unfold sw
 have ep : p = j ∨ p = j - 1 ∨ (p ≠ j /\ p ≠ j - 1) := by omega
 have eq : q = j ∨ q = j - 1 ∨ (q ≠ j /\ q ≠ j - 1) := by omega
 rcases ep with rfl | rfl | ⟨e1,e2⟩ <;> rcases eq with rfl | rfl | ⟨e3,e4⟩
 ·omega
 ·omega
 ·rw [if_pos rfl,if_neg e3,if_neg e4]; exact h _ q (by omega) h3
 ·rw [if_neg (by omega),if_pos rfl,if_pos rfl]; intro h4; omega
 ·omega
 ·rw [if_neg (by omega),if_pos rfl,if_neg e3,if_neg e4]; exact h _ q (by omega) h3
 ·rw [if_neg e1,if_neg e2,if_pos rfl]; exact h p _ (by omega) (by omega)
 ·rw [if_neg e1,if_neg e2,if_neg (by omega),if_pos rfl]; exact h p _ (by omega) (by omega)
 ·rw [if_neg e1,if_neg e2,if_neg e3,if_neg e4]; exact h p q h2 h3
def exch (d : Nat -> Nat) (a b m : Nat) : Nat -> Nat := fun k => if a <= k /\ k < a + m then d (k - a + b) else if b <= k /\ k < b + m then d (k - b + a) else d k
theorem exch_zero (d : Nat -> Nat) (a b : Nat) : exch d a b 0 = d := by
 funext k; unfold exch; rw [if_neg (by omega),if_neg (by omega)]
theorem exch_succ (d : Nat -> Nat) (a b m : Nat) (h : a + m < b) : exch d a b (m + 1) = sw (exch d a b m) (a + m) (b + m) := by
 funext k; unfold sw exch
 by_cases h1 : k = a + m
 ·subst h1
  rw [if_pos (by omega),if_pos rfl,if_neg (by omega),if_neg (by omega)]; congr 1; omega
 ·by_cases h2 : k = b + m
  ·subst h2
   rw [if_neg (by omega),if_pos (by omega),if_neg (by omega),if_pos rfl,if_neg (by omega),if_neg (by omega)]; congr 1; omega
  ·rw [if_neg h1,if_neg h2]
   by_cases h3 : a <= k /\ k < a + m
   ·rw [if_pos (by omega),if_pos h3]
   ·by_cases h4 : b <= k /\ k < b + m
    ·rw [if_neg (by omega),if_pos (by omega),if_neg h3,if_pos h4]
    ·rw [if_neg (by omega),if_neg (by omega),if_neg h3,if_neg h4]
theorem exch_swaps (d : Nat -> Nat) (a b m lo hi : Nat) (h1 : lo <= a) (h2 : a + m <= b) (h3 : b + m <= hi) : Swaps lo hi d (exch d a b m) := by
 induction m with
 | zero => rw [exch_zero]; exact .refl _
 | succ m ih =>
  rw [exch_succ _ _ _ _ (by omega)]
  exact .step (ih (by omega) (by omega)) (by omega) (by omega) (by omega) (by omega)
def rot (d : Nat -> Nat) (a m b : Nat) : Nat -> Nat := fun k => if a <= k /\ k < a + (b - m) then d (k - a + m) else if a + (b - m) <= k /\ k < b then d (k - (b - m)) else d k
theorem rot_left (d : Nat -> Nat) (a b : Nat) : rot d a a b = d := by
 funext k; unfold rot
 by_cases h : a <= k /\ k < a + (b - a)
 ·rw [if_pos h]; congr 1; omega
 ·rw [if_neg h]
  by_cases h2 : a + (b - a) <= k /\ k < b
  ·omega
  ·rw [if_neg h2]
theorem rot_right (d : Nat -> Nat) (a b : Nat) : rot d a b b = d := by
 funext k; unfold rot
 rw [if_neg (by omega)]
 by_cases h : a + (b - b) <= k /\ k < b
 ·rw [if_pos h]; congr 1; omega
 ·rw [if_neg h]
theorem rot_big (d : Nat -> Nat) (m i j : Nat) (hi : i <= m) (h : j < i) : rot (exch d (m - i) m j) (m - i + j) m (m + j) = rot d (m - i) m (m + j) := by
 funext k; unfold rot exch
 have ek : k < m - i ∨ (m - i <= k /\ k < m - i + j) ∨ (m - i + j <= k /\ k < m - i + j + j) ∨ (m - i + j + j <= k /\ k < m + j) ∨ m + j <= k := by omega
 rcases ek with e | e | e | e | e
 ·rw [if_neg (by omega),if_neg (by omega),if_neg (by omega),if_neg (by omega),if_neg (by omega),if_neg (by omega)]
 ·rw [if_neg (by omega),if_neg (by omega),if_pos (by omega),if_pos (by omega)]
 ·rw [if_pos (by omega),if_neg (by omega),if_pos (by omega),if_neg (by omega),if_pos (by omega)]; congr 1; omega
 ·rw [if_neg (by omega),if_pos (by omega),if_neg (by omega),if_neg (by omega),if_neg (by omega),if_pos (by omega)]
 ·rw [if_neg (by omega),if_neg (by omega),if_neg (by omega),if_neg (by omega),if_neg (by omega),if_neg (by omega)]
theorem rot_less (d : Nat -> Nat) (m i j : Nat) (hi : i <= m) (h : i < j) : rot (exch d (m - i) (m + j - i) i) (m - i) m (m + j - i) = rot d (m - i) m (m + j) := by
 funext k; unfold rot exch
 have ek : k < m - i ∨ (m - i <= k /\ k < m - i + (j - i)) ∨ (m - i + (j - i) <= k /\ k < m - i + j) ∨ (m - i + j <= k /\ k < m + j) ∨ m + j <= k := by omega
 rcases ek with e | e | e | e | e
 ·rw [if_neg (by omega),if_neg (by omega),if_neg (by omega),if_neg (by omega),if_neg (by omega),if_neg (by omega)]
 ·rw [if_pos (by omega),if_neg (by omega),if_neg (by omega),if_pos (by omega)]
 ·rw [if_neg (by omega),if_pos (by omega),if_pos (by omega),if_pos (by omega)]; congr 1; omega
 ·rw [if_neg (by omega),if_neg (by omega),if_neg (by omega),if_pos (by omega),if_neg (by omega),if_pos (by omega)]; congr 1; omega
 ·rw [if_neg (by omega),if_neg (by omega),if_neg (by omega),if_neg (by omega),if_neg (by omega),if_neg (by omega)]
theorem rot_same (d : Nat -> Nat) (m i : Nat) (hi : i <= m) : exch d (m - i) m i = rot d (m - i) m (m + i) := by
 funext k; unfold rot exch
 have ek : k < m - i ∨ (m - i <= k /\ k < m) ∨ (m <= k /\ k < m + i) ∨ m + i <= k := by omega
 rcases ek with e | e | e | e
 ·rw [if_neg (by omega),if_neg (by omega),if_neg (by omega),if_neg (by omega)]
 ·rw [if_pos (by omega),if_pos (by omega)]
 ·rw [if_neg (by omega),if_pos (by omega),if_neg (by omega),if_pos (by omega)]; congr 1; omega
 ·rw [if_neg (by omega),if_neg (by omega),if_neg (by omega),if_neg (by omega)]
def shl (d : Nat -> Nat) (a k : Nat) : Nat -> Nat := fun p => if a <= p /\ p < k then d (p + 1) else if p = k then d a else d p
theorem shl_zero (d : Nat -> Nat) (a : Nat) : shl d a a = d := by
 funext p; unfold shl; rw [if_neg (by omega)]
 by_cases h : p = a
 ·rw [if_pos h,h]
 ·rw [if_neg h]
theorem shl_succ (d : Nat -> Nat) (a k : Nat) (h : a <= k) : shl d a (k + 1) = sw (shl d a k) k (k + 1) := by
 funext p; unfold sw shl
 by_cases h1 : p = k
 ·subst h1; rw [if_pos (by omega),if_pos rfl,if_neg (by omega),if_neg (by omega)]
 ·by_cases h2 : p = k + 1
  ·subst h2; rw [if_neg (by omega),if_pos rfl,if_neg h1,if_pos rfl,if_neg (by omega),if_pos rfl]
  ·rw [if_neg h1,if_neg h2]
   by_cases h3 : a <= p /\ p < k
   ·rw [if_pos (by omega),if_pos h3,if_neg h2]
   ·rw [if_neg (by omega),if_neg (by omega),if_neg h3,if_neg h1]
def shr (d : Nat -> Nat) (m k : Nat) : Nat -> Nat := fun p => if k < p /\ p <= m then d (p - 1) else if p = k then d m else d p
theorem shr_zero (d : Nat -> Nat) (m : Nat) : shr d m m = d := by
 funext p; unfold shr; rw [if_neg (by omega)]
 by_cases h : p = m
 ·rw [if_pos h,h]
 ·rw [if_neg h]
theorem shr_succ (d : Nat -> Nat) (m k : Nat) (h : k <= m) (hk : 0 < k) : shr d m (k - 1) = sw (shr d m k) k (k - 1) := by
 funext p; unfold sw shr
 by_cases h1 : p = k
 ·subst h1; rw [if_pos (by omega),if_pos rfl,if_neg (by omega),if_neg (by omega)]
 ·by_cases h2 : p = k - 1
  ·subst h2; rw [if_neg (by omega),if_pos rfl,if_neg h1,if_pos rfl,if_neg (by omega),if_pos rfl]
  ·rw [if_neg h1,if_neg h2]
   by_cases h3 : k < p /\ p <= m
   ·rw [if_pos (by omega),if_pos h3,if_neg h2]
   ·rw [if_neg (by omega),if_neg (by omega),if_neg h3,if_neg h1]
theorem shl_srt {kf d : Nat -> Nat} {m b k : Nat} (hm : Srt kf d (m + 1) b) (h1 : m <= k) (h2 : k < b) (lo : ∀ q,m < q -> q <= k -> kf (d q) < kf (d m)) (hi : ∀ q,k < q -> q < b -> kf (d m) <= kf (d q)) : Srt kf (shl d m k) m b := by
 intro p q e1 e2 e3
 unfold shl
 have ep : (m <= p /\ p < k) ∨ p = k ∨ k < p := by omega
 have eq : (m <= q /\ q < k) ∨ q = k ∨ k < q := by omega
 rcases ep with e | e | e <;> rcases eq with f | f | f <;> try omega
 ·rw [if_pos e,if_pos f]; exact hm _ _ (by omega) (by omega) (by omega)
 ·rw [if_pos e,if_neg (by omega),if_pos f]; have := lo (p + 1) (by omega) (by omega); omega
 ·rw [if_pos e,if_neg (by omega),if_neg (by omega)]; exact hm _ _ (by omega) (by omega) (by omega)
 ·rw [if_neg (by omega),if_pos e,if_neg (by omega),if_neg (by omega)]; exact hi q f e3
 ·rw [if_neg (by omega),if_neg (by omega),if_neg (by omega),if_neg (by omega)]; exact hm _ _ (by omega) (by omega) (by omega)
theorem shl_ris {kf d : Nat -> Nat} {m n k : Nat} (hr : Ris kf d n) (h1 : m <= k) (h2 : k < n) (lo : ∀ q,m < q -> q <= k -> kf (d q) < kf (d m)) : Ris kf (shl d m k) n := by
 intro p q e2 e3
 unfold shl
 have ep : p < m ∨ (m <= p /\ p < k) ∨ p = k ∨ k < p := by omega
 have eq : q < m ∨ (m <= q /\ q < k) ∨ q = k ∨ k < q := by omega
 rcases ep with e | e | e | e <;> rcases eq with f | f | f | f <;> try omega
 ·rw [if_neg (by omega),if_neg (by omega),if_neg (by omega),if_neg (by omega)]; exact hr _ _ (by omega) (by omega)
 ·rw [if_neg (by omega),if_neg (by omega),if_pos f]; exact hr _ _ (by omega) (by omega)
 ·rw [if_neg (by omega),if_neg (by omega),if_neg (by omega),if_pos f]; exact hr _ _ (by omega) (by omega)
 ·rw [if_neg (by omega),if_neg (by omega),if_neg (by omega),if_neg (by omega)]; exact hr _ _ (by omega) (by omega)
 ·rw [if_pos e,if_pos f]; exact hr _ _ (by omega) (by omega)
 ·rw [if_pos e,if_neg (by omega),if_pos f]; intro h; have := lo (p + 1) (by omega) (by omega); omega
 ·rw [if_pos e,if_neg (by omega),if_neg (by omega)]; exact hr _ _ (by omega) (by omega)
 ·rw [if_neg (by omega),if_pos e,if_neg (by omega),if_neg (by omega)]; exact hr _ _ (by omega) (by omega)
 ·rw [if_neg (by omega),if_neg (by omega),if_neg (by omega),if_neg (by omega)]; exact hr _ _ (by omega) (by omega)
theorem shr_srt {kf d : Nat -> Nat} {a m k : Nat} (hm : Srt kf d a m) (h1 : a <= k) (h2 : k <= m) (lo : ∀ q,a <= q -> q < k -> kf (d q) <= kf (d m)) (hi : ∀ q,k <= q -> q < m -> kf (d m) < kf (d q)) : Srt kf (shr d m k) a (m + 1) := by
 intro p q e1 e2 e3
 unfold shr
 have ep : p < k ∨ p = k ∨ (k < p /\ p <= m) := by omega
 have eq : q < k ∨ q = k ∨ (k < q /\ q <= m) := by omega
 rcases ep with e | e | e <;> rcases eq with f | f | f <;> try omega
 ·rw [if_neg (by omega),if_neg (by omega),if_neg (by omega),if_neg (by omega)]; exact hm _ _ (by omega) (by omega) (by omega)
 ·rw [if_neg (by omega),if_neg (by omega),if_neg (by omega),if_pos f]; exact lo p e1 e
 ·rw [if_neg (by omega),if_neg (by omega),if_pos f]; exact hm _ _ (by omega) (by omega) (by omega)
 ·rw [if_neg (by omega),if_pos e,if_pos f]; have := hi (q - 1) (by omega) (by omega); omega
 ·rw [if_pos e,if_pos f]; exact hm _ _ (by omega) (by omega) (by omega)
theorem shr_ris {kf d : Nat -> Nat} {m n k : Nat} (hr : Ris kf d n) (h1 : k <= m) (h2 : m < n) (hi : ∀ q,k <= q -> q < m -> kf (d m) < kf (d q)) : Ris kf (shr d m k) n := by
 intro p q e2 e3
 unfold shr
 have ep : p < k ∨ p = k ∨ (k < p /\ p <= m) ∨ m < p := by omega
 have eq : q < k ∨ q = k ∨ (k < q /\ q <= m) ∨ m < q := by omega
 rcases ep with e | e | e | e <;> rcases eq with f | f | f | f <;> try omega
 ·rw [if_neg (by omega),if_neg (by omega),if_neg (by omega),if_neg (by omega)]; exact hr _ _ (by omega) (by omega)
 ·rw [if_neg (by omega),if_neg (by omega),if_neg (by omega),if_pos f]; exact hr _ _ (by omega) (by omega)
 ·rw [if_neg (by omega),if_neg (by omega),if_pos f]; exact hr _ _ (by omega) (by omega)
 ·rw [if_neg (by omega),if_neg (by omega),if_neg (by omega),if_neg (by omega)]; exact hr _ _ (by omega) (by omega)
 ·rw [if_neg (by omega),if_pos e,if_pos f]; intro h; have := hi (q - 1) (by omega) (by omega); omega
 ·rw [if_neg (by omega),if_pos e,if_neg (by omega),if_neg (by omega)]; exact hr _ _ (by omega) (by omega)
 ·rw [if_pos e,if_pos f]; exact hr _ _ (by omega) (by omega)
 ·rw [if_pos e,if_neg (by omega),if_neg (by omega)]; exact hr _ _ (by omega) (by omega)
 ·rw [if_neg (by omega),if_neg (by omega),if_neg (by omega),if_neg (by omega)]; exact hr _ _ (by omega) (by omega)
theorem mid_facts {kf d : Nat -> Nat} {a m b n mid s : Nat} (hr : Ris kf d n) (h1 : Srt kf d a m) (h2 : Srt kf d m b) (ham : a < m) (_hmb : m < b) (hbn : b <= n) (hmid : mid = (a + b) / 2)
  (hs1 : a <= s) (hs2 : s <= m) (hs3 : s <= mid) (hs4 : m <= mid + m - s) (hs5 : mid + m - s <= b)
  (lo : ∀ c,c < s -> a <= c -> mid + m <= b + c -> kf (d c) <= kf (d (mid + m - 1 - c)))
  (hi : ∀ c,s <= c -> c < m -> c < mid -> kf (d (mid + m - 1 - c)) < kf (d c)) :
  let e := rot d s m (mid + m - s)
  Ris kf e n /\ Srt kf e a s /\ Srt kf e s mid /\ Srt kf e mid (mid + m - s) /\ Srt kf e (mid + m - s) b /\ (∀ p q,a <= p -> p < mid -> mid <= q -> q < b -> kf (e p) <= kf (e q)) := by
 intro e
 have key : ∀ p q,s <= p -> p < m -> m <= q -> q < mid + m - s -> kf (d q) < kf (d p) := by
  intro p q e1 e2 e3 e4
  have g1 := hi s (Nat.le_refl _) (by omega) (by omega)
  have g2 : kf (d s) <= kf (d p) := by
   by_cases h : s = p
   ·rw [h]; exact Nat.le_refl _
   ·exact h1 s p hs1 (by omega) e2
  have g3 : kf (d q) <= kf (d (mid + m - 1 - s)) := by
   by_cases h : q = mid + m - 1 - s
   ·rw [h]; exact Nat.le_refl _
   ·exact h2 q _ e3 (by omega) (by omega)
  omega
 have v0 : ∀ k,k < s ∨ mid + m - s <= k -> e k = d k := by
  intro k hk
  show rot d s m (mid + m - s) k = _
  unfold rot; rw [if_neg (by omega),if_neg (by omega)]
 have v1 : ∀ k,s <= k -> k < mid -> e k = d (k - s + m) := by
  intro k hk hk2
  show rot d s m (mid + m - s) k = _
  unfold rot; rw [if_pos (by omega)]
 have v2 : ∀ k,mid <= k -> k < mid + m - s -> e k = d (k - (mid - s)) := by
  intro k hk hk2
  show rot d s m (mid + m - s) k = _
  unfold rot; rw [if_neg (by omega),if_pos (by omega)]; congr 1; omega
 refine ⟨?_,?_,?_,?_,?_,?_⟩
 ·intro p q f1 f2
  have ep : p < s ∨ (s <= p /\ p < mid) ∨ (mid <= p /\ p < mid + m - s) ∨ mid + m - s <= p := by omega
  have eq : q < s ∨ (s <= q /\ q < mid) ∨ (mid <= q /\ q < mid + m - s) ∨ mid + m - s <= q := by omega
  rcases ep with f | f | f | f <;> rcases eq with g | g | g | g <;> try omega
  ·rw [v0 p (by omega),v0 q (by omega)]; exact hr _ _ (by omega) (by omega)
  ·rw [v0 p (by omega),v1 q g.1 g.2]; exact hr _ _ (by omega) (by omega)
  ·rw [v0 p (by omega),v2 q g.1 g.2]; exact hr _ _ (by omega) (by omega)
  ·rw [v0 p (by omega),v0 q (by omega)]; exact hr _ _ (by omega) (by omega)
  ·rw [v1 p f.1 f.2,v1 q g.1 g.2]; exact hr _ _ (by omega) (by omega)
  ·rw [v1 p f.1 f.2,v2 q g.1 g.2]; intro h; have := key (q - (mid - s)) (p - s + m) (by omega) (by omega) (by omega) (by omega); omega
  ·rw [v1 p f.1 f.2,v0 q (by omega)]; exact hr _ _ (by omega) (by omega)
  ·rw [v2 p f.1 f.2,v2 q g.1 g.2]; exact hr _ _ (by omega) (by omega)
  ·rw [v2 p f.1 f.2,v0 q (by omega)]; exact hr _ _ (by omega) (by omega)
  ·rw [v0 p (by omega),v0 q (by omega)]; exact hr _ _ (by omega) (by omega)
 ·intro p q f1 f2 f3
  rw [v0 p (by omega),v0 q (by omega)]; exact h1 _ _ (by omega) (by omega) (by omega)
 ·intro p q f1 f2 f3
  rw [v1 p (by omega) (by omega),v1 q (by omega) (by omega)]; exact h2 _ _ (by omega) (by omega) (by omega)
 ·intro p q f1 f2 f3
  rw [v2 p (by omega) (by omega),v2 q (by omega) (by omega)]; exact h1 _ _ (by omega) (by omega) (by omega)
 ·intro p q f1 f2 f3
  rw [v0 p (by omega),v0 q (by omega)]; exact h2 _ _ (by omega) (by omega) (by omega)
 ·intro p q f1 f2 f3 f4
  by_cases hp : p < s <;> by_cases hq : mid + m - s <= q
  ·rw [v0 p (by omega),v0 q (by omega)]
   have g1 := lo (s - 1) (by omega) (by omega) (by omega)
   have g2 : kf (d p) <= kf (d (s - 1)) := by
    by_cases h : p = s - 1
    ·rw [h]; exact Nat.le_refl _
    ·exact h1 p _ f1 (by omega) (by omega)
   have g3 : kf (d (mid + m - 1 - (s - 1))) <= kf (d q) := by
    by_cases h : q = mid + m - 1 - (s - 1)
    ·rw [h]; exact Nat.le_refl _
    ·exact h2 _ q (by omega) (by omega) (by omega)
   omega
  ·rw [v0 p (by omega),v2 q (by omega) (by omega)]; exact h1 _ _ (by omega) (by omega) (by omega)
  ·rw [v1 p (by omega) (by omega),v0 q (by omega)]; exact h2 _ _ (by omega) (by omega) (by omega)
  ·rw [v1 p (by omega) (by omega),v2 q (by omega) (by omega)]
   have := key (q - (mid - s)) (p - s + m) (by omega) (by omega) (by omega) (by omega)
   omega
theorem join_srt {kf e f : Nat -> Nat} {a mid b : Nat} (cr : ∀ p q,a <= p -> p < mid -> mid <= q -> q < b -> kf (e p) <= kf (e q))
  (g : Nat -> Nat) (h1 : Swaps a mid e g) (h2 : Swaps mid b g f) (s1 : Srt kf g a mid) (s2 : Srt kf f mid b) : Srt kf f a b := by
 intro p q e1 e2 e3
 by_cases hq : q < mid
 ·rw [h2.out p (by omega),h2.out q (by omega)]; exact s1 p q e1 e2 hq
 ·by_cases hp : p < mid
  ·rw [h2.out p (by omega)]
   obtain ⟨p',p1,p2,p3⟩ := h1.img p e1 hp
   obtain ⟨q',q1,q2,q3⟩ := h2.img q (by omega) e3
   rw [p3,q3,h1.out q' (by omega)]
   exact cr p' q' p1 p2 q1 q2
  ·exact s2 p q (by omega) e2 e3
end St
end
end Go.Proofs.YtmgpcbjciioiaaaGreatDoor
