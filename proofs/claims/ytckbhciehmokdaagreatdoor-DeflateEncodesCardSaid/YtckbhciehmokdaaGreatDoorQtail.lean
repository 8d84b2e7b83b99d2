import Derived.Test.YtckbhciehmokdaaGreatDoorRows
import Derived.WalkKit
import Derived.WalkSpells
import Derived.WalkLawsBesides
import Derived.Handy
import Derived.BigQuiet
import Derived.Deep.QuietTactic
import Derived.Lib.Hide
import Derived.Laws.CopyOwn
import Derived.Deep.RegionLawGrows
import Derived.StillTail
namespace Go.Proofs.YtckbhciehmokdaaGreatDoor.Bs
def num : List Bool -> Nat
 | [] => 0
 | b :: l => b.toNat + 2 * num l
theorem num_lt (l : List Bool) : num l < 2 ^ l.length := by
 induction l with
 | nil => simp [num]
 | cons b l ih =>
  have : b.toNat <= 1 := by cases b <;> simp
  simp only [num, List.length_cons, Nat.pow_succ]
  omega
theorem testBit_num (l : List Bool) (i : Nat) : (num l).testBit i = l[i]?.getD false := by
 induction l generalizing i with
 | nil => simp [num]
 | cons b l ih =>
  cases i with
  | zero =>
   simp only [num, Nat.testBit_zero, List.getElem?_cons_zero, Option.getD_some]
   cases b <;> simp <;> omega
  | succ i =>
   rw [Nat.testBit_succ]
   have : (num (b :: l)) / 2 = num l := by
    simp only [num]
    cases b <;> simp <;> omega
   rw [this, ih]
   simp
def byteAt (l : List Bool) (j : Nat) : Nat := num ((l.drop (8 * j)).take 8)
theorem byteAt_lt (l : List Bool) (j : Nat) : byteAt l j < 256 := by
 have h := num_lt ((l.drop (8 * j)).take 8)
 have h2 : ((l.drop (8 * j)).take 8).length <= 8 := List.length_take_le _ _
 have h3 : 2 ^ ((l.drop (8 * j)).take 8).length <= 2 ^ 8 := Nat.pow_le_pow_right (by omega) h2
 unfold byteAt
 omega
theorem testBit_byteAt (l : List Bool) (j i : Nat) : (byteAt l j).testBit i = (decide (i < 8) && (l[8 * j + i]?.getD false)) := by
 unfold byteAt
 rw [testBit_num]
 by_cases h : i < 8
 ·simp [h, List.getElem?_drop]
 ·simp [h, List.getElem?_take]
def packTo (m : Nat) (l : List Bool) : List Nat := (List.range m).map (byteAt l)
def pack (l : List Bool) : List Nat := packTo ((l.length + 7) / 8) l
theorem packTo_length (m : Nat) (l : List Bool) : (packTo m l).length = m := by simp [packTo]
theorem pack_length (l : List Bool) : (pack l).length = (l.length + 7) / 8 := by simp [pack, packTo]
theorem packTo_get (m : Nat) (l : List Bool) (j : Nat) (h : j < m) : (packTo m l)[j]?.getD 0 = byteAt l j := by
 simp [packTo, h]
theorem packTo_get' (m : Nat) (l : List Bool) (j : Nat) (h : j < m) : (packTo m l)[j]? = some (byteAt l j) := by
 simp [packTo, h]
def bitsOf (v n : Nat) : List Bool := (List.range n).map v.testBit
theorem bitsOf_length (v n : Nat) : (bitsOf v n).length = n := by simp [bitsOf]
theorem bitsOf_get (v n i : Nat) : (bitsOf v n)[i]?.getD false = (decide (i < n) && v.testBit i) := by
 by_cases h : i < n <;> simp [bitsOf, h]
theorem bitsOf_succ (v n : Nat) : bitsOf v (n + 1) = bitsOf v n ++ [v.testBit n] := by
 simp [bitsOf, List.range_succ]
theorem num_bitsOf (v n : Nat) (h : v < 2 ^ n) : num (bitsOf v n) = v := by
 apply Nat.eq_of_testBit_eq
 intro i
 rw [testBit_num, bitsOf_get]
 by_cases hi : i < n
 ·simp [hi]
 ·have : v.testBit i = false := Nat.testBit_lt_two_pow (Nat.lt_of_lt_of_le h (Nat.pow_le_pow_right (by omega) (by omega)))
  simp [this]
theorem num_take_succ (l : List Bool) (k : Nat) (h : k < l.length) : num (l.take (k + 1)) = num (l.take k) + (l[k]).toNat * 2 ^ k := by
 induction l generalizing k with
 | nil => simp at h
 | cons b l ih =>
  cases k with
  | zero => simp [num]
  | succ k =>
   simp only [List.length_cons] at h
   have := ih k (by omega)
   simp only [List.take_succ_cons, num, List.getElem_cons_succ, Nat.pow_succ]
   rw [this, Nat.mul_add]
   have e : l[k].toNat * (2 ^ k * 2) = 2 * (l[k].toNat * 2 ^ k) := by rw [Nat.mul_comm (2 ^ k) 2, <- Nat.mul_assoc, Nat.mul_comm _ 2, Nat.mul_assoc]
   rw [e]
   omega
theorem byteAt_snoc (l : List Bool) (b : Bool) (j : Nat) : byteAt (l ++ [b]) j = if j = l.length / 8 then byteAt l j ||| (b.toNat <<< (l.length % 8)) else byteAt l j := by
 apply Nat.eq_of_testBit_eq
 intro i
 have e1 : l.length % 8 + 8 * (l.length / 8) = l.length := by omega
 have hb : ∀ k, (b.toNat).testBit k = (decide (k = 0) && b) := by
  intro k
  cases b
  ·simp
  ·cases k with
   | zero => simp
   | succ k => rw [Nat.testBit_succ]; simp
 rw [testBit_byteAt]
 have app : (l ++ [b])[8 * j + i]?.getD false = if 8 * j + i = l.length then b else l[8 * j + i]?.getD false := by
  by_cases h : 8 * j + i < l.length
  ·rw [if_neg (by omega), List.getElem?_append_left h]
  ·rw [List.getElem?_append_right (by omega)]
   by_cases h2 : 8 * j + i = l.length
   ·simp [h2]
   ·rw [if_neg h2, List.getElem?_eq_none (by simp; omega), List.getElem?_eq_none (by omega)]
 rw [app]
 by_cases hj : j = l.length / 8
 ·rw [if_pos hj, Nat.testBit_or, testBit_byteAt, Nat.testBit_shiftLeft, hb]
  by_cases hi : i < 8
  ·by_cases hq : 8 * j + i = l.length
   ·have : i - l.length % 8 = 0 := by omega
    have h2 : l.length % 8 <= i := by omega
    rw [if_pos hq, hq]
    simp [hi, this, h2]
   ·rw [if_neg hq]
    by_cases h2 : i ≥ l.length % 8
    ·have : ¬ (i - l.length % 8 = 0) := by omega
     simp [hi, this]
    ·simp [h2]
  ·by_cases h2 : i ≥ l.length % 8
   ·have : ¬ (i - l.length % 8 = 0) := by omega
    simp [hi, this]
   ·omega
 ·rw [if_neg hj, testBit_byteAt]
  by_cases hi : i < 8
  ·have : ¬ (8 * j + i = l.length) := by omega
   simp [this]
  ·simp [hi]
theorem packTo_snoc (m : Nat) (l : List Bool) (b : Bool) : packTo m (l ++ [b]) = (packTo m l).set (l.length / 8) (byteAt l (l.length / 8) ||| (b.toNat <<< (l.length % 8))) := by
 apply List.ext_getElem?
 intro j
 rw [List.getElem?_set]
 by_cases h : j < m
 ·rw [packTo_get' _ _ _ h, packTo_get' _ _ _ h, byteAt_snoc]
  by_cases hj : l.length / 8 = j
  ·rw [if_pos hj.symm, if_pos hj, packTo_length, if_pos (by omega)]
   rw [<- hj]
  ·rw [if_neg (fun e => hj e.symm), if_neg hj]
 ·rw [List.getElem?_eq_none (by rw [packTo_length]; omega)]
  by_cases hj : l.length / 8 = j
  ·rw [if_pos hj, packTo_length, if_neg (by omega)]
  ·rw [if_neg hj, List.getElem?_eq_none (by rw [packTo_length]; omega)]
def bitsFrom (bs : List Nat) (n : Nat) : List Bool := (List.range n).map fun i => (bs[i / 8]?.getD 0).testBit (i % 8)
theorem bitsFrom_length (bs : List Nat) (n : Nat) : (bitsFrom bs n).length = n := by simp [bitsFrom]
theorem bitsFrom_get (bs : List Nat) (n i : Nat) (h : i < n) : (bitsFrom bs n)[i]?.getD false = (bs[i / 8]?.getD 0).testBit (i % 8) := by
 simp [bitsFrom, h]
def right (bs : List Nat) (n : Nat) : Prop := bs.length = (n + 7) / 8 /\ (n % 8 = 0 ∨ (bs[bs.length - 1]?.getD 0) / 2 ^ (n % 8) = 0)
theorem pack_bitsFrom (bs : List Nat) (n : Nat) (h : right bs n) (h8 : ∀ x ∈ bs, x < 256) : pack (bitsFrom bs n) = bs := by
 obtain ⟨h1, h2⟩ := h
 apply List.ext_getElem?
 intro j
 unfold pack
 rw [bitsFrom_length, <- h1]
 by_cases hj : j < bs.length
 ·rw [packTo_get' _ _ _ hj, List.getElem?_eq_getElem hj]
  congr 1
  apply Nat.eq_of_testBit_eq
  intro i
  rw [testBit_byteAt]
  have hlt : bs[j] < 256 := h8 _ (List.getElem_mem hj)
  by_cases hi : i < 8
  ·by_cases hn : 8 * j + i < n
   ·rw [bitsFrom_get _ _ _ hn]
    have e1 : (8 * j + i) / 8 = j := by omega
    have e2 : (8 * j + i) % 8 = i := by omega
    rw [e1, e2, List.getElem?_eq_getElem hj]
    simp [hi]
   ·rw [List.getElem?_eq_none (by rw [bitsFrom_length]; omega)]
    simp only [Option.getD_none, Bool.and_false]
    have hj2 : j = bs.length - 1 := by omega
    rcases h2 with h2 | h2
    ·omega
    ·rw [<- hj2, List.getElem?_eq_getElem hj, Option.getD_some] at h2
     have h3 : bs[j] < 2 ^ (n % 8) := by
      rcases Nat.div_eq_zero_iff.1 h2 with h | h
      ·exact absurd h (by have := Nat.two_pow_pos (n % 8); omega)
      ·exact h
     have : n % 8 <= i := by omega
     exact (Nat.testBit_lt_two_pow (Nat.lt_of_lt_of_le h3 (Nat.pow_le_pow_right (by omega) this))).symm
  ·simp only [hi, decide_false, Bool.false_and]
   exact (Nat.testBit_lt_two_pow (Nat.lt_of_lt_of_le hlt (show 2 ^ 8 <= 2 ^ i from Nat.pow_le_pow_right (by omega) (by omega)))).symm
 ·rw [List.getElem?_eq_none (by rw [packTo_length]; omega), List.getElem?_eq_none (by omega)]
theorem pack_right (l : List Bool) : right (pack l) l.length := by
 refine ⟨pack_length l, ?_⟩
 by_cases h : l.length % 8 = 0
 ·exact Or.inl h
 ·right
  rw [pack_length]
  unfold pack
  rw [packTo_get _ _ _ (by omega)]
  have e : byteAt l ((l.length + 7) / 8 - 1) < 2 ^ (l.length % 8) := by
   unfold byteAt
   refine Nat.lt_of_lt_of_le (num_lt _) (Nat.pow_le_pow_right (by omega) ?_)
   rw [List.length_take, List.length_drop]
   omega
  exact Nat.div_eq_of_lt e
theorem pack_lt (l : List Bool) : ∀ x ∈ pack l, x < 256 := by
 intro x hx
 simp only [pack, packTo, List.mem_map] at hx
 obtain ⟨j, _, rfl⟩ := hx
 exact byteAt_lt _ _
theorem bitsFrom_pack (l : List Bool) : bitsFrom (pack l) l.length = l := by
 apply List.ext_getElem?
 intro i
 by_cases h : i < l.length
 ·simp only [bitsFrom, List.getElem?_map, List.getElem?_range h, Option.map_some]
  unfold pack
  rw [packTo_get _ _ _ (by omega), testBit_byteAt]
  have e : 8 * (i / 8) + i % 8 = i := by omega
  rw [e, List.getElem?_eq_getElem h]
  have : i % 8 < 8 := by omega
  simp [this]
 ·rw [List.getElem?_eq_none (by rw [bitsFrom_length]; omega), List.getElem?_eq_none (by omega)]
end Go.Proofs.YtckbhciehmokdaaGreatDoor.Bs
namespace Go.Proofs.YtckbhciehmokdaaGreatDoor
set_option maxRecDepth 100000
set_option maxHeartbeats 8000000
open Go.RowKit
theorem LH {p : Prop} (h : p) : Hid p := h
theorem quiet_left {P : Program} {f : FuncId} {args : Array Value} {w : World} {n : Nat} {v : Value}
  (h : Calls P f args (w.drewN n) fun e w' => e = .returned v /\ w.drewN n = w') : Calls P f args (w.drewN n) fun e w'' => e = .returned v /\ ∃ m, w'' = w.drewN m :=
 h.mono fun _ _ ⟨he, hm⟩ => ⟨he, n, hm.symm⟩
theorem below_drewN {B : Nat} {a w : World} (h : Below B a w) (n : Nat) : Below B a (w.drewN n) := by
 exact ⟨h.os, h.tape, h.output, h.size, h.block⟩
def vb (bs : List Nat) : List Value := bs.map fun (x : Nat) => Value.int .u8 (x : Int)
def Sl (w : World) (s : Value) (bs : List Nat) : Prop :=
 ∃ a len cap, s = .slice a len cap /\ len = bs.length /\ len <= 281474976710656 /\ (a = none -> len = 0 /\ cap = 0) /\ (∀ x ∈ bs, x < 256) /\
  (0 < len -> ∃ b off, a = some ⟨b, off, none⟩ /\ b < w.heap.size /\ ∀ i, i < len -> w.cell? ⟨b, off + i, none⟩ = some (.int .u8 ((bs[i]?.getD 0 : Nat) : Int)))
theorem Sl.nil (w : World) : Sl w (.slice none 0 0) [] := ⟨none, 0, 0, rfl, rfl, by omega, fun _ => ⟨rfl, rfl⟩, fun _ h => (nomatch h), fun h => absurd h (by omega)⟩
theorem Sl.later {w w' : World} {s : Value} {bs : List Nat} (h : Sl w s bs) (hb : Below w.heap.size w w') : Sl w' s bs := by
 obtain ⟨a, len, cap, rfl, h1, h2, h3, h4, h5⟩ := h
 refine ⟨a, len, cap, rfl, h1, h2, h3, h4, fun hl => ?_⟩
 obtain ⟨b, off, rfl, hlt, hc⟩ := h5 hl
 refine ⟨b, off, rfl, Nat.lt_of_lt_of_le hlt hb.size, fun i hi => ?_⟩
 rw [hb.cell (p := ⟨b, off + i, none⟩) hlt]
 exact hc i hi
theorem vb_length (bs : List Nat) : (vb bs).length = bs.length := by simp [vb]
theorem vb_get (bs : List Nat) (i : Nat) : (vb bs)[i]? = (bs[i]?).map fun (x : Nat) => Value.int .u8 (x : Int) := by simp [vb]
theorem vb_append (bs cs : List Nat) : vb (bs ++ cs) = vb bs ++ vb cs := by simp [vb]
theorem vb_set (bs : List Nat) (i x : Nat) : vb (bs.set i x) = (vb bs).set i (.int .u8 (x : Int)) := by simp [vb, List.map_set]
theorem Sl.owned {w : World} {base : Nat} {s : Value} {n : Nat} {bs : List Nat} (h : w.ownsRow base 5 1 s n (vb bs)) (h8 : ∀ x ∈ bs, x < 256) (hn : n <= 281474976710656) : Sl w s bs := by
 obtain ⟨h1, h2⟩ := h
 have hl : n = bs.length := by simpa [vb] using h1.symm
 rcases h2 with ⟨rfl, rfl⟩ | ⟨g, cap, cur, rfl, hb, hg, hc1, hc2, hc3, hc4⟩
 ·exact ⟨none, 0, 0, rfl, hl, by omega, fun _ => ⟨rfl, rfl⟩, h8, fun h => absurd h (by omega)⟩
 ·have hown : w.ownsRow base 5 1 (.slice (some ⟨g, 0, none⟩) n cap) n (vb bs) := ⟨h1, Or.inr ⟨g, cap, cur, rfl, hb, hg, hc1, hc2, hc3, hc4⟩⟩
  refine ⟨_, n, cap, rfl, hl, hn, fun h => by simp at h, h8, fun _ => ⟨g, 0, rfl, (Array.getElem?_eq_some_iff.1 hg).1, fun i hi => ?_⟩⟩
  rw [Nat.zero_add, hown.cellAt i (by omega), vb_get, List.getElem?_eq_getElem (by omega)]
  simp
structure Only (g : Nat) (w w' : World) : Prop where
 os : w'.os = w.os
 tape : w'.tape = w.tape
 output : w'.output = w.output
 size : w.heap.size <= w'.heap.size
 block : ∀ k, k < w.heap.size -> k ≠ g -> w'.heap[k]? = w.heap[k]?
theorem Only.refl (g : Nat) (w : World) : Only g w w := ⟨rfl, rfl, rfl, Nat.le_refl _, fun _ _ _ => rfl⟩
theorem Only.below {g B : Nat} {a w w' : World} (h : Only g w w') (hb : Below B a w) (hB : B <= g) (hs : B <= w.heap.size) : Below B a w' :=
 hb.trans ⟨h.os, h.tape, h.output, h.size, fun k hk => h.block k (by omega) (by omega)⟩
theorem wpList_copy_only {P : Program} {w : World} {ops : Array Oper} {rest : List Oper} {o : Oper} {a : Act} {Q : Exit -> Act -> World -> Prop} (hgd : o.guard = none) (d s : Operand) (dT sT : TypeId)
  (ho : o.op = .call { callee := .builtin .copy, args := #[d, s], argTypes := #[dT, sT] }) (elem : TypeId) (hu : P.underlying dT = some (.slice elem)) (hsz : (P.info? elem).map (·.size) = some 1)
  (dp sp : Option Addr) (dLen dCap sLen sCap : Nat) (hd : a.eval d = .slice dp dLen dCap) (hs : a.eval s = .slice sp sLen sCap)
  (g off : Nat) (cur : List Value) (t : TypeId) (hg : w.heap[g]? = some (.cells cur.toArray t (0, 0))) (cs : List Value) (hn : cs.length = Nat.min sLen dLen)
  (hpos : 0 < cs.length -> dp = some ⟨g, off, none⟩ /\ ∃ ad, sp = some ad /\ ∀ j v, cs[j]? = some v -> w.cell? (ad.add j) = some v)
  (hfit : off + cs.length <= cur.length) (h1 : ∀ v ∈ cs, v.oneCell' = true)
  (h : ∀ w', Hid (w'.heap[g]? = some (.cells (splice cur off cs).toArray t (0, 0))) -> Only g w w' -> wpList P ops Q rest (a.put o.dst (goInt cs.length)) w') :
  wpList P ops Q (o :: rest) a w := by
 by_cases h0 : cs.length = 0
 ·obtain rfl : cs = [] := List.eq_nil_of_length_eq_zero h0
  refine wpList_copy_nothing hgd d s dT sT ho elem hu hsz dp sp dLen dCap sLen sCap hd hs (by simpa using hn.symm) ?_
  exact h w (show _ = _ by simpa [splice] using hg) (Only.refl _ _)
 ·obtain ⟨rfl, ad, rfl, hsrc⟩ := hpos (by omega)
  refine wpList_copy_own hgd d s dT sT ho elem hu hsz g off dLen dCap ad sLen sCap hd hs cur.toArray t hg cs hn hsrc (by simpa using hfit) h1 ?_
  exact h _ (show _ = _ by simpa [splice] using setRow_heap w g _ _ t _ hg) ⟨rfl, rfl, rfl, by simp [World.setRow], fun k _ hk => setRow_other w g k _ (by omega)⟩
theorem oneCell_vb (bs : List Nat) : ∀ v ∈ vb bs, v.oneCell' = true := by
 intro v hv
 simp only [vb, List.mem_map] at hv
 obtain ⟨x, _, rfl⟩ := hv
 rfl
theorem Sl.cells {w : World} {a : Option Addr} {len cap : Nat} {bs : List Nat} (h : Sl w (.slice a len cap) bs) (hl : 0 < len) : ∃ ad, a = some ad /\ ∀ j v, (vb bs)[j]? = some v -> w.cell? (ad.add j) = some v := by
 obtain ⟨a', len', cap', he, h1, h2, h3, h4, h5⟩ := h
 injection he with e1 e2 e3
 subst e1 e2 e3
 obtain ⟨b, off, rfl, hlt, hc⟩ := h5 hl
 refine ⟨_, rfl, fun j v hj => ?_⟩
 rw [vb_get] at hj
 have hjl : j < bs.length := by
  rcases Nat.lt_or_ge j bs.length with h | h
  ·exact h
  ·rw [List.getElem?_eq_none h] at hj; cases hj
 have e : (⟨b, off, none⟩ : Addr).add j = ⟨b, off + j, none⟩ := by
  cases j <;> simp [Addr.add]
 rw [e, hc j (by omega)]
 rw [List.getElem?_eq_getElem hjl] at hj ⊢
 simpa using hj
theorem Sl.len {w : World} {a : Option Addr} {len cap : Nat} {bs : List Nat} (h : Sl w (.slice a len cap) bs) : len = bs.length /\ len <= 281474976710656 /\ (a = none -> len = 0 /\ cap = 0) := by
 obtain ⟨a', len', cap', he, h1, h2, h3, h4, h5⟩ := h
 injection he with e1 e2 e3
 subst e1 e2 e3
 exact ⟨h1, h2, h3⟩
theorem Sl.shape {w : World} {s : Value} {bs : List Nat} (h : Sl w s bs) : ∃ a len cap, s = .slice a len cap /\ len = bs.length := by
 obtain ⟨a', len', cap', he, h1, _⟩ := h
 exact ⟨_, _, _, he, h1⟩
def Has (w : World) (b : Nat) (o : Obj) : Prop := w.heap[b]? = some o
theorem Has.lt {w : World} {b : Nat} {o : Obj} (h : Has w b o) : b < w.heap.size := lt_of_block h
theorem Has.later {w w' : World} {b : Nat} {o : Obj} (h : Has w b o) (hb : Below w.heap.size w w') : Has w' b o := (hb.block b h.lt).trans h
theorem Has.below {B : Nat} {w w' : World} {b : Nat} {o : Obj} (h : Has w b o) (hb : Below B w w') (hB : b < B) : Has w' b o := (hb.block b hB).trans h
theorem Has.new (w : World) (o : Obj) : Has (w.alloc o) w.heap.size o := by
 show (w.heap.push o)[_]? = _
 simp
theorem Has.alloc {w : World} {b : Nat} {o : Obj} (h : Has w b o) (o' : Obj) : Has (w.alloc o') b o := (Below.heap_alloc w o' b h.lt).trans h
theorem Has.set {w : World} {b : Nat} {o : Obj} (h : Has w b o) {a : Addr} (hne : b ≠ a.block) (v : Value) : Has (w.setCell a v) b o := (Below.heap_setCell w a v b hne).trans h
theorem Has.only {g : Nat} {w w' : World} {b : Nat} {o : Obj} (h : Has w b o) (ho : Only g w w') (hne : b ≠ g) : Has w' b o := (ho.block b h.lt hne).trans h
theorem Has.setSelf {w : World} {b i : Nat} {cs : Array Value} {t : TypeId} (h : Has w b (.cells cs t (0, 0))) (u : Value) : Has (w.setCell ⟨b, i, none⟩ u) b (.cells (cs.setIfInBounds i u) t (0, 0)) := by
 have h' : w.heap[b]? = some (.cells cs t (0, 0)) := h
 show (w.setCell ⟨b, i, none⟩ u).heap[b]? = _
 simp [World.setCell, Array.getElem?_modify, h']
theorem Has.cell {w : World} {b : Nat} {cs : Array Value} {t : TypeId} (h : Has w b (.cells cs t (0, 0))) (i : Nat) : w.cell? ⟨b, i, none⟩ = cs[i]? := by
 have h' : w.heap[b]? = some (.cells cs t (0, 0)) := h
 simp [World.cell?, h']
theorem Has.free {w : World} {b : Nat} {cs : Array Value} {t : TypeId} (h : Has w b (.cells cs t (0, 0))) (i : Nat) : w.frozen? ⟨b, i, none⟩ = false := by
 have h' : w.heap[b]? = some (.cells cs t (0, 0)) := h
 simp [World.frozen?, h']
theorem Has.two {w : World} {b : Nat} {x y : Value} {t : TypeId} (h : Has w b (.cells #[x, y] t (0, 0))) :
  w.cell? ⟨b, 0, none⟩ = some x /\ w.cell? ⟨b, 1, none⟩ = some y /\ w.frozen? ⟨b, 0, none⟩ = false /\ w.frozen? ⟨b, 1, none⟩ = false :=
 ⟨by rw [h.cell]; rfl, by rw [h.cell]; rfl, h.free 0, h.free 1⟩
theorem Has.one {w : World} {b : Nat} {x : Value} {t : TypeId} (h : Has w b (.cells #[x] t (0, 0))) : w.cell? ⟨b, 0, none⟩ = some x /\ w.frozen? ⟨b, 0, none⟩ = false :=
 ⟨by rw [h.cell]; rfl, h.free 0⟩
theorem below1 (w : World) (o1 : Obj) : Below w.heap.size w (w.alloc o1) := (Below.refl _ _).alloc (Nat.le_refl _) _
theorem below2 (w : World) (o1 o2 : Obj) : Below w.heap.size w ((w.alloc o1).alloc o2) := (below1 w o1).alloc (by simp) _
theorem below3 (w : World) (o1 o2 o3 : Obj) : Below w.heap.size w (((w.alloc o1).alloc o2).alloc o3) := (below2 w o1 o2).alloc (by simp; omega) _
theorem facts1 {w w1 : World} {o1 : Obj} (h : Below (w.alloc o1).heap.size (w.alloc o1) w1) : Has w1 w.heap.size o1 /\ Below w.heap.size w w1 /\ w.heap.size + 1 <= w1.heap.size :=
 ⟨(Has.new w o1).later h, (below1 w o1).trans (h.mono (by simp)), by have := h.size; simpa using this⟩
theorem facts2 {w w1 : World} {o1 o2 : Obj} (h : Below ((w.alloc o1).alloc o2).heap.size ((w.alloc o1).alloc o2) w1) :
  Has w1 w.heap.size o1 /\ Has w1 (w.heap.size + 1) o2 /\ Below w.heap.size w w1 /\ w.heap.size + 2 <= w1.heap.size :=
 ⟨((Has.new w o1).alloc o2).later h, by have := (Has.new (w.alloc o1) o2).later h; simpa using this, (below2 w o1 o2).trans (h.mono (by simp; omega)), by have := h.size; simp at this; omega⟩
theorem facts3 {w w1 : World} {o1 o2 o3 : Obj} (h : Below (((w.alloc o1).alloc o2).alloc o3).heap.size (((w.alloc o1).alloc o2).alloc o3) w1) :
  Has w1 w.heap.size o1 /\ Has w1 (w.heap.size + 1) o2 /\ Has w1 (w.heap.size + 2) o3 /\ Below w.heap.size w w1 /\ w.heap.size + 3 <= w1.heap.size :=
 ⟨(((Has.new w o1).alloc o2).alloc o3).later h, by have := ((Has.new (w.alloc o1) o2).alloc o3).later h; simpa using this, by have := (Has.new ((w.alloc o1).alloc o2) o3).later h; simpa using this,
  (below3 w o1 o2 o3).trans (h.mono (by simp; omega)), by have := h.size; simp at this; omega⟩
end Go.Proofs.YtckbhciehmokdaaGreatDoor
namespace Go.Proofs.YtckbhciehmokdaaGreatDoor
set_option maxRecDepth 100000
set_option maxHeartbeats 8000000
open Go.RowKit
theorem isNaN_any (x : Int) (w : World) : Calls Tryz.prog 131 #[.int .i64 x] w fun e w' => e = .returned (.bool false) /\ w = w' := by
 go_enter Tryz.func131, Tryz.ntmps131
 go_wp2
 go_ret
 exact ⟨by simp, rfl⟩
def cmpv (a b : Nat) : Int := if a < b then -1 else if b < a then 1 else 0
theorem cmpv_neg (a b : Nat) : decide (cmpv a b < 0) = decide (a < b) := by
 unfold cmpv
 by_cases h : a < b
 ·simp [h]
 ·by_cases h2 : b < a <;> simp [h, h2]
theorem compare_any (a b : Nat) (w : World) : Calls Tryz.prog 90 #[.int .i64 (a : Int), .int .i64 (b : Int)] w fun e w' => e = .returned (.int .i64 (cmpv a b)) /\ w = w' := by
 by_cases h : a < b
 ·have e : cmpv a b = -1 := by unfold cmpv; rw [if_pos h]
  rw [e]
  clear e
  go_enter Tryz.func90, Tryz.ntmps90
  go_wp2_with (go_at_call 131; refine (isNaN_any _ _).mono ?_; rintro e w' ⟨rfl, rfl⟩)
  go_ret
  exact ⟨rfl, rfl⟩
 ·by_cases h2 : b < a
  ·have e : cmpv a b = 1 := by unfold cmpv; rw [if_neg h, if_pos h2]
   rw [e]
   clear e
   go_enter Tryz.func90, Tryz.ntmps90
   go_wp2_with (go_at_call 131; refine (isNaN_any _ _).mono ?_; rintro e w' ⟨rfl, rfl⟩)
   go_ret
   exact ⟨rfl, rfl⟩
  ·have e : cmpv a b = 0 := by unfold cmpv; rw [if_neg h, if_neg h2]
   rw [e]
   clear e
   go_enter Tryz.func90, Tryz.ntmps90
   go_wp2_with (go_at_call 131; refine (isNaN_any _ _).mono ?_; rintro e w' ⟨rfl, rfl⟩)
   go_ret
   exact ⟨rfl, rfl⟩
structure Lens (B : Nat) (w : World) (L : Nat) (ls : List Nat) : Prop where
 size : B <= w.heap.size
 some : ∃ a len cap, w.cell? ⟨L, 0, none⟩ = some (.slice a len cap) /\ len = ls.length /\ len <= 288 /\ L < B /\
  (0 < len -> ∃ b off, a = some ⟨b, off, none⟩ /\ b < B /\ ∀ i, i < len -> w.cell? ⟨b, off + i, none⟩ = some (.int .i64 ((ls[i]?.getD 0 : Nat) : Int)))
theorem Lens.below {B : Nat} {w w' : World} {L : Nat} {ls : List Nat} (h : Lens B w L ls) (hb : Below B w w') : Lens B w' L ls := by
 obtain ⟨a, len, cap, h1, h2, h3, h4, h5⟩ := h.some
 refine ⟨Nat.le_trans h.size hb.size, a, len, cap, ?_, h2, h3, h4, fun hl => ?_⟩
 ·rw [hb.cell (p := ⟨L, 0, none⟩) h4]; exact h1
 ·obtain ⟨b, off, rfl, hlt, hc⟩ := h5 hl
  refine ⟨b, off, rfl, hlt, fun i hi => ?_⟩
  rw [hb.cell (p := ⟨b, off + i, none⟩) hlt]
  exact hc i hi
theorem key_any (B L x : Nat) (ls : List Nat) (w : World) (hL : Lens B w L ls) (hx : x < ls.length) :
  Calls Tryz.prog 203 #[.int .i64 (x : Int), .pointer (some ⟨L, 0, none⟩)] w fun e w' => e = .returned (.int .i64 ((ls[x]?.getD 0 : Nat) : Int)) /\ w = w' := by
 obtain ⟨a, len, cap, h1, h2, h3, h4, h5⟩ := hL.some
 have hlt : x < len := by omega
 obtain ⟨b, off, rfl, hb, hc⟩ := h5 (by omega)
 have hcx := hc x hlt
 clear h2 h5 hc hx hL
 go_enter Tryz.func203, Tryz.ntmps203
 go_wp2
 go_ret
 exact ⟨rfl, rfl⟩
def CmpPost (w : World) (c : Int) (e : Ending) (w' : World) : Prop := e = .returned (.int .i64 c) /\ ∃ n, w' = w.drewN n
theorem cmp_any (B K L x y : Nat) (ls : List Nat) (w : World) (hK : w.cell? ⟨K, 0, none⟩ = some (.func (.func 203) #[] #[.pointer (some ⟨L, 0, none⟩)])) (hL : Lens B w L ls) (hx : x < ls.length) (hy : y < ls.length) :
  Calls Tryz.prog 220 #[.int .i64 (x : Int), .int .i64 (y : Int), .pointer (some ⟨K, 0, none⟩)] w (CmpPost w (cmpv (ls[x]?.getD 0) (ls[y]?.getD 0))) := by
 obtain ⟨p, hp⟩ : ∃ p, p = ls[x]?.getD 0 := ⟨_, rfl⟩
 obtain ⟨q, hq⟩ : ∃ q, q = ls[y]?.getD 0 := ⟨_, rfl⟩
 have kx := fun n => key_any B L x ls (w.drewN n) (hL.below (below_drewN (Below.refl _ _) n)) hx
 have ky := fun n => key_any B L y ls (w.drewN n) (hL.below (below_drewN (Below.refl _ _) n)) hy
 rw [<- hp] at kx
 rw [<- hq] at ky
 rw [<- hp, <- hq]
 clear hp hq hL hx hy
 go_enter Tryz.func220, Tryz.ntmps220
 go_wp2
 go_quiet ((first | (go_at_call 203; exact quiet_left (kx _)) | (go_at_call 203; exact quiet_left (ky _)) | (go_at_call 90; exact quiet_left (compare_any p q _))))
 go_wp2
 go_ret
 exact ⟨rfl, _, rfl⟩
end Go.Proofs.YtckbhciehmokdaaGreatDoor
namespace Go.Proofs.YtckbhciehmokdaaGreatDoor
set_option maxRecDepth 100000
set_option maxHeartbeats 8000000
namespace St
def sw (d : Nat -> Nat) (i j : Nat) : Nat -> Nat := fun k => if k = i then d j else if k = j then d i else d k
inductive Swaps (a b : Nat) : (Nat -> Nat) -> (Nat -> Nat) -> Prop
 | refl (d) : Swaps a b d d
 | step {d e i j} : Swaps a b d e -> a <= i -> i < b -> a <= j -> j < b -> Swaps a b d (sw e i j)
theorem Swaps.trans {a b : Nat} {d e f : Nat -> Nat} (h : Swaps a b d e) (k : Swaps a b e f) : Swaps a b d f := by
 induction k with
 | refl => exact h
 | step _ h1 h2 h3 h4 ih => exact .step ih h1 h2 h3 h4
theorem Swaps.mono {a b a' b' : Nat} {d e : Nat -> Nat} (h : Swaps a b d e) (ha : a' <= a) (hb : b <= b') : Swaps a' b' d e := by
 induction h with
 | refl => exact .refl _
 | step _ h1 h2 h3 h4 ih => exact .step ih (by omega) (by omega) (by omega) (by omega)
theorem Swaps.out {a b : Nat} {d e : Nat -> Nat} (h : Swaps a b d e) (k : Nat) (hk : k < a ∨ b <= k) : e k = d k := by
 induction h with
 | refl => rfl
 | step _ h1 h2 h3 h4 ih => unfold sw; rw [if_neg (by omega), if_neg (by omega)]; exact ih
theorem Swaps.img {a b : Nat} {d e : Nat -> Nat} (h : Swaps a b d e) (k : Nat) (h1 : a <= k) (h2 : k < b) : ∃ k', a <= k' /\ k' < b /\ e k = d k' := by
 induction h generalizing k with
 | refl => exact ⟨k, h1, h2, rfl⟩
 | @step e i j _ g1 g2 g3 g4 ih =>
  unfold sw
  by_cases hi : k = i
  ·rw [if_pos hi]; exact ih j g3 g4
  ·rw [if_neg hi]
   by_cases hj : k = j
   ·rw [if_pos hj]; exact ih i g1 g2
   ·rw [if_neg hj]; exact ih k h1 h2
theorem Swaps.back {a b : Nat} {d e : Nat -> Nat} (h : Swaps a b d e) (k : Nat) (h1 : a <= k) (h2 : k < b) : ∃ k', a <= k' /\ k' < b /\ d k = e k' := by
 induction h with
 | refl => exact ⟨k, h1, h2, rfl⟩
 | @step e i j _ g1 g2 g3 g4 ih =>
  obtain ⟨q, q1, q2, q3⟩ := ih
  unfold sw
  by_cases hi : q = i
  ·refine ⟨j, g3, g4, ?_⟩
   by_cases hj : j = i
   ·rw [if_pos hj, q3, hi, hj]
   ·rw [if_neg hj, if_pos rfl, q3, hi]
  ·by_cases hj : q = j
   ·exact ⟨i, g1, g2, by rw [if_pos rfl, q3, hj]⟩
   ·exact ⟨q, q1, q2, by rw [if_neg hi, if_neg hj]; exact q3⟩
theorem Swaps.all {a b n : Nat} {d e : Nat -> Nat} (h : Swaps a b d e) (hb : b <= n) (p : Nat -> Prop) (hp : ∀ i, i < n -> p (d i)) : ∀ i, i < n -> p (e i) := by
 intro i hi
 by_cases hk : i < a ∨ b <= i
 ·rw [h.out i hk]; exact hp i hi
 ·obtain ⟨k, h1, h2, h3⟩ := h.img i (by omega) (by omega)
  rw [h3]; exact hp k (by omega)
def Srt (kf : Nat -> Nat) (d : Nat -> Nat) (a b : Nat) : Prop := ∀ p q, a <= p -> p < q -> q < b -> kf (d p) <= kf (d q)
def Ris (kf : Nat -> Nat) (d : Nat -> Nat) (n : Nat) : Prop := ∀ p q, p < q -> q < n -> kf (d p) = kf (d q) -> d p < d q
theorem Srt.keep {kf d e : Nat -> Nat} {a b : Nat} (h : Srt kf d a b) (he : ∀ k, a <= k -> k < b -> e k = d k) : Srt kf e a b := by
 intro p q h1 h2 h3
 rw [he p (by omega) (by omega), he q (by omega) (by omega)]
 exact h p q h1 h2 h3
theorem Srt.sub {kf d : Nat -> Nat} {a b a' b' : Nat} (h : Srt kf d a b) (ha : a <= a') (hb : b' <= b) : Srt kf d a' b' := fun p q h1 h2 h3 => h p q (by omega) h2 (by omega)
def Ins (kf d : Nat -> Nat) (a i j : Nat) : Prop := ∀ p q, a <= p -> p < q -> q <= i -> q ≠ j -> kf (d p) <= kf (d q)
theorem Ins.start {kf d : Nat -> Nat} {a i : Nat} (h : Srt kf d a i) : Ins kf d a i i := fun p q h1 h2 h3 h4 => h p q h1 h2 (by omega)
theorem Ins.first {kf d : Nat -> Nat} {a i : Nat} (h : Ins kf d a i a) : Srt kf d a (i + 1) := fun p q h1 h2 h3 => h p q h1 h2 (by omega) (by omega)
theorem Ins.stop {kf d : Nat -> Nat} {a i j : Nat} (h : Ins kf d a i j) (hj : a < j) (hji : j <= i) (hge : ¬ kf (d j) < kf (d (j - 1))) : Srt kf d a (i + 1) := by
 intro p q h1 h2 h3
 by_cases hq : q = j
 ·subst hq
  by_cases hp : p = q - 1
  ·subst hp; omega
  ·have := h p (q - 1) h1 (by omega) (by omega) (by omega)
   omega
 ·exact h p q h1 h2 (by omega) hq
theorem Ins.step {kf d : Nat -> Nat} {a i j : Nat} (h : Ins kf d a i j) (hj : a < j) (hji : j <= i) (hlt : kf (d j) < kf (d (j - 1))) : Ins kf (sw d j (j - 1)) a i (j - 1) := by
 intro p q h1 h2 h3 h4
 unfold sw
 have ep : p = j ∨ p = j - 1 ∨ (p ≠ j /\ p ≠ j - 1) := by omega
 have eq : q = j ∨ (q ≠ j /\ q ≠ j - 1) := by omega
 rcases ep with rfl | rfl | ⟨e1, e2⟩ <;> rcases eq with rfl | ⟨e3, e4⟩
 ·omega
 ·rw [if_pos rfl, if_neg e3, if_neg e4]; exact h _ q (by omega) (by omega) h3 e3
 ·rw [if_neg (by omega), if_pos rfl, if_pos rfl]; omega
 ·rw [if_neg (by omega), if_pos rfl, if_neg e3, if_neg e4]; exact h _ q (by omega) (by omega) h3 e3
 ·rw [if_neg e1, if_neg e2, if_pos rfl]; exact h p _ h1 (by omega) (by omega) (by omega)
 ·rw [if_neg e1, if_neg e2, if_neg e3, if_neg e4]; exact h p q h1 h2 h3 e3
theorem Ris.step {kf d : Nat -> Nat} {n j : Nat} (h : Ris kf d n) (hj : 0 < j) (hjn : j < n) (hlt : kf (d j) < kf (d (j - 1))) : Ris kf (sw d j (j - 1)) n := by
 intro p q h2 h3
 unfold sw
 have ep : p = j ∨ p = j - 1 ∨ (p ≠ j /\ p ≠ j - 1) := by omega
 have eq : q = j ∨ q = j - 1 ∨ (q ≠ j /\ q ≠ j - 1) := by omega
 rcases ep with rfl | rfl | ⟨e1, e2⟩ <;> rcases eq with rfl | rfl | ⟨e3, e4⟩
 ·omega
 ·omega
 ·rw [if_pos rfl, if_neg e3, if_neg e4]; exact h _ q (by omega) h3
 ·rw [if_neg (by omega), if_pos rfl, if_pos rfl]; intro h4; omega
 ·omega
 ·rw [if_neg (by omega), if_pos rfl, if_neg e3, if_neg e4]; exact h _ q (by omega) h3
 ·rw [if_neg e1, if_neg e2, if_pos rfl]; exact h p _ (by omega) (by omega)
 ·rw [if_neg e1, if_neg e2, if_neg (by omega), if_pos rfl]; exact h p _ (by omega) (by omega)
 ·rw [if_neg e1, if_neg e2, if_neg e3, if_neg e4]; exact h p q h2 h3
def exch (d : Nat -> Nat) (a b m : Nat) : Nat -> Nat := fun k => if a <= k /\ k < a + m then d (k - a + b) else if b <= k /\ k < b + m then d (k - b + a) else d k
theorem exch_zero (d : Nat -> Nat) (a b : Nat) : exch d a b 0 = d := by
 funext k; unfold exch; rw [if_neg (by omega), if_neg (by omega)]
theorem exch_succ (d : Nat -> Nat) (a b m : Nat) (h : a + m < b) : exch d a b (m + 1) = sw (exch d a b m) (a + m) (b + m) := by
 funext k; unfold sw exch
 by_cases h1 : k = a + m
 ·subst h1
  rw [if_pos (by omega), if_pos rfl, if_neg (by omega), if_neg (by omega)]; congr 1; omega
 ·by_cases h2 : k = b + m
  ·subst h2
   rw [if_neg (by omega), if_pos (by omega), if_neg (by omega), if_pos rfl, if_neg (by omega), if_neg (by omega)]; congr 1; omega
  ·rw [if_neg h1, if_neg h2]
   by_cases h3 : a <= k /\ k < a + m
   ·rw [if_pos (by omega), if_pos h3]
   ·by_cases h4 : b <= k /\ k < b + m
    ·rw [if_neg (by omega), if_pos (by omega), if_neg h3, if_pos h4]
    ·rw [if_neg (by omega), if_neg (by omega), if_neg h3, if_neg h4]
theorem exch_swaps (d : Nat -> Nat) (a b m lo hi : Nat) (h1 : lo <= a) (h2 : a + m <= b) (h3 : b + m <= hi) : Swaps lo hi d (exch d a b m) := by
 induction m with
 | zero => rw [exch_zero]; exact .refl _
 | succ m ih =>
  rw [exch_succ _ _ _ _ (by omega)]
  exact .step (ih (by omega) (by omega)) (by omega) (by omega) (by omega) (by omega)
def rot (d : Nat -> Nat) (a m b : Nat) : Nat -> Nat := fun k => if a <= k /\ k < a + (b - m) then d (k - a + m) else if a + (b - m) <= k /\ k < b then d (k - (b - m)) else d k
theorem rot_left (d : Nat -> Nat) (a b : Nat) : rot d a a b = d := by
 funext k; unfold rot
 by_cases h : a <= k /\ k < a + (b - a)
 ·rw [if_pos h]; congr 1; omega
 ·rw [if_neg h]
  by_cases h2 : a + (b - a) <= k /\ k < b
  ·omega
  ·rw [if_neg h2]
theorem rot_right (d : Nat -> Nat) (a b : Nat) : rot d a b b = d := by
 funext k; unfold rot
 rw [if_neg (by omega)]
 by_cases h : a + (b - b) <= k /\ k < b
 ·rw [if_pos h]; congr 1; omega
 ·rw [if_neg h]
theorem rot_big (d : Nat -> Nat) (m i j : Nat) (hi : i <= m) (h : j < i) : rot (exch d (m - i) m j) (m - i + j) m (m + j) = rot d (m - i) m (m + j) := by
 funext k; unfold rot exch
 have ek : k < m - i ∨ (m - i <= k /\ k < m - i + j) ∨ (m - i + j <= k /\ k < m - i + j + j) ∨ (m - i + j + j <= k /\ k < m + j) ∨ m + j <= k := by omega
 rcases ek with e | e | e | e | e
 ·rw [if_neg (by omega), if_neg (by omega), if_neg (by omega), if_neg (by omega), if_neg (by omega), if_neg (by omega)]
 ·rw [if_neg (by omega), if_neg (by omega), if_pos (by omega), if_pos (by omega)]
 ·rw [if_pos (by omega), if_neg (by omega), if_pos (by omega), if_neg (by omega), if_pos (by omega)]; congr 1; omega
 ·rw [if_neg (by omega), if_pos (by omega), if_neg (by omega), if_neg (by omega), if_neg (by omega), if_pos (by omega)]
 ·rw [if_neg (by omega), if_neg (by omega), if_neg (by omega), if_neg (by omega), if_neg (by omega), if_neg (by omega)]
theorem rot_less (d : Nat -> Nat) (m i j : Nat) (hi : i <= m) (h : i < j) : rot (exch d (m - i) (m + j - i) i) (m - i) m (m + j - i) = rot d (m - i) m (m + j) := by
 funext k; unfold rot exch
 have ek : k < m - i ∨ (m - i <= k /\ k < m - i + (j - i)) ∨ (m - i + (j - i) <= k /\ k < m - i + j) ∨ (m - i + j <= k /\ k < m + j) ∨ m + j <= k := by omega
 rcases ek with e | e | e | e | e
 ·rw [if_neg (by omega), if_neg (by omega), if_neg (by omega), if_neg (by omega), if_neg (by omega), if_neg (by omega)]
 ·rw [if_pos (by omega), if_neg (by omega), if_neg (by omega), if_pos (by omega)]
 ·rw [if_neg (by omega), if_pos (by omega), if_pos (by omega), if_pos (by omega)]; congr 1; omega
 ·rw [if_neg (by omega), if_neg (by omega), if_neg (by omega), if_pos (by omega), if_neg (by omega), if_pos (by omega)]; congr 1; omega
 ·rw [if_neg (by omega), if_neg (by omega), if_neg (by omega), if_neg (by omega), if_neg (by omega), if_neg (by omega)]
theorem rot_same (d : Nat -> Nat) (m i : Nat) (hi : i <= m) : exch d (m - i) m i = rot d (m - i) m (m + i) := by
 funext k; unfold rot exch
 have ek : k < m - i ∨ (m - i <= k /\ k < m) ∨ (m <= k /\ k < m + i) ∨ m + i <= k := by omega
 rcases ek with e | e | e | e
 ·rw [if_neg (by omega), if_neg (by omega), if_neg (by omega), if_neg (by omega)]
 ·rw [if_pos (by omega), if_pos (by omega)]
 ·rw [if_neg (by omega), if_pos (by omega), if_neg (by omega), if_pos (by omega)]; congr 1; omega
 ·rw [if_neg (by omega), if_neg (by omega), if_neg (by omega), if_neg (by omega)]
def shl (d : Nat -> Nat) (a k : Nat) : Nat -> Nat := fun p => if a <= p /\ p < k then d (p + 1) else if p = k then d a else d p
theorem shl_zero (d : Nat -> Nat) (a : Nat) : shl d a a = d := by
 funext p; unfold shl; rw [if_neg (by omega)]
 by_cases h : p = a
 ·rw [if_pos h, h]
 ·rw [if_neg h]
theorem shl_succ (d : Nat -> Nat) (a k : Nat) (h : a <= k) : shl d a (k + 1) = sw (shl d a k) k (k + 1) := by
 funext p; unfold sw shl
 by_cases h1 : p = k
 ·subst h1; rw [if_pos (by omega), if_pos rfl, if_neg (by omega), if_neg (by omega)]
 ·by_cases h2 : p = k + 1
  ·subst h2; rw [if_neg (by omega), if_pos rfl, if_neg h1, if_pos rfl, if_neg (by omega), if_pos rfl]
  ·rw [if_neg h1, if_neg h2]
   by_cases h3 : a <= p /\ p < k
   ·rw [if_pos (by omega), if_pos h3, if_neg h2]
   ·rw [if_neg (by omega), if_neg (by omega), if_neg h3, if_neg h1]
def shr (d : Nat -> Nat) (m k : Nat) : Nat -> Nat := fun p => if k < p /\ p <= m then d (p - 1) else if p = k then d m else d p
theorem shr_zero (d : Nat -> Nat) (m : Nat) : shr d m m = d := by
 funext p; unfold shr; rw [if_neg (by omega)]
 by_cases h : p = m
 ·rw [if_pos h, h]
 ·rw [if_neg h]
theorem shr_succ (d : Nat -> Nat) (m k : Nat) (h : k <= m) (hk : 0 < k) : shr d m (k - 1) = sw (shr d m k) k (k - 1) := by
 funext p; unfold sw shr
 by_cases h1 : p = k
 ·subst h1; rw [if_pos (by omega), if_pos rfl, if_neg (by omega), if_neg (by omega)]
 ·by_cases h2 : p = k - 1
  ·subst h2; rw [if_neg (by omega), if_pos rfl, if_neg h1, if_pos rfl, if_neg (by omega), if_pos rfl]
  ·rw [if_neg h1, if_neg h2]
   by_cases h3 : k < p /\ p <= m
   ·rw [if_pos (by omega), if_pos h3, if_neg h2]
   ·rw [if_neg (by omega), if_neg (by omega), if_neg h3, if_neg h1]
theorem shl_srt {kf d : Nat -> Nat} {m b k : Nat} (hm : Srt kf d (m + 1) b) (h1 : m <= k) (h2 : k < b) (lo : ∀ q, m < q -> q <= k -> kf (d q) < kf (d m)) (hi : ∀ q, k < q -> q < b -> kf (d m) <= kf (d q)) : Srt kf (shl d m k) m b := by
 intro p q e1 e2 e3
 unfold shl
 have ep : (m <= p /\ p < k) ∨ p = k ∨ k < p := by omega
 have eq : (m <= q /\ q < k) ∨ q = k ∨ k < q := by omega
 rcases ep with e | e | e <;> rcases eq with f | f | f <;> try omega
 ·rw [if_pos e, if_pos f]; exact hm _ _ (by omega) (by omega) (by omega)
 ·rw [if_pos e, if_neg (by omega), if_pos f]; have := lo (p + 1) (by omega) (by omega); omega
 ·rw [if_pos e, if_neg (by omega), if_neg (by omega)]; exact hm _ _ (by omega) (by omega) (by omega)
 ·rw [if_neg (by omega), if_pos e, if_neg (by omega), if_neg (by omega)]; exact hi q f e3
 ·rw [if_neg (by omega), if_neg (by omega), if_neg (by omega), if_neg (by omega)]; exact hm _ _ (by omega) (by omega) (by omega)
theorem shl_ris {kf d : Nat -> Nat} {m n k : Nat} (hr : Ris kf d n) (h1 : m <= k) (h2 : k < n) (lo : ∀ q, m < q -> q <= k -> kf (d q) < kf (d m)) : Ris kf (shl d m k) n := by
 intro p q e2 e3
 unfold shl
 have ep : p < m ∨ (m <= p /\ p < k) ∨ p = k ∨ k < p := by omega
 have eq : q < m ∨ (m <= q /\ q < k) ∨ q = k ∨ k < q := by omega
 rcases ep with e | e | e | e <;> rcases eq with f | f | f | f <;> try omega
 ·rw [if_neg (by omega), if_neg (by omega), if_neg (by omega), if_neg (by omega)]; exact hr _ _ (by omega) (by omega)
 ·rw [if_neg (by omega), if_neg (by omega), if_pos f]; exact hr _ _ (by omega) (by omega)
 ·rw [if_neg (by omega), if_neg (by omega), if_neg (by omega), if_pos f]; exact hr _ _ (by omega) (by omega)
 ·rw [if_neg (by omega), if_neg (by omega), if_neg (by omega), if_neg (by omega)]; exact hr _ _ (by omega) (by omega)
 ·rw [if_pos e, if_pos f]; exact hr _ _ (by omega) (by omega)
 ·rw [if_pos e, if_neg (by omega), if_pos f]; intro h; have := lo (p + 1) (by omega) (by omega); omega
 ·rw [if_pos e, if_neg (by omega), if_neg (by omega)]; exact hr _ _ (by omega) (by omega)
 ·rw [if_neg (by omega), if_pos e, if_neg (by omega), if_neg (by omega)]; exact hr _ _ (by omega) (by omega)
 ·rw [if_neg (by omega), if_neg (by omega), if_neg (by omega), if_neg (by omega)]; exact hr _ _ (by omega) (by omega)
theorem shr_srt {kf d : Nat -> Nat} {a m k : Nat} (hm : Srt kf d a m) (h1 : a <= k) (h2 : k <= m) (lo : ∀ q, a <= q -> q < k -> kf (d q) <= kf (d m)) (hi : ∀ q, k <= q -> q < m -> kf (d m) < kf (d q)) : Srt kf (shr d m k) a (m + 1) := by
 intro p q e1 e2 e3
 unfold shr
 have ep : p < k ∨ p = k ∨ (k < p /\ p <= m) := by omega
 have eq : q < k ∨ q = k ∨ (k < q /\ q <= m) := by omega
 rcases ep with e | e | e <;> rcases eq with f | f | f <;> try omega
 ·rw [if_neg (by omega), if_neg (by omega), if_neg (by omega), if_neg (by omega)]; exact hm _ _ (by omega) (by omega) (by omega)
 ·rw [if_neg (by omega), if_neg (by omega), if_neg (by omega), if_pos f]; exact lo p e1 e
 ·rw [if_neg (by omega), if_neg (by omega), if_pos f]; exact hm _ _ (by omega) (by omega) (by omega)
 ·rw [if_neg (by omega), if_pos e, if_pos f]; have := hi (q - 1) (by omega) (by omega); omega
 ·rw [if_pos e, if_pos f]; exact hm _ _ (by omega) (by omega) (by omega)
theorem shr_ris {kf d : Nat -> Nat} {m n k : Nat} (hr : Ris kf d n) (h1 : k <= m) (h2 : m < n) (hi : ∀ q, k <= q -> q < m -> kf (d m) < kf (d q)) : Ris kf (shr d m k) n := by
 intro p q e2 e3
 unfold shr
 have ep : p < k ∨ p = k ∨ (k < p /\ p <= m) ∨ m < p := by omega
 have eq : q < k ∨ q = k ∨ (k < q /\ q <= m) ∨ m < q := by omega
 rcases ep with e | e | e | e <;> rcases eq with f | f | f | f <;> try omega
 ·rw [if_neg (by omega), if_neg (by omega), if_neg (by omega), if_neg (by omega)]; exact hr _ _ (by omega) (by omega)
 ·rw [if_neg (by omega), if_neg (by omega), if_neg (by omega), if_pos f]; exact hr _ _ (by omega) (by omega)
 ·rw [if_neg (by omega), if_neg (by omega), if_pos f]; exact hr _ _ (by omega) (by omega)
 ·rw [if_neg (by omega), if_neg (by omega), if_neg (by omega), if_neg (by omega)]; exact hr _ _ (by omega) (by omega)
 ·rw [if_neg (by omega), if_pos e, if_pos f]; intro h; have := hi (q - 1) (by omega) (by omega); omega
 ·rw [if_neg (by omega), if_pos e, if_neg (by omega), if_neg (by omega)]; exact hr _ _ (by omega) (by omega)
 ·rw [if_pos e, if_pos f]; exact hr _ _ (by omega) (by omega)
 ·rw [if_pos e, if_neg (by omega), if_neg (by omega)]; exact hr _ _ (by omega) (by omega)
 ·rw [if_neg (by omega), if_neg (by omega), if_neg (by omega), if_neg (by omega)]; exact hr _ _ (by omega) (by omega)
theorem mid_facts {kf d : Nat -> Nat} {a m b n mid s : Nat} (hr : Ris kf d n) (h1 : Srt kf d a m) (h2 : Srt kf d m b) (ham : a < m) (_hmb : m < b) (hbn : b <= n) (hmid : mid = (a + b) / 2)
  (hs1 : a <= s) (hs2 : s <= m) (hs3 : s <= mid) (hs4 : m <= mid + m - s) (hs5 : mid + m - s <= b)
  (lo : ∀ c, c < s -> a <= c -> mid + m <= b + c -> kf (d c) <= kf (d (mid + m - 1 - c)))
  (hi : ∀ c, s <= c -> c < m -> c < mid -> kf (d (mid + m - 1 - c)) < kf (d c)) :
  let e := rot d s m (mid + m - s)
  Ris kf e n /\ Srt kf e a s /\ Srt kf e s mid /\ Srt kf e mid (mid + m - s) /\ Srt kf e (mid + m - s) b /\ (∀ p q, a <= p -> p < mid -> mid <= q -> q < b -> kf (e p) <= kf (e q)) := by
 intro e
 have key : ∀ p q, s <= p -> p < m -> m <= q -> q < mid + m - s -> kf (d q) < kf (d p) := by
  intro p q e1 e2 e3 e4
  have g1 := hi s (Nat.le_refl _) (by omega) (by omega)
  have g2 : kf (d s) <= kf (d p) := by
   by_cases h : s = p
   ·rw [h]; exact Nat.le_refl _
   ·exact h1 s p hs1 (by omega) e2
  have g3 : kf (d q) <= kf (d (mid + m - 1 - s)) := by
   by_cases h : q = mid + m - 1 - s
   ·rw [h]; exact Nat.le_refl _
   ·exact h2 q _ e3 (by omega) (by omega)
  omega
 have v0 : ∀ k, k < s ∨ mid + m - s <= k -> e k = d k := by
  intro k hk
  show rot d s m (mid + m - s) k = _
  unfold rot; rw [if_neg (by omega), if_neg (by omega)]
 have v1 : ∀ k, s <= k -> k < mid -> e k = d (k - s + m) := by
  intro k hk hk2
  show rot d s m (mid + m - s) k = _
  unfold rot; rw [if_pos (by omega)]
 have v2 : ∀ k, mid <= k -> k < mid + m - s -> e k = d (k - (mid - s)) := by
  intro k hk hk2
  show rot d s m (mid + m - s) k = _
  unfold rot; rw [if_neg (by omega), if_pos (by omega)]; congr 1; omega
 refine ⟨?_, ?_, ?_, ?_, ?_, ?_⟩
 ·intro p q f1 f2
  have ep : p < s ∨ (s <= p /\ p < mid) ∨ (mid <= p /\ p < mid + m - s) ∨ mid + m - s <= p := by omega
  have eq : q < s ∨ (s <= q /\ q < mid) ∨ (mid <= q /\ q < mid + m - s) ∨ mid + m - s <= q := by omega
  rcases ep with f | f | f | f <;> rcases eq with g | g | g | g <;> try omega
  ·rw [v0 p (by omega), v0 q (by omega)]; exact hr _ _ (by omega) (by omega)
  ·rw [v0 p (by omega), v1 q g.1 g.2]; exact hr _ _ (by omega) (by omega)
  ·rw [v0 p (by omega), v2 q g.1 g.2]; exact hr _ _ (by omega) (by omega)
  ·rw [v0 p (by omega), v0 q (by omega)]; exact hr _ _ (by omega) (by omega)
  ·rw [v1 p f.1 f.2, v1 q g.1 g.2]; exact hr _ _ (by omega) (by omega)
  ·rw [v1 p f.1 f.2, v2 q g.1 g.2]; intro h; have := key (q - (mid - s)) (p - s + m) (by omega) (by omega) (by omega) (by omega); omega
  ·rw [v1 p f.1 f.2, v0 q (by omega)]; exact hr _ _ (by omega) (by omega)
  ·rw [v2 p f.1 f.2, v2 q g.1 g.2]; exact hr _ _ (by omega) (by omega)
  ·rw [v2 p f.1 f.2, v0 q (by omega)]; exact hr _ _ (by omega) (by omega)
  ·rw [v0 p (by omega), v0 q (by omega)]; exact hr _ _ (by omega) (by omega)
 ·intro p q f1 f2 f3
  rw [v0 p (by omega), v0 q (by omega)]; exact h1 _ _ (by omega) (by omega) (by omega)
 ·intro p q f1 f2 f3
  rw [v1 p (by omega) (by omega), v1 q (by omega) (by omega)]; exact h2 _ _ (by omega) (by omega) (by omega)
 ·intro p q f1 f2 f3
  rw [v2 p (by omega) (by omega), v2 q (by omega) (by omega)]; exact h1 _ _ (by omega) (by omega) (by omega)
 ·intro p q f1 f2 f3
  rw [v0 p (by omega), v0 q (by omega)]; exact h2 _ _ (by omega) (by omega) (by omega)
 ·intro p q f1 f2 f3 f4
  by_cases hp : p < s <;> by_cases hq : mid + m - s <= q
  ·rw [v0 p (by omega), v0 q (by omega)]
   have g1 := lo (s - 1) (by omega) (by omega) (by omega)
   have g2 : kf (d p) <= kf (d (s - 1)) := by
    by_cases h : p = s - 1
    ·rw [h]; exact Nat.le_refl _
    ·exact h1 p _ f1 (by omega) (by omega)
   have g3 : kf (d (mid + m - 1 - (s - 1))) <= kf (d q) := by
    by_cases h : q = mid + m - 1 - (s - 1)
    ·rw [h]; exact Nat.le_refl _
    ·exact h2 _ q (by omega) (by omega) (by omega)
   omega
  ·rw [v0 p (by omega), v2 q (by omega) (by omega)]; exact h1 _ _ (by omega) (by omega) (by omega)
  ·rw [v1 p (by omega) (by omega), v0 q (by omega)]; exact h2 _ _ (by omega) (by omega) (by omega)
  ·rw [v1 p (by omega) (by omega), v2 q (by omega) (by omega)]
   have := key (q - (mid - s)) (p - s + m) (by omega) (by omega) (by omega) (by omega)
   omega
theorem join_srt {kf e f : Nat -> Nat} {a mid b : Nat} (cr : ∀ p q, a <= p -> p < mid -> mid <= q -> q < b -> kf (e p) <= kf (e q))
  (g : Nat -> Nat) (h1 : Swaps a mid e g) (h2 : Swaps mid b g f) (s1 : Srt kf g a mid) (s2 : Srt kf f mid b) : Srt kf f a b := by
 intro p q e1 e2 e3
 by_cases hq : q < mid
 ·rw [h2.out p (by omega), h2.out q (by omega)]; exact s1 p q e1 e2 hq
 ·by_cases hp : p < mid
  ·rw [h2.out p (by omega)]
   obtain ⟨p', p1, p2, p3⟩ := h1.img p e1 hp
   obtain ⟨q', q1, q2, q3⟩ := h2.img q (by omega) e3
   rw [p3, q3, h1.out q' (by omega)]
   exact cr p' q' p1 p2 q1 q2
  ·exact s2 p q (by omega) e2 e3
end St
end Go.Proofs.YtckbhciehmokdaaGreatDoor
namespace Go.Proofs.YtckbhciehmokdaaGreatDoor
set_option maxRecDepth 100000
set_option maxHeartbeats 8000000
namespace Hf
def ln (ls : List Nat) (i : Nat) : Nat := ls[i]?.getD 0
def rowTo (ls : List Nat) (l : Nat) : Nat -> List Nat
 | 0 => []
 | k + 1 => rowTo ls l k ++ (if ln ls k = l then [k] else [])
def ordTo (ls : List Nat) : Nat -> List Nat
 | 0 => []
 | l + 1 => ordTo ls l ++ rowTo ls (l + 1) ls.length
def ordl (ls : List Nat) : List Nat := ordTo ls 15
theorem mem_rowTo (ls : List Nat) (l k x : Nat) : x ∈ rowTo ls l k ↔ x < k /\ ln ls x = l := by
 induction k with
 | zero => simp [rowTo]
 | succ k ih =>
  simp only [rowTo, List.mem_append, ih]
  by_cases h : ln ls k = l
  ·rw [if_pos h, List.mem_singleton]
   constructor
   ·rintro (⟨h1, h2⟩ | rfl)
    ·exact ⟨by omega, h2⟩
    ·exact ⟨by omega, h⟩
   ·rintro ⟨h1, h2⟩
    by_cases e : x = k
    ·exact Or.inr e
    ·exact Or.inl ⟨by omega, h2⟩
  ·rw [if_neg h]
   constructor
   ·rintro (⟨h1, h2⟩ | h3)
    ·exact ⟨by omega, h2⟩
    ·cases h3
   ·rintro ⟨h1, h2⟩
    refine Or.inl ⟨?_, h2⟩
    by_cases e : x = k
    ·subst e; exact absurd h2 h
    ·omega
theorem mem_ordTo (ls : List Nat) (l x : Nat) : x ∈ ordTo ls l ↔ x < ls.length /\ 0 < ln ls x /\ ln ls x <= l := by
 induction l with
 | zero => simp [ordTo]; omega
 | succ l ih =>
  simp only [ordTo, List.mem_append, ih, mem_rowTo]
  constructor
  ·rintro (⟨h1, h2, h3⟩ | ⟨h1, h2⟩)
   ·exact ⟨h1, h2, by omega⟩
   ·exact ⟨h1, by omega, by omega⟩
  ·rintro ⟨h1, h2, h3⟩
   by_cases e : ln ls x = l + 1
   ·exact Or.inr ⟨h1, e⟩
   ·exact Or.inl ⟨h1, h2, by omega⟩
def Lt (ls : List Nat) (x y : Nat) : Prop := ln ls x < ln ls y ∨ (ln ls x = ln ls y /\ x < y)
theorem rowTo_sorted (ls : List Nat) (l k : Nat) : (rowTo ls l k).Pairwise (Lt ls) := by
 induction k with
 | zero => simp [rowTo]
 | succ k ih =>
  simp only [rowTo]
  rw [List.pairwise_append]
  refine ⟨ih, by split <;> simp, fun a ha b hb => ?_⟩
  rw [mem_rowTo] at ha
  by_cases h : ln ls k = l
  ·rw [if_pos h, List.mem_singleton] at hb
   subst hb
   exact Or.inr ⟨by rw [ha.2, h], ha.1⟩
  ·rw [if_neg h] at hb; cases hb
theorem ordTo_sorted (ls : List Nat) (l : Nat) : (ordTo ls l).Pairwise (Lt ls) := by
 induction l with
 | zero => simp [ordTo]
 | succ l ih =>
  simp only [ordTo]
  rw [List.pairwise_append]
  refine ⟨ih, rowTo_sorted _ _ _, fun a ha b hb => Or.inl ?_⟩
  rw [mem_ordTo] at ha
  rw [mem_rowTo] at hb
  omega
theorem sorted_unique (ls : List Nat) : ∀ (xs ys : List Nat), xs.Pairwise (Lt ls) -> ys.Pairwise (Lt ls) -> (∀ x, x ∈ xs ↔ x ∈ ys) -> xs = ys := by
 have asym : ∀ x y, Lt ls x y -> Lt ls y x -> False := fun x y h1 h2 => by unfold Lt at h1 h2; omega
 intro xs
 induction xs with
 | nil =>
  intro ys _ _ h
  cases ys with
  | nil => rfl
  | cons y ys => exact absurd ((h y).2 (by simp)) (by simp)
 | cons x xs ih =>
  intro ys hx hy h
  cases ys with
  | nil => exact absurd ((h x).1 (by simp)) (by simp)
  | cons y ys =>
   rw [List.pairwise_cons] at hx hy
   have e : x = y := by
    have h1 := (h x).1 (by simp)
    have h2 := (h y).2 (by simp)
    rw [List.mem_cons] at h1 h2
    rcases h1 with e | h1
    ·exact e
    ·rcases h2 with e | h2
     ·exact e.symm
     ·exact (asym x y (hx.1 y h2) (hy.1 x h1)).elim
   subst e
   rw [ih ys hx.2 hy.2 fun z => ?_]
   constructor
   ·intro hz
    have := (h z).1 (List.mem_cons_of_mem _ hz)
    rw [List.mem_cons] at this
    rcases this with e | h'
    ·subst e; exact (asym z z (hx.1 z hz) (hx.1 z hz)).elim
    ·exact h'
   ·intro hz
    have := (h z).2 (List.mem_cons_of_mem _ hz)
    rw [List.mem_cons] at this
    rcases this with e | h'
    ·subst e; exact (asym z z (hy.1 z hz) (hy.1 z hz)).elim
    ·exact h'
def usedL (ls : List Nat) : Nat -> List Nat
 | 0 => []
 | k + 1 => usedL ls k ++ (if ln ls k = 0 then [] else [k])
theorem mem_usedL (ls : List Nat) (k x : Nat) : x ∈ usedL ls k ↔ x < k /\ ln ls x ≠ 0 := by
 induction k with
 | zero => simp [usedL]
 | succ k ih =>
  simp only [usedL, List.mem_append, ih]
  by_cases h : ln ls k = 0
  ·rw [if_pos h]
   constructor
   ·rintro (⟨h1, h2⟩ | h3)
    ·exact ⟨by omega, h2⟩
    ·cases h3
   ·rintro ⟨h1, h2⟩
    refine Or.inl ⟨?_, h2⟩
    by_cases e : x = k
    ·subst e; exact absurd h h2
    ·omega
  ·rw [if_neg h, List.mem_singleton]
   constructor
   ·rintro (⟨h1, h2⟩ | rfl)
    ·exact ⟨by omega, h2⟩
    ·exact ⟨by omega, h⟩
   ·rintro ⟨h1, h2⟩
    by_cases e : x = k
    ·exact Or.inr e
    ·exact Or.inl ⟨by omega, h2⟩
theorem usedL_sorted (ls : List Nat) (k : Nat) : (usedL ls k).Pairwise (· < ·) := by
 induction k with
 | zero => simp [usedL]
 | succ k ih =>
  simp only [usedL]
  rw [List.pairwise_append]
  refine ⟨ih, by split <;> simp, fun a ha b hb => ?_⟩
  rw [mem_usedL] at ha
  by_cases h : ln ls k = 0
  ·rw [if_pos h] at hb; cases hb
  ·rw [if_neg h, List.mem_singleton] at hb; omega
theorem usedL_length (ls : List Nat) (k : Nat) : (usedL ls k).length <= k := by
 induction k with
 | zero => simp [usedL]
 | succ k ih => simp only [usedL, List.length_append]; split <;> simp <;> omega
theorem sorted_is (ls : List Nat) (hl : ∀ i, i < ls.length -> ln ls i <= 15) (n : Nat) (d d' : Nat -> Nat) (hn : n = (usedL ls ls.length).length) (hd : ∀ i, i < n -> d i = (usedL ls ls.length)[i]?.getD 0)
  (hs : St.Swaps 0 n d d') (hr : St.Ris (ln ls) d' n) (hw : St.Srt (ln ls) d' 0 n) : (List.range n).map d' = ordl ls := by
 have hm : ∀ x, x ∈ (List.range n).map d' ↔ x ∈ usedL ls ls.length := by
  intro x
  simp only [List.mem_map, List.mem_range]
  constructor
  ·rintro ⟨i, hi, rfl⟩
   obtain ⟨k, _, k2, k3⟩ := hs.img i (by omega) hi
   rw [k3, hd k k2, List.getElem?_eq_getElem (by omega)]
   exact List.getElem_mem _
  ·intro hx
   obtain ⟨i, hi, rfl⟩ := List.getElem_of_mem hx
   obtain ⟨k, _, k2, k3⟩ := hs.back i (by omega) (by omega)
   refine ⟨k, k2, ?_⟩
   rw [<- k3, hd i (by omega), List.getElem?_eq_getElem hi]
   rfl
 refine sorted_unique ls _ _ ?_ (ordTo_sorted ls 15) fun x => ?_
 ·rw [List.pairwise_map]
  refine List.Pairwise.imp_of_mem ?_ (List.pairwise_lt_range)
  intro a b ha hb hab
  rw [List.mem_range] at ha hb
  have h1 := hw a b (by omega) hab hb
  by_cases e : ln ls (d' a) = ln ls (d' b)
  ·exact Or.inr ⟨e, hr a b hab hb e⟩
  ·exact Or.inl (by omega)
 ·rw [hm, mem_usedL]
  unfold ordl
  rw [mem_ordTo]
  constructor
  ·rintro ⟨h1, h2⟩; exact ⟨h1, by omega, hl x h1⟩
  ·rintro ⟨h1, h2, _⟩; exact ⟨h1, by omega⟩
theorem used_ris (ls : List Nat) (k : Nat) : St.Ris (ln ls) (fun i => (usedL ls k)[i]?.getD 0) (usedL ls k).length := by
 intro p q h1 h2 _
 have := List.pairwise_iff_getElem.1 (usedL_sorted ls k) p q (by omega) h2 h1
 show (usedL ls k)[p]?.getD 0 < (usedL ls k)[q]?.getD 0
 rw [List.getElem?_eq_getElem (by omega), List.getElem?_eq_getElem h2]
 exact this
end Hf
end Go.Proofs.YtckbhciehmokdaaGreatDoor
namespace Go.Proofs.YtckbhciehmokdaaGreatDoor
set_option maxRecDepth 100000
set_option maxHeartbeats 8000000
namespace Hf
def sy (ls : List Nat) (k : Nat) : Nat := (ordl ls)[k]?.getD 0
def st (ls : List Nat) : Nat -> Nat × Nat
 | 0 => (0, 0)
 | k + 1 => ((st ls k).1 * 2 ^ (ln ls (sy ls k) - (st ls k).2) + 1, ln ls (sy ls k))
def cd (ls : List Nat) (k : Nat) : Nat := (st ls k).1 * 2 ^ (ln ls (sy ls k) - (st ls k).2)
theorem st_succ (ls : List Nat) (k : Nat) : st ls (k + 1) = (cd ls k + 1, ln ls (sy ls k)) := rfl
def codedTo (ls : List Nat) : Nat -> List (Nat × Nat)
 | 0 => []
 | k + 1 => codedTo ls k ++ [(sy ls k, cd ls k)]
theorem codedTo_length (ls : List Nat) (k : Nat) : (codedTo ls k).length = k := by
 induction k with
 | zero => rfl
 | succ k ih => simp [codedTo, ih]
def outOf (n : Nat) (ps : List (Nat × Nat)) : List Nat := ps.foldl (fun o p => o.set p.1 p.2) (List.replicate n 0)
theorem outOf_length (n : Nat) (ps : List (Nat × Nat)) : (outOf n ps).length = n := by
 have : ∀ (ps : List (Nat × Nat)) (o : List Nat), (ps.foldl (fun o p => o.set p.1 p.2) o).length = o.length := by
  intro ps
  induction ps with
  | nil => intro o; rfl
  | cons p ps ih => intro o; rw [List.foldl_cons, ih]; simp
 unfold outOf
 rw [this]; simp
theorem outOf_snoc (n : Nat) (ps : List (Nat × Nat)) (p : Nat × Nat) : outOf n (ps ++ [p]) = (outOf n ps).set p.1 p.2 := by simp [outOf]
def codes (ls : List Nat) : List Nat := outOf ls.length (codedTo ls (ordl ls).length)
theorem codes_length (ls : List Nat) : (codes ls).length = ls.length := outOf_length _ _
def pf (ls : List Nat) : Nat -> Nat
 | 0 => 0
 | k + 1 => pf ls k + 2 ^ (15 - ln ls (sy ls k))
theorem sy_mem (ls : List Nat) (k : Nat) (hk : k < (ordl ls).length) : sy ls k < ls.length /\ 0 < ln ls (sy ls k) /\ ln ls (sy ls k) <= 15 := by
 have h : sy ls k ∈ ordl ls := by unfold sy; rw [List.getElem?_eq_getElem hk]; exact List.getElem_mem hk
 unfold ordl at h
 rwa [mem_ordTo] at h
theorem sy_lt (ls : List Nat) (j k : Nat) (hj : j < k) (hk : k < (ordl ls).length) : Lt ls (sy ls j) (sy ls k) := by
 have := List.pairwise_iff_getElem.1 (ordTo_sorted ls 15) j k (by unfold ordl at hk; omega) (by unfold ordl at hk; omega) hj
 unfold sy
 rw [List.getElem?_eq_getElem (by omega), List.getElem?_eq_getElem hk]
 exact this
theorem sy_le (ls : List Nat) (j k : Nat) (hj : j <= k) (hk : k < (ordl ls).length) : ln ls (sy ls j) <= ln ls (sy ls k) := by
 by_cases e : j = k
 ·rw [e]; exact Nat.le_refl _
 ·have := sy_lt ls j k (by omega) hk; unfold Lt at this; omega
theorem sy_of (ls : List Nat) (x : Nat) (hx : x < ls.length) (h0 : 0 < ln ls x) (h15 : ln ls x <= 15) : ∃ k, k < (ordl ls).length /\ sy ls k = x := by
 have h : x ∈ ordl ls := by unfold ordl; rw [mem_ordTo]; exact ⟨hx, h0, h15⟩
 obtain ⟨k, hk, e⟩ := List.getElem_of_mem h
 exact ⟨k, hk, by unfold sy; rw [List.getElem?_eq_getElem hk]; exact e⟩
theorem sy_inj (ls : List Nat) (j k : Nat) (hj : j < (ordl ls).length) (hk : k < (ordl ls).length) (e : sy ls j = sy ls k) : j = k := by
 rcases Nat.lt_trichotomy j k with h | h | h
 ·have := sy_lt ls j k h hk; unfold Lt at this; rw [e] at this; omega
 ·exact h
 ·have := sy_lt ls k j h hj; unfold Lt at this; rw [e] at this; omega
theorem pow_split (a b c : Nat) (h1 : a <= b) (h2 : b <= c) : 2 ^ (b - a) * 2 ^ (c - b) = 2 ^ (c - a) := by
 rw [<- Nat.pow_add]; congr 1; omega
theorem st_le (ls : List Nat) (k : Nat) (hk : k < (ordl ls).length) : (st ls k).2 <= ln ls (sy ls k) := by
 cases k with
 | zero => simp [st]
 | succ k => rw [st_succ]; exact sy_le ls k (k + 1) (by omega) hk
theorem st_pf (ls : List Nat) (k : Nat) (hk : k <= (ordl ls).length) : (st ls k).1 * 2 ^ (15 - (st ls k).2) = pf ls k := by
 induction k with
 | zero => simp [st, pf]
 | succ k ih =>
  have h1 := ih (by omega)
  have h2 := st_le ls k (by omega)
  have h3 := (sy_mem ls k (by omega)).2.2
  rw [st_succ]
  show (cd ls k + 1) * 2 ^ (15 - ln ls (sy ls k)) = pf ls k + 2 ^ (15 - ln ls (sy ls k))
  rw [Nat.succ_mul, <- h1]
  unfold cd
  rw [Nat.mul_assoc, pow_split _ _ _ h2 h3]
theorem cd_pf (ls : List Nat) (k : Nat) (hk : k < (ordl ls).length) : cd ls k * 2 ^ (15 - ln ls (sy ls k)) = pf ls k := by
 have h1 := st_pf ls k (by omega)
 have h2 := st_le ls k hk
 have h3 := (sy_mem ls k hk).2.2
 rw [<- h1]
 unfold cd
 rw [Nat.mul_assoc, pow_split _ _ _ h2 h3]
theorem pf_mono (ls : List Nat) (j k : Nat) (h : j <= k) : pf ls j <= pf ls k := by
 induction k with
 | zero => have : j = 0 := by omega
           subst this; exact Nat.le_refl _
 | succ k ih =>
  by_cases e : j = k + 1
  ·rw [e]; exact Nat.le_refl _
  ·exact Nat.le_trans (ih (by omega)) (Nat.le_add_right _ _)
def tk (ls : List Nat) (q : Nat -> Bool) : Nat -> Nat
 | 0 => 0
 | k + 1 => tk ls q k + (if q (ln ls k) then 2 ^ (15 - ln ls k) else 0)
def sum (ls : List Nat) : List Nat -> Nat
 | [] => 0
 | x :: xs => 2 ^ (15 - ln ls x) + sum ls xs
theorem sum_append (ls a b : List Nat) : sum ls (a ++ b) = sum ls a + sum ls b := by
 induction a with
 | nil => simp [sum]
 | cons x xs ih => simp only [List.cons_append, sum, ih]; omega
theorem sum_row (ls : List Nat) (l k : Nat) : sum ls (rowTo ls l k) = tk ls (fun x => x == l) k := by
 induction k with
 | zero => rfl
 | succ k ih =>
  simp only [rowTo, tk, sum_append, ih]
  by_cases h : ln ls k = l
  ·rw [if_pos h, if_pos (by simp [h])]; simp [sum]
  ·rw [if_neg h, if_neg (by simp [h])]; simp [sum]
theorem tk_add (ls : List Nat) (q r s : Nat -> Bool) (h : ∀ x, s x = (q x || r x)) (hd : ∀ x, ¬ (q x = true /\ r x = true)) (k : Nat) : tk ls s k = tk ls q k + tk ls r k := by
 induction k with
 | zero => rfl
 | succ k ih =>
  simp only [tk, ih, h]
  have := hd (ln ls k)
  generalize 2 ^ (15 - ln ls k) = z
  cases hq : q (ln ls k) <;> cases hr : r (ln ls k)
  ·simp
  ·simp; omega
  ·simp; omega
  ·exact absurd ⟨hq, hr⟩ this
theorem sum_ord (ls : List Nat) (l : Nat) : sum ls (ordTo ls l) = tk ls (fun x => decide (0 < x /\ x <= l)) ls.length := by
 induction l with
 | zero =>
  have : ∀ k, tk ls (fun x => decide (0 < x /\ x <= 0)) k = 0 := by
   intro k
   induction k with
   | zero => rfl
   | succ k ih => simp only [tk, ih]; rw [if_neg (by simp; omega)]
  rw [this]; rfl
 | succ l ih =>
  simp only [ordTo, sum_append, ih, sum_row]
  refine (tk_add ls _ _ _ (fun x => ?_) (fun x => ?_) _).symm
  ·rw [Bool.eq_iff_iff]; simp; omega
  ·simp; omega
theorem pf_sum (ls : List Nat) (k : Nat) (hk : k <= (ordl ls).length) : pf ls k = sum ls ((ordl ls).take k) := by
 induction k with
 | zero => rfl
 | succ k ih =>
  rw [List.take_succ_eq_append_getElem (by omega), sum_append, <- ih (by omega)]
  show pf ls k + _ = _
  unfold sy
  rw [List.getElem?_eq_getElem (by omega)]
  simp [sum]
theorem pf_all (ls : List Nat) (h15 : ∀ i, i < ls.length -> ln ls i <= 15) : pf ls (ordl ls).length = tk ls (fun x => decide (0 < x)) ls.length := by
 rw [pf_sum ls _ (Nat.le_refl _), List.take_length]
 unfold ordl
 rw [sum_ord]
 have : ∀ k, k <= ls.length -> tk ls (fun x => decide (0 < x /\ x <= 15)) k = tk ls (fun x => decide (0 < x)) k := by
  intro k
  induction k with
  | zero => intro _; rfl
  | succ k ih =>
   intro hk
   have := h15 k (by omega)
   simp only [tk, ih (by omega)]
   congr 1
   by_cases h : 0 < ln ls k
   ·rw [if_pos (by simp; omega), if_pos (by simp [h])]
   ·rw [if_neg (by simp; omega), if_neg (by simp [h])]
 exact this _ (Nat.le_refl _)
def cn (ls : List Nat) (q : Nat -> Bool) : Nat -> Nat
 | 0 => 0
 | k + 1 => cn ls q k + (if q (ln ls k) then 1 else 0)
theorem cn_le (ls : List Nat) (q : Nat -> Bool) (k : Nat) : cn ls q k <= k := by
 induction k with
 | zero => exact Nat.le_refl _
 | succ k ih => simp only [cn]; split <;> omega
theorem len_row (ls : List Nat) (l k : Nat) : (rowTo ls l k).length = cn ls (fun x => x == l) k := by
 induction k with
 | zero => rfl
 | succ k ih =>
  simp only [rowTo, cn, List.length_append, ih]
  by_cases h : ln ls k = l
  ·rw [if_pos h, if_pos (by simp [h])]; rfl
  ·rw [if_neg h, if_neg (by simp [h])]; rfl
theorem cn_add (ls : List Nat) (q r s : Nat -> Bool) (h : ∀ x, s x = (q x || r x)) (hd : ∀ x, ¬ (q x = true /\ r x = true)) (k : Nat) : cn ls s k = cn ls q k + cn ls r k := by
 induction k with
 | zero => rfl
 | succ k ih =>
  simp only [cn, ih, h]
  have := hd (ln ls k)
  cases hq : q (ln ls k) <;> cases hr : r (ln ls k)
  ·simp
  ·simp; omega
  ·simp; omega
  ·exact absurd ⟨hq, hr⟩ this
theorem len_ord (ls : List Nat) (l : Nat) : (ordTo ls l).length = cn ls (fun x => decide (0 < x /\ x <= l)) ls.length := by
 induction l with
 | zero =>
  have : ∀ k, cn ls (fun x => decide (0 < x /\ x <= 0)) k = 0 := by
   intro k
   induction k with
   | zero => rfl
   | succ k ih => simp only [cn, ih]; rw [if_neg (by simp; omega)]
  rw [this]; rfl
 | succ l ih =>
  simp only [ordTo, List.length_append, ih, len_row]
  refine (cn_add ls _ _ _ (fun x => ?_) (fun x => ?_) _).symm
  ·rw [Bool.eq_iff_iff]; simp; omega
  ·simp; omega
theorem ordl_length_le (ls : List Nat) : (ordl ls).length <= ls.length := by
 unfold ordl
 rw [len_ord]
 exact cn_le _ _ _
theorem cd_lt (ls : List Nat) (k : Nat) (hk : k < (ordl ls).length) (hp : pf ls (ordl ls).length <= 32768) : cd ls k < 2 ^ ln ls (sy ls k) := by
 have h1 := cd_pf ls k hk
 have h2 := pf_mono ls (k + 1) (ordl ls).length (by omega)
 have h3 := (sy_mem ls k hk).2.2
 have h4 : pf ls (k + 1) = pf ls k + 2 ^ (15 - ln ls (sy ls k)) := rfl
 have h5 : 2 ^ ln ls (sy ls k) * 2 ^ (15 - ln ls (sy ls k)) = 32768 := by rw [<- Nat.pow_add, show ln ls (sy ls k) + (15 - ln ls (sy ls k)) = 15 by omega]
 have h6 : 0 < 2 ^ (15 - ln ls (sy ls k)) := Nat.two_pow_pos _
 refine Nat.lt_of_mul_lt_mul_right (a := 2 ^ (15 - ln ls (sy ls k))) ?_
 omega
theorem cd_small (ls : List Nat) (k : Nat) (hk : k < (ordl ls).length) (hp : pf ls (ordl ls).length <= 32768) : cd ls k < 32768 := by
 have h1 := cd_lt ls k hk hp
 have h2 := (sy_mem ls k hk).2.2
 have h3 : 2 ^ ln ls (sy ls k) <= 2 ^ 15 := Nat.pow_le_pow_right (by omega) h2
 omega
theorem outOf_get (ls : List Nat) (k : Nat) (hk : k <= (ordl ls).length) (j : Nat) (hj : j < k) : (outOf ls.length (codedTo ls k))[sy ls j]?.getD 0 = cd ls j := by
 induction k with
 | zero => omega
 | succ k ih =>
  simp only [codedTo, outOf_snoc]
  by_cases e : j = k
  ·subst e
   rw [List.getElem?_set_self (by rw [outOf_length]; exact (sy_mem ls j (by omega)).1)]
   rfl
  ·have hne : sy ls k ≠ sy ls j := fun h => e (sy_inj ls j k (by omega) (by omega) h.symm)
   rw [List.getElem?_set_ne hne]
   exact ih (by omega) (by omega)
theorem codes_get (ls : List Nat) (j : Nat) (hj : j < (ordl ls).length) : (codes ls)[sy ls j]?.getD 0 = cd ls j := outOf_get ls _ (Nat.le_refl _) j hj
theorem rowTo_pre (ls : List Nat) (l i m : Nat) : rowTo ls l i <+: rowTo ls l (i + m) := by
 induction m with
 | zero => exact List.prefix_refl _
 | succ m ih => exact ih.trans (List.prefix_append _ _)
theorem ordTo_pre (ls : List Nat) (l m : Nat) : ordTo ls l <+: ordTo ls (l + m) := by
 induction m with
 | zero => exact List.prefix_refl _
 | succ m ih => exact ih.trans (List.prefix_append _ _)
def At (ls : List Nat) (l i k : Nat) : Prop := k = (ordTo ls l).length + (rowTo ls (l + 1) i).length
theorem At.start (ls : List Nat) : At ls 0 0 0 := rfl
theorem At.next {ls : List Nat} {l k : Nat} (h : At ls l ls.length k) : At ls (l + 1) 0 k := by
 unfold At at h ⊢
 rw [h]; simp [ordTo, rowTo]
theorem At.skip {ls : List Nat} {l i k : Nat} (h : At ls l i k) (hne : ln ls i ≠ l + 1) : At ls l (i + 1) k := by
 unfold At at h ⊢
 rw [h]; simp [rowTo, hne]
theorem At.put {ls : List Nat} {l i k : Nat} (h : At ls l i k) (he : ln ls i = l + 1) : At ls l (i + 1) (k + 1) := by
 unfold At at h ⊢
 rw [h]; simp [rowTo, he]; omega
theorem At.here {ls : List Nat} {l i k : Nat} (h : At ls l i k) (he : ln ls i = l + 1) (hi : i < ls.length) (hl : l < 15) : k < (ordl ls).length /\ sy ls k = i := by
 have h1 : rowTo ls (l + 1) (i + 1) <+: rowTo ls (l + 1) ls.length := by
  have := rowTo_pre ls (l + 1) (i + 1) (ls.length - (i + 1))
  rwa [show i + 1 + (ls.length - (i + 1)) = ls.length by omega] at this
 have h2 : ordTo ls (l + 1) <+: ordl ls := by
  have := ordTo_pre ls (l + 1) (15 - (l + 1))
  rwa [show l + 1 + (15 - (l + 1)) = 15 by omega] at this
 obtain ⟨t1, e1⟩ := h1
 obtain ⟨t2, e2⟩ := h2
 have e3 : ordl ls = (ordTo ls l ++ rowTo ls (l + 1) i) ++ (i :: (t1 ++ t2)) := by
  rw [<- e2]
  show (ordTo ls l ++ rowTo ls (l + 1) ls.length) ++ t2 = _
  rw [<- e1]
  simp [rowTo, he]
 have hk : k = (ordTo ls l ++ rowTo ls (l + 1) i).length := by rw [List.length_append]; exact h
 unfold sy
 rw [e3, hk]
 constructor
 ·simp
 ·rw [List.getElem?_append_right (Nat.le_refl _), Nat.sub_self]
  rfl
theorem At.fin {ls : List Nat} {k : Nat} (h : At ls 15 0 k) : k = (ordl ls).length := by
 unfold At at h
 rw [h]; simp [rowTo, ordl]
end Hf
end Go.Proofs.YtckbhciehmokdaaGreatDoor
namespace Go.Proofs.YtckbhciehmokdaaGreatDoor
set_option maxRecDepth 100000
set_option maxHeartbeats 8000000
namespace Hf
def mm (ls : List Nat) (l : Nat) : Nat := (ordTo ls l).length
theorem mm_zero (ls : List Nat) : mm ls 0 = 0 := rfl
theorem ordTo_ordl (ls : List Nat) (l : Nat) (hl : l <= 15) : ordTo ls l <+: ordl ls := by
 have := ordTo_pre ls l (15 - l)
 rwa [show l + (15 - l) = 15 by omega] at this
theorem mm_le (ls : List Nat) (l : Nat) (hl : l <= 15) : mm ls l <= (ordl ls).length := (ordTo_ordl ls l hl).length_le
theorem sy_pre (ls : List Nat) (l k : Nat) (hl : l <= 15) (hk : k < mm ls l) : (ordTo ls l)[k]? = some (sy ls k) := by
 obtain ⟨t, ht⟩ := ordTo_ordl ls l hl
 unfold sy
 rw [<- ht, List.getElem?_append_left hk, List.getElem?_eq_getElem hk]
 rfl
theorem mm_iff (ls : List Nat) (l k : Nat) (hl : l <= 15) (hk : k < (ordl ls).length) : k < mm ls l ↔ ln ls (sy ls k) <= l := by
 constructor
 ·intro h
  have := List.mem_of_getElem? (sy_pre ls l k hl h)
  exact ((mem_ordTo ls l _).1 this).2.2
 ·intro h
  have hm := sy_mem ls k hk
  have : sy ls k ∈ ordTo ls l := (mem_ordTo ls l _).2 ⟨hm.1, hm.2.1, h⟩
  obtain ⟨i, hi, e⟩ := List.getElem_of_mem this
  have h2 := sy_pre ls l i hl hi
  rw [List.getElem?_eq_getElem hi, e] at h2
  have h3 : sy ls k = sy ls i := by simpa using h2
  have h4 := mm_le ls l hl
  have := sy_inj ls k i hk (by unfold mm at h4; omega) h3
  unfold mm; omega
theorem sy_row (ls : List Nat) (l k : Nat) (hl : l < 15) (h1 : mm ls l <= k) (h2 : k < mm ls (l + 1)) : ln ls (sy ls k) = l + 1 := by
 have hk : k < (ordl ls).length := Nat.lt_of_lt_of_le h2 (mm_le ls (l + 1) (by omega))
 have g1 := (mm_iff ls (l + 1) k (by omega) hk).1 h2
 have g2 := mt (mm_iff ls l k (by omega) hk).2 (by omega)
 omega
theorem pf_row (ls : List Nat) (l t : Nat) (hl : l < 15) (h : mm ls l + t <= mm ls (l + 1)) : pf ls (mm ls l + t) = pf ls (mm ls l) + t * 2 ^ (14 - l) := by
 induction t with
 | zero => simp
 | succ t ih =>
  have h1 := sy_row ls l (mm ls l + t) hl (by omega) (by omega)
  show pf ls (mm ls l + t) + 2 ^ (15 - ln ls (sy ls (mm ls l + t))) = _
  rw [ih (by omega), h1, show 15 - (l + 1) = 14 - l by omega, Nat.succ_mul]
  omega
theorem pf_lt (ls : List Nat) (j k : Nat) (h : j < k) : pf ls j < pf ls k := by
 refine Nat.lt_of_lt_of_le ?_ (pf_mono ls (j + 1) k h)
 show _ < pf ls j + _
 exact Nat.lt_add_of_pos_right (Nat.two_pow_pos _)
def vb (l : List Bool) (p : Nat) : Nat -> Nat
 | 0 => 0
 | n + 1 => 2 * vb l p n + (l[p + n]?.getD false).toNat
theorem vb_lt (l : List Bool) (p n : Nat) : vb l p n < 2 ^ n := by
 induction n with
 | zero => simp [vb]
 | succ n ih =>
  have : (l[p + n]?.getD false).toNat < 2 := Bool.toNat_lt _
  simp only [vb, Nat.pow_succ]
  omega
def Hit (ls : List Nat) (l : List Bool) (p n k : Nat) : Prop := k < (ordl ls).length /\ ln ls (sy ls k) = n /\ cd ls k = vb l p n
def Beg (ls : List Nat) (l : List Bool) (p n k : Nat) : Prop := k < (ordl ls).length /\ n <= ln ls (sy ls k) /\ cd ls k / 2 ^ (ln ls (sy ls k) - n) = vb l p n
inductive Rd (ls : List Nat) (l : List Bool) (p : Nat) : Nat -> Nat × Nat × Int -> Prop
 | short (j : Nat) : j < 15 -> p + j = l.length -> Rd ls l p j (0, 0, 4)
 | hit (j k : Nat) : j < 15 -> p + j < l.length -> Hit ls l p (j + 1) k -> Rd ls l p j (sy ls k, p + j + 1, 0)
 | miss (j : Nat) : j < 15 -> p + j < l.length -> (∀ k, ¬ Hit ls l p (j + 1) k) -> (∀ k, ¬ Beg ls l p (j + 1) k) -> Rd ls l p j (0, 0, 13)
 | next (j k : Nat) (r : Nat × Nat × Int) : j < 15 -> p + j < l.length -> (∀ k, ¬ Hit ls l p (j + 1) k) -> Beg ls l p (j + 1) k -> Rd ls l p (j + 1) r -> Rd ls l p j r
 | last : Rd ls l p 15 (0, 0, 13)
theorem hit_one {ls : List Nat} {l : List Bool} {p n k k' : Nat} (h : Hit ls l p n k) (h' : Hit ls l p n k') : k = k' := by
 obtain ⟨h1, h2, h3⟩ := h
 obtain ⟨g1, g2, g3⟩ := h'
 have e1 := cd_pf ls k h1
 have e2 := cd_pf ls k' g1
 rw [h2, h3] at e1
 rw [g2, g3] at e2
 rcases Nat.lt_trichotomy k k' with h | h | h
 ·have := pf_lt ls k k' h; omega
 ·exact h
 ·have := pf_lt ls k' k h; omega
theorem rd_one {ls : List Nat} {l : List Bool} {p j : Nat} {r r' : Nat × Nat × Int} (h : Rd ls l p j r) (h' : Rd ls l p j r') : r = r' := by
 induction h with
 | short j h1 h2 =>
  cases h' with
  | short _ g1 g2 => rfl
  | hit _ k' g1 g2 g3 => omega
  | miss _ g1 g2 g3 g4 => omega
  | next _ k' _ g1 g2 g3 g4 g5 => omega
  | last => omega
 | hit j k h1 h2 h3 =>
  cases h' with
  | short _ g1 g2 => omega
  | hit _ k' g1 g2 g3 => rw [hit_one h3 g3]
  | miss _ g1 g2 g3 g4 => exact absurd h3 (g3 k)
  | next _ k' _ g1 g2 g3 g4 g5 => exact absurd h3 (g3 k)
  | last => omega
 | miss j h1 h2 h3 h4 =>
  cases h' with
  | short _ g1 g2 => omega
  | hit _ k' g1 g2 g3 => exact absurd g3 (h3 k')
  | miss _ g1 g2 g3 g4 => rfl
  | next _ k' _ g1 g2 g3 g4 g5 => exact absurd g4 (h4 k')
  | last => omega
 | next j k r h1 h2 h3 h4 h5 ih =>
  cases h' with
  | short _ g1 g2 => omega
  | hit _ k' g1 g2 g3 => exact absurd g3 (h3 k')
  | miss _ g1 g2 g3 g4 => exact absurd h4 (g4 k)
  | next _ k' _ g1 g2 g3 g4 g5 => exact ih g5
  | last => omega
 | last =>
  cases h' with
  | short _ g1 g2 => omega
  | hit _ k' g1 g2 g3 => omega
  | miss _ g1 g2 g3 g4 => omega
  | next _ k' _ g1 g2 g3 g4 g5 => omega
  | last => rfl
def Cnt (ls : List Nat) (l : List Bool) (p j c : Nat) : Prop := c * 2 ^ (15 - j) + pf ls (mm ls j) = vb l p j * 2 ^ (15 - j)
theorem Cnt.start (ls : List Nat) (l : List Bool) (p : Nat) : Cnt ls l p 0 0 := by simp [Cnt, mm_zero, pf, vb]
theorem Cnt.hit {ls : List Nat} {l : List Bool} {p j c : Nat} (h : c * 2 ^ (14 - j) + pf ls (mm ls j) = vb l p (j + 1) * 2 ^ (14 - j)) (hj : j < 15) (hc : mm ls j + c < mm ls (j + 1)) : Hit ls l p (j + 1) (mm ls j + c) := by
 have hk : mm ls j + c < (ordl ls).length := Nat.lt_of_lt_of_le hc (mm_le ls (j + 1) (by omega))
 have h1 := sy_row ls j (mm ls j + c) hj (by omega) hc
 have h2 := cd_pf ls (mm ls j + c) hk
 rw [h1, pf_row ls j c hj (by omega), show 15 - (j + 1) = 14 - j by omega] at h2
 refine ⟨hk, h1, Nat.eq_of_mul_eq_mul_right (Nat.two_pow_pos (14 - j)) ?_⟩
 omega
theorem Cnt.next {ls : List Nat} {l : List Bool} {p j c : Nat} (h : c * 2 ^ (14 - j) + pf ls (mm ls j) = vb l p (j + 1) * 2 ^ (14 - j)) (hj : j < 15) (n : Nat) (hn : mm ls (j + 1) = mm ls j + n) (hc : n <= c) : Cnt ls l p (j + 1) (c - n) := by
 unfold Cnt
 have h1 := pf_row ls j n hj (by omega)
 rw [<- hn] at h1
 rw [h1, show 15 - (j + 1) = 14 - j by omega, <- h, Nat.sub_mul]
 have : n * 2 ^ (14 - j) <= c * 2 ^ (14 - j) := Nat.mul_le_mul_right _ hc
 omega
end Hf
end Go.Proofs.YtckbhciehmokdaaGreatDoor
namespace Go.Proofs.YtckbhciehmokdaaGreatDoor
set_option maxRecDepth 100000
set_option maxHeartbeats 8000000
namespace Sy
def lf : List Nat := [3, 4, 5, 6, 7, 8, 9, 10, 11, 13, 15, 17, 19, 23, 27, 31, 35, 43, 51, 59, 67, 83, 99, 115, 131, 163, 195, 227, 258]
def lb : List Nat := [0, 0, 0, 0, 0, 0, 0, 0, 1, 1, 1, 1, 2, 2, 2, 2, 3, 3, 3, 3, 4, 4, 4, 4, 5, 5, 5, 5, 0]
def df : List Nat := [1, 2, 3, 4, 5, 7, 9, 13, 17, 25, 33, 49, 65, 97, 129, 193, 257, 385, 513, 769, 1025, 1537, 2049, 3073, 4097, 6145, 8193, 12289, 16385, 24577]
def db : List Nat := [0, 0, 0, 0, 1, 1, 2, 2, 3, 3, 4, 4, 5, 5, 6, 6, 7, 7, 8, 8, 9, 9, 10, 10, 11, 11, 12, 12, 13, 13]
def at' (l : List Nat) (i : Nat) : Nat := l[i]?.getD 0
def lastTo (l : List Nat) (n : Nat) : Nat -> Nat
 | 0 => 0
 | i + 1 => if at' l i <= n then i else lastTo l n i
theorem lastTo_succ (l : List Nat) (n i : Nat) : lastTo l n (i + 1) = if at' l i <= n then i else lastTo l n i := rfl
def start (least per : Nat) : Nat -> Nat
 | 0 => least
 | g + 1 => start least per g + per * 2 ^ (g - 1)
theorem start_succ (least per g : Nat) : start least per (g + 1) = start least per g + per * 2 ^ (g - 1) := rfl
theorem lf_rises : ∀ i, i < 28 -> at' lf i < at' lf (i + 1) := by decide
theorem df_rises : ∀ i, i < 29 -> at' df i < at' df (i + 1) := by decide
theorem rises {l : List Nat} {N : Nat} (h : ∀ i, i < N -> at' l i < at' l (i + 1)) (i j : Nat) (hij : i <= j) (hj : j <= N) : at' l i <= at' l j := by
 induction j with
 | zero => obtain rfl : i = 0 := by omega
           exact Nat.le_refl _
 | succ j ih =>
  rcases Nat.lt_or_ge i (j + 1) with h1 | h1
  ·have := ih (by omega) (by omega)
   have := h j (by omega)
   omega
  ·obtain rfl : i = j + 1 := by omega
   exact Nat.le_refl _
theorem last_is {l : List Nat} {N : Nat} (h : ∀ i, i < N -> at' l i < at' l (i + 1)) (n k : Nat) (hk : k <= N) (h1 : at' l k <= n) (h2 : k < N -> n < at' l (k + 1)) : lastTo l n (N + 1) = k := by
 have : ∀ j, k < j -> j <= N + 1 -> lastTo l n j = k := by
  intro j
  induction j with
  | zero => intro _; omega
  | succ j ih =>
   intro ha hb
   rw [lastTo_succ]
   by_cases he : j = k
   ·subst he; rw [if_pos h1]
   ·have h3 := rises h (k + 1) j (by omega) (by omega)
    have h4 := h2 (by omega)
    rw [if_neg (by omega)]
    exact ih (by omega) (by omega)
 exact this _ (by omega) (Nat.le_refl _)
theorem last_has {l : List Nat} {N : Nat} (_ : ∀ i, i < N -> at' l i < at' l (i + 1)) (n : Nat) (h0 : at' l 0 <= n) : lastTo l n (N + 1) <= N /\ at' l (lastTo l n (N + 1)) <= n /\ (lastTo l n (N + 1) < N -> n < at' l (lastTo l n (N + 1) + 1)) := by
 have : ∀ j, 0 < j -> j <= N + 1 -> lastTo l n j < j /\ at' l (lastTo l n j) <= n /\ (lastTo l n j + 1 < j -> n < at' l (lastTo l n j + 1)) := by
  intro j
  induction j with
  | zero => intro _; omega
  | succ j ih =>
   intro _ hb
   rw [lastTo_succ]
   by_cases he : at' l j <= n
   ·rw [if_pos he]; exact ⟨by omega, he, by omega⟩
   ·rw [if_neg he]
    rcases Nat.eq_zero_or_pos j with hj | hj
    ·subst hj; exact absurd h0 he
    ·have := ih hj (by omega)
     refine ⟨by omega, this.2.1, fun hlt => ?_⟩
     rcases Nat.lt_or_ge (lastTo l n j + 1) j with h5 | h5
     ·exact this.2.2 h5
     ·have : lastTo l n j + 1 = j := by omega
      rw [this]; omega
 have := this (N + 1) (by omega) (Nat.le_refl _)
 exact ⟨by omega, this.2.1, fun h => this.2.2 (by omega)⟩
def lk (n : Nat) : Nat := lastTo lf n 29
def dk (n : Nat) : Nat := lastTo df n 30
theorem lk_has (n : Nat) (h : 3 <= n) : lk n <= 28 /\ at' lf (lk n) <= n /\ (lk n < 28 -> n < at' lf (lk n + 1)) := last_has lf_rises n h
theorem dk_has (n : Nat) (h : 1 <= n) : dk n <= 29 /\ at' df (dk n) <= n /\ (dk n < 29 -> n < at' df (dk n + 1)) := last_has df_rises n h
theorem lk_is (n k : Nat) (hk : k <= 28) (h1 : at' lf k <= n) (h2 : k < 28 -> n < at' lf (k + 1)) : lk n = k := last_is lf_rises n k hk h1 h2
theorem dk_is (n k : Nat) (hk : k <= 29) (h1 : at' df k <= n) (h2 : k < 29 -> n < at' df (k + 1)) : dk n = k := last_is df_rises n k hk h1 h2
theorem lf_next : ∀ k, k < 27 -> at' lf (k + 1) = at' lf k + 2 ^ at' lb k := by decide
theorem df_next : ∀ k, k < 29 -> at' df (k + 1) = at' df k + 2 ^ at' db k := by decide
theorem lf_group : ∀ g, g < 7 -> ∀ q, q < 4 -> at' lf (4 * g + q) = start 3 4 g + q * 2 ^ (g - 1) /\ at' lb (4 * g + q) = g - 1 := by decide
theorem df_group : ∀ g, g < 15 -> ∀ q, q < 2 -> at' df (2 * g + q) = start 1 2 g + q * 2 ^ (g - 1) /\ at' db (2 * g + q) = g - 1 := by decide
theorem lf_start : ∀ g, g < 8 -> start 3 4 g <= 259 := by decide
theorem df_start : ∀ g, g < 16 -> start 1 2 g <= 32769 := by decide
theorem lf_end : start 3 4 7 = 259 := by decide
theorem df_end : start 1 2 15 = 32769 := by decide
theorem lb_le : ∀ k, k < 29 -> at' lb k <= 5 := by decide
theorem db_le : ∀ k, k < 30 -> at' db k <= 13 := by decide
theorem lf_le : ∀ k, k < 29 -> 3 <= at' lf k /\ at' lf k + 2 ^ at' lb k <= 259 := by decide
theorem df_le : ∀ k, k < 30 -> 1 <= at' df k /\ at' df k + 2 ^ at' db k <= 32769 := by decide
theorem l_group (n g : Nat) (hg : g < 7) (hn : n <= 257) (h1 : start 3 4 g <= n) (h2 : n - start 3 4 g < 4 * 2 ^ (g - 1)) :
  4 * g + (n - start 3 4 g) / 2 ^ (g - 1) = lk n /\ (n - start 3 4 g) % 2 ^ (g - 1) = n - at' lf (lk n) := by
 have hp : 0 < 2 ^ (g - 1) := Nat.pow_pos (by omega)
 have hq : (n - start 3 4 g) / 2 ^ (g - 1) < 4 := (Nat.div_lt_iff_lt_mul hp).2 h2
 have hd := Nat.div_add_mod (n - start 3 4 g) (2 ^ (g - 1))
 have hm := Nat.mod_lt (n - start 3 4 g) hp
 obtain ⟨q, eq⟩ : ∃ q, q = (n - start 3 4 g) / 2 ^ (g - 1) := ⟨_, rfl⟩
 obtain ⟨r, er⟩ : ∃ r, r = (n - start 3 4 g) % 2 ^ (g - 1) := ⟨_, rfl⟩
 rw [<- eq] at hq hd ⊢
 rw [<- er] at hd hm ⊢
 obtain ⟨e1, e2⟩ := lf_group g hg q hq
 rw [Nat.mul_comm] at hd
 have hk : lk n = 4 * g + q := by
  refine lk_is n _ (by omega) (by omega) fun hlt => ?_
  rcases Nat.lt_or_ge (4 * g + q) 27 with h | h
  ·rw [lf_next _ h, e2]; omega
  ·obtain e : 4 * g + q = 27 := by omega
   rw [e]
   show n < 258
   omega
 rw [hk]
 exact ⟨rfl, by omega⟩
theorem d_group (n g : Nat) (hg : g < 15) (h1 : start 1 2 g <= n) (h2 : n - start 1 2 g < 2 * 2 ^ (g - 1)) :
  2 * g + (n - start 1 2 g) / 2 ^ (g - 1) = dk n /\ (n - start 1 2 g) % 2 ^ (g - 1) = n - at' df (dk n) := by
 have hp : 0 < 2 ^ (g - 1) := Nat.pow_pos (by omega)
 have hq : (n - start 1 2 g) / 2 ^ (g - 1) < 2 := (Nat.div_lt_iff_lt_mul hp).2 h2
 have hd := Nat.div_add_mod (n - start 1 2 g) (2 ^ (g - 1))
 have hm := Nat.mod_lt (n - start 1 2 g) hp
 obtain ⟨q, eq⟩ : ∃ q, q = (n - start 1 2 g) / 2 ^ (g - 1) := ⟨_, rfl⟩
 obtain ⟨r, er⟩ : ∃ r, r = (n - start 1 2 g) % 2 ^ (g - 1) := ⟨_, rfl⟩
 rw [<- eq] at hq hd ⊢
 rw [<- er] at hd hm ⊢
 obtain ⟨e1, e2⟩ := df_group g hg q hq
 rw [Nat.mul_comm] at hd
 have hk : dk n = 2 * g + q := by
  refine dk_is n _ (by omega) (by omega) fun hlt => ?_
  rw [df_next _ hlt, e2]; omega
 rw [hk]
 exact ⟨rfl, by omega⟩
theorem l_sum (k : Nat) (hk : k < 28) : start 3 4 (k / 4) + k % 4 * 2 ^ (k / 4 - 1) = at' lf k /\ at' lb k = k / 4 - 1 := by
 have h := lf_group (k / 4) (by omega) (k % 4) (by omega)
 rw [show 4 * (k / 4) + k % 4 = k from by omega] at h
 exact ⟨h.1.symm, h.2⟩
theorem d_sum (k : Nat) (hk : k < 30) : start 1 2 (k / 2) + k % 2 * 2 ^ (k / 2 - 1) = at' df k /\ at' db k = k / 2 - 1 := by
 have h := df_group (k / 2) (by omega) (k % 2) (by omega)
 rw [show 2 * (k / 2) + k % 2 = k from by omega] at h
 exact ⟨h.1.symm, h.2⟩
end Sy
end Go.Proofs.YtckbhciehmokdaaGreatDoor
namespace Go.Proofs.YtckbhciehmokdaaGreatDoor
set_option maxRecDepth 100000
set_option maxHeartbeats 8000000
open Go.RowKit
theorem Tryz.infoU8 : (Tryz.prog.info? 5).map (fun i => (i.zero, i.size, i.bytes)) = some (some (.int .u8 0), 1, 1) := by kernel_rfl
theorem run_append_mine {P : Program} {w : World} (base : Nat) (t ty e : TypeId) (i : TypeInfo) (z : Value) (size bytes : Nat) (h1 : P.underlying t = some (.slice e)) (h2 : P.info? e = some i) (h3 : i.zero = some z) (h4 : i.size = size) (h5 : i.bytes = bytes) (h6 : z.cells.size = size) (h7 : 0 < size)
  (g0 cap0 n : Nat) (xs : List Value) (hown : w.ownsRow base e size (.slice (some ⟨g0, 0, none⟩) n cap0) n xs)
  (sp : Option Addr) (m c : Nat) (news : List Value) (hn : news.length = m * size) (hsp : sp = none -> m = 0 /\ c = 0) (hc : 0 < m -> ∃ ad, sp = some ad /\ ∀ j u, news[j]? = some u -> w.cell? (ad.add j) = some u) (h1c : ∀ u ∈ news, u.oneCell' = true)
  (b1 : n + m <= maxLen) (b2 : (n + m) * bytes <= 140737488355328) (hbase : base <= w.heap.size) :
  ∃ g cap w', (Builtin.append_ #[t, t] ty #[.slice (some ⟨g0, 0, none⟩) n cap0, .slice sp m c]).run P w = .ok (.slice (some ⟨g, 0, none⟩) (n + m) cap) w' /\ w'.ownsRow base e size (.slice (some ⟨g, 0, none⟩) (n + m) cap) (n + m) (xs ++ news) /\ w.grownBy w' (some g0) := by
 cases sp with
 | none =>
  obtain ⟨rfl, rfl⟩ := hsp rfl
  obtain rfl : news = [] := List.eq_nil_of_length_eq_zero (by simpa using hn)
  refine ⟨g0, cap0, w, run_append_owned_none w base t ty e i size h1 h2 _ n xs hown, by simpa using hown, ⟨rfl, rfl, rfl, Nat.le_refl _, fun _ _ _ => rfl⟩⟩
 | some ad =>
  have hc' : ∀ j u, news[j]? = some u -> w.cell? (ad.add j) = some u := by
   intro j u hj
   have hlt : j < news.length := (List.getElem?_eq_some_iff.1 hj).1
   have hm : 0 < m := by
    rcases Nat.eq_zero_or_pos m with h | h
    ·subst h; simp at hn; rw [hn] at hlt; simp at hlt
    ·exact h
   obtain ⟨ad', he, h⟩ := hc hm
   injection he with he
   subst he
   exact h j u hj
  obtain ⟨v', w', hrun, r1, r2, r3⟩ := run_append_own (P := P) w base t ty e i z size bytes h1 h2 h3 h4 h5 h6 h7 _ n xs hown ad m c news hn hc' h1c b1 b2 hbase
  have hsh : ∃ g cap, v' = .slice (some ⟨g, 0, none⟩) (n + m) cap := by
   rcases r1.2 with ⟨h, _⟩ | ⟨g, cap, _, h, _⟩
   ·have := (r3.1 h).1; simp at this
   ·exact ⟨g, cap, h⟩
  obtain ⟨g, cap, rfl⟩ := hsh
  exact ⟨g, cap, w', hrun, r1, r2⟩
end Go.Proofs.YtckbhciehmokdaaGreatDoor
namespace Go.Proofs.YtckbhciehmokdaaGreatDoor
set_option maxRecDepth 100000
set_option maxHeartbeats 8000000
open Go.RowKit
theorem size_any (n : Int) (h : 0 <= n) (h2 : n <= 9223372036854775807) (w : World) :
  Calls Tryz.prog 113 #[.int .i64 n] w fun e w' => e = .returned (.int .i64 (n / 8 + (n % 8 + 7) / 8)) /\ w = w' := by
 go_enter Tryz.func113, Tryz.ntmps113
 go_wp2
 go_ret
 exact ⟨rfl, rfl⟩
theorem size_is (n L : Int) (h : 0 <= n) (h2 : n <= 9223372036854775807) (hL : Hid (n / 8 + (n % 8 + 7) / 8 = L)) (w : World) :
  Calls Tryz.prog 113 #[.int .i64 n] w fun e w' => e = .returned (.int .i64 L) /\ w = w' := hL.out ▸ size_any n h h2 w
theorem fits_yes (v n : Int) (h1 : 0 <= n) (h2 : 0 <= v) (h3 : n <= 32) (h : v / 2 ^ n.toNat = 0) (w : World) :
  Calls Tryz.prog 143 #[.int .i64 v, .int .i64 n] w fun e w' => e = .returned (.bool true) /\ w = w' := by
 go_enter Tryz.func143, Tryz.ntmps143
 go_wp2
 go_ret
 exact ⟨rfl, rfl⟩
theorem bitAt_any (b off len cap k : Nat) (x : Int) (w : World) (hk : k / 8 < len) (hc : w.cell? ⟨b, off + k / 8, none⟩ = some (.int .u8 x)) (h8 : k < 2251799813685248) :
  Calls Tryz.prog 99 #[.slice (some ⟨b, off, none⟩) len cap, .int .i64 k] w fun e w' => e = .returned (.int .u8 (bits BinOp.and IntKind.u8 (x / 2 ^ (k % 8)) 1)) /\ w = w' := by
 go_enter Tryz.func99, Tryz.ntmps99
 go_wp2
 go_ret
 exact ⟨rfl, rfl⟩
theorem check_whole (a : Option Addr) (len cap N : Nat) (h2 : N <= 9223372036854775807) (heq : Hid ((N : Int) / 8 + ((N : Int) % 8 + 7) / 8 = (len : Int))) (h0 : N % 8 = 0) (w : World) :
  Calls Tryz.prog 75 #[.agg #[.slice a len cap, .int .i64 N]] w fun e w' => e = .returned (.int .i64 0) /\ Below w.heap.size w w' := by
 have hd : decide ((N : Int) < 0) = false := by simp
 have h0' : ((N : Int) % 8 != 0) = false := by rw [bne_eq_false_iff_eq]; omega
 go_enter Tryz.func75, Tryz.ntmps75
 go_wp2
 go_quiet ((go_at_call 113; exact quiet_left (size_is N len (by omega) (by omega) heq _)))
 go_wp2
 go_ret
 exact ⟨rfl, below_drewN ((Below.refl _ _).alloc (Nat.le_refl _) _) _⟩
theorem check_last (b off len cap N : Nat) (x : Nat) (z : Bool) (h2 : N <= 9223372036854775807) (hl : len + 1 <= 281474976710656) (heq : Hid ((N : Int) / 8 + ((N : Int) % 8 + 7) / 8 = ((len + 1 : Nat) : Int))) (h0 : ((N : Int) % 8 != 0) = true)
  (w : World) (hb : b < w.heap.size) (hc : w.cell? ⟨b, off + len, none⟩ = some (.int .u8 (x : Int))) (hx : ((x : Int) / 2 ^ (N % 8) != 0) = z) :
  Calls Tryz.prog 75 #[.agg #[.slice (some ⟨b, off, none⟩) (len + 1) cap, .int .i64 N]] w fun e w' => e = .returned (.int .i64 (if z then 2 else 0)) /\ Below w.heap.size w w' := by
 have hd : decide ((N : Int) < 0) = false := by simp
 cases z
 all_goals
  go_enter Tryz.func75, Tryz.ntmps75
  go_wp2
  go_quiet ((go_at_call 113; exact quiet_left (size_is N _ (by omega) (by omega) heq _)))
  go_wp2
  go_ret
  exact ⟨rfl, below_drewN ((Below.refl _ _).alloc (Nat.le_refl _) _) _⟩
theorem size_int (N : Nat) : (N : Int) / 8 + ((N : Int) % 8 + 7) / 8 = (((N + 7) / 8 : Nat) : Int) := by omega
theorem pow_zero_iff (x k : Nat) : ((x : Int) / 2 ^ k != 0) = (x / 2 ^ k != 0) := by
 have e : ((x : Int) / 2 ^ k) = ((x / 2 ^ k : Nat) : Int) := by simp
 rw [e, Bool.eq_iff_iff, bne_iff_ne, bne_iff_ne]
 omega
theorem check_ok (s : Value) (bs : List Nat) (N : Nat) (w : World) (hs : Sl w s bs) (hN : N <= 9223372036854775807) (hr : Bs.right bs N) :
  Calls Tryz.prog 75 #[.agg #[s, .int .i64 N]] w fun e w' => e = .returned (.int .i64 0) /\ Below w.heap.size w w' := by
 obtain ⟨a, len, cap, rfl, rfl, hl, hnil, h8, hc⟩ := hs
 obtain ⟨h1, h2⟩ := hr
 by_cases h0 : N % 8 = 0
 ·exact check_whole a _ cap N hN (show _ = _ by rw [size_int, h1]) h0 w
 ·rcases h2 with h2 | h2
  ·exact absurd h2 h0
  ·obtain ⟨k, hk⟩ : ∃ k, bs.length = k + 1 := ⟨bs.length - 1, by omega⟩
   obtain ⟨b, off, rfl, hb, hcell⟩ := hc (by omega)
   rw [hk] at h2 hcell ⊢
   refine check_last b off k cap N (bs[k]?.getD 0) false hN (by omega) (show _ = _ by rw [size_int, <- h1, hk]) (by rw [bne_iff_ne]; omega) w hb (hcell k (by omega)) ?_
   rw [pow_zero_iff, bne_eq_false_iff_eq]
   simpa using h2
end Go.Proofs.YtckbhciehmokdaaGreatDoor
