/- Plain facts on lists of bits and the bytes that hold them, the lowest bit of a byte first. Nothing of the program is named here. -/
import Derived.Test.YthbiibinmofmfaaRows
import Derived.WalkKit
import Derived.WalkSpells
import Derived.WalkLawsBesides
import Derived.Handy
import Derived.BigQuiet
import Derived.Deep.QuietTactic
import Derived.Lib.Hide
import Derived.Laws.CopyOwn
import Derived.Laws.BytesArg
import Derived.Laws.BytesString

namespace Go.Proofs.Ythbiibinmofmfaa.Bs

/-- The number of some bits, the lowest one first. -/
def num : List Bool → Nat
  | [] => 0
  | b :: l => b.toNat + 2 * num l

theorem num_lt (l : List Bool) : num l < 2 ^ l.length := by
  induction l with
  | nil => simp [num]
  | cons b l ih =>
    have : b.toNat ≤ 1 := by cases b <;> simp
    simp only [num, List.length_cons, Nat.pow_succ]
    omega

theorem testBit_num (l : List Bool) (i : Nat) : (num l).testBit i = l[i]?.getD false := by
  induction l generalizing i with
  | nil => simp [num]
  | cons b l ih =>
    cases i with
    | zero =>
      simp only [num, Nat.testBit_zero, List.getElem?_cons_zero, Option.getD_some]
      cases b <;> simp <;> omega
    | succ i =>
      rw [Nat.testBit_succ]
      have : (num (b :: l)) / 2 = num l := by
        simp only [num]
        cases b <;> simp <;> omega
      rw [this, ih]
      simp

/-- The j-th byte of some bits; behind their end bits 0 stand. -/
def byteAt (l : List Bool) (j : Nat) : Nat := num ((l.drop (8 * j)).take 8)

theorem byteAt_lt (l : List Bool) (j : Nat) : byteAt l j < 256 := by
  have h := num_lt ((l.drop (8 * j)).take 8)
  have h2 : ((l.drop (8 * j)).take 8).length ≤ 8 := List.length_take_le _ _
  have h3 : 2 ^ ((l.drop (8 * j)).take 8).length ≤ 2 ^ 8 := Nat.pow_le_pow_right (by omega) h2
  unfold byteAt
  omega

theorem testBit_byteAt (l : List Bool) (j i : Nat) : (byteAt l j).testBit i = (decide (i < 8) && (l[8 * j + i]?.getD false)) := by
  unfold byteAt
  rw [testBit_num]
  by_cases h : i < 8
  · simp [h, List.getElem?_drop]
  · simp [h, List.getElem?_take]

/-- Bits in m bytes. -/
def packTo (m : Nat) (l : List Bool) : List Nat := (List.range m).map (byteAt l)

/-- Bits in as many bytes as they need. -/
def pack (l : List Bool) : List Nat := packTo ((l.length + 7) / 8) l

theorem packTo_length (m : Nat) (l : List Bool) : (packTo m l).length = m := by simp [packTo]
theorem pack_length (l : List Bool) : (pack l).length = (l.length + 7) / 8 := by simp [pack, packTo]

theorem packTo_get (m : Nat) (l : List Bool) (j : Nat) (h : j < m) : (packTo m l)[j]?.getD 0 = byteAt l j := by
  simp [packTo, h]

theorem packTo_get' (m : Nat) (l : List Bool) (j : Nat) (h : j < m) : (packTo m l)[j]? = some (byteAt l j) := by
  simp [packTo, h]

/-- The n low bits of a number. -/
def bitsOf (v n : Nat) : List Bool := (List.range n).map v.testBit

theorem bitsOf_length (v n : Nat) : (bitsOf v n).length = n := by simp [bitsOf]
theorem bitsOf_get (v n i : Nat) : (bitsOf v n)[i]?.getD false = (decide (i < n) && v.testBit i) := by
  by_cases h : i < n <;> simp [bitsOf, h]

theorem bitsOf_succ (v n : Nat) : bitsOf v (n + 1) = bitsOf v n ++ [v.testBit n] := by
  simp [bitsOf, List.range_succ]

theorem num_bitsOf (v n : Nat) (h : v < 2 ^ n) : num (bitsOf v n) = v := by
  apply Nat.eq_of_testBit_eq
  intro i
  rw [testBit_num, bitsOf_get]
  by_cases hi : i < n
  · simp [hi]
  · have : v.testBit i = false := Nat.testBit_lt_two_pow (Nat.lt_of_lt_of_le h (Nat.pow_le_pow_right (by omega) (by omega)))
    simp [this]

theorem num_take_succ (l : List Bool) (k : Nat) (h : k < l.length) : num (l.take (k + 1)) = num (l.take k) + (l[k]).toNat * 2 ^ k := by
  induction l generalizing k with
  | nil => simp at h
  | cons b l ih =>
    cases k with
    | zero => simp [num]
    | succ k =>
      simp only [List.length_cons] at h
      have := ih k (by omega)
      simp only [List.take_succ_cons, num, List.getElem_cons_succ, Nat.pow_succ]
      rw [this, Nat.mul_add]
      have e : l[k].toNat * (2 ^ k * 2) = 2 * (l[k].toNat * 2 ^ k) := by rw [Nat.mul_comm (2 ^ k) 2, ← Nat.mul_assoc, Nat.mul_comm _ 2, Nat.mul_assoc]
      rw [e]
      omega

/-- One bit more. -/
theorem byteAt_snoc (l : List Bool) (b : Bool) (j : Nat) : byteAt (l ++ [b]) j = if j = l.length / 8 then byteAt l j ||| (b.toNat <<< (l.length % 8)) else byteAt l j := by
  apply Nat.eq_of_testBit_eq
  intro i
  have e1 : l.length % 8 + 8 * (l.length / 8) = l.length := by omega
  have hb : ∀ k, (b.toNat).testBit k = (decide (k = 0) && b) := by
    intro k
    cases b
    · simp
    · cases k with
      | zero => simp
      | succ k => rw [Nat.testBit_succ]; simp
  rw [testBit_byteAt]
  have app : (l ++ [b])[8 * j + i]?.getD false = if 8 * j + i = l.length then b else l[8 * j + i]?.getD false := by
    by_cases h : 8 * j + i < l.length
    · rw [if_neg (by omega), List.getElem?_append_left h]
    · rw [List.getElem?_append_right (by omega)]
      by_cases h2 : 8 * j + i = l.length
      · simp [h2]
      · rw [if_neg h2, List.getElem?_eq_none (by simp; omega), List.getElem?_eq_none (by omega)]
  rw [app]
  by_cases hj : j = l.length / 8
  · rw [if_pos hj, Nat.testBit_or, testBit_byteAt, Nat.testBit_shiftLeft, hb]
    by_cases hi : i < 8
    · by_cases hq : 8 * j + i = l.length
      · have : i - l.length % 8 = 0 := by omega
        have h2 : l.length % 8 ≤ i := by omega
        rw [if_pos hq, hq]
        simp [hi, this, h2]
      · rw [if_neg hq]
        by_cases h2 : i ≥ l.length % 8
        · have : ¬ (i - l.length % 8 = 0) := by omega
          simp [hi, this]
        · simp [h2]
    · by_cases h2 : i ≥ l.length % 8
      · have : ¬ (i - l.length % 8 = 0) := by omega
        simp [hi, this]
      · omega
  · rw [if_neg hj, testBit_byteAt]
    by_cases hi : i < 8
    · have : ¬ (8 * j + i = l.length) := by omega
      simp [this]
    · simp [hi]

theorem packTo_snoc (m : Nat) (l : List Bool) (b : Bool) : packTo m (l ++ [b]) = (packTo m l).set (l.length / 8) (byteAt l (l.length / 8) ||| (b.toNat <<< (l.length % 8))) := by
  apply List.ext_getElem?
  intro j
  rw [List.getElem?_set]
  by_cases h : j < m
  · rw [packTo_get' _ _ _ h, packTo_get' _ _ _ h, byteAt_snoc]
    by_cases hj : l.length / 8 = j
    · rw [if_pos hj.symm, if_pos hj, packTo_length, if_pos (by omega)]
      rw [← hj]
    · rw [if_neg (fun e => hj e.symm), if_neg hj]
  · rw [List.getElem?_eq_none (by rw [packTo_length]; omega)]
    by_cases hj : l.length / 8 = j
    · rw [if_pos hj, packTo_length, if_neg (by omega)]
    · rw [if_neg hj, List.getElem?_eq_none (by rw [packTo_length]; omega)]

/-- The bits of some bytes. -/
def bitsFrom (bs : List Nat) (n : Nat) : List Bool := (List.range n).map fun i => (bs[i / 8]?.getD 0).testBit (i % 8)

theorem bitsFrom_length (bs : List Nat) (n : Nat) : (bitsFrom bs n).length = n := by simp [bitsFrom]
theorem bitsFrom_get (bs : List Nat) (n i : Nat) (h : i < n) : (bitsFrom bs n)[i]?.getD false = (bs[i / 8]?.getD 0).testBit (i % 8) := by
  simp [bitsFrom, h]

/-- A row that is right: as many bytes as its bits need; behind its last bit bits 0. -/
def right (bs : List Nat) (n : Nat) : Prop := bs.length = (n + 7) / 8 ∧ (n % 8 = 0 ∨ (bs[bs.length - 1]?.getD 0) / 2 ^ (n % 8) = 0)

theorem pack_bitsFrom (bs : List Nat) (n : Nat) (h : right bs n) (h8 : ∀ x ∈ bs, x < 256) : pack (bitsFrom bs n) = bs := by
  obtain ⟨h1, h2⟩ := h
  apply List.ext_getElem?
  intro j
  unfold pack
  rw [bitsFrom_length, ← h1]
  by_cases hj : j < bs.length
  · rw [packTo_get' _ _ _ hj, List.getElem?_eq_getElem hj]
    congr 1
    apply Nat.eq_of_testBit_eq
    intro i
    rw [testBit_byteAt]
    have hlt : bs[j] < 256 := h8 _ (List.getElem_mem hj)
    by_cases hi : i < 8
    · by_cases hn : 8 * j + i < n
      · rw [bitsFrom_get _ _ _ hn]
        have e1 : (8 * j + i) / 8 = j := by omega
        have e2 : (8 * j + i) % 8 = i := by omega
        rw [e1, e2, List.getElem?_eq_getElem hj]
        simp [hi]
      · rw [List.getElem?_eq_none (by rw [bitsFrom_length]; omega)]
        simp only [Option.getD_none, Bool.and_false]
        have hj2 : j = bs.length - 1 := by omega
        rcases h2 with h2 | h2
        · omega
        · rw [← hj2, List.getElem?_eq_getElem hj, Option.getD_some] at h2
          have h3 : bs[j] < 2 ^ (n % 8) := by
            rcases Nat.div_eq_zero_iff.1 h2 with h | h
            · exact absurd h (by have := Nat.two_pow_pos (n % 8); omega)
            · exact h
          have : n % 8 ≤ i := by omega
          exact (Nat.testBit_lt_two_pow (Nat.lt_of_lt_of_le h3 (Nat.pow_le_pow_right (by omega) this))).symm
    · simp only [hi, decide_false, Bool.false_and]
      exact (Nat.testBit_lt_two_pow (Nat.lt_of_lt_of_le hlt (show 2 ^ 8 ≤ 2 ^ i from Nat.pow_le_pow_right (by omega) (by omega)))).symm
  · rw [List.getElem?_eq_none (by rw [packTo_length]; omega), List.getElem?_eq_none (by omega)]

theorem pack_right (l : List Bool) : right (pack l) l.length := by
  refine ⟨pack_length l, ?_⟩
  by_cases h : l.length % 8 = 0
  · exact Or.inl h
  · right
    rw [pack_length]
    unfold pack
    rw [packTo_get _ _ _ (by omega)]
    have e : byteAt l ((l.length + 7) / 8 - 1) < 2 ^ (l.length % 8) := by
      unfold byteAt
      refine Nat.lt_of_lt_of_le (num_lt _) (Nat.pow_le_pow_right (by omega) ?_)
      rw [List.length_take, List.length_drop]
      omega
    exact Nat.div_eq_of_lt e

theorem pack_lt (l : List Bool) : ∀ x ∈ pack l, x < 256 := by
  intro x hx
  simp only [pack, packTo, List.mem_map] at hx
  obtain ⟨j, _, rfl⟩ := hx
  exact byteAt_lt _ _

theorem bitsFrom_pack (l : List Bool) : bitsFrom (pack l) l.length = l := by
  apply List.ext_getElem?
  intro i
  by_cases h : i < l.length
  · simp only [bitsFrom, List.getElem?_map, List.getElem?_range h, Option.map_some]
    unfold pack
    rw [packTo_get _ _ _ (by omega), testBit_byteAt]
    have e : 8 * (i / 8) + i % 8 = i := by omega
    rw [e, List.getElem?_eq_getElem h]
    have : i % 8 < 8 := by omega
    simp [this]
  · rw [List.getElem?_eq_none (by rw [bitsFrom_length]; omega), List.getElem?_eq_none (by omega)]

/-- The bytes of a row, up to a whole byte, are those of the row with bits 0 behind it. -/
theorem pack_pad (l : List Bool) (k : Nat) (h : l.length + k ≤ 8 * ((l.length + 7) / 8)) : pack (l ++ List.replicate k false) = pack l := by
  unfold pack packTo
  have e : ((l ++ List.replicate k false).length + 7) / 8 = (l.length + 7) / 8 := by
    simp only [List.length_append, List.length_replicate]; omega
  rw [e]
  apply List.map_congr_left
  intro j _
  apply Nat.eq_of_testBit_eq
  intro i
  rw [testBit_byteAt, testBit_byteAt]
  congr 1
  by_cases h : 8 * j + i < l.length
  · rw [List.getElem?_append_left h]
  · rw [List.getElem?_append_right (by omega), List.getElem?_eq_none (by omega : l.length ≤ 8 * j + i)]
    rw [List.getElem?_replicate]
    split <;> rfl

end Go.Proofs.Ythbiibinmofmfaa.Bs

/- Slices of bytes in memory, as lists of numbers. Nothing of the program is named here but its types' numbers. -/
namespace Go.Proofs.Ythbiibinmofmfaa
set_option maxRecDepth 100000
open Go.RowKit

theorem quiet_left {P : Program} {f : FuncId} {args : Array Value} {w : World} {n : Nat} {v : Value}
    (h : Calls P f args (w.drewN n) fun e w' => e = .returned v ∧ w.drewN n = w') : Calls P f args (w.drewN n) fun e w'' => e = .returned v ∧ ∃ m, w'' = w.drewN m :=
  h.mono fun _ _ ⟨he, hm⟩ => ⟨he, n, hm.symm⟩
theorem quiet_add_left {P : Program} {f : FuncId} {args : Array Value} {w : World} {a n : Nat} {v : Value}
    (h : Calls P f args (w.drewN (a + n)) fun e w' => e = .returned v ∧ w.drewN (a + n) = w') :
    Calls P f args (w.drewN (a + n)) fun e w'' => e = .returned v ∧ ∃ m, w'' = w.drewN (a + m) :=
  h.mono fun _ _ ⟨he, hm⟩ => ⟨he, n, hm.symm⟩

theorem below_drewN {B : Nat} {a w : World} (h : Below B a w) (n : Nat) : Below B a (w.drewN n) := by
  exact ⟨h.os, h.tape, h.output, h.size, h.block⟩

theorem bcell {W w1 : World} (hb : Below W.heap.size W w1) : (∀ b o, b < W.heap.size → w1.cell? ⟨b, o, none⟩ = W.cell? ⟨b, o, none⟩) ∧ (∀ b o, b < W.heap.size → w1.frozen? ⟨b, o, none⟩ = W.frozen? ⟨b, o, none⟩) :=
  ⟨fun b o h => hb.cell (p := ⟨b, o, none⟩) h, fun b o h => hb.frozen (p := ⟨b, o, none⟩) h⟩

/-- Bytes, as cells. -/
def vb (bs : List Nat) : List Value := bs.map fun (x : Nat) => Value.int .u8 (x : Int)

/-- The value s is a slice that reads the bytes bs. -/
def Sl (w : World) (s : Value) (bs : List Nat) : Prop :=
  ∃ a len cap, s = .slice a len cap ∧ len = bs.length ∧ len ≤ 281474976710656 ∧ (a = none → len = 0 ∧ cap = 0) ∧ (∀ x ∈ bs, x < 256) ∧
    (0 < len → ∃ b off, a = some ⟨b, off, none⟩ ∧ b < w.heap.size ∧ ∀ i, i < len → w.cell? ⟨b, off + i, none⟩ = some (.int .u8 ((bs[i]?.getD 0 : Nat) : Int)))

theorem Sl.nil (w : World) : Sl w (.slice none 0 0) [] := ⟨none, 0, 0, rfl, rfl, by omega, fun _ => ⟨rfl, rfl⟩, fun _ h => (nomatch h), fun h => absurd h (by omega)⟩

/-- A slice that was there reads as it did behind what left all that was there alone. -/
theorem Sl.later {w w' : World} {s : Value} {bs : List Nat} (h : Sl w s bs) (hb : Below w.heap.size w w') : Sl w' s bs := by
  obtain ⟨a, len, cap, rfl, h1, h2, h3, h4, h5⟩ := h
  refine ⟨a, len, cap, rfl, h1, h2, h3, h4, fun hl => ?_⟩
  obtain ⟨b, off, rfl, hlt, hc⟩ := h5 hl
  refine ⟨b, off, rfl, Nat.lt_of_lt_of_le hlt hb.size, fun i hi => ?_⟩
  rw [hb.cell (p := ⟨b, off + i, none⟩) hlt]
  exact hc i hi

theorem vb_length (bs : List Nat) : (vb bs).length = bs.length := by simp [vb]
theorem vb_get (bs : List Nat) (i : Nat) : (vb bs)[i]? = (bs[i]?).map fun (x : Nat) => Value.int .u8 (x : Int) := by simp [vb]
theorem vb_append (bs cs : List Nat) : vb (bs ++ cs) = vb bs ++ vb cs := by simp [vb]
theorem vb_set (bs : List Nat) (i x : Nat) : vb (bs.set i x) = (vb bs).set i (.int .u8 (x : Int)) := by simp [vb, List.map_set]

/-- What is owned is read. -/
theorem Sl.owned {w : World} {base : Nat} {s : Value} {n : Nat} {bs : List Nat} (h : w.ownsRow base 5 1 s n (vb bs)) (h8 : ∀ x ∈ bs, x < 256) (hn : n ≤ 281474976710656) : Sl w s bs := by
  obtain ⟨h1, h2⟩ := h
  have hl : n = bs.length := by simpa [vb] using h1.symm
  rcases h2 with ⟨rfl, rfl⟩ | ⟨g, cap, cur, rfl, hb, hg, hc1, hc2, hc3, hc4⟩
  · exact ⟨none, 0, 0, rfl, hl, by omega, fun _ => ⟨rfl, rfl⟩, h8, fun h => absurd h (by omega)⟩
  · have hown : w.ownsRow base 5 1 (.slice (some ⟨g, 0, none⟩) n cap) n (vb bs) := ⟨h1, Or.inr ⟨g, cap, cur, rfl, hb, hg, hc1, hc2, hc3, hc4⟩⟩
    refine ⟨_, n, cap, rfl, hl, hn, fun h => by simp at h, h8, fun _ => ⟨g, 0, rfl, (Array.getElem?_eq_some_iff.1 hg).1, fun i hi => ?_⟩⟩
    rw [Nat.zero_add, hown.cellAt i (by omega), vb_get, List.getElem?_eq_getElem (by omega)]
    simp

/-- Of all blocks block g alone may have turned. -/
structure Only (g : Nat) (w w' : World) : Prop where
  os : w'.os = w.os
  tape : w'.tape = w.tape
  output : w'.output = w.output
  size : w.heap.size ≤ w'.heap.size
  block : ∀ k, k < w.heap.size → k ≠ g → w'.heap[k]? = w.heap[k]?

theorem Only.refl (g : Nat) (w : World) : Only g w w := ⟨rfl, rfl, rfl, Nat.le_refl _, fun _ _ _ => rfl⟩

theorem Only.below {g B : Nat} {a w w' : World} (h : Only g w w') (hb : Below B a w) (hB : B ≤ g) (hs : B ≤ w.heap.size) : Below B a w' :=
  hb.trans ⟨h.os, h.tape, h.output, h.size, fun k hk => h.block k (by omega) (by omega)⟩

/-- 'copy' into a block of the call's own that is known whole. -/
theorem wpList_copy_only {P : Program} {w : World} {ops : Array Oper} {rest : List Oper} {o : Oper} {a : Act} {Q : Exit → Act → World → Prop} (hgd : o.guard = none) (d s : Operand) (dT sT : TypeId)
    (ho : o.op = .call { callee := .builtin .copy, args := #[d, s], argTypes := #[dT, sT] }) (elem : TypeId) (hu : P.underlying dT = some (.slice elem)) (hsz : (P.info? elem).map (·.size) = some 1)
    (dp sp : Option Addr) (dLen dCap sLen sCap : Nat) (hd : a.eval d = .slice dp dLen dCap) (hs : a.eval s = .slice sp sLen sCap)
    (g off : Nat) (cur : List Value) (t : TypeId) (hg : w.heap[g]? = some (.cells cur.toArray t (0, 0))) (cs : List Value) (hn : cs.length = Nat.min sLen dLen)
    (hpos : 0 < cs.length → dp = some ⟨g, off, none⟩ ∧ ∃ ad, sp = some ad ∧ ∀ j v, cs[j]? = some v → w.cell? (ad.add j) = some v)
    (hfit : off + cs.length ≤ cur.length) (h1 : ∀ v ∈ cs, v.oneCell' = true)
    (h : ∀ w', Hid (w'.heap[g]? = some (.cells (splice cur off cs).toArray t (0, 0))) → Only g w w' → wpList P ops Q rest (a.put o.dst (goInt cs.length)) w') :
    wpList P ops Q (o :: rest) a w := by
  by_cases h0 : cs.length = 0
  · obtain rfl : cs = [] := List.eq_nil_of_length_eq_zero h0
    refine wpList_copy_nothing hgd d s dT sT ho elem hu hsz dp sp dLen dCap sLen sCap hd hs (by simpa using hn.symm) ?_
    exact h w (show _ = _ by simpa [splice] using hg) (Only.refl _ _)
  · obtain ⟨rfl, ad, rfl, hsrc⟩ := hpos (by omega)
    refine wpList_copy_own hgd d s dT sT ho elem hu hsz g off dLen dCap ad sLen sCap hd hs cur.toArray t hg cs hn hsrc (by simpa using hfit) h1 ?_
    exact h _ (show _ = _ by simpa [splice] using setRow_heap w g _ _ t _ hg) ⟨rfl, rfl, rfl, by simp [World.setRow], fun k _ hk => setRow_other w g k _ (by omega)⟩

theorem oneCell_vb (bs : List Nat) : ∀ v ∈ vb bs, v.oneCell' = true := by
  intro v hv
  simp only [vb, List.mem_map] at hv
  obtain ⟨x, _, rfl⟩ := hv
  rfl

/-- The cells of a slice, as a law on copy or append asks for them. -/
theorem Sl.cells {w : World} {a : Option Addr} {len cap : Nat} {bs : List Nat} (h : Sl w (.slice a len cap) bs) (hl : 0 < len) : ∃ ad, a = some ad ∧ ∀ j v, (vb bs)[j]? = some v → w.cell? (ad.add j) = some v := by
  obtain ⟨a', len', cap', he, h1, h2, h3, h4, h5⟩ := h
  injection he with e1 e2 e3
  subst e1 e2 e3
  obtain ⟨b, off, rfl, hlt, hc⟩ := h5 hl
  refine ⟨_, rfl, fun j v hj => ?_⟩
  rw [vb_get] at hj
  have hjl : j < bs.length := by
    rcases Nat.lt_or_ge j bs.length with h | h
    · exact h
    · rw [List.getElem?_eq_none h] at hj; cases hj
  have e : (⟨b, off, none⟩ : Addr).add j = ⟨b, off + j, none⟩ := by
    cases j <;> simp [Addr.add]
  rw [e, hc j (by omega)]
  rw [List.getElem?_eq_getElem hjl] at hj ⊢
  simpa using hj

theorem Sl.len {w : World} {a : Option Addr} {len cap : Nat} {bs : List Nat} (h : Sl w (.slice a len cap) bs) : len = bs.length ∧ len ≤ 281474976710656 ∧ (a = none → len = 0 ∧ cap = 0) := by
  obtain ⟨a', len', cap', he, h1, h2, h3, h4, h5⟩ := h
  injection he with e1 e2 e3
  subst e1 e2 e3
  exact ⟨h1, h2, h3⟩

theorem Sl.shape {w : World} {s : Value} {bs : List Nat} (h : Sl w s bs) : ∃ a len cap, s = .slice a len cap ∧ len = bs.length := by
  obtain ⟨a', len', cap', he, h1, _⟩ := h
  exact ⟨_, _, _, he, h1⟩

/-- Block b holds the object o. (A name of its own: the walk does not look behind it.) -/
def Has (w : World) (b : Nat) (o : Obj) : Prop := w.heap[b]? = some o

theorem Has.lt {w : World} {b : Nat} {o : Obj} (h : Has w b o) : b < w.heap.size := lt_of_block h
theorem Has.later {w w' : World} {b : Nat} {o : Obj} (h : Has w b o) (hb : Below w.heap.size w w') : Has w' b o := (hb.block b h.lt).trans h
theorem Has.below {B : Nat} {w w' : World} {b : Nat} {o : Obj} (h : Has w b o) (hb : Below B w w') (hB : b < B) : Has w' b o := (hb.block b hB).trans h
theorem Has.new (w : World) (o : Obj) : Has (w.alloc o) w.heap.size o := by
  show (w.heap.push o)[_]? = _
  simp
theorem Has.alloc {w : World} {b : Nat} {o : Obj} (h : Has w b o) (o' : Obj) : Has (w.alloc o') b o := (Below.heap_alloc w o' b h.lt).trans h
theorem Has.set {w : World} {b : Nat} {o : Obj} (h : Has w b o) {a : Addr} (hne : b ≠ a.block) (v : Value) : Has (w.setCell a v) b o := (Below.heap_setCell w a v b hne).trans h
theorem Has.only {g : Nat} {w w' : World} {b : Nat} {o : Obj} (h : Has w b o) (ho : Only g w w') (hne : b ≠ g) : Has w' b o := (ho.block b h.lt hne).trans h
theorem Has.setSelf {w : World} {b i : Nat} {cs : Array Value} {t : TypeId} (h : Has w b (.cells cs t (0, 0))) (u : Value) : Has (w.setCell ⟨b, i, none⟩ u) b (.cells (cs.setIfInBounds i u) t (0, 0)) := by
  have h' : w.heap[b]? = some (.cells cs t (0, 0)) := h
  show (w.setCell ⟨b, i, none⟩ u).heap[b]? = _
  simp [World.setCell, Array.getElem?_modify, h']
theorem Has.cell {w : World} {b : Nat} {cs : Array Value} {t : TypeId} (h : Has w b (.cells cs t (0, 0))) (i : Nat) : w.cell? ⟨b, i, none⟩ = cs[i]? := by
  have h' : w.heap[b]? = some (.cells cs t (0, 0)) := h
  simp [World.cell?, h']
theorem Has.free {w : World} {b : Nat} {cs : Array Value} {t : TypeId} (h : Has w b (.cells cs t (0, 0))) (i : Nat) : w.frozen? ⟨b, i, none⟩ = false := by
  have h' : w.heap[b]? = some (.cells cs t (0, 0)) := h
  simp [World.frozen?, h']
theorem Has.two {w : World} {b : Nat} {x y : Value} {t : TypeId} (h : Has w b (.cells #[x, y] t (0, 0))) :
    w.cell? ⟨b, 0, none⟩ = some x ∧ w.cell? ⟨b, 1, none⟩ = some y ∧ w.frozen? ⟨b, 0, none⟩ = false ∧ w.frozen? ⟨b, 1, none⟩ = false :=
  ⟨by rw [h.cell]; rfl, by rw [h.cell]; rfl, h.free 0, h.free 1⟩
theorem Has.one {w : World} {b : Nat} {x : Value} {t : TypeId} (h : Has w b (.cells #[x] t (0, 0))) : w.cell? ⟨b, 0, none⟩ = some x ∧ w.frozen? ⟨b, 0, none⟩ = false :=
  ⟨by rw [h.cell]; rfl, h.free 0⟩

theorem below1 (w : World) (o1 : Obj) : Below w.heap.size w (w.alloc o1) := (Below.refl _ _).alloc (Nat.le_refl _) _
theorem below2 (w : World) (o1 o2 : Obj) : Below w.heap.size w ((w.alloc o1).alloc o2) := (below1 w o1).alloc (by simp) _
theorem below3 (w : World) (o1 o2 o3 : Obj) : Below w.heap.size w (((w.alloc o1).alloc o2).alloc o3) := (below2 w o1 o2).alloc (by simp; omega) _

theorem facts1 {w w1 : World} {o1 : Obj} (h : Below (w.alloc o1).heap.size (w.alloc o1) w1) : Has w1 w.heap.size o1 ∧ Below w.heap.size w w1 ∧ w.heap.size + 1 ≤ w1.heap.size :=
  ⟨(Has.new w o1).later h, (below1 w o1).trans (h.mono (by simp)), by have := h.size; simpa using this⟩
theorem facts2 {w w1 : World} {o1 o2 : Obj} (h : Below ((w.alloc o1).alloc o2).heap.size ((w.alloc o1).alloc o2) w1) :
    Has w1 w.heap.size o1 ∧ Has w1 (w.heap.size + 1) o2 ∧ Below w.heap.size w w1 ∧ w.heap.size + 2 ≤ w1.heap.size :=
  ⟨((Has.new w o1).alloc o2).later h, by have := (Has.new (w.alloc o1) o2).later h; simpa using this, (below2 w o1 o2).trans (h.mono (by simp; omega)), by have := h.size; simp at this; omega⟩
theorem facts3 {w w1 : World} {o1 o2 o3 : Obj} (h : Below (((w.alloc o1).alloc o2).alloc o3).heap.size (((w.alloc o1).alloc o2).alloc o3) w1) :
    Has w1 w.heap.size o1 ∧ Has w1 (w.heap.size + 1) o2 ∧ Has w1 (w.heap.size + 2) o3 ∧ Below w.heap.size w w1 ∧ w.heap.size + 3 ≤ w1.heap.size :=
  ⟨(((Has.new w o1).alloc o2).alloc o3).later h, by have := ((Has.new (w.alloc o1) o2).alloc o3).later h; simpa using this, by have := (Has.new ((w.alloc o1).alloc o2) o3).later h; simpa using this,
    (below3 w o1 o2 o3).trans (h.mono (by simp; omega)), by have := h.size; simp at this; omega⟩

end Go.Proofs.Ythbiibinmofmfaa

/- A slice of bytes as a string. -/
namespace Go.Proofs.Ythbiibinmofmfaa
set_option maxRecDepth 100000
open Go.RowKit

/-- A row of bytes as a string. -/
def strB (bs : List Nat) : ByteArray := strOfNums (bs.map fun (x : Nat) => (x : Int))

/-- string(b), whatever the slice. -/
theorem run_string {P : Program} (w : World) (src dst e : TypeId) (hs : P.underlying src = some (.slice e)) (he : P.underlying e = some (.int .u8)) (hd : P.underlying dst = some .string) (a : Option Addr) (len cap : Nat) (bs : List Nat) (h : Sl w (.slice a len cap) bs) :
    (convert src dst (.slice a len cap)).run P w = .ok (.string (strB bs)) w := by
  obtain ⟨a', len', cap', he', h1, h2, h3, h4, h5⟩ := h
  injection he' with e1 e2 e3
  subst e1 e2 e3
  by_cases h0 : 0 < len
  · obtain ⟨b, off, rfl, hlt, hc⟩ := h5 h0
    refine run_convert_bytes_arg w src e hs he b off len cap (bs.map fun (x : Nat) => (x : Int)) (by rw [List.length_map, h1]) (fun i hi => ?_) dst hd
    rw [hc i hi]
    simp [List.getD, List.getElem?_eq_getElem (show i < bs.length by omega)]
  · obtain rfl : len = 0 := by omega
    obtain rfl : bs = [] := List.eq_nil_of_length_eq_zero h1.symm
    cases a with
    | none => exact run_convert_bytes_nil w src e hs he 0 cap dst hd
    | some p =>
      have hl : (loadCells p 0).run P w = .ok (([] : List Int).map (Value.int .u8)).toArray w := by
        have := run_loadCells_list (P := P) w p [] (fun j v hj => by simp at hj)
        simpa using this
      rw [run_convert_bytes_string w src dst e _ 0 cap hs he hd, run_bytesToString w p 0 cap [] hl]
      rfl

theorem string_of (w : World) (a : Option Addr) (len cap : Nat) (bs : List Nat) (S : ByteArray) (h : Sl w (.slice a len cap) bs) (hS : Hid (S = strB bs)) : (convert 35 9 (.slice a len cap)).run Try.prog w = .ok (.string S) w := by
  rw [hS.out]
  exact run_string w 35 9 5 Try.underlying35 Try.underlying5 Try.underlying9 a len cap bs h

theorem strB_size (a : List Nat) : (strB a).size = a.length := by unfold strB; rw [strOfNums_size, List.length_map]
theorem strB_append (a b : List Nat) : strB (a ++ b) = strB a ++ strB b := by
  apply ByteArray.ext
  rw [ByteArray.data_append]
  simp [strB, strOfNums]
end Go.Proofs.Ythbiibinmofmfaa
