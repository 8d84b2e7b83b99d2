/- Slices of bytes in memory, as lists of numbers. Nothing of the program is named here but its types' numbers. -/
import Derived.Test.YtoipmdemicdhoaaBits
import Derived.Test.YtoipmdemicdhoaaRows
import Derived.WalkKit
import Derived.WalkSpells
import Derived.WalkLawsBesides
import Derived.Handy
import Derived.BigQuiet
import Derived.Deep.QuietTactic
import Derived.Lib.Hide
import Derived.Laws.CopyOwn

namespace Go.Proofs.Ytoipmdemicdhoaa
set_option maxRecDepth 100000
open Go.RowKit

/-- A fact behind Hid (the short name is for smaller texts). -/
theorem LH {p : Prop} (h : p) : Hid p := h

theorem quiet_left {P : Program} {f : FuncId} {args : Array Value} {w : World} {n : Nat} {v : Value}
    (h : Calls P f args (w.drewN n) fun e w' => e = .returned v ∧ w.drewN n = w') : Calls P f args (w.drewN n) fun e w'' => e = .returned v ∧ ∃ m, w'' = w.drewN m :=
  h.mono fun _ _ ⟨he, hm⟩ => ⟨he, n, hm.symm⟩
theorem quiet_add_left {P : Program} {f : FuncId} {args : Array Value} {w : World} {a n : Nat} {v : Value}
    (h : Calls P f args (w.drewN (a + n)) fun e w' => e = .returned v ∧ w.drewN (a + n) = w') :
    Calls P f args (w.drewN (a + n)) fun e w'' => e = .returned v ∧ ∃ m, w'' = w.drewN (a + m) :=
  h.mono fun _ _ ⟨he, hm⟩ => ⟨he, n, hm.symm⟩

theorem below_drewN {B : Nat} {a w : World} (h : Below B a w) (n : Nat) : Below B a (w.drewN n) := by
  exact ⟨h.os, h.tape, h.output, h.size, h.block⟩

theorem bcell {W w1 : World} (hb : Below W.heap.size W w1) : (∀ b o, b < W.heap.size → w1.cell? ⟨b, o, none⟩ = W.cell? ⟨b, o, none⟩) ∧ (∀ b o, b < W.heap.size → w1.frozen? ⟨b, o, none⟩ = W.frozen? ⟨b, o, none⟩) :=
  ⟨fun b o h => hb.cell (p := ⟨b, o, none⟩) h, fun b o h => hb.frozen (p := ⟨b, o, none⟩) h⟩

/-- Bytes, as cells. -/
def vb (bs : List Nat) : List Value := bs.map fun (x : Nat) => Value.int .u8 (x : Int)

/-- The value s is a slice that reads the bytes bs. -/
def Sl (w : World) (s : Value) (bs : List Nat) : Prop :=
  ∃ a len cap, s = .slice a len cap ∧ len = bs.length ∧ len ≤ 281474976710656 ∧ (a = none → len = 0 ∧ cap = 0) ∧ (∀ x ∈ bs, x < 256) ∧
    (0 < len → ∃ b off, a = some ⟨b, off, none⟩ ∧ b < w.heap.size ∧ ∀ i, i < len → w.cell? ⟨b, off + i, none⟩ = some (.int .u8 ((bs[i]?.getD 0 : Nat) : Int)))

theorem Sl.nil (w : World) : Sl w (.slice none 0 0) [] := ⟨none, 0, 0, rfl, rfl, by omega, fun _ => ⟨rfl, rfl⟩, fun _ h => (nomatch h), fun h => absurd h (by omega)⟩

/-- A slice that was there reads as it did behind what left all that was there alone. -/
theorem Sl.later {w w' : World} {s : Value} {bs : List Nat} (h : Sl w s bs) (hb : Below w.heap.size w w') : Sl w' s bs := by
  obtain ⟨a, len, cap, rfl, h1, h2, h3, h4, h5⟩ := h
  refine ⟨a, len, cap, rfl, h1, h2, h3, h4, fun hl => ?_⟩
  obtain ⟨b, off, rfl, hlt, hc⟩ := h5 hl
  refine ⟨b, off, rfl, Nat.lt_of_lt_of_le hlt hb.size, fun i hi => ?_⟩
  rw [hb.cell (p := ⟨b, off + i, none⟩) hlt]
  exact hc i hi

theorem vb_length (bs : List Nat) : (vb bs).length = bs.length := by simp [vb]
theorem vb_get (bs : List Nat) (i : Nat) : (vb bs)[i]? = (bs[i]?).map fun (x : Nat) => Value.int .u8 (x : Int) := by simp [vb]
theorem vb_append (bs cs : List Nat) : vb (bs ++ cs) = vb bs ++ vb cs := by simp [vb]
theorem vb_set (bs : List Nat) (i x : Nat) : vb (bs.set i x) = (vb bs).set i (.int .u8 (x : Int)) := by simp [vb, List.map_set]

/-- What is owned is read. -/
theorem Sl.owned {w : World} {base : Nat} {s : Value} {n : Nat} {bs : List Nat} (h : w.ownsRow base 5 1 s n (vb bs)) (h8 : ∀ x ∈ bs, x < 256) (hn : n ≤ 281474976710656) : Sl w s bs := by
  obtain ⟨h1, h2⟩ := h
  have hl : n = bs.length := by simpa [vb] using h1.symm
  rcases h2 with ⟨rfl, rfl⟩ | ⟨g, cap, cur, rfl, hb, hg, hc1, hc2, hc3, hc4⟩
  · exact ⟨none, 0, 0, rfl, hl, by omega, fun _ => ⟨rfl, rfl⟩, h8, fun h => absurd h (by omega)⟩
  · have hown : w.ownsRow base 5 1 (.slice (some ⟨g, 0, none⟩) n cap) n (vb bs) := ⟨h1, Or.inr ⟨g, cap, cur, rfl, hb, hg, hc1, hc2, hc3, hc4⟩⟩
    refine ⟨_, n, cap, rfl, hl, hn, fun h => by simp at h, h8, fun _ => ⟨g, 0, rfl, (Array.getElem?_eq_some_iff.1 hg).1, fun i hi => ?_⟩⟩
    rw [Nat.zero_add, hown.cellAt i (by omega), vb_get, List.getElem?_eq_getElem (by omega)]
    simp

/-- Of all blocks block g alone may have turned. -/
structure Only (g : Nat) (w w' : World) : Prop where
  os : w'.os = w.os
  tape : w'.tape = w.tape
  output : w'.output = w.output
  size : w.heap.size ≤ w'.heap.size
  block : ∀ k, k < w.heap.size → k ≠ g → w'.heap[k]? = w.heap[k]?

theorem Only.refl (g : Nat) (w : World) : Only g w w := ⟨rfl, rfl, rfl, Nat.le_refl _, fun _ _ _ => rfl⟩

theorem Only.below {g B : Nat} {a w w' : World} (h : Only g w w') (hb : Below B a w) (hB : B ≤ g) (hs : B ≤ w.heap.size) : Below B a w' :=
  hb.trans ⟨h.os, h.tape, h.output, h.size, fun k hk => h.block k (by omega) (by omega)⟩

/-- 'copy' into a block of the call's own that is known whole. -/
theorem wpList_copy_only {P : Program} {w : World} {ops : Array Oper} {rest : List Oper} {o : Oper} {a : Act} {Q : Exit → Act → World → Prop} (hgd : o.guard = none) (d s : Operand) (dT sT : TypeId)
    (ho : o.op = .call { callee := .builtin .copy, args := #[d, s], argTypes := #[dT, sT] }) (elem : TypeId) (hu : P.underlying dT = some (.slice elem)) (hsz : (P.info? elem).map (·.size) = some 1)
    (dp sp : Option Addr) (dLen dCap sLen sCap : Nat) (hd : a.eval d = .slice dp dLen dCap) (hs : a.eval s = .slice sp sLen sCap)
    (g off : Nat) (cur : List Value) (t : TypeId) (hg : w.heap[g]? = some (.cells cur.toArray t (0, 0))) (cs : List Value) (hn : cs.length = Nat.min sLen dLen)
    (hpos : 0 < cs.length → dp = some ⟨g, off, none⟩ ∧ ∃ ad, sp = some ad ∧ ∀ j v, cs[j]? = some v → w.cell? (ad.add j) = some v)
    (hfit : off + cs.length ≤ cur.length) (h1 : ∀ v ∈ cs, v.oneCell' = true)
    (h : ∀ w', Hid (w'.heap[g]? = some (.cells (splice cur off cs).toArray t (0, 0))) → Only g w w' → wpList P ops Q rest (a.put o.dst (goInt cs.length)) w') :
    wpList P ops Q (o :: rest) a w := by
  by_cases h0 : cs.length = 0
  · obtain rfl : cs = [] := List.eq_nil_of_length_eq_zero h0
    refine wpList_copy_nothing hgd d s dT sT ho elem hu hsz dp sp dLen dCap sLen sCap hd hs (by simpa using hn.symm) ?_
    exact h w (show _ = _ by simpa [splice] using hg) (Only.refl _ _)
  · obtain ⟨rfl, ad, rfl, hsrc⟩ := hpos (by omega)
    refine wpList_copy_own hgd d s dT sT ho elem hu hsz g off dLen dCap ad sLen sCap hd hs cur.toArray t hg cs hn hsrc (by simpa using hfit) h1 ?_
    exact h _ (show _ = _ by simpa [splice] using setRow_heap w g _ _ t _ hg) ⟨rfl, rfl, rfl, by simp [World.setRow], fun k _ hk => setRow_other w g k _ (by omega)⟩

theorem oneCell_vb (bs : List Nat) : ∀ v ∈ vb bs, v.oneCell' = true := by
  intro v hv
  simp only [vb, List.mem_map] at hv
  obtain ⟨x, _, rfl⟩ := hv
  rfl

/-- The cells of a slice, as a law on copy or append asks for them. -/
theorem Sl.cells {w : World} {a : Option Addr} {len cap : Nat} {bs : List Nat} (h : Sl w (.slice a len cap) bs) (hl : 0 < len) : ∃ ad, a = some ad ∧ ∀ j v, (vb bs)[j]? = some v → w.cell? (ad.add j) = some v := by
  obtain ⟨a', len', cap', he, h1, h2, h3, h4, h5⟩ := h
  injection he with e1 e2 e3
  subst e1 e2 e3
  obtain ⟨b, off, rfl, hlt, hc⟩ := h5 hl
  refine ⟨_, rfl, fun j v hj => ?_⟩
  rw [vb_get] at hj
  have hjl : j < bs.length := by
    rcases Nat.lt_or_ge j bs.length with h | h
    · exact h
    · rw [List.getElem?_eq_none h] at hj; cases hj
  have e : (⟨b, off, none⟩ : Addr).add j = ⟨b, off + j, none⟩ := by
    cases j <;> simp [Addr.add]
  rw [e, hc j (by omega)]
  rw [List.getElem?_eq_getElem hjl] at hj ⊢
  simpa using hj

theorem Sl.len {w : World} {a : Option Addr} {len cap : Nat} {bs : List Nat} (h : Sl w (.slice a len cap) bs) : len = bs.length ∧ len ≤ 281474976710656 ∧ (a = none → len = 0 ∧ cap = 0) := by
  obtain ⟨a', len', cap', he, h1, h2, h3, h4, h5⟩ := h
  injection he with e1 e2 e3
  subst e1 e2 e3
  exact ⟨h1, h2, h3⟩

theorem Sl.shape {w : World} {s : Value} {bs : List Nat} (h : Sl w s bs) : ∃ a len cap, s = .slice a len cap ∧ len = bs.length := by
  obtain ⟨a', len', cap', he, h1, _⟩ := h
  exact ⟨_, _, _, he, h1⟩

/-- Block b holds the object o. (A name of its own: the walk does not look behind it.) -/
def Has (w : World) (b : Nat) (o : Obj) : Prop := w.heap[b]? = some o

theorem Has.lt {w : World} {b : Nat} {o : Obj} (h : Has w b o) : b < w.heap.size := lt_of_block h
theorem Has.later {w w' : World} {b : Nat} {o : Obj} (h : Has w b o) (hb : Below w.heap.size w w') : Has w' b o := (hb.block b h.lt).trans h
theorem Has.below {B : Nat} {w w' : World} {b : Nat} {o : Obj} (h : Has w b o) (hb : Below B w w') (hB : b < B) : Has w' b o := (hb.block b hB).trans h
theorem Has.new (w : World) (o : Obj) : Has (w.alloc o) w.heap.size o := by
  show (w.heap.push o)[_]? = _
  simp
theorem Has.alloc {w : World} {b : Nat} {o : Obj} (h : Has w b o) (o' : Obj) : Has (w.alloc o') b o := (Below.heap_alloc w o' b h.lt).trans h
theorem Has.set {w : World} {b : Nat} {o : Obj} (h : Has w b o) {a : Addr} (hne : b ≠ a.block) (v : Value) : Has (w.setCell a v) b o := (Below.heap_setCell w a v b hne).trans h
theorem Has.only {g : Nat} {w w' : World} {b : Nat} {o : Obj} (h : Has w b o) (ho : Only g w w') (hne : b ≠ g) : Has w' b o := (ho.block b h.lt hne).trans h
theorem Has.setSelf {w : World} {b i : Nat} {cs : Array Value} {t : TypeId} (h : Has w b (.cells cs t (0, 0))) (u : Value) : Has (w.setCell ⟨b, i, none⟩ u) b (.cells (cs.setIfInBounds i u) t (0, 0)) := by
  have h' : w.heap[b]? = some (.cells cs t (0, 0)) := h
  show (w.setCell ⟨b, i, none⟩ u).heap[b]? = _
  simp [World.setCell, Array.getElem?_modify, h']
theorem Has.cell {w : World} {b : Nat} {cs : Array Value} {t : TypeId} (h : Has w b (.cells cs t (0, 0))) (i : Nat) : w.cell? ⟨b, i, none⟩ = cs[i]? := by
  have h' : w.heap[b]? = some (.cells cs t (0, 0)) := h
  simp [World.cell?, h']
theorem Has.free {w : World} {b : Nat} {cs : Array Value} {t : TypeId} (h : Has w b (.cells cs t (0, 0))) (i : Nat) : w.frozen? ⟨b, i, none⟩ = false := by
  have h' : w.heap[b]? = some (.cells cs t (0, 0)) := h
  simp [World.frozen?, h']
theorem Has.two {w : World} {b : Nat} {x y : Value} {t : TypeId} (h : Has w b (.cells #[x, y] t (0, 0))) :
    w.cell? ⟨b, 0, none⟩ = some x ∧ w.cell? ⟨b, 1, none⟩ = some y ∧ w.frozen? ⟨b, 0, none⟩ = false ∧ w.frozen? ⟨b, 1, none⟩ = false :=
  ⟨by rw [h.cell]; rfl, by rw [h.cell]; rfl, h.free 0, h.free 1⟩
theorem Has.one {w : World} {b : Nat} {x : Value} {t : TypeId} (h : Has w b (.cells #[x] t (0, 0))) : w.cell? ⟨b, 0, none⟩ = some x ∧ w.frozen? ⟨b, 0, none⟩ = false :=
  ⟨by rw [h.cell]; rfl, h.free 0⟩

theorem below1 (w : World) (o1 : Obj) : Below w.heap.size w (w.alloc o1) := (Below.refl _ _).alloc (Nat.le_refl _) _
theorem below2 (w : World) (o1 o2 : Obj) : Below w.heap.size w ((w.alloc o1).alloc o2) := (below1 w o1).alloc (by simp) _
theorem below3 (w : World) (o1 o2 o3 : Obj) : Below w.heap.size w (((w.alloc o1).alloc o2).alloc o3) := (below2 w o1 o2).alloc (by simp; omega) _

theorem facts1 {w w1 : World} {o1 : Obj} (h : Below (w.alloc o1).heap.size (w.alloc o1) w1) : Has w1 w.heap.size o1 ∧ Below w.heap.size w w1 ∧ w.heap.size + 1 ≤ w1.heap.size :=
  ⟨(Has.new w o1).later h, (below1 w o1).trans (h.mono (by simp)), by have := h.size; simpa using this⟩
theorem facts2 {w w1 : World} {o1 o2 : Obj} (h : Below ((w.alloc o1).alloc o2).heap.size ((w.alloc o1).alloc o2) w1) :
    Has w1 w.heap.size o1 ∧ Has w1 (w.heap.size + 1) o2 ∧ Below w.heap.size w w1 ∧ w.heap.size + 2 ≤ w1.heap.size :=
  ⟨((Has.new w o1).alloc o2).later h, by have := (Has.new (w.alloc o1) o2).later h; simpa using this, (below2 w o1 o2).trans (h.mono (by simp; omega)), by have := h.size; simp at this; omega⟩
theorem facts3 {w w1 : World} {o1 o2 o3 : Obj} (h : Below (((w.alloc o1).alloc o2).alloc o3).heap.size (((w.alloc o1).alloc o2).alloc o3) w1) :
    Has w1 w.heap.size o1 ∧ Has w1 (w.heap.size + 1) o2 ∧ Has w1 (w.heap.size + 2) o3 ∧ Below w.heap.size w w1 ∧ w.heap.size + 3 ≤ w1.heap.size :=
  ⟨(((Has.new w o1).alloc o2).alloc o3).later h, by have := ((Has.new (w.alloc o1) o2).alloc o3).later h; simpa using this, by have := (Has.new ((w.alloc o1).alloc o2) o3).later h; simpa using this,
    (below3 w o1 o2 o3).trans (h.mono (by simp; omega)), by have := h.size; simp at this; omega⟩

end Go.Proofs.Ytoipmdemicdhoaa
