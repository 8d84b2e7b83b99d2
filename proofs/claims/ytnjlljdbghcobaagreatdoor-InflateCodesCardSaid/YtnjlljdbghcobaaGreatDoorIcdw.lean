/- Headers that were written, as they are read; whole streams of one block. Plain facts. -/
import Derived.Test.YtnjlljdbghcobaaGreatDoorWseg
import Derived.Test.YtnjlljdbghcobaaGreatDoorCapp
import Derived.Test.YtnjlljdbghcobaaGreatDoorHrcodes

namespace Go.Proofs.YtnjlljdbghcobaaGreatDoor
set_option maxRecDepth 100000
namespace If
open Hd (num rd head)

/-- The run symbols' lengths, c of them, in their order. -/
def clRow (C : List Nat) : Nat → List Bool
  | 0 => []
  | k + 1 => clRow C k ++ Bs.bitsOf (Hf.ln C (Hd.ord k)) 3
theorem clRow_length (C : List Nat) (k : Nat) : (clRow C k).length = 3 * k := by
  induction k with
  | zero => rfl
  | succ k ih => simp only [clRow]; rw [List.length_append, ih, Bs.bitsOf_length]; omega
theorem clRow_at {C : List Nat} {l : List Bool} {p : Nat} (h8 : ∀ i, Hf.ln C i < 8) : ∀ (c : Nat), Sg l p (clRow C c) → ∀ k, k < c → num l (p + 3 * k) 3 = Hf.ln C (Hd.ord k)
  | 0, _, k, h => by omega
  | c + 1, h, k, hk => by
    have h1 := h.left
    have h2 := h.right
    rw [clRow_length] at h2
    rcases Nat.lt_or_ge k c with h3 | h3
    · exact clRow_at h8 c h1 k h3
    · obtain rfl : k = c := by omega
      exact h2.bits (h8 _)

/-- Where in the order a run symbol's length stands. -/
def iord (i : Nat) : Nat := [3, 17, 15, 13, 11, 9, 7, 5, 4, 6, 8, 10, 12, 14, 16, 18, 0, 1, 2][i]?.getD 0
theorem ord_iord : ∀ i, i < 19 → Hd.ord (iord i) = i ∧ iord i < 19 := by decide
theorem iord_ord : ∀ k, k < 19 → iord (Hd.ord k) = k := by decide

theorem cl_get {C : List Nat} {l : List Bool} {p c : Nat} (h : ∀ k, k < c → num l (p + 3 * k) 3 = Hf.ln C (Hd.ord k)) (hc : c ≤ 19) : ∀ k, k ≤ c → ∀ i, i < 19 → (Hd.cl l p k)[i]?.getD 0 = if iord i < k then Hf.ln C i else 0
  | 0, _, i, hi => by
    simp only [Hd.cl]
    rw [if_neg (by omega), List.getElem?_replicate, if_pos hi]
    rfl
  | k + 1, hk, i, hi => by
    have ih := cl_get h hc k (by omega) i hi
    simp only [Hd.cl]
    have o1 := Hd.ord_lt k
    by_cases e : Hd.ord k = i
    · subst e
      rw [List.getElem?_set_self (by rw [Hd.cl_length]; exact o1), Option.getD_some, h k (by omega), iord_ord k (by omega), if_pos (by omega)]
    · rw [List.getElem?_set_ne e, ih]
      have : iord i ≠ k := by
        intro e2
        apply e
        rw [← e2]
        exact (ord_iord i hi).1
      by_cases h3 : iord i < k
      · rw [if_pos h3, if_pos (by omega)]
      · rw [if_neg h3, if_neg (by omega)]
theorem cl_is {C : List Nat} {l : List Bool} {p c : Nat} (h8 : ∀ i, Hf.ln C i < 8) (hC : C.length = 19) (hc : c ≤ 19) (hz : ∀ k, c ≤ k → k < 19 → Hf.ln C (Hd.ord k) = 0) (h : Sg l p (clRow C c)) : Hd.cl l p c = C := by
  have hg := cl_get (clRow_at h8 c h) hc c (Nat.le_refl _)
  apply List.ext_getElem?
  intro i
  by_cases hi : i < 19
  · have := hg i hi
    have e : Hf.ln C i = (Hd.cl l p c)[i]?.getD 0 := by
      rw [this]
      by_cases h3 : iord i < c
      · rw [if_pos h3]
      · rw [if_neg h3]
        have := hz (iord i) (by omega) (ord_iord i hi).2
        rwa [(ord_iord i hi).1] at this
    unfold Hf.ln at e
    have a1 : i < (Hd.cl l p c).length := by rw [Hd.cl_length]; exact hi
    have a2 : i < C.length := by omega
    rw [List.getElem?_eq_getElem a1, List.getElem?_eq_getElem a2] at e ⊢
    simp only [Option.getD_some] at e
    rw [e]
  · rw [List.getElem?_eq_none (by rw [Hd.cl_length]; omega), List.getElem?_eq_none (by omega)]

/-- Runs as they stand: symbols, each with the number beside it. -/
def opRow (C : List Nat) (o : Nat × Nat) : List Bool := cw C o.1 ++ Bs.bitsOf o.2 (Hd.ex o.1)
def opsRow (C : List Nat) (ops : List (Nat × Nat)) : List Bool := (ops.map (opRow C)).flatten
theorem opsRow_cons (C : List Nat) (o : Nat × Nat) (ops : List (Nat × Nat)) : opsRow C (o :: ops) = opRow C o ++ opsRow C ops := rfl
theorem opsRow_append (C : List Nat) (a b : List (Nat × Nat)) : opsRow C (a ++ b) = opsRow C a ++ opsRow C b := by simp [opsRow]
/-- What runs tell behind some lengths. -/
def told1 (acc : List Nat) (o : Nat × Nat) : List Nat := acc ++ List.replicate (Hd.least o.1 + o.2) (Hd.val acc o.1)
def told (acc : List Nat) (ops : List (Nat × Nat)) : List Nat := ops.foldl told1 acc
theorem told1_length (acc : List Nat) (o : Nat × Nat) : (told1 acc o).length = acc.length + (Hd.least o.1 + o.2) := by simp [told1]
theorem told_grows : ∀ (ops : List (Nat × Nat)) (acc : List Nat), acc.length + ops.length ≤ (told acc ops).length
  | [], acc => by simp [told]
  | o :: ops, acc => by
    have := told_grows ops (told1 acc o)
    rw [told1_length] at this
    have h := Hd.least_le o.1
    simp only [told, List.foldl_cons, List.length_cons] at this ⊢
    omega
/-- Runs that may be: each symbol has a code, each number fits, none says 'the same' of nothing. -/
def OV (C : List Nat) : List (Nat × Nat) → List Nat → Prop
  | [], _ => True
  | o :: ops, acc => Hf.ln C o.1 ≠ 0 ∧ o.2 < 2 ^ Hd.ex o.1 ∧ (o.1 = 16 → acc.length ≠ 0) ∧ OV C ops (told1 acc o)

theorem runs_is {C : List Nat} {l : List Bool} (hf : Fit (Hd.zz C)) (n : Nat) : ∀ (ops : List (Nat × Nat)) (k : Nat) (acc : List Nat) (p : Nat), OV C ops acc → (told acc ops).length = n → ops.length ≤ k → Sg l p (opsRow C ops) →
    Hd.runs C l n k acc p = (told acc ops, p + (opsRow C ops).length, 0)
  | [], k, acc, p, _, h, _, _ => Hd.runs_done _ _ _ _ _ _ (by rw [← h]; exact Nat.le_refl _)
  | o :: ops, 0, _, _, _, _, h, _ => by simp at h
  | o :: ops, k + 1, acc, p, h1, h2, h3, h => by
    obtain ⟨v1, v2, v3, v4⟩ := h1
    rw [opsRow_cons] at h
    have b1 := h.left
    have b2 := h.right
    have e := b1.left.rd hf v1
    have b3 := b1.right
    rw [cw_len] at b3
    have e3 := b3.bits v2
    have r3 := b3.room
    have hn : (told (told1 acc o) ops).length = n := h2
    have hlen : (opRow C o).length = Hf.ln C o.1 + Hd.ex o.1 := by unfold opRow; rw [List.length_append, cw_len, Bs.bitsOf_length]
    have hg := told_grows ops (told1 acc o)
    rw [told1_length] at hg
    have hl := Hd.least_le o.1
    have ht : Hd.take acc o.1 o.2 n = (told1 acc o, 0) := by
      unfold Hd.take told1
      rw [if_neg (fun h => v3 h.1 h.2), if_neg (by omega)]
    rw [Hd.runs_take C l n (k + 1) acc p (p + Hf.ln C o.1) o.1 o.2 (told1 acc o) 0 (by omega) (by omega) e (by omega) e3.symm ht, if_neg (by simp)]
    have ih := runs_is hf n ops k (told1 acc o) (p + (opRow C o).length) v4 hn (by simpa using h3) b2
    rw [Nat.add_sub_cancel, show p + Hf.ln C o.1 + Hd.ex o.1 = p + (opRow C o).length by omega, ih, opsRow_cons, List.length_append, Nat.add_assoc]
    rfl

theorem fit_of_newE {zs : List Int} (h : newE zs = 0) : Fit zs := by
  unfold newE at h
  by_cases hc : chk zs = 12 ∧ Lone (nat zs)
  · exact Or.inr hc.1
  · rw [if_neg hc] at h
    exact Or.inl h

/-- What stands of a header. -/
def headRow (L D C : List Nat) (c : Nat) (ops : List (Nat × Nat)) : List Bool :=
  Bs.bitsOf (L.length - 257) 5 ++ (Bs.bitsOf (D.length - 1) 5 ++ (Bs.bitsOf (c - 4) 4 ++ (clRow C c ++ opsRow C ops)))
theorem headRow_length (L D C : List Nat) (c : Nat) (ops : List (Nat × Nat)) : (headRow L D C c ops).length = 14 + 3 * c + (opsRow C ops).length := by
  unfold headRow
  simp only [List.length_append, Bs.bitsOf_length, clRow_length]
  omega

/-- Conditions on a header. -/
structure HV (L D C : List Nat) (c : Nat) (ops : List (Nat × Nat)) : Prop where
  l1 : 257 ≤ L.length
  l2 : L.length ≤ 286
  d1 : 1 ≤ D.length
  d2 : D.length ≤ 30
  c1 : 4 ≤ c
  c2 : c ≤ 19
  c8 : ∀ i, Hf.ln C i < 8
  cl : C.length = 19
  cz : ∀ k, c ≤ k → k < 19 → Hf.ln C (Hd.ord k) = 0
  ce : newE (Hd.zz C) = 0
  ov : OV C ops []
  tl : told [] ops = L ++ D

theorem head_is {L D C : List Nat} {c : Nat} {ops : List (Nat × Nat)} (hv : HV L D C c ops) {l : List Bool} {p : Nat} (h : Sg l p (headRow L D C c ops)) :
    head l p = (L, D, p + (headRow L D C c ops).length, 0) := by
  have r0 := h.le
  rw [headRow_length] at r0
  rw [headRow_length]
  unfold headRow at h
  have n1 := h.left.bits (by have := hv.l2; omega)
  have a1 := h.right
  rw [Bs.bitsOf_length] at a1
  have n2 := a1.left.bits (by have := hv.d2; omega)
  have a2 := a1.right
  rw [Bs.bitsOf_length] at a2
  have n3 := a2.left.bits (by have := hv.c2; omega)
  have a3 := a2.right
  rw [Bs.bitsOf_length] at a3
  have n4 := cl_is hv.c8 hv.cl hv.c2 hv.cz a3.left
  have a4 := a3.right
  rw [clRow_length] at a4
  obtain ⟨l1, l2, d1, d2, c1, c2, c8, cl, cz, ce, ov, tl⟩ := hv
  have hlen : (told [] ops).length = L.length + D.length := by rw [tl, List.length_append]
  have hops := told_grows ops []
  simp only [List.length_nil] at hops
  have e := runs_is (fit_of_newE ce) (L.length + D.length) ops 400 [] (p + 5 + 5 + 4 + 3 * c) ov hlen (by omega) a4
  have q1 : L.length = num l p 5 + 257 := by omega
  have q2 : D.length = num l (p + 5) 5 + 1 := by omega
  have q3 : c = num l (p + 10) 4 + 4 := by rw [show p + 10 = p + 5 + 5 by omega]; omega
  have q4 : C = Hd.cl l (p + 14) c := by rw [show p + 14 = p + 5 + 5 + 4 by omega]; exact n4.symm
  rw [Hd.head_run (l := l) (p := p) (a := L.length) (b := D.length) (c := c) (ls := C) (by omega) q1 q2 q3 q4 (by omega) (by omega) ce]
  rw [show p + 14 + 3 * c = p + 5 + 5 + 4 + 3 * c by omega, e]
  simp only
  rw [if_neg (by simp), tl, List.take_left, List.drop_left]
  congr 3
  omega

/-! ### Streams of one block -/

theorem bb_pack_pad (l : List Bool) : ∃ z, bb (Bs.pack l) = l ++ z := by
  refine ⟨(bb (Bs.pack l)).drop l.length, ?_⟩
  have h : (bb (Bs.pack l)).take l.length = l := by
    apply List.ext_getElem?
    intro i
    by_cases hi : i < l.length
    · rw [List.getElem?_take_of_lt hi]
      have e : (Bs.bitsFrom (Bs.pack l) l.length)[i]? = l[i]? := by rw [Bs.bitsFrom_pack]
      rw [← e]
      unfold bb Bs.bitsFrom
      rw [List.getElem?_map, List.getElem?_map, List.getElem?_range hi, List.getElem?_range (by rw [Bs.pack_length]; omega)]
    · rw [List.getElem?_eq_none (by rw [List.length_take]; omega), List.getElem?_eq_none (by omega)]
  exact (h ▸ List.take_append_drop l.length (bb (Bs.pack l))).symm

theorem one_block {l : List Bool} {most : Int} {out : List Nat} {q : Nat} (h0 : 0 ≤ most) (h1 : most ≤ 65536) (hb : block l most.toNat 0 [] = (out, q, 0)) (hl : num l 0 1 = 1) : decode l most = (out, (q + 7) / 8, 0) := by
  have e : blocks l most.toNat (l.length + 1) [] 0 = (out, q, 0) := by
    simp only [blocks]
    rw [hb]
    simp only
    rw [if_neg (by simp), if_pos hl]
  unfold decode
  rw [if_neg (by omega), e, if_neg (by simp)]

/-- A block's first bits: the last one, of this kind. -/
def begRow (kind : Nat) : List Bool := Bs.bitsOf 1 1 ++ Bs.bitsOf kind 2
theorem begRow_length (kind : Nat) : (begRow kind).length = 3 := by simp [begRow, Bs.bitsOf_length]
theorem beg_is {l : List Bool} {kind : Nat} {r : List Bool} (hk : kind < 4) (h : Sg l 0 (begRow kind ++ r)) : num l 0 1 = 1 ∧ num l 1 2 = kind ∧ Sg l 3 r ∧ 3 ≤ l.length := by
  have a := h.left
  unfold begRow at a
  have b := h.right
  rw [begRow_length] at b
  have c := a.right
  rw [Bs.bitsOf_length] at c
  have d := c.room
  exact ⟨a.left.bits (by decide), c.bits (by omega), by simpa using b, by omega⟩

/-- A block by codes of its own. -/
def dynRow (L D C : List Nat) (c : Nat) (ops : List (Nat × Nat)) (ts : List Tk) : List Bool := begRow 2 ++ (headRow L D C c ops ++ (toksRow L D ts ++ cw L 256))
theorem dyn_decode {L D C : List Nat} {c : Nat} {ops : List (Nat × Nat)} (hv : HV L D C c ops) {ts : List Tk} (most : Int) (h0 : 0 ≤ most) (h1 : most ≤ 65536) (hL : newE (Hd.zz L) = 0) (hD : newE (Hd.zz D) = 0 ∨ ∀ x ∈ D, x = 0) (he : Hf.ln L 256 ≠ 0)
    (ht : ∀ t ∈ ts, Has1 L D t) (htv : TV most.toNat ts 0) (hts : ts.length ≤ (toksRow L D ts).length) :
    decode (bb (Bs.pack (dynRow L D C c ops ts))) most = (tell ts, (Bs.pack (dynRow L D C c ops ts)).length, 0) := by
  obtain ⟨z, hz⟩ := bb_pack_pad (dynRow L D C c ops ts)
  have hs : Sg (bb (Bs.pack (dynRow L D C c ops ts))) 0 (dynRow L D C c ops ts) := by rw [hz]; exact Sg.whole _ _
  have hlen : (dynRow L D C c ops ts).length = 3 + ((headRow L D C c ops).length + ((toksRow L D ts).length + Hf.ln L 256)) := by
    unfold dynRow; simp only [List.length_append, begRow_length, cw_len]
  have hle := hs.le
  rw [Bs.pack_length]
  generalize bb (Bs.pack (dynRow L D C c ops ts)) = l at hs hle ⊢
  generalize (dynRow L D C c ops ts).length = m at hlen hle ⊢
  unfold dynRow at hs
  obtain ⟨b1, b2, b3, b4⟩ := beg_is (by decide) hs
  have hh := head_is hv b3.left
  have b5 := b3.right
  have hd : (∃ t : Tk, t.len ≠ 0) → Fit (Hd.zz D) ∨ ∀ x, Hf.ln D x = 0 := fun _ => hD.imp fit_of_newE fun h x => by
    unfold Hf.ln
    rcases Nat.lt_or_ge x D.length with hx | hx
    · rw [List.getElem?_eq_getElem hx]; exact h _ (List.getElem_mem hx)
    · rw [List.getElem?_eq_none hx]; rfl
  have e := syms_is (most := most.toNat) (fit_of_newE hL) hd he ts (l.length + 1) [] _ ht htv (by omega) b5
  have hb : block l most.toNat 0 [] = (tell ts, m, 0) := by
    unfold block
    rw [if_neg (by omega), show 0 + 1 = 1 from rfl, b2, if_neg (by decide), if_neg (by decide), if_pos rfl]
    unfold dynamic
    rw [show 0 + 3 = 3 from rfl, hh]
    simp only
    rw [if_neg (by simp), if_neg (show ¬ L[256]?.getD 0 = 0 from he), if_neg (by rw [hL]; simp), if_neg (by
      rintro ⟨h1, h2⟩
      rcases hD with h | h
      · exact h1 h
      · exact h2 h), e]
    have e2 : 3 + (headRow L D C c ops).length + (toksRow L D ts).length + Hf.ln L 256 = m := by omega
    rw [e2]
    rfl
  rw [one_block h0 h1 hb b1]

theorem fit_fixL : Fit (Hd.zz fixL) := Or.inl (by decide +kernel)
theorem fit_fixD : Fit (Hd.zz fixD) := Or.inl (by decide +kernel)
/-- A block by the codes that all know. -/
def fixRow (ts : List Tk) : List Bool := begRow 1 ++ (toksRow fixL fixD ts ++ cw fixL 256)
theorem ln_fixL : ∀ i, i < 288 → 7 ≤ Hf.ln fixL i := by decide +kernel
theorem ln_fixD : ∀ i, i < 32 → Hf.ln fixD i = 5 := by decide +kernel
theorem has_fix {t : Tk} (h : Byt t ∨ Cop t) : Has1 fixL fixD t := by
  unfold Has1
  rcases h with ⟨h1, _, h2⟩ | ⟨_, h1, h2, h3, h4⟩
  · rw [if_pos h1]
    have := ln_fixL t.lit (by omega)
    omega
  · rw [if_neg (by omega)]
    have g1 := (Sy.lk_has t.len h1).1
    have g2 := (Sy.dk_has t.far h3).1
    have := ln_fixL (257 + Sy.lk t.len) (by omega)
    have := ln_fixD (Sy.dk t.far) (by omega)
    omega
theorem TV.all {most : Nat} : ∀ {ts : List Tk} {n : Nat}, TV most ts n → ∀ t ∈ ts, Byt t ∨ Cop t
  | [], _, _, t, h => nomatch h
  | u :: ts, n, h, t, ht => by
    obtain ⟨h1, _, h3⟩ := h
    rcases List.mem_cons.1 ht with rfl | ht
    · exact h1.1
    · exact TV.all h3 t ht
/-- Tokens that have codes take a bit each at the least. -/
theorem toksRow_ge {lit dist : List Nat} : ∀ {ts : List Tk}, (∀ t ∈ ts, Has1 lit dist t) → ts.length ≤ (toksRow lit dist ts).length
  | [], _ => Nat.zero_le _
  | t :: ts, h => by
    have ih := toksRow_ge (ts := ts) fun x hx => h x (List.mem_cons_of_mem _ hx)
    have h1 := h t (List.mem_cons_self ..)
    rw [toksRow_cons, List.length_append, List.length_cons]
    unfold Has1 at h1
    unfold tokRow
    split
    · rename_i h0
      rw [if_pos h0] at h1
      rw [cw_len]; omega
    · rename_i h0
      rw [if_neg h0] at h1
      simp only [List.length_append, cw_len]
      omega
theorem fix_decode {ts : List Tk} (most : Int) (h0 : 0 ≤ most) (h1 : most ≤ 65536) (htv : TV most.toNat ts 0) :
    decode (bb (Bs.pack (fixRow ts))) most = (tell ts, (Bs.pack (fixRow ts)).length, 0) := by
  have ht : ∀ t ∈ ts, Has1 fixL fixD t := fun t h => has_fix (htv.all t h)
  have hts := toksRow_ge ht
  obtain ⟨z, hz⟩ := bb_pack_pad (fixRow ts)
  have hs : Sg (bb (Bs.pack (fixRow ts))) 0 (fixRow ts) := by rw [hz]; exact Sg.whole _ _
  have he : Hf.ln fixL 256 ≠ 0 := by have := ln_fixL 256 (by decide); omega
  have hlen : (fixRow ts).length = 3 + ((toksRow fixL fixD ts).length + Hf.ln fixL 256) := by
    unfold fixRow; simp only [List.length_append, begRow_length, cw_len]
  have hle := hs.le
  rw [Bs.pack_length]
  generalize bb (Bs.pack (fixRow ts)) = l at hs hle ⊢
  generalize (fixRow ts).length = m at hlen hle ⊢
  unfold fixRow at hs
  obtain ⟨b1, b2, b3, b4⟩ := beg_is (by decide) hs
  have e := syms_is (most := most.toNat) fit_fixL (fun _ => Or.inl fit_fixD) he ts (l.length + 1) [] 3 ht htv (by omega) b3
  have hb : block l most.toNat 0 [] = (tell ts, m, 0) := by
    unfold block
    rw [if_neg (by omega), show 0 + 1 = 1 from rfl, b2, if_neg (by decide), if_pos rfl, show 0 + 3 = 3 from rfl, e]
    have e2 : 3 + (toksRow fixL fixD ts).length + Hf.ln fixL 256 = m := by omega
    rw [e2]
    rfl
  rw [one_block h0 h1 hb b1]
end If
end Go.Proofs.YtnjlljdbghcobaaGreatDoor

/- A dynamic block whose header tells the lengths one by one: plain facts. -/
namespace Go.Proofs.YtnjlljdbghcobaaGreatDoor
set_option maxRecDepth 100000
namespace If
open Hd (num rd head)

/-- Sixteen codes of four bits. -/
def C16 : List Nat := List.replicate 16 4 ++ List.replicate 3 0
theorem ln_C16 (s : Nat) (h : s < 16) : Hf.ln C16 s = 4 := (by decide : ∀ s : Fin 16, Hf.ln C16 s.1 = 4) ⟨s, h⟩
theorem C16_new : newE (Hd.zz C16) = 0 := by decide +kernel

theorem told_lits : ∀ (L acc : List Nat), (∀ x ∈ L, x < 16) → told acc (L.map fun x => (x, 0)) = acc ++ L
  | [], acc, _ => by simp [told]
  | x :: L, acc, h => by
    have hx := h x (List.mem_cons_self ..)
    have e : told1 acc (x, 0) = acc ++ [x] := by
      unfold told1 Hd.least Hd.val
      simp only
      rw [if_neg (by omega), if_neg (by omega), if_neg (by omega), if_neg (by omega), if_neg (by omega)]
      rfl
    have ih := told_lits L (acc ++ [x]) fun y hy => h y (List.mem_cons_of_mem _ hy)
    simp only [told, List.map_cons, List.foldl_cons] at ih ⊢
    rw [e, ih, List.append_assoc]
    rfl
theorem ov_lits : ∀ (L acc : List Nat), (∀ x ∈ L, x < 16) → OV C16 (L.map fun x => (x, 0)) acc
  | [], _, _ => trivial
  | x :: L, acc, h => by
    have hx := h x (List.mem_cons_self ..)
    exact ⟨by simp only; rw [ln_C16 x hx]; decide, Nat.two_pow_pos _, fun e => by simp only at e; omega, ov_lits L _ fun y hy => h y (List.mem_cons_of_mem _ hy)⟩
theorem opsRow_lits : ∀ (L : List Nat), (∀ x ∈ L, x < 16) → opsRow C16 (L.map fun x => (x, 0)) = rowOf C16 L
  | [], _ => rfl
  | x :: L, h => by
    have hx := h x (List.mem_cons_self ..)
    rw [List.map_cons, opsRow_cons, rowOf_cons, opsRow_lits L fun y hy => h y (List.mem_cons_of_mem _ hy)]
    have : Hd.ex x = 0 := by unfold Hd.ex; rw [if_neg (by omega), if_neg (by omega), if_neg (by omega)]
    unfold opRow
    simp only [this]
    simp [Bs.bitsOf]

theorem hv_lits {L : List Nat} (h1 : L.length = 257) (h2 : ∀ x ∈ L, x < 16) : HV L [0] C16 19 ((L ++ [0]).map fun x => (x, 0)) := by
  have h3 : ∀ x ∈ L ++ [0], x < 16 := by
    intro x hx
    rcases List.mem_append.1 hx with hx | hx
    · exact h2 x hx
    · simp at hx; omega
  refine ⟨by omega, by omega, by simp, by simp, by omega, by omega, ?_, by decide, fun k h4 h5 => by omega, C16_new, ov_lits _ _ h3, told_lits _ _ h3⟩
  intro i
  by_cases hi : i < 19
  · exact (by decide : ∀ s : Fin 19, Hf.ln C16 s.1 < 8) ⟨i, hi⟩
  · unfold Hf.ln; rw [List.getElem?_eq_none (by simp [C16]; omega)]; decide

/-- Bytes as tokens. -/
def lits (ks : List Nat) : List Tk := ks.map fun x => ⟨0, 0, x⟩
theorem tell_go : ∀ (ks out : List Nat), (lits ks).foldl tell1 out = out ++ ks
  | [], out => by simp [lits]
  | x :: ks, out => by
    have ih := tell_go ks (out ++ [x])
    simp only [lits, List.map_cons, List.foldl_cons] at ih ⊢
    show List.foldl tell1 (out ++ [x]) _ = _
    rw [ih, List.append_assoc]
    rfl
theorem tell_lits (ks : List Nat) : tell (lits ks) = ks := tell_go ks []
theorem tv_lits (most : Nat) : ∀ (ks : List Nat) (n : Nat), (∀ x ∈ ks, x < 256) → n + ks.length ≤ most → TV most (lits ks) n
  | [], _, _, _ => trivial
  | x :: ks, n, h, h2 => by
    rw [List.length_cons] at h2
    exact ⟨⟨Or.inl ⟨rfl, rfl, h x (List.mem_cons_self ..)⟩, Nat.zero_le _⟩, by show n + 1 ≤ most; omega, tv_lits most ks (n + 1) (fun y hy => h y (List.mem_cons_of_mem _ hy)) (by omega)⟩
theorem toksRow_lits (L D : List Nat) : ∀ ks : List Nat, toksRow L D (lits ks) = rowOf L ks
  | [] => rfl
  | x :: ks => by
    show toksRow L D (_ :: lits ks) = _
    rw [toksRow_cons, rowOf_cons, toksRow_lits L D ks]
    rfl

/-- The row that is written, in the order in which it is. -/
def codesRow (L ks : List Nat) : List Bool :=
  (Bs.bitsOf 1 1 ++ Bs.bitsOf 2 2 ++ Bs.bitsOf 0 10 ++ Bs.bitsOf 15 4) ++ clRow C16 19 ++ rowOf C16 L ++ cw C16 0 ++ rowOf L ks ++ cw L 256
theorem codesRow_is (L ks : List Nat) (h1 : L.length = 257) (h2 : ∀ x ∈ L, x < 16) : codesRow L ks = dynRow L [0] C16 19 ((L ++ [0]).map fun x => (x, 0)) (lits ks) := by
  have h3 : ∀ x ∈ L ++ [0], x < 16 := by
    intro x hx
    rcases List.mem_append.1 hx with hx | hx
    · exact h2 x hx
    · simp at hx; omega
  unfold dynRow headRow begRow
  rw [opsRow_lits _ h3, toksRow_lits, rowOf_append, h1]
  have e1 : rowOf C16 [0] = cw C16 0 := by simp [rowOf]
  have e2 : Bs.bitsOf 0 10 = Bs.bitsOf 0 5 ++ Bs.bitsOf 0 5 := by decide
  rw [e1]
  unfold codesRow
  rw [e2]
  simp only [List.append_assoc]
  rfl
theorem codes_decode {L ks : List Nat} (h1 : L.length = 257) (h2 : ∀ x ∈ L, x < 16) (h3 : newE (Hd.zz L) = 0) (h4 : Hf.ln L 256 ≠ 0) (h5 : ∀ x ∈ ks, x < 256 ∧ Hf.ln L x ≠ 0) (h6 : ks.length ≤ 65536) :
    decode (bb (Bs.pack (codesRow L ks))) 65536 = (ks, (Bs.pack (codesRow L ks)).length, 0) := by
  have ht : ∀ t ∈ lits ks, Has1 L [0] t := by
    intro t ht
    simp only [lits, List.mem_map] at ht
    obtain ⟨x, hx, rfl⟩ := ht
    unfold Has1
    rw [if_pos rfl]
    exact (h5 x hx).2
  have h := dyn_decode (ts := lits ks) (hv_lits h1 h2) 65536 (by decide) (by decide) h3 (Or.inr (by simp)) h4 ht (tv_lits _ ks 0 (fun x hx => (h5 x hx).1) (by show 0 + ks.length ≤ 65536; omega)) (toksRow_ge ht)
  rw [← codesRow_is L ks h1 h2, tell_lits] at h
  exact h
end If
end Go.Proofs.YtnjlljdbghcobaaGreatDoor

/- InflateCodes, walked: what the law holds in memory, and how it goes on. -/
namespace Go.Proofs.YtnjlljdbghcobaaGreatDoor
set_option maxRecDepth 100000
open Go.RowKit

/-- All blocks but one, and but those of bytes, are as they were. -/
def Kn (bB : Nat) (w w' : World) : Prop := ∀ (k : Nat) (cs : Array Value) (t : TypeId) (fr : Nat × Nat), k ≠ bB → t ≠ 5 → Has w k (.cells cs t fr) → Has w' k (.cells cs t fr)
theorem Kn.rz {bB g n : Nat} {d : Nat → Nat} {w w' : World} (h : Kn bB w w') (hz : Rz w g n d) (hg : g ≠ bB) : Rz w' g n d := by
  obtain ⟨cs, h1, h2, h3⟩ := hz
  exact ⟨cs, h _ _ _ _ hg (by decide) h1, h2, h3⟩

/-- The variable that holds a row, behind a call that made the row longer. -/
theorem row_step {w0 w w4 : World} {B bB : Nat} {a a' : Option Addr} {m m' cap cap' : Nat} {N M : Int} {l' : List Bool} (hx : Has w bB (rowVar a m cap N)) (hb : Below B w0 w) (hr : Row w4 B (.slice a' m' cap') l') (hb4 : Below B w w4) (hn : NB w w4) (hB : B ≤ bB) :
    Has w4 bB (rowVar a m cap N) ∧ Has ((w4.setCell ⟨bB, 0, none⟩ (.slice a' m' cap')).setCell ⟨bB, 1, none⟩ (.int .i64 M)) bB (rowVar a' m' cap' M) ∧
      Row ((w4.setCell ⟨bB, 0, none⟩ (.slice a' m' cap')).setCell ⟨bB, 1, none⟩ (.int .i64 M)) B (.slice a' m' cap') l' ∧
      Below B w0 ((w4.setCell ⟨bB, 0, none⟩ (.slice a' m' cap')).setCell ⟨bB, 1, none⟩ (.int .i64 M)) ∧
      Kn bB w ((w4.setCell ⟨bB, 0, none⟩ (.slice a' m' cap')).setCell ⟨bB, 1, none⟩ (.int .i64 M)) := by
  have h4 := hn _ _ _ _ hx (by decide)
  have hne := hr.ne h4
  refine ⟨h4, ?_, ownsRow_setCell_other (ownsRow_setCell_other hr hne _) hne _, set2_below (hb.trans hb4) _ hB _ _, fun k cs t fr hk ht hw => ?_⟩
  · have h2 := (h4.setSelf (i := 0) (.slice a' m' cap')).setSelf (i := 1) (.int .i64 M)
    simpa using h2
  · exact ((hn k cs t fr hw ht).set (a := ⟨bB, 0, none⟩) hk _).set (a := ⟨bB, 1, none⟩) hk _

theorem zl_of_rz {w : World} {g n : Nat} {d : Nat → Nat} (h : Rz w g n d) (h2 : n ≤ 17592186044416) : Zl w (.slice (some ⟨g, 0, none⟩) n n) (Hd.zz ((List.range n).map d)) := by
  refine ⟨_, n, n, rfl, by simp [Hd.zz], h2, (fun e => by cases e), fun _ => ⟨g, 0, rfl, h.lt, fun i hi => ?_⟩⟩
  rw [Nat.zero_add, h.cell i hi, Hd.zz_get]
  simp [hi]

/-- The symbols' lengths when i of them have been looked at. -/
def dl (zs : List Int) (i j : Nat) : Nat := if j < i ∧ 0 < zs[j]?.getD 0 then (zs[j]?.getD 0).toNat + 1 else 0
def dL (zs : List Int) (j : Nat) : Nat := if j = 256 then 1 else dl zs zs.length j
/-- All of them. -/
def cL (zs : List Int) : List Nat := (List.range 257).map (dL zs)
theorem cL_length (zs : List Int) : (cL zs).length = 257 := by simp [cL]
theorem cL_ln (zs : List Int) (j : Nat) (h : j < 257) : Hf.ln (cL zs) j = dL zs j := by unfold Hf.ln cL; simp [h]
theorem dl_succ (zs : List Int) (i : Nat) (x : Nat) (hx : zs[i]?.getD 0 = (x : Int)) (j : Nat) : dl zs (i + 1) j = if j = i then (if 0 < x then x + 1 else 0) else dl zs i j := by
  unfold dl
  by_cases e : j = i
  · subst e
    rw [if_pos rfl, hx]
    by_cases h : 0 < x
    · rw [if_pos h, if_pos ⟨by omega, by omega⟩]; rfl
    · rw [if_neg h, if_neg (fun h2 => by omega)]
  · rw [if_neg e]
    by_cases h : j < i ∧ 0 < zs[j]?.getD 0
    · rw [if_pos h, if_pos ⟨by omega, h.2⟩]
    · rw [if_neg h, if_neg (fun h2 => h ⟨by omega, h2.2⟩)]
theorem dl_self (zs : List Int) (i : Nat) : dl zs i i = 0 := by unfold dl; rw [if_neg (fun h => by omega)]
theorem cL_lt (zs : List Int) (h : ∀ i, i < zs.length → 0 ≤ zs[i]?.getD 0 ∧ zs[i]?.getD 0 ≤ 14) : ∀ x ∈ cL zs, x < 16 := by
  intro x hx
  simp only [cL, List.mem_map, List.mem_range] at hx
  obtain ⟨j, _, rfl⟩ := hx
  unfold dL dl
  split
  · omega
  · split
    · rename_i h2
      have := h j h2.1
      omega
    · omega
theorem i64_and255 (n : Int) : bits .and .i64 n 255 = n % 256 := by
  have h3 : (BitVec.ofInt 64 255).toNat = 2 ^ 8 - 1 := by decide
  have key : (BitVec.ofInt 64 n &&& BitVec.ofInt 64 255).toNat = (n % ((2 ^ 64 : Nat) : Int)).toNat % 2 ^ 8 := by
    rw [BitVec.toNat_and, BitVec.toNat_ofInt, h3, Nat.and_two_pow_sub_one_eq_mod]
  show IntKind.i64.wrap ((BitVec.ofInt 64 n &&& BitVec.ofInt 64 255).toNat : Nat) = n % 256
  rw [key, IntKind.wrap_i64]
  omega

/-- A row in the variable bB, in memory of the law's own. -/
structure Rst (w0 w : World) (B bB : Nat) (a : Option Addr) (m cap N : Nat) (l : List Bool) : Prop where
  x : Has w bB (rowVar a m cap (N : Int))
  r : Row w B (.slice a m cap) l
  b : Below B w0 w
  n : N = l.length
  o : B ≤ bB

/-- What a call leaves whose answer is stored as the row. -/
def Rnx (w0 w w4 : World) (B bB : Nat) (a : Option Addr) (m cap N : Nat) (a' : Option Addr) (m' cap' M : Nat) (l' : List Bool) : Prop :=
  Has w4 bB (rowVar a m cap (N : Int)) ∧ Rst w0 ((w4.setCell ⟨bB, 0, none⟩ (.slice a' m' cap')).setCell ⟨bB, 1, none⟩ (.int .i64 (M : Int))) B bB a' m' cap' M l' ∧
    Kn bB w ((w4.setCell ⟨bB, 0, none⟩ (.slice a' m' cap')).setCell ⟨bB, 1, none⟩ (.int .i64 (M : Int)))
theorem Rst.next {w0 w w4 : World} {B bB : Nat} {a a' : Option Addr} {m cap N m' cap' M : Nat} {l l' : List Bool} (h : Rst w0 w B bB a m cap N l) (hr : Row w4 B (.slice a' m' cap') l') (hb4 : Below B w w4) (hn : NB w w4) (hM : M = l'.length) : Rnx w0 w w4 B bB a m cap N a' m' cap' M l' := by
  obtain ⟨h1, h2, h3, h4, h5⟩ := row_step (M := (M : Int)) h.x h.b hr hb4 hn h.o
  exact ⟨h1, ⟨h2, h3, h4, hM, h.o⟩, h5⟩

theorem lay_call {w0 w : World} {B bB : Nat} {a : Option Addr} {m cap N : Nat} {l : List Bool} (h : Rst w0 w B bB a m cap N l) (hN : N ≤ 100000) (v n : Nat) (hn : n ≤ 32) (M : Nat) (hM : M = N + n) :
    Calls Tryz.prog 19 #[.agg #[.slice a m cap, .int .i64 (N : Int)], .int .i64 (v : Int), .int .i64 (n : Int)] w fun e w4 => ∃ a' m' cap', e = .returned (.agg #[.slice a' m' cap', .int .i64 (M : Int)]) ∧ Rnx w0 w w4 B bB a m cap N a' m' cap' M (l ++ Bs.bitsOf v n) := by
  have hb : B ≤ w.heap.size := by have := h.x.lt; have := h.o; omega
  refine (rlaid_any a m cap l N v n B w h.r hb h.n hN hn).mono ?_
  rintro e w4 ⟨a', m', cap', rfl, hr, hb4, hn4⟩
  exact ⟨a', m', cap', by rw [hM], h.next hr hb4 hn4 (by rw [List.length_append, Bs.bitsOf_length, ← h.n, hM])⟩

theorem put_call {w0 w : World} {B bB : Nat} {a : Option Addr} {m cap N : Nat} {l : List Bool} (h : Rst w0 w B bB a m cap N l) (hN : N ≤ 100000) (ls : List Nat) (s2 : Value) (hz : Zl w s2 (Hd.zz ls)) (sym : Nat) (hf : Fit (Hd.zz ls)) (hy : Hf.ln ls sym ≠ 0) (M : Nat) (hM : M = N + Hf.ln ls sym) :
    Calls Tryz.prog 20 #[.agg #[.slice a m cap, .int .i64 (N : Int)], s2, .int .i64 (sym : Int)] w fun e w4 => ∃ a' m' cap', e = .returned (.tuple #[.agg #[.slice a' m' cap', .int .i64 (M : Int)], .int .i64 0]) ∧ Rnx w0 w w4 B bB a m cap N a' m' cap' M (l ++ cw ls sym) := by
  have hb : B ≤ w.heap.size := by have := h.x.lt; have := h.o; omega
  have hl : sym < ls.length := by
    rcases Nat.lt_or_ge sym ls.length with h1 | h1
    · exact h1
    · exact absurd (by unfold Hf.ln; rw [List.getElem?_eq_none h1]; rfl) hy
  have hn := h.n
  refine (rhput_ok _ l N s2 (Hd.zz ls) sym w (h.r.sl (by omega)) hz h.n (by omega) (by rw [Hd.zz_length]; exact hl) hf (by rw [If.ln_zz]; omega)).mono ?_
  rw [Hd.nat_zz]
  rintro e w4 ⟨a', m', cap', rfl, hr, hb4⟩
  have hlen : (l ++ cw ls sym).length = M := by rw [List.length_append, cw_len, ← h.n, hM]
  exact ⟨a', m', cap', by rw [hlen], h.next (hr.weaken hb) (hb4.mono hb) (NB.of_below hb4) hlen.symm⟩

theorem Rst.later {w0 w w' : World} {B bB : Nat} {a : Option Addr} {m cap N : Nat} {l : List Bool} (h : Rst w0 w B bB a m cap N l) (hb : Below w.heap.size w w') : Rst w0 w' B bB a m cap N l :=
  ⟨h.x.later hb, own_stays h.r hb, h.b.trans (hb.mono (by have := h.x.lt; have := h.o; omega)), h.n, h.o⟩
theorem Rst.set {w0 w : World} {B bB : Nat} {a : Option Addr} {m cap N : Nat} {l : List Bool} (h : Rst w0 w B bB a m cap N l) {k : Nat} {cs : Array Value} {fr : Nat × Nat} (hk : Has w k (.cells cs 3 fr)) (hne : k ≠ bB) (hB : B ≤ k) (i : Nat) (v : Value) : Rst w0 (w.setCell ⟨k, i, none⟩ v) B bB a m cap N l :=
  ⟨h.x.set (a := ⟨k, i, none⟩) (Ne.symm hne) _, ownsRow_setCell_other h.r (a := ⟨k, i, none⟩) (own_ne_ty h.r hk (by decide)) _, h.b.setCell (p := ⟨k, i, none⟩) hB v, h.n, h.o⟩
theorem Rst.drew {w0 w : World} {B bB : Nat} {a : Option Addr} {m cap N : Nat} {l : List Bool} (h : Rst w0 w B bB a m cap N l) : Rst w0 w.drew B bB a m cap N l :=
  ⟨h.x, World.ownsRow.drew h.r, h.b.drew, h.n, h.o⟩
theorem Rz.set_other {w : World} {g n : Nat} {d : Nat → Nat} (h : Rz w g n d) {k : Nat} (hk : g ≠ k) (i : Nat) (v : Value) : Rz (w.setCell ⟨k, i, none⟩ v) g n d := by
  obtain ⟨cs, h1, h2, h3⟩ := h
  exact ⟨cs, h1.set (a := ⟨k, i, none⟩) hk v, h2, h3⟩
theorem Rz.drew {w : World} {g n : Nat} {d : Nat → Nat} (h : Rz w g n d) : Rz w.drew g n d := h
theorem Rz.obj {w : World} {g n : Nat} {d : Nat → Nat} (h : Rz w g n d) : ∃ cs, Has w g (.cells cs 3 (0, 0)) := by
  obtain ⟨cs, h1, _⟩ := h
  exact ⟨cs, h1⟩

/-- In which order the run symbols' lengths stand, as the law lists it. -/
abbrev ordObj : Obj := .cells #[.int .i64 16, .int .i64 17, .int .i64 18, .int .i64 0, .int .i64 8, .int .i64 7, .int .i64 9, .int .i64 6, .int .i64 10, .int .i64 5, .int .i64 11, .int .i64 4, .int .i64 12, .int .i64 3, .int .i64 13, .int .i64 2, .int .i64 14, .int .i64 1, .int .i64 15] 3 (0, 0)
theorem ord_cell {w : World} {o : Nat} (h : Has w o ordObj) (k : Nat) (hk : k < 19) : w.cell? ⟨o, k, none⟩ = some (.int .i64 (Hd.ord k : Int)) := by
  unfold ordObj at h
  rw [h.cell]
  match k, hk with
  | 0, _ => rfl
  | 1, _ => rfl
  | 2, _ => rfl
  | 3, _ => rfl
  | 4, _ => rfl
  | 5, _ => rfl
  | 6, _ => rfl
  | 7, _ => rfl
  | 8, _ => rfl
  | 9, _ => rfl
  | 10, _ => rfl
  | 11, _ => rfl
  | 12, _ => rfl
  | 13, _ => rfl
  | 14, _ => rfl
  | 15, _ => rfl
  | 16, _ => rfl
  | 17, _ => rfl
  | 18, _ => rfl
  | (k + 19), h => exact absurd h (by omega)
def d16 (t : Nat) : Nat := if t < 16 then 4 else 0
theorem C16_is : (List.range 19).map d16 = If.C16 := by decide

/-- What the law holds in memory from the header on. -/
structure Mm (w0 w : World) (bB o : Nat) (a : Option Addr) (m cap N : Nat) (l : List Bool) (d e : Nat → Nat) : Prop where
  s : Rst w0 w w0.heap.size bB a m cap N l
  z : Rz w w0.heap.size 257 d
  r : Rz w (o + 1) 19 e
  od : Has w o ordObj
  g1 : w0.heap.size < bB
  g2 : bB < o
theorem Mm.next {w0 w w4 : World} {bB o : Nat} {a a' : Option Addr} {m m' cap cap' N M : Nat} {l l' : List Bool} {d e : Nat → Nat} (h : Mm w0 w bB o a m cap N l d e) (hn : Rnx w0 w w4 w0.heap.size bB a m cap N a' m' cap' M l') :
    Mm w0 ((w4.setCell ⟨bB, 0, none⟩ (.slice a' m' cap')).setCell ⟨bB, 1, none⟩ (.int .i64 (M : Int))) bB o a' m' cap' M l' d e :=
  ⟨hn.2.1, hn.2.2.rz h.z (by have := h.g1; omega), hn.2.2.rz h.r (by have := h.g2; omega), hn.2.2 _ _ _ _ (by have := h.g2; omega) (by decide) h.od, h.g1, h.g2⟩
theorem Mm.drew {w0 w : World} {bB o : Nat} {a : Option Addr} {m cap N : Nat} {l : List Bool} {d e : Nat → Nat} (h : Mm w0 w bB o a m cap N l d e) : Mm w0 w.drew bB o a m cap N l d e :=
  ⟨h.s.drew, h.z, h.r, h.od, h.g1, h.g2⟩
theorem Mm.setRun {w0 w : World} {bB o : Nat} {a : Option Addr} {m cap N : Nat} {l : List Bool} {d e : Nat → Nat} (h : Mm w0 w bB o a m cap N l d e) (p v : Nat) (hp : p < 19) (e' : Nat → Nat) (he : ∀ i, i < 19 → e' i = if i = p then v else e i) : Mm w0 (w.setCell ⟨o + 1, p, none⟩ (.int .i64 (v : Int))) bB o a m cap N l d e' := by
  obtain ⟨cs, hk⟩ := h.r.obj
  have g1 := h.g1
  have g2 := h.g2
  exact ⟨h.s.set hk (by omega) (by omega) _ _, h.z.set_other (by omega) _ _, (h.r.set p v hp).congr he, h.od.set (a := ⟨o + 1, p, none⟩) (by simp) _, g1, g2⟩

theorem row_len {w : World} {B : Nat} {a : Option Addr} {m cap : Nat} {l : List Bool} (h : Row w B (.slice a m cap) l) : m = (Bs.pack l).length := by
  rw [Bs.pack_length]
  rcases h.2 with ⟨h1, h2⟩ | ⟨_, _, _, h1, _⟩
  · injection h1 with _ h1 _; omega
  · injection h1 with _ h1 _
theorem all_codes {L ks : List Nat} {l0 l1 l3 l : List Bool} (h0 : l0 = [] ++ Bs.bitsOf 1 1 ++ Bs.bitsOf 2 2 ++ Bs.bitsOf 0 10 ++ Bs.bitsOf 15 4) (h1 : l1 = l0 ++ If.clRow If.C16 19) (h3 : l3 = l1 ++ rowOf If.C16 L ++ cw If.C16 0) (hl : l = l3 ++ rowOf L ks ++ cw L 256) : l = If.codesRow L ks := by
  subst hl h3 h1 h0
  unfold If.codesRow
  rw [List.nil_append]
end Go.Proofs.YtnjlljdbghcobaaGreatDoor
