import Derived.Test.YtckbhciehmokdaaGreatDoorIfix
namespace Go.Proofs.YtckbhciehmokdaaGreatDoor
set_option maxRecDepth 100000
set_option maxHeartbeats 8000000
namespace If
open Hd (num rd head)
def clRow (C : List Nat) : Nat -> List Bool
 | 0 => []
 | k + 1 => clRow C k ++ Bs.bitsOf (Hf.ln C (Hd.ord k)) 3
theorem clRow_length (C : List Nat) (k : Nat) : (clRow C k).length = 3 * k := by
 induction k with
 | zero => rfl
 | succ k ih => simp only [clRow]; rw [List.length_append, ih, Bs.bitsOf_length]; omega
theorem clRow_at {C : List Nat} {l : List Bool} {p : Nat} (h8 : ∀ i, Hf.ln C i < 8) : ∀ (c : Nat), Sg l p (clRow C c) -> ∀ k, k < c -> num l (p + 3 * k) 3 = Hf.ln C (Hd.ord k)
 | 0, _, k, h => by omega
 | c + 1, h, k, hk => by
  have h1 := h.left
  have h2 := h.right
  rw [clRow_length] at h2
  rcases Nat.lt_or_ge k c with h3 | h3
  ·exact clRow_at h8 c h1 k h3
  ·obtain rfl : k = c := by omega
   exact h2.bits (h8 _)
def iord (i : Nat) : Nat := [3, 17, 15, 13, 11, 9, 7, 5, 4, 6, 8, 10, 12, 14, 16, 18, 0, 1, 2][i]?.getD 0
theorem ord_iord : ∀ i, i < 19 -> Hd.ord (iord i) = i /\ iord i < 19 := by decide
theorem iord_ord : ∀ k, k < 19 -> iord (Hd.ord k) = k := by decide
theorem cl_get {C : List Nat} {l : List Bool} {p c : Nat} (h : ∀ k, k < c -> num l (p + 3 * k) 3 = Hf.ln C (Hd.ord k)) (hc : c <= 19) : ∀ k, k <= c -> ∀ i, i < 19 -> (Hd.cl l p k)[i]?.getD 0 = if iord i < k then Hf.ln C i else 0
 | 0, _, i, hi => by
  simp only [Hd.cl]
  rw [if_neg (by omega), List.getElem?_replicate, if_pos hi]
  rfl
 | k + 1, hk, i, hi => by
  have ih := cl_get h hc k (by omega) i hi
  simp only [Hd.cl]
  have o1 := Hd.ord_lt k
  by_cases e : Hd.ord k = i
  ·subst e
   rw [List.getElem?_set_self (by rw [Hd.cl_length]; exact o1), Option.getD_some, h k (by omega), iord_ord k (by omega), if_pos (by omega)]
  ·rw [List.getElem?_set_ne e, ih]
   have : iord i ≠ k := by
    intro e2
    apply e
    rw [<- e2]
    exact (ord_iord i hi).1
   by_cases h3 : iord i < k
   ·rw [if_pos h3, if_pos (by omega)]
   ·rw [if_neg h3, if_neg (by omega)]
theorem cl_is {C : List Nat} {l : List Bool} {p c : Nat} (h8 : ∀ i, Hf.ln C i < 8) (hC : C.length = 19) (hc : c <= 19) (hz : ∀ k, c <= k -> k < 19 -> Hf.ln C (Hd.ord k) = 0) (h : Sg l p (clRow C c)) : Hd.cl l p c = C := by
 have hg := cl_get (clRow_at h8 c h) hc c (Nat.le_refl _)
 apply List.ext_getElem?
 intro i
 by_cases hi : i < 19
 ·have := hg i hi
  have e : Hf.ln C i = (Hd.cl l p c)[i]?.getD 0 := by
   rw [this]
   by_cases h3 : iord i < c
   ·rw [if_pos h3]
   ·rw [if_neg h3]
    have := hz (iord i) (by omega) (ord_iord i hi).2
    rwa [(ord_iord i hi).1] at this
  unfold Hf.ln at e
  have a1 : i < (Hd.cl l p c).length := by rw [Hd.cl_length]; exact hi
  have a2 : i < C.length := by omega
  rw [List.getElem?_eq_getElem a1, List.getElem?_eq_getElem a2] at e ⊢
  simp only [Option.getD_some] at e
  rw [e]
 ·rw [List.getElem?_eq_none (by rw [Hd.cl_length]; omega), List.getElem?_eq_none (by omega)]
def opRow (C : List Nat) (o : Nat × Nat) : List Bool := cw C o.1 ++ Bs.bitsOf o.2 (Hd.ex o.1)
def opsRow (C : List Nat) (ops : List (Nat × Nat)) : List Bool := (ops.map (opRow C)).flatten
theorem opsRow_cons (C : List Nat) (o : Nat × Nat) (ops : List (Nat × Nat)) : opsRow C (o :: ops) = opRow C o ++ opsRow C ops := rfl
theorem opsRow_append (C : List Nat) (a b : List (Nat × Nat)) : opsRow C (a ++ b) = opsRow C a ++ opsRow C b := by simp [opsRow]
def told1 (acc : List Nat) (o : Nat × Nat) : List Nat := acc ++ List.replicate (Hd.least o.1 + o.2) (Hd.val acc o.1)
def told (acc : List Nat) (ops : List (Nat × Nat)) : List Nat := ops.foldl told1 acc
theorem told1_length (acc : List Nat) (o : Nat × Nat) : (told1 acc o).length = acc.length + (Hd.least o.1 + o.2) := by simp [told1]
theorem told_grows : ∀ (ops : List (Nat × Nat)) (acc : List Nat), acc.length + ops.length <= (told acc ops).length
 | [], acc => by simp [told]
 | o :: ops, acc => by
  have := told_grows ops (told1 acc o)
  rw [told1_length] at this
  have h := Hd.least_le o.1
  simp only [told, List.foldl_cons, List.length_cons] at this ⊢
  omega
def OV (C : List Nat) : List (Nat × Nat) -> List Nat -> Prop
 | [], _ => True
 | o :: ops, acc => Hf.ln C o.1 ≠ 0 /\ o.2 < 2 ^ Hd.ex o.1 /\ (o.1 = 16 -> acc.length ≠ 0) /\ OV C ops (told1 acc o)
theorem runs_is {C : List Nat} {l : List Bool} (hf : Fit (Hd.zz C)) (n : Nat) : ∀ (ops : List (Nat × Nat)) (k : Nat) (acc : List Nat) (p : Nat), OV C ops acc -> (told acc ops).length = n -> ops.length <= k -> Sg l p (opsRow C ops) ->
  Hd.runs C l n k acc p = (told acc ops, p + (opsRow C ops).length, 0)
 | [], k, acc, p, _, h, _, _ => Hd.runs_done _ _ _ _ _ _ (by rw [<- h]; exact Nat.le_refl _)
 | o :: ops, 0, _, _, _, _, h, _ => by simp at h
 | o :: ops, k + 1, acc, p, h1, h2, h3, h => by
  obtain ⟨v1, v2, v3, v4⟩ := h1
  rw [opsRow_cons] at h
  have b1 := h.left
  have b2 := h.right
  have e := b1.left.rd hf v1
  have b3 := b1.right
  rw [cw_len] at b3
  have e3 := b3.bits v2
  have r3 := b3.room
  have hn : (told (told1 acc o) ops).length = n := h2
  have hlen : (opRow C o).length = Hf.ln C o.1 + Hd.ex o.1 := by unfold opRow; rw [List.length_append, cw_len, Bs.bitsOf_length]
  have hg := told_grows ops (told1 acc o)
  rw [told1_length] at hg
  have hl := Hd.least_le o.1
  have ht : Hd.take acc o.1 o.2 n = (told1 acc o, 0) := by
   unfold Hd.take told1
   rw [if_neg (fun h => v3 h.1 h.2), if_neg (by omega)]
  rw [Hd.runs_take C l n (k + 1) acc p (p + Hf.ln C o.1) o.1 o.2 (told1 acc o) 0 (by omega) (by omega) e (by omega) e3.symm ht, if_neg (by simp)]
  have ih := runs_is hf n ops k (told1 acc o) (p + (opRow C o).length) v4 hn (by simpa using h3) b2
  rw [Nat.add_sub_cancel, show p + Hf.ln C o.1 + Hd.ex o.1 = p + (opRow C o).length by omega, ih, opsRow_cons, List.length_append, Nat.add_assoc]
  rfl
theorem fit_of_newE {zs : List Int} (h : newE zs = 0) : Fit zs := by
 unfold newE at h
 by_cases hc : chk zs = 12 /\ Lone (nat zs)
 ·exact Or.inr hc.1
 ·rw [if_neg hc] at h
  exact Or.inl h
def headRow (L D C : List Nat) (c : Nat) (ops : List (Nat × Nat)) : List Bool :=
 Bs.bitsOf (L.length - 257) 5 ++ (Bs.bitsOf (D.length - 1) 5 ++ (Bs.bitsOf (c - 4) 4 ++ (clRow C c ++ opsRow C ops)))
theorem headRow_length (L D C : List Nat) (c : Nat) (ops : List (Nat × Nat)) : (headRow L D C c ops).length = 14 + 3 * c + (opsRow C ops).length := by
 unfold headRow
 simp only [List.length_append, Bs.bitsOf_length, clRow_length]
 omega
structure HV (L D C : List Nat) (c : Nat) (ops : List (Nat × Nat)) : Prop where
 l1 : 257 <= L.length
 l2 : L.length <= 286
 d1 : 1 <= D.length
 d2 : D.length <= 30
 c1 : 4 <= c
 c2 : c <= 19
 c8 : ∀ i, Hf.ln C i < 8
 cl : C.length = 19
 cz : ∀ k, c <= k -> k < 19 -> Hf.ln C (Hd.ord k) = 0
 ce : newE (Hd.zz C) = 0
 ov : OV C ops []
 tl : told [] ops = L ++ D
theorem head_is {L D C : List Nat} {c : Nat} {ops : List (Nat × Nat)} (hv : HV L D C c ops) {l : List Bool} {p : Nat} (h : Sg l p (headRow L D C c ops)) :
  head l p = (L, D, p + (headRow L D C c ops).length, 0) := by
 have r0 := h.le
 rw [headRow_length] at r0
 rw [headRow_length]
 unfold headRow at h
 have n1 := h.left.bits (by have := hv.l2; omega)
 have a1 := h.right
 rw [Bs.bitsOf_length] at a1
 have n2 := a1.left.bits (by have := hv.d2; omega)
 have a2 := a1.right
 rw [Bs.bitsOf_length] at a2
 have n3 := a2.left.bits (by have := hv.c2; omega)
 have a3 := a2.right
 rw [Bs.bitsOf_length] at a3
 have n4 := cl_is hv.c8 hv.cl hv.c2 hv.cz a3.left
 have a4 := a3.right
 rw [clRow_length] at a4
 obtain ⟨l1, l2, d1, d2, c1, c2, c8, cl, cz, ce, ov, tl⟩ := hv
 have hlen : (told [] ops).length = L.length + D.length := by rw [tl, List.length_append]
 have hops := told_grows ops []
 simp only [List.length_nil] at hops
 have e := runs_is (fit_of_newE ce) (L.length + D.length) ops 400 [] (p + 5 + 5 + 4 + 3 * c) ov hlen (by omega) a4
 have q1 : L.length = num l p 5 + 257 := by omega
 have q2 : D.length = num l (p + 5) 5 + 1 := by omega
 have q3 : c = num l (p + 10) 4 + 4 := by rw [show p + 10 = p + 5 + 5 by omega]; omega
 have q4 : C = Hd.cl l (p + 14) c := by rw [show p + 14 = p + 5 + 5 + 4 by omega]; exact n4.symm
 rw [Hd.head_run (l := l) (p := p) (a := L.length) (b := D.length) (c := c) (ls := C) (by omega) q1 q2 q3 q4 (by omega) (by omega) ce]
 rw [show p + 14 + 3 * c = p + 5 + 5 + 4 + 3 * c by omega, e]
 simp only
 rw [if_neg (by simp), tl, List.take_left, List.drop_left]
 congr 3
 omega
theorem bb_pack_pad (l : List Bool) : ∃ z, bb (Bs.pack l) = l ++ z := by
 refine ⟨(bb (Bs.pack l)).drop l.length, ?_⟩
 have h : (bb (Bs.pack l)).take l.length = l := by
  apply List.ext_getElem?
  intro i
  by_cases hi : i < l.length
  ·rw [List.getElem?_take_of_lt hi]
   have e : (Bs.bitsFrom (Bs.pack l) l.length)[i]? = l[i]? := by rw [Bs.bitsFrom_pack]
   rw [<- e]
   unfold bb Bs.bitsFrom
   rw [List.getElem?_map, List.getElem?_map, List.getElem?_range hi, List.getElem?_range (by rw [Bs.pack_length]; omega)]
  ·rw [List.getElem?_eq_none (by rw [List.length_take]; omega), List.getElem?_eq_none (by omega)]
 exact (h ▸ List.take_append_drop l.length (bb (Bs.pack l))).symm
theorem one_block {l : List Bool} {most : Int} {out : List Nat} {q : Nat} (h0 : 0 <= most) (h1 : most <= 65536) (hb : block l most.toNat 0 [] = (out, q, 0)) (hl : num l 0 1 = 1) : decode l most = (out, (q + 7) / 8, 0) := by
 have e : blocks l most.toNat (l.length + 1) [] 0 = (out, q, 0) := by
  simp only [blocks]
  rw [hb]
  simp only
  rw [if_neg (by simp), if_pos hl]
 unfold decode
 rw [if_neg (by omega), e, if_neg (by simp)]
def begRow (kind : Nat) : List Bool := Bs.bitsOf 1 1 ++ Bs.bitsOf kind 2
theorem begRow_length (kind : Nat) : (begRow kind).length = 3 := by simp [begRow, Bs.bitsOf_length]
theorem beg_is {l : List Bool} {kind : Nat} {r : List Bool} (hk : kind < 4) (h : Sg l 0 (begRow kind ++ r)) : num l 0 1 = 1 /\ num l 1 2 = kind /\ Sg l 3 r /\ 3 <= l.length := by
 have a := h.left
 unfold begRow at a
 have b := h.right
 rw [begRow_length] at b
 have c := a.right
 rw [Bs.bitsOf_length] at c
 have d := c.room
 exact ⟨a.left.bits (by decide), c.bits (by omega), by simpa using b, by omega⟩
def dynRow (L D C : List Nat) (c : Nat) (ops : List (Nat × Nat)) (ts : List Tk) : List Bool := begRow 2 ++ (headRow L D C c ops ++ (toksRow L D ts ++ cw L 256))
theorem dyn_decode {L D C : List Nat} {c : Nat} {ops : List (Nat × Nat)} (hv : HV L D C c ops) {ts : List Tk} (most : Int) (h0 : 0 <= most) (h1 : most <= 65536) (hL : newE (Hd.zz L) = 0) (hD : newE (Hd.zz D) = 0 ∨ ∀ x ∈ D, x = 0) (he : Hf.ln L 256 ≠ 0)
  (ht : ∀ t ∈ ts, Has1 L D t) (htv : TV most.toNat ts 0) (hts : ts.length <= (toksRow L D ts).length) :
  decode (bb (Bs.pack (dynRow L D C c ops ts))) most = (tell ts, (Bs.pack (dynRow L D C c ops ts)).length, 0) := by
 obtain ⟨z, hz⟩ := bb_pack_pad (dynRow L D C c ops ts)
 have hs : Sg (bb (Bs.pack (dynRow L D C c ops ts))) 0 (dynRow L D C c ops ts) := by rw [hz]; exact Sg.whole _ _
 have hlen : (dynRow L D C c ops ts).length = 3 + ((headRow L D C c ops).length + ((toksRow L D ts).length + Hf.ln L 256)) := by
  unfold dynRow; simp only [List.length_append, begRow_length, cw_len]
 have hle := hs.le
 rw [Bs.pack_length]
 generalize bb (Bs.pack (dynRow L D C c ops ts)) = l at hs hle ⊢
 generalize (dynRow L D C c ops ts).length = m at hlen hle ⊢
 unfold dynRow at hs
 obtain ⟨b1, b2, b3, b4⟩ := beg_is (by decide) hs
 have hh := head_is hv b3.left
 have b5 := b3.right
 have hd : (∃ t : Tk, t.len ≠ 0) -> Fit (Hd.zz D) ∨ ∀ x, Hf.ln D x = 0 := fun _ => hD.imp fit_of_newE fun h x => by
  unfold Hf.ln
  rcases Nat.lt_or_ge x D.length with hx | hx
  ·rw [List.getElem?_eq_getElem hx]; exact h _ (List.getElem_mem hx)
  ·rw [List.getElem?_eq_none hx]; rfl
 have e := syms_is (most := most.toNat) (fit_of_newE hL) hd he ts (l.length + 1) [] _ ht htv (by omega) b5
 have hb : block l most.toNat 0 [] = (tell ts, m, 0) := by
  unfold block
  rw [if_neg (by omega), show 0 + 1 = 1 from rfl, b2, if_neg (by decide), if_neg (by decide), if_pos rfl]
  unfold dynamic
  rw [show 0 + 3 = 3 from rfl, hh]
  simp only
  rw [if_neg (by simp), if_neg (show ¬ L[256]?.getD 0 = 0 from he), if_neg (by rw [hL]; simp), if_neg (by
   rintro ⟨h1, h2⟩
   rcases hD with h | h
   ·exact h1 h
   ·exact h2 h), e]
  have e2 : 3 + (headRow L D C c ops).length + (toksRow L D ts).length + Hf.ln L 256 = m := by omega
  rw [e2]
  rfl
 rw [one_block h0 h1 hb b1]
theorem fit_fixL : Fit (Hd.zz fixL) := Or.inl (by decide +kernel)
theorem fit_fixD : Fit (Hd.zz fixD) := Or.inl (by decide +kernel)
def fixRow (ts : List Tk) : List Bool := begRow 1 ++ (toksRow fixL fixD ts ++ cw fixL 256)
theorem ln_fixL : ∀ i, i < 288 -> 7 <= Hf.ln fixL i := by decide +kernel
theorem ln_fixD : ∀ i, i < 32 -> Hf.ln fixD i = 5 := by decide +kernel
theorem has_fix {t : Tk} (h : Byt t ∨ Cop t) : Has1 fixL fixD t := by
 unfold Has1
 rcases h with ⟨h1, _, h2⟩ | ⟨_, h1, h2, h3, h4⟩
 ·rw [if_pos h1]
  have := ln_fixL t.lit (by omega)
  omega
 ·rw [if_neg (by omega)]
  have g1 := (Sy.lk_has t.len h1).1
  have g2 := (Sy.dk_has t.far h3).1
  have := ln_fixL (257 + Sy.lk t.len) (by omega)
  have := ln_fixD (Sy.dk t.far) (by omega)
  omega
theorem TV.all {most : Nat} : ∀ {ts : List Tk} {n : Nat}, TV most ts n -> ∀ t ∈ ts, Byt t ∨ Cop t
 | [], _, _, t, h => nomatch h
 | u :: ts, n, h, t, ht => by
  obtain ⟨h1, _, h3⟩ := h
  rcases List.mem_cons.1 ht with rfl | ht
  ·exact h1.1
  ·exact TV.all h3 t ht
theorem toksRow_ge {lit dist : List Nat} : ∀ {ts : List Tk}, (∀ t ∈ ts, Has1 lit dist t) -> ts.length <= (toksRow lit dist ts).length
 | [], _ => Nat.zero_le _
 | t :: ts, h => by
  have ih := toksRow_ge (ts := ts) fun x hx => h x (List.mem_cons_of_mem _ hx)
  have h1 := h t (List.mem_cons_self ..)
  rw [toksRow_cons, List.length_append, List.length_cons]
  unfold Has1 at h1
  unfold tokRow
  split
  ·rename_i h0
   rw [if_pos h0] at h1
   rw [cw_len]; omega
  ·rename_i h0
   rw [if_neg h0] at h1
   simp only [List.length_append, cw_len]
   omega
theorem fix_decode {ts : List Tk} (most : Int) (h0 : 0 <= most) (h1 : most <= 65536) (htv : TV most.toNat ts 0) :
  decode (bb (Bs.pack (fixRow ts))) most = (tell ts, (Bs.pack (fixRow ts)).length, 0) := by
 have ht : ∀ t ∈ ts, Has1 fixL fixD t := fun t h => has_fix (htv.all t h)
 have hts := toksRow_ge ht
 obtain ⟨z, hz⟩ := bb_pack_pad (fixRow ts)
 have hs : Sg (bb (Bs.pack (fixRow ts))) 0 (fixRow ts) := by rw [hz]; exact Sg.whole _ _
 have he : Hf.ln fixL 256 ≠ 0 := by have := ln_fixL 256 (by decide); omega
 have hlen : (fixRow ts).length = 3 + ((toksRow fixL fixD ts).length + Hf.ln fixL 256) := by
  unfold fixRow; simp only [List.length_append, begRow_length, cw_len]
 have hle := hs.le
 rw [Bs.pack_length]
 generalize bb (Bs.pack (fixRow ts)) = l at hs hle ⊢
 generalize (fixRow ts).length = m at hlen hle ⊢
 unfold fixRow at hs
 obtain ⟨b1, b2, b3, b4⟩ := beg_is (by decide) hs
 have e := syms_is (most := most.toNat) fit_fixL (fun _ => Or.inl fit_fixD) he ts (l.length + 1) [] 3 ht htv (by omega) b3
 have hb : block l most.toNat 0 [] = (tell ts, m, 0) := by
  unfold block
  rw [if_neg (by omega), show 0 + 1 = 1 from rfl, b2, if_neg (by decide), if_pos rfl, show 0 + 3 = 3 from rfl, e]
  have e2 : 3 + (toksRow fixL fixD ts).length + Hf.ln fixL 256 = m := by omega
  rw [e2]
  rfl
 rw [one_block h0 h1 hb b1]
end If
end Go.Proofs.YtckbhciehmokdaaGreatDoor
namespace Go.Proofs.YtckbhciehmokdaaGreatDoor
set_option maxRecDepth 100000
set_option maxHeartbeats 8000000
open Go.RowKit
def numS (l : List Nat) : List Value := l.map fun (x : Nat) => Value.int .i64 (x : Int)
def Tbs (w : World) (b : Nat) (l : List Nat) : Prop := b < w.heap.size /\ ∀ i, i < l.length -> w.cell? ⟨b, i, none⟩ = some (.int .i64 (Sy.at' l i : Nat))
theorem Tbs.later {w w' : World} {b : Nat} {l : List Nat} (h : Tbs w b l) (hb : Below w.heap.size w w') : Tbs w' b l :=
 ⟨Nat.lt_of_lt_of_le h.1 hb.size, fun i hi => (hb.cell (p := ⟨b, i, none⟩) h.1).trans (h.2 i hi)⟩
theorem Tbs.of {w : World} {b : Nat} {cs : Array Value} {t : TypeId} {l : List Nat} (h : Has w b (.cells cs t (0, 0))) (hc : cs = (numS l).toArray) : Tbs w b l := by
 refine ⟨h.lt, fun i hi => ?_⟩
 rw [h.cell, hc]
 simp [numS, Sy.at', hi]
def Tabs (l1 l2 : List Nat) (N : Nat) (w : World) (e : Ending) (w' : World) : Prop :=
 ∃ b1 b2, e = .returned (.tuple #[.slice (some ⟨b1, 0, none⟩) N N, .slice (some ⟨b2, 0, none⟩) N N]) /\ Tbs w' b1 l1 /\ Tbs w' b2 l2 /\ Below w.heap.size w w'
theorem has2 (w : World) (o1 o2 : Obj) : Has ((w.alloc o1).alloc o2) (w.heap.size + 1) o2 := (facts2 (Below.refl _ ((w.alloc o1).alloc o2))).2.1
theorem rlens_is (w : World) : Calls Tryz.prog 70 #[] w (Tabs Sy.lf Sy.lb 29 w) := by
 go_enter Tryz.func70, Tryz.ntmps70
 go_wp2
 go_ret2
 exact ⟨_, _, rfl, Tbs.of ((Has.new w _).alloc _) rfl, Tbs.of (has2 w _ _) rfl, below2 w _ _⟩
theorem rdists_is (w : World) : Calls Tryz.prog 72 #[] w (Tabs Sy.df Sy.db 30 w) := by
 go_enter Tryz.func72, Tryz.ntmps72
 go_wp2
 go_ret2
 exact ⟨_, _, rfl, Tbs.of ((Has.new w _).alloc _) rfl, Tbs.of (has2 w _ _) rfl, below2 w _ _⟩
end Go.Proofs.YtckbhciehmokdaaGreatDoor
