import Derived.Test.YtmgpcbjciioiaaaGreatDoorIstr
import Derived.Test.YtmgpcbjciioiaaaGreatDoorIstow
import Derived.Test.YtmgpcbjciioiaaaGreatDoorImost
import Derived.Test.YtmgpcbjciioiaaaGreatDoorWruns
import Derived.Test.YtmgpcbjciioiaaaGreatDoorKlen
import Derived.Maps.AppendAt
import Derived.BigQuiet
namespace Go.Proofs.YtmgpcbjciioiaaaGreatDoor
set_option maxRecDepth 100000
set_option maxHeartbeats 8000000
section
open Go.RowKit
namespace Bs
theorem byteAt_drop (l : List Bool) (a j : Nat) : byteAt (l.drop (8 * a)) j = byteAt l (a + j) := by
 unfold byteAt
 rw [List.drop_drop,Nat.mul_add]
theorem packTo_add (a b : Nat) (l : List Bool) : packTo (a + b) l = packTo a l ++ packTo b (l.drop (8 * a)) := by
 unfold packTo
 rw [List.range_add,List.map_append,List.map_map]
 congr 1
 apply List.map_congr_left
 intro j _
 exact (byteAt_drop l a j).symm
theorem byteAt_left (l m : List Bool) (j : Nat) (h : 8 * j + 8 <= l.length) : byteAt (l ++ m) j = byteAt l j := by
 unfold byteAt
 rw [List.drop_append_of_le_length (by omega),List.take_append_of_le_length (by rw [List.length_drop]; omega)]
theorem packTo_left (a : Nat) (l m : List Bool) (h : 8 * a <= l.length) : packTo a (l ++ m) = packTo a l := by
 unfold packTo
 apply List.map_congr_left
 intro j hj
 rw [List.mem_range] at hj
 exact byteAt_left l m j (by omega)
def rest (l : List Bool) : List Bool := l.drop (8 * (l.length / 8))
theorem rest_length (l : List Bool) : (rest l).length = l.length % 8 := by unfold rest; rw [List.length_drop]; omega
theorem whole_snoc (l m : List Bool) : packTo ((l ++ m).length / 8) (l ++ m) = packTo (l.length / 8) l ++ packTo ((rest l ++ m).length / 8) (rest l ++ m) := by
 have e1 : (l ++ m).length / 8 = l.length / 8 + (rest l ++ m).length / 8 := by rw [List.length_append,List.length_append,rest_length]; omega
 have e2 : (l ++ m).drop (8 * (l.length / 8)) = rest l ++ m := by unfold rest; rw [List.drop_append_of_le_length (by omega)]
 rw [e1,packTo_add,packTo_left _ _ _ (by omega),e2]
theorem rest_snoc (l m : List Bool) : rest (l ++ m) = (rest l ++ m).drop (8 * ((rest l ++ m).length / 8)) := by
 have e1 : (l ++ m).length / 8 = l.length / 8 + (rest l ++ m).length / 8 := by rw [List.length_append,List.length_append,rest_length]; omega
 have e2 : (l ++ m).drop (8 * (l.length / 8)) = rest l ++ m := by unfold rest; rw [List.drop_append_of_le_length (by omega)]
 rw [show rest (l ++ m) = (l ++ m).drop (8 * ((l ++ m).length / 8)) from rfl,e1,Nat.mul_add,<- List.drop_drop,e2]
theorem pack_drop (x : List Bool) (k : Nat) (h : 8 * k <= x.length) : (pack x).drop k = pack (x.drop (8 * k)) := by
 unfold pack
 rw [List.length_drop,show (x.length + 7) / 8 = k + (x.length - 8 * k + 7) / 8 by omega,packTo_add,List.drop_left' (packTo_length _ _)]
theorem whole_rest (l : List Bool) : packTo (l.length / 8) l ++ pack (rest l) = pack l := by
 have h := packTo_add (l.length / 8) ((l.length + 7) / 8 - l.length / 8) l
 unfold pack rest
 rw [List.length_drop,show (l.length - 8 * (l.length / 8) + 7) / 8 = (l.length + 7) / 8 - l.length / 8 by omega,<- h]
 congr 1
 omega
end Bs
def NoB (cs : Array Value) : Prop := ∀ (j : Nat) (x : Int),cs[j]? ≠ some (.int .u8 x)
theorem sl_set_other {w : World} {s : Value} {bs : List Nat} (h : Sl w s bs) {k : Nat} {cs : Array Value} {t : TypeId} (hk : Has w k (.cells cs t (0,0))) (hc : NoB cs) (i : Nat) (v : Value) : Sl (w.setCell ⟨k,i,none⟩ v) s bs := by
 obtain ⟨a,len,cap,rfl,h1,h2,h3,h4,h5⟩ := h
 refine ⟨a,len,cap,rfl,h1,h2,h3,h4,fun h0 => ?_⟩
 obtain ⟨b,off,rfl,hlt,hb⟩ := h5 h0
 have hne : b ≠ k := by
  intro e
  subst e
  have := hb 0 h0
  rw [hk.cell] at this
  exact hc _ _ this
 exact ⟨b,off,rfl,by simpa [World.setCell] using hlt,fun i' hi' => (cell_of_heap (Below.heap_setCell w ⟨k,i,none⟩ v b hne) (off + i')).trans (hb i' hi')⟩
theorem nob1 {v : Value} (h : ∀ x,v ≠ .int .u8 x) : NoB #[v] := by
 intro j x
 match j with
 | 0 => intro e; simp at e; exact h x e
 | (j + 1) => simp
theorem nob2 {v u : Value} (h : ∀ x,v ≠ .int .u8 x) (h2 : ∀ x,u ≠ .int .u8 x) : NoB #[v,u] := by
 intro j x
 match j with
 | 0 => intro e; simp at e; exact h x e
 | 1 => intro e; simp at e; exact h2 x e
 | (j + 2) => simp
abbrev LF (T : Nat) : Value := .func (.func 57) #[] #[.pointer (some ⟨T + 2,0,none⟩),.pointer (some ⟨T + 1,0,none⟩),.pointer (some ⟨T,0,none⟩)]
structure Ly (w0 w : World) (T : Nat) (tv : Value) (l : List Bool) : Prop where
 f : Has w (T + 2) (.cells #[.int .i64 0] 23 (0,0))
 r : ∃ a m c,Has w (T + 1) (rowVar a m c (((Bs.rest l).length : Nat) : Int)) /\ Sl w (.slice a m c) (Bs.pack (Bs.rest l)) /\ m <= c
 t : Has w T (.cells #[tv] 22 (0,0)) /\ w.ownsRow T 5 1 tv (l.length / 8) (vb (Bs.packTo (l.length / 8) l))
 b : Below T w0 w
 n : l.length <= 16000000
def Fq (T : Nat) (w w' : World) : Prop := ∀ k,k < w.heap.size -> k ≠ T -> k ≠ T + 1 -> k ≠ T + 2 -> w'.heap[k]? = w.heap[k]?
structure Fz (T : Nat) (tv : Value) (w : World) (tv' : Value) (w' : World) : Prop where
 k : ∀ k,k < w.heap.size -> k ≠ T -> k ≠ T + 1 -> k ≠ T + 2 -> tv.ownBlock ≠ some k -> w'.heap[k]? = w.heap[k]?
 o : ∀ q,tv'.ownBlock = some q -> tv.ownBlock = some q ∨ w.heap.size <= q
 s : w.heap.size <= w'.heap.size
theorem Fz.refl (T : Nat) (tv : Value) (w : World) : Fz T tv w tv w := ⟨fun _ _ _ _ _ _ => rfl,fun _ h => Or.inl h,Nat.le_refl _⟩
theorem Fz.trans {T : Nat} {v v1 v2 : Value} {w w1 w2 : World} (h : Fz T v w v1 w1) (h2 : Fz T v1 w1 v2 w2) : Fz T v w v2 w2 := by
 refine ⟨fun k a b c d e => ?_,fun q hq => ?_,Nat.le_trans h.s h2.s⟩
 ·refine (h2.k k (Nat.lt_of_lt_of_le a h.s) b c d fun e2 => ?_).trans (h.k k a b c d e)
  rcases h.o k e2 with h3 | h3
  ·exact e h3
  ·omega
 ·rcases h2.o q hq with h3 | h3
  ·exact h.o q h3
  ·exact Or.inr (Nat.le_trans h.s h3)
theorem Fz.of_below {T : Nat} {v : Value} {w w' : World} (h : Below w.heap.size w w') : Fz T v w v w' := ⟨fun k a _ _ _ _ => h.block k a,fun _ h => Or.inl h,h.size⟩
theorem Ly.later {w0 w w' : World} {T : Nat} {tv : Value} {l : List Bool} (h : Ly w0 w T tv l) (hb : Below w.heap.size w w') : Ly w0 w' T tv l := by
 obtain ⟨a,m,c,r1,r2,r3⟩ := h.r
 exact ⟨h.f.later hb,⟨a,m,c,r1.later hb,r2.later hb,r3⟩,⟨h.t.1.later hb,own_stays h.t.2 hb⟩,h.b.trans (hb.mono (by have := h.f.lt; omega)),h.n⟩
def LayPost (w0 w : World) (T : Nat) (tv : Value) (l : List Bool) (e : Ending) (w' : World) : Prop := e = .returned (.tuple #[]) /\ ∃ tv',Ly w0 w' T tv' l /\ Fz T tv w tv' w'
theorem sl_has_drop {w : World} {g : Nat} {bs : List Nat} (h : Has w g (bytesObj bs)) (h8 : ∀ x ∈ bs,x < 256) (hl : bs.length <= 281474976710656) (k m c : Nat) (hm : k + m = bs.length) : Sl w (.slice (some ⟨g,k,none⟩) m c) (bs.drop k) := by
 refine ⟨_,m,c,rfl,by rw [List.length_drop]; omega,by omega,fun h => by simp at h,fun x hx => h8 x (List.mem_of_mem_drop hx),fun h0 => ⟨g,k,rfl,h.lt,fun i hi => ?_⟩⟩
 have h' : Has w g (.cells (vb bs).toArray 5 (0,0)) := h
 rw [h'.cell,List.getElem?_toArray,vb_get,List.getElem?_eq_getElem (by omega),List.getElem?_drop,List.getElem?_eq_getElem (by omega)]
 rfl
theorem lay_end {w0 w W3 w6 : World} {T g mm K L N : Nat} {l m x : List Bool} {a6 : Option Addr} {n6 c6 : Nat} {tv3 : Value} (hxx : x = Bs.rest l ++ m) (hL : L = x.length) (hK : K = L / 8) (hmm : mm = (L + 7) / 8) (hN : N = m.length) (h9 : l.length + N <= 16000000)
  (hr6 : Has w6 (T + 1) (rowVar (some ⟨g,0,none⟩) mm mm (L : Int))) (hf6 : Has w6 (T + 2) (.cells #[.int .i64 0] 23 (0,0))) (ht6 : Has w6 T (.cells #[tv3] 22 (0,0))) (hx6 : Has w6 g (bytesObj (Bs.pack x))) (hg : T + 2 < g)
  (hown : w6.ownsRow T 5 1 (.slice a6 n6 c6) (l.length / 8 + K) (vb (Bs.packTo (l.length / 8) l) ++ vb (Bs.packTo K x))) (hot : W3.drew.ownsRow T 5 1 tv3 (l.length / 8) (vb (Bs.packTo (l.length / 8) l))) (hg6 : W3.drew.grownBy w6 tv3.ownBlock) (hb3 : Below T w0 W3) (hz3 : Fq T w W3) (hob : (Value.slice a6 n6 c6).ownBlock = tv3.ownBlock ∨ (Value.slice a6 n6 c6).ownBlock = some W3.heap.size) (hs3 : w.heap.size <= W3.heap.size) (hT : T + 2 < W3.heap.size)
  (s : Value) (J : Int) (hJ : J = ((L % 8 : Nat) : Int)) (hs : s = .slice (some ⟨g,K,none⟩) (mm - K) (mm - K) ∨ (K = mm /\ s = .slice (some ⟨g,0,none⟩) 0 0)) :
  LayPost w0 w T tv3 (l ++ m) (.returned (.tuple #[])) ((((((w6.setCell ⟨T,0,none⟩ (.slice a6 n6 c6)).setCell ⟨T + 1,0,none⟩ (.slice none 0 0)).setCell ⟨T + 1,1,none⟩ (.int .i64 0)).setCell ⟨T + 1,0,none⟩ s).setCell ⟨T + 1,1,none⟩ (.int .i64 J)).drew) := by
 have hr7 := hr6.set (a := ⟨T,0,none⟩) (by simp) (.slice a6 n6 c6)
 have ht7 := ht6.setSelf (i := 0) (.slice a6 n6 c6)
 have hf7 := hf6.set (a := ⟨T,0,none⟩) (by simp) (.slice a6 n6 c6)
 have hx7 := hx6.set (a := ⟨T,0,none⟩) (by simp; omega) (.slice a6 n6 c6)
 have ho7 := ownsRow_setCell_other hown (a := ⟨T,0,none⟩) (own_ne_ty hown ht6 (by decide)) (.slice a6 n6 c6)
 have hne := own_ne_ty ho7 hr7 (by decide)
 have hr8 := (((hr7.setSelf (i := 0) (.slice none 0 0)).setSelf (i := 1) (.int .i64 0)).setSelf (i := 0) s).setSelf (i := 1) (.int .i64 J)
 have ht8 := (((ht7.set (a := ⟨T + 1,0,none⟩) (by simp) (.slice none 0 0)).set (a := ⟨T + 1,1,none⟩) (by simp) (.int .i64 0)).set (a := ⟨T + 1,0,none⟩) (by simp) s).set (a := ⟨T + 1,1,none⟩) (by simp) (.int .i64 J)
 have hf8 := (((hf7.set (a := ⟨T + 1,0,none⟩) (by simp) (.slice none 0 0)).set (a := ⟨T + 1,1,none⟩) (by simp) (.int .i64 0)).set (a := ⟨T + 1,0,none⟩) (by simp) s).set (a := ⟨T + 1,1,none⟩) (by simp) (.int .i64 J)
 have hx8 := (((hx7.set (a := ⟨T + 1,0,none⟩) (by simp; omega) (.slice none 0 0)).set (a := ⟨T + 1,1,none⟩) (by simp; omega) (.int .i64 0)).set (a := ⟨T + 1,0,none⟩) (by simp; omega) s).set (a := ⟨T + 1,1,none⟩) (by simp; omega) (.int .i64 J)
 have ho8 := ownsRow_setCell_other (ownsRow_setCell_other (ownsRow_setCell_other (ownsRow_setCell_other ho7 (a := ⟨T + 1,0,none⟩) hne (.slice none 0 0)) (a := ⟨T + 1,1,none⟩) hne (.int .i64 0)) (a := ⟨T + 1,0,none⟩) hne s) (a := ⟨T + 1,1,none⟩) hne (.int .i64 J)
 have hb6 : Below T w0 w6 := hb3.drew.grown hg6 (by show T <= W3.heap.size; omega) (fun q hq => (World.ownsRow.lt hot q hq).1)
 have hb8 := ((((hb6.setCell (p := ⟨T,0,none⟩) (Nat.le_refl _) (.slice a6 n6 c6)).setCell (p := ⟨T + 1,0,none⟩) (by simp) (.slice none 0 0)).setCell (p := ⟨T + 1,1,none⟩) (by simp) (.int .i64 0)).setCell (p := ⟨T + 1,0,none⟩) (by simp) s).setCell (p := ⟨T + 1,1,none⟩) (by simp) (.int .i64 J)
 have hz6 : ∀ k,k < w.heap.size -> k ≠ T -> k ≠ T + 1 -> k ≠ T + 2 -> tv3.ownBlock ≠ some k -> w6.heap[k]? = w.heap[k]? := fun k h0 h1 h2 h3 h4 => (hg6.block k (by show k < W3.heap.size; omega) (fun e => h4 e.symm)).trans (hz3 k h0 h1 h2 h3)
 have hs6 := hg6.size
 have hn : (Bs.rest (l ++ m)).length = L % 8 := by rw [Bs.rest_length,List.length_append,hL,hxx,List.length_append,Bs.rest_length]; omega
 have hrest : Bs.rest (l ++ m) = x.drop (8 * K) := by rw [Bs.rest_snoc,<- hxx,<- hL,<- hK]
 have hpl : (Bs.pack x).length = mm := by rw [Bs.pack_length,<- hL,hmm]
 have hwl : Bs.packTo ((l ++ m).length / 8) (l ++ m) = Bs.packTo (l.length / 8) l ++ Bs.packTo K x := by rw [Bs.whole_snoc,<- hxx,<- hL,<- hK]
 have hll : (l ++ m).length / 8 = l.length / 8 + K := by rw [List.length_append,hK,hL,hxx,List.length_append,Bs.rest_length]; omega
 have hxl : L = l.length % 8 + N := by rw [hL,hxx,List.length_append,Bs.rest_length,hN]
 generalize hW : ((((w6.setCell ⟨T,0,none⟩ (.slice a6 n6 c6)).setCell ⟨T + 1,0,none⟩ (.slice none 0 0)).setCell ⟨T + 1,1,none⟩ (.int .i64 0)).setCell ⟨T + 1,0,none⟩ s).setCell ⟨T + 1,1,none⟩ (.int .i64 J) = W8 at *
 have hsz : W8.heap.size = w6.heap.size := by rw [<- hW]; simp [World.setCell]
 have hdr : (Bs.pack x).drop K = Bs.pack (x.drop (8 * K)) := Bs.pack_drop x K (by omega)
 have hsl : ∃ a m' c,s = .slice a m' c /\ Sl W8 s (Bs.pack (Bs.rest (l ++ m))) /\ m' <= c := by
  rw [hrest,<- hdr]
  rcases hs with rfl | ⟨e,rfl⟩
  ·exact ⟨_,_,_,rfl,sl_has_drop hx8 (Bs.pack_lt x) (by rw [hpl]; omega) K _ _ (by rw [hpl]; omega),Nat.le_refl _⟩
  ·refine ⟨_,_,_,rfl,?_,Nat.le_refl _⟩
   rw [List.drop_of_length_le (by rw [hpl]; omega)]
   exact ⟨_,0,0,rfl,rfl,by omega,fun h => by simp at h,fun x hx => (nomatch hx),fun h0 => absurd h0 (by omega)⟩
 obtain ⟨a,m',c,rfl,h1,h2⟩ := hsl
 refine ⟨rfl,.slice a6 n6 c6,⟨by show Has W8 _ _; simpa using hf8,⟨a,m',c,?_,h1,h2⟩,⟨by show Has W8 _ _; simpa using ht8,?_⟩,hb8.drew,by rw [List.length_append]; omega⟩,⟨fun k k0 k1 k2 k3 k4 => ?_,fun q hq => ?_,?_⟩⟩
 ·rw [hn,<- hJ]
  show Has W8 _ _
  simpa using hr8
 ·rw [hwl,hll,vb_append]
  exact World.ownsRow.drew ho8
 ·refine Eq.trans ?_ (hz6 k k0 k1 k2 k3 k4)
  show W8.heap[k]? = _
  rw [<- hW]
  exact (((((Below.heap_setCell _ ⟨T + 1,1,none⟩ _ k k2).trans (Below.heap_setCell _ ⟨T + 1,0,none⟩ _ k k2)).trans (Below.heap_setCell _ ⟨T + 1,1,none⟩ _ k k2)).trans (Below.heap_setCell _ ⟨T + 1,0,none⟩ _ k k2)).trans (Below.heap_setCell _ ⟨T,0,none⟩ _ k k1))
 ·rcases hob with h | h
  ·rw [h] at hq; exact Or.inl hq
  ·rw [h] at hq; injection hq with hq; right; omega
 ·show w.heap.size <= W8.heap.size
  rw [hsz]
  exact Nat.le_trans hs3 hs6
theorem lay_ok {w0 w : World} {T : Nat} {tv : Value} {l : List Bool} (h : Ly w0 w T tv l) (s : Value) (m : List Bool) (N : Nat) (hs : Sl w s (Bs.pack m)) (hN : Hid (N = m.length)) (h9 : l.length + N <= 16000000) :
  Calls Tryz.prog 57 #[.agg #[s,.int .i64 (N : Int)],.int .i64 0,.pointer (some ⟨T + 2,0,none⟩),.pointer (some ⟨T + 1,0,none⟩),.pointer (some ⟨T,0,none⟩)] w (LayPost w0 w T tv (l ++ m)) := by
 obtain ⟨ra,rm,rc,hr,hrs,hrc⟩ := h.r
 obtain ⟨ht,hto⟩ := h.t
 have hf := h.f
 have hb1 := below1 w (.cells #[s,.int .i64 (N : Int)] 64)
 have HS := LH hs
 have H := LH h
 have hT := hf.lt
 obtain ⟨a,len,cap,rfl,hlen⟩ := hs.shape
 obtain ⟨ta,tn,tc,rfl⟩ : ∃ a n c,tv = .slice a n c := by obtain ⟨a,c,h⟩ := own_slice hto; exact ⟨a,_,c,h⟩
 obtain ⟨Nr,hNr⟩ : ∃ Nr,Nr = (Bs.rest l).length := ⟨_,rfl⟩
 rw [<- hNr] at hr
 have HNR := LH hNr
 have hNr8 : Nr < 8 := by rw [hNr,Bs.rest_length]; omega
 obtain ⟨d0,e0⟩ := hf.one
 have hr1 : Has ((w.setCell ⟨T + 2,0,none⟩ (.int .i64 0)).alloc (.cells #[.slice a len cap,.int .i64 (N : Int)] 64)) (T + 1) (rowVar ra rm rc (Nr : Int)) := (hr.set (a := ⟨T + 2,0,none⟩) (by simp) _).alloc _
 have hf1 : Has ((w.setCell ⟨T + 2,0,none⟩ (.int .i64 0)).alloc (.cells #[.slice a len cap,.int .i64 (N : Int)] 64)) (T + 2) (.cells #[.int .i64 0] 23 (0,0)) := by have := (hf.setSelf (i := 0) (.int .i64 0)).alloc (.cells #[.slice a len cap,.int .i64 (N : Int)] 64); simpa using this
 have ht1 : Has ((w.setCell ⟨T + 2,0,none⟩ (.int .i64 0)).alloc (.cells #[.slice a len cap,.int .i64 (N : Int)] 64)) T (.cells #[.slice ta tn tc] 22 (0,0)) := (ht.set (a := ⟨T + 2,0,none⟩) (by simp) _).alloc _
 have hto1 := World.ownsRow.alloc (ownsRow_setCell_other hto (a := ⟨T + 2,0,none⟩) (own_ne_ty hto hf (by decide)) (.int .i64 0)) (.cells #[.slice a len cap,.int .i64 (N : Int)] 64)
 have hrs1 := (sl_set_other hrs hf (nob1 (by simp)) 0 (.int .i64 0)).later (below1 _ (.cells #[.slice a len cap,.int .i64 (N : Int)] 64))
 have hs1 := (sl_set_other HS.out hf (nob1 (by simp)) 0 (.int .i64 0)).later (below1 _ (.cells #[.slice a len cap,.int .i64 (N : Int)] 64))
 have hsz1 : ((w.setCell ⟨T + 2,0,none⟩ (.int .i64 0)).alloc (.cells #[.slice a len cap,.int .i64 (N : Int)] 64)).heap.size = w.heap.size + 1 := by simp [World.setCell]
 have hx1 : Has ((w.setCell ⟨T + 2,0,none⟩ (.int .i64 0)).alloc (.cells #[.slice a len cap,.int .i64 (N : Int)] 64)) w.heap.size (rowVar a len cap (N : Int)) := by
  have h := Has.new (w.setCell ⟨T + 2,0,none⟩ (.int .i64 0)) (.cells #[.slice a len cap,.int .i64 (N : Int)] 64)
  have e : (w.setCell ⟨T + 2,0,none⟩ (.int .i64 0)).heap.size = w.heap.size := by simp [World.setCell]
  rw [e] at h
  exact h
 have hbel1 : Below T w0 ((w.setCell ⟨T + 2,0,none⟩ (.int .i64 0)).alloc (.cells #[.slice a len cap,.int .i64 (N : Int)] 64)) := by
  have hb := H.out.b.setCell (p := ⟨T + 2,0,none⟩) (by simp) (.int .i64 0)
  exact hb.alloc (by simp [World.setCell]; omega) _
 have hfz1 : Fq T w ((w.setCell ⟨T + 2,0,none⟩ (.int .i64 0)).alloc (.cells #[.slice a len cap,.int .i64 (N : Int)] 64)) := fun k hk _ _ h2 => (heap_alloc_old _ _ (by simpa [World.setCell] using hk)).trans (Below.heap_setCell w ⟨T + 2,0,none⟩ _ k h2)
 have HJ := LH (join_ok _ _ (Bs.rest l) m Nr N _ hrs1 hs1 HNR hN (by omega) (by omega))
 obtain ⟨c0,c1,g0,g1⟩ := hr1.two
 obtain ⟨x0,x1,_,_⟩ := hx1.two
 have HR1 := LH hr1
 have HF1 := LH hf1
 have HT1 := LH ht1
 have HTO1 := LH hto1
 have HB1 := LH hbel1
 have HZ1 := LH hfz1
 have HSZ1 := LH hsz1
 clear hr ht hf hto hrs hs hlen hNr hr1 hf1 ht1 hto1 hrs1 hs1 hx1 hbel1 hfz1 hb1 hsz1
 go_enter Tryz.func57,Tryz.ntmps57
 go_wp2_with fail
 refine HJ.out.mono ?_
 clear HJ c0 c1 g0 g1 x0 x1
 obtain ⟨W1,hW1⟩ : ∃ W1,(w.setCell ⟨T + 2,0,none⟩ (.int .i64 0)).alloc (.cells #[.slice a len cap,.int .i64 (N : Int)] 64) = W1 := ⟨_,rfl⟩
 rw [hW1] at HR1 HF1 HT1 HTO1 HB1 HZ1 HSZ1 ⊢
 clear hW1
 rintro e w2 ⟨g,mm,rfl,hmm,hgg,hx,hb2⟩
 obtain ⟨x,hxx⟩ : ∃ x,x = Bs.rest l ++ m := ⟨_,rfl⟩
 rw [<- hxx] at hmm hx ⊢
 have hxl : x.length = Nr + N := by rw [hxx,List.length_append,<- HNR.out,<- hN.out]
 obtain ⟨L,hL⟩ : ∃ L,L = x.length := ⟨_,rfl⟩
 rw [<- hL] at hmm hxl ⊢
 have hg2 := hx.lt
 have hw12 := hb2.size
 have hsz1 := HSZ1.out
 have hr2 := HR1.out.later hb2
 have hf2 := HF1.out.later hb2
 have ht2 := HT1.out.later hb2
 have hto2 := own_stays HTO1.out hb2
 obtain ⟨c0,c1,g0,g1⟩ := hr2.two
 obtain ⟨d0,e0⟩ := hf2.one
 have hr3 : Has (((w2.setCell ⟨T + 1,0,none⟩ (.slice (some ⟨g,0,none⟩) mm mm)).setCell ⟨T + 1,1,none⟩ (.int .i64 (L : Int))).setCell ⟨T + 2,0,none⟩ (.int .i64 0)) (T + 1) (rowVar (some ⟨g,0,none⟩) mm mm (L : Int)) := by
  have h := ((hr2.setSelf (i := 0) (.slice (some ⟨g,0,none⟩) mm mm)).setSelf (i := 1) (.int .i64 (L : Int))).set (a := ⟨T + 2,0,none⟩) (by simp) (.int .i64 0)
  simpa using h
 have hf3 : Has (((w2.setCell ⟨T + 1,0,none⟩ (.slice (some ⟨g,0,none⟩) mm mm)).setCell ⟨T + 1,1,none⟩ (.int .i64 (L : Int))).setCell ⟨T + 2,0,none⟩ (.int .i64 0)) (T + 2) (.cells #[.int .i64 0] 23 (0,0)) := by
  have h := ((hf2.set (a := ⟨T + 1,0,none⟩) (by simp) (.slice (some ⟨g,0,none⟩) mm mm)).set (a := ⟨T + 1,1,none⟩) (by simp) (.int .i64 (L : Int))).setSelf (i := 0) (.int .i64 0)
  simpa using h
 have ht3 : Has (((w2.setCell ⟨T + 1,0,none⟩ (.slice (some ⟨g,0,none⟩) mm mm)).setCell ⟨T + 1,1,none⟩ (.int .i64 (L : Int))).setCell ⟨T + 2,0,none⟩ (.int .i64 0)) T (.cells #[.slice ta tn tc] 22 (0,0)) :=
  ((ht2.set (a := ⟨T + 1,0,none⟩) (by simp) _).set (a := ⟨T + 1,1,none⟩) (by simp) _).set (a := ⟨T + 2,0,none⟩) (by simp) _
 have hx3 : Has (((w2.setCell ⟨T + 1,0,none⟩ (.slice (some ⟨g,0,none⟩) mm mm)).setCell ⟨T + 1,1,none⟩ (.int .i64 (L : Int))).setCell ⟨T + 2,0,none⟩ (.int .i64 0)) g (bytesObj (Bs.pack x)) :=
  ((hx.set (a := ⟨T + 1,0,none⟩) (by simp; omega) _).set (a := ⟨T + 1,1,none⟩) (by simp; omega) _).set (a := ⟨T + 2,0,none⟩) (by simp; omega) _
 have hto3 := ownsRow_setCell_other (ownsRow_setCell_other (ownsRow_setCell_other hto2 (a := ⟨T + 1,0,none⟩) (own_ne_ty hto2 hr2 (by decide)) (.slice (some ⟨g,0,none⟩) mm mm)) (a := ⟨T + 1,1,none⟩) (own_ne_ty hto2 hr2 (by decide)) (.int .i64 (L : Int))) (a := ⟨T + 2,0,none⟩) (own_ne_ty hto2 hf2 (by decide)) (.int .i64 0)
 have hb3 : Below T w0 (((w2.setCell ⟨T + 1,0,none⟩ (.slice (some ⟨g,0,none⟩) mm mm)).setCell ⟨T + 1,1,none⟩ (.int .i64 (L : Int))).setCell ⟨T + 2,0,none⟩ (.int .i64 0)) :=
  (((HB1.out.trans (hb2.mono (by omega))).setCell (p := ⟨T + 1,0,none⟩) (by simp) _).setCell (p := ⟨T + 1,1,none⟩) (by simp) _).setCell (p := ⟨T + 2,0,none⟩) (by simp) _
 have hz3 : Fq T w (((w2.setCell ⟨T + 1,0,none⟩ (.slice (some ⟨g,0,none⟩) mm mm)).setCell ⟨T + 1,1,none⟩ (.int .i64 (L : Int))).setCell ⟨T + 2,0,none⟩ (.int .i64 0)) := fun k h0 h1 h2 h3 =>
  ((((Below.heap_setCell _ ⟨T + 2,0,none⟩ _ k h3).trans (Below.heap_setCell _ ⟨T + 1,1,none⟩ _ k h2)).trans (Below.heap_setCell _ ⟨T + 1,0,none⟩ _ k h2)).trans (hb2.block k (by omega))).trans (HZ1.out k h0 h1 h2 h3)
 obtain ⟨W3,hW3⟩ : ∃ W3,((w2.setCell ⟨T + 1,0,none⟩ (.slice (some ⟨g,0,none⟩) mm mm)).setCell ⟨T + 1,1,none⟩ (.int .i64 (L : Int))).setCell ⟨T + 2,0,none⟩ (.int .i64 0) = W3 := ⟨_,rfl⟩
 have hsz3 : W3.heap.size = w2.heap.size := by rw [<- hW3]; simp [World.setCell]
 rw [hW3] at hr3 hf3 ht3 hx3 hto3 hb3 hz3
 obtain ⟨a0,a1,f0,f1⟩ := hr3.two
 obtain ⟨t0,t1⟩ := ht3.one
 obtain ⟨K,hK⟩ : ∃ K,K = L / 8 := ⟨_,rfl⟩
 have hdiv : (L : Int) / 8 = (K : Int) := by omega
 have HR3 := LH hr3
 have HF3 := LH hf3
 have HT3 := LH ht3
 have HX3 := LH hx3
 have HTO3 := LH hto3
 have HB3 := LH hb3
 have HZ3 := LH hz3
 have HK := LH hK
 have HL := LH hL
 have HMM := LH hmm
 have HXX := LH hxx
 have HXL := LH hxl
 have hKm : K <= mm := by omega
 have HG2 : Hid (T + 2 < g) := by show _ < _; omega
 have HS3 : Hid (w.heap.size <= W3.heap.size) := by show _ <= _; omega
 have HTS : Hid (T + 2 < W3.heap.size) := by show _ < _; omega
 have hK9 : K <= 2000001 := by omega
 have hL9 : L <= 16000007 := by omega
 obtain ⟨i0,hi,hz0,hz1,hz2⟩ := info_parts Tryz.infoU8
 obtain ⟨tv6,w6,hrun,hown6,hgr6,_,hob6⟩ := run_append_own_at (P := Tryz.prog) W3.drew T 22 22 5 i0 (.int .u8 0) 1 1 Tryz.underlying22 hi hz0 hz1 hz2 rfl (by decide) (.slice ta tn tc) (l.length / 8) _ (World.ownsRow.drew hto3) ⟨g,0,none⟩ K mm (vb (Bs.packTo K x)) (by rw [vb_length,Bs.packTo_length]; omega)
  (fun j u hj => by
   have e : (⟨g,0,none⟩ : Addr).add j = ⟨g,j,none⟩ := by cases j <;> simp [Addr.add]
   have h' : Has W3.drew g (.cells (vb (Bs.pack x)).toArray 5 (0,0)) := hx3
   have hjK : j < K := by
    have := (List.getElem?_eq_some_iff.1 hj).1
    rw [vb_length,Bs.packTo_length] at this
    exact this
   rw [e,h'.cell,List.getElem?_toArray,<- hj]
   unfold vb
   rw [List.getElem?_map,List.getElem?_map,Bs.packTo_get' _ _ _ hjK]
   unfold Bs.pack
   rw [Bs.packTo_get' _ _ _ (by omega)])
  (oneCell_vb _) (by unfold maxLen; omega) (by omega) (by show T <= W3.heap.size; omega)
 obtain ⟨a6,n6,c6,rfl⟩ : ∃ a n c,tv6 = .slice a n c := by obtain ⟨a,c,h⟩ := own_slice hown6; exact ⟨a,_,c,h⟩
 have ne1 : ∀ (k : Nat) (cs : Array Value) (t : TypeId),Has W3 k (.cells cs t (0,0)) -> t ≠ 5 -> Has w6 k (.cells cs t (0,0)) := fun k cs t hk ht => (show Has W3.drew k _ from hk).grown hgr6 (fun e => own_ne_ty (World.ownsRow.drew hto3) (show Has W3.drew k _ from hk) ht e.symm)
 have hr6 := ne1 _ _ _ hr3 (by decide)
 have hf6 := ne1 _ _ _ hf3 (by decide)
 have ht6 := ne1 _ _ _ ht3 (by decide)
 have hx6 : Has w6 g (bytesObj (Bs.pack x)) := (show Has W3.drew g _ from hx3).grown hgr6 (fun e => by
  have h1 := (World.ownsRow.lt HTO1.out g e.symm).2
  omega)
 obtain ⟨z0,z1,z2,z3⟩ := hr6.two
 obtain ⟨s0,s1⟩ := ht6.one
 have HRUN := LH hrun
 have HOWN6 := LH hown6
 have HR6 := LH hr6
 have HF6 := LH hf6
 have HT6 := LH ht6
 have HX6 := LH hx6
 have HG6 := LH hgr6
 have HOB6 := LH hob6
 have HOT3 := LH (World.ownsRow.drew hto3)
 clear hr2 hf2 ht2 hto2 hr3 hf3 ht3 hx3 hto3 hb3 hz3 hK hL hmm hxx hxl hb2 hx hg2 hw12 HR1 HF1 HT1 HTO1 HB1 HZ1 HSZ1 hrun hown6 hr6 hf6 ht6 hx6 hgr6 hob6 ne1 HR3 HF3 HT3 HX3 HTO3 hi hz0 hz1 hz2
 go_wp2_with fail
 try rw [hW3]
 go_region_law (first | (refine step_append_known rfl (.tmp 22) (.tmp 26) 22 rfl _ _ _ w6 (by first | rfl | simp [Act.eval,go_sem]) (by first | rfl | simp [Act.eval,go_sem]) HRUN.out ?_))
 all_goals
  have hr7 : Has (w6.setCell ⟨T,0,none⟩ (.slice a6 n6 c6)) (T + 1) (rowVar (some ⟨g,0,none⟩) mm mm (L : Int)) := HR6.out.set (a := ⟨T,0,none⟩) (by simp) _
  obtain ⟨y0,y1,y2,y3⟩ := hr7.two
  have HR7 := LH hr7
  have hmod : (L : Int).tmod 8 = ((L % 8 : Nat) : Int) := (Int.ofNat_tmod L 8).symm
  have HMOD := LH hmod
  have hmod2 : (L : Int) % 8 = ((L % 8 : Nat) : Int) := by omega
  have HMOD2 := LH hmod2
  have hLb : (L : Int) <= 16000007 := by omega
  have HEND := LH (fun s J hJ hs => lay_end (s := s) (J := J) HXX.out HL.out HK.out HMM.out hN.out h9 HR6.out HF6.out HT6.out HX6.out HG2.out HOWN6.out HOT3.out HG6.out HB3.out HZ3.out HOB6.out HS3.out HTS.out hJ hs)
  clear hr7 hmod hmod2
  go_wp2
  go_region
  all_goals go_wp2
  all_goals
   refine ⟨rfl,.tuple #[],by simp [results,Tryz.results57,go_sem],?_⟩
   first
    | exact HEND.out _ _ HMOD.out (Or.inl rfl)
    | exact HEND.out _ _ HMOD.out (Or.inr ⟨by omega,rfl⟩)
    | exact HEND.out _ _ HMOD2.out (Or.inl rfl)
    | exact HEND.out _ _ HMOD2.out (Or.inr ⟨by omega,rfl⟩)
end
section
open Go.RowKit
def Lx (w0 w : World) (tv : Value) (wi : World) (T : Nat) (l : List Bool) : Prop := ∃ tvi,Ly w0 wi T tvi l /\ Fz T tv w tvi wi
theorem Lx.start {w0 w : World} {T : Nat} {tv : Value} {l : List Bool} (h : Ly w0 w T tv l) : Lx w0 w tv w T l := ⟨tv,h,Fz.refl T tv w⟩
theorem Lx.later {w0 w wi wj : World} {T : Nat} {tv : Value} {l : List Bool} (h : Lx w0 w tv wi T l) (hb : Below wi.heap.size wi wj) : Lx w0 w tv wj T l := by
 obtain ⟨tvi,h1,h2⟩ := h
 exact ⟨tvi,h1.later hb,h2.trans (Fz.of_below hb)⟩
theorem Lx.post {w0 w wi : World} {T : Nat} {tv : Value} {l : List Bool} (h : Lx w0 w tv wi T l) : LayPost w0 w T tv l (.returned (.tuple #[])) wi := ⟨rfl,h⟩
theorem Lx.b {w0 w wi : World} {T : Nat} {tv : Value} {l : List Bool} (h : Lx w0 w tv wi T l) : Below T w0 wi := by obtain ⟨_,h1,_⟩ := h; exact h1.b
theorem Lx.n {w0 w wi : World} {T : Nat} {tv : Value} {l : List Bool} (h : Lx w0 w tv wi T l) : l.length <= 16000000 := by obtain ⟨_,h1,_⟩ := h; exact h1.n
theorem Lx.s {w0 w wi : World} {T : Nat} {tv : Value} {l : List Bool} (h : Lx w0 w tv wi T l) : w.heap.size <= wi.heap.size := by obtain ⟨_,_,h2⟩ := h; exact h2.s
theorem Lx.call {w0 w wi : World} {T : Nat} {tv : Value} {l m : List Bool} {f : FuncId} {args : Array Value} (h : Lx w0 w tv wi T l) (hc : ∀ tvi,Ly w0 wi T tvi l -> Calls Tryz.prog f args wi (LayPost w0 wi T tvi m)) :
  Calls Tryz.prog f args wi fun e w' => e = .returned (.tuple #[]) /\ Lx w0 w tv w' T m := by
 obtain ⟨tvi,h1,h2⟩ := h
 refine (hc tvi h1).mono ?_
 rintro e w' ⟨rfl,tv',h3,h4⟩
 exact ⟨rfl,tv',h3,h2.trans h4⟩
theorem Lx.lay {w0 w wi : World} {T : Nat} {tv : Value} {l : List Bool} (h : Lx w0 w tv wi T l) (s : Value) (m : List Bool) (N : Nat) (hs : Sl wi s (Bs.pack m)) (hN : Hid (N = m.length)) (h9 : l.length + N <= 16000000) :
  Calls Tryz.prog 57 #[.agg #[s,.int .i64 (N : Int)],.int .i64 0,.pointer (some ⟨T + 2,0,none⟩),.pointer (some ⟨T + 1,0,none⟩),.pointer (some ⟨T,0,none⟩)] wi fun e w' => e = .returned (.tuple #[]) /\ Lx w0 w tv w' T (l ++ m) :=
 h.call fun _ h1 => lay_ok h1 s m N hs hN h9
def NumPost (w : World) (v n : Nat) (e : Ending) (w' : World) : Prop := ∃ a m c,e = .returned (.tuple #[.agg #[.slice a m c,.int .i64 (n : Int)],.int .i64 0]) /\ Sl w' (.slice a m c) (Bs.pack (Bs.bitsOf v n)) /\ Below w.heap.size w w'
theorem number_lay (v n : Nat) (w : World) (hn : n <= 32) (hv : v < 2 ^ n) : Calls Tryz.prog 59 #[.int .i64 (v : Int),.int .i64 (n : Int)] w (NumPost w v n) := by
 have hb1 := below1 w (.cells #[.slice none 0 0,.int .i64 0] 64)
 have HP := LH (put_ok (.slice none 0 0) [] v n (w.alloc (.cells #[.slice none 0 0,.int .i64 0] 64)) (Sl.nil _) (show ([] : List Bool).length <= 1125899906842624 by decide) hn hv 0 rfl)
 have HX := LH (Has.new w (.cells #[.slice none 0 0,.int .i64 0] 64))
 have HB := LH hb1
 clear hb1 hv
 go_enter Tryz.func59,Tryz.ntmps59
 go_wp2_with fail
 refine (show Calls Tryz.prog 100 #[.agg #[.slice none 0 0,.int .i64 0],.int .i64 (v : Int),.int .i64 (n : Int)] _ _ from HP.out).mono ?_
 clear HP
 rintro e w1 ⟨g,m,rfl,hm,hg,hx,hb⟩
 rw [List.nil_append] at hm hx ⊢
 rw [Bs.bitsOf_length] at hm ⊢
 have hx1 := HX.out.later hb
 obtain ⟨c0,c1,f0,f1⟩ := hx1.two
 have hgl : w.heap.size < g := by have := hg; simp at this; omega
 have hsl : Sl ((w1.setCell ⟨w.heap.size,0,none⟩ (.slice (some ⟨g,0,none⟩) m m)).setCell ⟨w.heap.size,1,none⟩ (.int .i64 (n : Int))) (.slice (some ⟨g,0,none⟩) m m) (Bs.pack (Bs.bitsOf v n)) :=
  Sl.has ((hx.set (a := ⟨w.heap.size,0,none⟩) (by simp; omega) _).set (a := ⟨w.heap.size,1,none⟩) (by simp; omega) _) (Bs.pack_lt _) (by rw [Bs.pack_length,Bs.bitsOf_length]; omega) _ _ (by rw [Bs.pack_length,Bs.bitsOf_length,hm])
 have hbb : Below w.heap.size w ((w1.setCell ⟨w.heap.size,0,none⟩ (.slice (some ⟨g,0,none⟩) m m)).setCell ⟨w.heap.size,1,none⟩ (.int .i64 (n : Int))) := set2_below (HB.out.trans (hb.mono HB.out.size)) _ (Nat.le_refl _) _ _
 have HSL := LH hsl
 have HBB := LH hbb
 have hxx : Has ((w1.setCell ⟨w.heap.size,0,none⟩ (.slice (some ⟨g,0,none⟩) m m)).setCell ⟨w.heap.size,1,none⟩ (.int .i64 (n : Int))) w.heap.size (rowVar (some ⟨g,0,none⟩) m m (n : Int)) := by
  have h := (hx1.setSelf (i := 0) (.slice (some ⟨g,0,none⟩) m m)).setSelf (i := 1) (.int .i64 (n : Int))
  simpa using h
 obtain ⟨e0,e1,_,_⟩ := hxx.two
 clear hm hg hx hb hx1 hsl hbb hxx
 go_wp2
 refine bodyPost_ret (v := .tuple #[.agg #[.slice (some ⟨g,0,none⟩) m m,.int .i64 (n : Int)],.int .i64 0]) (by simp [results,Tryz.results59,go_sem,e0,e1]) rfl ⟨_,_,_,rfl,HSL.out,HBB.out⟩
def begBits (last : Bool) (kind : Nat) : List Bool := Bs.bitsOf last.toNat 1 ++ Bs.bitsOf kind 2
theorem begin_lay {w0 w : World} {T : Nat} {tv : Value} {l : List Bool} (h : Ly w0 w T tv l) (last : Bool) (kind : Nat) (hk : kind < 4) (h9 : l.length + 3 <= 16000000) : Calls Tryz.prog 29 #[LF T,.bool last,.int .i64 (kind : Int)] w (LayPost w0 w T tv (l ++ begBits last kind)) := by
 have H := LH (Lx.start h)
 clear h
 cases last with
 | true =>
  have HN1 := LH (number_lay 1 1 w (by decide) (by decide))
  go_enter Tryz.func29,Tryz.ntmps29
  go_wp2_with fail
  refine (show Calls Tryz.prog 59 #[.int .i64 1,.int .i64 1] _ _ from HN1.out).mono ?_
  rintro e w1 ⟨a,m,c,rfl,hs,hb⟩
  have HL := LH ((H.out.later hb).lay _ _ 1 hs (by show 1 = _; rw [Bs.bitsOf_length]) (by omega))
  clear HN1 H hs hb
  go_wp2_with fail
  refine (show Calls Tryz.prog 57 #[.agg #[_,.int .i64 1],_,_,_,_] _ _ from HL.out).mono ?_
  rintro e w2 ⟨rfl,h2⟩
  have H2 := LH h2
  have HN2 := LH (number_lay kind 2 w2 (by decide) (by simpa using hk))
  clear HL h2
  go_wp2_with fail
  refine (show Calls Tryz.prog 59 #[_,.int .i64 2] _ _ from HN2.out).mono ?_
  rintro e w3 ⟨a3,m3,c3,rfl,hs,hb⟩
  have HL := LH ((H2.out.later hb).lay _ _ 2 hs (by show 2 = _; rw [Bs.bitsOf_length]) (by rw [List.length_append,Bs.bitsOf_length]; omega))
  clear HN2 H2 hs hb
  go_wp2_with fail
  refine (show Calls Tryz.prog 57 #[.agg #[_,.int .i64 2],_,_,_,_] _ _ from HL.out).mono ?_
  rintro e w4 ⟨rfl,h4⟩
  rw [List.append_assoc] at h4
  have H4 := LH h4
  clear HL h4
  go_wp2
  exact ⟨rfl,.tuple #[],by simp [results,Tryz.results29,go_sem],H4.out.post⟩
 | false =>
  have HN1 := LH (number_lay 0 1 w (by decide) (by decide))
  go_enter Tryz.func29,Tryz.ntmps29
  go_wp2_with fail
  refine (show Calls Tryz.prog 59 #[.int .i64 0,.int .i64 1] _ _ from HN1.out).mono ?_
  rintro e w1 ⟨a,m,c,rfl,hs,hb⟩
  have HL := LH ((H.out.later hb).lay _ _ 1 hs (by show 1 = _; rw [Bs.bitsOf_length]) (by omega))
  clear HN1 H hs hb
  go_wp2_with fail
  refine (show Calls Tryz.prog 57 #[.agg #[_,.int .i64 1],_,_,_,_] _ _ from HL.out).mono ?_
  rintro e w2 ⟨rfl,h2⟩
  have H2 := LH h2
  have HN2 := LH (number_lay kind 2 w2 (by decide) (by simpa using hk))
  clear HL h2
  go_wp2_with fail
  refine (show Calls Tryz.prog 59 #[_,.int .i64 2] _ _ from HN2.out).mono ?_
  rintro e w3 ⟨a3,m3,c3,rfl,hs,hb⟩
  have HL := LH ((H2.out.later hb).lay _ _ 2 hs (by show 2 = _; rw [Bs.bitsOf_length]) (by rw [List.length_append,Bs.bitsOf_length]; omega))
  clear HN2 H2 hs hb
  go_wp2_with fail
  refine (show Calls Tryz.prog 57 #[.agg #[_,.int .i64 2],_,_,_,_] _ _ from HL.out).mono ?_
  rintro e w4 ⟨rfl,h4⟩
  rw [List.append_assoc] at h4
  have H4 := LH h4
  clear HL h4
  go_wp2
  exact ⟨rfl,.tuple #[],by simp [results,Tryz.results29,go_sem],H4.out.post⟩
end
section
open Go.RowKit
abbrev CF (E A B : Nat) : Value := .func (.func 102) #[] #[.pointer (some ⟨E,0,none⟩),.pointer (some ⟨A,0,none⟩),.pointer (some ⟨B,0,none⟩)]
structure Cd (w : World) (E A B gA gB cA cB : Nat) (ls : List Nat) : Prop where
 e : Has w E (.cells #[.int .i64 0] 23 (0,0))
 a : Has w A (.cells #[.slice (some ⟨gA,0,none⟩) ls.length cA] 57 (0,0))
 b : Has w B (.cells #[.slice (some ⟨gB,0,none⟩) ls.length cB] 57 (0,0))
 ca : ∀ i,i < ls.length -> w.cell? ⟨gA,i,none⟩ = some (.int .i64 (((Hf.codes ls)[i]?.getD 0 : Nat) : Int))
 cb : ∀ i,i < ls.length -> w.cell? ⟨gB,i,none⟩ = some (.int .i64 ((Hf.ln ls i : Nat) : Int))
theorem Cd.same {w w' : World} {E A B gA gB cA cB : Nat} {ls : List Nat} (h : Cd w E A B gA gB cA cB ls) (hk : ∀ k,k = E ∨ k = A ∨ k = B ∨ k = gA ∨ k = gB -> w'.heap[k]? = w.heap[k]?) : Cd w' E A B gA gB cA cB ls :=
 ⟨(hk E (by simp)).trans h.e,(hk A (by simp)).trans h.a,(hk B (by simp)).trans h.b,fun i hi => (World.cell?_of_block (a := ⟨gA,i,none⟩) (hk gA (by simp))).trans (h.ca i hi),fun i hi => (World.cell?_of_block (a := ⟨gB,i,none⟩) (hk gB (by simp))).trans (h.cb i hi)⟩
def Fb (T : Nat) (tv : Value) (w : World) (k : Nat) : Prop := k < w.heap.size /\ k ≠ T /\ k ≠ T + 1 /\ k ≠ T + 2 /\ tv.ownBlock ≠ some k
theorem Fb.step {T k : Nat} {tv tv' : Value} {w w' : World} (h : Fb T tv w k) (hz : Fz T tv w tv' w') : Fb T tv' w' k /\ w'.heap[k]? = w.heap[k]? := by
 obtain ⟨h1,h2,h3,h4,h5⟩ := h
 refine ⟨⟨Nat.lt_of_lt_of_le h1 hz.s,h2,h3,h4,fun e => ?_⟩,hz.k k h1 h2 h3 h4 h5⟩
 rcases hz.o k e with h | h
 ·exact h5 h
 ·omega
def Cdr (T : Nat) (tv : Value) (w : World) (c : Value) (ls : List Nat) : Prop := ∃ E A B gA gB cA cB,c = CF E A B /\ Cd w E A B gA gB cA cB ls /\ ∀ k,k = E ∨ k = A ∨ k = B ∨ k = gA ∨ k = gB -> Fb T tv w k
theorem Cdr.step {T : Nat} {tv tv' : Value} {w w' : World} {c : Value} {ls : List Nat} (h : Cdr T tv w c ls) (hz : Fz T tv w tv' w') : Cdr T tv' w' c ls := by
 obtain ⟨E,A,B,gA,gB,cA,cB,rfl,h1,h2⟩ := h
 exact ⟨E,A,B,gA,gB,cA,cB,rfl,h1.same fun k hk => ((h2 k hk).step hz).2,fun k hk => ((h2 k hk).step hz).1⟩
theorem Cdr.later {T : Nat} {tv : Value} {w w' : World} {c : Value} {ls : List Nat} (h : Cdr T tv w c ls) (hb : Below w.heap.size w w') : Cdr T tv w' c ls := h.step (Fz.of_below hb)
theorem fit_code {ls : List Nat} (hf : Fit (Hd.zz ls)) {x : Nat} (h0 : Hf.ln ls x ≠ 0) : x < ls.length /\ (Hf.codes ls)[x]?.getD 0 < 2 ^ Hf.ln ls x /\ Hf.ln ls x <= 15 := by
 have h1 : x < ls.length := by
  rcases Nat.lt_or_ge x ls.length with h | h
  ·exact h
  ·exact absurd (by unfold Hf.ln; rw [List.getElem?_eq_none h]; rfl) h0
 have := code_fits hf x (by rw [Hd.zz_length]; exact h1) (by rw [Hd.zz_get]; show ((Hf.ln ls x : Nat) : Int) ≠ 0; omega)
 rw [Hd.nat_zz] at this
 exact ⟨h1,this.1,this.2.1⟩
theorem code_lay {w : World} {E A B gA gB cA cB : Nat} {ls : List Nat} (h : Cd w E A B gA gB cA cB ls) (hf : Fit (Hd.zz ls)) (x : Nat) (h0 : Hf.ln ls x ≠ 0) :
  Calls Tryz.prog 102 #[.int .i64 (x : Int),.pointer (some ⟨E,0,none⟩),.pointer (some ⟨A,0,none⟩),.pointer (some ⟨B,0,none⟩)] w (NumPost w (turned ((Hf.codes ls)[x]?.getD 0) (Hf.ln ls x)) (Hf.ln ls x)) := by
 obtain ⟨hx,hc,hn⟩ := fit_code hf h0
 have kc := h.ca x hx
 have kb := h.cb x hx
 obtain ⟨n,hn'⟩ : ∃ n,n = Hf.ln ls x := ⟨_,rfl⟩
 obtain ⟨C,hC⟩ : ∃ C,C = (Hf.codes ls)[x]?.getD 0 := ⟨_,rfl⟩
 rw [<- hn'] at kb hn hc h0 ⊢
 rw [<- hC] at kc hc ⊢
 obtain ⟨m,hm⟩ : ∃ m,m = ls.length := ⟨_,rfl⟩
 have ha := h.a
 have hb := h.b
 have he := h.e
 rw [<- hm] at ha hb hx
 have hb1 := below1 w (.cells #[.slice none 0 0,.int .i64 0] 64)
 have HT := LH (fun W => turn_same C n (by omega) (show Hid (C < 2 ^ n) from hc) W)
 obtain ⟨t,ht⟩ : ∃ t,t = turned C n := ⟨_,rfl⟩
 have htl : t < 2 ^ n := by rw [ht]; exact turned_lt C n
 rw [<- ht] at HT ⊢
 obtain ⟨e0,_⟩ := (he.later hb1).one
 obtain ⟨a0,_⟩ := (ha.later hb1).one
 obtain ⟨b0,_⟩ := (hb.later hb1).one
 have kc1 := (hb1.cell (p := ⟨gA,x,none⟩) (World.block_lt_of_cell? w _ kc)).trans kc
 have kb1 := (hb1.cell (p := ⟨gB,x,none⟩) (World.block_lt_of_cell? w _ kb)).trans kb
 have HX := LH (Has.new w (.cells #[.slice none 0 0,.int .i64 0] 64))
 obtain ⟨W1,hW1⟩ : ∃ W1,w.alloc (.cells #[.slice none 0 0,.int .i64 0] 64) = W1 := ⟨_,rfl⟩
 rw [hW1] at e0 a0 b0 kc1 kb1 HX hb1
 have HB1 := LH hb1
 have HN := LH (fun (W : World) => number_lay t n W (by omega) htl)
 have hn15 : n <= 15 := hn
 have hxm : x < m := hx
 have j1 : (0 : Int) <= (x : Int) := by omega
 have j2 : (x : Int) < (m : Int) := by omega
 clear h hf hn' hC hm ha hb he kc kb hb1 ht htl hc hn hx h0
 go_enter Tryz.func102,Tryz.ntmps102
 go_wp2_with fail
 try rw [hW1]
 go_quiet ((go_at_call 103; exact quiet_left (HT.out _)))
 have hxd : Has (W1.drewN nq) w.heap.size (rowVar none 0 0 0) := HX.out
 have b0' : (W1.drewN nq).cell? ⟨B,0,none⟩ = some (.slice (some ⟨gB,0,none⟩) m cB) := b0
 have kb1' : (W1.drewN nq).cell? ⟨gB,x,none⟩ = some (.int .i64 (n : Int)) := kb1
 have hbd : Below w.heap.size w (W1.drewN nq) := below_drewN HB1.out _
 have HXD := LH hxd
 have HBD := LH hbd
 obtain ⟨W2,hW2⟩ : ∃ W2,W1.drewN nq = W2 := ⟨_,rfl⟩
 rw [hW2] at HXD HBD b0' kb1' ⊢
 clear hxd hbd hW2 hW1 HX HB1 e0 a0 b0 kc1 kb1 HT
 go_wp2_with fail
 refine (HN.out W2).mono ?_
 clear HN
 rintro e w3 ⟨a3,m3,c3,rfl,hs3,hb3⟩
 have hx3 := HXD.out.later hb3
 obtain ⟨z0,z1,z2,z3⟩ := hx3.two
 have hx4 : Has ((w3.setCell ⟨w.heap.size,0,none⟩ (.slice a3 m3 c3)).setCell ⟨w.heap.size,1,none⟩ (.int .i64 (n : Int))) w.heap.size (rowVar a3 m3 c3 (n : Int)) := by
  have h := (hx3.setSelf (i := 0) (.slice a3 m3 c3)).setSelf (i := 1) (.int .i64 (n : Int))
  simpa using h
 obtain ⟨y0,y1,_,_⟩ := hx4.two
 have hs4 := sl_set_other (sl_set_other hs3 hx3 (nob2 (by simp) (by simp)) 0 (.slice a3 m3 c3)) (k := w.heap.size) (by have h := hx3.setSelf (i := 0) (.slice a3 m3 c3); simpa using h) (nob2 (by simp) (by simp)) 1 (.int .i64 (n : Int))
 have hb4 := set2_below (HBD.out.trans (hb3.mono HBD.out.size)) w.heap.size (Nat.le_refl _) (.slice a3 m3 c3) (.int .i64 (n : Int))
 have HS4 := LH hs4
 have HB4 := LH hb4
 clear hs3 hb3 hx3 hx4 hs4 hb4 HXD HBD
 go_wp2
 refine bodyPost_ret (v := .tuple #[.agg #[.slice a3 m3 c3,.int .i64 (n : Int)],.int .i64 0]) (by simp [results,Tryz.results102,go_sem,y0,y1]) rfl ⟨_,_,_,rfl,HS4.out,HB4.out⟩
def CodPost (w : World) (ls : List Nat) (gB cB : Nat) (e : Ending) (w' : World) : Prop := ∃ E A B gA cA,e = .returned (CF E A B) /\ Cd w' E A B gA gB cA cB ls /\ (∀ k,k = E ∨ k = A ∨ k = B ∨ k = gA -> w.heap.size <= k /\ k < w'.heap.size) /\ Below w.heap.size w w'
theorem codes_lay (ls : List Nat) (gB cB : Nat) (w : World) (hf : Fit (Hd.zz ls)) (hl : ls.length <= 288) (h0 : 0 < ls.length) (hc : ∀ i,i < ls.length -> w.cell? ⟨gB,i,none⟩ = some (.int .i64 ((Hf.ln ls i : Nat) : Int))) :
  Calls Tryz.prog 60 #[.slice (some ⟨gB,0,none⟩) ls.length cB] w (CodPost w ls gB cB) := by
 have hb1 := below1 w (.cells #[.slice (some ⟨gB,0,none⟩) ls.length cB] 57)
 have hgB : gB < w.heap.size := World.block_lt_of_cell? w _ (hc 0 h0)
 have hz : Zl (w.alloc (.cells #[.slice (some ⟨gB,0,none⟩) ls.length cB] 57)) (.slice (some ⟨gB,0,none⟩) ls.length cB) (Hd.zz ls) := by
  refine ⟨_,ls.length,cB,rfl,(Hd.zz_length ls).symm,by omega,fun h => by simp at h,fun _ => ⟨gB,0,rfl,by simp; omega,fun i hi => ?_⟩⟩
  rw [Nat.zero_add,hb1.cell (p := ⟨gB,i,none⟩) hgB,hc i hi,Hd.zz_get]
  rfl
 have HC := LH (codes_ok _ _ _ hz hf)
 have HX := LH (Has.new w (.cells #[.slice (some ⟨gB,0,none⟩) ls.length cB] 57))
 have HB := LH hb1
 have HCC := LH hc
 have hgb := hgB
 rw [Hd.nat_zz] at HC
 clear hz hb1 hc hf
 go_enter Tryz.func60,Tryz.ntmps60
 go_wp2_with fail
 refine HC.out.mono ?_
 clear HC
 rintro e w1 ⟨v,rfl,hv,hb⟩
 have hcl : (Hf.codes ls).length = ls.length := Hf.codes_length ls
 obtain ⟨gA,cA,rfl,hgA,hrw⟩ := il_cell hv (by rw [hcl]; exact h0)
 rw [hcl] at hrw ⊢
 have hx1 := HX.out.later hb
 have hbw := HB.out.trans (hb.mono HB.out.size)
 have hA := Has.new w1 (.cells #[.slice none 0 0] 57)
 have hE := Has.new (w1.alloc (.cells #[.slice none 0 0] 57)) (.cells #[.int .i64 0] 23)
 have HX1 := LH hx1
 have HBW := LH hbw
 have HRW := LH hrw
 have HGA : Hid (w.heap.size + 1 <= gA) := by have := hgA; simp at this; exact this
 clear hv hb hcl hx1 hbw hrw hgA hA hE HX HB
 go_wp2_with fail
 go_ret
 have hw1 := HBW.out.size
 have hb2 := below2 w1 (.cells #[.slice (some ⟨gA,0,none⟩) ls.length cA] 57) (.cells #[.int .i64 0] 23)
 have hA := (Has.new w1 (.cells #[.slice (some ⟨gA,0,none⟩) ls.length cA] 57)).alloc (.cells #[.int .i64 0] 23)
 have hE := Has.new (w1.alloc (.cells #[.slice (some ⟨gA,0,none⟩) ls.length cA] 57)) (.cells #[.int .i64 0] 23)
 have hBB := HBW.out.trans (hb2.mono hw1)
 have hgl := HRW.out.lt
 have hxl := HX1.out.lt
 refine ⟨w1.heap.size + 1,w1.heap.size,w.heap.size,gA,cA,rfl,⟨by simpa using hE,hA,HX1.out.later hb2,fun i hi => ?_,fun i hi => ?_⟩,fun k hk => ?_,hBB⟩
 ·rw [hb2.cell (p := ⟨gA,i,none⟩) hgl]
  exact HRW.out.cell i hi
 ·rw [hBB.cell (p := ⟨gB,i,none⟩) hgb]
  exact HCC.out i hi
 ·have := HGA.out
  simp only [World.size_alloc]
  rcases hk with rfl | rfl | rfl | rfl <;> omega
end
end Go.Proofs.YtmgpcbjciioiaaaGreatDoor
