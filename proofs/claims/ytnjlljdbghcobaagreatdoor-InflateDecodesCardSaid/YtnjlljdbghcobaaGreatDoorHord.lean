/- Contracts of slices.SortStableFunc at int, and of huff.sorted. -/
import Derived.Test.YtnjlljdbghcobaaGreatDoorHstab
import Derived.Test.YtnjlljdbghcobaaGreatDoorHsort
import Derived.RangeFuncNested
import Derived.RangeFuncBound
import Derived.RangeFuncCalls
import Derived.RangeFuncLeaves
import Derived.RangeFuncBox
import Derived.Shelf.Abstract
import Derived.Shelf.RegionOpen
import Derived.WalkKit
import Derived.OwnWalkIn
import Derived.TacticsInMore
import Derived.LoopNIn
import Derived.LoopIn
import Derived.Maps.AppendAt

namespace Go.Proofs.YtnjlljdbghcobaaGreatDoor
set_option maxRecDepth 100000
open Go.RowKit

theorem Only.belowB {g B : Nat} {w w' : World} (h : Only g w w') (hB : B ≤ g) (hs : B ≤ w.heap.size) : Below B w w' := h.below (Below.refl _ _) hB hs

theorem only_alloc (w : World) (g : Nat) (o : Obj) : Only g w (w.alloc o) := ⟨rfl, rfl, rfl, by simp, fun k hk _ => Below.heap_alloc w o k hk⟩

set_option maxHeartbeats 1000000 in
theorem sortStable_any (g cap n K : Nat) (kf : Nat → Nat) (p : Nat → Prop) (d : Nat → Nat) (w : World) (hr : Rw w g n d) (hn : n ≤ 288) (hris : St.Ris kf d n) (hp : ∀ i, i < n → p (d i)) (hcmp : Cmps g kf p K w) :
    Calls Tryz.prog 227 #[.slice (some ⟨g, 0, none⟩) n cap, .func (.func 228) #[] #[.pointer (some ⟨K, 0, none⟩)]] w (SortPost g n w (SortIs kf n d 0 n)) := by
  have HC := stable_any g cap n K kf p d w hr hn hris hp hcmp
  clear hr hcmp hp hris
  go_enter Tryz.func227, Tryz.ntmps227
  go_wp2_with fail
  refine HC.mono ?_
  clear HC
  rintro e w2 ⟨rfl, d2, hr2, ho2, hs2⟩
  have Z1 := Lib.hid hr2
  have Z2 := Lib.hid ho2
  have Z3 := Lib.hid hs2
  clear hr2 ho2 hs2
  go_wp2_with fail
  go_end0
  exact ⟨rfl, _, Z1.out, Z2.out, Z3.out⟩

set_option maxHeartbeats 1000000 in
theorem insertion_nil (F : Value) (w : World) : Calls Tryz.prog 238 #[.slice none 0 0, .int .i64 0, .int .i64 0, F] w fun e w' => e = .returned (.tuple #[]) ∧ w = w' := by
  go_enter Tryz.func238, Tryz.ntmps238
  go_wp2
  refine wp_loop_rounds 1 ?_
  rw [rounds_succ]
  go_wp2
  go_end0
  exact ⟨rfl, rfl⟩
set_option maxHeartbeats 1000000 in
theorem stable_nil (F : Value) (w : World) : Calls Tryz.prog 236 #[.slice none 0 0, .int .i64 0, F] w fun e w' => e = .returned (.tuple #[]) ∧ w = w' := by
  go_enter Tryz.func236, Tryz.ntmps236
  go_wp2
  refine wp_loop_rounds 1 ?_
  rw [rounds_succ]
  go_wp2_with (go_at_call 238; refine (insertion_nil _ _).mono ?_; rintro e w' ⟨rfl, rfl⟩)
  refine wp_loop_rounds 1 ?_
  rw [rounds_succ]
  go_wp2
  go_end0
  exact ⟨rfl, rfl⟩
set_option maxHeartbeats 1000000 in
theorem sortStable_nil (F : Value) (w : World) : Calls Tryz.prog 227 #[.slice none 0 0, F] w fun e w' => e = .returned (.tuple #[]) ∧ w = w' := by
  go_enter Tryz.func227, Tryz.ntmps227
  go_wp2_with (go_at_call 236; refine (stable_nil _ _).mono ?_; rintro e w' ⟨rfl, rfl⟩)
  go_end0
  exact ⟨rfl, rfl⟩

/-- What sorted leaves: the list itself, its numbers sorted; no other block has turned. -/
def SortedPost (g n cap : Nat) (kf d : Nat → Nat) (w : World) (e : Ending) (w' : World) : Prop :=
  e = .returned (.slice (some ⟨g, 0, none⟩) n cap) ∧ ∃ d', Rw w' g n d' ∧ SortIs kf n d 0 n d' ∧ Only g w w'

theorem cmps_of (B g K L : Nat) (ls : List Nat) (w : World) (hg : B ≤ g) (hne : K ≠ g) (hK : K < w.heap.size) (hc : w.cell? ⟨K, 0, none⟩ = some (.func (.func 210) #[] #[.pointer (some ⟨L, 0, none⟩)])) (hL : Lens B w L ls) :
    Cmps g (fun x => ls[x]?.getD 0) (fun x => x < ls.length) K w := by
  intro w' x y ho hx hy
  refine cmp_any B K L x y ls w' ?_ (hL.below (ho.belowB hg hL.size)) hx hy
  have e : w'.heap[K]? = w.heap[K]? := ho.block K hK hne
  unfold World.cell? at hc ⊢
  simp only at hc ⊢
  rw [e]; exact hc

set_option maxHeartbeats 1000000 in
theorem sorted_any (B g cap n L : Nat) (ls : List Nat) (d : Nat → Nat) (w : World) (hr : Rw w g n d) (hn : n ≤ 288) (hg : B ≤ g) (hL : Lens B w L ls) (hris : St.Ris (fun x => ls[x]?.getD 0) d n) (hp : ∀ i, i < n → d i < ls.length) :
    Calls Tryz.prog 209 #[.slice (some ⟨g, 0, none⟩) n cap, .func (.func 210) #[] #[.pointer (some ⟨L, 0, none⟩)]] w (SortedPost g n cap (fun x => ls[x]?.getD 0) d w) := by
  have hlt := hr.lt
  have hb := below1 w (.cells #[.func (.func 210) #[] #[.pointer (some ⟨L, 0, none⟩)]] 67)
  have hsz := hL.size
  have hc : (w.alloc (.cells #[.func (.func 210) #[] #[.pointer (some ⟨L, 0, none⟩)]] 67)).cell? ⟨w.heap.size, 0, none⟩ = some (.func (.func 210) #[] #[.pointer (some ⟨L, 0, none⟩)]) := (Has.new w _).one.1
  have hr1 : Rw (w.alloc (.cells #[.func (.func 210) #[] #[.pointer (some ⟨L, 0, none⟩)]] 67)) g n d :=
    ⟨by simp; omega, fun i hi => by rw [hb.cell (p := ⟨g, i, none⟩) hlt]; exact hr.cell i hi, fun i hi => by rw [hb.frozen (p := ⟨g, i, none⟩) hlt]; exact hr.free i hi⟩
  have hcm := cmps_of B g w.heap.size L ls _ hg (by omega) (by simp) hc (hL.below (hb.mono hsz))
  have HC := sortStable_any g cap n w.heap.size _ _ d _ hr1 hn hris hp hcm
  have HB := Lib.hid (only_alloc w g (.cells #[.func (.func 210) #[] #[.pointer (some ⟨L, 0, none⟩)]] 67))
  clear hr hris hp hL hc hr1 hcm hb
  go_enter Tryz.func209, Tryz.ntmps209
  go_wp2_with fail
  refine HC.mono ?_
  clear HC
  rintro e w2 ⟨rfl, d2, hr2, ho2, hs2⟩
  have Z1 := Lib.hid hr2
  have Z2 := Lib.hid ho2
  have Z3 := Lib.hid hs2
  clear hr2 ho2 hs2
  go_wp2_with fail
  go_ret
  exact ⟨rfl, d2, Z1.out, Z3.out, HB.out.trans Z2.out⟩

set_option maxHeartbeats 1000000 in
theorem sorted_nil (L : Nat) (w : World) :
    Calls Tryz.prog 209 #[.slice none 0 0, .func (.func 210) #[] #[.pointer (some ⟨L, 0, none⟩)]] w fun e w' => e = .returned (.slice none 0 0) ∧ Below w.heap.size w w' := by
  have hb := Lib.hid (below1 w (.cells #[.func (.func 210) #[] #[.pointer (some ⟨L, 0, none⟩)]] 67))
  go_enter Tryz.func209, Tryz.ntmps209
  go_wp2_with (go_at_call 227; refine (sortStable_nil _ _).mono ?_; rintro e w' ⟨rfl, rfl⟩)
  go_ret
  exact ⟨rfl, hb.out⟩
end Go.Proofs.YtnjlljdbghcobaaGreatDoor

/- Codes by lengths: plain facts. Nothing of the program is named here. -/
namespace Go.Proofs.YtnjlljdbghcobaaGreatDoor
set_option maxRecDepth 100000
namespace Hf

/-- The length of symbol i. -/
def ln (ls : List Nat) (i : Nat) : Nat := ls[i]?.getD 0

/-- The symbols ahead of k whose length is l. -/
def rowTo (ls : List Nat) (l : Nat) : Nat → List Nat
  | 0 => []
  | k + 1 => rowTo ls l k ++ (if ln ls k = l then [k] else [])
/-- The used symbols of at most l bits, in the order of their codes. -/
def ordTo (ls : List Nat) : Nat → List Nat
  | 0 => []
  | l + 1 => ordTo ls l ++ rowTo ls (l + 1) ls.length
/-- The used symbols in the order of their codes. -/
def ordl (ls : List Nat) : List Nat := ordTo ls 15

theorem mem_rowTo (ls : List Nat) (l k x : Nat) : x ∈ rowTo ls l k ↔ x < k ∧ ln ls x = l := by
  induction k with
  | zero => simp [rowTo]
  | succ k ih =>
    simp only [rowTo, List.mem_append, ih]
    by_cases h : ln ls k = l
    · rw [if_pos h, List.mem_singleton]
      constructor
      · rintro (⟨h1, h2⟩ | rfl)
        · exact ⟨by omega, h2⟩
        · exact ⟨by omega, h⟩
      · rintro ⟨h1, h2⟩
        by_cases e : x = k
        · exact Or.inr e
        · exact Or.inl ⟨by omega, h2⟩
    · rw [if_neg h]
      constructor
      · rintro (⟨h1, h2⟩ | h3)
        · exact ⟨by omega, h2⟩
        · cases h3
      · rintro ⟨h1, h2⟩
        refine Or.inl ⟨?_, h2⟩
        by_cases e : x = k
        · subst e; exact absurd h2 h
        · omega
theorem mem_ordTo (ls : List Nat) (l x : Nat) : x ∈ ordTo ls l ↔ x < ls.length ∧ 0 < ln ls x ∧ ln ls x ≤ l := by
  induction l with
  | zero => simp [ordTo]; omega
  | succ l ih =>
    simp only [ordTo, List.mem_append, ih, mem_rowTo]
    constructor
    · rintro (⟨h1, h2, h3⟩ | ⟨h1, h2⟩)
      · exact ⟨h1, h2, by omega⟩
      · exact ⟨h1, by omega, by omega⟩
    · rintro ⟨h1, h2, h3⟩
      by_cases e : ln ls x = l + 1
      · exact Or.inr ⟨h1, e⟩
      · exact Or.inl ⟨h1, h2, by omega⟩

/-- Ahead in the order of codes. -/
def Lt (ls : List Nat) (x y : Nat) : Prop := ln ls x < ln ls y ∨ (ln ls x = ln ls y ∧ x < y)

theorem rowTo_sorted (ls : List Nat) (l k : Nat) : (rowTo ls l k).Pairwise (Lt ls) := by
  induction k with
  | zero => simp [rowTo]
  | succ k ih =>
    simp only [rowTo]
    rw [List.pairwise_append]
    refine ⟨ih, by split <;> simp, fun a ha b hb => ?_⟩
    rw [mem_rowTo] at ha
    by_cases h : ln ls k = l
    · rw [if_pos h, List.mem_singleton] at hb
      subst hb
      exact Or.inr ⟨by rw [ha.2, h], ha.1⟩
    · rw [if_neg h] at hb; cases hb
theorem ordTo_sorted (ls : List Nat) (l : Nat) : (ordTo ls l).Pairwise (Lt ls) := by
  induction l with
  | zero => simp [ordTo]
  | succ l ih =>
    simp only [ordTo]
    rw [List.pairwise_append]
    refine ⟨ih, rowTo_sorted _ _ _, fun a ha b hb => Or.inl ?_⟩
    rw [mem_ordTo] at ha
    rw [mem_rowTo] at hb
    omega

/-- Two rows in order that have the same members are one. -/
theorem sorted_unique (ls : List Nat) : ∀ (xs ys : List Nat), xs.Pairwise (Lt ls) → ys.Pairwise (Lt ls) → (∀ x, x ∈ xs ↔ x ∈ ys) → xs = ys := by
  have asym : ∀ x y, Lt ls x y → Lt ls y x → False := fun x y h1 h2 => by unfold Lt at h1 h2; omega
  intro xs
  induction xs with
  | nil =>
    intro ys _ _ h
    cases ys with
    | nil => rfl
    | cons y ys => exact absurd ((h y).2 (by simp)) (by simp)
  | cons x xs ih =>
    intro ys hx hy h
    cases ys with
    | nil => exact absurd ((h x).1 (by simp)) (by simp)
    | cons y ys =>
      rw [List.pairwise_cons] at hx hy
      have e : x = y := by
        have h1 := (h x).1 (by simp)
        have h2 := (h y).2 (by simp)
        rw [List.mem_cons] at h1 h2
        rcases h1 with e | h1
        · exact e
        · rcases h2 with e | h2
          · exact e.symm
          · exact (asym x y (hx.1 y h2) (hy.1 x h1)).elim
      subst e
      rw [ih ys hx.2 hy.2 fun z => ?_]
      constructor
      · intro hz
        have := (h z).1 (List.mem_cons_of_mem _ hz)
        rw [List.mem_cons] at this
        rcases this with e | h'
        · subst e; exact (asym z z (hx.1 z hz) (hx.1 z hz)).elim
        · exact h'
      · intro hz
        have := (h z).2 (List.mem_cons_of_mem _ hz)
        rw [List.mem_cons] at this
        rcases this with e | h'
        · subst e; exact (asym z z (hy.1 z hz) (hy.1 z hz)).elim
        · exact h'

/-- The used symbols, rising. -/
def usedL (ls : List Nat) : Nat → List Nat
  | 0 => []
  | k + 1 => usedL ls k ++ (if ln ls k = 0 then [] else [k])
theorem mem_usedL (ls : List Nat) (k x : Nat) : x ∈ usedL ls k ↔ x < k ∧ ln ls x ≠ 0 := by
  induction k with
  | zero => simp [usedL]
  | succ k ih =>
    simp only [usedL, List.mem_append, ih]
    by_cases h : ln ls k = 0
    · rw [if_pos h]
      constructor
      · rintro (⟨h1, h2⟩ | h3)
        · exact ⟨by omega, h2⟩
        · cases h3
      · rintro ⟨h1, h2⟩
        refine Or.inl ⟨?_, h2⟩
        by_cases e : x = k
        · subst e; exact absurd h h2
        · omega
    · rw [if_neg h, List.mem_singleton]
      constructor
      · rintro (⟨h1, h2⟩ | rfl)
        · exact ⟨by omega, h2⟩
        · exact ⟨by omega, h⟩
      · rintro ⟨h1, h2⟩
        by_cases e : x = k
        · exact Or.inr e
        · exact Or.inl ⟨by omega, h2⟩
theorem usedL_sorted (ls : List Nat) (k : Nat) : (usedL ls k).Pairwise (· < ·) := by
  induction k with
  | zero => simp [usedL]
  | succ k ih =>
    simp only [usedL]
    rw [List.pairwise_append]
    refine ⟨ih, by split <;> simp, fun a ha b hb => ?_⟩
    rw [mem_usedL] at ha
    by_cases h : ln ls k = 0
    · rw [if_pos h] at hb; cases hb
    · rw [if_neg h, List.mem_singleton] at hb; omega
theorem usedL_length (ls : List Nat) (k : Nat) : (usedL ls k).length ≤ k := by
  induction k with
  | zero => simp [usedL]
  | succ k ih => simp only [usedL, List.length_append]; split <;> simp <;> omega

/-- What a stable sort of the used symbols gives is their order by codes. -/
theorem sorted_is (ls : List Nat) (hl : ∀ i, i < ls.length → ln ls i ≤ 15) (n : Nat) (d d' : Nat → Nat) (hn : n = (usedL ls ls.length).length) (hd : ∀ i, i < n → d i = (usedL ls ls.length)[i]?.getD 0)
    (hs : St.Swaps 0 n d d') (hr : St.Ris (ln ls) d' n) (hw : St.Srt (ln ls) d' 0 n) : (List.range n).map d' = ordl ls := by
  have hm : ∀ x, x ∈ (List.range n).map d' ↔ x ∈ usedL ls ls.length := by
    intro x
    simp only [List.mem_map, List.mem_range]
    constructor
    · rintro ⟨i, hi, rfl⟩
      obtain ⟨k, _, k2, k3⟩ := hs.img i (by omega) hi
      rw [k3, hd k k2, List.getElem?_eq_getElem (by omega)]
      exact List.getElem_mem _
    · intro hx
      obtain ⟨i, hi, rfl⟩ := List.getElem_of_mem hx
      obtain ⟨k, _, k2, k3⟩ := hs.back i (by omega) (by omega)
      refine ⟨k, k2, ?_⟩
      rw [← k3, hd i (by omega), List.getElem?_eq_getElem hi]
      rfl
  refine sorted_unique ls _ _ ?_ (ordTo_sorted ls 15) fun x => ?_
  · rw [List.pairwise_map]
    refine List.Pairwise.imp_of_mem ?_ (List.pairwise_lt_range)
    intro a b ha hb hab
    rw [List.mem_range] at ha hb
    have h1 := hw a b (by omega) hab hb
    by_cases e : ln ls (d' a) = ln ls (d' b)
    · exact Or.inr ⟨e, hr a b hab hb e⟩
    · exact Or.inl (by omega)
  · rw [hm, mem_usedL]
    unfold ordl
    rw [mem_ordTo]
    constructor
    · rintro ⟨h1, h2⟩; exact ⟨h1, by omega, hl x h1⟩
    · rintro ⟨h1, h2, _⟩; exact ⟨h1, by omega⟩

/-- Before it is sorted: what has one key rises. -/
theorem used_ris (ls : List Nat) (k : Nat) : St.Ris (ln ls) (fun i => (usedL ls k)[i]?.getD 0) (usedL ls k).length := by
  intro p q h1 h2 _
  have := List.pairwise_iff_getElem.1 (usedL_sorted ls k) p q (by omega) h2 h1
  show (usedL ls k)[p]?.getD 0 < (usedL ls k)[q]?.getD 0
  rw [List.getElem?_eq_getElem (by omega), List.getElem?_eq_getElem h2]
  exact this
end Hf
end Go.Proofs.YtnjlljdbghcobaaGreatDoor

/- Contracts of huff.used, of the iterator that it hands back, and of huff.taken. -/
namespace Go.Proofs.YtnjlljdbghcobaaGreatDoor
set_option maxRecDepth 100000
open Go.RowKit Go.Shelf

attribute [local go_sem] Oper.semAt_some

/-- The slice value sv reads the lengths ls, in a block below B. -/
def Lsl (B : Nat) (W : World) (sv : Value) (ls : List Nat) : Prop :=
  ∃ b off cap, sv = .slice (some ⟨b, off, none⟩) ls.length cap ∧ 0 < ls.length ∧ ls.length ≤ 288 ∧ b < B ∧ ∀ i, i < ls.length → W.cell? ⟨b, off + i, none⟩ = some (.int .i64 ((ls[i]?.getD 0 : Nat) : Int))

theorem Lsl.below {B : Nat} {w w' : World} {sv : Value} {ls : List Nat} (h : Lsl B w sv ls) (hb : Below B w w') : Lsl B w' sv ls := by
  obtain ⟨b, off, cap, e, h1, h2, h3, h4⟩ := h
  exact ⟨b, off, cap, e, h1, h2, h3, fun i hi => (hb.cell (p := ⟨b, off + i, none⟩) h3).trans (h4 i hi)⟩

/-- The used symbols ahead of k, with their lengths. -/
def usedTo (ls : List Nat) : Nat → List (Nat × Nat)
  | 0 => []
  | k + 1 => usedTo ls k ++ (if ls[k]?.getD 0 = 0 then [] else [(k, ls[k]?.getD 0)])
theorem usedTo_length (ls : List Nat) (k : Nat) : (usedTo ls k).length ≤ k := by
  induction k with
  | zero => simp [usedTo]
  | succ k ih => simp only [usedTo, List.length_append]; split <;> simp <;> omega

theorem usedTo_syms (ls : List Nat) (k : Nat) : (usedTo ls k).map Prod.fst = Hf.usedL ls k := by
  induction k with
  | zero => rfl
  | succ k ih =>
    simp only [usedTo, Hf.usedL, List.map_append, ih]
    congr 1
    show _ = if ls[k]?.getD 0 = 0 then [] else [k]
    by_cases h : ls[k]?.getD 0 = 0
    · rw [if_pos h, if_pos h]; rfl
    · rw [if_neg h, if_neg h]; rfl

set_option maxHeartbeats 1000000 in
theorem used_in (n : Nat) (sv : Value) (a : Option Addr) (len cap : Nat) (hsv : sv = .slice a len cap) (w : World) :
    CallsIn Fence.wide n Tryz.prog 192 #[sv] w fun e w' => e = .returned (.func (.func 211) #[] #[.pointer (some ⟨w.heap.size, 0, none⟩)]) ∧ w' = w.alloc (.cells #[sv] 33) := by
  subst hsv
  refine callsIn_of_wp Tryz.func192 rfl trivial ?_ rfl
  simp only [Tryz.ntmps192, List.size_toArray, List.length_cons, List.length_nil, Nat.reduceAdd, Nat.reduceSub, Array.replicate_succ, Array.replicate_zero, List.push_toArray, List.append_toArray, List.nil_append, List.cons_append]
  gi_wp2
  go_ret
  exact ⟨rfl, rfl⟩

set_option maxRecDepth 100000 in
set_option maxHeartbeats 2000000 in
theorem used1_in (n : Nat) (hn : 1 ≤ n) (l Bs n₀ : Nat) (sv : Value) (ls : List Nat) (J Jx : List (Nat × Nat) → World → Prop)
    (hY : ∀ pre x W, J pre W → pre.length < ls.length → YieldAt Fence.wide (n - 1) Tryz.prog l #[.int .i64 (x.1 : Int), .int .i64 (x.2 : Int)] W fun e W' =>
      (e = .returned (.bool true) ∧ J (pre ++ [x]) W' ∧ Below n₀ W W') ∨ (e = .returned (.bool false) ∧ Jx (pre ++ [x]) W'))
    (W : World) (hBs : W.cell? ⟨Bs, 0, none⟩ = some sv) (hL : Lsl n₀ W sv ls) (h0 : J [] W) :
    CallsIn Fence.wide n Tryz.prog 211 #[.func (.yield l) #[] #[], .pointer (some ⟨Bs, 0, none⟩)] W fun e W' => (∃ v, e = .returned v) ∧
      ((∃ ys, ys = usedTo ls ls.length ∧ J ys W') ∨ (∃ pre, True ∧ Jx pre W')) := by
  obtain ⟨b, off, cap, rfl, hpos, h288, hb, hc⟩ := hL
  refine callsIn_of_wp Tryz.func211 rfl trivial ?_ rfl
  simp only [Tryz.ntmps211, List.size_toArray, List.length_cons, List.length_nil, Nat.reduceAdd, Nat.reduceSub, Array.replicate_succ, Array.replicate_zero, List.push_toArray, List.append_toArray, List.nil_append, List.cons_append]
  gi_wp2
  gi_loopw [7] (fun i wr => ∃ k : Nat, k ≤ ls.length ∧ i = .int .i64 k ∧ J (usedTo ls k) wr ∧ Below n₀ W wr)
    (fun i _ => ls.length - (intOf i).toNat)
  case atStart => exact ⟨0, Nat.zero_le _, rfl, h0, Below.refl _ _⟩
  case round =>
    obtain ⟨k, hk, rfl, hJs, hnx⟩ := hrel
    by_cases hlt : k < ls.length
    · have hcx : wr.cell? ⟨b, off + k, none⟩ = some (.int .i64 ((ls[k]?.getD 0 : Nat) : Int)) := (hnx.cell (p := ⟨b, off + k, none⟩) hb).trans (hc k hlt)
      obtain ⟨x, hx⟩ : ∃ x, x = ls[k]?.getD 0 := ⟨_, rfl⟩
      rw [← hx] at hcx
      by_cases h0 : x = 0
      · have hst : usedTo ls (k + 1) = usedTo ls k := by simp [usedTo, ← hx, h0]
        have HST := Lib.hid hst
        subst h0
        clear hst hx
        gi_wp2
        refine ⟨fun _ h => (by cases h), ?_⟩
        gi_wp2
        go_roundw
        case rel => exact ⟨k + 1, by omega, by simp, by rw [HST.out]; exact hJs, hnx⟩
        case measure => simp [intOf]; omega
      · have hst : usedTo ls (k + 1) = usedTo ls k ++ [(k, x)] := by simp [usedTo, ← hx, h0]
        have HST := Lib.hid hst
        have hne : ((x : Int) != 0) = true := by rw [bne_iff_ne]; omega
        obtain ⟨fn, tmps, assign, body, hy, hR⟩ := hY _ (k, x) wr hJs (by have := usedTo_length ls k; omega)
        dsimp only at hy
        clear hst hx
        gi_wp2
        refine hR.mono ?_
        rintro e W3 (⟨rfl, hJ3, hk3⟩ | ⟨rfl, hJx3⟩)
        · gi_wp2
          go_roundw
          case rel => exact ⟨k + 1, by omega, by simp, by rw [HST.out]; exact hJ3, hnx.trans hk3⟩
          case measure => simp [intOf]; omega
        · gi_wp2
          refine bodyPost_ret (results_none rfl _ _ _) rfl ?_
          exact ⟨⟨_, rfl⟩, .inr ⟨_, trivial, hJx3⟩⟩
    · obtain rfl : k = ls.length := by omega
      gi_wp2
      go_end0
      exact ⟨⟨_, rfl⟩, .inl ⟨_, rfl, hJs⟩⟩

theorem used_stops (n : Nat) (hn : 1 ≤ n) (Bs n₀ : Nat) (sv : Value) (ls : List Nat) (w : World) (hBs : Bs < w.heap.size) (hn₀ : n₀ ≤ w.heap.size)
    (hc : w.cell? ⟨Bs, 0, none⟩ = some sv) (hL : Lsl n₀ w sv ls) :
    SeqStopsK Fence.wide n Tryz.prog 211 #[.pointer (some ⟨Bs, 0, none⟩)] (fun x : Nat × Nat => #[Value.int .i64 (x.1 : Int), Value.int .i64 (x.2 : Int)]) (Below n₀) (fun ys => ys = usedTo ls ls.length) (fun _ => True) ls.length w := fun l J Jx W hW _ _ hY h0 =>
  used1_in n hn l Bs n₀ sv ls J Jx hY W ((hW.cell (p := ⟨Bs, 0, none⟩) hBs).trans hc) (hL.below (hW.mono hn₀)) h0
end Go.Proofs.YtnjlljdbghcobaaGreatDoor

/- Contract of huff.taken. -/
namespace Go.Proofs.YtnjlljdbghcobaaGreatDoor
set_option maxRecDepth 100000
open Go.RowKit Go.Shelf

attribute [local go_sem] Oper.semAt_some

/-- What lengths take, in parts of 2^-15. -/
def takesOf : List (Nat × Nat) → Nat
  | [] => 0
  | p :: ps => 32768 / 2 ^ min p.2 64 + takesOf ps
theorem takesOf_append (a b : List (Nat × Nat)) : takesOf (a ++ b) = takesOf a + takesOf b := by
  induction a with
  | nil => simp [takesOf]
  | cons p ps ih => simp only [List.cons_append, takesOf, ih]; omega
theorem takesOf_snoc (a : List (Nat × Nat)) (p : Nat × Nat) : takesOf (a ++ [p]) = takesOf a + 32768 / 2 ^ min p.2 64 := by rw [takesOf_append]; simp [takesOf]
theorem takesOf_le (a : List (Nat × Nat)) : takesOf a ≤ 32768 * a.length := by
  induction a with
  | nil => simp [takesOf]
  | cons p ps ih =>
    have := Nat.div_le_self 32768 (2 ^ min p.2 64)
    simp only [takesOf, List.length_cons]; omega

set_option maxRecDepth 100000 in
set_option maxHeartbeats 2000000 in
theorem taken_in (n : Nat) (hn : 3 ≤ n) (sv : Value) (ls : List Nat) (w : World) (hL : Lsl w.heap.size w sv ls) :
    CallsIn Fence.wide n Tryz.prog 201 #[sv] w fun e W' => e = .returned (.int .i64 (takesOf (usedTo ls ls.length) : Int)) ∧ Below w.heap.size w W' := by
  have h1 : 1 ≤ n := by omega
  have hL2 := hL
  obtain ⟨b, off, cap, rfl, hpos, h288, hbl, hcl⟩ := hL2
  clear hcl
  refine callsIn_of_wp_marks Tryz.func201 rfl trivial ?_ rfl
  simp only [Tryz.ntmps201, List.size_toArray, List.length_cons, List.length_nil, Nat.reduceAdd, Nat.reduceSub, Array.replicate_succ, Array.replicate_zero, List.push_toArray, List.append_toArray, List.nil_append, List.cons_append]
  have HL := Lib.hid hL
  clear hL
  gi_wp2_with (refine ⟨trivial, ?_⟩; gi_at_call 192; refine (used_in (n - 1) _ _ _ _ rfl _).mono ?_; rintro e w' ⟨rfl, rfl⟩)
  have bS := Boxed.new w 3 (.int .i64 0)
  have bN := Boxed.new (w.alloc (.cells #[.int .i64 0] 3)) 33 (.slice (some ⟨b, off, none⟩) ls.length cap)
  rw [World.size_alloc] at bN
  have hB0 : Below w.heap.size w ((w.alloc (.cells #[.int .i64 0] 3)).alloc (.cells #[.slice (some ⟨b, off, none⟩) ls.length cap] 33)) := ((Below.refl _ w).alloc (Nat.le_refl _) _).alloc (by simp) _
  refine wpIn_rangeFunc_ownG rfl h1 (gf := 211) (lb := #[.pointer (some ⟨w.heap.size + 1, 0, none⟩)]) rfl trivial (enters_of Tryz.func211 (by kernel_rfl) rfl)
    (used_stops (n - 1) (by omega) (w.heap.size + 1) w.heap.size _ ls _ (by simp) (by simp; omega) bN.cell (HL.out.below hB0)) belowK_t (belowK_b (by simp; omega)) (Below.refl _ _) (fun _ => rfl)
    (fun pre W => (W.cell? ⟨w.heap.size, 0, none⟩ = some (.int .i64 (takesOf pre : Int)) ∧ W.frozen? ⟨w.heap.size, 0, none⟩ = false) ∧ Below w.heap.size w W)
    (fun _ _ _ => False)
    (OwnFrom.and (Own.from (fun s A B row hs hg hr => ⟨cell_kept hs.1 hg hr, (frozen_kept hs.1 hg hr).trans hs.2⟩) _) (ownFrom_below (Nat.le_refl _) (by simp; omega)))
    (fun _ _ _ _ _ hs _ _ => hs)
    ⟨⟨(bS.alloc _).cell, (bS.alloc _).frozen⟩, hB0⟩
    (fun x => { tmps := #[.slice (some ⟨b, off, none⟩) ls.length cap, undef, .int .i64 0, .pointer (some ⟨w.heap.size, 0, none⟩), undef, .int .i64 (x.2 : Int), .slice (some ⟨b, off, none⟩) ls.length cap, .func (.func 211) #[] #[.pointer (some ⟨w.heap.size + 1, 0, none⟩)], .int .i64 (x.1 : Int), .int .i64 (x.2 : Int), undef, undef, undef, undef, undef], defers := [] }) ?assign ?body ?done ?stop
  case assign =>
    intro l x W K hK
    gi_wp2
    exact hK
  case body =>
    rintro l pre x W ⟨⟨hc, hf⟩, hB⟩ hlt
    have hle := takesOf_le pre
    have hd := Nat.div_le_self 32768 (2 ^ min x.2 64)
    obtain ⟨y, hy⟩ : ∃ y, y = x.2 := ⟨_, rfl⟩
    obtain ⟨z, hz⟩ : ∃ z, z = takesOf pre := ⟨_, rfl⟩
    have hs : takesOf (pre ++ [x]) = z + 32768 / 2 ^ min y 64 := by rw [takesOf_snoc, hy, hz]
    rw [← hy] at hd ⊢
    rw [← hz] at hle hc
    have HS := Lib.hid hs
    clear hs hy hz
    have hmx : Tryz.prog.follows .mixedOrders = true := by kernel_rfl
    have hd1 : 1 ≤ n - 1 - 1 := by omega
    gi_wp2
    gi_region_with_o (fail)
    all_goals gi_wp2
    all_goals (try go_bits)
    all_goals
      have e : wrap64 ((z : Int) + 32768 / 2 ^ min y 64) = ((z + 32768 / 2 ^ min y 64 : Nat) : Int) := by
        have e1 : ((32768 : Int) / 2 ^ min y 64) = ((32768 / 2 ^ min y 64 : Nat) : Int) := by simp
        rw [e1]
        generalize 32768 / 2 ^ min y 64 = q at hd
        rw [IntWalk.wrap64_in _ (by omega)]
        omega
      rw [e, ← HS.out]
      exact ⟨((KeepsOthers.setCell _ _ _).trans (KeepsOthers.drew _)).from _, ((Below.refl w.heap.size W).setCell (p := ⟨w.heap.size, 0, none⟩) (Nat.le_refl _) _).drew, ⟨World.cell?_setCell_same' _ _ _ (by rw [hc]; rfl), by rw [frozen_drew_own, World.frozen?_setCell]; exact hf⟩, (hB.setCell (p := ⟨w.heap.size, 0, none⟩) (Nat.le_refl _) _).drew⟩
  case done =>
    rintro D ys W hD rfl ⟨⟨hc, _⟩, hB⟩ hK
    gi_wp2
    refine ⟨by simp, .inl ⟨_, _, rfl, run_takeDeferred hK, ?_⟩⟩
    exact ⟨_, results_tmp rfl _ _ _, rfl, hB.trans (belowK_b (w := w) (Nat.le_refl _) W D _ _ (by simp at hD; omega) hK rfl rfl)⟩
  case stop =>
    rintro D c pre W _ _ h _
    exact h.elim

theorem taken_any (sv : Value) (ls : List Nat) (w : World) (hL : Lsl w.heap.size w sv ls) :
    Calls Tryz.prog 201 #[sv] w fun e W' => e = .returned (.int .i64 (takesOf (usedTo ls ls.length) : Int)) ∧ Below w.heap.size w W' :=
  callsIn_wide.1 (taken_in 3 (Nat.le_refl _) sv ls w hL)
end Go.Proofs.YtnjlljdbghcobaaGreatDoor

/- Contract of huff.ordered. -/
namespace Go.Proofs.YtnjlljdbghcobaaGreatDoor
set_option maxRecDepth 100000
open Go.RowKit Go.Shelf

attribute [local go_sem] Oper.semAt_some

/-- The slice value sv is nil, or owns a block from lo on that reads xs. -/
def Il (lo : Nat) (W : World) (sv : Value) (xs : List Nat) : Prop :=
  (sv = .slice none 0 0 ∧ xs = []) ∨ ∃ g cap, sv = .slice (some ⟨g, 0, none⟩) xs.length cap ∧ xs.length ≤ cap ∧ lo ≤ g ∧ Rw W g xs.length (fun i => xs[i]?.getD 0)

/-- What ordered leaves: the used symbols in the order of their codes, in memory of their own. -/
def OrdPost (w : World) (ls : List Nat) (e : Ending) (w' : World) : Prop :=
  ∃ v, e = .returned v ∧ Il w.heap.size w' v (Hf.ordl ls) ∧ Below w.heap.size w w'

theorem Tryz.infoInt : (Tryz.prog.info? 3).map (fun i => (i.zero, i.size, i.bytes)) = some (some (.int .i64 0), 1, 8) := by kernel_rfl

/-- The symbols as cells. -/
def vsym (ps : List (Nat × Nat)) : List Value := ps.map fun p => Value.int .i64 (p.1 : Int)

theorem cell_of_heap {w w' : World} {g : Nat} (h : w'.heap[g]? = w.heap[g]?) (i : Nat) : w'.cell? ⟨g, i, none⟩ = w.cell? ⟨g, i, none⟩ := by
  unfold World.cell?; simp only [h]
theorem frozen_of_heap {w w' : World} {g : Nat} (h : w'.heap[g]? = w.heap[g]?) (i : Nat) : w'.frozen? ⟨g, i, none⟩ = w.frozen? ⟨g, i, none⟩ := by
  unfold World.frozen?; simp only [h]
theorem Rw.same {w w' : World} {g n : Nat} {d : Nat → Nat} (h : Rw w g n d) (e : w'.heap[g]? = w.heap[g]?) (hs : g < w'.heap.size) : Rw w' g n d :=
  ⟨hs, fun i hi => (cell_of_heap e i).trans (h.cell i hi), fun i hi => (frozen_of_heap e i).trans (h.free i hi)⟩

theorem row_of_owns {W : World} {base g cap : Nat} {ls : List Nat} {k : Nat} (h : W.ownsRow base 3 1 (.slice (some ⟨g, 0, none⟩) (usedTo ls k).length cap) (usedTo ls k).length (vsym (usedTo ls k))) (hg : g < W.heap.size) :
    Rw W g (Hf.usedL ls k).length (fun i => (Hf.usedL ls k)[i]?.getD 0) := by
  have hl : (Hf.usedL ls k).length = (usedTo ls k).length := by rw [← usedTo_syms]; simp
  refine ⟨hg, fun i hi => ?_, fun i _ => h.frozenAt i⟩
  rw [h.cellAt i (by omega), ← usedTo_syms]
  have hi2 : i < (usedTo ls k).length := by omega
  simp [vsym, List.getElem?_eq_getElem hi2]

/-- What sorted leaves of the used symbols. -/
theorem ord_fin {w w1 W w2 : World} {g cap D : Nat} {ls : List Nat} {d' : Nat → Nat} (h15 : ∀ i, i < ls.length → Hf.ln ls i ≤ 15) (hs1 : w1.heap.size = w.heap.size + 1) (hB1 : Below w.heap.size w w1) (hB : Below (w.heap.size + 1) w1 W)
    (hg : w.heap.size + 1 ≤ g) (hgW : g < W.heap.size) (hD : w.heap.size ≤ D) (_hDW : D < W.heap.size) (hne : D ≠ g) (hcap : (Hf.usedL ls ls.length).length ≤ cap)
    (hr2 : Rw w2 g (Hf.usedL ls ls.length).length d') (hs : SortIs (Hf.ln ls) (Hf.usedL ls ls.length).length (fun i => (Hf.usedL ls ls.length)[i]?.getD 0) 0 (Hf.usedL ls ls.length).length d') (ho : Only g W w2) (o' : Obj) :
    Il w.heap.size (w2.putObj D o') (.slice (some ⟨g, 0, none⟩) (Hf.usedL ls ls.length).length cap) (Hf.ordl ls) ∧ Below w.heap.size w (w2.putObj D o') := by
  have e := Hf.sorted_is ls h15 _ _ d' rfl (fun i _ => rfl) hs.1 hs.2.1 hs.2.2
  have hn : (Hf.ordl ls).length = (Hf.usedL ls ls.length).length := by rw [← e]; simp
  have hsz := hB.size
  have hsz2 := ho.size
  refine ⟨Or.inr ⟨g, cap, by rw [hn], by omega, by omega, ?_⟩, ?_⟩
  · rw [hn]
    have h3 : Rw (w2.putObj D o') g (Hf.usedL ls ls.length).length d' := hr2.same (World.putObj_heap_other (by omega)) (by simp; omega)
    refine ⟨h3.lt, fun i hi => ?_, h3.free⟩
    rw [h3.cell i hi, ← e]
    simp [hi]
  · refine ((hB1.trans (hB.mono (by omega))).trans (ho.belowB (by omega) (by omega))).trans ?_
    exact (Below.refl w.heap.size w2).grown (grownBy_putObj' w2 D o') (by omega) (fun k e => by cases e; omega)

set_option maxRecDepth 100000 in
set_option maxHeartbeats 4000000 in
theorem ordered_in (n : Nat) (hn : 3 ≤ n) (sv : Value) (ls : List Nat) (w : World) (hL : Lsl w.heap.size w sv ls) (h15 : ∀ i, i < ls.length → Hf.ln ls i ≤ 15) :
    CallsIn Fence.wide n Tryz.prog 191 #[sv] w (OrdPost w ls) := by
  have h1 : 1 ≤ n := by omega
  have hL2 := hL
  obtain ⟨b, off, cap, rfl, hpos, h288, hbl, hcl⟩ := hL2
  clear hcl
  obtain ⟨i0, hi, hz0, hz1, hz2⟩ := info_parts Tryz.infoInt
  refine callsIn_of_wp_marks Tryz.func191 rfl trivial ?_ rfl
  simp only [Tryz.ntmps191, List.size_toArray, List.length_cons, List.length_nil, Nat.reduceAdd, Nat.reduceSub, Array.replicate_succ, Array.replicate_zero, List.push_toArray, List.append_toArray, List.nil_append, List.cons_append]
  have HL := Lib.hid hL
  have HI := Lib.hid hi
  clear hL hi
  gi_wp2_with (refine ⟨trivial, ?_⟩; gi_at_call 192; refine (used_in (n - 1) _ _ _ _ rfl _).mono ?_; rintro e w' ⟨rfl, rfl⟩)
  obtain ⟨w1, hw1⟩ : ∃ w1, w1 = w.alloc (.cells #[.slice (some ⟨b, off, none⟩) ls.length cap] 33) := ⟨_, rfl⟩
  have hs1 : w1.heap.size = w.heap.size + 1 := by rw [hw1]; simp
  have bL : Boxed w1 w.heap.size 33 (.slice (some ⟨b, off, none⟩) ls.length cap) := by rw [hw1]; exact Boxed.new w 33 _
  have hB1 : Below w.heap.size w w1 := by rw [hw1]; exact (Below.refl _ w).alloc (Nat.le_refl _) _
  rw [← hw1]
  have bS := Boxed.new w1 33 (.slice none 0 0)
  have bN := Boxed.new (w1.alloc (.cells #[.slice none 0 0] 33)) 33 (.slice (some ⟨b, off, none⟩) ls.length cap)
  rw [World.size_alloc] at bN
  rw [hs1] at bS bN
  have hB0 : Below (w.heap.size + 1) w1 ((w1.alloc (.cells #[.slice none 0 0] 33)).alloc (.cells #[.slice (some ⟨b, off, none⟩) ls.length cap] 33)) := ((Below.refl _ w1).alloc (by omega) _).alloc (by simp; omega) _
  have hL3 : Lsl (w.heap.size + 1) ((w1.alloc (.cells #[.slice none 0 0] 33)).alloc (.cells #[.slice (some ⟨b, off, none⟩) ls.length cap] 33)) (.slice (some ⟨b, off, none⟩) ls.length cap) ls := by
    obtain ⟨b', off', cap', e1, e2, e3, e4, e5⟩ := (HL.out.below hB1)
    exact Lsl.below ⟨b', off', cap', e1, e2, e3, by omega, e5⟩ hB0
  have hz3 : ((w1.alloc (.cells #[.slice none 0 0] 33)).alloc (.cells #[.slice (some ⟨b, off, none⟩) ls.length cap] 33)).heap.size = w.heap.size + 3 := by simp; omega
  clear hw1
  refine wpIn_rangeFunc_ownG rfl h1 (gf := 211) (lb := #[.pointer (some ⟨w.heap.size + 1 + 1, 0, none⟩)]) rfl trivial (enters_of Tryz.func211 (by kernel_rfl) rfl)
    (used_stops (n - 1) (by omega) (w.heap.size + 1 + 1) (w.heap.size + 1) _ ls _ (by rw [hz3]; omega) (by rw [hz3]; omega) bN.cell hL3) belowK_t (belowK_b (by rw [hz3]; omega)) (Below.refl _ _) (fun _ => rfl)
    (fun pre W => (∃ v, Boxed W (w.heap.size + 1) 33 v ∧ W.ownsRow (w.heap.size + 1) 3 1 v pre.length (vsym pre) ∧ (v = .slice none 0 0 ↔ pre = [])) ∧ Below (w.heap.size + 1) w1 W)
    (fun _ _ _ => False)
    (OwnFrom.and (Own.from (holdsRow_own (w.heap.size + 1) (w.heap.size + 1) 33 3 1 (fun pre => pre.length) (fun pre => vsym pre) (fun pre v => v = .slice none 0 0 ↔ pre = [])) _) (ownFrom_below (by omega) (by rw [hz3]; omega)))
    (fun _ _ _ _ _ hs _ _ => hs)
    ⟨⟨_, bS.alloc _, World.ownsRow_nil _ _ _ _, by simp⟩, hB0⟩
    (fun x => { tmps := #[.slice (some ⟨b, off, none⟩) ls.length cap, .pointer (some ⟨w.heap.size, 0, none⟩), .slice none 0 0, .pointer (some ⟨w.heap.size + 1, 0, none⟩), .int .i64 (x.1 : Int), .slice (some ⟨b, off, none⟩) ls.length cap, .func (.func 211) #[] #[.pointer (some ⟨w.heap.size + 1 + 1, 0, none⟩)], .int .i64 (x.1 : Int), .int .i64 (x.2 : Int), undef, undef, undef, undef, undef, undef, undef], defers := [] }) ?assign ?body ?done ?stop
  case assign =>
    intro l x W K hK
    gi_wp2
    exact hK
  case body =>
    rintro l pre x W ⟨⟨v, hv, hrow, hnil⟩, hB⟩ hlt
    have hc := hv.cell
    have hsz := hB.size
    have hW : w.heap.size + 1 ≤ W.heap.size := by omega
    have hi := HI.out
    gi_wp2_with (gi_at_builtin; refine wpListIn_append_own _ rfl _ _ 33 rfl (w.heap.size + 1) 3 i0 (.int .i64 0) 1 8 Tryz.underlying33 hi hz0 hz1 hz2 rfl (by decide) _ _ _ rfl (hrow.alloc _) ⟨W.heap.size, 0, none⟩ 1 1 [.int .i64 (x.1 : Int)] rfl rfl (cell_one_new _ _ _) (by simp [Value.oneCell']) (by unfold maxLen; omega) (by omega) (by simp; omega) ?_; intro v' w1 hown' hgrow _; obtain ⟨g', cap', rfl⟩ := ownsRow_succ hown'; obtain ⟨hv1, hv2, hr2, hk2, hb2⟩ := hv.appended (by decide) hrow hW (Nat.le_refl _) hown' hgrow; have hc1 := hv1.cell; have hf1 := hv1.frozen)
    exact ⟨hk2.from _, hb2, ⟨_, hv2, by simpa [vsym] using hr2, by simp⟩, hB.trans hb2⟩
  case done =>
    rintro D ys W hD rfl ⟨⟨v, hv, hrow, hnil⟩, hB⟩ hK
    have hc := hv.cell
    rw [hz3] at hD
    have hDW : D < W.heap.size := (Array.getElem?_eq_some_iff.1 hK).1
    have hsz := hB.size
    rcases hrow.2 with ⟨rfl, h0⟩ | ⟨g, cap2, cur, rfl, hbg, hgb, hle, _⟩
    · have he : usedTo ls ls.length = [] := hnil.1 rfl
      have hu : Hf.usedL ls ls.length = [] := by rw [← usedTo_syms, he]; rfl
      have ho : Hf.ordl ls = [] := by
        have := Hf.sorted_is ls h15 0 (fun _ => 0) (fun _ => 0) (by rw [hu]; rfl) (fun i hi => by omega) (.refl _) (fun p q h1 h2 => by omega) (fun p q h1 h2 h3 => by omega)
        rw [← this]; rfl
      have HB := Lib.hid hB
      have HO := Lib.hid ho
      clear hB ho hu he hnil hrow h0 hv
      gi_wp2_with (refine ⟨trivial, ?_⟩; gi_at_call 209; refine (callsIn_wide.2 (sorted_nil _ _)).mono ?_; rintro e w2 ⟨rfl, hb2⟩)
      have hK2 : w2.heap[D]? = some (.deferred (some [])) := (hb2.block D hDW).trans hK
      have hsz2 := hb2.size
      refine ⟨by simp, .inl ⟨_, _, rfl, run_takeDeferred hK2, ?_⟩⟩
      refine ⟨_, results_tmp rfl _ _ _, _, rfl, Or.inl ⟨rfl, HO.out⟩, ?_⟩
      refine ((hB1.trans (HB.out.mono (by omega))).trans (hb2.mono (by omega))).trans ?_
      exact (Below.refl w.heap.size w2).grown (grownBy_putObj' w2 D _) (by omega) (fun k e => by cases e; omega)
    · have hlen : (usedTo ls ls.length).length = (Hf.usedL ls ls.length).length := by rw [← usedTo_syms]; simp
      have hgW : g < W.heap.size := (Array.getElem?_eq_some_iff.1 hgb).1
      have hne : D ≠ g := by
        intro e; rw [e] at hK; rw [hK] at hgb; cases hgb
      have hr : Rw W g (Hf.usedL ls ls.length).length (fun i => (Hf.usedL ls ls.length)[i]?.getD 0) := row_of_owns hrow hgW
      have hLe : Lens (w.heap.size + 1) W w.heap.size ls := by
        refine ⟨by omega, some ⟨b, off, none⟩, ls.length, cap, (hB.cell (p := ⟨w.heap.size, 0, none⟩) (by show w.heap.size < _; omega)).trans bL.cell, rfl, h288, by omega, fun _ => ?_⟩
        obtain ⟨b', off', cap', e1, e2, e3, e4, e5⟩ := ((HL.out.below hB1).below (hB.mono (by omega)))
        cases e1
        exact ⟨b, off, rfl, by omega, e5⟩
      have hul := Hf.usedL_length ls ls.length
      have hle2 : (Hf.usedL ls ls.length).length ≤ cap2 := by omega
      have HC := sorted_any (w.heap.size + 1) g cap2 _ w.heap.size ls _ W hr (by omega) hbg hLe (Hf.used_ris ls ls.length) (fun i hi => by
        show (Hf.usedL ls ls.length)[i]?.getD 0 < _
        rw [List.getElem?_eq_getElem hi]
        exact ((Hf.mem_usedL ls ls.length _).1 (List.getElem_mem hi)).1)
      have HB := Lib.hid hB
      have HN := Lib.hid hne
      clear hB hnil hrow hv hr hLe hne hgb
      rw [hlen] at hc
      gi_wp2_with (refine ⟨trivial, ?_⟩; gi_at_call 209; refine (callsIn_wide.2 HC).mono ?_; rintro e w2 ⟨rfl, d', hr2, hs2, ho2⟩)
      have hK2 : w2.heap[D]? = some (.deferred (some [])) := (ho2.block D hDW HN.out).trans hK
      have fin := ord_fin h15 hs1 hB1 HB.out hbg hgW (by omega) hDW HN.out hle2 hr2 hs2 ho2 (.deferred none)
      refine ⟨by simp, .inl ⟨_, _, rfl, run_takeDeferred hK2, ?_⟩⟩
      refine ⟨_, results_tmp rfl _ _ _, ?_⟩
      exact ⟨_, rfl, fin.1, fin.2⟩
  case stop =>
    rintro D c pre W _ _ h _
    exact h.elim

theorem ordered_any (sv : Value) (ls : List Nat) (w : World) (hL : Lsl w.heap.size w sv ls) (h15 : ∀ i, i < ls.length → Hf.ln ls i ≤ 15) :
    Calls Tryz.prog 191 #[sv] w (OrdPost w ls) := callsIn_wide.1 (ordered_in 3 (Nat.le_refl _) sv ls w hL h15)
end Go.Proofs.YtnjlljdbghcobaaGreatDoor
