/- A range over an iterator that makes two blocks ahead of its first round and turns them between rounds: a law for the caller. (The kit's laws ask the iterator to turn nothing that holds cells.) -/
import Derived.Test.YtghoajhfndnafaaMem
import Derived.RangeFuncNested
import Derived.RangeFuncBound
import Derived.RangeFuncCalls
import Derived.RangeFuncLeaves
import Derived.RangeFuncBox
import Derived.Shelf.Abstract
import Derived.Shelf.RegionOpen
import Derived.WalkKit
import Derived.OwnWalkIn
import Derived.TacticsInMore
import Derived.LoopNIn
import Derived.LoopIn
import Derived.Maps.AppendAt

namespace Go.Proofs.Ytghoajhfndnafaa
set_option maxRecDepth 100000
open Go.RowKit Go.Shelf

/-- Of what was there, at most the m blocks from b on have turned. -/
structure Lo (b m : Nat) (A B : World) : Prop where
  os : B.os = A.os
  tape : B.tape = A.tape
  output : B.output = A.output
  size : A.heap.size ≤ B.heap.size
  block : ∀ k, k < A.heap.size → (k < b ∨ b + m ≤ k) → B.heap[k]? = A.heap[k]?
theorem Lo.refl (b m : Nat) (A : World) : Lo b m A A := ⟨rfl, rfl, rfl, Nat.le_refl _, fun _ _ _ => rfl⟩
theorem Lo.trans {b m : Nat} {A B C : World} (h : Lo b m A B) (k : Lo b m B C) : Lo b m A C :=
  ⟨k.os.trans h.os, k.tape.trans h.tape, k.output.trans h.output, Nat.le_trans h.size k.size, fun i hi hb => (k.block i (Nat.lt_of_lt_of_le hi h.size) hb).trans (h.block i hi hb)⟩
theorem Lo.wide {b m c n : Nat} {A B : World} (h : Lo b m A B) (h1 : c ≤ b) (h2 : b + m ≤ c + n) : Lo c n A B :=
  ⟨h.os, h.tape, h.output, h.size, fun k hk hb => h.block k hk (by omega)⟩
theorem Lo.of_below {b m : Nat} {A B : World} (h : Below A.heap.size A B) : Lo b m A B := ⟨h.os, h.tape, h.output, h.size, fun k hk _ => h.block k hk⟩
theorem Lo.below {b m B0 : Nat} {W A B : World} (h : Lo b m A B) (hb : Below B0 W A) (hB : B0 ≤ b) (hs : B0 ≤ A.heap.size) : Below B0 W B :=
  hb.trans ⟨h.os, h.tape, h.output, h.size, fun k hk => h.block k (Nat.lt_of_lt_of_le hk hs) (Or.inl (Nat.lt_of_lt_of_le hk hB))⟩
theorem Lo.has {b m : Nat} {A B : World} (h : Lo b m A B) {k : Nat} {o : Obj} (hk : Has A k o) (hb : k < b ∨ b + m ≤ k) : Has B k o := (h.block k hk.lt hb).trans hk
theorem Lo.putObj (A : World) (k : Nat) (o : Obj) : Lo k 1 A (A.putObj k o) :=
  ⟨rfl, rfl, rfl, by simp, fun i _ hb => World.putObj_heap_other (by omega)⟩
theorem Lo.own {b m : Nat} {A B : World} (h : Lo b m A B) {base : Nat} {e : TypeId} {size : Nat} {v : Value} {n : Nat} {xs : List Value} (ho : A.ownsRow base e size v n xs) (hb : b + m ≤ base) : B.ownsRow base e size v n xs := by
  obtain ⟨h1, h2⟩ := ho
  refine ⟨h1, ?_⟩
  rcases h2 with h' | ⟨g, c, cur, h', hbg, hgc, r⟩
  · exact Or.inl h'
  · exact Or.inr ⟨g, c, cur, h', hbg, (h.block g (Array.getElem?_eq_some_iff.1 hgc).1 (Or.inr (by omega))).trans hgc, r⟩

/-- What the iterator is asked: it makes two blocks, and turns at most these; told that its yields go on, it tells one of the lists in S. -/
def SeqMade {α : Type} (F : Fence) (n : Nat) (P : Program) (g : Nat) (lb : Array Value) (encs : α → Array Value) (S : List α → Prop) (N : Nat) (w : World) : Prop :=
  ∀ (l : Nat) (J : List α → World → Prop) (W : World), Below w.heap.size w W → (∀ s A B, J s A → Lo W.heap.size 2 A B → J s B) →
    (∀ pre x W1, J pre W1 → pre.length < N → W.heap.size + 2 ≤ W1.heap.size → YieldAt F (n - 1) P l (encs x) W1 fun e W' =>
      e = .returned (.bool true) ∧ J (pre ++ [x]) W' ∧ W1.heap.size ≤ W'.heap.size ∧ ∀ k, W.heap.size ≤ k → k < W.heap.size + 2 → W'.heap[k]? = W1.heap[k]?) →
    J [] W →
    CallsIn F n P g (#[.func (.yield l) #[] #[]] ++ lb) W fun e W' => (∃ v, e = .returned v) ∧ ∃ xs, S xs ∧ J xs W'

/-- How a round's body must end. -/
def MadePost {α : Type} (b : Nat) (I : List α → World → Prop) (xs : List α) (W : World) (e : Exit) (_ : Act) (W' : World) : Prop :=
  e = .normal ∧ I xs W' ∧ W.heap.size ≤ W'.heap.size ∧ ∀ k, b ≤ k → k < b + 4 → W'.heap[k]? = W.heap[k]?

section
variable {F : Fence} {n : Nat} {P : Program}
/-- The caller's law. The loop's record, its list of deferred calls, and the iterator's two blocks are the four blocks from the heap's end on. -/
theorem range_made {α : Type} {g : Operand} {ps : Array Tmp} {assign body : Code} {Q : Exit → Act → World → Prop} {a : Act} {w : World}
    (hro : F.round = none) (h1 : 1 ≤ n) {gf : Nat} {lb : Array Value} (hg : a.eval g = .func (.func gf) #[] lb) (hFg : F.fn gf) (eg : ∀ args w, (callFunc gf args).run P w = .ok (.enter gf args) w)
    {encs : α → Array Value} {S : List α → Prop} {N : Nat} (hseq : SeqMade F (n - 1) P gf lb encs S N w) (hps : ∀ x, (encs x).size = ps.size)
    (I : List α → World → Prop) (hI : ∀ s A B, I s A → Lo w.heap.size 4 A B → I s B) (h0 : I [] w) (a₁ : α → Act)
    (hassign : ∀ (l : Nat) (x : α) (W : World) (K : Act → World → Prop), K (a₁ x) W →
      assign.wpIn (F.inRound l) (n - 1 - 1) P (Exit.then K (fun _ _ _ => False)) { tmps := (ps.zip (encs x)).foldl (fun t (p, v) => t.setIfInBounds p v) a.tmps, defers := [] } W)
    (hbody : ∀ (l : Nat) (pre : List α) (x : α) (W : World), I pre W → pre.length < N → w.heap.size + 4 ≤ W.heap.size → body.wpIn (F.inRound l) (n - 1 - 1) P (MadePost w.heap.size I (pre ++ [x]) W) (a₁ x) W)
    (hdone : ∀ (D : Nat) (xs : List α) (W : World), D = w.heap.size → S xs → I xs W → W.heap[D]? = some (.deferred (some [])) → Q .normal { a with defers := { target := .collected D, args := #[] } :: a.defers } W) :
    (Code.rangeFunc g ps assign body).wpIn F n P Q a w := by
  refine wpIn_rangeFunc fun fn hfn => ?_
  rw [hro]
  obtain ⟨b, hb⟩ : ∃ b, b = w.heap.size := ⟨_, rfl⟩
  rw [← hb] at hI hbody
  obtain ⟨rec, hrec⟩ : ∃ r : LoopState → Loop, r = fun st => { state := st, pending := none, fn, tmps := a.tmps, params := ps, assign, body, defers := w.heap.size } := ⟨_, rfl⟩
  have hW := Lo.of_below (b := b) (m := 4) (below2 w (.deferred (some [])) (.loop (rec .ready)))
  have hD := (Has.new w (.deferred (some []))).alloc (.loop (rec .ready))
  have hL := Has.new (w.alloc (.deferred (some []))) (.loop (rec .ready))
  have hbl := below2 w (.deferred (some [])) (.loop (rec .ready))
  have hsz : ((w.alloc (.deferred (some []))).alloc (.loop (rec .ready))).heap.size = b + 2 := by simp [hb]
  rw [World.size_alloc, ← hb] at hL
  rw [← hb] at hD
  have hrun : (Instr.enterLoop fn a.tmps ps assign body none).run P w = .ok (b + 1, [{ target := .collected b, args := #[] }]) ((w.alloc (.deferred (some []))).alloc (.loop (rec .ready))) := by
    rw [hrec, hb]
    exact run_enterLoop_outer _ _ _ _ _
  revert hW hD hL hbl hsz hrun
  generalize (w.alloc (.deferred (some []))).alloc (.loop (rec .ready)) = W1
  intro hW hD hL hbl hsz hrun
  refine ⟨_, _, W1, { target := .fn (.func gf) lb, args := #[.func (.yield (b + 1)) #[] #[]] }, W1, gf, #[.func (.yield (b + 1)) #[] #[]] ++ lb, W1, hrun, ?_, ?_, ?_, fun _ => h1, ?_⟩
  · simp only [resolve, hg]
    simp [go_sem]
  · intro f' hf'
    simp [Target.leads] at hf'
    subst hf'
    exact hFg
  · simp [invoke, go_sem, eg]
  · refine (hseq (b + 1) (fun pre W => I pre W ∧ Has W (b + 1) (.loop (rec .ready)) ∧ Has W b (.deferred (some []))) W1 hbl ?_ ?_ ⟨hI _ _ _ h0 hW, hL, hD⟩).mono ?_
    · rintro s A B ⟨i1, i2, i3⟩ hlo
      rw [hsz] at hlo
      exact ⟨hI _ _ _ i1 (hlo.wide (by omega) (by omega)), hlo.has i2 (Or.inl (by omega)), hlo.has i3 (Or.inl (by omega))⟩
    · rintro pre x W ⟨hi, hl, hk⟩ hlen hW2
      have hlt := hl.lt
      have hy := run_yield (P := P) (args := encs x) hl (by rw [hrec]; exact hps x)
      rw [hrec] at hy
      refine ⟨fn, _, assign, body, hy, roundIn_of_wpIn hfn (hassign _ x W _ ⟨_, run_beginRound hl (by rw [hrec]), ?_⟩)⟩
      obtain ⟨busy, hbusy⟩ : ∃ r : Loop, r = { rec .ready with state := .busy } := ⟨_, rfl⟩
      rw [← hbusy]
      have l1 : Has (W.putObj (b + 1) (.loop busy)) (b + 1) (.loop busy) := World.putObj_heap_same hlt
      have p1 := (Lo.putObj W (b + 1) (.loop busy))
      have hz1 : (W.putObj (b + 1) (.loop busy)).heap.size = W.heap.size := by simp
      refine wpIn_mono (hbody _ pre x _ (hI _ _ _ hi (p1.wide (by omega) (by omega))) hlen (by rw [hz1]; omega)) ?_
      rintro e a3 W3 ⟨rfl, hi3, hs3, hb3⟩
      have l3 : Has W3 (b + 1) (.loop busy) := (hb3 _ (by omega) (by omega)).trans l1
      have d3 : Has W3 b (.deferred (some [])) := (hb3 _ (by omega) (by omega)).trans ((World.putObj_heap_other (by omega)).trans hk)
      have hr := run_endRound (P := P) none l3
      have he : ({ busy with state := .ready, pending := none } : Loop) = rec .ready := by rw [hbusy, hrec]
      have p3 := Lo.putObj W3 (b + 1) (.loop (rec .ready))
      refine ⟨.bool true, W3.putObj (b + 1) (.loop (rec .ready)), ?_, rfl, ⟨hI _ _ _ hi3 (p3.wide (by omega) (by omega)), World.putObj_heap_same l3.lt, p3.has d3 (Or.inl (by omega))⟩, ?_, ?_⟩
      · rw [← he]; exact hr
      · rw [← hz1]; exact Nat.le_trans hs3 p3.size
      · intro k k1 k2
        rw [hsz] at k1 k2
        have hkk : W3.heap[k]? = W.heap[k]? := (hb3 k (by omega) (by omega)).trans (World.putObj_heap_other (by omega))
        exact (World.putObj_heap_other (by omega)).trans hkk
    · rintro e W2 ⟨⟨v, rfl⟩, xs, hS, hi, hl, hk⟩
      have hr := run_endLoop (P := P) hl (by rw [hrec]; simp)
      have hp : (rec .ready).pending = none := by rw [hrec]
      rw [hp] at hr
      refine ⟨none, _, hr, ?_⟩
      refine hdone b xs _ hb hS (hI _ _ _ hi ?_) ?_
      · exact (Lo.putObj W2 (b + 1) _).wide (by omega) (by omega)
      · exact (World.putObj_heap_other (by omega)).trans hk
end
end Go.Proofs.Ytghoajhfndnafaa
