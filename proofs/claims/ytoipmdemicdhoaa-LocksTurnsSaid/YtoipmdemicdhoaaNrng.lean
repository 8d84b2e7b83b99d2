/- A range over an iterator that only makes memory of its own, and whose body writes only what was there ahead of the loop: a law for the caller; the iterator's contract in a form without lists: its values are known ahead. -/
import Derived.Test.YtoipmdemicdhoaaMem
import Derived.RangeFuncNested
import Derived.RangeFuncBound
import Derived.RangeFuncCalls
import Derived.RangeFuncLeaves
import Derived.RangeFuncBox
import Derived.Shelf.Abstract
import Derived.Shelf.RegionOpen
import Derived.WalkKit
import Derived.OwnWalkIn
import Derived.TacticsInMore
import Derived.LoopNIn
import Derived.LoopIn

namespace Go.Proofs.Ytoipmdemicdhoaa
set_option maxRecDepth 100000
open Go.RowKit Go.Shelf

/-- Of what was there, at most the m blocks from b on have turned. -/
structure Lo (b m : Nat) (A B : World) : Prop where
  os : B.os = A.os
  tape : B.tape = A.tape
  output : B.output = A.output
  size : A.heap.size ≤ B.heap.size
  block : ∀ k, k < A.heap.size → (k < b ∨ b + m ≤ k) → B.heap[k]? = A.heap[k]?
theorem Lo.refl (b m : Nat) (A : World) : Lo b m A A := ⟨rfl, rfl, rfl, Nat.le_refl _, fun _ _ _ => rfl⟩
theorem Lo.trans {b m : Nat} {A B C : World} (h : Lo b m A B) (k : Lo b m B C) : Lo b m A C :=
  ⟨k.os.trans h.os, k.tape.trans h.tape, k.output.trans h.output, Nat.le_trans h.size k.size, fun i hi hb => (k.block i (Nat.lt_of_lt_of_le hi h.size) hb).trans (h.block i hi hb)⟩
theorem Lo.wide {b m c n : Nat} {A B : World} (h : Lo b m A B) (h1 : c ≤ b) (h2 : b + m ≤ c + n) : Lo c n A B :=
  ⟨h.os, h.tape, h.output, h.size, fun k hk hb => h.block k hk (by omega)⟩
theorem Lo.of_below {b m : Nat} {A B : World} (h : Below A.heap.size A B) : Lo b m A B := ⟨h.os, h.tape, h.output, h.size, fun k hk _ => h.block k hk⟩
theorem Lo.below {b m B0 : Nat} {W A B : World} (h : Lo b m A B) (hb : Below B0 W A) (hB : B0 ≤ b) (hs : B0 ≤ A.heap.size) : Below B0 W B :=
  hb.trans ⟨h.os, h.tape, h.output, h.size, fun k hk => h.block k (Nat.lt_of_lt_of_le hk hs) (Or.inl (Nat.lt_of_lt_of_le hk hB))⟩
theorem Lo.has {b m : Nat} {A B : World} (h : Lo b m A B) {k : Nat} {o : Obj} (hk : Has A k o) (hb : k < b ∨ b + m ≤ k) : Has B k o := (h.block k hk.lt hb).trans hk
theorem Lo.putObj (A : World) (k : Nat) (o : Obj) : Lo k 1 A (A.putObj k o) :=
  ⟨rfl, rfl, rfl, by simp, fun i _ hb => World.putObj_heap_other (by omega)⟩

/-- All that lay at block B or behind lies as it did. -/
structure Up (B : Nat) (A C : World) : Prop where
  os : C.os = A.os
  tape : C.tape = A.tape
  output : C.output = A.output
  size : A.heap.size ≤ C.heap.size
  block : ∀ k, B ≤ k → k < A.heap.size → C.heap[k]? = A.heap[k]?
theorem Up.refl (B : Nat) (A : World) : Up B A A := ⟨rfl, rfl, rfl, Nat.le_refl _, fun _ _ _ => rfl⟩
theorem Up.trans {b : Nat} {A B C : World} (h : Up b A B) (k : Up b B C) : Up b A C :=
  ⟨k.os.trans h.os, k.tape.trans h.tape, k.output.trans h.output, Nat.le_trans h.size k.size, fun i hb hi => (k.block i hb (Nat.lt_of_lt_of_le hi h.size)).trans (h.block i hb hi)⟩
theorem Up.of_below {b : Nat} {A B : World} (h : Below A.heap.size A B) : Up b A B := ⟨h.os, h.tape, h.output, h.size, fun k _ hk => h.block k hk⟩
theorem Up.mono {b c : Nat} {A B : World} (h : Up b A B) (hb : b ≤ c) : Up c A B := ⟨h.os, h.tape, h.output, h.size, fun k h1 h2 => h.block k (Nat.le_trans hb h1) h2⟩
theorem Up.has {b : Nat} {A B : World} (h : Up b A B) {k : Nat} {o : Obj} (hk : Has A k o) (hb : b ≤ k) : Has B k o := (h.block k hb hk.lt).trans hk
theorem Up.putObj {b : Nat} (A : World) (k : Nat) (o : Obj) (hk : k < b) : Up b A (A.putObj k o) := ⟨rfl, rfl, rfl, by simp, fun i hi _ => World.putObj_heap_other (by omega)⟩

theorem roundIn_wide {n m : Nat} {P : Program} {l : Nat} {f : FuncId} {tmps : Array Value} {assign body : Code} {w : World} {R : Ending → World → Prop} (h : RoundIn Fence.wide n P l f tmps assign body w R) : RoundIn Fence.wide m P l f tmps assign body w R :=
  ⟨h.1, fun c cs _ => h.2 c cs (room_wide _)⟩
theorem yield_wide {n m : Nat} {P : Program} {l : Nat} {args : Array Value} {W : World} {R : Ending → World → Prop} (h : YieldAt Fence.wide n P l args W R) : YieldAt Fence.wide m P l args W R := by
  obtain ⟨fn, tmps, assign, body, hy, hR⟩ := h
  exact ⟨fn, tmps, assign, body, hy, roundIn_wide hR⟩

/-- What a round must do, told of the values args: it goes on. -/
def Goes (P : Program) (B l : Nat) (args : Array Value) (J J' : World → Prop) : Prop :=
  ∀ W1, J W1 → B ≤ W1.heap.size → YieldAt Fence.wide 9 P l args W1 fun e W' => e = .returned (.bool true) ∧ Up B W1 W' ∧ J' W'
/-- It stops. -/
def Stops (P : Program) (B l : Nat) (args : Array Value) (J Jx : World → Prop) : Prop :=
  ∀ W1, J W1 → B ≤ W1.heap.size → YieldAt Fence.wide 9 P l args W1 fun e W' => e = .returned (.bool false) ∧ Up B W1 W' ∧ Jx W'
/-- What new memory leaves alone. -/
def Grows (B : Nat) (J : World → Prop) : Prop := ∀ A C, J A → B ≤ A.heap.size → Below A.heap.size A C → J C

/-- An iterator tells the values xs, one after the other, as long as it is told to go on. -/
def SeqFix (P : Program) (g : Nat) (first lb : Array Value) (xs : List (Array Value)) : Prop :=
  ∀ (l : Nat) (J : Nat → World → Prop) (W : World), (∀ i, Grows W.heap.size (J i)) →
    (∀ i x, xs[i]? = some x → Goes P W.heap.size l x (J i) (J (i + 1))) → J 0 W →
    Calls P g (first ++ #[.func (.yield l) #[] #[]] ++ lb) W fun e W' => (∃ v, e = .returned v) ∧ J xs.length W'
/-- .. and no more, when it is told to stop at value s. -/
def SeqStop (P : Program) (g : Nat) (first lb : Array Value) (xs : List (Array Value)) (s : Nat) : Prop :=
  ∀ (l : Nat) (J : Nat → World → Prop) (Jx : World → Prop) (W : World), (∀ i, Grows W.heap.size (J i)) → Grows W.heap.size Jx →
    (∀ i x, i < s → xs[i]? = some x → Goes P W.heap.size l x (J i) (J (i + 1))) → (∀ x, xs[s]? = some x → Stops P W.heap.size l x (J s) Jx) → J 0 W →
    Calls P g (first ++ #[.func (.yield l) #[] #[]] ++ lb) W fun e W' => (∃ v, e = .returned v) ∧ Jx W'

/-- How a round's body must end. -/
def FixPost (b : Nat) (J : World → Prop) (W : World) (e : Exit) (_ : Act) (W' : World) : Prop := e = .normal ∧ Up b W W' ∧ J W'
def RetPost (b : Nat) (J : World → Prop) (W : World) (e : Exit) (_ : Act) (W' : World) : Prop := e = .ret ∧ Up b W W' ∧ J W'

section
variable {n : Nat} {P : Program}

theorem range_fix {α : Type} {g : Operand} {ps : Array Tmp} {assign body : Code} {Q : Exit → Act → World → Prop} {a : Act} {w : World}
    {gf : Nat} {first lb : Array Value} (hg : a.eval g = .func (.func gf) first lb) (eg : ∀ args w, (callFunc gf args).run P w = .ok (.enter gf args) w)
    {encs : α → Array Value} {xs : List α} (hseq : SeqFix P gf first lb (xs.map encs)) (hps : ∀ x, (encs x).size = ps.size)
    (I : Nat → World → Prop) (hI : ∀ i A B, I i A → Lo w.heap.size 2 A B → I i B) (h0 : I 0 w) (a₁ : α → Act)
    (hassign : ∀ (l : Nat) (x : α) (W : World) (K : Act → World → Prop), K (a₁ x) W →
      assign.wpIn (Fence.wide.inRound l) 9 P (Exit.then K (fun _ _ _ => False)) { tmps := (ps.zip (encs x)).foldl (fun t (p, v) => t.setIfInBounds p v) a.tmps, defers := [] } W)
    (hbody : ∀ (l i : Nat) (x : α) (W : World), xs[i]? = some x → I i W → w.heap.size + 2 ≤ W.heap.size → body.wpIn (Fence.wide.inRound l) 9 P (FixPost w.heap.size (I (i + 1)) W) (a₁ x) W)
    (hdone : ∀ (W : World), I xs.length W → W.heap[w.heap.size]? = some (.deferred (some [])) → Q .normal { a with defers := { target := .collected w.heap.size, args := #[] } :: a.defers } W) :
    (Code.rangeFunc g ps assign body).wpIn Fence.wide n P Q a w := by
  refine wpIn_rangeFunc fun fn hfn => ?_
  obtain ⟨b, hb⟩ : ∃ b, b = w.heap.size := ⟨_, rfl⟩
  rw [← hb] at hI hbody hdone
  obtain ⟨rec, hrec⟩ : ∃ r : LoopState → Loop, r = fun st => { state := st, pending := none, fn, tmps := a.tmps, params := ps, assign, body, defers := w.heap.size } := ⟨_, rfl⟩
  have hW := Lo.of_below (b := b) (m := 2) (below2 w (.deferred (some [])) (.loop (rec .ready)))
  have hD := (Has.new w (.deferred (some []))).alloc (.loop (rec .ready))
  have hL := Has.new (w.alloc (.deferred (some []))) (.loop (rec .ready))
  have hsz : ((w.alloc (.deferred (some []))).alloc (.loop (rec .ready))).heap.size = b + 2 := by simp [hb]
  rw [World.size_alloc, ← hb] at hL
  rw [← hb] at hD
  have hrun : (Instr.enterLoop fn a.tmps ps assign body none).run P w = .ok (b + 1, [{ target := .collected b, args := #[] }]) ((w.alloc (.deferred (some []))).alloc (.loop (rec .ready))) := by
    rw [hrec, hb]
    exact run_enterLoop_outer _ _ _ _ _
  revert hW hD hL hsz hrun
  generalize (w.alloc (.deferred (some []))).alloc (.loop (rec .ready)) = W1
  intro hW hD hL hsz hrun
  refine ⟨_, _, W1, { target := .fn (.func gf) lb, args := first ++ #[.func (.yield (b + 1)) #[] #[]] }, W1, gf, first ++ #[.func (.yield (b + 1)) #[] #[]] ++ lb, W1, hrun, ?_, ?_, ?_, fun q => (by simp [Fence.wide] at q), ?_⟩
  · simp only [resolve, hg]
    simp [go_sem]
  · intro f' hf'
    trivial
  · simp [invoke, go_sem, eg]
  · refine callsIn_wide.2 ((hseq (b + 1) (fun i W => I i W ∧ Has W (b + 1) (.loop (rec .ready)) ∧ Has W b (.deferred (some []))) W1 ?_ ?_ ⟨hI _ _ _ h0 hW, hL, hD⟩).mono ?_)
    · rintro i A C ⟨i1, i2, i3⟩ hsz2 hbl
      exact ⟨hI _ _ _ i1 (Lo.of_below hbl), i2.later hbl, i3.later hbl⟩
    · rintro i x' hx' W ⟨hi, hl, hk⟩ hW2
      rw [hsz] at hW2
      rw [List.getElem?_map] at hx'
      obtain ⟨x, hx, rfl⟩ := Option.map_eq_some_iff.1 hx'
      have hlt := hl.lt
      have hy := run_yield (P := P) (args := encs x) hl (by rw [hrec]; exact hps x)
      rw [hrec] at hy
      refine ⟨fn, _, assign, body, hy, roundIn_of_wpIn hfn (hassign _ x W _ ⟨_, run_beginRound hl (by rw [hrec]), ?_⟩)⟩
      obtain ⟨busy, hbusy⟩ : ∃ r : Loop, r = { rec .ready with state := .busy } := ⟨_, rfl⟩
      rw [← hbusy]
      have l1 : Has (W.putObj (b + 1) (.loop busy)) (b + 1) (.loop busy) := World.putObj_heap_same hlt
      have p1 := (Lo.putObj W (b + 1) (.loop busy))
      have hz1 : (W.putObj (b + 1) (.loop busy)).heap.size = W.heap.size := by simp
      refine wpIn_mono (hbody _ i x _ hx (hI _ _ _ hi (p1.wide (by omega) (by omega))) (by rw [hz1]; omega)) ?_
      rintro e a3 W3 ⟨rfl, hu3, hi3⟩
      have l3 : Has W3 (b + 1) (.loop busy) := hu3.has l1 (by omega)
      have d3 : Has W3 b (.deferred (some [])) := hu3.has (p1.has hk (Or.inl (by omega))) (Nat.le_refl _)
      have hr := run_endRound (P := P) none l3
      have he : ({ busy with state := .ready, pending := none } : Loop) = rec .ready := by rw [hbusy, hrec]
      have p3 := Lo.putObj W3 (b + 1) (.loop (rec .ready))
      refine ⟨.bool true, W3.putObj (b + 1) (.loop (rec .ready)), ?_, rfl, ?_, ⟨hI _ _ _ hi3 (p3.wide (by omega) (by omega)), World.putObj_heap_same l3.lt, p3.has d3 (Or.inl (by omega))⟩⟩
      · rw [← he]; exact hr
      · rw [hsz]
        exact ((Up.putObj W (b + 1) _ (by omega)).trans (hu3.mono (by omega))).trans (Up.putObj W3 (b + 1) _ (by omega))
    · rintro e W2 ⟨⟨v, rfl⟩, hi, hl, hk⟩
      rw [List.length_map] at hi
      have hr := run_endLoop (P := P) hl (by rw [hrec]; simp)
      have hp : (rec .ready).pending = none := by rw [hrec]
      rw [hp] at hr
      refine ⟨none, _, hr, ?_⟩
      subst hb
      exact hdone _ (hI _ _ _ hi ((Lo.putObj W2 (w.heap.size + 1) _).wide (by omega) (by omega))) ((World.putObj_heap_other (by omega)).trans hk)

/-- .. where a round returns. -/
theorem range_ret {α : Type} {g : Operand} {ps : Array Tmp} {assign body : Code} {Q : Exit → Act → World → Prop} {a : Act} {w : World}
    {gf : Nat} {first lb : Array Value} (hg : a.eval g = .func (.func gf) first lb) (eg : ∀ args w, (callFunc gf args).run P w = .ok (.enter gf args) w)
    {encs : α → Array Value} {xs : List α} {s : Nat} (hseq : SeqStop P gf first lb (xs.map encs) s) (hps : ∀ x, (encs x).size = ps.size)
    (I : Nat → World → Prop) (Ix : World → Prop) (hI : ∀ i A B, I i A → Lo w.heap.size 2 A B → I i B) (hIx : ∀ A B, Ix A → Lo w.heap.size 2 A B → Ix B) (h0 : I 0 w) (a₁ : α → Act)
    (hassign : ∀ (l : Nat) (x : α) (W : World) (K : Act → World → Prop), K (a₁ x) W →
      assign.wpIn (Fence.wide.inRound l) 9 P (Exit.then K (fun _ _ _ => False)) { tmps := (ps.zip (encs x)).foldl (fun t (p, v) => t.setIfInBounds p v) a.tmps, defers := [] } W)
    (hbody : ∀ (l i : Nat) (x : α) (W : World), i < s → xs[i]? = some x → I i W → w.heap.size + 2 ≤ W.heap.size → body.wpIn (Fence.wide.inRound l) 9 P (FixPost w.heap.size (I (i + 1)) W) (a₁ x) W)
    (hlast : ∀ (l : Nat) (x : α) (W : World), xs[s]? = some x → I s W → w.heap.size + 2 ≤ W.heap.size → body.wpIn (Fence.wide.inRound l) 9 P (RetPost w.heap.size Ix W) (a₁ x) W)
    (hdone : ∀ (W : World), Ix W → W.heap[w.heap.size]? = some (.deferred (some [])) → Code.ret.wpIn Fence.wide n P Q { a with defers := { target := .collected w.heap.size, args := #[] } :: a.defers } W) :
    (Code.rangeFunc g ps assign body).wpIn Fence.wide n P Q a w := by
  refine wpIn_rangeFunc fun fn hfn => ?_
  obtain ⟨b, hb⟩ : ∃ b, b = w.heap.size := ⟨_, rfl⟩
  rw [← hb] at hI hIx hbody hlast hdone
  obtain ⟨rec, hrec⟩ : ∃ r : LoopState → Option Code → Loop, r = fun st pe => { state := st, pending := pe, fn, tmps := a.tmps, params := ps, assign, body, defers := w.heap.size } := ⟨_, rfl⟩
  have hW := Lo.of_below (b := b) (m := 2) (below2 w (.deferred (some [])) (.loop (rec .ready none)))
  have hD := (Has.new w (.deferred (some []))).alloc (.loop (rec .ready none))
  have hL := Has.new (w.alloc (.deferred (some []))) (.loop (rec .ready none))
  have hsz : ((w.alloc (.deferred (some []))).alloc (.loop (rec .ready none))).heap.size = b + 2 := by simp [hb]
  rw [World.size_alloc, ← hb] at hL
  rw [← hb] at hD
  have hrun : (Instr.enterLoop fn a.tmps ps assign body none).run P w = .ok (b + 1, [{ target := .collected b, args := #[] }]) ((w.alloc (.deferred (some []))).alloc (.loop (rec .ready none))) := by
    rw [hrec, hb]
    exact run_enterLoop_outer _ _ _ _ _
  revert hW hD hL hsz hrun
  generalize (w.alloc (.deferred (some []))).alloc (.loop (rec .ready none)) = W1
  intro hW hD hL hsz hrun
  refine ⟨_, _, W1, { target := .fn (.func gf) lb, args := first ++ #[.func (.yield (b + 1)) #[] #[]] }, W1, gf, first ++ #[.func (.yield (b + 1)) #[] #[]] ++ lb, W1, hrun, ?_, ?_, ?_, fun q => (by simp [Fence.wide] at q), ?_⟩
  · simp only [resolve, hg]
    simp [go_sem]
  · intro f' hf'
    trivial
  · simp [invoke, go_sem, eg]
  · have begin : ∀ (W : World), Has W (b + 1) (.loop (rec .ready none)) → ∀ (x : α) (R : Ending → World → Prop),
        body.wpIn (Fence.wide.inRound (b + 1)) 9 P (roundPost P (b + 1) R) (a₁ x) (W.putObj (b + 1) (.loop { rec .ready none with state := .busy })) → YieldAt Fence.wide 9 P (b + 1) (encs x) W R := by
      intro W hl x R hbd
      have hy := run_yield (P := P) (args := encs x) hl (by rw [hrec]; exact hps x)
      rw [hrec] at hy
      exact ⟨fn, _, assign, body, hy, roundIn_of_wpIn hfn (hassign _ x W _ ⟨_, run_beginRound hl (by rw [hrec]), hbd⟩)⟩
    obtain ⟨busy, hbusy⟩ : ∃ r : Loop, r = { rec .ready none with state := .busy } := ⟨_, rfl⟩
    rw [← hbusy] at begin
    refine callsIn_wide.2 ((hseq (b + 1) (fun i W => I i W ∧ Has W (b + 1) (.loop (rec .ready none)) ∧ Has W b (.deferred (some [])))
      (fun W => Ix W ∧ Has W (b + 1) (.loop (rec .done (some .ret))) ∧ Has W b (.deferred (some []))) W1 ?_ ?_ ?_ ?_ ⟨hI _ _ _ h0 hW, hL, hD⟩).mono ?_)
    · rintro i A C ⟨i1, i2, i3⟩ hsz2 hbl
      exact ⟨hI _ _ _ i1 (Lo.of_below hbl), i2.later hbl, i3.later hbl⟩
    · rintro A C ⟨i1, i2, i3⟩ hsz2 hbl
      exact ⟨hIx _ _ i1 (Lo.of_below hbl), i2.later hbl, i3.later hbl⟩
    · rintro i x' hlt2 hx' W ⟨hi, hl, hk⟩ hW2
      rw [hsz] at hW2
      rw [List.getElem?_map] at hx'
      obtain ⟨x, hx, rfl⟩ := Option.map_eq_some_iff.1 hx'
      have hlt := hl.lt
      refine begin W hl x _ ?_
      have l1 : Has (W.putObj (b + 1) (.loop busy)) (b + 1) (.loop busy) := World.putObj_heap_same hlt
      have p1 := (Lo.putObj W (b + 1) (.loop busy))
      have hz1 : (W.putObj (b + 1) (.loop busy)).heap.size = W.heap.size := by simp
      refine wpIn_mono (hbody _ i x _ hlt2 hx (hI _ _ _ hi (p1.wide (by omega) (by omega))) (by rw [hz1]; omega)) ?_
      rintro e a3 W3 ⟨rfl, hu3, hi3⟩
      have l3 : Has W3 (b + 1) (.loop busy) := hu3.has l1 (by omega)
      have d3 : Has W3 b (.deferred (some [])) := hu3.has (p1.has hk (Or.inl (by omega))) (Nat.le_refl _)
      have hr := run_endRound (P := P) none l3
      have he : ({ busy with state := .ready, pending := none } : Loop) = rec .ready none := by rw [hbusy, hrec]
      have p3 := Lo.putObj W3 (b + 1) (.loop (rec .ready none))
      refine ⟨.bool true, W3.putObj (b + 1) (.loop (rec .ready none)), ?_, rfl, ?_, ⟨hI _ _ _ hi3 (p3.wide (by omega) (by omega)), World.putObj_heap_same l3.lt, p3.has d3 (Or.inl (by omega))⟩⟩
      · rw [← he]; exact hr
      · rw [hsz]
        exact ((Up.putObj W (b + 1) _ (by omega)).trans (hu3.mono (by omega))).trans (Up.putObj W3 (b + 1) _ (by omega))
    · rintro x' hx' W ⟨hi, hl, hk⟩ hW2
      rw [hsz] at hW2
      rw [List.getElem?_map] at hx'
      obtain ⟨x, hx, rfl⟩ := Option.map_eq_some_iff.1 hx'
      have hlt := hl.lt
      refine begin W hl x _ ?_
      have l1 : Has (W.putObj (b + 1) (.loop busy)) (b + 1) (.loop busy) := World.putObj_heap_same hlt
      have p1 := (Lo.putObj W (b + 1) (.loop busy))
      have hz1 : (W.putObj (b + 1) (.loop busy)).heap.size = W.heap.size := by simp
      refine wpIn_mono (hlast _ x _ hx (hI _ _ _ hi (p1.wide (by omega) (by omega))) (by rw [hz1]; omega)) ?_
      rintro e a3 W3 ⟨rfl, hu3, hi3⟩
      have l3 : Has W3 (b + 1) (.loop busy) := hu3.has l1 (by omega)
      have d3 : Has W3 b (.deferred (some [])) := hu3.has (p1.has hk (Or.inl (by omega))) (Nat.le_refl _)
      have hr := run_endRound (P := P) (some .ret) l3
      have he : ({ busy with state := .done, pending := some .ret } : Loop) = rec .done (some .ret) := by rw [hbusy, hrec]
      have p3 := Lo.putObj W3 (b + 1) (.loop (rec .done (some .ret)))
      refine ⟨.bool false, W3.putObj (b + 1) (.loop (rec .done (some .ret))), ?_, rfl, ?_, ⟨hIx _ _ hi3 (p3.wide (by omega) (by omega)), World.putObj_heap_same l3.lt, p3.has d3 (Or.inl (by omega))⟩⟩
      · rw [← he]; exact hr
      · rw [hsz]
        exact ((Up.putObj W (b + 1) _ (by omega)).trans (hu3.mono (by omega))).trans (Up.putObj W3 (b + 1) _ (by omega))
    · rintro e W2 ⟨⟨v, rfl⟩, hi, hl, hk⟩
      have hr := run_endLoop (P := P) hl (by rw [hrec]; simp)
      have hp : (rec .done (some .ret)).pending = some .ret := by rw [hrec]
      rw [hp] at hr
      refine ⟨some .ret, _, hr, ?_⟩
      subst hb
      exact hdone _ (hIx _ _ hi ((Lo.putObj W2 (w.heap.size + 1) _).wide (by omega) (by omega))) ((World.putObj_heap_other (by omega)).trans hk)
end
end Go.Proofs.Ytoipmdemicdhoaa
