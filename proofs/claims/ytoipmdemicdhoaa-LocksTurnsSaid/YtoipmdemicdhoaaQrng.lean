/- A range over an iterator that turns memory of the caller's between two rounds: a law for the caller. -/
import Derived.Test.YtoipmdemicdhoaaNrng

namespace Go.Proofs.Ytoipmdemicdhoaa
set_option maxRecDepth 100000
open Go.RowKit Go.Shelf

/-- What a round must do, told of the values args: it goes on. -/
def GoesT (P : Program) (B l : Nat) (args : Array Value) (J J' : World → Prop) : Prop :=
  ∀ W1, J W1 → B ≤ W1.heap.size → YieldAt Fence.wide 9 P l args W1 fun e W' => e = .returned (.bool true) ∧ W1.heap.size ≤ W'.heap.size ∧ J' W'
/-- It stops. -/
def StopsT (P : Program) (B l : Nat) (args : Array Value) (J Jx : World → Prop) : Prop :=
  ∀ W1, J W1 → B ≤ W1.heap.size → YieldAt Fence.wide 9 P l args W1 fun e W' => e = .returned (.bool false) ∧ W1.heap.size ≤ W'.heap.size ∧ Jx W'

/-- An iterator tells the values xs, one after the other, as long as what it reads lies, ahead of the i-th, as Keep i says; ahead of telling it it turns memory as T i says; at value s it is told to stop, if there is one. -/
def SeqTurn (P : Program) (g : Nat) (first lb : Array Value) (xs : List (Array Value)) (s : Nat) (Keep : Nat → World → Prop) (T : Nat → World → World → Prop) : Prop :=
  ∀ (l : Nat) (J J' : Nat → World → Prop) (Jx : World → Prop) (W : World), (∀ i, Grows W.heap.size (J i)) → (∀ i, Grows W.heap.size (J' i)) → Grows W.heap.size Jx → (∀ i W', J i W' → Keep i W') →
    (∀ i A B, i < xs.length → J i A → W.heap.size ≤ A.heap.size → T i A B → J' i B) →
    (∀ i x, i < s → xs[i]? = some x → GoesT P W.heap.size l x (J' i) (J (i + 1))) → (∀ x, xs[s]? = some x → StopsT P W.heap.size l x (J' s) Jx) → J 0 W →
    Calls P g (first ++ #[.func (.yield l) #[] #[]] ++ lb) W fun e W' => (∃ v, e = .returned v) ∧ ((xs.length ≤ s ∧ J xs.length W') ∨ (s < xs.length ∧ Jx W'))

/-- All that lay in the two blocks from b on lies there. -/
def Two (b : Nat) (A B : World) : Prop := A.heap.size ≤ B.heap.size ∧ ∀ k, b ≤ k → k < b + 2 → B.heap[k]? = A.heap[k]?
/-- How a round's body must end. -/
def GoPost (b : Nat) (J : World → Prop) (W : World) (e : Exit) (_ : Act) (W' : World) : Prop := e = .normal ∧ Two b W W' ∧ J W'
def EndPost (b : Nat) (J : World → Prop) (W : World) (e : Exit) (_ : Act) (W' : World) : Prop := e = .ret ∧ Two b W W' ∧ J W'

section
variable {n : Nat} {P : Program}

theorem range_turn {α : Type} {g : Operand} {ps : Array Tmp} {assign body : Code} {Q : Exit → Act → World → Prop} {a : Act} {w : World}
    {gf : Nat} {first lb : Array Value} (hg : a.eval g = .func (.func gf) first lb) (eg : ∀ args w, (callFunc gf args).run P w = .ok (.enter gf args) w)
    {encs : α → Array Value} {xs : List α} {s : Nat} {Keep : Nat → World → Prop} {T : Nat → World → World → Prop} (hseq : SeqTurn P gf first lb (xs.map encs) s Keep T) (hps : ∀ x, (encs x).size = ps.size)
    (I I' : Nat → World → Prop) (Ix : World → Prop) (hKp : ∀ i W, I i W → Keep i W)
    (hI : ∀ i A B, I i A → Lo w.heap.size 2 A B → I i B) (hI' : ∀ i A B, I' i A → Lo w.heap.size 2 A B → I' i B) (hIx : ∀ A B, Ix A → Lo w.heap.size 2 A B → Ix B)
    (hT : ∀ i A B, i < xs.length → I i A → w.heap.size + 2 ≤ A.heap.size → T i A B → I' i B ∧ Two w.heap.size A B)
    (h0 : I 0 w) (a₁ : α → World → Act) (asg : α → World → World) (hasg : ∀ x W, Below W.heap.size W (asg x W))
    (hassign : ∀ (l : Nat) (x : α) (W : World) (K : Act → World → Prop), K (a₁ x W) (asg x W) →
      assign.wpIn (Fence.wide.inRound l) 9 P (Exit.then K (fun _ _ _ => False)) { tmps := (ps.zip (encs x)).foldl (fun t (p, v) => t.setIfInBounds p v) a.tmps, defers := [] } W)
    (hbody : ∀ (l i : Nat) (x : α) (W0 W : World), i < s → xs[i]? = some x → I' i W0 → I' i W → w.heap.size + 2 ≤ W0.heap.size → Lo w.heap.size 2 (asg x W0) W → body.wpIn (Fence.wide.inRound l) 9 P (GoPost w.heap.size (I (i + 1)) W) (a₁ x W0) W)
    (hlast : ∀ (l : Nat) (x : α) (W0 W : World), xs[s]? = some x → I' s W0 → I' s W → w.heap.size + 2 ≤ W0.heap.size → Lo w.heap.size 2 (asg x W0) W → body.wpIn (Fence.wide.inRound l) 9 P (EndPost w.heap.size Ix W) (a₁ x W0) W)
    (hdone : ∀ (W : World), xs.length ≤ s → I xs.length W → W.heap[w.heap.size]? = some (.deferred (some [])) → Q .normal { a with defers := { target := .collected w.heap.size, args := #[] } :: a.defers } W)
    (hret : ∀ (W : World), s < xs.length → Ix W → W.heap[w.heap.size]? = some (.deferred (some [])) → Code.ret.wpIn Fence.wide n P Q { a with defers := { target := .collected w.heap.size, args := #[] } :: a.defers } W) :
    (Code.rangeFunc g ps assign body).wpIn Fence.wide n P Q a w := by
  refine wpIn_rangeFunc fun fn hfn => ?_
  obtain ⟨b, hb⟩ : ∃ b, b = w.heap.size := ⟨_, rfl⟩
  rw [← hb] at hI hI' hIx hT hbody hlast hdone hret
  obtain ⟨rec, hrec⟩ : ∃ r : LoopState → Option Code → Loop, r = fun st pe => { state := st, pending := pe, fn, tmps := a.tmps, params := ps, assign, body, defers := w.heap.size } := ⟨_, rfl⟩
  have hW := Lo.of_below (b := b) (m := 2) (below2 w (.deferred (some [])) (.loop (rec .ready none)))
  have hD := (Has.new w (.deferred (some []))).alloc (.loop (rec .ready none))
  have hL := Has.new (w.alloc (.deferred (some []))) (.loop (rec .ready none))
  have hsz : ((w.alloc (.deferred (some []))).alloc (.loop (rec .ready none))).heap.size = b + 2 := by simp [hb]
  rw [World.size_alloc, ← hb] at hL
  rw [← hb] at hD
  have hrun : (Instr.enterLoop fn a.tmps ps assign body none).run P w = .ok (b + 1, [{ target := .collected b, args := #[] }]) ((w.alloc (.deferred (some []))).alloc (.loop (rec .ready none))) := by
    rw [hrec, hb]
    exact run_enterLoop_outer _ _ _ _ _
  revert hW hD hL hsz hrun
  generalize (w.alloc (.deferred (some []))).alloc (.loop (rec .ready none)) = W1
  intro hW hD hL hsz hrun
  refine ⟨_, _, W1, { target := .fn (.func gf) lb, args := first ++ #[.func (.yield (b + 1)) #[] #[]] }, W1, gf, first ++ #[.func (.yield (b + 1)) #[] #[]] ++ lb, W1, hrun, ?_, ?_, ?_, fun q => (by simp [Fence.wide] at q), ?_⟩
  · simp only [resolve, hg]
    simp [go_sem]
  · intro f' hf'
    trivial
  · simp [invoke, go_sem, eg]
  · obtain ⟨busy, hbusy⟩ : ∃ r : Loop, r = { rec .ready none with state := .busy } := ⟨_, rfl⟩
    have begin : ∀ (i : Nat) (W : World), I' i W → W1.heap.size ≤ W.heap.size → Has W (b + 1) (.loop (rec .ready none)) → Has W b (.deferred (some [])) → ∀ (x : α) (R : Ending → World → Prop),
        (∀ W2, I' i W2 → W.heap.size ≤ W2.heap.size → Lo b 2 (asg x W) W2 → Has W2 (b + 1) (.loop busy) → Has W2 b (.deferred (some [])) → body.wpIn (Fence.wide.inRound (b + 1)) 9 P (roundPost P (b + 1) R) (a₁ x W) W2) → YieldAt Fence.wide 9 P (b + 1) (encs x) W R := by
      intro i W hi hs2 hl hk x R hbd
      have hba := hasg x W
      have hla := hl.later hba
      have hka := hk.later hba
      have hza := hba.size
      have hlt := hla.lt
      have hy := run_yield (P := P) (args := encs x) hl (by rw [hrec]; exact hps x)
      rw [hrec] at hy
      have l1 : Has ((asg x W).putObj (b + 1) (.loop busy)) (b + 1) (.loop busy) := World.putObj_heap_same hlt
      have p1 := (Lo.putObj (asg x W) (b + 1) (.loop busy))
      have hz1 : ((asg x W).putObj (b + 1) (.loop busy)).heap.size = (asg x W).heap.size := by simp
      refine ⟨fn, _, assign, body, hy, roundIn_of_wpIn hfn (hassign _ x W _ ⟨_, run_beginRound hla (by rw [hrec]), ?_⟩)⟩
      rw [← hbusy]
      exact hbd _ (hI' _ _ _ (hI' _ _ _ hi (Lo.of_below hba)) (p1.wide (by omega) (by omega))) (by omega) (p1.wide (by omega) (by omega)) l1 (p1.has hka (Or.inl (by omega)))
    refine callsIn_wide.2 ((hseq (b + 1) (fun i W => I i W ∧ Has W (b + 1) (.loop (rec .ready none)) ∧ Has W b (.deferred (some []))) (fun i W => I' i W ∧ Has W (b + 1) (.loop (rec .ready none)) ∧ Has W b (.deferred (some [])))
      (fun W => Ix W ∧ Has W (b + 1) (.loop (rec .done (some .ret))) ∧ Has W b (.deferred (some []))) W1 ?_ ?_ ?_ (fun i W h => hKp i W h.1) ?_ ?_ ?_ ⟨hI _ _ _ h0 hW, hL, hD⟩).mono ?_)
    · rintro i A C ⟨i1, i2, i3⟩ hsz2 hbl
      exact ⟨hI _ _ _ i1 (Lo.of_below hbl), i2.later hbl, i3.later hbl⟩
    · rintro i A C ⟨i1, i2, i3⟩ hsz2 hbl
      exact ⟨hI' _ _ _ i1 (Lo.of_below hbl), i2.later hbl, i3.later hbl⟩
    · rintro A C ⟨i1, i2, i3⟩ hsz2 hbl
      exact ⟨hIx _ _ i1 (Lo.of_below hbl), i2.later hbl, i3.later hbl⟩
    · rintro i A B hlt ⟨i1, i2, i3⟩ hsz2 hTi
      rw [List.length_map] at hlt
      rw [hsz] at hsz2
      obtain ⟨j1, j2, j3⟩ := hT i A B hlt i1 hsz2 hTi
      exact ⟨j1, (j3 (b + 1) (by omega) (by omega)).trans i2, (j3 b (by omega) (by omega)).trans i3⟩
    · rintro i x' hlt2 hx' W ⟨hi, hl, hk⟩ hW2
      rw [List.getElem?_map] at hx'
      obtain ⟨x, hx, rfl⟩ := Option.map_eq_some_iff.1 hx'
      refine begin i W hi hW2 hl hk x _ ?_
      intro W2 hi2 hs2 hlo2 l1 k1
      rw [hsz] at hW2
      refine wpIn_mono (hbody _ i x W W2 hlt2 hx hi hi2 (by omega) hlo2) ?_
      rintro e a3 W3 ⟨rfl, ⟨hu3, hu4⟩, hi3⟩
      have l3 : Has W3 (b + 1) (.loop busy) := (hu4 (b + 1) (by omega) (by omega)).trans l1
      have d3 : Has W3 b (.deferred (some [])) := (hu4 b (by omega) (by omega)).trans k1
      have hr := run_endRound (P := P) none l3
      have he : ({ busy with state := .ready, pending := none } : Loop) = rec .ready none := by rw [hbusy, hrec]
      have p3 := Lo.putObj W3 (b + 1) (.loop (rec .ready none))
      refine ⟨.bool true, W3.putObj (b + 1) (.loop (rec .ready none)), ?_, rfl, ?_, ⟨hI _ _ _ hi3 (p3.wide (by omega) (by omega)), World.putObj_heap_same l3.lt, p3.has d3 (Or.inl (by omega))⟩⟩
      · rw [← he]; exact hr
      · have := p3.size; omega
    · rintro x' hx' W ⟨hi, hl, hk⟩ hW2
      rw [List.getElem?_map] at hx'
      obtain ⟨x, hx, rfl⟩ := Option.map_eq_some_iff.1 hx'
      refine begin s W hi hW2 hl hk x _ ?_
      intro W2 hi2 hs2 hlo2 l1 k1
      rw [hsz] at hW2
      refine wpIn_mono (hlast _ x W W2 hx hi hi2 (by omega) hlo2) ?_
      rintro e a3 W3 ⟨rfl, ⟨hu3, hu4⟩, hi3⟩
      have l3 : Has W3 (b + 1) (.loop busy) := (hu4 (b + 1) (by omega) (by omega)).trans l1
      have d3 : Has W3 b (.deferred (some [])) := (hu4 b (by omega) (by omega)).trans k1
      have hr := run_endRound (P := P) (some .ret) l3
      have he : ({ busy with state := .done, pending := some .ret } : Loop) = rec .done (some .ret) := by rw [hbusy, hrec]
      have p3 := Lo.putObj W3 (b + 1) (.loop (rec .done (some .ret)))
      refine ⟨.bool false, W3.putObj (b + 1) (.loop (rec .done (some .ret))), ?_, rfl, ?_, ⟨hIx _ _ hi3 (p3.wide (by omega) (by omega)), World.putObj_heap_same l3.lt, p3.has d3 (Or.inl (by omega))⟩⟩
      · rw [← he]; exact hr
      · have := p3.size; omega
    · rintro e W2 ⟨⟨v, rfl⟩, ⟨hle, hi, hl, hk⟩ | ⟨hlt, hi, hl, hk⟩⟩
      · rw [List.length_map] at hle hi
        have hr := run_endLoop (P := P) hl (by rw [hrec]; simp)
        have hp : (rec .ready none).pending = none := by rw [hrec]
        rw [hp] at hr
        refine ⟨none, _, hr, ?_⟩
        subst hb
        exact hdone _ hle (hI _ _ _ hi ((Lo.putObj W2 (w.heap.size + 1) _).wide (by omega) (by omega))) ((World.putObj_heap_other (by omega)).trans hk)
      · rw [List.length_map] at hlt
        have hr := run_endLoop (P := P) hl (by rw [hrec]; simp)
        have hp : (rec .done (some .ret)).pending = some .ret := by rw [hrec]
        rw [hp] at hr
        refine ⟨some .ret, _, hr, ?_⟩
        subst hb
        exact hret _ hlt (hIx _ _ hi ((Lo.putObj W2 (w.heap.size + 1) _).wide (by omega) (by omega))) ((World.putObj_heap_other (by omega)).trans hk)

end
end Go.Proofs.Ytoipmdemicdhoaa
