/- All locks, when one was turned; what the rounds of Free keep. -/
import Derived.Test.YtoipmdemicdhoaaQlv

namespace Go.Proofs.Ytoipmdemicdhoaa
set_option maxRecDepth 100000
open Go.RowKit

theorem str_ne {x S : ByteArray} (h : x ≠ S) : Value.string x ≠ Value.string S := fun e => h (by injection e)

/-- One key's lock was turned. -/
theorem LksV.upd {w w' : World} {b m n n' : Nat} {f f' : Value → Option Value} {ow : Nat → Option ByteArray} {D Of : Nat → Prop} {s : Qk.Sts} (h : LksV w b m n f ow D s) (S : ByteArray) (st : Qk.St)
    (hm : Ap Try.prog 9 w' m n' f') (hf : ∀ x, x ≠ S → f' (.string x) = f (.string x)) (ht : Tch (fun g => ow g = some S ∨ g = m) w w') (ho : ∀ g, Of g → ow g = some S ∨ w.heap.size ≤ g) (hl : ∀ g, Of g → g < w'.heap.size)
    (hS : (f' (.string S) = none ∧ st = Qk.nob) ∨ ∃ c, f' (.string S) = some (.pointer (some ⟨c, 0, none⟩)) ∧ st.hs ≠ [] ∧ Lck w' c Of st) (hg : Qk.Good st) :
    ∃ ow' D', LksV w' b m n' f' ow' D' (Qk.upd s S st) ∧ Nxt D w D' w' ∧ ∀ g, D' g → D g ∨ Of g := by
  classical
  have hbm : b ≠ m := (h.map.ne_has h.has).symm
  have hbn : ¬ (ow b = some S ∨ b = m) := by rw [h.ob]; rintro (e | e); · cases e
                                             · exact hbm e
  refine ⟨fun g => if Of g then some S else if ow g = some S then none else ow g, fun g => D g ∨ Of g, ⟨h.has.tch ht hbn, hm, fun x => ?_, fun x => ?_, ?_, ?_, Or.inl h.db, Or.inl h.dm, fun g x hx => ?_, fun g hg' => ?_⟩, ⟨?_, fun g hg' => ?_⟩, fun g hg' => hg'⟩
  · by_cases hx : x = S
    · subst hx
      rw [Qk.upd_same]
      rcases hS with hS | ⟨c, h1, h2, h3⟩
      · exact Or.inl hS
      · refine Or.inr ⟨c, h1, h2, ?_⟩
        obtain ⟨hv, rv, h3⟩ := h3
        have e : (fun g => (if Of g then some x else if ow g = some x then none else ow g) = some x) = Of := by
          funext g
          by_cases hO : Of g
          · simp [hO]
          · simp only [hO, if_false]
            by_cases h9 : ow g = some x
            · simp [h9]
            · simp [h9]
        rw [e]
        exact ⟨hv, rv, h3⟩
    · rw [Qk.upd_ne _ _ hx, hf x hx]
      rcases h.keys x with h1 | ⟨c, h1, h2, h3⟩
      · exact Or.inl h1
      · refine Or.inr ⟨c, h1, h2, ?_⟩
        have e : (fun g => (if Of g then some S else if ow g = some S then none else ow g) = some x) = fun g => ow g = some x := by
          funext g
          by_cases hO : Of g
          · simp only [hO, if_true]
            have : ow g ≠ some x := by
              rcases ho g hO with h9 | h9
              · rw [h9]; intro e; injection e with e; exact hx e.symm
              · intro e; have := h.lt g (h.dow g x e); omega
            have h8 : ¬ (some S = some x) := by intro e; injection e with e; exact hx e.symm
            simp [this, h8]
          · simp only [hO, if_false]
            by_cases h9 : ow g = some S
            · have h8 : ¬ (some S = some x) := by intro e; injection e with e; exact hx e.symm
              simp [h9, h8]
            · simp [h9]
        rw [e]
        exact h3.tch ht (fun g hg' => by
          rintro (h9 | h9)
          · rw [hg'] at h9; injection h9 with h9; exact hx h9
          · rw [h9, h.om] at hg'; cases hg')
  · by_cases hx : x = S
    · subst hx; rw [Qk.upd_same]; exact hg
    · rw [Qk.upd_ne _ _ hx]; exact h.good x
  · have hO : ¬ Of b := fun hO => (ho b hO).elim (fun e => by rw [h.ob] at e; cases e) (fun e => by have := h.lt b h.db; omega)
    simp [hO, h.ob]
  · have hO : ¬ Of m := fun hO => (ho m hO).elim (fun e => by rw [h.om] at e; cases e) (fun e => by have := h.lt m h.dm; omega)
    simp [hO, h.om]
  · by_cases hO : Of g
    · exact Or.inr hO
    · simp only [hO, if_false] at hx
      split at hx
      · cases hx
      · exact Or.inl (h.dow g x hx)
  · rcases hg' with hg' | hg'
    · exact Nat.lt_of_lt_of_le (h.lt g hg') ht.size
    · exact hl g hg'
  · refine ht.mono (fun g hg' => ?_)
    rcases hg' with hg' | hg'
    · exact h.dow g S hg'
    · rw [hg']; exact h.dm
  · rcases hg' with hg' | hg'
    · exact Or.inl hg'
    · rcases ho g hg' with h9 | h9
      · exact Or.inl (h.dow g S h9)
      · exact Or.inr h9

/-- What the rounds of Free keep: the lock, the iterator's boxes, the list of those who came to hold the key. -/
structure FrV (W2 : World) (O2 : Nat → Prop) (c b1 b2 BX b : Nat) (st : Qk.St) (xs : List Nat) (O : Nat → Prop) (v : Value) (W : World) : Prop where
  lk : Lck W c O st
  nx : Nxt O2 W2 O W
  h1 : Has W b1 (.cells #[.pointer (some ⟨c, 2, none⟩)] 79 (0, 0))
  h2 : Has W b2 (.cells #[.func (.func 26) #[.pointer (some ⟨c, 0, none⟩)] #[]] 71 (0, 0))
  hb : Has W BX (.cells #[v] 32 (0, 0))
  own : W.ownsRow W2.heap.size 3 1 v xs.length (qn xs)
  nv : ∀ g, v.ownBlock = some g → ¬ O g ∧ g ≠ b ∧ g ≠ b + 1
  n1 : ¬ O b1
  n2 : ¬ O b2
  nB : ¬ O BX
  nb : ¬ O b
  nb' : ¬ O (b + 1)

theorem FrV.lo {W2 : World} {O2 O : Nat → Prop} {c b1 b2 BX b : Nat} {st : Qk.St} {xs : List Nat} {v : Value} {A B : World} (h : FrV W2 O2 c b1 b2 BX b st xs O v A) (hl : Lo b 2 A B) (hW : W2.heap.size ≤ b) (h1 : b1 < b) (h2 : b2 < b) (hB : BX < b) : FrV W2 O2 c b1 b2 BX b st xs O v B := by
  have hne : ∀ g, O g → g < b ∨ b + 2 ≤ g := fun g hg => by
    have e1 : g ≠ b := fun e => h.nb (e ▸ hg)
    have e2 : g ≠ b + 1 := fun e => h.nb' (e ▸ hg)
    omega
  have ht : Tch (fun g => b ≤ g ∧ g < b + 2) A B := ⟨hl.os, hl.tape, hl.output, hl.size, fun k hk hn => hl.block k hk (by omega)⟩
  refine ⟨h.lk.tch ht (fun g hg => by have := hne g hg; omega), ⟨⟨hl.os.trans h.nx.tch.os, hl.tape.trans h.nx.tch.tape, hl.output.trans h.nx.tch.output, Nat.le_trans h.nx.tch.size hl.size, fun k hk hn => ?_⟩, h.nx.new⟩, hl.has h.h1 (Or.inl h1), hl.has h.h2 (Or.inl h2), hl.has h.hb (Or.inl hB), qo_same h.own (fun g hg => hl.block g (World.ownsRow.lt h.own g hg).2 (by have := h.nv g hg; omega)), h.nv, h.n1, h.n2, h.nB, h.nb, h.nb'⟩
  rw [hl.block k (Nat.lt_of_lt_of_le hk h.nx.tch.size) (Or.inl (by omega))]
  exact h.nx.tch.block k hk hn

theorem FrV.go {W2 : World} {O2 O O' : Nat → Prop} {c b1 b2 BX b : Nat} {st st' : Qk.St} {xs : List Nat} {v : Value} {A B : World} (h : FrV W2 O2 c b1 b2 BX b st xs O v A) (hk : Lck B c O' st') (hn : Nxt O A O' B) (hb : b + 2 ≤ A.heap.size) : FrV W2 O2 c b1 b2 BX b st' xs O' v B :=
  ⟨hk, h.nx.trans hn, hn.has h.h1 h.n1, hn.has h.h2 h.n2, hn.has h.hb h.nB, qo_same h.own (fun g hg => hn.tch.block g (World.ownsRow.lt h.own g hg).2 (h.nv g hg).1), fun g hg => ⟨hn.not (World.ownsRow.lt h.own g hg).2 (h.nv g hg).1, (h.nv g hg).2⟩,
    hn.not h.h1.lt h.n1, hn.not h.h2.lt h.n2, hn.not h.hb.lt h.nB, hn.not (by omega) h.nb, hn.not (by omega) h.nb'⟩

/-- One more in the list. -/
theorem FrV.push {W2 : World} {O2 O : Nat → Prop} {c b1 b2 BX b : Nat} {st : Qk.St} {xs : List Nat} {v v' : Value} {A w2 w3 : World} (h : FrV W2 O2 c b1 b2 BX b st xs O v A) (hb : Below A.heap.size A w2) (hs : b + 2 ≤ A.heap.size) {x : Nat}
    (ho : w3.ownsRow W2.heap.size 3 1 v' (xs ++ [x]).length (qn (xs ++ [x]))) (hg : w2.grownBy w3 v.ownBlock) (hw : v'.ownBlock = v.ownBlock ∨ v'.ownBlock = some w2.heap.size) (hX : W2.heap.size ≤ BX) (hXb : BX < b) :
    FrV W2 O2 c b1 b2 BX b st (xs ++ [x]) O v' (w3.setCell ⟨BX, 0, none⟩ v') ∧ Two b A (w3.setCell ⟨BX, 0, none⟩ v') := by
  have hol : ∀ g, O g → g < A.heap.size := by
    obtain ⟨hv, rv, hV⟩ := h.lk
    exact hV.lt
  have hvX : v.ownBlock ≠ some BX := qo_ne h.own h.hb (by decide)
  have hst : ∀ k, k ≠ BX → (w3.setCell ⟨BX, 0, none⟩ v').heap[k]? = w3.heap[k]? := fun k hk => Below.heap_setCell _ ⟨BX, 0, none⟩ _ k hk
  have hkp : ∀ k, k < A.heap.size → k ≠ BX → v.ownBlock ≠ some k → (w3.setCell ⟨BX, 0, none⟩ v').heap[k]? = A.heap[k]? := fun k h1 h2 h3 =>
    (hst k h2).trans ((hg.block k (Nat.lt_of_lt_of_le h1 hb.size) (fun e => h3 e.symm)).trans (hb.block k h1))
  have hz : (w3.setCell ⟨BX, 0, none⟩ v').heap.size = w3.heap.size := by simp
  have hzl : A.heap.size ≤ w3.heap.size := Nat.le_trans hb.size hg.size
  have ht : Tch (fun g => g = BX ∨ v.ownBlock = some g) A (w3.setCell ⟨BX, 0, none⟩ v') := ⟨hg.os.trans hb.os, hg.tape.trans hb.tape, hg.output.trans hb.output, by rw [hz]; exact hzl, fun k hk hn => hkp k hk (fun e => hn (Or.inl e)) (fun e => hn (Or.inr e))⟩
  have hnO : ∀ g, O g → ¬ (g = BX ∨ v.ownBlock = some g) := fun g hO => by
    rintro (e | e)
    · exact h.nB (e ▸ hO)
    · exact (h.nv g e).1 hO
  have hb3 : Has w3 BX (.cells #[v] 32 (0, 0)) := (hg.block BX (Nat.lt_of_lt_of_le h.hb.lt hb.size) (fun e => hvX e.symm)).trans (h.hb.later hb)
  have hvX' : v'.ownBlock ≠ some BX := qo_ne ho hb3 (by decide)
  refine ⟨⟨h.lk.tch ht hnO, ⟨h.nx.tch.then ht ?_, h.nx.new⟩, h.h1.tch ht ?_, h.h2.tch ht ?_, hb3.setSelf (i := 0) v', qo_same ho (fun g hg2 => hst g (fun e => hvX' (by rw [hg2, e]))), fun g hg2 => ?_, h.n1, h.n2, h.nB, h.nb, h.nb'⟩, ⟨by rw [hz]; exact hzl, fun k h1 h2 => hkp k (by omega) (by omega) (fun e => by have := (h.nv k e).2; omega)⟩⟩
  · rintro g (e | e)
    · rw [e]; exact Or.inr hX
    · exact Or.inr (World.ownsRow.lt h.own g e).1
  · rintro (e | e)
    · have h9 : some (Obj.cells _ _ _) = some (Obj.cells _ _ _) := (show A.heap[b1]? = _ from h.h1).symm.trans (by rw [e]; exact h.hb)
      injection h9 with h9
      injection h9 with _ h9 _
      exact absurd h9 (by decide)
    · exact qo_ne h.own h.h1 (by decide) e
  · rintro (e | e)
    · have h9 : some (Obj.cells _ _ _) = some (Obj.cells _ _ _) := (show A.heap[b2]? = _ from h.h2).symm.trans (by rw [e]; exact h.hb)
      injection h9 with h9
      injection h9 with _ h9 _
      exact absurd h9 (by decide)
    · exact qo_ne h.own h.h2 (by decide) e
  · rcases hw with hw | hw
    · rw [hw] at hg2; exact h.nv g hg2
    · rw [hw] at hg2
      cases hg2
      refine ⟨fun hO => ?_, ?_, ?_⟩
      · have := hol _ hO; have := hb.size; omega
      · have := hb.size; omega
      · have := hb.size; omega
end Go.Proofs.Ytoipmdemicdhoaa
