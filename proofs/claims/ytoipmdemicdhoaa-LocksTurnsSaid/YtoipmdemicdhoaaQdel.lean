/- Locks: who holds a key holds it no more: slices.DeleteFunc. -/
import Derived.Test.YtoipmdemicdhoaaQks
import Derived.Lib.SliceRun

namespace Go.Proofs.Ytoipmdemicdhoaa
set_option maxRecDepth 100000
open Go.RowKit

/-- A list of which some places are set, one after the other. -/
def qsets (l : List Value) (o : Nat) : List Value → List Value
  | [] => l
  | v :: r => qsets (l.set o v) (o + 1) r
theorem qsets_length (vs l : List Value) (o : Nat) : (qsets l o vs).length = l.length := by
  induction vs generalizing l o with
  | nil => rfl
  | cons v r ih => simp only [qsets]; rw [ih]; simp
theorem qsets_take (vs l : List Value) (o k : Nat) (h : k ≤ o) : (qsets l o vs).take k = l.take k := by
  induction vs generalizing l o with
  | nil => rfl
  | cons v r ih =>
    simp only [qsets]
    rw [ih (l.set o v) (o + 1) (by omega), List.take_set_of_le h]
theorem qsets_all (vs l : List Value) (o : Nat) (h : o + vs.length ≤ l.length) : (qsets l o vs).take (o + vs.length) = l.take o ++ vs := by
  induction vs generalizing l o with
  | nil => simp [qsets]
  | cons v r ih =>
    simp only [qsets, List.length_cons] at h ⊢
    have := ih (l.set o v) (o + 1) (by simp; omega)
    rw [show o + (r.length + 1) = o + 1 + r.length by omega, this, List.take_add_one, List.getElem?_set_self (by omega)]
    simp [List.take_set_of_le]
theorem Has.setsQ {g : Nat} {t : TypeId} : ∀ (vs l : List Value) (o : Nat) (w : World), Has w g (.cells l.toArray t (0, 0)) → Has (w.setCells g o vs) g (.cells (qsets l o vs).toArray t (0, 0)) ∧ Only g w (w.setCells g o vs)
  | [], l, o, w, h => ⟨h, Only.refl g w⟩
  | v :: r, l, o, w, h => by
    have h1 := h.setSelf (i := o) v
    have h2 : Has (w.setCell ⟨g, o, none⟩ v) g (.cells (l.set o v).toArray t (0, 0)) := by simpa using h1
    obtain ⟨h3, h4⟩ := Has.setsQ r (l.set o v) (o + 1) _ h2
    have h5 := h4.size
    have h6 : (w.setCell ⟨g, o, none⟩ v).heap.size = w.heap.size := by simp
    rw [h6] at h5
    exact ⟨h3, ⟨h4.os, h4.tape, h4.output, h5, fun k hk hn => (h4.block k (by simpa using hk) hn).trans (Below.heap_setCell w ⟨g, o, none⟩ v k hn)⟩⟩
/-- The first ones of a list of the call's own, when what stands behind them is set. -/
theorem own_sets {w : World} {base g cap n i size : Nat} {e : TypeId} {xs vs : List Value} (h : w.ownsRow base e size (.slice (some ⟨g, 0, none⟩) n cap) n xs) (hi : i ≤ n) :
    (w.setCells g (i * size) vs).ownsRow base e size (.slice (some ⟨g, 0, none⟩) i cap) i (xs.take (i * size)) ∧ Only g w (w.setCells g (i * size) vs) := by
  rcases h.2 with ⟨h1, _⟩ | ⟨g', cap', cur, h1, hbg, hg, hc, hm, hs, ht⟩
  · cases h1
  · cases h1
    have hh : Has w g (.cells cur.toList.toArray e (0, 0)) := by rw [Array.toArray_toList]; exact hg
    obtain ⟨h3, h4⟩ := Has.setsQ vs cur.toList (i * size) w hh
    have hle : i * size ≤ n * size := Nat.mul_le_mul_right _ hi
    refine ⟨⟨?_, Or.inr ⟨g, cap, _, rfl, hbg, h3, by omega, hm, ?_, ?_⟩⟩, h4⟩
    · rw [List.length_take, h.1]; omega
    · simp [qsets_length, hs]
    · show (qsets cur.toList (i * size) vs).take (i * size) = _
      rw [qsets_take _ _ _ _ (Nat.le_refl _), ← ht, List.take_take]
      congr 1; omega
theorem own_there {w : World} {base g cap n size : Nat} {e : TypeId} {xs : List Value} (h : w.ownsRow base e size (.slice (some ⟨g, 0, none⟩) n cap) n xs) (j : Nat) (hj : j < cap * size) : (w.cell? ⟨g, j, none⟩).isSome = true ∧ w.frozen? ⟨g, j, none⟩ = false := by
  rcases h.2 with ⟨h1, _⟩ | ⟨g', cap', cur, h1, hbg, hg, hc, hm, hs, ht⟩
  · cases h1
  · cases h1
    have hh : Has w g (.cells cur e (0, 0)) := hg
    exact ⟨by rw [hh.cell, Array.getElem?_eq_getElem (by omega)]; rfl, hh.free j⟩

/-- Who is kept, of the first j. -/
def kpt (xs : List Nat) (p j : Nat) : List Nat := (xs.take j).filter (fun h => decide (h ≠ p))
theorem kpt_succ (xs : List Nat) (p j : Nat) (h : j < xs.length) : kpt xs p (j + 1) = kpt xs p j ++ (if xs[j]?.getD 0 = p then [] else [xs[j]?.getD 0]) := by
  unfold kpt
  rw [List.take_add_one, List.filter_append, List.getElem?_eq_getElem h]
  simp only [Option.toList, Option.getD_some]
  congr 1
  by_cases he : xs[j] = p
  · simp [he]
  · simp [he]
theorem kpt_le (xs : List Nat) (p j : Nat) : (kpt xs p j).length ≤ j := by
  have h1 := List.length_filter_le (fun h => decide (h ≠ p)) (xs.take j)
  have h2 := List.length_take_le j xs
  unfold kpt
  omega
theorem kpt_all (xs : List Nat) (p j : Nat) (h : ∀ i, i < j → xs[i]?.getD 0 ≠ p) (hj : j ≤ xs.length) : kpt xs p j = xs.take j := by
  unfold kpt
  rw [List.filter_eq_self]
  intro a ha
  obtain ⟨i, hi, rfl⟩ := List.getElem_of_mem ha
  have hi2 : i < j := by rw [List.length_take] at hi; omega
  have := h i hi2
  rw [List.getElem?_eq_getElem (by omega)] at this
  simp only [List.getElem_take]
  simpa using this
theorem kpt_end (xs : List Nat) (p : Nat) : kpt xs p xs.length = xs.filter (fun h => decide (h ≠ p)) := by unfold kpt; rw [List.take_length]
/-- What lies there, when the first j were looked at. -/
def kpy (xs : List Nat) (p j : Nat) : List Nat := kpt xs p j ++ xs.drop (kpt xs p j).length
theorem kpy_length (xs : List Nat) (p j : Nat) (hj : j ≤ xs.length) : (kpy xs p j).length = xs.length := by
  have := kpt_le xs p j
  unfold kpy
  rw [List.length_append, List.length_drop]
  have := hj
  omega
theorem kpy_get (xs : List Nat) (p j : Nat) (_h : j < xs.length) : (kpy xs p j)[j]?.getD 0 = xs[j]?.getD 0 := by
  have := kpt_le xs p j
  unfold kpy
  rw [List.getElem?_append_right (by omega), List.getElem?_drop]
  congr 2; omega
theorem kpy_skip (xs : List Nat) (p j : Nat) (h : j < xs.length) (he : xs[j]?.getD 0 = p) : kpy xs p (j + 1) = kpy xs p j ∧ kpt xs p (j + 1) = kpt xs p j := by
  have := kpt_succ xs p j h
  rw [if_pos he, List.append_nil] at this
  unfold kpy
  rw [this]; exact ⟨rfl, rfl⟩
theorem kpy_keep (xs : List Nat) (p j : Nat) (h : j < xs.length) (he : xs[j]?.getD 0 ≠ p) : kpy xs p (j + 1) = (kpy xs p j).set (kpt xs p j).length (xs[j]?.getD 0) ∧ (kpt xs p (j + 1)).length = (kpt xs p j).length + 1 := by
  have h1 := kpt_succ xs p j h
  have h2 := kpt_le xs p j
  rw [if_neg he] at h1
  unfold kpy
  rw [h1]
  refine ⟨?_, by simp⟩
  rw [List.set_append_right _ _ (Nat.le_refl _), Nat.sub_self, List.drop_eq_getElem_cons (by omega : (kpt xs p j).length < xs.length), List.set_cons_zero, List.append_assoc]
  simp
theorem qn_set (xs : List Nat) (i x : Nat) : qn (xs.set i x) = (qn xs).set i (.int .i64 (x : Int)) := by simp [qn, List.map_set]

set_option maxHeartbeats 1000000 in
theorem isit_any (w : World) (B : Nat) (h p : Nat) (hc : w.cell? ⟨B, 0, none⟩ = some (.int .i64 (p : Int))) : Calls Try.prog 37 #[.int .i64 (h : Int), .pointer (some ⟨B, 0, none⟩)] w fun e w' => e = .returned (.bool (decide (h = p))) ∧ w' = w := by
  have hq : ((h : Int) == (p : Int)) = decide (h = p) := by
    by_cases e : h = p
    · subst e; simp
    · rw [decide_eq_false e, beq_eq_false_iff_ne]; omega
  go_enter Try.func37, Try.ntmps37
  go_wp2
  go_ret
  exact ⟨rfl, rfl⟩

set_option maxHeartbeats 2000000 in
theorem indexf_any (B g n cap p : Nat) (xs : List Nat) (w : World) (hB : w.cell? ⟨B, 0, none⟩ = some (.int .i64 (p : Int))) (h : w.ownsRow 0 3 1 (.slice (some ⟨g, 0, none⟩) n cap) n (qn xs)) (hl : n ≤ 1000) (hm : p ∈ xs) :
    Calls Try.prog 43 #[.slice (some ⟨g, 0, none⟩) n cap, .func (.func 37) #[] #[.pointer (some ⟨B, 0, none⟩)]] w fun e w' => (∃ k : Nat, e = .returned (.int .i64 (k : Int)) ∧ k < n ∧ xs[k]?.getD 0 = p ∧ ∀ j, j < k → xs[j]?.getD 0 ≠ p) ∧ w' = w := by
  have hlen : xs.length = n := by have := h.1; rw [qn_length] at this; omega
  have HC : Hid (∀ j, j < n → w.cell? ⟨g, j, none⟩ = some (.int .i64 ((xs[j]?.getD 0 : Nat) : Int))) := fun j hj => by
    obtain ⟨g', e, -, hc⟩ := qn_cells h (by omega)
    cases e
    exact hc j hj
  have HN : Hid (¬ ∀ j, j < n → xs[j]?.getD 0 ≠ p) := fun hh => by
    obtain ⟨j, hj, e⟩ := List.getElem_of_mem hm
    exact hh j (by omega) (by rw [List.getElem?_eq_getElem hj]; exact e)
  have hcp : n ≤ cap := by
    rcases h.2 with ⟨h1, _⟩ | ⟨g', cap', cur, h1, _, _, hc, _⟩
    · cases h1
    · cases h1; exact hc
  have HI := Lib.hid (fun h => isit_any w B h p hB)
  have eg : ∀ args w, (callFunc 37 args).run Try.prog w = .ok (.enter 37 args) w := fun _ _ => rfl
  clear h hlen hm hB
  go_enter Try.func43, Try.ntmps43
  go_wp2
  go_loopw [8] (fun i wr => ∃ k : Nat, k ≤ n ∧ i = .int .i64 k ∧ wr = w ∧ Hid (∀ j, j < k → xs[j]?.getD 0 ≠ p)) (fun i _ => n - (intOf i).toNat)
  case atStart => exact ⟨0, Nat.zero_le _, rfl, rfl, fun j hj => absurd hj (by omega)⟩
  case round =>
    obtain ⟨k, hk, rfl, rfl, HP⟩ := hrel
    by_cases hlt : k < n
    · have hcx := HC.out k hlt
      obtain ⟨x, hx⟩ : ∃ x, x = xs[k]?.getD 0 := ⟨_, rfl⟩
      rw [← hx] at hcx
      have HX := Lib.hid hx
      have HIx := Lib.hid (HI.out x)
      clear hx
      go_wp2_with fail
      refine HIx.out.mono ?_
      rintro e w' ⟨rfl, rfl⟩
      by_cases he : x = p
      · have HR : Hid (k < n ∧ xs[k]?.getD 0 = p ∧ ∀ j, j < k → xs[j]?.getD 0 ≠ p) := ⟨hlt, by rw [← HX.out]; exact he, HP.out⟩
        rw [decide_eq_true he]
        clear he
        go_wp2
        go_ret
        exact ⟨⟨_, rfl, HR.out⟩, rfl⟩
      · have HP2 : Hid (∀ j, j < k + 1 → xs[j]?.getD 0 ≠ p) := fun j hj => by
          by_cases hjk : j = k
          · subst hjk; rw [← HX.out]; exact he
          · exact HP.out j (by omega)
        rw [decide_eq_false he]
        clear he
        go_wp2
        exact ⟨⟨k + 1, by omega, by first | rfl | trivial | simp, by first | rfl | trivial, HP2⟩, by simp [intOf]; omega⟩
    · obtain rfl : k = n := by omega
      exact absurd HP.out HN.out
end Go.Proofs.Ytoipmdemicdhoaa
