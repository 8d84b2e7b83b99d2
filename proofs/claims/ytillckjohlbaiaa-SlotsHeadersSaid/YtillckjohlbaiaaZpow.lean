/- What a commit does, and what a crash leaves of it. Plain. -/
import Derived.Test.YtillckjohlbaiaaZplain

namespace Go.Proofs.Ytillckjohlbaiaa
set_option maxRecDepth 100000

namespace Ek
theorem settle_off (s : Nat → List Nat) (l : List (Nat × List Nat)) (keep : Nat → Int) (k i : Nat) (h : ∀ p ∈ l, p.1 ≠ i) : settleTo s l keep k i = s i := by
  induction k with
  | zero => rfl
  | succ k ih =>
    simp only [settleTo]
    cases e : l[k]? with
    | none => exact ih
    | some p =>
      show lay _ _ _ _ i = s i
      unfold lay
      rw [if_neg (fun q => h p (List.mem_of_getElem? e) q.symm)]
      exact ih
theorem change_out {d : Dk} (h : d.left = 0) : (change d).dark = true ∧ changeE d = 6 := by
  unfold change changeE
  rw [if_pos (Or.inr h), if_pos (Or.inr h)]
  exact ⟨rfl, rfl⟩
theorem change_on {d : Dk} (h : d.dark = false) (h0 : d.left ≠ 0) : changeE d = 0 ∧ (change d).dark = false ∧ (-1 ≤ d.left → -1 ≤ (change d).left) ∧ (d.left = -1 → (change d).left = -1) := by
  have cn : ¬ (d.dark = true ∨ d.left = 0) := by simp [h, h0]
  refine ⟨by unfold changeE; rw [if_neg cn], ?_, ?_, ?_⟩
  · unfold change; rw [if_neg cn]; split <;> exact h
  · intro q; unfold change; rw [if_neg cn]; split
    · exact q
    · show -1 ≤ d.left - 1; omega
  · intro q; unfold change; rw [if_neg cn, if_pos q]; exact q
theorem now_clean {d : Dk} (h : d.loose = []) (i : Nat) : now d i = d.sure i := by
  unfold now lastOf; rw [h]; rfl
theorem now_settled_clean (d : Dk) (keep : Nat → Int) (i : Nat) : now (settled d keep) i = settleTo d.sure d.loose keep d.loose.length i := now_clean rfl i
theorem now_crash (d : Dk) (keep : Nat → Int) (i : Nat) : now (crash d keep) i = settleTo d.sure d.loose keep d.loose.length i := now_clean rfl i
end Ek

namespace Sk
theorem secs_length (f : Nat → List Nat) (a k : Nat) (h : ∀ i, (f i).length = 512) : (secs f a k).length = 512 * k := by
  induction k with
  | zero => rfl
  | succ k ih => simp only [secs, List.length_append, ih, h]; omega
theorem secs_same {f g : Nat → List Nat} {a k : Nat} (h : ∀ i, a ≤ i → i < a + k → f i = g i) : secs f a k = secs g a k := by
  induction k with
  | zero => rfl
  | succ k ih =>
    simp only [secs]
    rw [ih (fun i h1 h2 => h i h1 (by omega)), h (a + k) (by omega) (by omega)]
/-- What f has as a disk of n sectors: bytes and their generation. -/
def Loads (n : Nat) (f : Nat → List Nat) (b : List Nat) (g : Nat) (sl : Nat) : Prop :=
  ∃ s : St, Fits s ∧ f 0 = header s ∧ s.slot = sl ∧ sl ≤ 1 ∧ s.size ≤ room n ∧ s.gen = g ∧ bytes n f s.slot s.size = b ∧ Cr.sum 0 b = s.sum
theorem room_share (n size : Nat) (h : size ≤ room n) : (size + 511) / 512 ≤ share n := by
  unfold room at h
  split at h <;> omega
theorem Loads.same {n : Nat} {f f' : Nat → List Nat} {b : List Nat} {g sl : Nat} (h : Loads n f b g sl) (h0 : f' 0 = f 0) (hs : ∀ i, front n sl ≤ i → i < front n sl + share n → f' i = f i) : Loads n f' b g sl := by
  obtain ⟨s, h1, h2, h3, h4, h5, h6, h7, h8⟩ := h
  refine ⟨s, h1, h0.trans h2, h3, h4, h5, h6, ?_, h8⟩
  rw [← h7]
  unfold bytes
  rw [secs_same (f := f') (g := f) (fun i hi hj => hs i (by rw [← h3]; exact hi) (by have := room_share n s.size h5; rw [← h3]; omega))]
theorem Loads.told {d : Ek.Dk} {b : List Nat} {g sl : Nat} (h : Loads d.n (Ek.now d) b g sl) (hd : d.dark = false) (hn : 3 ≤ d.n) : loadE d = 0 ∧ loadB d = b ∧ loadG d = g ∧ (says d).slot = sl ∧ (says d).gen = g := by
  obtain ⟨s, h1, h2, h3, h4, h5, h6, h7, h8⟩ := h
  have e : says d = s := by unfold says; rw [h2, told_header h1]
  have e0 : loadE d = 0 := by
    unfold loadE
    rw [if_neg (by omega), if_neg (by simp [hd]), if_neg, if_neg]
    · rw [e]; unfold content; rw [h7, h8]; simp
    · rw [e, h2]
      rintro (q | q | q)
      · exact q (right_header h1)
      · omega
      · omega
  refine ⟨e0, ?_, ?_, by rw [e]; exact h3, by rw [e]; exact h6⟩
  · unfold loadB; rw [if_pos e0, e]; exact h7
  · unfold loadG; rw [if_pos e0, e]; exact h6
theorem Loads.of {d : Ek.Dk} (hok : Ek.Ok d) (h : loadE d = 0) : Loads d.n (Ek.now d) (loadB d) (loadG d) (says d).slot ∧ d.dark = false ∧ 3 ≤ d.n := by
  have h' := h
  unfold loadE at h
  by_cases c1 : d.n < 3
  · rw [if_pos c1] at h; exact absurd h (by decide)
  rw [if_neg c1] at h
  by_cases c2 : d.dark = true
  · rw [if_pos c2] at h; exact absurd h (by decide)
  rw [if_neg c2] at h
  by_cases c3 : ¬ Right (Ek.now d 0) ∨ 1 < (says d).slot ∨ room d.n < (says d).size
  · rw [if_pos c3] at h; exact absurd h (by decide)
  rw [if_neg c3] at h
  by_cases c4 : Cr.sum 0 (content d (says d).slot (says d).size) ≠ (says d).sum
  · rw [if_pos c4] at h; exact absurd h (by decide)
  have c5 : Right (Ek.now d 0) := Classical.byContradiction fun q => c3 (Or.inl q)
  have c6 : ¬ 1 < (says d).slot := fun q => c3 (Or.inr (Or.inl q))
  have c7 : ¬ room d.n < (says d).size := fun q => c3 (Or.inr (Or.inr q))
  have eB : loadB d = content d (says d).slot (says d).size := by unfold loadB; rw [if_pos h']
  have eG : loadG d = (says d).gen := by unfold loadG; rw [if_pos h']
  refine ⟨⟨says d, fits_told (Ek.now_row hok 0).2, c5, rfl, by omega, by omega, eG.symm, eB.symm, ?_⟩, by simpa using c2, by omega⟩
  rw [eB]; exact Classical.not_not.1 c4

/-- Bytes laid down piece by piece are these bytes. -/
theorem padded_take (b : List Nat) (k : Nat) (h : 512 * k < b.length) : (padded (piece b k)).take (b.length - 512 * k) = piece b k := by
  have hl := piece_length b k
  unfold padded
  by_cases h2 : b.length - 512 * k < 512
  · rw [List.take_append_of_le_length (by omega), List.take_of_length_le (by omega)]
  · rw [show 512 - (piece b k).length = 0 by omega, List.replicate_zero, List.append_nil, List.take_of_length_le (by omega)]
theorem secs_pieces (f : Nat → List Nat) (a : Nat) (b : List Nat) (hf : ∀ i, i < pieces b → f (a + i) = padded (piece b i)) (hl : ∀ i, (f i).length = 512) (k : Nat) (hk : k ≤ pieces b) : (secs f a k).take b.length = b.take (512 * k) := by
  induction k with
  | zero => simp [secs]
  | succ k ih =>
    have hp : 512 * k < b.length := by unfold pieces at hk; omega
    have hs := secs_length f a k hl
    simp only [secs]
    rw [List.take_append, hs, ih (by omega), hf k (by omega), padded_take b k hp]
    unfold piece
    rw [show 512 * (k + 1) = 512 * k + 512 by omega, List.take_add]
theorem bytes_pieces (n : Nat) (f : Nat → List Nat) (slot : Nat) (b : List Nat) (hf : ∀ i, i < pieces b → f (front n slot + i) = padded (piece b i)) (hl : ∀ i, (f i).length = 512) : bytes n f slot b.length = b := by
  unfold bytes
  rw [show (b.length + 511) / 512 = pieces b from rfl, secs_pieces f _ b hf hl _ (Nat.le_refl _), List.take_of_length_le (by unfold pieces; omega)]

/-- The writes of the first k pieces. -/
def rows (n slot : Nat) (b : List Nat) (k : Nat) : List (Nat × List Nat) := (List.range k).map fun i => (front n slot + i, padded (piece b i))
theorem rows_succ (n slot : Nat) (b : List Nat) (k : Nat) : rows n slot b (k + 1) = rows n slot b k ++ [(front n slot + k, padded (piece b k))] := by simp [rows, List.range_succ]
theorem rows_mem {n slot : Nat} {b : List Nat} {k : Nat} {p : Nat × List Nat} (h : p ∈ rows n slot b k) : ∃ i, i < k ∧ p = (front n slot + i, padded (piece b i)) := by
  simp only [rows, List.mem_map, List.mem_range] at h
  obtain ⟨i, hi, rfl⟩ := h
  exact ⟨i, hi, rfl⟩
theorem rows_length (n slot : Nat) (b : List Nat) (k : Nat) : (rows n slot b k).length = k := by simp [rows]
theorem padded_length (b : List Nat) (i : Nat) : (padded (piece b i)).length = 512 := by
  have := piece_length b i
  unfold padded; rw [List.length_append, List.length_replicate]; omega
theorem rows_row {n slot : Nat} {b : List Nat} {k : Nat} (h8 : ∀ x ∈ b, x < 256) : ∀ p ∈ rows n slot b k, Row p.2 := fun p hp => by
  obtain ⟨i, _, rfl⟩ := rows_mem hp
  exact padded_row b h8 i
theorem settle_rows (s : Nat → List Nat) (hs : ∀ i, Row (s i)) (n slot : Nat) (b : List Nat) (h8 : ∀ x ∈ b, x < 256) (m k : Nat) (hk : k ≤ m) (i : Nat) (hi : i < k) : Ek.settleTo s (rows n slot b m) (fun _ => 1) k (front n slot + i) = padded (piece b i) := by
  induction k with
  | zero => omega
  | succ k ih =>
    have e : (rows n slot b m)[k]? = some (front n slot + k, padded (piece b k)) := by
      simp only [rows, List.getElem?_map, List.getElem?_range (show k < m by omega)]; rfl
    simp only [Ek.settleTo, e]
    unfold Ek.lay
    by_cases hik : i = k
    · subst hik
      have hsh : Ek.share (front n slot + i) 1 = 512 := by unfold Ek.share; rw [if_neg (by decide), if_pos (Or.inl rfl)]
      rw [if_pos rfl, hsh, List.take_of_length_le (by rw [padded_length]; exact Nat.le_refl _)]
      rw [List.drop_of_length_le (by rw [(Ek.settle_row hs (rows_row h8) _ _ _).1]; exact Nat.le_refl _), List.append_nil]
    · rw [if_neg (by omega)]
      exact ih (by omega) (by omega)

theorem runs_one (d : Ek.Dk) (x : Step) : runs d [x] = one d x := by simp only [runs]; split <;> rfl
theorem runsE_one (d : Ek.Dk) (x : Step) : runsE d [x] = oneE d x := by
  simp only [runsE]; split
  · rename_i h; exact h.symm
  · rfl
/-- Where the first k pieces are written: all is done, or the power is gone. -/
theorem fill_runs {d : Ek.Dk} {n slot : Nat} {b : List Nat} (hn : d.n = n) (hd : d.dark = false) (hl : -1 ≤ d.left) (hsl : slot ≤ 1) (k : Nat) (hk : k ≤ share n) :
    (runsE d (fillTo n slot b k) = 0 ∧ (runs d (fillTo n slot b k)).loose = d.loose ++ rows n slot b k ∧ (runs d (fillTo n slot b k)).dark = false ∧ (runs d (fillTo n slot b k)).n = n ∧ (runs d (fillTo n slot b k)).sure = d.sure ∧ (runs d (fillTo n slot b k)).used = d.used + k ∧ -1 ≤ (runs d (fillTo n slot b k)).left ∧ (d.left = -1 → (runs d (fillTo n slot b k)).left = -1)) ∨
    (runsE d (fillTo n slot b k) = 6 ∧ (∃ m, m ≤ k ∧ (runs d (fillTo n slot b k)).loose = d.loose ++ rows n slot b m) ∧ (runs d (fillTo n slot b k)).dark = true ∧ (runs d (fillTo n slot b k)).n = n ∧ (runs d (fillTo n slot b k)).sure = d.sure ∧ (runs d (fillTo n slot b k)).used ≤ d.used + k ∧ d.left ≠ -1) := by
  induction k with
  | zero => exact Or.inl ⟨rfl, by simp [runs, fillTo, rows], hd, hn, rfl, rfl, hl, fun h => h⟩
  | succ k ih =>
    simp only [fillTo, runs_append, runsE_append]
    rcases ih (by omega) with ⟨h0, h1, h2, h3, h4, h5, h6, h7⟩ | ⟨h0, h1, h2, h3, h4, h5, h6⟩
    · generalize runs d (fillTo n slot b k) = x at h1 h2 h3 h4 h5 h6 h7
      rw [if_pos h0, if_pos h0]
      have hin : front n slot + k < n := by
        unfold front
        have : slot * share n ≤ 1 * share n := Nat.mul_le_mul_right _ hsl
        have : 1 + 2 * share n ≤ n := by unfold share at hk ⊢; omega
        omega
      have hbad : ¬ Ek.Bad x ((front n slot + k : Nat) : Int) (padded (piece b k)) := by
        unfold Ek.Bad
        rw [h3, padded_length]
        omega
      have ew : Ek.write x ((front n slot + k : Nat) : Int) (padded (piece b k)) = Ek.change (Ek.added x ((front n slot + k : Nat) : Int) (padded (piece b k))) := by
        unfold Ek.write; rw [if_neg hbad, if_neg (by simp [h2])]
      have eE : Ek.writeE x ((front n slot + k : Nat) : Int) (padded (piece b k)) = Ek.changeE x := by
        unfold Ek.writeE; rw [if_neg hbad, if_neg (by simp [h2])]
      have el : (Ek.added x ((front n slot + k : Nat) : Int) (padded (piece b k))).loose = d.loose ++ rows n slot b (k + 1) := by
        rw [rows_succ, ← List.append_assoc, ← h1]; rfl
      simp only [runs_one, runsE_one, one, oneE]
      rw [ew, eE]
      by_cases h9 : x.left = 0
      · have c1 : Ek.changeE x = 6 := (Ek.change_out h9).2
        refine Or.inr ⟨c1, ⟨k + 1, Nat.le_refl _, ?_⟩, ?_, ?_, ?_, ?_, fun q => by rw [h7 q] at h9; exact absurd h9 (by decide)⟩
        · rw [Ek.change_loose]; exact el
        · exact (Ek.change_out (d := Ek.added x _ _) h9).1
        · rw [Ek.change_n]; exact h3
        · rw [Ek.change_sure]; exact h4
        · rw [Ek.change_used]; show x.used + 1 ≤ _; omega
      · have c1 : Ek.changeE x = 0 := (Ek.change_on h2 h9).1
        obtain ⟨_, c2, c3, c4⟩ := Ek.change_on (d := Ek.added x ((front n slot + k : Nat) : Int) (padded (piece b k))) h2 h9
        refine Or.inl ⟨c1, ?_, ?_, ?_, ?_, ?_, ?_, ?_⟩
        · rw [Ek.change_loose]; exact el
        · exact c2
        · rw [Ek.change_n]; exact h3
        · rw [Ek.change_sure]; exact h4
        · rw [Ek.change_used]; show x.used + 1 = _; omega
        · exact c3 h6
        · intro q
          exact c4 (h7 q)
    · rw [if_neg (by rw [h0]; decide), if_neg (by rw [h0]; decide)]
      obtain ⟨m, hm, hm2⟩ := h1
      exact Or.inr ⟨h0, ⟨m, by omega, hm2⟩, h2, h3, h4, by omega, h6⟩
end Sk
end Go.Proofs.Ytillckjohlbaiaa
