/- Sorting numbers by a key so that what has one key stays in its order: plain facts on rows d : Nat → Nat. Nothing of the program is named here. -/


namespace Go.Proofs.YtnjlljdbghcobaaGreatDoor
set_option maxRecDepth 100000
namespace St

/-- Two places exchanged. -/
def sw (d : Nat → Nat) (i j : Nat) : Nat → Nat := fun k => if k = i then d j else if k = j then d i else d k

/-- So many exchanges between a and b. -/
inductive Swaps (a b : Nat) : (Nat → Nat) → (Nat → Nat) → Prop
  | refl (d) : Swaps a b d d
  | step {d e i j} : Swaps a b d e → a ≤ i → i < b → a ≤ j → j < b → Swaps a b d (sw e i j)

theorem Swaps.trans {a b : Nat} {d e f : Nat → Nat} (h : Swaps a b d e) (k : Swaps a b e f) : Swaps a b d f := by
  induction k with
  | refl => exact h
  | step _ h1 h2 h3 h4 ih => exact .step ih h1 h2 h3 h4
theorem Swaps.mono {a b a' b' : Nat} {d e : Nat → Nat} (h : Swaps a b d e) (ha : a' ≤ a) (hb : b ≤ b') : Swaps a' b' d e := by
  induction h with
  | refl => exact .refl _
  | step _ h1 h2 h3 h4 ih => exact .step ih (by omega) (by omega) (by omega) (by omega)
theorem Swaps.out {a b : Nat} {d e : Nat → Nat} (h : Swaps a b d e) (k : Nat) (hk : k < a ∨ b ≤ k) : e k = d k := by
  induction h with
  | refl => rfl
  | step _ h1 h2 h3 h4 ih => unfold sw; rw [if_neg (by omega), if_neg (by omega)]; exact ih
theorem Swaps.img {a b : Nat} {d e : Nat → Nat} (h : Swaps a b d e) (k : Nat) (h1 : a ≤ k) (h2 : k < b) : ∃ k', a ≤ k' ∧ k' < b ∧ e k = d k' := by
  induction h generalizing k with
  | refl => exact ⟨k, h1, h2, rfl⟩
  | @step e i j _ g1 g2 g3 g4 ih =>
    unfold sw
    by_cases hi : k = i
    · rw [if_pos hi]; exact ih j g3 g4
    · rw [if_neg hi]
      by_cases hj : k = j
      · rw [if_pos hj]; exact ih i g1 g2
      · rw [if_neg hj]; exact ih k h1 h2
theorem Swaps.back {a b : Nat} {d e : Nat → Nat} (h : Swaps a b d e) (k : Nat) (h1 : a ≤ k) (h2 : k < b) : ∃ k', a ≤ k' ∧ k' < b ∧ d k = e k' := by
  induction h with
  | refl => exact ⟨k, h1, h2, rfl⟩
  | @step e i j _ g1 g2 g3 g4 ih =>
    obtain ⟨q, q1, q2, q3⟩ := ih
    unfold sw
    by_cases hi : q = i
    · refine ⟨j, g3, g4, ?_⟩
      by_cases hj : j = i
      · rw [if_pos hj, q3, hi, hj]
      · rw [if_neg hj, if_pos rfl, q3, hi]
    · by_cases hj : q = j
      · exact ⟨i, g1, g2, by rw [if_pos rfl, q3, hj]⟩
      · exact ⟨q, q1, q2, by rw [if_neg hi, if_neg hj]; exact q3⟩
theorem Swaps.all {a b n : Nat} {d e : Nat → Nat} (h : Swaps a b d e) (hb : b ≤ n) (p : Nat → Prop) (hp : ∀ i, i < n → p (d i)) : ∀ i, i < n → p (e i) := by
  intro i hi
  by_cases hk : i < a ∨ b ≤ i
  · rw [h.out i hk]; exact hp i hi
  · obtain ⟨k, h1, h2, h3⟩ := h.img i (by omega) (by omega)
    rw [h3]; exact hp k (by omega)

/-- Sorted by the key between a and b. -/
def Srt (kf : Nat → Nat) (d : Nat → Nat) (a b : Nat) : Prop := ∀ p q, a ≤ p → p < q → q < b → kf (d p) ≤ kf (d q)
/-- What has one key rises. -/
def Ris (kf : Nat → Nat) (d : Nat → Nat) (n : Nat) : Prop := ∀ p q, p < q → q < n → kf (d p) = kf (d q) → d p < d q

theorem Srt.keep {kf d e : Nat → Nat} {a b : Nat} (h : Srt kf d a b) (he : ∀ k, a ≤ k → k < b → e k = d k) : Srt kf e a b := by
  intro p q h1 h2 h3
  rw [he p (by omega) (by omega), he q (by omega) (by omega)]
  exact h p q h1 h2 h3
theorem Srt.sub {kf d : Nat → Nat} {a b a' b' : Nat} (h : Srt kf d a b) (ha : a ≤ a') (hb : b' ≤ b) : Srt kf d a' b' := fun p q h1 h2 h3 => h p q (by omega) h2 (by omega)

/-- The insertion under way: place j is out of order, with what stands ahead alone. -/
def Ins (kf d : Nat → Nat) (a i j : Nat) : Prop := ∀ p q, a ≤ p → p < q → q ≤ i → q ≠ j → kf (d p) ≤ kf (d q)

theorem Ins.start {kf d : Nat → Nat} {a i : Nat} (h : Srt kf d a i) : Ins kf d a i i := fun p q h1 h2 h3 h4 => h p q h1 h2 (by omega)
theorem Ins.first {kf d : Nat → Nat} {a i : Nat} (h : Ins kf d a i a) : Srt kf d a (i + 1) := fun p q h1 h2 h3 => h p q h1 h2 (by omega) (by omega)
theorem Ins.stop {kf d : Nat → Nat} {a i j : Nat} (h : Ins kf d a i j) (hj : a < j) (hji : j ≤ i) (hge : ¬ kf (d j) < kf (d (j - 1))) : Srt kf d a (i + 1) := by
  intro p q h1 h2 h3
  by_cases hq : q = j
  · subst hq
    by_cases hp : p = q - 1
    · subst hp; omega
    · have := h p (q - 1) h1 (by omega) (by omega) (by omega)
      omega
  · exact h p q h1 h2 (by omega) hq
theorem Ins.step {kf d : Nat → Nat} {a i j : Nat} (h : Ins kf d a i j) (hj : a < j) (hji : j ≤ i) (hlt : kf (d j) < kf (d (j - 1))) : Ins kf (sw d j (j - 1)) a i (j - 1) := by
  intro p q h1 h2 h3 h4
  unfold sw
  have ep : p = j ∨ p = j - 1 ∨ (p ≠ j ∧ p ≠ j - 1) := by omega
  have eq : q = j ∨ (q ≠ j ∧ q ≠ j - 1) := by omega
  rcases ep with rfl | rfl | ⟨e1, e2⟩ <;> rcases eq with rfl | ⟨e3, e4⟩
  · omega
  · rw [if_pos rfl, if_neg e3, if_neg e4]; exact h _ q (by omega) (by omega) h3 e3
  · rw [if_neg (by omega), if_pos rfl, if_pos rfl]; omega
  · rw [if_neg (by omega), if_pos rfl, if_neg e3, if_neg e4]; exact h _ q (by omega) (by omega) h3 e3
  · rw [if_neg e1, if_neg e2, if_pos rfl]; exact h p _ h1 (by omega) (by omega) (by omega)
  · rw [if_neg e1, if_neg e2, if_neg e3, if_neg e4]; exact h p q h1 h2 h3 e3
theorem Ris.step {kf d : Nat → Nat} {n j : Nat} (h : Ris kf d n) (hj : 0 < j) (hjn : j < n) (hlt : kf (d j) < kf (d (j - 1))) : Ris kf (sw d j (j - 1)) n := by
  intro p q h2 h3
  unfold sw
  have ep : p = j ∨ p = j - 1 ∨ (p ≠ j ∧ p ≠ j - 1) := by omega
  have eq : q = j ∨ q = j - 1 ∨ (q ≠ j ∧ q ≠ j - 1) := by omega
  rcases ep with rfl | rfl | ⟨e1, e2⟩ <;> rcases eq with rfl | rfl | ⟨e3, e4⟩
  · omega
  · omega
  · rw [if_pos rfl, if_neg e3, if_neg e4]; exact h _ q (by omega) h3
  · rw [if_neg (by omega), if_pos rfl, if_pos rfl]; intro h4; omega
  · omega
  · rw [if_neg (by omega), if_pos rfl, if_neg e3, if_neg e4]; exact h _ q (by omega) h3
  · rw [if_neg e1, if_neg e2, if_pos rfl]; exact h p _ (by omega) (by omega)
  · rw [if_neg e1, if_neg e2, if_neg (by omega), if_pos rfl]; exact h p _ (by omega) (by omega)
  · rw [if_neg e1, if_neg e2, if_neg e3, if_neg e4]; exact h p q h2 h3

/-- Two rows of m numbers exchanged. -/
def exch (d : Nat → Nat) (a b m : Nat) : Nat → Nat := fun k => if a ≤ k ∧ k < a + m then d (k - a + b) else if b ≤ k ∧ k < b + m then d (k - b + a) else d k
theorem exch_zero (d : Nat → Nat) (a b : Nat) : exch d a b 0 = d := by
  funext k; unfold exch; rw [if_neg (by omega), if_neg (by omega)]
theorem exch_succ (d : Nat → Nat) (a b m : Nat) (h : a + m < b) : exch d a b (m + 1) = sw (exch d a b m) (a + m) (b + m) := by
  funext k; unfold sw exch
  by_cases h1 : k = a + m
  · subst h1
    rw [if_pos (by omega), if_pos rfl, if_neg (by omega), if_neg (by omega)]; congr 1; omega
  · by_cases h2 : k = b + m
    · subst h2
      rw [if_neg (by omega), if_pos (by omega), if_neg (by omega), if_pos rfl, if_neg (by omega), if_neg (by omega)]; congr 1; omega
    · rw [if_neg h1, if_neg h2]
      by_cases h3 : a ≤ k ∧ k < a + m
      · rw [if_pos (by omega), if_pos h3]
      · by_cases h4 : b ≤ k ∧ k < b + m
        · rw [if_neg (by omega), if_pos (by omega), if_neg h3, if_pos h4]
        · rw [if_neg (by omega), if_neg (by omega), if_neg h3, if_neg h4]

theorem exch_swaps (d : Nat → Nat) (a b m lo hi : Nat) (h1 : lo ≤ a) (h2 : a + m ≤ b) (h3 : b + m ≤ hi) : Swaps lo hi d (exch d a b m) := by
  induction m with
  | zero => rw [exch_zero]; exact .refl _
  | succ m ih =>
    rw [exch_succ _ _ _ _ (by omega)]
    exact .step (ih (by omega) (by omega)) (by omega) (by omega) (by omega) (by omega)

/-- What stands from m on comes ahead of what stands from a on. -/
def rot (d : Nat → Nat) (a m b : Nat) : Nat → Nat := fun k => if a ≤ k ∧ k < a + (b - m) then d (k - a + m) else if a + (b - m) ≤ k ∧ k < b then d (k - (b - m)) else d k
theorem rot_left (d : Nat → Nat) (a b : Nat) : rot d a a b = d := by
  funext k; unfold rot
  by_cases h : a ≤ k ∧ k < a + (b - a)
  · rw [if_pos h]; congr 1; omega
  · rw [if_neg h]
    by_cases h2 : a + (b - a) ≤ k ∧ k < b
    · omega
    · rw [if_neg h2]
theorem rot_right (d : Nat → Nat) (a b : Nat) : rot d a b b = d := by
  funext k; unfold rot
  rw [if_neg (by omega)]
  by_cases h : a + (b - b) ≤ k ∧ k < b
  · rw [if_pos h]; congr 1; omega
  · rw [if_neg h]
theorem rot_big (d : Nat → Nat) (m i j : Nat) (hi : i ≤ m) (h : j < i) : rot (exch d (m - i) m j) (m - i + j) m (m + j) = rot d (m - i) m (m + j) := by
  funext k; unfold rot exch
  have ek : k < m - i ∨ (m - i ≤ k ∧ k < m - i + j) ∨ (m - i + j ≤ k ∧ k < m - i + j + j) ∨ (m - i + j + j ≤ k ∧ k < m + j) ∨ m + j ≤ k := by omega
  rcases ek with e | e | e | e | e
  · rw [if_neg (by omega), if_neg (by omega), if_neg (by omega), if_neg (by omega), if_neg (by omega), if_neg (by omega)]
  · rw [if_neg (by omega), if_neg (by omega), if_pos (by omega), if_pos (by omega)]
  · rw [if_pos (by omega), if_neg (by omega), if_pos (by omega), if_neg (by omega), if_pos (by omega)]; congr 1; omega
  · rw [if_neg (by omega), if_pos (by omega), if_neg (by omega), if_neg (by omega), if_neg (by omega), if_pos (by omega)]
  · rw [if_neg (by omega), if_neg (by omega), if_neg (by omega), if_neg (by omega), if_neg (by omega), if_neg (by omega)]
theorem rot_less (d : Nat → Nat) (m i j : Nat) (hi : i ≤ m) (h : i < j) : rot (exch d (m - i) (m + j - i) i) (m - i) m (m + j - i) = rot d (m - i) m (m + j) := by
  funext k; unfold rot exch
  have ek : k < m - i ∨ (m - i ≤ k ∧ k < m - i + (j - i)) ∨ (m - i + (j - i) ≤ k ∧ k < m - i + j) ∨ (m - i + j ≤ k ∧ k < m + j) ∨ m + j ≤ k := by omega
  rcases ek with e | e | e | e | e
  · rw [if_neg (by omega), if_neg (by omega), if_neg (by omega), if_neg (by omega), if_neg (by omega), if_neg (by omega)]
  · rw [if_pos (by omega), if_neg (by omega), if_neg (by omega), if_pos (by omega)]
  · rw [if_neg (by omega), if_pos (by omega), if_pos (by omega), if_pos (by omega)]; congr 1; omega
  · rw [if_neg (by omega), if_neg (by omega), if_neg (by omega), if_pos (by omega), if_neg (by omega), if_pos (by omega)]; congr 1; omega
  · rw [if_neg (by omega), if_neg (by omega), if_neg (by omega), if_neg (by omega), if_neg (by omega), if_neg (by omega)]
theorem rot_same (d : Nat → Nat) (m i : Nat) (hi : i ≤ m) : exch d (m - i) m i = rot d (m - i) m (m + i) := by
  funext k; unfold rot exch
  have ek : k < m - i ∨ (m - i ≤ k ∧ k < m) ∨ (m ≤ k ∧ k < m + i) ∨ m + i ≤ k := by omega
  rcases ek with e | e | e | e
  · rw [if_neg (by omega), if_neg (by omega), if_neg (by omega), if_neg (by omega)]
  · rw [if_pos (by omega), if_pos (by omega)]
  · rw [if_neg (by omega), if_pos (by omega), if_neg (by omega), if_pos (by omega)]; congr 1; omega
  · rw [if_neg (by omega), if_neg (by omega), if_neg (by omega), if_neg (by omega)]

/-- Place a moved on to k; what stood between moves down. -/
def shl (d : Nat → Nat) (a k : Nat) : Nat → Nat := fun p => if a ≤ p ∧ p < k then d (p + 1) else if p = k then d a else d p
theorem shl_zero (d : Nat → Nat) (a : Nat) : shl d a a = d := by
  funext p; unfold shl; rw [if_neg (by omega)]
  by_cases h : p = a
  · rw [if_pos h, h]
  · rw [if_neg h]
theorem shl_succ (d : Nat → Nat) (a k : Nat) (h : a ≤ k) : shl d a (k + 1) = sw (shl d a k) k (k + 1) := by
  funext p; unfold sw shl
  by_cases h1 : p = k
  · subst h1; rw [if_pos (by omega), if_pos rfl, if_neg (by omega), if_neg (by omega)]
  · by_cases h2 : p = k + 1
    · subst h2; rw [if_neg (by omega), if_pos rfl, if_neg h1, if_pos rfl, if_neg (by omega), if_pos rfl]
    · rw [if_neg h1, if_neg h2]
      by_cases h3 : a ≤ p ∧ p < k
      · rw [if_pos (by omega), if_pos h3, if_neg h2]
      · rw [if_neg (by omega), if_neg (by omega), if_neg h3, if_neg h1]
/-- Place m moved down to k; what stood between moves on. -/
def shr (d : Nat → Nat) (m k : Nat) : Nat → Nat := fun p => if k < p ∧ p ≤ m then d (p - 1) else if p = k then d m else d p
theorem shr_zero (d : Nat → Nat) (m : Nat) : shr d m m = d := by
  funext p; unfold shr; rw [if_neg (by omega)]
  by_cases h : p = m
  · rw [if_pos h, h]
  · rw [if_neg h]
theorem shr_succ (d : Nat → Nat) (m k : Nat) (h : k ≤ m) (hk : 0 < k) : shr d m (k - 1) = sw (shr d m k) k (k - 1) := by
  funext p; unfold sw shr
  by_cases h1 : p = k
  · subst h1; rw [if_pos (by omega), if_pos rfl, if_neg (by omega), if_neg (by omega)]
  · by_cases h2 : p = k - 1
    · subst h2; rw [if_neg (by omega), if_pos rfl, if_neg h1, if_pos rfl, if_neg (by omega), if_pos rfl]
    · rw [if_neg h1, if_neg h2]
      by_cases h3 : k < p ∧ p ≤ m
      · rw [if_pos (by omega), if_pos h3, if_neg h2]
      · rw [if_neg (by omega), if_neg (by omega), if_neg h3, if_neg h1]

theorem shl_srt {kf d : Nat → Nat} {m b k : Nat} (hm : Srt kf d (m + 1) b) (h1 : m ≤ k) (h2 : k < b) (lo : ∀ q, m < q → q ≤ k → kf (d q) < kf (d m)) (hi : ∀ q, k < q → q < b → kf (d m) ≤ kf (d q)) : Srt kf (shl d m k) m b := by
  intro p q e1 e2 e3
  unfold shl
  have ep : (m ≤ p ∧ p < k) ∨ p = k ∨ k < p := by omega
  have eq : (m ≤ q ∧ q < k) ∨ q = k ∨ k < q := by omega
  rcases ep with e | e | e <;> rcases eq with f | f | f <;> try omega
  · rw [if_pos e, if_pos f]; exact hm _ _ (by omega) (by omega) (by omega)
  · rw [if_pos e, if_neg (by omega), if_pos f]; have := lo (p + 1) (by omega) (by omega); omega
  · rw [if_pos e, if_neg (by omega), if_neg (by omega)]; exact hm _ _ (by omega) (by omega) (by omega)
  · rw [if_neg (by omega), if_pos e, if_neg (by omega), if_neg (by omega)]; exact hi q f e3
  · rw [if_neg (by omega), if_neg (by omega), if_neg (by omega), if_neg (by omega)]; exact hm _ _ (by omega) (by omega) (by omega)
theorem shl_ris {kf d : Nat → Nat} {m n k : Nat} (hr : Ris kf d n) (h1 : m ≤ k) (h2 : k < n) (lo : ∀ q, m < q → q ≤ k → kf (d q) < kf (d m)) : Ris kf (shl d m k) n := by
  intro p q e2 e3
  unfold shl
  have ep : p < m ∨ (m ≤ p ∧ p < k) ∨ p = k ∨ k < p := by omega
  have eq : q < m ∨ (m ≤ q ∧ q < k) ∨ q = k ∨ k < q := by omega
  rcases ep with e | e | e | e <;> rcases eq with f | f | f | f <;> try omega
  · rw [if_neg (by omega), if_neg (by omega), if_neg (by omega), if_neg (by omega)]; exact hr _ _ (by omega) (by omega)
  · rw [if_neg (by omega), if_neg (by omega), if_pos f]; exact hr _ _ (by omega) (by omega)
  · rw [if_neg (by omega), if_neg (by omega), if_neg (by omega), if_pos f]; exact hr _ _ (by omega) (by omega)
  · rw [if_neg (by omega), if_neg (by omega), if_neg (by omega), if_neg (by omega)]; exact hr _ _ (by omega) (by omega)
  · rw [if_pos e, if_pos f]; exact hr _ _ (by omega) (by omega)
  · rw [if_pos e, if_neg (by omega), if_pos f]; intro h; have := lo (p + 1) (by omega) (by omega); omega
  · rw [if_pos e, if_neg (by omega), if_neg (by omega)]; exact hr _ _ (by omega) (by omega)
  · rw [if_neg (by omega), if_pos e, if_neg (by omega), if_neg (by omega)]; exact hr _ _ (by omega) (by omega)
  · rw [if_neg (by omega), if_neg (by omega), if_neg (by omega), if_neg (by omega)]; exact hr _ _ (by omega) (by omega)
theorem shr_srt {kf d : Nat → Nat} {a m k : Nat} (hm : Srt kf d a m) (h1 : a ≤ k) (h2 : k ≤ m) (lo : ∀ q, a ≤ q → q < k → kf (d q) ≤ kf (d m)) (hi : ∀ q, k ≤ q → q < m → kf (d m) < kf (d q)) : Srt kf (shr d m k) a (m + 1) := by
  intro p q e1 e2 e3
  unfold shr
  have ep : p < k ∨ p = k ∨ (k < p ∧ p ≤ m) := by omega
  have eq : q < k ∨ q = k ∨ (k < q ∧ q ≤ m) := by omega
  rcases ep with e | e | e <;> rcases eq with f | f | f <;> try omega
  · rw [if_neg (by omega), if_neg (by omega), if_neg (by omega), if_neg (by omega)]; exact hm _ _ (by omega) (by omega) (by omega)
  · rw [if_neg (by omega), if_neg (by omega), if_neg (by omega), if_pos f]; exact lo p e1 e
  · rw [if_neg (by omega), if_neg (by omega), if_pos f]; exact hm _ _ (by omega) (by omega) (by omega)
  · rw [if_neg (by omega), if_pos e, if_pos f]; have := hi (q - 1) (by omega) (by omega); omega
  · rw [if_pos e, if_pos f]; exact hm _ _ (by omega) (by omega) (by omega)
theorem shr_ris {kf d : Nat → Nat} {m n k : Nat} (hr : Ris kf d n) (h1 : k ≤ m) (h2 : m < n) (hi : ∀ q, k ≤ q → q < m → kf (d m) < kf (d q)) : Ris kf (shr d m k) n := by
  intro p q e2 e3
  unfold shr
  have ep : p < k ∨ p = k ∨ (k < p ∧ p ≤ m) ∨ m < p := by omega
  have eq : q < k ∨ q = k ∨ (k < q ∧ q ≤ m) ∨ m < q := by omega
  rcases ep with e | e | e | e <;> rcases eq with f | f | f | f <;> try omega
  · rw [if_neg (by omega), if_neg (by omega), if_neg (by omega), if_neg (by omega)]; exact hr _ _ (by omega) (by omega)
  · rw [if_neg (by omega), if_neg (by omega), if_neg (by omega), if_pos f]; exact hr _ _ (by omega) (by omega)
  · rw [if_neg (by omega), if_neg (by omega), if_pos f]; exact hr _ _ (by omega) (by omega)
  · rw [if_neg (by omega), if_neg (by omega), if_neg (by omega), if_neg (by omega)]; exact hr _ _ (by omega) (by omega)
  · rw [if_neg (by omega), if_pos e, if_pos f]; intro h; have := hi (q - 1) (by omega) (by omega); omega
  · rw [if_neg (by omega), if_pos e, if_neg (by omega), if_neg (by omega)]; exact hr _ _ (by omega) (by omega)
  · rw [if_pos e, if_pos f]; exact hr _ _ (by omega) (by omega)
  · rw [if_pos e, if_neg (by omega), if_neg (by omega)]; exact hr _ _ (by omega) (by omega)
  · rw [if_neg (by omega), if_neg (by omega), if_neg (by omega), if_neg (by omega)]; exact hr _ _ (by omega) (by omega)

/-- The two halves of a merge, behind the turn in the middle: each sorted in two parts, and what is left of mid is not above what is right of it. -/
theorem mid_facts {kf d : Nat → Nat} {a m b n mid s : Nat} (hr : Ris kf d n) (h1 : Srt kf d a m) (h2 : Srt kf d m b) (ham : a < m) (_hmb : m < b) (hbn : b ≤ n) (hmid : mid = (a + b) / 2)
    (hs1 : a ≤ s) (hs2 : s ≤ m) (hs3 : s ≤ mid) (hs4 : m ≤ mid + m - s) (hs5 : mid + m - s ≤ b)
    (lo : ∀ c, c < s → a ≤ c → mid + m ≤ b + c → kf (d c) ≤ kf (d (mid + m - 1 - c)))
    (hi : ∀ c, s ≤ c → c < m → c < mid → kf (d (mid + m - 1 - c)) < kf (d c)) :
    let e := rot d s m (mid + m - s)
    Ris kf e n ∧ Srt kf e a s ∧ Srt kf e s mid ∧ Srt kf e mid (mid + m - s) ∧ Srt kf e (mid + m - s) b ∧ (∀ p q, a ≤ p → p < mid → mid ≤ q → q < b → kf (e p) ≤ kf (e q)) := by
  intro e
  -- what is turned: all of the right part is below all of the left one
  have key : ∀ p q, s ≤ p → p < m → m ≤ q → q < mid + m - s → kf (d q) < kf (d p) := by
    intro p q e1 e2 e3 e4
    have g1 := hi s (Nat.le_refl _) (by omega) (by omega)
    have g2 : kf (d s) ≤ kf (d p) := by
      by_cases h : s = p
      · rw [h]; exact Nat.le_refl _
      · exact h1 s p hs1 (by omega) e2
    have g3 : kf (d q) ≤ kf (d (mid + m - 1 - s)) := by
      by_cases h : q = mid + m - 1 - s
      · rw [h]; exact Nat.le_refl _
      · exact h2 q _ e3 (by omega) (by omega)
    omega
  have v0 : ∀ k, k < s ∨ mid + m - s ≤ k → e k = d k := by
    intro k hk
    show rot d s m (mid + m - s) k = _
    unfold rot; rw [if_neg (by omega), if_neg (by omega)]
  have v1 : ∀ k, s ≤ k → k < mid → e k = d (k - s + m) := by
    intro k hk hk2
    show rot d s m (mid + m - s) k = _
    unfold rot; rw [if_pos (by omega)]
  have v2 : ∀ k, mid ≤ k → k < mid + m - s → e k = d (k - (mid - s)) := by
    intro k hk hk2
    show rot d s m (mid + m - s) k = _
    unfold rot; rw [if_neg (by omega), if_pos (by omega)]; congr 1; omega
  refine ⟨?_, ?_, ?_, ?_, ?_, ?_⟩
  · intro p q f1 f2
    have ep : p < s ∨ (s ≤ p ∧ p < mid) ∨ (mid ≤ p ∧ p < mid + m - s) ∨ mid + m - s ≤ p := by omega
    have eq : q < s ∨ (s ≤ q ∧ q < mid) ∨ (mid ≤ q ∧ q < mid + m - s) ∨ mid + m - s ≤ q := by omega
    rcases ep with f | f | f | f <;> rcases eq with g | g | g | g <;> try omega
    · rw [v0 p (by omega), v0 q (by omega)]; exact hr _ _ (by omega) (by omega)
    · rw [v0 p (by omega), v1 q g.1 g.2]; exact hr _ _ (by omega) (by omega)
    · rw [v0 p (by omega), v2 q g.1 g.2]; exact hr _ _ (by omega) (by omega)
    · rw [v0 p (by omega), v0 q (by omega)]; exact hr _ _ (by omega) (by omega)
    · rw [v1 p f.1 f.2, v1 q g.1 g.2]; exact hr _ _ (by omega) (by omega)
    · rw [v1 p f.1 f.2, v2 q g.1 g.2]; intro h; have := key (q - (mid - s)) (p - s + m) (by omega) (by omega) (by omega) (by omega); omega
    · rw [v1 p f.1 f.2, v0 q (by omega)]; exact hr _ _ (by omega) (by omega)
    · rw [v2 p f.1 f.2, v2 q g.1 g.2]; exact hr _ _ (by omega) (by omega)
    · rw [v2 p f.1 f.2, v0 q (by omega)]; exact hr _ _ (by omega) (by omega)
    · rw [v0 p (by omega), v0 q (by omega)]; exact hr _ _ (by omega) (by omega)
  · intro p q f1 f2 f3
    rw [v0 p (by omega), v0 q (by omega)]; exact h1 _ _ (by omega) (by omega) (by omega)
  · intro p q f1 f2 f3
    rw [v1 p (by omega) (by omega), v1 q (by omega) (by omega)]; exact h2 _ _ (by omega) (by omega) (by omega)
  · intro p q f1 f2 f3
    rw [v2 p (by omega) (by omega), v2 q (by omega) (by omega)]; exact h1 _ _ (by omega) (by omega) (by omega)
  · intro p q f1 f2 f3
    rw [v0 p (by omega), v0 q (by omega)]; exact h2 _ _ (by omega) (by omega) (by omega)
  · intro p q f1 f2 f3 f4
    by_cases hp : p < s <;> by_cases hq : mid + m - s ≤ q
    · rw [v0 p (by omega), v0 q (by omega)]
      have g1 := lo (s - 1) (by omega) (by omega) (by omega)
      have g2 : kf (d p) ≤ kf (d (s - 1)) := by
        by_cases h : p = s - 1
        · rw [h]; exact Nat.le_refl _
        · exact h1 p _ f1 (by omega) (by omega)
      have g3 : kf (d (mid + m - 1 - (s - 1))) ≤ kf (d q) := by
        by_cases h : q = mid + m - 1 - (s - 1)
        · rw [h]; exact Nat.le_refl _
        · exact h2 _ q (by omega) (by omega) (by omega)
      omega
    · rw [v0 p (by omega), v2 q (by omega) (by omega)]; exact h1 _ _ (by omega) (by omega) (by omega)
    · rw [v1 p (by omega) (by omega), v0 q (by omega)]; exact h2 _ _ (by omega) (by omega) (by omega)
    · rw [v1 p (by omega) (by omega), v2 q (by omega) (by omega)]
      have := key (q - (mid - s)) (p - s + m) (by omega) (by omega) (by omega) (by omega)
      omega

/-- Both halves sorted, and what is left not above what is right: sorted. -/
theorem join_srt {kf e f : Nat → Nat} {a mid b : Nat} (cr : ∀ p q, a ≤ p → p < mid → mid ≤ q → q < b → kf (e p) ≤ kf (e q))
    (g : Nat → Nat) (h1 : Swaps a mid e g) (h2 : Swaps mid b g f) (s1 : Srt kf g a mid) (s2 : Srt kf f mid b) : Srt kf f a b := by
  intro p q e1 e2 e3
  by_cases hq : q < mid
  · rw [h2.out p (by omega), h2.out q (by omega)]; exact s1 p q e1 e2 hq
  · by_cases hp : p < mid
    · rw [h2.out p (by omega)]
      obtain ⟨p', p1, p2, p3⟩ := h1.img p e1 hp
      obtain ⟨q', q1, q2, q3⟩ := h2.img q (by omega) e3
      rw [p3, q3, h1.out q' (by omega)]
      exact cr p' q' p1 p2 q1 q2
    · exact s2 p q (by omega) e2 e3
end St
end Go.Proofs.YtnjlljdbghcobaaGreatDoor
