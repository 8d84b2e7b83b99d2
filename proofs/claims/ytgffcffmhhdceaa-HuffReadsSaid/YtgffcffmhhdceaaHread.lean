/- Reading codes by lengths: plain facts. Nothing of the program is named here. -/
import Derived.Test.YtgffcffmhhdceaaHcode
namespace Go.Proofs.Ytgffcffmhhdceaa
namespace Hf

/-- How many symbols have at most l bits. -/
def mm (ls : List Nat) (l : Nat) : Nat := (ordTo ls l).length
theorem mm_zero (ls : List Nat) : mm ls 0 = 0 := rfl
theorem mm_succ (ls : List Nat) (l : Nat) : mm ls (l + 1) = mm ls l + (rowTo ls (l + 1) ls.length).length := by simp [mm, ordTo]
theorem mm_all (ls : List Nat) : mm ls 15 = (ordl ls).length := rfl
theorem ordTo_ordl (ls : List Nat) (l : Nat) (hl : l ≤ 15) : ordTo ls l <+: ordl ls := by
  have := ordTo_pre ls l (15 - l)
  rwa [show l + (15 - l) = 15 by omega] at this
theorem mm_le (ls : List Nat) (l : Nat) (hl : l ≤ 15) : mm ls l ≤ (ordl ls).length := (ordTo_ordl ls l hl).length_le
theorem sy_pre (ls : List Nat) (l k : Nat) (hl : l ≤ 15) (hk : k < mm ls l) : (ordTo ls l)[k]? = some (sy ls k) := by
  obtain ⟨t, ht⟩ := ordTo_ordl ls l hl
  unfold sy
  rw [← ht, List.getElem?_append_left hk, List.getElem?_eq_getElem hk]
  rfl
theorem mm_iff (ls : List Nat) (l k : Nat) (hl : l ≤ 15) (hk : k < (ordl ls).length) : k < mm ls l ↔ ln ls (sy ls k) ≤ l := by
  constructor
  · intro h
    have := List.mem_of_getElem? (sy_pre ls l k hl h)
    exact ((mem_ordTo ls l _).1 this).2.2
  · intro h
    have hm := sy_mem ls k hk
    have : sy ls k ∈ ordTo ls l := (mem_ordTo ls l _).2 ⟨hm.1, hm.2.1, h⟩
    obtain ⟨i, hi, e⟩ := List.getElem_of_mem this
    have h2 := sy_pre ls l i hl hi
    rw [List.getElem?_eq_getElem hi, e] at h2
    have h3 : sy ls k = sy ls i := by simpa using h2
    have h4 := mm_le ls l hl
    have := sy_inj ls k i hk (by unfold mm at h4; omega) h3
    unfold mm; omega
theorem sy_row (ls : List Nat) (l k : Nat) (hl : l < 15) (h1 : mm ls l ≤ k) (h2 : k < mm ls (l + 1)) : ln ls (sy ls k) = l + 1 := by
  have hk : k < (ordl ls).length := Nat.lt_of_lt_of_le h2 (mm_le ls (l + 1) (by omega))
  have g1 := (mm_iff ls (l + 1) k (by omega) hk).1 h2
  have g2 := mt (mm_iff ls l k (by omega) hk).2 (by omega)
  omega
theorem pf_row (ls : List Nat) (l t : Nat) (hl : l < 15) (h : mm ls l + t ≤ mm ls (l + 1)) : pf ls (mm ls l + t) = pf ls (mm ls l) + t * 2 ^ (14 - l) := by
  induction t with
  | zero => simp
  | succ t ih =>
    have h1 := sy_row ls l (mm ls l + t) hl (by omega) (by omega)
    show pf ls (mm ls l + t) + 2 ^ (15 - ln ls (sy ls (mm ls l + t))) = _
    rw [ih (by omega), h1, show 15 - (l + 1) = 14 - l by omega, Nat.succ_mul]
    omega
theorem pf_lt (ls : List Nat) (j k : Nat) (h : j < k) : pf ls j < pf ls k := by
  refine Nat.lt_of_lt_of_le ?_ (pf_mono ls (j + 1) k h)
  show _ < pf ls j + _
  exact Nat.lt_add_of_pos_right (Nat.two_pow_pos _)

/-- The number of the first n bits from a place on, the first one the highest. -/
def vb (l : List Bool) (p : Nat) : Nat → Nat
  | 0 => 0
  | n + 1 => 2 * vb l p n + (l[p + n]?.getD false).toNat
theorem vb_lt (l : List Bool) (p n : Nat) : vb l p n < 2 ^ n := by
  induction n with
  | zero => simp [vb]
  | succ n ih =>
    have : (l[p + n]?.getD false).toNat < 2 := Bool.toNat_lt _
    simp only [vb, Nat.pow_succ]
    omega

/-- The k-th symbol has the code of n bits that were read. -/
def Hit (ls : List Nat) (l : List Bool) (p n k : Nat) : Prop := k < (ordl ls).length ∧ ln ls (sy ls k) = n ∧ cd ls k = vb l p n
/-- The k-th symbol's code begins with the n bits that were read. -/
def Beg (ls : List Nat) (l : List Bool) (p n k : Nat) : Prop := k < (ordl ls).length ∧ n ≤ ln ls (sy ls k) ∧ cd ls k / 2 ^ (ln ls (sy ls k) - n) = vb l p n

/-- What is read when j bits have been read. -/
inductive Rd (ls : List Nat) (l : List Bool) (p : Nat) : Nat → Nat × Nat × Int → Prop
  | short (j : Nat) : j < 15 → p + j = l.length → Rd ls l p j (0, 0, 4)
  | hit (j k : Nat) : j < 15 → p + j < l.length → Hit ls l p (j + 1) k → Rd ls l p j (sy ls k, p + j + 1, 0)
  | miss (j : Nat) : j < 15 → p + j < l.length → (∀ k, ¬ Hit ls l p (j + 1) k) → (∀ k, ¬ Beg ls l p (j + 1) k) → Rd ls l p j (0, 0, 13)
  | next (j k : Nat) (r : Nat × Nat × Int) : j < 15 → p + j < l.length → (∀ k, ¬ Hit ls l p (j + 1) k) → Beg ls l p (j + 1) k → Rd ls l p (j + 1) r → Rd ls l p j r
  | last : Rd ls l p 15 (0, 0, 13)

theorem hit_one {ls : List Nat} {l : List Bool} {p n k k' : Nat} (h : Hit ls l p n k) (h' : Hit ls l p n k') : k = k' := by
  obtain ⟨h1, h2, h3⟩ := h
  obtain ⟨g1, g2, g3⟩ := h'
  have e1 := cd_pf ls k h1
  have e2 := cd_pf ls k' g1
  rw [h2, h3] at e1
  rw [g2, g3] at e2
  rcases Nat.lt_trichotomy k k' with h | h | h
  · have := pf_lt ls k k' h; omega
  · exact h
  · have := pf_lt ls k' k h; omega

/-- What is read is one thing. -/
theorem rd_one {ls : List Nat} {l : List Bool} {p j : Nat} {r r' : Nat × Nat × Int} (h : Rd ls l p j r) (h' : Rd ls l p j r') : r = r' := by
  induction h with
  | short j h1 h2 =>
    cases h' with
    | short _ g1 g2 => rfl
    | hit _ k' g1 g2 g3 => omega
    | miss _ g1 g2 g3 g4 => omega
    | next _ k' _ g1 g2 g3 g4 g5 => omega
    | last => omega
  | hit j k h1 h2 h3 =>
    cases h' with
    | short _ g1 g2 => omega
    | hit _ k' g1 g2 g3 => rw [hit_one h3 g3]
    | miss _ g1 g2 g3 g4 => exact absurd h3 (g3 k)
    | next _ k' _ g1 g2 g3 g4 g5 => exact absurd h3 (g3 k)
    | last => omega
  | miss j h1 h2 h3 h4 =>
    cases h' with
    | short _ g1 g2 => omega
    | hit _ k' g1 g2 g3 => exact absurd g3 (h3 k')
    | miss _ g1 g2 g3 g4 => rfl
    | next _ k' _ g1 g2 g3 g4 g5 => exact absurd g4 (h4 k')
    | last => omega
  | next j k r h1 h2 h3 h4 h5 ih =>
    cases h' with
    | short _ g1 g2 => omega
    | hit _ k' g1 g2 g3 => exact absurd g3 (h3 k')
    | miss _ g1 g2 g3 g4 => exact absurd h4 (g4 k)
    | next _ k' _ g1 g2 g3 g4 g5 => exact ih g5
    | last => omega
  | last =>
    cases h' with
    | short _ g1 g2 => omega
    | hit _ k' g1 g2 g3 => omega
    | miss _ g1 g2 g3 g4 => omega
    | next _ k' _ g1 g2 g3 g4 g5 => omega
    | last => rfl

/-- The reader's own count: c is the number of the bits read, less the first code of what is longer. -/
def Cnt (ls : List Nat) (l : List Bool) (p j c : Nat) : Prop := c * 2 ^ (15 - j) + pf ls (mm ls j) = vb l p j * 2 ^ (15 - j)
theorem Cnt.start (ls : List Nat) (l : List Bool) (p : Nat) : Cnt ls l p 0 0 := by simp [Cnt, mm_zero, pf, vb]
theorem Cnt.bit {ls : List Nat} {l : List Bool} {p j c : Nat} (h : Cnt ls l p j c) (hj : j < 15) : (2 * c + (l[p + j]?.getD false).toNat) * 2 ^ (14 - j) + pf ls (mm ls j) = vb l p (j + 1) * 2 ^ (14 - j) := by
  unfold Cnt at h
  have e : 2 ^ (15 - j) = 2 * 2 ^ (14 - j) := by rw [show 15 - j = (14 - j) + 1 by omega, Nat.pow_succ]; omega
  rw [e] at h
  simp only [vb]
  generalize (l[p + j]?.getD false).toNat = b
  generalize 2 ^ (14 - j) = q at h ⊢
  have h1 : 2 * c * q = c * (2 * q) := by rw [Nat.mul_comm 2 c, Nat.mul_assoc]
  have h2 : 2 * vb l p j * q = vb l p j * (2 * q) := by rw [Nat.mul_comm 2 _, Nat.mul_assoc]
  rw [Nat.add_mul, Nat.add_mul, h1, h2]
  omega
theorem Cnt.hit {ls : List Nat} {l : List Bool} {p j c : Nat} (h : c * 2 ^ (14 - j) + pf ls (mm ls j) = vb l p (j + 1) * 2 ^ (14 - j)) (hj : j < 15) (hc : mm ls j + c < mm ls (j + 1)) : Hit ls l p (j + 1) (mm ls j + c) := by
  have hk : mm ls j + c < (ordl ls).length := Nat.lt_of_lt_of_le hc (mm_le ls (j + 1) (by omega))
  have h1 := sy_row ls j (mm ls j + c) hj (by omega) hc
  have h2 := cd_pf ls (mm ls j + c) hk
  rw [h1, pf_row ls j c hj (by omega), show 15 - (j + 1) = 14 - j by omega] at h2
  refine ⟨hk, h1, Nat.eq_of_mul_eq_mul_right (Nat.two_pow_pos (14 - j)) ?_⟩
  omega
theorem Cnt.nohit {ls : List Nat} {l : List Bool} {p j c : Nat} (h : c * 2 ^ (14 - j) + pf ls (mm ls j) = vb l p (j + 1) * 2 ^ (14 - j)) (hj : j < 15) (hc : ¬ mm ls j + c < mm ls (j + 1)) (k : Nat) : ¬ Hit ls l p (j + 1) k := by
  rintro ⟨h1, h2, h3⟩
  have g1 := (mm_iff ls (j + 1) k (by omega) h1).2 (by omega)
  have g2 : mm ls j ≤ k := by
    have := mt (mm_iff ls j k (by omega) h1).1 (by omega)
    omega
  obtain ⟨t, rfl⟩ : ∃ t, k = mm ls j + t := ⟨k - mm ls j, by omega⟩
  have e1 := cd_pf ls (mm ls j + t) h1
  rw [h2, h3, pf_row ls j t hj (by omega), show 15 - (j + 1) = 14 - j by omega] at e1
  have e2 : c * 2 ^ (14 - j) = t * 2 ^ (14 - j) := by omega
  have := Nat.eq_of_mul_eq_mul_right (Nat.two_pow_pos (14 - j)) e2
  omega
theorem Cnt.next {ls : List Nat} {l : List Bool} {p j c : Nat} (h : c * 2 ^ (14 - j) + pf ls (mm ls j) = vb l p (j + 1) * 2 ^ (14 - j)) (hj : j < 15) (n : Nat) (hn : mm ls (j + 1) = mm ls j + n) (hc : n ≤ c) : Cnt ls l p (j + 1) (c - n) := by
  unfold Cnt
  have h1 := pf_row ls j n hj (by omega)
  rw [← hn] at h1
  rw [h1, show 15 - (j + 1) = 14 - j by omega, ← h, Nat.sub_mul]
  have : n * 2 ^ (14 - j) ≤ c * 2 ^ (14 - j) := Nat.mul_le_mul_right _ hc
  omega

/-- With nothing left no code begins so. -/
theorem nobeg {ls : List Nat} {l : List Bool} {p j : Nat} (hj : j < 15) (hn : ∀ k, ¬ Hit ls l p (j + 1) k) (hm : mm ls (j + 1) = (ordl ls).length) (k : Nat) : ¬ Beg ls l p (j + 1) k := by
  rintro ⟨h1, h2, h3⟩
  have g1 := (mm_iff ls (j + 1) k (by omega) h1).1 (by omega)
  have e : ln ls (sy ls k) = j + 1 := by omega
  rw [e, Nat.sub_self, Nat.pow_zero, Nat.div_one] at h3
  exact hn k ⟨h1, e, h3⟩

/-- Between two places, a place up to which no more is taken than V, and then more. -/
theorem pf_between (ls : List Nat) (V : Nat) : ∀ b a, a ≤ b → pf ls a ≤ V → V < pf ls b → ∃ k, a ≤ k ∧ k < b ∧ pf ls k ≤ V ∧ V < pf ls (k + 1) := by
  intro b
  induction b with
  | zero => intro a h h1 h2; have : a = 0 := by omega
            subst this; omega
  | succ b ih =>
    intro a h h1 h2
    by_cases hb : V < pf ls b
    · have hab : a ≤ b := by
        by_cases e : a = b + 1
        · subst e; omega
        · omega
      obtain ⟨k, k1, k2, k3, k4⟩ := ih a hab h1 hb
      exact ⟨k, k1, by omega, k3, k4⟩
    · refine ⟨b, ?_, by omega, by omega, h2⟩
      by_cases e : a = b + 1
      · subst e; omega
      · omega

/-- Of a whole code some code begins with what was read, as long as longer ones are left. -/
theorem beg {ls : List Nat} {l : List Bool} {p j c : Nat} (hj : j < 15) (hw : pf ls (ordl ls).length = 32768) (h : Cnt ls l p (j + 1) c) (hm : mm ls (j + 1) < (ordl ls).length) : ∃ k, Beg ls l p (j + 1) k := by
  unfold Cnt at h
  obtain ⟨V, hV⟩ : ∃ V, V = vb l p (j + 1) * 2 ^ (15 - (j + 1)) := ⟨_, rfl⟩
  have hlt : V < 32768 := by
    have h1 := vb_lt l p (j + 1)
    have h2 : 2 ^ (j + 1) * 2 ^ (15 - (j + 1)) = 32768 := by rw [← Nat.pow_add, show j + 1 + (15 - (j + 1)) = 15 by omega]
    have h3 := Nat.mul_lt_mul_of_pos_right h1 (Nat.two_pow_pos (15 - (j + 1)))
    omega
  obtain ⟨k, k1, k2, k3, k4⟩ := pf_between ls V (ordl ls).length (mm ls (j + 1)) (Nat.le_of_lt hm) (by rw [hV, ← h]; exact Nat.le_add_left _ _) (by rw [hw]; exact hlt)
  have hk := sy_mem ls k k2
  have hln := mt (mm_iff ls (j + 1) k (by omega) k2).2 (by omega)
  refine ⟨k, k2, by omega, ?_⟩
  have e1 := cd_pf ls k k2
  have e2 : pf ls (k + 1) = pf ls k + 2 ^ (15 - ln ls (sy ls k)) := rfl
  have e3 : 2 ^ (ln ls (sy ls k) - (j + 1)) * 2 ^ (15 - ln ls (sy ls k)) = 2 ^ (15 - (j + 1)) := by
    rw [← Nat.pow_add, show ln ls (sy ls k) - (j + 1) + (15 - ln ls (sy ls k)) = 15 - (j + 1) by omega]
  rw [← e3, ← Nat.mul_assoc] at hV
  have hpos := Nat.two_pow_pos (15 - ln ls (sy ls k))
  have g1 : cd ls k ≤ vb l p (j + 1) * 2 ^ (ln ls (sy ls k) - (j + 1)) := Nat.le_of_mul_le_mul_right (by omega) hpos
  have g2 : vb l p (j + 1) * 2 ^ (ln ls (sy ls k) - (j + 1)) < cd ls k + 1 := by
    refine Nat.lt_of_mul_lt_mul_right (a := 2 ^ (15 - ln ls (sy ls k))) ?_
    rw [Nat.succ_mul]; omega
  have g3 : cd ls k = vb l p (j + 1) * 2 ^ (ln ls (sy ls k) - (j + 1)) := by omega
  rw [g3, Nat.mul_div_cancel _ (Nat.two_pow_pos _)]
end Hf
end Go.Proofs.Ytgffcffmhhdceaa
