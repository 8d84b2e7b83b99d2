/- Reading codes by lengths: plain facts. Nothing of the program is named here. -/
import Derived.Test.YtnjlljdbghcobaaGreatDoorHcoded
import Derived.Test.YtnjlljdbghcobaaGreatDoorHround
import Derived.Test.YtnjlljdbghcobaaGreatDoorHnew2
import Derived.Test.YtnjlljdbghcobaaGreatDoorHcmp
import Derived.BigQuiet
import Derived.StillTail

namespace Go.Proofs.YtnjlljdbghcobaaGreatDoor
set_option maxRecDepth 100000
namespace Hf

/-- How many symbols have at most l bits. -/
def mm (ls : List Nat) (l : Nat) : Nat := (ordTo ls l).length
theorem mm_zero (ls : List Nat) : mm ls 0 = 0 := rfl
theorem mm_succ (ls : List Nat) (l : Nat) : mm ls (l + 1) = mm ls l + (rowTo ls (l + 1) ls.length).length := by simp [mm, ordTo]
theorem mm_all (ls : List Nat) : mm ls 15 = (ordl ls).length := rfl
theorem ordTo_ordl (ls : List Nat) (l : Nat) (hl : l ≤ 15) : ordTo ls l <+: ordl ls := by
  have := ordTo_pre ls l (15 - l)
  rwa [show l + (15 - l) = 15 by omega] at this
theorem mm_le (ls : List Nat) (l : Nat) (hl : l ≤ 15) : mm ls l ≤ (ordl ls).length := (ordTo_ordl ls l hl).length_le
theorem sy_pre (ls : List Nat) (l k : Nat) (hl : l ≤ 15) (hk : k < mm ls l) : (ordTo ls l)[k]? = some (sy ls k) := by
  obtain ⟨t, ht⟩ := ordTo_ordl ls l hl
  unfold sy
  rw [← ht, List.getElem?_append_left hk, List.getElem?_eq_getElem hk]
  rfl
theorem mm_iff (ls : List Nat) (l k : Nat) (hl : l ≤ 15) (hk : k < (ordl ls).length) : k < mm ls l ↔ ln ls (sy ls k) ≤ l := by
  constructor
  · intro h
    have := List.mem_of_getElem? (sy_pre ls l k hl h)
    exact ((mem_ordTo ls l _).1 this).2.2
  · intro h
    have hm := sy_mem ls k hk
    have : sy ls k ∈ ordTo ls l := (mem_ordTo ls l _).2 ⟨hm.1, hm.2.1, h⟩
    obtain ⟨i, hi, e⟩ := List.getElem_of_mem this
    have h2 := sy_pre ls l i hl hi
    rw [List.getElem?_eq_getElem hi, e] at h2
    have h3 : sy ls k = sy ls i := by simpa using h2
    have h4 := mm_le ls l hl
    have := sy_inj ls k i hk (by unfold mm at h4; omega) h3
    unfold mm; omega
theorem sy_row (ls : List Nat) (l k : Nat) (hl : l < 15) (h1 : mm ls l ≤ k) (h2 : k < mm ls (l + 1)) : ln ls (sy ls k) = l + 1 := by
  have hk : k < (ordl ls).length := Nat.lt_of_lt_of_le h2 (mm_le ls (l + 1) (by omega))
  have g1 := (mm_iff ls (l + 1) k (by omega) hk).1 h2
  have g2 := mt (mm_iff ls l k (by omega) hk).2 (by omega)
  omega
theorem pf_row (ls : List Nat) (l t : Nat) (hl : l < 15) (h : mm ls l + t ≤ mm ls (l + 1)) : pf ls (mm ls l + t) = pf ls (mm ls l) + t * 2 ^ (14 - l) := by
  induction t with
  | zero => simp
  | succ t ih =>
    have h1 := sy_row ls l (mm ls l + t) hl (by omega) (by omega)
    show pf ls (mm ls l + t) + 2 ^ (15 - ln ls (sy ls (mm ls l + t))) = _
    rw [ih (by omega), h1, show 15 - (l + 1) = 14 - l by omega, Nat.succ_mul]
    omega
theorem pf_lt (ls : List Nat) (j k : Nat) (h : j < k) : pf ls j < pf ls k := by
  refine Nat.lt_of_lt_of_le ?_ (pf_mono ls (j + 1) k h)
  show _ < pf ls j + _
  exact Nat.lt_add_of_pos_right (Nat.two_pow_pos _)

/-- The number of the first n bits from a place on, the first one the highest. -/
def vb (l : List Bool) (p : Nat) : Nat → Nat
  | 0 => 0
  | n + 1 => 2 * vb l p n + (l[p + n]?.getD false).toNat
theorem vb_lt (l : List Bool) (p n : Nat) : vb l p n < 2 ^ n := by
  induction n with
  | zero => simp [vb]
  | succ n ih =>
    have : (l[p + n]?.getD false).toNat < 2 := Bool.toNat_lt _
    simp only [vb, Nat.pow_succ]
    omega

/-- The k-th symbol has the code of n bits that were read. -/
def Hit (ls : List Nat) (l : List Bool) (p n k : Nat) : Prop := k < (ordl ls).length ∧ ln ls (sy ls k) = n ∧ cd ls k = vb l p n
/-- The k-th symbol's code begins with the n bits that were read. -/
def Beg (ls : List Nat) (l : List Bool) (p n k : Nat) : Prop := k < (ordl ls).length ∧ n ≤ ln ls (sy ls k) ∧ cd ls k / 2 ^ (ln ls (sy ls k) - n) = vb l p n

/-- What is read when j bits have been read. -/
inductive Rd (ls : List Nat) (l : List Bool) (p : Nat) : Nat → Nat × Nat × Int → Prop
  | short (j : Nat) : j < 15 → p + j = l.length → Rd ls l p j (0, 0, 4)
  | hit (j k : Nat) : j < 15 → p + j < l.length → Hit ls l p (j + 1) k → Rd ls l p j (sy ls k, p + j + 1, 0)
  | miss (j : Nat) : j < 15 → p + j < l.length → (∀ k, ¬ Hit ls l p (j + 1) k) → (∀ k, ¬ Beg ls l p (j + 1) k) → Rd ls l p j (0, 0, 13)
  | next (j k : Nat) (r : Nat × Nat × Int) : j < 15 → p + j < l.length → (∀ k, ¬ Hit ls l p (j + 1) k) → Beg ls l p (j + 1) k → Rd ls l p (j + 1) r → Rd ls l p j r
  | last : Rd ls l p 15 (0, 0, 13)

theorem hit_one {ls : List Nat} {l : List Bool} {p n k k' : Nat} (h : Hit ls l p n k) (h' : Hit ls l p n k') : k = k' := by
  obtain ⟨h1, h2, h3⟩ := h
  obtain ⟨g1, g2, g3⟩ := h'
  have e1 := cd_pf ls k h1
  have e2 := cd_pf ls k' g1
  rw [h2, h3] at e1
  rw [g2, g3] at e2
  rcases Nat.lt_trichotomy k k' with h | h | h
  · have := pf_lt ls k k' h; omega
  · exact h
  · have := pf_lt ls k' k h; omega

/-- What is read is one thing. -/
theorem rd_one {ls : List Nat} {l : List Bool} {p j : Nat} {r r' : Nat × Nat × Int} (h : Rd ls l p j r) (h' : Rd ls l p j r') : r = r' := by
  induction h with
  | short j h1 h2 =>
    cases h' with
    | short _ g1 g2 => rfl
    | hit _ k' g1 g2 g3 => omega
    | miss _ g1 g2 g3 g4 => omega
    | next _ k' _ g1 g2 g3 g4 g5 => omega
    | last => omega
  | hit j k h1 h2 h3 =>
    cases h' with
    | short _ g1 g2 => omega
    | hit _ k' g1 g2 g3 => rw [hit_one h3 g3]
    | miss _ g1 g2 g3 g4 => exact absurd h3 (g3 k)
    | next _ k' _ g1 g2 g3 g4 g5 => exact absurd h3 (g3 k)
    | last => omega
  | miss j h1 h2 h3 h4 =>
    cases h' with
    | short _ g1 g2 => omega
    | hit _ k' g1 g2 g3 => exact absurd g3 (h3 k')
    | miss _ g1 g2 g3 g4 => rfl
    | next _ k' _ g1 g2 g3 g4 g5 => exact absurd g4 (h4 k')
    | last => omega
  | next j k r h1 h2 h3 h4 h5 ih =>
    cases h' with
    | short _ g1 g2 => omega
    | hit _ k' g1 g2 g3 => exact absurd g3 (h3 k')
    | miss _ g1 g2 g3 g4 => exact absurd h4 (g4 k)
    | next _ k' _ g1 g2 g3 g4 g5 => exact ih g5
    | last => omega
  | last =>
    cases h' with
    | short _ g1 g2 => omega
    | hit _ k' g1 g2 g3 => omega
    | miss _ g1 g2 g3 g4 => omega
    | next _ k' _ g1 g2 g3 g4 g5 => omega
    | last => rfl

/-- The reader's own count: c is the number of the bits read, less the first code of what is longer. -/
def Cnt (ls : List Nat) (l : List Bool) (p j c : Nat) : Prop := c * 2 ^ (15 - j) + pf ls (mm ls j) = vb l p j * 2 ^ (15 - j)
theorem Cnt.start (ls : List Nat) (l : List Bool) (p : Nat) : Cnt ls l p 0 0 := by simp [Cnt, mm_zero, pf, vb]
theorem Cnt.bit {ls : List Nat} {l : List Bool} {p j c : Nat} (h : Cnt ls l p j c) (hj : j < 15) : (2 * c + (l[p + j]?.getD false).toNat) * 2 ^ (14 - j) + pf ls (mm ls j) = vb l p (j + 1) * 2 ^ (14 - j) := by
  unfold Cnt at h
  have e : 2 ^ (15 - j) = 2 * 2 ^ (14 - j) := by rw [show 15 - j = (14 - j) + 1 by omega, Nat.pow_succ]; omega
  rw [e] at h
  simp only [vb]
  generalize (l[p + j]?.getD false).toNat = b
  generalize 2 ^ (14 - j) = q at h ⊢
  have h1 : 2 * c * q = c * (2 * q) := by rw [Nat.mul_comm 2 c, Nat.mul_assoc]
  have h2 : 2 * vb l p j * q = vb l p j * (2 * q) := by rw [Nat.mul_comm 2 _, Nat.mul_assoc]
  rw [Nat.add_mul, Nat.add_mul, h1, h2]
  omega
theorem Cnt.hit {ls : List Nat} {l : List Bool} {p j c : Nat} (h : c * 2 ^ (14 - j) + pf ls (mm ls j) = vb l p (j + 1) * 2 ^ (14 - j)) (hj : j < 15) (hc : mm ls j + c < mm ls (j + 1)) : Hit ls l p (j + 1) (mm ls j + c) := by
  have hk : mm ls j + c < (ordl ls).length := Nat.lt_of_lt_of_le hc (mm_le ls (j + 1) (by omega))
  have h1 := sy_row ls j (mm ls j + c) hj (by omega) hc
  have h2 := cd_pf ls (mm ls j + c) hk
  rw [h1, pf_row ls j c hj (by omega), show 15 - (j + 1) = 14 - j by omega] at h2
  refine ⟨hk, h1, Nat.eq_of_mul_eq_mul_right (Nat.two_pow_pos (14 - j)) ?_⟩
  omega
theorem Cnt.nohit {ls : List Nat} {l : List Bool} {p j c : Nat} (h : c * 2 ^ (14 - j) + pf ls (mm ls j) = vb l p (j + 1) * 2 ^ (14 - j)) (hj : j < 15) (hc : ¬ mm ls j + c < mm ls (j + 1)) (k : Nat) : ¬ Hit ls l p (j + 1) k := by
  rintro ⟨h1, h2, h3⟩
  have g1 := (mm_iff ls (j + 1) k (by omega) h1).2 (by omega)
  have g2 : mm ls j ≤ k := by
    have := mt (mm_iff ls j k (by omega) h1).1 (by omega)
    omega
  obtain ⟨t, rfl⟩ : ∃ t, k = mm ls j + t := ⟨k - mm ls j, by omega⟩
  have e1 := cd_pf ls (mm ls j + t) h1
  rw [h2, h3, pf_row ls j t hj (by omega), show 15 - (j + 1) = 14 - j by omega] at e1
  have e2 : c * 2 ^ (14 - j) = t * 2 ^ (14 - j) := by omega
  have := Nat.eq_of_mul_eq_mul_right (Nat.two_pow_pos (14 - j)) e2
  omega
theorem Cnt.next {ls : List Nat} {l : List Bool} {p j c : Nat} (h : c * 2 ^ (14 - j) + pf ls (mm ls j) = vb l p (j + 1) * 2 ^ (14 - j)) (hj : j < 15) (n : Nat) (hn : mm ls (j + 1) = mm ls j + n) (hc : n ≤ c) : Cnt ls l p (j + 1) (c - n) := by
  unfold Cnt
  have h1 := pf_row ls j n hj (by omega)
  rw [← hn] at h1
  rw [h1, show 15 - (j + 1) = 14 - j by omega, ← h, Nat.sub_mul]
  have : n * 2 ^ (14 - j) ≤ c * 2 ^ (14 - j) := Nat.mul_le_mul_right _ hc
  omega

/-- With nothing left no code begins so. -/
theorem nobeg {ls : List Nat} {l : List Bool} {p j : Nat} (hj : j < 15) (hn : ∀ k, ¬ Hit ls l p (j + 1) k) (hm : mm ls (j + 1) = (ordl ls).length) (k : Nat) : ¬ Beg ls l p (j + 1) k := by
  rintro ⟨h1, h2, h3⟩
  have g1 := (mm_iff ls (j + 1) k (by omega) h1).1 (by omega)
  have e : ln ls (sy ls k) = j + 1 := by omega
  rw [e, Nat.sub_self, Nat.pow_zero, Nat.div_one] at h3
  exact hn k ⟨h1, e, h3⟩

/-- Between two places, a place up to which no more is taken than V, and then more. -/
theorem pf_between (ls : List Nat) (V : Nat) : ∀ b a, a ≤ b → pf ls a ≤ V → V < pf ls b → ∃ k, a ≤ k ∧ k < b ∧ pf ls k ≤ V ∧ V < pf ls (k + 1) := by
  intro b
  induction b with
  | zero => intro a h h1 h2; have : a = 0 := by omega
            subst this; omega
  | succ b ih =>
    intro a h h1 h2
    by_cases hb : V < pf ls b
    · have hab : a ≤ b := by
        by_cases e : a = b + 1
        · subst e; omega
        · omega
      obtain ⟨k, k1, k2, k3, k4⟩ := ih a hab h1 hb
      exact ⟨k, k1, by omega, k3, k4⟩
    · refine ⟨b, ?_, by omega, by omega, h2⟩
      by_cases e : a = b + 1
      · subst e; omega
      · omega

/-- Of a whole code some code begins with what was read, as long as longer ones are left. -/
theorem beg {ls : List Nat} {l : List Bool} {p j c : Nat} (hj : j < 15) (hw : pf ls (ordl ls).length = 32768) (h : Cnt ls l p (j + 1) c) (hm : mm ls (j + 1) < (ordl ls).length) : ∃ k, Beg ls l p (j + 1) k := by
  unfold Cnt at h
  obtain ⟨V, hV⟩ : ∃ V, V = vb l p (j + 1) * 2 ^ (15 - (j + 1)) := ⟨_, rfl⟩
  have hlt : V < 32768 := by
    have h1 := vb_lt l p (j + 1)
    have h2 : 2 ^ (j + 1) * 2 ^ (15 - (j + 1)) = 32768 := by rw [← Nat.pow_add, show j + 1 + (15 - (j + 1)) = 15 by omega]
    have h3 := Nat.mul_lt_mul_of_pos_right h1 (Nat.two_pow_pos (15 - (j + 1)))
    omega
  obtain ⟨k, k1, k2, k3, k4⟩ := pf_between ls V (ordl ls).length (mm ls (j + 1)) (Nat.le_of_lt hm) (by rw [hV, ← h]; exact Nat.le_add_left _ _) (by rw [hw]; exact hlt)
  have hk := sy_mem ls k k2
  have hln := mt (mm_iff ls (j + 1) k (by omega) k2).2 (by omega)
  refine ⟨k, k2, by omega, ?_⟩
  have e1 := cd_pf ls k k2
  have e2 : pf ls (k + 1) = pf ls k + 2 ^ (15 - ln ls (sy ls k)) := rfl
  have e3 : 2 ^ (ln ls (sy ls k) - (j + 1)) * 2 ^ (15 - ln ls (sy ls k)) = 2 ^ (15 - (j + 1)) := by
    rw [← Nat.pow_add, show ln ls (sy ls k) - (j + 1) + (15 - ln ls (sy ls k)) = 15 - (j + 1) by omega]
  rw [← e3, ← Nat.mul_assoc] at hV
  have hpos := Nat.two_pow_pos (15 - ln ls (sy ls k))
  have g1 : cd ls k ≤ vb l p (j + 1) * 2 ^ (ln ls (sy ls k) - (j + 1)) := Nat.le_of_mul_le_mul_right (by omega) hpos
  have g2 : vb l p (j + 1) * 2 ^ (ln ls (sy ls k) - (j + 1)) < cd ls k + 1 := by
    refine Nat.lt_of_mul_lt_mul_right (a := 2 ^ (15 - ln ls (sy ls k))) ?_
    rw [Nat.succ_mul]; omega
  have g3 : cd ls k = vb l p (j + 1) * 2 ^ (ln ls (sy ls k) - (j + 1)) := by omega
  rw [g3, Nat.mul_div_cancel _ (Nat.two_pow_pos _)]
end Hf
end Go.Proofs.YtnjlljdbghcobaaGreatDoor

/- Headers, in plain numbers. Nothing of the program is named here. -/
namespace Go.Proofs.YtnjlljdbghcobaaGreatDoor
set_option maxRecDepth 100000
namespace Hd

open Classical in
/-- What is read of a code at a place, as a function. -/
noncomputable def rd (ls : List Nat) (l : List Bool) (p : Nat) : Nat × Nat × Int := if h : ∃ r, Hf.Rd ls l p 0 r then h.choose else (0, 0, 0)
theorem rd_is {ls : List Nat} {l : List Bool} {p : Nat} {r : Nat × Nat × Int} (h : Hf.Rd ls l p 0 r) : rd ls l p = r := by
  unfold rd
  have hx : ∃ r, Hf.Rd ls l p 0 r := ⟨r, h⟩
  rw [dif_pos hx]
  exact Hf.rd_one hx.choose_spec h

theorem rd_facts {ls : List Nat} {l : List Bool} {p j : Nat} {r : Nat × Nat × Int} (h : Hf.Rd ls l p j r) : (r.2.2 = 0 → r.1 < ls.length ∧ p + j < r.2.1 ∧ r.2.1 ≤ l.length) ∧ (r.2.2 ≠ 0 → r.1 = 0 ∧ r.2.1 = 0) ∧ (r.2.2 = 0 ∨ r.2.2 = 4 ∨ r.2.2 = 13) := by
  induction h with
  | short j h1 h2 => refine ⟨fun h => ?_, fun _ => ⟨rfl, rfl⟩, Or.inr (Or.inl rfl)⟩; simp at h
  | hit j k h1 h2 h3 =>
    have h4 := (Hf.sy_mem ls k h3.1).1
    generalize Hf.sy ls k = s at h4 ⊢
    refine ⟨fun _ => ⟨h4, ?_, ?_⟩, fun h => ?_, Or.inl rfl⟩
    · simp only; omega
    · simp only; omega
    · simp at h
  | miss j h1 h2 h3 h4 => refine ⟨fun h => ?_, fun _ => ⟨rfl, rfl⟩, Or.inr (Or.inr rfl)⟩; simp at h
  | next j k r h1 h2 h3 h4 h5 ih => exact ⟨fun h => by have := ih.1 h; omega, ih.2.1, ih.2.2⟩
  | last => refine ⟨fun h => ?_, fun _ => ⟨rfl, rfl⟩, Or.inr (Or.inr rfl)⟩; simp at h

/-- The number of n bits at a place. -/
def num (l : List Bool) (p n : Nat) : Nat := Bs.num ((l.drop p).take n)
theorem num_lt (l : List Bool) (p n : Nat) : num l p n < 2 ^ n :=
  Nat.lt_of_lt_of_le (Bs.num_lt _) (Nat.pow_le_pow_right (by omega) (List.length_take_le _ _))

/-- How many bits stand beside a run's symbol; how many lengths it tells at the least; which. -/
def ex (s : Nat) : Nat := if s = 16 then 2 else if s = 17 then 3 else if s = 18 then 7 else 0
def least (s : Nat) : Nat := if s = 16 then 3 else if s = 17 then 3 else if s = 18 then 11 else 1
def val (acc : List Nat) (s : Nat) : Nat := if s = 16 then acc[acc.length - 1]?.getD 0 else if s = 17 ∨ s = 18 then 0 else s
theorem ex_le (s : Nat) : ex s ≤ 7 := by unfold ex; split <;> (try split) <;> (try split) <;> omega
theorem least_le (s : Nat) : 1 ≤ least s ∧ least s ≤ 11 := by unfold least; split <;> (try split) <;> (try split) <;> omega
theorem num_ex (l : List Bool) (p s : Nat) : num l p (ex s) < 128 := by
  have h := num_lt l p (ex s)
  have : 2 ^ ex s ≤ 2 ^ 7 := Nat.pow_le_pow_right (by omega) (ex_le s)
  omega

/-- What one run does: lengths with those behind them that it tells, at most n, or why not. -/
def take (acc : List Nat) (s v n : Nat) : List Nat × Int :=
  if s = 16 ∧ acc.length = 0 then ([], 9) else if n < acc.length + (least s + v) then ([], 3) else (acc ++ List.replicate (least s + v) (val acc s), 0)

/-- Runs, one behind the other, till there are n lengths: the lengths, the place behind, the error. -/
noncomputable def runs (ls : List Nat) (l : List Bool) (n : Nat) : Nat → List Nat → Nat → List Nat × Nat × Int
  | 0, acc, p => (acc, p, 0)
  | k + 1, acc, p =>
    if n ≤ acc.length then (acc, p, 0) else
    if (rd ls l p).2.2 ≠ 0 then ([], 0, (rd ls l p).2.2) else
    if l.length < (rd ls l p).2.1 + ex (rd ls l p).1 then ([], 0, 4) else
    if (take acc (rd ls l p).1 (num l (rd ls l p).2.1 (ex (rd ls l p).1)) n).2 ≠ 0 then ([], 0, (take acc (rd ls l p).1 (num l (rd ls l p).2.1 (ex (rd ls l p).1)) n).2) else
    runs ls l n k (take acc (rd ls l p).1 (num l (rd ls l p).2.1 (ex (rd ls l p).1)) n).1 ((rd ls l p).2.1 + ex (rd ls l p).1)

theorem runs_done (ls : List Nat) (l : List Bool) (n k : Nat) (acc : List Nat) (p : Nat) (h : n ≤ acc.length) : runs ls l n k acc p = (acc, p, 0) := by
  cases k with
  | zero => rfl
  | succ k => simp only [runs]; rw [if_pos h]
theorem runs_sym (ls : List Nat) (l : List Bool) (n k : Nat) (acc : List Nat) (p q s : Nat) (c : Int) (h : acc.length < n) (hk : 0 < k) (hr : rd ls l p = (s, q, c)) (hc : c ≠ 0) : runs ls l n k acc p = ([], 0, c) := by
  cases k with
  | zero => omega
  | succ k => simp only [runs]; rw [if_neg (by omega), hr, if_pos hc]
theorem runs_short (ls : List Nat) (l : List Bool) (n k : Nat) (acc : List Nat) (p q s : Nat) (h : acc.length < n) (hk : 0 < k) (hr : rd ls l p = (s, q, 0)) (hs : l.length < q + ex s) : runs ls l n k acc p = ([], 0, 4) := by
  cases k with
  | zero => omega
  | succ k => simp only [runs]; rw [if_neg (by omega), hr, if_neg (by simp), if_pos hs]
theorem runs_take (ls : List Nat) (l : List Bool) (n k : Nat) (acc : List Nat) (p q s v : Nat) (x : List Nat) (c : Int) (h : acc.length < n) (hk : 0 < k) (hr : rd ls l p = (s, q, 0)) (hs : q + ex s ≤ l.length) (hv : v = num l q (ex s)) (ht : take acc s v n = (x, c)) :
    runs ls l n k acc p = if c ≠ 0 then ([], 0, c) else runs ls l n (k - 1) x (q + ex s) := by
  cases k with
  | zero => omega
  | succ k => subst hv; simp only [runs]; rw [if_neg (by omega), hr, if_neg (by simp), if_neg (by simp only; omega)]; simp only [ht]; rfl

theorem take_length {acc : List Nat} {s v n : Nat} {x : List Nat} (h : take acc s v n = (x, 0)) : acc.length < x.length ∧ x.length ≤ n := by
  unfold take at h
  split at h
  · simp at h
  · split at h
    · simp at h
    · obtain ⟨rfl, _⟩ := Prod.mk.inj h
      have := least_le s
      rw [List.length_append, List.length_replicate]
      omega

/-- In which order the run symbols' lengths stand. -/
def ord (k : Nat) : Nat := [16, 17, 18, 0, 8, 7, 9, 6, 10, 5, 11, 4, 12, 3, 13, 2, 14, 1, 15][k]?.getD 0
theorem ord_lt (k : Nat) : ord k < 19 := by
  by_cases h : k < 19
  · exact (by decide : ∀ k : Fin 19, ord k.1 < 19) ⟨k, h⟩
  · unfold ord; rw [List.getElem?_eq_none (by simp; omega)]; decide

/-- The run symbols' lengths when k of them have been read. -/
def cl (l : List Bool) (p : Nat) : Nat → List Nat
  | 0 => List.replicate 19 0
  | k + 1 => (cl l p k).set (ord k) (num l (p + 3 * k) 3)
theorem cl_length (l : List Bool) (p k : Nat) : (cl l p k).length = 19 := by
  induction k with
  | zero => simp [cl]
  | succ k ih => simp [cl, ih]

def zz (ls : List Nat) : List Int := ls.map fun (x : Nat) => (x : Int)
theorem zz_length (ls : List Nat) : (zz ls).length = ls.length := by simp [zz]
theorem nat_zz (ls : List Nat) : nat (zz ls) = ls := by simp [nat, zz, Function.comp_def]
theorem zz_get (ls : List Nat) (i : Nat) : (zz ls)[i]?.getD 0 = ((ls[i]?.getD 0 : Nat) : Int) := by
  unfold zz; rw [List.getElem?_map]; cases ls[i]? <;> rfl

/-- A header at a place: lit, dist, the place behind, the error. -/
noncomputable def head (l : List Bool) (p : Nat) : List Nat × List Nat × Nat × Int :=
  if l.length < p + 10 then ([], [], 0, 4) else
  if 286 < num l p 5 + 257 ∨ 30 < num l (p + 5) 5 + 1 then ([], [], 0, 3) else
  if l.length < p + 14 then ([], [], 0, 4) else
  if l.length < p + 14 + 3 * (num l (p + 10) 4 + 4) then ([], [], 0, 4) else
  if newE (zz (cl l (p + 14) (num l (p + 10) 4 + 4))) ≠ 0 then ([], [], 0, newE (zz (cl l (p + 14) (num l (p + 10) 4 + 4)))) else
  if (runs (cl l (p + 14) (num l (p + 10) 4 + 4)) l (num l p 5 + 257 + (num l (p + 5) 5 + 1)) 400 [] (p + 14 + 3 * (num l (p + 10) 4 + 4))).2.2 ≠ 0 then
    ([], [], 0, (runs (cl l (p + 14) (num l (p + 10) 4 + 4)) l (num l p 5 + 257 + (num l (p + 5) 5 + 1)) 400 [] (p + 14 + 3 * (num l (p + 10) 4 + 4))).2.2) else
  ((runs (cl l (p + 14) (num l (p + 10) 4 + 4)) l (num l p 5 + 257 + (num l (p + 5) 5 + 1)) 400 [] (p + 14 + 3 * (num l (p + 10) 4 + 4))).1.take (num l p 5 + 257),
   (runs (cl l (p + 14) (num l (p + 10) 4 + 4)) l (num l p 5 + 257 + (num l (p + 5) 5 + 1)) 400 [] (p + 14 + 3 * (num l (p + 10) 4 + 4))).1.drop (num l p 5 + 257),
   (runs (cl l (p + 14) (num l (p + 10) 4 + 4)) l (num l p 5 + 257 + (num l (p + 5) 5 + 1)) 400 [] (p + 14 + 3 * (num l (p + 10) 4 + 4))).2.1, 0)
end Hd
end Go.Proofs.YtnjlljdbghcobaaGreatDoor

/- A region that draws its order, whose operations only read what lies below a bound, and whose calls may make memory, but leave all below that bound as it was: one walk in the text's order. -/
namespace Go.Proofs.YtnjlljdbghcobaaGreatDoor
set_option maxRecDepth 100000
open Go.RowKit

/-- A world that is as W was below B. -/
structure Wd (B : Nat) (W : World) where
  w : World
  h : Below B W w

instance (B : Nat) (W : World) : Nonempty (Wd B W) := ⟨⟨W, Below.refl _ _⟩⟩

theorem region_made {P : Program} {id : Nat} {Q : Exit → Act → World → Prop} {a : Act} {w : World} {l : List Oper} (B : Nat) (W : World) (hm : P.follows .mixedOrders = true) (hB : Region.lexB .any l.toArray = true)
    (hC : Below B W w) (h : wpQuiet P l.toArray (fun w' => ∃ x : Wd B W, w' = x.w) (fun a' => ∀ x : Wd B W, Q .normal a' x.w) l a) : (Code.region id l.toArray true).wp P Q a w := by
  refine wp_region_quiet (C := fun w' => ∃ x : Wd B W, w' = x.w) hm hB ⟨⟨_, hC.drew⟩, rfl⟩ ?_
  have : (fun a' => ∀ w', (∃ x : Wd B W, w' = x.w) → Q .normal a' w') = fun a' => ∀ x : Wd B W, Q .normal a' x.w := by
    funext a'
    exact propext ⟨fun h x => h _ ⟨x, rfl⟩, fun h w' ⟨x, e⟩ => e ▸ h x⟩
  rw [this]
  simpa using h

/-- A contract at a call within such a region. -/
theorem made_call {P : Program} {f : FuncId} {args : Array Value} {B : Nat} {W : World} {v : Value} (x : Wd B W) (hB : B ≤ W.heap.size)
    (h : Calls P f args x.w fun e w' => e = .returned v ∧ Below x.w.heap.size x.w w') : Calls P f args x.w fun e w'' => e = .returned v ∧ ∃ y : Wd B W, w'' = y.w :=
  h.mono fun _ w' ⟨he, hb⟩ => ⟨he, ⟨w', x.h.trans (hb.mono (by have := x.h.size; omega))⟩, rfl⟩

/-- A cell below the bound. -/
theorem Wd.cell {B : Nat} {W : World} (x : Wd B W) {b o : Nat} (hb : b < B) : x.w.cell? ⟨b, o, none⟩ = W.cell? ⟨b, o, none⟩ := x.h.cell (p := ⟨b, o, none⟩) hb
end Go.Proofs.YtnjlljdbghcobaaGreatDoor

/- Contracts of header.shapeOf, mayBe, size. -/
namespace Go.Proofs.YtnjlljdbghcobaaGreatDoor
set_option maxRecDepth 100000
open Go.RowKit

/-- What a call leaves that hands back a value, and makes what it likes. -/
def Gvs (v : Value) (w : World) (e : Ending) (w' : World) : Prop := e = .returned v ∧ Below w.heap.size w w'

theorem fld0 (x y : Int) (W : World) : (Instr.field 252 (.agg #[.int .i64 x, .int .i64 y]) 0).run Tryz.prog W = .ok (.int .i64 x) W := by kernel_rfl
theorem fld1 (x y : Int) (W : World) : (Instr.field 252 (.agg #[.int .i64 x, .int .i64 y]) 1).run Tryz.prog W = .ok (.int .i64 y) W := by kernel_rfl

def shp (s : Nat) : Value := .agg #[.int .i64 (Hd.least s : Int), .int .i64 (Hd.ex s : Int)]

set_option maxHeartbeats 1000000 in
theorem shape_is (s : Nat) (w : World) : Calls Tryz.prog 189 #[.int .i64 (s : Int)] w (Gvs (shp s) w) := by
  by_cases h6 : s = 16
  · subst h6
    go_enter Tryz.func189, Tryz.ntmps189
    go_wp2
    refine bodyPost_ret (v := shp 16) (by simp [results, Tryz.results189, go_sem, shp, Hd.least, Hd.ex]) rfl ⟨rfl, ?_⟩
    exact below1 w _
  · by_cases h7 : s = 17
    · subst h7
      go_enter Tryz.func189, Tryz.ntmps189
      go_wp2
      refine bodyPost_ret (v := shp 17) (by simp [results, Tryz.results189, go_sem, shp, Hd.least, Hd.ex]) rfl ⟨rfl, ?_⟩
      exact below1 w _
    · by_cases h8 : s = 18
      · subst h8
        go_enter Tryz.func189, Tryz.ntmps189
        go_wp2
        refine bodyPost_ret (v := shp 18) (by simp [results, Tryz.results189, go_sem, shp, Hd.least, Hd.ex]) rfl ⟨rfl, ?_⟩
        exact below1 w _
      · have e1 : ((s : Int) == 16) = false := by rw [beq_eq_false_iff_ne]; omega
        have e2 : ((s : Int) == 17) = false := by rw [beq_eq_false_iff_ne]; omega
        have e3 : ((s : Int) == 18) = false := by rw [beq_eq_false_iff_ne]; omega
        have H6 := Lib.hid h6
        have H7 := Lib.hid h7
        have H8 := Lib.hid h8
        clear h6 h7 h8
        go_enter Tryz.func189, Tryz.ntmps189
        go_wp2
        refine bodyPost_ret (v := shp s) (by simp [results, Tryz.results189, go_sem, shp, Hd.least, Hd.ex, H6.out, H7.out, H8.out]) rfl ⟨rfl, ?_⟩
        exact below1 w _

/-- The world behind the box of a run. -/
def bxr (w : World) (s v : Int) : World := w.alloc (.cells #[.int .i64 s, .int .i64 v] 192)
theorem bxr_below (w : World) (s v : Int) : Below w.heap.size w (bxr w s v) := below1 w _
theorem bxr_le (w : World) (s v : Int) : w.heap.size + 1 ≤ (bxr w s v).heap.size := by simp [bxr]
theorem bxr_cells (w : World) (s v : Int) (x : Wd (w.heap.size + 1) (bxr w s v)) : x.w.cell? ⟨w.heap.size, 0, none⟩ = some (.int .i64 s) ∧ x.w.cell? ⟨w.heap.size, 1, none⟩ = some (.int .i64 v) := by
  have h := (Has.new w (.cells #[.int .i64 s, .int .i64 v] 192)).two
  refine ⟨?_, ?_⟩
  · rw [x.cell (by omega)]; exact h.1
  · rw [x.cell (by omega)]; exact h.2.1

set_option maxRecDepth 100000 in
set_option maxHeartbeats 1000000 in
theorem size_run (s v : Nat) (hv : v < 128) (w : World) : Calls Tryz.prog 187 #[.agg #[.int .i64 (s : Int), .int .i64 (v : Int)]] w (Gvs (.int .i64 ((Hd.least s + v : Nat) : Int)) w) := by
  have cc := bxr_cells w s v
  have c0 := fun x => (cc x).1
  have c1 := fun x => (cc x).2
  have HS := Lib.hid (fun w => shape_is s w)
  unfold shp at HS
  obtain ⟨m, hm⟩ : ∃ m, m = Hd.least s := ⟨_, rfl⟩
  have hm2 : m ≤ 11 := by rw [hm]; exact (Hd.least_le s).2
  rw [← hm] at HS ⊢
  have e1 : IntKind.i64.wrap ((m : Int) + (v : Int)) = ((m + v : Nat) : Int) := by rw [IntWalk.i64_in _ (by omega)]; omega
  have hfd := fld0 (m : Int) (Hd.ex s : Int)
  clear cc hm
  go_enter Tryz.func187, Tryz.ntmps187
  go_wp2
  refine region_made (w.heap.size + 1) (bxr w s v) (by kernel_rfl) (by kernel_rfl) (Below.refl _ _) ?_
  repeat (go_big_quiet_step (exact made_call _ (bxr_le _ _ _) (HS.out _)))
  refine wpQuiet_nil fun x => ?_
  have HX := Lib.hid ((bxr_below w s v).trans (x.h.mono (by omega)))
  go_wp2
  go_ret
  exact ⟨rfl, HX.out⟩

set_option maxRecDepth 100000 in
set_option maxHeartbeats 2000000 in
theorem maybe_yes (s v : Nat) (hs : s < 19) (hv : v < 2 ^ Hd.ex s) (w : World) : Calls Tryz.prog 231 #[.agg #[.int .i64 (s : Int), .int .i64 (v : Int)]] w (Gvs (.bool true) w) := by
  have cc := bxr_cells w s v
  have c0 := fun x => (cc x).1
  have c1 := fun x => (cc x).2
  have HS := Lib.hid (fun w => shape_is s w)
  unfold shp at HS
  obtain ⟨m, hm⟩ : ∃ m, m = Hd.ex s := ⟨_, rfl⟩
  have hm2 : m ≤ 7 := by rw [hm]; exact Hd.ex_le s
  rw [← hm] at HS hv
  have hp : 2 ^ m ≤ 2 ^ 7 := Nat.pow_le_pow_right (by omega) hm2
  have d1 : decide ((0 : Int) ≤ (s : Int)) = true := decide_eq_true (by omega)
  have d2 : decide ((s : Int) < 19) = true := decide_eq_true (by omega)
  have d3 : decide ((0 : Int) ≤ (v : Int)) = true := decide_eq_true (by omega)
  have e0 : min m 64 = m := by omega
  have e1 : Value.int .i64 (IntKind.i64.wrap ((2 : Int) ^ m)) = .int .i64 ((2 ^ m : Nat) : Int) := by
    have h : ((2 : Int) ^ m) = ((2 ^ m : Nat) : Int) := by simp
    rw [h, IntWalk.i64_in _ (by omega)]
  obtain ⟨q, hq⟩ : ∃ q, q = 2 ^ m := ⟨_, rfl⟩
  rw [← hq] at hv
  have d4 : decide ((v : Int) < (2 : Int) ^ m) = true := decide_eq_true (by have : ((2 : Int) ^ m) = ((2 ^ m : Nat) : Int) := by simp
                                                                            omega)
  have d5 : decide (v < 2 ^ m) = true := decide_eq_true (by omega)
  have hfd := fld1 (Hd.least s : Int) (m : Int)
  clear cc hm hq hp
  go_enter Tryz.func231, Tryz.ntmps231
  go_wp2
  refine region_made (w.heap.size + 1) (bxr w s v) (by kernel_rfl) (by kernel_rfl) (Below.refl _ _) ?_
  repeat (go_big_quiet_step (exact made_call _ (bxr_le _ _ _) (HS.out _)))
  refine wpQuiet_nil fun x => ?_
  have HX := Lib.hid ((bxr_below w s v).trans (x.h.mono (by omega)))
  go_wp2
  go_ret
  exact ⟨rfl, HX.out⟩
end Go.Proofs.YtnjlljdbghcobaaGreatDoor

/- A region that draws its order, of which all operations but the last ones only read: the first ones by one walk in the text's order, the last ones as they stand. -/
namespace Go.Proofs.YtnjlljdbghcobaaGreatDoor
set_option maxRecDepth 100000
open Go

theorem still_of_quiet {P : Program} {ops : Array Oper} {W : World} {Q : Act → Prop} : ∀ (l : List Oper) (a : Act), wpQuiet P ops (fun w' => w' = W) Q l a → wpStill P ops W Q l a := by
  intro l
  induction l with
  | nil => intro a h; exact h
  | cons o rest ih =>
    intro a h
    unfold wpQuiet at h
    unfold wpStill
    split
    · rename_i hw
      rw [if_pos hw] at h
      obtain ⟨v, hv, hn⟩ := h
      have h1 := hv W rfl
      have hn := ih _ hn
      unfold Oper.quietAt at h1
      unfold Oper.still
      generalize (execOp a.eval o).run P W = r at h1
      cases r with
      | ok x w' =>
        cases x with
        | value v' => obtain ⟨e1, e2⟩ := h1; subst e2; exact ⟨e1, hn⟩
        | skip => obtain ⟨e1, e2⟩ := h1; subst e2; exact ⟨e1, hn⟩
        | enter f args => obtain ⟨e1, e2⟩ := h1; exact ⟨e1, v, e2, hn⟩
        | _ => exact h1.elim
      | halt x w' => exact h1.elim
    · rename_i hw
      rw [if_neg hw] at h
      exact ih _ h

theorem region_qtail {P : Program} {id : Nat} {Q : Exit → Act → World → Prop} {a : Act} {w : World} {l : List Oper} (n : Nat) (hm : P.follows .mixedOrders = true) (hB : Region.lexTailB .any l.toArray n = true)
    (h : ∀ W : World, W = w.drew → wpQuiet P l.toArray (fun w' => w' = W) (fun a' => wpList P l.toArray Q (l.drop n) a' W) (l.take n) a) : (Code.region id l.toArray true).wp P Q a w :=
  wp_region_still_tail n hm hB (still_of_quiet _ _ (h _ rfl))
end Go.Proofs.YtnjlljdbghcobaaGreatDoor
