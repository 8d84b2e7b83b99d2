/- Plain facts on the two tables of symbols: no Go in them. -/
import Derived.Test.YtnjlljdbghcobaaGreatDoorKheadp
import Derived.Test.YtnjlljdbghcobaaGreatDoorHcmp
import Derived.Test.YtnjlljdbghcobaaGreatDoorRows
import Derived.Lib.AppendZeros
import Derived.Deep.RegionLawGrows

namespace Go.Proofs.YtnjlljdbghcobaaGreatDoor
set_option maxRecDepth 100000
namespace Sy

def lf : List Nat := [3, 4, 5, 6, 7, 8, 9, 10, 11, 13, 15, 17, 19, 23, 27, 31, 35, 43, 51, 59, 67, 83, 99, 115, 131, 163, 195, 227, 258]
def lb : List Nat := [0, 0, 0, 0, 0, 0, 0, 0, 1, 1, 1, 1, 2, 2, 2, 2, 3, 3, 3, 3, 4, 4, 4, 4, 5, 5, 5, 5, 0]
def df : List Nat := [1, 2, 3, 4, 5, 7, 9, 13, 17, 25, 33, 49, 65, 97, 129, 193, 257, 385, 513, 769, 1025, 1537, 2049, 3073, 4097, 6145, 8193, 12289, 16385, 24577]
def db : List Nat := [0, 0, 0, 0, 1, 1, 2, 2, 3, 3, 4, 4, 5, 5, 6, 6, 7, 7, 8, 8, 9, 9, 10, 10, 11, 11, 12, 12, 13, 13]

/-- The entry at a place. -/
def at' (l : List Nat) (i : Nat) : Nat := l[i]?.getD 0

/-- Which of the first numbers of a list is the last one that is not above n. -/
def lastTo (l : List Nat) (n : Nat) : Nat → Nat
  | 0 => 0
  | i + 1 => if at' l i ≤ n then i else lastTo l n i

theorem lastTo_succ (l : List Nat) (n i : Nat) : lastTo l n (i + 1) = if at' l i ≤ n then i else lastTo l n i := rfl

/-- The first number of a group: per symbols each, with as many bits beside them as the groups from the second on count. -/
def start (least per : Nat) : Nat → Nat
  | 0 => least
  | g + 1 => start least per g + per * 2 ^ (g - 1)

theorem start_succ (least per g : Nat) : start least per (g + 1) = start least per g + per * 2 ^ (g - 1) := rfl

theorem lf_rises : ∀ i, i < 28 → at' lf i < at' lf (i + 1) := by decide
theorem df_rises : ∀ i, i < 29 → at' df i < at' df (i + 1) := by decide

theorem rises {l : List Nat} {N : Nat} (h : ∀ i, i < N → at' l i < at' l (i + 1)) (i j : Nat) (hij : i ≤ j) (hj : j ≤ N) : at' l i ≤ at' l j := by
  induction j with
  | zero => obtain rfl : i = 0 := by omega
            exact Nat.le_refl _
  | succ j ih =>
    rcases Nat.lt_or_ge i (j + 1) with h1 | h1
    · have := ih (by omega) (by omega)
      have := h j (by omega)
      omega
    · obtain rfl : i = j + 1 := by omega
      exact Nat.le_refl _

/-- Where n stands between two entries, the last one is the lower one. -/
theorem last_is {l : List Nat} {N : Nat} (h : ∀ i, i < N → at' l i < at' l (i + 1)) (n k : Nat) (hk : k ≤ N) (h1 : at' l k ≤ n) (h2 : k < N → n < at' l (k + 1)) : lastTo l n (N + 1) = k := by
  have : ∀ j, k < j → j ≤ N + 1 → lastTo l n j = k := by
    intro j
    induction j with
    | zero => intro _; omega
    | succ j ih =>
      intro ha hb
      rw [lastTo_succ]
      by_cases he : j = k
      · subst he; rw [if_pos h1]
      · have h3 := rises h (k + 1) j (by omega) (by omega)
        have h4 := h2 (by omega)
        rw [if_neg (by omega)]
        exact ih (by omega) (by omega)
  exact this _ (by omega) (Nat.le_refl _)

/-- What the last one is. -/
theorem last_has {l : List Nat} {N : Nat} (_ : ∀ i, i < N → at' l i < at' l (i + 1)) (n : Nat) (h0 : at' l 0 ≤ n) : lastTo l n (N + 1) ≤ N ∧ at' l (lastTo l n (N + 1)) ≤ n ∧ (lastTo l n (N + 1) < N → n < at' l (lastTo l n (N + 1) + 1)) := by
  have : ∀ j, 0 < j → j ≤ N + 1 → lastTo l n j < j ∧ at' l (lastTo l n j) ≤ n ∧ (lastTo l n j + 1 < j → n < at' l (lastTo l n j + 1)) := by
    intro j
    induction j with
    | zero => intro _; omega
    | succ j ih =>
      intro _ hb
      rw [lastTo_succ]
      by_cases he : at' l j ≤ n
      · rw [if_pos he]; exact ⟨by omega, he, by omega⟩
      · rw [if_neg he]
        rcases Nat.eq_zero_or_pos j with hj | hj
        · subst hj; exact absurd h0 he
        · have := ih hj (by omega)
          refine ⟨by omega, this.2.1, fun hlt => ?_⟩
          rcases Nat.lt_or_ge (lastTo l n j + 1) j with h5 | h5
          · exact this.2.2 h5
          · have : lastTo l n j + 1 = j := by omega
            rw [this]; omega
  have := this (N + 1) (by omega) (Nat.le_refl _)
  exact ⟨by omega, this.2.1, fun h => this.2.2 (by omega)⟩

/-- The symbol of a length, of a distance, counted from 0. -/
def lk (n : Nat) : Nat := lastTo lf n 29
def dk (n : Nat) : Nat := lastTo df n 30

theorem lk_has (n : Nat) (h : 3 ≤ n) : lk n ≤ 28 ∧ at' lf (lk n) ≤ n ∧ (lk n < 28 → n < at' lf (lk n + 1)) := last_has lf_rises n h
theorem dk_has (n : Nat) (h : 1 ≤ n) : dk n ≤ 29 ∧ at' df (dk n) ≤ n ∧ (dk n < 29 → n < at' df (dk n + 1)) := last_has df_rises n h
theorem lk_is (n k : Nat) (hk : k ≤ 28) (h1 : at' lf k ≤ n) (h2 : k < 28 → n < at' lf (k + 1)) : lk n = k := last_is lf_rises n k hk h1 h2
theorem dk_is (n k : Nat) (hk : k ≤ 29) (h1 : at' df k ≤ n) (h2 : k < 29 → n < at' df (k + 1)) : dk n = k := last_is df_rises n k hk h1 h2

/-- Each entry ends where the next one begins. -/
theorem lf_next : ∀ k, k < 27 → at' lf (k + 1) = at' lf k + 2 ^ at' lb k := by decide
theorem df_next : ∀ k, k < 29 → at' df (k + 1) = at' df k + 2 ^ at' db k := by decide
theorem lf_group : ∀ g, g < 7 → ∀ q, q < 4 → at' lf (4 * g + q) = start 3 4 g + q * 2 ^ (g - 1) ∧ at' lb (4 * g + q) = g - 1 := by decide
theorem df_group : ∀ g, g < 15 → ∀ q, q < 2 → at' df (2 * g + q) = start 1 2 g + q * 2 ^ (g - 1) ∧ at' db (2 * g + q) = g - 1 := by decide
theorem lf_start : ∀ g, g < 8 → start 3 4 g ≤ 259 := by decide
theorem df_start : ∀ g, g < 16 → start 1 2 g ≤ 32769 := by decide
theorem lf_end : start 3 4 7 = 259 := by decide
theorem df_end : start 1 2 15 = 32769 := by decide
theorem lb_le : ∀ k, k < 29 → at' lb k ≤ 5 := by decide
theorem db_le : ∀ k, k < 30 → at' db k ≤ 13 := by decide
theorem lf_le : ∀ k, k < 29 → 3 ≤ at' lf k ∧ at' lf k + 2 ^ at' lb k ≤ 259 := by decide
theorem df_le : ∀ k, k < 30 → 1 ≤ at' df k ∧ at' df k + 2 ^ at' db k ≤ 32769 := by decide

/-- What a round of 'symbol' tells, told by the table. -/
theorem l_group (n g : Nat) (hg : g < 7) (hn : n ≤ 257) (h1 : start 3 4 g ≤ n) (h2 : n - start 3 4 g < 4 * 2 ^ (g - 1)) :
    4 * g + (n - start 3 4 g) / 2 ^ (g - 1) = lk n ∧ (n - start 3 4 g) % 2 ^ (g - 1) = n - at' lf (lk n) := by
  have hp : 0 < 2 ^ (g - 1) := Nat.pow_pos (by omega)
  have hq : (n - start 3 4 g) / 2 ^ (g - 1) < 4 := (Nat.div_lt_iff_lt_mul hp).2 h2
  have hd := Nat.div_add_mod (n - start 3 4 g) (2 ^ (g - 1))
  have hm := Nat.mod_lt (n - start 3 4 g) hp
  obtain ⟨q, eq⟩ : ∃ q, q = (n - start 3 4 g) / 2 ^ (g - 1) := ⟨_, rfl⟩
  obtain ⟨r, er⟩ : ∃ r, r = (n - start 3 4 g) % 2 ^ (g - 1) := ⟨_, rfl⟩
  rw [← eq] at hq hd ⊢
  rw [← er] at hd hm ⊢
  obtain ⟨e1, e2⟩ := lf_group g hg q hq
  rw [Nat.mul_comm] at hd
  have hk : lk n = 4 * g + q := by
    refine lk_is n _ (by omega) (by omega) fun hlt => ?_
    rcases Nat.lt_or_ge (4 * g + q) 27 with h | h
    · rw [lf_next _ h, e2]; omega
    · obtain e : 4 * g + q = 27 := by omega
      rw [e]
      show n < 258
      omega
  rw [hk]
  exact ⟨rfl, by omega⟩

theorem d_group (n g : Nat) (hg : g < 15) (h1 : start 1 2 g ≤ n) (h2 : n - start 1 2 g < 2 * 2 ^ (g - 1)) :
    2 * g + (n - start 1 2 g) / 2 ^ (g - 1) = dk n ∧ (n - start 1 2 g) % 2 ^ (g - 1) = n - at' df (dk n) := by
  have hp : 0 < 2 ^ (g - 1) := Nat.pow_pos (by omega)
  have hq : (n - start 1 2 g) / 2 ^ (g - 1) < 2 := (Nat.div_lt_iff_lt_mul hp).2 h2
  have hd := Nat.div_add_mod (n - start 1 2 g) (2 ^ (g - 1))
  have hm := Nat.mod_lt (n - start 1 2 g) hp
  obtain ⟨q, eq⟩ : ∃ q, q = (n - start 1 2 g) / 2 ^ (g - 1) := ⟨_, rfl⟩
  obtain ⟨r, er⟩ : ∃ r, r = (n - start 1 2 g) % 2 ^ (g - 1) := ⟨_, rfl⟩
  rw [← eq] at hq hd ⊢
  rw [← er] at hd hm ⊢
  obtain ⟨e1, e2⟩ := df_group g hg q hq
  rw [Nat.mul_comm] at hd
  have hk : dk n = 2 * g + q := by
    refine dk_is n _ (by omega) (by omega) fun hlt => ?_
    rw [df_next _ hlt, e2]; omega
  rw [hk]
  exact ⟨rfl, by omega⟩

/-- What 'number' adds up, told by the table. -/
theorem l_sum (k : Nat) (hk : k < 28) : start 3 4 (k / 4) + k % 4 * 2 ^ (k / 4 - 1) = at' lf k ∧ at' lb k = k / 4 - 1 := by
  have h := lf_group (k / 4) (by omega) (k % 4) (by omega)
  rw [show 4 * (k / 4) + k % 4 = k from by omega] at h
  exact ⟨h.1.symm, h.2⟩
theorem d_sum (k : Nat) (hk : k < 30) : start 1 2 (k / 2) + k % 2 * 2 ^ (k / 2 - 1) = at' df k ∧ at' db k = k / 2 - 1 := by
  have h := df_group (k / 2) (by omega) (k % 2) (by omega)
  rw [show 2 * (k / 2) + k % 2 = k from by omega] at h
  exact ⟨h.1.symm, h.2⟩
end Sy
end Go.Proofs.YtnjlljdbghcobaaGreatDoor

/- Streams, in plain numbers: what DEFLATE's bits tell. Nothing of the program is named here. -/
namespace Go.Proofs.YtnjlljdbghcobaaGreatDoor
set_option maxRecDepth 100000
namespace If
open Hd (num rd head)

/-- n bytes more, each the one that stands so far back. -/
def cp (far : Nat) : Nat → List Nat → List Nat
  | 0, out => out
  | n + 1, out => cp far n (out ++ [out[out.length - far]?.getD 0])
theorem cp_length (far n : Nat) (out : List Nat) : (cp far n out).length = out.length + n := by
  induction n generalizing out with
  | zero => rfl
  | succ n ih => simp only [cp]; rw [ih, List.length_append]; simp; omega

/-- A copy, behind its length's symbol s: the bytes, the place behind, the error. -/
noncomputable def copy (l : List Bool) (dist : List Nat) (most s p : Nat) (out : List Nat) : List Nat × Nat × Int :=
  if 286 ≤ s then ([], 0, 13) else
  if l.length < p + Sy.at' Sy.lb (s - 257) then ([], 0, 4) else
  if ∀ x ∈ dist, x = 0 then ([], 0, 13) else
  if (rd dist l (p + Sy.at' Sy.lb (s - 257))).2.2 ≠ 0 then ([], 0, (rd dist l (p + Sy.at' Sy.lb (s - 257))).2.2) else
  if 30 ≤ (rd dist l (p + Sy.at' Sy.lb (s - 257))).1 then ([], 0, 13) else
  if l.length < (rd dist l (p + Sy.at' Sy.lb (s - 257))).2.1 + Sy.at' Sy.db (rd dist l (p + Sy.at' Sy.lb (s - 257))).1 then ([], 0, 4) else
  if out.length < Sy.at' Sy.df (rd dist l (p + Sy.at' Sy.lb (s - 257))).1 + num l (rd dist l (p + Sy.at' Sy.lb (s - 257))).2.1 (Sy.at' Sy.db (rd dist l (p + Sy.at' Sy.lb (s - 257))).1) then ([], 0, 14) else
  if most < out.length + (Sy.at' Sy.lf (s - 257) + num l p (Sy.at' Sy.lb (s - 257))) then ([], 0, 3) else
  (cp (Sy.at' Sy.df (rd dist l (p + Sy.at' Sy.lb (s - 257))).1 + num l (rd dist l (p + Sy.at' Sy.lb (s - 257))).2.1 (Sy.at' Sy.db (rd dist l (p + Sy.at' Sy.lb (s - 257))).1)) (Sy.at' Sy.lf (s - 257) + num l p (Sy.at' Sy.lb (s - 257))) out,
   (rd dist l (p + Sy.at' Sy.lb (s - 257))).2.1 + Sy.at' Sy.db (rd dist l (p + Sy.at' Sy.lb (s - 257))).1, 0)

/-- Symbols up to the block's end. -/
noncomputable def syms (l : List Bool) (lit dist : List Nat) (most : Nat) : Nat → List Nat → Nat → List Nat × Nat × Int
  | 0, out, p => (out, p, 0)
  | k + 1, out, p =>
    if (rd lit l p).2.2 ≠ 0 then ([], 0, (rd lit l p).2.2) else
    if (rd lit l p).1 = 256 then (out, (rd lit l p).2.1, 0) else
    if 256 < (rd lit l p).1 then
      (if (copy l dist most (rd lit l p).1 (rd lit l p).2.1 out).2.2 ≠ 0 then ([], 0, (copy l dist most (rd lit l p).1 (rd lit l p).2.1 out).2.2) else
        syms l lit dist most k (copy l dist most (rd lit l p).1 (rd lit l p).2.1 out).1 (copy l dist most (rd lit l p).1 (rd lit l p).2.1 out).2.1) else
    if most ≤ out.length then ([], 0, 3) else
    syms l lit dist most k (out ++ [(rd lit l p).1]) (rd lit l p).2.1

/-- The next whole byte's place. -/
def up (p : Nat) : Nat := (p + 7) / 8 * 8
/-- A stored block, behind its three bits. -/
def stored (l : List Bool) (most p : Nat) (out : List Nat) : List Nat × Nat × Int :=
  if l.length < up p + 32 then ([], 0, 4) else
  if num l (up p) 16 + num l (up p + 16) 16 ≠ 65535 ∨ num l (up p) 16 &&& num l (up p + 16) 16 ≠ 0 then ([], 0, 5) else
  if most < out.length + num l (up p) 16 then ([], 0, 3) else
  if l.length < up p + 32 + 8 * num l (up p) 16 then ([], 0, 4) else
  (out ++ (List.range (num l (up p) 16)).map fun i => Bs.byteAt l ((up p + 32) / 8 + i), up p + 32 + 8 * num l (up p) 16, 0)

def fixL : List Nat := List.replicate 144 8 ++ List.replicate 112 9 ++ List.replicate 24 7 ++ List.replicate 8 8
def fixD : List Nat := List.replicate 32 5

/-- A dynamic block, behind its three bits. -/
noncomputable def dynamic (l : List Bool) (most p : Nat) (out : List Nat) : List Nat × Nat × Int :=
  if (head l p).2.2.2 ≠ 0 then ([], 0, (head l p).2.2.2) else
  if (head l p).1[256]?.getD 0 = 0 then ([], 0, 13) else
  if newE (Hd.zz (head l p).1) ≠ 0 then ([], 0, newE (Hd.zz (head l p).1)) else
  if newE (Hd.zz (head l p).2.1) ≠ 0 ∧ ¬ (∀ x ∈ (head l p).2.1, x = 0) then ([], 0, newE (Hd.zz (head l p).2.1)) else
  syms l (head l p).1 (head l p).2.1 most (l.length + 1) out (head l p).2.2.1

/-- A block: the bytes, the place behind, the error. -/
noncomputable def block (l : List Bool) (most p : Nat) (out : List Nat) : List Nat × Nat × Int :=
  if l.length < p + 3 then ([], 0, 4) else
  if num l (p + 1) 2 = 0 then stored l most (p + 3) out else
  if num l (p + 1) 2 = 1 then syms l fixL fixD most (l.length + 1) out (p + 3) else
  if num l (p + 1) 2 = 2 then dynamic l most (p + 3) out else ([], 0, 13)

/-- Blocks, up to the last one. -/
noncomputable def blocks (l : List Bool) (most : Nat) : Nat → List Nat → Nat → List Nat × Nat × Int
  | 0, out, p => (out, p, 0)
  | k + 1, out, p =>
    if (block l most p out).2.2 ≠ 0 then ([], 0, (block l most p out).2.2) else
    if num l p 1 = 1 then ((block l most p out).1, (block l most p out).2.1, 0) else blocks l most k (block l most p out).1 (block l most p out).2.1

/-- What a stream tells: the bytes, how many bytes were begun, the error. -/
noncomputable def decode (l : List Bool) (most : Int) : List Nat × Nat × Int :=
  if most < 0 ∨ 65536 < most then ([], 0, 2) else
  if (blocks l most.toNat (l.length + 1) [] 0).2.2 ≠ 0 then ([], 0, (blocks l most.toNat (l.length + 1) [] 0).2.2) else
  ((blocks l most.toNat (l.length + 1) [] 0).1, ((blocks l most.toNat (l.length + 1) [] 0).2.1 + 7) / 8, 0)

/-! ### A row and its beginning -/

theorem take_at (l : List Bool) (m i : Nat) (h : i < m) : (l.take m)[i]?.getD false = l[i]?.getD false := by
  rw [List.getElem?_take_of_lt h]
theorem vb_take (l : List Bool) (m p n : Nat) (h : p + n ≤ m) : Hf.vb (l.take m) p n = Hf.vb l p n := by
  induction n with
  | zero => rfl
  | succ n ih => simp only [Hf.vb]; rw [ih (by omega), take_at l m (p + n) (by omega)]
theorem num_take (l : List Bool) (m p n : Nat) (h : p + n ≤ m) : num (l.take m) p n = num l p n := by
  unfold num
  rw [List.drop_take, List.take_take, Nat.min_eq_left (by omega)]

/-- What is read of a row's beginning: the same, where it reaches so far; else there is too little. -/
theorem rd_take_go (ls : List Nat) (l : List Bool) (m p : Nat) (hm : m ≤ l.length) {j : Nat} {r : Nat × Nat × Int} (h : Hf.Rd ls l p j r) (hr : r.2.2 = 0) (hp : p + j ≤ m) :
    (r.2.1 ≤ m → Hf.Rd ls (l.take m) p j r) ∧ (m < r.2.1 → Hf.Rd ls (l.take m) p j (0, 0, 4)) := by
  have hlen : (l.take m).length = m := by rw [List.length_take]; omega
  induction h with
  | short j h1 h2 => simp at hr
  | hit j k h1 h2 h3 =>
    constructor
    · intro h
      simp only at h
      exact Hf.Rd.hit j k h1 (by rw [hlen]; omega) ⟨h3.1, h3.2.1, by rw [vb_take _ _ _ _ (by omega)]; exact h3.2.2⟩
    · intro h
      simp only at h
      exact Hf.Rd.short j h1 (by rw [hlen]; omega)
  | miss j h1 h2 h3 h4 => simp at hr
  | next j k r h1 h2 h3 h4 h5 ih =>
    by_cases he : p + j = m
    · constructor
      · intro h
        have := (Hd.rd_facts h5).1 hr
        omega
      · intro _
        exact Hf.Rd.short j h1 (by rw [hlen]; omega)
    · have ih := ih hr (by omega)
      have e1 : ∀ k, ¬ Hf.Hit ls (l.take m) p (j + 1) k := fun k h => h3 k ⟨h.1, h.2.1, by rw [← vb_take l m p (j + 1) (by omega)]; exact h.2.2⟩
      have e2 : Hf.Beg ls (l.take m) p (j + 1) k := ⟨h4.1, h4.2.1, by rw [vb_take l m p (j + 1) (by omega)]; exact h4.2.2⟩
      exact ⟨fun h => Hf.Rd.next j k r h1 (by rw [hlen]; omega) e1 e2 (ih.1 h), fun h => Hf.Rd.next j k _ h1 (by rw [hlen]; omega) e1 e2 (ih.2 h)⟩
  | last => simp at hr

theorem rd_take {ls : List Nat} {l : List Bool} {m p y q : Nat} (hm : m ≤ l.length) (hp : p ≤ m) (h : rd ls l p = (y, q, 0)) : rd ls (l.take m) p = if q ≤ m then (y, q, 0) else (0, 0, 4) := by
  obtain ⟨r, hr⟩ := Hd.rd_ex ls l p 15 0 rfl (by omega) (by omega)
  have e := Hd.rd_is hr
  rw [h] at e
  subst e
  have hh := rd_take_go ls l m p hm hr rfl (by omega)
  by_cases hq : q ≤ m
  · rw [if_pos hq]; exact Hd.rd_is (hh.1 hq)
  · rw [if_neg hq]; exact Hd.rd_is (hh.2 (by simpa using hq))
end If
end Go.Proofs.YtnjlljdbghcobaaGreatDoor

/- The lengths of fixed blocks: slices.Grow, slices.Concat, fixedLit, fixedDist. -/
namespace Go.Proofs.YtnjlljdbghcobaaGreatDoor
set_option maxRecDepth 100000
open Go.RowKit

set_option maxHeartbeats 2000000 in
theorem grow_nil (m : Nat) (h0 : 0 < m) (hm : m ≤ 1000) (w : World) : Calls Tryz.prog 136 #[.slice none 0 0, .int .i64 (m : Int)] w fun e w' => ∃ cap, e = .returned (.slice (some ⟨w.heap.size, 0, none⟩) 0 cap) ∧ Own w.heap.size w' (.slice (some ⟨w.heap.size, 0, none⟩) 0 cap) [] ∧ Below w.heap.size w w' := by
  obtain ⟨i0, hi, hz0, hz1, hz2⟩ := info_parts Tryz.infoInt
  have hr := Lib.run_append_nil_zeros (P := Tryz.prog) w 33 3 33 3 i0 (.int .i64 0) .i64 .i64 Tryz.underlying33 Tryz.underlying3 hi hz0 m h0 (by rw [hz1]; decide) (by omega) (by rw [hz2]; omega)
  have hge := grownCap_ge w m 0 3
  have hcm : grownCap w m 0 3 ≤ maxLen := grownCap_le_maxLen w m 0 3 (by unfold maxLen; omega)
  generalize grownCap w m 0 3 = cp at hr hge hcm
  have HR := Lib.hid hr
  have HCM := Lib.hid hcm
  have HC := Lib.hid hge
  have hle1 : (m : Int) ≤ (cp : Int) := by omega
  have hsz : (Builtin.zeroCells (Value.int .i64 0).cells m ++ Builtin.zeroCells (Value.int .i64 0).cells (cp - m)).size = cp := by
    rw [Array.size_append, size_zeroCells, size_zeroCells]; simp [Value.cells]; omega
  have HSZ := Lib.hid hsz
  generalize Builtin.zeroCells (Value.int .i64 0).cells m ++ Builtin.zeroCells (Value.int .i64 0).cells (cp - m) = cells at HR HSZ
  clear hr hcm hsz hge
  go_enter Tryz.func136, Tryz.ntmps136
  go_wp2_with (at_builtin; refine Lib.wpList_append_run _ rfl (.tmp 20) (.tmp 21) _ _ rfl _ _ rfl rfl _ _ HR.out ?_)
  go_ret
  refine ⟨cp, rfl, ⟨rfl, Or.inr ⟨w.heap.size, cp, cells, rfl, Nat.le_refl _, ?_, Nat.zero_le _, HCM.out, by rw [HSZ.out]; omega, by simp [vn]⟩⟩, below_drewN (below1 w _) 1⟩
  exact Has.new w _

theorem Own.grown {w w' : World} {base : Nat} {v : Value} {xs : List Nat} (h : Own base w v xs) (hg : w.grownBy w' v.ownBlock) {g : Nat} (hlt : g < base) (hw : base ≤ w.heap.size) : w'.heap[g]? = w.heap[g]? :=
  hg.block g (by omega) (fun e => by have := h.block g e.symm; omega)

set_option maxHeartbeats 8000000 in
/-- Four lists of numbers, one behind the other. -/
theorem concat4 (C : Nat) (g0 g1 g2 g3 n0 n1 n2 n3 q0 q1 q2 q3 : Nat) (w : World) (hC : Has w C (.cells #[.slice (some ⟨g0, 0, none⟩) n0 n0, .slice (some ⟨g1, 0, none⟩) n1 n1, .slice (some ⟨g2, 0, none⟩) n2 n2, .slice (some ⟨g3, 0, none⟩) n3 n3] 33 (0, 0)))
    (h0 : Has w g0 (nums (List.replicate n0 q0))) (h1 : Has w g1 (nums (List.replicate n1 q1))) (h2 : Has w g2 (nums (List.replicate n2 q2))) (h3 : Has w g3 (nums (List.replicate n3 q3)))
    (p0 : 0 < n0) (p1 : 0 < n1) (p2 : 0 < n2) (p3 : 0 < n3) (l0 : n0 ≤ 200) (l1 : n1 ≤ 200) (l2 : n2 ≤ 200) (l3 : n3 ≤ 200) :
    Calls Tryz.prog 88 #[.slice (some ⟨C, 0, none⟩) 4 4] w fun e w' => ∃ v, e = .returned v ∧ Own w.heap.size w' v (List.replicate n0 q0 ++ List.replicate n1 q1 ++ List.replicate n2 q2 ++ List.replicate n3 q3) ∧ Below w.heap.size w w' := by
  have c0 : w.cell? ⟨C, 0, none⟩ = some (.slice (some ⟨g0, 0, none⟩) n0 n0) := by rw [hC.cell]; rfl
  have c1 : w.cell? ⟨C, 1, none⟩ = some (.slice (some ⟨g1, 0, none⟩) n1 n1) := by rw [hC.cell]; rfl
  have c2 : w.cell? ⟨C, 2, none⟩ = some (.slice (some ⟨g2, 0, none⟩) n2 n2) := by rw [hC.cell]; rfl
  have c3 : w.cell? ⟨C, 3, none⟩ = some (.slice (some ⟨g3, 0, none⟩) n3 n3) := by rw [hC.cell]; rfl
  have HC := Lib.hid hC
  have H0 := Lib.hid h0
  have H1 := Lib.hid h1
  have H2 := Lib.hid h2
  have H3 := Lib.hid h3
  clear hC h0 h1 h2 h3
  go_enter Tryz.func88, Tryz.ntmps88
  go_wp2_with fail
  refine wp_loop_rounds 5 ?_
  rw [rounds_succ]
  go_wp2_with fail
  rw [rounds_succ]
  go_wp2_with fail
  rw [rounds_succ]
  go_wp2_with fail
  rw [rounds_succ]
  go_wp2_with fail
  rw [rounds_succ]
  go_wp2_with fail
  have hgr := grow_nil (n0 + n1 + n2 + n3) (by omega) (by omega) w
  push_cast at hgr
  refine hgr.mono ?_
  clear hgr
  rintro e w1 ⟨cap, rfl, hO0, hb0⟩
  have HCl := Lib.hid HC.out.lt
  have HO0 := Lib.hid hO0
  have HB0 := Lib.hid hb0
  obtain ⟨v0, hv0⟩ : ∃ v0, v0 = Value.slice (some ⟨w.heap.size, 0, none⟩) 0 cap := ⟨_, rfl⟩
  rw [← hv0] at HO0 ⊢
  clear c0 c1 c2 c3 hO0 hb0 hv0
  go_wp2_with fail
  refine wp_loop_rounds 5 ?_
  have hC0 := HC.out.below HB0.out HCl.out
  have c0 : w1.cell? ⟨C, 0, none⟩ = some (.slice (some ⟨g0, 0, none⟩) n0 n0) := by rw [hC0.cell]; rfl
  obtain ⟨v1, w2, hrun, hO, hg⟩ := nums_append HO0.out 33 g0 n0 n0 (List.replicate n0 q0) (H0.out.below HB0.out H0.out.lt) (by simp) p0 (by simp; omega) HB0.out.size
  have HR := Lib.hid hrun
  have HB1 := Lib.hid (HB0.out.grown hg HB0.out.size (fun q hq => HO0.out.block q hq))
  have HO1 := Lib.hid hO
  clear hC0 hrun hg hO
  rw [rounds_succ]
  go_wp2_with (at_builtin; (refine wpList_append_is rfl (.tmp 31) (.tmp 32) 33 rfl _ _ _ _ rfl rfl HR.out ?_))
  clear HR c0 HB0 HO0
  have hC1 := HC.out.below HB1.out HCl.out
  have c1 : w2.cell? ⟨C, 1, none⟩ = some (.slice (some ⟨g1, 0, none⟩) n1 n1) := by rw [hC1.cell]; rfl
  obtain ⟨v2, w3, hrun, hO, hg⟩ := nums_append HO1.out 33 g1 n1 n1 (List.replicate n1 q1) (H1.out.below HB1.out H1.out.lt) (by simp) p1 (by simp; omega) HB1.out.size
  have HR := Lib.hid hrun
  have HB2 := Lib.hid (HB1.out.grown hg HB1.out.size (fun q hq => HO1.out.block q hq))
  have HO2 := Lib.hid hO
  clear hC1 hrun hg hO
  rw [rounds_succ]
  go_wp2_with (at_builtin; (refine wpList_append_is rfl (.tmp 31) (.tmp 32) 33 rfl _ _ _ _ rfl rfl HR.out ?_))
  clear HR c1 HB1 HO1
  have hC2 := HC.out.below HB2.out HCl.out
  have c2 : w3.cell? ⟨C, 2, none⟩ = some (.slice (some ⟨g2, 0, none⟩) n2 n2) := by rw [hC2.cell]; rfl
  obtain ⟨v3, w4, hrun, hO, hg⟩ := nums_append HO2.out 33 g2 n2 n2 (List.replicate n2 q2) (H2.out.below HB2.out H2.out.lt) (by simp) p2 (by simp; omega) HB2.out.size
  have HR := Lib.hid hrun
  have HB3 := Lib.hid (HB2.out.grown hg HB2.out.size (fun q hq => HO2.out.block q hq))
  have HO3 := Lib.hid hO
  clear hC2 hrun hg hO
  rw [rounds_succ]
  go_wp2_with (at_builtin; (refine wpList_append_is rfl (.tmp 31) (.tmp 32) 33 rfl _ _ _ _ rfl rfl HR.out ?_))
  clear HR c2 HB2 HO2
  have hC3 := HC.out.below HB3.out HCl.out
  have c3 : w4.cell? ⟨C, 3, none⟩ = some (.slice (some ⟨g3, 0, none⟩) n3 n3) := by rw [hC3.cell]; rfl
  obtain ⟨v4, w5, hrun, hO, hg⟩ := nums_append HO3.out 33 g3 n3 n3 (List.replicate n3 q3) (H3.out.below HB3.out H3.out.lt) (by simp) p3 (by simp; omega) HB3.out.size
  have HR := Lib.hid hrun
  have HB4 := Lib.hid (HB3.out.grown hg HB3.out.size (fun q hq => HO3.out.block q hq))
  have HO4 := Lib.hid hO
  clear hC3 hrun hg hO
  rw [rounds_succ]
  go_wp2_with (at_builtin; (refine wpList_append_is rfl (.tmp 31) (.tmp 32) 33 rfl _ _ _ _ rfl rfl HR.out ?_))
  clear HR c3 HB3 HO3
  rw [rounds_succ]
  go_wp2_with fail
  go_ret
  exact ⟨_, rfl, by simpa using HO4.out, HB4.out⟩
end Go.Proofs.YtnjlljdbghcobaaGreatDoor

/- Tokens, in plain numbers: what a list of them tells. -/
namespace Go.Proofs.YtnjlljdbghcobaaGreatDoor
set_option maxRecDepth 100000
namespace If

/-- A token: a byte (len and far 0), or a copy. -/
structure Tk where
  len : Nat
  far : Nat
  lit : Nat

def tell1 (out : List Nat) (t : Tk) : List Nat := if t.len = 0 then out ++ [t.lit] else cp t.far t.len out
def tell (ts : List Tk) : List Nat := ts.foldl tell1 []
def Byt (t : Tk) : Prop := t.len = 0 ∧ t.far = 0 ∧ t.lit < 256
def Cop (t : Tk) : Prop := t.lit = 0 ∧ 3 ≤ t.len ∧ t.len ≤ 258 ∧ 1 ≤ t.far ∧ t.far ≤ 32768
def Val (t : Tk) (n : Nat) : Prop := (Byt t ∨ Cop t) ∧ t.far ≤ n
def sz (t : Tk) : Nat := if t.len = 0 then 1 else t.len
theorem sz_pos (t : Tk) : 1 ≤ sz t := by unfold sz; split <;> omega
theorem tell1_length (out : List Nat) (t : Tk) : (tell1 out t).length = out.length + sz t := by
  unfold tell1 sz
  split
  · simp
  · rw [cp_length]
theorem tell_snoc (ts : List Tk) (t : Tk) : tell (ts ++ [t]) = tell1 (tell ts) t := by simp [tell, List.foldl_append]
theorem tell_nil : tell [] = [] := rfl

/-- Each token may stand behind what the ones ahead of it tell. -/
def Toks (ts : List Tk) : Prop := ∀ i t, ts[i]? = some t → Val t (tell (ts.take i)).length
theorem Toks.nil : Toks [] := fun i t h => by simp at h
theorem Toks.snoc {ts : List Tk} {t : Tk} (h : Toks ts) (ht : Val t (tell ts).length) : Toks (ts ++ [t]) := by
  intro i u hu
  rcases Nat.lt_trichotomy i ts.length with hi | hi | hi
  · rw [List.getElem?_append_left hi] at hu
    rw [List.take_append_of_le_length (by omega)]
    exact h i u hu
  · subst hi
    rw [List.getElem?_append_right (Nat.le_refl _)] at hu
    simp at hu
    subst hu
    simpa using ht
  · rw [List.getElem?_eq_none (by simp; omega)] at hu
    cases hu
theorem tell_take_succ {ts : List Tk} {i : Nat} {t : Tk} (h : ts[i]? = some t) : tell (ts.take (i + 1)) = tell1 (tell (ts.take i)) t := by
  rw [List.take_add_one, h]
  exact tell_snoc _ _
theorem tell_take_le (ts : List Tk) : ∀ d i, i + d = ts.length → (tell (ts.take i)).length ≤ (tell ts).length := by
  intro d
  induction d with
  | zero => intro i hi; rw [List.take_of_length_le (by omega)]; exact Nat.le_refl _
  | succ d ih =>
    intro i hi
    have h := ih (i + 1) (by omega)
    rw [tell_take_succ (List.getElem?_eq_getElem (show i < ts.length by omega)), tell1_length] at h
    omega
theorem tell_length_ge (ts : List Tk) : ∀ i, i ≤ ts.length → i ≤ (tell (ts.take i)).length := by
  intro i
  induction i with
  | zero => intro _; omega
  | succ i ih =>
    intro hi
    have h := ih (by omega)
    rw [tell_take_succ (List.getElem?_eq_getElem (show i < ts.length by omega)), tell1_length]
    have := sz_pos ts[i]
    omega
theorem toks_length_le (ts : List Tk) : ts.length ≤ (tell ts).length := by
  have := tell_length_ge ts ts.length (Nat.le_refl _)
  rwa [List.take_length] at this

theorem cp_lt {far : Nat} : ∀ (n : Nat) (out : List Nat), (∀ x ∈ out, x < 256) → ∀ x ∈ cp far n out, x < 256
  | 0, out, h => h
  | n + 1, out, h => by
    simp only [cp]
    apply cp_lt n
    intro x hx
    rw [List.mem_append] at hx
    rcases hx with hx | hx
    · exact h x hx
    · simp only [List.mem_singleton] at hx
      subst hx
      cases hg : out[out.length - far]? with
      | none => simp
      | some y => simp only [Option.getD_some]; exact h y (List.mem_of_getElem? hg)
theorem cp_get_lt {far : Nat} (out : List Nat) (h : ∀ x ∈ out, x < 256) : out[out.length - far]?.getD 0 < 256 := by
  cases hg : out[out.length - far]? with
  | none => simp
  | some y => simp only [Option.getD_some]; exact h y (List.mem_of_getElem? hg)
theorem tell_lt : ∀ (ts : List Tk), Toks ts → ∀ i, i ≤ ts.length → ∀ x ∈ tell (ts.take i), x < 256 := by
  intro ts hts i
  induction i with
  | zero => intro _ x hx; simp [tell] at hx
  | succ i ih =>
    intro hi
    have hg := List.getElem?_eq_getElem (show i < ts.length by omega)
    rw [tell_take_succ hg]
    have hv := hts i _ hg
    have ih := ih (by omega)
    unfold tell1
    split
    · rename_i h0
      intro x hx
      rw [List.mem_append] at hx
      rcases hx with hx | hx
      · exact ih x hx
      · simp only [List.mem_singleton] at hx
        subst hx
        rcases hv.1 with hb | hc
        · exact hb.2.2
        · have := hc.2.1; omega
    · exact cp_lt _ _ ih
theorem tell_bytes {ts : List Tk} (h : Toks ts) : ∀ x ∈ tell ts, x < 256 := by
  have := tell_lt ts h ts.length (Nat.le_refl _)
  rwa [List.take_length] at this
theorem cp_snoc (far : Nat) : ∀ (n : Nat) (out : List Nat), cp far (n + 1) out = cp far n out ++ [(cp far n out)[(cp far n out).length - far]?.getD 0]
  | 0, out => rfl
  | n + 1, out => by
    have := cp_snoc far n (out ++ [out[out.length - far]?.getD 0])
    simp only [cp] at this ⊢
    exact this
end If
end Go.Proofs.YtnjlljdbghcobaaGreatDoor

/- Contracts of the small functions of package bits. -/
namespace Go.Proofs.YtnjlljdbghcobaaGreatDoor
set_option maxRecDepth 100000
open Go.RowKit

set_option maxHeartbeats 400000 in
theorem size_any (n : Int) (h : 0 ≤ n) (h2 : n ≤ 9223372036854775807) (w : World) :
    Calls Tryz.prog 109 #[.int .i64 n] w fun e w' => e = .returned (.int .i64 (n / 8 + (n % 8 + 7) / 8)) ∧ w = w' := by
  go_enter Tryz.func109, Tryz.ntmps109
  go_wp2
  go_ret
  exact ⟨rfl, rfl⟩

theorem size_is (n L : Int) (h : 0 ≤ n) (h2 : n ≤ 9223372036854775807) (hL : Hid (n / 8 + (n % 8 + 7) / 8 = L)) (w : World) :
    Calls Tryz.prog 109 #[.int .i64 n] w fun e w' => e = .returned (.int .i64 L) ∧ w = w' := hL.out ▸ size_any n h h2 w

set_option maxHeartbeats 400000 in
theorem fits_yes (v n : Int) (h1 : 0 ≤ n) (h2 : 0 ≤ v) (h3 : n ≤ 32) (h : v / 2 ^ n.toNat = 0) (w : World) :
    Calls Tryz.prog 171 #[.int .i64 v, .int .i64 n] w fun e w' => e = .returned (.bool true) ∧ w = w' := by
  go_enter Tryz.func171, Tryz.ntmps171
  go_wp2
  go_ret
  exact ⟨rfl, rfl⟩

set_option maxHeartbeats 400000 in
theorem bitAt_any (b off len cap k : Nat) (x : Int) (w : World) (hk : k / 8 < len) (hc : w.cell? ⟨b, off + k / 8, none⟩ = some (.int .u8 x)) (h8 : k < 2251799813685248) :
    Calls Tryz.prog 127 #[.slice (some ⟨b, off, none⟩) len cap, .int .i64 k] w fun e w' => e = .returned (.int .u8 (bits BinOp.and IntKind.u8 (x / 2 ^ (k % 8)) 1)) ∧ w = w' := by
  go_enter Tryz.func127, Tryz.ntmps127
  go_wp2
  go_ret
  exact ⟨rfl, rfl⟩

set_option maxHeartbeats 400000 in
theorem check_neg (s : Value) (n : Int) (h : n < 0) (w : World) :
    Calls Tryz.prog 95 #[.agg #[s, .int .i64 n]] w fun e w' => e = .returned (.int .i64 2) ∧ Below w.heap.size w w' := by
  go_enter Tryz.func95, Tryz.ntmps95
  go_wp2
  have hd : decide (n < 0) = true := by simpa using h
  go_quiet (fail)
  go_wp2
  go_ret
  exact ⟨rfl, below_drewN ((Below.refl _ _).alloc (Nat.le_refl _) _) _⟩

set_option maxHeartbeats 400000 in
theorem check_len (a : Option Addr) (len cap N : Nat) (L : Int) (h2 : N ≤ 9223372036854775807) (heq : Hid ((N : Int) / 8 + ((N : Int) % 8 + 7) / 8 = L)) (hne : ((len : Int) != L) = true) (w : World) :
    Calls Tryz.prog 95 #[.agg #[.slice a len cap, .int .i64 N]] w fun e w' => e = .returned (.int .i64 2) ∧ Below w.heap.size w w' := by
  have hd : decide ((N : Int) < 0) = false := by simp
  go_enter Tryz.func95, Tryz.ntmps95
  go_wp2
  go_quiet ((go_at_call 109; exact quiet_left (size_is N L (by omega) (by omega) heq _)))
  go_wp2
  go_ret
  exact ⟨rfl, below_drewN ((Below.refl _ _).alloc (Nat.le_refl _) _) _⟩

set_option maxHeartbeats 400000 in
theorem check_whole (a : Option Addr) (len cap N : Nat) (h2 : N ≤ 9223372036854775807) (heq : Hid ((N : Int) / 8 + ((N : Int) % 8 + 7) / 8 = (len : Int))) (h0 : N % 8 = 0) (w : World) :
    Calls Tryz.prog 95 #[.agg #[.slice a len cap, .int .i64 N]] w fun e w' => e = .returned (.int .i64 0) ∧ Below w.heap.size w w' := by
  have hd : decide ((N : Int) < 0) = false := by simp
  have h0' : ((N : Int) % 8 != 0) = false := by rw [bne_eq_false_iff_eq]; omega
  go_enter Tryz.func95, Tryz.ntmps95
  go_wp2
  go_quiet ((go_at_call 109; exact quiet_left (size_is N len (by omega) (by omega) heq _)))
  go_wp2
  go_ret
  exact ⟨rfl, below_drewN ((Below.refl _ _).alloc (Nat.le_refl _) _) _⟩

set_option maxHeartbeats 400000 in
theorem check_last (b off len cap N : Nat) (x : Nat) (z : Bool) (h2 : N ≤ 9223372036854775807) (hl : len + 1 ≤ 281474976710656) (heq : Hid ((N : Int) / 8 + ((N : Int) % 8 + 7) / 8 = ((len + 1 : Nat) : Int))) (h0 : ((N : Int) % 8 != 0) = true)
    (w : World) (hb : b < w.heap.size) (hc : w.cell? ⟨b, off + len, none⟩ = some (.int .u8 (x : Int))) (hx : ((x : Int) / 2 ^ (N % 8) != 0) = z) :
    Calls Tryz.prog 95 #[.agg #[.slice (some ⟨b, off, none⟩) (len + 1) cap, .int .i64 N]] w fun e w' => e = .returned (.int .i64 (if z then 2 else 0)) ∧ Below w.heap.size w w' := by
  have hd : decide ((N : Int) < 0) = false := by simp
  cases z
  all_goals
    go_enter Tryz.func95, Tryz.ntmps95
    go_wp2
    go_quiet ((go_at_call 109; exact quiet_left (size_is N _ (by omega) (by omega) heq _)))
    go_wp2
    go_ret
    exact ⟨rfl, below_drewN ((Below.refl _ _).alloc (Nat.le_refl _) _) _⟩

theorem size_int (N : Nat) : (N : Int) / 8 + ((N : Int) % 8 + 7) / 8 = (((N + 7) / 8 : Nat) : Int) := by omega

theorem pow_zero_iff (x k : Nat) : ((x : Int) / 2 ^ k != 0) = (x / 2 ^ k != 0) := by
  have e : ((x : Int) / 2 ^ k) = ((x / 2 ^ k : Nat) : Int) := by simp
  rw [e, Bool.eq_iff_iff, bne_iff_ne, bne_iff_ne]
  omega

/-- Check says 0 of a row that is right, else 2. -/
theorem check_ok (s : Value) (bs : List Nat) (N : Nat) (w : World) (hs : Sl w s bs) (hN : N ≤ 9223372036854775807) (hr : Bs.right bs N) :
    Calls Tryz.prog 95 #[.agg #[s, .int .i64 N]] w fun e w' => e = .returned (.int .i64 0) ∧ Below w.heap.size w w' := by
  obtain ⟨a, len, cap, rfl, rfl, hl, hnil, h8, hc⟩ := hs
  obtain ⟨h1, h2⟩ := hr
  by_cases h0 : N % 8 = 0
  · exact check_whole a _ cap N hN (show _ = _ by rw [size_int, h1]) h0 w
  · rcases h2 with h2 | h2
    · exact absurd h2 h0
    · obtain ⟨k, hk⟩ : ∃ k, bs.length = k + 1 := ⟨bs.length - 1, by omega⟩
      obtain ⟨b, off, rfl, hb, hcell⟩ := hc (by omega)
      rw [hk] at h2 hcell ⊢
      refine check_last b off k cap N (bs[k]?.getD 0) false hN (by omega) (show _ = _ by rw [size_int, ← h1, hk]) (by rw [bne_iff_ne]; omega) w hb (hcell k (by omega)) ?_
      rw [pow_zero_iff, bne_eq_false_iff_eq]
      simpa using h2

theorem check_bad (s : Value) (bs : List Nat) (n : Int) (w : World) (hs : Sl w s bs) (hN : n ≤ 9223372036854775807) (hr : ¬ (0 ≤ n ∧ Bs.right bs n.toNat)) :
    Calls Tryz.prog 95 #[.agg #[s, .int .i64 n]] w fun e w' => e = .returned (.int .i64 2) ∧ Below w.heap.size w w' := by
  by_cases h0 : n < 0
  · exact check_neg s n h0 w
  · obtain ⟨N, rfl⟩ := Int.eq_ofNat_of_zero_le (show 0 ≤ n by omega)
    obtain ⟨a, len, cap, rfl, rfl, hl, hnil, h8, hc⟩ := hs
    by_cases h1 : bs.length = (N + 7) / 8
    · have h3 : ¬ N % 8 = 0 := fun h => hr ⟨by omega, by simpa using h1, Or.inl (by simpa using h)⟩
      obtain ⟨k, hk⟩ : ∃ k, bs.length = k + 1 := ⟨bs.length - 1, by omega⟩
      have h4 : ¬ (bs[bs.length - 1]?.getD 0) / 2 ^ (N % 8) = 0 := fun h => hr ⟨by omega, by simpa using h1, Or.inr (by simpa using h)⟩
      obtain ⟨b, off, rfl, hb, hcell⟩ := hc (by omega)
      rw [hk] at h4 hcell ⊢
      refine check_last b off k cap N (bs[k]?.getD 0) true (by omega) (by omega) (show _ = _ by rw [size_int, ← h1, hk]) (by rw [bne_iff_ne]; omega) w hb (hcell k (by omega)) ?_
      rw [pow_zero_iff, bne_iff_ne]
      simpa using h4
    · exact check_len a _ cap N _ (by omega) (show _ = _ from size_int N) (by rw [bne_iff_ne]; omega) w

end Go.Proofs.YtnjlljdbghcobaaGreatDoor

/- append onto the call's own row, from a slice of whatever make. -/
namespace Go.Proofs.YtnjlljdbghcobaaGreatDoor
set_option maxRecDepth 100000
open Go.RowKit

theorem Tryz.infoU8 : (Tryz.prog.info? 5).map (fun i => (i.zero, i.size, i.bytes)) = some (some (.int .u8 0), 1, 1) := by kernel_rfl

theorem run_append_mine {P : Program} {w : World} (base : Nat) (t ty e : TypeId) (i : TypeInfo) (z : Value) (size bytes : Nat) (h1 : P.underlying t = some (.slice e)) (h2 : P.info? e = some i) (h3 : i.zero = some z) (h4 : i.size = size) (h5 : i.bytes = bytes) (h6 : z.cells.size = size) (h7 : 0 < size)
    (g0 cap0 n : Nat) (xs : List Value) (hown : w.ownsRow base e size (.slice (some ⟨g0, 0, none⟩) n cap0) n xs)
    (sp : Option Addr) (m c : Nat) (news : List Value) (hn : news.length = m * size) (hsp : sp = none → m = 0 ∧ c = 0) (hc : 0 < m → ∃ ad, sp = some ad ∧ ∀ j u, news[j]? = some u → w.cell? (ad.add j) = some u) (h1c : ∀ u ∈ news, u.oneCell' = true)
    (b1 : n + m ≤ maxLen) (b2 : (n + m) * bytes ≤ 140737488355328) (hbase : base ≤ w.heap.size) :
    ∃ g cap w', (Builtin.append_ #[t, t] ty #[.slice (some ⟨g0, 0, none⟩) n cap0, .slice sp m c]).run P w = .ok (.slice (some ⟨g, 0, none⟩) (n + m) cap) w' ∧ w'.ownsRow base e size (.slice (some ⟨g, 0, none⟩) (n + m) cap) (n + m) (xs ++ news) ∧ w.grownBy w' (some g0) := by
  cases sp with
  | none =>
    obtain ⟨rfl, rfl⟩ := hsp rfl
    obtain rfl : news = [] := List.eq_nil_of_length_eq_zero (by simpa using hn)
    refine ⟨g0, cap0, w, run_append_owned_none w base t ty e i size h1 h2 _ n xs hown, by simpa using hown, ⟨rfl, rfl, rfl, Nat.le_refl _, fun _ _ _ => rfl⟩⟩
  | some ad =>
    have hc' : ∀ j u, news[j]? = some u → w.cell? (ad.add j) = some u := by
      intro j u hj
      have hlt : j < news.length := (List.getElem?_eq_some_iff.1 hj).1
      have hm : 0 < m := by
        rcases Nat.eq_zero_or_pos m with h | h
        · subst h; simp at hn; rw [hn] at hlt; simp at hlt
        · exact h
      obtain ⟨ad', he, h⟩ := hc hm
      injection he with he
      subst he
      exact h j u hj
    obtain ⟨v', w', hrun, r1, r2, r3⟩ := run_append_own (P := P) w base t ty e i z size bytes h1 h2 h3 h4 h5 h6 h7 _ n xs hown ad m c news hn hc' h1c b1 b2 hbase
    have hsh : ∃ g cap, v' = .slice (some ⟨g, 0, none⟩) (n + m) cap := by
      rcases r1.2 with ⟨h, _⟩ | ⟨g, cap, _, h, _⟩
      · have := (r3.1 h).1; simp at this
      · exact ⟨g, cap, h⟩
    obtain ⟨g, cap, rfl⟩ := hsh
    exact ⟨g, cap, w', hrun, r1, r2⟩

end Go.Proofs.YtnjlljdbghcobaaGreatDoor
