/- Streams and their beginnings: what stands behind changes nothing; cut short there is too little. -/
import Derived.Test.YtgbojpakddjhlaaGreatDoorLeaf
import Derived.Test.YtgbojpakddjhlaaGreatDoorIcop2

namespace Go.Proofs.YtgbojpakddjhlaaGreatDoor
set_option maxRecDepth 100000
namespace If
open Hd (num rd head)

/-- What a part of a stream told, told of the row's beginning: the same, or too little. -/
def Cut (m : Nat) (r r' : List Nat × Nat × Int) : Prop := (r.2.1 ≤ m → r' = r) ∧ (m < r.2.1 → r'.2.2 = 4)

theorem copy_facts {l : List Bool} {dist : List Nat} {most s p : Nat} {out : List Nat} (h : (copy l dist most s p out).2.2 = 0) : p < (copy l dist most s p out).2.1 ∧ (copy l dist most s p out).2.1 ≤ l.length := by
  unfold copy at h ⊢
  by_cases h1 : 286 ≤ s
  · rw [if_pos h1] at h; simp at h
  rw [if_neg h1] at h ⊢
  by_cases h2 : l.length < p + Sy.at' Sy.lb (s - 257)
  · rw [if_pos h2] at h; simp at h
  rw [if_neg h2] at h ⊢
  by_cases h3 : ∀ x ∈ dist, x = 0
  · rw [if_pos h3] at h; simp at h
  rw [if_neg h3] at h ⊢
  generalize hr : rd dist l (p + Sy.at' Sy.lb (s - 257)) = r at h ⊢
  obtain ⟨y, q, c⟩ := r
  simp only at h ⊢
  by_cases h4 : c ≠ 0
  · rw [if_pos h4] at h; exact absurd h h4
  rw [if_neg h4] at h ⊢
  have hl := Hd.rd_lt (by omega) hr
  have hc : c = 0 := by simpa using h4
  by_cases h5 : 30 ≤ y
  · rw [if_pos h5] at h; simp at h
  rw [if_neg h5] at h ⊢
  by_cases h6 : l.length < q + Sy.at' Sy.db y
  · rw [if_pos h6] at h; simp at h
  rw [if_neg h6] at h ⊢
  by_cases h7 : out.length < Sy.at' Sy.df y + num l q (Sy.at' Sy.db y)
  · rw [if_pos h7] at h; simp at h
  rw [if_neg h7] at h ⊢
  by_cases h8 : most < out.length + (Sy.at' Sy.lf (s - 257) + num l p (Sy.at' Sy.lb (s - 257)))
  · rw [if_pos h8] at h; simp at h
  rw [if_neg h8]
  have := (hl.1 hc)
  simp only
  omega

theorem copy_take {l : List Bool} {dist : List Nat} {most s p m : Nat} {out : List Nat} (hm : m ≤ l.length) (h : (copy l dist most s p out).2.2 = 0) : Cut m (copy l dist most s p out) (copy (l.take m) dist most s p out) := by
  have hlen : (l.take m).length = m := by rw [List.length_take]; omega
  unfold copy at h ⊢
  rw [hlen]
  by_cases h1 : 286 ≤ s
  · rw [if_pos h1] at h; simp at h
  rw [if_neg h1] at h ⊢
  rw [if_neg h1]
  by_cases h2 : l.length < p + Sy.at' Sy.lb (s - 257)
  · rw [if_pos h2] at h; simp at h
  rw [if_neg h2] at h ⊢
  by_cases h3 : ∀ x ∈ dist, x = 0
  · rw [if_pos h3] at h; simp at h
  rw [if_neg h3] at h ⊢
  rw [if_neg h3]
  generalize hr : rd dist l (p + Sy.at' Sy.lb (s - 257)) = r at h ⊢
  obtain ⟨y, q, c⟩ := r
  simp only at h ⊢
  by_cases h4 : c ≠ 0
  · rw [if_pos h4] at h; exact absurd h h4
  rw [if_neg h4] at h ⊢
  have hc : c = 0 := by simpa using h4
  subst hc
  have hl := (Hd.rd_lt (by omega) hr).1 rfl
  by_cases h5 : 30 ≤ y
  · rw [if_pos h5] at h; simp at h
  rw [if_neg h5] at h ⊢
  by_cases h6 : l.length < q + Sy.at' Sy.db y
  · rw [if_pos h6] at h; simp at h
  rw [if_neg h6] at h ⊢
  by_cases h7 : out.length < Sy.at' Sy.df y + num l q (Sy.at' Sy.db y)
  · rw [if_pos h7] at h; simp at h
  rw [if_neg h7] at h ⊢
  by_cases h8 : most < out.length + (Sy.at' Sy.lf (s - 257) + num l p (Sy.at' Sy.lb (s - 257)))
  · rw [if_pos h8] at h; simp at h
  rw [if_neg h8]
  clear h
  by_cases g2 : m < p + Sy.at' Sy.lb (s - 257)
  · rw [if_pos g2]
    exact ⟨fun h => by simp only at h; omega, fun _ => rfl⟩
  rw [if_neg g2, rd_take hm (by omega) hr]
  by_cases g4 : q ≤ m
  · rw [if_pos g4]
    simp only
    rw [if_neg (by simp), if_neg h5]
    by_cases g6 : m < q + Sy.at' Sy.db y
    · rw [if_pos g6]
      exact ⟨fun h => by simp only at h; omega, fun _ => rfl⟩
    rw [if_neg g6, num_take _ _ _ _ (by omega), num_take _ _ _ _ (by omega), if_neg h7, if_neg h8]
    exact ⟨fun _ => rfl, fun h => by simp only at h; omega⟩
  · rw [if_neg g4]
    simp only
    rw [if_pos (by simp)]
    exact ⟨fun h => by simp only at h; omega, fun _ => rfl⟩

theorem runs_facts {ls : List Nat} {l : List Bool} {n : Nat} : ∀ (k : Nat) (acc : List Nat) (p : Nat), p ≤ l.length → (Hd.runs ls l n k acc p).2.2 = 0 → p ≤ (Hd.runs ls l n k acc p).2.1 ∧ (Hd.runs ls l n k acc p).2.1 ≤ l.length := by
  intro k
  induction k with
  | zero => intro acc p hp _; exact ⟨Nat.le_refl _, hp⟩
  | succ k ih =>
    intro acc p hp h
    simp only [Hd.runs] at h ⊢
    by_cases h1 : n ≤ acc.length
    · rw [if_pos h1]; exact ⟨Nat.le_refl _, hp⟩
    rw [if_neg h1] at h ⊢
    generalize hr : rd ls l p = r at h ⊢
    obtain ⟨y, q, c⟩ := r
    simp only at h ⊢
    by_cases h2 : c ≠ 0
    · rw [if_pos h2] at h; exact absurd h h2
    rw [if_neg h2] at h ⊢
    have hl := (Hd.rd_lt hp hr).1 (by simpa using h2)
    by_cases h3 : l.length < q + Hd.ex y
    · rw [if_pos h3] at h; simp at h
    rw [if_neg h3] at h ⊢
    generalize Hd.take acc y (num l q (Hd.ex y)) n = t at h ⊢
    by_cases h4 : t.2 ≠ 0
    · rw [if_pos h4] at h; exact absurd h h4
    rw [if_neg h4] at h ⊢
    have := ih t.1 (q + Hd.ex y) (by omega) h
    omega

theorem runs_cut {ls : List Nat} {l : List Bool} {n m : Nat} (hm : m ≤ l.length) : ∀ (k : Nat) (acc : List Nat) (p : Nat), p ≤ m → n - acc.length < k → (Hd.runs ls l n k acc p).2.2 = 0 →
    Cut m (Hd.runs ls l n k acc p) (Hd.runs ls (l.take m) n k acc p) := by
  have hlen : (l.take m).length = m := by rw [List.length_take]; omega
  intro k
  induction k with
  | zero => intro acc p hp hk _; omega
  | succ k ih =>
    intro acc p hp hk h
    simp only [Hd.runs] at h ⊢
    by_cases h1 : n ≤ acc.length
    · rw [if_pos h1, if_pos h1]; exact ⟨fun _ => rfl, fun h => by simp only at h; omega⟩
    rw [if_neg h1] at h ⊢
    rw [if_neg h1]
    generalize hr : rd ls l p = r at h ⊢
    obtain ⟨y, q, c⟩ := r
    simp only at h ⊢
    by_cases h2 : c ≠ 0
    · rw [if_pos h2] at h; exact absurd h h2
    rw [if_neg h2] at h ⊢
    have hc : c = 0 := by simpa using h2
    subst hc
    have hl := (Hd.rd_lt (by omega) hr).1 rfl
    by_cases h3 : l.length < q + Hd.ex y
    · rw [if_pos h3] at h; simp at h
    rw [if_neg h3] at h ⊢
    generalize ht : Hd.take acc y (num l q (Hd.ex y)) n = t at h ⊢
    by_cases h4 : t.2 ≠ 0
    · rw [if_pos h4] at h; exact absurd h h4
    rw [if_neg h4] at h ⊢
    have hge := runs_facts k t.1 (q + Hd.ex y) (by omega) h
    rw [rd_take hm hp hr]
    by_cases g4 : q ≤ m
    · rw [if_pos g4]
      simp only
      rw [if_neg (by simp), hlen]
      by_cases g6 : m < q + Hd.ex y
      · rw [if_pos g6]; exact ⟨fun h => by omega, fun _ => rfl⟩
      rw [if_neg g6, num_take _ _ _ _ (by omega), ht, if_neg h4]
      have hlt : acc.length < t.1.length := by
        have h5 : t.2 = 0 := by simpa using h4
        have : Hd.take acc y (num l q (Hd.ex y)) n = (t.1, 0) := by rw [ht, ← h5]
        exact (Hd.take_length this).1
      exact ih t.1 (q + Hd.ex y) (by omega) (by omega) h
    · rw [if_neg g4]
      simp only
      rw [if_pos (by simp)]
      exact ⟨fun h => by omega, fun _ => rfl⟩

theorem cl_take (l : List Bool) (m p k : Nat) (h : p + 3 * k ≤ m) : Hd.cl (l.take m) p k = Hd.cl l p k := by
  induction k with
  | zero => rfl
  | succ k ih => simp only [Hd.cl]; rw [ih (by omega), num_take _ _ _ _ (by omega)]

theorem head_facts {l : List Bool} {p : Nat} (h : (head l p).2.2.2 = 0) : p + 14 < (head l p).2.2.1 ∧ (head l p).2.2.1 ≤ l.length := by
  by_cases h1 : l.length < p + 10
  · rw [Hd.head_e1 h1] at h; simp at h
  by_cases h3 : 286 < num l p 5 + 257 ∨ 30 < num l (p + 5) 5 + 1
  · rw [Hd.head_e3 (l := l) (p := p) (by omega) rfl rfl h3] at h; simp at h
  by_cases h4 : l.length < p + 14
  · rw [Hd.head_e4 (l := l) (p := p) (by omega) rfl rfl h3 h4] at h; simp at h
  by_cases h5 : l.length < p + 14 + 3 * (num l (p + 10) 4 + 4)
  · rw [Hd.head_e5 (l := l) (p := p) (by omega) rfl rfl rfl h3 h5] at h; simp at h
  by_cases h6 : newE (Hd.zz (Hd.cl l (p + 14) (num l (p + 10) 4 + 4))) = 0
  · rw [Hd.head_run (l := l) (p := p) (by omega) rfl rfl rfl rfl h3 (by omega) h6] at h ⊢
    by_cases h7 : (Hd.runs (Hd.cl l (p + 14) (num l (p + 10) 4 + 4)) l (num l p 5 + 257 + (num l (p + 5) 5 + 1)) 400 [] (p + 14 + 3 * (num l (p + 10) 4 + 4))).2.2 ≠ 0
    · rw [if_pos h7] at h; exact absurd h h7
    · rw [if_neg h7]
      have h8 : (Hd.runs (Hd.cl l (p + 14) (num l (p + 10) 4 + 4)) l (num l p 5 + 257 + (num l (p + 5) 5 + 1)) 400 [] (p + 14 + 3 * (num l (p + 10) 4 + 4))).2.2 = 0 := by simpa using h7
      have := runs_facts (l := l) 400 [] (p + 14 + 3 * (num l (p + 10) 4 + 4)) (by omega) h8
      simp only
      omega
  · rw [Hd.head_e6 (l := l) (p := p) (by omega) rfl rfl rfl rfl h3 (by omega) h6] at h; exact absurd h h6

theorem head_cut {l : List Bool} {p m : Nat} (hm : m ≤ l.length) (h : (head l p).2.2.2 = 0) : ((head l p).2.2.1 ≤ m → head (l.take m) p = head l p) ∧ (m < (head l p).2.2.1 → (head (l.take m) p).2.2.2 = 4) := by
  have hlen : (l.take m).length = m := by rw [List.length_take]; omega
  have hf := head_facts h
  by_cases h1 : l.length < p + 10
  · rw [Hd.head_e1 h1] at h; simp at h
  by_cases h3 : 286 < num l p 5 + 257 ∨ 30 < num l (p + 5) 5 + 1
  · rw [Hd.head_e3 (l := l) (p := p) (by omega) rfl rfl h3] at h; simp at h
  by_cases h4 : l.length < p + 14
  · rw [Hd.head_e4 (l := l) (p := p) (by omega) rfl rfl h3 h4] at h; simp at h
  by_cases h5 : l.length < p + 14 + 3 * (num l (p + 10) 4 + 4)
  · rw [Hd.head_e5 (l := l) (p := p) (by omega) rfl rfl rfl h3 h5] at h; simp at h
  by_cases h6 : newE (Hd.zz (Hd.cl l (p + 14) (num l (p + 10) 4 + 4))) = 0
  · have hr := Hd.head_run (l := l) (p := p) (by omega) rfl rfl rfl rfl h3 (by omega) h6
    have h7 : (Hd.runs (Hd.cl l (p + 14) (num l (p + 10) 4 + 4)) l (num l p 5 + 257 + (num l (p + 5) 5 + 1)) 400 [] (p + 14 + 3 * (num l (p + 10) 4 + 4))).2.2 = 0 := by
      rw [hr] at h
      by_cases h7 : (Hd.runs (Hd.cl l (p + 14) (num l (p + 10) 4 + 4)) l (num l p 5 + 257 + (num l (p + 5) 5 + 1)) 400 [] (p + 14 + 3 * (num l (p + 10) 4 + 4))).2.2 ≠ 0
      · rw [if_pos h7] at h; exact absurd h h7
      · simpa using h7
    rw [if_neg (by simpa using h7)] at hr
    have hrf := runs_facts (l := l) 400 [] (p + 14 + 3 * (num l (p + 10) 4 + 4)) (by omega) h7
    rw [hr] at hf ⊢
    simp only at hf ⊢
    by_cases g1 : m < p + 10
    · rw [Hd.head_e1 (l := l.take m) (p := p) (by omega)]; exact ⟨fun h => by omega, fun _ => rfl⟩
    have n1 : num (l.take m) p 5 = num l p 5 := num_take _ _ _ _ (by omega)
    have n2 : num (l.take m) (p + 5) 5 = num l (p + 5) 5 := num_take _ _ _ _ (by omega)
    by_cases g4 : m < p + 14
    · rw [Hd.head_e4 (l := l.take m) (p := p) (by omega) rfl rfl (by rw [n1, n2]; exact h3) (by omega)]; exact ⟨fun h => by omega, fun _ => rfl⟩
    have n3 : num (l.take m) (p + 10) 4 = num l (p + 10) 4 := num_take _ _ _ _ (by omega)
    by_cases g5 : m < p + 14 + 3 * (num l (p + 10) 4 + 4)
    · rw [Hd.head_e5 (l := l.take m) (p := p) (by omega) rfl rfl rfl (by rw [n1, n2]; exact h3) (by rw [n3]; omega)]; exact ⟨fun h => by omega, fun _ => rfl⟩
    have n4 : Hd.cl (l.take m) (p + 14) (num l (p + 10) 4 + 4) = Hd.cl l (p + 14) (num l (p + 10) 4 + 4) := cl_take _ _ _ _ (by omega)
    have hr' := Hd.head_run (l := l.take m) (p := p) (by omega) rfl rfl rfl rfl (by rw [n1, n2]; exact h3) (by rw [n3]; omega) (by rw [n3, n4]; exact h6)
    rw [n1, n2, n3, n4] at hr'
    have hc := runs_cut (ls := Hd.cl l (p + 14) (num l (p + 10) 4 + 4)) (n := num l p 5 + 257 + (num l (p + 5) 5 + 1)) hm 400 [] (p + 14 + 3 * (num l (p + 10) 4 + 4)) (by omega) (by have := Hd.num_lt l p 5; have := Hd.num_lt l (p + 5) 5; simp only [List.length_nil]; omega) h7
    rw [hr']
    constructor
    · intro hq
      rw [hc.1 hq, if_neg (by simpa using h7)]
    · intro hq
      rw [hc.2 hq, if_pos (by simp)]
  · rw [Hd.head_e6 (l := l) (p := p) (by omega) rfl rfl rfl rfl h3 (by omega) h6] at h; exact absurd h h6

theorem byteAt_take (l : List Bool) (m j : Nat) (h : 8 * j + 8 ≤ m) : Bs.byteAt (l.take m) j = Bs.byteAt l j := by
  unfold Bs.byteAt
  rw [List.drop_take, List.take_take, Nat.min_eq_left (by omega)]

theorem stored_facts {l : List Bool} {most p : Nat} {out : List Nat} (h : (stored l most p out).2.2 = 0) : p < (stored l most p out).2.1 ∧ (stored l most p out).2.1 ≤ l.length := by
  unfold stored at h ⊢
  by_cases h1 : l.length < up p + 32
  · rw [if_pos h1] at h; simp at h
  rw [if_neg h1] at h ⊢
  by_cases h2 : num l (up p) 16 + num l (up p + 16) 16 ≠ 65535 ∨ num l (up p) 16 &&& num l (up p + 16) 16 ≠ 0
  · rw [if_pos h2] at h; simp at h
  rw [if_neg h2] at h ⊢
  by_cases h3 : most < out.length + num l (up p) 16
  · rw [if_pos h3] at h; simp at h
  rw [if_neg h3] at h ⊢
  by_cases h4 : l.length < up p + 32 + 8 * num l (up p) 16
  · rw [if_pos h4] at h; simp at h
  rw [if_neg h4]
  have : p ≤ up p := by unfold up; omega
  simp only
  omega

theorem stored_cut {l : List Bool} {most p m : Nat} {out : List Nat} (hm : m ≤ l.length) (h : (stored l most p out).2.2 = 0) : Cut m (stored l most p out) (stored (l.take m) most p out) := by
  have hlen : (l.take m).length = m := by rw [List.length_take]; omega
  unfold stored at h ⊢
  rw [hlen]
  by_cases h1 : l.length < up p + 32
  · rw [if_pos h1] at h; simp at h
  rw [if_neg h1] at h ⊢
  by_cases h2 : num l (up p) 16 + num l (up p + 16) 16 ≠ 65535 ∨ num l (up p) 16 &&& num l (up p + 16) 16 ≠ 0
  · rw [if_pos h2] at h; simp at h
  rw [if_neg h2] at h ⊢
  by_cases h3 : most < out.length + num l (up p) 16
  · rw [if_pos h3] at h; simp at h
  rw [if_neg h3] at h ⊢
  by_cases h4 : l.length < up p + 32 + 8 * num l (up p) 16
  · rw [if_pos h4] at h; simp at h
  rw [if_neg h4]
  by_cases g1 : m < up p + 32
  · rw [if_pos g1]; exact ⟨fun h => by simp only at h; omega, fun _ => rfl⟩
  rw [if_neg g1, num_take _ _ _ _ (by omega), num_take _ _ _ _ (by omega), if_neg h2, if_neg h3]
  by_cases g4 : m < up p + 32 + 8 * num l (up p) 16
  · rw [if_pos g4]; exact ⟨fun h => by simp only at h; omega, fun _ => rfl⟩
  rw [if_neg g4]
  refine ⟨fun _ => ?_, fun h => by simp only at h; omega⟩
  congr 2
  apply List.map_congr_left
  intro i hi
  have hi' := List.mem_range.1 hi
  have : (up p + 32) / 8 * 8 = up p + 32 := by unfold up; omega
  exact byteAt_take l m _ (by omega)

theorem syms_facts {l : List Bool} {lit dist : List Nat} {most : Nat} : ∀ (k : Nat) (out : List Nat) (p : Nat), p ≤ l.length → l.length - p < k → (syms l lit dist most k out p).2.2 = 0 → p < (syms l lit dist most k out p).2.1 ∧ (syms l lit dist most k out p).2.1 ≤ l.length := by
  intro k
  induction k with
  | zero => intro out p hp hk _; omega
  | succ k ih =>
    intro out p hp hk h
    simp only [syms] at h ⊢
    generalize hr : rd lit l p = r at h ⊢
    obtain ⟨y, q, c⟩ := r
    simp only at h ⊢
    by_cases h1 : c ≠ 0
    · rw [if_pos h1] at h; exact absurd h h1
    rw [if_neg h1] at h ⊢
    have hl := (Hd.rd_lt hp hr).1 (by simpa using h1)
    by_cases h2 : y = 256
    · rw [if_pos h2]; exact ⟨hl.2.1, hl.2.2⟩
    rw [if_neg h2] at h ⊢
    by_cases h3 : 256 < y
    · rw [if_pos h3] at h ⊢
      by_cases h4 : (copy l dist most y q out).2.2 ≠ 0
      · rw [if_pos h4] at h; exact absurd h h4
      rw [if_neg h4] at h ⊢
      have hc := copy_facts (by simpa using h4 : (copy l dist most y q out).2.2 = 0)
      have := ih _ _ hc.2 (by omega) h
      omega
    rw [if_neg h3] at h ⊢
    by_cases h5 : most ≤ out.length
    · rw [if_pos h5] at h; simp at h
    rw [if_neg h5] at h ⊢
    have := ih _ _ hl.2.2 (by omega) h
    omega

theorem syms_cut {l : List Bool} {lit dist : List Nat} {most m : Nat} (hm : m ≤ l.length) : ∀ (k k' : Nat) (out : List Nat) (p : Nat), p ≤ m → l.length - p < k → m - p < k' → (syms l lit dist most k out p).2.2 = 0 →
    Cut m (syms l lit dist most k out p) (syms (l.take m) lit dist most k' out p) := by
  intro k
  induction k with
  | zero => intro k' out p hp hk _ _; omega
  | succ k ih =>
    intro k' out p hp hk hk' h
    obtain ⟨k', rfl⟩ : ∃ j, k' = j + 1 := ⟨k' - 1, by omega⟩
    have hf := syms_facts (k + 1) out p (by omega) hk h
    simp only [syms] at h hf ⊢
    generalize hr : rd lit l p = r at h hf ⊢
    obtain ⟨y, q, c⟩ := r
    simp only at h hf ⊢
    by_cases h1 : c ≠ 0
    · rw [if_pos h1] at h; exact absurd h h1
    rw [if_neg h1] at h hf ⊢
    have hc0 : c = 0 := by simpa using h1
    subst hc0
    have hl := (Hd.rd_lt (by omega) hr).1 rfl
    rw [rd_take hm hp hr]
    by_cases g : q ≤ m
    · rw [if_pos g]
      simp only
      rw [if_neg (show ¬ ((0 : Int) ≠ 0) by simp)]
      by_cases h2 : y = 256
      · rw [if_pos h2, if_pos h2]; exact ⟨fun _ => rfl, fun h => by simp only at h; omega⟩
      rw [if_neg h2] at h hf ⊢
      rw [if_neg h2]
      by_cases h3 : 256 < y
      · rw [if_pos h3] at h hf ⊢
        rw [if_pos h3]
        by_cases h4 : (copy l dist most y q out).2.2 ≠ 0
        · rw [if_pos h4] at h; exact absurd h h4
        rw [if_neg h4] at h hf ⊢
        have h4' : (copy l dist most y q out).2.2 = 0 := by simpa using h4
        have hcf := copy_facts h4'
        have hct := copy_take hm h4'
        have hsf := syms_facts k _ _ hcf.2 (by omega) h
        by_cases g2 : (copy l dist most y q out).2.1 ≤ m
        · rw [hct.1 g2, if_neg h4]
          exact ih k' _ _ g2 (by omega) (by omega) h
        · have h44 := hct.2 (by omega)
          rw [if_pos (by rw [h44]; simp)]
          exact ⟨fun h => by omega, fun _ => h44⟩
      rw [if_neg h3] at h hf ⊢
      rw [if_neg h3]
      by_cases h5 : most ≤ out.length
      · rw [if_pos h5] at h; simp at h
      rw [if_neg h5] at h ⊢
      rw [if_neg h5]
      exact ih k' _ _ g (by omega) (by omega) h
    · rw [if_neg g]
      simp only
      rw [if_pos (show (4 : Int) ≠ 0 by decide)]
      refine ⟨fun h => ?_, fun _ => rfl⟩
      exfalso
      have : q ≤ m := by
        by_cases h2 : y = 256
        · rw [if_pos h2] at h; exact h
        rw [if_neg h2] at h
        rename_i hs
        rw [if_neg h2] at hs
        by_cases h3 : 256 < y
        · rw [if_pos h3] at h hs
          by_cases h4 : (copy l dist most y q out).2.2 ≠ 0
          · rw [if_pos h4] at hs; exact absurd hs h4
          rw [if_neg h4] at h hs
          have hcf := copy_facts (by simpa using h4 : (copy l dist most y q out).2.2 = 0)
          have := syms_facts k _ _ hcf.2 (by omega) hs
          omega
        rw [if_neg h3] at h hs
        by_cases h5 : most ≤ out.length
        · rw [if_pos h5] at hs; simp at hs
        rw [if_neg h5] at h hs
        have := syms_facts k _ _ hl.2.2 (by omega) hs
        omega
      exact g this

theorem dynamic_facts {l : List Bool} {most p : Nat} {out : List Nat} (h : (dynamic l most p out).2.2 = 0) : p < (dynamic l most p out).2.1 ∧ (dynamic l most p out).2.1 ≤ l.length := by
  unfold dynamic at h ⊢
  by_cases h1 : (head l p).2.2.2 ≠ 0
  · rw [if_pos h1] at h; exact absurd h h1
  rw [if_neg h1] at h ⊢
  by_cases h2 : (head l p).1[256]?.getD 0 = 0
  · rw [if_pos h2] at h; simp at h
  rw [if_neg h2] at h ⊢
  by_cases h3 : newE (Hd.zz (head l p).1) ≠ 0
  · rw [if_pos h3] at h; exact absurd h h3
  rw [if_neg h3] at h ⊢
  by_cases h4 : newE (Hd.zz (head l p).2.1) ≠ 0 ∧ ¬ (∀ x ∈ (head l p).2.1, x = 0)
  · rw [if_pos h4] at h; exact absurd h h4.1
  rw [if_neg h4] at h ⊢
  have hh := head_facts (by simpa using h1 : (head l p).2.2.2 = 0)
  have := syms_facts (l.length + 1) out _ hh.2 (by omega) h
  omega

theorem dynamic_cut {l : List Bool} {most p m : Nat} {out : List Nat} (hm : m ≤ l.length) (h : (dynamic l most p out).2.2 = 0) : Cut m (dynamic l most p out) (dynamic (l.take m) most p out) := by
  have hlen : (l.take m).length = m := by rw [List.length_take]; omega
  unfold dynamic at h ⊢
  rw [hlen]
  by_cases h1 : (head l p).2.2.2 ≠ 0
  · rw [if_pos h1] at h; exact absurd h h1
  rw [if_neg h1] at h ⊢
  have h1' : (head l p).2.2.2 = 0 := by simpa using h1
  by_cases h2 : (head l p).1[256]?.getD 0 = 0
  · rw [if_pos h2] at h; simp at h
  rw [if_neg h2] at h ⊢
  by_cases h3 : newE (Hd.zz (head l p).1) ≠ 0
  · rw [if_pos h3] at h; exact absurd h h3
  rw [if_neg h3] at h ⊢
  by_cases h4 : newE (Hd.zz (head l p).2.1) ≠ 0 ∧ ¬ (∀ x ∈ (head l p).2.1, x = 0)
  · rw [if_pos h4] at h; exact absurd h h4.1
  rw [if_neg h4] at h ⊢
  have hh := head_facts h1'
  have hs := syms_facts (l.length + 1) out _ hh.2 (by omega) h
  have hc := head_cut hm h1'
  by_cases g : (head l p).2.2.1 ≤ m
  · rw [hc.1 g, if_neg h1, if_neg h2, if_neg h3, if_neg h4]
    exact syms_cut hm _ _ _ _ g (by omega) (by omega) h
  · have h44 := hc.2 (by omega)
    rw [if_pos (by rw [h44]; decide)]
    exact ⟨fun h => by omega, fun _ => h44⟩

theorem block_facts {l : List Bool} {most p : Nat} {out : List Nat} (h : (block l most p out).2.2 = 0) : p + 3 ≤ (block l most p out).2.1 ∧ (block l most p out).2.1 ≤ l.length := by
  unfold block at h ⊢
  by_cases h1 : l.length < p + 3
  · rw [if_pos h1] at h; simp at h
  rw [if_neg h1] at h ⊢
  by_cases h2 : num l (p + 1) 2 = 0
  · rw [if_pos h2] at h ⊢; have := stored_facts h; omega
  rw [if_neg h2] at h ⊢
  by_cases h3 : num l (p + 1) 2 = 1
  · rw [if_pos h3] at h ⊢; have := syms_facts (l.length + 1) out (p + 3) (by omega) (by omega) h; omega
  rw [if_neg h3] at h ⊢
  by_cases h4 : num l (p + 1) 2 = 2
  · rw [if_pos h4] at h ⊢; have := dynamic_facts h; omega
  rw [if_neg h4] at h; simp at h

theorem block_cut {l : List Bool} {most p m : Nat} {out : List Nat} (hm : m ≤ l.length) (h : (block l most p out).2.2 = 0) : Cut m (block l most p out) (block (l.take m) most p out) := by
  have hlen : (l.take m).length = m := by rw [List.length_take]; omega
  have hf := block_facts h
  unfold block at h hf ⊢
  rw [hlen]
  by_cases h1 : l.length < p + 3
  · rw [if_pos h1] at h; simp at h
  rw [if_neg h1] at h hf ⊢
  by_cases g1 : m < p + 3
  · rw [if_pos g1]; exact ⟨fun h => by omega, fun _ => rfl⟩
  rw [if_neg g1, num_take _ _ _ _ (by omega)]
  by_cases h2 : num l (p + 1) 2 = 0
  · rw [if_pos h2] at h ⊢; rw [if_pos h2]; exact stored_cut hm h
  rw [if_neg h2] at h ⊢
  rw [if_neg h2]
  by_cases h3 : num l (p + 1) 2 = 1
  · rw [if_pos h3] at h ⊢; rw [if_pos h3]; exact syms_cut hm _ _ _ _ (by omega) (by omega) (by omega) h
  rw [if_neg h3] at h ⊢
  rw [if_neg h3]
  by_cases h4 : num l (p + 1) 2 = 2
  · rw [if_pos h4] at h ⊢; rw [if_pos h4]; exact dynamic_cut hm h
  rw [if_neg h4] at h; simp at h

theorem blocks_facts {l : List Bool} {most : Nat} : ∀ (k : Nat) (out : List Nat) (p : Nat), p ≤ l.length → l.length - p < k → (blocks l most k out p).2.2 = 0 → p < (blocks l most k out p).2.1 ∧ (blocks l most k out p).2.1 ≤ l.length := by
  intro k
  induction k with
  | zero => intro out p hp hk _; omega
  | succ k ih =>
    intro out p hp hk h
    simp only [blocks] at h ⊢
    by_cases h1 : (block l most p out).2.2 ≠ 0
    · rw [if_pos h1] at h; exact absurd h h1
    rw [if_neg h1] at h ⊢
    have hb := block_facts (by simpa using h1 : (block l most p out).2.2 = 0)
    by_cases h2 : num l p 1 = 1
    · rw [if_pos h2]; simp only; omega
    rw [if_neg h2] at h ⊢
    have := ih _ _ hb.2 (by omega) h
    omega

theorem blocks_cut {l : List Bool} {most m : Nat} (hm : m ≤ l.length) : ∀ (k k' : Nat) (out : List Nat) (p : Nat), p ≤ m → l.length - p < k → m - p < k' → (blocks l most k out p).2.2 = 0 → Cut m (blocks l most k out p) (blocks (l.take m) most k' out p) := by
  intro k
  induction k with
  | zero => intro k' out p hp hk _ _; omega
  | succ k ih =>
    intro k' out p hp hk hk' h
    obtain ⟨k', rfl⟩ : ∃ j, k' = j + 1 := ⟨k' - 1, by omega⟩
    simp only [blocks] at h ⊢
    by_cases h1 : (block l most p out).2.2 ≠ 0
    · rw [if_pos h1] at h; exact absurd h h1
    rw [if_neg h1] at h ⊢
    have h1' : (block l most p out).2.2 = 0 := by simpa using h1
    have hb := block_facts h1'
    have hc := block_cut hm h1'
    by_cases g : (block l most p out).2.1 ≤ m
    · rw [hc.1 g, if_neg h1, num_take _ _ _ _ (by omega)]
      by_cases h2 : num l p 1 = 1
      · rw [if_pos h2, if_pos h2]; exact ⟨fun _ => rfl, fun h => by simp only at h; omega⟩
      rw [if_neg h2] at h ⊢
      rw [if_neg h2]
      exact ih k' _ _ g (by omega) (by omega) h
    · have h44 := hc.2 (by omega)
      rw [if_pos (show (block (l.take m) most p out).2.2 ≠ 0 by rw [h44]; decide)]
      refine ⟨fun hq => ?_, fun _ => h44⟩
      exfalso
      by_cases h2 : num l p 1 = 1
      · rw [if_pos h2] at hq; exact g hq
      · rw [if_neg h2] at h hq
        have := blocks_facts k _ _ hb.2 (by omega) h
        omega

/-- What stands behind a stream changes nothing, as long as its last byte is there; without it there is too little. -/
theorem decode_cut {l : List Bool} {most : Int} {m : Nat} (hm : m ≤ l.length) (h : (decode l most).2.2 = 0) :
    (8 * (decode l most).2.1 ≤ m → decode (l.take m) most = decode l most) ∧ (m + 8 ≤ 8 * (decode l most).2.1 → decode (l.take m) most = ([], 0, 4)) := by
  have hlen : (l.take m).length = m := by rw [List.length_take]; omega
  unfold decode at h ⊢
  rw [hlen]
  by_cases h1 : most < 0 ∨ 65536 < most
  · rw [if_pos h1] at h; simp at h
  rw [if_neg h1] at h ⊢
  rw [if_neg h1]
  by_cases h2 : (blocks l most.toNat (l.length + 1) [] 0).2.2 ≠ 0
  · rw [if_pos h2] at h; exact absurd h h2
  rw [if_neg h2]
  have h2' : (blocks l most.toNat (l.length + 1) [] 0).2.2 = 0 := by simpa using h2
  have hc := blocks_cut hm (l.length + 1) (m + 1) [] 0 (Nat.zero_le _) (by omega) (by omega) h2'
  simp only
  constructor
  · intro hq
    rw [hc.1 (by omega), if_neg h2]
  · intro hq
    have := hc.2 (by omega)
    rw [this, if_pos (by decide)]
end If
end Go.Proofs.YtgbojpakddjhlaaGreatDoor

/- Contract of inflate's reader: symbols. -/
namespace Go.Proofs.YtgbojpakddjhlaaGreatDoor
set_option maxRecDepth 100000
open Go.RowKit

/-- The reader's place in memory. -/
def placeOf (R : Nat) (w : World) : Nat := match w.cell? ⟨R, 2, none⟩ with | some v => (intOf v).toNat | none => 0
theorem St.place {K : Nat → Prop} {R : Nat} {s : Value} {l : List Bool} {N most : Nat} {w : World} {r : Rv} (h : St K R s l N most w r) : placeOf R w = r.p := by
  obtain ⟨tv, hx, _, _⟩ := h.has
  obtain ⟨_, _, c2, _⟩ := rdi_cells hx
  unfold placeOf
  rw [c2]
  simp [intOf]

namespace If
/-- One round of a block's symbols. -/
theorem syms_succ (l : List Bool) (lit dist : List Nat) (most k : Nat) (out : List Nat) (p y q : Nat) (c : Int) (hr : Hd.rd lit l p = (y, q, c)) :
    syms l lit dist most (k + 1) out p = if c ≠ 0 then ([], 0, c) else if y = 256 then (out, q, 0) else
      if 256 < y then (if (copy l dist most y q out).2.2 ≠ 0 then ([], 0, (copy l dist most y q out).2.2) else syms l lit dist most k (copy l dist most y q out).1 (copy l dist most y q out).2.1) else
      if most ≤ out.length then ([], 0, 3) else syms l lit dist most k (out ++ [y]) q := by
  simp only [syms]
  rw [hr]
theorem takeE_byte (y n most : Nat) : takeE ⟨0, 0, y⟩ n most = if most ≤ n then 3 else 0 := by
  unfold takeE sz
  simp only [Nat.not_lt_zero, if_false, if_true]
  by_cases h : most ≤ n
  · rw [if_pos (by omega), if_pos h]
  · rw [if_neg (by omega), if_neg h]
end If

set_option maxHeartbeats 8000000 in
theorem symbols_any {K : Nat → Prop} {R : Nat} {s : Value} {l : List Bool} {N most : Nat} {w : World} {r : Rv} (tb dv : Value) (lit dist : List Nat) (hT : TbK K w tb lit) (hD : Dv K w dv dist) (hS : St K R s l N most w r) (hl : Hid (N = l.length)) (hN : N ≤ 2251799813685248) (hm : most ≤ 65536)
    (k : Nat) (hk : N < r.p + k) (res : List Nat × Nat × Int) (hres : Hid (Unit → If.syms l lit dist most k (If.tell r.ts) r.p = res)) :
    Calls Tryz.prog 73 #[.pointer (some ⟨R, 0, none⟩), tb, dv] w (Out K w res.2.2 (.tuple #[]) (fun w' => ∃ ts', If.tell ts' = res.1 ∧ St K R s l N most w' { r with p := res.2.1, ts := ts' })) := by
  have HS := Lib.hid hS
  have HT := Lib.hid hT
  have HD := Lib.hid hD
  obtain ⟨r0, ts0, lv, dvv⟩ := r
  simp only at hk hres ⊢
  clear hS hT hD
  go_enter Tryz.func73, Tryz.ntmps73
  go_wp2_with fail
  go_loopw [6] (fun s6 wr => ∃ (k' p : Nat) (ts : List If.Tk), Hid (N < p + k') ∧ Hid (St K R s l N most wr ⟨p, ts, lv, dvv⟩) ∧ Hid (Fr K w wr) ∧ Hid (Unit → If.syms l lit dist most k' (If.tell ts) p = res)) (fun _ wr => N - placeOf R wr)
  case atStart => exact ⟨k, r0, ts0, hk, HS.out, Fr.refl _ _, fun u => hres.out u⟩
  case round =>
    obtain ⟨k', p, ts, HK, KS, KF, KR⟩ := hrel
    have hpl := KS.out.place
    simp only at hpl
    have hpn := KS.out.pn
    simp only at hpn
    obtain ⟨k2, rfl⟩ : ∃ k2, k' = k2 + 1 := ⟨k' - 1, by have := HK.out; omega⟩
    obtain ⟨rr, hrr⟩ : ∃ rr, Hd.rd lit l p = rr := ⟨_, rfl⟩
    obtain ⟨y, q, c⟩ := rr
    have hstep := KR.out ()
    rw [If.syms_succ l lit dist most k2 _ p y q c hrr] at hstep
    have hlt := Hd.rd_lt (by rw [← hl.out]; exact hpn) hrr
    have HY := Lib.hid (isym_any tb lit (HT.out.fr KF.out) KS.out hl hN y q c hrr)
    have HPL := Lib.hid hpl
    have HSTEP := Lib.hid (fun _ : Unit => hstep)
    have HLT := Lib.hid (fun _ : Unit => hlt)
    have HK2 := Lib.hid HK.out
    clear hstep hlt hrr KR hpl HK
    go_wp2_with fail
    refine HY.out.mono ?_
    clear HY
    intro e w1 ho
    by_cases hc : c ≠ 0
    · obtain ⟨rfl, hf1⟩ := ho.bad hc
      have hst := HSTEP.out ()
      rw [if_pos hc] at hst
      subst hst
      exact ⟨rfl, Out.fault hc (KF.out.trans hf1)⟩
    · obtain rfl : c = 0 := by simpa using hc
      obtain ⟨rfl, hS1, hf1⟩ := ho.ok
      have HS1 := Lib.hid hS1
      have HF1 := Lib.hid (KF.out.trans hf1)
      clear ho hS1 hf1 hc
      have hN9 : N < q + k2 := by have := (HLT.out ()).1 rfl; have := HK2.out; omega
      have HNK := Lib.hid hN9
      have hqy : Hid (p < q ∧ q ≤ N ∧ y < lit.length) := by have := (HLT.out ()).1 rfl; exact ⟨this.2.1, by rw [hl.out]; exact this.2.2, this.1⟩
      clear hN9 HK2 HLT KS hpn
      by_cases h256 : y = 256
      · have hst := HSTEP.out ()
        rw [if_neg (by simp), if_pos h256] at hst
        subst hst h256
        clear HSTEP hres
        go_wp2_with fail
        refine ⟨rfl, .tuple #[], by simp [results, Tryz.results73, go_sem], Out.intro HF1.out ⟨ts, rfl, HS1.out⟩⟩
      by_cases hgt : 256 < y
      · have e1 : decide ((y : Int) < 256) = false := by simp; omega
        have e2 : decide (y < 256) = false := by simp; omega
        have e3 : ((y : Int) == 256) = false := by simp; omega
        have e4 : (y == 256) = false := by simp; omega
        have hcc := copied_any y hgt dv dist (HD.out.fr HF1.out) HS1.out hl hN
        simp only at hcc
        have hst := HSTEP.out ()
        rw [if_neg (by simp), if_neg h256, if_pos hgt, If.copy_is l dist most y q _ hgt] at hst
        have hcop : (If.copt l dist y q).2.2 = 0 → If.Cop (If.copt l dist y q).1 := If.copt_ok hgt
        have hcf := @If.copy_facts l dist most y q (If.tell ts)
        rw [If.copy_is l dist most y q _ hgt] at hcf
        obtain ⟨cc, hcce⟩ : ∃ cc, cc = If.copt l dist y q := ⟨_, rfl⟩
        rw [← hcce] at hcc hst hcop hcf
        obtain ⟨t, q2, c2⟩ := cc
        simp only at hcc hst hcop hcf
        have HC := Lib.hid hcc
        have HST := Lib.hid (fun _ : Unit => hst)
        have HCF := Lib.hid (fun _ : Unit => hcf)
        clear hcc hst hcf hcce HSTEP hres h256
        by_cases hc2 : c2 = 0
        · subst hc2
          have HCOP := Lib.hid (hcop rfl)
          clear hcop
          go_wp2_with fail
          refine HC.out.mono ?_
          clear HC
          intro e w2 ho
          obtain ⟨rfl, hS2, hf2⟩ := ho.ok
          have hta := take_any t (Or.inr HCOP.out) hS2 hm
          simp only at hta
          have HTA := Lib.hid hta
          have HF2 := Lib.hid (HF1.out.trans hf2)
          clear ho hS2 hf2 hta
          unfold tkv at HTA ⊢
          obtain ⟨ec, hec⟩ : ∃ ec, ec = takeE t (If.tell ts).length most := ⟨_, rfl⟩
          have hst := HST.out ()
          have hcf := HCF.out ()
          rw [← hec] at HTA hst hcf
          have HST2 := Lib.hid (fun _ : Unit => hst)
          have HCF2 := Lib.hid (fun _ : Unit => hcf)
          clear hst hcf hec HST HCF
          by_cases hte : ec = 0
          · subst hte
            go_wp2_with fail
            refine HTA.out.mono ?_
            clear HTA
            intro e w3 ho
            obtain ⟨rfl, hS3, hf3⟩ := ho.ok
            have hst := HST2.out ()
            have hcf := HCF2.out ()
            simp only [ne_eq, not_true_eq_false, if_false] at hst hcf
            have hq2 := hcf trivial
            have hst2 : If.syms l lit dist most k2 (If.tell (ts ++ [t])) q2 = res := by rw [If.tell_snoc]; exact hst
            have HST3 := Lib.hid (fun _ : Unit => hst2)
            have HQ2 := Lib.hid (show q < q2 ∧ q2 ≤ N from ⟨hq2.1, by rw [hl.out]; exact hq2.2⟩)
            have HS3 := Lib.hid hS3
            have HF3 := Lib.hid (HF2.out.trans hf3)
            clear hst hcf hq2 hst2 hS3 hf3 ho HST2 HCF2
            go_wp2_with fail
            go_roundw
            case rel => exact ⟨k2, q2, ts ++ [t], by show _ < _; have := HNK.out; have := HQ2.out; omega, HS3.out, HF3.out, HST3.out⟩
            case measure => have h1 := HS3.out.place; have h2 := HPL.out; have h3 := HQ2.out; have h4 := hqy.out; simp only at h1; rw [h1, h2]; omega
          · go_wp2_with fail
            refine HTA.out.mono ?_
            clear HTA
            intro e w3 ho
            obtain ⟨rfl, hf3⟩ := ho.bad hte
            have hst := HST2.out ()
            simp [hte] at hst
            subst hst
            exact ⟨rfl, Out.fault hte (HF2.out.trans hf3)⟩
        · clear hcop
          go_wp2_with fail
          refine HC.out.mono ?_
          clear HC
          intro e w2 ho
          obtain ⟨rfl, hf2⟩ := ho.bad hc2
          have hst := HST.out ()
          rw [if_pos hc2] at hst
          simp only at hst
          rw [if_pos hc2] at hst
          subst hst
          exact ⟨rfl, Out.fault hc2 (HF1.out.trans hf2)⟩
      · have hlt : y < 256 := by omega
        have ew : IntKind.u8.wrap (y : Int) = (y : Int) := by simp [IntKind.wrap, IntKind.signed, IntKind.bits]; omega
        have e1 : decide ((y : Int) < 256) = true := by simp; omega
        have e2 : decide (y < 256) = true := by simp; omega
        have hta := take_any ⟨0, 0, y⟩ (Or.inl ⟨rfl, rfl, hlt⟩) HS1.out hm
        simp only [If.takeE_byte] at hta
        have hst := HSTEP.out ()
        rw [if_neg (by simp), if_neg h256, if_neg hgt] at hst
        have HTA := Lib.hid hta
        have HST := Lib.hid (fun _ : Unit => hst)
        clear hta hst HSTEP hres h256
        unfold tkv at HTA
        by_cases hfull : most ≤ (If.tell ts).length
        · have hst := HST.out ()
          rw [if_pos hfull] at hst HTA
          subst hst
          clear HST hfull
          go_wp2_with fail
          refine HTA.out.mono ?_
          clear HTA
          intro e w3 ho
          obtain ⟨rfl, hf3⟩ := ho.bad (by decide)
          exact ⟨rfl, Out.fault (by decide) (HF1.out.trans hf3)⟩
        · have hst := HST.out ()
          rw [if_neg hfull] at hst HTA
          have hst2 : If.syms l lit dist most k2 (If.tell (ts ++ [⟨0, 0, y⟩])) q = res := by rw [If.tell_snoc]; exact hst
          have HST3 := Lib.hid (fun _ : Unit => hst2)
          clear hst hst2 hfull HST
          go_wp2_with fail
          refine HTA.out.mono ?_
          clear HTA
          intro e w3 ho
          obtain ⟨rfl, hS3, hf3⟩ := ho.ok
          have HS3 := Lib.hid hS3
          have HF3 := Lib.hid (HF1.out.trans hf3)
          clear hS3 hf3 ho
          go_wp2_with fail
          go_roundw
          case rel => exact ⟨k2, q, ts ++ [({ len := 0, far := 0, lit := y } : If.Tk)], HNK.out, HS3.out, HF3.out, HST3.out⟩
          case measure => have h1 := HS3.out.place; have h2 := HPL.out; have h4 := hqy.out; simp only at h1; rw [h1, h2]; omega
end Go.Proofs.YtgbojpakddjhlaaGreatDoor

/- Streams of stored blocks, in plain numbers; the document's examples. -/
namespace Go.Proofs.YtgbojpakddjhlaaGreatDoor
set_option maxRecDepth 100000
namespace If
open Hd (num rd head)

/-- The bits of some bytes. -/
def bb (bs : List Nat) : List Bool := Bs.bitsFrom bs (8 * bs.length)
theorem bb_length (bs : List Nat) : (bb bs).length = 8 * bs.length := Bs.bitsFrom_length _ _
theorem bb_pack (bs : List Nat) (h8 : ∀ x ∈ bs, x < 256) : Bs.pack (bb bs) = bs := Bs.pack_bitsFrom bs _ ⟨by omega, Or.inl (by omega)⟩ h8
theorem bb_byte (bs : List Nat) (h8 : ∀ x ∈ bs, x < 256) (j : Nat) (hj : j < bs.length) : Bs.byteAt (bb bs) j = bs[j]?.getD 0 := by
  have h : (Bs.pack (bb bs))[j]?.getD 0 = Bs.byteAt (bb bs) j := Bs.packTo_get _ _ _ (by rw [bb_length]; omega)
  rw [bb_pack bs h8] at h
  exact h.symm

theorem num_append (a b : List Bool) : Bs.num (a ++ b) = Bs.num a + 2 ^ a.length * Bs.num b := by
  induction a with
  | nil => simp [Bs.num]
  | cons x a ih =>
    simp only [List.cons_append, Bs.num, ih, List.length_cons, Nat.pow_succ]
    generalize Bs.num b = q
    generalize 2 ^ a.length = r
    have : r * 2 * q = 2 * (r * q) := by rw [Nat.mul_comm r 2, Nat.mul_assoc]
    omega
theorem num_split (l : List Bool) (p n m : Nat) (h : p + n ≤ l.length) : num l p (n + m) = num l p n + 2 ^ n * num l (p + n) m := by
  unfold num
  rw [List.take_add, num_append, List.drop_drop, List.length_take, List.length_drop, Nat.min_eq_left (by omega)]
theorem num16 (l : List Bool) (j : Nat) (h : 8 * j + 8 ≤ l.length) : num l (8 * j) 16 = Bs.byteAt l j + 256 * Bs.byteAt l (j + 1) := by
  rw [num_split l (8 * j) 8 8 h]
  rfl
theorem num_first (l : List Bool) (j f : Nat) (h : 8 * j + 8 ≤ l.length) (hf : Bs.byteAt l j = f) (h1 : f ≤ 1) : num l (8 * j) 1 = f ∧ num l (8 * j + 1) 2 = 0 := by
  have e1 := num_split l (8 * j) 1 7 (by omega)
  have e2 := num_split l (8 * j + 1) 2 5 (by omega)
  have e3 : num l (8 * j) 8 = f := hf
  rw [show 1 + 7 = 8 from rfl, e3] at e1
  rw [show 2 + 5 = 7 from rfl] at e2
  omega

/-- A stored block of some bytes. -/
def blk (f : Nat) (x : List Nat) : List Nat := [f, x.length % 256, x.length / 256, 255 - x.length % 256, 255 - x.length / 256] ++ x
theorem blk_length (f : Nat) (x : List Nat) : (blk f x).length = 5 + x.length := by simp [blk]; omega
theorem blk_lt (f : Nat) (x : List Nat) (hf : f ≤ 1) (hx : x.length < 65536) (h8 : ∀ y ∈ x, y < 256) : ∀ y ∈ blk f x, y < 256 := by
  intro y hy
  simp only [blk, List.cons_append, List.nil_append, List.mem_cons] at hy
  rcases hy with rfl | rfl | rfl | rfl | rfl | hy
  · omega
  · omega
  · omega
  · omega
  · omega
  · exact h8 y hy

theorem and_turned (n : Nat) (h : n < 65536) : n &&& (65535 - n) = 0 := by
  apply Nat.eq_of_testBit_eq
  intro i
  rw [Nat.testBit_and, Nat.zero_testBit, show 65535 - n = 2 ^ 16 - (n + 1) by omega, Nat.testBit_two_pow_sub_succ (by omega)]
  cases n.testBit i <;> simp

theorem stored_block (pre x post : List Nat) (f most : Nat) (out : List Nat) (hf : f ≤ 1) (hx : x.length < 65536) (h8 : ∀ y ∈ pre ++ blk f x ++ post, y < 256) (hr : out.length + x.length ≤ most) :
    block (bb (pre ++ blk f x ++ post)) most (8 * pre.length) out = (out ++ x, 8 * (pre ++ blk f x).length, 0) ∧ num (bb (pre ++ blk f x ++ post)) (8 * pre.length) 1 = f := by
  have hB := bb_byte _ h8
  have hL := bb_length (pre ++ blk f x ++ post)
  have hlen : (pre ++ blk f x ++ post).length = pre.length + 5 + x.length + post.length := by simp only [List.length_append, blk_length]; omega
  have hat : ∀ j, j < 5 + x.length → (pre ++ blk f x ++ post)[pre.length + j]?.getD 0 = (blk f x)[j]?.getD 0 := by
    intro j hj
    rw [List.append_assoc, List.getElem?_append_right (by omega), List.getElem?_append_left (by rw [blk_length]; omega)]
    congr 2
    omega
  generalize pre ++ blk f x ++ post = bs at *
  rw [hlen] at hL
  obtain ⟨n1, n2⟩ := num_first (bb bs) pre.length f (by omega) (by rw [hB _ (by omega)]; have := hat 0 (by omega); rw [Nat.add_zero] at this; rw [this]; rfl) hf
  have n3 : num (bb bs) (8 * (pre.length + 1)) 16 = x.length := by
    rw [num16 _ _ (by omega), hB _ (by omega), hB _ (by omega), hat 1 (by omega), show pre.length + 1 + 1 = pre.length + 2 from rfl, hat 2 (by omega)]
    show x.length % 256 + 256 * (x.length / 256) = x.length
    omega
  have n4 : num (bb bs) (8 * (pre.length + 1) + 16) 16 = 65535 - x.length := by
    rw [show 8 * (pre.length + 1) + 16 = 8 * (pre.length + 3) by omega, num16 _ _ (by omega), hB _ (by omega), hB _ (by omega), hat 3 (by omega), show pre.length + 3 + 1 = pre.length + 4 from rfl, hat 4 (by omega)]
    show 255 - x.length % 256 + 256 * (255 - x.length / 256) = 65535 - x.length
    omega
  refine ⟨?_, n1⟩
  unfold block
  rw [if_neg (by rw [hL]; omega), if_pos n2]
  unfold stored
  have e : up (8 * pre.length + 3) = 8 * (pre.length + 1) := by unfold up; omega
  rw [e, n3, n4, if_neg (by rw [hL]; omega), if_neg (by rw [and_turned _ hx]; omega), if_neg (by omega), if_neg (by rw [hL]; omega)]
  have e2 : (List.range x.length).map (fun i => Bs.byteAt (bb bs) ((8 * (pre.length + 1) + 32) / 8 + i)) = x := by
    apply List.ext_getElem?
    intro i
    by_cases hi : i < x.length
    · rw [List.getElem?_map, List.getElem?_range hi, Option.map_some, show (8 * (pre.length + 1) + 32) / 8 + i = pre.length + (5 + i) by omega, hB _ (by omega), hat (5 + i) (by omega)]
      rw [List.getElem?_eq_getElem hi]
      have : (blk f x)[5 + i]? = x[i]? := by
        unfold blk
        rw [List.getElem?_append_right (by simp)]
        congr 1
        simp
      rw [this, List.getElem?_eq_getElem hi]
      rfl
    · rw [List.getElem?_eq_none (by simp; omega), List.getElem?_eq_none (by omega)]
  rw [e2, List.length_append, blk_length]
  congr 2
  omega

/-- Stored blocks, the last one marked. -/
def strm : List (List Nat) → List Nat
  | [] => []
  | [x] => blk 1 x
  | x :: y :: r => blk 0 x ++ strm (y :: r)
theorem strm_lt : ∀ (L : List (List Nat)), (∀ x ∈ L, x.length < 65536) → (∀ x ∈ L, ∀ y ∈ x, y < 256) → ∀ y ∈ strm L, y < 256
  | [], _, _, y, h => by simp [strm] at h
  | [x], h1, h2, y, h => blk_lt 1 x (by omega) (h1 x (by simp)) (h2 x (by simp)) y h
  | x :: z :: r, h1, h2, y, h => by
    simp only [strm, List.mem_append] at h
    rcases h with h | h
    · exact blk_lt 0 x (by omega) (h1 x (by simp)) (h2 x (by simp)) y h
    · exact strm_lt (z :: r) (fun a ha => h1 a (List.mem_cons_of_mem _ ha)) (fun a ha => h2 a (List.mem_cons_of_mem _ ha)) y h
theorem strm_length : ∀ (L : List (List Nat)), L.length ≤ (strm L).length
  | [] => by simp [strm]
  | [x] => by simp [strm, blk_length]; omega
  | x :: z :: r => by have := strm_length (z :: r); simp only [strm, List.length_append, blk_length, List.length_cons] at this ⊢; omega

theorem stored_blocks (most : Nat) : ∀ (L : List (List Nat)) (pre out : List Nat) (k : Nat), L ≠ [] → (∀ x ∈ L, x.length < 65536) → (∀ y ∈ pre, y < 256) → (∀ x ∈ L, ∀ y ∈ x, y < 256) → out.length + L.flatten.length ≤ most → L.length ≤ k →
    blocks (bb (pre ++ strm L)) most k out (8 * pre.length) = (out ++ L.flatten, 8 * (pre ++ strm L).length, 0)
  | [], _, _, _, h, _, _, _, _, _ => absurd rfl h
  | [x], pre, out, 0, _, _, _, _, _, h => by simp at h
  | [x], pre, out, k + 1, _, h1, h2, h3, h4, _ => by
    simp only [List.flatten_cons, List.flatten_nil, List.append_nil] at h4 ⊢
    obtain ⟨e1, e2⟩ := stored_block pre x [] 1 most out (by omega) (h1 x (by simp)) (by
      intro y hy
      simp only [List.append_nil, List.mem_append] at hy
      rcases hy with hy | hy
      · exact h2 y hy
      · exact blk_lt 1 x (by omega) (h1 x (by simp)) (h3 x (by simp)) y hy) h4
    rw [List.append_nil] at e1 e2
    show blocks (bb (pre ++ blk 1 x)) most (k + 1) out (8 * pre.length) = _
    simp only [blocks]
    rw [e1, e2, if_neg (by simp), if_pos rfl]
    rfl
  | x :: z :: r, pre, out, 0, _, _, _, _, _, h => by simp at h
  | x :: z :: r, pre, out, k + 1, _, h1, h2, h3, h4, h5 => by
    have hz1 : ∀ a ∈ z :: r, a.length < 65536 := fun a ha => h1 a (List.mem_cons_of_mem _ ha)
    have hz3 : ∀ a ∈ z :: r, ∀ y ∈ a, y < 256 := fun a ha => h3 a (List.mem_cons_of_mem _ ha)
    have hb := blk_lt 0 x (by omega) (h1 x (by simp)) (h3 x (by simp))
    rw [List.flatten_cons] at h4 ⊢
    rw [List.length_append] at h4
    obtain ⟨e1, e2⟩ := stored_block pre x (strm (z :: r)) 0 most out (by omega) (h1 x (by simp)) (by
      intro y hy
      simp only [List.mem_append] at hy
      rcases hy with (hy | hy) | hy
      · exact h2 y hy
      · exact hb y hy
      · exact strm_lt _ hz1 hz3 y hy) (by omega)
    have ih := stored_blocks most (z :: r) (pre ++ blk 0 x) (out ++ x) k (by simp) hz1 (by
      intro y hy
      rw [List.mem_append] at hy
      rcases hy with hy | hy
      · exact h2 y hy
      · exact hb y hy) hz3 (by rw [List.length_append]; omega) (by simpa using h5)
    have e0 : pre ++ strm (x :: z :: r) = pre ++ blk 0 x ++ strm (z :: r) := by simp [strm]
    rw [e0]
    simp only [blocks]
    rw [e1, e2, if_neg (by simp), if_neg (by simp)]
    simp only
    rw [ih, List.append_assoc out x]

/-- Stored blocks tell their bytes. -/
theorem stored_decode (L : List (List Nat)) (most : Int) (h0 : L ≠ []) (h1 : ∀ x ∈ L, x.length < 65536) (h3 : ∀ x ∈ L, ∀ y ∈ x, y < 256) (h4 : (L.flatten.length : Int) ≤ most) (h5 : most ≤ 65536) :
    decode (bb (strm L)) most = (L.flatten, (strm L).length, 0) := by
  have e := stored_blocks most.toNat L [] [] ((bb (strm L)).length + 1) h0 h1 (fun y hy => nomatch hy) h3 (by simp only [List.length_nil]; omega) (by
    have := strm_length L
    rw [bb_length]; omega)
  simp only [List.nil_append, List.length_nil, Nat.mul_zero] at e
  unfold decode
  rw [if_neg (by omega), e, if_neg (by simp)]
  simp only
  congr 2
  omega

/-! ### The document's examples -/

theorem ex_abc : decode (bb [1, 3, 0, 252, 255, 97, 98, 99]) 3 = ([97, 98, 99], 8, 0) :=
  stored_decode [[97, 98, 99]] 3 (by simp) (by simp) (by simp) (by simp) (by omega)
theorem ex_sum : decode (bb [1, 3, 0, 253, 255, 97, 98, 99]) 9 = ([], 0, 5) := by
  unfold decode
  rw [if_neg (by omega)]
  have e : block (bb [1, 3, 0, 253, 255, 97, 98, 99]) 9 0 [] = ([], 0, 5) := by
    unfold block
    rw [if_neg (by rw [bb_length]; simp), if_pos (by decide +kernel)]
    decide +kernel
  have e2 : blocks (bb [1, 3, 0, 253, 255, 97, 98, 99]) (9 : Int).toNat ((bb [1, 3, 0, 253, 255, 97, 98, 99]).length + 1) [] 0 = ([], 0, 5) := by
    show blocks _ 9 _ _ _ = _
    simp only [blocks]
    rw [e, if_pos (by simp)]
  rw [e2, if_pos (by simp)]
theorem ex_code : decode (bb [7]) 9 = ([], 0, 13) := by
  unfold decode
  rw [if_neg (by omega)]
  have e : block (bb [7]) 9 0 [] = ([], 0, 13) := by
    unfold block
    rw [if_neg (by rw [bb_length]; simp), if_neg (by decide +kernel), if_neg (by decide +kernel), if_neg (by decide +kernel)]
  have e2 : blocks (bb [7]) (9 : Int).toNat ((bb [7]).length + 1) [] 0 = ([], 0, 13) := by
    show blocks _ 9 _ _ _ = _
    simp only [blocks]
    rw [e, if_pos (by simp)]
  rw [e2, if_pos (by simp)]
end If
end Go.Proofs.YtgbojpakddjhlaaGreatDoor
