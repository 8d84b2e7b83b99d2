/- Streams and their beginnings: what stands behind changes nothing; cut short there is too little. -/
import Derived.Test.YtnjlljdbghcobaaGreatDoorAppm

namespace Go.Proofs.YtnjlljdbghcobaaGreatDoor
set_option maxRecDepth 100000
namespace If
open Hd (num rd head)

/-- What a part of a stream told, told of the row's beginning: the same, or too little. -/
def Cut (m : Nat) (r r' : List Nat × Nat × Int) : Prop := (r.2.1 ≤ m → r' = r) ∧ (m < r.2.1 → r'.2.2 = 4)

theorem copy_facts {l : List Bool} {dist : List Nat} {most s p : Nat} {out : List Nat} (h : (copy l dist most s p out).2.2 = 0) : p < (copy l dist most s p out).2.1 ∧ (copy l dist most s p out).2.1 ≤ l.length := by
  unfold copy at h ⊢
  by_cases h1 : 286 ≤ s
  · rw [if_pos h1] at h; simp at h
  rw [if_neg h1] at h ⊢
  by_cases h2 : l.length < p + Sy.at' Sy.lb (s - 257)
  · rw [if_pos h2] at h; simp at h
  rw [if_neg h2] at h ⊢
  by_cases h3 : ∀ x ∈ dist, x = 0
  · rw [if_pos h3] at h; simp at h
  rw [if_neg h3] at h ⊢
  generalize hr : rd dist l (p + Sy.at' Sy.lb (s - 257)) = r at h ⊢
  obtain ⟨y, q, c⟩ := r
  simp only at h ⊢
  by_cases h4 : c ≠ 0
  · rw [if_pos h4] at h; exact absurd h h4
  rw [if_neg h4] at h ⊢
  have hl := Hd.rd_lt (by omega) hr
  have hc : c = 0 := by simpa using h4
  by_cases h5 : 30 ≤ y
  · rw [if_pos h5] at h; simp at h
  rw [if_neg h5] at h ⊢
  by_cases h6 : l.length < q + Sy.at' Sy.db y
  · rw [if_pos h6] at h; simp at h
  rw [if_neg h6] at h ⊢
  by_cases h7 : out.length < Sy.at' Sy.df y + num l q (Sy.at' Sy.db y)
  · rw [if_pos h7] at h; simp at h
  rw [if_neg h7] at h ⊢
  by_cases h8 : most < out.length + (Sy.at' Sy.lf (s - 257) + num l p (Sy.at' Sy.lb (s - 257)))
  · rw [if_pos h8] at h; simp at h
  rw [if_neg h8]
  have := (hl.1 hc)
  simp only
  omega

theorem copy_take {l : List Bool} {dist : List Nat} {most s p m : Nat} {out : List Nat} (hm : m ≤ l.length) (h : (copy l dist most s p out).2.2 = 0) : Cut m (copy l dist most s p out) (copy (l.take m) dist most s p out) := by
  have hlen : (l.take m).length = m := by rw [List.length_take]; omega
  unfold copy at h ⊢
  rw [hlen]
  by_cases h1 : 286 ≤ s
  · rw [if_pos h1] at h; simp at h
  rw [if_neg h1] at h ⊢
  rw [if_neg h1]
  by_cases h2 : l.length < p + Sy.at' Sy.lb (s - 257)
  · rw [if_pos h2] at h; simp at h
  rw [if_neg h2] at h ⊢
  by_cases h3 : ∀ x ∈ dist, x = 0
  · rw [if_pos h3] at h; simp at h
  rw [if_neg h3] at h ⊢
  rw [if_neg h3]
  generalize hr : rd dist l (p + Sy.at' Sy.lb (s - 257)) = r at h ⊢
  obtain ⟨y, q, c⟩ := r
  simp only at h ⊢
  by_cases h4 : c ≠ 0
  · rw [if_pos h4] at h; exact absurd h h4
  rw [if_neg h4] at h ⊢
  have hc : c = 0 := by simpa using h4
  subst hc
  have hl := (Hd.rd_lt (by omega) hr).1 rfl
  by_cases h5 : 30 ≤ y
  · rw [if_pos h5] at h; simp at h
  rw [if_neg h5] at h ⊢
  by_cases h6 : l.length < q + Sy.at' Sy.db y
  · rw [if_pos h6] at h; simp at h
  rw [if_neg h6] at h ⊢
  by_cases h7 : out.length < Sy.at' Sy.df y + num l q (Sy.at' Sy.db y)
  · rw [if_pos h7] at h; simp at h
  rw [if_neg h7] at h ⊢
  by_cases h8 : most < out.length + (Sy.at' Sy.lf (s - 257) + num l p (Sy.at' Sy.lb (s - 257)))
  · rw [if_pos h8] at h; simp at h
  rw [if_neg h8]
  clear h
  by_cases g2 : m < p + Sy.at' Sy.lb (s - 257)
  · rw [if_pos g2]
    exact ⟨fun h => by simp only at h; omega, fun _ => rfl⟩
  rw [if_neg g2, rd_take hm (by omega) hr]
  by_cases g4 : q ≤ m
  · rw [if_pos g4]
    simp only
    rw [if_neg (by simp), if_neg h5]
    by_cases g6 : m < q + Sy.at' Sy.db y
    · rw [if_pos g6]
      exact ⟨fun h => by simp only at h; omega, fun _ => rfl⟩
    rw [if_neg g6, num_take _ _ _ _ (by omega), num_take _ _ _ _ (by omega), if_neg h7, if_neg h8]
    exact ⟨fun _ => rfl, fun h => by simp only at h; omega⟩
  · rw [if_neg g4]
    simp only
    rw [if_pos (by simp)]
    exact ⟨fun h => by simp only at h; omega, fun _ => rfl⟩

theorem runs_facts {ls : List Nat} {l : List Bool} {n : Nat} : ∀ (k : Nat) (acc : List Nat) (p : Nat), p ≤ l.length → (Hd.runs ls l n k acc p).2.2 = 0 → p ≤ (Hd.runs ls l n k acc p).2.1 ∧ (Hd.runs ls l n k acc p).2.1 ≤ l.length := by
  intro k
  induction k with
  | zero => intro acc p hp _; exact ⟨Nat.le_refl _, hp⟩
  | succ k ih =>
    intro acc p hp h
    simp only [Hd.runs] at h ⊢
    by_cases h1 : n ≤ acc.length
    · rw [if_pos h1]; exact ⟨Nat.le_refl _, hp⟩
    rw [if_neg h1] at h ⊢
    generalize hr : rd ls l p = r at h ⊢
    obtain ⟨y, q, c⟩ := r
    simp only at h ⊢
    by_cases h2 : c ≠ 0
    · rw [if_pos h2] at h; exact absurd h h2
    rw [if_neg h2] at h ⊢
    have hl := (Hd.rd_lt hp hr).1 (by simpa using h2)
    by_cases h3 : l.length < q + Hd.ex y
    · rw [if_pos h3] at h; simp at h
    rw [if_neg h3] at h ⊢
    generalize Hd.take acc y (num l q (Hd.ex y)) n = t at h ⊢
    by_cases h4 : t.2 ≠ 0
    · rw [if_pos h4] at h; exact absurd h h4
    rw [if_neg h4] at h ⊢
    have := ih t.1 (q + Hd.ex y) (by omega) h
    omega

theorem runs_cut {ls : List Nat} {l : List Bool} {n m : Nat} (hm : m ≤ l.length) : ∀ (k : Nat) (acc : List Nat) (p : Nat), p ≤ m → n - acc.length < k → (Hd.runs ls l n k acc p).2.2 = 0 →
    Cut m (Hd.runs ls l n k acc p) (Hd.runs ls (l.take m) n k acc p) := by
  have hlen : (l.take m).length = m := by rw [List.length_take]; omega
  intro k
  induction k with
  | zero => intro acc p hp hk _; omega
  | succ k ih =>
    intro acc p hp hk h
    simp only [Hd.runs] at h ⊢
    by_cases h1 : n ≤ acc.length
    · rw [if_pos h1, if_pos h1]; exact ⟨fun _ => rfl, fun h => by simp only at h; omega⟩
    rw [if_neg h1] at h ⊢
    rw [if_neg h1]
    generalize hr : rd ls l p = r at h ⊢
    obtain ⟨y, q, c⟩ := r
    simp only at h ⊢
    by_cases h2 : c ≠ 0
    · rw [if_pos h2] at h; exact absurd h h2
    rw [if_neg h2] at h ⊢
    have hc : c = 0 := by simpa using h2
    subst hc
    have hl := (Hd.rd_lt (by omega) hr).1 rfl
    by_cases h3 : l.length < q + Hd.ex y
    · rw [if_pos h3] at h; simp at h
    rw [if_neg h3] at h ⊢
    generalize ht : Hd.take acc y (num l q (Hd.ex y)) n = t at h ⊢
    by_cases h4 : t.2 ≠ 0
    · rw [if_pos h4] at h; exact absurd h h4
    rw [if_neg h4] at h ⊢
    have hge := runs_facts k t.1 (q + Hd.ex y) (by omega) h
    rw [rd_take hm hp hr]
    by_cases g4 : q ≤ m
    · rw [if_pos g4]
      simp only
      rw [if_neg (by simp), hlen]
      by_cases g6 : m < q + Hd.ex y
      · rw [if_pos g6]; exact ⟨fun h => by omega, fun _ => rfl⟩
      rw [if_neg g6, num_take _ _ _ _ (by omega), ht, if_neg h4]
      have hlt : acc.length < t.1.length := by
        have h5 : t.2 = 0 := by simpa using h4
        have : Hd.take acc y (num l q (Hd.ex y)) n = (t.1, 0) := by rw [ht, ← h5]
        exact (Hd.take_length this).1
      exact ih t.1 (q + Hd.ex y) (by omega) (by omega) h
    · rw [if_neg g4]
      simp only
      rw [if_pos (by simp)]
      exact ⟨fun h => by omega, fun _ => rfl⟩

theorem cl_take (l : List Bool) (m p k : Nat) (h : p + 3 * k ≤ m) : Hd.cl (l.take m) p k = Hd.cl l p k := by
  induction k with
  | zero => rfl
  | succ k ih => simp only [Hd.cl]; rw [ih (by omega), num_take _ _ _ _ (by omega)]

theorem head_facts {l : List Bool} {p : Nat} (h : (head l p).2.2.2 = 0) : p + 14 < (head l p).2.2.1 ∧ (head l p).2.2.1 ≤ l.length := by
  by_cases h1 : l.length < p + 10
  · rw [Hd.head_e1 h1] at h; simp at h
  by_cases h3 : 286 < num l p 5 + 257 ∨ 30 < num l (p + 5) 5 + 1
  · rw [Hd.head_e3 (l := l) (p := p) (by omega) rfl rfl h3] at h; simp at h
  by_cases h4 : l.length < p + 14
  · rw [Hd.head_e4 (l := l) (p := p) (by omega) rfl rfl h3 h4] at h; simp at h
  by_cases h5 : l.length < p + 14 + 3 * (num l (p + 10) 4 + 4)
  · rw [Hd.head_e5 (l := l) (p := p) (by omega) rfl rfl rfl h3 h5] at h; simp at h
  by_cases h6 : newE (Hd.zz (Hd.cl l (p + 14) (num l (p + 10) 4 + 4))) = 0
  · rw [Hd.head_run (l := l) (p := p) (by omega) rfl rfl rfl rfl h3 (by omega) h6] at h ⊢
    by_cases h7 : (Hd.runs (Hd.cl l (p + 14) (num l (p + 10) 4 + 4)) l (num l p 5 + 257 + (num l (p + 5) 5 + 1)) 400 [] (p + 14 + 3 * (num l (p + 10) 4 + 4))).2.2 ≠ 0
    · rw [if_pos h7] at h; exact absurd h h7
    · rw [if_neg h7]
      have h8 : (Hd.runs (Hd.cl l (p + 14) (num l (p + 10) 4 + 4)) l (num l p 5 + 257 + (num l (p + 5) 5 + 1)) 400 [] (p + 14 + 3 * (num l (p + 10) 4 + 4))).2.2 = 0 := by simpa using h7
      have := runs_facts (l := l) 400 [] (p + 14 + 3 * (num l (p + 10) 4 + 4)) (by omega) h8
      simp only
      omega
  · rw [Hd.head_e6 (l := l) (p := p) (by omega) rfl rfl rfl rfl h3 (by omega) h6] at h; exact absurd h h6

theorem head_cut {l : List Bool} {p m : Nat} (hm : m ≤ l.length) (h : (head l p).2.2.2 = 0) : ((head l p).2.2.1 ≤ m → head (l.take m) p = head l p) ∧ (m < (head l p).2.2.1 → (head (l.take m) p).2.2.2 = 4) := by
  have hlen : (l.take m).length = m := by rw [List.length_take]; omega
  have hf := head_facts h
  by_cases h1 : l.length < p + 10
  · rw [Hd.head_e1 h1] at h; simp at h
  by_cases h3 : 286 < num l p 5 + 257 ∨ 30 < num l (p + 5) 5 + 1
  · rw [Hd.head_e3 (l := l) (p := p) (by omega) rfl rfl h3] at h; simp at h
  by_cases h4 : l.length < p + 14
  · rw [Hd.head_e4 (l := l) (p := p) (by omega) rfl rfl h3 h4] at h; simp at h
  by_cases h5 : l.length < p + 14 + 3 * (num l (p + 10) 4 + 4)
  · rw [Hd.head_e5 (l := l) (p := p) (by omega) rfl rfl rfl h3 h5] at h; simp at h
  by_cases h6 : newE (Hd.zz (Hd.cl l (p + 14) (num l (p + 10) 4 + 4))) = 0
  · have hr := Hd.head_run (l := l) (p := p) (by omega) rfl rfl rfl rfl h3 (by omega) h6
    have h7 : (Hd.runs (Hd.cl l (p + 14) (num l (p + 10) 4 + 4)) l (num l p 5 + 257 + (num l (p + 5) 5 + 1)) 400 [] (p + 14 + 3 * (num l (p + 10) 4 + 4))).2.2 = 0 := by
      rw [hr] at h
      by_cases h7 : (Hd.runs (Hd.cl l (p + 14) (num l (p + 10) 4 + 4)) l (num l p 5 + 257 + (num l (p + 5) 5 + 1)) 400 [] (p + 14 + 3 * (num l (p + 10) 4 + 4))).2.2 ≠ 0
      · rw [if_pos h7] at h; exact absurd h h7
      · simpa using h7
    rw [if_neg (by simpa using h7)] at hr
    have hrf := runs_facts (l := l) 400 [] (p + 14 + 3 * (num l (p + 10) 4 + 4)) (by omega) h7
    rw [hr] at hf ⊢
    simp only at hf ⊢
    by_cases g1 : m < p + 10
    · rw [Hd.head_e1 (l := l.take m) (p := p) (by omega)]; exact ⟨fun h => by omega, fun _ => rfl⟩
    have n1 : num (l.take m) p 5 = num l p 5 := num_take _ _ _ _ (by omega)
    have n2 : num (l.take m) (p + 5) 5 = num l (p + 5) 5 := num_take _ _ _ _ (by omega)
    by_cases g4 : m < p + 14
    · rw [Hd.head_e4 (l := l.take m) (p := p) (by omega) rfl rfl (by rw [n1, n2]; exact h3) (by omega)]; exact ⟨fun h => by omega, fun _ => rfl⟩
    have n3 : num (l.take m) (p + 10) 4 = num l (p + 10) 4 := num_take _ _ _ _ (by omega)
    by_cases g5 : m < p + 14 + 3 * (num l (p + 10) 4 + 4)
    · rw [Hd.head_e5 (l := l.take m) (p := p) (by omega) rfl rfl rfl (by rw [n1, n2]; exact h3) (by rw [n3]; omega)]; exact ⟨fun h => by omega, fun _ => rfl⟩
    have n4 : Hd.cl (l.take m) (p + 14) (num l (p + 10) 4 + 4) = Hd.cl l (p + 14) (num l (p + 10) 4 + 4) := cl_take _ _ _ _ (by omega)
    have hr' := Hd.head_run (l := l.take m) (p := p) (by omega) rfl rfl rfl rfl (by rw [n1, n2]; exact h3) (by rw [n3]; omega) (by rw [n3, n4]; exact h6)
    rw [n1, n2, n3, n4] at hr'
    have hc := runs_cut (ls := Hd.cl l (p + 14) (num l (p + 10) 4 + 4)) (n := num l p 5 + 257 + (num l (p + 5) 5 + 1)) hm 400 [] (p + 14 + 3 * (num l (p + 10) 4 + 4)) (by omega) (by have := Hd.num_lt l p 5; have := Hd.num_lt l (p + 5) 5; simp only [List.length_nil]; omega) h7
    rw [hr']
    constructor
    · intro hq
      rw [hc.1 hq, if_neg (by simpa using h7)]
    · intro hq
      rw [hc.2 hq, if_pos (by simp)]
  · rw [Hd.head_e6 (l := l) (p := p) (by omega) rfl rfl rfl rfl h3 (by omega) h6] at h; exact absurd h h6

theorem byteAt_take (l : List Bool) (m j : Nat) (h : 8 * j + 8 ≤ m) : Bs.byteAt (l.take m) j = Bs.byteAt l j := by
  unfold Bs.byteAt
  rw [List.drop_take, List.take_take, Nat.min_eq_left (by omega)]

theorem stored_facts {l : List Bool} {most p : Nat} {out : List Nat} (h : (stored l most p out).2.2 = 0) : p < (stored l most p out).2.1 ∧ (stored l most p out).2.1 ≤ l.length := by
  unfold stored at h ⊢
  by_cases h1 : l.length < up p + 32
  · rw [if_pos h1] at h; simp at h
  rw [if_neg h1] at h ⊢
  by_cases h2 : num l (up p) 16 + num l (up p + 16) 16 ≠ 65535 ∨ num l (up p) 16 &&& num l (up p + 16) 16 ≠ 0
  · rw [if_pos h2] at h; simp at h
  rw [if_neg h2] at h ⊢
  by_cases h3 : most < out.length + num l (up p) 16
  · rw [if_pos h3] at h; simp at h
  rw [if_neg h3] at h ⊢
  by_cases h4 : l.length < up p + 32 + 8 * num l (up p) 16
  · rw [if_pos h4] at h; simp at h
  rw [if_neg h4]
  have : p ≤ up p := by unfold up; omega
  simp only
  omega

theorem stored_cut {l : List Bool} {most p m : Nat} {out : List Nat} (hm : m ≤ l.length) (h : (stored l most p out).2.2 = 0) : Cut m (stored l most p out) (stored (l.take m) most p out) := by
  have hlen : (l.take m).length = m := by rw [List.length_take]; omega
  unfold stored at h ⊢
  rw [hlen]
  by_cases h1 : l.length < up p + 32
  · rw [if_pos h1] at h; simp at h
  rw [if_neg h1] at h ⊢
  by_cases h2 : num l (up p) 16 + num l (up p + 16) 16 ≠ 65535 ∨ num l (up p) 16 &&& num l (up p + 16) 16 ≠ 0
  · rw [if_pos h2] at h; simp at h
  rw [if_neg h2] at h ⊢
  by_cases h3 : most < out.length + num l (up p) 16
  · rw [if_pos h3] at h; simp at h
  rw [if_neg h3] at h ⊢
  by_cases h4 : l.length < up p + 32 + 8 * num l (up p) 16
  · rw [if_pos h4] at h; simp at h
  rw [if_neg h4]
  by_cases g1 : m < up p + 32
  · rw [if_pos g1]; exact ⟨fun h => by simp only at h; omega, fun _ => rfl⟩
  rw [if_neg g1, num_take _ _ _ _ (by omega), num_take _ _ _ _ (by omega), if_neg h2, if_neg h3]
  by_cases g4 : m < up p + 32 + 8 * num l (up p) 16
  · rw [if_pos g4]; exact ⟨fun h => by simp only at h; omega, fun _ => rfl⟩
  rw [if_neg g4]
  refine ⟨fun _ => ?_, fun h => by simp only at h; omega⟩
  congr 2
  apply List.map_congr_left
  intro i hi
  have hi' := List.mem_range.1 hi
  have : (up p + 32) / 8 * 8 = up p + 32 := by unfold up; omega
  exact byteAt_take l m _ (by omega)

theorem syms_facts {l : List Bool} {lit dist : List Nat} {most : Nat} : ∀ (k : Nat) (out : List Nat) (p : Nat), p ≤ l.length → l.length - p < k → (syms l lit dist most k out p).2.2 = 0 → p < (syms l lit dist most k out p).2.1 ∧ (syms l lit dist most k out p).2.1 ≤ l.length := by
  intro k
  induction k with
  | zero => intro out p hp hk _; omega
  | succ k ih =>
    intro out p hp hk h
    simp only [syms] at h ⊢
    generalize hr : rd lit l p = r at h ⊢
    obtain ⟨y, q, c⟩ := r
    simp only at h ⊢
    by_cases h1 : c ≠ 0
    · rw [if_pos h1] at h; exact absurd h h1
    rw [if_neg h1] at h ⊢
    have hl := (Hd.rd_lt hp hr).1 (by simpa using h1)
    by_cases h2 : y = 256
    · rw [if_pos h2]; exact ⟨hl.2.1, hl.2.2⟩
    rw [if_neg h2] at h ⊢
    by_cases h3 : 256 < y
    · rw [if_pos h3] at h ⊢
      by_cases h4 : (copy l dist most y q out).2.2 ≠ 0
      · rw [if_pos h4] at h; exact absurd h h4
      rw [if_neg h4] at h ⊢
      have hc := copy_facts (by simpa using h4 : (copy l dist most y q out).2.2 = 0)
      have := ih _ _ hc.2 (by omega) h
      omega
    rw [if_neg h3] at h ⊢
    by_cases h5 : most ≤ out.length
    · rw [if_pos h5] at h; simp at h
    rw [if_neg h5] at h ⊢
    have := ih _ _ hl.2.2 (by omega) h
    omega

theorem syms_cut {l : List Bool} {lit dist : List Nat} {most m : Nat} (hm : m ≤ l.length) : ∀ (k k' : Nat) (out : List Nat) (p : Nat), p ≤ m → l.length - p < k → m - p < k' → (syms l lit dist most k out p).2.2 = 0 →
    Cut m (syms l lit dist most k out p) (syms (l.take m) lit dist most k' out p) := by
  intro k
  induction k with
  | zero => intro k' out p hp hk _ _; omega
  | succ k ih =>
    intro k' out p hp hk hk' h
    obtain ⟨k', rfl⟩ : ∃ j, k' = j + 1 := ⟨k' - 1, by omega⟩
    have hf := syms_facts (k + 1) out p (by omega) hk h
    simp only [syms] at h hf ⊢
    generalize hr : rd lit l p = r at h hf ⊢
    obtain ⟨y, q, c⟩ := r
    simp only at h hf ⊢
    by_cases h1 : c ≠ 0
    · rw [if_pos h1] at h; exact absurd h h1
    rw [if_neg h1] at h hf ⊢
    have hc0 : c = 0 := by simpa using h1
    subst hc0
    have hl := (Hd.rd_lt (by omega) hr).1 rfl
    rw [rd_take hm hp hr]
    by_cases g : q ≤ m
    · rw [if_pos g]
      simp only
      rw [if_neg (show ¬ ((0 : Int) ≠ 0) by simp)]
      by_cases h2 : y = 256
      · rw [if_pos h2, if_pos h2]; exact ⟨fun _ => rfl, fun h => by simp only at h; omega⟩
      rw [if_neg h2] at h hf ⊢
      rw [if_neg h2]
      by_cases h3 : 256 < y
      · rw [if_pos h3] at h hf ⊢
        rw [if_pos h3]
        by_cases h4 : (copy l dist most y q out).2.2 ≠ 0
        · rw [if_pos h4] at h; exact absurd h h4
        rw [if_neg h4] at h hf ⊢
        have h4' : (copy l dist most y q out).2.2 = 0 := by simpa using h4
        have hcf := copy_facts h4'
        have hct := copy_take hm h4'
        have hsf := syms_facts k _ _ hcf.2 (by omega) h
        by_cases g2 : (copy l dist most y q out).2.1 ≤ m
        · rw [hct.1 g2, if_neg h4]
          exact ih k' _ _ g2 (by omega) (by omega) h
        · have h44 := hct.2 (by omega)
          rw [if_pos (by rw [h44]; simp)]
          exact ⟨fun h => by omega, fun _ => h44⟩
      rw [if_neg h3] at h hf ⊢
      rw [if_neg h3]
      by_cases h5 : most ≤ out.length
      · rw [if_pos h5] at h; simp at h
      rw [if_neg h5] at h ⊢
      rw [if_neg h5]
      exact ih k' _ _ g (by omega) (by omega) h
    · rw [if_neg g]
      simp only
      rw [if_pos (show (4 : Int) ≠ 0 by decide)]
      refine ⟨fun h => ?_, fun _ => rfl⟩
      exfalso
      have : q ≤ m := by
        by_cases h2 : y = 256
        · rw [if_pos h2] at h; exact h
        rw [if_neg h2] at h
        rename_i hs
        rw [if_neg h2] at hs
        by_cases h3 : 256 < y
        · rw [if_pos h3] at h hs
          by_cases h4 : (copy l dist most y q out).2.2 ≠ 0
          · rw [if_pos h4] at hs; exact absurd hs h4
          rw [if_neg h4] at h hs
          have hcf := copy_facts (by simpa using h4 : (copy l dist most y q out).2.2 = 0)
          have := syms_facts k _ _ hcf.2 (by omega) hs
          omega
        rw [if_neg h3] at h hs
        by_cases h5 : most ≤ out.length
        · rw [if_pos h5] at hs; simp at hs
        rw [if_neg h5] at h hs
        have := syms_facts k _ _ hl.2.2 (by omega) hs
        omega
      exact g this

theorem dynamic_facts {l : List Bool} {most p : Nat} {out : List Nat} (h : (dynamic l most p out).2.2 = 0) : p < (dynamic l most p out).2.1 ∧ (dynamic l most p out).2.1 ≤ l.length := by
  unfold dynamic at h ⊢
  by_cases h1 : (head l p).2.2.2 ≠ 0
  · rw [if_pos h1] at h; exact absurd h h1
  rw [if_neg h1] at h ⊢
  by_cases h2 : (head l p).1[256]?.getD 0 = 0
  · rw [if_pos h2] at h; simp at h
  rw [if_neg h2] at h ⊢
  by_cases h3 : newE (Hd.zz (head l p).1) ≠ 0
  · rw [if_pos h3] at h; exact absurd h h3
  rw [if_neg h3] at h ⊢
  by_cases h4 : newE (Hd.zz (head l p).2.1) ≠ 0 ∧ ¬ (∀ x ∈ (head l p).2.1, x = 0)
  · rw [if_pos h4] at h; exact absurd h h4.1
  rw [if_neg h4] at h ⊢
  have hh := head_facts (by simpa using h1 : (head l p).2.2.2 = 0)
  have := syms_facts (l.length + 1) out _ hh.2 (by omega) h
  omega

theorem dynamic_cut {l : List Bool} {most p m : Nat} {out : List Nat} (hm : m ≤ l.length) (h : (dynamic l most p out).2.2 = 0) : Cut m (dynamic l most p out) (dynamic (l.take m) most p out) := by
  have hlen : (l.take m).length = m := by rw [List.length_take]; omega
  unfold dynamic at h ⊢
  rw [hlen]
  by_cases h1 : (head l p).2.2.2 ≠ 0
  · rw [if_pos h1] at h; exact absurd h h1
  rw [if_neg h1] at h ⊢
  have h1' : (head l p).2.2.2 = 0 := by simpa using h1
  by_cases h2 : (head l p).1[256]?.getD 0 = 0
  · rw [if_pos h2] at h; simp at h
  rw [if_neg h2] at h ⊢
  by_cases h3 : newE (Hd.zz (head l p).1) ≠ 0
  · rw [if_pos h3] at h; exact absurd h h3
  rw [if_neg h3] at h ⊢
  by_cases h4 : newE (Hd.zz (head l p).2.1) ≠ 0 ∧ ¬ (∀ x ∈ (head l p).2.1, x = 0)
  · rw [if_pos h4] at h; exact absurd h h4.1
  rw [if_neg h4] at h ⊢
  have hh := head_facts h1'
  have hs := syms_facts (l.length + 1) out _ hh.2 (by omega) h
  have hc := head_cut hm h1'
  by_cases g : (head l p).2.2.1 ≤ m
  · rw [hc.1 g, if_neg h1, if_neg h2, if_neg h3, if_neg h4]
    exact syms_cut hm _ _ _ _ g (by omega) (by omega) h
  · have h44 := hc.2 (by omega)
    rw [if_pos (by rw [h44]; decide)]
    exact ⟨fun h => by omega, fun _ => h44⟩

theorem block_facts {l : List Bool} {most p : Nat} {out : List Nat} (h : (block l most p out).2.2 = 0) : p + 3 ≤ (block l most p out).2.1 ∧ (block l most p out).2.1 ≤ l.length := by
  unfold block at h ⊢
  by_cases h1 : l.length < p + 3
  · rw [if_pos h1] at h; simp at h
  rw [if_neg h1] at h ⊢
  by_cases h2 : num l (p + 1) 2 = 0
  · rw [if_pos h2] at h ⊢; have := stored_facts h; omega
  rw [if_neg h2] at h ⊢
  by_cases h3 : num l (p + 1) 2 = 1
  · rw [if_pos h3] at h ⊢; have := syms_facts (l.length + 1) out (p + 3) (by omega) (by omega) h; omega
  rw [if_neg h3] at h ⊢
  by_cases h4 : num l (p + 1) 2 = 2
  · rw [if_pos h4] at h ⊢; have := dynamic_facts h; omega
  rw [if_neg h4] at h; simp at h

theorem block_cut {l : List Bool} {most p m : Nat} {out : List Nat} (hm : m ≤ l.length) (h : (block l most p out).2.2 = 0) : Cut m (block l most p out) (block (l.take m) most p out) := by
  have hlen : (l.take m).length = m := by rw [List.length_take]; omega
  have hf := block_facts h
  unfold block at h hf ⊢
  rw [hlen]
  by_cases h1 : l.length < p + 3
  · rw [if_pos h1] at h; simp at h
  rw [if_neg h1] at h hf ⊢
  by_cases g1 : m < p + 3
  · rw [if_pos g1]; exact ⟨fun h => by omega, fun _ => rfl⟩
  rw [if_neg g1, num_take _ _ _ _ (by omega)]
  by_cases h2 : num l (p + 1) 2 = 0
  · rw [if_pos h2] at h ⊢; rw [if_pos h2]; exact stored_cut hm h
  rw [if_neg h2] at h ⊢
  rw [if_neg h2]
  by_cases h3 : num l (p + 1) 2 = 1
  · rw [if_pos h3] at h ⊢; rw [if_pos h3]; exact syms_cut hm _ _ _ _ (by omega) (by omega) (by omega) h
  rw [if_neg h3] at h ⊢
  rw [if_neg h3]
  by_cases h4 : num l (p + 1) 2 = 2
  · rw [if_pos h4] at h ⊢; rw [if_pos h4]; exact dynamic_cut hm h
  rw [if_neg h4] at h; simp at h

theorem blocks_facts {l : List Bool} {most : Nat} : ∀ (k : Nat) (out : List Nat) (p : Nat), p ≤ l.length → l.length - p < k → (blocks l most k out p).2.2 = 0 → p < (blocks l most k out p).2.1 ∧ (blocks l most k out p).2.1 ≤ l.length := by
  intro k
  induction k with
  | zero => intro out p hp hk _; omega
  | succ k ih =>
    intro out p hp hk h
    simp only [blocks] at h ⊢
    by_cases h1 : (block l most p out).2.2 ≠ 0
    · rw [if_pos h1] at h; exact absurd h h1
    rw [if_neg h1] at h ⊢
    have hb := block_facts (by simpa using h1 : (block l most p out).2.2 = 0)
    by_cases h2 : num l p 1 = 1
    · rw [if_pos h2]; simp only; omega
    rw [if_neg h2] at h ⊢
    have := ih _ _ hb.2 (by omega) h
    omega

theorem blocks_cut {l : List Bool} {most m : Nat} (hm : m ≤ l.length) : ∀ (k k' : Nat) (out : List Nat) (p : Nat), p ≤ m → l.length - p < k → m - p < k' → (blocks l most k out p).2.2 = 0 → Cut m (blocks l most k out p) (blocks (l.take m) most k' out p) := by
  intro k
  induction k with
  | zero => intro k' out p hp hk _ _; omega
  | succ k ih =>
    intro k' out p hp hk hk' h
    obtain ⟨k', rfl⟩ : ∃ j, k' = j + 1 := ⟨k' - 1, by omega⟩
    simp only [blocks] at h ⊢
    by_cases h1 : (block l most p out).2.2 ≠ 0
    · rw [if_pos h1] at h; exact absurd h h1
    rw [if_neg h1] at h ⊢
    have h1' : (block l most p out).2.2 = 0 := by simpa using h1
    have hb := block_facts h1'
    have hc := block_cut hm h1'
    by_cases g : (block l most p out).2.1 ≤ m
    · rw [hc.1 g, if_neg h1, num_take _ _ _ _ (by omega)]
      by_cases h2 : num l p 1 = 1
      · rw [if_pos h2, if_pos h2]; exact ⟨fun _ => rfl, fun h => by simp only at h; omega⟩
      rw [if_neg h2] at h ⊢
      rw [if_neg h2]
      exact ih k' _ _ g (by omega) (by omega) h
    · have h44 := hc.2 (by omega)
      rw [if_pos (show (block (l.take m) most p out).2.2 ≠ 0 by rw [h44]; decide)]
      refine ⟨fun hq => ?_, fun _ => h44⟩
      exfalso
      by_cases h2 : num l p 1 = 1
      · rw [if_pos h2] at hq; exact g hq
      · rw [if_neg h2] at h hq
        have := blocks_facts k _ _ hb.2 (by omega) h
        omega

/-- What stands behind a stream changes nothing, as long as its last byte is there; without it there is too little. -/
theorem decode_cut {l : List Bool} {most : Int} {m : Nat} (hm : m ≤ l.length) (h : (decode l most).2.2 = 0) :
    (8 * (decode l most).2.1 ≤ m → decode (l.take m) most = decode l most) ∧ (m + 8 ≤ 8 * (decode l most).2.1 → decode (l.take m) most = ([], 0, 4)) := by
  have hlen : (l.take m).length = m := by rw [List.length_take]; omega
  unfold decode at h ⊢
  rw [hlen]
  by_cases h1 : most < 0 ∨ 65536 < most
  · rw [if_pos h1] at h; simp at h
  rw [if_neg h1] at h ⊢
  rw [if_neg h1]
  by_cases h2 : (blocks l most.toNat (l.length + 1) [] 0).2.2 ≠ 0
  · rw [if_pos h2] at h; exact absurd h h2
  rw [if_neg h2]
  have h2' : (blocks l most.toNat (l.length + 1) [] 0).2.2 = 0 := by simpa using h2
  have hc := blocks_cut hm (l.length + 1) (m + 1) [] 0 (Nat.zero_le _) (by omega) (by omega) h2'
  simp only
  constructor
  · intro hq
    rw [hc.1 (by omega), if_neg h2]
  · intro hq
    have := hc.2 (by omega)
    rw [this, if_pos (by decide)]
end If
end Go.Proofs.YtnjlljdbghcobaaGreatDoor
