/- What is read where a code stands: plain facts. Nothing of the program is named here. -/
import Derived.Test.YtgffcffmhhdceaaHapart
namespace Go.Proofs.Ytgffcffmhhdceaa
namespace Hf

theorem vb_split (l : List Bool) (p n d : Nat) : ∃ r, r < 2 ^ d ∧ vb l p (n + d) = vb l p n * 2 ^ d + r := by
  induction d with
  | zero => exact ⟨0, by simp, by simp⟩
  | succ d ih =>
    obtain ⟨r, hr, e⟩ := ih
    have hb : (l[p + (n + d)]?.getD false).toNat < 2 := Bool.toNat_lt _
    refine ⟨2 * r + (l[p + (n + d)]?.getD false).toNat, by rw [Nat.pow_succ]; omega, ?_⟩
    show 2 * vb l p (n + d) + (l[p + (n + d)]?.getD false).toNat = _
    rw [e, Nat.pow_succ]
    generalize vb l p n = v
    generalize 2 ^ d = q
    have h : v * (q * 2) = 2 * (v * q) := by rw [Nat.mul_comm q 2, ← Nat.mul_assoc, Nat.mul_comm v 2, Nat.mul_assoc]
    rw [h]
    omega

/-- The head of the bits read. -/
theorem vb_head (l : List Bool) (p n d : Nat) : vb l p (n + d) / 2 ^ d = vb l p n := by
  obtain ⟨r, hr, e⟩ := vb_split l p n d
  rw [e, Nat.mul_comm, Nat.mul_add_div (Nat.two_pow_pos d), Nat.div_eq_of_lt hr, Nat.add_zero]

theorem hit_beg {ls : List Nat} {l : List Bool} {p n k : Nat} (h : Hit ls l p n k) (m : Nat) (hm : m ≤ n) : Beg ls l p m k := by
  obtain ⟨h1, h2, h3⟩ := h
  refine ⟨h1, by omega, ?_⟩
  rw [h2, h3]
  have := vb_head l p m (n - m)
  rwa [show m + (n - m) = n by omega] at this

/-- Ahead of a code's end nothing else is hit. -/
theorem hit_only {ls : List Nat} {l : List Bool} {p n k m : Nat} (h : Hit ls l p n k) (hm : m < n) (k' : Nat) : ¬ Hit ls l p m k' := by
  intro h'
  obtain ⟨g1, g2, g3⟩ := h'
  have hb := hit_beg h m (by omega)
  obtain ⟨h1, h2, h3⟩ := h
  have := apart_long ls k' k g1 h1 (by omega)
  rw [g2, hb.2.2, g3] at this
  omega

/-- Where a code stands it is read. -/
theorem rd_hit {ls : List Nat} {l : List Bool} {p n k : Nat} (h : Hit ls l p n k) (hn : 0 < n) (hp : p + n ≤ l.length) : Rd ls l p 0 (sy ls k, p + n, 0) := by
  have h15 : n ≤ 15 := by have := (sy_mem ls k h.1).2.2; have := h.2.1; omega
  have key : ∀ d j, j + d + 1 = n → Rd ls l p j (sy ls k, p + n, 0) := by
    intro d
    induction d with
    | zero =>
      intro j hj
      have e : n = j + 1 := by omega
      subst e
      exact Rd.hit j k (by omega) (by omega) h
    | succ d ih =>
      intro j hj
      exact Rd.next j k _ (by omega) (by omega) (hit_only h (by omega)) (hit_beg h (j + 1) (by omega)) (ih (j + 1) (by omega))
  exact key (n - 1) 0 (by omega)

/-- Of lengths that take 1 some code stands wherever there are fifteen bits. -/
theorem whole_hit (ls : List Nat) (l : List Bool) (p : Nat) (hw : pf ls (ordl ls).length = 32768) : ∃ k, Hit ls l p (ln ls (sy ls k)) k := by
  have hv := vb_lt l p 15
  have key : ∀ m, m ≤ (ordl ls).length → vb l p 15 < pf ls m → ∃ k, k < m ∧ pf ls k ≤ vb l p 15 ∧ vb l p 15 < pf ls (k + 1) := by
    intro m
    induction m with
    | zero => intro _ h; simp [pf] at h
    | succ m ih =>
      intro hm h
      by_cases g : vb l p 15 < pf ls m
      · obtain ⟨k, h1, h2, h3⟩ := ih (by omega) g
        exact ⟨k, by omega, h2, h3⟩
      · exact ⟨m, by omega, by omega, h⟩
  obtain ⟨k, hk, h2, h3⟩ := key _ (Nat.le_refl _) (by rw [hw]; exact hv)
  refine ⟨k, hk, rfl, ?_⟩
  have hm := sy_mem ls k hk
  have e1 := cd_pf ls k hk
  have e2 : pf ls (k + 1) = pf ls k + 2 ^ (15 - ln ls (sy ls k)) := rfl
  have e3 := vb_head l p (ln ls (sy ls k)) (15 - ln ls (sy ls k))
  rw [show ln ls (sy ls k) + (15 - ln ls (sy ls k)) = 15 by omega] at e3
  rw [← e3]
  have hpos := Nat.two_pow_pos (15 - ln ls (sy ls k))
  generalize 2 ^ (15 - ln ls (sy ls k)) = q at e1 e2 hpos ⊢
  rw [← e1] at h2 e2
  rw [e2] at h3
  refine (Nat.div_eq_of_lt_le ?_ ?_).symm
  · exact h2
  · rw [Nat.succ_mul]; exact h3
end Hf
end Go.Proofs.Ytgffcffmhhdceaa
