/- No code begins with another one; codes of one length rise: plain facts. Nothing of the program is named here. -/
import Derived.Test.YtgffcffmhhdceaaHread
namespace Go.Proofs.Ytgffcffmhhdceaa
namespace Hf

/-- Codes of one length rise with their symbols. -/
theorem apart_same (ls : List Nat) (j k : Nat) (hj : j < (ordl ls).length) (hk : k < (ordl ls).length) (he : ln ls (sy ls j) = ln ls (sy ls k)) (hne : sy ls j ≠ sy ls k) : (cd ls j < cd ls k ↔ sy ls j < sy ls k) ∧ cd ls j ≠ cd ls k := by
  have e1 := cd_pf ls j hj
  have e2 := cd_pf ls k hk
  rw [he] at e1
  have hpos := Nat.two_pow_pos (15 - ln ls (sy ls k))
  generalize 2 ^ (15 - ln ls (sy ls k)) = q at e1 e2 hpos
  rcases Nat.lt_trichotomy j k with h | h | h
  · have h1 := pf_lt ls j k h
    have h2 := sy_lt ls j k h hk
    have h3 : cd ls j < cd ls k := Nat.lt_of_mul_lt_mul_right (a := q) (by omega)
    unfold Lt at h2
    exact ⟨⟨fun _ => by omega, fun _ => h3⟩, by omega⟩
  · exact absurd (by rw [h]) hne
  · have h1 := pf_lt ls k j h
    have h2 := sy_lt ls k j h hj
    have h3 : cd ls k < cd ls j := Nat.lt_of_mul_lt_mul_right (a := q) (by omega)
    unfold Lt at h2
    exact ⟨⟨fun _ => by omega, fun _ => by omega⟩, by omega⟩

/-- What a longer code begins with is above a shorter one. -/
theorem apart_long (ls : List Nat) (j k : Nat) (hj : j < (ordl ls).length) (hk : k < (ordl ls).length) (hlt : ln ls (sy ls j) < ln ls (sy ls k)) : cd ls j < cd ls k / 2 ^ (ln ls (sy ls k) - ln ls (sy ls j)) := by
  have h15 := (sy_mem ls k hk).2.2
  have hjk : j < k := by
    rcases Nat.lt_trichotomy j k with h | h | h
    · exact h
    · rw [h] at hlt; omega
    · have := sy_lt ls k j h hj; unfold Lt at this; omega
  have e1 := cd_pf ls j hj
  have e2 := cd_pf ls k hk
  have e3 := pf_mono ls (j + 1) k hjk
  have e4 : pf ls (j + 1) = pf ls j + 2 ^ (15 - ln ls (sy ls j)) := rfl
  have e5 : 2 ^ (ln ls (sy ls k) - ln ls (sy ls j)) * 2 ^ (15 - ln ls (sy ls k)) = 2 ^ (15 - ln ls (sy ls j)) := by
    rw [← Nat.pow_add, show ln ls (sy ls k) - ln ls (sy ls j) + (15 - ln ls (sy ls k)) = 15 - ln ls (sy ls j) by omega]
  have hpos := Nat.two_pow_pos (15 - ln ls (sy ls k))
  rw [Nat.lt_iff_add_one_le, Nat.le_div_iff_mul_le (Nat.two_pow_pos _)]
  refine Nat.le_of_mul_le_mul_right ?_ hpos
  rw [Nat.mul_assoc, e5, e2, Nat.succ_mul, e1]
  omega
end Hf
end Go.Proofs.Ytgffcffmhhdceaa
