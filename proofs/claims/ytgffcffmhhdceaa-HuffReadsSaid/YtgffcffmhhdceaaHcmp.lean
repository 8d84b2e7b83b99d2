/- Contracts of cmp.Compare, of the key that ordered sorts by, and of the closure that sorted hands to the library. -/
import Derived.Test.YtgffcffmhhdceaaMem
namespace Go.Proofs.Ytgffcffmhhdceaa
open Go.RowKit

set_option maxHeartbeats 400000 in
theorem isNaN_any (x : Int) (w : World) : Calls Try.prog 60 #[.int .i64 x] w fun e w' => e = .returned (.bool false) ∧ w = w' := by
  go_enter Try.func60, Try.ntmps60
  go_wp2
  go_ret
  exact ⟨by simp, rfl⟩

/-- Below 0, 0, above 0. -/
def cmpv (a b : Nat) : Int := if a < b then -1 else if b < a then 1 else 0

theorem cmpv_neg (a b : Nat) : decide (cmpv a b < 0) = decide (a < b) := by
  unfold cmpv
  by_cases h : a < b
  · simp [h]
  · by_cases h2 : b < a <;> simp [h, h2]

set_option maxHeartbeats 400000 in
theorem compare_any (a b : Nat) (w : World) : Calls Try.prog 58 #[.int .i64 (a : Int), .int .i64 (b : Int)] w fun e w' => e = .returned (.int .i64 (cmpv a b)) ∧ w = w' := by
  by_cases h : a < b
  · have e : cmpv a b = -1 := by unfold cmpv; rw [if_pos h]
    rw [e]
    clear e
    go_enter Try.func58, Try.ntmps58
    go_wp2_with (go_at_call 60; refine (isNaN_any _ _).mono ?_; rintro e w' ⟨rfl, rfl⟩)
    go_ret
    exact ⟨rfl, rfl⟩
  · by_cases h2 : b < a
    · have e : cmpv a b = 1 := by unfold cmpv; rw [if_neg h, if_pos h2]
      rw [e]
      clear e
      go_enter Try.func58, Try.ntmps58
      go_wp2_with (go_at_call 60; refine (isNaN_any _ _).mono ?_; rintro e w' ⟨rfl, rfl⟩)
      go_ret
      exact ⟨rfl, rfl⟩
    · have e : cmpv a b = 0 := by unfold cmpv; rw [if_neg h, if_neg h2]
      rw [e]
      clear e
      go_enter Try.func58, Try.ntmps58
      go_wp2_with (go_at_call 60; refine (isNaN_any _ _).mono ?_; rintro e w' ⟨rfl, rfl⟩)
      go_ret
      exact ⟨rfl, rfl⟩

/-- The lengths, as numbers, lie in memory below B: box L holds a slice that reads them. -/
structure Lens (B : Nat) (w : World) (L : Nat) (ls : List Nat) : Prop where
  size : B ≤ w.heap.size
  some : ∃ a len cap, w.cell? ⟨L, 0, none⟩ = some (.slice a len cap) ∧ len = ls.length ∧ len ≤ 288 ∧ L < B ∧
    (0 < len → ∃ b off, a = some ⟨b, off, none⟩ ∧ b < B ∧ ∀ i, i < len → w.cell? ⟨b, off + i, none⟩ = some (.int .i64 ((ls[i]?.getD 0 : Nat) : Int)))

theorem Lens.below {B : Nat} {w w' : World} {L : Nat} {ls : List Nat} (h : Lens B w L ls) (hb : Below B w w') : Lens B w' L ls := by
  obtain ⟨a, len, cap, h1, h2, h3, h4, h5⟩ := h.some
  refine ⟨Nat.le_trans h.size hb.size, a, len, cap, ?_, h2, h3, h4, fun hl => ?_⟩
  · rw [hb.cell (p := ⟨L, 0, none⟩) h4]; exact h1
  · obtain ⟨b, off, rfl, hlt, hc⟩ := h5 hl
    refine ⟨b, off, rfl, hlt, fun i hi => ?_⟩
    rw [hb.cell (p := ⟨b, off + i, none⟩) hlt]
    exact hc i hi

set_option maxHeartbeats 400000 in
theorem key_any (B L x : Nat) (ls : List Nat) (w : World) (hL : Lens B w L ls) (hx : x < ls.length) :
    Calls Try.prog 51 #[.int .i64 (x : Int), .pointer (some ⟨L, 0, none⟩)] w fun e w' => e = .returned (.int .i64 ((ls[x]?.getD 0 : Nat) : Int)) ∧ w = w' := by
  obtain ⟨a, len, cap, h1, h2, h3, h4, h5⟩ := hL.some
  have hlt : x < len := by omega
  obtain ⟨b, off, rfl, hb, hc⟩ := h5 (by omega)
  have hcx := hc x hlt
  clear h2 h5 hc hx hL
  go_enter Try.func51, Try.ntmps51
  go_wp2
  go_ret
  exact ⟨rfl, rfl⟩

/-- What sorted$1 answers: it reads memory alone. -/
def CmpPost (w : World) (c : Int) (e : Ending) (w' : World) : Prop := e = .returned (.int .i64 c) ∧ ∃ n, w' = w.drewN n

set_option maxHeartbeats 1000000 in
theorem cmp_any (B K L x y : Nat) (ls : List Nat) (w : World) (hK : w.cell? ⟨K, 0, none⟩ = some (.func (.func 51) #[] #[.pointer (some ⟨L, 0, none⟩)])) (hL : Lens B w L ls) (hx : x < ls.length) (hy : y < ls.length) :
    Calls Try.prog 57 #[.int .i64 (x : Int), .int .i64 (y : Int), .pointer (some ⟨K, 0, none⟩)] w (CmpPost w (cmpv (ls[x]?.getD 0) (ls[y]?.getD 0))) := by
  obtain ⟨p, hp⟩ : ∃ p, p = ls[x]?.getD 0 := ⟨_, rfl⟩
  obtain ⟨q, hq⟩ : ∃ q, q = ls[y]?.getD 0 := ⟨_, rfl⟩
  have kx := fun n => key_any B L x ls (w.drewN n) (hL.below (below_drewN (Below.refl _ _) n)) hx
  have ky := fun n => key_any B L y ls (w.drewN n) (hL.below (below_drewN (Below.refl _ _) n)) hy
  rw [← hp] at kx
  rw [← hq] at ky
  rw [← hp, ← hq]
  clear hp hq hL hx hy
  go_enter Try.func57, Try.ntmps57
  go_wp2
  go_quiet ((first | (go_at_call 51; exact quiet_left (kx _)) | (go_at_call 51; exact quiet_left (ky _)) | (go_at_call 58; exact quiet_left (compare_any p q _))))
  go_wp2
  go_ret
  exact ⟨rfl, _, rfl⟩
end Go.Proofs.Ytgffcffmhhdceaa
