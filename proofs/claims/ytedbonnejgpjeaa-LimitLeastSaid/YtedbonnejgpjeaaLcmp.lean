/- Contracts of cmp.Compare and of the closure by which packages are compared. -/
import Derived.Test.YtedbonnejgpjeaaMem
namespace Go.Proofs.Ytedbonnejgpjeaa
open Go.RowKit

set_option maxHeartbeats 400000 in
theorem isNaN_any (x : Int) (w : World) : Calls Try.prog 42 #[.int .i64 x] w fun e w' => e = .returned (.bool false) ∧ w = w' := by
  go_enter Try.func42, Try.ntmps42
  go_wp2
  go_ret
  exact ⟨by simp, rfl⟩

/-- Below 0, 0, above 0. -/
def cmpv (a b : Nat) : Int := if a < b then -1 else if b < a then 1 else 0

theorem cmpv_neg (a b : Nat) : decide (cmpv a b < 0) = decide (a < b) := by
  unfold cmpv
  by_cases h : a < b
  · simp [h]
  · by_cases h2 : b < a <;> simp [h, h2]

set_option maxHeartbeats 400000 in
theorem compare_any (a b : Nat) (w : World) : Calls Try.prog 34 #[.int .i64 (a : Int), .int .i64 (b : Int)] w fun e w' => e = .returned (.int .i64 (cmpv a b)) ∧ w = w' := by
  by_cases h : a < b
  · have e : cmpv a b = -1 := by unfold cmpv; rw [if_pos h]
    rw [e]
    clear e
    go_enter Try.func34, Try.ntmps34
    go_wp2_with (go_at_call 42; refine (isNaN_any _ _).mono ?_; rintro e w' ⟨rfl, rfl⟩)
    go_ret
    exact ⟨rfl, rfl⟩
  · by_cases h2 : b < a
    · have e : cmpv a b = 1 := by unfold cmpv; rw [if_neg h, if_pos h2]
      rw [e]
      clear e
      go_enter Try.func34, Try.ntmps34
      go_wp2_with (go_at_call 42; refine (isNaN_any _ _).mono ?_; rintro e w' ⟨rfl, rfl⟩)
      go_ret
      exact ⟨rfl, rfl⟩
    · have e : cmpv a b = 0 := by unfold cmpv; rw [if_neg h, if_neg h2]
      rw [e]
      clear e
      go_enter Try.func34, Try.ntmps34
      go_wp2_with (go_at_call 42; refine (isNaN_any _ _).mono ?_; rintro e w' ⟨rfl, rfl⟩)
      go_ret
      exact ⟨rfl, rfl⟩

/-- What a closure that compares answers: it reads memory alone. -/
def CmpPost (w : World) (c : Int) (e : Ending) (w' : World) : Prop := e = .returned (.int .i64 c) ∧ ∃ n, w' = w.drewN n

set_option maxHeartbeats 1000000 in
theorem cmp_any (x y p q : Nat) (w : World) (hx : w.cell? ⟨x, 0, none⟩ = some (.int .i64 (p : Int))) (hy : w.cell? ⟨y, 0, none⟩ = some (.int .i64 (q : Int))) :
    Calls Try.prog 33 #[.pointer (some ⟨x, 0, none⟩), .pointer (some ⟨y, 0, none⟩)] w (CmpPost w (cmpv p q)) := by
  go_enter Try.func33, Try.ntmps33
  go_wp2
  go_quiet ((go_at_call 34; exact quiet_left (compare_any p q _)))
  go_wp2
  go_ret
  exact ⟨rfl, _, rfl⟩
end Go.Proofs.Ytedbonnejgpjeaa
