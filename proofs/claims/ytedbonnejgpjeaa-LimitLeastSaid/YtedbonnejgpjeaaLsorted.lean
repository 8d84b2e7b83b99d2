/- Contracts of slices.SortStableFunc at packages. -/
import Derived.Test.YtedbonnejgpjeaaLpk
namespace Go.Proofs.Ytedbonnejgpjeaa
open Go.RowKit

theorem Only.belowB {g B : Nat} {w w' : World} (h : Only g w w') (hB : B ≤ g) (hs : B ≤ w.heap.size) : Below B w w' := h.below (Below.refl _ _) hB hs

theorem only_alloc (w : World) (g : Nat) (o : Obj) : Only g w (w.alloc o) := ⟨rfl, rfl, rfl, by simp, fun k hk _ => Below.heap_alloc w o k hk⟩

set_option maxHeartbeats 1000000 in
theorem sortStable_any (g cap n : Nat) (kf : Nat → Nat) (p : Nat → Prop) (d : Nat → Nat) (w : World) (hr : Rw w g n d) (hn : n ≤ 288) (hris : St.Ris kf d n) (hp : ∀ i, i < n → p (d i)) (hcmp : Cmps g kf p w) :
    Calls Try.prog 32 #[.slice (some ⟨g, 0, none⟩) n cap, .func (.func 33) #[] #[]] w (SortPost g n w (SortIs kf n d 0 n)) := by
  have HC := stable_any g cap n kf p d w hr hn hris hp hcmp
  clear hr hcmp hp hris
  go_enter Try.func32, Try.ntmps32
  go_wp2_with fail
  refine HC.mono ?_
  clear HC
  rintro e w2 ⟨rfl, d2, hr2, ho2, hs2⟩
  have Z1 := Lib.hid hr2
  have Z2 := Lib.hid ho2
  have Z3 := Lib.hid hs2
  clear hr2 ho2 hs2
  go_wp2_with fail
  go_end0
  exact ⟨rfl, _, Z1.out, Z2.out, Z3.out⟩

set_option maxHeartbeats 1000000 in
theorem insertion_nil (F : Value) (w : World) : Calls Try.prog 47 #[.slice none 0 0, .int .i64 0, .int .i64 0, F] w fun e w' => e = .returned (.tuple #[]) ∧ w = w' := by
  go_enter Try.func47, Try.ntmps47
  go_wp2
  refine wp_loop_rounds 1 ?_
  rw [rounds_succ]
  go_wp2
  go_end0
  exact ⟨rfl, rfl⟩
set_option maxHeartbeats 1000000 in
theorem stable_nil (F : Value) (w : World) : Calls Try.prog 41 #[.slice none 0 0, .int .i64 0, F] w fun e w' => e = .returned (.tuple #[]) ∧ w = w' := by
  go_enter Try.func41, Try.ntmps41
  go_wp2
  refine wp_loop_rounds 1 ?_
  rw [rounds_succ]
  go_wp2_with (go_at_call 47; refine (insertion_nil _ _).mono ?_; rintro e w' ⟨rfl, rfl⟩)
  refine wp_loop_rounds 1 ?_
  rw [rounds_succ]
  go_wp2
  go_end0
  exact ⟨rfl, rfl⟩
set_option maxHeartbeats 1000000 in
theorem sortStable_nil (F : Value) (w : World) : Calls Try.prog 32 #[.slice none 0 0, F] w fun e w' => e = .returned (.tuple #[]) ∧ w = w' := by
  go_enter Try.func32, Try.ntmps32
  go_wp2_with (go_at_call 41; refine (stable_nil _ _).mono ?_; rintro e w' ⟨rfl, rfl⟩)
  go_end0
  exact ⟨rfl, rfl⟩

end Go.Proofs.Ytedbonnejgpjeaa
