/- Contract of (scale).isLone. -/
import Derived.Test.YtpcgibbmllmbgaaSone
import Derived.Test.YtpcgibbmllmbgaaMade
import Derived.Laws.StructEq
namespace Go.Proofs.Ytpcgibbmllmbgaa
open Go.RowKit

/-- The world behind the box of a scale. -/
def boxed (w : World) (a b c d : Int) : World := w.alloc (.cells #[.int .i64 a, .int .i64 b, .int .i64 c, .int .i64 d] 37)
theorem boxed_below (w : World) (a b c d : Int) : Below w.heap.size w (boxed w a b c d) := below1 w _
theorem boxed_size (w : World) (a b c d : Int) : (boxed w a b c d).heap.size = w.heap.size + 1 := by simp [boxed]
theorem boxed_le (w : World) (a b c d : Int) : w.heap.size + 1 ≤ (boxed w a b c d).heap.size := Nat.le_of_eq (boxed_size w a b c d).symm
theorem boxed_cells (w : World) (a b c d : Int) (x : Wd (w.heap.size + 1) (boxed w a b c d)) :
    x.w.cell? ⟨w.heap.size, 0, none⟩ = some (.int .i64 a) ∧ x.w.cell? ⟨w.heap.size, 1, none⟩ = some (.int .i64 b) ∧ x.w.cell? ⟨w.heap.size, 2, none⟩ = some (.int .i64 c) ∧ x.w.cell? ⟨w.heap.size, 3, none⟩ = some (.int .i64 d) := by
  have h := (Has.new w (.cells #[.int .i64 a, .int .i64 b, .int .i64 c, .int .i64 d] 37)).four
  refine ⟨?_, ?_, ?_, ?_⟩
  · rw [x.cell (by omega)]; exact h.1
  · rw [x.cell (by omega)]; exact h.2.1
  · rw [x.cell (by omega)]; exact h.2.2.1
  · rw [x.cell (by omega)]; exact h.2.2.2

set_option maxHeartbeats 2000000 in
theorem dlone_is (sym : Int) (w : World) : Calls Try.prog 33 #[scl 0 1 2 15, .int .i64 sym] w (Gives (.bool false) w) := by
  have HL := fun w => lengths_is w
  have cc := boxed_cells w 0 1 2 15
  have c0 := fun x => (cc x).1
  have c1 := fun x => (cc x).2.1
  have c2 := fun x => (cc x).2.2.1
  have c3 := fun x => (cc x).2.2.2
  unfold scl at HL ⊢
  have H := Lib.hid HL
  clear HL cc
  go_enter Try.func33, Try.ntmps33
  go_wp2
  refine region_made (w.heap.size + 1) (boxed w 0 1 2 15) (by kernel_rfl) (by kernel_rfl) (Below.refl _ _) ?_
  repeat (go_big_quiet_step (exact made_call _ (boxed_le _ _ _ _ _) (H.out _)))
  refine wpQuiet_nil fun x => ?_
  have HX := Lib.hid ((boxed_below w 0 1 2 15).trans (x.h.mono (by omega)))
  go_wp2
  go_ret
  exact ⟨rfl, HX.out⟩

set_option maxHeartbeats 2000000 in
theorem llone_is (sym : Int) (w : World) : Calls Try.prog 33 #[scl 257 3 4 7, .int .i64 sym] w (Gives (.bool (sym == 285)) w) := by
  have HL := fun w => lengths_is w
  have HE := fun w => lend_is w
  have cc := boxed_cells w 257 3 4 7
  have c0 := fun x => (cc x).1
  have c1 := fun x => (cc x).2.1
  have c2 := fun x => (cc x).2.2.1
  have c3 := fun x => (cc x).2.2.2
  unfold scl at HL HE ⊢
  have H := Lib.hid HL
  have H2 := Lib.hid HE
  clear HL HE cc
  obtain ⟨z, hz⟩ : ∃ z, z = (sym == 285) := ⟨_, rfl⟩
  have hz2 := hz.symm
  rw [← hz]
  clear hz
  go_enter Try.func33, Try.ntmps33
  go_wp2
  refine region_made (w.heap.size + 1) (boxed w 257 3 4 7) (by kernel_rfl) (by kernel_rfl) (Below.refl _ _) ?_
  repeat (go_big_quiet_step (first | exact made_call _ (boxed_le _ _ _ _ _) (H.out _) | exact made_call _ (boxed_le _ _ _ _ _) (H2.out _)))
  refine wpQuiet_nil fun x => ?_
  have HX := Lib.hid ((boxed_below w 257 3 4 7).trans (x.h.mono (by omega)))
  go_wp2
  go_ret
  exact ⟨rfl, HX.out⟩
end Go.Proofs.Ytpcgibbmllmbgaa
