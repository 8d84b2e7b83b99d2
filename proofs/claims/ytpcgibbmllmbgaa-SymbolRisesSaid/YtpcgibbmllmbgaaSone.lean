/- Contracts of symbol.lengths, distances, beside, (scale).end. -/
import Derived.Test.YtpcgibbmllmbgaaSplain
import Derived.Test.YtpcgibbmllmbgaaMem
import Derived.Lib.MinMax
namespace Go.Proofs.Ytpcgibbmllmbgaa
open Go.RowKit

/-- A scale, as a value. -/
def scl (sym least per groups : Int) : Value := .agg #[.int .i64 sym, .int .i64 least, .int .i64 per, .int .i64 groups]

/-- A block that the call made itself. -/
theorem Has.four {w : World} {b : Nat} {x y z u : Value} {t : TypeId} (h : Has w b (.cells #[x, y, z, u] t (0, 0))) :
    w.cell? ⟨b, 0, none⟩ = some x ∧ w.cell? ⟨b, 1, none⟩ = some y ∧ w.cell? ⟨b, 2, none⟩ = some z ∧ w.cell? ⟨b, 3, none⟩ = some u :=
  ⟨by rw [h.cell]; rfl, by rw [h.cell]; rfl, by rw [h.cell]; rfl, by rw [h.cell]; rfl⟩

/-- What a call leaves that hands back a value, and makes what it likes. -/
def Gives (v : Value) (w : World) (e : Ending) (w' : World) : Prop := e = .returned v ∧ Below w.heap.size w w'

set_option maxHeartbeats 1000000 in
theorem lengths_is (w : World) : Calls Try.prog 23 #[] w (Gives (scl 257 3 4 7) w) := by
  go_enter Try.func23, Try.ntmps23
  go_wp2
  refine bodyPost_ret (v := scl 257 3 4 7) (by simp [results, Try.results23, go_sem, scl]) rfl ⟨rfl, below1 w _⟩

set_option maxHeartbeats 1000000 in
theorem distances_is (w : World) : Calls Try.prog 27 #[] w (Gives (scl 0 1 2 15) w) := by
  go_enter Try.func27, Try.ntmps27
  go_wp2
  refine bodyPost_ret (v := scl 0 1 2 15) (by simp [results, Try.results27, go_sem, scl]) rfl ⟨rfl, below1 w _⟩

set_option maxHeartbeats 1000000 in
theorem beside_is (g : Nat) (w : World) (hg : g ≤ 1000) : Calls Try.prog 32 #[.int .i64 (g : Int)] w fun e w' => e = .returned (.int .i64 ((g - 1 : Nat) : Int)) ∧ w = w' := by
  have h : max ((g : Int) - 1) 0 = ((g - 1 : Nat) : Int) := by omega
  go_enter Try.func32, Try.ntmps32
  go_wp2
  go_ret
  exact ⟨by rw [← h]; rfl, rfl⟩

set_option maxHeartbeats 1000000 in
theorem lend_is (w : World) : Calls Try.prog 31 #[scl 257 3 4 7] w (Gives (.int .i64 285) w) := by
  unfold scl
  go_enter Try.func31, Try.ntmps31
  go_wp2
  go_ret
  exact ⟨rfl, below1 w _⟩

set_option maxHeartbeats 1000000 in
theorem dend_is (w : World) : Calls Try.prog 31 #[scl 0 1 2 15] w (Gives (.int .i64 30) w) := by
  unfold scl
  go_enter Try.func31, Try.ntmps31
  go_wp2
  go_ret
  exact ⟨rfl, below1 w _⟩
end Go.Proofs.Ytpcgibbmllmbgaa
