/- Contracts of strings.HasSuffix at a single 47, and of headOf. -/
import Derived.Test.YtillckjohlbaiaaNleaf
import Derived.Laws.ResultCell
import Derived.Lib.Strings

namespace Go.Proofs.Ytillckjohlbaiaa
set_option maxRecDepth 100000
open Go.RowKit

/-- Does a string end with 47? -/
def endsB (S : ByteArray) : Bool := (S.extract (S.size - 1) S.size).toList == [47]

set_option maxHeartbeats 1000000 in
theorem slsuffix_any (S : ByteArray) (h1 : 1 ≤ S.size) (h2 : S.size ≤ 65535) (w : World) :
    Calls Try.prog 123 #[.string S, .string ⟨#[47]⟩] w fun e w' => e = .returned (.bool (endsB S)) ∧ w = w' := by
  have hw : IntKind.i64.wrap ((S.size : Int) - 1) = (S.size : Int) - 1 := IntWalk.i64_in _ (by omega)
  have hz : (1 : Int) ≤ (S.size : Int) := by omega
  go_enter Try.func123, Try.ntmps123
  go_wp2
  go_ret
  exact ⟨rfl, rfl⟩

set_option maxHeartbeats 1000000 in
theorem suffix_any (S : ByteArray) (h1 : 1 ≤ S.size) (h2 : S.size ≤ 65535) (w : World) :
    Calls Try.prog 109 #[.string S, .string ⟨#[47]⟩] w fun e w' => e = .returned (.bool (endsB S)) ∧ w = w' := by
  have H := Lib.hid (slsuffix_any S h1 h2)
  clear h1 h2
  go_enter Try.func109, Try.ntmps109
  go_wp2_with (go_at_call 123; refine (H.out _).mono ?_; rintro e w1 ⟨rfl, rfl⟩)
  go_ret
  exact ⟨rfl, rfl⟩

theorem has_mid (w : World) (o1 o2 o3 : Obj) : Has (((w.alloc o1).alloc o2).alloc o3) (w.heap.size + 1) o2 := by
  have := (Has.new (w.alloc o1) o2).alloc o3
  rw [World.size_alloc] at this
  exact this

/-- What a header's numbers are, of a record. -/
def headV (S : ByteArray) (m a b c d : Int) : Array Value :=
  #[.int .i64 20, .int .i64 20, .int .i64 0, .int .i64 m, .int .i64 0, .int .i64 33, .int .i64 a, .int .i64 b, .int .i64 c, .int .i64 (S.size : Int), .int .i64 0, .int .i64 0, .int .i64 0, .int .i64 0, .int .i64 (if endsB S = true then 16 else 0), .int .i64 d]

set_option maxHeartbeats 4000000 in
theorem headOf_any (S : ByteArray) (m a b c d : Int) (h1 : 1 ≤ S.size) (h2 : S.size ≤ 65535) (w : World) :
    Calls Try.prog 82 #[rv S m a b c d] w fun e w' => e = .returned (.agg (headV S m a b c d)) ∧ Below w.heap.size w w' := by
  have H := Lib.hid (suffix_any S h1 h2)
  have hi : (Try.prog.info? 78).map (·.size) = some 16 := by kernel_rfl
  unfold rv headV
  clear h1 h2
  cases hE : endsB S
  all_goals
    rw [hE] at H
    simp only [Bool.false_eq_true, if_false, if_true]
    clear hE
    go_enter Try.func82, Try.ntmps82
    go_wp2_with (go_at_call 109; refine (H.out _).mono ?_; rintro e w1 ⟨rfl, rfl⟩)
    refine bodyPost_ret (results_cell_row rfl _ _ (w.heap.size + 1) 78 _ (0, 0) _ rfl ?hg Try.underlying78 rfl ?hi) rfl ⟨rfl, below3 w _ _ _⟩
    case hg => exact has_mid w _ _ _
    case hi => exact hi
end Go.Proofs.Ytillckjohlbaiaa
