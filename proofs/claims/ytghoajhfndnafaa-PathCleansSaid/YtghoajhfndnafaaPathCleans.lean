/- The statement PathCleans. It holds for every input, without a condition. -/
import Derived.Test.YtghoajhfndnafaaParg
import Derived.Test.YtghoajhfndnafaaRclean

namespace Go.Proofs.Ytghoajhfndnafaa
set_option maxRecDepth 100000
open Go.ChangeShapes Go.WideShapes Go.ChangeAt Go.RowKit

set_option maxRecDepth 100000 in
set_option maxHeartbeats 4000000 in
theorem pathCleans_walk (s : Tx) (w : World) (_ls : s.length ≤ 9223372036854775807) :
    Calls Try.prog 5 #[.string (bx s)] w fun e w' => e = .returned (.bool true) ∧ Below w.heap.size w w' := by
  have C1 := Lib.hid (fun w => clean_any s w)
  have C2 := Lib.hid (fun w => rclean_any s w)
  have LV := Lib.hid lives_any
  have tp := bx_toList (Pn.clean s).1
  generalize (Pn.clean s).2 = z at *
  generalize (Pn.clean s).1 = p at *
  generalize bx p = P at *
  generalize bx s = S at *
  have e1 : (p == p) = true := by simp
  have e2 : ((z : Int) == (z : Int)) = true := by simp
  go_enter Try.func5, Try.ntmps5
  go_wp2_with fail
  refine (C1.out _).mono ?_
  rintro e w1 ⟨rfl, b1⟩
  have B1 := Lib.hid b1
  clear b1
  go_wp2_with fail
  refine (C2.out _).mono ?_
  rintro e w2 ⟨rfl, b2⟩
  have B2 := Lib.hid (B1.out.trans (b2.mono B1.out.size))
  clear b2 B1
  go_wp2_with fail
  refine (LV.out _).mono ?_
  rintro e w3 ⟨rfl, b3⟩
  go_wp2_with fail
  go_ret
  exact ⟨rfl, B2.out.trans (b3.mono B2.out.size)⟩
