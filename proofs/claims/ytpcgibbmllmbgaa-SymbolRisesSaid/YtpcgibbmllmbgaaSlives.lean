/- Contract of what the statements themselves call: the document's examples. -/
import Derived.Test.YtpcgibbmllmbgaaSrall
namespace Go.Proofs.Ytpcgibbmllmbgaa
open Go.RowKit

theorem ex1 : Sy.lsymA 257 = (284, 30, 0) := by decide
theorem ex2 : Sy.dsymA 32768 = (29, 8191, 0) := by decide
theorem ex3 : Sy.lnumA 284 31 = (258, 0) := by decide
theorem ex4 : Sy.lnumA 286 0 = (0, 13) := by decide
theorem ex5 : Sy.dnumA 4 2 = (0, 2) := by decide

set_option maxHeartbeats 4000000 in
theorem lives_any (w : World) : Calls Try.prog 12 #[] w (Gives (.bool true) w) := by
  have L1 := fun w => lsym_go 257 w (by omega)
  have L2 := fun w => dsym_go 32768 w (by omega)
  have L3 := fun w => lnum_go 284 31 w
  have L4 := fun w => lnum_go 286 0 w
  have L5 := fun w => dnum_go 4 2 w
  simp only [ex1] at L1
  simp only [ex2] at L2
  simp only [ex3] at L3
  simp only [ex4] at L4
  simp only [ex5] at L5
  have H1 := Lib.hid L1
  have H2 := Lib.hid L2
  have H3 := Lib.hid L3
  have H4 := Lib.hid L4
  have H5 := Lib.hid L5
  clear L1 L2 L3 L4 L5
  go_enter Try.func12, Try.ntmps12
  go_wp2_with fail
  refine (H1.out _).mono ?_
  rintro e w1 ⟨rfl, hb⟩
  have B1 := Lib.hid hb
  clear hb
  go_wp2_with fail
  refine (H2.out _).mono ?_
  rintro e w2 ⟨rfl, hb⟩
  have B2 := Lib.hid (B1.out.trans (hb.mono B1.out.size))
  clear hb
  go_wp2_with fail
  refine (H3.out _).mono ?_
  rintro e w3 ⟨rfl, hb⟩
  have B3 := Lib.hid (B2.out.trans (hb.mono B2.out.size))
  clear hb
  go_wp2_with fail
  refine (H4.out _).mono ?_
  rintro e w4 ⟨rfl, hb⟩
  have B4 := Lib.hid (B3.out.trans (hb.mono B3.out.size))
  clear hb
  go_wp2_with fail
  refine (H5.out _).mono ?_
  rintro e w5 ⟨rfl, hb⟩
  have B5 := Lib.hid (B4.out.trans (hb.mono B4.out.size))
  clear hb
  go_wp2_with fail
  go_ret
  exact ⟨rfl, B5.out⟩
end Go.Proofs.Ytpcgibbmllmbgaa
