/- Contract of lives: the document's examples. -/
import Derived.Test.YtmakdenhmdjgjaaFown
import Derived.Test.YtmakdenhmdjgjaaFint
namespace Go.Proofs.Ytmakdenhmdjgjaa
open Go.RowKit

theorem put2_eg (w : World) : Calls Try.prog 11 #[.slice none 0 0, .int .i64 300] w fun e w' => ∃ a' cap', e = .returned (.tuple #[.slice a' 2 cap', .int .i64 0]) ∧ Sl w' (.slice a' 2 cap') [44, 1] ∧ Below w.heap.size w w' :=
  (put2_ok none 0 0 [] 300 (by decide) (by decide) (by decide) w (Sl.nil w)).mono fun _ _ ⟨a, c, h1, h2, h3⟩ => ⟨a, c, h1, h2.sl (by decide), h3⟩
theorem put4_eg (w : World) : Calls Try.prog 13 #[.slice none 0 0, .int .i64 70000] w fun e w' => ∃ a' cap', e = .returned (.tuple #[.slice a' 4 cap', .int .i64 0]) ∧ Sl w' (.slice a' 4 cap') [112, 17, 1, 0] ∧ Below w.heap.size w w' :=
  (put4_ok none 0 0 [] 70000 (by decide) (by decide) (by decide) w (Sl.nil w)).mono fun _ _ ⟨a, c, h1, h2, h3⟩ => ⟨a, c, h1, h2.sl (by decide), h3⟩
theorem get4_eg (g : Nat) (w : World) : Calls Try.prog 18 #[.slice (some ⟨g, 0, none⟩) 3 3, .int .i64 0] w fun e w' => e = .returned (.tuple #[.int .i64 0, .int .i64 4]) ∧ w = w' :=
  get4_short _ 3 3 0 (by decide) (by decide) (by decide) (by decide) w
theorem mul_eg (w : World) : Calls Try.prog 25 #[.int .i64 65536, .int .i64 65536] w fun e w' => e = .returned (.tuple #[.int .i64 0, .int .i64 3]) ∧ w = w' := mul_walk 65536 65536 w
theorem sub_eg (w : World) : Calls Try.prog 23 #[.int .i64 1, .int .i64 2] w fun e w' => e = .returned (.tuple #[.int .i64 0, .int .i64 3]) ∧ w = w' := sub_walk 1 2 w

theorem str2 : ({ data := #[44, 1] } : ByteArray) = strB [44, 1] := by rfl
theorem str4 : ({ data := #[112, 17, 1, 0] } : ByteArray) = strB [112, 17, 1, 0] := by rfl

set_option maxHeartbeats 2000000 in
theorem lives_any (w : World) : Calls Try.prog 15 #[] w fun e w' => e = .returned (.bool true) ∧ Below w.heap.size w w' := by
  go_enter Try.func15, Try.ntmps15
  go_wp2_with fail
  refine (put2_eg _).mono ?_
  rintro e w1 ⟨a1, c1, rfl, s1, b1⟩
  have S1 := Lib.hid s1
  have B1 := Lib.hid b1
  clear s1 b1
  go_wp2_with fail
  refine (put4_eg _).mono ?_
  rintro e w2 ⟨a2, c2, rfl, s2, b2⟩
  have S2 := Lib.hid s2
  have S12 := Lib.hid (S1.out.later b2)
  have B2 := Lib.hid (B1.out.trans (b2.mono B1.out.size))
  clear s2 b2 S1 B1
  go_wp2_with fail
  refine (get4_eg _ _).mono ?_
  rintro e w3 ⟨rfl, hw⟩
  have b3 : Below w2.heap.size w2 w3 := hw ▸ below1 w2 _
  have S3 := Lib.hid (S2.out.later b3)
  have S13 := Lib.hid (S12.out.later b3)
  have B3 := Lib.hid (B2.out.trans (b3.mono B2.out.size))
  clear b3 hw S2 S12 B2
  go_wp2_with fail
  refine (mul_eg _).mono ?_
  rintro e w4 ⟨rfl, rfl⟩
  go_wp2_with fail
  refine (sub_eg _).mono ?_
  rintro e w4 ⟨rfl, rfl⟩
  have r1 := string_of _ _ _ _ _ _ S13.out str2
  have r2 := string_of _ _ _ _ _ _ S3.out str4
  go_wp2_with fail
  go_ret
  exact ⟨rfl, B3.out⟩
end Go.Proofs.Ytmakdenhmdjgjaa
