/- valiselaw13.lives: the document's examples. -/
import Derived.Test.YtghoajhfndnafaaPparent
import Derived.Test.YtghoajhfndnafaaPcmp
import Derived.Test.YtghoajhfndnafaaRsame

namespace Go.Proofs.Ytghoajhfndnafaa
set_option maxRecDepth 100000
open Go.RowKit

theorem ss_two (w : World) (x y : Tx) : Ss (w.alloc (.cells #[.string (bx x), .string (bx y)] 9)) (.slice (some ⟨w.heap.size, 0, none⟩) 2 2) [x, y] := by
  have h := Has.new w (.cells #[.string (bx x), .string (bx y)] 9)
  refine ⟨_, 2, rfl, Nat.le_refl _, fun _ => ⟨_, _, rfl, h.lt, fun i hi => ?_⟩⟩
  have hi' : i < 2 := hi
  rw [Nat.zero_add, h.cell i]
  match i, hi' with
  | 0, _ => rfl
  | 1, _ => rfl

set_option maxRecDepth 100000 in
set_option maxHeartbeats 4000000 in
theorem lives_any (w : World) : Calls Try.prog 18 #[] w fun e w' => e = .returned (.bool true) ∧ Below w.heap.size w w' := by
  have H1 : Hid (∀ w, Calls Try.prog 21 #[.string ⟨#[47, 97, 47, 47, 98, 47, 46, 47, 46, 46, 47, 99, 47]⟩] w fun e w' => e = .returned (.tuple #[.string ⟨#[97, 47, 99]⟩, .int .i64 0]) ∧ Below w.heap.size w w') := fun w => by
    have h := clean_any [47, 97, 47, 47, 98, 47, 46, 47, 46, 46, 47, 99, 47] w
    rwa [show Pn.clean [47, 97, 47, 47, 98, 47, 46, 47, 46, 46, 47, 99, 47] = ([97, 47, 99], 0) by decide] at h
  have H2 : Hid (∀ w, Calls Try.prog 21 #[.string ⟨#[97, 92, 98]⟩] w fun e w' => e = .returned (.tuple #[.string ⟨#[]⟩, .int .i64 8]) ∧ Below w.heap.size w w') := fun w => by
    have h := clean_any [97, 92, 98] w
    rwa [show Pn.clean [97, 92, 98] = ([], 8) by decide] at h
  have H3 : Hid (∀ w, Calls Try.prog 23 #[.string ⟨#[97, 47, 98]⟩] w fun e w' => e = .returned (.tuple #[.string ⟨#[97]⟩, .string ⟨#[98]⟩, .int .i64 0]) ∧ Below w.heap.size w w') := fun w => by
    have h := parent_any [97, 47, 98] w
    rwa [show Pn.parent [97, 47, 98] = ([97], [98], 0) by decide] at h
  have H4 : Hid (∀ w, Calls Try.prog 13 #[.string ⟨#[97, 47, 98, 32, 99]⟩] w fun e w' => ∃ a c, e = .returned (.tuple #[.slice a 2 c, .int .i64 0]) ∧ Ss w' (.slice a 2 c) [[97], [98, 32, 99]] ∧ Below w.heap.size w w') := fun w => by
    have h := split_any [97, 47, 98, 32, 99] w
    rw [show Pn.split [97, 47, 98, 32, 99] = ([[97], [98, 32, 99]], 0) by decide, show Pn.path (Pn.names [97, 47, 98, 32, 99]) = true by decide] at h
    refine h.mono ?_
    rintro e w' ⟨v, he, ho, hb⟩
    obtain ⟨a, c, rfl, _⟩ := ho.ss
    exact ⟨a, c, he, ho.ss, hb⟩
  have H5 : Hid (∀ v1 v2 w, Ss w v1 [[97], [98, 32, 99]] → Ss w v2 [[97], [98, 32, 99]] → Calls Try.prog 17 #[v1, v2] w fun e w' => e = .returned (.bool true) ∧ Below w.heap.size w w') := fun v1 v2 w h1 h2 => by
    have h := rsame_any v1 v2 _ _ w h1 h2 (by decide)
    simpa using h
  have H6 : Hid (∀ w, Calls Try.prog 25 #[.string ⟨#[97, 98]⟩, .string ⟨#[97]⟩] w fun e w' => e = .returned (.bool false) ∧ Below w.heap.size w w') := fun w => by
    have h := under_any [97, 98] [97] w
    rwa [show Pn.under [97, 98] [97] = false by decide] at h
  have H7 : Hid (∀ w, Calls Try.prog 25 #[.string ⟨#[97, 47, 98]⟩, .string ⟨#[97]⟩] w fun e w' => e = .returned (.bool true) ∧ Below w.heap.size w w') := fun w => by
    have h := under_any [97, 47, 98] [97] w
    rwa [show Pn.under [97, 47, 98] [97] = true by decide] at h
  have H8 : Hid (∀ w, Calls Try.prog 27 #[.string ⟨#[97, 32, 98]⟩, .string ⟨#[97, 47, 98]⟩] w fun e w' => e = .returned (.int .i64 1) ∧ Below w.heap.size w w') := fun w => by
    have h := compare_any [97, 32, 98] [97, 47, 98] w (by decide) (by decide)
    rwa [show Pn.cmp [97, 32, 98] [97, 47, 98] = 1 by decide] at h
  go_enter Try.func18, Try.ntmps18
  go_wp2_with fail
  refine (H1.out _).mono ?_
  rintro e w1 ⟨rfl, b1⟩
  have B1 := Lib.hid b1
  clear b1
  go_wp2_with fail
  refine (H2.out _).mono ?_
  rintro e w2 ⟨rfl, b2⟩
  have B2 := Lib.hid (B1.out.trans (b2.mono B1.out.size))
  clear b2 B1
  go_wp2_with fail
  refine (H3.out _).mono ?_
  rintro e w3 ⟨rfl, b3⟩
  have B3 := Lib.hid (B2.out.trans (b3.mono B2.out.size))
  clear b3 B2
  go_wp2_with fail
  refine (H4.out _).mono ?_
  rintro e w4 ⟨a4, c4, rfl, s4, b4⟩
  have B4 := Lib.hid (B3.out.trans (b4.mono B3.out.size))
  have S4 := Lib.hid s4
  clear b4 B3 s4
  go_wp2_with fail
  refine (H5.out _ _ _ (S4.out.later (below1 w4 _)) (ss_two w4 [97] [98, 32, 99])).mono ?_
  rintro e w5 ⟨rfl, b5⟩
  have B5 : Hid (Below w.heap.size w w5) := (B4.out.alloc B4.out.size _).trans (b5.mono (by have := B4.out.size; simp; omega))
  clear b5 B4
  go_wp2_with fail
  refine (H6.out _).mono ?_
  rintro e w6 ⟨rfl, b6⟩
  have B6 := Lib.hid (B5.out.trans (b6.mono B5.out.size))
  clear b6 B5
  go_wp2_with fail
  refine (H7.out _).mono ?_
  rintro e w7 ⟨rfl, b7⟩
  have B7 := Lib.hid (B6.out.trans (b7.mono B6.out.size))
  clear b7 B6
  go_wp2_with fail
  refine (H8.out _).mono ?_
  rintro e w8 ⟨rfl, b8⟩
  have B8 := Lib.hid (B7.out.trans (b8.mono B7.out.size))
  clear b8 B7
  go_wp2_with fail
  go_ret
  exact ⟨rfl, B8.out⟩
end Go.Proofs.Ytghoajhfndnafaa
