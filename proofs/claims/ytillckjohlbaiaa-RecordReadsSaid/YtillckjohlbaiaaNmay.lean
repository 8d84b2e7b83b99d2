/- Contracts of (*head).mayBe, (*end).mayBe and (*head).record. -/
import Derived.Test.YtillckjohlbaiaaNhead
import Derived.Test.YtillckjohlbaiaaNnum
import Derived.Deep.RegionHeld3

namespace Go.Proofs.Ytillckjohlbaiaa
set_option maxRecDepth 100000
open Go.RowKit

/-- May a header say so? -/
def mbH (x1 x2 x3 x9 x10 x11 x12 : Int) : Bool := decide (x1 ≤ 20) && ((x2 == 0) && (okM x3 && (decide (0 < x9) && ((x10 == 0) && ((x11 == 0) && (x12 == 0))))))
/-- May an end say so? -/
def mbE (x0 x1 x2 x3 x6 : Int) : Bool := (x0 == 0) && ((x1 == 0) && ((x2 == x3) && (x6 == 0)))

set_option maxHeartbeats 4000000 in
theorem mayBe_any (R : Nat) (t : TypeId) (b : Value) (pl f x0 x1 x2 x3 x4 x5 x6 x7 x8 x9 x10 x11 x12 x13 x14 x15 : Int) (w : World) (h : Rs w R t b pl f [x0, x1, x2, x3, x4, x5, x6, x7, x8, x9, x10, x11, x12, x13, x14, x15]) :
    Calls Try.prog 74 #[.pointer (some ⟨R, 3, none⟩)] w fun e w' => e = .returned (.bool (mbH x1 x2 x3 x9 x10 x11 x12)) ∧ w = w' := by
  have HM := Lib.hid (fun w => isMethod_any x3 w)
  have f1 : w.cell? ⟨R, 4, none⟩ = some (.int .i64 x1) := h.field 1 (by simp)
  have f2 : w.cell? ⟨R, 5, none⟩ = some (.int .i64 x2) := h.field 2 (by simp)
  have f3 : w.cell? ⟨R, 6, none⟩ = some (.int .i64 x3) := h.field 3 (by simp)
  have f9 : w.cell? ⟨R, 12, none⟩ = some (.int .i64 x9) := h.field 9 (by simp)
  have f10 : w.cell? ⟨R, 13, none⟩ = some (.int .i64 x10) := h.field 10 (by simp)
  have f11 : w.cell? ⟨R, 14, none⟩ = some (.int .i64 x11) := h.field 11 (by simp)
  have f12 : w.cell? ⟨R, 15, none⟩ = some (.int .i64 x12) := h.field 12 (by simp)
  clear h
  unfold mbH
  obtain ⟨b1, hb1⟩ : ∃ b, decide (x1 ≤ 20) = b := ⟨_, rfl⟩
  obtain ⟨b2, hb2⟩ : ∃ b, (x2 == 0) = b := ⟨_, rfl⟩
  obtain ⟨b3, hb3⟩ : ∃ b, okM x3 = b := ⟨_, rfl⟩
  obtain ⟨b9, hb9⟩ : ∃ b, decide (0 < x9) = b := ⟨_, rfl⟩
  obtain ⟨b10, hb10⟩ : ∃ b, (x10 == 0) = b := ⟨_, rfl⟩
  obtain ⟨b11, hb11⟩ : ∃ b, (x11 == 0) = b := ⟨_, rfl⟩
  obtain ⟨b12, hb12⟩ : ∃ b, (x12 == 0) = b := ⟨_, rfl⟩
  rw [hb1, hb2, hb3, hb9, hb10, hb11, hb12]
  rw [hb3] at HM
  clear hb3
  cases b1
  · simp only [Bool.false_and]
    go_enter Try.func74, Try.ntmps74
    go_wp2_with (go_at_call 107; refine (HM.out _).mono ?_; rintro e w1 ⟨rfl, rfl⟩)
    go_ret
    exact ⟨rfl, rfl⟩
  · skip
    cases b2
    · simp only [Bool.false_and, Bool.true_and]
      go_enter Try.func74, Try.ntmps74
      go_wp2_with (go_at_call 107; refine (HM.out _).mono ?_; rintro e w1 ⟨rfl, rfl⟩)
      go_ret
      exact ⟨rfl, rfl⟩
    · skip
      cases b3
      · simp only [Bool.false_and, Bool.true_and]
        go_enter Try.func74, Try.ntmps74
        go_wp2_with (go_at_call 107; refine (HM.out _).mono ?_; rintro e w1 ⟨rfl, rfl⟩)
        go_ret
        exact ⟨rfl, rfl⟩
      · skip
        cases b9
        · simp only [Bool.false_and, Bool.true_and]
          go_enter Try.func74, Try.ntmps74
          go_wp2_with (go_at_call 107; refine (HM.out _).mono ?_; rintro e w1 ⟨rfl, rfl⟩)
          go_ret
          exact ⟨rfl, rfl⟩
        · skip
          cases b10
          · simp only [Bool.false_and, Bool.true_and]
            go_enter Try.func74, Try.ntmps74
            go_wp2_with (go_at_call 107; refine (HM.out _).mono ?_; rintro e w1 ⟨rfl, rfl⟩)
            go_ret
            exact ⟨rfl, rfl⟩
          · skip
            cases b11
            · simp only [Bool.false_and, Bool.true_and]
              go_enter Try.func74, Try.ntmps74
              go_wp2_with (go_at_call 107; refine (HM.out _).mono ?_; rintro e w1 ⟨rfl, rfl⟩)
              go_ret
              exact ⟨rfl, rfl⟩
            · skip
              cases b12
              · simp only [Bool.true_and]
                go_enter Try.func74, Try.ntmps74
                go_wp2_with (go_at_call 107; refine (HM.out _).mono ?_; rintro e w1 ⟨rfl, rfl⟩)
                go_ret
                exact ⟨rfl, rfl⟩
              · skip
                go_enter Try.func74, Try.ntmps74
                go_wp2_with (go_at_call 107; refine (HM.out _).mono ?_; rintro e w1 ⟨rfl, rfl⟩)
                go_ret
                exact ⟨rfl, rfl⟩

set_option maxHeartbeats 4000000 in
theorem record_any (R : Nat) (t : TypeId) (b : Value) (pl f x0 x1 x2 x3 x4 x5 x6 x7 x8 x9 x10 x11 x12 x13 x14 x15 : Int) (S : ByteArray) (w : World) (h : Rs w R t b pl f [x0, x1, x2, x3, x4, x5, x6, x7, x8, x9, x10, x11, x12, x13, x14, x15]) :
    Calls Try.prog 77 #[.pointer (some ⟨R, 3, none⟩), .string S] w fun e w' => e = .returned (rv S x3 x6 x7 x8 x15) ∧ Below w.heap.size w w' := by
  have hR := Has.lt h
  have hi : (Try.prog.info? 25).map (·.size) = some 6 := by kernel_rfl
  unfold rv
  have G := Lib.hid ((h.later (below1 w (.cells #[.string S, .int .i64 x3, .int .i64 x6, .int .i64 x7, .int .i64 x8, .int .i64 x15] 25))).later (Below.refl _ _).drew)
  have F := Lib.hid ((h.later (below1 w (.cells #[.string ⟨#[]⟩, .int .i64 0, .int .i64 0, .int .i64 0, .int .i64 0, .int .i64 0] 25))).later (Below.refl _ _).drew)
  have g3 := (G.out.field 3 (by simp) : _ = some (Value.int .i64 x3))
  have g6 := (G.out.field 6 (by simp) : _ = some (Value.int .i64 x6))
  have g7 := (G.out.field 7 (by simp) : _ = some (Value.int .i64 x7))
  have g8 := (G.out.field 8 (by simp) : _ = some (Value.int .i64 x8))
  have g15 := (G.out.field 15 (by simp) : _ = some (Value.int .i64 x15))
  have f3 := (F.out.field 3 (by simp) : _ = some (Value.int .i64 x3))
  have f6 := (F.out.field 6 (by simp) : _ = some (Value.int .i64 x6))
  have f7 := (F.out.field 7 (by simp) : _ = some (Value.int .i64 x7))
  have f8 := (F.out.field 8 (by simp) : _ = some (Value.int .i64 x8))
  have f15 := (F.out.field 15 (by simp) : _ = some (Value.int .i64 x15))
  clear h
  go_enter Try.func77, Try.ntmps77
  go_wp2_with fail
  go_region_held3 (fun w' => w'.cell? ⟨R, 6, none⟩ = some (.int .i64 x3) ∧ w'.cell? ⟨R, 9, none⟩ = some (.int .i64 x6) ∧ w'.cell? ⟨R, 10, none⟩ = some (.int .i64 x7) ∧ w'.cell? ⟨R, 11, none⟩ = some (.int .i64 x8) ∧ w'.cell? ⟨R, 18, none⟩ = some (.int .i64 x15)) ((first | (exact ⟨f3, f6, f7, f8, f15⟩) | (exact ⟨g3, g6, g7, g8, g15⟩))) (fail)
  go_wp2
  refine bodyPost_ret (results_cell_row rfl _ _ w.heap.size 25 _ (0, 0) _ rfl ?hg Try.underlying25 rfl ?hi) rfl ⟨rfl, (below1 w _).drew⟩
  case hg => exact Has.later (Has.new w _) (Below.refl _ _).drew
  case hi => exact hi
end Go.Proofs.Ytillckjohlbaiaa
