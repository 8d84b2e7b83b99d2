/- Contract of (scale).bits, for lengths and for distances. -/
import Derived.Test.YtpcgibbmllmbgaaSlone
namespace Go.Proofs.Ytpcgibbmllmbgaa
open Go.RowKit

/-- What a call leaves that hands back a number and an error. -/
def Two (x c : Int) (w : World) (e : Ending) (w' : World) : Prop := e = .returned (.tuple #[.int .i64 x, .int .i64 c]) ∧ Below w.heap.size w w'

/-- Behind a call that a function makes that has boxed its scale. -/
def Bx (w : World) (a b c d : Int) (w1 : World) : Prop := Below (w.heap.size + 1) (boxed w a b c d) w1
theorem Bx.cells {w w1 : World} {a b c d : Int} (h : Bx w a b c d w1) :
    w1.cell? ⟨w.heap.size, 0, none⟩ = some (.int .i64 a) ∧ w1.cell? ⟨w.heap.size, 1, none⟩ = some (.int .i64 b) ∧ w1.cell? ⟨w.heap.size, 2, none⟩ = some (.int .i64 c) ∧ w1.cell? ⟨w.heap.size, 3, none⟩ = some (.int .i64 d) :=
  boxed_cells w a b c d ⟨w1, h⟩
theorem Bx.below {w w1 : World} {a b c d : Int} (h : Bx w a b c d w1) : Below w.heap.size w w1 := (boxed_below w a b c d).trans (Below.mono h (by omega))
theorem Bx.size {w w1 : World} {a b c d : Int} (h : Bx w a b c d w1) : w.heap.size + 1 ≤ w1.heap.size := Nat.le_trans (boxed_le w a b c d) (Below.size h)
theorem Bx.first (w : World) (a b c d : Int) : Bx w a b c d (boxed w a b c d) := Below.refl _ _
theorem Bx.next {w w1 w2 : World} {a b c d : Int} (h : Bx w a b c d w1) (hb : Below w1.heap.size w1 w2) : Bx w a b c d w2 := Below.trans h (hb.mono h.size)
theorem Bx.drew {w w1 : World} {a b c d : Int} (h : Bx w a b c d w1) (n : Nat) : Bx w a b c d (w1.drewN n) := below_drewN h n

set_option maxHeartbeats 2000000 in
theorem lbits_bad (s : Int) (w : World) (h : s < 257 ∨ 285 < s) : Calls Try.prog 29 #[scl 257 3 4 7, .int .i64 s] w (Two 0 13 w) := by
  have HL := fun w => llone_is s w
  rw [show (s == 285) = false from by rw [beq_eq_false_iff_ne]; omega] at HL
  have HE := fun w => lend_is w
  unfold scl at HL HE ⊢
  have H := Lib.hid HL
  have H2 := Lib.hid HE
  clear HL HE
  by_cases h1 : s < 257
  · have d1 : decide (s < 257) = true := decide_eq_true h1
    clear h h1
    go_enter Try.func29, Try.ntmps29
    go_wp2_with fail
    refine (H.out (boxed w 257 3 4 7)).mono ?_
    rintro e w1 ⟨rfl, hb⟩
    have hx := (Bx.first w 257 3 4 7).next hb
    obtain ⟨c0, c1, c2, c3⟩ := hx.cells
    have HX := Lib.hid hx
    clear hb hx
    go_wp2_with fail
    go_ret2
    exact ⟨rfl, HX.out.below⟩
  · have d1 : decide (s < 257) = false := decide_eq_false h1
    have d2 : decide (285 ≤ s) = true := decide_eq_true (by omega)
    clear h h1
    go_enter Try.func29, Try.ntmps29
    go_wp2_with fail
    refine (H.out (boxed w 257 3 4 7)).mono ?_
    rintro e w1 ⟨rfl, hb⟩
    have hx := (Bx.first w 257 3 4 7).next hb
    obtain ⟨c0, c1, c2, c3⟩ := hx.cells
    have HX := Lib.hid hx
    clear hb hx
    go_wp2_with fail
    refine (H2.out _).mono ?_
    rintro e w2 ⟨rfl, hb⟩
    have HY := Lib.hid (HX.out.next hb)
    clear hb
    go_wp2_with fail
    go_ret2
    exact ⟨rfl, HY.out.below⟩

set_option maxHeartbeats 2000000 in
theorem lbits_ok (k : Nat) (w : World) (hk : k < 28) : Calls Try.prog 29 #[scl 257 3 4 7, .int .i64 (257 + (k : Int))] w (Two (Sy.at' Sy.lb k : Nat) 0 w) := by
  have HL := fun w => llone_is (257 + (k : Int)) w
  rw [show ((257 + (k : Int)) == 285) = false from by rw [beq_eq_false_iff_ne]; omega] at HL
  have HE := fun w => lend_is w
  unfold scl at HL HE ⊢
  have H := Lib.hid HL
  have H2 := Lib.hid HE
  clear HL HE
  have HG := Lib.hid (fun w => beside_is (k / 4) w (by omega))
  rw [(Sy.l_sum k hk).2]
  have d1 : decide ((257 + (k : Int)) < 257) = false := decide_eq_false (by omega)
  have d2 : decide (285 ≤ (257 + (k : Int))) = false := decide_eq_false (by omega)
  obtain ⟨s, hs⟩ : ∃ s, s = 257 + (k : Int) := ⟨_, rfl⟩
  have hq : (s - 257) / 4 = ((k / 4 : Nat) : Int) := by omega
  have hs1 : 257 ≤ s := by omega
  have hs2 : s < 285 := by omega
  rw [← hs] at H d1 d2 ⊢
  obtain ⟨q, hq'⟩ : ∃ q : Int, q = ((k / 4 : Nat) : Int) := ⟨_, rfl⟩
  rw [← hq'] at hq HG
  clear hs hq'
  go_enter Try.func29, Try.ntmps29
  go_wp2_with fail
  refine (H.out (boxed w 257 3 4 7)).mono ?_
  rintro e w1 ⟨rfl, hb⟩
  have hx := (Bx.first w 257 3 4 7).next hb
  obtain ⟨c0, c1, c2, c3⟩ := hx.cells
  have HX := Lib.hid hx
  clear hb hx
  go_wp2_with fail
  refine (H2.out _).mono ?_
  rintro e w2 ⟨rfl, hb⟩
  have hy := HX.out.next hb
  obtain ⟨e0, e1, e2, e3⟩ := hy.cells
  have HY := Lib.hid hy
  clear hb hy
  go_wp2_with fail
  refine (HG.out _).mono ?_
  rintro e w3 ⟨rfl, rfl⟩
  go_wp2_with fail
  go_ret2
  exact ⟨rfl, HY.out.below⟩

set_option maxHeartbeats 2000000 in
theorem lbits_lone (w : World) : Calls Try.prog 29 #[scl 257 3 4 7, .int .i64 285] w (Two 0 0 w) := by
  have HL := fun w => llone_is 285 w
  rw [show ((285 : Int) == 285) = true from rfl] at HL
  unfold scl at HL ⊢
  have H := Lib.hid HL
  clear HL
  go_enter Try.func29, Try.ntmps29
  go_wp2_with fail
  refine (H.out (boxed w 257 3 4 7)).mono ?_
  rintro e w1 ⟨rfl, hb⟩
  have HX := Lib.hid ((Bx.first w 257 3 4 7).next hb)
  clear hb
  go_wp2_with fail
  go_ret2
  exact ⟨rfl, HX.out.below⟩

set_option maxHeartbeats 2000000 in
theorem dbits_bad (s : Int) (w : World) (h : s < 0 ∨ 29 < s) : Calls Try.prog 29 #[scl 0 1 2 15, .int .i64 s] w (Two 0 13 w) := by
  have HL := fun w => dlone_is s w
  have HE := fun w => dend_is w
  unfold scl at HL HE ⊢
  have H := Lib.hid HL
  have H2 := Lib.hid HE
  clear HL HE
  by_cases h1 : s < 0
  · have d1 : decide (s < 0) = true := decide_eq_true h1
    clear h h1
    go_enter Try.func29, Try.ntmps29
    go_wp2_with fail
    refine (H.out (boxed w 0 1 2 15)).mono ?_
    rintro e w1 ⟨rfl, hb⟩
    have hx := (Bx.first w 0 1 2 15).next hb
    obtain ⟨c0, c1, c2, c3⟩ := hx.cells
    have HX := Lib.hid hx
    clear hb hx
    go_wp2_with fail
    go_ret2
    exact ⟨rfl, HX.out.below⟩
  · have d1 : decide (s < 0) = false := decide_eq_false h1
    have d2 : decide (30 ≤ s) = true := decide_eq_true (by omega)
    clear h h1
    go_enter Try.func29, Try.ntmps29
    go_wp2_with fail
    refine (H.out (boxed w 0 1 2 15)).mono ?_
    rintro e w1 ⟨rfl, hb⟩
    have hx := (Bx.first w 0 1 2 15).next hb
    obtain ⟨c0, c1, c2, c3⟩ := hx.cells
    have HX := Lib.hid hx
    clear hb hx
    go_wp2_with fail
    refine (H2.out _).mono ?_
    rintro e w2 ⟨rfl, hb⟩
    have HY := Lib.hid (HX.out.next hb)
    clear hb
    go_wp2_with fail
    go_ret2
    exact ⟨rfl, HY.out.below⟩

set_option maxHeartbeats 2000000 in
theorem dbits_ok (k : Nat) (w : World) (hk : k < 30) : Calls Try.prog 29 #[scl 0 1 2 15, .int .i64 (0 + (k : Int))] w (Two (Sy.at' Sy.db k : Nat) 0 w) := by
  have HL := fun w => dlone_is (0 + (k : Int)) w
  have HE := fun w => dend_is w
  unfold scl at HL HE ⊢
  have H := Lib.hid HL
  have H2 := Lib.hid HE
  clear HL HE
  have HG := Lib.hid (fun w => beside_is (k / 2) w (by omega))
  rw [(Sy.d_sum k hk).2]
  have d1 : decide ((0 + (k : Int)) < 0) = false := decide_eq_false (by omega)
  have d2 : decide (30 ≤ (0 + (k : Int))) = false := decide_eq_false (by omega)
  obtain ⟨s, hs⟩ : ∃ s, s = 0 + (k : Int) := ⟨_, rfl⟩
  have hq : s / 2 = ((k / 2 : Nat) : Int) := by omega
  have hs1 : 0 ≤ s := by omega
  have hs2 : s < 30 := by omega
  rw [← hs] at H d1 d2 ⊢
  obtain ⟨q, hq'⟩ : ∃ q : Int, q = ((k / 2 : Nat) : Int) := ⟨_, rfl⟩
  rw [← hq'] at hq HG
  clear hs hq'
  go_enter Try.func29, Try.ntmps29
  go_wp2_with fail
  refine (H.out (boxed w 0 1 2 15)).mono ?_
  rintro e w1 ⟨rfl, hb⟩
  have hx := (Bx.first w 0 1 2 15).next hb
  obtain ⟨c0, c1, c2, c3⟩ := hx.cells
  have HX := Lib.hid hx
  clear hb hx
  go_wp2_with fail
  refine (H2.out _).mono ?_
  rintro e w2 ⟨rfl, hb⟩
  have hy := HX.out.next hb
  obtain ⟨e0, e1, e2, e3⟩ := hy.cells
  have HY := Lib.hid hy
  clear hb hy
  go_wp2_with fail
  refine (HG.out _).mono ?_
  rintro e w3 ⟨rfl, rfl⟩
  go_wp2_with fail
  go_ret2
  exact ⟨rfl, HY.out.below⟩
end Go.Proofs.Ytpcgibbmllmbgaa
