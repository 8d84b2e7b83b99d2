/- Contracts of symbol.lengths, distances, beside, (scale).end. -/
import Derived.Test.YtnjlljdbghcobaaGreatDoorAppm
import Derived.Test.YtnjlljdbghcobaaGreatDoorHcmp
import Derived.Test.YtnjlljdbghcobaaGreatDoorQtail
import Derived.Lib.MinMax
import Derived.Laws.StructEq
import Derived.Deep.QuietTactic

namespace Go.Proofs.YtnjlljdbghcobaaGreatDoor
set_option maxRecDepth 100000
open Go.RowKit

/-- A scale, as a value. -/
def scl (sym least per groups : Int) : Value := .agg #[.int .i64 sym, .int .i64 least, .int .i64 per, .int .i64 groups]

/-- A block that the call made itself. -/
theorem Has.four {w : World} {b : Nat} {x y z u : Value} {t : TypeId} (h : Has w b (.cells #[x, y, z, u] t (0, 0))) :
    w.cell? ⟨b, 0, none⟩ = some x ∧ w.cell? ⟨b, 1, none⟩ = some y ∧ w.cell? ⟨b, 2, none⟩ = some z ∧ w.cell? ⟨b, 3, none⟩ = some u :=
  ⟨by rw [h.cell]; rfl, by rw [h.cell]; rfl, by rw [h.cell]; rfl, by rw [h.cell]; rfl⟩

/-- What a call leaves that hands back a value, and makes what it likes. -/
def Gives (v : Value) (w : World) (e : Ending) (w' : World) : Prop := e = .returned v ∧ Below w.heap.size w w'

set_option maxHeartbeats 1000000 in
theorem lengths_is (w : World) : Calls Tryz.prog 132 #[] w (Gives (scl 257 3 4 7) w) := by
  go_enter Tryz.func132, Tryz.ntmps132
  go_wp2
  refine bodyPost_ret (v := scl 257 3 4 7) (by simp [results, Tryz.results132, go_sem, scl]) rfl ⟨rfl, below1 w _⟩

set_option maxHeartbeats 1000000 in
theorem distances_is (w : World) : Calls Tryz.prog 135 #[] w (Gives (scl 0 1 2 15) w) := by
  go_enter Tryz.func135, Tryz.ntmps135
  go_wp2
  refine bodyPost_ret (v := scl 0 1 2 15) (by simp [results, Tryz.results135, go_sem, scl]) rfl ⟨rfl, below1 w _⟩

set_option maxHeartbeats 1000000 in
theorem beside_is (g : Nat) (w : World) (hg : g ≤ 1000) : Calls Tryz.prog 176 #[.int .i64 (g : Int)] w fun e w' => e = .returned (.int .i64 ((g - 1 : Nat) : Int)) ∧ w = w' := by
  have h : max ((g : Int) - 1) 0 = ((g - 1 : Nat) : Int) := by omega
  go_enter Tryz.func176, Tryz.ntmps176
  go_wp2
  go_ret
  exact ⟨by rw [← h]; rfl, rfl⟩

set_option maxHeartbeats 1000000 in
theorem lend_is (w : World) : Calls Tryz.prog 175 #[scl 257 3 4 7] w (Gives (.int .i64 285) w) := by
  unfold scl
  go_enter Tryz.func175, Tryz.ntmps175
  go_wp2
  go_ret
  exact ⟨rfl, below1 w _⟩

set_option maxHeartbeats 1000000 in
theorem dend_is (w : World) : Calls Tryz.prog 175 #[scl 0 1 2 15] w (Gives (.int .i64 30) w) := by
  unfold scl
  go_enter Tryz.func175, Tryz.ntmps175
  go_wp2
  go_ret
  exact ⟨rfl, below1 w _⟩
end Go.Proofs.YtnjlljdbghcobaaGreatDoor

/- Contract of (scale).isLone. -/
namespace Go.Proofs.YtnjlljdbghcobaaGreatDoor
set_option maxRecDepth 100000
open Go.RowKit

/-- The world behind the box of a scale. -/
def boxed (w : World) (a b c d : Int) : World := w.alloc (.cells #[.int .i64 a, .int .i64 b, .int .i64 c, .int .i64 d] 179)
theorem boxed_below (w : World) (a b c d : Int) : Below w.heap.size w (boxed w a b c d) := below1 w _
theorem boxed_size (w : World) (a b c d : Int) : (boxed w a b c d).heap.size = w.heap.size + 1 := by simp [boxed]
theorem boxed_le (w : World) (a b c d : Int) : w.heap.size + 1 ≤ (boxed w a b c d).heap.size := Nat.le_of_eq (boxed_size w a b c d).symm
theorem boxed_cells (w : World) (a b c d : Int) (x : Wd (w.heap.size + 1) (boxed w a b c d)) :
    x.w.cell? ⟨w.heap.size, 0, none⟩ = some (.int .i64 a) ∧ x.w.cell? ⟨w.heap.size, 1, none⟩ = some (.int .i64 b) ∧ x.w.cell? ⟨w.heap.size, 2, none⟩ = some (.int .i64 c) ∧ x.w.cell? ⟨w.heap.size, 3, none⟩ = some (.int .i64 d) := by
  have h := (Has.new w (.cells #[.int .i64 a, .int .i64 b, .int .i64 c, .int .i64 d] 179)).four
  refine ⟨?_, ?_, ?_, ?_⟩
  · rw [x.cell (by omega)]; exact h.1
  · rw [x.cell (by omega)]; exact h.2.1
  · rw [x.cell (by omega)]; exact h.2.2.1
  · rw [x.cell (by omega)]; exact h.2.2.2

set_option maxHeartbeats 2000000 in
theorem dlone_is (sym : Int) (w : World) : Calls Tryz.prog 177 #[scl 0 1 2 15, .int .i64 sym] w (Gives (.bool false) w) := by
  have HL := fun w => lengths_is w
  have cc := boxed_cells w 0 1 2 15
  have c0 := fun x => (cc x).1
  have c1 := fun x => (cc x).2.1
  have c2 := fun x => (cc x).2.2.1
  have c3 := fun x => (cc x).2.2.2
  unfold scl at HL ⊢
  have H := Lib.hid HL
  clear HL cc
  go_enter Tryz.func177, Tryz.ntmps177
  go_wp2
  refine region_made (w.heap.size + 1) (boxed w 0 1 2 15) (by kernel_rfl) (by kernel_rfl) (Below.refl _ _) ?_
  repeat (go_big_quiet_step (exact made_call _ (boxed_le _ _ _ _ _) (H.out _)))
  refine wpQuiet_nil fun x => ?_
  have HX := Lib.hid ((boxed_below w 0 1 2 15).trans (x.h.mono (by omega)))
  go_wp2
  go_ret
  exact ⟨rfl, HX.out⟩

set_option maxHeartbeats 2000000 in
theorem llone_is (sym : Int) (w : World) : Calls Tryz.prog 177 #[scl 257 3 4 7, .int .i64 sym] w (Gives (.bool (sym == 285)) w) := by
  have HL := fun w => lengths_is w
  have HE := fun w => lend_is w
  have cc := boxed_cells w 257 3 4 7
  have c0 := fun x => (cc x).1
  have c1 := fun x => (cc x).2.1
  have c2 := fun x => (cc x).2.2.1
  have c3 := fun x => (cc x).2.2.2
  unfold scl at HL HE ⊢
  have H := Lib.hid HL
  have H2 := Lib.hid HE
  clear HL HE cc
  obtain ⟨z, hz⟩ : ∃ z, z = (sym == 285) := ⟨_, rfl⟩
  have hz2 := hz.symm
  rw [← hz]
  clear hz
  go_enter Tryz.func177, Tryz.ntmps177
  go_wp2
  refine region_made (w.heap.size + 1) (boxed w 257 3 4 7) (by kernel_rfl) (by kernel_rfl) (Below.refl _ _) ?_
  repeat (go_big_quiet_step (first | exact made_call _ (boxed_le _ _ _ _ _) (H.out _) | exact made_call _ (boxed_le _ _ _ _ _) (H2.out _)))
  refine wpQuiet_nil fun x => ?_
  have HX := Lib.hid ((boxed_below w 257 3 4 7).trans (x.h.mono (by omega)))
  go_wp2
  go_ret
  exact ⟨rfl, HX.out⟩
end Go.Proofs.YtnjlljdbghcobaaGreatDoor

/- Contract of (scale).bits, for lengths and for distances. -/
namespace Go.Proofs.YtnjlljdbghcobaaGreatDoor
set_option maxRecDepth 100000
open Go.RowKit

/-- What a call leaves that hands back a number and an error. -/
def Two (x c : Int) (w : World) (e : Ending) (w' : World) : Prop := e = .returned (.tuple #[.int .i64 x, .int .i64 c]) ∧ Below w.heap.size w w'

/-- Behind a call that a function makes that has boxed its scale. -/
def Bx (w : World) (a b c d : Int) (w1 : World) : Prop := Below (w.heap.size + 1) (boxed w a b c d) w1
theorem Bx.cells {w w1 : World} {a b c d : Int} (h : Bx w a b c d w1) :
    w1.cell? ⟨w.heap.size, 0, none⟩ = some (.int .i64 a) ∧ w1.cell? ⟨w.heap.size, 1, none⟩ = some (.int .i64 b) ∧ w1.cell? ⟨w.heap.size, 2, none⟩ = some (.int .i64 c) ∧ w1.cell? ⟨w.heap.size, 3, none⟩ = some (.int .i64 d) :=
  boxed_cells w a b c d ⟨w1, h⟩
theorem Bx.below {w w1 : World} {a b c d : Int} (h : Bx w a b c d w1) : Below w.heap.size w w1 := (boxed_below w a b c d).trans (Below.mono h (by omega))
theorem Bx.size {w w1 : World} {a b c d : Int} (h : Bx w a b c d w1) : w.heap.size + 1 ≤ w1.heap.size := Nat.le_trans (boxed_le w a b c d) (Below.size h)
theorem Bx.first (w : World) (a b c d : Int) : Bx w a b c d (boxed w a b c d) := Below.refl _ _
theorem Bx.next {w w1 w2 : World} {a b c d : Int} (h : Bx w a b c d w1) (hb : Below w1.heap.size w1 w2) : Bx w a b c d w2 := Below.trans h (hb.mono h.size)
theorem Bx.drew {w w1 : World} {a b c d : Int} (h : Bx w a b c d w1) (n : Nat) : Bx w a b c d (w1.drewN n) := below_drewN h n

set_option maxHeartbeats 2000000 in
theorem lbits_bad (s : Int) (w : World) (h : s < 257 ∨ 285 < s) : Calls Tryz.prog 134 #[scl 257 3 4 7, .int .i64 s] w (Two 0 13 w) := by
  have HL := fun w => llone_is s w
  rw [show (s == 285) = false from by rw [beq_eq_false_iff_ne]; omega] at HL
  have HE := fun w => lend_is w
  unfold scl at HL HE ⊢
  have H := Lib.hid HL
  have H2 := Lib.hid HE
  clear HL HE
  by_cases h1 : s < 257
  · have d1 : decide (s < 257) = true := decide_eq_true h1
    clear h h1
    go_enter Tryz.func134, Tryz.ntmps134
    go_wp2_with fail
    refine (H.out (boxed w 257 3 4 7)).mono ?_
    rintro e w1 ⟨rfl, hb⟩
    have hx := (Bx.first w 257 3 4 7).next hb
    obtain ⟨c0, c1, c2, c3⟩ := hx.cells
    have HX := Lib.hid hx
    clear hb hx
    go_wp2_with fail
    go_ret2
    exact ⟨rfl, HX.out.below⟩
  · have d1 : decide (s < 257) = false := decide_eq_false h1
    have d2 : decide (285 ≤ s) = true := decide_eq_true (by omega)
    clear h h1
    go_enter Tryz.func134, Tryz.ntmps134
    go_wp2_with fail
    refine (H.out (boxed w 257 3 4 7)).mono ?_
    rintro e w1 ⟨rfl, hb⟩
    have hx := (Bx.first w 257 3 4 7).next hb
    obtain ⟨c0, c1, c2, c3⟩ := hx.cells
    have HX := Lib.hid hx
    clear hb hx
    go_wp2_with fail
    refine (H2.out _).mono ?_
    rintro e w2 ⟨rfl, hb⟩
    have HY := Lib.hid (HX.out.next hb)
    clear hb
    go_wp2_with fail
    go_ret2
    exact ⟨rfl, HY.out.below⟩

set_option maxHeartbeats 2000000 in
theorem lbits_ok (k : Nat) (w : World) (hk : k < 28) : Calls Tryz.prog 134 #[scl 257 3 4 7, .int .i64 (257 + (k : Int))] w (Two (Sy.at' Sy.lb k : Nat) 0 w) := by
  have HL := fun w => llone_is (257 + (k : Int)) w
  rw [show ((257 + (k : Int)) == 285) = false from by rw [beq_eq_false_iff_ne]; omega] at HL
  have HE := fun w => lend_is w
  unfold scl at HL HE ⊢
  have H := Lib.hid HL
  have H2 := Lib.hid HE
  clear HL HE
  have HG := Lib.hid (fun w => beside_is (k / 4) w (by omega))
  rw [(Sy.l_sum k hk).2]
  have d1 : decide ((257 + (k : Int)) < 257) = false := decide_eq_false (by omega)
  have d2 : decide (285 ≤ (257 + (k : Int))) = false := decide_eq_false (by omega)
  obtain ⟨s, hs⟩ : ∃ s, s = 257 + (k : Int) := ⟨_, rfl⟩
  have hq : (s - 257) / 4 = ((k / 4 : Nat) : Int) := by omega
  have hs1 : 257 ≤ s := by omega
  have hs2 : s < 285 := by omega
  rw [← hs] at H d1 d2 ⊢
  obtain ⟨q, hq'⟩ : ∃ q : Int, q = ((k / 4 : Nat) : Int) := ⟨_, rfl⟩
  rw [← hq'] at hq HG
  clear hs hq'
  go_enter Tryz.func134, Tryz.ntmps134
  go_wp2_with fail
  refine (H.out (boxed w 257 3 4 7)).mono ?_
  rintro e w1 ⟨rfl, hb⟩
  have hx := (Bx.first w 257 3 4 7).next hb
  obtain ⟨c0, c1, c2, c3⟩ := hx.cells
  have HX := Lib.hid hx
  clear hb hx
  go_wp2_with fail
  refine (H2.out _).mono ?_
  rintro e w2 ⟨rfl, hb⟩
  have hy := HX.out.next hb
  obtain ⟨e0, e1, e2, e3⟩ := hy.cells
  have HY := Lib.hid hy
  clear hb hy
  go_wp2_with fail
  refine (HG.out _).mono ?_
  rintro e w3 ⟨rfl, rfl⟩
  go_wp2_with fail
  go_ret2
  exact ⟨rfl, HY.out.below⟩

set_option maxHeartbeats 2000000 in
theorem lbits_lone (w : World) : Calls Tryz.prog 134 #[scl 257 3 4 7, .int .i64 285] w (Two 0 0 w) := by
  have HL := fun w => llone_is 285 w
  rw [show ((285 : Int) == 285) = true from rfl] at HL
  unfold scl at HL ⊢
  have H := Lib.hid HL
  clear HL
  go_enter Tryz.func134, Tryz.ntmps134
  go_wp2_with fail
  refine (H.out (boxed w 257 3 4 7)).mono ?_
  rintro e w1 ⟨rfl, hb⟩
  have HX := Lib.hid ((Bx.first w 257 3 4 7).next hb)
  clear hb
  go_wp2_with fail
  go_ret2
  exact ⟨rfl, HX.out.below⟩

set_option maxHeartbeats 2000000 in
theorem dbits_bad (s : Int) (w : World) (h : s < 0 ∨ 29 < s) : Calls Tryz.prog 134 #[scl 0 1 2 15, .int .i64 s] w (Two 0 13 w) := by
  have HL := fun w => dlone_is s w
  have HE := fun w => dend_is w
  unfold scl at HL HE ⊢
  have H := Lib.hid HL
  have H2 := Lib.hid HE
  clear HL HE
  by_cases h1 : s < 0
  · have d1 : decide (s < 0) = true := decide_eq_true h1
    clear h h1
    go_enter Tryz.func134, Tryz.ntmps134
    go_wp2_with fail
    refine (H.out (boxed w 0 1 2 15)).mono ?_
    rintro e w1 ⟨rfl, hb⟩
    have hx := (Bx.first w 0 1 2 15).next hb
    obtain ⟨c0, c1, c2, c3⟩ := hx.cells
    have HX := Lib.hid hx
    clear hb hx
    go_wp2_with fail
    go_ret2
    exact ⟨rfl, HX.out.below⟩
  · have d1 : decide (s < 0) = false := decide_eq_false h1
    have d2 : decide (30 ≤ s) = true := decide_eq_true (by omega)
    clear h h1
    go_enter Tryz.func134, Tryz.ntmps134
    go_wp2_with fail
    refine (H.out (boxed w 0 1 2 15)).mono ?_
    rintro e w1 ⟨rfl, hb⟩
    have hx := (Bx.first w 0 1 2 15).next hb
    obtain ⟨c0, c1, c2, c3⟩ := hx.cells
    have HX := Lib.hid hx
    clear hb hx
    go_wp2_with fail
    refine (H2.out _).mono ?_
    rintro e w2 ⟨rfl, hb⟩
    have HY := Lib.hid (HX.out.next hb)
    clear hb
    go_wp2_with fail
    go_ret2
    exact ⟨rfl, HY.out.below⟩

set_option maxHeartbeats 2000000 in
theorem dbits_ok (k : Nat) (w : World) (hk : k < 30) : Calls Tryz.prog 134 #[scl 0 1 2 15, .int .i64 (0 + (k : Int))] w (Two (Sy.at' Sy.db k : Nat) 0 w) := by
  have HL := fun w => dlone_is (0 + (k : Int)) w
  have HE := fun w => dend_is w
  unfold scl at HL HE ⊢
  have H := Lib.hid HL
  have H2 := Lib.hid HE
  clear HL HE
  have HG := Lib.hid (fun w => beside_is (k / 2) w (by omega))
  rw [(Sy.d_sum k hk).2]
  have d1 : decide ((0 + (k : Int)) < 0) = false := decide_eq_false (by omega)
  have d2 : decide (30 ≤ (0 + (k : Int))) = false := decide_eq_false (by omega)
  obtain ⟨s, hs⟩ : ∃ s, s = 0 + (k : Int) := ⟨_, rfl⟩
  have hq : s / 2 = ((k / 2 : Nat) : Int) := by omega
  have hs1 : 0 ≤ s := by omega
  have hs2 : s < 30 := by omega
  rw [← hs] at H d1 d2 ⊢
  obtain ⟨q, hq'⟩ : ∃ q : Int, q = ((k / 2 : Nat) : Int) := ⟨_, rfl⟩
  rw [← hq'] at hq HG
  clear hs hq'
  go_enter Tryz.func134, Tryz.ntmps134
  go_wp2_with fail
  refine (H.out (boxed w 0 1 2 15)).mono ?_
  rintro e w1 ⟨rfl, hb⟩
  have hx := (Bx.first w 0 1 2 15).next hb
  obtain ⟨c0, c1, c2, c3⟩ := hx.cells
  have HX := Lib.hid hx
  clear hb hx
  go_wp2_with fail
  refine (H2.out _).mono ?_
  rintro e w2 ⟨rfl, hb⟩
  have hy := HX.out.next hb
  obtain ⟨e0, e1, e2, e3⟩ := hy.cells
  have HY := Lib.hid hy
  clear hb hy
  go_wp2_with fail
  refine (HG.out _).mono ?_
  rintro e w3 ⟨rfl, rfl⟩
  go_wp2_with fail
  go_ret2
  exact ⟨rfl, HY.out.below⟩
end Go.Proofs.YtnjlljdbghcobaaGreatDoor

/- Contract of (scale).number, for lengths and for distances. -/
namespace Go.Proofs.YtnjlljdbghcobaaGreatDoor
set_option maxRecDepth 100000
open Go.RowKit

/-- What is shifted, as the walk has it. -/
theorem shl_is (x b z : Nat) (hx : x ≤ 100000) (hb : b ≤ 20) (hz : z = x * 2 ^ b) : Value.int .i64 (wrap64 ((x : Int) * 2 ^ b)) = .int .i64 (z : Int) := by
  have h : (2 : Nat) ^ b ≤ 2 ^ 20 := Nat.pow_le_pow_right (by omega) hb
  have e : (x : Int) * 2 ^ b = (z : Int) := by rw [hz]; simp
  have h2 : z ≤ 100000 * 2 ^ 20 := by rw [hz]; exact Nat.mul_le_mul hx h
  rw [e]
  congr 1
  unfold wrap64
  omega

/-- The powers of 2 that are shifted to, as the walk has them. -/
theorem pow_is (b : Nat) (hb : b ≤ 20) : Value.int .i64 (wrap64 (2 ^ b)) = .int .i64 ((2 ^ b : Nat) : Int) := by
  have h : (2 : Nat) ^ b ≤ 2 ^ 20 := Nat.pow_le_pow_right (by omega) hb
  have e : (2 : Int) ^ b = ((2 ^ b : Nat) : Int) := by simp
  rw [e]
  generalize (2 : Nat) ^ b = x at h
  congr 1
  unfold wrap64
  omega

set_option maxHeartbeats 2000000 in
theorem lnum_bad (s v : Int) (w : World) (h : s < 257 ∨ 285 < s) : Calls Tryz.prog 229 #[scl 257 3 4 7, .int .i64 s, .int .i64 v] w (Two 0 13 w) := by
  have HL := fun w => lbits_bad s w h
  unfold scl at HL ⊢
  have H := Lib.hid HL
  clear HL h
  go_enter Tryz.func229, Tryz.ntmps229
  go_wp2_with fail
  refine (H.out (boxed w 257 3 4 7)).mono ?_
  rintro e w1 ⟨rfl, hb⟩
  have HX := Lib.hid ((Bx.first w 257 3 4 7).next hb)
  clear hb
  go_wp2_with fail
  go_ret2
  exact ⟨rfl, HX.out.below⟩

set_option maxHeartbeats 2000000 in
theorem lnum_arg (k : Nat) (v : Int) (w : World) (hk : k < 28) (hv : v < 0 ∨ (2 ^ Sy.at' Sy.lb k : Nat) ≤ v) : Calls Tryz.prog 229 #[scl 257 3 4 7, .int .i64 (257 + (k : Int)), .int .i64 v] w (Two 0 2 w) := by
  have HL := fun w => lbits_ok k w hk
  have hb5 := Sy.lb_le k (by omega)
  unfold scl at HL ⊢
  obtain ⟨b, hb⟩ : ∃ b, b = Sy.at' Sy.lb k := ⟨_, rfl⟩
  rw [← hb] at HL hv hb5
  have H := Lib.hid HL
  clear HL hb
  by_cases h1 : v < 0
  · have d1 : decide (v < 0) = true := decide_eq_true h1
    clear hv h1
    go_enter Tryz.func229, Tryz.ntmps229
    go_wp2_with fail
    refine (H.out (boxed w 257 3 4 7)).mono ?_
    rintro e w1 ⟨rfl, hb⟩
    have HX := Lib.hid ((Bx.first w 257 3 4 7).next hb)
    clear hb
    go_wp2_with fail
    go_ret2
    exact ⟨rfl, HX.out.below⟩
  · have d1 : decide (v < 0) = false := decide_eq_false h1
    have hp := pow_is b (by omega)
    obtain ⟨p, hp'⟩ : ∃ p : Nat, p = 2 ^ b := ⟨_, rfl⟩
    rw [← hp'] at hp hv
    have d2 : decide ((p : Int) ≤ v) = true := decide_eq_true (by omega)
    clear hv h1 hp'
    go_enter Tryz.func229, Tryz.ntmps229
    go_wp2_with fail
    refine (H.out (boxed w 257 3 4 7)).mono ?_
    rintro e w1 ⟨rfl, hb⟩
    have HX := Lib.hid ((Bx.first w 257 3 4 7).next hb)
    clear hb
    go_wp2_with fail
    go_ret2
    exact ⟨rfl, HX.out.below⟩

theorem lnum_facts (k v : Nat) (hk : k < 28) (hv : v < 2 ^ Sy.at' Sy.lb k) : ∃ b p q r z : Nat, Sy.at' Sy.lb k = b ∧ b ≤ 5 ∧ Value.int .i64 (wrap64 (2 ^ b)) = .int .i64 (p : Int) ∧ v < p ∧ (k : Int) / 4 = (q : Int) ∧ q ≤ 6 ∧
    (k : Int) % 4 = (r : Int) ∧ (k : Int).tmod 4 = (r : Int) ∧ r ≤ 3 ∧ Value.int .i64 (wrap64 ((r : Int) * 2 ^ b)) = .int .i64 (z : Int) ∧ Sy.start 3 4 q + z = Sy.at' Sy.lf k ∧ Sy.at' Sy.lf k + p ≤ 259 := by
  have h := Sy.l_sum k hk
  refine ⟨Sy.at' Sy.lb k, 2 ^ Sy.at' Sy.lb k, k / 4, k % 4, k % 4 * 2 ^ Sy.at' Sy.lb k, rfl, Sy.lb_le k (by omega), pow_is _ (by have := Sy.lb_le k (by omega); omega), hv, by omega, by omega, by omega, ?_, by omega,
    shl_is _ _ _ (by omega) (by have := Sy.lb_le k (by omega); omega) rfl, ?_, (Sy.lf_le k (by omega)).2⟩
  · rw [Int.tmod_eq_emod_of_nonneg (by omega)]; omega
  · rw [h.2]; exact h.1

set_option maxHeartbeats 2000000 in
theorem lnum_ok (k v : Nat) (w : World) (hk : k < 28) (hv : v < 2 ^ Sy.at' Sy.lb k) : Calls Tryz.prog 229 #[scl 257 3 4 7, .int .i64 (257 + (k : Int)), .int .i64 (v : Int)] w (Two ((Sy.at' Sy.lf k + v : Nat) : Int) 0 w) := by
  have HL := fun w => lbits_ok k w hk
  have HL2 := fun w => llone_is (257 + (k : Int)) w
  rw [show ((257 + (k : Int)) == 285) = false from by rw [beq_eq_false_iff_ne]; omega] at HL2
  obtain ⟨b, p, q, r, z, hb, hb5, hp, hvp, hq1, hq6, hr1, hr2, hr3, hzs, hsum, hfp⟩ := lnum_facts k v hk hv
  obtain ⟨f, hf⟩ : ∃ f, f = Sy.at' Sy.lf k := ⟨_, rfl⟩
  rw [← hf] at hsum hfp ⊢
  unfold scl at HL HL2 ⊢
  rw [hb] at HL
  have H := Lib.hid HL
  have H2 := Lib.hid HL2
  clear HL HL2 hb hf hv
  have d1 : decide ((v : Int) < 0) = false := decide_eq_false (by omega)
  have d2 : decide ((p : Int) ≤ (v : Int)) = false := decide_eq_false (by omega)
  have d2' : decide (p ≤ v) = false := decide_eq_false (by omega)
  have HS := Lib.hid hsum
  have hk2 : 257 + (k : Int) - 257 = (k : Int) := by omega
  clear hsum
  go_enter Tryz.func229, Tryz.ntmps229
  go_wp2_with fail
  refine (H.out (boxed w 257 3 4 7)).mono ?_
  rintro e w1 ⟨rfl, hb⟩
  have hx := (Bx.first w 257 3 4 7).next hb
  obtain ⟨c0, c1, c2, c3⟩ := hx.cells
  have HX := Lib.hid hx
  clear hb hx
  go_wp2_with fail
  refine (H2.out _).mono ?_
  rintro e w2 ⟨rfl, hb⟩
  have hy := HX.out.next hb
  obtain ⟨e0, e1, e2, e3⟩ := hy.cells
  have HY := Lib.hid hy
  clear hb hy c0 c1 c2 c3
  go_wp2_with fail
  go_quiet (fail)
  go_wp2_with fail
  go_loopw [10, 43] (fun s10 s43 wr => ∃ g u : Nat, g ≤ q ∧ s43 = .int .i64 (g : Int) ∧ s10 = .int .i64 (u : Int) ∧ Hid (u = Sy.start 3 4 g) ∧ Hid (Bx w 257 3 4 7 wr)) (fun _ s _ => q - (intOf s).toNat)
  case atStart => exact ⟨0, 3, Nat.zero_le _, rfl, rfl, rfl, HY.out.drew _⟩
  case round =>
    obtain ⟨g, u, hg, rfl, rfl, HU, HB⟩ := hrel
    by_cases hlt : g < q
    · have hu2 := Sy.lf_start (g + 1) (by omega)
      rw [Sy.start_succ, ← HU.out] at hu2
      have HU2 : Hid (u + 4 * 2 ^ (g - 1) = Sy.start 3 4 (g + 1)) := by rw [HU.out]; rfl
      have HG := Lib.hid (fun w => beside_is g w (by omega))
      obtain ⟨j, hj⟩ : ∃ j, j = g - 1 := ⟨_, rfl⟩
      rw [← hj] at HG HU2 hu2
      obtain ⟨t, ht⟩ : ∃ t, t = 4 * 2 ^ j := ⟨_, rfl⟩
      have hts : Value.int .i64 (wrap64 (4 * 2 ^ j)) = .int .i64 (t : Int) := shl_is 4 j t (by omega) (by omega) ht
      rw [← ht] at HU2 hu2
      have hmin : min j 64 = j := by omega
      clear ht hj
      go_wp2_with fail
      have x0 := fun x => (boxed_cells w 257 3 4 7 x).1
      have x1 := fun x => (boxed_cells w 257 3 4 7 x).2.1
      have x2 := fun x => (boxed_cells w 257 3 4 7 x).2.2.1
      have x3 := fun x => (boxed_cells w 257 3 4 7 x).2.2.2
      refine region_made (w.heap.size + 1) (boxed w 257 3 4 7) (by kernel_rfl) (by kernel_rfl) HB.out ?_
      repeat (go_big_quiet_step (exact made_call _ (boxed_le _ _ _ _ _) ((HG.out _).mono fun e w' ⟨he, hw⟩ => ⟨he, hw ▸ Below.refl _ _⟩)))
      refine wpQuiet_nil fun x => ?_
      have HX2 : Hid (Bx w 257 3 4 7 x.w) := Lib.hid x.h
      go_wp2_with fail
      go_roundw
      case rel => exact ⟨g + 1, u + t, by omega, by go_num, by (injection hts with _ e; (try rw [e]); go_num), HU2, HX2⟩
      case measure => simp [intOf]; omega
    · obtain rfl : g = q := by omega
      obtain ⟨y0, y1, y2, y3⟩ := HB.out.cells
      have hzf : u + z = f := by rw [HU.out]; exact HS.out
      go_wp2_with fail
      go_ret2
      exact ⟨by rw [← hzf]; go_num, HB.out.below⟩

set_option maxHeartbeats 2000000 in
theorem lnum_lone_arg (v : Int) (w : World) (hv : v ≠ 0) : Calls Tryz.prog 229 #[scl 257 3 4 7, .int .i64 285, .int .i64 v] w (Two 0 2 w) := by
  have HL := fun w => lbits_lone w
  unfold scl at HL ⊢
  have H := Lib.hid HL
  clear HL
  by_cases h1 : v < 0
  · have d1 : decide (v < 0) = true := decide_eq_true h1
    clear hv h1
    go_enter Tryz.func229, Tryz.ntmps229
    go_wp2_with fail
    refine (H.out (boxed w 257 3 4 7)).mono ?_
    rintro e w1 ⟨rfl, hb⟩
    have HX := Lib.hid ((Bx.first w 257 3 4 7).next hb)
    clear hb
    go_wp2_with fail
    go_ret2
    exact ⟨rfl, HX.out.below⟩
  · have d1 : decide (v < 0) = false := decide_eq_false h1
    have d2 : decide (1 ≤ v) = true := decide_eq_true (by omega)
    clear hv h1
    go_enter Tryz.func229, Tryz.ntmps229
    go_wp2_with fail
    refine (H.out (boxed w 257 3 4 7)).mono ?_
    rintro e w1 ⟨rfl, hb⟩
    have HX := Lib.hid ((Bx.first w 257 3 4 7).next hb)
    clear hb
    go_wp2_with fail
    go_ret2
    exact ⟨rfl, HX.out.below⟩

set_option maxHeartbeats 2000000 in
theorem lnum_lone (w : World) : Calls Tryz.prog 229 #[scl 257 3 4 7, .int .i64 285, .int .i64 0] w (Two 258 0 w) := by
  have HL := fun w => lbits_lone w
  have HL2 := fun w => llone_is 285 w
  rw [show ((285 : Int) == 285) = true from rfl] at HL2
  unfold scl at HL HL2 ⊢
  have H := Lib.hid HL
  have H2 := Lib.hid HL2
  clear HL HL2
  go_enter Tryz.func229, Tryz.ntmps229
  go_wp2_with fail
  refine (H.out (boxed w 257 3 4 7)).mono ?_
  rintro e w1 ⟨rfl, hb⟩
  have hx := (Bx.first w 257 3 4 7).next hb
  obtain ⟨c0, c1, c2, c3⟩ := hx.cells
  have HX := Lib.hid hx
  clear hb hx
  go_wp2_with fail
  refine (H2.out _).mono ?_
  rintro e w2 ⟨rfl, hb⟩
  have HY := Lib.hid (HX.out.next hb)
  clear hb
  go_wp2_with fail
  go_ret2
  exact ⟨rfl, HY.out.below⟩

set_option maxHeartbeats 2000000 in
theorem dnum_bad (s v : Int) (w : World) (h : s < 0 ∨ 29 < s) : Calls Tryz.prog 229 #[scl 0 1 2 15, .int .i64 s, .int .i64 v] w (Two 0 13 w) := by
  have HL := fun w => dbits_bad s w h
  unfold scl at HL ⊢
  have H := Lib.hid HL
  clear HL h
  go_enter Tryz.func229, Tryz.ntmps229
  go_wp2_with fail
  refine (H.out (boxed w 0 1 2 15)).mono ?_
  rintro e w1 ⟨rfl, hb⟩
  have HX := Lib.hid ((Bx.first w 0 1 2 15).next hb)
  clear hb
  go_wp2_with fail
  go_ret2
  exact ⟨rfl, HX.out.below⟩

set_option maxHeartbeats 2000000 in
theorem dnum_arg (k : Nat) (v : Int) (w : World) (hk : k < 30) (hv : v < 0 ∨ (2 ^ Sy.at' Sy.db k : Nat) ≤ v) : Calls Tryz.prog 229 #[scl 0 1 2 15, .int .i64 (k : Int), .int .i64 v] w (Two 0 2 w) := by
  have HL := fun w => dbits_ok k w hk
  simp only [Int.zero_add] at HL
  have hb5 := Sy.db_le k (by omega)
  unfold scl at HL ⊢
  obtain ⟨b, hb⟩ : ∃ b, b = Sy.at' Sy.db k := ⟨_, rfl⟩
  rw [← hb] at HL hv hb5
  have H := Lib.hid HL
  clear HL hb
  by_cases h1 : v < 0
  · have d1 : decide (v < 0) = true := decide_eq_true h1
    clear hv h1
    go_enter Tryz.func229, Tryz.ntmps229
    go_wp2_with fail
    refine (H.out (boxed w 0 1 2 15)).mono ?_
    rintro e w1 ⟨rfl, hb⟩
    have HX := Lib.hid ((Bx.first w 0 1 2 15).next hb)
    clear hb
    go_wp2_with fail
    go_ret2
    exact ⟨rfl, HX.out.below⟩
  · have d1 : decide (v < 0) = false := decide_eq_false h1
    have hp := pow_is b (by omega)
    obtain ⟨p, hp'⟩ : ∃ p : Nat, p = 2 ^ b := ⟨_, rfl⟩
    rw [← hp'] at hp hv
    have d2 : decide ((p : Int) ≤ v) = true := decide_eq_true (by omega)
    clear hv h1 hp'
    go_enter Tryz.func229, Tryz.ntmps229
    go_wp2_with fail
    refine (H.out (boxed w 0 1 2 15)).mono ?_
    rintro e w1 ⟨rfl, hb⟩
    have HX := Lib.hid ((Bx.first w 0 1 2 15).next hb)
    clear hb
    go_wp2_with fail
    go_ret2
    exact ⟨rfl, HX.out.below⟩

theorem dnum_facts (k v : Nat) (hk : k < 30) (hv : v < 2 ^ Sy.at' Sy.db k) : ∃ b p q r z : Nat, Sy.at' Sy.db k = b ∧ b ≤ 13 ∧ Value.int .i64 (wrap64 (2 ^ b)) = .int .i64 (p : Int) ∧ v < p ∧ (k : Int) / 2 = (q : Int) ∧ q ≤ 14 ∧
    (k : Int) % 2 = (r : Int) ∧ (k : Int).tmod 2 = (r : Int) ∧ r ≤ 1 ∧ Value.int .i64 (wrap64 ((r : Int) * 2 ^ b)) = .int .i64 (z : Int) ∧ Sy.start 1 2 q + z = Sy.at' Sy.df k ∧ Sy.at' Sy.df k + p ≤ 32769 := by
  have h := Sy.d_sum k hk
  refine ⟨Sy.at' Sy.db k, 2 ^ Sy.at' Sy.db k, k / 2, k % 2, k % 2 * 2 ^ Sy.at' Sy.db k, rfl, Sy.db_le k (by omega), pow_is _ (by have := Sy.db_le k (by omega); omega), hv, by omega, by omega, by omega, ?_, by omega,
    shl_is _ _ _ (by omega) (by have := Sy.db_le k (by omega); omega) rfl, ?_, (Sy.df_le k (by omega)).2⟩
  · rw [Int.tmod_eq_emod_of_nonneg (by omega)]; omega
  · rw [h.2]; exact h.1

set_option maxHeartbeats 2000000 in
theorem dnum_ok (k v : Nat) (w : World) (hk : k < 30) (hv : v < 2 ^ Sy.at' Sy.db k) : Calls Tryz.prog 229 #[scl 0 1 2 15, .int .i64 (k : Int), .int .i64 (v : Int)] w (Two ((Sy.at' Sy.df k + v : Nat) : Int) 0 w) := by
  have HL := fun w => dbits_ok k w hk
  simp only [Int.zero_add] at HL
  have HL2 := fun w => dlone_is (k : Int) w
  obtain ⟨b, p, q, r, z, hb, hb5, hp, hvp, hq1, hq6, hr1, hr2, hr3, hzs, hsum, hfp⟩ := dnum_facts k v hk hv
  obtain ⟨f, hf⟩ : ∃ f, f = Sy.at' Sy.df k := ⟨_, rfl⟩
  rw [← hf] at hsum hfp ⊢
  unfold scl at HL HL2 ⊢
  rw [hb] at HL
  have H := Lib.hid HL
  have H2 := Lib.hid HL2
  clear HL HL2 hb hf hv
  have d1 : decide ((v : Int) < 0) = false := decide_eq_false (by omega)
  have d2 : decide ((p : Int) ≤ (v : Int)) = false := decide_eq_false (by omega)
  have d2' : decide (p ≤ v) = false := decide_eq_false (by omega)
  have HS := Lib.hid hsum
  clear hsum
  go_enter Tryz.func229, Tryz.ntmps229
  go_wp2_with fail
  refine (H.out (boxed w 0 1 2 15)).mono ?_
  rintro e w1 ⟨rfl, hb⟩
  have hx := (Bx.first w 0 1 2 15).next hb
  obtain ⟨c0, c1, c2, c3⟩ := hx.cells
  have HX := Lib.hid hx
  clear hb hx
  go_wp2_with fail
  refine (H2.out _).mono ?_
  rintro e w2 ⟨rfl, hb⟩
  have hy := HX.out.next hb
  obtain ⟨e0, e1, e2, e3⟩ := hy.cells
  have HY := Lib.hid hy
  clear hb hy c0 c1 c2 c3
  go_wp2_with fail
  go_quiet (fail)
  go_wp2_with fail
  go_loopw [10, 43] (fun s10 s43 wr => ∃ g u : Nat, g ≤ q ∧ s43 = .int .i64 (g : Int) ∧ s10 = .int .i64 (u : Int) ∧ Hid (u = Sy.start 1 2 g) ∧ Hid (Bx w 0 1 2 15 wr)) (fun _ s _ => q - (intOf s).toNat)
  case atStart => exact ⟨0, 1, Nat.zero_le _, rfl, rfl, rfl, HY.out.drew _⟩
  case round =>
    obtain ⟨g, u, hg, rfl, rfl, HU, HB⟩ := hrel
    by_cases hlt : g < q
    · have hu2 := Sy.df_start (g + 1) (by omega)
      rw [Sy.start_succ, ← HU.out] at hu2
      have HU2 : Hid (u + 2 * 2 ^ (g - 1) = Sy.start 1 2 (g + 1)) := by rw [HU.out]; rfl
      have HG := Lib.hid (fun w => beside_is g w (by omega))
      obtain ⟨j, hj⟩ : ∃ j, j = g - 1 := ⟨_, rfl⟩
      rw [← hj] at HG HU2 hu2
      obtain ⟨t, ht⟩ : ∃ t, t = 2 * 2 ^ j := ⟨_, rfl⟩
      have hts : Value.int .i64 (wrap64 (2 * 2 ^ j)) = .int .i64 (t : Int) := shl_is 2 j t (by omega) (by omega) ht
      rw [← ht] at HU2 hu2
      have hmin : min j 64 = j := by omega
      clear ht hj
      go_wp2_with fail
      have x0 := fun x => (boxed_cells w 0 1 2 15 x).1
      have x1 := fun x => (boxed_cells w 0 1 2 15 x).2.1
      have x2 := fun x => (boxed_cells w 0 1 2 15 x).2.2.1
      have x3 := fun x => (boxed_cells w 0 1 2 15 x).2.2.2
      refine region_made (w.heap.size + 1) (boxed w 0 1 2 15) (by kernel_rfl) (by kernel_rfl) HB.out ?_
      repeat (go_big_quiet_step (exact made_call _ (boxed_le _ _ _ _ _) ((HG.out _).mono fun e w' ⟨he, hw⟩ => ⟨he, hw ▸ Below.refl _ _⟩)))
      refine wpQuiet_nil fun x => ?_
      have HX2 : Hid (Bx w 0 1 2 15 x.w) := Lib.hid x.h
      go_wp2_with fail
      go_roundw
      case rel => exact ⟨g + 1, u + t, by omega, by go_num, by (injection hts with _ e; (try rw [e]); go_num), HU2, HX2⟩
      case measure => simp [intOf]; omega
    · obtain rfl : g = q := by omega
      obtain ⟨y0, y1, y2, y3⟩ := HB.out.cells
      have hzf : u + z = f := by rw [HU.out]; exact HS.out
      go_wp2_with fail
      go_ret2
      exact ⟨by rw [← hzf]; go_num, HB.out.below⟩
end Go.Proofs.YtnjlljdbghcobaaGreatDoor
