/- Contracts of sector.New; of the calls of no disk. -/
import Derived.Test.YtillckjohlbaiaaEcra

namespace Go.Proofs.Ytillckjohlbaiaa
set_option maxRecDepth 100000
open Go.RowKit

/-- A new disk. -/
def NewPost (w : World) (n : Nat) (e : Ending) (w' : World) : Prop :=
  ∃ b S, e = .returned (.tuple #[.pointer (some ⟨b, 0, none⟩), .int .i64 0]) ∧ Dsk w' S b (Ek.fresh n) ∧ (∀ k, S k → w.heap.size ≤ k ∧ k < w'.heap.size) ∧ Below w.heap.size w w'

theorem new_dsk (w : World) (n : Nat) (h1 : 1 ≤ n) (h2 : n ≤ 8192) :
    Dsk (((w.alloc (.map #[] 0)).alloc (.map #[] 0)).alloc (.cells #[.int .i64 (n : Int), .map (some w.heap.size), .slice none 0 0, .map (some (w.heap.size + 1)), .int .i64 (-1), .bool false] 96)) (fun k => w.heap.size ≤ k ∧ k < w.heap.size + 3) (w.heap.size + 1 + 1) (Ek.fresh n) := by
  have a1 := Has.new ((w.alloc (.map #[] 0)).alloc (.map #[] 0)) (.cells #[.int .i64 (n : Int), .map (some w.heap.size), .slice none 0 0, .map (some (w.heap.size + 1)), .int .i64 (-1), .bool false] 96)
  have a2 := (Mp.new (w.alloc (.map #[] 0))).alloc (.cells #[.int .i64 (n : Int), .map (some w.heap.size), .slice none 0 0, .map (some (w.heap.size + 1)), .int .i64 (-1), .bool false] 96)
  rw [show ((w.alloc (.map #[] 0)).alloc (.map #[] 0)).heap.size = w.heap.size + 1 + 1 by simp] at a1
  rw [show (w.alloc (.map #[] 0)).heap.size = w.heap.size + 1 by simp] at a2
  exact ⟨w.heap.size, w.heap.size + 1, 0, .slice none 0 0, fun _ => none, a1, ((Mp.new w).alloc _).alloc _, fun i => Or.inr ⟨rfl, rfl⟩, a2, ⟨rfl, Or.inl ⟨rfl, rfl⟩⟩, ⟨by omega, by omega⟩, ⟨by omega, by omega⟩, ⟨by omega, by omega⟩, by omega, fun g hg => (by cases hg), Nat.zero_le _, Ek.fresh_ok n h1 h2⟩

set_option maxHeartbeats 2000000 in
theorem new_good (w : World) (n : Nat) (h1 : 1 ≤ n) (h2 : n ≤ 8192) : Calls Try.prog 13 #[.int .i64 (n : Int)] w (NewPost w n) := by
  have HD := Lib.hid (new_dsk w n h1 h2)
  have HB := Lib.hid (below3 w (.map #[] 0) (.map #[] 0) (.cells #[.int .i64 (n : Int), .map (some w.heap.size), .slice none 0 0, .map (some (w.heap.size + 1)), .int .i64 (-1), .bool false] 96))
  have d1 : decide ((n : Int) < 1) = false := decide_eq_false (by omega)
  have d2 : decide ((8192 : Int) < (n : Int)) = false := decide_eq_false (by omega)
  have hmm := @run_makeMap Try.prog
  clear h1 h2
  go_enter Try.func13, Try.ntmps13
  go_wp2_with fail
  go_ret2
  exact ⟨_, _, rfl, HD.out, fun k hk => ⟨hk.1, by have := hk.2; simp; omega⟩, HB.out⟩

set_option maxHeartbeats 2000000 in
theorem new_bad (w : World) (n : Int) (h : n < 1 ∨ 8192 < n) : Calls Try.prog 13 #[.int .i64 n] w fun e w' => e = .returned (.tuple #[.pointer none, .int .i64 2]) ∧ w = w' := by
  by_cases h1 : n < 1
  · have d1 : decide (n < 1) = true := decide_eq_true h1
    clear h h1
    go_enter Try.func13, Try.ntmps13
    go_wp2_with fail
    go_ret2
    exact ⟨rfl, rfl⟩
  · have d1 : decide (n < 1) = false := decide_eq_false h1
    have d2 : decide ((8192 : Int) < n) = true := decide_eq_true (by omega)
    clear h h1
    go_enter Try.func13, Try.ntmps13
    go_wp2_with fail
    go_ret2
    exact ⟨rfl, rfl⟩

/-- A pointer to no disk: nil, or one that nothing made. -/
def NoD (w : World) (v : Value) : Prop := v = .pointer none ∨ ∃ b, v = .pointer (some ⟨b, 0, none⟩) ∧ w.cell? ⟨b, 0, none⟩ = some (.int .i64 0)
theorem nod_made {w : World} {v : Value} (h : NoD w v) : Calls Try.prog 52 #[v] w fun e w' => e = .returned (.bool false) ∧ w = w' := by
  rcases h with rfl | ⟨b, rfl, hc⟩
  · exact made_nil w
  · exact made_no w b hc

set_option maxHeartbeats 1000000 in
theorem nod_len {w : World} {v : Value} (h : NoD w v) : Calls Try.prog 16 #[v] w fun e w' => e = .returned (.int .i64 0) ∧ w = w' := by
  have HM := Lib.hid (nod_made h)
  clear h
  go_enter Try.func16, Try.ntmps16
  go_wp2_with fail
  refine HM.out.mono ?_
  rintro e w' ⟨rfl, rfl⟩
  go_wp2_with fail
  go_ret
  exact ⟨rfl, rfl⟩
set_option maxHeartbeats 1000000 in
theorem nod_loose {w : World} {v : Value} (h : NoD w v) : Calls Try.prog 49 #[v] w fun e w' => e = .returned (.int .i64 0) ∧ w = w' := by
  have HM := Lib.hid (nod_made h)
  clear h
  go_enter Try.func49, Try.ntmps49
  go_wp2_with fail
  refine HM.out.mono ?_
  rintro e w' ⟨rfl, rfl⟩
  go_wp2_with fail
  go_ret
  exact ⟨rfl, rfl⟩
set_option maxHeartbeats 1000000 in
theorem nod_dark {w : World} {v : Value} (h : NoD w v) : Calls Try.prog 51 #[v] w fun e w' => e = .returned (.bool false) ∧ w = w' := by
  have HM := Lib.hid (nod_made h)
  clear h
  go_enter Try.func51, Try.ntmps51
  go_wp2_with fail
  refine HM.out.mono ?_
  rintro e w' ⟨rfl, rfl⟩
  go_wp2_with fail
  go_ret
  exact ⟨rfl, rfl⟩
set_option maxHeartbeats 1000000 in
theorem nod_sync {w : World} {v : Value} (h : NoD w v) : Calls Try.prog 48 #[v] w fun e w' => e = .returned (.int .i64 1) ∧ w = w' := by
  have HM := Lib.hid (nod_made h)
  clear h
  go_enter Try.func48, Try.ntmps48
  go_wp2_with fail
  refine HM.out.mono ?_
  rintro e w' ⟨rfl, rfl⟩
  go_wp2_with fail
  go_ret
  exact ⟨rfl, rfl⟩
set_option maxHeartbeats 1000000 in
theorem nod_crash {w : World} {v k : Value} (h : NoD w v) : Calls Try.prog 33 #[v, k] w fun e w' => e = .returned (.int .i64 1) ∧ w = w' := by
  have HM := Lib.hid (nod_made h)
  clear h
  go_enter Try.func33, Try.ntmps33
  go_wp2_with fail
  refine HM.out.mono ?_
  rintro e w' ⟨rfl, rfl⟩
  go_wp2_with fail
  go_ret
  exact ⟨rfl, rfl⟩
set_option maxHeartbeats 1000000 in
theorem nod_write {w : World} {v k i : Value} (h : NoD w v) : Calls Try.prog 22 #[v, i, k] w fun e w' => e = .returned (.int .i64 1) ∧ w = w' := by
  have HM := Lib.hid (nod_made h)
  clear h
  go_enter Try.func22, Try.ntmps22
  go_wp2_with fail
  refine HM.out.mono ?_
  rintro e w' ⟨rfl, rfl⟩
  go_wp2_with fail
  go_ret
  exact ⟨rfl, rfl⟩
set_option maxHeartbeats 1000000 in
theorem nod_read {w : World} {v i : Value} (h : NoD w v) : Calls Try.prog 50 #[v, i] w fun e w' => e = .returned (.tuple #[.slice none 0 0, .int .i64 1]) ∧ w = w' := by
  have HM := Lib.hid (nod_made h)
  clear h
  go_enter Try.func50, Try.ntmps50
  go_wp2_with fail
  refine HM.out.mono ?_
  rintro e w' ⟨rfl, rfl⟩
  go_wp2_with fail
  go_ret2
  exact ⟨rfl, rfl⟩
set_option maxHeartbeats 1000000 in
theorem nod_copy {w : World} {v : Value} (h : NoD w v) : Calls Try.prog 54 #[v] w fun e w' => e = .returned (.pointer none) ∧ w = w' := by
  have HM := Lib.hid (nod_made h)
  clear h
  go_enter Try.func54, Try.ntmps54
  go_wp2_with fail
  refine HM.out.mono ?_
  rintro e w' ⟨rfl, rfl⟩
  go_wp2_with fail
  go_ret
  exact ⟨rfl, rfl⟩
set_option maxHeartbeats 1000000 in
theorem nod_fuse {w : World} {v : Value} {n : Int} (h : NoD w v) : Calls Try.prog 31 #[v, .int .i64 n] w fun e w' => e = .returned (.tuple #[]) ∧ w = w' := by
  have HM := Lib.hid (nod_made h)
  clear h
  go_enter Try.func31, Try.ntmps31
  go_wp2_with fail
  refine HM.out.mono ?_
  rintro e w' ⟨rfl, rfl⟩
  go_wp2_with fail
  exact ⟨rfl, .tuple #[], by simp [results, Try.results31, go_sem], rfl, rfl⟩
end Go.Proofs.Ytillckjohlbaiaa
