/- Locks: of no locks, and of some that nothing made. -/
import Derived.Test.YtoipmdemicdhoaaQarg
import Derived.Maps.OwnSet

namespace Go.Proofs.Ytoipmdemicdhoaa
set_option maxRecDepth 100000
open Go.RowKit Go.Shelf Go.Maps

attribute [local go_sem] Oper.semAt_some

/-- Nothing answers. -/
structure NoL (w : World) (l : Value) (S : ByteArray) : Prop where
  check : ∀ who, Calls Try.prog 22 #[l, .int .i64 who] w fun e w' => e = .returned (.int .i64 1) ∧ w' = w
  look : Calls Try.prog 32 #[l, .string S] w fun e w' => e = .returned (.pointer none) ∧ w' = w
theorem NoL.nil (w : World) (S : ByteArray) : NoL w (.pointer none) S := by
  refine ⟨fun who => check_nil w who, ?_⟩
  go_enter Try.func32, Try.ntmps32
  go_wp2
  go_ret
  exact ⟨rfl, rfl⟩
theorem lookup_none (S : ByteArray) (hS : S.size ≤ maxLen) (w : World) : (Instr.lookup 49 (.map none) (.string S) false).run Try.prog w = .ok (.pointer none) w := by
  have hk : keyOf Try.prog 9 (.string S) = some (.string S.data.toList) := by simp [keyOf, Try.underlying9, mapKey, hS]
  exact Go.Maps.look_nil (z := .pointer none) false str_keyed Try.underlying49 rfl hk
theorem NoL.zero {w : World} {b : Nat} (h : w.cell? ⟨b, 0, none⟩ = some (.map none)) (S : ByteArray) (hS : S.size ≤ maxLen) : NoL w (.pointer (some ⟨b, 0, none⟩)) S := by
  refine ⟨fun who => check_zero w b who h, ?_⟩
  have L := lookup_none S hS
  go_enter Try.func32, Try.ntmps32
  go_wp2
  go_ret
  exact ⟨rfl, rfl⟩

set_option maxHeartbeats 1000000 in
theorem nil_ask (w : World) (l : Value) (S : ByteArray) (who : Int) (z : Bool) (h : NoL w l S) :
    Calls Try.prog 15 #[l, .int .i64 who, .string S, .bool z] w fun e w' => e = .returned (.tuple #[.bool false, .int .i64 1]) ∧ w' = w := by
  have HC := Lib.hid (h.check who)
  clear h
  go_enter Try.func15, Try.ntmps15
  go_wp2_with fail
  refine HC.out.mono ?_
  rintro e w' ⟨rfl, rfl⟩
  go_wp2
  go_ret2
  exact ⟨rfl, rfl⟩
set_option maxHeartbeats 1000000 in
theorem nil_free (w : World) (l : Value) (S : ByteArray) (who : Int) (h : NoL w l S) :
    Calls Try.prog 12 #[l, .int .i64 who, .string S] w fun e w' => e = .returned (.tuple #[.slice none 0 0, .int .i64 1]) ∧ w' = w := by
  have HC := Lib.hid (h.check who)
  clear h
  refine callsIn_wide (n := 9).1 ?_
  refine callsIn_of_wp_marks Try.func12 rfl trivial ?_ rfl
  simp only [Try.ntmps12, List.size_toArray, List.length_cons, List.length_nil, Nat.reduceAdd, Nat.reduceSub, Array.replicate_succ, Array.replicate_zero, List.push_toArray, List.append_toArray, List.nil_append, List.cons_append]
  gi_wp2_with fail
  refine ⟨trivial, (callsIn_wide.2 HC.out).mono ?_⟩
  rintro e w' ⟨rfl, rfl⟩
  gi_wp2
  exact ⟨.tuple #[.slice none 0 0, .int .i64 1], by simp [results, Try.results12, go_sem], rfl, rfl⟩
set_option maxHeartbeats 1000000 in
theorem nil_holds (w : World) (l : Value) (S : ByteArray) (h : NoL w l S) :
    Calls Try.prog 16 #[l, .string S] w fun e w' => e = .returned (.tuple #[.slice none 0 0, .bool false]) ∧ w' = w := by
  have HC := Lib.hid h.look
  clear h
  go_enter Try.func16, Try.ntmps16
  go_wp2_with fail
  refine HC.out.mono ?_
  rintro e w' ⟨rfl, rfl⟩
  go_wp2
  go_ret2
  exact ⟨rfl, rfl⟩
set_option maxHeartbeats 1000000 in
theorem nil_waits (w : World) (l : Value) (S : ByteArray) (h : NoL w l S) :
    Calls Try.prog 18 #[l, .string S] w fun e w' => e = .returned (.slice none 0 0) ∧ w' = w := by
  have HC := Lib.hid h.look
  clear h
  refine callsIn_wide (n := 9).1 ?_
  refine callsIn_of_wp_marks Try.func18 rfl trivial ?_ rfl
  simp only [Try.ntmps18, List.size_toArray, List.length_cons, List.length_nil, Nat.reduceAdd, Nat.reduceSub, Array.replicate_succ, Array.replicate_zero, List.push_toArray, List.append_toArray, List.nil_append, List.cons_append]
  gi_wp2_with fail
  refine ⟨trivial, (callsIn_wide.2 HC.out).mono ?_⟩
  rintro e w' ⟨rfl, rfl⟩
  gi_wp2
  exact ⟨.slice none 0 0, by simp [results, Try.results18, go_sem], rfl, rfl⟩

set_option maxHeartbeats 4000000 in
theorem locksNil_any (who : Int) (S : ByteArray) (z : Bool) (l : Value) (W w : World) (made : Bool) (hb : Below W.heap.size W w) (hN : NoL w l S) (hl : made = true ∧ l = .pointer (some ⟨W.heap.size, 0, none⟩) ∧ w = W.alloc (.cells #[.map none] 51) ∨ made = false ∧ l = .pointer none ∧ w = W) :
    Calls Try.prog 7 #[.int .i64 who, .string S, .bool z, .bool made] W fun e w' => e = .returned (.bool true) ∧ Below W.heap.size W w' := by
  have H1 := Lib.hid (nil_ask w l S who z hN)
  have H2 := Lib.hid (nil_free w l S who hN)
  have H3 := Lib.hid (nil_holds w l S hN)
  have H4 := Lib.hid (nil_waits w l S hN)
  have H5 := Lib.hid (lives18 w)
  have HB := Lib.hid hb
  clear hN hb
  rcases hl with ⟨rfl, rfl, hw⟩ | ⟨rfl, rfl, hw⟩
  all_goals
    have HW := Lib.hid hw
    clear hw
    go_enter Try.func7, Try.ntmps7
    go_wp2_with fail
    rw [← HW.out]
    refine H1.out.mono ?_
    rintro e w1 ⟨rfl, rfl⟩
    go_wp2_with fail
    refine H2.out.mono ?_
    rintro e w1 ⟨rfl, rfl⟩
    go_wp2_with fail
    refine H3.out.mono ?_
    rintro e w1 ⟨rfl, rfl⟩
    go_wp2_with fail
    refine H4.out.mono ?_
    rintro e w1 ⟨rfl, rfl⟩
    go_wp2_with fail
    refine H5.out.mono ?_
    rintro e w2 ⟨rfl, hb2⟩
    have HB2 := Lib.hid (HB.out.trans (hb2.mono HB.out.size))
    clear hb2
    go_wp2
    go_ret
    exact ⟨rfl, HB2.out⟩
end Go.Proofs.Ytoipmdemicdhoaa
