/- The document's body where the number that is needed is too great. -/
import Derived.Test.YtillckjohlbaiaaNbody

namespace Go.Proofs.Ytillckjohlbaiaa
set_option maxRecDepth 100000
open Go.RowKit

/-- A row of operations run as it stands: no call is entered, nothing goes out. -/
def runAll (P : Program) (ops : Array Oper) : List Oper → Act → World → Option (Act × World)
  | [], a, w => some (a, w)
  | o :: rest, a, w =>
    if Region.wanted o (yielded ops a.tmps) then
      match (execOp a.eval o).run P w with
      | .ok (.value v) w' => runAll P ops rest (a.put o.dst v) w'
      | _ => none
    else runAll P ops rest (a.put o.dst undef) w
theorem wpList_all {P : Program} {ops : Array Oper} {Q : Exit → Act → World → Prop} {rest : List Oper} {a : Act} {w : World} (a' : Act) (w' : World) (h : runAll P ops rest a w = some (a', w')) (hq : Q .normal a' w') : wpList P ops Q rest a w := by
  induction rest generalizing a w with
  | nil =>
    simp only [runAll, Option.some.injEq, Prod.mk.injEq] at h
    obtain ⟨rfl, rfl⟩ := h
    exact hq
  | cons o rest ih =>
    simp only [runAll] at h
    simp only [wpList]
    split at h
    · rename_i hw
      rw [if_pos hw]
      split at h
      · rename_i v w2 hr
        refine Or.inl ?_
        unfold Oper.wp
        rw [hr]
        exact ih h
      · cases h
    · rename_i hw
      rw [if_neg hw]
      exact ih h

set_option maxHeartbeats 2000000 in
theorem body4_F1 (a' : Option Addr) (len c : Nat) (X : List Nat) (hlen : 30 ≤ len) (hc : len ≤ c) (hv : 20 < g2 X 4) (w : World) (hs : Sl w (.slice a' len c) X) :
    Calls Try.prog 41 #[.slice a' len c, .int .i64 4, .int .i64 30] w fun e w' => e = .returned (.tuple #[.agg #[.string ⟨#[]⟩, .int .i64 0, .int .i64 0, .int .i64 0, .int .i64 0, .int .i64 0], .int .i64 15]) ∧ Below w.heap.size w w' := by
  have hi : (Try.prog.info? 25).map (·.size) = some 6 := by kernel_rfl
  have S0 := Lib.hid hs
  have B0 := Lib.hid (below1 w (.cells #[.string ⟨#[]⟩, .int .i64 0, .int .i64 0, .int .i64 0, .int .i64 0, .int .i64 0] 25))
  have N0 := Lib.hid (Has.new w (.cells #[.string ⟨#[]⟩, .int .i64 0, .int .i64 0, .int .i64 0, .int .i64 0, .int .i64 0] 25))
  have C8 : Hid (∀ W, Sl W (.slice a' len c) X → Calls Try.prog 79 #[.slice a' len c, .int .i64 8] W fun e w' => e = .returned (.int .i64 (g2 X 8)) ∧ Below W.heap.size W w') := Lib.hid (fun W hW => get2_any a' len c X 8 (by omega) hc W hW)
  have C14 : Hid (∀ W, Sl W (.slice a' len c) X → Calls Try.prog 43 #[.slice a' len c, .int .i64 14] W fun e w' => e = .returned (.int .i64 (g4 X 14)) ∧ Below W.heap.size W w') := Lib.hid (fun W hW => get4_any a' len c X 14 (by omega) hc W hW)
  have C18 : Hid (∀ W, Sl W (.slice a' len c) X → Calls Try.prog 43 #[.slice a' len c, .int .i64 18] W fun e w' => e = .returned (.int .i64 (g4 X 18)) ∧ Below W.heap.size W w') := Lib.hid (fun W hW => get4_any a' len c X 18 (by omega) hc W hW)
  have C22 : Hid (∀ W, Sl W (.slice a' len c) X → Calls Try.prog 43 #[.slice a' len c, .int .i64 22] W fun e w' => e = .returned (.int .i64 (g4 X 22)) ∧ Below W.heap.size W w') := Lib.hid (fun W hW => get4_any a' len c X 22 (by omega) hc W hW)
  have C26 : Hid (∀ W, Sl W (.slice a' len c) X → Calls Try.prog 79 #[.slice a' len c, .int .i64 26] W fun e w' => e = .returned (.int .i64 (g2 X 26)) ∧ Below W.heap.size W w') := Lib.hid (fun W hW => get2_any a' len c X 26 (by omega) hc W hW)
  have C4 : Hid (∀ W, Sl W (.slice a' len c) X → Calls Try.prog 79 #[.slice a' len c, .int .i64 4] W fun e w' => e = .returned (.int .i64 (g2 X 4)) ∧ Below W.heap.size W w') := Lib.hid (fun W hW => get2_any a' len c X 4 (by omega) hc W hW)
  generalize g2 X 8 = ym at *
  generalize g4 X 14 = ys at *
  generalize g4 X 18 = yp at *
  generalize g4 X 22 = yz at *
  generalize g2 X 26 = yn at *
  generalize g2 X 4 = yv at *
  have HV := Lib.hid hv
  clear hlen hc hs hv
  go_enter Try.func41, Try.ntmps41
  go_wp2_with fail
  refine (C8.out _ (S0.out.later B0.out)).mono ?_
  rintro e w1 ⟨rfl, h⟩
  have B1 := Lib.hid (B0.out.trans (h.mono B0.out.size))
  have N1 := Lib.hid (N0.out.later h)
  clear h C8 B0 N0
  go_wp2_with fail
  refine (C14.out _ (S0.out.later B1.out)).mono ?_
  rintro e w2 ⟨rfl, h⟩
  have B2 := Lib.hid (B1.out.trans (h.mono B1.out.size))
  have N2 := Lib.hid (N1.out.later h)
  clear h C14 B1 N1
  go_wp2_with fail
  refine (C18.out _ (S0.out.later B2.out)).mono ?_
  rintro e w3 ⟨rfl, h⟩
  have B3 := Lib.hid (B2.out.trans (h.mono B2.out.size))
  have N3 := Lib.hid (N2.out.later h)
  clear h C18 B2 N2
  go_wp2_with fail
  refine (C22.out _ (S0.out.later B3.out)).mono ?_
  rintro e w4 ⟨rfl, h⟩
  have B4 := Lib.hid (B3.out.trans (h.mono B3.out.size))
  have N4 := Lib.hid (N3.out.later h)
  clear h C22 B3 N3
  obtain ⟨w5, hw5⟩ : ∃ v, v = w4.alloc (.cells #[.string ⟨#[]⟩, .int .i64 ym, .int .i64 ys, .int .i64 yp, .int .i64 yz, .int .i64 0] 25) := ⟨_, rfl⟩
  have B5 := Lib.hid (show Below w.heap.size w w5 by rw [hw5]; exact B4.out.trans ((below1 w4 _).mono B4.out.size))
  have K5 := Lib.hid (show Has w5 w4.heap.size (.cells #[.string ⟨#[]⟩, .int .i64 ym, .int .i64 ys, .int .i64 yp, .int .i64 yz, .int .i64 0] 25) by rw [hw5]; exact Has.new w4 _)
  have N5 := Lib.hid (show Has w5 w.heap.size (.cells #[.string ⟨#[]⟩, .int .i64 0, .int .i64 0, .int .i64 0, .int .i64 0, .int .i64 0] 25) by rw [hw5]; exact N4.out.alloc _)
  have X5 := Lib.hid (show w.heap.size ≠ w4.heap.size from fun hh => by have := N4.out.lt; omega)
  have V5 := Lib.hid hw5
  have HX4 := Lib.hid (show w.heap.size ≤ w4.heap.size from B4.out.size)
  clear hw5 B4 N4
  go_wp2_with fail
  rw [← V5.out]
  clear V5
  refine (C26.out _ (S0.out.later B5.out)).mono ?_
  rintro e w6 ⟨rfl, h⟩
  have B6 := Lib.hid (B5.out.trans (h.mono B5.out.size))
  have N6 := Lib.hid (N5.out.later h)
  have K6 := Lib.hid (K5.out.later h)
  clear h C26 B5 N5 K5
  go_wp2_with fail
  refine (C4.out _ (S0.out.later B6.out)).mono ?_
  rintro e w7 ⟨rfl, h⟩
  have B7 := Lib.hid (B6.out.trans (h.mono B6.out.size))
  have N7 := Lib.hid (N6.out.later h)
  have K7 := Lib.hid (K6.out.later h)
  clear h C4 B6 N6 K6
  go_wp2_with (first | (refine wpList_val rfl (exec_gtr (.tmp 33) _ _ rfl yv 20 rfl rfl HV.out) ?_; simp only [Act.put, List.setIfInBounds_toArray, List.set_cons_zero, List.set_cons_succ]; refine wpList_all { tmps := #[Value.slice a' len c, .int .i64 4, .int .i64 30, undef, undef, undef, .pointer (some ⟨w.heap.size, 0, none⟩), .int .i64 0, .pointer (some ⟨w4.heap.size, 0, none⟩), .int .i64 yn, .slice a' len c, .int .i64 4, .int .i64 8, .int .i64 ym, .slice a' len c, .int .i64 4, .int .i64 14, .int .i64 ys, .slice a' len c, .int .i64 4, .int .i64 18, .int .i64 yp, .slice a' len c, .int .i64 4, .int .i64 22, .int .i64 yz, .agg #[.string ⟨#[]⟩, .int .i64 ym, .int .i64 ys, .int .i64 yp, .int .i64 yz, .int .i64 0], .slice a' len c, .int .i64 4, .int .i64 26, .int .i64 yn, .slice a' len c, .int .i64 4, .int .i64 yv, .bool true, .bool true, undef, undef, undef, undef, undef, .bool true, .bool true, undef, undef, undef, undef, undef, undef, undef, undef, .bool true, .bool true, undef, undef, .bool true, undef, undef, undef, undef, undef, undef, undef, undef, undef, undef, undef, undef, undef, undef, undef, undef, undef], defers := [] } w7 (by kernel_rfl) ?_) | (refine wpList_store_row rfl 25 (.tmp 6) (.tmp 56) rfl w.heap.size #[.string ⟨#[]⟩, .int .i64 0, .int .i64 0, .int .i64 0, .int .i64 0, .int .i64 0] rfl rfl 25 _ N7.out hi rfl (by simp [Value.oneCell']) ?_))
  refine bodyPost_ret (results_cell_t rfl _ _ w.heap.size 25 _ (0, 0) _ rfl (setRow_heap _ _ _ _ _ _ N7.out) Try.underlying25 rfl hi) rfl ⟨rfl, below_setRow B7.out (Nat.le_refl _) _⟩

set_option maxHeartbeats 2000000 in
theorem body6_F1 (a' : Option Addr) (len c : Nat) (X : List Nat) (hlen : 46 ≤ len) (hc : len ≤ c) (hv : 20 < g2 X 6) (w : World) (hs : Sl w (.slice a' len c) X) :
    Calls Try.prog 41 #[.slice a' len c, .int .i64 6, .int .i64 46] w fun e w' => e = .returned (.tuple #[.agg #[.string ⟨#[]⟩, .int .i64 0, .int .i64 0, .int .i64 0, .int .i64 0, .int .i64 0], .int .i64 15]) ∧ Below w.heap.size w w' := by
  have hi : (Try.prog.info? 25).map (·.size) = some 6 := by kernel_rfl
  have S0 := Lib.hid hs
  have B0 := Lib.hid (below1 w (.cells #[.string ⟨#[]⟩, .int .i64 0, .int .i64 0, .int .i64 0, .int .i64 0, .int .i64 0] 25))
  have N0 := Lib.hid (Has.new w (.cells #[.string ⟨#[]⟩, .int .i64 0, .int .i64 0, .int .i64 0, .int .i64 0, .int .i64 0] 25))
  have C10 : Hid (∀ W, Sl W (.slice a' len c) X → Calls Try.prog 79 #[.slice a' len c, .int .i64 10] W fun e w' => e = .returned (.int .i64 (g2 X 10)) ∧ Below W.heap.size W w') := Lib.hid (fun W hW => get2_any a' len c X 10 (by omega) hc W hW)
  have C16 : Hid (∀ W, Sl W (.slice a' len c) X → Calls Try.prog 43 #[.slice a' len c, .int .i64 16] W fun e w' => e = .returned (.int .i64 (g4 X 16)) ∧ Below W.heap.size W w') := Lib.hid (fun W hW => get4_any a' len c X 16 (by omega) hc W hW)
  have C20 : Hid (∀ W, Sl W (.slice a' len c) X → Calls Try.prog 43 #[.slice a' len c, .int .i64 20] W fun e w' => e = .returned (.int .i64 (g4 X 20)) ∧ Below W.heap.size W w') := Lib.hid (fun W hW => get4_any a' len c X 20 (by omega) hc W hW)
  have C24 : Hid (∀ W, Sl W (.slice a' len c) X → Calls Try.prog 43 #[.slice a' len c, .int .i64 24] W fun e w' => e = .returned (.int .i64 (g4 X 24)) ∧ Below W.heap.size W w') := Lib.hid (fun W hW => get4_any a' len c X 24 (by omega) hc W hW)
  have C28 : Hid (∀ W, Sl W (.slice a' len c) X → Calls Try.prog 79 #[.slice a' len c, .int .i64 28] W fun e w' => e = .returned (.int .i64 (g2 X 28)) ∧ Below W.heap.size W w') := Lib.hid (fun W hW => get2_any a' len c X 28 (by omega) hc W hW)
  have C6 : Hid (∀ W, Sl W (.slice a' len c) X → Calls Try.prog 79 #[.slice a' len c, .int .i64 6] W fun e w' => e = .returned (.int .i64 (g2 X 6)) ∧ Below W.heap.size W w') := Lib.hid (fun W hW => get2_any a' len c X 6 (by omega) hc W hW)
  generalize g2 X 10 = ym at *
  generalize g4 X 16 = ys at *
  generalize g4 X 20 = yp at *
  generalize g4 X 24 = yz at *
  generalize g2 X 28 = yn at *
  generalize g2 X 6 = yv at *
  have HV := Lib.hid hv
  clear hlen hc hs hv
  go_enter Try.func41, Try.ntmps41
  go_wp2_with fail
  refine (C10.out _ (S0.out.later B0.out)).mono ?_
  rintro e w1 ⟨rfl, h⟩
  have B1 := Lib.hid (B0.out.trans (h.mono B0.out.size))
  have N1 := Lib.hid (N0.out.later h)
  clear h C10 B0 N0
  go_wp2_with fail
  refine (C16.out _ (S0.out.later B1.out)).mono ?_
  rintro e w2 ⟨rfl, h⟩
  have B2 := Lib.hid (B1.out.trans (h.mono B1.out.size))
  have N2 := Lib.hid (N1.out.later h)
  clear h C16 B1 N1
  go_wp2_with fail
  refine (C20.out _ (S0.out.later B2.out)).mono ?_
  rintro e w3 ⟨rfl, h⟩
  have B3 := Lib.hid (B2.out.trans (h.mono B2.out.size))
  have N3 := Lib.hid (N2.out.later h)
  clear h C20 B2 N2
  go_wp2_with fail
  refine (C24.out _ (S0.out.later B3.out)).mono ?_
  rintro e w4 ⟨rfl, h⟩
  have B4 := Lib.hid (B3.out.trans (h.mono B3.out.size))
  have N4 := Lib.hid (N3.out.later h)
  clear h C24 B3 N3
  obtain ⟨w5, hw5⟩ : ∃ v, v = w4.alloc (.cells #[.string ⟨#[]⟩, .int .i64 ym, .int .i64 ys, .int .i64 yp, .int .i64 yz, .int .i64 0] 25) := ⟨_, rfl⟩
  have B5 := Lib.hid (show Below w.heap.size w w5 by rw [hw5]; exact B4.out.trans ((below1 w4 _).mono B4.out.size))
  have K5 := Lib.hid (show Has w5 w4.heap.size (.cells #[.string ⟨#[]⟩, .int .i64 ym, .int .i64 ys, .int .i64 yp, .int .i64 yz, .int .i64 0] 25) by rw [hw5]; exact Has.new w4 _)
  have N5 := Lib.hid (show Has w5 w.heap.size (.cells #[.string ⟨#[]⟩, .int .i64 0, .int .i64 0, .int .i64 0, .int .i64 0, .int .i64 0] 25) by rw [hw5]; exact N4.out.alloc _)
  have X5 := Lib.hid (show w.heap.size ≠ w4.heap.size from fun hh => by have := N4.out.lt; omega)
  have V5 := Lib.hid hw5
  have HX4 := Lib.hid (show w.heap.size ≤ w4.heap.size from B4.out.size)
  clear hw5 B4 N4
  go_wp2_with fail
  rw [← V5.out]
  clear V5
  refine (C28.out _ (S0.out.later B5.out)).mono ?_
  rintro e w6 ⟨rfl, h⟩
  have B6 := Lib.hid (B5.out.trans (h.mono B5.out.size))
  have N6 := Lib.hid (N5.out.later h)
  have K6 := Lib.hid (K5.out.later h)
  clear h C28 B5 N5 K5
  go_wp2_with fail
  refine (C6.out _ (S0.out.later B6.out)).mono ?_
  rintro e w7 ⟨rfl, h⟩
  have B7 := Lib.hid (B6.out.trans (h.mono B6.out.size))
  have N7 := Lib.hid (N6.out.later h)
  have K7 := Lib.hid (K6.out.later h)
  clear h C6 B6 N6 K6
  go_wp2_with (first | (refine wpList_val rfl (exec_gtr (.tmp 33) _ _ rfl yv 20 rfl rfl HV.out) ?_; simp only [Act.put, List.setIfInBounds_toArray, List.set_cons_zero, List.set_cons_succ]; refine wpList_all { tmps := #[Value.slice a' len c, .int .i64 6, .int .i64 46, undef, undef, undef, .pointer (some ⟨w.heap.size, 0, none⟩), .int .i64 0, .pointer (some ⟨w4.heap.size, 0, none⟩), .int .i64 yn, .slice a' len c, .int .i64 6, .int .i64 10, .int .i64 ym, .slice a' len c, .int .i64 6, .int .i64 16, .int .i64 ys, .slice a' len c, .int .i64 6, .int .i64 20, .int .i64 yp, .slice a' len c, .int .i64 6, .int .i64 24, .int .i64 yz, .agg #[.string ⟨#[]⟩, .int .i64 ym, .int .i64 ys, .int .i64 yp, .int .i64 yz, .int .i64 0], .slice a' len c, .int .i64 6, .int .i64 28, .int .i64 yn, .slice a' len c, .int .i64 6, .int .i64 yv, .bool true, .bool true, undef, undef, undef, undef, undef, .bool true, .bool true, undef, undef, undef, undef, undef, undef, undef, undef, .bool true, .bool true, undef, undef, .bool true, undef, undef, undef, undef, undef, undef, undef, undef, undef, undef, undef, undef, undef, undef, undef, undef, undef], defers := [] } w7 (by kernel_rfl) ?_) | (refine wpList_store_row rfl 25 (.tmp 6) (.tmp 56) rfl w.heap.size #[.string ⟨#[]⟩, .int .i64 0, .int .i64 0, .int .i64 0, .int .i64 0, .int .i64 0] rfl rfl 25 _ N7.out hi rfl (by simp [Value.oneCell']) ?_))
  refine bodyPost_ret (results_cell_t rfl _ _ w.heap.size 25 _ (0, 0) _ rfl (setRow_heap _ _ _ _ _ _ N7.out) Try.underlying25 rfl hi) rfl ⟨rfl, below_setRow B7.out (Nat.le_refl _) _⟩

end Go.Proofs.Ytillckjohlbaiaa
