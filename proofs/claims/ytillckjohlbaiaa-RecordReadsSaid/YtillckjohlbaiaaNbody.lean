/- Contracts of the document's body. -/
import Derived.Test.YtillckjohlbaiaaNzero
import Derived.Test.YtillckjohlbaiaaNref2

namespace Go.Proofs.Ytillckjohlbaiaa
set_option maxRecDepth 100000
open Go.RowKit

theorem results_cell_t {P : Program} {fn : Func} {p s : Tmp} {ty : TypeId} (h : fn.results = #[.cell p ty, .tmp s]) (tmps : Array Value) (w : World) (g : Nat) (t : TypeId) (cs : Array Value) (fr : Nat × Nat) (d : TypeDesc)
    (hp : tmps.getD p undef = .pointer (some ⟨g, 0, none⟩)) (hg : w.heap[g]? = some (.cells cs t fr))
    (hu : P.underlying ty = some d) (hd : (match d with | .struct _ | .array _ _ => true | _ => false) = true) (hi : (P.info? ty).map (·.size) = some cs.size) :
    (results fn tmps).run P w = .ok (.tuple #[.agg cs, tmps.getD s undef]) w := by
  have hp' : tmps[p]?.getD undef = .pointer (some ⟨g, 0, none⟩) := by simpa using hp
  simp [results, h, hp', asAddr, run_loadVar_row w g t ty cs fr d hg hu hd hi]
theorem wpList_val {P : Program} {ops : Array Oper} {rest : List Oper} {o : Oper} {a : Act} {w w' : World} {v : Value} {Q : Exit → Act → World → Prop} (hg : o.guard = none) (h : (execOp a.eval o).run P w = .ok (.value v) w') (hn : wpList P ops Q rest (a.put o.dst v) w') : wpList P ops Q (o :: rest) a w :=
  wpList_plain hg fun K hK => by
    unfold Oper.wp
    rw [h]
    exact hK _ _ hn
theorem exec_gtr {o : Oper} {a : Act} {W : World} (x y : Operand) (t : TypeId) (ho : o.op = .binOp .gtr 3 x y t) (v k : Int) (hx : a.eval x = .int .i64 v) (hy : a.eval y = .int .i64 k) (h : k < v) : (execOp a.eval o).run Try.prog W = .ok (.value (.bool true)) W := by
  unfold execOp
  simp only [ho, hx, hy]
  simp [go_sem, h]

set_option maxHeartbeats 2000000 in
theorem body4_F2 (a' : Option Addr) (len c : Nat) (X : List Nat) (hlen : 30 ≤ len) (hc : len ≤ c) (hv : ¬ 20 < g2 X 4) (hu : ¬ g2 X 6 = 0) (w : World) (hs : Sl w (.slice a' len c) X) :
    Calls Try.prog 41 #[.slice a' len c, .int .i64 4, .int .i64 30] w fun e w' => e = .returned (.tuple #[.agg #[.string ⟨#[]⟩, .int .i64 0, .int .i64 0, .int .i64 0, .int .i64 0, .int .i64 0], .int .i64 15]) ∧ Below w.heap.size w w' := by
  have hi : (Try.prog.info? 25).map (·.size) = some 6 := by kernel_rfl
  have S0 := Lib.hid hs
  have B0 := Lib.hid (below1 w (.cells #[.string ⟨#[]⟩, .int .i64 0, .int .i64 0, .int .i64 0, .int .i64 0, .int .i64 0] 25))
  have N0 := Lib.hid (Has.new w (.cells #[.string ⟨#[]⟩, .int .i64 0, .int .i64 0, .int .i64 0, .int .i64 0, .int .i64 0] 25))
  have C8 : Hid (∀ W, Sl W (.slice a' len c) X → Calls Try.prog 79 #[.slice a' len c, .int .i64 8] W fun e w' => e = .returned (.int .i64 (g2 X 8)) ∧ Below W.heap.size W w') := Lib.hid (fun W hW => get2_any a' len c X 8 (by omega) hc W hW)
  have C14 : Hid (∀ W, Sl W (.slice a' len c) X → Calls Try.prog 43 #[.slice a' len c, .int .i64 14] W fun e w' => e = .returned (.int .i64 (g4 X 14)) ∧ Below W.heap.size W w') := Lib.hid (fun W hW => get4_any a' len c X 14 (by omega) hc W hW)
  have C18 : Hid (∀ W, Sl W (.slice a' len c) X → Calls Try.prog 43 #[.slice a' len c, .int .i64 18] W fun e w' => e = .returned (.int .i64 (g4 X 18)) ∧ Below W.heap.size W w') := Lib.hid (fun W hW => get4_any a' len c X 18 (by omega) hc W hW)
  have C22 : Hid (∀ W, Sl W (.slice a' len c) X → Calls Try.prog 43 #[.slice a' len c, .int .i64 22] W fun e w' => e = .returned (.int .i64 (g4 X 22)) ∧ Below W.heap.size W w') := Lib.hid (fun W hW => get4_any a' len c X 22 (by omega) hc W hW)
  have C26 : Hid (∀ W, Sl W (.slice a' len c) X → Calls Try.prog 79 #[.slice a' len c, .int .i64 26] W fun e w' => e = .returned (.int .i64 (g2 X 26)) ∧ Below W.heap.size W w') := Lib.hid (fun W hW => get2_any a' len c X 26 (by omega) hc W hW)
  have C4 : Hid (∀ W, Sl W (.slice a' len c) X → Calls Try.prog 79 #[.slice a' len c, .int .i64 4] W fun e w' => e = .returned (.int .i64 (g2 X 4)) ∧ Below W.heap.size W w') := Lib.hid (fun W hW => get2_any a' len c X 4 (by omega) hc W hW)
  have C6 : Hid (∀ W, Sl W (.slice a' len c) X → Calls Try.prog 79 #[.slice a' len c, .int .i64 6] W fun e w' => e = .returned (.int .i64 (g2 X 6)) ∧ Below W.heap.size W w') := Lib.hid (fun W hW => get2_any a' len c X 6 (by omega) hc W hW)
  generalize g2 X 8 = ym at *
  generalize g4 X 14 = ys at *
  generalize g4 X 18 = yp at *
  generalize g4 X 22 = yz at *
  generalize g2 X 26 = yn at *
  generalize g2 X 4 = yv at *
  generalize g2 X 6 = yu at *
  clear hlen hc hs
  go_enter Try.func41, Try.ntmps41
  go_wp2_with fail
  refine (C8.out _ (S0.out.later B0.out)).mono ?_
  rintro e w1 ⟨rfl, h⟩
  have B1 := Lib.hid (B0.out.trans (h.mono B0.out.size))
  have N1 := Lib.hid (N0.out.later h)
  clear h C8 B0 N0
  go_wp2_with fail
  refine (C14.out _ (S0.out.later B1.out)).mono ?_
  rintro e w2 ⟨rfl, h⟩
  have B2 := Lib.hid (B1.out.trans (h.mono B1.out.size))
  have N2 := Lib.hid (N1.out.later h)
  clear h C14 B1 N1
  go_wp2_with fail
  refine (C18.out _ (S0.out.later B2.out)).mono ?_
  rintro e w3 ⟨rfl, h⟩
  have B3 := Lib.hid (B2.out.trans (h.mono B2.out.size))
  have N3 := Lib.hid (N2.out.later h)
  clear h C18 B2 N2
  go_wp2_with fail
  refine (C22.out _ (S0.out.later B3.out)).mono ?_
  rintro e w4 ⟨rfl, h⟩
  have B4 := Lib.hid (B3.out.trans (h.mono B3.out.size))
  have N4 := Lib.hid (N3.out.later h)
  clear h C22 B3 N3
  obtain ⟨w5, hw5⟩ : ∃ v, v = w4.alloc (.cells #[.string ⟨#[]⟩, .int .i64 ym, .int .i64 ys, .int .i64 yp, .int .i64 yz, .int .i64 0] 25) := ⟨_, rfl⟩
  have B5 := Lib.hid (show Below w.heap.size w w5 by rw [hw5]; exact B4.out.trans ((below1 w4 _).mono B4.out.size))
  have K5 := Lib.hid (show Has w5 w4.heap.size (.cells #[.string ⟨#[]⟩, .int .i64 ym, .int .i64 ys, .int .i64 yp, .int .i64 yz, .int .i64 0] 25) by rw [hw5]; exact Has.new w4 _)
  have N5 := Lib.hid (show Has w5 w.heap.size (.cells #[.string ⟨#[]⟩, .int .i64 0, .int .i64 0, .int .i64 0, .int .i64 0, .int .i64 0] 25) by rw [hw5]; exact N4.out.alloc _)
  have X5 := Lib.hid (show w.heap.size ≠ w4.heap.size from fun hh => by have := N4.out.lt; omega)
  have V5 := Lib.hid hw5
  have HX4 := Lib.hid (show w.heap.size ≤ w4.heap.size from B4.out.size)
  clear hw5 B4 N4
  go_wp2_with fail
  rw [← V5.out]
  clear V5
  refine (C26.out _ (S0.out.later B5.out)).mono ?_
  rintro e w6 ⟨rfl, h⟩
  have B6 := Lib.hid (B5.out.trans (h.mono B5.out.size))
  have N6 := Lib.hid (N5.out.later h)
  have K6 := Lib.hid (K5.out.later h)
  clear h C26 B5 N5 K5
  go_wp2_with fail
  refine (C4.out _ (S0.out.later B6.out)).mono ?_
  rintro e w7 ⟨rfl, h⟩
  have B7 := Lib.hid (B6.out.trans (h.mono B6.out.size))
  have N7 := Lib.hid (N6.out.later h)
  have K7 := Lib.hid (K6.out.later h)
  clear h C4 B6 N6 K6
  go_wp2_with fail
  refine (C6.out _ (S0.out.later B7.out)).mono ?_
  rintro e w8 ⟨rfl, h⟩
  have B8 := Lib.hid (B7.out.trans (h.mono B7.out.size))
  have N8 := Lib.hid (N7.out.later h)
  have K8 := Lib.hid (K7.out.later h)
  clear h C6 B7 N7 K7
  go_wp2_with (first | (refine wpList_store_row rfl 25 (.tmp 6) (.tmp 56) rfl w.heap.size #[.string ⟨#[]⟩, .int .i64 0, .int .i64 0, .int .i64 0, .int .i64 0, .int .i64 0] rfl rfl 25 _ N8.out hi rfl (by simp [Value.oneCell']) ?_))
  refine bodyPost_ret (results_cell_t rfl _ _ w.heap.size 25 _ (0, 0) _ rfl (setRow_heap _ _ _ _ _ _ N8.out) Try.underlying25 rfl hi) rfl ⟨rfl, below_setRow B8.out (Nat.le_refl _) _⟩

set_option maxHeartbeats 2000000 in
theorem body4_F3 (a' : Option Addr) (len c : Nat) (X : List Nat) (hlen : 30 ≤ len) (hc : len ≤ c) (hm0 : ¬ g2 X 8 = 0) (hm8 : ¬ g2 X 8 = 8) (hv : ¬ 20 < g2 X 4) (hu : g2 X 6 = 0) (w : World) (hs : Sl w (.slice a' len c) X) :
    Calls Try.prog 41 #[.slice a' len c, .int .i64 4, .int .i64 30] w fun e w' => e = .returned (.tuple #[.agg #[.string ⟨#[]⟩, .int .i64 0, .int .i64 0, .int .i64 0, .int .i64 0, .int .i64 0], .int .i64 15]) ∧ Below w.heap.size w w' := by
  have hi : (Try.prog.info? 25).map (·.size) = some 6 := by kernel_rfl
  have S0 := Lib.hid hs
  have B0 := Lib.hid (below1 w (.cells #[.string ⟨#[]⟩, .int .i64 0, .int .i64 0, .int .i64 0, .int .i64 0, .int .i64 0] 25))
  have N0 := Lib.hid (Has.new w (.cells #[.string ⟨#[]⟩, .int .i64 0, .int .i64 0, .int .i64 0, .int .i64 0, .int .i64 0] 25))
  have C8 : Hid (∀ W, Sl W (.slice a' len c) X → Calls Try.prog 79 #[.slice a' len c, .int .i64 8] W fun e w' => e = .returned (.int .i64 (g2 X 8)) ∧ Below W.heap.size W w') := Lib.hid (fun W hW => get2_any a' len c X 8 (by omega) hc W hW)
  have C14 : Hid (∀ W, Sl W (.slice a' len c) X → Calls Try.prog 43 #[.slice a' len c, .int .i64 14] W fun e w' => e = .returned (.int .i64 (g4 X 14)) ∧ Below W.heap.size W w') := Lib.hid (fun W hW => get4_any a' len c X 14 (by omega) hc W hW)
  have C18 : Hid (∀ W, Sl W (.slice a' len c) X → Calls Try.prog 43 #[.slice a' len c, .int .i64 18] W fun e w' => e = .returned (.int .i64 (g4 X 18)) ∧ Below W.heap.size W w') := Lib.hid (fun W hW => get4_any a' len c X 18 (by omega) hc W hW)
  have C22 : Hid (∀ W, Sl W (.slice a' len c) X → Calls Try.prog 43 #[.slice a' len c, .int .i64 22] W fun e w' => e = .returned (.int .i64 (g4 X 22)) ∧ Below W.heap.size W w') := Lib.hid (fun W hW => get4_any a' len c X 22 (by omega) hc W hW)
  have C26 : Hid (∀ W, Sl W (.slice a' len c) X → Calls Try.prog 79 #[.slice a' len c, .int .i64 26] W fun e w' => e = .returned (.int .i64 (g2 X 26)) ∧ Below W.heap.size W w') := Lib.hid (fun W hW => get2_any a' len c X 26 (by omega) hc W hW)
  have C4 : Hid (∀ W, Sl W (.slice a' len c) X → Calls Try.prog 79 #[.slice a' len c, .int .i64 4] W fun e w' => e = .returned (.int .i64 (g2 X 4)) ∧ Below W.heap.size W w') := Lib.hid (fun W hW => get2_any a' len c X 4 (by omega) hc W hW)
  have C6 : Hid (∀ W, Sl W (.slice a' len c) X → Calls Try.prog 79 #[.slice a' len c, .int .i64 6] W fun e w' => e = .returned (.int .i64 (g2 X 6)) ∧ Below W.heap.size W w') := Lib.hid (fun W hW => get2_any a' len c X 6 (by omega) hc W hW)
  rw [hu] at C6
  generalize g2 X 8 = ym at *
  generalize g4 X 14 = ys at *
  generalize g4 X 18 = yp at *
  generalize g4 X 22 = yz at *
  generalize g2 X 26 = yn at *
  generalize g2 X 4 = yv at *
  clear hlen hc hs hu
  go_enter Try.func41, Try.ntmps41
  go_wp2_with fail
  refine (C8.out _ (S0.out.later B0.out)).mono ?_
  rintro e w1 ⟨rfl, h⟩
  have B1 := Lib.hid (B0.out.trans (h.mono B0.out.size))
  have N1 := Lib.hid (N0.out.later h)
  clear h C8 B0 N0
  go_wp2_with fail
  refine (C14.out _ (S0.out.later B1.out)).mono ?_
  rintro e w2 ⟨rfl, h⟩
  have B2 := Lib.hid (B1.out.trans (h.mono B1.out.size))
  have N2 := Lib.hid (N1.out.later h)
  clear h C14 B1 N1
  go_wp2_with fail
  refine (C18.out _ (S0.out.later B2.out)).mono ?_
  rintro e w3 ⟨rfl, h⟩
  have B3 := Lib.hid (B2.out.trans (h.mono B2.out.size))
  have N3 := Lib.hid (N2.out.later h)
  clear h C18 B2 N2
  go_wp2_with fail
  refine (C22.out _ (S0.out.later B3.out)).mono ?_
  rintro e w4 ⟨rfl, h⟩
  have B4 := Lib.hid (B3.out.trans (h.mono B3.out.size))
  have N4 := Lib.hid (N3.out.later h)
  clear h C22 B3 N3
  obtain ⟨w5, hw5⟩ : ∃ v, v = w4.alloc (.cells #[.string ⟨#[]⟩, .int .i64 ym, .int .i64 ys, .int .i64 yp, .int .i64 yz, .int .i64 0] 25) := ⟨_, rfl⟩
  have B5 := Lib.hid (show Below w.heap.size w w5 by rw [hw5]; exact B4.out.trans ((below1 w4 _).mono B4.out.size))
  have K5 := Lib.hid (show Has w5 w4.heap.size (.cells #[.string ⟨#[]⟩, .int .i64 ym, .int .i64 ys, .int .i64 yp, .int .i64 yz, .int .i64 0] 25) by rw [hw5]; exact Has.new w4 _)
  have N5 := Lib.hid (show Has w5 w.heap.size (.cells #[.string ⟨#[]⟩, .int .i64 0, .int .i64 0, .int .i64 0, .int .i64 0, .int .i64 0] 25) by rw [hw5]; exact N4.out.alloc _)
  have X5 := Lib.hid (show w.heap.size ≠ w4.heap.size from fun hh => by have := N4.out.lt; omega)
  have V5 := Lib.hid hw5
  have HX4 := Lib.hid (show w.heap.size ≤ w4.heap.size from B4.out.size)
  clear hw5 B4 N4
  go_wp2_with fail
  rw [← V5.out]
  clear V5
  refine (C26.out _ (S0.out.later B5.out)).mono ?_
  rintro e w6 ⟨rfl, h⟩
  have B6 := Lib.hid (B5.out.trans (h.mono B5.out.size))
  have N6 := Lib.hid (N5.out.later h)
  have K6 := Lib.hid (K5.out.later h)
  clear h C26 B5 N5 K5
  go_wp2_with fail
  refine (C4.out _ (S0.out.later B6.out)).mono ?_
  rintro e w7 ⟨rfl, h⟩
  have B7 := Lib.hid (B6.out.trans (h.mono B6.out.size))
  have N7 := Lib.hid (N6.out.later h)
  have K7 := Lib.hid (K6.out.later h)
  clear h C4 B6 N6 K6
  go_wp2_with fail
  refine (C6.out _ (S0.out.later B7.out)).mono ?_
  rintro e w8 ⟨rfl, h⟩
  have B8 := Lib.hid (B7.out.trans (h.mono B7.out.size))
  have N8 := Lib.hid (N7.out.later h)
  have K8 := Lib.hid (K7.out.later h)
  clear h C6 B7 N7 K7
  have q1 := (K8.out.cell 1 : _ = some (Value.int .i64 ym))
  go_wp2_with (first | (refine wpList_store_row rfl 25 (.tmp 6) (.tmp 56) rfl w.heap.size #[.string ⟨#[]⟩, .int .i64 0, .int .i64 0, .int .i64 0, .int .i64 0, .int .i64 0] rfl rfl 25 _ N8.out hi rfl (by simp [Value.oneCell']) ?_))
  refine bodyPost_ret (results_cell_t rfl _ _ w.heap.size 25 _ (0, 0) _ rfl (setRow_heap _ _ _ _ _ _ N8.out) Try.underlying25 rfl hi) rfl ⟨rfl, below_setRow B8.out (Nat.le_refl _) _⟩

set_option maxHeartbeats 2000000 in
theorem body4_F40 (a' : Option Addr) (len c : Nat) (X : List Nat) (hlen : 30 ≤ len) (hc : len ≤ c) (hm : g2 X 8 = 0) (hv : ¬ 20 < g2 X 4) (hu : g2 X 6 = 0) (hn : g2 X 26 = 0) (w : World) (hs : Sl w (.slice a' len c) X) :
    Calls Try.prog 41 #[.slice a' len c, .int .i64 4, .int .i64 30] w fun e w' => e = .returned (.tuple #[.agg #[.string ⟨#[]⟩, .int .i64 0, .int .i64 0, .int .i64 0, .int .i64 0, .int .i64 0], .int .i64 15]) ∧ Below w.heap.size w w' := by
  have hi : (Try.prog.info? 25).map (·.size) = some 6 := by kernel_rfl
  have S0 := Lib.hid hs
  have B0 := Lib.hid (below1 w (.cells #[.string ⟨#[]⟩, .int .i64 0, .int .i64 0, .int .i64 0, .int .i64 0, .int .i64 0] 25))
  have N0 := Lib.hid (Has.new w (.cells #[.string ⟨#[]⟩, .int .i64 0, .int .i64 0, .int .i64 0, .int .i64 0, .int .i64 0] 25))
  have C8 : Hid (∀ W, Sl W (.slice a' len c) X → Calls Try.prog 79 #[.slice a' len c, .int .i64 8] W fun e w' => e = .returned (.int .i64 (g2 X 8)) ∧ Below W.heap.size W w') := Lib.hid (fun W hW => get2_any a' len c X 8 (by omega) hc W hW)
  have C14 : Hid (∀ W, Sl W (.slice a' len c) X → Calls Try.prog 43 #[.slice a' len c, .int .i64 14] W fun e w' => e = .returned (.int .i64 (g4 X 14)) ∧ Below W.heap.size W w') := Lib.hid (fun W hW => get4_any a' len c X 14 (by omega) hc W hW)
  have C18 : Hid (∀ W, Sl W (.slice a' len c) X → Calls Try.prog 43 #[.slice a' len c, .int .i64 18] W fun e w' => e = .returned (.int .i64 (g4 X 18)) ∧ Below W.heap.size W w') := Lib.hid (fun W hW => get4_any a' len c X 18 (by omega) hc W hW)
  have C22 : Hid (∀ W, Sl W (.slice a' len c) X → Calls Try.prog 43 #[.slice a' len c, .int .i64 22] W fun e w' => e = .returned (.int .i64 (g4 X 22)) ∧ Below W.heap.size W w') := Lib.hid (fun W hW => get4_any a' len c X 22 (by omega) hc W hW)
  have C26 : Hid (∀ W, Sl W (.slice a' len c) X → Calls Try.prog 79 #[.slice a' len c, .int .i64 26] W fun e w' => e = .returned (.int .i64 (g2 X 26)) ∧ Below W.heap.size W w') := Lib.hid (fun W hW => get2_any a' len c X 26 (by omega) hc W hW)
  have C4 : Hid (∀ W, Sl W (.slice a' len c) X → Calls Try.prog 79 #[.slice a' len c, .int .i64 4] W fun e w' => e = .returned (.int .i64 (g2 X 4)) ∧ Below W.heap.size W w') := Lib.hid (fun W hW => get2_any a' len c X 4 (by omega) hc W hW)
  have C6 : Hid (∀ W, Sl W (.slice a' len c) X → Calls Try.prog 79 #[.slice a' len c, .int .i64 6] W fun e w' => e = .returned (.int .i64 (g2 X 6)) ∧ Below W.heap.size W w') := Lib.hid (fun W hW => get2_any a' len c X 6 (by omega) hc W hW)
  rw [hm] at C8
  rw [hu] at C6
  rw [hn] at C26
  generalize g4 X 14 = ys at *
  generalize g4 X 18 = yp at *
  generalize g4 X 22 = yz at *
  generalize g2 X 4 = yv at *
  clear hlen hc hs hm hu hn
  go_enter Try.func41, Try.ntmps41
  go_wp2_with fail
  refine (C8.out _ (S0.out.later B0.out)).mono ?_
  rintro e w1 ⟨rfl, h⟩
  have B1 := Lib.hid (B0.out.trans (h.mono B0.out.size))
  have N1 := Lib.hid (N0.out.later h)
  clear h C8 B0 N0
  go_wp2_with fail
  refine (C14.out _ (S0.out.later B1.out)).mono ?_
  rintro e w2 ⟨rfl, h⟩
  have B2 := Lib.hid (B1.out.trans (h.mono B1.out.size))
  have N2 := Lib.hid (N1.out.later h)
  clear h C14 B1 N1
  go_wp2_with fail
  refine (C18.out _ (S0.out.later B2.out)).mono ?_
  rintro e w3 ⟨rfl, h⟩
  have B3 := Lib.hid (B2.out.trans (h.mono B2.out.size))
  have N3 := Lib.hid (N2.out.later h)
  clear h C18 B2 N2
  go_wp2_with fail
  refine (C22.out _ (S0.out.later B3.out)).mono ?_
  rintro e w4 ⟨rfl, h⟩
  have B4 := Lib.hid (B3.out.trans (h.mono B3.out.size))
  have N4 := Lib.hid (N3.out.later h)
  clear h C22 B3 N3
  obtain ⟨w5, hw5⟩ : ∃ v, v = w4.alloc (.cells #[.string ⟨#[]⟩, .int .i64 0, .int .i64 ys, .int .i64 yp, .int .i64 yz, .int .i64 0] 25) := ⟨_, rfl⟩
  have B5 := Lib.hid (show Below w.heap.size w w5 by rw [hw5]; exact B4.out.trans ((below1 w4 _).mono B4.out.size))
  have K5 := Lib.hid (show Has w5 w4.heap.size (.cells #[.string ⟨#[]⟩, .int .i64 0, .int .i64 ys, .int .i64 yp, .int .i64 yz, .int .i64 0] 25) by rw [hw5]; exact Has.new w4 _)
  have N5 := Lib.hid (show Has w5 w.heap.size (.cells #[.string ⟨#[]⟩, .int .i64 0, .int .i64 0, .int .i64 0, .int .i64 0, .int .i64 0] 25) by rw [hw5]; exact N4.out.alloc _)
  have X5 := Lib.hid (show w.heap.size ≠ w4.heap.size from fun hh => by have := N4.out.lt; omega)
  have V5 := Lib.hid hw5
  have HX4 := Lib.hid (show w.heap.size ≤ w4.heap.size from B4.out.size)
  clear hw5 B4 N4
  go_wp2_with fail
  rw [← V5.out]
  clear V5
  refine (C26.out _ (S0.out.later B5.out)).mono ?_
  rintro e w6 ⟨rfl, h⟩
  have B6 := Lib.hid (B5.out.trans (h.mono B5.out.size))
  have N6 := Lib.hid (N5.out.later h)
  have K6 := Lib.hid (K5.out.later h)
  clear h C26 B5 N5 K5
  go_wp2_with fail
  refine (C4.out _ (S0.out.later B6.out)).mono ?_
  rintro e w7 ⟨rfl, h⟩
  have B7 := Lib.hid (B6.out.trans (h.mono B6.out.size))
  have N7 := Lib.hid (N6.out.later h)
  have K7 := Lib.hid (K6.out.later h)
  clear h C4 B6 N6 K6
  go_wp2_with fail
  refine (C6.out _ (S0.out.later B7.out)).mono ?_
  rintro e w8 ⟨rfl, h⟩
  have B8 := Lib.hid (B7.out.trans (h.mono B7.out.size))
  have N8 := Lib.hid (N7.out.later h)
  have K8 := Lib.hid (K7.out.later h)
  clear h C6 B7 N7 K7
  have q1 := (K8.out.cell 1 : _ = some (Value.int .i64 0))
  go_wp2_with (first | (refine wpList_store_row rfl 25 (.tmp 6) (.tmp 56) rfl w.heap.size #[.string ⟨#[]⟩, .int .i64 0, .int .i64 0, .int .i64 0, .int .i64 0, .int .i64 0] rfl rfl 25 _ N8.out hi rfl (by simp [Value.oneCell']) ?_))
  refine bodyPost_ret (results_cell_t rfl _ _ w.heap.size 25 _ (0, 0) _ rfl (setRow_heap _ _ _ _ _ _ N8.out) Try.underlying25 rfl hi) rfl ⟨rfl, below_setRow B8.out (Nat.le_refl _) _⟩

set_option maxHeartbeats 2000000 in
theorem body4_F48 (a' : Option Addr) (len c : Nat) (X : List Nat) (hlen : 30 ≤ len) (hc : len ≤ c) (hm : g2 X 8 = 8) (hv : ¬ 20 < g2 X 4) (hu : g2 X 6 = 0) (hn : g2 X 26 = 0) (w : World) (hs : Sl w (.slice a' len c) X) :
    Calls Try.prog 41 #[.slice a' len c, .int .i64 4, .int .i64 30] w fun e w' => e = .returned (.tuple #[.agg #[.string ⟨#[]⟩, .int .i64 0, .int .i64 0, .int .i64 0, .int .i64 0, .int .i64 0], .int .i64 15]) ∧ Below w.heap.size w w' := by
  have hi : (Try.prog.info? 25).map (·.size) = some 6 := by kernel_rfl
  have S0 := Lib.hid hs
  have B0 := Lib.hid (below1 w (.cells #[.string ⟨#[]⟩, .int .i64 0, .int .i64 0, .int .i64 0, .int .i64 0, .int .i64 0] 25))
  have N0 := Lib.hid (Has.new w (.cells #[.string ⟨#[]⟩, .int .i64 0, .int .i64 0, .int .i64 0, .int .i64 0, .int .i64 0] 25))
  have C8 : Hid (∀ W, Sl W (.slice a' len c) X → Calls Try.prog 79 #[.slice a' len c, .int .i64 8] W fun e w' => e = .returned (.int .i64 (g2 X 8)) ∧ Below W.heap.size W w') := Lib.hid (fun W hW => get2_any a' len c X 8 (by omega) hc W hW)
  have C14 : Hid (∀ W, Sl W (.slice a' len c) X → Calls Try.prog 43 #[.slice a' len c, .int .i64 14] W fun e w' => e = .returned (.int .i64 (g4 X 14)) ∧ Below W.heap.size W w') := Lib.hid (fun W hW => get4_any a' len c X 14 (by omega) hc W hW)
  have C18 : Hid (∀ W, Sl W (.slice a' len c) X → Calls Try.prog 43 #[.slice a' len c, .int .i64 18] W fun e w' => e = .returned (.int .i64 (g4 X 18)) ∧ Below W.heap.size W w') := Lib.hid (fun W hW => get4_any a' len c X 18 (by omega) hc W hW)
  have C22 : Hid (∀ W, Sl W (.slice a' len c) X → Calls Try.prog 43 #[.slice a' len c, .int .i64 22] W fun e w' => e = .returned (.int .i64 (g4 X 22)) ∧ Below W.heap.size W w') := Lib.hid (fun W hW => get4_any a' len c X 22 (by omega) hc W hW)
  have C26 : Hid (∀ W, Sl W (.slice a' len c) X → Calls Try.prog 79 #[.slice a' len c, .int .i64 26] W fun e w' => e = .returned (.int .i64 (g2 X 26)) ∧ Below W.heap.size W w') := Lib.hid (fun W hW => get2_any a' len c X 26 (by omega) hc W hW)
  have C4 : Hid (∀ W, Sl W (.slice a' len c) X → Calls Try.prog 79 #[.slice a' len c, .int .i64 4] W fun e w' => e = .returned (.int .i64 (g2 X 4)) ∧ Below W.heap.size W w') := Lib.hid (fun W hW => get2_any a' len c X 4 (by omega) hc W hW)
  have C6 : Hid (∀ W, Sl W (.slice a' len c) X → Calls Try.prog 79 #[.slice a' len c, .int .i64 6] W fun e w' => e = .returned (.int .i64 (g2 X 6)) ∧ Below W.heap.size W w') := Lib.hid (fun W hW => get2_any a' len c X 6 (by omega) hc W hW)
  rw [hm] at C8
  rw [hu] at C6
  rw [hn] at C26
  generalize g4 X 14 = ys at *
  generalize g4 X 18 = yp at *
  generalize g4 X 22 = yz at *
  generalize g2 X 4 = yv at *
  clear hlen hc hs hm hu hn
  go_enter Try.func41, Try.ntmps41
  go_wp2_with fail
  refine (C8.out _ (S0.out.later B0.out)).mono ?_
  rintro e w1 ⟨rfl, h⟩
  have B1 := Lib.hid (B0.out.trans (h.mono B0.out.size))
  have N1 := Lib.hid (N0.out.later h)
  clear h C8 B0 N0
  go_wp2_with fail
  refine (C14.out _ (S0.out.later B1.out)).mono ?_
  rintro e w2 ⟨rfl, h⟩
  have B2 := Lib.hid (B1.out.trans (h.mono B1.out.size))
  have N2 := Lib.hid (N1.out.later h)
  clear h C14 B1 N1
  go_wp2_with fail
  refine (C18.out _ (S0.out.later B2.out)).mono ?_
  rintro e w3 ⟨rfl, h⟩
  have B3 := Lib.hid (B2.out.trans (h.mono B2.out.size))
  have N3 := Lib.hid (N2.out.later h)
  clear h C18 B2 N2
  go_wp2_with fail
  refine (C22.out _ (S0.out.later B3.out)).mono ?_
  rintro e w4 ⟨rfl, h⟩
  have B4 := Lib.hid (B3.out.trans (h.mono B3.out.size))
  have N4 := Lib.hid (N3.out.later h)
  clear h C22 B3 N3
  obtain ⟨w5, hw5⟩ : ∃ v, v = w4.alloc (.cells #[.string ⟨#[]⟩, .int .i64 8, .int .i64 ys, .int .i64 yp, .int .i64 yz, .int .i64 0] 25) := ⟨_, rfl⟩
  have B5 := Lib.hid (show Below w.heap.size w w5 by rw [hw5]; exact B4.out.trans ((below1 w4 _).mono B4.out.size))
  have K5 := Lib.hid (show Has w5 w4.heap.size (.cells #[.string ⟨#[]⟩, .int .i64 8, .int .i64 ys, .int .i64 yp, .int .i64 yz, .int .i64 0] 25) by rw [hw5]; exact Has.new w4 _)
  have N5 := Lib.hid (show Has w5 w.heap.size (.cells #[.string ⟨#[]⟩, .int .i64 0, .int .i64 0, .int .i64 0, .int .i64 0, .int .i64 0] 25) by rw [hw5]; exact N4.out.alloc _)
  have X5 := Lib.hid (show w.heap.size ≠ w4.heap.size from fun hh => by have := N4.out.lt; omega)
  have V5 := Lib.hid hw5
  have HX4 := Lib.hid (show w.heap.size ≤ w4.heap.size from B4.out.size)
  clear hw5 B4 N4
  go_wp2_with fail
  rw [← V5.out]
  clear V5
  refine (C26.out _ (S0.out.later B5.out)).mono ?_
  rintro e w6 ⟨rfl, h⟩
  have B6 := Lib.hid (B5.out.trans (h.mono B5.out.size))
  have N6 := Lib.hid (N5.out.later h)
  have K6 := Lib.hid (K5.out.later h)
  clear h C26 B5 N5 K5
  go_wp2_with fail
  refine (C4.out _ (S0.out.later B6.out)).mono ?_
  rintro e w7 ⟨rfl, h⟩
  have B7 := Lib.hid (B6.out.trans (h.mono B6.out.size))
  have N7 := Lib.hid (N6.out.later h)
  have K7 := Lib.hid (K6.out.later h)
  clear h C4 B6 N6 K6
  go_wp2_with fail
  refine (C6.out _ (S0.out.later B7.out)).mono ?_
  rintro e w8 ⟨rfl, h⟩
  have B8 := Lib.hid (B7.out.trans (h.mono B7.out.size))
  have N8 := Lib.hid (N7.out.later h)
  have K8 := Lib.hid (K7.out.later h)
  clear h C6 B7 N7 K7
  have q1 := (K8.out.cell 1 : _ = some (Value.int .i64 8))
  go_wp2_with (first | (refine wpList_store_row rfl 25 (.tmp 6) (.tmp 56) rfl w.heap.size #[.string ⟨#[]⟩, .int .i64 0, .int .i64 0, .int .i64 0, .int .i64 0, .int .i64 0] rfl rfl 25 _ N8.out hi rfl (by simp [Value.oneCell']) ?_))
  refine bodyPost_ret (results_cell_t rfl _ _ w.heap.size 25 _ (0, 0) _ rfl (setRow_heap _ _ _ _ _ _ N8.out) Try.underlying25 rfl hi) rfl ⟨rfl, below_setRow B8.out (Nat.le_refl _) _⟩

set_option maxHeartbeats 2000000 in
theorem body4_S0 (a' : Option Addr) (len c : Nat) (X : List Nat) (hlen : 30 ≤ len) (hc : len ≤ c) (hm : g2 X 8 = 0) (hv : ¬ 20 < g2 X 4) (hu : g2 X 6 = 0) (nn : Nat) (hn : g2 X 26 = (nn : Int)) (_ : nn ≠ 0) (_ : nn ≤ 65535) (hlt : len < 30 + nn) (w : World) (hs : Sl w (.slice a' len c) X) :
    Calls Try.prog 41 #[.slice a' len c, .int .i64 4, .int .i64 30] w fun e w' => e = .returned (.tuple #[.agg #[.string ⟨#[]⟩, .int .i64 0, .int .i64 0, .int .i64 0, .int .i64 0, .int .i64 0], .int .i64 4]) ∧ Below w.heap.size w w' := by
  have hi : (Try.prog.info? 25).map (·.size) = some 6 := by kernel_rfl
  have S0 := Lib.hid hs
  have B0 := Lib.hid (below1 w (.cells #[.string ⟨#[]⟩, .int .i64 0, .int .i64 0, .int .i64 0, .int .i64 0, .int .i64 0] 25))
  have N0 := Lib.hid (Has.new w (.cells #[.string ⟨#[]⟩, .int .i64 0, .int .i64 0, .int .i64 0, .int .i64 0, .int .i64 0] 25))
  have C8 : Hid (∀ W, Sl W (.slice a' len c) X → Calls Try.prog 79 #[.slice a' len c, .int .i64 8] W fun e w' => e = .returned (.int .i64 (g2 X 8)) ∧ Below W.heap.size W w') := Lib.hid (fun W hW => get2_any a' len c X 8 (by omega) hc W hW)
  have C14 : Hid (∀ W, Sl W (.slice a' len c) X → Calls Try.prog 43 #[.slice a' len c, .int .i64 14] W fun e w' => e = .returned (.int .i64 (g4 X 14)) ∧ Below W.heap.size W w') := Lib.hid (fun W hW => get4_any a' len c X 14 (by omega) hc W hW)
  have C18 : Hid (∀ W, Sl W (.slice a' len c) X → Calls Try.prog 43 #[.slice a' len c, .int .i64 18] W fun e w' => e = .returned (.int .i64 (g4 X 18)) ∧ Below W.heap.size W w') := Lib.hid (fun W hW => get4_any a' len c X 18 (by omega) hc W hW)
  have C22 : Hid (∀ W, Sl W (.slice a' len c) X → Calls Try.prog 43 #[.slice a' len c, .int .i64 22] W fun e w' => e = .returned (.int .i64 (g4 X 22)) ∧ Below W.heap.size W w') := Lib.hid (fun W hW => get4_any a' len c X 22 (by omega) hc W hW)
  have C26 : Hid (∀ W, Sl W (.slice a' len c) X → Calls Try.prog 79 #[.slice a' len c, .int .i64 26] W fun e w' => e = .returned (.int .i64 (g2 X 26)) ∧ Below W.heap.size W w') := Lib.hid (fun W hW => get2_any a' len c X 26 (by omega) hc W hW)
  have C4 : Hid (∀ W, Sl W (.slice a' len c) X → Calls Try.prog 79 #[.slice a' len c, .int .i64 4] W fun e w' => e = .returned (.int .i64 (g2 X 4)) ∧ Below W.heap.size W w') := Lib.hid (fun W hW => get2_any a' len c X 4 (by omega) hc W hW)
  have C6 : Hid (∀ W, Sl W (.slice a' len c) X → Calls Try.prog 79 #[.slice a' len c, .int .i64 6] W fun e w' => e = .returned (.int .i64 (g2 X 6)) ∧ Below W.heap.size W w') := Lib.hid (fun W hW => get2_any a' len c X 6 (by omega) hc W hW)
  rw [hm] at C8
  rw [hu] at C6
  rw [hn] at C26
  obtain ⟨q, hq⟩ : ∃ q, q = 30 + nn := ⟨_, rfl⟩
  have hw : IntKind.i64.wrap (30 + (nn : Int)) = (q : Int) := by rw [IntWalk.i64_in _ (by omega)]; omega
  have z0 : ((nn : Int) == 0) = false := by rw [beq_eq_false_iff_ne]; omega
  have l1 : (len : Int) < (q : Int) := by omega
  generalize g4 X 14 = ys at *
  generalize g4 X 18 = yp at *
  generalize g4 X 22 = yz at *
  generalize g2 X 4 = yv at *
  clear hlen hc hs hq hlt hm hu hn
  go_enter Try.func41, Try.ntmps41
  go_wp2_with fail
  refine (C8.out _ (S0.out.later B0.out)).mono ?_
  rintro e w1 ⟨rfl, h⟩
  have B1 := Lib.hid (B0.out.trans (h.mono B0.out.size))
  have N1 := Lib.hid (N0.out.later h)
  clear h C8 B0 N0
  go_wp2_with fail
  refine (C14.out _ (S0.out.later B1.out)).mono ?_
  rintro e w2 ⟨rfl, h⟩
  have B2 := Lib.hid (B1.out.trans (h.mono B1.out.size))
  have N2 := Lib.hid (N1.out.later h)
  clear h C14 B1 N1
  go_wp2_with fail
  refine (C18.out _ (S0.out.later B2.out)).mono ?_
  rintro e w3 ⟨rfl, h⟩
  have B3 := Lib.hid (B2.out.trans (h.mono B2.out.size))
  have N3 := Lib.hid (N2.out.later h)
  clear h C18 B2 N2
  go_wp2_with fail
  refine (C22.out _ (S0.out.later B3.out)).mono ?_
  rintro e w4 ⟨rfl, h⟩
  have B4 := Lib.hid (B3.out.trans (h.mono B3.out.size))
  have N4 := Lib.hid (N3.out.later h)
  clear h C22 B3 N3
  obtain ⟨w5, hw5⟩ : ∃ v, v = w4.alloc (.cells #[.string ⟨#[]⟩, .int .i64 0, .int .i64 ys, .int .i64 yp, .int .i64 yz, .int .i64 0] 25) := ⟨_, rfl⟩
  have B5 := Lib.hid (show Below w.heap.size w w5 by rw [hw5]; exact B4.out.trans ((below1 w4 _).mono B4.out.size))
  have K5 := Lib.hid (show Has w5 w4.heap.size (.cells #[.string ⟨#[]⟩, .int .i64 0, .int .i64 ys, .int .i64 yp, .int .i64 yz, .int .i64 0] 25) by rw [hw5]; exact Has.new w4 _)
  have N5 := Lib.hid (show Has w5 w.heap.size (.cells #[.string ⟨#[]⟩, .int .i64 0, .int .i64 0, .int .i64 0, .int .i64 0, .int .i64 0] 25) by rw [hw5]; exact N4.out.alloc _)
  have X5 := Lib.hid (show w.heap.size ≠ w4.heap.size from fun hh => by have := N4.out.lt; omega)
  have V5 := Lib.hid hw5
  have HX4 := Lib.hid (show w.heap.size ≤ w4.heap.size from B4.out.size)
  clear hw5 B4 N4
  go_wp2_with fail
  rw [← V5.out]
  clear V5
  refine (C26.out _ (S0.out.later B5.out)).mono ?_
  rintro e w6 ⟨rfl, h⟩
  have B6 := Lib.hid (B5.out.trans (h.mono B5.out.size))
  have N6 := Lib.hid (N5.out.later h)
  have K6 := Lib.hid (K5.out.later h)
  clear h C26 B5 N5 K5
  go_wp2_with fail
  refine (C4.out _ (S0.out.later B6.out)).mono ?_
  rintro e w7 ⟨rfl, h⟩
  have B7 := Lib.hid (B6.out.trans (h.mono B6.out.size))
  have N7 := Lib.hid (N6.out.later h)
  have K7 := Lib.hid (K6.out.later h)
  clear h C4 B6 N6 K6
  go_wp2_with fail
  refine (C6.out _ (S0.out.later B7.out)).mono ?_
  rintro e w8 ⟨rfl, h⟩
  have B8 := Lib.hid (B7.out.trans (h.mono B7.out.size))
  have N8 := Lib.hid (N7.out.later h)
  have K8 := Lib.hid (K7.out.later h)
  clear h C6 B7 N7 K7
  have q1 := (K8.out.cell 1 : _ = some (Value.int .i64 0))
  go_wp2_with (first | (refine wpList_store_row rfl 25 (.tmp 6) (.tmp 63) rfl w.heap.size #[.string ⟨#[]⟩, .int .i64 0, .int .i64 0, .int .i64 0, .int .i64 0, .int .i64 0] rfl rfl 25 _ N8.out hi rfl (by simp [Value.oneCell']) ?_))
  refine bodyPost_ret (results_cell_t rfl _ _ w.heap.size 25 _ (0, 0) _ rfl (setRow_heap _ _ _ _ _ _ N8.out) Try.underlying25 rfl hi) rfl ⟨rfl, below_setRow B8.out (Nat.le_refl _) _⟩

set_option maxHeartbeats 2000000 in
theorem body4_S8 (a' : Option Addr) (len c : Nat) (X : List Nat) (hlen : 30 ≤ len) (hc : len ≤ c) (hm : g2 X 8 = 8) (hv : ¬ 20 < g2 X 4) (hu : g2 X 6 = 0) (nn : Nat) (hn : g2 X 26 = (nn : Int)) (_ : nn ≠ 0) (_ : nn ≤ 65535) (hlt : len < 30 + nn) (w : World) (hs : Sl w (.slice a' len c) X) :
    Calls Try.prog 41 #[.slice a' len c, .int .i64 4, .int .i64 30] w fun e w' => e = .returned (.tuple #[.agg #[.string ⟨#[]⟩, .int .i64 0, .int .i64 0, .int .i64 0, .int .i64 0, .int .i64 0], .int .i64 4]) ∧ Below w.heap.size w w' := by
  have hi : (Try.prog.info? 25).map (·.size) = some 6 := by kernel_rfl
  have S0 := Lib.hid hs
  have B0 := Lib.hid (below1 w (.cells #[.string ⟨#[]⟩, .int .i64 0, .int .i64 0, .int .i64 0, .int .i64 0, .int .i64 0] 25))
  have N0 := Lib.hid (Has.new w (.cells #[.string ⟨#[]⟩, .int .i64 0, .int .i64 0, .int .i64 0, .int .i64 0, .int .i64 0] 25))
  have C8 : Hid (∀ W, Sl W (.slice a' len c) X → Calls Try.prog 79 #[.slice a' len c, .int .i64 8] W fun e w' => e = .returned (.int .i64 (g2 X 8)) ∧ Below W.heap.size W w') := Lib.hid (fun W hW => get2_any a' len c X 8 (by omega) hc W hW)
  have C14 : Hid (∀ W, Sl W (.slice a' len c) X → Calls Try.prog 43 #[.slice a' len c, .int .i64 14] W fun e w' => e = .returned (.int .i64 (g4 X 14)) ∧ Below W.heap.size W w') := Lib.hid (fun W hW => get4_any a' len c X 14 (by omega) hc W hW)
  have C18 : Hid (∀ W, Sl W (.slice a' len c) X → Calls Try.prog 43 #[.slice a' len c, .int .i64 18] W fun e w' => e = .returned (.int .i64 (g4 X 18)) ∧ Below W.heap.size W w') := Lib.hid (fun W hW => get4_any a' len c X 18 (by omega) hc W hW)
  have C22 : Hid (∀ W, Sl W (.slice a' len c) X → Calls Try.prog 43 #[.slice a' len c, .int .i64 22] W fun e w' => e = .returned (.int .i64 (g4 X 22)) ∧ Below W.heap.size W w') := Lib.hid (fun W hW => get4_any a' len c X 22 (by omega) hc W hW)
  have C26 : Hid (∀ W, Sl W (.slice a' len c) X → Calls Try.prog 79 #[.slice a' len c, .int .i64 26] W fun e w' => e = .returned (.int .i64 (g2 X 26)) ∧ Below W.heap.size W w') := Lib.hid (fun W hW => get2_any a' len c X 26 (by omega) hc W hW)
  have C4 : Hid (∀ W, Sl W (.slice a' len c) X → Calls Try.prog 79 #[.slice a' len c, .int .i64 4] W fun e w' => e = .returned (.int .i64 (g2 X 4)) ∧ Below W.heap.size W w') := Lib.hid (fun W hW => get2_any a' len c X 4 (by omega) hc W hW)
  have C6 : Hid (∀ W, Sl W (.slice a' len c) X → Calls Try.prog 79 #[.slice a' len c, .int .i64 6] W fun e w' => e = .returned (.int .i64 (g2 X 6)) ∧ Below W.heap.size W w') := Lib.hid (fun W hW => get2_any a' len c X 6 (by omega) hc W hW)
  rw [hm] at C8
  rw [hu] at C6
  rw [hn] at C26
  obtain ⟨q, hq⟩ : ∃ q, q = 30 + nn := ⟨_, rfl⟩
  have hw : IntKind.i64.wrap (30 + (nn : Int)) = (q : Int) := by rw [IntWalk.i64_in _ (by omega)]; omega
  have z0 : ((nn : Int) == 0) = false := by rw [beq_eq_false_iff_ne]; omega
  have l1 : (len : Int) < (q : Int) := by omega
  generalize g4 X 14 = ys at *
  generalize g4 X 18 = yp at *
  generalize g4 X 22 = yz at *
  generalize g2 X 4 = yv at *
  clear hlen hc hs hq hlt hm hu hn
  go_enter Try.func41, Try.ntmps41
  go_wp2_with fail
  refine (C8.out _ (S0.out.later B0.out)).mono ?_
  rintro e w1 ⟨rfl, h⟩
  have B1 := Lib.hid (B0.out.trans (h.mono B0.out.size))
  have N1 := Lib.hid (N0.out.later h)
  clear h C8 B0 N0
  go_wp2_with fail
  refine (C14.out _ (S0.out.later B1.out)).mono ?_
  rintro e w2 ⟨rfl, h⟩
  have B2 := Lib.hid (B1.out.trans (h.mono B1.out.size))
  have N2 := Lib.hid (N1.out.later h)
  clear h C14 B1 N1
  go_wp2_with fail
  refine (C18.out _ (S0.out.later B2.out)).mono ?_
  rintro e w3 ⟨rfl, h⟩
  have B3 := Lib.hid (B2.out.trans (h.mono B2.out.size))
  have N3 := Lib.hid (N2.out.later h)
  clear h C18 B2 N2
  go_wp2_with fail
  refine (C22.out _ (S0.out.later B3.out)).mono ?_
  rintro e w4 ⟨rfl, h⟩
  have B4 := Lib.hid (B3.out.trans (h.mono B3.out.size))
  have N4 := Lib.hid (N3.out.later h)
  clear h C22 B3 N3
  obtain ⟨w5, hw5⟩ : ∃ v, v = w4.alloc (.cells #[.string ⟨#[]⟩, .int .i64 8, .int .i64 ys, .int .i64 yp, .int .i64 yz, .int .i64 0] 25) := ⟨_, rfl⟩
  have B5 := Lib.hid (show Below w.heap.size w w5 by rw [hw5]; exact B4.out.trans ((below1 w4 _).mono B4.out.size))
  have K5 := Lib.hid (show Has w5 w4.heap.size (.cells #[.string ⟨#[]⟩, .int .i64 8, .int .i64 ys, .int .i64 yp, .int .i64 yz, .int .i64 0] 25) by rw [hw5]; exact Has.new w4 _)
  have N5 := Lib.hid (show Has w5 w.heap.size (.cells #[.string ⟨#[]⟩, .int .i64 0, .int .i64 0, .int .i64 0, .int .i64 0, .int .i64 0] 25) by rw [hw5]; exact N4.out.alloc _)
  have X5 := Lib.hid (show w.heap.size ≠ w4.heap.size from fun hh => by have := N4.out.lt; omega)
  have V5 := Lib.hid hw5
  have HX4 := Lib.hid (show w.heap.size ≤ w4.heap.size from B4.out.size)
  clear hw5 B4 N4
  go_wp2_with fail
  rw [← V5.out]
  clear V5
  refine (C26.out _ (S0.out.later B5.out)).mono ?_
  rintro e w6 ⟨rfl, h⟩
  have B6 := Lib.hid (B5.out.trans (h.mono B5.out.size))
  have N6 := Lib.hid (N5.out.later h)
  have K6 := Lib.hid (K5.out.later h)
  clear h C26 B5 N5 K5
  go_wp2_with fail
  refine (C4.out _ (S0.out.later B6.out)).mono ?_
  rintro e w7 ⟨rfl, h⟩
  have B7 := Lib.hid (B6.out.trans (h.mono B6.out.size))
  have N7 := Lib.hid (N6.out.later h)
  have K7 := Lib.hid (K6.out.later h)
  clear h C4 B6 N6 K6
  go_wp2_with fail
  refine (C6.out _ (S0.out.later B7.out)).mono ?_
  rintro e w8 ⟨rfl, h⟩
  have B8 := Lib.hid (B7.out.trans (h.mono B7.out.size))
  have N8 := Lib.hid (N7.out.later h)
  have K8 := Lib.hid (K7.out.later h)
  clear h C6 B7 N7 K7
  have q1 := (K8.out.cell 1 : _ = some (Value.int .i64 8))
  go_wp2_with (first | (refine wpList_store_row rfl 25 (.tmp 6) (.tmp 63) rfl w.heap.size #[.string ⟨#[]⟩, .int .i64 0, .int .i64 0, .int .i64 0, .int .i64 0, .int .i64 0] rfl rfl 25 _ N8.out hi rfl (by simp [Value.oneCell']) ?_))
  refine bodyPost_ret (results_cell_t rfl _ _ w.heap.size 25 _ (0, 0) _ rfl (setRow_heap _ _ _ _ _ _ N8.out) Try.underlying25 rfl hi) rfl ⟨rfl, below_setRow B8.out (Nat.le_refl _) _⟩

set_option maxHeartbeats 2000000 in
theorem body4_O0 (a' : Option Addr) (len c : Nat) (X : List Nat) (hlen : 30 ≤ len) (hc : len ≤ c) (hm : g2 X 8 = 0) (hv : ¬ 20 < g2 X 4) (hu : g2 X 6 = 0) (nn : Nat) (hn : g2 X 26 = (nn : Int)) (hn0 : nn ≠ 0) (_ : nn ≤ 65535) (hlt : 30 + nn ≤ len) (w : World) (hs : Sl w (.slice a' len c) X) :
    Calls Try.prog 41 #[.slice a' len c, .int .i64 4, .int .i64 30] w fun e w' => e = .returned (.tuple #[.agg #[.string (strB ((X.drop 30).take nn)), .int .i64 0, .int .i64 (g4 X 14), .int .i64 (g4 X 18), .int .i64 (g4 X 22), .int .i64 0], .int .i64 0]) ∧ Below w.heap.size w w' := by
  have hi : (Try.prog.info? 25).map (·.size) = some 6 := by kernel_rfl
  have S0 := Lib.hid hs
  have B0 := Lib.hid (below1 w (.cells #[.string ⟨#[]⟩, .int .i64 0, .int .i64 0, .int .i64 0, .int .i64 0, .int .i64 0] 25))
  have N0 := Lib.hid (Has.new w (.cells #[.string ⟨#[]⟩, .int .i64 0, .int .i64 0, .int .i64 0, .int .i64 0, .int .i64 0] 25))
  have C8 : Hid (∀ W, Sl W (.slice a' len c) X → Calls Try.prog 79 #[.slice a' len c, .int .i64 8] W fun e w' => e = .returned (.int .i64 (g2 X 8)) ∧ Below W.heap.size W w') := Lib.hid (fun W hW => get2_any a' len c X 8 (by omega) hc W hW)
  have C14 : Hid (∀ W, Sl W (.slice a' len c) X → Calls Try.prog 43 #[.slice a' len c, .int .i64 14] W fun e w' => e = .returned (.int .i64 (g4 X 14)) ∧ Below W.heap.size W w') := Lib.hid (fun W hW => get4_any a' len c X 14 (by omega) hc W hW)
  have C18 : Hid (∀ W, Sl W (.slice a' len c) X → Calls Try.prog 43 #[.slice a' len c, .int .i64 18] W fun e w' => e = .returned (.int .i64 (g4 X 18)) ∧ Below W.heap.size W w') := Lib.hid (fun W hW => get4_any a' len c X 18 (by omega) hc W hW)
  have C22 : Hid (∀ W, Sl W (.slice a' len c) X → Calls Try.prog 43 #[.slice a' len c, .int .i64 22] W fun e w' => e = .returned (.int .i64 (g4 X 22)) ∧ Below W.heap.size W w') := Lib.hid (fun W hW => get4_any a' len c X 22 (by omega) hc W hW)
  have C26 : Hid (∀ W, Sl W (.slice a' len c) X → Calls Try.prog 79 #[.slice a' len c, .int .i64 26] W fun e w' => e = .returned (.int .i64 (g2 X 26)) ∧ Below W.heap.size W w') := Lib.hid (fun W hW => get2_any a' len c X 26 (by omega) hc W hW)
  have C4 : Hid (∀ W, Sl W (.slice a' len c) X → Calls Try.prog 79 #[.slice a' len c, .int .i64 4] W fun e w' => e = .returned (.int .i64 (g2 X 4)) ∧ Below W.heap.size W w') := Lib.hid (fun W hW => get2_any a' len c X 4 (by omega) hc W hW)
  have C6 : Hid (∀ W, Sl W (.slice a' len c) X → Calls Try.prog 79 #[.slice a' len c, .int .i64 6] W fun e w' => e = .returned (.int .i64 (g2 X 6)) ∧ Below W.heap.size W w') := Lib.hid (fun W hW => get2_any a' len c X 6 (by omega) hc W hW)
  rw [hm] at C8
  rw [hu] at C6
  rw [hn] at C26
  obtain ⟨q, hq⟩ : ∃ q, q = 30 + nn := ⟨_, rfl⟩
  have hw : IntKind.i64.wrap (30 + (nn : Int)) = (q : Int) := by rw [IntWalk.i64_in _ (by omega)]; omega
  have z0 : ((nn : Int) == 0) = false := by rw [beq_eq_false_iff_ne]; omega
  have l1 : ¬ ((len : Int) < (q : Int)) := by omega
  have l2 : (30 : Int) ≤ (q : Int) := by omega
  have l3 : (q : Int) ≤ (c : Int) := by omega
  have l4 : 30 ≤ q := by omega
  have l5 : q ≤ c := by omega
  have e1 : q - 30 = nn := by omega
  have e2 : ¬ c = 30 := by omega
  have HL := Lib.hid (show 30 + nn ≤ len by omega)
  have HN0 := Lib.hid hn0
  obtain ⟨M, hM⟩ : ∃ M, M = strB ((X.drop 30).take nn) := ⟨_, rfl⟩
  have HM := Lib.hid hM
  rw [← hM]
  generalize g4 X 14 = ys at *
  generalize g4 X 18 = yp at *
  generalize g4 X 22 = yz at *
  generalize g2 X 4 = yv at *
  clear hlen hc hs hq hn0 hlt hM hm hu hn
  go_enter Try.func41, Try.ntmps41
  go_wp2_with fail
  refine (C8.out _ (S0.out.later B0.out)).mono ?_
  rintro e w1 ⟨rfl, h⟩
  have B1 := Lib.hid (B0.out.trans (h.mono B0.out.size))
  have N1 := Lib.hid (N0.out.later h)
  clear h C8 B0 N0
  go_wp2_with fail
  refine (C14.out _ (S0.out.later B1.out)).mono ?_
  rintro e w2 ⟨rfl, h⟩
  have B2 := Lib.hid (B1.out.trans (h.mono B1.out.size))
  have N2 := Lib.hid (N1.out.later h)
  clear h C14 B1 N1
  go_wp2_with fail
  refine (C18.out _ (S0.out.later B2.out)).mono ?_
  rintro e w3 ⟨rfl, h⟩
  have B3 := Lib.hid (B2.out.trans (h.mono B2.out.size))
  have N3 := Lib.hid (N2.out.later h)
  clear h C18 B2 N2
  go_wp2_with fail
  refine (C22.out _ (S0.out.later B3.out)).mono ?_
  rintro e w4 ⟨rfl, h⟩
  have B4 := Lib.hid (B3.out.trans (h.mono B3.out.size))
  have N4 := Lib.hid (N3.out.later h)
  clear h C22 B3 N3
  obtain ⟨w5, hw5⟩ : ∃ v, v = w4.alloc (.cells #[.string ⟨#[]⟩, .int .i64 0, .int .i64 ys, .int .i64 yp, .int .i64 yz, .int .i64 0] 25) := ⟨_, rfl⟩
  have B5 := Lib.hid (show Below w.heap.size w w5 by rw [hw5]; exact B4.out.trans ((below1 w4 _).mono B4.out.size))
  have K5 := Lib.hid (show Has w5 w4.heap.size (.cells #[.string ⟨#[]⟩, .int .i64 0, .int .i64 ys, .int .i64 yp, .int .i64 yz, .int .i64 0] 25) by rw [hw5]; exact Has.new w4 _)
  have N5 := Lib.hid (show Has w5 w.heap.size (.cells #[.string ⟨#[]⟩, .int .i64 0, .int .i64 0, .int .i64 0, .int .i64 0, .int .i64 0] 25) by rw [hw5]; exact N4.out.alloc _)
  have X5 := Lib.hid (show w.heap.size ≠ w4.heap.size from fun hh => by have := N4.out.lt; omega)
  have V5 := Lib.hid hw5
  have HX4 := Lib.hid (show w.heap.size ≤ w4.heap.size from B4.out.size)
  clear hw5 B4 N4
  go_wp2_with fail
  rw [← V5.out]
  clear V5
  refine (C26.out _ (S0.out.later B5.out)).mono ?_
  rintro e w6 ⟨rfl, h⟩
  have B6 := Lib.hid (B5.out.trans (h.mono B5.out.size))
  have N6 := Lib.hid (N5.out.later h)
  have K6 := Lib.hid (K5.out.later h)
  clear h C26 B5 N5 K5
  go_wp2_with fail
  refine (C4.out _ (S0.out.later B6.out)).mono ?_
  rintro e w7 ⟨rfl, h⟩
  have B7 := Lib.hid (B6.out.trans (h.mono B6.out.size))
  have N7 := Lib.hid (N6.out.later h)
  have K7 := Lib.hid (K6.out.later h)
  clear h C4 B6 N6 K6
  go_wp2_with fail
  refine (C6.out _ (S0.out.later B7.out)).mono ?_
  rintro e w8 ⟨rfl, h⟩
  have B8 := Lib.hid (B7.out.trans (h.mono B7.out.size))
  have N8 := Lib.hid (N7.out.later h)
  have K8 := Lib.hid (K7.out.later h)
  clear h C6 B7 N7 K7
  have q1 := (K8.out.cell 1 : _ = some (Value.int .i64 0))
  have q0 := (K8.out.cell 0 : _ = some (Value.string ⟨#[]⟩))
  have f0 := K8.out.free 0
  have hcv := string_of w8 _ nn (c - 30) _ M ((S0.out.later B8.out).cut 30 nn HL.out HN0.out (c - 30)) HM
  rw [show (fun x : Addr => x.add 30) = (fun x => { x with off := x.off + 30, spot := none }) from by funext x; simp [Addr.add]] at hcv
  have K9 := Lib.hid (show Has (w8.setCell ⟨w4.heap.size, 0, none⟩ (.string M)) w4.heap.size (.cells #[.string M, .int .i64 0, .int .i64 ys, .int .i64 yp, .int .i64 yz, .int .i64 0] 25) from Has.setSelf (i := 0) K8.out (.string M))
  have N9 := Lib.hid (show Has (w8.setCell ⟨w4.heap.size, 0, none⟩ (.string M)) w.heap.size (.cells #[.string ⟨#[]⟩, .int .i64 0, .int .i64 0, .int .i64 0, .int .i64 0, .int .i64 0] 25) from N8.out.set X5.out _)
  have B9 := Lib.hid (show Below w.heap.size w (w8.setCell ⟨w4.heap.size, 0, none⟩ (.string M)) from B8.out.setCell (by show w.heap.size ≤ w4.heap.size; have := N8.out.lt; have := X5.out; have := HX4.out; omega) _)
  go_wp2_with (first | (refine wpList_load_row rfl 25 (.tmp 8) rfl w4.heap.size rfl 25 _ (0, 0) _ K9.out Try.underlying25 rfl hi ?_) | (refine wpList_store_row rfl 25 (.tmp 6) (.tmp 72) rfl w.heap.size #[.string M, .int .i64 0, .int .i64 ys, .int .i64 yp, .int .i64 yz, .int .i64 0] rfl rfl 25 _ N9.out hi rfl (by simp [Value.oneCell']) ?_))
  refine bodyPost_ret (results_cell_t rfl _ _ w.heap.size 25 #[.string M, .int .i64 0, .int .i64 ys, .int .i64 yp, .int .i64 yz, .int .i64 0] (0, 0) _ rfl (setRow_heap _ _ _ _ _ _ N9.out) Try.underlying25 rfl hi) rfl ⟨rfl, below_setRow B9.out (Nat.le_refl _) _⟩

set_option maxHeartbeats 2000000 in
theorem body4_O8 (a' : Option Addr) (len c : Nat) (X : List Nat) (hlen : 30 ≤ len) (hc : len ≤ c) (hm : g2 X 8 = 8) (hv : ¬ 20 < g2 X 4) (hu : g2 X 6 = 0) (nn : Nat) (hn : g2 X 26 = (nn : Int)) (hn0 : nn ≠ 0) (_ : nn ≤ 65535) (hlt : 30 + nn ≤ len) (w : World) (hs : Sl w (.slice a' len c) X) :
    Calls Try.prog 41 #[.slice a' len c, .int .i64 4, .int .i64 30] w fun e w' => e = .returned (.tuple #[.agg #[.string (strB ((X.drop 30).take nn)), .int .i64 8, .int .i64 (g4 X 14), .int .i64 (g4 X 18), .int .i64 (g4 X 22), .int .i64 0], .int .i64 0]) ∧ Below w.heap.size w w' := by
  have hi : (Try.prog.info? 25).map (·.size) = some 6 := by kernel_rfl
  have S0 := Lib.hid hs
  have B0 := Lib.hid (below1 w (.cells #[.string ⟨#[]⟩, .int .i64 0, .int .i64 0, .int .i64 0, .int .i64 0, .int .i64 0] 25))
  have N0 := Lib.hid (Has.new w (.cells #[.string ⟨#[]⟩, .int .i64 0, .int .i64 0, .int .i64 0, .int .i64 0, .int .i64 0] 25))
  have C8 : Hid (∀ W, Sl W (.slice a' len c) X → Calls Try.prog 79 #[.slice a' len c, .int .i64 8] W fun e w' => e = .returned (.int .i64 (g2 X 8)) ∧ Below W.heap.size W w') := Lib.hid (fun W hW => get2_any a' len c X 8 (by omega) hc W hW)
  have C14 : Hid (∀ W, Sl W (.slice a' len c) X → Calls Try.prog 43 #[.slice a' len c, .int .i64 14] W fun e w' => e = .returned (.int .i64 (g4 X 14)) ∧ Below W.heap.size W w') := Lib.hid (fun W hW => get4_any a' len c X 14 (by omega) hc W hW)
  have C18 : Hid (∀ W, Sl W (.slice a' len c) X → Calls Try.prog 43 #[.slice a' len c, .int .i64 18] W fun e w' => e = .returned (.int .i64 (g4 X 18)) ∧ Below W.heap.size W w') := Lib.hid (fun W hW => get4_any a' len c X 18 (by omega) hc W hW)
  have C22 : Hid (∀ W, Sl W (.slice a' len c) X → Calls Try.prog 43 #[.slice a' len c, .int .i64 22] W fun e w' => e = .returned (.int .i64 (g4 X 22)) ∧ Below W.heap.size W w') := Lib.hid (fun W hW => get4_any a' len c X 22 (by omega) hc W hW)
  have C26 : Hid (∀ W, Sl W (.slice a' len c) X → Calls Try.prog 79 #[.slice a' len c, .int .i64 26] W fun e w' => e = .returned (.int .i64 (g2 X 26)) ∧ Below W.heap.size W w') := Lib.hid (fun W hW => get2_any a' len c X 26 (by omega) hc W hW)
  have C4 : Hid (∀ W, Sl W (.slice a' len c) X → Calls Try.prog 79 #[.slice a' len c, .int .i64 4] W fun e w' => e = .returned (.int .i64 (g2 X 4)) ∧ Below W.heap.size W w') := Lib.hid (fun W hW => get2_any a' len c X 4 (by omega) hc W hW)
  have C6 : Hid (∀ W, Sl W (.slice a' len c) X → Calls Try.prog 79 #[.slice a' len c, .int .i64 6] W fun e w' => e = .returned (.int .i64 (g2 X 6)) ∧ Below W.heap.size W w') := Lib.hid (fun W hW => get2_any a' len c X 6 (by omega) hc W hW)
  rw [hm] at C8
  rw [hu] at C6
  rw [hn] at C26
  obtain ⟨q, hq⟩ : ∃ q, q = 30 + nn := ⟨_, rfl⟩
  have hw : IntKind.i64.wrap (30 + (nn : Int)) = (q : Int) := by rw [IntWalk.i64_in _ (by omega)]; omega
  have z0 : ((nn : Int) == 0) = false := by rw [beq_eq_false_iff_ne]; omega
  have l1 : ¬ ((len : Int) < (q : Int)) := by omega
  have l2 : (30 : Int) ≤ (q : Int) := by omega
  have l3 : (q : Int) ≤ (c : Int) := by omega
  have l4 : 30 ≤ q := by omega
  have l5 : q ≤ c := by omega
  have e1 : q - 30 = nn := by omega
  have e2 : ¬ c = 30 := by omega
  have HL := Lib.hid (show 30 + nn ≤ len by omega)
  have HN0 := Lib.hid hn0
  obtain ⟨M, hM⟩ : ∃ M, M = strB ((X.drop 30).take nn) := ⟨_, rfl⟩
  have HM := Lib.hid hM
  rw [← hM]
  generalize g4 X 14 = ys at *
  generalize g4 X 18 = yp at *
  generalize g4 X 22 = yz at *
  generalize g2 X 4 = yv at *
  clear hlen hc hs hq hn0 hlt hM hm hu hn
  go_enter Try.func41, Try.ntmps41
  go_wp2_with fail
  refine (C8.out _ (S0.out.later B0.out)).mono ?_
  rintro e w1 ⟨rfl, h⟩
  have B1 := Lib.hid (B0.out.trans (h.mono B0.out.size))
  have N1 := Lib.hid (N0.out.later h)
  clear h C8 B0 N0
  go_wp2_with fail
  refine (C14.out _ (S0.out.later B1.out)).mono ?_
  rintro e w2 ⟨rfl, h⟩
  have B2 := Lib.hid (B1.out.trans (h.mono B1.out.size))
  have N2 := Lib.hid (N1.out.later h)
  clear h C14 B1 N1
  go_wp2_with fail
  refine (C18.out _ (S0.out.later B2.out)).mono ?_
  rintro e w3 ⟨rfl, h⟩
  have B3 := Lib.hid (B2.out.trans (h.mono B2.out.size))
  have N3 := Lib.hid (N2.out.later h)
  clear h C18 B2 N2
  go_wp2_with fail
  refine (C22.out _ (S0.out.later B3.out)).mono ?_
  rintro e w4 ⟨rfl, h⟩
  have B4 := Lib.hid (B3.out.trans (h.mono B3.out.size))
  have N4 := Lib.hid (N3.out.later h)
  clear h C22 B3 N3
  obtain ⟨w5, hw5⟩ : ∃ v, v = w4.alloc (.cells #[.string ⟨#[]⟩, .int .i64 8, .int .i64 ys, .int .i64 yp, .int .i64 yz, .int .i64 0] 25) := ⟨_, rfl⟩
  have B5 := Lib.hid (show Below w.heap.size w w5 by rw [hw5]; exact B4.out.trans ((below1 w4 _).mono B4.out.size))
  have K5 := Lib.hid (show Has w5 w4.heap.size (.cells #[.string ⟨#[]⟩, .int .i64 8, .int .i64 ys, .int .i64 yp, .int .i64 yz, .int .i64 0] 25) by rw [hw5]; exact Has.new w4 _)
  have N5 := Lib.hid (show Has w5 w.heap.size (.cells #[.string ⟨#[]⟩, .int .i64 0, .int .i64 0, .int .i64 0, .int .i64 0, .int .i64 0] 25) by rw [hw5]; exact N4.out.alloc _)
  have X5 := Lib.hid (show w.heap.size ≠ w4.heap.size from fun hh => by have := N4.out.lt; omega)
  have V5 := Lib.hid hw5
  have HX4 := Lib.hid (show w.heap.size ≤ w4.heap.size from B4.out.size)
  clear hw5 B4 N4
  go_wp2_with fail
  rw [← V5.out]
  clear V5
  refine (C26.out _ (S0.out.later B5.out)).mono ?_
  rintro e w6 ⟨rfl, h⟩
  have B6 := Lib.hid (B5.out.trans (h.mono B5.out.size))
  have N6 := Lib.hid (N5.out.later h)
  have K6 := Lib.hid (K5.out.later h)
  clear h C26 B5 N5 K5
  go_wp2_with fail
  refine (C4.out _ (S0.out.later B6.out)).mono ?_
  rintro e w7 ⟨rfl, h⟩
  have B7 := Lib.hid (B6.out.trans (h.mono B6.out.size))
  have N7 := Lib.hid (N6.out.later h)
  have K7 := Lib.hid (K6.out.later h)
  clear h C4 B6 N6 K6
  go_wp2_with fail
  refine (C6.out _ (S0.out.later B7.out)).mono ?_
  rintro e w8 ⟨rfl, h⟩
  have B8 := Lib.hid (B7.out.trans (h.mono B7.out.size))
  have N8 := Lib.hid (N7.out.later h)
  have K8 := Lib.hid (K7.out.later h)
  clear h C6 B7 N7 K7
  have q1 := (K8.out.cell 1 : _ = some (Value.int .i64 8))
  have q0 := (K8.out.cell 0 : _ = some (Value.string ⟨#[]⟩))
  have f0 := K8.out.free 0
  have hcv := string_of w8 _ nn (c - 30) _ M ((S0.out.later B8.out).cut 30 nn HL.out HN0.out (c - 30)) HM
  rw [show (fun x : Addr => x.add 30) = (fun x => { x with off := x.off + 30, spot := none }) from by funext x; simp [Addr.add]] at hcv
  have K9 := Lib.hid (show Has (w8.setCell ⟨w4.heap.size, 0, none⟩ (.string M)) w4.heap.size (.cells #[.string M, .int .i64 8, .int .i64 ys, .int .i64 yp, .int .i64 yz, .int .i64 0] 25) from Has.setSelf (i := 0) K8.out (.string M))
  have N9 := Lib.hid (show Has (w8.setCell ⟨w4.heap.size, 0, none⟩ (.string M)) w.heap.size (.cells #[.string ⟨#[]⟩, .int .i64 0, .int .i64 0, .int .i64 0, .int .i64 0, .int .i64 0] 25) from N8.out.set X5.out _)
  have B9 := Lib.hid (show Below w.heap.size w (w8.setCell ⟨w4.heap.size, 0, none⟩ (.string M)) from B8.out.setCell (by show w.heap.size ≤ w4.heap.size; have := N8.out.lt; have := X5.out; have := HX4.out; omega) _)
  go_wp2_with (first | (refine wpList_load_row rfl 25 (.tmp 8) rfl w4.heap.size rfl 25 _ (0, 0) _ K9.out Try.underlying25 rfl hi ?_) | (refine wpList_store_row rfl 25 (.tmp 6) (.tmp 72) rfl w.heap.size #[.string M, .int .i64 8, .int .i64 ys, .int .i64 yp, .int .i64 yz, .int .i64 0] rfl rfl 25 _ N9.out hi rfl (by simp [Value.oneCell']) ?_))
  refine bodyPost_ret (results_cell_t rfl _ _ w.heap.size 25 #[.string M, .int .i64 8, .int .i64 ys, .int .i64 yp, .int .i64 yz, .int .i64 0] (0, 0) _ rfl (setRow_heap _ _ _ _ _ _ N9.out) Try.underlying25 rfl hi) rfl ⟨rfl, below_setRow B9.out (Nat.le_refl _) _⟩

set_option maxHeartbeats 2000000 in
theorem body6_F2 (a' : Option Addr) (len c : Nat) (X : List Nat) (hlen : 46 ≤ len) (hc : len ≤ c) (hv : ¬ 20 < g2 X 6) (hu : ¬ g2 X 8 = 0) (w : World) (hs : Sl w (.slice a' len c) X) :
    Calls Try.prog 41 #[.slice a' len c, .int .i64 6, .int .i64 46] w fun e w' => e = .returned (.tuple #[.agg #[.string ⟨#[]⟩, .int .i64 0, .int .i64 0, .int .i64 0, .int .i64 0, .int .i64 0], .int .i64 15]) ∧ Below w.heap.size w w' := by
  have hi : (Try.prog.info? 25).map (·.size) = some 6 := by kernel_rfl
  have S0 := Lib.hid hs
  have B0 := Lib.hid (below1 w (.cells #[.string ⟨#[]⟩, .int .i64 0, .int .i64 0, .int .i64 0, .int .i64 0, .int .i64 0] 25))
  have N0 := Lib.hid (Has.new w (.cells #[.string ⟨#[]⟩, .int .i64 0, .int .i64 0, .int .i64 0, .int .i64 0, .int .i64 0] 25))
  have C10 : Hid (∀ W, Sl W (.slice a' len c) X → Calls Try.prog 79 #[.slice a' len c, .int .i64 10] W fun e w' => e = .returned (.int .i64 (g2 X 10)) ∧ Below W.heap.size W w') := Lib.hid (fun W hW => get2_any a' len c X 10 (by omega) hc W hW)
  have C16 : Hid (∀ W, Sl W (.slice a' len c) X → Calls Try.prog 43 #[.slice a' len c, .int .i64 16] W fun e w' => e = .returned (.int .i64 (g4 X 16)) ∧ Below W.heap.size W w') := Lib.hid (fun W hW => get4_any a' len c X 16 (by omega) hc W hW)
  have C20 : Hid (∀ W, Sl W (.slice a' len c) X → Calls Try.prog 43 #[.slice a' len c, .int .i64 20] W fun e w' => e = .returned (.int .i64 (g4 X 20)) ∧ Below W.heap.size W w') := Lib.hid (fun W hW => get4_any a' len c X 20 (by omega) hc W hW)
  have C24 : Hid (∀ W, Sl W (.slice a' len c) X → Calls Try.prog 43 #[.slice a' len c, .int .i64 24] W fun e w' => e = .returned (.int .i64 (g4 X 24)) ∧ Below W.heap.size W w') := Lib.hid (fun W hW => get4_any a' len c X 24 (by omega) hc W hW)
  have C28 : Hid (∀ W, Sl W (.slice a' len c) X → Calls Try.prog 79 #[.slice a' len c, .int .i64 28] W fun e w' => e = .returned (.int .i64 (g2 X 28)) ∧ Below W.heap.size W w') := Lib.hid (fun W hW => get2_any a' len c X 28 (by omega) hc W hW)
  have C6 : Hid (∀ W, Sl W (.slice a' len c) X → Calls Try.prog 79 #[.slice a' len c, .int .i64 6] W fun e w' => e = .returned (.int .i64 (g2 X 6)) ∧ Below W.heap.size W w') := Lib.hid (fun W hW => get2_any a' len c X 6 (by omega) hc W hW)
  have C8 : Hid (∀ W, Sl W (.slice a' len c) X → Calls Try.prog 79 #[.slice a' len c, .int .i64 8] W fun e w' => e = .returned (.int .i64 (g2 X 8)) ∧ Below W.heap.size W w') := Lib.hid (fun W hW => get2_any a' len c X 8 (by omega) hc W hW)
  generalize g2 X 10 = ym at *
  generalize g4 X 16 = ys at *
  generalize g4 X 20 = yp at *
  generalize g4 X 24 = yz at *
  generalize g2 X 28 = yn at *
  generalize g2 X 6 = yv at *
  generalize g2 X 8 = yu at *
  clear hlen hc hs
  go_enter Try.func41, Try.ntmps41
  go_wp2_with fail
  refine (C10.out _ (S0.out.later B0.out)).mono ?_
  rintro e w1 ⟨rfl, h⟩
  have B1 := Lib.hid (B0.out.trans (h.mono B0.out.size))
  have N1 := Lib.hid (N0.out.later h)
  clear h C10 B0 N0
  go_wp2_with fail
  refine (C16.out _ (S0.out.later B1.out)).mono ?_
  rintro e w2 ⟨rfl, h⟩
  have B2 := Lib.hid (B1.out.trans (h.mono B1.out.size))
  have N2 := Lib.hid (N1.out.later h)
  clear h C16 B1 N1
  go_wp2_with fail
  refine (C20.out _ (S0.out.later B2.out)).mono ?_
  rintro e w3 ⟨rfl, h⟩
  have B3 := Lib.hid (B2.out.trans (h.mono B2.out.size))
  have N3 := Lib.hid (N2.out.later h)
  clear h C20 B2 N2
  go_wp2_with fail
  refine (C24.out _ (S0.out.later B3.out)).mono ?_
  rintro e w4 ⟨rfl, h⟩
  have B4 := Lib.hid (B3.out.trans (h.mono B3.out.size))
  have N4 := Lib.hid (N3.out.later h)
  clear h C24 B3 N3
  obtain ⟨w5, hw5⟩ : ∃ v, v = w4.alloc (.cells #[.string ⟨#[]⟩, .int .i64 ym, .int .i64 ys, .int .i64 yp, .int .i64 yz, .int .i64 0] 25) := ⟨_, rfl⟩
  have B5 := Lib.hid (show Below w.heap.size w w5 by rw [hw5]; exact B4.out.trans ((below1 w4 _).mono B4.out.size))
  have K5 := Lib.hid (show Has w5 w4.heap.size (.cells #[.string ⟨#[]⟩, .int .i64 ym, .int .i64 ys, .int .i64 yp, .int .i64 yz, .int .i64 0] 25) by rw [hw5]; exact Has.new w4 _)
  have N5 := Lib.hid (show Has w5 w.heap.size (.cells #[.string ⟨#[]⟩, .int .i64 0, .int .i64 0, .int .i64 0, .int .i64 0, .int .i64 0] 25) by rw [hw5]; exact N4.out.alloc _)
  have X5 := Lib.hid (show w.heap.size ≠ w4.heap.size from fun hh => by have := N4.out.lt; omega)
  have V5 := Lib.hid hw5
  have HX4 := Lib.hid (show w.heap.size ≤ w4.heap.size from B4.out.size)
  clear hw5 B4 N4
  go_wp2_with fail
  rw [← V5.out]
  clear V5
  refine (C28.out _ (S0.out.later B5.out)).mono ?_
  rintro e w6 ⟨rfl, h⟩
  have B6 := Lib.hid (B5.out.trans (h.mono B5.out.size))
  have N6 := Lib.hid (N5.out.later h)
  have K6 := Lib.hid (K5.out.later h)
  clear h C28 B5 N5 K5
  go_wp2_with fail
  refine (C6.out _ (S0.out.later B6.out)).mono ?_
  rintro e w7 ⟨rfl, h⟩
  have B7 := Lib.hid (B6.out.trans (h.mono B6.out.size))
  have N7 := Lib.hid (N6.out.later h)
  have K7 := Lib.hid (K6.out.later h)
  clear h C6 B6 N6 K6
  go_wp2_with fail
  refine (C8.out _ (S0.out.later B7.out)).mono ?_
  rintro e w8 ⟨rfl, h⟩
  have B8 := Lib.hid (B7.out.trans (h.mono B7.out.size))
  have N8 := Lib.hid (N7.out.later h)
  have K8 := Lib.hid (K7.out.later h)
  clear h C8 B7 N7 K7
  go_wp2_with (first | (refine wpList_store_row rfl 25 (.tmp 6) (.tmp 56) rfl w.heap.size #[.string ⟨#[]⟩, .int .i64 0, .int .i64 0, .int .i64 0, .int .i64 0, .int .i64 0] rfl rfl 25 _ N8.out hi rfl (by simp [Value.oneCell']) ?_))
  refine bodyPost_ret (results_cell_t rfl _ _ w.heap.size 25 _ (0, 0) _ rfl (setRow_heap _ _ _ _ _ _ N8.out) Try.underlying25 rfl hi) rfl ⟨rfl, below_setRow B8.out (Nat.le_refl _) _⟩

set_option maxHeartbeats 2000000 in
theorem body6_F3 (a' : Option Addr) (len c : Nat) (X : List Nat) (hlen : 46 ≤ len) (hc : len ≤ c) (hm0 : ¬ g2 X 10 = 0) (hm8 : ¬ g2 X 10 = 8) (hv : ¬ 20 < g2 X 6) (hu : g2 X 8 = 0) (w : World) (hs : Sl w (.slice a' len c) X) :
    Calls Try.prog 41 #[.slice a' len c, .int .i64 6, .int .i64 46] w fun e w' => e = .returned (.tuple #[.agg #[.string ⟨#[]⟩, .int .i64 0, .int .i64 0, .int .i64 0, .int .i64 0, .int .i64 0], .int .i64 15]) ∧ Below w.heap.size w w' := by
  have hi : (Try.prog.info? 25).map (·.size) = some 6 := by kernel_rfl
  have S0 := Lib.hid hs
  have B0 := Lib.hid (below1 w (.cells #[.string ⟨#[]⟩, .int .i64 0, .int .i64 0, .int .i64 0, .int .i64 0, .int .i64 0] 25))
  have N0 := Lib.hid (Has.new w (.cells #[.string ⟨#[]⟩, .int .i64 0, .int .i64 0, .int .i64 0, .int .i64 0, .int .i64 0] 25))
  have C10 : Hid (∀ W, Sl W (.slice a' len c) X → Calls Try.prog 79 #[.slice a' len c, .int .i64 10] W fun e w' => e = .returned (.int .i64 (g2 X 10)) ∧ Below W.heap.size W w') := Lib.hid (fun W hW => get2_any a' len c X 10 (by omega) hc W hW)
  have C16 : Hid (∀ W, Sl W (.slice a' len c) X → Calls Try.prog 43 #[.slice a' len c, .int .i64 16] W fun e w' => e = .returned (.int .i64 (g4 X 16)) ∧ Below W.heap.size W w') := Lib.hid (fun W hW => get4_any a' len c X 16 (by omega) hc W hW)
  have C20 : Hid (∀ W, Sl W (.slice a' len c) X → Calls Try.prog 43 #[.slice a' len c, .int .i64 20] W fun e w' => e = .returned (.int .i64 (g4 X 20)) ∧ Below W.heap.size W w') := Lib.hid (fun W hW => get4_any a' len c X 20 (by omega) hc W hW)
  have C24 : Hid (∀ W, Sl W (.slice a' len c) X → Calls Try.prog 43 #[.slice a' len c, .int .i64 24] W fun e w' => e = .returned (.int .i64 (g4 X 24)) ∧ Below W.heap.size W w') := Lib.hid (fun W hW => get4_any a' len c X 24 (by omega) hc W hW)
  have C28 : Hid (∀ W, Sl W (.slice a' len c) X → Calls Try.prog 79 #[.slice a' len c, .int .i64 28] W fun e w' => e = .returned (.int .i64 (g2 X 28)) ∧ Below W.heap.size W w') := Lib.hid (fun W hW => get2_any a' len c X 28 (by omega) hc W hW)
  have C6 : Hid (∀ W, Sl W (.slice a' len c) X → Calls Try.prog 79 #[.slice a' len c, .int .i64 6] W fun e w' => e = .returned (.int .i64 (g2 X 6)) ∧ Below W.heap.size W w') := Lib.hid (fun W hW => get2_any a' len c X 6 (by omega) hc W hW)
  have C8 : Hid (∀ W, Sl W (.slice a' len c) X → Calls Try.prog 79 #[.slice a' len c, .int .i64 8] W fun e w' => e = .returned (.int .i64 (g2 X 8)) ∧ Below W.heap.size W w') := Lib.hid (fun W hW => get2_any a' len c X 8 (by omega) hc W hW)
  rw [hu] at C8
  generalize g2 X 10 = ym at *
  generalize g4 X 16 = ys at *
  generalize g4 X 20 = yp at *
  generalize g4 X 24 = yz at *
  generalize g2 X 28 = yn at *
  generalize g2 X 6 = yv at *
  clear hlen hc hs hu
  go_enter Try.func41, Try.ntmps41
  go_wp2_with fail
  refine (C10.out _ (S0.out.later B0.out)).mono ?_
  rintro e w1 ⟨rfl, h⟩
  have B1 := Lib.hid (B0.out.trans (h.mono B0.out.size))
  have N1 := Lib.hid (N0.out.later h)
  clear h C10 B0 N0
  go_wp2_with fail
  refine (C16.out _ (S0.out.later B1.out)).mono ?_
  rintro e w2 ⟨rfl, h⟩
  have B2 := Lib.hid (B1.out.trans (h.mono B1.out.size))
  have N2 := Lib.hid (N1.out.later h)
  clear h C16 B1 N1
  go_wp2_with fail
  refine (C20.out _ (S0.out.later B2.out)).mono ?_
  rintro e w3 ⟨rfl, h⟩
  have B3 := Lib.hid (B2.out.trans (h.mono B2.out.size))
  have N3 := Lib.hid (N2.out.later h)
  clear h C20 B2 N2
  go_wp2_with fail
  refine (C24.out _ (S0.out.later B3.out)).mono ?_
  rintro e w4 ⟨rfl, h⟩
  have B4 := Lib.hid (B3.out.trans (h.mono B3.out.size))
  have N4 := Lib.hid (N3.out.later h)
  clear h C24 B3 N3
  obtain ⟨w5, hw5⟩ : ∃ v, v = w4.alloc (.cells #[.string ⟨#[]⟩, .int .i64 ym, .int .i64 ys, .int .i64 yp, .int .i64 yz, .int .i64 0] 25) := ⟨_, rfl⟩
  have B5 := Lib.hid (show Below w.heap.size w w5 by rw [hw5]; exact B4.out.trans ((below1 w4 _).mono B4.out.size))
  have K5 := Lib.hid (show Has w5 w4.heap.size (.cells #[.string ⟨#[]⟩, .int .i64 ym, .int .i64 ys, .int .i64 yp, .int .i64 yz, .int .i64 0] 25) by rw [hw5]; exact Has.new w4 _)
  have N5 := Lib.hid (show Has w5 w.heap.size (.cells #[.string ⟨#[]⟩, .int .i64 0, .int .i64 0, .int .i64 0, .int .i64 0, .int .i64 0] 25) by rw [hw5]; exact N4.out.alloc _)
  have X5 := Lib.hid (show w.heap.size ≠ w4.heap.size from fun hh => by have := N4.out.lt; omega)
  have V5 := Lib.hid hw5
  have HX4 := Lib.hid (show w.heap.size ≤ w4.heap.size from B4.out.size)
  clear hw5 B4 N4
  go_wp2_with fail
  rw [← V5.out]
  clear V5
  refine (C28.out _ (S0.out.later B5.out)).mono ?_
  rintro e w6 ⟨rfl, h⟩
  have B6 := Lib.hid (B5.out.trans (h.mono B5.out.size))
  have N6 := Lib.hid (N5.out.later h)
  have K6 := Lib.hid (K5.out.later h)
  clear h C28 B5 N5 K5
  go_wp2_with fail
  refine (C6.out _ (S0.out.later B6.out)).mono ?_
  rintro e w7 ⟨rfl, h⟩
  have B7 := Lib.hid (B6.out.trans (h.mono B6.out.size))
  have N7 := Lib.hid (N6.out.later h)
  have K7 := Lib.hid (K6.out.later h)
  clear h C6 B6 N6 K6
  go_wp2_with fail
  refine (C8.out _ (S0.out.later B7.out)).mono ?_
  rintro e w8 ⟨rfl, h⟩
  have B8 := Lib.hid (B7.out.trans (h.mono B7.out.size))
  have N8 := Lib.hid (N7.out.later h)
  have K8 := Lib.hid (K7.out.later h)
  clear h C8 B7 N7 K7
  have q1 := (K8.out.cell 1 : _ = some (Value.int .i64 ym))
  go_wp2_with (first | (refine wpList_store_row rfl 25 (.tmp 6) (.tmp 56) rfl w.heap.size #[.string ⟨#[]⟩, .int .i64 0, .int .i64 0, .int .i64 0, .int .i64 0, .int .i64 0] rfl rfl 25 _ N8.out hi rfl (by simp [Value.oneCell']) ?_))
  refine bodyPost_ret (results_cell_t rfl _ _ w.heap.size 25 _ (0, 0) _ rfl (setRow_heap _ _ _ _ _ _ N8.out) Try.underlying25 rfl hi) rfl ⟨rfl, below_setRow B8.out (Nat.le_refl _) _⟩

set_option maxHeartbeats 2000000 in
theorem body6_F40 (a' : Option Addr) (len c : Nat) (X : List Nat) (hlen : 46 ≤ len) (hc : len ≤ c) (hm : g2 X 10 = 0) (hv : ¬ 20 < g2 X 6) (hu : g2 X 8 = 0) (hn : g2 X 28 = 0) (w : World) (hs : Sl w (.slice a' len c) X) :
    Calls Try.prog 41 #[.slice a' len c, .int .i64 6, .int .i64 46] w fun e w' => e = .returned (.tuple #[.agg #[.string ⟨#[]⟩, .int .i64 0, .int .i64 0, .int .i64 0, .int .i64 0, .int .i64 0], .int .i64 15]) ∧ Below w.heap.size w w' := by
  have hi : (Try.prog.info? 25).map (·.size) = some 6 := by kernel_rfl
  have S0 := Lib.hid hs
  have B0 := Lib.hid (below1 w (.cells #[.string ⟨#[]⟩, .int .i64 0, .int .i64 0, .int .i64 0, .int .i64 0, .int .i64 0] 25))
  have N0 := Lib.hid (Has.new w (.cells #[.string ⟨#[]⟩, .int .i64 0, .int .i64 0, .int .i64 0, .int .i64 0, .int .i64 0] 25))
  have C10 : Hid (∀ W, Sl W (.slice a' len c) X → Calls Try.prog 79 #[.slice a' len c, .int .i64 10] W fun e w' => e = .returned (.int .i64 (g2 X 10)) ∧ Below W.heap.size W w') := Lib.hid (fun W hW => get2_any a' len c X 10 (by omega) hc W hW)
  have C16 : Hid (∀ W, Sl W (.slice a' len c) X → Calls Try.prog 43 #[.slice a' len c, .int .i64 16] W fun e w' => e = .returned (.int .i64 (g4 X 16)) ∧ Below W.heap.size W w') := Lib.hid (fun W hW => get4_any a' len c X 16 (by omega) hc W hW)
  have C20 : Hid (∀ W, Sl W (.slice a' len c) X → Calls Try.prog 43 #[.slice a' len c, .int .i64 20] W fun e w' => e = .returned (.int .i64 (g4 X 20)) ∧ Below W.heap.size W w') := Lib.hid (fun W hW => get4_any a' len c X 20 (by omega) hc W hW)
  have C24 : Hid (∀ W, Sl W (.slice a' len c) X → Calls Try.prog 43 #[.slice a' len c, .int .i64 24] W fun e w' => e = .returned (.int .i64 (g4 X 24)) ∧ Below W.heap.size W w') := Lib.hid (fun W hW => get4_any a' len c X 24 (by omega) hc W hW)
  have C28 : Hid (∀ W, Sl W (.slice a' len c) X → Calls Try.prog 79 #[.slice a' len c, .int .i64 28] W fun e w' => e = .returned (.int .i64 (g2 X 28)) ∧ Below W.heap.size W w') := Lib.hid (fun W hW => get2_any a' len c X 28 (by omega) hc W hW)
  have C6 : Hid (∀ W, Sl W (.slice a' len c) X → Calls Try.prog 79 #[.slice a' len c, .int .i64 6] W fun e w' => e = .returned (.int .i64 (g2 X 6)) ∧ Below W.heap.size W w') := Lib.hid (fun W hW => get2_any a' len c X 6 (by omega) hc W hW)
  have C8 : Hid (∀ W, Sl W (.slice a' len c) X → Calls Try.prog 79 #[.slice a' len c, .int .i64 8] W fun e w' => e = .returned (.int .i64 (g2 X 8)) ∧ Below W.heap.size W w') := Lib.hid (fun W hW => get2_any a' len c X 8 (by omega) hc W hW)
  rw [hm] at C10
  rw [hu] at C8
  rw [hn] at C28
  generalize g4 X 16 = ys at *
  generalize g4 X 20 = yp at *
  generalize g4 X 24 = yz at *
  generalize g2 X 6 = yv at *
  clear hlen hc hs hm hu hn
  go_enter Try.func41, Try.ntmps41
  go_wp2_with fail
  refine (C10.out _ (S0.out.later B0.out)).mono ?_
  rintro e w1 ⟨rfl, h⟩
  have B1 := Lib.hid (B0.out.trans (h.mono B0.out.size))
  have N1 := Lib.hid (N0.out.later h)
  clear h C10 B0 N0
  go_wp2_with fail
  refine (C16.out _ (S0.out.later B1.out)).mono ?_
  rintro e w2 ⟨rfl, h⟩
  have B2 := Lib.hid (B1.out.trans (h.mono B1.out.size))
  have N2 := Lib.hid (N1.out.later h)
  clear h C16 B1 N1
  go_wp2_with fail
  refine (C20.out _ (S0.out.later B2.out)).mono ?_
  rintro e w3 ⟨rfl, h⟩
  have B3 := Lib.hid (B2.out.trans (h.mono B2.out.size))
  have N3 := Lib.hid (N2.out.later h)
  clear h C20 B2 N2
  go_wp2_with fail
  refine (C24.out _ (S0.out.later B3.out)).mono ?_
  rintro e w4 ⟨rfl, h⟩
  have B4 := Lib.hid (B3.out.trans (h.mono B3.out.size))
  have N4 := Lib.hid (N3.out.later h)
  clear h C24 B3 N3
  obtain ⟨w5, hw5⟩ : ∃ v, v = w4.alloc (.cells #[.string ⟨#[]⟩, .int .i64 0, .int .i64 ys, .int .i64 yp, .int .i64 yz, .int .i64 0] 25) := ⟨_, rfl⟩
  have B5 := Lib.hid (show Below w.heap.size w w5 by rw [hw5]; exact B4.out.trans ((below1 w4 _).mono B4.out.size))
  have K5 := Lib.hid (show Has w5 w4.heap.size (.cells #[.string ⟨#[]⟩, .int .i64 0, .int .i64 ys, .int .i64 yp, .int .i64 yz, .int .i64 0] 25) by rw [hw5]; exact Has.new w4 _)
  have N5 := Lib.hid (show Has w5 w.heap.size (.cells #[.string ⟨#[]⟩, .int .i64 0, .int .i64 0, .int .i64 0, .int .i64 0, .int .i64 0] 25) by rw [hw5]; exact N4.out.alloc _)
  have X5 := Lib.hid (show w.heap.size ≠ w4.heap.size from fun hh => by have := N4.out.lt; omega)
  have V5 := Lib.hid hw5
  have HX4 := Lib.hid (show w.heap.size ≤ w4.heap.size from B4.out.size)
  clear hw5 B4 N4
  go_wp2_with fail
  rw [← V5.out]
  clear V5
  refine (C28.out _ (S0.out.later B5.out)).mono ?_
  rintro e w6 ⟨rfl, h⟩
  have B6 := Lib.hid (B5.out.trans (h.mono B5.out.size))
  have N6 := Lib.hid (N5.out.later h)
  have K6 := Lib.hid (K5.out.later h)
  clear h C28 B5 N5 K5
  go_wp2_with fail
  refine (C6.out _ (S0.out.later B6.out)).mono ?_
  rintro e w7 ⟨rfl, h⟩
  have B7 := Lib.hid (B6.out.trans (h.mono B6.out.size))
  have N7 := Lib.hid (N6.out.later h)
  have K7 := Lib.hid (K6.out.later h)
  clear h C6 B6 N6 K6
  go_wp2_with fail
  refine (C8.out _ (S0.out.later B7.out)).mono ?_
  rintro e w8 ⟨rfl, h⟩
  have B8 := Lib.hid (B7.out.trans (h.mono B7.out.size))
  have N8 := Lib.hid (N7.out.later h)
  have K8 := Lib.hid (K7.out.later h)
  clear h C8 B7 N7 K7
  have q1 := (K8.out.cell 1 : _ = some (Value.int .i64 0))
  go_wp2_with (first | (refine wpList_store_row rfl 25 (.tmp 6) (.tmp 56) rfl w.heap.size #[.string ⟨#[]⟩, .int .i64 0, .int .i64 0, .int .i64 0, .int .i64 0, .int .i64 0] rfl rfl 25 _ N8.out hi rfl (by simp [Value.oneCell']) ?_))
  refine bodyPost_ret (results_cell_t rfl _ _ w.heap.size 25 _ (0, 0) _ rfl (setRow_heap _ _ _ _ _ _ N8.out) Try.underlying25 rfl hi) rfl ⟨rfl, below_setRow B8.out (Nat.le_refl _) _⟩

set_option maxHeartbeats 2000000 in
theorem body6_F48 (a' : Option Addr) (len c : Nat) (X : List Nat) (hlen : 46 ≤ len) (hc : len ≤ c) (hm : g2 X 10 = 8) (hv : ¬ 20 < g2 X 6) (hu : g2 X 8 = 0) (hn : g2 X 28 = 0) (w : World) (hs : Sl w (.slice a' len c) X) :
    Calls Try.prog 41 #[.slice a' len c, .int .i64 6, .int .i64 46] w fun e w' => e = .returned (.tuple #[.agg #[.string ⟨#[]⟩, .int .i64 0, .int .i64 0, .int .i64 0, .int .i64 0, .int .i64 0], .int .i64 15]) ∧ Below w.heap.size w w' := by
  have hi : (Try.prog.info? 25).map (·.size) = some 6 := by kernel_rfl
  have S0 := Lib.hid hs
  have B0 := Lib.hid (below1 w (.cells #[.string ⟨#[]⟩, .int .i64 0, .int .i64 0, .int .i64 0, .int .i64 0, .int .i64 0] 25))
  have N0 := Lib.hid (Has.new w (.cells #[.string ⟨#[]⟩, .int .i64 0, .int .i64 0, .int .i64 0, .int .i64 0, .int .i64 0] 25))
  have C10 : Hid (∀ W, Sl W (.slice a' len c) X → Calls Try.prog 79 #[.slice a' len c, .int .i64 10] W fun e w' => e = .returned (.int .i64 (g2 X 10)) ∧ Below W.heap.size W w') := Lib.hid (fun W hW => get2_any a' len c X 10 (by omega) hc W hW)
  have C16 : Hid (∀ W, Sl W (.slice a' len c) X → Calls Try.prog 43 #[.slice a' len c, .int .i64 16] W fun e w' => e = .returned (.int .i64 (g4 X 16)) ∧ Below W.heap.size W w') := Lib.hid (fun W hW => get4_any a' len c X 16 (by omega) hc W hW)
  have C20 : Hid (∀ W, Sl W (.slice a' len c) X → Calls Try.prog 43 #[.slice a' len c, .int .i64 20] W fun e w' => e = .returned (.int .i64 (g4 X 20)) ∧ Below W.heap.size W w') := Lib.hid (fun W hW => get4_any a' len c X 20 (by omega) hc W hW)
  have C24 : Hid (∀ W, Sl W (.slice a' len c) X → Calls Try.prog 43 #[.slice a' len c, .int .i64 24] W fun e w' => e = .returned (.int .i64 (g4 X 24)) ∧ Below W.heap.size W w') := Lib.hid (fun W hW => get4_any a' len c X 24 (by omega) hc W hW)
  have C28 : Hid (∀ W, Sl W (.slice a' len c) X → Calls Try.prog 79 #[.slice a' len c, .int .i64 28] W fun e w' => e = .returned (.int .i64 (g2 X 28)) ∧ Below W.heap.size W w') := Lib.hid (fun W hW => get2_any a' len c X 28 (by omega) hc W hW)
  have C6 : Hid (∀ W, Sl W (.slice a' len c) X → Calls Try.prog 79 #[.slice a' len c, .int .i64 6] W fun e w' => e = .returned (.int .i64 (g2 X 6)) ∧ Below W.heap.size W w') := Lib.hid (fun W hW => get2_any a' len c X 6 (by omega) hc W hW)
  have C8 : Hid (∀ W, Sl W (.slice a' len c) X → Calls Try.prog 79 #[.slice a' len c, .int .i64 8] W fun e w' => e = .returned (.int .i64 (g2 X 8)) ∧ Below W.heap.size W w') := Lib.hid (fun W hW => get2_any a' len c X 8 (by omega) hc W hW)
  rw [hm] at C10
  rw [hu] at C8
  rw [hn] at C28
  generalize g4 X 16 = ys at *
  generalize g4 X 20 = yp at *
  generalize g4 X 24 = yz at *
  generalize g2 X 6 = yv at *
  clear hlen hc hs hm hu hn
  go_enter Try.func41, Try.ntmps41
  go_wp2_with fail
  refine (C10.out _ (S0.out.later B0.out)).mono ?_
  rintro e w1 ⟨rfl, h⟩
  have B1 := Lib.hid (B0.out.trans (h.mono B0.out.size))
  have N1 := Lib.hid (N0.out.later h)
  clear h C10 B0 N0
  go_wp2_with fail
  refine (C16.out _ (S0.out.later B1.out)).mono ?_
  rintro e w2 ⟨rfl, h⟩
  have B2 := Lib.hid (B1.out.trans (h.mono B1.out.size))
  have N2 := Lib.hid (N1.out.later h)
  clear h C16 B1 N1
  go_wp2_with fail
  refine (C20.out _ (S0.out.later B2.out)).mono ?_
  rintro e w3 ⟨rfl, h⟩
  have B3 := Lib.hid (B2.out.trans (h.mono B2.out.size))
  have N3 := Lib.hid (N2.out.later h)
  clear h C20 B2 N2
  go_wp2_with fail
  refine (C24.out _ (S0.out.later B3.out)).mono ?_
  rintro e w4 ⟨rfl, h⟩
  have B4 := Lib.hid (B3.out.trans (h.mono B3.out.size))
  have N4 := Lib.hid (N3.out.later h)
  clear h C24 B3 N3
  obtain ⟨w5, hw5⟩ : ∃ v, v = w4.alloc (.cells #[.string ⟨#[]⟩, .int .i64 8, .int .i64 ys, .int .i64 yp, .int .i64 yz, .int .i64 0] 25) := ⟨_, rfl⟩
  have B5 := Lib.hid (show Below w.heap.size w w5 by rw [hw5]; exact B4.out.trans ((below1 w4 _).mono B4.out.size))
  have K5 := Lib.hid (show Has w5 w4.heap.size (.cells #[.string ⟨#[]⟩, .int .i64 8, .int .i64 ys, .int .i64 yp, .int .i64 yz, .int .i64 0] 25) by rw [hw5]; exact Has.new w4 _)
  have N5 := Lib.hid (show Has w5 w.heap.size (.cells #[.string ⟨#[]⟩, .int .i64 0, .int .i64 0, .int .i64 0, .int .i64 0, .int .i64 0] 25) by rw [hw5]; exact N4.out.alloc _)
  have X5 := Lib.hid (show w.heap.size ≠ w4.heap.size from fun hh => by have := N4.out.lt; omega)
  have V5 := Lib.hid hw5
  have HX4 := Lib.hid (show w.heap.size ≤ w4.heap.size from B4.out.size)
  clear hw5 B4 N4
  go_wp2_with fail
  rw [← V5.out]
  clear V5
  refine (C28.out _ (S0.out.later B5.out)).mono ?_
  rintro e w6 ⟨rfl, h⟩
  have B6 := Lib.hid (B5.out.trans (h.mono B5.out.size))
  have N6 := Lib.hid (N5.out.later h)
  have K6 := Lib.hid (K5.out.later h)
  clear h C28 B5 N5 K5
  go_wp2_with fail
  refine (C6.out _ (S0.out.later B6.out)).mono ?_
  rintro e w7 ⟨rfl, h⟩
  have B7 := Lib.hid (B6.out.trans (h.mono B6.out.size))
  have N7 := Lib.hid (N6.out.later h)
  have K7 := Lib.hid (K6.out.later h)
  clear h C6 B6 N6 K6
  go_wp2_with fail
  refine (C8.out _ (S0.out.later B7.out)).mono ?_
  rintro e w8 ⟨rfl, h⟩
  have B8 := Lib.hid (B7.out.trans (h.mono B7.out.size))
  have N8 := Lib.hid (N7.out.later h)
  have K8 := Lib.hid (K7.out.later h)
  clear h C8 B7 N7 K7
  have q1 := (K8.out.cell 1 : _ = some (Value.int .i64 8))
  go_wp2_with (first | (refine wpList_store_row rfl 25 (.tmp 6) (.tmp 56) rfl w.heap.size #[.string ⟨#[]⟩, .int .i64 0, .int .i64 0, .int .i64 0, .int .i64 0, .int .i64 0] rfl rfl 25 _ N8.out hi rfl (by simp [Value.oneCell']) ?_))
  refine bodyPost_ret (results_cell_t rfl _ _ w.heap.size 25 _ (0, 0) _ rfl (setRow_heap _ _ _ _ _ _ N8.out) Try.underlying25 rfl hi) rfl ⟨rfl, below_setRow B8.out (Nat.le_refl _) _⟩

set_option maxHeartbeats 2000000 in
theorem body6_S0 (a' : Option Addr) (len c : Nat) (X : List Nat) (hlen : 46 ≤ len) (hc : len ≤ c) (hm : g2 X 10 = 0) (hv : ¬ 20 < g2 X 6) (hu : g2 X 8 = 0) (nn : Nat) (hn : g2 X 28 = (nn : Int)) (_ : nn ≠ 0) (_ : nn ≤ 65535) (hlt : len < 46 + nn) (w : World) (hs : Sl w (.slice a' len c) X) :
    Calls Try.prog 41 #[.slice a' len c, .int .i64 6, .int .i64 46] w fun e w' => e = .returned (.tuple #[.agg #[.string ⟨#[]⟩, .int .i64 0, .int .i64 0, .int .i64 0, .int .i64 0, .int .i64 0], .int .i64 4]) ∧ Below w.heap.size w w' := by
  have hi : (Try.prog.info? 25).map (·.size) = some 6 := by kernel_rfl
  have S0 := Lib.hid hs
  have B0 := Lib.hid (below1 w (.cells #[.string ⟨#[]⟩, .int .i64 0, .int .i64 0, .int .i64 0, .int .i64 0, .int .i64 0] 25))
  have N0 := Lib.hid (Has.new w (.cells #[.string ⟨#[]⟩, .int .i64 0, .int .i64 0, .int .i64 0, .int .i64 0, .int .i64 0] 25))
  have C10 : Hid (∀ W, Sl W (.slice a' len c) X → Calls Try.prog 79 #[.slice a' len c, .int .i64 10] W fun e w' => e = .returned (.int .i64 (g2 X 10)) ∧ Below W.heap.size W w') := Lib.hid (fun W hW => get2_any a' len c X 10 (by omega) hc W hW)
  have C16 : Hid (∀ W, Sl W (.slice a' len c) X → Calls Try.prog 43 #[.slice a' len c, .int .i64 16] W fun e w' => e = .returned (.int .i64 (g4 X 16)) ∧ Below W.heap.size W w') := Lib.hid (fun W hW => get4_any a' len c X 16 (by omega) hc W hW)
  have C20 : Hid (∀ W, Sl W (.slice a' len c) X → Calls Try.prog 43 #[.slice a' len c, .int .i64 20] W fun e w' => e = .returned (.int .i64 (g4 X 20)) ∧ Below W.heap.size W w') := Lib.hid (fun W hW => get4_any a' len c X 20 (by omega) hc W hW)
  have C24 : Hid (∀ W, Sl W (.slice a' len c) X → Calls Try.prog 43 #[.slice a' len c, .int .i64 24] W fun e w' => e = .returned (.int .i64 (g4 X 24)) ∧ Below W.heap.size W w') := Lib.hid (fun W hW => get4_any a' len c X 24 (by omega) hc W hW)
  have C28 : Hid (∀ W, Sl W (.slice a' len c) X → Calls Try.prog 79 #[.slice a' len c, .int .i64 28] W fun e w' => e = .returned (.int .i64 (g2 X 28)) ∧ Below W.heap.size W w') := Lib.hid (fun W hW => get2_any a' len c X 28 (by omega) hc W hW)
  have C6 : Hid (∀ W, Sl W (.slice a' len c) X → Calls Try.prog 79 #[.slice a' len c, .int .i64 6] W fun e w' => e = .returned (.int .i64 (g2 X 6)) ∧ Below W.heap.size W w') := Lib.hid (fun W hW => get2_any a' len c X 6 (by omega) hc W hW)
  have C8 : Hid (∀ W, Sl W (.slice a' len c) X → Calls Try.prog 79 #[.slice a' len c, .int .i64 8] W fun e w' => e = .returned (.int .i64 (g2 X 8)) ∧ Below W.heap.size W w') := Lib.hid (fun W hW => get2_any a' len c X 8 (by omega) hc W hW)
  rw [hm] at C10
  rw [hu] at C8
  rw [hn] at C28
  obtain ⟨q, hq⟩ : ∃ q, q = 46 + nn := ⟨_, rfl⟩
  have hw : IntKind.i64.wrap (46 + (nn : Int)) = (q : Int) := by rw [IntWalk.i64_in _ (by omega)]; omega
  have z0 : ((nn : Int) == 0) = false := by rw [beq_eq_false_iff_ne]; omega
  have l1 : (len : Int) < (q : Int) := by omega
  generalize g4 X 16 = ys at *
  generalize g4 X 20 = yp at *
  generalize g4 X 24 = yz at *
  generalize g2 X 6 = yv at *
  clear hlen hc hs hq hlt hm hu hn
  go_enter Try.func41, Try.ntmps41
  go_wp2_with fail
  refine (C10.out _ (S0.out.later B0.out)).mono ?_
  rintro e w1 ⟨rfl, h⟩
  have B1 := Lib.hid (B0.out.trans (h.mono B0.out.size))
  have N1 := Lib.hid (N0.out.later h)
  clear h C10 B0 N0
  go_wp2_with fail
  refine (C16.out _ (S0.out.later B1.out)).mono ?_
  rintro e w2 ⟨rfl, h⟩
  have B2 := Lib.hid (B1.out.trans (h.mono B1.out.size))
  have N2 := Lib.hid (N1.out.later h)
  clear h C16 B1 N1
  go_wp2_with fail
  refine (C20.out _ (S0.out.later B2.out)).mono ?_
  rintro e w3 ⟨rfl, h⟩
  have B3 := Lib.hid (B2.out.trans (h.mono B2.out.size))
  have N3 := Lib.hid (N2.out.later h)
  clear h C20 B2 N2
  go_wp2_with fail
  refine (C24.out _ (S0.out.later B3.out)).mono ?_
  rintro e w4 ⟨rfl, h⟩
  have B4 := Lib.hid (B3.out.trans (h.mono B3.out.size))
  have N4 := Lib.hid (N3.out.later h)
  clear h C24 B3 N3
  obtain ⟨w5, hw5⟩ : ∃ v, v = w4.alloc (.cells #[.string ⟨#[]⟩, .int .i64 0, .int .i64 ys, .int .i64 yp, .int .i64 yz, .int .i64 0] 25) := ⟨_, rfl⟩
  have B5 := Lib.hid (show Below w.heap.size w w5 by rw [hw5]; exact B4.out.trans ((below1 w4 _).mono B4.out.size))
  have K5 := Lib.hid (show Has w5 w4.heap.size (.cells #[.string ⟨#[]⟩, .int .i64 0, .int .i64 ys, .int .i64 yp, .int .i64 yz, .int .i64 0] 25) by rw [hw5]; exact Has.new w4 _)
  have N5 := Lib.hid (show Has w5 w.heap.size (.cells #[.string ⟨#[]⟩, .int .i64 0, .int .i64 0, .int .i64 0, .int .i64 0, .int .i64 0] 25) by rw [hw5]; exact N4.out.alloc _)
  have X5 := Lib.hid (show w.heap.size ≠ w4.heap.size from fun hh => by have := N4.out.lt; omega)
  have V5 := Lib.hid hw5
  have HX4 := Lib.hid (show w.heap.size ≤ w4.heap.size from B4.out.size)
  clear hw5 B4 N4
  go_wp2_with fail
  rw [← V5.out]
  clear V5
  refine (C28.out _ (S0.out.later B5.out)).mono ?_
  rintro e w6 ⟨rfl, h⟩
  have B6 := Lib.hid (B5.out.trans (h.mono B5.out.size))
  have N6 := Lib.hid (N5.out.later h)
  have K6 := Lib.hid (K5.out.later h)
  clear h C28 B5 N5 K5
  go_wp2_with fail
  refine (C6.out _ (S0.out.later B6.out)).mono ?_
  rintro e w7 ⟨rfl, h⟩
  have B7 := Lib.hid (B6.out.trans (h.mono B6.out.size))
  have N7 := Lib.hid (N6.out.later h)
  have K7 := Lib.hid (K6.out.later h)
  clear h C6 B6 N6 K6
  go_wp2_with fail
  refine (C8.out _ (S0.out.later B7.out)).mono ?_
  rintro e w8 ⟨rfl, h⟩
  have B8 := Lib.hid (B7.out.trans (h.mono B7.out.size))
  have N8 := Lib.hid (N7.out.later h)
  have K8 := Lib.hid (K7.out.later h)
  clear h C8 B7 N7 K7
  have q1 := (K8.out.cell 1 : _ = some (Value.int .i64 0))
  go_wp2_with (first | (refine wpList_store_row rfl 25 (.tmp 6) (.tmp 63) rfl w.heap.size #[.string ⟨#[]⟩, .int .i64 0, .int .i64 0, .int .i64 0, .int .i64 0, .int .i64 0] rfl rfl 25 _ N8.out hi rfl (by simp [Value.oneCell']) ?_))
  refine bodyPost_ret (results_cell_t rfl _ _ w.heap.size 25 _ (0, 0) _ rfl (setRow_heap _ _ _ _ _ _ N8.out) Try.underlying25 rfl hi) rfl ⟨rfl, below_setRow B8.out (Nat.le_refl _) _⟩

set_option maxHeartbeats 2000000 in
theorem body6_S8 (a' : Option Addr) (len c : Nat) (X : List Nat) (hlen : 46 ≤ len) (hc : len ≤ c) (hm : g2 X 10 = 8) (hv : ¬ 20 < g2 X 6) (hu : g2 X 8 = 0) (nn : Nat) (hn : g2 X 28 = (nn : Int)) (_ : nn ≠ 0) (_ : nn ≤ 65535) (hlt : len < 46 + nn) (w : World) (hs : Sl w (.slice a' len c) X) :
    Calls Try.prog 41 #[.slice a' len c, .int .i64 6, .int .i64 46] w fun e w' => e = .returned (.tuple #[.agg #[.string ⟨#[]⟩, .int .i64 0, .int .i64 0, .int .i64 0, .int .i64 0, .int .i64 0], .int .i64 4]) ∧ Below w.heap.size w w' := by
  have hi : (Try.prog.info? 25).map (·.size) = some 6 := by kernel_rfl
  have S0 := Lib.hid hs
  have B0 := Lib.hid (below1 w (.cells #[.string ⟨#[]⟩, .int .i64 0, .int .i64 0, .int .i64 0, .int .i64 0, .int .i64 0] 25))
  have N0 := Lib.hid (Has.new w (.cells #[.string ⟨#[]⟩, .int .i64 0, .int .i64 0, .int .i64 0, .int .i64 0, .int .i64 0] 25))
  have C10 : Hid (∀ W, Sl W (.slice a' len c) X → Calls Try.prog 79 #[.slice a' len c, .int .i64 10] W fun e w' => e = .returned (.int .i64 (g2 X 10)) ∧ Below W.heap.size W w') := Lib.hid (fun W hW => get2_any a' len c X 10 (by omega) hc W hW)
  have C16 : Hid (∀ W, Sl W (.slice a' len c) X → Calls Try.prog 43 #[.slice a' len c, .int .i64 16] W fun e w' => e = .returned (.int .i64 (g4 X 16)) ∧ Below W.heap.size W w') := Lib.hid (fun W hW => get4_any a' len c X 16 (by omega) hc W hW)
  have C20 : Hid (∀ W, Sl W (.slice a' len c) X → Calls Try.prog 43 #[.slice a' len c, .int .i64 20] W fun e w' => e = .returned (.int .i64 (g4 X 20)) ∧ Below W.heap.size W w') := Lib.hid (fun W hW => get4_any a' len c X 20 (by omega) hc W hW)
  have C24 : Hid (∀ W, Sl W (.slice a' len c) X → Calls Try.prog 43 #[.slice a' len c, .int .i64 24] W fun e w' => e = .returned (.int .i64 (g4 X 24)) ∧ Below W.heap.size W w') := Lib.hid (fun W hW => get4_any a' len c X 24 (by omega) hc W hW)
  have C28 : Hid (∀ W, Sl W (.slice a' len c) X → Calls Try.prog 79 #[.slice a' len c, .int .i64 28] W fun e w' => e = .returned (.int .i64 (g2 X 28)) ∧ Below W.heap.size W w') := Lib.hid (fun W hW => get2_any a' len c X 28 (by omega) hc W hW)
  have C6 : Hid (∀ W, Sl W (.slice a' len c) X → Calls Try.prog 79 #[.slice a' len c, .int .i64 6] W fun e w' => e = .returned (.int .i64 (g2 X 6)) ∧ Below W.heap.size W w') := Lib.hid (fun W hW => get2_any a' len c X 6 (by omega) hc W hW)
  have C8 : Hid (∀ W, Sl W (.slice a' len c) X → Calls Try.prog 79 #[.slice a' len c, .int .i64 8] W fun e w' => e = .returned (.int .i64 (g2 X 8)) ∧ Below W.heap.size W w') := Lib.hid (fun W hW => get2_any a' len c X 8 (by omega) hc W hW)
  rw [hm] at C10
  rw [hu] at C8
  rw [hn] at C28
  obtain ⟨q, hq⟩ : ∃ q, q = 46 + nn := ⟨_, rfl⟩
  have hw : IntKind.i64.wrap (46 + (nn : Int)) = (q : Int) := by rw [IntWalk.i64_in _ (by omega)]; omega
  have z0 : ((nn : Int) == 0) = false := by rw [beq_eq_false_iff_ne]; omega
  have l1 : (len : Int) < (q : Int) := by omega
  generalize g4 X 16 = ys at *
  generalize g4 X 20 = yp at *
  generalize g4 X 24 = yz at *
  generalize g2 X 6 = yv at *
  clear hlen hc hs hq hlt hm hu hn
  go_enter Try.func41, Try.ntmps41
  go_wp2_with fail
  refine (C10.out _ (S0.out.later B0.out)).mono ?_
  rintro e w1 ⟨rfl, h⟩
  have B1 := Lib.hid (B0.out.trans (h.mono B0.out.size))
  have N1 := Lib.hid (N0.out.later h)
  clear h C10 B0 N0
  go_wp2_with fail
  refine (C16.out _ (S0.out.later B1.out)).mono ?_
  rintro e w2 ⟨rfl, h⟩
  have B2 := Lib.hid (B1.out.trans (h.mono B1.out.size))
  have N2 := Lib.hid (N1.out.later h)
  clear h C16 B1 N1
  go_wp2_with fail
  refine (C20.out _ (S0.out.later B2.out)).mono ?_
  rintro e w3 ⟨rfl, h⟩
  have B3 := Lib.hid (B2.out.trans (h.mono B2.out.size))
  have N3 := Lib.hid (N2.out.later h)
  clear h C20 B2 N2
  go_wp2_with fail
  refine (C24.out _ (S0.out.later B3.out)).mono ?_
  rintro e w4 ⟨rfl, h⟩
  have B4 := Lib.hid (B3.out.trans (h.mono B3.out.size))
  have N4 := Lib.hid (N3.out.later h)
  clear h C24 B3 N3
  obtain ⟨w5, hw5⟩ : ∃ v, v = w4.alloc (.cells #[.string ⟨#[]⟩, .int .i64 8, .int .i64 ys, .int .i64 yp, .int .i64 yz, .int .i64 0] 25) := ⟨_, rfl⟩
  have B5 := Lib.hid (show Below w.heap.size w w5 by rw [hw5]; exact B4.out.trans ((below1 w4 _).mono B4.out.size))
  have K5 := Lib.hid (show Has w5 w4.heap.size (.cells #[.string ⟨#[]⟩, .int .i64 8, .int .i64 ys, .int .i64 yp, .int .i64 yz, .int .i64 0] 25) by rw [hw5]; exact Has.new w4 _)
  have N5 := Lib.hid (show Has w5 w.heap.size (.cells #[.string ⟨#[]⟩, .int .i64 0, .int .i64 0, .int .i64 0, .int .i64 0, .int .i64 0] 25) by rw [hw5]; exact N4.out.alloc _)
  have X5 := Lib.hid (show w.heap.size ≠ w4.heap.size from fun hh => by have := N4.out.lt; omega)
  have V5 := Lib.hid hw5
  have HX4 := Lib.hid (show w.heap.size ≤ w4.heap.size from B4.out.size)
  clear hw5 B4 N4
  go_wp2_with fail
  rw [← V5.out]
  clear V5
  refine (C28.out _ (S0.out.later B5.out)).mono ?_
  rintro e w6 ⟨rfl, h⟩
  have B6 := Lib.hid (B5.out.trans (h.mono B5.out.size))
  have N6 := Lib.hid (N5.out.later h)
  have K6 := Lib.hid (K5.out.later h)
  clear h C28 B5 N5 K5
  go_wp2_with fail
  refine (C6.out _ (S0.out.later B6.out)).mono ?_
  rintro e w7 ⟨rfl, h⟩
  have B7 := Lib.hid (B6.out.trans (h.mono B6.out.size))
  have N7 := Lib.hid (N6.out.later h)
  have K7 := Lib.hid (K6.out.later h)
  clear h C6 B6 N6 K6
  go_wp2_with fail
  refine (C8.out _ (S0.out.later B7.out)).mono ?_
  rintro e w8 ⟨rfl, h⟩
  have B8 := Lib.hid (B7.out.trans (h.mono B7.out.size))
  have N8 := Lib.hid (N7.out.later h)
  have K8 := Lib.hid (K7.out.later h)
  clear h C8 B7 N7 K7
  have q1 := (K8.out.cell 1 : _ = some (Value.int .i64 8))
  go_wp2_with (first | (refine wpList_store_row rfl 25 (.tmp 6) (.tmp 63) rfl w.heap.size #[.string ⟨#[]⟩, .int .i64 0, .int .i64 0, .int .i64 0, .int .i64 0, .int .i64 0] rfl rfl 25 _ N8.out hi rfl (by simp [Value.oneCell']) ?_))
  refine bodyPost_ret (results_cell_t rfl _ _ w.heap.size 25 _ (0, 0) _ rfl (setRow_heap _ _ _ _ _ _ N8.out) Try.underlying25 rfl hi) rfl ⟨rfl, below_setRow B8.out (Nat.le_refl _) _⟩

set_option maxHeartbeats 2000000 in
theorem body6_O0 (a' : Option Addr) (len c : Nat) (X : List Nat) (hlen : 46 ≤ len) (hc : len ≤ c) (hm : g2 X 10 = 0) (hv : ¬ 20 < g2 X 6) (hu : g2 X 8 = 0) (nn : Nat) (hn : g2 X 28 = (nn : Int)) (hn0 : nn ≠ 0) (_ : nn ≤ 65535) (hlt : 46 + nn ≤ len) (w : World) (hs : Sl w (.slice a' len c) X) :
    Calls Try.prog 41 #[.slice a' len c, .int .i64 6, .int .i64 46] w fun e w' => e = .returned (.tuple #[.agg #[.string (strB ((X.drop 46).take nn)), .int .i64 0, .int .i64 (g4 X 16), .int .i64 (g4 X 20), .int .i64 (g4 X 24), .int .i64 0], .int .i64 0]) ∧ Below w.heap.size w w' := by
  have hi : (Try.prog.info? 25).map (·.size) = some 6 := by kernel_rfl
  have S0 := Lib.hid hs
  have B0 := Lib.hid (below1 w (.cells #[.string ⟨#[]⟩, .int .i64 0, .int .i64 0, .int .i64 0, .int .i64 0, .int .i64 0] 25))
  have N0 := Lib.hid (Has.new w (.cells #[.string ⟨#[]⟩, .int .i64 0, .int .i64 0, .int .i64 0, .int .i64 0, .int .i64 0] 25))
  have C10 : Hid (∀ W, Sl W (.slice a' len c) X → Calls Try.prog 79 #[.slice a' len c, .int .i64 10] W fun e w' => e = .returned (.int .i64 (g2 X 10)) ∧ Below W.heap.size W w') := Lib.hid (fun W hW => get2_any a' len c X 10 (by omega) hc W hW)
  have C16 : Hid (∀ W, Sl W (.slice a' len c) X → Calls Try.prog 43 #[.slice a' len c, .int .i64 16] W fun e w' => e = .returned (.int .i64 (g4 X 16)) ∧ Below W.heap.size W w') := Lib.hid (fun W hW => get4_any a' len c X 16 (by omega) hc W hW)
  have C20 : Hid (∀ W, Sl W (.slice a' len c) X → Calls Try.prog 43 #[.slice a' len c, .int .i64 20] W fun e w' => e = .returned (.int .i64 (g4 X 20)) ∧ Below W.heap.size W w') := Lib.hid (fun W hW => get4_any a' len c X 20 (by omega) hc W hW)
  have C24 : Hid (∀ W, Sl W (.slice a' len c) X → Calls Try.prog 43 #[.slice a' len c, .int .i64 24] W fun e w' => e = .returned (.int .i64 (g4 X 24)) ∧ Below W.heap.size W w') := Lib.hid (fun W hW => get4_any a' len c X 24 (by omega) hc W hW)
  have C28 : Hid (∀ W, Sl W (.slice a' len c) X → Calls Try.prog 79 #[.slice a' len c, .int .i64 28] W fun e w' => e = .returned (.int .i64 (g2 X 28)) ∧ Below W.heap.size W w') := Lib.hid (fun W hW => get2_any a' len c X 28 (by omega) hc W hW)
  have C6 : Hid (∀ W, Sl W (.slice a' len c) X → Calls Try.prog 79 #[.slice a' len c, .int .i64 6] W fun e w' => e = .returned (.int .i64 (g2 X 6)) ∧ Below W.heap.size W w') := Lib.hid (fun W hW => get2_any a' len c X 6 (by omega) hc W hW)
  have C8 : Hid (∀ W, Sl W (.slice a' len c) X → Calls Try.prog 79 #[.slice a' len c, .int .i64 8] W fun e w' => e = .returned (.int .i64 (g2 X 8)) ∧ Below W.heap.size W w') := Lib.hid (fun W hW => get2_any a' len c X 8 (by omega) hc W hW)
  rw [hm] at C10
  rw [hu] at C8
  rw [hn] at C28
  obtain ⟨q, hq⟩ : ∃ q, q = 46 + nn := ⟨_, rfl⟩
  have hw : IntKind.i64.wrap (46 + (nn : Int)) = (q : Int) := by rw [IntWalk.i64_in _ (by omega)]; omega
  have z0 : ((nn : Int) == 0) = false := by rw [beq_eq_false_iff_ne]; omega
  have l1 : ¬ ((len : Int) < (q : Int)) := by omega
  have l2 : (46 : Int) ≤ (q : Int) := by omega
  have l3 : (q : Int) ≤ (c : Int) := by omega
  have l4 : 46 ≤ q := by omega
  have l5 : q ≤ c := by omega
  have e1 : q - 46 = nn := by omega
  have e2 : ¬ c = 46 := by omega
  have HL := Lib.hid (show 46 + nn ≤ len by omega)
  have HN0 := Lib.hid hn0
  obtain ⟨M, hM⟩ : ∃ M, M = strB ((X.drop 46).take nn) := ⟨_, rfl⟩
  have HM := Lib.hid hM
  rw [← hM]
  generalize g4 X 16 = ys at *
  generalize g4 X 20 = yp at *
  generalize g4 X 24 = yz at *
  generalize g2 X 6 = yv at *
  clear hlen hc hs hq hn0 hlt hM hm hu hn
  go_enter Try.func41, Try.ntmps41
  go_wp2_with fail
  refine (C10.out _ (S0.out.later B0.out)).mono ?_
  rintro e w1 ⟨rfl, h⟩
  have B1 := Lib.hid (B0.out.trans (h.mono B0.out.size))
  have N1 := Lib.hid (N0.out.later h)
  clear h C10 B0 N0
  go_wp2_with fail
  refine (C16.out _ (S0.out.later B1.out)).mono ?_
  rintro e w2 ⟨rfl, h⟩
  have B2 := Lib.hid (B1.out.trans (h.mono B1.out.size))
  have N2 := Lib.hid (N1.out.later h)
  clear h C16 B1 N1
  go_wp2_with fail
  refine (C20.out _ (S0.out.later B2.out)).mono ?_
  rintro e w3 ⟨rfl, h⟩
  have B3 := Lib.hid (B2.out.trans (h.mono B2.out.size))
  have N3 := Lib.hid (N2.out.later h)
  clear h C20 B2 N2
  go_wp2_with fail
  refine (C24.out _ (S0.out.later B3.out)).mono ?_
  rintro e w4 ⟨rfl, h⟩
  have B4 := Lib.hid (B3.out.trans (h.mono B3.out.size))
  have N4 := Lib.hid (N3.out.later h)
  clear h C24 B3 N3
  obtain ⟨w5, hw5⟩ : ∃ v, v = w4.alloc (.cells #[.string ⟨#[]⟩, .int .i64 0, .int .i64 ys, .int .i64 yp, .int .i64 yz, .int .i64 0] 25) := ⟨_, rfl⟩
  have B5 := Lib.hid (show Below w.heap.size w w5 by rw [hw5]; exact B4.out.trans ((below1 w4 _).mono B4.out.size))
  have K5 := Lib.hid (show Has w5 w4.heap.size (.cells #[.string ⟨#[]⟩, .int .i64 0, .int .i64 ys, .int .i64 yp, .int .i64 yz, .int .i64 0] 25) by rw [hw5]; exact Has.new w4 _)
  have N5 := Lib.hid (show Has w5 w.heap.size (.cells #[.string ⟨#[]⟩, .int .i64 0, .int .i64 0, .int .i64 0, .int .i64 0, .int .i64 0] 25) by rw [hw5]; exact N4.out.alloc _)
  have X5 := Lib.hid (show w.heap.size ≠ w4.heap.size from fun hh => by have := N4.out.lt; omega)
  have V5 := Lib.hid hw5
  have HX4 := Lib.hid (show w.heap.size ≤ w4.heap.size from B4.out.size)
  clear hw5 B4 N4
  go_wp2_with fail
  rw [← V5.out]
  clear V5
  refine (C28.out _ (S0.out.later B5.out)).mono ?_
  rintro e w6 ⟨rfl, h⟩
  have B6 := Lib.hid (B5.out.trans (h.mono B5.out.size))
  have N6 := Lib.hid (N5.out.later h)
  have K6 := Lib.hid (K5.out.later h)
  clear h C28 B5 N5 K5
  go_wp2_with fail
  refine (C6.out _ (S0.out.later B6.out)).mono ?_
  rintro e w7 ⟨rfl, h⟩
  have B7 := Lib.hid (B6.out.trans (h.mono B6.out.size))
  have N7 := Lib.hid (N6.out.later h)
  have K7 := Lib.hid (K6.out.later h)
  clear h C6 B6 N6 K6
  go_wp2_with fail
  refine (C8.out _ (S0.out.later B7.out)).mono ?_
  rintro e w8 ⟨rfl, h⟩
  have B8 := Lib.hid (B7.out.trans (h.mono B7.out.size))
  have N8 := Lib.hid (N7.out.later h)
  have K8 := Lib.hid (K7.out.later h)
  clear h C8 B7 N7 K7
  have q1 := (K8.out.cell 1 : _ = some (Value.int .i64 0))
  have q0 := (K8.out.cell 0 : _ = some (Value.string ⟨#[]⟩))
  have f0 := K8.out.free 0
  have hcv := string_of w8 _ nn (c - 46) _ M ((S0.out.later B8.out).cut 46 nn HL.out HN0.out (c - 46)) HM
  rw [show (fun x : Addr => x.add 46) = (fun x => { x with off := x.off + 46, spot := none }) from by funext x; simp [Addr.add]] at hcv
  have K9 := Lib.hid (show Has (w8.setCell ⟨w4.heap.size, 0, none⟩ (.string M)) w4.heap.size (.cells #[.string M, .int .i64 0, .int .i64 ys, .int .i64 yp, .int .i64 yz, .int .i64 0] 25) from Has.setSelf (i := 0) K8.out (.string M))
  have N9 := Lib.hid (show Has (w8.setCell ⟨w4.heap.size, 0, none⟩ (.string M)) w.heap.size (.cells #[.string ⟨#[]⟩, .int .i64 0, .int .i64 0, .int .i64 0, .int .i64 0, .int .i64 0] 25) from N8.out.set X5.out _)
  have B9 := Lib.hid (show Below w.heap.size w (w8.setCell ⟨w4.heap.size, 0, none⟩ (.string M)) from B8.out.setCell (by show w.heap.size ≤ w4.heap.size; have := N8.out.lt; have := X5.out; have := HX4.out; omega) _)
  go_wp2_with (first | (refine wpList_load_row rfl 25 (.tmp 8) rfl w4.heap.size rfl 25 _ (0, 0) _ K9.out Try.underlying25 rfl hi ?_) | (refine wpList_store_row rfl 25 (.tmp 6) (.tmp 72) rfl w.heap.size #[.string M, .int .i64 0, .int .i64 ys, .int .i64 yp, .int .i64 yz, .int .i64 0] rfl rfl 25 _ N9.out hi rfl (by simp [Value.oneCell']) ?_))
  refine bodyPost_ret (results_cell_t rfl _ _ w.heap.size 25 #[.string M, .int .i64 0, .int .i64 ys, .int .i64 yp, .int .i64 yz, .int .i64 0] (0, 0) _ rfl (setRow_heap _ _ _ _ _ _ N9.out) Try.underlying25 rfl hi) rfl ⟨rfl, below_setRow B9.out (Nat.le_refl _) _⟩

set_option maxHeartbeats 2000000 in
theorem body6_O8 (a' : Option Addr) (len c : Nat) (X : List Nat) (hlen : 46 ≤ len) (hc : len ≤ c) (hm : g2 X 10 = 8) (hv : ¬ 20 < g2 X 6) (hu : g2 X 8 = 0) (nn : Nat) (hn : g2 X 28 = (nn : Int)) (hn0 : nn ≠ 0) (_ : nn ≤ 65535) (hlt : 46 + nn ≤ len) (w : World) (hs : Sl w (.slice a' len c) X) :
    Calls Try.prog 41 #[.slice a' len c, .int .i64 6, .int .i64 46] w fun e w' => e = .returned (.tuple #[.agg #[.string (strB ((X.drop 46).take nn)), .int .i64 8, .int .i64 (g4 X 16), .int .i64 (g4 X 20), .int .i64 (g4 X 24), .int .i64 0], .int .i64 0]) ∧ Below w.heap.size w w' := by
  have hi : (Try.prog.info? 25).map (·.size) = some 6 := by kernel_rfl
  have S0 := Lib.hid hs
  have B0 := Lib.hid (below1 w (.cells #[.string ⟨#[]⟩, .int .i64 0, .int .i64 0, .int .i64 0, .int .i64 0, .int .i64 0] 25))
  have N0 := Lib.hid (Has.new w (.cells #[.string ⟨#[]⟩, .int .i64 0, .int .i64 0, .int .i64 0, .int .i64 0, .int .i64 0] 25))
  have C10 : Hid (∀ W, Sl W (.slice a' len c) X → Calls Try.prog 79 #[.slice a' len c, .int .i64 10] W fun e w' => e = .returned (.int .i64 (g2 X 10)) ∧ Below W.heap.size W w') := Lib.hid (fun W hW => get2_any a' len c X 10 (by omega) hc W hW)
  have C16 : Hid (∀ W, Sl W (.slice a' len c) X → Calls Try.prog 43 #[.slice a' len c, .int .i64 16] W fun e w' => e = .returned (.int .i64 (g4 X 16)) ∧ Below W.heap.size W w') := Lib.hid (fun W hW => get4_any a' len c X 16 (by omega) hc W hW)
  have C20 : Hid (∀ W, Sl W (.slice a' len c) X → Calls Try.prog 43 #[.slice a' len c, .int .i64 20] W fun e w' => e = .returned (.int .i64 (g4 X 20)) ∧ Below W.heap.size W w') := Lib.hid (fun W hW => get4_any a' len c X 20 (by omega) hc W hW)
  have C24 : Hid (∀ W, Sl W (.slice a' len c) X → Calls Try.prog 43 #[.slice a' len c, .int .i64 24] W fun e w' => e = .returned (.int .i64 (g4 X 24)) ∧ Below W.heap.size W w') := Lib.hid (fun W hW => get4_any a' len c X 24 (by omega) hc W hW)
  have C28 : Hid (∀ W, Sl W (.slice a' len c) X → Calls Try.prog 79 #[.slice a' len c, .int .i64 28] W fun e w' => e = .returned (.int .i64 (g2 X 28)) ∧ Below W.heap.size W w') := Lib.hid (fun W hW => get2_any a' len c X 28 (by omega) hc W hW)
  have C6 : Hid (∀ W, Sl W (.slice a' len c) X → Calls Try.prog 79 #[.slice a' len c, .int .i64 6] W fun e w' => e = .returned (.int .i64 (g2 X 6)) ∧ Below W.heap.size W w') := Lib.hid (fun W hW => get2_any a' len c X 6 (by omega) hc W hW)
  have C8 : Hid (∀ W, Sl W (.slice a' len c) X → Calls Try.prog 79 #[.slice a' len c, .int .i64 8] W fun e w' => e = .returned (.int .i64 (g2 X 8)) ∧ Below W.heap.size W w') := Lib.hid (fun W hW => get2_any a' len c X 8 (by omega) hc W hW)
  rw [hm] at C10
  rw [hu] at C8
  rw [hn] at C28
  obtain ⟨q, hq⟩ : ∃ q, q = 46 + nn := ⟨_, rfl⟩
  have hw : IntKind.i64.wrap (46 + (nn : Int)) = (q : Int) := by rw [IntWalk.i64_in _ (by omega)]; omega
  have z0 : ((nn : Int) == 0) = false := by rw [beq_eq_false_iff_ne]; omega
  have l1 : ¬ ((len : Int) < (q : Int)) := by omega
  have l2 : (46 : Int) ≤ (q : Int) := by omega
  have l3 : (q : Int) ≤ (c : Int) := by omega
  have l4 : 46 ≤ q := by omega
  have l5 : q ≤ c := by omega
  have e1 : q - 46 = nn := by omega
  have e2 : ¬ c = 46 := by omega
  have HL := Lib.hid (show 46 + nn ≤ len by omega)
  have HN0 := Lib.hid hn0
  obtain ⟨M, hM⟩ : ∃ M, M = strB ((X.drop 46).take nn) := ⟨_, rfl⟩
  have HM := Lib.hid hM
  rw [← hM]
  generalize g4 X 16 = ys at *
  generalize g4 X 20 = yp at *
  generalize g4 X 24 = yz at *
  generalize g2 X 6 = yv at *
  clear hlen hc hs hq hn0 hlt hM hm hu hn
  go_enter Try.func41, Try.ntmps41
  go_wp2_with fail
  refine (C10.out _ (S0.out.later B0.out)).mono ?_
  rintro e w1 ⟨rfl, h⟩
  have B1 := Lib.hid (B0.out.trans (h.mono B0.out.size))
  have N1 := Lib.hid (N0.out.later h)
  clear h C10 B0 N0
  go_wp2_with fail
  refine (C16.out _ (S0.out.later B1.out)).mono ?_
  rintro e w2 ⟨rfl, h⟩
  have B2 := Lib.hid (B1.out.trans (h.mono B1.out.size))
  have N2 := Lib.hid (N1.out.later h)
  clear h C16 B1 N1
  go_wp2_with fail
  refine (C20.out _ (S0.out.later B2.out)).mono ?_
  rintro e w3 ⟨rfl, h⟩
  have B3 := Lib.hid (B2.out.trans (h.mono B2.out.size))
  have N3 := Lib.hid (N2.out.later h)
  clear h C20 B2 N2
  go_wp2_with fail
  refine (C24.out _ (S0.out.later B3.out)).mono ?_
  rintro e w4 ⟨rfl, h⟩
  have B4 := Lib.hid (B3.out.trans (h.mono B3.out.size))
  have N4 := Lib.hid (N3.out.later h)
  clear h C24 B3 N3
  obtain ⟨w5, hw5⟩ : ∃ v, v = w4.alloc (.cells #[.string ⟨#[]⟩, .int .i64 8, .int .i64 ys, .int .i64 yp, .int .i64 yz, .int .i64 0] 25) := ⟨_, rfl⟩
  have B5 := Lib.hid (show Below w.heap.size w w5 by rw [hw5]; exact B4.out.trans ((below1 w4 _).mono B4.out.size))
  have K5 := Lib.hid (show Has w5 w4.heap.size (.cells #[.string ⟨#[]⟩, .int .i64 8, .int .i64 ys, .int .i64 yp, .int .i64 yz, .int .i64 0] 25) by rw [hw5]; exact Has.new w4 _)
  have N5 := Lib.hid (show Has w5 w.heap.size (.cells #[.string ⟨#[]⟩, .int .i64 0, .int .i64 0, .int .i64 0, .int .i64 0, .int .i64 0] 25) by rw [hw5]; exact N4.out.alloc _)
  have X5 := Lib.hid (show w.heap.size ≠ w4.heap.size from fun hh => by have := N4.out.lt; omega)
  have V5 := Lib.hid hw5
  have HX4 := Lib.hid (show w.heap.size ≤ w4.heap.size from B4.out.size)
  clear hw5 B4 N4
  go_wp2_with fail
  rw [← V5.out]
  clear V5
  refine (C28.out _ (S0.out.later B5.out)).mono ?_
  rintro e w6 ⟨rfl, h⟩
  have B6 := Lib.hid (B5.out.trans (h.mono B5.out.size))
  have N6 := Lib.hid (N5.out.later h)
  have K6 := Lib.hid (K5.out.later h)
  clear h C28 B5 N5 K5
  go_wp2_with fail
  refine (C6.out _ (S0.out.later B6.out)).mono ?_
  rintro e w7 ⟨rfl, h⟩
  have B7 := Lib.hid (B6.out.trans (h.mono B6.out.size))
  have N7 := Lib.hid (N6.out.later h)
  have K7 := Lib.hid (K6.out.later h)
  clear h C6 B6 N6 K6
  go_wp2_with fail
  refine (C8.out _ (S0.out.later B7.out)).mono ?_
  rintro e w8 ⟨rfl, h⟩
  have B8 := Lib.hid (B7.out.trans (h.mono B7.out.size))
  have N8 := Lib.hid (N7.out.later h)
  have K8 := Lib.hid (K7.out.later h)
  clear h C8 B7 N7 K7
  have q1 := (K8.out.cell 1 : _ = some (Value.int .i64 8))
  have q0 := (K8.out.cell 0 : _ = some (Value.string ⟨#[]⟩))
  have f0 := K8.out.free 0
  have hcv := string_of w8 _ nn (c - 46) _ M ((S0.out.later B8.out).cut 46 nn HL.out HN0.out (c - 46)) HM
  rw [show (fun x : Addr => x.add 46) = (fun x => { x with off := x.off + 46, spot := none }) from by funext x; simp [Addr.add]] at hcv
  have K9 := Lib.hid (show Has (w8.setCell ⟨w4.heap.size, 0, none⟩ (.string M)) w4.heap.size (.cells #[.string M, .int .i64 8, .int .i64 ys, .int .i64 yp, .int .i64 yz, .int .i64 0] 25) from Has.setSelf (i := 0) K8.out (.string M))
  have N9 := Lib.hid (show Has (w8.setCell ⟨w4.heap.size, 0, none⟩ (.string M)) w.heap.size (.cells #[.string ⟨#[]⟩, .int .i64 0, .int .i64 0, .int .i64 0, .int .i64 0, .int .i64 0] 25) from N8.out.set X5.out _)
  have B9 := Lib.hid (show Below w.heap.size w (w8.setCell ⟨w4.heap.size, 0, none⟩ (.string M)) from B8.out.setCell (by show w.heap.size ≤ w4.heap.size; have := N8.out.lt; have := X5.out; have := HX4.out; omega) _)
  go_wp2_with (first | (refine wpList_load_row rfl 25 (.tmp 8) rfl w4.heap.size rfl 25 _ (0, 0) _ K9.out Try.underlying25 rfl hi ?_) | (refine wpList_store_row rfl 25 (.tmp 6) (.tmp 72) rfl w.heap.size #[.string M, .int .i64 8, .int .i64 ys, .int .i64 yp, .int .i64 yz, .int .i64 0] rfl rfl 25 _ N9.out hi rfl (by simp [Value.oneCell']) ?_))
  refine bodyPost_ret (results_cell_t rfl _ _ w.heap.size 25 #[.string M, .int .i64 8, .int .i64 ys, .int .i64 yp, .int .i64 yz, .int .i64 0] (0, 0) _ rfl (setRow_heap _ _ _ _ _ _ N9.out) Try.underlying25 rfl hi) rfl ⟨rfl, below_setRow B9.out (Nat.le_refl _) _⟩

end Go.Proofs.Ytillckjohlbaiaa
