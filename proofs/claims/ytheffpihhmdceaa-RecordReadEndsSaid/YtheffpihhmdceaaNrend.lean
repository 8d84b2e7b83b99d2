/- Contract of the document's ReadEnd. -/
import Derived.Test.YtheffpihhmdceaaNzero
import Derived.Test.YtheffpihhmdceaaNlives

namespace Go.Proofs.Ytheffpihhmdceaa
set_option maxRecDepth 100000
open Go.RowKit

theorem drop_sl {w : World} {a : Option Addr} {len cap : Nat} {bs : List Nat} (h : Sl w (.slice a len cap) bs) (k m c : Nat) (hm : len = k + m) (h0 : m ≠ 0) : Sl w (.slice (Option.map (fun x => x.add k) a) m c) (bs.drop k) := by
  have := h.cut k m (by omega) h0 c
  rwa [List.take_of_length_le (by rw [List.length_drop, ← h.len.1]; omega)] at this

set_option maxHeartbeats 1000000 in
theorem rend_out (a : Option Addr) (len cap : Nat) (i : Int) (h : i < 0 ∨ (len : Int) < i) (w : World) :
    Calls Try.prog 25 #[.slice a len cap, .int .i64 i] w fun e w' => e = .returned (.tuple #[.int .i64 0, .int .i64 0, .int .i64 0, .int .i64 2]) ∧ Below w.heap.size w w' := by
  have C : Hid (Calls Try.prog 37 #[.slice a len cap, .int .i64 i, .int .i64 22] w fun e w' => e = .returned (.tuple #[.slice none 0 0, .int .i64 2]) ∧ w = w') := Lib.hid (begin_out a len cap i 22 h w)
  clear h
  go_enter Try.func25, Try.ntmps25
  go_wp2_with fail
  refine C.out.mono ?_
  rintro e w1 ⟨rfl, rfl⟩
  go_wp2
  refine bodyPost_ret (results_tmp4 rfl _ _ _) rfl ⟨rfl, Below.refl _ _⟩

set_option maxHeartbeats 1000000 in
theorem rend_short (a : Option Addr) (len cap : Nat) (k : Nat) (hl : len ≤ 281474976710656) (hk : k ≤ len) (h : len < k + 22) (w : World) :
    Calls Try.prog 25 #[.slice a len cap, .int .i64 (k : Int)] w fun e w' => e = .returned (.tuple #[.int .i64 0, .int .i64 0, .int .i64 0, .int .i64 4]) ∧ Below w.heap.size w w' := by
  have C : Hid (Calls Try.prog 37 #[.slice a len cap, .int .i64 (k : Int), .int .i64 22] w fun e w' => e = .returned (.tuple #[.slice none 0 0, .int .i64 4]) ∧ w = w') := Lib.hid (begin_short a len cap k 22 hl hk h w)
  clear h hl hk
  go_enter Try.func25, Try.ntmps25
  go_wp2_with fail
  refine C.out.mono ?_
  rintro e w1 ⟨rfl, rfl⟩
  go_wp2
  refine bodyPost_ret (results_tmp4 rfl _ _ _) rfl ⟨rfl, Below.refl _ _⟩

set_option maxHeartbeats 1000000 in
theorem rend_mark (a : Option Addr) (len cap k m c : Nat) (bs : List Nat) (hm : len = k + m) (hcm : cap = k + c) (hmc : m ≤ c) (h22 : 22 ≤ m) (w : World) (hs : Sl w (.slice a len cap) bs) (h : (bs.drop k).take 4 ≠ [80, 75, 5, 6]) :
    Calls Try.prog 25 #[.slice a len cap, .int .i64 (k : Int)] w fun e w' => e = .returned (.tuple #[.int .i64 0, .int .i64 0, .int .i64 0, .int .i64 15]) ∧ Below w.heap.size w w' := by
  have hl := hs.len.2.1
  have C : Hid (Calls Try.prog 37 #[.slice a len cap, .int .i64 (k : Int), .int .i64 22] w fun e w' => e = .returned (.tuple #[.slice (Option.map (fun x => x.add k) a) m c, .int .i64 0]) ∧ w = w') := Lib.hid (begin_ok a len cap k 22 m c hl (by omega) hm hcm hmc h22 w)
  have hx := drop_sl hs k m c hm (by omega)
  generalize bs.drop k = X at *
  obtain ⟨a', ha'⟩ : ∃ a', a' = Option.map (fun x => x.add k) a := ⟨_, rfl⟩
  rw [← ha'] at hx C
  have S0 := Lib.hid hx
  have v1 : (4 : Int) ≤ (c : Int) := by omega
  have v2 : 4 ≤ c := by omega
  obtain ⟨M, hM⟩ : ∃ M, M = strB (X.take 4) := ⟨_, rfl⟩
  have hne : ¬ M.toList = [80, 75, 5, 6] := by
    intro hh
    rw [hM, strB_list] at hh
    have hq : strB (X.take 4) = ⟨#[80, 75, 5, 6]⟩ := by
      apply ByteArray.ext
      apply Array.ext'
      rw [strB_data]
      exact hh
    exact h (strB_inj (fun x hx' => hx.bytes x (List.mem_of_mem_take hx')) (by decide) (hq.trans rfl))
  have hcv : (convert 24 9 (.slice a' 4 c)).run Try.prog w = .ok (.string M) w := string_of _ _ _ _ _ _ (hx.take 4 (by omega)) (Lib.hid hM)
  clear h hM hs hm hcm hmc h22 hx hl ha'
  go_enter Try.func25, Try.ntmps25
  go_wp2_with fail
  refine C.out.mono ?_
  rintro e w1 ⟨rfl, rfl⟩
  go_wp2
  refine bodyPost_ret (results_tmp4 rfl _ _ _) rfl ⟨rfl, Below.refl _ _⟩

set_option maxHeartbeats 1000000 in
theorem rend_zero0 (a : Option Addr) (len cap k m c : Nat) (bs : List Nat) (hm : len = k + m) (hcm : cap = k + c) (hmc : m ≤ c) (h22 : 22 ≤ m) (w : World) (hs : Sl w (.slice a len cap) bs) (h : (bs.drop k).take 4 = [80, 75, 5, 6])  (z0 : ¬ g2 (bs.drop k) 4 = 0) :
    Calls Try.prog 25 #[.slice a len cap, .int .i64 (k : Int)] w fun e w' => e = .returned (.tuple #[.int .i64 0, .int .i64 0, .int .i64 0, .int .i64 15]) ∧ Below w.heap.size w w' := by
  have hl := hs.len.2.1
  have C : Hid (Calls Try.prog 37 #[.slice a len cap, .int .i64 (k : Int), .int .i64 22] w fun e w' => e = .returned (.tuple #[.slice (Option.map (fun x => x.add k) a) m c, .int .i64 0]) ∧ w = w') := Lib.hid (begin_ok a len cap k 22 m c hl (by omega) hm hcm hmc h22 w)
  have hx := drop_sl hs k m c hm (by omega)
  generalize bs.drop k = X at *
  obtain ⟨a', ha'⟩ : ∃ a', a' = Option.map (fun x => x.add k) a := ⟨_, rfl⟩
  rw [← ha'] at hx C
  have S0 := Lib.hid hx
  have v1 : (4 : Int) ≤ (c : Int) := by omega
  have v2 : 4 ≤ c := by omega
  have Z : Hid (∀ W g, Sl W (.slice a' m c) X → Has W g (.cells #[.int .i64 4, .int .i64 6, .int .i64 20] 3 (0, 0)) → Calls Try.prog 38 #[.slice a' m c, .slice (some ⟨g, 0, none⟩) 3 3] W fun e w' => e = .returned (.bool false) ∧ Below W.heap.size W w') := Lib.hid (fun W g h1 h2 => zero3_0 a' m c X g 4 6 20 (by omega) (by omega) (by omega) hmc z0 W h1 h2)
  have hcv : (convert 24 9 (.slice a' 4 c)).run Try.prog w = .ok (.string ⟨#[80, 75, 5, 6]⟩) w := string_of _ _ _ _ _ _ (hx.take 4 (by omega)) (Lib.hid (by rw [h]; rfl))
  clear h hs hm hcm hmc h22 hx hl ha' z0
  go_enter Try.func25, Try.ntmps25
  go_wp2_with fail
  refine C.out.mono ?_
  rintro e w1 ⟨rfl, rfl⟩
  go_wp2_with fail
  refine (Z.out _ _ (S0.out.later (below1 w (.cells #[.int .i64 4, .int .i64 6, .int .i64 20] 3))) (Has.new w (.cells #[.int .i64 4, .int .i64 6, .int .i64 20] 3))).mono ?_
  rintro e w2 ⟨rfl, h2⟩
  have B2 := Lib.hid ((below1 w (.cells #[.int .i64 4, .int .i64 6, .int .i64 20] 3)).trans (h2.mono (below1 w (.cells #[.int .i64 4, .int .i64 6, .int .i64 20] 3)).size))
  clear h2
  go_wp2
  refine bodyPost_ret (results_tmp4 rfl _ _ _) rfl ⟨rfl, B2.out⟩

set_option maxHeartbeats 1000000 in
theorem rend_zero1 (a : Option Addr) (len cap k m c : Nat) (bs : List Nat) (hm : len = k + m) (hcm : cap = k + c) (hmc : m ≤ c) (h22 : 22 ≤ m) (w : World) (hs : Sl w (.slice a len cap) bs) (h : (bs.drop k).take 4 = [80, 75, 5, 6]) (z0 : g2 (bs.drop k) 4 = 0) (z1 : ¬ g2 (bs.drop k) 6 = 0) :
    Calls Try.prog 25 #[.slice a len cap, .int .i64 (k : Int)] w fun e w' => e = .returned (.tuple #[.int .i64 0, .int .i64 0, .int .i64 0, .int .i64 15]) ∧ Below w.heap.size w w' := by
  have hl := hs.len.2.1
  have C : Hid (Calls Try.prog 37 #[.slice a len cap, .int .i64 (k : Int), .int .i64 22] w fun e w' => e = .returned (.tuple #[.slice (Option.map (fun x => x.add k) a) m c, .int .i64 0]) ∧ w = w') := Lib.hid (begin_ok a len cap k 22 m c hl (by omega) hm hcm hmc h22 w)
  have hx := drop_sl hs k m c hm (by omega)
  generalize bs.drop k = X at *
  obtain ⟨a', ha'⟩ : ∃ a', a' = Option.map (fun x => x.add k) a := ⟨_, rfl⟩
  rw [← ha'] at hx C
  have S0 := Lib.hid hx
  have v1 : (4 : Int) ≤ (c : Int) := by omega
  have v2 : 4 ≤ c := by omega
  have Z : Hid (∀ W g, Sl W (.slice a' m c) X → Has W g (.cells #[.int .i64 4, .int .i64 6, .int .i64 20] 3 (0, 0)) → Calls Try.prog 38 #[.slice a' m c, .slice (some ⟨g, 0, none⟩) 3 3] W fun e w' => e = .returned (.bool false) ∧ Below W.heap.size W w') := Lib.hid (fun W g h1 h2 => zero3_1 a' m c X g 4 6 20 (by omega) (by omega) (by omega) hmc z0 z1 W h1 h2)
  have hcv : (convert 24 9 (.slice a' 4 c)).run Try.prog w = .ok (.string ⟨#[80, 75, 5, 6]⟩) w := string_of _ _ _ _ _ _ (hx.take 4 (by omega)) (Lib.hid (by rw [h]; rfl))
  clear h hs hm hcm hmc h22 hx hl ha' z0 z1
  go_enter Try.func25, Try.ntmps25
  go_wp2_with fail
  refine C.out.mono ?_
  rintro e w1 ⟨rfl, rfl⟩
  go_wp2_with fail
  refine (Z.out _ _ (S0.out.later (below1 w (.cells #[.int .i64 4, .int .i64 6, .int .i64 20] 3))) (Has.new w (.cells #[.int .i64 4, .int .i64 6, .int .i64 20] 3))).mono ?_
  rintro e w2 ⟨rfl, h2⟩
  have B2 := Lib.hid ((below1 w (.cells #[.int .i64 4, .int .i64 6, .int .i64 20] 3)).trans (h2.mono (below1 w (.cells #[.int .i64 4, .int .i64 6, .int .i64 20] 3)).size))
  clear h2
  go_wp2
  refine bodyPost_ret (results_tmp4 rfl _ _ _) rfl ⟨rfl, B2.out⟩

set_option maxHeartbeats 1000000 in
theorem rend_zero2 (a : Option Addr) (len cap k m c : Nat) (bs : List Nat) (hm : len = k + m) (hcm : cap = k + c) (hmc : m ≤ c) (h22 : 22 ≤ m) (w : World) (hs : Sl w (.slice a len cap) bs) (h : (bs.drop k).take 4 = [80, 75, 5, 6]) (z0 : g2 (bs.drop k) 4 = 0) (z1 : g2 (bs.drop k) 6 = 0) (z2 : ¬ g2 (bs.drop k) 20 = 0) :
    Calls Try.prog 25 #[.slice a len cap, .int .i64 (k : Int)] w fun e w' => e = .returned (.tuple #[.int .i64 0, .int .i64 0, .int .i64 0, .int .i64 15]) ∧ Below w.heap.size w w' := by
  have hl := hs.len.2.1
  have C : Hid (Calls Try.prog 37 #[.slice a len cap, .int .i64 (k : Int), .int .i64 22] w fun e w' => e = .returned (.tuple #[.slice (Option.map (fun x => x.add k) a) m c, .int .i64 0]) ∧ w = w') := Lib.hid (begin_ok a len cap k 22 m c hl (by omega) hm hcm hmc h22 w)
  have hx := drop_sl hs k m c hm (by omega)
  generalize bs.drop k = X at *
  obtain ⟨a', ha'⟩ : ∃ a', a' = Option.map (fun x => x.add k) a := ⟨_, rfl⟩
  rw [← ha'] at hx C
  have S0 := Lib.hid hx
  have v1 : (4 : Int) ≤ (c : Int) := by omega
  have v2 : 4 ≤ c := by omega
  have Z : Hid (∀ W g, Sl W (.slice a' m c) X → Has W g (.cells #[.int .i64 4, .int .i64 6, .int .i64 20] 3 (0, 0)) → Calls Try.prog 38 #[.slice a' m c, .slice (some ⟨g, 0, none⟩) 3 3] W fun e w' => e = .returned (.bool false) ∧ Below W.heap.size W w') := Lib.hid (fun W g h1 h2 => zero3_2 a' m c X g 4 6 20 (by omega) (by omega) (by omega) hmc z0 z1 z2 W h1 h2)
  have hcv : (convert 24 9 (.slice a' 4 c)).run Try.prog w = .ok (.string ⟨#[80, 75, 5, 6]⟩) w := string_of _ _ _ _ _ _ (hx.take 4 (by omega)) (Lib.hid (by rw [h]; rfl))
  clear h hs hm hcm hmc h22 hx hl ha' z0 z1 z2
  go_enter Try.func25, Try.ntmps25
  go_wp2_with fail
  refine C.out.mono ?_
  rintro e w1 ⟨rfl, rfl⟩
  go_wp2_with fail
  refine (Z.out _ _ (S0.out.later (below1 w (.cells #[.int .i64 4, .int .i64 6, .int .i64 20] 3))) (Has.new w (.cells #[.int .i64 4, .int .i64 6, .int .i64 20] 3))).mono ?_
  rintro e w2 ⟨rfl, h2⟩
  have B2 := Lib.hid ((below1 w (.cells #[.int .i64 4, .int .i64 6, .int .i64 20] 3)).trans (h2.mono (below1 w (.cells #[.int .i64 4, .int .i64 6, .int .i64 20] 3)).size))
  clear h2
  go_wp2
  refine bodyPost_ret (results_tmp4 rfl _ _ _) rfl ⟨rfl, B2.out⟩

set_option maxHeartbeats 1000000 in
theorem rend_two (a : Option Addr) (len cap k m c : Nat) (bs : List Nat) (hm : len = k + m) (hcm : cap = k + c) (hmc : m ≤ c) (h22 : 22 ≤ m) (w : World) (hs : Sl w (.slice a len cap) bs) (h : (bs.drop k).take 4 = [80, 75, 5, 6]) (z0 : g2 (bs.drop k) 4 = 0) (z1 : g2 (bs.drop k) 6 = 0) (z2 : g2 (bs.drop k) 20 = 0) (z3 : ¬ g2 (bs.drop k) 8 = g2 (bs.drop k) 10) :
    Calls Try.prog 25 #[.slice a len cap, .int .i64 (k : Int)] w fun e w' => e = .returned (.tuple #[.int .i64 0, .int .i64 0, .int .i64 0, .int .i64 15]) ∧ Below w.heap.size w w' := by
  have hl := hs.len.2.1
  have C : Hid (Calls Try.prog 37 #[.slice a len cap, .int .i64 (k : Int), .int .i64 22] w fun e w' => e = .returned (.tuple #[.slice (Option.map (fun x => x.add k) a) m c, .int .i64 0]) ∧ w = w') := Lib.hid (begin_ok a len cap k 22 m c hl (by omega) hm hcm hmc h22 w)
  have hx := drop_sl hs k m c hm (by omega)
  generalize bs.drop k = X at *
  obtain ⟨a', ha'⟩ : ∃ a', a' = Option.map (fun x => x.add k) a := ⟨_, rfl⟩
  rw [← ha'] at hx C
  have S0 := Lib.hid hx
  have v1 : (4 : Int) ≤ (c : Int) := by omega
  have v2 : 4 ≤ c := by omega
  have Z : Hid (∀ W g, Sl W (.slice a' m c) X → Has W g (.cells #[.int .i64 4, .int .i64 6, .int .i64 20] 3 (0, 0)) → Calls Try.prog 38 #[.slice a' m c, .slice (some ⟨g, 0, none⟩) 3 3] W fun e w' => e = .returned (.bool true) ∧ Below W.heap.size W w') := Lib.hid (fun W g h1 h2 => zero3_3 a' m c X g 4 6 20 (by omega) (by omega) (by omega) hmc z0 z1 z2 W h1 h2)
  have G8 : Hid (∀ W, Sl W (.slice a' m c) X → Calls Try.prog 42 #[.slice a' m c, .int .i64 8] W fun e w' => e = .returned (.int .i64 (g2 X 8)) ∧ Below W.heap.size W w') := Lib.hid (fun W hW => get2_any a' m c X 8 (by omega) hmc W hW)
  have G10 : Hid (∀ W, Sl W (.slice a' m c) X → Calls Try.prog 42 #[.slice a' m c, .int .i64 10] W fun e w' => e = .returned (.int .i64 (g2 X 10)) ∧ Below W.heap.size W w') := Lib.hid (fun W hW => get2_any a' m c X 10 (by omega) hmc W hW)
  have hcv : (convert 24 9 (.slice a' 4 c)).run Try.prog w = .ok (.string ⟨#[80, 75, 5, 6]⟩) w := string_of _ _ _ _ _ _ (hx.take 4 (by omega)) (Lib.hid (by rw [h]; rfl))
  generalize g2 X 8 = y8 at *
  generalize g2 X 10 = y10 at *
  clear h hs hm hcm hmc h22 hx hl ha' z0 z1 z2
  go_enter Try.func25, Try.ntmps25
  go_wp2_with fail
  refine C.out.mono ?_
  rintro e w1 ⟨rfl, rfl⟩
  go_wp2_with fail
  refine (Z.out _ _ (S0.out.later (below1 w (.cells #[.int .i64 4, .int .i64 6, .int .i64 20] 3))) (Has.new w (.cells #[.int .i64 4, .int .i64 6, .int .i64 20] 3))).mono ?_
  rintro e w2 ⟨rfl, h2⟩
  have B2 := Lib.hid ((below1 w (.cells #[.int .i64 4, .int .i64 6, .int .i64 20] 3)).trans (h2.mono (below1 w (.cells #[.int .i64 4, .int .i64 6, .int .i64 20] 3)).size))
  clear h2
  go_wp2_with fail
  refine (G8.out _ (S0.out.later B2.out)).mono ?_
  rintro e w3 ⟨rfl, h3⟩
  have B3 := Lib.hid (B2.out.trans (h3.mono B2.out.size))
  clear h3 B2
  go_wp2_with fail
  refine (G10.out _ (S0.out.later B3.out)).mono ?_
  rintro e w4 ⟨rfl, h4⟩
  have B4 := Lib.hid (B3.out.trans (h4.mono B3.out.size))
  clear h4 B3
  go_wp2
  refine bodyPost_ret (results_tmp4 rfl _ _ _) rfl ⟨rfl, B4.out⟩

set_option maxHeartbeats 1000000 in
theorem rend_all (a : Option Addr) (len cap k m c : Nat) (bs : List Nat) (hm : len = k + m) (hcm : cap = k + c) (hmc : m ≤ c) (h22 : 22 ≤ m) (w : World) (hs : Sl w (.slice a len cap) bs) (h : (bs.drop k).take 4 = [80, 75, 5, 6]) (z0 : g2 (bs.drop k) 4 = 0) (z1 : g2 (bs.drop k) 6 = 0) (z2 : g2 (bs.drop k) 20 = 0) (z3 : g2 (bs.drop k) 8 = g2 (bs.drop k) 10) :
    Calls Try.prog 25 #[.slice a len cap, .int .i64 (k : Int)] w fun e w' => e = .returned (.tuple #[.int .i64 (g2 (bs.drop k) 10), .int .i64 (g4 (bs.drop k) 12), .int .i64 (g4 (bs.drop k) 16), .int .i64 0]) ∧ Below w.heap.size w w' := by
  have hl := hs.len.2.1
  have C : Hid (Calls Try.prog 37 #[.slice a len cap, .int .i64 (k : Int), .int .i64 22] w fun e w' => e = .returned (.tuple #[.slice (Option.map (fun x => x.add k) a) m c, .int .i64 0]) ∧ w = w') := Lib.hid (begin_ok a len cap k 22 m c hl (by omega) hm hcm hmc h22 w)
  have hx := drop_sl hs k m c hm (by omega)
  generalize bs.drop k = X at *
  obtain ⟨a', ha'⟩ : ∃ a', a' = Option.map (fun x => x.add k) a := ⟨_, rfl⟩
  rw [← ha'] at hx C
  have S0 := Lib.hid hx
  have v1 : (4 : Int) ≤ (c : Int) := by omega
  have v2 : 4 ≤ c := by omega
  have Z : Hid (∀ W g, Sl W (.slice a' m c) X → Has W g (.cells #[.int .i64 4, .int .i64 6, .int .i64 20] 3 (0, 0)) → Calls Try.prog 38 #[.slice a' m c, .slice (some ⟨g, 0, none⟩) 3 3] W fun e w' => e = .returned (.bool true) ∧ Below W.heap.size W w') := Lib.hid (fun W g h1 h2 => zero3_3 a' m c X g 4 6 20 (by omega) (by omega) (by omega) hmc z0 z1 z2 W h1 h2)
  have G8 : Hid (∀ W, Sl W (.slice a' m c) X → Calls Try.prog 42 #[.slice a' m c, .int .i64 8] W fun e w' => e = .returned (.int .i64 (g2 X 8)) ∧ Below W.heap.size W w') := Lib.hid (fun W hW => get2_any a' m c X 8 (by omega) hmc W hW)
  have G10 : Hid (∀ W, Sl W (.slice a' m c) X → Calls Try.prog 42 #[.slice a' m c, .int .i64 10] W fun e w' => e = .returned (.int .i64 (g2 X 10)) ∧ Below W.heap.size W w') := Lib.hid (fun W hW => get2_any a' m c X 10 (by omega) hmc W hW)
  have G12 : Hid (∀ W, Sl W (.slice a' m c) X → Calls Try.prog 40 #[.slice a' m c, .int .i64 12] W fun e w' => e = .returned (.int .i64 (g4 X 12)) ∧ Below W.heap.size W w') := Lib.hid (fun W hW => get4_any a' m c X 12 (by omega) hmc W hW)
  have G16 : Hid (∀ W, Sl W (.slice a' m c) X → Calls Try.prog 40 #[.slice a' m c, .int .i64 16] W fun e w' => e = .returned (.int .i64 (g4 X 16)) ∧ Below W.heap.size W w') := Lib.hid (fun W hW => get4_any a' m c X 16 (by omega) hmc W hW)
  have hcv : (convert 24 9 (.slice a' 4 c)).run Try.prog w = .ok (.string ⟨#[80, 75, 5, 6]⟩) w := string_of _ _ _ _ _ _ (hx.take 4 (by omega)) (Lib.hid (by rw [h]; rfl))
  rw [z3] at G8
  generalize g2 X 10 = y10 at *
  generalize g4 X 12 = y12 at *
  generalize g4 X 16 = y16 at *
  clear h hs hm hcm hmc h22 hx hl ha' z0 z1 z2 z3
  go_enter Try.func25, Try.ntmps25
  go_wp2_with fail
  refine C.out.mono ?_
  rintro e w1 ⟨rfl, rfl⟩
  go_wp2_with fail
  refine (Z.out _ _ (S0.out.later (below1 w (.cells #[.int .i64 4, .int .i64 6, .int .i64 20] 3))) (Has.new w (.cells #[.int .i64 4, .int .i64 6, .int .i64 20] 3))).mono ?_
  rintro e w2 ⟨rfl, h2⟩
  have B2 := Lib.hid ((below1 w (.cells #[.int .i64 4, .int .i64 6, .int .i64 20] 3)).trans (h2.mono (below1 w (.cells #[.int .i64 4, .int .i64 6, .int .i64 20] 3)).size))
  clear h2
  go_wp2_with fail
  refine (G8.out _ (S0.out.later B2.out)).mono ?_
  rintro e w3 ⟨rfl, h3⟩
  have B3 := Lib.hid (B2.out.trans (h3.mono B2.out.size))
  clear h3 B2
  go_wp2_with fail
  refine (G10.out _ (S0.out.later B3.out)).mono ?_
  rintro e w4 ⟨rfl, h4⟩
  have B4 := Lib.hid (B3.out.trans (h4.mono B3.out.size))
  clear h4 B3
  go_wp2_with fail
  refine (G8.out _ (S0.out.later B4.out)).mono ?_
  rintro e w5 ⟨rfl, h5⟩
  have B5 := Lib.hid (B4.out.trans (h5.mono B4.out.size))
  clear h5 B4
  go_wp2_with fail
  refine (G12.out _ (S0.out.later B5.out)).mono ?_
  rintro e w6 ⟨rfl, h6⟩
  have B6 := Lib.hid (B5.out.trans (h6.mono B5.out.size))
  clear h6 B5
  go_wp2_with fail
  refine (G16.out _ (S0.out.later B6.out)).mono ?_
  rintro e w7 ⟨rfl, h7⟩
  have B7 := Lib.hid (B6.out.trans (h7.mono B6.out.size))
  clear h7 B6
  go_wp2
  refine bodyPost_ret (results_tmp4 rfl _ _ _) rfl ⟨rfl, B7.out⟩

theorem rreadEnd_any (a : Option Addr) (len cap : Nat) (bs : List Nat) (i : Int) (hc : len ≤ cap) (w : World) (hs : Sl w (.slice a len cap) bs) :
    Calls Try.prog 25 #[.slice a len cap, .int .i64 i] w fun e w' => e = .returned (Re.val (rdE bs i)) ∧ Below w.heap.size w w' := by
  have hl := hs.len.1
  have hz := hs.len.2.1
  by_cases h0 : i < 0 ∨ (len : Int) < i
  · have hp : pe bs.length i 22 = 2 := by unfold pe; rw [← hl, if_pos h0]
    unfold rdE
    rw [hp, if_pos (by decide)]
    exact rend_out a len cap i h0 w
  · obtain ⟨k, rfl⟩ : ∃ k : Nat, i = (k : Int) := ⟨i.toNat, by omega⟩
    by_cases h1 : len < k + 22
    · have hp : pe bs.length (k : Int) 22 = 4 := by unfold pe; rw [← hl, if_neg h0, if_pos (by omega)]
      unfold rdE
      rw [hp, if_pos (by decide)]
      exact rend_short a len cap k hz (by omega) h1 w
    · have hp : pe bs.length (k : Int) 22 = 0 := by unfold pe; rw [← hl, if_neg h0, if_neg (by omega)]
      obtain ⟨m, hm⟩ : ∃ m, len = k + m := ⟨len - k, by omega⟩
      obtain ⟨c, hcm⟩ : ∃ c, cap = k + c := ⟨cap - k, by omega⟩
      unfold rdE
      rw [hp, if_neg (by decide), Int.toNat_natCast]
      by_cases h2 : (bs.drop k).take 4 ≠ [80, 75, 5, 6]
      · rw [if_pos h2]
        exact rend_mark a len cap k m c bs hm hcm (by omega) (by omega) w hs h2
      · rw [if_neg h2]
        have h2' := Decidable.not_not.1 h2
        by_cases z0 : g2 (bs.drop k) 4 = 0
        · by_cases z1 : g2 (bs.drop k) 6 = 0
          · by_cases z2 : g2 (bs.drop k) 20 = 0
            · by_cases z3 : g2 (bs.drop k) 8 = g2 (bs.drop k) 10
              · rw [if_neg (by unfold mbE; simp [z0, z1, z2, z3])]
                exact rend_all a len cap k m c bs hm hcm (by omega) (by omega) w hs h2' z0 z1 z2 z3
              · rw [if_pos (by unfold mbE; simp [z3])]
                exact rend_two a len cap k m c bs hm hcm (by omega) (by omega) w hs h2' z0 z1 z2 z3
            · rw [if_pos (by unfold mbE; simp [z2])]
              exact rend_zero2 a len cap k m c bs hm hcm (by omega) (by omega) w hs h2' z0 z1 z2
          · rw [if_pos (by unfold mbE; simp [z1])]
            exact rend_zero1 a len cap k m c bs hm hcm (by omega) (by omega) w hs h2' z0 z1
        · rw [if_pos (by unfold mbE; simp [z0])]
          exact rend_zero0 a len cap k m c bs hm hcm (by omega) (by omega) w hs h2' z0

end Go.Proofs.Ytheffpihhmdceaa
