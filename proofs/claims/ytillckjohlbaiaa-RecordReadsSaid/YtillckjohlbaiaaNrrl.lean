/- Contract of the document's ReadLocal. -/
import Derived.Test.YtillckjohlbaiaaNbd

namespace Go.Proofs.Ytillckjohlbaiaa
set_option maxRecDepth 100000
open Go.RowKit

set_option maxHeartbeats 1000000 in
theorem rrl_out (a : Option Addr) (len cap : Nat) (i : Int) (h : i < 0 ∨ (len : Int) < i) (w : World) :
    Calls Try.prog 9 #[.slice a len cap, .int .i64 i] w fun e w' => e = .returned (.tuple #[.agg #[.string ⟨#[]⟩, .int .i64 0, .int .i64 0, .int .i64 0, .int .i64 0, .int .i64 0], .int .i64 0, .int .i64 2]) ∧ Below w.heap.size w w' := by
  have hi : (Try.prog.info? 25).map (·.size) = some 6 := by kernel_rfl
  have B0 := Lib.hid (below1 w (.cells #[.string ⟨#[]⟩, .int .i64 0, .int .i64 0, .int .i64 0, .int .i64 0, .int .i64 0] 25))
  have N0 := Lib.hid (Has.new w (.cells #[.string ⟨#[]⟩, .int .i64 0, .int .i64 0, .int .i64 0, .int .i64 0, .int .i64 0] 25))
  have C : Hid (∀ W, Calls Try.prog 39 #[.slice a len cap, .int .i64 i, .int .i64 30] W fun e w' => e = .returned (.tuple #[.slice none 0 0, .int .i64 2]) ∧ W = w') := Lib.hid (fun W => begin_out a len cap i 30 h W)
  clear h
  go_enter Try.func9, Try.ntmps9
  go_wp2_with fail
  refine (C.out _).mono ?_
  rintro e w1 ⟨rfl, rfl⟩
  go_wp2_with (first | (refine wpList_store_row rfl 25 (.tmp 4) (.tmp 18) rfl w.heap.size #[.string ⟨#[]⟩, .int .i64 0, .int .i64 0, .int .i64 0, .int .i64 0, .int .i64 0] rfl rfl 25 _ N0.out hi rfl (by simp [Value.oneCell']) ?_))
  refine bodyPost_ret (results_cell_tt rfl _ _ w.heap.size 25 _ (0, 0) _ rfl (setRow_heap _ _ _ _ _ _ N0.out) Try.underlying25 rfl hi) rfl ⟨rfl, below_setRow B0.out (Nat.le_refl _) _⟩

set_option maxHeartbeats 1000000 in
theorem rrl_short (a : Option Addr) (len cap : Nat) (k : Nat) (hl : len ≤ 281474976710656) (hk : k ≤ len) (h : len < k + 30) (w : World) :
    Calls Try.prog 9 #[.slice a len cap, .int .i64 (k : Int)] w fun e w' => e = .returned (.tuple #[.agg #[.string ⟨#[]⟩, .int .i64 0, .int .i64 0, .int .i64 0, .int .i64 0, .int .i64 0], .int .i64 0, .int .i64 4]) ∧ Below w.heap.size w w' := by
  have hi : (Try.prog.info? 25).map (·.size) = some 6 := by kernel_rfl
  have B0 := Lib.hid (below1 w (.cells #[.string ⟨#[]⟩, .int .i64 0, .int .i64 0, .int .i64 0, .int .i64 0, .int .i64 0] 25))
  have N0 := Lib.hid (Has.new w (.cells #[.string ⟨#[]⟩, .int .i64 0, .int .i64 0, .int .i64 0, .int .i64 0, .int .i64 0] 25))
  have C : Hid (∀ W, Calls Try.prog 39 #[.slice a len cap, .int .i64 (k : Int), .int .i64 30] W fun e w' => e = .returned (.tuple #[.slice none 0 0, .int .i64 4]) ∧ W = w') := Lib.hid (fun W => begin_short a len cap k 30 hl hk h W)
  clear h hl hk
  go_enter Try.func9, Try.ntmps9
  go_wp2_with fail
  refine (C.out _).mono ?_
  rintro e w1 ⟨rfl, rfl⟩
  go_wp2_with (first | (refine wpList_store_row rfl 25 (.tmp 4) (.tmp 18) rfl w.heap.size #[.string ⟨#[]⟩, .int .i64 0, .int .i64 0, .int .i64 0, .int .i64 0, .int .i64 0] rfl rfl 25 _ N0.out hi rfl (by simp [Value.oneCell']) ?_))
  refine bodyPost_ret (results_cell_tt rfl _ _ w.heap.size 25 _ (0, 0) _ rfl (setRow_heap _ _ _ _ _ _ N0.out) Try.underlying25 rfl hi) rfl ⟨rfl, below_setRow B0.out (Nat.le_refl _) _⟩

set_option maxHeartbeats 1000000 in
theorem rrl_mark (a : Option Addr) (len cap k m c : Nat) (bs : List Nat) (hm : len = k + m) (hcm : cap = k + c) (hmc : m ≤ c) (hbig : 30 ≤ m) (w : World) (hs : Sl w (.slice a len cap) bs) (h : (bs.drop k).take 4 ≠ [80, 75, 3, 4]) :
    Calls Try.prog 9 #[.slice a len cap, .int .i64 (k : Int)] w fun e w' => e = .returned (.tuple #[.agg #[.string ⟨#[]⟩, .int .i64 0, .int .i64 0, .int .i64 0, .int .i64 0, .int .i64 0], .int .i64 0, .int .i64 15]) ∧ Below w.heap.size w w' := by
  have hi : (Try.prog.info? 25).map (·.size) = some 6 := by kernel_rfl
  have B0 := Lib.hid (below1 w (.cells #[.string ⟨#[]⟩, .int .i64 0, .int .i64 0, .int .i64 0, .int .i64 0, .int .i64 0] 25))
  have N0 := Lib.hid (Has.new w (.cells #[.string ⟨#[]⟩, .int .i64 0, .int .i64 0, .int .i64 0, .int .i64 0, .int .i64 0] 25))
  have hl := hs.len.2.1
  have C : Hid (∀ W, Calls Try.prog 39 #[.slice a len cap, .int .i64 (k : Int), .int .i64 30] W fun e w' => e = .returned (.tuple #[.slice (Option.map (fun x => x.add k) a) m c, .int .i64 0]) ∧ W = w') := Lib.hid (fun W => begin_ok a len cap k 30 m c hl (by omega) hm hcm hmc hbig W)
  have hx := drop_sl hs k m c hm (by omega)
  generalize bs.drop k = X at *
  obtain ⟨a', ha'⟩ : ∃ a', a' = Option.map (fun x => x.add k) a := ⟨_, rfl⟩
  rw [← ha'] at hx C
  have S0 := Lib.hid hx
  have v1 : (4 : Int) ≤ (c : Int) := by omega
  have v2 : 4 ≤ c := by omega
  obtain ⟨M, hM⟩ : ∃ M, M = strB (X.take 4) := ⟨_, rfl⟩
  have hne : ¬ M.toList = [80, 75, 3, 4] := by
    intro hh
    rw [hM, strB_list] at hh
    have hq : strB (X.take 4) = ⟨#[80, 75, 3, 4]⟩ := by
      apply ByteArray.ext
      apply Array.ext'
      rw [strB_data]
      exact hh
    exact h (strB_inj (fun x hx' => hx.bytes x (List.mem_of_mem_take hx')) (by decide) (hq.trans rfl))
  have hcv : (convert 22 9 (.slice a' 4 c)).run Try.prog (w.alloc (.cells #[.string ⟨#[]⟩, .int .i64 0, .int .i64 0, .int .i64 0, .int .i64 0, .int .i64 0] 25)) = .ok (.string M) (w.alloc (.cells #[.string ⟨#[]⟩, .int .i64 0, .int .i64 0, .int .i64 0, .int .i64 0, .int .i64 0] 25)) := string_of _ _ _ _ _ _ ((hx.later B0.out).take 4 (by omega)) (Lib.hid hM)
  clear h hM hs hm hcm hmc hbig hx hl ha'
  go_enter Try.func9, Try.ntmps9
  go_wp2_with fail
  refine (C.out _).mono ?_
  rintro e w1 ⟨rfl, rfl⟩
  go_wp2_with (first | (refine wpList_store_row rfl 25 (.tmp 4) (.tmp 30) rfl w.heap.size #[.string ⟨#[]⟩, .int .i64 0, .int .i64 0, .int .i64 0, .int .i64 0, .int .i64 0] rfl rfl 25 _ N0.out hi rfl (by simp [Value.oneCell']) ?_))
  refine bodyPost_ret (results_cell_tt rfl _ _ w.heap.size 25 _ (0, 0) _ rfl (setRow_heap _ _ _ _ _ _ N0.out) Try.underlying25 rfl hi) rfl ⟨rfl, below_setRow B0.out (Nat.le_refl _) _⟩

set_option maxHeartbeats 1000000 in
theorem rrl_zero (a : Option Addr) (len cap k m c : Nat) (bs : List Nat) (hm : len = k + m) (hcm : cap = k + c) (hmc : m ≤ c) (hbig : 30 ≤ m) (w : World) (hs : Sl w (.slice a len cap) bs) (h : (bs.drop k).take 4 = [80, 75, 3, 4]) (hz : ∀ W g, Sl W (.slice (Option.map (fun x => x.add k) a) m c) (bs.drop k) → Has W g (.cells #[.int .i64 28] 3 (0, 0)) → Calls Try.prog 40 #[.slice (Option.map (fun x => x.add k) a) m c, .slice (some ⟨g, 0, none⟩) 1 1] W fun e w' => e = .returned (.bool false) ∧ Below W.heap.size W w') :
    Calls Try.prog 9 #[.slice a len cap, .int .i64 (k : Int)] w fun e w' => e = .returned (.tuple #[.agg #[.string ⟨#[]⟩, .int .i64 0, .int .i64 0, .int .i64 0, .int .i64 0, .int .i64 0], .int .i64 0, .int .i64 15]) ∧ Below w.heap.size w w' := by
  have hi : (Try.prog.info? 25).map (·.size) = some 6 := by kernel_rfl
  have B0 := Lib.hid (below1 w (.cells #[.string ⟨#[]⟩, .int .i64 0, .int .i64 0, .int .i64 0, .int .i64 0, .int .i64 0] 25))
  have N0 := Lib.hid (Has.new w (.cells #[.string ⟨#[]⟩, .int .i64 0, .int .i64 0, .int .i64 0, .int .i64 0, .int .i64 0] 25))
  have hl := hs.len.2.1
  have C : Hid (∀ W, Calls Try.prog 39 #[.slice a len cap, .int .i64 (k : Int), .int .i64 30] W fun e w' => e = .returned (.tuple #[.slice (Option.map (fun x => x.add k) a) m c, .int .i64 0]) ∧ W = w') := Lib.hid (fun W => begin_ok a len cap k 30 m c hl (by omega) hm hcm hmc hbig W)
  have hx := drop_sl hs k m c hm (by omega)
  generalize bs.drop k = X at *
  obtain ⟨a', ha'⟩ : ∃ a', a' = Option.map (fun x => x.add k) a := ⟨_, rfl⟩
  rw [← ha'] at hx C
  have S0 := Lib.hid hx
  have v1 : (4 : Int) ≤ (c : Int) := by omega
  have v2 : 4 ≤ c := by omega
  have G1 : Hid (Has ((w.alloc (.cells #[.string ⟨#[]⟩, .int .i64 0, .int .i64 0, .int .i64 0, .int .i64 0, .int .i64 0] 25)).alloc (.cells #[.int .i64 28] 3)) (w.heap.size + 1) (.cells #[.int .i64 28] 3)) := by
    have hh := Has.new (w.alloc (.cells #[.string ⟨#[]⟩, .int .i64 0, .int .i64 0, .int .i64 0, .int .i64 0, .int .i64 0] 25)) (.cells #[.int .i64 28] 3)
    rw [show (w.alloc (.cells #[.string ⟨#[]⟩, .int .i64 0, .int .i64 0, .int .i64 0, .int .i64 0, .int .i64 0] 25)).heap.size = w.heap.size + 1 by simp] at hh
    exact hh
  have hcv : (convert 22 9 (.slice a' 4 c)).run Try.prog (w.alloc (.cells #[.string ⟨#[]⟩, .int .i64 0, .int .i64 0, .int .i64 0, .int .i64 0, .int .i64 0] 25)) = .ok (.string ⟨#[80, 75, 3, 4]⟩) (w.alloc (.cells #[.string ⟨#[]⟩, .int .i64 0, .int .i64 0, .int .i64 0, .int .i64 0, .int .i64 0] 25)) := string_of _ _ _ _ _ _ ((hx.later B0.out).take 4 (by omega)) (Lib.hid (by rw [h]; rfl))
  rw [← ha'] at hz
  have HZ := Lib.hid hz
  clear h hs hm hcm hmc hbig hx hl ha' hz
  go_enter Try.func9, Try.ntmps9
  go_wp2_with fail
  refine (C.out _).mono ?_
  rintro e w1 ⟨rfl, rfl⟩
  go_wp2_with fail
  refine (HZ.out _ (w.heap.size + 1) ((S0.out.later B0.out).later (below1 _ (.cells #[.int .i64 28] 3))) G1.out).mono ?_
  rintro e w2 ⟨rfl, h2⟩
  have B2 := Lib.hid ((B0.out.trans ((below1 (w.alloc (.cells #[.string ⟨#[]⟩, .int .i64 0, .int .i64 0, .int .i64 0, .int .i64 0, .int .i64 0] 25)) (.cells #[.int .i64 28] 3)).mono B0.out.size)).trans (h2.mono (B0.out.trans ((below1 (w.alloc (.cells #[.string ⟨#[]⟩, .int .i64 0, .int .i64 0, .int .i64 0, .int .i64 0, .int .i64 0] 25)) (.cells #[.int .i64 28] 3)).mono B0.out.size)).size))
  have N2 := Lib.hid ((N0.out.later (below1 (w.alloc (.cells #[.string ⟨#[]⟩, .int .i64 0, .int .i64 0, .int .i64 0, .int .i64 0, .int .i64 0] 25)) (.cells #[.int .i64 28] 3))).later h2)
  clear h2 HZ B0 N0 G1
  go_wp2_with (first | (refine wpList_store_row rfl 25 (.tmp 4) (.tmp 30) rfl w.heap.size #[.string ⟨#[]⟩, .int .i64 0, .int .i64 0, .int .i64 0, .int .i64 0, .int .i64 0] rfl rfl 25 _ N2.out hi rfl (by simp [Value.oneCell']) ?_))
  refine bodyPost_ret (results_cell_tt rfl _ _ w.heap.size 25 _ (0, 0) _ rfl (setRow_heap _ _ _ _ _ _ N2.out) Try.underlying25 rfl hi) rfl ⟨rfl, below_setRow B2.out (Nat.le_refl _) _⟩

set_option maxHeartbeats 1000000 in
theorem rrl_bad (a : Option Addr) (len cap k m c : Nat) (bs : List Nat) (hm : len = k + m) (hcm : cap = k + c) (hmc : m ≤ c) (hbig : 30 ≤ m) (w : World) (hs : Sl w (.slice a len cap) bs) (h : (bs.drop k).take 4 = [80, 75, 3, 4]) (hz : ∀ W g, Sl W (.slice (Option.map (fun x => x.add k) a) m c) (bs.drop k) → Has W g (.cells #[.int .i64 28] 3 (0, 0)) → Calls Try.prog 40 #[.slice (Option.map (fun x => x.add k) a) m c, .slice (some ⟨g, 0, none⟩) 1 1] W fun e w' => e = .returned (.bool true) ∧ Below W.heap.size W w') (q : Int) (hq : (q == 0) = false) (hb : ∀ W, Sl W (.slice (Option.map (fun x => x.add k) a) m c) (bs.drop k) → Calls Try.prog 41 #[.slice (Option.map (fun x => x.add k) a) m c, .int .i64 4, .int .i64 30] W fun e w' => e = .returned (.tuple #[.agg #[.string ⟨#[]⟩, .int .i64 0, .int .i64 0, .int .i64 0, .int .i64 0, .int .i64 0], .int .i64 q]) ∧ Below W.heap.size W w') :
    Calls Try.prog 9 #[.slice a len cap, .int .i64 (k : Int)] w fun e w' => e = .returned (.tuple #[.agg #[.string ⟨#[]⟩, .int .i64 0, .int .i64 0, .int .i64 0, .int .i64 0, .int .i64 0], .int .i64 0, .int .i64 q]) ∧ Below w.heap.size w w' := by
  have hi : (Try.prog.info? 25).map (·.size) = some 6 := by kernel_rfl
  have B0 := Lib.hid (below1 w (.cells #[.string ⟨#[]⟩, .int .i64 0, .int .i64 0, .int .i64 0, .int .i64 0, .int .i64 0] 25))
  have N0 := Lib.hid (Has.new w (.cells #[.string ⟨#[]⟩, .int .i64 0, .int .i64 0, .int .i64 0, .int .i64 0, .int .i64 0] 25))
  have hl := hs.len.2.1
  have C : Hid (∀ W, Calls Try.prog 39 #[.slice a len cap, .int .i64 (k : Int), .int .i64 30] W fun e w' => e = .returned (.tuple #[.slice (Option.map (fun x => x.add k) a) m c, .int .i64 0]) ∧ W = w') := Lib.hid (fun W => begin_ok a len cap k 30 m c hl (by omega) hm hcm hmc hbig W)
  have hx := drop_sl hs k m c hm (by omega)
  generalize bs.drop k = X at *
  obtain ⟨a', ha'⟩ : ∃ a', a' = Option.map (fun x => x.add k) a := ⟨_, rfl⟩
  rw [← ha'] at hx C
  have S0 := Lib.hid hx
  have v1 : (4 : Int) ≤ (c : Int) := by omega
  have v2 : 4 ≤ c := by omega
  have G1 : Hid (Has ((w.alloc (.cells #[.string ⟨#[]⟩, .int .i64 0, .int .i64 0, .int .i64 0, .int .i64 0, .int .i64 0] 25)).alloc (.cells #[.int .i64 28] 3)) (w.heap.size + 1) (.cells #[.int .i64 28] 3)) := by
    have hh := Has.new (w.alloc (.cells #[.string ⟨#[]⟩, .int .i64 0, .int .i64 0, .int .i64 0, .int .i64 0, .int .i64 0] 25)) (.cells #[.int .i64 28] 3)
    rw [show (w.alloc (.cells #[.string ⟨#[]⟩, .int .i64 0, .int .i64 0, .int .i64 0, .int .i64 0, .int .i64 0] 25)).heap.size = w.heap.size + 1 by simp] at hh
    exact hh
  have hcv : (convert 22 9 (.slice a' 4 c)).run Try.prog (w.alloc (.cells #[.string ⟨#[]⟩, .int .i64 0, .int .i64 0, .int .i64 0, .int .i64 0, .int .i64 0] 25)) = .ok (.string ⟨#[80, 75, 3, 4]⟩) (w.alloc (.cells #[.string ⟨#[]⟩, .int .i64 0, .int .i64 0, .int .i64 0, .int .i64 0, .int .i64 0] 25)) := string_of _ _ _ _ _ _ ((hx.later B0.out).take 4 (by omega)) (Lib.hid (by rw [h]; rfl))
  rw [← ha'] at hz hb
  have HZ := Lib.hid hz
  have HB := Lib.hid hb
  clear h hs hm hcm hmc hbig hx hl ha' hz hb
  go_enter Try.func9, Try.ntmps9
  go_wp2_with fail
  refine (C.out _).mono ?_
  rintro e w1 ⟨rfl, rfl⟩
  go_wp2_with fail
  refine (HZ.out _ (w.heap.size + 1) ((S0.out.later B0.out).later (below1 _ (.cells #[.int .i64 28] 3))) G1.out).mono ?_
  rintro e w2 ⟨rfl, h2⟩
  have B2 := Lib.hid ((B0.out.trans ((below1 (w.alloc (.cells #[.string ⟨#[]⟩, .int .i64 0, .int .i64 0, .int .i64 0, .int .i64 0, .int .i64 0] 25)) (.cells #[.int .i64 28] 3)).mono B0.out.size)).trans (h2.mono (B0.out.trans ((below1 (w.alloc (.cells #[.string ⟨#[]⟩, .int .i64 0, .int .i64 0, .int .i64 0, .int .i64 0, .int .i64 0] 25)) (.cells #[.int .i64 28] 3)).mono B0.out.size)).size))
  have N2 := Lib.hid ((N0.out.later (below1 (w.alloc (.cells #[.string ⟨#[]⟩, .int .i64 0, .int .i64 0, .int .i64 0, .int .i64 0, .int .i64 0] 25)) (.cells #[.int .i64 28] 3))).later h2)
  clear h2 HZ B0 N0 G1
  go_wp2_with fail
  refine (HB.out _ (S0.out.later B2.out)).mono ?_
  rintro e w3 ⟨rfl, h3⟩
  have B3 := Lib.hid (B2.out.trans (h3.mono B2.out.size))
  have N3 := Lib.hid (N2.out.later h3)
  clear h3 HB B2 N2
  have B4 := Lib.hid (B3.out.trans ((below1 w3 (.cells #[.string ⟨#[]⟩, .int .i64 0, .int .i64 0, .int .i64 0, .int .i64 0, .int .i64 0] 25)).mono B3.out.size))
  have N4 := Lib.hid (N3.out.alloc (.cells #[.string ⟨#[]⟩, .int .i64 0, .int .i64 0, .int .i64 0, .int .i64 0, .int .i64 0] 25))
  clear B3 N3
  go_wp2_with (first | (refine wpList_store_row rfl 25 (.tmp 4) (.tmp 38) rfl w.heap.size #[.string ⟨#[]⟩, .int .i64 0, .int .i64 0, .int .i64 0, .int .i64 0, .int .i64 0] rfl rfl 25 _ N4.out hi rfl (by simp [Value.oneCell']) ?_))
  refine bodyPost_ret (results_cell_tt rfl _ _ w.heap.size 25 _ (0, 0) _ rfl (setRow_heap _ _ _ _ _ _ N4.out) Try.underlying25 rfl hi) rfl ⟨rfl, below_setRow B4.out (Nat.le_refl _) _⟩

set_option maxRecDepth 100000 in
set_option maxHeartbeats 4000000 in
theorem rrl_ok (a : Option Addr) (len cap k m c : Nat) (bs : List Nat) (hm : len = k + m) (hcm : cap = k + c) (hmc : m ≤ c) (hbig : 30 ≤ m) (w : World) (hs : Sl w (.slice a len cap) bs) (h : (bs.drop k).take 4 = [80, 75, 3, 4]) (hz : ∀ W g, Sl W (.slice (Option.map (fun x => x.add k) a) m c) (bs.drop k) → Has W g (.cells #[.int .i64 28] 3 (0, 0)) → Calls Try.prog 40 #[.slice (Option.map (fun x => x.add k) a) m c, .slice (some ⟨g, 0, none⟩) 1 1] W fun e w' => e = .returned (.bool true) ∧ Below W.heap.size W w') (M : ByteArray) (ym ys yp yz : Int) (j : Nat) (hM : M.size ≤ 70000) (hj : j = k + 30 + M.size) (hb : ∀ W, Sl W (.slice (Option.map (fun x => x.add k) a) m c) (bs.drop k) → Calls Try.prog 41 #[.slice (Option.map (fun x => x.add k) a) m c, .int .i64 4, .int .i64 30] W fun e w' => e = .returned (.tuple #[.agg #[.string M, .int .i64 ym, .int .i64 ys, .int .i64 yp, .int .i64 yz, .int .i64 0], .int .i64 0]) ∧ Below W.heap.size W w') :
    Calls Try.prog 9 #[.slice a len cap, .int .i64 (k : Int)] w fun e w' => e = .returned (.tuple #[.agg #[.string M, .int .i64 ym, .int .i64 ys, .int .i64 yp, .int .i64 yz, .int .i64 0], .int .i64 (j : Int), .int .i64 0]) ∧ Below w.heap.size w w' := by
  have hi : (Try.prog.info? 25).map (·.size) = some 6 := by kernel_rfl
  have B0 := Lib.hid (below1 w (.cells #[.string ⟨#[]⟩, .int .i64 0, .int .i64 0, .int .i64 0, .int .i64 0, .int .i64 0] 25))
  have N0 := Lib.hid (Has.new w (.cells #[.string ⟨#[]⟩, .int .i64 0, .int .i64 0, .int .i64 0, .int .i64 0, .int .i64 0] 25))
  have hl := hs.len.2.1
  have C : Hid (∀ W, Calls Try.prog 39 #[.slice a len cap, .int .i64 (k : Int), .int .i64 30] W fun e w' => e = .returned (.tuple #[.slice (Option.map (fun x => x.add k) a) m c, .int .i64 0]) ∧ W = w') := Lib.hid (fun W => begin_ok a len cap k 30 m c hl (by omega) hm hcm hmc hbig W)
  have hx := drop_sl hs k m c hm (by omega)
  generalize bs.drop k = X at *
  obtain ⟨a', ha'⟩ : ∃ a', a' = Option.map (fun x => x.add k) a := ⟨_, rfl⟩
  rw [← ha'] at hx C
  have S0 := Lib.hid hx
  have v1 : (4 : Int) ≤ (c : Int) := by omega
  have v2 : 4 ≤ c := by omega
  have G1 : Hid (Has ((w.alloc (.cells #[.string ⟨#[]⟩, .int .i64 0, .int .i64 0, .int .i64 0, .int .i64 0, .int .i64 0] 25)).alloc (.cells #[.int .i64 28] 3)) (w.heap.size + 1) (.cells #[.int .i64 28] 3)) := by
    have hh := Has.new (w.alloc (.cells #[.string ⟨#[]⟩, .int .i64 0, .int .i64 0, .int .i64 0, .int .i64 0, .int .i64 0] 25)) (.cells #[.int .i64 28] 3)
    rw [show (w.alloc (.cells #[.string ⟨#[]⟩, .int .i64 0, .int .i64 0, .int .i64 0, .int .i64 0, .int .i64 0] 25)).heap.size = w.heap.size + 1 by simp] at hh
    exact hh
  have hcv : (convert 22 9 (.slice a' 4 c)).run Try.prog (w.alloc (.cells #[.string ⟨#[]⟩, .int .i64 0, .int .i64 0, .int .i64 0, .int .i64 0, .int .i64 0] 25)) = .ok (.string ⟨#[80, 75, 3, 4]⟩) (w.alloc (.cells #[.string ⟨#[]⟩, .int .i64 0, .int .i64 0, .int .i64 0, .int .i64 0, .int .i64 0] 25)) := string_of _ _ _ _ _ _ ((hx.later B0.out).take 4 (by omega)) (Lib.hid (by rw [h]; rfl))
  rw [← ha'] at hz hb
  have HZ := Lib.hid hz
  have HB := Lib.hid hb
  have hk9 : k ≤ 281474976710656 := by omega
  have hw1 : IntKind.i64.wrap ((k : Int) + 30) = (k : Int) + 30 := IntWalk.i64_in _ (by omega)
  have hw2 : IntKind.i64.wrap ((k : Int) + 30 + (M.size : Int)) = (j : Int) := by rw [IntWalk.i64_in _ (by omega)]; omega
  have HW := Lib.hid (And.intro hw1 hw2)
  clear h hs hm hcm hmc hbig hx hl ha' hz hb hM hj hk9 hw1 hw2
  go_enter Try.func9, Try.ntmps9
  go_wp2_with fail
  refine (C.out _).mono ?_
  rintro e w1 ⟨rfl, rfl⟩
  go_wp2_with fail
  refine (HZ.out _ (w.heap.size + 1) ((S0.out.later B0.out).later (below1 _ (.cells #[.int .i64 28] 3))) G1.out).mono ?_
  rintro e w2 ⟨rfl, h2⟩
  have B2 := Lib.hid ((B0.out.trans ((below1 (w.alloc (.cells #[.string ⟨#[]⟩, .int .i64 0, .int .i64 0, .int .i64 0, .int .i64 0, .int .i64 0] 25)) (.cells #[.int .i64 28] 3)).mono B0.out.size)).trans (h2.mono (B0.out.trans ((below1 (w.alloc (.cells #[.string ⟨#[]⟩, .int .i64 0, .int .i64 0, .int .i64 0, .int .i64 0, .int .i64 0] 25)) (.cells #[.int .i64 28] 3)).mono B0.out.size)).size))
  have N2 := Lib.hid ((N0.out.later (below1 (w.alloc (.cells #[.string ⟨#[]⟩, .int .i64 0, .int .i64 0, .int .i64 0, .int .i64 0, .int .i64 0] 25)) (.cells #[.int .i64 28] 3))).later h2)
  clear h2 HZ B0 N0 G1
  go_wp2_with fail
  refine (HB.out _ (S0.out.later B2.out)).mono ?_
  rintro e w3 ⟨rfl, h3⟩
  have B3 := Lib.hid (B2.out.trans (h3.mono B2.out.size))
  have N3 := Lib.hid (N2.out.later h3)
  clear h3 HB B2 N2
  obtain ⟨w4, hw4⟩ : ∃ v, v = w3.alloc (.cells #[.string M, .int .i64 ym, .int .i64 ys, .int .i64 yp, .int .i64 yz, .int .i64 0] 25) := ⟨_, rfl⟩
  have B4 := Lib.hid (show Below w.heap.size w w4 by rw [hw4]; exact B3.out.trans ((below1 w3 _).mono B3.out.size))
  have K4 := Lib.hid (show Has w4 w3.heap.size (.cells #[.string M, .int .i64 ym, .int .i64 ys, .int .i64 yp, .int .i64 yz, .int .i64 0] 25) by rw [hw4]; exact Has.new w3 _)
  have N4 := Lib.hid (show Has w4 w.heap.size (.cells #[.string ⟨#[]⟩, .int .i64 0, .int .i64 0, .int .i64 0, .int .i64 0, .int .i64 0] 25) by rw [hw4]; exact N3.out.alloc _)
  have X4 := Lib.hid (show w.heap.size ≠ w3.heap.size from fun hh => by have := N3.out.lt; omega)
  have Y4 := Lib.hid (show w.heap.size ≤ w3.heap.size from B3.out.size)
  have V4 := Lib.hid hw4
  clear hw4 B3 N3
  go_wp2_with fail
  rw [← V4.out]
  clear V4
  have D1 := below_drewN (Below.refl w4.heap.size w4) 1
  have k1 : Has w4.drew w3.heap.size (.cells #[.string M, .int .i64 ym, .int .i64 ys, .int .i64 yp, .int .i64 yz, .int .i64 0] 25) := K4.out.later D1
  have n1 : Has w4.drew w.heap.size (.cells #[.string ⟨#[]⟩, .int .i64 0, .int .i64 0, .int .i64 0, .int .i64 0, .int .i64 0] 25) := N4.out.later D1
  have B7 := Lib.hid (show Below w.heap.size w w4.drew from below_drewN B4.out 1)
  have N7 := Lib.hid n1
  have g7 : (Has w4.drew w3.heap.size (.cells #[.string M, .int .i64 ym, .int .i64 ys, .int .i64 yp, .int .i64 yz, .int .i64 0] 25) ∧ True) := ⟨k1, trivial⟩
  have hw1 := HW.out.1
  have hw2 := HW.out.2
  clear K4 N4 B4 D1 HW n1
  refine wp_region_held_drew (S := fun wx => Has wx w3.heap.size (.cells #[.string M, .int .i64 ym, .int .i64 ys, .int .i64 yp, .int .i64 yz, .int .i64 0] 25) ∧ True) (by kernel_rfl) g7 (fun _ => ?_)
  change wpAnyH _ _ _ _ _ 10 (Array.replicate 10 false) _ _
  refine wpAnyH_take (i := 0) (v := .agg #[.string M, .int .i64 ym, .int .i64 ys, .int .i64 yp, .int .i64 yz, .int .i64 0]) rfl (by kernel_rfl) (by kernel_rfl) (by kernel_rfl) (fun _ _ _ h => h) (Or.inl ⟨rfl, ?hy0⟩) g7 ?_
  case hy0 =>
    intro w' hw'
    refine exec_load_row (.tmp 9) rfl w3.heap.size rfl 25 _ (0, 0) _ hw'.1 Try.underlying25 rfl hi
  try simp only [Act.put, List.getElem_toArray, List.getElem_cons_zero, List.setIfInBounds_toArray, List.set_cons_zero, List.set_cons_succ]
  refine wpAnyH_take (i := 1) (v := ?_) rfl (by kernel_rfl) (by kernel_rfl) (by kernel_rfl) (fun _ _ _ h => h) (Or.inl ⟨rfl, ?hy1⟩) g7 ?_
  case hy1 => intro w' hw'; clear hw'; go_simp; first | done | rfl
  try simp only [Act.put, List.getElem_toArray, List.getElem_cons_zero, List.getElem_cons_succ, List.setIfInBounds_toArray, List.set_cons_zero, List.set_cons_succ]
  refine wpAnyH_take (i := 2) (v := ?_) rfl (by kernel_rfl) (by kernel_rfl) (by kernel_rfl) (fun _ _ _ h => h) (Or.inl ⟨rfl, ?hy2⟩) g7 ?_
  case hy2 => intro w' hw'; clear hw'; go_simp; first | done | rfl
  try simp only [Act.put, List.getElem_toArray, List.getElem_cons_zero, List.getElem_cons_succ, List.setIfInBounds_toArray, List.set_cons_zero, List.set_cons_succ]
  refine wpAnyH_take (i := 3) (v := ?_) rfl (by kernel_rfl) (by kernel_rfl) (by kernel_rfl) (fun _ _ _ h => h) (Or.inl ⟨rfl, ?hy3⟩) g7 ?_
  case hy3 => intro w' hw'; clear hw'; go_simp; first | done | rfl
  try simp only [Act.put, List.getElem_toArray, List.getElem_cons_zero, List.getElem_cons_succ, List.setIfInBounds_toArray, List.set_cons_zero, List.set_cons_succ]
  refine wpAnyH_take (i := 4) (v := ?_) rfl (by kernel_rfl) (by kernel_rfl) (by kernel_rfl) (fun _ _ _ h => h) (Or.inl ⟨rfl, ?hy4⟩) g7 ?_
  case hy4 => intro w' hw'; have c0 := hw'.1.cell 0; clear hw'; go_simp; first | done | rfl
  try simp only [Act.put, List.getElem_toArray, List.getElem_cons_zero, List.getElem_cons_succ, List.setIfInBounds_toArray, List.set_cons_zero, List.set_cons_succ]
  refine wpAnyH_take (i := 5) (v := ?_) rfl (by kernel_rfl) (by kernel_rfl) (by kernel_rfl) (fun _ _ _ h => h) (Or.inl ⟨rfl, ?hy5⟩) g7 ?_
  case hy5 => intro w' hw'; clear hw'; go_simp; first | done | rfl
  try simp only [Act.put, List.getElem_toArray, List.getElem_cons_zero, List.getElem_cons_succ, List.setIfInBounds_toArray, List.set_cons_zero, List.set_cons_succ]
  refine wpAnyH_take (i := 6) (v := ?_) rfl (by kernel_rfl) (by kernel_rfl) (by kernel_rfl) (fun _ _ _ h => h) (Or.inl ⟨rfl, ?hy6⟩) g7 ?_
  case hy6 => intro w' hw'; clear hw'; go_simp; first | done | rfl
  try simp only [Act.put, List.getElem_toArray, List.getElem_cons_zero, List.getElem_cons_succ, List.setIfInBounds_toArray, List.set_cons_zero, List.set_cons_succ]
  have RW := setRow_heap w4.drew w.heap.size _ #[.string M, .int .i64 ym, .int .i64 ys, .int .i64 yp, .int .i64 yz, .int .i64 0] _ _ N7.out
  have i1 : Has (w4.drew.setRow w.heap.size #[.string M, .int .i64 ym, .int .i64 ys, .int .i64 yp, .int .i64 yz, .int .i64 0]) w3.heap.size (.cells #[.string M, .int .i64 ym, .int .i64 ys, .int .i64 yp, .int .i64 yz, .int .i64 0] 25) ∧ True := ⟨has_setRow k1 X4.out _, trivial⟩
  refine wpAnyH_ready (rs := [7]) (by kernel_rfl) (by simp) ?_
  refine AllReadyH.cons rfl (fun K hK => ?_) AllReadyH.nil
  rw [if_pos (by rfl)]
  refine wp_store_row 25 _ _ rfl w.heap.size #[.string M, .int .i64 ym, .int .i64 ys, .int .i64 yp, .int .i64 yz, .int .i64 0] rfl rfl 25 _ N7.out hi rfl (by simp [Value.oneCell']) ?_
  refine hK.out _ _ i1 (fun _ => ?_)
  clear hK K
  try simp only [Act.put, List.getElem_toArray, List.getElem_cons_zero, List.getElem_cons_succ]
  refine wpAnyH_take (i := 8) (v := ?_) rfl (by kernel_rfl) (by kernel_rfl) (by kernel_rfl) (fun _ _ _ h => h) (Or.inl ⟨rfl, ?hy8⟩) i1 ?_
  case hy8 => intro w' hw'; clear hw'; go_simp; first | done | rfl
  try simp only [Act.put, List.getElem_toArray, List.getElem_cons_zero, List.getElem_cons_succ, List.setIfInBounds_toArray, List.set_cons_zero, List.set_cons_succ]
  refine wpAnyH_take (i := 9) (v := ?_) rfl (by kernel_rfl) (by kernel_rfl) (by kernel_rfl) (fun _ _ _ h => h) (Or.inl ⟨rfl, ?hy9⟩) i1 ?_
  case hy9 => intro w' hw'; clear hw'; go_simp; first | done | rfl
  try simp only [Act.put, List.getElem_toArray, List.getElem_cons_zero, List.getElem_cons_succ, List.setIfInBounds_toArray, List.set_cons_zero, List.set_cons_succ]
  refine wpAnyH_done (by kernel_rfl) ?_ _
  go_wp2
  refine bodyPost_ret (results_cell_tt rfl _ _ w.heap.size 25 _ (0, 0) _ rfl RW Try.underlying25 rfl hi) rfl ⟨rfl, below_setRow B7.out (Nat.le_refl _) _⟩
end Go.Proofs.Ytillckjohlbaiaa
