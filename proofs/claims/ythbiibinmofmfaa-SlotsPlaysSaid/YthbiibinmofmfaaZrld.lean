/- The document's Load. -/
import Derived.Test.YthbiibinmofmfaaFcut
import Derived.Test.YthbiibinmofmfaaZrhd
import Derived.Test.YthbiibinmofmfaaZleaf
import Derived.Test.YthbiibinmofmfaaZlv

namespace Go.Proofs.Ythbiibinmofmfaa
set_option maxRecDepth 100000
open Go.RowKit

theorem results_four {fn : Func} {t u v x : Tmp} (h : fn.results = #[.tmp t, .tmp u, .tmp v, .tmp x]) (tmps : Array Value) (P : Program) (w : World) :
    (results fn tmps).run P w = .ok (.tuple #[tmps.getD t undef, tmps.getD u undef, tmps.getD v undef, tmps.getD x undef]) w := by
  simp [results, h]
/-- What the document's Load tells. -/
def rlv (d : Ek.Dk) : Value := .tuple #[.string (strB (Sk.loadB d)), .int .i64 ((Sk.loadG d : Nat) : Int), .int .i64 ((Sk.loadS d : Nat) : Int), .int .i64 (Sk.loadE d)]
theorem num4_get {h : List Nat} (i : Nat) (hl : i + 4 ≤ h.length) : (h.drop i).take 4 = [h[i]?.getD 0, h[i + 1]?.getD 0, h[i + 2]?.getD 0, h[i + 3]?.getD 0] := by
  have e : h.drop i = h[i] :: h[i + 1] :: h[i + 2] :: h[i + 3] :: h.drop (i + 4) := by
    rw [List.drop_eq_getElem_cons (by omega), List.drop_eq_getElem_cons (i := i + 1) (by omega), List.drop_eq_getElem_cons (i := i + 1 + 1) (by omega), List.drop_eq_getElem_cons (i := i + 1 + 1 + 1) (by omega)]
  rw [e]
  simp only [List.take_succ_cons, List.take_zero, Option.getD_some, List.getElem?_eq_getElem (show i < h.length by omega), List.getElem?_eq_getElem (show i + 1 < h.length by omega), List.getElem?_eq_getElem (show i + 2 < h.length by omega), List.getElem?_eq_getElem (show i + 3 < h.length by omega)]
theorem Sk.content_len {d : Ek.Dk} (hok : Ek.Ok d) (slot size : Nat) : (Sk.content d slot size).length = size := by
  unfold Sk.content Sk.bytes
  rw [List.length_take, Sk.secs_length _ _ _ (fun i => (Ek.now_row hok i).1)]
  omega
theorem Sk.secs_byte {f : Nat → List Nat} (h : ∀ i, ∀ x ∈ f i, x < 256) (a k : Nat) : ∀ x ∈ Sk.secs f a k, x < 256 := by
  induction k with
  | zero => intro x hx; cases hx
  | succ k ih =>
    intro x hx
    rcases List.mem_append.1 hx with h1 | h1
    · exact ih x h1
    · exact h _ x h1
theorem Sk.content_byte {d : Ek.Dk} (hok : Ek.Ok d) (slot size : Nat) : ∀ x ∈ Sk.content d slot size, x < 256 := fun x hx => Sk.secs_byte (fun i => (Ek.now_row hok i).2) _ _ x (List.mem_of_mem_take hx)
theorem strB_inj' {bs cs : List Nat} (hb : ∀ x ∈ bs, x < 256) (hc : ∀ x ∈ cs, x < 256) (h : (strB bs).toList = (strB cs).toList) : bs = cs := by
  have e : ∀ m : List Nat, (strB m).toList = m.map UInt8.ofNat := fun m => by
    rw [ByteArray.toList_eq]
    unfold strB
    rw [strOfNums_data, List.map_map]
    congr 1
  rw [e, e] at h
  have back : ∀ m : List Nat, (∀ x ∈ m, x < 256) → (m.map UInt8.ofNat).map UInt8.toNat = m := fun m hm => by
    rw [List.map_map]
    conv => rhs; rw [← List.map_id m]
    apply List.map_congr_left
    intro x hx
    have := hm x hx
    simp
    omega
  rw [← back bs hb, h, back cs hc]

set_option maxRecDepth 100000 in
set_option maxHeartbeats 8000000 in
theorem rload_a (a la : Option Addr) (n c L lc : Nat) (F : Int) (DD : Bool) (hn : n < 3) (w : World) :
    Calls Try.prog 19 #[.agg #[.slice a n c, .slice la L lc, .int .i64 F, .bool DD]] w fun e w' => e = .returned (.tuple #[.string ⟨#[]⟩, .int .i64 0, .int .i64 0, .int .i64 7]) ∧ Below w.heap.size w w' := by
  have HB0 := Lib.hid (below1 w (.cells #[.slice a n c, .slice la L lc, .int .i64 F, .bool DD] 32))
  have c1 : ((n : Int) < 3) := by omega
  go_enter Try.func19, Try.ntmps19
  go_wp2
  refine bodyPost_ret (results_four rfl _ _ _) rfl ⟨rfl, HB0.out⟩

set_option maxRecDepth 100000 in
set_option maxHeartbeats 8000000 in
theorem rload_b (a la : Option Addr) (n c L lc : Nat) (F : Int) (DD : Bool) (hn : ¬ n < 3) (q : Int) (hq : (q == 0) = false) (w : World)
    (HR : Hid (∀ W, Below w.heap.size w W → Calls Try.prog 38 #[.agg #[.slice a n c, .slice la L lc, .int .i64 F, .bool DD], .int .i64 0] W fun e w' => e = .returned (.tuple #[.string ⟨#[]⟩, .int .i64 q]) ∧ Below W.heap.size W w')) :
    Calls Try.prog 19 #[.agg #[.slice a n c, .slice la L lc, .int .i64 F, .bool DD]] w fun e w' => e = .returned (.tuple #[.string ⟨#[]⟩, .int .i64 0, .int .i64 0, .int .i64 q]) ∧ Below w.heap.size w w' := by
  have HB0 := Lib.hid (below1 w (.cells #[.slice a n c, .slice la L lc, .int .i64 F, .bool DD] 32))
  have c1 : ¬ ((n : Int) < 3) := by omega
  go_enter Try.func19, Try.ntmps19
  go_wp2_with fail
  refine (HR.out _ HB0.out).mono ?_
  rintro e w2 ⟨rfl, hb2⟩
  go_wp2_with fail
  refine bodyPost_ret (results_four rfl _ _ _) rfl ⟨rfl, HB0.out.trans (hb2.mono HB0.out.size)⟩

set_option maxRecDepth 100000 in
set_option maxHeartbeats 8000000 in
theorem rload_c (a la : Option Addr) (n c L lc : Nat) (F : Int) (DD : Bool) (hn : ¬ n < 3) (H : ByteArray) (ro : List Nat) (g sl sz rm : Nat) (w : World)
    (HR : Hid (∀ W, Below w.heap.size w W → Calls Try.prog 38 #[.agg #[.slice a n c, .slice la L lc, .int .i64 F, .bool DD], .int .i64 0] W fun e w' => e = .returned (.tuple #[.string H, .int .i64 0]) ∧ Below W.heap.size W w'))
    (HCV : Hid (∀ W, ∃ cap w', (convert 9 35 (.string H)).run Try.prog W = .ok (.slice (some ⟨W.heap.size, 0, none⟩) 512 cap) w' ∧ Sl w' (.slice (some ⟨W.heap.size, 0, none⟩) 512 cap) ro ∧ Below W.heap.size W w' ∧ 512 ≤ cap))
    (G4 : Hid (∀ W a cap, 512 ≤ cap → Sl W (.slice a 512 cap) ro → Calls Try.prog 40 #[.slice a 512 cap, .int .i64 4, .int .i64 4] W fun e w' => e = .returned (.tuple #[.int .i64 (g : Int), .int .i64 0]) ∧ Below W.heap.size W w'))
    (G8 : Hid (∀ W a cap, 512 ≤ cap → Sl W (.slice a 512 cap) ro → Calls Try.prog 40 #[.slice a 512 cap, .int .i64 8, .int .i64 4] W fun e w' => e = .returned (.tuple #[.int .i64 (sl : Int), .int .i64 0]) ∧ Below W.heap.size W w'))
    (G12 : Hid (∀ W a cap, 512 ≤ cap → Sl W (.slice a 512 cap) ro → Calls Try.prog 40 #[.slice a 512 cap, .int .i64 12, .int .i64 4] W fun e w' => e = .returned (.tuple #[.int .i64 (sz : Int), .int .i64 0]) ∧ Below W.heap.size W w'))
    (_HRM : Hid (∀ W, Calls Try.prog 23 #[.int .i64 (n : Int)] W fun e w' => e = .returned (.int .i64 (rm : Int)) ∧ W = w')) (hq : 1 < sl) :
    Calls Try.prog 19 #[.agg #[.slice a n c, .slice la L lc, .int .i64 F, .bool DD]] w fun e w' => e = .returned (.tuple #[.string ⟨#[]⟩, .int .i64 0, .int .i64 0, .int .i64 15]) ∧ Below w.heap.size w w' := by
  have q1 : (1 : Int) < (sl : Int) := by omega
  have HM0 := Lib.hid (Has.new w (.cells #[.slice a n c, .slice la L lc, .int .i64 F, .bool DD] 32))
  have HB0 := Lib.hid (below1 w (.cells #[.slice a n c, .slice la L lc, .int .i64 F, .bool DD] 32))
  have c1 : ¬ ((n : Int) < 3) := by omega
  go_enter Try.func19, Try.ntmps19
  go_wp2_with fail
  refine (HR.out _ HB0.out).mono ?_
  rintro e w1 ⟨rfl, hb1⟩
  have B1 := Lib.hid (HB0.out.trans (hb1.mono HB0.out.size))
  have M1 := Lib.hid (HM0.out.later hb1)
  clear hb1 HR HB0 HM0
  obtain ⟨k0, w2, hc0, hs0, hb0, hk0⟩ := HCV.out w1
  have B2 := Lib.hid (B1.out.trans (hb0.mono B1.out.size))
  have M2 := Lib.hid (M1.out.later hb0)
  have CG := Lib.hid (G4.out w2 _ _ hk0 hs0)
  clear hs0 hb0 hk0 B1 M1
  go_wp2_with fail
  refine CG.out.mono ?_
  rintro e w3 ⟨rfl, hbb⟩
  have B3 := Lib.hid (B2.out.trans (hbb.mono B2.out.size))
  have M3 := Lib.hid (M2.out.later hbb)
  clear hbb CG hc0 B2 M2
  obtain ⟨k1, w4, hc1, hs1, hb1, hk1⟩ := HCV.out w3
  have B4 := Lib.hid (B3.out.trans (hb1.mono B3.out.size))
  have M4 := Lib.hid (M3.out.later hb1)
  have CG := Lib.hid (G8.out w4 _ _ hk1 hs1)
  clear hs1 hb1 hk1 B3 M3
  go_wp2_with fail
  refine CG.out.mono ?_
  rintro e w5 ⟨rfl, hbb⟩
  have B5 := Lib.hid (B4.out.trans (hbb.mono B4.out.size))
  have M5 := Lib.hid (M4.out.later hbb)
  clear hbb CG hc1 B4 M4
  obtain ⟨k2, w6, hc2, hs2, hb2, hk2⟩ := HCV.out w5
  have B6 := Lib.hid (B5.out.trans (hb2.mono B5.out.size))
  have M6 := Lib.hid (M5.out.later hb2)
  have CG := Lib.hid (G12.out w6 _ _ hk2 hs2)
  clear hs2 hb2 hk2 B5 M5
  go_wp2_with fail
  refine CG.out.mono ?_
  rintro e w7 ⟨rfl, hbb⟩
  have B7 := Lib.hid (B6.out.trans (hbb.mono B6.out.size))
  have M7 := Lib.hid (M6.out.later hbb)
  clear hbb CG hc2 B6 M6
  go_wp2_with fail
  refine bodyPost_ret (results_four rfl _ _ _) rfl ⟨rfl, B7.out⟩

set_option maxRecDepth 100000 in
set_option maxHeartbeats 8000000 in
theorem rload_d (a la : Option Addr) (n c L lc : Nat) (F : Int) (DD : Bool) (hn : ¬ n < 3) (H : ByteArray) (ro : List Nat) (g sl sz rm : Nat) (w : World)
    (HR : Hid (∀ W, Below w.heap.size w W → Calls Try.prog 38 #[.agg #[.slice a n c, .slice la L lc, .int .i64 F, .bool DD], .int .i64 0] W fun e w' => e = .returned (.tuple #[.string H, .int .i64 0]) ∧ Below W.heap.size W w'))
    (HCV : Hid (∀ W, ∃ cap w', (convert 9 35 (.string H)).run Try.prog W = .ok (.slice (some ⟨W.heap.size, 0, none⟩) 512 cap) w' ∧ Sl w' (.slice (some ⟨W.heap.size, 0, none⟩) 512 cap) ro ∧ Below W.heap.size W w' ∧ 512 ≤ cap))
    (G4 : Hid (∀ W a cap, 512 ≤ cap → Sl W (.slice a 512 cap) ro → Calls Try.prog 40 #[.slice a 512 cap, .int .i64 4, .int .i64 4] W fun e w' => e = .returned (.tuple #[.int .i64 (g : Int), .int .i64 0]) ∧ Below W.heap.size W w'))
    (G8 : Hid (∀ W a cap, 512 ≤ cap → Sl W (.slice a 512 cap) ro → Calls Try.prog 40 #[.slice a 512 cap, .int .i64 8, .int .i64 4] W fun e w' => e = .returned (.tuple #[.int .i64 (sl : Int), .int .i64 0]) ∧ Below W.heap.size W w'))
    (G12 : Hid (∀ W a cap, 512 ≤ cap → Sl W (.slice a 512 cap) ro → Calls Try.prog 40 #[.slice a 512 cap, .int .i64 12, .int .i64 4] W fun e w' => e = .returned (.tuple #[.int .i64 (sz : Int), .int .i64 0]) ∧ Below W.heap.size W w'))
    (HRM : Hid (∀ W, Calls Try.prog 23 #[.int .i64 (n : Int)] W fun e w' => e = .returned (.int .i64 (rm : Int)) ∧ W = w')) (hq : ¬ 1 < sl) (hr : rm < sz) :
    Calls Try.prog 19 #[.agg #[.slice a n c, .slice la L lc, .int .i64 F, .bool DD]] w fun e w' => e = .returned (.tuple #[.string ⟨#[]⟩, .int .i64 0, .int .i64 0, .int .i64 15]) ∧ Below w.heap.size w w' := by
  have q1 : ¬ ((1 : Int) < (sl : Int)) := by omega
  have q2 : (rm : Int) < (sz : Int) := by omega
  have HM0 := Lib.hid (Has.new w (.cells #[.slice a n c, .slice la L lc, .int .i64 F, .bool DD] 32))
  have HB0 := Lib.hid (below1 w (.cells #[.slice a n c, .slice la L lc, .int .i64 F, .bool DD] 32))
  have c1 : ¬ ((n : Int) < 3) := by omega
  go_enter Try.func19, Try.ntmps19
  go_wp2_with fail
  refine (HR.out _ HB0.out).mono ?_
  rintro e w1 ⟨rfl, hb1⟩
  have B1 := Lib.hid (HB0.out.trans (hb1.mono HB0.out.size))
  have M1 := Lib.hid (HM0.out.later hb1)
  clear hb1 HR HB0 HM0
  obtain ⟨k0, w2, hc0, hs0, hb0, hk0⟩ := HCV.out w1
  have B2 := Lib.hid (B1.out.trans (hb0.mono B1.out.size))
  have M2 := Lib.hid (M1.out.later hb0)
  have CG := Lib.hid (G4.out w2 _ _ hk0 hs0)
  clear hs0 hb0 hk0 B1 M1
  go_wp2_with fail
  refine CG.out.mono ?_
  rintro e w3 ⟨rfl, hbb⟩
  have B3 := Lib.hid (B2.out.trans (hbb.mono B2.out.size))
  have M3 := Lib.hid (M2.out.later hbb)
  clear hbb CG hc0 B2 M2
  obtain ⟨k1, w4, hc1, hs1, hb1, hk1⟩ := HCV.out w3
  have B4 := Lib.hid (B3.out.trans (hb1.mono B3.out.size))
  have M4 := Lib.hid (M3.out.later hb1)
  have CG := Lib.hid (G8.out w4 _ _ hk1 hs1)
  clear hs1 hb1 hk1 B3 M3
  go_wp2_with fail
  refine CG.out.mono ?_
  rintro e w5 ⟨rfl, hbb⟩
  have B5 := Lib.hid (B4.out.trans (hbb.mono B4.out.size))
  have M5 := Lib.hid (M4.out.later hbb)
  clear hbb CG hc1 B4 M4
  obtain ⟨k2, w6, hc2, hs2, hb2, hk2⟩ := HCV.out w5
  have B6 := Lib.hid (B5.out.trans (hb2.mono B5.out.size))
  have M6 := Lib.hid (M5.out.later hb2)
  have CG := Lib.hid (G12.out w6 _ _ hk2 hs2)
  clear hs2 hb2 hk2 B5 M5
  go_wp2_with fail
  refine CG.out.mono ?_
  rintro e w7 ⟨rfl, hbb⟩
  have B7 := Lib.hid (B6.out.trans (hbb.mono B6.out.size))
  have M7 := Lib.hid (M6.out.later hbb)
  clear hbb CG hc2 B6 M6
  have n0 := (M7.out.cell 0 : _ = some (Value.slice a n c))
  go_wp2_with (go_at_call 23; refine (HRM.out _).mono ?_; rintro e w' ⟨rfl, rfl⟩)
  refine bodyPost_ret (results_four rfl _ _ _) rfl ⟨rfl, B7.out⟩

set_option maxRecDepth 100000 in
set_option maxHeartbeats 8000000 in
theorem rload_e (a la : Option Addr) (n c L lc : Nat) (F : Int) (DD : Bool) (hn : ¬ n < 3) (H : ByteArray) (ro : List Nat) (g sl sz rm : Nat) (w : World)
    (HR : Hid (∀ W, Below w.heap.size w W → Calls Try.prog 38 #[.agg #[.slice a n c, .slice la L lc, .int .i64 F, .bool DD], .int .i64 0] W fun e w' => e = .returned (.tuple #[.string H, .int .i64 0]) ∧ Below W.heap.size W w'))
    (HCV : Hid (∀ W, ∃ cap w', (convert 9 35 (.string H)).run Try.prog W = .ok (.slice (some ⟨W.heap.size, 0, none⟩) 512 cap) w' ∧ Sl w' (.slice (some ⟨W.heap.size, 0, none⟩) 512 cap) ro ∧ Below W.heap.size W w' ∧ 512 ≤ cap))
    (G4 : Hid (∀ W a cap, 512 ≤ cap → Sl W (.slice a 512 cap) ro → Calls Try.prog 40 #[.slice a 512 cap, .int .i64 4, .int .i64 4] W fun e w' => e = .returned (.tuple #[.int .i64 (g : Int), .int .i64 0]) ∧ Below W.heap.size W w'))
    (G8 : Hid (∀ W a cap, 512 ≤ cap → Sl W (.slice a 512 cap) ro → Calls Try.prog 40 #[.slice a 512 cap, .int .i64 8, .int .i64 4] W fun e w' => e = .returned (.tuple #[.int .i64 (sl : Int), .int .i64 0]) ∧ Below W.heap.size W w'))
    (G12 : Hid (∀ W a cap, 512 ≤ cap → Sl W (.slice a 512 cap) ro → Calls Try.prog 40 #[.slice a 512 cap, .int .i64 12, .int .i64 4] W fun e w' => e = .returned (.tuple #[.int .i64 (sz : Int), .int .i64 0]) ∧ Below W.heap.size W w'))
    (HRM : Hid (∀ W, Calls Try.prog 23 #[.int .i64 (n : Int)] W fun e w' => e = .returned (.int .i64 (rm : Int)) ∧ W = w')) (hq : ¬ 1 < sl) (hr : ¬ rm < sz) (CT : ByteArray) (X : ByteArray)
    (HSL : Hid (∀ W, Below w.heap.size w W → Calls Try.prog 41 #[.agg #[.slice a n c, .slice la L lc, .int .i64 F, .bool DD], .int .i64 (sl : Int), .int .i64 (sz : Int)] W fun e w' => e = .returned (.tuple #[.string CT, .bool true]) ∧ Below W.heap.size W w'))
    (HHD : Hid (∀ W, Calls Try.prog 26 #[.int .i64 (g : Int), .int .i64 (sl : Int), .string CT] W fun e w' => e = .returned (.string X) ∧ Below W.heap.size W w')) (hne : ¬ H.toList = X.toList) :
    Calls Try.prog 19 #[.agg #[.slice a n c, .slice la L lc, .int .i64 F, .bool DD]] w fun e w' => e = .returned (.tuple #[.string ⟨#[]⟩, .int .i64 0, .int .i64 0, .int .i64 15]) ∧ Below w.heap.size w w' := by
  have q1 : ¬ ((1 : Int) < (sl : Int)) := by omega
  have q2 : ¬ ((rm : Int) < (sz : Int)) := by omega
  have hn1 : (H.toList == X.toList) = false := by simpa using hne
  have HM0 := Lib.hid (Has.new w (.cells #[.slice a n c, .slice la L lc, .int .i64 F, .bool DD] 32))
  have HB0 := Lib.hid (below1 w (.cells #[.slice a n c, .slice la L lc, .int .i64 F, .bool DD] 32))
  have c1 : ¬ ((n : Int) < 3) := by omega
  go_enter Try.func19, Try.ntmps19
  go_wp2_with fail
  refine (HR.out _ HB0.out).mono ?_
  rintro e w1 ⟨rfl, hb1⟩
  have B1 := Lib.hid (HB0.out.trans (hb1.mono HB0.out.size))
  have M1 := Lib.hid (HM0.out.later hb1)
  clear hb1 HR HB0 HM0
  obtain ⟨k0, w2, hc0, hs0, hb0, hk0⟩ := HCV.out w1
  have B2 := Lib.hid (B1.out.trans (hb0.mono B1.out.size))
  have M2 := Lib.hid (M1.out.later hb0)
  have CG := Lib.hid (G4.out w2 _ _ hk0 hs0)
  clear hs0 hb0 hk0 B1 M1
  go_wp2_with fail
  refine CG.out.mono ?_
  rintro e w3 ⟨rfl, hbb⟩
  have B3 := Lib.hid (B2.out.trans (hbb.mono B2.out.size))
  have M3 := Lib.hid (M2.out.later hbb)
  clear hbb CG hc0 B2 M2
  obtain ⟨k1, w4, hc1, hs1, hb1, hk1⟩ := HCV.out w3
  have B4 := Lib.hid (B3.out.trans (hb1.mono B3.out.size))
  have M4 := Lib.hid (M3.out.later hb1)
  have CG := Lib.hid (G8.out w4 _ _ hk1 hs1)
  clear hs1 hb1 hk1 B3 M3
  go_wp2_with fail
  refine CG.out.mono ?_
  rintro e w5 ⟨rfl, hbb⟩
  have B5 := Lib.hid (B4.out.trans (hbb.mono B4.out.size))
  have M5 := Lib.hid (M4.out.later hbb)
  clear hbb CG hc1 B4 M4
  obtain ⟨k2, w6, hc2, hs2, hb2, hk2⟩ := HCV.out w5
  have B6 := Lib.hid (B5.out.trans (hb2.mono B5.out.size))
  have M6 := Lib.hid (M5.out.later hb2)
  have CG := Lib.hid (G12.out w6 _ _ hk2 hs2)
  clear hs2 hb2 hk2 B5 M5
  go_wp2_with fail
  refine CG.out.mono ?_
  rintro e w7 ⟨rfl, hbb⟩
  have B7 := Lib.hid (B6.out.trans (hbb.mono B6.out.size))
  have M7 := Lib.hid (M6.out.later hbb)
  clear hbb CG hc2 B6 M6
  have n0 := (M7.out.cell 0 : _ = some (Value.slice a n c))
  have n1 := (M7.out.cell 1 : _ = some (Value.slice la L lc))
  have n2 := (M7.out.cell 2 : _ = some (Value.int .i64 F))
  have n3 := (M7.out.cell 3 : _ = some (Value.bool DD))
  go_wp2_with (go_at_call 23; refine (HRM.out _).mono ?_; rintro e w' ⟨rfl, rfl⟩)
  refine (HSL.out _ B7.out).mono ?_
  rintro e w8 ⟨rfl, hb8⟩
  have B8 := Lib.hid (B7.out.trans (hb8.mono B7.out.size))
  clear hb8 n0 n1 n2 n3
  go_wp2_with fail
  refine (HHD.out _).mono ?_
  rintro e w9 ⟨rfl, hb9⟩
  have B9 := Lib.hid (B8.out.trans (hb9.mono B8.out.size))
  clear hb9
  go_wp2_with fail
  refine bodyPost_ret (results_four rfl _ _ _) rfl ⟨rfl, B9.out⟩

set_option maxRecDepth 100000 in
set_option maxHeartbeats 8000000 in
theorem rload_f (a la : Option Addr) (n c L lc : Nat) (F : Int) (DD : Bool) (hn : ¬ n < 3) (H : ByteArray) (ro : List Nat) (g sl sz rm : Nat) (w : World)
    (HR : Hid (∀ W, Below w.heap.size w W → Calls Try.prog 38 #[.agg #[.slice a n c, .slice la L lc, .int .i64 F, .bool DD], .int .i64 0] W fun e w' => e = .returned (.tuple #[.string H, .int .i64 0]) ∧ Below W.heap.size W w'))
    (HCV : Hid (∀ W, ∃ cap w', (convert 9 35 (.string H)).run Try.prog W = .ok (.slice (some ⟨W.heap.size, 0, none⟩) 512 cap) w' ∧ Sl w' (.slice (some ⟨W.heap.size, 0, none⟩) 512 cap) ro ∧ Below W.heap.size W w' ∧ 512 ≤ cap))
    (G4 : Hid (∀ W a cap, 512 ≤ cap → Sl W (.slice a 512 cap) ro → Calls Try.prog 40 #[.slice a 512 cap, .int .i64 4, .int .i64 4] W fun e w' => e = .returned (.tuple #[.int .i64 (g : Int), .int .i64 0]) ∧ Below W.heap.size W w'))
    (G8 : Hid (∀ W a cap, 512 ≤ cap → Sl W (.slice a 512 cap) ro → Calls Try.prog 40 #[.slice a 512 cap, .int .i64 8, .int .i64 4] W fun e w' => e = .returned (.tuple #[.int .i64 (sl : Int), .int .i64 0]) ∧ Below W.heap.size W w'))
    (G12 : Hid (∀ W a cap, 512 ≤ cap → Sl W (.slice a 512 cap) ro → Calls Try.prog 40 #[.slice a 512 cap, .int .i64 12, .int .i64 4] W fun e w' => e = .returned (.tuple #[.int .i64 (sz : Int), .int .i64 0]) ∧ Below W.heap.size W w'))
    (HRM : Hid (∀ W, Calls Try.prog 23 #[.int .i64 (n : Int)] W fun e w' => e = .returned (.int .i64 (rm : Int)) ∧ W = w')) (hq : ¬ 1 < sl) (hr : ¬ rm < sz) (CT : ByteArray) (X : ByteArray)
    (HSL : Hid (∀ W, Below w.heap.size w W → Calls Try.prog 41 #[.agg #[.slice a n c, .slice la L lc, .int .i64 F, .bool DD], .int .i64 (sl : Int), .int .i64 (sz : Int)] W fun e w' => e = .returned (.tuple #[.string CT, .bool true]) ∧ Below W.heap.size W w'))
    (HHD : Hid (∀ W, Calls Try.prog 26 #[.int .i64 (g : Int), .int .i64 (sl : Int), .string CT] W fun e w' => e = .returned (.string X) ∧ Below W.heap.size W w')) (hne : H = X) :
    Calls Try.prog 19 #[.agg #[.slice a n c, .slice la L lc, .int .i64 F, .bool DD]] w fun e w' => e = .returned (.tuple #[.string CT, .int .i64 (g : Int), .int .i64 (sl : Int), .int .i64 0]) ∧ Below w.heap.size w w' := by
  subst hne
  have q1 : ¬ ((1 : Int) < (sl : Int)) := by omega
  have q2 : ¬ ((rm : Int) < (sz : Int)) := by omega
  have hn1 : (H.toList == H.toList) = true := beq_self_eq_true _
  have HM0 := Lib.hid (Has.new w (.cells #[.slice a n c, .slice la L lc, .int .i64 F, .bool DD] 32))
  have HB0 := Lib.hid (below1 w (.cells #[.slice a n c, .slice la L lc, .int .i64 F, .bool DD] 32))
  have c1 : ¬ ((n : Int) < 3) := by omega
  go_enter Try.func19, Try.ntmps19
  go_wp2_with fail
  refine (HR.out _ HB0.out).mono ?_
  rintro e w1 ⟨rfl, hb1⟩
  have B1 := Lib.hid (HB0.out.trans (hb1.mono HB0.out.size))
  have M1 := Lib.hid (HM0.out.later hb1)
  clear hb1 HR HB0 HM0
  obtain ⟨k0, w2, hc0, hs0, hb0, hk0⟩ := HCV.out w1
  have B2 := Lib.hid (B1.out.trans (hb0.mono B1.out.size))
  have M2 := Lib.hid (M1.out.later hb0)
  have CG := Lib.hid (G4.out w2 _ _ hk0 hs0)
  clear hs0 hb0 hk0 B1 M1
  go_wp2_with fail
  refine CG.out.mono ?_
  rintro e w3 ⟨rfl, hbb⟩
  have B3 := Lib.hid (B2.out.trans (hbb.mono B2.out.size))
  have M3 := Lib.hid (M2.out.later hbb)
  clear hbb CG hc0 B2 M2
  obtain ⟨k1, w4, hc1, hs1, hb1, hk1⟩ := HCV.out w3
  have B4 := Lib.hid (B3.out.trans (hb1.mono B3.out.size))
  have M4 := Lib.hid (M3.out.later hb1)
  have CG := Lib.hid (G8.out w4 _ _ hk1 hs1)
  clear hs1 hb1 hk1 B3 M3
  go_wp2_with fail
  refine CG.out.mono ?_
  rintro e w5 ⟨rfl, hbb⟩
  have B5 := Lib.hid (B4.out.trans (hbb.mono B4.out.size))
  have M5 := Lib.hid (M4.out.later hbb)
  clear hbb CG hc1 B4 M4
  obtain ⟨k2, w6, hc2, hs2, hb2, hk2⟩ := HCV.out w5
  have B6 := Lib.hid (B5.out.trans (hb2.mono B5.out.size))
  have M6 := Lib.hid (M5.out.later hb2)
  have CG := Lib.hid (G12.out w6 _ _ hk2 hs2)
  clear hs2 hb2 hk2 B5 M5
  go_wp2_with fail
  refine CG.out.mono ?_
  rintro e w7 ⟨rfl, hbb⟩
  have B7 := Lib.hid (B6.out.trans (hbb.mono B6.out.size))
  have M7 := Lib.hid (M6.out.later hbb)
  clear hbb CG hc2 B6 M6
  have n0 := (M7.out.cell 0 : _ = some (Value.slice a n c))
  have n1 := (M7.out.cell 1 : _ = some (Value.slice la L lc))
  have n2 := (M7.out.cell 2 : _ = some (Value.int .i64 F))
  have n3 := (M7.out.cell 3 : _ = some (Value.bool DD))
  go_wp2_with (go_at_call 23; refine (HRM.out _).mono ?_; rintro e w' ⟨rfl, rfl⟩)
  refine (HSL.out _ B7.out).mono ?_
  rintro e w8 ⟨rfl, hb8⟩
  have B8 := Lib.hid (B7.out.trans (hb8.mono B7.out.size))
  clear hb8 n0 n1 n2 n3
  go_wp2_with fail
  refine (HHD.out _).mono ?_
  rintro e w9 ⟨rfl, hb9⟩
  have B9 := Lib.hid (B8.out.trans (hb9.mono B8.out.size))
  clear hb9
  go_wp2_with fail
  refine bodyPost_ret (results_four rfl _ _ _) rfl ⟨rfl, B9.out⟩

theorem rload_any (w : World) (G : Nat → Prop) (v : Value) (d : Ek.Dk) (h : DDk w G v d) :
    Calls Try.prog 19 #[v] w fun e w' => e = .returned (rlv d) ∧ Below w.heap.size w w' := by
  have hok : Ek.Ok d := by obtain ⟨_, _, _, _, _, _, _, ho⟩ := h; exact ho
  have hn8 := hok.hi
  unfold rlv
  have HR := fun W (hb : Below w.heap.size w W) => rdisk_read_any W G v d (h.later hb) 0
  have HS := fun W (hb : Below w.heap.size w W) => h.later hb
  obtain ⟨a, la, c, lc, rfl, -, -, -⟩ := h
  unfold dv at HR HS ⊢
  by_cases hn3 : d.n < 3
  · obtain ⟨e1, e2, e3, e4⟩ := Sk.rload_few hn3
    rw [e1, e2, e3, e4]
    exact rload_a a la d.n c _ lc _ _ hn3 w
  by_cases hd : d.dark = true
  · obtain ⟨e1, e2, e3, e4⟩ := Sk.rload_dark hn3 hd
    rw [e1, e2, e3, e4]
    have hr : Ek.readE d 0 = 6 := by unfold Ek.readE; rw [if_neg (by omega), if_pos hd]
    rw [hr, if_neg (by decide)] at HR
    exact rload_b a la d.n c _ lc _ _ hn3 6 (by decide) w (Lib.hid HR)
  have hd : d.dark = false := by simpa using hd
  have hr : Ek.readE d 0 = 0 := by unfold Ek.readE; rw [if_neg (by omega), if_neg (by simp [hd])]
  rw [hr, if_pos rfl] at HR
  have hrow := Ek.now_row hok 0
  have hfit : Sk.Fits (Sk.says d) := Sk.fits_told hrow.2
  have HCV : Hid (∀ W, ∃ cap w', (convert 9 35 (.string (strB (Ek.now d 0)))).run Try.prog W = .ok (.slice (some ⟨W.heap.size, 0, none⟩) 512 cap) w' ∧ Sl w' (.slice (some ⟨W.heap.size, 0, none⟩) 512 cap) (Ek.now d 0) ∧ Below W.heap.size W w' ∧ 512 ≤ cap) := fun W => by
    have := conv_bytes (Ek.now d 0) hrow.2 (by rw [hrow.1]; decide) _ (Lib.hid rfl) W
    rwa [hrow.1] at this
  have get : ∀ i : Nat, i + 4 ≤ 512 → ∀ W a cap, 512 ≤ cap → Sl W (.slice a 512 cap) (Ek.now d 0) → Calls Try.prog 40 #[.slice a 512 cap, .int .i64 (i : Int), .int .i64 4] W fun e w' => e = .returned (.tuple #[.int .i64 ((Sk.num4 (Ek.now d 0) i : Nat) : Int), .int .i64 0]) ∧ Below W.heap.size W w' := fun i hi W a cap hc hs =>
    rget4_ok a 512 cap (Ek.now d 0) i _ _ _ _ hi hc (num4_get i (by rw [hrow.1]; exact hi)) W hs
  have G4 := Lib.hid (get 4 (by decide))
  have G8 := Lib.hid (get 8 (by decide))
  have G12 := Lib.hid (get 12 (by decide))
  have HRM : Hid (∀ W, Calls Try.prog 23 #[.int .i64 (d.n : Int)] W fun e w' => e = .returned (.int .i64 ((Sk.room d.n : Nat) : Int)) ∧ W = w') := fun W => by
    have := rroom_any (d.n : Int) W (by omega) (by omega)
    rwa [Sk.roomI_nat] at this
  by_cases h1 : 1 < (Sk.says d).slot
  · obtain ⟨e1, e2, e3, e4⟩ := Sk.rload_bad hn3 hd (Or.inl h1)
    rw [e1, e2, e3, e4]
    exact rload_c a la d.n c _ lc _ _ hn3 _ _ _ _ _ _ w (Lib.hid HR) HCV G4 G8 G12 HRM h1
  by_cases h2 : Sk.room d.n < (Sk.says d).size
  · obtain ⟨e1, e2, e3, e4⟩ := Sk.rload_bad hn3 hd (Or.inr h2)
    rw [e1, e2, e3, e4]
    exact rload_d a la d.n c _ lc _ _ hn3 _ _ _ _ _ _ w (Lib.hid HR) HCV G4 G8 G12 HRM h1 h2
  have hc8 := Sk.content_byte hok (Sk.says d).slot (Sk.says d).size
  have hcl := Sk.content_len hok (Sk.says d).slot (Sk.says d).size
  have hsum := Cr.sum_lt 0 (Sk.content d (Sk.says d).slot (Sk.says d).size) (by decide) hc8
  have hsz : (Sk.says d).size ≤ 1048576 := by unfold Sk.room at h2; split at h2 <;> omega
  have HSL := fun W (hb : Below w.heap.size w W) => rslot_any W G _ d (HS W hb) hd (Sk.says d).slot (Sk.says d).size (by omega) (by omega)
  have HHD := fun W => rheader_any (Sk.says d).gen (Sk.says d).slot hfit.1 hfit.2.1 (Sk.content d (Sk.says d).slot (Sk.says d).size) hc8 (by rw [hcl]; exact hsz) _ (Lib.hid rfl) W
  rw [hcl] at HHD
  by_cases hh : Ek.now d 0 = Sk.header ⟨(Sk.says d).gen, (Sk.says d).slot, (Sk.says d).size, Cr.sum 0 (Sk.content d (Sk.says d).slot (Sk.says d).size)⟩
  · obtain ⟨e1, e2, e3, e4⟩ := Sk.rload_good hn3 hd (by omega) hrow.2 hsum hh
    rw [e1, e2, e3, e4]
    exact rload_f a la d.n c _ lc _ _ hn3 _ _ _ _ _ _ w (Lib.hid HR) HCV G4 G8 G12 HRM h1 h2 _ _ (Lib.hid HSL) (Lib.hid HHD) (congrArg strB hh)
  · obtain ⟨e1, e2, e3, e4⟩ := Sk.rload_else hn3 hd (by omega) hrow.2 hsum hh
    rw [e1, e2, e3, e4]
    exact rload_e a la d.n c _ lc _ _ hn3 _ _ _ _ _ _ w (Lib.hid HR) HCV G4 G8 G12 HRM h1 h2 _ _ (Lib.hid HSL) (Lib.hid HHD) (fun e => hh (strB_inj' hrow.2 (Sk.header_row _).2 e))
end Go.Proofs.Ythbiibinmofmfaa
