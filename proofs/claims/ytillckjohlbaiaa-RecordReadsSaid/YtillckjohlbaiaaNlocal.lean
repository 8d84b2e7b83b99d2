/- Contracts of record.Local and record.Central. -/
import Derived.Test.YtillckjohlbaiaaNhead
import Derived.Test.YtillckjohlbaiaaNlay

namespace Go.Proofs.Ytillckjohlbaiaa
set_option maxRecDepth 100000
open Go.RowKit Go.Shelf

/-- A header's numbers. -/
def hv (S : ByteArray) (m a b c d : Int) (k : Nat) : Nat := ([20, 20, 0, m.toNat, 0, 33, a.toNat, b.toNat, c.toNat, S.size, 0, 0, 0, 0, if endsB S = true then 16 else 0, d.toNat][k]?).getD 0
/-- What Local and Central tell. -/
def localB (S : ByteArray) (m a b c d : Int) : List Nat := [80, 75, 3, 4] ++ laid bothL (hv S m a b c d) ++ sB S
def centralB (S : ByteArray) (m a b c d : Int) : List Nat := [80, 75, 1, 2] ++ laid centralL (hv S m a b c d) ++ sB S

theorem hv_fits (S : ByteArray) (m a b c d : Int) (h : okR S.size m a b c d = true) : ∀ p ∈ centralL, p.2 = (p.2.toNat : Int) ∧ Fits p.2.toNat (hv S m a b c d p.1) := by
  obtain ⟨h1, h2, h3, h4, h5, h6, h7⟩ := okR_yes h
  obtain ⟨a0, a1⟩ := Fd.isn_of h4
  obtain ⟨b0, b1⟩ := Fd.isn_of h5
  obtain ⟨c0, c1⟩ := Fd.isn_of h6
  obtain ⟨d0, d1⟩ := Fd.isn_of h7
  have hm : m = 0 ∨ m = 8 := by unfold okM at h3; simpa using h3
  have hk : (if endsB S = true then 16 else 0 : Nat) < 4294967296 := by split <;> decide
  intro p hp
  simp only [centralL, bothL, List.cons_append, List.nil_append, List.mem_cons, List.not_mem_nil, or_false] at hp
  rcases hp with rfl | rfl | rfl | rfl | rfl | rfl | rfl | rfl | rfl | rfl | rfl | rfl | rfl | rfl | rfl | rfl
  all_goals (refine ⟨rfl, ?_⟩)
  all_goals first
    | exact Or.inl ⟨rfl, (by decide : (20 : Nat) < 65536)⟩
    | exact Or.inl ⟨rfl, (by decide : (0 : Nat) < 65536)⟩
    | exact Or.inl ⟨rfl, (by decide : (33 : Nat) < 65536)⟩
    | exact Or.inl ⟨rfl, (by omega : m.toNat < 65536)⟩
    | exact Or.inl ⟨rfl, (by omega : S.size < 65536)⟩
    | exact Or.inr ⟨rfl, (by omega : a.toNat < 4294967296)⟩
    | exact Or.inr ⟨rfl, (by omega : b.toNat < 4294967296)⟩
    | exact Or.inr ⟨rfl, (by omega : c.toNat < 4294967296)⟩
    | exact Or.inr ⟨rfl, (by omega : d.toNat < 4294967296)⟩
    | exact Or.inr ⟨rfl, hk⟩

theorem bothL_sub : ∀ p ∈ bothL, p ∈ centralL := by
  intro p hp
  simp only [centralL, List.cons_append, List.mem_cons, List.mem_append]
  exact Or.inr (Or.inl hp)

theorem hv_cells (S : ByteArray) (m a b c d : Int) (h : okR S.size m a b c d = true) (w : World) (H : Nat) (hH : Has w H (.cells (headV S m a b c d) 78 (0, 0))) : ∀ p ∈ centralL, w.cell? ⟨H, 0 + p.1, none⟩ = some (.int .i64 (hv S m a b c d p.1 : Int)) := by
  obtain ⟨h1, h2, h3, h4, h5, h6, h7⟩ := okR_yes h
  obtain ⟨a0, a1⟩ := Fd.isn_of h4
  obtain ⟨b0, b1⟩ := Fd.isn_of h5
  obtain ⟨c0, c1⟩ := Fd.isn_of h6
  obtain ⟨d0, d1⟩ := Fd.isn_of h7
  have hm : 0 ≤ m := by
    have : m = 0 ∨ m = 8 := by unfold okM at h3; simpa using h3
    omega
  intro p hp
  rw [hH.cell]
  simp only [centralL, bothL, List.cons_append, List.nil_append, List.mem_cons, List.not_mem_nil, or_false] at hp
  rcases hp with rfl | rfl | rfl | rfl | rfl | rfl | rfl | rfl | rfl | rfl | rfl | rfl | rfl | rfl | rfl | rfl
  all_goals first
    | rfl
    | (show some (Value.int .i64 m) = some (Value.int .i64 ((m.toNat : Nat) : Int)); rw [Int.toNat_of_nonneg hm])
    | (show some (Value.int .i64 a) = some (Value.int .i64 ((a.toNat : Nat) : Int)); rw [Int.toNat_of_nonneg a0])
    | (show some (Value.int .i64 b) = some (Value.int .i64 ((b.toNat : Nat) : Int)); rw [Int.toNat_of_nonneg b0])
    | (show some (Value.int .i64 c) = some (Value.int .i64 ((c.toNat : Nat) : Int)); rw [Int.toNat_of_nonneg c0])
    | (show some (Value.int .i64 d) = some (Value.int .i64 ((d.toNat : Nat) : Int)); rw [Int.toNat_of_nonneg d0])
    | (show some (Value.int .i64 (if endsB S = true then 16 else 0)) = some (Value.int .i64 (((if endsB S = true then 16 else 0 : Nat) : Nat) : Int)); split <;> rfl)

theorem lay_local (S : ByteArray) (m a b c d : Int) (h : okR S.size m a b c d = true) (w : World) (H : Nat) (hH : Has w H (.cells (headV S m a b c d) 78 (0, 0))) :
    Calls Try.prog 83 #[.string ⟨#[80, 75, 3, 4]⟩, .func (.func 38) #[.pointer (some ⟨H, 0, none⟩)] #[], .string S] w fun e w' =>
      ∃ x k cap, e = .returned (.tuple #[.slice x k cap, .int .i64 0]) ∧ Mine w' w.heap.size x k cap (localB S m a b c d) ∧ Below w.heap.size w w' :=
  callsIn_wide.1 (lay_in 9 38 H 0 bothL (local_seq H 0) (enters_of Try.func38 (by kernel_rfl) rfl) (hv S m a b c d) (fun p hp => hv_fits S m a b c d h p (bothL_sub p hp)) (by decide) (by decide) [80, 75, 3, 4] (by decide) rfl S (okR_yes h).2.1 w hH.lt
    (fun p hp => hv_cells S m a b c d h w H hH p (bothL_sub p hp)))

theorem lay_central (S : ByteArray) (m a b c d : Int) (h : okR S.size m a b c d = true) (w : World) (H : Nat) (hH : Has w H (.cells (headV S m a b c d) 78 (0, 0))) :
    Calls Try.prog 83 #[.string ⟨#[80, 75, 1, 2]⟩, .func (.func 42) #[.pointer (some ⟨H, 0, none⟩)] #[], .string S] w fun e w' =>
      ∃ x k cap, e = .returned (.tuple #[.slice x k cap, .int .i64 0]) ∧ Mine w' w.heap.size x k cap (centralB S m a b c d) ∧ Below w.heap.size w w' :=
  callsIn_wide.1 (lay_in 9 42 H 0 centralL (central_seq H 0) (enters_of Try.func42 (by kernel_rfl) rfl) (hv S m a b c d) (hv_fits S m a b c d h) (by decide) (by decide) [80, 75, 1, 2] (by decide) rfl S (okR_yes h).2.1 w hH.lt
    (hv_cells S m a b c d h w H hH))

set_option maxHeartbeats 4000000 in
theorem local_bad (S : ByteArray) (m a b c d : Int) (h : okR S.size m a b c d = false) (w : World) :
    Calls Try.prog 44 #[rv S m a b c d] w fun e w' => e = .returned (.tuple #[.slice none 0 0, .int .i64 2]) ∧ Below w.heap.size w w' := by
  have HC := Lib.hid (fun w => check_any S m a b c d w)
  rw [h] at HC
  simp only [Bool.false_eq_true, if_false] at HC
  unfold rv at HC ⊢
  clear h
  go_enter Try.func44, Try.ntmps44
  go_wp2_with (go_at_call 81; refine (HC.out _).mono ?_; rintro e w1 ⟨rfl, hb1⟩)
  go_ret2
  exact ⟨rfl, (below1 w _).trans (hb1.mono (by simp))⟩

set_option maxHeartbeats 4000000 in
theorem central_bad (S : ByteArray) (m a b c d : Int) (h : okR S.size m a b c d = false) (w : World) :
    Calls Try.prog 45 #[rv S m a b c d] w fun e w' => e = .returned (.tuple #[.slice none 0 0, .int .i64 2]) ∧ Below w.heap.size w w' := by
  have HC := Lib.hid (fun w => check_any S m a b c d w)
  rw [h] at HC
  simp only [Bool.false_eq_true, if_false] at HC
  unfold rv at HC ⊢
  clear h
  go_enter Try.func45, Try.ntmps45
  go_wp2_with (go_at_call 81; refine (HC.out _).mono ?_; rintro e w1 ⟨rfl, hb1⟩)
  go_ret2
  exact ⟨rfl, (below1 w _).trans (hb1.mono (by simp))⟩

theorem Has.six {w : World} {g : Nat} {t : TypeId} {x0 x1 x2 x3 x4 x5 : Value} (h : Has w g (.cells #[x0, x1, x2, x3, x4, x5] t (0, 0))) :
    w.cell? ⟨g, 0, none⟩ = some x0 ∧ w.cell? ⟨g, 1, none⟩ = some x1 ∧ w.cell? ⟨g, 2, none⟩ = some x2 ∧ w.cell? ⟨g, 3, none⟩ = some x3 ∧ w.cell? ⟨g, 4, none⟩ = some x4 ∧ w.cell? ⟨g, 5, none⟩ = some x5 :=
  ⟨h.cell 0, h.cell 1, h.cell 2, h.cell 3, h.cell 4, h.cell 5⟩

set_option maxHeartbeats 4000000 in
theorem local_ok (S : ByteArray) (m a b c d : Int) (h : okR S.size m a b c d = true) (w : World) :
    Calls Try.prog 44 #[rv S m a b c d] w fun e w' => ∃ x k cap, e = .returned (.tuple #[.slice x k cap, .int .i64 0]) ∧ Mine w' w.heap.size x k cap (localB S m a b c d) ∧ Below w.heap.size w w' := by
  have HC := Lib.hid (fun w => check_any S m a b c d w)
  rw [h] at HC
  simp only [if_true] at HC
  have HH := Lib.hid (fun w => headOf_any S m a b c d (okR_yes h).1 (okR_yes h).2.1 w)
  have HL := Lib.hid (fun w H hH => lay_local S m a b c d h w H hH)
  generalize localB S m a b c d = lb at *
  unfold rv at HC HH ⊢
  unfold headV at HH HL
  obtain ⟨K, hK⟩ : ∃ K : Int, (if endsB S = true then 16 else 0) = K := ⟨_, rfl⟩
  rw [hK] at HH HL
  clear h hK
  have F0 := Lib.hid (Has.new w (.cells #[.string S, .int .i64 m, .int .i64 a, .int .i64 b, .int .i64 c, .int .i64 d] 25))
  have G0 := Lib.hid (below1 w (.cells #[.string S, .int .i64 m, .int .i64 a, .int .i64 b, .int .i64 c, .int .i64 d] 25))
  go_enter Try.func44, Try.ntmps44
  go_wp2_with fail
  refine (HC.out _).mono ?_
  rintro e w1 ⟨rfl, hb1⟩
  have F1 := Lib.hid (F0.out.later hb1)
  have G1 := Lib.hid (G0.out.trans (hb1.mono (by simp)))
  clear hb1 F0 G0
  obtain ⟨c0, c1, c2, c3, c4, c5⟩ := F1.out.six
  go_wp2_with fail
  refine (HH.out _).mono ?_
  rintro e w2 ⟨rfl, hb2⟩
  have F2 := Lib.hid (F1.out.later hb2)
  have G2 := Lib.hid (G1.out.trans (hb2.mono G1.out.size))
  clear hb2 F1 G1 c0 c1 c2 c3 c4 c5
  have c0 := F2.out.cell 0
  have hne := F2.out.lt
  have F3 := Lib.hid (Has.new w2 (.cells #[.int .i64 20, .int .i64 20, .int .i64 0, .int .i64 m, .int .i64 0, .int .i64 33, .int .i64 a, .int .i64 b, .int .i64 c, .int .i64 (S.size : Int), .int .i64 0, .int .i64 0, .int .i64 0, .int .i64 0, .int .i64 K, .int .i64 d] 78))
  have G3 := Lib.hid (G2.out.alloc G2.out.size (.cells #[.int .i64 20, .int .i64 20, .int .i64 0, .int .i64 m, .int .i64 0, .int .i64 33, .int .i64 a, .int .i64 b, .int .i64 c, .int .i64 (S.size : Int), .int .i64 0, .int .i64 0, .int .i64 0, .int .i64 0, .int .i64 K, .int .i64 d] 78))
  go_wp2_with fail
  refine (HL.out _ _ F3.out).mono ?_
  rintro e w4 ⟨x, k, cap, rfl, hm, hb4⟩
  have HM := Lib.hid (hm.weaken G3.out.size)
  have G4 := Lib.hid (G3.out.trans (hb4.mono G3.out.size))
  clear hm hb4
  go_wp2
  go_ret2
  exact ⟨_, _, _, rfl, HM.out, G4.out⟩

set_option maxHeartbeats 4000000 in
theorem central_ok (S : ByteArray) (m a b c d : Int) (h : okR S.size m a b c d = true) (w : World) :
    Calls Try.prog 45 #[rv S m a b c d] w fun e w' => ∃ x k cap, e = .returned (.tuple #[.slice x k cap, .int .i64 0]) ∧ Mine w' w.heap.size x k cap (centralB S m a b c d) ∧ Below w.heap.size w w' := by
  have HC := Lib.hid (fun w => check_any S m a b c d w)
  rw [h] at HC
  simp only [if_true] at HC
  have HH := Lib.hid (fun w => headOf_any S m a b c d (okR_yes h).1 (okR_yes h).2.1 w)
  have HL := Lib.hid (fun w H hH => lay_central S m a b c d h w H hH)
  generalize centralB S m a b c d = lb at *
  unfold rv at HC HH ⊢
  unfold headV at HH HL
  obtain ⟨K, hK⟩ : ∃ K : Int, (if endsB S = true then 16 else 0) = K := ⟨_, rfl⟩
  rw [hK] at HH HL
  clear h hK
  have F0 := Lib.hid (Has.new w (.cells #[.string S, .int .i64 m, .int .i64 a, .int .i64 b, .int .i64 c, .int .i64 d] 25))
  have G0 := Lib.hid (below1 w (.cells #[.string S, .int .i64 m, .int .i64 a, .int .i64 b, .int .i64 c, .int .i64 d] 25))
  go_enter Try.func45, Try.ntmps45
  go_wp2_with fail
  refine (HC.out _).mono ?_
  rintro e w1 ⟨rfl, hb1⟩
  have F1 := Lib.hid (F0.out.later hb1)
  have G1 := Lib.hid (G0.out.trans (hb1.mono (by simp)))
  clear hb1 F0 G0
  obtain ⟨c0, c1, c2, c3, c4, c5⟩ := F1.out.six
  go_wp2_with fail
  refine (HH.out _).mono ?_
  rintro e w2 ⟨rfl, hb2⟩
  have F2 := Lib.hid (F1.out.later hb2)
  have G2 := Lib.hid (G1.out.trans (hb2.mono G1.out.size))
  clear hb2 F1 G1 c0 c1 c2 c3 c4 c5
  have c0 := F2.out.cell 0
  have hne := F2.out.lt
  have F3 := Lib.hid (Has.new w2 (.cells #[.int .i64 20, .int .i64 20, .int .i64 0, .int .i64 m, .int .i64 0, .int .i64 33, .int .i64 a, .int .i64 b, .int .i64 c, .int .i64 (S.size : Int), .int .i64 0, .int .i64 0, .int .i64 0, .int .i64 0, .int .i64 K, .int .i64 d] 78))
  have G3 := Lib.hid (G2.out.alloc G2.out.size (.cells #[.int .i64 20, .int .i64 20, .int .i64 0, .int .i64 m, .int .i64 0, .int .i64 33, .int .i64 a, .int .i64 b, .int .i64 c, .int .i64 (S.size : Int), .int .i64 0, .int .i64 0, .int .i64 0, .int .i64 0, .int .i64 K, .int .i64 d] 78))
  go_wp2_with fail
  refine (HL.out _ _ F3.out).mono ?_
  rintro e w4 ⟨x, k, cap, rfl, hm, hb4⟩
  have HM := Lib.hid (hm.weaken G3.out.size)
  have G4 := Lib.hid (G3.out.trans (hb4.mono G3.out.size))
  clear hm hb4
  go_wp2
  go_ret2
  exact ⟨_, _, _, rfl, HM.out, G4.out⟩

end Go.Proofs.Ytillckjohlbaiaa
