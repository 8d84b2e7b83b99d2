/- Contract of record.End. -/
import Derived.Test.YtillckjohlbaiaaNlocal
import Derived.Test.YtillckjohlbaiaaNlays

namespace Go.Proofs.Ytillckjohlbaiaa
set_option maxRecDepth 100000
open Go.RowKit Go.Shelf

/-- An end's numbers. -/
def ev (c s a : Int) (k : Nat) : Nat := ([0, 0, c.toNat, c.toNat, s.toNat, a.toNat, 0][k]?).getD 0
def endB (c s a : Int) : List Nat := [80, 75, 5, 6] ++ laid endL (ev c s a)
/-- May an end's numbers be? -/
def okE (c s a : Int) : Bool := decide (0 ≤ c) && decide (c ≤ 65535) && Fd.isn s && Fd.isn a
def endV (c s a : Int) : Array Value := #[.int .i64 0, .int .i64 0, .int .i64 c, .int .i64 c, .int .i64 s, .int .i64 a, .int .i64 0]

theorem endL_wd : ∀ p ∈ endL, p.2 = (p.2.toNat : Int) ∧ p.2.toNat ≤ 4 := by
  intro p hp
  simp only [endL, List.mem_cons, List.not_mem_nil, or_false] at hp
  rcases hp with rfl | rfl | rfl | rfl | rfl | rfl | rfl <;> exact ⟨rfl, by decide⟩

theorem end_lay (c s a : Int) (hc : 0 ≤ c ∧ c ≤ 65535) (hs : Fd.isn s = true) (ha : Fd.isn a = true) (w : World) (H : Nat) (hH : Has w H (.cells (endV c s a) 148 (0, 0))) :
    Calls Try.prog 83 #[.string ⟨#[80, 75, 5, 6]⟩, .func (.func 84) #[.pointer (some ⟨H, 0, none⟩)] #[], .string ⟨#[]⟩] w fun e w' =>
      ∃ x k cap, e = .returned (.tuple #[.slice x k cap, .int .i64 0]) ∧ Mine w' w.heap.size x k cap (endB c s a) ∧ Below w.heap.size w w' := by
  obtain ⟨s0, s1⟩ := Fd.isn_of hs
  obtain ⟨a0, a1⟩ := Fd.isn_of ha
  refine (callsIn_wide.1 (lay_in 9 84 H 0 endL (numbers_seq H 0) (enters_of Try.func84 (by kernel_rfl) rfl) (ev c s a) ?_ (by decide) (by decide) [80, 75, 5, 6] (by decide) rfl ⟨#[]⟩ (by decide) w hH.lt ?_)).mono ?_
  · intro p hp
    simp only [endL, List.mem_cons, List.not_mem_nil, or_false] at hp
    rcases hp with rfl | rfl | rfl | rfl | rfl | rfl | rfl
    all_goals (refine ⟨rfl, ?_⟩)
    all_goals first
      | exact Or.inl ⟨rfl, (by decide : (0 : Nat) < 65536)⟩
      | exact Or.inl ⟨rfl, (by omega : c.toNat < 65536)⟩
      | exact Or.inr ⟨rfl, (by omega : s.toNat < 4294967296)⟩
      | exact Or.inr ⟨rfl, (by omega : a.toNat < 4294967296)⟩
  · intro p hp
    rw [hH.cell]
    simp only [endL, List.mem_cons, List.not_mem_nil, or_false] at hp
    rcases hp with rfl | rfl | rfl | rfl | rfl | rfl | rfl
    all_goals first
      | rfl
      | (show some (Value.int .i64 c) = some (Value.int .i64 ((c.toNat : Nat) : Int)); rw [Int.toNat_of_nonneg hc.1])
      | (show some (Value.int .i64 s) = some (Value.int .i64 ((s.toNat : Nat) : Int)); rw [Int.toNat_of_nonneg s0])
      | (show some (Value.int .i64 a) = some (Value.int .i64 ((a.toNat : Nat) : Int)); rw [Int.toNat_of_nonneg a0])
  · rintro e w' ⟨x, k, cap, rfl, hm, hb⟩
    refine ⟨x, k, cap, rfl, ?_, hb⟩
    have e : sB ⟨#[]⟩ = [] := rfl
    rw [e, List.append_nil] at hm
    exact hm

theorem end_stop (c s a : Int) (h : okE c s a = false) (w : World) (H : Nat) (hH : Has w H (.cells (endV c s a) 148 (0, 0))) :
    Calls Try.prog 83 #[.string ⟨#[80, 75, 5, 6]⟩, .func (.func 84) #[.pointer (some ⟨H, 0, none⟩)] #[], .string ⟨#[]⟩] w fun e w' =>
      e = .returned (.tuple #[.slice none 0 0, .int .i64 2]) ∧ Below w.heap.size w w' := by
  have eg := enters_of Try.func84 (by kernel_rfl) rfl
  by_cases hc : 0 ≤ c ∧ c ≤ 65535
  · cases hs : Fd.isn s
    · -- the fifth one
      refine callsIn_wide.1 (lay_stop 9 84 H 0 endL 4 (numbers_stop4 H 0 0 (by omega)) eg (ev c s a) endL_wd ?_ s ?_ (by decide) (by decide) [80, 75, 5, 6] (by decide) rfl ⟨#[]⟩ (by decide) w hH.lt ?_ ?_)
      · intro i p hi hp
        match i, hi, hp with
        | 0, _, hp => cases hp; exact Or.inl ⟨rfl, (by decide : (0 : Nat) < 65536)⟩
        | 1, _, hp => cases hp; exact Or.inl ⟨rfl, (by decide : (0 : Nat) < 65536)⟩
        | 2, _, hp => cases hp; exact Or.inl ⟨rfl, (by omega : c.toNat < 65536)⟩
        | 3, _, hp => cases hp; exact Or.inl ⟨rfl, (by omega : c.toNat < 65536)⟩
      · intro p hp
        cases hp
        exact Or.inr ⟨rfl, Fd.isn_not hs⟩
      · intro i p hi hp
        rw [hH.cell]
        match i, hi, hp with
        | 0, _, hp => cases hp; rfl
        | 1, _, hp => cases hp; rfl
        | 2, _, hp => cases hp; (show some (Value.int .i64 c) = some (Value.int .i64 ((c.toNat : Nat) : Int))); rw [Int.toNat_of_nonneg hc.1]
        | 3, _, hp => cases hp; (show some (Value.int .i64 c) = some (Value.int .i64 ((c.toNat : Nat) : Int))); rw [Int.toNat_of_nonneg hc.1]
      · intro p hp
        cases hp
        rw [hH.cell]; rfl
    · have ha : Fd.isn a = false := by
        unfold okE at h
        rw [decide_eq_true hc.1, decide_eq_true hc.2, hs] at h
        simpa using h
      obtain ⟨s0, s1⟩ := Fd.isn_of hs
      refine callsIn_wide.1 (lay_stop 9 84 H 0 endL 5 (numbers_stop4 H 0 1 (by omega)) eg (ev c s a) endL_wd ?_ a ?_ (by decide) (by decide) [80, 75, 5, 6] (by decide) rfl ⟨#[]⟩ (by decide) w hH.lt ?_ ?_)
      · intro i p hi hp
        match i, hi, hp with
        | 0, _, hp => cases hp; exact Or.inl ⟨rfl, (by decide : (0 : Nat) < 65536)⟩
        | 1, _, hp => cases hp; exact Or.inl ⟨rfl, (by decide : (0 : Nat) < 65536)⟩
        | 2, _, hp => cases hp; exact Or.inl ⟨rfl, (by omega : c.toNat < 65536)⟩
        | 3, _, hp => cases hp; exact Or.inl ⟨rfl, (by omega : c.toNat < 65536)⟩
        | 4, _, hp => cases hp; exact Or.inr ⟨rfl, (by omega : s.toNat < 4294967296)⟩
      · intro p hp
        cases hp
        exact Or.inr ⟨rfl, Fd.isn_not ha⟩
      · intro i p hi hp
        rw [hH.cell]
        match i, hi, hp with
        | 0, _, hp => cases hp; rfl
        | 1, _, hp => cases hp; rfl
        | 2, _, hp => cases hp; (show some (Value.int .i64 c) = some (Value.int .i64 ((c.toNat : Nat) : Int))); rw [Int.toNat_of_nonneg hc.1]
        | 3, _, hp => cases hp; (show some (Value.int .i64 c) = some (Value.int .i64 ((c.toNat : Nat) : Int))); rw [Int.toNat_of_nonneg hc.1]
        | 4, _, hp => cases hp; (show some (Value.int .i64 s) = some (Value.int .i64 ((s.toNat : Nat) : Int))); rw [Int.toNat_of_nonneg s0]
      · intro p hp
        cases hp
        rw [hH.cell]; rfl
  · refine callsIn_wide.1 (lay_stop 9 84 H 0 endL 2 (numbers_stop2 H 0) eg (ev c s a) endL_wd ?_ c ?_ (by decide) (by decide) [80, 75, 5, 6] (by decide) rfl ⟨#[]⟩ (by decide) w hH.lt ?_ ?_)
    · intro i p hi hp
      match i, hi, hp with
      | 0, _, hp => cases hp; exact Or.inl ⟨rfl, (by decide : (0 : Nat) < 65536)⟩
      | 1, _, hp => cases hp; exact Or.inl ⟨rfl, (by decide : (0 : Nat) < 65536)⟩
    · intro p hp
      cases hp
      exact Or.inl ⟨rfl, by omega⟩
    · intro i p hi hp
      rw [hH.cell]
      match i, hi, hp with
      | 0, _, hp => cases hp; rfl
      | 1, _, hp => cases hp; rfl
    · intro p hp
      cases hp
      rw [hH.cell]; rfl

set_option maxHeartbeats 4000000 in
theorem end_ok (c s a : Int) (h : okE c s a = true) (w : World) :
    Calls Try.prog 46 #[.int .i64 c, .int .i64 s, .int .i64 a] w fun e w' => ∃ x k cap, e = .returned (.tuple #[.slice x k cap, .int .i64 0]) ∧ Mine w' w.heap.size x k cap (endB c s a) ∧ Below w.heap.size w w' := by
  have hh : (0 ≤ c ∧ c ≤ 65535) ∧ Fd.isn s = true ∧ Fd.isn a = true := by
    unfold okE at h
    simp only [Bool.and_eq_true, decide_eq_true_eq] at h
    exact ⟨h.1.1, h.1.2, h.2⟩
  have HL := Lib.hid (fun w H hH => end_lay c s a hh.1 hh.2.1 hh.2.2 w H hH)
  unfold endV at HL
  generalize endB c s a = lb at *
  clear h hh
  have F3 := Lib.hid (Has.new w (.cells #[.int .i64 0, .int .i64 0, .int .i64 c, .int .i64 c, .int .i64 s, .int .i64 a, .int .i64 0] 148))
  have G3 := Lib.hid (below1 w (.cells #[.int .i64 0, .int .i64 0, .int .i64 c, .int .i64 c, .int .i64 s, .int .i64 a, .int .i64 0] 148))
  go_enter Try.func46, Try.ntmps46
  go_wp2_with fail
  refine (HL.out _ _ F3.out).mono ?_
  rintro e w4 ⟨x, k, cap, rfl, hm, hb4⟩
  have HM := Lib.hid (hm.weaken G3.out.size)
  have G4 := Lib.hid (G3.out.trans (hb4.mono G3.out.size))
  clear hm hb4
  go_wp2
  go_ret2
  exact ⟨_, _, _, rfl, HM.out, G4.out⟩

set_option maxHeartbeats 4000000 in
theorem end_bad (c s a : Int) (h : okE c s a = false) (w : World) :
    Calls Try.prog 46 #[.int .i64 c, .int .i64 s, .int .i64 a] w fun e w' => e = .returned (.tuple #[.slice none 0 0, .int .i64 2]) ∧ Below w.heap.size w w' := by
  have HL := Lib.hid (fun w H hH => end_stop c s a h w H hH)
  unfold endV at HL
  clear h
  have F3 := Lib.hid (Has.new w (.cells #[.int .i64 0, .int .i64 0, .int .i64 c, .int .i64 c, .int .i64 s, .int .i64 a, .int .i64 0] 148))
  have G3 := Lib.hid (below1 w (.cells #[.int .i64 0, .int .i64 0, .int .i64 c, .int .i64 c, .int .i64 s, .int .i64 a, .int .i64 0] 148))
  go_enter Try.func46, Try.ntmps46
  go_wp2_with fail
  refine (HL.out _ _ F3.out).mono ?_
  rintro e w4 ⟨rfl, hb4⟩
  have G4 := Lib.hid (G3.out.trans (hb4.mono G3.out.size))
  clear hb4
  go_wp2
  go_ret2
  exact ⟨rfl, G4.out⟩
end Go.Proofs.Ytillckjohlbaiaa
