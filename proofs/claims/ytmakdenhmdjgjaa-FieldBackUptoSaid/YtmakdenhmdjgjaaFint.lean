/- Contracts of the sums and products, the program's and the document's. -/
import Derived.Test.YtmakdenhmdjgjaaMem
namespace Go.Proofs.Ytmakdenhmdjgjaa
open Go.RowKit

/-- Is it a number? -/
def Fd.isn (n : Int) : Bool := decide (0 ≤ n) && decide (n ≤ 4294967295)
theorem Fd.isn_yes {n : Int} (h0 : 0 ≤ n) (h1 : n ≤ 4294967295) : Fd.isn n = true := by simp [Fd.isn, h0, h1]
theorem Fd.isn_no {n : Int} (h : n < 0 ∨ 4294967295 < n) : Fd.isn n = false := by
  rw [Fd.isn, Bool.and_eq_false_iff, decide_eq_false_iff_not, decide_eq_false_iff_not]
  omega
theorem Fd.isn_of {n : Int} (h : Fd.isn n = true) : 0 ≤ n ∧ n ≤ 4294967295 := by simpa [Fd.isn] using h
theorem Fd.isn_not {n : Int} (h : Fd.isn n = false) : n < 0 ∨ 4294967295 < n := by
  rw [Fd.isn, Bool.and_eq_false_iff, decide_eq_false_iff_not, decide_eq_false_iff_not] at h
  omega

theorem isnum_walk (n : Int) (b : Bool) (hb : Hid (Fd.isn n = b)) (w : World) : Calls Try.prog 35 #[.int .i64 n] w fun e w' => e = .returned (.bool b) ∧ w = w' := by
  have h := hb.out
  clear hb
  cases b with
  | true =>
    obtain ⟨h0, h1⟩ := Fd.isn_of h
    clear h
    go_enter Try.func35, Try.ntmps35
    go_wp2
    go_ret
    exact ⟨rfl, rfl⟩
  | false =>
    rcases Fd.isn_not h with h0 | h0
    · clear h
      go_enter Try.func35, Try.ntmps35
      go_wp2
      go_ret
      exact ⟨rfl, rfl⟩
    · clear h
      have h1 : 0 ≤ n := by omega
      have hd : decide (n ≤ 4294967295) = false := decide_eq_false (by omega)
      go_enter Try.func35, Try.ntmps35
      go_wp2
      go_ret
      exact ⟨rfl, rfl⟩

theorem risnum_walk (n : Int) (b : Bool) (hb : Hid (Fd.isn n = b)) (w : World) : Calls Try.prog 37 #[.int .i64 n] w fun e w' => e = .returned (.bool b) ∧ w = w' := by
  have h := hb.out
  clear hb
  cases b with
  | true =>
    obtain ⟨h0, h1⟩ := Fd.isn_of h
    clear h
    go_enter Try.func37, Try.ntmps37
    go_wp2
    go_ret
    exact ⟨rfl, rfl⟩
  | false =>
    rcases Fd.isn_not h with h0 | h0
    · clear h
      go_enter Try.func37, Try.ntmps37
      go_wp2
      go_ret
      exact ⟨rfl, rfl⟩
    · clear h
      have h1 : 0 ≤ n := by omega
      have hd : decide (n ≤ 4294967295) = false := decide_eq_false (by omega)
      go_enter Try.func37, Try.ntmps37
      go_wp2
      go_ret
      exact ⟨rfl, rfl⟩

/-- What comes of numbers. -/
def Fd.toldV (n : Int) : Int := if Fd.isn n = true then n else 0
def Fd.toldE (n : Int) : Int := if Fd.isn n = true then 0 else 3

theorem within_walk (n : Int) (w : World) : Calls Try.prog 36 #[.int .i64 n] w fun e w' => e = .returned (.tuple #[.int .i64 (Fd.toldV n), .int .i64 (Fd.toldE n)]) ∧ w = w' := by
  unfold Fd.toldV Fd.toldE
  obtain ⟨b, hb⟩ : ∃ b, Fd.isn n = b := ⟨_, rfl⟩
  rw [hb]
  have HB := Lib.hid hb
  clear hb
  go_enter Try.func36, Try.ntmps36
  go_wp2_with fail
  refine (isnum_walk n b HB _).mono ?_
  rintro e w2 ⟨rfl, rfl⟩
  cases b
  · go_wp2
    go_ret2
    exact ⟨rfl, rfl⟩
  · go_wp2
    go_ret2
    exact ⟨rfl, rfl⟩

theorem rtold_walk (n : Int) (w : World) : Calls Try.prog 38 #[.int .i64 n] w fun e w' => e = .returned (.tuple #[.int .i64 (Fd.toldV n), .int .i64 (Fd.toldE n)]) ∧ w = w' := by
  unfold Fd.toldV Fd.toldE
  obtain ⟨b, hb⟩ : ∃ b, Fd.isn n = b := ⟨_, rfl⟩
  rw [hb]
  have HB := Lib.hid hb
  clear hb
  go_enter Try.func38, Try.ntmps38
  go_wp2_with fail
  refine (risnum_walk n b HB _).mono ?_
  rintro e w2 ⟨rfl, rfl⟩
  cases b
  · go_wp2
    go_ret2
    exact ⟨rfl, rfl⟩
  · go_wp2
    go_ret2
    exact ⟨rfl, rfl⟩

/-- The answers of Add, Sub, Mul. -/
def Fd.both (a b : Int) : Bool := Fd.isn a && Fd.isn b
def Fd.addV (a b : Int) : Int := if Fd.both a b = true then Fd.toldV (a + b) else 0
def Fd.addE (a b : Int) : Int := if Fd.both a b = true then Fd.toldE (a + b) else 2
def Fd.subV (a b : Int) : Int := if Fd.both a b = true then Fd.toldV (a - b) else 0
def Fd.subE (a b : Int) : Int := if Fd.both a b = true then Fd.toldE (a - b) else 2
def Fd.mulV (a b : Int) : Int := if Fd.both a b = true then Fd.toldV (a * b) else 0
def Fd.mulE (a b : Int) : Int := if Fd.both a b = true then Fd.toldE (a * b) else 2

set_option maxHeartbeats 400000 in
theorem add_walk (a b : Int) (w : World) : Calls Try.prog 21 #[.int .i64 a, .int .i64 b] w fun e w' => e = .returned (.tuple #[.int .i64 (Fd.addV a b), .int .i64 (Fd.addE a b)]) ∧ w = w' := by
  unfold Fd.addV Fd.addE Fd.both
  obtain ⟨p, hp⟩ : ∃ p, Fd.isn a = p := ⟨_, rfl⟩
  obtain ⟨q, hq⟩ : ∃ q, Fd.isn b = q := ⟨_, rfl⟩
  rw [hp, hq]
  have HP := Lib.hid hp
  have HQ := Lib.hid hq
  clear hp hq
  cases p with
  | false =>
    go_enter Try.func21, Try.ntmps21
    go_wp2_with fail
    refine (isnum_walk a false HP _).mono ?_
    rintro e w2 ⟨rfl, rfl⟩
    go_wp2
    go_ret2
    exact ⟨rfl, rfl⟩
  | true =>
    cases q with
    | false =>
      go_enter Try.func21, Try.ntmps21
      go_wp2_with fail
      refine (isnum_walk a true HP _).mono ?_
      rintro e w2 ⟨rfl, rfl⟩
      go_wp2_with fail
      refine (isnum_walk b false HQ _).mono ?_
      rintro e w2 ⟨rfl, rfl⟩
      go_wp2
      go_ret2
      exact ⟨rfl, rfl⟩
    | true =>
      obtain ⟨a0, a1⟩ := Fd.isn_of HP.out
      obtain ⟨b0, b1⟩ := Fd.isn_of HQ.out
      have hw : IntKind.i64.wrap (a + b) = a + b := IntWalk.i64_in _ (by omega)
      go_enter Try.func21, Try.ntmps21
      go_wp2_with fail
      refine (isnum_walk a true HP _).mono ?_
      rintro e w2 ⟨rfl, rfl⟩
      go_wp2_with fail
      refine (isnum_walk b true HQ _).mono ?_
      rintro e w2 ⟨rfl, rfl⟩
      go_wp2_with fail
      refine (within_walk (a + b) _).mono ?_
      rintro e w2 ⟨rfl, rfl⟩
      go_wp2
      go_ret2
      exact ⟨rfl, rfl⟩

set_option maxHeartbeats 400000 in
theorem radd_walk (a b : Int) (w : World) : Calls Try.prog 22 #[.int .i64 a, .int .i64 b] w fun e w' => e = .returned (.tuple #[.int .i64 (Fd.addV a b), .int .i64 (Fd.addE a b)]) ∧ w = w' := by
  unfold Fd.addV Fd.addE Fd.both
  obtain ⟨p, hp⟩ : ∃ p, Fd.isn a = p := ⟨_, rfl⟩
  obtain ⟨q, hq⟩ : ∃ q, Fd.isn b = q := ⟨_, rfl⟩
  rw [hp, hq]
  have HP := Lib.hid hp
  have HQ := Lib.hid hq
  clear hp hq
  cases p with
  | false =>
    go_enter Try.func22, Try.ntmps22
    go_wp2_with fail
    refine (risnum_walk a false HP _).mono ?_
    rintro e w2 ⟨rfl, rfl⟩
    go_wp2
    go_ret2
    exact ⟨rfl, rfl⟩
  | true =>
    cases q with
    | false =>
      go_enter Try.func22, Try.ntmps22
      go_wp2_with fail
      refine (risnum_walk a true HP _).mono ?_
      rintro e w2 ⟨rfl, rfl⟩
      go_wp2_with fail
      refine (risnum_walk b false HQ _).mono ?_
      rintro e w2 ⟨rfl, rfl⟩
      go_wp2
      go_ret2
      exact ⟨rfl, rfl⟩
    | true =>
      obtain ⟨a0, a1⟩ := Fd.isn_of HP.out
      obtain ⟨b0, b1⟩ := Fd.isn_of HQ.out
      have hw : IntKind.i64.wrap (a + b) = a + b := IntWalk.i64_in _ (by omega)
      go_enter Try.func22, Try.ntmps22
      go_wp2_with fail
      refine (risnum_walk a true HP _).mono ?_
      rintro e w2 ⟨rfl, rfl⟩
      go_wp2_with fail
      refine (risnum_walk b true HQ _).mono ?_
      rintro e w2 ⟨rfl, rfl⟩
      go_wp2_with fail
      refine (rtold_walk (a + b) _).mono ?_
      rintro e w2 ⟨rfl, rfl⟩
      go_wp2
      go_ret2
      exact ⟨rfl, rfl⟩

set_option maxHeartbeats 400000 in
theorem sub_walk (a b : Int) (w : World) : Calls Try.prog 23 #[.int .i64 a, .int .i64 b] w fun e w' => e = .returned (.tuple #[.int .i64 (Fd.subV a b), .int .i64 (Fd.subE a b)]) ∧ w = w' := by
  unfold Fd.subV Fd.subE Fd.both
  obtain ⟨p, hp⟩ : ∃ p, Fd.isn a = p := ⟨_, rfl⟩
  obtain ⟨q, hq⟩ : ∃ q, Fd.isn b = q := ⟨_, rfl⟩
  rw [hp, hq]
  have HP := Lib.hid hp
  have HQ := Lib.hid hq
  clear hp hq
  cases p with
  | false =>
    go_enter Try.func23, Try.ntmps23
    go_wp2_with fail
    refine (isnum_walk a false HP _).mono ?_
    rintro e w2 ⟨rfl, rfl⟩
    go_wp2
    go_ret2
    exact ⟨rfl, rfl⟩
  | true =>
    cases q with
    | false =>
      go_enter Try.func23, Try.ntmps23
      go_wp2_with fail
      refine (isnum_walk a true HP _).mono ?_
      rintro e w2 ⟨rfl, rfl⟩
      go_wp2_with fail
      refine (isnum_walk b false HQ _).mono ?_
      rintro e w2 ⟨rfl, rfl⟩
      go_wp2
      go_ret2
      exact ⟨rfl, rfl⟩
    | true =>
      obtain ⟨a0, a1⟩ := Fd.isn_of HP.out
      obtain ⟨b0, b1⟩ := Fd.isn_of HQ.out
      have hw : IntKind.i64.wrap (a - b) = a - b := IntWalk.i64_in _ (by omega)
      go_enter Try.func23, Try.ntmps23
      go_wp2_with fail
      refine (isnum_walk a true HP _).mono ?_
      rintro e w2 ⟨rfl, rfl⟩
      go_wp2_with fail
      refine (isnum_walk b true HQ _).mono ?_
      rintro e w2 ⟨rfl, rfl⟩
      go_wp2_with fail
      refine (within_walk (a - b) _).mono ?_
      rintro e w2 ⟨rfl, rfl⟩
      go_wp2
      go_ret2
      exact ⟨rfl, rfl⟩

set_option maxHeartbeats 400000 in
theorem rsub_walk (a b : Int) (w : World) : Calls Try.prog 24 #[.int .i64 a, .int .i64 b] w fun e w' => e = .returned (.tuple #[.int .i64 (Fd.subV a b), .int .i64 (Fd.subE a b)]) ∧ w = w' := by
  unfold Fd.subV Fd.subE Fd.both
  obtain ⟨p, hp⟩ : ∃ p, Fd.isn a = p := ⟨_, rfl⟩
  obtain ⟨q, hq⟩ : ∃ q, Fd.isn b = q := ⟨_, rfl⟩
  rw [hp, hq]
  have HP := Lib.hid hp
  have HQ := Lib.hid hq
  clear hp hq
  cases p with
  | false =>
    go_enter Try.func24, Try.ntmps24
    go_wp2_with fail
    refine (risnum_walk a false HP _).mono ?_
    rintro e w2 ⟨rfl, rfl⟩
    go_wp2
    go_ret2
    exact ⟨rfl, rfl⟩
  | true =>
    cases q with
    | false =>
      go_enter Try.func24, Try.ntmps24
      go_wp2_with fail
      refine (risnum_walk a true HP _).mono ?_
      rintro e w2 ⟨rfl, rfl⟩
      go_wp2_with fail
      refine (risnum_walk b false HQ _).mono ?_
      rintro e w2 ⟨rfl, rfl⟩
      go_wp2
      go_ret2
      exact ⟨rfl, rfl⟩
    | true =>
      obtain ⟨a0, a1⟩ := Fd.isn_of HP.out
      obtain ⟨b0, b1⟩ := Fd.isn_of HQ.out
      have hw : IntKind.i64.wrap (a - b) = a - b := IntWalk.i64_in _ (by omega)
      go_enter Try.func24, Try.ntmps24
      go_wp2_with fail
      refine (risnum_walk a true HP _).mono ?_
      rintro e w2 ⟨rfl, rfl⟩
      go_wp2_with fail
      refine (risnum_walk b true HQ _).mono ?_
      rintro e w2 ⟨rfl, rfl⟩
      go_wp2_with fail
      refine (rtold_walk (a - b) _).mono ?_
      rintro e w2 ⟨rfl, rfl⟩
      go_wp2
      go_ret2
      exact ⟨rfl, rfl⟩

theorem mul_far (a b : Int) (h0 : 0 ≤ a) (_ : 0 ≤ b) (h : 4294967295 < a * b) : 0 < a ∧ 4294967295 / a < b := by
  have ha : 0 < a := by
    rcases Int.lt_or_eq_of_le h0 with h1 | h1
    · exact h1
    · rw [← h1, Int.zero_mul] at h; omega
  refine ⟨ha, Int.ediv_lt_of_lt_mul ha ?_⟩
  rw [Int.mul_comm]
  exact h
theorem mul_near (a b : Int) (h0 : 0 < a) (h : ¬ 4294967295 < a * b) : ¬ 4294967295 / a < b := by
  have h1 : b * a ≤ 4294967295 := by rw [Int.mul_comm]; omega
  have := (Int.le_ediv_iff_mul_le h0).2 h1
  omega

set_option maxHeartbeats 400000 in
theorem mul_walk (a b : Int) (w : World) : Calls Try.prog 25 #[.int .i64 a, .int .i64 b] w fun e w' => e = .returned (.tuple #[.int .i64 (Fd.mulV a b), .int .i64 (Fd.mulE a b)]) ∧ w = w' := by
  unfold Fd.mulV Fd.mulE Fd.both
  obtain ⟨p, hp⟩ : ∃ p, Fd.isn a = p := ⟨_, rfl⟩
  obtain ⟨q, hq⟩ : ∃ q, Fd.isn b = q := ⟨_, rfl⟩
  rw [hp, hq]
  have HP := Lib.hid hp
  have HQ := Lib.hid hq
  clear hp hq
  cases p with
  | false =>
    go_enter Try.func25, Try.ntmps25
    go_wp2_with fail
    refine (isnum_walk a false HP _).mono ?_
    rintro e w2 ⟨rfl, rfl⟩
    go_wp2
    go_ret2
    exact ⟨rfl, rfl⟩
  | true =>
    cases q with
    | false =>
      go_enter Try.func25, Try.ntmps25
      go_wp2_with fail
      refine (isnum_walk a true HP _).mono ?_
      rintro e w2 ⟨rfl, rfl⟩
      go_wp2_with fail
      refine (isnum_walk b false HQ _).mono ?_
      rintro e w2 ⟨rfl, rfl⟩
      go_wp2
      go_ret2
      exact ⟨rfl, rfl⟩
    | true =>
      obtain ⟨a0, a1⟩ := Fd.isn_of HP.out
      obtain ⟨b0, b1⟩ := Fd.isn_of HQ.out
      by_cases h : 4294967295 < a * b
      · have e1 : Fd.toldV (a * b) = 0 := by rw [Fd.toldV, Fd.isn_no (Or.inr h)]; rfl
        have e2 : Fd.toldE (a * b) = 3 := by rw [Fd.toldE, Fd.isn_no (Or.inr h)]; rfl
        obtain ⟨c1, c2⟩ := mul_far a b a0 b0 h
        rw [e1, e2]
        clear h e1 e2
        go_enter Try.func25, Try.ntmps25
        go_wp2_with fail
        refine (isnum_walk a true HP _).mono ?_
        rintro e w2 ⟨rfl, rfl⟩
        go_wp2_with fail
        refine (isnum_walk b true HQ _).mono ?_
        rintro e w2 ⟨rfl, rfl⟩
        go_wp2
        go_ret2
        exact ⟨rfl, rfl⟩
      · have hh : Fd.isn (a * b) = true := Fd.isn_yes (Int.mul_nonneg a0 b0) (by omega)
        have e1 : Fd.toldV (a * b) = a * b := by rw [Fd.toldV, hh]; rfl
        have e2 : Fd.toldE (a * b) = 0 := by rw [Fd.toldE, hh]; rfl
        have hw : IntKind.i64.wrap (a * b) = a * b := IntWalk.i64_in _ (by have := Fd.isn_of hh; omega)
        rw [e1, e2]
        by_cases c1 : 0 < a
        · have c2 := mul_near a b c1 h
          clear h e1 e2 hh
          go_enter Try.func25, Try.ntmps25
          go_wp2_with fail
          refine (isnum_walk a true HP _).mono ?_
          rintro e w2 ⟨rfl, rfl⟩
          go_wp2_with fail
          refine (isnum_walk b true HQ _).mono ?_
          rintro e w2 ⟨rfl, rfl⟩
          go_wp2
          go_ret2
          exact ⟨rfl, rfl⟩
        · clear h e1 e2 hh
          go_enter Try.func25, Try.ntmps25
          go_wp2_with fail
          refine (isnum_walk a true HP _).mono ?_
          rintro e w2 ⟨rfl, rfl⟩
          go_wp2_with fail
          refine (isnum_walk b true HQ _).mono ?_
          rintro e w2 ⟨rfl, rfl⟩
          go_wp2
          go_ret2
          exact ⟨rfl, rfl⟩

set_option maxHeartbeats 400000 in
theorem rmul_walk (a b : Int) (w : World) : Calls Try.prog 26 #[.int .i64 a, .int .i64 b] w fun e w' => e = .returned (.tuple #[.int .i64 (Fd.mulV a b), .int .i64 (Fd.mulE a b)]) ∧ w = w' := by
  unfold Fd.mulV Fd.mulE Fd.both
  obtain ⟨p, hp⟩ : ∃ p, Fd.isn a = p := ⟨_, rfl⟩
  obtain ⟨q, hq⟩ : ∃ q, Fd.isn b = q := ⟨_, rfl⟩
  rw [hp, hq]
  have HP := Lib.hid hp
  have HQ := Lib.hid hq
  clear hp hq
  cases p with
  | false =>
    go_enter Try.func26, Try.ntmps26
    go_wp2_with fail
    refine (risnum_walk a false HP _).mono ?_
    rintro e w2 ⟨rfl, rfl⟩
    go_wp2
    go_ret2
    exact ⟨rfl, rfl⟩
  | true =>
    cases q with
    | false =>
      go_enter Try.func26, Try.ntmps26
      go_wp2_with fail
      refine (risnum_walk a true HP _).mono ?_
      rintro e w2 ⟨rfl, rfl⟩
      go_wp2_with fail
      refine (risnum_walk b false HQ _).mono ?_
      rintro e w2 ⟨rfl, rfl⟩
      go_wp2
      go_ret2
      exact ⟨rfl, rfl⟩
    | true =>
      obtain ⟨a0, a1⟩ := Fd.isn_of HP.out
      obtain ⟨b0, b1⟩ := Fd.isn_of HQ.out
      by_cases h : 4294967295 < a * b
      · have e1 : Fd.toldV (a * b) = 0 := by rw [Fd.toldV, Fd.isn_no (Or.inr h)]; rfl
        have e2 : Fd.toldE (a * b) = 3 := by rw [Fd.toldE, Fd.isn_no (Or.inr h)]; rfl
        obtain ⟨c1, c2⟩ := mul_far a b a0 b0 h
        rw [e1, e2]
        clear h e1 e2
        go_enter Try.func26, Try.ntmps26
        go_wp2_with fail
        refine (risnum_walk a true HP _).mono ?_
        rintro e w2 ⟨rfl, rfl⟩
        go_wp2_with fail
        refine (risnum_walk b true HQ _).mono ?_
        rintro e w2 ⟨rfl, rfl⟩
        go_wp2
        go_ret2
        exact ⟨rfl, rfl⟩
      · have hh : Fd.isn (a * b) = true := Fd.isn_yes (Int.mul_nonneg a0 b0) (by omega)
        have e1 : Fd.toldV (a * b) = a * b := by rw [Fd.toldV, hh]; rfl
        have e2 : Fd.toldE (a * b) = 0 := by rw [Fd.toldE, hh]; rfl
        have hw : IntKind.i64.wrap (a * b) = a * b := IntWalk.i64_in _ (by have := Fd.isn_of hh; omega)
        rw [e1, e2]
        by_cases c1 : 0 < a
        · have c2 := mul_near a b c1 h
          clear h e1 e2 hh
          go_enter Try.func26, Try.ntmps26
          go_wp2_with fail
          refine (risnum_walk a true HP _).mono ?_
          rintro e w2 ⟨rfl, rfl⟩
          go_wp2_with fail
          refine (risnum_walk b true HQ _).mono ?_
          rintro e w2 ⟨rfl, rfl⟩
          go_wp2
          go_ret2
          exact ⟨rfl, rfl⟩
        · clear h e1 e2 hh
          go_enter Try.func26, Try.ntmps26
          go_wp2_with fail
          refine (risnum_walk a true HP _).mono ?_
          rintro e w2 ⟨rfl, rfl⟩
          go_wp2_with fail
          refine (risnum_walk b true HQ _).mono ?_
          rintro e w2 ⟨rfl, rfl⟩
          go_wp2
          go_ret2
          exact ⟨rfl, rfl⟩

end Go.Proofs.Ytmakdenhmdjgjaa
