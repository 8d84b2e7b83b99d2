/- Contracts of the document's six calls on symbols, by plain answers. -/
import Derived.Test.YtpcgibbmllmbgaaSref
namespace Go.Proofs.Ytpcgibbmllmbgaa
open Go.RowKit

set_option maxHeartbeats 2000000 in
theorem rlsym_go (n : Int) (w : World) : Calls Try.prog 11 #[.int .i64 n] w (Three (Sy.lsymA n).1 (Sy.lsymA n).2.1 (Sy.lsymA n).2.2 w) := by
  unfold Sy.lsymA
  by_cases h1 : n < 3
  · rw [if_neg (by omega)]
    have d1 : decide (n < 3) = true := decide_eq_true h1
    clear h1
    go_enter Try.func11, Try.ntmps11
    go_wp2_with fail
    go_ret3
    exact ⟨rfl, Below.refl _ _⟩
  · have d1 : decide (n < 3) = false := decide_eq_false h1
    by_cases h2 : 258 < n
    · rw [if_neg (by omega)]
      have d2 : decide (258 < n) = true := decide_eq_true h2
      clear h1 h2
      go_enter Try.func11, Try.ntmps11
      go_wp2_with fail
      go_ret3
      exact ⟨rfl, Below.refl _ _⟩
    · rw [if_pos (by omega)]
      have d2 : decide (258 < n) = false := decide_eq_false h2
      obtain ⟨m, rfl⟩ : ∃ m : Nat, n = (m : Int) := ⟨n.toNat, by omega⟩
      rw [Int.toNat_natCast]
      have hk := Sy.lk_has m (by omega)
      have HL := Lib.hid (fun b w (h : Tb w b Sy.lf) => rlast_is Sy.lf b m 29 w h rfl (by omega))
      have HW := Lib.hid (fun w => rlens_is w)
      rw [show Sy.lastTo Sy.lf m 29 = Sy.lk m from rfl] at HL
      obtain ⟨k, ek⟩ : ∃ k, k = Sy.lk m := ⟨_, rfl⟩
      obtain ⟨x, ex⟩ : ∃ x, x = Sy.at' Sy.lf k := ⟨_, rfl⟩
      rw [← ek] at HL hk ⊢
      rw [← ex] at hk ⊢
      have hk1 := hk.1
      have hk2 := hk.2.1
      have EX := Lib.hid ex
      clear hk ex ek
      go_enter Try.func11, Try.ntmps11
      go_wp2_with fail
      refine (HW.out _).mono ?_
      rintro e w1 ⟨b1, b2, rfl, t1, t2, hb⟩
      have T1 := Lib.hid t1
      have HB := Lib.hid hb
      clear t1 t2 hb
      go_wp2_with fail
      refine (HL.out b1 _ T1.out).mono ?_
      rintro e w2 ⟨rfl, rfl⟩
      have hc := T1.out.2 k (by show k < 29; omega)
      rw [← EX.out] at hc
      go_wp2_with fail
      go_quiet (fail)
      go_wp2_with fail
      go_ret3
      refine ⟨?_, below_drewN HB.out _⟩
      have e1 : ((m : Int) - (x : Int)) = ((m - x : Nat) : Int) := by omega
      show Ending.returned (.tuple #[.int .i64 (257 + (k : Int)), .int .i64 ((m : Int) - (x : Int)), .int .i64 0]) = _
      rw [e1]
      rfl

set_option maxHeartbeats 2000000 in
theorem rlbit_go (s : Int) (w : World) : Calls Try.prog 16 #[.int .i64 s] w (Two (Sy.lbitA s).1 (Sy.lbitA s).2 w) := by
  unfold Sy.lbitA
  by_cases h1 : s < 257
  · rw [if_neg (by omega)]
    have d1 : decide (s < 257) = true := decide_eq_true h1
    clear h1
    go_enter Try.func16, Try.ntmps16
    go_wp2_with fail
    go_ret2
    exact ⟨rfl, Below.refl _ _⟩
  · have d1 : decide (s < 257) = false := decide_eq_false h1
    by_cases h2 : 285 < s
    · rw [if_neg (by omega)]
      have d2 : decide (285 < s) = true := decide_eq_true h2
      clear h1 h2
      go_enter Try.func16, Try.ntmps16
      go_wp2_with fail
      go_ret2
      exact ⟨rfl, Below.refl _ _⟩
    · rw [if_pos (by omega)]
      have d2 : decide (285 < s) = false := decide_eq_false h2
      obtain ⟨k, rfl⟩ : ∃ k : Nat, s = 257 + (k : Int) := ⟨(s - 257).toNat, by omega⟩
      have ek : (257 + (k : Int) - 257).toNat = k := by omega
      rw [ek]
      have hk1 : k < 29 := by omega
      have hk2 : 257 + (k : Int) - 257 = (k : Int) := by omega
      have HW := Lib.hid (fun w => rlens_is w)
      clear h1 h2 ek
      go_enter Try.func16, Try.ntmps16
      go_wp2_with fail
      refine (HW.out _).mono ?_
      rintro e w1 ⟨b1, b2, rfl, t1, t2, hb⟩
      have hc := t2.2 k hk1
      have HB := Lib.hid hb
      clear t1 t2 hb
      go_wp2_with fail
      go_ret2
      exact ⟨rfl, HB.out⟩

set_option maxHeartbeats 2000000 in
theorem rlnum_go (s v : Int) (w : World) (hi : v ≤ 9223372036854775807) : Calls Try.prog 18 #[.int .i64 s, .int .i64 v] w (Two (Sy.lnumA s v).1 (Sy.lnumA s v).2 w) := by
  have HL := fun w => rlbit_go s w
  unfold Sy.lbitA at HL
  unfold Sy.lnumA
  by_cases h : 257 ≤ s ∧ s ≤ 285
  · rw [if_pos h] at HL ⊢
    obtain ⟨k, rfl⟩ : ∃ k : Nat, s = 257 + (k : Int) := ⟨(s - 257).toNat, by omega⟩
    have ek : (257 + (k : Int) - 257).toNat = k := by omega
    rw [ek] at HL ⊢
    have hk1 : k < 29 := by omega
    have hb5 := Sy.lb_le k hk1
    have hle := Sy.lf_le k hk1
    obtain ⟨b, eb⟩ : ∃ b, b = Sy.at' Sy.lb k := ⟨_, rfl⟩
    rw [← eb] at HL hb5 hle ⊢
    have hp := pow_is b (by omega)
    obtain ⟨p, ep⟩ : ∃ p : Nat, p = 2 ^ b := ⟨_, rfl⟩
    rw [← ep] at hp hle ⊢
    have H := Lib.hid HL
    clear HL ek eb ep
    by_cases h1 : v < 0
    · rw [if_neg (by omega)]
      have d1 : decide (v < 0) = true := decide_eq_true h1
      clear h1
      go_enter Try.func18, Try.ntmps18
      go_wp2_with fail
      refine (H.out _).mono ?_
      rintro e w1 ⟨rfl, hb⟩
      have HB := Lib.hid hb
      clear hb
      go_wp2_with fail
      go_ret2
      exact ⟨rfl, HB.out⟩
    · have d1 : decide (v < 0) = false := decide_eq_false h1
      obtain ⟨m, rfl⟩ : ∃ m : Nat, v = (m : Int) := ⟨v.toNat, by omega⟩
      rw [Int.toNat_natCast]
      by_cases h2 : p ≤ m
      · rw [if_neg (by omega)]
        have d2 : decide ((p : Int) ≤ (m : Int)) = true := decide_eq_true (by omega)
        have d2' : decide (p ≤ m) = true := decide_eq_true h2
        clear h1 h2
        go_enter Try.func18, Try.ntmps18
        go_wp2_with fail
        refine (H.out _).mono ?_
        rintro e w1 ⟨rfl, hb⟩
        have HB := Lib.hid hb
        clear hb
        go_wp2_with fail
        go_ret2
        exact ⟨rfl, HB.out⟩
      · rw [if_pos (by omega)]
        have d2 : decide ((p : Int) ≤ (m : Int)) = false := decide_eq_false (by omega)
        have d2' : decide (p ≤ m) = false := decide_eq_false h2
        have hk2 : 257 + (k : Int) - 257 = (k : Int) := by omega
        have HW := Lib.hid (fun w => rlens_is w)
        obtain ⟨x, ex⟩ : ∃ x, x = Sy.at' Sy.lf k := ⟨_, rfl⟩
        rw [← ex] at hle ⊢
        have EX := Lib.hid ex
        have hle2 := hle.2
        have hmp : m < p := by omega
        clear h1 h2 h ex hle
        go_enter Try.func18, Try.ntmps18
        go_wp2_with fail
        refine (H.out _).mono ?_
        rintro e w1 ⟨rfl, hb⟩
        have HB := Lib.hid hb
        clear hb
        go_wp2_with fail
        refine (HW.out _).mono ?_
        rintro e w2 ⟨b1, b2, rfl, t1, t2, hb⟩
        have hc := t1.2 k hk1
        rw [← EX.out] at hc
        have HB2 := Lib.hid (HB.out.trans (hb.mono HB.out.size))
        clear t1 t2 hb
        go_wp2_with fail
        go_ret2
        exact ⟨by first | rfl | go_num, HB2.out⟩
  · rw [if_neg h] at HL ⊢
    have H := Lib.hid HL
    clear HL h
    go_enter Try.func18, Try.ntmps18
    go_wp2_with fail
    refine (H.out _).mono ?_
    rintro e w1 ⟨rfl, hb⟩
    have HB := Lib.hid hb
    clear hb
    go_wp2_with fail
    go_ret2
    exact ⟨rfl, HB.out⟩

set_option maxHeartbeats 2000000 in
theorem rdsym_go (n : Int) (w : World) : Calls Try.prog 14 #[.int .i64 n] w (Three (Sy.dsymA n).1 (Sy.dsymA n).2.1 (Sy.dsymA n).2.2 w) := by
  unfold Sy.dsymA
  by_cases h1 : n < 1
  · rw [if_neg (by omega)]
    have d1 : decide (n < 1) = true := decide_eq_true h1
    clear h1
    go_enter Try.func14, Try.ntmps14
    go_wp2_with fail
    go_ret3
    exact ⟨rfl, Below.refl _ _⟩
  · have d1 : decide (n < 1) = false := decide_eq_false h1
    by_cases h2 : 32768 < n
    · rw [if_neg (by omega)]
      have d2 : decide (32768 < n) = true := decide_eq_true h2
      clear h1 h2
      go_enter Try.func14, Try.ntmps14
      go_wp2_with fail
      go_ret3
      exact ⟨rfl, Below.refl _ _⟩
    · rw [if_pos (by omega)]
      have d2 : decide (32768 < n) = false := decide_eq_false h2
      obtain ⟨m, rfl⟩ : ∃ m : Nat, n = (m : Int) := ⟨n.toNat, by omega⟩
      rw [Int.toNat_natCast]
      have hk := Sy.dk_has m (by omega)
      have HL := Lib.hid (fun b w (h : Tb w b Sy.df) => rlast_is Sy.df b m 30 w h rfl (by omega))
      have HW := Lib.hid (fun w => rdists_is w)
      rw [show Sy.lastTo Sy.df m 30 = Sy.dk m from rfl] at HL
      obtain ⟨k, ek⟩ : ∃ k, k = Sy.dk m := ⟨_, rfl⟩
      obtain ⟨x, ex⟩ : ∃ x, x = Sy.at' Sy.df k := ⟨_, rfl⟩
      rw [← ek] at HL hk ⊢
      rw [← ex] at hk ⊢
      have hk1 := hk.1
      have hk2 := hk.2.1
      have EX := Lib.hid ex
      clear hk ex ek
      go_enter Try.func14, Try.ntmps14
      go_wp2_with fail
      refine (HW.out _).mono ?_
      rintro e w1 ⟨b1, b2, rfl, t1, t2, hb⟩
      have T1 := Lib.hid t1
      have HB := Lib.hid hb
      clear t1 t2 hb
      go_wp2_with fail
      refine (HL.out b1 _ T1.out).mono ?_
      rintro e w2 ⟨rfl, rfl⟩
      have hc := T1.out.2 k (by show k < 30; omega)
      rw [← EX.out] at hc
      go_wp2_with fail
      go_quiet (fail)
      go_wp2_with fail
      go_ret3
      refine ⟨?_, below_drewN HB.out _⟩
      have e1 : ((m : Int) - (x : Int)) = ((m - x : Nat) : Int) := by omega
      show Ending.returned (.tuple #[.int .i64 (k : Int), .int .i64 ((m : Int) - (x : Int)), .int .i64 0]) = _
      rw [e1]
      rfl

set_option maxHeartbeats 2000000 in
theorem rdbit_go (s : Int) (w : World) : Calls Try.prog 20 #[.int .i64 s] w (Two (Sy.dbitA s).1 (Sy.dbitA s).2 w) := by
  unfold Sy.dbitA
  by_cases h1 : s < 0
  · rw [if_neg (by omega)]
    have d1 : decide (s < 0) = true := decide_eq_true h1
    clear h1
    go_enter Try.func20, Try.ntmps20
    go_wp2_with fail
    go_ret2
    exact ⟨rfl, Below.refl _ _⟩
  · have d1 : decide (s < 0) = false := decide_eq_false h1
    by_cases h2 : 29 < s
    · rw [if_neg (by omega)]
      have d2 : decide (29 < s) = true := decide_eq_true h2
      clear h1 h2
      go_enter Try.func20, Try.ntmps20
      go_wp2_with fail
      go_ret2
      exact ⟨rfl, Below.refl _ _⟩
    · rw [if_pos (by omega)]
      have d2 : decide (29 < s) = false := decide_eq_false h2
      obtain ⟨k, rfl⟩ : ∃ k : Nat, s = (k : Int) := ⟨s.toNat, by omega⟩
      have ek : (k : Int).toNat = k := by omega
      rw [ek]
      have hk1 : k < 30 := by omega
      have HW := Lib.hid (fun w => rdists_is w)
      clear h1 h2 ek
      go_enter Try.func20, Try.ntmps20
      go_wp2_with fail
      refine (HW.out _).mono ?_
      rintro e w1 ⟨b1, b2, rfl, t1, t2, hb⟩
      have hc := t2.2 k hk1
      have HB := Lib.hid hb
      clear t1 t2 hb
      go_wp2_with fail
      go_ret2
      exact ⟨rfl, HB.out⟩

set_option maxHeartbeats 2000000 in
theorem rdnum_go (s v : Int) (w : World) (hi : v ≤ 9223372036854775807) : Calls Try.prog 22 #[.int .i64 s, .int .i64 v] w (Two (Sy.dnumA s v).1 (Sy.dnumA s v).2 w) := by
  have HL := fun w => rdbit_go s w
  unfold Sy.dbitA at HL
  unfold Sy.dnumA
  by_cases h : 0 ≤ s ∧ s ≤ 29
  · rw [if_pos h] at HL ⊢
    obtain ⟨k, rfl⟩ : ∃ k : Nat, s = (k : Int) := ⟨s.toNat, by omega⟩
    have ek : (k : Int).toNat = k := by omega
    rw [ek] at HL ⊢
    have hk1 : k < 30 := by omega
    have hb5 := Sy.db_le k hk1
    have hle := Sy.df_le k hk1
    obtain ⟨b, eb⟩ : ∃ b, b = Sy.at' Sy.db k := ⟨_, rfl⟩
    rw [← eb] at HL hb5 hle ⊢
    have hp := pow_is b (by omega)
    obtain ⟨p, ep⟩ : ∃ p : Nat, p = 2 ^ b := ⟨_, rfl⟩
    rw [← ep] at hp hle ⊢
    have H := Lib.hid HL
    clear HL ek eb ep
    by_cases h1 : v < 0
    · rw [if_neg (by omega)]
      have d1 : decide (v < 0) = true := decide_eq_true h1
      clear h1
      go_enter Try.func22, Try.ntmps22
      go_wp2_with fail
      refine (H.out _).mono ?_
      rintro e w1 ⟨rfl, hb⟩
      have HB := Lib.hid hb
      clear hb
      go_wp2_with fail
      go_ret2
      exact ⟨rfl, HB.out⟩
    · have d1 : decide (v < 0) = false := decide_eq_false h1
      obtain ⟨m, rfl⟩ : ∃ m : Nat, v = (m : Int) := ⟨v.toNat, by omega⟩
      rw [Int.toNat_natCast]
      by_cases h2 : p ≤ m
      · rw [if_neg (by omega)]
        have d2 : decide ((p : Int) ≤ (m : Int)) = true := decide_eq_true (by omega)
        have d2' : decide (p ≤ m) = true := decide_eq_true h2
        clear h1 h2
        go_enter Try.func22, Try.ntmps22
        go_wp2_with fail
        refine (H.out _).mono ?_
        rintro e w1 ⟨rfl, hb⟩
        have HB := Lib.hid hb
        clear hb
        go_wp2_with fail
        go_ret2
        exact ⟨rfl, HB.out⟩
      · rw [if_pos (by omega)]
        have d2 : decide ((p : Int) ≤ (m : Int)) = false := decide_eq_false (by omega)
        have d2' : decide (p ≤ m) = false := decide_eq_false h2
        have HW := Lib.hid (fun w => rdists_is w)
        obtain ⟨x, ex⟩ : ∃ x, x = Sy.at' Sy.df k := ⟨_, rfl⟩
        rw [← ex] at hle ⊢
        have EX := Lib.hid ex
        have hle2 := hle.2
        have hmp : m < p := by omega
        clear h1 h2 h ex hle
        go_enter Try.func22, Try.ntmps22
        go_wp2_with fail
        refine (H.out _).mono ?_
        rintro e w1 ⟨rfl, hb⟩
        have HB := Lib.hid hb
        clear hb
        go_wp2_with fail
        refine (HW.out _).mono ?_
        rintro e w2 ⟨b1, b2, rfl, t1, t2, hb⟩
        have hc := t1.2 k hk1
        rw [← EX.out] at hc
        have HB2 := Lib.hid (HB.out.trans (hb.mono HB.out.size))
        clear t1 t2 hb
        go_wp2_with fail
        go_ret2
        exact ⟨by first | rfl | go_num, HB2.out⟩
  · rw [if_neg h] at HL ⊢
    have H := Lib.hid HL
    clear HL h
    go_enter Try.func22, Try.ntmps22
    go_wp2_with fail
    refine (H.out _).mono ?_
    rintro e w1 ⟨rfl, hb⟩
    have HB := Lib.hid hb
    clear hb
    go_wp2_with fail
    go_ret2
    exact ⟨rfl, HB.out⟩
end Go.Proofs.Ytpcgibbmllmbgaa
