/- Contracts of bits.Turn. -/
import Derived.Test.YtgffcffmhhdceaaGet
namespace Go.Proofs.Ytgffcffmhhdceaa
open Go.RowKit

/-- The number of n bits that has v's the other way about. -/
def turned (v n : Nat) : Nat := Bs.num (Bs.bitsOf v n).reverse

theorem turned_zero (v : Nat) : turned v 0 = 0 := rfl
theorem turned_succ (v n : Nat) : turned v (n + 1) = (v.testBit n).toNat + 2 * turned v n := by
  unfold turned
  rw [Bs.bitsOf_succ, List.reverse_append]
  rfl
theorem turned_lt (v n : Nat) : turned v n < 2 ^ n := by
  have := Bs.num_lt (Bs.bitsOf v n).reverse
  rw [List.length_reverse, Bs.bitsOf_length] at this
  exact this

set_option maxHeartbeats 400000 in
theorem turn_bad (v n : Int) (hf : n ≤ 16 → Hid (decide (0 ≤ n ∧ 0 ≤ v ∧ v / 2 ^ n.toNat = 0) = false)) (w : World) :
    Calls Try.prog 32 #[.int .i64 v, .int .i64 n] w (Nums w 0 2) := by
  have HF := Lib.hid hf
  clear hf
  by_cases h32 : n ≤ 16
  · go_enter Try.func32, Try.ntmps32
    go_wp2_with (go_at_call 47; refine (fits_is v n false (by omega) (HF.out h32) _).mono ?_; rintro e w2 ⟨rfl, rfl⟩)
    go_ret2
    exact ⟨rfl, Below.refl _ _⟩
  · go_enter Try.func32, Try.ntmps32
    go_wp2
    go_ret2
    exact ⟨rfl, Below.refl _ _⟩

theorem fit_nat (v n : Nat) (hv : v < 2 ^ n) : decide (0 ≤ (n : Int) ∧ 0 ≤ (v : Int) ∧ (v : Int) / 2 ^ (n : Int).toNat = 0) = true := by
  refine decide_eq_true ⟨by omega, by omega, ?_⟩
  have e : ((v : Int) / 2 ^ (n : Int).toNat) = ((v / 2 ^ n : Nat) : Int) := by simp
  rw [e, Nat.div_eq_of_lt hv]
  rfl

set_option maxHeartbeats 400000 in
theorem turn_ok (v n : Nat) (hn : n ≤ 16) (hv : Hid (v < 2 ^ n)) (w : World) :
    Calls Try.prog 32 #[.int .i64 (v : Int), .int .i64 (n : Int)] w (Nums w (turned v n) 0) := by
  have HF : Hid _ := fit_nat v n hv.out
  have d1 : decide (16 < (n : Int)) = false := by simp; omega
  have hi32 : (n : Int) ≤ 32 := by omega
  go_enter Try.func32, Try.ntmps32
  go_wp2_with (first | (go_at_call 47; refine (fits_is (v : Int) (n : Int) true hi32 HF _).mono ?_; rintro e w2 ⟨rfl, rfl⟩) | fail)
  go_loop [6, 17] (fun t i => ∃ k T : Nat, k ≤ n ∧ i = .int .i64 k ∧ t = .int .i64 (T : Int) ∧ Hid (T = turned v k)) (fun _ i => n - (intOf i).toNat)
  case atStart => exact ⟨0, 0, Nat.zero_le _, rfl, rfl, turned_zero v⟩
  case round =>
    obtain ⟨k, T, hk, rfl, rfl, hT⟩ := hrel
    have hT2 : T < 65536 := by
      have h1 := turned_lt v k
      have h2 : 2 ^ k ≤ 2 ^ 16 := Nat.pow_le_pow_right (by omega) (by omega)
      rw [hT.out]; omega
    by_cases hlt : k < n
    · go_wp2
      refine ⟨⟨k + 1, (v.testBit k).toNat + 2 * T, by omega, by go_num, ?_, ?_⟩, ?_⟩
      · have hb : (v.testBit k).toNat ≤ 1 := by cases v.testBit k <;> simp
        rw [i64_and1, bit_int, show ((T : Int) * 2) = ((T * 2 : Nat) : Int) by omega, i64_or_nat _ _ (by omega) (by omega), nat_join 1 _ _ (by omega) (by omega)]
        congr 1
        omega
      · show _ = _
        rw [turned_succ, hT.out]
      · simp [intOf]; omega
    · obtain rfl : k = n := by omega
      go_wp2
      go_ret2
      exact ⟨by rw [hT.out]; rfl, Below.refl _ _⟩

set_option maxHeartbeats 400000 in
theorem turn_same (v n : Nat) (hn : n ≤ 16) (hv : Hid (v < 2 ^ n)) (w : World) :
    Calls Try.prog 32 #[.int .i64 (v : Int), .int .i64 (n : Int)] w fun e w' => e = .returned (.tuple #[.int .i64 (turned v n : Int), .int .i64 0]) ∧ w = w' := by
  have HF : Hid _ := fit_nat v n hv.out
  have d1 : decide (16 < (n : Int)) = false := by simp; omega
  have hi32 : (n : Int) ≤ 32 := by omega
  go_enter Try.func32, Try.ntmps32
  go_wp2_with (first | (go_at_call 47; refine (fits_is (v : Int) (n : Int) true hi32 HF _).mono ?_; rintro e w2 ⟨rfl, rfl⟩) | fail)
  go_loop [6, 17] (fun t i => ∃ k T : Nat, k ≤ n ∧ i = .int .i64 k ∧ t = .int .i64 (T : Int) ∧ Hid (T = turned v k)) (fun _ i => n - (intOf i).toNat)
  case atStart => exact ⟨0, 0, Nat.zero_le _, rfl, rfl, turned_zero v⟩
  case round =>
    obtain ⟨k, T, hk, rfl, rfl, hT⟩ := hrel
    have hT2 : T < 65536 := by
      have h1 := turned_lt v k
      have h2 : 2 ^ k ≤ 2 ^ 16 := Nat.pow_le_pow_right (by omega) (by omega)
      rw [hT.out]; omega
    by_cases hlt : k < n
    · go_wp2
      refine ⟨⟨k + 1, (v.testBit k).toNat + 2 * T, by omega, by go_num, ?_, ?_⟩, ?_⟩
      · have hb : (v.testBit k).toNat ≤ 1 := by cases v.testBit k <;> simp
        rw [i64_and1, bit_int, show ((T : Int) * 2) = ((T * 2 : Nat) : Int) by omega, i64_or_nat _ _ (by omega) (by omega), nat_join 1 _ _ (by omega) (by omega)]
        congr 1
        omega
      · show _ = _
        rw [turned_succ, hT.out]
      · simp [intOf]; omega
    · obtain rfl : k = n := by omega
      go_wp2
      go_ret2
      exact ⟨by rw [hT.out]; rfl, rfl⟩

end Go.Proofs.Ytgffcffmhhdceaa
