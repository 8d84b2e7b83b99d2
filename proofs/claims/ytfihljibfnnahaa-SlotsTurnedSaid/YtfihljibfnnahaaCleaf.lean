/- Contracts of the small functions of package crc and of the document's step. -/
import Derived.Test.YtfihljibfnnahaaMem
import Derived.Test.YtfihljibfnnahaaCrc

namespace Go.Proofs.Ytfihljibfnnahaa
set_option maxRecDepth 100000
open Go.RowKit

theorem u32_xor (a b : Nat) (ha : a < 4294967296) (hb : b < 4294967296) : bits BinOp.xor IntKind.u32 (a : Int) (b : Int) = ((a ^^^ b : Nat) : Int) := by
  show IntKind.u32.wrap (((BitVec.ofInt 32 a ^^^ BitVec.ofInt 32 b).toNat : Nat) : Int) = _
  have h : a ^^^ b < 2 ^ 32 := Nat.xor_lt_two_pow (by omega) (by omega)
  rw [BitVec.toNat_xor, BitVec.toNat_ofInt, BitVec.toNat_ofInt]
  have e1 : ((a : Int) % ((2 ^ 32 : Nat) : Int)).toNat = a := by omega
  have e2 : ((b : Int) % ((2 ^ 32 : Nat) : Int)).toNat = b := by omega
  rw [e1, e2, IntKind.wrap_u32]
  omega

theorem u32_and1 (n : Nat) : bits BinOp.and IntKind.u32 (n : Int) 1 = ((n % 2 : Nat) : Int) := by
  have h1 : (BitVec.ofInt 32 1).toNat = 2 ^ 1 - 1 := by decide
  show IntKind.u32.wrap (((BitVec.ofInt 32 n &&& BitVec.ofInt 32 1).toNat : Nat) : Int) = _
  rw [BitVec.toNat_and, BitVec.toNat_ofInt, h1, Nat.and_two_pow_sub_one_eq_mod, IntKind.wrap_u32]
  omega

theorem st_even (c : Nat) (h : ¬ c % 2 = 1) : ((c : Int) / 2) = ((Cr.st c : Nat) : Int) := by
  unfold Cr.st
  rw [if_neg h, Nat.xor_zero]
  omega
theorem st_odd (c : Nat) (h : c % 2 = 1) (hc : c < 4294967296) : bits BinOp.xor IntKind.u32 ((c : Int) / 2) 3988292384 = ((Cr.st c : Nat) : Int) := by
  unfold Cr.st
  have e : ((c : Int) / 2) = ((c / 2 : Nat) : Int) := by omega
  rw [if_pos h, e]
  exact u32_xor (c / 2) Cr.poly (by omega) (by decide)
theorem odd_bit (c : Nat) : (bits BinOp.and IntKind.u32 (c : Int) 1 == 1) = decide (c % 2 = 1) := by
  rw [u32_and1, Bool.eq_iff_iff, beq_iff_eq, decide_eq_true_iff]
  omega

set_option maxHeartbeats 400000 in
theorem step_any (c : Nat) (h : c < 4294967296) (w : World) :
    Calls Try.prog 95 #[.int .u32 (c : Int)] w fun e w' => e = .returned (.int .u32 ((Cr.st c : Nat) : Int)) ∧ w = w' := by
  have ho := odd_bit c
  by_cases h1 : c % 2 = 1
  · have e := st_odd c h1 h
    have hd : (bits BinOp.and IntKind.u32 (c : Int) 1 == 1) = true := by rw [ho]; simpa using h1
    clear ho
    go_enter Try.func95, Try.ntmps95
    go_wp2
    go_ret
    exact ⟨rfl, rfl⟩
  · have e := st_even c h1
    have hd : (bits BinOp.and IntKind.u32 (c : Int) 1 == 1) = false := by rw [ho]; simpa using h1
    clear ho
    go_enter Try.func95, Try.ntmps95
    go_wp2
    go_ret
    exact ⟨rfl, rfl⟩

theorem step_is (c d : Nat) (h : c < 4294967296) (hd : Hid (d = Cr.st c)) (w : World) :
    Calls Try.prog 95 #[.int .u32 (c : Int)] w fun e w' => e = .returned (.int .u32 (d : Int)) ∧ w = w' := by
  rw [hd.out]
  exact step_any c h w

set_option maxHeartbeats 400000 in
theorem eight_any (c : Nat) (h : c < 4294967296) (w : World) :
    Calls Try.prog 87 #[.int .u32 (c : Int)] w fun e w' => e = .returned (.int .u32 ((Cr.stn 8 c : Nat) : Int)) ∧ w = w' := by
  go_enter Try.func87, Try.ntmps87
  go_wp2
  go_loop [0, 3] (fun t i => ∃ k T : Nat, k ≤ 8 ∧ i = .int .i64 k ∧ t = .int .u32 (T : Int) ∧ Hid (T = Cr.stn k c)) (fun _ i => 8 - (intOf i).toNat)
  case atStart => exact ⟨0, c, Nat.zero_le _, rfl, rfl, rfl⟩
  case round =>
    obtain ⟨k, T, hk, rfl, rfl, hT⟩ := hrel
    have hT2 : T < 4294967296 := by rw [hT.out]; exact Cr.stn_lt k c h
    by_cases hlt : k < 8
    · go_wp2_with (go_at_call 95; refine (step_any T hT2 _).mono ?_; rintro e w2 ⟨rfl, rfl⟩)
      refine ⟨⟨k + 1, Cr.st T, by omega, by go_num, rfl, ?_⟩, ?_⟩
      · show _ = _
        rw [hT.out, Cr.stn_succ]
      · simp [intOf]; omega
    · obtain rfl : k = 8 := by omega
      go_wp2
      go_ret
      exact ⟨by rw [hT.out]; rfl, rfl⟩

set_option maxHeartbeats 400000 in
theorem rstep_any (c : Nat) (h : c < 4294967296) (w : World) :
    Calls Try.prog 90 #[.int .u32 (c : Int)] w fun e w' => e = .returned (.int .u32 ((Cr.stn 8 c : Nat) : Int)) ∧ w = w' := by
  go_enter Try.func90, Try.ntmps90
  go_wp2
  go_loop [0, 3] (fun t i => ∃ k T : Nat, k ≤ 8 ∧ i = .int .i64 k ∧ t = .int .u32 (T : Int) ∧ Hid (T = Cr.stn k c)) (fun _ i => 8 - (intOf i).toNat)
  case atStart => exact ⟨0, c, Nat.zero_le _, rfl, rfl, rfl⟩
  case round =>
    obtain ⟨k, T, hk, rfl, rfl, hT⟩ := hrel
    have hT2 : T < 4294967296 := by rw [hT.out]; exact Cr.stn_lt k c h
    have ho := odd_bit T
    by_cases hlt : k < 8
    · by_cases h1 : T % 2 = 1
      · have e := st_odd T h1 hT2
        have hd : (bits BinOp.and IntKind.u32 (T : Int) 1 == 1) = true := by rw [ho]; simpa using h1
        clear ho
        go_wp2
        refine ⟨⟨k + 1, Cr.st T, by omega, by go_num, rfl, ?_⟩, ?_⟩
        · show _ = _
          rw [hT.out, Cr.stn_succ]
        · simp [intOf]; omega
      · have e := st_even T h1
        have hd : (bits BinOp.and IntKind.u32 (T : Int) 1 == 1) = false := by rw [ho]; simpa using h1
        clear ho
        go_wp2
        refine ⟨⟨k + 1, Cr.st T, by omega, by go_num, rfl, ?_⟩, ?_⟩
        · show _ = _
          rw [hT.out, Cr.stn_succ]
        · simp [intOf]; omega
    · obtain rfl : k = 8 := by omega
      go_wp2
      go_ret
      exact ⟨by rw [hT.out]; rfl, rfl⟩

end Go.Proofs.Ytfihljibfnnahaa
