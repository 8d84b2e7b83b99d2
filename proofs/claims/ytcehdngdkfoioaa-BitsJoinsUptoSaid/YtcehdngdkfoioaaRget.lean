/- Contract of the document's Get. -/
import Derived.Test.YtcehdngdkfoioaaRef
namespace Go.Proofs.Ytcehdngdkfoioaa
open Go.RowKit

set_option maxHeartbeats 1000000 in
theorem rget_check (s : Value) (bs : List Nat) (N at' n : Int) (w : World) (hs : Sl w s bs) (hN : N ≤ 9223372036854775807) (hr : ¬ (0 ≤ N ∧ Bs.right bs N.toNat)) :
    Calls Try.prog 21 #[.agg #[s, .int .i64 N], .int .i64 at', .int .i64 n] w (Nums w 0 2) := by
  have HS := Lib.hid hs
  have HR := Lib.hid hr
  clear hs hr
  obtain ⟨a, len, cap, rfl, hl⟩ := HS.out.shape
  clear hl
  go_enter Try.func21, Try.ntmps21
  go_wp2_with fail
  refine (rright_bad _ bs N _ (HS.out.later (below1 _ _)) hN HR.out).mono ?_
  rintro e w1 ⟨rfl, hb1⟩
  obtain ⟨k1, kb, ks⟩ := facts1 hb1
  clear hb1
  go_wp2
  go_ret2
  exact ⟨rfl, kb⟩

set_option maxHeartbeats 1000000 in
theorem rget_args (s : Value) (bs : List Nat) (N : Nat) (at' n : Int) (w : World) (hs : Sl w s bs) (hN : N ≤ 9223372036854775807) (hr : Bs.right bs N) (hbad : n < 0 ∨ 32 < n ∨ at' < 0 ∨ (N : Int) < at') :
    Calls Try.prog 21 #[.agg #[s, .int .i64 (N : Int)], .int .i64 at', .int .i64 n] w (Nums w 0 2) := by
  have HS := Lib.hid hs
  have HR := Lib.hid hr
  have HB := Lib.hid hbad
  clear hs hr hbad
  obtain ⟨a, len, cap, rfl, hl⟩ := HS.out.shape
  clear hl
  go_enter Try.func21, Try.ntmps21
  go_wp2_with fail
  refine (rright_ok _ bs N _ (HS.out.later (below1 _ _)) hN HR.out).mono ?_
  rintro e w1 ⟨rfl, hb1⟩
  obtain ⟨k1, kb, ks⟩ := facts1 hb1
  clear hb1
  obtain ⟨c0, c1, f0, f1⟩ := k1.two
  by_cases h1 : n < 0
  · have d1 : decide (n < 0) = true := by simpa using h1
    go_wp2
    go_ret2
    exact ⟨rfl, kb⟩
  · have d1 : decide (n < 0) = false := by simpa using h1
    by_cases h2 : 32 < n
    · have d2 : decide (32 < n) = true := by simpa using h2
      go_wp2
      go_ret2
      exact ⟨rfl, kb⟩
    · have d2 : decide (32 < n) = false := by simpa using h2
      by_cases h3 : at' < 0
      · have d3 : decide (at' < 0) = true := by simpa using h3
        go_wp2
        go_ret2
        exact ⟨rfl, kb⟩
      · have d3 : decide (at' < 0) = false := by simpa using h3
        have h4 : (N : Int) < at' := by rcases HB.out with h | h | h | h <;> first | exact h | exact absurd h (by assumption)
        have d4 : decide ((N : Int) < at') = true := by simpa using h4
        go_wp2
        go_ret2
        exact ⟨rfl, kb⟩

set_option maxHeartbeats 1000000 in
theorem rget_short (s : Value) (bs : List Nat) (N p n : Nat) (w : World) (hs : Sl w s bs) (hN : N ≤ 9223372036854775807) (hr : Bs.right bs N) (hn : n ≤ 32) (hp : p ≤ N) (hsh : N - p < n) :
    Calls Try.prog 21 #[.agg #[s, .int .i64 (N : Int)], .int .i64 (p : Int), .int .i64 (n : Int)] w (Nums w 0 4) := by
  have HS := Lib.hid hs
  have HR := Lib.hid hr
  clear hs hr
  obtain ⟨a, len, cap, rfl, hl⟩ := HS.out.shape
  clear hl
  go_enter Try.func21, Try.ntmps21
  go_wp2_with fail
  refine (rright_ok _ bs N _ (HS.out.later (below1 _ _)) hN HR.out).mono ?_
  rintro e w1 ⟨rfl, hb1⟩
  obtain ⟨k1, kb, ks⟩ := facts1 hb1
  clear hb1
  obtain ⟨c0, c1, f0, f1⟩ := k1.two
  have d1 : decide ((n : Int) < 0) = false := by simp
  have d2 : decide (32 < (n : Int)) = false := by simp; omega
  have d3 : decide ((p : Int) < 0) = false := by simp
  have d4 : decide (N < p) = false := by simp; omega
  have d5 : decide ((N : Int) - (p : Int) < (n : Int)) = true := by simp; omega
  go_wp2
  go_ret2
  exact ⟨rfl, kb⟩

theorem add_step (V k : Nat) (b : Bool) (hk : k < 32) (hV : V < 2 ^ k) : wrap64 ((V : Int) + wrap64 ((b.toNat : Int) * 2 ^ k)) = ((V + b.toNat * 2 ^ k : Nat) : Int) := by
  have h2 : 2 ^ k < 2 ^ 32 := Nat.pow_lt_pow_right (by omega) hk
  have hb : b.toNat ≤ 1 := by cases b <;> simp
  have h3 : b.toNat * 2 ^ k < 2 ^ 32 := by have := Nat.mul_le_mul_right (2 ^ k) hb; omega
  have e : ((b.toNat : Int) * 2 ^ k) = ((b.toNat * 2 ^ k : Nat) : Int) := by simp
  rw [e, IntWalk.wrap64_in ((b.toNat * 2 ^ k : Nat) : Int) (by omega), IntWalk.wrap64_in _ (by omega)]
  omega

set_option maxHeartbeats 1000000 in
theorem rget_ok (s : Value) (l : List Bool) (N p n : Nat) (w : World) (hs : Sl w s (Bs.pack l)) (hl : Hid (N = l.length)) (hN : N ≤ 2251799813685248) (hn : n ≤ 32) (hp : p + n ≤ N) :
    Calls Try.prog 21 #[.agg #[s, .int .i64 (N : Int)], .int .i64 (p : Int), .int .i64 (n : Int)] w (Nums w (Bs.num ((l.drop p).take n)) 0) := by
  have HS := Lib.hid hs
  clear hs
  obtain ⟨a, len, cap, rfl, hl'⟩ := HS.out.shape
  clear hl'
  go_enter Try.func21, Try.ntmps21
  go_wp2_with fail
  refine (rright_ok _ (Bs.pack l) N _ (HS.out.later (below1 _ _)) (by omega) (by rw [hl.out]; exact Bs.pack_right l)).mono ?_
  rintro e w1 ⟨rfl, hb1⟩
  obtain ⟨k1, kb, ks⟩ := facts1 hb1
  clear hb1
  obtain ⟨c0, c1, f0, f1⟩ := k1.two
  have HS1 := Lib.hid (HS.out.later kb)
  have d1 : decide ((n : Int) < 0) = false := by simp
  have d2 : decide (32 < (n : Int)) = false := by simp; omega
  have d3 : decide ((p : Int) < 0) = false := by simp
  have d4 : decide (N < p) = false := by simp; omega
  have d5 : decide ((N : Int) - (p : Int) < (n : Int)) = false := by simp; omega
  go_wp2_with fail
  have HL : Hid (l.length ≤ 2251799813685248) := by show _ ≤ _; rw [← hl.out]; exact hN
  have HW1 : Hid (Below w1.heap.size w1 w1) := Below.refl _ _
  clear c0 c1 f0 f1
  go_loopw [8, 9] (fun v i wr => ∃ k V : Nat, k ≤ n ∧ i = .int .i64 k ∧ v = .int .i64 (V : Int) ∧ Hid (V = Bs.num ((l.drop p).take k)) ∧ Hid (Below w1.heap.size w1 wr)) (fun _ i _ => n - (intOf i).toNat)
  case atStart => exact ⟨0, 0, Nat.zero_le _, rfl, rfl, by show _ = _; simp [Bs.num], HW1⟩
  case round =>
    obtain ⟨k, V, hk, rfl, rfl, hV, HW⟩ := hrel
    have k2 := k1.later HW.out
    obtain ⟨c0, c1, f0, f1⟩ := k2.two
    by_cases hlt : k < n
    · obtain ⟨b, hb⟩ : ∃ b, b = l[p + k]?.getD false := ⟨_, rfl⟩
      have HB := Lib.hid hb
      have hb2 : b.toNat < 2 := Bool.toNat_lt b
      have hs1 : 0 ≤ (p : Int) + (k : Int) := by omega
      have hpk : p + k < l.length := by rw [← hl.out]; omega
      have HPK := Lib.hid hpk
      have HS2 := Lib.hid (HS1.out.later HW.out)
      clear hb hpk
      go_wp2_with (go_at_call 38; refine (rbit_is _ l _ (p + k) N b _ HS2.out (show _ = _ by simp) HB HPK.out HL.out).mono ?_; rintro e w2 ⟨rfl, hb3⟩; have HB3 := Lib.hid hb3; clear hb3)
      refine ⟨⟨k + 1, V + b.toNat * 2 ^ k, by omega, by go_num, ?_, ?_, ?_⟩, ?_⟩
      · rw [add_step V k b (by omega) (by rw [hV.out]; exact num_take_lt l p k)]
      · show _ = _
        rw [num_step l p k b HPK.out HB.out, hV.out]
      · exact HW.out.trans (HB3.out.mono HW.out.size)
      · simp [intOf]; omega
    · obtain rfl : k = n := by omega
      go_wp2
      go_ret2
      exact ⟨by rw [hV.out]; rfl, kb.trans (HW.out.mono (by omega))⟩
end Go.Proofs.Ytcehdngdkfoioaa
