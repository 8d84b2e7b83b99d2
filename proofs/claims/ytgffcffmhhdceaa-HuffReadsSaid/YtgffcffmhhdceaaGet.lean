/- Contracts of bits.Get and bits.Turn. -/
import Derived.Test.YtgffcffmhhdceaaPut
namespace Go.Proofs.Ytgffcffmhhdceaa
open Go.RowKit

theorem u8_and1 (x : Nat) (hx : x < 256) (k : Nat) : bits BinOp.and IntKind.u8 ((x : Int) / 2 ^ k) 1 = ((x.testBit k).toNat : Int) := by
  have e : ((x : Int) / 2 ^ k) = ((x / 2 ^ k : Nat) : Int) := by simp
  have h : x / 2 ^ k < 256 := Nat.lt_of_le_of_lt (Nat.div_le_self _ _) hx
  rw [e, show (1 : Int) = ((1 : Nat) : Int) from rfl, u8_and_nat _ _ h (by omega), nat_mask1, bit_mod]

/-- Of a row that is right the k-th bit is told. -/
theorem bitAt_row (s : Value) (l : List Bool) (k : Nat) (w : World) (hs : Sl w s (Bs.pack l)) (hk : k < l.length) (_h8 : l.length ≤ 2251799813685248) :
    Calls Try.prog 53 #[s, .int .i64 (k : Int)] w fun e w' => e = .returned (.int .u8 ((l[k]?.getD false).toNat : Int)) ∧ w = w' := by
  obtain ⟨a, len, cap, rfl, hl, h2, h3, h4, h5⟩ := hs
  have hl' : len = (l.length + 7) / 8 := by rw [hl, Bs.pack_length]
  obtain ⟨b, off, rfl, hlt, hc⟩ := h5 (by omega)
  have e := Bs.packTo_get ((l.length + 7) / 8) l (k / 8) (by omega)
  have hx := Bs.byteAt_lt l (k / 8)
  have hc' := hc (k / 8) (by omega)
  unfold Bs.pack at hc'
  rw [e] at hc'
  refine (bitAt_any b off len cap k _ w (by omega) hc' (by omega)).mono ?_
  rintro e w' ⟨rfl, rfl⟩
  refine ⟨?_, rfl⟩
  rw [u8_and1 _ hx, Bs.testBit_byteAt]
  have h8 : k % 8 < 8 := by omega
  have h9 : 8 * (k / 8) + k % 8 = k := by omega
  rw [h9]
  simp [h8]

theorem bitAt_is (s : Value) (l : List Bool) (q : Int) (k : Nat) (b : Bool) (w : World) (hs : Sl w s (Bs.pack l)) (hq : Hid (q = (k : Int))) (hb : Hid (b = l[k]?.getD false)) (hk : k < l.length) (h8 : l.length ≤ 2251799813685248) :
    Calls Try.prog 53 #[s, .int .i64 q] w fun e w' => e = .returned (.int .u8 (b.toNat : Int)) ∧ w = w' := by
  rw [hq.out, hb.out]
  exact bitAt_row s l k w hs hk h8

theorem i64_or_nat (a b : Nat) (ha : a < 2 ^ 62) (hb : b < 2 ^ 62) : bits .or .i64 (a : Int) (b : Int) = ((a ||| b : Nat) : Int) :=
  (bits_nat .i64 62 (by decide) (fun n h0 h1 => by rw [IntKind.wrap_i64]; omega) a b ha hb).2

theorem num_step (l : List Bool) (p k : Nat) (b : Bool) (h : p + k < l.length) (hb : b = l[p + k]?.getD false) : Bs.num ((l.drop p).take (k + 1)) = Bs.num ((l.drop p).take k) + b.toNat * 2 ^ k := by
  rw [Bs.num_take_succ _ _ (by rw [List.length_drop]; omega), List.getElem_drop, hb, List.getElem?_eq_getElem h]
  rfl

theorem or_step (V k : Nat) (b : Bool) (hk : k < 32) (hV : V < 2 ^ k) : bits .or .i64 (V : Int) (wrap64 ((b.toNat : Int) * 2 ^ k)) = ((V + b.toNat * 2 ^ k : Nat) : Int) := by
  have h2 : 2 ^ k < 2 ^ 32 := Nat.pow_lt_pow_right (by omega) hk
  have hb : b.toNat ≤ 1 := by cases b <;> simp
  have h3 : b.toNat * 2 ^ k < 2 ^ 32 := by have := Nat.mul_le_mul_right (2 ^ k) hb; omega
  have e : ((b.toNat : Int) * 2 ^ k) = ((b.toNat * 2 ^ k : Nat) : Int) := by simp
  rw [e, IntWalk.wrap64_in _ (by omega), i64_or_nat _ _ (by omega) (by omega), Nat.or_comm, nat_join k _ _ (by simp) hV]
  omega

theorem num_take_lt (l : List Bool) (p k : Nat) : Bs.num ((l.drop p).take k) < 2 ^ k :=
  Nat.lt_of_lt_of_le (Bs.num_lt _) (Nat.pow_le_pow_right (by omega) (List.length_take_le _ _))

/-- What is answered where two numbers are: the number, the error. -/
def Nums (w : World) (v c : Int) (e : Ending) (w' : World) : Prop := e = .returned (.tuple #[.int .i64 v, .int .i64 c]) ∧ Below w.heap.size w w'

set_option maxHeartbeats 1000000 in
theorem get_check (s : Value) (bs : List Nat) (N at' n : Int) (w : World) (hs : Sl w s bs) (hN : N ≤ 9223372036854775807) (hr : ¬ (0 ≤ N ∧ Bs.right bs N.toNat)) :
    Calls Try.prog 40 #[.agg #[s, .int .i64 N], .int .i64 at', .int .i64 n] w (Nums w 0 2) := by
  have HS := Lib.hid hs
  have HR := Lib.hid hr
  clear hs hr
  obtain ⟨a, len, cap, rfl, hl⟩ := HS.out.shape
  clear hl
  go_enter Try.func40, Try.ntmps40
  go_wp2_with fail
  refine (check_bad _ bs N _ (HS.out.later (below1 _ _)) hN HR.out).mono ?_
  rintro e w1 ⟨rfl, hb1⟩
  obtain ⟨k1, kb, ks⟩ := facts1 hb1
  clear hb1
  go_wp2
  go_ret2
  exact ⟨rfl, kb⟩

set_option maxHeartbeats 1000000 in
theorem get_args (s : Value) (bs : List Nat) (N : Nat) (at' n : Int) (w : World) (hs : Sl w s bs) (hN : N ≤ 9223372036854775807) (hr : Bs.right bs N) (hbad : n < 0 ∨ 32 < n ∨ at' < 0 ∨ (N : Int) < at') :
    Calls Try.prog 40 #[.agg #[s, .int .i64 (N : Int)], .int .i64 at', .int .i64 n] w (Nums w 0 2) := by
  have HS := Lib.hid hs
  have HR := Lib.hid hr
  have HB := Lib.hid hbad
  clear hs hr hbad
  obtain ⟨a, len, cap, rfl, hl⟩ := HS.out.shape
  clear hl
  go_enter Try.func40, Try.ntmps40
  go_wp2_with fail
  refine (check_ok _ bs N _ (HS.out.later (below1 _ _)) hN HR.out).mono ?_
  rintro e w1 ⟨rfl, hb1⟩
  obtain ⟨k1, kb, ks⟩ := facts1 hb1
  clear hb1
  obtain ⟨c0, c1, f0, f1⟩ := k1.two
  by_cases h1 : n < 0
  · have d1 : decide (n < 0) = true := by simpa using h1
    go_wp2
    go_ret2
    exact ⟨rfl, kb⟩
  · have d1 : decide (n < 0) = false := by simpa using h1
    by_cases h2 : 32 < n
    · have d2 : decide (32 < n) = true := by simpa using h2
      go_wp2
      go_ret2
      exact ⟨rfl, kb⟩
    · have d2 : decide (32 < n) = false := by simpa using h2
      by_cases h3 : at' < 0
      · have d3 : decide (at' < 0) = true := by simpa using h3
        go_wp2
        go_ret2
        exact ⟨rfl, kb⟩
      · have d3 : decide (at' < 0) = false := by simpa using h3
        have h4 : (N : Int) < at' := by rcases HB.out with h | h | h | h <;> first | exact h | exact absurd h (by assumption)
        have d4 : decide ((N : Int) < at') = true := by simpa using h4
        go_wp2
        go_ret2
        exact ⟨rfl, kb⟩

set_option maxHeartbeats 1000000 in
theorem get_short (s : Value) (bs : List Nat) (N p n : Nat) (w : World) (hs : Sl w s bs) (hN : N ≤ 9223372036854775807) (hr : Bs.right bs N) (hn : n ≤ 32) (hp : p ≤ N) (hsh : N - p < n) :
    Calls Try.prog 40 #[.agg #[s, .int .i64 (N : Int)], .int .i64 (p : Int), .int .i64 (n : Int)] w (Nums w 0 4) := by
  have HS := Lib.hid hs
  have HR := Lib.hid hr
  clear hs hr
  obtain ⟨a, len, cap, rfl, hl⟩ := HS.out.shape
  clear hl
  go_enter Try.func40, Try.ntmps40
  go_wp2_with fail
  refine (check_ok _ bs N _ (HS.out.later (below1 _ _)) hN HR.out).mono ?_
  rintro e w1 ⟨rfl, hb1⟩
  obtain ⟨k1, kb, ks⟩ := facts1 hb1
  clear hb1
  obtain ⟨c0, c1, f0, f1⟩ := k1.two
  have d1 : decide ((n : Int) < 0) = false := by simp
  have d2 : decide (32 < (n : Int)) = false := by simp; omega
  have d3 : decide ((p : Int) < 0) = false := by simp
  have d4 : decide ((N : Int) < (p : Int)) = false := by simp; omega
  have d5 : (N : Int) - (p : Int) < (n : Int) := by omega
  go_wp2
  go_ret2
  exact ⟨rfl, kb⟩

set_option maxHeartbeats 1000000 in
theorem get_ok (s : Value) (l : List Bool) (N p n : Nat) (w : World) (hs : Sl w s (Bs.pack l)) (hl : Hid (N = l.length)) (hN : N ≤ 2251799813685248) (hn : n ≤ 32) (hp : p + n ≤ N) :
    Calls Try.prog 40 #[.agg #[s, .int .i64 (N : Int)], .int .i64 (p : Int), .int .i64 (n : Int)] w (Nums w (Bs.num ((l.drop p).take n)) 0) := by
  have HS := Lib.hid hs
  clear hs
  obtain ⟨a, len, cap, rfl, hl'⟩ := HS.out.shape
  clear hl'
  go_enter Try.func40, Try.ntmps40
  go_wp2_with fail
  refine (check_ok _ (Bs.pack l) N _ (HS.out.later (below1 _ _)) (by omega) (by rw [hl.out]; exact Bs.pack_right l)).mono ?_
  rintro e w1 ⟨rfl, hb1⟩
  obtain ⟨k1, kb, ks⟩ := facts1 hb1
  clear hb1
  obtain ⟨c0, c1, f0, f1⟩ := k1.two
  have HS1 := Lib.hid (HS.out.later kb)
  have d1 : decide ((n : Int) < 0) = false := by simp
  have d2 : decide (32 < (n : Int)) = false := by simp; omega
  have d3 : decide ((p : Int) < 0) = false := by simp
  have d4 : decide (N < p) = false := by simp; omega
  have d5 : decide ((N : Int) - (p : Int) < (n : Int)) = false := by simp; omega
  go_wp2_with fail
  have HL : Hid (l.length ≤ 2251799813685248) := by show _ ≤ _; rw [← hl.out]; exact hN
  go_loop [9, 39] (fun v i => ∃ k V : Nat, k ≤ n ∧ i = .int .i64 k ∧ v = .int .i64 (V : Int) ∧ Hid (V = Bs.num ((l.drop p).take k))) (fun _ i => n - (intOf i).toNat)
  case atStart => exact ⟨0, 0, Nat.zero_le _, rfl, rfl, by show _ = _; simp [Bs.num]⟩
  case round =>
    obtain ⟨k, V, hk, rfl, rfl, hV⟩ := hrel
    by_cases hlt : k < n
    · obtain ⟨b, hb⟩ : ∃ b, b = l[p + k]?.getD false := ⟨_, rfl⟩
      have HB := Lib.hid hb
      have hb2 : b.toNat < 2 := Bool.toNat_lt b
      have hs1 : 0 ≤ (p : Int) + (k : Int) := by omega
      have hpk : p + k < l.length := by rw [← hl.out]; omega
      have HPK := Lib.hid hpk
      clear hb hpk
      go_wp2_with (go_at_call 53; refine (bitAt_is _ l _ (p + k) b _ HS1.out (show _ = _ by simp) HB HPK.out HL.out).mono ?_; rintro e w2 ⟨rfl, rfl⟩)
      refine ⟨⟨k + 1, V + b.toNat * 2 ^ k, by omega, by go_num, ?_, ?_⟩, ?_⟩
      · rw [or_step V k b (by omega) (by rw [hV.out]; exact num_take_lt l p k)]
      · show _ = _
        rw [num_step l p k b HPK.out HB.out, hV.out]
      · simp [intOf]; omega
    · obtain rfl : k = n := by omega
      go_wp2
      go_ret2
      exact ⟨by rw [hV.out]; rfl, kb⟩
end Go.Proofs.Ytgffcffmhhdceaa
