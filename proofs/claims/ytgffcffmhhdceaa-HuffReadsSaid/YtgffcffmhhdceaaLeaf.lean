/- Contracts of the small functions of package bits. -/
import Derived.Test.YtgffcffmhhdceaaMem
namespace Go.Proofs.Ytgffcffmhhdceaa
open Go.RowKit

set_option maxHeartbeats 400000 in
theorem size_any (n : Int) (h : 0 ≤ n) (h2 : n ≤ 9223372036854775807) (w : World) :
    Calls Try.prog 46 #[.int .i64 n] w fun e w' => e = .returned (.int .i64 (n / 8 + (n % 8 + 7) / 8)) ∧ w = w' := by
  go_enter Try.func46, Try.ntmps46
  go_wp2
  go_ret
  exact ⟨rfl, rfl⟩

theorem size_is (n L : Int) (h : 0 ≤ n) (h2 : n ≤ 9223372036854775807) (hL : Hid (n / 8 + (n % 8 + 7) / 8 = L)) (w : World) :
    Calls Try.prog 46 #[.int .i64 n] w fun e w' => e = .returned (.int .i64 L) ∧ w = w' := hL.out ▸ size_any n h h2 w

set_option maxHeartbeats 400000 in
theorem fits_yes (v n : Int) (h1 : 0 ≤ n) (h2 : 0 ≤ v) (h3 : n ≤ 32) (h : v / 2 ^ n.toNat = 0) (w : World) :
    Calls Try.prog 47 #[.int .i64 v, .int .i64 n] w fun e w' => e = .returned (.bool true) ∧ w = w' := by
  go_enter Try.func47, Try.ntmps47
  go_wp2
  go_ret
  exact ⟨rfl, rfl⟩

set_option maxHeartbeats 400000 in
theorem bitAt_any (b off len cap k : Nat) (x : Int) (w : World) (hk : k / 8 < len) (hc : w.cell? ⟨b, off + k / 8, none⟩ = some (.int .u8 x)) (h8 : k < 2251799813685248) :
    Calls Try.prog 53 #[.slice (some ⟨b, off, none⟩) len cap, .int .i64 k] w fun e w' => e = .returned (.int .u8 (bits BinOp.and IntKind.u8 (x / 2 ^ (k % 8)) 1)) ∧ w = w' := by
  go_enter Try.func53, Try.ntmps53
  go_wp2
  go_ret
  exact ⟨rfl, rfl⟩

set_option maxHeartbeats 400000 in
theorem check_neg (s : Value) (n : Int) (h : n < 0) (w : World) :
    Calls Try.prog 31 #[.agg #[s, .int .i64 n]] w fun e w' => e = .returned (.int .i64 2) ∧ Below w.heap.size w w' := by
  go_enter Try.func31, Try.ntmps31
  go_wp2
  have hd : decide (n < 0) = true := by simpa using h
  go_quiet (fail)
  go_wp2
  go_ret
  exact ⟨rfl, below_drewN ((Below.refl _ _).alloc (Nat.le_refl _) _) _⟩

set_option maxHeartbeats 400000 in
theorem check_len (a : Option Addr) (len cap N : Nat) (L : Int) (h2 : N ≤ 9223372036854775807) (heq : Hid ((N : Int) / 8 + ((N : Int) % 8 + 7) / 8 = L)) (hne : ((len : Int) != L) = true) (w : World) :
    Calls Try.prog 31 #[.agg #[.slice a len cap, .int .i64 N]] w fun e w' => e = .returned (.int .i64 2) ∧ Below w.heap.size w w' := by
  have hd : decide ((N : Int) < 0) = false := by simp
  go_enter Try.func31, Try.ntmps31
  go_wp2
  go_quiet ((go_at_call 46; exact quiet_left (size_is N L (by omega) (by omega) heq _)))
  go_wp2
  go_ret
  exact ⟨rfl, below_drewN ((Below.refl _ _).alloc (Nat.le_refl _) _) _⟩

set_option maxHeartbeats 400000 in
theorem check_whole (a : Option Addr) (len cap N : Nat) (h2 : N ≤ 9223372036854775807) (heq : Hid ((N : Int) / 8 + ((N : Int) % 8 + 7) / 8 = (len : Int))) (h0 : N % 8 = 0) (w : World) :
    Calls Try.prog 31 #[.agg #[.slice a len cap, .int .i64 N]] w fun e w' => e = .returned (.int .i64 0) ∧ Below w.heap.size w w' := by
  have hd : decide ((N : Int) < 0) = false := by simp
  have h0' : ((N : Int) % 8 != 0) = false := by rw [bne_eq_false_iff_eq]; omega
  go_enter Try.func31, Try.ntmps31
  go_wp2
  go_quiet ((go_at_call 46; exact quiet_left (size_is N len (by omega) (by omega) heq _)))
  go_wp2
  go_ret
  exact ⟨rfl, below_drewN ((Below.refl _ _).alloc (Nat.le_refl _) _) _⟩

set_option maxHeartbeats 400000 in
theorem check_last (b off len cap N : Nat) (x : Nat) (z : Bool) (h2 : N ≤ 9223372036854775807) (hl : len + 1 ≤ 281474976710656) (heq : Hid ((N : Int) / 8 + ((N : Int) % 8 + 7) / 8 = ((len + 1 : Nat) : Int))) (h0 : ((N : Int) % 8 != 0) = true)
    (w : World) (hb : b < w.heap.size) (hc : w.cell? ⟨b, off + len, none⟩ = some (.int .u8 (x : Int))) (hx : ((x : Int) / 2 ^ (N % 8) != 0) = z) :
    Calls Try.prog 31 #[.agg #[.slice (some ⟨b, off, none⟩) (len + 1) cap, .int .i64 N]] w fun e w' => e = .returned (.int .i64 (if z then 2 else 0)) ∧ Below w.heap.size w w' := by
  have hd : decide ((N : Int) < 0) = false := by simp
  cases z
  all_goals
    go_enter Try.func31, Try.ntmps31
    go_wp2
    go_quiet ((go_at_call 46; exact quiet_left (size_is N _ (by omega) (by omega) heq _)))
    go_wp2
    go_ret
    exact ⟨rfl, below_drewN ((Below.refl _ _).alloc (Nat.le_refl _) _) _⟩

theorem size_int (N : Nat) : (N : Int) / 8 + ((N : Int) % 8 + 7) / 8 = (((N + 7) / 8 : Nat) : Int) := by omega

theorem pow_zero_iff (x k : Nat) : ((x : Int) / 2 ^ k != 0) = (x / 2 ^ k != 0) := by
  have e : ((x : Int) / 2 ^ k) = ((x / 2 ^ k : Nat) : Int) := by simp
  rw [e, Bool.eq_iff_iff, bne_iff_ne, bne_iff_ne]
  omega

/-- Check says 0 of a row that is right, else 2. -/
theorem check_ok (s : Value) (bs : List Nat) (N : Nat) (w : World) (hs : Sl w s bs) (hN : N ≤ 9223372036854775807) (hr : Bs.right bs N) :
    Calls Try.prog 31 #[.agg #[s, .int .i64 N]] w fun e w' => e = .returned (.int .i64 0) ∧ Below w.heap.size w w' := by
  obtain ⟨a, len, cap, rfl, rfl, hl, hnil, h8, hc⟩ := hs
  obtain ⟨h1, h2⟩ := hr
  by_cases h0 : N % 8 = 0
  · exact check_whole a _ cap N hN (show _ = _ by rw [size_int, h1]) h0 w
  · rcases h2 with h2 | h2
    · exact absurd h2 h0
    · obtain ⟨k, hk⟩ : ∃ k, bs.length = k + 1 := ⟨bs.length - 1, by omega⟩
      obtain ⟨b, off, rfl, hb, hcell⟩ := hc (by omega)
      rw [hk] at h2 hcell ⊢
      refine check_last b off k cap N (bs[k]?.getD 0) false hN (by omega) (show _ = _ by rw [size_int, ← h1, hk]) (by rw [bne_iff_ne]; omega) w hb (hcell k (by omega)) ?_
      rw [pow_zero_iff, bne_eq_false_iff_eq]
      simpa using h2

theorem check_bad (s : Value) (bs : List Nat) (n : Int) (w : World) (hs : Sl w s bs) (hN : n ≤ 9223372036854775807) (hr : ¬ (0 ≤ n ∧ Bs.right bs n.toNat)) :
    Calls Try.prog 31 #[.agg #[s, .int .i64 n]] w fun e w' => e = .returned (.int .i64 2) ∧ Below w.heap.size w w' := by
  by_cases h0 : n < 0
  · exact check_neg s n h0 w
  · obtain ⟨N, rfl⟩ := Int.eq_ofNat_of_zero_le (show 0 ≤ n by omega)
    obtain ⟨a, len, cap, rfl, rfl, hl, hnil, h8, hc⟩ := hs
    by_cases h1 : bs.length = (N + 7) / 8
    · have h3 : ¬ N % 8 = 0 := fun h => hr ⟨by omega, by simpa using h1, Or.inl (by simpa using h)⟩
      obtain ⟨k, hk⟩ : ∃ k, bs.length = k + 1 := ⟨bs.length - 1, by omega⟩
      have h4 : ¬ (bs[bs.length - 1]?.getD 0) / 2 ^ (N % 8) = 0 := fun h => hr ⟨by omega, by simpa using h1, Or.inr (by simpa using h)⟩
      obtain ⟨b, off, rfl, hb, hcell⟩ := hc (by omega)
      rw [hk] at h4 hcell ⊢
      refine check_last b off k cap N (bs[k]?.getD 0) true (by omega) (by omega) (show _ = _ by rw [size_int, ← h1, hk]) (by rw [bne_iff_ne]; omega) w hb (hcell k (by omega)) ?_
      rw [pow_zero_iff, bne_iff_ne]
      simpa using h4
    · exact check_len a _ cap N _ (by omega) (show _ = _ from size_int N) (by rw [bne_iff_ne]; omega) w

end Go.Proofs.Ytgffcffmhhdceaa
