/- Contracts of the document's functions on rows: Right, Check, Bit, Get, With, Copy, Put, Same. -/
import Derived.Test.YtgffcffmhhdceaaHturn
namespace Go.Proofs.Ytgffcffmhhdceaa
open Go.RowKit

set_option maxHeartbeats 400000 in
theorem right_neg (s : Value) (n : Int) (h : n < 0) (w : World) :
    Calls Try.prog 34 #[.agg #[s, .int .i64 n]] w fun e w' => e = .returned (.bool false) ∧ Below w.heap.size w w' := by
  have hd : decide (n < 0) = true := by simpa using h
  go_enter Try.func34, Try.ntmps34
  go_wp2
  go_ret
  exact ⟨rfl, below1 _ _⟩

set_option maxHeartbeats 400000 in
theorem right_len (a : Option Addr) (len cap N : Nat) (h2 : N ≤ 9223372036854775807) (hne : ((len : Int) != (N : Int) / 8 + ((N : Int) % 8 + 7) / 8) = true) (w : World) :
    Calls Try.prog 34 #[.agg #[.slice a len cap, .int .i64 N]] w fun e w' => e = .returned (.bool false) ∧ Below w.heap.size w w' := by
  have hd : decide ((N : Int) < 0) = false := by simp
  go_enter Try.func34, Try.ntmps34
  go_wp2
  go_ret
  exact ⟨rfl, below1 _ _⟩

set_option maxHeartbeats 400000 in
theorem right_whole (a : Option Addr) (len cap N : Nat) (h2 : N ≤ 9223372036854775807) (heq : ((len : Int) != (N : Int) / 8 + ((N : Int) % 8 + 7) / 8) = false) (h0 : ((N : Int) % 8 == 0) = true) (w : World) :
    Calls Try.prog 34 #[.agg #[.slice a len cap, .int .i64 N]] w fun e w' => e = .returned (.bool true) ∧ Below w.heap.size w w' := by
  have hd : decide ((N : Int) < 0) = false := by simp
  go_enter Try.func34, Try.ntmps34
  go_wp2
  go_quiet (fail)
  go_wp2
  go_ret
  exact ⟨rfl, below_drewN (below1 _ _) _⟩

set_option maxHeartbeats 400000 in
theorem right_last (b off len cap N : Nat) (x : Nat) (z : Bool) (h2 : N ≤ 9223372036854775807) (hl : len + 1 ≤ 281474976710656) (heq : (((len : Int) + 1) != (N : Int) / 8 + ((N : Int) % 8 + 7) / 8) = false) (h0 : ((N : Int) % 8 == 0) = false)
    (w : World) (hb : b < w.heap.size) (hc : w.cell? ⟨b, off + len, none⟩ = some (.int .u8 (x : Int))) (hx : ((x : Int) / 2 ^ (N % 8) == 0) = z) :
    Calls Try.prog 34 #[.agg #[.slice (some ⟨b, off, none⟩) (len + 1) cap, .int .i64 N]] w fun e w' => e = .returned (.bool z) ∧ Below w.heap.size w w' := by
  have hd : decide ((N : Int) < 0) = false := by simp
  cases z
  all_goals
    go_enter Try.func34, Try.ntmps34
    go_wp2
    go_quiet (fail)
    go_wp2
    go_ret
    exact ⟨rfl, below_drewN (below1 _ _) _⟩

theorem size_ne (len N : Nat) : ((len : Int) != (N : Int) / 8 + ((N : Int) % 8 + 7) / 8) = (len != (N + 7) / 8) := by
  rw [size_int, Bool.eq_iff_iff, bne_iff_ne, bne_iff_ne]; omega

theorem pow_zero_iff' (x k : Nat) : ((x : Int) / 2 ^ k == 0) = (x / 2 ^ k == 0) := by
  have e : ((x : Int) / 2 ^ k) = ((x / 2 ^ k : Nat) : Int) := by simp
  rw [e, Bool.eq_iff_iff, beq_iff_eq, beq_iff_eq]
  omega

theorem rright_ok (s : Value) (bs : List Nat) (N : Nat) (w : World) (hs : Sl w s bs) (hN : N ≤ 9223372036854775807) (hr : Bs.right bs N) :
    Calls Try.prog 34 #[.agg #[s, .int .i64 N]] w fun e w' => e = .returned (.bool true) ∧ Below w.heap.size w w' := by
  obtain ⟨a, len, cap, rfl, rfl, hl, hnil, h8, hc⟩ := hs
  obtain ⟨h1, h2⟩ := hr
  by_cases h0 : N % 8 = 0
  · exact right_whole a _ cap N hN (by rw [size_ne, h1, bne_eq_false_iff_eq]) (by rw [beq_iff_eq]; omega) w
  · rcases h2 with h2 | h2
    · exact absurd h2 h0
    · obtain ⟨k, hk⟩ : ∃ k, bs.length = k + 1 := ⟨bs.length - 1, by omega⟩
      obtain ⟨b, off, rfl, hb, hcell⟩ := hc (by omega)
      have hne := size_ne bs.length N
      rw [hk] at h2 hcell hne ⊢
      refine right_last b off k cap N (bs[k]?.getD 0) true hN (by omega) (hne.trans (by rw [bne_eq_false_iff_eq]; omega)) (by rw [beq_eq_false_iff_ne]; omega) w hb (hcell k (by omega)) ?_
      rw [pow_zero_iff', beq_iff_eq]
      simpa using h2

theorem rright_bad (s : Value) (bs : List Nat) (n : Int) (w : World) (hs : Sl w s bs) (hN : n ≤ 9223372036854775807) (hr : ¬ (0 ≤ n ∧ Bs.right bs n.toNat)) :
    Calls Try.prog 34 #[.agg #[s, .int .i64 n]] w fun e w' => e = .returned (.bool false) ∧ Below w.heap.size w w' := by
  by_cases h0 : n < 0
  · exact right_neg s n h0 w
  · obtain ⟨N, rfl⟩ := Int.eq_ofNat_of_zero_le (show 0 ≤ n by omega)
    obtain ⟨a, len, cap, rfl, rfl, hl, hnil, h8, hc⟩ := hs
    by_cases h1 : bs.length = (N + 7) / 8
    · have h3 : ¬ N % 8 = 0 := fun h => hr ⟨by omega, by simpa using h1, Or.inl (by simpa using h)⟩
      obtain ⟨k, hk⟩ : ∃ k, bs.length = k + 1 := ⟨bs.length - 1, by omega⟩
      have h4 : ¬ (bs[bs.length - 1]?.getD 0) / 2 ^ (N % 8) = 0 := fun h => hr ⟨by omega, by simpa using h1, Or.inr (by simpa using h)⟩
      obtain ⟨b, off, rfl, hb, hcell⟩ := hc (by omega)
      have hne := size_ne bs.length N
      rw [hk] at h4 hcell hne ⊢
      refine right_last b off k cap N (bs[k]?.getD 0) false (by omega) (by omega) (hne.trans (by rw [bne_eq_false_iff_eq]; omega)) (by rw [beq_eq_false_iff_ne]; omega) w hb (hcell k (by omega)) ?_
      rw [pow_zero_iff', beq_eq_false_iff_ne]
      simpa using h4
    · exact right_len a _ cap N (by omega) (by rw [size_ne, bne_iff_ne]; omega) w

theorem rright_is (s : Value) (bs : List Nat) (n : Int) (z : Bool) (w : World) (hs : Sl w s bs) (hN : n ≤ 9223372036854775807) (hz : Hid (z = true ↔ (0 ≤ n ∧ Bs.right bs n.toNat))) :
    Calls Try.prog 34 #[.agg #[s, .int .i64 n]] w fun e w' => e = .returned (.bool z) ∧ Below w.heap.size w w' := by
  cases z
  · exact rright_bad s bs n w hs hN fun h => by simpa using hz.out.2 h
  · obtain ⟨h1, h2⟩ := hz.out.1 rfl
    obtain ⟨N, rfl⟩ := Int.eq_ofNat_of_zero_le h1
    exact rright_ok s bs N w hs (by omega) h2

set_option maxHeartbeats 400000 in
theorem rbit_walk (b off len cap k N : Nat) (x : Nat) (w : World) (hb : b < w.heap.size) (hk : k / 8 < len) (hx : x < 256) (hc : w.cell? ⟨b, off + k / 8, none⟩ = some (.int .u8 (x : Int))) (h8 : k < 2251799813685248) :
    Calls Try.prog 41 #[.agg #[.slice (some ⟨b, off, none⟩) len cap, .int .i64 N], .int .i64 k] w fun e w' => e = .returned (.int .i64 (((x.testBit (k % 8)).toNat : Nat) : Int)) ∧ Below w.heap.size w w' := by
  have hbit := bit_int x (k % 8)
  go_enter Try.func41, Try.ntmps41
  go_wp2
  go_ret
  refine ⟨ret_int ?_, below1 _ _⟩
  have hq : x / 2 ^ (k % 8) < 256 := Nat.lt_of_le_of_lt (Nat.div_le_self _ _) hx
  have e : ((x : Int) / 2 ^ (k % 8)) = ((x / 2 ^ (k % 8) : Nat) : Int) := by simp
  generalize x / 2 ^ (k % 8) = q at hq e
  rw [i64_and1, e, IntWalk.wrap64_in _ (by omega), ← e]
  exact hbit

theorem rbit_row (s : Value) (l : List Bool) (k N : Nat) (w : World) (hs : Sl w s (Bs.pack l)) (hk : k < l.length) (_h8 : l.length ≤ 2251799813685248) :
    Calls Try.prog 41 #[.agg #[s, .int .i64 (N : Int)], .int .i64 (k : Int)] w fun e w' => e = .returned (.int .i64 ((l[k]?.getD false).toNat : Int)) ∧ Below w.heap.size w w' := by
  obtain ⟨a, len, cap, rfl, hl, h2, h3, h4, h5⟩ := hs
  have hl' : len = (l.length + 7) / 8 := by rw [hl, Bs.pack_length]
  obtain ⟨b, off, rfl, hlt, hc⟩ := h5 (by omega)
  have e := Bs.packTo_get ((l.length + 7) / 8) l (k / 8) (by omega)
  have hx := Bs.byteAt_lt l (k / 8)
  have hc' := hc (k / 8) (by omega)
  unfold Bs.pack at hc'
  rw [e] at hc'
  refine (rbit_walk b off len cap k N _ w hlt (by omega) hx hc' (by omega)).mono ?_
  rintro e w' ⟨rfl, hb⟩
  refine ⟨?_, hb⟩
  rw [Bs.testBit_byteAt]
  have h8 : k % 8 < 8 := by omega
  have h9 : 8 * (k / 8) + k % 8 = k := by omega
  rw [h9]
  simp [h8]

theorem rbit_is (s : Value) (l : List Bool) (q : Int) (k N : Nat) (b : Bool) (w : World) (hs : Sl w s (Bs.pack l)) (hq : Hid (q = (k : Int))) (hb : Hid (b = l[k]?.getD false)) (hk : k < l.length) (h8 : l.length ≤ 2251799813685248) :
    Calls Try.prog 41 #[.agg #[s, .int .i64 (N : Int)], .int .i64 q] w fun e w' => e = .returned (.int .i64 (b.toNat : Int)) ∧ Below w.heap.size w w' := by
  rw [hq.out, hb.out]
  exact rbit_row s l k N w hs hk h8

end Go.Proofs.Ytgffcffmhhdceaa
