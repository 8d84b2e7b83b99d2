/- Contracts of lay and read: numbers in two and in four bytes. -/
import Derived.Test.YtillckjohlbaiaaMem
import Derived.Laws.ResultCell

namespace Go.Proofs.Ytillckjohlbaiaa
set_option maxRecDepth 100000
open Go.RowKit

theorem i64_or (x y : Nat) (hx : x < 9223372036854775808) (hy : y < 9223372036854775808) : bits BinOp.or IntKind.i64 (x : Int) (y : Int) = ((x ||| y : Nat) : Int) := by
  show IntKind.i64.wrap (((BitVec.ofInt 64 x ||| BitVec.ofInt 64 y).toNat : Nat) : Int) = _
  have h : x ||| y < 2 ^ 63 := Nat.or_lt_two_pow (by omega) (by omega)
  rw [BitVec.toNat_or, BitVec.toNat_ofInt, BitVec.toNat_ofInt]
  have e1 : ((x : Int) % ((2 ^ 64 : Nat) : Int)).toNat = x := by omega
  have e2 : ((y : Int) % ((2 ^ 64 : Nat) : Int)).toNat = y := by omega
  rw [e1, e2]
  exact IntWalk.i64_in _ (by omega)

/-- 'or' of a number and of one whose bits lie above it is the sum. -/
theorem i64_lay (k x y : Nat) (hx : x < 2 ^ k) (hk : k ≤ 32) (hy : y < 256) : bits BinOp.or IntKind.i64 (x : Int) ((y : Int) * ((2 ^ k : Nat) : Int)) = ((x + 2 ^ k * y : Nat) : Int) := by
  have h1 : 2 ^ k ≤ 2 ^ 32 := Nat.pow_le_pow_right (by omega) hk
  have h2 : y * 2 ^ k ≤ 255 * 2 ^ 32 := Nat.mul_le_mul (by omega) h1
  have e : ((y : Int) * ((2 ^ k : Nat) : Int)) = ((y * 2 ^ k : Nat) : Int) := by simp
  rw [e, i64_or x (y * 2 ^ k) (by omega) (by omega), Nat.or_comm, Nat.mul_comm, ← Nat.two_pow_add_eq_or_of_lt hx, Nat.add_comm]

set_option maxHeartbeats 1000000 in
theorem lay2_ok (n : Nat) (hn : n < 65536) (w : World) : Calls Try.prog 131 #[.int .i64 (n : Int)] w fun e w' => e = .returned (.tuple #[.agg #[.int .u8 ((n / 1 % 256 : Nat) : Int), .int .u8 ((n / 256 % 256 : Nat) : Int)], .int .i64 0]) ∧ Below w.heap.size w w' := by
  have h0 : (0 : Int) ≤ (n : Int) := by omega
  have hd : (((n : Int) / 65536) != 0) = false := by rw [bne_eq_false_iff_eq]; omega
  go_enter Try.func131, Try.ntmps131
  go_wp2
  refine wp_loop_rounds 3 ?_
  rw [rounds_succ]
  go_wp2
  rw [rounds_succ]
  go_wp2
  rw [rounds_succ]
  go_wp2
  (try simp only [Exit.inBlock, Exit.then])
  refine bodyPost_ret (v := .tuple #[.agg #[.int .u8 ((n / 1 % 256 : Nat) : Int), .int .u8 ((n / 256 % 256 : Nat) : Int)], .int .i64 0]) ?_ rfl ⟨rfl, below2 w _ _⟩
  rw [results_cell_tmp rfl]
  go_simp
  try omega

set_option maxHeartbeats 1000000 in
theorem lay2_bad (n : Int) (hn : n < 0 ∨ 65535 < n) (w : World) : Calls Try.prog 131 #[.int .i64 n] w fun e w' => e = .returned (.tuple #[.agg #[.int .u8 0, .int .u8 0], .int .i64 2]) ∧ Below w.heap.size w w' := by
  rcases hn with hn | hn
  · go_enter Try.func131, Try.ntmps131
    go_wp2
    (try simp only [Exit.inBlock, Exit.then])
    refine bodyPost_ret (v := .tuple #[.agg #[.int .u8 0, .int .u8 0], .int .i64 2]) ?_ rfl ⟨rfl, below2 w _ _⟩
    rw [results_cell_tmp rfl]
    go_simp
  · have h0 : (0 : Int) ≤ n := by omega
    have hd : ((n / 65536) != 0) = true := by rw [bne_iff_ne]; omega
    clear hn
    go_enter Try.func131, Try.ntmps131
    go_wp2
    (try simp only [Exit.inBlock, Exit.then])
    refine bodyPost_ret (v := .tuple #[.agg #[.int .u8 0, .int .u8 0], .int .i64 2]) ?_ rfl ⟨rfl, below2 w _ _⟩
    rw [results_cell_tmp rfl]
    go_simp

set_option maxHeartbeats 1000000 in
theorem read2_walk (a b : Nat) (ha : a < 256) (hb : b < 256) (w : World) : Calls Try.prog 134 #[.agg #[.int .u8 (a : Int), .int .u8 (b : Int)]] w fun e w' => e = .returned (.int .i64 ((a + 256 * b : Nat) : Int)) ∧ Below w.heap.size w w' := by
  have e0 : bits BinOp.or IntKind.i64 0 (a : Int) = (a : Int) := by
    have := i64_or 0 a (by omega) (by omega)
    rw [Nat.zero_or] at this
    exact this
  obtain ⟨x1, hx1⟩ : ∃ x : Nat, x = a + 256 * b := ⟨_, rfl⟩
  have e1 : bits BinOp.or IntKind.i64 (a : Int) ((b : Int) * 256) = (x1 : Int) := by rw [hx1]; exact i64_lay 8 a b (by omega) (by omega) hb
  have E : a + 256 * b = x1 := by omega
  rw [E]
  clear hx1 E
  go_enter Try.func134, Try.ntmps134
  go_wp2
  refine wp_loop_rounds 3 ?_
  rw [rounds_succ]
  go_wp2
  rw [rounds_succ]
  go_wp2
  rw [rounds_succ]
  go_wp2
  go_ret
  exact ⟨rfl, below1 w _⟩

set_option maxHeartbeats 1000000 in
theorem lay4_ok (n : Nat) (hn : n < 4294967296) (w : World) : Calls Try.prog 133 #[.int .i64 (n : Int)] w fun e w' => e = .returned (.tuple #[.agg #[.int .u8 ((n / 1 % 256 : Nat) : Int), .int .u8 ((n / 256 % 256 : Nat) : Int), .int .u8 ((n / 65536 % 256 : Nat) : Int), .int .u8 ((n / 16777216 % 256 : Nat) : Int)], .int .i64 0]) ∧ Below w.heap.size w w' := by
  have h0 : (0 : Int) ≤ (n : Int) := by omega
  have hd : (((n : Int) / 4294967296) != 0) = false := by rw [bne_eq_false_iff_eq]; omega
  go_enter Try.func133, Try.ntmps133
  go_wp2
  refine wp_loop_rounds 5 ?_
  rw [rounds_succ]
  go_wp2
  rw [rounds_succ]
  go_wp2
  rw [rounds_succ]
  go_wp2
  rw [rounds_succ]
  go_wp2
  rw [rounds_succ]
  go_wp2
  (try simp only [Exit.inBlock, Exit.then])
  refine bodyPost_ret (v := .tuple #[.agg #[.int .u8 ((n / 1 % 256 : Nat) : Int), .int .u8 ((n / 256 % 256 : Nat) : Int), .int .u8 ((n / 65536 % 256 : Nat) : Int), .int .u8 ((n / 16777216 % 256 : Nat) : Int)], .int .i64 0]) ?_ rfl ⟨rfl, below2 w _ _⟩
  rw [results_cell_tmp rfl]
  go_simp
  try omega

set_option maxHeartbeats 1000000 in
theorem lay4_bad (n : Int) (hn : n < 0 ∨ 4294967295 < n) (w : World) : Calls Try.prog 133 #[.int .i64 n] w fun e w' => e = .returned (.tuple #[.agg #[.int .u8 0, .int .u8 0, .int .u8 0, .int .u8 0], .int .i64 2]) ∧ Below w.heap.size w w' := by
  rcases hn with hn | hn
  · go_enter Try.func133, Try.ntmps133
    go_wp2
    (try simp only [Exit.inBlock, Exit.then])
    refine bodyPost_ret (v := .tuple #[.agg #[.int .u8 0, .int .u8 0, .int .u8 0, .int .u8 0], .int .i64 2]) ?_ rfl ⟨rfl, below2 w _ _⟩
    rw [results_cell_tmp rfl]
    go_simp
  · have h0 : (0 : Int) ≤ n := by omega
    have hd : ((n / 4294967296) != 0) = true := by rw [bne_iff_ne]; omega
    clear hn
    go_enter Try.func133, Try.ntmps133
    go_wp2
    (try simp only [Exit.inBlock, Exit.then])
    refine bodyPost_ret (v := .tuple #[.agg #[.int .u8 0, .int .u8 0, .int .u8 0, .int .u8 0], .int .i64 2]) ?_ rfl ⟨rfl, below2 w _ _⟩
    rw [results_cell_tmp rfl]
    go_simp

set_option maxHeartbeats 1000000 in
theorem read4_walk (a b c d : Nat) (ha : a < 256) (hb : b < 256) (hc : c < 256) (hd : d < 256) (w : World) : Calls Try.prog 128 #[.agg #[.int .u8 (a : Int), .int .u8 (b : Int), .int .u8 (c : Int), .int .u8 (d : Int)]] w fun e w' => e = .returned (.int .i64 ((a + 256 * b + 65536 * c + 16777216 * d : Nat) : Int)) ∧ Below w.heap.size w w' := by
  have e0 : bits BinOp.or IntKind.i64 0 (a : Int) = (a : Int) := by
    have := i64_or 0 a (by omega) (by omega)
    rw [Nat.zero_or] at this
    exact this
  obtain ⟨x1, hx1⟩ : ∃ x : Nat, x = a + 256 * b := ⟨_, rfl⟩
  have e1 : bits BinOp.or IntKind.i64 (a : Int) ((b : Int) * 256) = (x1 : Int) := by rw [hx1]; exact i64_lay 8 a b (by omega) (by omega) hb
  obtain ⟨x2, hx2⟩ : ∃ x : Nat, x = x1 + 65536 * c := ⟨_, rfl⟩
  have e2 : bits BinOp.or IntKind.i64 (x1 : Int) ((c : Int) * 65536) = (x2 : Int) := by rw [hx2]; exact i64_lay 16 x1 c (by omega) (by omega) hc
  obtain ⟨x3, hx3⟩ : ∃ x : Nat, x = x2 + 16777216 * d := ⟨_, rfl⟩
  have e3 : bits BinOp.or IntKind.i64 (x2 : Int) ((d : Int) * 16777216) = (x3 : Int) := by rw [hx3]; exact i64_lay 24 x2 d (by omega) (by omega) hd
  have E : a + 256 * b + 65536 * c + 16777216 * d = x3 := by omega
  rw [E]
  clear hx1 hx2 hx3 E
  go_enter Try.func128, Try.ntmps128
  go_wp2
  refine wp_loop_rounds 5 ?_
  rw [rounds_succ]
  go_wp2
  rw [rounds_succ]
  go_wp2
  rw [rounds_succ]
  go_wp2
  rw [rounds_succ]
  go_wp2
  rw [rounds_succ]
  go_wp2
  go_ret
  exact ⟨rfl, below1 w _⟩

end Go.Proofs.Ytillckjohlbaiaa
