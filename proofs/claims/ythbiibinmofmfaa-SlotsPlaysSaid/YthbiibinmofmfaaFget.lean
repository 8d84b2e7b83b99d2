/- Contracts of lay and read: numbers in two and in four bytes. -/
import Derived.Test.YthbiibinmofmfaaEstr
import Derived.Test.YthbiibinmofmfaaFcut
import Derived.Laws.ResultCell

namespace Go.Proofs.Ythbiibinmofmfaa
set_option maxRecDepth 100000
open Go.RowKit

theorem i64_or (x y : Nat) (hx : x < 9223372036854775808) (hy : y < 9223372036854775808) : bits BinOp.or IntKind.i64 (x : Int) (y : Int) = ((x ||| y : Nat) : Int) := by
  show IntKind.i64.wrap (((BitVec.ofInt 64 x ||| BitVec.ofInt 64 y).toNat : Nat) : Int) = _
  have h : x ||| y < 2 ^ 63 := Nat.or_lt_two_pow (by omega) (by omega)
  rw [BitVec.toNat_or, BitVec.toNat_ofInt, BitVec.toNat_ofInt]
  have e1 : ((x : Int) % ((2 ^ 64 : Nat) : Int)).toNat = x := by omega
  have e2 : ((y : Int) % ((2 ^ 64 : Nat) : Int)).toNat = y := by omega
  rw [e1, e2]
  exact IntWalk.i64_in _ (by omega)

/-- 'or' of a number and of one whose bits lie above it is the sum. -/
theorem i64_lay (k x y : Nat) (hx : x < 2 ^ k) (hk : k ≤ 32) (hy : y < 256) : bits BinOp.or IntKind.i64 (x : Int) ((y : Int) * ((2 ^ k : Nat) : Int)) = ((x + 2 ^ k * y : Nat) : Int) := by
  have h1 : 2 ^ k ≤ 2 ^ 32 := Nat.pow_le_pow_right (by omega) hk
  have h2 : y * 2 ^ k ≤ 255 * 2 ^ 32 := Nat.mul_le_mul (by omega) h1
  have e : ((y : Int) * ((2 ^ k : Nat) : Int)) = ((y * 2 ^ k : Nat) : Int) := by simp
  rw [e, i64_or x (y * 2 ^ k) (by omega) (by omega), Nat.or_comm, Nat.mul_comm, ← Nat.two_pow_add_eq_or_of_lt hx, Nat.add_comm]

set_option maxHeartbeats 1000000 in
theorem lay4_ok (n : Nat) (hn : n < 4294967296) (w : World) : Calls Try.prog 80 #[.int .i64 (n : Int)] w fun e w' => e = .returned (.tuple #[.agg #[.int .u8 ((n / 1 % 256 : Nat) : Int), .int .u8 ((n / 256 % 256 : Nat) : Int), .int .u8 ((n / 65536 % 256 : Nat) : Int), .int .u8 ((n / 16777216 % 256 : Nat) : Int)], .int .i64 0]) ∧ Below w.heap.size w w' := by
  have h0 : (0 : Int) ≤ (n : Int) := by omega
  have hd : (((n : Int) / 4294967296) != 0) = false := by rw [bne_eq_false_iff_eq]; omega
  go_enter Try.func80, Try.ntmps80
  go_wp2
  refine wp_loop_rounds 5 ?_
  rw [rounds_succ]
  go_wp2
  rw [rounds_succ]
  go_wp2
  rw [rounds_succ]
  go_wp2
  rw [rounds_succ]
  go_wp2
  rw [rounds_succ]
  go_wp2
  (try simp only [Exit.inBlock, Exit.then])
  refine bodyPost_ret (v := .tuple #[.agg #[.int .u8 ((n / 1 % 256 : Nat) : Int), .int .u8 ((n / 256 % 256 : Nat) : Int), .int .u8 ((n / 65536 % 256 : Nat) : Int), .int .u8 ((n / 16777216 % 256 : Nat) : Int)], .int .i64 0]) ?_ rfl ⟨rfl, below2 w _ _⟩
  rw [results_cell_tmp rfl]
  go_simp
  try omega

set_option maxHeartbeats 1000000 in
theorem lay4_bad (n : Int) (hn : n < 0 ∨ 4294967295 < n) (w : World) : Calls Try.prog 80 #[.int .i64 n] w fun e w' => e = .returned (.tuple #[.agg #[.int .u8 0, .int .u8 0, .int .u8 0, .int .u8 0], .int .i64 2]) ∧ Below w.heap.size w w' := by
  rcases hn with hn | hn
  · go_enter Try.func80, Try.ntmps80
    go_wp2
    (try simp only [Exit.inBlock, Exit.then])
    refine bodyPost_ret (v := .tuple #[.agg #[.int .u8 0, .int .u8 0, .int .u8 0, .int .u8 0], .int .i64 2]) ?_ rfl ⟨rfl, below2 w _ _⟩
    rw [results_cell_tmp rfl]
    go_simp
  · have h0 : (0 : Int) ≤ n := by omega
    have hd : ((n / 4294967296) != 0) = true := by rw [bne_iff_ne]; omega
    clear hn
    go_enter Try.func80, Try.ntmps80
    go_wp2
    (try simp only [Exit.inBlock, Exit.then])
    refine bodyPost_ret (v := .tuple #[.agg #[.int .u8 0, .int .u8 0, .int .u8 0, .int .u8 0], .int .i64 2]) ?_ rfl ⟨rfl, below2 w _ _⟩
    rw [results_cell_tmp rfl]
    go_simp

set_option maxHeartbeats 1000000 in
theorem read4_walk (a b c d : Nat) (ha : a < 256) (hb : b < 256) (hc : c < 256) (hd : d < 256) (w : World) : Calls Try.prog 75 #[.agg #[.int .u8 (a : Int), .int .u8 (b : Int), .int .u8 (c : Int), .int .u8 (d : Int)]] w fun e w' => e = .returned (.int .i64 ((a + 256 * b + 65536 * c + 16777216 * d : Nat) : Int)) ∧ Below w.heap.size w w' := by
  have e0 : bits BinOp.or IntKind.i64 0 (a : Int) = (a : Int) := by
    have := i64_or 0 a (by omega) (by omega)
    rw [Nat.zero_or] at this
    exact this
  obtain ⟨x1, hx1⟩ : ∃ x : Nat, x = a + 256 * b := ⟨_, rfl⟩
  have e1 : bits BinOp.or IntKind.i64 (a : Int) ((b : Int) * 256) = (x1 : Int) := by rw [hx1]; exact i64_lay 8 a b (by omega) (by omega) hb
  obtain ⟨x2, hx2⟩ : ∃ x : Nat, x = x1 + 65536 * c := ⟨_, rfl⟩
  have e2 : bits BinOp.or IntKind.i64 (x1 : Int) ((c : Int) * 65536) = (x2 : Int) := by rw [hx2]; exact i64_lay 16 x1 c (by omega) (by omega) hc
  obtain ⟨x3, hx3⟩ : ∃ x : Nat, x = x2 + 16777216 * d := ⟨_, rfl⟩
  have e3 : bits BinOp.or IntKind.i64 (x2 : Int) ((d : Int) * 16777216) = (x3 : Int) := by rw [hx3]; exact i64_lay 24 x2 d (by omega) (by omega) hd
  have E : a + 256 * b + 65536 * c + 16777216 * d = x3 := by omega
  rw [E]
  clear hx1 hx2 hx3 E
  go_enter Try.func75, Try.ntmps75
  go_wp2
  refine wp_loop_rounds 5 ?_
  rw [rounds_succ]
  go_wp2
  rw [rounds_succ]
  go_wp2
  rw [rounds_succ]
  go_wp2
  rw [rounds_succ]
  go_wp2
  rw [rounds_succ]
  go_wp2
  go_ret
  exact ⟨rfl, below1 w _⟩

end Go.Proofs.Ythbiibinmofmfaa

/- Contracts of Piece, Get2, Get4, Put2, Put4. -/
namespace Go.Proofs.Ythbiibinmofmfaa
set_option maxRecDepth 100000
open Go.RowKit

theorem Mine.weaken {w : World} {B B' : Nat} {a : Option Addr} {n cap : Nat} {l : List Nat} (h : Mine w B a n cap l) (hB : B' ≤ B) : Mine w B' a n cap l := by
  obtain ⟨⟨h1, h2⟩, h3⟩ := h
  refine ⟨⟨h1, ?_⟩, h3⟩
  rcases h2 with h | ⟨g, c, cur, h, hb, r⟩
  · exact Or.inl h
  · exact Or.inr ⟨g, c, cur, h, Nat.le_trans hB hb, r⟩

set_option maxHeartbeats 1000000 in
theorem get4_bad (a : Option Addr) (len cap : Nat) (i : Int) (h : i < 0 ∨ (len : Int) < i) (w : World) :
    Calls Try.prog 66 #[.slice a len cap, .int .i64 i] w fun e w' => e = .returned (.tuple #[.int .i64 0, .int .i64 2]) ∧ w = w' := by
  have H := Lib.hid h
  clear h
  go_enter Try.func66, Try.ntmps66
  go_wp2_with fail
  refine (cut_bad a len cap i 4 (H.out.elim Or.inl (fun h => Or.inr (Or.inl h))) _).mono ?_
  rintro e w2 ⟨rfl, rfl⟩
  go_wp2
  go_ret2
  exact ⟨rfl, rfl⟩

set_option maxHeartbeats 1000000 in
theorem get4_short (a : Option Addr) (len cap : Nat) (i : Int) (hl : len ≤ 281474976710656) (h0 : 0 ≤ i) (h1 : i ≤ (len : Int)) (h2 : (len : Int) - i < 4) (w : World) :
    Calls Try.prog 66 #[.slice a len cap, .int .i64 i] w fun e w' => e = .returned (.tuple #[.int .i64 0, .int .i64 4]) ∧ w = w' := by
  go_enter Try.func66, Try.ntmps66
  go_wp2_with fail
  refine (cut_short a len cap i 4 hl h0 h1 h2 _).mono ?_
  rintro e w2 ⟨rfl, rfl⟩
  go_wp2
  go_ret2
  exact ⟨rfl, rfl⟩

set_option maxHeartbeats 1000000 in
theorem get4_ok (a : Option Addr) (len cap : Nat) (bs : List Nat) (i x y z u : Nat) (h : i + 4 ≤ len) (hc : len ≤ cap) (hx : (bs.drop i).take 4 = [x, y, z, u]) (w : World) (hs : Sl w (.slice a len cap) bs) :
    Calls Try.prog 66 #[.slice a len cap, .int .i64 (i : Int)] w fun e w' => e = .returned (.tuple #[.int .i64 ((x + 256 * y + 65536 * z + 16777216 * u : Nat) : Int), .int .i64 0]) ∧ Below w.heap.size w w' := by
  have HS := Lib.hid hs
  have HX := Lib.hid hx
  clear hs hx
  obtain ⟨v, hv⟩ : ∃ v : Nat, x + 256 * y + 65536 * z + 16777216 * u = v := ⟨_, rfl⟩
  rw [hv]
  have HV := Lib.hid hv
  clear hv
  go_enter Try.func66, Try.ntmps66
  go_wp2_with fail
  refine (cut_ok a len cap bs i 4 h hc _ HS.out).mono ?_
  rintro e w2 ⟨a', rfl, hs2, rfl⟩
  rw [HX.out] at hs2
  have h8 := hs2.bytes
  obtain ⟨a'', len', cap', he, _, _, _, _, hcell⟩ := hs2
  injection he with e1 e2 e3
  subst e1 e2 e3
  obtain ⟨b, off, rfl, hlt, hcl⟩ := hcell (by omega)
  have c0 : w.cell? ⟨b, off, none⟩ = some (.int .u8 (x : Int)) := hcl 0 (by omega)
  have c1 : w.cell? ⟨b, off + 1, none⟩ = some (.int .u8 (y : Int)) := hcl 1 (by omega)
  have c2 : w.cell? ⟨b, off + 2, none⟩ = some (.int .u8 (z : Int)) := hcl 2 (by omega)
  have c3 : w.cell? ⟨b, off + 3, none⟩ = some (.int .u8 (u : Int)) := hcl 3 (by omega)
  have Hx8 := Lib.hid (h8 x (by simp))
  have Hy8 := Lib.hid (h8 y (by simp))
  have Hz8 := Lib.hid (h8 z (by simp))
  have Hu8 := Lib.hid (h8 u (by simp))
  clear hcell hcl h8
  have ha : ∀ W, (Instr.arrayAt 131 (.slice (some ⟨b, off, none⟩) 4 4)).run Try.prog W = .ok (.pointer (some ⟨b, off, none⟩)) W := fun W => run_arrayAt W 131 5 4 _ 4 4 Try.underlying131 (by decide)
  go_wp2_with fail
  refine (read4_walk x y z u Hx8.out Hy8.out Hz8.out Hu8.out _).mono ?_
  rintro e w2 ⟨rfl, hb⟩
  rw [HV.out]
  have HB := Lib.hid hb
  clear hb
  go_wp2
  go_ret2
  exact ⟨rfl, HB.out⟩

set_option maxHeartbeats 1000000 in
theorem put4_bad (a : Option Addr) (len cap : Nat) (n : Int) (h : n < 0 ∨ 4294967295 < n) (w : World) :
    Calls Try.prog 79 #[.slice a len cap, .int .i64 n] w fun e w' => e = .returned (.tuple #[.slice none 0 0, .int .i64 2]) ∧ Below w.heap.size w w' := by
  have H := Lib.hid h
  clear h
  go_enter Try.func79, Try.ntmps79
  go_wp2_with fail
  refine (lay4_bad n H.out _).mono ?_
  rintro e w2 ⟨rfl, hb⟩
  have HB := Lib.hid hb
  clear hb
  go_wp2
  go_ret2
  exact ⟨rfl, HB.out.trans ((below1 w2 _).mono HB.out.size)⟩

theorem cells4 (w : World) (x y z u : Nat) (h : ∀ b ∈ [x, y, z, u], b < 256) : Sl (w.alloc (.cells #[.int .u8 (x : Int), .int .u8 (y : Int), .int .u8 (z : Int), .int .u8 (u : Int)] 131)) (.slice (some ⟨w.heap.size, 0, none⟩) 4 4) [x, y, z, u] := by
  have hh := Has.new w (.cells #[.int .u8 (x : Int), .int .u8 (y : Int), .int .u8 (z : Int), .int .u8 (u : Int)] 131)
  refine ⟨_, 4, 4, rfl, rfl, by omega, fun h => by simp at h, h, fun _ => ⟨w.heap.size, 0, rfl, hh.lt, fun i hi => ?_⟩⟩
  rw [Nat.zero_add, hh.cell]
  match i, hi with
  | 0, _ => rfl
  | 1, _ => rfl
  | 2, _ => rfl
  | 3, _ => rfl

set_option maxHeartbeats 1000000 in
theorem put4_ok (a : Option Addr) (len cap : Nat) (bs : List Nat) (n : Nat) (hn : n < 4294967296) (hc : len ≤ cap) (hl : len + 4 ≤ 140737488355328) (w : World) (hs : Sl w (.slice a len cap) bs) :
    Calls Try.prog 79 #[.slice a len cap, .int .i64 (n : Int)] w fun e w' => ∃ a' cap', e = .returned (.tuple #[.slice a' (len + 4) cap', .int .i64 0]) ∧ Mine w' w.heap.size a' (len + 4) cap' (bs ++ [n / 1 % 256, n / 256 % 256, n / 65536 % 256, n / 16777216 % 256]) ∧ Below w.heap.size w w' := by
  have HS := Lib.hid hs
  clear hs
  obtain ⟨x, hx⟩ : ∃ x, x = n / 1 % 256 := ⟨_, rfl⟩
  obtain ⟨y, hy⟩ : ∃ y, y = n / 256 % 256 := ⟨_, rfl⟩
  obtain ⟨z, hz⟩ : ∃ z, z = n / 65536 % 256 := ⟨_, rfl⟩
  obtain ⟨u, hu⟩ : ∃ u, u = n / 16777216 % 256 := ⟨_, rfl⟩
  have h8 : ∀ b ∈ [x, y, z, u], b < 256 := by
    intro b hb
    simp only [List.mem_cons, List.not_mem_nil, or_false] at hb
    rcases hb with rfl | rfl | rfl | rfl
    all_goals omega
  have H8 := Lib.hid h8
  have HL := Lib.hid (lay4_ok n hn)
  rw [← hx, ← hy, ← hz, ← hu]
  rw [← hx, ← hy, ← hz, ← hu] at HL
  clear h8 hx hy hz hu
  go_enter Try.func79, Try.ntmps79
  go_wp2_with fail
  refine (HL.out _).mono ?_
  rintro e w2 ⟨rfl, hb⟩
  have HB := Lib.hid (hb.trans ((below1 w2 (.cells #[.int .u8 (x : Int), .int .u8 (y : Int), .int .u8 (z : Int), .int .u8 (u : Int)] 131)).mono hb.size))
  have S2 := Lib.hid (HS.out.later HB.out)
  have T2 := Lib.hid (cells4 w2 x y z u H8.out)
  clear hb HL
  go_wp2_with fail
  refine (behind_walk a len cap bs w2.heap.size 4 [x, y, z, u] _ S2.out hc T2.out (by omega) hl).mono ?_
  rintro e w3 ⟨a3, cap3, rfl, hm, hb⟩
  have HM := Lib.hid hm
  have HB3 := Lib.hid (HB.out.trans (hb.mono HB.out.size))
  have HZ := Lib.hid HB.out.size
  clear hm hb
  go_wp2
  go_ret2
  exact ⟨_, _, rfl, HM.out.weaken HZ.out, HB3.out⟩

end Go.Proofs.Ythbiibinmofmfaa
