/- Contracts of cut, bytes.Clone and behind. -/
import Derived.Test.YtillckjohlbaiaaCapp
import Derived.Test.YtillckjohlbaiaaEstr
import Derived.ArgAppend
import Derived.Laws.Cover3
import Derived.Laws.ResultCell

namespace Go.Proofs.Ytillckjohlbaiaa
set_option maxRecDepth 100000
open Go.RowKit

/-- Bytes in memory of the call's own. -/
def Mine (w : World) (B : Nat) (a : Option Addr) (n cap : Nat) (l : List Nat) : Prop := w.ownsRow B 5 1 (.slice a n cap) n (vb l) ∧ n = l.length ∧ ∀ x ∈ l, x < 256

theorem Mine.sl {w : World} {B : Nat} {a : Option Addr} {n cap : Nat} {l : List Nat} (h : Mine w B a n cap l) (hn : n ≤ 281474976710656) : Sl w (.slice a n cap) l := Sl.owned h.1 h.2.2 hn

theorem Sl.bytes {w : World} {s : Value} {bs : List Nat} (h : Sl w s bs) : ∀ x ∈ bs, x < 256 := h.facts.1

set_option maxHeartbeats 1000000 in
theorem cut_bad (a : Option Addr) (len cap : Nat) (i k : Int) (h : i < 0 ∨ (len : Int) < i ∨ k < 0) (w : World) :
    Calls Try.prog 121 #[.slice a len cap, .int .i64 i, .int .i64 k] w fun e w' => e = .returned (.tuple #[.slice none 0 0, .int .i64 2]) ∧ w = w' := by
  have hd : ((decide (i < 0) || decide ((len : Int) < i)) || decide (k < 0)) = true := by simpa [Bool.or_eq_true, or_assoc] using h
  by_cases h0 : i < 0
  · go_enter Try.func121, Try.ntmps121
    go_wp2
    go_ret2
    exact ⟨rfl, rfl⟩
  · by_cases h1 : (len : Int) < i
    · go_enter Try.func121, Try.ntmps121
      go_wp2
      go_ret2
      exact ⟨rfl, rfl⟩
    · have h2 : k < 0 := by omega
      go_enter Try.func121, Try.ntmps121
      go_wp2
      go_ret2
      exact ⟨rfl, rfl⟩

set_option maxHeartbeats 1000000 in
theorem cut_short (a : Option Addr) (len cap : Nat) (i k : Int) (hl : len ≤ 281474976710656) (h0 : 0 ≤ i) (h1 : i ≤ (len : Int)) (h2 : (len : Int) - i < k) (w : World) :
    Calls Try.prog 121 #[.slice a len cap, .int .i64 i, .int .i64 k] w fun e w' => e = .returned (.tuple #[.slice none 0 0, .int .i64 4]) ∧ w = w' := by
  have h3 : IntKind.i64.wrap ((len : Int) - i) = (len : Int) - i := IntWalk.i64_in _ (by omega)
  have h4 : 0 ≤ k := by omega
  go_enter Try.func121, Try.ntmps121
  go_wp2
  go_ret2
  exact ⟨rfl, rfl⟩

theorem Sl.cut {w : World} {a : Option Addr} {len cap : Nat} {bs : List Nat} (h : Sl w (.slice a len cap) bs) (i k : Nat) (hik : i + k ≤ len) (hk : k ≠ 0) (c : Nat) :
    Sl w (.slice (Option.map (fun x => x.add i) a) k c) ((bs.drop i).take k) := by
  obtain ⟨a', len', cap', he, h1, h2, h3, h4, h5⟩ := h
  injection he with e1 e2 e3
  subst e1 e2 e3
  obtain ⟨b, off, rfl, hlt, hc⟩ := h5 (by omega)
  have e : Option.map (fun x : Addr => x.add i) (some ⟨b, off, none⟩) = some ⟨b, off + i, none⟩ := by
    cases i <;> simp [Addr.add]
  rw [e]
  refine ⟨_, k, c, rfl, by simp; omega, by omega, fun h => by simp at h, fun x hx => h4 x (List.mem_of_mem_drop (List.mem_of_mem_take hx)), fun _ => ⟨b, off + i, rfl, hlt, fun j hj => ?_⟩⟩
  have := hc (i + j) (by omega)
  rw [← Nat.add_assoc] at this
  rw [this, List.getElem?_take_of_lt hj, List.getElem?_drop]

/-- A slice that has bytes, or none and no place for any. -/
theorem Sl.empty (w : World) (a : Option Addr) : Sl w (.slice a 0 0) [] := ⟨a, 0, 0, rfl, rfl, by omega, fun _ => ⟨rfl, rfl⟩, fun _ h => (nomatch h), fun h => absurd h (by omega)⟩

set_option maxHeartbeats 1000000 in
theorem cut_ok (a : Option Addr) (len cap : Nat) (bs : List Nat) (i k : Nat) (h : i + k ≤ len) (hc : len ≤ cap) (w : World) (hs : Sl w (.slice a len cap) bs) :
    Calls Try.prog 121 #[.slice a len cap, .int .i64 (i : Int), .int .i64 (k : Int)] w fun e w' => ∃ a', e = .returned (.tuple #[.slice a' k k, .int .i64 0]) ∧ Sl w (.slice a' k k) ((bs.drop i).take k) ∧ w = w' := by
  have hl := hs.len.2.1
  have HS := Lib.hid hs
  clear hs
  have h0 : (0 : Int) ≤ (i : Int) := by omega
  have h1 : (i : Int) ≤ (len : Int) := by omega
  have h2 : (0 : Int) ≤ (k : Int) := by omega
  have h3 : IntKind.i64.wrap ((len : Int) - (i : Int)) = (len : Int) - (i : Int) := IntWalk.i64_in _ (by omega)
  have h4 : (k : Int) ≤ (len : Int) - (i : Int) := by omega
  have h5 : IntKind.i64.wrap ((i : Int) + (k : Int)) = (i : Int) + (k : Int) := IntWalk.i64_in _ (by omega)
  have h6 : (i : Int) ≤ (i : Int) + (k : Int) := by omega
  have h7 : (i : Int) + (k : Int) ≤ (cap : Int) := by omega
  by_cases hk : k = 0
  · subst hk
    go_enter Try.func121, Try.ntmps121
    go_wp2
    go_ret2
    exact ⟨a, rfl, by simpa using Sl.empty w a, rfl⟩
  · have hk2 : ¬ i + k = i := by omega
    have hk3 : i + k - i = k := by omega
    have HK3 := Lib.hid hk3
    have HK := Lib.hid (HS.out.cut i k h hk k)
    go_enter Try.func121, Try.ntmps121
    go_wp2
    go_ret2
    refine ⟨_, ?_, HK.out, rfl⟩
    have e := HK3.out
    simp [e]

/-- A slice of bytes against nil. -/
theorem run_eql_nil (w : World) (a : Option Addr) (l c : Nat) : (binOp .eql 22 (.slice a l c) (.slice none 0 0)).run Try.prog w = .ok (.bool a.isNone) w := by
  simp only [binOp]
  simp [run_equal_slice_nil w 22 5 a l c Try.underlying22]

set_option maxHeartbeats 1000000 in
theorem clone_walk (a : Option Addr) (len cap : Nat) (l : List Nat) (w : World) (hs : Sl w (.slice a len cap) l) (hl : len ≤ 140737488355328) :
    Calls Try.prog 122 #[.slice a len cap] w fun e w' => ∃ a' cap', e = .returned (.slice a' len cap') ∧ Mine w' w.heap.size a' len cap' l ∧ Below w.heap.size w w' := by
  obtain ⟨h1, _, h3⟩ := hs.len
  have h8 := hs.bytes
  cases a with
  | none =>
    obtain ⟨rfl, rfl⟩ := h3 rfl
    obtain rfl : l = [] := List.eq_nil_of_length_eq_zero h1.symm
    clear hs h1 h3
    have hnil : ∀ W, (binOp .eql 22 (.slice none 0 0) (.slice none 0 0)).run Try.prog W = .ok (.bool true) W := fun W => run_eql_nil W none 0 0
    go_enter Try.func122, Try.ntmps122
    go_wp2
    go_ret
    exact ⟨none, 0, rfl, ⟨⟨rfl, Or.inl ⟨rfl, rfl⟩⟩, rfl, h8⟩, Below.refl _ _⟩
  | some ad =>
    have A1 : Hid ((w.alloc (.cells #[] 5)).ownsRow w.heap.size 5 1 (.slice (some ⟨w.heap.size, 0, none⟩) 0 0) 0 []) :=
      World.ownsRow_lit (base := w.heap.size) (e := 5) (size := 1) w #[] 0 (by simp) (by unfold maxLen; omega) rfl
    have B0 : Hid (Below w.heap.size w (w.alloc (.cells #[] 5))) := below1 w _
    have S0 := Lib.hid (hs.later B0.out)
    have H1 := Lib.hid h1
    have H8 := Lib.hid h8
    clear hs h1 h3 h8
    have hnil : ∀ W, (binOp .eql 22 (.slice (some ad) len cap) (.slice none 0 0)).run Try.prog W = .ok (.bool false) W := fun W => run_eql_nil W (some ad) len cap
    go_enter Try.func122, Try.ntmps122
    go_wp2_with (at_builtin; (with_reducible refine wpList_append_sl rfl (.tmp 5) (.tmp 6) rfl w.heap.size w.heap.size 0 0 [] rfl A1.out (some ad) len cap l rfl S0.out (by omega) (by simp) ?_; intro g1 c1 w1 ho1 hg1; have hO1 := Lib.hid (own_app_zero ho1.out); have hB1 := Lib.hid (below_grown B0.out hg1.out (by omega) B0.out.size); clear ho1 hg1))
    go_wp2
    go_ret
    exact ⟨_, _, rfl, ⟨hO1.out, H1.out, H8.out⟩, hB1.out⟩

set_option maxHeartbeats 1000000 in
theorem behind_walk (a : Option Addr) (len cap : Nat) (bs : List Nat) (g m : Nat) (cs : List Nat) (w : World) (hs : Sl w (.slice a len cap) bs) (hc : len ≤ cap) (ht : Sl w (.slice (some ⟨g, 0, none⟩) m m) cs) (hm : 0 < m) (hl : len + m ≤ 140737488355328) :
    Calls Try.prog 132 #[.slice a len cap, .slice (some ⟨g, 0, none⟩) m m] w fun e w' => ∃ a' cap', e = .returned (.slice a' (len + m) cap') ∧ Mine w' w.heap.size a' (len + m) cap' (bs ++ cs) ∧ Below w.heap.size w w' := by
  obtain ⟨i0, hi, hz0, hz1, hz2⟩ := info_parts Try.infoU8
  obtain ⟨h1, _, h3⟩ := hs.len
  have t1 := ht.len.1
  have h8 : ∀ x ∈ bs ++ cs, x < 256 := fun x hx => (List.mem_append.1 hx).elim (hs.bytes x) (ht.bytes x)
  have HS := Lib.hid hs
  have HT := Lib.hid ht
  have H1 := Lib.hid h1
  have H3 := Lib.hid h3
  have T1 := Lib.hid t1
  have H8 := Lib.hid h8
  clear hs ht h1 h3 t1 h8
  have hcc : (len : Int) ≤ (cap : Int) := by omega
  go_enter Try.func132, Try.ntmps132
  go_wp2_with (at_builtin; (refine wpList_append_grows w rfl (.tmp 10) (.tmp 11) 22 rfl 5 i0 (.int .u8 0) 1 1 Try.underlying22 hi hz0 hz1 hz2 rfl (by decide) a len len (vb bs) rfl (fun h => ⟨(H3.out h).1, (H3.out h).1⟩) (by rw [vb_length]; have := H1.out; omega) ?_ ⟨g, 0, none⟩ m m (vb cs) rfl (by rw [vb_length]; have := T1.out; omega) ?_ (oneCell_vb cs) (by omega) (by unfold maxLen; omega) (by omega) ?_; rotate_left; rotate_left; intro v' w' ho hg))
  · have HO := Lib.hid ho
    have HB := Lib.hid ((Below.refl w.heap.size w).grown hg (Nat.le_refl _) (fun k hk => by cases hk))
    clear ho hg
    obtain ⟨a', cap', rfl⟩ : ∃ a' cap', v' = .slice a' (len + m) cap' := by
      rcases HO.out.2 with ⟨h, h'⟩ | ⟨g, cap, _, h, _⟩
      · omega
      · exact ⟨_, _, h⟩
    go_ret
    refine ⟨_, _, rfl, ⟨?_, ?_, H8.out⟩, HB.out⟩
    · rw [vb_append]
      exact HO.out
    · rw [List.length_append, ← H1.out, ← T1.out]
  · rintro b rfl j u hj
    have hlt : j < len := by
      have := (List.getElem?_eq_some_iff.1 hj).1
      rw [vb_length] at this
      have := H1.out
      omega
    obtain ⟨ad, he, h⟩ := HS.out.cells (by omega)
    injection he with he
    subst he
    exact h j u hj
  · intro j u hj
    obtain ⟨ad, he, h⟩ := HT.out.cells hm
    injection he with he
    subst he
    exact h j u hj
end Go.Proofs.Ytillckjohlbaiaa

/- Contracts of lay and read: numbers in two and in four bytes. -/
namespace Go.Proofs.Ytillckjohlbaiaa
set_option maxRecDepth 100000
open Go.RowKit

theorem i64_or (x y : Nat) (hx : x < 9223372036854775808) (hy : y < 9223372036854775808) : bits BinOp.or IntKind.i64 (x : Int) (y : Int) = ((x ||| y : Nat) : Int) := by
  show IntKind.i64.wrap (((BitVec.ofInt 64 x ||| BitVec.ofInt 64 y).toNat : Nat) : Int) = _
  have h : x ||| y < 2 ^ 63 := Nat.or_lt_two_pow (by omega) (by omega)
  rw [BitVec.toNat_or, BitVec.toNat_ofInt, BitVec.toNat_ofInt]
  have e1 : ((x : Int) % ((2 ^ 64 : Nat) : Int)).toNat = x := by omega
  have e2 : ((y : Int) % ((2 ^ 64 : Nat) : Int)).toNat = y := by omega
  rw [e1, e2]
  exact IntWalk.i64_in _ (by omega)

/-- 'or' of a number and of one whose bits lie above it is the sum. -/
theorem i64_lay (k x y : Nat) (hx : x < 2 ^ k) (hk : k ≤ 32) (hy : y < 256) : bits BinOp.or IntKind.i64 (x : Int) ((y : Int) * ((2 ^ k : Nat) : Int)) = ((x + 2 ^ k * y : Nat) : Int) := by
  have h1 : 2 ^ k ≤ 2 ^ 32 := Nat.pow_le_pow_right (by omega) hk
  have h2 : y * 2 ^ k ≤ 255 * 2 ^ 32 := Nat.mul_le_mul (by omega) h1
  have e : ((y : Int) * ((2 ^ k : Nat) : Int)) = ((y * 2 ^ k : Nat) : Int) := by simp
  rw [e, i64_or x (y * 2 ^ k) (by omega) (by omega), Nat.or_comm, Nat.mul_comm, ← Nat.two_pow_add_eq_or_of_lt hx, Nat.add_comm]

set_option maxHeartbeats 1000000 in
theorem lay2_ok (n : Nat) (hn : n < 65536) (w : World) : Calls Try.prog 131 #[.int .i64 (n : Int)] w fun e w' => e = .returned (.tuple #[.agg #[.int .u8 ((n / 1 % 256 : Nat) : Int), .int .u8 ((n / 256 % 256 : Nat) : Int)], .int .i64 0]) ∧ Below w.heap.size w w' := by
  have h0 : (0 : Int) ≤ (n : Int) := by omega
  have hd : (((n : Int) / 65536) != 0) = false := by rw [bne_eq_false_iff_eq]; omega
  go_enter Try.func131, Try.ntmps131
  go_wp2
  refine wp_loop_rounds 3 ?_
  rw [rounds_succ]
  go_wp2
  rw [rounds_succ]
  go_wp2
  rw [rounds_succ]
  go_wp2
  (try simp only [Exit.inBlock, Exit.then])
  refine bodyPost_ret (v := .tuple #[.agg #[.int .u8 ((n / 1 % 256 : Nat) : Int), .int .u8 ((n / 256 % 256 : Nat) : Int)], .int .i64 0]) ?_ rfl ⟨rfl, below2 w _ _⟩
  rw [results_cell_tmp rfl]
  go_simp
  try omega

set_option maxHeartbeats 1000000 in
theorem lay2_bad (n : Int) (hn : n < 0 ∨ 65535 < n) (w : World) : Calls Try.prog 131 #[.int .i64 n] w fun e w' => e = .returned (.tuple #[.agg #[.int .u8 0, .int .u8 0], .int .i64 2]) ∧ Below w.heap.size w w' := by
  rcases hn with hn | hn
  · go_enter Try.func131, Try.ntmps131
    go_wp2
    (try simp only [Exit.inBlock, Exit.then])
    refine bodyPost_ret (v := .tuple #[.agg #[.int .u8 0, .int .u8 0], .int .i64 2]) ?_ rfl ⟨rfl, below2 w _ _⟩
    rw [results_cell_tmp rfl]
    go_simp
  · have h0 : (0 : Int) ≤ n := by omega
    have hd : ((n / 65536) != 0) = true := by rw [bne_iff_ne]; omega
    clear hn
    go_enter Try.func131, Try.ntmps131
    go_wp2
    (try simp only [Exit.inBlock, Exit.then])
    refine bodyPost_ret (v := .tuple #[.agg #[.int .u8 0, .int .u8 0], .int .i64 2]) ?_ rfl ⟨rfl, below2 w _ _⟩
    rw [results_cell_tmp rfl]
    go_simp

set_option maxHeartbeats 1000000 in
theorem read2_walk (a b : Nat) (ha : a < 256) (hb : b < 256) (w : World) : Calls Try.prog 134 #[.agg #[.int .u8 (a : Int), .int .u8 (b : Int)]] w fun e w' => e = .returned (.int .i64 ((a + 256 * b : Nat) : Int)) ∧ Below w.heap.size w w' := by
  have e0 : bits BinOp.or IntKind.i64 0 (a : Int) = (a : Int) := by
    have := i64_or 0 a (by omega) (by omega)
    rw [Nat.zero_or] at this
    exact this
  obtain ⟨x1, hx1⟩ : ∃ x : Nat, x = a + 256 * b := ⟨_, rfl⟩
  have e1 : bits BinOp.or IntKind.i64 (a : Int) ((b : Int) * 256) = (x1 : Int) := by rw [hx1]; exact i64_lay 8 a b (by omega) (by omega) hb
  have E : a + 256 * b = x1 := by omega
  rw [E]
  clear hx1 E
  go_enter Try.func134, Try.ntmps134
  go_wp2
  refine wp_loop_rounds 3 ?_
  rw [rounds_succ]
  go_wp2
  rw [rounds_succ]
  go_wp2
  rw [rounds_succ]
  go_wp2
  go_ret
  exact ⟨rfl, below1 w _⟩

set_option maxHeartbeats 1000000 in
theorem lay4_ok (n : Nat) (hn : n < 4294967296) (w : World) : Calls Try.prog 133 #[.int .i64 (n : Int)] w fun e w' => e = .returned (.tuple #[.agg #[.int .u8 ((n / 1 % 256 : Nat) : Int), .int .u8 ((n / 256 % 256 : Nat) : Int), .int .u8 ((n / 65536 % 256 : Nat) : Int), .int .u8 ((n / 16777216 % 256 : Nat) : Int)], .int .i64 0]) ∧ Below w.heap.size w w' := by
  have h0 : (0 : Int) ≤ (n : Int) := by omega
  have hd : (((n : Int) / 4294967296) != 0) = false := by rw [bne_eq_false_iff_eq]; omega
  go_enter Try.func133, Try.ntmps133
  go_wp2
  refine wp_loop_rounds 5 ?_
  rw [rounds_succ]
  go_wp2
  rw [rounds_succ]
  go_wp2
  rw [rounds_succ]
  go_wp2
  rw [rounds_succ]
  go_wp2
  rw [rounds_succ]
  go_wp2
  (try simp only [Exit.inBlock, Exit.then])
  refine bodyPost_ret (v := .tuple #[.agg #[.int .u8 ((n / 1 % 256 : Nat) : Int), .int .u8 ((n / 256 % 256 : Nat) : Int), .int .u8 ((n / 65536 % 256 : Nat) : Int), .int .u8 ((n / 16777216 % 256 : Nat) : Int)], .int .i64 0]) ?_ rfl ⟨rfl, below2 w _ _⟩
  rw [results_cell_tmp rfl]
  go_simp
  try omega

set_option maxHeartbeats 1000000 in
theorem lay4_bad (n : Int) (hn : n < 0 ∨ 4294967295 < n) (w : World) : Calls Try.prog 133 #[.int .i64 n] w fun e w' => e = .returned (.tuple #[.agg #[.int .u8 0, .int .u8 0, .int .u8 0, .int .u8 0], .int .i64 2]) ∧ Below w.heap.size w w' := by
  rcases hn with hn | hn
  · go_enter Try.func133, Try.ntmps133
    go_wp2
    (try simp only [Exit.inBlock, Exit.then])
    refine bodyPost_ret (v := .tuple #[.agg #[.int .u8 0, .int .u8 0, .int .u8 0, .int .u8 0], .int .i64 2]) ?_ rfl ⟨rfl, below2 w _ _⟩
    rw [results_cell_tmp rfl]
    go_simp
  · have h0 : (0 : Int) ≤ n := by omega
    have hd : ((n / 4294967296) != 0) = true := by rw [bne_iff_ne]; omega
    clear hn
    go_enter Try.func133, Try.ntmps133
    go_wp2
    (try simp only [Exit.inBlock, Exit.then])
    refine bodyPost_ret (v := .tuple #[.agg #[.int .u8 0, .int .u8 0, .int .u8 0, .int .u8 0], .int .i64 2]) ?_ rfl ⟨rfl, below2 w _ _⟩
    rw [results_cell_tmp rfl]
    go_simp

set_option maxHeartbeats 1000000 in
theorem read4_walk (a b c d : Nat) (ha : a < 256) (hb : b < 256) (hc : c < 256) (hd : d < 256) (w : World) : Calls Try.prog 128 #[.agg #[.int .u8 (a : Int), .int .u8 (b : Int), .int .u8 (c : Int), .int .u8 (d : Int)]] w fun e w' => e = .returned (.int .i64 ((a + 256 * b + 65536 * c + 16777216 * d : Nat) : Int)) ∧ Below w.heap.size w w' := by
  have e0 : bits BinOp.or IntKind.i64 0 (a : Int) = (a : Int) := by
    have := i64_or 0 a (by omega) (by omega)
    rw [Nat.zero_or] at this
    exact this
  obtain ⟨x1, hx1⟩ : ∃ x : Nat, x = a + 256 * b := ⟨_, rfl⟩
  have e1 : bits BinOp.or IntKind.i64 (a : Int) ((b : Int) * 256) = (x1 : Int) := by rw [hx1]; exact i64_lay 8 a b (by omega) (by omega) hb
  obtain ⟨x2, hx2⟩ : ∃ x : Nat, x = x1 + 65536 * c := ⟨_, rfl⟩
  have e2 : bits BinOp.or IntKind.i64 (x1 : Int) ((c : Int) * 65536) = (x2 : Int) := by rw [hx2]; exact i64_lay 16 x1 c (by omega) (by omega) hc
  obtain ⟨x3, hx3⟩ : ∃ x : Nat, x = x2 + 16777216 * d := ⟨_, rfl⟩
  have e3 : bits BinOp.or IntKind.i64 (x2 : Int) ((d : Int) * 16777216) = (x3 : Int) := by rw [hx3]; exact i64_lay 24 x2 d (by omega) (by omega) hd
  have E : a + 256 * b + 65536 * c + 16777216 * d = x3 := by omega
  rw [E]
  clear hx1 hx2 hx3 E
  go_enter Try.func128, Try.ntmps128
  go_wp2
  refine wp_loop_rounds 5 ?_
  rw [rounds_succ]
  go_wp2
  rw [rounds_succ]
  go_wp2
  rw [rounds_succ]
  go_wp2
  rw [rounds_succ]
  go_wp2
  rw [rounds_succ]
  go_wp2
  go_ret
  exact ⟨rfl, below1 w _⟩

end Go.Proofs.Ytillckjohlbaiaa
