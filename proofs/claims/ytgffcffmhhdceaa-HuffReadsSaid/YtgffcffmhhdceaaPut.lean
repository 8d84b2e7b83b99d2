/- Contracts of bits.Put, Join, Align and Of, and of the closures that tell their bits. -/
import Derived.Test.YtgffcffmhhdceaaExt
namespace Go.Proofs.Ytgffcffmhhdceaa
open Go.RowKit

theorem i64_and1 (n : Int) : bits .and .i64 n 1 = n % 2 := by
  have h1 : (BitVec.ofInt 64 1).toNat = 2 ^ 1 - 1 := by decide
  have key : (BitVec.ofInt 64 n &&& BitVec.ofInt 64 1).toNat = (n % ((2 ^ 64 : Nat) : Int)).toNat % 2 ^ 1 := by
    rw [BitVec.toNat_and, BitVec.toNat_ofInt, h1, Nat.and_two_pow_sub_one_eq_mod]
  show IntKind.i64.wrap ((BitVec.ofInt 64 n &&& BitVec.ofInt 64 1).toNat : Nat) = n % 2
  rw [key, IntKind.wrap_i64]
  omega

theorem bit_mod (v i : Nat) : v / 2 ^ i % 2 = (v.testBit i).toNat := by
  rw [Nat.testBit_eq_decide_div_mod_eq]
  rcases Nat.mod_two_eq_zero_or_one (v / 2 ^ i) with h | h <;> simp [h]

theorem bit_int (v i : Nat) : ((v : Int) / 2 ^ i) % 2 = ((v.testBit i).toNat : Int) := by
  rw [← bit_mod]
  have e : ((v : Int) / 2 ^ i) = ((v / 2 ^ i : Nat) : Int) := by simp
  rw [e]
  omega

theorem ret_int {k : IntKind} {a b : Int} (h : a = b) : Ending.returned (.int k a) = .returned (.int k b) := by rw [h]

set_option maxHeartbeats 400000 in
theorem putBit (V i v : Nat) (w : World) (hi : i < 64) (hc : w.cell? ⟨V, 0, none⟩ = some (.int .i64 (v : Int))) :
    Calls Try.prog 49 (#[.int .i64 (i : Int)] ++ #[.pointer (some ⟨V, 0, none⟩)]) w fun e w' => e = .returned (.int .u8 ((v.testBit i).toNat : Int)) ∧ w = w' := by
  show Calls Try.prog 49 #[.int .i64 (i : Int), .pointer (some ⟨V, 0, none⟩)] w _
  have hb := bit_int v i
  have hlt := Bool.toNat_lt (v.testBit i)
  go_enter Try.func49, Try.ntmps49
  go_wp2
  go_ret
  exact ⟨ret_int (by rw [i64_and1]; omega), rfl⟩

set_option maxHeartbeats 400000 in
theorem fits_any (v n : Int) (h : n ≤ 32) (w : World) :
    Calls Try.prog 47 #[.int .i64 v, .int .i64 n] w fun e w' => e = .returned (.bool (decide (0 ≤ n ∧ 0 ≤ v ∧ v / 2 ^ n.toNat = 0))) ∧ w = w' := by
  by_cases h1 : 0 ≤ n
  · by_cases h2 : 0 ≤ v
    · by_cases h3 : v / 2 ^ n.toNat = 0
      · have e : decide (0 ≤ n ∧ 0 ≤ v ∧ v / 2 ^ n.toNat = 0) = true := decide_eq_true ⟨h1, h2, h3⟩
        rw [e]
        exact fits_yes v n h1 h2 h h3 w
      · have e : decide (0 ≤ n ∧ 0 ≤ v ∧ v / 2 ^ n.toNat = 0) = false := decide_eq_false fun h => h3 h.2.2
        have h4 : (v / 2 ^ n.toNat == 0) = false := by simpa using h3
        rw [e]
        clear e h3
        go_enter Try.func47, Try.ntmps47
        go_wp2
        go_ret
        exact ⟨rfl, rfl⟩
    · have e : decide (0 ≤ n ∧ 0 ≤ v ∧ v / 2 ^ n.toNat = 0) = false := decide_eq_false fun h => h2 h.2.1
      have h4 : decide (0 ≤ v) = false := by simpa using h2
      rw [e]
      clear e
      go_enter Try.func47, Try.ntmps47
      go_wp2
      go_ret
      exact ⟨rfl, rfl⟩
  · have e : decide (0 ≤ n ∧ 0 ≤ v ∧ v / 2 ^ n.toNat = 0) = false := decide_eq_false fun h => h1 h.1
    have h4 : decide (0 ≤ n) = false := by simpa using h1
    rw [e]
    clear e
    go_enter Try.func47, Try.ntmps47
    go_wp2
    go_ret
    exact ⟨rfl, rfl⟩

theorem fits_is (v n : Int) (z : Bool) (h : n ≤ 32) (hz : Hid (decide (0 ≤ n ∧ 0 ≤ v ∧ v / 2 ^ n.toNat = 0) = z)) (w : World) :
    Calls Try.prog 47 #[.int .i64 v, .int .i64 n] w fun e w' => e = .returned (.bool z) ∧ w = w' := hz.out ▸ fits_any v n h w

/-- What is answered where a row is refused. -/
def NoRow (w : World) (c : Int) (e : Ending) (w' : World) : Prop := e = .returned (.tuple #[.agg #[.slice none 0 0, .int .i64 0], .int .i64 c]) ∧ Below w.heap.size w w'

/-- What is answered where a row is made: it lies in memory of its own. -/
def RowPost (w : World) (l : List Bool) (e : Ending) (w' : World) : Prop :=
  ∃ g m : Nat, e = .returned (.tuple #[.agg #[.slice (some ⟨g, 0, none⟩) m m, .int .i64 (l.length : Int)], .int .i64 0]) ∧ m = (l.length + 7) / 8 ∧ w.heap.size ≤ g ∧ Has w' g (bytesObj (Bs.pack l)) ∧ Below w.heap.size w w'

theorem set2_below {B : Nat} {w w1 : World} (kb : Below B w w1) (b : Nat) (hb : B ≤ b) (x y : Value) : Below B w ((w1.setCell ⟨b, 0, none⟩ x).setCell ⟨b, 1, none⟩ y) :=
  (kb.setCell (by exact hb) _).setCell (by exact hb) _

set_option maxHeartbeats 1000000 in
theorem put_check (s : Value) (bs : List Nat) (N v n : Int) (w : World) (hs : Sl w s bs) (hN : N ≤ 9223372036854775807) (hr : ¬ (0 ≤ N ∧ Bs.right bs N.toNat)) :
    Calls Try.prog 33 #[.agg #[s, .int .i64 N], .int .i64 v, .int .i64 n] w (NoRow w 2) := by
  have HS := Lib.hid hs
  have HR := Lib.hid hr
  clear hs hr
  obtain ⟨a, len, cap, rfl, hl⟩ := HS.out.shape
  clear hl
  go_enter Try.func33, Try.ntmps33
  go_wp2_with fail
  refine (check_bad _ bs N _ (HS.out.later (below3 _ _ _ _)) hN HR.out).mono ?_
  rintro e w1 ⟨rfl, hb1⟩
  obtain ⟨k1, k2, k3, kb, ks⟩ := facts3 hb1
  clear hb1
  obtain ⟨c0, c1, f0, f1⟩ := k3.two
  go_wp2
  exact bodyPost_ret (v := .tuple #[.agg #[.slice none 0 0, .int .i64 0], .int .i64 2]) (by simp [results, Try.results33, go_sem, c0, c1]) rfl ⟨rfl, set2_below kb _ (by omega) _ _⟩

set_option maxHeartbeats 1000000 in
theorem put_fit (s : Value) (bs : List Nat) (N : Nat) (v n : Int) (w : World) (hs : Sl w s bs) (hN : N ≤ 9223372036854775807) (hr : Bs.right bs N) (hf : n ≤ 32 → Hid (decide (0 ≤ n ∧ 0 ≤ v ∧ v / 2 ^ n.toNat = 0) = false)) :
    Calls Try.prog 33 #[.agg #[s, .int .i64 N], .int .i64 v, .int .i64 n] w (NoRow w 2) := by
  have HS := Lib.hid hs
  have HR := Lib.hid hr
  have HF := Lib.hid hf
  clear hs hr hf
  obtain ⟨a, len, cap, rfl, hl⟩ := HS.out.shape
  clear hl
  go_enter Try.func33, Try.ntmps33
  go_wp2_with fail
  refine (check_ok _ bs N _ (HS.out.later (below3 _ _ _ _)) hN HR.out).mono ?_
  rintro e w1 ⟨rfl, hb1⟩
  obtain ⟨k1, k2, k3, kb, ks⟩ := facts3 hb1
  clear hb1
  obtain ⟨c0, c1, f0, f1⟩ := k3.two
  obtain ⟨b0, g0⟩ := k2.one
  by_cases h32 : n ≤ 32
  · go_wp2_with (go_at_call 47; refine (fits_is v n false h32 (HF.out h32) _).mono ?_; rintro e w2 ⟨rfl, rfl⟩)
    exact bodyPost_ret (v := .tuple #[.agg #[.slice none 0 0, .int .i64 0], .int .i64 2]) (by simp [results, Try.results33, go_sem, c0, c1]) rfl ⟨rfl, set2_below kb _ (by omega) _ _⟩
  · go_wp2
    exact bodyPost_ret (v := .tuple #[.agg #[.slice none 0 0, .int .i64 0], .int .i64 2]) (by simp [results, Try.results33, go_sem, c0, c1]) rfl ⟨rfl, set2_below kb _ (by omega) _ _⟩

set_option maxHeartbeats 1000000 in
theorem put_ok (s : Value) (l : List Bool) (v n : Nat) (w : World) (hs : Sl w s (Bs.pack l)) (hN : Hid (l.length ≤ 1125899906842624)) (hn : n ≤ 32) (hv : Hid (v < 2 ^ n)) (N : Nat) (hl : Hid (N = l.length)) :
    Calls Try.prog 33 #[.agg #[s, .int .i64 (N : Int)], .int .i64 (v : Int), .int .i64 (n : Int)] w (RowPost w (l ++ Bs.bitsOf v n)) := by
  have HS := Lib.hid hs
  have HF : Hid (decide (0 ≤ (n : Int) ∧ 0 ≤ (v : Int) ∧ (v : Int) / 2 ^ (n : Int).toNat = 0) = true) := by
    refine decide_eq_true ⟨by omega, by omega, ?_⟩
    have e : ((v : Int) / 2 ^ (n : Int).toNat) = ((v / 2 ^ n : Nat) : Int) := by simp
    rw [e, Nat.div_eq_of_lt hv.out]
    rfl
  clear hs
  obtain ⟨a, len, cap, rfl, hl'⟩ := HS.out.shape
  clear hl'
  have hN2 : N ≤ 1125899906842624 := by have := hl.out; have := hN.out; omega
  go_enter Try.func33, Try.ntmps33
  go_wp2_with fail
  refine (check_ok _ (Bs.pack l) N _ (HS.out.later (below3 _ _ _ _)) (by omega) (by rw [hl.out]; exact Bs.pack_right l)).mono ?_
  rintro e w1 ⟨rfl, hb1⟩
  obtain ⟨k1, k2, k3, kb, ks⟩ := facts3 hb1
  clear hb1
  obtain ⟨c0, c1, f0, f1⟩ := k1.two
  obtain ⟨b0, g0⟩ := k2.one
  have hi32 : (n : Int) ≤ 32 := by omega
  go_wp2_with (go_at_call 47; refine (fits_is (v : Int) (n : Int) true hi32 HF _).mono ?_; rintro e w2 ⟨rfl, rfl⟩)
  have HX : Hid (∀ (i : Nat) (wx : World), i < n → Below w1.heap.size w1 wx → Calls Try.prog 49 (#[.int .i64 (i : Int)] ++ #[.pointer (some ⟨w.heap.size + 1, 0, none⟩)]) wx fun e w' => e = .returned (.int .u8 ((v.testBit i).toNat : Int)) ∧ Below wx.heap.size wx w') := by
    intro i wx hi hb
    refine (putBit (w.heap.size + 1) i v wx (by omega) (k2.later hb).one.1).mono ?_
    rintro e w' ⟨rfl, rfl⟩
    exact ⟨rfl, Below.refl _ _⟩
  refine (ext_any 49 Try.call49 _ l v.testBit a len cap N n ((N + n + 7) / 8) w1 (HS.out.later kb) hl hN2 (by omega) rfl HX).mono ?_
  clear HX HF c0 c1 f0 f1 b0 g0
  rintro e w3 ⟨g, rfl, hg, hh, hb3⟩
  have HH := Lib.hid hh
  have k4 := k3.later hb3
  have kb4 := kb.trans (hb3.mono (by omega))
  clear hh k1 k2 k3 kb hb3
  obtain ⟨c0, c1, f0, f1⟩ := k4.two
  go_wp2
  refine bodyPost_ret (v := .tuple #[.agg #[.slice (some ⟨g, 0, none⟩) ((N + n + 7) / 8) ((N + n + 7) / 8), .int .i64 ((more l v.testBit n).length : Int)], .int .i64 0]) (by simp [results, Try.results33, go_sem, c0, c1]) rfl ⟨g, (N + n + 7) / 8, rfl, ?_, by omega, ?_, set2_below kb4 _ (by omega) _ _⟩
  · simp [Bs.bitsOf_length, hl.out]
  · refine Has.set (Has.set ?_ (by show g ≠ w.heap.size + 1 + 1; omega) _) (by show g ≠ w.heap.size + 1 + 1; omega) _
    have e : Bs.pack (l ++ Bs.bitsOf v n) = Bs.packTo ((N + n + 7) / 8) (more l v.testBit n) := by
      unfold Bs.pack
      rw [List.length_append, Bs.bitsOf_length, ← hl.out]
      rfl
    rw [e]
    exact HH.out
end Go.Proofs.Ytgffcffmhhdceaa
