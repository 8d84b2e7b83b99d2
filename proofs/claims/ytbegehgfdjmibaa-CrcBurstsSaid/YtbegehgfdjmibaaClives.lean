/- Contracts of the document's Join, and of lives: the document's examples. -/
import Derived.Test.YtbegehgfdjmibaaCjoin
import Derived.Deep.RegionHeld3
import Derived.Lib.SlBytesConst
namespace Go.Proofs.Ytbegehgfdjmibaa
open Go.RowKit

set_option maxHeartbeats 400000 in
theorem rjoin_bad (a b : Nat) (n : Int) (hn : n < 0 ∨ 2147483647 < n) (w : World) :
    Calls Try.prog 15 #[.int .u32 (a : Int), .int .u32 (b : Int), .int .i64 n] w fun e w' => e = .returned (.tuple #[.int .u32 0, .int .i64 2]) ∧ w = w' := by
  go_enter Try.func15, Try.ntmps15
  rcases hn with hn | hn
  · go_wp2
    go_ret2
    exact ⟨rfl, rfl⟩
  · go_wp2
    go_ret2
    exact ⟨rfl, rfl⟩

set_option maxHeartbeats 1000000 in
theorem rjoin_ok (a b n : Nat) (hn : n ≤ 2147483647) (ha : a < 4294967296) (hb : b < 4294967296) (w : World) :
    Calls Try.prog 15 #[.int .u32 (a : Int), .int .u32 (b : Int), .int .i64 (n : Int)] w (Joined (Cr.stn (8 * n) a ^^^ b) w) := by
  have h1 : (n : Int) ≤ 2147483647 := by omega
  have h0 : ¬ (n : Int) < 0 := by omega
  go_enter Try.func15, Try.ntmps15
  go_wp2
  go_loop [0, 8] (fun s0 s8 => ∃ A k : Nat, s0 = .int .u32 (A : Int) ∧ s8 = .int .i64 (k : Int) ∧ k ≤ n ∧ A < 4294967296 ∧ Hid (A = Cr.stn (8 * k) a)) (fun _ s => n - (intOf s).toNat)
  case atStart => exact ⟨a, 0, rfl, rfl, Nat.zero_le _, ha, rfl⟩
  case round =>
    obtain ⟨A, k, rfl, rfl, hk, hA, KA⟩ := hrel
    by_cases hlt : k < n
    · go_wp2_with (go_at_call 17; refine (rstep_any A hA _).mono ?_; rintro e w2 ⟨rfl, rfl⟩)
      refine ⟨⟨Cr.stn 8 A, k + 1, rfl, by go_num, by omega, Cr.stn_lt _ _ hA, ?_⟩, ?_⟩
      · show _ = _
        rw [KA.out, ← Cr.stn_add]
        congr 1
      · simp [intOf]; omega
    · obtain rfl : k = n := by omega
      have hx := u32_xor A b hA hb
      go_wp2
      go_ret2
      exact ⟨by rw [KA.out]; rfl, Below.refl _ _⟩

/-- Bytes that were just laid, marked or not. -/
theorem new_sl (w : World) (cs : Array Value) (fr : Nat × Nat) (bs : List Nat) (n c : Nat) (h : cs = (vb bs).toArray) (h8 : ∀ x ∈ bs, x < 256) (hn : n = bs.length) (hle : n ≤ 281474976710656) :
    Sl (w.alloc (.cells cs 5 fr)) (.slice (some ⟨w.heap.size, 0, none⟩) n c) bs := by
  refine ⟨_, n, c, rfl, hn, hle, fun h => by simp at h, h8, fun h0 => ⟨w.heap.size, 0, rfl, by simp, fun i hi => ?_⟩⟩
  rw [Nat.zero_add, h]
  have hi' : i < bs.length := by omega
  have e : (w.alloc (.cells (vb bs).toArray 5 fr)).heap[w.heap.size]? = some (.cells (vb bs).toArray 5 fr) := by
    show (w.heap.push _)[_]? = _
    simp
  unfold World.cell?
  simp only [e]
  simp [vb_get, hi']

theorem sum_is (s : Value) (bs : List Nat) (n : Nat) (w : World) (hs : Sl w s bs) (hn : Hid (n = Cr.sum 0 bs)) : Calls Try.prog 10 #[s] w (Tells n w) := hn.out ▸ sum_any s bs w hs
theorem more_is (sm : Nat) (s : Value) (bs : List Nat) (n : Nat) (w : World) (hs : Sl w s bs) (h : sm < 4294967296) (hn : Hid (n = Cr.sum sm bs)) : Calls Try.prog 12 #[.int .u32 (sm : Int), s] w (Tells n w) :=
  hn.out ▸ more_any sm s bs h w hs

def d15 : List Nat := [49, 50, 51, 52, 53]
def d69 : List Nat := [54, 55, 56, 57]
def d19 : List Nat := [49, 50, 51, 52, 53, 54, 55, 56, 57]
theorem d15_sum : Cr.sum 0 d15 = 3421846044 := by kernel_rfl
theorem d69_sum : Cr.sum 0 d69 = 2646261639 := by kernel_rfl
theorem d19_sum : Cr.sum 0 d19 = 3421780262 := by kernel_rfl

theorem one_far : Hid (1996959894 = Cr.stn (8 * 1) 1 ^^^ 0) := by show _ = _; kernel_rfl
theorem join_is (a b n N : Nat) (hn : n ≤ 2147483647) (ha : a < 4294967296) (hb : b < 4294967296) (w : World) (hN : Hid (N = Cr.stn (8 * n) a ^^^ b)) :
    Calls Try.prog 14 #[.int .u32 (a : Int), .int .u32 (b : Int), .int .i64 (n : Int)] w (Joined N w) := hN.out ▸ join_ok a b n hn ha hb w
theorem rjoin_is (a b n N : Nat) (hn : n ≤ 2147483647) (ha : a < 4294967296) (hb : b < 4294967296) (w : World) (hN : Hid (N = Cr.stn (8 * n) a ^^^ b)) :
    Calls Try.prog 15 #[.int .u32 (a : Int), .int .u32 (b : Int), .int .i64 (n : Int)] w (Joined N w) := hN.out ▸ rjoin_ok a b n hn ha hb w

theorem far_four (a b : Nat) (ha : a = Cr.sum 0 d15) (hb : b = Cr.sum 0 d69) : Hid (3421780262 = Cr.stn (8 * 4) a ^^^ b) := by
  have h := Cr.sum_join 0 d15 d69
  have e : d15 ++ d69 = d19 := rfl
  have e2 : d69.length = 4 := rfl
  rw [e, e2, d19_sum, ← ha, ← hb] at h
  exact Lib.hid h.symm

/-- What Join tells of the example's parts. -/
theorem join_four (a b : Nat) (ha : Hid (a = Cr.sum 0 d15)) (hb : Hid (b = Cr.sum 0 d69)) (w : World) :
    Calls Try.prog 14 #[.int .u32 (a : Int), .int .u32 (b : Int), .int .i64 4] w fun e w' => e = .returned (.tuple #[.int .u32 3421780262, .int .i64 0]) ∧ Below w.heap.size w w' := by
  have ha2 : a < 4294967296 := by rw [ha.out, d15_sum]; decide
  have hb2 : b < 4294967296 := by rw [hb.out, d69_sum]; decide
  exact join_is a b 4 3421780262 (by decide) ha2 hb2 w (far_four a b ha.out hb.out)

theorem join_one_lit (w : World) : Calls Try.prog 14 #[.int .u32 1, .int .u32 0, .int .i64 1] w fun e w' => e = .returned (.tuple #[.int .u32 1996959894, .int .i64 0]) ∧ Below w.heap.size w w' := by
  exact join_is 1 0 1 1996959894 (by omega) (by omega) (by omega) w one_far

set_option maxHeartbeats 1000000 in
theorem lives_any (w : World) : Calls Try.prog 9 #[] w fun e w' => e = .returned (.bool true) ∧ Below w.heap.size w w' := by
  have kc := fun (w : World) (C : Array Value) (n c : Nat) => Lib.run_convert_bytes_const (P := Try.prog) w 23 5 C n c Try.underlying23 Try.underlying5
  obtain ⟨A, hA⟩ : ∃ A, A = Cr.sum 0 d15 := ⟨_, rfl⟩
  obtain ⟨B, hB⟩ : ∃ B, B = Cr.sum 0 d69 := ⟨_, rfl⟩
  have HD : Hid (3421780262 = Cr.sum A d69) := by
    show _ = _
    rw [hA, Cr.sum_more]
    exact d19_sum.symm
  have hA2 : A < 4294967296 := by rw [hA, d15_sum]; decide
  have HA := Lib.hid hA
  have HB := Lib.hid hB
  clear hA hB
  go_enter Try.func9, Try.ntmps9
  go_wp2_with fail
  refine (sum_is _ d15 A _ (new_sl w _ _ d15 5 5 rfl (by decide) rfl (by decide)) HA).mono ?_
  rintro e w1 ⟨rfl, hw⟩
  have B1 : Hid (Below w.heap.size w w1) := hw ▸ below1 w _
  clear hw
  go_wp2_with fail
  refine (sum_is _ d69 B _ (new_sl w1 _ _ d69 4 4 rfl (by decide) rfl (by decide)) HB).mono ?_
  rintro e w2 ⟨rfl, hw⟩
  have B2 : Hid (Below w.heap.size w w2) := B1.out.trans ((hw ▸ below1 w1 _ : Below w1.heap.size w1 w2).mono B1.out.size)
  clear hw B1
  go_wp2_with fail
  refine (join_four A B HA HB _).mono ?_
  rintro e w3 ⟨rfl, b3⟩
  have B3 := Lib.hid (B2.out.trans (b3.mono B2.out.size))
  clear b3 B2
  go_wp2_with fail
  refine (join_one_lit _).mono ?_
  rintro e w4 ⟨rfl, b4⟩
  have B4 := Lib.hid (B3.out.trans (b4.mono B3.out.size))
  clear b4 B3
  go_wp2_with fail
  refine (sum_is _ d19 3421780262 _ (new_sl w4 _ _ d19 9 9 rfl (by decide) rfl (by decide)) (Lib.hid d19_sum.symm)).mono ?_
  rintro e w5 ⟨rfl, hw⟩
  have B5 : Hid (Below w.heap.size w w5) := B4.out.trans ((hw ▸ below1 w4 _ : Below w4.heap.size w4 w5).mono B4.out.size)
  clear hw B4
  go_wp2_with fail
  refine (more_is A _ d69 3421780262 _ (new_sl w5 _ _ d69 4 4 rfl (by decide) rfl (by decide)) hA2 HD).mono ?_
  rintro e w6 ⟨rfl, hw⟩
  have B6 : Hid (Below w.heap.size w w6) := B5.out.trans ((hw ▸ below1 w5 _ : Below w5.heap.size w5 w6).mono B5.out.size)
  clear hw B5
  go_wp2_with fail
  go_ret
  exact ⟨rfl, B6.out⟩

end Go.Proofs.Ytbegehgfdjmibaa
