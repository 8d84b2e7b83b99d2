/- The document's two, four, Check. -/
import Derived.Test.YtheffpihhmdceaaNleaf
import Derived.Test.YtheffpihhmdceaaFbyt

namespace Go.Proofs.Ytheffpihhmdceaa
set_option maxRecDepth 100000
open Go.RowKit

set_option maxHeartbeats 2000000 in
theorem two_any (n : Nat) (hn : n < 9223372036854775808) (S : ByteArray) (hS : Hid (S = strB (Fd.le 2 n))) (w : World) :
    Calls Try.prog 30 #[.int .i64 (n : Int)] w fun e w' => e = .returned (.string S) ∧ Below w.heap.size w w' := by
  have HB := Lib.hid (fun w => bytes_walk n 2 hn (by omega) w)
  clear hn
  go_enter Try.func30, Try.ntmps30
  go_wp2_with fail
  refine (HB.out _).mono ?_
  rintro e w1 ⟨a1, cap1, rfl, hm, hb⟩
  have hcv := string_of w1 a1 2 cap1 _ S (hm.sl (by omega)) hS
  have HB1 := Lib.hid hb
  clear hm hb HB
  go_wp2_with fail
  go_ret
  exact ⟨rfl, HB1.out⟩

set_option maxHeartbeats 2000000 in
theorem four_any (n : Nat) (hn : n < 9223372036854775808) (S : ByteArray) (hS : Hid (S = strB (Fd.le 4 n))) (w : World) :
    Calls Try.prog 32 #[.int .i64 (n : Int)] w fun e w' => e = .returned (.string S) ∧ Below w.heap.size w w' := by
  have HB := Lib.hid (fun w => bytes_walk n 4 hn (by omega) w)
  clear hn
  go_enter Try.func32, Try.ntmps32
  go_wp2_with fail
  refine (HB.out _).mono ?_
  rintro e w1 ⟨a1, cap1, rfl, hm, hb⟩
  have hcv := string_of w1 a1 4 cap1 _ S (hm.sl (by omega)) hS
  have HB1 := Lib.hid hb
  clear hm hb HB
  go_wp2_with fail
  go_ret
  exact ⟨rfl, HB1.out⟩

set_option maxHeartbeats 4000000 in
theorem rcheck_size (S : ByteArray) (m a b c d : Int) (h : S.size = 0 ∨ 65535 < S.size) (w : World) :
    Calls Try.prog 15 #[rv S m a b c d] w fun e w' => e = .returned (.int .i64 2) ∧ Below w.heap.size w w' := by
  unfold rv
  rcases h with h | h
  · have h1 : ((S.size : Nat) : Int) < 1 := by omega
    clear h
    go_enter Try.func15, Try.ntmps15
    go_wp2_with fail
    go_ret
    exact ⟨rfl, below1 w _⟩
  · have h1 : (1 : Int) ≤ ((S.size : Nat) : Int) := by omega
    have h2 : (65535 : Int) < ((S.size : Nat) : Int) := by omega
    clear h
    go_enter Try.func15, Try.ntmps15
    go_wp2_with fail
    go_ret
    exact ⟨rfl, below1 w _⟩

set_option maxHeartbeats 4000000 in
theorem rcheck_more (S : ByteArray) (m a b c d : Int) (h1 : 1 ≤ S.size) (h2 : S.size ≤ 65535) (w : World) :
    Calls Try.prog 15 #[rv S m a b c d] w fun e w' => e = .returned (.int .i64 (if okM m && (Fd.isn a && (Fd.isn b && (Fd.isn c && Fd.isn d))) then 0 else 2)) ∧ Below w.heap.size w w' := by
  have hz1 : (1 : Int) ≤ ((S.size : Nat) : Int) := by omega
  have hz2 : ((S.size : Nat) : Int) ≤ 65535 := by omega
  obtain ⟨ba, ha⟩ : ∃ x, Fd.isn a = x := ⟨_, rfl⟩
  obtain ⟨bb, hb⟩ : ∃ x, Fd.isn b = x := ⟨_, rfl⟩
  obtain ⟨bc, hc⟩ : ∃ x, Fd.isn c = x := ⟨_, rfl⟩
  obtain ⟨bd, hd⟩ : ∃ x, Fd.isn d = x := ⟨_, rfl⟩
  have HA := Lib.hid (fun w => risnum_walk a ba ha w)
  have HB := Lib.hid (fun w => risnum_walk b bb hb w)
  have HC := Lib.hid (fun w => risnum_walk c bc hc w)
  have HD := Lib.hid (fun w => risnum_walk d bd hd w)
  rw [ha, hb, hc, hd]
  clear h1 h2 ha hb hc hd
  unfold rv
  cases hM : okM m
  · obtain ⟨m0', m8'⟩ := okM_no hM
    have m0 : ¬ m = 0 := by simpa using m0'
    have m8 : ¬ m = 8 := by simpa using m8'
    clear m0' m8'
    simp only [Bool.false_and, Bool.false_eq_true, if_false]
    clear hM
    go_enter Try.func15, Try.ntmps15
    go_wp2_with fail
    go_ret
    exact ⟨rfl, below1 w _⟩
  · have hm : m = 0 ∨ m = 8 := by unfold okM at hM; simpa using hM
    clear hM
    rcases hm with rfl | rfl
    all_goals
      cases ba
      · simp only [Bool.false_and, Bool.true_and, Bool.false_eq_true, if_false]
        go_enter Try.func15, Try.ntmps15
        go_wp2_with (go_at_call 34; with_reducible refine (HA.out _).mono ?_; rintro e w1 ⟨rfl, rfl⟩)
        go_ret
        exact ⟨rfl, below1 w _⟩
      · cases bb
        · simp only [Bool.false_and, Bool.true_and, Bool.false_eq_true, if_false]
          go_enter Try.func15, Try.ntmps15
          go_wp2_with (go_at_call 34; first | (with_reducible refine (HA.out _).mono ?_; rintro e w1 ⟨rfl, rfl⟩) | (with_reducible refine (HB.out _).mono ?_; rintro e w1 ⟨rfl, rfl⟩))
          go_ret
          exact ⟨rfl, below1 w _⟩
        · cases bc
          · simp only [Bool.false_and, Bool.true_and, Bool.false_eq_true, if_false]
            go_enter Try.func15, Try.ntmps15
            go_wp2_with (go_at_call 34; first | (with_reducible refine (HA.out _).mono ?_; rintro e w1 ⟨rfl, rfl⟩) | (with_reducible refine (HB.out _).mono ?_; rintro e w1 ⟨rfl, rfl⟩) | (with_reducible refine (HC.out _).mono ?_; rintro e w1 ⟨rfl, rfl⟩))
            go_ret
            exact ⟨rfl, below1 w _⟩
          · cases bd
            · simp only [Bool.true_and, Bool.false_eq_true, if_false]
              go_enter Try.func15, Try.ntmps15
              go_wp2_with (go_at_call 34; first | (with_reducible refine (HA.out _).mono ?_; rintro e w1 ⟨rfl, rfl⟩) | (with_reducible refine (HB.out _).mono ?_; rintro e w1 ⟨rfl, rfl⟩) | (with_reducible refine (HC.out _).mono ?_; rintro e w1 ⟨rfl, rfl⟩) | (with_reducible refine (HD.out _).mono ?_; rintro e w1 ⟨rfl, rfl⟩))
              go_ret
              exact ⟨rfl, below1 w _⟩
            · simp only [Bool.true_and, if_true]
              go_enter Try.func15, Try.ntmps15
              go_wp2_with (go_at_call 34; first | (with_reducible refine (HA.out _).mono ?_; rintro e w1 ⟨rfl, rfl⟩) | (with_reducible refine (HB.out _).mono ?_; rintro e w1 ⟨rfl, rfl⟩) | (with_reducible refine (HC.out _).mono ?_; rintro e w1 ⟨rfl, rfl⟩) | (with_reducible refine (HD.out _).mono ?_; rintro e w1 ⟨rfl, rfl⟩))
              go_ret
              exact ⟨rfl, below1 w _⟩

theorem rcheck_any (S : ByteArray) (m a b c d : Int) (w : World) :
    Calls Try.prog 15 #[rv S m a b c d] w fun e w' => e = .returned (.int .i64 (if okR S.size m a b c d then 0 else 2)) ∧ Below w.heap.size w w' := by
  by_cases h : S.size = 0 ∨ 65535 < S.size
  · have hk : okR S.size m a b c d = false := by
      unfold okR
      rcases h with h | h
      · rw [decide_eq_false (by omega)]; simp
      · rw [decide_eq_false (p := S.size ≤ 65535) (by omega)]; simp
    rw [hk, if_neg (by decide)]
    exact rcheck_size S m a b c d h w
  · have h1 : 1 ≤ S.size := by omega
    have h2 : S.size ≤ 65535 := by omega
    have hk : okR S.size m a b c d = (okM m && (Fd.isn a && (Fd.isn b && (Fd.isn c && Fd.isn d)))) := by
      unfold okR
      rw [decide_eq_true h1, decide_eq_true h2]
      simp only [Bool.true_and, Bool.and_assoc]
    rw [hk]
    exact rcheck_more S m a b c d h1 h2 w
end Go.Proofs.Ytheffpihhmdceaa
