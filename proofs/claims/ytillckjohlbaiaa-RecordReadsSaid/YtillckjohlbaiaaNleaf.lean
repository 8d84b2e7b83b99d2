/- A record's contents; isMethod, Check. -/
import Derived.Test.YtillckjohlbaiaaNstr
import Derived.Test.YtillckjohlbaiaaNboth
import Derived.Test.YtillckjohlbaiaaFint

namespace Go.Proofs.Ytillckjohlbaiaa
set_option maxRecDepth 100000
open Go.RowKit

/-- May an entry be packed so? -/
def okM (m : Int) : Bool := decide (m = 0) || decide (m = 8)
theorem okM_no {m : Int} (h : okM m = false) : (m == 0) = false ∧ (m == 8) = false := by
  unfold okM at h
  simpa using h
/-- May a record with a name of n bytes be? -/
def okR (n : Nat) (m a b c d : Int) : Bool := decide (1 ≤ n) && decide (n ≤ 65535) && okM m && Fd.isn a && Fd.isn b && Fd.isn c && Fd.isn d
theorem okR_yes {n : Nat} {m a b c d : Int} (h : okR n m a b c d = true) : 1 ≤ n ∧ n ≤ 65535 ∧ okM m = true ∧ Fd.isn a = true ∧ Fd.isn b = true ∧ Fd.isn c = true ∧ Fd.isn d = true := by
  unfold okR at h
  simp only [Bool.and_eq_true, decide_eq_true_eq] at h
  obtain ⟨⟨⟨⟨⟨⟨h1, h2⟩, h3⟩, h4⟩, h5⟩, h6⟩, h7⟩ := h
  exact ⟨h1, h2, h3, h4, h5, h6, h7⟩

/-- A record's value. -/
def rv (S : ByteArray) (m a b c d : Int) : Value := .agg #[.string S, .int .i64 m, .int .i64 a, .int .i64 b, .int .i64 c, .int .i64 d]

set_option maxHeartbeats 1000000 in
theorem isMethod_any (m : Int) (w : World) : Calls Try.prog 107 #[.int .i64 m] w fun e w' => e = .returned (.bool (okM m)) ∧ w = w' := by
  by_cases h0 : m = 0
  · subst h0
    go_enter Try.func107, Try.ntmps107
    go_wp2
    go_ret
    exact ⟨rfl, rfl⟩
  · have e : okM m = (m == 8) := by
      unfold okM
      rw [decide_eq_false h0, Bool.false_or]
      by_cases h : m = 8 <;> simp [h]
    rw [e]
    have h1 : (m == 0) = false := by simpa using h0
    clear h0 e
    go_enter Try.func107, Try.ntmps107
    go_wp2
    go_ret
    exact ⟨rfl, rfl⟩

theorem ba_empty (S : ByteArray) : S.toList.isEmpty = decide (S.size = 0) := by
  rw [ByteArray.toList_eq]
  cases h : S.data.toList with
  | nil =>
    have : S.size = 0 := by have := congrArg List.length h; rw [Array.length_toList] at this; exact this
    simp [this]
  | cons x xs =>
    have : S.size ≠ 0 := by have := congrArg List.length h; rw [Array.length_toList] at this; show S.data.size ≠ 0; rw [this]; simp
    simp [this]

set_option maxHeartbeats 4000000 in
theorem check_ok (S : ByteArray) (m a b c d : Int) (h : okR S.size m a b c d = true) (w : World) :
    Calls Try.prog 81 #[rv S m a b c d] w fun e w' => e = .returned (.int .i64 0) ∧ Below w.heap.size w w' := by
  obtain ⟨h1, h2, h3, h4, h5, h6, h7⟩ := okR_yes h
  obtain ⟨a0, a1⟩ := Fd.isn_of h4
  obtain ⟨b0, b1⟩ := Fd.isn_of h5
  obtain ⟨c0, c1⟩ := Fd.isn_of h6
  obtain ⟨d0, d1⟩ := Fd.isn_of h7
  have HM := Lib.hid (fun w => isMethod_any m w)
  rw [h3] at HM
  obtain ⟨L, hL⟩ : ∃ L, S.toList = L := ⟨_, rfl⟩
  have he : L.isEmpty = false := by rw [← hL, ba_empty]; exact decide_eq_false (by omega)
  have hz : (S.size : Int) ≤ 65535 := by omega
  unfold rv
  clear h h1 h2 h3 h4 h5 h6 h7
  go_enter Try.func81, Try.ntmps81
  go_wp2_with (go_at_call 107; refine (HM.out _).mono ?_; rintro e w1 ⟨rfl, rfl⟩)
  refine wp_loop_rounds 5 ?_
  rw [rounds_succ]
  go_wp2
  rw [rounds_succ]
  go_wp2
  rw [rounds_succ]
  go_wp2
  rw [rounds_succ]
  go_wp2
  rw [rounds_succ]
  go_wp2
  go_ret
  exact ⟨rfl, below2 w _ _⟩
set_option maxHeartbeats 4000000 in
theorem check_name (S : ByteArray) (m a b c d : Int) (h : S.size = 0 ∨ 65535 < S.size ∨ okM m = false) (w : World) :
    Calls Try.prog 81 #[rv S m a b c d] w fun e w' => e = .returned (.int .i64 2) ∧ Below w.heap.size w w' := by
  have HM := Lib.hid (fun w => isMethod_any m w)
  obtain ⟨L, hL⟩ : ∃ L, S.toList = L := ⟨_, rfl⟩
  have he : L.isEmpty = decide (S.size = 0) := by rw [← hL, ba_empty]
  unfold rv
  by_cases h0 : S.size = 0
  · rw [decide_eq_true h0] at he
    clear h h0
    go_enter Try.func81, Try.ntmps81
    go_wp2_with (go_at_call 107; refine (HM.out _).mono ?_; rintro e w1 ⟨rfl, rfl⟩)
    go_ret
    exact ⟨rfl, below1 w _⟩
  · rw [decide_eq_false h0] at he
    by_cases h1 : 65535 < S.size
    · have h2 : (65535 : Int) < (S.size : Int) := by omega
      clear h h0 h1
      go_enter Try.func81, Try.ntmps81
      go_wp2_with (go_at_call 107; refine (HM.out _).mono ?_; rintro e w1 ⟨rfl, rfl⟩)
      go_ret
      exact ⟨rfl, below1 w _⟩
    · have h2 : (S.size : Int) ≤ 65535 := by omega
      have h3 : okM m = false := by
        rcases h with h | h | h
        · exact absurd h h0
        · exact absurd h h1
        · exact h
      rw [h3] at HM
      clear h h0 h1 h3
      go_enter Try.func81, Try.ntmps81
      go_wp2_with (go_at_call 107; refine (HM.out _).mono ?_; rintro e w1 ⟨rfl, rfl⟩)
      go_ret
      exact ⟨rfl, below1 w _⟩


set_option maxHeartbeats 4000000 in
theorem check_a (S : ByteArray) (m a b c d : Int) (h1 : 1 ≤ S.size) (h2 : S.size ≤ 65535) (h3 : okM m = true)  (hb : Fd.isn a = false) (w : World) :
    Calls Try.prog 81 #[rv S m a b c d] w fun e w' => e = .returned (.int .i64 2) ∧ Below w.heap.size w w' := by
  have HM := Lib.hid (fun w => isMethod_any m w)
  rw [h3] at HM
  obtain ⟨L, hL⟩ : ∃ L, S.toList = L := ⟨_, rfl⟩
  have he : L.isEmpty = false := by rw [← hL, ba_empty]; exact decide_eq_false (by omega)
  have hz : (S.size : Int) ≤ 65535 := by omega
  have hbad := Fd.isn_not hb
  unfold rv
  clear h1 h2 h3 hb 
  rcases hbad with hbad | hbad
  all_goals
    go_enter Try.func81, Try.ntmps81
    go_wp2_with (go_at_call 107; refine (HM.out _).mono ?_; rintro e w1 ⟨rfl, rfl⟩)
    refine wp_loop_rounds 5 ?_
    rw [rounds_succ]
    go_wp2
    go_ret
    exact ⟨rfl, below2 w _ _⟩

set_option maxHeartbeats 4000000 in
theorem check_b (S : ByteArray) (m a b c d : Int) (h1 : 1 ≤ S.size) (h2 : S.size ≤ 65535) (h3 : okM m = true) (ga : Fd.isn a = true) (hb : Fd.isn b = false) (w : World) :
    Calls Try.prog 81 #[rv S m a b c d] w fun e w' => e = .returned (.int .i64 2) ∧ Below w.heap.size w w' := by
  obtain ⟨a0, a1⟩ := Fd.isn_of ga
  have HM := Lib.hid (fun w => isMethod_any m w)
  rw [h3] at HM
  obtain ⟨L, hL⟩ : ∃ L, S.toList = L := ⟨_, rfl⟩
  have he : L.isEmpty = false := by rw [← hL, ba_empty]; exact decide_eq_false (by omega)
  have hz : (S.size : Int) ≤ 65535 := by omega
  have hbad := Fd.isn_not hb
  unfold rv
  clear h1 h2 h3 hb ga
  rcases hbad with hbad | hbad
  all_goals
    go_enter Try.func81, Try.ntmps81
    go_wp2_with (go_at_call 107; refine (HM.out _).mono ?_; rintro e w1 ⟨rfl, rfl⟩)
    refine wp_loop_rounds 5 ?_
    rw [rounds_succ]
    go_wp2
    rw [rounds_succ]
    go_wp2
    go_ret
    exact ⟨rfl, below2 w _ _⟩

set_option maxHeartbeats 4000000 in
theorem check_c (S : ByteArray) (m a b c d : Int) (h1 : 1 ≤ S.size) (h2 : S.size ≤ 65535) (h3 : okM m = true) (ga : Fd.isn a = true) (gb : Fd.isn b = true) (hb : Fd.isn c = false) (w : World) :
    Calls Try.prog 81 #[rv S m a b c d] w fun e w' => e = .returned (.int .i64 2) ∧ Below w.heap.size w w' := by
  obtain ⟨a0, a1⟩ := Fd.isn_of ga
  obtain ⟨b0, b1⟩ := Fd.isn_of gb
  have HM := Lib.hid (fun w => isMethod_any m w)
  rw [h3] at HM
  obtain ⟨L, hL⟩ : ∃ L, S.toList = L := ⟨_, rfl⟩
  have he : L.isEmpty = false := by rw [← hL, ba_empty]; exact decide_eq_false (by omega)
  have hz : (S.size : Int) ≤ 65535 := by omega
  have hbad := Fd.isn_not hb
  unfold rv
  clear h1 h2 h3 hb ga gb
  rcases hbad with hbad | hbad
  all_goals
    go_enter Try.func81, Try.ntmps81
    go_wp2_with (go_at_call 107; refine (HM.out _).mono ?_; rintro e w1 ⟨rfl, rfl⟩)
    refine wp_loop_rounds 5 ?_
    rw [rounds_succ]
    go_wp2
    rw [rounds_succ]
    go_wp2
    rw [rounds_succ]
    go_wp2
    go_ret
    exact ⟨rfl, below2 w _ _⟩

set_option maxHeartbeats 4000000 in
theorem check_d (S : ByteArray) (m a b c d : Int) (h1 : 1 ≤ S.size) (h2 : S.size ≤ 65535) (h3 : okM m = true) (ga : Fd.isn a = true) (gb : Fd.isn b = true) (gc : Fd.isn c = true) (hb : Fd.isn d = false) (w : World) :
    Calls Try.prog 81 #[rv S m a b c d] w fun e w' => e = .returned (.int .i64 2) ∧ Below w.heap.size w w' := by
  obtain ⟨a0, a1⟩ := Fd.isn_of ga
  obtain ⟨b0, b1⟩ := Fd.isn_of gb
  obtain ⟨c0, c1⟩ := Fd.isn_of gc
  have HM := Lib.hid (fun w => isMethod_any m w)
  rw [h3] at HM
  obtain ⟨L, hL⟩ : ∃ L, S.toList = L := ⟨_, rfl⟩
  have he : L.isEmpty = false := by rw [← hL, ba_empty]; exact decide_eq_false (by omega)
  have hz : (S.size : Int) ≤ 65535 := by omega
  have hbad := Fd.isn_not hb
  unfold rv
  clear h1 h2 h3 hb ga gb gc
  rcases hbad with hbad | hbad
  all_goals
    go_enter Try.func81, Try.ntmps81
    go_wp2_with (go_at_call 107; refine (HM.out _).mono ?_; rintro e w1 ⟨rfl, rfl⟩)
    refine wp_loop_rounds 5 ?_
    rw [rounds_succ]
    go_wp2
    rw [rounds_succ]
    go_wp2
    rw [rounds_succ]
    go_wp2
    rw [rounds_succ]
    go_wp2
    go_ret
    exact ⟨rfl, below2 w _ _⟩

theorem check_any (S : ByteArray) (m a b c d : Int) (w : World) :
    Calls Try.prog 81 #[rv S m a b c d] w fun e w' => e = .returned (.int .i64 (if okR S.size m a b c d then 0 else 2)) ∧ Below w.heap.size w w' := by
  by_cases h : okR S.size m a b c d = true
  · rw [if_pos h]; exact check_ok S m a b c d h w
  · rw [if_neg h]
    by_cases h0 : S.size = 0 ∨ 65535 < S.size ∨ okM m = false
    · exact check_name S m a b c d h0 w
    · have h1 : 1 ≤ S.size := by omega
      have h2 : S.size ≤ 65535 := by omega
      have h3 : okM m = true := by
        cases hm : okM m
        · exact absurd (Or.inr (Or.inr hm)) h0
        · rfl
      cases ga : Fd.isn a
      · exact check_a S m a b c d h1 h2 h3 ga w
      · cases gb : Fd.isn b
        · exact check_b S m a b c d h1 h2 h3 ga gb w
        · cases gc : Fd.isn c
          · exact check_c S m a b c d h1 h2 h3 ga gb gc w
          · cases gd : Fd.isn d
            · exact check_d S m a b c d h1 h2 h3 ga gb gc gd w
            · refine absurd ?_ h
              unfold okR
              rw [h3, ga, gb, gc, gd, decide_eq_true h1, decide_eq_true h2]
              rfl
end Go.Proofs.Ytillckjohlbaiaa
