/- The document's Under. -/
import Derived.Test.YtghoajhfndnafaaRcmp2

namespace Go.Proofs.Ytghoajhfndnafaa
set_option maxRecDepth 100000
open Go.RowKit

set_option maxRecDepth 100000 in
set_option maxHeartbeats 4000000 in
theorem runder_any (s t : Tx) (w : World) :
    Calls Try.prog 26 #[.string (bx s), .string (bx t)] w fun e w' => e = .returned (.bool (Pn.under s t)) ∧ Below w.heap.size w w' := by
  have C1 := Lib.hid (fun w => rsplit_any s w)
  have C2 := Lib.hid (fun w => rsplit_any t w)
  obtain ⟨z, hz⟩ : ∃ z, z = Pn.under s t := ⟨_, rfl⟩
  rw [← hz]
  have h1 := split_fst (s := s)
  have h2 := split_fst (s := t)
  have n1 : (Pn.split s).1.length ≤ 8 := by
    rw [h1]
    cases h : Pn.path (Pn.names s) with
    | true => exact Pn.path_len h
    | false => simp
  have n2 : (Pn.split t).1.length ≤ 8 := by
    rw [h2]
    cases h : Pn.path (Pn.names t) with
    | true => exact Pn.path_len h
    | false => simp
  have HZ : Hid (z = (Pn.path (Pn.names s) && Pn.path (Pn.names t) && decide ((Pn.split t).1.length ≤ (Pn.split s).1.length) && decide ((Pn.split t).1 = (Pn.split s).1.take (Pn.split t).1.length))) := by
    show _ = _
    rw [hz, h1, h2]
    unfold Pn.under
    cases Pn.path (Pn.names s) <;> cases Pn.path (Pn.names t) <;> simp
  generalize (Pn.split s).1 = L at *
  generalize (Pn.split t).1 = M at *
  generalize Pn.path (Pn.names s) = x at *
  generalize Pn.path (Pn.names t) = y at *
  generalize bx s = S at *
  generalize bx t = T at *
  clear hz h1 h2
  go_enter Try.func26, Try.ntmps26
  go_wp2_with fail
  refine (C1.out _).mono ?_
  rintro e w1 ⟨v1, rfl, ho1, b1⟩
  have B1 := Lib.hid b1
  have S1 := Lib.hid ho1.ss
  clear b1 ho1
  go_wp2_with fail
  refine (C2.out _).mono ?_
  rintro e w2 ⟨v2, rfl, ho2, b2⟩
  have B2 := Lib.hid (B1.out.trans (b2.mono B1.out.size))
  have S12 := Lib.hid (S1.out.later b2)
  have S2 := Lib.hid ho2.ss
  clear b2 B1 ho2 S1 C1 C2
  obtain ⟨a1, c1, rfl, P1⟩ := S12.out.place
  obtain ⟨a2, c2, rfl, P2⟩ := S2.out.place
  have HP1 := Lib.hid P1
  have HP2 := Lib.hid P2
  clear P1 P2 S12 S2
  cases x with
  | false =>
    have hz : Hid (z = false) := by show _ = _; rw [HZ.out]; simp
    clear HZ HP1 HP2
    generalize L.length = n at *
    generalize M.length = m at *
    simp only [ec]
    cases y with
    | false =>
      go_wp2_with fail
      go_ret
      exact ⟨by rw [hz.out]; rfl, B2.out⟩
    | true =>
      go_wp2_with fail
      go_ret
      exact ⟨by rw [hz.out]; rfl, B2.out⟩
  | true =>
    cases y with
    | false =>
      have hz : Hid (z = false) := by show _ = _; rw [HZ.out]; simp
      clear HZ HP1 HP2
      generalize L.length = n at *
      generalize M.length = m at *
      simp only [ec]
      go_wp2_with fail
      go_ret
      exact ⟨by rw [hz.out]; rfl, B2.out⟩
    | true =>
      obtain ⟨n, hn⟩ : ∃ n, n = L.length := ⟨_, rfl⟩
      obtain ⟨m, hm⟩ : ∃ m, m = M.length := ⟨_, rfl⟩
      have HN := Lib.hid hn
      have HM := Lib.hid hm
      rw [← hn, ← hm] at HZ
      rw [← hn] at n1
      rw [← hm] at n2
      rw [← hn, ← hm]
      clear hn hm
      simp only [ec]
      by_cases hk : n < m
      · have hz : Hid (z = false) := by
          show _ = _
          rw [HZ.out]
          have : decide (m ≤ n) = false := by simp; omega
          rw [this]
          simp
        clear HZ HP1 HP2
        go_wp2_with fail
        go_ret
        exact ⟨by rw [hz.out]; rfl, B2.out⟩
      · have hk2 : m ≤ n := by omega
        have HZ2 : Hid (z = decide (M = L.take m)) := by
          show _ = _
          rw [HZ.out]
          have : decide (m ≤ n) = true := by simpa using hk2
          rw [this]
          simp
        clear HZ
        go_wp2_with fail
        go_loopw [9] (fun s9 wr => ∃ (k q : Nat), k ≤ m ∧ s9 = .int .i64 (k : Int) ∧ wr = w2.drewN q ∧ Hid (L.take k = M.take k)) (fun s9 _ => m - (intOf s9).toNat)
        case atStart => exact ⟨0, 0, Nat.zero_le _, rfl, rfl, rfl⟩
        case round =>
          obtain ⟨k, q, hk1, rfl, rfl, HE⟩ := hrel
          by_cases hlt : k < m
          · have l1 : k < L.length := by rw [← HN.out]; omega
            have l2 : k < M.length := by rw [← HM.out]; exact hlt
            obtain ⟨b1, o1, rfl, -, q1⟩ := HP1.out k l1
            obtain ⟨b2, o2, rfl, -, q2⟩ := HP2.out k l2
            have y1 : (k : Int) < (n : Int) := by omega
            have y2 : (k : Int) < (m : Int) := by omega
            have x0 : (0 : Int) ≤ (k : Int) := by omega
            have hw : IntKind.i64.wrap ((k : Int) + 1) = (k : Int) + 1 := IntWalk.i64_in _ (by omega)
            obtain ⟨x, hx⟩ : ∃ x, x = L[k]'l1 := ⟨_, rfl⟩
            obtain ⟨y, hy⟩ : ∃ y, y = M[k]'l2 := ⟨_, rfl⟩
            rw [← hx] at q1
            rw [← hy] at q2
            have tx := bx_toList x
            have ty := bx_toList y
            obtain ⟨X, hX⟩ : ∃ X, X = bx x := ⟨_, rfl⟩
            obtain ⟨Y, hY⟩ : ∃ Y, Y = bx y := ⟨_, rfl⟩
            rw [← hX] at q1 tx
            rw [← hY] at q2 ty
            clear hX hY
            by_cases hxy : x = y
            · have g1 : (x == y) = true := by simpa using hxy
              have HT : Hid (L.take (k + 1) = M.take (k + 1)) := by
                show _ = _
                rw [List.take_succ_eq_append_getElem l1, List.take_succ_eq_append_getElem l2, HE.out, ← hx, ← hy, hxy]
              clear hx hy l1 l2 hxy HE hk hk2
              go_wp2_with fail
              go_quiet (fail)
              go_wp2_with fail
              go_roundw
              case rel => exact ⟨k + 1, q + nq, by omega, by go_num, by first | rfl | exact World.drewN_drewN _ _ _, HT⟩
              case measure => simp [intOf] <;> omega
            · have g1 : (x == y) = false := by simpa using hxy
              have hz : Hid (z = false) := by
                show _ = _
                rw [HZ2.out, decide_eq_false_iff_not]
                intro h
                apply hxy
                rw [hx, hy]
                have h' := congrArg (fun l : List Tx => l[k]?) h
                try dsimp only at h'
                rw [List.getElem?_take, if_pos hlt, List.getElem?_eq_getElem l1, List.getElem?_eq_getElem l2] at h'
                injection h' with h'
                exact h'.symm
              clear hx hy l1 l2 hxy HE hk hk2
              go_wp2_with fail
              go_quiet (fail)
              go_wp2_with fail
              go_ret
              exact ⟨by rw [hz.out]; rfl, below_drewN (below_drewN B2.out _) _⟩
          · obtain rfl : k = m := by omega
            have hz : Hid (z = true) := by
              show _ = _
              rw [HZ2.out, decide_eq_true_eq, HE.out, List.take_of_length_le (by rw [← HM.out]; exact Nat.le_refl _)]
            clear hlt HE hk hk2
            go_wp2_with fail
            go_ret
            exact ⟨by rw [hz.out]; rfl, below_drewN B2.out _⟩
end Go.Proofs.Ytghoajhfndnafaa
