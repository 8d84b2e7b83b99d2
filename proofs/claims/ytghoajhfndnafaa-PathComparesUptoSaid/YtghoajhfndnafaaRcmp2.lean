/- The document's Compare. -/
import Derived.Test.YtghoajhfndnafaaRcmp

namespace Go.Proofs.Ytghoajhfndnafaa
set_option maxRecDepth 100000
open Go.RowKit

theorem cmpL_drop (a b : List Tx) (k : Nat) (h : a.take k = b.take k) (ha : k ≤ a.length) (hb : k ≤ b.length) : Pn.cmpL a b = Pn.cmpL (a.drop k) (b.drop k) := by
  induction k generalizing a b with
  | zero => rfl
  | succ k ih =>
    cases a with
    | nil => simp at ha
    | cons x l =>
      cases b with
      | nil => simp at hb
      | cons y m =>
        rw [List.take_succ_cons, List.take_succ_cons] at h
        injection h with h1 h2
        subst h1
        rw [List.drop_succ_cons, List.drop_succ_cons, ← ih l m h2 (by simpa using ha) (by simpa using hb)]
        simp only [Pn.cmpL]
        rw [if_neg (by rw [(Pn.bytes_ord.e x x).2 rfl]; simp)]
theorem cmpL_at (a b : List Tx) (k : Nat) (h : a.take k = b.take k) (ha : k < a.length) (hb : k < b.length) :
    (bel (a[k]'ha) (b[k]'hb) = true → Pn.cmpL a b = -1) ∧ (bel (b[k]'hb) (a[k]'ha) = true → Pn.cmpL a b = 1) ∧ (bel (a[k]'ha) (b[k]'hb) = false → bel (b[k]'hb) (a[k]'ha) = false → a[k]'ha = b[k]'hb) := by
  rw [cmpL_drop a b k h (by omega) (by omega), List.drop_eq_getElem_cons ha, List.drop_eq_getElem_cons hb]
  simp only [Pn.cmpL, bel, decide_eq_true_eq, decide_eq_false_iff_not]
  have hs := Pn.bytes_ord.s (a[k]'ha) (b[k]'hb)
  have hr := Pn.bytes_ord.r (a[k]'ha) (b[k]'hb)
  have he := Pn.bytes_ord.e (a[k]'ha) (b[k]'hb)
  refine ⟨fun h => ?_, fun h => ?_, fun h1 h2 => he.1 (by omega)⟩
  · rw [if_pos (by omega)]; exact h
  · rw [if_pos (by omega)]; omega
theorem cmpL_end (a b : List Tx) (k : Nat) (h : a.take k = b.take k) (hk : k = a.length ∨ k = b.length) (ha : k ≤ a.length) (hb : k ≤ b.length) : Pn.cmpL a b = if a.length < b.length then -1 else if b.length < a.length then 1 else 0 := by
  rw [cmpL_drop a b k h ha hb]
  rcases hk with rfl | rfl
  · rw [List.drop_length]
    cases e : b.drop a.length with
    | nil =>
      have : b.length ≤ a.length := List.drop_eq_nil_iff.1 e
      rw [if_neg (by omega), if_neg (by omega)]; rfl
    | cons x l =>
      have : a.length < b.length := by
        have := congrArg List.length e
        simp at this
        omega
      rw [if_pos this]; rfl
  · rw [List.drop_length]
    cases e : a.drop b.length with
    | nil =>
      have : a.length ≤ b.length := List.drop_eq_nil_iff.1 e
      rw [if_neg (by omega), if_neg (by omega)]; rfl
    | cons x l =>
      have : b.length < a.length := by
        have := congrArg List.length e
        simp at this
        omega
      rw [if_neg (by omega), if_pos this]; rfl

theorem names_each (s : Tx) : ∀ x ∈ Pn.names s, x.length ≤ s.length := by
  intro x hx
  unfold Pn.names at hx
  split at hx
  · simp at hx
  · exact pieces_each s x hx

/-- Where a list's k-th text lies, if there is one. -/
theorem Ss.place {w : World} {v : Value} {l : List Tx} (h : Ss w v l) : ∃ a c, v = .slice a l.length c ∧ ∀ k (hk : k < l.length), ∃ b off, a = some ⟨b, off, none⟩ ∧ b < w.heap.size ∧ w.cell? ⟨b, off + k, none⟩ = some (.string (bx (l[k]'hk))) := by
  obtain ⟨a, c, e, _, h2⟩ := h
  refine ⟨a, c, e, fun k hk => ?_⟩
  obtain ⟨b, off, ea, hb, hc⟩ := h2 (by rintro rfl; simp at hk)
  exact ⟨b, off, ea, hb, hc k hk⟩

set_option maxRecDepth 100000 in
set_option maxHeartbeats 4000000 in
theorem rcompare_any (s t : Tx) (w : World) (hs : s.length ≤ 1048576) (ht : t.length ≤ 1048576) :
    Calls Try.prog 28 #[.string (bx s), .string (bx t)] w fun e w' => e = .returned (.int .i64 (Pn.cmp s t)) ∧ Below w.heap.size w w' := by
  have C1 := Lib.hid (fun w => rlist_any s w hs)
  have C2 := Lib.hid (fun w => rlist_any t w ht)
  have E1 := Lib.hid (names_each s)
  have E2 := Lib.hid (names_each t)
  have N1 := names_len s
  have N2 := names_len t
  obtain ⟨z, hz⟩ : ∃ z, z = Pn.cmp s t := ⟨_, rfl⟩
  rw [← hz]
  have HZ : Hid (z = Pn.cmpL (Pn.names s) (Pn.names t)) := hz
  have HS := Lib.hid (fun _ : Unit => hs)
  have HT := Lib.hid (fun _ : Unit => ht)
  have HN1 : Hid (Unit → (Pn.names s).length ≤ 1048577) := fun _ => by omega
  have HN2 : Hid (Unit → (Pn.names t).length ≤ 1048577) := fun _ => by omega
  generalize Pn.names s = L at *
  generalize Pn.names t = M at *
  generalize bx s = S at *
  generalize bx t = T at *
  clear hz hs ht N1 N2
  go_enter Try.func28, Try.ntmps28
  go_wp2_with fail
  refine (C1.out _).mono ?_
  rintro e w1 ⟨v1, rfl, ho1, b1⟩
  have B1 := Lib.hid b1
  have S1 := Lib.hid ho1.ss
  clear b1 ho1
  go_wp2_with fail
  refine (C2.out _).mono ?_
  rintro e w2 ⟨v2, rfl, ho2, b2⟩
  have B2 := Lib.hid (B1.out.trans (b2.mono B1.out.size))
  have S12 := Lib.hid (S1.out.later b2)
  have S2 := Lib.hid ho2.ss
  clear b2 B1 ho2 S1 C1 C2
  obtain ⟨a1, c1, rfl, P1⟩ := S12.out.place
  obtain ⟨a2, c2, rfl, P2⟩ := S2.out.place
  have HP1 := Lib.hid P1
  have HP2 := Lib.hid P2
  clear P1 P2 S12 S2
  obtain ⟨n, hn⟩ : ∃ n, n = L.length := ⟨_, rfl⟩
  obtain ⟨m, hm⟩ : ∃ m, m = M.length := ⟨_, rfl⟩
  have HN := Lib.hid hn
  have HM := Lib.hid hm
  rw [← hn, ← hm]
  clear hn hm
  go_wp2_with fail
  go_loopw [7] (fun s7 wr => ∃ (k q : Nat), k ≤ n ∧ k ≤ m ∧ s7 = .int .i64 (k : Int) ∧ wr = w2.drewN q ∧ Hid (L.take k = M.take k)) (fun s7 _ => n - (intOf s7).toNat)
  case atStart => exact ⟨0, 0, Nat.zero_le _, Nat.zero_le _, rfl, rfl, rfl⟩
  case round =>
    obtain ⟨k, q, hk1, hk2, rfl, rfl, HE⟩ := hrel
    by_cases hlt : k < n ∧ k < m
    · obtain ⟨h1, h2⟩ := hlt
      have l1 : k < L.length := by rw [← HN.out]; exact h1
      have l2 : k < M.length := by rw [← HM.out]; exact h2
      obtain ⟨b1, o1, rfl, -, q1⟩ := HP1.out k l1
      obtain ⟨b2, o2, rfl, -, q2⟩ := HP2.out k l2
      obtain ⟨f1, f2, f3⟩ := cmpL_at L M k HE.out l1 l2
      rw [← HZ.out] at f1 f2
      have F4 : Hid (bel (L[k]'l1) (M[k]'l2) = false → bel (M[k]'l2) (L[k]'l1) = false → L.take (k + 1) = M.take (k + 1)) := fun g1 g2 => by
        rw [List.take_succ_eq_append_getElem l1, List.take_succ_eq_append_getElem l2, HE.out, f3 g1 g2]
      have F1 := Lib.hid f1
      have F2 := Lib.hid f2
      have y1 : (k : Int) < (n : Int) := by omega
      have y2 : (k : Int) < (m : Int) := by omega
      have x0 : (0 : Int) ≤ (k : Int) := by omega
      have hw : IntKind.i64.wrap ((k : Int) + 1) = (k : Int) + 1 := IntWalk.i64_in _ (by have := HN1.out (); have := HN.out; omega)
      have BL1 := Lib.hid (fun w => rbelow_any (L[k]'l1) (M[k]'l2) w (Nat.le_trans (E1.out _ (List.getElem_mem l1)) (HS.out ())))
      have BL2 := Lib.hid (fun w => rbelow_any (M[k]'l2) (L[k]'l1) w (Nat.le_trans (E2.out _ (List.getElem_mem l2)) (HT.out ())))
      generalize L[k]'l1 = x at *
      generalize M[k]'l2 = y at *
      generalize bx x = X at *
      generalize bx y = Y at *
      generalize bel x y = bxy at *
      generalize bel y x = byx at *
      clear f1 f2 f3 HE
      have BQ1 := Lib.hid (fun p n => (BL1.out (w2.drewN (p + n))).mono (R' := fun e w' => e = .returned (.bool bxy) ∧ ∃ j, w' = w2.drewN (p + j)) (fun _ _ ⟨g1, j, g2⟩ => ⟨g1, n + j, by rw [g2, World.drewN_drewN, Nat.add_assoc]⟩))
      have BQ2 := Lib.hid (fun p n => (BL2.out (w2.drewN (p + n))).mono (R' := fun e w' => e = .returned (.bool byx) ∧ ∃ j, w' = w2.drewN (p + j)) (fun _ _ ⟨g1, j, g2⟩ => ⟨g1, n + j, by rw [g2, World.drewN_drewN, Nat.add_assoc]⟩))
      clear BL1 BL2
      cases bxy with
      | true =>
        have hz := Lib.hid (F1.out rfl)
        clear F1 F2 F4
        go_wp2_with fail
        go_quiet ((go_at_call 40; exact BQ1.out _ _))
        go_wp2_with fail
        go_ret
        exact ⟨by rw [hz.out]; rfl, below_drewN (below_drewN B2.out _) _⟩
      | false =>
        have F5 := Lib.hid (F4.out rfl)
        clear F1 F4
        go_wp2_with fail
        go_quiet ((go_at_call 40; exact BQ1.out _ _))
        obtain ⟨q2, hq2⟩ : ∃ q2, (w2.drewN q).drewN nq = w2.drewN q2 := ⟨q + nq, World.drewN_drewN _ _ _⟩
        rw [hq2]
        clear hq2
        clear nq
        cases byx with
        | true =>
          have hz := Lib.hid (F2.out rfl)
          clear F2 F5
          go_wp2_with fail
          go_quiet ((go_at_call 40; exact BQ2.out _ _))
          go_wp2_with fail
          go_ret
          exact ⟨by rw [hz.out]; rfl, below_drewN (below_drewN B2.out _) _⟩
        | false =>
          have hz := Lib.hid (F5.out rfl)
          clear F2 F5
          go_wp2_with fail
          go_quiet ((go_at_call 40; exact BQ2.out _ _))
          go_wp2_with fail
          go_roundw
          case rel => exact ⟨k + 1, q2 + nq, by omega, by omega, by go_num, by first | rfl | exact World.drewN_drewN _ _ _, hz⟩
          case measure => simp [intOf] <;> omega
    · have e1 := HN.out
      have e2 := HM.out
      have hz0 := cmpL_end L M k HE.out (by omega) (by omega) (by omega)
      rw [← HZ.out, ← e1, ← e2] at hz0
      have y1 : ¬ ((k : Int) < (n : Int)) ∨ ((k : Int) < (n : Int) ∧ ¬ ((k : Int) < (m : Int))) := by omega
      clear HE e1 e2 hlt
      rcases Nat.lt_trichotomy n m with h | h | h
      · have hz : Hid (z = -1) := by show _ = _; rw [hz0, if_pos h]
        have u1 : decide ((n : Int) < (m : Int)) = true := by simp; omega
        have u2 : n < m := h
        clear hz0 h
        rcases y1 with y1 | ⟨y1, y2⟩
        · go_wp2_with fail
          go_ret
          exact ⟨by rw [hz.out]; rfl, below_drewN B2.out _⟩
        · go_wp2_with fail
          go_ret
          exact ⟨by rw [hz.out]; rfl, below_drewN B2.out _⟩
      · have hz : Hid (z = 0) := by show _ = _; rw [hz0, if_neg (by omega), if_neg (by omega)]
        have u2 : ¬ n < m := by omega
        have u3 : ¬ m < n := by omega
        clear hz0 h
        rcases y1 with y1 | ⟨y1, y2⟩
        · go_wp2_with fail
          go_ret
          exact ⟨by rw [hz.out]; rfl, below_drewN B2.out _⟩
        · go_wp2_with fail
          go_ret
          exact ⟨by rw [hz.out]; rfl, below_drewN B2.out _⟩
      · have hz : Hid (z = 1) := by show _ = _; rw [hz0, if_neg (by omega), if_pos h]
        have u2 : ¬ n < m := by omega
        have u3 : m < n := h
        clear hz0 h
        rcases y1 with y1 | ⟨y1, y2⟩
        · go_wp2_with fail
          go_ret
          exact ⟨by rw [hz.out]; rfl, below_drewN B2.out _⟩
        · go_wp2_with fail
          go_ret
          exact ⟨by rw [hz.out]; rfl, below_drewN B2.out _⟩
end Go.Proofs.Ytghoajhfndnafaa
