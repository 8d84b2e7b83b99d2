/- The document's below, list, Compare, Under. -/
import Derived.Test.YtghoajhfndnafaaRsplit
import Derived.Test.YtghoajhfndnafaaPord
import Derived.Lib.MinMax

namespace Go.Proofs.Ytghoajhfndnafaa
set_option maxRecDepth 100000
open Go.RowKit

/-- Below, by the bytes. -/
def bel (a b : Tx) : Bool := decide (Lib.compareBytes a b = -1)
theorem cmp_take (a b : Tx) (k : Nat) (h : a.take k = b.take k) (ha : k ≤ a.length) (hb : k ≤ b.length) : Lib.compareBytes a b = Lib.compareBytes (a.drop k) (b.drop k) := by
  induction k generalizing a b with
  | zero => rfl
  | succ k ih =>
    cases a with
    | nil => simp at ha
    | cons x l =>
      cases b with
      | nil => simp at hb
      | cons y m =>
        rw [List.take_succ_cons, List.take_succ_cons] at h
        injection h with h1 h2
        subst h1
        rw [List.drop_succ_cons, List.drop_succ_cons, ← ih l m h2 (by simpa using ha) (by simpa using hb)]
        simp [Lib.compareBytes]
theorem bel_at (a b : Tx) (k : Nat) (h : a.take k = b.take k) (ha : k < a.length) (hb : k < b.length) (hne : a[k]'ha ≠ b[k]'hb) : bel a b = decide ((a[k]'ha).toNat < (b[k]'hb).toNat) := by
  unfold bel
  rw [cmp_take a b k h (by omega) (by omega), List.drop_eq_getElem_cons ha, List.drop_eq_getElem_cons hb]
  simp only [Lib.compareBytes, UInt8.lt_iff_toNat_lt]
  have hn : (a[k]'ha).toNat ≠ (b[k]'hb).toNat := fun e => hne (UInt8.toNat_inj.1 e)
  split
  · simp_all
  · rw [if_pos (by omega)]
    simp
    omega
theorem bel_end (a b : Tx) (k : Nat) (h : a.take k = b.take k) (hk : k = a.length ∨ k = b.length) (ha : k ≤ a.length) (hb : k ≤ b.length) : bel a b = decide (a.length < b.length) := by
  unfold bel
  rw [cmp_take a b k h ha hb]
  rcases hk with rfl | rfl
  · rw [List.drop_length]
    cases e : b.drop a.length with
    | nil =>
      have : b.length ≤ a.length := List.drop_eq_nil_iff.1 e
      simp [Lib.compareBytes]
      omega
    | cons x l =>
      have : a.length < b.length := by
        have := congrArg List.length e
        simp at this
        omega
      simp [Lib.compareBytes, this]
  · rw [List.drop_length]
    have hn : ¬ a.length < b.length := by omega
    cases e : a.drop b.length with
    | nil => simp [Lib.compareBytes, hn]
    | cons x l => simp [Lib.compareBytes, hn]

set_option maxRecDepth 100000 in
set_option maxHeartbeats 4000000 in
theorem rbelow_any (a b : Tx) (w : World) (ha : a.length ≤ 1048576) :
    Calls Try.prog 40 #[.string (bx a), .string (bx b)] w fun e w' => e = .returned (.bool (bel a b)) ∧ ∃ n, w' = w.drewN n := by
  have za := bx_size a
  have zb := bx_size b
  have GA := Lib.hid (fun (i : Nat) (h : i < a.length) => (show ∃ h' : i < (bx a).size, ((bx a)[i]'h').toNat = (a[i]'h).toNat from ⟨by rw [bx_size]; exact h, by simp [bx, ByteArray.getElem_eq_getElem_data]⟩))
  have GB := Lib.hid (fun (i : Nat) (h : i < b.length) => (show ∃ h' : i < (bx b).size, ((bx b)[i]'h').toNat = (b[i]'h).toNat from ⟨by rw [bx_size]; exact h, by simp [bx, ByteArray.getElem_eq_getElem_data]⟩))
  obtain ⟨A, hA⟩ : ∃ A, A = bx a := ⟨_, rfl⟩
  obtain ⟨B, hB⟩ : ∃ B, B = bx b := ⟨_, rfl⟩
  rw [← hA] at za GA ⊢
  rw [← hB] at zb GB ⊢
  obtain ⟨n, hn⟩ : ∃ n, n = a.length := ⟨_, rfl⟩
  obtain ⟨m, hm⟩ : ∃ m, m = b.length := ⟨_, rfl⟩
  rw [← hn] at za ha
  rw [← hm] at zb
  have HN := Lib.hid hn
  have HM := Lib.hid hm
  obtain ⟨z, hz⟩ : ∃ z, z = bel a b := ⟨_, rfl⟩
  rw [← hz]
  have HZ := Lib.hid hz
  clear hA hB hn hm hz
  go_enter Try.func40, Try.ntmps40
  go_wp2_with fail
  go_loopw [5] (fun s5 wr => ∃ (k q : Nat), k ≤ n ∧ k ≤ m ∧ s5 = .int .i64 (k : Int) ∧ wr = w.drewN q ∧ Hid (a.take k = b.take k)) (fun s5 _ => n - (intOf s5).toNat)
  case atStart => exact ⟨0, 0, Nat.zero_le _, Nat.zero_le _, rfl, rfl, rfl⟩
  case round =>
    obtain ⟨k, q, hk1, hk2, rfl, rfl, HE⟩ := hrel
    by_cases hlt : k < n ∧ k < m
    · obtain ⟨h1, h2⟩ := hlt
      have l1 : k < a.length := by rw [← HN.out]; exact h1
      have l2 : k < b.length := by rw [← HM.out]; exact h2
      obtain ⟨p1, v1⟩ := GA.out k l1
      obtain ⟨p2, v2⟩ := GB.out k l2
      have x0 : (0 : Int) ≤ (k : Int) := by omega
      have x1 : (k : Int) < (A.size : Int) := by omega
      have x2 : (k : Int) < (B.size : Int) := by omega
      have y1 : (k : Int) < (n : Int) := by omega
      have y2 : (k : Int) < (m : Int) := by omega
      have hw : IntKind.i64.wrap ((k : Int) + 1) = (k : Int) + 1 := IntWalk.i64_in _ (by omega)
      generalize hxx : (a[k]'l1).toNat = x at v1
      generalize hyy : (b[k]'l2).toNat = y at v2
      by_cases hxy : x = y
      · have HT : Hid (a.take (k + 1) = b.take (k + 1)) := by
          show _ = _
          rw [List.take_succ_eq_append_getElem l1, List.take_succ_eq_append_getElem l2, HE.out]
          congr 2
          exact UInt8.toNat_inj.1 (by rw [hxx, hyy, hxy])
        have q1 : ((x : Int) != (y : Int)) = false := by rw [hxy]; simp
        clear hxx hyy hxy HE
        go_wp2_with fail
        go_quiet (fail)
        go_wp2_with fail
        go_roundw
        case rel => exact ⟨k + 1, q + nq, by omega, by omega, by go_num, by first | rfl | exact World.drewN_drewN _ _ _, HT⟩
        case measure => simp [intOf] <;> omega
      · have HT : Hid (z = decide (x < y)) := by
          show _ = _
          rw [HZ.out, bel_at a b k HE.out l1 l2 (fun e => hxy (by rw [← hxx, ← hyy, e])), hxx, hyy]
        have q1 : ((x : Int) != (y : Int)) = true := by rw [bne_iff_ne]; omega
        clear hxx hyy HE
        go_wp2_with fail
        go_quiet (fail)
        obtain ⟨q2, hq2⟩ : ∃ q2, (w.drewN q).drewN nq = w.drewN q2 := ⟨q + nq, World.drewN_drewN _ _ _⟩
        rw [hq2]
        clear hq2
        clear nq
        go_wp2_with fail
        go_quiet (fail)
        go_wp2_with fail
        go_ret
        exact ⟨by rw [HT.out]; simp, q2 + nq, by first | rfl | exact World.drewN_drewN _ _ _⟩
    · have HT : Hid (z = decide (n < m)) := by
        show _ = _
        have e1 := HN.out
        have e2 := HM.out
        rw [HZ.out, bel_end a b k HE.out (by omega) (by omega) (by omega), ← e1, ← e2]
      have y1 : ¬ ((k : Int) < (n : Int)) ∨ ((k : Int) < (n : Int) ∧ ¬ ((k : Int) < (m : Int))) := by omega
      clear HE
      rcases y1 with y1 | ⟨y1, y2⟩
      · clear hlt
        go_wp2_with fail
        go_ret
        exact ⟨by rw [HT.out]; rfl, _, rfl⟩
      · clear hlt
        go_wp2_with fail
        go_ret
        exact ⟨by rw [HT.out]; rfl, _, rfl⟩
theorem rlist_any (s : Tx) (w : World) (hs : s.length ≤ 1048576) :
    Calls Try.prog 39 #[.string (bx s)] w fun e w' => ∃ v, e = .returned v ∧ Ot w' w.heap.size v (Pn.names s) ∧ Below w.heap.size w w' := by
  have hl := bx_toList s
  by_cases h0 : s = []
  · subst h0
    generalize bx ([] : Tx) = S at hl ⊢
    go_enter Try.func39, Try.ntmps39
    go_wp2_with fail
    go_ret
    exact ⟨_, rfl, Ot.nil _ _, Below.refl _ _⟩
  · have g0 : s.isEmpty = false := by cases s <;> simp_all
    have C1 := Lib.hid (rpieces_any s w hs)
    have hnm : Pn.pieces s = Pn.names s := by unfold Pn.names; rw [if_neg h0]
    rw [hnm] at C1
    generalize Pn.names s = L at C1 ⊢
    generalize bx s = S at hl C1 ⊢
    clear hnm h0 hs
    go_enter Try.func39, Try.ntmps39
    go_wp2_with fail
    refine C1.out.mono ?_
    rintro e w1 ⟨v, rfl, ho, hb⟩
    have HO := Lib.hid ho
    have HB := Lib.hid hb
    clear ho hb
    go_wp2_with fail
    go_ret
    exact ⟨_, rfl, HO.out, HB.out⟩
end Go.Proofs.Ytghoajhfndnafaa
