/- The document's Name and Pieces. -/
import Derived.Test.YtghoajhfndnafaaPgrow
import Derived.Test.YtghoajhfndnafaaPsplit

namespace Go.Proofs.Ytghoajhfndnafaa
set_option maxRecDepth 100000
open Go.RowKit

theorem byte_cases (c : UInt8) : (Pn.okc c = true ∧ 32 ≤ c.toNat ∧ c.toNat ≤ 126 ∧ c.toNat ≠ 47 ∧ c.toNat ≠ 92) ∨ (Pn.okc c = false ∧ (c.toNat < 32 ∨ (32 ≤ c.toNat ∧ 126 < c.toNat) ∨ c.toNat = 47 ∨ c.toNat = 92)) := by
  cases hk : Pn.okc c
  · refine Or.inr ⟨rfl, ?_⟩
    simp only [Pn.okc, Bool.and_eq_false_iff, decide_eq_false_iff_not, Bool.not_eq_false', beq_iff_eq] at hk
    omega
  · refine Or.inl ⟨rfl, ?_⟩
    simp only [Pn.okc, Bool.and_eq_true, decide_eq_true_eq, Bool.not_eq_true', beq_eq_false_iff_ne] at hk
    omega

set_option maxRecDepth 100000 in
set_option maxHeartbeats 4000000 in
theorem rname_any (s : Tx) (w : World) :
    Calls Try.prog 16 #[.string (bx s)] w fun e w' => e = .returned (.int .i64 (ec (Pn.name s))) ∧ w' = w := by
  have hl := bx_toList s
  have hz := bx_size s
  have HG := Lib.hid (fun (i : Nat) (h : i < s.length) => (show ∃ h' : i < (bx s).size, ((bx s)[i]'h').toNat = (s[i]'h).toNat from ⟨by rw [bx_size]; exact h, by simp [bx, ByteArray.getElem_eq_getElem_data]⟩))
  obtain ⟨S, hS⟩ : ∃ S, S = bx s := ⟨_, rfl⟩
  rw [← hS] at hl hz HG ⊢
  clear hS
  have back : Pn.name s = false → ((.returned (.int .i64 8) : Ending) = .returned (.int .i64 (ec (Pn.name s)))) := fun h => by rw [h]; rfl
  by_cases h1 : s = []
  · subst h1
    go_enter Try.func16, Try.ntmps16
    go_wp2_with fail
    go_ret
    exact ⟨back rfl, rfl⟩
  have hpos : 1 ≤ s.length := by cases s <;> simp_all
  have e1 : decide (((s.length : Nat) : Int) < 1) = false := by simp; omega
  by_cases h2 : 32 < s.length
  · have h2' : decide (((s.length : Nat) : Int) > 32) = true := by simp; omega
    have HB := Lib.hid (back (by simp [Pn.name]; omega))
    clear back
    go_enter Try.func16, Try.ntmps16
    go_wp2_with fail
    go_ret
    exact ⟨HB.out, rfl⟩
  have h2' : decide (((s.length : Nat) : Int) > 32) = false := by simp; omega
  by_cases h3 : s = [46]
  · subst h3
    have HB := Lib.hid (back rfl)
    clear back
    go_enter Try.func16, Try.ntmps16
    go_wp2_with fail
    go_ret
    exact ⟨HB.out, rfl⟩
  by_cases h4 : s = [46, 46]
  · subst h4
    have HB := Lib.hid (back rfl)
    clear back
    go_enter Try.func16, Try.ntmps16
    go_wp2_with fail
    go_ret
    exact ⟨HB.out, rfl⟩
  have e3 : (s == [46]) = false := by simpa using h3
  have e4 : (s == [46, 46]) = false := by simpa using h4
  have hn : Pn.name s = s.all Pn.okc := by
    unfold Pn.name
    rw [e3, e4]
    simp
    omega
  have HN := Lib.hid hn
  have HB := Lib.hid back
  obtain ⟨N, hN⟩ : ∃ N, N = s.length := ⟨_, rfl⟩
  rw [← hN] at hz h2' e1
  have HZ := Lib.hid hN
  have hN32 : N ≤ 32 := by omega
  clear h1 h2 h3 h4 hn back hN hpos
  go_enter Try.func16, Try.ntmps16
  go_wp2_with fail
  go_loopw [3] (fun s3 wr => ∃ pos : Nat, wr = w ∧ pos ≤ N ∧ s3 = .int .i64 (pos : Int) ∧ Hid ((s.take pos).all Pn.okc = true)) (fun s3 _ => N - (intOf s3).toNat)
  case atStart => exact ⟨0, rfl, Nat.zero_le _, rfl, rfl⟩
  case round =>
    obtain ⟨pos, rfl, hle, rfl, HP⟩ := hrel
    by_cases hp : pos < N
    · have hp2 : pos < s.length := by rw [← HZ.out]; exact hp
      obtain ⟨hp3, hval⟩ := HG.out pos hp2
      have hcase := byte_cases (s[pos]'hp2)
      have HA : Hid (Pn.okc (s[pos]'hp2) = true → (s.take (pos + 1)).all Pn.okc = true) := fun h => by rw [all_take_succ s pos hp2, HP.out, h]; rfl
      have HF : Hid (Pn.okc (s[pos]'hp2) = false → Pn.name s = false) := fun h => by rw [HN.out]; exact all_bad s pos hp2 _ h
      generalize s[pos]'hp2 = c at hval hcase HA HF
      have hp4 : (pos : Int) < (N : Int) := by omega
      have hp5 : (0 : Int) ≤ (pos : Int) := by omega
      have hp6 : (pos : Int) < (S.size : Int) := by omega
      generalize hx : c.toNat = x at hval hcase
      rcases hcase with ⟨g1, g2, g3, g4, g5⟩ | ⟨g1, hbad⟩
      · have HT : Hid ((s.take (pos + 1)).all Pn.okc = true) := HA.out g1
        have q1 : ((x : Int) < 32) = False := by simp; omega
        have q2 : (126 < (x : Int)) = False := by simp; omega
        have q3 : ((x : Int) == 47) = false := by simp; omega
        have q4 : ((x : Int) == 92) = false := by simp; omega
        clear hx HA HF g1 g2 g3 g4 g5
        go_wp2_with fail
        go_roundw
        case rel => exact ⟨pos + 1, by first | rfl | trivial, by omega, by go_num, HT⟩
        case measure => simp [intOf]; omega
      · have QB := Lib.hid (HB.out (HF.out g1))
        clear hx HA HF g1 HP
        rcases hbad with h | ⟨h, h'⟩ | rfl | rfl
        · have q1 : ((x : Int) < 32) = True := by simp; omega
          clear h
          go_wp2_with fail
          go_ret
          exact ⟨QB.out, rfl⟩
        · have q1 : ((x : Int) < 32) = False := by simp; omega
          have q2 : (126 < (x : Int)) = True := by simp; omega
          clear h h'
          go_wp2_with fail
          go_ret
          exact ⟨QB.out, rfl⟩
        · go_wp2_with fail
          go_ret
          exact ⟨QB.out, rfl⟩
        · go_wp2_with fail
          go_ret
          exact ⟨QB.out, rfl⟩
    · obtain rfl : pos = N := by omega
      have HF : Hid (Pn.name s = true) := by
        show _ = _
        rw [HN.out, ← HP.out, List.take_of_length_le (by rw [← HZ.out]; exact Nat.le_refl _)]
      clear hp HP
      go_wp2_with fail
      go_ret
      exact ⟨by rw [HF.out]; rfl, rfl⟩

/-- The pieces of a text whose first part has none of 47: so far. -/
theorem pieces_free_app (a b : Tx) (h : (47 : UInt8) ∉ a) : ∃ x l, Pn.pieces b = x :: l ∧ Pn.pieces (a ++ b) = (a ++ x) :: l := by
  induction a with
  | nil => 
    cases e : Pn.pieces b with
    | nil => exact absurd e (Pn.pieces_ne b)
    | cons x l => exact ⟨x, l, rfl, by simpa using e⟩
  | cons c cs ih =>
    obtain ⟨x, l, e1, e2⟩ := ih (fun hm => h (by simp [hm]))
    have h1 : c ≠ 47 := fun e => h (by simp [e])
    obtain ⟨p, ps, e3, e4⟩ := Pn.pieces_cons c (cs ++ b) h1
    rw [e2] at e3
    injection e3 with e5 e6
    refine ⟨x, l, e1, ?_⟩
    rw [List.cons_append, e4, ← e5, ← e6]
    rfl
end Go.Proofs.Ytghoajhfndnafaa
