/- The document's Split, Text, Join. -/
import Derived.Test.YtghoajhfndnafaaRpiec
import Derived.Test.YtghoajhfndnafaaRsame
import Derived.Laws.Concat

namespace Go.Proofs.Ytghoajhfndnafaa
set_option maxRecDepth 100000
open Go.RowKit

theorem path_bad {l : List Tx} (k : Nat) (h : k < l.length) (hb : Pn.name (l[k]'h) = false) : Pn.path l = false := by
  simp only [Pn.path]
  rw [all_bad' l k h _ hb]
  simp
theorem path_long {l : List Tx} (h : 8 < l.length) : Pn.path l = false := by
  simp only [Pn.path]
  simp
  omega
theorem path_good {l : List Tx} (h : l.length ≤ 8) (h2 : l.all Pn.name = true) (h3 : (Pn.join l).length ≤ 120) : Pn.path l = true := by
  simp only [Pn.path]
  rw [h2]
  simp
  omega

set_option maxRecDepth 100000 in
set_option maxHeartbeats 4000000 in
theorem rsplit_any (s : Tx) (w : World) :
    Calls Try.prog 14 #[.string (bx s)] w fun e w' => ∃ v, e = .returned (.tuple #[v, .int .i64 (ec (Pn.path (Pn.names s)))]) ∧ Ot w' w.heap.size v (Pn.split s).1 ∧ Below w.heap.size w w' := by
  have hl := bx_toList s
  have hz := bx_size s
  by_cases h0 : s = []
  · subst h0
    have e1 : Pn.path (Pn.names []) = true := by decide
    have e2 : (Pn.split []).1 = [] := by decide
    rw [e1, e2]
    generalize bx ([] : Tx) = S at hl hz ⊢
    clear e1 e2
    go_enter Try.func14, Try.ntmps14
    go_wp2_with fail
    go_ret2
    exact ⟨_, rfl, Ot.nil _ _, Below.refl _ _⟩
  have g0 : s.isEmpty = false := by cases s <;> simp_all
  by_cases h1 : 120 < s.length
  · have hq : Pn.path (Pn.names s) = false := by
      simp only [Pn.path]
      rw [Pn.join_names]
      simp
      omega
    have HE : Hid (Ot w w.heap.size (.slice none 0 0) (Pn.split s).1) := by show Ot _ _ _ _; simp only [Pn.split, hq]; exact Ot.nil _ _
    have q1 : decide (((s.length : Nat) : Int) > 120) = true := by simp; omega
    rw [hq]
    generalize (Pn.split s).1 = L at HE
    generalize bx s = S at hl hz
    clear h1 h0 hq
    go_enter Try.func14, Try.ntmps14
    go_wp2_with fail
    go_ret2
    exact ⟨_, rfl, HE.out, Below.refl _ _⟩
  have q1 : decide (((s.length : Nat) : Int) > 120) = false := by simp; omega
  have C1 := Lib.hid (fun w => rpieces_any s w (by omega))
  have hnm : Pn.pieces s = Pn.names s := by unfold Pn.names; rw [if_neg h0]
  rw [hnm] at C1
  have hj : (Pn.join (Pn.names s)).length ≤ 120 := by rw [Pn.join_names]; omega
  obtain ⟨R, hR⟩ : ∃ R, R = (Pn.split s).1 := ⟨_, rfl⟩
  rw [← hR]
  have hR1 : Pn.path (Pn.names s) = true → R = Pn.names s := fun h => by rw [hR, split_fst, h]; rfl
  have hR2 : Pn.path (Pn.names s) = false → R = [] := fun h => by rw [hR, split_fst, h]; rfl
  clear hR
  generalize bx s = S at hl hz C1 ⊢
  generalize Pn.names s = L at C1 hj hR1 hR2 ⊢
  clear hnm h0 h1
  by_cases h8 : 8 < L.length
  · have hq := path_long h8
    have q2 : decide (((L.length : Nat) : Int) > 8) = true := by simp; omega
    have hRR := Lib.hid (hR2 hq)
    rw [hq]
    clear hq hj h8 hR1 hR2
    go_enter Try.func14, Try.ntmps14
    go_wp2_with fail
    refine (C1.out _).mono ?_
    rintro e w1 ⟨v, rfl, ho, hb⟩
    obtain ⟨a, c, rfl, -⟩ := ho.ss
    clear ho
    have HB := Lib.hid hb
    clear hb
    go_wp2_with fail
    go_ret2
    exact ⟨_, rfl, by rw [hRR.out]; exact Ot.nil _ _, HB.out⟩
  · have q2 : decide (((L.length : Nat) : Int) > 8) = false := by simp; omega
    obtain ⟨n, hn⟩ : ∃ n, n = L.length := ⟨_, rfl⟩
    have HN := Lib.hid hn
    rw [← hn] at q2 h8
    have hn8 : n ≤ 8 := by omega
    have HJ := Lib.hid hj
    obtain ⟨z, hzz⟩ : ∃ z, z = Pn.path L := ⟨_, rfl⟩
    rw [← hzz] at hR1 hR2 ⊢
    have HZ := Lib.hid hzz
    have HR1 := Lib.hid hR1
    have HR2 := Lib.hid hR2
    clear hn hj h8 hzz hR1 hR2
    go_enter Try.func14, Try.ntmps14
    go_wp2_with fail
    refine (C1.out _).mono ?_
    rintro e w1 ⟨v, rfl, ho, hb⟩
    have HB := Lib.hid hb
    have HO := Lib.hid ho
    rcases ho.ss.at with ⟨a1, c1, rfl, -, hL⟩ | ⟨b1, o1, c1, rfl, -, g1, -, d1⟩
    · have hn0 : n = 0 := by rw [HN.out, hL]; rfl
      have hzt : Hid (z = true) := by show _ = _; rw [HZ.out, hL]; decide
      rw [← HN.out] at HO
      subst hn0
      rw [← HN.out]
      clear ho hb hL
      go_wp2_with fail
      go_loopw [5] (fun s5 wr => s5 = .int .i64 0 ∧ wr = w1) (fun _ _ => 0)
      case atStart => exact ⟨rfl, rfl⟩
      case round =>
        obtain ⟨rfl, rfl⟩ := hrel
        go_wp2_with fail
        go_ret2
        exact ⟨_, by rw [hzt.out]; rfl, by rw [HR1.out hzt.out]; exact HO.out, HB.out⟩
    · have D1 := Lib.hid d1
      rw [← HN.out] at HO ⊢
      clear ho hb d1 g1
      go_wp2_with fail
      go_loopw [5] (fun s5 wr => ∃ k : Nat, k ≤ n ∧ s5 = .int .i64 (k : Int) ∧ wr = w1 ∧ Hid ((L.take k).all Pn.name = true)) (fun s5 _ => n - (intOf s5).toNat)
      case atStart => exact ⟨0, Nat.zero_le _, rfl, rfl, rfl⟩
      case round =>
        obtain ⟨k, hk, rfl, rfl, HA⟩ := hrel
        by_cases hlt : k < n
        · have hkl : k < L.length := by rw [← HN.out]; exact hlt
          have hcx := D1.out k hkl
          have HNM := Lib.hid (rname_any (L[k]'hkl) wr)
          have HX : Hid (Pn.name (L[k]'hkl) = true → (L.take (k + 1)).all Pn.name = true) := fun h => by rw [all_take_succ' L k hkl, HA.out, h]; rfl
          have HY : Hid (Pn.name (L[k]'hkl) = false → z = false) := fun h => by rw [HZ.out]; exact path_bad k hkl h
          generalize L[k]'hkl = x at hcx HNM HX HY
          generalize bx x = X at hcx HNM
          cases hnm : Pn.name x with
          | false =>
            have hzf := Lib.hid (HY.out hnm)
            rw [hnm] at HNM
            clear hnm HX HY HA
            go_wp2_with (go_at_call 16; refine HNM.out.mono ?_; rintro e w3 ⟨rfl, rfl⟩; simp only [ec])
            go_ret2
            exact ⟨_, by rw [hzf.out]; rfl, by rw [HR2.out hzf.out]; exact Ot.nil _ _, HB.out⟩
          | true =>
            have HT := Lib.hid (HX.out hnm)
            rw [hnm] at HNM
            have w0 : IntKind.i64.wrap ((k : Int) + 1) = (k : Int) + 1 := IntWalk.i64_in _ (by omega)
            clear hnm HX HY HA
            go_wp2_with (go_at_call 16; refine HNM.out.mono ?_; rintro e w3 ⟨rfl, rfl⟩; simp only [ec])
            go_roundw
            case rel => exact ⟨k + 1, by omega, by go_num, by first | rfl | trivial, HT⟩
            case measure => simp [intOf] <;> omega
        · obtain rfl : k = n := by omega
          have hzt : Hid (z = true) := by
            show _ = _
            rw [HZ.out]
            have h := HA.out
            rw [List.take_of_length_le (by rw [← HN.out]; exact Nat.le_refl _)] at h
            exact path_good (by rw [← HN.out]; exact hn8) h HJ.out
          clear hlt HA
          go_wp2_with fail
          go_ret2
          exact ⟨_, by rw [hzt.out]; rfl, by rw [HR1.out hzt.out]; exact HO.out, HB.out⟩
end Go.Proofs.Ytghoajhfndnafaa
