/- The document's Same. -/
import Derived.Test.YtghoajhfndnafaaPmay

namespace Go.Proofs.Ytghoajhfndnafaa
set_option maxRecDepth 100000
open Go.RowKit

theorem Ss.at {w : World} {v : Value} {l : List Tx} (h : Ss w v l) : (∃ a c, v = .slice a l.length c ∧ l.length ≤ c ∧ l = []) ∨ ∃ b off c, v = .slice (some ⟨b, off, none⟩) l.length c ∧ l.length ≤ c ∧ b < w.heap.size ∧ l ≠ [] ∧ ∀ i (h : i < l.length), w.cell? ⟨b, off + i, none⟩ = some (.string (bx (l[i]'h))) := by
  obtain ⟨a, c, e, h1, h2⟩ := h
  by_cases h0 : l = []
  · exact Or.inl ⟨a, c, e, h1, h0⟩
  · obtain ⟨b, off, rfl, hb, hc⟩ := h2 h0
    exact Or.inr ⟨b, off, c, e, h1, hb, h0, hc⟩

set_option maxRecDepth 100000 in
set_option maxHeartbeats 4000000 in
theorem rsame_any (v1 v2 : Value) (l1 l2 : List Tx) (w : World) (h1 : Ss w v1 l1) (h2 : Ss w v2 l2) (hb : l1.length ≤ 1000000) :
    Calls Try.prog 17 #[v1, v2] w fun e w' => e = .returned (.bool (decide (l1 = l2))) ∧ Below w.heap.size w w' := by
  by_cases hl : l1.length = l2.length
  · rcases h1.at with ⟨a1, c1, rfl, _, rfl⟩ | ⟨b1, o1, c1, rfl, k1, g1, n1, d1⟩
    · obtain rfl : l2 = [] := List.eq_nil_of_length_eq_zero hl.symm
      obtain ⟨a2, c2, rfl, _⟩ := h2
      clear h1 hl
      go_enter Try.func17, Try.ntmps17
      go_wp2_with fail
      go_loopw [5] (fun s5 wr => s5 = .int .i64 0 ∧ wr = w) (fun _ _ => 0)
      case atStart => exact ⟨rfl, rfl⟩
      case round =>
        obtain ⟨rfl, rfl⟩ := hrel
        go_wp2_with fail
        go_ret
        exact ⟨rfl, Below.refl _ _⟩
    · rcases h2.at with ⟨a2, c2, rfl, _, rfl⟩ | ⟨b2, o2, c2, rfl, k2, g2, n2, d2⟩
      · exact absurd (List.eq_nil_of_length_eq_zero hl) n1
      · have D1 := Lib.hid d1
        have D2 := Lib.hid d2
        have G1 := Lib.hid g1
        have G2 := Lib.hid g2
        rw [← hl]
        obtain ⟨n, hn⟩ : ∃ n, n = l1.length := ⟨_, rfl⟩
        have HN := Lib.hid hn
        have HN2 : Hid (n = l2.length) := hn.trans hl
        rw [← hn] at hb ⊢
        obtain ⟨z, hz⟩ : ∃ z, z = decide (l1 = l2) := ⟨_, rfl⟩
        rw [← hz]
        have HZ := Lib.hid hz
        clear h1 h2 d1 d2 g1 g2 n1 n2 hl hn hz k1 k2
        have i1 : ((n : Int) != (n : Int)) = false := by simp
        go_enter Try.func17, Try.ntmps17
        go_wp2_with fail
        go_loopw [5] (fun s5 wr => ∃ k : Nat, k ≤ n ∧ s5 = .int .i64 (k : Int) ∧ Hid (l1.take k = l2.take k) ∧ Hid (Below w.heap.size w wr)) (fun s5 _ => n - (intOf s5).toNat)
        case atStart => exact ⟨0, Nat.zero_le _, rfl, rfl, Lib.hid (Below.refl _ _)⟩
        case round =>
          obtain ⟨k, hk, rfl, HE, HW⟩ := hrel
          by_cases hlt : k < n
          · have e1 : k < l1.length := by rw [← HN.out]; exact hlt
            have e2 : k < l2.length := by rw [← HN2.out]; exact hlt
            have q1 := (HW.out.cell (p := ⟨b1, o1 + k, none⟩) G1.out).trans (D1.out k e1)
            have q2 := (HW.out.cell (p := ⟨b2, o2 + k, none⟩) G2.out).trans (D2.out k e2)
            obtain ⟨x, hx⟩ : ∃ x, x = l1[k]'e1 := ⟨_, rfl⟩
            obtain ⟨y, hy⟩ : ∃ y, y = l2[k]'e2 := ⟨_, rfl⟩
            rw [← hx] at q1
            rw [← hy] at q2
            have tx := bx_toList x
            have ty := bx_toList y
            obtain ⟨X, hX⟩ : ∃ X, X = bx x := ⟨_, rfl⟩
            obtain ⟨Y, hY⟩ : ∃ Y, Y = bx y := ⟨_, rfl⟩
            rw [← hX] at q1 tx
            rw [← hY] at q2 ty
            clear hX hY
            by_cases hxy : x = y
            · have b1 : (x == y) = true := by simpa using hxy
              have HS : Hid (l1.take (k + 1) = l2.take (k + 1)) := by
                show _ = _
                rw [List.take_succ_eq_append_getElem e1, List.take_succ_eq_append_getElem e2, HE.out, ← hx, ← hy, hxy]
              have hk1 : (k : Int) < (n : Int) := by omega
              clear hx hy e1 e2 hxy HE
              go_wp2_with fail
              go_quiet (fail)
              go_wp2_with fail
              go_roundw
              case rel => exact ⟨k + 1, by omega, by go_num, HS, Lib.hid (below_drewN HW.out _)⟩
              case measure => simp [intOf]; omega
            · have b1 : (x == y) = false := by simpa using hxy
              have HS : Hid (z = false) := by
                show _ = _
                rw [HZ.out, decide_eq_false_iff_not]
                intro h
                apply hxy
                rw [hx, hy]
                simp [h]
              have hk1 : (k : Int) < (n : Int) := by omega
              clear hx hy e1 e2 hxy HE
              go_wp2_with fail
              go_quiet (fail)
              go_wp2_with fail
              go_ret
              exact ⟨by rw [HS.out]; rfl, below_drewN HW.out _⟩
          · obtain rfl : k = n := by omega
            have HS : Hid (z = true) := by
              show _ = _
              rw [HZ.out, decide_eq_true_eq]
              have := HE.out
              rwa [List.take_of_length_le (by rw [← HN.out]; exact Nat.le_refl _), List.take_of_length_le (by rw [← HN2.out]; exact Nat.le_refl _)] at this
            clear HE hlt
            go_wp2_with fail
            go_ret
            exact ⟨by rw [HS.out]; rfl, HW.out⟩
  · have hne : decide (l1 = l2) = false := by simp; rintro rfl; exact hl rfl
    rw [hne]
    obtain ⟨a1, c1, rfl, hx1⟩ := h1
    obtain ⟨a2, c2, rfl, hx2⟩ := h2
    clear hx1 hx2 hb
    generalize l1.length = m at *
    generalize l2.length = k at *
    have i1 : ((m : Int) != (k : Int)) = true := by rw [bne_iff_ne]; omega
    clear hl hne
    go_enter Try.func17, Try.ntmps17
    go_wp2_with fail
    go_ret
    exact ⟨rfl, Below.refl _ _⟩
end Go.Proofs.Ytghoajhfndnafaa
