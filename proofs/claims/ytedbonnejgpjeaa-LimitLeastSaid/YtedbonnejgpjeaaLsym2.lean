/- Contract of slices.symMergeCmpFunc at int: where the second part is a single number. -/
import Derived.Test.YtedbonnejgpjeaaLsym
namespace Go.Proofs.Ytedbonnejgpjeaa
open Go.RowKit

/-- Where the number at place m belongs within [a, m): between i and j. -/
def HiIn (kf d : Nat → Nat) (a m i j : Nat) : Prop := a ≤ i ∧ i ≤ j ∧ j ≤ m ∧ (∀ q, a ≤ q → q < i → kf (d q) ≤ kf (d m)) ∧ (∀ q, j ≤ q → q < m → kf (d m) < kf (d q))

theorem HiIn.start (kf d : Nat → Nat) (a m : Nat) (h : a ≤ m) : HiIn kf d a m a m := ⟨Nat.le_refl _, h, Nat.le_refl _, fun q h1 h2 => by omega, fun q h1 h2 => by omega⟩
theorem HiIn.up {kf d : Nat → Nat} {a m i j h : Nat} (k : HiIn kf d a m i j) (hs : St.Srt kf d a m) (h1 : i ≤ h) (h2 : h < j) (hge : ¬ kf (d m) < kf (d h)) : HiIn kf d a m (h + 1) j := by
  obtain ⟨k1, k2, k3, k4, k5⟩ := k
  refine ⟨by omega, by omega, k3, fun q q1 q2 => ?_, k5⟩
  by_cases e : q = h
  · rw [e]; omega
  · have := hs q h q1 (by omega) (by omega); omega
theorem HiIn.down {kf d : Nat → Nat} {a m i j h : Nat} (k : HiIn kf d a m i j) (hs : St.Srt kf d a m) (h1 : i ≤ h) (h2 : h < j) (hlt : kf (d m) < kf (d h)) : HiIn kf d a m i h := by
  obtain ⟨k1, k2, k3, k4, k5⟩ := k
  refine ⟨k1, h1, by omega, k4, fun q q1 q2 => ?_⟩
  by_cases e : q = h
  · rw [e]; exact hlt
  · have := hs h q (by omega) (by omega) q2; omega
theorem HiIn.done {kf d : Nat → Nat} {a m b n i : Nat} (k : HiIn kf d a m i i) (hb : b = m + 1) (hs : St.Srt kf d a m) (hr : St.Ris kf d n) (hbn : b ≤ n) (hsw : St.Swaps a b d (St.shr d m i)) : SortIs kf n d a b (St.shr d m i) := by
  obtain ⟨k1, k2, k3, k4, k5⟩ := k
  subst hb
  exact ⟨hsw, St.shr_ris hr (by omega) (by omega) k5, St.shr_srt hs (by omega) (by omega) k4 k5⟩

set_option maxRecDepth 100000 in
set_option maxHeartbeats 4000000 in
theorem sym_two (g cap n a m b : Nat) (kf : Nat → Nat) (p : Nat → Prop) (d : Nat → Nat) (w : World) (hr : Rw w g n d) (hn : n ≤ 288) (hbn : b ≤ n) (ham : a + 1 < m) (hmb : Hid (b = m + 1))
    (hs : St.Srt kf d a m) (hris : St.Ris kf d n) (hp : ∀ i, i < n → p (d i)) (hcmp : Cmps g kf p w) :
    Calls Try.prog 48 #[.slice (some ⟨g, 0, none⟩) n cap, .int .i64 (a : Int), .int .i64 (m : Int), .int .i64 (b : Int), .func (.func 33) #[] #[]] w (SortPost g n w (SortIs kf n d a b)) := by
  have HR := Lib.hid hr
  have HC := Lib.hid hcmp
  have HP := Lib.hid hp
  have HS := Lib.hid hs
  have HI := Lib.hid hris
  have hlmb : m < b := by have := hmb.out; omega
  have h1 : ((m : Int) - (a : Int) == 1) = false := by rw [beq_eq_false_iff_ne]; omega
  have h2 : ((b : Int) - (m : Int) == 1) = true := by have := hmb.out; rw [beq_iff_eq]; omega
  clear hr hcmp hp hs hris
  go_enter Try.func48, Try.ntmps48
  go_wp2
  go_loopw [14, 15] (fun s10 s11 wr => ∃ (i j : Nat), s10 = .int .i64 i ∧ s11 = .int .i64 j ∧ Hid (HiIn kf d a m i j) ∧ Hid (Rw wr g n d) ∧ Hid (Only g w wr)) (fun s t _ => (intOf t).toNat - (intOf s).toNat)
  case atStart => exact ⟨a, m, rfl, rfl, HiIn.start kf d a m (by omega), HR, Only.refl _ _⟩
  case round =>
    obtain ⟨i, j, rfl, rfl, KI, KR, KO⟩ := hrel
    have i1 := KI.out.1
    have i2 := KI.out.2.1
    have i3 := KI.out.2.2.1
    by_cases hlt : i < j
    · obtain ⟨h, hh⟩ : ∃ h : Nat, h = (i + j) / 2 := ⟨_, rfl⟩
      have hh1 : i ≤ h := by omega
      have hh2 : h < j := by omega
      have hh3 : ((i : Int) + (j : Int)) / 2 = (h : Int) := by omega
      clear hh
      have c1 := KR.out.cell m (by omega)
      have c2 := KR.out.cell h (by omega)
      obtain ⟨c, hc, hcall⟩ := HC.out.at KO.out HP.out (i := m) (j := h) (by omega) (by omega)
      obtain ⟨x, hx⟩ : ∃ x, x = d m := ⟨_, rfl⟩
      obtain ⟨y, hy⟩ : ∃ y, y = d h := ⟨_, rfl⟩
      rw [← hx, ← hy] at hc hcall
      rw [← hx] at c1
      rw [← hy] at c2
      have HX := Lib.hid hx
      have HY := Lib.hid hy
      clear hx hy
      by_cases hk : kf x < kf y
      · have h0 : decide (c < 0) = true := by rw [hc]; simpa using hk
        have HK := Lib.hid hk
        clear hc hk
        go_wp2
        go_quiet ((go_at_call 33; exact quiet_cmp (hcall _)))
        clear hcall
        go_wp2
        go_roundw
        case rel => exact ⟨i, h, rfl, rfl, KI.out.down HS.out hh1 hh2 (by rw [← HX.out, ← HY.out]; exact HK.out), KR.out.drewN _, KO.out.trans (only_drewN (Only.refl _ _) _)⟩
        case measure => simp [intOf]; omega
      · have h0 : decide (c < 0) = false := by rw [hc]; simpa using hk
        have HK := Lib.hid hk
        clear hc hk
        go_wp2
        go_quiet ((go_at_call 33; exact quiet_cmp (hcall _)))
        clear hcall
        go_wp2
        go_roundw
        case rel => exact ⟨h + 1, j, by go_num, rfl, KI.out.up HS.out hh1 hh2 (by rw [← HX.out, ← HY.out]; exact HK.out), KR.out.drewN _, KO.out.trans (only_drewN (Only.refl _ _) _)⟩
        case measure => simp [intOf]; omega
    · obtain rfl : i = j := by omega
      go_wp2
      go_loopw [17] (fun s13 wx => ∃ k : Nat, i ≤ k ∧ k ≤ m ∧ s13 = .int .i64 k ∧ Hid (Rw wx g n (St.shr d m k)) ∧ Hid (St.Swaps a b d (St.shr d m k)) ∧ Hid (Only g w wx)) (fun s _ => (intOf s).toNat)
      case atStart => exact ⟨m, by omega, Nat.le_refl _, rfl, by show Rw _ _ _ _; rw [St.shr_zero]; exact KR.out, by show St.Swaps _ _ _ _; rw [St.shr_zero]; exact .refl _, KO⟩
      case round =>
        clear KR KO
        obtain ⟨k, hk1, hk2, rfl, KR, KS, KO⟩ := hrel
        by_cases hlt2 : i < k
        · have c1 := KR.out.cell k (by omega)
          have c2 := KR.out.cell (k - 1) (by omega)
          have f1 := KR.out.free k (by omega)
          have f2 := KR.out.free (k - 1) (by omega)
          obtain ⟨x, hx⟩ : ∃ x, x = St.shr d m k k := ⟨_, rfl⟩
          obtain ⟨y, hy⟩ : ∃ y, y = St.shr d m k (k - 1) := ⟨_, rfl⟩
          rw [← hx] at c1
          rw [← hy] at c2
          have HX := Lib.hid hx
          have HY := Lib.hid hy
          have hne : ¬ k = k - 1 := by omega
          clear hx hy
          go_wp2
          go_region
          go_wp2
          all_goals
            go_roundw
            case rel =>
              have st := row_swap_on KR.out KO.out 1 k (k - 1) x y HX.out HY.out (by omega) (by omega) (by omega)
              exact ⟨k - 1, by omega, by omega, by go_num, by show Rw _ _ _ _; rw [St.shr_succ _ _ _ hk2 (by omega)]; exact st.1, by show St.Swaps _ _ _ _; rw [St.shr_succ _ _ _ hk2 (by omega)]; exact .step KS.out (by omega) (by omega) (by omega) (by omega), st.2⟩
            case measure => simp [intOf]; omega
        · obtain rfl : i = k := by omega
          go_wp2
          go_end0
          exact ⟨rfl, _, KR.out, KO.out, KI.out.done hmb.out HS.out HI.out hbn KS.out⟩
end Go.Proofs.Ytedbonnejgpjeaa
