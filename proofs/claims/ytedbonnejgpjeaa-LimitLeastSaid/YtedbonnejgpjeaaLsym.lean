/- Contract of slices.symMergeCmpFunc at int: where one part is a single number. -/
import Derived.Test.YtedbonnejgpjeaaLins
namespace Go.Proofs.Ytedbonnejgpjeaa
open Go.RowKit

/-- Where the number at place a belongs within [m, b): between i and j. -/
def LoIn (kf d : Nat → Nat) (a m b i j : Nat) : Prop := m ≤ i ∧ i ≤ j ∧ j ≤ b ∧ (∀ q, m ≤ q → q < i → kf (d q) < kf (d a)) ∧ (∀ q, j ≤ q → q < b → kf (d a) ≤ kf (d q))

theorem LoIn.start (kf d : Nat → Nat) (a m b : Nat) (h : m ≤ b) : LoIn kf d a m b m b := ⟨Nat.le_refl _, h, Nat.le_refl _, fun q h1 h2 => by omega, fun q h1 h2 => by omega⟩
theorem LoIn.up {kf d : Nat → Nat} {a m b i j h : Nat} (k : LoIn kf d a m b i j) (hs : St.Srt kf d m b) (h1 : i ≤ h) (h2 : h < j) (hlt : kf (d h) < kf (d a)) : LoIn kf d a m b (h + 1) j := by
  obtain ⟨k1, k2, k3, k4, k5⟩ := k
  refine ⟨by omega, by omega, k3, fun q q1 q2 => ?_, k5⟩
  by_cases e : q = h
  · rw [e]; exact hlt
  · have := hs q h q1 (by omega) (by omega); omega
theorem LoIn.down {kf d : Nat → Nat} {a m b i j h : Nat} (k : LoIn kf d a m b i j) (hs : St.Srt kf d m b) (h1 : i ≤ h) (h2 : h < j) (hge : ¬ kf (d h) < kf (d a)) : LoIn kf d a m b i h := by
  obtain ⟨k1, k2, k3, k4, k5⟩ := k
  refine ⟨k1, h1, by omega, k4, fun q q1 q2 => ?_⟩
  by_cases e : q = h
  · rw [e]; omega
  · have := hs h q (by omega) (by omega) q2; omega
theorem LoIn.done {kf d : Nat → Nat} {a b n i : Nat} (k : LoIn kf d a (a + 1) b i i) (hs : St.Srt kf d (a + 1) b) (hr : St.Ris kf d n) (_hb : a + 1 < b) (hbn : b ≤ n) (hsw : St.Swaps a b d (St.shl d a (i - 1))) : SortIs kf n d a b (St.shl d a (i - 1)) := by
  obtain ⟨k1, k2, k3, k4, k5⟩ := k
  refine ⟨hsw, St.shl_ris hr (by omega) (by omega) (fun q q1 q2 => k4 q (by omega) (by omega)), St.shl_srt hs (by omega) (by omega) (fun q q1 q2 => k4 q (by omega) (by omega)) (fun q q1 q2 => k5 q (by omega) q2)⟩

set_option maxRecDepth 100000 in
set_option maxHeartbeats 4000000 in
theorem sym_one (g cap n a m b : Nat) (kf : Nat → Nat) (p : Nat → Prop) (d : Nat → Nat) (w : World) (hr : Rw w g n d) (hn : n ≤ 288) (hbn : b ≤ n) (ham : Hid (m = a + 1)) (hmb : m < b)
    (hs : St.Srt kf d m b) (hris : St.Ris kf d n) (hp : ∀ i, i < n → p (d i)) (hcmp : Cmps g kf p w) :
    Calls Try.prog 48 #[.slice (some ⟨g, 0, none⟩) n cap, .int .i64 (a : Int), .int .i64 (m : Int), .int .i64 (b : Int), .func (.func 33) #[] #[]] w (SortPost g n w (SortIs kf n d a b)) := by
  have HR := Lib.hid hr
  have HC := Lib.hid hcmp
  have HP := Lib.hid hp
  have HS := Lib.hid hs
  have HI := Lib.hid hris
  have hlam : a < m := by have := ham.out; omega
  have h1 : ((m : Int) - (a : Int) == 1) = true := by have := ham.out; rw [beq_iff_eq]; omega
  clear hr hcmp hp hs hris
  go_enter Try.func48, Try.ntmps48
  go_wp2
  go_loopw [10, 11] (fun s10 s11 wr => ∃ (i j : Nat), s10 = .int .i64 i ∧ s11 = .int .i64 j ∧ Hid (LoIn kf d a m b i j) ∧ Hid (Rw wr g n d) ∧ Hid (Only g w wr)) (fun s t _ => (intOf t).toNat - (intOf s).toNat)
  case atStart => exact ⟨m, b, rfl, rfl, LoIn.start kf d a m b (by omega), HR, Only.refl _ _⟩
  case round =>
    obtain ⟨i, j, rfl, rfl, KI, KR, KO⟩ := hrel
    have i1 := KI.out.1
    have i2 := KI.out.2.1
    have i3 := KI.out.2.2.1
    by_cases hlt : i < j
    · obtain ⟨h, hh⟩ : ∃ h : Nat, h = (i + j) / 2 := ⟨_, rfl⟩
      have hh1 : i ≤ h := by omega
      have hh2 : h < j := by omega
      have hh3 : ((i : Int) + (j : Int)) / 2 = (h : Int) := by omega
      clear hh
      have c1 := KR.out.cell h (by omega)
      have c2 := KR.out.cell a (by omega)
      obtain ⟨c, hc, hcall⟩ := HC.out.at KO.out HP.out (i := h) (j := a) (by omega) (by omega)
      obtain ⟨x, hx⟩ : ∃ x, x = d h := ⟨_, rfl⟩
      obtain ⟨y, hy⟩ : ∃ y, y = d a := ⟨_, rfl⟩
      rw [← hx, ← hy] at hc hcall
      rw [← hx] at c1
      rw [← hy] at c2
      have HX := Lib.hid hx
      have HY := Lib.hid hy
      clear hx hy
      by_cases hk : kf x < kf y
      · have h0 : decide (c < 0) = true := by rw [hc]; simpa using hk
        have HK := Lib.hid hk
        clear hc hk
        go_wp2
        go_quiet ((go_at_call 33; exact quiet_cmp (hcall _)))
        clear hcall
        go_wp2
        go_roundw
        case rel => exact ⟨h + 1, j, by go_num, rfl, KI.out.up HS.out hh1 hh2 (by rw [← HX.out, ← HY.out]; exact HK.out), KR.out.drewN _, KO.out.trans (only_drewN (Only.refl _ _) _)⟩
        case measure => simp [intOf]; omega
      · have h0 : decide (c < 0) = false := by rw [hc]; simpa using hk
        have HK := Lib.hid hk
        clear hc hk
        go_wp2
        go_quiet ((go_at_call 33; exact quiet_cmp (hcall _)))
        clear hcall
        go_wp2
        go_roundw
        case rel => exact ⟨i, h, rfl, rfl, KI.out.down HS.out hh1 hh2 (by rw [← HX.out, ← HY.out]; exact HK.out), KR.out.drewN _, KO.out.trans (only_drewN (Only.refl _ _) _)⟩
        case measure => simp [intOf]; omega
    · obtain rfl : i = j := by omega
      go_wp2
      go_loopw [13] (fun s13 wx => ∃ k : Nat, a ≤ k ∧ k + 1 ≤ i ∧ s13 = .int .i64 k ∧ Hid (Rw wx g n (St.shl d a k)) ∧ Hid (St.Swaps a b d (St.shl d a k)) ∧ Hid (Only g w wx)) (fun s _ => i - (intOf s).toNat)
      case atStart => exact ⟨a, Nat.le_refl _, by omega, rfl, by show Rw _ _ _ _; rw [St.shl_zero]; exact KR.out, by show St.Swaps _ _ _ _; rw [St.shl_zero]; exact .refl _, KO⟩
      case round =>
        clear KR KO
        obtain ⟨k, hk1, hk2, rfl, KR, KS, KO⟩ := hrel
        by_cases hlt2 : k + 1 < i
        · have c1 := KR.out.cell k (by omega)
          have c2 := KR.out.cell (k + 1) (by omega)
          have f1 := KR.out.free k (by omega)
          have f2 := KR.out.free (k + 1) (by omega)
          obtain ⟨x, hx⟩ : ∃ x, x = St.shl d a k k := ⟨_, rfl⟩
          obtain ⟨y, hy⟩ : ∃ y, y = St.shl d a k (k + 1) := ⟨_, rfl⟩
          rw [← hx] at c1
          rw [← hy] at c2
          have HX := Lib.hid hx
          have HY := Lib.hid hy
          have hne : ¬ k = k + 1 := by omega
          clear hx hy
          go_wp2
          go_region
          go_wp2
          all_goals
            go_roundw
            case rel =>
              have st := row_swap_on KR.out KO.out 1 k (k + 1) x y HX.out HY.out (by omega) (by omega) (by omega)
              exact ⟨k + 1, by omega, by omega, by go_num, by show Rw _ _ _ _; rw [St.shl_succ _ _ _ hk1]; exact st.1, by show St.Swaps _ _ _ _; rw [St.shl_succ _ _ _ hk1]; exact .step KS.out (by omega) (by omega) (by omega) (by omega), st.2⟩
            case measure => simp [intOf]; omega
        · obtain rfl : i = k + 1 := by omega
          go_wp2
          go_end0
          refine ⟨rfl, _, KR.out, KO.out, ?_⟩
          have hm := ham.out
          subst hm
          exact LoIn.done KI.out HS.out HI.out hmb hbn KS.out
end Go.Proofs.Ytedbonnejgpjeaa
