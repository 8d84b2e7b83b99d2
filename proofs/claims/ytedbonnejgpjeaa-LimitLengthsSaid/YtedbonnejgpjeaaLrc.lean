/- Contracts of the document's Check and of the statements' own right. -/
import Derived.Test.YtedbonnejgpjeaaLlives
import Derived.Deep.RegionWith
namespace Go.Proofs.Ytedbonnejgpjeaa
open Go.RowKit

set_option maxHeartbeats 4000000 in
theorem rcheck_arg (zs : List Int) (s : Value) (most : Int) (w : World) (hz : Zl w s zs) (h : ¬ (Nums zs ∧ 1 ≤ most ∧ most ≤ 15)) :
    Calls Try.prog 10 #[s, .int .i64 most] w fun e w' => e = .returned (.int .i64 2) ∧ Below w.heap.size w w' := by
  have HA := roften_any zs s w hz
  obtain ⟨a, len, cap, rfl, hrest⟩ := hz
  clear hrest
  by_cases hv : Nums zs
  · rw [decide_eq_true hv] at HA
    by_cases h1 : most < 1
    · have g1 : decide (most < 1) = true := by simpa using h1
      clear hv h
      go_enter Try.func10, Try.ntmps10
      go_wp2_with fail
      refine HA.mono ?_
      clear HA
      rintro e w0 ⟨rfl, rfl⟩
      go_wp2
      go_ret
      exact ⟨rfl, Below.refl _ _⟩
    · have h2 : 15 < most := Int.not_le.1 fun h3 => h ⟨hv, by omega, h3⟩
      have g1 : decide (most < 1) = false := by simpa using h1
      have g2 : decide (15 < most) = true := by simpa using h2
      clear hv h
      go_enter Try.func10, Try.ntmps10
      go_wp2_with fail
      refine HA.mono ?_
      clear HA
      rintro e w0 ⟨rfl, rfl⟩
      go_wp2
      go_ret
      exact ⟨rfl, Below.refl _ _⟩
  · rw [decide_eq_false hv] at HA
    clear hv h
    go_enter Try.func10, Try.ntmps10
    go_wp2_with fail
    refine HA.mono ?_
    clear HA
    rintro e w0 ⟨rfl, rfl⟩
    go_wp2
    go_ret
    exact ⟨rfl, Below.refl _ _⟩

set_option maxHeartbeats 4000000 in
theorem rcheck_fit (zs : List Int) (s : Value) (M : Nat) (w : World) (hz : Zl w s zs) (hv : Nums zs) (hM : 1 ≤ M) (hM2 : M ≤ 15) (b : Bool) (hb : decide (2 ^ M < (Lm.srt (nat zs)).length) = b) :
    Calls Try.prog 10 #[s, .int .i64 (M : Int)] w fun e w' => e = .returned (.int .i64 (if b then 11 else 0)) ∧ Below w.heap.size w w' := by
  have HA := roften_any zs s w hz
  rw [decide_eq_true hv] at HA
  have HU' := fun (w' : World) (hb : Below w.heap.size w w') => rused_any zs s w' (hz.later hb) hv
  have hl : (Lm.wts (nat zs) zs.length).length = (Lm.srt (nat zs)).length := by rw [Lm.wts_length, Lm.srt_length, nat_length]
  obtain ⟨a, len, cap, rfl, hrest⟩ := hz
  obtain ⟨n, hn⟩ : ∃ n, n = (Lm.wts (nat zs) zs.length).length := ⟨_, rfl⟩
  rw [← hl, ← hn] at hb
  obtain ⟨q, hq⟩ : ∃ q, q = 2 ^ M := ⟨_, rfl⟩
  have hq2 : q ≤ 32768 := by rw [hq]; exact Nat.pow_le_pow_right (by omega) hM2
  rw [← hq] at hb
  have hb2 : decide ((q : Int) < (n : Int)) = b := by rw [← hb]; simp
  have HQ : Hid (((2 : Int) ^ M) = (q : Int)) := by show _ = _; rw [hq]; simp
  have g1 : decide ((M : Int) < 1) = false := by simp; omega
  have g2 : decide (15 < (M : Int)) = false := by simp; omega
  have HN := Lib.hid (fun _ : Unit => hn)
  clear hv hl hn hq hrest
  go_enter Try.func10, Try.ntmps10
  go_wp2_with fail
  refine HA.mono ?_
  clear HA
  rintro e w0 ⟨rfl, rfl⟩
  go_wp2_with fail
  have HU2 : Hid (Calls Try.prog 24 #[.slice a len cap] w.drew fun e w' => ∃ u c, e = .returned (.slice u n c) ∧ Below w.heap.size w w') := by
    refine (HU' w.drew ((Below.refl _ w).drew)).mono ?_
    rintro e w1 ⟨v, rfl, hv, hb⟩
    obtain ⟨u, c, rfl, _, _⟩ := hv.shape
    exact ⟨u, c, by rw [← HN.out ()], ((Below.refl _ w).drew).trans hb⟩
  have hsw2 : IntKind.i64.wrap ((2 : Int) ^ M) = (q : Int) := by
    have e : ((2 : Int) ^ M) = (q : Int) := HQ.out
    rw [e, IntWalk.i64_in _ (by omega)]
  clear HU'
  go_region_with (go_at_call 24; refine HU2.out.mono ?_; rintro e w1 ⟨u, c, rfl, hb1⟩)
  all_goals
    cases b
    · have h1 : ¬ q < n := by simpa using hb
      clear hsw2 HU2
      go_wp2
      go_ret
      exact ⟨rfl, hb1⟩
    · have h1 : q < n := by simpa using hb
      clear hsw2 HU2
      go_wp2
      go_ret
      exact ⟨rfl, hb1⟩
end Go.Proofs.Ytedbonnejgpjeaa
