/- Contracts of limit.areNumbers. -/
import Derived.Test.YtedbonnejgpjeaaLchk
namespace Go.Proofs.Ytedbonnejgpjeaa
open Go.RowKit

/-- The numbers are how often symbols may come. -/
def Nums (zs : List Int) : Prop := 0 < zs.length ∧ zs.length ≤ 288 ∧ ∀ i, i < zs.length → 0 ≤ zs[i]?.getD 0 ∧ zs[i]?.getD 0 ≤ 4294967295
instance (zs : List Int) : Decidable (Nums zs) := by unfold Nums; infer_instance

/-- Is a number no length? -/
def Badn (z : Int) : Prop := z < 0 ∨ 4294967295 < z

set_option maxHeartbeats 400000 in
theorem badn_yes (z : Int) (hz : Badn z) (w : World) : Calls Try.prog 31 #[.int .i64 z] w fun e w' => e = .returned (.bool true) ∧ w = w' := by
  by_cases h : z < 0
  · have h1 : decide (z < 0) = true := by simpa using h
    clear hz
    go_enter Try.func31, Try.ntmps31
    go_wp2
    go_ret
    exact ⟨rfl, rfl⟩
  · have h1 : decide (z < 0) = false := by simpa using h
    have h2 : 4294967295 < z := hz.resolve_left h
    have h3 : decide (4294967295 < z) = true := by simpa using h2
    clear hz
    go_enter Try.func31, Try.ntmps31
    go_wp2
    go_ret
    exact ⟨rfl, rfl⟩
set_option maxHeartbeats 400000 in
theorem badn_no (z : Int) (hz : ¬ Badn z) (w : World) : Calls Try.prog 31 #[.int .i64 z] w fun e w' => e = .returned (.bool false) ∧ w = w' := by
  have g1 : ¬ z < 0 := fun h => hz (Or.inl h)
  have g2 : ¬ 4294967295 < z := fun h => hz (Or.inr h)
  have h1 : decide (z < 0) = false := by simpa using g1
  have h3 : decide (4294967295 < z) = false := by simpa using g2
  clear hz
  go_enter Try.func31, Try.ntmps31
  go_wp2
  go_ret
  exact ⟨rfl, rfl⟩

/-- What IndexFunc says: a place, if some number may not be. -/
def IdxPostN (zs : List Int) (w : World) (e : Ending) (w' : World) : Prop := ∃ r : Int, e = .returned (.int .i64 r) ∧ w = w' ∧ ((0 ≤ r ∧ ∃ i, i < zs.length ∧ Badn (zs[i]?.getD 0)) ∨ (r = -1 ∧ ∀ i, i < zs.length → ¬ Badn (zs[i]?.getD 0)))

set_option maxHeartbeats 1000000 in
theorem indexn_any (zs : List Int) (s : Value) (w : World) (hz : Zl w s zs) : Calls Try.prog 40 #[s, .func (.func 31) #[] #[]] w (IdxPostN zs w) := by
  have HZ := Lib.hid hz
  obtain ⟨a, len, cap, rfl, h1, h2, h3, h4⟩ := hz
  have H1 := Lib.hid h1
  have H4 := Lib.hid h4
  clear h1 h3 h4 HZ
  go_enter Try.func40, Try.ntmps40
  go_wp2
  go_loop [8] (fun s8 => ∃ k : Nat, k ≤ len ∧ s8 = .int .i64 k ∧ Hid (∀ i, i < k → ¬ Badn (zs[i]?.getD 0))) (fun s => len - (intOf s).toNat)
  case atStart => exact ⟨0, Nat.zero_le _, rfl, fun i hi => by omega⟩
  case round =>
    obtain ⟨k, hk, rfl, KB⟩ := hrel
    by_cases hlt : k < len
    · obtain ⟨b, off, rfl, _, hc⟩ := H4.out (by omega)
      have hck := hc k hlt
      obtain ⟨z, hz⟩ : ∃ z, z = zs[k]?.getD 0 := ⟨_, rfl⟩
      rw [← hz] at hck
      have HK := Lib.hid hz
      clear hz hc
      by_cases hb : Badn z
      · have HB := Lib.hid hb
        clear hb
        go_wp2_with (go_at_call 31; refine (badn_yes z HB.out _).mono ?_; rintro e w' ⟨rfl, rfl⟩)
        go_ret
        exact ⟨_, rfl, rfl, Or.inl ⟨by omega, k, by have := H1.out; omega, by rw [← HK.out]; exact HB.out⟩⟩
      · have HB := Lib.hid hb
        clear hb
        go_wp2_with (go_at_call 31; refine (badn_no z HB.out _).mono ?_; rintro e w' ⟨rfl, rfl⟩)
        go_round
        case rel =>
          refine ⟨k + 1, by omega, by go_num, ?_⟩
          show ∀ i, i < k + 1 → _
          intro i hi
          by_cases e : i = k
          · rw [e, ← HK.out]; exact HB.out
          · exact KB.out i (by omega)
        case measure => simp [intOf]; omega
    · obtain rfl : k = len := by omega
      go_wp2
      go_ret
      exact ⟨_, rfl, rfl, Or.inr ⟨rfl, by rw [← H1.out]; exact KB.out⟩⟩

set_option maxHeartbeats 400000 in
theorem containsn_yes (zs : List Int) (s : Value) (w : World) (hz : Zl w s zs) (hb : ∃ i, i < zs.length ∧ Badn (zs[i]?.getD 0)) : Calls Try.prog 30 #[s, .func (.func 31) #[] #[]] w fun e w' => e = .returned (.bool true) ∧ w = w' := by
  have HC := indexn_any zs s w hz
  have HB := Lib.hid hb
  obtain ⟨a, len, cap, rfl, hl⟩ := hz.shape
  clear hz hb hl
  go_enter Try.func30, Try.ntmps30
  go_wp2_with fail
  refine HC.mono ?_
  clear HC
  rintro e w' ⟨r, rfl, rfl, hr⟩
  have h0 : 0 ≤ r := by
    rcases hr with ⟨h, _⟩ | ⟨_, h⟩
    · exact h
    · obtain ⟨i, h1, h2⟩ := HB.out
      exact (h i h1 h2).elim
  have h1 : decide (0 ≤ r) = true := by simpa using h0
  clear hr
  go_wp2
  go_ret
  exact ⟨rfl, rfl⟩
set_option maxHeartbeats 400000 in
theorem containsn_no (zs : List Int) (s : Value) (w : World) (hz : Zl w s zs) (hb : ∀ i, i < zs.length → ¬ Badn (zs[i]?.getD 0)) : Calls Try.prog 30 #[s, .func (.func 31) #[] #[]] w fun e w' => e = .returned (.bool false) ∧ w = w' := by
  have HC := indexn_any zs s w hz
  have HB := Lib.hid hb
  obtain ⟨a, len, cap, rfl, hl⟩ := hz.shape
  clear hz hb hl
  go_enter Try.func30, Try.ntmps30
  go_wp2_with fail
  refine HC.mono ?_
  clear HC
  rintro e w' ⟨r, rfl, rfl, hr⟩
  have h0 : r = -1 := by
    rcases hr with ⟨_, i, h1, h2⟩ | ⟨h, _⟩
    · exact (HB.out i h1 h2).elim
    · exact h
  subst h0
  clear hr
  go_wp2
  go_ret
  exact ⟨rfl, rfl⟩

theorem nums_iff (zs : List Int) (h1 : 0 < zs.length) (h2 : zs.length ≤ 288) : Nums zs ↔ ∀ i, i < zs.length → ¬ Badn (zs[i]?.getD 0) := by
  unfold Nums Badn
  constructor
  · rintro ⟨_, _, h⟩ i hi; have := h i hi; omega
  · intro h; exact ⟨h1, h2, fun i hi => by have := h i hi; omega⟩

set_option maxHeartbeats 1000000 in
theorem aren_yes (zs : List Int) (s : Value) (w : World) (hz : Zl w s zs) (hv : Nums zs) : Calls Try.prog 19 #[s] w fun e w' => e = .returned (.bool true) ∧ w = w' := by
  have HC := containsn_no zs s w hz ((nums_iff zs hv.1 hv.2.1).1 hv)
  obtain ⟨a, len, cap, rfl, hl⟩ := hz.shape
  have h1 : 0 < len := by have := hv.1; omega
  have h2 : len ≤ 288 := by have := hv.2.1; omega
  have h3 : ((len : Int) == 0) = false := by rw [beq_eq_false_iff_ne]; omega
  have h4 : decide (288 < (len : Int)) = false := by simp; omega
  clear hz hv hl
  go_enter Try.func19, Try.ntmps19
  go_wp2_with fail
  refine HC.mono ?_
  clear HC
  rintro e w' ⟨rfl, rfl⟩
  go_wp2
  go_ret
  exact ⟨rfl, rfl⟩
set_option maxHeartbeats 1000000 in
theorem aren_no (zs : List Int) (s : Value) (w : World) (hz : Zl w s zs) (hv : ¬ Nums zs) : Calls Try.prog 19 #[s] w fun e w' => e = .returned (.bool false) ∧ w = w' := by
  obtain ⟨a, len, cap, rfl, hl⟩ := hz.shape
  by_cases g1 : len = 0
  · have h3 : ((len : Int) == 0) = true := by rw [beq_iff_eq]; omega
    clear hz hv hl g1
    go_enter Try.func19, Try.ntmps19
    go_wp2
    go_ret
    exact ⟨rfl, rfl⟩
  · have h3 : ((len : Int) == 0) = false := by rw [beq_eq_false_iff_ne]; omega
    by_cases g2 : 288 < len
    · have h4 : decide (288 < (len : Int)) = true := by simp; omega
      clear hz hv hl
      go_enter Try.func19, Try.ntmps19
      go_wp2
      go_ret
      exact ⟨rfl, rfl⟩
    · have h4 : decide (288 < (len : Int)) = false := by simp; omega
      have hb : ∃ i, i < zs.length ∧ Badn (zs[i]?.getD 0) := by
        have := mt (nums_iff zs (by omega) (by omega)).2 hv
        simpa [Classical.not_forall] using this
      have HC := containsn_yes zs _ w hz hb
      clear hz hv hl hb
      go_enter Try.func19, Try.ntmps19
      go_wp2_with fail
      refine HC.mono ?_
      clear HC
      rintro e w' ⟨rfl, rfl⟩
      go_wp2
      go_ret
      exact ⟨rfl, rfl⟩

end Go.Proofs.Ytedbonnejgpjeaa
