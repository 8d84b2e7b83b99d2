/- Contract of the document's Often. -/
import Derived.Test.YtedbonnejgpjeaaLcost
namespace Go.Proofs.Ytedbonnejgpjeaa
open Go.RowKit

set_option maxHeartbeats 2000000 in
theorem roften_any (zs : List Int) (s : Value) (w : World) (hz : Zl w s zs) : Calls Try.prog 23 #[s] w fun e w' => e = .returned (.bool (decide (Nums zs))) ∧ w = w' := by
  obtain ⟨a, len, cap, rfl, hl, h2, h3, h4⟩ := hz
  clear h3
  by_cases g1 : len = 0
  · have hd : decide (Nums zs) = false := decide_eq_false fun h => by have := h.1; omega
    have e1 : ((len : Int) == 0) = true := by rw [beq_iff_eq]; omega
    rw [hd]
    clear hd hl g1 h4
    go_enter Try.func23, Try.ntmps23
    go_wp2
    go_ret
    exact ⟨rfl, rfl⟩
  · have e1 : ((len : Int) == 0) = false := by rw [beq_eq_false_iff_ne]; omega
    by_cases g2 : 288 < len
    · have hd : decide (Nums zs) = false := decide_eq_false fun h => by have := h.2.1; omega
      have e2 : decide (288 < (len : Int)) = true := by simp; omega
      rw [hd]
      clear hd hl g1 h4
      go_enter Try.func23, Try.ntmps23
      go_wp2
      go_ret
      exact ⟨rfl, rfl⟩
    · have e2 : decide (288 < (len : Int)) = false := by simp; omega
      have HV := Lib.hid (nums_iff zs (by omega) (by omega))
      obtain ⟨b, off, rfl, hb, hc⟩ := h4 (by omega)
      have HL := Lib.hid hl
      have HC := Lib.hid hc
      clear hl h4 hc g1
      go_enter Try.func23, Try.ntmps23
      go_wp2
      go_loop [3] (fun s3 => ∃ k : Nat, k ≤ len ∧ s3 = .int .i64 k ∧ Hid (∀ i, i < k → ¬ Badn (zs[i]?.getD 0))) (fun s => len - (intOf s).toNat)
      case atStart => exact ⟨0, Nat.zero_le _, rfl, fun i hi => by omega⟩
      case round =>
        obtain ⟨k, hk, rfl, KB⟩ := hrel
        by_cases hlt : k < len
        · have hck := HC.out k hlt
          obtain ⟨z, hz⟩ : ∃ z, z = zs[k]?.getD 0 := ⟨_, rfl⟩
          rw [← hz] at hck
          have HK := Lib.hid hz
          clear hz
          have no : Badn z → Hid (decide (Nums zs) = false) := fun hb => decide_eq_false fun h => HV.out.1 h k (by have := HL.out; omega) (by rw [← HK.out]; exact hb)
          by_cases d1 : z < 0
          · have hd1 : decide (z < 0) = true := by simpa using d1
            have NO := no (Or.inl d1)
            clear no
            go_wp2
            go_ret
            exact ⟨by rw [NO.out]; rfl, rfl⟩
          · have hd1 : decide (z < 0) = false := by simpa using d1
            by_cases d2 : 4294967295 < z
            · have hd2 : decide (4294967295 < z) = true := by simpa using d2
              have NO := no (Or.inr d2)
              clear no
              go_wp2
              go_ret
              exact ⟨by rw [NO.out]; rfl, rfl⟩
            · have hd2 : decide (4294967295 < z) = false := by simpa using d2
              clear no
              go_wp2
              go_round
              case rel =>
                refine ⟨k + 1, by omega, by go_num, ?_⟩
                show ∀ i, i < k + 1 → _
                intro i hi
                by_cases e : i = k
                · rw [e, ← HK.out]; exact fun h => h.elim d1 d2
                · exact KB.out i (by omega)
              case measure => simp [intOf]; omega
        · obtain rfl : k = len := by omega
          have YES : Hid (decide (Nums zs) = true) := decide_eq_true (HV.out.2 (by rw [← HL.out]; exact KB.out))
          go_wp2
          go_ret
          exact ⟨by rw [YES.out]; rfl, rfl⟩

end Go.Proofs.Ytedbonnejgpjeaa
