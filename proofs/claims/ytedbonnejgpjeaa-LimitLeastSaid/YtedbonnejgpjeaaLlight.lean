/- Contracts of lightest and of lengthen. -/
import Derived.Test.YtedbonnejgpjeaaLmrg
namespace Go.Proofs.Ytedbonnejgpjeaa
open Go.RowKit

namespace Lm
theorem prs_bound (ts : List Tr) (B : Nat) (h : ∀ t ∈ ts, t.wt ≤ B) : ∀ t ∈ prs Tr.node ts, t.wt ≤ 2 * B := by
  intro t ht
  obtain ⟨q, hq⟩ := List.getElem?_of_mem ht
  obtain ⟨x, y, h1, h2, rfl⟩ := prs_get _ _ _ _ hq
  have g1 := h x (List.mem_of_getElem? h1)
  have g2 := h y (List.mem_of_getElem? h2)
  simp only [Tr.wt]; omega
theorem lvl_bound (ts : List Tr) (B : Nat) (h : ∀ t ∈ ts, t.wt ≤ B) (j : Nat) : ∀ t ∈ lvl Tr.wt .node ts j, t.wt ≤ 2 ^ j * B := by
  induction j with
  | zero => intro t ht; rw [Nat.pow_zero, Nat.one_mul]; exact h t ht
  | succ j ih =>
    intro t ht
    rcases List.mem_append.1 ((mrg_perm Tr.wt _ _).mem_iff.1 ht) with ht | ht
    · have h1 := h t ht
      have : B ≤ 2 ^ (j + 1) * B := Nat.le_mul_of_pos_left _ (Nat.two_pow_pos _)
      omega
    · have := prs_bound _ _ ih t ht
      rw [Nat.pow_succ, Nat.mul_comm (2 ^ j) 2, Nat.mul_assoc]; exact this
end Lm

set_option maxHeartbeats 2000000 in
theorem lightest_any (sv : Value) (ts : List Lm.Tr) (M : Nat) (w : World) (hP : Pl w sv ts) (h288 : ts.length ≤ 288) (hM : 1 ≤ M) (hM2 : M ≤ 15) (hf : ts.length ≤ 2 ^ M) (hwt : ∀ t ∈ ts, t.wt ≤ 4294967295) :
    Calls Try.prog 21 #[sv, .int .i64 (M : Int)] w fun e w' => ∃ v, e = .returned v ∧ Pl w' v (Lm.lgt ts M) ∧ Below w.heap.size w w' := by
  have HP := Lib.hid hP
  obtain ⟨a, cap, rfl, hcap, _⟩ := hP.shape
  obtain ⟨n, hn⟩ : ∃ n, n = ts.length := ⟨_, rfl⟩
  rw [← hn] at hcap h288 HP ⊢
  by_cases h2 : n < 2
  · have HG : Hid (Lm.lgt ts M = ts) := by show _ = _; unfold Lm.lgt; rw [if_pos (by omega)]
    clear hP hn hf hwt
    go_enter Try.func21, Try.ntmps21
    go_wp2
    go_ret
    exact ⟨_, rfl, by rw [HG.out]; exact HP.out, Below.refl _ _⟩
  · have HG : Hid (Lm.lgt ts M = (Lm.lvl Lm.Tr.wt .node ts (M - 1)).take (2 * ts.length - 2)) := by show _ = _; unfold Lm.lgt; rw [if_neg (by omega)]
    have HE : Hid (2 * ts.length - 2 ≤ (Lm.lvl Lm.Tr.wt .node ts (M - 1)).length) := Lm.lvl_enough _ _ _ (by omega) _ (by rw [show M - 1 + 1 = M by omega]; exact hf)
    have HW : Hid (∀ j, j ≤ 14 → ∀ t ∈ Lm.lvl Lm.Tr.wt .node ts j, t.wt ≤ 281474976710656) := by
      intro j hj t ht
      have h1 := Lm.lvl_bound ts _ hwt j t ht
      have h2 : 2 ^ j ≤ 2 ^ 14 := Nat.pow_le_pow_right (by omega) hj
      have h3 : 2 ^ j * 4294967295 ≤ 2 ^ 14 * 4294967295 := Nat.mul_le_mul_right _ h2
      omega
    have HLN : Hid (∀ j, 0 < (Lm.lvl Lm.Tr.wt .node ts j).length ∧ (Lm.lvl Lm.Tr.wt .node ts j).length ≤ 576) := by
      intro j
      have := Lm.lvl_le Lm.Tr.wt .node ts j
      refine ⟨?_, by omega⟩
      cases j with
      | zero => simp only [Lm.lvl]; omega
      | succ j => rw [Lm.lvl_length]; omega
    have HN := Lib.hid hn
    clear hP hn hf hwt
    go_enter Try.func21, Try.ntmps21
    go_wp2
    go_loopw [5, 13] (fun s5 s13 wr => ∃ (k : Nat) (v : Value), k ≤ M - 1 ∧ v = s5 ∧ s13 = .int .i64 (k : Int) ∧ Hid (Pl wr v (Lm.lvl Lm.Tr.wt .node ts k)) ∧ Hid (Below w.heap.size w wr)) (fun _ s _ => M - (intOf s).toNat)
    case atStart => exact ⟨0, _, Nat.zero_le _, rfl, rfl, HP, Below.refl _ _⟩
    case round =>
      obtain ⟨k, v, hk, rfl, rfl, KP, KB⟩ := hrel
      by_cases hlt : k < M - 1
      · have HC := paired_any v _ wr KP.out ((HLN.out k).1) (fun i t hi => HW.out k (by omega) t (List.mem_of_getElem? hi))
        obtain ⟨a3, cap3, e3, _⟩ := KP.out.shape
        obtain ⟨n3, hn3⟩ : ∃ n3, n3 = (Lm.lvl Lm.Tr.wt .node ts k).length := ⟨_, rfl⟩
        rw [← hn3] at e3
        rw [e3] at HC ⊢
        clear hn3 e3 KP
        have hlt2 : (k : Int) < (M : Int) - 1 := by omega
        go_wp2_with fail
        refine HC.mono ?_
        clear HC
        rintro e w1 ⟨v1, rfl, hp1, hb1⟩
        have P1 := Lib.hid hp1
        have B1 := Lib.hid (KB.out.trans (hb1.mono KB.out.size))
        clear hp1 hb1 KB
        go_wp2_with fail
        refine (merged_any _ v1 ts _ w1 (HP.out.later B1.out) P1.out).mono ?_
        rintro e w2 ⟨v2, rfl, ho2, hb2⟩
        have P2 : Hid (Pl w2 v2 (Lm.lvl Lm.Tr.wt .node ts (k + 1))) := ho2.pl (by have := (HLN.out (k + 1)).2; simp only [Lm.lvl] at this; omega)
        have B2 := Lib.hid (B1.out.trans (hb2.mono B1.out.size))
        clear ho2 hb2 P1 B1
        go_wp2_with fail
        go_roundw
        case rel => exact ⟨k + 1, _, by omega, rfl, by go_num, P2, B2⟩
        case measure => simp [intOf]; omega
      · obtain rfl : k = M - 1 := by omega
        obtain ⟨a3, cap3, rfl, hc3, h13⟩ := KP.out.shape
        have hle : 2 * n - 2 ≤ (Lm.lvl Lm.Tr.wt .node ts (M - 1)).length := by rw [HN.out]; exact HE.out
        obtain ⟨n3, hn3⟩ : ∃ n3, n3 = (Lm.lvl Lm.Tr.wt .node ts (M - 1)).length := ⟨_, rfl⟩
        rw [← hn3] at hc3 h13 hle KP ⊢
        have KT : Hid (Pl wr (.slice a3 (2 * n - 2) cap3) (Lm.lgt ts M)) := by
          have h := KP.out.take (2 * n - 2) (by rw [← hn3]; exact hle)
          rw [HN.out] at h ⊢
          rw [HG.out]; exact h
        clear hn3 KP
        have hlt2 : ¬ ((M - 1 : Nat) : Int) < (M : Int) - 1 := by omega
        obtain ⟨m, hm⟩ : ∃ m, m = 2 * n - 2 := ⟨_, rfl⟩
        rw [← hm] at hle KT
        have g1 : (2 : Int) * (n : Int) - 2 = (m : Int) := by omega
        have g2 : (m : Int) ≤ (cap3 : Int) := by omega
        have g3 : (0 : Int) ≤ (m : Int) := by omega
        have HM := Lib.hid hm
        clear hm
        go_wp2
        go_ret
        exact ⟨_, rfl, KT.out, KB.out⟩
end Go.Proofs.Ytedbonnejgpjeaa
