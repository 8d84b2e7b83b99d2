/- Contracts of layer 4's document: Lengths, Takes and Check. -/
import Derived.Test.YtedbonnejgpjeaaLare
namespace Go.Proofs.Ytedbonnejgpjeaa
open Go.RowKit

namespace Hf
def tk (ls : List Nat) (q : Nat → Bool) : Nat → Nat
  | 0 => 0
  | k + 1 => tk ls q k + (if q (ln ls k) then 2 ^ (15 - ln ls k) else 0)
end Hf

/-- What lengths take, said of symbols. -/
theorem takes_tk (ls : List Nat) (h15 : ∀ i, i < ls.length → Hf.ln ls i ≤ 15) (k : Nat) (hk : k ≤ ls.length) : takesOf (usedTo ls k) = Hf.tk ls (fun x => decide (0 < x)) k := by
  induction k with
  | zero => rfl
  | succ k ih =>
    have h := h15 k (by omega)
    simp only [usedTo, Hf.tk]
    by_cases h0 : ls[k]?.getD 0 = 0
    · rw [if_pos h0, List.append_nil, if_neg (by show ¬ decide (0 < ls[k]?.getD 0) = true; simp [h0]), ih (by omega)]; omega
    · have h1 : 0 < Hf.ln ls k := by show 0 < ls[k]?.getD 0; omega
      rw [if_neg h0, takesOf_snoc, ih (by omega), if_pos (by simpa using h1)]
      congr 1
      show 32768 / 2 ^ min (Hf.ln ls k) 64 = _
      rw [Nat.min_eq_left (by omega)]
      have e : (32768 : Nat) = 2 ^ (15 - Hf.ln ls k) * 2 ^ Hf.ln ls k := by rw [← Nat.pow_add, show 15 - Hf.ln ls k + Hf.ln ls k = 15 by omega]
      rw [e, Nat.mul_div_cancel _ (Nat.two_pow_pos _)]
set_option maxHeartbeats 2000000 in
theorem rare_any (zs : List Int) (s : Value) (w : World) (hz : Zl w s zs) : Calls Try.prog 25 #[s] w fun e w' => e = .returned (.bool (decide (Valid zs))) ∧ w = w' := by
  obtain ⟨a, len, cap, rfl, hl, h2, h3, h4⟩ := hz
  clear h3
  by_cases g1 : len = 0
  · have hd : decide (Valid zs) = false := decide_eq_false fun h => by have := h.1; omega
    have e1 : ((len : Int) == 0) = true := by rw [beq_iff_eq]; omega
    rw [hd]
    clear hd hl g1 h4
    go_enter Try.func25, Try.ntmps25
    go_wp2
    go_ret
    exact ⟨rfl, rfl⟩
  · have e1 : ((len : Int) == 0) = false := by rw [beq_eq_false_iff_ne]; omega
    by_cases g2 : 288 < len
    · have hd : decide (Valid zs) = false := decide_eq_false fun h => by have := h.2.1; omega
      have e2 : decide (288 < (len : Int)) = true := by simp; omega
      rw [hd]
      clear hd hl g1 h4
      go_enter Try.func25, Try.ntmps25
      go_wp2
      go_ret
      exact ⟨rfl, rfl⟩
    · have e2 : decide (288 < (len : Int)) = false := by simp; omega
      have HV := Lib.hid (valid_iff zs (by omega) (by omega))
      obtain ⟨b, off, rfl, hb, hc⟩ := h4 (by omega)
      have HL := Lib.hid hl
      have HC := Lib.hid hc
      clear hl h4 hc g1
      go_enter Try.func25, Try.ntmps25
      go_wp2
      go_loop [3] (fun s3 => ∃ k : Nat, k ≤ len ∧ s3 = .int .i64 k ∧ Hid (∀ i, i < k → ¬ Bad (zs[i]?.getD 0))) (fun s => len - (intOf s).toNat)
      case atStart => exact ⟨0, Nat.zero_le _, rfl, fun i hi => by omega⟩
      case round =>
        obtain ⟨k, hk, rfl, KB⟩ := hrel
        by_cases hlt : k < len
        · have hck := HC.out k hlt
          obtain ⟨z, hz⟩ : ∃ z, z = zs[k]?.getD 0 := ⟨_, rfl⟩
          rw [← hz] at hck
          have HK := Lib.hid hz
          clear hz
          have no : Bad z → Hid (decide (Valid zs) = false) := fun hb => decide_eq_false fun h => HV.out.1 h k (by have := HL.out; omega) (by rw [← HK.out]; exact hb)
          by_cases d1 : z < 0
          · have hd1 : decide (z < 0) = true := by simpa using d1
            have NO := no (Or.inl d1)
            clear no
            go_wp2
            go_ret
            exact ⟨by rw [NO.out]; rfl, rfl⟩
          · have hd1 : decide (z < 0) = false := by simpa using d1
            by_cases d2 : 15 < z
            · have hd2 : decide (15 < z) = true := by simpa using d2
              have NO := no (Or.inr d2)
              clear no
              go_wp2
              go_ret
              exact ⟨by rw [NO.out]; rfl, rfl⟩
            · have hd2 : decide (15 < z) = false := by simpa using d2
              clear no
              go_wp2
              go_round
              case rel =>
                refine ⟨k + 1, by omega, by go_num, ?_⟩
                show ∀ i, i < k + 1 → _
                intro i hi
                by_cases e : i = k
                · rw [e, ← HK.out]; exact fun h => h.elim d1 d2
                · exact KB.out i (by omega)
              case measure => simp [intOf]; omega
        · obtain rfl : k = len := by omega
          have YES : Hid (decide (Valid zs) = true) := decide_eq_true (HV.out.2 (by rw [← HL.out]; exact KB.out))
          go_wp2
          go_ret
          exact ⟨by rw [YES.out]; rfl, rfl⟩

theorem tk_le (ls : List Nat) (q : Nat → Bool) (k : Nat) : Hf.tk ls q k ≤ 32768 * k := by
  induction k with
  | zero => exact Nat.le_refl _
  | succ k ih =>
    have h : 2 ^ (15 - Hf.ln ls k) ≤ 2 ^ 15 := Nat.pow_le_pow_right (by omega) (by omega)
    simp only [Hf.tk]
    split <;> omega

/-- One more place of what lengths take. -/
theorem tk_step (ls : List Nat) (k x t : Nat) (hx : x = ls[k]?.getD 0) (ht : t = Hf.tk ls (fun x => decide (0 < x)) k) : Hf.tk ls (fun x => decide (0 < x)) (k + 1) = t + (if 0 < x then 2 ^ (15 - x) else 0) := by
  simp only [Hf.tk]
  show _ + (if decide (0 < ls[k]?.getD 0) = true then 2 ^ (15 - ls[k]?.getD 0) else 0) = _
  rw [← hx, ← ht]
  simp

theorem wrap_pow (d c : Nat) (h : c = 2 ^ d) (hc : c ≤ 32768) : wrap64 (2 ^ d) = (c : Int) := by
  have e : ((2 : Int) ^ d) = (c : Int) := by rw [h]; simp
  rw [e, IntWalk.wrap64_in _ (by omega)]

set_option maxHeartbeats 2000000 in
theorem rtakes_any (ls : List Nat) (s : Value) (B : Nat) (w : World) (hL : Lsl B w s ls) (h15 : ∀ i, i < ls.length → Hf.ln ls i ≤ 15) :
    Calls Try.prog 26 #[s] w fun e w' => e = .returned (.int .i64 (Hf.tk ls (fun x => decide (0 < x)) ls.length : Int)) ∧ w = w' := by
  obtain ⟨b, off, cap, rfl, hpos, h288, hb, hc⟩ := hL
  obtain ⟨len, hlen⟩ : ∃ len, len = ls.length := ⟨_, rfl⟩
  rw [← hlen] at hpos h288 hc h15 ⊢
  have HC := Lib.hid hc
  have H15 := Lib.hid h15
  clear hc h15 hlen
  go_enter Try.func26, Try.ntmps26
  go_wp2
  go_loop [3, 4] (fun s3 s4 => ∃ k t : Nat, k ≤ len ∧ s4 = .int .i64 k ∧ s3 = .int .i64 t ∧ Hid (t = Hf.tk ls (fun x => decide (0 < x)) k)) (fun _ s => len - (intOf s).toNat)
  case atStart => exact ⟨0, 0, Nat.zero_le _, rfl, rfl, rfl⟩
  case round =>
    obtain ⟨k, t, hk, rfl, rfl, KT⟩ := hrel
    by_cases hlt : k < len
    · have hck := HC.out k hlt
      have h15k := H15.out k hlt
      unfold Hf.ln at h15k
      obtain ⟨x, hx⟩ : ∃ x, x = ls[k]?.getD 0 := ⟨_, rfl⟩
      have ST := Lib.hid (tk_step ls k x t hx KT.out)
      rw [← hx] at hck h15k
      have ht := tk_le ls (fun x => decide (0 < x)) k
      rw [← KT.out] at ht
      clear hx
      by_cases h0 : 0 < x
      · obtain ⟨d, hd⟩ : ∃ d, d = 15 - x := ⟨_, rfl⟩
        obtain ⟨c, hc⟩ : ∃ c, c = 2 ^ d := ⟨_, rfl⟩
        have hc2 : c ≤ 32768 := by rw [hc]; exact Nat.le_trans (Nat.pow_le_pow_right (by omega) (show d ≤ 15 by omega)) (by decide)
        have hw := wrap_pow d c hc hc2
        have hd2 : 15 - (x : Int) = (d : Int) := by omega
        have ST2 : Hid (t + c = Hf.tk ls (fun x => decide (0 < x)) (k + 1)) := by show _ = _; rw [ST.out, if_pos h0, hc, hd]
        clear hc hd
        go_wp2
        go_round
        case rel => exact ⟨k + 1, t + c, by omega, by go_num, by go_num, ST2⟩
        case measure => simp [intOf]; omega
      · have ST2 : Hid (t = Hf.tk ls (fun x => decide (0 < x)) (k + 1)) := by show _ = _; rw [ST.out, if_neg h0]; rfl
        go_wp2
        go_round
        case rel => exact ⟨k + 1, t, by omega, by go_num, rfl, ST2⟩
        case measure => simp [intOf]; omega
    · obtain rfl : k = len := by omega
      go_wp2
      go_ret
      exact ⟨by rw [← KT.out]; rfl, rfl⟩

set_option maxHeartbeats 1000000 in
theorem rcheck_any (zs : List Int) (s : Value) (w : World) (hz : Zl w s zs) : Calls Try.prog 27 #[s] w fun e w' => e = .returned (.int .i64 (chk zs)) ∧ w = w' := by
  have H1 := rare_any zs s w hz
  by_cases hv : Valid zs
  · have e : chk zs = cmpr (takes (nat zs)) := if_pos hv
    have H2 := rtakes_any (nat zs) s w.heap.size w (hv.lsl hz (Nat.le_refl _)) (fun i hi => hv.le i hi)
    rw [e, decide_eq_true hv] at *
    rw [← takes_tk _ (fun i hi => hv.le i hi) _ (Nat.le_refl _), show takesOf (usedTo (nat zs) (nat zs).length) = takes (nat zs) from rfl] at H2
    clear e
    obtain ⟨a, len, cap, rfl, hl⟩ := hz.shape
    generalize takes (nat zs) = t at H2 ⊢
    clear hz hv hl
    by_cases h : 32768 < t
    · have e : cmpr t = 11 := by unfold cmpr; rw [if_pos h]
      have h1 : decide (32768 < (t : Int)) = true := by simp; omega
      rw [e]
      clear e
      go_enter Try.func27, Try.ntmps27
      go_wp2_with (first | (go_at_call 25; refine H1.mono ?_; rintro e w' ⟨rfl, rfl⟩) | (go_at_call 26; refine H2.mono ?_; rintro e w' ⟨rfl, rfl⟩))
      go_ret
      exact ⟨rfl, rfl⟩
    · have h1 : decide (32768 < (t : Int)) = false := by simp; omega
      by_cases h2 : t < 32768
      · have e : cmpr t = 12 := by unfold cmpr; rw [if_neg h, if_pos h2]
        have h3 : decide ((t : Int) < 32768) = true := by simp; omega
        rw [e]
        clear e
        go_enter Try.func27, Try.ntmps27
        go_wp2_with (first | (go_at_call 25; refine H1.mono ?_; rintro e w' ⟨rfl, rfl⟩) | (go_at_call 26; refine H2.mono ?_; rintro e w' ⟨rfl, rfl⟩))
        go_ret
        exact ⟨rfl, rfl⟩
      · have e : cmpr t = 0 := by unfold cmpr; rw [if_neg h, if_neg h2]
        have h3 : decide ((t : Int) < 32768) = false := by simp; omega
        rw [e]
        clear e
        go_enter Try.func27, Try.ntmps27
        go_wp2_with (first | (go_at_call 25; refine H1.mono ?_; rintro e w' ⟨rfl, rfl⟩) | (go_at_call 26; refine H2.mono ?_; rintro e w' ⟨rfl, rfl⟩))
        go_ret
        exact ⟨rfl, rfl⟩
  · have e : chk zs = 2 := if_neg hv
    rw [decide_eq_false hv] at H1
    rw [e]
    clear e
    obtain ⟨a, len, cap, rfl, hl⟩ := hz.shape
    clear hz hv hl
    go_enter Try.func27, Try.ntmps27
    go_wp2_with (go_at_call 25; refine H1.mono ?_; rintro e w' ⟨rfl, rfl⟩)
    go_ret
    exact ⟨rfl, rfl⟩
end Go.Proofs.Ytedbonnejgpjeaa
