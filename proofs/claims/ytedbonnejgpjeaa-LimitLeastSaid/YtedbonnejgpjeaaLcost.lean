/- Contracts of limit.Cost and of the document's Often and Cost. -/
import Derived.Test.YtedbonnejgpjeaaLrchk
import Derived.Test.YtedbonnejgpjeaaLlens
namespace Go.Proofs.Ytedbonnejgpjeaa
open Go.RowKit

/-- What lengths cost, of the first k. -/
def costTo (fs ls : List Nat) (k : Nat) : Nat := Lm.sumTo (fun i => fs[i]?.getD 0 * ls[i]?.getD 0) k
theorem costTo_succ (fs ls : List Nat) (k : Nat) : costTo fs ls (k + 1) = costTo fs ls k + fs[k]?.getD 0 * ls[k]?.getD 0 := rfl
theorem costTo_le (fs ls : List Nat) (k : Nat) (h : ∀ i, i < k → fs[i]?.getD 0 ≤ 4294967295 ∧ ls[i]?.getD 0 ≤ 15) : costTo fs ls k ≤ k * 64424509425 := by
  induction k with
  | zero => exact Nat.zero_le _
  | succ k ih =>
    have h1 := ih fun i hi => h i (by omega)
    have h2 := h k (by omega)
    have h3 : fs[k]?.getD 0 * ls[k]?.getD 0 ≤ 4294967295 * 15 := Nat.mul_le_mul h2.1 h2.2
    rw [costTo_succ, Nat.succ_mul]; omega

/-- May these be the lengths of these? -/
def Fits (zs ls : List Int) : Prop := Nums zs ∧ ls.length = zs.length ∧ Valid ls
instance (zs ls : List Int) : Decidable (Fits zs ls) := by unfold Fits; infer_instance

theorem chk_two (ls : List Int) (h : Valid ls) : chk ls ≠ 2 := by
  unfold chk
  rw [if_pos h]
  unfold cmpr
  split
  · decide
  · split <;> decide

/-- The product of two numbers, as the walk has it. -/
theorem mul_is (x y z : Nat) (h : z = x * y) : ((x : Int) * (y : Int)) = (z : Int) := by rw [h]; simp

/-- What a function that hands back a number and an error leaves. -/
def Two2 (w : World) (x c : Int) (e : Ending) (w' : World) : Prop := e = .returned (.tuple #[.int .i64 x, .int .i64 c]) ∧ Below w.heap.size w w'

set_option maxHeartbeats 4000000 in
theorem cost_ok (zs ls : List Int) (s1 s2 : Value) (w : World) (h1 : Zl w s1 zs) (h2 : Zl w s2 ls) (hf : Fits zs ls) :
    Calls Try.prog 16 #[s1, s2] w (Two2 w (costTo (nat zs) (nat ls) zs.length : Int) 0) := by
  obtain ⟨hv, hl, hva⟩ := hf
  have HA := aren_yes zs s1 w h1 hv
  have HC := check_any ls s2 w h2
  have hc2 := chk_two ls hva
  obtain ⟨c, hc⟩ : ∃ c, c = chk ls := ⟨_, rfl⟩
  rw [← hc] at HC hc2
  have hc3 : (c == 2) = false := by rw [beq_eq_false_iff_ne]; exact hc2
  obtain ⟨a1, n, c1, rfl, e1, _, _, d1⟩ := h1
  obtain ⟨a2, n2, c2, rfl, e2, _, _, d2⟩ := h2
  have hn2 : n2 = n := by omega
  subst hn2
  have h288 : n2 ≤ 288 := by have := hv.2.1; omega
  have hpos : 0 < n2 := by have := hv.1; omega
  obtain ⟨b1, o1, rfl, lt1, q1⟩ := d1 hpos
  obtain ⟨b2, o2, rfl, lt2, q2⟩ := d2 hpos
  rw [← e1]
  have E1 : Hid (∀ i, i < n2 → w.cell? ⟨b1, o1 + i, none⟩ = some (.int .i64 ((nat zs)[i]?.getD 0 : Nat)) ∧ (nat zs)[i]?.getD 0 ≤ 4294967295) := fun i hi => by
    have := hv.2.2 i (by omega)
    rw [q1 i hi, nat_get]
    exact ⟨by congr 2; omega, by omega⟩
  have E2 : Hid (∀ i, i < n2 → w.cell? ⟨b2, o2 + i, none⟩ = some (.int .i64 ((nat ls)[i]?.getD 0 : Nat)) ∧ (nat ls)[i]?.getD 0 ≤ 15) := fun i hi => by
    have := hva.2.2 i (by omega)
    rw [q2 i hi, nat_get]
    exact ⟨by congr 2; omega, by omega⟩
  have hne : ((n2 : Int) != (n2 : Int)) = false := by simp
  clear hv hl hva hc hc2 e1 e2 d1 d2 q1 q2
  go_enter Try.func16, Try.ntmps16
  go_wp2_with fail
  refine HA.mono ?_
  clear HA
  rintro e w0 ⟨rfl, rfl⟩
  go_wp2_with fail
  refine HC.mono ?_
  clear HC
  rintro e w1 ⟨rfl, hb⟩
  have HB := Lib.hid hb
  clear hb
  go_wp2_with fail
  go_loopw [6, 26] (fun s6 s26 wr => ∃ k u : Nat, k ≤ n2 ∧ s26 = .int .i64 (k : Int) ∧ s6 = .int .i64 (u : Int) ∧ Hid (u = costTo (nat zs) (nat ls) k) ∧ wr = w1) (fun _ s _ => n2 - (intOf s).toNat)
  case atStart => exact ⟨0, 0, Nat.zero_le _, rfl, rfl, rfl, rfl⟩
  case round =>
    obtain ⟨k, u, hk, rfl, rfl, KU, rfl⟩ := hrel
    have hub : u ≤ 18554258714400 := by
      have := costTo_le (nat zs) (nat ls) k fun i hi => ⟨(E1.out i (by omega)).2, (E2.out i (by omega)).2⟩
      rw [← KU.out] at this
      have := Nat.mul_le_mul_right 64424509425 (show k ≤ 288 by omega)
      omega
    by_cases hlt : k < n2
    · obtain ⟨g1, x1⟩ := E1.out k hlt
      obtain ⟨g2, x2⟩ := E2.out k hlt
      have g1' := (HB.out.cell (p := ⟨b1, o1 + k, none⟩) lt1).trans g1
      have g2' := (HB.out.cell (p := ⟨b2, o2 + k, none⟩) lt2).trans g2
      have KU2 := costTo_succ (nat zs) (nat ls) k
      rw [← KU.out] at KU2
      obtain ⟨x, hx⟩ : ∃ x, x = (nat zs)[k]?.getD 0 := ⟨_, rfl⟩
      obtain ⟨y, hy⟩ : ∃ y, y = (nat ls)[k]?.getD 0 := ⟨_, rfl⟩
      rw [← hx] at g1' x1 KU2
      rw [← hy] at g2' x2 KU2
      obtain ⟨z, hz⟩ : ∃ z, z = x * y := ⟨_, rfl⟩
      rw [← hz] at KU2
      have hzb : z ≤ 64424509425 := by rw [hz]; exact Nat.mul_le_mul x1 x2
      have hm := mul_is x y z hz
      have K3 : Hid (u + z = costTo (nat zs) (nat ls) (k + 1)) := KU2.symm
      clear g1 g2 KU2 hx hy hz KU x1 x2
      go_wp2_with fail
      go_roundw
      case rel => exact ⟨k + 1, u + z, by omega, by go_num, by go_num, K3, by first | rfl | trivial⟩
      case measure => simp [intOf]; omega
    · obtain rfl : k = n2 := by omega
      go_wp2
      go_ret2
      exact ⟨by rw [← KU.out]; rfl, HB.out⟩

set_option maxHeartbeats 4000000 in
theorem cost_bad (zs ls : List Int) (s1 s2 : Value) (w : World) (h1 : Zl w s1 zs) (h2 : Zl w s2 ls) (hf : ¬ Fits zs ls) :
    Calls Try.prog 16 #[s1, s2] w (Two2 w 0 2) := by
  by_cases hv : Nums zs
  · have HA := aren_yes zs s1 w h1 hv
    by_cases hl : ls.length = zs.length
    · have hva : ¬ Valid ls := fun h => hf ⟨hv, hl, h⟩
      have HC := check_any ls s2 w h2
      rw [show chk ls = 2 from if_neg hva] at HC
      obtain ⟨a1, n1, c1, rfl, e1, _⟩ := h1
      obtain ⟨a2, n2, c2, rfl, e2, _⟩ := h2
      have hn : n2 = n1 := by omega
      subst hn
      have hne : ((n2 : Int) != (n2 : Int)) = false := by simp
      clear hv hl hva hf e1 e2
      go_enter Try.func16, Try.ntmps16
      go_wp2_with fail
      refine HA.mono ?_
      clear HA
      rintro e w0 ⟨rfl, rfl⟩
      go_wp2_with fail
      refine HC.mono ?_
      clear HC
      rintro e w1 ⟨rfl, hb⟩
      have HB := Lib.hid hb
      clear hb
      go_wp2
      go_ret2
      exact ⟨rfl, HB.out⟩
    · obtain ⟨a1, n1, c1, rfl, e1, _⟩ := h1
      obtain ⟨a2, n2, c2, rfl, e2, _⟩ := h2
      have hh : n2 ≠ n1 := fun e => hl (by rw [← e1, ← e2, e])
      have hne : ((n2 : Int) != (n1 : Int)) = true := by rw [bne_iff_ne]; exact fun e => hh (Int.ofNat.inj e)
      clear hh
      clear hv hl hf e1 e2
      go_enter Try.func16, Try.ntmps16
      go_wp2_with fail
      refine HA.mono ?_
      clear HA
      rintro e w0 ⟨rfl, rfl⟩
      go_wp2
      go_ret2
      exact ⟨rfl, Below.refl _ _⟩
  · have HA := aren_no zs s1 w h1 hv
    obtain ⟨a1, n1, c1, rfl, e1, _⟩ := h1
    obtain ⟨a2, n2, c2, rfl, e2, _⟩ := h2
    clear hv hf e1 e2
    go_enter Try.func16, Try.ntmps16
    go_wp2_with fail
    refine HA.mono ?_
    clear HA
    rintro e w0 ⟨rfl, rfl⟩
    go_wp2
    go_ret2
    exact ⟨rfl, Below.refl _ _⟩
end Go.Proofs.Ytedbonnejgpjeaa
