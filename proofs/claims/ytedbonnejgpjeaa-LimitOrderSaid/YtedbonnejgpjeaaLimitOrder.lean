/- The statement LimitOrder: of two symbols the one that comes more often has no longer code. It holds for all rows of numbers, without a condition. -/
import Derived.Test.YtedbonnejgpjeaaLarg
namespace Go.Proofs.Ytedbonnejgpjeaa
open Go.ChangeShapes Go.WideShapes Go.ChangeAt Go.RowKit

set_option maxHeartbeats 4000000 in
theorem limitOrder_walk (s : Value) (zs : List Int) (most : Int) (w : World) (hz : Zl w s zs) (hl : zs.length ≤ 17592186043904) (lo : -9223372036854775808 ≤ most) (hi : most ≤ 9223372036854775807) :
    Calls Try.prog 5 #[s, .int .i64 most] w fun e w' => e = .returned (.bool true) ∧ Below w.heap.size w w' := by
  have HL := lengths_all zs s most w hz
  have HZ := Lib.hid hz
  obtain ⟨a, n, cap, rfl, e1, _, _, d1⟩ := hz
  obtain ⟨c, hc⟩ : ∃ c, c = lerr zs most := ⟨_, rfl⟩
  rw [← hc] at HL
  by_cases hg : Good zs most
  · have hc0 : c = 0 := by rw [hc]; exact lerr_good hg
    subst hc0
    rw [show lensOf zs most = lensZ zs most.toNat from if_pos hg, lensZ_length, ← e1] at HL
    have h288 : n ≤ 288 := by have := hg.1.2.1; omega
    have hpos : 0 < n := by have := hg.1.1; omega
    obtain ⟨b1, o1, rfl, lt1, q1⟩ := d1 hpos
    have HO : Hid (∀ i k, i < n → k < n → zs[k]?.getD 0 < zs[i]?.getD 0 → 0 < zs[k]?.getD 0 → Lm.len (nat zs) most.toNat i ≤ Lm.len (nat zs) most.toNat k) := fun i k h1 h2 h3 h4 =>
      Lm.order_len (nat zs) most.toNat (by have := hg.2.1; omega) hg.2.2 i k (by rw [nat_length]; omega) (by rw [nat_length]; omega) (by rw [nat_get, nat_get]; omega) (by rw [nat_get]; omega)
    have HG : Hid (∀ i, i < n → (lensZ zs most.toNat)[i]?.getD 0 = ((Lm.len (nat zs) most.toNat i : Nat) : Int)) := fun i hi => lensZ_get zs _ i (by omega)
    have Q1 := Lib.hid q1
    have hne : ((n : Int) != (n : Int)) = false := by simp
    clear hc hg e1 d1 q1 hl
    go_enter Try.func5, Try.ntmps5
    go_wp2_with fail
    refine HL.mono ?_
    clear HL
    rintro e w1 ⟨a1, c1, rfl, hz1, hb1⟩
    obtain ⟨a', n', c', e', _, _, _, d2⟩ := hz1
    cases e'
    obtain ⟨b2, o2, rfl, lt2, q2⟩ := d2 hpos
    have B1 := Lib.hid hb1
    have Q2 := Lib.hid q2
    clear d2 q2 hb1
    go_wp2_with fail
    go_loopw [7] (fun s7 wr => ∃ k q : Nat, k ≤ n ∧ s7 = .int .i64 (k : Int) ∧ wr = w1.drewN q) (fun s _ => n - (intOf s).toNat)
    case atStart => exact ⟨0, 0, Nat.zero_le _, rfl, rfl⟩
    case round =>
      obtain ⟨k, q, hk, rfl, rfl⟩ := hrel
      by_cases hlt : k < n
      · go_wp2_with fail
        go_loopw [8] (fun s8 wr => ∃ j q : Nat, j ≤ n ∧ s8 = .int .i64 (j : Int) ∧ wr = w1.drewN q) (fun s _ => n - (intOf s).toNat)
        case atStart => exact ⟨0, q, Nat.zero_le _, rfl, rfl⟩
        case round =>
          obtain ⟨j, q, hj, rfl, rfl⟩ := hrel
          by_cases hjn : j < n
          · have gi := (B1.out.cell (p := ⟨b1, o1 + k, none⟩) lt1).trans (Q1.out k hlt)
            have gk := (B1.out.cell (p := ⟨b1, o1 + j, none⟩) lt1).trans (Q1.out j hjn)
            have li := Q2.out k hlt
            have lk := Q2.out j hjn
            rw [HG.out k hlt] at li
            rw [HG.out j hjn] at lk
            have ho := HO.out k j hlt hjn
            obtain ⟨x, hx⟩ : ∃ x, x = zs[k]?.getD 0 := ⟨_, rfl⟩
            obtain ⟨y, hy⟩ : ∃ y, y = zs[j]?.getD 0 := ⟨_, rfl⟩
            obtain ⟨u, hu⟩ : ∃ u, u = Lm.len (nat zs) most.toNat k := ⟨_, rfl⟩
            obtain ⟨v, hv⟩ : ∃ v, v = Lm.len (nat zs) most.toNat j := ⟨_, rfl⟩
            rw [← hx] at gi ho
            rw [← hy] at gk ho
            rw [← hu] at li ho
            rw [← hv] at lk ho
            clear hx hy hu hv
            by_cases h1 : y < x
            · have t1 : decide (y < x) = true := by simpa using h1
              by_cases h2 : 0 < y
              · have t2 : decide (0 < y) = true := by simpa using h2
                have t3 : decide ((v : Int) < (u : Int)) = false := by have := ho h1 h2; simp; omega
                have t4 : decide (v < u) = false := by have := ho h1 h2; simp; omega
                clear ho h1 h2
                go_wp2_with fail
                go_quiet (fail)
                go_wp2_with fail
                go_roundw
                case rel => exact ⟨j + 1, _, by omega, by go_num, by first | rfl | (rw [World.drewN_drewN])⟩
                case measure => simp [intOf]; omega
              · have t2 : decide (0 < y) = false := by simpa using h2
                clear ho h1 h2
                go_wp2_with fail
                go_quiet (fail)
                go_wp2_with fail
                go_roundw
                case rel => exact ⟨j + 1, _, by omega, by go_num, by first | rfl | (rw [World.drewN_drewN])⟩
                case measure => simp [intOf]; omega
            · have t1 : decide (y < x) = false := by simpa using h1
              clear ho h1
              go_wp2_with fail
              go_quiet (fail)
              go_wp2_with fail
              go_roundw
              case rel => exact ⟨j + 1, _, by omega, by go_num, by first | rfl | (rw [World.drewN_drewN])⟩
              case measure => simp [intOf]; omega
          · obtain rfl : j = n := by omega
            go_wp2_with fail
            go_roundw
            case rel => exact ⟨k + 1, q, by omega, by go_num, rfl⟩
            case measure => simp [intOf]; omega
      · obtain rfl : k = n := by omega
        go_wp2_with fail
        refine (lives_any _).mono ?_
        rintro e w5 ⟨rfl, hb⟩
        have B5 := Lib.hid ((below_drewN B1.out q).trans (hb.mono B1.out.size))
        clear hb
        go_wp2
        go_ret
        exact ⟨rfl, B5.out⟩
  · have hne : (c != 0) = true := by rw [bne_iff_ne, hc]; exact lerr_bad hg
    rw [show lensOf zs most = [] from if_neg hg] at HL
    clear hc hg e1 d1 hl
    go_enter Try.func5, Try.ntmps5
    go_wp2_with fail
    refine HL.mono ?_
    clear HL
    rintro e w1 ⟨a1, c1, rfl, hz1, hb1⟩
    have B1 := Lib.hid hb1
    clear hz1 hb1
    go_wp2_with fail
    refine (lives_any _).mono ?_
    rintro e w5 ⟨rfl, hb⟩
    have B5 := Lib.hid (B1.out.trans (hb.mono B1.out.size))
    clear hb B1
    go_wp2
    go_ret
    exact ⟨rfl, B5.out⟩

