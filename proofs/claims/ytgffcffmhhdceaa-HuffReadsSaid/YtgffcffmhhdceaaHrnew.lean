/- Contract of the document's New: why lengths are no table. -/
import Derived.Test.YtgffcffmhhdceaaHnew2
import Derived.Test.YtgffcffmhhdceaaHrchk
import Derived.Test.YtgffcffmhhdceaaHput
namespace Go.Proofs.Ytgffcffmhhdceaa
open Go.RowKit

/-- The last number of a list, 0 of none. -/
def lastOf (ls : List Nat) (xs : List Nat) : Nat := (xs.getLast?.map (Hf.ln ls)).getD 0

theorem ordl_usedL (ls : List Nat) (h15 : ∀ i, i < ls.length → Hf.ln ls i ≤ 15) (x : Nat) : x ∈ Hf.ordl ls ↔ x ∈ Hf.usedL ls ls.length := by
  unfold Hf.ordl
  rw [Hf.mem_ordTo, Hf.mem_usedL]
  constructor
  · rintro ⟨h1, h2, _⟩; exact ⟨h1, by omega⟩
  · rintro ⟨h1, h2⟩; exact ⟨h1, by omega, h15 x h1⟩

theorem one_of_nodup {xs ys : List Nat} (hx : xs.Nodup) (h : ∀ x, x ∈ xs ↔ x ∈ ys) {y : Nat} (hy : ys = [y]) : xs = [y] := by
  subst hy
  match xs, hx, h with
  | [], _, h => exact absurd ((h y).2 (List.mem_singleton.2 rfl)) (by simp)
  | [a], _, h => rw [List.mem_singleton.1 ((h a).1 (List.mem_singleton.2 rfl))]
  | a :: b :: r, hx, h =>
    have ha := List.mem_singleton.1 ((h a).1 (by simp))
    have hb := List.mem_singleton.1 ((h b).1 (by simp))
    rw [ha, hb] at hx
    simp at hx

theorem ordl_nodup (ls : List Nat) : (Hf.ordl ls).Nodup := by
  refine (Hf.ordTo_sorted ls 15).imp ?_
  intro a b h e
  subst e
  unfold Hf.Lt at h
  omega
theorem usedL_nodup (ls : List Nat) (k : Nat) : (Hf.usedL ls k).Nodup := (Hf.usedL_sorted ls k).imp fun h e => by omega

/-- One symbol alone is used, and its length is 1: as the document counts it. -/
theorem lone_iff (ls : List Nat) (h15 : ∀ i, i < ls.length → Hf.ln ls i ≤ 15) : Lone ls ↔ ((Hf.usedL ls ls.length).length = 1 ∧ lastOf ls (Hf.usedL ls ls.length) = 1) := by
  unfold Lone lastOf
  constructor
  · rintro ⟨h1, h2⟩
    obtain ⟨x, hx⟩ := List.length_eq_one_iff.1 h1
    have hu := one_of_nodup (usedL_nodup ls ls.length) (fun y => (ordl_usedL ls h15 y).symm) hx
    rw [hu]
    refine ⟨rfl, ?_⟩
    unfold Hf.sy at h2
    rw [hx] at h2
    exact h2
  · rintro ⟨h1, h2⟩
    obtain ⟨x, hx⟩ := List.length_eq_one_iff.1 h1
    have ho := one_of_nodup (ordl_nodup ls) (ordl_usedL ls h15) hx
    rw [hx] at h2
    refine ⟨by rw [ho]; rfl, ?_⟩
    unfold Hf.sy
    rw [ho]
    exact h2

theorem usedL_step (ls : List Nat) (k x n : Nat) (hx : x = Hf.ln ls k) (hn : n = (Hf.usedL ls k).length) : (Hf.usedL ls (k + 1)).length = n + (if 0 < x then 1 else 0) := by
  simp only [Hf.usedL]
  rw [← hx, List.length_append, ← hn]
  by_cases h : x = 0
  · rw [if_pos h, if_neg (by omega)]; rfl
  · rw [if_neg h, if_pos (by omega)]; rfl
theorem lastOf_step (ls : List Nat) (k x n : Nat) (hx : x = Hf.ln ls k) (hn : n = lastOf ls (Hf.usedL ls k)) : lastOf ls (Hf.usedL ls (k + 1)) = if 0 < x then x else n := by
  simp only [Hf.usedL]
  rw [← hx]
  by_cases h : x = 0
  · rw [if_pos h, if_neg (by omega), List.append_nil, hn]
  · rw [if_neg h, if_pos (by omega)]
    unfold lastOf
    simp [hx]

set_option maxHeartbeats 2000000 in
theorem rnew_any (zs : List Int) (s : Value) (w : World) (hz : Zl w s zs) : Calls Try.prog 22 #[s] w fun e w' => e = .returned (.int .i64 (newE zs)) ∧ w = w' := by
  have HC := Lib.hid (rcheck_any zs s w hz)
  have HZ := Lib.hid hz
  obtain ⟨a, len, cap, rfl, hlen⟩ := hz.shape
  have HL := Lib.hid hlen
  by_cases h12 : chk zs = 12
  · have hv : Valid zs := Fit.valid (Or.inr h12)
    have hl9 : len ≤ 288 := by have := hv.2.1; omega
    have HE : Hid (newE zs = if (Hf.usedL (nat zs) (nat zs).length).length = 1 ∧ lastOf (nat zs) (Hf.usedL (nat zs) (nat zs).length) = 1 then 0 else 12) := by
      show _ = _
      unfold newE
      rw [h12]
      by_cases hl : Lone (nat zs)
      · rw [if_pos ⟨rfl, hl⟩, if_pos ((lone_iff _ fun i hi => hv.le i hi).1 hl)]
      · rw [if_neg (fun h => hl h.2), if_neg (fun h => hl ((lone_iff _ fun i hi => hv.le i hi).2 h))]
    rw [h12] at HC
    have HV := Lib.hid hv
    obtain ⟨r, hr⟩ : ∃ r, r = newE zs := ⟨_, rfl⟩
    rw [← hr] at HE ⊢
    clear hz hlen h12 hv hr
    go_enter Try.func22, Try.ntmps22
    go_wp2_with fail
    refine HC.out.mono ?_
    clear HC
    rintro e w' ⟨rfl, rfl⟩
    go_wp2_with fail
    go_loop [4, 5, 6] (fun s4 s5 s6 => ∃ k u o : Nat, k ≤ len ∧ s6 = .int .i64 k ∧ s4 = .int .i64 u ∧ s5 = .int .i64 o ∧ u ≤ k ∧ o ≤ 15 ∧ Hid (Unit → u = (Hf.usedL (nat zs) k).length) ∧ Hid (Unit → o = lastOf (nat zs) (Hf.usedL (nat zs) k))) (fun _ _ s => len - (intOf s).toNat)
    case atStart => exact ⟨0, 0, 0, Nat.zero_le _, rfl, rfl, rfl, Nat.le_refl _, by omega, (fun _ => rfl : Unit → _), (fun _ => rfl : Unit → _)⟩
    case round =>
      obtain ⟨k, u, o, hk, rfl, rfl, rfl, huk, ho, HU, HO⟩ := hrel
      by_cases hlt : k < len
      · obtain ⟨b, off, rfl, _, hq, hc⟩ := zl_cell HZ.out k (by have := HL.out; omega)
        have hg := HV.out.get k (by have := HL.out; omega)
        obtain ⟨x, hx⟩ : ∃ x : Nat, x = (nat zs)[k]?.getD 0 := ⟨_, rfl⟩
        rw [hg, ← hx] at hc
        have hx15 : x ≤ 15 := by rw [hx]; exact HV.out.le k (by rw [nat_length]; have := HL.out; omega)
        have HX := Lib.hid hx
        clear hq hg hx
        have j1 : (0 : Int) ≤ (k : Int) := by omega
        have j2 : (k : Int) < (len : Int) := by omega
        have NU : Hid (Unit → u + (if 0 < x then 1 else 0) = (Hf.usedL (nat zs) (k + 1)).length) := fun _ => (usedL_step (nat zs) k x u HX.out (HU.out ())).symm
        have NO : Hid (Unit → (if 0 < x then x else o) = lastOf (nat zs) (Hf.usedL (nat zs) (k + 1))) := fun _ => (lastOf_step (nat zs) k x o HX.out (HO.out ())).symm
        by_cases h0 : 0 < x
        · rw [if_pos h0] at NU NO
          have d1 : decide ((0 : Int) < (x : Int)) = true := decide_eq_true (by omega)
          have d2 : decide (0 < x) = true := decide_eq_true h0
          go_wp2
          go_round
          case rel => exact ⟨k + 1, u + 1, x, by omega, by go_num, by go_num, rfl, by omega, hx15, NU, NO⟩
          case measure => simp [intOf]; omega
        · rw [if_neg h0] at NU NO
          have d1 : decide ((0 : Int) < (x : Int)) = false := decide_eq_false (by omega)
          have d2 : decide (0 < x) = false := decide_eq_false h0
          go_wp2
          go_round
          case rel => exact ⟨k + 1, u, o, by omega, by go_num, rfl, rfl, by omega, ho, NU, NO⟩
          case measure => simp [intOf]; omega
      · obtain rfl : k = len := by omega
        have e1 : u = (Hf.usedL (nat zs) (nat zs).length).length := by rw [HU.out (), nat_length, HL.out]
        have e2 : o = lastOf (nat zs) (Hf.usedL (nat zs) (nat zs).length) := by rw [HO.out (), nat_length, HL.out]
        have HE2 : Hid (r = if u = 1 ∧ o = 1 then 0 else 12) := by rw [e1, e2]; exact HE.out
        clear e1 e2 HE HU HO
        by_cases hu : u = 1
        · by_cases ho1 : o = 1
          · have hr : Hid (r = 0) := by have := HE2.out; rw [if_pos ⟨hu, ho1⟩] at this; exact this
            subst hu ho1
            clear HE2
            go_wp2
            go_ret
            exact ⟨by rw [hr.out]; rfl, rfl⟩
          · have hr : Hid (r = 12) := by have := HE2.out; rw [if_neg (fun h => ho1 h.2)] at this; exact this
            have d2 : ((o : Int) == 1) = false := by rw [beq_eq_false_iff_ne]; omega
            subst hu
            clear HE2
            go_wp2
            go_ret
            exact ⟨by rw [hr.out]; rfl, rfl⟩
        · have hr : Hid (r = 12) := by have := HE2.out; rw [if_neg (fun h => hu h.1)] at this; exact this
          have d1 : ((u : Int) == 1) = false := by rw [beq_eq_false_iff_ne]; omega
          clear HE2
          go_wp2
          go_ret
          exact ⟨by rw [hr.out]; rfl, rfl⟩
  · have HE : newE zs = chk zs := by unfold newE; rw [if_neg (fun h => h12 h.1)]
    rw [HE]
    obtain ⟨c, hc⟩ : ∃ c, c = chk zs := ⟨_, rfl⟩
    rw [← hc] at HC h12 ⊢
    have d1 : (c == 12) = false := by rw [beq_eq_false_iff_ne]; exact h12
    clear hz hlen hc HE
    go_enter Try.func22, Try.ntmps22
    go_wp2_with fail
    refine HC.out.mono ?_
    clear HC
    rintro e w' ⟨rfl, rfl⟩
    go_wp2_with fail
    refine wp_loop_rounds 1 ?_
    rw [rounds_succ]
    by_cases h0 : 0 < len
    · have d2 : decide ((0 : Int) < (len : Int)) = true := decide_eq_true (by omega)
      go_wp2
      go_ret
      exact ⟨rfl, rfl⟩
    · have d2 : decide ((0 : Int) < (len : Int)) = false := decide_eq_false (by omega)
      go_wp2
      go_ret
      exact ⟨rfl, rfl⟩
end Go.Proofs.Ytgffcffmhhdceaa
