/- Contracts of huff.areLengths, compare and Check. -/
import Derived.Test.YtedbonnejgpjeaaLtaken
namespace Go.Proofs.Ytedbonnejgpjeaa
open Go.RowKit

/-- The slice value s reads the numbers zs. -/
def Zl (w : World) (s : Value) (zs : List Int) : Prop :=
  ∃ a len cap, s = .slice a len cap ∧ len = zs.length ∧ len ≤ 17592186044416 ∧ (a = none → len = 0 ∧ cap = 0) ∧
    (0 < len → ∃ b off, a = some ⟨b, off, none⟩ ∧ b < w.heap.size ∧ ∀ i, i < len → w.cell? ⟨b, off + i, none⟩ = some (.int .i64 (zs[i]?.getD 0)))

theorem Zl.later {w w' : World} {s : Value} {zs : List Int} (h : Zl w s zs) (hb : Below w.heap.size w w') : Zl w' s zs := by
  obtain ⟨a, len, cap, rfl, h1, h2, h3, h4⟩ := h
  refine ⟨a, len, cap, rfl, h1, h2, h3, fun hl => ?_⟩
  obtain ⟨b, off, rfl, hlt, hc⟩ := h4 hl
  refine ⟨b, off, rfl, Nat.lt_of_lt_of_le hlt hb.size, fun i hi => ?_⟩
  rw [hb.cell (p := ⟨b, off + i, none⟩) hlt]
  exact hc i hi
theorem Zl.shape {w : World} {s : Value} {zs : List Int} (h : Zl w s zs) : ∃ a len cap, s = .slice a len cap ∧ len = zs.length := by
  obtain ⟨a, len, cap, rfl, h1, _⟩ := h
  exact ⟨_, _, _, rfl, h1⟩

/-- The numbers are lengths. -/
def Valid (zs : List Int) : Prop := 0 < zs.length ∧ zs.length ≤ 288 ∧ ∀ i, i < zs.length → 0 ≤ zs[i]?.getD 0 ∧ zs[i]?.getD 0 ≤ 15
instance (zs : List Int) : Decidable (Valid zs) := by unfold Valid; infer_instance
/-- The lengths as numbers from 0 on. -/
def nat (zs : List Int) : List Nat := zs.map Int.toNat
theorem nat_length (zs : List Int) : (nat zs).length = zs.length := by simp [nat]
theorem nat_get (zs : List Int) (i : Nat) : (nat zs)[i]?.getD 0 = (zs[i]?.getD 0).toNat := by
  unfold nat
  rw [List.getElem?_map]
  cases zs[i]? <;> rfl
theorem Valid.get {zs : List Int} (h : Valid zs) (i : Nat) (hi : i < zs.length) : zs[i]?.getD 0 = (((nat zs)[i]?.getD 0 : Nat) : Int) := by
  rw [nat_get]; have := h.2.2 i hi; omega
theorem Valid.le {zs : List Int} (h : Valid zs) (i : Nat) (hi : i < (nat zs).length) : Hf.ln (nat zs) i ≤ 15 := by
  rw [nat_length] at hi
  show (nat zs)[i]?.getD 0 ≤ 15
  rw [nat_get]; have := h.2.2 i hi; omega
theorem Valid.lsl {zs : List Int} (h : Valid zs) {w : World} {s : Value} (hz : Zl w s zs) {B : Nat} (hB : w.heap.size ≤ B) : Lsl B w s (nat zs) := by
  obtain ⟨a, len, cap, rfl, h1, h2, h3, h4⟩ := hz
  obtain ⟨b, off, rfl, hlt, hc⟩ := h4 (by have := h.1; omega)
  refine ⟨b, off, cap, by rw [nat_length, h1], by rw [nat_length]; exact h.1, by rw [nat_length]; exact h.2.1, by omega, fun i hi => ?_⟩
  rw [nat_length] at hi
  rw [hc i (by omega), h.get i hi]

/-- Is a number no length? -/
def Bad (z : Int) : Prop := z < 0 ∨ 15 < z

set_option maxHeartbeats 400000 in
theorem bad_yes (z : Int) (hz : Bad z) (w : World) : Calls Try.prog 45 #[.int .i64 z] w fun e w' => e = .returned (.bool true) ∧ w = w' := by
  by_cases h : z < 0
  · have h1 : decide (z < 0) = true := by simpa using h
    clear hz
    go_enter Try.func45, Try.ntmps45
    go_wp2
    go_ret
    exact ⟨rfl, rfl⟩
  · have h1 : decide (z < 0) = false := by simpa using h
    have h2 : 15 < z := hz.resolve_left h
    have h3 : decide (15 < z) = true := by simpa using h2
    clear hz
    go_enter Try.func45, Try.ntmps45
    go_wp2
    go_ret
    exact ⟨rfl, rfl⟩
set_option maxHeartbeats 400000 in
theorem bad_no (z : Int) (hz : ¬ Bad z) (w : World) : Calls Try.prog 45 #[.int .i64 z] w fun e w' => e = .returned (.bool false) ∧ w = w' := by
  have g1 : ¬ z < 0 := fun h => hz (Or.inl h)
  have g2 : ¬ 15 < z := fun h => hz (Or.inr h)
  have h1 : decide (z < 0) = false := by simpa using g1
  have h3 : decide (15 < z) = false := by simpa using g2
  clear hz
  go_enter Try.func45, Try.ntmps45
  go_wp2
  go_ret
  exact ⟨rfl, rfl⟩

/-- What IndexFunc says: a place, if some number is no length. -/
def IdxPost (zs : List Int) (w : World) (e : Ending) (w' : World) : Prop := ∃ r : Int, e = .returned (.int .i64 r) ∧ w = w' ∧ ((0 ≤ r ∧ ∃ i, i < zs.length ∧ Bad (zs[i]?.getD 0)) ∨ (r = -1 ∧ ∀ i, i < zs.length → ¬ Bad (zs[i]?.getD 0)))

set_option maxHeartbeats 1000000 in
theorem index_any (zs : List Int) (s : Value) (w : World) (hz : Zl w s zs) : Calls Try.prog 40 #[s, .func (.func 45) #[] #[]] w (IdxPost zs w) := by
  have HZ := Lib.hid hz
  obtain ⟨a, len, cap, rfl, h1, h2, h3, h4⟩ := hz
  have H1 := Lib.hid h1
  have H4 := Lib.hid h4
  clear h1 h3 h4 HZ
  go_enter Try.func40, Try.ntmps40
  go_wp2
  go_loop [8] (fun s8 => ∃ k : Nat, k ≤ len ∧ s8 = .int .i64 k ∧ Hid (∀ i, i < k → ¬ Bad (zs[i]?.getD 0))) (fun s => len - (intOf s).toNat)
  case atStart => exact ⟨0, Nat.zero_le _, rfl, fun i hi => by omega⟩
  case round =>
    obtain ⟨k, hk, rfl, KB⟩ := hrel
    by_cases hlt : k < len
    · obtain ⟨b, off, rfl, _, hc⟩ := H4.out (by omega)
      have hck := hc k hlt
      obtain ⟨z, hz⟩ : ∃ z, z = zs[k]?.getD 0 := ⟨_, rfl⟩
      rw [← hz] at hck
      have HK := Lib.hid hz
      clear hz hc
      by_cases hb : Bad z
      · have HB := Lib.hid hb
        clear hb
        go_wp2_with (go_at_call 45; refine (bad_yes z HB.out _).mono ?_; rintro e w' ⟨rfl, rfl⟩)
        go_ret
        exact ⟨_, rfl, rfl, Or.inl ⟨by omega, k, by have := H1.out; omega, by rw [← HK.out]; exact HB.out⟩⟩
      · have HB := Lib.hid hb
        clear hb
        go_wp2_with (go_at_call 45; refine (bad_no z HB.out _).mono ?_; rintro e w' ⟨rfl, rfl⟩)
        go_round
        case rel =>
          refine ⟨k + 1, by omega, by go_num, ?_⟩
          show ∀ i, i < k + 1 → _
          intro i hi
          by_cases e : i = k
          · rw [e, ← HK.out]; exact HB.out
          · exact KB.out i (by omega)
        case measure => simp [intOf]; omega
    · obtain rfl : k = len := by omega
      go_wp2
      go_ret
      exact ⟨_, rfl, rfl, Or.inr ⟨rfl, by rw [← H1.out]; exact KB.out⟩⟩

set_option maxHeartbeats 400000 in
theorem contains_yes (zs : List Int) (s : Value) (w : World) (hz : Zl w s zs) (hb : ∃ i, i < zs.length ∧ Bad (zs[i]?.getD 0)) : Calls Try.prog 30 #[s, .func (.func 45) #[] #[]] w fun e w' => e = .returned (.bool true) ∧ w = w' := by
  have HC := index_any zs s w hz
  have HB := Lib.hid hb
  obtain ⟨a, len, cap, rfl, hl⟩ := hz.shape
  clear hz hb hl
  go_enter Try.func30, Try.ntmps30
  go_wp2_with fail
  refine HC.mono ?_
  clear HC
  rintro e w' ⟨r, rfl, rfl, hr⟩
  have h0 : 0 ≤ r := by
    rcases hr with ⟨h, _⟩ | ⟨_, h⟩
    · exact h
    · obtain ⟨i, h1, h2⟩ := HB.out
      exact (h i h1 h2).elim
  have h1 : decide (0 ≤ r) = true := by simpa using h0
  clear hr
  go_wp2
  go_ret
  exact ⟨rfl, rfl⟩
set_option maxHeartbeats 400000 in
theorem contains_no (zs : List Int) (s : Value) (w : World) (hz : Zl w s zs) (hb : ∀ i, i < zs.length → ¬ Bad (zs[i]?.getD 0)) : Calls Try.prog 30 #[s, .func (.func 45) #[] #[]] w fun e w' => e = .returned (.bool false) ∧ w = w' := by
  have HC := index_any zs s w hz
  have HB := Lib.hid hb
  obtain ⟨a, len, cap, rfl, hl⟩ := hz.shape
  clear hz hb hl
  go_enter Try.func30, Try.ntmps30
  go_wp2_with fail
  refine HC.mono ?_
  clear HC
  rintro e w' ⟨r, rfl, rfl, hr⟩
  have h0 : r = -1 := by
    rcases hr with ⟨_, i, h1, h2⟩ | ⟨h, _⟩
    · exact (HB.out i h1 h2).elim
    · exact h
  subst h0
  clear hr
  go_wp2
  go_ret
  exact ⟨rfl, rfl⟩

theorem valid_iff (zs : List Int) (h1 : 0 < zs.length) (h2 : zs.length ≤ 288) : Valid zs ↔ ∀ i, i < zs.length → ¬ Bad (zs[i]?.getD 0) := by
  unfold Valid Bad
  constructor
  · rintro ⟨_, _, h⟩ i hi; have := h i hi; omega
  · intro h; exact ⟨h1, h2, fun i hi => by have := h i hi; omega⟩

set_option maxHeartbeats 1000000 in
theorem are_yes (zs : List Int) (s : Value) (w : World) (hz : Zl w s zs) (hv : Valid zs) : Calls Try.prog 37 #[s] w fun e w' => e = .returned (.bool true) ∧ w = w' := by
  have HC := contains_no zs s w hz ((valid_iff zs hv.1 hv.2.1).1 hv)
  obtain ⟨a, len, cap, rfl, hl⟩ := hz.shape
  have h1 : 0 < len := by have := hv.1; omega
  have h2 : len ≤ 288 := by have := hv.2.1; omega
  have h3 : ((len : Int) == 0) = false := by rw [beq_eq_false_iff_ne]; omega
  have h4 : decide (288 < (len : Int)) = false := by simp; omega
  clear hz hv hl
  go_enter Try.func37, Try.ntmps37
  go_wp2_with fail
  refine HC.mono ?_
  clear HC
  rintro e w' ⟨rfl, rfl⟩
  go_wp2
  go_ret
  exact ⟨rfl, rfl⟩
set_option maxHeartbeats 1000000 in
theorem are_no (zs : List Int) (s : Value) (w : World) (hz : Zl w s zs) (hv : ¬ Valid zs) : Calls Try.prog 37 #[s] w fun e w' => e = .returned (.bool false) ∧ w = w' := by
  obtain ⟨a, len, cap, rfl, hl⟩ := hz.shape
  by_cases g1 : len = 0
  · have h3 : ((len : Int) == 0) = true := by rw [beq_iff_eq]; omega
    clear hz hv hl g1
    go_enter Try.func37, Try.ntmps37
    go_wp2
    go_ret
    exact ⟨rfl, rfl⟩
  · have h3 : ((len : Int) == 0) = false := by rw [beq_eq_false_iff_ne]; omega
    by_cases g2 : 288 < len
    · have h4 : decide (288 < (len : Int)) = true := by simp; omega
      clear hz hv hl
      go_enter Try.func37, Try.ntmps37
      go_wp2
      go_ret
      exact ⟨rfl, rfl⟩
    · have h4 : decide (288 < (len : Int)) = false := by simp; omega
      have hb : ∃ i, i < zs.length ∧ Bad (zs[i]?.getD 0) := by
        have := mt (valid_iff zs (by omega) (by omega)).2 hv
        simpa [Classical.not_forall] using this
      have HC := contains_yes zs _ w hz hb
      clear hz hv hl hb
      go_enter Try.func37, Try.ntmps37
      go_wp2_with fail
      refine HC.mono ?_
      clear HC
      rintro e w' ⟨rfl, rfl⟩
      go_wp2
      go_ret
      exact ⟨rfl, rfl⟩

/-- Too much, too little, or a whole code. -/
def cmpr (t : Nat) : Int := if 32768 < t then 11 else if t < 32768 then 12 else 0

set_option maxHeartbeats 400000 in
theorem compare_is (t : Nat) (w : World) : Calls Try.prog 38 #[.int .i64 (t : Int)] w fun e w' => e = .returned (.int .i64 (cmpr t)) ∧ w = w' := by
  by_cases h : 32768 < t
  · have e : cmpr t = 11 := by unfold cmpr; rw [if_pos h]
    have h1 : decide (32768 < (t : Int)) = true := by simp; omega
    rw [e]
    clear e
    go_enter Try.func38, Try.ntmps38
    go_wp2
    go_ret
    exact ⟨rfl, rfl⟩
  · have h1 : decide (32768 < (t : Int)) = false := by simp; omega
    by_cases h2 : t < 32768
    · have e : cmpr t = 12 := by unfold cmpr; rw [if_neg h, if_pos h2]
      have h3 : decide ((t : Int) < 32768) = true := by simp; omega
      rw [e]
      clear e
      go_enter Try.func38, Try.ntmps38
      go_wp2
      go_ret
      exact ⟨rfl, rfl⟩
    · have e : cmpr t = 0 := by unfold cmpr; rw [if_neg h, if_neg h2]
      have h3 : decide ((t : Int) < 32768) = false := by simp; omega
      rw [e]
      clear e
      go_enter Try.func38, Try.ntmps38
      go_wp2
      go_ret
      exact ⟨rfl, rfl⟩

/-- What lengths take. -/
def takes (ls : List Nat) : Nat := takesOf (usedTo ls ls.length)
/-- What Check says. -/
def chk (zs : List Int) : Int := if Valid zs then cmpr (takes (nat zs)) else 2

/-- What a function that hands back one number leaves: it makes memory, and turns none. -/
def One (w : World) (c : Int) (e : Ending) (w' : World) : Prop := e = .returned (.int .i64 c) ∧ Below w.heap.size w w'

set_option maxHeartbeats 1000000 in
theorem check_any (zs : List Int) (s : Value) (w : World) (hz : Zl w s zs) : Calls Try.prog 29 #[s] w (One w (chk zs)) := by
  by_cases hv : Valid zs
  · have e : chk zs = cmpr (takes (nat zs)) := if_pos hv
    rw [e]
    clear e
    have H1 := are_yes zs s w hz hv
    have H2 := taken_any s (nat zs) w (hv.lsl hz (Nat.le_refl _))
    obtain ⟨a, len, cap, rfl, hl⟩ := hz.shape
    have H3 := compare_is (takes (nat zs))
    unfold takes at H3 ⊢
    generalize takesOf (usedTo (nat zs) (nat zs).length) = t at H2 H3 ⊢
    clear hz hv hl
    go_enter Try.func29, Try.ntmps29
    go_wp2_with fail
    refine H1.mono ?_
    clear H1
    rintro e w' ⟨rfl, rfl⟩
    go_wp2_with fail
    refine H2.mono ?_
    clear H2
    rintro e w' ⟨rfl, hb⟩
    have HB := Lib.hid hb
    clear hb
    go_wp2_with fail
    refine (H3 _).mono ?_
    clear H3
    rintro e w2 ⟨rfl, rfl⟩
    go_wp2
    go_ret
    exact ⟨rfl, HB.out⟩
  · have e : chk zs = 2 := if_neg hv
    rw [e]
    clear e
    have H1 := are_no zs s w hz hv
    obtain ⟨a, len, cap, rfl, hl⟩ := hz.shape
    clear hz hv hl
    go_enter Try.func29, Try.ntmps29
    go_wp2_with fail
    refine H1.mono ?_
    clear H1
    rintro e w' ⟨rfl, rfl⟩
    go_wp2
    go_ret
    exact ⟨rfl, Below.refl _ _⟩
end Go.Proofs.Ytedbonnejgpjeaa
