/- Contracts of huff.areLengths, compare and Check. -/
import Derived.Test.YtnjlljdbghcobaaGreatDoorHord

namespace Go.Proofs.YtnjlljdbghcobaaGreatDoor
set_option maxRecDepth 100000
open Go.RowKit

/-- The slice value s reads the numbers zs. -/
def Zl (w : World) (s : Value) (zs : List Int) : Prop :=
  ∃ a len cap, s = .slice a len cap ∧ len = zs.length ∧ len ≤ 17592186044416 ∧ (a = none → len = 0 ∧ cap = 0) ∧
    (0 < len → ∃ b off, a = some ⟨b, off, none⟩ ∧ b < w.heap.size ∧ ∀ i, i < len → w.cell? ⟨b, off + i, none⟩ = some (.int .i64 (zs[i]?.getD 0)))

theorem Zl.later {w w' : World} {s : Value} {zs : List Int} (h : Zl w s zs) (hb : Below w.heap.size w w') : Zl w' s zs := by
  obtain ⟨a, len, cap, rfl, h1, h2, h3, h4⟩ := h
  refine ⟨a, len, cap, rfl, h1, h2, h3, fun hl => ?_⟩
  obtain ⟨b, off, rfl, hlt, hc⟩ := h4 hl
  refine ⟨b, off, rfl, Nat.lt_of_lt_of_le hlt hb.size, fun i hi => ?_⟩
  rw [hb.cell (p := ⟨b, off + i, none⟩) hlt]
  exact hc i hi
theorem Zl.shape {w : World} {s : Value} {zs : List Int} (h : Zl w s zs) : ∃ a len cap, s = .slice a len cap ∧ len = zs.length := by
  obtain ⟨a, len, cap, rfl, h1, _⟩ := h
  exact ⟨_, _, _, rfl, h1⟩

/-- The numbers are lengths. -/
def Valid (zs : List Int) : Prop := 0 < zs.length ∧ zs.length ≤ 288 ∧ ∀ i, i < zs.length → 0 ≤ zs[i]?.getD 0 ∧ zs[i]?.getD 0 ≤ 15
instance (zs : List Int) : Decidable (Valid zs) := by unfold Valid; infer_instance
/-- The lengths as numbers from 0 on. -/
def nat (zs : List Int) : List Nat := zs.map Int.toNat
theorem nat_length (zs : List Int) : (nat zs).length = zs.length := by simp [nat]
theorem nat_get (zs : List Int) (i : Nat) : (nat zs)[i]?.getD 0 = (zs[i]?.getD 0).toNat := by
  unfold nat
  rw [List.getElem?_map]
  cases zs[i]? <;> rfl
theorem Valid.get {zs : List Int} (h : Valid zs) (i : Nat) (hi : i < zs.length) : zs[i]?.getD 0 = (((nat zs)[i]?.getD 0 : Nat) : Int) := by
  rw [nat_get]; have := h.2.2 i hi; omega
theorem Valid.le {zs : List Int} (h : Valid zs) (i : Nat) (hi : i < (nat zs).length) : Hf.ln (nat zs) i ≤ 15 := by
  rw [nat_length] at hi
  show (nat zs)[i]?.getD 0 ≤ 15
  rw [nat_get]; have := h.2.2 i hi; omega
theorem Valid.lsl {zs : List Int} (h : Valid zs) {w : World} {s : Value} (hz : Zl w s zs) {B : Nat} (hB : w.heap.size ≤ B) : Lsl B w s (nat zs) := by
  obtain ⟨a, len, cap, rfl, h1, h2, h3, h4⟩ := hz
  obtain ⟨b, off, rfl, hlt, hc⟩ := h4 (by have := h.1; omega)
  refine ⟨b, off, cap, by rw [nat_length, h1], by rw [nat_length]; exact h.1, by rw [nat_length]; exact h.2.1, by omega, fun i hi => ?_⟩
  rw [nat_length] at hi
  rw [hc i (by omega), h.get i hi]

/-- Is a number no length? -/
def Bad (z : Int) : Prop := z < 0 ∨ 15 < z

set_option maxHeartbeats 400000 in
theorem bad_yes (z : Int) (hz : Bad z) (w : World) : Calls Tryz.prog 222 #[.int .i64 z] w fun e w' => e = .returned (.bool true) ∧ w = w' := by
  by_cases h : z < 0
  · have h1 : decide (z < 0) = true := by simpa using h
    clear hz
    go_enter Tryz.func222, Tryz.ntmps222
    go_wp2
    go_ret
    exact ⟨rfl, rfl⟩
  · have h1 : decide (z < 0) = false := by simpa using h
    have h2 : 15 < z := hz.resolve_left h
    have h3 : decide (15 < z) = true := by simpa using h2
    clear hz
    go_enter Tryz.func222, Tryz.ntmps222
    go_wp2
    go_ret
    exact ⟨rfl, rfl⟩
set_option maxHeartbeats 400000 in
theorem bad_no (z : Int) (hz : ¬ Bad z) (w : World) : Calls Tryz.prog 222 #[.int .i64 z] w fun e w' => e = .returned (.bool false) ∧ w = w' := by
  have g1 : ¬ z < 0 := fun h => hz (Or.inl h)
  have g2 : ¬ 15 < z := fun h => hz (Or.inr h)
  have h1 : decide (z < 0) = false := by simpa using g1
  have h3 : decide (15 < z) = false := by simpa using g2
  clear hz
  go_enter Tryz.func222, Tryz.ntmps222
  go_wp2
  go_ret
  exact ⟨rfl, rfl⟩

/-- What IndexFunc says: a place, if some number is no length. -/
def IdxPost (zs : List Int) (w : World) (e : Ending) (w' : World) : Prop := ∃ r : Int, e = .returned (.int .i64 r) ∧ w = w' ∧ ((0 ≤ r ∧ ∃ i, i < zs.length ∧ Bad (zs[i]?.getD 0)) ∨ (r = -1 ∧ ∀ i, i < zs.length → ¬ Bad (zs[i]?.getD 0)))

set_option maxHeartbeats 1000000 in
theorem index_any (zs : List Int) (s : Value) (w : World) (hz : Zl w s zs) : Calls Tryz.prog 184 #[s, .func (.func 222) #[] #[]] w (IdxPost zs w) := by
  have HZ := Lib.hid hz
  obtain ⟨a, len, cap, rfl, h1, h2, h3, h4⟩ := hz
  have H1 := Lib.hid h1
  have H4 := Lib.hid h4
  clear h1 h3 h4 HZ
  go_enter Tryz.func184, Tryz.ntmps184
  go_wp2
  go_loop [8] (fun s8 => ∃ k : Nat, k ≤ len ∧ s8 = .int .i64 k ∧ Hid (∀ i, i < k → ¬ Bad (zs[i]?.getD 0))) (fun s => len - (intOf s).toNat)
  case atStart => exact ⟨0, Nat.zero_le _, rfl, fun i hi => by omega⟩
  case round =>
    obtain ⟨k, hk, rfl, KB⟩ := hrel
    by_cases hlt : k < len
    · obtain ⟨b, off, rfl, _, hc⟩ := H4.out (by omega)
      have hck := hc k hlt
      obtain ⟨z, hz⟩ : ∃ z, z = zs[k]?.getD 0 := ⟨_, rfl⟩
      rw [← hz] at hck
      have HK := Lib.hid hz
      clear hz hc
      by_cases hb : Bad z
      · have HB := Lib.hid hb
        clear hb
        go_wp2_with (go_at_call 222; refine (bad_yes z HB.out _).mono ?_; rintro e w' ⟨rfl, rfl⟩)
        go_ret
        exact ⟨_, rfl, rfl, Or.inl ⟨by omega, k, by have := H1.out; omega, by rw [← HK.out]; exact HB.out⟩⟩
      · have HB := Lib.hid hb
        clear hb
        go_wp2_with (go_at_call 222; refine (bad_no z HB.out _).mono ?_; rintro e w' ⟨rfl, rfl⟩)
        go_round
        case rel =>
          refine ⟨k + 1, by omega, by go_num, ?_⟩
          show ∀ i, i < k + 1 → _
          intro i hi
          by_cases e : i = k
          · rw [e, ← HK.out]; exact HB.out
          · exact KB.out i (by omega)
        case measure => simp [intOf]; omega
    · obtain rfl : k = len := by omega
      go_wp2
      go_ret
      exact ⟨_, rfl, rfl, Or.inr ⟨rfl, by rw [← H1.out]; exact KB.out⟩⟩

set_option maxHeartbeats 400000 in
theorem contains_yes (zs : List Int) (s : Value) (w : World) (hz : Zl w s zs) (hb : ∃ i, i < zs.length ∧ Bad (zs[i]?.getD 0)) : Calls Tryz.prog 139 #[s, .func (.func 222) #[] #[]] w fun e w' => e = .returned (.bool true) ∧ w = w' := by
  have HC := index_any zs s w hz
  have HB := Lib.hid hb
  obtain ⟨a, len, cap, rfl, hl⟩ := hz.shape
  clear hz hb hl
  go_enter Tryz.func139, Tryz.ntmps139
  go_wp2_with fail
  refine HC.mono ?_
  clear HC
  rintro e w' ⟨r, rfl, rfl, hr⟩
  have h0 : 0 ≤ r := by
    rcases hr with ⟨h, _⟩ | ⟨_, h⟩
    · exact h
    · obtain ⟨i, h1, h2⟩ := HB.out
      exact (h i h1 h2).elim
  have h1 : decide (0 ≤ r) = true := by simpa using h0
  clear hr
  go_wp2
  go_ret
  exact ⟨rfl, rfl⟩
set_option maxHeartbeats 400000 in
theorem contains_no (zs : List Int) (s : Value) (w : World) (hz : Zl w s zs) (hb : ∀ i, i < zs.length → ¬ Bad (zs[i]?.getD 0)) : Calls Tryz.prog 139 #[s, .func (.func 222) #[] #[]] w fun e w' => e = .returned (.bool false) ∧ w = w' := by
  have HC := index_any zs s w hz
  have HB := Lib.hid hb
  obtain ⟨a, len, cap, rfl, hl⟩ := hz.shape
  clear hz hb hl
  go_enter Tryz.func139, Tryz.ntmps139
  go_wp2_with fail
  refine HC.mono ?_
  clear HC
  rintro e w' ⟨r, rfl, rfl, hr⟩
  have h0 : r = -1 := by
    rcases hr with ⟨_, i, h1, h2⟩ | ⟨h, _⟩
    · exact (HB.out i h1 h2).elim
    · exact h
  subst h0
  clear hr
  go_wp2
  go_ret
  exact ⟨rfl, rfl⟩

theorem valid_iff (zs : List Int) (h1 : 0 < zs.length) (h2 : zs.length ≤ 288) : Valid zs ↔ ∀ i, i < zs.length → ¬ Bad (zs[i]?.getD 0) := by
  unfold Valid Bad
  constructor
  · rintro ⟨_, _, h⟩ i hi; have := h i hi; omega
  · intro h; exact ⟨h1, h2, fun i hi => by have := h i hi; omega⟩

set_option maxHeartbeats 1000000 in
theorem are_yes (zs : List Int) (s : Value) (w : World) (hz : Zl w s zs) (hv : Valid zs) : Calls Tryz.prog 199 #[s] w fun e w' => e = .returned (.bool true) ∧ w = w' := by
  have HC := contains_no zs s w hz ((valid_iff zs hv.1 hv.2.1).1 hv)
  obtain ⟨a, len, cap, rfl, hl⟩ := hz.shape
  have h1 : 0 < len := by have := hv.1; omega
  have h2 : len ≤ 288 := by have := hv.2.1; omega
  have h3 : ((len : Int) == 0) = false := by rw [beq_eq_false_iff_ne]; omega
  have h4 : decide (288 < (len : Int)) = false := by simp; omega
  clear hz hv hl
  go_enter Tryz.func199, Tryz.ntmps199
  go_wp2_with fail
  refine HC.mono ?_
  clear HC
  rintro e w' ⟨rfl, rfl⟩
  go_wp2
  go_ret
  exact ⟨rfl, rfl⟩
set_option maxHeartbeats 1000000 in
theorem are_no (zs : List Int) (s : Value) (w : World) (hz : Zl w s zs) (hv : ¬ Valid zs) : Calls Tryz.prog 199 #[s] w fun e w' => e = .returned (.bool false) ∧ w = w' := by
  obtain ⟨a, len, cap, rfl, hl⟩ := hz.shape
  by_cases g1 : len = 0
  · have h3 : ((len : Int) == 0) = true := by rw [beq_iff_eq]; omega
    clear hz hv hl g1
    go_enter Tryz.func199, Tryz.ntmps199
    go_wp2
    go_ret
    exact ⟨rfl, rfl⟩
  · have h3 : ((len : Int) == 0) = false := by rw [beq_eq_false_iff_ne]; omega
    by_cases g2 : 288 < len
    · have h4 : decide (288 < (len : Int)) = true := by simp; omega
      clear hz hv hl
      go_enter Tryz.func199, Tryz.ntmps199
      go_wp2
      go_ret
      exact ⟨rfl, rfl⟩
    · have h4 : decide (288 < (len : Int)) = false := by simp; omega
      have hb : ∃ i, i < zs.length ∧ Bad (zs[i]?.getD 0) := by
        have := mt (valid_iff zs (by omega) (by omega)).2 hv
        simpa [Classical.not_forall] using this
      have HC := contains_yes zs _ w hz hb
      clear hz hv hl hb
      go_enter Tryz.func199, Tryz.ntmps199
      go_wp2_with fail
      refine HC.mono ?_
      clear HC
      rintro e w' ⟨rfl, rfl⟩
      go_wp2
      go_ret
      exact ⟨rfl, rfl⟩

/-- Too much, too little, or a whole code. -/
def cmpr (t : Nat) : Int := if 32768 < t then 11 else if t < 32768 then 12 else 0

set_option maxHeartbeats 400000 in
theorem compare_is (t : Nat) (w : World) : Calls Tryz.prog 200 #[.int .i64 (t : Int)] w fun e w' => e = .returned (.int .i64 (cmpr t)) ∧ w = w' := by
  by_cases h : 32768 < t
  · have e : cmpr t = 11 := by unfold cmpr; rw [if_pos h]
    have h1 : decide (32768 < (t : Int)) = true := by simp; omega
    rw [e]
    clear e
    go_enter Tryz.func200, Tryz.ntmps200
    go_wp2
    go_ret
    exact ⟨rfl, rfl⟩
  · have h1 : decide (32768 < (t : Int)) = false := by simp; omega
    by_cases h2 : t < 32768
    · have e : cmpr t = 12 := by unfold cmpr; rw [if_neg h, if_pos h2]
      have h3 : decide ((t : Int) < 32768) = true := by simp; omega
      rw [e]
      clear e
      go_enter Tryz.func200, Tryz.ntmps200
      go_wp2
      go_ret
      exact ⟨rfl, rfl⟩
    · have e : cmpr t = 0 := by unfold cmpr; rw [if_neg h, if_neg h2]
      have h3 : decide ((t : Int) < 32768) = false := by simp; omega
      rw [e]
      clear e
      go_enter Tryz.func200, Tryz.ntmps200
      go_wp2
      go_ret
      exact ⟨rfl, rfl⟩

/-- What lengths take. -/
def takes (ls : List Nat) : Nat := takesOf (usedTo ls ls.length)
/-- What Check says. -/
def chk (zs : List Int) : Int := if Valid zs then cmpr (takes (nat zs)) else 2

/-- What a function that hands back one number leaves: it makes memory, and turns none. -/
def One (w : World) (c : Int) (e : Ending) (w' : World) : Prop := e = .returned (.int .i64 c) ∧ Below w.heap.size w w'

set_option maxHeartbeats 1000000 in
theorem check_any (zs : List Int) (s : Value) (w : World) (hz : Zl w s zs) : Calls Tryz.prog 173 #[s] w (One w (chk zs)) := by
  by_cases hv : Valid zs
  · have e : chk zs = cmpr (takes (nat zs)) := if_pos hv
    rw [e]
    clear e
    have H1 := are_yes zs s w hz hv
    have H2 := taken_any s (nat zs) w (hv.lsl hz (Nat.le_refl _))
    obtain ⟨a, len, cap, rfl, hl⟩ := hz.shape
    have H3 := compare_is (takes (nat zs))
    unfold takes at H3 ⊢
    generalize takesOf (usedTo (nat zs) (nat zs).length) = t at H2 H3 ⊢
    clear hz hv hl
    go_enter Tryz.func173, Tryz.ntmps173
    go_wp2_with fail
    refine H1.mono ?_
    clear H1
    rintro e w' ⟨rfl, rfl⟩
    go_wp2_with fail
    refine H2.mono ?_
    clear H2
    rintro e w' ⟨rfl, hb⟩
    have HB := Lib.hid hb
    clear hb
    go_wp2_with fail
    refine (H3 _).mono ?_
    clear H3
    rintro e w2 ⟨rfl, rfl⟩
    go_wp2
    go_ret
    exact ⟨rfl, HB.out⟩
  · have e : chk zs = 2 := if_neg hv
    rw [e]
    clear e
    have H1 := are_no zs s w hz hv
    obtain ⟨a, len, cap, rfl, hl⟩ := hz.shape
    clear hz hv hl
    go_enter Tryz.func173, Tryz.ntmps173
    go_wp2_with fail
    refine H1.mono ?_
    clear H1
    rintro e w' ⟨rfl, rfl⟩
    go_wp2
    go_ret
    exact ⟨rfl, Below.refl _ _⟩
end Go.Proofs.YtnjlljdbghcobaaGreatDoor

/- The codes by lengths as numbers: plain facts. Nothing of the program is named here. -/
namespace Go.Proofs.YtnjlljdbghcobaaGreatDoor
set_option maxRecDepth 100000
namespace Hf

/-- The k-th symbol in the order of codes. -/
def sy (ls : List Nat) (k : Nat) : Nat := (ordl ls)[k]?.getD 0
/-- The next code, and the length of the last one, when k symbols have theirs. -/
def st (ls : List Nat) : Nat → Nat × Nat
  | 0 => (0, 0)
  | k + 1 => ((st ls k).1 * 2 ^ (ln ls (sy ls k) - (st ls k).2) + 1, ln ls (sy ls k))
/-- The k-th symbol's code. -/
def cd (ls : List Nat) (k : Nat) : Nat := (st ls k).1 * 2 ^ (ln ls (sy ls k) - (st ls k).2)
theorem st_succ (ls : List Nat) (k : Nat) : st ls (k + 1) = (cd ls k + 1, ln ls (sy ls k)) := rfl
/-- The first k symbols with their codes. -/
def codedTo (ls : List Nat) : Nat → List (Nat × Nat)
  | 0 => []
  | k + 1 => codedTo ls k ++ [(sy ls k, cd ls k)]
theorem codedTo_length (ls : List Nat) (k : Nat) : (codedTo ls k).length = k := by
  induction k with
  | zero => rfl
  | succ k ih => simp [codedTo, ih]
/-- Each symbol's code, when those of a list have theirs. -/
def outOf (n : Nat) (ps : List (Nat × Nat)) : List Nat := ps.foldl (fun o p => o.set p.1 p.2) (List.replicate n 0)
theorem outOf_length (n : Nat) (ps : List (Nat × Nat)) : (outOf n ps).length = n := by
  have : ∀ (ps : List (Nat × Nat)) (o : List Nat), (ps.foldl (fun o p => o.set p.1 p.2) o).length = o.length := by
    intro ps
    induction ps with
    | nil => intro o; rfl
    | cons p ps ih => intro o; rw [List.foldl_cons, ih]; simp
  unfold outOf
  rw [this]; simp
theorem outOf_snoc (n : Nat) (ps : List (Nat × Nat)) (p : Nat × Nat) : outOf n (ps ++ [p]) = (outOf n ps).set p.1 p.2 := by simp [outOf]
/-- The codes. -/
def codes (ls : List Nat) : List Nat := outOf ls.length (codedTo ls (ordl ls).length)
theorem codes_length (ls : List Nat) : (codes ls).length = ls.length := outOf_length _ _

/-- What the first k symbols take. -/
def pf (ls : List Nat) : Nat → Nat
  | 0 => 0
  | k + 1 => pf ls k + 2 ^ (15 - ln ls (sy ls k))

theorem sy_mem (ls : List Nat) (k : Nat) (hk : k < (ordl ls).length) : sy ls k < ls.length ∧ 0 < ln ls (sy ls k) ∧ ln ls (sy ls k) ≤ 15 := by
  have h : sy ls k ∈ ordl ls := by unfold sy; rw [List.getElem?_eq_getElem hk]; exact List.getElem_mem hk
  unfold ordl at h
  rwa [mem_ordTo] at h
theorem sy_lt (ls : List Nat) (j k : Nat) (hj : j < k) (hk : k < (ordl ls).length) : Lt ls (sy ls j) (sy ls k) := by
  have := List.pairwise_iff_getElem.1 (ordTo_sorted ls 15) j k (by unfold ordl at hk; omega) (by unfold ordl at hk; omega) hj
  unfold sy
  rw [List.getElem?_eq_getElem (by omega), List.getElem?_eq_getElem hk]
  exact this
theorem sy_le (ls : List Nat) (j k : Nat) (hj : j ≤ k) (hk : k < (ordl ls).length) : ln ls (sy ls j) ≤ ln ls (sy ls k) := by
  by_cases e : j = k
  · rw [e]; exact Nat.le_refl _
  · have := sy_lt ls j k (by omega) hk; unfold Lt at this; omega
theorem sy_of (ls : List Nat) (x : Nat) (hx : x < ls.length) (h0 : 0 < ln ls x) (h15 : ln ls x ≤ 15) : ∃ k, k < (ordl ls).length ∧ sy ls k = x := by
  have h : x ∈ ordl ls := by unfold ordl; rw [mem_ordTo]; exact ⟨hx, h0, h15⟩
  obtain ⟨k, hk, e⟩ := List.getElem_of_mem h
  exact ⟨k, hk, by unfold sy; rw [List.getElem?_eq_getElem hk]; exact e⟩
theorem sy_inj (ls : List Nat) (j k : Nat) (hj : j < (ordl ls).length) (hk : k < (ordl ls).length) (e : sy ls j = sy ls k) : j = k := by
  rcases Nat.lt_trichotomy j k with h | h | h
  · have := sy_lt ls j k h hk; unfold Lt at this; rw [e] at this; omega
  · exact h
  · have := sy_lt ls k j h hj; unfold Lt at this; rw [e] at this; omega

theorem pow_split (a b c : Nat) (h1 : a ≤ b) (h2 : b ≤ c) : 2 ^ (b - a) * 2 ^ (c - b) = 2 ^ (c - a) := by
  rw [← Nat.pow_add]; congr 1; omega

theorem st_le (ls : List Nat) (k : Nat) (hk : k < (ordl ls).length) : (st ls k).2 ≤ ln ls (sy ls k) := by
  cases k with
  | zero => simp [st]
  | succ k => rw [st_succ]; exact sy_le ls k (k + 1) (by omega) hk
theorem st_pf (ls : List Nat) (k : Nat) (hk : k ≤ (ordl ls).length) : (st ls k).1 * 2 ^ (15 - (st ls k).2) = pf ls k := by
  induction k with
  | zero => simp [st, pf]
  | succ k ih =>
    have h1 := ih (by omega)
    have h2 := st_le ls k (by omega)
    have h3 := (sy_mem ls k (by omega)).2.2
    rw [st_succ]
    show (cd ls k + 1) * 2 ^ (15 - ln ls (sy ls k)) = pf ls k + 2 ^ (15 - ln ls (sy ls k))
    rw [Nat.succ_mul, ← h1]
    unfold cd
    rw [Nat.mul_assoc, pow_split _ _ _ h2 h3]
/-- The k-th code, filled up to fifteen bits, is what the ones ahead take. -/
theorem cd_pf (ls : List Nat) (k : Nat) (hk : k < (ordl ls).length) : cd ls k * 2 ^ (15 - ln ls (sy ls k)) = pf ls k := by
  have h1 := st_pf ls k (by omega)
  have h2 := st_le ls k hk
  have h3 := (sy_mem ls k hk).2.2
  rw [← h1]
  unfold cd
  rw [Nat.mul_assoc, pow_split _ _ _ h2 h3]

theorem pf_mono (ls : List Nat) (j k : Nat) (h : j ≤ k) : pf ls j ≤ pf ls k := by
  induction k with
  | zero => have : j = 0 := by omega
            subst this; exact Nat.le_refl _
  | succ k ih =>
    by_cases e : j = k + 1
    · rw [e]; exact Nat.le_refl _
    · exact Nat.le_trans (ih (by omega)) (Nat.le_add_right _ _)

/-- What the symbols ahead of k take whose length q picks. -/
def tk (ls : List Nat) (q : Nat → Bool) : Nat → Nat
  | 0 => 0
  | k + 1 => tk ls q k + (if q (ln ls k) then 2 ^ (15 - ln ls k) else 0)
/-- What a list of symbols takes. -/
def sum (ls : List Nat) : List Nat → Nat
  | [] => 0
  | x :: xs => 2 ^ (15 - ln ls x) + sum ls xs
theorem sum_append (ls a b : List Nat) : sum ls (a ++ b) = sum ls a + sum ls b := by
  induction a with
  | nil => simp [sum]
  | cons x xs ih => simp only [List.cons_append, sum, ih]; omega
theorem sum_row (ls : List Nat) (l k : Nat) : sum ls (rowTo ls l k) = tk ls (fun x => x == l) k := by
  induction k with
  | zero => rfl
  | succ k ih =>
    simp only [rowTo, tk, sum_append, ih]
    by_cases h : ln ls k = l
    · rw [if_pos h, if_pos (by simp [h])]; simp [sum]
    · rw [if_neg h, if_neg (by simp [h])]; simp [sum]
theorem tk_add (ls : List Nat) (q r s : Nat → Bool) (h : ∀ x, s x = (q x || r x)) (hd : ∀ x, ¬ (q x = true ∧ r x = true)) (k : Nat) : tk ls s k = tk ls q k + tk ls r k := by
  induction k with
  | zero => rfl
  | succ k ih =>
    simp only [tk, ih, h]
    have := hd (ln ls k)
    generalize 2 ^ (15 - ln ls k) = z
    cases hq : q (ln ls k) <;> cases hr : r (ln ls k)
    · simp
    · simp; omega
    · simp; omega
    · exact absurd ⟨hq, hr⟩ this
theorem sum_ord (ls : List Nat) (l : Nat) : sum ls (ordTo ls l) = tk ls (fun x => decide (0 < x ∧ x ≤ l)) ls.length := by
  induction l with
  | zero =>
    have : ∀ k, tk ls (fun x => decide (0 < x ∧ x ≤ 0)) k = 0 := by
      intro k
      induction k with
      | zero => rfl
      | succ k ih => simp only [tk, ih]; rw [if_neg (by simp; omega)]
    rw [this]; rfl
  | succ l ih =>
    simp only [ordTo, sum_append, ih, sum_row]
    refine (tk_add ls _ _ _ (fun x => ?_) (fun x => ?_) _).symm
    · rw [Bool.eq_iff_iff]; simp; omega
    · simp; omega
theorem pf_sum (ls : List Nat) (k : Nat) (hk : k ≤ (ordl ls).length) : pf ls k = sum ls ((ordl ls).take k) := by
  induction k with
  | zero => rfl
  | succ k ih =>
    rw [List.take_succ_eq_append_getElem (by omega), sum_append, ← ih (by omega)]
    show pf ls k + _ = _
    unfold sy
    rw [List.getElem?_eq_getElem (by omega)]
    simp [sum]
/-- All symbols take what the lengths do. -/
theorem pf_all (ls : List Nat) (h15 : ∀ i, i < ls.length → ln ls i ≤ 15) : pf ls (ordl ls).length = tk ls (fun x => decide (0 < x)) ls.length := by
  rw [pf_sum ls _ (Nat.le_refl _), List.take_length]
  unfold ordl
  rw [sum_ord]
  have : ∀ k, k ≤ ls.length → tk ls (fun x => decide (0 < x ∧ x ≤ 15)) k = tk ls (fun x => decide (0 < x)) k := by
    intro k
    induction k with
    | zero => intro _; rfl
    | succ k ih =>
      intro hk
      have := h15 k (by omega)
      simp only [tk, ih (by omega)]
      congr 1
      by_cases h : 0 < ln ls k
      · rw [if_pos (by simp; omega), if_pos (by simp [h])]
      · rw [if_neg (by simp; omega), if_neg (by simp [h])]
  exact this _ (Nat.le_refl _)

/-- How many symbols ahead of k have a length that q picks. -/
def cn (ls : List Nat) (q : Nat → Bool) : Nat → Nat
  | 0 => 0
  | k + 1 => cn ls q k + (if q (ln ls k) then 1 else 0)
theorem cn_le (ls : List Nat) (q : Nat → Bool) (k : Nat) : cn ls q k ≤ k := by
  induction k with
  | zero => exact Nat.le_refl _
  | succ k ih => simp only [cn]; split <;> omega
theorem len_row (ls : List Nat) (l k : Nat) : (rowTo ls l k).length = cn ls (fun x => x == l) k := by
  induction k with
  | zero => rfl
  | succ k ih =>
    simp only [rowTo, cn, List.length_append, ih]
    by_cases h : ln ls k = l
    · rw [if_pos h, if_pos (by simp [h])]; rfl
    · rw [if_neg h, if_neg (by simp [h])]; rfl
theorem cn_add (ls : List Nat) (q r s : Nat → Bool) (h : ∀ x, s x = (q x || r x)) (hd : ∀ x, ¬ (q x = true ∧ r x = true)) (k : Nat) : cn ls s k = cn ls q k + cn ls r k := by
  induction k with
  | zero => rfl
  | succ k ih =>
    simp only [cn, ih, h]
    have := hd (ln ls k)
    cases hq : q (ln ls k) <;> cases hr : r (ln ls k)
    · simp
    · simp; omega
    · simp; omega
    · exact absurd ⟨hq, hr⟩ this
theorem len_ord (ls : List Nat) (l : Nat) : (ordTo ls l).length = cn ls (fun x => decide (0 < x ∧ x ≤ l)) ls.length := by
  induction l with
  | zero =>
    have : ∀ k, cn ls (fun x => decide (0 < x ∧ x ≤ 0)) k = 0 := by
      intro k
      induction k with
      | zero => rfl
      | succ k ih => simp only [cn, ih]; rw [if_neg (by simp; omega)]
    rw [this]; rfl
  | succ l ih =>
    simp only [ordTo, List.length_append, ih, len_row]
    refine (cn_add ls _ _ _ (fun x => ?_) (fun x => ?_) _).symm
    · rw [Bool.eq_iff_iff]; simp; omega
    · simp; omega
theorem ordl_length_le (ls : List Nat) : (ordl ls).length ≤ ls.length := by
  unfold ordl
  rw [len_ord]
  exact cn_le _ _ _

/-- With room for all, a code fits its length. -/
theorem cd_lt (ls : List Nat) (k : Nat) (hk : k < (ordl ls).length) (hp : pf ls (ordl ls).length ≤ 32768) : cd ls k < 2 ^ ln ls (sy ls k) := by
  have h1 := cd_pf ls k hk
  have h2 := pf_mono ls (k + 1) (ordl ls).length (by omega)
  have h3 := (sy_mem ls k hk).2.2
  have h4 : pf ls (k + 1) = pf ls k + 2 ^ (15 - ln ls (sy ls k)) := rfl
  have h5 : 2 ^ ln ls (sy ls k) * 2 ^ (15 - ln ls (sy ls k)) = 32768 := by rw [← Nat.pow_add, show ln ls (sy ls k) + (15 - ln ls (sy ls k)) = 15 by omega]
  have h6 : 0 < 2 ^ (15 - ln ls (sy ls k)) := Nat.two_pow_pos _
  refine Nat.lt_of_mul_lt_mul_right (a := 2 ^ (15 - ln ls (sy ls k))) ?_
  omega
theorem cd_small (ls : List Nat) (k : Nat) (hk : k < (ordl ls).length) (hp : pf ls (ordl ls).length ≤ 32768) : cd ls k < 32768 := by
  have h1 := cd_lt ls k hk hp
  have h2 := (sy_mem ls k hk).2.2
  have h3 : 2 ^ ln ls (sy ls k) ≤ 2 ^ 15 := Nat.pow_le_pow_right (by omega) h2
  omega

/-- The code of a symbol, by its place in the order. -/
theorem outOf_get (ls : List Nat) (k : Nat) (hk : k ≤ (ordl ls).length) (j : Nat) (hj : j < k) : (outOf ls.length (codedTo ls k))[sy ls j]?.getD 0 = cd ls j := by
  induction k with
  | zero => omega
  | succ k ih =>
    simp only [codedTo, outOf_snoc]
    by_cases e : j = k
    · subst e
      rw [List.getElem?_set_self (by rw [outOf_length]; exact (sy_mem ls j (by omega)).1)]
      rfl
    · have hne : sy ls k ≠ sy ls j := fun h => e (sy_inj ls j k (by omega) (by omega) h.symm)
      rw [List.getElem?_set_ne hne]
      exact ih (by omega) (by omega)
theorem codes_get (ls : List Nat) (j : Nat) (hj : j < (ordl ls).length) : (codes ls)[sy ls j]?.getD 0 = cd ls j := outOf_get ls _ (Nat.le_refl _) j hj

theorem rowTo_pre (ls : List Nat) (l i m : Nat) : rowTo ls l i <+: rowTo ls l (i + m) := by
  induction m with
  | zero => exact List.prefix_refl _
  | succ m ih => exact ih.trans (List.prefix_append _ _)
theorem ordTo_pre (ls : List Nat) (l m : Nat) : ordTo ls l <+: ordTo ls (l + m) := by
  induction m with
  | zero => exact List.prefix_refl _
  | succ m ih => exact ih.trans (List.prefix_append _ _)

/-- So many symbols have codes: those of at most l bits, and those of l + 1 ahead of i. -/
def At (ls : List Nat) (l i k : Nat) : Prop := k = (ordTo ls l).length + (rowTo ls (l + 1) i).length
theorem At.start (ls : List Nat) : At ls 0 0 0 := rfl
theorem At.next {ls : List Nat} {l k : Nat} (h : At ls l ls.length k) : At ls (l + 1) 0 k := by
  unfold At at h ⊢
  rw [h]; simp [ordTo, rowTo]
theorem At.skip {ls : List Nat} {l i k : Nat} (h : At ls l i k) (hne : ln ls i ≠ l + 1) : At ls l (i + 1) k := by
  unfold At at h ⊢
  rw [h]; simp [rowTo, hne]
theorem At.put {ls : List Nat} {l i k : Nat} (h : At ls l i k) (he : ln ls i = l + 1) : At ls l (i + 1) (k + 1) := by
  unfold At at h ⊢
  rw [h]; simp [rowTo, he]; omega
theorem At.here {ls : List Nat} {l i k : Nat} (h : At ls l i k) (he : ln ls i = l + 1) (hi : i < ls.length) (hl : l < 15) : k < (ordl ls).length ∧ sy ls k = i := by
  have h1 : rowTo ls (l + 1) (i + 1) <+: rowTo ls (l + 1) ls.length := by
    have := rowTo_pre ls (l + 1) (i + 1) (ls.length - (i + 1))
    rwa [show i + 1 + (ls.length - (i + 1)) = ls.length by omega] at this
  have h2 : ordTo ls (l + 1) <+: ordl ls := by
    have := ordTo_pre ls (l + 1) (15 - (l + 1))
    rwa [show l + 1 + (15 - (l + 1)) = 15 by omega] at this
  obtain ⟨t1, e1⟩ := h1
  obtain ⟨t2, e2⟩ := h2
  have e3 : ordl ls = (ordTo ls l ++ rowTo ls (l + 1) i) ++ (i :: (t1 ++ t2)) := by
    rw [← e2]
    show (ordTo ls l ++ rowTo ls (l + 1) ls.length) ++ t2 = _
    rw [← e1]
    simp [rowTo, he]
  have hk : k = (ordTo ls l ++ rowTo ls (l + 1) i).length := by rw [List.length_append]; exact h
  unfold sy
  rw [e3, hk]
  constructor
  · simp
  · rw [List.getElem?_append_right (Nat.le_refl _), Nat.sub_self]
    rfl
theorem At.fin {ls : List Nat} {k : Nat} (h : At ls 15 0 k) : k = (ordl ls).length := by
  unfold At at h
  rw [h]; simp [rowTo, ordl]
end Hf
end Go.Proofs.YtnjlljdbghcobaaGreatDoor

/- Contracts of huff.coded, and of the iterator that it hands back. -/
namespace Go.Proofs.YtnjlljdbghcobaaGreatDoor
set_option maxRecDepth 100000
open Go.RowKit Go.Shelf

attribute [local go_sem] Oper.semAt_some

/-- Of what was there and holds cells, block C alone may have turned. -/
def KeepC (C : Nat) (W W' : World) : Prop := ∀ (k : Nat) (o : Obj), W.heap[k]? = some o → o.isCells = true → k ≠ C → W'.heap[k]? = some o

theorem KeepC.refl (C : Nat) (W : World) : KeepC C W W := fun _ _ h _ _ => h
theorem keepC_t {C : Nat} {A B D : World} (h : KeepC C A B) (k : KeepC C B D) : KeepC C A D := fun i o h1 h2 h3 => k i o (h i o h1 h2 h3) h2 h3
theorem keepC_b {C : Nat} {w : World} (W : World) (l : Nat) (_o o' : Obj) (_ : w.heap.size ≤ l) (h : W.heap[l]? = some _o) (hc : _o.isCells = false) (_ : _o.isWalk = false) : KeepC C W (W.putObj l o') := by
  intro k u hk hu _
  have hne : k ≠ l := by intro e; subst e; rw [h] at hk; cases hk; rw [hc] at hu; cases hu
  rw [World.putObj_heap_other (by omega)]; exact hk
theorem keepC_below {C : Nat} {W W' : World} (h : Below W.heap.size W W') : KeepC C W W' := fun k _ hk _ _ => (h.block k (Array.getElem?_eq_some_iff.1 hk).1).trans hk
theorem cells_of_cell {W : World} {g i : Nat} {v : Value} (h : W.cell? ⟨g, i, none⟩ = some v) : ∃ o, W.heap[g]? = some o ∧ o.isCells = true := by
  unfold World.cell? at h
  simp only at h
  cases e : W.heap[g]? with
  | none => rw [e] at h; simp at h
  | some o =>
    rw [e] at h
    cases o <;> first | exact ⟨_, rfl, rfl⟩ | (simp at h)
theorem KeepC.cell {C : Nat} {W W' : World} (h : KeepC C W W') {g i : Nat} {v : Value} (hc : W.cell? ⟨g, i, none⟩ = some v) (hne : g ≠ C) : W'.cell? ⟨g, i, none⟩ = some v := by
  obtain ⟨o, h1, h2⟩ := cells_of_cell hc
  exact (cell_of_heap ((h g o h1 h2 hne).trans h1.symm) i).trans hc

set_option maxHeartbeats 1000000 in
theorem coded_in (n : Nat) (sv : Value) (a : Option Addr) (len cap : Nat) (hsv : sv = .slice a len cap) (w : World) :
    CallsIn Fence.wide n Tryz.prog 174 #[sv] w fun e w' => e = .returned (.func (.func 202) #[] #[.pointer (some ⟨w.heap.size, 0, none⟩)]) ∧ w' = w.alloc (.cells #[sv] 33) := by
  subst hsv
  refine callsIn_of_wp Tryz.func174 rfl trivial ?_ rfl
  simp only [Tryz.ntmps174, List.size_toArray, List.length_cons, List.length_nil, Nat.reduceAdd, Nat.reduceSub, Array.replicate_succ, Array.replicate_zero, List.push_toArray, List.append_toArray, List.nil_append, List.cons_append]
  gi_wp2
  go_ret
  exact ⟨rfl, rfl⟩

/-- A symbol below m, and a number. -/
abbrev Pr (m : Nat) := { p : Nat × Nat // p.1 < m }
/-- What the iterator over codes tells. -/
def Tells (ls : List Nat) {m : Nat} (k : Nat) (pre : List (Pr m)) : Prop := pre.map Subtype.val = Hf.codedTo ls k

theorem tells_length {ls : List Nat} {m k : Nat} {pre : List (Pr m)} (h : Tells ls k pre) : pre.length = k := by
  have := congrArg List.length h
  rwa [List.length_map, Hf.codedTo_length] at this

theorem wrap_succ (c : Nat) (h : c < 32768) : wrap64 ((c : Int) + 1) = ((c + 1 : Nat) : Int) := by
  rw [IntWalk.wrap64_in _ (by omega)]; omega
theorem wrap_shl (nx d c : Nat) (h : c = nx * 2 ^ d) (hc : c < 32768) : wrap64 ((nx : Int) * 2 ^ d) = (c : Int) := by
  have e : ((nx : Int) * 2 ^ d) = (c : Int) := by rw [h]; simp
  rw [e, IntWalk.wrap64_in _ (by omega)]

set_option maxRecDepth 100000 in
set_option maxHeartbeats 4000000 in
theorem coded1_in (n : Nat) (hn : 1 ≤ n) (l Bs C : Nat) (sv : Value) (ls : List Nat) (h15 : ∀ i, i < ls.length → Hf.ln ls i ≤ 15) (hp : Hf.pf ls (Hf.ordl ls).length ≤ 32768) (J Jx : List (Pr ls.length) → World → Prop)
    (hY : ∀ pre x W, J pre W → pre.length < (Hf.ordl ls).length → YieldAt Fence.wide (n - 1) Tryz.prog l #[.int .i64 (x.1.1 : Int), .int .i64 (x.1.2 : Int)] W fun e W' =>
      (e = .returned (.bool true) ∧ J (pre ++ [x]) W' ∧ KeepC C W W') ∨ (e = .returned (.bool false) ∧ Jx (pre ++ [x]) W'))
    (W : World) (hJ : AbidesFrom W.heap.size J) (hBs : W.cell? ⟨Bs, 0, none⟩ = some sv) (hBC : Bs ≠ C) (hC : C < W.heap.size) (hCl : Lsl W.heap.size W sv ls) (hCb : ∀ b off len cap, sv = .slice (some ⟨b, off, none⟩) len cap → b ≠ C) (h0 : J [] W) :
    CallsIn Fence.wide n Tryz.prog 202 #[.func (.yield l) #[] #[], .pointer (some ⟨Bs, 0, none⟩)] W fun e W' => (∃ v, e = .returned v) ∧
      ((∃ ys, Tells ls (Hf.ordl ls).length ys ∧ J ys W') ∨ (∃ pre, True ∧ Jx pre W')) := by
  have HO := ordered_any sv ls W hCl h15
  have HL := Lib.hid hCl
  obtain ⟨b, off, cap, rfl, hpos, h288, hb, hcl⟩ := hCl
  have hbC := hCb b off _ _ rfl
  have HCL := Lib.hid hcl
  clear hCb hcl
  refine callsIn_of_wp Tryz.func202 rfl trivial ?_ rfl
  simp only [Tryz.ntmps202, List.size_toArray, List.length_cons, List.length_nil, Nat.reduceAdd, Nat.reduceSub, Array.replicate_succ, Array.replicate_zero, List.push_toArray, List.append_toArray, List.nil_append, List.cons_append]
  gi_wp2_with (refine ⟨trivial, ?_⟩; gi_at_call 191; refine (callsIn_wide.2 HO).mono ?_; rintro e w1 ⟨v, rfl, hv, hb1⟩)
  have h1 : J [] w1 := hJ _ _ w1 none h0 ⟨hb1.os, hb1.tape, hb1.output, hb1.size, fun k hk _ => hb1.block k hk⟩ (fun r e => by cases e)
  have HK1 : Hid (KeepC C W w1) := keepC_below hb1
  clear HO hb1 h0
  rcases hv with ⟨rfl, hnil⟩ | ⟨g, cap2, rfl, hle2, hg, hrow⟩
  · have HN := Lib.hid hnil
    clear hnil
    go_simp
    gi_wp2
    gi_loopw [3, 4, 10] (fun _ _ s10 wr => s10 = .int .i64 0 ∧ J [] wr) (fun _ _ _ _ => 0)
    case atStart => exact ⟨rfl, h1⟩
    case round =>
      obtain ⟨rfl, hJs⟩ := hrel
      gi_wp2
      go_end0
      exact ⟨⟨_, rfl⟩, .inl ⟨[], by rw [HN.out]; rfl, hJs⟩⟩
  · obtain ⟨N, hN⟩ : ∃ N, N = (Hf.ordl ls).length := ⟨_, rfl⟩
    have HN := Lib.hid hN
    have HR := Lib.hid hrow
    rw [← hN] at hY hp
    have HP := Lib.hid (fun _ : Unit => hp)
    rw [← hN]
    have hN2 : N ≤ 288 := by have := Hf.ordl_length_le ls; omega
    clear hN hrow hp
    go_simp
    gi_wp2
    gi_loopw [3, 4, 10] (fun s3 s4 s10 wr => ∃ (k nx le : Nat) (pre : List (Pr ls.length)), k ≤ N ∧ s3 = .int .i64 nx ∧ s4 = .int .i64 le ∧ s10 = .int .i64 k ∧ Hid (Hf.st ls k = (nx, le)) ∧ Hid (Tells ls k pre) ∧ J pre wr ∧ Hid (KeepC C w1 wr))
      (fun _ _ s10 _ => N - (intOf s10).toNat)
    case atStart => exact ⟨0, 0, 0, [], Nat.zero_le _, rfl, rfl, rfl, rfl, rfl, h1, KeepC.refl _ _⟩
    case round =>
      obtain ⟨k, nx, le, pre, hk, rfl, rfl, rfl, KS, KT, hJs, KK⟩ := hrel
      have hkn := tells_length KT.out
      by_cases hlt : k < N
      · obtain ⟨x, hx⟩ : ∃ x, x = Hf.sy ls k := ⟨_, rfl⟩
        obtain ⟨hx1, hx2, hx3⟩ := Hf.sy_mem ls k (by rw [← HN.out]; exact hlt)
        rw [← hx] at hx1 hx2 hx3
        obtain ⟨lx, hlx⟩ : ∃ lx, lx = Hf.ln ls x := ⟨_, rfl⟩
        have hle : le ≤ lx := by
          have := Hf.st_le ls k (by rw [← HN.out]; exact hlt)
          rw [KS.out, ← hx, ← hlx] at this; exact this
        have cg : wr.cell? ⟨g, k, none⟩ = some (.int .i64 (x : Int)) := by
          have := HR.out.cell k (by rw [← HN.out]; exact hlt)
          rw [show (Hf.ordl ls)[k]?.getD 0 = x from hx.symm] at this
          exact KK.out.cell this (by omega)
        have cl : wr.cell? ⟨b, off + x, none⟩ = some (.int .i64 (lx : Int)) := by
          have := HCL.out x hx1
          rw [show ls[x]?.getD 0 = lx from hlx.symm] at this
          exact KK.out.cell (HK1.out.cell this hbC) hbC
        have cB : wr.cell? ⟨Bs, 0, none⟩ = some (.slice (some ⟨b, off, none⟩) ls.length cap) := KK.out.cell (HK1.out.cell hBs hBC) hBC
        obtain ⟨c, hc⟩ : ∃ c, c = Hf.cd ls k := ⟨_, rfl⟩
        have hc2 := Hf.cd_small ls k (by rw [← HN.out]; exact hlt) (by rw [← HN.out]; exact HP.out ())
        have hc3 : c = nx * 2 ^ (lx - le) := by rw [hc]; unfold Hf.cd; rw [KS.out, ← hx, ← hlx]
        have KS2 : Hid (Hf.st ls (k + 1) = (c + 1, lx)) := by show _ = _; rw [Hf.st_succ, ← hc, ← hx, ← hlx]
        rw [← hc] at hc2
        obtain ⟨d, hd⟩ : ∃ d : Nat, d = lx - le := ⟨_, rfl⟩
        rw [← hd] at hc3
        have hd2 : (lx : Int) - (le : Int) = (d : Int) := by omega
        have KT2 : ∀ hxx : x < ls.length, Hid (Tells ls (k + 1) (pre ++ [(⟨(x, c), hxx⟩ : Pr ls.length)])) := fun hxx => by
          show List.map _ _ = _
          rw [List.map_append, show List.map Subtype.val pre = _ from KT.out]; simp only [Hf.codedTo, List.map_cons, List.map_nil, ← hc, ← hx]
        obtain ⟨fn, tmps, assign, body, hy, hR⟩ := hY pre ⟨(x, c), hx1⟩ wr hJs (by omega)
        dsimp only at hy
        have hw : Value.int .i64 (wrap64 ((nx : Int) * 2 ^ d)) = Value.int .i64 (c : Int) := by rw [wrap_shl nx d c hc3 hc2]
        clear hc3
        have HC2 := Lib.hid (fun _ : Unit => hc2)
        have hc4 : (c : Int) < 32768 := by omega
        clear hc2
        have hlx15 : lx ≤ 15 := by omega
        clear hx hlx hc hd hx2 hx3 hkn
        gi_wp2
        refine hR.mono ?_
        rintro e W3 (⟨rfl, hJ3, hk3⟩ | ⟨rfl, hJx3⟩)
        · gi_wp2
          go_roundw
          case rel => exact ⟨k + 1, c + 1, lx, _, by omega, by first | rw [wrap_succ c (HC2.out ())] | go_num, rfl, by go_num, KS2, KT2 hx1, hJ3, keepC_t KK.out hk3⟩
          case measure => simp [intOf]; omega
        · gi_wp2
          refine bodyPost_ret (results_none rfl _ _ _) rfl ?_
          exact ⟨⟨_, rfl⟩, .inr ⟨_, trivial, hJx3⟩⟩
      · obtain rfl : k = N := by omega
        clear hkn
        gi_wp2
        go_end0
        exact ⟨⟨_, rfl⟩, .inl ⟨pre, by rw [← HN.out]; exact KT.out, hJs⟩⟩
end Go.Proofs.YtnjlljdbghcobaaGreatDoor
