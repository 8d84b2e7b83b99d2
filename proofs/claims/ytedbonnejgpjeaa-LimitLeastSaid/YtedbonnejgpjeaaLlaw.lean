/- What the statements share: both answers on lengths, their own cost, the document's examples. -/
import Derived.Test.YtedbonnejgpjeaaLsum
namespace Go.Proofs.Ytedbonnejgpjeaa
open Go.RowKit

/-- The lengths, as numbers of the program. -/
def lensZ (zs : List Int) (M : Nat) : List Int := (List.range zs.length).map fun i => ((Lm.len (nat zs) M i : Nat) : Int)
theorem lensZ_length (zs : List Int) (M : Nat) : (lensZ zs M).length = zs.length := by simp [lensZ]
theorem lensZ_get (zs : List Int) (M i : Nat) (hi : i < zs.length) : (lensZ zs M)[i]?.getD 0 = ((Lm.len (nat zs) M i : Nat) : Int) := by simp [lensZ, hi]
theorem nat_lens (zs : List Int) (M i : Nat) (hi : i < zs.length) : (nat (lensZ zs M))[i]?.getD 0 = Lm.len (nat zs) M i := by rw [nat_get, lensZ_get zs M i hi]; rfl
theorem zl_rz {w : World} {C : Nat} {zs : List Int} {M : Nat} (h : Rz w C zs.length (Lm.len (nat zs) M)) (hl : zs.length ≤ 288) : Zl w (.slice (some ⟨C, 0, none⟩) zs.length zs.length) (lensZ zs M) := by
  refine ⟨_, zs.length, zs.length, rfl, (lensZ_length zs M).symm, by omega, (fun e => by cases e), fun _ => ⟨C, 0, rfl, h.lt, fun i hi => ?_⟩⟩
  rw [Nat.zero_add, h.cell i hi, lensZ_get zs M i hi]

/-- There are lengths. -/
def Good (zs : List Int) (most : Int) : Prop := Nums zs ∧ (1 ≤ most ∧ most ≤ 15) ∧ (Lm.srt (nat zs)).length ≤ 2 ^ most.toNat
instance (zs : List Int) (most : Int) : Decidable (Good zs most) := by unfold Good; infer_instance
theorem lerr_good {zs : List Int} {most : Int} (h : Good zs most) : lerr zs most = 0 := by
  unfold lerr; rw [if_pos ⟨h.1, h.2.1.1, h.2.1.2⟩, if_pos h.2.2]
theorem lerr_bad {zs : List Int} {most : Int} (h : ¬ Good zs most) : lerr zs most ≠ 0 := by
  unfold lerr
  by_cases h1 : Nums zs ∧ 1 ≤ most ∧ most ≤ 15
  · rw [if_pos h1, if_neg fun h2 => h ⟨h1.1, ⟨h1.2.1, h1.2.2⟩, h2⟩]; decide
  · rw [if_neg h1]; decide
def lensOf (zs : List Int) (most : Int) : List Int := if Good zs most then lensZ zs most.toNat else []

theorem lengths_all (zs : List Int) (s : Value) (most : Int) (w : World) (hz : Zl w s zs) :
    Calls Try.prog 9 #[s, .int .i64 most] w fun e w' => ∃ a cap, e = .returned (.tuple #[.slice a (lensOf zs most).length cap, .int .i64 (lerr zs most)]) ∧ Zl w' (.slice a (lensOf zs most).length cap) (lensOf zs most) ∧ Below w.heap.size w w' := by
  by_cases hg : Good zs most
  · have e : lensOf zs most = lensZ zs most.toNat := if_pos hg
    rw [e, lensZ_length, lerr_good hg]
    have h := lengths_ok zs s most.toNat w hz hg.1 (by have := hg.2.1; omega) (by have := hg.2.1; omega) hg.2.2
    rw [show ((most.toNat : Nat) : Int) = most by have := hg.2.1; omega] at h
    refine h.mono ?_
    rintro e w' ⟨C, rfl, _, hr, hb⟩
    rw [nat_length] at hr ⊢
    exact ⟨_, _, rfl, zl_rz hr hg.1.2.1, hb⟩
  · have e : lensOf zs most = [] := if_neg hg
    rw [e]
    have key : Calls Try.prog 9 #[s, .int .i64 most] w (NoLens w (lerr zs most)) := by
      unfold lerr
      by_cases h1 : Nums zs ∧ 1 ≤ most ∧ most ≤ 15
      · have h2 : ¬ (Lm.srt (nat zs)).length ≤ 2 ^ most.toNat := fun h2 => hg ⟨h1.1, ⟨h1.2.1, h1.2.2⟩, h2⟩
        rw [if_pos h1, if_neg h2]
        have h := lengths_over zs s most.toNat w hz h1.1 (by omega) (by omega) h2
        rwa [show ((most.toNat : Nat) : Int) = most by omega] at h
      · rw [if_neg h1]
        exact lengths_arg zs s most w hz h1
    refine key.mono ?_
    rintro e w' ⟨rfl, hb⟩
    exact ⟨none, 0, rfl, ⟨none, 0, 0, rfl, rfl, by omega, fun _ => ⟨rfl, rfl⟩, fun h => absurd h (by omega)⟩, hb⟩

theorem valid_lens {zs : List Int} {most : Int} (h : Good zs most) : Valid (lensZ zs most.toNat) := by
  refine ⟨by rw [lensZ_length]; exact h.1.1, by rw [lensZ_length]; exact h.1.2.1, fun i hi => ?_⟩
  rw [lensZ_length] at hi
  rw [lensZ_get zs _ i hi]
  have := Lm.len_le (nat zs) most.toNat (by have := h.2.1; omega) h.2.2 i
  have := h.2.1
  omega
theorem fits_lens {zs : List Int} {most : Int} (h : Good zs most) : Fits zs (lensZ zs most.toNat) := ⟨h.1, lensZ_length _ _, valid_lens h⟩
theorem cost_lens {zs : List Int} {most : Int} (h : Good zs most) : costTo (nat zs) (nat (lensZ zs most.toNat)) zs.length = Lm.leastN (Lm.wts (nat zs) zs.length) most.toNat := by
  have h1 := Lm.cost_len (nat zs) most.toNat (by have := h.2.1; omega) h.2.2
  rw [nat_length] at h1
  rw [← h1]
  exact Lm.sumTo_congr fun i hi => by rw [nat_lens zs _ i hi]

/-- What the statements' own cost is. -/
def cst (zs : List Int) (most : Int) : Nat := if Good zs most then Lm.leastN (Lm.wts (nat zs) zs.length) most.toNat else 0

set_option maxHeartbeats 2000000 in
theorem lcost_any (zs : List Int) (s : Value) (most : Int) (w : World) (hz : Zl w s zs) :
    Calls Try.prog 17 #[s, .int .i64 most] w fun e w' => e = .returned (.tuple #[.int .i64 (cst zs most : Int), .bool (decide (Good zs most))]) ∧ Below w.heap.size w w' := by
  have HL := lengths_all zs s most w hz
  have HZ := Lib.hid hz
  obtain ⟨a, len, cap, rfl, hrest⟩ := hz
  clear hrest
  obtain ⟨c, hc⟩ : ∃ c, c = lerr zs most := ⟨_, rfl⟩
  rw [← hc] at HL
  by_cases hg : Good zs most
  · have hc0 : c = 0 := by rw [hc]; exact lerr_good hg
    subst hc0
    rw [show lensOf zs most = lensZ zs most.toNat from if_pos hg] at HL
    have HF := Lib.hid (fun (s1 s2 : Value) (w : World) (h1 : Zl w s1 zs) (h2 : Zl w s2 (lensZ zs most.toNat)) => cost_ok zs (lensZ zs most.toNat) s1 s2 w h1 h2 (fits_lens hg))
    rw [cost_lens hg] at HF
    rw [decide_eq_true hg, show cst zs most = Lm.leastN (Lm.wts (nat zs) zs.length) most.toNat from if_pos hg]
    obtain ⟨u, hu⟩ : ∃ u, u = Lm.leastN (Lm.wts (nat zs) zs.length) most.toNat := ⟨_, rfl⟩
    rw [← hu] at HF ⊢
    obtain ⟨m, hm⟩ : ∃ m, m = (lensZ zs most.toNat).length := ⟨_, rfl⟩
    rw [← hm] at HL
    clear hc hg hu hm
    go_enter Try.func17, Try.ntmps17
    go_wp2_with fail
    refine HL.mono ?_
    clear HL
    rintro e w1 ⟨a1, c1, rfl, hz1, hb1⟩
    have HC := HF.out _ _ w1 (HZ.out.later hb1) hz1
    have B1 := Lib.hid hb1
    clear hz1 hb1
    go_wp2_with fail
    refine HC.mono ?_
    clear HC
    rintro e w2 ⟨rfl, hb2⟩
    have B2 := Lib.hid (B1.out.trans (hb2.mono B1.out.size))
    clear hb2
    go_wp2
    go_ret2
    exact ⟨rfl, B2.out⟩
  · have hne : (c != 0) = true := by rw [bne_iff_ne, hc]; exact lerr_bad hg
    rw [show lensOf zs most = [] from if_neg hg] at HL
    rw [decide_eq_false hg, show cst zs most = 0 from if_neg hg]
    clear hc hg
    go_enter Try.func17, Try.ntmps17
    go_wp2_with fail
    refine HL.mono ?_
    clear HL
    rintro e w1 ⟨a1, c1, rfl, hz1, hb1⟩
    have B1 := Lib.hid hb1
    clear hz1 hb1
    go_wp2
    go_ret2
    exact ⟨rfl, B1.out⟩

set_option maxHeartbeats 1000000 in
theorem rsame_any (a1 a2 : Option Addr) (n c1 c2 : Nat) (zs : List Int) (w : World) (hl : Hid (n = zs.length)) (hn : n ≤ 17592186044416)
    (h1 : Hid (0 < n → ∃ b off, a1 = some ⟨b, off, none⟩ ∧ ∀ i, i < n → w.cell? ⟨b, off + i, none⟩ = some (.int .i64 (zs[i]?.getD 0))))
    (h2 : Hid (0 < n → ∃ b off, a2 = some ⟨b, off, none⟩ ∧ ∀ i, i < n → w.cell? ⟨b, off + i, none⟩ = some (.int .i64 (zs[i]?.getD 0)))) :
    Calls Try.prog 13 #[.slice a1 n c1, .slice a2 n c2] w fun e w' => e = .returned (.bool true) ∧ Below w.heap.size w w' := by
  go_enter Try.func13, Try.ntmps13
  go_wp2
  go_loopw [5] (fun s5 wr => ∃ k q : Nat, k ≤ n ∧ s5 = .int .i64 k ∧ wr = w.drewN q) (fun s _ => n - (intOf s).toNat)
  case atStart => exact ⟨0, 0, Nat.zero_le _, rfl, rfl⟩
  case round =>
    obtain ⟨k, q, hk, rfl, rfl⟩ := hrel
    by_cases hlt : k < n
    · obtain ⟨b, off, rfl, hc⟩ := h1.out (by omega)
      obtain ⟨b', off', rfl, hc'⟩ := h2.out (by omega)
      have g1 := hc k hlt
      have g2 := hc' k hlt
      obtain ⟨z, hz⟩ : ∃ z, z = zs[k]?.getD 0 := ⟨_, rfl⟩
      rw [← hz] at g1 g2
      have e : (z != z) = false := by simp
      clear hc hc' hz
      go_wp2
      go_quiet (fail)
      go_wp2
      exact ⟨⟨k + 1, _, by omega, by go_num, rfl⟩, by simp [intOf]; omega⟩
    · obtain rfl : k = n := by omega
      go_wp2
      go_ret
      exact ⟨rfl, below_drewN (Below.refl _ _) q⟩

theorem zl_lit {w : World} {b n : Nat} {zs : List Int} {t : TypeId} {cs : Array Value} (h : Has w b (.cells cs t (0, 0))) (hc : cs = (zs.map (Value.int .i64)).toArray) (hn : n = zs.length) (h2 : n ≤ 17592186044416) : Zl w (.slice (some ⟨b, 0, none⟩) n n) zs := by
  subst hc
  refine ⟨_, n, n, rfl, hn, h2, fun h => by simp at h, fun _ => ⟨b, 0, rfl, h.lt, fun i hi => ?_⟩⟩
  rw [Nat.zero_add, h.cell]
  have : i < zs.length := by omega
  simp [this]

/-- A slice of numbers as the document's Same looks at it. -/
def Sm (w : World) (a : Option Addr) (n : Nat) (zs : List Int) : Prop := 0 < n → ∃ b off, a = some ⟨b, off, none⟩ ∧ ∀ i, i < n → w.cell? ⟨b, off + i, none⟩ = some (.int .i64 (zs[i]?.getD 0))
theorem sm_zl {w : World} {a : Option Addr} {n cap : Nat} {zs : List Int} (h : Zl w (.slice a n cap) zs) : Sm w a n zs := by
  obtain ⟨a', len, cap', e, h1, h2, h3, h4⟩ := h
  cases e
  intro h0
  obtain ⟨b, off, rfl, _, hc⟩ := h4 h0
  exact ⟨b, off, rfl, hc⟩
theorem same_to (a1 a2 : Option Addr) (n m c1 c2 : Nat) (zs : List Int) (w : World) (hl : Hid (n = zs.length)) (hm : Hid (m = n)) (hn : n ≤ 17592186044416) (h1 : Sm w a1 n zs) (h2 : Sm w a2 m zs) :
    Calls Try.prog 13 #[.slice a1 n c1, .slice a2 m c2] w fun e w' => e = .returned (.bool true) ∧ Below w.heap.size w w' := by
  have e := hm.out
  subst e
  exact rsame_any a1 a2 m c1 c2 zs w hl hn h1 h2



theorem ex1 : lensOf [1, 1, 2, 4] 15 = [3, 3, 2, 1] := by decide
theorem ex1e : lerr [1, 1, 2, 4] 15 = 0 := by decide
theorem ex2 : lensOf [1, 1, 2, 4] 2 = [2, 2, 2, 2] := by decide
theorem ex2e : lerr [1, 1, 2, 4] 2 = 0 := by decide
theorem ex3 : lensOf [1, 1, 1] 1 = [] := by decide
theorem ex3e : lerr [1, 1, 1] 1 = 11 := by decide
theorem ex4 : Fits [1, 1, 2, 4] [3, 3, 2, 1] := by decide
theorem ex4c : costTo (nat [1, 1, 2, 4]) (nat [3, 3, 2, 1]) 4 = 14 := by decide
end Go.Proofs.Ytedbonnejgpjeaa
