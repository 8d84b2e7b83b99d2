/- Contract of header.lengthen. -/
import Derived.Test.YtnjlljdbghcobaaGreatDoorKheadp
import Derived.Test.YtnjlljdbghcobaaGreatDoorQtail
import Derived.Test.YtnjlljdbghcobaaGreatDoorHrd

namespace Go.Proofs.YtnjlljdbghcobaaGreatDoor
set_option maxRecDepth 100000
open Go.RowKit

/-- What lengthen leaves: lengths in memory of the caller's own, or none, and why. -/
def LenPost (base : Nat) (w : World) (r : List Nat × Int) (e : Ending) (w' : World) : Prop :=
  ∃ s, e = .returned (.tuple #[s, .int .i64 r.2]) ∧ (r.2 = 0 → Own base w' s r.1) ∧ Below base w w'

theorem LenPost.pair {base : Nat} {w w' : World} {x : List Nat} {c : Int} {e : Ending} (h : LenPost base w (x, c) e w') : ∃ s, e = .returned (.tuple #[s, .int .i64 c]) ∧ (c = 0 → Own base w' s x) ∧ Below base w w' := h

theorem take_none (acc : List Nat) (s v n : Nat) (h1 : s = 16) (h2 : acc.length = 0) : Hd.take acc s v n = ([], 9) := by unfold Hd.take; rw [if_pos ⟨h1, h2⟩]
theorem take_large (acc : List Nat) (s v n : Nat) (h1 : ¬ (s = 16 ∧ acc.length = 0)) (h2 : n < acc.length + (Hd.least s + v)) : Hd.take acc s v n = ([], 3) := by unfold Hd.take; rw [if_neg h1, if_pos h2]
theorem take_some (acc : List Nat) (s v n : Nat) (h1 : ¬ (s = 16 ∧ acc.length = 0)) (h2 : acc.length + (Hd.least s + v) ≤ n) : Hd.take acc s v n = (acc ++ List.replicate (Hd.least s + v) (Hd.val acc s), 0) := by
  unfold Hd.take; rw [if_neg h1, if_neg (by omega)]

set_option maxRecDepth 100000 in
set_option maxHeartbeats 4000000 in
theorem lengthen_any (base : Nat) (sv : Value) (acc : List Nat) (s v n : Nat) (hs : s < 19) (hv : v < 2 ^ Hd.ex s) (hn : n ≤ 400) (hl : acc.length ≤ n) (w : World) (ho : Own base w sv acc) (hb : base ≤ w.heap.size) :
    Calls Tryz.prog 219 #[sv, .agg #[.int .i64 (s : Int), .int .i64 (v : Int)], .int .i64 (n : Int)] w (LenPost base w (Hd.take acc s v n)) := by
  have hv2 : v < 128 := Nat.lt_of_lt_of_le hv (by have : 2 ^ Hd.ex s ≤ 2 ^ 7 := Nat.pow_le_pow_right (by omega) (Hd.ex_le s); omega)
  have hls := Hd.least_le s
  have HM := Lib.hid (fun w => maybe_yes s v hs hv w)
  have HS := Lib.hid (fun w => size_run s v hv2 w)
  obtain ⟨a, cap, rfl⟩ := ho.shape
  have HO := Lib.hid ho
  have X0 := Lib.hid (Has.new w (.cells #[.int .i64 (s : Int), .int .i64 (v : Int)] 192))
  have B0 := Lib.hid (below1 w (.cells #[.int .i64 (s : Int), .int .i64 (v : Int)] 192))
  clear ho hv
  obtain ⟨len, hlen⟩ : ∃ len, len = acc.length := ⟨_, rfl⟩
  rw [← hlen] at HO hl ⊢
  have HL := Lib.hid hlen
  clear hlen
  by_cases h16 : s = 16 ∧ len = 0
  · rw [take_none acc s v n h16.1 (by rw [← HL.out]; exact h16.2)]
    obtain ⟨rfl, rfl⟩ := h16
    go_enter Tryz.func219, Tryz.ntmps219
    go_wp2_with fail
    refine (HM.out _).mono ?_
    rintro e w1 ⟨rfl, hb1⟩
    obtain ⟨c0, c1, _, _⟩ := (X0.out.later hb1).two
    have B1 := Lib.hid (B0.out.trans (hb1.mono B0.out.size))
    clear hb1
    go_wp2_with fail
    go_ret2
    exact ⟨_, rfl, fun h => by simp at h, B1.out.mono hb⟩
  · obtain ⟨m, hm⟩ : ∃ m, m = Hd.least s + v := ⟨_, rfl⟩
    have hm1 : 1 ≤ m ∧ m ≤ 138 := by omega
    have HMM := Lib.hid hm
    by_cases hlt : n < len + m
    · rw [take_large acc s v n (by rw [← HL.out]; exact h16) (by rw [← HL.out, ← hm]; exact hlt)]
      have j1 : decide ((n : Int) < (len : Int) + (m : Int)) = true := decide_eq_true (by omega)
      clear hm hlt hls hv2
      by_cases hs16 : s = 16
      · have e0 : ((len : Int) == 0) = false := by rw [beq_eq_false_iff_ne]; omega
        subst hs16
        clear h16
        go_enter Tryz.func219, Tryz.ntmps219
        go_wp2_with fail
        refine (HM.out _).mono ?_
        rintro e w1 ⟨rfl, hb1⟩
        obtain ⟨c0, c1, _, _⟩ := (X0.out.later hb1).two
        have X1 := Lib.hid (X0.out.later hb1)
        have B1 := Lib.hid (B0.out.trans (hb1.mono B0.out.size))
        clear hb1
        go_wp2_with fail
        refine (HS.out _).mono ?_
        rintro e w2 ⟨rfl, hb2⟩
        clear c0 c1
        obtain ⟨c0, c1, _, _⟩ := (X1.out.later hb2).two
        have X2 := Lib.hid (X1.out.later hb2)
        have B2 := Lib.hid (B1.out.trans (hb2.mono B1.out.size))
        clear hb2
        rw [← HMM.out]
        go_wp2_with fail
        go_ret2
        exact ⟨_, rfl, fun h => by simp at h, B2.out.mono hb⟩
      · have e0 : ((s : Int) == 16) = false := by rw [beq_eq_false_iff_ne]; omega
        clear h16 hs16
        go_enter Tryz.func219, Tryz.ntmps219
        go_wp2_with fail
        refine (HM.out _).mono ?_
        rintro e w1 ⟨rfl, hb1⟩
        obtain ⟨c0, c1, _, _⟩ := (X0.out.later hb1).two
        have X1 := Lib.hid (X0.out.later hb1)
        have B1 := Lib.hid (B0.out.trans (hb1.mono B0.out.size))
        clear hb1
        go_wp2_with fail
        refine (HS.out _).mono ?_
        rintro e w2 ⟨rfl, hb2⟩
        clear c0 c1
        obtain ⟨c0, c1, _, _⟩ := (X1.out.later hb2).two
        have X2 := Lib.hid (X1.out.later hb2)
        have B2 := Lib.hid (B1.out.trans (hb2.mono B1.out.size))
        clear hb2
        rw [← HMM.out]
        go_wp2_with fail
        go_ret2
        exact ⟨_, rfl, fun h => by simp at h, B2.out.mono hb⟩
    · rw [take_some acc s v n (by rw [← HL.out]; exact h16) (by rw [← HL.out, ← hm]; omega), ← hm]
      have j1 : decide ((n : Int) < (len : Int) + (m : Int)) = false := decide_eq_false (by omega)
      have hnm : len + m ≤ n := by omega
      clear hm hlt hls hv2
      by_cases hs16 : s = 16
      · have e0 : ((len : Int) == 0) = false := by rw [beq_eq_false_iff_ne]; omega
        have hlen0 : 0 < len := by omega
        subst hs16
        clear h16
        obtain ⟨k, rfl⟩ : ∃ k, len = k + 1 := ⟨len - 1, by omega⟩
        obtain ⟨q, hq⟩ : ∃ q, q = Hd.val acc 16 := ⟨_, rfl⟩
        obtain ⟨ga, rfl, hga, hgb, hcl⟩ := HO.out.cells (by rw [← HL.out]; omega)
        have hcell : Hid (∀ w', Below w.heap.size w w' → w'.cell? ⟨ga, k, none⟩ = some (.int .i64 (q : Int))) := by
          intro w' hb'
          rw [hb'.cell (p := ⟨ga, k, none⟩) hga, hcl k (by rw [← HL.out]; omega), hq]
          simp [Hd.val, ← HL.out]
        rw [← hq]
        clear hcl hq hga hgb
        go_enter Tryz.func219, Tryz.ntmps219
        go_wp2_with fail
        refine (HM.out _).mono ?_
        rintro e w1 ⟨rfl, hb1⟩
        obtain ⟨c0, c1, _, _⟩ := (X0.out.later hb1).two
        have X1 := Lib.hid (X0.out.later hb1)
        have B1 := Lib.hid (B0.out.trans (hb1.mono B0.out.size))
        clear hb1
        go_wp2_with fail
        refine (HS.out _).mono ?_
        rintro e w2 ⟨rfl, hb2⟩
        clear c0 c1
        obtain ⟨c0, c1, _, _⟩ := (X1.out.later hb2).two
        have X2 := Lib.hid (X1.out.later hb2)
        have B2 := Lib.hid (B1.out.trans (hb2.mono B1.out.size))
        clear hb2
        rw [← HMM.out]
        obtain ⟨d0, d1, _, _⟩ := (X2.out.alloc (.cells #[.int .i64 (q : Int)] 3)).two
        have ck := hcell.out _ B2.out
        go_wp2_with fail
        refine (HS.out _).mono ?_
        rintro e w3 ⟨rfl, hb3⟩
        rw [← HMM.out]
        obtain ⟨hx3, hb3', hz3⟩ := facts1 hb3
        have B3 := Lib.hid (B2.out.trans (hb3'.mono B2.out.size))
        have cq := hx3.one.1
        clear hb3 hb3' hx3
        go_wp2_with fail
        refine (repeat_one w2.heap.size 1 q m (by omega) (by omega) w3 (by omega) cq).mono ?_
        rintro e w4 ⟨g4, rfl, hg4, hz4, hb4⟩
        have B4 := Lib.hid (B3.out.trans (hb4.mono B3.out.size))
        have G4 := Lib.hid hg4
        clear hg4 hz4 hb4
        obtain ⟨v5, w5, r5, o5, gr5⟩ := nums_append (w := w4) (base := base) (v := .slice (some ⟨ga, 0, none⟩) (k + 1) cap) (xs := acc) (HO.out.keep B4.out) 33 g4 m m (List.replicate m q) G4.out (by simp) (by omega) (by have := HL.out; omega) (by have := B4.out.size; omega)
        have R5 := Lib.hid r5
        have O5 := Lib.hid o5
        have B5 := Lib.hid ((B4.out.mono hb).grown gr5 (by have := B4.out.size; omega) HO.out.block)
        clear r5 o5 gr5
        go_wp2_with (at_builtin; refine wpList_append_is rfl _ _ 33 rfl _ _ _ _ rfl rfl R5.out ?_)
        go_ret2
        exact ⟨_, rfl, fun _ => O5.out, B5.out⟩

      · have e0 : ((s : Int) == 16) = false := by rw [beq_eq_false_iff_ne]; omega
        have hq : ∀ q, q = Hd.val acc s → q = if s = 17 ∨ s = 18 then 0 else s := fun q h => by rw [h]; unfold Hd.val; rw [if_neg hs16]
        clear h16 hs16
        by_cases hs17 : s = 17
        · subst hs17
          rw [hq _ rfl, if_pos (Or.inl rfl)]
          clear hq
          go_enter Tryz.func219, Tryz.ntmps219
          go_wp2_with fail
          refine (HM.out _).mono ?_
          rintro e w1 ⟨rfl, hb1⟩
          obtain ⟨c0, c1, _, _⟩ := (X0.out.later hb1).two
          have X1 := Lib.hid (X0.out.later hb1)
          have B1 := Lib.hid (B0.out.trans (hb1.mono B0.out.size))
          clear hb1
          go_wp2_with fail
          refine (HS.out _).mono ?_
          rintro e w2 ⟨rfl, hb2⟩
          clear c0 c1
          obtain ⟨c0, c1, _, _⟩ := (X1.out.later hb2).two
          have X2 := Lib.hid (X1.out.later hb2)
          have B2 := Lib.hid (B1.out.trans (hb2.mono B1.out.size))
          clear hb2
          rw [← HMM.out]
          obtain ⟨d0, d1, _, _⟩ := (X2.out.alloc (.cells #[.int .i64 0] 3)).two

          go_wp2_with fail
          refine (HS.out _).mono ?_
          rintro e w3 ⟨rfl, hb3⟩
          rw [← HMM.out]
          obtain ⟨hx3, hb3', hz3⟩ := facts1 hb3
          have B3 := Lib.hid (B2.out.trans (hb3'.mono B2.out.size))
          have cq := hx3.one.1
          clear hb3 hb3' hx3
          go_wp2_with fail
          refine (repeat_one w2.heap.size 1 0 m (by omega) (by omega) w3 (by omega) cq).mono ?_
          rintro e w4 ⟨g4, rfl, hg4, hz4, hb4⟩
          have B4 := Lib.hid (B3.out.trans (hb4.mono B3.out.size))
          have G4 := Lib.hid hg4
          clear hg4 hz4 hb4
          obtain ⟨v5, w5, r5, o5, gr5⟩ := nums_append (w := w4) (base := base) (v := .slice a len cap) (xs := acc) (HO.out.keep B4.out) 33 g4 m m (List.replicate m 0) G4.out (by simp) (by omega) (by have := HL.out; omega) (by have := B4.out.size; omega)
          have R5 := Lib.hid r5
          have O5 := Lib.hid o5
          have B5 := Lib.hid ((B4.out.mono hb).grown gr5 (by have := B4.out.size; omega) HO.out.block)
          clear r5 o5 gr5
          go_wp2_with (at_builtin; refine wpList_append_is rfl _ _ 33 rfl _ _ _ _ rfl rfl R5.out ?_)
          go_ret2
          exact ⟨_, rfl, fun _ => O5.out, B5.out⟩

        · by_cases hs18 : s = 18
          · subst hs18
            rw [hq _ rfl, if_pos (Or.inr rfl)]
            clear hq
            go_enter Tryz.func219, Tryz.ntmps219
            go_wp2_with fail
            refine (HM.out _).mono ?_
            rintro e w1 ⟨rfl, hb1⟩
            obtain ⟨c0, c1, _, _⟩ := (X0.out.later hb1).two
            have X1 := Lib.hid (X0.out.later hb1)
            have B1 := Lib.hid (B0.out.trans (hb1.mono B0.out.size))
            clear hb1
            go_wp2_with fail
            refine (HS.out _).mono ?_
            rintro e w2 ⟨rfl, hb2⟩
            clear c0 c1
            obtain ⟨c0, c1, _, _⟩ := (X1.out.later hb2).two
            have X2 := Lib.hid (X1.out.later hb2)
            have B2 := Lib.hid (B1.out.trans (hb2.mono B1.out.size))
            clear hb2
            rw [← HMM.out]
            obtain ⟨d0, d1, _, _⟩ := (X2.out.alloc (.cells #[.int .i64 0] 3)).two

            go_wp2_with fail
            refine (HS.out _).mono ?_
            rintro e w3 ⟨rfl, hb3⟩
            rw [← HMM.out]
            obtain ⟨hx3, hb3', hz3⟩ := facts1 hb3
            have B3 := Lib.hid (B2.out.trans (hb3'.mono B2.out.size))
            have cq := hx3.one.1
            clear hb3 hb3' hx3
            go_wp2_with fail
            refine (repeat_one w2.heap.size 1 0 m (by omega) (by omega) w3 (by omega) cq).mono ?_
            rintro e w4 ⟨g4, rfl, hg4, hz4, hb4⟩
            have B4 := Lib.hid (B3.out.trans (hb4.mono B3.out.size))
            have G4 := Lib.hid hg4
            clear hg4 hz4 hb4
            obtain ⟨v5, w5, r5, o5, gr5⟩ := nums_append (w := w4) (base := base) (v := .slice a len cap) (xs := acc) (HO.out.keep B4.out) 33 g4 m m (List.replicate m 0) G4.out (by simp) (by omega) (by have := HL.out; omega) (by have := B4.out.size; omega)
            have R5 := Lib.hid r5
            have O5 := Lib.hid o5
            have B5 := Lib.hid ((B4.out.mono hb).grown gr5 (by have := B4.out.size; omega) HO.out.block)
            clear r5 o5 gr5
            go_wp2_with (at_builtin; refine wpList_append_is rfl _ _ 33 rfl _ _ _ _ rfl rfl R5.out ?_)
            go_ret2
            exact ⟨_, rfl, fun _ => O5.out, B5.out⟩

          · rw [hq _ rfl, if_neg (by omega)]
            have e7 : ((s : Int) == 17) = false := by rw [beq_eq_false_iff_ne]; omega
            have e8 : ((s : Int) == 18) = false := by rw [beq_eq_false_iff_ne]; omega
            clear hq hs17 hs18
            go_enter Tryz.func219, Tryz.ntmps219
            go_wp2_with fail
            refine (HM.out _).mono ?_
            rintro e w1 ⟨rfl, hb1⟩
            obtain ⟨c0, c1, _, _⟩ := (X0.out.later hb1).two
            have X1 := Lib.hid (X0.out.later hb1)
            have B1 := Lib.hid (B0.out.trans (hb1.mono B0.out.size))
            clear hb1
            go_wp2_with fail
            refine (HS.out _).mono ?_
            rintro e w2 ⟨rfl, hb2⟩
            clear c0 c1
            obtain ⟨c0, c1, _, _⟩ := (X1.out.later hb2).two
            have X2 := Lib.hid (X1.out.later hb2)
            have B2 := Lib.hid (B1.out.trans (hb2.mono B1.out.size))
            clear hb2
            rw [← HMM.out]
            obtain ⟨d0, d1, _, _⟩ := (X2.out.alloc (.cells #[.int .i64 (s : Int)] 3)).two

            go_wp2_with fail
            refine (HS.out _).mono ?_
            rintro e w3 ⟨rfl, hb3⟩
            rw [← HMM.out]
            obtain ⟨hx3, hb3', hz3⟩ := facts1 hb3
            have B3 := Lib.hid (B2.out.trans (hb3'.mono B2.out.size))
            have cq := hx3.one.1
            clear hb3 hb3' hx3
            go_wp2_with fail
            refine (repeat_one w2.heap.size 1 s m (by omega) (by omega) w3 (by omega) cq).mono ?_
            rintro e w4 ⟨g4, rfl, hg4, hz4, hb4⟩
            have B4 := Lib.hid (B3.out.trans (hb4.mono B3.out.size))
            have G4 := Lib.hid hg4
            clear hg4 hz4 hb4
            obtain ⟨v5, w5, r5, o5, gr5⟩ := nums_append (w := w4) (base := base) (v := .slice a len cap) (xs := acc) (HO.out.keep B4.out) 33 g4 m m (List.replicate m s) G4.out (by simp) (by omega) (by have := HL.out; omega) (by have := B4.out.size; omega)
            have R5 := Lib.hid r5
            have O5 := Lib.hid o5
            have B5 := Lib.hid ((B4.out.mono hb).grown gr5 (by have := B4.out.size; omega) HO.out.block)
            clear r5 o5 gr5
            go_wp2_with (at_builtin; refine wpList_append_is rfl _ _ 33 rfl _ _ _ _ rfl rfl R5.out ?_)
            go_ret2
            exact ⟨_, rfl, fun _ => O5.out, B5.out⟩

end Go.Proofs.YtnjlljdbghcobaaGreatDoor

/- Contract of the library's slices.Clone, of numbers. -/
namespace Go.Proofs.YtnjlljdbghcobaaGreatDoor
set_option maxRecDepth 100000
open Go.RowKit

theorem ints_eql_nil (w : World) (a : Option Addr) (l c : Nat) : (binOp .eql 33 (.slice a l c) (.slice none 0 0)).run Tryz.prog w = .ok (.bool a.isNone) w := by
  simp only [binOp]
  simp [run_equal_slice_nil w 33 3 a l c Tryz.underlying33]

/-- What Clone leaves. -/
def ClonePost (w : World) (xs : List Nat) (e : Ending) (w' : World) : Prop := ∃ s, e = .returned s ∧ Own w.heap.size w' s xs ∧ Below w.heap.size w w'

set_option maxHeartbeats 1000000 in
theorem clone_any (xs : List Nat) (ad : Addr) (len cap : Nat) (w : World) (hz : Zl w (.slice (some ad) len cap) (Hd.zz xs)) (hl : xs.length ≤ 100000) : Calls Tryz.prog 221 #[.slice (some ad) len cap] w (ClonePost w xs) := by
  obtain ⟨a, len', cap', he, h1, h2, h3, h4⟩ := hz
  injection he with e1 e2 e3
  subst e1 e2 e3
  rw [Hd.zz_length] at h1
  obtain ⟨i0, hi, hz0, hz1, hz2⟩ := info_parts Tryz.infoInt
  have hb := below1 w (.cells #[] 3)
  have hown := World.ownsRow_lit (base := w.heap.size) (e := 3) (size := 1) w #[] 0 (Nat.le_refl _) (by unfold maxLen; omega) rfl
  obtain ⟨g, capn, w', hrun, hown', hgrow⟩ := run_append_mine (P := Tryz.prog) (w := w.alloc (.cells #[] 3)) w.heap.size 33 33 3 i0 (.int .i64 0) 1 8 Tryz.underlying33 hi hz0 hz1 hz2 rfl (by decide)
    w.heap.size 0 0 [] hown (some ad) len cap (vn xs) (by rw [vn_length]; omega) h3
    (fun h0 => by
      obtain ⟨b, off, he, hlt, hc⟩ := h4 h0
      refine ⟨_, he, fun j u hj => ?_⟩
      have e : (⟨b, off, none⟩ : Addr).add j = ⟨b, off + j, none⟩ := by cases j <;> simp [Addr.add]
      have hjl : j < xs.length := by
        have := (List.getElem?_eq_some_iff.1 hj).1
        rwa [vn_length] at this
      rw [e, hb.cell (p := ⟨b, off + j, none⟩) hlt, hc j (by omega), Hd.zz_get]
      rw [vn_get, List.getElem?_eq_getElem hjl] at hj
      rw [List.getElem?_eq_getElem hjl]
      simpa using hj)
    (vn_one _) (by unfold maxLen; omega) (by omega) (by simp)
  have HB : Hid (Below w.heap.size w w') := (hb.mono (Nat.le_refl _)).grown hgrow (by simp) (fun k e => by cases e; exact Nat.le_refl _)
  have e0 : 0 + len = xs.length := by omega
  rw [e0, List.nil_append] at hown'
  rw [e0] at hrun
  have HO := Lib.hid hown'
  have hnil : ∀ W, (binOp .eql 33 (.slice (some ad) len cap) (.slice none 0 0)).run Tryz.prog W = .ok (.bool false) W := fun W => ints_eql_nil W (some ad) len cap
  have HRUN := Lib.hid hrun
  clear h1 h4 hown hown' hgrow hb h3 hi e0 hrun
  go_enter Tryz.func221, Tryz.ntmps221
  go_wp2_with (at_builtin; refine wpList_append_is rfl _ _ 33 rfl _ _ _ _ rfl rfl HRUN.out ?_)
  go_ret
  exact ⟨_, rfl, HO.out, HB.out⟩
end Go.Proofs.YtnjlljdbghcobaaGreatDoor
