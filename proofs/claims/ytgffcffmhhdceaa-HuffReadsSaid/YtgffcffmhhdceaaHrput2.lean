/- Contract of the document's Put of codes, where the code is put. -/
import Derived.Test.YtgffcffmhhdceaaHrput
namespace Go.Proofs.Ytgffcffmhhdceaa
open Go.RowKit

/-- The highest bits of a number of n bits, the highest one first. -/
def tops (v n j : Nat) : List Bool := (List.range j).map fun i => v.testBit (n - 1 - i)
theorem tops_length (v n j : Nat) : (tops v n j).length = j := by simp [tops]
theorem tops_succ (v n j : Nat) : tops v n (j + 1) = tops v n j ++ [v.testBit (n - 1 - j)] := by simp [tops, List.range_succ]
theorem tops_all (v n : Nat) : tops v n n = Bs.bitsOf (turned v n) n := by
  unfold tops Bs.bitsOf
  refine List.map_congr_left fun i hi => ?_
  have hi' : i < n := List.mem_range.1 hi
  unfold turned
  rw [Bs.testBit_num, List.getElem?_reverse (by rw [Bs.bitsOf_length]; exact hi'), Bs.bitsOf_length, Bs.bitsOf_get]
  simp; omega

set_option maxHeartbeats 4000000 in
theorem rhput_ok (s : Value) (l : List Bool) (N : Nat) (s2 : Value) (zs : List Int) (sym : Nat) (w : World) (hs : Sl w s (Bs.pack l)) (hz : Zl w s2 zs) (hl : Hid (N = l.length)) (hN : N ≤ 1125899906841900) (hy : sym < zs.length) (hf : Fit zs) (h0 : zs[sym]?.getD 0 ≠ 0) :
    Calls Try.prog 19 #[.agg #[s, .int .i64 (N : Int)], s2, .int .i64 (sym : Int)] w (RowOwn w (l ++ cw (nat zs) sym)) := by
  have HS := Lib.hid hs
  obtain ⟨g1, g2, g3⟩ := code_fits hf sym hy h0
  have hgz := hf.valid.get sym hy
  have hln : Hf.ln (nat zs) sym = (nat zs)[sym]?.getD 0 := rfl
  obtain ⟨a2, len2, cap2, rfl, hl2⟩ := hz.shape
  obtain ⟨b2, off2, rfl, hb2, hle2, hc2⟩ := zl_cell hz sym hy
  clear hle2
  rw [hgz, ← hln] at hc2
  have hy2 : sym < len2 := by omega
  have HLN : Hid (∀ w', Below w.heap.size w w' → Calls Try.prog 29 #[.slice (some ⟨b2, off2, none⟩) len2 cap2] w' fun e w'' => e = .returned (.bool true) ∧ w' = w'') := fun w' h => by
    have h2 := rare_any zs _ w' (hz.later h)
    rw [decide_eq_true hf.valid] at h2
    exact h2
  have HCC : Hid (∀ w', Below w.heap.size w w' → Calls Try.prog 12 #[.slice (some ⟨b2, off2, none⟩) len2 cap2] w' (CodesPost w' (Hf.codes (nat zs)))) := fun w' h => rcodes_ok zs _ w' (hz.later h) hf
  have hcl : sym < (Hf.codes (nat zs)).length := by rw [Hf.codes_length, nat_length]; exact hy
  unfold cw
  generalize Hf.codes (nat zs) = cs at HCC hcl g1 ⊢
  generalize Hf.ln (nat zs) sym = L at hc2 g1 g2 g3 ⊢
  obtain ⟨C, hC⟩ : ∃ C, C = cs[sym]?.getD 0 := ⟨_, rfl⟩
  rw [← hC] at g1 ⊢
  have hC16 : C < 65536 := by
    have : 2 ^ L ≤ 2 ^ 15 := Nat.pow_le_pow_right (by omega) g2
    omega
  rw [← tops_all]
  have H2 := Lib.hid hc2
  have HC := Lib.hid hC
  have HCL := Lib.hid hcl
  clear hs hz hl2 hy hf h0 hc2 hgz hln hcl hC g1
  obtain ⟨a, len, cap, rfl, hl'⟩ := HS.out.shape
  clear hl'
  go_enter Try.func19, Try.ntmps19
  go_wp2_with fail
  refine (rright_ok _ (Bs.pack l) N _ (HS.out.later (below2 _ _ _)) (by omega) (by rw [hl.out]; exact Bs.pack_right l)).mono ?_
  rintro e w1 ⟨rfl, hb1⟩
  obtain ⟨k1, k2, kb, ks⟩ := facts2 hb1
  clear hb1
  have KB := Lib.hid kb
  have d1 : decide ((sym : Int) < 0) = false := by simp
  have d2 : decide (len2 ≤ sym) = false := by simp; omega
  clear kb
  go_wp2_with (go_at_call 29; refine (HLN.out _ KB.out).mono ?_; rintro e w2 ⟨rfl, rfl⟩)
  refine (HCC.out _ KB.out).mono ?_
  rintro e w2 ⟨v, rfl, hv, hb3⟩
  obtain ⟨g, capg, rfl, hg, hrow⟩ := il_cell hv (by have := HCL.out; omega)
  obtain ⟨ncs, hncs⟩ : ∃ ncs, ncs = cs.length := ⟨_, rfl⟩
  have hsy : sym < ncs := by rw [hncs]; exact HCL.out
  have cc : w2.cell? ⟨g, sym, none⟩ = some (.int .i64 (C : Int)) := by rw [hrow.cell sym HCL.out]; show some (Value.int .i64 ((cs[sym]?.getD 0 : Nat) : Int)) = _; rw [← HC.out]
  have hgl : g < w2.heap.size := hrow.lt
  rw [← hncs]
  have k1' := k1.later hb3
  have k2' := k2.later hb3
  have KB2 := Lib.hid (KB.out.trans (hb3.mono (by omega)))
  have hsz2 := hb3.size
  clear hb3 hv hrow hncs k1 k2
  obtain ⟨e0, e1, f0, f1⟩ := k1'.two
  have cl : w2.cell? ⟨b2, off2 + sym, none⟩ = some (.int .i64 (L : Int)) := by rw [KB2.out.cell (p := ⟨b2, off2 + sym, none⟩) hb2]; exact H2.out
  have hL0 : ((L : Int) == 0) = false := by rw [beq_eq_false_iff_ne]; omega
  have K1 := Lib.hid k1'
  have K2 := Lib.hid k2'
  have CC := Lib.hid cc
  clear k1' k2' cc
  go_wp2_with fail
  refine (copy_is a len cap l N w2 (HS.out.later KB2.out) hl (by omega)).mono ?_
  rintro e w3 ⟨a3, n3, cap3, rfl, hr3, hb3⟩
  have k1' := Lib.hid (K1.out.later hb3)
  have k2' := Lib.hid (K2.out.later hb3)
  have kb' := Lib.hid (KB2.out.trans (hb3.mono (by omega)))
  have CC3 : Hid (w3.cell? ⟨g, sym, none⟩ = some (.int .i64 (C : Int))) := by
    show _ = _
    rw [hb3.cell (p := ⟨g, sym, none⟩) hgl]; exact CC.out
  have hg3 : g < w3.heap.size := by have := hb3.size; omega
  have hsz := hb3.size
  have c3 : w3.cell? ⟨b2, off2 + sym, none⟩ = some (.int .i64 (L : Int)) := by rw [kb'.out.cell (p := ⟨b2, off2 + sym, none⟩) hb2]; exact H2.out
  have R3 := Lib.hid (hr3)
  clear hr3 hb3 e0 e1 f0 f1 cl K1 K2
  have HV0 : Hid (Has (w3.alloc (.cells #[.slice a3 n3 cap3, .int .i64 (N : Int)] 36)) w3.heap.size (rowVar a3 n3 cap3 (N : Int))) := Has.new _ _
  have HR0 : Hid (Row (w3.alloc (.cells #[.slice a3 n3 cap3, .int .i64 (N : Int)] 36)) w2.heap.size (.slice a3 n3 cap3) (l ++ tops C L 0)) := by
    have e : l ++ tops C L 0 = l := by simp [tops]
    show Row _ _ _ _
    rw [e]
    exact World.ownsRow.alloc R3.out _
  have HB0 : Hid (Below w3.heap.size w3 (w3.alloc (.cells #[.slice a3 n3 cap3, .int .i64 (N : Int)] 36))) := (Below.refl _ _).alloc (by omega) _
  have c4 : (w3.alloc (.cells #[.slice a3 n3 cap3, .int .i64 (N : Int)] 36)).cell? ⟨b2, off2 + sym, none⟩ = some (.int .i64 (L : Int)) := by
    rw [HB0.out.cell (p := ⟨b2, off2 + sym, none⟩) (by have := kb'.out.size; show b2 < w3.heap.size; omega)]
    exact c3
  clear c3
  go_wp2_with fail
  go_loopw [11] (fun s11 wr => ∃ (r j M : Nat) (i : Int) (a : Option Addr) (m cap : Nat), r + j = L ∧ i = (r : Int) - 1 ∧ s11 = .int .i64 i ∧ M ≤ N + 16 ∧ Hid (M = N + j) ∧ Hid (Has wr w3.heap.size (rowVar a m cap (M : Int))) ∧ Hid (Row wr w2.heap.size (.slice a m cap) (l ++ tops C L j)) ∧ Hid (Below w2.heap.size w3 wr)) (fun s _ => (intOf s + 1).toNat)
  case atStart => exact ⟨L, 0, N, (L : Int) - 1, a3, n3, cap3, by omega, rfl, by go_num, by omega, rfl, HV0, HR0, HB0.mono (by omega)⟩
  case round =>
    obtain ⟨r, j, M, i, a, m, cap, hrj, hi, rfl, hM2, hM, HV, HR, HB⟩ := hrel
    obtain ⟨c0, c1, f0, f1⟩ := HV.out.two
    by_cases hlt : 0 < r
    · obtain ⟨k, rfl⟩ : ∃ k, r = k + 1 := ⟨r - 1, by omega⟩
      obtain rfl : i = (k : Int) := by omega
      clear hi
      have HM : Hid (M = (l ++ tops C L j).length) := by show _ = _; rw [List.length_append, tops_length, ← hl.out]; exact hM.out
      have HBIT := Lib.hid (bit_int C k)
      have hszr := HV.out.lt
      have cg : wr.cell? ⟨g, sym, none⟩ = some (.int .i64 (C : Int)) := (HB.out.cell (p := ⟨g, sym, none⟩) hgl).trans CC3.out
      have d5 : decide ((0 : Int) ≤ (k : Int)) = true := by simp
      have d6 : decide ((k : Int) < 0) = false := by simp
      have d7 : decide ((k : Int) ≥ 0) = true := by simp
      go_wp2_with fail
      go_region_with (go_at_call 36; refine (with_is a m cap (l ++ tops C L j) (C.testBit k) _ w2.heap.size M _ (World.ownsRow.drew HR.out) (by show w2.heap.size ≤ wr.heap.size; omega) HM (by omega) (by show _ = _; rw [i64_and1]; exact HBIT.out)).mono ?_; rintro e w4 ⟨a', m', cap', rfl, hr4, hg4⟩; have vs := var_step (M + 1) (show Has wr.drew w3.heap.size (rowVar a m cap (M : Int)) from HV.out) (World.ownsRow.drew HR.out) hr4 hg4; have HB4 := Lib.hid (row_grown_below (World.ownsRow.drew HR.out) hg4 HB.out.drew (Nat.le_refl _) (by show w2.heap.size ≤ wr.heap.size; omega)); have vv := vs.1.two; have d0 := vv.1; have d1 := vv.2.1; have d2 := vv.2.2.1; have d3 := vv.2.2.2; have VS := Lib.hid vs; clear vs vv hr4 hg4)
      all_goals
        go_wp2
        refine ⟨⟨k, j + 1, M + 1, (k : Int) - 1, a', m', cap', by omega, rfl, by go_num, by have := hM.out; omega, ?_, VS.out.2.1, ?_, ?_⟩, ?_⟩
        · show _ = _
          have := hM.out
          omega
        · have e : k = L - 1 - j := by omega
          rw [tops_succ, ← e, ← List.append_assoc]
          exact VS.out.2.2
        · exact set2_below HB4.out _ (by omega) _ _
        · simp [intOf]
    · obtain rfl : r = 0 := by omega
      obtain rfl : i = -1 := by omega
      clear hi
      obtain rfl : j = L := by omega
      have k2 := (k2'.out.below HB.out (by omega))
      obtain ⟨e0, e1, g0, g1⟩ := k2.two
      have K2 := Lib.hid k2
      clear k2
      go_wp2
      refine bodyPost_ret (v := .tuple #[.agg #[.slice a m cap, .int .i64 (M : Int)], .int .i64 0]) (by simp [results, Try.results19, go_sem, e0, e1]) rfl ⟨a, m, cap, ?_, ?_, ?_⟩
      · rw [List.length_append, tops_length, ← hl.out, hM.out]
      · have hne := HR.out.ne K2.out
        exact Row.weaken (ownsRow_setCell_other (ownsRow_setCell_other HR.out hne _) hne _) (by omega)
      · exact set2_below (kb'.out.trans (HB.out.mono (by omega))) _ (by omega) _ _
end Go.Proofs.Ytgffcffmhhdceaa
