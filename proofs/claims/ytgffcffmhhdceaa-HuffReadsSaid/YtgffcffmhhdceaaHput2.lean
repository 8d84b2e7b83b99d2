/- Contract of huff.Put, where the code is put. -/
import Derived.Test.YtgffcffmhhdceaaHput
namespace Go.Proofs.Ytgffcffmhhdceaa
open Go.RowKit

set_option maxHeartbeats 4000000 in
theorem hput_ok (s : Value) (l : List Bool) (N : Nat) (s2 : Value) (zs : List Int) (sym : Nat) (w : World) (hs : Sl w s (Bs.pack l)) (hz : Zl w s2 zs) (hl : Hid (N = l.length)) (hN : N ≤ 1125899906842624) (hy : sym < zs.length) (hf : Fit zs) (h0 : zs[sym]?.getD 0 ≠ 0) :
    Calls Try.prog 18 #[.agg #[s, .int .i64 (N : Int)], s2, .int .i64 (sym : Int)] w (RowPost w (l ++ cw (nat zs) sym)) := by
  have HS := Lib.hid hs
  obtain ⟨g1, g2, g3⟩ := code_fits hf sym hy h0
  have hgz := hf.valid.get sym hy
  have hln : Hf.ln (nat zs) sym = (nat zs)[sym]?.getD 0 := rfl
  obtain ⟨a2, len2, cap2, rfl, hl2⟩ := hz.shape
  obtain ⟨b2, off2, rfl, hb2, hle2, hc2⟩ := zl_cell hz sym hy
  clear hle2
  rw [hgz, ← hln] at hc2
  have hy2 : sym < len2 := by omega
  have HCC : Hid (∀ w', Below w.heap.size w w' → Calls Try.prog 11 #[.slice (some ⟨b2, off2, none⟩) len2 cap2] w' (CodesPost w' (Hf.codes (nat zs)))) := fun w' h => codes_ok zs _ w' (hz.later h) hf
  have hcl : sym < (Hf.codes (nat zs)).length := by rw [Hf.codes_length, nat_length]; exact hy
  unfold cw
  generalize Hf.codes (nat zs) = cs at HCC hcl g1 ⊢
  generalize Hf.ln (nat zs) sym = L at hc2 g1 g2 g3 ⊢
  obtain ⟨C, hC⟩ : ∃ C, C = cs[sym]?.getD 0 := ⟨_, rfl⟩
  rw [← hC] at g1 ⊢
  obtain ⟨T, hT⟩ : ∃ T, T = turned C L := ⟨_, rfl⟩
  have htl : T < 2 ^ L := by rw [hT]; exact turned_lt C L
  have HTU : Hid (∀ w', Calls Try.prog 32 #[.int .i64 (C : Int), .int .i64 (L : Int)] w' fun e w'' => e = .returned (.tuple #[.int .i64 (T : Int), .int .i64 0]) ∧ w' = w'') := fun w' => by
    rw [hT]; exact turn_same C L (by omega) g1 w'
  have HPU : Hid (∀ w', Below w.heap.size w w' → Calls Try.prog 33 #[.agg #[s, .int .i64 (N : Int)], .int .i64 (T : Int), .int .i64 (L : Int)] w' (RowPost w' (l ++ Bs.bitsOf T L))) := fun w' h => put_ok s l T L w' (hs.later h) (show _ ≤ _ by rw [← hl.out]; exact hN) (by omega) htl N hl
  rw [← hT]
  have H2 := Lib.hid hc2
  have HC := Lib.hid hC
  have HCL := Lib.hid hcl
  clear hs hz hl2 hy hf h0 hc2 hgz hln hcl hC hT htl g1
  obtain ⟨a, len, cap, rfl, hl'⟩ := HS.out.shape
  clear hl'
  go_enter Try.func18, Try.ntmps18
  go_wp2_with fail
  refine (check_ok _ (Bs.pack l) N _ (HS.out.later (below2 _ _ _)) (by omega) (by rw [hl.out]; exact Bs.pack_right l)).mono ?_
  rintro e w1 ⟨rfl, hb1⟩
  obtain ⟨k1, k2, kb, ks⟩ := facts2 hb1
  clear hb1
  have KB := Lib.hid kb
  have d1 : decide ((sym : Int) < 0) = false := by simp
  have d2 : decide (len2 ≤ sym) = false := by simp; omega
  clear kb
  go_wp2_with fail
  refine (HCC.out _ KB.out).mono ?_
  rintro e w2 ⟨v, rfl, hv, hb3⟩
  obtain ⟨g, capg, rfl, hg, hrow⟩ := il_cell hv (by have := HCL.out; omega)
  obtain ⟨ncs, hncs⟩ : ∃ ncs, ncs = cs.length := ⟨_, rfl⟩
  have hsy : sym < ncs := by rw [hncs]; exact HCL.out
  have cc : w2.cell? ⟨g, sym, none⟩ = some (.int .i64 (C : Int)) := by rw [hrow.cell sym HCL.out]; show some (Value.int .i64 ((cs[sym]?.getD 0 : Nat) : Int)) = _; rw [← HC.out]
  rw [← hncs]
  have k1' := k1.later hb3
  have k2' := k2.later hb3
  have KB2 := Lib.hid (KB.out.trans (hb3.mono (by omega)))
  have hsz2 := hb3.size
  have K2 := Lib.hid k2'
  clear hb3 hv hrow hncs k1 k2
  obtain ⟨e0, e1, f0, f1⟩ := k1'.two
  have cl : w2.cell? ⟨b2, off2 + sym, none⟩ = some (.int .i64 (L : Int)) := by rw [KB2.out.cell (p := ⟨b2, off2 + sym, none⟩) hb2]; exact H2.out
  have hL0 : ((L : Int) == 0) = false := by rw [beq_eq_false_iff_ne]; omega
  clear k1' k2'
  go_wp2
  go_quiet ((go_at_call 32; exact quiet_left (HTU.out _)))
  go_wp2
  go_region_with (go_at_call 33; refine (HPU.out _ (below_drewN KB2.out _)).mono ?_; rintro e w4 ⟨gg, m, rfl, hm, hgg, hh, hb4⟩; have K4 : Has w4 (w.heap.size + 1) _ := Has.later (w := w2) K2.out (show Below w2.heap.size w2 w4 from ⟨hb4.os, hb4.tape, hb4.output, hb4.size, hb4.block⟩); obtain ⟨r0, r1, q0, q1⟩ := K4.two; have HH := Lib.hid hh; have HM := Lib.hid hm; have HB4 := Lib.hid hb4; clear hh hm hb4)
  all_goals
    go_wp2
    have hge : w2.heap.size ≤ gg := hgg
    have hB4 : Below w2.heap.size w2 w4 := ⟨HB4.out.os, HB4.out.tape, HB4.out.output, HB4.out.size, HB4.out.block⟩
    have hne : gg ≠ w.heap.size + 1 := by omega
    refine bodyPost_ret (v := .tuple #[.agg #[.slice (some ⟨gg, 0, none⟩) m m, .int .i64 ((l.length : Int) + ((Bs.bitsOf T L).length : Int))], .int .i64 0]) (by simp [results, Try.results18, go_sem, r0, r1]) rfl ⟨gg, m, ?_, HM.out, by omega, ?_, ?_⟩
    · rw [List.length_append, Int.natCast_add]
    · exact (HH.out.set hne _).set hne _
    · exact set2_below (KB2.out.trans (hB4.mono (by omega))) _ (by omega) _ _
end Go.Proofs.Ytgffcffmhhdceaa
