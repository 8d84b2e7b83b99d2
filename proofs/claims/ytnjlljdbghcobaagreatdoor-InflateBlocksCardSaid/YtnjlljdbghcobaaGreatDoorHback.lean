/- Contract of huff.Put, where the code is put. -/
import Derived.Test.YtnjlljdbghcobaaGreatDoorKrcodes
import Derived.Test.YtnjlljdbghcobaaGreatDoorHrd
import Derived.Test.YtnjlljdbghcobaaGreatDoorImost
import Derived.Test.YtnjlljdbghcobaaGreatDoorIst

namespace Go.Proofs.YtnjlljdbghcobaaGreatDoor
set_option maxRecDepth 100000
open Go.RowKit

set_option maxHeartbeats 4000000 in
theorem hput_ok (s : Value) (l : List Bool) (N : Nat) (s2 : Value) (zs : List Int) (sym : Nat) (w : World) (hs : Sl w s (Bs.pack l)) (hz : Zl w s2 zs) (hl : Hid (N = l.length)) (hN : N ≤ 1125899906842624) (hy : sym < zs.length) (hf : Fit zs) (h0 : zs[sym]?.getD 0 ≠ 0) :
    Calls Tryz.prog 188 #[.agg #[s, .int .i64 (N : Int)], s2, .int .i64 (sym : Int)] w (RowPost w (l ++ cw (nat zs) sym)) := by
  have HS := Lib.hid hs
  obtain ⟨g1, g2, g3⟩ := code_fits hf sym hy h0
  have hgz := hf.valid.get sym hy
  have hln : Hf.ln (nat zs) sym = (nat zs)[sym]?.getD 0 := rfl
  obtain ⟨a2, len2, cap2, rfl, hl2⟩ := hz.shape
  obtain ⟨b2, off2, rfl, hb2, hle2, hc2⟩ := zl_cell hz sym hy
  clear hle2
  rw [hgz, ← hln] at hc2
  have hy2 : sym < len2 := by omega
  have HCC : Hid (∀ w', Below w.heap.size w w' → Calls Tryz.prog 129 #[.slice (some ⟨b2, off2, none⟩) len2 cap2] w' (CodesPost w' (Hf.codes (nat zs)))) := fun w' h => codes_ok zs _ w' (hz.later h) hf
  have hcl : sym < (Hf.codes (nat zs)).length := by rw [Hf.codes_length, nat_length]; exact hy
  unfold cw
  generalize Hf.codes (nat zs) = cs at HCC hcl g1 ⊢
  generalize Hf.ln (nat zs) sym = L at hc2 g1 g2 g3 ⊢
  obtain ⟨C, hC⟩ : ∃ C, C = cs[sym]?.getD 0 := ⟨_, rfl⟩
  rw [← hC] at g1 ⊢
  obtain ⟨T, hT⟩ : ∃ T, T = turned C L := ⟨_, rfl⟩
  have htl : T < 2 ^ L := by rw [hT]; exact turned_lt C L
  have HTU : Hid (∀ w', Calls Tryz.prog 131 #[.int .i64 (C : Int), .int .i64 (L : Int)] w' fun e w'' => e = .returned (.tuple #[.int .i64 (T : Int), .int .i64 0]) ∧ w' = w'') := fun w' => by
    rw [hT]; exact turn_same C L (by omega) g1 w'
  have HPU : Hid (∀ w', Below w.heap.size w w' → Calls Tryz.prog 128 #[.agg #[s, .int .i64 (N : Int)], .int .i64 (T : Int), .int .i64 (L : Int)] w' (RowPost w' (l ++ Bs.bitsOf T L))) := fun w' h => put_ok s l T L w' (hs.later h) (show _ ≤ _ by rw [← hl.out]; exact hN) (by omega) htl N hl
  rw [← hT]
  have H2 := Lib.hid hc2
  have HC := Lib.hid hC
  have HCL := Lib.hid hcl
  clear hs hz hl2 hy hf h0 hc2 hgz hln hcl hC hT htl g1
  obtain ⟨a, len, cap, rfl, hl'⟩ := HS.out.shape
  clear hl'
  go_enter Tryz.func188, Tryz.ntmps188
  go_wp2_with fail
  refine (check_ok _ (Bs.pack l) N _ (HS.out.later (below2 _ _ _)) (by omega) (by rw [hl.out]; exact Bs.pack_right l)).mono ?_
  rintro e w1 ⟨rfl, hb1⟩
  obtain ⟨k1, k2, kb, ks⟩ := facts2 hb1
  clear hb1
  have KB := Lib.hid kb
  have d1 : decide ((sym : Int) < 0) = false := by simp
  have d2 : decide (len2 ≤ sym) = false := by simp; omega
  clear kb
  go_wp2_with fail
  refine (HCC.out _ KB.out).mono ?_
  rintro e w2 ⟨v, rfl, hv, hb3⟩
  obtain ⟨g, capg, rfl, hg, hrow⟩ := il_cell hv (by have := HCL.out; omega)
  obtain ⟨ncs, hncs⟩ : ∃ ncs, ncs = cs.length := ⟨_, rfl⟩
  have hsy : sym < ncs := by rw [hncs]; exact HCL.out
  have cc : w2.cell? ⟨g, sym, none⟩ = some (.int .i64 (C : Int)) := by rw [hrow.cell sym HCL.out]; show some (Value.int .i64 ((cs[sym]?.getD 0 : Nat) : Int)) = _; rw [← HC.out]
  rw [← hncs]
  have k1' := k1.later hb3
  have k2' := k2.later hb3
  have KB2 := Lib.hid (KB.out.trans (hb3.mono (by omega)))
  have hsz2 := hb3.size
  have K2 := Lib.hid k2'
  clear hb3 hv hrow hncs k1 k2
  obtain ⟨e0, e1, f0, f1⟩ := k1'.two
  have cl : w2.cell? ⟨b2, off2 + sym, none⟩ = some (.int .i64 (L : Int)) := by rw [KB2.out.cell (p := ⟨b2, off2 + sym, none⟩) hb2]; exact H2.out
  have hL0 : ((L : Int) == 0) = false := by rw [beq_eq_false_iff_ne]; omega
  clear k1' k2'
  go_wp2
  go_quiet ((go_at_call 131; exact quiet_left (HTU.out _)))
  go_wp2
  go_region_with (go_at_call 128; refine (HPU.out _ (below_drewN KB2.out _)).mono ?_; rintro e w4 ⟨gg, m, rfl, hm, hgg, hh, hb4⟩; have K4 : Has w4 (w.heap.size + 1) _ := Has.later (w := w2) K2.out (show Below w2.heap.size w2 w4 from ⟨hb4.os, hb4.tape, hb4.output, hb4.size, hb4.block⟩); obtain ⟨r0, r1, q0, q1⟩ := K4.two; have HH := Lib.hid hh; have HM := Lib.hid hm; have HB4 := Lib.hid hb4; clear hh hm hb4)
  all_goals
    go_wp2
    have hge : w2.heap.size ≤ gg := hgg
    have hB4 : Below w2.heap.size w2 w4 := ⟨HB4.out.os, HB4.out.tape, HB4.out.output, HB4.out.size, HB4.out.block⟩
    have hne : gg ≠ w.heap.size + 1 := by omega
    refine bodyPost_ret (v := .tuple #[.agg #[.slice (some ⟨gg, 0, none⟩) m m, .int .i64 ((l.length : Int) + ((Bs.bitsOf T L).length : Int))], .int .i64 0]) (by simp [results, Tryz.results188, go_sem, r0, r1]) rfl ⟨gg, m, ?_, HM.out, by omega, ?_, ?_⟩
    · rw [List.length_append, Int.natCast_add]
    · exact (HH.out.set hne _).set hne _
    · exact set2_below (KB2.out.trans (hB4.mono (by omega))) _ (by omega) _ _
end Go.Proofs.YtnjlljdbghcobaaGreatDoor

/- Contracts of the document's Put of codes: where it refuses. -/
namespace Go.Proofs.YtnjlljdbghcobaaGreatDoor
set_option maxRecDepth 100000
open Go.RowKit

set_option maxHeartbeats 1000000 in
theorem rhput_check (s : Value) (bs : List Nat) (N : Int) (s2 : Value) (zs : List Int) (sym : Int) (w : World) (hs : Sl w s bs) (hz : Zl w s2 zs) (hN : N ≤ 9223372036854775807) (hr : ¬ (0 ≤ N ∧ Bs.right bs N.toNat)) :
    Calls Tryz.prog 20 #[.agg #[s, .int .i64 N], s2, .int .i64 sym] w (NoRow w 2) := by
  have HS := Lib.hid hs
  have HR := Lib.hid hr
  obtain ⟨a2, len2, cap2, rfl, hl2⟩ := hz.shape
  clear hs hr hz hl2
  obtain ⟨a, len, cap, rfl, hl⟩ := HS.out.shape
  clear hl
  go_enter Tryz.func20, Tryz.ntmps20
  go_wp2_with fail
  refine (rright_bad _ bs N _ (HS.out.later (below2 _ _ _)) hN HR.out).mono ?_
  rintro e w1 ⟨rfl, hb1⟩
  obtain ⟨k1, k2, kb, ks⟩ := facts2 hb1
  clear hb1
  obtain ⟨c0, c1, f0, f1⟩ := k2.two
  go_wp2
  exact bodyPost_ret (v := .tuple #[.agg #[.slice none 0 0, .int .i64 0], .int .i64 2]) (by simp [results, Tryz.results20, go_sem, c0, c1]) rfl ⟨rfl, set2_below kb _ (by omega) _ _⟩

set_option maxHeartbeats 1000000 in
theorem rhput_sym (s : Value) (bs : List Nat) (N : Nat) (s2 : Value) (zs : List Int) (sym : Int) (w : World) (hs : Sl w s bs) (hz : Zl w s2 zs) (hN : N ≤ 9223372036854775807) (hr : Bs.right bs N) (hv : Valid zs) (hy : sym < 0 ∨ (zs.length : Int) ≤ sym) :
    Calls Tryz.prog 20 #[.agg #[s, .int .i64 (N : Int)], s2, .int .i64 sym] w (NoRow w 2) := by
  have HS := Lib.hid hs
  have HR := Lib.hid hr
  obtain ⟨a2, len2, cap2, rfl, hl2⟩ := hz.shape
  have hy2 : sym < 0 ∨ (len2 : Int) ≤ sym := by rw [hl2]; exact hy
  have HY := Lib.hid hy2
  have HLN : Hid (∀ w', Below w.heap.size w w' → Calls Tryz.prog 40 #[.slice a2 len2 cap2] w' fun e w'' => e = .returned (.bool true) ∧ w' = w'') := fun w' h => by
    have h2 := rare_any zs _ w' (hz.later h)
    rw [decide_eq_true hv] at h2
    exact h2
  clear hs hr hz hl2 hy hy2 hv
  obtain ⟨a, len, cap, rfl, hl⟩ := HS.out.shape
  clear hl
  go_enter Tryz.func20, Tryz.ntmps20
  go_wp2_with fail
  refine (rright_ok _ bs N _ (HS.out.later (below2 _ _ _)) hN HR.out).mono ?_
  rintro e w1 ⟨rfl, hb1⟩
  obtain ⟨k1, k2, kb, ks⟩ := facts2 hb1
  clear hb1
  obtain ⟨c0, c1, f0, f1⟩ := k2.two
  by_cases h1 : sym < 0
  · have d1 : decide (sym < 0) = true := by simpa using h1
    go_wp2_with (go_at_call 40; refine (HLN.out _ kb).mono ?_; rintro e w2 ⟨rfl, rfl⟩)
    exact bodyPost_ret (v := .tuple #[.agg #[.slice none 0 0, .int .i64 0], .int .i64 2]) (by simp [results, Tryz.results20, go_sem, c0, c1]) rfl ⟨rfl, set2_below kb _ (by omega) _ _⟩
  · have d1 : decide (sym < 0) = false := by simpa using h1
    have h2 : (len2 : Int) ≤ sym := HY.out.resolve_left h1
    have d2 : decide ((len2 : Int) ≤ sym) = true := by simpa using h2
    go_wp2_with (go_at_call 40; refine (HLN.out _ kb).mono ?_; rintro e w2 ⟨rfl, rfl⟩)
    exact bodyPost_ret (v := .tuple #[.agg #[.slice none 0 0, .int .i64 0], .int .i64 2]) (by simp [results, Tryz.results20, go_sem, c0, c1]) rfl ⟨rfl, set2_below kb _ (by omega) _ _⟩

set_option maxHeartbeats 1000000 in
theorem rhput_len (s : Value) (bs : List Nat) (N : Nat) (s2 : Value) (zs : List Int) (sym : Int) (w : World) (hs : Sl w s bs) (hz : Zl w s2 zs) (hN : N ≤ 9223372036854775807) (hr : Bs.right bs N) (hv : ¬ Valid zs) :
    Calls Tryz.prog 20 #[.agg #[s, .int .i64 (N : Int)], s2, .int .i64 sym] w (NoRow w 2) := by
  have HS := Lib.hid hs
  have HR := Lib.hid hr
  obtain ⟨a2, len2, cap2, rfl, hl2⟩ := hz.shape
  have HLN : Hid (∀ w', Below w.heap.size w w' → Calls Tryz.prog 40 #[.slice a2 len2 cap2] w' fun e w'' => e = .returned (.bool false) ∧ w' = w'') := fun w' h => by
    have h2 := rare_any zs _ w' (hz.later h)
    rw [decide_eq_false hv] at h2
    exact h2
  clear hs hr hz hl2 hv
  obtain ⟨a, len, cap, rfl, hl⟩ := HS.out.shape
  clear hl
  go_enter Tryz.func20, Tryz.ntmps20
  go_wp2_with fail
  refine (rright_ok _ bs N _ (HS.out.later (below2 _ _ _)) hN HR.out).mono ?_
  rintro e w1 ⟨rfl, hb1⟩
  obtain ⟨k1, k2, kb, ks⟩ := facts2 hb1
  clear hb1
  obtain ⟨c0, c1, f0, f1⟩ := k2.two
  go_wp2_with (go_at_call 40; refine (HLN.out _ kb).mono ?_; rintro e w2 ⟨rfl, rfl⟩)
  exact bodyPost_ret (v := .tuple #[.agg #[.slice none 0 0, .int .i64 0], .int .i64 2]) (by simp [results, Tryz.results20, go_sem, c0, c1]) rfl ⟨rfl, set2_below kb _ (by omega) _ _⟩

set_option maxHeartbeats 1000000 in
theorem rhput_codes (s : Value) (bs : List Nat) (N : Nat) (s2 : Value) (zs : List Int) (sym : Nat) (w : World) (hs : Sl w s bs) (hz : Zl w s2 zs) (hN : N ≤ 9223372036854775807) (hr : Bs.right bs N) (hv : Valid zs) (hy : sym < zs.length) (hf : ¬ Fit zs) :
    Calls Tryz.prog 20 #[.agg #[s, .int .i64 (N : Int)], s2, .int .i64 (sym : Int)] w (NoRow w (chk zs)) := by
  have HS := Lib.hid hs
  have HR := Lib.hid hr
  have HZ := Lib.hid hz
  have HF := Lib.hid hf
  obtain ⟨a2, len2, cap2, rfl, hl2⟩ := hz.shape
  have hy2 : sym < len2 := by omega
  have HLN : Hid (∀ w', Below w.heap.size w w' → Calls Tryz.prog 40 #[.slice a2 len2 cap2] w' fun e w'' => e = .returned (.bool true) ∧ w' = w'') := fun w' h => by
    have h2 := rare_any zs _ w' (hz.later h)
    rw [decide_eq_true hv] at h2
    exact h2
  have hne : chk zs ≠ 0 := fun h => hf (Or.inl h)
  have hc0 : (chk zs != 0) = true := by rw [bne_iff_ne]; exact hne
  have HC : ∀ w', Below w.heap.size w w' → Calls Tryz.prog 44 #[.slice a2 len2 cap2] w' (NoCodes w' (chk zs)) := fun w' h => rcodes_no zs _ w' (hz.later h) hf
  generalize chk zs = c at HC hc0 hne ⊢
  have HCC := Lib.hid HC
  clear hs hr hz hl2 hy hf HC hne hv
  obtain ⟨a, len, cap, rfl, hl⟩ := HS.out.shape
  clear hl
  go_enter Tryz.func20, Tryz.ntmps20
  go_wp2_with fail
  refine (rright_ok _ bs N _ (HS.out.later (below2 _ _ _)) hN HR.out).mono ?_
  rintro e w1 ⟨rfl, hb1⟩
  obtain ⟨k1, k2, kb, ks⟩ := facts2 hb1
  clear hb1
  have KB := Lib.hid kb
  have d1 : decide ((sym : Int) < 0) = false := by simp
  have d2 : decide (len2 ≤ sym) = false := by simp; omega
  clear kb
  go_wp2_with (go_at_call 40; refine (HLN.out _ KB.out).mono ?_; rintro e w2 ⟨rfl, rfl⟩)
  refine (HCC.out _ KB.out).mono ?_
  rintro e w2 ⟨rfl, hb2⟩
  have k2' := k2.later hb2
  have KB2 := Lib.hid (KB.out.trans (hb2.mono (by omega)))
  clear hb2
  obtain ⟨c0, c1, f0, f1⟩ := k2'.two
  go_wp2
  exact bodyPost_ret (v := .tuple #[.agg #[.slice none 0 0, .int .i64 0], .int .i64 c]) (by simp [results, Tryz.results20, go_sem, c0, c1]) rfl ⟨rfl, set2_below KB2.out _ (by omega) _ _⟩

set_option maxHeartbeats 2000000 in
theorem rhput_zero (s : Value) (bs : List Nat) (N : Nat) (s2 : Value) (zs : List Int) (sym : Nat) (w : World) (hs : Sl w s bs) (hz : Zl w s2 zs) (hN : N ≤ 9223372036854775807) (hr : Bs.right bs N) (hy : sym < zs.length) (hf : Fit zs) (h0 : zs[sym]?.getD 0 = 0) :
    Calls Tryz.prog 20 #[.agg #[s, .int .i64 (N : Int)], s2, .int .i64 (sym : Int)] w (NoRow w 13) := by
  have HS := Lib.hid hs
  have HR := Lib.hid hr
  obtain ⟨a2, len2, cap2, rfl, hl2⟩ := hz.shape
  obtain ⟨b2, off2, rfl, hb2, hle2, hc2⟩ := zl_cell hz sym hy
  clear hle2
  rw [h0] at hc2
  have hy2 : sym < len2 := by omega
  have HLN : Hid (∀ w', Below w.heap.size w w' → Calls Tryz.prog 40 #[.slice (some ⟨b2, off2, none⟩) len2 cap2] w' fun e w'' => e = .returned (.bool true) ∧ w' = w'') := fun w' h => by
    have h2 := rare_any zs _ w' (hz.later h)
    rw [decide_eq_true hf.valid] at h2
    exact h2
  have HCC : Hid (∀ w', Below w.heap.size w w' → Calls Tryz.prog 44 #[.slice (some ⟨b2, off2, none⟩) len2 cap2] w' (CodesPost w' (Hf.codes (nat zs)))) := fun w' h => rcodes_ok zs _ w' (hz.later h) hf
  generalize Hf.codes (nat zs) = cs at HCC
  have H2 := Lib.hid hc2
  clear hs hr hz hl2 hy hf h0 hc2
  obtain ⟨a, len, cap, rfl, hl⟩ := HS.out.shape
  clear hl
  go_enter Tryz.func20, Tryz.ntmps20
  go_wp2_with fail
  refine (rright_ok _ bs N _ (HS.out.later (below2 _ _ _)) hN HR.out).mono ?_
  rintro e w1 ⟨rfl, hb1⟩
  obtain ⟨k1, k2, kb, ks⟩ := facts2 hb1
  clear hb1
  have KB := Lib.hid kb
  have d1 : decide ((sym : Int) < 0) = false := by simp
  have d2 : decide (len2 ≤ sym) = false := by simp; omega
  clear kb
  go_wp2_with (go_at_call 40; refine (HLN.out _ KB.out).mono ?_; rintro e w2 ⟨rfl, rfl⟩)
  refine (HCC.out _ KB.out).mono ?_
  rintro e w2 ⟨v, rfl, _, hb3⟩
  have k2' := k2.later hb3
  have KB2 := Lib.hid (KB.out.trans (hb3.mono (by omega)))
  clear hb3
  obtain ⟨c0, c1, f0, f1⟩ := k2'.two
  have cl : w2.cell? ⟨b2, off2 + sym, none⟩ = some (.int .i64 0) := by rw [KB2.out.cell (p := ⟨b2, off2 + sym, none⟩) hb2]; exact H2.out
  go_wp2
  exact bodyPost_ret (v := .tuple #[.agg #[.slice none 0 0, .int .i64 0], .int .i64 13]) (by simp [results, Tryz.results20, go_sem, c0, c1]) rfl ⟨rfl, set2_below KB2.out _ (by omega) _ _⟩

end Go.Proofs.YtnjlljdbghcobaaGreatDoor

/- Contract of the document's Put of codes, where the code is put. -/
namespace Go.Proofs.YtnjlljdbghcobaaGreatDoor
set_option maxRecDepth 100000
open Go.RowKit

/-- The highest bits of a number of n bits, the highest one first. -/
def tops (v n j : Nat) : List Bool := (List.range j).map fun i => v.testBit (n - 1 - i)
theorem tops_length (v n j : Nat) : (tops v n j).length = j := by simp [tops]
theorem tops_succ (v n j : Nat) : tops v n (j + 1) = tops v n j ++ [v.testBit (n - 1 - j)] := by simp [tops, List.range_succ]
theorem tops_all (v n : Nat) : tops v n n = Bs.bitsOf (turned v n) n := by
  unfold tops Bs.bitsOf
  refine List.map_congr_left fun i hi => ?_
  have hi' : i < n := List.mem_range.1 hi
  unfold turned
  rw [Bs.testBit_num, List.getElem?_reverse (by rw [Bs.bitsOf_length]; exact hi'), Bs.bitsOf_length, Bs.bitsOf_get]
  simp; omega

set_option maxHeartbeats 4000000 in
theorem rhput_ok (s : Value) (l : List Bool) (N : Nat) (s2 : Value) (zs : List Int) (sym : Nat) (w : World) (hs : Sl w s (Bs.pack l)) (hz : Zl w s2 zs) (hl : Hid (N = l.length)) (hN : N ≤ 1125899906841900) (hy : sym < zs.length) (hf : Fit zs) (h0 : zs[sym]?.getD 0 ≠ 0) :
    Calls Tryz.prog 20 #[.agg #[s, .int .i64 (N : Int)], s2, .int .i64 (sym : Int)] w (RowOwn w (l ++ cw (nat zs) sym)) := by
  have HS := Lib.hid hs
  obtain ⟨g1, g2, g3⟩ := code_fits hf sym hy h0
  have hgz := hf.valid.get sym hy
  have hln : Hf.ln (nat zs) sym = (nat zs)[sym]?.getD 0 := rfl
  obtain ⟨a2, len2, cap2, rfl, hl2⟩ := hz.shape
  obtain ⟨b2, off2, rfl, hb2, hle2, hc2⟩ := zl_cell hz sym hy
  clear hle2
  rw [hgz, ← hln] at hc2
  have hy2 : sym < len2 := by omega
  have HLN : Hid (∀ w', Below w.heap.size w w' → Calls Tryz.prog 40 #[.slice (some ⟨b2, off2, none⟩) len2 cap2] w' fun e w'' => e = .returned (.bool true) ∧ w' = w'') := fun w' h => by
    have h2 := rare_any zs _ w' (hz.later h)
    rw [decide_eq_true hf.valid] at h2
    exact h2
  have HCC : Hid (∀ w', Below w.heap.size w w' → Calls Tryz.prog 44 #[.slice (some ⟨b2, off2, none⟩) len2 cap2] w' (CodesPost w' (Hf.codes (nat zs)))) := fun w' h => rcodes_ok zs _ w' (hz.later h) hf
  have hcl : sym < (Hf.codes (nat zs)).length := by rw [Hf.codes_length, nat_length]; exact hy
  unfold cw
  generalize Hf.codes (nat zs) = cs at HCC hcl g1 ⊢
  generalize Hf.ln (nat zs) sym = L at hc2 g1 g2 g3 ⊢
  obtain ⟨C, hC⟩ : ∃ C, C = cs[sym]?.getD 0 := ⟨_, rfl⟩
  rw [← hC] at g1 ⊢
  have hC16 : C < 65536 := by
    have : 2 ^ L ≤ 2 ^ 15 := Nat.pow_le_pow_right (by omega) g2
    omega
  rw [← tops_all]
  have H2 := Lib.hid hc2
  have HC := Lib.hid hC
  have HCL := Lib.hid hcl
  clear hs hz hl2 hy hf h0 hc2 hgz hln hcl hC g1
  obtain ⟨a, len, cap, rfl, hl'⟩ := HS.out.shape
  clear hl'
  go_enter Tryz.func20, Tryz.ntmps20
  go_wp2_with fail
  refine (rright_ok _ (Bs.pack l) N _ (HS.out.later (below2 _ _ _)) (by omega) (by rw [hl.out]; exact Bs.pack_right l)).mono ?_
  rintro e w1 ⟨rfl, hb1⟩
  obtain ⟨k1, k2, kb, ks⟩ := facts2 hb1
  clear hb1
  have KB := Lib.hid kb
  have d1 : decide ((sym : Int) < 0) = false := by simp
  have d2 : decide (len2 ≤ sym) = false := by simp; omega
  clear kb
  go_wp2_with (go_at_call 40; refine (HLN.out _ KB.out).mono ?_; rintro e w2 ⟨rfl, rfl⟩)
  refine (HCC.out _ KB.out).mono ?_
  rintro e w2 ⟨v, rfl, hv, hb3⟩
  obtain ⟨g, capg, rfl, hg, hrow⟩ := il_cell hv (by have := HCL.out; omega)
  obtain ⟨ncs, hncs⟩ : ∃ ncs, ncs = cs.length := ⟨_, rfl⟩
  have hsy : sym < ncs := by rw [hncs]; exact HCL.out
  have cc : w2.cell? ⟨g, sym, none⟩ = some (.int .i64 (C : Int)) := by rw [hrow.cell sym HCL.out]; show some (Value.int .i64 ((cs[sym]?.getD 0 : Nat) : Int)) = _; rw [← HC.out]
  have hgl : g < w2.heap.size := hrow.lt
  rw [← hncs]
  have k1' := k1.later hb3
  have k2' := k2.later hb3
  have KB2 := Lib.hid (KB.out.trans (hb3.mono (by omega)))
  have hsz2 := hb3.size
  clear hb3 hv hrow hncs k1 k2
  obtain ⟨e0, e1, f0, f1⟩ := k1'.two
  have cl : w2.cell? ⟨b2, off2 + sym, none⟩ = some (.int .i64 (L : Int)) := by rw [KB2.out.cell (p := ⟨b2, off2 + sym, none⟩) hb2]; exact H2.out
  have hL0 : ((L : Int) == 0) = false := by rw [beq_eq_false_iff_ne]; omega
  have K1 := Lib.hid k1'
  have K2 := Lib.hid k2'
  have CC := Lib.hid cc
  clear k1' k2' cc
  go_wp2_with fail
  refine (copy_is a len cap l N w2 (HS.out.later KB2.out) hl (by omega)).mono ?_
  rintro e w3 ⟨a3, n3, cap3, rfl, hr3, hb3⟩
  have k1' := Lib.hid (K1.out.later hb3)
  have k2' := Lib.hid (K2.out.later hb3)
  have kb' := Lib.hid (KB2.out.trans (hb3.mono (by omega)))
  have CC3 : Hid (w3.cell? ⟨g, sym, none⟩ = some (.int .i64 (C : Int))) := by
    show _ = _
    rw [hb3.cell (p := ⟨g, sym, none⟩) hgl]; exact CC.out
  have hg3 : g < w3.heap.size := by have := hb3.size; omega
  have hsz := hb3.size
  have c3 : w3.cell? ⟨b2, off2 + sym, none⟩ = some (.int .i64 (L : Int)) := by rw [kb'.out.cell (p := ⟨b2, off2 + sym, none⟩) hb2]; exact H2.out
  have R3 := Lib.hid (hr3)
  clear hr3 hb3 e0 e1 f0 f1 cl K1 K2
  have HV0 : Hid (Has (w3.alloc (.cells #[.slice a3 n3 cap3, .int .i64 (N : Int)] 36)) w3.heap.size (rowVar a3 n3 cap3 (N : Int))) := Has.new _ _
  have HR0 : Hid (Row (w3.alloc (.cells #[.slice a3 n3 cap3, .int .i64 (N : Int)] 36)) w2.heap.size (.slice a3 n3 cap3) (l ++ tops C L 0)) := by
    have e : l ++ tops C L 0 = l := by simp [tops]
    show Row _ _ _ _
    rw [e]
    exact World.ownsRow.alloc R3.out _
  have HB0 : Hid (Below w3.heap.size w3 (w3.alloc (.cells #[.slice a3 n3 cap3, .int .i64 (N : Int)] 36))) := (Below.refl _ _).alloc (by omega) _
  have c4 : (w3.alloc (.cells #[.slice a3 n3 cap3, .int .i64 (N : Int)] 36)).cell? ⟨b2, off2 + sym, none⟩ = some (.int .i64 (L : Int)) := by
    rw [HB0.out.cell (p := ⟨b2, off2 + sym, none⟩) (by have := kb'.out.size; show b2 < w3.heap.size; omega)]
    exact c3
  clear c3
  go_wp2_with fail
  go_loopw [11] (fun s11 wr => ∃ (r j M : Nat) (i : Int) (a : Option Addr) (m cap : Nat), r + j = L ∧ i = (r : Int) - 1 ∧ s11 = .int .i64 i ∧ M ≤ N + 16 ∧ Hid (M = N + j) ∧ Hid (Has wr w3.heap.size (rowVar a m cap (M : Int))) ∧ Hid (Row wr w2.heap.size (.slice a m cap) (l ++ tops C L j)) ∧ Hid (Below w2.heap.size w3 wr)) (fun s _ => (intOf s + 1).toNat)
  case atStart => exact ⟨L, 0, N, (L : Int) - 1, a3, n3, cap3, by omega, rfl, by go_num, by omega, rfl, HV0, HR0, HB0.mono (by omega)⟩
  case round =>
    obtain ⟨r, j, M, i, a, m, cap, hrj, hi, rfl, hM2, hM, HV, HR, HB⟩ := hrel
    obtain ⟨c0, c1, f0, f1⟩ := HV.out.two
    by_cases hlt : 0 < r
    · obtain ⟨k, rfl⟩ : ∃ k, r = k + 1 := ⟨r - 1, by omega⟩
      obtain rfl : i = (k : Int) := by omega
      clear hi
      have HM : Hid (M = (l ++ tops C L j).length) := by show _ = _; rw [List.length_append, tops_length, ← hl.out]; exact hM.out
      have HBIT := Lib.hid (bit_int C k)
      have hszr := HV.out.lt
      have cg : wr.cell? ⟨g, sym, none⟩ = some (.int .i64 (C : Int)) := (HB.out.cell (p := ⟨g, sym, none⟩) hgl).trans CC3.out
      have d5 : decide ((0 : Int) ≤ (k : Int)) = true := by simp
      have d6 : decide ((k : Int) < 0) = false := by simp
      have d7 : decide ((k : Int) ≥ 0) = true := by simp
      go_wp2_with fail
      go_region_with (go_at_call 42; refine (with_is a m cap (l ++ tops C L j) (C.testBit k) _ w2.heap.size M _ (World.ownsRow.drew HR.out) (by show w2.heap.size ≤ wr.heap.size; omega) HM (by omega) (by show _ = _; rw [i64_and1]; exact HBIT.out)).mono ?_; rintro e w4 ⟨a', m', cap', rfl, hr4, hg4⟩; have vs := var_step (M + 1) (show Has wr.drew w3.heap.size (rowVar a m cap (M : Int)) from HV.out) (World.ownsRow.drew HR.out) hr4 hg4; have HB4 := Lib.hid (row_grown_below (World.ownsRow.drew HR.out) hg4 HB.out.drew (Nat.le_refl _) (by show w2.heap.size ≤ wr.heap.size; omega)); have vv := vs.1.two; have d0 := vv.1; have d1 := vv.2.1; have d2 := vv.2.2.1; have d3 := vv.2.2.2; have VS := Lib.hid vs; clear vs vv hr4 hg4)
      all_goals
        go_wp2
        refine ⟨⟨k, j + 1, M + 1, (k : Int) - 1, a', m', cap', by omega, rfl, by go_num, by have := hM.out; omega, ?_, VS.out.2.1, ?_, ?_⟩, ?_⟩
        · show _ = _
          have := hM.out
          omega
        · have e : k = L - 1 - j := by omega
          rw [tops_succ, ← e, ← List.append_assoc]
          exact VS.out.2.2
        · exact set2_below HB4.out _ (by omega) _ _
        · simp [intOf]
    · obtain rfl : r = 0 := by omega
      obtain rfl : i = -1 := by omega
      clear hi
      obtain rfl : j = L := by omega
      have k2 := (k2'.out.below HB.out (by omega))
      obtain ⟨e0, e1, g0, g1⟩ := k2.two
      have K2 := Lib.hid k2
      clear k2
      go_wp2
      refine bodyPost_ret (v := .tuple #[.agg #[.slice a m cap, .int .i64 (M : Int)], .int .i64 0]) (by simp [results, Tryz.results20, go_sem, e0, e1]) rfl ⟨a, m, cap, ?_, ?_, ?_⟩
      · rw [List.length_append, tops_length, ← hl.out, hM.out]
      · have hne := HR.out.ne K2.out
        exact Row.weaken (ownsRow_setCell_other (ownsRow_setCell_other HR.out hne _) hne _) (by omega)
      · exact set2_below (kb'.out.trans (HB.out.mono (by omega))) _ (by omega) _ _
end Go.Proofs.YtnjlljdbghcobaaGreatDoor

/- Rows of codes: what stands where in them; the call's own list of symbols. -/
namespace Go.Proofs.YtnjlljdbghcobaaGreatDoor
set_option maxRecDepth 100000
open Go.RowKit

/-- The codes of symbols, one behind the other. -/
def rowOf (ls : List Nat) (ks : List Nat) : List Bool := (ks.map (cw ls)).flatten
theorem rowOf_snoc (ls ks : List Nat) (k : Nat) : rowOf ls (ks ++ [k]) = rowOf ls ks ++ cw ls k := by simp [rowOf]
theorem cw_len (ls : List Nat) (x : Nat) : (cw ls x).length = Hf.ln ls x := by unfold cw; exact Bs.bitsOf_length _ _
theorem rowOf_len_snoc (ls ks : List Nat) (k : Nat) : (rowOf ls (ks ++ [k])).length = (rowOf ls ks).length + Hf.ln ls k := by rw [rowOf_snoc, List.length_append, cw_len]
theorem rowOf_append (ls ks js : List Nat) : rowOf ls (ks ++ js) = rowOf ls ks ++ rowOf ls js := by simp [rowOf]
theorem rowOf_cons (ls ks : List Nat) (k : Nat) : rowOf ls (k :: ks) = cw ls k ++ rowOf ls ks := by simp [rowOf]
theorem rowOf_split (ls ks : List Nat) (j : Nat) (hj : j < ks.length) : rowOf ls ks = rowOf ls (ks.take j) ++ (cw ls ks[j] ++ rowOf ls (ks.drop (j + 1))) := by
  have h : ks.take j ++ (ks[j] :: ks.drop (j + 1)) = ks := by rw [List.getElem_cons_drop, List.take_append_drop]
  rw [← rowOf_cons, ← rowOf_append, h]
theorem rowOf_take (ls ks : List Nat) (j : Nat) (hj : j < ks.length) : (rowOf ls (ks.take (j + 1))).length = (rowOf ls (ks.take j)).length + Hf.ln ls ks[j] := by
  rw [← List.take_append_getElem hj, rowOf_len_snoc]
theorem rowOf_le (ls : List Nat) (ks : List Nat) (h : ∀ k ∈ ks, Hf.ln ls k ≤ 15) : (rowOf ls ks).length ≤ 15 * ks.length := by
  induction ks with
  | nil => simp [rowOf]
  | cons k ks ih =>
    have h1 := ih fun x hx => h x (List.mem_cons_of_mem _ hx)
    have h2 := h k (List.mem_cons_self ..)
    simp only [rowOf, List.map_cons, List.flatten_cons, List.length_append, cw_len, List.length_cons] at h1 ⊢
    omega

theorem testBit_two (v d : Nat) : 2 * (v / 2 ^ (d + 1)) + (v.testBit d).toNat = v / 2 ^ d := by
  rw [Nat.testBit_eq_decide_div_mod_eq, Nat.pow_succ, ← Nat.div_div_eq_div_mul]
  generalize v / 2 ^ d = q
  by_cases h : q % 2 = 1
  · rw [decide_eq_true h]; show 2 * (q / 2) + 1 = q; omega
  · rw [decide_eq_false h]; show 2 * (q / 2) + 0 = q; omega

/-- The bits of a code, the highest one first, are its number. -/
theorem vb_code (l : List Bool) (p n v : Nat) (hv : v < 2 ^ n) (h : ∀ i, i < n → l[p + i]?.getD false = v.testBit (n - 1 - i)) : Hf.vb l p n = v := by
  have key : ∀ m, m ≤ n → Hf.vb l p m = v / 2 ^ (n - m) := by
    intro m
    induction m with
    | zero => intro _; rw [Nat.sub_zero, Nat.div_eq_of_lt hv]; rfl
    | succ m ih =>
      intro hm
      show 2 * Hf.vb l p m + (l[p + m]?.getD false).toNat = _
      rw [ih (by omega), h m (by omega), show n - m = (n - 1 - m) + 1 by omega, testBit_two, show n - (m + 1) = n - 1 - m by omega]
  rw [key n (Nat.le_refl _)]
  simp

theorem cw_get (ls : List Nat) (x i : Nat) (hi : i < Hf.ln ls x) : (cw ls x)[i]?.getD false = ((Hf.codes ls)[x]?.getD 0).testBit (Hf.ln ls x - 1 - i) := by
  unfold cw
  rw [← tops_all]
  unfold tops
  simp [hi]

/-- A code stands where it was put. -/
theorem code_hit {zs : List Int} (hf : Fit zs) (l pre post : List Bool) (x : Nat) (h1 : x < zs.length) (h2 : zs[x]?.getD 0 ≠ 0) (hl : l = pre ++ (cw (nat zs) x ++ post)) :
    ∃ kk, Hf.sy (nat zs) kk = x ∧ Hf.Hit (nat zs) l pre.length (Hf.ln (nat zs) x) kk ∧ 0 < Hf.ln (nat zs) x ∧ pre.length + Hf.ln (nat zs) x ≤ l.length := by
  have hc := code_fits hf x h1 h2
  have hg := cw_get (nat zs) x
  have hlen := cw_len (nat zs) x
  obtain ⟨kk, hkk, e⟩ := Hf.sy_of (nat zs) x (by rw [nat_length]; exact h1) hc.2.2 hc.2.1
  have hcd := Hf.codes_get (nat zs) kk hkk
  rw [e] at hcd
  refine ⟨kk, e, ⟨hkk, by rw [e], ?_⟩, hc.2.2, ?_⟩
  · have h3 := hc.1
    rw [hcd] at h3 hg
    refine (vb_code l _ _ _ h3 fun i hi => ?_).symm
    rw [hl, List.getElem?_append_right (Nat.le_add_right _ _), Nat.add_sub_cancel_left, List.getElem?_append_left (by rw [hlen]; exact hi)]
    exact hg i hi
  · rw [hl, List.length_append, List.length_append, hlen]
    omega

/-- Symbols as cells. -/
def vi (xs : List Nat) : List Value := xs.map fun (x : Nat) => Value.int .i64 (x : Int)
theorem vi_length (xs : List Nat) : (vi xs).length = xs.length := by simp [vi]

theorem ints_append {w : World} {base n : Nat} {v : Value} {xs : List Nat} (hown : w.ownsRow base 3 1 v n (vi xs)) (ty : TypeId) (x : Nat) (h1 : n + 1 ≤ 1000) (hb : base ≤ w.heap.size) :
    ∃ v' w', (Builtin.append_ #[33, 33] ty #[v, .slice (some ⟨w.heap.size, 0, none⟩) 1 1]).run Tryz.prog (w.alloc (.cells #[.int .i64 (x : Int)] 3)) = .ok v' w' ∧ w'.ownsRow base 3 1 v' (n + 1) (vi (xs ++ [x])) ∧ (w.alloc (.cells #[.int .i64 (x : Int)] 3)).grownBy w' v.ownBlock := by
  obtain ⟨i0, hi, hz0, hz1, hz2⟩ := info_parts Tryz.infoInt
  obtain ⟨v', w', h1, h2, h3, _⟩ := run_append_own (P := Tryz.prog) (w := w.alloc (.cells #[.int .i64 (x : Int)] 3)) base 33 ty 3 i0 (.int .i64 0) 1 8 Tryz.underlying33 hi hz0 hz1 hz2 rfl (by decide) v n (vi xs) (hown.alloc _) ⟨w.heap.size, 0, none⟩ 1 1 [.int .i64 (x : Int)] rfl (cell_one_new _ _ _) (by simp [Value.oneCell']) (by unfold maxLen; omega) (by omega) (by simp; omega)
  refine ⟨v', w', h1, ?_, h3⟩
  have e : vi (xs ++ [x]) = vi xs ++ [.int .i64 (x : Int)] := by simp [vi]
  rw [e]
  exact h2

theorem own_ne_int {w : World} {base n b : Nat} {v : Value} {xs : List Value} {cs : Array Value} {fr : Nat × Nat} {t : TypeId} (h : w.ownsRow base 3 1 v n xs) (hb : Has w b (.cells cs t fr)) (ht : t ≠ 3) : v.ownBlock ≠ some b := by
  rcases h.2 with ⟨rfl, _⟩ | ⟨g, cap, cur, rfl, _, hg, _⟩
  · simp [Value.ownBlock]
  · intro e
    simp only [Value.ownBlock, Option.some.injEq] at e
    subst e
    have hb' : w.heap[g]? = some (.cells cs t fr) := hb
    rw [hg] at hb'
    simp only [Option.some.injEq, Obj.cells.injEq] at hb'
    exact ht hb'.2.1.symm

theorem own_stays {w w' : World} {base : Nat} {e : TypeId} {size : Nat} {v : Value} {n : Nat} {xs : List Value} (h : w.ownsRow base e size v n xs) (hb : Below w.heap.size w w') : w'.ownsRow base e size v n xs := by
  obtain ⟨h1, h2⟩ := h
  refine ⟨h1, ?_⟩
  rcases h2 with h | ⟨g, c, cur, h, hbg, hg, r⟩
  · exact Or.inl h
  · exact Or.inr ⟨g, c, cur, h, hbg, (hb.block g (lt_of_block hg)).trans hg, r⟩

theorem own_slice {w : World} {base : Nat} {e : TypeId} {size : Nat} {v : Value} {n : Nat} {xs : List Value} (h : w.ownsRow base e size v n xs) : ∃ a cap, v = .slice a n cap := by
  rcases h.2 with ⟨rfl, rfl⟩ | ⟨g, cap, cur, rfl, _⟩
  · exact ⟨_, _, rfl⟩
  · exact ⟨_, _, rfl⟩

theorem own_at {w : World} {base : Nat} {e : TypeId} {v : Value} {n : Nat} {xs : List Value} (h : w.ownsRow base e 1 v n xs) (hn : 0 < n) : ∃ g cap, v = .slice (some ⟨g, 0, none⟩) n cap ∧ g < w.heap.size := by
  rcases h.2 with ⟨_, h0⟩ | ⟨g, cap, cur, hv, _, hg, _⟩
  · omega
  · exact ⟨g, cap, hv, lt_of_block hg⟩

/-- A row of bits in memory of its own, or none yet. -/
def RowMem (w : World) (s : Value) (l : List Bool) : Prop := (s = .slice none 0 0 ∧ l = []) ∨ ∃ g, s = .slice (some ⟨g, 0, none⟩) ((l.length + 7) / 8) ((l.length + 7) / 8) ∧ Has w g (bytesObj (Bs.pack l))
theorem RowMem.sl {w : World} {s : Value} {l : List Bool} (h : RowMem w s l) (hl : l.length ≤ 100000) : Sl w s (Bs.pack l) := by
  rcases h with ⟨rfl, rfl⟩ | ⟨g, rfl, h⟩
  · exact Sl.nil _
  · exact Sl.has h (Bs.pack_lt l) (by rw [Bs.pack_length]; omega) _ _ (Bs.pack_length l).symm
theorem RowMem.later {w w' : World} {s : Value} {l : List Bool} (h : RowMem w s l) (hb : Below w.heap.size w w') : RowMem w' s l := h.imp id fun ⟨g, e, h⟩ => ⟨g, e, h.later hb⟩
theorem RowMem.shape {w : World} {s : Value} {l : List Bool} (h : RowMem w s l) : ∃ a m cap, s = .slice a m cap := by
  rcases h with ⟨rfl, _⟩ | ⟨g, rfl, _⟩ <;> exact ⟨_, _, _, rfl⟩
/-- An index from any integer. -/
theorem mod_ix (i : Int) (len : Nat) (h0 : 0 < len) (h9 : len ≤ 17592186044416) : ∃ p : Nat, p < len ∧ (IntKind.u64.wrap i).tmod (len : Int) = (p : Int) ∧ wrap64 (p : Int) = (p : Int) := by
  have h := IntKind.wrap_u64 i
  have hn : 0 ≤ IntKind.u64.wrap i := by rw [h]; omega
  obtain ⟨m, hm⟩ := Int.eq_ofNat_of_zero_le hn
  refine ⟨m % len, Nat.mod_lt _ h0, ?_, ?_⟩
  · rw [hm, ← Int.ofNat_tmod]
  · have := Nat.mod_lt m h0
    have h2 : ((m % len : Nat) : Int) < (len : Int) := by omega
    have h3 : (0 : Int) ≤ ((m % len : Nat) : Int) := by omega
    exact IntWalk.wrap64_in _ (by omega)

/-- What Read tells where a code stands. -/
theorem read_code (T g capg : Nat) (ls : List Nat) (hg : Good ls) (s : Value) (l : List Bool) (N p n k : Nat) (w : World) (hT : Tb w T g capg ls) (hs : Sl w s (Bs.pack l)) (hl : Hid (N = l.length)) (hN : N ≤ 2251799813685248) (hk : Hf.Hit ls l p n k) (hn : 0 < n) (hp : p + n ≤ N) :
    Calls Tryz.prog 212 #[.pointer (some ⟨T, 0, none⟩), .agg #[s, .int .i64 (N : Int)], .int .i64 (p : Int)] w fun e w' => e = .returned (.tuple #[.int .i64 (Hf.sy ls k : Int), .int .i64 ((p + n : Nat) : Int), .int .i64 0]) ∧ Below w.heap.size w w' := by
  have hpN : p ≤ N := by omega
  have h3 := Hf.rd_hit hk hn (by rw [← hl.out]; exact hp)
  refine Calls.mono (read_ok T g capg ls hg s l N p w hT hs hl hN hpN) ?_
  clear hT hs hg hk hN
  rintro e w' ⟨r, he, hr, hb⟩
  have h := Hf.rd_one hr h3
  rw [h] at he
  refine ⟨?_, hb⟩
  clear hr h3 h hb
  simp only at he
  exact he
end Go.Proofs.YtnjlljdbghcobaaGreatDoor
