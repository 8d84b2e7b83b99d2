/- Contract of what the statements themselves call: the document's examples. -/
import Derived.Test.YtgffcffmhhdceaaHsm
namespace Go.Proofs.Ytgffcffmhhdceaa
open Go.RowKit

def ExPut (w : World) (e : Ending) (w' : World) : Prop := ∃ g : Nat, e = .returned (.tuple #[.agg #[.slice (some ⟨g, 0, none⟩) 1 1, .int .i64 3], .int .i64 0]) ∧ w.heap.size ≤ g ∧ Has w' g (bytesObj [3]) ∧ Below w.heap.size w w'
theorem ex_put (w : World) (s2 : Value) (hz : Zl w s2 [2, 1, 3, 3]) : Calls Try.prog 18 #[.agg #[.slice none 0 0, .int .i64 0], s2, .int .i64 2] w (ExPut w) := by
  have h := hput_ok (.slice none 0 0) [] 0 s2 [2, 1, 3, 3] 2 w (Sl.nil w) hz rfl (by omega) (by decide) ex_fit (by decide)
  rw [ex_cw] at h
  refine h.mono ?_
  rintro e w' ⟨g, m, rfl, hm, hg, hh, hb⟩
  have hm1 : m = 1 := hm
  subst hm1
  have e3 : Bs.pack ([] ++ [true, true, false]) = [3] := by decide
  rw [e3] at hh
  exact ⟨g, rfl, hg, hh, hb⟩
theorem ex_read1 (T g capg : Nat) (s : Value) (w : World) (hT : Tb w T g capg (nat [0, 1])) (hs : Sl w s [1]) :
    Calls Try.prog 23 #[.pointer (some ⟨T, 0, none⟩), .agg #[s, .int .i64 1], .int .i64 0] w fun e w' => e = .returned (.tuple #[.int .i64 0, .int .i64 0, .int .i64 13]) ∧ Below w.heap.size w w' := by
  refine (read_ok T g capg (nat [0, 1]) (good_of ex_new) s [true] 1 0 w hT hs rfl (by omega) (by omega)).mono ?_
  rintro e w' ⟨r, rfl, hr, hb⟩
  rw [ex_one r hr]
  exact ⟨rfl, hb⟩
theorem ex_read0 (T g capg : Nat) (s : Value) (w : World) (hT : Tb w T g capg (nat [0, 1])) (hs : Sl w s [0]) :
    Calls Try.prog 23 #[.pointer (some ⟨T, 0, none⟩), .agg #[s, .int .i64 1], .int .i64 0] w fun e w' => e = .returned (.tuple #[.int .i64 1, .int .i64 1, .int .i64 0]) ∧ Below w.heap.size w w' := by
  refine (read_ok T g capg (nat [0, 1]) (good_of ex_new) s [false] 1 0 w hT hs rfl (by omega) (by omega)).mono ?_
  rintro e w' ⟨r, rfl, hr, hb⟩
  rw [ex_zero r hr]
  exact ⟨rfl, hb⟩

theorem has_snd (w : World) (o1 o2 : Obj) : Has ((w.alloc o1).alloc o2) (w.heap.size + 1) o2 := (facts2 (Below.refl _ ((w.alloc o1).alloc o2))).2.1
theorem ex_cells {w : World} {g : Nat} (h : Rw w g 4 (fun i => [2, 0, 6, 7][i]?.getD 0)) : ∀ i, i < 4 → w.cell? ⟨g, 0 + i, none⟩ = some (.int .i64 (([2, 0, 6, 7] : List Int)[i]?.getD 0)) := by
  intro i hi
  rw [Nat.zero_add, h.cell i hi]
  have : i = 0 ∨ i = 1 ∨ i = 2 ∨ i = 3 := by omega
  rcases this with rfl | rfl | rfl | rfl <;> rfl
theorem ex_lit {w : World} {b : Nat} (h : Has w b (.cells #[.int .i64 2, .int .i64 0, .int .i64 6, .int .i64 7] 3 (0, 0))) : ∀ i, i < 4 → w.cell? ⟨b, 0 + i, none⟩ = some (.int .i64 (([2, 0, 6, 7] : List Int)[i]?.getD 0)) := by
  intro i hi
  rw [Nat.zero_add, h.cell]
  have : i = 0 ∨ i = 1 ∨ i = 2 ∨ i = 3 := by omega
  rcases this with rfl | rfl | rfl | rfl <;> rfl

set_option maxRecDepth 100000 in
set_option maxHeartbeats 4000000 in
theorem lives_any (w : World) : Calls Try.prog 16 #[] w fun e w' => e = .returned (.bool true) ∧ Below w.heap.size w w' := by
  go_enter Try.func16, Try.ntmps16
  go_wp2_with fail
  refine (codes_ok [2, 1, 3, 3] _ _ (zl_lit (n := 4) (Has.new w _) rfl rfl (by omega)) ex_fit).mono ?_
  rintro e w1 ⟨v, rfl, hv, hb1⟩
  rw [ex_codes] at hv
  obtain ⟨g1, cap1, rfl, _, hr1⟩ := il_cell hv (by decide)
  have B1 : Hid (Below w.heap.size w w1) := (below1 w _).trans (hb1.mono (by simp))
  have R1 : Hid (Rw w1 g1 4 (fun i => [2, 0, 6, 7][i]?.getD 0)) := hr1
  clear hv hr1 hb1
  go_wp2_with fail
  refine (ex_put _ _ (zl_lit (n := 4) (Has.new w1 _) rfl rfl (by omega))).mono ?_
  rintro e w2 ⟨g2, rfl, hg2, hh2, hb2⟩
  have hb2' : Below w1.heap.size w1 w2 := (below1 w1 _).trans (hb2.mono (by simp))
  have B2 : Hid (Below w.heap.size w w2) := B1.out.trans (hb2'.mono B1.out.size)
  have R2 : Hid (Rw w2 g1 4 (fun i => [2, 0, 6, 7][i]?.getD 0)) := rw_below R1.out R1.out.lt hb2'
  have H2 := Lib.hid hh2
  clear hb2 hb2' hh2 R1 hg2
  clear B1
  go_wp2_with fail
  refine (new_ok [0, 1] _ _ (zl_lit (n := 2) (has_snd w2 _ _) rfl rfl (by omega)) ex_new).mono ?_
  rintro e w3 ⟨T, rfl, ht, hb3⟩
  obtain ⟨k1, _, kb, _⟩ := facts2 hb3
  obtain ⟨g, capg, _, htb⟩ := tb_of ht (good_of ex_new)
  have B3 : Hid (Below w.heap.size w w3) := B2.out.trans (kb.mono B2.out.size)
  have R3 : Hid (Rw w3 g1 4 (fun i => [2, 0, 6, 7][i]?.getD 0)) := rw_below R2.out R2.out.lt kb
  have H3 := Lib.hid (H2.out.later kb)
  have K3 := Lib.hid k1
  have T3 := Lib.hid htb
  clear hb3 k1 kb ht htb B2 R2 H2
  go_wp2_with fail
  refine (ex_read1 T g capg _ _ (T3.out.below (below1 _ _)) (Sl.has (bs := [1]) (Has.new w3 _) (by decide) (by decide) 1 1 rfl)).mono ?_
  rintro e w4 ⟨rfl, hb⟩
  have hb4 : Below w3.heap.size w3 w4 := (below1 w3 _).trans (hb.mono (by simp))
  have B4 : Hid (Below w.heap.size w w4) := B3.out.trans (hb4.mono B3.out.size)
  have R4 : Hid (Rw w4 g1 4 (fun i => [2, 0, 6, 7][i]?.getD 0)) := rw_below R3.out R3.out.lt hb4
  have H4 := Lib.hid (H3.out.later hb4)
  have K4 := Lib.hid (K3.out.later hb4)
  have T4 := Lib.hid (T3.out.below hb4)
  clear hb hb4 B3 R3 H3 K3 T3
  go_wp2_with fail
  refine (ex_read0 T g capg _ _ (T4.out.below (below1 _ _)) (Sl.has (bs := [0]) (Has.new w4 _) (by decide) (by decide) 1 1 rfl)).mono ?_
  rintro e w5 ⟨rfl, hb⟩
  have hb5 : Below w4.heap.size w4 w5 := (below1 w4 _).trans (hb.mono (by simp))
  have B5 : Hid (Below w.heap.size w w5) := B4.out.trans (hb5.mono B4.out.size)
  have R5 : Hid (Rw w5 g1 4 (fun i => [2, 0, 6, 7][i]?.getD 0)) := rw_below R4.out R4.out.lt hb5
  have H5 := Lib.hid (H4.out.later hb5)
  have K5 := Lib.hid (K4.out.later hb5)
  clear hb hb5 B4 R4 H4 K4 T4
  go_wp2_with fail
  refine (rsame_any _ _ 4 _ _ [2, 0, 6, 7] _ rfl (by omega) (fun _ => ⟨g1, 0, rfl, ex_cells (rw_below R5.out R5.out.lt (below1 w5 _))⟩) (fun _ => ⟨w5.heap.size, 0, rfl, ex_lit (Has.new w5 _)⟩)).mono ?_
  rintro e w6 ⟨rfl, hb⟩
  have hb6 : Below w5.heap.size w5 w6 := (below1 w5 _).trans (hb.mono (by simp))
  have B6 : Hid (Below w.heap.size w w6) := B5.out.trans (hb6.mono B5.out.size)
  have H6 := Lib.hid (H5.out.later hb6)
  have K6 := K5.out.later hb6
  obtain ⟨c0, c1, _, _⟩ := K6.two
  clear hb hb6 B5 R5 H5 K5 K6
  go_wp2_with fail
  refine (same_is _ _ 3 3 [3] _ (Sl.has (H6.out.later (below1 _ _)) (by decide) (by decide) 1 1 rfl) (Sl.has (bs := [3]) (Has.new w6 _) (by decide) (by decide) 1 1 rfl) rfl).mono ?_
  rintro e w7 ⟨rfl, hb⟩
  have B7 : Hid (Below w.heap.size w w7) := B6.out.trans (((below1 w6 _).trans (hb.mono (by simp))).mono B6.out.size)
  clear hb B6 H6 c0 c1
  go_wp2_with fail
  refine (check_any [1, 1, 1] _ _ (zl_lit (n := 3) (Has.new w7 _) rfl rfl (by omega))).mono ?_
  rintro e w8 ⟨rfl, hb⟩
  rw [ex_over]
  have B8 : Hid (Below w.heap.size w w8) := B7.out.trans (((below1 w7 _).trans (hb.mono (by simp))).mono B7.out.size)
  clear hb B7
  go_wp2
  go_ret
  exact ⟨rfl, B8.out⟩
end Go.Proofs.Ytgffcffmhhdceaa
