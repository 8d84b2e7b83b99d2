/- Contract of what the statements themselves call: the document's examples. -/
import Derived.Test.YtedbonnejgpjeaaLlaw
namespace Go.Proofs.Ytedbonnejgpjeaa
open Go.RowKit

theorem zl_ex {w : World} {b n : Nat} {t : TypeId} {cs : Array Value} (zs : List Int) (h : Has w b (.cells cs t (0, 0))) (hc : cs = (zs.map (Value.int .i64)).toArray) (hn : n = zs.length) (h2 : n ≤ 1000) : Zl w (.slice (some ⟨b, 0, none⟩) n n) zs := zl_lit h hc hn (by omega)
theorem has2 (w : World) (o1 o2 : Obj) : Has ((w.alloc o1).alloc o2) (w.heap.size + 1) o2 := (facts2 (Below.refl _ ((w.alloc o1).alloc o2))).2.1

set_option maxRecDepth 100000 in
set_option maxHeartbeats 4000000 in
theorem lives_any (w : World) : Calls Try.prog 11 #[] w fun e w' => e = .returned (.bool true) ∧ Below w.heap.size w w' := by
  have L1 := fun (w : World) (s : Value) (h : Zl w s [1, 1, 2, 4]) => lengths_all [1, 1, 2, 4] s 15 w h
  have L2 := fun (w : World) (s : Value) (h : Zl w s [1, 1, 2, 4]) => lengths_all [1, 1, 2, 4] s 2 w h
  have L3 := fun (w : World) (s : Value) (h : Zl w s [1, 1, 1]) => lengths_all [1, 1, 1] s 1 w h
  have L4 := fun (w : World) (s1 s2 : Value) (h1 : Zl w s1 [1, 1, 2, 4]) (h2 : Zl w s2 [3, 3, 2, 1]) => cost_ok [1, 1, 2, 4] [3, 3, 2, 1] s1 s2 w h1 h2 ex4
  rw [ex1, ex1e] at L1
  rw [ex2, ex2e] at L2
  rw [ex3, ex3e] at L3
  rw [show ([1, 1, 2, 4] : List Int).length = 4 from rfl, ex4c] at L4
  have H1 := Lib.hid L1
  have H2 := Lib.hid L2
  have H3 := Lib.hid L3
  have H4 := Lib.hid L4
  clear L1 L2 L3 L4
  go_enter Try.func11, Try.ntmps11
  go_wp2_with fail
  refine (H1.out _ _ (zl_ex (n := 4) _ (Has.new w _) rfl rfl (by omega))).mono ?_
  rintro e w1 ⟨a1, c1, rfl, hz1, hb1⟩
  have hz1' : Zl w1 (.slice a1 4 c1) [3, 3, 2, 1] := hz1
  have hb1' : Below w.heap.size w w1 := (below1 w _).trans (hb1.mono (by simp))
  have Z1 := Lib.hid hz1'
  have B1 := Lib.hid hb1'
  clear hz1 hb1 hz1' hb1' H1
  go_wp2_with fail
  refine (H2.out _ _ (zl_ex (n := 4) _ (Has.new w1 _) rfl rfl (by omega))).mono ?_
  rintro e w2 ⟨a2, c2, rfl, hz2, hb2⟩
  have hz2' : Zl w2 (.slice a2 4 c2) [2, 2, 2, 2] := hz2
  have hb2' : Below w1.heap.size w1 w2 := (below1 w1 _).trans (hb2.mono (by simp))
  have Z2 := Lib.hid hz2'
  have Y2 := Lib.hid (Z1.out.later hb2')
  have B2 := Lib.hid (B1.out.trans (hb2'.mono B1.out.size))
  clear hz2 hb2 hz2' hb2' H2 Z1 B1
  go_wp2_with fail
  refine (H3.out _ _ (zl_ex (n := 3) _ (Has.new w2 _) rfl rfl (by omega))).mono ?_
  rintro e w3 ⟨a3, c3, rfl, hz3, hb3⟩
  have hb3' : Below w2.heap.size w2 w3 := (below1 w2 _).trans (hb3.mono (by simp))
  have Z3 := Lib.hid (Z2.out.later hb3')
  have Y3 := Lib.hid (Y2.out.later hb3')
  have B3 := Lib.hid (B2.out.trans (hb3'.mono B2.out.size))
  clear hz3 hb3 hb3' H3 Z2 Y2 B2
  go_wp2_with fail
  refine (H4.out _ _ _ (zl_ex (n := 4) _ ((Has.new w3 _).alloc _) rfl rfl (by omega)) (zl_ex (n := 4) _ (has2 w3 _ _) rfl rfl (by omega))).mono ?_
  rintro e w4 ⟨rfl, hb4⟩
  have hb4' : Below w3.heap.size w3 w4 := (below2 w3 _ _).trans (hb4.mono (by simp; omega))
  have Z4 := Lib.hid (Z3.out.later hb4')
  have Y4 := Lib.hid (Y3.out.later hb4')
  have B4 := Lib.hid (B3.out.trans (hb4'.mono B3.out.size))
  clear hb4 hb4' H4 Z3 Y3 B3
  go_wp2_with fail
  refine (same_to _ _ 4 4 _ _ [3, 3, 2, 1] _ rfl rfl (by omega) (sm_zl (Y4.out.later (below1 w4 _))) (sm_zl (zl_ex (n := 4) _ (Has.new w4 _) rfl rfl (by omega)))).mono ?_
  rintro e w5 ⟨rfl, hb5⟩
  have hb5' : Below w4.heap.size w4 w5 := (below1 w4 _).trans (hb5.mono (by simp))
  have Z5 := Lib.hid (Z4.out.later hb5')
  have B5 := Lib.hid (B4.out.trans (hb5'.mono B4.out.size))
  clear hb5 hb5' Z4 Y4 B4
  go_wp2_with fail
  refine (same_to _ _ 4 4 _ _ [2, 2, 2, 2] _ rfl rfl (by omega) (sm_zl (Z5.out.later (below1 w5 _))) (sm_zl (zl_ex (n := 4) _ (Has.new w5 _) rfl rfl (by omega)))).mono ?_
  rintro e w6 ⟨rfl, hb6⟩
  have B6 := Lib.hid (B5.out.trans (((below1 w5 _).trans (hb6.mono (by simp))).mono B5.out.size))
  clear hb6 Z5 B5
  go_wp2
  go_ret
  exact ⟨rfl, B6.out⟩

/-- append([]int{}, freq...): its run. -/
theorem run_copy (zs : List Int) (a : Option Addr) (len cap : Nat) (w : World) (hz : Zl w (.slice a len cap) zs) (hl : zs.length ≤ 17592186043904) :
    ∃ g capn w', (Builtin.append_ #[22, 22] 22 #[.slice (some ⟨w.heap.size, 0, none⟩) 0 0, .slice a len cap]).run Try.prog (w.alloc (.cells #[] 3)) = .ok (.slice (some ⟨g, 0, none⟩) len capn) w' ∧ Zl w' (.slice (some ⟨g, 0, none⟩) len capn) zs ∧ Below w.heap.size w w' := by
  obtain ⟨a', len', cap', e, h1, h2, h3, h4⟩ := hz
  cases e
  obtain ⟨i0, hi, hz0, hz1, hz2⟩ := info_parts Try.infoInt
  have hb := below1 w (.cells #[] 3)
  have hown := World.ownsRow_lit (base := w.heap.size) (e := 3) (size := 1) w #[] 0 (Nat.le_refl _) (by unfold maxLen; omega) rfl
  obtain ⟨g, capn, w', hrun, hown', hgrow⟩ := run_append_mine (P := Try.prog) (w := w.alloc (.cells #[] 3)) w.heap.size 22 22 3 i0 (.int .i64 0) 1 8 Try.underlying22 hi hz0 hz1 hz2 rfl (by decide)
    w.heap.size 0 0 [] hown a len cap (zs.map (Value.int .i64)) (by rw [List.length_map]; omega) h3
    (fun h0 => by
      obtain ⟨b, off, rfl, hlt, hc⟩ := h4 h0
      refine ⟨_, rfl, fun j u hj => ?_⟩
      have e : (⟨b, off, none⟩ : Addr).add j = ⟨b, off + j, none⟩ := by cases j <;> simp [Addr.add]
      have hjl : j < zs.length := by
        have := (List.getElem?_eq_some_iff.1 hj).1
        rwa [List.length_map] at this
      rw [e, hb.cell (p := ⟨b, off + j, none⟩) hlt, hc j (by omega)]
      rw [List.getElem?_map, List.getElem?_eq_getElem hjl] at hj
      rw [List.getElem?_eq_getElem hjl]
      simpa using hj)
    (fun u hu => by simp only [List.mem_map] at hu; obtain ⟨x, _, rfl⟩ := hu; rfl) (by unfold maxLen; omega) (by omega) (by simp)
  have e0 : 0 + len = len := by omega
  rw [e0, List.nil_append] at hown'
  rw [e0] at hrun
  refine ⟨g, capn, w', hrun, ⟨_, len, capn, rfl, h1, h2, (fun h => by simp at h), fun h0 => ⟨g, 0, rfl, ?_, fun i hi => ?_⟩⟩, (hb.mono (Nat.le_refl _)).grown hgrow (by simp) (fun k e => by cases e; exact Nat.le_refl _)⟩
  · have := hown'.cellAt 0 (by omega)
    rw [List.getElem?_eq_getElem (by rw [List.length_map]; omega)] at this
    exact World.block_lt_of_cell? w' _ this
  · rw [Nat.zero_add, hown'.cellAt i (by omega)]
    have : i < zs.length := by omega
    simp [this]
end Go.Proofs.Ytedbonnejgpjeaa
