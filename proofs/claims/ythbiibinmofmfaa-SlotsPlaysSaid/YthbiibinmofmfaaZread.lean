/- Contract of slots' header.read: what a header says, if it says it as it should. -/
import Derived.Test.YthbiibinmofmfaaZhead
import Derived.Test.YthbiibinmofmfaaElive
import Derived.Deep.RegionHeld3

namespace Go.Proofs.Ythbiibinmofmfaa
set_option maxRecDepth 100000
open Go.RowKit

theorem Sk.four (h : List Nat) (i : Nat) (hi : i + 4 ≤ h.length) : (h.drop i).take 4 = [h[i]?.getD 0, h[i + 1]?.getD 0, h[i + 2]?.getD 0, h[i + 3]?.getD 0] := by
  apply List.ext_getElem
  · rw [List.length_take, List.length_drop, List.length_cons, List.length_cons, List.length_cons, List.length_cons, List.length_nil]; omega
  · intro k h1 h2
    rw [List.getElem_take, List.getElem_drop]
    rcases k with _ | _ | _ | _ | k
    · simp [List.getElem?_eq_getElem (show i < h.length by omega)]
    · simp [List.getElem?_eq_getElem (show i + 1 < h.length by omega)]
    · simp [List.getElem?_eq_getElem (show i + 2 < h.length by omega)]
    · simp [List.getElem?_eq_getElem (show i + 3 < h.length by omega)]
    · simp at h2; omega
theorem get4_head {h : List Nat} (hr : Row h) (g : Nat) (t : TypeId) (i : Nat) (hi : i + 4 ≤ 512) (q : Nat) (hq : Hid (q = Sk.num4 h i)) (w : World) (hs : Has w g (.cells (vb h).toArray t (0, 0))) :
    Calls Try.prog 66 #[.slice (some ⟨g, 0, none⟩) 512 512, .int .i64 (i : Int)] w fun e w' => e = .returned (.tuple #[.int .i64 (q : Int), .int .i64 0]) ∧ Below w.heap.size w w' := by
  rw [hq.out]
  exact get4_ok (some ⟨g, 0, none⟩) 512 512 h i _ _ _ _ hi (Nat.le_refl _) (Sk.four h i (by rw [hr.1]; exact hi)) w (has_sl hs hr.2 (by rw [hr.1]; decide) 512 512 hr.1.symm)
theorem run_header_eq (w : World) (r s : List Nat) (hr : r.length = 512) (hs : s.length = 512) : (binOp .eql 100 (.agg (vb r).toArray) (.agg (vb s).toArray)).run Try.prog w = .ok (.bool (decide (r = s))) w := by
  rw [run_eql_struct, run_eq_array w _ 512 Try.underlying100 9998 r s hr hs]
  simp only [Result.andThen_ok]
theorem exec_header_eq {o : Oper} {a : Act} {W : World} (x y : Operand) (ho : o.op = .binOp .eql 100 x y 100) (r s : List Nat) (hx : a.eval x = .agg (vb r).toArray) (hy : a.eval y = .agg (vb s).toArray) (hr : r.length = 512) (hs : s.length = 512) :
    (execOp a.eval o).run Try.prog W = .ok (.value (.bool (decide (r = s)))) W := by
  unfold execOp
  have hg : (eqGuard .eql 100 x y (.agg (vb r).toArray) (.agg (vb s).toArray)).run Try.prog W = .ok () W := run_eqGuard_agg _ _ _ _ _ _ _ Try.eqGuardType100
  simp only [ho, hx, hy, Sem.run_bind, hg, run_header_eq W r s hr hs, Result.andThen_ok, Sem.run_pure]
theorem Try.infoState : (Try.prog.info? 67).map (fun i => (i.zero, i.size, i.bytes)) = some (some (.agg #[.int .i64 0, .int .i64 0, .int .i64 0, .int .i64 0]), 4, 32) := by kernel_rfl

/-- What holds all through the last statement of read. -/
def RdS (w : World) (c : Nat) (h : List Nat) (g sl sz sm : Nat) (wx : World) : Prop :=
  Has wx w.heap.size (.cells (vb h).toArray 100 (0, 0)) ∧ Has wx c (.cells #[.int .i64 (g : Int), .int .i64 (sl : Int), .int .i64 (sz : Int), .int .i64 (sm : Int)] 67 (0, 0)) ∧ Below w.heap.size w wx ∧ (∃ x0 x1 x2 x3 : Value, Has wx (w.heap.size + 1) (.cells #[x0, x1, x2, x3] 67 (0, 0))) ∧ c < wx.heap.size
theorem RdS.later {w wx wy : World} {c : Nat} {h : List Nat} {g sl sz sm : Nat} (q : RdS w c h g sl sz sm wx) (hb9 : Below wx.heap.size wx wy) : RdS w c h g sl sz sm wy := by
  obtain ⟨r1, r2, r3, ⟨x0, x1, x2, x3, r4⟩, r5⟩ := q
  exact ⟨r1.later hb9, r2.later hb9, r3.trans (hb9.mono r3.size), ⟨x0, x1, x2, x3, r4.later hb9⟩, Nat.lt_of_lt_of_le r5 hb9.size⟩
theorem four_set {w : World} {b : Nat} {x0 x1 x2 x3 : Value} {t : TypeId} (h : Has w b (.cells #[x0, x1, x2, x3] t (0, 0))) (y0 y1 y2 y3 : Value) :
    Has ((((w.setCell ⟨b, 0, none⟩ y0).setCell ⟨b, 1, none⟩ y1).setCell ⟨b, 2, none⟩ y2).setCell ⟨b, 3, none⟩ y3) b (.cells #[y0, y1, y2, y3] t (0, 0)) ∧ Only b w ((((w.setCell ⟨b, 0, none⟩ y0).setCell ⟨b, 1, none⟩ y1).setCell ⟨b, 2, none⟩ y2).setCell ⟨b, 3, none⟩ y3) :=
  ⟨(((h.setSelf (i := 0) y0).setSelf (i := 1) y1).setSelf (i := 2) y2).setSelf (i := 3) y3, (((Only.cell w b 0 y0).trans (Only.cell _ b 1 y1)).trans (Only.cell _ b 2 y2)).trans (Only.cell _ b 3 y3)⟩

set_option maxRecDepth 100000 in
set_option maxHeartbeats 4000000 in
theorem hread_any (h : List Nat) (hr : Row h) (w : World) :
    Calls Try.prog 51 #[.agg (vb h).toArray] w fun e w' => e = .returned (.tuple #[sts (Sk.told h), .bool (decide (Sk.Right h))]) ∧ Below w.heap.size w w' := by
  have hvl : (vb h).length = 512 := by rw [vb_length, hr.1]
  have HR := Lib.hid hr
  obtain ⟨g, hg⟩ : ∃ q, q = Sk.num4 h 4 := ⟨_, rfl⟩
  obtain ⟨sl, hsl⟩ : ∃ q, q = Sk.num4 h 8 := ⟨_, rfl⟩
  obtain ⟨sz, hsz⟩ : ∃ q, q = Sk.num4 h 12 := ⟨_, rfl⟩
  obtain ⟨sm, hsm⟩ : ∃ q, q = Sk.num4 h 16 := ⟨_, rfl⟩
  have Q4 := Lib.hid hg
  have Q8 := Lib.hid hsl
  have Q12 := Lib.hid hsz
  have Q16 := Lib.hid hsm
  have HT : Sk.told h = ⟨g, sl, sz, sm⟩ := by unfold Sk.told; rw [hg, hsl, hsz, hsm]
  have HF : Hid (Sk.Fits ⟨g, sl, sz, sm⟩) := by have := Sk.fits_told hr.2; rw [HT] at this; exact this
  have HRI : Hid (decide (Sk.Right h) = decide (h = Sk.header ⟨g, sl, sz, sm⟩)) := decide_eq_decide.2 (by unfold Sk.Right; rw [HT])
  rw [HT, HRI.out]
  unfold sts
  obtain ⟨HD, hHD⟩ : ∃ r, r = Sk.header ⟨g, sl, sz, sm⟩ := ⟨_, rfl⟩
  have HHD := Lib.hid hHD
  rw [← hHD]
  have HCALL : Hid (∀ w : World, Calls Try.prog 60 #[.agg #[.int .i64 (g : Int), .int .i64 (sl : Int), .int .i64 (sz : Int), .int .i64 (sm : Int)]] w fun e w' => e = .returned (.agg (vb HD).toArray) ∧ Below w.heap.size w w') := fun w => by rw [HHD.out]; exact header_any g sl sz sm HF.out w
  have HDL : Hid (HD.length = 512) := by show _ = _; rw [HHD.out]; exact Sk.header_length _
  clear hr hg hsl hsz hsm HT HRI hHD HF HHD
  go_enter Try.func51, Try.ntmps51
  go_wp2_with fail
  obtain ⟨w3, hW⟩ : ∃ x, x = ((w.alloc (.cells (vb h).toArray 100)).alloc (.cells #[.int .i64 0, .int .i64 0, .int .i64 0, .int .i64 0] 67)).alloc (.cells #[.int .i64 0, .int .i64 0, .int .i64 0, .int .i64 0] 121) := ⟨_, rfl⟩
  have HB : Hid (Below w.heap.size w w3) := by rw [hW]; exact below3 w _ _ _
  have HH : Hid (Has w3 w.heap.size (.cells (vb h).toArray 100 (0, 0))) := by rw [hW]; exact ((Has.new w (.cells (vb h).toArray 100)).alloc (.cells #[.int .i64 0, .int .i64 0, .int .i64 0, .int .i64 0] 67)).alloc (.cells #[.int .i64 0, .int .i64 0, .int .i64 0, .int .i64 0] 121)
  have HS : Hid (Has w3 (w.heap.size + 1) (.cells #[.int .i64 0, .int .i64 0, .int .i64 0, .int .i64 0] 67 (0, 0))) := by
    have := (Has.new (w.alloc (.cells (vb h).toArray 100)) (.cells #[.int .i64 0, .int .i64 0, .int .i64 0, .int .i64 0] 67)).alloc (.cells #[.int .i64 0, .int .i64 0, .int .i64 0, .int .i64 0] 121)
    rw [show (w.alloc (.cells (vb h).toArray 100)).heap.size = w.heap.size + 1 by simp] at this
    rw [hW]; exact this
  have HN : Hid (Has w3 (w.heap.size + 1 + 1) (.cells #[.int .i64 0, .int .i64 0, .int .i64 0, .int .i64 0] 121 (0, 0))) := by
    have := Has.new ((w.alloc (.cells (vb h).toArray 100)).alloc (.cells #[.int .i64 0, .int .i64 0, .int .i64 0, .int .i64 0] 67)) (.cells #[.int .i64 0, .int .i64 0, .int .i64 0, .int .i64 0] 121)
    rw [show ((w.alloc (.cells (vb h).toArray 100)).alloc (.cells #[.int .i64 0, .int .i64 0, .int .i64 0, .int .i64 0] 67)).heap.size = w.heap.size + 1 + 1 by simp] at this
    rw [hW]; exact this
  rw [← hW]
  clear hW
  refine wp_loop_rounds 5 ?_
  rw [rounds_succ]
  go_wp2_with fail
  refine (get4_head HR.out w.heap.size 100 4 (by decide) g Q4.out w3 HH.out).mono ?_
  clear Q4
  rintro e wx ⟨rfl, hb⟩
  have HB2 := Lib.hid (HB.out.trans (hb.mono HB.out.size))
  have HH2 := Lib.hid (Has.later HH.out hb)
  have HS2 := Lib.hid (Has.later HS.out hb)
  have HN2 := Lib.hid (Has.later HN.out hb)
  obtain ⟨x0, hx0⟩ : ∃ v, wx.cell? ⟨w.heap.size + 1 + 1, 0, none⟩ = some v := ⟨_, HN2.out.cell 0⟩
  have hx1 : wx.frozen? ⟨w.heap.size + 1 + 1, 0, none⟩ = false := HN2.out.free 0
  have HB3 : Hid (Below w.heap.size w (wx.setCell ⟨w.heap.size + 1 + 1, 0, none⟩ (.int .i64 (g : Int)))) := HB2.out.setCell (by show _ ≤ w.heap.size + 1 + 1; omega) _
  have HH3 : Hid (Has (wx.setCell ⟨w.heap.size + 1 + 1, 0, none⟩ (.int .i64 (g : Int))) w.heap.size (.cells (vb h).toArray 100 (0, 0))) := HH2.out.set (a := ⟨w.heap.size + 1 + 1, 0, none⟩) (by show _ ≠ w.heap.size + 1 + 1; omega) _
  have HS3 : Hid (Has (wx.setCell ⟨w.heap.size + 1 + 1, 0, none⟩ (.int .i64 (g : Int))) (w.heap.size + 1) (.cells #[.int .i64 0, .int .i64 0, .int .i64 0, .int .i64 0] 67 (0, 0))) := HS2.out.set (a := ⟨w.heap.size + 1 + 1, 0, none⟩) (by show _ ≠ w.heap.size + 1 + 1; omega) _
  have HN3 : Hid (Has (wx.setCell ⟨w.heap.size + 1 + 1, 0, none⟩ (.int .i64 (g : Int))) (w.heap.size + 1 + 1) (.cells #[.int .i64 (g : Int), .int .i64 0, .int .i64 0, .int .i64 0] 121 (0, 0))) := HN2.out.setSelf (i := 0) _
  clear hb HB HH HS HN HB2 HH2 HS2 HN2
  go_wp2_with fail
  clear hx0 hx1 x0
  generalize wx.setCell ⟨w.heap.size + 1 + 1, 0, none⟩ (.int .i64 (g : Int)) = w4 at HB3 HH3 HS3 HN3 ⊢
  clear wx
  have HB := HB3
  have HH := HH3
  have HS := HS3
  have HN := HN3
  clear HB3 HH3 HS3 HN3
  rw [rounds_succ]
  go_wp2_with fail
  refine (get4_head HR.out w.heap.size 100 8 (by decide) sl Q8.out w4 HH.out).mono ?_
  clear Q8
  rintro e wx ⟨rfl, hb⟩
  have HB2 := Lib.hid (HB.out.trans (hb.mono HB.out.size))
  have HH2 := Lib.hid (Has.later HH.out hb)
  have HS2 := Lib.hid (Has.later HS.out hb)
  have HN2 := Lib.hid (Has.later HN.out hb)
  obtain ⟨x0, hx0⟩ : ∃ v, wx.cell? ⟨w.heap.size + 1 + 1, 1, none⟩ = some v := ⟨_, HN2.out.cell 1⟩
  have hx1 : wx.frozen? ⟨w.heap.size + 1 + 1, 1, none⟩ = false := HN2.out.free 1
  have HB3 : Hid (Below w.heap.size w (wx.setCell ⟨w.heap.size + 1 + 1, 1, none⟩ (.int .i64 (sl : Int)))) := HB2.out.setCell (by show _ ≤ w.heap.size + 1 + 1; omega) _
  have HH3 : Hid (Has (wx.setCell ⟨w.heap.size + 1 + 1, 1, none⟩ (.int .i64 (sl : Int))) w.heap.size (.cells (vb h).toArray 100 (0, 0))) := HH2.out.set (a := ⟨w.heap.size + 1 + 1, 1, none⟩) (by show _ ≠ w.heap.size + 1 + 1; omega) _
  have HS3 : Hid (Has (wx.setCell ⟨w.heap.size + 1 + 1, 1, none⟩ (.int .i64 (sl : Int))) (w.heap.size + 1) (.cells #[.int .i64 0, .int .i64 0, .int .i64 0, .int .i64 0] 67 (0, 0))) := HS2.out.set (a := ⟨w.heap.size + 1 + 1, 1, none⟩) (by show _ ≠ w.heap.size + 1 + 1; omega) _
  have HN3 : Hid (Has (wx.setCell ⟨w.heap.size + 1 + 1, 1, none⟩ (.int .i64 (sl : Int))) (w.heap.size + 1 + 1) (.cells #[.int .i64 (g : Int), .int .i64 (sl : Int), .int .i64 0, .int .i64 0] 121 (0, 0))) := HN2.out.setSelf (i := 1) _
  clear hb HB HH HS HN HB2 HH2 HS2 HN2
  go_wp2_with fail
  clear hx0 hx1 x0
  generalize wx.setCell ⟨w.heap.size + 1 + 1, 1, none⟩ (.int .i64 (sl : Int)) = w5 at HB3 HH3 HS3 HN3 ⊢
  clear wx
  have HB := HB3
  have HH := HH3
  have HS := HS3
  have HN := HN3
  clear HB3 HH3 HS3 HN3
  rw [rounds_succ]
  go_wp2_with fail
  refine (get4_head HR.out w.heap.size 100 12 (by decide) sz Q12.out w5 HH.out).mono ?_
  clear Q12
  rintro e wx ⟨rfl, hb⟩
  have HB2 := Lib.hid (HB.out.trans (hb.mono HB.out.size))
  have HH2 := Lib.hid (Has.later HH.out hb)
  have HS2 := Lib.hid (Has.later HS.out hb)
  have HN2 := Lib.hid (Has.later HN.out hb)
  obtain ⟨x0, hx0⟩ : ∃ v, wx.cell? ⟨w.heap.size + 1 + 1, 2, none⟩ = some v := ⟨_, HN2.out.cell 2⟩
  have hx1 : wx.frozen? ⟨w.heap.size + 1 + 1, 2, none⟩ = false := HN2.out.free 2
  have HB3 : Hid (Below w.heap.size w (wx.setCell ⟨w.heap.size + 1 + 1, 2, none⟩ (.int .i64 (sz : Int)))) := HB2.out.setCell (by show _ ≤ w.heap.size + 1 + 1; omega) _
  have HH3 : Hid (Has (wx.setCell ⟨w.heap.size + 1 + 1, 2, none⟩ (.int .i64 (sz : Int))) w.heap.size (.cells (vb h).toArray 100 (0, 0))) := HH2.out.set (a := ⟨w.heap.size + 1 + 1, 2, none⟩) (by show _ ≠ w.heap.size + 1 + 1; omega) _
  have HS3 : Hid (Has (wx.setCell ⟨w.heap.size + 1 + 1, 2, none⟩ (.int .i64 (sz : Int))) (w.heap.size + 1) (.cells #[.int .i64 0, .int .i64 0, .int .i64 0, .int .i64 0] 67 (0, 0))) := HS2.out.set (a := ⟨w.heap.size + 1 + 1, 2, none⟩) (by show _ ≠ w.heap.size + 1 + 1; omega) _
  have HN3 : Hid (Has (wx.setCell ⟨w.heap.size + 1 + 1, 2, none⟩ (.int .i64 (sz : Int))) (w.heap.size + 1 + 1) (.cells #[.int .i64 (g : Int), .int .i64 (sl : Int), .int .i64 (sz : Int), .int .i64 0] 121 (0, 0))) := HN2.out.setSelf (i := 2) _
  clear hb HB HH HS HN HB2 HH2 HS2 HN2
  go_wp2_with fail
  clear hx0 hx1 x0
  generalize wx.setCell ⟨w.heap.size + 1 + 1, 2, none⟩ (.int .i64 (sz : Int)) = w6 at HB3 HH3 HS3 HN3 ⊢
  clear wx
  have HB := HB3
  have HH := HH3
  have HS := HS3
  have HN := HN3
  clear HB3 HH3 HS3 HN3
  rw [rounds_succ]
  go_wp2_with fail
  refine (get4_head HR.out w.heap.size 100 16 (by decide) sm Q16.out w6 HH.out).mono ?_
  clear Q16
  rintro e wx ⟨rfl, hb⟩
  have HB2 := Lib.hid (HB.out.trans (hb.mono HB.out.size))
  have HH2 := Lib.hid (Has.later HH.out hb)
  have HS2 := Lib.hid (Has.later HS.out hb)
  have HN2 := Lib.hid (Has.later HN.out hb)
  obtain ⟨x0, hx0⟩ : ∃ v, wx.cell? ⟨w.heap.size + 1 + 1, 3, none⟩ = some v := ⟨_, HN2.out.cell 3⟩
  have hx1 : wx.frozen? ⟨w.heap.size + 1 + 1, 3, none⟩ = false := HN2.out.free 3
  have HB3 : Hid (Below w.heap.size w (wx.setCell ⟨w.heap.size + 1 + 1, 3, none⟩ (.int .i64 (sm : Int)))) := HB2.out.setCell (by show _ ≤ w.heap.size + 1 + 1; omega) _
  have HH3 : Hid (Has (wx.setCell ⟨w.heap.size + 1 + 1, 3, none⟩ (.int .i64 (sm : Int))) w.heap.size (.cells (vb h).toArray 100 (0, 0))) := HH2.out.set (a := ⟨w.heap.size + 1 + 1, 3, none⟩) (by show _ ≠ w.heap.size + 1 + 1; omega) _
  have HS3 : Hid (Has (wx.setCell ⟨w.heap.size + 1 + 1, 3, none⟩ (.int .i64 (sm : Int))) (w.heap.size + 1) (.cells #[.int .i64 0, .int .i64 0, .int .i64 0, .int .i64 0] 67 (0, 0))) := HS2.out.set (a := ⟨w.heap.size + 1 + 1, 3, none⟩) (by show _ ≠ w.heap.size + 1 + 1; omega) _
  have HN3 : Hid (Has (wx.setCell ⟨w.heap.size + 1 + 1, 3, none⟩ (.int .i64 (sm : Int))) (w.heap.size + 1 + 1) (.cells #[.int .i64 (g : Int), .int .i64 (sl : Int), .int .i64 (sz : Int), .int .i64 (sm : Int)] 121 (0, 0))) := HN2.out.setSelf (i := 3) _
  clear hb HB HH HS HN HB2 HH2 HS2 HN2
  go_wp2_with fail
  clear hx0 hx1 x0
  generalize wx.setCell ⟨w.heap.size + 1 + 1, 3, none⟩ (.int .i64 (sm : Int)) = w7 at HB3 HH3 HS3 HN3 ⊢
  clear wx
  have HB := HB3
  have HH := HH3
  have HS := HS3
  have HN := HN3
  clear HB3 HH3 HS3 HN3
  rw [rounds_succ]
  have n0 := HN.out.cell 0
  have n1 := HN.out.cell 1
  have n2 := HN.out.cell 2
  have n3 := HN.out.cell 3
  go_wp2_with fail
  have hsz7 : w.heap.size + 1 + 1 < w7.heap.size := HN.out.lt
  have KS : Hid (RdS w w7.heap.size h g sl sz sm (w7.alloc (.cells #[.int .i64 (g : Int), .int .i64 (sl : Int), .int .i64 (sz : Int), .int .i64 (sm : Int)] 67)).drew) := by
    refine ⟨HH.out.alloc _, Has.new w7 _, below_drewN (HB.out.trans ((below1 w7 _).mono (by omega))) 1, ⟨_, _, _, _, HS.out.alloc _⟩, ?_⟩
    have : (w7.alloc (.cells #[.int .i64 (g : Int), .int .i64 (sl : Int), .int .i64 (sz : Int), .int .i64 (sm : Int)] 67)).drew.heap.size = w7.heap.size + 1 := by simp
    omega
  clear n0 n1 n2 n3
  refine wp_region_held_drew (S := RdS w w7.heap.size h g sl sz sm) (by kernel_rfl) KS.out (fun _ => ?_)
  change wpAnyH _ _ _ _ _ 7 (Array.replicate 7 false) _ _
  generalize (w7.alloc (.cells #[.int .i64 (g : Int), .int .i64 (sl : Int), .int .i64 (sz : Int), .int .i64 (sm : Int)] 67)).drew = w8 at KS ⊢
  clear HB HH HS HN
  refine wpAnyH_take (i := 0) (v := ?_) rfl (by kernel_rfl) (by kernel_rfl) (by kernel_rfl) (fun _ _ _ h => h) (Or.inl ⟨rfl, ?hy0⟩) KS.out ?_
  case hy0 => intro w' hw'; obtain ⟨_, h2, _⟩ := hw'; have h2 : Has w' w7.heap.size (.cells #[.int .i64 (g : Int), .int .i64 (sl : Int), .int .i64 (sz : Int), .int .i64 (sm : Int)] 67 (0, 0)) := h2; have q0 := h2.cell 0; have q1 := h2.cell 1; have q2 := h2.cell 2; have q3 := h2.cell 3; clear h2; go_simp; first | done | rfl
  (try simp only [Act.put, List.getElem_toArray, List.getElem_cons_zero, List.setIfInBounds_toArray, List.set_cons_zero, List.set_cons_succ])
  refine wpAnyH_take (i := 1) (v := .agg (vb h).toArray) rfl (by kernel_rfl) (by kernel_rfl) (by kernel_rfl) (fun _ _ _ h => h) ?hy1 KS.out ?_
  case hy1 => exact yieldsIf_load_mid rfl 100 (.tmp 1) rfl w.heap.size 0 rfl (vb h) _ (fun w' (hw' : RdS w w7.heap.size h g sl sz sm w') => hw'.1.range) Try.underlying100 rfl (by rw [header_size, hvl])
  (try simp only [Act.put, List.getElem_toArray, List.getElem_cons_zero, List.getElem_cons_succ, List.setIfInBounds_toArray, List.set_cons_zero, List.set_cons_succ])
  refine wpAnyH_take (i := 2) (v := ?_) rfl (by kernel_rfl) (by kernel_rfl) (by kernel_rfl) (fun _ _ _ h => h) (Or.inl ⟨rfl, ?hy2⟩) KS.out ?_
  case hy2 => intro w' hw'; obtain ⟨_, h2, _⟩ := hw'; have h2 : Has w' w7.heap.size (.cells #[.int .i64 (g : Int), .int .i64 (sl : Int), .int .i64 (sz : Int), .int .i64 (sm : Int)] 67 (0, 0)) := h2; have q0 := h2.cell 0; have q1 := h2.cell 1; have q2 := h2.cell 2; have q3 := h2.cell 3; clear h2; go_simp; first | done | rfl
  (try simp only [Act.put, List.getElem_toArray, List.getElem_cons_zero, List.getElem_cons_succ, List.setIfInBounds_toArray, List.set_cons_zero, List.set_cons_succ])
  refine wpAnyH_ready (rs := [3]) (by kernel_rfl) (by simp) ?_
  refine AllReadyH.cons rfl (fun K hK => ?_) AllReadyH.nil
  go_simp
  refine (HCALL.out w8).mono ?_
  rintro e w9 ⟨rfl, hb9⟩
  dsimp only
  have KS9 : Hid (RdS w w7.heap.size h g sl sz sm w9) := by
    exact KS.out.later hb9
  refine hK.out _ _ KS9.out (fun _ => ?_)
  clear hK K hb9 KS
  have KS := KS9
  clear KS9
  (try simp only [Act.put, List.getElem_toArray, List.getElem_cons_zero, List.getElem_cons_succ, List.setIfInBounds_toArray, List.set_cons_zero, List.set_cons_succ])
  refine wpAnyH_take (i := 4) (v := .bool (decide (h = HD))) rfl (by kernel_rfl) (by kernel_rfl) (by kernel_rfl) (fun _ _ _ h => h) (Or.inl ⟨rfl, ?hy4⟩) KS.out ?_
  case hy4 =>
    exact fun w' _ => exec_header_eq (.tmp 31) (.tmp 33) rfl h HD rfl rfl HR.out.1 HDL.out
  (try simp only [Act.put, List.getElem_toArray, List.getElem_cons_zero, List.getElem_cons_succ, List.setIfInBounds_toArray, List.set_cons_zero, List.set_cons_succ])
  refine wpAnyH_ready (rs := [5]) (by kernel_rfl) (by simp) ?_
  refine AllReadyH.cons rfl (fun K hK => ?_) AllReadyH.nil
  obtain ⟨r1, r2, r3, ⟨x0, x1, x2, x3, r4⟩, r5⟩ := KS.out
  have y0 := r4.cell 0
  have y1 := r4.cell 1
  have y2 := r4.cell 2
  have y3 := r4.cell 3
  have z0 := r4.free 0
  have z1 := r4.free 1
  have z2 := r4.free 2
  have z3 := r4.free 3
  have R1 := Lib.hid r1
  have R2 := Lib.hid r2
  have R3 := Lib.hid r3
  have R4 := Lib.hid r4
  have R5 := Lib.hid r5
  clear r1 r2 r3 r4 r5 KS
  go_simp
  obtain ⟨f1, f2⟩ := four_set R4.out (.int .i64 (g : Int)) (.int .i64 (sl : Int)) (.int .i64 (sz : Int)) (.int .i64 (sm : Int))
  clear y0 y1 y2 y3 z0 z1 z2 z3
  obtain ⟨wE, hwE⟩ : ∃ x, x = (((w9.setCell ⟨w.heap.size + 1, 0, none⟩ (.int .i64 (g : Int))).setCell ⟨w.heap.size + 1, 1, none⟩ (.int .i64 (sl : Int))).setCell ⟨w.heap.size + 1, 2, none⟩ (.int .i64 (sz : Int))).setCell ⟨w.heap.size + 1, 3, none⟩ (.int .i64 (sm : Int)) := ⟨_, rfl⟩
  rw [← hwE] at f1 f2 ⊢
  clear hwE
  have KE : Hid (RdS w w7.heap.size h g sl sz sm wE) := ⟨R1.out.only f2 (by omega), R2.out.only f2 (by omega), f2.below R3.out (by omega) R3.out.size, ⟨_, _, _, _, f1⟩, Nat.lt_of_lt_of_le R5.out f2.size⟩
  have FE := Lib.hid f1
  clear f1 f2
  refine hK.out _ _ KE.out (fun _ => ?_)
  clear hK K R1 R2 R3 R4 R5
  (try simp only [Act.put, List.getElem_toArray, List.getElem_cons_zero, List.getElem_cons_succ, List.setIfInBounds_toArray, List.set_cons_zero, List.set_cons_succ])
  refine wpAnyH_take (i := 6) (v := ?_) rfl (by kernel_rfl) (by kernel_rfl) (by kernel_rfl) (fun _ _ _ h => h) (Or.inl ⟨rfl, ?hy6⟩) KE.out ?_
  case hy6 => intro w' hw'; clear hw'; go_simp; first | done | rfl
  (try simp only [Act.put, List.getElem_toArray, List.getElem_cons_zero, List.getElem_cons_succ, List.setIfInBounds_toArray, List.set_cons_zero, List.set_cons_succ])
  refine wpAnyH_done (by kernel_rfl) ?_ _
  have e0 := FE.out.cell 0
  have e1 := FE.out.cell 1
  have e2 := FE.out.cell 2
  have e3 := FE.out.cell 3
  go_wp2_with fail
  refine bodyPost_ret (v := .tuple #[.agg #[.int .i64 (g : Int), .int .i64 (sl : Int), .int .i64 (sz : Int), .int .i64 (sm : Int)], .bool (decide (h = HD))]) ?_ rfl ⟨rfl, KE.out.2.2.1⟩
  rw [results_cell_tmp rfl]
  go_simp
end Go.Proofs.Ythbiibinmofmfaa
