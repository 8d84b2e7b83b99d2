/- Contracts of sector.share, lay. -/
import Derived.Test.YthbiibinmofmfaaEwri

namespace Go.Proofs.Ythbiibinmofmfaa
set_option maxRecDepth 100000
open Go.RowKit

set_option maxHeartbeats 1000000 in
theorem share_any (w : World) (a : Nat) (c : Int) (h1 : -9223372036854775808 ≤ c) (h2 : c ≤ 9223372036854775807) : Calls Try.prog 72 #[.int .i64 (a : Int), .int .i64 c] w fun e w' => e = .returned (.int .i64 (Ek.share a c : Int)) ∧ w = w' := by
  by_cases g1 : c < 1
  · have e : Ek.share a c = 0 := by unfold Ek.share; rw [if_pos g1]
    have d1 : decide (c < 1) = true := by simpa using g1
    rw [e]
    clear e g1
    go_enter Try.func72, Try.ntmps72
    go_wp2_with fail
    go_ret
    exact ⟨rfl, rfl⟩
  · have d1 : decide (c < 1) = false := by simpa using g1
    by_cases g2 : c = 1
    · have e : Ek.share a c = 512 := by unfold Ek.share; rw [if_neg g1, if_pos (Or.inl g2)]
      have d2 : (c == 1) = true := by simpa using g2
      rw [e]
      clear e g1 g2
      go_enter Try.func72, Try.ntmps72
      go_wp2_with fail
      go_ret
      exact ⟨rfl, rfl⟩
    · have d2 : (c == 1) = false := by simpa using g2
      by_cases g3 : a = 0
      · have e : Ek.share a c = 512 := by unfold Ek.share; rw [if_neg g1, if_pos (Or.inr g3)]
        rw [e, g3]
        clear e g1 g2 g3
        go_enter Try.func72, Try.ntmps72
        go_wp2_with fail
        go_ret
        exact ⟨rfl, rfl⟩
      · have e : Ek.share a c = (c - 2).toNat % 512 := by unfold Ek.share; rw [if_neg g1, if_neg (by omega)]
        have d3 : ((a : Int) == 0) = false := by simpa using g3
        rw [e]
        obtain ⟨q, hq⟩ : ∃ q, q = (c - 2).toNat := ⟨_, rfl⟩
        have hq2 : c = (q : Int) + 2 := by omega
        rw [← hq]
        subst hq2
        have e1 : wrap64 ((q : Int) + 2 - 2) = (q : Int) := by rw [IntWalk.wrap64_in _ (by omega)]; omega
        have e3 : (q : Int).tmod 512 = ((q % 512 : Nat) : Int) := rfl
        have e4 : (q : Int) % 512 = ((q % 512 : Nat) : Int) := by omega
        have E3 := Lib.hid e3
        have E4 := Lib.hid e4
        clear e g1 g2 g3 hq e3 e4
        go_enter Try.func72, Try.ntmps72
        go_wp2_with fail
        go_ret
        first | exact ⟨rfl, rfl⟩ | exact ⟨by rw [E4.out], rfl⟩ | exact ⟨by rw [E3.out], rfl⟩

theorem wpList_run {P : Program} {ops : Array Oper} {rest : List Oper} {o : Oper} {a : Act} {w w' : World} {v : Value} {Q : Exit → Act → World → Prop} (hg : o.guard = none) (h : (execOp a.eval o).run P w = .ok (.value v) w') (hn : wpList P ops Q rest (a.put o.dst v) w') : wpList P ops Q (o :: rest) a w :=
  wpList_plain hg fun K hK => by
    unfold Oper.wp
    rw [h]
    exact hK _ _ hn
theorem quiet_run {P : Program} {ops : Array Oper} {o : Oper} {rest : List Oper} {a : Act} {W : World} {Q : Act → Prop} {v : Value} (hg : o.guard = none) (h : (execOp a.eval o).run P W = .ok (.value v) W) (hn : wpQuiet P ops (fun w' => w' = W) Q rest (a.put o.dst v)) : wpQuiet P ops (fun w' => w' = W) Q (o :: rest) a := by
  unfold wpQuiet
  rw [if_pos (by simp [Region.wanted, hg])]
  exact ⟨v, fun w hw => by subst hw; unfold Oper.quietAt; rw [h]; exact ⟨rfl, rfl⟩, hn⟩
theorem exec_build_zero {o : Oper} {a : Act} {W : World} (ho : o.op = .build 93 #[]) : (execOp a.eval o).run Try.prog W = .ok (.value (.agg (vb zrow).toArray)) W := by
  unfold execOp
  simp only [ho, List.map_toArray, List.map_nil, run_build_zero W, Sem.run_bind, Sem.run_pure, Result.andThen_ok]
theorem exec_row_eq {o : Oper} {a : Act} {W : World} (x y : Operand) (t : TypeId) (ho : o.op = .binOp .eql 93 x y t) (r s : List Nat) (hx : a.eval x = .agg (vb r).toArray) (hy : a.eval y = .agg (vb s).toArray) (hr : r.length = 512) (hs : s.length = 512) (β : Bool) (hβ : decide (r = s) = β) :
    (execOp a.eval o).run Try.prog W = .ok (.value (.bool β)) W := by
  subst hβ
  unfold execOp
  have hg : (eqGuard .eql 93 x y (.agg (vb r).toArray) (.agg (vb s).toArray)).run Try.prog W = .ok () W := by
    unfold eqGuard
    simp [go_sem]
  simp only [ho, hx, hy, hg, run_row_eq W r s hr hs, Sem.run_bind, Sem.run_pure, Result.andThen_ok]
theorem exec_delete {P : Program} {o : Oper} {a : Act} {w w' : World} {v : Value} (s x : Operand) (t k : TypeId) (ho : o.op = Op.call { callee := Callee.builtin Builtin.delete, args := #[s, x], argTypes := #[t, k] })
    (S X : Value) (hs : a.eval s = S) (hx : a.eval x = X) (hrun : (Builtin.delete_ #[t, k] o.type #[S, X]).run P w = .ok v w') : (execOp a.eval o).run P w = .ok (.value v) w' := by
  unfold execOp
  simp only [ho, resolve, invoke, builtin, Sem.run_bind, Sem.run_pure, Result.andThen_ok, List.map_toArray, List.map_cons, List.map_nil, hs, hx, hrun]

theorem only_of_below {g : Nat} {w w' w'' : World} (h : Below w.heap.size w w') (k : Only g w' w'') : Only g w w'' :=
  ⟨k.os.trans h.os, k.tape.trans h.tape, k.output.trans h.output, Nat.le_trans h.size k.size, fun i hi hn => (k.block i (Nat.lt_of_lt_of_le hi h.size) hn).trans (h.block i hi)⟩

/-- The map of what is sure tells s. -/
def Sure (fs : Nat → Option Value) (s : Nat → List Nat) : Prop := ∀ i, fs i = some (.agg (vb (s i)).toArray) ∨ (fs i = none ∧ s i = zrow)

set_option maxHeartbeats 4000000 in
theorem lay_any (w : World) (b bm ns : Nat) (fs : Nat → Option Value) (s : Nat → List Nat) (a m : Nat) (r : List Nat) (hc : w.cell? ⟨b, 1, none⟩ = some (.map (some bm))) (hm : Mp w bm ns fs) (hs : Sure fs s) (hrow : ∀ i, Row (s i)) (hr : Row r) (ha : a < 9000000) (hmm : m ≤ 512) :
    Calls Try.prog 63 #[.pointer (some ⟨b, 0, none⟩), .agg (vw a r).toArray, .int .i64 (m : Int)] w fun e w' => e = .returned (.tuple #[]) ∧ ∃ ns' fs', Mp w' bm ns' fs' ∧ Sure fs' (Ek.lay s a r m) ∧ Only bm w w' := by
  have HB := Has.new w (.cells (vw a r).toArray 116)
  have hb0 : (w.alloc (.cells (vw a r).toArray 116)).cell? ⟨w.heap.size, 0, none⟩ = some (.int .i64 (a : Int)) := by rw [HB.cell]; rfl
  have hb1 : (w.alloc (.cells (vw a r).toArray 116)).rangeAt w.heap.size 1 (vb r) := fun j v hv => by rw [HB.cell, List.getElem?_toArray, Nat.add_comm]; exact hv
  have hc1 : (w.alloc (.cells (vw a r).toArray 116)).cell? ⟨b, 1, none⟩ = some (.map (some bm)) := by rw [World.cell?_alloc_lt _ _ _ (World.block_lt_of_cell? w _ hc)]; exact hc
  have hm1 := hm.alloc (.cells (vw a r).toArray 116)
  have hbl : b < (w.alloc (.cells (vw a r).toArray 116)).heap.size := World.block_lt_of_cell? _ _ hc1
  obtain ⟨w1, hw1⟩ : ∃ w1, w1 = w.alloc (.cells (vw a r).toArray 116) := ⟨_, rfl⟩
  obtain ⟨B, hB⟩ : ∃ B, B = w.heap.size := ⟨_, rfl⟩
  have HS0 : Hid (w1.drew.cell? ⟨b, 1, none⟩ = some (.map (some bm)) ∧ w1.drew.cell? ⟨B, 0, none⟩ = some (.int .i64 (a : Int)) ∧ (Instr.lookup 58 (.map (some bm)) (.int .i64 (a : Int)) false).run Try.prog w1.drew = .ok (.agg (vb (s a)).toArray) w1.drew) := by
    subst hw1 hB
    exact ⟨hc1, hb0, look_sure (show Mp (w.alloc (.cells (vw a r).toArray 116)).drew bm ns fs from hm1) hs a (by omega)⟩
  have hz := row_zero
  go_enter Try.func63, Try.ntmps63
  go_wp2_with fail
  rw [← hw1, ← hB]
  rw [← hB] at hb1 hb0 HB
  rw [← hw1] at hb0 hb1 hc1 hm1 hbl HB
  have HW1 := Lib.hid hw1
  have HB1 := Lib.hid hB
  clear hw1 hB
  refine wp_region_held_drew (S := fun wx => wx.cell? ⟨b, 1, none⟩ = some (.map (some bm)) ∧ wx.cell? ⟨B, 0, none⟩ = some (.int .i64 (a : Int)) ∧ (Instr.lookup 58 (.map (some bm)) (.int .i64 (a : Int)) false).run Try.prog wx = .ok (.agg (vb (s a)).toArray) wx) (by kernel_rfl) HS0.out (fun _ => ?_)
  change wpAnyH _ _ _ _ _ 9 (Array.replicate 9 false) _ _
  refine wpAnyH_take (i := 0) (v := ?_) rfl (by kernel_rfl) (by kernel_rfl) (by kernel_rfl) (fun _ _ _ h => h) (Or.inl ⟨rfl, ?hy0⟩) HS0.out ?_
  case hy0 => intro w' hw'; obtain ⟨g1, g2, g3⟩ := hw'; go_simp; first | done | rfl
  refine wpAnyH_take (i := 1) (v := ?_) rfl (by kernel_rfl) (by kernel_rfl) (by kernel_rfl) (fun _ _ _ h => h) (Or.inl ⟨rfl, ?hy1⟩) HS0.out ?_
  case hy1 => intro w' hw'; obtain ⟨g1, g2, g3⟩ := hw'; go_simp; first | done | rfl
  refine wpAnyH_take (i := 2) (v := ?_) rfl (by kernel_rfl) (by kernel_rfl) (by kernel_rfl) (fun _ _ _ h => h) (Or.inl ⟨rfl, ?hy2⟩) HS0.out ?_
  case hy2 => intro w' hw'; obtain ⟨g1, g2, g3⟩ := hw'; go_simp; first | done | rfl
  refine wpAnyH_take (i := 3) (v := ?_) rfl (by kernel_rfl) (by kernel_rfl) (by kernel_rfl) (fun _ _ _ h => h) (Or.inl ⟨rfl, ?hy3⟩) HS0.out ?_
  case hy3 => intro w' hw'; obtain ⟨g1, g2, g3⟩ := hw'; go_simp; first | done | rfl
  refine wpAnyH_take (i := 4) (v := ?_) rfl (by kernel_rfl) (by kernel_rfl) (by kernel_rfl) (fun _ _ _ h => h) (Or.inl ⟨rfl, ?hy4⟩) HS0.out ?_
  case hy4 => intro w' hw'; obtain ⟨g1, g2, g3⟩ := hw'; go_simp; first | done | rfl
  refine wpAnyH_take (i := 5) (v := ?_) rfl (by kernel_rfl) (by kernel_rfl) (by kernel_rfl) (fun _ _ _ h => h) (Or.inl ⟨rfl, ?hy5⟩) HS0.out ?_
  case hy5 => intro w' hw'; obtain ⟨g1, g2, g3⟩ := hw'; go_simp; first | done | rfl
  refine wpAnyH_take (i := 6) (v := ?_) rfl (by kernel_rfl) (by kernel_rfl) (by kernel_rfl) (fun _ _ _ h => h) (Or.inl ⟨rfl, ?hy6⟩) HS0.out ?_
  case hy6 => intro w' hw'; obtain ⟨g1, g2, g3⟩ := hw'; go_simp; first | done | rfl
  simp only [Act.put, List.getElem_toArray, List.getElem_cons_zero, List.getElem_cons_succ, List.setIfInBounds_toArray, List.set_cons_zero, List.set_cons_succ]
  have HSG : Hid (∀ W, Below w1.heap.size w1 W → W.cell? ⟨b, 1, none⟩ = some (.map (some bm)) ∧ W.cell? ⟨B, 0, none⟩ = some (.int .i64 (a : Int)) ∧ (Instr.lookup 58 (.map (some bm)) (.int .i64 (a : Int)) false).run Try.prog W = .ok (.agg (vb (s a)).toArray) W) :=
    fun W hb => ⟨(hb.cell (p := ⟨b, 1, none⟩) hbl).trans hc1, (hb.cell (p := ⟨B, 0, none⟩) HB.lt).trans hb0, look_sure (hm1.later hb) hs a (by omega)⟩
  have SC := row_cells w1 zrow (s a) zrow_length (hrow a).1
  have SC2 : (storeCells ⟨w1.heap.size, 0, none⟩ (vb (s a)) 0).run Try.prog (w1.alloc (.cells (vb zrow).toArray 93)).drew = .ok () (w1.alloc (.cells (vb (s a)).toArray 93)).drew := row_cells w1.drew zrow (s a) zrow_length (hrow a).1
  have hvl : (vb (s a)).length = 512 := by rw [vb_length, (hrow a).1]
  refine wpAnyH_ready (rs := [7]) (by kernel_rfl) (by simp) ?_
  refine AllReadyH.cons rfl (fun K hK => ?_) AllReadyH.nil
  go_simp
  refine hK.out _ _ (HSG.out _ (below_drewN (below1 w1 _) 1)) (fun _ => ?_)
  clear hK K
  refine wpAnyH_ready (rs := [8]) (by kernel_rfl) (by simp) ?_
  refine AllReadyH.cons rfl (fun K hK => ?_) AllReadyH.nil
  go_simp
  refine hK.out _ _ (HSG.out _ (below_drewN (below1 w1 _) 1)) (fun _ => ?_)
  clear hK K
  refine wpAnyH_done (by kernel_rfl) ?_ _
  obtain ⟨C, hC⟩ : ∃ C, C = w1.heap.size := ⟨_, rfl⟩
  obtain ⟨w2, hw2⟩ : ∃ w2, w2 = (w1.alloc (.cells (vb (s a)).toArray 93)).drew := ⟨_, rfl⟩
  have hC2 : Has w2 C (.cells (vb (s a)).toArray 93 (0, 0)) := by subst hw2 hC; exact Has.new w1 _
  have hb2 : Below w1.heap.size w1 w2 := by subst hw2; exact below_drewN (below1 w1 _) 1
  rw [← hC, ← hw2]
  have HC := Lib.hid hC
  have HB2 := Lib.hid hb2
  clear hw2 hC hb2 SC SC2
  have hm0 : (0 : Int) ≤ (m : Int) := by omega
  have hm9 : (m : Int) ≤ 512 := by omega
  go_wp2_with fail
  refine region_qtail 4 (by kernel_rfl) (by kernel_rfl) fun W hW => ?_
  have HW := Lib.hid hW
  clear hW
  simp only [List.take_succ_cons, List.take_zero, List.drop_succ_cons, List.drop_zero]
  iterate 4 (go_big_quiet_step (fail))
  refine wpQuiet_nil ?_
  have hrl := hr.1
  refine wpList_copy_only rfl (.tmp 14) (.tmp 17) 35 35 rfl 5 Try.underlying35 (by kernel_rfl) (some ⟨C, 0, none⟩) (some ⟨B, 1, none⟩) 512 512 m 512 rfl rfl C 0 (vb (s a)) 93 ?hg (vb (r.take m)) ?hn ?hpos ?hfit (oneCell_vb _) ?_
  case hg => rw [HW.out]; exact hC2
  case hn => rw [vb_length, List.length_take, hrl]
  case hpos =>
    intro _
    refine ⟨rfl, _, rfl, fun j v hj => ?_⟩
    have hjm : j < m := by have := (List.getElem?_eq_some_iff.1 hj).1; rw [vb_length, List.length_take] at this; omega
    rw [Addr.add_mid, HW.out]
    refine ((HB2.out.cell (p := ⟨B, 1 + j, none⟩) HB.lt).trans (hb1 j v ?_) :)
    rw [vb_get, List.getElem?_take_of_lt hjm] at hj
    rw [vb_get]; exact hj
  case hfit => rw [vb_length, List.length_take, hvl]; omega
  intro w3 hg3 ho3
  obtain ⟨r', hr'⟩ : ∃ r', r' = r.take m ++ (s a).drop m := ⟨_, rfl⟩
  have hsa := (hrow a).1
  have esp : splice (vb (s a)) 0 (vb (r.take m)) = vb r' := by
    rw [hr', vb_append]
    simp only [splice, List.take_zero, List.nil_append, vb_length, List.length_take, hrl, Nat.zero_add, Nat.min_eq_left hmm]
    congr 1
    simp [vb, List.map_drop]
  rw [esp] at hg3
  have hg3' : Has w3 C (.cells (vb r').toArray 93 (0, 0)) := hg3.out
  have HLR : Hid (r'.length = 512) := by show _ = _; rw [hr', List.length_append, List.length_take, List.length_drop, hrl, hsa]; omega
  have hr3 : w3.rangeAt C 0 (vb r') := fun j v hv => by rw [hg3'.cell, List.getElem?_toArray, Nat.zero_add]; exact hv
  have HR3 := Lib.hid hr3
  have hbW : Below w1.heap.size w1 W := by rw [HW.out]; exact below_drewN HB2.out 1
  have hbw3 : Below w1.heap.size w1 w3 := ho3.below hbW (by rw [HC.out]; exact Nat.le_refl _) hbW.size
  have hbw : Below w.heap.size w w1 := by rw [HW1.out]; exact below1 w _
  have hbw' : Below w.heap.size w w3 := hbw.trans (hbw3.mono hbw.size)
  have hm3 : Mp w3 bm ns fs := hm.later hbw'
  have hc3 : w3.cell? ⟨b, 1, none⟩ = some (.map (some bm)) := (hbw'.cell (p := ⟨b, 1, none⟩) (World.block_lt_of_cell? w _ hc)).trans hc
  have hd3 : w3.cell? ⟨B, 0, none⟩ = some (.int .i64 (a : Int)) := (hbw3.cell (p := ⟨B, 0, none⟩) HB.lt).trans hb0
  have HM := Lib.hid hm3
  have HSU := Lib.hid hs
  have HBW := Lib.hid hbw'
  have hlay : ∀ i, Ek.lay s a r m i = if i = a then r' else s i := fun i => by unfold Ek.lay; rw [hr']
  have HLAY := Lib.hid hlay
  clear hg3 hg3' hr3 hbW hbw3 hbw hbw' hm3 hm hs hrow hr hc hc1 hb0 hb1 hm1 HB hbl hC2 ho3 esp hsa hr' hrl HS0 HSG hvl HW1 HB1 HC HB2 HW hlay
  by_cases hzr : r' = zrow
  · have HDZ : Hid (decide (r' = zrow) = true) := by show _ = _; simpa using hzr
    have HZR := Lib.hid hzr
    clear hzr
    go_wp2_with (first | (refine wpList_run rfl (exec_load_row (.tmp 6) rfl C 0 rfl r' HR3.out HLR.out) ?_) | (refine wpList_run rfl (exec_build_zero rfl) ?_) | (refine wpList_run rfl (exec_row_eq (.tmp 19) (.tmp 20) _ rfl r' zrow rfl rfl HLR.out zrow_length _ HDZ.out) ?_))
    simp only [Act.put, List.setIfInBounds_toArray, List.set_cons_zero, List.set_cons_succ]
    refine region_qtail 6 (by kernel_rfl) (by kernel_rfl) fun W4 hW4 => ?_
    have HW4 := Lib.hid hW4
    have hc4 : W4.cell? ⟨b, 1, none⟩ = some (.map (some bm)) := by rw [hW4]; exact hc3
    have hd4 : W4.cell? ⟨B, 0, none⟩ = some (.int .i64 (a : Int)) := by rw [hW4]; exact hd3
    have hm4 : Mp W4 bm ns fs := by rw [hW4]; exact HM.out
    have hr4 : W4.rangeAt C 0 (vb r') := by rw [hW4]; exact HR3.out
    have HR4 := Lib.hid hr4
    obtain ⟨w5, hrun, hm5, ho5, _⟩ := hm4.drop (P := Try.prog) (ty := 0) Try.underlying3 Try.underlying58 a (by omega)
    have HE := Lib.hid (And.intro hm5 ho5)
    have HU := Lib.hid hrun
    clear hW4 hm4 hm5 ho5 hr4 hc3 hd3
    simp only [List.take_succ_cons, List.take_zero, List.drop_succ_cons, List.drop_zero]
    iterate 6 (go_big_quiet_step (fail))
    refine wpQuiet_nil ?_
    refine wpList_run rfl (exec_delete (.tmp 25) (.tmp 27) _ _ rfl _ _ rfl rfl HU.out) ?_
    go_wp2_with fail
    refine ⟨rfl, .tuple #[], by simp [results, Try.results63, go_sem], rfl, _, _, HE.out.1, fun i => ?_, ?_⟩
    · have h1 := HLAY.out i
      rw [h1]
      by_cases hi : i = a
      · rw [if_pos hi]; exact Or.inr ⟨if_pos hi, HZR.out⟩
      · rw [if_neg hi]; simp only [if_neg hi]; exact HSU.out i
    · exact only_of_below HBW.out (HW4.out ▸ HE.out.2 : Only bm w3.drew w5).undrew
  · have HDZ : Hid (decide (r' = zrow) = false) := by show _ = _; simpa using hzr
    clear hzr
    go_wp2_with (first | (refine wpList_run rfl (exec_load_row (.tmp 6) rfl C 0 rfl r' HR3.out HLR.out) ?_) | (refine wpList_run rfl (exec_build_zero rfl) ?_) | (refine wpList_run rfl (exec_row_eq (.tmp 19) (.tmp 20) _ rfl r' zrow rfl rfl HLR.out zrow_length _ HDZ.out) ?_))
    simp only [Act.put, List.setIfInBounds_toArray, List.set_cons_zero, List.set_cons_succ]
    refine region_qtail 7 (by kernel_rfl) (by kernel_rfl) fun W4 hW4 => ?_
    have HW4 := Lib.hid hW4
    have hc4 : W4.cell? ⟨b, 1, none⟩ = some (.map (some bm)) := by rw [hW4]; exact hc3
    have hd4 : W4.cell? ⟨B, 0, none⟩ = some (.int .i64 (a : Int)) := by rw [hW4]; exact hd3
    have hm4 : Mp W4 bm ns fs := by rw [hW4]; exact HM.out
    have hr4 : W4.rangeAt C 0 (vb r') := by rw [hW4]; exact HR3.out
    have HR4 := Lib.hid hr4
    obtain ⟨w5, hrun, hm5, ho5, _⟩ := hm4.store (P := Try.prog) Try.underlying3 Try.underlying58 a (by omega) (.agg (vb r').toArray)
    have HE := Lib.hid (And.intro hm5 ho5)
    have HU := Lib.hid hrun
    clear hW4 hm4 hm5 ho5 hr4 hc3 hd3
    simp only [List.take_succ_cons, List.take_zero, List.drop_succ_cons, List.drop_zero]
    iterate 6 (go_big_quiet_step (fail))
    refine quiet_run rfl (exec_load_row (.tmp 6) rfl C 0 rfl r' HR4.out HLR.out) ?_
    refine wpQuiet_nil ?_
    have hrun := HU.out
    go_wp2_with fail
    refine ⟨rfl, .tuple #[], by simp [results, Try.results63, go_sem], rfl, _, _, HE.out.1, fun i => ?_, ?_⟩
    · have h1 := HLAY.out i
      rw [h1]
      by_cases hi : i = a
      · rw [if_pos hi]; exact Or.inl (if_pos hi)
      · rw [if_neg hi]; simp only [if_neg hi]; exact HSU.out i
    · exact only_of_below HBW.out (HW4.out ▸ HE.out.2 : Only bm w3.drew w5).undrew
end Go.Proofs.Ythbiibinmofmfaa
