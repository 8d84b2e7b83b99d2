/- Contracts of sector's small calls: made, has, Len, Loose, Dark, change, Fuse. -/
import Derived.Test.YthbiibinmofmfaaEdk
import Derived.Laws.ResultCell

namespace Go.Proofs.Ythbiibinmofmfaa
set_option maxRecDepth 100000
open Go.RowKit

theorem has6 {w : World} {b : Nat} {x0 x1 x2 x3 x4 x5 : Value} {t : TypeId} (h : Has w b (.cells #[x0, x1, x2, x3, x4, x5] t (0, 0))) :
    w.cell? ⟨b, 0, none⟩ = some x0 ∧ w.cell? ⟨b, 1, none⟩ = some x1 ∧ w.cell? ⟨b, 2, none⟩ = some x2 ∧ w.cell? ⟨b, 3, none⟩ = some x3 ∧ w.cell? ⟨b, 4, none⟩ = some x4 ∧ w.cell? ⟨b, 5, none⟩ = some x5 ∧
    w.frozen? ⟨b, 1, none⟩ = false ∧ w.frozen? ⟨b, 2, none⟩ = false ∧ w.frozen? ⟨b, 3, none⟩ = false ∧ w.frozen? ⟨b, 4, none⟩ = false ∧ w.frozen? ⟨b, 5, none⟩ = false := by
  refine ⟨?_, ?_, ?_, ?_, ?_, ?_, h.free 1, h.free 2, h.free 3, h.free 4, h.free 5⟩ <;> (rw [h.cell]; rfl)

/-- The fuse is set. -/
theorem Dsk.set4 {w : World} {S : Nat → Prop} {b : Nat} {d : Ek.Dk} (h : Dsk w S b d) (x : Int) (ho : Ek.Ok { d with left := x }) : Dsk (w.setCell ⟨b, 4, none⟩ (.int .i64 x)) S b { d with left := x } := by
  obtain ⟨bm, bl, ns, lo, fs, h1, h2, h3, h4, h5, s1, s2, s3, hne, s4, hu, _⟩ := h
  refine ⟨bm, bl, ns, lo, fs, h1.setSelf _, h2.set (h2.ne_has h1) _, h3, h4.set (h4.ne_has h1) _, ?_, s1, s2, s3, hne, s4, hu, ho⟩
  obtain ⟨r1, r2⟩ := h5
  refine ⟨r1, ?_⟩
  rcases r2 with r2 | ⟨g, cap, cur, e1, e2, e3, e4, e5, e6, e7⟩
  · exact Or.inl r2
  · refine Or.inr ⟨g, cap, cur, e1, e2, ?_, e4, e5, e6, e7⟩
    have hg : Has w g _ := e3
    refine hg.set (a := ⟨b, 4, none⟩) ?_ _
    rintro rfl
    have e : some (Obj.cells _ _ _) = some (Obj.cells _ _ _) := Eq.trans (Eq.symm hg) h1
    simp only [Option.some.injEq, Obj.cells.injEq] at e
    exact absurd e.2.1 (by decide)
/-- The power. -/
theorem Dsk.set5 {w : World} {S : Nat → Prop} {b : Nat} {d : Ek.Dk} (h : Dsk w S b d) (x : Bool) (ho : Ek.Ok { d with dark := x }) : Dsk (w.setCell ⟨b, 5, none⟩ (.bool x)) S b { d with dark := x } := by
  obtain ⟨bm, bl, ns, lo, fs, h1, h2, h3, h4, h5, s1, s2, s3, hne, s4, hu, _⟩ := h
  refine ⟨bm, bl, ns, lo, fs, h1.setSelf _, h2.set (h2.ne_has h1) _, h3, h4.set (h4.ne_has h1) _, ?_, s1, s2, s3, hne, s4, hu, ho⟩
  obtain ⟨r1, r2⟩ := h5
  refine ⟨r1, ?_⟩
  rcases r2 with r2 | ⟨g, cap, cur, e1, e2, e3, e4, e5, e6, e7⟩
  · exact Or.inl r2
  · refine Or.inr ⟨g, cap, cur, e1, e2, ?_, e4, e5, e6, e7⟩
    have hg : Has w g _ := e3
    refine hg.set (a := ⟨b, 5, none⟩) ?_ _
    rintro rfl
    have e : some (Obj.cells _ _ _) = some (Obj.cells _ _ _) := Eq.trans (Eq.symm hg) h1
    simp only [Option.some.injEq, Obj.cells.injEq] at e
    exact absurd e.2.1 (by decide)

theorem Dsk.in {w : World} {S : Nat → Prop} {b : Nat} {d : Ek.Dk} (h : Dsk w S b d) : S b := by
  obtain ⟨bm, bl, ns, lo, fs, h1, h2, h3, h4, h5, s1, _⟩ := h
  exact s1

set_option maxHeartbeats 1000000 in
theorem made_nil (w : World) : Calls Try.prog 36 #[.pointer none] w fun e w' => e = .returned (.bool false) ∧ w = w' := by
  go_enter Try.func36, Try.ntmps36
  go_wp2_with fail
  go_ret
  exact ⟨rfl, rfl⟩
set_option maxHeartbeats 1000000 in
theorem made_yes (w : World) (b : Nat) (n : Nat) (hc : w.cell? ⟨b, 0, none⟩ = some (.int .i64 (n : Int))) (hn : 1 ≤ n) : Calls Try.prog 36 #[.pointer (some ⟨b, 0, none⟩)] w fun e w' => e = .returned (.bool true) ∧ w = w' := by
  have h1 : decide (0 < n) = true := by simp; omega
  go_enter Try.func36, Try.ntmps36
  go_wp2_with fail
  go_ret
  exact ⟨rfl, rfl⟩
set_option maxHeartbeats 1000000 in
theorem made_no (w : World) (b : Nat) (hc : w.cell? ⟨b, 0, none⟩ = some (.int .i64 0)) : Calls Try.prog 36 #[.pointer (some ⟨b, 0, none⟩)] w fun e w' => e = .returned (.bool false) ∧ w = w' := by
  go_enter Try.func36, Try.ntmps36
  go_wp2_with fail
  go_ret
  exact ⟨rfl, rfl⟩

set_option maxHeartbeats 1000000 in
theorem has_any (w : World) (b : Nat) (n : Nat) (i : Int) (hc : w.cell? ⟨b, 0, none⟩ = some (.int .i64 (n : Int))) : Calls Try.prog 44 #[.pointer (some ⟨b, 0, none⟩), .int .i64 i] w fun e w' => e = .returned (.bool (decide (0 ≤ i ∧ i < (n : Int)))) ∧ w = w' := by
  by_cases h0 : 0 ≤ i
  · by_cases h1 : i < (n : Int)
    · have d1 : decide (i < (n : Int)) = true := by simpa using h1
      have hr : decide (0 ≤ i ∧ i < (n : Int)) = true := by simp [h0, h1]
      rw [hr]
      clear hr
      go_enter Try.func44, Try.ntmps44
      go_wp2_with fail
      go_ret
      exact ⟨rfl, rfl⟩
    · have d1 : decide (i < (n : Int)) = false := by simpa using h1
      have hr : decide (0 ≤ i ∧ i < (n : Int)) = false := by simp [h1]
      rw [hr]
      clear hr
      go_enter Try.func44, Try.ntmps44
      go_wp2_with fail
      go_ret
      exact ⟨rfl, rfl⟩
  · have d0 : decide (0 ≤ i) = false := by simpa using h0
    have hr : decide (0 ≤ i ∧ i < (n : Int)) = false := by simp [h0]
    rw [hr]
    clear hr
    go_enter Try.func44, Try.ntmps44
    go_wp2_with fail
    go_ret
    exact ⟨rfl, rfl⟩

set_option maxHeartbeats 1000000 in
theorem len_any (w : World) (S : Nat → Prop) (b : Nat) (d : Ek.Dk) (h : Dsk w S b d) : Calls Try.prog 28 #[.pointer (some ⟨b, 0, none⟩)] w fun e w' => e = .returned (.int .i64 (d.n : Int)) ∧ w = w' := by
  have h1 := h.ok.lo
  obtain ⟨bm, bl, ns, lo, fs, hh, _⟩ := h
  obtain ⟨c0, _⟩ := has6 hh
  clear hh
  go_enter Try.func28, Try.ntmps28
  go_wp2_with fail
  refine (made_yes w b d.n c0 h1).mono ?_
  rintro e w' ⟨rfl, rfl⟩
  go_wp2_with fail
  go_ret
  exact ⟨rfl, rfl⟩

theorem own_len {w : World} {base : Nat} {e : TypeId} {size : Nat} {v : Value} {n : Nat} {xs : List Value} (h : w.ownsRow base e size v n xs) : ∃ a cap, v = .slice a n cap ∧ n ≤ cap := by
  rcases h.2 with ⟨rfl, rfl⟩ | ⟨g, cap, cur, rfl, _, _, hc, _⟩
  · exact ⟨none, 0, rfl, Nat.le_refl _⟩
  · exact ⟨_, cap, rfl, hc⟩

set_option maxHeartbeats 1000000 in
theorem loose_any (w : World) (S : Nat → Prop) (b : Nat) (d : Ek.Dk) (h : Dsk w S b d) : Calls Try.prog 42 #[.pointer (some ⟨b, 0, none⟩)] w fun e w' => e = .returned (.int .i64 (d.loose.length : Int)) ∧ w = w' := by
  have h1 := h.ok.lo
  obtain ⟨bm, bl, ns, lo, fs, hh, _, _, _, h5, _⟩ := h
  obtain ⟨a, cap, rfl, _⟩ := own_len h5
  clear h5
  obtain ⟨c0, _, c2, _⟩ := has6 hh
  clear hh
  go_enter Try.func42, Try.ntmps42
  go_wp2_with fail
  refine (made_yes w b d.n c0 h1).mono ?_
  rintro e w' ⟨rfl, rfl⟩
  go_wp2_with fail
  go_ret
  exact ⟨rfl, rfl⟩

set_option maxHeartbeats 1000000 in
theorem dark_any (w : World) (S : Nat → Prop) (b : Nat) (d : Ek.Dk) (h : Dsk w S b d) : Calls Try.prog 43 #[.pointer (some ⟨b, 0, none⟩)] w fun e w' => e = .returned (.bool d.dark) ∧ w = w' := by
  have h1 := h.ok.lo
  obtain ⟨bm, bl, ns, lo, fs, hh, _⟩ := h
  obtain ⟨c0, _, _, _, _, c5, _⟩ := has6 hh
  clear hh
  go_enter Try.func43, Try.ntmps43
  go_wp2_with fail
  refine (made_yes w b d.n c0 h1).mono ?_
  rintro e w' ⟨rfl, rfl⟩
  go_wp2_with fail
  go_ret
  exact ⟨rfl, rfl⟩

theorem dp_same {w : World} {S : Nat → Prop} {b : Nat} {d : Ek.Dk} (h : Dsk w S b d) (v : Value) : DP w S b d v (.returned v) w := ⟨rfl, S, h, Tch.refl _ _, fun _ hk => Or.inl hk⟩

set_option maxHeartbeats 2000000 in
theorem change_any (w : World) (S : Nat → Prop) (b : Nat) (d : Ek.Dk) (h : Dsk w S b d) : Calls Try.prog 58 #[.pointer (some ⟨b, 0, none⟩)] w (DP w S b (Ek.change d) (.int .i64 (Ek.changeE d))) := by
  have hok := Ek.change_ok h.ok
  have H := Lib.hid h
  have hl0 := h.ok.left0
  have hl1 := h.ok.left1
  have hin := h.in
  obtain ⟨bm, bl, ns, lo, fs, hh, _⟩ := h
  obtain ⟨_, _, _, _, c4, c5, _, _, _, f4, f5⟩ := has6 hh
  clear hh
  by_cases hd : d.dark = true
  · have e1 : Ek.change d = { d with dark := true } := by unfold Ek.change; rw [if_pos (Or.inl hd)]
    have e2 : Ek.changeE d = 6 := by unfold Ek.changeE; rw [if_pos (Or.inl hd)]
    rw [e1] at hok ⊢
    rw [e2]
    rw [hd] at c5
    have HO := Lib.hid hok
    have HI := Lib.hid hin
    clear e1 e2 hd hok hin
    go_enter Try.func58, Try.ntmps58
    go_wp2_with fail
    go_ret
    exact ⟨rfl, S, H.out.set5 true HO.out, (Tch.refl S w).setCell (p := ⟨b, 5, none⟩) HI.out _, fun _ hk => Or.inl hk⟩
  · have hd' : d.dark = false := by simpa using hd
    rw [hd'] at c5
    by_cases h0 : d.left = 0
    · have e1 : Ek.change d = { d with dark := true } := by unfold Ek.change; rw [if_pos (Or.inr h0)]
      have e2 : Ek.changeE d = 6 := by unfold Ek.changeE; rw [if_pos (Or.inr h0)]
      rw [e1] at hok ⊢
      rw [e2]
      rw [h0] at c4
      have HO := Lib.hid hok
      have HI := Lib.hid hin
      clear e1 e2 hd hd' hok hin h0
      go_enter Try.func58, Try.ntmps58
      go_wp2_with fail
      go_ret
      exact ⟨rfl, S, H.out.set5 true HO.out, (Tch.refl S w).setCell (p := ⟨b, 5, none⟩) HI.out _, fun _ hk => Or.inl hk⟩
    · have hn : ¬ (d.dark = true ∨ d.left = 0) := by simp [hd', h0]
      have e2 : Ek.changeE d = 0 := by unfold Ek.changeE; rw [if_neg hn]
      rw [e2]
      have b0 : (d.left == 0) = false := by simpa using h0
      by_cases hm : d.left = -1
      · have e1 : Ek.change d = d := by unfold Ek.change; rw [if_neg hn, if_pos hm]
        rw [e1]
        rw [hm] at c4
        clear e1 e2 hd hd' hok hin hn h0 hm b0
        go_enter Try.func58, Try.ntmps58
        go_wp2_with fail
        go_ret
        exact dp_same H.out _
      · have e1 : Ek.change d = { d with left := d.left - 1 } := by unfold Ek.change; rw [if_neg hn, if_neg hm]
        rw [e1] at hok ⊢
        have b1 : (d.left != -1) = true := by simpa using hm
        have hpos : 1 ≤ d.left := by omega
        have HO := Lib.hid hok
        have HI := Lib.hid hin
        clear e1 e2 hd hd' hok hin hn h0 hm hl0
        generalize hx : d.left = x at c4 b0 b1 hpos hl1 ⊢
        have HX := Lib.hid hx
        clear hx
        go_enter Try.func58, Try.ntmps58
        go_wp2_with fail
        go_ret
        refine ⟨rfl, S, ?_, (Tch.refl S w).setCell (p := ⟨b, 4, none⟩) HI.out _, fun _ hk => Or.inl hk⟩
        have := H.out.set4 _ HO.out
        rw [HX.out] at this
        exact this

set_option maxHeartbeats 1000000 in
theorem fuse_any (w : World) (S : Nat → Prop) (b : Nat) (d : Ek.Dk) (n : Int) (hn : n ≤ 9223372036854775807) (h : Dsk w S b d) : Calls Try.prog 13 #[.pointer (some ⟨b, 0, none⟩), .int .i64 n] w (DP w S b (Ek.fuse d n) (.tuple #[])) := by
  have h1 := h.ok.lo
  have hok := Ek.fuse_ok h.ok n hn
  have H := Lib.hid h
  have HI := Lib.hid h.in
  have HO := Lib.hid hok
  obtain ⟨bm, bl, ns, lo, fs, hh, _⟩ := h
  obtain ⟨c0, _, _, _, c4, c5, _, _, _, f4, f5⟩ := has6 hh
  clear hh hok
  have HP : ∀ x : Int, x = max n 0 → Hid (DP w S b (Ek.fuse d n) (.tuple #[]) (.returned (.tuple #[])) (w.setCell ⟨b, 4, none⟩ (.int .i64 x))) := by
    rintro x rfl
    exact ⟨rfl, S, H.out.set4 _ HO.out, (Tch.refl S w).setCell (p := ⟨b, 4, none⟩) HI.out _, fun _ hk => Or.inl hk⟩
  by_cases h0 : 0 ≤ n
  · have HQ := HP n (by omega)
    clear HP
    go_enter Try.func13, Try.ntmps13
    go_wp2_with fail
    refine (made_yes w b d.n c0 h1).mono ?_
    rintro e w' ⟨rfl, rfl⟩
    go_wp2_with fail
    all_goals (first | (exfalso; omega) | exact ⟨rfl, .tuple #[], by simp [results, Try.results13, go_sem], HQ.out⟩)
  · have HQ := HP 0 (by omega)
    clear HP
    go_enter Try.func13, Try.ntmps13
    go_wp2_with fail
    refine (made_yes w b d.n c0 h1).mono ?_
    rintro e w' ⟨rfl, rfl⟩
    go_wp2_with fail
    all_goals (first | (exfalso; omega) | exact ⟨rfl, .tuple #[], by simp [results, Try.results13, go_sem], HQ.out⟩)
end Go.Proofs.Ythbiibinmofmfaa

/- Contracts of sector.now, Read. -/
namespace Go.Proofs.Ythbiibinmofmfaa
set_option maxRecDepth 100000
open Go.RowKit

theorem row_alloc (w : World) (old : Value) : (Instr.alloc 93 true old).run Try.prog w = .ok (.pointer (some ⟨w.heap.size, 0, none⟩)) (w.alloc (.cells (vb zrow).toArray 93)) :=
  run_alloc_zero w _ _ old row_zero
theorem row_all (r : List Nat) : (vb r).toArray.all (·.oneCell') = true := all_oneCell_toArray (oneCell_vb r)
theorem row_info (r : List Nat) (h : r.length = 512) : (Try.prog.info? 93).map (·.size) = some (vb r).toArray.size := by
  rw [row_size]; simp [vb_length, h]
/-- A row into a variable that was just made; out of it. -/
theorem row_store (w : World) (r s : List Nat) (hr : r.length = 512) (hs : s.length = 512) : (Instr.storeAt 93 (.pointer (some ⟨w.heap.size, 0, none⟩)) (.agg (vb s).toArray)).run Try.prog (w.alloc (.cells (vb r).toArray 93)) = .ok () (w.alloc (.cells (vb s).toArray 93)) :=
  run_storeAt_new w _ _ _ (row_info s hs) (by simp [vb_length, hr, hs]) (row_all s)
theorem row_cells (w : World) (r s : List Nat) (hr : r.length = 512) (hs : s.length = 512) : (storeCells ⟨w.heap.size, 0, none⟩ (vb s) 0).run Try.prog (w.alloc (.cells (vb r).toArray 93)) = .ok () (w.alloc (.cells (vb s).toArray 93)) := by
  have := run_storeCells_new (P := Try.prog) w 93 (vb r).toArray (vb s).toArray (row_info s hs) (by simp [vb_length, hr, hs]) (row_all s)
  simpa using this
theorem row_load (w : World) (r : List Nat) (hr : r.length = 512) : (Instr.loadAt 93 (.pointer (some ⟨w.heap.size, 0, none⟩))).run Try.prog (w.alloc (.cells (vb r).toArray 93)) = .ok (.agg (vb r).toArray) (w.alloc (.cells (vb r).toArray 93)) :=
  run_loadAt_new w _ _ _ _ Try.underlying93 (row_info r hr)
theorem row_loadVar (w : World) (r : List Nat) (hr : r.length = 512) : (loadVar 93 ⟨w.heap.size, 0, none⟩).run Try.prog (w.alloc (.cells (vb r).toArray 93)) = .ok (.agg (vb r).toArray) (w.alloc (.cells (vb r).toArray 93)) :=
  run_loadVar_new w _ _ _ _ Try.underlying93 (row_info r hr)

/-- What is sure of a sector, looked up. -/
theorem look_sure {w : World} {bm ns : Nat} {fs : Nat → Option Value} {s : Nat → List Nat} (h : Mp w bm ns fs) (hs : ∀ i, fs i = some (.agg (vb (s i)).toArray) ∨ (fs i = none ∧ s i = zrow)) (i : Nat) (hi : i < 9223372036854775808) :
    (Instr.lookup 58 (.map (some bm)) (.int .i64 (i : Int)) false).run Try.prog w = .ok (.agg (vb (s i)).toArray) w := by
  rcases hs i with h1 | ⟨h1, h2⟩
  · exact h.look_some (P := Try.prog) Try.underlying3 Try.underlying58 false i hi h1
  · rw [h2]
    exact h.look_none (P := Try.prog) Try.underlying3 Try.underlying58 (row_zero w) false i hi h1

/-- A loose write, read where it lies. -/
theorem own_write {w : World} {lo : Value} {l : List (Nat × List Nat)} (h : w.ownsRow 0 116 513 lo l.length (vws l)) (hl : ∀ p ∈ l, Row p.2) (k : Nat) (p : Nat × List Nat) (hk : l[k]? = some p) :
    ∃ g cap, lo = .slice (some ⟨g, 0, none⟩) l.length cap ∧ k < l.length ∧ g < w.heap.size ∧ w.rangeAt g (k * 513) (vw p.1 p.2) := by
  have hkl : k < l.length := (List.getElem?_eq_some_iff.1 hk).1
  rcases h.2 with ⟨rfl, h0⟩ | ⟨g, cap, cur, rfl, hb, hg, hc1, hc2, hc3, hc4⟩
  · omega
  · refine ⟨g, cap, rfl, hkl, (Array.getElem?_eq_some_iff.1 hg).1, fun j v hv => ?_⟩
    have hj : j < 513 := by have := (List.getElem?_eq_some_iff.1 hv).1; rw [vw_length _ _ (hl p (List.mem_of_getElem? hk)).1] at this; exact this
    have e := vws_get l hl k j p hk hj
    rw [← hc4, List.getElem?_take_of_lt (by omega)] at e
    rw [cell_of_row w g _ _ _ _ hg, ← Array.getElem?_toList, e]
    exact hv

/-- A result that lies in a cell. -/
theorem results_cell_one {P : Program} {fn : Func} {p : Tmp} {ty : TypeId} (h : fn.results = #[.cell p ty]) {tmps : Array Value} {a : Addr} {v : Value} {w : World} (ha : tmps.getD p undef = .pointer (some a)) (hl : (loadVar ty a).run P w = .ok v w) : (results fn tmps).run P w = .ok v w := by
  simp only [results, h]
  have ha' : tmps[p]?.getD undef = .pointer (some a) := by simpa using ha
  simp only [List.mapM_toArray, List.mapM_cons, List.mapM_nil, Sem.run_bind, asAddr, Array.getD_eq_getD_getElem?, ha']
  simp [hl]

set_option maxHeartbeats 2000000 in
theorem now_any (w : World) (S : Nat → Prop) (b : Nat) (d : Ek.Dk) (i : Nat) (hi : i < d.n) (h : Dsk w S b d) : Calls Try.prog 45 #[.pointer (some ⟨b, 0, none⟩), .int .i64 (i : Int)] w fun e w' => e = .returned (.agg (vb (Ek.now d i)).toArray) ∧ Below w.heap.size w w' := by
  have h1 := h.ok.hi
  have hal := row_zero
  have hrow := (Ek.now_row h.ok i).1
  have hlr := fun p hp => (h.ok.loose p hp).2
  have hcount := h.ok.count
  have hused := h.ok.used
  obtain ⟨bm, bl, ns, lo, fs, hh, hm, hs, hl, ho, hrest⟩ := h
  clear hrest
  obtain ⟨c0, c1, c2, c3, c4⟩ := has6 (hh.alloc (.cells (vb zrow).toArray 93))
  clear hh c0 c4
  cases hk : Ek.lastOf d.loose i with
  | none =>
    have L0 := (hl.alloc (.cells (vb zrow).toArray 93)).look_none (P := Try.prog) (z := .int .i64 0) Try.underlying3 Try.underlying59 (by simp [go_sem]) true i (by omega) (by simp [hk])
    have L : ((Instr.lookup 59 (.map (some bl)) (.int .i64 (i : Int)) true).run Try.prog (w.alloc (.cells (vb zrow).toArray 93))) = .ok (.tuple #[.int .i64 0, .bool false]) _ := L0
    have M := look_sure (hm.alloc (.cells (vb zrow).toArray 93)) hs i (by omega)
    have e : Ek.now d i = d.sure i := by unfold Ek.now; rw [hk]
    rw [e] at hrow ⊢
    generalize d.sure i = r at M hrow ⊢
    have ST := row_cells w zrow r zrow_length hrow
    have hvl : (vb r).length = 512 := by rw [vb_length, hrow]
    have LD := row_loadVar w r hrow
    clear L0 hs hl ho hk hm hlr e hcount hused
    go_enter Try.func45, Try.ntmps45
    go_wp2_with fail
    exact bodyPost_ret (v := .agg (vb r).toArray) (results_cell_one Try.results45 rfl LD) rfl ⟨rfl, below1 _ _⟩
  | some k =>
    obtain ⟨hkl, hkp⟩ := Ek.lastTo_lt hk
    obtain ⟨p, hp⟩ : ∃ p, d.loose[k]? = some p := ⟨_, List.getElem?_eq_getElem hkl⟩
    have L0 := (hl.alloc (.cells (vb zrow).toArray 93)).look_some (P := Try.prog) (v := .int .i64 (k : Int)) Try.underlying3 Try.underlying59 true i (by omega) (by simp [hk])
    have L : ((Instr.lookup 59 (.map (some bl)) (.int .i64 (i : Int)) true).run Try.prog (w.alloc (.cells (vb zrow).toArray 93))) = .ok (.tuple #[.int .i64 (k : Int), .bool true]) _ := L0
    have e : Ek.now d i = p.2 := by unfold Ek.now; rw [hk]; simp [hp]
    obtain ⟨g, cap, rfl, hkk, hg, hr⟩ := own_write ho hlr k p hp
    have hr1 : w.rangeAt g (k * 513 + 1) (vb p.2) := fun j v hv => by
      have := hr (j + 1) v (by simpa [vw] using hv)
      rw [show k * 513 + 1 + j = k * 513 + (j + 1) by omega]; exact this
    rw [e] at hrow ⊢
    generalize p.2 = r at hr1 hrow ⊢
    have HR := Lib.hid (World.rangeAt_alloc hr1 (.cells (vb zrow).toArray 93))
    have HI : Hid ((Try.prog.info? 93).map (·.size) = some (vb r).length) := by show _ = _; rw [row_size, vb_length, hrow]
    have ST := row_cells w zrow r zrow_length hrow
    have hvl : (vb r).length = 512 := by rw [vb_length, hrow]
    have LD := row_loadVar w r hrow
    have hlen : d.loose.length < 9223372036854775808 := by omega
    generalize d.loose.length = m at hkk c2 hlen
    clear L0 hs hl ho hk hm hlr e hcount hused hr hr1 hp hkp hkl
    go_enter Try.func45, Try.ntmps45
    go_wp2_with (refine wpList_load_mid rfl 93 _ rfl g (k * 513 + 1) rfl (vb r) _ HR.out Try.underlying93 rfl HI.out ?_)
    exact bodyPost_ret (v := .agg (vb r).toArray) (results_cell_one Try.results45 rfl LD) rfl ⟨rfl, below1 _ _⟩

/-- What Read leaves. -/
def RdPost (w : World) (d : Ek.Dk) (i : Int) (e : Ending) (w' : World) : Prop := Below w.heap.size w w' ∧
  ((Ek.readE d i ≠ 0 ∧ e = .returned (.tuple #[.slice none 0 0, .int .i64 (Ek.readE d i)])) ∨
   (Ek.readE d i = 0 ∧ ∃ g, e = .returned (.tuple #[.slice (some ⟨g, 0, none⟩) 512 512, .int .i64 0]) ∧ w.heap.size ≤ g ∧ Has w' g (.cells (vb (Ek.now d i.toNat)).toArray 93 (0, 0))))

set_option maxHeartbeats 2000000 in
theorem read_any (w : World) (S : Nat → Prop) (b : Nat) (d : Ek.Dk) (i : Int) (h : Dsk w S b d) : Calls Try.prog 21 #[.pointer (some ⟨b, 0, none⟩), .int .i64 i] w (RdPost w d i) := by
  have h1 := h.ok.lo
  have hal := row_zero
  have NOW := fun (j : Nat) (hj : j < d.n) => now_any w S b d j hj h
  have hrow := fun j => (Ek.now_row h.ok j).1
  obtain ⟨bm, bl, ns, lo, fs, hh, hrest⟩ := h
  clear hrest
  obtain ⟨c0, _, _, _, _, c5, _⟩ := has6 hh
  clear hh
  by_cases hi : 0 ≤ i ∧ i < (d.n : Int)
  · obtain ⟨j, rfl⟩ : ∃ j : Nat, i = (j : Int) := ⟨i.toNat, by omega⟩
    have hq : decide (0 ≤ (j : Int) ∧ (j : Int) < (d.n : Int)) = true := by simpa using hi
    have HA := has_any w b d.n (j : Int) c0
    rw [hq] at HA
    have hn : ¬ ((j : Int) < 0 ∨ (d.n : Int) ≤ (j : Int)) := by omega
    by_cases hd : d.dark = true
    · have e : Ek.readE d (j : Int) = 6 := by unfold Ek.readE; rw [if_neg hn, if_pos hd]
      have HP : Hid (RdPost w d (j : Int) (.returned (.tuple #[.slice none 0 0, .int .i64 6])) w) := ⟨Below.refl _ _, Or.inl ⟨by rw [e]; decide, by rw [e]⟩⟩
      rw [hd] at c5
      clear hn hq hi e NOW hrow hd
      go_enter Try.func21, Try.ntmps21
      go_wp2_with fail
      refine (made_yes w b d.n c0 h1).mono ?_
      rintro e w' ⟨rfl, rfl⟩
      go_wp2_with fail
      refine HA.mono ?_
      rintro e w' ⟨rfl, rfl⟩
      go_wp2_with fail
      go_ret2
      exact HP.out
    · have hd' : d.dark = false := by simpa using hd
      rw [hd'] at c5
      have e : Ek.readE d (j : Int) = 0 := by unfold Ek.readE; rw [if_neg hn, if_neg hd]
      have HR := hrow j
      have HN := NOW j (by omega)
      have HP : ∀ (w1 w2 : World) (g : Nat), Below w.heap.size w w1 → w2 = w1.alloc (.cells (vb (Ek.now d j)).toArray 93) → g = w1.heap.size → Hid (RdPost w d (j : Int) (.returned (.tuple #[.slice (some ⟨g, 0, none⟩) 512 512, .int .i64 0])) w2) := by
        rintro w1 w2 g hb rfl rfl
        exact ⟨hb.alloc hb.size _, Or.inr ⟨e, _, rfl, hb.size, Has.new _ _⟩⟩
      clear hn hq hi e NOW hrow hd hd'
      generalize Ek.now d j = r at HN HP HR
      have hvl : (vb r).length = 512 := by rw [vb_length, HR]
      go_enter Try.func21, Try.ntmps21
      go_wp2_with fail
      refine (made_yes w b d.n c0 h1).mono ?_
      rintro e w' ⟨rfl, rfl⟩
      go_wp2_with fail
      refine HA.mono ?_
      rintro e w' ⟨rfl, rfl⟩
      go_wp2_with fail
      refine HN.mono ?_
      rintro e w1 ⟨rfl, hb⟩
      have HQ := HP w1 _ _ hb rfl rfl
      clear HP hb
      have ST := row_cells w1 zrow r zrow_length HR
      go_wp2_with fail
      go_ret2
      exact HQ.out
  · have hq : decide (0 ≤ i ∧ i < (d.n : Int)) = false := by simpa using hi
    have HA := has_any w b d.n i c0
    rw [hq] at HA
    have hn : (i < 0 ∨ (d.n : Int) ≤ i) := by omega
    have e : Ek.readE d i = 2 := by unfold Ek.readE; rw [if_pos hn]
    have HP : Hid (RdPost w d i (.returned (.tuple #[.slice none 0 0, .int .i64 2])) w) := ⟨Below.refl _ _, Or.inl ⟨by rw [e]; decide, by rw [e]⟩⟩
    clear hn hq hi e NOW hrow
    go_enter Try.func21, Try.ntmps21
    go_wp2_with fail
    refine (made_yes w b d.n c0 h1).mono ?_
    rintro e w' ⟨rfl, rfl⟩
    go_wp2_with fail
    refine HA.mono ?_
    rintro e w' ⟨rfl, rfl⟩
    go_wp2_with fail
    go_ret2
    exact HP.out
end Go.Proofs.Ythbiibinmofmfaa
