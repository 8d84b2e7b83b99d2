/- Contracts of sector's small calls: made, has, Len, Loose, Dark, change, Fuse. -/
import Derived.Test.YtillckjohlbaiaaEdk

namespace Go.Proofs.Ytillckjohlbaiaa
set_option maxRecDepth 100000
open Go.RowKit

theorem has6 {w : World} {b : Nat} {x0 x1 x2 x3 x4 x5 : Value} {t : TypeId} (h : Has w b (.cells #[x0, x1, x2, x3, x4, x5] t (0, 0))) :
    w.cell? ⟨b, 0, none⟩ = some x0 ∧ w.cell? ⟨b, 1, none⟩ = some x1 ∧ w.cell? ⟨b, 2, none⟩ = some x2 ∧ w.cell? ⟨b, 3, none⟩ = some x3 ∧ w.cell? ⟨b, 4, none⟩ = some x4 ∧ w.cell? ⟨b, 5, none⟩ = some x5 ∧
    w.frozen? ⟨b, 1, none⟩ = false ∧ w.frozen? ⟨b, 2, none⟩ = false ∧ w.frozen? ⟨b, 3, none⟩ = false ∧ w.frozen? ⟨b, 4, none⟩ = false ∧ w.frozen? ⟨b, 5, none⟩ = false := by
  refine ⟨?_, ?_, ?_, ?_, ?_, ?_, h.free 1, h.free 2, h.free 3, h.free 4, h.free 5⟩ <;> (rw [h.cell]; rfl)

/-- The fuse is set. -/
theorem Dsk.set4 {w : World} {S : Nat → Prop} {b : Nat} {d : Ek.Dk} (h : Dsk w S b d) (x : Int) (ho : Ek.Ok { d with left := x }) : Dsk (w.setCell ⟨b, 4, none⟩ (.int .i64 x)) S b { d with left := x } := by
  obtain ⟨bm, bl, ns, lo, fs, h1, h2, h3, h4, h5, s1, s2, s3, hne, s4, hu, _⟩ := h
  refine ⟨bm, bl, ns, lo, fs, h1.setSelf _, h2.set (h2.ne_has h1) _, h3, h4.set (h4.ne_has h1) _, ?_, s1, s2, s3, hne, s4, hu, ho⟩
  obtain ⟨r1, r2⟩ := h5
  refine ⟨r1, ?_⟩
  rcases r2 with r2 | ⟨g, cap, cur, e1, e2, e3, e4, e5, e6, e7⟩
  · exact Or.inl r2
  · refine Or.inr ⟨g, cap, cur, e1, e2, ?_, e4, e5, e6, e7⟩
    have hg : Has w g _ := e3
    refine hg.set (a := ⟨b, 4, none⟩) ?_ _
    rintro rfl
    have e : some (Obj.cells _ _ _) = some (Obj.cells _ _ _) := Eq.trans (Eq.symm hg) h1
    simp only [Option.some.injEq, Obj.cells.injEq] at e
    exact absurd e.2.1 (by decide)
/-- The power. -/
theorem Dsk.set5 {w : World} {S : Nat → Prop} {b : Nat} {d : Ek.Dk} (h : Dsk w S b d) (x : Bool) (ho : Ek.Ok { d with dark := x }) : Dsk (w.setCell ⟨b, 5, none⟩ (.bool x)) S b { d with dark := x } := by
  obtain ⟨bm, bl, ns, lo, fs, h1, h2, h3, h4, h5, s1, s2, s3, hne, s4, hu, _⟩ := h
  refine ⟨bm, bl, ns, lo, fs, h1.setSelf _, h2.set (h2.ne_has h1) _, h3, h4.set (h4.ne_has h1) _, ?_, s1, s2, s3, hne, s4, hu, ho⟩
  obtain ⟨r1, r2⟩ := h5
  refine ⟨r1, ?_⟩
  rcases r2 with r2 | ⟨g, cap, cur, e1, e2, e3, e4, e5, e6, e7⟩
  · exact Or.inl r2
  · refine Or.inr ⟨g, cap, cur, e1, e2, ?_, e4, e5, e6, e7⟩
    have hg : Has w g _ := e3
    refine hg.set (a := ⟨b, 5, none⟩) ?_ _
    rintro rfl
    have e : some (Obj.cells _ _ _) = some (Obj.cells _ _ _) := Eq.trans (Eq.symm hg) h1
    simp only [Option.some.injEq, Obj.cells.injEq] at e
    exact absurd e.2.1 (by decide)

theorem Dsk.in {w : World} {S : Nat → Prop} {b : Nat} {d : Ek.Dk} (h : Dsk w S b d) : S b := by
  obtain ⟨bm, bl, ns, lo, fs, h1, h2, h3, h4, h5, s1, _⟩ := h
  exact s1

set_option maxHeartbeats 1000000 in
theorem made_nil (w : World) : Calls Try.prog 52 #[.pointer none] w fun e w' => e = .returned (.bool false) ∧ w = w' := by
  go_enter Try.func52, Try.ntmps52
  go_wp2_with fail
  go_ret
  exact ⟨rfl, rfl⟩
set_option maxHeartbeats 1000000 in
theorem made_yes (w : World) (b : Nat) (n : Nat) (hc : w.cell? ⟨b, 0, none⟩ = some (.int .i64 (n : Int))) (hn : 1 ≤ n) : Calls Try.prog 52 #[.pointer (some ⟨b, 0, none⟩)] w fun e w' => e = .returned (.bool true) ∧ w = w' := by
  have h1 : decide (0 < n) = true := by simp; omega
  go_enter Try.func52, Try.ntmps52
  go_wp2_with fail
  go_ret
  exact ⟨rfl, rfl⟩
set_option maxHeartbeats 1000000 in
theorem made_no (w : World) (b : Nat) (hc : w.cell? ⟨b, 0, none⟩ = some (.int .i64 0)) : Calls Try.prog 52 #[.pointer (some ⟨b, 0, none⟩)] w fun e w' => e = .returned (.bool false) ∧ w = w' := by
  go_enter Try.func52, Try.ntmps52
  go_wp2_with fail
  go_ret
  exact ⟨rfl, rfl⟩

set_option maxHeartbeats 1000000 in
theorem has_any (w : World) (b : Nat) (n : Nat) (i : Int) (hc : w.cell? ⟨b, 0, none⟩ = some (.int .i64 (n : Int))) : Calls Try.prog 61 #[.pointer (some ⟨b, 0, none⟩), .int .i64 i] w fun e w' => e = .returned (.bool (decide (0 ≤ i ∧ i < (n : Int)))) ∧ w = w' := by
  by_cases h0 : 0 ≤ i
  · by_cases h1 : i < (n : Int)
    · have d1 : decide (i < (n : Int)) = true := by simpa using h1
      have hr : decide (0 ≤ i ∧ i < (n : Int)) = true := by simp [h0, h1]
      rw [hr]
      clear hr
      go_enter Try.func61, Try.ntmps61
      go_wp2_with fail
      go_ret
      exact ⟨rfl, rfl⟩
    · have d1 : decide (i < (n : Int)) = false := by simpa using h1
      have hr : decide (0 ≤ i ∧ i < (n : Int)) = false := by simp [h1]
      rw [hr]
      clear hr
      go_enter Try.func61, Try.ntmps61
      go_wp2_with fail
      go_ret
      exact ⟨rfl, rfl⟩
  · have d0 : decide (0 ≤ i) = false := by simpa using h0
    have hr : decide (0 ≤ i ∧ i < (n : Int)) = false := by simp [h0]
    rw [hr]
    clear hr
    go_enter Try.func61, Try.ntmps61
    go_wp2_with fail
    go_ret
    exact ⟨rfl, rfl⟩

set_option maxHeartbeats 1000000 in
theorem len_any (w : World) (S : Nat → Prop) (b : Nat) (d : Ek.Dk) (h : Dsk w S b d) : Calls Try.prog 16 #[.pointer (some ⟨b, 0, none⟩)] w fun e w' => e = .returned (.int .i64 (d.n : Int)) ∧ w = w' := by
  have h1 := h.ok.lo
  obtain ⟨bm, bl, ns, lo, fs, hh, _⟩ := h
  obtain ⟨c0, _⟩ := has6 hh
  clear hh
  go_enter Try.func16, Try.ntmps16
  go_wp2_with fail
  refine (made_yes w b d.n c0 h1).mono ?_
  rintro e w' ⟨rfl, rfl⟩
  go_wp2_with fail
  go_ret
  exact ⟨rfl, rfl⟩

theorem own_len {w : World} {base : Nat} {e : TypeId} {size : Nat} {v : Value} {n : Nat} {xs : List Value} (h : w.ownsRow base e size v n xs) : ∃ a cap, v = .slice a n cap ∧ n ≤ cap := by
  rcases h.2 with ⟨rfl, rfl⟩ | ⟨g, cap, cur, rfl, _, _, hc, _⟩
  · exact ⟨none, 0, rfl, Nat.le_refl _⟩
  · exact ⟨_, cap, rfl, hc⟩

set_option maxHeartbeats 1000000 in
theorem loose_any (w : World) (S : Nat → Prop) (b : Nat) (d : Ek.Dk) (h : Dsk w S b d) : Calls Try.prog 49 #[.pointer (some ⟨b, 0, none⟩)] w fun e w' => e = .returned (.int .i64 (d.loose.length : Int)) ∧ w = w' := by
  have h1 := h.ok.lo
  obtain ⟨bm, bl, ns, lo, fs, hh, _, _, _, h5, _⟩ := h
  obtain ⟨a, cap, rfl, _⟩ := own_len h5
  clear h5
  obtain ⟨c0, _, c2, _⟩ := has6 hh
  clear hh
  go_enter Try.func49, Try.ntmps49
  go_wp2_with fail
  refine (made_yes w b d.n c0 h1).mono ?_
  rintro e w' ⟨rfl, rfl⟩
  go_wp2_with fail
  go_ret
  exact ⟨rfl, rfl⟩

set_option maxHeartbeats 1000000 in
theorem dark_any (w : World) (S : Nat → Prop) (b : Nat) (d : Ek.Dk) (h : Dsk w S b d) : Calls Try.prog 51 #[.pointer (some ⟨b, 0, none⟩)] w fun e w' => e = .returned (.bool d.dark) ∧ w = w' := by
  have h1 := h.ok.lo
  obtain ⟨bm, bl, ns, lo, fs, hh, _⟩ := h
  obtain ⟨c0, _, _, _, _, c5, _⟩ := has6 hh
  clear hh
  go_enter Try.func51, Try.ntmps51
  go_wp2_with fail
  refine (made_yes w b d.n c0 h1).mono ?_
  rintro e w' ⟨rfl, rfl⟩
  go_wp2_with fail
  go_ret
  exact ⟨rfl, rfl⟩

theorem dp_same {w : World} {S : Nat → Prop} {b : Nat} {d : Ek.Dk} (h : Dsk w S b d) (v : Value) : DP w S b d v (.returned v) w := ⟨rfl, S, h, Tch.refl _ _, fun _ hk => Or.inl hk⟩

set_option maxHeartbeats 2000000 in
theorem change_any (w : World) (S : Nat → Prop) (b : Nat) (d : Ek.Dk) (h : Dsk w S b d) : Calls Try.prog 62 #[.pointer (some ⟨b, 0, none⟩)] w (DP w S b (Ek.change d) (.int .i64 (Ek.changeE d))) := by
  have hok := Ek.change_ok h.ok
  have H := Lib.hid h
  have hl0 := h.ok.left0
  have hl1 := h.ok.left1
  have hin := h.in
  obtain ⟨bm, bl, ns, lo, fs, hh, _⟩ := h
  obtain ⟨_, _, _, _, c4, c5, _, _, _, f4, f5⟩ := has6 hh
  clear hh
  by_cases hd : d.dark = true
  · have e1 : Ek.change d = { d with dark := true } := by unfold Ek.change; rw [if_pos (Or.inl hd)]
    have e2 : Ek.changeE d = 6 := by unfold Ek.changeE; rw [if_pos (Or.inl hd)]
    rw [e1] at hok ⊢
    rw [e2]
    rw [hd] at c5
    have HO := Lib.hid hok
    have HI := Lib.hid hin
    clear e1 e2 hd hok hin
    go_enter Try.func62, Try.ntmps62
    go_wp2_with fail
    go_ret
    exact ⟨rfl, S, H.out.set5 true HO.out, (Tch.refl S w).setCell (p := ⟨b, 5, none⟩) HI.out _, fun _ hk => Or.inl hk⟩
  · have hd' : d.dark = false := by simpa using hd
    rw [hd'] at c5
    by_cases h0 : d.left = 0
    · have e1 : Ek.change d = { d with dark := true } := by unfold Ek.change; rw [if_pos (Or.inr h0)]
      have e2 : Ek.changeE d = 6 := by unfold Ek.changeE; rw [if_pos (Or.inr h0)]
      rw [e1] at hok ⊢
      rw [e2]
      rw [h0] at c4
      have HO := Lib.hid hok
      have HI := Lib.hid hin
      clear e1 e2 hd hd' hok hin h0
      go_enter Try.func62, Try.ntmps62
      go_wp2_with fail
      go_ret
      exact ⟨rfl, S, H.out.set5 true HO.out, (Tch.refl S w).setCell (p := ⟨b, 5, none⟩) HI.out _, fun _ hk => Or.inl hk⟩
    · have hn : ¬ (d.dark = true ∨ d.left = 0) := by simp [hd', h0]
      have e2 : Ek.changeE d = 0 := by unfold Ek.changeE; rw [if_neg hn]
      rw [e2]
      have b0 : (d.left == 0) = false := by simpa using h0
      by_cases hm : d.left = -1
      · have e1 : Ek.change d = d := by unfold Ek.change; rw [if_neg hn, if_pos hm]
        rw [e1]
        rw [hm] at c4
        clear e1 e2 hd hd' hok hin hn h0 hm b0
        go_enter Try.func62, Try.ntmps62
        go_wp2_with fail
        go_ret
        exact dp_same H.out _
      · have e1 : Ek.change d = { d with left := d.left - 1 } := by unfold Ek.change; rw [if_neg hn, if_neg hm]
        rw [e1] at hok ⊢
        have b1 : (d.left != -1) = true := by simpa using hm
        have hpos : 1 ≤ d.left := by omega
        have HO := Lib.hid hok
        have HI := Lib.hid hin
        clear e1 e2 hd hd' hok hin hn h0 hm hl0
        generalize hx : d.left = x at c4 b0 b1 hpos hl1 ⊢
        have HX := Lib.hid hx
        clear hx
        go_enter Try.func62, Try.ntmps62
        go_wp2_with fail
        go_ret
        refine ⟨rfl, S, ?_, (Tch.refl S w).setCell (p := ⟨b, 4, none⟩) HI.out _, fun _ hk => Or.inl hk⟩
        have := H.out.set4 _ HO.out
        rw [HX.out] at this
        exact this

set_option maxHeartbeats 1000000 in
theorem fuse_any (w : World) (S : Nat → Prop) (b : Nat) (d : Ek.Dk) (n : Int) (hn : n ≤ 9223372036854775807) (h : Dsk w S b d) : Calls Try.prog 31 #[.pointer (some ⟨b, 0, none⟩), .int .i64 n] w (DP w S b (Ek.fuse d n) (.tuple #[])) := by
  have h1 := h.ok.lo
  have hok := Ek.fuse_ok h.ok n hn
  have H := Lib.hid h
  have HI := Lib.hid h.in
  have HO := Lib.hid hok
  obtain ⟨bm, bl, ns, lo, fs, hh, _⟩ := h
  obtain ⟨c0, _, _, _, c4, c5, _, _, _, f4, f5⟩ := has6 hh
  clear hh hok
  have HP : ∀ x : Int, x = max n 0 → Hid (DP w S b (Ek.fuse d n) (.tuple #[]) (.returned (.tuple #[])) (w.setCell ⟨b, 4, none⟩ (.int .i64 x))) := by
    rintro x rfl
    exact ⟨rfl, S, H.out.set4 _ HO.out, (Tch.refl S w).setCell (p := ⟨b, 4, none⟩) HI.out _, fun _ hk => Or.inl hk⟩
  by_cases h0 : 0 ≤ n
  · have HQ := HP n (by omega)
    clear HP
    go_enter Try.func31, Try.ntmps31
    go_wp2_with fail
    refine (made_yes w b d.n c0 h1).mono ?_
    rintro e w' ⟨rfl, rfl⟩
    go_wp2_with fail
    all_goals (first | (exfalso; omega) | exact ⟨rfl, .tuple #[], by simp [results, Try.results31, go_sem], HQ.out⟩)
  · have HQ := HP 0 (by omega)
    clear HP
    go_enter Try.func31, Try.ntmps31
    go_wp2_with fail
    refine (made_yes w b d.n c0 h1).mono ?_
    rintro e w' ⟨rfl, rfl⟩
    go_wp2_with fail
    all_goals (first | (exfalso; omega) | exact ⟨rfl, .tuple #[], by simp [results, Try.results31, go_sem], HQ.out⟩)
end Go.Proofs.Ytillckjohlbaiaa
