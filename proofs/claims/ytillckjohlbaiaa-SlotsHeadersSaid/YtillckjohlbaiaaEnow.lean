/- Contracts of sector.now, Read. -/
import Derived.Test.YtillckjohlbaiaaEsml
import Derived.Laws.ResultCell

namespace Go.Proofs.Ytillckjohlbaiaa
set_option maxRecDepth 100000
open Go.RowKit

theorem row_alloc (w : World) (old : Value) : (Instr.alloc 113 true old).run Try.prog w = .ok (.pointer (some ⟨w.heap.size, 0, none⟩)) (w.alloc (.cells (vb zrow).toArray 113)) :=
  run_alloc_zero w _ _ old row_zero
theorem row_all (r : List Nat) : (vb r).toArray.all (·.oneCell') = true := all_oneCell_toArray (oneCell_vb r)
theorem row_info (r : List Nat) (h : r.length = 512) : (Try.prog.info? 113).map (·.size) = some (vb r).toArray.size := by
  rw [row_size]; simp [vb_length, h]
/-- A row into a variable that was just made; out of it. -/
theorem row_store (w : World) (r s : List Nat) (hr : r.length = 512) (hs : s.length = 512) : (Instr.storeAt 113 (.pointer (some ⟨w.heap.size, 0, none⟩)) (.agg (vb s).toArray)).run Try.prog (w.alloc (.cells (vb r).toArray 113)) = .ok () (w.alloc (.cells (vb s).toArray 113)) :=
  run_storeAt_new w _ _ _ (row_info s hs) (by simp [vb_length, hr, hs]) (row_all s)
theorem row_cells (w : World) (r s : List Nat) (hr : r.length = 512) (hs : s.length = 512) : (storeCells ⟨w.heap.size, 0, none⟩ (vb s) 0).run Try.prog (w.alloc (.cells (vb r).toArray 113)) = .ok () (w.alloc (.cells (vb s).toArray 113)) := by
  have := run_storeCells_new (P := Try.prog) w 113 (vb r).toArray (vb s).toArray (row_info s hs) (by simp [vb_length, hr, hs]) (row_all s)
  simpa using this
theorem row_load (w : World) (r : List Nat) (hr : r.length = 512) : (Instr.loadAt 113 (.pointer (some ⟨w.heap.size, 0, none⟩))).run Try.prog (w.alloc (.cells (vb r).toArray 113)) = .ok (.agg (vb r).toArray) (w.alloc (.cells (vb r).toArray 113)) :=
  run_loadAt_new w _ _ _ _ Try.underlying113 (row_info r hr)
theorem row_loadVar (w : World) (r : List Nat) (hr : r.length = 512) : (loadVar 113 ⟨w.heap.size, 0, none⟩).run Try.prog (w.alloc (.cells (vb r).toArray 113)) = .ok (.agg (vb r).toArray) (w.alloc (.cells (vb r).toArray 113)) :=
  run_loadVar_new w _ _ _ _ Try.underlying113 (row_info r hr)

/-- What is sure of a sector, looked up. -/
theorem look_sure {w : World} {bm ns : Nat} {fs : Nat → Option Value} {s : Nat → List Nat} (h : Mp w bm ns fs) (hs : ∀ i, fs i = some (.agg (vb (s i)).toArray) ∨ (fs i = none ∧ s i = zrow)) (i : Nat) (hi : i < 9223372036854775808) :
    (Instr.lookup 92 (.map (some bm)) (.int .i64 (i : Int)) false).run Try.prog w = .ok (.agg (vb (s i)).toArray) w := by
  rcases hs i with h1 | ⟨h1, h2⟩
  · exact h.look_some (P := Try.prog) Try.underlying3 Try.underlying92 false i hi h1
  · rw [h2]
    exact h.look_none (P := Try.prog) Try.underlying3 Try.underlying92 (row_zero w) false i hi h1

/-- A loose write, read where it lies. -/
theorem own_write {w : World} {lo : Value} {l : List (Nat × List Nat)} (h : w.ownsRow 0 115 513 lo l.length (vws l)) (hl : ∀ p ∈ l, Row p.2) (k : Nat) (p : Nat × List Nat) (hk : l[k]? = some p) :
    ∃ g cap, lo = .slice (some ⟨g, 0, none⟩) l.length cap ∧ k < l.length ∧ g < w.heap.size ∧ w.rangeAt g (k * 513) (vw p.1 p.2) := by
  have hkl : k < l.length := (List.getElem?_eq_some_iff.1 hk).1
  rcases h.2 with ⟨rfl, h0⟩ | ⟨g, cap, cur, rfl, hb, hg, hc1, hc2, hc3, hc4⟩
  · omega
  · refine ⟨g, cap, rfl, hkl, (Array.getElem?_eq_some_iff.1 hg).1, fun j v hv => ?_⟩
    have hj : j < 513 := by have := (List.getElem?_eq_some_iff.1 hv).1; rw [vw_length _ _ (hl p (List.mem_of_getElem? hk)).1] at this; exact this
    have e := vws_get l hl k j p hk hj
    rw [← hc4, List.getElem?_take_of_lt (by omega)] at e
    rw [cell_of_row w g _ _ _ _ hg, ← Array.getElem?_toList, e]
    exact hv

/-- A result that lies in a cell. -/
theorem results_cell_one {P : Program} {fn : Func} {p : Tmp} {ty : TypeId} (h : fn.results = #[.cell p ty]) {tmps : Array Value} {a : Addr} {v : Value} {w : World} (ha : tmps.getD p undef = .pointer (some a)) (hl : (loadVar ty a).run P w = .ok v w) : (results fn tmps).run P w = .ok v w := by
  simp only [results, h]
  have ha' : tmps[p]?.getD undef = .pointer (some a) := by simpa using ha
  simp only [List.mapM_toArray, List.mapM_cons, List.mapM_nil, Sem.run_bind, asAddr, Array.getD_eq_getD_getElem?, ha']
  simp [hl]

set_option maxHeartbeats 2000000 in
theorem now_any (w : World) (S : Nat → Prop) (b : Nat) (d : Ek.Dk) (i : Nat) (hi : i < d.n) (h : Dsk w S b d) : Calls Try.prog 86 #[.pointer (some ⟨b, 0, none⟩), .int .i64 (i : Int)] w fun e w' => e = .returned (.agg (vb (Ek.now d i)).toArray) ∧ Below w.heap.size w w' := by
  have h1 := h.ok.hi
  have hal := row_zero
  have hrow := (Ek.now_row h.ok i).1
  have hlr := fun p hp => (h.ok.loose p hp).2
  have hcount := h.ok.count
  have hused := h.ok.used
  obtain ⟨bm, bl, ns, lo, fs, hh, hm, hs, hl, ho, hrest⟩ := h
  clear hrest
  obtain ⟨c0, c1, c2, c3, c4⟩ := has6 (hh.alloc (.cells (vb zrow).toArray 113))
  clear hh c0 c4
  cases hk : Ek.lastOf d.loose i with
  | none =>
    have L0 := (hl.alloc (.cells (vb zrow).toArray 113)).look_none (P := Try.prog) (z := .int .i64 0) Try.underlying3 Try.underlying93 (by simp [go_sem]) true i (by omega) (by simp [hk])
    have L : ((Instr.lookup 93 (.map (some bl)) (.int .i64 (i : Int)) true).run Try.prog (w.alloc (.cells (vb zrow).toArray 113))) = .ok (.tuple #[.int .i64 0, .bool false]) _ := L0
    have M := look_sure (hm.alloc (.cells (vb zrow).toArray 113)) hs i (by omega)
    have e : Ek.now d i = d.sure i := by unfold Ek.now; rw [hk]
    rw [e] at hrow ⊢
    generalize d.sure i = r at M hrow ⊢
    have ST := row_cells w zrow r zrow_length hrow
    have hvl : (vb r).length = 512 := by rw [vb_length, hrow]
    have LD := row_loadVar w r hrow
    clear L0 hs hl ho hk hm hlr e hcount hused
    go_enter Try.func86, Try.ntmps86
    go_wp2_with fail
    exact bodyPost_ret (v := .agg (vb r).toArray) (results_cell_one Try.results86 rfl LD) rfl ⟨rfl, below1 _ _⟩
  | some k =>
    obtain ⟨hkl, hkp⟩ := Ek.lastTo_lt hk
    obtain ⟨p, hp⟩ : ∃ p, d.loose[k]? = some p := ⟨_, List.getElem?_eq_getElem hkl⟩
    have L0 := (hl.alloc (.cells (vb zrow).toArray 113)).look_some (P := Try.prog) (v := .int .i64 (k : Int)) Try.underlying3 Try.underlying93 true i (by omega) (by simp [hk])
    have L : ((Instr.lookup 93 (.map (some bl)) (.int .i64 (i : Int)) true).run Try.prog (w.alloc (.cells (vb zrow).toArray 113))) = .ok (.tuple #[.int .i64 (k : Int), .bool true]) _ := L0
    have e : Ek.now d i = p.2 := by unfold Ek.now; rw [hk]; simp [hp]
    obtain ⟨g, cap, rfl, hkk, hg, hr⟩ := own_write ho hlr k p hp
    have hr1 : w.rangeAt g (k * 513 + 1) (vb p.2) := fun j v hv => by
      have := hr (j + 1) v (by simpa [vw] using hv)
      rw [show k * 513 + 1 + j = k * 513 + (j + 1) by omega]; exact this
    rw [e] at hrow ⊢
    generalize p.2 = r at hr1 hrow ⊢
    have HR := Lib.hid (World.rangeAt_alloc hr1 (.cells (vb zrow).toArray 113))
    have HI : Hid ((Try.prog.info? 113).map (·.size) = some (vb r).length) := by show _ = _; rw [row_size, vb_length, hrow]
    have ST := row_cells w zrow r zrow_length hrow
    have hvl : (vb r).length = 512 := by rw [vb_length, hrow]
    have LD := row_loadVar w r hrow
    have hlen : d.loose.length < 9223372036854775808 := by omega
    generalize d.loose.length = m at hkk c2 hlen
    clear L0 hs hl ho hk hm hlr e hcount hused hr hr1 hp hkp hkl
    go_enter Try.func86, Try.ntmps86
    go_wp2_with (refine wpList_load_mid rfl 113 _ rfl g (k * 513 + 1) rfl (vb r) _ HR.out Try.underlying113 rfl HI.out ?_)
    exact bodyPost_ret (v := .agg (vb r).toArray) (results_cell_one Try.results86 rfl LD) rfl ⟨rfl, below1 _ _⟩

/-- What Read leaves. -/
def RdPost (w : World) (d : Ek.Dk) (i : Int) (e : Ending) (w' : World) : Prop := Below w.heap.size w w' ∧
  ((Ek.readE d i ≠ 0 ∧ e = .returned (.tuple #[.slice none 0 0, .int .i64 (Ek.readE d i)])) ∨
   (Ek.readE d i = 0 ∧ ∃ g, e = .returned (.tuple #[.slice (some ⟨g, 0, none⟩) 512 512, .int .i64 0]) ∧ w.heap.size ≤ g ∧ Has w' g (.cells (vb (Ek.now d i.toNat)).toArray 113 (0, 0))))

set_option maxHeartbeats 2000000 in
theorem read_any (w : World) (S : Nat → Prop) (b : Nat) (d : Ek.Dk) (i : Int) (h : Dsk w S b d) : Calls Try.prog 50 #[.pointer (some ⟨b, 0, none⟩), .int .i64 i] w (RdPost w d i) := by
  have h1 := h.ok.lo
  have hal := row_zero
  have NOW := fun (j : Nat) (hj : j < d.n) => now_any w S b d j hj h
  have hrow := fun j => (Ek.now_row h.ok j).1
  obtain ⟨bm, bl, ns, lo, fs, hh, hrest⟩ := h
  clear hrest
  obtain ⟨c0, _, _, _, _, c5, _⟩ := has6 hh
  clear hh
  by_cases hi : 0 ≤ i ∧ i < (d.n : Int)
  · obtain ⟨j, rfl⟩ : ∃ j : Nat, i = (j : Int) := ⟨i.toNat, by omega⟩
    have hq : decide (0 ≤ (j : Int) ∧ (j : Int) < (d.n : Int)) = true := by simpa using hi
    have HA := has_any w b d.n (j : Int) c0
    rw [hq] at HA
    have hn : ¬ ((j : Int) < 0 ∨ (d.n : Int) ≤ (j : Int)) := by omega
    by_cases hd : d.dark = true
    · have e : Ek.readE d (j : Int) = 6 := by unfold Ek.readE; rw [if_neg hn, if_pos hd]
      have HP : Hid (RdPost w d (j : Int) (.returned (.tuple #[.slice none 0 0, .int .i64 6])) w) := ⟨Below.refl _ _, Or.inl ⟨by rw [e]; decide, by rw [e]⟩⟩
      rw [hd] at c5
      clear hn hq hi e NOW hrow hd
      go_enter Try.func50, Try.ntmps50
      go_wp2_with fail
      refine (made_yes w b d.n c0 h1).mono ?_
      rintro e w' ⟨rfl, rfl⟩
      go_wp2_with fail
      refine HA.mono ?_
      rintro e w' ⟨rfl, rfl⟩
      go_wp2_with fail
      go_ret2
      exact HP.out
    · have hd' : d.dark = false := by simpa using hd
      rw [hd'] at c5
      have e : Ek.readE d (j : Int) = 0 := by unfold Ek.readE; rw [if_neg hn, if_neg hd]
      have HR := hrow j
      have HN := NOW j (by omega)
      have HP : ∀ (w1 w2 : World) (g : Nat), Below w.heap.size w w1 → w2 = w1.alloc (.cells (vb (Ek.now d j)).toArray 113) → g = w1.heap.size → Hid (RdPost w d (j : Int) (.returned (.tuple #[.slice (some ⟨g, 0, none⟩) 512 512, .int .i64 0])) w2) := by
        rintro w1 w2 g hb rfl rfl
        exact ⟨hb.alloc hb.size _, Or.inr ⟨e, _, rfl, hb.size, Has.new _ _⟩⟩
      clear hn hq hi e NOW hrow hd hd'
      generalize Ek.now d j = r at HN HP HR
      have hvl : (vb r).length = 512 := by rw [vb_length, HR]
      go_enter Try.func50, Try.ntmps50
      go_wp2_with fail
      refine (made_yes w b d.n c0 h1).mono ?_
      rintro e w' ⟨rfl, rfl⟩
      go_wp2_with fail
      refine HA.mono ?_
      rintro e w' ⟨rfl, rfl⟩
      go_wp2_with fail
      refine HN.mono ?_
      rintro e w1 ⟨rfl, hb⟩
      have HQ := HP w1 _ _ hb rfl rfl
      clear HP hb
      have ST := row_cells w1 zrow r zrow_length HR
      go_wp2_with fail
      go_ret2
      exact HQ.out
  · have hq : decide (0 ≤ i ∧ i < (d.n : Int)) = false := by simpa using hi
    have HA := has_any w b d.n i c0
    rw [hq] at HA
    have hn : (i < 0 ∨ (d.n : Int) ≤ i) := by omega
    have e : Ek.readE d i = 2 := by unfold Ek.readE; rw [if_pos hn]
    have HP : Hid (RdPost w d i (.returned (.tuple #[.slice none 0 0, .int .i64 2])) w) := ⟨Below.refl _ _, Or.inl ⟨by rw [e]; decide, by rw [e]⟩⟩
    clear hn hq hi e NOW hrow
    go_enter Try.func50, Try.ntmps50
    go_wp2_with fail
    refine (made_yes w b d.n c0 h1).mono ?_
    rintro e w' ⟨rfl, rfl⟩
    go_wp2_with fail
    refine HA.mono ?_
    rintro e w' ⟨rfl, rfl⟩
    go_wp2_with fail
    go_ret2
    exact HP.out
end Go.Proofs.Ytillckjohlbaiaa
