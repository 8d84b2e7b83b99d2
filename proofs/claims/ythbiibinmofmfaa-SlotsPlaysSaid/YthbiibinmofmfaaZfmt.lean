/- Contracts of slots' seal, Format and Load. -/
import Derived.Test.YthbiibinmofmfaaZrun

namespace Go.Proofs.Ythbiibinmofmfaa
set_option maxRecDepth 100000
open Go.RowKit

theorem header_cells (w : World) (s : List Nat) (hs : s.length = 512) : (storeCells ⟨w.heap.size, 0, none⟩ (vb s) 0).run Try.prog (w.alloc (.cells (vb zrow).toArray 100)) = .ok () (w.alloc (.cells (vb s).toArray 100)) := by
  have := run_storeCells_new (P := Try.prog) w 100 (vb zrow).toArray (vb s).toArray (by rw [header_size]; simp [vb_length, hs]) (by simp [vb_length, hs, zrow_length]) (all_oneCell_toArray (oneCell_vb s))
  simpa using this

/-- sv is a slice of values that do the steps xs. -/
def StSl (w : World) (E : Nat → Prop) (b : Nat) (sv : Value) (xs : List Sk.Step) : Prop := ∃ (a : Option Addr) (cap : Nat) (vs : List Value), sv = .slice a xs.length cap ∧ (a = none → cap = 0) ∧ xs.length ≤ cap ∧ StsAt w E b vs xs ∧
  (0 < xs.length → ∃ g, a = some ⟨g, 0, none⟩ ∧ E g ∧ g < w.heap.size ∧ ∀ i v, vs[i]? = some v → w.cell? ⟨g, i, none⟩ = some v)
theorem StSl.keep {w w' : World} {E : Nat → Prop} {b : Nat} {sv : Value} {xs : List Sk.Step} (h : StSl w E b sv xs) (hs : w.heap.size ≤ w'.heap.size) (he : ∀ k, E k → w'.heap[k]? = w.heap[k]?) : StSl w' E b sv xs := by
  obtain ⟨a, cap, vs, h1, h2, h2b, h3, h4⟩ := h
  refine ⟨a, cap, vs, h1, h2, h2b, h3.keep he, fun h0 => ?_⟩
  obtain ⟨g, q1, q2, q3, q4⟩ := h4 h0
  exact ⟨g, q1, q2, Nat.lt_of_lt_of_le q3 hs, fun i v hv => (World.cell?_of_block (a := ⟨g, i, none⟩) (he g q2)).trans (q4 i v hv)⟩
theorem StSl.mono {w : World} {E E' : Nat → Prop} {b : Nat} {sv : Value} {xs : List Sk.Step} (h : StSl w E b sv xs) (he : ∀ k, E k → E' k) : StSl w E' b sv xs := by
  obtain ⟨a, cap, vs, h1, h2, h2b, h3, h4⟩ := h
  refine ⟨a, cap, vs, h1, h2, h2b, h3.mono he, fun h0 => ?_⟩
  obtain ⟨g, q1, q2, q3, q4⟩ := h4 h0
  exact ⟨g, q1, he g q2, q3, q4⟩
/-- run over such a slice. -/
theorem run_sl {w : World} {S : Nat → Prop} {b : Nat} {d : Ek.Dk} (h : Dsk w S b d) (hS : ∀ k, S k → k < w.heap.size) {E : Nat → Prop} (hE : ∀ k, E k → ¬ S k ∧ k < w.heap.size) {sv : Value} {xs : List Sk.Step} (hx : 0 < xs.length) (hs : StSl w E b sv xs) (hu : d.used + xs.length < 1000) :
    Calls Try.prog 30 #[sv] w (DP w S b (Sk.runs d xs) (.int .i64 (Sk.runsE d xs))) := by
  obtain ⟨a, cap, vs, rfl, _, _, h3, h4⟩ := hs
  obtain ⟨g, rfl, q2, q3, q4⟩ := h4 hx
  exact run_any w S b d h hS E hE g cap _ vs xs h3.1.symm q2 q4 h3 hu

set_option maxRecDepth 100000 in
set_option maxHeartbeats 4000000 in
theorem seal_any (w : World) (b : Nat) (g sl sz sm : Nat) (hf : Sk.Fits ⟨g, sl, sz, sm⟩) :
    Calls Try.prog 34 #[.pointer (some ⟨b, 0, none⟩), .agg #[.int .i64 (g : Int), .int .i64 (sl : Int), .int .i64 (sz : Int), .int .i64 (sm : Int)]] w fun e w' => ∃ sv, e = .returned sv ∧ StSl w' (fun k => w.heap.size ≤ k ∧ k < w'.heap.size) b sv (Sk.shut ⟨g, sl, sz, sm⟩) ∧ Below w.heap.size w w' := by
  have hal := header_zero
  obtain ⟨w2, hw2⟩ : ∃ x, x = (w.alloc (.cells #[.pointer (some ⟨b, 0, none⟩)] 25)).alloc (.cells #[.int .i64 (g : Int), .int .i64 (sl : Int), .int .i64 (sz : Int), .int .i64 (sm : Int)] 67) := ⟨_, rfl⟩
  have HB2 : Hid (Below w.heap.size w w2) := by rw [hw2]; exact below2 w _ _
  have HD2 : Hid (Has w2 w.heap.size (.cells #[.pointer (some ⟨b, 0, none⟩)] 25 (0, 0))) := by rw [hw2]; exact (Has.new w _).alloc _
  have HS2 : Hid (Has w2 (w.heap.size + 1) (.cells #[.int .i64 (g : Int), .int .i64 (sl : Int), .int .i64 (sz : Int), .int .i64 (sm : Int)] 67 (0, 0))) := by
    have := Has.new (w.alloc (.cells #[.pointer (some ⟨b, 0, none⟩)] 25)) (.cells #[.int .i64 (g : Int), .int .i64 (sl : Int), .int .i64 (sz : Int), .int .i64 (sm : Int)] 67)
    rw [show (w.alloc (.cells #[.pointer (some ⟨b, 0, none⟩)] 25)).heap.size = w.heap.size + 1 by simp] at this
    rw [hw2]; exact this
  obtain ⟨HD, hHD⟩ : ∃ r, r = Sk.header ⟨g, sl, sz, sm⟩ := ⟨_, rfl⟩
  have HR : Hid (Row HD) := by show Row HD; rw [hHD]; exact Sk.header_row _
  have HC : Hid (∀ w : World, Calls Try.prog 60 #[.agg #[.int .i64 (g : Int), .int .i64 (sl : Int), .int .i64 (sz : Int), .int .i64 (sm : Int)]] w fun e w' => e = .returned (.agg (vb HD).toArray) ∧ Below w.heap.size w w') := fun w => by rw [hHD]; exact header_any g sl sz sm hf w
  have HSH : Hid (Sk.shut ⟨g, sl, sz, sm⟩ = [.put 0 HD, .sync]) := by show _ = _; rw [hHD]; rfl
  rw [HSH.out]
  have hvl : (vb HD).length = 512 := by rw [vb_length, HR.out.1]
  have ST := fun W : World => header_cells W HD HR.out.1
  have HW2 := Lib.hid hw2.symm
  clear hw2 hf hHD HSH
  go_enter Try.func34, Try.ntmps34
  go_wp2_with fail
  rw [HW2.out]
  have s0 := HS2.out.cell 0
  have s1 := HS2.out.cell 1
  have s2 := HS2.out.cell 2
  have s3 := HS2.out.cell 3
  clear HW2
  go_wp2_with fail
  refine (HC.out w2).mono ?_
  clear HC s0 s1 s2 s3
  rintro e w3 ⟨rfl, hb3⟩
  have HB3 := Lib.hid (HB2.out.trans (hb3.mono HB2.out.size))
  have HD3 := Lib.hid (Has.later HD2.out hb3)
  clear hb3 HB2 HD2 HS2
  have d0 : (w3.alloc (.cells (vb HD).toArray 100)).cell? ⟨w.heap.size, 0, none⟩ = some (.pointer (some ⟨b, 0, none⟩)) := (HD3.out.alloc _).cell 0
  go_wp2_with fail
  go_ret
  have e1 : (w3.alloc (.cells (vb HD).toArray 100)).heap.size = w3.heap.size + 1 := by simp
  have hz := HB3.out.size
  have hlt := HD3.out.lt
  have f1 := Has.new (w3.alloc (.cells (vb HD).toArray 100)) (.cells #[.func (.func 61) #[] #[.pointer (some ⟨w.heap.size, 0, none⟩), .pointer (some ⟨w3.heap.size, 0, none⟩)], .func (.func 33) #[.pointer (some ⟨b, 0, none⟩)] #[]] 77)
  have f2 := (Has.new w3 (.cells (vb HD).toArray 100)).alloc (.cells #[.func (.func 61) #[] #[.pointer (some ⟨w.heap.size, 0, none⟩), .pointer (some ⟨w3.heap.size, 0, none⟩)], .func (.func 33) #[.pointer (some ⟨b, 0, none⟩)] #[]] 77)
  have f3 := (HD3.out.alloc (.cells (vb HD).toArray 100)).alloc (.cells #[.func (.func 61) #[] #[.pointer (some ⟨w.heap.size, 0, none⟩), .pointer (some ⟨w3.heap.size, 0, none⟩)], .func (.func 33) #[.pointer (some ⟨b, 0, none⟩)] #[]] 77)
  rw [e1] at f1
  have f4 := f1.lt
  have f5 := f2.lt
  refine ⟨_, rfl, ⟨some ⟨w3.heap.size + 1, 0, none⟩, 2, [.func (.func 61) #[] #[.pointer (some ⟨w.heap.size, 0, none⟩), .pointer (some ⟨w3.heap.size, 0, none⟩)], .func (.func 33) #[.pointer (some ⟨b, 0, none⟩)] #[]], rfl, fun h => (by cases h), Nat.le_refl _, (StsAt.one (v := .func (.func 61) #[] #[.pointer (some ⟨w.heap.size, 0, none⟩), .pointer (some ⟨w3.heap.size, 0, none⟩)]) (x := .put 0 HD) ?_).append (StsAt.one (v := .func (.func 33) #[.pointer (some ⟨b, 0, none⟩)] #[]) (x := .sync) rfl), fun _ => ⟨_, rfl, ⟨by omega, f4⟩, f4, fun i v hv => ?_⟩⟩, HB3.out.trans (((below1 w3 _).trans ((below1 _ _).mono (by rw [e1]; omega))).mono hz)⟩
  · exact Or.inr ⟨rfl, _, _, rfl, f3.cell 0, f2, HR.out, ⟨Nat.le_refl _, by omega⟩, ⟨hz, f5⟩⟩
  · rw [f1.cell]
    rcases i with _ | _ | i
    · exact hv
    · exact hv
    · simp at hv

set_option maxHeartbeats 2000000 in
theorem format_any (w : World) (S : Nat → Prop) (b : Nat) (d : Ek.Dk) (h : Dsk w S b d) (hS : ∀ k, S k → k < w.heap.size) (hu : d.used ≤ 900) : Calls Try.prog 12 #[.pointer (some ⟨b, 0, none⟩)] w (DP w S b (Sk.format d) (.int .i64 (Sk.formatE d))) := by
  have HC := Lib.hid (check_any w S b d h)
  by_cases hn : d.n < 3
  · have e1 : Sk.format d = d := by unfold Sk.format; rw [if_pos hn]
    have e2 : Sk.formatE d = 7 := by unfold Sk.formatE; rw [if_pos hn]
    rw [e1, e2]
    rw [if_pos hn] at HC
    have HQ := Lib.hid (dp_same h (.int .i64 7))
    clear h hS hu hn e1 e2
    go_enter Try.func12, Try.ntmps12
    go_wp2_with fail
    refine HC.out.mono ?_
    rintro e w' ⟨rfl, rfl⟩
    go_wp2_with fail
    go_ret
    exact HQ.out
  · have e1 : Sk.format d = Sk.runs d (Sk.shut ⟨0, 0, 0, 0⟩) := by unfold Sk.format; rw [if_neg hn]
    have e2 : Sk.formatE d = Sk.runsE d (Sk.shut ⟨0, 0, 0, 0⟩) := by unfold Sk.formatE; rw [if_neg hn]
    rw [e1, e2]
    rw [if_neg hn] at HC
    have HSE := Lib.hid (seal_any w b 0 0 0 0 ⟨by decide, by decide, by decide, by decide⟩)
    have HRUN : Hid (∀ w2 sv, Below w.heap.size w w2 → StSl w2 (fun k => w.heap.size ≤ k ∧ k < w2.heap.size) b sv (Sk.shut ⟨0, 0, 0, 0⟩) → Calls Try.prog 30 #[sv] w2 (DP w S b (Sk.runs d (Sk.shut ⟨0, 0, 0, 0⟩)) (.int .i64 (Sk.runsE d (Sk.shut ⟨0, 0, 0, 0⟩))))) := fun w2 sv hb hs => by
      have hz := hb.size
      exact (run_sl (h.later hb) (fun k hk => by have := hS k hk; omega) (E := fun k => w.heap.size ≤ k ∧ k < w2.heap.size) (fun k hk => ⟨fun q => by have := hS k q; omega, hk.2⟩) (by simp [Sk.shut]) hs (by show d.used + 2 < 1000; omega)).mono fun e w' hp => hp.base hb
    generalize Sk.runsE d (Sk.shut ⟨0, 0, 0, 0⟩) = OE at HRUN ⊢
    generalize Sk.runs d (Sk.shut ⟨0, 0, 0, 0⟩) = D at HRUN ⊢
    generalize Sk.shut ⟨0, 0, 0, 0⟩ = XS at HSE HRUN
    clear h hS hu hn e1 e2
    go_enter Try.func12, Try.ntmps12
    go_wp2_with fail
    refine HC.out.mono ?_
    rintro e w' ⟨rfl, rfl⟩
    go_wp2_with fail
    refine HSE.out.mono ?_
    clear HSE HC
    rintro e w2 ⟨sv, rfl, hs, hb⟩
    have HR := Lib.hid (HRUN.out w2 sv hb hs)
    obtain ⟨a, cap, vs, rfl, _⟩ := hs
    clear hb HRUN
    go_wp2_with fail
    refine HR.out.mono ?_
    clear HR
    rintro e w3 hq
    have he := hq.1
    subst he
    have HQ := Lib.hid hq
    clear hq
    go_wp2_with fail
    go_ret
    exact HQ.out
set_option maxHeartbeats 1000000 in
theorem nod_format {w : World} {v : Value} (h : NoD w v) : Calls Try.prog 12 #[v] w fun e w' => e = .returned (.int .i64 1) ∧ w = w' := by
  have HC := Lib.hid (nod_check h)
  clear h
  go_enter Try.func12, Try.ntmps12
  go_wp2_with fail
  refine HC.out.mono ?_
  rintro e w' ⟨rfl, rfl⟩
  go_wp2_with fail
  go_ret
  exact ⟨rfl, rfl⟩

theorem load_any (w : World) (S : Nat → Prop) (b : Nat) (d : Ek.Dk) (h : Dsk w S b d) : Calls Try.prog 27 #[.pointer (some ⟨b, 0, none⟩)] w (LdPost w d) := by
  by_cases hn : d.n < 3
  · exact load_few w S b d h hn
  · exact load_more w S b d h hn
/-- What Load leaves. -/
def LoPost (w : World) (d : Ek.Dk) (e : Ending) (w' : World) : Prop := Below w.heap.size w w' ∧ ∃ a cap, e = .returned (.tuple #[.slice a (Sk.loadB d).length cap, .int .i64 ((Sk.loadG d : Nat) : Int), .int .i64 (Sk.loadE d)]) ∧ Sl w' (.slice a (Sk.loadB d).length cap) (Sk.loadB d) ∧ ∀ g off spot, a = some ⟨g, off, spot⟩ → w.heap.size ≤ g
set_option maxRecDepth 100000 in
set_option maxHeartbeats 2000000 in
theorem Load_any (w : World) (S : Nat → Prop) (b : Nat) (d : Ek.Dk) (h : Dsk w S b d) : Calls Try.prog 18 #[.pointer (some ⟨b, 0, none⟩)] w (LoPost w d) := by
  have HL := Lib.hid (load_any w S b d h)
  have hok := h.ok
  by_cases hz : Sk.loadE d = 0
  · have hF := Sk.fits_told (Ek.now_row hok 0).2
    have hB : Sk.loadG d = (Sk.says d).gen := by unfold Sk.loadG; rw [if_pos hz]
    have HC : Hid (Calls Try.prog 27 #[.pointer (some ⟨b, 0, none⟩)] w fun e w' => Below w.heap.size w w' ∧ ∃ a cap, e = .returned (.tuple #[sts (Sk.says d), .slice a (Sk.says d).size cap, .int .i64 0]) ∧ Mine w' w.heap.size a (Sk.says d).size cap (Sk.loadB d)) := HL.out.mono fun e w' hp => by
      obtain ⟨h1, h2⟩ := hp
      rcases h2 with ⟨h2, _⟩ | ⟨_, h2⟩
      · exact absurd hz h2
      · exact ⟨h1, h2⟩
    have HQ : Hid (∀ w' a cap, Below w.heap.size w w' → Mine w' w.heap.size a (Sk.says d).size cap (Sk.loadB d) → (Sk.says d).size ≤ 1048576 → LoPost w d (.returned (.tuple #[.slice a (Sk.says d).size cap, .int .i64 (((Sk.says d).gen : Nat) : Int), .int .i64 0])) w') := fun w' a cap hb hm hl => by
      refine ⟨hb, a, cap, ?_, ?_, fun g off spot he => ?_⟩
      · rw [hm.2.1, hB, hz]
      · rw [← hm.2.1]; exact hm.sl (by omega)
      · subst he
        rcases hm.1.2 with ⟨q, _⟩ | ⟨g', c', cur, q, q2, _⟩
        · cases q
        · injection q with q1; injection q1 with q1; injection q1 with q1; rw [q1]; exact q2
    have hsz : (Sk.says d).size ≤ 1048576 := by
      have h2 := hz
      unfold Sk.loadE at h2
      by_cases c1 : d.n < 3
      · rw [if_pos c1] at h2; exact absurd h2 (by decide)
      rw [if_neg c1] at h2
      by_cases c2 : d.dark = true
      · rw [if_pos c2] at h2; exact absurd h2 (by decide)
      rw [if_neg c2] at h2
      by_cases c3 : ¬ Sk.Right (Ek.now d 0) ∨ 1 < (Sk.says d).slot ∨ Sk.room d.n < (Sk.says d).size
      · rw [if_pos c3] at h2; exact absurd h2 (by decide)
      · have : ¬ Sk.room d.n < (Sk.says d).size := fun q => c3 (Or.inr (Or.inr q))
        have : Sk.room d.n ≤ 1048576 := by unfold Sk.room; split <;> omega
        omega
    change Sk.Fits (Sk.says d) at hF
    have HSZ := Lib.hid hsz
    generalize Sk.says d = s at HC HQ HSZ
    generalize Sk.loadB d = B at HC HQ
    obtain ⟨g, sl, sz, sm⟩ := s
    unfold sts at HC
    dsimp only at HC HQ HSZ
    clear hok h hF hB hz hsz HL
    go_enter Try.func18, Try.ntmps18
    go_wp2_with fail
    refine HC.out.mono ?_
    clear HC
    rintro e w2 ⟨hb, a, cap, rfl, hm⟩
    have HB := Lib.hid hb
    have HM := Lib.hid hm
    clear hb hm
    go_wp2_with fail
    have q0 : (w2.alloc (.cells #[.int .i64 (g : Int), .int .i64 (sl : Int), .int .i64 (sz : Int), .int .i64 (sm : Int)] 67)).cell? ⟨w2.heap.size, 0, none⟩ = some (.int .i64 (g : Int)) := (Has.new w2 (.cells #[.int .i64 (g : Int), .int .i64 (sl : Int), .int .i64 (sz : Int), .int .i64 (sm : Int)] 67)).cell 0
    have HB3 : Hid (Below w.heap.size w (w2.alloc (.cells #[.int .i64 (g : Int), .int .i64 (sl : Int), .int .i64 (sz : Int), .int .i64 (sm : Int)] 67))) := HB.out.trans ((below1 w2 _).mono HB.out.size)
    have HM3 : Hid (Mine (w2.alloc (.cells #[.int .i64 (g : Int), .int .i64 (sl : Int), .int .i64 (sz : Int), .int .i64 (sm : Int)] 67)) w.heap.size a sz cap B) := ⟨own_same HM.out.1 (fun q hq => Below.heap_alloc w2 _ q (HM.out.1.lt q hq).2), HM.out.2⟩
    generalize w2.alloc (.cells #[.int .i64 (g : Int), .int .i64 (sl : Int), .int .i64 (sz : Int), .int .i64 (sm : Int)] 67) = w3 at q0 HB3 HM3 ⊢
    clear HB HM
    go_region
    go_wp2_with fail
    refine bodyPost_ret (v := .tuple #[.slice a sz cap, .int .i64 (g : Int), .int .i64 0]) (by simp [results, Try.results18, go_sem]) rfl (HQ.out _ a cap ?_ ?_ HSZ.out)
    · exact below_drewN HB3.out 1
    · exact HM3.out
  · have hB : Sk.loadB d = [] := by unfold Sk.loadB; rw [if_neg hz]
    have hG : Sk.loadG d = 0 := by unfold Sk.loadG; rw [if_neg hz]
    have HC : Hid (Calls Try.prog 27 #[.pointer (some ⟨b, 0, none⟩)] w fun e w' => e = .returned (.tuple #[zst, .slice none 0 0, .int .i64 (Sk.loadE d)]) ∧ Below w.heap.size w w') := HL.out.mono fun e w' hp => by
      obtain ⟨h1, h2⟩ := hp
      rcases h2 with ⟨_, h2⟩ | ⟨h2, _⟩
      · exact ⟨h2, h1⟩
      · exact absurd h2 hz
    have HQ : Hid (∀ w', Below w.heap.size w w' → LoPost w d (.returned (.tuple #[.slice none 0 0, .int .i64 0, .int .i64 (Sk.loadE d)])) w') := fun w' hb => by
      refine ⟨hb, none, 0, by rw [hB, hG]; rfl, ?_, fun g off spot he => by cases he⟩
      rw [hB]; exact Sl.nil _
    unfold zst at HC
    generalize Sk.loadE d = LE at HC HQ
    clear hok h hB hG hz HL
    go_enter Try.func18, Try.ntmps18
    go_wp2_with fail
    refine HC.out.mono ?_
    clear HC
    rintro e w2 ⟨rfl, hb⟩
    have HB := Lib.hid hb
    clear hb
    go_wp2_with fail
    have q0 : (w2.alloc (.cells #[.int .i64 0, .int .i64 0, .int .i64 0, .int .i64 0] 67)).cell? ⟨w2.heap.size, 0, none⟩ = some (.int .i64 0) := (Has.new w2 (.cells #[.int .i64 0, .int .i64 0, .int .i64 0, .int .i64 0] 67)).cell 0
    have HB3 : Hid (Below w.heap.size w (w2.alloc (.cells #[.int .i64 0, .int .i64 0, .int .i64 0, .int .i64 0] 67))) := HB.out.trans ((below1 w2 _).mono HB.out.size)
    generalize w2.alloc (.cells #[.int .i64 0, .int .i64 0, .int .i64 0, .int .i64 0] 67) = w3 at q0 HB3 ⊢
    clear HB
    go_region
    go_wp2_with fail
    refine bodyPost_ret (v := .tuple #[.slice none 0 0, .int .i64 0, .int .i64 LE]) (by simp [results, Try.results18, go_sem]) rfl (HQ.out _ ?_)
    exact below_drewN HB3.out 1

set_option maxHeartbeats 2000000 in
theorem nod_Load {w : World} {v : Value} (h : NoD w v) : Calls Try.prog 18 #[v] w fun e w' => e = .returned (.tuple #[.slice none 0 0, .int .i64 0, .int .i64 1]) ∧ Below w.heap.size w w' := by
  have HC := Lib.hid (nod_load h)
  unfold zst at HC
  clear h
  go_enter Try.func18, Try.ntmps18
  go_wp2_with fail
  refine HC.out.mono ?_
  clear HC
  rintro e w2 ⟨rfl, hb⟩
  have HB := Lib.hid hb
  clear hb
  go_wp2_with fail
  have q0 : (w2.alloc (.cells #[.int .i64 0, .int .i64 0, .int .i64 0, .int .i64 0] 67)).cell? ⟨w2.heap.size, 0, none⟩ = some (.int .i64 0) := (Has.new w2 (.cells #[.int .i64 0, .int .i64 0, .int .i64 0, .int .i64 0] 67)).cell 0
  have HB3 : Hid (Below w.heap.size w (w2.alloc (.cells #[.int .i64 0, .int .i64 0, .int .i64 0, .int .i64 0] 67))) := HB.out.trans ((below1 w2 _).mono HB.out.size)
  generalize w2.alloc (.cells #[.int .i64 0, .int .i64 0, .int .i64 0, .int .i64 0] 67) = w3 at q0 HB3 ⊢
  clear HB
  go_region
  go_wp2_with fail
  refine bodyPost_ret (v := .tuple #[.slice none 0 0, .int .i64 0, .int .i64 1]) (by simp [results, Try.results18, go_sem]) rfl ⟨rfl, ?_⟩
  exact below_drewN HB3.out 1
end Go.Proofs.Ythbiibinmofmfaa
