/- Locks: free, of one lock; slices.Delete of the first client. -/
import Derived.Test.YtoipmdemicdhoaaQdf

namespace Go.Proofs.Ytoipmdemicdhoaa
set_option maxRecDepth 100000
open Go.RowKit

/-- The holders' list was turned in its own block, and stored. -/
theorem LckV.less {w w2 w3 : World} {c g k cap : Nat} {O : Nat → Prop} {s : Qk.St} {hv rv : Value} {xs : List Nat} (h : LckV w c O s hv rv) (hb : Below w.heap.size w w2) (hg : hv.ownBlock = some g) (ho : w3.ownsRow 0 3 1 (.slice (some ⟨g, 0, none⟩) k cap) k (qn xs)) (hk : k = xs.length) (hw : Only g w2 w3) :
    LckV (w3.setCell ⟨c, 0, none⟩ (.slice (some ⟨g, 0, none⟩) k cap)) c O ⟨xs, s.wr, s.row⟩ (.slice (some ⟨g, 0, none⟩) k cap) rv ∧ Nxt O w O (w3.setCell ⟨c, 0, none⟩ (.slice (some ⟨g, 0, none⟩) k cap)) := by
  have h2 := h.later hb
  have hcl := h2.lt c h2.mine
  have hgc : g ≠ c := fun e => qo_ne h2.h h2.has (by decide) (by rw [hg, e])
  have hrg : ∀ q, rv.ownBlock = some q → q ≠ g := fun q hq e => qo_ne2 h2.r h2.h (by decide) q hq (by rw [hg, e])
  have hrc : ∀ q, rv.ownBlock = some q → q ≠ c := fun q hq e => qo_ne h2.r h2.has (by decide) (by rw [hq, e])
  have hc3 : Has w3 c (.cells #[hv, .bool s.wr, rv] 67 (0, 0)) := h2.has.only hw (Ne.symm hgc)
  have hc4 := hc3.setSelf (i := 0) (.slice (some ⟨g, 0, none⟩) k cap)
  have hst : ∀ q, q ≠ c → (w3.setCell ⟨c, 0, none⟩ (.slice (some ⟨g, 0, none⟩) k cap)).heap[q]? = w3.heap[q]? := fun q hq => Below.heap_setCell w3 ⟨c, 0, none⟩ _ q hq
  have hz : (w3.setCell ⟨c, 0, none⟩ (.slice (some ⟨g, 0, none⟩) k cap)).heap.size = w3.heap.size := by simp
  subst hk
  refine ⟨⟨hc4, qo_same ho (fun q hq => hst q (by cases hq; exact hgc)), qo_same h2.r (fun q hq => ?_), h.mine, fun q hq => by cases hq; exact h.ho _ hg, h.ro, fun q hq => ?_⟩, ⟨⟨?_, ?_, ?_, ?_, fun q hq hn => ?_⟩, fun q hq => Or.inl hq⟩⟩
  · rw [hst q (hrc q hq)]
    exact hw.block q (World.ownsRow.lt h2.r q hq).2 (hrg q hq)
  · rw [hz]; exact Nat.lt_of_lt_of_le (h2.lt q hq) hw.size
  · exact hw.os.trans hb.os
  · exact hw.tape.trans hb.tape
  · exact hw.output.trans hb.output
  · rw [hz]; exact Nat.le_trans hb.size hw.size
  · rw [hst q (fun e => hn (by rw [e]; exact h.mine)), hw.block q (Nat.lt_of_lt_of_le hq hb.size) (fun e => hn (by rw [e]; exact h.ho _ hg))]
    exact hb.block q hq
/-- .. so the row's. -/
theorem LckV.lessR {w w2 w3 : World} {c g k cap : Nat} {O : Nat → Prop} {s : Qk.St} {hv rv : Value} {xs : List (Nat × Bool)} (h : LckV w c O s hv rv) (hb : Below w.heap.size w w2) (hg : rv.ownBlock = some g) (ho : w3.ownsRow 0 70 2 (.slice (some ⟨g, 0, none⟩) k cap) k (qc xs)) (hk : k = xs.length) (hw : Only g w2 w3) :
    LckV (w3.setCell ⟨c, 2, none⟩ (.slice (some ⟨g, 0, none⟩) k cap)) c O ⟨s.hs, s.wr, xs⟩ hv (.slice (some ⟨g, 0, none⟩) k cap) ∧ Nxt O w O (w3.setCell ⟨c, 2, none⟩ (.slice (some ⟨g, 0, none⟩) k cap)) := by
  have h2 := h.later hb
  have hcl := h2.lt c h2.mine
  have hgc : g ≠ c := fun e => qo_ne h2.r h2.has (by decide) (by rw [hg, e])
  have hrg : ∀ q, hv.ownBlock = some q → q ≠ g := fun q hq e => qo_ne2 h2.h h2.r (by decide) q hq (by rw [hg, e])
  have hrc : ∀ q, hv.ownBlock = some q → q ≠ c := fun q hq e => qo_ne h2.h h2.has (by decide) (by rw [hq, e])
  have hc3 : Has w3 c (.cells #[hv, .bool s.wr, rv] 67 (0, 0)) := h2.has.only hw (Ne.symm hgc)
  have hc4 := hc3.setSelf (i := 2) (.slice (some ⟨g, 0, none⟩) k cap)
  have hst : ∀ q, q ≠ c → (w3.setCell ⟨c, 2, none⟩ (.slice (some ⟨g, 0, none⟩) k cap)).heap[q]? = w3.heap[q]? := fun q hq => Below.heap_setCell w3 ⟨c, 2, none⟩ _ q hq
  have hz : (w3.setCell ⟨c, 2, none⟩ (.slice (some ⟨g, 0, none⟩) k cap)).heap.size = w3.heap.size := by simp
  subst hk
  refine ⟨⟨hc4, qo_same h2.h (fun q hq => ?_), qo_same ho (fun q hq => hst q (by cases hq; exact hgc)), h.mine, h.ho, fun q hq => by cases hq; exact h.ro _ hg, fun q hq => ?_⟩, ⟨⟨?_, ?_, ?_, ?_, fun q hq hn => ?_⟩, fun q hq => Or.inl hq⟩⟩
  · rw [hst q (hrc q hq)]
    exact hw.block q (World.ownsRow.lt h2.h q hq).2 (hrg q hq)
  · rw [hz]; exact Nat.lt_of_lt_of_le (h2.lt q hq) hw.size
  · exact hw.os.trans hb.os
  · exact hw.tape.trans hb.tape
  · exact hw.output.trans hb.output
  · rw [hz]; exact Nat.le_trans hb.size hw.size
  · rw [hst q (fun e => hn (by rw [e]; exact h.mine)), hw.block q (Nat.lt_of_lt_of_le hq hb.size) (fun e => hn (by rw [e]; exact h.ro _ hg))]
    exact hb.block q hq

set_option maxHeartbeats 2000000 in
theorem free_any (w : World) (c : Nat) (O : Nat → Prop) (s : Qk.St) (p : Nat) (h : Lck w c O s) (hl : s.hs.length ≤ 1000) (hm : p ∈ s.hs) :
    Calls Try.prog 24 #[.pointer (some ⟨c, 0, none⟩), .int .i64 (p : Int)] w (LkP c O w ⟨Qk.left s p, s.wr, s.row⟩) := by
  obtain ⟨hv, rv, h⟩ := h
  obtain ⟨g, cap, hvE, hgl, hcp, -⟩ := qo_at h.h (List.length_pos_iff.2 (List.ne_nil_of_mem hm))
  subst hvE
  have b1 := below1 w (.cells #[.int .i64 (p : Int)] 3)
  have hbx := Has.new w (.cells #[.int .i64 (p : Int)] 3)
  have h1 := h.later b1
  have HD := Lib.hid (deletef_any w.heap.size g s.hs.length cap p s.hs (w.alloc (.cells #[.int .i64 (p : Int)] 3)) (by omega) hbx.one.1 h1.h hl hm)
  obtain ⟨c0, -, -, fr⟩ := h1.cells
  have HC : Hid (∀ W, Only g (w.alloc (.cells #[.int .i64 (p : Int)] 3)) W → W.cell? ⟨c, 0, none⟩ = some (.slice (some ⟨g, 0, none⟩) s.hs.length cap) ∧ W.frozen? ⟨c, 0, none⟩ = false) := fun W ho => by
    have hne : c ≠ g := fun e => qo_ne h1.h h1.has (by decide) (by rw [e]; rfl)
    have := h1.has.only ho hne
    exact ⟨this.cell 0, this.free 0⟩
  have HL := Lib.hid (fun w3 k (ho : w3.ownsRow 0 3 1 (.slice (some ⟨g, 0, none⟩) k cap) k (qn (Qk.left s p))) hk (hw : Only g (w.alloc (.cells #[.int .i64 (p : Int)] 3)) w3) => h.less b1 rfl ho hk hw)
  clear h h1 b1 hbx hl hm hgl
  go_enter Try.func24, Try.ntmps24
  go_wp2_with fail
  refine HD.out.mono ?_
  rintro e w3 ⟨k, hk, rfl, ho, hw⟩
  obtain ⟨d0, d1⟩ := HC.out w3 hw
  have HF := Lib.hid (HL.out w3 k ho hk hw)
  clear ho hw hk HD HC HL
  go_wp2
  refine bodyPost_ret (results_none rfl _ _ _) rfl ?_
  exact ⟨rfl, O, ⟨_, _, HF.out.1⟩, HF.out.2⟩

/-- 'clear(s)', s a slice of one element of two cells. -/
theorem run_clear_two (w : World) (t e ty : TypeId) (x y : Value) (ht : Try.prog.underlying t = some (.slice e)) (hv : ∀ w, (zeroValue e).run Try.prog w = .ok (.agg #[x, y]) w) (hx : x.oneCell' = true) (hy : y.oneCell' = true) (b o c : Nat)
    (hc : ∀ j, j < 2 → (w.cell? ⟨b, o + j, none⟩).isSome = true) (hf : ∀ j, j < 2 → w.frozen? ⟨b, o + j, none⟩ = false) :
    (Builtin.clear_ #[t] ty #[.slice (some ⟨b, o, none⟩) 1 c]).run Try.prog w = .ok (.tuple #[]) (w.setCells b o [x, y]) := by
  have hzc : (Builtin.zeroCells (Value.agg #[x, y]).cells 1).toList = [x, y] := by
    simp [Builtin.zeroCells, Value.cells, List.range_succ]
  have hst := run_storeCells_cells (P := Try.prog) b o [x, y] 0 w (by simpa using hc) (by simpa using hf) (by intro v hv'; simp at hv'; rcases hv' with rfl | rfl <;> assumption)
  simp only [Nat.add_zero] at hst
  simp [Builtin.clear_, run_underlying ht, hv, hzc, hst]

set_option maxHeartbeats 4000000 in
/-- slices.Delete(s, 0, 1). -/
theorem delete_one (g n cap : Nat) (d : Nat × Bool) (r : List (Nat × Bool)) (w : World) (h : w.ownsRow 0 70 2 (.slice (some ⟨g, 0, none⟩) n cap) n (qc (d :: r))) (hn : n = r.length + 1) (hl : n ≤ 1000) :
    Calls Try.prog 39 #[.slice (some ⟨g, 0, none⟩) n cap, .int .i64 0, .int .i64 1] w fun e w' => e = .returned (.slice (some ⟨g, 0, none⟩) r.length cap) ∧ w'.ownsRow 0 70 2 (.slice (some ⟨g, 0, none⟩) r.length cap) r.length (qc r) ∧ ∃ q, Only g (w.drewN q) w' := by
  have hcp : n ≤ cap ∧ cap ≤ maxLen := by
    rcases h.2 with ⟨h1, _⟩ | ⟨g', cap', cur, h1, _, _, hc, hc2, _⟩
    · cases h1
    · cases h1; exact ⟨hc, hc2⟩
  have hcm : cap ≤ 9223372036854775807 := by have := hcp.2; unfold maxLen at this; omega
  obtain ⟨i0, hi0, hz0, hz1, hz2⟩ := qinfo Try.infoCli
  obtain ⟨m, hm⟩ : ∃ m, m = r.length := ⟨_, rfl⟩
  have hth := fun k (hk : k < cap * 2) => own_there h k hk
  have hcell : ∀ j u, (qc r)[j]? = some u → w.drew.cell? ⟨g, 2 + j, none⟩ = some u := fun j u hj => by
    have hj2 := (List.getElem?_eq_some_iff.1 hj).1
    rw [qc_length] at hj2
    have := h.cellAt (2 + j) (by omega)
    show w.cell? _ = _
    rw [this]
    show (Value.int .i64 (d.1 : Int) :: Value.bool d.2 :: qc r)[2 + j]? = some u
    rw [show 2 + j = j + 1 + 1 by omega, List.getElem?_cons_succ, List.getElem?_cons_succ]
    exact hj
  obtain ⟨A, hA, hsrc⟩ : ∃ A : Addr, (if cap = 1 then some (⟨g, 0, none⟩ : Addr) else some ⟨g, 2, none⟩) = some A ∧ Hid (∀ t u, (qc r)[t]? = some u → w.drew.cell? (A.add t) = some u) := by
    by_cases hc1 : cap = 1
    · refine ⟨⟨g, 0, none⟩, by simp [hc1], fun t u hu => ?_⟩
      have : r = [] := List.eq_nil_of_length_eq_zero (by omega)
      rw [this] at hu
      cases hu
    · exact ⟨⟨g, 2, none⟩, by simp [hc1], fun t u hu => by rw [Addr.add_mid]; exact hcell t u hu⟩
  obtain ⟨W1, hW1⟩ : ∃ W1, W1 = w.drew.setCells g (0 + 0 * 2) (qc r) := ⟨_, rfl⟩
  have hown1 : W1.ownsRow 0 70 2 (.slice (some ⟨g, 0, none⟩) m cap) m (qc r) ∧ Only g w.drew W1 := by
    rcases h.2 with ⟨h1, _⟩ | ⟨g', cap', cur, h1, hbg, hg, hc, hm2, hs, ht⟩
    · cases h1
    · cases h1
      have hh : Has w.drew g (.cells cur.toList.toArray 70 (0, 0)) := by rw [Array.toArray_toList]; exact hg
      obtain ⟨h3, h4⟩ := Has.setsQ (qc r) cur.toList 0 w.drew hh
      have hall := qsets_all (qc r) cur.toList 0 (by rw [qc_length]; simp [hs]; omega)
      rw [Nat.zero_add, qc_length] at hall
      rw [hW1]
      refine ⟨⟨by rw [qc_length, hm], Or.inr ⟨g, cap, _, rfl, hbg, h3, by omega, hm2, ?_, ?_⟩⟩, h4⟩
      · simp [qsets_length, hs]
      · show (qsets cur.toList 0 (qc r)).take (m * 2) = _
        rw [hm, hall]; simp
  have hth1 := fun k (hk : k < cap * 2) => own_there hown1.1 k hk
  have hcl : ∀ ty, (Builtin.clear_ #[63] ty #[.slice (some ⟨g, m * 2, none⟩) 1 (cap - m)]).run Try.prog W1 = .ok (.tuple #[]) (W1.setCells g (m * 2) [.int .i64 0, .bool false]) :=
    fun ty => run_clear_two W1 _ _ ty _ _ Try.underlying63 (fun _ => rfl) rfl rfl g (m * 2) _ (fun t ht => (hth1 (m * 2 + t) (by omega)).1) (fun t ht => (hth1 (m * 2 + t) (by omega)).2)
  obtain ⟨hfin1, hfin2⟩ := own_sets (i := m) (vs := [.int .i64 0, .bool false]) hown1.1 (Nat.le_refl _)
  rw [List.take_of_length_le (by rw [qc_length, hm]; exact Nat.le_refl _)] at hfin1
  have HF : Hid ((W1.setCells g (m * 2) [.int .i64 0, .bool false]).ownsRow 0 70 2 (.slice (some ⟨g, 0, none⟩) m cap) m (qc r) ∧ Only g (w.drewN 1) (W1.setCells g (m * 2) [.int .i64 0, .bool false])) :=
    ⟨hfin1, ⟨hfin2.os.trans hown1.2.os, hfin2.tape.trans hown1.2.tape, hfin2.output.trans hown1.2.output, Nat.le_trans hown1.2.size hfin2.size, fun k hk hn => (hfin2.block k (Nat.lt_of_lt_of_le hk hown1.2.size) hn).trans (hown1.2.block k hk hn)⟩⟩
  have s1 : Hid ((qc r).length = m * 2) := by show _ = _; rw [qc_length, hm]
  have s3 : Hid (∀ t, t < (qc r).length → (w.drew.cell? ⟨g, 0 + 0 * 2 + t, none⟩).isSome = true ∧ w.drew.frozen? ⟨g, 0 + 0 * 2 + t, none⟩ = false) := fun t ht => by
    rw [qc_length] at ht
    rw [show 0 + 0 * 2 + t = t by omega]
    exact hth t (by omega)
  have HW := Lib.hid hW1
  have HM := Lib.hid hm
  have hnm : n = m + 1 := by rw [hn, hm]
  have hr1 : 1 ≤ cap := by omega
  have h1m : (1 : Int) ≤ (m : Int) + 1 := by omega
  have hr2 : 0 + m ≤ cap := by omega
  have h1c := qc_one r
  rw [← hm]
  generalize hX : W1.setCells g (m * 2) [.int .i64 0, .bool false] = W2 at *
  clear hX h hth hth1 hcell hown1 hfin1 hfin2 hW1 hm hn
  subst hnm
  go_enter Try.func39, Try.ntmps39
  go_wp2_with fail
  go_region_law (refine step_append_room rfl (.tmp 22) (.tmp 25) 63 rfl 70 i0 2 Try.underlying63 hi0 hz1 g 0 0 cap (by simp [Act.eval, Act.put]) A m (cap - 1) (qc r) (by simp [Act.eval, Act.put]) s1.out hsrc.out h1c hr2 s3.out ?_; rw [← HW.out])
  go_wp2
  go_ret
  exact ⟨rfl, HF.out.1, 1, HF.out.2⟩
end Go.Proofs.Ytoipmdemicdhoaa
