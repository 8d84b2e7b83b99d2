/- Locks: one more in the row; who holds a key. -/
import Derived.Test.YtoipmdemicdhoaaQlf

namespace Go.Proofs.Ytoipmdemicdhoaa
set_option maxRecDepth 100000
open Go.RowKit

set_option maxHeartbeats 4000000 in
theorem add_any (w : World) (c : Nat) (O : Nat → Prop) (s : Qk.St) (q : Nat) (b : Bool) (h : Lck w c O s) (hl : s.row.length ≤ 1000) :
    Calls Try.prog 31 #[.pointer (some ⟨c, 2, none⟩), .agg #[.int .i64 (q : Int), .bool b]] w (LkP c O w ⟨s.hs, s.wr, s.row ++ [(q, b)]⟩) := by
  obtain ⟨hv, rv, h⟩ := h
  obtain ⟨a, cap, rfl⟩ := qo_form h.r
  have b1 := below1 w (.cells #[.int .i64 (q : Int), .bool b] 70)
  have hbx := Has.new w (.cells #[.int .i64 (q : Int), .bool b] 70)
  have h1 := h.later b1
  have hcb : c ≠ w.heap.size := fun e => by have := h.lt c h.mine; omega
  have hbl : w.heap.size < (w.alloc (.cells #[.int .i64 (q : Int), .bool b] 70)).heap.size := by simp
  have HOB : Hid (∀ g, O g → g ≠ w.heap.size) := fun g hg e => by have := h.lt g hg; omega
  generalize hw1 : w.alloc (.cells #[.int .i64 (q : Int), .bool b] 70) = W at *
  obtain ⟨-, -, c2, fr⟩ := h1.cells
  obtain ⟨x0, x1, -, -⟩ := hbx.two
  have b2 := below1 W (.cells #[.int .i64 (q : Int), .bool b] 70)
  have h2 := h1.later b2
  obtain ⟨-, -, k2, -⟩ := h2.cells
  obtain ⟨y0, y1, -, -⟩ := (hbx.later b2).two
  obtain ⟨v2, w2, hrun, hown, hg, hb⟩ := qc_app (w := (W.alloc (.cells #[.int .i64 (q : Int), .bool b] 70)).drew) ((h1.r.alloc _).drew) (q, b) 63 W.heap.size (Has.new W _) (by omega) (by omega)
  obtain ⟨n2, hn2⟩ : ∃ n2, n2 = (s.row ++ [(q, b)]).length := ⟨_, rfl⟩
  rw [← hn2] at hown
  obtain ⟨a2, cap2, rfl⟩ := qo_form hown
  have hx2 : Has w2 c (.cells #[hv, .bool s.wr, .slice a s.row.length cap] 67 (0, 0)) := (hg.block c (by have := h2.lt c h2.mine; exact this) (fun e => qo_ne h2.r h2.has (by decide) e.symm)).trans h2.has
  obtain ⟨O', hf1, hf2⟩ := h.wait (w2 := (W.alloc (.cells #[.int .i64 (q : Int), .bool b] 70)).drew) ((b1.trans (b2.mono (by omega))).drew) (x := (q, b)) (by rw [← hn2]; exact hown) hg hb
  have HF := Lib.hid (And.intro hf1 hf2)
  have m2 := hx2.free 2
  have p2 : w2.cell? ⟨c, 2, none⟩ = some (.slice a s.row.length cap) := hx2.cell 2
  have HRUN := Lib.hid hrun
  have HW := Lib.hid hw1
  clear hrun hown hg hb hx2 hf1 hf2 h h1 h2 b1 b2 hbx hw1 hl hn2
  go_enter Try.func31, Try.ntmps31
  go_wp2
  rw [HW.out]
  go_region_law (first | (refine step_append_known rfl (.tmp 8) (.tmp 10) 63 rfl _ _ _ w2 (by first | rfl | simp [Act.eval, go_sem]) (by first | rfl | simp [Act.eval, go_sem]) HRUN.out ?_))
  all_goals
    go_wp2
    refine bodyPost_ret (results_none rfl _ _ _) rfl ?_
    exact ⟨rfl, O', ⟨_, _, HF.out.1⟩, HF.out.2⟩

/-- Is p in a list of numbers? -/
theorem qn_cells {w : World} {a : Option Addr} {n cap : Nat} {xs : List Nat} (h : w.ownsRow 0 3 1 (.slice a n cap) n (qn xs)) (hn : 0 < n) : ∃ g, a = some ⟨g, 0, none⟩ ∧ n ≤ cap ∧ ∀ j, j < n → w.cell? ⟨g, j, none⟩ = some (.int .i64 ((xs[j]?.getD 0 : Nat) : Int)) := by
  obtain ⟨g, cap', e, -, hc, -⟩ := qo_at h hn
  cases e
  refine ⟨g, rfl, hc, fun j hj => ?_⟩
  have hl : (qn xs).length = n * 1 := h.1
  rw [qn_length] at hl
  have := h.cellAt j (by omega)
  rw [this, qn_get, List.getElem?_eq_getElem (by omega)]
  rfl

set_option maxHeartbeats 2000000 in
theorem index_any (a : Option Addr) (n cap p : Nat) (xs : List Nat) (w : World) (h : w.ownsRow 0 3 1 (.slice a n cap) n (qn xs)) (hl : n ≤ 1000) :
    Calls Try.prog 42 #[.slice a n cap, .int .i64 (p : Int)] w fun e w' => (∃ r : Int, e = .returned (.int .i64 r) ∧ (decide (r ≥ 0) = decide (p ∈ xs))) ∧ w' = w := by
  have hlen : xs.length = n := by have := h.1; rw [qn_length] at this; omega
  have HC := Lib.hid (fun (hn : 0 < n) => qn_cells h hn)
  have HF : Hid (∀ k, k < n → xs[k]?.getD 0 = p → p ∈ xs) := fun k hk e => by
    rw [List.getElem?_eq_getElem (by omega)] at e
    exact e ▸ List.getElem_mem _
  have HN : Hid ((∀ j, j < n → xs[j]?.getD 0 ≠ p) → ¬ p ∈ xs) := fun hh hm => by
    obtain ⟨j, hj, e⟩ := List.getElem_of_mem hm
    exact hh j (by omega) (by rw [List.getElem?_eq_getElem hj]; exact e)
  clear h hlen
  go_enter Try.func42, Try.ntmps42
  go_wp2
  go_loopw [8] (fun i wr => ∃ k : Nat, k ≤ n ∧ i = .int .i64 k ∧ wr = w ∧ Hid (∀ j, j < k → xs[j]?.getD 0 ≠ p)) (fun i _ => n - (intOf i).toNat)
  case atStart => exact ⟨0, Nat.zero_le _, rfl, rfl, fun j hj => absurd hj (by omega)⟩
  case round =>
    obtain ⟨k, hk, rfl, rfl, HP⟩ := hrel
    by_cases hlt : k < n
    · obtain ⟨g, rfl, hcap, hc⟩ := HC.out (by omega)
      have hcx := hc k hlt
      obtain ⟨x, hx⟩ : ∃ x, x = xs[k]?.getD 0 := ⟨_, rfl⟩
      rw [← hx] at hcx
      have HX := Lib.hid hx
      clear hc hx
      by_cases he : x = p
      · have hq : ((p : Int) == (x : Int)) = true := by rw [beq_iff_eq]; omega
        have HR : Hid (decide ((k : Int) ≥ 0) = decide (p ∈ xs)) := by
          show _ = _
          rw [decide_eq_true (HF.out k hlt (by rw [← HX.out]; exact he)), decide_eq_true (by omega)]
        clear he
        go_wp2
        go_ret
        exact ⟨⟨_, rfl, HR.out⟩, rfl⟩
      · have hq : ((p : Int) == (x : Int)) = false := by
          rw [beq_eq_false_iff_ne]; intro e; exact he (by omega)
        have HP2 : Hid (∀ j, j < k + 1 → xs[j]?.getD 0 ≠ p) := fun j hj => by
          by_cases hjk : j = k
          · subst hjk; rw [← HX.out]; exact he
          · exact HP.out j (by omega)
        clear he
        go_wp2
        exact ⟨⟨k + 1, by omega, by first | rfl | trivial | simp, by first | rfl | trivial, HP2⟩, by simp [intOf]; omega⟩
    · obtain rfl : k = n := by omega
      have HR : Hid (decide ((-1 : Int) ≥ 0) = decide (p ∈ xs)) := by
        show _ = _
        rw [decide_eq_false (HN.out HP.out)]; rfl
      go_wp2
      go_ret
      exact ⟨⟨_, rfl, HR.out⟩, rfl⟩

set_option maxHeartbeats 1000000 in
theorem contains_any (a : Option Addr) (n cap p : Nat) (xs : List Nat) (w : World) (h : w.ownsRow 0 3 1 (.slice a n cap) n (qn xs)) (hl : n ≤ 1000) :
    Calls Try.prog 35 #[.slice a n cap, .int .i64 (p : Int)] w fun e w' => e = .returned (.bool (decide (p ∈ xs))) ∧ w' = w := by
  have HI := Lib.hid (index_any a n cap p xs w h hl)
  clear h hl
  go_enter Try.func35, Try.ntmps35
  go_wp2_with fail
  refine HI.out.mono ?_
  rintro e w' ⟨⟨r, rfl, hr⟩, rfl⟩
  go_wp2
  rw [← hr]
  go_ret
  exact ⟨rfl, rfl⟩

set_option maxHeartbeats 1000000 in
theorem holds_any (w : World) (c : Nat) (O : Nat → Prop) (s : Qk.St) (p : Nat) (h : Lck w c O s) (hl : s.hs.length ≤ 1000) :
    Calls Try.prog 23 #[.pointer (some ⟨c, 0, none⟩), .int .i64 (p : Int)] w fun e w' => e = .returned (.bool (decide (p ∈ s.hs))) ∧ w' = w := by
  obtain ⟨hv, rv, h⟩ := h
  obtain ⟨a, cap, rfl⟩ := qo_form h.h
  obtain ⟨c0, -, -, -⟩ := h.cells
  have HI := Lib.hid (contains_any a _ cap p s.hs w h.h hl)
  clear h hl
  go_enter Try.func23, Try.ntmps23
  go_wp2_with fail
  refine HI.out.mono ?_
  rintro e w' ⟨rfl, rfl⟩
  go_wp2
  go_ret
  exact ⟨rfl, rfl⟩
end Go.Proofs.Ytoipmdemicdhoaa
