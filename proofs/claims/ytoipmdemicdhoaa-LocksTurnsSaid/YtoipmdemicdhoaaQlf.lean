/- Locks: the calls on one lock that are no loops. -/
import Derived.Test.YtoipmdemicdhoaaQmem
import Derived.Test.YtoipmdemicdhoaaAppk
import Derived.WalkSpells

namespace Go.Proofs.Ytoipmdemicdhoaa
set_option maxRecDepth 100000
open Go.RowKit

theorem qmap_eql (m : Option Nat) (w : World) : (binOp .eql 49 (.map m) (.map none)).run Try.prog w = .ok (.bool m.isNone) w := by
  rw [run_eql_map_nil (P := Try.prog) w 49 _ _ m Try.underlying49]
set_option maxHeartbeats 1000000 in
theorem check_any (w : World) (b : Nat) (m : Nat) (who : Int) (hc : w.cell? ⟨b, 0, none⟩ = some (.map (some m))) :
    Calls Try.prog 22 #[.pointer (some ⟨b, 0, none⟩), .int .i64 who] w fun e w' => e = .returned (.int .i64 (if who < 0 ∨ 8 ≤ who then 2 else 0)) ∧ w' = w := by
  have hq := fun W => qmap_eql (some m) W
  by_cases h1 : who < 0
  · rw [if_pos (Or.inl h1)]
    go_enter Try.func22, Try.ntmps22
    go_wp2
    go_ret
    exact ⟨rfl, rfl⟩
  · by_cases h2 : 8 ≤ who
    · rw [if_pos (Or.inr h2)]
      go_enter Try.func22, Try.ntmps22
      go_wp2
      go_ret
      exact ⟨rfl, rfl⟩
    · rw [if_neg (by omega)]
      go_enter Try.func22, Try.ntmps22
      go_wp2
      go_ret
      exact ⟨rfl, rfl⟩
theorem check_nil (w : World) (who : Int) : Calls Try.prog 22 #[.pointer none, .int .i64 who] w fun e w' => e = .returned (.int .i64 1) ∧ w' = w := by
  go_enter Try.func22, Try.ntmps22
  go_wp2
  go_ret
  exact ⟨rfl, rfl⟩
theorem check_zero (w : World) (b : Nat) (who : Int) (hc : w.cell? ⟨b, 0, none⟩ = some (.map none)) : Calls Try.prog 22 #[.pointer (some ⟨b, 0, none⟩), .int .i64 who] w fun e w' => e = .returned (.int .i64 1) ∧ w' = w := by
  have hq := fun W => qmap_eql none W
  go_enter Try.func22, Try.ntmps22
  go_wp2
  go_ret
  exact ⟨rfl, rfl⟩

set_option maxHeartbeats 1000000 in
theorem lets_any (w : World) (c : Nat) (O : Nat → Prop) (s : Qk.St) (q : Int) (b : Bool) (h : Lck w c O s) :
    Calls Try.prog 26 #[.pointer (some ⟨c, 0, none⟩), .agg #[.int .i64 q, .bool b]] w fun e w' => e = .returned (.bool (Qk.lets s.hs s.wr b)) ∧ Below w.heap.size w w' := by
  obtain ⟨hv, rv, h⟩ := h
  obtain ⟨a, cap, rfl⟩ := qo_form h.h
  have b1 := below1 w (.cells #[.int .i64 q, .bool b] 70)
  have HB := Lib.hid b1
  obtain ⟨c0, c1, -, -⟩ := (h.later b1).cells
  obtain ⟨-, t1, -, -⟩ := (Has.new w (.cells #[.int .i64 q, .bool b] 70)).two
  have t1' := (Has.new w (.cells #[.int .i64 q, .bool b] 70)).cell 1
  by_cases h0 : s.hs = []
  · have hr : Qk.lets s.hs s.wr b = true := by rw [h0]; rfl
    rw [hr]
    rw [h0] at c0
    simp only [List.length_nil] at c0
    rw [show s.hs.length = 0 by rw [h0]; rfl] at *
    clear h h0 hr b1
    go_enter Try.func26, Try.ntmps26
    go_wp2
    go_ret
    exact ⟨rfl, HB.out⟩
  · have hr : Qk.lets s.hs s.wr b = (!s.wr && !b) := by
      unfold Qk.lets
      rw [List.isEmpty_eq_false_iff.2 h0]; rfl
    rw [hr]
    obtain ⟨n, hn⟩ : ∃ n, n = s.hs.length := ⟨_, rfl⟩
    have hnp : ¬ n = 0 := by rw [hn]; exact fun e => h0 (List.eq_nil_of_length_eq_zero e)
    have hnz : ((n : Int) == 0) = false := by simpa using hnp
    rw [← hn] at c0
    obtain ⟨z, hz⟩ : ∃ z, z = s.wr := ⟨_, rfl⟩
    rw [← hz] at c1 ⊢
    clear h h0 hr b1 hn hz
    cases z <;> cases b <;>
    ( go_enter Try.func26, Try.ntmps26
      go_wp2
      go_ret
      exact ⟨rfl, HB.out⟩)

set_option maxHeartbeats 1000000 in
theorem empty_any (w : World) (c : Nat) (O : Nat → Prop) (s : Qk.St) (h : Lck w c O s) :
    Calls Try.prog 30 #[.pointer (some ⟨c, 2, none⟩)] w fun e w' => e = .returned (.bool s.row.isEmpty) ∧ w' = w := by
  obtain ⟨hv, rv, h⟩ := h
  obtain ⟨a, cap, rfl⟩ := qo_form h.r
  obtain ⟨-, -, c2, -⟩ := h.cells
  by_cases h0 : s.row = []
  · rw [h0] at c2
    rw [h0]
    simp only [List.length_nil] at c2
    clear h h0
    go_enter Try.func30, Try.ntmps30
    go_wp2
    go_ret
    exact ⟨rfl, rfl⟩
  · rw [List.isEmpty_eq_false_iff.2 h0]
    obtain ⟨n, hn⟩ : ∃ n, n = s.row.length := ⟨_, rfl⟩
    have hnp : ¬ n = 0 := by rw [hn]; exact fun e => h0 (List.eq_nil_of_length_eq_zero e)
    have hnz : ((n : Int) == 0) = false := by simpa using hnp
    rw [← hn] at c2
    clear h h0 hn
    go_enter Try.func30, Try.ntmps30
    go_wp2
    go_ret
    exact ⟨rfl, rfl⟩

/-- What a call that changes a lock leaves. -/
def LkP (c : Nat) (O : Nat → Prop) (w : World) (s' : Qk.St) (e : Ending) (w' : World) : Prop := e = .returned (.tuple #[]) ∧ ∃ O', Lck w' c O' s' ∧ Nxt O w O' w'

set_option maxHeartbeats 4000000 in
theorem hold_any (w : World) (c : Nat) (O : Nat → Prop) (s : Qk.St) (q : Nat) (b : Bool) (h : Lck w c O s) (hl : s.hs.length ≤ 1000) :
    Calls Try.prog 27 #[.pointer (some ⟨c, 0, none⟩), .agg #[.int .i64 (q : Int), .bool b]] w (LkP c O w ⟨s.hs ++ [q], b, s.row⟩) := by
  obtain ⟨hv, rv, h⟩ := h
  obtain ⟨a, cap, rfl⟩ := qo_form h.h
  have b1 := below1 w (.cells #[.int .i64 (q : Int), .bool b] 70)
  have hbx := Has.new w (.cells #[.int .i64 (q : Int), .bool b] 70)
  have h1 := h.later b1
  have hcb : c ≠ w.heap.size := fun e => by have := h.lt c h.mine; omega
  have hbl : w.heap.size < (w.alloc (.cells #[.int .i64 (q : Int), .bool b] 70)).heap.size := by simp
  have HOB : Hid (∀ g, O g → g ≠ w.heap.size) := fun g hg e => by have := h.lt g hg; omega
  generalize hw1 : w.alloc (.cells #[.int .i64 (q : Int), .bool b] 70) = W at *
  obtain ⟨c0, c1, c2, fr⟩ := h1.cells
  obtain ⟨x0, x1, -, -⟩ := hbx.two
  have b2 := below1 W (.cells #[.int .i64 (q : Int)] 3)
  have h2 := h1.later b2
  obtain ⟨k0, -, -, -⟩ := h2.cells
  have y0 := (hbx.later b2).two.1
  obtain ⟨v2, w2, hrun, hown, hg, hb⟩ := qn_app (w := (W.alloc (.cells #[.int .i64 (q : Int)] 3)).drew) ((h1.h.alloc _).drew) q 32 W.heap.size (Has.new W _) (by omega) (by omega)
  obtain ⟨n2, hn2⟩ : ∃ n2, n2 = (s.hs ++ [q]).length := ⟨_, rfl⟩
  rw [← hn2] at hown
  obtain ⟨a2, cap2, rfl⟩ := qo_form hown
  have hbx2 : Has w2 w.heap.size (.cells #[.int .i64 (q : Int), .bool b] 70 (0, 0)) := (hg.block _ (by simp; omega) (fun e => HOB.out _ (h.ho _ e.symm) rfl)).trans (by have h9 := hbx.later b2; exact h9)
  have hx2 : Has w2 c (.cells #[.slice a s.hs.length cap, .bool s.wr, rv] 67 (0, 0)) := (hg.block c (by have := h2.lt c h2.mine; exact this) (fun e => qo_ne h2.h h2.has (by decide) e.symm)).trans h2.has
  obtain ⟨O', hf1, hf2⟩ := h.hold (w2 := (W.alloc (.cells #[.int .i64 (q : Int)] 3)).drew) ((b1.trans (b2.mono (by omega))).drew) (x := q) b (by rw [← hn2]; exact hown) hg hb
  have HF := Lib.hid (And.intro hf1 hf2)
  have m0 := hx2.free 0
  have p0 : w2.cell? ⟨c, 0, none⟩ = some (.slice a s.hs.length cap) := hx2.cell 0
  have m1 := (hx2.setSelf (i := 0) (.slice a2 n2 cap2)).free 1
  have p1 : (w2.setCell ⟨c, 0, none⟩ (.slice a2 n2 cap2)).cell? ⟨c, 1, none⟩ = some (.bool s.wr) := (hx2.setSelf (i := 0) (.slice a2 n2 cap2)).cell 1
  have n1 := (hbx2.set (a := ⟨c, 0, none⟩) (fun e => hcb e.symm) (.slice a2 n2 cap2)).two.2.1
  have HRUN := Lib.hid hrun
  have HW := Lib.hid hw1
  clear hrun hown hg hb hn2 hx2 hbx2 hf1 hf2 h h1 h2 b1 b2 hbx hw1 hl
  go_enter Try.func27, Try.ntmps27
  go_wp2
  rw [HW.out]
  go_region_law (first | (refine step_append_known rfl (.tmp 8) (.tmp 11) 32 rfl _ _ _ w2 (by first | rfl | simp [Act.eval, go_sem]) (by first | rfl | simp [Act.eval, go_sem]) HRUN.out ?_))
  all_goals
    go_wp2
    refine bodyPost_ret (results_none rfl _ _ _) rfl ?_
    exact ⟨rfl, O', ⟨_, _, HF.out.1⟩, HF.out.2⟩
end Go.Proofs.Ytoipmdemicdhoaa
