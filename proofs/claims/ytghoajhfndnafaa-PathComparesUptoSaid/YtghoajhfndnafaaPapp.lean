/- One more text in a boxed list of the call's own: its run, and what it leaves. strings.Clone. -/
import Derived.Test.YtghoajhfndnafaaPmay

namespace Go.Proofs.Ytghoajhfndnafaa
set_option maxRecDepth 100000
open Go.RowKit

theorem lo_setCell (A : World) (k i : Nat) (v : Value) : Lo k 1 A (A.setCell ⟨k, i, none⟩ v) :=
  ⟨rfl, rfl, rfl, by simp, fun j _ h => Below.heap_setCell _ _ _ _ (by show j ≠ k; omega)⟩

theorem Lo.os' {b m : Nat} {A B : World} (h : Lo b m A B) {base : Nat} {v : Value} {l : List Tx} (ho : Ot A base v l) (hb : b + m ≤ base) : Ot B base v l := h.own ho hb

/-- W3 is W with the texts l in the box nb, as a row of the call's own above base; below base all else is as it was. -/
structure More (W W3 : World) (nb base : Nat) (l : List Tx) : Prop where
  size : W.heap.size ≤ W3.heap.size
  row : ∃ v, Has W3 nb (.cells #[v] 22 (0, 0)) ∧ Ot W3 base v l
  block : ∀ k, k < base → k ≠ nb → W3.heap[k]? = W.heap[k]?
  below : ∀ (B : Nat) (w : World), B ≤ nb → Below B w W → Below B w W3

theorem os_more {W : World} {nb base : Nat} {v : Value} {l : List Tx} (hb : Has W nb (.cells #[v] 22 (0, 0))) (ho : Ot W base v l) (hn : nb < base) (hs : base ≤ W.heap.size) (hl : l.length ≤ 10000000) (w1 : World) (h1 : Below W.heap.size W w1) (x : Tx) :
    ∃ g c w2, (Builtin.append_ #[22, 22] 22 #[v, .slice (some ⟨w1.heap.size, 0, none⟩) 1 1]).run Try.prog (w1.alloc (.cells #[.string (bx x)] 9)) = .ok (.slice (some ⟨g, 0, none⟩) (l.length + 1) c) w2 ∧
      w2.cell? ⟨nb, 0, none⟩ = some v ∧ w2.frozen? ⟨nb, 0, none⟩ = false ∧ Hid (More W (w2.setCell ⟨nb, 0, none⟩ (.slice (some ⟨g, 0, none⟩) (l.length + 1) c)) nb base (l ++ [x])) := by
  have hz1 := h1.size
  have hb1 : Has w1 nb (.cells #[v] 22 (0, 0)) := hb.later h1
  have ho1 := ho.later h1
  have hba := hb1.alloc (.cells #[.string (bx x)] 9)
  have hoa : Ot (w1.alloc (.cells #[.string (bx x)] 9)) base v l := ho1.later (below1 w1 _)
  have hza : (w1.alloc (.cells #[.string (bx x)] 9)).heap.size = w1.heap.size + 1 := by simp
  obtain ⟨v', w2, hrun, ho2, hg, _⟩ := hoa.append x hl w1.heap.size 0 1 (Has.new w1 (.cells #[.string (bx x)] 9)).one.1 (by omega)
  obtain ⟨g, c, rfl⟩ : ∃ g c, v' = .slice (some ⟨g, 0, none⟩) (l.length + 1) c := by
    rcases ho2.2 with ⟨_, h0⟩ | ⟨g, c, cur, e, _⟩
    · simp at h0
    · exact ⟨g, c, by rw [e]; simp⟩
  have hrow : ∀ k, k < base → v.ownBlock ≠ some k := fun k hk e => by have := (ho.lt k e).1; omega
  have hkeep : ∀ k, k < base → w2.heap[k]? = W.heap[k]? := fun k hk => by
    rw [hg.block k (by omega) (fun e => hrow k hk e.symm), Below.heap_alloc _ _ _ (by omega), h1.block k (by omega)]
  have hb2 : Has w2 nb (.cells #[v] 22 (0, 0)) := (hkeep nb hn).trans hb
  have hl3 := lo_setCell w2 nb 0 (.slice (some ⟨g, 0, none⟩) (l.length + 1) c)
  refine ⟨g, c, w2, hrun, hb2.one.1, hb2.one.2, ⟨?_, ⟨_, hb2.setSelf _, hl3.own ho2 (by omega)⟩, fun k hk hne => ?_, fun B w hB hw => ?_⟩⟩
  · have := hg.size; have := hl3.size; omega
  · rw [hl3.block k (by have := hg.size; omega) (by omega), hkeep k hk]
  · refine hw.trans ⟨?_, ?_, ?_, ?_, fun k hk => ?_⟩
    · exact hl3.os.trans (hg.os.trans h1.os)
    · exact hl3.tape.trans (hg.tape.trans h1.tape)
    · exact hl3.output.trans (hg.output.trans h1.output)
    · have := hg.size; have := hl3.size; omega
    · have := hb.lt; rw [hl3.block k (by have := hg.size; omega) (by omega), hkeep k (by omega)]

set_option maxHeartbeats 1000000 in
theorem clone_any (s : Tx) (w : World) (hs : s.length ≤ 281474976710656) :
    Calls Try.prog 31 #[.string (bx s)] w fun e w' => e = .returned (.string (bx s)) ∧ Below w.heap.size w w' := by
  have HC := Lib.hid (Try.stringslite_Clone (bx s) w (by rw [bx_size]; exact hs))
  generalize bx s = S at HC
  clear hs
  go_enter Try.func31, Try.ntmps31
  go_wp2_with (go_at_call 42; refine HC.out.mono ?_; rintro e w' ⟨rfl, hb⟩; have HB := Lib.hid hb; clear hb)
  go_ret
  exact ⟨rfl, HB.out⟩
end Go.Proofs.Ytghoajhfndnafaa
