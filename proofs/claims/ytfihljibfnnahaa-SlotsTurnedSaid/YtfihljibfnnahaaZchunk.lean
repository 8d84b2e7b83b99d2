/- Contract of slices.Chunk at 512: the iterator of pieces. -/
import Derived.Test.YtfihljibfnnahaaZfmt
import Derived.Test.YtfihljibfnnahaaEset
import Derived.Sort.QuietTacIn

namespace Go.Proofs.Ytfihljibfnnahaa
set_option maxRecDepth 100000
open Go.RowKit Go.Shelf

attribute [local go_sem] Oper.semAt_some

/-- The k-th piece of a slice. -/
def chV (g off len k : Nat) : Value := .slice (some ⟨g, off + 512 * k, none⟩) (min 512 (len - 512 * k)) (min 512 (len - 512 * k))
/-- Both of the iterator's boxes are as they were. -/
def KeepT (B1 B2 : Nat) (W W' : World) : Prop := W'.heap[B1]? = W.heap[B1]? ∧ W'.heap[B2]? = W.heap[B2]?
theorem KeepT.refl (B1 B2 : Nat) (W : World) : KeepT B1 B2 W W := ⟨rfl, rfl⟩
theorem KeepT.trans {B1 B2 : Nat} {A B C : World} (h : KeepT B1 B2 A B) (k : KeepT B1 B2 B C) : KeepT B1 B2 A C := ⟨k.1.trans h.1, k.2.trans h.2⟩

set_option maxHeartbeats 1000000 in
theorem chunk_in (n : Nat) (a : Option Addr) (len cap : Nat) (w : World) :
    CallsIn Fence.wide n Try.prog 75 #[.slice a len cap, .int .i64 512] w fun e w' => e = .returned (.func (.func 88) #[] #[.pointer (some ⟨w.heap.size, 0, none⟩), .pointer (some ⟨w.heap.size + 1, 0, none⟩)]) ∧ w' = (w.alloc (.cells #[.slice a len cap] 43)).alloc (.cells #[.int .i64 512] 3) := by
  refine callsIn_of_wp Try.func75 rfl trivial ?_ rfl
  simp only [Try.ntmps75, List.size_toArray, List.length_cons, List.length_nil, Nat.reduceAdd, Nat.reduceSub, Array.replicate_succ, Array.replicate_zero, List.push_toArray, List.append_toArray, List.nil_append, List.cons_append]
  gi_wp2
  go_ret
  exact ⟨rfl, rfl⟩

set_option maxRecDepth 100000 in
set_option maxHeartbeats 4000000 in
theorem chunk1_in (n : Nat) (hn : 1 ≤ n) (l B1 B2 g off len cap : Nat) (hlc : len ≤ cap) (hl : len ≤ 1048576) (J Jx : List Nat → World → Prop)
    (hY : ∀ pre x W, J pre W → pre.length < (len + 511) / 512 → YieldAt Fence.wide (n - 1) Try.prog l #[chV g off len x] W fun e W' =>
      (e = .returned (.bool true) ∧ J (pre ++ [x]) W' ∧ KeepT B1 B2 W W') ∨ (e = .returned (.bool false) ∧ Jx (pre ++ [x]) W'))
    (W : World) (hJ : AbidesFrom W.heap.size J) (hB1 : W.cell? ⟨B1, 0, none⟩ = some (.slice (some ⟨g, off, none⟩) len cap)) (hB2 : W.cell? ⟨B2, 0, none⟩ = some (.int .i64 512)) (h0 : J [] W) :
    CallsIn Fence.wide n Try.prog 88 #[.func (.yield l) #[] #[], .pointer (some ⟨B1, 0, none⟩), .pointer (some ⟨B2, 0, none⟩)] W fun e W' => (∃ v, e = .returned v) ∧
      ((∃ ys, ys = List.range ((len + 511) / 512) ∧ J ys W') ∨ (∃ pre, True ∧ Jx pre W')) := by
  refine callsIn_of_wp Try.func88 rfl trivial ?_ rfl
  simp only [Try.ntmps88, List.size_toArray, List.length_cons, List.length_nil, Nat.reduceAdd, Nat.reduceSub, Array.replicate_succ, Array.replicate_zero, List.push_toArray, List.append_toArray, List.nil_append, List.cons_append]
  gi_wp2
  gi_loopw [4] (fun s4 wr => ∃ k : Nat, s4 = .int .i64 ((512 * k : Nat) : Int) ∧ k ≤ (len + 511) / 512 ∧ J (List.range k) wr ∧ Hid (KeepT B1 B2 W wr))
    (fun s4 _ => len + 512 - (intOf s4).toNat)
  case atStart => exact ⟨0, by go_num, Nat.zero_le _, h0, KeepT.refl _ _ _⟩
  case round =>
    obtain ⟨k, rfl, hk, hJs, KK⟩ := hrel
    have hb1 : wr.cell? ⟨B1, 0, none⟩ = some (.slice (some ⟨g, off, none⟩) len cap) := (World.cell?_of_block (a := ⟨B1, 0, none⟩) KK.out.1).trans hB1
    have hb2 : wr.cell? ⟨B2, 0, none⟩ = some (.int .i64 512) := (World.cell?_of_block (a := ⟨B2, 0, none⟩) KK.out.2).trans hB2
    by_cases hlt : 512 * k < len
    · obtain ⟨i, hi⟩ : ∃ i, i = 512 * k := ⟨_, rfl⟩
      rw [← hi] at hlt ⊢
      obtain ⟨m, hm⟩ : ∃ m, m = min 512 (len - i) := ⟨_, rfl⟩
      have hmm : 0 < m ∧ m ≤ 512 ∧ i + m ≤ len := by omega
      have jm : min (512 : Int) ((len : Int) - (i : Int)) = (m : Int) := by omega
      have jm2 : min (512 : Int) ((len - i : Nat) : Int) = (m : Int) := by omega
      have j0 : decide ((i : Int) < (len : Int)) = true := decide_eq_true (by omega)
      have HJ := Lib.hid (hJ _ _ _ none hJs (grownBy_drew' wr none) (fun r e => by cases e))
      obtain ⟨fn, tmps, assign, body, hy, hR⟩ := hY (List.range k) k wr.drew HJ.out (by rw [List.length_range]; omega)
      have hch : chV g off len k = .slice (some ⟨g, off + i, none⟩) m m := by unfold chV; rw [← hi, ← hm]
      rw [hch] at hy
      have HI := Lib.hid hi
      have HM := Lib.hid hm
      obtain ⟨hm0, hm1, hm2⟩ := hmm
      clear hi hm hch
      gi_wp2
      gi_region
      gi_wp2
      refine hR.mono ?_
      rintro e W3 (⟨rfl, hJ3, hk3⟩ | ⟨rfl, hJx3⟩)
      · have HJ3 : Hid (J (List.range (k + 1)) W3) := by rw [List.range_succ]; exact hJ3
        have HK3 : Hid (KeepT B1 B2 W W3) := KK.out.trans hk3
        have HZ : Hid (i + 512 = 512 * (k + 1) ∧ k + 1 ≤ (len + 511) / 512) := by have := HI.out; show _ ∧ _; omega
        have hb3 : W3.cell? ⟨B2, 0, none⟩ = some (.int .i64 512) := (World.cell?_of_block (a := ⟨B2, 0, none⟩) HK3.out.2).trans hB2
        clear hy hR hJ3 hk3 HJ HM HI jm jm2 j0 hb1 hb2
        gi_wp2
        go_roundw
        case rel => exact ⟨k + 1, by rw [← HZ.out.1]; go_num, HZ.out.2, HJ3.out, HK3⟩
        case measure => simp [intOf]; omega
      · clear hy HJ HM HI jm jm2 j0 hb1 hb2
        gi_wp2
        refine bodyPost_ret (results_none rfl _ _ _) rfl ?_
        exact ⟨⟨_, rfl⟩, .inr ⟨_, trivial, hJx3⟩⟩
    · have hkk : k = (len + 511) / 512 := by omega
      have HJ : Hid (J (List.range ((len + 511) / 512)) wr) := by rw [← hkk]; exact hJs
      obtain ⟨i, hi⟩ : ∃ i, i = 512 * k := ⟨_, rfl⟩
      rw [← hi] at hlt ⊢
      have j0 : decide ((i : Int) < (len : Int)) = false := decide_eq_false (by omega)
      have j1 : decide (i < len) = false := decide_eq_false hlt
      clear hkk hi
      gi_wp2
      exact ⟨rfl, .tuple #[], by simp [results, Try.results88, go_sem], ⟨_, rfl⟩, .inl ⟨_, rfl, HJ.out⟩⟩
end Go.Proofs.Ytfihljibfnnahaa
