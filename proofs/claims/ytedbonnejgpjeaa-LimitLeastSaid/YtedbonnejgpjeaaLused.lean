/- Contracts of huff.used, of the iterator that it hands back, and of huff.taken. -/
import Derived.Test.YtedbonnejgpjeaaMem
import Derived.Test.YtedbonnejgpjeaaHplain
import Derived.RangeFuncNested
import Derived.RangeFuncBound
import Derived.RangeFuncCalls
import Derived.RangeFuncLeaves
import Derived.RangeFuncBox
import Derived.Shelf.Abstract
import Derived.Shelf.RegionOpen
import Derived.WalkKit
import Derived.OwnWalkIn
import Derived.TacticsInMore
import Derived.LoopNIn
import Derived.LoopIn
namespace Go.Proofs.Ytedbonnejgpjeaa
open Go.RowKit Go.Shelf

attribute [local go_sem] Oper.semAt_some

/-- The slice value sv reads the lengths ls, in a block below B. -/
def Lsl (B : Nat) (W : World) (sv : Value) (ls : List Nat) : Prop :=
  ∃ b off cap, sv = .slice (some ⟨b, off, none⟩) ls.length cap ∧ 0 < ls.length ∧ ls.length ≤ 288 ∧ b < B ∧ ∀ i, i < ls.length → W.cell? ⟨b, off + i, none⟩ = some (.int .i64 ((ls[i]?.getD 0 : Nat) : Int))

theorem Lsl.below {B : Nat} {w w' : World} {sv : Value} {ls : List Nat} (h : Lsl B w sv ls) (hb : Below B w w') : Lsl B w' sv ls := by
  obtain ⟨b, off, cap, e, h1, h2, h3, h4⟩ := h
  exact ⟨b, off, cap, e, h1, h2, h3, fun i hi => (hb.cell (p := ⟨b, off + i, none⟩) h3).trans (h4 i hi)⟩

/-- The used symbols ahead of k, with their lengths. -/
def usedTo (ls : List Nat) : Nat → List (Nat × Nat)
  | 0 => []
  | k + 1 => usedTo ls k ++ (if ls[k]?.getD 0 = 0 then [] else [(k, ls[k]?.getD 0)])
theorem usedTo_length (ls : List Nat) (k : Nat) : (usedTo ls k).length ≤ k := by
  induction k with
  | zero => simp [usedTo]
  | succ k ih => simp only [usedTo, List.length_append]; split <;> simp <;> omega

theorem usedTo_syms (ls : List Nat) (k : Nat) : (usedTo ls k).map Prod.fst = Hf.usedL ls k := by
  induction k with
  | zero => rfl
  | succ k ih =>
    simp only [usedTo, Hf.usedL, List.map_append, ih]
    congr 1
    show _ = if ls[k]?.getD 0 = 0 then [] else [k]
    by_cases h : ls[k]?.getD 0 = 0
    · rw [if_pos h, if_pos h]; rfl
    · rw [if_neg h, if_neg h]; rfl

set_option maxHeartbeats 1000000 in
theorem used_in (n : Nat) (sv : Value) (a : Option Addr) (len cap : Nat) (hsv : sv = .slice a len cap) (w : World) :
    CallsIn Fence.wide n Try.prog 46 #[sv] w fun e w' => e = .returned (.func (.func 50) #[] #[.pointer (some ⟨w.heap.size, 0, none⟩)]) ∧ w' = w.alloc (.cells #[sv] 22) := by
  subst hsv
  refine callsIn_of_wp Try.func46 rfl trivial ?_ rfl
  simp only [Try.ntmps46, List.size_toArray, List.length_cons, List.length_nil, Nat.reduceAdd, Nat.reduceSub, Array.replicate_succ, Array.replicate_zero, List.push_toArray, List.append_toArray, List.nil_append, List.cons_append]
  gi_wp2
  go_ret
  exact ⟨rfl, rfl⟩

set_option maxRecDepth 100000 in
set_option maxHeartbeats 2000000 in
theorem used1_in (n : Nat) (hn : 1 ≤ n) (l Bs n₀ : Nat) (sv : Value) (ls : List Nat) (J Jx : List (Nat × Nat) → World → Prop)
    (hY : ∀ pre x W, J pre W → pre.length < ls.length → YieldAt Fence.wide (n - 1) Try.prog l #[.int .i64 (x.1 : Int), .int .i64 (x.2 : Int)] W fun e W' =>
      (e = .returned (.bool true) ∧ J (pre ++ [x]) W' ∧ Below n₀ W W') ∨ (e = .returned (.bool false) ∧ Jx (pre ++ [x]) W'))
    (W : World) (hBs : W.cell? ⟨Bs, 0, none⟩ = some sv) (hL : Lsl n₀ W sv ls) (h0 : J [] W) :
    CallsIn Fence.wide n Try.prog 50 #[.func (.yield l) #[] #[], .pointer (some ⟨Bs, 0, none⟩)] W fun e W' => (∃ v, e = .returned v) ∧
      ((∃ ys, ys = usedTo ls ls.length ∧ J ys W') ∨ (∃ pre, True ∧ Jx pre W')) := by
  obtain ⟨b, off, cap, rfl, hpos, h288, hb, hc⟩ := hL
  refine callsIn_of_wp Try.func50 rfl trivial ?_ rfl
  simp only [Try.ntmps50, List.size_toArray, List.length_cons, List.length_nil, Nat.reduceAdd, Nat.reduceSub, Array.replicate_succ, Array.replicate_zero, List.push_toArray, List.append_toArray, List.nil_append, List.cons_append]
  gi_wp2
  gi_loopw [7] (fun i wr => ∃ k : Nat, k ≤ ls.length ∧ i = .int .i64 k ∧ J (usedTo ls k) wr ∧ Below n₀ W wr)
    (fun i _ => ls.length - (intOf i).toNat)
  case atStart => exact ⟨0, Nat.zero_le _, rfl, h0, Below.refl _ _⟩
  case round =>
    obtain ⟨k, hk, rfl, hJs, hnx⟩ := hrel
    by_cases hlt : k < ls.length
    · have hcx : wr.cell? ⟨b, off + k, none⟩ = some (.int .i64 ((ls[k]?.getD 0 : Nat) : Int)) := (hnx.cell (p := ⟨b, off + k, none⟩) hb).trans (hc k hlt)
      obtain ⟨x, hx⟩ : ∃ x, x = ls[k]?.getD 0 := ⟨_, rfl⟩
      rw [← hx] at hcx
      by_cases h0 : x = 0
      · have hst : usedTo ls (k + 1) = usedTo ls k := by simp [usedTo, ← hx, h0]
        have HST := Lib.hid hst
        subst h0
        clear hst hx
        gi_wp2
        refine ⟨fun _ h => (by cases h), ?_⟩
        gi_wp2
        go_roundw
        case rel => exact ⟨k + 1, by omega, by simp, by rw [HST.out]; exact hJs, hnx⟩
        case measure => simp [intOf]; omega
      · have hst : usedTo ls (k + 1) = usedTo ls k ++ [(k, x)] := by simp [usedTo, ← hx, h0]
        have HST := Lib.hid hst
        have hne : ((x : Int) != 0) = true := by rw [bne_iff_ne]; omega
        obtain ⟨fn, tmps, assign, body, hy, hR⟩ := hY _ (k, x) wr hJs (by have := usedTo_length ls k; omega)
        dsimp only at hy
        clear hst hx
        gi_wp2
        refine hR.mono ?_
        rintro e W3 (⟨rfl, hJ3, hk3⟩ | ⟨rfl, hJx3⟩)
        · gi_wp2
          go_roundw
          case rel => exact ⟨k + 1, by omega, by simp, by rw [HST.out]; exact hJ3, hnx.trans hk3⟩
          case measure => simp [intOf]; omega
        · gi_wp2
          refine bodyPost_ret (results_none rfl _ _ _) rfl ?_
          exact ⟨⟨_, rfl⟩, .inr ⟨_, trivial, hJx3⟩⟩
    · obtain rfl : k = ls.length := by omega
      gi_wp2
      go_end0
      exact ⟨⟨_, rfl⟩, .inl ⟨_, rfl, hJs⟩⟩

theorem used_stops (n : Nat) (hn : 1 ≤ n) (Bs n₀ : Nat) (sv : Value) (ls : List Nat) (w : World) (hBs : Bs < w.heap.size) (hn₀ : n₀ ≤ w.heap.size)
    (hc : w.cell? ⟨Bs, 0, none⟩ = some sv) (hL : Lsl n₀ w sv ls) :
    SeqStopsK Fence.wide n Try.prog 50 #[.pointer (some ⟨Bs, 0, none⟩)] (fun x : Nat × Nat => #[Value.int .i64 (x.1 : Int), Value.int .i64 (x.2 : Int)]) (Below n₀) (fun ys => ys = usedTo ls ls.length) (fun _ => True) ls.length w := fun l J Jx W hW _ _ hY h0 =>
  used1_in n hn l Bs n₀ sv ls J Jx hY W ((hW.cell (p := ⟨Bs, 0, none⟩) hBs).trans hc) (hL.below (hW.mono hn₀)) h0
end Go.Proofs.Ytedbonnejgpjeaa
