/- Contracts of the document's tables and of 'last'. -/
import Derived.Test.YtpcgibbmllmbgaaSall
namespace Go.Proofs.Ytpcgibbmllmbgaa
open Go.RowKit

/-- Numbers, as cells. -/
def nums (l : List Nat) : List Value := l.map fun (x : Nat) => Value.int .i64 (x : Int)
/-- Block b holds the numbers l. -/
def Tb (w : World) (b : Nat) (l : List Nat) : Prop := b < w.heap.size ∧ ∀ i, i < l.length → w.cell? ⟨b, i, none⟩ = some (.int .i64 (Sy.at' l i : Nat))
theorem Tb.later {w w' : World} {b : Nat} {l : List Nat} (h : Tb w b l) (hb : Below w.heap.size w w') : Tb w' b l :=
  ⟨Nat.lt_of_lt_of_le h.1 hb.size, fun i hi => (hb.cell (p := ⟨b, i, none⟩) h.1).trans (h.2 i hi)⟩
theorem Tb.of {w : World} {b : Nat} {cs : Array Value} {t : TypeId} {l : List Nat} (h : Has w b (.cells cs t (0, 0))) (hc : cs = (nums l).toArray) : Tb w b l := by
  refine ⟨h.lt, fun i hi => ?_⟩
  rw [h.cell, hc]
  simp [nums, Sy.at', hi]

/-- What the two tables leave. -/
def Tabs (l1 l2 : List Nat) (N : Nat) (w : World) (e : Ending) (w' : World) : Prop :=
  ∃ b1 b2, e = .returned (.tuple #[.slice (some ⟨b1, 0, none⟩) N N, .slice (some ⟨b2, 0, none⟩) N N]) ∧ Tb w' b1 l1 ∧ Tb w' b2 l2 ∧ Below w.heap.size w w'

theorem has2 (w : World) (o1 o2 : Obj) : Has ((w.alloc o1).alloc o2) (w.heap.size + 1) o2 := (facts2 (Below.refl _ ((w.alloc o1).alloc o2))).2.1

set_option maxRecDepth 10000 in
set_option maxHeartbeats 4000000 in
theorem rlens_is (w : World) : Calls Try.prog 25 #[] w (Tabs Sy.lf Sy.lb 29 w) := by
  go_enter Try.func25, Try.ntmps25
  go_wp2
  go_ret2
  exact ⟨_, _, rfl, Tb.of ((Has.new w _).alloc _) rfl, Tb.of (has2 w _ _) rfl, below2 w _ _⟩

set_option maxRecDepth 10000 in
set_option maxHeartbeats 4000000 in
theorem rdists_is (w : World) : Calls Try.prog 28 #[] w (Tabs Sy.df Sy.db 30 w) := by
  go_enter Try.func28, Try.ntmps28
  go_wp2
  go_ret2
  exact ⟨_, _, rfl, Tb.of ((Has.new w _).alloc _) rfl, Tb.of (has2 w _ _) rfl, below2 w _ _⟩

set_option maxHeartbeats 2000000 in
theorem rlast_is (l : List Nat) (b n N : Nat) (w : World) (h : Tb w b l) (hN : N = l.length) (hl : N ≤ 1000) :
    Calls Try.prog 26 #[.slice (some ⟨b, 0, none⟩) N N, .int .i64 (n : Int)] w fun e w' => e = .returned (.int .i64 (Sy.lastTo l n N : Nat)) ∧ w = w' := by
  have H := Lib.hid h
  clear h
  have HN := Lib.hid hN
  clear hN
  go_enter Try.func26, Try.ntmps26
  go_wp2_with fail
  go_loopw [5, 6] (fun s5 s6 wr => ∃ i k : Nat, i ≤ N ∧ s6 = .int .i64 (i : Int) ∧ s5 = .int .i64 (k : Int) ∧ Hid (k = Sy.lastTo l n i) ∧ wr = w) (fun _ s _ => N - (intOf s).toNat)
  case atStart => exact ⟨0, 0, Nat.zero_le _, rfl, rfl, rfl, rfl⟩
  case round =>
    obtain ⟨i, k, hi, rfl, rfl, HK, rfl⟩ := hrel
    by_cases hlt : i < N
    · have hc := H.out.2 i (by rw [← HN.out]; exact hlt)
      have hs := Sy.lastTo_succ l n i
      obtain ⟨x, hx⟩ : ∃ x, x = Sy.at' l i := ⟨_, rfl⟩
      rw [← hx] at hc hs
      clear hx
      by_cases hle : x ≤ n
      · rw [if_pos hle] at hs
        have HS := Lib.hid hs.symm
        clear hs
        go_wp2_with fail
        go_roundw
        case rel => exact ⟨i + 1, i, by omega, by go_num, by go_num, HS, by first | rfl | trivial⟩
        case measure => simp [intOf]; omega
      · rw [if_neg hle, ← HK.out] at hs
        have HS := Lib.hid hs.symm
        clear hs
        go_wp2_with fail
        go_roundw
        case rel => exact ⟨i + 1, k, by omega, by go_num, by go_num, HS, by first | rfl | trivial⟩
        case measure => simp [intOf]; omega
    · obtain rfl : i = N := by omega
      go_wp2_with fail
      go_ret
      exact ⟨by rw [← HK.out]; rfl, rfl⟩
end Go.Proofs.Ytpcgibbmllmbgaa
