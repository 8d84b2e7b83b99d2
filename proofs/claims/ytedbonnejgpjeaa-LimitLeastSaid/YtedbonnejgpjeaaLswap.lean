/- A row of numbers in memory that a sort rewrites; contracts of slices.swapRangeCmpFunc, rotateCmpFunc and insertionSortCmpFunc at int. -/
import Derived.Test.YtedbonnejgpjeaaLcmp
import Derived.Test.YtedbonnejgpjeaaHsort
import Derived.BigRegion
import Derived.Deep.RegionWith
import Derived.Deep.DeepCutAuto
namespace Go.Proofs.Ytedbonnejgpjeaa
open Go.RowKit

/-- Block g, from 0 on, holds n packages. -/
structure Rw (w : World) (g n : Nat) (d : Nat → Nat) : Prop where
  lt : g < w.heap.size
  cell : ∀ i, i < n → w.cell? ⟨g, i, none⟩ = some (.pointer (some ⟨d i, 0, none⟩))
  free : ∀ i, i < n → w.frozen? ⟨g, i, none⟩ = false

theorem only_drewN {g : Nat} {a w : World} (h : Only g a w) (n : Nat) : Only g a (w.drewN n) := ⟨h.os, h.tape, h.output, h.size, h.block⟩
theorem only_drew {g : Nat} {a w : World} (h : Only g a w) : Only g a w.drew := ⟨h.os, h.tape, h.output, h.size, h.block⟩
theorem Only.trans {g : Nat} {a b c : World} (h : Only g a b) (k : Only g b c) : Only g a c :=
  ⟨k.os.trans h.os, k.tape.trans h.tape, k.output.trans h.output, Nat.le_trans h.size k.size, fun i h1 h2 => (k.block i (Nat.lt_of_lt_of_le h1 h.size) h2).trans (h.block i h1 h2)⟩
theorem only_set (w : World) (g i : Nat) (v : Value) : Only g w (w.setCell ⟨g, i, none⟩ v) :=
  ⟨rfl, rfl, rfl, by simp, fun k _ hk => Below.heap_setCell w ⟨g, i, none⟩ v k hk⟩

theorem Rw.drewN {w : World} {g n : Nat} {d : Nat → Nat} (h : Rw w g n d) (k : Nat) : Rw (w.drewN k) g n d := ⟨h.lt, h.cell, h.free⟩

theorem addr_ne (g : Nat) {i j : Nat} (h : i ≠ j) : (⟨g, i, none⟩ : Addr) ≠ ⟨g, j, none⟩ := fun e => h (by cases e; rfl)

theorem Rw.swap {w : World} {g n : Nat} {d : Nat → Nat} (h : Rw w g n d) (i j : Nat) (hi : i < n) (hj : j < n) (hne : i ≠ j) :
    Rw ((w.setCell ⟨g, i, none⟩ (.pointer (some ⟨d j, 0, none⟩))).setCell ⟨g, j, none⟩ (.pointer (some ⟨d i, 0, none⟩))) g n (St.sw d i j) := by
  refine ⟨by simpa using h.lt, fun k hk => ?_, fun k hk => by rw [World.frozen?_setCell, World.frozen?_setCell]; exact h.free k hk⟩
  unfold St.sw
  by_cases h1 : k = j
  · subst h1
    rw [if_neg (by omega), if_pos rfl]
    refine World.cell?_setCell_same' _ _ _ ?_
    rw [World.cell?_setCell_other _ _ _ _ (addr_ne g (by omega)), h.cell k hk]; rfl
  · rw [World.cell?_setCell_other _ _ _ _ (addr_ne g (by omega))]
    by_cases h2 : k = i
    · subst h2
      rw [if_pos rfl]
      exact World.cell?_setCell_same' _ _ _ (by rw [h.cell k hk]; rfl)
    · rw [if_neg h2, if_neg h1, World.cell?_setCell_other _ _ _ _ (addr_ne g (by omega))]
      exact h.cell k hk

/-- What a sort leaves: the row turned alone, as Q says. -/
def SortPost (g n : Nat) (w : World) (Q : (Nat → Nat) → Prop) (e : Ending) (w' : World) : Prop :=
  e = .returned (.tuple #[]) ∧ ∃ d', Rw w' g n d' ∧ Only g w w' ∧ Q d'

theorem row_exch_step {w w1 : World} {g n : Nat} {d : Nat → Nat} {a b k : Nat} (h : Rw w1 g n (St.exch d a b k)) (ho : Only g w w1) (hab : a + k < b) (hn : b + k < n) :
    Rw (((w1.setCell ⟨g, a + k, none⟩ (.pointer (some ⟨St.exch d a b k (b + k), 0, none⟩))).setCell ⟨g, b + k, none⟩ (.pointer (some ⟨St.exch d a b k (a + k), 0, none⟩))).drew) g n (St.exch d a b (k + 1)) ∧
      Only g w (((w1.setCell ⟨g, a + k, none⟩ (.pointer (some ⟨St.exch d a b k (b + k), 0, none⟩))).setCell ⟨g, b + k, none⟩ (.pointer (some ⟨St.exch d a b k (a + k), 0, none⟩))).drew) := by
  refine ⟨?_, only_drew ((ho.trans (only_set _ _ _ _)).trans (only_set _ _ _ _))⟩
  rw [St.exch_succ _ _ _ _ hab]
  exact (h.swap (a + k) (b + k) (by omega) hn (by omega)).drewN 1

set_option maxHeartbeats 1000000 in
theorem swapRange_any (g cap n a b m : Nat) (F : Value) (d : Nat → Nat) (w : World) (hr : Rw w g n d) (hn : n ≤ 288) (hab : a + m ≤ b) (hbn : b + m ≤ n) :
    Calls Try.prog 52 #[.slice (some ⟨g, 0, none⟩) n cap, .int .i64 (a : Int), .int .i64 (b : Int), .int .i64 (m : Int), F] w (SortPost g n w (fun d' => d' = St.exch d a b m)) := by
  have HR := Lib.hid hr
  clear hr
  go_enter Try.func52, Try.ntmps52
  go_wp2
  go_loopw [10] (fun s10 wr => ∃ k : Nat, k ≤ m ∧ s10 = .int .i64 k ∧ Hid (Rw wr g n (St.exch d a b k)) ∧ Hid (Only g w wr)) (fun s _ => m - (intOf s).toNat)
  case atStart => exact ⟨0, Nat.zero_le _, rfl, by show Rw _ _ _ _; rw [St.exch_zero]; exact HR.out, Only.refl _ _⟩
  case round =>
    obtain ⟨k, hk, rfl, KR, KO⟩ := hrel
    by_cases hlt : k < m
    · have c1 := KR.out.cell (a + k) (by omega)
      have c2 := KR.out.cell (b + k) (by omega)
      have f1 := KR.out.free (a + k) (by omega)
      have f2 := KR.out.free (b + k) (by omega)
      obtain ⟨x, hx⟩ : ∃ x, x = St.exch d a b k (a + k) := ⟨_, rfl⟩
      obtain ⟨y, hy⟩ : ∃ y, y = St.exch d a b k (b + k) := ⟨_, rfl⟩
      have st := row_exch_step KR.out KO.out (show a + k < b by omega) (show b + k < n by omega)
      rw [← hx, ← hy] at st
      rw [← hx] at c1
      rw [← hy] at c2
      have ST := Lib.hid st
      have hne : ¬ a + k = b + k := by omega
      have hne2 : ¬ b + k = a + k := by omega
      clear hx hy st
      go_wp2
      go_region
      go_wp2
      all_goals
        go_roundw
        case rel => exact ⟨k + 1, by omega, by go_num, ST.out.1, ST.out.2⟩
        case measure => simp [intOf]; omega
    · obtain rfl : k = m := by omega
      go_wp2
      go_end0
      exact ⟨rfl, _, KR.out, KO.out, rfl⟩
end Go.Proofs.Ytedbonnejgpjeaa
