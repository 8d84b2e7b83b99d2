/- Contract of huff.taken. -/
import Derived.Test.YtedbonnejgpjeaaLused
namespace Go.Proofs.Ytedbonnejgpjeaa
open Go.RowKit Go.Shelf

attribute [local go_sem] Oper.semAt_some

/-- What lengths take, in parts of 2^-15. -/
def takesOf : List (Nat × Nat) → Nat
  | [] => 0
  | p :: ps => 32768 / 2 ^ min p.2 64 + takesOf ps
theorem takesOf_append (a b : List (Nat × Nat)) : takesOf (a ++ b) = takesOf a + takesOf b := by
  induction a with
  | nil => simp [takesOf]
  | cons p ps ih => simp only [List.cons_append, takesOf, ih]; omega
theorem takesOf_snoc (a : List (Nat × Nat)) (p : Nat × Nat) : takesOf (a ++ [p]) = takesOf a + 32768 / 2 ^ min p.2 64 := by rw [takesOf_append]; simp [takesOf]
theorem takesOf_le (a : List (Nat × Nat)) : takesOf a ≤ 32768 * a.length := by
  induction a with
  | nil => simp [takesOf]
  | cons p ps ih =>
    have := Nat.div_le_self 32768 (2 ^ min p.2 64)
    simp only [takesOf, List.length_cons]; omega

set_option maxRecDepth 100000 in
set_option maxHeartbeats 2000000 in
theorem taken_in (n : Nat) (hn : 3 ≤ n) (sv : Value) (ls : List Nat) (w : World) (hL : Lsl w.heap.size w sv ls) :
    CallsIn Fence.wide n Try.prog 39 #[sv] w fun e W' => e = .returned (.int .i64 (takesOf (usedTo ls ls.length) : Int)) ∧ Below w.heap.size w W' := by
  have h1 : 1 ≤ n := by omega
  have hL2 := hL
  obtain ⟨b, off, cap, rfl, hpos, h288, hbl, hcl⟩ := hL2
  clear hcl
  refine callsIn_of_wp_marks Try.func39 rfl trivial ?_ rfl
  simp only [Try.ntmps39, List.size_toArray, List.length_cons, List.length_nil, Nat.reduceAdd, Nat.reduceSub, Array.replicate_succ, Array.replicate_zero, List.push_toArray, List.append_toArray, List.nil_append, List.cons_append]
  have HL := Lib.hid hL
  clear hL
  gi_wp2_with (refine ⟨trivial, ?_⟩; gi_at_call 46; refine (used_in (n - 1) _ _ _ _ rfl _).mono ?_; rintro e w' ⟨rfl, rfl⟩)
  have bS := Boxed.new w 3 (.int .i64 0)
  have bN := Boxed.new (w.alloc (.cells #[.int .i64 0] 3)) 22 (.slice (some ⟨b, off, none⟩) ls.length cap)
  rw [World.size_alloc] at bN
  have hB0 : Below w.heap.size w ((w.alloc (.cells #[.int .i64 0] 3)).alloc (.cells #[.slice (some ⟨b, off, none⟩) ls.length cap] 22)) := ((Below.refl _ w).alloc (Nat.le_refl _) _).alloc (by simp) _
  refine wpIn_rangeFunc_ownG rfl h1 (gf := 50) (lb := #[.pointer (some ⟨w.heap.size + 1, 0, none⟩)]) rfl trivial (enters_of Try.func50 (by kernel_rfl) rfl)
    (used_stops (n - 1) (by omega) (w.heap.size + 1) w.heap.size _ ls _ (by simp) (by simp; omega) bN.cell (HL.out.below hB0)) belowK_t (belowK_b (by simp; omega)) (Below.refl _ _) (fun _ => rfl)
    (fun pre W => (W.cell? ⟨w.heap.size, 0, none⟩ = some (.int .i64 (takesOf pre : Int)) ∧ W.frozen? ⟨w.heap.size, 0, none⟩ = false) ∧ Below w.heap.size w W)
    (fun _ _ _ => False)
    (OwnFrom.and (Own.from (fun s A B row hs hg hr => ⟨cell_kept hs.1 hg hr, (frozen_kept hs.1 hg hr).trans hs.2⟩) _) (ownFrom_below (Nat.le_refl _) (by simp; omega)))
    (fun _ _ _ _ _ hs _ _ => hs)
    ⟨⟨(bS.alloc _).cell, (bS.alloc _).frozen⟩, hB0⟩
    (fun x => { tmps := #[.slice (some ⟨b, off, none⟩) ls.length cap, undef, .int .i64 0, .pointer (some ⟨w.heap.size, 0, none⟩), undef, .int .i64 (x.2 : Int), .slice (some ⟨b, off, none⟩) ls.length cap, .func (.func 50) #[] #[.pointer (some ⟨w.heap.size + 1, 0, none⟩)], .int .i64 (x.1 : Int), .int .i64 (x.2 : Int), undef, undef, undef, undef, undef], defers := [] }) ?assign ?body ?done ?stop
  case assign =>
    intro l x W K hK
    gi_wp2
    exact hK
  case body =>
    rintro l pre x W ⟨⟨hc, hf⟩, hB⟩ hlt
    have hle := takesOf_le pre
    have hd := Nat.div_le_self 32768 (2 ^ min x.2 64)
    obtain ⟨y, hy⟩ : ∃ y, y = x.2 := ⟨_, rfl⟩
    obtain ⟨z, hz⟩ : ∃ z, z = takesOf pre := ⟨_, rfl⟩
    have hs : takesOf (pre ++ [x]) = z + 32768 / 2 ^ min y 64 := by rw [takesOf_snoc, hy, hz]
    rw [← hy] at hd ⊢
    rw [← hz] at hle hc
    have HS := Lib.hid hs
    clear hs hy hz
    have hmx : Try.prog.follows .mixedOrders = true := by kernel_rfl
    have hd1 : 1 ≤ n - 1 - 1 := by omega
    gi_wp2
    gi_region_with_o (fail)
    all_goals gi_wp2
    all_goals (try go_bits)
    all_goals
      have e : wrap64 ((z : Int) + 32768 / 2 ^ min y 64) = ((z + 32768 / 2 ^ min y 64 : Nat) : Int) := by
        have e1 : ((32768 : Int) / 2 ^ min y 64) = ((32768 / 2 ^ min y 64 : Nat) : Int) := by simp
        rw [e1]
        generalize 32768 / 2 ^ min y 64 = q at hd
        rw [IntWalk.wrap64_in _ (by omega)]
        omega
      rw [e, ← HS.out]
      exact ⟨((KeepsOthers.setCell _ _ _).trans (KeepsOthers.drew _)).from _, ((Below.refl w.heap.size W).setCell (p := ⟨w.heap.size, 0, none⟩) (Nat.le_refl _) _).drew, ⟨World.cell?_setCell_same' _ _ _ (by rw [hc]; rfl), by rw [frozen_drew_own, World.frozen?_setCell]; exact hf⟩, (hB.setCell (p := ⟨w.heap.size, 0, none⟩) (Nat.le_refl _) _).drew⟩
  case done =>
    rintro D ys W hD rfl ⟨⟨hc, _⟩, hB⟩ hK
    gi_wp2
    refine ⟨by simp, .inl ⟨_, _, rfl, run_takeDeferred hK, ?_⟩⟩
    exact ⟨_, results_tmp rfl _ _ _, rfl, hB.trans (belowK_b (w := w) (Nat.le_refl _) W D _ _ (by simp at hD; omega) hK rfl rfl)⟩
  case stop =>
    rintro D c pre W _ _ h _
    exact h.elim

theorem taken_any (sv : Value) (ls : List Nat) (w : World) (hL : Lsl w.heap.size w sv ls) :
    Calls Try.prog 39 #[sv] w fun e W' => e = .returned (.int .i64 (takesOf (usedTo ls ls.length) : Int)) ∧ Below w.heap.size w W' :=
  callsIn_wide.1 (taken_in 3 (Nat.le_refl _) sv ls w hL)
end Go.Proofs.Ytedbonnejgpjeaa
