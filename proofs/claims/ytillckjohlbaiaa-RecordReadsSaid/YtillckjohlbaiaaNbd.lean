/- The document's body, in all its ways; what zero tells of a reader's places. -/
import Derived.Test.YtillckjohlbaiaaNbody
import Derived.Test.YtillckjohlbaiaaNbf
import Derived.Test.YtillckjohlbaiaaNlives
import Derived.Test.YtillckjohlbaiaaNrend

namespace Go.Proofs.Ytillckjohlbaiaa
set_option maxRecDepth 100000
open Go.RowKit

theorem has_setRow {w : World} {g k : Nat} {o : Obj} (h : Has w k o) (hne : g ≠ k) (cs : Array Value) : Has (w.setRow g cs) k o := (setRow_other w g k cs (fun e => hne e.symm)).trans h
theorem exec_load_row {P : Program} {o : Oper} {a : Act} {w : World} {ty : TypeId} (x : Operand) (ho : o.op = .load ty x)
    (g : Nat) (hx : a.eval x = .pointer (some ⟨g, 0, none⟩)) (t : TypeId) (cs : Array Value) (fr : Nat × Nat) (d : TypeDesc) (hg : w.heap[g]? = some (.cells cs t fr))
    (hu : P.underlying ty = some d) (hd : (match d with | .struct _ | .array _ _ => true | _ => false) = true) (hi : (P.info? ty).map (·.size) = some cs.size) :
    (execOp a.eval o).run P w = .ok (.value (.agg cs)) w := by
  unfold execOp
  simp only [ho, hx, Instr.loadAt, Instr.sureAddr, Sem.run_bind, Sem.run_pure, Result.andThen_ok, run_loadVar_row w g t ty cs fr d hg hu hd hi]

/-- May a body say so? -/
def mbB (X : List Nat) (f : Nat) : Bool := decide (g2 X f ≤ 20) && ((g2 X (f + 2) == 0) && (okM (g2 X (f + 4)) && decide (0 < g2 X (f + 22))))
/-- What body tells of the len bytes X. -/
def bdR (X : List Nat) (f long len : Nat) : Rd :=
  if mbB X f = false then rdBad 15 else if len < long + (g2 X (f + 22)).toNat then rdBad 4
  else ⟨0, (X.drop long).take (g2 X (f + 22)).toNat, g2 X (f + 4), g4 X (f + 10), g4 X (f + 14), g4 X (f + 18), 0, 0⟩
theorem g2_pos (X : List Nat) (k : Nat) : 0 ≤ g2 X k := Int.natCast_nonneg _
theorem strB_e : strB ([] : List Nat) = ⟨#[]⟩ := rfl

theorem body4_any (a' : Option Addr) (len c : Nat) (X : List Nat) (hlen : 30 ≤ len) (hc : len ≤ c) (w : World) (hs : Sl w (.slice a' len c) X) :
    Calls Try.prog 41 #[.slice a' len c, .int .i64 4, .int .i64 30] w fun e w' => e = .returned (.tuple #[rv (strB (bdR X 4 30 len).name) (bdR X 4 30 len).m (bdR X 4 30 len).s (bdR X 4 30 len).p (bdR X 4 30 len).z (bdR X 4 30 len).a, .int .i64 (bdR X 4 30 len).err]) ∧ Below w.heap.size w w' := by
  have hl := hs.len.1
  have h16 := g2_lt (xs := X) hs.bytes 26
  have bad : mbB X 4 = false → bdR X 4 30 len = rdBad 15 := fun h => by unfold bdR; rw [if_pos h]
  have hp := g2_pos X 26
  by_cases hv : 20 < g2 X 4
  · rw [bad (by unfold mbB; simp; omega)]
    exact body4_F1 a' len c X hlen hc hv w hs
  by_cases hu : ¬ g2 X 6 = 0
  · rw [bad (by unfold mbB; simp [hu])]
    exact body4_F2 a' len c X hlen hc hv hu w hs
  have hu := Decidable.not_not.1 hu
  by_cases h0 : g2 X 8 = 0
  · by_cases hn : g2 X 26 = 0
    · rw [bad (by unfold mbB; simp [hn])]
      exact body4_F40 a' len c X hlen hc h0 hv hu hn w hs
    · have hmb : ¬ (mbB X 4 = false) := by unfold mbB okM; simp [hu, h0]; omega
      by_cases hlt : len < 30 + (g2 X 26).toNat
      · have e : bdR X 4 30 len = rdBad 4 := by unfold bdR; rw [if_neg hmb, if_pos hlt]
        rw [e]
        exact body4_S0 a' len c X hlen hc h0 hv hu _ (g2_nat X 26) (by omega) h16 hlt w hs
      · have e : bdR X 4 30 len = ⟨0, (X.drop 30).take (g2 X 26).toNat, g2 X 8, g4 X 14, g4 X 18, g4 X 22, 0, 0⟩ := by unfold bdR; rw [if_neg hmb, if_neg hlt]
        rw [e, h0]
        exact body4_O0 a' len c X hlen hc h0 hv hu _ (g2_nat X 26) (by omega) h16 (by omega) w hs
  · by_cases h8 : g2 X 8 = 8
    · by_cases hn : g2 X 26 = 0
      · rw [bad (by unfold mbB; simp [hn])]
        exact body4_F48 a' len c X hlen hc h8 hv hu hn w hs
      · have hmb : ¬ (mbB X 4 = false) := by unfold mbB okM; simp [hu, h8]; omega
        by_cases hlt : len < 30 + (g2 X 26).toNat
        · have e : bdR X 4 30 len = rdBad 4 := by unfold bdR; rw [if_neg hmb, if_pos hlt]
          rw [e]
          exact body4_S8 a' len c X hlen hc h8 hv hu _ (g2_nat X 26) (by omega) h16 hlt w hs
        · have e : bdR X 4 30 len = ⟨0, (X.drop 30).take (g2 X 26).toNat, g2 X 8, g4 X 14, g4 X 18, g4 X 22, 0, 0⟩ := by unfold bdR; rw [if_neg hmb, if_neg hlt]
          rw [e, h8]
          exact body4_O8 a' len c X hlen hc h8 hv hu _ (g2_nat X 26) (by omega) h16 (by omega) w hs
    · rw [bad (by unfold mbB okM; simp [h0, h8])]
      exact body4_F3 a' len c X hlen hc h0 h8 hv hu w hs

theorem body6_any (a' : Option Addr) (len c : Nat) (X : List Nat) (hlen : 46 ≤ len) (hc : len ≤ c) (w : World) (hs : Sl w (.slice a' len c) X) :
    Calls Try.prog 41 #[.slice a' len c, .int .i64 6, .int .i64 46] w fun e w' => e = .returned (.tuple #[rv (strB (bdR X 6 46 len).name) (bdR X 6 46 len).m (bdR X 6 46 len).s (bdR X 6 46 len).p (bdR X 6 46 len).z (bdR X 6 46 len).a, .int .i64 (bdR X 6 46 len).err]) ∧ Below w.heap.size w w' := by
  have hl := hs.len.1
  have h16 := g2_lt (xs := X) hs.bytes 28
  have bad : mbB X 6 = false → bdR X 6 46 len = rdBad 15 := fun h => by unfold bdR; rw [if_pos h]
  have hp := g2_pos X 28
  by_cases hv : 20 < g2 X 6
  · rw [bad (by unfold mbB; simp; omega)]
    exact body6_F1 a' len c X hlen hc hv w hs
  by_cases hu : ¬ g2 X 8 = 0
  · rw [bad (by unfold mbB; simp [hu])]
    exact body6_F2 a' len c X hlen hc hv hu w hs
  have hu := Decidable.not_not.1 hu
  by_cases h0 : g2 X 10 = 0
  · by_cases hn : g2 X 28 = 0
    · rw [bad (by unfold mbB; simp [hn])]
      exact body6_F40 a' len c X hlen hc h0 hv hu hn w hs
    · have hmb : ¬ (mbB X 6 = false) := by unfold mbB okM; simp [hu, h0]; omega
      by_cases hlt : len < 46 + (g2 X 28).toNat
      · have e : bdR X 6 46 len = rdBad 4 := by unfold bdR; rw [if_neg hmb, if_pos hlt]
        rw [e]
        exact body6_S0 a' len c X hlen hc h0 hv hu _ (g2_nat X 28) (by omega) h16 hlt w hs
      · have e : bdR X 6 46 len = ⟨0, (X.drop 46).take (g2 X 28).toNat, g2 X 10, g4 X 16, g4 X 20, g4 X 24, 0, 0⟩ := by unfold bdR; rw [if_neg hmb, if_neg hlt]
        rw [e, h0]
        exact body6_O0 a' len c X hlen hc h0 hv hu _ (g2_nat X 28) (by omega) h16 (by omega) w hs
  · by_cases h8 : g2 X 10 = 8
    · by_cases hn : g2 X 28 = 0
      · rw [bad (by unfold mbB; simp [hn])]
        exact body6_F48 a' len c X hlen hc h8 hv hu hn w hs
      · have hmb : ¬ (mbB X 6 = false) := by unfold mbB okM; simp [hu, h8]; omega
        by_cases hlt : len < 46 + (g2 X 28).toNat
        · have e : bdR X 6 46 len = rdBad 4 := by unfold bdR; rw [if_neg hmb, if_pos hlt]
          rw [e]
          exact body6_S8 a' len c X hlen hc h8 hv hu _ (g2_nat X 28) (by omega) h16 hlt w hs
        · have e : bdR X 6 46 len = ⟨0, (X.drop 46).take (g2 X 28).toNat, g2 X 10, g4 X 16, g4 X 20, g4 X 24, 0, 0⟩ := by unfold bdR; rw [if_neg hmb, if_neg hlt]
          rw [e, h8]
          exact body6_O8 a' len c X hlen hc h8 hv hu _ (g2_nat X 28) (by omega) h16 (by omega) w hs
    · rw [bad (by unfold mbB okM; simp [h0, h8])]
      exact body6_F3 a' len c X hlen hc h0 h8 hv hu w hs

theorem zeroL_any (a : Option Addr) (len cap : Nat) (X : List Nat) (h : 30 ≤ len) (hc : len ≤ cap) (w : World) (g : Nat) (hs : Sl w (.slice a len cap) X) (hg : Has w g (.cells #[.int .i64 28] 3 (0, 0))) :
    Calls Try.prog 40 #[.slice a len cap, .slice (some ⟨g, 0, none⟩) 1 1] w fun e w' => e = .returned (.bool (g2 X 28 == 0)) ∧ Below w.heap.size w w' := by
  by_cases z0 : g2 X 28 = 0
  · rw [show (g2 X 28 == 0) = true by rw [z0]; rfl]
    exact zero1_1 a len cap X g 28 (by omega) hc z0 w hs hg
  · rw [show (g2 X 28 == 0) = false by rw [beq_eq_false_iff_ne]; exact z0]
    exact zero1_0 a len cap X g 28 (by omega) hc z0 w hs hg
theorem zeroC_any (a : Option Addr) (len cap : Nat) (X : List Nat) (h : 46 ≤ len) (hc : len ≤ cap) (w : World) (g : Nat) (hs : Sl w (.slice a len cap) X) (hg : Has w g (.cells #[.int .i64 30, .int .i64 32, .int .i64 34] 3 (0, 0))) :
    Calls Try.prog 40 #[.slice a len cap, .slice (some ⟨g, 0, none⟩) 3 3] w fun e w' => e = .returned (.bool ((g2 X 30 == 0) && ((g2 X 32 == 0) && (g2 X 34 == 0)))) ∧ Below w.heap.size w w' := by
  by_cases z0 : g2 X 30 = 0
  · rw [show (g2 X 30 == 0) = true by rw [z0]; rfl]
    by_cases z1 : g2 X 32 = 0
    · rw [show (g2 X 32 == 0) = true by rw [z1]; rfl]
      by_cases z2 : g2 X 34 = 0
      · rw [show (g2 X 34 == 0) = true by rw [z2]; rfl]
        exact zero3_3 a len cap X g 30 32 34 (by omega) (by omega) (by omega) hc z0 z1 z2 w hs hg
      · rw [show (g2 X 34 == 0) = false by rw [beq_eq_false_iff_ne]; exact z2]
        exact zero3_2 a len cap X g 30 32 34 (by omega) (by omega) (by omega) hc z0 z1 z2 w hs hg
    · rw [show (g2 X 32 == 0) = false by rw [beq_eq_false_iff_ne]; exact z1]
      exact zero3_1 a len cap X g 30 32 34 (by omega) (by omega) (by omega) hc z0 z1 w hs hg
  · rw [show (g2 X 30 == 0) = false by rw [beq_eq_false_iff_ne]; exact z0]
    exact zero3_0 a len cap X g 30 32 34 (by omega) (by omega) (by omega) hc z0 w hs hg
end Go.Proofs.Ytillckjohlbaiaa
