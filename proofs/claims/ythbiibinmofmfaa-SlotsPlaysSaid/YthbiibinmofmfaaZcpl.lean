/- What Commit does, step by step, plain: as the document's Commit goes. -/
import Derived.Test.YthbiibinmofmfaaFcut

namespace Go.Proofs.Ythbiibinmofmfaa
set_option maxRecDepth 100000

namespace Sk
theorem fillTo_split (n sl : Nat) (b : List Nat) (i : Nat) : ∀ P, i < P → ∃ rest, fillTo n sl b P = fillTo n sl b i ++ (.put (front n sl + i) (padded (piece b i)) :: rest)
  | 0, h => absurd h (by omega)
  | P + 1, h => by
    by_cases e : i = P
    · subst e; exact ⟨[], rfl⟩
    · obtain ⟨rest, hr⟩ := fillTo_split n sl b i P (by omega)
      exact ⟨rest ++ [.put (front n sl + P) (padded (piece b P))], by simp only [fillTo, hr, List.append_assoc, List.cons_append]⟩
/-- The disk behind the first i pieces. -/
def part (d : Ek.Dk) (b : List Nat) (i : Nat) : Ek.Dk := runs d (fillTo d.n (1 - (says d).slot) b i)
def partE (d : Ek.Dk) (b : List Nat) (i : Nat) : Int := runsE d (fillTo d.n (1 - (says d).slot) b i)
def prow (b : List Nat) (i : Nat) : List Nat := padded (piece b i)
theorem part_succ (d : Ek.Dk) (b : List Nat) (i : Nat) (h : partE d b i = 0) (h2 : Ek.writeE (part d b i) ((front d.n (1 - (says d).slot) + i : Nat) : Int) (prow b i) = 0) :
    part d b (i + 1) = Ek.write (part d b i) ((front d.n (1 - (says d).slot) + i : Nat) : Int) (prow b i) ∧ partE d b (i + 1) = 0 := by
  unfold part partE prow at *
  simp only [fillTo, runs_append, runsE_append]
  rw [if_pos h, if_pos h]
  have h2' : oneE (runs d (fillTo d.n (1 - (says d).slot) b i)) (.put (front d.n (1 - (says d).slot) + i) (padded (piece b i))) = 0 := h2
  simp only [runs, runsE]
  rw [if_pos h2', if_pos h2']
  exact ⟨rfl, rfl⟩
theorem part_fell (d : Ek.Dk) (b : List Nat) (h0 : commitE0 d b = 0) (i : Nat) (hi : i < pieces b) (h : partE d b i = 0) (h2 : Ek.writeE (part d b i) ((front d.n (1 - (says d).slot) + i : Nat) : Int) (prow b i) ≠ 0) :
    commit d b = Ek.write (part d b i) ((front d.n (1 - (says d).slot) + i : Nat) : Int) (prow b i) ∧ commitE d b = Ek.writeE (part d b i) ((front d.n (1 - (says d).slot) + i : Nat) : Int) (prow b i) := by
  unfold commit commitE
  rw [if_pos h0, if_pos h0]
  unfold commitS fill
  obtain ⟨rest, hr⟩ := fillTo_split d.n (1 - (says d).slot) b i (pieces b) hi
  rw [hr]
  unfold part partE prow at *
  simp only [List.append_assoc, List.cons_append, runs_append, runsE_append]
  rw [if_pos h, if_pos h]
  have h2' : ¬ oneE (runs d (fillTo d.n (1 - (says d).slot) b i)) (.put (front d.n (1 - (says d).slot) + i) (padded (piece b i))) = 0 := h2
  simp only [runs, runsE]
  rw [if_neg h2', if_neg h2']
  exact ⟨rfl, rfl⟩
def hrow (d : Ek.Dk) (b : List Nat) : List Nat := header ⟨(says d).gen + 1, 1 - (says d).slot, b.length, Cr.sum 0 b⟩
theorem part_end (d : Ek.Dk) (b : List Nat) (h0 : commitE0 d b = 0) (P : Nat) (hP : P = pieces b) (h : partE d b P = 0) :
    (Ek.changeE (part d b P) ≠ 0 ∧ commit d b = Ek.sync (part d b P) ∧ commitE d b = Ek.changeE (part d b P)) ∨
    (Ek.changeE (part d b P) = 0 ∧ Ek.writeE (Ek.sync (part d b P)) 0 (hrow d b) ≠ 0 ∧ commit d b = Ek.write (Ek.sync (part d b P)) 0 (hrow d b) ∧ commitE d b = Ek.writeE (Ek.sync (part d b P)) 0 (hrow d b)) ∨
    (Ek.changeE (part d b P) = 0 ∧ Ek.writeE (Ek.sync (part d b P)) 0 (hrow d b) = 0 ∧ commit d b = Ek.sync (Ek.write (Ek.sync (part d b P)) 0 (hrow d b)) ∧ commitE d b = Ek.changeE (Ek.write (Ek.sync (part d b P)) 0 (hrow d b))) := by
  subst hP
  unfold commit commitE
  rw [if_pos h0, if_pos h0]
  unfold commitS fill shut next
  unfold part partE at *
  rw [List.append_assoc, runs_append, runsE_append, if_pos h, if_pos h]
  generalize runs d (fillTo d.n (1 - (says d).slot) b (pieces b)) = dP
  have eR : ∀ (x : Ek.Dk) (y : Step) (ys : List Step), runs x (y :: ys) = if oneE x y = 0 then runs (one x y) ys else one x y := fun _ _ _ => rfl
  have eE : ∀ (x : Ek.Dk) (y : Step) (ys : List Step), runsE x (y :: ys) = if oneE x y = 0 then runsE (one x y) ys else oneE x y := fun _ _ _ => rfl
  rw [List.cons_append, List.nil_append, eR, eE]
  by_cases c1 : Ek.changeE dP = 0
  · have c1' : oneE dP .sync = 0 := c1
    rw [if_pos c1', if_pos c1', eR, eE]
    by_cases c2 : Ek.writeE (Ek.sync dP) 0 (hrow d b) = 0
    · have c2' : oneE (one dP .sync) (.put 0 (header ⟨(says d).gen + 1, 1 - (says d).slot, b.length, Cr.sum 0 b⟩)) = 0 := c2
      rw [if_pos c2', if_pos c2', eR, eE]
      refine Or.inr (Or.inr ⟨c1, c2, ?_⟩)
      refine ⟨?_, ?_⟩
      · split <;> rfl
      · split
        · rename_i q; exact q.symm
        · rfl
    · have c2' : ¬ oneE (one dP .sync) (.put 0 (header ⟨(says d).gen + 1, 1 - (says d).slot, b.length, Cr.sum 0 b⟩)) = 0 := c2
      rw [if_neg c2', if_neg c2']
      exact Or.inr (Or.inl ⟨c1, c2, rfl, rfl⟩)
  · have c1' : ¬ oneE dP .sync = 0 := c1
    rw [if_neg c1', if_neg c1']
    exact Or.inl ⟨c1, rfl, rfl⟩
theorem part_used (d : Ek.Dk) (b : List Nat) (i : Nat) : (part d b i).used ≤ d.used + i := by
  have := runs_usedP d (fillTo d.n (1 - (says d).slot) b i)
  rwa [fillTo_length] at this
theorem hrow_row (d : Ek.Dk) (b : List Nat) : Row (hrow d b) := header_row _
theorem commitE0_is (d : Ek.Dk) (b : List Nat) (h : commitE0 d b = 0) : loadE d = 0 ∧ (says d).gen ≠ 4294967295 ∧ b.length ≤ room d.n := by
  unfold commitE0 at h
  by_cases h1 : loadE d = 0
  · rw [if_neg (by simp [h1])] at h
    by_cases h2 : (says d).gen = 4294967295
    · rw [if_pos h2] at h; exact absurd h (by decide)
    · rw [if_neg h2] at h
      by_cases h3 : room d.n < b.length
      · rw [if_pos h3] at h; exact absurd h (by decide)
      · exact ⟨h1, h2, by omega⟩
  · rw [if_pos h1] at h; exact absurd h h1
end Sk
end Go.Proofs.Ythbiibinmofmfaa
