/- Contracts of the sums and products, the program's and the document's. -/
import Derived.Test.YtillckjohlbaiaaMem

namespace Go.Proofs.Ytillckjohlbaiaa
set_option maxRecDepth 100000
open Go.RowKit

/-- Is it a number? -/
def Fd.isn (n : Int) : Bool := decide (0 ≤ n) && decide (n ≤ 4294967295)
theorem Fd.isn_yes {n : Int} (h0 : 0 ≤ n) (h1 : n ≤ 4294967295) : Fd.isn n = true := by simp [Fd.isn, h0, h1]
theorem Fd.isn_no {n : Int} (h : n < 0 ∨ 4294967295 < n) : Fd.isn n = false := by
  rw [Fd.isn, Bool.and_eq_false_iff, decide_eq_false_iff_not, decide_eq_false_iff_not]
  omega
theorem Fd.isn_of {n : Int} (h : Fd.isn n = true) : 0 ≤ n ∧ n ≤ 4294967295 := by simpa [Fd.isn] using h
theorem Fd.isn_not {n : Int} (h : Fd.isn n = false) : n < 0 ∨ 4294967295 < n := by
  rw [Fd.isn, Bool.and_eq_false_iff, decide_eq_false_iff_not, decide_eq_false_iff_not] at h
  omega

/-- What comes of numbers. -/
def Fd.toldV (n : Int) : Int := if Fd.isn n = true then n else 0
def Fd.toldE (n : Int) : Int := if Fd.isn n = true then 0 else 3

/-- The answers of Add, Sub, Mul. -/
def Fd.both (a b : Int) : Bool := Fd.isn a && Fd.isn b
def Fd.addV (a b : Int) : Int := if Fd.both a b = true then Fd.toldV (a + b) else 0
def Fd.addE (a b : Int) : Int := if Fd.both a b = true then Fd.toldE (a + b) else 2
def Fd.subV (a b : Int) : Int := if Fd.both a b = true then Fd.toldV (a - b) else 0
def Fd.subE (a b : Int) : Int := if Fd.both a b = true then Fd.toldE (a - b) else 2
def Fd.mulV (a b : Int) : Int := if Fd.both a b = true then Fd.toldV (a * b) else 0
def Fd.mulE (a b : Int) : Int := if Fd.both a b = true then Fd.toldE (a * b) else 2

theorem mul_far (a b : Int) (h0 : 0 ≤ a) (_ : 0 ≤ b) (h : 4294967295 < a * b) : 0 < a ∧ 4294967295 / a < b := by
  have ha : 0 < a := by
    rcases Int.lt_or_eq_of_le h0 with h1 | h1
    · exact h1
    · rw [← h1, Int.zero_mul] at h; omega
  refine ⟨ha, Int.ediv_lt_of_lt_mul ha ?_⟩
  rw [Int.mul_comm]
  exact h
theorem mul_near (a b : Int) (h0 : 0 < a) (h : ¬ 4294967295 < a * b) : ¬ 4294967295 / a < b := by
  have h1 : b * a ≤ 4294967295 := by rw [Int.mul_comm]; omega
  have := (Int.le_ediv_iff_mul_le h0).2 h1
  omega

end Go.Proofs.Ytillckjohlbaiaa
