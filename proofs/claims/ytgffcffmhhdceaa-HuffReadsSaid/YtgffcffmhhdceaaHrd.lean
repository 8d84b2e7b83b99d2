/- Contract of Table.Read. -/
import Derived.Test.YtgffcffmhhdceaaHnew2
import Derived.Test.YtgffcffmhhdceaaHread
import Derived.Test.YtgffcffmhhdceaaHsame
namespace Go.Proofs.Ytgffcffmhhdceaa
open Go.RowKit

set_option maxHeartbeats 1000000 in
theorem read_nil (v : Value) (N : Int) (a : Option Addr) (len cap : Nat) (hv : v = .agg #[.slice a len cap, .int .i64 N]) (p : Int) (w : World) :
    Calls Try.prog 23 #[.pointer none, v, .int .i64 p] w fun e w' => e = .returned (.tuple #[.int .i64 0, .int .i64 0, .int .i64 1]) ∧ Below w.heap.size w w' := by
  subst hv
  go_enter Try.func23, Try.ntmps23
  go_wp2
  go_ret3
  exact ⟨rfl, below1 _ _⟩

theorem cnt_row (ls : List Nat) (k l : Nat) (hl : 0 < l) : cnt (usedTo ls k) l = (Hf.rowTo ls l k).length := by
  induction k with
  | zero => rfl
  | succ k ih =>
    simp only [usedTo, Hf.rowTo, List.length_append]
    rw [← ih]
    have e : Hf.ln ls k = ls[k]?.getD 0 := rfl
    rw [e]
    by_cases h0 : ls[k]?.getD 0 = 0
    · rw [if_pos h0, if_neg (by omega)]; simp
    · rw [if_neg h0, cnt_snoc]
      by_cases h : ls[k]?.getD 0 = l
      · rw [if_pos h.symm, if_pos h]; rfl
      · rw [if_neg (Ne.symm h), if_neg h]; rfl

/-- The lengths are those of a table. -/
def Good (ls : List Nat) : Prop := 0 < (Hf.ordl ls).length ∧ (Hf.ordl ls).length ≤ 288 ∧ (Hf.pf ls (Hf.ordl ls).length = 32768 ∨ ((Hf.ordl ls).length = 1 ∧ Hf.ln ls (Hf.sy ls 0) = 1))
theorem good_of {zs : List Int} (h : newE zs = 0) : Good (nat zs) := by
  unfold newE at h
  by_cases hc : chk zs = 12 ∧ Lone (nat zs)
  · exact ⟨by have := hc.2.1; omega, by have := hc.2.1; omega, Or.inr hc.2⟩
  · rw [if_neg hc] at h
    have hf : Fit zs := Or.inl h
    have hv := hf.valid
    have e : Hf.pf (nat zs) (Hf.ordl (nat zs)).length = 32768 := by
      rw [takes_pf _ (fun i hi => hv.le i hi)]
      unfold chk cmpr at h
      rw [if_pos hv] at h
      by_cases g : 32768 < takes (nat zs)
      · rw [if_pos g] at h; omega
      · rw [if_neg g] at h
        by_cases g2 : takes (nat zs) < 32768
        · rw [if_pos g2] at h; omega
        · omega
    refine ⟨?_, ?_, Or.inl e⟩
    · cases h0 : (Hf.ordl (nat zs)).length with
      | zero => rw [h0] at e; simp [Hf.pf] at e
      | succ n => omega
    · have h1 := Hf.ordl_length_le (nat zs)
      have h2 := hv.2.1
      rw [nat_length] at h1
      omega

/-- What is left where nothing was hit. -/
theorem good_beg {ls : List Nat} (hg : Good ls) {l : List Bool} {p j c : Nat} (hj : j < 15) (h : Hf.Cnt ls l p (j + 1) c) (hm : Hf.mm ls (j + 1) < (Hf.ordl ls).length) : ∃ k, Hf.Beg ls l p (j + 1) k := by
  rcases hg.2.2 with hw | ⟨h1, h2⟩
  · exact Hf.beg hj hw h hm
  · have := (Hf.mm_iff ls (j + 1) 0 (by omega) (by omega)).2 (by omega)
    omega

/-- What a call of Read leaves. -/
def RdPost (w : World) (ls : List Nat) (l : List Bool) (p : Nat) (e : Ending) (w' : World) : Prop :=
  ∃ r : Nat × Nat × Int, e = .returned (.tuple #[.int .i64 (r.1 : Int), .int .i64 (r.2.1 : Int), .int .i64 r.2.2]) ∧ Hf.Rd ls l p 0 r ∧ Below w.heap.size w w'

theorem num_one (l : List Bool) (p : Nat) (hp : p < l.length) : Bs.num ((l.drop p).take 1) = (l[p]?.getD false).toNat := by
  have e : (l.drop p).take 1 = [l[p]?.getD false] := by
    rw [List.getElem?_eq_getElem hp, List.drop_eq_getElem_cons hp]
    rfl
  rw [e]
  simp [Bs.num]

theorem or_bit (c b : Nat) (hc : c < 32768) (hb : b < 2) : bits .or .i64 ((c : Int) * 2) (b : Int) = ((2 * c + b : Nat) : Int) := by
  rw [show ((c : Int) * 2) = ((c * 2 : Nat) : Int) by omega, i64_or_nat _ _ (by omega) (by omega), nat_join 1 _ _ (by omega) (by omega)]
  congr 1
  omega
end Go.Proofs.Ytgffcffmhhdceaa
