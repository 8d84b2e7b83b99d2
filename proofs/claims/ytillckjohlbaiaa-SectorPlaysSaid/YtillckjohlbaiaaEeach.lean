/- What may stand in a sector behind a crash: each byte is that of what was sure, or of a loose write; the first sector is whole. Plain. -/
import Derived.Test.YtillckjohlbaiaaEtwo


namespace Go.Proofs.Ytillckjohlbaiaa
set_option maxRecDepth 100000
set_option maxRecDepth 100000
open Go.RowKit

namespace Ek
/-- The rows that were written into i, the first k writes. -/
def rowsTo (l : List (Nat × List Nat)) (i : Nat) : Nat → List (List Nat)
  | 0 => []
  | k + 1 => match l[k]? with
    | some p => if p.1 = i then rowsTo l i k ++ [p.2] else rowsTo l i k
    | none => rowsTo l i k
/-- What may stand in sector i behind a crash. -/
def may (d : Dk) (i : Nat) : List (List Nat) := zrow :: rowsTo d.loose i d.loose.length
theorem rowsTo_append (l m : List (Nat × List Nat)) (i k : Nat) (hk : k ≤ l.length) : rowsTo (l ++ m) i k = rowsTo l i k := by
  induction k with
  | zero => rfl
  | succ k ih => simp only [rowsTo]; rw [ih (by omega), List.getElem?_append_left (by omega)]
theorem may_added (d : Dk) (j : Nat) (bs : List Nat) (i : Nat) : may (added d (j : Int) bs) i = if j = i then may d i ++ [bs] else may d i := by
  show zrow :: rowsTo (d.loose ++ [(((j : Int)).toNat, bs)]) i (d.loose ++ [(((j : Int)).toNat, bs)]).length = _
  rw [List.length_append, List.length_singleton, Int.toNat_natCast]
  simp only [rowsTo]
  rw [rowsTo_append _ _ _ _ (Nat.le_refl _), show (d.loose ++ [(j, bs)])[d.loose.length]? = some (j, bs) by simp]
  show zrow :: (if j = i then _ else _) = _
  unfold may
  split <;> rfl
theorem share_zero (c : Int) : share 0 c = 0 ∨ share 0 c = 512 := by
  unfold share
  by_cases h : c < 1
  · exact Or.inl (if_pos h)
  · rw [if_neg h, if_pos (Or.inr rfl)]; exact Or.inr rfl
theorem share_at (r s : List Nat) (n j : Nat) (hr : r.length = 512) (hn : n ≤ 512) : (r.take n ++ s.drop n)[j]? = if j < n then r[j]? else s[j]? := by
  rw [List.getElem?_append]
  rw [List.length_take, Nat.min_eq_left (by omega)]
  split
  · rename_i h; rw [List.getElem?_take, if_pos h]
  · rename_i h; rw [List.getElem?_drop]; congr 1; omega
theorem settle_may {s : Nat → List Nat} {l : List (Nat × List Nat)} (keep : Nat → Int) (hs : ∀ i, (s i).length = 512) (hl : ∀ p ∈ l, p.2.length = 512) (i k : Nat) :
    (settleTo s l keep k i).length = 512 ∧ ((∀ j : Nat, ∃ r : List Nat, r ∈ s i :: rowsTo l i k ∧ r[j]? = (settleTo s l keep k i)[j]?) ∧ (i = 0 → settleTo s l keep k i ∈ s i :: rowsTo l i k)) := by
  induction k with
  | zero => exact ⟨hs i, fun j => ⟨s i, by simp, rfl⟩, fun _ => by simp [settleTo]⟩
  | succ k ih =>
    obtain ⟨ih0, ih1, ih2⟩ := ih
    simp only [settleTo, rowsTo]
    cases hp : l[k]? with
    | none => exact ⟨ih0, ih1, ih2⟩
    | some p =>
      have hp2 := hl p (List.mem_of_getElem? hp)
      obtain ⟨a, r⟩ := p
      have hr : r.length = 512 := hp2
      show (lay (settleTo s l keep k) a r (share a (keep k)) i).length = 512 ∧ (∀ j : Nat, ∃ q : List Nat, q ∈ s i :: (if a = i then rowsTo l i k ++ [r] else rowsTo l i k) ∧ q[j]? = (lay (settleTo s l keep k) a r (share a (keep k)) i)[j]?) ∧ (i = 0 → lay (settleTo s l keep k) a r (share a (keep k)) i ∈ s i :: (if a = i then rowsTo l i k ++ [r] else rowsTo l i k))
      have hsh := share_le a (keep k)
      unfold lay
      by_cases hi : i = a
      · subst hi
        simp only [if_true]
        refine ⟨by rw [List.length_append, List.length_take, List.length_drop]; omega, fun j => ?_, fun h0 => ?_⟩
        · rw [share_at _ _ _ _ hr hsh]
          by_cases hj : j < share i (keep k)
          · exact ⟨r, by simp, by rw [if_pos hj]⟩
          · obtain ⟨q, hq, e⟩ := ih1 j
            refine ⟨q, ?_, by rw [if_neg hj]; exact e⟩
            rcases List.mem_cons.1 hq with rfl | hq
            · simp
            · exact List.mem_cons_of_mem _ (List.mem_append_left _ hq)
        · subst h0
          rcases share_zero (keep k) with e | e
          · rw [e, List.take_zero, List.drop_zero, List.nil_append]
            rcases List.mem_cons.1 (ih2 rfl) with q | q
            · rw [q]; simp
            · exact List.mem_cons_of_mem _ (List.mem_append_left _ q)
          · rw [e, List.take_of_length_le (by omega), List.drop_eq_nil_of_le (by omega), List.append_nil]
            simp
      · rw [if_neg hi, if_neg (fun h => hi h.symm)]
        exact ⟨ih0, ih1, ih2⟩
/-- A disk that was new, written, and came through a crash. -/
theorem crash_may {d : Dk} (h : Ok d) (hs : ∀ i, d.sure i = zrow) (keep : Nat → Int) (i : Nat) :
    (∀ j : Nat, ∃ r : List Nat, r ∈ may d i ∧ r[j]? = (now (crash d keep) i)[j]?) ∧ (i = 0 → now (crash d keep) i ∈ may d i) := by
  have := (settle_may keep (fun i => (h.sure i).1) (fun p hp => (h.loose p hp).2.1) i d.loose.length).2
  rw [hs i] at this
  exact this
end Ek
end Go.Proofs.Ytillckjohlbaiaa
