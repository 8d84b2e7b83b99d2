/- Contract of valiselaw11.all. -/
import Derived.Test.YtillckjohlbaiaaEly

namespace Go.Proofs.Ytillckjohlbaiaa
set_option maxRecDepth 100000
open Go.RowKit

theorem Try.infoStr : (Try.prog.info? 9).map (fun i => (i.zero, i.size, i.bytes)) = some (some (.string ByteArray.empty), 1, 16) := by kernel_rfl

/-- The sectors' bytes as strings, the first k. -/
def strsTo (d : Ek.Dk) (k : Nat) : List ByteArray := (List.range k).map fun i => strB (Ek.now d i)
theorem strsTo_length (d : Ek.Dk) (k : Nat) : (strsTo d k).length = k := by simp [strsTo]
theorem strsTo_succ (d : Ek.Dk) (k : Nat) : strsTo d (k + 1) = strsTo d k ++ [strB (Ek.now d k)] := by simp [strsTo, List.range_succ]
theorem strsTo_get (d : Ek.Dk) (n i : Nat) (h : i < n) : (strsTo d n)[i]? = some (strB (Ek.now d i)) := by simp [strsTo, h]
def vstr (l : List ByteArray) : List Value := l.map Value.string
theorem vstr_length (l : List ByteArray) : (vstr l).length = l.length := by simp [vstr]
theorem vstr_one (l : List ByteArray) : ∀ v ∈ vstr l, v.oneCell' = true := by
  intro v hv
  simp only [vstr, List.mem_map] at hv
  obtain ⟨x, _, rfl⟩ := hv
  rfl
theorem append_str {w : World} {base : Nat} {v : Value} {l : List ByteArray} (h : w.ownsRow base 9 1 v l.length (vstr l)) (S : ByteArray) (hl : l.length ≤ 1000000) (g : Nat) (hg : Has w g (.cells #[.string S] 9 (0, 0))) (hb : base ≤ w.heap.size) :
    ∃ v' w', (Builtin.append_ #[37, 37] 37 #[v, .slice (some ⟨g, 0, none⟩) 1 1]).run Try.prog w = .ok v' w' ∧ w'.ownsRow base 9 1 v' (l ++ [S]).length (vstr (l ++ [S])) ∧ w.grownBy w' v.ownBlock := by
  obtain ⟨i0, hi, hz0, hz1, hz2⟩ := info_parts Try.infoStr
  obtain ⟨v', w', h1, h2, h3, _⟩ := run_append_own_at (P := Try.prog) (w := w) base 37 37 9 i0 _ 1 16 Try.underlying37 hi hz0 hz1 hz2 rfl (by decide) v l.length (vstr l) h ⟨g, 0, none⟩ 1 1 [.string S] rfl
    (fun j u hj => by
      obtain rfl : j = 0 := by have := (List.getElem?_eq_some_iff.1 hj).1; simpa using this
      rw [Addr.add_mid, hg.cell]; exact hj) (by simp [Value.oneCell']) (by unfold maxLen; omega) (by omega) hb
  refine ⟨v', w', h1, ?_, h3⟩
  rw [List.length_append, List.length_singleton, show vstr (l ++ [S]) = vstr l ++ [.string S] by simp [vstr]]
  exact h2
theorem own_strs {w : World} {base : Nat} {v : Value} {l : List ByteArray} (h : w.ownsRow base 9 1 v l.length (vstr l)) (hl : 0 < l.length) : ∃ g, Strs w v l g ∧ base ≤ g := by
  rcases h.2 with ⟨_, h0⟩ | ⟨g, cap, cur, rfl, hb, hg, hc1, hc2, hc3, hc4⟩
  · omega
  · refine ⟨g, ⟨cap, rfl, (Array.getElem?_eq_some_iff.1 hg).1, fun i hi => ?_⟩, hb⟩
    have hown : w.ownsRow base 9 1 (.slice (some ⟨g, 0, none⟩) l.length cap) l.length (vstr l) := ⟨h.1, Or.inr ⟨g, cap, cur, rfl, hb, hg, hc1, hc2, hc3, hc4⟩⟩
    rw [hown.cellAt i (by omega)]
    unfold vstr
    rw [List.getElem?_map, List.getElem?_eq_getElem hi]
    rfl

/-- What all leaves. -/
def AllPost (w : World) (d : Ek.Dk) (e : Ending) (w' : World) : Prop :=
  ∃ s g, e = .returned s ∧ Strs w' s (strsTo d d.n) g ∧ w.heap.size ≤ g ∧ Below w.heap.size w w'

end Go.Proofs.Ytillckjohlbaiaa
