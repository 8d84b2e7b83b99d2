/- A list of lists of strings of the call's own. -/
import Derived.Test.YtillckjohlbaiaaEeach
import Derived.Test.YtillckjohlbaiaaEstr
import Derived.ProofKit
import Derived.OpenShut
import Derived.SizedLaws
import Derived.Lib.SmallJoins


namespace Go.Proofs.Ytillckjohlbaiaa
set_option maxRecDepth 100000
set_option maxRecDepth 100000
open Go.RowKit

theorem Try.infoStrs : (Try.prog.info? 37).map (fun i => (i.zero, i.size, i.bytes)) = some (some (.slice none 0 0), 1, 24) := by kernel_rfl

theorem own_at {w : World} {base : Nat} {e : TypeId} {size : Nat} {v : Value} {n : Nat} {xs : List Value} (h : w.ownsRow base e size v n xs) (hn : 0 < n) : ∃ g cap, v = .slice (some ⟨g, 0, none⟩) n cap ∧ base ≤ g ∧ g < w.heap.size := by
  rcases h.2 with ⟨_, h0⟩ | ⟨g, cap, cur, hv, hb, hg, _⟩
  · omega
  · exact ⟨g, cap, hv, hb, (Array.getElem?_eq_some_iff.1 hg).1⟩
/-- v is the outer row: the slices us, which read the strings ss; no two blocks are the same. -/
structure R2 (w : World) (base : Nat) (v : Value) (us : List Value) (ss : List (List ByteArray)) : Prop where
  own : w.ownsRow base 37 1 v us.length us
  len : ss.length = us.length
  row : ∀ (i : Nat) (u : Value) (l : List ByteArray), us[i]? = some u → ss[i]? = some l → 0 < l.length ∧ w.ownsRow base 9 1 u l.length (vstr l)
  ne : ∀ (i : Nat) (u : Value) (h : Nat), us[i]? = some u → u.ownBlock = some h → v.ownBlock ≠ some h
  apart : ∀ (i j : Nat) (u u' : Value) (h : Nat), us[i]? = some u → us[j]? = some u' → i ≠ j → u.ownBlock = some h → u'.ownBlock ≠ some h
theorem R2.get {w : World} {base : Nat} {v : Value} {us : List Value} {ss : List (List ByteArray)} (h : R2 w base v us ss) (i : Nat) (u : Value) (hi : us[i]? = some u) : ∃ l, ss[i]? = some l :=
  ⟨ss[i]'(by have := (List.getElem?_eq_some_iff.1 hi).1; rw [h.len]; exact this), List.getElem?_eq_getElem _⟩
theorem R2.lt {w : World} {base : Nat} {v : Value} {us : List Value} {ss : List (List ByteArray)} (h : R2 w base v us ss) (g : Nat) (hg : v.ownBlock = some g ∨ ∃ (i : Nat) (u : Value), us[i]? = some u ∧ u.ownBlock = some g) : base ≤ g ∧ g < w.heap.size := by
  rcases hg with hg | ⟨i, u, hi, hg⟩
  · exact h.own.lt g hg
  · obtain ⟨l, hl⟩ := h.get i u hi
    exact (h.row i u l hi hl).2.lt g hg
theorem R2.same {w w' : World} {base : Nat} {v : Value} {us : List Value} {ss : List (List ByteArray)} (h : R2 w base v us ss) (he : ∀ g, (v.ownBlock = some g ∨ ∃ (i : Nat) (u : Value), us[i]? = some u ∧ u.ownBlock = some g) → w'.heap[g]? = w.heap[g]?) : R2 w' base v us ss :=
  ⟨own_same h.own (fun g hg => he g (Or.inl hg)), h.len, fun i u l hi hl => ⟨(h.row i u l hi hl).1, own_same (h.row i u l hi hl).2 (fun g hg => he g (Or.inr ⟨i, u, hi, hg⟩))⟩, h.ne, h.apart⟩
theorem R2.later {w w' : World} {base : Nat} {v : Value} {us : List Value} {ss : List (List ByteArray)} (h : R2 w base v us ss) (hb : Below w.heap.size w w') : R2 w' base v us ss :=
  h.same (fun g hg => hb.block g (h.lt g hg).2)
theorem R2.nil (w : World) : R2 w w.heap.size (.slice none 0 0) [] [] :=
  ⟨⟨rfl, Or.inl ⟨rfl, rfl⟩⟩, rfl, fun i u l hi => by simp at hi, fun i u h hi => by simp at hi, fun i j u u' h hi => by simp at hi⟩
theorem R2.block {w : World} {base : Nat} {v : Value} {us : List Value} {ss : List (List ByteArray)} (h : R2 w base v us ss) (i : Nat) (u : Value) (hi : us[i]? = some u) : ∃ g cap len, u = .slice (some ⟨g, 0, none⟩) len cap ∧ 0 < len ∧ base ≤ g ∧ g < w.heap.size ∧ ∃ l, ss[i]? = some l ∧ len = l.length := by
  obtain ⟨l, hl⟩ := h.get i u hi
  obtain ⟨h0, ho⟩ := h.row i u l hi hl
  obtain ⟨g, cap, e, h1, h2⟩ := own_at ho h0
  exact ⟨g, cap, l.length, e, h0, h1, h2, l, hl, rfl⟩
/-- A new row of one string in a new block. -/
theorem own_new {w : World} {g base : Nat} {S : ByteArray} (h : Has w g (.cells #[.string S] 9 (0, 0))) (hb : base ≤ g) : w.ownsRow base 9 1 (.slice (some ⟨g, 0, none⟩) 1 1) 1 (vstr [S]) :=
  ⟨rfl, Or.inr ⟨g, 1, _, rfl, hb, h, Nat.le_refl _, by unfold maxLen; omega, rfl, rfl⟩⟩
/-- One more string in row i: append, then the store into the outer row. -/
theorem R2.put {w w2 : World} {base : Nat} {g0 cap0 : Nat} {us : List Value} {ss : List (List ByteArray)} (h : R2 w base (.slice (some ⟨g0, 0, none⟩) us.length cap0) us ss) (hb : Below w.heap.size w w2) (hbase : base ≤ w.heap.size) {S : ByteArray} {g i : Nat} {u : Value} {l : List ByteArray} (hi : us[i]? = some u) (hl : ss[i]? = some l) (hll : l.length ≤ 1000) (hg : Has w2 g (.cells #[.string S] 9 (0, 0))) :
    ∃ u' w', (Builtin.append_ #[37, 37] 37 #[u, .slice (some ⟨g, 0, none⟩) 1 1]).run Try.prog w2 = .ok u' w' ∧ w2.grownBy w' u.ownBlock ∧ w'.cell? ⟨g0, i, none⟩ = some u ∧ w'.frozen? ⟨g0, i, none⟩ = false ∧ g0 < w2.heap.size ∧
      R2 (w'.setCell ⟨g0, i, none⟩ u') base (.slice (some ⟨g0, 0, none⟩) us.length cap0) (us.set i u') (ss.set i (l ++ [S])) ∧ (∃ q, u'.ownBlock = some q ∧ (u.ownBlock = some q ∨ q = w2.heap.size)) ∧ u'.oneCell' = true := by
  have h2 := h.later hb
  have hs := hb.size
  have hilt := (List.getElem?_eq_some_iff.1 hi).1
  obtain ⟨q0, q1⟩ := h2.row i u l hi hl
  obtain ⟨i0, hi0, hz0, hz1, hz2⟩ := info_parts Try.infoStr
  obtain ⟨u', w', h1, h3, h4, _, h5⟩ := run_append_own_at (P := Try.prog) (w := w2) base 37 37 9 i0 _ 1 16 Try.underlying37 hi0 hz0 hz1 hz2 rfl (by decide) u l.length (vstr l) q1 ⟨g, 0, none⟩ 1 1 [.string S] rfl
    (fun j x hj => by
      obtain rfl : j = 0 := by have := (List.getElem?_eq_some_iff.1 hj).1; simpa using this
      rw [Addr.add_mid, hg.cell]; exact hj) (by simp [Value.oneCell']) (by unfold maxLen; omega) (by omega) (by omega)
  have hkeep : ∀ q, q < w2.heap.size → u.ownBlock ≠ some q → w'.heap[q]? = w2.heap[q]? := fun q hq hne => h4.block q hq (fun e => hne e.symm)
  have hg0 := (h2.own.lt g0 rfl).2
  have hug : u.ownBlock ≠ some g0 := fun e => h.ne i u g0 hi e rfl
  have ho := own_same h2.own (w' := w') (fun q hq => by cases hq; exact hkeep g0 hg0 hug)
  have ho2 := (ho.stored i u').1
  have hst : ∀ q, q ≠ g0 → (w'.setCell ⟨g0, i, none⟩ u').heap[q]? = w'.heap[q]? := fun q hq => Below.heap_setCell w' ⟨g0, i, none⟩ u' q hq
  obtain ⟨gu, capu, eu, hbu, hltu⟩ := own_at h3 (by omega)
  have hun : u'.ownBlock = some gu := by rw [eu]; rfl
  have hng : gu ≠ g0 := by
    rcases h5 with h5 | h5
    · rintro rfl; exact hug (h5.symm.trans hun)
    · rw [hun] at h5; cases h5; omega
  refine ⟨u', w', h1, h4, ?_, ho.frozenAt i, hg0, ⟨by rw [List.length_set]; exact ho2, by rw [List.length_set, List.length_set]; exact h.len, fun j x m hj hm => ?_, fun j x q hj hq => ?_, fun j k x x' q hj hk hjk hq => ?_⟩, ⟨gu, hun, ?_⟩, by rw [eu]; rfl⟩
  · rw [ho.cellAt i (by omega)]; exact hi
  · rw [List.getElem?_set] at hj hm
    by_cases hji : i = j
    · subst hji
      rw [if_pos rfl, if_pos hilt] at hj; rw [if_pos rfl, if_pos (by rw [h.len]; exact hilt)] at hm
      cases hj; cases hm
      refine ⟨by simp, ?_⟩
      rw [List.length_append, List.length_singleton, show vstr (l ++ [S]) = vstr l ++ [.string S] by simp [vstr]]
      exact own_same h3 (fun q hq => hst q (by rw [hun] at hq; cases hq; exact hng))
    · rw [if_neg hji] at hj hm
      obtain ⟨r0, r1⟩ := h2.row j x m hj hm
      refine ⟨r0, own_same r1 (fun q hq => (hst q (fun e => by subst e; exact h.ne j x _ hj hq rfl)).trans (hkeep q (r1.lt q hq).2 (fun e => h.apart j i x u q hj hi (Ne.symm hji) hq e)))⟩
  · rw [List.getElem?_set] at hj
    by_cases hji : i = j
    · subst hji
      rw [if_pos rfl, if_pos hilt] at hj; cases hj
      rw [hun] at hq; cases hq
      intro e; cases e; exact hng rfl
    · rw [if_neg hji] at hj; exact h.ne j x q hj hq
  · rw [List.getElem?_set] at hj hk
    have nw : ∀ (p : Nat) (y : Value), us[p]? = some y → i ≠ p → y.ownBlock ≠ some gu := fun p y hp hip e => by
      rcases h5 with h5 | h5
      · exact h.apart p i y u gu hp hi (Ne.symm hip) e (h5.symm.trans hun)
      · rw [hun] at h5; cases h5; have := (h2.lt _ (Or.inr ⟨p, y, hp, e⟩)).2; omega
    by_cases hji : i = j
    · subst hji
      rw [if_pos rfl, if_pos hilt] at hj; cases hj
      rw [hun] at hq; cases hq
      rw [if_neg hjk] at hk
      exact nw k x' hk hjk
    · rw [if_neg hji] at hj
      by_cases hki : i = k
      · subst hki
        rw [if_pos rfl, if_pos hilt] at hk; cases hk
        rw [hun]; intro e; cases e
        exact nw j x hj hji hq
      · rw [if_neg hki] at hk; exact h.apart j k x x' q hj hk hjk hq
  · rcases h5 with h5 | h5
    · exact Or.inl (h5.symm.trans hun)
    · rw [hun] at h5; cases h5; exact Or.inr rfl
end Go.Proofs.Ytillckjohlbaiaa

/- How the arguments of the statements read: slices of bytes, numbers. -/
namespace Go.Proofs.Ytillckjohlbaiaa
set_option maxRecDepth 100000
open Go.ChangeShapes Go.WideShapes Go.ChangeAt Go.RowKit Go.Joins

theorem Try.cellsU8 : Try.prog.cellsOf 5 = 1 := by kernel_rfl
theorem Try.bytesU8 : Try.prog.bytesOf 5 = 1 := by kernel_rfl
theorem Try.own : ownKnob Try.prog.godebug = none := by kernel_rfl
theorem Try.laidOut : laidOutB Try.prog = true := by kernel_rfl

theorem wf_bounds {n : Int} (h : (Lit.int .i64 n).wf = true) : -9223372036854775808 ≤ n ∧ n ≤ 9223372036854775807 := by
  have := bounds_i64 h
  omega

theorem wf_u8 {n : Int} (h : (Lit.int .u8 n).wf = true) : 0 ≤ n ∧ n ≤ 255 := by
  have := bounds_u8 h
  omega

/-- A slice of bytes that came in. -/
theorem sl_open {H : Type} {enc : TypeId × Value → H} {W : World} {fuel : Nat} {cs : List Value} {x : DataW H × List MemPlace}
    (h : DataW.trod enc Try.prog W 0 (fun _ => true) true fuel 22 cs = some x) (hw : ∀ n ∈ x.1.weights Try.prog 22, n ≤ reachBytes) :
    ∃ s bs, cs = [s] ∧ Sl W s bs ∧ bs.length ≤ 140737488351232 := by
  rcases open_ints Try.underlying22 Try.underlying5 Try.cellsU8 h with ⟨rfl, rfl⟩ | ⟨a, len, cap, zs, rfl, _, hl, hm, hz, rfl, hcell, hwz⟩
  · exact ⟨_, [], rfl, Sl.nil W, by simp⟩
  · have hz' : zs.length = cap := by simpa using hz
    have hr : cap ≤ 140737488351232 := by
      have := hw (cap * 1) (by
        simp only [DataW.weights, Try.underlying22, Try.bytesU8]
        simp [lits, hz']
        left
        omega)
      unfold reachBytes at this
      omega
    refine ⟨_, (zs.take len).map Int.toNat, rfl, ⟨some a, len, cap, rfl, by simp; omega, by omega, fun h => by simp at h, ?_, fun h0 => ?_⟩, by simp; omega⟩
    · intro y hy
      simp only [List.mem_map] at hy
      obtain ⟨z, hz1, rfl⟩ := hy
      have := wf_u8 (hwz z (List.mem_of_mem_take hz1))
      omega
    · obtain ⟨b, off, spot⟩ := a
      have hc0 := hcell 0 (by omega)
      have hspot : spot = none := by simpa [Addr.add] using World.cell?_spot hc0
      subst hspot
      refine ⟨b, off, rfl, ?_, fun i hi => ?_⟩
      · have := World.block_lt_of_cell? W _ hc0
        simpa [Addr.add] using this
      · have hc := hcell i (by omega)
        have e : (⟨b, off, none⟩ : Addr).add i = ⟨b, off + i, none⟩ := by cases i <;> simp [Addr.add]
        rw [e] at hc
        rw [hc]
        have hi' : i < zs.length := by omega
        have := wf_u8 (hwz zs[i] (List.getElem_mem hi'))
        simp [hi, List.getElem?_eq_getElem hi', List.getD]
        omega

/-- A slice of bytes as an argument. -/
theorem bytes_open {H : Type} {enc : TypeId × Value → H} {W : World} {base : Nat} {v : Value} {d : DataW H} {p : List MemPlace} (hv : Value.okWide Try.prog W .any base 22 v)
    (h : DataW.Trod enc Try.prog W 0 (fun _ => true) true 22 v d p) (hw : ∀ n ∈ d.weights Try.prog 22, n ≤ reachBytes) :
    ∃ bs, Sl W v bs ∧ bs.length ≤ 140737488351232 := by
  obtain ⟨a1, len, cap, rfl⟩ := okWide_slice Try.underlying22 hv
  obtain ⟨fuel, hf⟩ := h
  obtain ⟨s, bs, e, hs, hl⟩ := sl_open hf hw
  simp [Value.cells] at e
  subst e
  exact ⟨bs, hs, hl⟩

theorem u32_nat {n : Int} (h : (Lit.int .u32 n).wf = true) : ∃ m : Nat, n = (m : Int) ∧ m < 4294967296 := by
  have := bounds_u32 h
  exact ⟨n.toNat, by omega, by omega⟩
end Go.Proofs.Ytillckjohlbaiaa
