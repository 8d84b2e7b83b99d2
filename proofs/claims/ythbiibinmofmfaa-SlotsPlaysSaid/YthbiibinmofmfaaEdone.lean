/- What may stand in a sector behind a crash: each byte is that of what was sure, or of a loose write; the first sector is whole. Plain. -/
import Derived.Test.YthbiibinmofmfaaEtwo
import Derived.Test.YthbiibinmofmfaaEstr
import Derived.Test.YthbiibinmofmfaaEkp
import Derived.Test.YthbiibinmofmfaaElive
import Derived.ProofKit
import Derived.OpenShut
import Derived.SizedLaws
import Derived.Lib.SmallJoins
import Derived.ChangeArms
import Derived.DataReads


namespace Go.Proofs.Ythbiibinmofmfaa
set_option maxRecDepth 100000
set_option maxRecDepth 100000
open Go.RowKit

namespace Ek
/-- The rows that were written into i, the first k writes. -/
def rowsTo (l : List (Nat × List Nat)) (i : Nat) : Nat → List (List Nat)
  | 0 => []
  | k + 1 => match l[k]? with
    | some p => if p.1 = i then rowsTo l i k ++ [p.2] else rowsTo l i k
    | none => rowsTo l i k
/-- What may stand in sector i behind a crash. -/
def may (d : Dk) (i : Nat) : List (List Nat) := zrow :: rowsTo d.loose i d.loose.length
theorem rowsTo_append (l m : List (Nat × List Nat)) (i k : Nat) (hk : k ≤ l.length) : rowsTo (l ++ m) i k = rowsTo l i k := by
  induction k with
  | zero => rfl
  | succ k ih => simp only [rowsTo]; rw [ih (by omega), List.getElem?_append_left (by omega)]
theorem may_added (d : Dk) (j : Nat) (bs : List Nat) (i : Nat) : may (added d (j : Int) bs) i = if j = i then may d i ++ [bs] else may d i := by
  show zrow :: rowsTo (d.loose ++ [(((j : Int)).toNat, bs)]) i (d.loose ++ [(((j : Int)).toNat, bs)]).length = _
  rw [List.length_append, List.length_singleton, Int.toNat_natCast]
  simp only [rowsTo]
  rw [rowsTo_append _ _ _ _ (Nat.le_refl _), show (d.loose ++ [(j, bs)])[d.loose.length]? = some (j, bs) by simp]
  show zrow :: (if j = i then _ else _) = _
  unfold may
  split <;> rfl
theorem share_zero (c : Int) : share 0 c = 0 ∨ share 0 c = 512 := by
  unfold share
  by_cases h : c < 1
  · exact Or.inl (if_pos h)
  · rw [if_neg h, if_pos (Or.inr rfl)]; exact Or.inr rfl
theorem share_at (r s : List Nat) (n j : Nat) (hr : r.length = 512) (hn : n ≤ 512) : (r.take n ++ s.drop n)[j]? = if j < n then r[j]? else s[j]? := by
  rw [List.getElem?_append]
  rw [List.length_take, Nat.min_eq_left (by omega)]
  split
  · rename_i h; rw [List.getElem?_take, if_pos h]
  · rename_i h; rw [List.getElem?_drop]; congr 1; omega
theorem settle_may {s : Nat → List Nat} {l : List (Nat × List Nat)} (keep : Nat → Int) (hs : ∀ i, (s i).length = 512) (hl : ∀ p ∈ l, p.2.length = 512) (i k : Nat) :
    (settleTo s l keep k i).length = 512 ∧ ((∀ j : Nat, ∃ r : List Nat, r ∈ s i :: rowsTo l i k ∧ r[j]? = (settleTo s l keep k i)[j]?) ∧ (i = 0 → settleTo s l keep k i ∈ s i :: rowsTo l i k)) := by
  induction k with
  | zero => exact ⟨hs i, fun j => ⟨s i, by simp, rfl⟩, fun _ => by simp [settleTo]⟩
  | succ k ih =>
    obtain ⟨ih0, ih1, ih2⟩ := ih
    simp only [settleTo, rowsTo]
    cases hp : l[k]? with
    | none => exact ⟨ih0, ih1, ih2⟩
    | some p =>
      have hp2 := hl p (List.mem_of_getElem? hp)
      obtain ⟨a, r⟩ := p
      have hr : r.length = 512 := hp2
      show (lay (settleTo s l keep k) a r (share a (keep k)) i).length = 512 ∧ (∀ j : Nat, ∃ q : List Nat, q ∈ s i :: (if a = i then rowsTo l i k ++ [r] else rowsTo l i k) ∧ q[j]? = (lay (settleTo s l keep k) a r (share a (keep k)) i)[j]?) ∧ (i = 0 → lay (settleTo s l keep k) a r (share a (keep k)) i ∈ s i :: (if a = i then rowsTo l i k ++ [r] else rowsTo l i k))
      have hsh := share_le a (keep k)
      unfold lay
      by_cases hi : i = a
      · subst hi
        simp only [if_true]
        refine ⟨by rw [List.length_append, List.length_take, List.length_drop]; omega, fun j => ?_, fun h0 => ?_⟩
        · rw [share_at _ _ _ _ hr hsh]
          by_cases hj : j < share i (keep k)
          · exact ⟨r, by simp, by rw [if_pos hj]⟩
          · obtain ⟨q, hq, e⟩ := ih1 j
            refine ⟨q, ?_, by rw [if_neg hj]; exact e⟩
            rcases List.mem_cons.1 hq with rfl | hq
            · simp
            · exact List.mem_cons_of_mem _ (List.mem_append_left _ hq)
        · subst h0
          rcases share_zero (keep k) with e | e
          · rw [e, List.take_zero, List.drop_zero, List.nil_append]
            rcases List.mem_cons.1 (ih2 rfl) with q | q
            · rw [q]; simp
            · exact List.mem_cons_of_mem _ (List.mem_append_left _ q)
          · rw [e, List.take_of_length_le (by omega), List.drop_eq_nil_of_le (by omega), List.append_nil]
            simp
      · rw [if_neg hi, if_neg (fun h => hi h.symm)]
        exact ⟨ih0, ih1, ih2⟩
/-- A disk that was new, written, and came through a crash. -/
theorem crash_may {d : Dk} (h : Ok d) (hs : ∀ i, d.sure i = zrow) (keep : Nat → Int) (i : Nat) :
    (∀ j : Nat, ∃ r : List Nat, r ∈ may d i ∧ r[j]? = (now (crash d keep) i)[j]?) ∧ (i = 0 → now (crash d keep) i ∈ may d i) := by
  have := (settle_may keep (fun i => (h.sure i).1) (fun p hp => (h.loose p hp).2.1) i d.loose.length).2
  rw [hs i] at this
  exact this
end Ek
end Go.Proofs.Ythbiibinmofmfaa

/- A list of lists of strings of the call's own. -/

namespace Go.Proofs.Ythbiibinmofmfaa
set_option maxRecDepth 100000
set_option maxRecDepth 100000
open Go.RowKit

theorem Try.infoStrs : (Try.prog.info? 29).map (fun i => (i.zero, i.size, i.bytes)) = some (some (.slice none 0 0), 1, 24) := by kernel_rfl

theorem own_at {w : World} {base : Nat} {e : TypeId} {size : Nat} {v : Value} {n : Nat} {xs : List Value} (h : w.ownsRow base e size v n xs) (hn : 0 < n) : ∃ g cap, v = .slice (some ⟨g, 0, none⟩) n cap ∧ base ≤ g ∧ g < w.heap.size := by
  rcases h.2 with ⟨_, h0⟩ | ⟨g, cap, cur, hv, hb, hg, _⟩
  · omega
  · exact ⟨g, cap, hv, hb, (Array.getElem?_eq_some_iff.1 hg).1⟩
/-- v is the outer row: the slices us, which read the strings ss; no two blocks are the same. -/
structure R2 (w : World) (base : Nat) (v : Value) (us : List Value) (ss : List (List ByteArray)) : Prop where
  own : w.ownsRow base 29 1 v us.length us
  len : ss.length = us.length
  row : ∀ (i : Nat) (u : Value) (l : List ByteArray), us[i]? = some u → ss[i]? = some l → 0 < l.length ∧ w.ownsRow base 9 1 u l.length (vstr l)
  ne : ∀ (i : Nat) (u : Value) (h : Nat), us[i]? = some u → u.ownBlock = some h → v.ownBlock ≠ some h
  apart : ∀ (i j : Nat) (u u' : Value) (h : Nat), us[i]? = some u → us[j]? = some u' → i ≠ j → u.ownBlock = some h → u'.ownBlock ≠ some h
theorem R2.get {w : World} {base : Nat} {v : Value} {us : List Value} {ss : List (List ByteArray)} (h : R2 w base v us ss) (i : Nat) (u : Value) (hi : us[i]? = some u) : ∃ l, ss[i]? = some l :=
  ⟨ss[i]'(by have := (List.getElem?_eq_some_iff.1 hi).1; rw [h.len]; exact this), List.getElem?_eq_getElem _⟩
theorem R2.lt {w : World} {base : Nat} {v : Value} {us : List Value} {ss : List (List ByteArray)} (h : R2 w base v us ss) (g : Nat) (hg : v.ownBlock = some g ∨ ∃ (i : Nat) (u : Value), us[i]? = some u ∧ u.ownBlock = some g) : base ≤ g ∧ g < w.heap.size := by
  rcases hg with hg | ⟨i, u, hi, hg⟩
  · exact h.own.lt g hg
  · obtain ⟨l, hl⟩ := h.get i u hi
    exact (h.row i u l hi hl).2.lt g hg
theorem R2.same {w w' : World} {base : Nat} {v : Value} {us : List Value} {ss : List (List ByteArray)} (h : R2 w base v us ss) (he : ∀ g, (v.ownBlock = some g ∨ ∃ (i : Nat) (u : Value), us[i]? = some u ∧ u.ownBlock = some g) → w'.heap[g]? = w.heap[g]?) : R2 w' base v us ss :=
  ⟨own_same h.own (fun g hg => he g (Or.inl hg)), h.len, fun i u l hi hl => ⟨(h.row i u l hi hl).1, own_same (h.row i u l hi hl).2 (fun g hg => he g (Or.inr ⟨i, u, hi, hg⟩))⟩, h.ne, h.apart⟩
theorem R2.later {w w' : World} {base : Nat} {v : Value} {us : List Value} {ss : List (List ByteArray)} (h : R2 w base v us ss) (hb : Below w.heap.size w w') : R2 w' base v us ss :=
  h.same (fun g hg => hb.block g (h.lt g hg).2)
theorem R2.nil (w : World) : R2 w w.heap.size (.slice none 0 0) [] [] :=
  ⟨⟨rfl, Or.inl ⟨rfl, rfl⟩⟩, rfl, fun i u l hi => by simp at hi, fun i u h hi => by simp at hi, fun i j u u' h hi => by simp at hi⟩
theorem R2.block {w : World} {base : Nat} {v : Value} {us : List Value} {ss : List (List ByteArray)} (h : R2 w base v us ss) (i : Nat) (u : Value) (hi : us[i]? = some u) : ∃ g cap len, u = .slice (some ⟨g, 0, none⟩) len cap ∧ 0 < len ∧ base ≤ g ∧ g < w.heap.size ∧ ∃ l, ss[i]? = some l ∧ len = l.length := by
  obtain ⟨l, hl⟩ := h.get i u hi
  obtain ⟨h0, ho⟩ := h.row i u l hi hl
  obtain ⟨g, cap, e, h1, h2⟩ := own_at ho h0
  exact ⟨g, cap, l.length, e, h0, h1, h2, l, hl, rfl⟩
/-- A new row of one string in a new block. -/
theorem own_new {w : World} {g base : Nat} {S : ByteArray} (h : Has w g (.cells #[.string S] 9 (0, 0))) (hb : base ≤ g) : w.ownsRow base 9 1 (.slice (some ⟨g, 0, none⟩) 1 1) 1 (vstr [S]) :=
  ⟨rfl, Or.inr ⟨g, 1, _, rfl, hb, h, Nat.le_refl _, by unfold maxLen; omega, rfl, rfl⟩⟩
/-- One more string in row i: append, then the store into the outer row. -/
theorem R2.put {w w2 : World} {base : Nat} {g0 cap0 : Nat} {us : List Value} {ss : List (List ByteArray)} (h : R2 w base (.slice (some ⟨g0, 0, none⟩) us.length cap0) us ss) (hb : Below w.heap.size w w2) (hbase : base ≤ w.heap.size) {S : ByteArray} {g i : Nat} {u : Value} {l : List ByteArray} (hi : us[i]? = some u) (hl : ss[i]? = some l) (hll : l.length ≤ 1000) (hg : Has w2 g (.cells #[.string S] 9 (0, 0))) :
    ∃ u' w', (Builtin.append_ #[29, 29] 29 #[u, .slice (some ⟨g, 0, none⟩) 1 1]).run Try.prog w2 = .ok u' w' ∧ w2.grownBy w' u.ownBlock ∧ w'.cell? ⟨g0, i, none⟩ = some u ∧ w'.frozen? ⟨g0, i, none⟩ = false ∧ g0 < w2.heap.size ∧
      R2 (w'.setCell ⟨g0, i, none⟩ u') base (.slice (some ⟨g0, 0, none⟩) us.length cap0) (us.set i u') (ss.set i (l ++ [S])) ∧ (∃ q, u'.ownBlock = some q ∧ (u.ownBlock = some q ∨ q = w2.heap.size)) ∧ u'.oneCell' = true := by
  have h2 := h.later hb
  have hs := hb.size
  have hilt := (List.getElem?_eq_some_iff.1 hi).1
  obtain ⟨q0, q1⟩ := h2.row i u l hi hl
  obtain ⟨i0, hi0, hz0, hz1, hz2⟩ := info_parts Try.infoStr
  obtain ⟨u', w', h1, h3, h4, _, h5⟩ := run_append_own_at (P := Try.prog) (w := w2) base 29 29 9 i0 _ 1 16 Try.underlying29 hi0 hz0 hz1 hz2 rfl (by decide) u l.length (vstr l) q1 ⟨g, 0, none⟩ 1 1 [.string S] rfl
    (fun j x hj => by
      obtain rfl : j = 0 := by have := (List.getElem?_eq_some_iff.1 hj).1; simpa using this
      rw [Addr.add_mid, hg.cell]; exact hj) (by simp [Value.oneCell']) (by unfold maxLen; omega) (by omega) (by omega)
  have hkeep : ∀ q, q < w2.heap.size → u.ownBlock ≠ some q → w'.heap[q]? = w2.heap[q]? := fun q hq hne => h4.block q hq (fun e => hne e.symm)
  have hg0 := (h2.own.lt g0 rfl).2
  have hug : u.ownBlock ≠ some g0 := fun e => h.ne i u g0 hi e rfl
  have ho := own_same h2.own (w' := w') (fun q hq => by cases hq; exact hkeep g0 hg0 hug)
  have ho2 := (ho.stored i u').1
  have hst : ∀ q, q ≠ g0 → (w'.setCell ⟨g0, i, none⟩ u').heap[q]? = w'.heap[q]? := fun q hq => Below.heap_setCell w' ⟨g0, i, none⟩ u' q hq
  obtain ⟨gu, capu, eu, hbu, hltu⟩ := own_at h3 (by omega)
  have hun : u'.ownBlock = some gu := by rw [eu]; rfl
  have hng : gu ≠ g0 := by
    rcases h5 with h5 | h5
    · rintro rfl; exact hug (h5.symm.trans hun)
    · rw [hun] at h5; cases h5; omega
  refine ⟨u', w', h1, h4, ?_, ho.frozenAt i, hg0, ⟨by rw [List.length_set]; exact ho2, by rw [List.length_set, List.length_set]; exact h.len, fun j x m hj hm => ?_, fun j x q hj hq => ?_, fun j k x x' q hj hk hjk hq => ?_⟩, ⟨gu, hun, ?_⟩, by rw [eu]; rfl⟩
  · rw [ho.cellAt i (by omega)]; exact hi
  · rw [List.getElem?_set] at hj hm
    by_cases hji : i = j
    · subst hji
      rw [if_pos rfl, if_pos hilt] at hj; rw [if_pos rfl, if_pos (by rw [h.len]; exact hilt)] at hm
      cases hj; cases hm
      refine ⟨by simp, ?_⟩
      rw [List.length_append, List.length_singleton, show vstr (l ++ [S]) = vstr l ++ [.string S] by simp [vstr]]
      exact own_same h3 (fun q hq => hst q (by rw [hun] at hq; cases hq; exact hng))
    · rw [if_neg hji] at hj hm
      obtain ⟨r0, r1⟩ := h2.row j x m hj hm
      refine ⟨r0, own_same r1 (fun q hq => (hst q (fun e => by subst e; exact h.ne j x _ hj hq rfl)).trans (hkeep q (r1.lt q hq).2 (fun e => h.apart j i x u q hj hi (Ne.symm hji) hq e)))⟩
  · rw [List.getElem?_set] at hj
    by_cases hji : i = j
    · subst hji
      rw [if_pos rfl, if_pos hilt] at hj; cases hj
      rw [hun] at hq; cases hq
      intro e; cases e; exact hng rfl
    · rw [if_neg hji] at hj; exact h.ne j x q hj hq
  · rw [List.getElem?_set] at hj hk
    have nw : ∀ (p : Nat) (y : Value), us[p]? = some y → i ≠ p → y.ownBlock ≠ some gu := fun p y hp hip e => by
      rcases h5 with h5 | h5
      · exact h.apart p i y u gu hp hi (Ne.symm hip) e (h5.symm.trans hun)
      · rw [hun] at h5; cases h5; have := (h2.lt _ (Or.inr ⟨p, y, hp, e⟩)).2; omega
    by_cases hji : i = j
    · subst hji
      rw [if_pos rfl, if_pos hilt] at hj; cases hj
      rw [hun] at hq; cases hq
      rw [if_neg hjk] at hk
      exact nw k x' hk hjk
    · rw [if_neg hji] at hj
      by_cases hki : i = k
      · subst hki
        rw [if_pos rfl, if_pos hilt] at hk; cases hk
        rw [hun]; intro e; cases e
        exact nw j x hj hji hq
      · rw [if_neg hki] at hk; exact h.apart j k x x' q hj hk hjk hq
  · rcases h5 with h5 | h5
    · exact Or.inl (h5.symm.trans hun)
    · rw [hun] at h5; cases h5; exact Or.inr rfl
end Go.Proofs.Ythbiibinmofmfaa

/- How the arguments of the statements read: slices of bytes, numbers. -/
namespace Go.Proofs.Ythbiibinmofmfaa
set_option maxRecDepth 100000
open Go.ChangeShapes Go.WideShapes Go.ChangeAt Go.RowKit Go.Joins

theorem Try.cellsU8 : Try.prog.cellsOf 5 = 1 := by kernel_rfl
theorem Try.bytesU8 : Try.prog.bytesOf 5 = 1 := by kernel_rfl
theorem Try.own : ownKnob Try.prog.godebug = none := by kernel_rfl
theorem Try.laidOut : laidOutB Try.prog = true := by kernel_rfl

theorem wf_bounds {n : Int} (h : (Lit.int .i64 n).wf = true) : -9223372036854775808 ≤ n ∧ n ≤ 9223372036854775807 := by
  have := bounds_i64 h
  omega

theorem wf_u8 {n : Int} (h : (Lit.int .u8 n).wf = true) : 0 ≤ n ∧ n ≤ 255 := by
  have := bounds_u8 h
  omega

/-- A slice of bytes that came in. -/
theorem sl_open {H : Type} {enc : TypeId × Value → H} {W : World} {fuel : Nat} {cs : List Value} {x : DataW H × List MemPlace}
    (h : DataW.trod enc Try.prog W 0 (fun _ => true) true fuel 35 cs = some x) (hw : ∀ n ∈ x.1.weights Try.prog 35, n ≤ reachBytes) :
    ∃ s bs, cs = [s] ∧ Sl W s bs ∧ bs.length ≤ 140737488351232 := by
  rcases open_ints Try.underlying35 Try.underlying5 Try.cellsU8 h with ⟨rfl, rfl⟩ | ⟨a, len, cap, zs, rfl, _, hl, hm, hz, rfl, hcell, hwz⟩
  · exact ⟨_, [], rfl, Sl.nil W, by simp⟩
  · have hz' : zs.length = cap := by simpa using hz
    have hr : cap ≤ 140737488351232 := by
      have := hw (cap * 1) (by
        simp only [DataW.weights, Try.underlying35, Try.bytesU8]
        simp [lits, hz']
        left
        omega)
      unfold reachBytes at this
      omega
    refine ⟨_, (zs.take len).map Int.toNat, rfl, ⟨some a, len, cap, rfl, by simp; omega, by omega, fun h => by simp at h, ?_, fun h0 => ?_⟩, by simp; omega⟩
    · intro y hy
      simp only [List.mem_map] at hy
      obtain ⟨z, hz1, rfl⟩ := hy
      have := wf_u8 (hwz z (List.mem_of_mem_take hz1))
      omega
    · obtain ⟨b, off, spot⟩ := a
      have hc0 := hcell 0 (by omega)
      have hspot : spot = none := by simpa [Addr.add] using World.cell?_spot hc0
      subst hspot
      refine ⟨b, off, rfl, ?_, fun i hi => ?_⟩
      · have := World.block_lt_of_cell? W _ hc0
        simpa [Addr.add] using this
      · have hc := hcell i (by omega)
        have e : (⟨b, off, none⟩ : Addr).add i = ⟨b, off + i, none⟩ := by cases i <;> simp [Addr.add]
        rw [e] at hc
        rw [hc]
        have hi' : i < zs.length := by omega
        have := wf_u8 (hwz zs[i] (List.getElem_mem hi'))
        simp [hi, List.getElem?_eq_getElem hi', List.getD]
        omega

/-- A slice of bytes as an argument. -/
theorem bytes_open {H : Type} {enc : TypeId × Value → H} {W : World} {base : Nat} {v : Value} {d : DataW H} {p : List MemPlace} (hv : Value.okWide Try.prog W .any base 35 v)
    (h : DataW.Trod enc Try.prog W 0 (fun _ => true) true 35 v d p) (hw : ∀ n ∈ d.weights Try.prog 35, n ≤ reachBytes) :
    ∃ bs, Sl W v bs ∧ bs.length ≤ 140737488351232 := by
  obtain ⟨a1, len, cap, rfl⟩ := okWide_slice Try.underlying35 hv
  obtain ⟨fuel, hf⟩ := h
  obtain ⟨s, bs, e, hs, hl⟩ := sl_open hf hw
  simp [Value.cells] at e
  subst e
  exact ⟨bs, hs, hl⟩

theorem u32_nat {n : Int} (h : (Lit.int .u32 n).wf = true) : ∃ m : Nat, n = (m : Int) ∧ m < 4294967296 := by
  have := bounds_u32 h
  exact ⟨n.toNat, by omega, by omega⟩
end Go.Proofs.Ythbiibinmofmfaa

/- Lists of calls, and numbers, as arguments of the statements. -/
namespace Go.Proofs.Ythbiibinmofmfaa
set_option maxRecDepth 100000
open Go.ChangeShapes Go.WideShapes Go.ChangeAt Go.RowKit

theorem Try.cellsInt : Try.prog.cellsOf 3 = 1 := by kernel_rfl
theorem Try.cellsInts : Try.prog.cellsOf 36 = 1 := by kernel_rfl
/-- A slice of numbers, read. -/
theorem ks_trod {H : Type} {enc : TypeId × Value → H} {W : World} {fuel : Nat} {cs : List Value} {x : DataW H × List MemPlace}
    (h : DataW.trod enc Try.prog W 0 (fun _ => true) true fuel 36 cs = some x) : ∃ s ks, cs = [s] ∧ Ks W s ks := by
  rcases open_ints Try.underlying36 Try.underlying3 Try.cellsInt h with ⟨rfl, rfl⟩ | ⟨a, len, cap, zs, rfl, _, hl, hm, hz, rfl, hcell, hwz⟩
  · exact ⟨_, [], rfl, none, 0, rfl, by simp, by simp, fun h => absurd h (by simp)⟩
  · have hz' : zs.length = cap := by simpa using hz
    have hm' : cap ≤ 9223372036854775807 := by unfold maxLen at hm; omega
    have hlen : (zs.take len).length = len := by simp; omega
    refine ⟨_, zs.take len, rfl, some a, cap, by rw [hlen], by omega, fun k hk => wf_bounds (hwz k (List.mem_of_mem_take hk)), fun h0 => ?_⟩
    rw [hlen] at h0
    obtain ⟨b, off, spot⟩ := a
    have hc0 := hcell 0 (by omega)
    have hspot : spot = none := by simpa [Addr.add] using World.cell?_spot hc0
    subst hspot
    refine ⟨b, off, rfl, fun i hi => ?_⟩
    rw [hlen] at hi
    have hc := hcell i (by omega)
    rw [Addr.add_mid] at hc
    rw [hc]
    have hi' : i < zs.length := by omega
    simp [hi, List.getElem?_eq_getElem hi', List.getD]

/-- A slice of numbers as an argument. -/
theorem ks_open {H : Type} {enc : TypeId × Value → H} {W : World} {base : Nat} {v : Value} {d : DataW H} {p : List MemPlace} (hv : Value.okWide Try.prog W .any base 36 v)
    (h : DataW.Trod enc Try.prog W 0 (fun _ => true) true 36 v d p) : ∃ ks, Ks W v ks := by
  obtain ⟨a1, len, cap, rfl⟩ := okWide_slice Try.underlying36 hv
  obtain ⟨fuel, hf⟩ := h
  obtain ⟨s, ks, e, hs⟩ := ks_trod hf
  simp [Value.cells] at e
  subst e
  exact ⟨ks, hs⟩

/-- A call of a list of calls. -/
structure Ac where
  kind : Int
  i : Int
  c : Nat
  long : Int
  kv : Value
  keep : List Int

/-- The call ac lies in block b from o on. -/
structure AcAt (w : World) (b o : Nat) (ac : Ac) : Prop where
  kind : w.cell? ⟨b, o, none⟩ = some (.int .i64 ac.kind)
  i : w.cell? ⟨b, o + 1, none⟩ = some (.int .i64 ac.i)
  c : w.cell? ⟨b, o + 2, none⟩ = some (.int .u8 (ac.c : Int))
  long : w.cell? ⟨b, o + 3, none⟩ = some (.int .i64 ac.long)
  kv : w.cell? ⟨b, o + 4, none⟩ = some ac.kv
  ks : Ks w ac.kv ac.keep
  c8 : ac.c < 256
  bi : -9223372036854775808 ≤ ac.i ∧ ac.i ≤ 9223372036854775807
  bk : -9223372036854775808 ≤ ac.kind ∧ ac.kind ≤ 9223372036854775807
  bl : -9223372036854775808 ≤ ac.long ∧ ac.long ≤ 9223372036854775807
theorem AcAt.keep' {w w' : World} {b o : Nat} {ac : Ac} (h : AcAt w b o ac) (hk : KeepA w w') : AcAt w' b o ac :=
  ⟨hk.cell h.kind, hk.cell h.i, hk.cell h.c, hk.cell h.long, hk.cell h.kv, h.ks.keep hk, h.c8, h.bi, h.bk, h.bl⟩

/-- The slice value s reads the calls l. -/
def Acts (w : World) (s : Value) (l : List Ac) : Prop :=
  ∃ a cap, s = .slice a l.length cap ∧ l.length ≤ 9223372036854775807 ∧ (0 < l.length → ∃ b off, a = some ⟨b, off, none⟩ ∧ ∀ j ac, l[j]? = some ac → AcAt w b (off + j * 5) ac)
theorem Acts.keep {w w' : World} {s : Value} {l : List Ac} (h : Acts w s l) (hk : KeepA w w') : Acts w' s l := by
  obtain ⟨a, cap, e, h1, h2⟩ := h
  refine ⟨a, cap, e, h1, fun hp => ?_⟩
  obtain ⟨b, off, e2, hc⟩ := h2 hp
  exact ⟨b, off, e2, fun j ac hj => (hc j ac hj).keep' hk⟩

end Go.Proofs.Ythbiibinmofmfaa

/- Contract of valiselaw11.done. -/
namespace Go.Proofs.Ythbiibinmofmfaa
set_option maxRecDepth 100000
open Go.RowKit

namespace Ek
def stepA (d : Dk) (ac : Ac) : Dk := if ac.kind = 1 then write d ac.i (fil ac.c (fln ac.long)) else if ac.kind = 2 then sync d else if ac.kind = 4 then crash d (nth ac.keep) else d
/-- The disk behind the first k calls. -/
def dn (n : Nat) (l : List Ac) : Nat → Dk
  | 0 => fresh n
  | k + 1 => match l[k]? with
    | some ac => stepA (dn n l k) ac
    | none => dn n l k
/-- A disk without a fuse. -/
structure Fr (d : Dk) (n i : Nat) : Prop where
  n : d.n = n
  dark : d.dark = false
  left : d.left = -1
  used : d.used ≤ i
theorem Fr.step {d : Dk} {n i : Nat} (h : Fr d n i) (ac : Ac) : Fr (stepA d ac) n (i + 1) := by
  have hu := h.used
  unfold stepA
  split
  · by_cases hb : Bad d ac.i (fil ac.c (fln ac.long))
    · have e : write d ac.i (fil ac.c (fln ac.long)) = d := by unfold write; rw [if_pos hb]
      rw [e]; exact ⟨h.n, h.dark, h.left, by omega⟩
    · have e : write d ac.i (fil ac.c (fln ac.long)) = added d ac.i (fil ac.c (fln ac.long)) := by
        unfold write
        rw [if_neg hb, if_neg (by rw [h.dark]; decide)]
        exact (change_free (d := added d ac.i (fil ac.c (fln ac.long))) h.dark h.left).1
      rw [e]; exact ⟨h.n, h.dark, h.left, by show d.used + 1 ≤ _; omega⟩
  · split
    · obtain ⟨a, b⟩ := change_free h.dark h.left
      have e : sync d = settled d (fun _ => 1) := by unfold sync; rw [if_pos b, a]
      rw [e]; exact ⟨h.n, h.dark, h.left, by show d.used ≤ _; omega⟩
    · split
      · exact ⟨h.n, rfl, rfl, by show d.used ≤ _; omega⟩
      · exact ⟨h.n, h.dark, h.left, by omega⟩
theorem dn_fr (n : Nat) (l : List Ac) (k : Nat) : Fr (dn n l k) n k := by
  induction k with
  | zero => exact ⟨rfl, rfl, rfl, Nat.le_refl _⟩
  | succ k ih =>
    simp only [dn]
    split
    · exact ih.step _
    · exact ⟨ih.n, ih.dark, ih.left, by have := ih.used; omega⟩
end Ek

end Go.Proofs.Ythbiibinmofmfaa
