/- What the law's list of strings holds, beside a disk: plain facts, and both in memory. -/
import Derived.Test.YthbiibinmofmfaaEdone

namespace Go.Proofs.Ythbiibinmofmfaa
set_option maxRecDepth 100000
set_option maxRecDepth 100000
open Go.RowKit

namespace Ek
/-- A disk that was new, and written alone. -/
structure Nw (d : Dk) (n i : Nat) : Prop where
  n : d.n = n
  dark : d.dark = false
  left : d.left = -1
  used : d.used ≤ i
  loose : d.loose.length ≤ i
  sure : ∀ k, d.sure k = zrow
theorem Nw.fresh (n : Nat) : Nw (fresh n) n 0 := ⟨rfl, rfl, rfl, Nat.le_refl _, Nat.le_refl _, fun _ => rfl⟩
theorem Nw.next {d : Dk} {n i : Nat} (h : Nw d n i) : Nw d n (i + 1) := ⟨h.n, h.dark, h.left, by have := h.used; omega, by have := h.loose; omega, h.sure⟩
theorem Nw.bad {d : Dk} (i : Int) (bs : List Nat) (hb : Bad d i bs) : write d i bs = d ∧ writeE d i bs = 2 := ⟨by unfold write; rw [if_pos hb], by unfold writeE; rw [if_pos hb]⟩
theorem Nw.good {d : Dk} {n k : Nat} (h : Nw d n k) (i : Int) (bs : List Nat) (hb : ¬ Bad d i bs) : write d i bs = added d i bs ∧ writeE d i bs = 0 ∧ Nw (added d i bs) n (k + 1) := by
  obtain ⟨a, b⟩ := change_free (d := added d i bs) h.dark h.left
  have b' := (change_free h.dark h.left).2
  refine ⟨?_, ?_, h.n, h.dark, h.left, ?_, ?_, h.sure⟩
  · unfold write
    rw [if_neg hb, if_neg (by rw [h.dark]; decide)]
    exact a
  · unfold writeE
    rw [if_neg hb, if_neg (by rw [h.dark]; decide)]
    exact b'
  · show d.used + 1 ≤ _
    have := h.used; omega
  · show (d.loose ++ [_]).length ≤ _
    have := h.loose
    rw [List.length_append, List.length_singleton]; omega
theorem rowsTo_len (l : List (Nat × List Nat)) (i k : Nat) : (rowsTo l i k).length ≤ k := by
  induction k with
  | zero => simp [rowsTo]
  | succ k ih =>
    simp only [rowsTo]
    split
    · split
      · rw [List.length_append, List.length_singleton]; omega
      · omega
    · omega
theorem Nw.may_len {d : Dk} {n k : Nat} (h : Nw d n k) (i : Nat) : (may d i).length ≤ k + 1 := by
  have := rowsTo_len d.loose i d.loose.length
  have := h.loose
  simp only [may, List.length_cons]
  omega
/-- The law's list. -/
def mayS (d : Dk) (n : Nat) : List (List ByteArray) := (List.range n).map fun i => (may d i).map strB
theorem mayS_length (d : Dk) (n : Nat) : (mayS d n).length = n := by simp [mayS]
theorem mayS_get (d : Dk) (n i : Nat) (h : i < n) : (mayS d n)[i]? = some ((may d i).map strB) := by simp [mayS, h]
theorem mayS_fresh (n : Nat) : mayS (fresh n) n = List.replicate n [strB zrow] := by
  apply List.ext_getElem?
  intro i
  by_cases h : i < n
  · rw [mayS_get _ _ _ h, List.getElem?_replicate, if_pos h]; rfl
  · rw [List.getElem?_eq_none (by rw [mayS_length]; omega), List.getElem?_eq_none (by simp; omega)]
theorem mayS_added (d : Dk) (n j : Nat) (bs : List Nat) : mayS (added d (j : Int) bs) n = (mayS d n).set j ((may d j).map strB ++ [strB bs]) := by
  apply List.ext_getElem?
  intro i
  by_cases h : i < n
  · rw [mayS_get _ _ _ h, List.getElem?_set]
    by_cases hj : j = i
    · subst hj
      rw [if_pos rfl, if_pos (by rw [mayS_length]; exact h), may_added, if_pos rfl, List.map_append]; rfl
    · rw [if_neg hj, mayS_get _ _ _ h, may_added, if_neg hj]
  · rw [List.getElem?_eq_none (by rw [mayS_length]; omega), List.getElem?_eq_none (by rw [List.length_set, mayS_length]; omega)]
end Ek

/-- A disk that what was made since begun is taken in beside it. -/
theorem Ly.turned_add {w0 w w' : World} {b : Nat} {d : Ek.Dk} {E : Nat → Prop} (h : Ly w0 w b d E) (ht : Tch E w w') (h0 : ∀ k, E k → w0.heap.size ≤ k) (q : Nat) (h2 : q < w'.heap.size) (h3 : E q ∨ w.heap.size ≤ q) : Ly w0 w' b d (fun k => E k ∨ k = q) := by
  obtain ⟨S, hd, hs, hg, hb0⟩ := h
  have := ht.size
  refine ⟨S, hd.tch ht (fun k hk => (hs k hk).2.2), fun k hk => ⟨(hs k hk).1, by have := (hs k hk).2.1; omega, ?_⟩, fun k hk => ?_, ht.below hb0 h0 hb0.size⟩
  · rintro (h | rfl)
    · exact (hs k hk).2.2 h
    · rcases h3 with h | h
      · exact (hs k hk).2.2 h
      · have := (hs k hk).2.1; omega
  · rcases hk with h | rfl
    · have := hg k h; omega
    · exact h2
theorem lv_ly {w0 w1 w : World} {b : Nat} {d : Ek.Dk} (h : Lv w0 w1 b d w1.heap.size) (hb : Below w1.heap.size w1 w) : Ly w0 w b d (fun q => w1.heap.size ≤ q ∧ q < w.heap.size) := by
  obtain ⟨S, hd, hs, hn, hb0⟩ := h
  have := hb.size
  exact ⟨S, hd.later hb, fun k hk => ⟨(hs k hk).1, by have := (hs k hk).2; omega, fun hE => by have := (hs k hk).2; omega⟩, fun k hk => hk.2, hb0.trans (hb.mono hb0.size)⟩

/-- The law's world: the disk d, and the list of what may stand, by the disk m. -/
def El (w : World) (B : Nat) (wr : World) (b n go oc : Nat) (d m : Ek.Dk) : Prop :=
  ∃ (us : List Value) (E : Nat → Prop), us.length = n ∧ R2 wr B (.slice (some ⟨go, 0, none⟩) n oc) us (Ek.mayS m n) ∧ Ly w wr b d E ∧ (∀ q, (q = go ∨ ∃ (i : Nat) (u : Value), us[i]? = some u ∧ u.ownBlock = some q) → E q) ∧ (∀ q, E q → B ≤ q)
theorem El.start {w w1 wr : World} {b n go oc : Nat} {us : List Value} (hb : Lv w w1 b (Ek.fresh n) w1.heap.size) (hk : Below w1.heap.size w1 wr) (hu : us.length = n) (hr : R2 wr w1.heap.size (.slice (some ⟨go, 0, none⟩) n oc) us (List.replicate n [strB zrow])) : El w w1.heap.size wr b n go oc (Ek.fresh n) (Ek.fresh n) := by
  refine ⟨us, _, hu, by rw [Ek.mayS_fresh]; exact hr, lv_ly hb hk, fun q hq => hr.lt q ?_, fun q hq => hq.1⟩
  rcases hq with rfl | hq
  · exact Or.inl rfl
  · exact Or.inr hq
theorem El.later {w : World} {B : Nat} {wr wr' : World} {b n go oc : Nat} {d m : Ek.Dk} (h : El w B wr b n go oc d m) (hb : Below wr.heap.size wr wr') : El w B wr' b n go oc d m := by
  obtain ⟨us, E, h1, h2, h3, h4, h5⟩ := h
  exact ⟨us, E, h1, h2.later hb, h3.later hb, h4, h5⟩
theorem El.below {w : World} {B : Nat} {wr : World} {b n go oc : Nat} {d m : Ek.Dk} (h : El w B wr b n go oc d m) : Below w.heap.size w wr := by
  obtain ⟨us, E, h1, h2, h3, h4, h5⟩ := h
  exact h3.below
/-- A call on the disk that was given what the law holds in new memory. -/
theorem El.write {w : World} {B : Nat} {wr wF : World} {b n go oc c m' : Nat} {d m : Ek.Dk} {e : Ending} (h : El w B wr b n go oc d m) (hf : FilPost wr c m' e wF) (hm : m' ≤ 1000) (i : Int) (hu : d.used < 1000000) :
    Calls Try.prog 39 #[.pointer (some ⟨b, 0, none⟩), .int .i64 i, .slice (some ⟨wr.heap.size, 0, none⟩) m' m'] wF fun e w3 => e = .returned (.int .i64 (Ek.writeE d i (Ek.fil c m'))) ∧ El w B w3 b n go oc (Ek.write d i (Ek.fil c m')) m ∧ (∀ bs, Sl wF (.slice (some ⟨wr.heap.size, 0, none⟩) m' m') bs → Sl w3 (.slice (some ⟨wr.heap.size, 0, none⟩) m' m') bs) := by
  obtain ⟨us, E, h1, h2, h3, h4, h5⟩ := h
  have hb := hf.2.2.1
  have h3' := h3.add hb wr.heap.size (Nat.le_refl _) hf.2.2.2
  have h2' := h2.later hb
  refine (ly_write h3' (Below.refl _ _) i _ _ (hf.sl hm) (fun g off spot len cap e => by injection e with e1 _ _; injection e1 with e1; injection e1 with e1 _ _; exact Or.inl (Or.inr e1.symm)) hu).mono ?_
  rintro e w3 ⟨he, hl, hk⟩
  refine ⟨he, ⟨us, _, h1, h2'.same (fun q hq => hk q (Or.inl (h4 q ?_))), hl, fun q hq => Or.inl (h4 q hq), ?_⟩, ?_⟩
  · rcases hq with hq | hq
    · left; injection hq with hq; exact hq.symm
    · exact Or.inr hq
  · rintro q (hq | rfl)
    · exact h5 q hq
    · obtain ⟨S, _, _, _, _⟩ := h3
      have := (h2.lt go (Or.inl rfl)); omega
  · intro bs hs
    obtain ⟨a, len, cap, he, s1, s2, s3, s4, s5⟩ := hs
    cases he
    refine ⟨_, _, _, rfl, s1, s2, s3, s4, fun h0 => ?_⟩
    obtain ⟨g, off, hg, hlt, hc⟩ := s5 h0
    cases hg
    have hbl := hk wr.heap.size (Or.inr rfl)
    refine ⟨wr.heap.size, 0, rfl, ?_, fun j hj => (World.cell?_of_block (a := ⟨wr.heap.size, 0 + j, none⟩) hbl).trans (hc j hj)⟩
    have := (Array.getElem?_eq_some_iff.1 (hbl.trans (Array.getElem?_eq_getElem hf.2.2.2))).1
    exact this
theorem step_append_told {ops : Array Oper} {o : Oper} {a : Act} {w : World} {K : Act → World → Prop} {Q : Exit → Act → World → Prop} {E : Prop}
    (hg : o.guard = none) (s x : Operand) (t : TypeId) (hop : o.op = Op.call { callee := Callee.builtin Builtin.append, args := #[s, x], argTypes := #[t, t] })
    (S X v : Value) (w' : World) (hs : a.eval s = S) (hx : a.eval x = X) (hrun : (Builtin.append_ #[t, t] o.type #[S, X]).run Try.prog w = .ok v w') (hK : K (a.put o.dst v) w') :
    if Region.wanted o (yielded ops a.tmps) = true then Oper.wp Try.prog o a w K Q else E := by
  have hw : Region.wanted o (yielded ops a.tmps) = true := by simp [Region.wanted, hg]
  rw [if_pos hw]
  unfold Oper.wp
  simp [execOp, hop, resolve, invoke, builtin, hs, hx, hrun, Result.andThen]
  exact hK
/-- The list is told of what was written. -/
theorem El.put {w : World} {B : Nat} {wr : World} {b n go oc j : Nat} {d m : Ek.Dk} (h : El w B wr b n go oc d m) (hB : w.heap.size ≤ B) (hj : j < n) (bs : List Nat) (hl : (Ek.may m j).length ≤ 1000) :
    ∃ u, wr.cell? ⟨go, j, none⟩ = some u ∧ go < wr.heap.size ∧ ∃ g c len w', (Builtin.append_ #[29, 29] 29 #[u, .slice (some ⟨wr.heap.size, 0, none⟩) 1 1]).run Try.prog (wr.alloc (.cells #[.string (strB bs)] 9)) = .ok (.slice (some ⟨g, 0, none⟩) len c) w' ∧
      w'.cell? ⟨go, j, none⟩ = some u ∧ w'.frozen? ⟨go, j, none⟩ = false ∧ (∃ a l c, u = .slice a l c) ∧ Below w.heap.size w w' ∧ Hid (El w B (w'.setCell ⟨go, j, none⟩ (.slice (some ⟨g, 0, none⟩) len c)) b n go oc d (Ek.added m (j : Int) bs)) := by
  obtain ⟨us, E, h1, h2, h3, h4, h5⟩ := h
  subst h1
  have hu : us[j]? = some (us[j]'hj) := List.getElem?_eq_getElem hj
  obtain ⟨u, hue⟩ : ∃ u, u = us[j]'hj := ⟨_, rfl⟩
  rw [← hue] at hu
  have hgo := h2.lt go (Or.inl rfl)
  obtain ⟨u', w', hrun, hg, hc, hfz, hgl, hr2, ⟨q, hq1, hq2⟩, hone⟩ := h2.put (below1 wr (.cells #[.string (strB bs)] 9)) (by omega) hu (Ek.mayS_get m _ j hj) (by rw [List.length_map]; exact hl) (Has.new wr (.cells #[.string (strB bs)] 9))
  obtain ⟨gu, cu, lu, hus, _, hul, hul2, _⟩ := h2.block j u hu
  have hcell : wr.cell? ⟨go, j, none⟩ = some u := by
    have := h2.own.cellAt j (by omega)
    rw [this, hu]
  obtain ⟨q', c', l', hu', _, hb', hlt', _⟩ := hr2.block j u' (by rw [List.getElem?_set_self hj])
  have hqq : q = q' := by rw [hu'] at hq1; injection hq1 with hq1; exact hq1.symm
  subst hqq
  rw [hu'] at hr2 hone hrun
  refine ⟨u, hcell, hgo.2, q, c', l', w', hrun, hc, hfz, ⟨_, _, _, hus⟩, ?_, ?_⟩
  · have hEu : ∀ k, u.ownBlock = some k → E k := fun k hk => h4 k (Or.inr ⟨j, u, hu, hk⟩)
    have hz0 : (wr.alloc (.cells #[.string (strB bs)] 9)).heap.size = wr.heap.size + 1 := by simp
    have hgs := hg.size
    have ht : Tch E wr w' := ⟨hg.os, hg.tape, hg.output, by omega, fun k hk hnE => by
      rw [hg.block k (by omega) (fun e => hnE (hEu k e.symm)), Below.heap_alloc _ _ _ (by omega)]⟩
    exact (h3.turned ht (fun k hk => Nat.le_trans hB (h5 k hk))).below
  have hEu : ∀ k, u.ownBlock = some k → E k := fun k hk => h4 k (Or.inr ⟨j, u, hu, hk⟩)
  have hz0 : (wr.alloc (.cells #[.string (strB bs)] 9)).heap.size = wr.heap.size + 1 := by simp
  have hgs := hg.size
  have ht : Tch E wr (w'.setCell ⟨go, j, none⟩ (.slice (some ⟨q, 0, none⟩) l' c')) := by
    refine ⟨hg.os, hg.tape, hg.output, by simp; omega, fun k hk hnE => ?_⟩
    rw [Below.heap_setCell _ _ _ _ (by show k ≠ go; rintro rfl; exact hnE (h4 _ (Or.inl rfl))), hg.block k (by omega) (fun e => hnE (hEu k e.symm)), Below.heap_alloc _ _ _ (by omega)]
  refine ⟨us.set j (.slice (some ⟨q, 0, none⟩) l' c'), _, by rw [List.length_set], ?_, h3.turned_add ht (fun k hk => Nat.le_trans hB (h5 k hk)) q (by rw [hu'] at hlt'; exact hlt') ?_, ?_, ?_⟩
  · rw [Ek.mayS_added]; exact hr2
  · rcases hq2 with hq2 | hq2
    · exact Or.inl (hEu q hq2)
    · right; omega
  · rintro k (rfl | ⟨i, v, hi, hv⟩)
    · exact Or.inl (h4 _ (Or.inl rfl))
    · rw [List.getElem?_set] at hi
      by_cases hji : j = i
      · rw [if_pos hji, if_pos (by omega)] at hi
        cases hi
        injection hv with hv
        exact Or.inr hv.symm
      · rw [if_neg hji] at hi
        exact Or.inl (h4 k (Or.inr ⟨i, v, hi, hv⟩))
  · rintro k (hk | rfl)
    · exact h5 k hk
    · exact hb'
/-- Behind the crash. -/
theorem El.crash {w : World} {B : Nat} {wr : World} {b n go oc : Nat} {d m : Ek.Dk} (h : El w B wr b n go oc d m) (ksv : Value) (ks : List Int) (hk : Ks wr ksv ks) :
    Calls Try.prog 15 #[.pointer (some ⟨b, 0, none⟩), ksv] wr fun e w' => e = .returned (.int .i64 0) ∧ El w B w' b n go oc (Ek.crash d (Ek.nth ks)) m := by
  obtain ⟨us, E, h1, h2, h3, h4, h5⟩ := h
  refine (ly_crash h3 ksv ks hk).mono ?_
  rintro e w' ⟨he, hl, hkk⟩
  refine ⟨he, us, E, h1, h2.same (fun q hq => hkk q (h4 q ?_)), hl, h4, h5⟩
  rcases hq with hq | hq
  · left; injection hq with hq; exact hq.symm
  · exact Or.inr hq
/-- What is read of the list. -/
theorem El.at {w : World} {B : Nat} {wr : World} {b n go oc : Nat} {d m : Ek.Dk} (h : El w B wr b n go oc d m) (i : Nat) (hi : i < n) : ∃ g c, wr.cell? ⟨go, i, none⟩ = some (.slice (some ⟨g, 0, none⟩) (Ek.may m i).length c) ∧ (∀ k (hk : k < (Ek.may m i).length), wr.cell? ⟨g, k, none⟩ = some (.string (strB ((Ek.may m i)[k]'hk)))) ∧ go < wr.heap.size ∧ g < wr.heap.size := by
  obtain ⟨us, E, h1, h2, h3, h4, h5⟩ := h
  subst h1
  have hu : us[i]? = some (us[i]'hi) := List.getElem?_eq_getElem hi
  obtain ⟨q0, q1⟩ := h2.row i _ _ hu (Ek.mayS_get m _ i hi)
  obtain ⟨g, c, he, _, hg⟩ := own_at q1 q0
  have hcell : wr.cell? ⟨go, i, none⟩ = some (us[i]'hi) := by
    rw [h2.own.cellAt i (by omega), hu]
  rw [List.length_map] at he
  refine ⟨g, c, by rw [hcell, he], fun k hk => ?_, (h2.lt go (Or.inl rfl)).2, hg⟩
  rw [he, List.length_map] at q1
  have := q1.cellAt k (by omega)
  rw [this]
  simp [vstr, List.getElem?_eq_getElem hk]
theorem El.lv {w : World} {B : Nat} {wr : World} {b n go oc : Nat} {d m : Ek.Dk} (h : El w B wr b n go oc d m) : Lv w wr b d wr.heap.size := by
  obtain ⟨us, E, h1, h2, h3, h4, h5⟩ := h
  exact h3.lv
/-- A byte of the string of a row. -/
theorem strB_index (r : List Nat) (h8 : ∀ x ∈ r, x < 256) (t x : Nat) (hx : r[t]? = some x) (w : World) : (Instr.index 9 (.string (strB r)) (.int .i64 (t : Int))).run Try.prog w = .ok (.int .u8 (x : Int)) w := by
  have ht := (List.getElem?_eq_some_iff.1 hx).1
  have hxe := (List.getElem?_eq_some_iff.1 hx).2
  have hx8 : x < 256 := h8 x (List.mem_of_getElem? hx)
  rw [run_index_string _ _ _ _ _ Try.underlying9]
  rw [dif_pos ⟨by omega, by rw [strB_size]; omega⟩]
  have : ((strB r)[(t : Int).toNat]'(by rw [strB_size]; simpa using ht)).toNat = x := by
    simp only [Int.toNat_natCast]
    simp [strB, strOfNums, ByteArray.getElem_eq_getElem_data]
    rw [hxe]; omega
  rw [this]
namespace Ek
/-- One of the first q rows is the row r. -/
def wh (M : List (List Nat)) (r : List Nat) (q : Nat) : Bool := (List.range q).any fun j => (strB (M[j]?.getD [])).toList == (strB r).toList
theorem wh_zero (M : List (List Nat)) (r : List Nat) : wh M r 0 = false := rfl
theorem wh_succ (M : List (List Nat)) (r : List Nat) (q : Nat) : wh M r (q + 1) = (wh M r q || ((strB (M[q]?.getD [])).toList == (strB r).toList)) := by
  unfold wh; rw [List.range_succ, List.any_append]; simp
theorem wh_mem {M : List (List Nat)} {r : List Nat} (h : r ∈ M) : wh M r M.length = true := by
  obtain ⟨j, hj, e⟩ := List.getElem_of_mem h
  unfold wh
  rw [List.any_eq_true]
  refine ⟨j, by simpa using hj, ?_⟩
  rw [List.getElem?_eq_getElem hj, e]
  exact beq_self_eq_true _
/-- One of the first q rows has the number c at place t. -/
def so (M : List (List Nat)) (t c : Nat) (q : Nat) : Bool := (List.range q).any fun j => (((M[j]?.getD [])[t]?.getD 0 : Nat) : Int) == (c : Int)
theorem so_zero (M : List (List Nat)) (t c : Nat) : so M t c 0 = false := rfl
theorem so_succ (M : List (List Nat)) (t c : Nat) (q : Nat) : so M t c (q + 1) = (so M t c q || ((((M[q]?.getD [])[t]?.getD 0 : Nat) : Int) == (c : Int))) := by
  unfold so; rw [List.range_succ, List.any_append]; simp
theorem so_mem {M : List (List Nat)} {t c : Nat} (h : ∃ r ∈ M, r[t]? = some c) : so M t c M.length = true := by
  obtain ⟨r, hr, hc⟩ := h
  obtain ⟨j, hj, e⟩ := List.getElem_of_mem hr
  unfold so
  rw [List.any_eq_true]
  refine ⟨j, by simpa using hj, ?_⟩
  rw [List.getElem?_eq_getElem hj, e]
  simp [hc]
theorem may_row {d : Dk} (h : Ok d) (i : Nat) : ∀ r ∈ may d i, Row r := by
  have : ∀ k, ∀ r ∈ rowsTo d.loose i k, Row r := fun k => by
    induction k with
    | zero => intro r hr; simp [rowsTo] at hr
    | succ k ih =>
      intro r hr
      simp only [rowsTo] at hr
      cases hp : d.loose[k]? with
      | none => rw [hp] at hr; exact ih r hr
      | some p =>
        rw [hp] at hr
        dsimp only at hr
        split at hr
        · rcases List.mem_append.1 hr with hr | hr
          · exact ih r hr
          · rw [List.mem_singleton] at hr; subst hr
            exact (h.loose p (List.mem_of_getElem? hp)).2
        · exact ih r hr
  intro r hr
  rcases List.mem_cons.1 hr with rfl | hr
  · exact zrow_row
  · exact this _ r hr
end Ek
end Go.Proofs.Ythbiibinmofmfaa
