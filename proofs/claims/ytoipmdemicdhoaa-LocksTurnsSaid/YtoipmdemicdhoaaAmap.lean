/- Maps from keys of any kind, in memory: what each key leads to. -/
import Derived.Test.YtoipmdemicdhoaaEmap

namespace Go.Proofs.Ytoipmdemicdhoaa
set_option maxRecDepth 100000
open Go.RowKit Go.Maps Go.ChangeMaps

/-- Block b is a map of at most n entries; f tells what a key leads to. -/
def Ap (P : Program) (k : TypeId) (w : World) (b n : Nat) (f : Value → Option Value) : Prop :=
  ∃ es clock, w.heap[b]? = some (.map es clock) ∧ es.size ≤ n ∧ (∀ x ∈ es.toList, ∃ l, keyOf P k x.key = some l) ∧ es.toList.Pairwise (fun x y => x.key ≠ y.key) ∧
    ∀ (i v : Value), f i = some v ↔ ∃ x ∈ es.toList, x.key = i ∧ x.val = v
/-- f, but for i. -/
noncomputable def apd (f : Value → Option Value) (i : Value) (o : Option Value) : Value → Option Value := fun j => by classical exact if j = i then o else f j
theorem apd_same (f : Value → Option Value) (i : Value) (o : Option Value) : apd f i o i = o := by unfold apd; exact if_pos rfl
theorem apd_ne (f : Value → Option Value) {i j : Value} (o : Option Value) (h : j ≠ i) : apd f i o j = f j := by unfold apd; exact if_neg h

theorem Ap.lt {P : Program} {k : TypeId} {w : World} {b n : Nat} {f : Value → Option Value} (h : Ap P k w b n f) : b < w.heap.size := by
  obtain ⟨es, clock, hb, _⟩ := h
  exact (Array.getElem?_eq_some_iff.1 hb).1
theorem Ap.mono {P : Program} {k : TypeId} {w : World} {b n m : Nat} {f : Value → Option Value} (h : Ap P k w b n f) (hm : n ≤ m) : Ap P k w b m f := by
  obtain ⟨es, clock, hb, hn, r⟩ := h
  exact ⟨es, clock, hb, by omega, r⟩
theorem Ap.same {P : Program} {k : TypeId} {w w' : World} {b n : Nat} {f : Value → Option Value} (h : Ap P k w b n f) (he : w'.heap[b]? = w.heap[b]?) : Ap P k w' b n f := by
  obtain ⟨es, clock, hb, r⟩ := h
  exact ⟨es, clock, he.trans hb, r⟩
theorem Ap.tch {P : Program} {k : TypeId} {S : Nat → Prop} {w w' : World} {b n : Nat} {f : Value → Option Value} (h : Ap P k w b n f) (ht : Tch S w w') (hn : ¬ S b) : Ap P k w' b n f := h.same (ht.block b h.lt hn)
theorem Ap.only {P : Program} {k : TypeId} {g : Nat} {w w' : World} {b n : Nat} {f : Value → Option Value} (h : Ap P k w b n f) (ht : Only g w w') (hn : b ≠ g) : Ap P k w' b n f := h.same (ht.block b h.lt hn)
theorem Ap.later {P : Program} {k : TypeId} {w w' : World} {b n : Nat} {f : Value → Option Value} (h : Ap P k w b n f) (hb : Below w.heap.size w w') : Ap P k w' b n f := h.same (hb.block b h.lt)
theorem Ap.alloc {P : Program} {k : TypeId} {w : World} {b n : Nat} {f : Value → Option Value} (h : Ap P k w b n f) (o : Obj) : Ap P k (w.alloc o) b n f := h.later (below1 w o)
theorem Ap.set {P : Program} {k : TypeId} {w : World} {b n : Nat} {f : Value → Option Value} (h : Ap P k w b n f) {a : Addr} (hne : b ≠ a.block) (v : Value) : Ap P k (w.setCell a v) b n f := h.same (Below.heap_setCell w a v b hne)
theorem Ap.new {P : Program} {k : TypeId} (w : World) : Ap P k (w.alloc (.map #[] 0)) w.heap.size 0 (fun _ => none) :=
  ⟨#[], 0, (MapKept.heap_alloc w _).1, Nat.le_refl _, by simp, by simp, by simp⟩
theorem Ap.ne_has {P : Program} {k : TypeId} {w : World} {b n : Nat} {f : Value → Option Value} (h : Ap P k w b n f) {c : Nat} {cs : Array Value} {t : TypeId} {fr : Nat × Nat} (hc : Has w c (.cells cs t fr)) : b ≠ c := by
  rintro rfl
  obtain ⟨es, clock, hb, _⟩ := h
  have e : some (Obj.map es clock) = some (Obj.cells cs t fr) := hb.symm.trans hc
  cases e

section
variable {P : Program} {k t e : TypeId} {w : World} {b n : Nat} {f : Value → Option Value}

/-- 'm[k]', 'v, ok := m[k]': the number leads nowhere. -/
theorem Ap.look_none (h : Ap P k w b n f) (K : Keyed P k) (ht : P.underlying t = some (.map k e)) {z : Value} (hz : (zeroValue e).run P w = .ok z w) (c : Bool) (i : Value) {li : Lit} (hi : keyOf P k i = some li) (hf : f i = none) :
    (Instr.lookup t (.map (some b)) i c).run P w = .ok (if c then .tuple #[z, .bool false] else z) w := by
  obtain ⟨es, clock, hb, hn, hks, hp, hv⟩ := h
  have hkey := hi
  rcases K.find w hkey es.toList hks with ⟨h1, h2⟩ | ⟨j, e0, h1, h2, h3⟩
  · simp [Instr.lookup, run_underlying ht, MapKept.run_getObj_map hb, K.check w _ hkey, h1, hz, Result.andThen]
  · have := (hv i e0.val).2 ⟨e0, List.mem_of_getElem? h2, h3, rfl⟩
    rw [hf] at this
    cases this
/-- .. to v. -/
theorem Ap.look_some (h : Ap P k w b n f) (K : Keyed P k) (ht : P.underlying t = some (.map k e)) (c : Bool) (i : Value) {li : Lit} (hi : keyOf P k i = some li) {v : Value} (hf : f i = some v) :
    (Instr.lookup t (.map (some b)) i c).run P w = .ok (if c then .tuple #[v, .bool true] else v) w := by
  obtain ⟨es, clock, hb, hn, hks, hp, hv⟩ := h
  have hkey := hi
  rcases K.find w hkey es.toList hks with ⟨h1, h2⟩ | ⟨j, e0, h1, h2, h3⟩
  · obtain ⟨x, hx, he, _⟩ := (hv i v).1 hf
    exact absurd he (h2 x hx)
  · have := (hv i e0.val).2 ⟨e0, List.mem_of_getElem? h2, h3, rfl⟩
    rw [hf] at this
    simp only [Option.some.injEq] at this
    simp [Instr.lookup, run_underlying ht, MapKept.run_getObj_map hb, K.check w _ hkey, h1, Result.andThen, this]

/-- 'm[k] = v'. -/
theorem Ap.store (h : Ap P k w b n f) (K : Keyed P k) (ht : P.underlying t = some (.map k e)) (i : Value) {li : Lit} (hi : keyOf P k i = some li) (v : Value) :
    ∃ w', (Instr.mapUpdate t (.map (some b)) i v).run P w = .ok () w' ∧ Ap P k w' b (n + 1) (apd f i (some v)) ∧ Only b w w' ∧ w'.heap.size = w.heap.size := by
  obtain ⟨es, clock, hb, hn, hks, hp, hv⟩ := h
  have hkey := hi
  rcases K.find w hkey es.toList hks with ⟨h1, h2⟩ | ⟨j, e0, h1, h2, h3⟩
  · refine ⟨setBlock w b (.map (es.push ⟨i, v, clock⟩) (clock + 1)), ?_, ⟨_, _, heap_setBlock_same hb _, by simp; omega, ?_, ?_, ?_⟩, only_setBlock hb _, by simp [setBlock]⟩
    · simp [Instr.mapUpdate, run_underlying ht, MapKept.run_getObj_map hb, K.check w false hkey, h1, MapKept.run_setObj_map _ hb, Result.andThen, setBlock]
    · intro x hx
      simp only [Array.toList_push, List.mem_append, List.mem_singleton] at hx
      rcases hx with hx | rfl
      · exact hks x hx
      · exact ⟨_, hi⟩
    · rw [Array.toList_push, List.pairwise_append]
      exact ⟨hp, by simp, fun x hx y hy => by simp at hy; subst hy; exact h2 x hx⟩
    · intro j u
      simp only [Array.toList_push, List.mem_append, List.mem_singleton]
      by_cases hj : j = i
      · subst hj
        rw [apd_same]
        constructor
        · intro e; cases e; exact ⟨_, Or.inr rfl, rfl, rfl⟩
        · rintro ⟨x, hx | rfl, he, hu⟩
          · exact absurd he (h2 x hx)
          · simp at hu; rw [hu]
      · rw [apd_ne _ _ hj, hv j u]
        constructor
        · rintro ⟨x, hx, he, hu⟩; exact ⟨x, Or.inl hx, he, hu⟩
        · rintro ⟨x, hx | rfl, he, hu⟩
          · exact ⟨x, hx, he, hu⟩
          · exact absurd he.symm hj
  · have hj : es[j]? = some e0 := by simpa using h2
    have hjl : j < es.toList.length := (List.getElem?_eq_some_iff.1 h2).1
    have hlist : (es.modify j (fun e' => { e' with key := i, val := v })).toList = es.toList.set j { e0 with key := i, val := v } := by rw [Array.toList_modify, modify_eq_set _ _ _ _ h2]
    have other : ∀ x ∈ es.toList, x.key = i → x = e0 := by
      intro x hx hxk
      obtain ⟨q, hq⟩ := List.getElem?_of_mem hx
      rcases Nat.lt_trichotomy q j with hlt | rfl | hlt
      · have := (List.pairwise_iff_getElem.1 hp) q j (List.getElem?_eq_some_iff.1 hq).1 hjl hlt
        rw [(List.getElem?_eq_some_iff.1 hq).2, (List.getElem?_eq_some_iff.1 h2).2] at this
        exact absurd (hxk.trans h3.symm) this
      · rw [hq] at h2; cases h2; rfl
      · have := (List.pairwise_iff_getElem.1 hp) j q hjl (List.getElem?_eq_some_iff.1 hq).1 hlt
        rw [(List.getElem?_eq_some_iff.1 hq).2, (List.getElem?_eq_some_iff.1 h2).2] at this
        exact absurd (h3.trans hxk.symm) this
    have who : ∀ x ∈ es.toList.set j { e0 with key := i, val := v }, x = { e0 with key := i, val := v } ∨ (x ∈ es.toList ∧ x.key ≠ i) := by
      intro x hx
      obtain ⟨q, hq, ex⟩ := List.getElem_of_mem hx
      rw [List.getElem_set] at ex
      split at ex
      · exact Or.inl ex.symm
      · rename_i hne
        have hq' : q < es.toList.length := by simpa using hq
        refine Or.inr ⟨ex ▸ List.getElem_mem hq', fun hk2 => ?_⟩
        have hx0 := other x (ex ▸ List.getElem_mem hq') hk2
        rcases Nat.lt_trichotomy q j with hlt | he | hlt
        · have := (List.pairwise_iff_getElem.1 hp) q j hq' hjl hlt
          rw [ex, (List.getElem?_eq_some_iff.1 h2).2, hx0] at this
          exact this rfl
        · exact hne he.symm
        · have := (List.pairwise_iff_getElem.1 hp) j q hjl hq' hlt
          rw [ex, (List.getElem?_eq_some_iff.1 h2).2, hx0] at this
          exact this rfl
    have hin : ({ e0 with key := i, val := v } : MapEntry) ∈ es.toList.set j { e0 with key := i, val := v } := List.mem_iff_getElem.2 ⟨j, by simpa using hjl, by simp⟩
    have hold : ∀ x ∈ es.toList, x.key ≠ i → x ∈ es.toList.set j { e0 with key := i, val := v } := by
      intro x hx hne
      obtain ⟨q, hq⟩ := List.getElem?_of_mem hx
      have hqj : j ≠ q := by rintro rfl; rw [hq] at h2; cases h2; exact hne h3
      exact List.mem_of_getElem? (i := q) (by rw [List.getElem?_set_ne hqj]; exact hq)
    refine ⟨setBlock w b (.map (es.modify j (fun e' => { e' with key := i, val := v })) clock), ?_, ⟨_, _, heap_setBlock_same hb _, by simp; omega, ?_, ?_, ?_⟩, only_setBlock hb _, by simp [setBlock]⟩
    · simp [Instr.mapUpdate, run_underlying ht, MapKept.run_getObj_map hb, K.check w false hkey, h1, hj, h3, K.stays w hkey, MapKept.run_setObj_map _ hb, Result.andThen, setBlock]
    · intro x hx
      rw [hlist] at hx
      rcases who x hx with rfl | ⟨hx', _⟩
      · exact ⟨_, hi⟩
      · exact hks x hx'
    · rw [hlist, List.pairwise_iff_getElem]
      intro p q hp1 hq1 hpq
      have hp2 : p < es.toList.length := by simpa using hp1
      have hq2 : q < es.toList.length := by simpa using hq1
      have hh := (List.pairwise_iff_getElem.1 hp) p q hp2 hq2 hpq
      have ek : (es.toList[j]'hjl).key = i := by rw [(List.getElem?_eq_some_iff.1 h2).2]; exact h3
      rw [List.getElem_set, List.getElem_set]
      split
      · rename_i e1; subst e1
        rw [if_neg (by omega)]
        rw [ek] at hh; exact hh
      · split
        · rename_i e2; subst e2
          rw [ek] at hh; exact hh
        · exact hh
    · intro q u
      rw [hlist]
      show apd f i (some v) q = some u ↔ _
      by_cases hq : q = i
      · subst hq
        rw [apd_same]
        constructor
        · intro e; cases e; exact ⟨_, hin, rfl, rfl⟩
        · rintro ⟨x, hx, he, hu⟩
          rcases who x hx with rfl | ⟨_, hne⟩
          · simp at hu; rw [hu]
          · exact absurd he hne
      · rw [apd_ne _ _ hq, hv q u]
        constructor
        · rintro ⟨x, hx, he, hu⟩; exact ⟨x, hold x hx (by rw [he]; intro e; exact hq e), he, hu⟩
        · rintro ⟨x, hx, he, hu⟩
          rcases who x hx with rfl | ⟨hx', _⟩
          · exact absurd he.symm hq
          · exact ⟨x, hx', he, hu⟩

/-- 'delete(m, k)'. -/
theorem Ap.drop {ty : TypeId} (h : Ap P k w b n f) (K : Keyed P k) (ht : P.underlying t = some (.map k e)) (i : Value) {li : Lit} (hi : keyOf P k i = some li) :
    ∃ w', (Builtin.delete_ #[t, k] ty #[.map (some b), i]).run P w = .ok (.tuple #[]) w' ∧ Ap P k w' b n (apd f i none) ∧ Only b w w' ∧ w'.heap.size = w.heap.size := by
  obtain ⟨es, clock, hb, hn, hks, hp, hv⟩ := h
  have hkey := hi
  rcases K.find w hkey es.toList hks with ⟨h1, h2⟩ | ⟨j, e0, h1, h2, h3⟩
  · refine ⟨setBlock w b (.map es clock), ?_, ⟨_, _, heap_setBlock_same hb _, hn, hks, hp, ?_⟩, only_setBlock hb _, by simp [setBlock]⟩
    · simp [Builtin.delete_, run_underlying ht, MapKept.run_getObj_map hb, K.check w _ hkey, h1, MapKept.run_setObj_map _ hb, Result.andThen, setBlock]
    · intro q u
      show apd f i none q = some u ↔ _
      by_cases hq : q = i
      · subst hq
        rw [apd_same]
        constructor
        · intro e; cases e
        · rintro ⟨x, hx, he, _⟩; exact absurd he (h2 x hx)
      · rw [apd_ne _ _ hq, hv q u]
  · have hjl : j < es.toList.length := (List.getElem?_eq_some_iff.1 h2).1
    have hjs : j < es.size := by simpa using hjl
    have hsub : (es.eraseIdxIfInBounds j).toList = es.toList.eraseIdx j := by
      unfold Array.eraseIdxIfInBounds
      rw [dif_pos hjs]
      simp
    have ek : (es.toList[j]'hjl).key = i := by rw [(List.getElem?_eq_some_iff.1 h2).2]; exact h3
    refine ⟨setBlock w b (.map (es.eraseIdxIfInBounds j) clock), ?_, ⟨_, _, heap_setBlock_same hb _, Nat.le_trans (MapFrom.size_erase es j) hn, ?_, ?_, ?_⟩, only_setBlock hb _, by simp [setBlock]⟩
    · simp [Builtin.delete_, run_underlying ht, MapKept.run_getObj_map hb, K.check w _ hkey, h1, MapKept.run_setObj_map _ hb, Result.andThen, setBlock]
    · intro x hx
      rw [hsub] at hx
      exact hks x ((List.eraseIdx_sublist _ _).subset hx)
    · rw [hsub]
      exact hp.sublist (List.eraseIdx_sublist _ _)
    · intro q u
      show apd f i none q = some u ↔ _
      rw [hsub]
      have mem : ∀ x, x ∈ es.toList.eraseIdx j ↔ x ∈ es.toList ∧ x.key ≠ i := by
        intro x
        rw [List.mem_eraseIdx_iff_getElem?]
        constructor
        · rintro ⟨r, hne, hr⟩
          refine ⟨List.mem_of_getElem? hr, fun hx => ?_⟩
          have hrl := (List.getElem?_eq_some_iff.1 hr).1
          have hre := (List.getElem?_eq_some_iff.1 hr).2
          rcases Nat.lt_or_gt_of_ne hne with hlt | hlt
          · have := (List.pairwise_iff_getElem.1 hp) r j hrl hjl hlt
            rw [hre, ek, hx] at this; exact this rfl
          · have := (List.pairwise_iff_getElem.1 hp) j r hjl hrl hlt
            rw [hre, ek, hx] at this; exact this rfl
        · rintro ⟨hx, hne⟩
          obtain ⟨r, hr⟩ := List.getElem?_of_mem hx
          refine ⟨r, ?_, hr⟩
          rintro rfl
          rw [h2] at hr; cases hr; exact hne h3
      by_cases hq : q = i
      · subst hq
        rw [apd_same]
        constructor
        · intro e; cases e
        · rintro ⟨x, hx, he, _⟩; exact absurd he ((mem x).1 hx).2
      · rw [apd_ne _ _ hq, hv q u]
        constructor
        · rintro ⟨x, hx, he, hu⟩; exact ⟨x, (mem x).2 ⟨hx, by rw [he]; intro e; exact hq e⟩, he, hu⟩
        · rintro ⟨x, hx, he, hu⟩; exact ⟨x, ((mem x).1 hx).1, he, hu⟩
end
end Go.Proofs.Ytoipmdemicdhoaa
