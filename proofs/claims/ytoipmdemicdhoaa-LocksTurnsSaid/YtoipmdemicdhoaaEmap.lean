/- Maps from numbers, in memory: what each number leads to. -/
import Derived.Test.YtoipmdemicdhoaaMem
import Derived.Maps.OwnSet

namespace Go.Proofs.Ytoipmdemicdhoaa
set_option maxRecDepth 100000
open Go.RowKit Go.Maps Go.ChangeMaps

/-- Of the blocks that were there, those of S alone may have turned. -/
structure Tch (S : Nat → Prop) (w w' : World) : Prop where
  os : w'.os = w.os
  tape : w'.tape = w.tape
  output : w'.output = w.output
  size : w.heap.size ≤ w'.heap.size
  block : ∀ k, k < w.heap.size → ¬ S k → w'.heap[k]? = w.heap[k]?

theorem Tch.refl (S : Nat → Prop) (w : World) : Tch S w w := ⟨rfl, rfl, rfl, Nat.le_refl _, fun _ _ _ => rfl⟩
theorem Tch.trans {S : Nat → Prop} {a b c : World} (h : Tch S a b) (k : Tch S b c) : Tch S a c :=
  ⟨k.os.trans h.os, k.tape.trans h.tape, k.output.trans h.output, Nat.le_trans h.size k.size, fun i hi hn => (k.block i (Nat.lt_of_lt_of_le hi h.size) hn).trans (h.block i hi hn)⟩
/-- What was turned later lay in S, or was not there. -/
theorem Tch.then {S T : Nat → Prop} {a b c : World} (h : Tch S a b) (k : Tch T b c) (hT : ∀ i, T i → S i ∨ a.heap.size ≤ i) : Tch S a c :=
  ⟨k.os.trans h.os, k.tape.trans h.tape, k.output.trans h.output, Nat.le_trans h.size k.size, fun i hi hn => (k.block i (Nat.lt_of_lt_of_le hi h.size) (fun ht => (hT i ht).elim hn (fun hl => by omega))).trans (h.block i hi hn)⟩
theorem Tch.mono {S T : Nat → Prop} {a b : World} (h : Tch S a b) (hT : ∀ i, S i → T i) : Tch T a b := ⟨h.os, h.tape, h.output, h.size, fun i hi hn => h.block i hi (fun hs => hn (hT i hs))⟩
theorem Tch.below {S : Nat → Prop} {B : Nat} {a w w' : World} (h : Tch S w w') (hb : Below B a w) (hS : ∀ k, S k → B ≤ k) (hB : B ≤ w.heap.size) : Below B a w' :=
  hb.trans ⟨h.os, h.tape, h.output, h.size, fun k hk => h.block k (by omega) (fun hs => by have := hS k hs; omega)⟩
theorem Tch.of_below {S : Nat → Prop} {w w' : World} (h : Below w.heap.size w w') : Tch S w w' := ⟨h.os, h.tape, h.output, h.size, fun k hk _ => h.block k hk⟩
theorem Tch.of_only {S : Nat → Prop} {g : Nat} {w w' : World} (h : Only g w w') (hg : S g) : Tch S w w' := ⟨h.os, h.tape, h.output, h.size, fun k hk hn => h.block k hk (fun e => hn (by rw [e]; exact hg))⟩
theorem Tch.alloc {S : Nat → Prop} {a w : World} (h : Tch S a w) (o : Obj) : Tch S a (w.alloc o) := h.trans (Tch.of_below (below1 w o))
theorem Tch.setCell {S : Nat → Prop} {a w : World} (h : Tch S a w) {p : Addr} (hp : S p.block) (v : Value) : Tch S a (w.setCell p v) :=
  h.trans ⟨rfl, rfl, rfl, by simp, fun k _ hn => Below.heap_setCell w p v k (fun e => hn (by rw [e]; exact hp))⟩
theorem Tch.drewN {S : Nat → Prop} {a w : World} (h : Tch S a w) (n : Nat) : Tch S a (w.drewN n) := ⟨h.os, h.tape, h.output, h.size, h.block⟩
theorem Tch.drew {S : Nat → Prop} {a w : World} (h : Tch S a w) : Tch S a w.drew := ⟨h.os, h.tape, h.output, h.size, h.block⟩
theorem Has.tch {S : Nat → Prop} {w w' : World} {b : Nat} {o : Obj} (h : Has w b o) (ht : Tch S w w') (hn : ¬ S b) : Has w' b o := (ht.block b h.lt hn).trans h

/-- Block b is a map of at most n entries; f tells what a number leads to. -/
def Mp (w : World) (b n : Nat) (f : Nat → Option Value) : Prop :=
  ∃ es clock, w.heap[b]? = some (.map es clock) ∧ es.size ≤ n ∧ (∀ x ∈ es.toList, ∃ i : Nat, i < 9223372036854775808 ∧ x.key = .int .i64 (i : Int)) ∧ es.toList.Pairwise (fun x y => x.key ≠ y.key) ∧
    ∀ (i : Nat) (v : Value), f i = some v ↔ ∃ x ∈ es.toList, x.key = .int .i64 (i : Int) ∧ x.val = v

theorem key_wf (i : Nat) (h : i < 9223372036854775808) : (Lit.int .i64 (i : Int)).wf = true := WalkArith.wf_i64 (by omega)
theorem keyOf_nat {P : Program} {k : TypeId} (hk : P.underlying k = some (.int .i64)) (i : Nat) (h : i < 9223372036854775808) : keyOf P k (.int .i64 (i : Int)) = some (.int .i64 (i : Int)) := keyOf_int_mk hk (key_wf i h)
theorem key_inj {i j : Nat} (h : Value.int .i64 (i : Int) = Value.int .i64 (j : Int)) : i = j := by
  simp only [Value.int.injEq, true_and] at h
  omega

theorem Mp.lt {w : World} {b n : Nat} {f : Nat → Option Value} (h : Mp w b n f) : b < w.heap.size := by
  obtain ⟨es, clock, hb, _⟩ := h
  exact (Array.getElem?_eq_some_iff.1 hb).1
theorem Mp.mono {w : World} {b n m : Nat} {f : Nat → Option Value} (h : Mp w b n f) (hm : n ≤ m) : Mp w b m f := by
  obtain ⟨es, clock, hb, hn, r⟩ := h
  exact ⟨es, clock, hb, by omega, r⟩
theorem Mp.same {w w' : World} {b n : Nat} {f : Nat → Option Value} (h : Mp w b n f) (he : w'.heap[b]? = w.heap[b]?) : Mp w' b n f := by
  obtain ⟨es, clock, hb, r⟩ := h
  exact ⟨es, clock, he.trans hb, r⟩
theorem Mp.tch {S : Nat → Prop} {w w' : World} {b n : Nat} {f : Nat → Option Value} (h : Mp w b n f) (ht : Tch S w w') (hn : ¬ S b) : Mp w' b n f := h.same (ht.block b h.lt hn)
theorem Mp.only {g : Nat} {w w' : World} {b n : Nat} {f : Nat → Option Value} (h : Mp w b n f) (ht : Only g w w') (hn : b ≠ g) : Mp w' b n f := h.same (ht.block b h.lt hn)
theorem Mp.later {w w' : World} {b n : Nat} {f : Nat → Option Value} (h : Mp w b n f) (hb : Below w.heap.size w w') : Mp w' b n f := h.same (hb.block b h.lt)
theorem Mp.alloc {w : World} {b n : Nat} {f : Nat → Option Value} (h : Mp w b n f) (o : Obj) : Mp (w.alloc o) b n f := h.later (below1 w o)
theorem Mp.set {w : World} {b n : Nat} {f : Nat → Option Value} (h : Mp w b n f) {a : Addr} (hne : b ≠ a.block) (v : Value) : Mp (w.setCell a v) b n f := h.same (Below.heap_setCell w a v b hne)
theorem Mp.new (w : World) : Mp (w.alloc (.map #[] 0)) w.heap.size 0 (fun _ => none) :=
  ⟨#[], 0, (MapKept.heap_alloc w _).1, Nat.le_refl _, by simp, by simp, by simp⟩
theorem Mp.ne_has {w : World} {b n : Nat} {f : Nat → Option Value} (h : Mp w b n f) {c : Nat} {cs : Array Value} {t : TypeId} {fr : Nat × Nat} (hc : Has w c (.cells cs t fr)) : b ≠ c := by
  rintro rfl
  obtain ⟨es, clock, hb, _⟩ := h
  have e : some (Obj.map es clock) = some (Obj.cells cs t fr) := hb.symm.trans hc
  cases e

section
variable {P : Program} {k t e : TypeId} {w : World} {b n : Nat} {f : Nat → Option Value}

theorem Mp.keys (hk : P.underlying k = some (.int .i64)) {es : Array MapEntry} (h : ∀ x ∈ es.toList, ∃ i : Nat, i < 9223372036854775808 ∧ x.key = .int .i64 (i : Int)) : ∀ x ∈ es.toList, ∃ l, keyOf P k x.key = some l := fun x hx => by
  obtain ⟨i, hi, he⟩ := h x hx
  exact ⟨_, by rw [he]; exact keyOf_nat hk i hi⟩

/-- 'm[k]', 'v, ok := m[k]': the number leads nowhere. -/
theorem Mp.look_none (h : Mp w b n f) (hk : P.underlying k = some (.int .i64)) (ht : P.underlying t = some (.map k e)) {z : Value} (hz : (zeroValue e).run P w = .ok z w) (c : Bool) (i : Nat) (hi : i < 9223372036854775808) (hf : f i = none) :
    (Instr.lookup t (.map (some b)) (.int .i64 (i : Int)) c).run P w = .ok (if c then .tuple #[z, .bool false] else z) w := by
  obtain ⟨es, clock, hb, hn, hks, hp, hv⟩ := h
  have K := int_keyed (P := P) hk
  have hkey := keyOf_nat (P := P) hk i hi
  rcases K.find w hkey es.toList (Mp.keys hk hks) with ⟨h1, h2⟩ | ⟨j, e0, h1, h2, h3⟩
  · simp [Instr.lookup, run_underlying ht, MapKept.run_getObj_map hb, K.check w _ hkey, h1, hz, Result.andThen]
  · have := (hv i e0.val).2 ⟨e0, List.mem_of_getElem? h2, h3, rfl⟩
    rw [hf] at this
    cases this
/-- .. to v. -/
theorem Mp.look_some (h : Mp w b n f) (hk : P.underlying k = some (.int .i64)) (ht : P.underlying t = some (.map k e)) (c : Bool) (i : Nat) (hi : i < 9223372036854775808) {v : Value} (hf : f i = some v) :
    (Instr.lookup t (.map (some b)) (.int .i64 (i : Int)) c).run P w = .ok (if c then .tuple #[v, .bool true] else v) w := by
  obtain ⟨es, clock, hb, hn, hks, hp, hv⟩ := h
  have K := int_keyed (P := P) hk
  have hkey := keyOf_nat (P := P) hk i hi
  rcases K.find w hkey es.toList (Mp.keys hk hks) with ⟨h1, h2⟩ | ⟨j, e0, h1, h2, h3⟩
  · obtain ⟨x, hx, he, _⟩ := (hv i v).1 hf
    exact absurd he (h2 x hx)
  · have := (hv i e0.val).2 ⟨e0, List.mem_of_getElem? h2, h3, rfl⟩
    rw [hf] at this
    simp only [Option.some.injEq] at this
    simp [Instr.lookup, run_underlying ht, MapKept.run_getObj_map hb, K.check w _ hkey, h1, Result.andThen, this]

theorem only_setBlock {es : Array MapEntry} {clock : Nat} (hb : w.heap[b]? = some (.map es clock)) (o : Obj) : Only b w (setBlock w b o) :=
  ⟨rfl, rfl, rfl, by simp [setBlock], fun i _ hn => heap_setBlock_other hb o hn⟩

/-- 'm[k] = v'. -/
theorem Mp.store (h : Mp w b n f) (hk : P.underlying k = some (.int .i64)) (ht : P.underlying t = some (.map k e)) (i : Nat) (hi : i < 9223372036854775808) (v : Value) :
    ∃ w', (Instr.mapUpdate t (.map (some b)) (.int .i64 (i : Int)) v).run P w = .ok () w' ∧ Mp w' b (n + 1) (fun j => if j = i then some v else f j) ∧ Only b w w' ∧ w'.heap.size = w.heap.size := by
  obtain ⟨es, clock, hb, hn, hks, hp, hv⟩ := h
  have K := int_keyed (P := P) hk
  have hkey := keyOf_nat (P := P) hk i hi
  rcases K.find w hkey es.toList (Mp.keys hk hks) with ⟨h1, h2⟩ | ⟨j, e0, h1, h2, h3⟩
  · refine ⟨setBlock w b (.map (es.push ⟨.int .i64 (i : Int), v, clock⟩) (clock + 1)), ?_, ⟨_, _, heap_setBlock_same hb _, by simp; omega, ?_, ?_, ?_⟩, only_setBlock hb _, by simp [setBlock]⟩
    · simp [Instr.mapUpdate, run_underlying ht, MapKept.run_getObj_map hb, K.check w false hkey, h1, MapKept.run_setObj_map _ hb, Result.andThen, setBlock]
    · intro x hx
      simp only [Array.toList_push, List.mem_append, List.mem_singleton] at hx
      rcases hx with hx | rfl
      · exact hks x hx
      · exact ⟨i, hi, rfl⟩
    · rw [Array.toList_push, List.pairwise_append]
      exact ⟨hp, by simp, fun x hx y hy => by simp at hy; subst hy; exact h2 x hx⟩
    · intro j u
      simp only [Array.toList_push, List.mem_append, List.mem_singleton]
      by_cases hj : j = i
      · subst hj
        rw [if_pos rfl]
        constructor
        · intro e; cases e; exact ⟨_, Or.inr rfl, rfl, rfl⟩
        · rintro ⟨x, hx | rfl, he, hu⟩
          · exact absurd he (h2 x hx)
          · simp at hu; rw [hu]
      · rw [if_neg hj, hv j u]
        constructor
        · rintro ⟨x, hx, he, hu⟩; exact ⟨x, Or.inl hx, he, hu⟩
        · rintro ⟨x, hx | rfl, he, hu⟩
          · exact ⟨x, hx, he, hu⟩
          · exact absurd (key_inj he).symm hj
  · have hj : es[j]? = some e0 := by simpa using h2
    have hjl : j < es.toList.length := (List.getElem?_eq_some_iff.1 h2).1
    have hlist : (es.modify j (fun e' => { e' with key := .int .i64 (i : Int), val := v })).toList = es.toList.set j { e0 with key := .int .i64 (i : Int), val := v } := by rw [Array.toList_modify, modify_eq_set _ _ _ _ h2]
    have other : ∀ x ∈ es.toList, x.key = .int .i64 (i : Int) → x = e0 := by
      intro x hx hxk
      obtain ⟨q, hq⟩ := List.getElem?_of_mem hx
      rcases Nat.lt_trichotomy q j with hlt | rfl | hlt
      · have := (List.pairwise_iff_getElem.1 hp) q j (List.getElem?_eq_some_iff.1 hq).1 hjl hlt
        rw [(List.getElem?_eq_some_iff.1 hq).2, (List.getElem?_eq_some_iff.1 h2).2] at this
        exact absurd (hxk.trans h3.symm) this
      · rw [hq] at h2; cases h2; rfl
      · have := (List.pairwise_iff_getElem.1 hp) j q hjl (List.getElem?_eq_some_iff.1 hq).1 hlt
        rw [(List.getElem?_eq_some_iff.1 hq).2, (List.getElem?_eq_some_iff.1 h2).2] at this
        exact absurd (h3.trans hxk.symm) this
    have who : ∀ x ∈ es.toList.set j { e0 with key := .int .i64 (i : Int), val := v }, x = { e0 with key := .int .i64 (i : Int), val := v } ∨ (x ∈ es.toList ∧ x.key ≠ .int .i64 (i : Int)) := by
      intro x hx
      obtain ⟨q, hq, ex⟩ := List.getElem_of_mem hx
      rw [List.getElem_set] at ex
      split at ex
      · exact Or.inl ex.symm
      · rename_i hne
        have hq' : q < es.toList.length := by simpa using hq
        refine Or.inr ⟨ex ▸ List.getElem_mem hq', fun hk2 => ?_⟩
        have hx0 := other x (ex ▸ List.getElem_mem hq') hk2
        rcases Nat.lt_trichotomy q j with hlt | he | hlt
        · have := (List.pairwise_iff_getElem.1 hp) q j hq' hjl hlt
          rw [ex, (List.getElem?_eq_some_iff.1 h2).2, hx0] at this
          exact this rfl
        · exact hne he.symm
        · have := (List.pairwise_iff_getElem.1 hp) j q hjl hq' hlt
          rw [ex, (List.getElem?_eq_some_iff.1 h2).2, hx0] at this
          exact this rfl
    have hin : ({ e0 with key := .int .i64 (i : Int), val := v } : MapEntry) ∈ es.toList.set j { e0 with key := .int .i64 (i : Int), val := v } := List.mem_iff_getElem.2 ⟨j, by simpa using hjl, by simp⟩
    have hold : ∀ x ∈ es.toList, x.key ≠ .int .i64 (i : Int) → x ∈ es.toList.set j { e0 with key := .int .i64 (i : Int), val := v } := by
      intro x hx hne
      obtain ⟨q, hq⟩ := List.getElem?_of_mem hx
      have hqj : j ≠ q := by rintro rfl; rw [hq] at h2; cases h2; exact hne h3
      exact List.mem_of_getElem? (i := q) (by rw [List.getElem?_set_ne hqj]; exact hq)
    refine ⟨setBlock w b (.map (es.modify j (fun e' => { e' with key := .int .i64 (i : Int), val := v })) clock), ?_, ⟨_, _, heap_setBlock_same hb _, by simp; omega, ?_, ?_, ?_⟩, only_setBlock hb _, by simp [setBlock]⟩
    · simp [Instr.mapUpdate, run_underlying ht, MapKept.run_getObj_map hb, K.check w false hkey, h1, hj, h3, K.stays w hkey, MapKept.run_setObj_map _ hb, Result.andThen, setBlock]
    · intro x hx
      rw [hlist] at hx
      rcases who x hx with rfl | ⟨hx', _⟩
      · exact ⟨i, hi, rfl⟩
      · exact hks x hx'
    · rw [hlist, List.pairwise_iff_getElem]
      intro p q hp1 hq1 hpq
      have hp2 : p < es.toList.length := by simpa using hp1
      have hq2 : q < es.toList.length := by simpa using hq1
      have hh := (List.pairwise_iff_getElem.1 hp) p q hp2 hq2 hpq
      have ek : (es.toList[j]'hjl).key = .int .i64 (i : Int) := by rw [(List.getElem?_eq_some_iff.1 h2).2]; exact h3
      rw [List.getElem_set, List.getElem_set]
      split
      · rename_i e1; subst e1
        rw [if_neg (by omega)]
        rw [ek] at hh; exact hh
      · split
        · rename_i e2; subst e2
          rw [ek] at hh; exact hh
        · exact hh
    · intro q u
      rw [hlist]
      show (if q = i then some v else f q) = some u ↔ _
      by_cases hq : q = i
      · subst hq
        rw [if_pos rfl]
        constructor
        · intro e; cases e; exact ⟨_, hin, rfl, rfl⟩
        · rintro ⟨x, hx, he, hu⟩
          rcases who x hx with rfl | ⟨_, hne⟩
          · simp at hu; rw [hu]
          · exact absurd he hne
      · rw [if_neg hq, hv q u]
        constructor
        · rintro ⟨x, hx, he, hu⟩; exact ⟨x, hold x hx (by rw [he]; intro e; exact hq (key_inj e)), he, hu⟩
        · rintro ⟨x, hx, he, hu⟩
          rcases who x hx with rfl | ⟨hx', _⟩
          · exact absurd (key_inj he).symm hq
          · exact ⟨x, hx', he, hu⟩

/-- 'delete(m, k)'. -/
theorem Mp.drop {ty : TypeId} (h : Mp w b n f) (hk : P.underlying k = some (.int .i64)) (ht : P.underlying t = some (.map k e)) (i : Nat) (hi : i < 9223372036854775808) :
    ∃ w', (Builtin.delete_ #[t, k] ty #[.map (some b), .int .i64 (i : Int)]).run P w = .ok (.tuple #[]) w' ∧ Mp w' b n (fun j => if j = i then none else f j) ∧ Only b w w' ∧ w'.heap.size = w.heap.size := by
  obtain ⟨es, clock, hb, hn, hks, hp, hv⟩ := h
  have K := int_keyed (P := P) hk
  have hkey := keyOf_nat (P := P) hk i hi
  rcases K.find w hkey es.toList (Mp.keys hk hks) with ⟨h1, h2⟩ | ⟨j, e0, h1, h2, h3⟩
  · refine ⟨setBlock w b (.map es clock), ?_, ⟨_, _, heap_setBlock_same hb _, hn, hks, hp, ?_⟩, only_setBlock hb _, by simp [setBlock]⟩
    · simp [Builtin.delete_, run_underlying ht, MapKept.run_getObj_map hb, K.check w _ hkey, h1, MapKept.run_setObj_map _ hb, Result.andThen, setBlock]
    · intro q u
      show (if q = i then none else f q) = some u ↔ _
      by_cases hq : q = i
      · subst hq
        rw [if_pos rfl]
        constructor
        · intro e; cases e
        · rintro ⟨x, hx, he, _⟩; exact absurd he (h2 x hx)
      · rw [if_neg hq, hv q u]
  · have hjl : j < es.toList.length := (List.getElem?_eq_some_iff.1 h2).1
    have hjs : j < es.size := by simpa using hjl
    have hsub : (es.eraseIdxIfInBounds j).toList = es.toList.eraseIdx j := by
      unfold Array.eraseIdxIfInBounds
      rw [dif_pos hjs]
      simp
    have ek : (es.toList[j]'hjl).key = .int .i64 (i : Int) := by rw [(List.getElem?_eq_some_iff.1 h2).2]; exact h3
    refine ⟨setBlock w b (.map (es.eraseIdxIfInBounds j) clock), ?_, ⟨_, _, heap_setBlock_same hb _, Nat.le_trans (MapFrom.size_erase es j) hn, ?_, ?_, ?_⟩, only_setBlock hb _, by simp [setBlock]⟩
    · simp [Builtin.delete_, run_underlying ht, MapKept.run_getObj_map hb, K.check w _ hkey, h1, MapKept.run_setObj_map _ hb, Result.andThen, setBlock]
    · intro x hx
      rw [hsub] at hx
      exact hks x ((List.eraseIdx_sublist _ _).subset hx)
    · rw [hsub]
      exact hp.sublist (List.eraseIdx_sublist _ _)
    · intro q u
      show (if q = i then none else f q) = some u ↔ _
      rw [hsub]
      have mem : ∀ x, x ∈ es.toList.eraseIdx j ↔ x ∈ es.toList ∧ x.key ≠ .int .i64 (i : Int) := by
        intro x
        rw [List.mem_eraseIdx_iff_getElem?]
        constructor
        · rintro ⟨r, hne, hr⟩
          refine ⟨List.mem_of_getElem? hr, fun hx => ?_⟩
          have hrl := (List.getElem?_eq_some_iff.1 hr).1
          have hre := (List.getElem?_eq_some_iff.1 hr).2
          rcases Nat.lt_or_gt_of_ne hne with hlt | hlt
          · have := (List.pairwise_iff_getElem.1 hp) r j hrl hjl hlt
            rw [hre, ek, hx] at this; exact this rfl
          · have := (List.pairwise_iff_getElem.1 hp) j r hjl hrl hlt
            rw [hre, ek, hx] at this; exact this rfl
        · rintro ⟨hx, hne⟩
          obtain ⟨r, hr⟩ := List.getElem?_of_mem hx
          refine ⟨r, ?_, hr⟩
          rintro rfl
          rw [h2] at hr; cases hr; exact hne h3
      by_cases hq : q = i
      · subst hq
        rw [if_pos rfl]
        constructor
        · intro e; cases e
        · rintro ⟨x, hx, he, _⟩; exact absurd he ((mem x).1 hx).2
      · rw [if_neg hq, hv q u]
        constructor
        · rintro ⟨x, hx, he, hu⟩; exact ⟨x, (mem x).2 ⟨hx, by rw [he]; intro e; exact hq (key_inj e)⟩, he, hu⟩
        · rintro ⟨x, hx, he, hu⟩; exact ⟨x, ((mem x).1 hx).1, he, hu⟩
end
end Go.Proofs.Ytoipmdemicdhoaa
