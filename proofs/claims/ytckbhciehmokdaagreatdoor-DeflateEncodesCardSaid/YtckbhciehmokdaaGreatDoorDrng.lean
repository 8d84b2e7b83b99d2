import Derived.Test.YtckbhciehmokdaaGreatDoorHcodes
import Derived.Test.YtckbhciehmokdaaGreatDoorQtail
import Derived.Test.YtckbhciehmokdaaGreatDoorSlone
import Derived.Test.YtckbhciehmokdaaGreatDoorNrng
import Derived.Maps.OwnSet
import Derived.Laws.CopyOwn
import Derived.Deep.RegionLaw
namespace Go.Proofs.YtckbhciehmokdaaGreatDoor
set_option maxRecDepth 100000
set_option maxHeartbeats 8000000
open Go.RowKit Go.Shelf
attribute [local go_sem] Oper.semAt_some
def Lone (ls : List Nat) : Prop := (Hf.ordl ls).length = 1 /\ Hf.ln ls (Hf.sy ls 0) = 1
instance (ls : List Nat) : Decidable (Lone ls) := by unfold Lone; infer_instance
end Go.Proofs.YtckbhciehmokdaaGreatDoor
namespace Go.Proofs.YtckbhciehmokdaaGreatDoor
set_option maxRecDepth 100000
set_option maxHeartbeats 8000000
open Go.RowKit Go.Maps Go.ChangeMaps
structure Tch (S : Nat -> Prop) (w w' : World) : Prop where
 os : w'.os = w.os
 tape : w'.tape = w.tape
 output : w'.output = w.output
 size : w.heap.size <= w'.heap.size
 block : ∀ k, k < w.heap.size -> ¬ S k -> w'.heap[k]? = w.heap[k]?
theorem Tch.refl (S : Nat -> Prop) (w : World) : Tch S w w := ⟨rfl, rfl, rfl, Nat.le_refl _, fun _ _ _ => rfl⟩
theorem Tch.trans {S : Nat -> Prop} {a b c : World} (h : Tch S a b) (k : Tch S b c) : Tch S a c :=
 ⟨k.os.trans h.os, k.tape.trans h.tape, k.output.trans h.output, Nat.le_trans h.size k.size, fun i hi hn => (k.block i (Nat.lt_of_lt_of_le hi h.size) hn).trans (h.block i hi hn)⟩
theorem Tch.then {S T : Nat -> Prop} {a b c : World} (h : Tch S a b) (k : Tch T b c) (hT : ∀ i, T i -> S i ∨ a.heap.size <= i) : Tch S a c :=
 ⟨k.os.trans h.os, k.tape.trans h.tape, k.output.trans h.output, Nat.le_trans h.size k.size, fun i hi hn => (k.block i (Nat.lt_of_lt_of_le hi h.size) (fun ht => (hT i ht).elim hn (fun hl => by omega))).trans (h.block i hi hn)⟩
theorem Tch.mono {S T : Nat -> Prop} {a b : World} (h : Tch S a b) (hT : ∀ i, S i -> T i) : Tch T a b := ⟨h.os, h.tape, h.output, h.size, fun i hi hn => h.block i hi (fun hs => hn (hT i hs))⟩
theorem Tch.below {S : Nat -> Prop} {B : Nat} {a w w' : World} (h : Tch S w w') (hb : Below B a w) (hS : ∀ k, S k -> B <= k) (hB : B <= w.heap.size) : Below B a w' :=
 hb.trans ⟨h.os, h.tape, h.output, h.size, fun k hk => h.block k (by omega) (fun hs => by have := hS k hs; omega)⟩
theorem Tch.of_below {S : Nat -> Prop} {w w' : World} (h : Below w.heap.size w w') : Tch S w w' := ⟨h.os, h.tape, h.output, h.size, fun k hk _ => h.block k hk⟩
theorem Tch.of_only {S : Nat -> Prop} {g : Nat} {w w' : World} (h : Only g w w') (hg : S g) : Tch S w w' := ⟨h.os, h.tape, h.output, h.size, fun k hk hn => h.block k hk (fun e => hn (by rw [e]; exact hg))⟩
theorem Tch.alloc {S : Nat -> Prop} {a w : World} (h : Tch S a w) (o : Obj) : Tch S a (w.alloc o) := h.trans (Tch.of_below (below1 w o))
theorem Tch.setCell {S : Nat -> Prop} {a w : World} (h : Tch S a w) {p : Addr} (hp : S p.block) (v : Value) : Tch S a (w.setCell p v) :=
 h.trans ⟨rfl, rfl, rfl, by simp, fun k _ hn => Below.heap_setCell w p v k (fun e => hn (by rw [e]; exact hp))⟩
theorem Tch.drewN {S : Nat -> Prop} {a w : World} (h : Tch S a w) (n : Nat) : Tch S a (w.drewN n) := ⟨h.os, h.tape, h.output, h.size, h.block⟩
theorem Tch.drew {S : Nat -> Prop} {a w : World} (h : Tch S a w) : Tch S a w.drew := ⟨h.os, h.tape, h.output, h.size, h.block⟩
def Mp (w : World) (b n : Nat) (f : Nat -> Option Value) : Prop :=
 ∃ es clock, w.heap[b]? = some (.map es clock) /\ es.size <= n /\ (∀ x ∈ es.toList, ∃ i : Nat, i < 9223372036854775808 /\ x.key = .int .i64 (i : Int)) /\ es.toList.Pairwise (fun x y => x.key ≠ y.key) /\
  ∀ (i : Nat) (v : Value), f i = some v ↔ ∃ x ∈ es.toList, x.key = .int .i64 (i : Int) /\ x.val = v
theorem key_wf (i : Nat) (h : i < 9223372036854775808) : (Lit.int .i64 (i : Int)).wf = true := WalkArith.wf_i64 (by omega)
theorem keyOf_nat {P : Program} {k : TypeId} (hk : P.underlying k = some (.int .i64)) (i : Nat) (h : i < 9223372036854775808) : keyOf P k (.int .i64 (i : Int)) = some (.int .i64 (i : Int)) := keyOf_int_mk hk (key_wf i h)
theorem key_inj {i j : Nat} (h : Value.int .i64 (i : Int) = Value.int .i64 (j : Int)) : i = j := by
 simp only [Value.int.injEq, true_and] at h
 omega
theorem Mp.lt {w : World} {b n : Nat} {f : Nat -> Option Value} (h : Mp w b n f) : b < w.heap.size := by
 obtain ⟨es, clock, hb, _⟩ := h
 exact (Array.getElem?_eq_some_iff.1 hb).1
theorem Mp.mono {w : World} {b n m : Nat} {f : Nat -> Option Value} (h : Mp w b n f) (hm : n <= m) : Mp w b m f := by
 obtain ⟨es, clock, hb, hn, r⟩ := h
 exact ⟨es, clock, hb, by omega, r⟩
theorem Mp.same {w w' : World} {b n : Nat} {f : Nat -> Option Value} (h : Mp w b n f) (he : w'.heap[b]? = w.heap[b]?) : Mp w' b n f := by
 obtain ⟨es, clock, hb, r⟩ := h
 exact ⟨es, clock, he.trans hb, r⟩
theorem Mp.only {g : Nat} {w w' : World} {b n : Nat} {f : Nat -> Option Value} (h : Mp w b n f) (ht : Only g w w') (hn : b ≠ g) : Mp w' b n f := h.same (ht.block b h.lt hn)
theorem Mp.later {w w' : World} {b n : Nat} {f : Nat -> Option Value} (h : Mp w b n f) (hb : Below w.heap.size w w') : Mp w' b n f := h.same (hb.block b h.lt)
theorem Mp.alloc {w : World} {b n : Nat} {f : Nat -> Option Value} (h : Mp w b n f) (o : Obj) : Mp (w.alloc o) b n f := h.later (below1 w o)
theorem Mp.set {w : World} {b n : Nat} {f : Nat -> Option Value} (h : Mp w b n f) {a : Addr} (hne : b ≠ a.block) (v : Value) : Mp (w.setCell a v) b n f := h.same (Below.heap_setCell w a v b hne)
theorem Mp.new (w : World) : Mp (w.alloc (.map #[] 0)) w.heap.size 0 (fun _ => none) :=
 ⟨#[], 0, (MapKept.heap_alloc w _).1, Nat.le_refl _, by simp, by simp, by simp⟩
theorem Mp.ne_has {w : World} {b n : Nat} {f : Nat -> Option Value} (h : Mp w b n f) {c : Nat} {cs : Array Value} {t : TypeId} {fr : Nat × Nat} (hc : Has w c (.cells cs t fr)) : b ≠ c := by
 rintro rfl
 obtain ⟨es, clock, hb, _⟩ := h
 have e : some (Obj.map es clock) = some (Obj.cells cs t fr) := hb.symm.trans hc
 cases e
section
variable {P : Program} {k t e : TypeId} {w : World} {b n : Nat} {f : Nat -> Option Value}
theorem Mp.keys (hk : P.underlying k = some (.int .i64)) {es : Array MapEntry} (h : ∀ x ∈ es.toList, ∃ i : Nat, i < 9223372036854775808 /\ x.key = .int .i64 (i : Int)) : ∀ x ∈ es.toList, ∃ l, keyOf P k x.key = some l := fun x hx => by
 obtain ⟨i, hi, he⟩ := h x hx
 exact ⟨_, by rw [he]; exact keyOf_nat hk i hi⟩
theorem Mp.look_none (h : Mp w b n f) (hk : P.underlying k = some (.int .i64)) (ht : P.underlying t = some (.map k e)) {z : Value} (hz : (zeroValue e).run P w = .ok z w) (c : Bool) (i : Nat) (hi : i < 9223372036854775808) (hf : f i = none) :
  (Instr.lookup t (.map (some b)) (.int .i64 (i : Int)) c).run P w = .ok (if c then .tuple #[z, .bool false] else z) w := by
 obtain ⟨es, clock, hb, hn, hks, hp, hv⟩ := h
 have K := int_keyed (P := P) hk
 have hkey := keyOf_nat (P := P) hk i hi
 rcases K.find w hkey es.toList (Mp.keys hk hks) with ⟨h1, h2⟩ | ⟨j, e0, h1, h2, h3⟩
 ·simp [Instr.lookup, run_underlying ht, MapKept.run_getObj_map hb, K.check w _ hkey, h1, hz, Result.andThen]
 ·have := (hv i e0.val).2 ⟨e0, List.mem_of_getElem? h2, h3, rfl⟩
  rw [hf] at this
  cases this
theorem Mp.look_some (h : Mp w b n f) (hk : P.underlying k = some (.int .i64)) (ht : P.underlying t = some (.map k e)) (c : Bool) (i : Nat) (hi : i < 9223372036854775808) {v : Value} (hf : f i = some v) :
  (Instr.lookup t (.map (some b)) (.int .i64 (i : Int)) c).run P w = .ok (if c then .tuple #[v, .bool true] else v) w := by
 obtain ⟨es, clock, hb, hn, hks, hp, hv⟩ := h
 have K := int_keyed (P := P) hk
 have hkey := keyOf_nat (P := P) hk i hi
 rcases K.find w hkey es.toList (Mp.keys hk hks) with ⟨h1, h2⟩ | ⟨j, e0, h1, h2, h3⟩
 ·obtain ⟨x, hx, he, _⟩ := (hv i v).1 hf
  exact absurd he (h2 x hx)
 ·have := (hv i e0.val).2 ⟨e0, List.mem_of_getElem? h2, h3, rfl⟩
  rw [hf] at this
  simp only [Option.some.injEq] at this
  simp [Instr.lookup, run_underlying ht, MapKept.run_getObj_map hb, K.check w _ hkey, h1, Result.andThen, this]
theorem only_setBlock {es : Array MapEntry} {clock : Nat} (hb : w.heap[b]? = some (.map es clock)) (o : Obj) : Only b w (setBlock w b o) :=
 ⟨rfl, rfl, rfl, by simp [setBlock], fun i _ hn => heap_setBlock_other hb o hn⟩
theorem Mp.store (h : Mp w b n f) (hk : P.underlying k = some (.int .i64)) (ht : P.underlying t = some (.map k e)) (i : Nat) (hi : i < 9223372036854775808) (v : Value) :
  ∃ w', (Instr.mapUpdate t (.map (some b)) (.int .i64 (i : Int)) v).run P w = .ok () w' /\ Mp w' b (n + 1) (fun j => if j = i then some v else f j) /\ Only b w w' /\ w'.heap.size = w.heap.size := by
 obtain ⟨es, clock, hb, hn, hks, hp, hv⟩ := h
 have K := int_keyed (P := P) hk
 have hkey := keyOf_nat (P := P) hk i hi
 rcases K.find w hkey es.toList (Mp.keys hk hks) with ⟨h1, h2⟩ | ⟨j, e0, h1, h2, h3⟩
 ·refine ⟨setBlock w b (.map (es.push ⟨.int .i64 (i : Int), v, clock⟩) (clock + 1)), ?_, ⟨_, _, heap_setBlock_same hb _, by simp; omega, ?_, ?_, ?_⟩, only_setBlock hb _, by simp [setBlock]⟩
  ·simp [Instr.mapUpdate, run_underlying ht, MapKept.run_getObj_map hb, K.check w false hkey, h1, MapKept.run_setObj_map _ hb, Result.andThen, setBlock]
  ·intro x hx
   simp only [Array.toList_push, List.mem_append, List.mem_singleton] at hx
   rcases hx with hx | rfl
   ·exact hks x hx
   ·exact ⟨i, hi, rfl⟩
  ·rw [Array.toList_push, List.pairwise_append]
   exact ⟨hp, by simp, fun x hx y hy => by simp at hy; subst hy; exact h2 x hx⟩
  ·intro j u
   simp only [Array.toList_push, List.mem_append, List.mem_singleton]
   by_cases hj : j = i
   ·subst hj
    rw [if_pos rfl]
    constructor
    ·intro e; cases e; exact ⟨_, Or.inr rfl, rfl, rfl⟩
    ·rintro ⟨x, hx | rfl, he, hu⟩
     ·exact absurd he (h2 x hx)
     ·simp at hu; rw [hu]
   ·rw [if_neg hj, hv j u]
    constructor
    ·rintro ⟨x, hx, he, hu⟩; exact ⟨x, Or.inl hx, he, hu⟩
    ·rintro ⟨x, hx | rfl, he, hu⟩
     ·exact ⟨x, hx, he, hu⟩
     ·exact absurd (key_inj he).symm hj
 ·have hj : es[j]? = some e0 := by simpa using h2
  have hjl : j < es.toList.length := (List.getElem?_eq_some_iff.1 h2).1
  have hlist : (es.modify j (fun e' => { e' with key := .int .i64 (i : Int), val := v })).toList = es.toList.set j { e0 with key := .int .i64 (i : Int), val := v } := by rw [Array.toList_modify, modify_eq_set _ _ _ _ h2]
  have other : ∀ x ∈ es.toList, x.key = .int .i64 (i : Int) -> x = e0 := by
   intro x hx hxk
   obtain ⟨q, hq⟩ := List.getElem?_of_mem hx
   rcases Nat.lt_trichotomy q j with hlt | rfl | hlt
   ·have := (List.pairwise_iff_getElem.1 hp) q j (List.getElem?_eq_some_iff.1 hq).1 hjl hlt
    rw [(List.getElem?_eq_some_iff.1 hq).2, (List.getElem?_eq_some_iff.1 h2).2] at this
    exact absurd (hxk.trans h3.symm) this
   ·rw [hq] at h2; cases h2; rfl
   ·have := (List.pairwise_iff_getElem.1 hp) j q hjl (List.getElem?_eq_some_iff.1 hq).1 hlt
    rw [(List.getElem?_eq_some_iff.1 hq).2, (List.getElem?_eq_some_iff.1 h2).2] at this
    exact absurd (h3.trans hxk.symm) this
  have who : ∀ x ∈ es.toList.set j { e0 with key := .int .i64 (i : Int), val := v }, x = { e0 with key := .int .i64 (i : Int), val := v } ∨ (x ∈ es.toList /\ x.key ≠ .int .i64 (i : Int)) := by
   intro x hx
   obtain ⟨q, hq, ex⟩ := List.getElem_of_mem hx
   rw [List.getElem_set] at ex
   split at ex
   ·exact Or.inl ex.symm
   ·rename_i hne
    have hq' : q < es.toList.length := by simpa using hq
    refine Or.inr ⟨ex ▸ List.getElem_mem hq', fun hk2 => ?_⟩
    have hx0 := other x (ex ▸ List.getElem_mem hq') hk2
    rcases Nat.lt_trichotomy q j with hlt | he | hlt
    ·have := (List.pairwise_iff_getElem.1 hp) q j hq' hjl hlt
     rw [ex, (List.getElem?_eq_some_iff.1 h2).2, hx0] at this
     exact this rfl
    ·exact hne he.symm
    ·have := (List.pairwise_iff_getElem.1 hp) j q hjl hq' hlt
     rw [ex, (List.getElem?_eq_some_iff.1 h2).2, hx0] at this
     exact this rfl
  have hin : ({ e0 with key := .int .i64 (i : Int), val := v } : MapEntry) ∈ es.toList.set j { e0 with key := .int .i64 (i : Int), val := v } := List.mem_iff_getElem.2 ⟨j, by simpa using hjl, by simp⟩
  have hold : ∀ x ∈ es.toList, x.key ≠ .int .i64 (i : Int) -> x ∈ es.toList.set j { e0 with key := .int .i64 (i : Int), val := v } := by
   intro x hx hne
   obtain ⟨q, hq⟩ := List.getElem?_of_mem hx
   have hqj : j ≠ q := by rintro rfl; rw [hq] at h2; cases h2; exact hne h3
   exact List.mem_of_getElem? (i := q) (by rw [List.getElem?_set_ne hqj]; exact hq)
  refine ⟨setBlock w b (.map (es.modify j (fun e' => { e' with key := .int .i64 (i : Int), val := v })) clock), ?_, ⟨_, _, heap_setBlock_same hb _, by simp; omega, ?_, ?_, ?_⟩, only_setBlock hb _, by simp [setBlock]⟩
  ·simp [Instr.mapUpdate, run_underlying ht, MapKept.run_getObj_map hb, K.check w false hkey, h1, hj, h3, K.stays w hkey, MapKept.run_setObj_map _ hb, Result.andThen, setBlock]
  ·intro x hx
   rw [hlist] at hx
   rcases who x hx with rfl | ⟨hx', _⟩
   ·exact ⟨i, hi, rfl⟩
   ·exact hks x hx'
  ·rw [hlist, List.pairwise_iff_getElem]
   intro p q hp1 hq1 hpq
   have hp2 : p < es.toList.length := by simpa using hp1
   have hq2 : q < es.toList.length := by simpa using hq1
   have hh := (List.pairwise_iff_getElem.1 hp) p q hp2 hq2 hpq
   have ek : (es.toList[j]'hjl).key = .int .i64 (i : Int) := by rw [(List.getElem?_eq_some_iff.1 h2).2]; exact h3
   rw [List.getElem_set, List.getElem_set]
   split
   ·rename_i e1; subst e1
    rw [if_neg (by omega)]
    rw [ek] at hh; exact hh
   ·split
    ·rename_i e2; subst e2
     rw [ek] at hh; exact hh
    ·exact hh
  ·intro q u
   rw [hlist]
   show (if q = i then some v else f q) = some u ↔ _
   by_cases hq : q = i
   ·subst hq
    rw [if_pos rfl]
    constructor
    ·intro e; cases e; exact ⟨_, hin, rfl, rfl⟩
    ·rintro ⟨x, hx, he, hu⟩
     rcases who x hx with rfl | ⟨_, hne⟩
     ·simp at hu; rw [hu]
     ·exact absurd he hne
   ·rw [if_neg hq, hv q u]
    constructor
    ·rintro ⟨x, hx, he, hu⟩; exact ⟨x, hold x hx (by rw [he]; intro e; exact hq (key_inj e)), he, hu⟩
    ·rintro ⟨x, hx, he, hu⟩
     rcases who x hx with rfl | ⟨hx', _⟩
     ·exact absurd (key_inj he).symm hq
     ·exact ⟨x, hx', he, hu⟩
theorem Mp.drop {ty : TypeId} (h : Mp w b n f) (hk : P.underlying k = some (.int .i64)) (ht : P.underlying t = some (.map k e)) (i : Nat) (hi : i < 9223372036854775808) :
  ∃ w', (Builtin.delete_ #[t, k] ty #[.map (some b), .int .i64 (i : Int)]).run P w = .ok (.tuple #[]) w' /\ Mp w' b n (fun j => if j = i then none else f j) /\ Only b w w' /\ w'.heap.size = w.heap.size := by
 obtain ⟨es, clock, hb, hn, hks, hp, hv⟩ := h
 have K := int_keyed (P := P) hk
 have hkey := keyOf_nat (P := P) hk i hi
 rcases K.find w hkey es.toList (Mp.keys hk hks) with ⟨h1, h2⟩ | ⟨j, e0, h1, h2, h3⟩
 ·refine ⟨setBlock w b (.map es clock), ?_, ⟨_, _, heap_setBlock_same hb _, hn, hks, hp, ?_⟩, only_setBlock hb _, by simp [setBlock]⟩
  ·simp [Builtin.delete_, run_underlying ht, MapKept.run_getObj_map hb, K.check w _ hkey, h1, MapKept.run_setObj_map _ hb, Result.andThen, setBlock]
  ·intro q u
   show (if q = i then none else f q) = some u ↔ _
   by_cases hq : q = i
   ·subst hq
    rw [if_pos rfl]
    constructor
    ·intro e; cases e
    ·rintro ⟨x, hx, he, _⟩; exact absurd he (h2 x hx)
   ·rw [if_neg hq, hv q u]
 ·have hjl : j < es.toList.length := (List.getElem?_eq_some_iff.1 h2).1
  have hjs : j < es.size := by simpa using hjl
  have hsub : (es.eraseIdxIfInBounds j).toList = es.toList.eraseIdx j := by
   unfold Array.eraseIdxIfInBounds
   rw [dif_pos hjs]
   simp
  have ek : (es.toList[j]'hjl).key = .int .i64 (i : Int) := by rw [(List.getElem?_eq_some_iff.1 h2).2]; exact h3
  refine ⟨setBlock w b (.map (es.eraseIdxIfInBounds j) clock), ?_, ⟨_, _, heap_setBlock_same hb _, Nat.le_trans (MapFrom.size_erase es j) hn, ?_, ?_, ?_⟩, only_setBlock hb _, by simp [setBlock]⟩
  ·simp [Builtin.delete_, run_underlying ht, MapKept.run_getObj_map hb, K.check w _ hkey, h1, MapKept.run_setObj_map _ hb, Result.andThen, setBlock]
  ·intro x hx
   rw [hsub] at hx
   exact hks x ((List.eraseIdx_sublist _ _).subset hx)
  ·rw [hsub]
   exact hp.sublist (List.eraseIdx_sublist _ _)
  ·intro q u
   show (if q = i then none else f q) = some u ↔ _
   rw [hsub]
   have mem : ∀ x, x ∈ es.toList.eraseIdx j ↔ x ∈ es.toList /\ x.key ≠ .int .i64 (i : Int) := by
    intro x
    rw [List.mem_eraseIdx_iff_getElem?]
    constructor
    ·rintro ⟨r, hne, hr⟩
     refine ⟨List.mem_of_getElem? hr, fun hx => ?_⟩
     have hrl := (List.getElem?_eq_some_iff.1 hr).1
     have hre := (List.getElem?_eq_some_iff.1 hr).2
     rcases Nat.lt_or_gt_of_ne hne with hlt | hlt
     ·have := (List.pairwise_iff_getElem.1 hp) r j hrl hjl hlt
      rw [hre, ek, hx] at this; exact this rfl
     ·have := (List.pairwise_iff_getElem.1 hp) j r hjl hrl hlt
      rw [hre, ek, hx] at this; exact this rfl
    ·rintro ⟨hx, hne⟩
     obtain ⟨r, hr⟩ := List.getElem?_of_mem hx
     refine ⟨r, ?_, hr⟩
     rintro rfl
     rw [h2] at hr; cases hr; exact hne h3
   by_cases hq : q = i
   ·subst hq
    rw [if_pos rfl]
    constructor
    ·intro e; cases e
    ·rintro ⟨x, hx, he, _⟩; exact absurd he ((mem x).1 hx).2
   ·rw [if_neg hq, hv q u]
    constructor
    ·rintro ⟨x, hx, he, hu⟩; exact ⟨x, (mem x).2 ⟨hx, by rw [he]; intro e; exact hq (key_inj e)⟩, he, hu⟩
    ·rintro ⟨x, hx, he, hu⟩; exact ⟨x, ((mem x).1 hx).1, he, hu⟩
end
end Go.Proofs.YtckbhciehmokdaaGreatDoor
namespace Go.Proofs.YtckbhciehmokdaaGreatDoor
set_option maxRecDepth 100000
set_option maxHeartbeats 8000000
open Go.RowKit Go.Maps Go.ChangeMaps
def Ap (P : Program) (k : TypeId) (w : World) (b n : Nat) (f : Value -> Option Value) : Prop :=
 ∃ es clock, w.heap[b]? = some (.map es clock) /\ es.size <= n /\ (∀ x ∈ es.toList, ∃ l, keyOf P k x.key = some l) /\ es.toList.Pairwise (fun x y => x.key ≠ y.key) /\
  ∀ (i v : Value), f i = some v ↔ ∃ x ∈ es.toList, x.key = i /\ x.val = v
noncomputable def apd (f : Value -> Option Value) (i : Value) (o : Option Value) : Value -> Option Value := fun j => by classical exact if j = i then o else f j
theorem apd_same (f : Value -> Option Value) (i : Value) (o : Option Value) : apd f i o i = o := by unfold apd; exact if_pos rfl
theorem apd_ne (f : Value -> Option Value) {i j : Value} (o : Option Value) (h : j ≠ i) : apd f i o j = f j := by unfold apd; exact if_neg h
theorem Ap.lt {P : Program} {k : TypeId} {w : World} {b n : Nat} {f : Value -> Option Value} (h : Ap P k w b n f) : b < w.heap.size := by
 obtain ⟨es, clock, hb, _⟩ := h
 exact (Array.getElem?_eq_some_iff.1 hb).1
theorem Ap.mono {P : Program} {k : TypeId} {w : World} {b n m : Nat} {f : Value -> Option Value} (h : Ap P k w b n f) (hm : n <= m) : Ap P k w b m f := by
 obtain ⟨es, clock, hb, hn, r⟩ := h
 exact ⟨es, clock, hb, by omega, r⟩
theorem Ap.same {P : Program} {k : TypeId} {w w' : World} {b n : Nat} {f : Value -> Option Value} (h : Ap P k w b n f) (he : w'.heap[b]? = w.heap[b]?) : Ap P k w' b n f := by
 obtain ⟨es, clock, hb, r⟩ := h
 exact ⟨es, clock, he.trans hb, r⟩
theorem Ap.only {P : Program} {k : TypeId} {g : Nat} {w w' : World} {b n : Nat} {f : Value -> Option Value} (h : Ap P k w b n f) (ht : Only g w w') (hn : b ≠ g) : Ap P k w' b n f := h.same (ht.block b h.lt hn)
theorem Ap.later {P : Program} {k : TypeId} {w w' : World} {b n : Nat} {f : Value -> Option Value} (h : Ap P k w b n f) (hb : Below w.heap.size w w') : Ap P k w' b n f := h.same (hb.block b h.lt)
theorem Ap.alloc {P : Program} {k : TypeId} {w : World} {b n : Nat} {f : Value -> Option Value} (h : Ap P k w b n f) (o : Obj) : Ap P k (w.alloc o) b n f := h.later (below1 w o)
theorem Ap.set {P : Program} {k : TypeId} {w : World} {b n : Nat} {f : Value -> Option Value} (h : Ap P k w b n f) {a : Addr} (hne : b ≠ a.block) (v : Value) : Ap P k (w.setCell a v) b n f := h.same (Below.heap_setCell w a v b hne)
theorem Ap.new {P : Program} {k : TypeId} (w : World) : Ap P k (w.alloc (.map #[] 0)) w.heap.size 0 (fun _ => none) :=
 ⟨#[], 0, (MapKept.heap_alloc w _).1, Nat.le_refl _, by simp, by simp, by simp⟩
theorem Ap.ne_has {P : Program} {k : TypeId} {w : World} {b n : Nat} {f : Value -> Option Value} (h : Ap P k w b n f) {c : Nat} {cs : Array Value} {t : TypeId} {fr : Nat × Nat} (hc : Has w c (.cells cs t fr)) : b ≠ c := by
 rintro rfl
 obtain ⟨es, clock, hb, _⟩ := h
 have e : some (Obj.map es clock) = some (Obj.cells cs t fr) := hb.symm.trans hc
 cases e
section
variable {P : Program} {k t e : TypeId} {w : World} {b n : Nat} {f : Value -> Option Value}
theorem Ap.look_none (h : Ap P k w b n f) (K : Keyed P k) (ht : P.underlying t = some (.map k e)) {z : Value} (hz : (zeroValue e).run P w = .ok z w) (c : Bool) (i : Value) {li : Lit} (hi : keyOf P k i = some li) (hf : f i = none) :
  (Instr.lookup t (.map (some b)) i c).run P w = .ok (if c then .tuple #[z, .bool false] else z) w := by
 obtain ⟨es, clock, hb, hn, hks, hp, hv⟩ := h
 have hkey := hi
 rcases K.find w hkey es.toList hks with ⟨h1, h2⟩ | ⟨j, e0, h1, h2, h3⟩
 ·simp [Instr.lookup, run_underlying ht, MapKept.run_getObj_map hb, K.check w _ hkey, h1, hz, Result.andThen]
 ·have := (hv i e0.val).2 ⟨e0, List.mem_of_getElem? h2, h3, rfl⟩
  rw [hf] at this
  cases this
theorem Ap.look_some (h : Ap P k w b n f) (K : Keyed P k) (ht : P.underlying t = some (.map k e)) (c : Bool) (i : Value) {li : Lit} (hi : keyOf P k i = some li) {v : Value} (hf : f i = some v) :
  (Instr.lookup t (.map (some b)) i c).run P w = .ok (if c then .tuple #[v, .bool true] else v) w := by
 obtain ⟨es, clock, hb, hn, hks, hp, hv⟩ := h
 have hkey := hi
 rcases K.find w hkey es.toList hks with ⟨h1, h2⟩ | ⟨j, e0, h1, h2, h3⟩
 ·obtain ⟨x, hx, he, _⟩ := (hv i v).1 hf
  exact absurd he (h2 x hx)
 ·have := (hv i e0.val).2 ⟨e0, List.mem_of_getElem? h2, h3, rfl⟩
  rw [hf] at this
  simp only [Option.some.injEq] at this
  simp [Instr.lookup, run_underlying ht, MapKept.run_getObj_map hb, K.check w _ hkey, h1, Result.andThen, this]
theorem Ap.store (h : Ap P k w b n f) (K : Keyed P k) (ht : P.underlying t = some (.map k e)) (i : Value) {li : Lit} (hi : keyOf P k i = some li) (v : Value) :
  ∃ w', (Instr.mapUpdate t (.map (some b)) i v).run P w = .ok () w' /\ Ap P k w' b (n + 1) (apd f i (some v)) /\ Only b w w' /\ w'.heap.size = w.heap.size := by
 obtain ⟨es, clock, hb, hn, hks, hp, hv⟩ := h
 have hkey := hi
 rcases K.find w hkey es.toList hks with ⟨h1, h2⟩ | ⟨j, e0, h1, h2, h3⟩
 ·refine ⟨setBlock w b (.map (es.push ⟨i, v, clock⟩) (clock + 1)), ?_, ⟨_, _, heap_setBlock_same hb _, by simp; omega, ?_, ?_, ?_⟩, only_setBlock hb _, by simp [setBlock]⟩
  ·simp [Instr.mapUpdate, run_underlying ht, MapKept.run_getObj_map hb, K.check w false hkey, h1, MapKept.run_setObj_map _ hb, Result.andThen, setBlock]
  ·intro x hx
   simp only [Array.toList_push, List.mem_append, List.mem_singleton] at hx
   rcases hx with hx | rfl
   ·exact hks x hx
   ·exact ⟨_, hi⟩
  ·rw [Array.toList_push, List.pairwise_append]
   exact ⟨hp, by simp, fun x hx y hy => by simp at hy; subst hy; exact h2 x hx⟩
  ·intro j u
   simp only [Array.toList_push, List.mem_append, List.mem_singleton]
   by_cases hj : j = i
   ·subst hj
    rw [apd_same]
    constructor
    ·intro e; cases e; exact ⟨_, Or.inr rfl, rfl, rfl⟩
    ·rintro ⟨x, hx | rfl, he, hu⟩
     ·exact absurd he (h2 x hx)
     ·simp at hu; rw [hu]
   ·rw [apd_ne _ _ hj, hv j u]
    constructor
    ·rintro ⟨x, hx, he, hu⟩; exact ⟨x, Or.inl hx, he, hu⟩
    ·rintro ⟨x, hx | rfl, he, hu⟩
     ·exact ⟨x, hx, he, hu⟩
     ·exact absurd he.symm hj
 ·have hj : es[j]? = some e0 := by simpa using h2
  have hjl : j < es.toList.length := (List.getElem?_eq_some_iff.1 h2).1
  have hlist : (es.modify j (fun e' => { e' with key := i, val := v })).toList = es.toList.set j { e0 with key := i, val := v } := by rw [Array.toList_modify, modify_eq_set _ _ _ _ h2]
  have other : ∀ x ∈ es.toList, x.key = i -> x = e0 := by
   intro x hx hxk
   obtain ⟨q, hq⟩ := List.getElem?_of_mem hx
   rcases Nat.lt_trichotomy q j with hlt | rfl | hlt
   ·have := (List.pairwise_iff_getElem.1 hp) q j (List.getElem?_eq_some_iff.1 hq).1 hjl hlt
    rw [(List.getElem?_eq_some_iff.1 hq).2, (List.getElem?_eq_some_iff.1 h2).2] at this
    exact absurd (hxk.trans h3.symm) this
   ·rw [hq] at h2; cases h2; rfl
   ·have := (List.pairwise_iff_getElem.1 hp) j q hjl (List.getElem?_eq_some_iff.1 hq).1 hlt
    rw [(List.getElem?_eq_some_iff.1 hq).2, (List.getElem?_eq_some_iff.1 h2).2] at this
    exact absurd (h3.trans hxk.symm) this
  have who : ∀ x ∈ es.toList.set j { e0 with key := i, val := v }, x = { e0 with key := i, val := v } ∨ (x ∈ es.toList /\ x.key ≠ i) := by
   intro x hx
   obtain ⟨q, hq, ex⟩ := List.getElem_of_mem hx
   rw [List.getElem_set] at ex
   split at ex
   ·exact Or.inl ex.symm
   ·rename_i hne
    have hq' : q < es.toList.length := by simpa using hq
    refine Or.inr ⟨ex ▸ List.getElem_mem hq', fun hk2 => ?_⟩
    have hx0 := other x (ex ▸ List.getElem_mem hq') hk2
    rcases Nat.lt_trichotomy q j with hlt | he | hlt
    ·have := (List.pairwise_iff_getElem.1 hp) q j hq' hjl hlt
     rw [ex, (List.getElem?_eq_some_iff.1 h2).2, hx0] at this
     exact this rfl
    ·exact hne he.symm
    ·have := (List.pairwise_iff_getElem.1 hp) j q hjl hq' hlt
     rw [ex, (List.getElem?_eq_some_iff.1 h2).2, hx0] at this
     exact this rfl
  have hin : ({ e0 with key := i, val := v } : MapEntry) ∈ es.toList.set j { e0 with key := i, val := v } := List.mem_iff_getElem.2 ⟨j, by simpa using hjl, by simp⟩
  have hold : ∀ x ∈ es.toList, x.key ≠ i -> x ∈ es.toList.set j { e0 with key := i, val := v } := by
   intro x hx hne
   obtain ⟨q, hq⟩ := List.getElem?_of_mem hx
   have hqj : j ≠ q := by rintro rfl; rw [hq] at h2; cases h2; exact hne h3
   exact List.mem_of_getElem? (i := q) (by rw [List.getElem?_set_ne hqj]; exact hq)
  refine ⟨setBlock w b (.map (es.modify j (fun e' => { e' with key := i, val := v })) clock), ?_, ⟨_, _, heap_setBlock_same hb _, by simp; omega, ?_, ?_, ?_⟩, only_setBlock hb _, by simp [setBlock]⟩
  ·simp [Instr.mapUpdate, run_underlying ht, MapKept.run_getObj_map hb, K.check w false hkey, h1, hj, h3, K.stays w hkey, MapKept.run_setObj_map _ hb, Result.andThen, setBlock]
  ·intro x hx
   rw [hlist] at hx
   rcases who x hx with rfl | ⟨hx', _⟩
   ·exact ⟨_, hi⟩
   ·exact hks x hx'
  ·rw [hlist, List.pairwise_iff_getElem]
   intro p q hp1 hq1 hpq
   have hp2 : p < es.toList.length := by simpa using hp1
   have hq2 : q < es.toList.length := by simpa using hq1
   have hh := (List.pairwise_iff_getElem.1 hp) p q hp2 hq2 hpq
   have ek : (es.toList[j]'hjl).key = i := by rw [(List.getElem?_eq_some_iff.1 h2).2]; exact h3
   rw [List.getElem_set, List.getElem_set]
   split
   ·rename_i e1; subst e1
    rw [if_neg (by omega)]
    rw [ek] at hh; exact hh
   ·split
    ·rename_i e2; subst e2
     rw [ek] at hh; exact hh
    ·exact hh
  ·intro q u
   rw [hlist]
   show apd f i (some v) q = some u ↔ _
   by_cases hq : q = i
   ·subst hq
    rw [apd_same]
    constructor
    ·intro e; cases e; exact ⟨_, hin, rfl, rfl⟩
    ·rintro ⟨x, hx, he, hu⟩
     rcases who x hx with rfl | ⟨_, hne⟩
     ·simp at hu; rw [hu]
     ·exact absurd he hne
   ·rw [apd_ne _ _ hq, hv q u]
    constructor
    ·rintro ⟨x, hx, he, hu⟩; exact ⟨x, hold x hx (by rw [he]; intro e; exact hq e), he, hu⟩
    ·rintro ⟨x, hx, he, hu⟩
     rcases who x hx with rfl | ⟨hx', _⟩
     ·exact absurd he.symm hq
     ·exact ⟨x, hx', he, hu⟩
theorem Ap.drop {ty : TypeId} (h : Ap P k w b n f) (K : Keyed P k) (ht : P.underlying t = some (.map k e)) (i : Value) {li : Lit} (hi : keyOf P k i = some li) :
  ∃ w', (Builtin.delete_ #[t, k] ty #[.map (some b), i]).run P w = .ok (.tuple #[]) w' /\ Ap P k w' b n (apd f i none) /\ Only b w w' /\ w'.heap.size = w.heap.size := by
 obtain ⟨es, clock, hb, hn, hks, hp, hv⟩ := h
 have hkey := hi
 rcases K.find w hkey es.toList hks with ⟨h1, h2⟩ | ⟨j, e0, h1, h2, h3⟩
 ·refine ⟨setBlock w b (.map es clock), ?_, ⟨_, _, heap_setBlock_same hb _, hn, hks, hp, ?_⟩, only_setBlock hb _, by simp [setBlock]⟩
  ·simp [Builtin.delete_, run_underlying ht, MapKept.run_getObj_map hb, K.check w _ hkey, h1, MapKept.run_setObj_map _ hb, Result.andThen, setBlock]
  ·intro q u
   show apd f i none q = some u ↔ _
   by_cases hq : q = i
   ·subst hq
    rw [apd_same]
    constructor
    ·intro e; cases e
    ·rintro ⟨x, hx, he, _⟩; exact absurd he (h2 x hx)
   ·rw [apd_ne _ _ hq, hv q u]
 ·have hjl : j < es.toList.length := (List.getElem?_eq_some_iff.1 h2).1
  have hjs : j < es.size := by simpa using hjl
  have hsub : (es.eraseIdxIfInBounds j).toList = es.toList.eraseIdx j := by
   unfold Array.eraseIdxIfInBounds
   rw [dif_pos hjs]
   simp
  have ek : (es.toList[j]'hjl).key = i := by rw [(List.getElem?_eq_some_iff.1 h2).2]; exact h3
  refine ⟨setBlock w b (.map (es.eraseIdxIfInBounds j) clock), ?_, ⟨_, _, heap_setBlock_same hb _, Nat.le_trans (MapFrom.size_erase es j) hn, ?_, ?_, ?_⟩, only_setBlock hb _, by simp [setBlock]⟩
  ·simp [Builtin.delete_, run_underlying ht, MapKept.run_getObj_map hb, K.check w _ hkey, h1, MapKept.run_setObj_map _ hb, Result.andThen, setBlock]
  ·intro x hx
   rw [hsub] at hx
   exact hks x ((List.eraseIdx_sublist _ _).subset hx)
  ·rw [hsub]
   exact hp.sublist (List.eraseIdx_sublist _ _)
  ·intro q u
   show apd f i none q = some u ↔ _
   rw [hsub]
   have mem : ∀ x, x ∈ es.toList.eraseIdx j ↔ x ∈ es.toList /\ x.key ≠ i := by
    intro x
    rw [List.mem_eraseIdx_iff_getElem?]
    constructor
    ·rintro ⟨r, hne, hr⟩
     refine ⟨List.mem_of_getElem? hr, fun hx => ?_⟩
     have hrl := (List.getElem?_eq_some_iff.1 hr).1
     have hre := (List.getElem?_eq_some_iff.1 hr).2
     rcases Nat.lt_or_gt_of_ne hne with hlt | hlt
     ·have := (List.pairwise_iff_getElem.1 hp) r j hrl hjl hlt
      rw [hre, ek, hx] at this; exact this rfl
     ·have := (List.pairwise_iff_getElem.1 hp) j r hjl hrl hlt
      rw [hre, ek, hx] at this; exact this rfl
    ·rintro ⟨hx, hne⟩
     obtain ⟨r, hr⟩ := List.getElem?_of_mem hx
     refine ⟨r, ?_, hr⟩
     rintro rfl
     rw [h2] at hr; cases hr; exact hne h3
   by_cases hq : q = i
   ·subst hq
    rw [apd_same]
    constructor
    ·intro e; cases e
    ·rintro ⟨x, hx, he, _⟩; exact absurd he ((mem x).1 hx).2
   ·rw [apd_ne _ _ hq, hv q u]
    constructor
    ·rintro ⟨x, hx, he, hu⟩; exact ⟨x, (mem x).2 ⟨hx, by rw [he]; intro e; exact hq e⟩, he, hu⟩
    ·rintro ⟨x, hx, he, hu⟩; exact ⟨x, ((mem x).1 hx).1, he, hu⟩
end
end Go.Proofs.YtckbhciehmokdaaGreatDoor
namespace Go.Proofs.YtckbhciehmokdaaGreatDoor
set_option maxRecDepth 100000
set_option maxHeartbeats 8000000
open Go.RowKit
theorem rare_any (zs : List Int) (s : Value) (w : World) (hz : Zl w s zs) : Calls Tryz.prog 110 #[s] w fun e w' => e = .returned (.bool (decide (Valid zs))) /\ w = w' := by
 obtain ⟨a, len, cap, rfl, hl, h2, h3, h4⟩ := hz
 clear h3
 by_cases g1 : len = 0
 ·have hd : decide (Valid zs) = false := decide_eq_false fun h => by have := h.1; omega
  have e1 : ((len : Int) == 0) = true := by rw [beq_iff_eq]; omega
  rw [hd]
  clear hd hl g1 h4
  go_enter Tryz.func110, Tryz.ntmps110
  go_wp2
  go_ret
  exact ⟨rfl, rfl⟩
 ·have e1 : ((len : Int) == 0) = false := by rw [beq_eq_false_iff_ne]; omega
  by_cases g2 : 288 < len
  ·have hd : decide (Valid zs) = false := decide_eq_false fun h => by have := h.2.1; omega
   have e2 : decide (288 < (len : Int)) = true := by simp; omega
   rw [hd]
   clear hd hl g1 h4
   go_enter Tryz.func110, Tryz.ntmps110
   go_wp2
   go_ret
   exact ⟨rfl, rfl⟩
  ·have e2 : decide (288 < (len : Int)) = false := by simp; omega
   have HV := LH (valid_iff zs (by omega) (by omega))
   obtain ⟨b, off, rfl, hb, hc⟩ := h4 (by omega)
   have HL := LH hl
   have HC := LH hc
   clear hl h4 hc g1
   go_enter Tryz.func110, Tryz.ntmps110
   go_wp2
   go_loop [3] (fun s3 => ∃ k : Nat, k <= len /\ s3 = .int .i64 k /\ Hid (∀ i, i < k -> ¬ Bad (zs[i]?.getD 0))) (fun s => len - (intOf s).toNat)
   case atStart => exact ⟨0, Nat.zero_le _, rfl, fun i hi => by omega⟩
   case round =>
    obtain ⟨k, hk, rfl, KB⟩ := hrel
    by_cases hlt : k < len
    ·have hck := HC.out k hlt
     obtain ⟨z, hz⟩ : ∃ z, z = zs[k]?.getD 0 := ⟨_, rfl⟩
     rw [<- hz] at hck
     have HK := LH hz
     clear hz
     have no : Bad z -> Hid (decide (Valid zs) = false) := fun hb => decide_eq_false fun h => HV.out.1 h k (by have := HL.out; omega) (by rw [<- HK.out]; exact hb)
     by_cases d1 : z < 0
     ·have hd1 : decide (z < 0) = true := by simpa using d1
      have NO := no (Or.inl d1)
      clear no
      go_wp2
      go_ret
      exact ⟨by rw [NO.out]; rfl, rfl⟩
     ·have hd1 : decide (z < 0) = false := by simpa using d1
      by_cases d2 : 15 < z
      ·have hd2 : decide (15 < z) = true := by simpa using d2
       have NO := no (Or.inr d2)
       clear no
       go_wp2
       go_ret
       exact ⟨by rw [NO.out]; rfl, rfl⟩
      ·have hd2 : decide (15 < z) = false := by simpa using d2
       clear no
       go_wp2
       go_round
       case rel =>
        refine ⟨k + 1, by omega, by go_num, ?_⟩
        show ∀ i, i < k + 1 -> _
        intro i hi
        by_cases e : i = k
        ·rw [e, <- HK.out]; exact fun h => h.elim d1 d2
        ·exact KB.out i (by omega)
       case measure => simp [intOf]; omega
    ·obtain rfl : k = len := by omega
     have YES : Hid (decide (Valid zs) = true) := decide_eq_true (HV.out.2 (by rw [<- HL.out]; exact KB.out))
     go_wp2
     go_ret
     exact ⟨by rw [YES.out]; rfl, rfl⟩
theorem tk_le (ls : List Nat) (q : Nat -> Bool) (k : Nat) : Hf.tk ls q k <= 32768 * k := by
 induction k with
 | zero => exact Nat.le_refl _
 | succ k ih =>
  have h : 2 ^ (15 - Hf.ln ls k) <= 2 ^ 15 := Nat.pow_le_pow_right (by omega) (by omega)
  simp only [Hf.tk]
  split <;> omega
theorem tk_step (ls : List Nat) (k x t : Nat) (hx : x = ls[k]?.getD 0) (ht : t = Hf.tk ls (fun x => decide (0 < x)) k) : Hf.tk ls (fun x => decide (0 < x)) (k + 1) = t + (if 0 < x then 2 ^ (15 - x) else 0) := by
 simp only [Hf.tk]
 show _ + (if decide (0 < ls[k]?.getD 0) = true then 2 ^ (15 - ls[k]?.getD 0) else 0) = _
 rw [<- hx, <- ht]
 simp
theorem wrap_pow (d c : Nat) (h : c = 2 ^ d) (hc : c <= 32768) : wrap64 (2 ^ d) = (c : Int) := by
 have e : ((2 : Int) ^ d) = (c : Int) := by rw [h]; simp
 rw [e, IntWalk.wrap64_in _ (by omega)]
theorem rtakes_any (ls : List Nat) (s : Value) (B : Nat) (w : World) (hL : Lsl B w s ls) (h15 : ∀ i, i < ls.length -> Hf.ln ls i <= 15) :
  Calls Tryz.prog 111 #[s] w fun e w' => e = .returned (.int .i64 (Hf.tk ls (fun x => decide (0 < x)) ls.length : Int)) /\ w = w' := by
 obtain ⟨b, off, cap, rfl, hpos, h288, hb, hc⟩ := hL
 obtain ⟨len, hlen⟩ : ∃ len, len = ls.length := ⟨_, rfl⟩
 rw [<- hlen] at hpos h288 hc h15 ⊢
 have HC := LH hc
 have H15 := LH h15
 clear hc h15 hlen
 go_enter Tryz.func111, Tryz.ntmps111
 go_wp2
 go_loop [3, 4] (fun s3 s4 => ∃ k t : Nat, k <= len /\ s4 = .int .i64 k /\ s3 = .int .i64 t /\ Hid (t = Hf.tk ls (fun x => decide (0 < x)) k)) (fun _ s => len - (intOf s).toNat)
 case atStart => exact ⟨0, 0, Nat.zero_le _, rfl, rfl, rfl⟩
 case round =>
  obtain ⟨k, t, hk, rfl, rfl, KT⟩ := hrel
  by_cases hlt : k < len
  ·have hck := HC.out k hlt
   have h15k := H15.out k hlt
   unfold Hf.ln at h15k
   obtain ⟨x, hx⟩ : ∃ x, x = ls[k]?.getD 0 := ⟨_, rfl⟩
   have ST := LH (tk_step ls k x t hx KT.out)
   rw [<- hx] at hck h15k
   have ht := tk_le ls (fun x => decide (0 < x)) k
   rw [<- KT.out] at ht
   clear hx
   by_cases h0 : 0 < x
   ·obtain ⟨d, hd⟩ : ∃ d, d = 15 - x := ⟨_, rfl⟩
    obtain ⟨c, hc⟩ : ∃ c, c = 2 ^ d := ⟨_, rfl⟩
    have hc2 : c <= 32768 := by rw [hc]; exact Nat.le_trans (Nat.pow_le_pow_right (by omega) (show d <= 15 by omega)) (by decide)
    have hw := wrap_pow d c hc hc2
    have hd2 : 15 - (x : Int) = (d : Int) := by omega
    have ST2 : Hid (t + c = Hf.tk ls (fun x => decide (0 < x)) (k + 1)) := by show _ = _; rw [ST.out, if_pos h0, hc, hd]
    clear hc hd
    go_wp2
    go_round
    case rel => exact ⟨k + 1, t + c, by omega, by go_num, by go_num, ST2⟩
    case measure => simp [intOf]; omega
   ·have ST2 : Hid (t = Hf.tk ls (fun x => decide (0 < x)) (k + 1)) := by show _ = _; rw [ST.out, if_neg h0]; rfl
    go_wp2
    go_round
    case rel => exact ⟨k + 1, t, by omega, by go_num, rfl, ST2⟩
    case measure => simp [intOf]; omega
  ·obtain rfl : k = len := by omega
   go_wp2
   go_ret
   exact ⟨by rw [<- KT.out]; rfl, rfl⟩
theorem rcheck_any (zs : List Int) (s : Value) (w : World) (hz : Zl w s zs) : Calls Tryz.prog 68 #[s] w fun e w' => e = .returned (.int .i64 (chk zs)) /\ w = w' := by
 have H1 := rare_any zs s w hz
 by_cases hv : Valid zs
 ·have e : chk zs = cmpr (takes (nat zs)) := if_pos hv
  have H2 := rtakes_any (nat zs) s w.heap.size w (hv.lsl hz (Nat.le_refl _)) (fun i hi => hv.le i hi)
  rw [e, decide_eq_true hv] at *
  rw [<- Hf.pf_all _ (fun i hi => hv.le i hi), takes_pf _ (fun i hi => hv.le i hi)] at H2
  clear e
  obtain ⟨a, len, cap, rfl, hl⟩ := hz.shape
  generalize takes (nat zs) = t at H2 ⊢
  clear hz hv hl
  by_cases h : 32768 < t
  ·have e : cmpr t = 11 := by unfold cmpr; rw [if_pos h]
   have h1 : decide (32768 < (t : Int)) = true := by simp; omega
   rw [e]
   clear e
   go_enter Tryz.func68, Tryz.ntmps68
   go_wp2_with (first | (go_at_call 110; refine H1.mono ?_; rintro e w' ⟨rfl, rfl⟩) | (go_at_call 111; refine H2.mono ?_; rintro e w' ⟨rfl, rfl⟩))
   go_ret
   exact ⟨rfl, rfl⟩
  ·have h1 : decide (32768 < (t : Int)) = false := by simp; omega
   by_cases h2 : t < 32768
   ·have e : cmpr t = 12 := by unfold cmpr; rw [if_neg h, if_pos h2]
    have h3 : decide ((t : Int) < 32768) = true := by simp; omega
    rw [e]
    clear e
    go_enter Tryz.func68, Tryz.ntmps68
    go_wp2_with (first | (go_at_call 110; refine H1.mono ?_; rintro e w' ⟨rfl, rfl⟩) | (go_at_call 111; refine H2.mono ?_; rintro e w' ⟨rfl, rfl⟩))
    go_ret
    exact ⟨rfl, rfl⟩
   ·have e : cmpr t = 0 := by unfold cmpr; rw [if_neg h, if_neg h2]
    have h3 : decide ((t : Int) < 32768) = false := by simp; omega
    rw [e]
    clear e
    go_enter Tryz.func68, Tryz.ntmps68
    go_wp2_with (first | (go_at_call 110; refine H1.mono ?_; rintro e w' ⟨rfl, rfl⟩) | (go_at_call 111; refine H2.mono ?_; rintro e w' ⟨rfl, rfl⟩))
    go_ret
    exact ⟨rfl, rfl⟩
 ·have e : chk zs = 2 := if_neg hv
  rw [decide_eq_false hv] at H1
  rw [e]
  clear e
  obtain ⟨a, len, cap, rfl, hl⟩ := hz.shape
  clear hz hv hl
  go_enter Tryz.func68, Tryz.ntmps68
  go_wp2_with (go_at_call 110; refine H1.mono ?_; rintro e w' ⟨rfl, rfl⟩)
  go_ret
  exact ⟨rfl, rfl⟩
end Go.Proofs.YtckbhciehmokdaaGreatDoor
namespace Go.Proofs.YtckbhciehmokdaaGreatDoor
set_option maxRecDepth 100000
set_option maxHeartbeats 8000000
open Go.RowKit
def vn (xs : List Nat) : List Value := xs.map fun (x : Nat) => Value.int .i64 (x : Int)
theorem vn_length (xs : List Nat) : (vn xs).length = xs.length := by simp [vn]
theorem vn_append (xs ys : List Nat) : vn (xs ++ ys) = vn xs ++ vn ys := by simp [vn]
theorem vn_get (xs : List Nat) (i : Nat) : (vn xs)[i]? = (xs[i]?).map fun (x : Nat) => Value.int .i64 (x : Int) := by simp [vn]
theorem vn_one (xs : List Nat) : ∀ v ∈ vn xs, v.oneCell' = true := by
 intro v hv
 simp only [vn, List.mem_map] at hv
 obtain ⟨x, _, rfl⟩ := hv
 rfl
def nums (xs : List Nat) : Obj := .cells (vn xs).toArray 3 (0, 0)
theorem nums_cell {w : World} {g : Nat} {xs : List Nat} (h : Has w g (nums xs)) (i : Nat) (hi : i < xs.length) : w.cell? ⟨g, i, none⟩ = some (.int .i64 ((xs[i]?.getD 0 : Nat) : Int)) := by
 have h' : Has w g (.cells (vn xs).toArray 3 (0, 0)) := h
 rw [h'.cell, List.getElem?_toArray, vn_get, List.getElem?_eq_getElem hi]
 rfl
theorem wpList_append_is {P : Program} {w : World} {ops : Array Oper} {rest : List Oper} {o : Oper} {a : Act} {Q : Exit -> Act -> World -> Prop} (hgd : o.guard = none) (s x : Operand) (t : TypeId)
  (hop : o.op = Op.call { callee := Callee.builtin Builtin.append, args := #[s, x], argTypes := #[t, t] }) (S X v : Value) (w' : World) (hs : a.eval s = S) (hx : a.eval x = X)
  (hrun : (Builtin.append_ #[t, t] o.type #[S, X]).run P w = .ok v w') (h : wpList P ops Q rest (a.put o.dst v) w') : wpList P ops Q (o :: rest) a w :=
 wpList_plain hgd fun K hK => by
  unfold Oper.wp
  simp [execOp, hop, resolve, invoke, builtin, hs, hx, hrun, Result.andThen]
  exact hK _ _ h
theorem own_keep {w w' : World} {base : Nat} {e : TypeId} {size : Nat} {v : Value} {n : Nat} {xs : List Value} (h : w.ownsRow base e size v n xs) (hb : Below w.heap.size w w') : w'.ownsRow base e size v n xs := by
 obtain ⟨h1, h2⟩ := h
 refine ⟨h1, ?_⟩
 rcases h2 with h | ⟨g, c, cur, h, hbg, hg, r⟩
 ·exact Or.inl h
 ·exact Or.inr ⟨g, c, cur, h, hbg, (hb.block g (lt_of_block hg)).trans hg, r⟩
theorem own_only {w w' : World} {base R : Nat} {e : TypeId} {size : Nat} {v : Value} {n : Nat} {xs : List Value} (h : w.ownsRow base e size v n xs) (ho : Only R w w') (hR : R < base) : w'.ownsRow base e size v n xs := by
 obtain ⟨h1, h2⟩ := h
 refine ⟨h1, ?_⟩
 rcases h2 with h | ⟨g, c, cur, h, hbg, hg, r⟩
 ·exact Or.inl h
 ·exact Or.inr ⟨g, c, cur, h, hbg, (ho.block g (lt_of_block hg) (by omega)).trans hg, r⟩
theorem own_sl {w : World} {base : Nat} {e : TypeId} {size : Nat} {v : Value} {n : Nat} {xs : List Value} (h : w.ownsRow base e size v n xs) : ∃ a cap, v = .slice a n cap := by
 rcases h.2 with ⟨rfl, rfl⟩ | ⟨g, cap, cur, rfl, _⟩
 ·exact ⟨_, _, rfl⟩
 ·exact ⟨_, _, rfl⟩
def Own (base : Nat) (w : World) (s : Value) (xs : List Nat) : Prop := w.ownsRow base 3 1 s xs.length (vn xs)
theorem Own.nil (base : Nat) (w : World) : Own base w (.slice none 0 0) [] := ⟨rfl, Or.inl ⟨rfl, rfl⟩⟩
theorem Own.shape {base : Nat} {w : World} {s : Value} {xs : List Nat} (h : Own base w s xs) : ∃ a cap, s = .slice a xs.length cap := own_sl h
theorem Own.keep {base : Nat} {w w' : World} {s : Value} {xs : List Nat} (h : Own base w s xs) (hb : Below w.heap.size w w') : Own base w' s xs := own_keep h hb
theorem Own.only {base R : Nat} {w w' : World} {s : Value} {xs : List Nat} (h : Own base w s xs) (ho : Only R w w') (hR : R < base) : Own base w' s xs := own_only h ho hR
theorem Own.cells {base : Nat} {w : World} {a : Option Addr} {len cap : Nat} {xs : List Nat} (h : Own base w (.slice a len cap) xs) (hl : 0 < xs.length) :
  ∃ g, a = some ⟨g, 0, none⟩ /\ g < w.heap.size /\ base <= g /\ ∀ i, i < xs.length -> w.cell? ⟨g, i, none⟩ = some (.int .i64 ((xs[i]?.getD 0 : Nat) : Int)) := by
 have h0 := h
 rcases h.2 with ⟨h1, h2⟩ | ⟨g, c, cur, h1, hbg, hg, r⟩
 ·omega
 ·cases h1
  refine ⟨g, rfl, lt_of_block hg, hbg, fun i hi => ?_⟩
  have := World.ownsRow.cellAt (h := h0) i (by omega)
  rw [this, vn_get, List.getElem?_eq_getElem hi]
  rfl
theorem Own.cap {base : Nat} {w : World} {a : Option Addr} {len cap : Nat} {xs : List Nat} (h : Own base w (.slice a len cap) xs) : len = xs.length /\ len <= cap := by
 rcases h.2 with ⟨h1, h2⟩ | ⟨g, c, cur, h1, hbg, hg, r⟩
 ·injection h1 with e1 e2 e3
  omega
 ·injection h1 with e1 e2 e3
  have := r.1
  refine ⟨e2, ?_⟩
  rw [e2, e3]; omega
theorem Own.weaken {base base' : Nat} {w : World} {v : Value} {xs : List Nat} (h : Own base w v xs) (hb : base' <= base) : Own base' w v xs := by
 refine ⟨h.1, ?_⟩
 rcases h.2 with h2 | ⟨g, c, cur, h1, hbg, hg, r⟩
 ·exact Or.inl h2
 ·exact Or.inr ⟨g, c, cur, h1, by omega, hg, r⟩
theorem Own.block {base : Nat} {w : World} {v : Value} {xs : List Nat} (h : Own base w v xs) : ∀ k, v.ownBlock = some k -> base <= k := by
 intro k e
 rcases h.2 with ⟨h1, h2⟩ | ⟨g, c, cur, h1, hbg, hg, r⟩
 ·rw [h1] at e; simp [Value.ownBlock] at e
 ·rw [h1] at e
  simp only [Value.ownBlock, Option.some.injEq] at e
  omega
theorem Own.zl {base : Nat} {w : World} {s : Value} {xs : List Nat} (h : Own base w s xs) (h2 : xs.length <= 17592186044416) : Zl w s (xs.map fun (x : Nat) => (x : Int)) := by
 obtain ⟨a, cap, rfl⟩ := h.shape
 by_cases h0 : xs = []
 ·subst h0
  rcases h.2 with ⟨h1, h3⟩ | ⟨g, c, cur, h1, hbg, hg, r⟩
  ·cases h1
   exact ⟨none, 0, 0, rfl, rfl, by omega, fun _ => ⟨rfl, rfl⟩, fun h => absurd h (by omega)⟩
  ·cases h1
   exact ⟨_, 0, _, rfl, rfl, by omega, fun h => by simp at h, fun h => absurd h (by simp)⟩
 ·have hl : 0 < xs.length := List.length_pos_iff.2 h0
  obtain ⟨g, rfl, hg, hb, hc⟩ := h.cells hl
  refine ⟨_, xs.length, cap, rfl, by simp, h2, fun h => by simp at h, fun _ => ⟨g, 0, rfl, hg, fun i hi => ?_⟩⟩
  rw [Nat.zero_add, hc i hi, List.getElem?_map, List.getElem?_eq_getElem hi]
  rfl
theorem nums_append {w : World} {base : Nat} {v : Value} {xs : List Nat} (hown : Own base w v xs) (ty : TypeId) (g m cap : Nat) (ys : List Nat) (hg : Has w g (nums ys)) (hm : m = ys.length) (hm0 : 0 < m) (h1 : xs.length + m <= 100000) (hb : base <= w.heap.size) :
  ∃ v' w', (Builtin.append_ #[57, 57] ty #[v, .slice (some ⟨g, 0, none⟩) m cap]).run Tryz.prog w = .ok v' w' /\ Own base w' v' (xs ++ ys) /\ w.grownBy w' v.ownBlock := by
 subst hm
 obtain ⟨i0, hi, hz0, hz1, hz2⟩ := info_parts Tryz.infoInt
 obtain ⟨v', w', h1, h2, h3, _⟩ := run_append_own (P := Tryz.prog) (w := w) base 57 ty 3 i0 (.int .i64 0) 1 8 Tryz.underlying57 hi hz0 hz1 hz2 rfl (by decide) v xs.length (vn xs) hown ⟨g, 0, none⟩ ys.length cap (vn ys) (by rw [vn_length]; omega)
  (fun j u hj => by
   have e : (⟨g, 0, none⟩ : Addr).add j = ⟨g, j, none⟩ := by cases j <;> simp [Addr.add]
   have hj2 := (List.getElem?_eq_some_iff.1 hj).1
   rw [vn_length] at hj2
   rw [e, nums_cell hg j hj2]
   rw [vn_get, List.getElem?_eq_getElem hj2] at hj
   rw [List.getElem?_eq_getElem hj2]
   simpa using hj)
  (vn_one _) (by unfold maxLen; omega) (by omega) hb
 refine ⟨v', w', h1, ?_, h3⟩
 unfold Own
 rw [List.length_append, vn_append]
 exact h2
theorem vn_splice (xs : List Nat) (k : Nat) (ys : List Nat) : splice (vn xs) k (vn ys) = vn (splice xs k ys) := by simp [splice, vn]
theorem wpList_copy_nums {w : World} {ops : Array Oper} {rest : List Oper} {o : Oper} {a : Act} {Q : Exit -> Act -> World -> Prop} (hgd : o.guard = none) (d s : Operand)
  (ho : o.op = .call { callee := .builtin .copy, args := #[d, s], argTypes := #[57, 57] }) (dLen dCap sLen sCap g off b so : Nat) (hd : a.eval d = .slice (some ⟨g, off, none⟩) dLen dCap) (hs : a.eval s = .slice (some ⟨b, so, none⟩) sLen sCap)
  (cur cs : List Nat) (hg : Has w g (nums cur)) (hn : cs.length = Nat.min sLen dLen) (hc : ∀ j, j < cs.length -> w.cell? ⟨b, so + j, none⟩ = some (.int .i64 ((cs[j]?.getD 0 : Nat) : Int))) (hfit : off + cs.length <= cur.length)
  (h : ∀ w', Has w' g (nums (splice cur off cs)) -> Only g w w' -> wpList Tryz.prog ops Q rest (a.put o.dst (goInt cs.length)) w') : wpList Tryz.prog ops Q (o :: rest) a w := by
 refine wpList_copy_only hgd d s 57 57 ho 3 Tryz.underlying57 (by kernel_rfl) (some ⟨g, off, none⟩) (some ⟨b, so, none⟩) dLen dCap sLen sCap hd hs g off (vn cur) 3 hg (vn cs) (by rw [vn_length]; exact hn) (fun _ => ⟨rfl, _, rfl, fun j v hj => ?_⟩)
  (by rw [vn_length, vn_length]; exact hfit) (vn_one _) ?_
 ·have hj2 := (List.getElem?_eq_some_iff.1 hj).1
  rw [vn_length] at hj2
  have e : (⟨b, so, none⟩ : Addr).add j = ⟨b, so + j, none⟩ := by cases j <;> simp [Addr.add]
  rw [e, hc j hj2]
  rw [vn_get, List.getElem?_eq_getElem hj2] at hj
  rw [List.getElem?_eq_getElem hj2]
  simpa using hj
 ·intro w' hg' ho'
  rw [vn_length]
  refine h w' ?_ ho'
  have h2 := hg'.out
  rw [vn_splice] at h2
  exact h2
theorem step_copy_nums {ops : Array Oper} {o : Oper} {a : Act} {w : World} {K : Act -> World -> Prop} {Q : Exit -> Act -> World -> Prop} {E : Prop} (hgd : o.guard = none) (d s : Operand)
  (ho : o.op = .call { callee := .builtin .copy, args := #[d, s], argTypes := #[57, 57] }) (dLen dCap sLen sCap g off b so : Nat) (hd : a.eval d = .slice (some ⟨g, off, none⟩) dLen dCap) (hs : a.eval s = .slice (some ⟨b, so, none⟩) sLen sCap)
  (cur cs : List Nat) (B : Nat) (w0 : World) (hb : Below B w0 w) (hBg : B <= g) (hg : Has w g (nums cur)) (hn : cs.length = Nat.min sLen dLen) (hc : ∀ j, j < cs.length -> w.cell? ⟨b, so + j, none⟩ = some (.int .i64 ((cs[j]?.getD 0 : Nat) : Int))) (hfit : off + cs.length <= cur.length)
  (h : ∀ w', Has w' g (nums (splice cur off cs)) -> Below B w0 w' -> K (a.put o.dst (goInt cs.length)) w') :
  if Region.wanted o (yielded ops a.tmps) = true then Oper.wp Tryz.prog o a w K Q else E := by
 refine step_copy_splice hgd d s 57 57 ho 3 Tryz.underlying57 (by kernel_rfl) (some ⟨g, off, none⟩) (some ⟨b, so, none⟩) dLen dCap sLen sCap hd hs g off (vn cur) 3 hg (vn cs) (by rw [vn_length]; exact hn) (fun _ => ⟨rfl, _, rfl, fun j v hj => ?_⟩)
  (by rw [vn_length, vn_length]; exact hfit) (vn_one _) B w0 hb hBg ?_
 ·have hj2 := (List.getElem?_eq_some_iff.1 hj).1
  rw [vn_length] at hj2
  have e : (⟨b, so, none⟩ : Addr).add j = ⟨b, so + j, none⟩ := by cases j <;> simp [Addr.add]
  rw [e, hc j hj2]
  rw [vn_get, List.getElem?_eq_getElem hj2] at hj
  rw [List.getElem?_eq_getElem hj2]
  simpa using hj
 ·intro w' hg' ho'
  rw [vn_length]
  refine h w' ?_ ho'
  have h2 := hg'.out
  rw [vn_splice] at h2
  exact h2
end Go.Proofs.YtckbhciehmokdaaGreatDoor
namespace Go.Proofs.YtckbhciehmokdaaGreatDoor
set_option maxRecDepth 100000
set_option maxHeartbeats 8000000
open Go.RowKit
def Two (x c : Int) (w : World) (e : Ending) (w' : World) : Prop := e = .returned (.tuple #[.int .i64 x, .int .i64 c]) /\ Below w.heap.size w w'
def Bx (w : World) (a b c d : Int) (w1 : World) : Prop := Below (w.heap.size + 1) (boxed w a b c d) w1
theorem Bx.cells {w w1 : World} {a b c d : Int} (h : Bx w a b c d w1) :
  w1.cell? ⟨w.heap.size, 0, none⟩ = some (.int .i64 a) /\ w1.cell? ⟨w.heap.size, 1, none⟩ = some (.int .i64 b) /\ w1.cell? ⟨w.heap.size, 2, none⟩ = some (.int .i64 c) /\ w1.cell? ⟨w.heap.size, 3, none⟩ = some (.int .i64 d) :=
 boxed_cells w a b c d ⟨w1, h⟩
theorem Bx.below {w w1 : World} {a b c d : Int} (h : Bx w a b c d w1) : Below w.heap.size w w1 := (boxed_below w a b c d).trans (Below.mono h (by omega))
theorem Bx.size {w w1 : World} {a b c d : Int} (h : Bx w a b c d w1) : w.heap.size + 1 <= w1.heap.size := Nat.le_trans (boxed_le w a b c d) (Below.size h)
theorem Bx.first (w : World) (a b c d : Int) : Bx w a b c d (boxed w a b c d) := Below.refl _ _
theorem Bx.next {w w1 w2 : World} {a b c d : Int} (h : Bx w a b c d w1) (hb : Below w1.heap.size w1 w2) : Bx w a b c d w2 := Below.trans h (hb.mono h.size)
theorem Bx.drew {w w1 : World} {a b c d : Int} (h : Bx w a b c d w1) (n : Nat) : Bx w a b c d (w1.drewN n) := below_drewN h n
theorem lbits_bad (s : Int) (w : World) (h : s < 257 ∨ 285 < s) : Calls Tryz.prog 106 #[scl 257 3 4 7, .int .i64 s] w (Two 0 13 w) := by
 have HL := fun w => llone_is s w
 rw [show (s == 285) = false from by rw [beq_eq_false_iff_ne]; omega] at HL
 have HE := fun w => lend_is w
 unfold scl at HL HE ⊢
 have H := LH HL
 have H2 := LH HE
 clear HL HE
 by_cases h1 : s < 257
 ·have d1 : decide (s < 257) = true := decide_eq_true h1
  clear h h1
  go_enter Tryz.func106, Tryz.ntmps106
  go_wp2_with fail
  refine (H.out (boxed w 257 3 4 7)).mono ?_
  rintro e w1 ⟨rfl, hb⟩
  have hx := (Bx.first w 257 3 4 7).next hb
  obtain ⟨c0, c1, c2, c3⟩ := hx.cells
  have HX := LH hx
  clear hb hx
  go_wp2_with fail
  go_ret2
  exact ⟨rfl, HX.out.below⟩
 ·have d1 : decide (s < 257) = false := decide_eq_false h1
  have d2 : decide (285 <= s) = true := decide_eq_true (by omega)
  clear h h1
  go_enter Tryz.func106, Tryz.ntmps106
  go_wp2_with fail
  refine (H.out (boxed w 257 3 4 7)).mono ?_
  rintro e w1 ⟨rfl, hb⟩
  have hx := (Bx.first w 257 3 4 7).next hb
  obtain ⟨c0, c1, c2, c3⟩ := hx.cells
  have HX := LH hx
  clear hb hx
  go_wp2_with fail
  refine (H2.out _).mono ?_
  rintro e w2 ⟨rfl, hb⟩
  have HY := LH (HX.out.next hb)
  clear hb
  go_wp2_with fail
  go_ret2
  exact ⟨rfl, HY.out.below⟩
theorem lbits_ok (k : Nat) (w : World) (hk : k < 28) : Calls Tryz.prog 106 #[scl 257 3 4 7, .int .i64 (257 + (k : Int))] w (Two (Sy.at' Sy.lb k : Nat) 0 w) := by
 have HL := fun w => llone_is (257 + (k : Int)) w
 rw [show ((257 + (k : Int)) == 285) = false from by rw [beq_eq_false_iff_ne]; omega] at HL
 have HE := fun w => lend_is w
 unfold scl at HL HE ⊢
 have H := LH HL
 have H2 := LH HE
 clear HL HE
 have HG := LH (fun w => beside_is (k / 4) w (by omega))
 rw [(Sy.l_sum k hk).2]
 have d1 : decide ((257 + (k : Int)) < 257) = false := decide_eq_false (by omega)
 have d2 : decide (285 <= (257 + (k : Int))) = false := decide_eq_false (by omega)
 obtain ⟨s, hs⟩ : ∃ s, s = 257 + (k : Int) := ⟨_, rfl⟩
 have hq : (s - 257) / 4 = ((k / 4 : Nat) : Int) := by omega
 have hs1 : 257 <= s := by omega
 have hs2 : s < 285 := by omega
 rw [<- hs] at H d1 d2 ⊢
 obtain ⟨q, hq'⟩ : ∃ q : Int, q = ((k / 4 : Nat) : Int) := ⟨_, rfl⟩
 rw [<- hq'] at hq HG
 clear hs hq'
 go_enter Tryz.func106, Tryz.ntmps106
 go_wp2_with fail
 refine (H.out (boxed w 257 3 4 7)).mono ?_
 rintro e w1 ⟨rfl, hb⟩
 have hx := (Bx.first w 257 3 4 7).next hb
 obtain ⟨c0, c1, c2, c3⟩ := hx.cells
 have HX := LH hx
 clear hb hx
 go_wp2_with fail
 refine (H2.out _).mono ?_
 rintro e w2 ⟨rfl, hb⟩
 have hy := HX.out.next hb
 obtain ⟨e0, e1, e2, e3⟩ := hy.cells
 have HY := LH hy
 clear hb hy
 go_wp2_with fail
 refine (HG.out _).mono ?_
 rintro e w3 ⟨rfl, rfl⟩
 go_wp2_with fail
 go_ret2
 exact ⟨rfl, HY.out.below⟩
theorem lbits_lone (w : World) : Calls Tryz.prog 106 #[scl 257 3 4 7, .int .i64 285] w (Two 0 0 w) := by
 have HL := fun w => llone_is 285 w
 rw [show ((285 : Int) == 285) = true from rfl] at HL
 unfold scl at HL ⊢
 have H := LH HL
 clear HL
 go_enter Tryz.func106, Tryz.ntmps106
 go_wp2_with fail
 refine (H.out (boxed w 257 3 4 7)).mono ?_
 rintro e w1 ⟨rfl, hb⟩
 have HX := LH ((Bx.first w 257 3 4 7).next hb)
 clear hb
 go_wp2_with fail
 go_ret2
 exact ⟨rfl, HX.out.below⟩
theorem dbits_bad (s : Int) (w : World) (h : s < 0 ∨ 29 < s) : Calls Tryz.prog 106 #[scl 0 1 2 15, .int .i64 s] w (Two 0 13 w) := by
 have HL := fun w => dlone_is s w
 have HE := fun w => dend_is w
 unfold scl at HL HE ⊢
 have H := LH HL
 have H2 := LH HE
 clear HL HE
 by_cases h1 : s < 0
 ·have d1 : decide (s < 0) = true := decide_eq_true h1
  clear h h1
  go_enter Tryz.func106, Tryz.ntmps106
  go_wp2_with fail
  refine (H.out (boxed w 0 1 2 15)).mono ?_
  rintro e w1 ⟨rfl, hb⟩
  have hx := (Bx.first w 0 1 2 15).next hb
  obtain ⟨c0, c1, c2, c3⟩ := hx.cells
  have HX := LH hx
  clear hb hx
  go_wp2_with fail
  go_ret2
  exact ⟨rfl, HX.out.below⟩
 ·have d1 : decide (s < 0) = false := decide_eq_false h1
  have d2 : decide (30 <= s) = true := decide_eq_true (by omega)
  clear h h1
  go_enter Tryz.func106, Tryz.ntmps106
  go_wp2_with fail
  refine (H.out (boxed w 0 1 2 15)).mono ?_
  rintro e w1 ⟨rfl, hb⟩
  have hx := (Bx.first w 0 1 2 15).next hb
  obtain ⟨c0, c1, c2, c3⟩ := hx.cells
  have HX := LH hx
  clear hb hx
  go_wp2_with fail
  refine (H2.out _).mono ?_
  rintro e w2 ⟨rfl, hb⟩
  have HY := LH (HX.out.next hb)
  clear hb
  go_wp2_with fail
  go_ret2
  exact ⟨rfl, HY.out.below⟩
theorem dbits_ok (k : Nat) (w : World) (hk : k < 30) : Calls Tryz.prog 106 #[scl 0 1 2 15, .int .i64 (0 + (k : Int))] w (Two (Sy.at' Sy.db k : Nat) 0 w) := by
 have HL := fun w => dlone_is (0 + (k : Int)) w
 have HE := fun w => dend_is w
 unfold scl at HL HE ⊢
 have H := LH HL
 have H2 := LH HE
 clear HL HE
 have HG := LH (fun w => beside_is (k / 2) w (by omega))
 rw [(Sy.d_sum k hk).2]
 have d1 : decide ((0 + (k : Int)) < 0) = false := decide_eq_false (by omega)
 have d2 : decide (30 <= (0 + (k : Int))) = false := decide_eq_false (by omega)
 obtain ⟨s, hs⟩ : ∃ s, s = 0 + (k : Int) := ⟨_, rfl⟩
 have hq : s / 2 = ((k / 2 : Nat) : Int) := by omega
 have hs1 : 0 <= s := by omega
 have hs2 : s < 30 := by omega
 rw [<- hs] at H d1 d2 ⊢
 obtain ⟨q, hq'⟩ : ∃ q : Int, q = ((k / 2 : Nat) : Int) := ⟨_, rfl⟩
 rw [<- hq'] at hq HG
 clear hs hq'
 go_enter Tryz.func106, Tryz.ntmps106
 go_wp2_with fail
 refine (H.out (boxed w 0 1 2 15)).mono ?_
 rintro e w1 ⟨rfl, hb⟩
 have hx := (Bx.first w 0 1 2 15).next hb
 obtain ⟨c0, c1, c2, c3⟩ := hx.cells
 have HX := LH hx
 clear hb hx
 go_wp2_with fail
 refine (H2.out _).mono ?_
 rintro e w2 ⟨rfl, hb⟩
 have hy := HX.out.next hb
 obtain ⟨e0, e1, e2, e3⟩ := hy.cells
 have HY := LH hy
 clear hb hy
 go_wp2_with fail
 refine (HG.out _).mono ?_
 rintro e w3 ⟨rfl, rfl⟩
 go_wp2_with fail
 go_ret2
 exact ⟨rfl, HY.out.below⟩
end Go.Proofs.YtckbhciehmokdaaGreatDoor
namespace Go.Proofs.YtckbhciehmokdaaGreatDoor
set_option maxRecDepth 100000
set_option maxHeartbeats 8000000
open Go.RowKit Go.Shelf
def SeqKeep (P : Program) (g : Nat) (first lb : Array Value) (xs : List (Array Value)) (Keep : World -> Prop) : Prop :=
 ∀ (l : Nat) (J : Nat -> World -> Prop) (W : World), (∀ i, Grows W.heap.size (J i)) -> (∀ i W', J i W' -> Keep W') ->
  (∀ i x, xs[i]? = some x -> Goes P W.heap.size l x (J i) (J (i + 1))) -> J 0 W ->
  Calls P g (first ++ #[.func (.yield l) #[] #[]] ++ lb) W fun e W' => (∃ v, e = .returned v) /\ J xs.length W'
section
variable {n : Nat} {P : Program}
theorem range_keep {α : Type} {g : Operand} {ps : Array Tmp} {assign body : Code} {Q : Exit -> Act -> World -> Prop} {a : Act} {w : World}
  {gf : Nat} {first lb : Array Value} (hg : a.eval g = .func (.func gf) first lb) (eg : ∀ args w, (callFunc gf args).run P w = .ok (.enter gf args) w)
  {encs : α -> Array Value} {xs : List α} {Keep : World -> Prop} (hseq : SeqKeep P gf first lb (xs.map encs) Keep) (hps : ∀ x, (encs x).size = ps.size)
  (I : Nat -> World -> Prop) (hKp : ∀ i W, I i W -> Keep W) (hI : ∀ i A B, I i A -> Lo w.heap.size 2 A B -> I i B) (h0 : I 0 w) (a₁ : α -> World -> Act) (asg : α -> World -> World) (hasg : ∀ x W, Below W.heap.size W (asg x W))
  (hassign : ∀ (l : Nat) (x : α) (W : World) (K : Act -> World -> Prop), K (a₁ x W) (asg x W) ->
   assign.wpIn (Fence.wide.inRound l) 9 P (Exit.then K (fun _ _ _ => False)) { tmps := (ps.zip (encs x)).foldl (fun t (p, v) => t.setIfInBounds p v) a.tmps, defers := [] } W)
  (hbody : ∀ (l i : Nat) (x : α) (W0 W : World), xs[i]? = some x -> I i W -> w.heap.size + 2 <= W0.heap.size -> Lo w.heap.size 2 (asg x W0) W -> body.wpIn (Fence.wide.inRound l) 9 P (FixPost w.heap.size (I (i + 1)) W) (a₁ x W0) W)
  (hdone : ∀ (W : World), I xs.length W -> W.heap[w.heap.size]? = some (.deferred (some [])) -> Q .normal { a with defers := { target := .collected w.heap.size, args := #[] } :: a.defers } W) :
  (Code.rangeFunc g ps assign body).wpIn Fence.wide n P Q a w := by
 refine wpIn_rangeFunc fun fn hfn => ?_
 obtain ⟨b, hb⟩ : ∃ b, b = w.heap.size := ⟨_, rfl⟩
 rw [<- hb] at hI hbody hdone
 obtain ⟨rec, hrec⟩ : ∃ r : LoopState -> Loop, r = fun st => { state := st, pending := none, fn, tmps := a.tmps, params := ps, assign, body, defers := w.heap.size } := ⟨_, rfl⟩
 have hW := Lo.of_below (b := b) (m := 2) (below2 w (.deferred (some [])) (.loop (rec .ready)))
 have hD := (Has.new w (.deferred (some []))).alloc (.loop (rec .ready))
 have hL := Has.new (w.alloc (.deferred (some []))) (.loop (rec .ready))
 have hsz : ((w.alloc (.deferred (some []))).alloc (.loop (rec .ready))).heap.size = b + 2 := by simp [hb]
 rw [World.size_alloc, <- hb] at hL
 rw [<- hb] at hD
 have hrun : (Instr.enterLoop fn a.tmps ps assign body none).run P w = .ok (b + 1, [{ target := .collected b, args := #[] }]) ((w.alloc (.deferred (some []))).alloc (.loop (rec .ready))) := by
  rw [hrec, hb]
  exact run_enterLoop_outer _ _ _ _ _
 revert hW hD hL hsz hrun
 generalize (w.alloc (.deferred (some []))).alloc (.loop (rec .ready)) = W1
 intro hW hD hL hsz hrun
 refine ⟨_, _, W1, { target := .fn (.func gf) lb, args := first ++ #[.func (.yield (b + 1)) #[] #[]] }, W1, gf, first ++ #[.func (.yield (b + 1)) #[] #[]] ++ lb, W1, hrun, ?_, ?_, ?_, fun q => (by simp [Fence.wide] at q), ?_⟩
 ·simp only [resolve, hg]
  simp [go_sem]
 ·intro f' hf'
  trivial
 ·simp [invoke, go_sem, eg]
 ·refine callsIn_wide.2 ((hseq (b + 1) (fun i W => I i W /\ Has W (b + 1) (.loop (rec .ready)) /\ Has W b (.deferred (some []))) W1 ?_ (fun i W h => hKp i W h.1) ?_ ⟨hI _ _ _ h0 hW, hL, hD⟩).mono ?_)
  ·rintro i A C ⟨i1, i2, i3⟩ hsz2 hbl
   exact ⟨hI _ _ _ i1 (Lo.of_below hbl), i2.later hbl, i3.later hbl⟩
  ·rintro i x' hx' W ⟨hi, hl, hk⟩ hW2
   rw [hsz] at hW2
   rw [List.getElem?_map] at hx'
   obtain ⟨x, hx, rfl⟩ := Option.map_eq_some_iff.1 hx'
   have hba := hasg x W
   have hla := hl.later hba
   have hka := hk.later hba
   have hia := hI _ _ _ hi (Lo.of_below hba)
   have hza := hba.size
   have hlt := hla.lt
   have hy := run_yield (P := P) (args := encs x) hl (by rw [hrec]; exact hps x)
   rw [hrec] at hy
   refine ⟨fn, _, assign, body, hy, roundIn_of_wpIn hfn (hassign _ x W _ ⟨_, run_beginRound hla (by rw [hrec]), ?_⟩)⟩
   obtain ⟨busy, hbusy⟩ : ∃ r : Loop, r = { rec .ready with state := .busy } := ⟨_, rfl⟩
   rw [<- hbusy]
   have l1 : Has ((asg x W).putObj (b + 1) (.loop busy)) (b + 1) (.loop busy) := World.putObj_heap_same hlt
   have p1 := (Lo.putObj (asg x W) (b + 1) (.loop busy))
   have hz1 : ((asg x W).putObj (b + 1) (.loop busy)).heap.size = (asg x W).heap.size := by simp
   refine wpIn_mono (hbody _ i x W _ hx (hI _ _ _ hia (p1.wide (by omega) (by omega))) (by omega) (p1.wide (by omega) (by omega))) ?_
   rintro e a3 W3 ⟨rfl, hu3, hi3⟩
   have l3 : Has W3 (b + 1) (.loop busy) := hu3.has l1 (by omega)
   have d3 : Has W3 b (.deferred (some [])) := hu3.has (p1.has hka (Or.inl (by omega))) (Nat.le_refl _)
   have hr := run_endRound (P := P) none l3
   have he : ({ busy with state := .ready, pending := none } : Loop) = rec .ready := by rw [hbusy, hrec]
   have p3 := Lo.putObj W3 (b + 1) (.loop (rec .ready))
   refine ⟨.bool true, W3.putObj (b + 1) (.loop (rec .ready)), ?_, rfl, ?_, ⟨hI _ _ _ hi3 (p3.wide (by omega) (by omega)), World.putObj_heap_same l3.lt, p3.has d3 (Or.inl (by omega))⟩⟩
   ·rw [<- he]; exact hr
   ·rw [hsz]
    exact (Up.of_below hba).trans (((Up.putObj (asg x W) (b + 1) _ (by omega)).trans (hu3.mono (by omega))).trans (Up.putObj W3 (b + 1) _ (by omega)))
  ·rintro e W2 ⟨⟨v, rfl⟩, hi, hl, hk⟩
   rw [List.length_map] at hi
   have hr := run_endLoop (P := P) hl (by rw [hrec]; simp)
   have hp : (rec .ready).pending = none := by rw [hrec]
   rw [hp] at hr
   refine ⟨none, _, hr, ?_⟩
   subst hb
   exact hdone _ (hI _ _ _ hi ((Lo.putObj W2 (w.heap.size + 1) _).wide (by omega) (by omega))) ((World.putObj_heap_other (by omega)).trans hk)
end
end Go.Proofs.YtckbhciehmokdaaGreatDoor
