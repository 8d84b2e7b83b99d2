/- A lock in memory. -/
import Derived.Test.YtoipmdemicdhoaaQpl
import Derived.Test.YtoipmdemicdhoaaAmap
import Derived.Maps.AppendAt
import Derived.Deep.MidRow
import Derived.Deep.RegionLaw

namespace Go.Proofs.Ytoipmdemicdhoaa
set_option maxRecDepth 100000
open Go.RowKit

theorem Try.infoIntQ : (Try.prog.info? 3).map (fun i => (i.zero, i.size, i.bytes)) = some (some (.int .i64 0), 1, 8) := by kernel_rfl
theorem Try.infoCli : (Try.prog.info? 70).map (fun i => (i.zero, i.size, i.bytes)) = some (some (.agg #[.int .i64 0, .bool false]), 2, 16) := by kernel_rfl

theorem qinfo {P : Program} {t : TypeId} {z : Option Value} {s b : Nat} (h : (P.info? t).map (fun i => (i.zero, i.size, i.bytes)) = some (z, s, b)) : ∃ i, P.info? t = some i ∧ i.zero = z ∧ i.size = s ∧ i.bytes = b := by
  cases h' : P.info? t with
  | none => rw [h'] at h; simp at h
  | some i => rw [h'] at h; simp at h; exact ⟨i, rfl, h.1, h.2.1, h.2.2⟩

/-- Numbers as cells. -/
def qn (xs : List Nat) : List Value := xs.map fun (x : Nat) => Value.int .i64 (x : Int)
theorem qn_length (xs : List Nat) : (qn xs).length = xs.length := by simp [qn]
theorem qn_append (xs ys : List Nat) : qn (xs ++ ys) = qn xs ++ qn ys := by simp [qn]
theorem qn_get (xs : List Nat) (i : Nat) : (qn xs)[i]? = (xs[i]?).map fun (x : Nat) => Value.int .i64 (x : Int) := by simp [qn]
/-- Clients as cells. -/
def qc : List (Nat × Bool) → List Value
  | [] => []
  | c :: r => Value.int .i64 (c.1 : Int) :: Value.bool c.2 :: qc r
theorem qc_length (cs : List (Nat × Bool)) : (qc cs).length = cs.length * 2 := by
  induction cs with
  | nil => rfl
  | cons c r ih => simp only [qc, List.length_cons, ih]; omega
theorem qc_append (cs ds : List (Nat × Bool)) : qc (cs ++ ds) = qc cs ++ qc ds := by
  induction cs with
  | nil => rfl
  | cons c r ih => simp [qc, ih]
theorem qc_get (cs : List (Nat × Bool)) (i : Nat) (c : Nat × Bool) (h : cs[i]? = some c) : (qc cs)[i * 2]? = some (.int .i64 (c.1 : Int)) ∧ (qc cs)[i * 2 + 1]? = some (.bool c.2) := by
  induction cs generalizing i with
  | nil => simp at h
  | cons d r ih =>
    cases i with
    | zero => simp at h; subst h; exact ⟨rfl, rfl⟩
    | succ i =>
      have h2 : r[i]? = some c := by simpa using h
      have := ih i h2
      rw [show (i + 1) * 2 = i * 2 + 1 + 1 by omega]
      exact this
theorem qc_one (cs : List (Nat × Bool)) : ∀ v ∈ qc cs, v.oneCell' = true := by
  induction cs with
  | nil => intro v hv; cases hv
  | cons c r ih =>
    intro v hv
    simp only [qc, List.mem_cons] at hv
    rcases hv with rfl | rfl | hv
    · rfl
    · rfl
    · exact ih v hv
theorem qn_one (xs : List Nat) : ∀ v ∈ qn xs, v.oneCell' = true := by
  intro v hv
  simp only [qn, List.mem_map] at hv
  obtain ⟨x, _, rfl⟩ := hv
  rfl

/-- A list of the call's own, and where it lies. -/
theorem qo_kind {w : World} {B : Nat} {e : TypeId} {size : Nat} {v : Value} {n : Nat} {xs : List Value} (h : w.ownsRow B e size v n xs) : ∀ g, v.ownBlock = some g → ∃ c, w.heap[g]? = some (.cells c e (0, 0)) := by
  intro g hg
  rcases h.2 with ⟨h1, _⟩ | ⟨g', cap, cur, h1, _, h2, _⟩
  · rw [h1] at hg; cases hg
  · rw [h1] at hg; cases hg; exact ⟨cur, h2⟩
theorem qo_same {w w' : World} {e : TypeId} {size n base : Nat} {v : Value} {xs : List Value} (h : w.ownsRow base e size v n xs) (he : ∀ g, v.ownBlock = some g → w'.heap[g]? = w.heap[g]?) : w'.ownsRow base e size v n xs := by
  refine ⟨h.1, ?_⟩
  rcases h.2 with h' | ⟨g, c, cur, h1, h2, h3, r⟩
  · exact Or.inl h'
  · exact Or.inr ⟨g, c, cur, h1, h2, (he g (by rw [h1]; rfl)).trans h3, r⟩
theorem qo_form {w : World} {base : Nat} {e : TypeId} {size : Nat} {v : Value} {n : Nat} {xs : List Value} (h : w.ownsRow base e size v n xs) : ∃ a cap, v = .slice a n cap := by
  rcases h.2 with ⟨h1, h2⟩ | ⟨g, cap, cur, h1, _⟩
  · subst h2; exact ⟨_, _, h1⟩
  · exact ⟨_, _, h1⟩
theorem qo_at {w : World} {base : Nat} {e : TypeId} {size : Nat} {v : Value} {n : Nat} {xs : List Value} (h : w.ownsRow base e size v n xs) (hn : 0 < n) : ∃ g cap, v = .slice (some ⟨g, 0, none⟩) n cap ∧ g < w.heap.size ∧ n ≤ cap ∧ cap ≤ maxLen := by
  rcases h.2 with ⟨_, h2⟩ | ⟨g, cap, cur, h1, _, h3, h4, h5, _⟩
  · omega
  · exact ⟨g, cap, h1, lt_of_block h3, h4, h5⟩
theorem qo_ne {w : World} {B : Nat} {e : TypeId} {size : Nat} {v : Value} {n : Nat} {xs : List Value} (h : w.ownsRow B e size v n xs) {g : Nat} {cs : Array Value} {t : TypeId} {fr : Nat × Nat} (hg : Has w g (.cells cs t fr)) (hne : e ≠ t) : v.ownBlock ≠ some g := by
  intro e1
  obtain ⟨c, h2⟩ := qo_kind h g e1
  have h3 : some (Obj.cells c e (0, 0)) = some (Obj.cells cs t fr) := h2.symm.trans hg
  injection h3 with h3
  injection h3 with _ h4 _
  exact hne h4
theorem qo_ne2 {w : World} {B B' : Nat} {e e' : TypeId} {size size' : Nat} {v v' : Value} {n n' : Nat} {xs xs' : List Value} (h : w.ownsRow B e size v n xs) (h' : w.ownsRow B' e' size' v' n' xs') (hne : e ≠ e') : ∀ g, v.ownBlock = some g → v'.ownBlock ≠ some g := by
  intro g hg hg'
  obtain ⟨c, h2⟩ := qo_kind h' g hg'
  exact qo_ne h h2 hne hg

/-- One more number. -/
theorem qn_app {w : World} {base : Nat} {v : Value} {xs : List Nat} (ho : w.ownsRow base 3 1 v xs.length (qn xs)) (x : Nat) (ty : TypeId) (g : Nat) (hg : Has w g (.cells #[.int .i64 (x : Int)] 3 (0, 0))) (hl : xs.length ≤ 100000) (hb : base ≤ w.heap.size) :
    ∃ v' w', (Builtin.append_ #[32, 32] ty #[v, .slice (some ⟨g, 0, none⟩) 1 1]).run Try.prog w = .ok v' w' ∧ w'.ownsRow base 3 1 v' (xs ++ [x]).length (qn (xs ++ [x])) ∧ w.grownBy w' v.ownBlock ∧ (v'.ownBlock = v.ownBlock ∨ v'.ownBlock = some w.heap.size) := by
  obtain ⟨i0, hi, hz0, hz1, hz2⟩ := qinfo Try.infoIntQ
  obtain ⟨v', w', h1, h2, h3, _, h5⟩ := run_append_own_at (P := Try.prog) (w := w) base 32 ty 3 i0 (.int .i64 0) 1 8 Try.underlying32 hi hz0 hz1 hz2 rfl (by decide) v xs.length (qn xs) ho ⟨g, 0, none⟩ 1 1 [.int .i64 (x : Int)] rfl
    (fun j u hj => by
      obtain rfl : j = 0 := by have := (List.getElem?_eq_some_iff.1 hj).1; simpa using this
      rw [Addr.add_mid, hg.cell]; exact hj) (by simp [Value.oneCell']) (by unfold maxLen; omega) (by omega) hb
  exact ⟨v', w', h1, by rw [List.length_append, qn_append]; exact h2, h3, h5⟩
/-- One more client. -/
theorem qc_app {w : World} {base : Nat} {v : Value} {xs : List (Nat × Bool)} (ho : w.ownsRow base 70 2 v xs.length (qc xs)) (x : Nat × Bool) (ty : TypeId) (g : Nat) (hg : Has w g (.cells #[.int .i64 (x.1 : Int), .bool x.2] 70 (0, 0))) (hl : xs.length ≤ 100000) (hb : base ≤ w.heap.size) :
    ∃ v' w', (Builtin.append_ #[63, 63] ty #[v, .slice (some ⟨g, 0, none⟩) 1 1]).run Try.prog w = .ok v' w' ∧ w'.ownsRow base 70 2 v' (xs ++ [x]).length (qc (xs ++ [x])) ∧ w.grownBy w' v.ownBlock ∧ (v'.ownBlock = v.ownBlock ∨ v'.ownBlock = some w.heap.size) := by
  obtain ⟨i0, hi, hz0, hz1, hz2⟩ := qinfo Try.infoCli
  obtain ⟨v', w', h1, h2, h3, _, h5⟩ := run_append_own_at (P := Try.prog) (w := w) base 63 ty 70 i0 (.agg #[.int .i64 0, .bool false]) 2 16 Try.underlying63 hi hz0 hz1 hz2 rfl (by decide) v xs.length (qc xs) ho ⟨g, 0, none⟩ 1 1 (qc [x]) rfl
    (fun j u hj => by
      have hj2 := (List.getElem?_eq_some_iff.1 hj).1
      rw [Addr.add_mid, Nat.zero_add, hg.cell]; simpa [qc] using hj) (qc_one _) (by unfold maxLen; omega) (by omega) hb
  exact ⟨v', w', h1, by rw [List.length_append, qc_append]; exact h2, h3, h5⟩

/-- The lock s lies in block c; the blocks of O are its own; hv, rv: its lists. -/
structure LckV (w : World) (c : Nat) (O : Nat → Prop) (s : Qk.St) (hv rv : Value) : Prop where
  has : Has w c (.cells #[hv, .bool s.wr, rv] 67 (0, 0))
  h : w.ownsRow 0 3 1 hv s.hs.length (qn s.hs)
  r : w.ownsRow 0 70 2 rv s.row.length (qc s.row)
  mine : O c
  ho : ∀ g, hv.ownBlock = some g → O g
  ro : ∀ g, rv.ownBlock = some g → O g
  lt : ∀ g, O g → g < w.heap.size
def Lck (w : World) (c : Nat) (O : Nat → Prop) (s : Qk.St) : Prop := ∃ hv rv, LckV w c O s hv rv

theorem LckV.tch {w w' : World} {c : Nat} {O S : Nat → Prop} {s : Qk.St} {hv rv : Value} (h : LckV w c O s hv rv) (ht : Tch S w w') (hn : ∀ g, O g → ¬ S g) : LckV w' c O s hv rv :=
  have same : ∀ g, O g → w'.heap[g]? = w.heap[g]? := fun g hg => ht.block g (h.lt g hg) (hn g hg)
  ⟨(same c h.mine).trans h.has, qo_same h.h (fun g hg => same g (h.ho g hg)), qo_same h.r (fun g hg => same g (h.ro g hg)), h.mine, h.ho, h.ro, fun g hg => Nat.lt_of_lt_of_le (h.lt g hg) ht.size⟩
theorem Lck.tch {w w' : World} {c : Nat} {O S : Nat → Prop} {s : Qk.St} (h : Lck w c O s) (ht : Tch S w w') (hn : ∀ g, O g → ¬ S g) : Lck w' c O s := by
  obtain ⟨hv, rv, h⟩ := h
  exact ⟨hv, rv, h.tch ht hn⟩
theorem LckV.later {w w' : World} {c : Nat} {O : Nat → Prop} {s : Qk.St} {hv rv : Value} (h : LckV w c O s hv rv) (hb : Below w.heap.size w w') : LckV w' c O s hv rv :=
  h.tch (Tch.of_below (S := fun _ => False) hb) (fun _ _ h => h)
theorem Lck.later {w w' : World} {c : Nat} {O : Nat → Prop} {s : Qk.St} (h : Lck w c O s) (hb : Below w.heap.size w w') : Lck w' c O s := by
  obtain ⟨hv, rv, h⟩ := h
  exact ⟨hv, rv, h.later hb⟩
theorem LckV.cells {w : World} {c : Nat} {O : Nat → Prop} {s : Qk.St} {hv rv : Value} (h : LckV w c O s hv rv) :
    w.cell? ⟨c, 0, none⟩ = some hv ∧ w.cell? ⟨c, 1, none⟩ = some (.bool s.wr) ∧ w.cell? ⟨c, 2, none⟩ = some rv ∧ ∀ i, w.frozen? ⟨c, i, none⟩ = false :=
  ⟨h.has.cell 0, h.has.cell 1, h.has.cell 2, fun i => h.has.free i⟩

/-- From w on only blocks of O were turned; the blocks of O' are these, and new ones. -/
structure Nxt (O : Nat → Prop) (w : World) (O' : Nat → Prop) (w' : World) : Prop where
  tch : Tch O w w'
  new : ∀ g, O' g → O g ∨ w.heap.size ≤ g
theorem Nxt.trans {O O1 O2 : Nat → Prop} {w w1 w2 : World} (h : Nxt O w O1 w1) (k : Nxt O1 w1 O2 w2) : Nxt O w O2 w2 :=
  ⟨h.tch.then k.tch h.new, fun g hg => (k.new g hg).elim (h.new g) (fun hl => Or.inr (Nat.le_trans h.tch.size hl))⟩
theorem Nxt.below {O : Nat → Prop} {w w' : World} (h : Below w.heap.size w w') : Nxt O w O w' := ⟨Tch.of_below h, fun _ hg => Or.inl hg⟩
theorem Nxt.has {O O' : Nat → Prop} {w w' : World} (h : Nxt O w O' w') {b : Nat} {o : Obj} (hb : Has w b o) (hn : ¬ O b) : Has w' b o := hb.tch h.tch hn
/-- A block that is not of O and is there is not of O' either. -/
theorem Nxt.not {O O' : Nat → Prop} {w w' : World} (h : Nxt O w O' w') {b : Nat} (hb : b < w.heap.size) (hn : ¬ O b) : ¬ O' b := fun h' => (h.new b h').elim hn (fun hl => by omega)

/-- One more holder. -/
theorem LckV.hold {w w2 w3 : World} {c : Nat} {O : Nat → Prop} {s : Qk.St} {hv rv v' : Value} (h : LckV w c O s hv rv) (hb : Below w.heap.size w w2) {x : Nat} (b : Bool)
    (ho : w3.ownsRow 0 3 1 v' (s.hs ++ [x]).length (qn (s.hs ++ [x]))) (hg : w2.grownBy w3 hv.ownBlock) (hw : v'.ownBlock = hv.ownBlock ∨ v'.ownBlock = some w2.heap.size) :
    ∃ O', LckV ((w3.setCell ⟨c, 0, none⟩ v').setCell ⟨c, 1, none⟩ (.bool b)) c O' ⟨s.hs ++ [x], b, s.row⟩ v' rv ∧ Nxt O w O' ((w3.setCell ⟨c, 0, none⟩ v').setCell ⟨c, 1, none⟩ (.bool b)) := by
  have h2 := h.later hb
  have hcl := h2.lt c h2.mine
  have hvc : hv.ownBlock ≠ some c := qo_ne h2.h h2.has (by decide)
  have hrh : ∀ g, rv.ownBlock = some g → hv.ownBlock ≠ some g := fun g hg hg' => qo_ne2 h2.r h2.h (by decide) g hg hg'
  have hrc : rv.ownBlock ≠ some c := qo_ne h2.r h2.has (by decide)
  have hc3 : Has w3 c (.cells #[hv, .bool s.wr, rv] 67 (0, 0)) := (hg.block c hcl (fun e => hvc e.symm)).trans h2.has
  have hc4 := (hc3.setSelf (i := 0) v').setSelf (i := 1) (.bool b)
  have hvc' : v'.ownBlock ≠ some c := qo_ne ho hc3 (by decide)
  have hst : ∀ q, q ≠ c → ((w3.setCell ⟨c, 0, none⟩ v').setCell ⟨c, 1, none⟩ (.bool b)).heap[q]? = w3.heap[q]? := fun q hq => (Below.heap_setCell _ ⟨c, 1, none⟩ _ q hq).trans (Below.heap_setCell w3 ⟨c, 0, none⟩ v' q hq)
  have hz : ((w3.setCell ⟨c, 0, none⟩ v').setCell ⟨c, 1, none⟩ (.bool b)).heap.size = w3.heap.size := by simp
  have hlt' : ∀ g, v'.ownBlock = some g → g < w3.heap.size := fun g hg => (World.ownsRow.lt ho g hg).2
  refine ⟨fun g => O g ∨ v'.ownBlock = some g, ⟨hc4, qo_same ho (fun g hg => hst g (fun e => hvc' (by rw [hg, e]))), qo_same h2.r (fun g hg' => ?_), Or.inl h.mine, fun g hg => Or.inr hg, fun g hg => Or.inl (h.ro g hg), fun g hg => ?_⟩, ⟨⟨?_, ?_, ?_, ?_, fun k hk hn => ?_⟩, fun g hg => ?_⟩⟩
  · rw [hst g (fun e => hrc (by rw [hg', e]))]
    exact hg.block g (World.ownsRow.lt h2.r g hg').2 (fun e => hrh g hg' e.symm)
  · rw [hz]
    rcases hg with hg' | hg'
    · exact Nat.lt_of_lt_of_le (h2.lt g hg') hg.size
    · exact hlt' g hg'
  · exact hg.os.trans hb.os
  · exact hg.tape.trans hb.tape
  · exact hg.output.trans hb.output
  · rw [hz]; exact Nat.le_trans hb.size hg.size
  · rw [hst k (fun e => hn (by rw [e]; exact h.mine)), hg.block k (Nat.lt_of_lt_of_le hk hb.size) (fun e => hn (h.ho k e.symm))]
    exact hb.block k hk
  · rcases hg with hg' | hg'
    · exact Or.inl hg'
    · rcases hw with hw | hw
      · rw [hw] at hg'; exact Or.inl (h.ho g hg')
      · rw [hw] at hg'; cases hg'; exact Or.inr hb.size

/-- One more in the row. -/
theorem LckV.wait {w w2 w3 : World} {c : Nat} {O : Nat → Prop} {s : Qk.St} {hv rv v' : Value} (h : LckV w c O s hv rv) (hb : Below w.heap.size w w2) {x : Nat × Bool}
    (ho : w3.ownsRow 0 70 2 v' (s.row ++ [x]).length (qc (s.row ++ [x]))) (hg : w2.grownBy w3 rv.ownBlock) (hw : v'.ownBlock = rv.ownBlock ∨ v'.ownBlock = some w2.heap.size) :
    ∃ O', LckV (w3.setCell ⟨c, 2, none⟩ v') c O' ⟨s.hs, s.wr, s.row ++ [x]⟩ hv v' ∧ Nxt O w O' (w3.setCell ⟨c, 2, none⟩ v') := by
  have h2 := h.later hb
  have hcl := h2.lt c h2.mine
  have hrc : rv.ownBlock ≠ some c := qo_ne h2.r h2.has (by decide)
  have hhr : ∀ g, hv.ownBlock = some g → rv.ownBlock ≠ some g := fun g hg hg' => qo_ne2 h2.h h2.r (by decide) g hg hg'
  have hhc : hv.ownBlock ≠ some c := qo_ne h2.h h2.has (by decide)
  have hc3 : Has w3 c (.cells #[hv, .bool s.wr, rv] 67 (0, 0)) := (hg.block c hcl (fun e => hrc e.symm)).trans h2.has
  have hc4 := hc3.setSelf (i := 2) v'
  have hvc' : v'.ownBlock ≠ some c := qo_ne ho hc3 (by decide)
  have hst : ∀ q, q ≠ c → (w3.setCell ⟨c, 2, none⟩ v').heap[q]? = w3.heap[q]? := fun q hq => Below.heap_setCell w3 ⟨c, 2, none⟩ v' q hq
  have hz : (w3.setCell ⟨c, 2, none⟩ v').heap.size = w3.heap.size := by simp
  have hlt' : ∀ g, v'.ownBlock = some g → g < w3.heap.size := fun g hg => (World.ownsRow.lt ho g hg).2
  refine ⟨fun g => O g ∨ v'.ownBlock = some g, ⟨hc4, qo_same h2.h (fun g hg' => ?_), qo_same ho (fun g hg => hst g (fun e => hvc' (by rw [hg, e]))), Or.inl h.mine, fun g hg => Or.inl (h.ho g hg), fun g hg => Or.inr hg, fun g hg => ?_⟩, ⟨⟨?_, ?_, ?_, ?_, fun k hk hn => ?_⟩, fun g hg => ?_⟩⟩
  · rw [hst g (fun e => hhc (by rw [hg', e]))]
    exact hg.block g (World.ownsRow.lt h2.h g hg').2 (fun e => hhr g hg' e.symm)
  · rw [hz]
    rcases hg with hg' | hg'
    · exact Nat.lt_of_lt_of_le (h2.lt g hg') hg.size
    · exact hlt' g hg'
  · exact hg.os.trans hb.os
  · exact hg.tape.trans hb.tape
  · exact hg.output.trans hb.output
  · rw [hz]; exact Nat.le_trans hb.size hg.size
  · rw [hst k (fun e => hn (by rw [e]; exact h.mine)), hg.block k (Nat.lt_of_lt_of_le hk hb.size) (fun e => hn (h.ro k e.symm))]
    exact hb.block k hk
  · rcases hg with hg' | hg'
    · exact Or.inl hg'
    · rcases hw with hw | hw
      · rw [hw] at hg'; exact Or.inl (h.ro g hg')
      · rw [hw] at hg'; cases hg'; exact Or.inr hb.size
end Go.Proofs.Ytoipmdemicdhoaa
