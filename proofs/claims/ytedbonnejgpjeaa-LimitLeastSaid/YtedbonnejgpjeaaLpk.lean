/- Packages in memory, as trees; append of one value onto the call's own list. -/
import Derived.Test.YtedbonnejgpjeaaLstab
import Derived.Test.YtedbonnejgpjeaaLtree
import Derived.Test.YtedbonnejgpjeaaLchk
import Derived.Deep.RegionLawGrows
namespace Go.Proofs.Ytedbonnejgpjeaa
open Go.RowKit

/-- Block b holds the package t. -/
def Pk (w : World) : Lm.Tr → Nat → Prop
  | .leaf x s, b => Has w b (.cells #[.int .i64 (x : Int), .int .i64 (s : Int), .pointer none, .pointer none] 55 (0, 0))
  | .node x y, b => ∃ p q, Has w b (.cells #[.int .i64 ((x.wt + y.wt : Nat) : Int), .int .i64 0, .pointer (some ⟨p, 0, none⟩), .pointer (some ⟨q, 0, none⟩)] 55 (0, 0)) ∧ Pk w x p ∧ Pk w y q

theorem Pk.has {w : World} {t : Lm.Tr} {b : Nat} (h : Pk w t b) : ∃ s p q, Has w b (.cells #[.int .i64 (t.wt : Int), s, p, q] 55 (0, 0)) := by
  cases t with
  | leaf x s => exact ⟨_, _, _, h⟩
  | node x y => obtain ⟨p, q, h, _⟩ := h; exact ⟨_, _, _, h⟩
theorem Pk.lt {w : World} {t : Lm.Tr} {b : Nat} (h : Pk w t b) : b < w.heap.size := by obtain ⟨s, p, q, h⟩ := h.has; exact h.lt
theorem Pk.wt {w : World} {t : Lm.Tr} {b : Nat} (h : Pk w t b) : w.cell? ⟨b, 0, none⟩ = some (.int .i64 (t.wt : Int)) := by obtain ⟨s, p, q, h⟩ := h.has; rw [h.cell]; rfl
theorem Pk.later {w w' : World} (hb : Below w.heap.size w w') : ∀ {t : Lm.Tr} {b : Nat}, Pk w t b → Pk w' t b
  | .leaf x s, b, h => Has.later h hb
  | .node x y, b, h => by
    obtain ⟨p, q, h, hx, hy⟩ := h
    exact ⟨p, q, h.later hb, Pk.later hb hx, Pk.later hb hy⟩
/-- What turns a block of another type leaves packages alone. -/
theorem Pk.keep {w w' : World} (hk : ∀ b cs, Has w b (.cells cs 55 (0, 0)) → Has w' b (.cells cs 55 (0, 0))) : ∀ {t : Lm.Tr} {b : Nat}, Pk w t b → Pk w' t b
  | .leaf x s, b, h => hk _ _ h
  | .node x y, b, h => by
    obtain ⟨p, q, h, hx, hy⟩ := h
    exact ⟨p, q, hk _ _ h, Pk.keep hk hx, Pk.keep hk hy⟩
theorem Has.apart {w : World} {b c : Nat} {xs ys : Array Value} {t u : TypeId} {f g : Nat × Nat} (h : Has w b (.cells xs t f)) (k : Has w c (.cells ys u g)) (hne : t ≠ u) : b ≠ c := by
  rintro rfl
  have e : some (Obj.cells xs t f) = some (Obj.cells ys u g) := Eq.trans (Eq.symm h) k
  simp only [Option.some.injEq, Obj.cells.injEq] at e
  exact hne e.2.1
theorem Pk.only {w w' : World} {c : Nat} {ys : Array Value} {u : TypeId} {g : Nat × Nat} (k : Has w c (.cells ys u g)) (hne : 55 ≠ u) (ho : Only c w w') {t : Lm.Tr} {b : Nat} (h : Pk w t b) : Pk w' t b :=
  h.keep fun _ _ h => Has.only h ho (h.apart k hne)

/-- The slice s reads the packages ts. -/
def Pl (w : World) (s : Value) (ts : List Lm.Tr) : Prop :=
  ∃ a len cap, s = .slice a len cap ∧ len = ts.length ∧ len ≤ cap ∧ len ≤ 1024 ∧ (a = none → len = 0 ∧ cap = 0) ∧
    (0 < len → ∃ b off, a = some ⟨b, off, none⟩ ∧ b < w.heap.size ∧ ∀ i t, ts[i]? = some t → ∃ p, w.cell? ⟨b, off + i, none⟩ = some (.pointer (some ⟨p, 0, none⟩)) ∧ Pk w t p)

theorem Pl.later {w w' : World} {s : Value} {ts : List Lm.Tr} (h : Pl w s ts) (hb : Below w.heap.size w w') : Pl w' s ts := by
  obtain ⟨a, len, cap, rfl, h1, h2, h3, h4, h5⟩ := h
  refine ⟨a, len, cap, rfl, h1, h2, h3, h4, fun hl => ?_⟩
  obtain ⟨b, off, rfl, hlt, hc⟩ := h5 hl
  refine ⟨b, off, rfl, Nat.lt_of_lt_of_le hlt hb.size, fun i t hi => ?_⟩
  obtain ⟨p, hp, hk⟩ := hc i t hi
  exact ⟨p, by rw [hb.cell (p := ⟨b, off + i, none⟩) hlt]; exact hp, hk.later hb⟩
theorem Pl.shape {w : World} {s : Value} {ts : List Lm.Tr} (h : Pl w s ts) : ∃ a cap, s = .slice a ts.length cap ∧ ts.length ≤ cap ∧ ts.length ≤ 1024 := by
  obtain ⟨a, len, cap, rfl, rfl, h2, h3, _⟩ := h
  exact ⟨a, cap, rfl, h2, h3⟩
theorem Pl.nil (w : World) : Pl w (.slice none 0 0) [] := ⟨none, 0, 0, rfl, rfl, by omega, by omega, fun _ => ⟨rfl, rfl⟩, fun h => absurd h (by omega)⟩
/-- The first of them. -/
theorem Pl.head {w : World} {a : Option Addr} {n cap : Nat} {t : Lm.Tr} {ts : List Lm.Tr} (h : Pl w (.slice a n cap) (t :: ts)) :
    ∃ b off p, a = some ⟨b, off, none⟩ ∧ b < w.heap.size ∧ w.cell? ⟨b, off, none⟩ = some (.pointer (some ⟨p, 0, none⟩)) ∧ Pk w t p ∧ n ≤ cap ∧ (cap = 1 → Pl w (.slice (some ⟨b, off, none⟩) ts.length (cap - 1)) ts) ∧ Pl w (.slice (some ⟨b, off + 1, none⟩) ts.length (cap - 1)) ts := by
  obtain ⟨a', len, cap', e, h1, h2, h3, h4, h5⟩ := h
  cases e
  simp only [List.length_cons] at h1
  obtain ⟨b, off, rfl, hlt, hc⟩ := h5 (by omega)
  obtain ⟨p, hp, hk⟩ := hc 0 t rfl
  refine ⟨b, off, p, rfl, hlt, hp, hk, h2, fun e => ⟨_, ts.length, cap - 1, rfl, rfl, by omega, by omega, fun h => by simp at h, fun h0 => by omega⟩, _, ts.length, cap - 1, rfl, rfl, by omega, by omega, fun h => by simp at h, fun _ => ⟨b, off + 1, rfl, hlt, fun i u hi => ?_⟩⟩
  have := hc (i + 1) u (by rw [List.getElem?_cons_succ]; exact hi)
  rwa [show off + (i + 1) = off + 1 + i by omega] at this
/-- Its beginning. -/
theorem Pl.take {w : World} {a : Option Addr} {n cap : Nat} {ts : List Lm.Tr} (h : Pl w (.slice a n cap) ts) (m : Nat) (hm : m ≤ ts.length) : Pl w (.slice a m cap) (ts.take m) := by
  obtain ⟨a', len, cap', e, h1, h2, h3, h4, h5⟩ := h
  cases e
  refine ⟨a, m, cap, rfl, by rw [List.length_take]; omega, by omega, by omega, fun e => by have := h4 e; omega, fun h0 => ?_⟩
  obtain ⟨b, off, rfl, hlt, hc⟩ := h5 (by omega)
  refine ⟨b, off, rfl, hlt, fun i t hi => hc i t ?_⟩
  have := (List.getElem?_eq_some_iff.1 hi).1
  rw [List.length_take] at this
  rwa [List.getElem?_take_of_lt (by omega)] at hi

/-- Pointers, as cells. -/
def vp (bs : List Nat) : List Value := bs.map fun b => Value.pointer (some ⟨b, 0, none⟩)
theorem vp_length (bs : List Nat) : (vp bs).length = bs.length := by simp [vp]
theorem vp_snoc (bs : List Nat) (b : Nat) : vp (bs ++ [b]) = vp bs ++ [.pointer (some ⟨b, 0, none⟩)] := by simp [vp]
/-- Numbers, as cells. -/
def vi (xs : List Nat) : List Value := xs.map fun (x : Nat) => Value.int .i64 (x : Int)
theorem vi_length (xs : List Nat) : (vi xs).length = xs.length := by simp [vi]
theorem vi_snoc (xs : List Nat) (x : Nat) : vi (xs ++ [x]) = vi xs ++ [.int .i64 (x : Int)] := by simp [vi]

theorem Try.infoPack : (Try.prog.info? 45).map (fun i => (i.zero, i.size, i.bytes)) = some (some (.pointer none), 1, 8) := by kernel_rfl
theorem Try.infoInt : (Try.prog.info? 3).map (fun i => (i.zero, i.size, i.bytes)) = some (some (.int .i64 0), 1, 8) := by kernel_rfl

/-- An append of one value onto the call's own list: its run. -/
theorem run_app1 (t e : TypeId) (z : Value) (hu : Try.prog.underlying t = some (.slice e)) (hinf : (Try.prog.info? e).map (fun i => (i.zero, i.size, i.bytes)) = some (some z, 1, 8)) (hz : z.cells.size = 1)
    {w : World} {base n : Nat} {v : Value} {xs : List Value} (ty : TypeId) (hown : w.ownsRow base e 1 v n xs) (g : Nat) (x : Value) (hx : x.oneCell' = true) (hc : w.cell? ⟨g, 0, none⟩ = some x) (h1 : n + 1 ≤ 1000000) (hb : base ≤ w.heap.size) :
    ∃ v' w', (Builtin.append_ #[t, t] ty #[v, .slice (some ⟨g, 0, none⟩) 1 1]).run Try.prog w = .ok v' w' ∧ w'.ownsRow base e 1 v' (n + 1) (xs ++ [x]) ∧ w.grownBy w' v.ownBlock := by
  obtain ⟨i0, hi, hz0, hz1, hz2⟩ := info_parts hinf
  obtain ⟨v', w', h1, h2, h3, _⟩ := run_append_own (P := Try.prog) (w := w) base t ty e i0 z 1 8 hu hi hz0 hz1 hz2 hz (by decide) v n xs hown ⟨g, 0, none⟩ 1 1 [x] rfl
    (fun j u hj => by
      match j, hj with
      | 0, hj =>
        simp at hj
        subst hj
        simpa [Addr.add] using hc)
    (fun u hu => by simp at hu; subst hu; exact hx) (by unfold maxLen; omega) (by omega) hb
  exact ⟨v', w', h1, h2, h3⟩

/-- An append whose run is known, as a step. -/
theorem wpList_append_known {P : Program} {w : World} {ops : Array Oper} {rest : List Oper} {o : Oper} {a : Act} {Q : Exit → Act → World → Prop} (hgd : o.guard = none) (s x : Operand) (t : TypeId)
    (hop : o.op = Op.call { callee := Callee.builtin Builtin.append, args := #[s, x], argTypes := #[t, t] }) (S X v : Value) (w' : World) (hs : a.eval s = S) (hx : a.eval x = X)
    (hrun : (Builtin.append_ #[t, t] o.type #[S, X]).run P w = .ok v w') (h : wpList P ops Q rest (a.put o.dst v) w') : wpList P ops Q (o :: rest) a w :=
  wpList_plain hgd fun K hK => by
    unfold Oper.wp
    simp [execOp, hop, resolve, invoke, builtin, hs, hx, hrun, Result.andThen]
    exact hK _ _ h
/-- The same in a region that draws its order. -/
theorem step_append_known {ops : Array Oper} {o : Oper} {a : Act} {w : World} {K : Act → World → Prop} {Q : Exit → Act → World → Prop} {E : Prop}
    (hg : o.guard = none) (s x : Operand) (t : TypeId) (hop : o.op = Op.call { callee := Callee.builtin Builtin.append, args := #[s, x], argTypes := #[t, t] })
    (S X v : Value) (w' : World) (hs : a.eval s = S) (hx : a.eval x = X) (hrun : (Builtin.append_ #[t, t] o.type #[S, X]).run Try.prog w = .ok v w') (hK : K (a.put o.dst v) w') :
    if Region.wanted o (yielded ops a.tmps) = true then Oper.wp Try.prog o a w K Q else E := by
  have hw : Region.wanted o (yielded ops a.tmps) = true := by simp [Region.wanted, hg]
  rw [if_pos hw]
  unfold Oper.wp
  simp [execOp, hop, resolve, invoke, builtin, hs, hx, hrun, Result.andThen]
  exact hK

theorem own_ne_type {w : World} {base n b : Nat} {v : Value} {e : TypeId} {xs : List Value} {cs : Array Value} {fr : Nat × Nat} {t : TypeId} (h : w.ownsRow base e 1 v n xs) (hb : Has w b (.cells cs t fr)) (ht : t ≠ e) : v.ownBlock ≠ some b := by
  rcases h.2 with ⟨rfl, _⟩ | ⟨g, cap, cur, rfl, _, hg, _⟩
  · simp [Value.ownBlock]
  · intro e'
    simp only [Value.ownBlock, Option.some.injEq] at e'
    subst e'
    have hb' : w.heap[g]? = some (.cells cs t fr) := hb
    rw [hg] at hb'
    simp only [Option.some.injEq, Obj.cells.injEq] at hb'
    exact ht hb'.2.1.symm
theorem own_slice {w : World} {base : Nat} {e : TypeId} {size : Nat} {v : Value} {n : Nat} {xs : List Value} (h : w.ownsRow base e size v n xs) : ∃ a cap, v = .slice a n cap := by
  rcases h.2 with ⟨rfl, rfl⟩ | ⟨g, cap, cur, rfl, _⟩
  · exact ⟨_, _, rfl⟩
  · exact ⟨_, _, rfl⟩
theorem own_stays {w w' : World} {base : Nat} {e : TypeId} {size : Nat} {v : Value} {n : Nat} {xs : List Value} (h : w.ownsRow base e size v n xs) (hb : Below w.heap.size w w') : w'.ownsRow base e size v n xs := by
  obtain ⟨h1, h2⟩ := h
  refine ⟨h1, ?_⟩
  rcases h2 with h | ⟨g, c, cur, h, hbg, hg, r⟩
  · exact Or.inl h
  · exact Or.inr ⟨g, c, cur, h, hbg, (hb.block g (lt_of_block hg)).trans hg, r⟩
/-- What an append onto a list of the call's own leaves: packages that were there are. -/
theorem Pk.grown {w w' : World} {base n : Nat} {v : Value} {xs : List Value} (h : w.ownsRow base 45 1 v n xs) (hg : w.grownBy w' v.ownBlock) {t : Lm.Tr} {b : Nat} (hp : Pk w t b) : Pk w' t b :=
  hp.keep fun b _ hb => (hg.block b hb.lt (own_ne_type h hb (by decide)).symm).trans hb
end Go.Proofs.Ytedbonnejgpjeaa
