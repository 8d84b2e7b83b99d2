/- append onto the call's own row from a slice of whatever make, as a step of a region in one order. -/
import Derived.Test.YtbegehgfdjmibaaMem
import Derived.Deep.RegionLawGrows
namespace Go.Proofs.Ytbegehgfdjmibaa
open Go.RowKit

theorem Try.infoU8 : (Try.prog.info? 5).map (fun i => (i.zero, i.size, i.bytes)) = some (some (.int .u8 0), 1, 1) := by kernel_rfl

theorem run_append_mine {P : Program} {w : World} (base : Nat) (t ty e : TypeId) (i : TypeInfo) (z : Value) (size bytes : Nat) (h1 : P.underlying t = some (.slice e)) (h2 : P.info? e = some i) (h3 : i.zero = some z) (h4 : i.size = size) (h5 : i.bytes = bytes) (h6 : z.cells.size = size) (h7 : 0 < size)
    (g0 cap0 n : Nat) (xs : List Value) (hown : w.ownsRow base e size (.slice (some ⟨g0, 0, none⟩) n cap0) n xs)
    (sp : Option Addr) (m c : Nat) (news : List Value) (hn : news.length = m * size) (hsp : sp = none → m = 0 ∧ c = 0) (hc : 0 < m → ∃ ad, sp = some ad ∧ ∀ j u, news[j]? = some u → w.cell? (ad.add j) = some u) (h1c : ∀ u ∈ news, u.oneCell' = true)
    (b1 : n + m ≤ maxLen) (b2 : (n + m) * bytes ≤ 140737488355328) (hbase : base ≤ w.heap.size) :
    ∃ g cap w', (Builtin.append_ #[t, t] ty #[.slice (some ⟨g0, 0, none⟩) n cap0, .slice sp m c]).run P w = .ok (.slice (some ⟨g, 0, none⟩) (n + m) cap) w' ∧ w'.ownsRow base e size (.slice (some ⟨g, 0, none⟩) (n + m) cap) (n + m) (xs ++ news) ∧ w.grownBy w' (some g0) := by
  cases sp with
  | none =>
    obtain ⟨rfl, rfl⟩ := hsp rfl
    obtain rfl : news = [] := List.eq_nil_of_length_eq_zero (by simpa using hn)
    refine ⟨g0, cap0, w, run_append_owned_none w base t ty e i size h1 h2 _ n xs hown, by simpa using hown, ⟨rfl, rfl, rfl, Nat.le_refl _, fun _ _ _ => rfl⟩⟩
  | some ad =>
    have hc' : ∀ j u, news[j]? = some u → w.cell? (ad.add j) = some u := by
      intro j u hj
      have hlt : j < news.length := (List.getElem?_eq_some_iff.1 hj).1
      have hm : 0 < m := by
        rcases Nat.eq_zero_or_pos m with h | h
        · subst h; simp at hn; rw [hn] at hlt; simp at hlt
        · exact h
      obtain ⟨ad', he, h⟩ := hc hm
      injection he with he
      subst he
      exact h j u hj
    obtain ⟨v', w', hrun, r1, r2, r3⟩ := run_append_own (P := P) w base t ty e i z size bytes h1 h2 h3 h4 h5 h6 h7 _ n xs hown ad m c news hn hc' h1c b1 b2 hbase
    have hsh : ∃ g cap, v' = .slice (some ⟨g, 0, none⟩) (n + m) cap := by
      rcases r1.2 with ⟨h, _⟩ | ⟨g, cap, _, h, _⟩
      · have := (r3.1 h).1; simp at this
      · exact ⟨g, cap, h⟩
    obtain ⟨g, cap, rfl⟩ := hsh
    exact ⟨g, cap, w', hrun, r1, r2⟩

theorem wpList_append_sl {ops : Array Oper} {rest : List Oper} {o : Oper} {a : Act} {w : World} {Q : Exit → Act → World → Prop} (hgd : o.guard = none) (s x : Operand)
    (ho : o.op = .call { callee := .builtin .append, args := #[s, x], argTypes := #[23, 23] })
    (base g0 cap0 n : Nat) (xs : List Value) (hs : a.eval s = .slice (some ⟨g0, 0, none⟩) n cap0) (hown : w.ownsRow base 5 1 (.slice (some ⟨g0, 0, none⟩) n cap0) n xs)
    (sp : Option Addr) (m c : Nat) (bs : List Nat) (hx : a.eval x = .slice sp m c) (hsl : Sl w (.slice sp m c) bs) (hm : n + m ≤ 140737488355328) (hbase : base ≤ w.heap.size)
    (h : ∀ g cap w', Hid (w'.ownsRow base 5 1 (.slice (some ⟨g, 0, none⟩) (n + m) cap) (n + m) (xs ++ vb bs)) → Hid (w.grownBy w' (some g0)) → wpList Try.prog ops Q rest (a.put o.dst (.slice (some ⟨g, 0, none⟩) (n + m) cap)) w') :
    wpList Try.prog ops Q (o :: rest) a w := by
  obtain ⟨i0, hi, hz0, hz1, hz2⟩ := info_parts Try.infoU8
  obtain ⟨hl, hle, hnil⟩ := hsl.len
  obtain ⟨g, cap, w', hrun, r1, r2⟩ := run_append_mine (P := Try.prog) (w := w) base 23 o.type 5 i0 (.int .u8 0) 1 1 Try.underlying23 hi hz0 hz1 hz2 rfl (by decide) g0 cap0 n xs hown sp m c (vb bs)
    (by rw [vb_length]; omega) hnil (fun h0 => hsl.cells h0) (oneCell_vb bs) (by unfold maxLen; omega) (by omega) hbase
  refine wpList_plain hgd fun K hK => ?_
  unfold Oper.wp execOp
  simp only [ho, resolve, invoke, builtin, Sem.run_bind, Sem.run_pure, Result.andThen_ok, List.map_toArray, List.map_cons, List.map_nil, hs, hx, hrun]
  exact hK _ _ (h g cap w' r1 r2)

/-- What the call owns and what is read apart from it: an append onto what it owns leaves the rest as it was. -/
theorem below_grown {B g0 : Nat} {W w w' : World} (hb : Below B W w) (hg : w.grownBy w' (some g0)) (hB : B ≤ g0) (hs : B ≤ w.heap.size) : Below B W w' :=
  hb.grown hg hs (by intro k hk; injection hk; omega)

theorem own_app_zero {w : World} {base : Nat} {e : TypeId} {g c len : Nat} {xs : List Value} (h : w.ownsRow base e 1 (.slice (some ⟨g, 0, none⟩) (0 + len) c) (0 + len) ([] ++ xs)) : w.ownsRow base e 1 (.slice (some ⟨g, 0, none⟩) len c) len xs := by
  simpa using h

theorem own_base {w : World} {base : Nat} {e : TypeId} {g c n : Nat} {xs : List Value} (h : w.ownsRow base e 1 (.slice (some ⟨g, 0, none⟩) n c) n xs) : base ≤ g := by
  rcases h.2 with ⟨h, _⟩ | ⟨g', _, _, h, hb, _⟩
  · simp at h
  · injection h with h1 _ _
    injection h1 with h1
    injection h1 with h1
    omega

theorem Sl.facts {w : World} {s : Value} {bs : List Nat} (h : Sl w s bs) : (∀ x ∈ bs, x < 256) ∧ bs.length ≤ 281474976710656 := by
  obtain ⟨a, len, cap, _, h1, h2, _, h8, _⟩ := h
  exact ⟨h8, h1 ▸ h2⟩

/-- What is owned lies where nothing lay that is read. -/
theorem Sl.grown {g0 : Nat} {w w0 w' : World} {s : Value} {bs : List Nat} (h : Sl w0 s bs) (h0 : Below w0.heap.size w0 w) (hg : w.grownBy w' (some g0)) (hB : w0.heap.size ≤ g0) : Sl w' s bs :=
  h.later (below_grown h0 hg hB h0.size)

end Go.Proofs.Ytbegehgfdjmibaa
