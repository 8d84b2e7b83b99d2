/- Contracts of the document's Copy, and of With whatever the row. -/
import Derived.Test.YtgffcffmhhdceaaHwith
import Derived.Deep.RegionLawGrows
namespace Go.Proofs.Ytgffcffmhhdceaa
open Go.RowKit

theorem with_any (s : Value) (l : List Bool) (b : Bool) (base N : Nat) (w : World) (hr : Row w base s l) (hb : base ≤ w.heap.size) (hl : Hid (N = l.length)) (hN : N ≤ 1125899906842000) :
    Calls Try.prog 36 #[.agg #[s, .int .i64 (N : Int)], .int .i64 (b.toNat : Int)] w (WithPost w base s (l ++ [b])) := by
  by_cases h0 : N % 8 = 0
  · exact with_new s l b base N w hr hb hl hN (by rw [beq_iff_eq]; omega)
  · have hl' := hl.out
    rcases hr.2 with ⟨_, h⟩ | ⟨g, cap, _, rfl, _⟩
    · omega
    · exact with_mid g _ cap l b base N w hr hb hl hN (by rw [beq_eq_false_iff_ne]; omega)

theorem run_append_mine {P : Program} {w : World} (base : Nat) (t ty e : TypeId) (i : TypeInfo) (z : Value) (size bytes : Nat) (h1 : P.underlying t = some (.slice e)) (h2 : P.info? e = some i) (h3 : i.zero = some z) (h4 : i.size = size) (h5 : i.bytes = bytes) (h6 : z.cells.size = size) (h7 : 0 < size)
    (g0 cap0 n : Nat) (xs : List Value) (hown : w.ownsRow base e size (.slice (some ⟨g0, 0, none⟩) n cap0) n xs)
    (sp : Option Addr) (m c : Nat) (news : List Value) (hn : news.length = m * size) (hsp : sp = none → m = 0 ∧ c = 0) (hc : 0 < m → ∃ ad, sp = some ad ∧ ∀ j u, news[j]? = some u → w.cell? (ad.add j) = some u) (h1c : ∀ u ∈ news, u.oneCell' = true)
    (b1 : n + m ≤ maxLen) (b2 : (n + m) * bytes ≤ 140737488355328) (hbase : base ≤ w.heap.size) :
    ∃ g cap w', (Builtin.append_ #[t, t] ty #[.slice (some ⟨g0, 0, none⟩) n cap0, .slice sp m c]).run P w = .ok (.slice (some ⟨g, 0, none⟩) (n + m) cap) w' ∧ w'.ownsRow base e size (.slice (some ⟨g, 0, none⟩) (n + m) cap) (n + m) (xs ++ news) ∧ w.grownBy w' (some g0) := by
  cases sp with
  | none =>
    obtain ⟨rfl, rfl⟩ := hsp rfl
    obtain rfl : news = [] := List.eq_nil_of_length_eq_zero (by simpa using hn)
    refine ⟨g0, cap0, w, run_append_owned_none w base t ty e i size h1 h2 _ n xs hown, by simpa using hown, World.grownBy_refl' w (some g0)⟩
  | some ad =>
    have hc' : ∀ j u, news[j]? = some u → w.cell? (ad.add j) = some u := by
      intro j u hj
      have hlt : j < news.length := (List.getElem?_eq_some_iff.1 hj).1
      have hm : 0 < m := by
        rcases Nat.eq_zero_or_pos m with h | h
        · subst h; simp at hn; rw [hn] at hlt; simp at hlt
        · exact h
      obtain ⟨ad', he, h⟩ := hc hm
      injection he with he
      subst he
      exact h j u hj
    obtain ⟨v', w', hrun, r1, r2, r3⟩ := run_append_own (P := P) w base t ty e i z size bytes h1 h2 h3 h4 h5 h6 h7 _ n xs hown ad m c news hn hc' h1c b1 b2 hbase
    have hsh : ∃ g cap, v' = .slice (some ⟨g, 0, none⟩) (n + m) cap := by
      rcases r1.2 with ⟨h, _⟩ | ⟨g, cap, _, h, _⟩
      · have := (r3.1 h).1; simp at this
      · exact ⟨g, cap, h⟩
    obtain ⟨g, cap, rfl⟩ := hsh
    exact ⟨g, cap, w', hrun, r1, r2⟩

/-- append to what the call itself owns, from a slice of whatever make, as one step of a region that draws its order. -/
theorem step_append_mine {P : Program} {ops : Array Oper} {o : Oper} {a : Act} {w : World} {K : Act → World → Prop} {Q : Exit → Act → World → Prop} {E : Prop}
    (hg : o.guard = none) (s x : Operand) (t : TypeId) (hop : o.op = Op.call { callee := Callee.builtin Builtin.append, args := #[s, x], argTypes := #[t, t] })
    (base : Nat) (e : TypeId) (i : TypeInfo) (z : Value) (size bytes : Nat) (h1 : P.underlying t = some (.slice e)) (h2 : P.info? e = some i) (h3 : i.zero = some z) (h4 : i.size = size) (h5 : i.bytes = bytes) (h6 : z.cells.size = size) (h7 : 0 < size)
    (g0 cap0 n : Nat) (xs : List Value) (hs : a.eval s = .slice (some ⟨g0, 0, none⟩) n cap0) (hown : w.ownsRow base e size (.slice (some ⟨g0, 0, none⟩) n cap0) n xs)
    (sp : Option Addr) (m c : Nat) (news : List Value) (hx : a.eval x = .slice sp m c) (hn : news.length = m * size) (hsp : sp = none → m = 0 ∧ c = 0) (hc : 0 < m → ∃ ad, sp = some ad ∧ ∀ j u, news[j]? = some u → w.cell? (ad.add j) = some u) (h1c : ∀ u ∈ news, u.oneCell' = true)
    (b1 : n + m ≤ maxLen) (b2 : (n + m) * bytes ≤ 140737488355328) (hbase : base ≤ w.heap.size)
    (hK : ∀ g cap w', Hid (w'.ownsRow base e size (.slice (some ⟨g, 0, none⟩) (n + m) cap) (n + m) (xs ++ news)) → Hid (w.grownBy w' (some g0)) → K (a.put o.dst (.slice (some ⟨g, 0, none⟩) (n + m) cap)) w') :
    if Region.wanted o (yielded ops a.tmps) = true then Oper.wp P o a w K Q else E := by
  have hw : Region.wanted o (yielded ops a.tmps) = true := by simp [Region.wanted, hg]
  rw [if_pos hw]
  obtain ⟨g, cap, w', hrun, r1, r2⟩ := run_append_mine (P := P) (w := w) base t o.type e i z size bytes h1 h2 h3 h4 h5 h6 h7 g0 cap0 n xs hown sp m c news hn hsp hc h1c b1 b2 hbase
  unfold Oper.wp
  simp [execOp, hop, resolve, invoke, builtin, hs, hx, hrun, Result.andThen]
  exact hK g cap w' r1 r2

theorem own_weaken {w : World} {base base' : Nat} {e : TypeId} {size : Nat} {v : Value} {n : Nat} {xs : List Value} (h : w.ownsRow base e size v n xs) (hb : base' ≤ base) : w.ownsRow base' e size v n xs := by
  refine ⟨h.1, ?_⟩
  rcases h.2 with h2 | ⟨g, cap, cur, hv, hg, r⟩
  · exact Or.inl h2
  · exact Or.inr ⟨g, cap, cur, hv, by omega, r⟩

theorem own_len {w : World} {base : Nat} {e : TypeId} {size : Nat} {v : Value} {n n' : Nat} {xs : List Value} (h : w.ownsRow base e size v n xs) (hn : n = n') : w.ownsRow base e size v n' xs := hn ▸ h

/-- What Copy leaves. -/
def CopyPost (w : World) (l : List Bool) (e : Ending) (w' : World) : Prop :=
  ∃ s' : Value, e = .returned (.agg #[s', .int .i64 (l.length : Int)]) ∧ Row w' w.heap.size s' l ∧ Below w.heap.size w w'

set_option maxHeartbeats 1000000 in
theorem copy_any (s : Value) (l : List Bool) (N : Nat) (w : World) (hs : Sl w s (Bs.pack l)) (hl : Hid (N = l.length)) (hN : N ≤ 1125899906842000) :
    Calls Try.prog 35 #[.agg #[s, .int .i64 (N : Int)]] w (CopyPost w l) := by
  have HS := Lib.hid hs
  clear hs
  obtain ⟨a, len, cap, rfl, hl'⟩ := HS.out.shape
  rw [Bs.pack_length] at hl'
  have HL := Lib.hid hl'
  obtain ⟨i0, hi, hz0, hz1, hz2⟩ := info_parts Try.infoU8
  have hlen : len ≤ 140737488355250 := by have := hl.out; omega
  have hnone := HS.out.len.2.2
  have HN := Lib.hid hnone
  clear hl' hnone
  have A1 : Hid ((((w.alloc (.cells #[.slice a len cap, .int .i64 (N : Int)] 36)).alloc (.cells #[.slice none 0 0, .int .i64 0] 36)).alloc (.cells #[] 5)).drew.ownsRow (w.heap.size + 2) 5 1 (.slice (some ⟨w.heap.size + 2, 0, none⟩) 0 0) 0 []) := by
    have h := World.ownsRow_lit (base := w.heap.size + 2) (e := 5) (size := 1) ((w.alloc (.cells #[.slice a len cap, .int .i64 (N : Int)] 36)).alloc (.cells #[.slice none 0 0, .int .i64 0] 36)) #[] 0 (by simp) (by unfold maxLen; omega) rfl
    simp only [World.size_alloc] at h
    exact h.drew
  have hb3 := below_drewN (below3 w (.cells #[.slice a len cap, .int .i64 (N : Int)] 36) (.cells #[.slice none 0 0, .int .i64 0] 36) (.cells #[] 5)) 1
  have A2 : Hid ((vb (Bs.pack l)).length = len * 1) := by
    show _ = _
    rw [vb_length, Bs.pack_length, HL.out]; omega
  have A3 : Hid (0 < len → ∃ ad, a = some ad ∧ ∀ j u, (vb (Bs.pack l))[j]? = some u → (((w.alloc (.cells #[.slice a len cap, .int .i64 (N : Int)] 36)).alloc (.cells #[.slice none 0 0, .int .i64 0] 36)).alloc (.cells #[] 5)).drew.cell? (ad.add j) = some u) :=
    fun h => (HS.out.later hb3).cells h
  have A4 : Hid (0 + len ≤ maxLen) := by show _ ≤ _; unfold maxLen; omega
  have A5 : Hid ((0 + len) * 1 ≤ 140737488355328) := by show _ ≤ _; omega
  have A6 : Hid (w.heap.size + 2 ≤ (((w.alloc (.cells #[.slice a len cap, .int .i64 (N : Int)] 36)).alloc (.cells #[.slice none 0 0, .int .i64 0] 36)).alloc (.cells #[] 5)).drew.heap.size) := by show _ ≤ _; simp
  have A7 : Hid (Has (((w.alloc (.cells #[.slice a len cap, .int .i64 (N : Int)] 36)).alloc (.cells #[.slice none 0 0, .int .i64 0] 36)).alloc (.cells #[] 5)).drew w.heap.size (.cells #[.slice a len cap, .int .i64 (N : Int)] 36)) :=
    show Has (((w.alloc _).alloc _).alloc _) _ _ from ((Has.new w _).alloc _).alloc _
  have A8 : Hid (Has (((w.alloc (.cells #[.slice a len cap, .int .i64 (N : Int)] 36)).alloc (.cells #[.slice none 0 0, .int .i64 0] 36)).alloc (.cells #[] 5)).drew (w.heap.size + 1) (.cells #[.slice none 0 0, .int .i64 0] 36)) := by
    have h := (Has.new (w.alloc (.cells #[.slice a len cap, .int .i64 (N : Int)] 36)) (.cells #[.slice none 0 0, .int .i64 0] 36)).alloc (.cells #[] 5)
    rw [World.size_alloc] at h
    exact h
  clear hb3
  go_enter Try.func35, Try.ntmps35
  go_wp2
  go_region_law (refine step_append_mine rfl (.tmp 3) (.tmp 5) 34 rfl (w.heap.size + 2) 5 i0 (.int .u8 0) 1 1 Try.underlying34 hi hz0 hz1 hz2 rfl (by decide) (w.heap.size + 2) 0 0 [] (by simp [Act.eval]) A1.out a len cap (vb (Bs.pack l)) (by simp [Act.eval]) A2.out HN.out A3.out (oneCell_vb _) A4.out A5.out A6.out ?_; intro g c w' ho hg; have k1 := A7.out.grown hg.out (by intro e; injection e; omega); have k2 := A8.out.grown hg.out (by intro e; injection e; omega); have cc := k1.two; have dd := k2.two; have c0 := cc.1; have c1 := cc.2.1; have d0 := dd.1; have d1 := dd.2.1; have d2 := dd.2.2.1; have d3 := dd.2.2.2; clear cc dd)
  all_goals
    go_wp2
    refine bodyPost_ret (v := .agg #[.slice (some ⟨g, 0, none⟩) len c, .int .i64 (N : Int)]) (by simp [results, Try.results35, go_sem, d0, d1]) rfl ⟨.slice (some ⟨g, 0, none⟩) len c, by rw [hl.out], ?_, ?_⟩
    · have h := own_weaken ho.out (base' := w.heap.size) (by omega)
      have hn1 := own_ne h k1
      have hn2 := own_ne h k2
      have h2 := ownsRow_setCell_other (ownsRow_setCell_other h (a := ⟨w.heap.size + 1, 0, none⟩) hn2 (.slice (some ⟨g, 0, none⟩) len c)) (a := ⟨w.heap.size + 1, 1, none⟩) hn2 (.int .i64 (N : Int))
      unfold Row
      rw [← HL.out]
      simpa using h2
    · have hb := (below3 w (.cells #[.slice a len cap, .int .i64 (N : Int)] 36) (.cells #[.slice none 0 0, .int .i64 0] 36) (.cells #[] 5)).drew.grown hg.out (by simp; omega) (by intro k hk; injection hk; omega)
      exact set2_below hb _ (by omega) _ _
end Go.Proofs.Ytgffcffmhhdceaa
