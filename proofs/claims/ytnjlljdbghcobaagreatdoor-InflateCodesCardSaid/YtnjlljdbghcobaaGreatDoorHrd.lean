/- Contracts of the document's With and Copy. -/
import Derived.Test.YtnjlljdbghcobaaGreatDoorHref
import Derived.Test.YtnjlljdbghcobaaGreatDoorAppm
import Derived.Test.YtnjlljdbghcobaaGreatDoorHnew2
import Derived.Test.YtnjlljdbghcobaaGreatDoorQtail
import Derived.Deep.RegionLawGrows

namespace Go.Proofs.YtnjlljdbghcobaaGreatDoor
set_option maxRecDepth 100000
open Go.RowKit

/-- A slice of the call's own that reads the bytes of some bits. -/
def Row (w : World) (base : Nat) (s : Value) (l : List Bool) : Prop := w.ownsRow base 5 1 s ((l.length + 7) / 8) (vb (Bs.pack l))

theorem Row.sl {w : World} {base : Nat} {s : Value} {l : List Bool} (h : Row w base s l) (hl : l.length ≤ 2251799813685248) : Sl w s (Bs.pack l) :=
  Sl.owned h (Bs.pack_lt l) (by omega)

theorem Row.block {w : World} {base : Nat} {s : Value} {l : List Bool} (h : Row w base s l) (k : Nat) (hk : s.ownBlock = some k) : base ≤ k ∧ k < w.heap.size := by
  rcases h.2 with ⟨rfl, _⟩ | ⟨g, cap, cur, rfl, hb, hg, _⟩
  · simp [Value.ownBlock] at hk
  · simp only [Value.ownBlock, Option.some.injEq] at hk
    subst hk
    exact ⟨hb, (Array.getElem?_eq_some_iff.1 hg).1⟩

theorem own_ne {w : World} {base n b : Nat} {v : Value} {xs : List Value} {cs : Array Value} {fr : Nat × Nat} (h : w.ownsRow base 5 1 v n xs) (hb : Has w b (.cells cs 36 fr)) : v.ownBlock ≠ some b := by
  rcases h.2 with ⟨rfl, _⟩ | ⟨g, cap, cur, rfl, _, hg, _⟩
  · simp [Value.ownBlock]
  · intro e
    simp only [Value.ownBlock, Option.some.injEq] at e
    subst e
    have hb' : w.heap[g]? = some (.cells cs 36 fr) := hb
    rw [hg] at hb'
    simp at hb'

theorem Has.grown {w w' : World} {b : Nat} {o : Obj} {row : Option Nat} (h : Has w b o) (hg : w.grownBy w' row) (hne : some b ≠ row) : Has w' b o := (hg.block b h.lt hne).trans h

theorem World.grownBy_refl' (w : World) (row : Option Nat) : w.grownBy w row := ⟨rfl, rfl, rfl, Nat.le_refl _, fun _ _ _ => rfl⟩

theorem grown_trans {w w1 w2 : World} {row : Option Nat} (h : w.grownBy w1 row) (h2 : w1.grownBy w2 row) : w.grownBy w2 row :=
  ⟨h2.os.trans h.os, h2.tape.trans h.tape, h2.output.trans h.output, Nat.le_trans h.size h2.size, fun k hk hne => (h2.block k (Nat.lt_of_lt_of_le hk h.size) hne).trans (h.block k hk hne)⟩

theorem grown_set {w w1 : World} {row : Option Nat} (h : w.grownBy w1 row) {a : Addr} (ha : w.heap.size ≤ a.block) (v : Value) : w.grownBy (w1.setCell a v) row :=
  ⟨h.os, h.tape, h.output, by have := h.size; simpa [World.setCell] using this, fun k hk hne => (Below.heap_setCell _ _ _ _ (by omega)).trans (h.block k hk hne)⟩

theorem grown_set_own {w w1 : World} {g : Nat} (h : w.grownBy w1 (some g)) (i : Nat) (v : Value) : w.grownBy (w1.setCell ⟨g, i, none⟩ v) (some g) :=
  ⟨h.os, h.tape, h.output, by have := h.size; simpa [World.setCell] using this, fun k hk hne => (Below.heap_setCell _ _ _ _ (by intro e; exact hne (by rw [e]))).trans (h.block k hk hne)⟩

theorem grown_drew {w w1 : World} {row : Option Nat} (h : w.grownBy w1 row) : w.grownBy w1.drew row := ⟨h.os, h.tape, h.output, h.size, h.block⟩

theorem pack_whole (l : List Bool) (b : Bool) (h : l.length % 8 = 0) : Bs.pack (l ++ [b]) = Bs.pack l ++ [b.toNat] := by
  have e : (l.length + 1 + 7) / 8 = (l.length + 7) / 8 + 1 := by omega
  have e2 : (l.length + 7) / 8 = l.length / 8 := by omega
  unfold Bs.pack
  rw [List.length_append, List.length_singleton, e]
  unfold Bs.packTo
  rw [List.range_succ, List.map_append]
  congr 1
  · apply List.map_congr_left
    intro j hj
    rw [List.mem_range] at hj
    rw [Bs.byteAt_snoc, if_neg (by omega)]
  · rw [List.map_singleton, Bs.byteAt_snoc, if_pos e2, e2]
    have : Bs.byteAt l (l.length / 8) = 0 := by
      unfold Bs.byteAt
      rw [List.drop_eq_nil_of_le (by omega)]
      rfl
    rw [this, h]
    simp

theorem pack_part (l : List Bool) (b : Bool) (h : ¬ l.length % 8 = 0) : Bs.pack (l ++ [b]) = (Bs.pack l).set (l.length / 8) (Bs.byteAt l (l.length / 8) + b.toNat * 2 ^ (l.length % 8)) := by
  have e : (l.length + 1 + 7) / 8 = (l.length + 7) / 8 := by omega
  unfold Bs.pack
  rw [List.length_append, List.length_singleton, e, Bs.packTo_snoc]
  congr 1
  have h1 : Bs.byteAt l (l.length / 8) < 2 ^ (l.length % 8) := by
    unfold Bs.byteAt
    refine Nat.lt_of_lt_of_le (Bs.num_lt _) (Nat.pow_le_pow_right (by omega) ?_)
    rw [List.length_take, List.length_drop]
    omega
  rw [Nat.shiftLeft_eq, Nat.or_comm, nat_join (l.length % 8) _ _ (by simp) h1]
  omega

theorem byte_room (l : List Bool) (b : Bool) : Bs.byteAt l (l.length / 8) + b.toNat * 2 ^ (l.length % 8) < 256 := by
  have h1 : Bs.byteAt l (l.length / 8) < 2 ^ (l.length % 8) := by
    unfold Bs.byteAt
    refine Nat.lt_of_lt_of_le (Bs.num_lt _) (Nat.pow_le_pow_right (by omega) ?_)
    rw [List.length_take, List.length_drop]
    omega
  have h2 : b.toNat ≤ 1 := by cases b <;> simp
  have h3 : 2 ^ (l.length % 8) ≤ 2 ^ 7 := Nat.pow_le_pow_right (by omega) (by omega)
  have h4 := Nat.mul_le_mul_right (2 ^ (l.length % 8)) h2
  omega

/-- What With leaves. -/
def WithPost (w : World) (base : Nat) (s : Value) (l : List Bool) (e : Ending) (w' : World) : Prop :=
  ∃ s' : Value, e = .returned (.agg #[s', .int .i64 (l.length : Int)]) ∧ Row w' base s' l ∧ w.grownBy w' s.ownBlock

set_option maxHeartbeats 1000000 in
theorem with_new (s : Value) (l : List Bool) (b : Bool) (base N : Nat) (w : World) (hr : Row w base s l) (hb : base ≤ w.heap.size) (hl : Hid (N = l.length)) (hN : N ≤ 1125899906842000) (h0 : ((N : Int) % 8 == 0) = true) :
    Calls Tryz.prog 42 #[.agg #[s, .int .i64 (N : Int)], .int .i64 (b.toNat : Int)] w (WithPost w base s (l ++ [b])) := by
  have HR := Lib.hid hr
  obtain ⟨i0, hi, hz0, hz1, hz2⟩ := info_parts Tryz.infoU8
  have hb2 : b.toNat < 2 := Bool.toNat_lt b
  clear hr
  go_enter Tryz.func42, Tryz.ntmps42
  have hlen : l.length ≤ 1125899906842000 := by have := hl.out; omega
  go_wp2_with (at_builtin; refine wpList_append_own _ rfl (.tmp 10) (.tmp 13) 22 rfl base 5 i0 (.int .u8 0) 1 1 Tryz.underlying22 hi hz0 hz1 hz2 rfl (by decide) _ _ _ rfl (((HR.out.alloc _).alloc _).alloc _) ⟨w.heap.size + 1 + 1, 0, none⟩ 1 1 [.int .u8 (b.toNat : Int)] rfl rfl ?c1 ?c2 ?c3 ?c4 ?c5 ?_)
  case c1 =>
    have h := cell_one_new ((w.alloc (.cells #[s, .int .i64 (N : Int)] 36)).alloc (.cells #[.slice none 0 0, .int .i64 0] 36)) (.int .u8 (b.toNat : Int)) 5
    simpa using h
  case c2 => intro u hu; simp at hu; subst hu; rfl
  case c3 => unfold maxLen; omega
  case c4 => omega
  case c5 => simp; omega
  · intro v' w' hown hgrow _
    have HO := Lib.hid hown
    have HG := Lib.hid hgrow
    have hsz := hgrow.size
    clear hown hgrow
    obtain ⟨g, cap, hv, hgb⟩ : ∃ g cap, v' = .slice (some ⟨g, 0, none⟩) ((l.length + 7) / 8 + 1) cap ∧ base ≤ g := by
      rcases HO.out.2 with ⟨_, h⟩ | ⟨g, cap, _, h, h2, _⟩
      · omega
      · exact ⟨g, cap, h, h2⟩
    rw [hv] at HO ⊢
    clear hv
    have K1 := Lib.hid ((((Has.new w (.cells #[s, .int .i64 (N : Int)] 36)).alloc (.cells #[.slice none 0 0, .int .i64 0] 36)).alloc (.cells #[.int .u8 (b.toNat : Int)] 5)).grown HG.out (by intro e; have := (HR.out.block _ e.symm).2; omega))
    have K2 := Lib.hid (((Has.new (w.alloc (.cells #[s, .int .i64 (N : Int)] 36)) (.cells #[.slice none 0 0, .int .i64 0] 36)).alloc (.cells #[.int .u8 (b.toNat : Int)] 5)).grown HG.out (by intro e; have := (HR.out.block _ e.symm).2; simp at this; omega))
    have n1 := own_ne HO.out K1.out
    have n2 := own_ne HO.out K2.out
    have k1 := K1.out
    have k2 := K2.out
    simp only [World.size_alloc] at k2 n2
    obtain ⟨c0, c1, f0, f1⟩ := k1.two
    obtain ⟨e0, e1, g0, g1⟩ := k2.two
    have N1 := Lib.hid n1
    have N2 := Lib.hid n2
    clear n1 n2 k1 k2
    go_wp2
    refine bodyPost_ret (v := .agg #[.slice (some ⟨g, 0, none⟩) ((l.length + 7) / 8 + 1) cap, .int .i64 ((N : Int) + 1)]) (by simp [results, Tryz.results42, go_sem, e0, e1]) rfl ⟨.slice (some ⟨g, 0, none⟩) ((l.length + 7) / 8 + 1) cap, ?_, ?_, ?_⟩
    · have e : (((l ++ [b]).length : Nat) : Int) = (N : Int) + 1 := by rw [List.length_append, List.length_singleton, ← hl.out]; rfl
      rw [e]
    · have h := HO.out
      have hm : l.length % 8 = 0 := by rw [beq_iff_eq] at h0; have := hl.out; omega
      have e2 : ((l ++ [b]).length + 7) / 8 = (l.length + 7) / 8 + 1 := by rw [List.length_append, List.length_singleton]; omega
      unfold Row
      rw [e2, pack_whole l b hm, vb_append]
      exact ownsRow_setCell_other (ownsRow_setCell_other (ownsRow_setCell_other (ownsRow_setCell_other h N1.out _) N1.out _) N2.out _) N2.out _
    · have h := grown_trans ((World.grownBy_alloc w (.cells #[s, .int .i64 (N : Int)] 36) s.ownBlock)) (grown_trans (World.grownBy_alloc _ (.cells #[.slice none 0 0, .int .i64 0] 36) s.ownBlock) (grown_trans (World.grownBy_alloc _ (.cells #[.int .u8 (b.toNat : Int)] 5) s.ownBlock) HG.out))
      exact grown_set (grown_set (grown_set (grown_set h (Nat.le_refl _) _) (Nat.le_refl _) _) (Nat.le_succ _) _) (Nat.le_succ _) _

set_option maxHeartbeats 1000000 in
theorem with_mid (g n cap : Nat) (l : List Bool) (b : Bool) (base N : Nat) (w : World) (hr : Row w base (.slice (some ⟨g, 0, none⟩) n cap) l) (_hb : base ≤ w.heap.size) (hl : Hid (N = l.length)) (hN : N ≤ 1125899906842000) (h0 : ((N : Int) % 8 == 0) = false) :
    Calls Tryz.prog 42 #[.agg #[.slice (some ⟨g, 0, none⟩) n cap, .int .i64 (N : Int)], .int .i64 (b.toNat : Int)] w (WithPost w base (.slice (some ⟨g, 0, none⟩) n cap) (l ++ [b])) := by
  have HR := Lib.hid hr
  have hb2 : b.toNat < 2 := Bool.toNat_lt b
  have hgl := (hr.block g rfl).2
  have hg1 : ¬ w.heap.size = g := by omega
  have hg2 : ¬ w.heap.size + 1 = g := by omega
  have hg3 : ¬ g = w.heap.size := by omega
  have hg4 : ¬ g = w.heap.size + 1 := by omega
  obtain ⟨x, hx⟩ : ∃ x, x = Bs.byteAt l (N / 8) := ⟨_, rfl⟩
  have HX := Lib.hid hx
  have hn : n = (l.length + 7) / 8 := by
    rcases hr.2 with ⟨h, _⟩ | ⟨_, _, _, h, _⟩
    · simp at h
    · injection h
  have hm0 : ¬ N % 8 = 0 := by rw [beq_eq_false_iff_ne] at h0; omega
  have hnl : N / 8 < n := by have := hl.out; omega
  have hc : w.cell? ⟨g, N / 8, none⟩ = some (.int .u8 (x : Int)) := by
    have hn' := hl.out
    have h := World.ownsRow.cellAt (hn ▸ hr : w.ownsRow base 5 1 (.slice (some ⟨g, 0, none⟩) n cap) n (vb (Bs.pack l))) (N / 8) (by omega)
    rw [h, vb_get, HX.out]
    unfold Bs.pack
    rw [Bs.packTo_get' _ _ _ (by omega)]
    rfl
  have hf : w.frozen? ⟨g, N / 8, none⟩ = false := World.ownsRow.frozenAt (hn ▸ hr : w.ownsRow base 5 1 (.slice (some ⟨g, 0, none⟩) n cap) n (vb (Bs.pack l))) (N / 8)
  have HN := Lib.hid hn
  clear hr hx hn
  go_enter Tryz.func42, Tryz.ntmps42
  go_wp2
  go_region
  go_wp2
  have e1 : N = l.length := hl.out
  have hbr := byte_room l b
  rw [← e1] at hbr
  have hx := HX.out
  have ev : ((x : Int) + (b.toNat : Int) * 2 ^ (N % 8)) % 256 = ((Bs.byteAt l (N / 8) + b.toNat * 2 ^ (N % 8) : Nat) : Int) := by
    have e : ((b.toNat : Int) * 2 ^ (N % 8)) = ((b.toNat * 2 ^ (N % 8) : Nat) : Int) := by simp
    rw [e, hx]
    generalize b.toNat * 2 ^ (N % 8) = q at hbr
    omega
  rw [ev]
  refine bodyPost_ret (v := .agg #[.slice (some ⟨g, 0, none⟩) n cap, .int .i64 ((N : Int) + 1)]) (by simp [results, Tryz.results42, go_sem]) rfl ⟨.slice (some ⟨g, 0, none⟩) n cap, ?_, ?_, ?_⟩
  · have e : (((l ++ [b]).length : Nat) : Int) = (N : Int) + 1 := by rw [List.length_append, List.length_singleton, ← hl.out]; rfl
    rw [e]
  · have h := (World.ownsRow.stored (HN.out ▸ HR.out : w.ownsRow base 5 1 (.slice (some ⟨g, 0, none⟩) n cap) n (vb (Bs.pack l))) (N / 8) (.int .u8 ((Bs.byteAt l (N / 8) + b.toNat * 2 ^ (N % 8) : Nat) : Int))).1
    have e2 : ((l ++ [b]).length + 7) / 8 = n := by rw [List.length_append, List.length_singleton, HN.out]; omega
    unfold Row
    rw [e2, pack_part l b (by omega), vb_set, ← e1]
    exact ((h.alloc _).alloc _).drew
  · exact grown_drew (grown_trans (grown_set_own (World.grownBy_refl' w (some g)) (N / 8) _) (grown_trans (World.grownBy_alloc _ _ _) (World.grownBy_alloc _ _ _)))
end Go.Proofs.YtnjlljdbghcobaaGreatDoor

/- Contracts of the document's Copy, and of With whatever the row. -/
namespace Go.Proofs.YtnjlljdbghcobaaGreatDoor
set_option maxRecDepth 100000
open Go.RowKit

theorem with_any (s : Value) (l : List Bool) (b : Bool) (base N : Nat) (w : World) (hr : Row w base s l) (hb : base ≤ w.heap.size) (hl : Hid (N = l.length)) (hN : N ≤ 1125899906842000) :
    Calls Tryz.prog 42 #[.agg #[s, .int .i64 (N : Int)], .int .i64 (b.toNat : Int)] w (WithPost w base s (l ++ [b])) := by
  by_cases h0 : N % 8 = 0
  · exact with_new s l b base N w hr hb hl hN (by rw [beq_iff_eq]; omega)
  · have hl' := hl.out
    rcases hr.2 with ⟨_, h⟩ | ⟨g, cap, _, rfl, _⟩
    · omega
    · exact with_mid g _ cap l b base N w hr hb hl hN (by rw [beq_eq_false_iff_ne]; omega)

/-- append to what the call itself owns, from a slice of whatever make, as one step of a region that draws its order. -/
theorem step_append_mine {P : Program} {ops : Array Oper} {o : Oper} {a : Act} {w : World} {K : Act → World → Prop} {Q : Exit → Act → World → Prop} {E : Prop}
    (hg : o.guard = none) (s x : Operand) (t : TypeId) (hop : o.op = Op.call { callee := Callee.builtin Builtin.append, args := #[s, x], argTypes := #[t, t] })
    (base : Nat) (e : TypeId) (i : TypeInfo) (z : Value) (size bytes : Nat) (h1 : P.underlying t = some (.slice e)) (h2 : P.info? e = some i) (h3 : i.zero = some z) (h4 : i.size = size) (h5 : i.bytes = bytes) (h6 : z.cells.size = size) (h7 : 0 < size)
    (g0 cap0 n : Nat) (xs : List Value) (hs : a.eval s = .slice (some ⟨g0, 0, none⟩) n cap0) (hown : w.ownsRow base e size (.slice (some ⟨g0, 0, none⟩) n cap0) n xs)
    (sp : Option Addr) (m c : Nat) (news : List Value) (hx : a.eval x = .slice sp m c) (hn : news.length = m * size) (hsp : sp = none → m = 0 ∧ c = 0) (hc : 0 < m → ∃ ad, sp = some ad ∧ ∀ j u, news[j]? = some u → w.cell? (ad.add j) = some u) (h1c : ∀ u ∈ news, u.oneCell' = true)
    (b1 : n + m ≤ maxLen) (b2 : (n + m) * bytes ≤ 140737488355328) (hbase : base ≤ w.heap.size)
    (hK : ∀ g cap w', Hid (w'.ownsRow base e size (.slice (some ⟨g, 0, none⟩) (n + m) cap) (n + m) (xs ++ news)) → Hid (w.grownBy w' (some g0)) → K (a.put o.dst (.slice (some ⟨g, 0, none⟩) (n + m) cap)) w') :
    if Region.wanted o (yielded ops a.tmps) = true then Oper.wp P o a w K Q else E := by
  have hw : Region.wanted o (yielded ops a.tmps) = true := by simp [Region.wanted, hg]
  rw [if_pos hw]
  obtain ⟨g, cap, w', hrun, r1, r2⟩ := run_append_mine (P := P) (w := w) base t o.type e i z size bytes h1 h2 h3 h4 h5 h6 h7 g0 cap0 n xs hown sp m c news hn hsp hc h1c b1 b2 hbase
  unfold Oper.wp
  simp [execOp, hop, resolve, invoke, builtin, hs, hx, hrun, Result.andThen]
  exact hK g cap w' r1 r2

theorem own_weaken {w : World} {base base' : Nat} {e : TypeId} {size : Nat} {v : Value} {n : Nat} {xs : List Value} (h : w.ownsRow base e size v n xs) (hb : base' ≤ base) : w.ownsRow base' e size v n xs := by
  refine ⟨h.1, ?_⟩
  rcases h.2 with h2 | ⟨g, cap, cur, hv, hg, r⟩
  · exact Or.inl h2
  · exact Or.inr ⟨g, cap, cur, hv, by omega, r⟩

theorem own_len {w : World} {base : Nat} {e : TypeId} {size : Nat} {v : Value} {n n' : Nat} {xs : List Value} (h : w.ownsRow base e size v n xs) (hn : n = n') : w.ownsRow base e size v n' xs := hn ▸ h

/-- What Copy leaves. -/
def CopyPost (w : World) (l : List Bool) (e : Ending) (w' : World) : Prop :=
  ∃ s' : Value, e = .returned (.agg #[s', .int .i64 (l.length : Int)]) ∧ Row w' w.heap.size s' l ∧ Below w.heap.size w w'

set_option maxHeartbeats 1000000 in
theorem copy_any (s : Value) (l : List Bool) (N : Nat) (w : World) (hs : Sl w s (Bs.pack l)) (hl : Hid (N = l.length)) (hN : N ≤ 1125899906842000) :
    Calls Tryz.prog 45 #[.agg #[s, .int .i64 (N : Int)]] w (CopyPost w l) := by
  have HS := Lib.hid hs
  clear hs
  obtain ⟨a, len, cap, rfl, hl'⟩ := HS.out.shape
  rw [Bs.pack_length] at hl'
  have HL := Lib.hid hl'
  obtain ⟨i0, hi, hz0, hz1, hz2⟩ := info_parts Tryz.infoU8
  have hlen : len ≤ 140737488355250 := by have := hl.out; omega
  have hnone := HS.out.len.2.2
  have HN := Lib.hid hnone
  clear hl' hnone
  have A1 : Hid ((((w.alloc (.cells #[.slice a len cap, .int .i64 (N : Int)] 36)).alloc (.cells #[.slice none 0 0, .int .i64 0] 36)).alloc (.cells #[] 5)).drew.ownsRow (w.heap.size + 2) 5 1 (.slice (some ⟨w.heap.size + 2, 0, none⟩) 0 0) 0 []) := by
    have h := World.ownsRow_lit (base := w.heap.size + 2) (e := 5) (size := 1) ((w.alloc (.cells #[.slice a len cap, .int .i64 (N : Int)] 36)).alloc (.cells #[.slice none 0 0, .int .i64 0] 36)) #[] 0 (by simp) (by unfold maxLen; omega) rfl
    simp only [World.size_alloc] at h
    exact h.drew
  have hb3 := below_drewN (below3 w (.cells #[.slice a len cap, .int .i64 (N : Int)] 36) (.cells #[.slice none 0 0, .int .i64 0] 36) (.cells #[] 5)) 1
  have A2 : Hid ((vb (Bs.pack l)).length = len * 1) := by
    show _ = _
    rw [vb_length, Bs.pack_length, HL.out]; omega
  have A3 : Hid (0 < len → ∃ ad, a = some ad ∧ ∀ j u, (vb (Bs.pack l))[j]? = some u → (((w.alloc (.cells #[.slice a len cap, .int .i64 (N : Int)] 36)).alloc (.cells #[.slice none 0 0, .int .i64 0] 36)).alloc (.cells #[] 5)).drew.cell? (ad.add j) = some u) :=
    fun h => (HS.out.later hb3).cells h
  have A4 : Hid (0 + len ≤ maxLen) := by show _ ≤ _; unfold maxLen; omega
  have A5 : Hid ((0 + len) * 1 ≤ 140737488355328) := by show _ ≤ _; omega
  have A6 : Hid (w.heap.size + 2 ≤ (((w.alloc (.cells #[.slice a len cap, .int .i64 (N : Int)] 36)).alloc (.cells #[.slice none 0 0, .int .i64 0] 36)).alloc (.cells #[] 5)).drew.heap.size) := by show _ ≤ _; simp
  have A7 : Hid (Has (((w.alloc (.cells #[.slice a len cap, .int .i64 (N : Int)] 36)).alloc (.cells #[.slice none 0 0, .int .i64 0] 36)).alloc (.cells #[] 5)).drew w.heap.size (.cells #[.slice a len cap, .int .i64 (N : Int)] 36)) :=
    show Has (((w.alloc _).alloc _).alloc _) _ _ from ((Has.new w _).alloc _).alloc _
  have A8 : Hid (Has (((w.alloc (.cells #[.slice a len cap, .int .i64 (N : Int)] 36)).alloc (.cells #[.slice none 0 0, .int .i64 0] 36)).alloc (.cells #[] 5)).drew (w.heap.size + 1) (.cells #[.slice none 0 0, .int .i64 0] 36)) := by
    have h := (Has.new (w.alloc (.cells #[.slice a len cap, .int .i64 (N : Int)] 36)) (.cells #[.slice none 0 0, .int .i64 0] 36)).alloc (.cells #[] 5)
    rw [World.size_alloc] at h
    exact h
  clear hb3
  go_enter Tryz.func45, Tryz.ntmps45
  go_wp2
  go_region_law (refine step_append_mine rfl (.tmp 3) (.tmp 5) 22 rfl (w.heap.size + 2) 5 i0 (.int .u8 0) 1 1 Tryz.underlying22 hi hz0 hz1 hz2 rfl (by decide) (w.heap.size + 2) 0 0 [] (by simp [Act.eval]) A1.out a len cap (vb (Bs.pack l)) (by simp [Act.eval]) A2.out HN.out A3.out (oneCell_vb _) A4.out A5.out A6.out ?_; intro g c w' ho hg; have k1 := A7.out.grown hg.out (by intro e; injection e; omega); have k2 := A8.out.grown hg.out (by intro e; injection e; omega); have cc := k1.two; have dd := k2.two; have c0 := cc.1; have c1 := cc.2.1; have d0 := dd.1; have d1 := dd.2.1; have d2 := dd.2.2.1; have d3 := dd.2.2.2; clear cc dd)
  all_goals
    go_wp2
    refine bodyPost_ret (v := .agg #[.slice (some ⟨g, 0, none⟩) len c, .int .i64 (N : Int)]) (by simp [results, Tryz.results45, go_sem, d0, d1]) rfl ⟨.slice (some ⟨g, 0, none⟩) len c, by rw [hl.out], ?_, ?_⟩
    · have h := own_weaken ho.out (base' := w.heap.size) (by omega)
      have hn1 := own_ne h k1
      have hn2 := own_ne h k2
      have h2 := ownsRow_setCell_other (ownsRow_setCell_other h (a := ⟨w.heap.size + 1, 0, none⟩) hn2 (.slice (some ⟨g, 0, none⟩) len c)) (a := ⟨w.heap.size + 1, 1, none⟩) hn2 (.int .i64 (N : Int))
      unfold Row
      rw [← HL.out]
      simpa using h2
    · have hb := (below3 w (.cells #[.slice a len cap, .int .i64 (N : Int)] 36) (.cells #[.slice none 0 0, .int .i64 0] 36) (.cells #[] 5)).drew.grown hg.out (by simp; omega) (by intro k hk; injection hk; omega)
      exact set2_below hb _ (by omega) _ _
end Go.Proofs.YtnjlljdbghcobaaGreatDoor

/- Contract of the document's Put. -/
namespace Go.Proofs.YtnjlljdbghcobaaGreatDoor
set_option maxRecDepth 100000
open Go.RowKit

theorem Row.shape {w : World} {base : Nat} {s : Value} {l : List Bool} (h : Row w base s l) : ∃ a n cap, s = .slice a n cap := by
  rcases h.2 with ⟨rfl, _⟩ | ⟨g, cap, cur, rfl, _⟩
  · exact ⟨_, _, _, rfl⟩
  · exact ⟨_, _, _, rfl⟩

theorem Row.weaken {w : World} {base base' : Nat} {s : Value} {l : List Bool} (h : Row w base s l) (hb : base' ≤ base) : Row w base' s l := own_weaken h hb

/-- A row's block is not that of a variable of a row's type. -/
theorem Row.ne {w : World} {base b : Nat} {s : Value} {l : List Bool} {cs : Array Value} {fr : Nat × Nat} (h : Row w base s l) (hb : Has w b (.cells cs 36 fr)) : s.ownBlock ≠ some b := own_ne h hb

/-- The value of a variable that holds a row. -/
abbrev rowVar (a : Option Addr) (n cap : Nat) (N : Int) : Obj := .cells #[.slice a n cap, .int .i64 N] 36 (0, 0)

theorem with_is (a : Option Addr) (n cap : Nat) (l : List Bool) (b : Bool) (q : Int) (base N : Nat) (w : World) (hr : Row w base (.slice a n cap) l) (hb : base ≤ w.heap.size) (hl : Hid (N = l.length)) (hN : N ≤ 1125899906842000) (hq : Hid (q = (b.toNat : Int))) :
    Calls Tryz.prog 42 #[.agg #[.slice a n cap, .int .i64 (N : Int)], .int .i64 q] w fun e w' =>
      ∃ a' n' cap', e = .returned (.agg #[.slice a' n' cap', .int .i64 ((N : Int) + 1)]) ∧ Row w' base (.slice a' n' cap') (l ++ [b]) ∧ w.grownBy w' (Value.slice a n cap).ownBlock := by
  rw [hq.out]
  refine (with_any _ l b base N w hr hb hl hN).mono ?_
  rintro e w' ⟨s', rfl, h1, h2⟩
  obtain ⟨a', n', cap', rfl⟩ := h1.shape
  refine ⟨a', n', cap', ?_, h1, h2⟩
  rw [List.length_append, List.length_singleton, ← hl.out]
  rfl

theorem copy_is (a : Option Addr) (n cap : Nat) (l : List Bool) (N : Nat) (w : World) (hs : Sl w (.slice a n cap) (Bs.pack l)) (hl : Hid (N = l.length)) (hN : N ≤ 1125899906842000) :
    Calls Tryz.prog 45 #[.agg #[.slice a n cap, .int .i64 (N : Int)]] w fun e w' =>
      ∃ a' n' cap', e = .returned (.agg #[.slice a' n' cap', .int .i64 (N : Int)]) ∧ Row w' w.heap.size (.slice a' n' cap') l ∧ Below w.heap.size w w' := by
  refine (copy_any _ l N w hs hl hN).mono ?_
  rintro e w' ⟨s', rfl, h1, h2⟩
  obtain ⟨a', n', cap', rfl⟩ := h1.shape
  exact ⟨a', n', cap', by rw [hl.out], h1, h2⟩

/-- A variable's row and the variable itself, behind a step of With that was stored back into it. -/
theorem var_step {w w' : World} {base b : Nat} {a a' : Option Addr} {n n' cap cap' : Nat} {N : Int} {l l' : List Bool} (M : Int)
    (hv : Has w b (rowVar a n cap N)) (hr : Row w base (.slice a n cap) l) (hr' : Row w' base (.slice a' n' cap') l') (hg : w.grownBy w' (Value.slice a n cap).ownBlock) :
    Has w' b (rowVar a n cap N) ∧ Has ((w'.setCell ⟨b, 0, none⟩ (.slice a' n' cap')).setCell ⟨b, 1, none⟩ (.int .i64 M)) b (rowVar a' n' cap' M) ∧
      Row ((w'.setCell ⟨b, 0, none⟩ (.slice a' n' cap')).setCell ⟨b, 1, none⟩ (.int .i64 M)) base (.slice a' n' cap') l' := by
  have h1 : Has w' b (rowVar a n cap N) := hv.grown hg (fun e => hr.ne hv e.symm)
  refine ⟨h1, ?_, ?_⟩
  · have h2 := (h1.setSelf (i := 0) (.slice a' n' cap')).setSelf (i := 1) (.int .i64 M)
    simpa using h2
  · exact ownsRow_setCell_other (ownsRow_setCell_other hr' (hr'.ne h1) _) (hr'.ne h1) _

theorem row_grown_below {w0 w w' : World} {base B : Nat} {s : Value} {l : List Bool} (hr : Row w base s l) (hg : w.grownBy w' s.ownBlock) (hb : Below B w0 w) (hB : B ≤ base) (hs : B ≤ w.heap.size) : Below B w0 w' :=
  hb.grown hg hs fun k hk => Nat.le_trans hB (hr.block k hk).1

/-- What is answered where the document makes a row: it lies in memory of its own. -/
def RowOwn (w : World) (l : List Bool) (e : Ending) (w' : World) : Prop :=
  ∃ a n cap, e = .returned (.tuple #[.agg #[.slice a n cap, .int .i64 (l.length : Int)], .int .i64 0]) ∧ Row w' w.heap.size (.slice a n cap) l ∧ Below w.heap.size w w'

end Go.Proofs.YtnjlljdbghcobaaGreatDoor

/- Contracts of the document's Same, and of what the statements themselves call. -/
namespace Go.Proofs.YtnjlljdbghcobaaGreatDoor
set_option maxRecDepth 100000
open Go.RowKit

/-- A row of bytes as a string. -/
def strB (bs : List Nat) : ByteArray := strOfNums (bs.map fun (x : Nat) => (x : Int))

/-- string(b), whatever the slice. -/
theorem run_string {P : Program} (w : World) (src dst e : TypeId) (hs : P.underlying src = some (.slice e)) (he : P.underlying e = some (.int .u8)) (hd : P.underlying dst = some .string) (a : Option Addr) (len cap : Nat) (bs : List Nat) (h : Sl w (.slice a len cap) bs) :
    (convert src dst (.slice a len cap)).run P w = .ok (.string (strB bs)) w := by
  obtain ⟨a', len', cap', he', h1, h2, h3, h4, h5⟩ := h
  injection he' with e1 e2 e3
  subst e1 e2 e3
  by_cases h0 : 0 < len
  · obtain ⟨b, off, rfl, hlt, hc⟩ := h5 h0
    refine run_convert_bytes_arg w src e hs he b off len cap (bs.map fun (x : Nat) => (x : Int)) (by rw [List.length_map, h1]) (fun i hi => ?_) dst hd
    rw [hc i hi]
    simp [List.getD, List.getElem?_eq_getElem (show i < bs.length by omega)]
  · obtain rfl : len = 0 := by omega
    obtain rfl : bs = [] := List.eq_nil_of_length_eq_zero h1.symm
    cases a with
    | none => exact run_convert_bytes_nil w src e hs he 0 cap dst hd
    | some p =>
      have hl : (loadCells p 0).run P w = .ok (([] : List Int).map (Value.int .u8)).toArray w := by
        have := run_loadCells_list (P := P) w p [] (fun j v hj => by simp at hj)
        simpa using this
      rw [run_convert_bytes_string w src dst e _ 0 cap hs he hd, run_bytesToString w p 0 cap [] hl]
      rfl

theorem Sl.has {w : World} {g : Nat} {bs : List Nat} (h : Has w g (bytesObj bs)) (h8 : ∀ x ∈ bs, x < 256) (hl : bs.length ≤ 281474976710656) (m cap : Nat) (hm : m = bs.length) : Sl w (.slice (some ⟨g, 0, none⟩) m cap) bs := by
  refine ⟨_, m, cap, rfl, hm, by omega, fun h => by simp at h, h8, fun h0 => ⟨g, 0, rfl, h.lt, fun i hi => ?_⟩⟩
  rw [Nat.zero_add, h.cell]
  have : i < bs.length := by omega
  simp [vb, this]

end Go.Proofs.YtnjlljdbghcobaaGreatDoor

/- Contract of Table.Read. -/
namespace Go.Proofs.YtnjlljdbghcobaaGreatDoor
set_option maxRecDepth 100000
open Go.RowKit

set_option maxHeartbeats 1000000 in
theorem read_nil (v : Value) (N : Int) (a : Option Addr) (len cap : Nat) (hv : v = .agg #[.slice a len cap, .int .i64 N]) (p : Int) (w : World) :
    Calls Tryz.prog 212 #[.pointer none, v, .int .i64 p] w fun e w' => e = .returned (.tuple #[.int .i64 0, .int .i64 0, .int .i64 1]) ∧ Below w.heap.size w w' := by
  subst hv
  go_enter Tryz.func212, Tryz.ntmps212
  go_wp2
  go_ret3
  exact ⟨rfl, below1 _ _⟩

theorem cnt_row (ls : List Nat) (k l : Nat) (hl : 0 < l) : cnt (usedTo ls k) l = (Hf.rowTo ls l k).length := by
  induction k with
  | zero => rfl
  | succ k ih =>
    simp only [usedTo, Hf.rowTo, List.length_append]
    rw [← ih]
    have e : Hf.ln ls k = ls[k]?.getD 0 := rfl
    rw [e]
    by_cases h0 : ls[k]?.getD 0 = 0
    · rw [if_pos h0, if_neg (by omega)]; simp
    · rw [if_neg h0, cnt_snoc]
      by_cases h : ls[k]?.getD 0 = l
      · rw [if_pos h.symm, if_pos h]; rfl
      · rw [if_neg (Ne.symm h), if_neg h]; rfl

/-- The lengths are those of a table. -/
def Good (ls : List Nat) : Prop := 0 < (Hf.ordl ls).length ∧ (Hf.ordl ls).length ≤ 288 ∧ (Hf.pf ls (Hf.ordl ls).length = 32768 ∨ ((Hf.ordl ls).length = 1 ∧ Hf.ln ls (Hf.sy ls 0) = 1))
theorem good_of {zs : List Int} (h : newE zs = 0) : Good (nat zs) := by
  unfold newE at h
  by_cases hc : chk zs = 12 ∧ Lone (nat zs)
  · exact ⟨by have := hc.2.1; omega, by have := hc.2.1; omega, Or.inr hc.2⟩
  · rw [if_neg hc] at h
    have hf : Fit zs := Or.inl h
    have hv := hf.valid
    have e : Hf.pf (nat zs) (Hf.ordl (nat zs)).length = 32768 := by
      rw [takes_pf _ (fun i hi => hv.le i hi)]
      unfold chk cmpr at h
      rw [if_pos hv] at h
      by_cases g : 32768 < takes (nat zs)
      · rw [if_pos g] at h; omega
      · rw [if_neg g] at h
        by_cases g2 : takes (nat zs) < 32768
        · rw [if_pos g2] at h; omega
        · omega
    refine ⟨?_, ?_, Or.inl e⟩
    · cases h0 : (Hf.ordl (nat zs)).length with
      | zero => rw [h0] at e; simp [Hf.pf] at e
      | succ n => omega
    · have h1 := Hf.ordl_length_le (nat zs)
      have h2 := hv.2.1
      rw [nat_length] at h1
      omega

/-- What is left where nothing was hit. -/
theorem good_beg {ls : List Nat} (hg : Good ls) {l : List Bool} {p j c : Nat} (hj : j < 15) (h : Hf.Cnt ls l p (j + 1) c) (hm : Hf.mm ls (j + 1) < (Hf.ordl ls).length) : ∃ k, Hf.Beg ls l p (j + 1) k := by
  rcases hg.2.2 with hw | ⟨h1, h2⟩
  · exact Hf.beg hj hw h hm
  · have := (Hf.mm_iff ls (j + 1) 0 (by omega) (by omega)).2 (by omega)
    omega

/-- What a call of Read leaves. -/
def RdPost (w : World) (ls : List Nat) (l : List Bool) (p : Nat) (e : Ending) (w' : World) : Prop :=
  ∃ r : Nat × Nat × Int, e = .returned (.tuple #[.int .i64 (r.1 : Int), .int .i64 (r.2.1 : Int), .int .i64 r.2.2]) ∧ Hf.Rd ls l p 0 r ∧ Below w.heap.size w w'

theorem num_one (l : List Bool) (p : Nat) (hp : p < l.length) : Bs.num ((l.drop p).take 1) = (l[p]?.getD false).toNat := by
  have e : (l.drop p).take 1 = [l[p]?.getD false] := by
    rw [List.getElem?_eq_getElem hp, List.drop_eq_getElem_cons hp]
    rfl
  rw [e]
  simp [Bs.num]

theorem or_bit (c b : Nat) (hc : c < 32768) (hb : b < 2) : bits .or .i64 ((c : Int) * 2) (b : Int) = ((2 * c + b : Nat) : Int) := by
  rw [show ((c : Int) * 2) = ((c * 2 : Nat) : Int) by omega, i64_or_nat _ _ (by omega) (by omega), nat_join 1 _ _ (by omega) (by omega)]
  congr 1
  omega
end Go.Proofs.YtnjlljdbghcobaaGreatDoor
