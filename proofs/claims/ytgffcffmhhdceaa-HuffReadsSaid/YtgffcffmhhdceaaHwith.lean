/- Contracts of the document's With and Copy. -/
import Derived.Test.YtgffcffmhhdceaaHref
namespace Go.Proofs.Ytgffcffmhhdceaa
open Go.RowKit

/-- A slice of the call's own that reads the bytes of some bits. -/
def Row (w : World) (base : Nat) (s : Value) (l : List Bool) : Prop := w.ownsRow base 5 1 s ((l.length + 7) / 8) (vb (Bs.pack l))

theorem Row.sl {w : World} {base : Nat} {s : Value} {l : List Bool} (h : Row w base s l) (hl : l.length ≤ 2251799813685248) : Sl w s (Bs.pack l) :=
  Sl.owned h (Bs.pack_lt l) (by omega)

theorem Row.block {w : World} {base : Nat} {s : Value} {l : List Bool} (h : Row w base s l) (k : Nat) (hk : s.ownBlock = some k) : base ≤ k ∧ k < w.heap.size := by
  rcases h.2 with ⟨rfl, _⟩ | ⟨g, cap, cur, rfl, hb, hg, _⟩
  · simp [Value.ownBlock] at hk
  · simp only [Value.ownBlock, Option.some.injEq] at hk
    subst hk
    exact ⟨hb, (Array.getElem?_eq_some_iff.1 hg).1⟩

theorem own_ne {w : World} {base n b : Nat} {v : Value} {xs : List Value} {cs : Array Value} {fr : Nat × Nat} (h : w.ownsRow base 5 1 v n xs) (hb : Has w b (.cells cs 36 fr)) : v.ownBlock ≠ some b := by
  rcases h.2 with ⟨rfl, _⟩ | ⟨g, cap, cur, rfl, _, hg, _⟩
  · simp [Value.ownBlock]
  · intro e
    simp only [Value.ownBlock, Option.some.injEq] at e
    subst e
    have hb' : w.heap[g]? = some (.cells cs 36 fr) := hb
    rw [hg] at hb'
    simp at hb'

theorem Has.grown {w w' : World} {b : Nat} {o : Obj} {row : Option Nat} (h : Has w b o) (hg : w.grownBy w' row) (hne : some b ≠ row) : Has w' b o := (hg.block b h.lt hne).trans h

theorem World.grownBy_refl' (w : World) (row : Option Nat) : w.grownBy w row := ⟨rfl, rfl, rfl, Nat.le_refl _, fun _ _ _ => rfl⟩

theorem grown_trans {w w1 w2 : World} {row : Option Nat} (h : w.grownBy w1 row) (h2 : w1.grownBy w2 row) : w.grownBy w2 row :=
  ⟨h2.os.trans h.os, h2.tape.trans h.tape, h2.output.trans h.output, Nat.le_trans h.size h2.size, fun k hk hne => (h2.block k (Nat.lt_of_lt_of_le hk h.size) hne).trans (h.block k hk hne)⟩

theorem grown_set {w w1 : World} {row : Option Nat} (h : w.grownBy w1 row) {a : Addr} (ha : w.heap.size ≤ a.block) (v : Value) : w.grownBy (w1.setCell a v) row :=
  ⟨h.os, h.tape, h.output, by have := h.size; simpa [World.setCell] using this, fun k hk hne => (Below.heap_setCell _ _ _ _ (by omega)).trans (h.block k hk hne)⟩

theorem grown_set_own {w w1 : World} {g : Nat} (h : w.grownBy w1 (some g)) (i : Nat) (v : Value) : w.grownBy (w1.setCell ⟨g, i, none⟩ v) (some g) :=
  ⟨h.os, h.tape, h.output, by have := h.size; simpa [World.setCell] using this, fun k hk hne => (Below.heap_setCell _ _ _ _ (by intro e; exact hne (by rw [e]))).trans (h.block k hk hne)⟩

theorem grown_drew {w w1 : World} {row : Option Nat} (h : w.grownBy w1 row) : w.grownBy w1.drew row := ⟨h.os, h.tape, h.output, h.size, h.block⟩

theorem pack_whole (l : List Bool) (b : Bool) (h : l.length % 8 = 0) : Bs.pack (l ++ [b]) = Bs.pack l ++ [b.toNat] := by
  have e : (l.length + 1 + 7) / 8 = (l.length + 7) / 8 + 1 := by omega
  have e2 : (l.length + 7) / 8 = l.length / 8 := by omega
  unfold Bs.pack
  rw [List.length_append, List.length_singleton, e]
  unfold Bs.packTo
  rw [List.range_succ, List.map_append]
  congr 1
  · apply List.map_congr_left
    intro j hj
    rw [List.mem_range] at hj
    rw [Bs.byteAt_snoc, if_neg (by omega)]
  · rw [List.map_singleton, Bs.byteAt_snoc, if_pos e2, e2]
    have : Bs.byteAt l (l.length / 8) = 0 := by
      unfold Bs.byteAt
      rw [List.drop_eq_nil_of_le (by omega)]
      rfl
    rw [this, h]
    simp

theorem pack_part (l : List Bool) (b : Bool) (h : ¬ l.length % 8 = 0) : Bs.pack (l ++ [b]) = (Bs.pack l).set (l.length / 8) (Bs.byteAt l (l.length / 8) + b.toNat * 2 ^ (l.length % 8)) := by
  have e : (l.length + 1 + 7) / 8 = (l.length + 7) / 8 := by omega
  unfold Bs.pack
  rw [List.length_append, List.length_singleton, e, Bs.packTo_snoc]
  congr 1
  have h1 : Bs.byteAt l (l.length / 8) < 2 ^ (l.length % 8) := by
    unfold Bs.byteAt
    refine Nat.lt_of_lt_of_le (Bs.num_lt _) (Nat.pow_le_pow_right (by omega) ?_)
    rw [List.length_take, List.length_drop]
    omega
  rw [Nat.shiftLeft_eq, Nat.or_comm, nat_join (l.length % 8) _ _ (by simp) h1]
  omega

theorem byte_room (l : List Bool) (b : Bool) : Bs.byteAt l (l.length / 8) + b.toNat * 2 ^ (l.length % 8) < 256 := by
  have h1 : Bs.byteAt l (l.length / 8) < 2 ^ (l.length % 8) := by
    unfold Bs.byteAt
    refine Nat.lt_of_lt_of_le (Bs.num_lt _) (Nat.pow_le_pow_right (by omega) ?_)
    rw [List.length_take, List.length_drop]
    omega
  have h2 : b.toNat ≤ 1 := by cases b <;> simp
  have h3 : 2 ^ (l.length % 8) ≤ 2 ^ 7 := Nat.pow_le_pow_right (by omega) (by omega)
  have h4 := Nat.mul_le_mul_right (2 ^ (l.length % 8)) h2
  omega

/-- What With leaves. -/
def WithPost (w : World) (base : Nat) (s : Value) (l : List Bool) (e : Ending) (w' : World) : Prop :=
  ∃ s' : Value, e = .returned (.agg #[s', .int .i64 (l.length : Int)]) ∧ Row w' base s' l ∧ w.grownBy w' s.ownBlock

set_option maxHeartbeats 1000000 in
theorem with_new (s : Value) (l : List Bool) (b : Bool) (base N : Nat) (w : World) (hr : Row w base s l) (hb : base ≤ w.heap.size) (hl : Hid (N = l.length)) (hN : N ≤ 1125899906842000) (h0 : ((N : Int) % 8 == 0) = true) :
    Calls Try.prog 36 #[.agg #[s, .int .i64 (N : Int)], .int .i64 (b.toNat : Int)] w (WithPost w base s (l ++ [b])) := by
  have HR := Lib.hid hr
  obtain ⟨i0, hi, hz0, hz1, hz2⟩ := info_parts Try.infoU8
  have hb2 : b.toNat < 2 := Bool.toNat_lt b
  clear hr
  go_enter Try.func36, Try.ntmps36
  have hlen : l.length ≤ 1125899906842000 := by have := hl.out; omega
  go_wp2_with (at_builtin; refine wpList_append_own _ rfl (.tmp 10) (.tmp 13) 34 rfl base 5 i0 (.int .u8 0) 1 1 Try.underlying34 hi hz0 hz1 hz2 rfl (by decide) _ _ _ rfl (((HR.out.alloc _).alloc _).alloc _) ⟨w.heap.size + 1 + 1, 0, none⟩ 1 1 [.int .u8 (b.toNat : Int)] rfl rfl ?c1 ?c2 ?c3 ?c4 ?c5 ?_)
  case c1 =>
    have h := cell_one_new ((w.alloc (.cells #[s, .int .i64 (N : Int)] 36)).alloc (.cells #[.slice none 0 0, .int .i64 0] 36)) (.int .u8 (b.toNat : Int)) 5
    simpa using h
  case c2 => intro u hu; simp at hu; subst hu; rfl
  case c3 => unfold maxLen; omega
  case c4 => omega
  case c5 => simp; omega
  · intro v' w' hown hgrow _
    have HO := Lib.hid hown
    have HG := Lib.hid hgrow
    have hsz := hgrow.size
    clear hown hgrow
    obtain ⟨g, cap, hv, hgb⟩ : ∃ g cap, v' = .slice (some ⟨g, 0, none⟩) ((l.length + 7) / 8 + 1) cap ∧ base ≤ g := by
      rcases HO.out.2 with ⟨_, h⟩ | ⟨g, cap, _, h, h2, _⟩
      · omega
      · exact ⟨g, cap, h, h2⟩
    rw [hv] at HO ⊢
    clear hv
    have K1 := Lib.hid ((((Has.new w (.cells #[s, .int .i64 (N : Int)] 36)).alloc (.cells #[.slice none 0 0, .int .i64 0] 36)).alloc (.cells #[.int .u8 (b.toNat : Int)] 5)).grown HG.out (by intro e; have := (HR.out.block _ e.symm).2; omega))
    have K2 := Lib.hid (((Has.new (w.alloc (.cells #[s, .int .i64 (N : Int)] 36)) (.cells #[.slice none 0 0, .int .i64 0] 36)).alloc (.cells #[.int .u8 (b.toNat : Int)] 5)).grown HG.out (by intro e; have := (HR.out.block _ e.symm).2; simp at this; omega))
    have n1 := own_ne HO.out K1.out
    have n2 := own_ne HO.out K2.out
    have k1 := K1.out
    have k2 := K2.out
    simp only [World.size_alloc] at k2 n2
    obtain ⟨c0, c1, f0, f1⟩ := k1.two
    obtain ⟨e0, e1, g0, g1⟩ := k2.two
    have N1 := Lib.hid n1
    have N2 := Lib.hid n2
    clear n1 n2 k1 k2
    go_wp2
    refine bodyPost_ret (v := .agg #[.slice (some ⟨g, 0, none⟩) ((l.length + 7) / 8 + 1) cap, .int .i64 ((N : Int) + 1)]) (by simp [results, Try.results36, go_sem, e0, e1]) rfl ⟨.slice (some ⟨g, 0, none⟩) ((l.length + 7) / 8 + 1) cap, ?_, ?_, ?_⟩
    · have e : (((l ++ [b]).length : Nat) : Int) = (N : Int) + 1 := by rw [List.length_append, List.length_singleton, ← hl.out]; rfl
      rw [e]
    · have h := HO.out
      have hm : l.length % 8 = 0 := by rw [beq_iff_eq] at h0; have := hl.out; omega
      have e2 : ((l ++ [b]).length + 7) / 8 = (l.length + 7) / 8 + 1 := by rw [List.length_append, List.length_singleton]; omega
      unfold Row
      rw [e2, pack_whole l b hm, vb_append]
      exact ownsRow_setCell_other (ownsRow_setCell_other (ownsRow_setCell_other (ownsRow_setCell_other h N1.out _) N1.out _) N2.out _) N2.out _
    · have h := grown_trans ((World.grownBy_alloc w (.cells #[s, .int .i64 (N : Int)] 36) s.ownBlock)) (grown_trans (World.grownBy_alloc _ (.cells #[.slice none 0 0, .int .i64 0] 36) s.ownBlock) (grown_trans (World.grownBy_alloc _ (.cells #[.int .u8 (b.toNat : Int)] 5) s.ownBlock) HG.out))
      exact grown_set (grown_set (grown_set (grown_set h (Nat.le_refl _) _) (Nat.le_refl _) _) (Nat.le_succ _) _) (Nat.le_succ _) _

set_option maxHeartbeats 1000000 in
theorem with_mid (g n cap : Nat) (l : List Bool) (b : Bool) (base N : Nat) (w : World) (hr : Row w base (.slice (some ⟨g, 0, none⟩) n cap) l) (_hb : base ≤ w.heap.size) (hl : Hid (N = l.length)) (hN : N ≤ 1125899906842000) (h0 : ((N : Int) % 8 == 0) = false) :
    Calls Try.prog 36 #[.agg #[.slice (some ⟨g, 0, none⟩) n cap, .int .i64 (N : Int)], .int .i64 (b.toNat : Int)] w (WithPost w base (.slice (some ⟨g, 0, none⟩) n cap) (l ++ [b])) := by
  have HR := Lib.hid hr
  have hb2 : b.toNat < 2 := Bool.toNat_lt b
  have hgl := (hr.block g rfl).2
  have hg1 : ¬ w.heap.size = g := by omega
  have hg2 : ¬ w.heap.size + 1 = g := by omega
  have hg3 : ¬ g = w.heap.size := by omega
  have hg4 : ¬ g = w.heap.size + 1 := by omega
  obtain ⟨x, hx⟩ : ∃ x, x = Bs.byteAt l (N / 8) := ⟨_, rfl⟩
  have HX := Lib.hid hx
  have hn : n = (l.length + 7) / 8 := by
    rcases hr.2 with ⟨h, _⟩ | ⟨_, _, _, h, _⟩
    · simp at h
    · injection h
  have hm0 : ¬ N % 8 = 0 := by rw [beq_eq_false_iff_ne] at h0; omega
  have hnl : N / 8 < n := by have := hl.out; omega
  have hc : w.cell? ⟨g, N / 8, none⟩ = some (.int .u8 (x : Int)) := by
    have hn' := hl.out
    have h := World.ownsRow.cellAt (hn ▸ hr : w.ownsRow base 5 1 (.slice (some ⟨g, 0, none⟩) n cap) n (vb (Bs.pack l))) (N / 8) (by omega)
    rw [h, vb_get, HX.out]
    unfold Bs.pack
    rw [Bs.packTo_get' _ _ _ (by omega)]
    rfl
  have hf : w.frozen? ⟨g, N / 8, none⟩ = false := World.ownsRow.frozenAt (hn ▸ hr : w.ownsRow base 5 1 (.slice (some ⟨g, 0, none⟩) n cap) n (vb (Bs.pack l))) (N / 8)
  have HN := Lib.hid hn
  clear hr hx hn
  go_enter Try.func36, Try.ntmps36
  go_wp2
  go_region
  go_wp2
  have e1 : N = l.length := hl.out
  have hbr := byte_room l b
  rw [← e1] at hbr
  have hx := HX.out
  have ev : ((x : Int) + (b.toNat : Int) * 2 ^ (N % 8)) % 256 = ((Bs.byteAt l (N / 8) + b.toNat * 2 ^ (N % 8) : Nat) : Int) := by
    have e : ((b.toNat : Int) * 2 ^ (N % 8)) = ((b.toNat * 2 ^ (N % 8) : Nat) : Int) := by simp
    rw [e, hx]
    generalize b.toNat * 2 ^ (N % 8) = q at hbr
    omega
  rw [ev]
  refine bodyPost_ret (v := .agg #[.slice (some ⟨g, 0, none⟩) n cap, .int .i64 ((N : Int) + 1)]) (by simp [results, Try.results36, go_sem]) rfl ⟨.slice (some ⟨g, 0, none⟩) n cap, ?_, ?_, ?_⟩
  · have e : (((l ++ [b]).length : Nat) : Int) = (N : Int) + 1 := by rw [List.length_append, List.length_singleton, ← hl.out]; rfl
    rw [e]
  · have h := (World.ownsRow.stored (HN.out ▸ HR.out : w.ownsRow base 5 1 (.slice (some ⟨g, 0, none⟩) n cap) n (vb (Bs.pack l))) (N / 8) (.int .u8 ((Bs.byteAt l (N / 8) + b.toNat * 2 ^ (N % 8) : Nat) : Int))).1
    have e2 : ((l ++ [b]).length + 7) / 8 = n := by rw [List.length_append, List.length_singleton, HN.out]; omega
    unfold Row
    rw [e2, pack_part l b (by omega), vb_set, ← e1]
    exact ((h.alloc _).alloc _).drew
  · exact grown_drew (grown_trans (grown_set_own (World.grownBy_refl' w (some g)) (N / 8) _) (grown_trans (World.grownBy_alloc _ _ _) (World.grownBy_alloc _ _ _)))
end Go.Proofs.Ytgffcffmhhdceaa
