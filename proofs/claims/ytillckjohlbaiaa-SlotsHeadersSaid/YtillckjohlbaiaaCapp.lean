/- A disk in a law: all of it lies beyond where the law began. -/
import Derived.Test.YtillckjohlbaiaaEfil
import Derived.Test.YtillckjohlbaiaaEstr
import Derived.Test.YtillckjohlbaiaaAppm
import Derived.Deep.RegionLawGrows

namespace Go.Proofs.Ytillckjohlbaiaa
set_option maxRecDepth 100000
open Go.RowKit

theorem bytesAt.sl {w : World} {g : Nat} {bs : List Nat} (h : bytesAt w g bs) (h8 : ∀ x ∈ bs, x < 256) (hl : bs.length ≤ 1000000) (n cap : Nat) (hn : n = bs.length) : Sl w (.slice (some ⟨g, 0, none⟩) n cap) bs := by
  refine ⟨_, n, cap, rfl, hn, by omega, fun h => (by cases h), h8, fun _ => ⟨g, 0, rfl, h.lt, fun i hi => ?_⟩⟩
  rw [Nat.zero_add, h.cell, List.getElem?_toArray, vb_get, List.getElem?_eq_getElem (by omega)]
  simp

/-- A disk at block b; what it holds lies from w0's end on, below N. -/
def Lv (w0 w : World) (b : Nat) (d : Ek.Dk) (N : Nat) : Prop :=
  ∃ S : Nat → Prop, Dsk w S b d ∧ (∀ k, S k → w0.heap.size ≤ k ∧ k < N) ∧ N ≤ w.heap.size ∧ Below w0.heap.size w0 w

theorem Lv.ok {w0 w : World} {b : Nat} {d : Ek.Dk} {N : Nat} (h : Lv w0 w b d N) : Ek.Ok d := by
  obtain ⟨S, hd, _⟩ := h
  exact hd.ok
theorem Lv.below {w0 w : World} {b : Nat} {d : Ek.Dk} {N : Nat} (h : Lv w0 w b d N) : Below w0.heap.size w0 w := by
  obtain ⟨S, _, _, _, hb⟩ := h
  exact hb
theorem Lv.later {w0 w w' : World} {b : Nat} {d : Ek.Dk} {N : Nat} (h : Lv w0 w b d N) (hb : Below w.heap.size w w') : Lv w0 w' b d N := by
  obtain ⟨S, hd, hs, hn, hb0⟩ := h
  exact ⟨S, hd.later hb, hs, Nat.le_trans hn hb.size, hb0.trans (hb.mono hb0.size)⟩
theorem Lv.drew {w0 w : World} {b : Nat} {d : Ek.Dk} {N : Nat} (h : Lv w0 w b d N) : Lv w0 w.drew b d N := h.later (below_drewN (Below.refl _ _) 1)
theorem Lv.up {w0 w : World} {b : Nat} {d : Ek.Dk} {N M : Nat} (h : Lv w0 w b d N) (hm : N ≤ M) (hw : M ≤ w.heap.size) : Lv w0 w b d M := by
  obtain ⟨S, hd, hs, hn, hb0⟩ := h
  exact ⟨S, hd, fun k hk => ⟨(hs k hk).1, Nat.lt_of_lt_of_le (hs k hk).2 hm⟩, hw, hb0⟩
theorem Lv.top {w0 w : World} {b : Nat} {d : Ek.Dk} {N : Nat} (h : Lv w0 w b d N) : Lv w0 w b d w.heap.size := by
  obtain ⟨S, hd, hs, hn, hb0⟩ := h
  exact ⟨S, hd, fun k hk => ⟨(hs k hk).1, Nat.lt_of_lt_of_le (hs k hk).2 hn⟩, Nat.le_refl _, hb0⟩
/-- The world has gone on by a call that left all alone that is not the disk's. -/
theorem Lv.base {w0 w1 w : World} {b : Nat} {d : Ek.Dk} {N : Nat} (h : Lv w1 w b d N) (hb : Below w0.heap.size w0 w1) : Lv w0 w b d N := by
  obtain ⟨S, hd, hs, hn, hb0⟩ := h
  exact ⟨S, hd, fun k hk => ⟨Nat.le_trans hb.size (hs k hk).1, (hs k hk).2⟩, hn, hb.trans (hb0.mono hb.size)⟩

/-- What a call leaves of a disk. -/
def LvP (w0 : World) (b : Nat) (d : Ek.Dk) (v : Value) (e : Ending) (w' : World) : Prop := e = .returned v ∧ Lv w0 w' b d w'.heap.size
theorem LvP.of {w0 w w' : World} {b : Nat} {d' : Ek.Dk} {v : Value} {e : Ending} {S : Nat → Prop} {N : Nat} (hs : ∀ k, S k → w0.heap.size ≤ k ∧ k < N) (hn : N ≤ w.heap.size) (hb : Below w0.heap.size w0 w) (h : DP w S b d' v e w') : LvP w0 b d' v e w' := by
  obtain ⟨e1, S', hd, ht, hk⟩ := h
  have h1 := ht.size
  have h0 := hb.size
  refine ⟨e1, S', hd, fun k hk' => ?_, Nat.le_refl _, ht.below hb (fun k hk => (hs k hk).1) h0⟩
  rcases hk k hk' with h | h
  · have := hs k h; exact ⟨this.1, by omega⟩
  · exact ⟨by omega, h.2⟩

theorem lv_write {w0 w : World} {b : Nat} {d : Ek.Dk} {N : Nat} (h : Lv w0 w b d N) (i : Int) (s : Value) (bs : List Nat) (hs : Sl w s bs) (hg : ∀ g off spot len cap, s = .slice (some ⟨g, off, spot⟩) len cap → N ≤ g) (hu : d.used < 1000000) :
    Calls Try.prog 22 #[.pointer (some ⟨b, 0, none⟩), .int .i64 i, s] w (LvP w0 b (Ek.write d i bs) (.int .i64 (Ek.writeE d i bs))) := by
  obtain ⟨S, hd, hS, hn, hb⟩ := h
  exact (write_any w S b d i bs s hd hs (fun g off spot len cap e hk => by have := hg g off spot len cap e; have := (hS g hk).2; omega) hu).mono fun e w' hp => LvP.of hS hn hb hp
theorem lv_sync {w0 w : World} {b : Nat} {d : Ek.Dk} {N : Nat} (h : Lv w0 w b d N) (hu : d.used ≤ 1000) : Calls Try.prog 48 #[.pointer (some ⟨b, 0, none⟩)] w (LvP w0 b (Ek.sync d) (.int .i64 (Ek.changeE d))) := by
  obtain ⟨S, hd, hS, hn, hb⟩ := h
  exact (sync_any w S b d hd hu).mono fun e w' hp => LvP.of hS hn hb hp
theorem lv_crash {w0 w : World} {b : Nat} {d : Ek.Dk} {N : Nat} (h : Lv w0 w b d N) (ksv : Value) (ks : List Int) (hk : Ks w ksv ks) : Calls Try.prog 33 #[.pointer (some ⟨b, 0, none⟩), ksv] w (LvP w0 b (Ek.crash d (Ek.nth ks)) (.int .i64 0)) := by
  obtain ⟨S, hd, hS, hn, hb⟩ := h
  exact (crash_any w S b d ksv ks hd hk).mono fun e w' hp => LvP.of hS hn hb hp
theorem lv_fuse {w0 w : World} {b : Nat} {d : Ek.Dk} {N : Nat} (h : Lv w0 w b d N) (n : Int) (hn9 : n ≤ 9223372036854775807) : Calls Try.prog 31 #[.pointer (some ⟨b, 0, none⟩), .int .i64 n] w (LvP w0 b (Ek.fuse d n) (.tuple #[])) := by
  obtain ⟨S, hd, hS, hn, hb⟩ := h
  exact (fuse_any w S b d n hn9 hd).mono fun e w' hp => LvP.of hS hn hb hp
theorem lv_len {w0 w : World} {b : Nat} {d : Ek.Dk} {N : Nat} (h : Lv w0 w b d N) : Calls Try.prog 16 #[.pointer (some ⟨b, 0, none⟩)] w fun e w' => e = .returned (.int .i64 (d.n : Int)) ∧ w = w' := by
  obtain ⟨S, hd, _⟩ := h
  exact len_any w S b d hd
theorem lv_loose {w0 w : World} {b : Nat} {d : Ek.Dk} {N : Nat} (h : Lv w0 w b d N) : Calls Try.prog 49 #[.pointer (some ⟨b, 0, none⟩)] w fun e w' => e = .returned (.int .i64 (d.loose.length : Int)) ∧ w = w' := by
  obtain ⟨S, hd, _⟩ := h
  exact loose_any w S b d hd
theorem lv_dark {w0 w : World} {b : Nat} {d : Ek.Dk} {N : Nat} (h : Lv w0 w b d N) : Calls Try.prog 51 #[.pointer (some ⟨b, 0, none⟩)] w fun e w' => e = .returned (.bool d.dark) ∧ w = w' := by
  obtain ⟨S, hd, _⟩ := h
  exact dark_any w S b d hd
/-- What Read leaves, in a law. -/
theorem lv_read {w0 w : World} {b : Nat} {d : Ek.Dk} {N : Nat} (h : Lv w0 w b d N) (i : Int) : Calls Try.prog 50 #[.pointer (some ⟨b, 0, none⟩), .int .i64 i] w (RdPost w d i) := by
  obtain ⟨S, hd, _⟩ := h
  exact read_any w S b d i hd
theorem lv_new {w0 w : World} (hb : Below w0.heap.size w0 w) (n : Nat) (h1 : 1 ≤ n) (h2 : n ≤ 8192) : Calls Try.prog 13 #[.int .i64 (n : Int)] w fun e w' => ∃ b, e = .returned (.tuple #[.pointer (some ⟨b, 0, none⟩), .int .i64 0]) ∧ Lv w0 w' b (Ek.fresh n) w'.heap.size :=
  (new_good w n h1 h2).mono fun e w' hp => by
    obtain ⟨b, S, he, hd, hS, hb2⟩ := hp
    exact ⟨b, he, S, hd, fun k hk => ⟨Nat.le_trans hb.size (hS k hk).1, (hS k hk).2⟩, Nat.le_refl _, hb.trans (hb2.mono hb.size)⟩
theorem filled_any (w : World) (c : Nat) (m : Int) : Calls Try.prog 47 #[.int .u8 (c : Int), .int .i64 m] w (FilPost w c (Ek.fln m)) := filled_len w c _ m rfl
/-- filled, then Write. -/
theorem FilPost.sl {w w' : World} {c n : Nat} {e : Ending} (h : FilPost w c n e w') (hn : n ≤ 1000) : Sl w' (.slice (some ⟨w.heap.size, 0, none⟩) n n) (Ek.fil c n) :=
  bytesAt.sl h.2.1 (Ek.fil_small c n) (by rw [Ek.fil_length]; omega) n n (by rw [Ek.fil_length])
end Go.Proofs.Ytillckjohlbaiaa

/- append onto the call's own row from a slice of whatever make, as a step of a region in one order. -/
namespace Go.Proofs.Ytillckjohlbaiaa
set_option maxRecDepth 100000
open Go.RowKit


theorem wpList_append_sl {ops : Array Oper} {rest : List Oper} {o : Oper} {a : Act} {w : World} {Q : Exit → Act → World → Prop} (hgd : o.guard = none) (s x : Operand)
    (ho : o.op = .call { callee := .builtin .append, args := #[s, x], argTypes := #[22, 22] })
    (base g0 cap0 n : Nat) (xs : List Value) (hs : a.eval s = .slice (some ⟨g0, 0, none⟩) n cap0) (hown : w.ownsRow base 5 1 (.slice (some ⟨g0, 0, none⟩) n cap0) n xs)
    (sp : Option Addr) (m c : Nat) (bs : List Nat) (hx : a.eval x = .slice sp m c) (hsl : Sl w (.slice sp m c) bs) (hm : n + m ≤ 140737488355328) (hbase : base ≤ w.heap.size)
    (h : ∀ g cap w', Hid (w'.ownsRow base 5 1 (.slice (some ⟨g, 0, none⟩) (n + m) cap) (n + m) (xs ++ vb bs)) → Hid (w.grownBy w' (some g0)) → wpList Try.prog ops Q rest (a.put o.dst (.slice (some ⟨g, 0, none⟩) (n + m) cap)) w') :
    wpList Try.prog ops Q (o :: rest) a w := by
  obtain ⟨i0, hi, hz0, hz1, hz2⟩ := info_parts Try.infoU8
  obtain ⟨hl, hle, hnil⟩ := hsl.len
  obtain ⟨g, cap, w', hrun, r1, r2⟩ := run_append_mine (P := Try.prog) (w := w) base 22 o.type 5 i0 (.int .u8 0) 1 1 Try.underlying22 hi hz0 hz1 hz2 rfl (by decide) g0 cap0 n xs hown sp m c (vb bs)
    (by rw [vb_length]; omega) hnil (fun h0 => hsl.cells h0) (oneCell_vb bs) (by unfold maxLen; omega) (by omega) hbase
  refine wpList_plain hgd fun K hK => ?_
  unfold Oper.wp execOp
  simp only [ho, resolve, invoke, builtin, Sem.run_bind, Sem.run_pure, Result.andThen_ok, List.map_toArray, List.map_cons, List.map_nil, hs, hx, hrun]
  exact hK _ _ (h g cap w' r1 r2)

/-- What the call owns and what is read apart from it: an append onto what it owns leaves the rest as it was. -/
theorem below_grown {B g0 : Nat} {W w w' : World} (hb : Below B W w) (hg : w.grownBy w' (some g0)) (hB : B ≤ g0) (hs : B ≤ w.heap.size) : Below B W w' :=
  hb.grown hg hs (by intro k hk; injection hk; omega)

theorem own_app_zero {w : World} {base : Nat} {e : TypeId} {g c len : Nat} {xs : List Value} (h : w.ownsRow base e 1 (.slice (some ⟨g, 0, none⟩) (0 + len) c) (0 + len) ([] ++ xs)) : w.ownsRow base e 1 (.slice (some ⟨g, 0, none⟩) len c) len xs := by
  simpa using h

theorem own_base {w : World} {base : Nat} {e : TypeId} {g c n : Nat} {xs : List Value} (h : w.ownsRow base e 1 (.slice (some ⟨g, 0, none⟩) n c) n xs) : base ≤ g := by
  rcases h.2 with ⟨h, _⟩ | ⟨g', _, _, h, hb, _⟩
  · simp at h
  · injection h with h1 _ _
    injection h1 with h1
    injection h1 with h1
    omega

theorem Sl.facts {w : World} {s : Value} {bs : List Nat} (h : Sl w s bs) : (∀ x ∈ bs, x < 256) ∧ bs.length ≤ 281474976710656 := by
  obtain ⟨a, len, cap, _, h1, h2, _, h8, _⟩ := h
  exact ⟨h8, h1 ▸ h2⟩

/-- What is owned lies where nothing lay that is read. -/
theorem Sl.grown {g0 : Nat} {w w0 w' : World} {s : Value} {bs : List Nat} (h : Sl w0 s bs) (h0 : Below w0.heap.size w0 w) (hg : w.grownBy w' (some g0)) (hB : w0.heap.size ≤ g0) : Sl w' s bs :=
  h.later (below_grown h0 hg hB h0.size)

/-- append of one byte onto the call's own row, as one step of a region that draws its order. -/
theorem step_append_byte {ops : Array Oper} {o : Oper} {a : Act} {w : World} {K : Act → World → Prop} {Q : Exit → Act → World → Prop} {E : Prop}
    (hg : o.guard = none) (s x : Operand) (hop : o.op = Op.call { callee := Callee.builtin Builtin.append, args := #[s, x], argTypes := #[22, 22] })
    (base : Nat) (v : Value) (n : Nat) (bs : List Nat) (hs : a.eval s = v) (hown : w.ownsRow base 5 1 v n (vb bs))
    (g y : Nat) (hx : a.eval x = .slice (some ⟨g, 0, none⟩) 1 1) (hc : w.cell? ⟨g, 0, none⟩ = some (.int .u8 (y : Int))) (b1 : n + 1 ≤ 140737488355328) (hbase : base ≤ w.heap.size)
    (hK : ∀ v' w', Hid (w'.ownsRow base 5 1 v' (n + 1) (vb (bs ++ [y]))) → Hid (w.grownBy w' v.ownBlock) → K (a.put o.dst v') w') :
    if Region.wanted o (yielded ops a.tmps) = true then Oper.wp Try.prog o a w K Q else E := by
  have hw : Region.wanted o (yielded ops a.tmps) = true := by simp [Region.wanted, hg]
  rw [if_pos hw]
  obtain ⟨i0, hi, hz0, hz1, hz2⟩ := info_parts Try.infoU8
  refine wp_append_own w s x 22 hop base 5 i0 (.int .u8 0) 1 1 Try.underlying22 hi hz0 hz1 hz2 rfl (by decide) v n (vb bs) hs hown ⟨g, 0, none⟩ 1 1 [.int .u8 (y : Int)] hx rfl ?_ ?_ (by unfold maxLen; omega) (by omega) hbase ?_
  · intro j u hj
    match j, hj with
    | 0, hj =>
      simp at hj
      subst hj
      simpa [Addr.add] using hc
  · intro u hu
    simp at hu
    subst hu
    rfl
  · intro v' w' h2 h3 _
    refine hK v' w' ?_ h3
    show World.ownsRow _ _ _ _ _ _ _
    rw [vb_append]
    exact h2

/-- All that was there is as it was, and v reads l. -/
def Kept (w wx : World) (v : Value) (l : List Nat) : Prop := Below w.heap.size w wx ∧ Sl wx v l

theorem kept_drewN {w wx : World} {v : Value} {l : List Nat} (h : Kept w wx v l) (n : Nat) : Kept w (wx.drewN n) v l :=
  ⟨below_drewN h.1 n, h.2⟩
theorem kept_drew {w wx : World} {v : Value} {l : List Nat} (h : Kept w wx v l) : Kept w wx.drew v l := kept_drewN h 1

theorem kept_below {w wx w' : World} {v : Value} {l : List Nat} (h : Kept w wx v l) (hb : Below wx.heap.size wx w') : Kept w w' v l :=
  ⟨h.1.trans (hb.mono h.1.size), h.2.later hb⟩

theorem Sl.take {w : World} {a : Option Addr} {len cap : Nat} {bs : List Nat} (h : Sl w (.slice a len cap) bs) (k : Nat) (hk : k ≤ len) : Sl w (.slice a k cap) (bs.take k) := by
  obtain ⟨a', len', cap', he, h1, h2, h3, h4, h5⟩ := h
  injection he with e1 e2 e3
  subst e1 e2 e3
  refine ⟨_, k, cap, rfl, by rw [List.length_take]; omega, by omega, fun h => ⟨by have := (h3 h).1; omega, (h3 h).2⟩, fun x hx => h4 x (List.mem_of_mem_take hx), fun h0 => ?_⟩
  obtain ⟨b, off, rfl, hlt, hc⟩ := h5 (by omega)
  refine ⟨b, off, rfl, hlt, fun i hi => ?_⟩
  rw [hc i (by omega), List.getElem?_take_of_lt hi]

theorem Sl.drew {w : World} {s : Value} {bs : List Nat} (h : Sl w s bs) : Sl w.drew s bs := h

theorem Sl.at {w : World} {a : Option Addr} {len cap : Nat} {bs : List Nat} (h : Sl w (.slice a len cap) bs) (k : Nat) (hk : k < len) :
    ∃ b off, a = some ⟨b, off, none⟩ ∧ b < w.heap.size ∧ w.cell? ⟨b, off + k, none⟩ = some (.int .u8 ((bs[k]?.getD 0 : Nat) : Int)) ∧ bs[k]?.getD 0 < 256 ∧ k < bs.length := by
  obtain ⟨a', len', cap', he, h1, h2, h3, h4, h5⟩ := h
  injection he with e1 e2 e3
  subst e1 e2 e3
  obtain ⟨b, off, rfl, hlt, hc⟩ := h5 (by omega)
  refine ⟨b, off, rfl, hlt, hc k hk, ?_, by omega⟩
  rw [List.getElem?_eq_getElem (by omega)]
  exact h4 _ (List.getElem_mem _)

end Go.Proofs.Ytillckjohlbaiaa
