/- A disk in a law: all of it lies beyond where the law began. -/
import Derived.Test.YtillckjohlbaiaaEfil

namespace Go.Proofs.Ytillckjohlbaiaa
set_option maxRecDepth 100000
open Go.RowKit

theorem bytesAt.sl {w : World} {g : Nat} {bs : List Nat} (h : bytesAt w g bs) (h8 : ∀ x ∈ bs, x < 256) (hl : bs.length ≤ 1000000) (n cap : Nat) (hn : n = bs.length) : Sl w (.slice (some ⟨g, 0, none⟩) n cap) bs := by
  refine ⟨_, n, cap, rfl, hn, by omega, fun h => (by cases h), h8, fun _ => ⟨g, 0, rfl, h.lt, fun i hi => ?_⟩⟩
  rw [Nat.zero_add, h.cell, List.getElem?_toArray, vb_get, List.getElem?_eq_getElem (by omega)]
  simp

/-- A disk at block b; what it holds lies from w0's end on, below N. -/
def Lv (w0 w : World) (b : Nat) (d : Ek.Dk) (N : Nat) : Prop :=
  ∃ S : Nat → Prop, Dsk w S b d ∧ (∀ k, S k → w0.heap.size ≤ k ∧ k < N) ∧ N ≤ w.heap.size ∧ Below w0.heap.size w0 w

theorem Lv.ok {w0 w : World} {b : Nat} {d : Ek.Dk} {N : Nat} (h : Lv w0 w b d N) : Ek.Ok d := by
  obtain ⟨S, hd, _⟩ := h
  exact hd.ok
theorem Lv.below {w0 w : World} {b : Nat} {d : Ek.Dk} {N : Nat} (h : Lv w0 w b d N) : Below w0.heap.size w0 w := by
  obtain ⟨S, _, _, _, hb⟩ := h
  exact hb
theorem Lv.later {w0 w w' : World} {b : Nat} {d : Ek.Dk} {N : Nat} (h : Lv w0 w b d N) (hb : Below w.heap.size w w') : Lv w0 w' b d N := by
  obtain ⟨S, hd, hs, hn, hb0⟩ := h
  exact ⟨S, hd.later hb, hs, Nat.le_trans hn hb.size, hb0.trans (hb.mono hb0.size)⟩
theorem Lv.drew {w0 w : World} {b : Nat} {d : Ek.Dk} {N : Nat} (h : Lv w0 w b d N) : Lv w0 w.drew b d N := h.later (below_drewN (Below.refl _ _) 1)
theorem Lv.up {w0 w : World} {b : Nat} {d : Ek.Dk} {N M : Nat} (h : Lv w0 w b d N) (hm : N ≤ M) (hw : M ≤ w.heap.size) : Lv w0 w b d M := by
  obtain ⟨S, hd, hs, hn, hb0⟩ := h
  exact ⟨S, hd, fun k hk => ⟨(hs k hk).1, Nat.lt_of_lt_of_le (hs k hk).2 hm⟩, hw, hb0⟩
theorem Lv.top {w0 w : World} {b : Nat} {d : Ek.Dk} {N : Nat} (h : Lv w0 w b d N) : Lv w0 w b d w.heap.size := by
  obtain ⟨S, hd, hs, hn, hb0⟩ := h
  exact ⟨S, hd, fun k hk => ⟨(hs k hk).1, Nat.lt_of_lt_of_le (hs k hk).2 hn⟩, Nat.le_refl _, hb0⟩
/-- The world has gone on by a call that left all alone that is not the disk's. -/
theorem Lv.base {w0 w1 w : World} {b : Nat} {d : Ek.Dk} {N : Nat} (h : Lv w1 w b d N) (hb : Below w0.heap.size w0 w1) : Lv w0 w b d N := by
  obtain ⟨S, hd, hs, hn, hb0⟩ := h
  exact ⟨S, hd, fun k hk => ⟨Nat.le_trans hb.size (hs k hk).1, (hs k hk).2⟩, hn, hb.trans (hb0.mono hb.size)⟩

/-- What a call leaves of a disk. -/
def LvP (w0 : World) (b : Nat) (d : Ek.Dk) (v : Value) (e : Ending) (w' : World) : Prop := e = .returned v ∧ Lv w0 w' b d w'.heap.size
theorem LvP.of {w0 w w' : World} {b : Nat} {d' : Ek.Dk} {v : Value} {e : Ending} {S : Nat → Prop} {N : Nat} (hs : ∀ k, S k → w0.heap.size ≤ k ∧ k < N) (hn : N ≤ w.heap.size) (hb : Below w0.heap.size w0 w) (h : DP w S b d' v e w') : LvP w0 b d' v e w' := by
  obtain ⟨e1, S', hd, ht, hk⟩ := h
  have h1 := ht.size
  have h0 := hb.size
  refine ⟨e1, S', hd, fun k hk' => ?_, Nat.le_refl _, ht.below hb (fun k hk => (hs k hk).1) h0⟩
  rcases hk k hk' with h | h
  · have := hs k h; exact ⟨this.1, by omega⟩
  · exact ⟨by omega, h.2⟩

theorem lv_write {w0 w : World} {b : Nat} {d : Ek.Dk} {N : Nat} (h : Lv w0 w b d N) (i : Int) (s : Value) (bs : List Nat) (hs : Sl w s bs) (hg : ∀ g off spot len cap, s = .slice (some ⟨g, off, spot⟩) len cap → N ≤ g) (hu : d.used < 1000000) :
    Calls Try.prog 22 #[.pointer (some ⟨b, 0, none⟩), .int .i64 i, s] w (LvP w0 b (Ek.write d i bs) (.int .i64 (Ek.writeE d i bs))) := by
  obtain ⟨S, hd, hS, hn, hb⟩ := h
  exact (write_any w S b d i bs s hd hs (fun g off spot len cap e hk => by have := hg g off spot len cap e; have := (hS g hk).2; omega) hu).mono fun e w' hp => LvP.of hS hn hb hp
theorem lv_sync {w0 w : World} {b : Nat} {d : Ek.Dk} {N : Nat} (h : Lv w0 w b d N) (hu : d.used ≤ 1000) : Calls Try.prog 48 #[.pointer (some ⟨b, 0, none⟩)] w (LvP w0 b (Ek.sync d) (.int .i64 (Ek.changeE d))) := by
  obtain ⟨S, hd, hS, hn, hb⟩ := h
  exact (sync_any w S b d hd hu).mono fun e w' hp => LvP.of hS hn hb hp
theorem lv_crash {w0 w : World} {b : Nat} {d : Ek.Dk} {N : Nat} (h : Lv w0 w b d N) (ksv : Value) (ks : List Int) (hk : Ks w ksv ks) : Calls Try.prog 33 #[.pointer (some ⟨b, 0, none⟩), ksv] w (LvP w0 b (Ek.crash d (Ek.nth ks)) (.int .i64 0)) := by
  obtain ⟨S, hd, hS, hn, hb⟩ := h
  exact (crash_any w S b d ksv ks hd hk).mono fun e w' hp => LvP.of hS hn hb hp
theorem lv_fuse {w0 w : World} {b : Nat} {d : Ek.Dk} {N : Nat} (h : Lv w0 w b d N) (n : Int) (hn9 : n ≤ 9223372036854775807) : Calls Try.prog 31 #[.pointer (some ⟨b, 0, none⟩), .int .i64 n] w (LvP w0 b (Ek.fuse d n) (.tuple #[])) := by
  obtain ⟨S, hd, hS, hn, hb⟩ := h
  exact (fuse_any w S b d n hn9 hd).mono fun e w' hp => LvP.of hS hn hb hp
theorem lv_len {w0 w : World} {b : Nat} {d : Ek.Dk} {N : Nat} (h : Lv w0 w b d N) : Calls Try.prog 16 #[.pointer (some ⟨b, 0, none⟩)] w fun e w' => e = .returned (.int .i64 (d.n : Int)) ∧ w = w' := by
  obtain ⟨S, hd, _⟩ := h
  exact len_any w S b d hd
theorem lv_loose {w0 w : World} {b : Nat} {d : Ek.Dk} {N : Nat} (h : Lv w0 w b d N) : Calls Try.prog 49 #[.pointer (some ⟨b, 0, none⟩)] w fun e w' => e = .returned (.int .i64 (d.loose.length : Int)) ∧ w = w' := by
  obtain ⟨S, hd, _⟩ := h
  exact loose_any w S b d hd
theorem lv_dark {w0 w : World} {b : Nat} {d : Ek.Dk} {N : Nat} (h : Lv w0 w b d N) : Calls Try.prog 51 #[.pointer (some ⟨b, 0, none⟩)] w fun e w' => e = .returned (.bool d.dark) ∧ w = w' := by
  obtain ⟨S, hd, _⟩ := h
  exact dark_any w S b d hd
/-- What Read leaves, in a law. -/
theorem lv_read {w0 w : World} {b : Nat} {d : Ek.Dk} {N : Nat} (h : Lv w0 w b d N) (i : Int) : Calls Try.prog 50 #[.pointer (some ⟨b, 0, none⟩), .int .i64 i] w (RdPost w d i) := by
  obtain ⟨S, hd, _⟩ := h
  exact read_any w S b d i hd
theorem lv_new {w0 w : World} (hb : Below w0.heap.size w0 w) (n : Nat) (h1 : 1 ≤ n) (h2 : n ≤ 8192) : Calls Try.prog 13 #[.int .i64 (n : Int)] w fun e w' => ∃ b, e = .returned (.tuple #[.pointer (some ⟨b, 0, none⟩), .int .i64 0]) ∧ Lv w0 w' b (Ek.fresh n) w'.heap.size :=
  (new_good w n h1 h2).mono fun e w' hp => by
    obtain ⟨b, S, he, hd, hS, hb2⟩ := hp
    exact ⟨b, he, S, hd, fun k hk => ⟨Nat.le_trans hb.size (hS k hk).1, (hS k hk).2⟩, Nat.le_refl _, hb.trans (hb2.mono hb.size)⟩
theorem filled_any (w : World) (c : Nat) (m : Int) : Calls Try.prog 47 #[.int .u8 (c : Int), .int .i64 m] w (FilPost w c (Ek.fln m)) := filled_len w c _ m rfl
/-- filled, then Write. -/
theorem FilPost.sl {w w' : World} {c n : Nat} {e : Ending} (h : FilPost w c n e w') (hn : n ≤ 1000) : Sl w' (.slice (some ⟨w.heap.size, 0, none⟩) n n) (Ek.fil c n) :=
  bytesAt.sl h.2.1 (Ek.fil_small c n) (by rw [Ek.fil_length]; omega) n n (by rw [Ek.fil_length])
end Go.Proofs.Ytillckjohlbaiaa
