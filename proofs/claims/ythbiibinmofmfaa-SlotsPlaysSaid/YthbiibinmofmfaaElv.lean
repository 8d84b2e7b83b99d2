/- append onto the call's own row, from a slice of whatever make. -/
import Derived.Test.YthbiibinmofmfaaEstr
import Derived.Test.YthbiibinmofmfaaEnew
import Derived.Deep.RegionLawGrows

namespace Go.Proofs.Ythbiibinmofmfaa
set_option maxRecDepth 100000
open Go.RowKit

theorem Try.infoU8 : (Try.prog.info? 5).map (fun i => (i.zero, i.size, i.bytes)) = some (some (.int .u8 0), 1, 1) := by kernel_rfl

theorem run_append_mine {P : Program} {w : World} (base : Nat) (t ty e : TypeId) (i : TypeInfo) (z : Value) (size bytes : Nat) (h1 : P.underlying t = some (.slice e)) (h2 : P.info? e = some i) (h3 : i.zero = some z) (h4 : i.size = size) (h5 : i.bytes = bytes) (h6 : z.cells.size = size) (h7 : 0 < size)
    (g0 cap0 n : Nat) (xs : List Value) (hown : w.ownsRow base e size (.slice (some ⟨g0, 0, none⟩) n cap0) n xs)
    (sp : Option Addr) (m c : Nat) (news : List Value) (hn : news.length = m * size) (hsp : sp = none → m = 0 ∧ c = 0) (hc : 0 < m → ∃ ad, sp = some ad ∧ ∀ j u, news[j]? = some u → w.cell? (ad.add j) = some u) (h1c : ∀ u ∈ news, u.oneCell' = true)
    (b1 : n + m ≤ maxLen) (b2 : (n + m) * bytes ≤ 140737488355328) (hbase : base ≤ w.heap.size) :
    ∃ g cap w', (Builtin.append_ #[t, t] ty #[.slice (some ⟨g0, 0, none⟩) n cap0, .slice sp m c]).run P w = .ok (.slice (some ⟨g, 0, none⟩) (n + m) cap) w' ∧ w'.ownsRow base e size (.slice (some ⟨g, 0, none⟩) (n + m) cap) (n + m) (xs ++ news) ∧ w.grownBy w' (some g0) := by
  cases sp with
  | none =>
    obtain ⟨rfl, rfl⟩ := hsp rfl
    obtain rfl : news = [] := List.eq_nil_of_length_eq_zero (by simpa using hn)
    refine ⟨g0, cap0, w, run_append_owned_none w base t ty e i size h1 h2 _ n xs hown, by simpa using hown, ⟨rfl, rfl, rfl, Nat.le_refl _, fun _ _ _ => rfl⟩⟩
  | some ad =>
    have hc' : ∀ j u, news[j]? = some u → w.cell? (ad.add j) = some u := by
      intro j u hj
      have hlt : j < news.length := (List.getElem?_eq_some_iff.1 hj).1
      have hm : 0 < m := by
        rcases Nat.eq_zero_or_pos m with h | h
        · subst h; simp at hn; rw [hn] at hlt; simp at hlt
        · exact h
      obtain ⟨ad', he, h⟩ := hc hm
      injection he with he
      subst he
      exact h j u hj
    obtain ⟨v', w', hrun, r1, r2, r3⟩ := run_append_own (P := P) w base t ty e i z size bytes h1 h2 h3 h4 h5 h6 h7 _ n xs hown ad m c news hn hc' h1c b1 b2 hbase
    have hsh : ∃ g cap, v' = .slice (some ⟨g, 0, none⟩) (n + m) cap := by
      rcases r1.2 with ⟨h, _⟩ | ⟨g, cap, _, h, _⟩
      · have := (r3.1 h).1; simp at this
      · exact ⟨g, cap, h⟩
    obtain ⟨g, cap, rfl⟩ := hsh
    exact ⟨g, cap, w', hrun, r1, r2⟩

end Go.Proofs.Ythbiibinmofmfaa

/- Contract of valiselaw11.filled. -/
namespace Go.Proofs.Ythbiibinmofmfaa
set_option maxRecDepth 100000
open Go.RowKit

namespace Ek
/-- n bytes, each one more than the one ahead. -/
def fil (c n : Nat) : List Nat := (List.range n).map fun i => (c + i) % 256
theorem fil_length (c n : Nat) : (fil c n).length = n := by simp [fil]
theorem fil_small (c n : Nat) : ∀ x ∈ fil c n, x < 256 := by
  intro x hx
  simp only [fil, List.mem_map] at hx
  obtain ⟨i, _, rfl⟩ := hx
  omega
theorem fil_row (c : Nat) : Row (fil c 512) := ⟨fil_length c 512, fil_small c 512⟩
/-- How many bytes. -/
def fln (m : Int) : Nat := if -3 < m ∧ m < 3 then (512 + m).toNat else 512
theorem fln_le (m : Int) : 510 ≤ fln m ∧ fln m ≤ 514 := by unfold fln; split <;> omega
/-- The first k of n are filled. -/
def filTo (c k n : Nat) : List Nat := (List.range n).map fun i => if i < k then (c + i) % 256 else 0
theorem filTo_length (c k n : Nat) : (filTo c k n).length = n := by simp [filTo]
theorem filTo_zero (c n : Nat) : filTo c 0 n = List.replicate n 0 := by
  apply List.ext_getElem?
  intro i
  by_cases h : i < n
  · simp [filTo, h]
  · rw [List.getElem?_eq_none (by rw [filTo_length]; omega), List.getElem?_eq_none (by simp; omega)]
theorem filTo_full (c n : Nat) : filTo c n n = fil c n := by
  apply List.map_congr_left
  intro i hi
  rw [if_pos (by simpa using hi)]
theorem filTo_step (c k n : Nat) (hk : k < n) : (filTo c k n).set k ((c + k) % 256) = filTo c (k + 1) n := by
  apply List.ext_getElem?
  intro i
  rw [List.getElem?_set]
  by_cases h : k = i
  · subst h
    simp [filTo, hk]
  · rw [if_neg h]
    by_cases hi : i < n
    · simp only [filTo, List.getElem?_map, List.getElem?_range hi, Option.map_some]
      congr 1
      by_cases h2 : i < k
      · rw [if_pos h2, if_pos (by omega)]
      · rw [if_neg h2, if_neg (by omega)]
    · rw [List.getElem?_eq_none (by rw [filTo_length]; omega), List.getElem?_eq_none (by rw [filTo_length]; omega)]
end Ek

/-- A block that holds bytes. -/
def bytesAt (w : World) (g : Nat) (bs : List Nat) : Prop := Has w g (.cells (vb bs).toArray 5 (0, 0))

/-- What filled leaves. -/
def FilPost (w : World) (c : Nat) (n : Nat) (e : Ending) (w' : World) : Prop :=
  e = .returned (.slice (some ⟨w.heap.size, 0, none⟩) n n) ∧ bytesAt w' w.heap.size (Ek.fil c n) ∧ Below w.heap.size w w' ∧ w.heap.size < w'.heap.size

theorem made_bytes (n : Nat) : madeCells #[Value.int .u8 0] n = (vb (List.replicate n 0)).toArray := by
  apply Array.toList_inj.1
  rw [toList_madeCells_one]
  simp [vb]

end Go.Proofs.Ythbiibinmofmfaa

/- A disk in a law: all of it lies beyond where the law began. -/
namespace Go.Proofs.Ythbiibinmofmfaa
set_option maxRecDepth 100000
open Go.RowKit

theorem bytesAt.sl {w : World} {g : Nat} {bs : List Nat} (h : bytesAt w g bs) (h8 : ∀ x ∈ bs, x < 256) (hl : bs.length ≤ 1000000) (n cap : Nat) (hn : n = bs.length) : Sl w (.slice (some ⟨g, 0, none⟩) n cap) bs := by
  refine ⟨_, n, cap, rfl, hn, by omega, fun h => (by cases h), h8, fun _ => ⟨g, 0, rfl, h.lt, fun i hi => ?_⟩⟩
  rw [Nat.zero_add, h.cell, List.getElem?_toArray, vb_get, List.getElem?_eq_getElem (by omega)]
  simp

/-- A disk at block b; what it holds lies from w0's end on, below N. -/
def Lv (w0 w : World) (b : Nat) (d : Ek.Dk) (N : Nat) : Prop :=
  ∃ S : Nat → Prop, Dsk w S b d ∧ (∀ k, S k → w0.heap.size ≤ k ∧ k < N) ∧ N ≤ w.heap.size ∧ Below w0.heap.size w0 w

theorem Lv.ok {w0 w : World} {b : Nat} {d : Ek.Dk} {N : Nat} (h : Lv w0 w b d N) : Ek.Ok d := by
  obtain ⟨S, hd, _⟩ := h
  exact hd.ok
theorem Lv.below {w0 w : World} {b : Nat} {d : Ek.Dk} {N : Nat} (h : Lv w0 w b d N) : Below w0.heap.size w0 w := by
  obtain ⟨S, _, _, _, hb⟩ := h
  exact hb
theorem Lv.later {w0 w w' : World} {b : Nat} {d : Ek.Dk} {N : Nat} (h : Lv w0 w b d N) (hb : Below w.heap.size w w') : Lv w0 w' b d N := by
  obtain ⟨S, hd, hs, hn, hb0⟩ := h
  exact ⟨S, hd.later hb, hs, Nat.le_trans hn hb.size, hb0.trans (hb.mono hb0.size)⟩
theorem Lv.drew {w0 w : World} {b : Nat} {d : Ek.Dk} {N : Nat} (h : Lv w0 w b d N) : Lv w0 w.drew b d N := h.later (below_drewN (Below.refl _ _) 1)
theorem Lv.up {w0 w : World} {b : Nat} {d : Ek.Dk} {N M : Nat} (h : Lv w0 w b d N) (hm : N ≤ M) (hw : M ≤ w.heap.size) : Lv w0 w b d M := by
  obtain ⟨S, hd, hs, hn, hb0⟩ := h
  exact ⟨S, hd, fun k hk => ⟨(hs k hk).1, Nat.lt_of_lt_of_le (hs k hk).2 hm⟩, hw, hb0⟩
theorem Lv.top {w0 w : World} {b : Nat} {d : Ek.Dk} {N : Nat} (h : Lv w0 w b d N) : Lv w0 w b d w.heap.size := by
  obtain ⟨S, hd, hs, hn, hb0⟩ := h
  exact ⟨S, hd, fun k hk => ⟨(hs k hk).1, Nat.lt_of_lt_of_le (hs k hk).2 hn⟩, Nat.le_refl _, hb0⟩
/-- The world has gone on by a call that left all alone that is not the disk's. -/
theorem Lv.base {w0 w1 w : World} {b : Nat} {d : Ek.Dk} {N : Nat} (h : Lv w1 w b d N) (hb : Below w0.heap.size w0 w1) : Lv w0 w b d N := by
  obtain ⟨S, hd, hs, hn, hb0⟩ := h
  exact ⟨S, hd, fun k hk => ⟨Nat.le_trans hb.size (hs k hk).1, (hs k hk).2⟩, hn, hb.trans (hb0.mono hb.size)⟩

/-- What a call leaves of a disk. -/
def LvP (w0 : World) (b : Nat) (d : Ek.Dk) (v : Value) (e : Ending) (w' : World) : Prop := e = .returned v ∧ Lv w0 w' b d w'.heap.size
theorem LvP.of {w0 w w' : World} {b : Nat} {d' : Ek.Dk} {v : Value} {e : Ending} {S : Nat → Prop} {N : Nat} (hs : ∀ k, S k → w0.heap.size ≤ k ∧ k < N) (hn : N ≤ w.heap.size) (hb : Below w0.heap.size w0 w) (h : DP w S b d' v e w') : LvP w0 b d' v e w' := by
  obtain ⟨e1, S', hd, ht, hk⟩ := h
  have h1 := ht.size
  have h0 := hb.size
  refine ⟨e1, S', hd, fun k hk' => ?_, Nat.le_refl _, ht.below hb (fun k hk => (hs k hk).1) h0⟩
  rcases hk k hk' with h | h
  · have := hs k h; exact ⟨this.1, by omega⟩
  · exact ⟨by omega, h.2⟩

theorem lv_write {w0 w : World} {b : Nat} {d : Ek.Dk} {N : Nat} (h : Lv w0 w b d N) (i : Int) (s : Value) (bs : List Nat) (hs : Sl w s bs) (hg : ∀ g off spot len cap, s = .slice (some ⟨g, off, spot⟩) len cap → N ≤ g) (hu : d.used < 1000000) :
    Calls Try.prog 39 #[.pointer (some ⟨b, 0, none⟩), .int .i64 i, s] w (LvP w0 b (Ek.write d i bs) (.int .i64 (Ek.writeE d i bs))) := by
  obtain ⟨S, hd, hS, hn, hb⟩ := h
  exact (write_any w S b d i bs s hd hs (fun g off spot len cap e hk => by have := hg g off spot len cap e; have := (hS g hk).2; omega) hu).mono fun e w' hp => LvP.of hS hn hb hp
theorem lv_sync {w0 w : World} {b : Nat} {d : Ek.Dk} {N : Nat} (h : Lv w0 w b d N) (hu : d.used ≤ 1000) : Calls Try.prog 33 #[.pointer (some ⟨b, 0, none⟩)] w (LvP w0 b (Ek.sync d) (.int .i64 (Ek.changeE d))) := by
  obtain ⟨S, hd, hS, hn, hb⟩ := h
  exact (sync_any w S b d hd hu).mono fun e w' hp => LvP.of hS hn hb hp
theorem lv_crash {w0 w : World} {b : Nat} {d : Ek.Dk} {N : Nat} (h : Lv w0 w b d N) (ksv : Value) (ks : List Int) (hk : Ks w ksv ks) : Calls Try.prog 15 #[.pointer (some ⟨b, 0, none⟩), ksv] w (LvP w0 b (Ek.crash d (Ek.nth ks)) (.int .i64 0)) := by
  obtain ⟨S, hd, hS, hn, hb⟩ := h
  exact (crash_any w S b d ksv ks hd hk).mono fun e w' hp => LvP.of hS hn hb hp
theorem lv_fuse {w0 w : World} {b : Nat} {d : Ek.Dk} {N : Nat} (h : Lv w0 w b d N) (n : Int) (hn9 : n ≤ 9223372036854775807) : Calls Try.prog 13 #[.pointer (some ⟨b, 0, none⟩), .int .i64 n] w (LvP w0 b (Ek.fuse d n) (.tuple #[])) := by
  obtain ⟨S, hd, hS, hn, hb⟩ := h
  exact (fuse_any w S b d n hn9 hd).mono fun e w' hp => LvP.of hS hn hb hp
theorem lv_len {w0 w : World} {b : Nat} {d : Ek.Dk} {N : Nat} (h : Lv w0 w b d N) : Calls Try.prog 28 #[.pointer (some ⟨b, 0, none⟩)] w fun e w' => e = .returned (.int .i64 (d.n : Int)) ∧ w = w' := by
  obtain ⟨S, hd, _⟩ := h
  exact len_any w S b d hd
theorem lv_loose {w0 w : World} {b : Nat} {d : Ek.Dk} {N : Nat} (h : Lv w0 w b d N) : Calls Try.prog 42 #[.pointer (some ⟨b, 0, none⟩)] w fun e w' => e = .returned (.int .i64 (d.loose.length : Int)) ∧ w = w' := by
  obtain ⟨S, hd, _⟩ := h
  exact loose_any w S b d hd
theorem lv_dark {w0 w : World} {b : Nat} {d : Ek.Dk} {N : Nat} (h : Lv w0 w b d N) : Calls Try.prog 43 #[.pointer (some ⟨b, 0, none⟩)] w fun e w' => e = .returned (.bool d.dark) ∧ w = w' := by
  obtain ⟨S, hd, _⟩ := h
  exact dark_any w S b d hd
/-- What Read leaves, in a law. -/
theorem lv_read {w0 w : World} {b : Nat} {d : Ek.Dk} {N : Nat} (h : Lv w0 w b d N) (i : Int) : Calls Try.prog 21 #[.pointer (some ⟨b, 0, none⟩), .int .i64 i] w (RdPost w d i) := by
  obtain ⟨S, hd, _⟩ := h
  exact read_any w S b d i hd
theorem lv_new {w0 w : World} (hb : Below w0.heap.size w0 w) (n : Nat) (h1 : 1 ≤ n) (h2 : n ≤ 8192) : Calls Try.prog 6 #[.int .i64 (n : Int)] w fun e w' => ∃ b, e = .returned (.tuple #[.pointer (some ⟨b, 0, none⟩), .int .i64 0]) ∧ Lv w0 w' b (Ek.fresh n) w'.heap.size :=
  (new_good w n h1 h2).mono fun e w' hp => by
    obtain ⟨b, S, he, hd, hS, hb2⟩ := hp
    exact ⟨b, he, S, hd, fun k hk => ⟨Nat.le_trans hb.size (hS k hk).1, (hS k hk).2⟩, Nat.le_refl _, hb.trans (hb2.mono hb.size)⟩
/-- filled, then Write. -/
theorem FilPost.sl {w w' : World} {c n : Nat} {e : Ending} (h : FilPost w c n e w') (hn : n ≤ 1000) : Sl w' (.slice (some ⟨w.heap.size, 0, none⟩) n n) (Ek.fil c n) :=
  bytesAt.sl h.2.1 (Ek.fil_small c n) (by rw [Ek.fil_length]; omega) n n (by rw [Ek.fil_length])
end Go.Proofs.Ythbiibinmofmfaa
