/- A disk in a law, beside blocks that are not its. -/
import Derived.Test.YtillckjohlbaiaaElive

namespace Go.Proofs.Ytillckjohlbaiaa
set_option maxRecDepth 100000
open Go.RowKit

/-- A disk at block b; nothing of it lies in E. -/
def Ly (w0 w : World) (b : Nat) (d : Ek.Dk) (E : Nat → Prop) : Prop :=
  ∃ S : Nat → Prop, Dsk w S b d ∧ (∀ k, S k → w0.heap.size ≤ k ∧ k < w.heap.size ∧ ¬ E k) ∧ (∀ k, E k → k < w.heap.size) ∧ Below w0.heap.size w0 w
theorem Lv.ly {w0 w : World} {b : Nat} {d : Ek.Dk} {N : Nat} (h : Lv w0 w b d N) : Ly w0 w b d (fun _ => False) := by
  obtain ⟨S, hd, hs, hn, hb⟩ := h
  exact ⟨S, hd, fun k hk => ⟨(hs k hk).1, Nat.lt_of_lt_of_le (hs k hk).2 hn, id⟩, fun _ h => h.elim, hb⟩
theorem Ly.lv {w0 w : World} {b : Nat} {d : Ek.Dk} {E : Nat → Prop} (h : Ly w0 w b d E) : Lv w0 w b d w.heap.size := by
  obtain ⟨S, hd, hs, _, hb⟩ := h
  exact ⟨S, hd, fun k hk => ⟨(hs k hk).1, (hs k hk).2.1⟩, Nat.le_refl _, hb⟩
theorem Ly.below {w0 w : World} {b : Nat} {d : Ek.Dk} {E : Nat → Prop} (h : Ly w0 w b d E) : Below w0.heap.size w0 w := h.lv.below
theorem Ly.later {w0 w w' : World} {b : Nat} {d : Ek.Dk} {E : Nat → Prop} (h : Ly w0 w b d E) (hb : Below w.heap.size w w') : Ly w0 w' b d E := by
  obtain ⟨S, hd, hs, hg, hb0⟩ := h
  have := hb.size
  exact ⟨S, hd.later hb, fun k hk => ⟨(hs k hk).1, by have := (hs k hk).2.1; omega, (hs k hk).2.2⟩, fun k hk => by have := hg k hk; omega, hb0.trans (hb.mono hb0.size)⟩
theorem Ly.drew {w0 w : World} {b : Nat} {d : Ek.Dk} {E : Nat → Prop} (h : Ly w0 w b d E) : Ly w0 w.drew b d E := h.later (below_drewN (Below.refl _ _) 1)
/-- Blocks that were made since are taken in. -/
theorem Ly.add {w0 w w' : World} {b : Nat} {d : Ek.Dk} {E : Nat → Prop} (h : Ly w0 w b d E) (hb : Below w.heap.size w w') (g : Nat) (h1 : w.heap.size ≤ g) (h2 : g < w'.heap.size) : Ly w0 w' b d (fun k => E k ∨ k = g) := by
  obtain ⟨S, hd, hs, hg, hb0⟩ := h.later hb
  obtain ⟨S, hd, hs, hg, hb0⟩ := h
  have := hb.size
  refine ⟨S, hd.later hb, fun k hk => ⟨(hs k hk).1, by have := (hs k hk).2.1; omega, ?_⟩, fun k hk => ?_, hb0.trans (hb.mono hb0.size)⟩
  · rintro (h | rfl)
    · exact (hs k hk).2.2 h
    · have := (hs k hk).2.1; omega
  · rcases hk with h | rfl
    · have := hg k h; omega
    · exact h2
/-- What turned blocks of E alone, or made new ones. -/
theorem Ly.turned {w0 w w' : World} {b : Nat} {d : Ek.Dk} {E : Nat → Prop} (h : Ly w0 w b d E) (ht : Tch E w w') (h0 : ∀ k, E k → w0.heap.size ≤ k) : Ly w0 w' b d E := by
  obtain ⟨S, hd, hs, hg, hb0⟩ := h
  have := ht.size
  exact ⟨S, hd.tch ht (fun k hk => (hs k hk).2.2), fun k hk => ⟨(hs k hk).1, by have := (hs k hk).2.1; omega, (hs k hk).2.2⟩, fun k hk => by have := hg k hk; omega, ht.below hb0 h0 hb0.size⟩

/-- What a call leaves. -/
def LyP (w0 w : World) (b : Nat) (d : Ek.Dk) (E : Nat → Prop) (v : Value) (e : Ending) (w' : World) : Prop := e = .returned v ∧ Ly w0 w' b d E ∧ ∀ k, E k → w'.heap[k]? = w.heap[k]?
theorem LyP.of {w0 w w' : World} {b : Nat} {d : Ek.Dk} {v : Value} {e : Ending} {S E : Nat → Prop} (hs : ∀ k, S k → w0.heap.size ≤ k ∧ k < w.heap.size ∧ ¬ E k) (hg : ∀ k, E k → k < w.heap.size) (hb : Below w0.heap.size w0 w) (h : DP w S b d v e w') : LyP w0 w b d E v e w' := by
  obtain ⟨e1, S', hd, ht, hk⟩ := h
  have h1 := ht.size
  have h0 := hb.size
  refine ⟨e1, ⟨S', hd, fun k hk' => ?_, fun k hk => by have := hg k hk; omega, ht.below hb (fun k hk => (hs k hk).1) h0⟩, fun k hk => ht.block k (hg k hk) (fun hS => (hs k hS).2.2 hk)⟩
  rcases hk k hk' with h | h
  · have := hs k h; exact ⟨this.1, by omega, this.2.2⟩
  · exact ⟨by omega, h.2, fun hE => by have := hg k hE; omega⟩
theorem ly_fuse {w0 w : World} {b : Nat} {d : Ek.Dk} {E : Nat → Prop} (h : Ly w0 w b d E) (n : Int) (hn9 : n ≤ 9223372036854775807) : Calls Try.prog 31 #[.pointer (some ⟨b, 0, none⟩), .int .i64 n] w (LyP w0 w b (Ek.fuse d n) E (.tuple #[])) := by
  obtain ⟨S, hd, hS, hn, hb⟩ := h
  exact (fuse_any w S b d n hn9 hd).mono fun e w' hp => LyP.of hS hn hb hp
theorem ly_sync {w0 w : World} {b : Nat} {d : Ek.Dk} {E : Nat → Prop} (h : Ly w0 w b d E) (hu : d.used ≤ 1000) : Calls Try.prog 48 #[.pointer (some ⟨b, 0, none⟩)] w (LyP w0 w b (Ek.sync d) E (.int .i64 (Ek.changeE d))) := by
  obtain ⟨S, hd, hS, hn, hb⟩ := h
  exact (sync_any w S b d hd hu).mono fun e w' hp => LyP.of hS hn hb hp
theorem ly_crash {w0 w : World} {b : Nat} {d : Ek.Dk} {E : Nat → Prop} (h : Ly w0 w b d E) (ksv : Value) (ks : List Int) (hk : Ks w ksv ks) : Calls Try.prog 33 #[.pointer (some ⟨b, 0, none⟩), ksv] w (LyP w0 w b (Ek.crash d (Ek.nth ks)) E (.int .i64 0)) := by
  obtain ⟨S, hd, hS, hn, hb⟩ := h
  exact (crash_any w S b d ksv ks hd hk).mono fun e w' hp => LyP.of hS hn hb hp
/-- A slice that the law holds (its block in E, or made since w) is written. -/
theorem ly_write {w0 w w' : World} {b : Nat} {d : Ek.Dk} {E : Nat → Prop} (h : Ly w0 w b d E) (hbw : Below w.heap.size w w') (i : Int) (s : Value) (bs : List Nat) (hs : Sl w' s bs) (hg : ∀ g off spot len cap, s = .slice (some ⟨g, off, spot⟩) len cap → E g ∨ w.heap.size ≤ g) (hu : d.used < 1000000) :
    Calls Try.prog 22 #[.pointer (some ⟨b, 0, none⟩), .int .i64 i, s] w' (LyP w0 w' b (Ek.write d i bs) E (.int .i64 (Ek.writeE d i bs))) := by
  obtain ⟨S, hd, hS, hn, hb⟩ := h
  have hsz := hbw.size
  exact (write_any w' S b d i bs s (hd.later hbw) hs (fun g off spot len cap e hk => by
    rcases hg g off spot len cap e with h | h
    · exact (hS g hk).2.2 h
    · have := (hS g hk).2.1; omega) hu).mono fun e w2 hp => LyP.of (fun k hk => ⟨(hS k hk).1, by have := (hS k hk).2.1; omega, (hS k hk).2.2⟩) (fun k hk => by have := hn k hk; omega) (hb.trans (hbw.mono hb.size)) hp
theorem ly_filled_write {w0 w w' : World} {b : Nat} {d : Ek.Dk} {E : Nat → Prop} {c n : Nat} {e : Ending} (h : Ly w0 w b d E) (hf : FilPost w c n e w') (hn : n ≤ 1000) (i : Int) (hu : d.used < 1000000) :
    Calls Try.prog 22 #[.pointer (some ⟨b, 0, none⟩), .int .i64 i, .slice (some ⟨w.heap.size, 0, none⟩) n n] w' (LyP w0 w' b (Ek.write d i (Ek.fil c n)) E (.int .i64 (Ek.writeE d i (Ek.fil c n)))) :=
  ly_write h hf.2.2.1 i _ _ (hf.sl hn) (fun g off spot len cap e => by injection e with e1 _ _; injection e1 with e1; injection e1 with e1 _ _; exact Or.inr (by omega)) hu

/-- The value s is a slice of the strings l, in block g. -/
def Strs (w : World) (s : Value) (l : List ByteArray) (g : Nat) : Prop := ∃ cap, s = .slice (some ⟨g, 0, none⟩) l.length cap ∧ g < w.heap.size ∧ ∀ i, i < l.length → w.cell? ⟨g, i, none⟩ = some (.string (l[i]?.getD ByteArray.empty))
theorem Strs.same {w w' : World} {s : Value} {l : List ByteArray} {g : Nat} (h : Strs w s l g) (he : w'.heap[g]? = w.heap[g]?) : Strs w' s l g := by
  obtain ⟨cap, e, h1, h2⟩ := h
  refine ⟨cap, e, ?_, fun i hi => (World.cell?_of_block (a := ⟨g, i, none⟩) he).trans (h2 i hi)⟩
  have := (Array.getElem?_eq_some_iff.1 (he.trans (Array.getElem?_eq_getElem h1))).1
  exact this
theorem Strs.later {w w' : World} {s : Value} {l : List ByteArray} {g : Nat} (h : Strs w s l g) (hb : Below w.heap.size w w') : Strs w' s l g := h.same (hb.block g (by obtain ⟨_, _, h, _⟩ := h; exact h))
end Go.Proofs.Ytillckjohlbaiaa

/- Contract of valiselaw11.all. -/
namespace Go.Proofs.Ytillckjohlbaiaa
set_option maxRecDepth 100000
open Go.RowKit

theorem Try.infoStr : (Try.prog.info? 9).map (fun i => (i.zero, i.size, i.bytes)) = some (some (.string ByteArray.empty), 1, 16) := by kernel_rfl

/-- The sectors' bytes as strings, the first k. -/
def strsTo (d : Ek.Dk) (k : Nat) : List ByteArray := (List.range k).map fun i => strB (Ek.now d i)
theorem strsTo_length (d : Ek.Dk) (k : Nat) : (strsTo d k).length = k := by simp [strsTo]
theorem strsTo_succ (d : Ek.Dk) (k : Nat) : strsTo d (k + 1) = strsTo d k ++ [strB (Ek.now d k)] := by simp [strsTo, List.range_succ]
theorem strsTo_get (d : Ek.Dk) (n i : Nat) (h : i < n) : (strsTo d n)[i]? = some (strB (Ek.now d i)) := by simp [strsTo, h]
def vstr (l : List ByteArray) : List Value := l.map Value.string
theorem vstr_length (l : List ByteArray) : (vstr l).length = l.length := by simp [vstr]
theorem vstr_one (l : List ByteArray) : ∀ v ∈ vstr l, v.oneCell' = true := by
  intro v hv
  simp only [vstr, List.mem_map] at hv
  obtain ⟨x, _, rfl⟩ := hv
  rfl
theorem append_str {w : World} {base : Nat} {v : Value} {l : List ByteArray} (h : w.ownsRow base 9 1 v l.length (vstr l)) (S : ByteArray) (hl : l.length ≤ 1000000) (g : Nat) (hg : Has w g (.cells #[.string S] 9 (0, 0))) (hb : base ≤ w.heap.size) :
    ∃ v' w', (Builtin.append_ #[37, 37] 37 #[v, .slice (some ⟨g, 0, none⟩) 1 1]).run Try.prog w = .ok v' w' ∧ w'.ownsRow base 9 1 v' (l ++ [S]).length (vstr (l ++ [S])) ∧ w.grownBy w' v.ownBlock := by
  obtain ⟨i0, hi, hz0, hz1, hz2⟩ := info_parts Try.infoStr
  obtain ⟨v', w', h1, h2, h3, _⟩ := run_append_own_at (P := Try.prog) (w := w) base 37 37 9 i0 _ 1 16 Try.underlying37 hi hz0 hz1 hz2 rfl (by decide) v l.length (vstr l) h ⟨g, 0, none⟩ 1 1 [.string S] rfl
    (fun j u hj => by
      obtain rfl : j = 0 := by have := (List.getElem?_eq_some_iff.1 hj).1; simpa using this
      rw [Addr.add_mid, hg.cell]; exact hj) (by simp [Value.oneCell']) (by unfold maxLen; omega) (by omega) hb
  refine ⟨v', w', h1, ?_, h3⟩
  rw [List.length_append, List.length_singleton, show vstr (l ++ [S]) = vstr l ++ [.string S] by simp [vstr]]
  exact h2
theorem own_strs {w : World} {base : Nat} {v : Value} {l : List ByteArray} (h : w.ownsRow base 9 1 v l.length (vstr l)) (hl : 0 < l.length) : ∃ g, Strs w v l g ∧ base ≤ g := by
  rcases h.2 with ⟨_, h0⟩ | ⟨g, cap, cur, rfl, hb, hg, hc1, hc2, hc3, hc4⟩
  · omega
  · refine ⟨g, ⟨cap, rfl, (Array.getElem?_eq_some_iff.1 hg).1, fun i hi => ?_⟩, hb⟩
    have hown : w.ownsRow base 9 1 (.slice (some ⟨g, 0, none⟩) l.length cap) l.length (vstr l) := ⟨h.1, Or.inr ⟨g, cap, cur, rfl, hb, hg, hc1, hc2, hc3, hc4⟩⟩
    rw [hown.cellAt i (by omega)]
    unfold vstr
    rw [List.getElem?_map, List.getElem?_eq_getElem hi]
    rfl

/-- What all leaves. -/
def AllPost (w : World) (d : Ek.Dk) (e : Ending) (w' : World) : Prop :=
  ∃ s g, e = .returned s ∧ Strs w' s (strsTo d d.n) g ∧ w.heap.size ≤ g ∧ Below w.heap.size w w'

end Go.Proofs.Ytillckjohlbaiaa
