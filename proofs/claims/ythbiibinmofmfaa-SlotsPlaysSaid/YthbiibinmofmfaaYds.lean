/- A disk in a law, beside blocks that are not its. -/
import Derived.Test.YthbiibinmofmfaaElive
import Derived.Test.YthbiibinmofmfaaYdw

namespace Go.Proofs.Ythbiibinmofmfaa
set_option maxRecDepth 100000
open Go.RowKit

/-- A disk at block b; nothing of it lies in E. -/
def Ly (w0 w : World) (b : Nat) (d : Ek.Dk) (E : Nat → Prop) : Prop :=
  ∃ S : Nat → Prop, Dsk w S b d ∧ (∀ k, S k → w0.heap.size ≤ k ∧ k < w.heap.size ∧ ¬ E k) ∧ (∀ k, E k → k < w.heap.size) ∧ Below w0.heap.size w0 w
theorem Lv.ly {w0 w : World} {b : Nat} {d : Ek.Dk} {N : Nat} (h : Lv w0 w b d N) : Ly w0 w b d (fun _ => False) := by
  obtain ⟨S, hd, hs, hn, hb⟩ := h
  exact ⟨S, hd, fun k hk => ⟨(hs k hk).1, Nat.lt_of_lt_of_le (hs k hk).2 hn, id⟩, fun _ h => h.elim, hb⟩
theorem Ly.lv {w0 w : World} {b : Nat} {d : Ek.Dk} {E : Nat → Prop} (h : Ly w0 w b d E) : Lv w0 w b d w.heap.size := by
  obtain ⟨S, hd, hs, _, hb⟩ := h
  exact ⟨S, hd, fun k hk => ⟨(hs k hk).1, (hs k hk).2.1⟩, Nat.le_refl _, hb⟩
theorem Ly.below {w0 w : World} {b : Nat} {d : Ek.Dk} {E : Nat → Prop} (h : Ly w0 w b d E) : Below w0.heap.size w0 w := h.lv.below
theorem Ly.later {w0 w w' : World} {b : Nat} {d : Ek.Dk} {E : Nat → Prop} (h : Ly w0 w b d E) (hb : Below w.heap.size w w') : Ly w0 w' b d E := by
  obtain ⟨S, hd, hs, hg, hb0⟩ := h
  have := hb.size
  exact ⟨S, hd.later hb, fun k hk => ⟨(hs k hk).1, by have := (hs k hk).2.1; omega, (hs k hk).2.2⟩, fun k hk => by have := hg k hk; omega, hb0.trans (hb.mono hb0.size)⟩
theorem Ly.drew {w0 w : World} {b : Nat} {d : Ek.Dk} {E : Nat → Prop} (h : Ly w0 w b d E) : Ly w0 w.drew b d E := h.later (below_drewN (Below.refl _ _) 1)
/-- Blocks that were made since are taken in. -/
theorem Ly.add {w0 w w' : World} {b : Nat} {d : Ek.Dk} {E : Nat → Prop} (h : Ly w0 w b d E) (hb : Below w.heap.size w w') (g : Nat) (h1 : w.heap.size ≤ g) (h2 : g < w'.heap.size) : Ly w0 w' b d (fun k => E k ∨ k = g) := by
  obtain ⟨S, hd, hs, hg, hb0⟩ := h.later hb
  obtain ⟨S, hd, hs, hg, hb0⟩ := h
  have := hb.size
  refine ⟨S, hd.later hb, fun k hk => ⟨(hs k hk).1, by have := (hs k hk).2.1; omega, ?_⟩, fun k hk => ?_, hb0.trans (hb.mono hb0.size)⟩
  · rintro (h | rfl)
    · exact (hs k hk).2.2 h
    · have := (hs k hk).2.1; omega
  · rcases hk with h | rfl
    · have := hg k h; omega
    · exact h2
/-- What turned blocks of E alone, or made new ones. -/
theorem Ly.turned {w0 w w' : World} {b : Nat} {d : Ek.Dk} {E : Nat → Prop} (h : Ly w0 w b d E) (ht : Tch E w w') (h0 : ∀ k, E k → w0.heap.size ≤ k) : Ly w0 w' b d E := by
  obtain ⟨S, hd, hs, hg, hb0⟩ := h
  have := ht.size
  exact ⟨S, hd.tch ht (fun k hk => (hs k hk).2.2), fun k hk => ⟨(hs k hk).1, by have := (hs k hk).2.1; omega, (hs k hk).2.2⟩, fun k hk => by have := hg k hk; omega, ht.below hb0 h0 hb0.size⟩

/-- What a call leaves. -/
def LyP (w0 w : World) (b : Nat) (d : Ek.Dk) (E : Nat → Prop) (v : Value) (e : Ending) (w' : World) : Prop := e = .returned v ∧ Ly w0 w' b d E ∧ ∀ k, E k → w'.heap[k]? = w.heap[k]?
theorem LyP.of {w0 w w' : World} {b : Nat} {d : Ek.Dk} {v : Value} {e : Ending} {S E : Nat → Prop} (hs : ∀ k, S k → w0.heap.size ≤ k ∧ k < w.heap.size ∧ ¬ E k) (hg : ∀ k, E k → k < w.heap.size) (hb : Below w0.heap.size w0 w) (h : DP w S b d v e w') : LyP w0 w b d E v e w' := by
  obtain ⟨e1, S', hd, ht, hk⟩ := h
  have h1 := ht.size
  have h0 := hb.size
  refine ⟨e1, ⟨S', hd, fun k hk' => ?_, fun k hk => by have := hg k hk; omega, ht.below hb (fun k hk => (hs k hk).1) h0⟩, fun k hk => ht.block k (hg k hk) (fun hS => (hs k hS).2.2 hk)⟩
  rcases hk k hk' with h | h
  · have := hs k h; exact ⟨this.1, by omega, this.2.2⟩
  · exact ⟨by omega, h.2, fun hE => by have := hg k hE; omega⟩
theorem ly_fuse {w0 w : World} {b : Nat} {d : Ek.Dk} {E : Nat → Prop} (h : Ly w0 w b d E) (n : Int) (hn9 : n ≤ 9223372036854775807) : Calls Try.prog 13 #[.pointer (some ⟨b, 0, none⟩), .int .i64 n] w (LyP w0 w b (Ek.fuse d n) E (.tuple #[])) := by
  obtain ⟨S, hd, hS, hn, hb⟩ := h
  exact (fuse_any w S b d n hn9 hd).mono fun e w' hp => LyP.of hS hn hb hp
theorem ly_sync {w0 w : World} {b : Nat} {d : Ek.Dk} {E : Nat → Prop} (h : Ly w0 w b d E) (hu : d.used ≤ 1000) : Calls Try.prog 33 #[.pointer (some ⟨b, 0, none⟩)] w (LyP w0 w b (Ek.sync d) E (.int .i64 (Ek.changeE d))) := by
  obtain ⟨S, hd, hS, hn, hb⟩ := h
  exact (sync_any w S b d hd hu).mono fun e w' hp => LyP.of hS hn hb hp
theorem ly_crash {w0 w : World} {b : Nat} {d : Ek.Dk} {E : Nat → Prop} (h : Ly w0 w b d E) (ksv : Value) (ks : List Int) (hk : Ks w ksv ks) : Calls Try.prog 15 #[.pointer (some ⟨b, 0, none⟩), ksv] w (LyP w0 w b (Ek.crash d (Ek.nth ks)) E (.int .i64 0)) := by
  obtain ⟨S, hd, hS, hn, hb⟩ := h
  exact (crash_any w S b d ksv ks hd hk).mono fun e w' hp => LyP.of hS hn hb hp
/-- A slice that the law holds (its block in E, or made since w) is written. -/
theorem ly_write {w0 w w' : World} {b : Nat} {d : Ek.Dk} {E : Nat → Prop} (h : Ly w0 w b d E) (hbw : Below w.heap.size w w') (i : Int) (s : Value) (bs : List Nat) (hs : Sl w' s bs) (hg : ∀ g off spot len cap, s = .slice (some ⟨g, off, spot⟩) len cap → E g ∨ w.heap.size ≤ g) (hu : d.used < 1000000) :
    Calls Try.prog 39 #[.pointer (some ⟨b, 0, none⟩), .int .i64 i, s] w' (LyP w0 w' b (Ek.write d i bs) E (.int .i64 (Ek.writeE d i bs))) := by
  obtain ⟨S, hd, hS, hn, hb⟩ := h
  have hsz := hbw.size
  exact (write_any w' S b d i bs s (hd.later hbw) hs (fun g off spot len cap e hk => by
    rcases hg g off spot len cap e with h | h
    · exact (hS g hk).2.2 h
    · have := (hS g hk).2.1; omega) hu).mono fun e w2 hp => LyP.of (fun k hk => ⟨(hS k hk).1, by have := (hS k hk).2.1; omega, (hS k hk).2.2⟩) (fun k hk => by have := hn k hk; omega) (hb.trans (hbw.mono hb.size)) hp
theorem ly_filled_write {w0 w w' : World} {b : Nat} {d : Ek.Dk} {E : Nat → Prop} {c n : Nat} {e : Ending} (h : Ly w0 w b d E) (hf : FilPost w c n e w') (hn : n ≤ 1000) (i : Int) (hu : d.used < 1000000) :
    Calls Try.prog 39 #[.pointer (some ⟨b, 0, none⟩), .int .i64 i, .slice (some ⟨w.heap.size, 0, none⟩) n n] w' (LyP w0 w' b (Ek.write d i (Ek.fil c n)) E (.int .i64 (Ek.writeE d i (Ek.fil c n)))) :=
  ly_write h hf.2.2.1 i _ _ (hf.sl hn) (fun g off spot len cap e => by injection e with e1 _ _; injection e1 with e1; injection e1 with e1 _ _; exact Or.inr (by omega)) hu

/-- The value s is a slice of the strings l, in block g. -/
def Strs (w : World) (s : Value) (l : List ByteArray) (g : Nat) : Prop := ∃ cap, s = .slice (some ⟨g, 0, none⟩) l.length cap ∧ g < w.heap.size ∧ ∀ i, i < l.length → w.cell? ⟨g, i, none⟩ = some (.string (l[i]?.getD ByteArray.empty))
theorem Strs.same {w w' : World} {s : Value} {l : List ByteArray} {g : Nat} (h : Strs w s l g) (he : w'.heap[g]? = w.heap[g]?) : Strs w' s l g := by
  obtain ⟨cap, e, h1, h2⟩ := h
  refine ⟨cap, e, ?_, fun i hi => (World.cell?_of_block (a := ⟨g, i, none⟩) he).trans (h2 i hi)⟩
  have := (Array.getElem?_eq_some_iff.1 (he.trans (Array.getElem?_eq_getElem h1))).1
  exact this
theorem Strs.later {w w' : World} {s : Value} {l : List ByteArray} {g : Nat} (h : Strs w s l g) (hb : Below w.heap.size w w') : Strs w' s l g := h.same (hb.block g (by obtain ⟨_, _, h, _⟩ := h; exact h))
end Go.Proofs.Ythbiibinmofmfaa

/- Contract of valiselaw11.all. -/
namespace Go.Proofs.Ythbiibinmofmfaa
set_option maxRecDepth 100000
open Go.RowKit

theorem Try.infoStr : (Try.prog.info? 9).map (fun i => (i.zero, i.size, i.bytes)) = some (some (.string ByteArray.empty), 1, 16) := by kernel_rfl

/-- The sectors' bytes as strings, the first k. -/
def strsTo (d : Ek.Dk) (k : Nat) : List ByteArray := (List.range k).map fun i => strB (Ek.now d i)
theorem strsTo_length (d : Ek.Dk) (k : Nat) : (strsTo d k).length = k := by simp [strsTo]
theorem strsTo_succ (d : Ek.Dk) (k : Nat) : strsTo d (k + 1) = strsTo d k ++ [strB (Ek.now d k)] := by simp [strsTo, List.range_succ]
theorem strsTo_get (d : Ek.Dk) (n i : Nat) (h : i < n) : (strsTo d n)[i]? = some (strB (Ek.now d i)) := by simp [strsTo, h]
def vstr (l : List ByteArray) : List Value := l.map Value.string
theorem vstr_length (l : List ByteArray) : (vstr l).length = l.length := by simp [vstr]
theorem vstr_one (l : List ByteArray) : ∀ v ∈ vstr l, v.oneCell' = true := by
  intro v hv
  simp only [vstr, List.mem_map] at hv
  obtain ⟨x, _, rfl⟩ := hv
  rfl
theorem append_str {w : World} {base : Nat} {v : Value} {l : List ByteArray} (h : w.ownsRow base 9 1 v l.length (vstr l)) (S : ByteArray) (hl : l.length ≤ 1000000) (g : Nat) (hg : Has w g (.cells #[.string S] 9 (0, 0))) (hb : base ≤ w.heap.size) :
    ∃ v' w', (Builtin.append_ #[29, 29] 29 #[v, .slice (some ⟨g, 0, none⟩) 1 1]).run Try.prog w = .ok v' w' ∧ w'.ownsRow base 9 1 v' (l ++ [S]).length (vstr (l ++ [S])) ∧ w.grownBy w' v.ownBlock := by
  obtain ⟨i0, hi, hz0, hz1, hz2⟩ := info_parts Try.infoStr
  obtain ⟨v', w', h1, h2, h3, _⟩ := run_append_own_at (P := Try.prog) (w := w) base 29 29 9 i0 _ 1 16 Try.underlying29 hi hz0 hz1 hz2 rfl (by decide) v l.length (vstr l) h ⟨g, 0, none⟩ 1 1 [.string S] rfl
    (fun j u hj => by
      obtain rfl : j = 0 := by have := (List.getElem?_eq_some_iff.1 hj).1; simpa using this
      rw [Addr.add_mid, hg.cell]; exact hj) (by simp [Value.oneCell']) (by unfold maxLen; omega) (by omega) hb
  refine ⟨v', w', h1, ?_, h3⟩
  rw [List.length_append, List.length_singleton, show vstr (l ++ [S]) = vstr l ++ [.string S] by simp [vstr]]
  exact h2
theorem own_strs {w : World} {base : Nat} {v : Value} {l : List ByteArray} (h : w.ownsRow base 9 1 v l.length (vstr l)) (hl : 0 < l.length) : ∃ g, Strs w v l g ∧ base ≤ g := by
  rcases h.2 with ⟨_, h0⟩ | ⟨g, cap, cur, rfl, hb, hg, hc1, hc2, hc3, hc4⟩
  · omega
  · refine ⟨g, ⟨cap, rfl, (Array.getElem?_eq_some_iff.1 hg).1, fun i hi => ?_⟩, hb⟩
    have hown : w.ownsRow base 9 1 (.slice (some ⟨g, 0, none⟩) l.length cap) l.length (vstr l) := ⟨h.1, Or.inr ⟨g, cap, cur, rfl, hb, hg, hc1, hc2, hc3, hc4⟩⟩
    rw [hown.cellAt i (by omega)]
    unfold vstr
    rw [List.getElem?_map, List.getElem?_eq_getElem hi]
    rfl

/-- What all leaves. -/
def AllPost (w : World) (d : Ek.Dk) (e : Ending) (w' : World) : Prop :=
  ∃ s g, e = .returned s ∧ Strs w' s (strsTo d d.n) g ∧ w.heap.size ≤ g ∧ Below w.heap.size w w'

end Go.Proofs.Ythbiibinmofmfaa

/- settled of the document's own disk. -/
namespace Go.Proofs.Ythbiibinmofmfaa
set_option maxRecDepth 100000
open Go.RowKit

/-- Strings appended to none. -/
theorem strs_run (w : World) (a : Option Addr) (n c : Nat) (f : Nat → ByteArray) (h1 : 1 ≤ n) (hn : n ≤ 1000000)
    (hc : ∀ i, i < n → ∃ g off, a = some ⟨g, off, none⟩ ∧ w.cell? ⟨g, off + i, none⟩ = some (.string (f i))) :
    ∃ g capn w', (Builtin.append_ #[29, 29] 29 #[.slice (some ⟨w.heap.size, 0, none⟩) 0 0, .slice a n c]).run Try.prog (w.alloc (.cells #[] 9)) = .ok (.slice (some ⟨g, 0, none⟩) n capn) w' ∧
      w'.ownsRow w.heap.size 9 1 (.slice (some ⟨g, 0, none⟩) n capn) n (vstr ((List.range n).map f)) ∧ Below w.heap.size w w' := by
  obtain ⟨i0, hi, hz0, hz1, hz2⟩ := info_parts Try.infoStr
  have hb := below1 w (.cells #[] 9)
  have hown := World.ownsRow_lit (base := w.heap.size) (e := 9) (size := 1) w #[] 0 (Nat.le_refl _) (by unfold maxLen; omega) rfl
  have hl : (vstr ((List.range n).map f)).length = n * 1 := by simp [vstr]
  obtain ⟨ga, oa, ea, _⟩ := hc 0 (by omega)
  obtain ⟨g, capn, w', hrun, hown', hgrow⟩ := run_append_mine (P := Try.prog) (w := w.alloc (.cells #[] 9)) w.heap.size 29 29 9 i0 _ 1 16 Try.underlying29 hi hz0 hz1 hz2 rfl (by decide)
    w.heap.size 0 0 [] hown a n c (vstr ((List.range n).map f)) hl (fun e => by rw [ea] at e; cases e) (fun h0 => ⟨⟨ga, oa, none⟩, ea, fun j u hj => by
      have hjl : j < n := by have := (List.getElem?_eq_some_iff.1 hj).1; omega
      obtain ⟨g2, off2, e2, c1⟩ := hc j hjl
      rw [ea] at e2
      cases e2
      rw [Addr.add_mid, hb.cell (p := ⟨ga, oa + j, none⟩) (World.block_lt_of_cell? w _ c1), c1]
      simp [vstr, hjl] at hj
      rw [hj]⟩) (fun u hu => by simp only [vstr, List.mem_map] at hu; obtain ⟨x, _, rfl⟩ := hu; rfl) (by unfold maxLen; omega) (by omega) (by simp)
  have HB : Below w.heap.size w w' := (hb.mono (Nat.le_refl _)).grown hgrow (by simp) (fun k e => by cases e; exact Nat.le_refl _)
  rw [Nat.zero_add, List.nil_append] at hown'
  rw [Nat.zero_add] at hrun
  exact ⟨g, capn, w', hrun, hown', HB⟩
/-- The sectors behind the first k loose writes, all of which stay. -/
def setS (d : Ek.Dk) (k : Nat) : List ByteArray := (List.range d.n).map fun i => strB (Ek.settleTo d.sure d.loose (fun _ => 1) k i)
theorem setS_length (d : Ek.Dk) (k : Nat) : (setS d k).length = d.n := by simp [setS]
theorem setS_get (d : Ek.Dk) (k i : Nat) (h : i < d.n) : (setS d k)[i]? = some (strB (Ek.settleTo d.sure d.loose (fun _ => 1) k i)) := by simp [setS, h]
theorem setS_succ {d : Ek.Dk} (hk : Ek.Ok d) {k j : Nat} {r : List Nat} (h : d.loose[k]? = some (j, r)) : setS d (k + 1) = (setS d k).set j (strB r) := by
  have hr : r.length = 512 := (hk.loose _ (List.mem_of_getElem? h)).2.1
  have hl := (Ek.settle_row hk.sure (fun p hp => (hk.loose p hp).2) (fun _ => 1) k j).1
  apply List.ext_getElem?
  intro i
  by_cases hi : i < d.n
  · rw [setS_get _ _ _ hi, List.getElem?_set]
    have e : Ek.settleTo d.sure d.loose (fun _ => 1) (k + 1) i = if i = j then r else Ek.settleTo d.sure d.loose (fun _ => 1) k i := by
      simp only [Ek.settleTo, h]
      unfold Ek.lay Ek.share
      by_cases hij : i = j
      · rw [if_pos hij, if_pos hij]
        simp only [show ¬ ((1 : Int) < 1) by decide, if_false, true_or, if_true]
        rw [List.take_of_length_le (by omega), List.drop_eq_nil_of_le (by omega), List.append_nil]
      · rw [if_neg hij, if_neg hij]
    rw [e]
    by_cases hij : i = j
    · subst hij
      rw [if_pos rfl, if_pos rfl, if_pos (by rw [setS_length]; exact hi)]
    · rw [if_neg hij, if_neg (fun h => hij h.symm), setS_get _ _ _ hi]
  · rw [List.getElem?_eq_none (by rw [setS_length]; omega), List.getElem?_eq_none (by rw [List.length_set, setS_length]; omega)]

set_option maxRecDepth 100000 in
set_option maxHeartbeats 4000000 in
theorem settled_is (w : World) (G : Nat → Prop) (a la : Option Addr) (c lc : Nat) (d : Ek.Dk) (hc : DCells w G a la d) (hok : Ek.Ok d) :
    Calls Try.prog 48 #[.slice a d.n c, .slice la d.loose.length lc] w fun e w' => ∃ g cap, e = .returned (.slice (some ⟨g, 0, none⟩) d.n cap) ∧ w'.ownsRow w.heap.size 9 1 (.slice (some ⟨g, 0, none⟩) d.n cap) d.n (vstr (setS d d.loose.length)) ∧ Below w.heap.size w w' := by
  have hlo := hok.lo
  have hhi := hok.hi
  have hll : d.loose.length ≤ 1000000 := by have := hok.used; have := hok.count; omega
  obtain ⟨g, capn, w1, hrun, ho1, hb1⟩ := strs_run w a d.n c (fun i => strB (d.sure i)) hlo (by omega) (fun i hi => by obtain ⟨g, off, e, _, _, y⟩ := hc.1 i hi; exact ⟨g, off, e, y⟩)
  have HC : Hid (∀ k j r, d.loose[k]? = some (j, r) → ∃ g off, la = some ⟨g, off, none⟩ ∧ ∀ w', Below w.heap.size w w' → w'.cell? ⟨g, off + k * 2, none⟩ = some (.int .i64 ((j : Nat) : Int)) ∧ w'.cell? ⟨g, off + k * 2 + 1, none⟩ = some (.string (strB r))) := fun k j r h => by
    obtain ⟨g, off, e, _, hl, y1, y2⟩ := hc.2 k j r h
    exact ⟨g, off, e, fun w' hb => ⟨(hb.cell (p := ⟨g, off + k * 2, none⟩) hl).trans y1, (hb.cell (p := ⟨g, off + k * 2 + 1, none⟩) hl).trans y2⟩⟩
  have HO := Lib.hid ho1
  have HB := Lib.hid hb1
  have HOK := Lib.hid hok
  have HR := Lib.hid hrun
  obtain ⟨L, hL⟩ : ∃ L, L = d.loose.length := ⟨_, rfl⟩
  have HL := Lib.hid hL
  rw [← hL] at hll ⊢
  obtain ⟨N, hN⟩ : ∃ N, N = d.n := ⟨_, rfl⟩
  have HN := Lib.hid hN
  rw [← hN] at hhi HR HO ⊢
  have HO0 : Hid (w1.ownsRow w.heap.size 9 1 (.slice (some ⟨g, 0, none⟩) N capn) N (vstr (setS d 0))) := by
    show World.ownsRow _ _ _ _ _ _ _
    unfold setS
    rw [← HN.out]; exact HO.out
  have h8 : (N : Int) ≤ 8192 := by omega
  clear hc hok hL hN hrun ho1 hb1 hlo hhi HO
  go_enter Try.func48, Try.ntmps48
  go_wp2_with (at_builtin; refine wpList_run rfl (exec_append (.tmp 7) (.tmp 8) 29 rfl (.slice (some ⟨w.heap.size, 0, none⟩) 0 0) (.slice a N c) (.slice (some ⟨g, 0, none⟩) N capn) rfl rfl HR.out) ?_)
  go_loopw [6] (fun s6 wr => ∃ k : Nat, s6 = .int .i64 (k : Int) ∧ k ≤ L ∧ Hid (wr.ownsRow w.heap.size 9 1 (.slice (some ⟨g, 0, none⟩) N capn) N (vstr (setS d k))) ∧ Hid (Below w.heap.size w wr)) (fun s6 _ => L - (intOf s6).toNat)
  case atStart => exact ⟨0, by go_num, Nat.zero_le _, HO0, HB⟩
  case round =>
    obtain ⟨k, rfl, hk, KO, KB⟩ := hrel
    by_cases hlt : k < L
    · have j0 : decide ((k : Int) < (L : Int)) = true := decide_eq_true (by omega)
      have j1 : (0 : Int) ≤ (k : Int) := by omega
      have j2 : (k : Int) < (L : Int) := by omega
      have j3 : (k : Int) ≤ 1000000 := by omega
      obtain ⟨⟨j, r⟩, hr⟩ : ∃ p, d.loose[k]? = some p := ⟨_, List.getElem?_eq_getElem (by rw [← HL.out]; exact hlt)⟩
      obtain ⟨gl, ol, rfl, hcl⟩ := HC.out k j r hr
      have HCL := Lib.hid hcl
      have hjn : j < N := by rw [HN.out]; exact (HOK.out.loose _ (List.mem_of_getElem? hr)).1
      have i0 : (0 : Int) ≤ (j : Int) := by omega
      have i1 : (j : Int) < (N : Int) := by omega
      have i2 : (j : Int) ≤ 8192 := by omega
      have x1 : wr.cell? ⟨g, j, none⟩ = some (.string (strB (Ek.settleTo d.sure d.loose (fun _ => 1) k j))) := by
        rw [KO.out.cellAt j (by omega)]
        unfold vstr
        rw [List.getElem?_map, setS_get _ _ _ (by rw [← HN.out]; exact hjn)]; rfl
      have x2 : wr.frozen? ⟨g, j, none⟩ = false := KO.out.frozenAt j
      have HWD : Hid (Below w.heap.size w wr.drew) := below_drewN KB.out 1
      have hgl := (KO.out.lt g rfl).1
      have HWS : Hid (Below w.heap.size w ((wr.setCell ⟨g, j, none⟩ (.string (strB r))).drew)) := below_drewN (KB.out.setCell (p := ⟨g, j, none⟩) hgl _) 1
      have KO2 : Hid ((wr.setCell ⟨g, j, none⟩ (.string (strB r))).drew.ownsRow w.heap.size 9 1 (.slice (some ⟨g, 0, none⟩) N capn) N (vstr (setS d (k + 1)))) := by
        show World.ownsRow _ _ _ _ _ _ _
        rw [setS_succ HOK.out hr, show vstr ((setS d k).set j (strB r)) = (vstr (setS d k)).set j (.string (strB r)) by simp [vstr, List.map_set]]
        exact (KO.out.stored j (.string (strB r))).1
      generalize strB (Ek.settleTo d.sure d.loose (fun _ => 1) k j) = OLD at x1
      generalize strB r = SR at HCL HWS KO2
      clear hr hcl hjn hgl hll
      go_wp2_with fail
      refine wp_region_held_drew (S := fun wx => Below w.heap.size w wx) (by kernel_rfl) HWD.out (fun _ => ?_)
      change wpAnyH _ _ _ _ _ 13 (Array.replicate 13 false) _ _
      refine wpAnyH_take (i := 0) (v := ?_) rfl (by kernel_rfl) (by kernel_rfl) (by kernel_rfl) (fun _ _ _ h => h) (Or.inl ⟨rfl, ?hy0⟩) HWD.out ?_
      case hy0 => intro w' hw'; clear hw'; go_simp; first | done | rfl
      try simp only [Act.put, List.getElem_toArray, List.getElem_cons_zero, List.setIfInBounds_toArray, List.set_cons_zero, List.set_cons_succ]
      refine wpAnyH_take (i := 1) (v := ?_) rfl (by kernel_rfl) (by kernel_rfl) (by kernel_rfl) (fun _ _ _ h => h) (Or.inl ⟨rfl, ?hy1⟩) HWD.out ?_
      case hy1 => intro w' hw'; clear hw'; go_simp; first | done | rfl
      try simp only [Act.put, List.getElem_toArray, List.getElem_cons_zero, List.getElem_cons_succ, List.setIfInBounds_toArray, List.set_cons_zero, List.set_cons_succ]
      refine wpAnyH_take (i := 2) (v := ?_) rfl (by kernel_rfl) (by kernel_rfl) (by kernel_rfl) (fun _ _ _ h => h) (Or.inl ⟨rfl, ?hy2⟩) HWD.out ?_
      case hy2 => intro w' hw'; clear hw'; go_simp; first | done | rfl
      try simp only [Act.put, List.getElem_toArray, List.getElem_cons_zero, List.getElem_cons_succ, List.setIfInBounds_toArray, List.set_cons_zero, List.set_cons_succ]
      refine wpAnyH_take (i := 3) (v := ?_) rfl (by kernel_rfl) (by kernel_rfl) (by kernel_rfl) (fun _ _ _ h => h) (Or.inl ⟨rfl, ?hy3⟩) HWD.out ?_
      case hy3 => intro w' hw'; clear hw'; go_simp; first | done | rfl
      try simp only [Act.put, List.getElem_toArray, List.getElem_cons_zero, List.getElem_cons_succ, List.setIfInBounds_toArray, List.set_cons_zero, List.set_cons_succ]
      refine wpAnyH_take (i := 4) (v := ?_) rfl (by kernel_rfl) (by kernel_rfl) (by kernel_rfl) (fun _ _ _ h => h) (Or.inl ⟨rfl, ?hy4⟩) HWD.out ?_
      case hy4 => intro w' hw'; clear hw'; go_simp; first | done | rfl
      try simp only [Act.put, List.getElem_toArray, List.getElem_cons_zero, List.getElem_cons_succ, List.setIfInBounds_toArray, List.set_cons_zero, List.set_cons_succ]
      refine wpAnyH_take (i := 5) (v := ?_) rfl (by kernel_rfl) (by kernel_rfl) (by kernel_rfl) (fun _ _ _ h => h) (Or.inl ⟨rfl, ?hy5⟩) HWD.out ?_
      case hy5 => intro w' hw'; obtain ⟨q1, q2⟩ := HCL.out w' hw'; clear hw'; go_simp; first | done | rfl
      try simp only [Act.put, List.getElem_toArray, List.getElem_cons_zero, List.getElem_cons_succ, List.setIfInBounds_toArray, List.set_cons_zero, List.set_cons_succ]
      refine wpAnyH_take (i := 6) (v := ?_) rfl (by kernel_rfl) (by kernel_rfl) (by kernel_rfl) (fun _ _ _ h => h) (Or.inl ⟨rfl, ?hy6⟩) HWD.out ?_
      case hy6 => intro w' hw'; clear hw'; go_simp; first | done | rfl
      try simp only [Act.put, List.getElem_toArray, List.getElem_cons_zero, List.getElem_cons_succ, List.setIfInBounds_toArray, List.set_cons_zero, List.set_cons_succ]
      refine wpAnyH_take (i := 7) (v := ?_) rfl (by kernel_rfl) (by kernel_rfl) (by kernel_rfl) (fun _ _ _ h => h) (Or.inl ⟨rfl, ?hy7⟩) HWD.out ?_
      case hy7 => intro w' hw'; clear hw'; go_simp; first | done | rfl
      try simp only [Act.put, List.getElem_toArray, List.getElem_cons_zero, List.getElem_cons_succ, List.setIfInBounds_toArray, List.set_cons_zero, List.set_cons_succ]
      refine wpAnyH_take (i := 8) (v := ?_) rfl (by kernel_rfl) (by kernel_rfl) (by kernel_rfl) (fun _ _ _ h => h) (Or.inl ⟨rfl, ?hy8⟩) HWD.out ?_
      case hy8 => intro w' hw'; clear hw'; go_simp; first | done | rfl
      try simp only [Act.put, List.getElem_toArray, List.getElem_cons_zero, List.getElem_cons_succ, List.setIfInBounds_toArray, List.set_cons_zero, List.set_cons_succ]
      refine wpAnyH_take (i := 9) (v := ?_) rfl (by kernel_rfl) (by kernel_rfl) (by kernel_rfl) (fun _ _ _ h => h) (Or.inl ⟨rfl, ?hy9⟩) HWD.out ?_
      case hy9 => intro w' hw'; clear hw'; go_simp; first | done | rfl
      try simp only [Act.put, List.getElem_toArray, List.getElem_cons_zero, List.getElem_cons_succ, List.setIfInBounds_toArray, List.set_cons_zero, List.set_cons_succ]
      refine wpAnyH_take (i := 10) (v := ?_) rfl (by kernel_rfl) (by kernel_rfl) (by kernel_rfl) (fun _ _ _ h => h) (Or.inl ⟨rfl, ?hy10⟩) HWD.out ?_
      case hy10 => intro w' hw'; obtain ⟨q1, q2⟩ := HCL.out w' hw'; clear hw'; go_simp; first | done | rfl
      try simp only [Act.put, List.getElem_toArray, List.getElem_cons_zero, List.getElem_cons_succ, List.setIfInBounds_toArray, List.set_cons_zero, List.set_cons_succ]
      refine wpAnyH_take (i := 11) (v := ?_) rfl (by kernel_rfl) (by kernel_rfl) (by kernel_rfl) (fun _ _ _ h => h) (Or.inl ⟨rfl, ?hy11⟩) HWD.out ?_
      case hy11 => intro w' hw'; clear hw'; go_simp; first | done | rfl
      try simp only [Act.put, List.getElem_toArray, List.getElem_cons_zero, List.getElem_cons_succ, List.setIfInBounds_toArray, List.set_cons_zero, List.set_cons_succ]
      refine wpAnyH_ready (rs := [12]) (by kernel_rfl) (by simp) ?_
      refine AllReadyH.cons rfl (fun K hK => ?_) AllReadyH.nil
      go_simp
      refine hK.out _ _ HWS.out (fun _ => ?_)
      clear hK K
      try simp only [Act.put, List.getElem_toArray, List.getElem_cons_zero, List.getElem_cons_succ, List.setIfInBounds_toArray, List.set_cons_zero, List.set_cons_succ]
      refine wpAnyH_done (by kernel_rfl) ?_ _
      go_wp2_with fail
      go_round
      case rel => exact ⟨k + 1, by go_num, by omega, KO2, HWS⟩
      case measure => simp [intOf]; omega
    · obtain rfl : L = k := by omega
      have j0 : decide ((L : Int) < (L : Int)) = false := decide_eq_false (by omega)
      clear hlt hk
      go_wp2_with fail
      go_ret
      exact ⟨g, capn, rfl, KO.out, KB.out⟩
end Go.Proofs.Ythbiibinmofmfaa
