/- Contract of sector.Copy. -/
import Derived.Test.YthbiibinmofmfaaYds
import Derived.Shelf.SlMaps.Clone

namespace Go.Proofs.Ythbiibinmofmfaa
set_option maxRecDepth 100000
open Go.RowKit

theorem eql_nil_writes (w : World) (a : Option Addr) (l c : Nat) : (binOp .eql 60 (.slice a l c) (.slice none 0 0)).run Try.prog w = .ok (.bool a.isNone) w := by
  simp only [binOp]
  simp [run_equal_slice_nil w 60 116 a l c Try.underlying60]

/-- What slices.Clone leaves: a list of its own. -/
def ClPost (w : World) (l : List (Nat × List Nat)) (e : Ending) (w' : World) : Prop :=
  ∃ v, e = .returned v ∧ w'.ownsRow w.heap.size 116 513 v l.length (vws l) ∧ Below w.heap.size w w'

/-- What Copy leaves: another disk alike, in memory of its own. -/
def CpPost (w : World) (d : Ek.Dk) (e : Ending) (w' : World) : Prop :=
  ∃ b S, e = .returned (.pointer (some ⟨b, 0, none⟩)) ∧ Dsk w' S b d ∧ (∀ k, S k → w.heap.size ≤ k ∧ k < w'.heap.size) ∧ Below w.heap.size w w'

/-- The copy, put together. -/
theorem copy_end {w wD : World} {d : Ek.Dk} {C bA bB : Nat} {v : Value} {ns : Nat} {lo0 m1 m3 : Value} {fs : Nat → Option Value} (hok : Ek.Ok d) (hb : Below w.heap.size w wD)
    (hC : Has wD C (.cells #[.int .i64 (d.n : Int), m1, lo0, m3, .int .i64 d.left, .bool d.dark] 62 (0, 0))) (hA : Mp wD bA ns fs) (hfs : ∀ i, fs i = some (.agg (vb (d.sure i)).toArray) ∨ (fs i = none ∧ d.sure i = zrow))
    (hB : Mp wD bB d.loose.length (fun i => (Ek.lastOf d.loose i).map fun (k : Nat) => Value.int .i64 (k : Int))) (ho : wD.ownsRow w.heap.size 116 513 v d.loose.length (vws d.loose)) (hCw : w.heap.size ≤ C) (hAw : w.heap.size ≤ bA) (hBw : w.heap.size ≤ bB) (hAB : bA ≠ bB) :
    CpPost w d (.returned (.pointer (some ⟨C, 0, none⟩))) (((wD.setCell ⟨C, 1, none⟩ (.map (some bA))).setCell ⟨C, 2, none⟩ v).setCell ⟨C, 3, none⟩ (.map (some bB))) := by
  have e1 := hC.setSelf (i := 1) (.map (some bA))
  have e2 := e1.setSelf (i := 2) v
  have e3 := e2.setSelf (i := 3) (.map (some bB))
  have nA := hA.ne_has hC
  have nB := hB.ne_has hC
  have nv := own_ne_has ho hC (by decide)
  have same : ∀ k, k ≠ C → (((wD.setCell ⟨C, 1, none⟩ (.map (some bA))).setCell ⟨C, 2, none⟩ v).setCell ⟨C, 3, none⟩ (.map (some bB))).heap[k]? = wD.heap[k]? := fun k hk =>
    (Below.heap_setCell _ ⟨C, 3, none⟩ _ k hk).trans ((Below.heap_setCell _ ⟨C, 2, none⟩ _ k hk).trans (Below.heap_setCell _ ⟨C, 1, none⟩ _ k hk))
  have hsz : (((wD.setCell ⟨C, 1, none⟩ (.map (some bA))).setCell ⟨C, 2, none⟩ v).setCell ⟨C, 3, none⟩ (.map (some bB))).heap.size = wD.heap.size := by simp
  have hv : ∀ g, v.ownBlock = some g → w.heap.size ≤ g ∧ g < wD.heap.size := ho.lt
  refine ⟨C, fun k => w.heap.size ≤ k ∧ k < wD.heap.size, rfl, ⟨bA, bB, ns, v, fs, e3, hA.same (same bA nA), hfs, hB.same (same bB nB), ?_, ⟨hCw, hC.lt⟩, ⟨hAw, hA.lt⟩, ⟨hBw, hB.lt⟩, hAB, hv, Nat.zero_le _, hok⟩, fun k hk => by rw [hsz]; exact hk, ?_⟩
  · have := own_same ho (w' := ((wD.setCell ⟨C, 1, none⟩ (.map (some bA))).setCell ⟨C, 2, none⟩ v).setCell ⟨C, 3, none⟩ (.map (some bB))) (fun g hg => same g (fun e => nv (by rw [hg, e])))
    exact ⟨this.1, this.2.imp id (fun ⟨g, cap, cur, a, _, c⟩ => ⟨g, cap, cur, a, Nat.zero_le _, c⟩)⟩
  · exact ((hb.setCell (p := ⟨C, 1, none⟩) hCw _).setCell (p := ⟨C, 2, none⟩) hCw _).setCell (p := ⟨C, 3, none⟩) hCw _

end Go.Proofs.Ythbiibinmofmfaa

/- Two disks side by side, and blocks that are none of theirs. -/

namespace Go.Proofs.Ythbiibinmofmfaa
set_option maxRecDepth 100000
set_option maxRecDepth 100000
open Go.RowKit

namespace Ek
theorem share_one (a : Nat) : share a 1 = 512 := by simp [share]
/-- What is sure behind the first k writes, all kept: the last write, or what was sure. -/
theorem settle_ones {s : Nat → List Nat} {l : List (Nat × List Nat)} {keep : Nat → Int} (hs : ∀ i, (s i).length = 512) (hl : ∀ p ∈ l, p.2.length = 512) (i : Nat) (k : Nat) (hk : ∀ j, j < k → keep j = 1) :
    settleTo s l keep k i = (match lastTo l i k with | some j => ((l[j]?).map Prod.snd).getD zrow | none => s i) ∧ (settleTo s l keep k i).length = 512 ∧ True := by
  induction k generalizing i with
  | zero => exact ⟨rfl, hs i, trivial⟩
  | succ k ih =>
    simp only [settleTo, lastTo]
    have hkk : ∀ j, j < k → keep j = 1 := fun j hj => hk j (by omega)
    cases hp : l[k]? with
    | none => simpa using ih i hkk
    | some p =>
      have hp2 := hl p (List.mem_of_getElem? hp)
      rw [hk k (by omega)]
      show lay _ _ _ (share p.1 1) i = _ ∧ (lay _ _ _ (share p.1 1) i).length = 512 ∧ True
      rw [share_one]
      have h1 := (ih p.1 hkk).2.1
      have e : p.2.take 512 ++ (settleTo s l keep k p.1).drop 512 = p.2 := by
        rw [List.take_of_length_le (by omega), List.drop_eq_nil_of_le (by omega), List.append_nil]
      unfold lay
      by_cases hi : i = p.1
      · rw [if_pos hi, e, if_pos (by simp [hi])]
        exact ⟨by simp [hp], hp2, trivial⟩
      · rw [if_neg hi, if_neg (by simpa using fun h => hi h.symm)]
        exact ih i hkk
theorem Row.len {r : List Nat} (h : Row r) : r.length = 512 := h.1
/-- Where each write is kept whole, what is read stays as it was. -/
theorem now_ones {d : Dk} (h : Ok d) {keep : Nat → Int} (hk : ∀ j, j < d.loose.length → keep j = 1) (i : Nat) : settleTo d.sure d.loose keep d.loose.length i = now d i := by
  have := (settle_ones (fun i => (h.sure i).1) (fun p hp => (h.loose p hp).2.1) i d.loose.length hk).1
  rw [this]; rfl
theorem now_crash_ones {d : Dk} (h : Ok d) (i : Nat) : now (crash d (nth (List.replicate d.loose.length 1))) i = now d i := by
  show settleTo d.sure d.loose _ d.loose.length i = _
  exact now_ones h (fun j hj => by unfold nth; rw [List.getElem?_replicate, if_pos hj]; rfl) i
theorem now_settled {d : Dk} (h : Ok d) (i : Nat) : now (settled d (fun _ => 1)) i = now d i := by
  show settleTo d.sure d.loose _ d.loose.length i = _
  exact now_ones h (fun _ _ => rfl) i
theorem strs_same {d e : Dk} (n : Nat) (h : ∀ i, now d i = now e i) : strsTo d n = strsTo e n := by
  unfold strsTo; simp only [h]
end Ek

/-- Two disks; E is in neither. -/
def L2 (w0 w : World) (b : Nat) (d : Ek.Dk) (c : Nat) (e : Ek.Dk) (E : Nat → Prop) : Prop :=
  ∃ S T : Nat → Prop, Dsk w S b d ∧ Dsk w T c e ∧ (∀ k, S k → w0.heap.size ≤ k ∧ k < w.heap.size ∧ ¬ E k ∧ ¬ T k) ∧ (∀ k, T k → w0.heap.size ≤ k ∧ k < w.heap.size ∧ ¬ E k) ∧ (∀ k, E k → k < w.heap.size) ∧ Below w0.heap.size w0 w
theorem L2.one {w0 w : World} {b c : Nat} {d e : Ek.Dk} {E : Nat → Prop} (h : L2 w0 w b d c e E) : Lv w0 w b d w.heap.size := by
  obtain ⟨S, T, h1, h2, h3, h4, h5, h6⟩ := h
  exact ⟨S, h1, fun k hk => ⟨(h3 k hk).1, (h3 k hk).2.1⟩, Nat.le_refl _, h6⟩
theorem L2.two {w0 w : World} {b c : Nat} {d e : Ek.Dk} {E : Nat → Prop} (h : L2 w0 w b d c e E) : Lv w0 w c e w.heap.size := by
  obtain ⟨S, T, h1, h2, h3, h4, h5, h6⟩ := h
  exact ⟨T, h2, fun k hk => ⟨(h4 k hk).1, (h4 k hk).2.1⟩, Nat.le_refl _, h6⟩
theorem L2.below {w0 w : World} {b c : Nat} {d e : Ek.Dk} {E : Nat → Prop} (h : L2 w0 w b d c e E) : Below w0.heap.size w0 w := h.one.below
theorem L2.later {w0 w w' : World} {b c : Nat} {d e : Ek.Dk} {E : Nat → Prop} (h : L2 w0 w b d c e E) (hb : Below w.heap.size w w') : L2 w0 w' b d c e E := by
  obtain ⟨S, T, h1, h2, h3, h4, h5, h6⟩ := h
  have := hb.size
  exact ⟨S, T, h1.later hb, h2.later hb, fun k hk => ⟨(h3 k hk).1, by have := (h3 k hk).2.1; omega, (h3 k hk).2.2⟩, fun k hk => ⟨(h4 k hk).1, by have := (h4 k hk).2.1; omega, (h4 k hk).2.2⟩, fun k hk => by have := h5 k hk; omega, h6.trans (hb.mono h6.size)⟩
theorem L2.add {w0 w w' : World} {b c : Nat} {d e : Ek.Dk} {E : Nat → Prop} (h : L2 w0 w b d c e E) (hb : Below w.heap.size w w') (g : Nat) (q1 : w.heap.size ≤ g) (q2 : g < w'.heap.size) : L2 w0 w' b d c e (fun k => E k ∨ k = g) := by
  obtain ⟨S, T, h1, h2, h3, h4, h5, h6⟩ := h
  have := hb.size
  refine ⟨S, T, h1.later hb, h2.later hb, fun k hk => ⟨(h3 k hk).1, by have := (h3 k hk).2.1; omega, ?_, (h3 k hk).2.2.2⟩, fun k hk => ⟨(h4 k hk).1, by have := (h4 k hk).2.1; omega, ?_⟩, fun k hk => ?_, h6.trans (hb.mono h6.size)⟩
  · rintro (h | rfl)
    · exact (h3 k hk).2.2.1 h
    · have := (h3 k hk).2.1; omega
  · rintro (h | rfl)
    · exact (h4 k hk).2.2 h
    · have := (h4 k hk).2.1; omega
  · rcases hk with h | rfl
    · have := h5 k h; omega
    · exact q2
/-- A disk is copied. -/
theorem Ly.copied {w0 w w' : World} {b : Nat} {d : Ek.Dk} {E : Nat → Prop} {e : Ending} (h : Ly w0 w b d E) (hc : CpPost w d e w') : ∃ c, e = .returned (.pointer (some ⟨c, 0, none⟩)) ∧ L2 w0 w' b d c d E ∧ Below w.heap.size w w' := by
  obtain ⟨S, h1, h2, h3, h4⟩ := h
  obtain ⟨c, T, he, k1, k2, hb⟩ := hc
  have := hb.size
  have := h4.size
  exact ⟨c, he, ⟨S, T, h1.later hb, k1, fun k hk => ⟨(h2 k hk).1, by have := (h2 k hk).2.1; omega, (h2 k hk).2.2, fun ht => by have := (k2 k ht).1; have := (h2 k hk).2.1; omega⟩, fun k hk => ⟨by have := (k2 k hk).1; omega, (k2 k hk).2, fun he => by have := (k2 k hk).1; have := h3 k he; omega⟩, fun k hk => by have := h3 k hk; omega, h4.trans (hb.mono h4.size)⟩, hb⟩
/-- What a call leaves of two disks. -/
def L2P (w0 w : World) (b : Nat) (d : Ek.Dk) (c : Nat) (e : Ek.Dk) (E : Nat → Prop) (v : Value) (x : Ending) (w' : World) : Prop := x = .returned v ∧ L2 w0 w' b d c e E ∧ ∀ k, E k → w'.heap[k]? = w.heap[k]?
theorem l2_sync {w0 w : World} {b c : Nat} {d e : Ek.Dk} {E : Nat → Prop} (h : L2 w0 w b d c e E) (hu : e.used ≤ 1000) : Calls Try.prog 33 #[.pointer (some ⟨c, 0, none⟩)] w (L2P w0 w b d c (Ek.sync e) E (.int .i64 (Ek.changeE e))) := by
  obtain ⟨S, T, h1, h2, h3, h4, h5, h6⟩ := h
  refine (sync_any w T c e h2 hu).mono fun x w' hp => ?_
  obtain ⟨e1, T', k1, k2, k3⟩ := hp
  have q1 := k2.size
  have q0 := h6.size
  refine ⟨e1, ⟨S, T', h1.tch k2 (fun k hk => (h3 k hk).2.2.2), k1, fun k hk => ⟨(h3 k hk).1, by have := (h3 k hk).2.1; omega, (h3 k hk).2.2.1, fun ht => ?_⟩, fun k hk => ?_, fun k hk => by have := h5 k hk; omega, k2.below h6 (fun k hk => (h4 k hk).1) q0⟩, fun k hk => k2.block k (h5 k hk) (fun hT => (h4 k hT).2.2 hk)⟩
  · rcases k3 k ht with q | q
    · exact (h3 k hk).2.2.2 q
    · have := (h3 k hk).2.1; omega
  · rcases k3 k hk with q | q
    · exact ⟨(h4 k q).1, by have := (h4 k q).2.1; omega, (h4 k q).2.2⟩
    · exact ⟨by omega, q.2, fun he => by have := h5 k he; omega⟩
theorem l2_crash {w0 w : World} {b c : Nat} {d e : Ek.Dk} {E : Nat → Prop} (h : L2 w0 w b d c e E) (ksv : Value) (ks : List Int) (hk : Ks w ksv ks) : Calls Try.prog 15 #[.pointer (some ⟨b, 0, none⟩), ksv] w (L2P w0 w b (Ek.crash d (Ek.nth ks)) c e E (.int .i64 0)) := by
  obtain ⟨S, T, h1, h2, h3, h4, h5, h6⟩ := h
  refine (crash_any w S b d ksv ks h1 hk).mono fun x w' hp => ?_
  obtain ⟨e1, S', k1, k2, k3⟩ := hp
  have q1 := k2.size
  have q0 := h6.size
  refine ⟨e1, ⟨S', T, k1, h2.tch k2 (fun k hk hs => (h3 k hs).2.2.2 hk), fun k hk => ?_, fun k hk => ⟨(h4 k hk).1, by have := (h4 k hk).2.1; omega, (h4 k hk).2.2⟩, fun k hk => by have := h5 k hk; omega, k2.below h6 (fun k hk => (h3 k hk).1) q0⟩, fun k hk => k2.block k (h5 k hk) (fun hS => (h3 k hS).2.2.1 hk)⟩
  rcases k3 k hk with q | q
  · exact ⟨(h3 k q).1, by have := (h3 k q).2.1; omega, (h3 k q).2.2.1, (h3 k q).2.2.2⟩
  · exact ⟨by omega, q.2, fun he => by have := h5 k he; omega, fun ht => by have := (h4 k ht).2.1; omega⟩

/-- A row of 1s of the call's own. -/
def v1s (k : Nat) : List Value := List.replicate k (.int .i64 1)
theorem own_ks {w : World} {base : Nat} {v : Value} {k : Nat} (h : w.ownsRow base 3 1 v k (v1s k)) (hk : k ≤ 1000000) : Ks w v (List.replicate k (1 : Int)) := by
  rcases h.2 with ⟨e, h0⟩ | ⟨g, cap, cur, rfl, hb, hg, hc1, hc2, hc3, hc4⟩
  · subst e; subst h0; exact ⟨none, 0, rfl, by simp, by simp, fun h => by simp at h⟩
  · have hown : w.ownsRow base 3 1 (.slice (some ⟨g, 0, none⟩) k cap) k (v1s k) := ⟨h.1, Or.inr ⟨g, cap, cur, rfl, hb, hg, hc1, hc2, hc3, hc4⟩⟩
    refine ⟨some ⟨g, 0, none⟩, cap, by simp, ?_, fun x hx => by rw [List.eq_of_mem_replicate hx]; omega, fun _ => ⟨g, 0, rfl, fun i hi => ?_⟩⟩
    · simp; omega
    · rw [List.length_replicate] at hi
      rw [Nat.zero_add, hown.cellAt i (by omega)]
      unfold v1s
      rw [List.getElem?_replicate, List.getElem?_replicate, if_pos hi, if_pos hi]; rfl
theorem append_1 {w : World} {base : Nat} {v : Value} {k : Nat} (h : w.ownsRow base 3 1 v k (v1s k)) (hl : k ≤ 1000000) (g : Nat) (hg : Has w g (.cells #[.int .i64 1] 3 (0, 0))) (hb : base ≤ w.heap.size) :
    ∃ v' w', (Builtin.append_ #[36, 36] 36 #[v, .slice (some ⟨g, 0, none⟩) 1 1]).run Try.prog w = .ok v' w' ∧ w'.ownsRow base 3 1 v' (k + 1) (v1s (k + 1)) ∧ w.grownBy w' v.ownBlock := by
  obtain ⟨i0, hi, hz0, hz1, hz2⟩ := info_parts Try.infoInt
  obtain ⟨v', w', h1, h2, h3, _⟩ := run_append_own_at (P := Try.prog) (w := w) base 36 36 3 i0 _ 1 8 Try.underlying36 hi hz0 hz1 hz2 rfl (by decide) v k (v1s k) h ⟨g, 0, none⟩ 1 1 [.int .i64 1] rfl
    (fun j u hj => by
      obtain rfl : j = 0 := by have := (List.getElem?_eq_some_iff.1 hj).1; simpa using this
      rw [Addr.add_mid, hg.cell]; exact hj) (by simp [Value.oneCell']) (by unfold maxLen; omega) (by omega) hb
  refine ⟨v', w', h1, ?_, h3⟩
  rw [show v1s (k + 1) = v1s k ++ [.int .i64 1] by unfold v1s; rw [List.replicate_succ']]
  exact h2
end Go.Proofs.Ythbiibinmofmfaa
