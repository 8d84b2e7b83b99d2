/- Contracts of slots' steps (a Write of a piece, a Write of a header, a Sync) and of run. -/
import Derived.Test.YthbiibinmofmfaaZload
import Derived.Test.YthbiibinmofmfaaYds
import Derived.Test.YthbiibinmofmfaaQtail

namespace Go.Proofs.Ythbiibinmofmfaa
set_option maxRecDepth 100000
open Go.RowKit

theorem Try.infoPart : (Try.prog.info? 92).map (fun i => (i.zero, i.size, i.bytes)) = some (some (.agg (vb zrow).toArray), 512, 512) := by kernel_rfl
theorem part_zero (w : World) : (zeroValue 92).run Try.prog w = .ok (.agg (vb zrow).toArray) w := (zero_of_parts Try.infoPart).1 w
theorem piece_splice (p : List Nat) : splice (vb zrow) 0 (vb p) = vb (Sk.padded p) := by
  unfold Sk.padded splice
  rw [vb_append, List.take_zero, List.nil_append, vb_length, Nat.zero_add]
  congr 1
  unfold zrow vb
  rw [← List.map_drop, List.drop_replicate]
theorem DP.base {w w0 : World} {S : Nat → Prop} {b : Nat} {d : Ek.Dk} {v : Value} {e : Ending} {w' : World} (h : DP w S b d v e w') (hb : Below w0.heap.size w0 w) : DP w0 S b d v e w' :=
  h.from (Tch.of_below hb) (fun _ hk => Or.inl hk)

set_option maxRecDepth 100000 in
set_option maxHeartbeats 4000000 in
/-- A piece is written. -/
theorem fillstep_any (w : World) (S : Nat → Prop) (b : Nat) (d : Ek.Dk) (h : Dsk w S b d) (hS : ∀ k, S k → k < w.heap.size) (p1 p2 p3 : Nat) (i : Nat) (sa : Option Addr) (n cap : Nat) (p : List Nat)
    (h1 : w.cell? ⟨p1, 0, none⟩ = some (.slice sa n cap)) (h2 : w.cell? ⟨p2, 0, none⟩ = some (.pointer (some ⟨b, 0, none⟩))) (h3 : w.cell? ⟨p3, 0, none⟩ = some (.int .i64 (i : Int))) (hp : Sl w (.slice sa n cap) p) (hl : p.length ≤ 512) (hu : d.used < 1000000) :
    Calls Try.prog 57 #[.pointer (some ⟨p1, 0, none⟩), .pointer (some ⟨p2, 0, none⟩), .pointer (some ⟨p3, 0, none⟩)] w (DP w S b (Ek.write d (i : Int) (Sk.padded p)) (.int .i64 (Ek.writeE d (i : Int) (Sk.padded p)))) := by
  have hal := part_zero
  have HD := Lib.hid h
  have HS := Lib.hid hS
  have HP := Lib.hid hp
  obtain ⟨hn, _, _⟩ := hp.len
  have HC : Hid (∀ wA, Hid (wA.heap[w.heap.size]? = some (.cells (splice (vb zrow) 0 (vb p)).toArray 92 (0, 0))) → Only w.heap.size (w.alloc (.cells (vb zrow).toArray 92)).drew wA → Below w.heap.size w wA ∧ Sl wA (.slice (some ⟨w.heap.size, 0, none⟩) 512 512) (Sk.padded p)) := fun wA hgA hoA => by
    have hgA' := hgA.out
    rw [piece_splice p] at hgA'
    have HA : Has wA w.heap.size (.cells (vb (Sk.padded p)).toArray 92 (0, 0)) := hgA'
    have hlen : (Sk.padded p).length = 512 := by unfold Sk.padded; rw [List.length_append, List.length_replicate]; omega
    refine ⟨hoA.below (below_drewN (below1 w _) 1) (Nat.le_refl _) (by show _ ≤ (w.alloc _).heap.size; simp), has_sl HA (fun x hx => ?_) (by rw [hlen]; decide) 512 512 hlen.symm⟩
    rcases List.mem_append.1 hx with q | q
    · exact HP.out.facts8 x q
    · rw [List.eq_of_mem_replicate q]; omega
  have HW : Hid (∀ wA, Below w.heap.size w wA → Sl wA (.slice (some ⟨w.heap.size, 0, none⟩) 512 512) (Sk.padded p) → Calls Try.prog 39 #[.pointer (some ⟨b, 0, none⟩), .int .i64 (i : Int), .slice (some ⟨w.heap.size, 0, none⟩) 512 512] wA (DP w S b (Ek.write d (i : Int) (Sk.padded p)) (.int .i64 (Ek.writeE d (i : Int) (Sk.padded p))))) := fun wA hb hs =>
    (write_any wA S b d (i : Int) (Sk.padded p) _ (HD.out.later hb) hs (fun g off spot len cap e hk => by injection e with e1 _ _; injection e1 with e1; injection e1 with e1 _ _; have := HS.out g hk; omega) hu).mono fun e w' hp => hp.base hb
  have H1 : Hid ((w.alloc (.cells (vb zrow).toArray 92)).drew.heap[w.heap.size]? = some (.cells (vb zrow).toArray 92 (0, 0))) := Has.new w _
  have H4 : Hid ((vb p).length = Nat.min n 512) := by show _ = min n 512; rw [vb_length]; omega
  have H5 : Hid (0 < (vb p).length → ∃ ad, sa = some ad ∧ ∀ j v, (vb p)[j]? = some v → (w.alloc (.cells (vb zrow).toArray 92)).drew.cell? (ad.add j) = some v) := fun h0 => (hp.later (below_drewN (below1 w _) 1)).cells (by rw [vb_length] at h0; omega)
  have H6 : Hid (0 + (vb p).length ≤ (vb zrow).length) := by show _ ≤ _; rw [vb_length, vb_length, zrow_length]; omega
  have HLT : Hid (p1 < w.heap.size ∧ p2 < w.heap.size ∧ p3 < w.heap.size) := ⟨World.block_lt_of_cell? w _ h1, World.block_lt_of_cell? w _ h2, World.block_lt_of_cell? w _ h3⟩
  have C1 := Lib.hid h1
  have C2 := Lib.hid h2
  have C3 := Lib.hid h3
  generalize Ek.writeE d (i : Int) (Sk.padded p) = E at HW ⊢
  clear h hp hS h1 h2 h3 hn
  go_enter Try.func57, Try.ntmps57
  go_wp2_with fail
  refine region_qtail 2 (by kernel_rfl) (by kernel_rfl) fun W hW => ?_
  have c1 : W.cell? ⟨p1, 0, none⟩ = some (.slice sa n cap) := by rw [hW]; exact ((below1 w _).cell (p := ⟨p1, 0, none⟩) HLT.out.1).trans C1.out
  rw [← hW] at H1 H5
  have HC2 := HC
  rw [← hW] at HC2
  clear HC hW
  simp only [List.take_succ_cons, List.take_zero, List.drop_succ_cons, List.drop_zero]
  iterate 2 (go_big_quiet_step (fail))
  refine wpQuiet_nil ?_
  refine wpList_copy_only rfl (.tmp 5) (.tmp 6) 35 35 rfl 5 Try.underlying35 (by kernel_rfl) (some ⟨w.heap.size, 0, none⟩) sa 512 512 n cap rfl rfl w.heap.size 0 (vb zrow) 92 H1.out (vb p) H4.out (fun h0 => ⟨rfl, H5.out h0⟩) H6.out (oneCell_vb _) ?_
  intro wA hgA hoA
  have HX := Lib.hid (HC2.out wA hgA hoA)
  clear hgA hoA HC2 H1 H4 H5 H6 c1
  simp only [Act.put, List.setIfInBounds_toArray, List.set_cons_zero, List.set_cons_succ]
  go_wp2_with fail
  refine region_qtail 3 (by kernel_rfl) (by kernel_rfl) fun W2 hW2 => ?_
  have c2 : W2.cell? ⟨p2, 0, none⟩ = some (.pointer (some ⟨b, 0, none⟩)) := by rw [hW2]; exact (HX.out.1.cell (p := ⟨p2, 0, none⟩) HLT.out.2.1).trans C2.out
  have c3 : W2.cell? ⟨p3, 0, none⟩ = some (.int .i64 (i : Int)) := by rw [hW2]; exact (HX.out.1.cell (p := ⟨p3, 0, none⟩) HLT.out.2.2).trans C3.out
  have HCALL := Lib.hid (HW.out W2 (by rw [hW2]; exact below_drewN HX.out.1 1) (by rw [hW2]; exact HX.out.2))
  clear hW2 HX HW
  simp only [List.take_succ_cons, List.take_zero, List.drop_succ_cons, List.drop_zero]
  iterate 3 (go_big_quiet_step (fail))
  refine wpQuiet_nil ?_
  go_wp2_with fail
  refine HCALL.out.mono ?_
  clear HCALL c2 c3
  rintro e w' hq
  have he := hq.1
  subst he
  have HQ := Lib.hid hq
  clear hq
  go_wp2_with fail
  go_ret
  exact HQ.out

set_option maxRecDepth 100000 in
set_option maxHeartbeats 4000000 in
/-- A header is written. -/
theorem sealstep_any (w : World) (S : Nat → Prop) (b : Nat) (d : Ek.Dk) (h : Dsk w S b d) (p2 p5 : Nat) (r : List Nat) (h5S : ¬ S p5)
    (h2 : w.cell? ⟨p2, 0, none⟩ = some (.pointer (some ⟨b, 0, none⟩))) (h5 : Has w p5 (.cells (vb r).toArray 100 (0, 0))) (hr : Row r) (hu : d.used < 1000000) :
    Calls Try.prog 61 #[.pointer (some ⟨p2, 0, none⟩), .pointer (some ⟨p5, 0, none⟩)] w (DP w S b (Ek.write d 0 r) (.int .i64 (Ek.writeE d 0 r))) := by
  have HW : Hid (∀ wA, Below w.heap.size w wA → Calls Try.prog 39 #[.pointer (some ⟨b, 0, none⟩), .int .i64 0, .slice (some ⟨p5, 0, none⟩) 512 512] wA (DP w S b (Ek.write d 0 r) (.int .i64 (Ek.writeE d 0 r)))) := fun wA hb =>
    (write_any wA S b d 0 r _ (h.later hb) (has_sl (Has.later h5 hb) hr.2 (by rw [hr.1]; decide) 512 512 hr.1.symm) (fun g off spot len cap e hk => by injection e with e1 _ _; injection e1 with e1; injection e1 with e1 _ _; exact h5S (e1 ▸ hk)) hu).mono fun e w' hp => hp.base hb
  have C2 := Lib.hid h2
  generalize Ek.writeE d 0 r = E at HW ⊢
  clear h h5S h5 hr hu h2
  go_enter Try.func61, Try.ntmps61
  go_wp2_with fail
  refine region_qtail 2 (by kernel_rfl) (by kernel_rfl) fun W2 hW2 => ?_
  have c2 : W2.cell? ⟨p2, 0, none⟩ = some (.pointer (some ⟨b, 0, none⟩)) := by rw [hW2]; exact C2.out
  have HCALL := Lib.hid (HW.out W2 (by rw [hW2]; exact below_drewN (Below.refl _ _) 1))
  clear hW2 HW
  simp only [List.take_succ_cons, List.take_zero, List.drop_succ_cons, List.drop_zero]
  iterate 2 (go_big_quiet_step (fail))
  refine wpQuiet_nil ?_
  go_wp2_with fail
  refine HCALL.out.mono ?_
  clear HCALL c2
  rintro e w' hq
  have he := hq.1
  subst he
  have HQ := Lib.hid hq
  clear hq
  go_wp2_with fail
  go_ret
  exact HQ.out
end Go.Proofs.Ythbiibinmofmfaa

/- Contract of slots' run: steps, one after the other, until one fails. -/
namespace Go.Proofs.Ythbiibinmofmfaa
set_option maxRecDepth 100000
open Go.RowKit

theorem Sl.same {w w' : World} {s : Value} {bs : List Nat} (h : Sl w s bs) (he : ∀ g off spot len cap, s = .slice (some ⟨g, off, spot⟩) len cap → w'.heap[g]? = w.heap[g]?) : Sl w' s bs := by
  obtain ⟨a, len, cap, e, h1, h2, h3, h4, h5⟩ := h
  refine ⟨a, len, cap, e, h1, h2, h3, h4, fun h0 => ?_⟩
  obtain ⟨b, off, rfl, hlt, hc⟩ := h5 h0
  have hb := he b off none len cap e
  refine ⟨b, off, rfl, ?_, fun i hi => (World.cell?_of_block (a := ⟨b, off + i, none⟩) hb).trans (hc i hi)⟩
  have e2 : w'.heap[b]? = some _ := hb.trans (Array.getElem?_eq_getElem hlt)
  exact (Array.getElem?_eq_some_iff.1 e2).1

/-- The function value v does the step x on the disk at b; what it reads lies in E. -/
def StAt (w : World) (E : Nat → Prop) (b : Nat) (v : Value) : Sk.Step → Prop
  | .sync => v = .func (.func 33) #[.pointer (some ⟨b, 0, none⟩)] #[]
  | .put i r => (∃ (p1 p2 p3 : Nat) (sa : Option Addr) (n cap : Nat) (p : List Nat), v = .func (.func 57) #[] #[.pointer (some ⟨p1, 0, none⟩), .pointer (some ⟨p2, 0, none⟩), .pointer (some ⟨p3, 0, none⟩)] ∧
        w.cell? ⟨p1, 0, none⟩ = some (.slice sa n cap) ∧ w.cell? ⟨p2, 0, none⟩ = some (.pointer (some ⟨b, 0, none⟩)) ∧ w.cell? ⟨p3, 0, none⟩ = some (.int .i64 (i : Int)) ∧ Sl w (.slice sa n cap) p ∧ p.length ≤ 512 ∧ r = Sk.padded p ∧ E p1 ∧ E p2 ∧ E p3 ∧
        ∀ g off spot len c, Value.slice sa n cap = .slice (some ⟨g, off, spot⟩) len c → E g) ∨
      (i = 0 ∧ ∃ p2 p5 : Nat, v = .func (.func 61) #[] #[.pointer (some ⟨p2, 0, none⟩), .pointer (some ⟨p5, 0, none⟩)] ∧ w.cell? ⟨p2, 0, none⟩ = some (.pointer (some ⟨b, 0, none⟩)) ∧ Has w p5 (.cells (vb r).toArray 100 (0, 0)) ∧ Row r ∧ E p2 ∧ E p5)
theorem StAt.keep {w w' : World} {E : Nat → Prop} {b : Nat} {v : Value} {x : Sk.Step} (h : StAt w E b v x) (he : ∀ k, E k → w'.heap[k]? = w.heap[k]?) : StAt w' E b v x := by
  cases x with
  | sync => exact h
  | put i r =>
    rcases h with ⟨p1, p2, p3, sa, n, cap, p, hv, h1, h2, h3, h4, h5, h6, e1, e2, e3, h7⟩ | ⟨h0, p2, p5, hv, h1, h2, h3, e1, e2⟩
    · exact Or.inl ⟨p1, p2, p3, sa, n, cap, p, hv, (World.cell?_of_block (a := ⟨p1, 0, none⟩) (he p1 e1)).trans h1, (World.cell?_of_block (a := ⟨p2, 0, none⟩) (he p2 e2)).trans h2, (World.cell?_of_block (a := ⟨p3, 0, none⟩) (he p3 e3)).trans h3,
        h4.same (fun g off spot len c e => he g (h7 g off spot len c e)), h5, h6, e1, e2, e3, h7⟩
    · exact Or.inr ⟨h0, p2, p5, hv, (World.cell?_of_block (a := ⟨p2, 0, none⟩) (he p2 e1)).trans h1, (he p5 e2).trans h2, h3, e1, e2⟩
theorem StAt.mono {w : World} {E E' : Nat → Prop} {b : Nat} {v : Value} {x : Sk.Step} (h : StAt w E b v x) (he : ∀ k, E k → E' k) : StAt w E' b v x := by
  cases x with
  | sync => exact h
  | put i r =>
    rcases h with ⟨p1, p2, p3, sa, n, cap, p, hv, h1, h2, h3, h4, h5, h6, e1, e2, e3, h7⟩ | ⟨h0, p2, p5, hv, h1, h2, h3, e1, e2⟩
    · exact Or.inl ⟨p1, p2, p3, sa, n, cap, p, hv, h1, h2, h3, h4, h5, h6, he _ e1, he _ e2, he _ e3, fun g off spot len c e => he g (h7 g off spot len c e)⟩
    · exact Or.inr ⟨h0, p2, p5, hv, h1, h2, h3, he _ e1, he _ e2⟩
/-- The values vs do the steps xs. -/
def StsAt (w : World) (E : Nat → Prop) (b : Nat) (vs : List Value) (xs : List Sk.Step) : Prop := vs.length = xs.length ∧ ∀ (i : Nat) (v : Value) (x : Sk.Step), vs[i]? = some v → xs[i]? = some x → StAt w E b v x
theorem StsAt.keep {w w' : World} {E : Nat → Prop} {b : Nat} {vs : List Value} {xs : List Sk.Step} (h : StsAt w E b vs xs) (he : ∀ k, E k → w'.heap[k]? = w.heap[k]?) : StsAt w' E b vs xs := ⟨h.1, fun i v x h1 h2 => (h.2 i v x h1 h2).keep he⟩
theorem StsAt.mono {w : World} {E E' : Nat → Prop} {b : Nat} {vs : List Value} {xs : List Sk.Step} (h : StsAt w E b vs xs) (he : ∀ k, E k → E' k) : StsAt w E' b vs xs := ⟨h.1, fun i v x h1 h2 => (h.2 i v x h1 h2).mono he⟩
theorem StsAt.append {w : World} {E : Nat → Prop} {b : Nat} {vs us : List Value} {xs ys : List Sk.Step} (h : StsAt w E b vs xs) (h' : StsAt w E b us ys) : StsAt w E b (vs ++ us) (xs ++ ys) := by
  refine ⟨by rw [List.length_append, List.length_append, h.1, h'.1], fun i v x h1 h2 => ?_⟩
  rw [List.getElem?_append] at h1 h2
  by_cases hi : i < vs.length
  · rw [if_pos hi] at h1; rw [if_pos (by rw [← h.1]; exact hi)] at h2; exact h.2 i v x h1 h2
  · rw [if_neg hi] at h1; rw [if_neg (by rw [← h.1]; exact hi)] at h2; rw [← h.1] at h2; exact h'.2 _ v x h1 h2
theorem StsAt.nil (w : World) (E : Nat → Prop) (b : Nat) : StsAt w E b [] [] := ⟨rfl, fun i v x h => by simp at h⟩
theorem StsAt.one {w : World} {E : Nat → Prop} {b : Nat} {v : Value} {x : Sk.Step} (h : StAt w E b v x) : StsAt w E b [v] [x] := ⟨rfl, fun i u y h1 h2 => by
  rcases i with _ | i
  · simp only [List.getElem?_cons_zero, Option.some.injEq] at h1 h2; subst h1 h2; exact h
  · simp at h1⟩

namespace Sk
theorem one_used (d : Ek.Dk) (x : Step) : (one d x).used ≤ d.used + 1 := by
  cases x with
  | put i r =>
    show (Ek.write d (i : Int) r).used ≤ _
    unfold Ek.write
    split
    · omega
    · split
      · omega
      · rw [Ek.change_used]; exact Nat.le_refl _
  | sync =>
    show (Ek.sync d).used ≤ _
    unfold Ek.sync
    split
    · show (Ek.change d).used ≤ _; rw [Ek.change_used]; omega
    · rw [Ek.change_used]; omega
theorem runs_used (d : Ek.Dk) (xs : List Step) : (runs d xs).used ≤ d.used + xs.length := by
  induction xs generalizing d with
  | nil => exact Nat.le_refl _
  | cons x xs ih =>
    simp only [runs, List.length_cons]
    have := one_used d x
    split
    · have := ih (one d x); omega
    · omega
theorem runs_one' (d : Ek.Dk) (x : Step) : runs d [x] = one d x := by simp only [runs]; split <;> rfl
theorem runsE_one' (d : Ek.Dk) (x : Step) : runsE d [x] = oneE d x := by
  simp only [runsE]; split
  · rename_i h; exact h.symm
  · rfl
theorem take_step {d : Ek.Dk} {xs : List Step} {k : Nat} {x : Step} (hx : xs[k]? = some x) (h0 : runsE d (xs.take k) = 0) : runsE d (xs.take (k + 1)) = oneE (runs d (xs.take k)) x ∧ runs d (xs.take (k + 1)) = one (runs d (xs.take k)) x := by
  have e : xs.take (k + 1) = xs.take k ++ [x] := by
    rw [List.take_add_one, hx]; rfl
  rw [e, runsE_append, runs_append, if_pos h0, if_pos h0, runs_one', runsE_one']
  exact ⟨rfl, rfl⟩
theorem stop_step {d : Ek.Dk} {xs : List Step} {k : Nat} {x : Step} (hx : xs[k]? = some x) (h0 : runsE d (xs.take k) = 0) (hz : oneE (runs d (xs.take k)) x ≠ 0) : runsE d xs = oneE (runs d (xs.take k)) x ∧ runs d xs = one (runs d (xs.take k)) x := by
  have hk := (List.getElem?_eq_some_iff.1 hx).1
  have hd : xs.drop k = x :: xs.drop (k + 1) := by
    rw [List.drop_eq_getElem_cons hk]
    congr 1
    exact (List.getElem?_eq_some_iff.1 hx).2
  have e : xs = xs.take k ++ (x :: xs.drop (k + 1)) := by rw [← hd, List.take_append_drop]
  have a := runsE_append d (xs.take k) (x :: xs.drop (k + 1))
  have b := runs_append d (xs.take k) (x :: xs.drop (k + 1))
  rw [← e, if_pos h0] at a b
  rw [a, b]
  simp only [runsE, runs]
  rw [if_neg hz, if_neg hz]
  exact ⟨rfl, rfl⟩
end Sk

/-- A step, whatever it is, called. -/
theorem stepv_any {w : World} {S E : Nat → Prop} {b : Nat} {d : Ek.Dk} {v : Value} {x : Sk.Step} (h : Dsk w S b d) (hS : ∀ k, S k → k < w.heap.size) (hE : ∀ k, E k → ¬ S k) (hst : StAt w E b v x) (hu : d.used < 1000) :
    ∃ (f : FuncId) (first caps : Array Value), v = .func (.func f) first caps ∧ (∀ W, (callFunc f (first ++ caps)).run Try.prog W = .ok (.enter f (first ++ caps)) W) ∧ Calls Try.prog f (first ++ caps) w (DP w S b (Sk.one d x) (.int .i64 (Sk.oneE d x))) := by
  cases x with
  | sync => exact ⟨_, _, _, hst, fun W => Try.call33 _ W, sync_any w S b d h (by omega)⟩
  | put i r =>
    rcases hst with ⟨p1, p2, p3, sa, n, cap, p, hv, h1, h2, h3, h4, h5, rfl, e1, e2, e3, h7⟩ | ⟨rfl, p2, p5, hv, h1, h2, h3, e1, e2⟩
    · exact ⟨_, _, _, hv, fun W => Try.call57 _ W, fillstep_any w S b d h hS p1 p2 p3 i sa n cap p h1 h2 h3 h4 h5 (by omega)⟩
    · exact ⟨_, _, _, hv, fun W => Try.call61 _ W, sealstep_any w S b d h p2 p5 r (hE p5 e2) h1 h2 h3 (by omega)⟩

set_option maxRecDepth 100000 in
set_option maxHeartbeats 4000000 in
theorem run_any (w : World) (S : Nat → Prop) (b : Nat) (d : Ek.Dk) (h : Dsk w S b d) (hS : ∀ k, S k → k < w.heap.size) (E : Nat → Prop) (hE : ∀ k, E k → ¬ S k ∧ k < w.heap.size) (g cap n : Nat) (vs : List Value) (xs : List Sk.Step)
    (hn : n = vs.length) (hg : E g) (hc : ∀ i v, vs[i]? = some v → w.cell? ⟨g, i, none⟩ = some v) (hst : StsAt w E b vs xs) (hu : d.used + xs.length < 1000) :
    Calls Try.prog 30 #[.slice (some ⟨g, 0, none⟩) n cap] w (DP w S b (Sk.runs d xs) (.int .i64 (Sk.runsE d xs))) := by
  have H0 : Hid (DP w S b (Sk.runs d (xs.take 0)) (.tuple #[]) (.returned (.tuple #[])) w) := by
    show DP _ _ _ _ _ _ _
    rw [List.take_zero]; exact dp_same h _
  have HNX : Hid (∀ (k : Nat) (wr : World), k < n → Sk.runsE d (xs.take k) = 0 → DP w S b (Sk.runs d (xs.take k)) (.tuple #[]) (.returned (.tuple #[])) wr → ∃ (f : FuncId) (first caps : Array Value) (x : Sk.Step), xs[k]? = some x ∧ wr.cell? ⟨g, k, none⟩ = some (.func (.func f) first caps) ∧ (∀ W, (callFunc f (first ++ caps)).run Try.prog W = .ok (.enter f (first ++ caps)) W) ∧ Calls Try.prog f (first ++ caps) wr (DP w S b (Sk.one (Sk.runs d (xs.take k)) x) (.int .i64 (Sk.oneE (Sk.runs d (xs.take k)) x)))) := fun k wr hk h0 hd => by
    obtain ⟨_, S', hd', ht, hs'⟩ := hd
    have hkv : k < vs.length := by omega
    have hkx : k < xs.length := by have := hst.1; omega
    have hT : ∀ q, E q → wr.heap[q]? = w.heap[q]? := fun q hq => ht.block q (hE q hq).2 (hE q hq).1
    have hus := Sk.runs_used d (xs.take k)
    have hul : (xs.take k).length ≤ xs.length := by rw [List.length_take]; omega
    have hSz : ∀ q, S' q → q < wr.heap.size := fun q hq => by
      have := ht.size
      rcases hs' q hq with h | h
      · have := hS q h; omega
      · exact h.2
    have hEn : ∀ q, E q → ¬ S' q := fun q hq hq' => by
      rcases hs' q hq' with h | h
      · exact (hE q hq).1 h
      · have := (hE q hq).2; omega
    obtain ⟨f, first, caps, e1, e0, e2⟩ := stepv_any hd' hSz hEn ((hst.2 k _ _ (List.getElem?_eq_getElem hkv) (List.getElem?_eq_getElem hkx)).keep hT) (by omega)
    refine ⟨f, first, caps, _, List.getElem?_eq_getElem hkx, ?_, e0, e2.mono fun e w' hp => hp.from ht hs'⟩
    rw [← e1]
    exact (World.cell?_of_block (a := ⟨g, k, none⟩) (hT g hg)).trans (hc k _ (List.getElem?_eq_getElem hkv))
  have hnx : n = xs.length := by have := hst.1; omega
  have HXL : Hid (xs.take n = xs) := by show _ = _; rw [hnx]; exact List.take_length
  have hn9 : n < 1000 := by omega
  clear h hS hE hg hc hst hn hu hnx
  go_enter Try.func30, Try.ntmps30
  go_wp2_with fail
  go_loopw [8] (fun s8 wr => ∃ k : Nat, s8 = .int .i64 (k : Int) ∧ k ≤ n ∧ Hid (Sk.runsE d (xs.take k) = 0) ∧ Hid (DP w S b (Sk.runs d (xs.take k)) (.tuple #[]) (.returned (.tuple #[])) wr)) (fun s8 _ => n - (intOf s8).toNat)
  case atStart => exact ⟨0, by go_num, Nat.zero_le _, by show _ = _; rw [List.take_zero]; rfl, H0⟩
  case round =>
    obtain ⟨k, rfl, hk, KE, KD⟩ := hrel
    by_cases hlt : k < n
    · obtain ⟨f, first, caps, x, hx, hcell, hcf, hcall⟩ := HNX.out k wr hlt KE.out KD.out
      have j0 : decide ((k : Int) < (n : Int)) = true := decide_eq_true (by omega)
      have j1 : (0 : Int) ≤ (k : Int) := by omega
      have HX := Lib.hid hx
      have HCALL := Lib.hid hcall
      have HT := Lib.hid (Sk.take_step hx KE.out)
      have HZ : Hid (Sk.oneE (Sk.runs d (xs.take k)) x ≠ 0 → Sk.runsE d xs = Sk.oneE (Sk.runs d (xs.take k)) x ∧ Sk.runs d xs = Sk.one (Sk.runs d (xs.take k)) x) := fun hz => Sk.stop_step hx KE.out hz
      clear hx hcall
      obtain ⟨OE, hOE⟩ : ∃ q, q = Sk.oneE (Sk.runs d (xs.take k)) x := ⟨_, rfl⟩
      have HOE := Lib.hid hOE
      rw [← hOE] at HCALL HT HZ
      clear hOE
      go_wp2_with fail
      refine HCALL.out.mono ?_
      clear HCALL
      rintro e w2 hq
      have he := hq.1
      subst he
      by_cases hz : OE = 0
      · subst hz
        have KE2 : Hid (Sk.runsE d (xs.take (k + 1)) = 0) := HT.out.1
        have KD2 : Hid (DP w S b (Sk.runs d (xs.take (k + 1))) (.tuple #[]) (.returned (.tuple #[])) w2) := by
          show DP _ _ _ _ _ _ _
          rw [HT.out.2]; exact ⟨rfl, hq.2⟩
        clear hq HT HZ HOE
        go_wp2_with fail
        go_round
        case rel => exact ⟨k + 1, by go_num, by omega, KE2, KD2⟩
        case measure => simp [intOf]; omega
      · have hb0 : (OE != 0) = true := by simpa using hz
        have HR : Hid (DP w S b (Sk.runs d xs) (.int .i64 (Sk.runsE d xs)) (.returned (.int .i64 OE)) w2) := by
          show DP _ _ _ _ _ _ _
          obtain ⟨a1, a2⟩ := HZ.out hz
          rw [a1, a2]; exact hq
        clear hq HT HZ HOE hz
        go_wp2_with fail
        go_ret
        exact HR.out
    · obtain rfl : k = n := by omega
      have j0 : decide ((k : Int) < (k : Int)) = false := decide_eq_false (by omega)
      have HR : Hid (DP w S b (Sk.runs d xs) (.int .i64 (Sk.runsE d xs)) (.returned (.int .i64 0)) wr) := by
        show DP _ _ _ _ _ _ _
        have a1 := KE.out
        have a2 := KD.out
        rw [HXL.out] at a1 a2
        rw [a1]; exact ⟨rfl, a2.2⟩
      clear KE KD HXL HNX hlt hk
      go_wp2_with fail
      go_ret
      exact HR.out
end Go.Proofs.Ythbiibinmofmfaa
