/- Contracts of slots' steps (a Write of a piece, a Write of a header, a Sync) and of run. -/
import Derived.Test.YtillckjohlbaiaaZload
import Derived.Test.YtillckjohlbaiaaEall
import Derived.Test.YtillckjohlbaiaaQtail

namespace Go.Proofs.Ytillckjohlbaiaa
set_option maxRecDepth 100000
open Go.RowKit

theorem Try.infoPart : (Try.prog.info? 112).map (fun i => (i.zero, i.size, i.bytes)) = some (some (.agg (vb zrow).toArray), 512, 512) := by kernel_rfl
theorem part_zero (w : World) : (zeroValue 112).run Try.prog w = .ok (.agg (vb zrow).toArray) w := (zero_of_parts Try.infoPart).1 w
theorem piece_splice (p : List Nat) : splice (vb zrow) 0 (vb p) = vb (Sk.padded p) := by
  unfold Sk.padded splice
  rw [vb_append, List.take_zero, List.nil_append, vb_length, Nat.zero_add]
  congr 1
  unfold zrow vb
  rw [← List.map_drop, List.drop_replicate]
theorem DP.base {w w0 : World} {S : Nat → Prop} {b : Nat} {d : Ek.Dk} {v : Value} {e : Ending} {w' : World} (h : DP w S b d v e w') (hb : Below w0.heap.size w0 w) : DP w0 S b d v e w' :=
  h.from (Tch.of_below hb) (fun _ hk => Or.inl hk)

set_option maxRecDepth 100000 in
set_option maxHeartbeats 4000000 in
/-- A piece is written. -/
theorem fillstep_any (w : World) (S : Nat → Prop) (b : Nat) (d : Ek.Dk) (h : Dsk w S b d) (hS : ∀ k, S k → k < w.heap.size) (p1 p2 p3 : Nat) (i : Nat) (sa : Option Addr) (n cap : Nat) (p : List Nat)
    (h1 : w.cell? ⟨p1, 0, none⟩ = some (.slice sa n cap)) (h2 : w.cell? ⟨p2, 0, none⟩ = some (.pointer (some ⟨b, 0, none⟩))) (h3 : w.cell? ⟨p3, 0, none⟩ = some (.int .i64 (i : Int))) (hp : Sl w (.slice sa n cap) p) (hl : p.length ≤ 512) (hu : d.used < 1000000) :
    Calls Try.prog 100 #[.pointer (some ⟨p1, 0, none⟩), .pointer (some ⟨p2, 0, none⟩), .pointer (some ⟨p3, 0, none⟩)] w (DP w S b (Ek.write d (i : Int) (Sk.padded p)) (.int .i64 (Ek.writeE d (i : Int) (Sk.padded p)))) := by
  have hal := part_zero
  have HD := Lib.hid h
  have HS := Lib.hid hS
  have HP := Lib.hid hp
  obtain ⟨hn, _, _⟩ := hp.len
  have HC : Hid (∀ wA, Hid (wA.heap[w.heap.size]? = some (.cells (splice (vb zrow) 0 (vb p)).toArray 112 (0, 0))) → Only w.heap.size (w.alloc (.cells (vb zrow).toArray 112)).drew wA → Below w.heap.size w wA ∧ Sl wA (.slice (some ⟨w.heap.size, 0, none⟩) 512 512) (Sk.padded p)) := fun wA hgA hoA => by
    have hgA' := hgA.out
    rw [piece_splice p] at hgA'
    have HA : Has wA w.heap.size (.cells (vb (Sk.padded p)).toArray 112 (0, 0)) := hgA'
    have hlen : (Sk.padded p).length = 512 := by unfold Sk.padded; rw [List.length_append, List.length_replicate]; omega
    refine ⟨hoA.below (below_drewN (below1 w _) 1) (Nat.le_refl _) (by show _ ≤ (w.alloc _).heap.size; simp), has_sl HA (fun x hx => ?_) (by rw [hlen]; decide) 512 512 hlen.symm⟩
    rcases List.mem_append.1 hx with q | q
    · exact HP.out.facts8 x q
    · rw [List.eq_of_mem_replicate q]; omega
  have HW : Hid (∀ wA, Below w.heap.size w wA → Sl wA (.slice (some ⟨w.heap.size, 0, none⟩) 512 512) (Sk.padded p) → Calls Try.prog 22 #[.pointer (some ⟨b, 0, none⟩), .int .i64 (i : Int), .slice (some ⟨w.heap.size, 0, none⟩) 512 512] wA (DP w S b (Ek.write d (i : Int) (Sk.padded p)) (.int .i64 (Ek.writeE d (i : Int) (Sk.padded p))))) := fun wA hb hs =>
    (write_any wA S b d (i : Int) (Sk.padded p) _ (HD.out.later hb) hs (fun g off spot len cap e hk => by injection e with e1 _ _; injection e1 with e1; injection e1 with e1 _ _; have := HS.out g hk; omega) hu).mono fun e w' hp => hp.base hb
  have H1 : Hid ((w.alloc (.cells (vb zrow).toArray 112)).drew.heap[w.heap.size]? = some (.cells (vb zrow).toArray 112 (0, 0))) := Has.new w _
  have H4 : Hid ((vb p).length = Nat.min n 512) := by show _ = min n 512; rw [vb_length]; omega
  have H5 : Hid (0 < (vb p).length → ∃ ad, sa = some ad ∧ ∀ j v, (vb p)[j]? = some v → (w.alloc (.cells (vb zrow).toArray 112)).drew.cell? (ad.add j) = some v) := fun h0 => (hp.later (below_drewN (below1 w _) 1)).cells (by rw [vb_length] at h0; omega)
  have H6 : Hid (0 + (vb p).length ≤ (vb zrow).length) := by show _ ≤ _; rw [vb_length, vb_length, zrow_length]; omega
  have HLT : Hid (p1 < w.heap.size ∧ p2 < w.heap.size ∧ p3 < w.heap.size) := ⟨World.block_lt_of_cell? w _ h1, World.block_lt_of_cell? w _ h2, World.block_lt_of_cell? w _ h3⟩
  have C1 := Lib.hid h1
  have C2 := Lib.hid h2
  have C3 := Lib.hid h3
  generalize Ek.writeE d (i : Int) (Sk.padded p) = E at HW ⊢
  clear h hp hS h1 h2 h3 hn
  go_enter Try.func100, Try.ntmps100
  go_wp2_with fail
  refine region_qtail 2 (by kernel_rfl) (by kernel_rfl) fun W hW => ?_
  have c1 : W.cell? ⟨p1, 0, none⟩ = some (.slice sa n cap) := by rw [hW]; exact ((below1 w _).cell (p := ⟨p1, 0, none⟩) HLT.out.1).trans C1.out
  rw [← hW] at H1 H5
  have HC2 := HC
  rw [← hW] at HC2
  clear HC hW
  simp only [List.take_succ_cons, List.take_zero, List.drop_succ_cons, List.drop_zero]
  iterate 2 (go_big_quiet_step (fail))
  refine wpQuiet_nil ?_
  refine wpList_copy_only rfl (.tmp 5) (.tmp 6) 22 22 rfl 5 Try.underlying22 (by kernel_rfl) (some ⟨w.heap.size, 0, none⟩) sa 512 512 n cap rfl rfl w.heap.size 0 (vb zrow) 112 H1.out (vb p) H4.out (fun h0 => ⟨rfl, H5.out h0⟩) H6.out (oneCell_vb _) ?_
  intro wA hgA hoA
  have HX := Lib.hid (HC2.out wA hgA hoA)
  clear hgA hoA HC2 H1 H4 H5 H6 c1
  simp only [Act.put, List.setIfInBounds_toArray, List.set_cons_zero, List.set_cons_succ]
  go_wp2_with fail
  refine region_qtail 3 (by kernel_rfl) (by kernel_rfl) fun W2 hW2 => ?_
  have c2 : W2.cell? ⟨p2, 0, none⟩ = some (.pointer (some ⟨b, 0, none⟩)) := by rw [hW2]; exact (HX.out.1.cell (p := ⟨p2, 0, none⟩) HLT.out.2.1).trans C2.out
  have c3 : W2.cell? ⟨p3, 0, none⟩ = some (.int .i64 (i : Int)) := by rw [hW2]; exact (HX.out.1.cell (p := ⟨p3, 0, none⟩) HLT.out.2.2).trans C3.out
  have HCALL := Lib.hid (HW.out W2 (by rw [hW2]; exact below_drewN HX.out.1 1) (by rw [hW2]; exact HX.out.2))
  clear hW2 HX HW
  simp only [List.take_succ_cons, List.take_zero, List.drop_succ_cons, List.drop_zero]
  iterate 3 (go_big_quiet_step (fail))
  refine wpQuiet_nil ?_
  go_wp2_with fail
  refine HCALL.out.mono ?_
  clear HCALL c2 c3
  rintro e w' hq
  have he := hq.1
  subst he
  have HQ := Lib.hid hq
  clear hq
  go_wp2_with fail
  go_ret
  exact HQ.out

set_option maxRecDepth 100000 in
set_option maxHeartbeats 4000000 in
/-- A header is written. -/
theorem sealstep_any (w : World) (S : Nat → Prop) (b : Nat) (d : Ek.Dk) (h : Dsk w S b d) (p2 p5 : Nat) (r : List Nat) (h5S : ¬ S p5)
    (h2 : w.cell? ⟨p2, 0, none⟩ = some (.pointer (some ⟨b, 0, none⟩))) (h5 : Has w p5 (.cells (vb r).toArray 157 (0, 0))) (hr : Row r) (hu : d.used < 1000000) :
    Calls Try.prog 102 #[.pointer (some ⟨p2, 0, none⟩), .pointer (some ⟨p5, 0, none⟩)] w (DP w S b (Ek.write d 0 r) (.int .i64 (Ek.writeE d 0 r))) := by
  have HW : Hid (∀ wA, Below w.heap.size w wA → Calls Try.prog 22 #[.pointer (some ⟨b, 0, none⟩), .int .i64 0, .slice (some ⟨p5, 0, none⟩) 512 512] wA (DP w S b (Ek.write d 0 r) (.int .i64 (Ek.writeE d 0 r)))) := fun wA hb =>
    (write_any wA S b d 0 r _ (h.later hb) (has_sl (Has.later h5 hb) hr.2 (by rw [hr.1]; decide) 512 512 hr.1.symm) (fun g off spot len cap e hk => by injection e with e1 _ _; injection e1 with e1; injection e1 with e1 _ _; exact h5S (e1 ▸ hk)) hu).mono fun e w' hp => hp.base hb
  have C2 := Lib.hid h2
  generalize Ek.writeE d 0 r = E at HW ⊢
  clear h h5S h5 hr hu h2
  go_enter Try.func102, Try.ntmps102
  go_wp2_with fail
  refine region_qtail 2 (by kernel_rfl) (by kernel_rfl) fun W2 hW2 => ?_
  have c2 : W2.cell? ⟨p2, 0, none⟩ = some (.pointer (some ⟨b, 0, none⟩)) := by rw [hW2]; exact C2.out
  have HCALL := Lib.hid (HW.out W2 (by rw [hW2]; exact below_drewN (Below.refl _ _) 1))
  clear hW2 HW
  simp only [List.take_succ_cons, List.take_zero, List.drop_succ_cons, List.drop_zero]
  iterate 2 (go_big_quiet_step (fail))
  refine wpQuiet_nil ?_
  go_wp2_with fail
  refine HCALL.out.mono ?_
  clear HCALL c2
  rintro e w' hq
  have he := hq.1
  subst he
  have HQ := Lib.hid hq
  clear hq
  go_wp2_with fail
  go_ret
  exact HQ.out
end Go.Proofs.Ytillckjohlbaiaa
