/- Locks: slices.DeleteFunc, whole; free. -/
import Derived.Test.YtoipmdemicdhoaaQdel

namespace Go.Proofs.Ytoipmdemicdhoaa
set_option maxRecDepth 100000
open Go.RowKit

set_option maxHeartbeats 4000000 in
theorem deletef_any (B g n cap p : Nat) (xs : List Nat) (w : World) (hBg : B ≠ g) (hB : w.cell? ⟨B, 0, none⟩ = some (.int .i64 (p : Int))) (h : w.ownsRow 0 3 1 (.slice (some ⟨g, 0, none⟩) n cap) n (qn xs)) (hl : n ≤ 1000) (hm : p ∈ xs) :
    Calls Try.prog 36 #[.slice (some ⟨g, 0, none⟩) n cap, .func (.func 37) #[] #[.pointer (some ⟨B, 0, none⟩)]] w fun e w' => ∃ k, k = (xs.filter (fun h => decide (h ≠ p))).length ∧ e = .returned (.slice (some ⟨g, 0, none⟩) k cap) ∧ w'.ownsRow 0 3 1 (.slice (some ⟨g, 0, none⟩) k cap) k (qn (xs.filter (fun h => decide (h ≠ p)))) ∧ Only g w w' := by
  have hlen : xs.length = n := by have := h.1; rw [qn_length] at this; omega
  have hcp : n ≤ cap ∧ cap ≤ maxLen := by
    rcases h.2 with ⟨h1, _⟩ | ⟨g', cap', cur, h1, _, _, hc, hc2, _⟩
    · cases h1
    · cases h1; exact ⟨hc, hc2⟩
  have hcm : cap ≤ 9223372036854775807 := by have := hcp.2; unfold maxLen at this; omega
  have hgl : g < w.heap.size := (World.ownsRow.lt h g rfl).2
  have HIX := Lib.hid (indexf_any B g n cap p xs w hB h hl hm)
  have HIT := Lib.hid (fun (W : World) (y : Nat) (hc : W.cell? ⟨B, 0, none⟩ = some (.int .i64 (p : Int))) => isit_any W B y p hc)
  have HBO : Hid (∀ W, Only g w W → W.cell? ⟨B, 0, none⟩ = some (.int .i64 (p : Int))) := fun W ho => by
    have hb := World.block_lt_of_cell? w _ hB
    exact (World.cell?_of_block (ho.block B (by simpa using hb) hBg)).trans hB
  have HLEN := Lib.hid hlen
  have HO := Lib.hid h
  have HCP := Lib.hid hcp
  have HM : Hid ((xs.filter (fun h => decide (h ≠ p))).length < xs.length) := List.length_filter_lt_length_iff_exists.2 ⟨p, hm, by simp⟩
  have eg : ∀ args w, (callFunc 37 args).run Try.prog w = .ok (.enter 37 args) w := fun _ _ => rfl
  have hcp1 := hcp.1
  clear h hlen hm hB hcp
  go_enter Try.func36, Try.ntmps36
  go_wp2_with fail
  refine HIX.out.mono ?_
  rintro e w' ⟨⟨k0, rfl, hk0, hk1, hk2⟩, rfl⟩
  have hd : ((k0 : Int) == -1) = false := by rw [beq_eq_false_iff_ne]; omega
  have hsm : IntKind.i64.wrap ((k0 : Int) + 1) = ((k0 + 1 : Nat) : Int) := by rw [IntWalk.i64_in _ (by omega)]; omega
  have hk2' := kpt_all xs p k0 hk2 (by have := HLEN.out; omega)
  obtain ⟨e1, e2⟩ := kpy_skip xs p k0 (by have := HLEN.out; omega) hk1
  have e3 : kpy xs p k0 = xs := by
    unfold kpy; rw [hk2', List.length_take, Nat.min_eq_left (by have := HLEN.out; omega), List.take_append_drop]
  have H0 : Hid (w'.ownsRow 0 3 1 (.slice (some ⟨g, 0, none⟩) n cap) n (qn (kpy xs p (k0 + 1))) ∧ Only g w' w' ∧ (kpt xs p (k0 + 1)).length = k0) := ⟨by rw [e1, e3]; exact HO.out, Only.refl g w', by rw [e2, hk2', List.length_take]; have := HLEN.out; omega⟩
  clear HIX hk1 hk2 hk2' e1 e2 e3 HO
  go_wp2
  go_loopw [5, 6, 7] (fun s5 s6 s7 wr => ∃ i j : Nat, s5 = .int .i64 (i : Int) ∧ s6 = .int .i64 (j : Int) ∧ i ≤ j ∧ j ≤ n ∧ Hid (wr.ownsRow 0 3 1 (.slice (some ⟨g, 0, none⟩) n cap) n (qn (kpy xs p j)) ∧ Only g w' wr ∧ (kpt xs p j).length = i)) (fun s5 s6 s7 _ => n - (intOf s6).toNat)
  case atStart => exact ⟨k0, k0 + 1, rfl, by first | rfl | simp, by omega, by omega, H0⟩
  case round =>
    obtain ⟨i, j, rfl, rfl, hij, hjn, HI⟩ := hrel
    by_cases hlt : j < n
    · have hjx : j < xs.length := by have := HLEN.out; omega
      have hcx : wr.cell? ⟨g, j, none⟩ = some (.int .i64 ((xs[j]?.getD 0 : Nat) : Int)) := by
        obtain ⟨g', e, -, hc⟩ := qn_cells HI.out.1 (by omega)
        cases e
        rw [hc j hlt, kpy_get xs p j hjx]
      obtain ⟨x, hx⟩ : ∃ x, x = xs[j]?.getD 0 := ⟨_, rfl⟩
      rw [← hx] at hcx
      have HX := Lib.hid hx
      have HIx := Lib.hid (HIT.out wr x (HBO.out wr HI.out.2.1))
      clear hx
      go_wp2_with fail
      refine HIx.out.mono ?_
      rintro e wr ⟨rfl, rfl⟩
      by_cases he : x = p
      · have HP2 : Hid (wr.ownsRow 0 3 1 (.slice (some ⟨g, 0, none⟩) n cap) n (qn (kpy xs p (j + 1))) ∧ Only g w' wr ∧ (kpt xs p (j + 1)).length = i) := by
          obtain ⟨e1, e2⟩ := kpy_skip xs p j hjx (by rw [← HX.out]; exact he)
          exact ⟨by rw [e1]; exact HI.out.1, HI.out.2.1, by rw [e2]; exact HI.out.2.2⟩
        rw [decide_eq_true he]
        have sm : IntKind.i64.wrap ((j : Int) + 1) = ((j + 1 : Nat) : Int) := by rw [IntWalk.i64_in _ (by omega)]; omega
        clear he hcx HI HIx hjx
        go_wp2
        exact ⟨⟨i, j + 1, by first | rfl | trivial, by first | rfl | trivial | simp, by omega, by omega, HP2⟩, by simp [intOf]; omega⟩
      · have hfz : wr.frozen? ⟨g, i, none⟩ = false := HI.out.1.frozenAt i
        have hci : ∃ v, wr.cell? ⟨g, i, none⟩ = some v := by
          obtain ⟨g', e, -, hc⟩ := qn_cells HI.out.1 (by omega)
          cases e
          exact ⟨_, hc i (by omega)⟩
        obtain ⟨vi, hvi⟩ := hci
        have HP2 : Hid ((wr.setCell ⟨g, i, none⟩ (.int .i64 (x : Int))).ownsRow 0 3 1 (.slice (some ⟨g, 0, none⟩) n cap) n (qn (kpy xs p (j + 1))) ∧ Only g w' (wr.setCell ⟨g, i, none⟩ (.int .i64 (x : Int))) ∧ (kpt xs p (j + 1)).length = i + 1) := by
          obtain ⟨e1, e2⟩ := kpy_keep xs p j hjx (by rw [← HX.out]; exact he)
          obtain ⟨q1, q2, q3⟩ := HI.out
          refine ⟨?_, ⟨q2.os, q2.tape, q2.output, by simpa using q2.size, fun k hk hn => (Below.heap_setCell wr ⟨g, i, none⟩ _ k hn).trans (q2.block k hk hn)⟩, by rw [e2, q3]⟩
          rw [e1, qn_set, q3, ← HX.out]
          exact (q1.stored i _).1
        rw [decide_eq_false he]
        have sm : IntKind.i64.wrap ((j : Int) + 1) = ((j + 1 : Nat) : Int) := by rw [IntWalk.i64_in _ (by omega)]; omega
        have sm2 : IntKind.i64.wrap ((i : Int) + 1) = ((i + 1 : Nat) : Int) := by rw [IntWalk.i64_in _ (by omega)]; omega
        clear he HI HIx hjx
        go_wp2
        exact ⟨⟨i + 1, j + 1, by first | rfl | trivial | simp, by first | rfl | trivial | simp, by omega, by omega, HP2⟩, by simp [intOf]; omega⟩
    · obtain rfl : j = n := by omega
      obtain ⟨q1, q2, q3⟩ := HI.out
      have HK : Hid (i = (xs.filter (fun h => decide (h ≠ p))).length ∧ kpy xs p j = xs.filter (fun h => decide (h ≠ p)) ++ xs.drop i) := by
        have e1 := kpt_end xs p
        rw [HLEN.out] at e1
        rw [e1] at q3
        refine ⟨q3.symm, ?_⟩
        unfold kpy
        rw [e1, q3]
      have hin : i < j := by have := HM.out; have := HLEN.out; have := HK.out.1; omega
      have hset := own_sets (vs := List.replicate (j - i) (.int .i64 0)) q1 hij
      rw [Nat.mul_one] at hset
      have HF : Hid ((wr.setCells g i (List.replicate (j - i) (.int .i64 0))).ownsRow 0 3 1 (.slice (some ⟨g, 0, none⟩) i cap) i (qn (xs.filter (fun h => decide (h ≠ p)))) ∧ Only g w' (wr.setCells g i (List.replicate (j - i) (.int .i64 0)))) := by
        obtain ⟨h1, h2⟩ := hset
        refine ⟨?_, ⟨h2.os.trans q2.os, h2.tape.trans q2.tape, h2.output.trans q2.output, Nat.le_trans q2.size h2.size, fun k hk hn => (h2.block k (Nat.lt_of_lt_of_le hk q2.size) hn).trans (q2.block k hk hn)⟩⟩
        have e2 := HK.out.2
        have e3 : (qn (kpy xs p j)).take i = qn (xs.filter (fun h => decide (h ≠ p))) := by
          rw [e2, qn_append, List.take_append_of_le_length (by rw [qn_length]; exact Nat.le_of_eq HK.out.1), List.take_of_length_le (by rw [qn_length]; exact Nat.le_of_eq HK.out.1.symm)]
        rw [← e3]; exact h1
      have hth := fun k (hk : k < j) => own_there q1 k (by omega)
      have hcl : ∀ ty, (Builtin.clear_ #[32] ty #[.slice (some ⟨g, i, none⟩) (j - i) (cap - i)]).run Try.prog wr = .ok (.tuple #[]) (wr.setCells g i (List.replicate (j - i) (.int .i64 0))) :=
        fun ty => Lib.run_clear_slice wr _ _ ty (.int .i64 0) Try.underlying32 (fun _ => rfl) rfl rfl g i _ _ (by omega) (fun t ht => (hth (i + t) (by omega)).1) (fun t ht => (hth (i + t) (by omega)).2)
      have hnc : ¬ cap = i := by omega
      generalize wr.setCells g i (List.replicate (j - i) (.int .i64 0)) = W3 at *
      clear hset hth q1 q2 q3 HI
      go_wp2
      go_ret
      exact ⟨_, HK.out.1, rfl, HF.out.1, HF.out.2⟩
end Go.Proofs.Ytoipmdemicdhoaa
