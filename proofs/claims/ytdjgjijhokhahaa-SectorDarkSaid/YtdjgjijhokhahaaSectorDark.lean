/- The statement SectorDark: where the power goes, just as many changes are done as the fuse says; then nothing is, until a crash. It holds for every input, without a condition. -/
import Derived.Test.YtdjgjijhokhahaaElive
import Derived.Test.YtdjgjijhokhahaaEact
import Derived.Lib.MinMax

namespace Go.Proofs.Ytdjgjijhokhahaa
set_option maxRecDepth 100000
open Go.ChangeShapes Go.WideShapes Go.ChangeAt Go.RowKit

namespace Ek
/-- A disk with a fuse: so many changes are left; dark only where none is. -/
structure Fu (d : Dk) (i : Nat) (L : Int) : Prop where
  n : d.n = 9
  left : d.left = L
  lo : 0 ≤ L
  hi : L ≤ 9223372036854775807
  dark : d.dark = true → L = 0
  used : d.used ≤ i
theorem Fu.change {d : Dk} {i : Nat} {L : Int} (h : Fu d i L) : changeE d = (if L = 0 then 6 else 0) ∧ Fu (change d) i (max 0 (L - 1)) ∧ (Ek.change d).dark = decide (L = 0) := by
  have hl := h.left
  have h0 := h.lo
  have h9 := h.hi
  unfold changeE Ek.change
  by_cases hL : L = 0
  · have hc : d.dark = true ∨ d.left = 0 := Or.inr (by omega)
    rw [if_pos hc, if_pos hc, if_pos hL]
    exact ⟨rfl, ⟨h.n, by show d.left = _; omega, by omega, by omega, fun _ => by omega, h.used⟩, by simp [hL]⟩
  · have hd : d.dark = false := by
      cases hx : d.dark with
      | false => rfl
      | true => exact absurd (h.dark hx) hL
    have hc : ¬ (d.dark = true ∨ d.left = 0) := by rw [hd]; simp; omega
    rw [if_neg hc, if_neg hc, if_neg hL, if_neg (by omega)]
    exact ⟨rfl, ⟨h.n, by show d.left - 1 = _; omega, by omega, by omega, (fun hx => by rw [show d.dark = true from hx] at hd; cases hd), h.used⟩, by show d.dark = _; rw [hd]; simp [hL]⟩
theorem Fu.write {d : Dk} {i : Nat} {L : Int} (h : Fu d i L) (j : Nat) (bs : List Nat) (hj : j < 9) (hb : bs.length = 512) : writeE d (j : Int) bs = (if L = 0 then 6 else 0) ∧ Fu (write d (j : Int) bs) (i + 1) (max 0 (L - 1)) ∧ (write d (j : Int) bs).dark = decide (L = 0) := by
  have hbad : ¬ Bad d (j : Int) bs := by unfold Bad; rw [h.n]; omega
  have hl := h.left
  have h0 := h.lo
  have h9 := h.hi
  unfold writeE Ek.write
  rw [if_neg hbad, if_neg hbad]
  by_cases hd : d.dark = true
  · have hL := h.dark hd
    rw [if_pos hd, if_pos hd, if_pos hL]
    exact ⟨rfl, ⟨h.n, by omega, by omega, by omega, fun _ => by omega, by have := h.used; omega⟩, by simp [hL, hd]⟩
  · rw [if_neg hd, if_neg hd]
    have ha : Fu (added d (j : Int) bs) (i + 1) L := ⟨h.n, h.left, h0, h9, h.dark, by have := h.used; show d.used + 1 ≤ _; omega⟩
    obtain ⟨e1, e2, e3⟩ := ha.change
    exact ⟨e1, e2, e3⟩
theorem Fu.sync {d : Dk} {i : Nat} {L : Int} (h : Fu d i L) : changeE d = (if L = 0 then 6 else 0) ∧ Fu (sync d) (i + 1) (max 0 (L - 1)) ∧ (sync d).dark = decide (L = 0) := by
  obtain ⟨e1, e2, e3⟩ := h.change
  refine ⟨e1, ?_⟩
  unfold Ek.sync
  split
  · exact ⟨⟨e2.n, e2.left, e2.lo, e2.hi, e2.dark, by have := e2.used; show (Ek.change d).used ≤ _; omega⟩, e3⟩
  · exact ⟨⟨e2.n, e2.left, e2.lo, e2.hi, e2.dark, by have := e2.used; omega⟩, e3⟩
theorem fuse_fu (n : Int) (hn : n ≤ 9223372036854775807) : Fu (fuse (fresh 9) n) 0 (max 0 n) := ⟨rfl, by show max n 0 = _; omega, by omega, by omega, (fun h => by cases h), Nat.le_refl _⟩
end Ek

theorem wrap_nine (x : Int) : IntKind.i64.wrap ((IntKind.u64.wrap x).tmod 9) = x % 18446744073709551616 % 9 := by
  rw [IntKind.wrap_u64, Int.tmod_eq_emod_of_nonneg (by omega), IntWalk.i64_in _ (by omega)]

set_option maxRecDepth 100000 in
set_option maxHeartbeats 4000000 in
theorem dark_main (n : Int) (v : Value) (l : List Ac) (w : World) (_lo : -9223372036854775808 ≤ n) (hi : n ≤ 9223372036854775807) (hl : Acts w v l) (h60 : l.length ≤ 60) :
    Calls Try.prog 7 #[.int .i64 n, v] w fun e w' => e = .returned (.bool true) ∧ Below w.heap.size w w' := by
  obtain ⟨a, cap, rfl, _, hat⟩ := hl
  have HAT : Hid (∀ k ac, l[k]? = some ac → ∃ b off, a = some ⟨b, off, none⟩ ∧ ∀ w', Below w.heap.size w w' → AcAt w' b (off + k * 5) ac) := fun k ac hk => by
    have hkl := (List.getElem?_eq_some_iff.1 hk).1
    obtain ⟨b, off, ha, hc⟩ := hat (by omega)
    exact ⟨b, off, ha, fun w' hb => (hc k ac hk).keep' (keepA_below hb)⟩
  have HF0 := Lib.hid (Ek.fuse_fu n hi)
  obtain ⟨N, hN⟩ : ∃ N, N = l.length := ⟨_, rfl⟩
  rw [← hN]
  have HN := Lib.hid hN
  have h6 : N ≤ 60 := by omega
  have d0 : decide ((60 : Int) < (N : Int)) = false := decide_eq_false (by omega)
  clear hat hN h60 _lo
  go_enter Try.func7, Try.ntmps7
  go_wp2_with fail
  refine (lv_new (Below.refl w.heap.size w) 9 (by omega) (by omega)).mono ?_
  rintro e w1 ⟨b, rfl, H1⟩
  go_wp2_with fail
  refine (lv_fuse H1 n hi).mono ?_
  rintro e w2 ⟨rfl, H2⟩
  have H2' := Lib.hid H2
  clear H1 H2
  go_wp2_with fail
  go_loopw [7, 8] (fun s7 s8 wr => ∃ (k : Nat) (d : Ek.Dk) (L : Int) (M : Nat), s7 = .int .i64 L ∧ s8 = .int .i64 (k : Int) ∧ k ≤ N ∧ Hid (Ek.Fu d k L) ∧ Hid (Lv w wr b d M)) (fun _ s8 _ => N - (intOf s8).toNat)
  case atStart => exact ⟨0, _, max 0 n, _, by first | rfl | go_num, by go_num, Nat.zero_le _, HF0, H2'⟩
  case round =>
    obtain ⟨k, d, L, M, rfl, rfl, hk, KF, KL⟩ := hrel
    have h0 := KF.out.lo
    have h9 := KF.out.hi
    have hw := KL.out.below
    by_cases hlt : k < N
    · have j0 : decide ((k : Int) < (N : Int)) = true := decide_eq_true (by omega)
      have j1 : (0 : Int) ≤ (k : Int) := by omega
      have j2 : (k : Int) < (N : Int) := by omega
      obtain ⟨ac, hac⟩ : ∃ ac, l[k]? = some ac := ⟨_, List.getElem?_eq_getElem (by rw [← HN.out]; exact hlt)⟩
      obtain ⟨bA, oA, rfl, hA⟩ := HAT.out k ac hac
      have HA := Lib.hid hA
      obtain ⟨q0, _, _, _, _, _, _, _, _, _⟩ := hA wr hw
      have hu : d.used ≤ 60 := by have := KF.out.used; omega
      clear hA hac hw HAT
      by_cases hkd : ac.kind = 2
      · have k2 : (ac.kind == 2) = true := by simpa using hkd
        by_cases hL : L = 0
        · subst hL
          obtain ⟨f1, f2, f3⟩ := KF.out.sync
          rw [if_pos rfl] at f1
          have f3' : (Ek.sync d).dark = true := by rw [f3]; rfl
          have HF2 := Lib.hid f2
          have HF3 := Lib.hid f3'
          have CS := Lib.hid (lv_sync KL.out (by omega))
          rw [f1] at CS
          clear f1 f2 f3 f3' hkd
          go_wp2_with fail
          refine CS.out.mono ?_
          rintro e w3 ⟨rfl, H3⟩
          clear CS
          go_wp2_with fail
          have CD := lv_dark H3
          rw [HF3.out] at CD
          refine CD.mono ?_
          clear CD
          rintro e w' ⟨rfl, rfl⟩
          have H3' := Lib.hid H3
          clear H3
          go_wp2_with fail
          go_round
          case rel => exact ⟨k + 1, Ek.sync d, max 0 (0 - 1), _, by first | rfl | go_num, by go_num, by omega, HF2, H3'⟩
          case measure => simp [intOf]; omega
        · skip
          obtain ⟨f1, f2, f3⟩ := KF.out.sync
          rw [if_neg hL] at f1
          have f3' : (Ek.sync d).dark = false := by rw [f3]; exact decide_eq_false hL
          have HF2 := Lib.hid f2
          have HF3 := Lib.hid f3'
          have g1 : decide (0 < L) = true := decide_eq_true (by omega)
          have g2 : (L == 0) = false := by simpa using hL
          have g3 : 1 ≤ L := by omega
          have CS := Lib.hid (lv_sync KL.out (by omega))
          rw [f1] at CS
          clear f1 f2 f3 f3' hkd hL
          go_wp2_with fail
          refine CS.out.mono ?_
          rintro e w3 ⟨rfl, H3⟩
          clear CS
          go_wp2_with fail
          have CD := lv_dark H3
          rw [HF3.out] at CD
          refine CD.mono ?_
          clear CD
          rintro e w' ⟨rfl, rfl⟩
          have H3' := Lib.hid H3
          clear H3
          go_wp2_with fail
          go_round
          case rel => exact ⟨k + 1, Ek.sync d, max 0 (L - 1), _, by first | rfl | go_num, by go_num, by omega, HF2, H3'⟩
          case measure => simp [intOf]; omega
      · have k2 : (ac.kind == 2) = false := by simpa using hkd
        obtain ⟨j, hj⟩ : ∃ j : Nat, j = (ac.i % 18446744073709551616 % 9).toNat := ⟨_, rfl⟩
        have hj9 : j < 9 := by omega
        have HJ : Hid (IntKind.i64.wrap ((IntKind.u64.wrap ac.i).tmod 9) = (j : Int)) := by show _ = _; rw [wrap_nine, hj]; omega
        clear hj
        have HW0 : Hid (Below w.heap.size w wr.drew) := below_drewN KL.out.below 1
        by_cases hL : L = 0
        · subst hL
          obtain ⟨f1, f2, f3⟩ := KF.out.write j (Ek.fil ac.c 512) hj9 (Ek.fil_length _ _)
          rw [if_pos rfl] at f1
          have f3' : (Ek.write d (j : Int) (Ek.fil ac.c 512)).dark = true := by rw [f3]; rfl
          have HF2 := Lib.hid f2
          have HF3 := Lib.hid f3'
          have HF1 := Lib.hid f1
          clear f1 f2 f3 f3' hkd
          go_wp2_with fail
          refine wp_region_held_drew (S := fun wx => Below w.heap.size w wx) (by kernel_rfl) HW0.out (fun _ => ?_)
          change wpAnyH _ _ _ _ _ 17 (Array.replicate 17 false) _ _
          refine wpAnyH_take (i := 0) (v := ?_) rfl (by kernel_rfl) (by kernel_rfl) (by kernel_rfl) (fun _ _ _ h => h) (Or.inl ⟨rfl, ?hy0⟩) HW0.out ?_
          case hy0 => intro w' hw'; clear hw'; go_simp; first | done | rfl
          try simp only [Act.put, List.getElem_toArray, List.getElem_cons_zero, List.setIfInBounds_toArray, List.set_cons_zero, List.set_cons_succ]
          refine wpAnyH_take (i := 1) (v := ?_) rfl (by kernel_rfl) (by kernel_rfl) (by kernel_rfl) (fun _ _ _ h => h) (Or.inl ⟨rfl, ?hy1⟩) HW0.out ?_
          case hy1 => intro w' hw'; clear hw'; go_simp; first | done | rfl
          try simp only [Act.put, List.getElem_toArray, List.getElem_cons_zero, List.getElem_cons_succ, List.setIfInBounds_toArray, List.set_cons_zero, List.set_cons_succ]
          refine wpAnyH_take (i := 2) (v := ?_) rfl (by kernel_rfl) (by kernel_rfl) (by kernel_rfl) (fun _ _ _ h => h) (Or.inl ⟨rfl, ?hy2⟩) HW0.out ?_
          case hy2 => intro w' hw'; clear hw'; go_simp; first | done | rfl
          try simp only [Act.put, List.getElem_toArray, List.getElem_cons_zero, List.getElem_cons_succ, List.setIfInBounds_toArray, List.set_cons_zero, List.set_cons_succ]
          refine wpAnyH_take (i := 3) (v := ?_) rfl (by kernel_rfl) (by kernel_rfl) (by kernel_rfl) (fun _ _ _ h => h) (Or.inl ⟨rfl, ?hy3⟩) HW0.out ?_
          case hy3 => intro w' hw'; clear hw'; go_simp; first | done | rfl
          try simp only [Act.put, List.getElem_toArray, List.getElem_cons_zero, List.getElem_cons_succ, List.setIfInBounds_toArray, List.set_cons_zero, List.set_cons_succ]
          refine wpAnyH_take (i := 4) (v := ?_) rfl (by kernel_rfl) (by kernel_rfl) (by kernel_rfl) (fun _ _ _ h => h) (Or.inl ⟨rfl, ?hy4⟩) HW0.out ?_
          case hy4 => intro w' hw'; clear hw'; go_simp; first | done | rfl
          try simp only [Act.put, List.getElem_toArray, List.getElem_cons_zero, List.getElem_cons_succ, List.setIfInBounds_toArray, List.set_cons_zero, List.set_cons_succ]
          refine wpAnyH_take (i := 5) (v := ?_) rfl (by kernel_rfl) (by kernel_rfl) (by kernel_rfl) (fun _ _ _ h => h) (Or.inl ⟨rfl, ?hy5⟩) HW0.out ?_
          case hy5 => intro w' hw'; obtain ⟨_, q1, q2, _, _, _, _, _, _, _⟩ := HA.out w' hw'; clear hw'; go_simp; first | done | rfl
          try simp only [Act.put, List.getElem_toArray, List.getElem_cons_zero, List.getElem_cons_succ, List.setIfInBounds_toArray, List.set_cons_zero, List.set_cons_succ]
          refine wpAnyH_take (i := 6) (v := ?_) rfl (by kernel_rfl) (by kernel_rfl) (by kernel_rfl) (fun _ _ _ h => h) (Or.inl ⟨rfl, ?hy6⟩) HW0.out ?_
          case hy6 => intro w' hw'; clear hw'; go_simp; first | done | rfl
          try simp only [Act.put, List.getElem_toArray, List.getElem_cons_zero, List.getElem_cons_succ, List.setIfInBounds_toArray, List.set_cons_zero, List.set_cons_succ]
          refine wpAnyH_take (i := 7) (v := ?_) rfl (by kernel_rfl) (by kernel_rfl) (by kernel_rfl) (fun _ _ _ h => h) (Or.inl ⟨rfl, ?hy7⟩) HW0.out ?_
          case hy7 => intro w' hw'; clear hw'; go_simp; first | done | rfl
          try simp only [Act.put, List.getElem_toArray, List.getElem_cons_zero, List.getElem_cons_succ, List.setIfInBounds_toArray, List.set_cons_zero, List.set_cons_succ]
          refine wpAnyH_take (i := 8) (v := .int .i64 (j : Int)) rfl (by kernel_rfl) (by kernel_rfl) (by kernel_rfl) (fun _ _ _ h => h) (Or.inl ⟨rfl, ?hy8⟩) HW0.out ?_
          case hy8 => intro w' hw'; clear hw'; go_simp; exact HJ.out
          try simp only [Act.put, List.getElem_toArray, List.getElem_cons_zero, List.getElem_cons_succ, List.setIfInBounds_toArray, List.set_cons_zero, List.set_cons_succ]
          refine wpAnyH_take (i := 9) (v := ?_) rfl (by kernel_rfl) (by kernel_rfl) (by kernel_rfl) (fun _ _ _ h => h) (Or.inl ⟨rfl, ?hy9⟩) HW0.out ?_
          case hy9 => intro w' hw'; clear hw'; go_simp; first | done | rfl
          try simp only [Act.put, List.getElem_toArray, List.getElem_cons_zero, List.getElem_cons_succ, List.setIfInBounds_toArray, List.set_cons_zero, List.set_cons_succ]
          refine wpAnyH_take (i := 10) (v := ?_) rfl (by kernel_rfl) (by kernel_rfl) (by kernel_rfl) (fun _ _ _ h => h) (Or.inl ⟨rfl, ?hy10⟩) HW0.out ?_
          case hy10 => intro w' hw'; clear hw'; go_simp; first | done | rfl
          try simp only [Act.put, List.getElem_toArray, List.getElem_cons_zero, List.getElem_cons_succ, List.setIfInBounds_toArray, List.set_cons_zero, List.set_cons_succ]
          refine wpAnyH_take (i := 11) (v := ?_) rfl (by kernel_rfl) (by kernel_rfl) (by kernel_rfl) (fun _ _ _ h => h) (Or.inl ⟨rfl, ?hy11⟩) HW0.out ?_
          case hy11 => intro w' hw'; clear hw'; go_simp; first | done | rfl
          try simp only [Act.put, List.getElem_toArray, List.getElem_cons_zero, List.getElem_cons_succ, List.setIfInBounds_toArray, List.set_cons_zero, List.set_cons_succ]
          refine wpAnyH_take (i := 12) (v := ?_) rfl (by kernel_rfl) (by kernel_rfl) (by kernel_rfl) (fun _ _ _ h => h) (Or.inl ⟨rfl, ?hy12⟩) HW0.out ?_
          case hy12 => intro w' hw'; clear hw'; go_simp; first | done | rfl
          try simp only [Act.put, List.getElem_toArray, List.getElem_cons_zero, List.getElem_cons_succ, List.setIfInBounds_toArray, List.set_cons_zero, List.set_cons_succ]
          refine wpAnyH_take (i := 13) (v := ?_) rfl (by kernel_rfl) (by kernel_rfl) (by kernel_rfl) (fun _ _ _ h => h) (Or.inl ⟨rfl, ?hy13⟩) HW0.out ?_
          case hy13 => intro w' hw'; obtain ⟨_, q1, q2, _, _, _, _, _, _, _⟩ := HA.out w' hw'; clear hw'; go_simp; first | done | rfl
          try simp only [Act.put, List.getElem_toArray, List.getElem_cons_zero, List.getElem_cons_succ, List.setIfInBounds_toArray, List.set_cons_zero, List.set_cons_succ]
          refine wpAnyH_ready (rs := [14]) (by kernel_rfl) (by simp) ?_
          refine AllReadyH.cons rfl (fun K hK => ?_) AllReadyH.nil
          go_simp
          refine (filled_len wr.drew ac.c 512 0 rfl).mono ?_
          rintro e wF F
          have ef := F.1
          subst ef
          have HWF : Hid (Below w.heap.size w wF) := HW0.out.trans (F.2.2.1.mono (Nat.le_trans HW0.out.size (Nat.le_refl _)))
          have CW := Lib.hid (lv_filled_write KL.out.drew F (by decide) (j : Int) (by omega))
          rw [HF1.out] at CW
          clear F
          dsimp only
          refine hK.out _ _ HWF.out (fun _ => ?_)
          clear hK K
          try simp only [Act.put, List.getElem_toArray, List.getElem_cons_zero, List.getElem_cons_succ, List.setIfInBounds_toArray, List.set_cons_zero, List.set_cons_succ]
          refine wpAnyH_ready (rs := [15]) (by kernel_rfl) (by simp) ?_
          refine AllReadyH.cons rfl (fun K hK => ?_) AllReadyH.nil
          go_simp
          refine (CW.out).mono ?_
          rintro e w3 ⟨rfl, H3⟩
          clear CW HWF
          dsimp only
          refine hK.out _ _ H3.below (fun _ => ?_)
          clear hK K
          try simp only [Act.put, List.getElem_toArray, List.getElem_cons_zero, List.getElem_cons_succ, List.setIfInBounds_toArray, List.set_cons_zero, List.set_cons_succ]
          refine wpAnyH_take (i := 16) (v := ?_) rfl (by kernel_rfl) (by kernel_rfl) (by kernel_rfl) (fun _ _ _ h => h) (Or.inl ⟨rfl, ?hy16⟩) H3.below ?_
          case hy16 => intro w' hw'; clear hw'; go_simp; first | done | rfl
          try simp only [Act.put, List.getElem_toArray, List.getElem_cons_zero, List.getElem_cons_succ, List.setIfInBounds_toArray, List.set_cons_zero, List.set_cons_succ]
          refine wpAnyH_done (by kernel_rfl) ?_ _
          go_wp2_with fail
          have CD := lv_dark H3
          rw [HF3.out] at CD
          refine CD.mono ?_
          clear CD
          rintro e w' ⟨rfl, rfl⟩
          have H3' := Lib.hid H3
          clear H3
          go_wp2_with fail
          go_round
          case rel => exact ⟨k + 1, Ek.write d (j : Int) (Ek.fil ac.c 512), max 0 (0 - 1), _, by first | rfl | go_num, by go_num, by omega, HF2, H3'⟩
          case measure => simp [intOf]; omega
        · skip
          obtain ⟨f1, f2, f3⟩ := KF.out.write j (Ek.fil ac.c 512) hj9 (Ek.fil_length _ _)
          rw [if_neg hL] at f1
          have f3' : (Ek.write d (j : Int) (Ek.fil ac.c 512)).dark = false := by rw [f3]; exact decide_eq_false hL
          have HF2 := Lib.hid f2
          have HF3 := Lib.hid f3'
          have g1 : decide (0 < L) = true := decide_eq_true (by omega)
          have g2 : (L == 0) = false := by simpa using hL
          have g3 : 1 ≤ L := by omega
          have HF1 := Lib.hid f1
          clear f1 f2 f3 f3' hkd hL
          go_wp2_with fail
          refine wp_region_held_drew (S := fun wx => Below w.heap.size w wx) (by kernel_rfl) HW0.out (fun _ => ?_)
          change wpAnyH _ _ _ _ _ 17 (Array.replicate 17 false) _ _
          refine wpAnyH_take (i := 0) (v := ?_) rfl (by kernel_rfl) (by kernel_rfl) (by kernel_rfl) (fun _ _ _ h => h) (Or.inl ⟨rfl, ?hy0⟩) HW0.out ?_
          case hy0 => intro w' hw'; clear hw'; go_simp; first | done | rfl
          try simp only [Act.put, List.getElem_toArray, List.getElem_cons_zero, List.setIfInBounds_toArray, List.set_cons_zero, List.set_cons_succ]
          refine wpAnyH_take (i := 1) (v := ?_) rfl (by kernel_rfl) (by kernel_rfl) (by kernel_rfl) (fun _ _ _ h => h) (Or.inl ⟨rfl, ?hy1⟩) HW0.out ?_
          case hy1 => intro w' hw'; clear hw'; go_simp; first | done | rfl
          try simp only [Act.put, List.getElem_toArray, List.getElem_cons_zero, List.getElem_cons_succ, List.setIfInBounds_toArray, List.set_cons_zero, List.set_cons_succ]
          refine wpAnyH_take (i := 2) (v := ?_) rfl (by kernel_rfl) (by kernel_rfl) (by kernel_rfl) (fun _ _ _ h => h) (Or.inl ⟨rfl, ?hy2⟩) HW0.out ?_
          case hy2 => intro w' hw'; clear hw'; go_simp; first | done | rfl
          try simp only [Act.put, List.getElem_toArray, List.getElem_cons_zero, List.getElem_cons_succ, List.setIfInBounds_toArray, List.set_cons_zero, List.set_cons_succ]
          refine wpAnyH_take (i := 3) (v := ?_) rfl (by kernel_rfl) (by kernel_rfl) (by kernel_rfl) (fun _ _ _ h => h) (Or.inl ⟨rfl, ?hy3⟩) HW0.out ?_
          case hy3 => intro w' hw'; clear hw'; go_simp; first | done | rfl
          try simp only [Act.put, List.getElem_toArray, List.getElem_cons_zero, List.getElem_cons_succ, List.setIfInBounds_toArray, List.set_cons_zero, List.set_cons_succ]
          refine wpAnyH_take (i := 4) (v := ?_) rfl (by kernel_rfl) (by kernel_rfl) (by kernel_rfl) (fun _ _ _ h => h) (Or.inl ⟨rfl, ?hy4⟩) HW0.out ?_
          case hy4 => intro w' hw'; clear hw'; go_simp; first | done | rfl
          try simp only [Act.put, List.getElem_toArray, List.getElem_cons_zero, List.getElem_cons_succ, List.setIfInBounds_toArray, List.set_cons_zero, List.set_cons_succ]
          refine wpAnyH_take (i := 5) (v := ?_) rfl (by kernel_rfl) (by kernel_rfl) (by kernel_rfl) (fun _ _ _ h => h) (Or.inl ⟨rfl, ?hy5⟩) HW0.out ?_
          case hy5 => intro w' hw'; obtain ⟨_, q1, q2, _, _, _, _, _, _, _⟩ := HA.out w' hw'; clear hw'; go_simp; first | done | rfl
          try simp only [Act.put, List.getElem_toArray, List.getElem_cons_zero, List.getElem_cons_succ, List.setIfInBounds_toArray, List.set_cons_zero, List.set_cons_succ]
          refine wpAnyH_take (i := 6) (v := ?_) rfl (by kernel_rfl) (by kernel_rfl) (by kernel_rfl) (fun _ _ _ h => h) (Or.inl ⟨rfl, ?hy6⟩) HW0.out ?_
          case hy6 => intro w' hw'; clear hw'; go_simp; first | done | rfl
          try simp only [Act.put, List.getElem_toArray, List.getElem_cons_zero, List.getElem_cons_succ, List.setIfInBounds_toArray, List.set_cons_zero, List.set_cons_succ]
          refine wpAnyH_take (i := 7) (v := ?_) rfl (by kernel_rfl) (by kernel_rfl) (by kernel_rfl) (fun _ _ _ h => h) (Or.inl ⟨rfl, ?hy7⟩) HW0.out ?_
          case hy7 => intro w' hw'; clear hw'; go_simp; first | done | rfl
          try simp only [Act.put, List.getElem_toArray, List.getElem_cons_zero, List.getElem_cons_succ, List.setIfInBounds_toArray, List.set_cons_zero, List.set_cons_succ]
          refine wpAnyH_take (i := 8) (v := .int .i64 (j : Int)) rfl (by kernel_rfl) (by kernel_rfl) (by kernel_rfl) (fun _ _ _ h => h) (Or.inl ⟨rfl, ?hy8⟩) HW0.out ?_
          case hy8 => intro w' hw'; clear hw'; go_simp; exact HJ.out
          try simp only [Act.put, List.getElem_toArray, List.getElem_cons_zero, List.getElem_cons_succ, List.setIfInBounds_toArray, List.set_cons_zero, List.set_cons_succ]
          refine wpAnyH_take (i := 9) (v := ?_) rfl (by kernel_rfl) (by kernel_rfl) (by kernel_rfl) (fun _ _ _ h => h) (Or.inl ⟨rfl, ?hy9⟩) HW0.out ?_
          case hy9 => intro w' hw'; clear hw'; go_simp; first | done | rfl
          try simp only [Act.put, List.getElem_toArray, List.getElem_cons_zero, List.getElem_cons_succ, List.setIfInBounds_toArray, List.set_cons_zero, List.set_cons_succ]
          refine wpAnyH_take (i := 10) (v := ?_) rfl (by kernel_rfl) (by kernel_rfl) (by kernel_rfl) (fun _ _ _ h => h) (Or.inl ⟨rfl, ?hy10⟩) HW0.out ?_
          case hy10 => intro w' hw'; clear hw'; go_simp; first | done | rfl
          try simp only [Act.put, List.getElem_toArray, List.getElem_cons_zero, List.getElem_cons_succ, List.setIfInBounds_toArray, List.set_cons_zero, List.set_cons_succ]
          refine wpAnyH_take (i := 11) (v := ?_) rfl (by kernel_rfl) (by kernel_rfl) (by kernel_rfl) (fun _ _ _ h => h) (Or.inl ⟨rfl, ?hy11⟩) HW0.out ?_
          case hy11 => intro w' hw'; clear hw'; go_simp; first | done | rfl
          try simp only [Act.put, List.getElem_toArray, List.getElem_cons_zero, List.getElem_cons_succ, List.setIfInBounds_toArray, List.set_cons_zero, List.set_cons_succ]
          refine wpAnyH_take (i := 12) (v := ?_) rfl (by kernel_rfl) (by kernel_rfl) (by kernel_rfl) (fun _ _ _ h => h) (Or.inl ⟨rfl, ?hy12⟩) HW0.out ?_
          case hy12 => intro w' hw'; clear hw'; go_simp; first | done | rfl
          try simp only [Act.put, List.getElem_toArray, List.getElem_cons_zero, List.getElem_cons_succ, List.setIfInBounds_toArray, List.set_cons_zero, List.set_cons_succ]
          refine wpAnyH_take (i := 13) (v := ?_) rfl (by kernel_rfl) (by kernel_rfl) (by kernel_rfl) (fun _ _ _ h => h) (Or.inl ⟨rfl, ?hy13⟩) HW0.out ?_
          case hy13 => intro w' hw'; obtain ⟨_, q1, q2, _, _, _, _, _, _, _⟩ := HA.out w' hw'; clear hw'; go_simp; first | done | rfl
          try simp only [Act.put, List.getElem_toArray, List.getElem_cons_zero, List.getElem_cons_succ, List.setIfInBounds_toArray, List.set_cons_zero, List.set_cons_succ]
          refine wpAnyH_ready (rs := [14]) (by kernel_rfl) (by simp) ?_
          refine AllReadyH.cons rfl (fun K hK => ?_) AllReadyH.nil
          go_simp
          refine (filled_len wr.drew ac.c 512 0 rfl).mono ?_
          rintro e wF F
          have ef := F.1
          subst ef
          have HWF : Hid (Below w.heap.size w wF) := HW0.out.trans (F.2.2.1.mono (Nat.le_trans HW0.out.size (Nat.le_refl _)))
          have CW := Lib.hid (lv_filled_write KL.out.drew F (by decide) (j : Int) (by omega))
          rw [HF1.out] at CW
          clear F
          dsimp only
          refine hK.out _ _ HWF.out (fun _ => ?_)
          clear hK K
          try simp only [Act.put, List.getElem_toArray, List.getElem_cons_zero, List.getElem_cons_succ, List.setIfInBounds_toArray, List.set_cons_zero, List.set_cons_succ]
          refine wpAnyH_ready (rs := [15]) (by kernel_rfl) (by simp) ?_
          refine AllReadyH.cons rfl (fun K hK => ?_) AllReadyH.nil
          go_simp
          refine (CW.out).mono ?_
          rintro e w3 ⟨rfl, H3⟩
          clear CW HWF
          dsimp only
          refine hK.out _ _ H3.below (fun _ => ?_)
          clear hK K
          try simp only [Act.put, List.getElem_toArray, List.getElem_cons_zero, List.getElem_cons_succ, List.setIfInBounds_toArray, List.set_cons_zero, List.set_cons_succ]
          refine wpAnyH_take (i := 16) (v := ?_) rfl (by kernel_rfl) (by kernel_rfl) (by kernel_rfl) (fun _ _ _ h => h) (Or.inl ⟨rfl, ?hy16⟩) H3.below ?_
          case hy16 => intro w' hw'; clear hw'; go_simp; first | done | rfl
          try simp only [Act.put, List.getElem_toArray, List.getElem_cons_zero, List.getElem_cons_succ, List.setIfInBounds_toArray, List.set_cons_zero, List.set_cons_succ]
          refine wpAnyH_done (by kernel_rfl) ?_ _
          go_wp2_with fail
          have CD := lv_dark H3
          rw [HF3.out] at CD
          refine CD.mono ?_
          clear CD
          rintro e w' ⟨rfl, rfl⟩
          have H3' := Lib.hid H3
          clear H3
          go_wp2_with fail
          go_round
          case rel => exact ⟨k + 1, Ek.write d (j : Int) (Ek.fil ac.c 512), max 0 (L - 1), _, by first | rfl | go_num, by go_num, by omega, HF2, H3'⟩
          case measure => simp [intOf]; omega
    · obtain rfl : k = N := by omega
      have hu : d.used ≤ 60 := by have := KF.out.used; omega
      have CC := lv_crash KL.out (.slice none 0 0) [] ⟨none, 0, rfl, by simp, by simp, fun h => absurd h (by simp)⟩
      have hE : Ek.changeE (Ek.crash d (Ek.nth [])) = 0 := (Ek.change_free (d := Ek.crash d (Ek.nth [])) rfl rfl).2
      have HE := Lib.hid hE
      clear hw HAT hE
      go_wp2_with fail
      refine CC.mono ?_
      clear CC
      rintro e w3 ⟨rfl, H3⟩
      have CS := Lib.hid (lv_sync H3 (show d.used ≤ 1000 by omega))
      rw [HE.out] at CS
      go_wp2_with fail
      refine (lv_dark H3).mono ?_
      rintro e w' ⟨rfl, rfl⟩
      have hdk : (Ek.crash d (Ek.nth [])).dark = false := rfl
      clear H3
      go_wp2_with fail
      refine CS.out.mono ?_
      clear CS
      rintro e w4 ⟨rfl, H4⟩
      have HB4 := Lib.hid H4.below
      clear H4
      go_wp2_with fail
      refine (lives_is w4).mono ?_
      rintro e w5 ⟨rfl, hb5⟩
      have HB5 := Lib.hid (HB4.out.trans (hb5.mono HB4.out.size))
      clear hb5
      go_wp2_with fail
      go_ret
      exact ⟨rfl, HB5.out⟩

set_option maxRecDepth 100000 in
set_option maxHeartbeats 2000000 in
theorem sectorDark_walk (n : Int) (v : Value) (l : List Ac) (w : World) (lo : -9223372036854775808 ≤ n) (hi : n ≤ 9223372036854775807) (hl : Acts w v l) :
    Calls Try.prog 7 #[.int .i64 n, v] w fun e w' => e = .returned (.bool true) ∧ Below w.heap.size w w' := by
  by_cases h : l.length ≤ 60
  · exact dark_main n v l w lo hi hl h
  · obtain ⟨a, cap, rfl, _, _⟩ := hl
    have d0 : decide ((60 : Int) < (l.length : Int)) = true := decide_eq_true (by omega)
    generalize l.length = N at d0
    clear h lo hi
    go_enter Try.func7, Try.ntmps7
    go_wp2_with fail
    refine (lives_is w).mono ?_
    rintro e w5 ⟨rfl, hb5⟩
    go_wp2_with fail
    go_ret
    exact ⟨rfl, hb5⟩
set_option maxRecDepth 100000 in
theorem sectorDark_lifted (os : Os) (started : os.Started) (H : Type) (enc : TypeId × Value → H) :
    ReturnsInHanded {} Try.checked os 7 .any (Rows.sectorDarkSpec.pre6 enc Try.prog Try.f7 Rows.sectorDarkRow.domain false) (Rows.sectorDarkSpec.post enc Try.prog Try.f7 false true false false) := by
  refine returnsInHanded_of_change_sized (C := Try.checked) Try.own started (by kernel_rfl) Try.func7
    (ChangeSpec.witness6 (enc := enc) (C := Try.checked) false ⟨#[], #[.int .i64 0, .slice none 0 0], []⟩ 8 (by kernel_rfl) (by kernel_rfl) (by kernel_rfl) (by kernel_rfl)) ?_
  intro W base args ds gs before hval0 hW _ hsz0 _
  have hval : ∀ (j : Nat) t v, Try.f7.params[j]? = some t → args[j]? = some v → Value.okWide Try.prog W .any base t v := hval0
  have hsz : (DataW.weightsEach Try.prog (Try.f7.params.toList ++ Rows.sectorDarkSpec.plain.varTypes Try.prog) (ds ++ gs)).all (· ≤ reachBytes) = true := hsz0
  have hW' := hW
  obtain ⟨p, q, hA0, hV, rfl, hfz, hnd⟩ := hW
  have hA : DataW.TrodAll enc Try.prog W 0 (fun _ => true) true Try.f7.params.toList args.toList ds p := hA0
  rw [Try.params7] at hA hval hsz
  obtain ⟨v0, vs0, d0, ds0, p0, q0, hargs, rfl, rfl, h0, r0⟩ := trodAll_cons hA
  obtain ⟨v1, vs1, d1, ds1, p1, q1, rfl, rfl, rfl, h1, r1⟩ := trodAll_cons r0
  obtain ⟨rfl, rfl, rfl⟩ := trodAll_nil r1
  obtain rfl : args = #[v0, v1] := by cases args; simp_all
  obtain ⟨rfl, rfl⟩ := trodVars_none hV
  have k0 := h0
  have lt0 : ∀ x ∈ p0, x.block < W.heap.size := by obtain ⟨m, hm⟩ := k0; exact DataW.trod_lt m _ _ _ hm
  obtain ⟨n0, ev0, _, _, wn0⟩ := open_int Try.underlying3 (hval 0 3 v0 rfl rfl) h0
  subst ev0
  obtain ⟨lo0, hi0⟩ := wf_bounds wn0
  have k1 := h1
  have lt1 : ∀ x ∈ p1, x.block < W.heap.size := by obtain ⟨m, hm⟩ := k1; exact DataW.trod_lt m _ _ _ hm
  obtain ⟨as1, al1⟩ := acts_open (hval 1 22 v1 rfl rfl) h1
  clear hA0 hval0 hsz0
  refine (sectorDark_walk n0 v1 as1 W lo0 hi0 al1).mono fun e W' ⟨he, bel⟩ => ?_
  subst he
  exact ⟨_, rfl, _, _, _, [], _, [], hW', trodAll_mk1 (shut_bool Try.underlying4 _), (trodAll_cons_mk (Below.trod Try.laidOut (by kernel_rfl) (of_decide_eq_true (by kernel_rfl)) k0 bel lt0) (trodAll_cons_mk (Below.trod Try.laidOut (by kernel_rfl) (of_decide_eq_true (by kernel_rfl)) k1 bel lt1) trodAll_mk0)), rfl, bel.frame _, fun h => by cases h⟩

theorem sectorDark_proved : Rows.SectorDarkSaid :=
  OpenClaim.holds_of_wide 7 Try.f7 rfl rfl rfl rfl rfl rfl rfl ⟨rfl, rfl, rfl, rfl, rfl⟩ rfl rfl rfl rfl rfl (by kernel_rfl) Try.func7 (by kernel_rfl)
    (of_decide_eq_true (by kernel_rfl)) (by unfold Func.isWrapper; rw [if_neg (of_decide_eq_false (by kernel_rfl))]; exact ⟨rfl, rfl⟩)
    (fun os started H enc _ => sectorDark_lifted os started H enc)
end Go.Proofs.Ytdjgjijhokhahaa
