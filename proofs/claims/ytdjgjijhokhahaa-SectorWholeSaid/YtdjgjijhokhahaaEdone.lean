/- Contract of valiselaw11.done. -/
import Derived.Test.YtdjgjijhokhahaaElive
import Derived.Test.YtdjgjijhokhahaaEact

namespace Go.Proofs.Ytdjgjijhokhahaa
set_option maxRecDepth 100000
open Go.RowKit

namespace Ek
def stepA (d : Dk) (ac : Ac) : Dk := if ac.kind = 1 then write d ac.i (fil ac.c (fln ac.long)) else if ac.kind = 2 then sync d else if ac.kind = 4 then crash d (nth ac.keep) else d
/-- The disk behind the first k calls. -/
def dn (n : Nat) (l : List Ac) : Nat → Dk
  | 0 => fresh n
  | k + 1 => match l[k]? with
    | some ac => stepA (dn n l k) ac
    | none => dn n l k
/-- A disk without a fuse. -/
structure Fr (d : Dk) (n i : Nat) : Prop where
  n : d.n = n
  dark : d.dark = false
  left : d.left = -1
  used : d.used ≤ i
theorem Fr.step {d : Dk} {n i : Nat} (h : Fr d n i) (ac : Ac) : Fr (stepA d ac) n (i + 1) := by
  have hu := h.used
  unfold stepA
  split
  · by_cases hb : Bad d ac.i (fil ac.c (fln ac.long))
    · have e : write d ac.i (fil ac.c (fln ac.long)) = d := by unfold write; rw [if_pos hb]
      rw [e]; exact ⟨h.n, h.dark, h.left, by omega⟩
    · have e : write d ac.i (fil ac.c (fln ac.long)) = added d ac.i (fil ac.c (fln ac.long)) := by
        unfold write
        rw [if_neg hb, if_neg (by rw [h.dark]; decide)]
        exact (change_free (d := added d ac.i (fil ac.c (fln ac.long))) h.dark h.left).1
      rw [e]; exact ⟨h.n, h.dark, h.left, by show d.used + 1 ≤ _; omega⟩
  · split
    · obtain ⟨a, b⟩ := change_free h.dark h.left
      have e : sync d = settled d (fun _ => 1) := by unfold sync; rw [if_pos b, a]
      rw [e]; exact ⟨h.n, h.dark, h.left, by show d.used ≤ _; omega⟩
    · split
      · exact ⟨h.n, rfl, rfl, by show d.used ≤ _; omega⟩
      · exact ⟨h.n, h.dark, h.left, by omega⟩
theorem dn_fr (n : Nat) (l : List Ac) (k : Nat) : Fr (dn n l k) n k := by
  induction k with
  | zero => exact ⟨rfl, rfl, rfl, Nat.le_refl _⟩
  | succ k ih =>
    simp only [dn]
    split
    · exact ih.step _
    · exact ⟨ih.n, ih.dark, ih.left, by have := ih.used; omega⟩
end Ek

set_option maxRecDepth 100000 in
set_option maxHeartbeats 4000000 in
theorem done_any (w : World) (n : Nat) (v : Value) (l : List Ac) (h1 : 1 ≤ n) (h2 : n ≤ 8192) (hl : Acts w v l) :
    Calls Try.prog 16 #[.int .i64 (n : Int), v] w fun e w' => ∃ b, e = .returned (.pointer (some ⟨b, 0, none⟩)) ∧ Lv w w' b (Ek.dn n l (min l.length 40)) w'.heap.size := by
  obtain ⟨a, cap, rfl, h9, hat⟩ := hl
  have HAT : Hid (∀ k ac, l[k]? = some ac → ∃ b off, a = some ⟨b, off, none⟩ ∧ ∀ w', Below w.heap.size w w' → AcAt w' b (off + k * 5) ac) := fun k ac hk => by
    have hkl := (List.getElem?_eq_some_iff.1 hk).1
    obtain ⟨b, off, ha, hc⟩ := hat (by omega)
    exact ⟨b, off, ha, fun w' hb => (hc k ac hk).keep' (keepA_below hb)⟩
  obtain ⟨N, hN⟩ : ∃ N, N = l.length := ⟨_, rfl⟩
  rw [← hN] at h9 ⊢
  have HN := Lib.hid hN
  clear hat hN
  go_enter Try.func16, Try.ntmps16
  go_wp2_with fail
  refine (lv_new (Below.refl w.heap.size w) n h1 h2).mono ?_
  rintro e w1 ⟨b, rfl, H1⟩
  have H2' : Hid (Lv w w1 b (Ek.dn n l 0) w1.heap.size) := H1
  clear H1 h1 h2
  go_wp2_with fail
  go_loopw [7] (fun s7 wr => ∃ (k M : Nat), s7 = .int .i64 (k : Int) ∧ k ≤ N ∧ k ≤ 40 ∧ Hid (Lv w wr b (Ek.dn n l k) M)) (fun s7 _ => N - (intOf s7).toNat)
  case atStart => exact ⟨0, _, by go_num, Nat.zero_le _, by omega, H2'⟩
  case round =>
    obtain ⟨k, M, rfl, hk, h40, KL⟩ := hrel
    have hw := KL.out.below
    have hfr := Ek.dn_fr n l k
    have hu : (Ek.dn n l k).used ≤ 40 := by have := hfr.used; omega
    clear hfr
    by_cases hlt : k < N ∧ k < 40
    · have hk4 : k + 1 ≤ 40 := by omega
      have hk5 : k < N := hlt.1
      have j0 : decide ((k : Int) < (N : Int)) = true := decide_eq_true (by omega)
      have j4 : decide ((k : Int) < 40) = true := decide_eq_true (by omega)
      have j1 : (0 : Int) ≤ (k : Int) := by omega
      have j2 : (k : Int) < (N : Int) := by omega
      obtain ⟨ac, hac⟩ : ∃ ac, l[k]? = some ac := ⟨_, List.getElem?_eq_getElem (by rw [← HN.out]; exact hlt.1)⟩
      have hst : Ek.dn n l (k + 1) = Ek.stepA (Ek.dn n l k) ac := by simp only [Ek.dn, hac]
      obtain ⟨bA, oA, rfl, hA⟩ := HAT.out k ac hac
      have HA := Lib.hid hA
      have KS := Lib.hid (hA wr hw).ks
      have q0 := (hA wr hw).kind
      have q4 := (hA wr hw).kv
      unfold Ek.stepA at hst
      generalize Ek.dn n l k = d at KL hu hst
      clear hA hac hw HAT hlt
      by_cases h1 : ac.kind = 1
      · have k1 : (ac.kind == 1) = true := by simpa using h1
        rw [if_pos h1] at hst
        have HSTEP := Lib.hid hst
        clear hst h1
        have HW0 : Hid (Below w.heap.size w wr.drew) := below_drewN KL.out.below 1
        go_wp2_with fail
        refine wp_region_held_drew (S := fun wx => Below w.heap.size w wx) (by kernel_rfl) HW0.out (fun _ => ?_)
        change wpAnyH _ _ _ _ _ 18 (Array.replicate 18 false) _ _
        refine wpAnyH_take (i := 0) (v := ?_) rfl (by kernel_rfl) (by kernel_rfl) (by kernel_rfl) (fun _ _ _ h => h) (Or.inl ⟨rfl, ?hy0⟩) HW0.out ?_
        case hy0 => intro w' hw'; clear hw'; go_simp; first | done | rfl
        try simp only [Act.put, List.getElem_toArray, List.getElem_cons_zero, List.setIfInBounds_toArray, List.set_cons_zero, List.set_cons_succ]
        refine wpAnyH_take (i := 1) (v := ?_) rfl (by kernel_rfl) (by kernel_rfl) (by kernel_rfl) (fun _ _ _ h => h) (Or.inl ⟨rfl, ?hy1⟩) HW0.out ?_
        case hy1 => intro w' hw'; clear hw'; go_simp; first | done | rfl
        try simp only [Act.put, List.getElem_toArray, List.getElem_cons_zero, List.getElem_cons_succ, List.setIfInBounds_toArray, List.set_cons_zero, List.set_cons_succ]
        refine wpAnyH_take (i := 2) (v := ?_) rfl (by kernel_rfl) (by kernel_rfl) (by kernel_rfl) (fun _ _ _ h => h) (Or.inl ⟨rfl, ?hy2⟩) HW0.out ?_
        case hy2 => intro w' hw'; clear hw'; go_simp; first | done | rfl
        try simp only [Act.put, List.getElem_toArray, List.getElem_cons_zero, List.getElem_cons_succ, List.setIfInBounds_toArray, List.set_cons_zero, List.set_cons_succ]
        refine wpAnyH_take (i := 3) (v := ?_) rfl (by kernel_rfl) (by kernel_rfl) (by kernel_rfl) (fun _ _ _ h => h) (Or.inl ⟨rfl, ?hy3⟩) HW0.out ?_
        case hy3 => intro w' hw'; clear hw'; go_simp; first | done | rfl
        try simp only [Act.put, List.getElem_toArray, List.getElem_cons_zero, List.getElem_cons_succ, List.setIfInBounds_toArray, List.set_cons_zero, List.set_cons_succ]
        refine wpAnyH_take (i := 4) (v := ?_) rfl (by kernel_rfl) (by kernel_rfl) (by kernel_rfl) (fun _ _ _ h => h) (Or.inl ⟨rfl, ?hy4⟩) HW0.out ?_
        case hy4 => intro w' hw'; clear hw'; go_simp; first | done | rfl
        try simp only [Act.put, List.getElem_toArray, List.getElem_cons_zero, List.getElem_cons_succ, List.setIfInBounds_toArray, List.set_cons_zero, List.set_cons_succ]
        refine wpAnyH_take (i := 5) (v := ?_) rfl (by kernel_rfl) (by kernel_rfl) (by kernel_rfl) (fun _ _ _ h => h) (Or.inl ⟨rfl, ?hy5⟩) HW0.out ?_
        case hy5 => intro w' hw'; obtain ⟨_, q1, q2, q3, _, _, _, _, _, _⟩ := HA.out w' hw'; clear hw'; go_simp; first | done | rfl
        try simp only [Act.put, List.getElem_toArray, List.getElem_cons_zero, List.getElem_cons_succ, List.setIfInBounds_toArray, List.set_cons_zero, List.set_cons_succ]
        refine wpAnyH_take (i := 6) (v := ?_) rfl (by kernel_rfl) (by kernel_rfl) (by kernel_rfl) (fun _ _ _ h => h) (Or.inl ⟨rfl, ?hy6⟩) HW0.out ?_
        case hy6 => intro w' hw'; clear hw'; go_simp; first | done | rfl
        try simp only [Act.put, List.getElem_toArray, List.getElem_cons_zero, List.getElem_cons_succ, List.setIfInBounds_toArray, List.set_cons_zero, List.set_cons_succ]
        refine wpAnyH_take (i := 7) (v := ?_) rfl (by kernel_rfl) (by kernel_rfl) (by kernel_rfl) (fun _ _ _ h => h) (Or.inl ⟨rfl, ?hy7⟩) HW0.out ?_
        case hy7 => intro w' hw'; clear hw'; go_simp; first | done | rfl
        try simp only [Act.put, List.getElem_toArray, List.getElem_cons_zero, List.getElem_cons_succ, List.setIfInBounds_toArray, List.set_cons_zero, List.set_cons_succ]
        refine wpAnyH_take (i := 8) (v := ?_) rfl (by kernel_rfl) (by kernel_rfl) (by kernel_rfl) (fun _ _ _ h => h) (Or.inl ⟨rfl, ?hy8⟩) HW0.out ?_
        case hy8 => intro w' hw'; clear hw'; go_simp; first | done | rfl
        try simp only [Act.put, List.getElem_toArray, List.getElem_cons_zero, List.getElem_cons_succ, List.setIfInBounds_toArray, List.set_cons_zero, List.set_cons_succ]
        refine wpAnyH_take (i := 9) (v := ?_) rfl (by kernel_rfl) (by kernel_rfl) (by kernel_rfl) (fun _ _ _ h => h) (Or.inl ⟨rfl, ?hy9⟩) HW0.out ?_
        case hy9 => intro w' hw'; clear hw'; go_simp; first | done | rfl
        try simp only [Act.put, List.getElem_toArray, List.getElem_cons_zero, List.getElem_cons_succ, List.setIfInBounds_toArray, List.set_cons_zero, List.set_cons_succ]
        refine wpAnyH_take (i := 10) (v := ?_) rfl (by kernel_rfl) (by kernel_rfl) (by kernel_rfl) (fun _ _ _ h => h) (Or.inl ⟨rfl, ?hy10⟩) HW0.out ?_
        case hy10 => intro w' hw'; obtain ⟨_, q1, q2, q3, _, _, _, _, _, _⟩ := HA.out w' hw'; clear hw'; go_simp; first | done | rfl
        try simp only [Act.put, List.getElem_toArray, List.getElem_cons_zero, List.getElem_cons_succ, List.setIfInBounds_toArray, List.set_cons_zero, List.set_cons_succ]
        refine wpAnyH_take (i := 11) (v := ?_) rfl (by kernel_rfl) (by kernel_rfl) (by kernel_rfl) (fun _ _ _ h => h) (Or.inl ⟨rfl, ?hy11⟩) HW0.out ?_
        case hy11 => intro w' hw'; clear hw'; go_simp; first | done | rfl
        try simp only [Act.put, List.getElem_toArray, List.getElem_cons_zero, List.getElem_cons_succ, List.setIfInBounds_toArray, List.set_cons_zero, List.set_cons_succ]
        refine wpAnyH_take (i := 12) (v := ?_) rfl (by kernel_rfl) (by kernel_rfl) (by kernel_rfl) (fun _ _ _ h => h) (Or.inl ⟨rfl, ?hy12⟩) HW0.out ?_
        case hy12 => intro w' hw'; clear hw'; go_simp; first | done | rfl
        try simp only [Act.put, List.getElem_toArray, List.getElem_cons_zero, List.getElem_cons_succ, List.setIfInBounds_toArray, List.set_cons_zero, List.set_cons_succ]
        refine wpAnyH_take (i := 13) (v := ?_) rfl (by kernel_rfl) (by kernel_rfl) (by kernel_rfl) (fun _ _ _ h => h) (Or.inl ⟨rfl, ?hy13⟩) HW0.out ?_
        case hy13 => intro w' hw'; clear hw'; go_simp; first | done | rfl
        try simp only [Act.put, List.getElem_toArray, List.getElem_cons_zero, List.getElem_cons_succ, List.setIfInBounds_toArray, List.set_cons_zero, List.set_cons_succ]
        refine wpAnyH_take (i := 14) (v := ?_) rfl (by kernel_rfl) (by kernel_rfl) (by kernel_rfl) (fun _ _ _ h => h) (Or.inl ⟨rfl, ?hy14⟩) HW0.out ?_
        case hy14 => intro w' hw'; clear hw'; go_simp; first | done | rfl
        try simp only [Act.put, List.getElem_toArray, List.getElem_cons_zero, List.getElem_cons_succ, List.setIfInBounds_toArray, List.set_cons_zero, List.set_cons_succ]
        refine wpAnyH_take (i := 15) (v := ?_) rfl (by kernel_rfl) (by kernel_rfl) (by kernel_rfl) (fun _ _ _ h => h) (Or.inl ⟨rfl, ?hy15⟩) HW0.out ?_
        case hy15 => intro w' hw'; obtain ⟨_, q1, q2, q3, _, _, _, _, _, _⟩ := HA.out w' hw'; clear hw'; go_simp; first | done | rfl
        try simp only [Act.put, List.getElem_toArray, List.getElem_cons_zero, List.getElem_cons_succ, List.setIfInBounds_toArray, List.set_cons_zero, List.set_cons_succ]
        refine wpAnyH_ready (rs := [16]) (by kernel_rfl) (by simp) ?_
        refine AllReadyH.cons rfl (fun K hK => ?_) AllReadyH.nil
        go_simp
        refine (filled_any wr.drew ac.c ac.long).mono ?_
        rintro e wF F
        have ef := F.1
        subst ef
        have HWF : Hid (Below w.heap.size w wF) := HW0.out.trans (F.2.2.1.mono (Nat.le_trans HW0.out.size (Nat.le_refl _)))
        have CW := Lib.hid (lv_filled_write KL.out.drew F (by have := Ek.fln_le ac.long; omega) ac.i (by omega))
        clear F
        dsimp only
        refine hK.out _ _ HWF.out (fun _ => ?_)
        clear hK K
        try simp only [Act.put, List.getElem_toArray, List.getElem_cons_zero, List.getElem_cons_succ, List.setIfInBounds_toArray, List.set_cons_zero, List.set_cons_succ]
        refine wpAnyH_ready (rs := [17]) (by kernel_rfl) (by simp) ?_
        refine AllReadyH.cons rfl (fun K hK => ?_) AllReadyH.nil
        go_simp
        refine (CW.out).mono ?_
        rintro e w3 ⟨rfl, H3⟩
        clear CW HWF
        dsimp only
        refine hK.out _ _ H3.below (fun _ => ?_)
        clear hK K
        try simp only [Act.put, List.getElem_toArray, List.getElem_cons_zero, List.getElem_cons_succ, List.setIfInBounds_toArray, List.set_cons_zero, List.set_cons_succ]
        refine wpAnyH_done (by kernel_rfl) ?_ _
        have H3' := Lib.hid H3
        clear H3
        go_wp2_with fail
        go_round
        case rel => exact ⟨k + 1, _, by go_num, by omega, by omega, by rw [HSTEP.out]; exact H3'⟩
        case measure => simp [intOf]; omega
      · have k1 : (ac.kind == 1) = false := by simpa using h1
        rw [if_neg h1] at hst
        by_cases h2 : ac.kind = 2
        · have k2 : (ac.kind == 2) = true := by simpa using h2
          rw [if_pos h2] at hst
          have HSTEP := Lib.hid hst
          clear hst h1 h2
          have CS := Lib.hid (lv_sync KL.out (by omega))
          go_wp2_with fail
          refine CS.out.mono ?_
          clear CS
          rintro e w3 ⟨rfl, H3⟩
          have H3' := Lib.hid H3
          clear H3
          go_wp2_with fail
          go_round
          case rel => exact ⟨k + 1, _, by go_num, by omega, by omega, by rw [HSTEP.out]; exact H3'⟩
          case measure => simp [intOf]; omega
        · have k2 : (ac.kind == 2) = false := by simpa using h2
          rw [if_neg h2] at hst
          by_cases h4 : ac.kind = 4
          · have k4 : (ac.kind == 4) = true := by simpa using h4
            rw [if_pos h4] at hst
            have HSTEP := Lib.hid hst
            have CC := Lib.hid (lv_crash KL.out _ _ KS.out)
            obtain ⟨ka, kc, hke, _⟩ := KS.out
            rw [hke] at q4 CC
            clear hst h1 h2 h4 hke KS
            generalize ac.keep.length = kn at q4 CC
            go_wp2_with fail
            refine CC.out.mono ?_
            clear CC
            rintro e w3 ⟨rfl, H3⟩
            have H3' := Lib.hid H3
            clear H3
            go_wp2_with fail
            go_round
            case rel => exact ⟨k + 1, _, by go_num, by omega, by omega, by rw [HSTEP.out]; exact H3'⟩
            case measure => simp [intOf]; omega
          · have k4 : (ac.kind == 4) = false := by simpa using h4
            rw [if_neg h4] at hst
            have HSTEP := Lib.hid hst
            clear hst h1 h2 h4 q4 KS
            go_wp2_with fail
            go_round
            case rel => exact ⟨k + 1, _, by go_num, by omega, by omega, by rw [HSTEP.out]; exact KL⟩
            case measure => simp [intOf]; omega
    · have HE : Hid (Lv w wr b (Ek.dn n l (min N 40)) wr.heap.size) := by
        rw [show min N 40 = k by omega]; exact KL.out.top
      clear hw HAT KL
      by_cases hx : k < N
      · have j0 : decide ((k : Int) < (N : Int)) = true := decide_eq_true (by omega)
        have j4 : decide ((k : Int) < 40) = false := decide_eq_false (by omega)
        clear hlt
        go_wp2_with fail
        go_ret
        exact ⟨_, rfl, HE.out⟩
      · have j0 : decide ((k : Int) < (N : Int)) = false := decide_eq_false (by omega)
        clear hlt
        go_wp2_with fail
        go_ret
        exact ⟨_, rfl, HE.out⟩
end Go.Proofs.Ytdjgjijhokhahaa
