/- The statement SectorWhole: a crash that keeps each loose write whole leaves what was read; a copy that is synced alike. It holds for every input, without a condition. -/
import Derived.Test.YtdjgjijhokhahaaEtwo
import Derived.Test.YtdjgjijhokhahaaEdone

namespace Go.Proofs.Ytdjgjijhokhahaa
set_option maxRecDepth 100000
open Go.ChangeShapes Go.WideShapes Go.ChangeAt Go.RowKit

theorem Strs.cell {w : World} {d : Ek.Dk} {s : Value} {k g : Nat} (h : Strs w s (strsTo d k) g) (i : Nat) (hi : i < k) : w.cell? ⟨g, i, none⟩ = some (.string (strB (Ek.now d i))) := by
  obtain ⟨cap, _, _, hc⟩ := h
  rw [hc i (by rw [strsTo_length]; exact hi), strsTo_get d k i hi]; rfl
theorem Ek.sync_fr {d : Dk} {n i : Nat} (h : Fr d n i) : changeE d = 0 ∧ sync d = settled d (fun _ => 1) ∧ (sync d).n = n ∧ (sync d).dark = false ∧ (sync d).loose = [] := by
  obtain ⟨a, b⟩ := change_free h.dark h.left
  have e : sync d = settled d (fun _ => 1) := by unfold sync; rw [if_pos b, a]
  rw [e]; exact ⟨b, rfl, h.n, h.dark, rfl⟩

set_option maxRecDepth 100000 in
set_option maxHeartbeats 8000000 in
theorem whole_main (n : Nat) (v : Value) (l : List Ac) (w : World) (h1 : 1 ≤ n) (h40 : n ≤ 40) (hl : Acts w v l) (hl40 : l.length ≤ 40) :
    Calls Try.prog 6 #[.int .i64 (n : Int), v] w fun e w' => e = .returned (.bool true) ∧ Below w.heap.size w w' := by
  have HD := Lib.hid (done_any w n v l h1 (by omega) hl)
  have hfr := Ek.dn_fr n l (min l.length 40)
  obtain ⟨a1, cap1, rfl, _, _⟩ := hl
  obtain ⟨L, hL⟩ : ∃ L, L = l.length := ⟨_, rfl⟩
  rw [← hL] at HD hfr hl40 ⊢
  obtain ⟨d, hd⟩ : ∃ d, d = Ek.dn n l (min L 40) := ⟨_, rfl⟩
  rw [← hd] at HD hfr
  obtain ⟨sy0, syE, sy1, sy2, sy4⟩ := Ek.sync_fr hfr
  have hu : d.used ≤ 1000 := by have := hfr.used; omega
  have HDK := Lib.hid hfr.dark
  have HDN := Lib.hid hfr.n
  obtain ⟨d1, hd1⟩ : ∃ d1, d1 = Ek.sync d := ⟨_, rfl⟩
  rw [← hd1] at syE sy1 sy2 sy4
  have HD1 := Lib.hid hd1
  have HSY0 := Lib.hid sy0
  have HSY := Lib.hid (And.intro syE (And.intro sy1 (And.intro sy2 sy4)))
  have HU := Lib.hid hu
  have c1 : decide ((n : Int) < 1) = false := decide_eq_false (by omega)
  have c2 : decide ((40 : Int) < (n : Int)) = false := decide_eq_false (by omega)
  have c3 : decide ((40 : Int) < (L : Int)) = false := decide_eq_false (by omega)
  clear hL hd hfr hd1 sy0 syE sy1 sy2 sy4 hl40 hu
  go_enter Try.func6, Try.ntmps6
  go_wp2_with fail
  refine HD.out.mono ?_
  rintro e w1 ⟨b, rfl, H1⟩
  clear HD
  have HOK := Lib.hid H1.ok
  have CA := Lib.hid (all_any H1 HDK.out)
  have H1' := Lib.hid H1.ly
  clear H1
  go_wp2_with fail
  refine CA.out.mono ?_
  clear CA
  rintro e w2 ⟨s, g, rfl, hs, hg, hb2⟩
  rw [HDN.out] at hs
  have H2 := Lib.hid (H1'.out.add hb2 g hg (by obtain ⟨_, _, h, _⟩ := hs; exact h))
  obtain ⟨sc, hse, hsg, hsc⟩ := hs
  have HS2 : Hid (Strs w2 s (strsTo d n) g) := ⟨sc, hse, hsg, hsc⟩
  rw [strsTo_length] at hse
  subst hse
  clear hb2 hg hsg hsc H1'
  have CC := Lib.hid (ly_copy H2.out)
  go_wp2_with fail
  refine CC.out.mono ?_
  clear CC
  rintro e w3 ⟨c, rfl, H3, hb3⟩
  have HS3 := Lib.hid (HS2.out.later hb3)
  have CS := l2_sync H3 HU.out
  rw [HSY0.out, ← HD1.out] at CS
  have CS' := Lib.hid CS
  clear CS H3 hb3 HS2 H2
  go_wp2_with fail
  refine CS'.out.mono ?_
  clear CS'
  rintro e w4 ⟨rfl, H4, hk4⟩
  have HS4 := Lib.hid (HS3.out.same (hk4 g (Or.inr rfl)))
  have CL := lv_loose H4.two
  rw [HSY.out.2.2.2, show (([] : List (Nat × List Nat)).length : Int) = 0 from rfl] at CL
  have HCL := Lib.hid CL
  have H4' := Lib.hid H4
  clear CL H4 hk4 HS3
  go_wp2_with fail
  refine HCL.out.mono ?_
  clear HCL
  rintro e w' ⟨rfl, rfl⟩
  obtain ⟨M, hM⟩ : ∃ M, M = d.loose.length := ⟨_, rfl⟩
  have HM := Lib.hid hM
  have hM2 : M ≤ 1000 := by have := HOK.out.count; have := HU.out; omega
  have HO0 : Hid (w4.ownsRow w4.heap.size 3 1 (.slice none 0 0) 0 (v1s 0)) := ⟨rfl, Or.inl ⟨rfl, rfl⟩⟩
  have HW0 : Hid (Below w4.heap.size w4 w4) := Below.refl _ _
  clear hM
  go_wp2_with fail
  go_loopw [8, 9] (fun s8 s9 wr => ∃ (k : Nat) (oa : Option Addr) (oc : Nat), s8 = .slice oa k oc ∧ s9 = .int .i64 (k : Int) ∧ k ≤ M ∧ Hid (wr.ownsRow w4.heap.size 3 1 (.slice oa k oc) k (v1s k)) ∧ Hid (Below w4.heap.size w4 wr)) (fun _ s9 _ => M - (intOf s9).toNat)
  case atStart => exact ⟨0, none, 0, rfl, by go_num, Nat.zero_le _, HO0, HW0⟩
  case round =>
    obtain ⟨k, oa, oc, rfl, rfl, hk, KO, KB⟩ := hrel
    have CL := lv_loose (H4'.out.later KB.out).one
    rw [← HM.out] at CL
    have HCL := Lib.hid CL
    clear CL
    by_cases hlt : k < M
    · have j0 : decide ((k : Int) < (M : Int)) = true := decide_eq_true (by omega)
      have j1 : (0 : Int) ≤ (k : Int) := by omega
      have j2 : (k : Int) < 1000 := by omega
      have hx := Has.new wr (.cells #[.int .i64 1] 3)
      have hb3 : Below w4.heap.size w4 (wr.alloc (.cells #[.int .i64 1] 3)) := KB.out.trans ((below1 wr _).mono KB.out.size)
      have ho2 := own_same KO.out (w' := wr.alloc (.cells #[.int .i64 1] 3)) (fun q hq => Below.heap_alloc wr _ q (KO.out.lt q hq).2)
      obtain ⟨v', w5, hrun, ho4, hg4⟩ := append_1 ho2 (by omega) wr.heap.size hx hb3.size
      have KB4 : Hid (Below w4.heap.size w4 w5) := hb3.grown hg4 hb3.size (fun q e => (ho2.lt q e).1)
      obtain ⟨va, vc, rfl, _⟩ := own_len ho4
      have KO4 := Lib.hid ho4
      have HRUN := Lib.hid hrun
      clear hx hb3 ho2 hrun ho4 hg4
      go_wp2_with fail
      refine HCL.out.mono ?_
      clear HCL
      rintro e w' ⟨rfl, rfl⟩
      go_wp2_with (refine wpList_run rfl (exec_append (.tmp 52) (.tmp 53) 37 rfl _ _ _ rfl rfl HRUN.out) ?_)
      go_round
      case rel => exact ⟨k + 1, va, vc, rfl, by go_num, by omega, KO4, KB4⟩
      case measure => simp [intOf]; omega
    · obtain rfl : k = M := by omega
      have j0 : decide ((k : Int) < (k : Int)) = false := decide_eq_false (by omega)
      have CC := Lib.hid (l2_crash (H4'.out.later KB.out) _ _ (own_ks KO.out (by omega)))
      have HS6 := Lib.hid (HS4.out.later KB.out)
      clear hlt hk
      go_wp2_with fail
      refine HCL.out.mono ?_
      clear HCL
      rintro e w' ⟨rfl, rfl⟩
      go_wp2_with fail
      refine CC.out.mono ?_
      clear CC
      rintro e w6 ⟨rfl, H6, hk6⟩
      have HS7 := Lib.hid (HS6.out.same (hk6 g (Or.inr rfl)))
      have HN1 : Hid (∀ i, Ek.now (Ek.crash d (Ek.nth (List.replicate k 1))) i = Ek.now d i) := fun i => by rw [HM.out]; exact Ek.now_crash_ones HOK.out i
      have HN2 : Hid (∀ i, Ek.now d1 i = Ek.now d i) := fun i => by rw [HSY.out.1]; exact Ek.now_settled HOK.out i
      have CA := Lib.hid (all_any H6.one rfl)
      have H6' := Lib.hid H6
      clear KO KB hk6 H6 HS6
      go_wp2_with fail
      refine CA.out.mono ?_
      clear CA
      rintro e w7 ⟨s7, g7, rfl, hs7, hg7, hb7⟩
      rw [show (Ek.crash d (Ek.nth (List.replicate k 1))).n = n from HDN.out, Ek.strs_same n HN1.out] at hs7
      have H7 := Lib.hid (H6'.out.later hb7)
      have HS8 := Lib.hid (HS7.out.later hb7)
      obtain ⟨sc7, hse7, hsg7, hsc7⟩ := hs7
      have HT7 : Hid (Strs w7 s7 (strsTo d n) g7) := ⟨sc7, hse7, hsg7, hsc7⟩
      rw [strsTo_length] at hse7
      subst hse7
      have CB := Lib.hid (all_any H7.out.two HSY.out.2.2.1)
      clear hb7 hg7 hsg7 hsc7 H6' HS7
      go_wp2_with fail
      refine CB.out.mono ?_
      clear CB
      rintro e w8 ⟨s8, g8, rfl, hs8, hg8, hb8⟩
      rw [HSY.out.2.1, Ek.strs_same n HN2.out] at hs8
      have HB8 := Lib.hid (H7.out.later hb8).below
      have HS9 := Lib.hid (HS8.out.later hb8)
      have HT8 := Lib.hid (HT7.out.later hb8)
      obtain ⟨sc8, hse8, hsg8, hsc8⟩ := hs8
      have HU8 : Hid (Strs w8 s8 (strsTo d n) g8) := ⟨sc8, hse8, hsg8, hsc8⟩
      rw [strsTo_length] at hse8
      subst hse8
      clear hb8 hg8 hsg8 hsc8 H7 HS8 HT7
      go_wp2_with fail
      go_loopw [12] (fun s12 wr => ∃ k : Nat, s12 = .int .i64 (k : Int) ∧ k ≤ n ∧ Hid (∃ m, wr = w8.drewN m)) (fun s12 _ => n - (intOf s12).toNat)
      case atStart => exact ⟨0, by go_num, Nat.zero_le _, 0, rfl⟩
      case round =>
        obtain ⟨k, rfl, hk, KW⟩ := hrel
        by_cases hlt : k < n
        · have j0 : decide ((k : Int) < (n : Int)) = true := decide_eq_true (by omega)
          have j1 : (0 : Int) ≤ (k : Int) := by omega
          have j2 : (k : Int) < (n : Int) := by omega
          have x1 : wr.cell? ⟨g, k, none⟩ = some (.string (strB (Ek.now d k))) := by obtain ⟨q, hq⟩ := KW.out; rw [hq]; exact HS9.out.cell k hlt
          have x2 : wr.cell? ⟨g7, k, none⟩ = some (.string (strB (Ek.now d k))) := by obtain ⟨q, hq⟩ := KW.out; rw [hq]; exact HT8.out.cell k hlt
          have x3 : wr.cell? ⟨g8, k, none⟩ = some (.string (strB (Ek.now d k))) := by obtain ⟨q, hq⟩ := KW.out; rw [hq]; exact HU8.out.cell k hlt
          have KW2 : Hid (∃ m, wr.drew = w8.drewN m) := by obtain ⟨q, hq⟩ := KW.out; exact ⟨q + 1, by rw [hq]; rfl⟩
          generalize strB (Ek.now d k) = SS at x1 x2 x3
          go_wp2
          refine wp_region_held_drew (S := fun wx => wx = wr.drew) (by kernel_rfl) rfl (fun _ => ?_)
          change wpAnyH _ _ _ _ _ 20 (Array.replicate 20 false) _ _
          refine wpAnyH_take (i := 0) (v := ?_) rfl (by kernel_rfl) (by kernel_rfl) (by kernel_rfl) (fun _ _ _ h => h) (Or.inl ⟨rfl, ?hy0⟩) rfl ?_
          case hy0 => intro w' hw'; subst hw'; go_simp; first | done | rfl
          try simp only [Act.put, List.getElem_toArray, List.getElem_cons_zero, List.setIfInBounds_toArray, List.set_cons_zero, List.set_cons_succ]
          refine wpAnyH_take (i := 1) (v := ?_) rfl (by kernel_rfl) (by kernel_rfl) (by kernel_rfl) (fun _ _ _ h => h) (Or.inl ⟨rfl, ?hy1⟩) rfl ?_
          case hy1 => intro w' hw'; subst hw'; go_simp; first | done | rfl
          try simp only [Act.put, List.getElem_toArray, List.getElem_cons_zero, List.getElem_cons_succ, List.setIfInBounds_toArray, List.set_cons_zero, List.set_cons_succ]
          refine wpAnyH_take (i := 2) (v := ?_) rfl (by kernel_rfl) (by kernel_rfl) (by kernel_rfl) (fun _ _ _ h => h) (Or.inl ⟨rfl, ?hy2⟩) rfl ?_
          case hy2 => intro w' hw'; subst hw'; go_simp; first | done | rfl
          try simp only [Act.put, List.getElem_toArray, List.getElem_cons_zero, List.getElem_cons_succ, List.setIfInBounds_toArray, List.set_cons_zero, List.set_cons_succ]
          refine wpAnyH_take (i := 3) (v := ?_) rfl (by kernel_rfl) (by kernel_rfl) (by kernel_rfl) (fun _ _ _ h => h) (Or.inl ⟨rfl, ?hy3⟩) rfl ?_
          case hy3 => intro w' hw'; subst hw'; go_simp; first | done | rfl
          try simp only [Act.put, List.getElem_toArray, List.getElem_cons_zero, List.getElem_cons_succ, List.setIfInBounds_toArray, List.set_cons_zero, List.set_cons_succ]
          refine wpAnyH_take (i := 4) (v := ?_) rfl (by kernel_rfl) (by kernel_rfl) (by kernel_rfl) (fun _ _ _ h => h) (Or.inl ⟨rfl, ?hy4⟩) rfl ?_
          case hy4 => intro w' hw'; subst hw'; go_simp; first | done | rfl
          try simp only [Act.put, List.getElem_toArray, List.getElem_cons_zero, List.getElem_cons_succ, List.setIfInBounds_toArray, List.set_cons_zero, List.set_cons_succ]
          refine wpAnyH_take (i := 5) (v := ?_) rfl (by kernel_rfl) (by kernel_rfl) (by kernel_rfl) (fun _ _ _ h => h) (Or.inl ⟨rfl, ?hy5⟩) rfl ?_
          case hy5 => intro w' hw'; subst hw'; go_simp; first | done | rfl
          try simp only [Act.put, List.getElem_toArray, List.getElem_cons_zero, List.getElem_cons_succ, List.setIfInBounds_toArray, List.set_cons_zero, List.set_cons_succ]
          refine wpAnyH_take (i := 6) (v := ?_) rfl (by kernel_rfl) (by kernel_rfl) (by kernel_rfl) (fun _ _ _ h => h) (Or.inl ⟨rfl, ?hy6⟩) rfl ?_
          case hy6 => intro w' hw'; subst hw'; go_simp; first | done | rfl
          try simp only [Act.put, List.getElem_toArray, List.getElem_cons_zero, List.getElem_cons_succ, List.setIfInBounds_toArray, List.set_cons_zero, List.set_cons_succ]
          refine wpAnyH_take (i := 7) (v := ?_) rfl (by kernel_rfl) (by kernel_rfl) (by kernel_rfl) (fun _ _ _ h => h) (Or.inl ⟨rfl, ?hy7⟩) rfl ?_
          case hy7 => intro w' hw'; subst hw'; go_simp; first | done | rfl
          try simp only [Act.put, List.getElem_toArray, List.getElem_cons_zero, List.getElem_cons_succ, List.setIfInBounds_toArray, List.set_cons_zero, List.set_cons_succ]
          refine wpAnyH_take (i := 8) (v := ?_) rfl (by kernel_rfl) (by kernel_rfl) (by kernel_rfl) (fun _ _ _ h => h) (Or.inl ⟨rfl, ?hy8⟩) rfl ?_
          case hy8 => intro w' hw'; subst hw'; go_simp; first | done | rfl
          try simp only [Act.put, List.getElem_toArray, List.getElem_cons_zero, List.getElem_cons_succ, List.setIfInBounds_toArray, List.set_cons_zero, List.set_cons_succ]
          refine wpAnyH_take (i := 9) (v := ?_) rfl (by kernel_rfl) (by kernel_rfl) (by kernel_rfl) (fun _ _ _ h => h) (Or.inl ⟨rfl, ?hy9⟩) rfl ?_
          case hy9 => intro w' hw'; subst hw'; go_simp; first | done | rfl
          try simp only [Act.put, List.getElem_toArray, List.getElem_cons_zero, List.getElem_cons_succ, List.setIfInBounds_toArray, List.set_cons_zero, List.set_cons_succ]
          refine wpAnyH_take (i := 10) (v := ?_) rfl (by kernel_rfl) (by kernel_rfl) (by kernel_rfl) (fun _ _ _ h => h) (Or.inl ⟨rfl, ?hy10⟩) rfl ?_
          case hy10 => intro w' hw'; subst hw'; go_simp; first | done | rfl
          try simp only [Act.put, List.getElem_toArray, List.getElem_cons_zero, List.getElem_cons_succ, List.setIfInBounds_toArray, List.set_cons_zero, List.set_cons_succ]
          refine wpAnyH_take (i := 11) (v := ?_) rfl (by kernel_rfl) (by kernel_rfl) (by kernel_rfl) (fun _ _ _ h => h) (Or.inl ⟨rfl, ?hy11⟩) rfl ?_
          case hy11 => intro w' hw'; subst hw'; go_simp; first | done | rfl
          try simp only [Act.put, List.getElem_toArray, List.getElem_cons_zero, List.getElem_cons_succ, List.setIfInBounds_toArray, List.set_cons_zero, List.set_cons_succ]
          refine wpAnyH_take (i := 12) (v := ?_) rfl (by kernel_rfl) (by kernel_rfl) (by kernel_rfl) (fun _ _ _ h => h) (Or.inl ⟨rfl, ?hy12⟩) rfl ?_
          case hy12 => intro w' hw'; subst hw'; go_simp; first | done | rfl
          try simp only [Act.put, List.getElem_toArray, List.getElem_cons_zero, List.getElem_cons_succ, List.setIfInBounds_toArray, List.set_cons_zero, List.set_cons_succ]
          refine wpAnyH_take (i := 13) (v := ?_) rfl (by kernel_rfl) (by kernel_rfl) (by kernel_rfl) (fun _ _ _ h => h) (Or.inl ⟨rfl, ?hy13⟩) rfl ?_
          case hy13 => intro w' hw'; subst hw'; go_simp; first | done | rfl
          try simp only [Act.put, List.getElem_toArray, List.getElem_cons_zero, List.getElem_cons_succ, List.setIfInBounds_toArray, List.set_cons_zero, List.set_cons_succ]
          refine wpAnyH_take (i := 14) (v := ?_) rfl (by kernel_rfl) (by kernel_rfl) (by kernel_rfl) (fun _ _ _ h => h) (Or.inl ⟨rfl, ?hy14⟩) rfl ?_
          case hy14 => intro w' hw'; subst hw'; go_simp; first | done | rfl
          try simp only [Act.put, List.getElem_toArray, List.getElem_cons_zero, List.getElem_cons_succ, List.setIfInBounds_toArray, List.set_cons_zero, List.set_cons_succ]
          refine wpAnyH_take (i := 15) (v := ?_) rfl (by kernel_rfl) (by kernel_rfl) (by kernel_rfl) (fun _ _ _ h => h) (Or.inl ⟨rfl, ?hy15⟩) rfl ?_
          case hy15 => intro w' hw'; subst hw'; go_simp; first | done | rfl
          try simp only [Act.put, List.getElem_toArray, List.getElem_cons_zero, List.getElem_cons_succ, List.setIfInBounds_toArray, List.set_cons_zero, List.set_cons_succ]
          refine wpAnyH_take (i := 16) (v := ?_) rfl (by kernel_rfl) (by kernel_rfl) (by kernel_rfl) (fun _ _ _ h => h) (Or.inl ⟨rfl, ?hy16⟩) rfl ?_
          case hy16 => intro w' hw'; subst hw'; go_simp; first | done | rfl
          try simp only [Act.put, List.getElem_toArray, List.getElem_cons_zero, List.getElem_cons_succ, List.setIfInBounds_toArray, List.set_cons_zero, List.set_cons_succ]
          refine wpAnyH_take (i := 17) (v := ?_) rfl (by kernel_rfl) (by kernel_rfl) (by kernel_rfl) (fun _ _ _ h => h) (Or.inl ⟨rfl, ?hy17⟩) rfl ?_
          case hy17 => intro w' hw'; subst hw'; go_simp; first | done | rfl
          try simp only [Act.put, List.getElem_toArray, List.getElem_cons_zero, List.getElem_cons_succ, List.setIfInBounds_toArray, List.set_cons_zero, List.set_cons_succ]
          refine wpAnyH_take (i := 18) (v := ?_) rfl (by kernel_rfl) (by kernel_rfl) (by kernel_rfl) (fun _ _ _ h => h) (Or.inl ⟨rfl, ?hy18⟩) rfl ?_
          case hy18 => intro w' hw'; subst hw'; go_simp; first | done | rfl
          try simp only [Act.put, List.getElem_toArray, List.getElem_cons_zero, List.getElem_cons_succ, List.setIfInBounds_toArray, List.set_cons_zero, List.set_cons_succ]
          refine wpAnyH_take (i := 19) (v := ?_) rfl (by kernel_rfl) (by kernel_rfl) (by kernel_rfl) (fun _ _ _ h => h) (Or.inl ⟨rfl, ?hy19⟩) rfl ?_
          case hy19 => intro w' hw'; subst hw'; go_simp; first | done | rfl
          try simp only [Act.put, List.getElem_toArray, List.getElem_cons_zero, List.getElem_cons_succ, List.setIfInBounds_toArray, List.set_cons_zero, List.set_cons_succ]
          refine wpAnyH_done (by kernel_rfl) ?_ _
          go_wp2
          go_round
          case rel => exact ⟨k + 1, by go_num, by omega, KW2⟩
          case measure => simp [intOf]; omega
        · obtain rfl : k = n := by omega
          have HBW : Hid (Below w.heap.size w wr) := by obtain ⟨q, hq⟩ := KW.out; rw [hq]; exact below_drewN HB8.out q
          have j0 : decide ((k : Int) < (k : Int)) = false := decide_eq_false (by omega)
          clear hlt hk
          go_wp2_with fail
          refine (lives_is wr).mono ?_
          rintro e w10 ⟨rfl, hb10⟩
          have HB10 := Lib.hid (HBW.out.trans (hb10.mono HBW.out.size))
          clear hb10
          go_wp2_with fail
          go_ret
          exact ⟨rfl, HB10.out⟩

set_option maxRecDepth 100000 in
set_option maxHeartbeats 4000000 in
theorem sectorWhole_walk (n : Int) (v : Value) (l : List Ac) (w : World) (_lo : -9223372036854775808 ≤ n) (_hi : n ≤ 9223372036854775807) (hl : Acts w v l) :
    Calls Try.prog 6 #[.int .i64 n, v] w fun e w' => e = .returned (.bool true) ∧ Below w.heap.size w w' := by
  by_cases h1 : n < 1
  · have c1 : decide (n < 1) = true := decide_eq_true h1
    clear h1 _lo _hi
    go_enter Try.func6, Try.ntmps6
    go_wp2_with fail
    refine (lives_is w).mono ?_
    rintro e w5 ⟨rfl, hb5⟩
    go_wp2_with fail
    go_ret
    exact ⟨rfl, hb5⟩
  · have c1 : decide (n < 1) = false := decide_eq_false h1
    by_cases h2 : 40 < n
    · have c2 : decide (40 < n) = true := decide_eq_true h2
      clear h1 h2 _lo _hi
      go_enter Try.func6, Try.ntmps6
      go_wp2_with fail
      refine (lives_is w).mono ?_
      rintro e w5 ⟨rfl, hb5⟩
      go_wp2_with fail
      go_ret
      exact ⟨rfl, hb5⟩
    · have c2 : decide (40 < n) = false := decide_eq_false h2
      by_cases h3 : l.length ≤ 40
      · obtain ⟨nn, rfl⟩ : ∃ nn : Nat, n = (nn : Int) := ⟨n.toNat, by omega⟩
        exact whole_main nn v l w (by omega) (by omega) hl h3
      · obtain ⟨a, cap, rfl, _, _⟩ := hl
        have c3 : decide ((40 : Int) < (l.length : Int)) = true := decide_eq_true (by omega)
        generalize l.length = L at c3
        clear h1 h2 h3 _lo _hi
        go_enter Try.func6, Try.ntmps6
        go_wp2_with fail
        refine (lives_is w).mono ?_
        rintro e w5 ⟨rfl, hb5⟩
        go_wp2_with fail
        go_ret
        exact ⟨rfl, hb5⟩

set_option maxRecDepth 100000 in
theorem sectorWhole_lifted (os : Os) (started : os.Started) (H : Type) (enc : TypeId × Value → H) :
    ReturnsInHanded {} Try.checked os 6 .any (Rows.sectorWholeSpec.pre6 enc Try.prog Try.f6 Rows.sectorWholeRow.domain false) (Rows.sectorWholeSpec.post enc Try.prog Try.f6 false true false false) := by
  refine returnsInHanded_of_change_sized (C := Try.checked) Try.own started (by kernel_rfl) Try.func6
    (ChangeSpec.witness6 (enc := enc) (C := Try.checked) false ⟨#[], #[.int .i64 0, .slice none 0 0], []⟩ 8 (by kernel_rfl) (by kernel_rfl) (by kernel_rfl) (by kernel_rfl)) ?_
  intro W base args ds gs before hval0 hW _ hsz0 _
  have hval : ∀ (j : Nat) t v, Try.f6.params[j]? = some t → args[j]? = some v → Value.okWide Try.prog W .any base t v := hval0
  have hsz : (DataW.weightsEach Try.prog (Try.f6.params.toList ++ Rows.sectorWholeSpec.plain.varTypes Try.prog) (ds ++ gs)).all (· ≤ reachBytes) = true := hsz0
  have hW' := hW
  obtain ⟨p, q, hA0, hV, rfl, hfz, hnd⟩ := hW
  have hA : DataW.TrodAll enc Try.prog W 0 (fun _ => true) true Try.f6.params.toList args.toList ds p := hA0
  rw [Try.params6] at hA hval hsz
  obtain ⟨v0, vs0, d0, ds0, p0, q0, hargs, rfl, rfl, h0, r0⟩ := trodAll_cons hA
  obtain ⟨v1, vs1, d1, ds1, p1, q1, rfl, rfl, rfl, h1, r1⟩ := trodAll_cons r0
  obtain ⟨rfl, rfl, rfl⟩ := trodAll_nil r1
  obtain rfl : args = #[v0, v1] := by cases args; simp_all
  obtain ⟨rfl, rfl⟩ := trodVars_none hV
  have k0 := h0
  have lt0 : ∀ x ∈ p0, x.block < W.heap.size := by obtain ⟨m, hm⟩ := k0; exact DataW.trod_lt m _ _ _ hm
  obtain ⟨n0, ev0, _, _, wn0⟩ := open_int Try.underlying3 (hval 0 3 v0 rfl rfl) h0
  subst ev0
  obtain ⟨lo0, hi0⟩ := wf_bounds wn0
  have k1 := h1
  have lt1 : ∀ x ∈ p1, x.block < W.heap.size := by obtain ⟨m, hm⟩ := k1; exact DataW.trod_lt m _ _ _ hm
  obtain ⟨as1, al1⟩ := acts_open (hval 1 22 v1 rfl rfl) h1
  clear hA0 hval0 hsz0
  refine (sectorWhole_walk n0 v1 as1 W lo0 hi0 al1).mono fun e W' ⟨he, bel⟩ => ?_
  subst he
  exact ⟨_, rfl, _, _, _, [], _, [], hW', trodAll_mk1 (shut_bool Try.underlying4 _), (trodAll_cons_mk (Below.trod Try.laidOut (by kernel_rfl) (of_decide_eq_true (by kernel_rfl)) k0 bel lt0) (trodAll_cons_mk (Below.trod Try.laidOut (by kernel_rfl) (of_decide_eq_true (by kernel_rfl)) k1 bel lt1) trodAll_mk0)), rfl, bel.frame _, fun h => by cases h⟩

theorem sectorWhole_proved : Rows.SectorWholeSaid :=
  OpenClaim.holds_of_wide 6 Try.f6 rfl rfl rfl rfl rfl rfl rfl ⟨rfl, rfl, rfl, rfl, rfl⟩ rfl rfl rfl rfl rfl (by kernel_rfl) Try.func6 (by kernel_rfl)
    (of_decide_eq_true (by kernel_rfl)) (by unfold Func.isWrapper; rw [if_neg (of_decide_eq_false (by kernel_rfl))]; exact ⟨rfl, rfl⟩)
    (fun os started H enc _ => sectorWhole_lifted os started H enc)
end Go.Proofs.Ytdjgjijhokhahaa
