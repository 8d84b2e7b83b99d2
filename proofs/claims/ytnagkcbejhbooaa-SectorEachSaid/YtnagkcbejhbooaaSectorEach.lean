/- The statement SectorEach. -/
import Derived.Test.YtnagkcbejhbooaaEeach2

namespace Go.Proofs.Ytnagkcbejhbooaa
set_option maxRecDepth 100000
open Go.ChangeShapes Go.WideShapes Go.ChangeAt Go.RowKit

set_option maxRecDepth 100000 in
set_option maxHeartbeats 8000000 in
theorem each_main (n : Nat) (v : Value) (l : List Ac) (kv : Value) (ks : List Int) (w : World) (h1 : 1 ≤ n) (h40 : n ≤ 40) (hl : Acts w v l) (hk : Ks w kv ks) (hl40 : l.length ≤ 40) :
    Calls Try.prog 4 #[.int .i64 (n : Int), v, kv] w fun e w' => e = .returned (.bool true) ∧ Below w.heap.size w w' := by
  have HKS : Hid (∀ w', Below w.heap.size w w' → Ks w' kv ks) := fun w' hb => hk.keep (keepA_below hb)
  obtain ⟨ka, kc, hkv, _⟩ := hk
  subst hkv
  generalize ks.length = kn at HKS
  obtain ⟨a, cap, rfl, _, hat⟩ := hl
  have HAT : Hid (∀ k ac, l[k]? = some ac → ∃ b off, a = some ⟨b, off, none⟩ ∧ ∀ w', Below w.heap.size w w' → AcAt w' b (off + k * 5) ac) := fun k ac hk => by
    have hkl := (List.getElem?_eq_some_iff.1 hk).1
    obtain ⟨b, off, ha, hc⟩ := hat (by omega)
    exact ⟨b, off, ha, fun w' hb => (hc k ac hk).keep' (keepA_below hb)⟩
  obtain ⟨L, hL⟩ : ∃ L, L = l.length := ⟨_, rfl⟩
  rw [← hL] at hl40 ⊢
  have HL := Lib.hid hL
  have HL40 := Lib.hid hl40
  have HNW := Lib.hid (lv_new (Below.refl w.heap.size w) n h1 (by omega))
  have c1 : decide ((n : Int) < 1) = false := decide_eq_false (by omega)
  have c2 : decide ((40 : Int) < (n : Int)) = false := decide_eq_false (by omega)
  have c3 : decide ((40 : Int) < (L : Int)) = false := decide_eq_false (by omega)
  obtain ⟨OBJ, hO⟩ : ∃ O, O = Obj.cells (madeCells #[Value.int .u8 0] 512) 5 := ⟨_, rfl⟩
  have hmk := run_make_row' (P := Try.prog) 43 5 (.int .u8 0) 1 Try.underlying43 Try.infoU8 rfl .i64 .i64 512 (by omega) (by omega)
  rw [show ((512 : Nat) : Int) = 512 from rfl, ← hO] at hmk
  have HZ : Hid (∀ W : World, Has (W.alloc OBJ) W.heap.size (.cells (vb zrow).toArray 5 (0, 0))) := fun W => by
    have := Has.new W OBJ
    rw [hO, made_bytes] at this
    rw [hO, made_bytes]; exact this
  clear hat hL hl40 hO
  go_enter Try.func4, Try.ntmps4
  go_wp2_with fail
  refine HNW.out.mono ?_
  clear HNW
  rintro e w1 ⟨b, rfl, H1⟩
  have H1' := Lib.hid H1
  clear H1
  obtain ⟨ZS, hZS⟩ : ∃ S, S = strB zrow := ⟨_, rfl⟩
  have HZS := Lib.hid hZS
  clear hZS
  have HR0 : Hid (R2 w1 w1.heap.size (.slice none 0 0) [] (List.replicate 0 [ZS])) := R2.nil w1
  have HB0 : Hid (Below w1.heap.size w1 w1) := Below.refl _ _
  go_wp2_with fail
  go_loopw [9, 10] (fun s9 s10 wr => ∃ (k : Nat) (us : List Value) (oa : Option Addr) (oc : Nat), s9 = .slice oa k oc ∧ s10 = .int .i64 (k : Int) ∧ k ≤ n ∧ Hid (us.length = k) ∧ Hid (R2 wr w1.heap.size (.slice oa k oc) us (List.replicate k [ZS])) ∧ Hid (Below w1.heap.size w1 wr)) (fun _ s10 _ => n - (intOf s10).toNat)
  case atStart => exact ⟨0, [], none, 0, rfl, by go_num, Nat.zero_le _, rfl, HR0, HB0⟩
  case round =>
    obtain ⟨k, us, oa, oc, rfl, rfl, hk, KU, KR, KB⟩ := hrel
    by_cases hlt : k < n
    · have j0 : decide ((k : Int) < (n : Int)) = true := decide_eq_true (by omega)
      have j1 : (0 : Int) ≤ (k : Int) := by omega
      have j2 : (k : Int) < 1000 := by omega
      obtain ⟨wA, hA⟩ : ∃ wA, wA = wr.alloc OBJ := ⟨_, rfl⟩
      have hz : Has wA wr.heap.size (.cells (vb zrow).toArray 5 (0, 0)) := by rw [hA]; exact HZ.out wr
      have hc := string_of wA (some ⟨wr.heap.size, 0, none⟩) 512 512 _ ZS (has_sl hz zrow_row.2 (by rw [zrow_row.1]; decide) 512 512 zrow_row.1.symm) HZS.out
      have hb3 : Below wr.heap.size wr ((wA.alloc (.cells #[.string ZS] 9)).alloc (.cells #[.slice (some ⟨wA.heap.size, 0, none⟩) 1 1] 27)) := by
        rw [hA]; exact ((below1 wr _).trans ((below1 _ _).mono (by simp))).trans ((below1 _ _).mono (by simp; omega))
      have hg1 := Has.later (Has.new wA (.cells #[.string ZS] 9)) (below1 _ (.cells #[.slice (some ⟨wA.heap.size, 0, none⟩) 1 1] 27))
      have hg2 := Has.new (wA.alloc (.cells #[.string ZS] 9)) (.cells #[.slice (some ⟨wA.heap.size, 0, none⟩) 1 1] 27)
      obtain ⟨v', w5, hrun, hr5, hg5⟩ := KR.out.append hb3 (by rw [KU.out]; omega) KB.out.size hg1 hg2 (by rw [hA]; simp)
      have KB4 : Hid (Below w1.heap.size w1 w5) := (KB.out.trans (hb3.mono KB.out.size)).grown hg5 (Nat.le_trans KB.out.size hb3.size) (fun q e => (KR.out.lt q (Or.inl e)).1)
      obtain ⟨va, vc, rfl, hvc⟩ := own_len hr5.own
      clear hvc
      have hlen : (us ++ [Value.slice (some ⟨wA.heap.size, 0, none⟩) 1 1]).length = k + 1 := by rw [List.length_append, KU.out]; rfl
      rw [hlen] at hr5 hrun
      rw [show List.replicate k [ZS] ++ [[ZS]] = List.replicate (k + 1) [ZS] by rw [List.replicate_succ']] at hr5
      have KR4 := Lib.hid hr5
      have KU4 := Lib.hid hlen
      have hsz : (wA.alloc (.cells #[.string ZS] 9)).heap.size = wA.heap.size + 1 := by simp
      have hA' := hA.symm
      rw [hsz] at hrun
      clear hb3 hg1 hg2 hr5 hg5 hlen hz hA
      have HRUN := Lib.hid hrun
      clear hrun
      go_wp2_with (refine wpList_run rfl (exec_append (.tmp 49) (.tmp 53) 42 rfl (.slice oa k oc) (.slice (some ⟨wA.heap.size + 1, 0, none⟩) 1 1) (.slice va (k + 1) vc) rfl rfl HRUN.out) ?_)
      go_round
      case rel => exact ⟨k + 1, _, va, vc, rfl, by go_num, by omega, KU4, KR4, KB4⟩
      case measure => simp [intOf]; omega
    · obtain rfl : n = k := by omega
      obtain ⟨go, oc', hoa, _, _⟩ := own_at KR.out.own (by rw [KU.out]; omega)
      rw [KU.out] at hoa
      injection hoa with e1 _ e3
      subst e1
      subst e3
      have KE0 : Hid (El w w1.heap.size wr b n go oc (Ek.fresh n) (Ek.fresh n)) := by
        show El _ _ _ _ _ _ _ _ _
        have := KR.out
        rw [HZS.out] at this
        exact El.start H1'.out KB.out KU.out this
      have KN0 : Hid (Ek.Nw (Ek.fresh n) n 0) := Ek.Nw.fresh n
      have j0 : decide ((n : Int) < (n : Int)) = false := decide_eq_false (by omega)
      have HB1 : Hid (w.heap.size ≤ w1.heap.size) := H1'.out.below.size
      have HN := Lib.hid h1
      have HN40 := Lib.hid h40
      clear KR KU KB HR0 HB0 hlt hk hmk HZ HZS H1'
      go_wp2_with fail
      go_loopw [11] (fun s11 wr => ∃ (k : Nat) (d : Ek.Dk), s11 = .int .i64 (k : Int) ∧ k ≤ L ∧ Hid (Ek.Nw d n k) ∧ Hid (El w w1.heap.size wr b n go oc d d)) (fun s11 _ => L - (intOf s11).toNat)
      case atStart => exact ⟨0, _, by go_num, Nat.zero_le _, KN0, KE0⟩
      case round =>
        obtain ⟨k, d, rfl, hk, KN, KE⟩ := hrel
        have hw := KE.out.below
        have hl4 := HL40.out
        by_cases hlt : k < L
        · have j0 : decide ((k : Int) < (L : Int)) = true := decide_eq_true (by omega)
          have j1 : (0 : Int) ≤ (k : Int) := by omega
          have j2 : (k : Int) < (L : Int) := by omega
          have j3 : (k : Int) ≤ 40 := by omega
          have j4 : k ≤ 40 := by omega
          obtain ⟨ac, hac⟩ : ∃ ac, l[k]? = some ac := ⟨_, List.getElem?_eq_getElem (by rw [← HL.out]; exact hlt)⟩
          obtain ⟨bA, oA, rfl, hA⟩ := HAT.out k ac hac
          have HA := Lib.hid hA
          have q0 := (hA wr hw).kind
          have HW0 : Hid (Below w.heap.size w wr.drew) := below_drewN hw 1
          clear hA hac hw HAT hl4
          by_cases hk1 : ac.kind = 1
          · have k1 : (ac.kind == 1) = true := by simpa using hk1
            have hc8 := HA.out wr KE.out.below
            have hc8 := hc8.c8
            clear hk1
            go_wp2_with fail
            refine wp_region_held_drew (S := fun wx => Below w.heap.size w wx) (by kernel_rfl) HW0.out (fun _ => ?_)
            change wpAnyH _ _ _ _ _ 12 (Array.replicate 12 false) _ _
            refine wpAnyH_take (i := 0) (v := ?_) rfl (by kernel_rfl) (by kernel_rfl) (by kernel_rfl) (fun _ _ _ h => h) (Or.inl ⟨rfl, ?hy0⟩) HW0.out ?_
            case hy0 => intro w' hw'; clear hw'; go_simp; first | done | rfl
            try simp only [Act.put, List.getElem_toArray, List.getElem_cons_zero, List.setIfInBounds_toArray, List.set_cons_zero, List.set_cons_succ]
            refine wpAnyH_take (i := 1) (v := ?_) rfl (by kernel_rfl) (by kernel_rfl) (by kernel_rfl) (fun _ _ _ h => h) (Or.inl ⟨rfl, ?hy1⟩) HW0.out ?_
            case hy1 => intro w' hw'; clear hw'; go_simp; first | done | rfl
            try simp only [Act.put, List.getElem_toArray, List.getElem_cons_zero, List.getElem_cons_succ, List.setIfInBounds_toArray, List.set_cons_zero, List.set_cons_succ]
            refine wpAnyH_take (i := 2) (v := ?_) rfl (by kernel_rfl) (by kernel_rfl) (by kernel_rfl) (fun _ _ _ h => h) (Or.inl ⟨rfl, ?hy2⟩) HW0.out ?_
            case hy2 => intro w' hw'; clear hw'; go_simp; first | done | rfl
            try simp only [Act.put, List.getElem_toArray, List.getElem_cons_zero, List.getElem_cons_succ, List.setIfInBounds_toArray, List.set_cons_zero, List.set_cons_succ]
            refine wpAnyH_take (i := 3) (v := ?_) rfl (by kernel_rfl) (by kernel_rfl) (by kernel_rfl) (fun _ _ _ h => h) (Or.inl ⟨rfl, ?hy3⟩) HW0.out ?_
            case hy3 => intro w' hw'; clear hw'; go_simp; first | done | rfl
            try simp only [Act.put, List.getElem_toArray, List.getElem_cons_zero, List.getElem_cons_succ, List.setIfInBounds_toArray, List.set_cons_zero, List.set_cons_succ]
            refine wpAnyH_take (i := 4) (v := ?_) rfl (by kernel_rfl) (by kernel_rfl) (by kernel_rfl) (fun _ _ _ h => h) (Or.inl ⟨rfl, ?hy4⟩) HW0.out ?_
            case hy4 => intro w' hw'; obtain ⟨_, q1, q2, q3, _, _, _, _, _, _⟩ := HA.out w' hw'; clear hw'; go_simp; first | done | rfl
            try simp only [Act.put, List.getElem_toArray, List.getElem_cons_zero, List.getElem_cons_succ, List.setIfInBounds_toArray, List.set_cons_zero, List.set_cons_succ]
            refine wpAnyH_take (i := 5) (v := ?_) rfl (by kernel_rfl) (by kernel_rfl) (by kernel_rfl) (fun _ _ _ h => h) (Or.inl ⟨rfl, ?hy5⟩) HW0.out ?_
            case hy5 => intro w' hw'; clear hw'; go_simp; first | done | rfl
            try simp only [Act.put, List.getElem_toArray, List.getElem_cons_zero, List.getElem_cons_succ, List.setIfInBounds_toArray, List.set_cons_zero, List.set_cons_succ]
            refine wpAnyH_take (i := 6) (v := ?_) rfl (by kernel_rfl) (by kernel_rfl) (by kernel_rfl) (fun _ _ _ h => h) (Or.inl ⟨rfl, ?hy6⟩) HW0.out ?_
            case hy6 => intro w' hw'; clear hw'; go_simp; first | done | rfl
            try simp only [Act.put, List.getElem_toArray, List.getElem_cons_zero, List.getElem_cons_succ, List.setIfInBounds_toArray, List.set_cons_zero, List.set_cons_succ]
            refine wpAnyH_take (i := 7) (v := ?_) rfl (by kernel_rfl) (by kernel_rfl) (by kernel_rfl) (fun _ _ _ h => h) (Or.inl ⟨rfl, ?hy7⟩) HW0.out ?_
            case hy7 => intro w' hw'; clear hw'; go_simp; first | done | rfl
            try simp only [Act.put, List.getElem_toArray, List.getElem_cons_zero, List.getElem_cons_succ, List.setIfInBounds_toArray, List.set_cons_zero, List.set_cons_succ]
            refine wpAnyH_take (i := 8) (v := ?_) rfl (by kernel_rfl) (by kernel_rfl) (by kernel_rfl) (fun _ _ _ h => h) (Or.inl ⟨rfl, ?hy8⟩) HW0.out ?_
            case hy8 => intro w' hw'; clear hw'; go_simp; first | done | rfl
            try simp only [Act.put, List.getElem_toArray, List.getElem_cons_zero, List.getElem_cons_succ, List.setIfInBounds_toArray, List.set_cons_zero, List.set_cons_succ]
            refine wpAnyH_take (i := 9) (v := ?_) rfl (by kernel_rfl) (by kernel_rfl) (by kernel_rfl) (fun _ _ _ h => h) (Or.inl ⟨rfl, ?hy9⟩) HW0.out ?_
            case hy9 => intro w' hw'; obtain ⟨_, q1, q2, q3, _, _, _, _, _, _⟩ := HA.out w' hw'; clear hw'; go_simp; first | done | rfl
            try simp only [Act.put, List.getElem_toArray, List.getElem_cons_zero, List.getElem_cons_succ, List.setIfInBounds_toArray, List.set_cons_zero, List.set_cons_succ]
            refine wpAnyH_ready (rs := [10]) (by kernel_rfl) (by simp) ?_
            refine AllReadyH.cons rfl (fun K hK => ?_) AllReadyH.nil
            go_simp
            refine (filled_any wr.drew ac.c ac.long).mono ?_
            rintro e wF F
            have ef := F.1
            subst ef
            have HWF : Hid (Below w.heap.size w wF) := HW0.out.trans (F.2.2.1.mono HW0.out.size)
            have HF := Lib.hid F
            clear F
            dsimp only
            refine hK.out _ _ HWF.out (fun _ => ?_)
            clear hK K
            try simp only [Act.put, List.getElem_toArray, List.getElem_cons_zero, List.getElem_cons_succ, List.setIfInBounds_toArray, List.set_cons_zero, List.set_cons_succ]
            refine wpAnyH_ready (rs := [11]) (by kernel_rfl) (by simp) ?_
            refine AllReadyH.cons rfl (fun K hK => ?_) AllReadyH.nil
            go_simp
            refine hK.out _ _ HWF.out (fun _ => ?_)
            clear hK K
            try simp only [Act.put, List.getElem_toArray, List.getElem_cons_zero, List.getElem_cons_succ, List.setIfInBounds_toArray, List.set_cons_zero, List.set_cons_succ]
            refine wpAnyH_done (by kernel_rfl) ?_ _
            have hfl := Ek.fln_le ac.long
            have KF := Lib.hid (KE.out.later (below_drewN (Below.refl _ _) 1))
            have CW := KF.out.write HF.out (by omega) ac.i (by have := KN.out.used; omega)
            have HSF := Lib.hid (HF.out.sl (by omega))
            have HFL : Hid (Ek.fln ac.long ≤ 1000) := by show _ ≤ _; omega
            obtain ⟨bs, hbs⟩ : ∃ bs, bs = Ek.fil ac.c (Ek.fln ac.long) := ⟨_, rfl⟩
            have HSZ : Hid (Ek.fln ac.long = bs.length) := by rw [hbs, Ek.fil_length]; exact rfl
            rw [← hbs] at CW HSF
            generalize Ek.fln ac.long = fl at CW HSF HFL HSZ hfl ⊢
            have q1 := (HA.out wF HWF.out).i
            clear KF hbs q0
            by_cases hbad : Ek.Bad d ac.i bs
            · obtain ⟨b1, b2⟩ := Ek.Nw.bad ac.i bs hbad
              rw [b1, b2] at CW
              have HCW := Lib.hid CW
              have KN2 := Lib.hid KN.out.next
              clear b1 b2 hbad CW
              go_wp2_with fail
              refine HCW.out.mono ?_
              clear HCW
              rintro e w3 ⟨rfl, H3, _⟩
              have H3' := Lib.hid H3
              clear H3
              go_wp2_with fail
              go_round
              case rel => exact ⟨k + 1, d, by go_num, by omega, KN2, H3'⟩
              case measure => simp [intOf]; omega
            · obtain ⟨b1, b2, b3⟩ := KN.out.good ac.i bs hbad
              rw [b1, b2] at CW
              obtain ⟨ii, hii⟩ : ∃ ii : Nat, ac.i = (ii : Int) := ⟨ac.i.toNat, by unfold Ek.Bad at hbad; omega⟩
              have hin : ii < n := by unfold Ek.Bad at hbad; rw [KN.out.n] at hbad; omega
              rw [hii] at CW b3 q1
              have HII := Lib.hid hii
              have HCW := Lib.hid CW
              have KN3 := Lib.hid b3
              clear b1 b2 b3 hbad CW hii
              go_wp2_with fail
              refine HCW.out.mono ?_
              clear HCW
              rintro e w3 ⟨rfl, H3, hs3⟩
              have hs3' := hs3 bs HSF.out
              have hml : (Ek.may d ii).length ≤ 1000 := by have := KN.out.may_len ii; omega
              have H3d := H3.later (below_drewN (Below.refl _ _) 1)
              have hsd : Sl w3.drew (.slice (some ⟨wr.drew.heap.size, 0, none⟩) fl fl) bs := hs3'.later (below_drewN (Below.refl _ _) 1)
              have hcv := string_of w3.drew (some ⟨wr.drew.heap.size, 0, none⟩) fl fl bs (strB bs) hsd rfl
              obtain ⟨u, hcu, hgo, g, gc, glen, wP, hrun, hcp, hfp, ⟨ua, ul, uc, rfl⟩, hbp, HEP⟩ := H3d.put HB1.out hin bs hml
              have HWD : Hid (Below w.heap.size w w3.drew) := H3d.below
              have HWA : Hid (Below w.heap.size w (w3.drew.alloc (.cells #[.string (strB bs)] 9))) := H3d.below.trans ((below1 _ _).mono H3d.below.size)
              have hcu2 : (w3.drew.alloc (.cells #[.string (strB bs)] 9)).cell? ⟨go, ii, none⟩ = some (.slice ua ul uc) := ((below1 w3.drew _).cell (p := ⟨go, ii, none⟩) hgo).trans hcu
              have HWP := Lib.hid hbp
              have HWS : Hid (Below w.heap.size w (wP.setCell ⟨go, ii, none⟩ (.slice (some ⟨g, 0, none⟩) glen gc))) := HEP.out.below
              have HRUN := Lib.hid hrun
              generalize strB bs = SB at hcv hcu2 HWA HRUN
              have hcv : (convert 43 9 (.slice (some ⟨wr.heap.size, 0, none⟩) fl fl)).run Try.prog w3.drew = .ok (.string SB) w3.drew := hcv
              have hcu : w3.cell? ⟨go, ii, none⟩ = some (.slice ua ul uc) := hcu
              have hcu2 : (w3.alloc (.cells #[.string SB] 9)).cell? ⟨go, ii, none⟩ = some (.slice ua ul uc) := hcu2
              have i0 : (0 : Int) ≤ (ii : Int) := by omega
              have i1 : (ii : Int) < (n : Int) := by omega
              have i2 : (ii : Int) ≤ 40 := by omega
              clear H3 hs3 hs3' hml H3d hsd hbp hrun hgo hin hfl q1
              go_wp2_with fail
              refine wp_region_held_drew (S := fun wx => Below w.heap.size w wx) (by kernel_rfl) HWD.out (fun _ => ?_)
              change wpAnyH _ _ _ _ _ 20 (Array.replicate 20 false) _ _
              refine wpAnyH_take (i := 0) (v := ?_) rfl (by kernel_rfl) (by kernel_rfl) (by kernel_rfl) (fun _ _ _ h => h) (Or.inl ⟨rfl, ?hy0⟩) HWD.out ?_
              case hy0 => intro w' hw'; clear hw'; go_simp; first | done | rfl
              try simp only [Act.put, List.getElem_toArray, List.getElem_cons_zero, List.setIfInBounds_toArray, List.set_cons_zero, List.set_cons_succ]
              refine wpAnyH_take (i := 1) (v := ?_) rfl (by kernel_rfl) (by kernel_rfl) (by kernel_rfl) (fun _ _ _ h => h) (Or.inl ⟨rfl, ?hy1⟩) HWD.out ?_
              case hy1 => intro w' hw'; clear hw'; go_simp; first | done | rfl
              try simp only [Act.put, List.getElem_toArray, List.getElem_cons_zero, List.getElem_cons_succ, List.setIfInBounds_toArray, List.set_cons_zero, List.set_cons_succ]
              refine wpAnyH_take (i := 2) (v := ?_) rfl (by kernel_rfl) (by kernel_rfl) (by kernel_rfl) (fun _ _ _ h => h) (Or.inl ⟨rfl, ?hy2⟩) HWD.out ?_
              case hy2 => intro w' hw'; clear hw'; go_simp; first | done | rfl
              try simp only [Act.put, List.getElem_toArray, List.getElem_cons_zero, List.getElem_cons_succ, List.setIfInBounds_toArray, List.set_cons_zero, List.set_cons_succ]
              refine wpAnyH_take (i := 3) (v := ?_) rfl (by kernel_rfl) (by kernel_rfl) (by kernel_rfl) (fun _ _ _ h => h) (Or.inl ⟨rfl, ?hy3⟩) HWD.out ?_
              case hy3 => intro w' hw'; clear hw'; go_simp; first | done | rfl
              try simp only [Act.put, List.getElem_toArray, List.getElem_cons_zero, List.getElem_cons_succ, List.setIfInBounds_toArray, List.set_cons_zero, List.set_cons_succ]
              refine wpAnyH_take (i := 4) (v := ?_) rfl (by kernel_rfl) (by kernel_rfl) (by kernel_rfl) (fun _ _ _ h => h) (Or.inl ⟨rfl, ?hy4⟩) HWD.out ?_
              case hy4 => intro w' hw'; clear hw'; go_simp; first | done | rfl
              try simp only [Act.put, List.getElem_toArray, List.getElem_cons_zero, List.getElem_cons_succ, List.setIfInBounds_toArray, List.set_cons_zero, List.set_cons_succ]
              refine wpAnyH_take (i := 5) (v := ?_) rfl (by kernel_rfl) (by kernel_rfl) (by kernel_rfl) (fun _ _ _ h => h) (Or.inl ⟨rfl, ?hy5⟩) HWD.out ?_
              case hy5 => intro w' hw'; obtain ⟨_, q1, q2, q3, _, _, _, _, _, _⟩ := HA.out w' hw'; rw [HII.out] at q1; clear hw'; go_simp; first | done | rfl
              try simp only [Act.put, List.getElem_toArray, List.getElem_cons_zero, List.getElem_cons_succ, List.setIfInBounds_toArray, List.set_cons_zero, List.set_cons_succ]
              refine wpAnyH_take (i := 6) (v := ?_) rfl (by kernel_rfl) (by kernel_rfl) (by kernel_rfl) (fun _ _ _ h => h) (Or.inl ⟨rfl, ?hy6⟩) HWD.out ?_
              case hy6 => intro w' hw'; clear hw'; go_simp; first | done | rfl
              try simp only [Act.put, List.getElem_toArray, List.getElem_cons_zero, List.getElem_cons_succ, List.setIfInBounds_toArray, List.set_cons_zero, List.set_cons_succ]
              refine wpAnyH_take (i := 7) (v := ?_) rfl (by kernel_rfl) (by kernel_rfl) (by kernel_rfl) (fun _ _ _ h => h) (Or.inl ⟨rfl, ?hy7⟩) HWD.out ?_
              case hy7 => intro w' hw'; clear hw'; go_simp; first | done | rfl
              try simp only [Act.put, List.getElem_toArray, List.getElem_cons_zero, List.getElem_cons_succ, List.setIfInBounds_toArray, List.set_cons_zero, List.set_cons_succ]
              refine wpAnyH_take (i := 8) (v := ?_) rfl (by kernel_rfl) (by kernel_rfl) (by kernel_rfl) (fun _ _ _ h => h) (Or.inl ⟨rfl, ?hy8⟩) HWD.out ?_
              case hy8 => intro w' hw'; clear hw'; go_simp; first | done | rfl
              try simp only [Act.put, List.getElem_toArray, List.getElem_cons_zero, List.getElem_cons_succ, List.setIfInBounds_toArray, List.set_cons_zero, List.set_cons_succ]
              refine wpAnyH_take (i := 9) (v := ?_) rfl (by kernel_rfl) (by kernel_rfl) (by kernel_rfl) (fun _ _ _ h => h) (Or.inl ⟨rfl, ?hy9⟩) HWD.out ?_
              case hy9 => intro w' hw'; clear hw'; go_simp; first | done | rfl
              try simp only [Act.put, List.getElem_toArray, List.getElem_cons_zero, List.getElem_cons_succ, List.setIfInBounds_toArray, List.set_cons_zero, List.set_cons_succ]
              refine wpAnyH_take (i := 10) (v := ?_) rfl (by kernel_rfl) (by kernel_rfl) (by kernel_rfl) (fun _ _ _ h => h) (Or.inl ⟨rfl, ?hy10⟩) HWD.out ?_
              case hy10 => intro w' hw'; clear hw'; go_simp; first | done | rfl
              try simp only [Act.put, List.getElem_toArray, List.getElem_cons_zero, List.getElem_cons_succ, List.setIfInBounds_toArray, List.set_cons_zero, List.set_cons_succ]
              refine wpAnyH_take (i := 11) (v := ?_) rfl (by kernel_rfl) (by kernel_rfl) (by kernel_rfl) (fun _ _ _ h => h) (Or.inl ⟨rfl, ?hy11⟩) HWD.out ?_
              case hy11 => intro w' hw'; obtain ⟨_, q1, q2, q3, _, _, _, _, _, _⟩ := HA.out w' hw'; rw [HII.out] at q1; clear hw'; go_simp; first | done | rfl
              try simp only [Act.put, List.getElem_toArray, List.getElem_cons_zero, List.getElem_cons_succ, List.setIfInBounds_toArray, List.set_cons_zero, List.set_cons_succ]
              refine wpAnyH_take (i := 12) (v := ?_) rfl (by kernel_rfl) (by kernel_rfl) (by kernel_rfl) (fun _ _ _ h => h) (Or.inl ⟨rfl, ?hy12⟩) HWD.out ?_
              case hy12 => intro w' hw'; clear hw'; go_simp; first | done | rfl
              try simp only [Act.put, List.getElem_toArray, List.getElem_cons_zero, List.getElem_cons_succ, List.setIfInBounds_toArray, List.set_cons_zero, List.set_cons_succ]
              refine wpAnyH_take (i := 14) (v := ?_) rfl (by kernel_rfl) (by kernel_rfl) (by kernel_rfl) (fun _ _ _ h => h) (Or.inl ⟨rfl, ?hy14⟩) HWD.out ?_
              case hy14 => intro w' hw'; clear hw'; go_simp; first | done | rfl
              try simp only [Act.put, List.getElem_toArray, List.getElem_cons_zero, List.getElem_cons_succ, List.setIfInBounds_toArray, List.set_cons_zero, List.set_cons_succ]
              refine wpAnyH_ready (rs := [13, 15]) (by kernel_rfl) (by simp) ?_
              refine AllReadyH.cons rfl (fun K hK => ?_) (AllReadyH.cons rfl (fun K hK => ?_) AllReadyH.nil)
              · go_simp
                refine hK.out _ _ HWD.out (fun _ => ?_)
                clear hK K
                try simp only [Act.put, List.getElem_toArray, List.getElem_cons_zero, List.getElem_cons_succ, List.setIfInBounds_toArray, List.set_cons_zero, List.set_cons_succ]
                refine wpAnyH_ready (rs := [15]) (by kernel_rfl) (by simp) ?_
                refine AllReadyH.cons rfl (fun K hK => ?_) AllReadyH.nil
                go_simp
                refine hK.out _ _ HWD.out (fun _ => ?_)
                clear hK K
                try simp only [Act.put, List.getElem_toArray, List.getElem_cons_zero, List.getElem_cons_succ, List.setIfInBounds_toArray, List.set_cons_zero, List.set_cons_succ]
                refine wpAnyH_ready (rs := [16]) (by kernel_rfl) (by simp) ?_
                refine AllReadyH.cons rfl (fun K hK => ?_) AllReadyH.nil
                go_simp
                refine hK.out _ _ HWA.out (fun _ => ?_)
                clear hK K
                try simp only [Act.put, List.getElem_toArray, List.getElem_cons_zero, List.getElem_cons_succ, List.setIfInBounds_toArray, List.set_cons_zero, List.set_cons_succ]
                refine wpAnyH_ready (rs := [17]) (by kernel_rfl) (by simp) ?_
                refine AllReadyH.cons rfl (fun K hK => ?_) AllReadyH.nil
                refine step_append_told rfl (.tmp 100) (.tmp 103) 27 rfl _ _ _ wP rfl rfl HRUN.out ?_
                refine hK.out _ _ HWP.out (fun _ => ?_)
                clear hK K
                try simp only [Act.put, List.getElem_toArray, List.getElem_cons_zero, List.getElem_cons_succ, List.setIfInBounds_toArray, List.set_cons_zero, List.set_cons_succ]
                refine wpAnyH_take (i := 18) (v := ?_) rfl (by kernel_rfl) (by kernel_rfl) (by kernel_rfl) (fun _ _ _ h => h) (Or.inl ⟨rfl, ?hy18⟩) HWP.out ?_
                case hy18 => intro w' hw'; clear hw'; go_simp; first | done | rfl
                try simp only [Act.put, List.getElem_toArray, List.getElem_cons_zero, List.getElem_cons_succ, List.setIfInBounds_toArray, List.set_cons_zero, List.set_cons_succ]
                refine wpAnyH_ready (rs := [19]) (by kernel_rfl) (by simp) ?_
                refine AllReadyH.cons rfl (fun K hK => ?_) AllReadyH.nil
                go_simp
                refine hK.out _ _ HWS.out (fun _ => ?_)
                clear hK K
                try simp only [Act.put, List.getElem_toArray, List.getElem_cons_zero, List.getElem_cons_succ, List.setIfInBounds_toArray, List.set_cons_zero, List.set_cons_succ]
                refine wpAnyH_done (by kernel_rfl) ?_ _
                go_wp2_with fail
                go_round
                case rel => exact ⟨k + 1, Ek.added d (ii : Int) bs, by go_num, by omega, KN3, HEP⟩
                case measure => simp [intOf]; omega
              · go_simp
                refine hK.out _ _ HWD.out (fun _ => ?_)
                clear hK K
                try simp only [Act.put, List.getElem_toArray, List.getElem_cons_zero, List.getElem_cons_succ, List.setIfInBounds_toArray, List.set_cons_zero, List.set_cons_succ]
                refine wpAnyH_ready (rs := [13, 16]) (by kernel_rfl) (by simp) ?_
                refine AllReadyH.cons rfl (fun K hK => ?_) (AllReadyH.cons rfl (fun K hK => ?_) AllReadyH.nil)
                · go_simp
                  refine hK.out _ _ HWD.out (fun _ => ?_)
                  clear hK K
                  try simp only [Act.put, List.getElem_toArray, List.getElem_cons_zero, List.getElem_cons_succ, List.setIfInBounds_toArray, List.set_cons_zero, List.set_cons_succ]
                  refine wpAnyH_ready (rs := [16]) (by kernel_rfl) (by simp) ?_
                  refine AllReadyH.cons rfl (fun K hK => ?_) AllReadyH.nil
                  go_simp
                  refine hK.out _ _ HWA.out (fun _ => ?_)
                  clear hK K
                  try simp only [Act.put, List.getElem_toArray, List.getElem_cons_zero, List.getElem_cons_succ, List.setIfInBounds_toArray, List.set_cons_zero, List.set_cons_succ]
                  refine wpAnyH_ready (rs := [17]) (by kernel_rfl) (by simp) ?_
                  refine AllReadyH.cons rfl (fun K hK => ?_) AllReadyH.nil
                  refine step_append_told rfl (.tmp 100) (.tmp 103) 27 rfl _ _ _ wP rfl rfl HRUN.out ?_
                  refine hK.out _ _ HWP.out (fun _ => ?_)
                  clear hK K
                  try simp only [Act.put, List.getElem_toArray, List.getElem_cons_zero, List.getElem_cons_succ, List.setIfInBounds_toArray, List.set_cons_zero, List.set_cons_succ]
                  refine wpAnyH_take (i := 18) (v := ?_) rfl (by kernel_rfl) (by kernel_rfl) (by kernel_rfl) (fun _ _ _ h => h) (Or.inl ⟨rfl, ?hy18⟩) HWP.out ?_
                  case hy18 => intro w' hw'; clear hw'; go_simp; first | done | rfl
                  try simp only [Act.put, List.getElem_toArray, List.getElem_cons_zero, List.getElem_cons_succ, List.setIfInBounds_toArray, List.set_cons_zero, List.set_cons_succ]
                  refine wpAnyH_ready (rs := [19]) (by kernel_rfl) (by simp) ?_
                  refine AllReadyH.cons rfl (fun K hK => ?_) AllReadyH.nil
                  go_simp
                  refine hK.out _ _ HWS.out (fun _ => ?_)
                  clear hK K
                  try simp only [Act.put, List.getElem_toArray, List.getElem_cons_zero, List.getElem_cons_succ, List.setIfInBounds_toArray, List.set_cons_zero, List.set_cons_succ]
                  refine wpAnyH_done (by kernel_rfl) ?_ _
                  go_wp2_with fail
                  go_round
                  case rel => exact ⟨k + 1, Ek.added d (ii : Int) bs, by go_num, by omega, KN3, HEP⟩
                  case measure => simp [intOf]; omega
                · go_simp
                  refine hK.out _ _ HWA.out (fun _ => ?_)
                  clear hK K
                  try simp only [Act.put, List.getElem_toArray, List.getElem_cons_zero, List.getElem_cons_succ, List.setIfInBounds_toArray, List.set_cons_zero, List.set_cons_succ]
                  refine wpAnyH_ready (rs := [13]) (by kernel_rfl) (by simp) ?_
                  refine AllReadyH.cons rfl (fun K hK => ?_) AllReadyH.nil
                  go_simp
                  refine hK.out _ _ HWA.out (fun _ => ?_)
                  clear hK K
                  try simp only [Act.put, List.getElem_toArray, List.getElem_cons_zero, List.getElem_cons_succ, List.setIfInBounds_toArray, List.set_cons_zero, List.set_cons_succ]
                  refine wpAnyH_ready (rs := [17]) (by kernel_rfl) (by simp) ?_
                  refine AllReadyH.cons rfl (fun K hK => ?_) AllReadyH.nil
                  refine step_append_told rfl (.tmp 100) (.tmp 103) 27 rfl _ _ _ wP rfl rfl HRUN.out ?_
                  refine hK.out _ _ HWP.out (fun _ => ?_)
                  clear hK K
                  try simp only [Act.put, List.getElem_toArray, List.getElem_cons_zero, List.getElem_cons_succ, List.setIfInBounds_toArray, List.set_cons_zero, List.set_cons_succ]
                  refine wpAnyH_take (i := 18) (v := ?_) rfl (by kernel_rfl) (by kernel_rfl) (by kernel_rfl) (fun _ _ _ h => h) (Or.inl ⟨rfl, ?hy18⟩) HWP.out ?_
                  case hy18 => intro w' hw'; clear hw'; go_simp; first | done | rfl
                  try simp only [Act.put, List.getElem_toArray, List.getElem_cons_zero, List.getElem_cons_succ, List.setIfInBounds_toArray, List.set_cons_zero, List.set_cons_succ]
                  refine wpAnyH_ready (rs := [19]) (by kernel_rfl) (by simp) ?_
                  refine AllReadyH.cons rfl (fun K hK => ?_) AllReadyH.nil
                  go_simp
                  refine hK.out _ _ HWS.out (fun _ => ?_)
                  clear hK K
                  try simp only [Act.put, List.getElem_toArray, List.getElem_cons_zero, List.getElem_cons_succ, List.setIfInBounds_toArray, List.set_cons_zero, List.set_cons_succ]
                  refine wpAnyH_done (by kernel_rfl) ?_ _
                  go_wp2_with fail
                  go_round
                  case rel => exact ⟨k + 1, Ek.added d (ii : Int) bs, by go_num, by omega, KN3, HEP⟩
                  case measure => simp [intOf]; omega
          · have k1 : (ac.kind == 1) = false := by simpa using hk1
            have KN2 := Lib.hid KN.out.next
            clear hk1
            go_wp2_with fail
            go_round
            case rel => exact ⟨k + 1, d, by go_num, by omega, KN2, KE⟩
            case measure => simp [intOf]; omega
        · obtain rfl : L = k := by omega
          have CC := Lib.hid (El.crash KE.out _ ks (HKS.out wr hw))
          have hok := KE.out.lv.ok
          have hcm := fun i => Ek.crash_may hok KN.out.sure (Ek.nth ks) i
          have hmr := fun i => Ek.may_row hok i
          have hml : ∀ i, (Ek.may d i).length ≤ 41 := fun i => by have := KN.out.may_len i; omega
          have hdn : (Ek.crash d (Ek.nth ks)).n = n := KN.out.n
          have hdd : (Ek.crash d (Ek.nth ks)).dark = false := rfl
          have j0 : decide ((L : Int) < (L : Int)) = false := decide_eq_false (by omega)
          clear hw HAT hlt hk KE KN KN0 KE0
          go_wp2_with fail
          refine CC.out.mono ?_
          clear CC
          rintro e w6 ⟨rfl, H6⟩
          obtain ⟨D, hD⟩ : ∃ D, D = Ek.crash d (Ek.nth ks) := ⟨_, rfl⟩
          rw [← hD] at H6 hdn hdd
          have hcm : ∀ i, (∀ j : Nat, ∃ r : List Nat, r ∈ Ek.may d i ∧ r[j]? = (Ek.now D i)[j]?) ∧ (i = 0 → Ek.now D i ∈ Ek.may d i) := by rw [hD]; exact hcm
          have HCM := Lib.hid hcm
          have HMR := Lib.hid hmr
          have HML := Lib.hid hml
          have HDN := Lib.hid hdn
          have HDD := Lib.hid hdd
          have KE6 := Lib.hid H6
          clear hcm hmr hml hdn hdd H6 hok hD
          go_wp2_with fail
          go_loopw [13] (fun s13 wr => ∃ i : Nat, s13 = .int .i64 (i : Int) ∧ i ≤ n ∧ Hid (El w w1.heap.size wr b n go oc D d)) (fun s13 _ => n - (intOf s13).toNat)
          case atStart => exact ⟨0, by go_num, Nat.zero_le _, KE6⟩
          case round =>
            obtain ⟨i, rfl, hi, KD⟩ := hrel
            by_cases hlt : i < n
            · have j0 : decide ((i : Int) < (n : Int)) = true := decide_eq_true (by omega)
              have j1 : (0 : Int) ≤ (i : Int) := by omega
              have j2 : (i : Int) < (n : Int) := by omega
              have j3 : (i : Int) ≤ 40 := by have := HN40.out; omega
              have CR := Lib.hid (lv_read KD.out.lv (i : Int))
              have HRD : Hid (Ek.readE D (i : Int) = 0) := by
                show Ek.readE D (i : Int) = 0
                unfold Ek.readE
                rw [if_neg (by rw [HDN.out]; omega), if_neg (by rw [HDD.out]; decide)]
              go_wp2_with fail
              refine CR.out.mono ?_
              clear CR
              rintro e w7 ⟨hb7, hp7⟩
              rcases hp7 with ⟨hne, _⟩ | ⟨_, gR, rfl, hgR, hR⟩
              · exact absurd HRD.out hne
              rw [Int.toNat_natCast] at hR
              have KD7 := Lib.hid (KD.out.later hb7)
              obtain ⟨gu, cu, hcu, hcs, _, _⟩ := KD7.out.at i hlt
              obtain ⟨R, hRe⟩ : ∃ R, R = Ek.now D i := ⟨_, rfl⟩
              obtain ⟨M, hMe⟩ : ∃ M, M = Ek.may d i := ⟨_, rfl⟩
              have hRow : Row R := by rw [hRe]; exact Ek.now_row KD7.out.lv.ok i
              rw [← hRe] at hR
              have hwt : i = 0 → Ek.wh M R M.length = true := fun h0 => Ek.wh_mem (by rw [hRe, hMe]; exact (HCM.out i).2 h0)
              have HSO : Hid (∀ t c, R[t]? = some c → Ek.so M t c M.length = true) := fun t c hc => Ek.so_mem (by
                obtain ⟨r, hr, e⟩ := (HCM.out i).1 t
                rw [hMe]; exact ⟨r, hr, by rw [e, ← hRe]; exact hc⟩)
              have HMW := Lib.hid (HMR.out i)
              have hml := HML.out i
              rw [← hMe] at hcu hml HMW
              have hcs : ∀ (q : Nat), q < M.length → w7.cell? ⟨gu, q, none⟩ = some (.string (strB (M[q]?.getD []))) := by
                subst hMe
                intro q hq
                rw [List.getElem?_eq_getElem hq]
                exact hcs q hq
              obtain ⟨ML, hML⟩ : ∃ ML, ML = M.length := ⟨_, rfl⟩
              rw [← hML] at hcu hml hwt HSO hcs
              have HML2 := Lib.hid hML
              have HCU := Lib.hid hcu
              have HCS := Lib.hid hcs
              have HWT := Lib.hid hwt
              have HR := Lib.hid hR
              have HROW := Lib.hid hRow
              have m1 : (ML : Int) ≤ 41 := by omega
              clear hb7 hgR hR hcu hcs hRe hMe hRow hwt hML HRD
              go_wp2_with fail
              go_loopw [16, 17] (fun s16 s17 wr => ∃ q : Nat, s16 = .bool (Ek.wh M R q) ∧ s17 = .int .i64 (q : Int) ∧ q ≤ ML ∧ Hid (∃ m, wr = w7.drewN m)) (fun _ s17 _ => ML - (intOf s17).toNat)
              case atStart => exact ⟨0, rfl, by go_num, Nat.zero_le _, 0, rfl⟩
              case round =>
                obtain ⟨q, rfl, rfl, hq, KW⟩ := hrel
                have x0 : wr.cell? ⟨go, i, none⟩ = some (.slice (some ⟨gu, 0, none⟩) ML cu) := by obtain ⟨m, hm⟩ := KW.out; rw [hm]; exact HCU.out
                by_cases hlq : q < ML
                · have y0 : decide ((q : Int) < (ML : Int)) = true := decide_eq_true (by omega)
                  have y1 : (0 : Int) ≤ (q : Int) := by omega
                  have y2 : (q : Int) < (ML : Int) := by omega
                  have y3 : (q : Int) ≤ 41 := by omega
                  have x1 : wr.cell? ⟨gu, q, none⟩ = some (.string (strB (M[q]?.getD []))) := by obtain ⟨m, hm⟩ := KW.out; rw [hm]; exact HCS.out q hlq
                  have hcv : (convert 43 9 (.slice (some ⟨gR, 0, none⟩) 512 512)).run Try.prog wr.drew = .ok (.string (strB R)) wr.drew := by
                    obtain ⟨m, hm⟩ := KW.out
                    have hh : Has wr.drew gR (.cells (vb R).toArray 84 (0, 0)) := by rw [hm]; exact HR.out
                    exact string_of wr.drew (some ⟨gR, 0, none⟩) 512 512 R (strB R) (has_sl hh HROW.out.2 (by rw [HROW.out.1]; decide) 512 512 HROW.out.1.symm) rfl
                  have KW2 : Hid (∃ m, wr.drew = w7.drewN m) := by obtain ⟨m, hm⟩ := KW.out; exact ⟨m + 1, by rw [hm]; rfl⟩
                  have hs := Ek.wh_succ M R q
                  cases hb : Ek.wh M R q
                  · rw [hb, Bool.false_or] at hs
                    have HS := Lib.hid hs
                    clear hb hs
                    go_wp2_with fail
                    refine wp_region_held_drew (S := fun wx => wx = wr.drew) (by kernel_rfl) rfl (fun _ => ?_)
                    change wpAnyH _ _ _ _ _ 14 (Array.replicate 14 false) _ _
                    refine wpAnyH_take (i := 0) (v := ?_) rfl (by kernel_rfl) (by kernel_rfl) (by kernel_rfl) (fun _ _ _ h => h) (Or.inl ⟨rfl, ?hy0⟩) rfl ?_
                    case hy0 => intro w' hw'; subst hw'; go_simp; first | done | rfl
                    try simp only [Act.put, List.getElem_toArray, List.getElem_cons_zero, List.setIfInBounds_toArray, List.set_cons_zero, List.set_cons_succ]
                    refine wpAnyH_take (i := 1) (v := ?_) rfl (by kernel_rfl) (by kernel_rfl) (by kernel_rfl) (fun _ _ _ h => h) (Or.inl ⟨rfl, ?hy1⟩) rfl ?_
                    case hy1 => intro w' hw'; subst hw'; go_simp; first | done | rfl
                    try simp only [Act.put, List.getElem_toArray, List.getElem_cons_zero, List.getElem_cons_succ, List.setIfInBounds_toArray, List.set_cons_zero, List.set_cons_succ]
                    refine wpAnyH_take (i := 2) (v := ?_) rfl (by kernel_rfl) (by kernel_rfl) (by kernel_rfl) (fun _ _ _ h => h) (Or.inl ⟨rfl, ?hy2⟩) rfl ?_
                    case hy2 => intro w' hw'; subst hw'; go_simp; first | done | rfl
                    try simp only [Act.put, List.getElem_toArray, List.getElem_cons_zero, List.getElem_cons_succ, List.setIfInBounds_toArray, List.set_cons_zero, List.set_cons_succ]
                    refine wpAnyH_take (i := 3) (v := ?_) rfl (by kernel_rfl) (by kernel_rfl) (by kernel_rfl) (fun _ _ _ h => h) (Or.inl ⟨rfl, ?hy3⟩) rfl ?_
                    case hy3 => intro w' hw'; subst hw'; go_simp; first | done | rfl
                    try simp only [Act.put, List.getElem_toArray, List.getElem_cons_zero, List.getElem_cons_succ, List.setIfInBounds_toArray, List.set_cons_zero, List.set_cons_succ]
                    refine wpAnyH_take (i := 4) (v := ?_) rfl (by kernel_rfl) (by kernel_rfl) (by kernel_rfl) (fun _ _ _ h => h) (Or.inl ⟨rfl, ?hy4⟩) rfl ?_
                    case hy4 => intro w' hw'; subst hw'; go_simp; first | done | rfl
                    try simp only [Act.put, List.getElem_toArray, List.getElem_cons_zero, List.getElem_cons_succ, List.setIfInBounds_toArray, List.set_cons_zero, List.set_cons_succ]
                    refine wpAnyH_take (i := 5) (v := ?_) rfl (by kernel_rfl) (by kernel_rfl) (by kernel_rfl) (fun _ _ _ h => h) (Or.inl ⟨rfl, ?hy5⟩) rfl ?_
                    case hy5 => intro w' hw'; subst hw'; go_simp; first | done | rfl
                    try simp only [Act.put, List.getElem_toArray, List.getElem_cons_zero, List.getElem_cons_succ, List.setIfInBounds_toArray, List.set_cons_zero, List.set_cons_succ]
                    refine wpAnyH_take (i := 6) (v := ?_) rfl (by kernel_rfl) (by kernel_rfl) (by kernel_rfl) (fun _ _ _ h => h) (Or.inl ⟨rfl, ?hy6⟩) rfl ?_
                    case hy6 => intro w' hw'; subst hw'; go_simp; first | done | rfl
                    try simp only [Act.put, List.getElem_toArray, List.getElem_cons_zero, List.getElem_cons_succ, List.setIfInBounds_toArray, List.set_cons_zero, List.set_cons_succ]
                    refine wpAnyH_take (i := 7) (v := ?_) rfl (by kernel_rfl) (by kernel_rfl) (by kernel_rfl) (fun _ _ _ h => h) (Or.inl ⟨rfl, ?hy7⟩) rfl ?_
                    case hy7 => intro w' hw'; subst hw'; go_simp; first | done | rfl
                    try simp only [Act.put, List.getElem_toArray, List.getElem_cons_zero, List.getElem_cons_succ, List.setIfInBounds_toArray, List.set_cons_zero, List.set_cons_succ]
                    refine wpAnyH_take (i := 8) (v := ?_) rfl (by kernel_rfl) (by kernel_rfl) (by kernel_rfl) (fun _ _ _ h => h) (Or.inl ⟨rfl, ?hy8⟩) rfl ?_
                    case hy8 => intro w' hw'; subst hw'; go_simp; first | done | rfl
                    try simp only [Act.put, List.getElem_toArray, List.getElem_cons_zero, List.getElem_cons_succ, List.setIfInBounds_toArray, List.set_cons_zero, List.set_cons_succ]
                    refine wpAnyH_take (i := 9) (v := ?_) rfl (by kernel_rfl) (by kernel_rfl) (by kernel_rfl) (fun _ _ _ h => h) (Or.inl ⟨rfl, ?hy9⟩) rfl ?_
                    case hy9 => intro w' hw'; subst hw'; go_simp; first | done | rfl
                    try simp only [Act.put, List.getElem_toArray, List.getElem_cons_zero, List.getElem_cons_succ, List.setIfInBounds_toArray, List.set_cons_zero, List.set_cons_succ]
                    refine wpAnyH_take (i := 10) (v := ?_) rfl (by kernel_rfl) (by kernel_rfl) (by kernel_rfl) (fun _ _ _ h => h) (Or.inl ⟨rfl, ?hy10⟩) rfl ?_
                    case hy10 => intro w' hw'; subst hw'; go_simp; first | done | rfl
                    try simp only [Act.put, List.getElem_toArray, List.getElem_cons_zero, List.getElem_cons_succ, List.setIfInBounds_toArray, List.set_cons_zero, List.set_cons_succ]
                    refine wpAnyH_take (i := 11) (v := ?_) rfl (by kernel_rfl) (by kernel_rfl) (by kernel_rfl) (fun _ _ _ h => h) (Or.inl ⟨rfl, ?hy11⟩) rfl ?_
                    case hy11 => intro w' hw'; subst hw'; go_simp; first | done | rfl
                    try simp only [Act.put, List.getElem_toArray, List.getElem_cons_zero, List.getElem_cons_succ, List.setIfInBounds_toArray, List.set_cons_zero, List.set_cons_succ]
                    refine wpAnyH_take (i := 12) (v := ?_) rfl (by kernel_rfl) (by kernel_rfl) (by kernel_rfl) (fun _ _ _ h => h) (Or.inl ⟨rfl, ?hy12⟩) rfl ?_
                    case hy12 => intro w' hw'; subst hw'; go_simp; first | done | rfl
                    try simp only [Act.put, List.getElem_toArray, List.getElem_cons_zero, List.getElem_cons_succ, List.setIfInBounds_toArray, List.set_cons_zero, List.set_cons_succ]
                    refine wpAnyH_ready (rs := [13]) (by kernel_rfl) (by simp) ?_
                    refine AllReadyH.cons rfl (fun K hK => ?_) AllReadyH.nil
                    go_simp
                    refine hK.out _ _ rfl (fun _ => ?_)
                    clear hK K
                    try simp only [Act.put, List.getElem_toArray, List.getElem_cons_zero, List.getElem_cons_succ, List.setIfInBounds_toArray, List.set_cons_zero, List.set_cons_succ]
                    refine wpAnyH_done (by kernel_rfl) ?_ _
                    go_wp2_with fail
                    go_round
                    case rel => exact ⟨q + 1, by rw [HS.out], by go_num, by omega, KW2⟩
                    case measure => simp [intOf]; omega
                  · rw [hb, Bool.true_or] at hs
                    have HS := Lib.hid hs
                    clear hb hs
                    go_wp2_with fail
                    refine wp_region_held_drew (S := fun wx => wx = wr.drew) (by kernel_rfl) rfl (fun _ => ?_)
                    change wpAnyH _ _ _ _ _ 14 (Array.replicate 14 false) _ _
                    refine wpAnyH_take (i := 0) (v := ?_) rfl (by kernel_rfl) (by kernel_rfl) (by kernel_rfl) (fun _ _ _ h => h) (Or.inl ⟨rfl, ?hy0⟩) rfl ?_
                    case hy0 => intro w' hw'; subst hw'; go_simp; first | done | rfl
                    try simp only [Act.put, List.getElem_toArray, List.getElem_cons_zero, List.setIfInBounds_toArray, List.set_cons_zero, List.set_cons_succ]
                    refine wpAnyH_take (i := 1) (v := ?_) rfl (by kernel_rfl) (by kernel_rfl) (by kernel_rfl) (fun _ _ _ h => h) (Or.inl ⟨rfl, ?hy1⟩) rfl ?_
                    case hy1 => intro w' hw'; subst hw'; go_simp; first | done | rfl
                    try simp only [Act.put, List.getElem_toArray, List.getElem_cons_zero, List.getElem_cons_succ, List.setIfInBounds_toArray, List.set_cons_zero, List.set_cons_succ]
                    refine wpAnyH_take (i := 2) (v := undef) rfl (by kernel_rfl) (by kernel_rfl) (by kernel_rfl) (fun _ _ _ h => h) (Or.inr ⟨rfl, rfl⟩) rfl ?_
                    try simp only [Act.put, List.getElem_toArray, List.getElem_cons_zero, List.getElem_cons_succ, List.setIfInBounds_toArray, List.set_cons_zero, List.set_cons_succ]
                    refine wpAnyH_take (i := 3) (v := undef) rfl (by kernel_rfl) (by kernel_rfl) (by kernel_rfl) (fun _ _ _ h => h) (Or.inr ⟨rfl, rfl⟩) rfl ?_
                    try simp only [Act.put, List.getElem_toArray, List.getElem_cons_zero, List.getElem_cons_succ, List.setIfInBounds_toArray, List.set_cons_zero, List.set_cons_succ]
                    refine wpAnyH_take (i := 4) (v := undef) rfl (by kernel_rfl) (by kernel_rfl) (by kernel_rfl) (fun _ _ _ h => h) (Or.inr ⟨rfl, rfl⟩) rfl ?_
                    try simp only [Act.put, List.getElem_toArray, List.getElem_cons_zero, List.getElem_cons_succ, List.setIfInBounds_toArray, List.set_cons_zero, List.set_cons_succ]
                    refine wpAnyH_take (i := 5) (v := undef) rfl (by kernel_rfl) (by kernel_rfl) (by kernel_rfl) (fun _ _ _ h => h) (Or.inr ⟨rfl, rfl⟩) rfl ?_
                    try simp only [Act.put, List.getElem_toArray, List.getElem_cons_zero, List.getElem_cons_succ, List.setIfInBounds_toArray, List.set_cons_zero, List.set_cons_succ]
                    refine wpAnyH_take (i := 6) (v := undef) rfl (by kernel_rfl) (by kernel_rfl) (by kernel_rfl) (fun _ _ _ h => h) (Or.inr ⟨rfl, rfl⟩) rfl ?_
                    try simp only [Act.put, List.getElem_toArray, List.getElem_cons_zero, List.getElem_cons_succ, List.setIfInBounds_toArray, List.set_cons_zero, List.set_cons_succ]
                    refine wpAnyH_take (i := 7) (v := undef) rfl (by kernel_rfl) (by kernel_rfl) (by kernel_rfl) (fun _ _ _ h => h) (Or.inr ⟨rfl, rfl⟩) rfl ?_
                    try simp only [Act.put, List.getElem_toArray, List.getElem_cons_zero, List.getElem_cons_succ, List.setIfInBounds_toArray, List.set_cons_zero, List.set_cons_succ]
                    refine wpAnyH_take (i := 8) (v := undef) rfl (by kernel_rfl) (by kernel_rfl) (by kernel_rfl) (fun _ _ _ h => h) (Or.inr ⟨rfl, rfl⟩) rfl ?_
                    try simp only [Act.put, List.getElem_toArray, List.getElem_cons_zero, List.getElem_cons_succ, List.setIfInBounds_toArray, List.set_cons_zero, List.set_cons_succ]
                    refine wpAnyH_take (i := 9) (v := undef) rfl (by kernel_rfl) (by kernel_rfl) (by kernel_rfl) (fun _ _ _ h => h) (Or.inr ⟨rfl, rfl⟩) rfl ?_
                    try simp only [Act.put, List.getElem_toArray, List.getElem_cons_zero, List.getElem_cons_succ, List.setIfInBounds_toArray, List.set_cons_zero, List.set_cons_succ]
                    refine wpAnyH_take (i := 10) (v := undef) rfl (by kernel_rfl) (by kernel_rfl) (by kernel_rfl) (fun _ _ _ h => h) (Or.inr ⟨rfl, rfl⟩) rfl ?_
                    try simp only [Act.put, List.getElem_toArray, List.getElem_cons_zero, List.getElem_cons_succ, List.setIfInBounds_toArray, List.set_cons_zero, List.set_cons_succ]
                    refine wpAnyH_take (i := 11) (v := undef) rfl (by kernel_rfl) (by kernel_rfl) (by kernel_rfl) (fun _ _ _ h => h) (Or.inr ⟨rfl, rfl⟩) rfl ?_
                    try simp only [Act.put, List.getElem_toArray, List.getElem_cons_zero, List.getElem_cons_succ, List.setIfInBounds_toArray, List.set_cons_zero, List.set_cons_succ]
                    refine wpAnyH_take (i := 12) (v := ?_) rfl (by kernel_rfl) (by kernel_rfl) (by kernel_rfl) (fun _ _ _ h => h) (Or.inl ⟨rfl, ?hy12⟩) rfl ?_
                    case hy12 => intro w' hw'; subst hw'; go_simp; first | done | rfl
                    try simp only [Act.put, List.getElem_toArray, List.getElem_cons_zero, List.getElem_cons_succ, List.setIfInBounds_toArray, List.set_cons_zero, List.set_cons_succ]
                    refine wpAnyH_ready (rs := [13]) (by kernel_rfl) (by simp) ?_
                    refine AllReadyH.cons rfl (fun K hK => ?_) AllReadyH.nil
                    go_simp
                    refine hK.out _ _ rfl (fun _ => ?_)
                    clear hK K
                    try simp only [Act.put, List.getElem_toArray, List.getElem_cons_zero, List.getElem_cons_succ, List.setIfInBounds_toArray, List.set_cons_zero, List.set_cons_succ]
                    refine wpAnyH_done (by kernel_rfl) ?_ _
                    go_wp2_with fail
                    go_round
                    case rel => exact ⟨q + 1, by rw [HS.out], by go_num, by omega, KW2⟩
                    case measure => simp [intOf]; omega
                · obtain rfl : ML = q := by omega
                  have y0 : decide ((ML : Int) < (ML : Int)) = false := decide_eq_false (by omega)
                  by_cases hi0 : i = 0
                  · have hw := HWT.out hi0
                    have z0 : ((i : Int) == 0) = true := by simpa using hi0
                    rw [hw]
                    clear hw hi0 hlq
                    go_wp2_with fail
                    go_loopw [18] (fun s18 wr => ∃ t : Nat, s18 = .int .i64 (t : Int) ∧ t ≤ 512 ∧ Hid (∃ m, wr = w7.drewN m)) (fun s18 _ => 512 - (intOf s18).toNat)
                    case atStart => exact ⟨0, by go_num, Nat.zero_le _, KW.out⟩
                    case round =>
                      obtain ⟨t, rfl, ht, KT⟩ := hrel
                      by_cases hlt : t < 512
                      · have t0 : decide ((t : Int) < 512) = true := decide_eq_true (by omega)
                        have t1 : (0 : Int) ≤ (t : Int) := by omega
                        have t2 : (t : Int) < 512 := by omega
                        obtain ⟨c, hc⟩ : ∃ c, R[t]? = some c := ⟨_, List.getElem?_eq_getElem (by rw [HROW.out.1]; exact hlt)⟩
                        have HC := Lib.hid hc
                        have hso := HSO.out t c hc
                        have HSOT := Lib.hid hso
                        clear hso hc hlt
                        go_wp2_with fail
                        go_loopw [19, 20] (fun s19 s20 wr => ∃ q : Nat, s19 = .bool (Ek.so M t c q) ∧ s20 = .int .i64 (q : Int) ∧ q ≤ ML ∧ Hid (∃ m, wr = w7.drewN m)) (fun _ s20 _ => ML - (intOf s20).toNat)
                        case atStart => exact ⟨0, rfl, by go_num, Nat.zero_le _, KT.out⟩
                        case round =>
                          obtain ⟨q, rfl, rfl, hq2, KV⟩ := hrel
                          have v0 : wr.cell? ⟨go, i, none⟩ = some (.slice (some ⟨gu, 0, none⟩) ML cu) := by obtain ⟨m, hm⟩ := KV.out; rw [hm]; exact HCU.out
                          by_cases hlq2 : q < ML
                          · have p0 : decide ((q : Int) < (ML : Int)) = true := decide_eq_true (by omega)
                            have p1 : (0 : Int) ≤ (q : Int) := by omega
                            have p2 : (q : Int) < (ML : Int) := by omega
                            have p3 : (q : Int) ≤ 41 := by omega
                            have v1 : wr.cell? ⟨gu, q, none⟩ = some (.string (strB (M[q]?.getD []))) := by obtain ⟨m, hm⟩ := KV.out; rw [hm]; exact HCS.out q hlq2
                            have v2 : wr.cell? ⟨gR, t, none⟩ = some (.int .u8 (c : Int)) := by
                              obtain ⟨m, hm⟩ := KV.out
                              have hh : Has wr gR (.cells (vb R).toArray 84 (0, 0)) := by rw [hm]; exact HR.out
                              rw [hh.cell, List.getElem?_toArray, vb_get, HC.out]; rfl
                            have KV2 : Hid (∃ m, wr.drew = w7.drewN m) := by obtain ⟨m, hm⟩ := KV.out; exact ⟨m + 1, by rw [hm]; rfl⟩
                            have hrq : Row (M[q]?.getD []) := by
                              have hlq3 : q < M.length := by rw [← HML2.out]; exact hlq2
                              rw [List.getElem?_eq_getElem hlq3]
                              exact HMW.out _ (List.getElem_mem hlq3)
                            have hs := Ek.so_succ M t c q
                            generalize M[q]?.getD [] = rq at v1 hrq hs
                            obtain ⟨x, hx⟩ : ∃ x, rq[t]? = some x := ⟨_, List.getElem?_eq_getElem (by rw [hrq.1]; exact Int.ofNat_lt.1 t2)⟩
                            rw [hx] at hs
                            have hix : (Instr.index 9 (.string (strB rq)) (.int .i64 (t : Int))).run Try.prog wr.drew = .ok (.int .u8 (x : Int)) wr.drew := strB_index rq hrq.2 t x hx _
                            generalize strB rq = SQ at v1 hix
                            clear hx hrq hq2
                            cases hb : Ek.so M t c q
                            · rw [hb, Bool.false_or] at hs
                              have HS := Lib.hid hs
                              clear hb hs
                              go_wp2_with fail
                              refine wp_region_held_drew (S := fun wx => wx = wr.drew) (by kernel_rfl) rfl (fun _ => ?_)
                              change wpAnyH _ _ _ _ _ 18 (Array.replicate 18 false) _ _
                              refine wpAnyH_take (i := 0) (v := ?_) rfl (by kernel_rfl) (by kernel_rfl) (by kernel_rfl) (fun _ _ _ h => h) (Or.inl ⟨rfl, ?hy0⟩) rfl ?_
                              case hy0 => intro w' hw'; subst hw'; go_simp; first | done | rfl
                              try simp only [Act.put, List.getElem_toArray, List.getElem_cons_zero, List.setIfInBounds_toArray, List.set_cons_zero, List.set_cons_succ]
                              refine wpAnyH_take (i := 1) (v := ?_) rfl (by kernel_rfl) (by kernel_rfl) (by kernel_rfl) (fun _ _ _ h => h) (Or.inl ⟨rfl, ?hy1⟩) rfl ?_
                              case hy1 => intro w' hw'; subst hw'; go_simp; first | done | rfl
                              try simp only [Act.put, List.getElem_toArray, List.getElem_cons_zero, List.getElem_cons_succ, List.setIfInBounds_toArray, List.set_cons_zero, List.set_cons_succ]
                              refine wpAnyH_take (i := 2) (v := ?_) rfl (by kernel_rfl) (by kernel_rfl) (by kernel_rfl) (fun _ _ _ h => h) (Or.inl ⟨rfl, ?hy2⟩) rfl ?_
                              case hy2 => intro w' hw'; subst hw'; go_simp; first | done | rfl
                              try simp only [Act.put, List.getElem_toArray, List.getElem_cons_zero, List.getElem_cons_succ, List.setIfInBounds_toArray, List.set_cons_zero, List.set_cons_succ]
                              refine wpAnyH_take (i := 3) (v := ?_) rfl (by kernel_rfl) (by kernel_rfl) (by kernel_rfl) (fun _ _ _ h => h) (Or.inl ⟨rfl, ?hy3⟩) rfl ?_
                              case hy3 => intro w' hw'; subst hw'; go_simp; first | done | rfl
                              try simp only [Act.put, List.getElem_toArray, List.getElem_cons_zero, List.getElem_cons_succ, List.setIfInBounds_toArray, List.set_cons_zero, List.set_cons_succ]
                              refine wpAnyH_take (i := 4) (v := ?_) rfl (by kernel_rfl) (by kernel_rfl) (by kernel_rfl) (fun _ _ _ h => h) (Or.inl ⟨rfl, ?hy4⟩) rfl ?_
                              case hy4 => intro w' hw'; subst hw'; go_simp; first | done | rfl
                              try simp only [Act.put, List.getElem_toArray, List.getElem_cons_zero, List.getElem_cons_succ, List.setIfInBounds_toArray, List.set_cons_zero, List.set_cons_succ]
                              refine wpAnyH_take (i := 5) (v := ?_) rfl (by kernel_rfl) (by kernel_rfl) (by kernel_rfl) (fun _ _ _ h => h) (Or.inl ⟨rfl, ?hy5⟩) rfl ?_
                              case hy5 => intro w' hw'; subst hw'; go_simp; first | done | rfl
                              try simp only [Act.put, List.getElem_toArray, List.getElem_cons_zero, List.getElem_cons_succ, List.setIfInBounds_toArray, List.set_cons_zero, List.set_cons_succ]
                              refine wpAnyH_take (i := 6) (v := ?_) rfl (by kernel_rfl) (by kernel_rfl) (by kernel_rfl) (fun _ _ _ h => h) (Or.inl ⟨rfl, ?hy6⟩) rfl ?_
                              case hy6 => intro w' hw'; subst hw'; go_simp; first | done | rfl
                              try simp only [Act.put, List.getElem_toArray, List.getElem_cons_zero, List.getElem_cons_succ, List.setIfInBounds_toArray, List.set_cons_zero, List.set_cons_succ]
                              refine wpAnyH_take (i := 7) (v := ?_) rfl (by kernel_rfl) (by kernel_rfl) (by kernel_rfl) (fun _ _ _ h => h) (Or.inl ⟨rfl, ?hy7⟩) rfl ?_
                              case hy7 => intro w' hw'; subst hw'; go_simp; first | done | rfl
                              try simp only [Act.put, List.getElem_toArray, List.getElem_cons_zero, List.getElem_cons_succ, List.setIfInBounds_toArray, List.set_cons_zero, List.set_cons_succ]
                              refine wpAnyH_take (i := 8) (v := ?_) rfl (by kernel_rfl) (by kernel_rfl) (by kernel_rfl) (fun _ _ _ h => h) (Or.inl ⟨rfl, ?hy8⟩) rfl ?_
                              case hy8 => intro w' hw'; subst hw'; go_simp; first | done | rfl
                              try simp only [Act.put, List.getElem_toArray, List.getElem_cons_zero, List.getElem_cons_succ, List.setIfInBounds_toArray, List.set_cons_zero, List.set_cons_succ]
                              refine wpAnyH_take (i := 9) (v := ?_) rfl (by kernel_rfl) (by kernel_rfl) (by kernel_rfl) (fun _ _ _ h => h) (Or.inl ⟨rfl, ?hy9⟩) rfl ?_
                              case hy9 => intro w' hw'; subst hw'; go_simp; first | done | rfl
                              try simp only [Act.put, List.getElem_toArray, List.getElem_cons_zero, List.getElem_cons_succ, List.setIfInBounds_toArray, List.set_cons_zero, List.set_cons_succ]
                              refine wpAnyH_take (i := 10) (v := ?_) rfl (by kernel_rfl) (by kernel_rfl) (by kernel_rfl) (fun _ _ _ h => h) (Or.inl ⟨rfl, ?hy10⟩) rfl ?_
                              case hy10 => intro w' hw'; subst hw'; go_simp; first | done | rfl
                              try simp only [Act.put, List.getElem_toArray, List.getElem_cons_zero, List.getElem_cons_succ, List.setIfInBounds_toArray, List.set_cons_zero, List.set_cons_succ]
                              refine wpAnyH_take (i := 11) (v := ?_) rfl (by kernel_rfl) (by kernel_rfl) (by kernel_rfl) (fun _ _ _ h => h) (Or.inl ⟨rfl, ?hy11⟩) rfl ?_
                              case hy11 => intro w' hw'; subst hw'; go_simp; first | done | rfl
                              try simp only [Act.put, List.getElem_toArray, List.getElem_cons_zero, List.getElem_cons_succ, List.setIfInBounds_toArray, List.set_cons_zero, List.set_cons_succ]
                              refine wpAnyH_take (i := 12) (v := ?_) rfl (by kernel_rfl) (by kernel_rfl) (by kernel_rfl) (fun _ _ _ h => h) (Or.inl ⟨rfl, ?hy12⟩) rfl ?_
                              case hy12 => intro w' hw'; subst hw'; go_simp; first | done | rfl
                              try simp only [Act.put, List.getElem_toArray, List.getElem_cons_zero, List.getElem_cons_succ, List.setIfInBounds_toArray, List.set_cons_zero, List.set_cons_succ]
                              refine wpAnyH_take (i := 13) (v := ?_) rfl (by kernel_rfl) (by kernel_rfl) (by kernel_rfl) (fun _ _ _ h => h) (Or.inl ⟨rfl, ?hy13⟩) rfl ?_
                              case hy13 => intro w' hw'; subst hw'; go_simp; first | done | rfl
                              try simp only [Act.put, List.getElem_toArray, List.getElem_cons_zero, List.getElem_cons_succ, List.setIfInBounds_toArray, List.set_cons_zero, List.set_cons_succ]
                              refine wpAnyH_take (i := 14) (v := ?_) rfl (by kernel_rfl) (by kernel_rfl) (by kernel_rfl) (fun _ _ _ h => h) (Or.inl ⟨rfl, ?hy14⟩) rfl ?_
                              case hy14 => intro w' hw'; subst hw'; go_simp; first | done | rfl
                              try simp only [Act.put, List.getElem_toArray, List.getElem_cons_zero, List.getElem_cons_succ, List.setIfInBounds_toArray, List.set_cons_zero, List.set_cons_succ]
                              refine wpAnyH_take (i := 15) (v := ?_) rfl (by kernel_rfl) (by kernel_rfl) (by kernel_rfl) (fun _ _ _ h => h) (Or.inl ⟨rfl, ?hy15⟩) rfl ?_
                              case hy15 => intro w' hw'; subst hw'; go_simp; first | done | rfl
                              try simp only [Act.put, List.getElem_toArray, List.getElem_cons_zero, List.getElem_cons_succ, List.setIfInBounds_toArray, List.set_cons_zero, List.set_cons_succ]
                              refine wpAnyH_take (i := 16) (v := ?_) rfl (by kernel_rfl) (by kernel_rfl) (by kernel_rfl) (fun _ _ _ h => h) (Or.inl ⟨rfl, ?hy16⟩) rfl ?_
                              case hy16 => intro w' hw'; subst hw'; go_simp; first | done | rfl
                              try simp only [Act.put, List.getElem_toArray, List.getElem_cons_zero, List.getElem_cons_succ, List.setIfInBounds_toArray, List.set_cons_zero, List.set_cons_succ]
                              refine wpAnyH_ready (rs := [17]) (by kernel_rfl) (by simp) ?_
                              refine AllReadyH.cons rfl (fun K hK => ?_) AllReadyH.nil
                              go_simp
                              refine hK.out _ _ rfl (fun _ => ?_)
                              clear hK K
                              try simp only [Act.put, List.getElem_toArray, List.getElem_cons_zero, List.getElem_cons_succ, List.setIfInBounds_toArray, List.set_cons_zero, List.set_cons_succ]
                              refine wpAnyH_done (by kernel_rfl) ?_ _
                              go_wp2_with fail
                              go_round
                              case rel => exact ⟨q + 1, by rw [HS.out]; first | rfl | simp, by go_num, by omega, KV2⟩
                              case measure => simp [intOf]; omega
                            · rw [hb, Bool.true_or] at hs
                              have HS := Lib.hid hs
                              clear hb hs
                              go_wp2_with fail
                              refine wp_region_held_drew (S := fun wx => wx = wr.drew) (by kernel_rfl) rfl (fun _ => ?_)
                              change wpAnyH _ _ _ _ _ 18 (Array.replicate 18 false) _ _
                              refine wpAnyH_take (i := 0) (v := ?_) rfl (by kernel_rfl) (by kernel_rfl) (by kernel_rfl) (fun _ _ _ h => h) (Or.inl ⟨rfl, ?hy0⟩) rfl ?_
                              case hy0 => intro w' hw'; subst hw'; go_simp; first | done | rfl
                              try simp only [Act.put, List.getElem_toArray, List.getElem_cons_zero, List.setIfInBounds_toArray, List.set_cons_zero, List.set_cons_succ]
                              refine wpAnyH_take (i := 1) (v := ?_) rfl (by kernel_rfl) (by kernel_rfl) (by kernel_rfl) (fun _ _ _ h => h) (Or.inl ⟨rfl, ?hy1⟩) rfl ?_
                              case hy1 => intro w' hw'; subst hw'; go_simp; first | done | rfl
                              try simp only [Act.put, List.getElem_toArray, List.getElem_cons_zero, List.getElem_cons_succ, List.setIfInBounds_toArray, List.set_cons_zero, List.set_cons_succ]
                              refine wpAnyH_take (i := 2) (v := undef) rfl (by kernel_rfl) (by kernel_rfl) (by kernel_rfl) (fun _ _ _ h => h) (Or.inr ⟨rfl, rfl⟩) rfl ?_
                              try simp only [Act.put, List.getElem_toArray, List.getElem_cons_zero, List.getElem_cons_succ, List.setIfInBounds_toArray, List.set_cons_zero, List.set_cons_succ]
                              refine wpAnyH_take (i := 3) (v := undef) rfl (by kernel_rfl) (by kernel_rfl) (by kernel_rfl) (fun _ _ _ h => h) (Or.inr ⟨rfl, rfl⟩) rfl ?_
                              try simp only [Act.put, List.getElem_toArray, List.getElem_cons_zero, List.getElem_cons_succ, List.setIfInBounds_toArray, List.set_cons_zero, List.set_cons_succ]
                              refine wpAnyH_take (i := 4) (v := undef) rfl (by kernel_rfl) (by kernel_rfl) (by kernel_rfl) (fun _ _ _ h => h) (Or.inr ⟨rfl, rfl⟩) rfl ?_
                              try simp only [Act.put, List.getElem_toArray, List.getElem_cons_zero, List.getElem_cons_succ, List.setIfInBounds_toArray, List.set_cons_zero, List.set_cons_succ]
                              refine wpAnyH_take (i := 5) (v := undef) rfl (by kernel_rfl) (by kernel_rfl) (by kernel_rfl) (fun _ _ _ h => h) (Or.inr ⟨rfl, rfl⟩) rfl ?_
                              try simp only [Act.put, List.getElem_toArray, List.getElem_cons_zero, List.getElem_cons_succ, List.setIfInBounds_toArray, List.set_cons_zero, List.set_cons_succ]
                              refine wpAnyH_take (i := 6) (v := undef) rfl (by kernel_rfl) (by kernel_rfl) (by kernel_rfl) (fun _ _ _ h => h) (Or.inr ⟨rfl, rfl⟩) rfl ?_
                              try simp only [Act.put, List.getElem_toArray, List.getElem_cons_zero, List.getElem_cons_succ, List.setIfInBounds_toArray, List.set_cons_zero, List.set_cons_succ]
                              refine wpAnyH_take (i := 7) (v := undef) rfl (by kernel_rfl) (by kernel_rfl) (by kernel_rfl) (fun _ _ _ h => h) (Or.inr ⟨rfl, rfl⟩) rfl ?_
                              try simp only [Act.put, List.getElem_toArray, List.getElem_cons_zero, List.getElem_cons_succ, List.setIfInBounds_toArray, List.set_cons_zero, List.set_cons_succ]
                              refine wpAnyH_take (i := 8) (v := undef) rfl (by kernel_rfl) (by kernel_rfl) (by kernel_rfl) (fun _ _ _ h => h) (Or.inr ⟨rfl, rfl⟩) rfl ?_
                              try simp only [Act.put, List.getElem_toArray, List.getElem_cons_zero, List.getElem_cons_succ, List.setIfInBounds_toArray, List.set_cons_zero, List.set_cons_succ]
                              refine wpAnyH_take (i := 9) (v := undef) rfl (by kernel_rfl) (by kernel_rfl) (by kernel_rfl) (fun _ _ _ h => h) (Or.inr ⟨rfl, rfl⟩) rfl ?_
                              try simp only [Act.put, List.getElem_toArray, List.getElem_cons_zero, List.getElem_cons_succ, List.setIfInBounds_toArray, List.set_cons_zero, List.set_cons_succ]
                              refine wpAnyH_take (i := 10) (v := undef) rfl (by kernel_rfl) (by kernel_rfl) (by kernel_rfl) (fun _ _ _ h => h) (Or.inr ⟨rfl, rfl⟩) rfl ?_
                              try simp only [Act.put, List.getElem_toArray, List.getElem_cons_zero, List.getElem_cons_succ, List.setIfInBounds_toArray, List.set_cons_zero, List.set_cons_succ]
                              refine wpAnyH_take (i := 11) (v := undef) rfl (by kernel_rfl) (by kernel_rfl) (by kernel_rfl) (fun _ _ _ h => h) (Or.inr ⟨rfl, rfl⟩) rfl ?_
                              try simp only [Act.put, List.getElem_toArray, List.getElem_cons_zero, List.getElem_cons_succ, List.setIfInBounds_toArray, List.set_cons_zero, List.set_cons_succ]
                              refine wpAnyH_take (i := 12) (v := undef) rfl (by kernel_rfl) (by kernel_rfl) (by kernel_rfl) (fun _ _ _ h => h) (Or.inr ⟨rfl, rfl⟩) rfl ?_
                              try simp only [Act.put, List.getElem_toArray, List.getElem_cons_zero, List.getElem_cons_succ, List.setIfInBounds_toArray, List.set_cons_zero, List.set_cons_succ]
                              refine wpAnyH_take (i := 13) (v := undef) rfl (by kernel_rfl) (by kernel_rfl) (by kernel_rfl) (fun _ _ _ h => h) (Or.inr ⟨rfl, rfl⟩) rfl ?_
                              try simp only [Act.put, List.getElem_toArray, List.getElem_cons_zero, List.getElem_cons_succ, List.setIfInBounds_toArray, List.set_cons_zero, List.set_cons_succ]
                              refine wpAnyH_take (i := 14) (v := undef) rfl (by kernel_rfl) (by kernel_rfl) (by kernel_rfl) (fun _ _ _ h => h) (Or.inr ⟨rfl, rfl⟩) rfl ?_
                              try simp only [Act.put, List.getElem_toArray, List.getElem_cons_zero, List.getElem_cons_succ, List.setIfInBounds_toArray, List.set_cons_zero, List.set_cons_succ]
                              refine wpAnyH_take (i := 15) (v := undef) rfl (by kernel_rfl) (by kernel_rfl) (by kernel_rfl) (fun _ _ _ h => h) (Or.inr ⟨rfl, rfl⟩) rfl ?_
                              try simp only [Act.put, List.getElem_toArray, List.getElem_cons_zero, List.getElem_cons_succ, List.setIfInBounds_toArray, List.set_cons_zero, List.set_cons_succ]
                              refine wpAnyH_take (i := 16) (v := ?_) rfl (by kernel_rfl) (by kernel_rfl) (by kernel_rfl) (fun _ _ _ h => h) (Or.inl ⟨rfl, ?hy16⟩) rfl ?_
                              case hy16 => intro w' hw'; subst hw'; go_simp; first | done | rfl
                              try simp only [Act.put, List.getElem_toArray, List.getElem_cons_zero, List.getElem_cons_succ, List.setIfInBounds_toArray, List.set_cons_zero, List.set_cons_succ]
                              refine wpAnyH_ready (rs := [17]) (by kernel_rfl) (by simp) ?_
                              refine AllReadyH.cons rfl (fun K hK => ?_) AllReadyH.nil
                              go_simp
                              refine hK.out _ _ rfl (fun _ => ?_)
                              clear hK K
                              try simp only [Act.put, List.getElem_toArray, List.getElem_cons_zero, List.getElem_cons_succ, List.setIfInBounds_toArray, List.set_cons_zero, List.set_cons_succ]
                              refine wpAnyH_done (by kernel_rfl) ?_ _
                              go_wp2_with fail
                              go_round
                              case rel => exact ⟨q + 1, by rw [HS.out], by go_num, by omega, KV2⟩
                              case measure => simp [intOf]; omega
                          · obtain rfl : ML = q := by omega
                            have p0 : decide ((ML : Int) < (ML : Int)) = false := decide_eq_false (by omega)
                            have hso := HSOT.out
                            rw [hso]
                            clear hso hlq2
                            go_wp2_with fail
                            go_round
                            case rel => exact ⟨t + 1, by go_num, by omega, KV⟩
                            case measure => simp [intOf]; omega
                      · obtain rfl : t = 512 := by omega
                        have KDT : Hid (El w w1.heap.size wr b n go oc D d) := by obtain ⟨m, hm⟩ := KT.out; rw [hm]; exact KD7.out.later (below_drewN (Below.refl _ _) m)
                        have t0 : decide (((512 : Nat) : Int) < 512) = false := by decide
                        go_wp2_with fail
                        go_round
                        case rel => exact ⟨i + 1, by go_num, by omega, KDT⟩
                        case measure => simp [intOf]; omega
                  · have z0 : ((i : Int) == 0) = false := by simpa using hi0
                    clear hi0 hlq
                    go_wp2_with fail
                    go_loopw [18] (fun s18 wr => ∃ t : Nat, s18 = .int .i64 (t : Int) ∧ t ≤ 512 ∧ Hid (∃ m, wr = w7.drewN m)) (fun s18 _ => 512 - (intOf s18).toNat)
                    case atStart => exact ⟨0, by go_num, Nat.zero_le _, KW.out⟩
                    case round =>
                      obtain ⟨t, rfl, ht, KT⟩ := hrel
                      by_cases hlt : t < 512
                      · have t0 : decide ((t : Int) < 512) = true := decide_eq_true (by omega)
                        have t1 : (0 : Int) ≤ (t : Int) := by omega
                        have t2 : (t : Int) < 512 := by omega
                        obtain ⟨c, hc⟩ : ∃ c, R[t]? = some c := ⟨_, List.getElem?_eq_getElem (by rw [HROW.out.1]; exact hlt)⟩
                        have HC := Lib.hid hc
                        have hso := HSO.out t c hc
                        have HSOT := Lib.hid hso
                        clear hso hc hlt
                        go_wp2_with fail
                        go_loopw [19, 20] (fun s19 s20 wr => ∃ q : Nat, s19 = .bool (Ek.so M t c q) ∧ s20 = .int .i64 (q : Int) ∧ q ≤ ML ∧ Hid (∃ m, wr = w7.drewN m)) (fun _ s20 _ => ML - (intOf s20).toNat)
                        case atStart => exact ⟨0, rfl, by go_num, Nat.zero_le _, KT.out⟩
                        case round =>
                          obtain ⟨q, rfl, rfl, hq2, KV⟩ := hrel
                          have v0 : wr.cell? ⟨go, i, none⟩ = some (.slice (some ⟨gu, 0, none⟩) ML cu) := by obtain ⟨m, hm⟩ := KV.out; rw [hm]; exact HCU.out
                          by_cases hlq2 : q < ML
                          · have p0 : decide ((q : Int) < (ML : Int)) = true := decide_eq_true (by omega)
                            have p1 : (0 : Int) ≤ (q : Int) := by omega
                            have p2 : (q : Int) < (ML : Int) := by omega
                            have p3 : (q : Int) ≤ 41 := by omega
                            have v1 : wr.cell? ⟨gu, q, none⟩ = some (.string (strB (M[q]?.getD []))) := by obtain ⟨m, hm⟩ := KV.out; rw [hm]; exact HCS.out q hlq2
                            have v2 : wr.cell? ⟨gR, t, none⟩ = some (.int .u8 (c : Int)) := by
                              obtain ⟨m, hm⟩ := KV.out
                              have hh : Has wr gR (.cells (vb R).toArray 84 (0, 0)) := by rw [hm]; exact HR.out
                              rw [hh.cell, List.getElem?_toArray, vb_get, HC.out]; rfl
                            have KV2 : Hid (∃ m, wr.drew = w7.drewN m) := by obtain ⟨m, hm⟩ := KV.out; exact ⟨m + 1, by rw [hm]; rfl⟩
                            have hrq : Row (M[q]?.getD []) := by
                              have hlq3 : q < M.length := by rw [← HML2.out]; exact hlq2
                              rw [List.getElem?_eq_getElem hlq3]
                              exact HMW.out _ (List.getElem_mem hlq3)
                            have hs := Ek.so_succ M t c q
                            generalize M[q]?.getD [] = rq at v1 hrq hs
                            obtain ⟨x, hx⟩ : ∃ x, rq[t]? = some x := ⟨_, List.getElem?_eq_getElem (by rw [hrq.1]; exact Int.ofNat_lt.1 t2)⟩
                            rw [hx] at hs
                            have hix : (Instr.index 9 (.string (strB rq)) (.int .i64 (t : Int))).run Try.prog wr.drew = .ok (.int .u8 (x : Int)) wr.drew := strB_index rq hrq.2 t x hx _
                            generalize strB rq = SQ at v1 hix
                            clear hx hrq hq2
                            cases hb : Ek.so M t c q
                            · rw [hb, Bool.false_or] at hs
                              have HS := Lib.hid hs
                              clear hb hs
                              go_wp2_with fail
                              refine wp_region_held_drew (S := fun wx => wx = wr.drew) (by kernel_rfl) rfl (fun _ => ?_)
                              change wpAnyH _ _ _ _ _ 18 (Array.replicate 18 false) _ _
                              refine wpAnyH_take (i := 0) (v := ?_) rfl (by kernel_rfl) (by kernel_rfl) (by kernel_rfl) (fun _ _ _ h => h) (Or.inl ⟨rfl, ?hy0⟩) rfl ?_
                              case hy0 => intro w' hw'; subst hw'; go_simp; first | done | rfl
                              try simp only [Act.put, List.getElem_toArray, List.getElem_cons_zero, List.setIfInBounds_toArray, List.set_cons_zero, List.set_cons_succ]
                              refine wpAnyH_take (i := 1) (v := ?_) rfl (by kernel_rfl) (by kernel_rfl) (by kernel_rfl) (fun _ _ _ h => h) (Or.inl ⟨rfl, ?hy1⟩) rfl ?_
                              case hy1 => intro w' hw'; subst hw'; go_simp; first | done | rfl
                              try simp only [Act.put, List.getElem_toArray, List.getElem_cons_zero, List.getElem_cons_succ, List.setIfInBounds_toArray, List.set_cons_zero, List.set_cons_succ]
                              refine wpAnyH_take (i := 2) (v := ?_) rfl (by kernel_rfl) (by kernel_rfl) (by kernel_rfl) (fun _ _ _ h => h) (Or.inl ⟨rfl, ?hy2⟩) rfl ?_
                              case hy2 => intro w' hw'; subst hw'; go_simp; first | done | rfl
                              try simp only [Act.put, List.getElem_toArray, List.getElem_cons_zero, List.getElem_cons_succ, List.setIfInBounds_toArray, List.set_cons_zero, List.set_cons_succ]
                              refine wpAnyH_take (i := 3) (v := ?_) rfl (by kernel_rfl) (by kernel_rfl) (by kernel_rfl) (fun _ _ _ h => h) (Or.inl ⟨rfl, ?hy3⟩) rfl ?_
                              case hy3 => intro w' hw'; subst hw'; go_simp; first | done | rfl
                              try simp only [Act.put, List.getElem_toArray, List.getElem_cons_zero, List.getElem_cons_succ, List.setIfInBounds_toArray, List.set_cons_zero, List.set_cons_succ]
                              refine wpAnyH_take (i := 4) (v := ?_) rfl (by kernel_rfl) (by kernel_rfl) (by kernel_rfl) (fun _ _ _ h => h) (Or.inl ⟨rfl, ?hy4⟩) rfl ?_
                              case hy4 => intro w' hw'; subst hw'; go_simp; first | done | rfl
                              try simp only [Act.put, List.getElem_toArray, List.getElem_cons_zero, List.getElem_cons_succ, List.setIfInBounds_toArray, List.set_cons_zero, List.set_cons_succ]
                              refine wpAnyH_take (i := 5) (v := ?_) rfl (by kernel_rfl) (by kernel_rfl) (by kernel_rfl) (fun _ _ _ h => h) (Or.inl ⟨rfl, ?hy5⟩) rfl ?_
                              case hy5 => intro w' hw'; subst hw'; go_simp; first | done | rfl
                              try simp only [Act.put, List.getElem_toArray, List.getElem_cons_zero, List.getElem_cons_succ, List.setIfInBounds_toArray, List.set_cons_zero, List.set_cons_succ]
                              refine wpAnyH_take (i := 6) (v := ?_) rfl (by kernel_rfl) (by kernel_rfl) (by kernel_rfl) (fun _ _ _ h => h) (Or.inl ⟨rfl, ?hy6⟩) rfl ?_
                              case hy6 => intro w' hw'; subst hw'; go_simp; first | done | rfl
                              try simp only [Act.put, List.getElem_toArray, List.getElem_cons_zero, List.getElem_cons_succ, List.setIfInBounds_toArray, List.set_cons_zero, List.set_cons_succ]
                              refine wpAnyH_take (i := 7) (v := ?_) rfl (by kernel_rfl) (by kernel_rfl) (by kernel_rfl) (fun _ _ _ h => h) (Or.inl ⟨rfl, ?hy7⟩) rfl ?_
                              case hy7 => intro w' hw'; subst hw'; go_simp; first | done | rfl
                              try simp only [Act.put, List.getElem_toArray, List.getElem_cons_zero, List.getElem_cons_succ, List.setIfInBounds_toArray, List.set_cons_zero, List.set_cons_succ]
                              refine wpAnyH_take (i := 8) (v := ?_) rfl (by kernel_rfl) (by kernel_rfl) (by kernel_rfl) (fun _ _ _ h => h) (Or.inl ⟨rfl, ?hy8⟩) rfl ?_
                              case hy8 => intro w' hw'; subst hw'; go_simp; first | done | rfl
                              try simp only [Act.put, List.getElem_toArray, List.getElem_cons_zero, List.getElem_cons_succ, List.setIfInBounds_toArray, List.set_cons_zero, List.set_cons_succ]
                              refine wpAnyH_take (i := 9) (v := ?_) rfl (by kernel_rfl) (by kernel_rfl) (by kernel_rfl) (fun _ _ _ h => h) (Or.inl ⟨rfl, ?hy9⟩) rfl ?_
                              case hy9 => intro w' hw'; subst hw'; go_simp; first | done | rfl
                              try simp only [Act.put, List.getElem_toArray, List.getElem_cons_zero, List.getElem_cons_succ, List.setIfInBounds_toArray, List.set_cons_zero, List.set_cons_succ]
                              refine wpAnyH_take (i := 10) (v := ?_) rfl (by kernel_rfl) (by kernel_rfl) (by kernel_rfl) (fun _ _ _ h => h) (Or.inl ⟨rfl, ?hy10⟩) rfl ?_
                              case hy10 => intro w' hw'; subst hw'; go_simp; first | done | rfl
                              try simp only [Act.put, List.getElem_toArray, List.getElem_cons_zero, List.getElem_cons_succ, List.setIfInBounds_toArray, List.set_cons_zero, List.set_cons_succ]
                              refine wpAnyH_take (i := 11) (v := ?_) rfl (by kernel_rfl) (by kernel_rfl) (by kernel_rfl) (fun _ _ _ h => h) (Or.inl ⟨rfl, ?hy11⟩) rfl ?_
                              case hy11 => intro w' hw'; subst hw'; go_simp; first | done | rfl
                              try simp only [Act.put, List.getElem_toArray, List.getElem_cons_zero, List.getElem_cons_succ, List.setIfInBounds_toArray, List.set_cons_zero, List.set_cons_succ]
                              refine wpAnyH_take (i := 12) (v := ?_) rfl (by kernel_rfl) (by kernel_rfl) (by kernel_rfl) (fun _ _ _ h => h) (Or.inl ⟨rfl, ?hy12⟩) rfl ?_
                              case hy12 => intro w' hw'; subst hw'; go_simp; first | done | rfl
                              try simp only [Act.put, List.getElem_toArray, List.getElem_cons_zero, List.getElem_cons_succ, List.setIfInBounds_toArray, List.set_cons_zero, List.set_cons_succ]
                              refine wpAnyH_take (i := 13) (v := ?_) rfl (by kernel_rfl) (by kernel_rfl) (by kernel_rfl) (fun _ _ _ h => h) (Or.inl ⟨rfl, ?hy13⟩) rfl ?_
                              case hy13 => intro w' hw'; subst hw'; go_simp; first | done | rfl
                              try simp only [Act.put, List.getElem_toArray, List.getElem_cons_zero, List.getElem_cons_succ, List.setIfInBounds_toArray, List.set_cons_zero, List.set_cons_succ]
                              refine wpAnyH_take (i := 14) (v := ?_) rfl (by kernel_rfl) (by kernel_rfl) (by kernel_rfl) (fun _ _ _ h => h) (Or.inl ⟨rfl, ?hy14⟩) rfl ?_
                              case hy14 => intro w' hw'; subst hw'; go_simp; first | done | rfl
                              try simp only [Act.put, List.getElem_toArray, List.getElem_cons_zero, List.getElem_cons_succ, List.setIfInBounds_toArray, List.set_cons_zero, List.set_cons_succ]
                              refine wpAnyH_take (i := 15) (v := ?_) rfl (by kernel_rfl) (by kernel_rfl) (by kernel_rfl) (fun _ _ _ h => h) (Or.inl ⟨rfl, ?hy15⟩) rfl ?_
                              case hy15 => intro w' hw'; subst hw'; go_simp; first | done | rfl
                              try simp only [Act.put, List.getElem_toArray, List.getElem_cons_zero, List.getElem_cons_succ, List.setIfInBounds_toArray, List.set_cons_zero, List.set_cons_succ]
                              refine wpAnyH_take (i := 16) (v := ?_) rfl (by kernel_rfl) (by kernel_rfl) (by kernel_rfl) (fun _ _ _ h => h) (Or.inl ⟨rfl, ?hy16⟩) rfl ?_
                              case hy16 => intro w' hw'; subst hw'; go_simp; first | done | rfl
                              try simp only [Act.put, List.getElem_toArray, List.getElem_cons_zero, List.getElem_cons_succ, List.setIfInBounds_toArray, List.set_cons_zero, List.set_cons_succ]
                              refine wpAnyH_ready (rs := [17]) (by kernel_rfl) (by simp) ?_
                              refine AllReadyH.cons rfl (fun K hK => ?_) AllReadyH.nil
                              go_simp
                              refine hK.out _ _ rfl (fun _ => ?_)
                              clear hK K
                              try simp only [Act.put, List.getElem_toArray, List.getElem_cons_zero, List.getElem_cons_succ, List.setIfInBounds_toArray, List.set_cons_zero, List.set_cons_succ]
                              refine wpAnyH_done (by kernel_rfl) ?_ _
                              go_wp2_with fail
                              go_round
                              case rel => exact ⟨q + 1, by rw [HS.out]; first | rfl | simp, by go_num, by omega, KV2⟩
                              case measure => simp [intOf]; omega
                            · rw [hb, Bool.true_or] at hs
                              have HS := Lib.hid hs
                              clear hb hs
                              go_wp2_with fail
                              refine wp_region_held_drew (S := fun wx => wx = wr.drew) (by kernel_rfl) rfl (fun _ => ?_)
                              change wpAnyH _ _ _ _ _ 18 (Array.replicate 18 false) _ _
                              refine wpAnyH_take (i := 0) (v := ?_) rfl (by kernel_rfl) (by kernel_rfl) (by kernel_rfl) (fun _ _ _ h => h) (Or.inl ⟨rfl, ?hy0⟩) rfl ?_
                              case hy0 => intro w' hw'; subst hw'; go_simp; first | done | rfl
                              try simp only [Act.put, List.getElem_toArray, List.getElem_cons_zero, List.setIfInBounds_toArray, List.set_cons_zero, List.set_cons_succ]
                              refine wpAnyH_take (i := 1) (v := ?_) rfl (by kernel_rfl) (by kernel_rfl) (by kernel_rfl) (fun _ _ _ h => h) (Or.inl ⟨rfl, ?hy1⟩) rfl ?_
                              case hy1 => intro w' hw'; subst hw'; go_simp; first | done | rfl
                              try simp only [Act.put, List.getElem_toArray, List.getElem_cons_zero, List.getElem_cons_succ, List.setIfInBounds_toArray, List.set_cons_zero, List.set_cons_succ]
                              refine wpAnyH_take (i := 2) (v := undef) rfl (by kernel_rfl) (by kernel_rfl) (by kernel_rfl) (fun _ _ _ h => h) (Or.inr ⟨rfl, rfl⟩) rfl ?_
                              try simp only [Act.put, List.getElem_toArray, List.getElem_cons_zero, List.getElem_cons_succ, List.setIfInBounds_toArray, List.set_cons_zero, List.set_cons_succ]
                              refine wpAnyH_take (i := 3) (v := undef) rfl (by kernel_rfl) (by kernel_rfl) (by kernel_rfl) (fun _ _ _ h => h) (Or.inr ⟨rfl, rfl⟩) rfl ?_
                              try simp only [Act.put, List.getElem_toArray, List.getElem_cons_zero, List.getElem_cons_succ, List.setIfInBounds_toArray, List.set_cons_zero, List.set_cons_succ]
                              refine wpAnyH_take (i := 4) (v := undef) rfl (by kernel_rfl) (by kernel_rfl) (by kernel_rfl) (fun _ _ _ h => h) (Or.inr ⟨rfl, rfl⟩) rfl ?_
                              try simp only [Act.put, List.getElem_toArray, List.getElem_cons_zero, List.getElem_cons_succ, List.setIfInBounds_toArray, List.set_cons_zero, List.set_cons_succ]
                              refine wpAnyH_take (i := 5) (v := undef) rfl (by kernel_rfl) (by kernel_rfl) (by kernel_rfl) (fun _ _ _ h => h) (Or.inr ⟨rfl, rfl⟩) rfl ?_
                              try simp only [Act.put, List.getElem_toArray, List.getElem_cons_zero, List.getElem_cons_succ, List.setIfInBounds_toArray, List.set_cons_zero, List.set_cons_succ]
                              refine wpAnyH_take (i := 6) (v := undef) rfl (by kernel_rfl) (by kernel_rfl) (by kernel_rfl) (fun _ _ _ h => h) (Or.inr ⟨rfl, rfl⟩) rfl ?_
                              try simp only [Act.put, List.getElem_toArray, List.getElem_cons_zero, List.getElem_cons_succ, List.setIfInBounds_toArray, List.set_cons_zero, List.set_cons_succ]
                              refine wpAnyH_take (i := 7) (v := undef) rfl (by kernel_rfl) (by kernel_rfl) (by kernel_rfl) (fun _ _ _ h => h) (Or.inr ⟨rfl, rfl⟩) rfl ?_
                              try simp only [Act.put, List.getElem_toArray, List.getElem_cons_zero, List.getElem_cons_succ, List.setIfInBounds_toArray, List.set_cons_zero, List.set_cons_succ]
                              refine wpAnyH_take (i := 8) (v := undef) rfl (by kernel_rfl) (by kernel_rfl) (by kernel_rfl) (fun _ _ _ h => h) (Or.inr ⟨rfl, rfl⟩) rfl ?_
                              try simp only [Act.put, List.getElem_toArray, List.getElem_cons_zero, List.getElem_cons_succ, List.setIfInBounds_toArray, List.set_cons_zero, List.set_cons_succ]
                              refine wpAnyH_take (i := 9) (v := undef) rfl (by kernel_rfl) (by kernel_rfl) (by kernel_rfl) (fun _ _ _ h => h) (Or.inr ⟨rfl, rfl⟩) rfl ?_
                              try simp only [Act.put, List.getElem_toArray, List.getElem_cons_zero, List.getElem_cons_succ, List.setIfInBounds_toArray, List.set_cons_zero, List.set_cons_succ]
                              refine wpAnyH_take (i := 10) (v := undef) rfl (by kernel_rfl) (by kernel_rfl) (by kernel_rfl) (fun _ _ _ h => h) (Or.inr ⟨rfl, rfl⟩) rfl ?_
                              try simp only [Act.put, List.getElem_toArray, List.getElem_cons_zero, List.getElem_cons_succ, List.setIfInBounds_toArray, List.set_cons_zero, List.set_cons_succ]
                              refine wpAnyH_take (i := 11) (v := undef) rfl (by kernel_rfl) (by kernel_rfl) (by kernel_rfl) (fun _ _ _ h => h) (Or.inr ⟨rfl, rfl⟩) rfl ?_
                              try simp only [Act.put, List.getElem_toArray, List.getElem_cons_zero, List.getElem_cons_succ, List.setIfInBounds_toArray, List.set_cons_zero, List.set_cons_succ]
                              refine wpAnyH_take (i := 12) (v := undef) rfl (by kernel_rfl) (by kernel_rfl) (by kernel_rfl) (fun _ _ _ h => h) (Or.inr ⟨rfl, rfl⟩) rfl ?_
                              try simp only [Act.put, List.getElem_toArray, List.getElem_cons_zero, List.getElem_cons_succ, List.setIfInBounds_toArray, List.set_cons_zero, List.set_cons_succ]
                              refine wpAnyH_take (i := 13) (v := undef) rfl (by kernel_rfl) (by kernel_rfl) (by kernel_rfl) (fun _ _ _ h => h) (Or.inr ⟨rfl, rfl⟩) rfl ?_
                              try simp only [Act.put, List.getElem_toArray, List.getElem_cons_zero, List.getElem_cons_succ, List.setIfInBounds_toArray, List.set_cons_zero, List.set_cons_succ]
                              refine wpAnyH_take (i := 14) (v := undef) rfl (by kernel_rfl) (by kernel_rfl) (by kernel_rfl) (fun _ _ _ h => h) (Or.inr ⟨rfl, rfl⟩) rfl ?_
                              try simp only [Act.put, List.getElem_toArray, List.getElem_cons_zero, List.getElem_cons_succ, List.setIfInBounds_toArray, List.set_cons_zero, List.set_cons_succ]
                              refine wpAnyH_take (i := 15) (v := undef) rfl (by kernel_rfl) (by kernel_rfl) (by kernel_rfl) (fun _ _ _ h => h) (Or.inr ⟨rfl, rfl⟩) rfl ?_
                              try simp only [Act.put, List.getElem_toArray, List.getElem_cons_zero, List.getElem_cons_succ, List.setIfInBounds_toArray, List.set_cons_zero, List.set_cons_succ]
                              refine wpAnyH_take (i := 16) (v := ?_) rfl (by kernel_rfl) (by kernel_rfl) (by kernel_rfl) (fun _ _ _ h => h) (Or.inl ⟨rfl, ?hy16⟩) rfl ?_
                              case hy16 => intro w' hw'; subst hw'; go_simp; first | done | rfl
                              try simp only [Act.put, List.getElem_toArray, List.getElem_cons_zero, List.getElem_cons_succ, List.setIfInBounds_toArray, List.set_cons_zero, List.set_cons_succ]
                              refine wpAnyH_ready (rs := [17]) (by kernel_rfl) (by simp) ?_
                              refine AllReadyH.cons rfl (fun K hK => ?_) AllReadyH.nil
                              go_simp
                              refine hK.out _ _ rfl (fun _ => ?_)
                              clear hK K
                              try simp only [Act.put, List.getElem_toArray, List.getElem_cons_zero, List.getElem_cons_succ, List.setIfInBounds_toArray, List.set_cons_zero, List.set_cons_succ]
                              refine wpAnyH_done (by kernel_rfl) ?_ _
                              go_wp2_with fail
                              go_round
                              case rel => exact ⟨q + 1, by rw [HS.out], by go_num, by omega, KV2⟩
                              case measure => simp [intOf]; omega
                          · obtain rfl : ML = q := by omega
                            have p0 : decide ((ML : Int) < (ML : Int)) = false := decide_eq_false (by omega)
                            have hso := HSOT.out
                            rw [hso]
                            clear hso hlq2
                            go_wp2_with fail
                            go_round
                            case rel => exact ⟨t + 1, by go_num, by omega, KV⟩
                            case measure => simp [intOf]; omega
                      · obtain rfl : t = 512 := by omega
                        have KDT : Hid (El w w1.heap.size wr b n go oc D d) := by obtain ⟨m, hm⟩ := KT.out; rw [hm]; exact KD7.out.later (below_drewN (Below.refl _ _) m)
                        have t0 : decide (((512 : Nat) : Int) < 512) = false := by decide
                        go_wp2_with fail
                        go_round
                        case rel => exact ⟨i + 1, by go_num, by omega, KDT⟩
                        case measure => simp [intOf]; omega
            · have KDE := Lib.hid KD.out.below
              obtain rfl : n = i := by omega
              have j0 : decide ((n : Int) < (n : Int)) = false := decide_eq_false (by omega)
              clear hlt hi
              go_wp2_with fail
              refine (lives_is wr).mono ?_
              rintro e w10 ⟨rfl, hb10⟩
              have HB10 := Lib.hid (KDE.out.trans (hb10.mono KDE.out.size))
              clear hb10
              go_wp2_with fail
              go_ret
              exact ⟨rfl, HB10.out⟩

set_option maxRecDepth 100000 in
set_option maxHeartbeats 4000000 in
theorem sectorEach_walk (n : Int) (v : Value) (l : List Ac) (kv : Value) (ks : List Int) (w : World) (_lo : -9223372036854775808 ≤ n) (_hi : n ≤ 9223372036854775807) (hl : Acts w v l) (hk : Ks w kv ks) :
    Calls Try.prog 4 #[.int .i64 n, v, kv] w fun e w' => e = .returned (.bool true) ∧ Below w.heap.size w w' := by
  by_cases h1 : n < 1
  · have c1 : decide (n < 1) = true := decide_eq_true h1
    clear h1 _lo _hi
    go_enter Try.func4, Try.ntmps4
    go_wp2_with fail
    refine (lives_is w).mono ?_
    rintro e w5 ⟨rfl, hb5⟩
    go_wp2_with fail
    go_ret
    exact ⟨rfl, hb5⟩
  · have c1 : decide (n < 1) = false := decide_eq_false h1
    by_cases h2 : 40 < n
    · have c2 : decide (40 < n) = true := decide_eq_true h2
      clear h1 h2 _lo _hi
      go_enter Try.func4, Try.ntmps4
      go_wp2_with fail
      refine (lives_is w).mono ?_
      rintro e w5 ⟨rfl, hb5⟩
      go_wp2_with fail
      go_ret
      exact ⟨rfl, hb5⟩
    · have c2 : decide (40 < n) = false := decide_eq_false h2
      by_cases h3 : l.length ≤ 40
      · obtain ⟨nn, rfl⟩ : ∃ nn : Nat, n = (nn : Int) := ⟨n.toNat, by omega⟩
        exact each_main nn v l kv ks w (by omega) (by omega) hl hk h3
      · obtain ⟨a, cap, rfl, _, _⟩ := hl
        have c3 : decide ((40 : Int) < (l.length : Int)) = true := decide_eq_true (by omega)
        generalize l.length = L at c3
        clear h1 h2 h3 _lo _hi
        go_enter Try.func4, Try.ntmps4
        go_wp2_with fail
        refine (lives_is w).mono ?_
        rintro e w5 ⟨rfl, hb5⟩
        go_wp2_with fail
        go_ret
        exact ⟨rfl, hb5⟩
set_option maxRecDepth 100000 in
theorem sectorEach_lifted (os : Os) (started : os.Started) (H : Type) (enc : TypeId × Value → H) :
    ReturnsInHanded {} Try.checked os 4 .any (Rows.sectorEachSpec.pre6 enc Try.prog Try.f4 Rows.sectorEachRow.domain false) (Rows.sectorEachSpec.post enc Try.prog Try.f4 false true false false) := by
  refine returnsInHanded_of_change_sized (C := Try.checked) Try.own started (by kernel_rfl) Try.func4
    (ChangeSpec.witness6 (enc := enc) (C := Try.checked) false ⟨#[], #[.int .i64 0, .slice none 0 0, .slice none 0 0], []⟩ 8 (by kernel_rfl) (by kernel_rfl) (by kernel_rfl) (by kernel_rfl)) ?_
  intro W base args ds gs before hval0 hW _ hsz0 _
  have hval : ∀ (j : Nat) t v, Try.f4.params[j]? = some t → args[j]? = some v → Value.okWide Try.prog W .any base t v := hval0
  have hsz : (DataW.weightsEach Try.prog (Try.f4.params.toList ++ Rows.sectorEachSpec.plain.varTypes Try.prog) (ds ++ gs)).all (· ≤ reachBytes) = true := hsz0
  have hW' := hW
  obtain ⟨p, q, hA0, hV, rfl, hfz, hnd⟩ := hW
  have hA : DataW.TrodAll enc Try.prog W 0 (fun _ => true) true Try.f4.params.toList args.toList ds p := hA0
  rw [Try.params4] at hA hval hsz
  obtain ⟨v0, vs0, d0, ds0, p0, q0, hargs, rfl, rfl, h0, r0⟩ := trodAll_cons hA
  obtain ⟨v1, vs1, d1, ds1, p1, q1, rfl, rfl, rfl, h1, r1⟩ := trodAll_cons r0
  obtain ⟨v2, vs2, d2, ds2, p2, q2, rfl, rfl, rfl, h2, r2⟩ := trodAll_cons r1
  obtain ⟨rfl, rfl, rfl⟩ := trodAll_nil r2
  obtain rfl : args = #[v0, v1, v2] := by cases args; simp_all
  obtain ⟨rfl, rfl⟩ := trodVars_none hV
  have k0 := h0
  have lt0 : ∀ x ∈ p0, x.block < W.heap.size := by obtain ⟨m, hm⟩ := k0; exact DataW.trod_lt m _ _ _ hm
  obtain ⟨n0, ev0, _, _, wn0⟩ := open_int Try.underlying3 (hval 0 3 v0 rfl rfl) h0
  subst ev0
  obtain ⟨lo0, hi0⟩ := wf_bounds wn0
  have k1 := h1
  have lt1 : ∀ x ∈ p1, x.block < W.heap.size := by obtain ⟨m, hm⟩ := k1; exact DataW.trod_lt m _ _ _ hm
  obtain ⟨as1, al1⟩ := acts_open (hval 1 22 v1 rfl rfl) h1
  have k2 := h2
  have lt2 : ∀ x ∈ p2, x.block < W.heap.size := by obtain ⟨m, hm⟩ := k2; exact DataW.trod_lt m _ _ _ hm
  obtain ⟨ks2, kl2⟩ := ks_open (hval 2 37 v2 rfl rfl) h2
  clear hA0 hval0 hsz0
  refine (sectorEach_walk n0 v1 as1 v2 ks2 W lo0 hi0 al1 kl2).mono fun e W' ⟨he, bel⟩ => ?_
  subst he
  exact ⟨_, rfl, _, _, _, [], _, [], hW', trodAll_mk1 (shut_bool Try.underlying4 _), (trodAll_cons_mk (Below.trod Try.laidOut (by kernel_rfl) (of_decide_eq_true (by kernel_rfl)) k0 bel lt0) (trodAll_cons_mk (Below.trod Try.laidOut (by kernel_rfl) (of_decide_eq_true (by kernel_rfl)) k1 bel lt1) (trodAll_cons_mk (Below.trod Try.laidOut (by kernel_rfl) (of_decide_eq_true (by kernel_rfl)) k2 bel lt2) trodAll_mk0))), rfl, bel.frame _, fun h => by cases h⟩

theorem sectorEach_proved : Rows.SectorEachSaid :=
  OpenClaim.holds_of_wide 4 Try.f4 rfl rfl rfl rfl rfl rfl rfl ⟨rfl, rfl, rfl, rfl, rfl⟩ rfl rfl rfl rfl rfl (by kernel_rfl) Try.func4 (by kernel_rfl)
    (of_decide_eq_true (by kernel_rfl)) (by unfold Func.isWrapper; rw [if_neg (of_decide_eq_false (by kernel_rfl))]; exact ⟨rfl, rfl⟩)
    (fun os started H enc _ => sectorEach_lifted os started H enc)
end Go.Proofs.Ytnagkcbejhbooaa
