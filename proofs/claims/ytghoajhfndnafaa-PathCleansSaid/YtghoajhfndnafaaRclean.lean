/- The document's Clean, Parent. -/
import Derived.Test.YtghoajhfndnafaaRjoin
import Derived.Test.YtghoajhfndnafaaPord
import Derived.Test.YtghoajhfndnafaaPclean
import Derived.OwnWalk

namespace Go.Proofs.Ytghoajhfndnafaa
set_option maxRecDepth 100000
open Go.RowKit

theorem fold_take_succ (l : List Tx) (k : Nat) (h : k < l.length) : (l.take (k + 1)).foldl Pn.step [] = Pn.step ((l.take k).foldl Pn.step []) (l[k]'h) := by
  rw [List.take_succ_eq_append_getElem h, List.foldl_append]
  rfl

set_option maxRecDepth 100000 in
set_option maxHeartbeats 4000000 in
theorem rclean_any (s : Tx) (w : World) :
    Calls Try.prog 22 #[.string (bx s)] w fun e w' => e = .returned (.tuple #[.string (bx (Pn.clean s).1), .int .i64 ((Pn.clean s).2 : Int)]) ∧ Below w.heap.size w w' := by
  have hz := bx_size s
  by_cases hs : 1024 < s.length
  · have e1 : Pn.clean s = ([], 3) := by unfold Pn.clean; rw [if_pos hs]
    have q1 : decide ((s.length : Int) > 1024) = true := by simp; omega
    rw [e1]
    generalize bx s = S at hz ⊢
    clear hs e1
    go_enter Try.func22, Try.ntmps22
    go_wp2_with fail
    go_ret2
    exact ⟨rfl, Below.refl _ _⟩
  have q1 : decide ((s.length : Int) > 1024) = false := by simp; omega
  have e1 : Pn.clean s = Pn.joined (Pn.stack s) := by unfold Pn.clean; rw [if_neg hs]
  have e2 : ((Pn.joined (Pn.stack s)).2 : Int) = ec (Pn.path (Pn.stack s)) := by
    unfold Pn.joined ec
    cases Pn.path (Pn.stack s) <;> rfl
  rw [e1, e2]
  have C1 := Lib.hid (fun w => rpieces_any s w (by omega))
  have C2 := Lib.hid (fun v w (h : Ss w v (Pn.stack s)) => rjoin_any v (Pn.stack s) w h)
  have hpl := pieces_len s
  have hfs : (Pn.pieces s).foldl Pn.step [] = Pn.stack s := Pn.fold_names s []
  obtain ⟨J, hJ⟩ : ∃ J, J = bx (Pn.joined (Pn.stack s)).1 := ⟨_, rfl⟩
  obtain ⟨z, hzz⟩ : ∃ z, z = ec (Pn.path (Pn.stack s)) := ⟨_, rfl⟩
  rw [← hJ, ← hzz] at C2 ⊢
  generalize Pn.stack s = K at C2 hfs
  obtain ⟨S, hS⟩ : ∃ S, S = bx s := ⟨_, rfl⟩
  rw [← hS] at hz C1 ⊢
  have hpl2 : (Pn.pieces s).length ≤ 1025 := by omega
  generalize Pn.pieces s = L at C1 hfs hpl2
  have HFS := Lib.hid hfs
  have HPL := Lib.hid (fun _ : Unit => hpl2)
  obtain ⟨n, hn⟩ : ∃ n, n = L.length := ⟨_, rfl⟩
  have HN := Lib.hid hn
  clear hpl hfs hs e1 e2 hJ hzz hS hpl2 hn
  go_enter Try.func22, Try.ntmps22
  go_wp2_with fail
  refine (C1.out _).mono ?_
  rintro e w1 ⟨v, rfl, ho, hb⟩
  have HB := Lib.hid hb
  rcases ho.ss.at with ⟨a1, c1, rfl, -, hL⟩ | ⟨b1, o1, c1, rfl, -, g1, -, d1⟩
  · have hK : K = [] := by rw [← HFS.out, hL]; rfl
    have C3 := Lib.hid (C2.out (.slice none 0 0) w1 (by rw [hK]; exact Ss.nil _ _ _))
    have hn0 : L.length = 0 := by rw [hL]; rfl
    rw [hn0]
    clear ho hb hL hK C2 hn0 HFS HPL HN
    go_wp2_with fail
    go_loopw [4, 6] (fun s4 s6 wr => s4 = .slice none 0 0 ∧ s6 = .int .i64 0 ∧ wr = w1) (fun _ _ _ => 0)
    case atStart => exact ⟨rfl, rfl, rfl⟩
    case round =>
      obtain ⟨rfl, rfl, rfl⟩ := hrel
      go_wp2_with fail
      refine C3.out.mono ?_
      rintro e w3 ⟨rfl, rfl⟩
      go_wp2_with fail
      go_ret2
      exact ⟨rfl, HB.out⟩
  · have D1 := Lib.hid d1
    have G1 := Lib.hid g1
    rw [← HN.out]
    clear ho hb d1 g1
    go_wp2_with fail
    go_loopw [4, 6] (fun s4 s6 wr => ∃ k : Nat, k ≤ n ∧ s6 = .int .i64 (k : Int) ∧ Hid (Ot wr w1.heap.size s4 ((L.take k).foldl Pn.step [])) ∧ Hid (Below w1.heap.size w1 wr)) (fun _ s6 _ => n - (intOf s6).toNat)
    case atStart => exact ⟨0, Nat.zero_le _, rfl, Ot.nil _ _, Below.refl _ _⟩
    case round =>
      obtain ⟨k, hk, rfl, HO, HW⟩ := hrel
      obtain ⟨a0, c0, hs4, hcc, -⟩ := HO.out.ss
      subst hs4
      by_cases hlt : k < n
      · have hkl : k < L.length := by rw [← HN.out]; exact hlt
        have hcx := (HW.out.cell (p := ⟨b1, o1 + k, none⟩) G1.out).trans (D1.out k hkl)
        have hfl := fold_take_succ L k hkl
        have hql : ((L.take k).foldl Pn.step []).length ≤ 1025 := by
          have h1 := fold_len (L.take k) []
          have h2 := HPL.out ()
          have h3 : (L.take k).length ≤ L.length := by rw [List.length_take]; omega
          simp only [List.length_nil] at h1
          omega
        have hwk : IntKind.i64.wrap ((k : Int) + 1) = (k : Int) + 1 := IntWalk.i64_in _ (by have := HPL.out (); omega)
        generalize L[k]'hkl = x at hcx hfl
        have HFL := Lib.hid hfl
        clear hfl
        generalize (L.take k).foldl Pn.step [] = q at *
        have tx := bx_toList x
        have HG := Lib.hid (HO.out.grow x HW.out.size (by omega))
        obtain ⟨X, hX⟩ : ∃ X, X = bx x := ⟨_, rfl⟩
        rw [← hX] at hcx tx HG
        clear hX
        obtain ⟨m, hm⟩ : ∃ m, m = q.length := ⟨_, rfl⟩
        by_cases x1 : x = []
        · have hst : Hid ((L.take (k + 1)).foldl Pn.step [] = q) := by show _ = _; rw [HFL.out, x1]; simp [Pn.step]
          subst x1
          clear HG hql hm
          go_wp2_with fail
          go_roundw
          case rel => exact ⟨k + 1, by omega, by go_num, by rw [hst.out]; exact HO, HW⟩
          case measure => simp [intOf] <;> omega
        by_cases x2 : x = [46]
        · have hst : Hid ((L.take (k + 1)).foldl Pn.step [] = q) := by show _ = _; rw [HFL.out, x2]; simp [Pn.step]
          subst x2
          clear HG hql hm x1
          go_wp2_with fail
          go_roundw
          case rel => exact ⟨k + 1, by omega, by go_num, by rw [hst.out]; exact HO, HW⟩
          case measure => simp [intOf] <;> omega
        have y1 : x.isEmpty = false := by cases x <;> simp_all
        have y2 : (x == [46]) = false := by simpa using x2
        by_cases x3 : x = [46, 46]
        · have hst : Hid ((L.take (k + 1)).foldl Pn.step [] = q.take (q.length - 1)) := by show _ = _; rw [HFL.out, x3]; simp [Pn.step, List.dropLast_eq_take]
          have HD := Lib.hid (HO.out.drop (q.length - 1) (by omega))
          rw [← hm] at HO hcc HD hst hql ⊢
          subst x3
          clear HG x1 x2 HFL y1 y2
          by_cases h0 : m = 0
          · have w2 : ¬ 0 < m := by omega
            have hq0 : q = [] := List.eq_nil_of_length_eq_zero (by omega)
            have hst2 : Hid ((L.take (k + 1)).foldl Pn.step [] = q) := by show _ = _; rw [hst.out, hq0]; simp
            clear hql hm h0 hq0 hst
            go_wp2_with fail
            go_roundw
            case rel => exact ⟨k + 1, by omega, by go_num, by rw [hst2.out]; exact HO, HW⟩
            case measure => simp [intOf] <;> omega
          · have w0 : IntKind.i64.wrap ((m : Int) - 1) = ((m - 1 : Nat) : Int) := by rw [IntWalk.i64_in _ (by omega)]; omega
            have w1' : 0 < m := by omega
            have w3 : ((m - 1 : Nat) : Int) ≤ (c0 : Int) := by omega
            have w4 : (0 : Int) ≤ ((m - 1 : Nat) : Int) := by omega
            clear hql hm h0
            generalize m - 1 = j at *
            go_wp2_with fail
            go_roundw
            case rel => exact ⟨k + 1, by omega, by go_num, by rw [hst.out]; exact HD, HW⟩
            case measure => simp [intOf] <;> omega
        · have hst : Hid ((L.take (k + 1)).foldl Pn.step [] = q ++ [x]) := by show _ = _; rw [HFL.out]; simp [Pn.step, x1, x2, x3]
          have y3 : (x == [46, 46]) = false := by simpa using x3
          obtain ⟨g, cc, w3, hrun, hss, hb3⟩ := HG.out
          have HSS := Lib.hid hss
          have HB3 := Lib.hid (hb3.out _ (Nat.le_refl _))
          clear hql hm x1 x2 x3 HG hss hb3
          go_wp2_with (at_builtin; refine wpList_append_known rfl (.tmp 22) (.tmp 27) 22 rfl _ _ _ w3 rfl rfl hrun ?_)
          go_roundw
          case rel => exact ⟨k + 1, by omega, by go_num, by rw [hst.out]; exact HSS, Lib.hid (HW.out.trans HB3.out)⟩
          case measure => simp [intOf] <;> omega
      · obtain rfl : k = n := by omega
        have hfin : (L.take k).foldl Pn.step [] = K := by
          rw [List.take_of_length_le (by rw [← HN.out]; exact Nat.le_refl _)]
          exact HFS.out
        have C3 := Lib.hid (C2.out _ wr (by rw [← hfin]; exact HO.out.ss))
        clear hlt hfin C2
        go_wp2_with fail
        refine C3.out.mono ?_
        rintro e w3 ⟨rfl, rfl⟩
        go_wp2_with fail
        go_ret2
        exact ⟨rfl, HB.out.trans (HW.out.mono HB.out.size)⟩
theorem ss_drew {w : World} {v : Value} {l : List Tx} (h : Ss w v l) (n : Nat) : Ss (w.drewN n) v l := h.later (below_drewN (Below.refl _ _) n)

set_option maxRecDepth 100000 in
set_option maxHeartbeats 4000000 in
theorem rparent_any (s : Tx) (w : World) :
    Calls Try.prog 24 #[.string (bx s)] w fun e w' => e = .returned (.tuple #[.string (bx (Pn.parent s).1), .string (bx (Pn.parent s).2.1), .int .i64 ((Pn.parent s).2.2 : Int)]) ∧ Below w.heap.size w w' := by
  have HC := Lib.hid (rsplit_any s w)
  cases hp : Pn.path (Pn.names s) with
  | false =>
    have hq : Pn.parent s = ([], [], 8) := by unfold Pn.parent; rw [hp]; rfl
    rw [hq]
    rw [hp] at HC
    generalize (Pn.split s).1 = L at HC
    generalize bx s = S at HC
    clear hp hq
    go_enter Try.func24, Try.ntmps24
    go_wp2_with (go_at_call 14; refine HC.out.mono ?_; rintro e w' ⟨v, rfl, ho, hb⟩; have HB := Lib.hid hb; clear hb ho)
    refine bodyPost_ret (v := _) (results_tmp3 rfl _ _ _) rfl ?_
    exact ⟨rfl, HB.out⟩
  | true =>
    rw [split_fst, hp, if_pos rfl] at HC
    by_cases h0 : Pn.names s = []
    · have hq : Pn.parent s = ([], [], 9) := by unfold Pn.parent; rw [hp, h0]; rfl
      rw [hq]
      rw [h0] at HC
      generalize bx s = S at HC
      clear hp hq h0
      go_enter Try.func24, Try.ntmps24
      go_wp2_with (go_at_call 14; refine HC.out.mono ?_; rintro e w' ⟨v, rfl, ho, hb⟩; have HB := Lib.hid hb; obtain ⟨a0, c0, rfl, _⟩ := ho.ss; clear hb ho; simp only [ec])
      refine bodyPost_ret (v := _) (results_tmp3 rfl _ _ _) rfl ?_
      exact ⟨rfl, HB.out⟩
    · obtain ⟨m, hm⟩ : ∃ m, (Pn.names s).length = m + 1 := ⟨(Pn.names s).length - 1, by have := List.length_pos_iff.2 h0; omega⟩
      have hlt : m < (Pn.names s).length := by omega
      have h8 := Pn.path_len hp
      have hq : Pn.parent s = (Pn.join ((Pn.names s).take m), (Pn.names s)[m]'hlt, 0) := by
        unfold Pn.parent
        rw [hp, if_pos rfl, if_neg h0, List.dropLast_eq_take, List.getLast?_eq_getElem?, hm, Nat.add_sub_cancel, List.getElem?_eq_getElem hlt]
        rfl
      have hpt := Pn.path_take hp m
      have hall : ((Pn.names s).take m).all Pn.name = true := by
        rw [List.all_eq_true]
        exact fun x hx => Pn.path_name hpt x hx
      have htl : ((Pn.names s).take m).length ≤ 8 := Pn.path_len hpt
      have HT := Lib.hid (fun (w' : World) a c (h : Ss w' (.slice a (Pn.names s).length c) (Pn.names s)) n => (rtext_any (.slice a m c) _ (w'.drewN n) (ss_drew (h.take m (by omega)) n) (by omega) (lens_names hall htl)).mono (R' := fun e w'' => e = .returned (.string (bx (Pn.join ((Pn.names s).take m)))) ∧ w'.drewN n = w'') (fun _ _ ⟨h1, h2⟩ => ⟨h1, h2.symm⟩))
      have HG := Lib.hid (fun (w' : World) v (h : Ss w' v (Pn.names s)) => show ∃ b off c, v = .slice (some ⟨b, off, none⟩) (m + 1) c ∧ m + 1 ≤ c ∧ b < w'.heap.size ∧ w'.cell? ⟨b, off + m, none⟩ = some (.string (bx ((Pn.names s)[m]'hlt))) by
        obtain ⟨a, c, e, h1, h2⟩ := h
        obtain ⟨b, off, rfl, hbl, hcell⟩ := h2 h0
        exact ⟨b, off, c, by rw [e, hm], by omega, hbl, hcell m hlt⟩)
      rw [hq]
      rw [hm] at HT
      generalize Pn.names s = L at *
      generalize bx s = S at HC
      obtain ⟨X, hX⟩ : ∃ X, X = bx (Pn.join (L.take m)) := ⟨_, rfl⟩
      obtain ⟨Y, hY⟩ : ∃ Y, Y = bx (L[m]'hlt) := ⟨_, rfl⟩
      dsimp only
      rw [← hX] at HT ⊢
      rw [← hY] at HG ⊢
      have hw : IntKind.i64.wrap (((m : Int) + 1) - 1) = (m : Int) := by rw [IntWalk.i64_in _ (by omega)]; omega
      have hw' : IntKind.i64.wrap (m : Int) = (m : Int) := IntWalk.i64_in _ (by omega)
      clear hq hpt hX hY hp h0 hm h8 hall htl
      go_enter Try.func24, Try.ntmps24
      go_wp2_with fail
      refine HC.out.mono ?_
      rintro e w1 ⟨v, rfl, ho, hb⟩
      have HB := Lib.hid hb
      obtain ⟨b, off, c, rfl, hcm, hbl, hcell⟩ := HG.out _ _ ho.ss
      have HTX := Lib.hid (HT.out w1 _ _ (by simpa using ho.ss))
      clear hb ho HG HT HC
      simp only [ec]
      have hi1 : (m : Int) < (m : Int) + 1 := by omega
      have hi0 : (0 : Int) ≤ (m : Int) := by omega
      have hi2 : (m : Int) ≤ (c : Int) := by omega
      go_wp2_with fail
      go_quiet ((go_at_call 35; exact quiet_left (HTX.out _)))
      go_wp2_with fail
      refine bodyPost_ret (v := _) (results_tmp3 rfl _ _ _) rfl ?_
      exact ⟨rfl, below_drewN HB.out _⟩
end Go.Proofs.Ytghoajhfndnafaa
