/- path.Parent and path.Under. -/
import Derived.Test.YtghoajhfndnafaaPclean
import Derived.OwnWalk

namespace Go.Proofs.Ytghoajhfndnafaa
set_option maxRecDepth 100000
open Go.RowKit

set_option maxRecDepth 100000 in
set_option maxHeartbeats 4000000 in
theorem parent_any (s : Tx) (w : World) :
    Calls Try.prog 23 #[.string (bx s)] w fun e w' => e = .returned (.tuple #[.string (bx (Pn.parent s).1), .string (bx (Pn.parent s).2.1), .int .i64 ((Pn.parent s).2.2 : Int)]) ∧ Below w.heap.size w w' := by
  have HC := Lib.hid (split_any s w)
  cases hp : Pn.path (Pn.names s) with
  | false =>
    have hq : Pn.parent s = ([], [], 8) := by unfold Pn.parent; rw [hp]; rfl
    rw [hq]
    rw [hp] at HC
    generalize (Pn.split s).1 = L at HC
    generalize bx s = S at HC
    clear hp hq
    go_enter Try.func23, Try.ntmps23
    go_wp2_with (go_at_call 13; refine HC.out.mono ?_; rintro e w' ⟨v, rfl, ho, hb⟩; have HB := Lib.hid hb; clear hb ho)
    refine bodyPost_ret (v := _) (results_tmp3 rfl _ _ _) rfl ?_
    exact ⟨rfl, HB.out⟩
  | true =>
    rw [split_fst, hp, if_pos rfl] at HC
    by_cases h0 : Pn.names s = []
    · have hq : Pn.parent s = ([], [], 9) := by unfold Pn.parent; rw [hp, h0]; rfl
      rw [hq]
      rw [h0] at HC
      generalize bx s = S at HC
      clear hp hq h0
      go_enter Try.func23, Try.ntmps23
      go_wp2_with (go_at_call 13; refine HC.out.mono ?_; rintro e w' ⟨v, rfl, ho, hb⟩; have HB := Lib.hid hb; obtain ⟨a0, c0, rfl, _⟩ := ho.ss; clear hb ho; simp only [ec])
      refine bodyPost_ret (v := _) (results_tmp3 rfl _ _ _) rfl ?_
      exact ⟨rfl, HB.out⟩
    · obtain ⟨m, hm⟩ : ∃ m, (Pn.names s).length = m + 1 := ⟨(Pn.names s).length - 1, by have := List.length_pos_iff.2 h0; omega⟩
      have hlt : m < (Pn.names s).length := by omega
      have h8 := Pn.path_len hp
      have hq : Pn.parent s = (Pn.join ((Pn.names s).take m), (Pn.names s)[m]'hlt, 0) := by
        unfold Pn.parent
        rw [hp, if_pos rfl, if_neg h0, List.dropLast_eq_take, List.getLast?_eq_getElem?, hm, Nat.add_sub_cancel, List.getElem?_eq_getElem hlt]
        rfl
      have hpt := Pn.path_take hp m
      have hj : (Pn.joined ((Pn.names s).take m)).1 = Pn.join ((Pn.names s).take m) := by unfold Pn.joined; rw [hpt]; rfl
      have HJ := Lib.hid (fun v w' (h : Ss w' v ((Pn.names s).take m)) => join_any v _ w' h (by simp; omega))
      rw [hj, hpt] at HJ
      have HT := Lib.hid (fun (w' : World) a c (h : Ss w' (.slice a (Pn.names s).length c) (Pn.names s)) => h.take m (by omega))
      have HG := Lib.hid (fun (w' : World) v (h : Ss w' v (Pn.names s)) => show ∃ b off c, v = .slice (some ⟨b, off, none⟩) (m + 1) c ∧ m + 1 ≤ c ∧ b < w'.heap.size ∧ w'.cell? ⟨b, off + m, none⟩ = some (.string (bx ((Pn.names s)[m]'hlt))) by
        obtain ⟨a, c, e, h1, h2⟩ := h
        obtain ⟨b, off, rfl, hbl, hcell⟩ := h2 h0
        exact ⟨b, off, c, by rw [e, hm], by omega, hbl, hcell m hlt⟩)
      rw [hq]
      rw [hm] at HT
      generalize Pn.names s = L at *
      generalize bx s = S at HC
      obtain ⟨X, hX⟩ : ∃ X, X = bx (Pn.join (L.take m)) := ⟨_, rfl⟩
      obtain ⟨Y, hY⟩ : ∃ Y, Y = bx (L[m]'hlt) := ⟨_, rfl⟩
      dsimp only
      rw [← hX] at HJ ⊢
      rw [← hY] at HG ⊢
      have hw : IntKind.i64.wrap (((m : Int) + 1) - 1) = (m : Int) := by rw [IntWalk.i64_in _ (by omega)]; omega
      have hw' : IntKind.i64.wrap (m : Int) = (m : Int) := IntWalk.i64_in _ (by omega)
      clear hq hpt hj hX hY hp h0 hm h8
      go_enter Try.func23, Try.ntmps23
      go_wp2_with (first
        | (go_at_call 13; refine HC.out.mono ?_; rintro e w1 ⟨v, rfl, ho, hb⟩; have HB := Lib.hid hb; obtain ⟨b, off, c, rfl, hcm, hbl, hcell⟩ := HG.out _ _ ho.ss; have HSS := Lib.hid (HT.out _ _ _ (by simpa using ho.ss)); clear hb ho; simp only [ec])
        | (go_at_call 19; refine (HJ.out _ _ HSS.out).mono ?_; rintro e w2 ⟨rfl, hb2⟩; have HB2 := Lib.hid hb2; have hcell2 := (hb2.cell (p := ⟨b, off + m, none⟩) hbl).trans hcell; clear hb2; simp only [ec]))
      have hi1 : (m : Int) < (m : Int) + 1 := by omega
      go_quiet (fail)
      go_wp2_with fail
      refine bodyPost_ret (v := _) (results_tmp3 rfl _ _ _) rfl ?_
      exact ⟨rfl, below_drewN (HB.out.trans (HB2.out.mono HB.out.size)) _⟩

theorem bx_map_inj {a b : List Tx} : a.map bx = b.map bx ↔ a = b := by
  constructor
  · intro h
    have := congrArg (fun l => l.map (·.data.toList)) h
    simpa only [map_bx_list] using this
  · rintro rfl; rfl

/-- slices.Equal at texts. -/
theorem equal_any (v1 v2 : Value) (l1 l2 : List Tx) (w : World) (h1 : Ss w v1 l1) (h2 : Ss w v2 l2) (b1 : l1.length ≤ 1000000) (b2 : l2.length ≤ 1000000) :
    Calls Try.prog 36 #[v1, v2] w fun e w' => e = .returned (.bool (decide (l1 = l2))) ∧ ∃ q, w' = w.drewN q := by
  obtain ⟨a1, c1, rfl, _, k1⟩ := h1
  obtain ⟨a2, c2, rfl, _, k2⟩ := h2
  by_cases hl : l1.length = l2.length
  · by_cases h0 : l1 = []
    · subst h0
      obtain rfl : l2 = [] := List.eq_nil_of_length_eq_zero hl.symm
      exact (Try.slices_Equal_string_empty a1 a2 c1 0 c2 w (by omega)).mono fun e w' ⟨he, hw⟩ => ⟨he, 0, hw⟩
    · have h0' : l2 ≠ [] := by rintro rfl; simp at hl; exact h0 hl
      obtain ⟨g1, o1, rfl, _, d1⟩ := k1 h0
      obtain ⟨g2, o2, rfl, _, d2⟩ := k2 h0'
      have m1 : (l1.map bx).length = l1.length := by simp
      have m2 : (l2.map bx).length = l2.length := by simp
      have key := Try.slices_Equal_string g1 o1 l1.length c1 g2 o2 l2.length c2 (l1.map bx) (l2.map bx) w (by omega) (by omega) (by omega) (by omega)
        (fun j hj => by rw [m1] at hj; rw [d1 j hj]; simp [List.getD, List.getElem?_eq_getElem hj])
        (fun j hj => by rw [m2] at hj; rw [d2 j hj]; simp [List.getD, List.getElem?_eq_getElem hj])
      rw [List.take_of_length_le (by omega), List.take_of_length_le (by omega)] at key
      simpa only [bx_map_inj] using key
  · have hne : decide (l1 = l2) = false := by simp; rintro rfl; exact hl rfl
    rw [hne]
    exact (Try.slices_Equal_string_lens a1 a2 l1.length c1 l2.length c2 w hl).mono fun e w' ⟨he, hw⟩ => ⟨he, 0, hw⟩

set_option maxRecDepth 100000 in
set_option maxHeartbeats 4000000 in
theorem under_any (s d : Tx) (w : World) :
    Calls Try.prog 25 #[.string (bx s), .string (bx d)] w fun e w' => e = .returned (.bool (Pn.under s d)) ∧ Below w.heap.size w w' := by
  have HC := Lib.hid (split_any s w)
  have HD := Lib.hid (fun w1 => split_any d w1)
  rw [split_fst] at HC
  simp only [split_fst] at HD
  generalize bx s = S at HC ⊢
  generalize bx d = D at HD ⊢
  cases hp : Pn.path (Pn.names s) with
  | false =>
    have hq : Pn.under s d = false := by unfold Pn.under; rw [hp]; rfl
    rw [hq]
    rw [hp] at HC
    clear hp hq HD
    go_enter Try.func25, Try.ntmps25
    go_wp2_with (go_at_call 13; refine HC.out.mono ?_; rintro e w' ⟨v, rfl, ho, hb⟩; have HB := Lib.hid hb; clear hb ho)
    go_ret
    exact ⟨rfl, HB.out⟩
  | true =>
    rw [hp, if_pos rfl] at HC
    cases hd : Pn.path (Pn.names d) with
    | false =>
      have hq : Pn.under s d = false := by unfold Pn.under; rw [hd]; simp
      rw [hq]
      rw [hd] at HD
      clear hp hq hd
      go_enter Try.func25, Try.ntmps25
      go_wp2_with (first
        | (go_at_call 13; refine HC.out.mono ?_; rintro e w1 ⟨v, rfl, ho, hb⟩; have HB := Lib.hid hb; clear hb ho HC; simp only [ec])
        | (go_at_call 13; refine (HD.out _).mono ?_; rintro e w2 ⟨v2, rfl, ho2, hb2⟩; have HB2 := Lib.hid hb2; clear hb2 ho2; simp only [ec]))
      go_ret
      exact ⟨rfl, HB.out.trans (HB2.out.mono HB.out.size)⟩
    | true =>
      rw [hd, if_pos rfl] at HD
      have h8 := Pn.path_len hp
      have h9 := Pn.path_len hd
      have hq : Pn.under s d = (decide ((Pn.names d).length ≤ (Pn.names s).length) && decide (Pn.names d = (Pn.names s).take (Pn.names d).length)) := by unfold Pn.under; rw [hp, hd]; rfl
      rw [hq]
      generalize Pn.names s = L at *
      generalize Pn.names d = M at *
      have HT := Lib.hid (fun (w' : World) a c (h : Ss w' (.slice a L.length c) L) (hk : M.length ≤ L.length) => h.take M.length hk)
      have HEQ := Lib.hid (fun v1 v2 w' (h1 : Ss w' v1 M) (h2 : Ss w' v2 (L.take M.length)) => equal_any v1 v2 M _ w' h1 h2 (by omega) (by simp; omega))
      have HQ := Lib.hid (fun v w' (h : Ss w' v L) => (show ∃ a c, v = .slice a L.length c ∧ L.length ≤ c by obtain ⟨a, c, e, h1, _⟩ := h; exact ⟨a, c, e, h1⟩))
      have HQ2 := Lib.hid (fun v w' (h : Ss w' v M) => (show ∃ a c, v = .slice a M.length c by obtain ⟨a, c, e, h1, _⟩ := h; exact ⟨a, c, e⟩))
      generalize decide (M = L.take M.length) = z at *
      clear hp hq hd h8 h9
      by_cases hk : M.length ≤ L.length
      · have hdk : decide (M.length ≤ L.length) = true := by simpa using hk
        rw [hdk]
        have HT2 := Lib.hid (fun w' a c h => HT.out w' a c h hk)
        clear HT hdk
        generalize L.length = m at *
        generalize M.length = k at *
        have i1 : decide ((k : Int) ≤ (m : Int)) = true := by simp; omega
        go_enter Try.func25, Try.ntmps25
        go_wp2_with (first
          | (go_at_call 13; refine HC.out.mono ?_; rintro e w1 ⟨v, rfl, ho, hb⟩; obtain ⟨a1, c1, rfl, hmc⟩ := HQ.out _ _ ho.ss; have HB := Lib.hid hb; have HO := Lib.hid ho; clear hb ho HC HQ; simp only [ec])
          | (go_at_call 13; refine (HD.out _).mono ?_; rintro e w2 ⟨v2, rfl, ho2, hb2⟩; obtain ⟨a2, c2, rfl⟩ := HQ2.out _ _ ho2.ss; have HB2 := Lib.hid hb2; have HO2 := Lib.hid ho2; clear hb2 ho2 HD HQ2; have hkc : (k : Int) ≤ (c1 : Int) := (by omega); simp only [ec])
          | (go_at_call 36; refine (HEQ.out _ _ _ HO2.out.ss (HT2.out _ _ _ (HO.out.ss.later HB2.out))).mono ?_; rintro e w3 ⟨rfl, q, rfl⟩))
        go_ret
        exact ⟨by simp, below_drewN (HB.out.trans (HB2.out.mono HB.out.size)) _⟩
      · have hdk : decide (M.length ≤ L.length) = false := by simpa using hk
        rw [hdk, Bool.false_and]
        clear HT hdk HEQ
        generalize L.length = m at *
        generalize M.length = k at *
        have i1 : decide ((k : Int) ≤ (m : Int)) = false := by simp; omega
        go_enter Try.func25, Try.ntmps25
        go_wp2_with (first
          | (go_at_call 13; refine HC.out.mono ?_; rintro e w1 ⟨v, rfl, ho, hb⟩; obtain ⟨a1, c1, rfl, hmc⟩ := HQ.out _ _ ho.ss; have HB := Lib.hid hb; have HO := Lib.hid ho; clear hb ho HC HQ; simp only [ec])
          | (go_at_call 13; refine (HD.out _).mono ?_; rintro e w2 ⟨v2, rfl, ho2, hb2⟩; obtain ⟨a2, c2, rfl⟩ := HQ2.out _ _ ho2.ss; have HB2 := Lib.hid hb2; have HO2 := Lib.hid ho2; clear hb2 ho2 HD HQ2; simp only [ec]))
        refine bodyPost_ret (v := .bool false) (by rw [results_tmp rfl]; rfl) rfl ?_
        exact ⟨rfl, HB.out.trans (HB2.out.mono HB.out.size)⟩
end Go.Proofs.Ytghoajhfndnafaa
