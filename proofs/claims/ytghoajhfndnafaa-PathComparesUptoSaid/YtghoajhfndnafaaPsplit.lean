/- path.Split. -/
import Derived.Test.YtghoajhfndnafaaPapp
import Derived.Test.YtghoajhfndnafaaProun

namespace Go.Proofs.Ytghoajhfndnafaa
set_option maxRecDepth 100000
open Go.RowKit Go.Shelf

attribute [local go_sem] Oper.semAt_some

theorem pieces_len (s : Tx) : (Pn.pieces s).length ≤ s.length + 1 := by
  induction s with
  | nil => simp [Pn.pieces]
  | cons c cs ih =>
    by_cases h : c = 47
    · subst h
      have e : Pn.pieces (47 :: cs) = [] :: Pn.pieces cs := by simp [Pn.pieces]
      rw [e]; simp; omega
    · obtain ⟨p, ps, e1, e2⟩ := Pn.pieces_cons c cs h
      rw [e2]
      rw [e1] at ih
      simp at ih ⊢
      omega
theorem names_len (s : Tx) : (Pn.names s).length ≤ s.length + 1 := by
  unfold Pn.names
  split
  · simp
  · exact pieces_len s
theorem pieces_each (s : Tx) : ∀ x ∈ Pn.pieces s, x.length ≤ s.length := by
  induction s with
  | nil => intro x hx; simp [Pn.pieces] at hx; subst hx; simp
  | cons c cs ih =>
    by_cases h : c = 47
    · subst h
      have e : Pn.pieces (47 :: cs) = [] :: Pn.pieces cs := by simp [Pn.pieces]
      rw [e]
      intro x hx
      rcases List.mem_cons.1 hx with rfl | hx
      · simp
      · have := ih x hx; simp; omega
    · obtain ⟨p, ps, e1, e2⟩ := Pn.pieces_cons c cs h
      rw [e2]
      rw [e1] at ih
      intro x hx
      rcases List.mem_cons.1 hx with rfl | hx
      · have := ih p (by simp); simp; omega
      · have := ih x (by simp [hx]); simp; omega

theorem split_fst {s : Tx} : (Pn.split s).1 = if Pn.path (Pn.names s) then Pn.names s else [] := by
  unfold Pn.split
  split <;> rfl

/-- A text of at most so many bytes. -/
abbrev Tn (n : Nat) := { x : Tx // x.length ≤ n }

theorem pieces_made (n : Nat) (hn : 3 ≤ n) (Bs m : Nat) (s : Tx) (hs : s.length ≤ 9223372036854775807) (hm : ∀ x ∈ Pn.names s, x.length ≤ m) (w : World) (hB : Has w Bs (.cells #[.string (bx s)] 9 (0, 0))) :
    SeqMade Fence.wide n Try.prog 41 #[.pointer (some ⟨Bs, 0, none⟩)] (fun x : Tn m => #[.string (bx x.1)]) (fun ys => ys.map Subtype.val = Pn.names s) (Pn.names s).length w := by
  intro l J W hW hJ hY h0
  refine (pieces1_in n hn l Bs (Pn.names s).length s hs (fun pre W => ∃ pre' : List (Tn m), pre'.map Subtype.val = pre ∧ J pre' W) W (Nat.le_refl _) (hB.later hW) ?_ ?_ ⟨[], rfl, h0⟩).mono ?_
  · rintro a A B ⟨pre, e, h⟩ hlo
    exact ⟨pre, e, hJ _ _ _ h hlo⟩
  · rintro pre x W1 hx ⟨pre', rfl, hj⟩ hlen hsz
    rw [List.length_map] at hlen
    obtain ⟨fn, tmps, assign, body, hy, hR⟩ := hY pre' ⟨x, hm x hx⟩ W1 hj hlen hsz
    refine ⟨fn, tmps, assign, body, hy, hR.mono ?_⟩
    rintro e W' ⟨he, h2, h3⟩
    exact ⟨he, ⟨_, by simp, h2⟩, h3⟩
  · rintro e W' ⟨h1, ys, rfl, ys', e2, hj⟩
    exact ⟨h1, ys', e2, hj⟩

set_option maxRecDepth 100000 in
set_option maxHeartbeats 4000000 in
theorem split_in (n : Nat) (hn : 5 ≤ n) (s : Tx) (w : World) (hs : s.length ≤ 120) :
    CallsIn Fence.wide n Try.prog 13 #[.string (bx s)] w fun e w' => ∃ v, e = .returned (.tuple #[v, .int .i64 (ec (Pn.path (Pn.names s)))]) ∧ Ot w' w.heap.size v (Pn.split s).1 ∧ Below w.heap.size w w' := by
  have h1 : 1 ≤ n := by omega
  have HP := fun w1 => Lib.hid (pieces_in (n - 1) s w1)
  have hz := bx_size s
  have q1 : ((120 : Int) < (s.length : Int)) = False := by simp; omega
  obtain ⟨S, hS⟩ : ∃ S, S = bx s := ⟨_, rfl⟩
  have HS := Lib.hid hS
  rw [← hS] at HP hz ⊢
  clear hS
  refine callsIn_of_wp_marks Try.func13 rfl trivial ?_ rfl
  simp only [Try.ntmps13, List.size_toArray, List.length_cons, List.length_nil, Nat.reduceAdd, Nat.reduceSub, Array.replicate_succ, Array.replicate_zero, List.push_toArray, List.append_toArray, List.nil_append, List.cons_append]
  gi_wp2_with (refine ⟨trivial, ?_⟩; gi_at_call 30; refine (HP _).out.mono ?_; rintro e w' ⟨rfl, rfl⟩)
  obtain ⟨w1, hw1⟩ : ∃ w1, w1 = (w.alloc (.cells #[.slice none 0 0] 22)).alloc (.cells #[.string S] 9) := ⟨_, rfl⟩
  have hz1 : w1.heap.size = w.heap.size + 2 := by rw [hw1]; simp
  have bC : Has w1 w.heap.size (.cells #[.slice none 0 0] 22 (0, 0)) := by rw [hw1]; exact (Has.new w _).alloc _
  have bN : Has w1 (w.heap.size + 1) (.cells #[.string S] 9 (0, 0)) := by
    have := Has.new (w.alloc (.cells #[.slice none 0 0] 22)) (.cells #[.string S] 9)
    rw [World.size_alloc] at this
    rw [hw1]; exact this
  have hB1 : Below w.heap.size w w1 := by rw [hw1]; exact below2 w _ _
  rw [← hw1]
  clear hw1
  obtain ⟨sl, hsl⟩ : ∃ sl : Int, sl = (s.length : Int) := ⟨_, rfl⟩
  rw [← hsl]
  have hnm : ∀ x ∈ Pn.names s, x.length ≤ 120 := by
    intro x hx
    unfold Pn.names at hx
    split at hx
    · simp at hx
    · exact Nat.le_trans (pieces_each s x hx) hs
  have hnl := names_len s
  have HSEQ := Lib.hid (pieces_made (n - 1) (by omega) (w.heap.size + 1) 120 s (by omega) hnm w1 (by rw [← HS.out]; exact bN))
  have HNL : Hid ((Pn.names s).length ≤ 1000) := by show _ ≤ _; omega
  clear hnm hnl hsl
  refine range_made rfl h1 (gf := 41) (lb := #[.pointer (some ⟨w.heap.size + 1, 0, none⟩)]) rfl trivial (enters_of Try.func41 (by kernel_rfl) rfl) HSEQ.out (fun _ => rfl)
    (fun (pre : List (Tn 120)) W => (∃ v, Has W w.heap.size (.cells #[v] 22 (0, 0)) ∧ Ot W (w1.heap.size + 4) v (pre.map Subtype.val)) ∧ Below w.heap.size w W)
    (fun pre A B hs hlo => ⟨by obtain ⟨v, g1, g2⟩ := hs.1; exact ⟨v, hlo.has g1 (Or.inl (by omega)), hlo.own g2 (Nat.le_refl _)⟩, hlo.below hs.2 (by omega) hs.2.size⟩)
    ⟨⟨_, bC, Ot.nil _ _⟩, hB1⟩
    (fun x => { tmps := #[.string S, undef, .slice none 0 0, .int .i64 0, .pointer (some ⟨w.heap.size, 0, none⟩), .string (bx x.1), .string S, .int .i64 sl, .bool false, .string S, .func (.func 41) #[] #[.pointer (some ⟨w.heap.size + 1, 0, none⟩)], .string (bx x.1), undef, undef, undef, undef, undef, undef, undef, undef, undef], defers := [] }) ?assign ?body ?done
  case assign =>
    intro l x W K hK
    generalize bx x.1 = X at hK ⊢
    gi_wp2
    exact hK
  case body =>
    rintro l pre x W ⟨⟨v, hv, ho⟩, hB⟩ hlt hsz
    have hvd : Has W.drew w.heap.size (.cells #[v] 22 (0, 0)) := hv.later (Below.refl _ W).drew
    have hod : Ot W.drew (w1.heap.size + 4) v (pre.map Subtype.val) := ho.later (Below.refl _ W).drew
    have hc := hvd.one.1
    have hcl := hvd.lt
    have hpl : pre.length ≤ 1000 := Nat.le_of_lt (Nat.lt_of_lt_of_le hlt HNL.out)
    have HCL := Lib.hid (clone_any x.1 W.drew (by have := x.2; omega))
    have HM := Lib.hid (fun w2 hb2 => os_more hvd hod (by omega) hsz (by rw [List.length_map]; omega) w2 hb2 x.1)
    have HE : Hid (∀ (a : Act) W3, More W.drew W3 w.heap.size (w1.heap.size + 4) (pre.map Subtype.val ++ [x.1]) → MadePost w1.heap.size (fun (pre : List (Tn 120)) W => (∃ v, Has W w.heap.size (.cells #[v] 22 (0, 0)) ∧ Ot W (w1.heap.size + 4) v (pre.map Subtype.val)) ∧ Below w.heap.size w W) (pre ++ [x]) W .normal a W3) := by
      rintro a W3 hm
      refine ⟨rfl, ⟨by rw [List.map_append]; exact hm.row, hm.below _ _ (Nat.le_refl _) hB.drew⟩, hm.size, fun k k1 k2 => hm.block k (by omega) (by omega)⟩
    generalize pre.map Subtype.val = q at HM HE
    obtain ⟨X, hX⟩ : ∃ X, X = bx x.1 := ⟨_, rfl⟩
    rw [← hX] at HCL HM ⊢
    have hmx : Try.prog.follows .mixedOrders = true := by kernel_rfl
    have hd1 : 1 ≤ n - 1 - 1 := by omega
    clear hvd hod hv ho hX hpl hlt HS HSEQ HP q1 bC bN hz hs hB hB1
    gi_wp2
    refine wpIn_region_any hmx ?_
    change wpAnyIn _ _ _ _ _ _ _ _ _ (World.drew _)
    refine wpAny_round l (by kernel_rfl) _ _ _ _ ?_
    refine wpAnyIn_take (i := 1) (v := ?_) rfl rfl (by kernel_rfl) (by kernel_rfl) (by kernel_rfl) (fun _ _ _ h => h) ⟨Or.inl ⟨by rfl, ?hy1_1⟩, fun _ => rfl⟩ ?_
    case hy1_1 => intro w; go_simp; first | done | rfl
    refine wpAnyIn_ready (rs := [0, 2]) (by kernel_rfl) (by simp) ?_
    refine AllReadyIn.cons rfl (fun K hK => ?_) (AllReadyIn.cons rfl (fun K hK => ?_) AllReadyIn.nil)
    · go_simp
      refine hK _ _ ?_
      clear hK K
      refine wpAnyIn_ready (rs := [2]) (by kernel_rfl) (by simp) ?_
      refine AllReadyIn.cons rfl (fun K hK => ?_) AllReadyIn.nil
      go_simp
      refine ⟨trivial, ?_⟩
      refine (callsIn_wide.2 HCL.out).mono ?_
      rintro e w2 ⟨rfl, hb2⟩
      obtain ⟨g3, c3, w3, hrun, hc3, hf3, hfin⟩ := HM.out w2 hb2
      have hc2 : w2.cell? ⟨w.heap.size, 0, none⟩ = some v := (hb2.cell (p := ⟨w.heap.size, 0, none⟩) hcl).trans hc
      have hc2b : (w2.alloc (.cells #[.string X] 9)).cell? ⟨w.heap.size, 0, none⟩ = some v := ((below1 w2 _).cell (p := ⟨w.heap.size, 0, none⟩) (Nat.lt_of_lt_of_le hcl hb2.size)).trans hc2
      dsimp only
      refine hK _ _ ?_
      clear hK K
      refine wpAnyIn_ready (rs := [3]) (by kernel_rfl) (by simp) ?_
      refine AllReadyIn.cons rfl (fun K hK => ?_) AllReadyIn.nil
      go_simp
      refine hK _ _ ?_
      clear hK K
      refine wpAnyIn_ready (rs := [4]) (by kernel_rfl) (by simp) ?_
      refine AllReadyIn.cons rfl (fun K hK => ?_) AllReadyIn.nil
      refine step_append_in rfl (.tmp 12) (.tmp 15) 22 rfl _ _ _ w3 rfl rfl hrun ?_
      refine hK _ _ ?_
      clear hK K
      refine wpAnyIn_ready (rs := [5]) (by kernel_rfl) (by simp) ?_
      refine AllReadyIn.cons rfl (fun K hK => ?_) AllReadyIn.nil
      go_simp
      refine hK _ _ ?_
      clear hK K
      refine wpAnyIn_done (by kernel_rfl) ?_ _
      exact HE.out { tmps := #[], defers := [] } _ hfin.out
    · go_simp
      refine ⟨trivial, ?_⟩
      refine (callsIn_wide.2 HCL.out).mono ?_
      rintro e w2 ⟨rfl, hb2⟩
      obtain ⟨g3, c3, w3, hrun, hc3, hf3, hfin⟩ := HM.out w2 hb2
      have hc2 : w2.cell? ⟨w.heap.size, 0, none⟩ = some v := (hb2.cell (p := ⟨w.heap.size, 0, none⟩) hcl).trans hc
      have hc2b : (w2.alloc (.cells #[.string X] 9)).cell? ⟨w.heap.size, 0, none⟩ = some v := ((below1 w2 _).cell (p := ⟨w.heap.size, 0, none⟩) (Nat.lt_of_lt_of_le hcl hb2.size)).trans hc2
      dsimp only
      refine hK _ _ ?_
      clear hK K
      refine wpAnyIn_ready (rs := [0, 3]) (by kernel_rfl) (by simp) ?_
      refine AllReadyIn.cons rfl (fun K hK => ?_) (AllReadyIn.cons rfl (fun K hK => ?_) AllReadyIn.nil)
      · go_simp
        refine hK _ _ ?_
        clear hK K
        refine wpAnyIn_ready (rs := [3]) (by kernel_rfl) (by simp) ?_
        refine AllReadyIn.cons rfl (fun K hK => ?_) AllReadyIn.nil
        go_simp
        refine hK _ _ ?_
        clear hK K
        refine wpAnyIn_ready (rs := [4]) (by kernel_rfl) (by simp) ?_
        refine AllReadyIn.cons rfl (fun K hK => ?_) AllReadyIn.nil
        refine step_append_in rfl (.tmp 12) (.tmp 15) 22 rfl _ _ _ w3 rfl rfl hrun ?_
        refine hK _ _ ?_
        clear hK K
        refine wpAnyIn_ready (rs := [5]) (by kernel_rfl) (by simp) ?_
        refine AllReadyIn.cons rfl (fun K hK => ?_) AllReadyIn.nil
        go_simp
        refine hK _ _ ?_
        clear hK K
        refine wpAnyIn_done (by kernel_rfl) ?_ _
        exact HE.out { tmps := #[], defers := [] } _ hfin.out
      · go_simp
        refine hK _ _ ?_
        clear hK K
        refine wpAnyIn_ready (rs := [0]) (by kernel_rfl) (by simp) ?_
        refine AllReadyIn.cons rfl (fun K hK => ?_) AllReadyIn.nil
        go_simp
        refine hK _ _ ?_
        clear hK K
        refine wpAnyIn_ready (rs := [4]) (by kernel_rfl) (by simp) ?_
        refine AllReadyIn.cons rfl (fun K hK => ?_) AllReadyIn.nil
        refine step_append_in rfl (.tmp 12) (.tmp 15) 22 rfl _ _ _ w3 rfl rfl hrun ?_
        refine hK _ _ ?_
        clear hK K
        refine wpAnyIn_ready (rs := [5]) (by kernel_rfl) (by simp) ?_
        refine AllReadyIn.cons rfl (fun K hK => ?_) AllReadyIn.nil
        go_simp
        refine hK _ _ ?_
        clear hK K
        refine wpAnyIn_done (by kernel_rfl) ?_ _
        exact HE.out { tmps := #[], defers := [] } _ hfin.out
  case done =>
    rintro D ys W hD hys ⟨⟨v, hv, ho⟩, hB⟩ hK
    have HD : Hid (D = w.heap.size + 2) := hD.trans hz1
    clear hD
    have hcl := hv.one.1
    have hle : (ys.map Subtype.val).length ≤ 1000000 := by rw [hys]; have := HNL.out; omega
    have HV := Lib.hid hv
    have HO := Lib.hid ho
    have HBW := Lib.hid hB
    have HM := fun W' (hw : Below W.heap.size W W') => Lib.hid (may_any v _ W' (ho.ss.later hw) hle)
    rw [hys] at HM HO
    have HM0 := HM W (Below.refl _ _)
    clear HM hv ho hB hle HSEQ HP bC bN hB1 HS hs hz q1
    gi_wp2_with (refine ⟨trivial, ?_⟩; gi_at_call 32; refine (callsIn_wide.2 HM0.out).mono ?_; rintro e w5 ⟨rfl, hb5⟩; have HB5 := Lib.hid hb5; have hcl5 : w5.cell? ⟨w.heap.size, 0, none⟩ = some v := (hb5.cell (p := ⟨w.heap.size, 0, none⟩) HV.out.lt).trans hcl; have hK5 : w5.heap[D]? = some (.deferred (some [])) := (hb5.block D (Array.getElem?_eq_some_iff.1 hK).1).trans hK; clear hb5)
    · have hq : Pn.path (Pn.names s) = false := by
        have h : (!Pn.path (Pn.names s)) = true := by assumption
        simpa using h
      refine ⟨by simp, .inl ⟨_, _, rfl, run_takeDeferred hK5, ?_⟩⟩
      refine ⟨_, results_tmp2 rfl _ _ _, _, by rw [hq]; rfl, ?_, ?_⟩
      · simp only [Pn.split, hq]; exact Ot.nil _ _
      · exact HBW.out.trans ((HB5.out.mono HBW.out.size).trans (belowK_b (w := w) (Nat.le_refl _) w5 D _ _ (by rw [HD.out]; omega) hK5 rfl rfl))
    · have hq : Pn.path (Pn.names s) = true := by
        have h : (!Pn.path (Pn.names s)) = false := by assumption
        simpa using h
      refine ⟨by simp, .inl ⟨_, _, rfl, run_takeDeferred hK5, ?_⟩⟩
      refine ⟨_, results_tmp2 rfl _ _ _, _, by rw [hq]; rfl, ?_, ?_⟩
      · simp only [Pn.split, hq]
        exact ((Lo.putObj w5 D _).os' (HO.out.later HB5.out) (by rw [HD.out, hz1]; omega)).le (by omega)
      · exact HBW.out.trans ((HB5.out.mono HBW.out.size).trans (belowK_b (w := w) (Nat.le_refl _) w5 D _ _ (by rw [HD.out]; omega) hK5 rfl rfl))

theorem split_any (s : Tx) (w : World) :
    Calls Try.prog 13 #[.string (bx s)] w fun e w' => ∃ v, e = .returned (.tuple #[v, .int .i64 (ec (Pn.path (Pn.names s)))]) ∧ Ot w' w.heap.size v (Pn.split s).1 ∧ Below w.heap.size w w' := by
  by_cases hs : s.length ≤ 120
  · exact callsIn_wide.1 (split_in 5 (Nat.le_refl _) s w hs)
  · have hz := bx_size s
    have hq : Pn.path (Pn.names s) = false := by
      simp only [Pn.path]
      rw [Pn.join_names]
      simp
      omega
    have HE : Hid (Ot w w.heap.size (.slice none 0 0) (Pn.split s).1) := by show Ot _ _ _ _; simp only [Pn.split, hq]; exact Ot.nil _ _
    have q1 : ((120 : Int) < (s.length : Int)) = True := by simp; omega
    rw [hq]
    generalize (Pn.split s).1 = L at HE
    generalize bx s = S at hz
    clear hs hq
    go_enter Try.func13, Try.ntmps13
    go_wp2_with fail
    go_ret2
    exact ⟨_, rfl, HE.out, Below.refl _ _⟩
end Go.Proofs.Ytghoajhfndnafaa
