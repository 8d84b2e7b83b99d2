/- The statement PathJoins. It holds for every input, without a condition. -/
import Derived.Test.YtghoajhfndnafaaParg
import Derived.Test.YtghoajhfndnafaaRjoin
import Derived.Test.YtghoajhfndnafaaAppm

namespace Go.Proofs.Ytghoajhfndnafaa
set_option maxRecDepth 100000
open Go.ChangeShapes Go.WideShapes Go.ChangeAt Go.RowKit

/-- The law's own copy of a list: its run. -/
theorem copy_run (v : Value) (l : List Tx) (w : World) (h : Ss w v l) (hn : ∀ n c, v = .slice none n c → c = 0) (hl : l.length ≤ 1000) :
    ∃ g c w', (Builtin.append_ #[22, 22] 22 #[.slice (some ⟨w.heap.size, 0, none⟩) 0 0, v]).run Try.prog (w.alloc (.cells #[] 9)) = .ok (.slice (some ⟨g, 0, none⟩) l.length c) w' ∧ Ss w' (.slice (some ⟨g, 0, none⟩) l.length c) l ∧ Hid (Below w.heap.size w w') := by
  obtain ⟨i0, hi, hz0, hz1, hz2⟩ := info_parts Try.infoStr
  have hb1 := below1 w (.cells #[] 9)
  have hown := World.ownsRow_lit (base := w.heap.size) (e := 9) (size := 1) w #[] 0 (Nat.le_refl _) (by unfold maxLen; omega) rfl
  have h2 := h.later hb1
  obtain ⟨a, c0, rfl, hc, hcell⟩ := h2
  obtain ⟨g, c, w', hrun, ho, hg⟩ := run_append_mine (P := Try.prog) (w := w.alloc (.cells #[] 9)) w.heap.size 22 22 9 i0 _ 1 16 Try.underlying22 hi hz0 hz1 hz2 rfl (by decide)
    w.heap.size 0 0 [] hown a l.length c0 (vs l) (by rw [vs_length]; omega)
    (fun ha => by
      subst ha
      refine ⟨?_, hn _ _ rfl⟩
      rcases Nat.eq_zero_or_pos l.length with h0 | h0
      · exact h0
      · obtain ⟨b, off, e, _⟩ := hcell (by rintro rfl; simp at h0)
        cases e)
    (fun h0 => by
      obtain ⟨b, off, rfl, hlt, hcl⟩ := hcell (by rintro rfl; simp at h0)
      refine ⟨_, rfl, fun j u hj => ?_⟩
      have hjl : j < l.length := by
        have := (List.getElem?_eq_some_iff.1 hj).1
        rwa [vs_length] at this
      have e : (⟨b, off, none⟩ : Addr).add j = ⟨b, off + j, none⟩ := by cases j <;> simp [Addr.add]
      rw [e, hcl j hjl, ← hj, vs_get l j hjl])
    (vs_one l) (by unfold maxLen; omega) (by omega) (by simp)
  rw [Nat.zero_add] at hrun ho
  rw [List.nil_append] at ho
  have hot : Ot w' w.heap.size (.slice (some ⟨g, 0, none⟩) l.length c) l := ho
  refine ⟨g, c, w', hrun, hot.ss, ?_⟩
  refine ⟨hg.os, hg.tape, hg.output, by have := hg.size; simp at this; omega, fun k hk => ?_⟩
  rw [hg.block k (by simp; omega) (fun e => by cases e; omega), Below.heap_alloc _ _ _ (by omega)]

set_option maxRecDepth 100000 in
set_option maxHeartbeats 4000000 in
theorem pathJoins_walk (v : Value) (l : List Tx) (w : World) (hl : Ss w v l) (hn : ∀ n c, v = .slice none n c → c = 0) :
    Calls Try.prog 4 #[v] w fun e w' => e = .returned (.bool true) ∧ Below w.heap.size w w' := by
  have LV := Lib.hid lives_any
  by_cases h40 : 40 < l.length
  · obtain ⟨a, c, rfl, -⟩ := hl
    have i40 : decide ((l.length : Int) > 40) = true := by simp; omega
    clear hn h40
    generalize l.length = n at *
    go_enter Try.func4, Try.ntmps4
    go_wp2_with fail
    refine (LV.out _).mono ?_
    rintro e w3 ⟨rfl, b3⟩
    go_wp2_with fail
    go_ret
    exact ⟨rfl, b3⟩
  · have i40 : decide ((l.length : Int) > 40) = false := by simp; omega
    obtain ⟨g, cc, w1, hrun, hss, hb⟩ := copy_run v l w hl hn (by omega)
    have C1 := Lib.hid (join_any _ l w1 hss (by omega))
    have C2 := Lib.hid (fun w2 (hb2 : Below w.heap.size w w2) => rjoin_any v l w2 (hl.later hb2))
    have tp := bx_toList (Pn.joined l).1
    generalize (Pn.joined l).1 = p at *
    generalize bx p = P at *
    generalize ec (Pn.path l) = x at *
    have e1 : (p == p) = true := by simp
    have e2 : (x == x) = true := by simp
    obtain ⟨a, c, rfl, -⟩ := hl
    have HB := hb
    clear hn h40 hss hb
    generalize l.length = n at *
    go_enter Try.func4, Try.ntmps4
    go_wp2_with (at_builtin; refine wpList_append_known rfl (.tmp 12) (.tmp 13) 22 rfl _ _ _ w1 rfl rfl hrun ?_)
    refine C1.out.mono ?_
    rintro e w2 ⟨rfl, b2⟩
    have B2 := Lib.hid (HB.out.trans (b2.mono HB.out.size))
    clear b2
    go_wp2_with fail
    refine (C2.out _ B2.out).mono ?_
    rintro e w3 ⟨rfl, rfl⟩
    go_wp2_with fail
    refine (LV.out _).mono ?_
    rintro e w4 ⟨rfl, b4⟩
    go_wp2_with fail
    go_ret
    exact ⟨rfl, B2.out.trans (b4.mono B2.out.size)⟩

set_option maxRecDepth 100000 in
theorem pathJoins_lifted (os : Os) (started : os.Started) (H : Type) (enc : TypeId × Value → H) :
    ReturnsInHanded {} Try.checked os 4 .any (Rows.pathJoinsSpec.pre6 enc Try.prog Try.f4 Rows.pathJoinsRow.domain false) (Rows.pathJoinsSpec.post enc Try.prog Try.f4 false true false false) := by
  refine returnsInHanded_of_change_sized (C := Try.checked) Try.own started (by kernel_rfl) Try.func4
    (ChangeSpec.witness6 (enc := enc) (C := Try.checked) false ⟨#[], #[.slice none 0 0], []⟩ 8 (by kernel_rfl) (by kernel_rfl) (by kernel_rfl) (by kernel_rfl)) ?_
  intro W base args ds gs before hval0 hW _ hsz0 _
  have hval : ∀ (j : Nat) t v, Try.f4.params[j]? = some t → args[j]? = some v → Value.okWide Try.prog W .any base t v := hval0
  have hsz : (DataW.weightsEach Try.prog (Try.f4.params.toList ++ Rows.pathJoinsSpec.plain.varTypes Try.prog) (ds ++ gs)).all (· ≤ reachBytes) = true := hsz0
  have hW' := hW
  obtain ⟨p, q, hA0, hV, rfl, hfz, hnd⟩ := hW
  have hA : DataW.TrodAll enc Try.prog W 0 (fun _ => true) true Try.f4.params.toList args.toList ds p := hA0
  rw [Try.params4] at hA hval hsz
  obtain ⟨v0, vs0, d0, ds0, p0, q0, hargs, rfl, rfl, h0, r0⟩ := trodAll_cons hA
  obtain ⟨rfl, rfl, rfl⟩ := trodAll_nil r0
  obtain rfl : args = #[v0] := by cases args; simp_all
  obtain ⟨rfl, rfl⟩ := trodVars_none hV
  have k0 := h0
  have lt0 : ∀ x ∈ p0, x.block < W.heap.size := by obtain ⟨m, hm⟩ := k0; exact DataW.trod_lt m _ _ _ hm
  obtain ⟨l0, sl0, sn0⟩ := ss_open2 (hval 0 22 v0 rfl rfl) h0
  clear hA0 hval0 hsz0
  refine (pathJoins_walk v0 l0 W sl0 sn0).mono fun e W' ⟨he, bel⟩ => ?_
  subst he
  exact ⟨_, rfl, _, _, _, [], _, [], hW', trodAll_mk1 (shut_bool Try.underlying4 _), (trodAll_cons_mk (Below.trod Try.laidOut (by kernel_rfl) (of_decide_eq_true (by kernel_rfl)) k0 bel lt0) trodAll_mk0), rfl, bel.frame _, fun h => by cases h⟩

theorem pathJoins_proved : Rows.PathJoinsSaid :=
  OpenClaim.holds_of_wide 4 Try.f4 rfl rfl rfl rfl rfl rfl rfl ⟨rfl, rfl, rfl, rfl, rfl⟩ rfl rfl rfl rfl rfl (by kernel_rfl) Try.func4 (by kernel_rfl)
    (of_decide_eq_true (by kernel_rfl)) (by unfold Func.isWrapper; rw [if_neg (of_decide_eq_false (by kernel_rfl))]; exact ⟨rfl, rfl⟩)
    (fun os started H enc _ => pathJoins_lifted os started H enc)
end Go.Proofs.Ytghoajhfndnafaa
