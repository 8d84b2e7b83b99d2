/- The statement LimitCosts: any lengths cost what the document says, or are refused. It holds for all rows of numbers, without a condition. -/
import Derived.Test.YtedbonnejgpjeaaLarg
namespace Go.Proofs.Ytedbonnejgpjeaa
open Go.ChangeShapes Go.WideShapes Go.ChangeAt Go.RowKit

/-- Both answers on what lengths cost. -/
theorem costs_pair (zs ls : List Int) : ∃ x c : Int, Hid (∀ (s1 s2 : Value) (w : World), Zl w s1 zs → Zl w s2 ls → Calls Try.prog 16 #[s1, s2] w (Two2 w x c)) ∧ Hid (∀ (s1 s2 : Value) (w : World), Zl w s1 zs → Zl w s2 ls → Calls Try.prog 14 #[s1, s2] w (Two2 w x c)) := by
  by_cases hf : Fits zs ls
  · exact ⟨_, _, fun s1 s2 w h1 h2 => cost_ok zs ls s1 s2 w h1 h2 hf, fun s1 s2 w h1 h2 => rcost_ok zs ls s1 s2 w h1 h2 hf⟩
  · exact ⟨_, _, fun s1 s2 w h1 h2 => cost_bad zs ls s1 s2 w h1 h2 hf, fun s1 s2 w h1 h2 => rcost_bad zs ls s1 s2 w h1 h2 hf⟩

set_option maxHeartbeats 2000000 in
theorem limitCosts_walk (s1 : Value) (zs : List Int) (s2 : Value) (ls : List Int) (w : World) (h1 : Zl w s1 zs) (l1 : zs.length ≤ 17592186043904) (h2 : Zl w s2 ls) (l2 : ls.length ≤ 17592186043904) :
    Calls Try.prog 4 #[s1, s2] w fun e w' => e = .returned (.bool true) ∧ Below w.heap.size w w' := by
  obtain ⟨x, c, HP, HR⟩ := costs_pair zs ls
  have Z1 := Lib.hid h1
  have Z2 := Lib.hid h2
  obtain ⟨a1, n1, c1, rfl, r1⟩ := h1
  obtain ⟨a2, n2, c2, rfl, r2⟩ := h2
  clear r1 r2
  obtain ⟨g1, p1, w1, hr1, hc1, hb1⟩ := run_copy zs a1 n1 c1 w Z1.out l1
  obtain ⟨g2, p2, w2, hr2, hc2, hb2⟩ := run_copy ls a2 n2 c2 w1 (Z2.out.later hb1) l2
  have R1 := Lib.hid hr1
  have R2 := Lib.hid hr2
  have C1 := Lib.hid (hc1.later hb2)
  have C2 := Lib.hid hc2
  have B2 := Lib.hid (hb1.trans (hb2.mono hb1.size))
  clear hr1 hr2 hc1 hc2 hb1 hb2 l1 l2
  go_enter Try.func4, Try.ntmps4
  go_wp2_with (at_builtin; first | (refine wpList_append_known rfl (.tmp 10) (.tmp 11) 22 rfl _ _ _ _ rfl rfl R1.out ?_) | (refine wpList_append_known rfl (.tmp 13) (.tmp 14) 22 rfl _ _ _ _ rfl rfl R2.out ?_))
  refine (HP.out _ _ _ C1.out C2.out).mono ?_
  rintro e w3 ⟨rfl, hb⟩
  have B3 := Lib.hid (B2.out.trans (hb.mono B2.out.size))
  clear hb B2 C1 C2 R1 R2
  go_wp2_with fail
  refine (HR.out _ _ _ (Z1.out.later B3.out) (Z2.out.later B3.out)).mono ?_
  rintro e w4 ⟨rfl, hb⟩
  have B4 := Lib.hid (B3.out.trans (hb.mono B3.out.size))
  clear hb B3
  go_wp2_with fail
  refine (lives_any _).mono ?_
  rintro e w5 ⟨rfl, hb⟩
  have B5 := Lib.hid (B4.out.trans (hb.mono B4.out.size))
  clear hb B4
  go_wp2
  go_ret
  exact ⟨rfl, B5.out⟩

set_option maxRecDepth 100000 in
theorem limitCosts_lifted (os : Os) (started : os.Started) (H : Type) (enc : TypeId × Value → H) :
    ReturnsInHanded {} Try.checked os 4 .any (Rows.limitCostsSpec.pre6 enc Try.prog Try.f4 Rows.limitCostsRow.domain false) (Rows.limitCostsSpec.post enc Try.prog Try.f4 false true false false) := by
  refine returnsInHanded_of_change_sized (C := Try.checked) Try.own started (by kernel_rfl) Try.func4
    (ChangeSpec.witness6 (enc := enc) (C := Try.checked) false ⟨#[], #[.slice none 0 0, .slice none 0 0], []⟩ 8 (by kernel_rfl) (by kernel_rfl) (by kernel_rfl) (by kernel_rfl)) ?_
  intro W base args ds gs before hval0 hW _ hsz0 _
  have hval : ∀ (j : Nat) t v, Try.f4.params[j]? = some t → args[j]? = some v → Value.okWide Try.prog W .any base t v := hval0
  have hsz : (DataW.weightsEach Try.prog (Try.f4.params.toList ++ Rows.limitCostsSpec.plain.varTypes Try.prog) (ds ++ gs)).all (· ≤ reachBytes) = true := hsz0
  have hW' := hW
  obtain ⟨p, q, hA0, hV, rfl, hfz, hnd⟩ := hW
  have hA : DataW.TrodAll enc Try.prog W 0 (fun _ => true) true Try.f4.params.toList args.toList ds p := hA0
  rw [Try.params4] at hA hval hsz
  obtain ⟨v0, vs0, d0, ds0, p0, q0, hargs, rfl, rfl, h0, r0⟩ := trodAll_cons hA
  obtain ⟨v1, vs1, d1, ds1, p1, q1, rfl, rfl, rfl, h1, r1⟩ := trodAll_cons r0
  obtain ⟨rfl, rfl, rfl⟩ := trodAll_nil r1
  obtain rfl : args = #[v0, v1] := by cases args; simp_all
  obtain ⟨rfl, rfl⟩ := trodVars_none hV
  have k0 := h0
  have lt0 : ∀ x ∈ p0, x.block < W.heap.size := by obtain ⟨m, hm⟩ := k0; exact DataW.trod_lt m _ _ _ hm
  have w0 : ∀ n ∈ d0.weights Try.prog 22, n ≤ reachBytes := fun n hn => by simpa using List.all_eq_true.1 hsz n (DataW.weights_mem_each (j := 0) rfl rfl n hn)
  obtain ⟨zs0, zl0, ln0⟩ := ints_open (hval 0 22 v0 rfl rfl) h0 w0
  have k1 := h1
  have lt1 : ∀ x ∈ p1, x.block < W.heap.size := by obtain ⟨m, hm⟩ := k1; exact DataW.trod_lt m _ _ _ hm
  have w1 : ∀ n ∈ d1.weights Try.prog 22, n ≤ reachBytes := fun n hn => by simpa using List.all_eq_true.1 hsz n (DataW.weights_mem_each (j := 1) rfl rfl n hn)
  obtain ⟨zs1, zl1, ln1⟩ := ints_open (hval 1 22 v1 rfl rfl) h1 w1
  clear hA0 hval0 hsz0
  refine (limitCosts_walk v0 zs0 v1 zs1 W zl0 ln0 zl1 ln1).mono fun e W' ⟨he, bel⟩ => ?_
  subst he
  exact ⟨_, rfl, _, _, _, [], _, [], hW', trodAll_mk1 (shut_bool Try.underlying4 _), (trodAll_cons_mk (Below.trod Try.laidOut (by kernel_rfl) (of_decide_eq_true (by kernel_rfl)) k0 bel lt0) (trodAll_cons_mk (Below.trod Try.laidOut (by kernel_rfl) (of_decide_eq_true (by kernel_rfl)) k1 bel lt1) trodAll_mk0)), rfl, bel.frame _, fun h => by cases h⟩

theorem limitCosts_proved : Rows.LimitCostsSaid :=
  OpenClaim.holds_of_wide 4 Try.f4 rfl rfl rfl rfl rfl rfl rfl ⟨rfl, rfl, rfl, rfl, rfl⟩ rfl rfl rfl rfl rfl (by kernel_rfl) Try.func4 (by kernel_rfl)
    (of_decide_eq_true (by kernel_rfl)) (by unfold Func.isWrapper; rw [if_neg (of_decide_eq_false (by kernel_rfl))]; exact ⟨rfl, rfl⟩)
    (fun os started H enc _ => limitCosts_lifted os started H enc)
end Go.Proofs.Ytedbonnejgpjeaa
