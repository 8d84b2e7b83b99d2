/- Bytes that are written by any whole code of their own, its lengths one by one in the header, are told as they are: InflateCodes returns true for every input. Condition: the package-level variables errors.errorType and header.order hold what the program's text lays (the card ties them to that text). -/
import Derived.Test.YtnjlljdbghcobaaGreatDoorIarg
import Derived.Test.YtnjlljdbghcobaaGreatDoorIstow
import Derived.Test.YtnjlljdbghcobaaGreatDoorTie
import Derived.Test.YtnjlljdbghcobaaGreatDoorCards

namespace Go.Proofs.YtnjlljdbghcobaaGreatDoor
set_option maxRecDepth 100000
open Go.ChangeShapes Go.WideShapes Go.ChangeAt Go.RowKit Go.Joins

theorem inflateCodes_walk (v : Value) (zs : List Int) (v2 : Value) (ys : List Int) (W : World) (hz : Zl W v zs) (_ : zs.length ≤ 17592186043904) (hy : Zl W v2 ys) (_ : ys.length ≤ 17592186043904) (hg : GG W) :
    Calls Tryz.prog 5 #[v, v2] W fun e w' => e = .returned (.bool true) ∧ Below W.heap.size W w' := by
  obtain ⟨a, len, cap, rfl, hlen⟩ := hz.shape
  obtain ⟨a2, len2, cap2, rfl, hlen2⟩ := hy.shape
  by_cases h : 256 < len ∨ 300 < len2
  · exact codes_beyond a len cap a2 len2 cap2 W hg h
  · exact codes_in' a len cap zs a2 len2 cap2 ys W hz hy hg (by omega) (by omega) hlen hlen2

set_option maxRecDepth 100000 in
theorem inflateCodes_lifted (os : Os) (started : os.Started) (H : Type) (enc : TypeId × Value → H) :
    ReturnsInHanded {} Tryz.checked os 5 .any (fun w args => (Rows.inflateCodesSpec.pre enc Tryz.prog Tryz.f5 [] false w args ∧ laidMetH Tryz.prog laid2 w) ∧ sizedMet enc Tryz.prog Tryz.f5 (OpenSpec.ofChange Rows.inflateCodesSpec) false w args) (Rows.inflateCodesSpec.post enc Tryz.prog Tryz.f5 false true false false) := by
  refine returnsInHanded_of_change_and (C := Tryz.checked) (X := fun w _ => laidMetH Tryz.prog laid2 w) (fun _ _ _ hh h => h.of_heap hh) Tryz.own started (by kernel_rfl) Tryz.func5
    (ChangeSpec.witness_shaped (enc := enc) (C := Tryz.checked) (os := os) (X := fun w _ => laidMetH Tryz.prog laid2 w) false (World.doorLaid Tryz.prog 400 os) #[.slice none 0 0, .slice none 0 0] 8 rfl (World.shaped_of_RefB (by kernel_rfl) (by kernel_rfl)) (by kernel_rfl) (by kernel_rfl) (by kernel_rfl) (door_met os _)) ?_
  intro W base args ds gs before hval0 hW _ hsz0 hL _
  have hval : ∀ (j : Nat) t v, Tryz.f5.params[j]? = some t → args[j]? = some v → Value.okWide Tryz.prog W .any base t v := hval0
  have hsz : (DataW.weightsEach Tryz.prog (Tryz.f5.params.toList ++ Rows.inflateCodesSpec.plain.varTypes Tryz.prog) (ds ++ gs)).all (· ≤ reachBytes) = true := hsz0
  have hW' := hW
  obtain ⟨p, q, hA0, hV, rfl, hfz, hnd⟩ := hW
  have hA : DataW.TrodAll enc Tryz.prog W 0 (fun _ => true) true Tryz.f5.params.toList args.toList ds p := hA0
  rw [Tryz.params5] at hA hval hsz
  obtain ⟨v0, vs0, d0, ds0, p0, q0, hargs, rfl, rfl, h0, r0⟩ := trodAll_cons hA
  obtain ⟨v1, vs1, d1, ds1, p1, q1, rfl, rfl, rfl, h1, r1⟩ := trodAll_cons r0
  obtain ⟨rfl, rfl, rfl⟩ := trodAll_nil r1
  obtain rfl : args = #[v0, v1] := by cases args; simp_all
  obtain ⟨rfl, rfl⟩ := trodVars_none hV
  have k0 := h0
  have lt0 : ∀ x ∈ p0, x.block < W.heap.size := by obtain ⟨m, hm⟩ := k0; exact DataW.trod_lt m _ _ _ hm
  have w0 : ∀ n ∈ d0.weights Tryz.prog 33, n ≤ reachBytes := fun n hn => by simpa using List.all_eq_true.1 hsz n (DataW.weights_mem_each (j := 0) rfl rfl n hn)
  obtain ⟨zs0, zl0, ln0⟩ := ints_open (hval 0 33 v0 rfl rfl) h0 w0
  have k1 := h1
  have lt1 : ∀ x ∈ p1, x.block < W.heap.size := by obtain ⟨m, hm⟩ := k1; exact DataW.trod_lt m _ _ _ hm
  have w1 : ∀ n ∈ d1.weights Tryz.prog 33, n ≤ reachBytes := fun n hn => by simpa using List.all_eq_true.1 hsz n (DataW.weights_mem_each (j := 1) rfl rfl n hn)
  obtain ⟨zs1, zl1, ln1⟩ := ints_open (hval 1 33 v1 rfl rfl) h1 w1
  clear hA0 hval0 hsz0
  refine (inflateCodes_walk v0 zs0 v1 zs1 W zl0 ln0 zl1 ln1 (gg_of_laid hL)).mono fun e W' ⟨he, bel⟩ => ?_
  subst he
  exact ⟨_, rfl, _, _, _, [], _, [], hW', trodAll_mk1 (shut_bool Tryz.underlying4 _), (trodAll_cons_mk (Below.trod Tryz.laidOut (by kernel_rfl) (of_decide_eq_true (by kernel_rfl)) k0 bel lt0) (trodAll_cons_mk (Below.trod Tryz.laidOut (by kernel_rfl) (of_decide_eq_true (by kernel_rfl)) k1 bel lt1) trodAll_mk0)), rfl, bel.frame _, fun h => by cases h⟩

theorem inflateCodes_holds : Rows.InflateCodesSaid :=
  OpenClaim.holds_of_wide 5 Tryz.f5 rfl rfl rfl rfl rfl rfl rfl ⟨rfl, rfl, rfl, rfl, rfl⟩ rfl rfl rfl rfl rfl (by kernel_rfl) Tryz.func5 (by kernel_rfl)
    (of_decide_eq_true (by kernel_rfl)) (by unfold Func.isWrapper; rw [if_neg (of_decide_eq_false (by kernel_rfl))]; exact ⟨rfl, rfl⟩)
    (fun os started H enc _ => inflateCodes_lifted os started H enc)

theorem inflateCodes_proved : Rows.InflateCodesCardSaid :=
  Claim7.holds_tied_plain_at .later [] [.handle, .data] true Rows.inflateCodesCard.stood.harness true
    inflateCodes_holds (fun _ h => by cases h) (by kernel_rfl) (fun _ h => by cases h) inflateCodes_row_tie rfl ⟨rfl, rfl⟩ (by kernel_rfl) rfl
    (fun f fn hf hfn => by
      obtain rfl : f = 5 := Option.some.inj ((show Tryz.prog.funcNamed "valise/valiselaw09.InflateCodes" = some 5 by kernel_rfl).symm.trans hf) |>.symm
      obtain rfl : fn = Tryz.f5 := (Option.some.inj (Tryz.func5.symm.trans hfn)).symm
      refine ⟨by kernel_rfl, fun j t ht => ?_⟩
      rw [Tryz.params5] at ht
      have hm := Array.mem_of_getElem? ht
      have hm2 : t = 33 := by simp at hm; rcases hm with rfl | rfl <;> simp
      subst hm2
      exact (show Tryz.prog.wantsStandIn 33 = false by kernel_rfl))
    (by kernel_rfl)
end Go.Proofs.YtnjlljdbghcobaaGreatDoor
