/- The statement RecordReadEnds. It holds for every input within the model's capacity, without a further condition. -/
import Derived.Test.YtheffpihhmdceaaNrend
import Derived.Test.YtheffpihhmdceaaNarg
import Derived.Test.YtheffpihhmdceaaCcap

namespace Go.Proofs.Ytheffpihhmdceaa
set_option maxRecDepth 100000
open Go.ChangeShapes Go.WideShapes Go.ChangeAt Go.RowKit

set_option maxHeartbeats 8000000 in
theorem recordReadEnds_walk (s : Value) (bs : List Nat) (i : Int) (w : World) (hs : Sl w s bs) (hl : bs.length ≤ 140737488351232) (hcp : Capped s) (_ : -9223372036854775808 ≤ i) (_ : i ≤ 9223372036854775807) :
    Calls Try.prog 6 #[s, .int .i64 i] w fun e w' => e = .returned (.bool true) ∧ Below w.heap.size w w' := by
  obtain ⟨a, len, cap, rfl, hlen⟩ := hs.shape
  have hc : len ≤ cap := hcp _ _ _ rfl
  have HS := Lib.hid hs
  have O1 := Lib.hid (own_any a len cap bs w hs (by omega))
  have R1 := Lib.hid (fun (W : World) (x : Option Addr) (cp : Nat) (hcx : len ≤ cp) (hW : Sl W (.slice x len cp) bs) => readEnd_any x len cp bs i hcx W hW)
  have R2 := Lib.hid (fun (W : World) (hW : Sl W (.slice a len cap) bs) => rreadEnd_any a len cap bs i hc W hW)
  have LV := Lib.hid lives_any
  have HL := Lib.hid (show len ≤ 281474976710656 by omega)
  generalize rdE bs i = r at *
  obtain ⟨e1, c1, s1, a1⟩ := r
  unfold Re.val at R1 R2
  dsimp only at R1 R2
  clear hs hcp hc hlen hl
  go_enter Try.func6, Try.ntmps6
  go_wp2_with fail
  refine O1.out.mono ?_
  rintro e w1 ⟨g, cap', rfl, hm, h1⟩
  have S1 := Lib.hid (hm.sl HL.out)
  have C1 := Lib.hid hm.cap
  have B1 := Lib.hid h1
  clear hm h1
  go_wp2_with fail
  refine (R1.out _ _ _ C1.out S1.out).mono ?_
  rintro e w2 ⟨rfl, h2⟩
  have B2 := Lib.hid (B1.out.trans (h2.mono B1.out.size))
  clear h2
  go_wp2_with fail
  refine (R2.out _ (HS.out.later B2.out)).mono ?_
  rintro e w3 ⟨rfl, h3⟩
  have B3 := Lib.hid (B2.out.trans (h3.mono B2.out.size))
  clear h3
  go_wp2_with (go_at_call 16; refine (LV.out _).mono ?_; rintro e w4 ⟨rfl, h4⟩; have B4 := Lib.hid (B3.out.trans (h4.mono B3.out.size)); clear h4)
  go_ret
  exact ⟨rfl, B4.out⟩

set_option maxRecDepth 100000 in
theorem recordReadEnds_lifted (os : Os) (started : os.Started) (H : Type) (enc : TypeId × Value → H) :
    ReturnsInHanded {} Try.checked os 6 .any (Rows.recordReadEndsSpec.pre6 enc Try.prog Try.f6 Rows.recordReadEndsRow.domain false) (Rows.recordReadEndsSpec.post enc Try.prog Try.f6 false true false false) := by
  refine returnsInHanded_of_change_sized (C := Try.checked) Try.own started (by kernel_rfl) Try.func6
    (ChangeSpec.witness6 (enc := enc) (C := Try.checked) false ⟨#[], #[.slice none 0 0, .int .i64 0], []⟩ 8 (by kernel_rfl) (by kernel_rfl) (by kernel_rfl) (by kernel_rfl)) ?_
  intro W base args ds gs before hval0 hW _ hsz0 _
  have hval : ∀ (j : Nat) t v, Try.f6.params[j]? = some t → args[j]? = some v → Value.okWide Try.prog W .any base t v := hval0
  have hsz : (DataW.weightsEach Try.prog (Try.f6.params.toList ++ Rows.recordReadEndsSpec.plain.varTypes Try.prog) (ds ++ gs)).all (· ≤ reachBytes) = true := hsz0
  have hW' := hW
  obtain ⟨p, q, hA0, hV, rfl, hfz, hnd⟩ := hW
  have hA : DataW.TrodAll enc Try.prog W 0 (fun _ => true) true Try.f6.params.toList args.toList ds p := hA0
  rw [Try.params6] at hA hval hsz
  obtain ⟨v0, vs0, d0, ds0, p0, q0, hargs, rfl, rfl, h0, r0⟩ := trodAll_cons hA
  obtain ⟨v1, vs1, d1, ds1, p1, q1, rfl, rfl, rfl, h1, r1⟩ := trodAll_cons r0
  obtain ⟨rfl, rfl, rfl⟩ := trodAll_nil r1
  obtain rfl : args = #[v0, v1] := by cases args; simp_all
  obtain ⟨rfl, rfl⟩ := trodVars_none hV
  have k0 := h0
  have lt0 : ∀ x ∈ p0, x.block < W.heap.size := by obtain ⟨m, hm⟩ := k0; exact DataW.trod_lt m _ _ _ hm
  have w0 : ∀ n ∈ d0.weights Try.prog 24, n ≤ reachBytes := fun n hn => by simpa using List.all_eq_true.1 hsz n (DataW.weights_mem_each (j := 0) rfl rfl n hn)
  obtain ⟨bs0, sl0, ln0⟩ := bytes_open (hval 0 24 v0 rfl rfl) h0 w0
  have cp0 := bytes_cap (hval 0 24 v0 rfl rfl) h0
  have k1 := h1
  have lt1 : ∀ x ∈ p1, x.block < W.heap.size := by obtain ⟨m, hm⟩ := k1; exact DataW.trod_lt m _ _ _ hm
  obtain ⟨n1, ev1, _, _, wn1⟩ := open_int Try.underlying3 (hval 1 3 v1 rfl rfl) h1
  subst ev1
  obtain ⟨lo1, hi1⟩ := wf_bounds wn1
  clear hA0 hval0 hsz0
  refine (recordReadEnds_walk v0 bs0 n1 W sl0 ln0 cp0 lo1 hi1).mono fun e W' ⟨he, bel⟩ => ?_
  subst he
  exact ⟨_, rfl, _, _, _, [], _, [], hW', trodAll_mk1 (shut_bool Try.underlying4 _), (trodAll_cons_mk (Below.trod Try.laidOut (by kernel_rfl) (of_decide_eq_true (by kernel_rfl)) k0 bel lt0) (trodAll_cons_mk (Below.trod Try.laidOut (by kernel_rfl) (of_decide_eq_true (by kernel_rfl)) k1 bel lt1) trodAll_mk0)), rfl, bel.frame _, fun h => by cases h⟩

theorem recordReadEnds_proved : Rows.RecordReadEndsSaid :=
  OpenClaim.holds_of_wide 6 Try.f6 rfl rfl rfl rfl rfl rfl rfl ⟨rfl, rfl, rfl, rfl, rfl⟩ rfl rfl rfl rfl rfl (by kernel_rfl) Try.func6 (by kernel_rfl)
    (of_decide_eq_true (by kernel_rfl)) (by unfold Func.isWrapper; rw [if_neg (of_decide_eq_false (by kernel_rfl))]; exact ⟨rfl, rfl⟩)
    (fun os started H enc _ => recordReadEnds_lifted os started H enc)
end Go.Proofs.Ytheffpihhmdceaa
