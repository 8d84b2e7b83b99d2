/- The statement FieldPuts: any number is laid behind any bytes, in two and in four bytes, as the document says, or refused. It holds for all bytes and every integer, without a condition. -/
import Derived.Test.YtmakdenhmdjgjaaFpairs
import Derived.Test.YtmakdenhmdjgjaaCarg
namespace Go.Proofs.Ytmakdenhmdjgjaa
open Go.ChangeShapes Go.WideShapes Go.ChangeAt Go.RowKit

set_option maxHeartbeats 4000000 in
theorem fieldPuts_walk (s : Value) (bs : List Nat) (n : Int) (w : World) (hs : Sl w s bs) (hl : bs.length ≤ 140737488351232) (_ : -9223372036854775808 ≤ n) (_ : n ≤ 9223372036854775807) :
    Calls Try.prog 3 #[s, .int .i64 n] w fun e w' => e = .returned (.bool true) ∧ Below w.heap.size w w' := by
  obtain ⟨a, len, cap, rfl, hlen⟩ := hs.shape
  obtain ⟨l2, c2, p2, r2⟩ := put2_pair bs n hl
  obtain ⟨l4, c4, p4, r4⟩ := put4_pair bs n hl
  have HS := Lib.hid hs
  have P2 := Lib.hid p2
  have R2 := Lib.hid r2
  have P4 := Lib.hid p4
  have R4 := Lib.hid r4
  have hlen2 : len ≤ 140737488351232 := by omega
  obtain ⟨S2, hS2⟩ : ∃ S, S = strB l2 := ⟨_, rfl⟩
  obtain ⟨S4, hS4⟩ : ∃ S, S = strB l4 := ⟨_, rfl⟩
  have HS2 := Lib.hid hS2
  have HS4 := Lib.hid hS4
  clear hs p2 r2 p4 r4 hlen hl hS2 hS4
  go_enter Try.func3, Try.ntmps3
  go_wp2_with fail
  refine (own_walk a len cap bs _ HS.out hlen2).mono ?_
  rintro e w1 ⟨g, capg, rfl, ht, b1⟩
  have T1 := Lib.hid ht
  have B1 := Lib.hid b1
  have hcg : len ≤ capg := by have := ht.2.1; omega
  clear ht b1
  go_wp2_with fail
  refine (P2.out _ _ _ _ T1.out.1 hcg).mono ?_
  rintro e w2 ⟨a2, m2, q2, rfl, s2, b2⟩
  have T2 := Lib.hid (T1.out.later b2)
  have B2 := Lib.hid (B1.out.trans (b2.mono B1.out.size))
  have A2 := Lib.hid s2
  clear T1 B1 s2 b2
  go_wp2_with fail
  refine (R2.out _ _ _ _ (HS.out.later B2.out)).mono ?_
  rintro e w3 ⟨a3, m3, q3, rfl, s3, b3⟩
  have T3 := Lib.hid (T2.out.later b3)
  have B3 := Lib.hid (B2.out.trans (b3.mono B2.out.size))
  have A3 := Lib.hid (A2.out.later b3)
  have C3 := Lib.hid s3
  clear T2 B2 A2 s3 b3
  go_wp2_with fail
  refine (P4.out _ _ _ _ T3.out.1 hcg).mono ?_
  rintro e w4 ⟨a4, m4, q4, rfl, s4, b4⟩
  have T4 := Lib.hid (T3.out.later b4)
  have B4 := Lib.hid (B3.out.trans (b4.mono B3.out.size))
  have A4 := Lib.hid (A3.out.later b4)
  have C4 := Lib.hid (C3.out.later b4)
  have D4 := Lib.hid s4
  clear T3 B3 A3 C3 s4 b4
  go_wp2_with fail
  refine (R4.out _ _ _ _ (HS.out.later B4.out)).mono ?_
  rintro e w5 ⟨a5, m5, q5, rfl, s5, b5⟩
  have T5 := Lib.hid (T4.out.later b5)
  have B5 := Lib.hid (B4.out.trans (b5.mono B4.out.size))
  have r1 := string_of _ _ _ _ _ S2 (A4.out.later b5) HS2
  have r2 := string_of _ _ _ _ _ S2 (C4.out.later b5) HS2
  have r3 := string_of _ _ _ _ _ S4 (D4.out.later b5) HS4
  have r4 := string_of _ _ _ _ _ S4 s5 HS4
  clear T4 B4 A4 C4 D4 s5 b5
  go_wp2_with fail
  refine (kept_walk g len capg a cap bs _ T5.out (HS.out.later B5.out) hlen2).mono ?_
  rintro e w6 ⟨rfl, rfl⟩
  go_wp2_with fail
  refine (lives_any _).mono ?_
  rintro e w6 ⟨rfl, hb⟩
  have B6 := Lib.hid (B5.out.trans (hb.mono B5.out.size))
  clear hb
  go_wp2_with fail
  go_ret
  exact ⟨rfl, B6.out⟩

set_option maxRecDepth 100000 in
theorem fieldPuts_lifted (os : Os) (started : os.Started) (H : Type) (enc : TypeId × Value → H) :
    ReturnsInHanded {} Try.checked os 3 .any (Rows.fieldPutsSpec.pre6 enc Try.prog Try.f3 Rows.fieldPutsRow.domain false) (Rows.fieldPutsSpec.post enc Try.prog Try.f3 false true false false) := by
  refine returnsInHanded_of_change_sized (C := Try.checked) Try.own started (by kernel_rfl) Try.func3
    (ChangeSpec.witness6 (enc := enc) (C := Try.checked) false ⟨#[], #[.slice none 0 0, .int .i64 0], []⟩ 8 (by kernel_rfl) (by kernel_rfl) (by kernel_rfl) (by kernel_rfl)) ?_
  intro W base args ds gs before hval0 hW _ hsz0 _
  have hval : ∀ (j : Nat) t v, Try.f3.params[j]? = some t → args[j]? = some v → Value.okWide Try.prog W .any base t v := hval0
  have hsz : (DataW.weightsEach Try.prog (Try.f3.params.toList ++ Rows.fieldPutsSpec.plain.varTypes Try.prog) (ds ++ gs)).all (· ≤ reachBytes) = true := hsz0
  have hW' := hW
  obtain ⟨p, q, hA0, hV, rfl, hfz, hnd⟩ := hW
  have hA : DataW.TrodAll enc Try.prog W 0 (fun _ => true) true Try.f3.params.toList args.toList ds p := hA0
  rw [Try.params3] at hA hval hsz
  obtain ⟨v0, vs0, d0, ds0, p0, q0, hargs, rfl, rfl, h0, r0⟩ := trodAll_cons hA
  obtain ⟨v1, vs1, d1, ds1, p1, q1, rfl, rfl, rfl, h1, r1⟩ := trodAll_cons r0
  obtain ⟨rfl, rfl, rfl⟩ := trodAll_nil r1
  obtain rfl : args = #[v0, v1] := by cases args; simp_all
  obtain ⟨rfl, rfl⟩ := trodVars_none hV
  have k0 := h0
  have lt0 : ∀ x ∈ p0, x.block < W.heap.size := by obtain ⟨m, hm⟩ := k0; exact DataW.trod_lt m _ _ _ hm
  have w0 : ∀ n ∈ d0.weights Try.prog 22, n ≤ reachBytes := fun n hn => by simpa using List.all_eq_true.1 hsz n (DataW.weights_mem_each (j := 0) rfl rfl n hn)
  obtain ⟨bs0, sl0, ln0⟩ := bytes_open (hval 0 22 v0 rfl rfl) h0 w0
  have k1 := h1
  have lt1 : ∀ x ∈ p1, x.block < W.heap.size := by obtain ⟨m, hm⟩ := k1; exact DataW.trod_lt m _ _ _ hm
  obtain ⟨n1, ev1, _, _, wn1⟩ := open_int Try.underlying3 (hval 1 3 v1 rfl rfl) h1
  subst ev1
  obtain ⟨lo1, hi1⟩ := wf_bounds wn1
  clear hA0 hval0 hsz0
  refine (fieldPuts_walk v0 bs0 n1 W sl0 ln0 lo1 hi1).mono fun e W' ⟨he, bel⟩ => ?_
  subst he
  exact ⟨_, rfl, _, _, _, [], _, [], hW', trodAll_mk1 (shut_bool Try.underlying4 _), (trodAll_cons_mk (Below.trod Try.laidOut (by kernel_rfl) (of_decide_eq_true (by kernel_rfl)) k0 bel lt0) (trodAll_cons_mk (Below.trod Try.laidOut (by kernel_rfl) (of_decide_eq_true (by kernel_rfl)) k1 bel lt1) trodAll_mk0)), rfl, bel.frame _, fun h => by cases h⟩

theorem fieldPuts_proved : Rows.FieldPutsSaid :=
  OpenClaim.holds_of_wide 3 Try.f3 rfl rfl rfl rfl rfl rfl rfl ⟨rfl, rfl, rfl, rfl, rfl⟩ rfl rfl rfl rfl rfl (by kernel_rfl) Try.func3 (by kernel_rfl)
    (of_decide_eq_true (by kernel_rfl)) (by unfold Func.isWrapper; rw [if_neg (of_decide_eq_false (by kernel_rfl))]; exact ⟨rfl, rfl⟩)
    (fun os started H enc _ => fieldPuts_lifted os started H enc)
end Go.Proofs.Ytmakdenhmdjgjaa
