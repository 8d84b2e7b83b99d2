/- The statement RecordApart. It holds for every input, without a condition. -/
import Derived.Test.YtheffpihhmdceaaNlives
import Derived.Test.YtheffpihhmdceaaNarg
import Derived.Test.YtheffpihhmdceaaCcap

namespace Go.Proofs.Ytheffpihhmdceaa
set_option maxRecDepth 100000
open Go.ChangeShapes Go.WideShapes Go.ChangeAt Go.RowKit

theorem pe_not (bs : List Nat) (i : Int) (n : Nat) (h : pe bs.length i n ≠ 0) : (pe bs.length i n == 0) = false := by rw [beq_eq_false_iff_ne]; exact h
theorem rdL_begins {bs : List Nat} {i : Int} (h : (rdL bs i).err = 0) : (bs.drop i.toNat).take 4 = [80, 75, 3, 4] := by
  unfold rdL at h
  split at h
  · rename_i h1; exact absurd h h1
  · split at h
    · cases h
    · rename_i h2; exact Decidable.not_not.1 h2
theorem rdC_begins {bs : List Nat} {i : Int} (h : (rdC bs i).err = 0) : (bs.drop i.toNat).take 4 = [80, 75, 1, 2] := by
  unfold rdC at h
  split at h
  · rename_i h1; exact absurd h h1
  · split at h
    · cases h
    · rename_i h2; exact Decidable.not_not.1 h2
theorem rdE_begins {bs : List Nat} {i : Int} (h : (rdE bs i).err = 0) : (bs.drop i.toNat).take 4 = [80, 75, 5, 6] := by
  unfold rdE at h
  split at h
  · rename_i h1; exact absurd h h1
  · split at h
    · cases h
    · rename_i h2; exact Decidable.not_not.1 h2

theorem apart_of (bs : List Nat) (i : Int) : (((rdL bs i).err == 0) = false ∧ ((rdC bs i).err == 0) = false) ∨ (((rdL bs i).err == 0) = false ∧ ((rdE bs i).err == 0) = false) ∨ (((rdC bs i).err == 0) = false ∧ ((rdE bs i).err == 0) = false) := by
  by_cases h1 : (rdL bs i).err = 0
  · refine Or.inr (Or.inr ⟨?_, ?_⟩)
    · rw [beq_eq_false_iff_ne]; intro h2
      have := (rdL_begins h1).symm.trans (rdC_begins h2); simp at this
    · rw [beq_eq_false_iff_ne]; intro h2
      have := (rdL_begins h1).symm.trans (rdE_begins h2); simp at this
  · by_cases h2 : (rdC bs i).err = 0
    · refine Or.inr (Or.inl ⟨?_, ?_⟩)
      · rw [beq_eq_false_iff_ne]; exact h1
      · rw [beq_eq_false_iff_ne]; intro h3
        have := (rdC_begins h2).symm.trans (rdE_begins h3); simp at this
    · exact Or.inl ⟨by rw [beq_eq_false_iff_ne]; exact h1, by rw [beq_eq_false_iff_ne]; exact h2⟩

set_option maxHeartbeats 8000000 in
theorem recordApart_walk (s : Value) (bs : List Nat) (i : Int) (w : World) (hs : Sl w s bs) (_ : bs.length ≤ 140737488351232) (hcp : Capped s) (_ : -9223372036854775808 ≤ i) (_ : i ≤ 9223372036854775807) :
    Calls Try.prog 9 #[s, .int .i64 i] w fun e w' => e = .returned (.bool true) ∧ Below w.heap.size w w' := by
  obtain ⟨a, len, cap, rfl, hlen⟩ := hs.shape
  have hc : len ≤ cap := hcp _ _ _ rfl
  have HS := Lib.hid hs
  have R1 := Lib.hid (fun W hS => readLocal_any a len cap bs i hc W hS)
  have R2 := Lib.hid (fun W hS => readCentral_any a len cap bs i hc W hS)
  have R3 := Lib.hid (fun W hS => readEnd_any a len cap bs i hc W hS)
  have LV := Lib.hid lives_any
  have hap := apart_of bs i
  generalize rdL bs i = r1 at *
  generalize rdC bs i = r2 at *
  generalize rdE bs i = r3 at *
  obtain ⟨e1, n1, m1, s1, p1, z1, a1, l1⟩ := r1
  obtain ⟨e2, n2, m2, s2, p2, z2, a2, l2⟩ := r2
  obtain ⟨e3, c3, s3, a3⟩ := r3
  dsimp only at hap
  unfold Rd.val rv at R1 R2
  unfold Re.val at R3
  dsimp only at R1 R2 R3
  generalize strB n1 = S1 at *
  generalize strB n2 = S2 at *
  obtain ⟨b1, hb1⟩ : ∃ b, (e1 == 0) = b := ⟨_, rfl⟩
  obtain ⟨b2, hb2⟩ : ∃ b, (e2 == 0) = b := ⟨_, rfl⟩
  obtain ⟨b3, hb3⟩ : ∃ b, (e3 == 0) = b := ⟨_, rfl⟩
  rw [hb1, hb2, hb3] at hap
  clear hs hcp hc hlen
  cases b1 <;> cases b2 <;> cases b3 <;> (try (exfalso; revert hap; decide))
  all_goals
    clear hap
    go_enter Try.func9, Try.ntmps9
    go_wp2_with fail
    refine (R1.out _ HS.out).mono ?_
    rintro e w1 ⟨rfl, h1⟩
    have B1 := Lib.hid (h1.trans ((below1 w1 (.cells #[.string S1, .int .i64 m1, .int .i64 s1, .int .i64 p1, .int .i64 z1, .int .i64 a1] 23)).mono h1.size))
    clear h1
    go_wp2_with fail
    refine (R2.out _ (HS.out.later B1.out)).mono ?_
    rintro e w2 ⟨rfl, h2⟩
    have B2 := Lib.hid (B1.out.trans ((h2.trans ((below1 w2 (.cells #[.string S2, .int .i64 m2, .int .i64 s2, .int .i64 p2, .int .i64 z2, .int .i64 a2] 23)).mono h2.size)).mono B1.out.size))
    clear h2
    go_wp2_with fail
    refine (R3.out _ (HS.out.later B2.out)).mono ?_
    rintro e w3 ⟨rfl, h3⟩
    have B3 := Lib.hid (B2.out.trans (h3.mono B2.out.size))
    clear h3
    go_wp2_with (go_at_call 16; refine (LV.out _).mono ?_; rintro e w4 ⟨rfl, h4⟩; have B4 := Lib.hid (B3.out.trans (h4.mono B3.out.size)); clear h4)
    go_ret
    exact ⟨rfl, B4.out⟩

set_option maxRecDepth 100000 in
theorem recordApart_lifted (os : Os) (started : os.Started) (H : Type) (enc : TypeId × Value → H) :
    ReturnsInHanded {} Try.checked os 9 .any (Rows.recordApartSpec.pre6 enc Try.prog Try.f9 Rows.recordApartRow.domain false) (Rows.recordApartSpec.post enc Try.prog Try.f9 false true false false) := by
  refine returnsInHanded_of_change_sized (C := Try.checked) Try.own started (by kernel_rfl) Try.func9
    (ChangeSpec.witness6 (enc := enc) (C := Try.checked) false ⟨#[], #[.slice none 0 0, .int .i64 0], []⟩ 8 (by kernel_rfl) (by kernel_rfl) (by kernel_rfl) (by kernel_rfl)) ?_
  intro W base args ds gs before hval0 hW _ hsz0 _
  have hval : ∀ (j : Nat) t v, Try.f9.params[j]? = some t → args[j]? = some v → Value.okWide Try.prog W .any base t v := hval0
  have hsz : (DataW.weightsEach Try.prog (Try.f9.params.toList ++ Rows.recordApartSpec.plain.varTypes Try.prog) (ds ++ gs)).all (· ≤ reachBytes) = true := hsz0
  have hW' := hW
  obtain ⟨p, q, hA0, hV, rfl, hfz, hnd⟩ := hW
  have hA : DataW.TrodAll enc Try.prog W 0 (fun _ => true) true Try.f9.params.toList args.toList ds p := hA0
  rw [Try.params9] at hA hval hsz
  obtain ⟨v0, vs0, d0, ds0, p0, q0, hargs, rfl, rfl, h0, r0⟩ := trodAll_cons hA
  obtain ⟨v1, vs1, d1, ds1, p1, q1, rfl, rfl, rfl, h1, r1⟩ := trodAll_cons r0
  obtain ⟨rfl, rfl, rfl⟩ := trodAll_nil r1
  obtain rfl : args = #[v0, v1] := by cases args; simp_all
  obtain ⟨rfl, rfl⟩ := trodVars_none hV
  have k0 := h0
  have lt0 : ∀ x ∈ p0, x.block < W.heap.size := by obtain ⟨m, hm⟩ := k0; exact DataW.trod_lt m _ _ _ hm
  have w0 : ∀ n ∈ d0.weights Try.prog 24, n ≤ reachBytes := fun n hn => by simpa using List.all_eq_true.1 hsz n (DataW.weights_mem_each (j := 0) rfl rfl n hn)
  obtain ⟨bs0, sl0, ln0⟩ := bytes_open (hval 0 24 v0 rfl rfl) h0 w0
  have cp0 := bytes_cap (hval 0 24 v0 rfl rfl) h0
  have k1 := h1
  have lt1 : ∀ x ∈ p1, x.block < W.heap.size := by obtain ⟨m, hm⟩ := k1; exact DataW.trod_lt m _ _ _ hm
  obtain ⟨n1, ev1, _, _, wn1⟩ := open_int Try.underlying3 (hval 1 3 v1 rfl rfl) h1
  subst ev1
  obtain ⟨lo1, hi1⟩ := wf_bounds wn1
  clear hA0 hval0 hsz0
  refine (recordApart_walk v0 bs0 n1 W sl0 ln0 cp0 lo1 hi1).mono fun e W' ⟨he, bel⟩ => ?_
  subst he
  exact ⟨_, rfl, _, _, _, [], _, [], hW', trodAll_mk1 (shut_bool Try.underlying4 _), (trodAll_cons_mk (Below.trod Try.laidOut (by kernel_rfl) (of_decide_eq_true (by kernel_rfl)) k0 bel lt0) (trodAll_cons_mk (Below.trod Try.laidOut (by kernel_rfl) (of_decide_eq_true (by kernel_rfl)) k1 bel lt1) trodAll_mk0)), rfl, bel.frame _, fun h => by cases h⟩

theorem recordApart_proved : Rows.RecordApartSaid :=
  OpenClaim.holds_of_wide 9 Try.f9 rfl rfl rfl rfl rfl rfl rfl ⟨rfl, rfl, rfl, rfl, rfl⟩ rfl rfl rfl rfl rfl (by kernel_rfl) Try.func9 (by kernel_rfl)
    (of_decide_eq_true (by kernel_rfl)) (by unfold Func.isWrapper; rw [if_neg (of_decide_eq_false (by kernel_rfl))]; exact ⟨rfl, rfl⟩)
    (fun os started H enc _ => recordApart_lifted os started H enc)
end Go.Proofs.Ytheffpihhmdceaa
