/- The statement HuffCodes: any numbers are lengths of a whole code or not, and any lengths have the codes that the document says, or none. It holds for every row of numbers, without a condition. -/
import Derived.Test.YtgffcffmhhdceaaHarg
namespace Go.Proofs.Ytgffcffmhhdceaa
open Go.ChangeShapes Go.WideShapes Go.ChangeAt Go.RowKit

theorem Il.later {lo : Nat} {w w' : World} {v : Value} {xs : List Nat} (h : Il lo w v xs) (hb : Below w.heap.size w w') : Il lo w' v xs := by
  rcases h with h | ⟨g, cap, h1, h2, h3, h4⟩
  · exact Or.inl h
  · exact Or.inr ⟨g, cap, h1, h2, h3, rw_below h4 h4.lt hb⟩

/-- A slice of numbers as the document's Same looks at it. -/
def Sm (w : World) (a : Option Addr) (n : Nat) (zs : List Int) : Prop := 0 < n → ∃ b off, a = some ⟨b, off, none⟩ ∧ ∀ i, i < n → w.cell? ⟨b, off + i, none⟩ = some (.int .i64 (zs[i]?.getD 0))
theorem sm_il {lo : Nat} {w : World} {a : Option Addr} {n cap : Nat} {xs : List Nat} (h : Il lo w (.slice a n cap) xs) : Sm w a n (xs.map fun (x : Nat) => (x : Int)) := by
  intro h0
  rcases h with ⟨h, _⟩ | ⟨g, cap', h1, _, _, h4⟩
  · cases h; omega
  · cases h1
    refine ⟨g, 0, rfl, fun i hi => ?_⟩
    rw [Nat.zero_add, h4.cell i hi]
    simp [hi]
theorem sm_zl {w : World} {a : Option Addr} {n cap : Nat} {zs : List Int} (h : Zl w (.slice a n cap) zs) : Sm w a n zs := by
  obtain ⟨a', len, cap', e, h1, h2, h3, h4⟩ := h
  cases e
  intro h0
  obtain ⟨b, off, rfl, _, hc⟩ := h4 h0
  exact ⟨b, off, rfl, hc⟩
theorem same_to (a1 a2 : Option Addr) (n m c1 c2 : Nat) (zs : List Int) (w : World) (hl : Hid (n = zs.length)) (hm : Hid (m = n)) (hn : n ≤ 17592186044416) (h1 : Sm w a1 n zs) (h2 : Sm w a2 m zs) :
    Calls Try.prog 15 #[.slice a1 n c1, .slice a2 m c2] w fun e w' => e = .returned (.bool true) ∧ Below w.heap.size w w' := by
  have e := hm.out
  subst e
  exact rsame_any a1 a2 m c1 c2 zs w hl hn h1 h2

/-- Both answers on codes: an error, the numbers. -/
theorem codes_pair (zs : List Int) : ∃ (c : Int) (xs : List Nat), Hid (xs.length ≤ 288) ∧
    Hid (∀ s w, Zl w s zs → Calls Try.prog 11 #[s] w fun e w' => ∃ a cap, e = .returned (.tuple #[.slice a xs.length cap, .int .i64 c]) ∧ Il w.heap.size w' (.slice a xs.length cap) xs ∧ Below w.heap.size w w') ∧
    Hid (∀ s w, Zl w s zs → Calls Try.prog 12 #[s] w fun e w' => ∃ a cap, e = .returned (.tuple #[.slice a xs.length cap, .int .i64 c]) ∧ Il w.heap.size w' (.slice a xs.length cap) xs ∧ Below w.heap.size w w') := by
  by_cases hf : Fit zs
  · refine ⟨0, Hf.codes (nat zs), ?_, fun s w hz => ?_, fun s w hz => ?_⟩
    · show _ ≤ _
      rw [Hf.codes_length, nat_length]; exact hf.valid.2.1
    · refine (codes_ok zs s w hz hf).mono ?_
      rintro e w' ⟨v, rfl, hi, hb⟩
      obtain ⟨a, cap, rfl, _⟩ := il_shape hi
      exact ⟨a, cap, rfl, hi, hb⟩
    · refine (rcodes_ok zs s w hz hf).mono ?_
      rintro e w' ⟨v, rfl, hi, hb⟩
      obtain ⟨a, cap, rfl, _⟩ := il_shape hi
      exact ⟨a, cap, rfl, hi, hb⟩
  · refine ⟨chk zs, [], Nat.zero_le _, fun s w hz => ?_, fun s w hz => ?_⟩
    · exact (codes_no zs s w hz hf).mono fun e w' ⟨he, hb⟩ => ⟨none, 0, he, Or.inl ⟨rfl, rfl⟩, hb⟩
    · exact (rcodes_no zs s w hz hf).mono fun e w' ⟨he, hb⟩ => ⟨none, 0, he, Or.inl ⟨rfl, rfl⟩, hb⟩

set_option maxHeartbeats 2000000 in
theorem huffCodes_walk (s : Value) (zs : List Int) (w : World) (hz : Zl w s zs) (hl : zs.length ≤ 17592186043904) :
    Calls Try.prog 3 #[s] w fun e w' => e = .returned (.bool true) ∧ Below w.heap.size w w' := by
  obtain ⟨c, xs, HX, HP, HR⟩ := codes_pair zs
  have HO := own_any zs s w hz hl
  have HZ := Lib.hid hz
  have HC := Lib.hid (fun s w hz => check_any zs s w hz)
  have HRC := Lib.hid (fun s w hz => rcheck_any zs s w hz)
  obtain ⟨k, hk⟩ : ∃ k, k = chk zs := ⟨_, rfl⟩
  rw [← hk] at HC HRC
  obtain ⟨a, len, cap, rfl, hlen⟩ := hz.shape
  obtain ⟨nx, hnx⟩ : ∃ nx, nx = xs.length := ⟨_, rfl⟩
  have hnx2 : nx ≤ 288 := by rw [hnx]; exact HX.out
  have hl2 : len ≤ 17592186043904 := by omega
  rw [← hlen] at hl
  have HLE := Lib.hid hlen
  have HNX := Lib.hid hnx
  unfold OwnI at HO
  rw [← hlen] at HO
  rw [← hnx] at HP HR
  clear hz hk hlen hnx HX
  go_enter Try.func3, Try.ntmps3
  go_wp2_with fail
  refine HO.mono ?_
  clear HO
  rintro e w1 ⟨g, cap1, rfl, hown, hb1⟩
  have Z1 : Hid (Zl w1 (.slice (some ⟨g, 0, none⟩) len cap1) zs) := zl_own hown HLE.out (by omega)
  have B1 := Lib.hid hb1
  clear hown hb1
  go_wp2_with fail
  refine (HP.out _ _ Z1.out).mono ?_
  rintro e w2 ⟨a2, cap2, rfl, hi, hb⟩
  have I2 := Lib.hid hi
  have Z2 := Lib.hid (Z1.out.later hb)
  have B2 := Lib.hid (B1.out.trans (hb.mono B1.out.size))
  clear hi hb Z1 B1
  go_wp2_with fail
  refine (HR.out _ _ (HZ.out.later B2.out)).mono ?_
  rintro e w3 ⟨a3, cap3, rfl, hi, hb⟩
  have I3 := Lib.hid hi
  have J3 := Lib.hid (I2.out.later hb)
  have Z3 := Lib.hid (Z2.out.later hb)
  have B3 := Lib.hid (B2.out.trans (hb.mono B2.out.size))
  clear hi hb Z2 B2 I2
  go_wp2_with fail
  refine (HC.out _ _ Z3.out).mono ?_
  rintro e w4 ⟨rfl, hb⟩
  have I4 := Lib.hid (I3.out.later hb)
  have J4 := Lib.hid (J3.out.later hb)
  have Z4 := Lib.hid (Z3.out.later hb)
  have B4 := Lib.hid (B3.out.trans (hb.mono B3.out.size))
  clear hb Z3 B3 I3 J3
  go_wp2_with fail
  refine (HRC.out _ _ (HZ.out.later B4.out)).mono ?_
  rintro e w5 ⟨rfl, rfl⟩
  go_wp2_with fail
  refine (same_to _ _ nx nx _ _ (xs.map fun (x : Nat) => (x : Int)) _ (show _ = _ by rw [List.length_map]; exact HNX.out) rfl (by omega) (by have h := J4.out; rw [HNX.out] at h ⊢; exact sm_il h) (by have h := I4.out; rw [HNX.out] at h ⊢; exact sm_il h)).mono ?_
  rintro e w6 ⟨rfl, hb⟩
  have Z6 := Lib.hid (Z4.out.later hb)
  have B6 := Lib.hid (B4.out.trans (hb.mono B4.out.size))
  clear hb Z4 B4 I4 J4
  go_wp2_with fail
  refine (same_to _ _ len len _ _ zs _ HLE.out rfl (by omega) (sm_zl Z6.out) (sm_zl (HZ.out.later B6.out))).mono ?_
  rintro e w7 ⟨rfl, hb⟩
  have B7 := Lib.hid (B6.out.trans (hb.mono B6.out.size))
  clear hb Z6 B6
  go_wp2_with fail
  refine (lives_any _).mono ?_
  rintro e w8 ⟨rfl, hb⟩
  have B8 := Lib.hid (B7.out.trans (hb.mono B7.out.size))
  clear hb B7
  go_wp2
  go_ret
  exact ⟨rfl, B8.out⟩

set_option maxRecDepth 100000 in
theorem huffCodes_lifted (os : Os) (started : os.Started) (H : Type) (enc : TypeId × Value → H) :
    ReturnsInHanded {} Try.checked os 3 .any (Rows.huffCodesSpec.pre6 enc Try.prog Try.f3 Rows.huffCodesRow.domain false) (Rows.huffCodesSpec.post enc Try.prog Try.f3 false true false false) := by
  refine returnsInHanded_of_change_sized (C := Try.checked) Try.own started (by kernel_rfl) Try.func3
    (ChangeSpec.witness6 (enc := enc) (C := Try.checked) false ⟨#[], #[.slice none 0 0], []⟩ 8 (by kernel_rfl) (by kernel_rfl) (by kernel_rfl) (by kernel_rfl)) ?_
  intro W base args ds gs before hval0 hW _ hsz0 _
  have hval : ∀ (j : Nat) t v, Try.f3.params[j]? = some t → args[j]? = some v → Value.okWide Try.prog W .any base t v := hval0
  have hsz : (DataW.weightsEach Try.prog (Try.f3.params.toList ++ Rows.huffCodesSpec.plain.varTypes Try.prog) (ds ++ gs)).all (· ≤ reachBytes) = true := hsz0
  have hW' := hW
  obtain ⟨p, q, hA0, hV, rfl, hfz, hnd⟩ := hW
  have hA : DataW.TrodAll enc Try.prog W 0 (fun _ => true) true Try.f3.params.toList args.toList ds p := hA0
  rw [Try.params3] at hA hval hsz
  obtain ⟨v0, vs0, d0, ds0, p0, q0, hargs, rfl, rfl, h0, r0⟩ := trodAll_cons hA
  obtain ⟨rfl, rfl, rfl⟩ := trodAll_nil r0
  obtain rfl : args = #[v0] := by cases args; simp_all
  obtain ⟨rfl, rfl⟩ := trodVars_none hV
  have k0 := h0
  have lt0 : ∀ x ∈ p0, x.block < W.heap.size := by obtain ⟨m, hm⟩ := k0; exact DataW.trod_lt m _ _ _ hm
  have w0 : ∀ n ∈ d0.weights Try.prog 22, n ≤ reachBytes := fun n hn => by simpa using List.all_eq_true.1 hsz n (DataW.weights_mem_each (j := 0) rfl rfl n hn)
  obtain ⟨zs0, zl0, ln0⟩ := ints_open (hval 0 22 v0 rfl rfl) h0 w0
  clear hA0 hval0 hsz0
  refine (huffCodes_walk v0 zs0 W zl0 ln0).mono fun e W' ⟨he, bel⟩ => ?_
  subst he
  exact ⟨_, rfl, _, _, _, [], _, [], hW', trodAll_mk1 (shut_bool Try.underlying4 _), (trodAll_cons_mk (Below.trod Try.laidOut (by kernel_rfl) (of_decide_eq_true (by kernel_rfl)) k0 bel lt0) trodAll_mk0), rfl, bel.frame _, fun h => by cases h⟩

theorem huffCodes_proved : Rows.HuffCodesSaid :=
  OpenClaim.holds_of_wide 3 Try.f3 rfl rfl rfl rfl rfl rfl rfl ⟨rfl, rfl, rfl, rfl, rfl⟩ rfl rfl rfl rfl rfl (by kernel_rfl) Try.func3 (by kernel_rfl)
    (of_decide_eq_true (by kernel_rfl)) (by unfold Func.isWrapper; rw [if_neg (of_decide_eq_false (by kernel_rfl))]; exact ⟨rfl, rfl⟩)
    (fun os started H enc _ => huffCodes_lifted os started H enc)
end Go.Proofs.Ytgffcffmhhdceaa
