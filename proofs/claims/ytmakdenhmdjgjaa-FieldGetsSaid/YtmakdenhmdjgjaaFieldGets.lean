/- The statement FieldGets: at any place of any bytes the numbers and the piece are told that the document says, or they are refused. It holds for all bytes and every two integers, without a condition. -/
import Derived.Test.YtmakdenhmdjgjaaFpairs
import Derived.Test.YtmakdenhmdjgjaaCcap
import Derived.Deep.RegionHeld3
namespace Go.Proofs.Ytmakdenhmdjgjaa
open Go.ChangeShapes Go.WideShapes Go.ChangeAt Go.RowKit

theorem own_first {w : World} {base g c n : Nat} {bs : List Nat} (h : w.ownsRow base 5 1 (.slice (some ⟨g, 0, none⟩) (n + 1) c) (n + 1) (vb bs)) (h0 : 0 < bs.length) :
    ∃ z : Nat, w.cell? ⟨g, 0, none⟩ = some (.int .u8 (z : Int)) ∧ w.frozen? ⟨g, 0, none⟩ = false := by
  refine ⟨bs[0], ?_, h.frozenAt 0⟩
  rw [h.cellAt 0 (by omega), vb_get, List.getElem?_eq_getElem h0]
  rfl

set_option maxHeartbeats 4000000 in
theorem fieldGets_walk (s : Value) (bs : List Nat) (i k : Int) (w : World) (hs : Sl w s bs) (hl : bs.length ≤ 140737488351232) (hcp : Capped s) (_ : -9223372036854775808 ≤ i) (_ : i ≤ 9223372036854775807) (_ : -9223372036854775808 ≤ k) (_ : k ≤ 9223372036854775807) :
    Calls Try.prog 4 #[s, .int .i64 i, .int .i64 k] w fun e w' => e = .returned (.bool true) ∧ Below w.heap.size w w' := by
  obtain ⟨a, len, cap, rfl, hlen⟩ := hs.shape
  have hc : len ≤ cap := hcp _ _ _ rfl
  obtain ⟨v2, c2, p2, r2⟩ := get2_pair bs i hl
  obtain ⟨v4, c4, p4, r4⟩ := get4_pair bs i hl
  obtain ⟨l, c, hl2, p6, r6⟩ := piece_pair bs i k hl
  have HS := Lib.hid hs
  have P2 := Lib.hid p2
  have R2 := Lib.hid r2
  have P4 := Lib.hid p4
  have R4 := Lib.hid r4
  have P6 := Lib.hid p6
  have R6 := Lib.hid r6
  have HL2 := Lib.hid hl2
  have hlen2 : len ≤ 140737488351232 := by omega
  obtain ⟨S, hS⟩ : ∃ S, S = strB l := ⟨_, rfl⟩
  have HSS := Lib.hid hS
  clear hs p2 r2 p4 r4 p6 r6 hlen hl hS hl2 hcp
  go_enter Try.func4, Try.ntmps4
  go_wp2_with fail
  refine (own_walk a len cap bs _ HS.out hlen2).mono ?_
  rintro e w1 ⟨g, capg, rfl, ht, b1⟩
  have T1 := Lib.hid ht
  have B1 := Lib.hid b1
  have hcg : len ≤ capg := by have := ht.2.1; omega
  clear ht b1
  go_wp2_with fail
  refine (P2.out _ _ _ _ T1.out.1 hcg).mono ?_
  rintro e w2 ⟨rfl, b2⟩
  have T2 := Lib.hid (T1.out.later b2)
  have B2 := Lib.hid (B1.out.trans (b2.mono B1.out.size))
  clear T1 B1 b2
  go_wp2_with fail
  refine (R2.out _ _ _ _ (HS.out.later B2.out) hc).mono ?_
  rintro e w3 ⟨rfl, b3⟩
  have T3 := Lib.hid (T2.out.later b3)
  have B3 := Lib.hid (B2.out.trans (b3.mono B2.out.size))
  clear T2 B2 b3
  go_wp2_with fail
  refine (P4.out _ _ _ _ T3.out.1 hcg).mono ?_
  rintro e w4 ⟨rfl, b4⟩
  have T4 := Lib.hid (T3.out.later b4)
  have B4 := Lib.hid (B3.out.trans (b4.mono B3.out.size))
  clear T3 B3 b4
  go_wp2_with fail
  refine (R4.out _ _ _ _ (HS.out.later B4.out) hc).mono ?_
  rintro e w5 ⟨rfl, b5⟩
  have T5 := Lib.hid (T4.out.later b5)
  have B5 := Lib.hid (B4.out.trans (b5.mono B4.out.size))
  clear T4 B4 b5
  go_wp2_with fail
  refine (P6.out _ _ _ _ T5.out.1 hcg).mono ?_
  rintro e w6 ⟨a6, m6, q6, rfl, s6, b6⟩
  have M6 := Lib.hid s6
  have E6 := Lib.hid b6
  clear s6 b6
  go_wp2_with fail
  refine (R6.out _ _ _ _ (HS.out.later (B5.out.trans (E6.out.mono B5.out.size))) hc).mono ?_
  rintro e w7 ⟨a7, m7, q7, rfl, s7, b7⟩
  have M7 := Lib.hid (M6.out.later b7)
  have E7 := Lib.hid (E6.out.trans (b7.mono E6.out.size))
  have hm6 : m6 ≤ 140737488351232 := by have := M6.out.2.1; have := HL2.out; omega
  have r1 := string_of _ _ _ _ _ S (M7.out.sl (by omega)) HSS
  have r2 := string_of _ _ _ _ _ S (s7.sl (by have := s7.2.1; have := HL2.out; omega)) HSS
  have A1 := Lib.hid (World.ownsRow.alloc M7.out.1 (.cells #[.int .u8 1] 5))
  have A2 : Hid ((w7.alloc (.cells #[.int .u8 1] 5)).cell? ⟨w7.heap.size, 0, none⟩ = some (.int .u8 1)) := (Has.new w7 (.cells #[.int .u8 1] 5)).one.1
  have A4 := Lib.hid (E7.out.alloc E7.out.size (.cells #[.int .u8 1] 5))
  clear s7 b7 M6 E6
  go_wp2_with (at_builtin; (refine wpList_append_byte rfl (.tmp 90) (.tmp 91) rfl w5.heap.size _ m6 l rfl A1.out w7.heap.size 1 rfl A2.out (by omega) A4.out.size ?_; intro v8 w8 ho hg; have hO := Lib.hid ho.out; have E8 := Lib.hid (A4.out.grown hg.out A4.out.size (fun q hq => (World.ownsRow.lt A1.out q hq).1)); clear ho hg; obtain ⟨g8, q8, rfl, hc8, hg8⟩ := own_form hO.out; obtain ⟨z, c0, f0⟩ := own_first hO.out (by simp)))
  have E9 := Lib.hid (E8.out.setCell (p := ⟨g8, 0, none⟩) hg8 (.int .u8 (((z : Int) + 1) % 256)))
  have B9 := Lib.hid (B5.out.trans (E9.out.mono B5.out.size))
  refine (kept_walk g len capg a cap bs _ (T5.out.later E9.out) (HS.out.later B9.out) hlen2).mono ?_
  rintro e w9 ⟨rfl, rfl⟩
  go_wp2_with fail
  refine (lives_any _).mono ?_
  rintro e w9 ⟨rfl, hb⟩
  have B10 := Lib.hid (B9.out.trans (hb.mono B9.out.size))
  clear hb
  go_wp2_with fail
  go_ret
  exact ⟨rfl, B10.out⟩

set_option maxRecDepth 100000 in
theorem fieldGets_lifted (os : Os) (started : os.Started) (H : Type) (enc : TypeId × Value → H) :
    ReturnsInHanded {} Try.checked os 4 .any (Rows.fieldGetsSpec.pre6 enc Try.prog Try.f4 Rows.fieldGetsRow.domain false) (Rows.fieldGetsSpec.post enc Try.prog Try.f4 false true false false) := by
  refine returnsInHanded_of_change_sized (C := Try.checked) Try.own started (by kernel_rfl) Try.func4
    (ChangeSpec.witness6 (enc := enc) (C := Try.checked) false ⟨#[], #[.slice none 0 0, .int .i64 0, .int .i64 0], []⟩ 8 (by kernel_rfl) (by kernel_rfl) (by kernel_rfl) (by kernel_rfl)) ?_
  intro W base args ds gs before hval0 hW _ hsz0 _
  have hval : ∀ (j : Nat) t v, Try.f4.params[j]? = some t → args[j]? = some v → Value.okWide Try.prog W .any base t v := hval0
  have hsz : (DataW.weightsEach Try.prog (Try.f4.params.toList ++ Rows.fieldGetsSpec.plain.varTypes Try.prog) (ds ++ gs)).all (· ≤ reachBytes) = true := hsz0
  have hW' := hW
  obtain ⟨p, q, hA0, hV, rfl, hfz, hnd⟩ := hW
  have hA : DataW.TrodAll enc Try.prog W 0 (fun _ => true) true Try.f4.params.toList args.toList ds p := hA0
  rw [Try.params4] at hA hval hsz
  obtain ⟨v0, vs0, d0, ds0, p0, q0, hargs, rfl, rfl, h0, r0⟩ := trodAll_cons hA
  obtain ⟨v1, vs1, d1, ds1, p1, q1, rfl, rfl, rfl, h1, r1⟩ := trodAll_cons r0
  obtain ⟨v2, vs2, d2, ds2, p2, q2, rfl, rfl, rfl, h2, r2⟩ := trodAll_cons r1
  obtain ⟨rfl, rfl, rfl⟩ := trodAll_nil r2
  obtain rfl : args = #[v0, v1, v2] := by cases args; simp_all
  obtain ⟨rfl, rfl⟩ := trodVars_none hV
  have k0 := h0
  have lt0 : ∀ x ∈ p0, x.block < W.heap.size := by obtain ⟨m, hm⟩ := k0; exact DataW.trod_lt m _ _ _ hm
  have w0 : ∀ n ∈ d0.weights Try.prog 22, n ≤ reachBytes := fun n hn => by simpa using List.all_eq_true.1 hsz n (DataW.weights_mem_each (j := 0) rfl rfl n hn)
  obtain ⟨bs0, sl0, ln0⟩ := bytes_open (hval 0 22 v0 rfl rfl) h0 w0
  have cp0 := bytes_cap (hval 0 22 v0 rfl rfl) h0
  have k1 := h1
  have lt1 : ∀ x ∈ p1, x.block < W.heap.size := by obtain ⟨m, hm⟩ := k1; exact DataW.trod_lt m _ _ _ hm
  obtain ⟨n1, ev1, _, _, wn1⟩ := open_int Try.underlying3 (hval 1 3 v1 rfl rfl) h1
  subst ev1
  obtain ⟨lo1, hi1⟩ := wf_bounds wn1
  have k2 := h2
  have lt2 : ∀ x ∈ p2, x.block < W.heap.size := by obtain ⟨m, hm⟩ := k2; exact DataW.trod_lt m _ _ _ hm
  obtain ⟨n2, ev2, _, _, wn2⟩ := open_int Try.underlying3 (hval 2 3 v2 rfl rfl) h2
  subst ev2
  obtain ⟨lo2, hi2⟩ := wf_bounds wn2
  clear hA0 hval0 hsz0
  refine (fieldGets_walk v0 bs0 n1 n2 W sl0 ln0 cp0 lo1 hi1 lo2 hi2).mono fun e W' ⟨he, bel⟩ => ?_
  subst he
  exact ⟨_, rfl, _, _, _, [], _, [], hW', trodAll_mk1 (shut_bool Try.underlying4 _), (trodAll_cons_mk (Below.trod Try.laidOut (by kernel_rfl) (of_decide_eq_true (by kernel_rfl)) k0 bel lt0) (trodAll_cons_mk (Below.trod Try.laidOut (by kernel_rfl) (of_decide_eq_true (by kernel_rfl)) k1 bel lt1) (trodAll_cons_mk (Below.trod Try.laidOut (by kernel_rfl) (of_decide_eq_true (by kernel_rfl)) k2 bel lt2) trodAll_mk0))), rfl, bel.frame _, fun h => by cases h⟩

theorem fieldGets_proved : Rows.FieldGetsSaid :=
  OpenClaim.holds_of_wide 4 Try.f4 rfl rfl rfl rfl rfl rfl rfl ⟨rfl, rfl, rfl, rfl, rfl⟩ rfl rfl rfl rfl rfl (by kernel_rfl) Try.func4 (by kernel_rfl)
    (of_decide_eq_true (by kernel_rfl)) (by unfold Func.isWrapper; rw [if_neg (of_decide_eq_false (by kernel_rfl))]; exact ⟨rfl, rfl⟩)
    (fun os started H enc _ => fieldGets_lifted os started H enc)
end Go.Proofs.Ytmakdenhmdjgjaa
