/- The statement CrcParts: the sum of a whole goes on from that of its beginning, and is joined from those of both parts. It holds for all bytes, without a condition. -/
import Derived.Test.YtbegehgfdjmibaaClives
import Derived.Test.YtbegehgfdjmibaaCarg
import Derived.Test.YtbegehgfdjmibaaCapp
namespace Go.Proofs.Ytbegehgfdjmibaa
open Go.ChangeShapes Go.WideShapes Go.ChangeAt Go.RowKit

set_option maxHeartbeats 2000000 in
theorem crcParts_walk (s : Value) (bs : List Nat) (t : Value) (cs : List Nat) (w : World) (hs : Sl w s bs) (_ : bs.length ≤ 140737488351232) (ht : Sl w t cs) (_ : cs.length ≤ 140737488351232) :
    Calls Try.prog 5 #[s, t] w fun e w' => e = .returned (.bool true) ∧ Below w.heap.size w w' := by
  have HS := Lib.hid hs
  have HT := Lib.hid ht
  clear hs ht
  obtain ⟨a, len, cap, rfl, hl⟩ := HS.out.shape
  obtain ⟨b, len2, cap2, rfl, hl2⟩ := HT.out.shape
  clear hl hl2
  by_cases h : (16384 : Int) < len ∨ (16384 : Int) < len2
  · go_enter Try.func5, Try.ntmps5
    by_cases h1 : (16384 : Int) < len
    · clear h
      go_wp2_with fail
      refine (lives_any _).mono ?_
      rintro e w3 ⟨rfl, b3⟩
      have B3 := Lib.hid b3
      clear b3
      go_wp2
      go_ret
      exact ⟨rfl, B3.out⟩
    · have h2 : (16384 : Int) < len2 := by omega
      clear h
      go_wp2_with fail
      refine (lives_any _).mono ?_
      rintro e w3 ⟨rfl, b3⟩
      have B3 := Lib.hid b3
      clear b3
      go_wp2
      go_ret
      exact ⟨rfl, B3.out⟩
  · have h1 : (len : Int) ≤ 16384 := by omega
    have h2 : (len2 : Int) ≤ 16384 := by omega
    clear h
    have hlen := HS.out.len.1
    have hlen2 := HT.out.len.1
    have A1 : Hid ((w.alloc (.cells #[] 5)).ownsRow w.heap.size 5 1 (.slice (some ⟨w.heap.size, 0, none⟩) 0 0) 0 []) :=
      World.ownsRow_lit (base := w.heap.size) (e := 5) (size := 1) w #[] 0 (by simp) (by unfold maxLen; omega) rfl
    have B0 : Hid (Below w.heap.size w (w.alloc (.cells #[] 5))) := below1 w _
    have S0 := Lib.hid (HS.out.later B0.out)
    have HL := Lib.hid hlen
    have HL2 := Lib.hid hlen2
    obtain ⟨A, hA⟩ : ∃ A, A = Cr.sum 0 bs := ⟨_, rfl⟩
    obtain ⟨B, hB⟩ : ∃ B, B = Cr.sum 0 cs := ⟨_, rfl⟩
    obtain ⟨N, hN⟩ : ∃ N, N = Cr.sum 0 (bs ++ cs) := ⟨_, rfl⟩
    have hA32 : A < 4294967296 := by rw [hA]; exact Cr.sum_lt 0 bs (by decide) HS.out.facts.1
    have hB32 : B < 4294967296 := by rw [hB]; exact Cr.sum_lt 0 cs (by decide) HT.out.facts.1
    have HA := Lib.hid hA
    have HB := Lib.hid hB
    have HN := Lib.hid hN
    have HM : Hid (N = Cr.sum A cs) := by show _ = _; rw [hN, hA, Cr.sum_more]
    have HJ : Hid (N = Cr.stn (8 * len2) A ^^^ B) := by show _ = _; rw [hN, hA, hB, hlen2, Cr.sum_join]
    clear hlen hlen2 hA hB hN
    go_enter Try.func5, Try.ntmps5
    go_wp2_with (at_builtin; first | (with_reducible refine wpList_append_sl rfl (.tmp 17) (.tmp 18) rfl w.heap.size w.heap.size 0 0 [] rfl A1.out a len cap bs rfl S0.out (by omega) (by simp) ?_; intro g1 c1 w1 ho1 hg1; have hO1 := Lib.hid (own_app_zero ho1.out); have hB1 := Lib.hid (below_grown B0.out hg1.out (by omega) B0.out.size); have hT1 := Lib.hid (HT.out.later hB1.out); have hz1 := hB1.out.size; have hgz := own_base hO1.out; clear ho1 hg1) | (with_reducible refine wpList_append_sl rfl (.tmp 19) (.tmp 20) rfl w.heap.size g1 c1 len (vb bs) rfl hO1.out b len2 cap2 cs rfl hT1.out (by omega) hz1 ?_; intro g2 c2 w2 ho2 hg2; have hO2 := Lib.hid ho2.out; have hB2 := Lib.hid (below_grown hB1.out hg2.out hgz hz1); have hz2 := hB2.out.size; clear ho2 hg2))
    have HS2 := Lib.hid (HS.out.later hB2.out)
    have HT2 := Lib.hid (HT.out.later hB2.out)
    have HW2 := Lib.hid (Sl.owned (bs := bs ++ cs) (by rw [vb_append]; exact hO2.out) (fun x hx => (List.mem_append.1 hx).elim (HS.out.facts.1 x) (HT.out.facts.1 x)) (by omega))
    clear hO2 hO1 hB1 hT1 S0 B0 A1
    go_wp2_with fail
    refine (sum_is _ (bs ++ cs) N _ HW2.out HN).mono ?_
    rintro e w3 ⟨rfl, rfl⟩
    go_wp2_with fail
    refine (sum_is _ bs A _ HS2.out HA).mono ?_
    rintro e w3 ⟨rfl, rfl⟩
    go_wp2_with fail
    refine (sum_is _ cs B _ HT2.out HB).mono ?_
    rintro e w3 ⟨rfl, rfl⟩
    go_wp2_with fail
    refine (join_is A B len2 N (by omega) hA32 hB32 _ HJ).mono ?_
    rintro e w3 ⟨rfl, b3⟩
    have B3 := Lib.hid (hB2.out.trans (b3.mono hz2))
    have HS3 := Lib.hid (HS2.out.later b3)
    have HT3 := Lib.hid (HT2.out.later b3)
    clear b3 hB2 HS2 HT2
    go_wp2_with fail
    refine (sum_is _ bs A _ HS3.out HA).mono ?_
    rintro e w4 ⟨rfl, rfl⟩
    go_wp2_with fail
    refine (more_is A _ cs N _ HT3.out hA32 HM).mono ?_
    rintro e w4 ⟨rfl, rfl⟩
    go_wp2_with fail
    refine (lives_any _).mono ?_
    rintro e w5 ⟨rfl, b5⟩
    have B5 := Lib.hid (B3.out.trans (b5.mono B3.out.size))
    clear b5 B3
    go_wp2
    go_ret
    exact ⟨rfl, B5.out⟩

set_option maxRecDepth 100000 in
theorem crcParts_lifted (os : Os) (started : os.Started) (H : Type) (enc : TypeId × Value → H) :
    ReturnsInHanded {} Try.checked os 5 .any (Rows.crcPartsSpec.pre6 enc Try.prog Try.f5 Rows.crcPartsRow.domain false) (Rows.crcPartsSpec.post enc Try.prog Try.f5 false true false false) := by
  refine returnsInHanded_of_change_sized (C := Try.checked) Try.own started (by kernel_rfl) Try.func5
    (ChangeSpec.witness6 (enc := enc) (C := Try.checked) false ⟨#[], #[.slice none 0 0, .slice none 0 0], []⟩ 8 (by kernel_rfl) (by kernel_rfl) (by kernel_rfl) (by kernel_rfl)) ?_
  intro W base args ds gs before hval0 hW _ hsz0 _
  have hval : ∀ (j : Nat) t v, Try.f5.params[j]? = some t → args[j]? = some v → Value.okWide Try.prog W .any base t v := hval0
  have hsz : (DataW.weightsEach Try.prog (Try.f5.params.toList ++ Rows.crcPartsSpec.plain.varTypes Try.prog) (ds ++ gs)).all (· ≤ reachBytes) = true := hsz0
  have hW' := hW
  obtain ⟨p, q, hA0, hV, rfl, hfz, hnd⟩ := hW
  have hA : DataW.TrodAll enc Try.prog W 0 (fun _ => true) true Try.f5.params.toList args.toList ds p := hA0
  rw [Try.params5] at hA hval hsz
  obtain ⟨v0, vs0, d0, ds0, p0, q0, hargs, rfl, rfl, h0, r0⟩ := trodAll_cons hA
  obtain ⟨v1, vs1, d1, ds1, p1, q1, rfl, rfl, rfl, h1, r1⟩ := trodAll_cons r0
  obtain ⟨rfl, rfl, rfl⟩ := trodAll_nil r1
  obtain rfl : args = #[v0, v1] := by cases args; simp_all
  obtain ⟨rfl, rfl⟩ := trodVars_none hV
  have k0 := h0
  have lt0 : ∀ x ∈ p0, x.block < W.heap.size := by obtain ⟨m, hm⟩ := k0; exact DataW.trod_lt m _ _ _ hm
  have w0 : ∀ n ∈ d0.weights Try.prog 23, n ≤ reachBytes := fun n hn => by simpa using List.all_eq_true.1 hsz n (DataW.weights_mem_each (j := 0) rfl rfl n hn)
  obtain ⟨bs0, sl0, ln0⟩ := bytes_open (hval 0 23 v0 rfl rfl) h0 w0
  have k1 := h1
  have lt1 : ∀ x ∈ p1, x.block < W.heap.size := by obtain ⟨m, hm⟩ := k1; exact DataW.trod_lt m _ _ _ hm
  have w1 : ∀ n ∈ d1.weights Try.prog 23, n ≤ reachBytes := fun n hn => by simpa using List.all_eq_true.1 hsz n (DataW.weights_mem_each (j := 1) rfl rfl n hn)
  obtain ⟨bs1, sl1, ln1⟩ := bytes_open (hval 1 23 v1 rfl rfl) h1 w1
  clear hA0 hval0 hsz0
  refine (crcParts_walk v0 bs0 v1 bs1 W sl0 ln0 sl1 ln1).mono fun e W' ⟨he, bel⟩ => ?_
  subst he
  exact ⟨_, rfl, _, _, _, [], _, [], hW', trodAll_mk1 (shut_bool Try.underlying4 _), (trodAll_cons_mk (Below.trod Try.laidOut (by kernel_rfl) (of_decide_eq_true (by kernel_rfl)) k0 bel lt0) (trodAll_cons_mk (Below.trod Try.laidOut (by kernel_rfl) (of_decide_eq_true (by kernel_rfl)) k1 bel lt1) trodAll_mk0)), rfl, bel.frame _, fun h => by cases h⟩

theorem crcParts_proved : Rows.CrcPartsSaid :=
  OpenClaim.holds_of_wide 5 Try.f5 rfl rfl rfl rfl rfl rfl rfl ⟨rfl, rfl, rfl, rfl, rfl⟩ rfl rfl rfl rfl rfl (by kernel_rfl) Try.func5 (by kernel_rfl)
    (of_decide_eq_true (by kernel_rfl)) (by unfold Func.isWrapper; rw [if_neg (of_decide_eq_false (by kernel_rfl))]; exact ⟨rfl, rfl⟩)
    (fun os started H enc _ => crcParts_lifted os started H enc)
end Go.Proofs.Ytbegehgfdjmibaa
