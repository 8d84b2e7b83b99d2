/- The statement BitsBack: a number that was put is got again, whatever stands ahead and behind. It holds for every two rows and every two integers, without a condition. -/
import Derived.Test.YtcehdngdkfoioaaRowsLaw
import Derived.Test.YtcehdngdkfoioaaWide
namespace Go.Proofs.Ytcehdngdkfoioaa
open Go.ChangeShapes Go.WideShapes Go.ChangeAt Go.RowKit

theorem drop_put (l m : List Bool) (v n : Nat) (hv : v < 2 ^ n) : Bs.num ((((l ++ Bs.bitsOf v n) ++ m).drop l.length).take n) = v := by
  rw [List.append_assoc, List.drop_left]
  rw [List.take_append_of_le_length (by rw [Bs.bitsOf_length]; omega), List.take_of_length_le (by rw [Bs.bitsOf_length]; omega), Bs.num_bitsOf v n hv]

theorem hasSl {w : World} {g m : Nat} {L : List Bool} (hh : Has w g (bytesObj (Bs.pack L))) (hm : m = (L.length + 7) / 8) (hl : L.length ≤ 2251799813685248) : Sl w (.slice (some ⟨g, 0, none⟩) m m) (Bs.pack L) :=
  Sl.has hh (Bs.pack_lt _) (by rw [Bs.pack_length]; omega) m m (by rw [Bs.pack_length]; exact hm)

/-- Join, in the words of rows' bits, for whoever only reads the row. -/
theorem join_is (s t : Value) (l m L : List Bool) (N M : Nat) (K : Int) (w : World) (hs : Sl w s (Bs.pack l)) (ht : Sl w t (Bs.pack m)) (hl : Hid (N = l.length)) (hm : Hid (M = m.length)) (hN : N ≤ 1125899906842624) (hM : M ≤ 1125899906842624) (hL : Hid (L = l ++ m)) (hK : Hid (K = (N : Int) + (M : Int))) :
    Calls Try.prog 24 #[.agg #[s, .int .i64 (N : Int)], .agg #[t, .int .i64 (M : Int)]] w fun e w' =>
      ∃ a n cap, e = .returned (.tuple #[.agg #[.slice a n cap, .int .i64 K], .int .i64 0]) ∧ Sl w' (.slice a n cap) (Bs.pack L) ∧ Below w.heap.size w w' := by
  refine (join_ok s t l m N M w hs ht hl hm hN hM).mono ?_
  rintro e w' ⟨g, n, rfl, hn, hg, hh, hb⟩
  have e1 : (l ++ m).length = N + M := by rw [List.length_append, hl.out, hm.out]
  refine ⟨some ⟨g, 0, none⟩, n, n, ?_, ?_, hb⟩
  · rw [e1, hK.out]
    rfl
  · rw [hL.out]
    exact hasSl hh hn (by omega)

set_option maxHeartbeats 4000000 in
theorem back_no (s t : Value) (bs cs : List Nat) (N v n M : Int) (w : World) (hs : Sl w s bs) (ht : Sl w t cs)
    (hP : Hid (∀ (s : Value) (w : World), Sl w s bs → Calls Try.prog 12 #[.agg #[s, .int .i64 N], .int .i64 v, .int .i64 n] w (NoRow w 2))) :
    Calls Try.prog 7 #[.agg #[s, .int .i64 N], .int .i64 v, .int .i64 n, .agg #[t, .int .i64 M]] w fun e w' => e = .returned (.bool true) ∧ Below w.heap.size w w' := by
  have HS := Lib.hid hs
  obtain ⟨a, len, cap, rfl, hlen⟩ := hs.shape
  obtain ⟨a2, len2, cap2, rfl, hlen2⟩ := ht.shape
  clear hs hlen hlen2 ht
  go_enter Try.func7, Try.ntmps7
  go_wp2_with fail
  refine (hP.out _ _ (HS.out.later (below2 _ _ _))).mono ?_
  rintro e w1 ⟨rfl, b1⟩
  obtain ⟨k1, k2, kb, ks⟩ := facts2 b1
  have KB := Lib.hid kb
  clear b1 k1 k2 kb
  go_wp2_with fail
  refine (same_is _ _ _ _ [] _ (Sl.nil _) (Sl.nil _) (hidRefl _)).mono ?_
  rintro e w2 ⟨rfl, b2⟩
  have B2 := Lib.hid ((KB.out.trans ((below1 w1 _).mono KB.out.size)).trans (b2.mono (by have := KB.out.size; simp; omega)))
  clear b2
  go_wp2_with fail
  refine (lives_any _).mono ?_
  rintro e w3 ⟨rfl, b3⟩
  have B3 := Lib.hid (B2.out.trans (b3.mono B2.out.size))
  clear b3
  go_wp2
  go_ret
  exact ⟨rfl, B3.out⟩

set_option maxHeartbeats 4000000 in
theorem back_half (s t : Value) (l : List Bool) (cs : List Nat) (v n N : Nat) (M : Int) (w : World) (hs : Sl w s (Bs.pack l)) (ht : Sl w t cs) (hn : n ≤ 32) (hv : Hid (v < 2 ^ n)) (hl : Hid (N = l.length)) (hN : N ≤ 1125899906809856) (hM : M ≤ 9223372036854775807) (hr : ¬ (0 ≤ M ∧ Bs.right cs M.toNat)) :
    Calls Try.prog 7 #[.agg #[s, .int .i64 (N : Int)], .int .i64 (v : Int), .int .i64 (n : Int), .agg #[t, .int .i64 M]] w fun e w' => e = .returned (.bool true) ∧ Below w.heap.size w w' := by
  have HS := Lib.hid hs
  have HT := Lib.hid ht
  have HR := Lib.hid hr
  obtain ⟨a, len, cap, rfl, hlen⟩ := hs.shape
  obtain ⟨a2, len2, cap2, rfl, hlen2⟩ := ht.shape
  clear hs hlen hlen2 ht hr
  go_enter Try.func7, Try.ntmps7
  go_wp2_with fail
  refine (put_is _ l (l ++ Bs.bitsOf v n) v n N (N + n) _ (HS.out.later (below2 _ _ _)) hn hv hl (by omega) rfl rfl).mono ?_
  rintro e w1 ⟨a1, m1, cap1, rfl, s1, b1⟩
  obtain ⟨k1, k2, kb, ks⟩ := facts2 b1
  obtain ⟨K, hK⟩ : ∃ K : Int, K = ((N + n : Nat) : Int) := ⟨_, rfl⟩
  have hK2 : K ≤ 9223372036854775807 := by omega
  rw [← hK]
  have KB := Lib.hid kb
  have S1 := Lib.hid (s1.later (below1 w1 (.cells #[.slice a1 m1 cap1, .int .i64 K] 24)))
  have T1 := Lib.hid ((HT.out.later kb).later (below1 w1 (.cells #[.slice a1 m1 cap1, .int .i64 K] 24)))
  obtain ⟨c0, c1, _, _⟩ := k2.two
  have hz := k2.lt
  clear b1 k1 k2 kb s1 hK
  go_wp2_with fail
  refine (join_bad _ _ _ cs K M _ S1.out T1.out hK2 hM (fun h => HR.out h.2)).mono ?_
  rintro e w2 ⟨rfl, b2⟩
  have B2 := Lib.hid ((KB.out.trans ((below1 w1 _).mono KB.out.size)).trans (b2.mono (by have := KB.out.size; simp; omega)))
  clear b2 c0 c1
  go_wp2_with fail
  refine (same_is _ _ _ _ [] _ (Sl.nil _) (Sl.nil _) (hidRefl _)).mono ?_
  rintro e w3 ⟨rfl, b3⟩
  have B3 := Lib.hid ((B2.out.trans ((below1 w2 _).mono B2.out.size)).trans (b3.mono (by have := B2.out.size; simp; omega)))
  clear b3
  go_wp2_with fail
  refine (lives_any _).mono ?_
  rintro e w4 ⟨rfl, b4⟩
  have B4 := Lib.hid (B3.out.trans (b4.mono B3.out.size))
  clear b4
  go_wp2
  go_ret
  exact ⟨rfl, B4.out⟩

set_option maxHeartbeats 8000000 in
theorem back_all (s t : Value) (l m : List Bool) (v n N M : Nat) (w : World) (hs : Sl w s (Bs.pack l)) (ht : Sl w t (Bs.pack m)) (hn : n ≤ 32) (hv : Hid (v < 2 ^ n)) (hl : Hid (N = l.length)) (hm : Hid (M = m.length)) (hN : N ≤ 1125899906809856) (hM : M ≤ 1125899906809856) :
    Calls Try.prog 7 #[.agg #[s, .int .i64 (N : Int)], .int .i64 (v : Int), .int .i64 (n : Int), .agg #[t, .int .i64 (M : Int)]] w fun e w' => e = .returned (.bool true) ∧ Below w.heap.size w w' := by
  have HS := Lib.hid hs
  have HT := Lib.hid ht
  obtain ⟨a, len, cap, rfl, hlen⟩ := hs.shape
  obtain ⟨a2, len2, cap2, rfl, hlen2⟩ := ht.shape
  obtain ⟨K, hK⟩ : ∃ K : Nat, K = N + n := ⟨_, rfl⟩
  obtain ⟨L1, hL1⟩ : ∃ L1, L1 = l ++ Bs.bitsOf v n := ⟨_, rfl⟩
  obtain ⟨L2, hL2⟩ : ∃ L2, L2 = L1 ++ m := ⟨_, rfl⟩
  have HK := Lib.hid hK
  have HL1 := Lib.hid hL1
  have HL2 := Lib.hid hL2
  have H1 : Hid (K = L1.length) := by show _ = _; rw [hL1, List.length_append, Bs.bitsOf_length, ← hl.out, hK]
  obtain ⟨J, hJ⟩ : ∃ J : Nat, J = K + M := ⟨_, rfl⟩
  have HJ : Hid ((J : Int) = (K : Int) + (M : Int)) := by show _ = _; omega
  have H2 : Hid (J = L2.length) := by show _ = _; rw [hL2, List.length_append, ← H1.out, ← hm.out, hJ]
  have HV : Hid (((v : Nat) : Int) = ((Bs.num ((L2.drop N).take n) : Nat) : Int)) := by
    show _ = _
    rw [hL2, hL1, hl.out, drop_put l m v n hv.out]
  have hK2 : K ≤ 1125899906842624 := by omega
  have hJ2 : J ≤ 2251799813685248 := by omega
  have hJ3 : N + n ≤ J := by omega
  have hJe : ((J : Int) == (N : Int) + (n : Int) + (M : Int)) = true := by rw [beq_iff_eq]; omega
  clear hs hlen hlen2 ht hK hL1 hL2 hJ
  go_enter Try.func7, Try.ntmps7
  go_wp2_with fail
  refine (put_is _ l L1 v n N K _ (HS.out.later (below2 _ _ _)) hn hv hl (by omega) HL1 HK).mono ?_
  rintro e w1 ⟨a1, m1, cap1, rfl, s1, b1⟩
  obtain ⟨k1, k2, kb, ks⟩ := facts2 b1
  have KB := Lib.hid kb
  have S1 := Lib.hid (s1.later (below1 w1 (.cells #[.slice a1 m1 cap1, .int .i64 (K : Int)] 24)))
  have T1 := Lib.hid ((HT.out.later kb).later (below1 w1 (.cells #[.slice a1 m1 cap1, .int .i64 (K : Int)] 24)))
  have K1 := Lib.hid (k1.alloc (.cells #[.slice a1 m1 cap1, .int .i64 (K : Int)] 24))
  have K2 := Lib.hid (k2.alloc (.cells #[.slice a1 m1 cap1, .int .i64 (K : Int)] 24))
  obtain ⟨c0, c1, _, _⟩ := k2.two
  have hz := k2.lt
  clear b1 k1 k2 kb s1
  go_wp2_with fail
  refine (join_is _ _ L1 m L2 K M (J : Int) _ S1.out T1.out H1 hm hK2 (by omega) HL2 HJ).mono ?_
  rintro e w2 ⟨a3, m3, cap3, rfl, s3, b2⟩
  have k1 := K1.out.later b2
  have k2 := K2.out.later b2
  have B2 := Lib.hid ((KB.out.trans ((below1 w1 _).mono KB.out.size)).trans (b2.mono (by have := KB.out.size; simp; omega)))
  have S3 := Lib.hid (s3.later (below1 w2 (.cells #[.slice a3 m3 cap3, .int .i64 (J : Int)] 24)))
  have k3 := Has.new w2 (.cells #[.slice a3 m3 cap3, .int .i64 (J : Int)] 24)
  have q1 := Lib.hid (k1.alloc (.cells #[.slice a3 m3 cap3, .int .i64 (J : Int)] 24))
  have q2 := Lib.hid (k2.alloc (.cells #[.slice a3 m3 cap3, .int .i64 (J : Int)] 24))
  have q3 := Lib.hid k3
  clear c0 c1
  obtain ⟨c0, c1, _, _⟩ := k1.two
  have hz1 := k1.lt
  clear b2 s3 k1 k2 k3
  go_wp2_with fail
  refine (get_is _ L2 J N n (v : Int) _ S3.out H2 hJ2 hn hJ3 HV).mono ?_
  rintro e w3 ⟨rfl, b3⟩
  have B3 := Lib.hid ((B2.out.trans ((below1 w2 _).mono B2.out.size)).trans (b3.mono (by have := B2.out.size; simp; omega)))
  have k1 := q1.out.later b3
  have k2 := q2.out.later b3
  have k3 := q3.out.later b3
  clear c0 c1
  obtain ⟨c0, c1, _, _⟩ := k1.two
  obtain ⟨d0, d1, _, _⟩ := k2.two
  obtain ⟨e0, e1, _, _⟩ := k3.two
  clear k1 k2 k3 b3
  go_wp2_with fail
  refine (lives_any _).mono ?_
  rintro e w4 ⟨rfl, b4⟩
  have B4 := Lib.hid (B3.out.trans (b4.mono B3.out.size))
  clear b4
  go_wp2
  go_ret
  exact ⟨rfl, B4.out⟩

theorem bitsBack_walk (s : Value) (bs : List Nat) (N v n : Int) (t : Value) (cs : List Nat) (M : Int) (w : World) (hs : Sl w s bs) (hl : bs.length ≤ 140737488351232) (_ : -9223372036854775808 ≤ N) (hN : N ≤ 9223372036854775807) (_ : -9223372036854775808 ≤ v) (_ : v ≤ 9223372036854775807) (_ : -9223372036854775808 ≤ n) (_ : n ≤ 9223372036854775807)
    (ht : Sl w t cs) (hl2 : cs.length ≤ 140737488351232) (_ : -9223372036854775808 ≤ M) (hM : M ≤ 9223372036854775807) :
    Calls Try.prog 7 #[.agg #[s, .int .i64 N], .int .i64 v, .int .i64 n, .agg #[t, .int .i64 M]] w fun e w' => e = .returned (.bool true) ∧ Below w.heap.size w w' := by
  rcases put_cases bs N v n hs.facts.1 hN with h | ⟨l, v', k', rfl, rfl, rfl, rfl, hk, hv, hroom⟩
  · exact back_no s t bs cs N v n M w hs ht h
  · by_cases hr : 0 ≤ M ∧ Bs.right cs M.toNat
    · have hroom2 := right_room hr
      obtain ⟨m, rfl, rfl⟩ := right_bits hr ht.facts.1
      exact back_all s t l m v' k' l.length m.length w hs ht hk hv rfl rfl (by omega) (by omega)
    · exact back_half s t l cs v' k' l.length M w hs ht hk hv rfl (by omega) hM hr

set_option maxRecDepth 100000 in
theorem bitsBack_lifted (os : Os) (started : os.Started) (H : Type) (enc : TypeId × Value → H) :
    ReturnsInHanded {} Try.checked os 7 .any (Rows.bitsBackSpec.pre6 enc Try.prog Try.f7 Rows.bitsBackRow.domain false) (Rows.bitsBackSpec.post enc Try.prog Try.f7 false true false false) := by
  refine returnsInHanded_of_change_sized (C := Try.checked) Try.own started (by kernel_rfl) Try.func7
    (ChangeSpec.witness6 (enc := enc) (C := Try.checked) false ⟨#[], #[.agg #[.slice none 0 0, .int .i64 0], .int .i64 0, .int .i64 0, .agg #[.slice none 0 0, .int .i64 0]], []⟩ 8 (by kernel_rfl) (by kernel_rfl) (by kernel_rfl) (by kernel_rfl)) ?_
  intro W base args ds gs before hval0 hW _ hsz0 _
  have hval : ∀ (j : Nat) t v, Try.f7.params[j]? = some t → args[j]? = some v → Value.okWide Try.prog W .any base t v := hval0
  have hsz : (DataW.weightsEach Try.prog (Try.f7.params.toList ++ Rows.bitsBackSpec.plain.varTypes Try.prog) (ds ++ gs)).all (· ≤ reachBytes) = true := hsz0
  have hW' := hW
  obtain ⟨p, q, hA0, hV, rfl, hfz, hnd⟩ := hW
  have hA : DataW.TrodAll enc Try.prog W 0 (fun _ => true) true Try.f7.params.toList args.toList ds p := hA0
  rw [Try.params7] at hA hval hsz
  obtain ⟨v0, vs0, d0, ds0, p0, q0, hargs, rfl, rfl, h0, r0⟩ := trodAll_cons hA
  obtain ⟨v1, vs1, d1, ds1, p1, q1, rfl, rfl, rfl, h1, r1⟩ := trodAll_cons r0
  obtain ⟨v2, vs2, d2, ds2, p2, q2, rfl, rfl, rfl, h2, r2⟩ := trodAll_cons r1
  obtain ⟨v3, vs3, d3, ds3, p3, q3, rfl, rfl, rfl, h3, r3⟩ := trodAll_cons r2
  obtain ⟨rfl, rfl, rfl⟩ := trodAll_nil r3
  obtain rfl : args = #[v0, v1, v2, v3] := by cases args; simp_all
  obtain ⟨rfl, rfl⟩ := trodVars_none hV
  have k0 := h0
  have lt0 : ∀ x ∈ p0, x.block < W.heap.size := by obtain ⟨m, hm⟩ := k0; exact DataW.trod_lt m _ _ _ hm
  have w0 : ∀ n ∈ d0.weights Try.prog 24, n ≤ reachBytes := fun n hn => by simpa using List.all_eq_true.1 hsz n (DataW.weights_mem_each (j := 0) rfl rfl n hn)
  obtain ⟨s0, bs0, n0, rfl, sl0, ln0, lo0, hi0⟩ := bits_open (hval 0 24 v0 rfl rfl) h0 w0
  have k1 := h1
  have lt1 : ∀ x ∈ p1, x.block < W.heap.size := by obtain ⟨m, hm⟩ := k1; exact DataW.trod_lt m _ _ _ hm
  obtain ⟨n1, ev1, _, _, wn1⟩ := open_int Try.underlying3 (hval 1 3 v1 rfl rfl) h1
  subst ev1
  obtain ⟨lo1, hi1⟩ := wf_bounds wn1
  have k2 := h2
  have lt2 : ∀ x ∈ p2, x.block < W.heap.size := by obtain ⟨m, hm⟩ := k2; exact DataW.trod_lt m _ _ _ hm
  obtain ⟨n2, ev2, _, _, wn2⟩ := open_int Try.underlying3 (hval 2 3 v2 rfl rfl) h2
  subst ev2
  obtain ⟨lo2, hi2⟩ := wf_bounds wn2
  have k3 := h3
  have lt3 : ∀ x ∈ p3, x.block < W.heap.size := by obtain ⟨m, hm⟩ := k3; exact DataW.trod_lt m _ _ _ hm
  have w3 : ∀ n ∈ d3.weights Try.prog 24, n ≤ reachBytes := fun n hn => by simpa using List.all_eq_true.1 hsz n (DataW.weights_mem_each (j := 3) rfl rfl n hn)
  obtain ⟨s3, bs3, n3, rfl, sl3, ln3, lo3, hi3⟩ := bits_open (hval 3 24 v3 rfl rfl) h3 w3
  clear hA0 hval0 hsz0
  refine (bitsBack_walk s0 bs0 n0 n1 n2 s3 bs3 n3 W sl0 ln0 lo0 hi0 lo1 hi1 lo2 hi2 sl3 ln3 lo3 hi3).mono fun e W' ⟨he, bel⟩ => ?_
  subst he
  exact ⟨_, rfl, _, _, _, [], _, [], hW', trodAll_mk1 (shut_bool Try.underlying4 _), (trodAll_cons_mk (Below.trod Try.laidOut (by kernel_rfl) (of_decide_eq_true (by kernel_rfl)) k0 bel lt0) (trodAll_cons_mk (Below.trod Try.laidOut (by kernel_rfl) (of_decide_eq_true (by kernel_rfl)) k1 bel lt1) (trodAll_cons_mk (Below.trod Try.laidOut (by kernel_rfl) (of_decide_eq_true (by kernel_rfl)) k2 bel lt2) (trodAll_cons_mk (Below.trod Try.laidOut (by kernel_rfl) (of_decide_eq_true (by kernel_rfl)) k3 bel lt3) trodAll_mk0)))), rfl, bel.frame _, fun h => by cases h⟩

theorem bitsBack_proved : Rows.BitsBackSaid :=
  OpenClaim.holds_of_wide 7 Try.f7 rfl rfl rfl rfl rfl rfl rfl ⟨rfl, rfl, rfl, rfl, rfl⟩ rfl rfl rfl rfl rfl (by kernel_rfl) Try.func7 (by kernel_rfl)
    (of_decide_eq_true (by kernel_rfl)) (by unfold Func.isWrapper; rw [if_neg (of_decide_eq_false (by kernel_rfl))]; exact ⟨rfl, rfl⟩)
    (fun os started H enc _ => bitsBack_lifted os started H enc)
end Go.Proofs.Ytcehdngdkfoioaa
