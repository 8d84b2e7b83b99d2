/- The statement FieldPieces: pieces that adjoin are one piece. It holds for all bytes and every three integers, without a condition. -/
import Derived.Test.YtmakdenhmdjgjaaFpairs
import Derived.Test.YtmakdenhmdjgjaaCcap
namespace Go.Proofs.Ytmakdenhmdjgjaa
open Go.ChangeShapes Go.WideShapes Go.ChangeAt Go.RowKit

set_option maxHeartbeats 4000000 in
theorem fieldPieces_none (a : Option Addr) (len cap : Nat) (i k m c : Int) (hc : c ≠ 0) (h : ∀ w, Calls Try.prog 19 #[.slice a len cap, .int .i64 i, .int .i64 k] w fun e w' => e = .returned (.tuple #[.slice none 0 0, .int .i64 c]) ∧ w = w') (w : World) :
    Calls Try.prog 8 #[.slice a len cap, .int .i64 i, .int .i64 k, .int .i64 m] w fun e w' => e = .returned (.bool true) ∧ Below w.heap.size w w' := by
  have H := Lib.hid h
  clear h
  go_enter Try.func8, Try.ntmps8
  go_wp2_with fail
  refine (H.out _).mono ?_
  rintro e w2 ⟨rfl, rfl⟩
  go_wp2_with fail
  refine (lives_any _).mono ?_
  rintro e w3 ⟨rfl, hb⟩
  have HB3 := Lib.hid hb
  clear hb
  go_wp2_with fail
  go_ret
  exact ⟨rfl, HB3.out⟩

set_option maxHeartbeats 4000000 in
theorem fieldPieces_half (a : Option Addr) (len cap : Nat) (bs l : List Nat) (i k : Nat) (m c : Int) (hc : c ≠ 0) (hik : i + k ≤ len) (hl : len ≤ 140737488351232) (hm : m < 0 ∨ (len : Int) - (i : Int) - (k : Int) < m)
    (h : ∀ w, Sl w (.slice a len cap) bs → TellsRow 19 #[.slice a len cap, .int .i64 (i : Int), .int .i64 (k : Int)] l 0 w)
    (h2 : ∀ w, Calls Try.prog 19 #[.slice a len cap, .int .i64 ((i : Int) + (k : Int)), .int .i64 m] w fun e w' => e = .returned (.tuple #[.slice none 0 0, .int .i64 c]) ∧ w = w') (w : World) (hs : Sl w (.slice a len cap) bs) :
    Calls Try.prog 8 #[.slice a len cap, .int .i64 (i : Int), .int .i64 (k : Int), .int .i64 m] w fun e w' => e = .returned (.bool true) ∧ Below w.heap.size w w' := by
  have w1 : IntKind.i64.wrap ((i : Int) + (k : Int)) = (i : Int) + (k : Int) := IntWalk.i64_in _ (by omega)
  have w2 : IntKind.i64.wrap ((len : Int) - (i : Int)) = (len : Int) - (i : Int) := IntWalk.i64_in _ (by omega)
  have w3 : IntKind.i64.wrap ((len : Int) - (i : Int) - (k : Int)) = (len : Int) - (i : Int) - (k : Int) := IntWalk.i64_in _ (by omega)
  have HS := Lib.hid hs
  have H := Lib.hid h
  have H2 := Lib.hid h2
  clear h h2 hs
  rcases hm with hm | hm
  · go_enter Try.func8, Try.ntmps8
    go_wp2_with fail
    refine (H.out _ HS.out).mono ?_
    rintro e v1 ⟨a1, m1, q1, rfl, _, b1⟩
    have B1 := Lib.hid b1
    clear b1
    go_wp2_with fail
    refine (H2.out _).mono ?_
    rintro e v2 ⟨rfl, rfl⟩
    go_wp2_with fail
    refine (lives_any _).mono ?_
    rintro e v3 ⟨rfl, hb⟩
    have HB3 := Lib.hid (B1.out.trans (hb.mono B1.out.size))
    clear hb
    go_wp2_with fail
    go_ret
    exact ⟨rfl, HB3.out⟩
  · by_cases h0 : m < 0
    · omega
    · go_enter Try.func8, Try.ntmps8
      go_wp2_with fail
      refine (H.out _ HS.out).mono ?_
      rintro e v1 ⟨a1, m1, q1, rfl, _, b1⟩
      have B1 := Lib.hid b1
      clear b1
      go_wp2_with fail
      refine (H2.out _).mono ?_
      rintro e v2 ⟨rfl, rfl⟩
      go_wp2_with fail
      refine (lives_any _).mono ?_
      rintro e v3 ⟨rfl, hb⟩
      have HB3 := Lib.hid (B1.out.trans (hb.mono B1.out.size))
      clear hb
      go_wp2_with fail
      go_ret
      exact ⟨rfl, HB3.out⟩

theorem strB_size (l : List Nat) : (strB l).size = l.length := by rw [strB, strOfNums_size, List.length_map]
theorem strB_append (l m : List Nat) : strB (l ++ m) = strB l ++ strB m := by
  simp [strB, strOfNums, ByteArray.ext_iff]

theorem take_join (bs : List Nat) (i k m : Nat) : (bs.drop i).take (k + m) = (bs.drop i).take k ++ (bs.drop (i + k)).take m := by
  rw [List.take_add, List.drop_drop]

set_option maxHeartbeats 4000000 in
theorem fieldPieces_whole (a : Option Addr) (len cap : Nat) (bs l1 l2 : List Nat) (i k m : Nat) (hik : i + k + m ≤ len) (hl : len ≤ 140737488351232) (hl1 : l1.length ≤ 140737488351232) (hl2 : l2.length ≤ 140737488351232)
    (h : ∀ w, Sl w (.slice a len cap) bs → TellsRow 19 #[.slice a len cap, .int .i64 (i : Int), .int .i64 (k : Int)] l1 0 w)
    (h2 : ∀ w, Sl w (.slice a len cap) bs → TellsRow 19 #[.slice a len cap, .int .i64 ((i : Int) + (k : Int)), .int .i64 (m : Int)] l2 0 w)
    (h3 : ∀ w, Sl w (.slice a len cap) bs → TellsRow 19 #[.slice a len cap, .int .i64 (i : Int), .int .i64 ((k : Int) + (m : Int))] (l1 ++ l2) 0 w) (w : World) (hs : Sl w (.slice a len cap) bs) :
    Calls Try.prog 8 #[.slice a len cap, .int .i64 (i : Int), .int .i64 (k : Int), .int .i64 (m : Int)] w fun e w' => e = .returned (.bool true) ∧ Below w.heap.size w w' := by
  have w1 : IntKind.i64.wrap ((i : Int) + (k : Int)) = (i : Int) + (k : Int) := IntWalk.i64_in _ (by omega)
  have w2 : IntKind.i64.wrap ((k : Int) + (m : Int)) = (k : Int) + (m : Int) := IntWalk.i64_in _ (by omega)
  obtain ⟨S1, hS1⟩ : ∃ S, S = strB l1 := ⟨_, rfl⟩
  obtain ⟨S2, hS2⟩ : ∃ S, S = strB l2 := ⟨_, rfl⟩
  obtain ⟨S3, hS3⟩ : ∃ S, S = strB (l1 ++ l2) := ⟨_, rfl⟩
  have hz : ¬ 9223372036854775807 < S1.size + S2.size := by rw [hS1, hS2, strB_size, strB_size]; omega
  have he : S3.toList = (S1 ++ S2).toList := by rw [hS1, hS2, hS3, strB_append]
  have HS3 := Lib.hid hS3
  have HS1 := Lib.hid hS1
  have HS2 := Lib.hid hS2
  have HS := Lib.hid hs
  have H := Lib.hid h
  have H2 := Lib.hid h2
  have H3 := Lib.hid h3
  clear h h2 h3 hs hS1 hS2 hS3 hl1 hl2
  go_enter Try.func8, Try.ntmps8
  go_wp2_with fail
  refine (H.out _ HS.out).mono ?_
  rintro e v1 ⟨a1, m1, q1, rfl, s1, b1⟩
  have A1 := Lib.hid s1
  have B1 := Lib.hid b1
  clear b1 s1
  go_wp2_with fail
  refine (H2.out _ (HS.out.later B1.out)).mono ?_
  rintro e v2 ⟨a2, m2, q2, rfl, s2, b2⟩
  have A2 := Lib.hid (A1.out.later b2)
  have C2 := Lib.hid s2
  have B2 := Lib.hid (B1.out.trans (b2.mono B1.out.size))
  clear b2 s2 A1 B1
  go_wp2_with fail
  refine (H3.out _ (HS.out.later B2.out)).mono ?_
  rintro e v3 ⟨a3, m3, q3, rfl, s3, b3⟩
  have r1 := string_of _ _ _ _ _ S1 (A2.out.later b3) HS1
  have r2 := string_of _ _ _ _ _ S2 (C2.out.later b3) HS2
  have r3 := string_of _ _ _ _ _ S3 s3 HS3
  have B3 := Lib.hid (B2.out.trans (b3.mono B2.out.size))
  clear b3 s3 A2 C2 B2
  go_wp2_with fail
  refine (lives_any _).mono ?_
  rintro e v4 ⟨rfl, b4⟩
  have B4 := Lib.hid (B3.out.trans (b4.mono B3.out.size))
  clear b4
  go_wp2_with fail
  go_ret
  exact ⟨rfl, B4.out⟩

set_option maxHeartbeats 4000000 in
theorem fieldPieces_walk (s : Value) (bs : List Nat) (i k m : Int) (w : World) (hs : Sl w s bs) (hl : bs.length ≤ 140737488351232) (hcp : Capped s) (_ : -9223372036854775808 ≤ i) (_ : i ≤ 9223372036854775807) (_ : -9223372036854775808 ≤ k) (_ : k ≤ 9223372036854775807) (_ : -9223372036854775808 ≤ m) (_ : m ≤ 9223372036854775807) :
    Calls Try.prog 8 #[s, .int .i64 i, .int .i64 k, .int .i64 m] w fun e w' => e = .returned (.bool true) ∧ Below w.heap.size w w' := by
  obtain ⟨a, len, cap, rfl, hlen⟩ := hs.shape
  have hc : len ≤ cap := hcp _ _ _ rfl
  by_cases h : i < 0 ∨ (bs.length : Int) < i ∨ k < 0
  · exact fieldPieces_none a len cap i k m 2 (by decide) (fun w => piece_bad a len cap i k (by omega) w) w
  by_cases h2 : (bs.length : Int) - i < k
  · exact fieldPieces_none a len cap i k m 4 (by decide) (fun w => piece_short a len cap i k (by omega) (by omega) (by omega) (by omega) w) w
  obtain ⟨p, rfl⟩ : ∃ p : Nat, i = (p : Int) := ⟨i.toNat, by omega⟩
  obtain ⟨q, rfl⟩ : ∃ q : Nat, k = (q : Int) := ⟨k.toNat, by omega⟩
  have c1 : ∀ w, Sl w (.slice a len cap) bs → TellsRow 19 #[.slice a len cap, .int .i64 (p : Int), .int .i64 (q : Int)] ((bs.drop p).take q) 0 w := fun w hs =>
    (piece_ok a len cap bs p q (by omega) hc (by omega) w hs).mono fun _ _ ⟨a', c', h1, h2, h3⟩ => ⟨a', _, c', h1, h2.sl (by omega), h3⟩
  by_cases h3 : m < 0
  · exact fieldPieces_half a len cap bs _ p q m 2 (by decide) (by omega) (by omega) (Or.inl h3) c1 (fun w => piece_bad a len cap _ m (by omega) w) w hs
  by_cases h4 : (len : Int) - (p : Int) - (q : Int) < m
  · exact fieldPieces_half a len cap bs _ p q m 4 (by decide) (by omega) (by omega) (Or.inr h4) c1 (fun w => piece_short a len cap _ m (by omega) (by omega) (by omega) (by omega) w) w hs
  obtain ⟨r, rfl⟩ : ∃ r : Nat, m = (r : Int) := ⟨m.toNat, by omega⟩
  refine fieldPieces_whole a len cap bs _ ((bs.drop (p + q)).take r) p q r (by omega) (by omega) ?_ ?_ c1 (fun w hs => ?_) (fun w hs => ?_) w hs
  · rw [List.length_take]; omega
  · rw [List.length_take]; omega
  · have := piece_ok a len cap bs (p + q) r (by omega) hc (by omega) w hs
    exact this.mono fun _ _ ⟨a', c', h1, h2, h3⟩ => ⟨a', _, c', h1, h2.sl (by omega), h3⟩
  · have := piece_ok a len cap bs p (q + r) (by omega) hc (by omega) w hs
    rw [take_join] at this
    exact this.mono fun _ _ ⟨a', c', h1, h2, h3⟩ => ⟨a', _, c', h1, h2.sl (by omega), h3⟩


set_option maxRecDepth 100000 in
theorem fieldPieces_lifted (os : Os) (started : os.Started) (H : Type) (enc : TypeId × Value → H) :
    ReturnsInHanded {} Try.checked os 8 .any (Rows.fieldPiecesSpec.pre6 enc Try.prog Try.f8 Rows.fieldPiecesRow.domain false) (Rows.fieldPiecesSpec.post enc Try.prog Try.f8 false true false false) := by
  refine returnsInHanded_of_change_sized (C := Try.checked) Try.own started (by kernel_rfl) Try.func8
    (ChangeSpec.witness6 (enc := enc) (C := Try.checked) false ⟨#[], #[.slice none 0 0, .int .i64 0, .int .i64 0, .int .i64 0], []⟩ 8 (by kernel_rfl) (by kernel_rfl) (by kernel_rfl) (by kernel_rfl)) ?_
  intro W base args ds gs before hval0 hW _ hsz0 _
  have hval : ∀ (j : Nat) t v, Try.f8.params[j]? = some t → args[j]? = some v → Value.okWide Try.prog W .any base t v := hval0
  have hsz : (DataW.weightsEach Try.prog (Try.f8.params.toList ++ Rows.fieldPiecesSpec.plain.varTypes Try.prog) (ds ++ gs)).all (· ≤ reachBytes) = true := hsz0
  have hW' := hW
  obtain ⟨p, q, hA0, hV, rfl, hfz, hnd⟩ := hW
  have hA : DataW.TrodAll enc Try.prog W 0 (fun _ => true) true Try.f8.params.toList args.toList ds p := hA0
  rw [Try.params8] at hA hval hsz
  obtain ⟨v0, vs0, d0, ds0, p0, q0, hargs, rfl, rfl, h0, r0⟩ := trodAll_cons hA
  obtain ⟨v1, vs1, d1, ds1, p1, q1, rfl, rfl, rfl, h1, r1⟩ := trodAll_cons r0
  obtain ⟨v2, vs2, d2, ds2, p2, q2, rfl, rfl, rfl, h2, r2⟩ := trodAll_cons r1
  obtain ⟨v3, vs3, d3, ds3, p3, q3, rfl, rfl, rfl, h3, r3⟩ := trodAll_cons r2
  obtain ⟨rfl, rfl, rfl⟩ := trodAll_nil r3
  obtain rfl : args = #[v0, v1, v2, v3] := by cases args; simp_all
  obtain ⟨rfl, rfl⟩ := trodVars_none hV
  have k0 := h0
  have lt0 : ∀ x ∈ p0, x.block < W.heap.size := by obtain ⟨m, hm⟩ := k0; exact DataW.trod_lt m _ _ _ hm
  have w0 : ∀ n ∈ d0.weights Try.prog 22, n ≤ reachBytes := fun n hn => by simpa using List.all_eq_true.1 hsz n (DataW.weights_mem_each (j := 0) rfl rfl n hn)
  obtain ⟨bs0, sl0, ln0⟩ := bytes_open (hval 0 22 v0 rfl rfl) h0 w0
  have cp0 := bytes_cap (hval 0 22 v0 rfl rfl) h0
  have k1 := h1
  have lt1 : ∀ x ∈ p1, x.block < W.heap.size := by obtain ⟨m, hm⟩ := k1; exact DataW.trod_lt m _ _ _ hm
  obtain ⟨n1, ev1, _, _, wn1⟩ := open_int Try.underlying3 (hval 1 3 v1 rfl rfl) h1
  subst ev1
  obtain ⟨lo1, hi1⟩ := wf_bounds wn1
  have k2 := h2
  have lt2 : ∀ x ∈ p2, x.block < W.heap.size := by obtain ⟨m, hm⟩ := k2; exact DataW.trod_lt m _ _ _ hm
  obtain ⟨n2, ev2, _, _, wn2⟩ := open_int Try.underlying3 (hval 2 3 v2 rfl rfl) h2
  subst ev2
  obtain ⟨lo2, hi2⟩ := wf_bounds wn2
  have k3 := h3
  have lt3 : ∀ x ∈ p3, x.block < W.heap.size := by obtain ⟨m, hm⟩ := k3; exact DataW.trod_lt m _ _ _ hm
  obtain ⟨n3, ev3, _, _, wn3⟩ := open_int Try.underlying3 (hval 3 3 v3 rfl rfl) h3
  subst ev3
  obtain ⟨lo3, hi3⟩ := wf_bounds wn3
  clear hA0 hval0 hsz0
  refine (fieldPieces_walk v0 bs0 n1 n2 n3 W sl0 ln0 cp0 lo1 hi1 lo2 hi2 lo3 hi3).mono fun e W' ⟨he, bel⟩ => ?_
  subst he
  exact ⟨_, rfl, _, _, _, [], _, [], hW', trodAll_mk1 (shut_bool Try.underlying4 _), (trodAll_cons_mk (Below.trod Try.laidOut (by kernel_rfl) (of_decide_eq_true (by kernel_rfl)) k0 bel lt0) (trodAll_cons_mk (Below.trod Try.laidOut (by kernel_rfl) (of_decide_eq_true (by kernel_rfl)) k1 bel lt1) (trodAll_cons_mk (Below.trod Try.laidOut (by kernel_rfl) (of_decide_eq_true (by kernel_rfl)) k2 bel lt2) (trodAll_cons_mk (Below.trod Try.laidOut (by kernel_rfl) (of_decide_eq_true (by kernel_rfl)) k3 bel lt3) trodAll_mk0)))), rfl, bel.frame _, fun h => by cases h⟩

theorem fieldPieces_proved : Rows.FieldPiecesSaid :=
  OpenClaim.holds_of_wide 8 Try.f8 rfl rfl rfl rfl rfl rfl rfl ⟨rfl, rfl, rfl, rfl, rfl⟩ rfl rfl rfl rfl rfl (by kernel_rfl) Try.func8 (by kernel_rfl)
    (of_decide_eq_true (by kernel_rfl)) (by unfold Func.isWrapper; rw [if_neg (of_decide_eq_false (by kernel_rfl))]; exact ⟨rfl, rfl⟩)
    (fun os started H enc _ => fieldPieces_lifted os started H enc)
end Go.Proofs.Ytmakdenhmdjgjaa
