/- The statement FieldParts: four bytes are two small numbers, the lower one first; what is got is put as these bytes. It holds for all bytes and every integer, without a condition. -/
import Derived.Test.YtmakdenhmdjgjaaFpairs
import Derived.Test.YtmakdenhmdjgjaaCcap
namespace Go.Proofs.Ytmakdenhmdjgjaa
open Go.ChangeShapes Go.WideShapes Go.ChangeAt Go.RowKit

theorem take_parts {bs : List Nat} {i x y z u : Nat} (h : (bs.drop i).take 4 = [x, y, z, u]) : (bs.drop i).take 2 = [x, y] ∧ (bs.drop (i + 2)).take 2 = [z, u] := by
  have e1 : (bs.drop i).take 2 = ((bs.drop i).take 4).take 2 := by rw [List.take_take]; rfl
  have e2 : (bs.drop (i + 2)).take 2 = ((bs.drop i).take 4).drop 2 := by rw [List.drop_take, List.drop_drop]
  rw [e1, e2, h]
  exact ⟨rfl, rfl⟩

theorem le_of_parts (x y z u n : Nat) (hx : x < 256) (hy : y < 256) (hz : z < 256) (hu : u < 256) (hn : n = x + 256 * y + 65536 * z + 16777216 * u) : [] ++ [n / 1 % 256, n / 256 % 256, n / 65536 % 256, n / 16777216 % 256] = [x, y, z, u] := by
  have e1 : n / 1 % 256 = x := by omega
  have e2 : n / 256 % 256 = y := by omega
  have e3 : n / 65536 % 256 = z := by omega
  have e4 : n / 16777216 % 256 = u := by omega
  rw [e1, e2, e3, e4]
  rfl

set_option maxHeartbeats 4000000 in
theorem fieldParts_none (a : Option Addr) (len cap : Nat) (i c : Int) (hc : c ≠ 0) (h : ∀ w, TellsNum 18 #[.slice a len cap, .int .i64 i] 0 c w) (w : World) :
    Calls Try.prog 7 #[.slice a len cap, .int .i64 i] w fun e w' => e = .returned (.bool true) ∧ Below w.heap.size w w' := by
  have H := Lib.hid h
  clear h
  go_enter Try.func7, Try.ntmps7
  go_wp2_with fail
  refine (H.out _).mono ?_
  rintro e w2 ⟨rfl, hb⟩
  have HB := Lib.hid hb
  clear hb
  go_wp2_with fail
  refine (lives_any _).mono ?_
  rintro e w3 ⟨rfl, hb⟩
  have HB3 := Lib.hid (HB.out.trans (hb.mono HB.out.size))
  clear hb
  go_wp2_with fail
  go_ret
  exact ⟨rfl, HB3.out⟩

set_option maxHeartbeats 4000000 in
theorem fieldParts_walk (s : Value) (bs : List Nat) (i : Int) (w : World) (hs : Sl w s bs) (hl : bs.length ≤ 140737488351232) (hcp : Capped s) (_ : -9223372036854775808 ≤ i) (_ : i ≤ 9223372036854775807) :
    Calls Try.prog 7 #[s, .int .i64 i] w fun e w' => e = .returned (.bool true) ∧ Below w.heap.size w w' := by
  obtain ⟨a, len, cap, rfl, hlen⟩ := hs.shape
  have hc : len ≤ cap := hcp _ _ _ rfl
  by_cases h : i < 0 ∨ (bs.length : Int) < i
  · exact fieldParts_none a len cap i 2 (by decide) (fun w => (get4_bad a len cap i (by omega) w).mono fun _ _ ⟨h1, h2⟩ => ⟨h1, h2 ▸ Below.refl _ _⟩) w
  by_cases h2 : (bs.length : Int) - i < 4
  · exact fieldParts_none a len cap i 4 (by decide) (fun w => (get4_short a len cap i (by omega) (by omega) (by omega) (by omega) w).mono fun _ _ ⟨h1, h2⟩ => ⟨h1, h2 ▸ Below.refl _ _⟩) w
  obtain ⟨k, rfl⟩ : ∃ k : Nat, i = (k : Int) := ⟨i.toNat, by omega⟩
  obtain ⟨x, y, z, u, hx⟩ := take4 bs k (by omega)
  obtain ⟨hx2, hx3⟩ := take_parts hx
  have h8 : ∀ b ∈ [x, y, z, u], b < 256 := fun b hb => hs.bytes b (List.mem_of_mem_drop (List.mem_of_mem_take (by rw [hx]; exact hb)))
  have gx : x < 256 := h8 x (by simp)
  have gy : y < 256 := h8 y (by simp)
  have gz : z < 256 := h8 z (by simp)
  have gu : u < 256 := h8 u (by simp)
  obtain ⟨n, hn⟩ : ∃ n, n = x + 256 * y + 65536 * z + 16777216 * u := ⟨_, rfl⟩
  obtain ⟨p, hp⟩ : ∃ p, p = x + 256 * y := ⟨_, rfl⟩
  obtain ⟨q, hq⟩ : ∃ q, q = z + 256 * u := ⟨_, rfl⟩
  have c1 : ∀ w, Sl w (.slice a len cap) bs → TellsNum 18 #[.slice a len cap, .int .i64 (k : Int)] (n : Int) 0 w := fun w hs => by rw [hn]; exact get4_ok a len cap bs k x y z u (by omega) hc hx w hs
  have c2 : ∀ w, Sl w (.slice a len cap) bs → TellsNum 16 #[.slice a len cap, .int .i64 (k : Int)] (p : Int) 0 w := fun w hs => by rw [hp]; exact get2_ok a len cap bs k x y (by omega) hc hx2 w hs
  have c3 : ∀ w, Sl w (.slice a len cap) bs → TellsNum 16 #[.slice a len cap, .int .i64 ((k : Int) + 2)] (q : Int) 0 w := fun w hs => by rw [hq]; exact get2_ok a len cap bs (k + 2) z u (by omega) hc hx3 w hs
  have c4 : ∀ w, TellsRow 13 #[.slice none 0 0, .int .i64 (n : Int)] [x, y, z, u] 0 w := fun w => by
    have := put4_ok none 0 0 [] n (by omega) (by omega) (by omega) w (Sl.nil w)
    rw [le_of_parts x y z u n gx gy gz gu hn] at this
    exact this.mono fun _ _ ⟨a', c', h1, h2, h3⟩ => ⟨a', _, c', h1, h2.sl (by omega), h3⟩
  have c5 : ∀ w, Sl w (.slice a len cap) bs → TellsRow 19 #[.slice a len cap, .int .i64 (k : Int), .int .i64 4] [x, y, z, u] 0 w := fun w hs => by
    have := piece_ok a len cap bs k 4 (by omega) hc (by omega) w hs
    rw [hx] at this
    exact this.mono fun _ _ ⟨a', c', h1, h2, h3⟩ => ⟨a', _, c', h1, h2.sl (by omega), h3⟩
  have w1 : IntKind.i64.wrap ((k : Int) + 2) = (k : Int) + 2 := IntWalk.i64_in _ (by omega)
  have w2 : IntKind.i64.wrap (65536 * (q : Int)) = 65536 * (q : Int) := IntWalk.i64_in _ (by omega)
  have w3 : IntKind.i64.wrap ((p : Int) + 65536 * (q : Int)) = (p : Int) + 65536 * (q : Int) := IntWalk.i64_in _ (by omega)
  have w4 : (n : Int) = (p : Int) + 65536 * (q : Int) := by omega
  have w5 : ((n : Int) == (p : Int) + 65536 * (q : Int)) = true := by rw [beq_iff_eq]; exact w4
  obtain ⟨S, hS⟩ : ∃ S, S = strB [x, y, z, u] := ⟨_, rfl⟩
  have HSS := Lib.hid hS
  have HS := Lib.hid hs
  have C1 := Lib.hid c1
  have C2 := Lib.hid c2
  have C3 := Lib.hid c3
  have C4 := Lib.hid c4
  have C5 := Lib.hid c5
  clear hs hcp hS c1 c2 c3 c4 c5 hx hx2 hx3 h8 gx gy gz gu hn hp hq w4 h h2 hl hlen
  go_enter Try.func7, Try.ntmps7
  go_wp2_with fail
  refine (C1.out _ HS.out).mono ?_
  rintro e v1 ⟨rfl, b1⟩
  have B1 := Lib.hid b1
  clear b1
  go_wp2_with fail
  refine (C2.out _ (HS.out.later B1.out)).mono ?_
  rintro e v2 ⟨rfl, b2⟩
  have B2 := Lib.hid (B1.out.trans (b2.mono B1.out.size))
  clear b2 B1
  go_wp2_with fail
  refine (C3.out _ (HS.out.later B2.out)).mono ?_
  rintro e v3 ⟨rfl, b3⟩
  have B3 := Lib.hid (B2.out.trans (b3.mono B2.out.size))
  clear b3 B2
  go_wp2_with fail
  refine (C4.out _).mono ?_
  rintro e v4 ⟨a4, m4, q4, rfl, s4, b4⟩
  have S4 := Lib.hid s4
  have B4 := Lib.hid (B3.out.trans (b4.mono B3.out.size))
  clear b4 s4 B3
  go_wp2_with fail
  refine (C5.out _ (HS.out.later B4.out)).mono ?_
  rintro e v5 ⟨a5, m5, q5, rfl, s5, b5⟩
  have B5 := Lib.hid (B4.out.trans (b5.mono B4.out.size))
  have r1 := string_of _ _ _ _ _ S (S4.out.later b5) HSS
  have r2 := string_of _ _ _ _ _ S s5 HSS
  clear b5 s5 B4 S4
  go_wp2_with fail
  refine (lives_any _).mono ?_
  rintro e v6 ⟨rfl, b6⟩
  have B6 := Lib.hid (B5.out.trans (b6.mono B5.out.size))
  clear b6
  go_wp2_with fail
  go_ret
  exact ⟨rfl, B6.out⟩

set_option maxRecDepth 100000 in
theorem fieldParts_lifted (os : Os) (started : os.Started) (H : Type) (enc : TypeId × Value → H) :
    ReturnsInHanded {} Try.checked os 7 .any (Rows.fieldPartsSpec.pre6 enc Try.prog Try.f7 Rows.fieldPartsRow.domain false) (Rows.fieldPartsSpec.post enc Try.prog Try.f7 false true false false) := by
  refine returnsInHanded_of_change_sized (C := Try.checked) Try.own started (by kernel_rfl) Try.func7
    (ChangeSpec.witness6 (enc := enc) (C := Try.checked) false ⟨#[], #[.slice none 0 0, .int .i64 0], []⟩ 8 (by kernel_rfl) (by kernel_rfl) (by kernel_rfl) (by kernel_rfl)) ?_
  intro W base args ds gs before hval0 hW _ hsz0 _
  have hval : ∀ (j : Nat) t v, Try.f7.params[j]? = some t → args[j]? = some v → Value.okWide Try.prog W .any base t v := hval0
  have hsz : (DataW.weightsEach Try.prog (Try.f7.params.toList ++ Rows.fieldPartsSpec.plain.varTypes Try.prog) (ds ++ gs)).all (· ≤ reachBytes) = true := hsz0
  have hW' := hW
  obtain ⟨p, q, hA0, hV, rfl, hfz, hnd⟩ := hW
  have hA : DataW.TrodAll enc Try.prog W 0 (fun _ => true) true Try.f7.params.toList args.toList ds p := hA0
  rw [Try.params7] at hA hval hsz
  obtain ⟨v0, vs0, d0, ds0, p0, q0, hargs, rfl, rfl, h0, r0⟩ := trodAll_cons hA
  obtain ⟨v1, vs1, d1, ds1, p1, q1, rfl, rfl, rfl, h1, r1⟩ := trodAll_cons r0
  obtain ⟨rfl, rfl, rfl⟩ := trodAll_nil r1
  obtain rfl : args = #[v0, v1] := by cases args; simp_all
  obtain ⟨rfl, rfl⟩ := trodVars_none hV
  have k0 := h0
  have lt0 : ∀ x ∈ p0, x.block < W.heap.size := by obtain ⟨m, hm⟩ := k0; exact DataW.trod_lt m _ _ _ hm
  have w0 : ∀ n ∈ d0.weights Try.prog 22, n ≤ reachBytes := fun n hn => by simpa using List.all_eq_true.1 hsz n (DataW.weights_mem_each (j := 0) rfl rfl n hn)
  obtain ⟨bs0, sl0, ln0⟩ := bytes_open (hval 0 22 v0 rfl rfl) h0 w0
  have cp0 := bytes_cap (hval 0 22 v0 rfl rfl) h0
  have k1 := h1
  have lt1 : ∀ x ∈ p1, x.block < W.heap.size := by obtain ⟨m, hm⟩ := k1; exact DataW.trod_lt m _ _ _ hm
  obtain ⟨n1, ev1, _, _, wn1⟩ := open_int Try.underlying3 (hval 1 3 v1 rfl rfl) h1
  subst ev1
  obtain ⟨lo1, hi1⟩ := wf_bounds wn1
  clear hA0 hval0 hsz0
  refine (fieldParts_walk v0 bs0 n1 W sl0 ln0 cp0 lo1 hi1).mono fun e W' ⟨he, bel⟩ => ?_
  subst he
  exact ⟨_, rfl, _, _, _, [], _, [], hW', trodAll_mk1 (shut_bool Try.underlying4 _), (trodAll_cons_mk (Below.trod Try.laidOut (by kernel_rfl) (of_decide_eq_true (by kernel_rfl)) k0 bel lt0) (trodAll_cons_mk (Below.trod Try.laidOut (by kernel_rfl) (of_decide_eq_true (by kernel_rfl)) k1 bel lt1) trodAll_mk0)), rfl, bel.frame _, fun h => by cases h⟩

theorem fieldParts_proved : Rows.FieldPartsSaid :=
  OpenClaim.holds_of_wide 7 Try.f7 rfl rfl rfl rfl rfl rfl rfl ⟨rfl, rfl, rfl, rfl, rfl⟩ rfl rfl rfl rfl rfl (by kernel_rfl) Try.func7 (by kernel_rfl)
    (of_decide_eq_true (by kernel_rfl)) (by unfold Func.isWrapper; rw [if_neg (of_decide_eq_false (by kernel_rfl))]; exact ⟨rfl, rfl⟩)
    (fun os started H enc _ => fieldParts_lifted os started H enc)
end Go.Proofs.Ytmakdenhmdjgjaa
