/- The statement PathBack. It holds for every input, without a condition. -/
import Derived.Test.YtghoajhfndnafaaParg

namespace Go.Proofs.Ytghoajhfndnafaa
set_option maxRecDepth 100000
open Go.ChangeShapes Go.WideShapes Go.ChangeAt Go.RowKit

set_option maxRecDepth 100000 in
set_option maxHeartbeats 4000000 in
theorem pathBack_a1 (p : Tx) (v : Value) (l : List Tx) (w : World) (hl : Ss w v l) (hn : Pn.path (Pn.names p) = true) (h40 : 40 < l.length) :
    Calls Try.prog 8 #[.string (bx p), v] w fun e w' => e = .returned (.bool true) ∧ Below w.heap.size w w' := by
  have LV := Lib.hid lives_any
  have C1 := Lib.hid (fun w => split_any p w)
  have n8 := Pn.path_len hn
  have C2 := Lib.hid (fun v w (h : Ss w v (Pn.names p)) => join_any v (Pn.names p) w h (by omega))
  have j1 : (Pn.joined (Pn.names p)).1 = p := by simp only [Pn.joined, hn, if_true]; exact Pn.join_names p
  rw [j1, hn] at C2
  rw [split_fst, hn, if_pos rfl] at C1
  clear n8 j1
  have HL := Lib.hid hl
  obtain ⟨a, c, rfl, -⟩ := hl
  have tp := bx_toList p
  have i40 : decide ((l.length : Int) > 40) = true := by simp; omega
  have n1 : (p != p) = false := by simp
  generalize Pn.names p = L at *
  generalize l.length = n at *
  generalize bx p = P at *
  clear h40
  clear hn
  go_enter Try.func8, Try.ntmps8
  go_wp2_with fail
  refine (C1.out _).mono ?_
  rintro e w1 ⟨v0, rfl, ho, b1⟩
  have B1 := Lib.hid b1
  have HO := Lib.hid ho.ss
  clear b1 ho
  simp only [ec]
  go_wp2_with fail
  refine (C2.out _ _ HO.out).mono ?_
  rintro e w2 ⟨rfl, b2⟩
  have B2 := Lib.hid (B1.out.trans (b2.mono B1.out.size))
  clear b2 B1
  simp only [ec]
  go_wp2_with fail
  refine (LV.out _).mono ?_
  rintro e w9 ⟨rfl, b9⟩
  go_wp2_with fail
  go_ret
  exact ⟨rfl, B2.out.trans (b9.mono B2.out.size)⟩

set_option maxRecDepth 100000 in
set_option maxHeartbeats 4000000 in
theorem pathBack_a2 (p : Tx) (v : Value) (l : List Tx) (w : World) (hl : Ss w v l) (hn : Pn.path (Pn.names p) = true) (h40 : l.length ≤ 40) (hp : Pn.path l = false) :
    Calls Try.prog 8 #[.string (bx p), v] w fun e w' => e = .returned (.bool true) ∧ Below w.heap.size w w' := by
  have LV := Lib.hid lives_any
  have C1 := Lib.hid (fun w => split_any p w)
  have n8 := Pn.path_len hn
  have C2 := Lib.hid (fun v w (h : Ss w v (Pn.names p)) => join_any v (Pn.names p) w h (by omega))
  have j1 : (Pn.joined (Pn.names p)).1 = p := by simp only [Pn.joined, hn, if_true]; exact Pn.join_names p
  rw [j1, hn] at C2
  rw [split_fst, hn, if_pos rfl] at C1
  clear n8 j1
  have C3 := Lib.hid (fun v w (h : Ss w v l) => join_any v l w h (by omega))
  have j3 : (Pn.joined l).1 = [] := by simp only [Pn.joined, hp]; rfl
  have e0 : bx ([] : Tx) = ⟨#[]⟩ := rfl
  rw [j3, hp, e0] at C3
  clear j3 e0
  have HL := Lib.hid hl
  obtain ⟨a, c, rfl, -⟩ := hl
  have tp := bx_toList p
  have i40 : decide ((l.length : Int) > 40) = false := by simp; omega
  have n1 : (p != p) = false := by simp
  generalize Pn.names p = L at *
  generalize l.length = n at *
  generalize bx p = P at *
  clear h40 hp
  clear hn
  go_enter Try.func8, Try.ntmps8
  go_wp2_with fail
  refine (C1.out _).mono ?_
  rintro e w1 ⟨v0, rfl, ho, b1⟩
  have B1 := Lib.hid b1
  have HO := Lib.hid ho.ss
  clear b1 ho
  simp only [ec]
  go_wp2_with fail
  refine (C2.out _ _ HO.out).mono ?_
  rintro e w2 ⟨rfl, b2⟩
  have B2 := Lib.hid (B1.out.trans (b2.mono B1.out.size))
  clear b2 B1
  simp only [ec]
  go_wp2_with fail
  refine (C3.out _ _ (HL.out.later B2.out)).mono ?_
  rintro e w5 ⟨rfl, b5⟩
  have B5 := Lib.hid (B2.out.trans (b5.mono B2.out.size))
  clear b5 B2
  simp only [ec]
  go_wp2_with fail
  refine (LV.out _).mono ?_
  rintro e w9 ⟨rfl, b9⟩
  go_wp2_with fail
  go_ret
  exact ⟨rfl, B5.out.trans (b9.mono B5.out.size)⟩

set_option maxRecDepth 100000 in
set_option maxHeartbeats 4000000 in
theorem pathBack_a3 (p : Tx) (v : Value) (l : List Tx) (w : World) (hl : Ss w v l) (hn : Pn.path (Pn.names p) = true) (h40 : l.length ≤ 40) (hp : Pn.path l = true) :
    Calls Try.prog 8 #[.string (bx p), v] w fun e w' => e = .returned (.bool true) ∧ Below w.heap.size w w' := by
  have LV := Lib.hid lives_any
  have C1 := Lib.hid (fun w => split_any p w)
  have n8 := Pn.path_len hn
  have C2 := Lib.hid (fun v w (h : Ss w v (Pn.names p)) => join_any v (Pn.names p) w h (by omega))
  have j1 : (Pn.joined (Pn.names p)).1 = p := by simp only [Pn.joined, hn, if_true]; exact Pn.join_names p
  rw [j1, hn] at C2
  rw [split_fst, hn, if_pos rfl] at C1
  clear n8 j1
  have C3 := Lib.hid (fun v w (h : Ss w v l) => join_any v l w h (by omega))
  have j3 : (Pn.joined l).1 = Pn.join l := by simp only [Pn.joined, hp]; rfl
  have C4 := Lib.hid (fun w => split_any (Pn.join l) w)
  have hnj := Pn.names_join l (Pn.path_name hp)
  rw [split_fst, hnj, hp, if_pos rfl] at C4
  have C5 := Lib.hid (fun v1 v2 w (h1 : Ss w v1 l) (h2 : Ss w v2 l) => rsame_any v1 v2 l l w h1 h2 (by omega))
  simp only [decide_true] at C5
  rw [j3, hp] at C3
  generalize bx (Pn.join l) = J at C3 C4
  clear j3 hnj
  have HL := Lib.hid hl
  obtain ⟨a, c, rfl, -⟩ := hl
  have tp := bx_toList p
  have i40 : decide ((l.length : Int) > 40) = false := by simp; omega
  have n1 : (p != p) = false := by simp
  generalize Pn.names p = L at *
  generalize l.length = n at *
  generalize bx p = P at *
  clear h40 hp
  clear hn
  go_enter Try.func8, Try.ntmps8
  go_wp2_with fail
  refine (C1.out _).mono ?_
  rintro e w1 ⟨v0, rfl, ho, b1⟩
  have B1 := Lib.hid b1
  have HO := Lib.hid ho.ss
  clear b1 ho
  simp only [ec]
  go_wp2_with fail
  refine (C2.out _ _ HO.out).mono ?_
  rintro e w2 ⟨rfl, b2⟩
  have B2 := Lib.hid (B1.out.trans (b2.mono B1.out.size))
  clear b2 B1
  simp only [ec]
  go_wp2_with fail
  refine (C3.out _ _ (HL.out.later B2.out)).mono ?_
  rintro e w5 ⟨rfl, b5⟩
  have B5 := Lib.hid (B2.out.trans (b5.mono B2.out.size))
  clear b5 B2
  simp only [ec]
  go_wp2_with fail
  refine (C4.out _).mono ?_
  rintro e w6 ⟨v6, rfl, ho6, b6⟩
  have B6 := Lib.hid (B5.out.trans (b6.mono B5.out.size))
  have HO6 := Lib.hid ho6.ss
  clear b6 B5 ho6
  simp only [ec]
  go_wp2_with fail
  refine (C5.out _ _ _ HO6.out (HL.out.later B6.out)).mono ?_
  rintro e w7 ⟨rfl, b7⟩
  have B7 := Lib.hid (B6.out.trans (b7.mono B6.out.size))
  clear b7 B6
  go_wp2_with fail
  refine (LV.out _).mono ?_
  rintro e w9 ⟨rfl, b9⟩
  go_wp2_with fail
  go_ret
  exact ⟨rfl, B7.out.trans (b9.mono B7.out.size)⟩

set_option maxRecDepth 100000 in
set_option maxHeartbeats 4000000 in
theorem pathBack_b1 (p : Tx) (v : Value) (l : List Tx) (w : World) (hl : Ss w v l) (hn : Pn.path (Pn.names p) = false) (h40 : 40 < l.length) :
    Calls Try.prog 8 #[.string (bx p), v] w fun e w' => e = .returned (.bool true) ∧ Below w.heap.size w w' := by
  have LV := Lib.hid lives_any
  have C1 := Lib.hid (fun w => split_any p w)
  rw [hn] at C1
  have HL := Lib.hid hl
  obtain ⟨a, c, rfl, -⟩ := hl
  have tp := bx_toList p
  have i40 : decide ((l.length : Int) > 40) = true := by simp; omega
  generalize (Pn.split p).1 = L at *
  generalize l.length = n at *
  generalize bx p = P at *
  clear h40
  clear hn
  go_enter Try.func8, Try.ntmps8
  go_wp2_with fail
  refine (C1.out _).mono ?_
  rintro e w1 ⟨v0, rfl, ho, b1⟩
  have B1 := Lib.hid b1
  have HO := Lib.hid ho.ss
  clear b1 ho
  simp only [ec]
  go_wp2_with fail
  refine (LV.out _).mono ?_
  rintro e w9 ⟨rfl, b9⟩
  go_wp2_with fail
  go_ret
  exact ⟨rfl, B1.out.trans (b9.mono B1.out.size)⟩

set_option maxRecDepth 100000 in
set_option maxHeartbeats 4000000 in
theorem pathBack_b2 (p : Tx) (v : Value) (l : List Tx) (w : World) (hl : Ss w v l) (hn : Pn.path (Pn.names p) = false) (h40 : l.length ≤ 40) (hp : Pn.path l = false) :
    Calls Try.prog 8 #[.string (bx p), v] w fun e w' => e = .returned (.bool true) ∧ Below w.heap.size w w' := by
  have LV := Lib.hid lives_any
  have C1 := Lib.hid (fun w => split_any p w)
  rw [hn] at C1
  have C3 := Lib.hid (fun v w (h : Ss w v l) => join_any v l w h (by omega))
  have j3 : (Pn.joined l).1 = [] := by simp only [Pn.joined, hp]; rfl
  have e0 : bx ([] : Tx) = ⟨#[]⟩ := rfl
  rw [j3, hp, e0] at C3
  clear j3 e0
  have HL := Lib.hid hl
  obtain ⟨a, c, rfl, -⟩ := hl
  have tp := bx_toList p
  have i40 : decide ((l.length : Int) > 40) = false := by simp; omega
  generalize (Pn.split p).1 = L at *
  generalize l.length = n at *
  generalize bx p = P at *
  clear h40 hp
  clear hn
  go_enter Try.func8, Try.ntmps8
  go_wp2_with fail
  refine (C1.out _).mono ?_
  rintro e w1 ⟨v0, rfl, ho, b1⟩
  have B1 := Lib.hid b1
  have HO := Lib.hid ho.ss
  clear b1 ho
  simp only [ec]
  go_wp2_with fail
  refine (C3.out _ _ (HL.out.later B1.out)).mono ?_
  rintro e w5 ⟨rfl, b5⟩
  have B5 := Lib.hid (B1.out.trans (b5.mono B1.out.size))
  clear b5 B1
  simp only [ec]
  go_wp2_with fail
  refine (LV.out _).mono ?_
  rintro e w9 ⟨rfl, b9⟩
  go_wp2_with fail
  go_ret
  exact ⟨rfl, B5.out.trans (b9.mono B5.out.size)⟩

set_option maxRecDepth 100000 in
set_option maxHeartbeats 4000000 in
theorem pathBack_b3 (p : Tx) (v : Value) (l : List Tx) (w : World) (hl : Ss w v l) (hn : Pn.path (Pn.names p) = false) (h40 : l.length ≤ 40) (hp : Pn.path l = true) :
    Calls Try.prog 8 #[.string (bx p), v] w fun e w' => e = .returned (.bool true) ∧ Below w.heap.size w w' := by
  have LV := Lib.hid lives_any
  have C1 := Lib.hid (fun w => split_any p w)
  rw [hn] at C1
  have C3 := Lib.hid (fun v w (h : Ss w v l) => join_any v l w h (by omega))
  have j3 : (Pn.joined l).1 = Pn.join l := by simp only [Pn.joined, hp]; rfl
  have C4 := Lib.hid (fun w => split_any (Pn.join l) w)
  have hnj := Pn.names_join l (Pn.path_name hp)
  rw [split_fst, hnj, hp, if_pos rfl] at C4
  have C5 := Lib.hid (fun v1 v2 w (h1 : Ss w v1 l) (h2 : Ss w v2 l) => rsame_any v1 v2 l l w h1 h2 (by omega))
  simp only [decide_true] at C5
  rw [j3, hp] at C3
  generalize bx (Pn.join l) = J at C3 C4
  clear j3 hnj
  have HL := Lib.hid hl
  obtain ⟨a, c, rfl, -⟩ := hl
  have tp := bx_toList p
  have i40 : decide ((l.length : Int) > 40) = false := by simp; omega
  generalize (Pn.split p).1 = L at *
  generalize l.length = n at *
  generalize bx p = P at *
  clear h40 hp
  clear hn
  go_enter Try.func8, Try.ntmps8
  go_wp2_with fail
  refine (C1.out _).mono ?_
  rintro e w1 ⟨v0, rfl, ho, b1⟩
  have B1 := Lib.hid b1
  have HO := Lib.hid ho.ss
  clear b1 ho
  simp only [ec]
  go_wp2_with fail
  refine (C3.out _ _ (HL.out.later B1.out)).mono ?_
  rintro e w5 ⟨rfl, b5⟩
  have B5 := Lib.hid (B1.out.trans (b5.mono B1.out.size))
  clear b5 B1
  simp only [ec]
  go_wp2_with fail
  refine (C4.out _).mono ?_
  rintro e w6 ⟨v6, rfl, ho6, b6⟩
  have B6 := Lib.hid (B5.out.trans (b6.mono B5.out.size))
  have HO6 := Lib.hid ho6.ss
  clear b6 B5 ho6
  simp only [ec]
  go_wp2_with fail
  refine (C5.out _ _ _ HO6.out (HL.out.later B6.out)).mono ?_
  rintro e w7 ⟨rfl, b7⟩
  have B7 := Lib.hid (B6.out.trans (b7.mono B6.out.size))
  clear b7 B6
  go_wp2_with fail
  refine (LV.out _).mono ?_
  rintro e w9 ⟨rfl, b9⟩
  go_wp2_with fail
  go_ret
  exact ⟨rfl, B7.out.trans (b9.mono B7.out.size)⟩

theorem pathBack_walk (p : Tx) (v : Value) (l : List Tx) (w : World) (_lp : p.length ≤ 9223372036854775807) (hl : Ss w v l) :
    Calls Try.prog 8 #[.string (bx p), v] w fun e w' => e = .returned (.bool true) ∧ Below w.heap.size w w' := by
  by_cases h40 : 40 < l.length
  · cases hn : Pn.path (Pn.names p) with
    | true => exact pathBack_a1 p v l w hl hn h40
    | false => exact pathBack_b1 p v l w hl hn h40
  · have h40' : l.length ≤ 40 := by omega
    cases hp : Pn.path l with
    | false =>
      cases hn : Pn.path (Pn.names p) with
      | true => exact pathBack_a2 p v l w hl hn h40' hp
      | false => exact pathBack_b2 p v l w hl hn h40' hp
    | true =>
      cases hn : Pn.path (Pn.names p) with
      | true => exact pathBack_a3 p v l w hl hn h40' hp
      | false => exact pathBack_b3 p v l w hl hn h40' hp

set_option maxRecDepth 100000 in
theorem pathBack_lifted (os : Os) (started : os.Started) (H : Type) (enc : TypeId × Value → H) :
    ReturnsInHanded {} Try.checked os 8 .any (Rows.pathBackSpec.pre6 enc Try.prog Try.f8 Rows.pathBackRow.domain false) (Rows.pathBackSpec.post enc Try.prog Try.f8 false true false false) := by
  refine returnsInHanded_of_change_sized (C := Try.checked) Try.own started (by kernel_rfl) Try.func8
    (ChangeSpec.witness6 (enc := enc) (C := Try.checked) false ⟨#[], #[.string ByteArray.empty, .slice none 0 0], []⟩ 8 (by kernel_rfl) (by kernel_rfl) (by kernel_rfl) (by kernel_rfl)) ?_
  intro W base args ds gs before hval0 hW _ hsz0 _
  have hval : ∀ (j : Nat) t v, Try.f8.params[j]? = some t → args[j]? = some v → Value.okWide Try.prog W .any base t v := hval0
  have hsz : (DataW.weightsEach Try.prog (Try.f8.params.toList ++ Rows.pathBackSpec.plain.varTypes Try.prog) (ds ++ gs)).all (· ≤ reachBytes) = true := hsz0
  have hW' := hW
  obtain ⟨p, q, hA0, hV, rfl, hfz, hnd⟩ := hW
  have hA : DataW.TrodAll enc Try.prog W 0 (fun _ => true) true Try.f8.params.toList args.toList ds p := hA0
  rw [Try.params8] at hA hval hsz
  obtain ⟨v0, vs0, d0, ds0, p0, q0, hargs, rfl, rfl, h0, r0⟩ := trodAll_cons hA
  obtain ⟨v1, vs1, d1, ds1, p1, q1, rfl, rfl, rfl, h1, r1⟩ := trodAll_cons r0
  obtain ⟨rfl, rfl, rfl⟩ := trodAll_nil r1
  obtain rfl : args = #[v0, v1] := by cases args; simp_all
  obtain ⟨rfl, rfl⟩ := trodVars_none hV
  have k0 := h0
  have lt0 : ∀ x ∈ p0, x.block < W.heap.size := by obtain ⟨m, hm⟩ := k0; exact DataW.trod_lt m _ _ _ hm
  obtain ⟨S0, ev0, ed0, _, wn0⟩ := Go.ChangeMaps.open_string Try.underlying9 (hval 0 9 v0 rfl rfl) h0
  subst ev0
  obtain ⟨x0, rfl⟩ : ∃ x, S0 = bx x := ⟨S0.data.toList, (bx_of S0).symm⟩
  have ln0 : x0.length ≤ 9223372036854775807 := by rw [bx_size] at wn0; exact wn0
  have k1 := h1
  have lt1 : ∀ x ∈ p1, x.block < W.heap.size := by obtain ⟨m, hm⟩ := k1; exact DataW.trod_lt m _ _ _ hm
  obtain ⟨l1, sl1⟩ := ss_open (hval 1 22 v1 rfl rfl) h1
  clear hA0 hval0 hsz0
  refine (pathBack_walk x0 v1 l1 W ln0 sl1).mono fun e W' ⟨he, bel⟩ => ?_
  subst he
  exact ⟨_, rfl, _, _, _, [], _, [], hW', trodAll_mk1 (shut_bool Try.underlying4 _), (trodAll_cons_mk (Below.trod Try.laidOut (by kernel_rfl) (of_decide_eq_true (by kernel_rfl)) k0 bel lt0) (trodAll_cons_mk (Below.trod Try.laidOut (by kernel_rfl) (of_decide_eq_true (by kernel_rfl)) k1 bel lt1) trodAll_mk0)), rfl, bel.frame _, fun h => by cases h⟩

theorem pathBack_proved : Rows.PathBackSaid :=
  OpenClaim.holds_of_wide 8 Try.f8 rfl rfl rfl rfl rfl rfl rfl ⟨rfl, rfl, rfl, rfl, rfl⟩ rfl rfl rfl rfl rfl (by kernel_rfl) Try.func8 (by kernel_rfl)
    (of_decide_eq_true (by kernel_rfl)) (by unfold Func.isWrapper; rw [if_neg (of_decide_eq_false (by kernel_rfl))]; exact ⟨rfl, rfl⟩)
    (fun os started H enc _ => pathBack_lifted os started H enc)
end Go.Proofs.Ytghoajhfndnafaa
