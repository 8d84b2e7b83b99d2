/- The statement RecordReads: at any place of any bytes the program's readers and the document's tell the same. It holds for every input within the model's capacity, without a further condition. -/
import Derived.Test.YtillckjohlbaiaaNrra
import Derived.Test.YtillckjohlbaiaaNarg
import Derived.Test.YtillckjohlbaiaaCcap

namespace Go.Proofs.Ytillckjohlbaiaa
set_option maxRecDepth 100000
open Go.ChangeShapes Go.WideShapes Go.ChangeAt Go.RowKit

/-- The same bytes, but for the one at i. -/
theorem mine_set {w : World} {B g n cap i x : Nat} {l : List Nat} (h : Mine w B (some ⟨g, 0, none⟩) n cap l) (hx : x < 256) : Mine (w.setCell ⟨g, i, none⟩ (.int .u8 (x : Int))) B (some ⟨g, 0, none⟩) n cap (l.set i x) := by
  refine ⟨?_, by rw [List.length_set]; exact h.2.1, fun y hy => ?_⟩
  · rw [vb_set]
    exact (h.1.stored i (.int .u8 (x : Int))).1
  · rcases List.mem_or_eq_of_mem_set hy with h1 | rfl
    · exact h.2.2 y h1
    · exact hx

set_option maxHeartbeats 8000000 in
theorem recordReads_walk (s : Value) (bs : List Nat) (i : Int) (w : World) (hs : Sl w s bs) (hl : bs.length ≤ 140737488351232) (hcp : Capped s) (_ : -9223372036854775808 ≤ i) (_ : i ≤ 9223372036854775807) :
    Calls Try.prog 3 #[s, .int .i64 i] w fun e w' => e = .returned (.bool true) ∧ Below w.heap.size w w' := by
  obtain ⟨a, len, cap, rfl, hlen⟩ := hs.shape
  have hc : len ≤ cap := hcp _ _ _ rfl
  have hi : (Try.prog.info? 25).map (·.size) = some 6 := by kernel_rfl
  have HS := Lib.hid hs
  have O1 := Lib.hid (own_any a len cap bs w hs (by omega))
  have R1 := Lib.hid (fun (W : World) (x : Option Addr) (cp : Nat) (hcx : len ≤ cp) (hW : Sl W (.slice x len cp) bs) => readLocal_any x len cp bs i hcx W hW)
  have R2 := Lib.hid (fun (W : World) (hW : Sl W (.slice a len cap) bs) => rreadLocal_any a len cap bs i hc W hW)
  have R3 := Lib.hid (fun (W : World) (x : Option Addr) (cp : Nat) (hcx : len ≤ cp) (hW : Sl W (.slice x len cp) bs) => readCentral_any x len cp bs i hcx W hW)
  have R4 := Lib.hid (fun (W : World) (hW : Sl W (.slice a len cap) bs) => rreadCentral_any a len cap bs i hc W hW)
  have LV := Lib.hid lives_any
  have hl8 : len ≤ 140737488351232 := by omega
  have HL := Lib.hid (show len ≤ 281474976710656 by omega)
  have HLL := Lib.hid hlen
  generalize rdL bs i = r at *
  generalize rdC bs i = q at *
  obtain ⟨e1, n1, m1, s1, p1, z1, a1, t1⟩ := r
  obtain ⟨e2, n2, m2, s2, p2, z2, a2, t2⟩ := q
  unfold Rd.val at R1 R2 R3 R4
  dsimp only at R1 R2 R3 R4
  generalize strB n1 = M1 at *
  generalize strB n2 = M2 at *
  unfold rv at R1 R2 R3 R4
  clear hs hcp hc hlen hl
  go_enter Try.func3, Try.ntmps3
  go_wp2_with fail
  refine O1.out.mono ?_
  rintro e w1 ⟨g, cap', rfl, hm, h1⟩
  have S1 := Lib.hid (hm.sl HL.out)
  have C1 := Lib.hid hm.cap
  have M0 := Lib.hid hm
  have B1 := Lib.hid h1
  have G1 := Lib.hid (show g < w1.heap.size ∧ w.heap.size ≤ g from hm.1.lt g rfl |>.symm)
  clear hm h1 O1
  go_wp2_with fail
  refine (R1.out _ _ _ C1.out S1.out).mono ?_
  rintro e w2 ⟨rfl, h2⟩
  have D2 := Lib.hid (h2.trans ((below1 w2 (.cells #[.string M1, .int .i64 m1, .int .i64 s1, .int .i64 p1, .int .i64 z1, .int .i64 a1] 25)).mono h2.size))
  have F2 := Lib.hid (Has.new w2 (.cells #[.string M1, .int .i64 m1, .int .i64 s1, .int .i64 p1, .int .i64 z1, .int .i64 a1] 25))
  have X2 := Lib.hid (show g ≠ w2.heap.size from fun hh => by have := G1.out; have := h2.size; omega)
  clear h2
  go_wp2_with fail
  generalize w2.alloc (.cells #[.string M1, .int .i64 m1, .int .i64 s1, .int .i64 p1, .int .i64 z1, .int .i64 a1] 25) = v2 at *
  refine (R2.out _ (HS.out.later (B1.out.trans (D2.out.mono B1.out.size)))).mono ?_
  rintro e w3 ⟨rfl, h3⟩
  have D3 := Lib.hid (D2.out.trans ((h3.trans ((below1 w3 (.cells #[.string M1, .int .i64 m1, .int .i64 s1, .int .i64 p1, .int .i64 z1, .int .i64 a1] 25)).mono h3.size)).mono D2.out.size))
  have F3 := Lib.hid ((F2.out.later h3).alloc (.cells #[.string M1, .int .i64 m1, .int .i64 s1, .int .i64 p1, .int .i64 z1, .int .i64 a1] 25))
  have K3 := Lib.hid (Has.new w3 (.cells #[.string M1, .int .i64 m1, .int .i64 s1, .int .i64 p1, .int .i64 z1, .int .i64 a1] 25))
  have X3 := Lib.hid (show g ≠ w3.heap.size from fun hh => by have := G1.out; have := h3.size; have := D2.out.size; omega)
  clear h3
  go_wp2_with fail
  generalize w3.alloc (.cells #[.string M1, .int .i64 m1, .int .i64 s1, .int .i64 p1, .int .i64 z1, .int .i64 a1] 25) = v3 at *
  refine (R3.out _ _ _ C1.out (S1.out.later D3.out)).mono ?_
  rintro e w4 ⟨rfl, h4⟩
  have D4 := Lib.hid (D3.out.trans ((h4.trans ((below1 w4 (.cells #[.string M2, .int .i64 m2, .int .i64 s2, .int .i64 p2, .int .i64 z2, .int .i64 a2] 25)).mono h4.size)).mono D3.out.size))
  have F4 := Lib.hid ((F3.out.later h4).alloc (.cells #[.string M2, .int .i64 m2, .int .i64 s2, .int .i64 p2, .int .i64 z2, .int .i64 a2] 25))
  have K4 := Lib.hid ((K3.out.later h4).alloc (.cells #[.string M2, .int .i64 m2, .int .i64 s2, .int .i64 p2, .int .i64 z2, .int .i64 a2] 25))
  have I4 := Lib.hid (Has.new w4 (.cells #[.string M2, .int .i64 m2, .int .i64 s2, .int .i64 p2, .int .i64 z2, .int .i64 a2] 25))
  have X4 := Lib.hid (show g ≠ w4.heap.size from fun hh => by have := G1.out; have := h4.size; have := D3.out.size; omega)
  clear h4
  go_wp2_with fail
  generalize w4.alloc (.cells #[.string M2, .int .i64 m2, .int .i64 s2, .int .i64 p2, .int .i64 z2, .int .i64 a2] 25) = v4 at *
  refine (R4.out _ (HS.out.later (B1.out.trans (D4.out.mono B1.out.size)))).mono ?_
  rintro e w5 ⟨rfl, h5⟩
  have D5 := Lib.hid (D4.out.trans ((h5.trans ((below1 w5 (.cells #[.string M2, .int .i64 m2, .int .i64 s2, .int .i64 p2, .int .i64 z2, .int .i64 a2] 25)).mono h5.size)).mono D4.out.size))
  have F5 := Lib.hid ((F4.out.later h5).alloc (.cells #[.string M2, .int .i64 m2, .int .i64 s2, .int .i64 p2, .int .i64 z2, .int .i64 a2] 25))
  have K5 := Lib.hid ((K4.out.later h5).alloc (.cells #[.string M2, .int .i64 m2, .int .i64 s2, .int .i64 p2, .int .i64 z2, .int .i64 a2] 25))
  have I5 := Lib.hid ((I4.out.later h5).alloc (.cells #[.string M2, .int .i64 m2, .int .i64 s2, .int .i64 p2, .int .i64 z2, .int .i64 a2] 25))
  have J5 := Lib.hid (Has.new w5 (.cells #[.string M2, .int .i64 m2, .int .i64 s2, .int .i64 p2, .int .i64 z2, .int .i64 a2] 25))
  have X5 := Lib.hid (show g ≠ w5.heap.size from fun hh => by have := G1.out; have := h5.size; have := D4.out.size; omega)
  have N5 := Lib.hid (own_later M0.out.1 D5.out)
  have M5 := Lib.hid (show Mine _ _ _ _ _ _ from ⟨N5.out, M0.out.2⟩)
  have B5 := Lib.hid (B1.out.trans (D5.out.mono B1.out.size))
  clear h5 F2 F3 F4 K3 K4 I4 D2 D3 D4 S1 N5 M0
  go_wp2_with fail
  generalize w5.alloc (.cells #[.string M2, .int .i64 m2, .int .i64 s2, .int .i64 p2, .int .i64 z2, .int .i64 a2] 25) = v5 at *
  have hg := G1.out.2
  go_loopw [18] (fun s18 wr => ∃ (k : Nat) (ys : List Nat), s18 = .int .i64 (k : Int) ∧ k ≤ len ∧ Hid (Mine wr w.heap.size (some ⟨g, 0, none⟩) len cap' ys) ∧ Hid (Below w.heap.size w wr) ∧ Hid (Has wr w2.heap.size (.cells #[.string M1, .int .i64 m1, .int .i64 s1, .int .i64 p1, .int .i64 z1, .int .i64 a1] 25)) ∧ Hid (Has wr w3.heap.size (.cells #[.string M1, .int .i64 m1, .int .i64 s1, .int .i64 p1, .int .i64 z1, .int .i64 a1] 25)) ∧ Hid (Has wr w4.heap.size (.cells #[.string M2, .int .i64 m2, .int .i64 s2, .int .i64 p2, .int .i64 z2, .int .i64 a2] 25)) ∧ Hid (Has wr w5.heap.size (.cells #[.string M2, .int .i64 m2, .int .i64 s2, .int .i64 p2, .int .i64 z2, .int .i64 a2] 25))) (fun s18 _ => len - (intOf s18).toNat)
  case atStart => exact ⟨0, bs, by go_num, Nat.zero_le _, M5, B5, F5, K5, I5, J5⟩
  case round =>
    obtain ⟨k, ys, rfl, hk, KM, KB, K1, K2, K3, K4⟩ := hrel
    by_cases hlt : k < len
    · have j0 : decide ((k : Int) < (len : Int)) = true := decide_eq_true (by omega)
      have hlt' : (k : Int) < (len : Int) := by omega
      have hi0 : (0 : Int) ≤ (k : Int) := by omega
      have hk9 : (k : Int) ≤ 140737488351232 := by omega
      have hyl := KM.out.2.1
      obtain ⟨x, hx⟩ : ∃ x : Nat, ys[k]? = some x := ⟨_, List.getElem?_eq_getElem (by omega)⟩
      have hx8 : x < 256 := KM.out.2.2 x (List.mem_of_getElem? hx)
      have hcell : wr.cell? ⟨g, k, none⟩ = some (.int .u8 (x : Int)) := by
        rw [KM.out.1.cellAt k (by omega), vb_get, hx]; rfl
      have hfro : wr.frozen? ⟨g, k, none⟩ = false := KM.out.1.frozenAt k
      have hw8 : Value.int .u8 (IntKind.u8.wrap ((x : Int) + 1)) = .int .u8 (((x + 1) % 256 : Nat) : Int) := by congr 1
      have KM2 := Lib.hid (mine_set (i := k) (x := (x + 1) % 256) KM.out (Nat.mod_lt _ (by decide)))
      have KB2 := Lib.hid (KB.out.setCell (p := ⟨g, k, none⟩) hg (.int .u8 (((x + 1) % 256 : Nat) : Int)))
      have E1 := Lib.hid (K1.out.set (a := ⟨g, k, none⟩) (fun hh => X2.out hh.symm) (.int .u8 (((x + 1) % 256 : Nat) : Int)))
      have E2 := Lib.hid (K2.out.set (a := ⟨g, k, none⟩) (fun hh => X3.out hh.symm) (.int .u8 (((x + 1) % 256 : Nat) : Int)))
      have E3 := Lib.hid (K3.out.set (a := ⟨g, k, none⟩) (fun hh => X4.out hh.symm) (.int .u8 (((x + 1) % 256 : Nat) : Int)))
      have E4 := Lib.hid (K4.out.set (a := ⟨g, k, none⟩) (fun hh => X5.out hh.symm) (.int .u8 (((x + 1) % 256 : Nat) : Int)))
      clear hx hyl hg hl8
      go_wp2_with fail
      go_round
      case rel => exact ⟨k + 1, ys.set k ((x + 1) % 256), by go_num, by omega, KM2, KB2, E1, E2, E3, E4⟩
      case measure => simp [intOf]; omega
    · have j0 : decide ((k : Int) < (len : Int)) = false := decide_eq_false (by omega)
      have hlt' : ¬ (k : Int) < (len : Int) := by omega
      clear hlt hk hg hl8 KM
      have u0 := (K3.out.cell 0 : _ = some (Value.string M2))
      have u1 := (K3.out.cell 1 : _ = some (Value.int .i64 m2))
      have u2 := (K3.out.cell 2 : _ = some (Value.int .i64 s2))
      have u3 := (K3.out.cell 3 : _ = some (Value.int .i64 p2))
      have u4 := (K3.out.cell 4 : _ = some (Value.int .i64 z2))
      have u5 := (K3.out.cell 5 : _ = some (Value.int .i64 a2))
      have y0 := (K4.out.cell 0 : _ = some (Value.string M2))
      have y1 := (K4.out.cell 1 : _ = some (Value.int .i64 m2))
      have y2 := (K4.out.cell 2 : _ = some (Value.int .i64 s2))
      have y3 := (K4.out.cell 3 : _ = some (Value.int .i64 p2))
      have y4 := (K4.out.cell 4 : _ = some (Value.int .i64 z2))
      have y5 := (K4.out.cell 5 : _ = some (Value.int .i64 a2))
      go_wp2_with (first | (refine wpList_load_row rfl 25 (.tmp 6) rfl w2.heap.size rfl 25 _ (0, 0) _ K1.out Try.underlying25 rfl hi ?_) | (refine wpList_load_row rfl 25 (.tmp 9) rfl w3.heap.size rfl 25 _ (0, 0) _ K2.out Try.underlying25 rfl hi ?_) | (refine wpList_load_row rfl 25 (.tmp 12) rfl w4.heap.size rfl 25 _ (0, 0) _ K3.out Try.underlying25 rfl hi ?_) | (refine wpList_load_row rfl 25 (.tmp 15) rfl w5.heap.size rfl 25 _ (0, 0) _ K4.out Try.underlying25 rfl hi ?_) | (go_at_call 12; refine (LV.out _).mono ?_; rintro e w8 ⟨rfl, h8⟩; have B8 := Lib.hid (KB.out.trans (h8.mono KB.out.size)); clear h8))
      go_ret
      exact ⟨rfl, B8.out⟩

set_option maxRecDepth 100000 in
theorem recordReads_lifted (os : Os) (started : os.Started) (H : Type) (enc : TypeId × Value → H) :
    ReturnsInHanded {} Try.checked os 3 .any (Rows.recordReadsSpec.pre6 enc Try.prog Try.f3 Rows.recordReadsRow.domain false) (Rows.recordReadsSpec.post enc Try.prog Try.f3 false true false false) := by
  refine returnsInHanded_of_change_sized (C := Try.checked) Try.own started (by kernel_rfl) Try.func3
    (ChangeSpec.witness6 (enc := enc) (C := Try.checked) false ⟨#[], #[.slice none 0 0, .int .i64 0], []⟩ 8 (by kernel_rfl) (by kernel_rfl) (by kernel_rfl) (by kernel_rfl)) ?_
  intro W base args ds gs before hval0 hW _ hsz0 _
  have hval : ∀ (j : Nat) t v, Try.f3.params[j]? = some t → args[j]? = some v → Value.okWide Try.prog W .any base t v := hval0
  have hsz : (DataW.weightsEach Try.prog (Try.f3.params.toList ++ Rows.recordReadsSpec.plain.varTypes Try.prog) (ds ++ gs)).all (· ≤ reachBytes) = true := hsz0
  have hW' := hW
  obtain ⟨p, q, hA0, hV, rfl, hfz, hnd⟩ := hW
  have hA : DataW.TrodAll enc Try.prog W 0 (fun _ => true) true Try.f3.params.toList args.toList ds p := hA0
  rw [Try.params3] at hA hval hsz
  obtain ⟨v0, vs0, d0, ds0, p0, q0, hargs, rfl, rfl, h0, r0⟩ := trodAll_cons hA
  obtain ⟨v1, vs1, d1, ds1, p1, q1, rfl, rfl, rfl, h1, r1⟩ := trodAll_cons r0
  obtain ⟨rfl, rfl, rfl⟩ := trodAll_nil r1
  obtain rfl : args = #[v0, v1] := by cases args; simp_all
  obtain ⟨rfl, rfl⟩ := trodVars_none hV
  have k0 := h0
  have lt0 : ∀ x ∈ p0, x.block < W.heap.size := by obtain ⟨m, hm⟩ := k0; exact DataW.trod_lt m _ _ _ hm
  have w0 : ∀ n ∈ d0.weights Try.prog 22, n ≤ reachBytes := fun n hn => by simpa using List.all_eq_true.1 hsz n (DataW.weights_mem_each (j := 0) rfl rfl n hn)
  obtain ⟨bs0, sl0, ln0⟩ := bytes_open (hval 0 22 v0 rfl rfl) h0 w0
  have cp0 := bytes_cap (hval 0 22 v0 rfl rfl) h0
  have k1 := h1
  have lt1 : ∀ x ∈ p1, x.block < W.heap.size := by obtain ⟨m, hm⟩ := k1; exact DataW.trod_lt m _ _ _ hm
  obtain ⟨n1, ev1, _, _, wn1⟩ := open_int Try.underlying3 (hval 1 3 v1 rfl rfl) h1
  subst ev1
  obtain ⟨lo1, hi1⟩ := wf_bounds wn1
  clear hA0 hval0 hsz0
  refine (recordReads_walk v0 bs0 n1 W sl0 ln0 cp0 lo1 hi1).mono fun e W' ⟨he, bel⟩ => ?_
  subst he
  exact ⟨_, rfl, _, _, _, [], _, [], hW', trodAll_mk1 (shut_bool Try.underlying4 _), (trodAll_cons_mk (Below.trod Try.laidOut (by kernel_rfl) (of_decide_eq_true (by kernel_rfl)) k0 bel lt0) (trodAll_cons_mk (Below.trod Try.laidOut (by kernel_rfl) (of_decide_eq_true (by kernel_rfl)) k1 bel lt1) trodAll_mk0)), rfl, bel.frame _, fun h => by cases h⟩

theorem recordReads_proved : Rows.RecordReadsSaid :=
  OpenClaim.holds_of_wide 3 Try.f3 rfl rfl rfl rfl rfl rfl rfl ⟨rfl, rfl, rfl, rfl, rfl⟩ rfl rfl rfl rfl rfl (by kernel_rfl) Try.func3 (by kernel_rfl)
    (of_decide_eq_true (by kernel_rfl)) (by unfold Func.isWrapper; rw [if_neg (of_decide_eq_false (by kernel_rfl))]; exact ⟨rfl, rfl⟩)
    (fun os started H enc _ => recordReads_lifted os started H enc)
end Go.Proofs.Ytillckjohlbaiaa
