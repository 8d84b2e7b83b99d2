/- The statement RecordBack up to its bulk: what was laid down is read, whatever stands ahead and behind. It holds for all bytes ahead and behind, together at most 1048576 values, and every record. -/
import Derived.Test.YtheffpihhmdceaaNrbk
import Derived.Test.YtheffpihhmdceaaCbulk

namespace Go.Proofs.Ytheffpihhmdceaa
set_option maxRecDepth 100000
open Go.ChangeShapes Go.WideShapes Go.ChangeAt Go.RowKit

theorem own_cap {w : World} {base : Nat} {e : TypeId} {a : Option Addr} {c n : Nat} {xs : List Value} (h : w.ownsRow base e 1 (.slice a n c) n xs) : n ≤ c := by
  rcases h.2 with ⟨e, e2⟩ | ⟨g, c, cur, e, _, _, hc, _⟩
  · injection e with e1 e3 e4; omega
  · injection e with e1 e3 e4; omega
theorem sl_set {w : World} {g R i len cap : Nat} {bs : List Nat} {v : Value} (h : Sl w (.slice (some ⟨g, 0, none⟩) len cap) bs) (hne : g ≠ R) : Sl (w.setCell ⟨R, i, none⟩ v) (.slice (some ⟨g, 0, none⟩) len cap) bs := by
  obtain ⟨a', len', cap', he, h1, h2, h3, h4, h5⟩ := h
  injection he with e1 e2 e3
  subst e1 e2 e3
  refine ⟨_, _, _, rfl, h1, h2, h3, h4, fun hn => ?_⟩
  obtain ⟨b', off, e, hlt, hc⟩ := h5 hn
  refine ⟨b', off, e, by simpa [World.setCell] using hlt, fun j hj => ?_⟩
  have hb : b' = g := by injection e with e; injection e with e; exact e.symm
  have : (w.setCell ⟨R, i, none⟩ v).heap[b']? = w.heap[b']? := Below.heap_setCell _ _ _ _ (by show b' ≠ R; omega)
  simp only [World.cell?, this]
  exact hc j hj

set_option maxHeartbeats 8000000 in
theorem back_bad (s : Value) (S : ByteArray) (m a b c d : Int) (t : Value) (h : okR S.size m a b c d = false) (w : World) :
    Calls Try.prog 7 #[s, rv S m a b c d, t] w fun e w' => e = .returned (.bool true) ∧ Below w.heap.size w w' := by
  have LV := Lib.hid lives_any
  have hi : (Try.prog.info? 23).map (·.size) = some 6 := by kernel_rfl
  have C1 := Lib.hid (fun w => local_bad S m a b c d h w)
  have C2 := Lib.hid (fun w => central_bad S m a b c d h w)
  unfold rv at C1 C2 ⊢
  have F0 := Lib.hid (Has.new w (.cells #[.string S, .int .i64 m, .int .i64 a, .int .i64 b, .int .i64 c, .int .i64 d] 23))
  have G0 := Lib.hid (below1 w (.cells #[.string S, .int .i64 m, .int .i64 a, .int .i64 b, .int .i64 c, .int .i64 d] 23))
  clear h
  go_enter Try.func7, Try.ntmps7
  go_wp2_with fail
  refine (C1.out _).mono ?_
  rintro e w1 ⟨rfl, h1⟩
  have F1 := Lib.hid (F0.out.later h1)
  have B1 := Lib.hid (G0.out.trans (h1.mono G0.out.size))
  clear h1
  go_wp2_with (refine wpList_load_row rfl 23 (.tmp 4) rfl w.heap.size rfl 23 _ (0, 0) _ F1.out Try.underlying23 rfl hi ?_)
  refine (C2.out _).mono ?_
  rintro e w2 ⟨rfl, h2⟩
  have B2 := Lib.hid (B1.out.trans (h2.mono B1.out.size))
  clear h2
  go_wp2_with (go_at_call 16; refine (LV.out _).mono ?_; rintro e w4 ⟨rfl, h4⟩; have B4 := Lib.hid (B2.out.trans (h4.mono B2.out.size)); clear h4)
  go_ret
  exact ⟨rfl, B4.out⟩

set_option maxHeartbeats 8000000 in
theorem back_ok (s : Value) (bs : List Nat) (S : ByteArray) (m a b c d : Int) (t : Value) (ms : List Nat) (w : World) (hs : Sl w s bs) (hl : bs.length ≤ 1048576) (ht : Sl w t ms) (hm : ms.length ≤ 1048576) (h : okR S.size m a b c d = true) :
    Calls Try.prog 7 #[s, rv S m a b c d, t] w fun e w' => e = .returned (.bool true) ∧ Below w.heap.size w w' := by
  obtain ⟨a0, len, cap, rfl, hlen⟩ := hs.shape
  obtain ⟨b0, lm, capm, rfl, hlm⟩ := ht.shape
  obtain ⟨n1, n2, -⟩ := okR_yes h
  have LV := Lib.hid lives_any
  have hi : (Try.prog.info? 23).map (·.size) = some 6 := by kernel_rfl
  have C1 := Lib.hid (fun w => local_ok S m a b c d h w)
  have C2 := Lib.hid (fun w => central_ok S m a b c d h w)
  obtain ⟨j1, hj1⟩ : ∃ j, j = 29 + S.size := ⟨_, rfl⟩
  obtain ⟨j2, hj2⟩ : ∃ j, j = 45 + S.size := ⟨_, rfl⟩
  have l1 : (localB S m a b c d).length = j1 + 1 := by rw [localB_len]; omega
  have l2 : (centralB S m a b c d).length = j2 + 1 := by rw [centralB_len]; omega
  have r1 := rdL_back S m a b c d h bs ms
  have r2 := rdC_back S m a b c d h bs ms
  have r3 := rdL_cut S m a b c d h
  have r4 := rdC_cut S m a b c d h
  obtain ⟨k1, hk1⟩ : ∃ k, k = j1 + 1 := ⟨_, rfl⟩
  obtain ⟨k2, hk2⟩ : ∃ k, k = j2 + 1 := ⟨_, rfl⟩
  rw [← hlen, show ((len + 30 + S.size : Nat) : Int) = (len : Int) + (k1 : Int) from by omega] at r1
  rw [← hlen, show ((len + 46 + S.size : Nat) : Int) = (len : Int) + (k2 : Int) from by omega] at r2
  rw [show 30 + S.size - 1 = j1 from by omega] at r3
  rw [show 46 + S.size - 1 = j2 from by omega] at r4
  rw [← hk1] at l1
  rw [← hk2] at l2
  generalize localB S m a b c d = LB at *
  generalize centralB S m a b c d = CB at *
  have O1 := Lib.hid (fun W hW => own_any a0 len cap bs W hW (by omega))
  have R1 := Lib.hid (fun (W : World) (x : Option Addr) (k cp : Nat) (hc : k ≤ cp) (hW : Sl W (.slice x k cp) (bs ++ LB ++ ms)) => readLocal_any x k cp (bs ++ LB ++ ms) (len : Int) hc W hW)
  have R2 := Lib.hid (fun (W : World) (x : Option Addr) (k cp : Nat) (hc : k ≤ cp) (hW : Sl W (.slice x k cp) (bs ++ CB ++ ms)) => readCentral_any x k cp (bs ++ CB ++ ms) (len : Int) hc W hW)
  have R3 := Lib.hid (fun (W : World) (x : Option Addr) (k cp : Nat) (hc : k ≤ cp) (hW : Sl W (.slice x k cp) (LB.take j1)) => readLocal_any x k cp (LB.take j1) 0 hc W hW)
  have R4 := Lib.hid (fun (W : World) (x : Option Addr) (k cp : Nat) (hc : k ≤ cp) (hW : Sl W (.slice x k cp) (CB.take j2)) => readCentral_any x k cp (CB.take j2) 0 hc W hW)
  rw [r1] at R1
  rw [r2] at R2
  rw [r3] at R3
  rw [r4] at R4
  unfold rdBad at R3 R4
  unfold Rd.val at R1 R2 R3 R4
  dsimp only at R1 R2 R3 R4
  rw [strB_sB] at R1 R2
  rw [strB_nil] at R3 R4
  unfold rv at R1 R2 R3 R4 C1 C2 ⊢
  have hw1 : IntKind.i64.wrap ((len : Int) + (k1 : Int)) = (len : Int) + (k1 : Int) := IntWalk.i64_in _ (by omega)
  have hw2 : IntKind.i64.wrap ((len : Int) + (k2 : Int)) = (len : Int) + (k2 : Int) := IntWalk.i64_in _ (by omega)
  have hw3 : IntKind.i64.wrap ((k1 : Int) - 1) = (j1 : Int) := by rw [IntWalk.i64_in _ (by omega)]; omega
  have hw4 : IntKind.i64.wrap ((k2 : Int) - 1) = (j2 : Int) := by rw [IntWalk.i64_in _ (by omega)]; omega
  have z1 : ((k1 : Int) == 0) = false := by rw [beq_eq_false_iff_ne]; omega
  have z2 : ((k2 : Int) == 0) = false := by rw [beq_eq_false_iff_ne]; omega
  have P1 := Lib.hid (show 0 < k1 by omega)
  have P2 := Lib.hid (show 0 < k2 by omega)
  have HS := Lib.hid hs
  have HT := Lib.hid ht
  have g1 : len ≤ 1048576 := by omega
  have g2 : lm ≤ 1048576 := by omega
  have g3 : k1 ≤ 70000 := by omega
  have g4 : k2 ≤ 70000 := by omega
  have HW := Lib.hid (And.intro hw1 (And.intro hw2 (And.intro hw3 (And.intro hw4 (And.intro hk1 hk2)))))
  have HL1 := Lib.hid l1
  have HL2 := Lib.hid l2
  have F0 := Lib.hid (Has.new w (.cells #[.string S, .int .i64 m, .int .i64 a, .int .i64 b, .int .i64 c, .int .i64 d] 23))
  have G0 := Lib.hid (below1 w (.cells #[.string S, .int .i64 m, .int .i64 a, .int .i64 b, .int .i64 c, .int .i64 d] 23))
  clear h hs ht hl hm hlen hlm n1 n2 hj1 hj2 hw1 hw2 hw3 hw4 hk1 hk2 l1 l2 r1 r2 r3 r4
  go_enter Try.func7, Try.ntmps7
  go_wp2_with fail
  refine (C1.out _).mono ?_
  rintro e w1 ⟨x1, q1, c1, rfl, hm1, h1⟩
  obtain rfl : q1 = k1 := hm1.2.1.trans HL1.out
  obtain ⟨gx1, rfl, hg1, -⟩ := hm1.form P1.out
  have F1 := Lib.hid (F0.out.later h1)
  have M1 := Lib.hid hm1
  have B1 := Lib.hid (G0.out.trans (h1.mono G0.out.size))
  have X1 := Lib.hid (show gx1 ≠ w.heap.size from fun hh => by have := F0.out.lt; omega)
  clear h1 hm1 hg1
  go_wp2_with (refine wpList_load_row rfl 23 (.tmp 4) rfl w.heap.size rfl 23 _ (0, 0) _ F1.out Try.underlying23 rfl hi ?_)
  refine (C2.out _).mono ?_
  rintro e w2 ⟨x2, q2, c2, rfl, hm2, h2⟩
  obtain rfl : q2 = k2 := hm2.2.1.trans HL2.out
  obtain ⟨gx2, rfl, hg2, -⟩ := hm2.form P2.out
  have F2 := Lib.hid (F1.out.later h2)
  have M2 := Lib.hid hm2
  have N2 := Lib.hid (M1.out.later h2)
  have B2 := Lib.hid (B1.out.trans (h2.mono B1.out.size))
  have X2 := Lib.hid (show gx2 ≠ w.heap.size from fun hh => by have := F1.out.lt; omega)
  clear h2 hm2 hg2
  go_wp2_with fail
  refine (O1.out _ (HS.out.later B2.out)).mono ?_
  rintro e w3 ⟨ga, gac, rfl, hm3, h3⟩
  have M3 := Lib.hid hm3
  have D3 := Lib.hid h3
  have T3 := Lib.hid (HT.out.later (B2.out.trans (h3.mono B2.out.size)))
  have A3 := Lib.hid ((N2.out.later h3).sl (by omega))
  have gab := own_base hm3.1
  clear hm3 h3
  go_wp2_with (at_builtin; first | (refine wpList_append_sl rfl (.tmp 68) (.tmp 69) rfl w2.heap.size ga gac len (vb bs) rfl M3.out.1 (some ⟨gx1, 0, none⟩) q1 c1 LB rfl A3.out (by omega) D3.out.size ?_; intro gax gaxc w4 w4o w4h; have D4 := Lib.hid (below_grown D3.out w4h.out gab D3.out.size); have gaxb := own_base w4o.out; have T4 := Lib.hid (HT.out.later (B2.out.trans (D4.out.mono B2.out.size))); clear w4h) | (refine wpList_append_sl rfl (.tmp 70) (.tmp 71) rfl w2.heap.size gax gaxc (len + q1) (vb bs ++ vb LB) rfl w4o.out b0 lm capm ms rfl T4.out (by omega) D4.out.size ?_; intro gaxx gaxxc w5 w5o w5h; have D5 := Lib.hid (below_grown D4.out w5h.out gaxb D4.out.size); have S5 := Lib.hid (Sl.owned (bs := bs ++ LB ++ ms) (by rw [vb_append, vb_append]; exact w5o.out) (fun x hx => (List.mem_append.1 hx).elim (fun h => (List.mem_append.1 h).elim (HS.out.facts.1 x) (A3.out.facts.1 x)) (HT.out.facts.1 x)) (by omega)); have hc5 := own_cap w5o.out; have Cw5 := Lib.hid hc5; clear hc5 w5h))
  refine (R1.out _ _ _ _ Cw5.out S5.out).mono ?_
  rintro e w6 ⟨rfl, h6⟩
  have D6 := Lib.hid (D5.out.trans (h6.mono D5.out.size))
  clear h6 w4o w5o S5 Cw5 D3 D4 D5 M3 T3 T4 A3 gab gaxb
  obtain ⟨v6, hv6⟩ : ∃ v, v = w6.alloc (.cells #[.string S, .int .i64 m, .int .i64 a, .int .i64 b, .int .i64 c, .int .i64 0] 23) := ⟨_, rfl⟩
  have E6 := Lib.hid (show Below w2.heap.size w2 v6 by rw [hv6]; exact D6.out.trans ((below1 w6 _).mono D6.out.size))
  have K6 := Lib.hid (show Has v6 w6.heap.size (.cells #[.string S, .int .i64 m, .int .i64 a, .int .i64 b, .int .i64 c, .int .i64 0] 23) by rw [hv6]; exact Has.new w6 _)
  have X6 := Lib.hid (show w6.heap.size ≠ w.heap.size from fun hh => by have := F2.out.lt; have := D6.out.size; omega)
  have Y6 := Lib.hid (B2.out.trans (E6.out.mono B2.out.size))
  have V6 := Lib.hid hv6
  clear hv6
  go_wp2_with fail
  rw [← V6.out]
  refine (O1.out _ (HS.out.later Y6.out)).mono ?_
  rintro e w7 ⟨gb, gbc, rfl, hm7, h7⟩
  have M7 := Lib.hid hm7
  have D7 := Lib.hid h7
  have A7 := Lib.hid ((M2.out.later (E6.out.trans (h7.mono E6.out.size))).sl (by omega))
  have gbb := own_base hm7.1
  clear hm7 h7
  go_wp2_with (at_builtin; first | (refine wpList_append_sl rfl (.tmp 81) (.tmp 82) rfl v6.heap.size gb gbc len (vb bs) rfl M7.out.1 (some ⟨gx2, 0, none⟩) q2 c2 CB rfl A7.out (by omega) D7.out.size ?_; intro gbx gbxc w8 w8o w8h; have D8 := Lib.hid (below_grown D7.out w8h.out gbb D7.out.size); have gbxb := own_base w8o.out; have T8 := Lib.hid (HT.out.later (Y6.out.trans (D8.out.mono Y6.out.size))); clear w8h) | (refine wpList_append_sl rfl (.tmp 83) (.tmp 84) rfl v6.heap.size gbx gbxc (len + q2) (vb bs ++ vb CB) rfl w8o.out b0 lm capm ms rfl T8.out (by omega) D8.out.size ?_; intro gby gbyc w9 w9o w9h; have D9 := Lib.hid (below_grown D8.out w9h.out gbxb D8.out.size); have S9 := Lib.hid (Sl.owned (bs := bs ++ CB ++ ms) (by rw [vb_append, vb_append]; exact w9o.out) (fun x hx => (List.mem_append.1 hx).elim (fun h => (List.mem_append.1 h).elim (HS.out.facts.1 x) (A7.out.facts.1 x)) (HT.out.facts.1 x)) (by omega)); have hc5 := own_cap w9o.out; have Cw9 := Lib.hid hc5; clear hc5 w9h))
  refine (R2.out _ _ _ _ Cw9.out S9.out).mono ?_
  rintro e w10 ⟨rfl, h10⟩
  have D10 := Lib.hid (D9.out.trans (h10.mono D9.out.size))
  clear h10 w8o w9o S9 Cw9 D7 D8 D9 M7 T8 A7 gbb gbxb
  have L10 := Lib.hid (Has.new w10 (.cells #[.string S, .int .i64 m, .int .i64 a, .int .i64 b, .int .i64 c, .int .i64 d] 23))
  obtain ⟨v10, hv10⟩ : ∃ v, v = w10.alloc (.cells #[.string S, .int .i64 m, .int .i64 a, .int .i64 b, .int .i64 c, .int .i64 d] 23) := ⟨_, rfl⟩
  have E10 := Lib.hid (show Below v6.heap.size v6 v10 by rw [hv10]; exact D10.out.trans ((below1 w10 _).mono D10.out.size))
  have F10 := Lib.hid ((F2.out.later E6.out).later E10.out)
  have K10 := Lib.hid (K6.out.later E10.out)
  have Y10 := Lib.hid (Y6.out.trans (E10.out.mono Y6.out.size))
  have Q1 := Lib.hid ((N2.out.later (E6.out.trans (E10.out.mono E6.out.size))).sl (by omega))
  have Q2 := Lib.hid ((M2.out.later (E6.out.trans (E10.out.mono E6.out.size))).sl (by omega))
  have V10 := Lib.hid hv10
  have q5 := (F10.out.cell 5 : _ = some (Value.int .i64 d))
  have f5 := F10.out.free 5
  obtain ⟨v11, hv11⟩ : ∃ v, v = v10.setCell ⟨w.heap.size, 5, none⟩ (.int .i64 0) := ⟨_, rfl⟩
  have F11 := Lib.hid (show Has v11 w.heap.size (.cells #[.string S, .int .i64 m, .int .i64 a, .int .i64 b, .int .i64 c, .int .i64 0] 23) by rw [hv11]; exact Has.setSelf (i := 5) F10.out (.int .i64 0))
  have K11 := Lib.hid (show Has (v10.setCell ⟨w.heap.size, 5, none⟩ (.int .i64 0)) w6.heap.size (.cells #[.string S, .int .i64 m, .int .i64 a, .int .i64 b, .int .i64 c, .int .i64 0] 23) from K10.out.set X6.out _)
  have V11 := Lib.hid hv11
  have Y11 := Lib.hid (show Below w.heap.size w v11 by rw [hv11]; exact Y10.out.setCell (Nat.le_refl _) _)
  obtain ⟨hw1, hw2, hw3, hw4, e1, e2⟩ := HW.out
  have d1 : j1 ≤ q1 := by omega
  have d2 : j2 ≤ q2 := by omega
  have u1 := M1.out.cap
  have u2 := M2.out.cap
  have P11 := Lib.hid (show Sl v11 (.slice (some ⟨gx1, 0, none⟩) j1 c1) (LB.take j1) by rw [hv11]; exact (sl_set Q1.out X1.out).take j1 d1)
  have P12 := Lib.hid (show Sl v11 (.slice (some ⟨gx2, 0, none⟩) j2 c2) (CB.take j2) by rw [hv11]; exact (sl_set Q2.out X2.out).take j2 d2)
  have i1 : (j1 : Int) ≤ (c1 : Int) := by omega
  have i2 : (j2 : Int) ≤ (c2 : Int) := by omega
  have o1 := Lib.hid (show j1 ≤ c1 by omega)
  have o2 := Lib.hid (show j2 ≤ c2 by omega)
  clear hv10 hv11 e1 e2 d1 d2 u1 u2 D6 D10 g1 g2 g3 g4 HW
  go_wp2_with (first | (refine wpList_load_row rfl 23 (.tmp 14) rfl w10.heap.size rfl 23 _ (0, 0) _ L10.out Try.underlying23 rfl hi ?_; rw [← V10.out]) | (refine wpList_load_row rfl 23 (.tmp 4) rfl w.heap.size rfl 23 _ (0, 0) _ F10.out Try.underlying23 rfl hi ?_) | (refine wpList_load_row rfl 23 (.tmp 11) rfl w6.heap.size rfl 23 _ (0, 0) _ K11.out Try.underlying23 rfl hi ?_; rw [← V11.out]) | (refine wpList_load_row rfl 23 (.tmp 4) rfl w.heap.size rfl 23 _ (0, 0) _ F11.out Try.underlying23 rfl hi ?_))
  refine (R3.out _ _ _ _ o1.out P11.out).mono ?_
  rintro e w12 ⟨rfl, h12⟩
  have Y12 := Lib.hid (h12.trans ((below1 w12 (.cells #[.string ⟨#[]⟩, .int .i64 0, .int .i64 0, .int .i64 0, .int .i64 0, .int .i64 0] 23)).mono h12.size))
  clear h12 q5 f5
  go_wp2_with fail
  refine (R4.out _ _ _ _ o2.out (P12.out.later Y12.out)).mono ?_
  rintro e w13 ⟨rfl, h13⟩
  have Y13 := Lib.hid (Y12.out.trans ((h13.trans ((below1 w13 (.cells #[.string ⟨#[]⟩, .int .i64 0, .int .i64 0, .int .i64 0, .int .i64 0, .int .i64 0] 23)).mono h13.size)).mono Y12.out.size))
  clear h13
  go_wp2_with (go_at_call 16; refine (LV.out _).mono ?_; rintro e w14 ⟨rfl, h14⟩; have Y14 := Lib.hid (Y11.out.trans ((Y13.out.trans (h14.mono Y13.out.size)).mono Y11.out.size)); clear h14)
  go_ret
  exact ⟨rfl, Y14.out⟩

set_option maxHeartbeats 8000000 in
theorem recordBack_walk (s : Value) (bs : List Nat) (S : ByteArray) (m a b c d : Int) (t : Value) (ms : List Nat) (w : World) (hs : Sl w s bs) (hl : bs.length ≤ 1048576) (ht : Sl w t ms) (hm : ms.length ≤ 1048576) :
    Calls Try.prog 7 #[s, rv S m a b c d, t] w fun e w' => e = .returned (.bool true) ∧ Below w.heap.size w w' := by
  cases h : okR S.size m a b c d
  · exact back_bad s S m a b c d t h w
  · exact back_ok s bs S m a b c d t ms w hs hl ht hm h

set_option maxRecDepth 100000 in
theorem recordBack_contract (H : Type) (enc : TypeId × Value → H) (W : World) (base : Nat) (args : Array Value) (ds gs : List (DataW H)) (before : List MemPlace)
    (hval0 : ∀ (j : Nat) t v, Try.f7.params[j]? = some t → args[j]? = some v → Value.okWide Try.prog W .any base t v)
    (hW : DataW.Whole enc Try.prog Try.f7.params.toList Rows.recordBackSpec.vars false W args.toList ds gs before) (hk0 : Rows.uptoSmall H (ds ++ gs) = true)
    (hsz0 : (DataW.weightsEach Try.prog (Try.f7.params.toList ++ Rows.recordBackSpec.plain.varTypes Try.prog) (ds ++ gs)).all (· ≤ reachBytes) = true) :
    Calls Try.prog 7 args W fun e W' => ∃ v, e = .returned v ∧ Rows.recordBackSpec.post enc Try.prog Try.f7 false true false false W args v W' := by
  have hk : Rows.uptoBulkAll (ds ++ gs) ≤ 1048576 := of_decide_eq_true hk0
  have hval : ∀ (j : Nat) t v, Try.f7.params[j]? = some t → args[j]? = some v → Value.okWide Try.prog W .any base t v := hval0
  have hsz : (DataW.weightsEach Try.prog (Try.f7.params.toList ++ Rows.recordBackSpec.plain.varTypes Try.prog) (ds ++ gs)).all (· ≤ reachBytes) = true := hsz0
  have hW' := hW
  obtain ⟨p, q, hA0, hV, rfl, hfz, hnd⟩ := hW
  have hA : DataW.TrodAll enc Try.prog W 0 (fun _ => true) true Try.f7.params.toList args.toList ds p := hA0
  rw [Try.params7] at hA hval hsz
  obtain ⟨v0, vs0, d0, ds0, p0, q0, hargs, rfl, rfl, h0, r0⟩ := trodAll_cons hA
  obtain ⟨v1, vs1, d1, ds1, p1, q1, rfl, rfl, rfl, h1, r1⟩ := trodAll_cons r0
  obtain ⟨v2, vs2, d2, ds2, p2, q2, rfl, rfl, rfl, h2, r2⟩ := trodAll_cons r1
  obtain ⟨rfl, rfl, rfl⟩ := trodAll_nil r2
  obtain rfl : args = #[v0, v1, v2] := by cases args; simp_all
  obtain ⟨rfl, rfl⟩ := trodVars_none hV
  have k0 := h0
  have lt0 : ∀ x ∈ p0, x.block < W.heap.size := by obtain ⟨m, hm⟩ := k0; exact DataW.trod_lt m _ _ _ hm
  have w0 : ∀ n ∈ d0.weights Try.prog 24, n ≤ reachBytes := fun n hn => by simpa using List.all_eq_true.1 hsz n (DataW.weights_mem_each (j := 0) rfl rfl n hn)
  obtain ⟨bs0, sl0, _, bk0⟩ := bytes_open_bulk (hval 0 24 v0 rfl rfl) h0 w0
  have k1 := h1
  have lt1 : ∀ x ∈ p1, x.block < W.heap.size := by obtain ⟨m, hm⟩ := k1; exact DataW.trod_lt m _ _ _ hm
  obtain ⟨S1, rm1, ra1, rb1, rc1, re1, rfl⟩ := rec_open (hval 1 23 v1 rfl rfl) h1
  have k2 := h2
  have lt2 : ∀ x ∈ p2, x.block < W.heap.size := by obtain ⟨m, hm⟩ := k2; exact DataW.trod_lt m _ _ _ hm
  have w2 : ∀ n ∈ d2.weights Try.prog 24, n ≤ reachBytes := fun n hn => by simpa using List.all_eq_true.1 hsz n (DataW.weights_mem_each (j := 2) rfl rfl n hn)
  obtain ⟨bs2, sl2, _, bk2⟩ := bytes_open_bulk (hval 2 24 v2 rfl rfl) h2 w2
  simp only [List.cons_append, List.nil_append, Rows.uptoBulkAll] at hk
  have ln0 : bs0.length ≤ 1048576 := by omega
  have ln2 : bs2.length ≤ 1048576 := by omega
  clear hA0 hval0 hsz0
  refine (recordBack_walk v0 bs0 S1 rm1 ra1 rb1 rc1 re1 v2 bs2 W sl0 ln0  sl2 ln2).mono fun e W' ⟨he, bel⟩ => ?_
  subst he
  exact ⟨_, rfl, _, _, _, [], _, [], hW', trodAll_mk1 (shut_bool Try.underlying4 _), (trodAll_cons_mk (Below.trod Try.laidOut (by kernel_rfl) (of_decide_eq_true (by kernel_rfl)) k0 bel lt0) (trodAll_cons_mk (Below.trod Try.laidOut (by kernel_rfl) (of_decide_eq_true (by kernel_rfl)) k1 bel lt1) (trodAll_cons_mk (Below.trod Try.laidOut (by kernel_rfl) (of_decide_eq_true (by kernel_rfl)) k2 bel lt2) trodAll_mk0))), rfl, bel.frame _, fun h => by cases h⟩

set_option maxRecDepth 100000 in
theorem recordBack_lifted (os : Os) (started : os.Started) (H : Type) (enc : TypeId × Value → H) (F : Stop.Interp) :
    ReturnsInHanded {} Try.checked os 7 .any ((Rows.OpenSpec.upto Rows.recordBackSpec).pre6 enc Try.prog Try.f7 Rows.recordBackUptoRow.domain false) (((Rows.OpenSpec.upto Rows.recordBackSpec).at F).post enc Try.prog Try.f7 false true false false) := by
  refine returnsInHanded_of_cond_sized (C := Try.checked) (s := Rows.OpenSpec.upto Rows.recordBackSpec) (k := Rows.uptoSmall) rfl Try.own started (by kernel_rfl) Try.func7
    (OpenSpec.witness (enc := enc) (C := Try.checked) (s := Rows.OpenSpec.upto Rows.recordBackSpec) (k := Rows.uptoSmall) rfl false ⟨#[], #[.slice none 0 0, .agg #[.string ByteArray.empty, .int .i64 0, .int .i64 0, .int .i64 0, .int .i64 0, .int .i64 0], .slice none 0 0], []⟩ 8 (by kernel_rfl) (by kernel_rfl) (by kernel_rfl)
      (x := ([.nil, .agg [.lit (.string []), .lit (.int .i64 0), .lit (.int .i64 0), .lit (.int .i64 0), .lit (.int .i64 0), .lit (.int .i64 0)], .nil], [], [])) (by kernel_rfl) rfl (by kernel_rfl)) ?_
  intro W base args ds gs before hval hW _ hk hsz _
  exact recordBack_contract H enc W base args ds gs before hval hW hk hsz

theorem recordBack_proved : Rows.RecordBackUptoSaid :=
  OpenClaim.holds_of_cond 7 Try.f7 rfl rfl rfl rfl rfl rfl rfl ⟨rfl, rfl, rfl, rfl, rfl⟩ rfl rfl rfl rfl rfl (by kernel_rfl) Try.func7 (by kernel_rfl)
    (of_decide_eq_true (by kernel_rfl)) (by unfold Func.isWrapper; rw [if_neg (of_decide_eq_false (by kernel_rfl))]; exact ⟨rfl, rfl⟩)
    (fun os started H enc _ F => recordBack_lifted os started H enc F)
end Go.Proofs.Ytheffpihhmdceaa
