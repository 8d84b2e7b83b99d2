/- The statement RecordEndBack up to its bulk: an end that was laid down is read, whatever stands ahead and behind. It holds for all bytes ahead and behind, together at most 1048576 values, and every integer. -/
import Derived.Test.YtheffpihhmdceaaNebk
import Derived.Test.YtheffpihhmdceaaNarg
import Derived.Test.YtheffpihhmdceaaCbulk

namespace Go.Proofs.Ytheffpihhmdceaa
set_option maxRecDepth 100000
open Go.ChangeShapes Go.WideShapes Go.ChangeAt Go.RowKit

theorem rdE_cut (l : List Nat) (h : l.length = 21) : rdE l 0 = reBad 4 := by
  have hp : pe l.length 0 22 = 4 := by rw [h]; decide
  unfold rdE
  rw [hp, if_pos (by decide)]

theorem own_cap {w : World} {base : Nat} {e : TypeId} {a : Option Addr} {c n : Nat} {xs : List Value} (h : w.ownsRow base e 1 (.slice a n c) n xs) : n ≤ c := by
  rcases h.2 with ⟨e, e2⟩ | ⟨g, c, cur, e, _, _, hc, _⟩
  · injection e with e1 e3 e4; omega
  · injection e with e1 e3 e4; omega

set_option maxHeartbeats 8000000 in
theorem recordEndBack_walk (s : Value) (bs : List Nat) (c z a : Int) (t : Value) (ms : List Nat) (w : World) (hs : Sl w s bs) (hl : bs.length ≤ 1048576) (_ : -9223372036854775808 ≤ c) (_ : c ≤ 9223372036854775807) (_ : -9223372036854775808 ≤ z) (_ : z ≤ 9223372036854775807) (_ : -9223372036854775808 ≤ a) (_ : a ≤ 9223372036854775807) (ht : Sl w t ms) (hm : ms.length ≤ 1048576) :
    Calls Try.prog 8 #[s, .int .i64 c, .int .i64 z, .int .i64 a, t] w fun e w' => e = .returned (.bool true) ∧ Below w.heap.size w w' := by
  obtain ⟨a0, len, cap, rfl, hlen⟩ := hs.shape
  obtain ⟨b0, lm, capm, rfl, hlm⟩ := ht.shape
  have LV := Lib.hid lives_any
  cases h : okE c z a
  · have C1 := Lib.hid (fun w => end_bad c z a h w)
    clear hs ht hl hm hlen hlm h
    go_enter Try.func8, Try.ntmps8
    go_wp2_with fail
    refine (C1.out _).mono ?_
    rintro e w1 ⟨rfl, h1⟩
    have B1 := Lib.hid h1
    clear h1
    go_wp2_with (go_at_call 16; refine (LV.out _).mono ?_; rintro e w4 ⟨rfl, h4⟩; have B4 := Lib.hid (B1.out.trans (h4.mono B1.out.size)); clear h4)
    go_ret
    exact ⟨rfl, B4.out⟩
  · have C1 := Lib.hid (fun w => end_ok c z a h w)
    have hq : (endB c z a).length = 22 := by rw [end_is]; simp [Fd.le_length]
    have hb := rdE_back c z a h bs ms
    have HS := Lib.hid hs
    have HT := Lib.hid ht
    have HL := Lib.hid hlen
    have HM := Lib.hid hlm
    have HQ := Lib.hid hq
    generalize endB c z a = q at *
    have hb2 := rdE_cut (q.take 21) (by rw [List.length_take]; omega)
    have g1 : len ≤ 1048576 := by omega
    have g2 : lm ≤ 1048576 := by omega
    have O1 := Lib.hid (fun W hW => own_any a0 len cap bs W hW (by omega))
    have R1 := Lib.hid (fun (W : World) (x : Option Addr) (k cp : Nat) (hc : k ≤ cp) (hW : Sl W (.slice x k cp) (bs ++ q ++ ms)) => readEnd_any x k cp (bs ++ q ++ ms) (len : Int) hc W hW)
    have R2 := Lib.hid (fun (W : World) (x : Option Addr) (cp : Nat) (hc : 21 ≤ cp) (hW : Sl W (.slice x 21 cp) (q.take 21)) => readEnd_any x 21 cp (q.take 21) 0 hc W hW)
    rw [hlen, hb] at R1
    rw [← hlen] at R1
    rw [hb2] at R2
    unfold Re.val reBad at R2
    unfold Re.val at R1
    clear hs ht hl hm hlen hlm h hb hb2 hq
    go_enter Try.func8, Try.ntmps8
    go_wp2_with fail
    refine (C1.out _).mono ?_
    rintro e w1 ⟨x1, k1, c1, rfl, hm1, h1⟩
    obtain rfl : k1 = 22 := hm1.2.1.trans HQ.out
    have M1 := Lib.hid hm1
    have B1 := Lib.hid h1
    clear hm1 h1 C1
    go_wp2_with fail
    refine (O1.out _ (HS.out.later B1.out)).mono ?_
    rintro e w2 ⟨ga, ca, rfl, hm2, h2⟩
    have M2 := Lib.hid hm2
    have D2 := Lib.hid h2
    have T2 := Lib.hid (HT.out.later (B1.out.trans (h2.mono B1.out.size)))
    have A2 := Lib.hid ((M1.out.later h2).sl (by omega))
    have hga := own_base hm2.1
    clear hm2 h2 O1
    have hc1 : 22 ≤ c1 := M1.out.cap
    have hc2 : (21 : Int) ≤ (c1 : Int) := by omega
    have hc3 : 21 ≤ c1 := by omega
    have HC1 := Lib.hid hc1
    clear hc1
    go_wp2_with (at_builtin; first | (refine wpList_append_sl rfl (.tmp 45) (.tmp 46) rfl w1.heap.size ga ca len (vb bs) rfl M2.out.1 x1 22 c1 q rfl A2.out (by omega) D2.out.size ?_; intro g3 c3 w3 ho3 hg3; have D3 := Lib.hid (below_grown D2.out hg3.out hga D2.out.size); have hg3b := own_base ho3.out; have T3 := Lib.hid (HT.out.later (B1.out.trans (D3.out.mono B1.out.size))); clear hg3) | (refine wpList_append_sl rfl (.tmp 47) (.tmp 48) rfl w1.heap.size g3 c3 (len + 22) (vb bs ++ vb q) rfl ho3.out b0 lm capm ms rfl T3.out (by omega) D3.out.size ?_; intro g5 c5 w5 ho5 hg5; have D5 := Lib.hid (below_grown D3.out hg5.out hg3b D3.out.size); have S5 := Lib.hid (Sl.owned (bs := bs ++ q ++ ms) (by rw [vb_append, vb_append]; exact ho5.out) (fun x hx => (List.mem_append.1 hx).elim (fun h => (List.mem_append.1 h).elim (HS.out.facts.1 x) (A2.out.facts.1 x)) (HT.out.facts.1 x)) (by omega)); have hc5 := own_cap ho5.out; have HC5 := Lib.hid hc5; clear hc5 hg5))
    refine (R1.out _ _ _ _ HC5.out S5.out).mono ?_
    rintro e w6 ⟨rfl, h6⟩
    have D6 := Lib.hid (D5.out.trans (h6.mono D5.out.size))
    have A6 := Lib.hid (((M1.out.later D6.out).sl (by omega)).take 21 (by omega))
    clear h6 ho3 ho5 g1 g2
    go_wp2_with fail
    refine (R2.out _ _ _ hc3 A6.out).mono ?_
    rintro e w7 ⟨rfl, h7⟩
    have B7 := Lib.hid (B1.out.trans ((D6.out.trans (h7.mono D6.out.size)).mono B1.out.size))
    clear h7
    go_wp2_with (go_at_call 16; refine (LV.out _).mono ?_; rintro e w8 ⟨rfl, h8⟩; have B8 := Lib.hid (B7.out.trans (h8.mono B7.out.size)); clear h8)
    go_ret
    exact ⟨rfl, B8.out⟩

set_option maxRecDepth 100000 in
theorem recordEndBack_contract (H : Type) (enc : TypeId × Value → H) (W : World) (base : Nat) (args : Array Value) (ds gs : List (DataW H)) (before : List MemPlace)
    (hval0 : ∀ (j : Nat) t v, Try.f8.params[j]? = some t → args[j]? = some v → Value.okWide Try.prog W .any base t v)
    (hW : DataW.Whole enc Try.prog Try.f8.params.toList Rows.recordEndBackSpec.vars false W args.toList ds gs before) (hk0 : Rows.uptoSmall H (ds ++ gs) = true)
    (hsz0 : (DataW.weightsEach Try.prog (Try.f8.params.toList ++ Rows.recordEndBackSpec.plain.varTypes Try.prog) (ds ++ gs)).all (· ≤ reachBytes) = true) :
    Calls Try.prog 8 args W fun e W' => ∃ v, e = .returned v ∧ Rows.recordEndBackSpec.post enc Try.prog Try.f8 false true false false W args v W' := by
  have hk : Rows.uptoBulkAll (ds ++ gs) ≤ 1048576 := of_decide_eq_true hk0
  have hval : ∀ (j : Nat) t v, Try.f8.params[j]? = some t → args[j]? = some v → Value.okWide Try.prog W .any base t v := hval0
  have hsz : (DataW.weightsEach Try.prog (Try.f8.params.toList ++ Rows.recordEndBackSpec.plain.varTypes Try.prog) (ds ++ gs)).all (· ≤ reachBytes) = true := hsz0
  have hW' := hW
  obtain ⟨p, q, hA0, hV, rfl, hfz, hnd⟩ := hW
  have hA : DataW.TrodAll enc Try.prog W 0 (fun _ => true) true Try.f8.params.toList args.toList ds p := hA0
  rw [Try.params8] at hA hval hsz
  obtain ⟨v0, vs0, d0, ds0, p0, q0, hargs, rfl, rfl, h0, r0⟩ := trodAll_cons hA
  obtain ⟨v1, vs1, d1, ds1, p1, q1, rfl, rfl, rfl, h1, r1⟩ := trodAll_cons r0
  obtain ⟨v2, vs2, d2, ds2, p2, q2, rfl, rfl, rfl, h2, r2⟩ := trodAll_cons r1
  obtain ⟨v3, vs3, d3, ds3, p3, q3, rfl, rfl, rfl, h3, r3⟩ := trodAll_cons r2
  obtain ⟨v4, vs4, d4, ds4, p4, q4, rfl, rfl, rfl, h4, r4⟩ := trodAll_cons r3
  obtain ⟨rfl, rfl, rfl⟩ := trodAll_nil r4
  obtain rfl : args = #[v0, v1, v2, v3, v4] := by cases args; simp_all
  obtain ⟨rfl, rfl⟩ := trodVars_none hV
  have k0 := h0
  have lt0 : ∀ x ∈ p0, x.block < W.heap.size := by obtain ⟨m, hm⟩ := k0; exact DataW.trod_lt m _ _ _ hm
  have w0 : ∀ n ∈ d0.weights Try.prog 24, n ≤ reachBytes := fun n hn => by simpa using List.all_eq_true.1 hsz n (DataW.weights_mem_each (j := 0) rfl rfl n hn)
  obtain ⟨bs0, sl0, _, bk0⟩ := bytes_open_bulk (hval 0 24 v0 rfl rfl) h0 w0
  have k1 := h1
  have lt1 : ∀ x ∈ p1, x.block < W.heap.size := by obtain ⟨m, hm⟩ := k1; exact DataW.trod_lt m _ _ _ hm
  obtain ⟨n1, ev1, _, _, wn1⟩ := open_int Try.underlying3 (hval 1 3 v1 rfl rfl) h1
  subst ev1
  obtain ⟨lo1, hi1⟩ := wf_bounds wn1
  have k2 := h2
  have lt2 : ∀ x ∈ p2, x.block < W.heap.size := by obtain ⟨m, hm⟩ := k2; exact DataW.trod_lt m _ _ _ hm
  obtain ⟨n2, ev2, _, _, wn2⟩ := open_int Try.underlying3 (hval 2 3 v2 rfl rfl) h2
  subst ev2
  obtain ⟨lo2, hi2⟩ := wf_bounds wn2
  have k3 := h3
  have lt3 : ∀ x ∈ p3, x.block < W.heap.size := by obtain ⟨m, hm⟩ := k3; exact DataW.trod_lt m _ _ _ hm
  obtain ⟨n3, ev3, _, _, wn3⟩ := open_int Try.underlying3 (hval 3 3 v3 rfl rfl) h3
  subst ev3
  obtain ⟨lo3, hi3⟩ := wf_bounds wn3
  have k4 := h4
  have lt4 : ∀ x ∈ p4, x.block < W.heap.size := by obtain ⟨m, hm⟩ := k4; exact DataW.trod_lt m _ _ _ hm
  have w4 : ∀ n ∈ d4.weights Try.prog 24, n ≤ reachBytes := fun n hn => by simpa using List.all_eq_true.1 hsz n (DataW.weights_mem_each (j := 4) rfl rfl n hn)
  obtain ⟨bs4, sl4, _, bk4⟩ := bytes_open_bulk (hval 4 24 v4 rfl rfl) h4 w4
  simp only [List.cons_append, List.nil_append, Rows.uptoBulkAll] at hk
  have ln0 : bs0.length ≤ 1048576 := by omega
  have ln4 : bs4.length ≤ 1048576 := by omega
  clear hA0 hval0 hsz0
  refine (recordEndBack_walk v0 bs0 n1 n2 n3 v4 bs4 W sl0 ln0 lo1 hi1 lo2 hi2 lo3 hi3 sl4 ln4).mono fun e W' ⟨he, bel⟩ => ?_
  subst he
  exact ⟨_, rfl, _, _, _, [], _, [], hW', trodAll_mk1 (shut_bool Try.underlying4 _), (trodAll_cons_mk (Below.trod Try.laidOut (by kernel_rfl) (of_decide_eq_true (by kernel_rfl)) k0 bel lt0) (trodAll_cons_mk (Below.trod Try.laidOut (by kernel_rfl) (of_decide_eq_true (by kernel_rfl)) k1 bel lt1) (trodAll_cons_mk (Below.trod Try.laidOut (by kernel_rfl) (of_decide_eq_true (by kernel_rfl)) k2 bel lt2) (trodAll_cons_mk (Below.trod Try.laidOut (by kernel_rfl) (of_decide_eq_true (by kernel_rfl)) k3 bel lt3) (trodAll_cons_mk (Below.trod Try.laidOut (by kernel_rfl) (of_decide_eq_true (by kernel_rfl)) k4 bel lt4) trodAll_mk0))))), rfl, bel.frame _, fun h => by cases h⟩

set_option maxRecDepth 100000 in
theorem recordEndBack_lifted (os : Os) (started : os.Started) (H : Type) (enc : TypeId × Value → H) (F : Stop.Interp) :
    ReturnsInHanded {} Try.checked os 8 .any ((Rows.OpenSpec.upto Rows.recordEndBackSpec).pre6 enc Try.prog Try.f8 Rows.recordEndBackUptoRow.domain false) (((Rows.OpenSpec.upto Rows.recordEndBackSpec).at F).post enc Try.prog Try.f8 false true false false) := by
  refine returnsInHanded_of_cond_sized (C := Try.checked) (s := Rows.OpenSpec.upto Rows.recordEndBackSpec) (k := Rows.uptoSmall) rfl Try.own started (by kernel_rfl) Try.func8
    (OpenSpec.witness (enc := enc) (C := Try.checked) (s := Rows.OpenSpec.upto Rows.recordEndBackSpec) (k := Rows.uptoSmall) rfl false ⟨#[], #[.slice none 0 0, .int .i64 0, .int .i64 0, .int .i64 0, .slice none 0 0], []⟩ 8 (by kernel_rfl) (by kernel_rfl) (by kernel_rfl)
      (x := ([.nil, .lit (.int .i64 0), .lit (.int .i64 0), .lit (.int .i64 0), .nil], [], [])) (by kernel_rfl) rfl (by kernel_rfl)) ?_
  intro W base args ds gs before hval hW _ hk hsz _
  exact recordEndBack_contract H enc W base args ds gs before hval hW hk hsz

theorem recordEndBack_proved : Rows.RecordEndBackUptoSaid :=
  OpenClaim.holds_of_cond 8 Try.f8 rfl rfl rfl rfl rfl rfl rfl ⟨rfl, rfl, rfl, rfl, rfl⟩ rfl rfl rfl rfl rfl (by kernel_rfl) Try.func8 (by kernel_rfl)
    (of_decide_eq_true (by kernel_rfl)) (by unfold Func.isWrapper; rw [if_neg (of_decide_eq_false (by kernel_rfl))]; exact ⟨rfl, rfl⟩)
    (fun os started H enc _ F => recordEndBack_lifted os started H enc F)
end Go.Proofs.Ytheffpihhmdceaa
