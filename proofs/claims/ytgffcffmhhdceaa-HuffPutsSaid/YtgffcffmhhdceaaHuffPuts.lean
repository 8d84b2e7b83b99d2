/- The statement HuffPuts: any symbol's code is laid behind any row as the document says, or refused. It holds for every row, every row of numbers and every integer, without a condition. -/
import Derived.Test.YtgffcffmhhdceaaHlent
import Derived.Test.YtgffcffmhhdceaaHlives
namespace Go.Proofs.Ytgffcffmhhdceaa
open Go.ChangeShapes Go.WideShapes Go.ChangeAt Go.RowKit

theorem two_behind {w3 : World} {b p : Nat} {x y v1 v2 : Value} (h : Has w3 b (.cells #[x, y] 36)) (hp : b ≠ p) :
    ((w3.setCell ⟨p, 0, none⟩ v1).setCell ⟨p, 1, none⟩ v2).cell? ⟨b, 0, none⟩ = some x ∧ ((w3.setCell ⟨p, 0, none⟩ v1).setCell ⟨p, 1, none⟩ v2).cell? ⟨b, 1, none⟩ = some y :=
  ⟨((h.set hp _).set hp _).two.1, ((h.set hp _).set hp _).two.2.1⟩

theorem hidRefl {α : Type} (x : α) : Hid (x = x) := rfl
theorem has_sets {w : World} {b : Nat} {x y : Value} {t : TypeId} (h : Has w b (.cells #[x, y] t (0, 0))) (u v : Value) : Has ((w.setCell ⟨b, 0, none⟩ u).setCell ⟨b, 1, none⟩ v) b (.cells #[u, v] t (0, 0)) := by
  have h1 := h.setSelf (i := 0) u
  have h2 := Has.setSelf h1 (i := 1) v
  simpa using h2

/-- A row's bytes don't lie where a variable lies that holds a row. -/
theorem sl_sets {w : World} {p : Nat} {s x : Value} {y : Int} {bs : List Nat} (h : Sl w s bs) {a : Option Addr} {m c : Nat} (hx : Hid (x = .slice a m c)) (hp : Has w p (.cells #[x, .int .i64 y] 36 (0, 0))) (u v : Value) : Sl ((w.setCell ⟨p, 0, none⟩ u).setCell ⟨p, 1, none⟩ v) s bs := by
  have hx := hx.out
  subst hx
  obtain ⟨a', len, cap, rfl, h1, h2, h3, h4, h5⟩ := h
  refine ⟨a', len, cap, rfl, h1, h2, h3, h4, fun h0 => ?_⟩
  obtain ⟨b, off, rfl, hb, hc⟩ := h5 h0
  have hne : b ≠ p := by
    intro e
    subst e
    have h6 := hc 0 h0
    rw [hp.cell, Nat.add_zero] at h6
    match off, h6 with
    | 0, h6 => simp at h6
    | 1, h6 => simp at h6
    | (k + 2), h6 => simp at h6
  refine ⟨b, off, rfl, by simpa [World.setCell] using hb, fun i hi => ?_⟩
  rw [World.cell?_of_block (Below.heap_setCell _ ⟨p, 1, none⟩ v b hne), World.cell?_of_block (Below.heap_setCell _ ⟨p, 0, none⟩ u b hne)]
  exact hc i hi

set_option maxHeartbeats 4000000 in
theorem huffPuts_walk (s : Value) (bs : List Nat) (N : Int) (s2 : Value) (zs : List Int) (y : Int) (w : World) (hs : Sl w s bs) (hl : bs.length ≤ 140737488351232) (_ : -9223372036854775808 ≤ N) (hN : N ≤ 9223372036854775807) (hz : Zl w s2 zs) (hzl : zs.length ≤ 17592186043904) (_ : -9223372036854775808 ≤ y) (_ : y ≤ 9223372036854775807) :
    Calls Try.prog 4 #[.agg #[s, .int .i64 N], s2, .int .i64 y] w fun e w' => e = .returned (.bool true) ∧ Below w.heap.size w w' := by
  obtain ⟨bs', n', c, HP, HR⟩ := hput_pair bs N zs y hs.facts.1 hl hN
  have HS := Lib.hid hs
  have HZ := Lib.hid hz
  have HO : Hid (∀ w', Below w.heap.size w w' → Calls Try.prog 10 #[s2] w' (OwnI w' zs)) := fun w' h => own_any zs s2 w' (hz.later h) hzl
  have HZO : Hid (∀ (w' : World) (base g cap : Nat), w'.ownsRow base 3 1 (.slice (some ⟨g, 0, none⟩) zs.length cap) zs.length (zs.map (Value.int .i64)) → Zl w' (.slice (some ⟨g, 0, none⟩) zs.length cap) zs) := fun w' base g cap h => zl_own h rfl (by omega)
  unfold OwnI at HO
  obtain ⟨a2, len2, cap2, rfl, hlen2⟩ := hz.shape
  obtain ⟨a, len, cap, rfl, hlen⟩ := hs.shape
  rw [← hlen2] at HO HZO
  have HL := Lib.hid hlen
  clear hs hz hlen hlen2
  go_enter Try.func4, Try.ntmps4
  go_wp2_with fail
  refine (lent_walk a len cap bs N _ (HS.out.later (below1 _ _)) (by have := HL.out; omega)).mono ?_
  rintro e w1 ⟨g, cap1, rfl, ht, b1⟩
  obtain ⟨k1, kb, ks⟩ := facts1 b1
  rw [← HL.out] at ht ⊢
  have XA := Lib.hid (Has.new w1 (.cells #[.slice (some ⟨g, 0, none⟩) len cap1, .int .i64 N] 36))
  have TA := Lib.hid (ht.later (below1 w1 (.cells #[.slice (some ⟨g, 0, none⟩) len cap1, .int .i64 N] 36)))
  have KA := Lib.hid (k1.alloc (.cells #[.slice (some ⟨g, 0, none⟩) len cap1, .int .i64 N] 36))
  have BA := Lib.hid (kb.trans ((below1 w1 (.cells #[.slice (some ⟨g, 0, none⟩) len cap1, .int .i64 N] 36)).mono kb.size))
  clear ht k1 b1 kb
  obtain ⟨wa, hwa⟩ : ∃ wa, wa = w1.alloc (.cells #[.slice (some ⟨g, 0, none⟩) len cap1, .int .i64 N] 36) := ⟨_, rfl⟩
  have hza : w1.heap.size + 1 = wa.heap.size := by rw [hwa]; simp
  rw [← hwa] at XA TA KA BA
  obtain ⟨c0, c1, f0, f1⟩ := XA.out.two
  go_upto_region 2 with fail
  rw [← hwa]
  have HZA := Lib.hid hza
  clear hwa hza
  have hzn := HZA.out
  have nA : w1.heap.size ≠ wa.heap.size := by omega
  have o0 : Hid (Below wa.heap.size wa wa.drew) := (Below.refl _ _).drew
  have o1 : Hid (Below wa.heap.size wa (wa.alloc (.cells #[.slice none 0 0, .int .i64 0] 36)).drew) := (below1 wa _).drew
  go_cut [8, 9] (fun s8 s9 wx => ∃ (p : Nat) (a3 : Option Addr) (m3 cap3 : Nat), s8 = .pointer (some ⟨p, 0, none⟩) ∧ s9 = .int .i64 c ∧ Hid (Has wx p (.cells #[.slice a3 m3 cap3, .int .i64 n'] 36)) ∧ Hid (Sl wx (.slice a3 m3 cap3) bs') ∧ Hid (Below wa.heap.size wa wx))
  case first =>
    go_region_held3 (fun wx => wx.cell? ⟨w1.heap.size, 0, none⟩ = some (.slice (some ⟨g, 0, none⟩) len cap1) ∧ wx.cell? ⟨w1.heap.size, 1, none⟩ = some (.int .i64 N)) (first | exact ⟨c0, c1⟩ | exact ⟨a0, a1⟩ | exact ⟨b0, b1⟩ | exact two_behind XX.out n2 | exact two_behind XX.out nA | exact two_behind (XX.out.alloc _) n3 | go_keep) (first | (go_at_call 10; first | (refine (HO.out _ (BA.out.trans (o0.out.mono BA.out.size))).mono ?_; rintro e w2 ⟨g2, cg2, rfl, hown, hb⟩; have P2 := Lib.hid (o0.out.trans (hb.mono o0.out.size)); have Z2 := Lib.hid (HZO.out _ _ _ _ hown); have vv := (XA.out.later P2.out).two; have a0 := vv.1; have a1 := vv.2.1; have zz := P2.out.size; have n2 : w1.heap.size ≠ w2.heap.size := (by omega); clear vv hown hb) | (refine (HO.out _ (BA.out.trans (o1.out.mono BA.out.size))).mono ?_; rintro e w2 ⟨g2, cg2, rfl, hown, hb⟩; have P2 := Lib.hid (o1.out.trans (hb.mono o1.out.size)); have Z2 := Lib.hid (HZO.out _ _ _ _ hown); have X8 := Lib.hid ((has_drew (Has.new wa (.cells #[.slice none 0 0, .int .i64 0] 36))).later hb); have vv := (XA.out.later P2.out).two; have a0 := vv.1; have a1 := vv.2.1; have zz := P2.out.size; have n2 : w1.heap.size ≠ w2.heap.size := (by omega); clear vv hown hb)) | (go_at_call 18; first | (refine (HP.out _ _ _ (TA.out.later P2.out) Z2.out).mono ?_; rintro e w3 ⟨a3, m3, cap3, rfl, s3, b3⟩; have P3 := Lib.hid (P2.out.trans (b3.mono P2.out.size)); first | (have X9 := Lib.hid (X8.out.later b3); have dd := X9.out.two; have d0 := dd.1; have d1 := dd.2.1; have d2 := dd.2.2.1; have d3 := dd.2.2.2; clear dd; have S3 := Lib.hid s3; have zw := P3.out.size; have n3 : w1.heap.size ≠ w3.heap.size := (by omega); have XX := Lib.hid (XA.out.later P3.out); have vv := XX.out.two; have b0 := vv.1; have b1 := vv.2.1; clear vv s3 b3) | (have S3 := Lib.hid s3; have zw := P3.out.size; have n3 : w1.heap.size ≠ w3.heap.size := (by omega); have XX := Lib.hid (XA.out.later P3.out); have vv := XX.out.two; have b0 := vv.1; have b1 := vv.2.1; clear vv s3 b3)) | (refine (HP.out _ _ _ (TA.out.later (P2.out.trans ((below1 w2 (.cells #[.slice none 0 0, .int .i64 0] 36)).mono P2.out.size))) (Z2.out.later (below1 w2 (.cells #[.slice none 0 0, .int .i64 0] 36)))).mono ?_; rintro e w3 ⟨a3, m3, cap3, rfl, s3, b3⟩; have P3 := Lib.hid ((P2.out.trans ((below1 w2 (.cells #[.slice none 0 0, .int .i64 0] 36)).mono P2.out.size)).trans (b3.mono (by have := P2.out.size; simp; omega))); have X9 := Lib.hid ((Has.new w2 (.cells #[.slice none 0 0, .int .i64 0] 36)).later b3); have dd := X9.out.two; have d0 := dd.1; have d1 := dd.2.1; have d2 := dd.2.2.1; have d3 := dd.2.2.2; clear dd; have S3 := Lib.hid s3; have zw := P3.out.size; have n3 : w1.heap.size ≠ w3.heap.size := (by omega); have XX := Lib.hid (XA.out.later P3.out); have vv := XX.out.two; have b0 := vv.1; have b1 := vv.2.1; clear vv s3 b3)))
    all_goals (go_wp2; go_meet)
    all_goals first
      | exact ⟨w3.heap.size, a3, m3, cap3, rfl, rfl, Has.new w3 _, S3.out.later (below1 w3 _), P3.out.trans ((below1 w3 _).mono P3.out.size)⟩
      | exact ⟨w2.heap.size, a3, m3, cap3, rfl, rfl, has_sets X9.out _ _, sl_sets S3.out (hidRefl _) X9.out _ _, (P3.out.setCell P2.out.size _).setCell P2.out.size _⟩
      | exact ⟨wa.heap.size, a3, m3, cap3, rfl, rfl, has_sets X9.out _ _, sl_sets S3.out (hidRefl _) X9.out _ _, (P3.out.setCell (Nat.le_refl _) _).setCell (Nat.le_refl _) _⟩
  case rest =>
    obtain ⟨p, a3, m3, cap3, rfl, rfl, XB, SB, BB⟩ := hcut
    have KX := KA.out.later BB.out
    obtain ⟨d0, d1, _, _⟩ := KX.two
    have ZB := Lib.hid (HZ.out.later (BA.out.trans (BB.out.mono BA.out.size)))
    clear KX c0 c1 f0 f1 hzn
    go_wp2_with fail
    refine (HR.out _ _ _ (HS.out.later (BA.out.trans (BB.out.mono BA.out.size))) ZB.out).mono ?_
    rintro e w3 ⟨a4, m4, cap4, rfl, s4, b4⟩
    have X3 := Lib.hid (Has.new w3 (.cells #[.slice a4 m4 cap4, .int .i64 n'] 36))
    have S3 := Lib.hid (s4.later (below1 w3 (.cells #[.slice a4 m4 cap4, .int .i64 n'] 36)))
    have B3 := Lib.hid (b4.trans ((below1 w3 (.cells #[.slice a4 m4 cap4, .int .i64 n'] 36)).mono b4.size))
    obtain ⟨wc, hwc⟩ : ∃ wc, wc = w3.alloc (.cells #[.slice a4 m4 cap4, .int .i64 n'] 36) := ⟨_, rfl⟩
    rw [← hwc] at X3 S3 B3
    clear s4 b4 d0 d1
    have A3 := Lib.hid (BB.out.trans (B3.out.mono BB.out.size))
    have XA3 := Lib.hid (XA.out.later A3.out)
    have KA3 := Lib.hid (KA.out.later A3.out)
    have TA3 := Lib.hid (TA.out.later A3.out)
    have XB3 := Lib.hid (XB.out.later B3.out)
    have SB3 := Lib.hid (SB.out.later B3.out)
    have HS3 := Lib.hid (HS.out.later (BA.out.trans (A3.out.mono BA.out.size)))
    have B9 := Lib.hid (BA.out.trans (A3.out.mono BA.out.size))
    go_upto_region 4 with fail
    rw [← hwc]
    clear hwc
    have c0 := (XB3.out.two).1
    have c1 := (XB3.out.two).2.1
    have d0 := (X3.out.two).1
    have d1 := (X3.out.two).2.1
    go_wp2_with fail
    refine (same_is _ _ n' n' bs' _ SB3.out S3.out rfl).mono ?_
    rintro e w5 ⟨rfl, b5⟩
    have XA5 := (XA3.out.later b5).two
    have KA5 := (KA3.out.later b5).two
    have a0 := XA5.1
    have a1 := XA5.2.1
    have e0 := KA5.1
    have e1 := KA5.2.1
    have TA5 := Lib.hid (TA3.out.later b5)
    have HS5 := Lib.hid (HS3.out.later b5)
    have B5 := Lib.hid (B9.out.trans (b5.mono B9.out.size))
    clear XA5 KA5 c0 c1 d0 d1 b5
    go_wp2_with fail
    refine (same_is _ _ N N bs _ TA5.out HS5.out rfl).mono ?_
    rintro e w6 ⟨rfl, b6⟩
    have B6 := Lib.hid (B5.out.trans (b6.mono B5.out.size))
    clear b6 a0 a1 e0 e1
    go_wp2_with fail
    refine (lives_any _).mono ?_
    rintro e w7 ⟨rfl, b7⟩
    have B7 := Lib.hid (B6.out.trans (b7.mono B6.out.size))
    clear b7
    go_wp2
    go_ret
    exact ⟨rfl, B7.out⟩

set_option maxRecDepth 100000 in
theorem huffPuts_lifted (os : Os) (started : os.Started) (H : Type) (enc : TypeId × Value → H) :
    ReturnsInHanded {} Try.checked os 4 .any (Rows.huffPutsSpec.pre6 enc Try.prog Try.f4 Rows.huffPutsRow.domain false) (Rows.huffPutsSpec.post enc Try.prog Try.f4 false true false false) := by
  refine returnsInHanded_of_change_sized (C := Try.checked) Try.own started (by kernel_rfl) Try.func4
    (ChangeSpec.witness6 (enc := enc) (C := Try.checked) false ⟨#[], #[.agg #[.slice none 0 0, .int .i64 0], .slice none 0 0, .int .i64 0], []⟩ 8 (by kernel_rfl) (by kernel_rfl) (by kernel_rfl) (by kernel_rfl)) ?_
  intro W base args ds gs before hval0 hW _ hsz0 _
  have hval : ∀ (j : Nat) t v, Try.f4.params[j]? = some t → args[j]? = some v → Value.okWide Try.prog W .any base t v := hval0
  have hsz : (DataW.weightsEach Try.prog (Try.f4.params.toList ++ Rows.huffPutsSpec.plain.varTypes Try.prog) (ds ++ gs)).all (· ≤ reachBytes) = true := hsz0
  have hW' := hW
  obtain ⟨p, q, hA0, hV, rfl, hfz, hnd⟩ := hW
  have hA : DataW.TrodAll enc Try.prog W 0 (fun _ => true) true Try.f4.params.toList args.toList ds p := hA0
  rw [Try.params4] at hA hval hsz
  obtain ⟨v0, vs0, d0, ds0, p0, q0, hargs, rfl, rfl, h0, r0⟩ := trodAll_cons hA
  obtain ⟨v1, vs1, d1, ds1, p1, q1, rfl, rfl, rfl, h1, r1⟩ := trodAll_cons r0
  obtain ⟨v2, vs2, d2, ds2, p2, q2, rfl, rfl, rfl, h2, r2⟩ := trodAll_cons r1
  obtain ⟨rfl, rfl, rfl⟩ := trodAll_nil r2
  obtain rfl : args = #[v0, v1, v2] := by cases args; simp_all
  obtain ⟨rfl, rfl⟩ := trodVars_none hV
  have k0 := h0
  have lt0 : ∀ x ∈ p0, x.block < W.heap.size := by obtain ⟨m, hm⟩ := k0; exact DataW.trod_lt m _ _ _ hm
  have w0 : ∀ n ∈ d0.weights Try.prog 36, n ≤ reachBytes := fun n hn => by simpa using List.all_eq_true.1 hsz n (DataW.weights_mem_each (j := 0) rfl rfl n hn)
  obtain ⟨s0, bs0, n0, rfl, sl0, ln0, lo0, hi0⟩ := bits_open (hval 0 36 v0 rfl rfl) h0 w0
  have k1 := h1
  have lt1 : ∀ x ∈ p1, x.block < W.heap.size := by obtain ⟨m, hm⟩ := k1; exact DataW.trod_lt m _ _ _ hm
  have w1 : ∀ n ∈ d1.weights Try.prog 22, n ≤ reachBytes := fun n hn => by simpa using List.all_eq_true.1 hsz n (DataW.weights_mem_each (j := 1) rfl rfl n hn)
  obtain ⟨zs1, zl1, ln1⟩ := ints_open (hval 1 22 v1 rfl rfl) h1 w1
  have k2 := h2
  have lt2 : ∀ x ∈ p2, x.block < W.heap.size := by obtain ⟨m, hm⟩ := k2; exact DataW.trod_lt m _ _ _ hm
  obtain ⟨n2, ev2, _, _, wn2⟩ := open_int Try.underlying3 (hval 2 3 v2 rfl rfl) h2
  subst ev2
  obtain ⟨lo2, hi2⟩ := wf_bounds wn2
  clear hA0 hval0 hsz0
  refine (huffPuts_walk s0 bs0 n0 v1 zs1 n2 W sl0 ln0 lo0 hi0 zl1 ln1 lo2 hi2).mono fun e W' ⟨he, bel⟩ => ?_
  subst he
  exact ⟨_, rfl, _, _, _, [], _, [], hW', trodAll_mk1 (shut_bool Try.underlying4 _), (trodAll_cons_mk (Below.trod Try.laidOut (by kernel_rfl) (of_decide_eq_true (by kernel_rfl)) k0 bel lt0) (trodAll_cons_mk (Below.trod Try.laidOut (by kernel_rfl) (of_decide_eq_true (by kernel_rfl)) k1 bel lt1) (trodAll_cons_mk (Below.trod Try.laidOut (by kernel_rfl) (of_decide_eq_true (by kernel_rfl)) k2 bel lt2) trodAll_mk0))), rfl, bel.frame _, fun h => by cases h⟩

theorem huffPuts_proved : Rows.HuffPutsSaid :=
  OpenClaim.holds_of_wide 4 Try.f4 rfl rfl rfl rfl rfl rfl rfl ⟨rfl, rfl, rfl, rfl, rfl⟩ rfl rfl rfl rfl rfl (by kernel_rfl) Try.func4 (by kernel_rfl)
    (of_decide_eq_true (by kernel_rfl)) (by unfold Func.isWrapper; rw [if_neg (of_decide_eq_false (by kernel_rfl))]; exact ⟨rfl, rfl⟩)
    (fun os started H enc _ => huffPuts_lifted os started H enc)
end Go.Proofs.Ytgffcffmhhdceaa
