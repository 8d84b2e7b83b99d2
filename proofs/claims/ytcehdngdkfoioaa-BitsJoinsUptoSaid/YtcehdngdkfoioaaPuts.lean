/- The statement BitsPuts: any number is laid behind any row as the document says, in memory of its own, or refused. It holds for every row and every two integers, without a condition. -/
import Derived.Test.YtcehdngdkfoioaaKept
import Derived.Test.YtcehdngdkfoioaaArg
namespace Go.Proofs.Ytcehdngdkfoioaa
open Go.ChangeShapes Go.WideShapes Go.ChangeAt Go.RowKit

/-- spoil, whatever the answer's memory. -/
theorem spoil_any (a : Option Addr) (m cap : Nat) (bs : List Nat) (n : Int) (B : Nat) (w : World) (hf : Fresh B w a m bs) (hs : Sl w (.slice a m cap) bs) (hBs : B ≤ w.heap.size) :
    Calls Try.prog 17 #[.agg #[.slice a m cap, .int .i64 n]] w fun e w' => e = .returned (.tuple #[]) ∧ Below B w w' := by
  have hm := hs.len
  rcases hf with ⟨rfl, rfl⟩ | ⟨g, rfl, h2, h3, h4⟩
  · exact (spoil_none n w cap).mono fun e w' h => ⟨h.1, h.2.mono hBs⟩
  · exact spoil_own g cap m bs n B w h4 h2 h3 hBs (by omega)

/-- The cells of four variables that hold rows, in whatever later world. -/
theorem cells8 {wc wx : World} {p1 p2 p3 p4 : Nat} {x1 y1 x2 y2 x3 y3 x4 y4 : Value} (h1 : Has wc p1 (.cells #[x1, y1] 24)) (h2 : Has wc p2 (.cells #[x2, y2] 24)) (h3 : Has wc p3 (.cells #[x3, y3] 24)) (h4 : Has wc p4 (.cells #[x4, y4] 24)) (hb : Below wc.heap.size wc wx) :
    wx.cell? ⟨p1, 0, none⟩ = some x1 ∧ wx.cell? ⟨p1, 1, none⟩ = some y1 ∧ wx.cell? ⟨p2, 0, none⟩ = some x2 ∧ wx.cell? ⟨p2, 1, none⟩ = some y2 ∧ wx.cell? ⟨p3, 0, none⟩ = some x3 ∧ wx.cell? ⟨p3, 1, none⟩ = some y3 ∧ wx.cell? ⟨p4, 0, none⟩ = some x4 ∧ wx.cell? ⟨p4, 1, none⟩ = some y4 :=
  ⟨(h1.later hb).two.1, (h1.later hb).two.2.1, (h2.later hb).two.1, (h2.later hb).two.2.1, (h3.later hb).two.1, (h3.later hb).two.2.1, (h4.later hb).two.1, (h4.later hb).two.2.1⟩

set_option maxHeartbeats 4000000 in
theorem bitsPuts_walk (s : Value) (bs : List Nat) (N v k : Int) (w : World) (hs : Sl w s bs) (hl : bs.length ≤ 140737488351232) (_ : -9223372036854775808 ≤ N) (hN : N ≤ 9223372036854775807) (_ : -9223372036854775808 ≤ v) (_ : v ≤ 9223372036854775807) (_ : -9223372036854775808 ≤ k) (_ : k ≤ 9223372036854775807) :
    Calls Try.prog 3 #[.agg #[s, .int .i64 N], .int .i64 v, .int .i64 k] w fun e w' => e = .returned (.bool true) ∧ Below w.heap.size w w' := by
  obtain ⟨bs', n', c, hP, hR⟩ := put_pair bs N v k hs.facts.1 hl hN
  obtain ⟨cc, hC, hD⟩ := check_pair bs N hN
  have HP := Lib.hid hP
  have HR := Lib.hid hR
  have HC := Lib.hid hC
  have HD := Lib.hid hD
  have HS := Lib.hid hs
  obtain ⟨a, len, cap, rfl, hlen⟩ := hs.shape
  have HL := Lib.hid hlen
  clear hP hR hC hD hs hlen
  go_enter Try.func3, Try.ntmps3
  go_wp2_with fail
  refine (own_walk a len cap bs N _ (HS.out.later (below1 _ _)) (by have := HL.out; omega)).mono ?_
  rintro e w1 ⟨g, cap1, rfl, hg, ht, b1⟩
  obtain ⟨k1, kb, ks⟩ := facts1 b1
  rw [← HL.out] at ht ⊢
  have XA := Lib.hid (Has.new w1 (.cells #[.slice (some ⟨g, 0, none⟩) len cap1, .int .i64 N] 24))
  have TA := Lib.hid (ht.later (below1 w1 (.cells #[.slice (some ⟨g, 0, none⟩) len cap1, .int .i64 N] 24)))
  have KA := Lib.hid (k1.alloc (.cells #[.slice (some ⟨g, 0, none⟩) len cap1, .int .i64 N] 24))
  have BA := Lib.hid (kb.trans ((below1 w1 (.cells #[.slice (some ⟨g, 0, none⟩) len cap1, .int .i64 N] 24)).mono kb.size))
  clear ht k1 b1 kb
  obtain ⟨wa, hwa⟩ : ∃ wa, wa = w1.alloc (.cells #[.slice (some ⟨g, 0, none⟩) len cap1, .int .i64 N] 24) := ⟨_, rfl⟩
  have hza : w1.heap.size + 1 = wa.heap.size := by rw [hwa]; simp
  rw [← hwa] at XA TA KA BA
  have SA := Lib.hid (HS.out.later BA.out)
  go_wp2_with fail
  rw [← hwa]
  have HZA := Lib.hid hza
  clear hwa hza
  refine (HP.out _ _ TA.out.1).mono ?_
  rintro e w2 ⟨a2, m2, cap2, rfl, s2, f2, b2⟩
  have XB := Lib.hid (Has.new w2 (.cells #[.slice a2 m2 cap2, .int .i64 n'] 24))
  have SB := Lib.hid (s2.later (below1 w2 (.cells #[.slice a2 m2 cap2, .int .i64 n'] 24)))
  have FB := Lib.hid (f2.later (below1 w2 (.cells #[.slice a2 m2 cap2, .int .i64 n'] 24)))
  have BB := Lib.hid (b2.trans ((below1 w2 (.cells #[.slice a2 m2 cap2, .int .i64 n'] 24)).mono b2.size))
  clear s2 f2
  obtain ⟨wb, hwb⟩ : ∃ wb, wb = w2.alloc (.cells #[.slice a2 m2 cap2, .int .i64 n'] 24) := ⟨_, rfl⟩
  rw [← hwb] at XB SB FB BB
  have K2 := KA.out.below b2 KA.out.lt
  obtain ⟨c0, c1, _, _⟩ := K2.two
  have hz2 := K2.lt
  clear K2 b2
  go_wp2_with fail
  rw [← hwb]
  clear hwb c0 c1 hz2
  refine (HR.out _ _ (SA.out.later BB.out)).mono ?_
  rintro e w3 ⟨a3, m3, cap3, rfl, s3, b3⟩
  have X3 := Lib.hid (Has.new w3 (.cells #[.slice a3 m3 cap3, .int .i64 n'] 24))
  have S3 := Lib.hid (s3.later (below1 w3 (.cells #[.slice a3 m3 cap3, .int .i64 n'] 24)))
  have B3 := Lib.hid (b3.trans ((below1 w3 (.cells #[.slice a3 m3 cap3, .int .i64 n'] 24)).mono b3.size))
  obtain ⟨wc, hwc⟩ : ∃ wc, wc = w3.alloc (.cells #[.slice a3 m3 cap3, .int .i64 n'] 24) := ⟨_, rfl⟩
  rw [← hwc] at X3 S3 B3
  clear s3 b3
  have A3 := Lib.hid (BB.out.trans (B3.out.mono BB.out.size))
  have XA3 := Lib.hid (XA.out.later A3.out)
  have KA3 := Lib.hid (KA.out.later A3.out)
  have XB3 := Lib.hid (XB.out.later B3.out)
  have SB3 := Lib.hid (SB.out.later B3.out)
  have FB3 := Lib.hid (FB.out.later B3.out)
  have SA3 := Lib.hid (SA.out.later A3.out)
  have TA3 := Lib.hid (TA.out.later A3.out)
  clear XB SB FB BB B3
  go_upto_region 4 with fail
  rw [← hwc]
  clear hwc
  have B4 : Hid (Below wc.heap.size wc wc.drew) := (Below.refl _ _).drew
  go_cut [12] (fun s12 wx => s12 = .bool true ∧ Below wc.heap.size wc wx)
  case first =>
    go_region_held3 (fun wx => wx.cell? ⟨w2.heap.size, 0, none⟩ = some (.slice a2 m2 cap2) ∧ wx.cell? ⟨w2.heap.size, 1, none⟩ = some (.int .i64 n') ∧ wx.cell? ⟨w3.heap.size, 0, none⟩ = some (.slice a3 m3 cap3) ∧ wx.cell? ⟨w3.heap.size, 1, none⟩ = some (.int .i64 n') ∧ wx.cell? ⟨w1.heap.size, 0, none⟩ = some (.slice (some ⟨g, 0, none⟩) len cap1) ∧ wx.cell? ⟨w1.heap.size, 1, none⟩ = some (.int .i64 N) ∧ wx.cell? ⟨w.heap.size, 0, none⟩ = some (.slice a len cap) ∧ wx.cell? ⟨w.heap.size, 1, none⟩ = some (.int .i64 N))
      (first | exact cells8 XB3.out X3.out XA3.out KA3.out B7.out | exact cells8 XB3.out X3.out XA3.out KA3.out B6.out | exact cells8 XB3.out X3.out XA3.out KA3.out B5.out | exact cells8 XB3.out X3.out XA3.out KA3.out B4.out)
      (first | (go_at_call 14; refine (same_is _ _ n' n' bs' _ (SB3.out.later B4.out) (S3.out.later B4.out) rfl).mono ?_; rintro e w5 ⟨rfl, b5⟩; have B5 := Lib.hid (B4.out.trans (b5.mono B4.out.size)); clear b5) | (go_at_call 15; first | (refine (HC.out _ _ (TA3.out.later B6.out).1).mono ?_; rintro e w7 ⟨rfl, b7⟩; have B7 := Lib.hid (B6.out.trans (b7.mono B6.out.size)); clear b7) | (refine (HC.out _ _ (TA3.out.later B5.out).1).mono ?_; rintro e w6 ⟨rfl, b6⟩; have B6 := Lib.hid (B5.out.trans (b6.mono B5.out.size)); clear b6)) | (go_at_call 16; first | (refine (HD.out _ _ (SA3.out.later B6.out)).mono ?_; rintro e w7 ⟨rfl, b7⟩; have B7 := Lib.hid (B6.out.trans (b7.mono B6.out.size)); clear b7) | (refine (HD.out _ _ (SA3.out.later B5.out)).mono ?_; rintro e w6 ⟨rfl, b6⟩; have B6 := Lib.hid (B5.out.trans (b6.mono B5.out.size)); clear b6)))
    all_goals (go_wp2_with fail; go_meet; exact ⟨rfl, B7.out⟩)
  case rest =>
    obtain ⟨rfl, hbc⟩ := hcut
    have XB4 := XB3.out.later hbc
    have FB4 := Lib.hid (FB3.out.later hbc)
    have SB4 := Lib.hid (SB3.out.later hbc)
    have A4 := Lib.hid (A3.out.trans (hbc.mono A3.out.size))
    obtain ⟨c0, c1, _, _⟩ := XB4.two
    clear XB4 hbc
    go_wp2_with fail
    refine (spoil_any a2 m2 cap2 bs' n' wa.heap.size _ FB4.out SB4.out A4.out.size).mono ?_
    rintro e w8 ⟨rfl, b8⟩
    have A8 := Lib.hid (A4.out.trans b8)
    have XA8 := XA.out.below A8.out XA.out.lt
    have KA8 := KA.out.below A8.out KA.out.lt
    have TA8 := Lib.hid (TA.out.later A8.out)
    have SA8 := Lib.hid (SA.out.later A8.out)
    have B8 := Lib.hid (BA.out.trans (A8.out.mono BA.out.size))
    clear b8 c0 c1
    obtain ⟨c0, c1, _, _⟩ := XA8.two
    obtain ⟨d0, d1, _, _⟩ := KA8.two
    clear XA8 KA8
    go_wp2_with fail
    refine (kept_walk g len cap1 a cap bs N _ TA8.out SA8.out (by have := HL.out; omega)).mono ?_
    rintro e w9 ⟨rfl, b9⟩
    have B9 := Lib.hid (B8.out.trans (b9.mono B8.out.size))
    clear b9 c0 c1 d0 d1
    go_wp2_with fail
    refine (lives_any _).mono ?_
    rintro e w10 ⟨rfl, b10⟩
    have B10 := Lib.hid (B9.out.trans (b10.mono B9.out.size))
    clear b10
    go_wp2
    go_ret
    exact ⟨rfl, B10.out⟩

set_option maxRecDepth 100000 in
theorem bitsPuts_lifted (os : Os) (started : os.Started) (H : Type) (enc : TypeId × Value → H) :
    ReturnsInHanded {} Try.checked os 3 .any (Rows.bitsPutsSpec.pre6 enc Try.prog Try.f3 Rows.bitsPutsRow.domain false) (Rows.bitsPutsSpec.post enc Try.prog Try.f3 false true false false) := by
  refine returnsInHanded_of_change_sized (C := Try.checked) Try.own started (by kernel_rfl) Try.func3
    (ChangeSpec.witness6 (enc := enc) (C := Try.checked) false ⟨#[], #[.agg #[.slice none 0 0, .int .i64 0], .int .i64 0, .int .i64 0], []⟩ 8 (by kernel_rfl) (by kernel_rfl) (by kernel_rfl) (by kernel_rfl)) ?_
  intro W base args ds gs before hval0 hW _ hsz0 _
  have hval : ∀ (j : Nat) t v, Try.f3.params[j]? = some t → args[j]? = some v → Value.okWide Try.prog W .any base t v := hval0
  have hsz : (DataW.weightsEach Try.prog (Try.f3.params.toList ++ Rows.bitsPutsSpec.plain.varTypes Try.prog) (ds ++ gs)).all (· ≤ reachBytes) = true := hsz0
  have hW' := hW
  obtain ⟨p, q, hA0, hV, rfl, hfz, hnd⟩ := hW
  have hA : DataW.TrodAll enc Try.prog W 0 (fun _ => true) true Try.f3.params.toList args.toList ds p := hA0
  rw [Try.params3] at hA hval hsz
  obtain ⟨v0, vs0, d0, ds0, p0, q0, hargs, rfl, rfl, h0, r0⟩ := trodAll_cons hA
  obtain ⟨v1, vs1, d1, ds1, p1, q1, rfl, rfl, rfl, h1, r1⟩ := trodAll_cons r0
  obtain ⟨v2, vs2, d2, ds2, p2, q2, rfl, rfl, rfl, h2, r2⟩ := trodAll_cons r1
  obtain ⟨rfl, rfl, rfl⟩ := trodAll_nil r2
  obtain rfl : args = #[v0, v1, v2] := by cases args; simp_all
  obtain ⟨rfl, rfl⟩ := trodVars_none hV
  have k0 := h0
  have lt0 : ∀ x ∈ p0, x.block < W.heap.size := by obtain ⟨m, hm⟩ := k0; exact DataW.trod_lt m _ _ _ hm
  have w0 : ∀ n ∈ d0.weights Try.prog 24, n ≤ reachBytes := fun n hn => by simpa using List.all_eq_true.1 hsz n (DataW.weights_mem_each (j := 0) rfl rfl n hn)
  obtain ⟨s0, bs0, n0, rfl, sl0, ln0, lo0, hi0⟩ := bits_open (hval 0 24 v0 rfl rfl) h0 w0
  have k1 := h1
  have lt1 : ∀ x ∈ p1, x.block < W.heap.size := by obtain ⟨m, hm⟩ := k1; exact DataW.trod_lt m _ _ _ hm
  obtain ⟨n1, ev1, _, _, wn1⟩ := open_int Try.underlying3 (hval 1 3 v1 rfl rfl) h1
  subst ev1
  obtain ⟨lo1, hi1⟩ := wf_bounds wn1
  have k2 := h2
  have lt2 : ∀ x ∈ p2, x.block < W.heap.size := by obtain ⟨m, hm⟩ := k2; exact DataW.trod_lt m _ _ _ hm
  obtain ⟨n2, ev2, _, _, wn2⟩ := open_int Try.underlying3 (hval 2 3 v2 rfl rfl) h2
  subst ev2
  obtain ⟨lo2, hi2⟩ := wf_bounds wn2
  clear hA0 hval0 hsz0
  refine (bitsPuts_walk s0 bs0 n0 n1 n2 W sl0 ln0 lo0 hi0 lo1 hi1 lo2 hi2).mono fun e W' ⟨he, bel⟩ => ?_
  subst he
  exact ⟨_, rfl, _, _, _, [], _, [], hW', trodAll_mk1 (shut_bool Try.underlying4 _), (trodAll_cons_mk (Below.trod Try.laidOut (by kernel_rfl) (of_decide_eq_true (by kernel_rfl)) k0 bel lt0) (trodAll_cons_mk (Below.trod Try.laidOut (by kernel_rfl) (of_decide_eq_true (by kernel_rfl)) k1 bel lt1) (trodAll_cons_mk (Below.trod Try.laidOut (by kernel_rfl) (of_decide_eq_true (by kernel_rfl)) k2 bel lt2) trodAll_mk0))), rfl, bel.frame _, fun h => by cases h⟩

theorem bitsPuts_proved : Rows.BitsPutsSaid :=
  OpenClaim.holds_of_wide 3 Try.f3 rfl rfl rfl rfl rfl rfl rfl ⟨rfl, rfl, rfl, rfl, rfl⟩ rfl rfl rfl rfl rfl (by kernel_rfl) Try.func3 (by kernel_rfl)
    (of_decide_eq_true (by kernel_rfl)) (by unfold Func.isWrapper; rw [if_neg (of_decide_eq_false (by kernel_rfl))]; exact ⟨rfl, rfl⟩)
    (fun os started H enc _ => bitsPuts_lifted os started H enc)
end Go.Proofs.Ytcehdngdkfoioaa
