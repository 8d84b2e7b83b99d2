/- The statement BitsRows: a row is its bits, put one by one; Of a row's bytes is the row up to a whole byte. It holds for every row, without a condition. -/
import Derived.Test.YtcehdngdkfoioaaJoin
import Derived.Test.YtcehdngdkfoioaaArg
namespace Go.Proofs.Ytcehdngdkfoioaa
open Go.ChangeShapes Go.WideShapes Go.ChangeAt Go.RowKit

theorem take_bit (l : List Bool) (i : Nat) (h : i < l.length) : Bs.num ((l.drop i).take 1) = (l[i]?.getD false).toNat := by
  have e : (l.drop i).take 1 = [l[i]] := by
    rw [List.drop_eq_getElem_cons h]
    rfl
  rw [e, List.getElem?_eq_getElem h]
  simp [Bs.num]

theorem take_put (l : List Bool) (i : Nat) (h : i < l.length) : l.take (i + 1) = l.take i ++ Bs.bitsOf (l[i]?.getD false).toNat 1 := by
  rw [List.take_succ_eq_append_getElem h, List.getElem?_eq_getElem h]
  congr 1
  cases l[i] <;> simp [Bs.bitsOf]

theorem put_one (s : Value) (l l' : List Bool) (q : Int) (b : Bool) (N : Nat) (M : Int) (w : World) (hs : Sl w s (Bs.pack l)) (hq : Hid (q = (b.toNat : Int))) (hl : Hid (N = l.length)) (hN : N ≤ 1125899906842624) (hl' : Hid (l' = l ++ Bs.bitsOf b.toNat 1)) (hM : Hid (M = (N : Int) + 1)) :
    Calls Try.prog 12 #[.agg #[s, .int .i64 (N : Int)], .int .i64 q, .int .i64 1] w fun e w' =>
      ∃ g m : Nat, e = .returned (.tuple #[.agg #[.slice (some ⟨g, 0, none⟩) m m, .int .i64 M], .int .i64 0]) ∧ w.heap.size ≤ g ∧ Has w' g (bytesObj (Bs.pack l')) ∧ Sl w' (.slice (some ⟨g, 0, none⟩) m m) (Bs.pack l') ∧ Below w.heap.size w w' := by
  rw [hq.out, hM.out, hl'.out]
  have hb : b.toNat < 2 := Bool.toNat_lt b
  refine (put_ok s l b.toNat 1 w hs (by show _ ≤ _; rw [← hl.out]; exact hN) (by omega) (by show _ < _; omega) N hl).mono ?_
  rintro e w' ⟨g, m, rfl, hm, hg, hh, hbb⟩
  have e1 : (l ++ Bs.bitsOf b.toNat 1).length = N + 1 := by rw [List.length_append, Bs.bitsOf_length, hl.out]
  rw [e1] at hm
  refine ⟨g, m, ?_, hg, hh, Sl.has hh (Bs.pack_lt _) (by rw [Bs.pack_length, e1]; omega) m m (by rw [Bs.pack_length, e1]; exact hm), hbb⟩
  rw [e1]
  rfl

theorem hidRefl {α : Type} (x : α) : Hid (x = x) := rfl

/-- The cells of three variables that hold rows, in whatever later world. -/
theorem cells6 {wc wx : World} {p1 p2 p3 : Nat} {x1 y1 x2 y2 x3 y3 : Value} (h1 : Has wc p1 (.cells #[x1, y1] 24)) (h2 : Has wc p2 (.cells #[x2, y2] 24)) (h3 : Has wc p3 (.cells #[x3, y3] 24)) (hb : Below wc.heap.size wc wx) :
    wx.cell? ⟨p1, 0, none⟩ = some x1 ∧ wx.cell? ⟨p1, 1, none⟩ = some y1 ∧ wx.cell? ⟨p2, 0, none⟩ = some x2 ∧ wx.cell? ⟨p2, 1, none⟩ = some y2 ∧ wx.cell? ⟨p3, 0, none⟩ = some x3 ∧ wx.cell? ⟨p3, 1, none⟩ = some y3 :=
  ⟨(h1.later hb).two.1, (h1.later hb).two.2.1, (h2.later hb).two.1, (h2.later hb).two.2.1, (h3.later hb).two.1, (h3.later hb).two.2.1⟩

set_option maxHeartbeats 4000000 in
theorem rows_bad (s : Value) (bs : List Nat) (N : Int) (w : World) (hs : Sl w s bs) (hN : N ≤ 9223372036854775807) (hr : ¬ (0 ≤ N ∧ Bs.right bs N.toNat)) :
    Calls Try.prog 9 #[.agg #[s, .int .i64 N]] w fun e w' => e = .returned (.bool true) ∧ Below w.heap.size w w' := by
  have HS := Lib.hid hs
  have HR := Lib.hid hr
  obtain ⟨a, len, cap, rfl, hlen⟩ := hs.shape
  clear hs hlen hr
  go_enter Try.func9, Try.ntmps9
  go_wp2_with fail
  refine (check_bad _ bs N _ (HS.out.later (below1 _ _)) hN HR.out).mono ?_
  rintro e w1 ⟨rfl, b1⟩
  obtain ⟨k1, kb, ks⟩ := facts1 b1
  have KB := Lib.hid kb
  clear b1 k1 kb
  go_wp2_with fail
  refine (lives_any _).mono ?_
  rintro e w2 ⟨rfl, b2⟩
  have B2 := Lib.hid (KB.out.trans (b2.mono KB.out.size))
  clear b2
  go_wp2
  go_ret
  exact ⟨rfl, B2.out⟩

set_option maxHeartbeats 8000000 in
theorem rows_ok (s : Value) (l : List Bool) (N : Nat) (w : World) (hs : Sl w s (Bs.pack l)) (hl : Hid (N = l.length)) (hN : N ≤ 1125899906809856) :
    Calls Try.prog 9 #[.agg #[s, .int .i64 (N : Int)]] w fun e w' => e = .returned (.bool true) ∧ Below w.heap.size w w' := by
  have HS := Lib.hid hs
  obtain ⟨a, len, cap, rfl, hlen⟩ := hs.shape
  rw [Bs.pack_length, ← hl.out] at hlen
  have HL := Lib.hid hlen
  clear hs hlen
  go_enter Try.func9, Try.ntmps9
  go_wp2_with fail
  refine (check_ok _ (Bs.pack l) N _ (HS.out.later (below1 _ _)) (by omega) (by rw [hl.out]; exact Bs.pack_right l)).mono ?_
  rintro e w1 ⟨rfl, b1⟩
  obtain ⟨k1, kb, ks⟩ := facts1 b1
  have XA := Lib.hid (Has.new w1 (.cells #[.slice none 0 0, .int .i64 0] 24))
  have KA := Lib.hid (k1.alloc (.cells #[.slice none 0 0, .int .i64 0] 24))
  have BA := Lib.hid (kb.trans ((below1 w1 (.cells #[.slice none 0 0, .int .i64 0] 24)).mono kb.size))
  clear b1 k1 kb
  obtain ⟨wa, hwa⟩ : ∃ wa, wa = w1.alloc (.cells #[.slice none 0 0, .int .i64 0] 24) := ⟨_, rfl⟩
  have hza : wa.heap.size = w1.heap.size + 1 := by rw [hwa]; simp
  rw [← hwa] at XA KA BA
  have SA := Lib.hid (HS.out.later BA.out)
  go_wp2_with fail
  rw [← hwa]
  have HZA := Lib.hid hza
  clear hwa hza
  have hw1 : w.heap.size < w1.heap.size := by omega
  have B0 : Hid (Below w1.heap.size wa wa) := Below.refl _ _
  have XA0 : Hid (Has wa w1.heap.size (rowVar none 0 0 ((0 : Nat) : Int))) := XA.out
  have SX0 : Hid (Sl wa (.slice none 0 0) (Bs.pack (l.take 0))) := by
    have e : Bs.pack (l.take 0) = [] := by simp [Bs.pack, Bs.packTo]
    rw [e]
    exact Sl.nil _
  go_loopw [4] (fun s4 wr => ∃ (i : Nat) (ax : Option Addr) (mx cx : Nat), i ≤ N ∧ s4 = .int .i64 i ∧ Hid (Has wr w1.heap.size (rowVar ax mx cx (i : Int))) ∧ Hid (Sl wr (.slice ax mx cx) (Bs.pack (l.take i))) ∧ Hid (Below w1.heap.size wa wr)) (fun s _ => N - (intOf s).toNat)
  case atStart => exact ⟨0, none, 0, 0, Nat.zero_le _, rfl, XA0, SX0, B0⟩
  case round =>
    obtain ⟨i, ax, mx, cx, hi, rfl, HX, SX, BX⟩ := hrel
    have KX := KA.out.below BX.out hw1
    obtain ⟨c0, c1, _, _⟩ := KX.two
    obtain ⟨d0, d1, g0, g1⟩ := HX.out.two
    have KX' := Lib.hid KX
    clear KX
    have SB : Hid (Sl wr (.slice a len cap) (Bs.pack l)) := HS.out.later ((BA.out).trans (BX.out.mono (by omega)))
    by_cases hlt : i < N
    · obtain ⟨b, hb⟩ : ∃ b, b = l[i]?.getD false := ⟨_, rfl⟩
      have HB := Lib.hid hb
      have hlt' : i < l.length := by rw [← hl.out]; exact hlt
      have HV : Hid ((b.toNat : Int) = ((Bs.num ((l.drop i).take 1) : Nat) : Int)) := by show _ = _; rw [take_bit l i hlt', hb]
      have HP : Hid (l.take (i + 1) = l.take i ++ Bs.bitsOf b.toNat 1) := by show _ = _; rw [take_put l i hlt', hb]
      have HTL : Hid (i = (l.take i).length) := by show _ = _; rw [List.length_take]; omega
      have hb2 : b.toNat < 2 := Bool.toNat_lt b
      clear hb hlt'
      go_wp2_with fail
      refine (get_is _ l N i 1 (b.toNat : Int) _ SB.out hl (by omega) (by omega) (by omega) HV).mono ?_
      rintro e w5 ⟨rfl, b5⟩
      have BX5 := Lib.hid (BX.out.trans (b5.mono (by have := HX.out.lt; omega)))
      have KX5 := Lib.hid (KX'.out.later b5)
      have HX5 := Lib.hid (HX.out.later b5)
      have SX5 := Lib.hid (SX.out.later b5)
      clear b5 c0 c1 d0 d1 g0 g1
      obtain ⟨d0, d1, _, _⟩ := HX5.out.two
      go_wp2_with fail
      refine (put_one _ (l.take i) (l.take (i + 1)) _ b i ((i : Int) + 1) _ SX5.out rfl HTL (by omega) HP rfl).mono ?_
      rintro e w6 ⟨g6, m6, rfl, hg6, hh6, s6, b6⟩
      have hx6 : Has w6 w1.heap.size _ := HX5.out.later b6
      have hzx := hx6.lt
      have hgx : w1.heap.size < g6 := by have := HX5.out.lt; omega
      have HX6 := Lib.hid hx6
      obtain ⟨d0', d1', g0', g1'⟩ := hx6.two
      have HH6 := Lib.hid hh6
      have BX6 := Lib.hid (BX5.out.trans (b6.mono (by have := HX5.out.lt; omega)))
      have hne : ¬ w6.heap.size = w1.heap.size := by omega
      have hne2 : ¬ w1.heap.size = w6.heap.size := by omega
      have HM6 := Lib.hid s6.len.1
      clear b6 hh6 s6 hx6 d0 d1
      go_wp2
      refine ⟨⟨i + 1, some ⟨g6, 0, none⟩, m6, m6, by omega, by go_num, ?_, ?_, ?_⟩, ?_⟩
      · have h := ((HX6.out.setSelf (i := 0) (.slice (some ⟨g6, 0, none⟩) m6 m6)).setSelf (i := 1) (.int .i64 ((i : Int) + 1))).alloc (.cells #[.slice (some ⟨g6, 0, none⟩) m6 m6, .int .i64 ((i : Int) + 1)] 24)
        have e : ((i + 1 : Nat) : Int) = (i : Int) + 1 := by omega
        rw [e]
        show Has _ _ _
        simpa using h
      · have h := ((HH6.out.set (a := ⟨w1.heap.size, 0, none⟩) (by show g6 ≠ w1.heap.size; omega) (.slice (some ⟨g6, 0, none⟩) m6 m6)).set (a := ⟨w1.heap.size, 1, none⟩) (by show g6 ≠ w1.heap.size; omega) (.int .i64 ((i : Int) + 1))).alloc (.cells #[.slice (some ⟨g6, 0, none⟩) m6 m6, .int .i64 ((i : Int) + 1)] 24)
        have hlen : (Bs.pack (l.take (i + 1))).length ≤ 281474976710656 := by rw [Bs.pack_length, List.length_take]; omega
        exact Sl.has h (Bs.pack_lt _) hlen m6 m6 HM6.out
      · exact (set2_below BX6.out _ (Nat.le_refl _) _ _).alloc (by show w1.heap.size ≤ Array.size _; simp; omega) _
      · simp [intOf]; omega
    · obtain rfl : i = N := by omega
      have KXX := KX'.out
      obtain ⟨c0, c1, _, _⟩ := KXX.two
      go_wp2_with fail
      refine (align_ok _ l i _ SB.out hl (by omega)).mono ?_
      obtain ⟨L, hL⟩ : ∃ L, L = more l (fun _ => false) (8 * ((i + 7) / 8) - i) := ⟨_, rfl⟩
      rw [← hL]
      have HLL := Lib.hid hL
      clear hL
      rintro e w5 ⟨g5, m5, rfl, hm5, hg5, hh5, b5⟩
      have hx5 := HX.out.later b5
      have hk5 := KX'.out.later b5
      have HK5 := Lib.hid (hk5.alloc (.cells #[.slice (some ⟨g5, 0, none⟩) m5 m5, .int .i64 (L.length : Int)] 24))
      have HX5 := Lib.hid (hx5.alloc (.cells #[.slice (some ⟨g5, 0, none⟩) m5 m5, .int .i64 (L.length : Int)] 24))
      have HA5 := Lib.hid (Has.new w5 (.cells #[.slice (some ⟨g5, 0, none⟩) m5 m5, .int .i64 (L.length : Int)] 24))
      have hLlen : L.length ≤ 1125899906842640 := by rw [HLL.out, more_length, ← hl.out]; omega
      have SA5 := Lib.hid (Sl.later (Sl.has hh5 (Bs.pack_lt _) (by rw [Bs.pack_length]; omega) m5 m5 (by rw [Bs.pack_length]; exact hm5)) (below1 w5 (.cells #[.slice (some ⟨g5, 0, none⟩) m5 m5, .int .i64 (L.length : Int)] 24)))
      have SX5 := Lib.hid ((SX.out.later b5).later (below1 w5 (.cells #[.slice (some ⟨g5, 0, none⟩) m5 m5, .int .i64 (L.length : Int)] 24)))
      have SB5 := Lib.hid ((SB.out.later b5).later (below1 w5 (.cells #[.slice (some ⟨g5, 0, none⟩) m5 m5, .int .i64 (L.length : Int)] 24)))
      have BA5 := Lib.hid (BA.out.trans ((BX.out.trans (b5.mono (by have := HX.out.lt; omega))).mono (by omega) |>.trans ((below1 w5 (.cells #[.slice (some ⟨g5, 0, none⟩) m5 m5, .int .i64 (L.length : Int)] 24)).mono (by have := hk5.lt; omega))))
      clear hx5 hk5 hh5 hm5 b5 c0 c1 KXX
      obtain ⟨wc, hwc⟩ : ∃ wc, wc = w5.alloc (.cells #[.slice (some ⟨g5, 0, none⟩) m5 m5, .int .i64 (L.length : Int)] 24) := ⟨_, rfl⟩
      rw [← hwc] at HK5 HX5 HA5 SA5 SX5 SB5 BA5
      go_upto_region 13 with fail
      rw [← hwc]
      clear hwc
      have B4 : Hid (Below wc.heap.size wc wc.drew) := (Below.refl _ _).drew
      have EP : Hid (Bs.pack L = Bs.pack l) := by
        show _ = _
        rw [HLL.out, more_false]
        exact Bs.pack_pad l _ (by rw [← hl.out]; omega)
      have ET : Hid (l.take i = l) := by show _ = _; rw [hl.out]; exact List.take_length
      have HL8 : Hid (8 * len = L.length) := by show _ = _; rw [HLL.out, more_length, ← hl.out, HL.out]; omega
      have hlen8 : len ≤ 140737488351232 := by have := HL.out; omega
      have SX6 : Hid (Sl wc (.slice ax mx cx) (Bs.pack l)) := by have h := SX5.out; rw [ET.out] at h; exact h
      have SB6 : Hid (Sl wc (.slice a len cap) (Bs.pack L)) := by show Sl _ _ _; rw [EP.out]; exact SB5.out
      clear c0 c1 d0 d1 g0 g1
      go_region_held3 (fun wx => wx.cell? ⟨w1.heap.size, 0, none⟩ = some (.slice ax mx cx) ∧ wx.cell? ⟨w1.heap.size, 1, none⟩ = some (.int .i64 (i : Int)) ∧ wx.cell? ⟨w.heap.size, 0, none⟩ = some (.slice a len cap) ∧ wx.cell? ⟨w.heap.size, 1, none⟩ = some (.int .i64 (i : Int)) ∧ wx.cell? ⟨w5.heap.size, 0, none⟩ = some (.slice (some ⟨g5, 0, none⟩) m5 m5) ∧ wx.cell? ⟨w5.heap.size, 1, none⟩ = some (.int .i64 (L.length : Int)))
        (first | exact cells6 HX5.out HK5.out HA5.out B9.out | exact cells6 HX5.out HK5.out HA5.out B8.out | exact cells6 HX5.out HK5.out HA5.out B7.out | exact cells6 HX5.out HK5.out HA5.out B6.out | exact cells6 HX5.out HK5.out HA5.out B4.out)
        (first | (go_at_call 14; first | (with_reducible refine (same_is (.slice (some ⟨g5, 0, none⟩) m5 m5) _ (L.length : Int) (L.length : Int) (Bs.pack L) _ (SA5.out.later B7.out) S7.out (hidRefl _)).mono ?_; rintro e w8 ⟨rfl, b8⟩; have B8 := Lib.hid (B7.out.trans (b8.mono B7.out.size)); clear b8) | (with_reducible refine (same_is (.slice ax mx cx) (.slice a len cap) (i : Int) (i : Int) (Bs.pack l) _ (SX6.out.later B4.out) (SB5.out.later B4.out) (hidRefl _)).mono ?_; rintro e w6 ⟨rfl, b6⟩; have B6 := Lib.hid (B4.out.trans (b6.mono B4.out.size)); clear b6)) | (go_at_call 28; refine (of_any a len cap L _ (SB6.out.later B6.out) HL8 (by omega)).mono ?_; rintro e w7 ⟨g7, m7, rfl, hm7, hg7, hh7, b7⟩; have B7 := Lib.hid (B6.out.trans (b7.mono B6.out.size)); have S7 := Lib.hid (Sl.has hh7 (Bs.pack_lt _) (by rw [Bs.pack_length]; omega) m7 m7 (by rw [Bs.pack_length]; exact hm7)); clear b7 hm7 hg7 hh7) | (go_at_call 19; refine (lives_any _).mono ?_; rintro e w9 ⟨rfl, b9⟩; have B9 := Lib.hid (B8.out.trans (b9.mono B8.out.size)); clear b9))
      all_goals
        go_wp2
        go_ret
        exact ⟨rfl, BA5.out.trans (B9.out.mono BA5.out.size)⟩

theorem bitsRows_walk (s : Value) (bs : List Nat) (N : Int) (w : World) (hs : Sl w s bs) (hl : bs.length ≤ 140737488351232) (_ : -9223372036854775808 ≤ N) (hN : N ≤ 9223372036854775807) :
    Calls Try.prog 9 #[.agg #[s, .int .i64 N]] w fun e w' => e = .returned (.bool true) ∧ Below w.heap.size w w' := by
  by_cases hr : 0 ≤ N ∧ Bs.right bs N.toNat
  · have hroom := right_room hr
    obtain ⟨l, rfl, rfl⟩ := right_bits hr hs.facts.1
    exact rows_ok s l l.length w hs rfl (by omega)
  · exact rows_bad s bs N w hs hN hr

set_option maxRecDepth 100000 in
theorem bitsRows_lifted (os : Os) (started : os.Started) (H : Type) (enc : TypeId × Value → H) :
    ReturnsInHanded {} Try.checked os 9 .any (Rows.bitsRowsSpec.pre6 enc Try.prog Try.f9 Rows.bitsRowsRow.domain false) (Rows.bitsRowsSpec.post enc Try.prog Try.f9 false true false false) := by
  refine returnsInHanded_of_change_sized (C := Try.checked) Try.own started (by kernel_rfl) Try.func9
    (ChangeSpec.witness6 (enc := enc) (C := Try.checked) false ⟨#[], #[.agg #[.slice none 0 0, .int .i64 0]], []⟩ 8 (by kernel_rfl) (by kernel_rfl) (by kernel_rfl) (by kernel_rfl)) ?_
  intro W base args ds gs before hval0 hW _ hsz0 _
  have hval : ∀ (j : Nat) t v, Try.f9.params[j]? = some t → args[j]? = some v → Value.okWide Try.prog W .any base t v := hval0
  have hsz : (DataW.weightsEach Try.prog (Try.f9.params.toList ++ Rows.bitsRowsSpec.plain.varTypes Try.prog) (ds ++ gs)).all (· ≤ reachBytes) = true := hsz0
  have hW' := hW
  obtain ⟨p, q, hA0, hV, rfl, hfz, hnd⟩ := hW
  have hA : DataW.TrodAll enc Try.prog W 0 (fun _ => true) true Try.f9.params.toList args.toList ds p := hA0
  rw [Try.params9] at hA hval hsz
  obtain ⟨v0, vs0, d0, ds0, p0, q0, hargs, rfl, rfl, h0, r0⟩ := trodAll_cons hA
  obtain ⟨rfl, rfl, rfl⟩ := trodAll_nil r0
  obtain rfl : args = #[v0] := by cases args; simp_all
  obtain ⟨rfl, rfl⟩ := trodVars_none hV
  have k0 := h0
  have lt0 : ∀ x ∈ p0, x.block < W.heap.size := by obtain ⟨m, hm⟩ := k0; exact DataW.trod_lt m _ _ _ hm
  have w0 : ∀ n ∈ d0.weights Try.prog 24, n ≤ reachBytes := fun n hn => by simpa using List.all_eq_true.1 hsz n (DataW.weights_mem_each (j := 0) rfl rfl n hn)
  obtain ⟨s0, bs0, n0, rfl, sl0, ln0, lo0, hi0⟩ := bits_open (hval 0 24 v0 rfl rfl) h0 w0
  clear hA0 hval0 hsz0
  refine (bitsRows_walk s0 bs0 n0 W sl0 ln0 lo0 hi0).mono fun e W' ⟨he, bel⟩ => ?_
  subst he
  exact ⟨_, rfl, _, _, _, [], _, [], hW', trodAll_mk1 (shut_bool Try.underlying4 _), (trodAll_cons_mk (Below.trod Try.laidOut (by kernel_rfl) (of_decide_eq_true (by kernel_rfl)) k0 bel lt0) trodAll_mk0), rfl, bel.frame _, fun h => by cases h⟩

theorem bitsRows_proved : Rows.BitsRowsSaid :=
  OpenClaim.holds_of_wide 9 Try.f9 rfl rfl rfl rfl rfl rfl rfl ⟨rfl, rfl, rfl, rfl, rfl⟩ rfl rfl rfl rfl rfl (by kernel_rfl) Try.func9 (by kernel_rfl)
    (of_decide_eq_true (by kernel_rfl)) (by unfold Func.isWrapper; rw [if_neg (of_decide_eq_false (by kernel_rfl))]; exact ⟨rfl, rfl⟩)
    (fun os started H enc _ => bitsRows_lifted os started H enc)
end Go.Proofs.Ytcehdngdkfoioaa
