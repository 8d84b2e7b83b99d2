/- The statement FieldBack up to its bulk: what was put is got, whatever stands ahead and behind. It holds for all bytes ahead and behind, together at most 1048576 values, and every integer. -/
import Derived.Test.YtmakdenhmdjgjaaFpairs
import Derived.Test.YtmakdenhmdjgjaaCbulk
namespace Go.Proofs.Ytmakdenhmdjgjaa
open Go.ChangeShapes Go.WideShapes Go.ChangeAt Go.RowKit

theorem drop_take_mid (bs q ms : List Nat) (k : Nat) (hq : q.length = k) : ((bs ++ q ++ ms).drop bs.length).take k = q := by
  rw [List.append_assoc, List.drop_left, ← hq, List.take_left]

theorem num2 (n : Nat) (h : n < 65536) : n / 1 % 256 + 256 * (n / 256 % 256) = n := by omega
theorem num4 (n : Nat) (h : n < 4294967296) : n / 1 % 256 + 256 * (n / 256 % 256) + 65536 * (n / 65536 % 256) + 16777216 * (n / 16777216 % 256) = n := by omega

/-- Bytes behind an own copy of bytes. -/
theorem copied {w2 : World} {base g2 c2 n m : Nat} {bs ms : List Nat} (h : w2.ownsRow base 5 1 (.slice (some ⟨g2, 0, none⟩) (n + m) c2) (n + m) (vb bs ++ vb ms)) (h8 : ∀ x ∈ bs, x < 256) (h9 : ∀ x ∈ ms, x < 256) (hl : n + m ≤ 281474976710656) : Sl w2 (.slice (some ⟨g2, 0, none⟩) (n + m) c2) (bs ++ ms) ∧ n + m ≤ c2 := by
  rw [← vb_append] at h
  refine ⟨Sl.owned h (fun x hx => (List.mem_append.1 hx).elim (h8 x) (h9 x)) hl, ?_⟩
  rcases h.2 with ⟨h, _⟩ | ⟨g, c, cur, h, _, _, hc, _⟩
  · cases h
  · injection h with _ _ e
    omega

theorem get2_back (bs ms : List Nat) (n len : Nat) (hn : n < 65536) (hl : len = bs.length) (a : Option Addr) (m cap : Nat) (hc : m ≤ cap) (w : World) (hs : Sl w (.slice a m cap) (bs ++ [n / 1 % 256, n / 256 % 256] ++ ms)) :
    TellsNum 16 #[.slice a m cap, .int .i64 (len : Int)] (n : Int) 0 w := by
  have h1 := hs.len.1
  have h2 := drop_take_mid bs [n / 1 % 256, n / 256 % 256] ms 2 rfl
  rw [← hl] at h2
  have := get2_ok a m cap _ len _ _ (by rw [h1]; simp; omega) hc h2 w hs
  rw [num2 n hn] at this
  exact this

theorem get4_back (bs ms : List Nat) (n len : Nat) (hn : n < 4294967296) (hl : len = bs.length) (a : Option Addr) (m cap : Nat) (hc : m ≤ cap) (w : World) (hs : Sl w (.slice a m cap) (bs ++ [n / 1 % 256, n / 256 % 256, n / 65536 % 256, n / 16777216 % 256] ++ ms)) :
    TellsNum 18 #[.slice a m cap, .int .i64 (len : Int)] (n : Int) 0 w := by
  have h1 := hs.len.1
  have h2 := drop_take_mid bs [n / 1 % 256, n / 256 % 256, n / 65536 % 256, n / 16777216 % 256] ms 4 rfl
  rw [← hl] at h2
  have := get4_ok a m cap _ len _ _ _ _ (by rw [h1]; simp; omega) hc h2 w hs
  rw [num4 n hn] at this
  exact this

set_option maxHeartbeats 8000000 in
theorem fieldBack_walk (s : Value) (bs : List Nat) (i : Int) (t : Value) (ms : List Nat) (w : World) (hs : Sl w s bs) (hl : bs.length ≤ 1048576) (hcp : Capped s) (_ : -9223372036854775808 ≤ i) (_ : i ≤ 9223372036854775807) (ht : Sl w t ms) (hm : ms.length ≤ 1048576) :
    Calls Try.prog 6 #[s, .int .i64 i, t] w fun e w' => e = .returned (.bool true) ∧ Below w.heap.size w w' := by
  obtain ⟨a, len, cap, rfl, hlen⟩ := hs.shape
  obtain ⟨b, lm, capm, rfl, hlm⟩ := ht.shape
  have hc : len ≤ cap := hcp _ _ _ rfl
  have HS := Lib.hid hs
  have HT := Lib.hid ht
  have HL := Lib.hid hlen
  have HM := Lib.hid hlm
  have g1 : len ≤ 1048576 := by omega
  have g2 : lm ≤ 1048576 := by omega
  clear hs ht hlen hlm hl hm hcp
  by_cases h0 : i < 0 ∨ 4294967295 < i
  · rcases h0 with h0 | h0
    · have h1 : i < 0 ∨ 4294967295 < i := Or.inl h0
      have H1 := Lib.hid h1
      clear h1
      go_enter Try.func6, Try.ntmps6
      go_wp2_with fail
      refine (put4_bad a len cap i H1.out _).mono ?_
      rintro e w1 ⟨rfl, b1⟩
      have B1 := Lib.hid b1
      clear b1
      go_wp2_with fail
      refine (put2_bad a len cap i (by omega) _).mono ?_
      rintro e w2 ⟨rfl, b2⟩
      have B2 := Lib.hid (B1.out.trans (b2.mono B1.out.size))
      clear b2 B1
      go_wp2_with fail
      refine (lives_any _).mono ?_
      rintro e w9 ⟨rfl, hb⟩
      have B9 := Lib.hid (B2.out.trans (hb.mono B2.out.size))
      clear hb
      go_wp2_with fail
      go_ret
      exact ⟨rfl, B9.out⟩
    · have h1 : i < 0 ∨ 4294967295 < i := Or.inr h0
      have H1 := Lib.hid h1
      have i0 : 0 ≤ i := by omega
      have i2 : decide (i ≤ 4294967295) = false := decide_eq_false (by omega)
      have i3 : decide (i ≤ 65535) = false := decide_eq_false (by omega)
      clear h1
      go_enter Try.func6, Try.ntmps6
      go_wp2_with fail
      refine (put4_bad a len cap i H1.out _).mono ?_
      rintro e w1 ⟨rfl, b1⟩
      have B1 := Lib.hid b1
      clear b1
      go_wp2_with fail
      refine (put2_bad a len cap i (by omega) _).mono ?_
      rintro e w2 ⟨rfl, b2⟩
      have B2 := Lib.hid (B1.out.trans (b2.mono B1.out.size))
      clear b2 B1
      go_wp2_with fail
      refine (lives_any _).mono ?_
      rintro e w9 ⟨rfl, hb⟩
      have B9 := Lib.hid (B2.out.trans (hb.mono B2.out.size))
      clear hb
      go_wp2_with fail
      go_ret
      exact ⟨rfl, B9.out⟩
  obtain ⟨n, rfl⟩ : ∃ n : Nat, i = (n : Int) := ⟨i.toNat, by omega⟩
  by_cases h2 : n ≤ 65535
  · have i0 : (0 : Int) ≤ (n : Int) := by omega
    have i1 : (n : Int) ≤ 4294967295 := by omega
    have i2 : (n : Int) ≤ 65535 := by omega
    have hn4 : n < 4294967296 := by omega
    have wl4 : IntKind.i64.wrap ((len : Int) + 4) = (len : Int) + 4 := IntWalk.i64_in _ (by omega)
    have wl2 : IntKind.i64.wrap ((len : Int) + 2) = (len : Int) + 2 := IntWalk.i64_in _ (by omega)
    go_enter Try.func6, Try.ntmps6
    go_wp2_with fail
    refine (put4_ok a len cap bs n hn4 hc (by omega) _ HS.out).mono ?_
    rintro e w1 ⟨a1, q1, rfl, m1, b1⟩
    have M1 := Lib.hid m1
    have B1 := Lib.hid b1
    clear m1 b1
    go_wp2_with fail
    refine (put2_ok a len cap bs n (by omega) hc (by omega) _ (HS.out.later B1.out)).mono ?_
    rintro e w2 ⟨a2, q2, rfl, m2, b2⟩
    have M2 := Lib.hid m2
    clear m2
    have N1 := Lib.hid (M1.out.later b2)
    have B2 := Lib.hid (B1.out.trans (b2.mono B1.out.size))
    clear b2 B1 M1
    have A1 : Hid ((w2.alloc (.cells #[] 5)).ownsRow w2.heap.size 5 1 (.slice (some ⟨w2.heap.size, 0, none⟩) 0 0) 0 []) :=
      World.ownsRow_lit (base := w2.heap.size) (e := 5) (size := 1) w2 #[] 0 (by simp) (by unfold maxLen; omega) rfl
    have C1 : Hid (Below w2.heap.size w2 (w2.alloc (.cells #[] 5))) := below1 w2 _
    have X1 := Lib.hid ((N1.out.sl (by omega)).later C1.out)
    have Y1 := Lib.hid ((HT.out.later B2.out).later C1.out)
    have Z1 := Lib.hid (X1.out.bytes)
    go_wp2_with (at_builtin; first | (refine wpList_append_sl rfl (.tmp 30) (.tmp 31) rfl w2.heap.size w2.heap.size 0 0 [] rfl A1.out a1 (len + 4) q1 (bs ++ [n / 1 % 256, n / 256 % 256, n / 65536 % 256, n / 16777216 % 256]) rfl X1.out (by omega) (by simp) ?_; intro g3 c3 w3 ho3 hg3; have hO3 := Lib.hid (own_app_zero ho3.out); have hB3 := Lib.hid (below_grown C1.out hg3.out (Nat.le_refl _) C1.out.size); have hY3 := Lib.hid ((HT.out.later B2.out).later hB3.out); have hgz := own_base hO3.out; clear ho3 hg3) | (refine wpList_append_sl rfl (.tmp 32) (.tmp 33) rfl w2.heap.size g3 c3 (len + 4) (vb (bs ++ [n / 1 % 256, n / 256 % 256, n / 65536 % 256, n / 16777216 % 256])) rfl hO3.out b lm capm ms rfl hY3.out (by omega) hB3.out.size ?_; intro g4 c4 w4 ho4 hg4; have hO4 := Lib.hid (copied ho4.out Z1.out hY3.out.bytes (by omega)); have hB4 := Lib.hid (below_grown hB3.out hg4.out hgz hB3.out.size); clear ho4 hg4))
    refine (get4_back bs ms n len hn4 HL.out _ _ _ hO4.out.2 _ hO4.out.1).mono ?_
    rintro e w5 ⟨rfl, b5⟩
    have E5 := Lib.hid (hB4.out.trans (b5.mono hB4.out.size))
    have B5 := Lib.hid (B2.out.trans (E5.out.mono B2.out.size))
    have M5 := Lib.hid (M2.out.later E5.out)
    clear b5 hB4 hO4 hY3 hB3 hO3 hgz A1 C1 X1 Y1 Z1 B2 N1 M2
    have A2 : Hid ((w5.alloc (.cells #[] 5)).ownsRow w5.heap.size 5 1 (.slice (some ⟨w5.heap.size, 0, none⟩) 0 0) 0 []) :=
      World.ownsRow_lit (base := w5.heap.size) (e := 5) (size := 1) w5 #[] 0 (by simp) (by unfold maxLen; omega) rfl
    have C2 : Hid (Below w5.heap.size w5 (w5.alloc (.cells #[] 5))) := below1 w5 _
    have X2 := Lib.hid ((M5.out.sl (by omega)).later C2.out)
    have Y2 := Lib.hid ((HT.out.later B5.out).later C2.out)
    have Z2 := Lib.hid (X2.out.bytes)
    go_wp2_with (at_builtin; first | (refine wpList_append_sl rfl (.tmp 58) (.tmp 59) rfl w5.heap.size w5.heap.size 0 0 [] rfl A2.out a2 (len + 2) q2 (bs ++ [n / 1 % 256, n / 256 % 256]) rfl X2.out (by omega) (by simp) ?_; intro g3 c3 w3 ho3 hg3; have hO3 := Lib.hid (own_app_zero ho3.out); have hB3 := Lib.hid (below_grown C2.out hg3.out (Nat.le_refl _) C2.out.size); have hY3 := Lib.hid ((HT.out.later B5.out).later hB3.out); have hgz := own_base hO3.out; clear ho3 hg3) | (refine wpList_append_sl rfl (.tmp 60) (.tmp 61) rfl w5.heap.size g3 c3 (len + 2) (vb (bs ++ [n / 1 % 256, n / 256 % 256])) rfl hO3.out b lm capm ms rfl hY3.out (by omega) hB3.out.size ?_; intro g4 c4 w4 ho4 hg4; have hO4 := Lib.hid (copied ho4.out Z2.out hY3.out.bytes (by omega)); have hB4 := Lib.hid (below_grown hB3.out hg4.out hgz hB3.out.size); clear ho4 hg4))
    refine (get2_back bs ms n len (by omega) HL.out _ _ _ hO4.out.2 _ hO4.out.1).mono ?_
    rintro e w6 ⟨rfl, b6⟩
    have E6 := Lib.hid (hB4.out.trans (b6.mono hB4.out.size))
    have B6 := Lib.hid (B5.out.trans (E6.out.mono B5.out.size))
    clear b6 hB4 hO4 hY3 hB3 hO3 hgz A2 C2 X2 Y2 Z2 B5 M5 E5 E6
    go_wp2_with fail
    refine (lives_any _).mono ?_
    rintro e w9 ⟨rfl, hb⟩
    have B9 := Lib.hid (B6.out.trans (hb.mono B6.out.size))
    clear hb
    go_wp2_with fail
    go_ret
    exact ⟨rfl, B9.out⟩
  · have i0 : (0 : Int) ≤ (n : Int) := by omega
    have i1 : (n : Int) ≤ 4294967295 := by omega
    have i2 : ¬ (n : Int) ≤ 65535 := by omega
    have i3 : decide ((n : Int) ≤ 65535) = false := decide_eq_false i2
    have hn4 : n < 4294967296 := by omega
    have wl4 : IntKind.i64.wrap ((len : Int) + 4) = (len : Int) + 4 := IntWalk.i64_in _ (by omega)
    have wl2 : IntKind.i64.wrap ((len : Int) + 2) = (len : Int) + 2 := IntWalk.i64_in _ (by omega)
    go_enter Try.func6, Try.ntmps6
    go_wp2_with fail
    refine (put4_ok a len cap bs n hn4 hc (by omega) _ HS.out).mono ?_
    rintro e w1 ⟨a1, q1, rfl, m1, b1⟩
    have M1 := Lib.hid m1
    have B1 := Lib.hid b1
    clear m1 b1
    go_wp2_with fail
    refine (put2_bad a len cap (n : Int) (by omega) _).mono ?_
    rintro e w2 ⟨rfl, b2⟩
    have N1 := Lib.hid (M1.out.later b2)
    have B2 := Lib.hid (B1.out.trans (b2.mono B1.out.size))
    clear b2 B1 M1
    have A1 : Hid ((w2.alloc (.cells #[] 5)).ownsRow w2.heap.size 5 1 (.slice (some ⟨w2.heap.size, 0, none⟩) 0 0) 0 []) :=
      World.ownsRow_lit (base := w2.heap.size) (e := 5) (size := 1) w2 #[] 0 (by simp) (by unfold maxLen; omega) rfl
    have C1 : Hid (Below w2.heap.size w2 (w2.alloc (.cells #[] 5))) := below1 w2 _
    have X1 := Lib.hid ((N1.out.sl (by omega)).later C1.out)
    have Y1 := Lib.hid ((HT.out.later B2.out).later C1.out)
    have Z1 := Lib.hid (X1.out.bytes)
    go_wp2_with (at_builtin; first | (refine wpList_append_sl rfl (.tmp 30) (.tmp 31) rfl w2.heap.size w2.heap.size 0 0 [] rfl A1.out a1 (len + 4) q1 (bs ++ [n / 1 % 256, n / 256 % 256, n / 65536 % 256, n / 16777216 % 256]) rfl X1.out (by omega) (by simp) ?_; intro g3 c3 w3 ho3 hg3; have hO3 := Lib.hid (own_app_zero ho3.out); have hB3 := Lib.hid (below_grown C1.out hg3.out (Nat.le_refl _) C1.out.size); have hY3 := Lib.hid ((HT.out.later B2.out).later hB3.out); have hgz := own_base hO3.out; clear ho3 hg3) | (refine wpList_append_sl rfl (.tmp 32) (.tmp 33) rfl w2.heap.size g3 c3 (len + 4) (vb (bs ++ [n / 1 % 256, n / 256 % 256, n / 65536 % 256, n / 16777216 % 256])) rfl hO3.out b lm capm ms rfl hY3.out (by omega) hB3.out.size ?_; intro g4 c4 w4 ho4 hg4; have hO4 := Lib.hid (copied ho4.out Z1.out hY3.out.bytes (by omega)); have hB4 := Lib.hid (below_grown hB3.out hg4.out hgz hB3.out.size); clear ho4 hg4))
    refine (get4_back bs ms n len hn4 HL.out _ _ _ hO4.out.2 _ hO4.out.1).mono ?_
    rintro e w5 ⟨rfl, b5⟩
    have E5 := Lib.hid (hB4.out.trans (b5.mono hB4.out.size))
    have B5 := Lib.hid (B2.out.trans (E5.out.mono B2.out.size))
    clear b5 hB4 hO4 hY3 hB3 hO3 hgz A1 C1 X1 Y1 Z1 B2 N1
    go_wp2_with fail
    refine (lives_any _).mono ?_
    rintro e w9 ⟨rfl, hb⟩
    have B9 := Lib.hid (B5.out.trans (hb.mono B5.out.size))
    clear hb
    go_wp2_with fail
    go_ret
    exact ⟨rfl, B9.out⟩

set_option maxRecDepth 100000 in
theorem fieldBack_contract (H : Type) (enc : TypeId × Value → H) (W : World) (base : Nat) (args : Array Value) (ds gs : List (DataW H)) (before : List MemPlace)
    (hval0 : ∀ (j : Nat) t v, Try.f6.params[j]? = some t → args[j]? = some v → Value.okWide Try.prog W .any base t v)
    (hW : DataW.Whole enc Try.prog Try.f6.params.toList Rows.fieldBackSpec.vars false W args.toList ds gs before) (hk0 : Rows.uptoSmall H (ds ++ gs) = true)
    (hsz0 : (DataW.weightsEach Try.prog (Try.f6.params.toList ++ Rows.fieldBackSpec.plain.varTypes Try.prog) (ds ++ gs)).all (· ≤ reachBytes) = true) :
    Calls Try.prog 6 args W fun e W' => ∃ v, e = .returned v ∧ Rows.fieldBackSpec.post enc Try.prog Try.f6 false true false false W args v W' := by
  have hk : Rows.uptoBulkAll (ds ++ gs) ≤ 1048576 := of_decide_eq_true hk0
  have hval : ∀ (j : Nat) t v, Try.f6.params[j]? = some t → args[j]? = some v → Value.okWide Try.prog W .any base t v := hval0
  have hsz : (DataW.weightsEach Try.prog (Try.f6.params.toList ++ Rows.fieldBackSpec.plain.varTypes Try.prog) (ds ++ gs)).all (· ≤ reachBytes) = true := hsz0
  have hW' := hW
  obtain ⟨p, q, hA0, hV, rfl, hfz, hnd⟩ := hW
  have hA : DataW.TrodAll enc Try.prog W 0 (fun _ => true) true Try.f6.params.toList args.toList ds p := hA0
  rw [Try.params6] at hA hval hsz
  obtain ⟨v0, vs0, d0, ds0, p0, q0, hargs, rfl, rfl, h0, r0⟩ := trodAll_cons hA
  obtain ⟨v1, vs1, d1, ds1, p1, q1, rfl, rfl, rfl, h1, r1⟩ := trodAll_cons r0
  obtain ⟨v2, vs2, d2, ds2, p2, q2, rfl, rfl, rfl, h2, r2⟩ := trodAll_cons r1
  obtain ⟨rfl, rfl, rfl⟩ := trodAll_nil r2
  obtain rfl : args = #[v0, v1, v2] := by cases args; simp_all
  obtain ⟨rfl, rfl⟩ := trodVars_none hV
  have k0 := h0
  have lt0 : ∀ x ∈ p0, x.block < W.heap.size := by obtain ⟨m, hm⟩ := k0; exact DataW.trod_lt m _ _ _ hm
  have w0 : ∀ n ∈ d0.weights Try.prog 22, n ≤ reachBytes := fun n hn => by simpa using List.all_eq_true.1 hsz n (DataW.weights_mem_each (j := 0) rfl rfl n hn)
  obtain ⟨bs0, sl0, _, bk0⟩ := bytes_open_bulk (hval 0 22 v0 rfl rfl) h0 w0
  have cp0 := bytes_cap (hval 0 22 v0 rfl rfl) h0
  have k1 := h1
  have lt1 : ∀ x ∈ p1, x.block < W.heap.size := by obtain ⟨m, hm⟩ := k1; exact DataW.trod_lt m _ _ _ hm
  obtain ⟨n1, ev1, _, _, wn1⟩ := open_int Try.underlying3 (hval 1 3 v1 rfl rfl) h1
  subst ev1
  obtain ⟨lo1, hi1⟩ := wf_bounds wn1
  have k2 := h2
  have lt2 : ∀ x ∈ p2, x.block < W.heap.size := by obtain ⟨m, hm⟩ := k2; exact DataW.trod_lt m _ _ _ hm
  have w2 : ∀ n ∈ d2.weights Try.prog 22, n ≤ reachBytes := fun n hn => by simpa using List.all_eq_true.1 hsz n (DataW.weights_mem_each (j := 2) rfl rfl n hn)
  obtain ⟨bs2, sl2, _, bk2⟩ := bytes_open_bulk (hval 2 22 v2 rfl rfl) h2 w2
  simp only [List.cons_append, List.nil_append, Rows.uptoBulkAll] at hk
  have ln0 : bs0.length ≤ 1048576 := by omega
  have ln2 : bs2.length ≤ 1048576 := by omega
  clear hA0 hval0 hsz0
  refine (fieldBack_walk v0 bs0 n1 v2 bs2 W sl0 ln0 cp0 lo1 hi1 sl2 ln2).mono fun e W' ⟨he, bel⟩ => ?_
  subst he
  exact ⟨_, rfl, _, _, _, [], _, [], hW', trodAll_mk1 (shut_bool Try.underlying4 _), (trodAll_cons_mk (Below.trod Try.laidOut (by kernel_rfl) (of_decide_eq_true (by kernel_rfl)) k0 bel lt0) (trodAll_cons_mk (Below.trod Try.laidOut (by kernel_rfl) (of_decide_eq_true (by kernel_rfl)) k1 bel lt1) (trodAll_cons_mk (Below.trod Try.laidOut (by kernel_rfl) (of_decide_eq_true (by kernel_rfl)) k2 bel lt2) trodAll_mk0))), rfl, bel.frame _, fun h => by cases h⟩

set_option maxRecDepth 100000 in
theorem fieldBack_lifted (os : Os) (started : os.Started) (H : Type) (enc : TypeId × Value → H) (F : Stop.Interp) :
    ReturnsInHanded {} Try.checked os 6 .any ((Rows.OpenSpec.upto Rows.fieldBackSpec).pre6 enc Try.prog Try.f6 Rows.fieldBackUptoRow.domain false) (((Rows.OpenSpec.upto Rows.fieldBackSpec).at F).post enc Try.prog Try.f6 false true false false) := by
  refine returnsInHanded_of_cond_sized (C := Try.checked) (s := Rows.OpenSpec.upto Rows.fieldBackSpec) (k := Rows.uptoSmall) rfl Try.own started (by kernel_rfl) Try.func6
    (OpenSpec.witness (enc := enc) (C := Try.checked) (s := Rows.OpenSpec.upto Rows.fieldBackSpec) (k := Rows.uptoSmall) rfl false ⟨#[], #[.slice none 0 0, .int .i64 0, .slice none 0 0], []⟩ 8 (by kernel_rfl) (by kernel_rfl) (by kernel_rfl)
      (x := ([.nil, .lit (.int .i64 0), .nil], [], [])) (by kernel_rfl) rfl (by kernel_rfl)) ?_
  intro W base args ds gs before hval hW _ hk hsz _
  exact fieldBack_contract H enc W base args ds gs before hval hW hk hsz

theorem fieldBack_proved : Rows.FieldBackUptoSaid :=
  OpenClaim.holds_of_cond 6 Try.f6 rfl rfl rfl rfl rfl rfl rfl ⟨rfl, rfl, rfl, rfl, rfl⟩ rfl rfl rfl rfl rfl (by kernel_rfl) Try.func6 (by kernel_rfl)
    (of_decide_eq_true (by kernel_rfl)) (by unfold Func.isWrapper; rw [if_neg (of_decide_eq_false (by kernel_rfl))]; exact ⟨rfl, rfl⟩)
    (fun os started H enc _ F => fieldBack_lifted os started H enc F)
end Go.Proofs.Ytmakdenhmdjgjaa
