/- The statement HuffApart: no code begins with another one; of one length codes rise with their symbols, one by one; no longer code is ahead of a shorter one. It holds for every row of numbers and every two integers, without a condition. -/
import Derived.Test.YtgffcffmhhdceaaHuffCodes
import Derived.Test.YtgffcffmhhdceaaHapart
import Derived.Test.YtgffcffmhhdceaaQtail
namespace Go.Proofs.Ytgffcffmhhdceaa
open Go.ChangeShapes Go.WideShapes Go.ChangeAt Go.RowKit

/-- An index from any integer. -/
theorem mod_len (i : Int) (len : Nat) (h0 : 0 < len) (h9 : len ≤ 17592186044416) : ∃ p : Nat, p < len ∧ (IntKind.u64.wrap i).tmod (len : Int) = (p : Int) ∧ wrap64 (p : Int) = (p : Int) := by
  have h := IntKind.wrap_u64 i
  have hn : 0 ≤ IntKind.u64.wrap i := by rw [h]; omega
  obtain ⟨m, hm⟩ := Int.eq_ofNat_of_zero_le hn
  refine ⟨m % len, Nat.mod_lt _ h0, ?_, ?_⟩
  · rw [hm, ← Int.ofNat_tmod]
  · have := Nat.mod_lt m h0
    have h2 : ((m % len : Nat) : Int) < (len : Int) := by omega
    have h3 : (0 : Int) ≤ ((m % len : Nat) : Int) := by omega
    exact IntWalk.wrap64_in _ (by omega)

theorem lives_from {w w1 : World} (b : Below w.heap.size w w1) (n : Nat) : Calls Try.prog 16 #[] (w1.drewN n) fun e w' => e = .returned (.bool true) ∧ Below w.heap.size w w' :=
  (lives_any _).mono fun _ _ h => ⟨h.1, b.trans (((below_drewN (Below.refl _ w1) n).trans h.2).mono b.size)⟩

set_option maxHeartbeats 4000000 in
theorem huffApart_walk (s : Value) (zs : List Int) (i j : Int) (w : World) (hz : Zl w s zs) (hl : zs.length ≤ 17592186043904) (_ : -9223372036854775808 ≤ i) (_ : i ≤ 9223372036854775807) (_ : -9223372036854775808 ≤ j) (_ : j ≤ 9223372036854775807) :
    Calls Try.prog 7 #[s, .int .i64 i, .int .i64 j] w fun e w' => e = .returned (.bool true) ∧ Below w.heap.size w w' := by
  by_cases hf : Fit zs
  · have HC := Lib.hid (codes_ok zs s w hz hf)
    have hv := hf.valid
    have HZ := Lib.hid hz
    obtain ⟨a, len, cap, rfl, hlen⟩ := hz.shape
    have hlen0 : 0 < len := by have := hv.1; omega
    have hlen9 : len ≤ 288 := by have := hv.2.1; omega
    have HF := Lib.hid hf
    have HLE := Lib.hid hlen
    have hcl : Hid ((Hf.codes (nat zs)).length = len) := by show _ = _; rw [Hf.codes_length, nat_length, hlen]
    unfold CodesPost at HC
    clear hz hf hv hlen hl
    go_enter Try.func7, Try.ntmps7
    go_wp2_with fail
    refine HC.out.mono ?_
    clear HC
    rintro e w1 ⟨v, rfl, hi, hb⟩
    obtain ⟨g, cap1, rfl, _, hr⟩ := il_cell hi (by rw [hcl.out]; exact hlen0)
    rw [hcl.out] at hr ⊢
    have R1 := Lib.hid hr
    have B1 := Lib.hid hb
    clear hi hb hr
    go_wp2_with fail
    have hu : IntKind.u64.wrap (len : Int) = (len : Int) := IntWalk.u64_in _ (by omega)
    go_quiet (fail)
    obtain ⟨p, hp, ep, ep2⟩ := mod_len i len hlen0 (by omega)
    obtain ⟨q, hq, eq, eq2⟩ := mod_len j len hlen0 (by omega)
    simp only [ep, ep2, eq, eq2]
    clear hu ep ep2 eq eq2
    obtain ⟨vp, hvp⟩ : ∃ v : Nat, v = Hf.ln (nat zs) p := ⟨_, rfl⟩
    obtain ⟨vq, hvq⟩ : ∃ v : Nat, v = Hf.ln (nat zs) q := ⟨_, rfl⟩
    obtain ⟨cp, hcp⟩ : ∃ v : Nat, v = (Hf.codes (nat zs))[p]?.getD 0 := ⟨_, rfl⟩
    obtain ⟨cq, hcq⟩ : ∃ v : Nat, v = (Hf.codes (nat zs))[q]?.getD 0 := ⟨_, rfl⟩
    have zp := HF.out.valid.get p (by have := HLE.out; omega)
    have zq := HF.out.valid.get q (by have := HLE.out; omega)
    have vp15 : vp ≤ 15 := by rw [hvp]; exact HF.out.valid.le p (by rw [nat_length, ← HLE.out]; exact hp)
    have vq15 : vq ≤ 15 := by rw [hvq]; exact HF.out.valid.le q (by rw [nat_length, ← HLE.out]; exact hq)
    obtain ⟨b, off, rfl, _, hx1, hc1⟩ := zl_cell HZ.out p (by have := HLE.out; omega)
    obtain ⟨_, _, e2, hblt, hx2, hc2⟩ := zl_cell HZ.out q (by have := HLE.out; omega)
    cases e2
    have m1 : w1.cell? ⟨b, off + p, none⟩ = some (.int .i64 (vp : Int)) := by rw [B1.out.cell (p := ⟨b, off + p, none⟩) hblt, hc1, zp, hvp]; rfl
    have m2 : w1.cell? ⟨b, off + q, none⟩ = some (.int .i64 (vq : Int)) := by rw [B1.out.cell (p := ⟨b, off + q, none⟩) hblt, hc2, zq, hvq]; rfl
    have m3 : w1.cell? ⟨g, p, none⟩ = some (.int .i64 (cp : Int)) := by rw [R1.out.cell p hp, ← hcp]
    have m4 : w1.cell? ⟨g, q, none⟩ = some (.int .i64 (cq : Int)) := by rw [R1.out.cell q hq, ← hcq]
    have i1 : (0 : Int) ≤ (p : Int) := by omega
    have i2 : (0 : Int) ≤ (q : Int) := by omega
    have i3 : (p : Int) < (len : Int) := by omega
    have i4 : (q : Int) < (len : Int) := by omega
    have HA : Hid (Unit → p ≠ q → 0 < vp → vp = vq → (cp < cq ↔ p < q) ∧ cp ≠ cq) := fun _ hne h0 he => by
      obtain ⟨x, hx, ex⟩ := Hf.sy_of (nat zs) p (by rw [nat_length, ← HLE.out]; exact hp) (by rw [← hvp]; exact h0) (by rw [← hvp]; exact vp15)
      obtain ⟨y, hy, ey⟩ := Hf.sy_of (nat zs) q (by rw [nat_length, ← HLE.out]; exact hq) (by rw [← hvq]; omega) (by rw [← hvq]; exact vq15)
      have h := Hf.apart_same (nat zs) x y hx hy (by rw [ex, ey, ← hvp, ← hvq]; exact he) (by rw [ex, ey]; exact hne)
      rw [← Hf.codes_get (nat zs) x hx, ← Hf.codes_get (nat zs) y hy, ex, ey, ← hcp, ← hcq] at h
      exact h
    have HB : Hid (Unit → 0 < vp → vp < vq → cp < cq / 2 ^ (vq - vp)) := fun _ h0 he => by
      obtain ⟨x, hx, ex⟩ := Hf.sy_of (nat zs) p (by rw [nat_length, ← HLE.out]; exact hp) (by rw [← hvp]; exact h0) (by rw [← hvp]; exact vp15)
      obtain ⟨y, hy, ey⟩ := Hf.sy_of (nat zs) q (by rw [nat_length, ← HLE.out]; exact hq) (by rw [← hvq]; omega) (by rw [← hvq]; exact vq15)
      have h := Hf.apart_long (nat zs) x y hx hy (by rw [ex, ey, ← hvp, ← hvq]; exact he)
      rw [← Hf.codes_get (nat zs) x hx, ← Hf.codes_get (nat zs) y hy, ex, ey, ← hvp, ← hvq, ← hcp, ← hcq] at h
      exact h
    clear hx1 hx2 zp zq hc1 hc2 hvp hvq hcp hcq hp hq HF HLE hcl HZ
    by_cases hpq : p = q
    · subst hpq
      go_wp2
      go_quiet (fail)
      go_wp2_with fail
      refine (lives_from B1.out _).mono ?_
      rintro e w2 ⟨rfl, hb⟩
      go_wp2
      go_ret
      exact ⟨rfl, hb⟩
    have d1 : decide ((p : Int) = (q : Int)) = false := decide_eq_false (by omega)
    have d1' : ((p : Int) == (q : Int)) = false := by rw [beq_eq_false_iff_ne]; omega
    by_cases hp0 : vp = 0
    · subst hp0
      go_wp2
      go_quiet (fail)
      go_wp2_with fail
      refine (lives_from B1.out _).mono ?_
      rintro e w2 ⟨rfl, hb⟩
      go_wp2
      go_ret
      exact ⟨rfl, hb⟩
    have d2 : decide ((vp : Int) = 0) = false := decide_eq_false (by omega)
    have d2' : ((vp : Int) == 0) = false := by simpa using hp0
    by_cases hq0 : vq = 0
    · subst hq0
      go_wp2
      go_quiet (fail)
      go_wp2_with fail
      refine (lives_from B1.out _).mono ?_
      rintro e w2 ⟨rfl, hb⟩
      go_wp2
      go_ret
      exact ⟨rfl, hb⟩
    have d3 : decide ((vq : Int) = 0) = false := decide_eq_false (by omega)
    have d3' : ((vq : Int) == 0) = false := by simpa using hq0
    by_cases hlt : vq < vp
    · have d4 : decide ((vq : Int) < (vp : Int)) = true := decide_eq_true (by omega)
      go_wp2
      go_quiet (fail)
      go_wp2_with fail
      refine (lives_from B1.out _).mono ?_
      rintro e w2 ⟨rfl, hb⟩
      go_wp2
      go_ret
      exact ⟨rfl, hb⟩
    have d4 : decide ((vq : Int) < (vp : Int)) = false := decide_eq_false (by omega)
    have d4' : decide (vq < vp) = false := decide_eq_false hlt
    go_wp2
    go_quiet (fail)
    obtain ⟨d, hd⟩ : ∃ d : Nat, d = vq - vp := ⟨_, rfl⟩
    have ed : IntKind.i64.wrap ((vq : Int) - (vp : Int)) = (d : Int) := by rw [IntWalk.i64_in _ (by omega)]; omega
    go_wp2
    go_quiet (fail)
    obtain ⟨ah, hah⟩ : ∃ ah : Nat, ah = cq / 2 ^ (vq - vp) := ⟨_, rfl⟩
    have eah : (cq : Int) / 2 ^ (vq - vp) = (ah : Int) := by rw [hah, Int.natCast_ediv, Int.natCast_pow]; rfl
    rw [eah]
    have HAH := Lib.hid hah
    clear eah hah ed hd
    by_cases he : vp = vq
    · have d5 : ((vp : Int) == (vq : Int)) = true := by rw [beq_iff_eq]; omega
      have hA := HA.out () hpq (by omega) he
      have KB : Hid (Below w.heap.size w w1) := B1.out
      go_wp2
      go_quiet (fail)
      clear d1 d1' d2 d2' d3 d3' d4 d4' d5 he
      by_cases hpq3 : p < q
      · have f0 : cp < cq := by have := hA.1.2 hpq3; omega
        have f1 : decide ((cp : Int) < (cq : Int)) = true := decide_eq_true (by omega)
        have f2 : decide ((p : Int) < (q : Int)) = true := decide_eq_true (by omega)
        have f3 : ((cp : Int) != (cq : Int)) = true := by rw [bne_iff_ne]; omega
        clear hA
        go_wp2
        refine region_qtail 25 (by kernel_rfl) (by kernel_rfl) fun W hW => ?_
        have n3 : W.cell? ⟨g, p, none⟩ = some (.int .i64 (cp : Int)) := by rw [hW]; exact m3
        have n4 : W.cell? ⟨g, q, none⟩ = some (.int .i64 (cq : Int)) := by rw [hW]; exact m4
        have BW : Hid (Below w.heap.size w W) := by rw [hW]; exact (below_drewN (below_drewN (below_drewN (below_drewN KB.out _) _) _) _).drew
        clear hW m1 m2 m3 m4
        simp only [List.take_succ_cons, List.take_zero, List.drop_succ_cons, List.drop_zero]
        repeat (go_big_quiet_step (fail))
        refine wpQuiet_nil ?_
        go_wp2_with fail
        refine (lives_any _).mono ?_
        rintro e w2 ⟨rfl, hb⟩
        have B2 := Lib.hid (BW.out.trans (hb.mono BW.out.size))
        clear hb
        go_wp2
        go_ret
        exact ⟨rfl, B2.out⟩
      · have f0 : ¬ cp < cq := fun h => hpq3 (hA.1.1 h)
        have f1 : decide (cp < cq) = false := decide_eq_false f0
        have f2 : decide ((p : Int) < (q : Int)) = false := decide_eq_false (by omega)
        have f4 : decide (p < q) = false := decide_eq_false hpq3
        have f3 : ((cp : Int) != (cq : Int)) = true := by rw [bne_iff_ne]; have := hA.2; omega
        clear hA
        go_wp2
        refine region_qtail 25 (by kernel_rfl) (by kernel_rfl) fun W hW => ?_
        have n3 : W.cell? ⟨g, p, none⟩ = some (.int .i64 (cp : Int)) := by rw [hW]; exact m3
        have n4 : W.cell? ⟨g, q, none⟩ = some (.int .i64 (cq : Int)) := by rw [hW]; exact m4
        have BW : Hid (Below w.heap.size w W) := by rw [hW]; exact (below_drewN (below_drewN (below_drewN (below_drewN KB.out _) _) _) _).drew
        clear hW m1 m2 m3 m4
        simp only [List.take_succ_cons, List.take_zero, List.drop_succ_cons, List.drop_zero]
        repeat (go_big_quiet_step (fail))
        refine wpQuiet_nil ?_
        go_wp2_with fail
        refine (lives_any _).mono ?_
        rintro e w2 ⟨rfl, hb⟩
        have B2 := Lib.hid (BW.out.trans (hb.mono BW.out.size))
        clear hb
        go_wp2
        go_ret
        exact ⟨rfl, B2.out⟩
    · have d5 : ((vp : Int) == (vq : Int)) = false := by rw [beq_eq_false_iff_ne]; omega
      have hB := HB.out () (by omega) (by omega)
      have f0 : (cp : Int) < (ah : Int) := by have := HAH.out; omega
      have f1 : decide ((cp : Int) < (ah : Int)) = true := decide_eq_true f0
      have KB : Hid (Below w.heap.size w w1) := B1.out
      clear hB
      go_wp2
      go_quiet (fail)
      clear d1 d1' d2 d2' d3 d3' d4 d4' d5 he
      go_wp2_with fail
      refine (lives_from KB.out _).mono ?_
      rintro e w2 ⟨rfl, hb⟩
      have B2 := Lib.hid hb
      clear hb
      go_wp2
      go_ret
      exact ⟨rfl, B2.out⟩
  · have HC := Lib.hid (codes_no zs s w hz hf)
    have hc0 : ((chk zs) == 0) = false := by rw [beq_eq_false_iff_ne]; exact fun h => hf (Or.inl h)
    obtain ⟨k, hk⟩ : ∃ k, k = chk zs := ⟨_, rfl⟩
    rw [← hk] at HC hc0
    have hk0 : ¬ k = 0 := by rw [beq_eq_false_iff_ne] at hc0; exact hc0
    unfold NoCodes at HC
    clear hz hf hk
    go_enter Try.func7, Try.ntmps7
    go_wp2_with fail
    refine HC.out.mono ?_
    clear HC
    rintro e w1 ⟨rfl, hb⟩
    have B1 := Lib.hid hb
    clear hb
    go_wp2_with fail
    refine (lives_any _).mono ?_
    rintro e w2 ⟨rfl, hb⟩
    have B2 := Lib.hid (B1.out.trans (hb.mono B1.out.size))
    clear hb
    go_wp2
    go_ret
    exact ⟨rfl, B2.out⟩

set_option maxRecDepth 100000 in
theorem huffApart_lifted (os : Os) (started : os.Started) (H : Type) (enc : TypeId × Value → H) :
    ReturnsInHanded {} Try.checked os 7 .any (Rows.huffApartSpec.pre6 enc Try.prog Try.f7 Rows.huffApartRow.domain false) (Rows.huffApartSpec.post enc Try.prog Try.f7 false true false false) := by
  refine returnsInHanded_of_change_sized (C := Try.checked) Try.own started (by kernel_rfl) Try.func7
    (ChangeSpec.witness6 (enc := enc) (C := Try.checked) false ⟨#[], #[.slice none 0 0, .int .i64 0, .int .i64 0], []⟩ 8 (by kernel_rfl) (by kernel_rfl) (by kernel_rfl) (by kernel_rfl)) ?_
  intro W base args ds gs before hval0 hW _ hsz0 _
  have hval : ∀ (j : Nat) t v, Try.f7.params[j]? = some t → args[j]? = some v → Value.okWide Try.prog W .any base t v := hval0
  have hsz : (DataW.weightsEach Try.prog (Try.f7.params.toList ++ Rows.huffApartSpec.plain.varTypes Try.prog) (ds ++ gs)).all (· ≤ reachBytes) = true := hsz0
  have hW' := hW
  obtain ⟨p, q, hA0, hV, rfl, hfz, hnd⟩ := hW
  have hA : DataW.TrodAll enc Try.prog W 0 (fun _ => true) true Try.f7.params.toList args.toList ds p := hA0
  rw [Try.params7] at hA hval hsz
  obtain ⟨v0, vs0, d0, ds0, p0, q0, hargs, rfl, rfl, h0, r0⟩ := trodAll_cons hA
  obtain ⟨v1, vs1, d1, ds1, p1, q1, rfl, rfl, rfl, h1, r1⟩ := trodAll_cons r0
  obtain ⟨v2, vs2, d2, ds2, p2, q2, rfl, rfl, rfl, h2, r2⟩ := trodAll_cons r1
  obtain ⟨rfl, rfl, rfl⟩ := trodAll_nil r2
  obtain rfl : args = #[v0, v1, v2] := by cases args; simp_all
  obtain ⟨rfl, rfl⟩ := trodVars_none hV
  have k0 := h0
  have lt0 : ∀ x ∈ p0, x.block < W.heap.size := by obtain ⟨m, hm⟩ := k0; exact DataW.trod_lt m _ _ _ hm
  have w0 : ∀ n ∈ d0.weights Try.prog 22, n ≤ reachBytes := fun n hn => by simpa using List.all_eq_true.1 hsz n (DataW.weights_mem_each (j := 0) rfl rfl n hn)
  obtain ⟨zs0, zl0, ln0⟩ := ints_open (hval 0 22 v0 rfl rfl) h0 w0
  have k1 := h1
  have lt1 : ∀ x ∈ p1, x.block < W.heap.size := by obtain ⟨m, hm⟩ := k1; exact DataW.trod_lt m _ _ _ hm
  obtain ⟨n1, ev1, _, _, wn1⟩ := open_int Try.underlying3 (hval 1 3 v1 rfl rfl) h1
  subst ev1
  obtain ⟨lo1, hi1⟩ := wf_bounds wn1
  have k2 := h2
  have lt2 : ∀ x ∈ p2, x.block < W.heap.size := by obtain ⟨m, hm⟩ := k2; exact DataW.trod_lt m _ _ _ hm
  obtain ⟨n2, ev2, _, _, wn2⟩ := open_int Try.underlying3 (hval 2 3 v2 rfl rfl) h2
  subst ev2
  obtain ⟨lo2, hi2⟩ := wf_bounds wn2
  clear hA0 hval0 hsz0
  refine (huffApart_walk v0 zs0 n1 n2 W zl0 ln0 lo1 hi1 lo2 hi2).mono fun e W' ⟨he, bel⟩ => ?_
  subst he
  exact ⟨_, rfl, _, _, _, [], _, [], hW', trodAll_mk1 (shut_bool Try.underlying4 _), (trodAll_cons_mk (Below.trod Try.laidOut (by kernel_rfl) (of_decide_eq_true (by kernel_rfl)) k0 bel lt0) (trodAll_cons_mk (Below.trod Try.laidOut (by kernel_rfl) (of_decide_eq_true (by kernel_rfl)) k1 bel lt1) (trodAll_cons_mk (Below.trod Try.laidOut (by kernel_rfl) (of_decide_eq_true (by kernel_rfl)) k2 bel lt2) trodAll_mk0))), rfl, bel.frame _, fun h => by cases h⟩

theorem huffApart_proved : Rows.HuffApartSaid :=
  OpenClaim.holds_of_wide 7 Try.f7 rfl rfl rfl rfl rfl rfl rfl ⟨rfl, rfl, rfl, rfl, rfl⟩ rfl rfl rfl rfl rfl (by kernel_rfl) Try.func7 (by kernel_rfl)
    (of_decide_eq_true (by kernel_rfl)) (by unfold Func.isWrapper; rw [if_neg (of_decide_eq_false (by kernel_rfl))]; exact ⟨rfl, rfl⟩)
    (fun os started H enc _ => huffApart_lifted os started H enc)
end Go.Proofs.Ytgffcffmhhdceaa
