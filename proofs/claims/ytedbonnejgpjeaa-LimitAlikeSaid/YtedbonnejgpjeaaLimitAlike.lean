/- The statement LimitAlike: symbols that come alike often, as many as a power of two, all have as many bits as it has. It holds for all numbers, without a condition. -/
import Derived.Test.YtedbonnejgpjeaaLarg
namespace Go.Proofs.Ytedbonnejgpjeaa
open Go.ChangeShapes Go.WideShapes Go.ChangeAt Go.RowKit

/-- So many numbers that are all alike. -/
theorem alike_good (n v : Nat) (bits M : Nat) (hv : 0 < v) (hv2 : v ≤ 4294967295) (hb : 1 ≤ bits) (hb8 : bits ≤ 8) (hbM : bits ≤ M) (hM : M ≤ 15) (hn : n = 2 ^ bits) : Good (List.replicate n (v : Int)) (M : Int) := by
  have hn2 : n ≤ 256 := by rw [hn]; exact Nat.pow_le_pow_right (n := 2) (by omega) hb8
  have hn1 : 0 < n := by rw [hn]; exact Nat.two_pow_pos _
  refine ⟨⟨by simpa using hn1, by simp; omega, fun i hi => ?_⟩, by omega, ?_⟩
  · rw [List.length_replicate] at hi
    simp [hi]; omega
  · rw [Lm.srt_length]
    have h1 := Lm.usd_length (nat (List.replicate n (v : Int))) (nat (List.replicate n (v : Int))).length
    rw [nat_length, List.length_replicate] at h1
    rw [nat_length, List.length_replicate]
    have h2 : 2 ^ bits ≤ 2 ^ M := Nat.pow_le_pow_right (by omega) hbM
    have h3 : (M : Int).toNat = M := by simp
    rw [h3]; omega
theorem alike_len (n v bits M i : Nat) (hv : 0 < v) (hb : 1 ≤ bits) (hbM : bits ≤ M) (hn : n = 2 ^ bits) (hi : i < n) : Lm.len (nat (List.replicate n (v : Int))) M i = bits := by
  refine Lm.alike _ M bits v hv hb hbM (by rw [nat_length, List.length_replicate, hn]) (fun j hj => ?_) i (by rw [nat_length, List.length_replicate]; exact hi)
  rw [nat_length, List.length_replicate] at hj
  rw [nat_get]; simp [hj]

set_option maxHeartbeats 4000000 in
theorem alike_in (v bits M : Nat) (w : World) (hv : 0 < v) (hv2 : v ≤ 4294967295) (hb : 1 ≤ bits) (hb8 : bits ≤ 8) (hbM : bits ≤ M) (hM : M ≤ 15) :
    Calls Try.prog 8 #[.int .i64 (v : Int), .int .i64 (bits : Int), .int .i64 (M : Int)] w fun e w' => e = .returned (.bool true) ∧ Below w.heap.size w w' := by
  obtain ⟨n, hn⟩ : ∃ n, n = 2 ^ bits := ⟨_, rfl⟩
  have hn2 : n ≤ 256 := by rw [hn]; exact Nat.pow_le_pow_right (n := 2) (by omega) hb8
  have hn1 : 0 < n := by rw [hn]; exact Nat.two_pow_pos _
  have HG := Lib.hid (alike_good n v bits M hv hv2 hb hb8 hbM hM hn)
  have HL := Lib.hid (fun (s : Value) (w : World) (hz : Zl w s (List.replicate n (v : Int))) => lengths_all (List.replicate n (v : Int)) s (M : Int) w hz)
  rw [show lensOf (List.replicate n (v : Int)) (M : Int) = lensZ (List.replicate n (v : Int)) M from if_pos HG.out, lerr_good HG.out, lensZ_length, List.length_replicate] at HL
  have HA : Hid (∀ i, i < n → (lensZ (List.replicate n (v : Int)) M)[i]?.getD 0 = (bits : Int)) := fun i hi => by
    rw [lensZ_get _ _ _ (by rw [List.length_replicate]; exact hi), alike_len n v bits M i hv hb hbM hn hi]
  have hsw : Value.int .i64 (wrap64 (2 ^ bits)) = .int .i64 (n : Int) := by
    have e : ((2 : Int) ^ bits) = (n : Int) := by rw [hn]; simp
    rw [e, IntWalk.wrap64_in _ (by omega)]
  have t1 : decide ((v : Int) < 1) = false := by simp; omega
  have t2 : decide (4294967295 < (v : Int)) = false := by simp; omega
  have t3 : decide ((bits : Int) < 1) = false := by simp; omega
  have t4 : decide (8 < (bits : Int)) = false := by simp; omega
  have t5 : decide ((M : Int) < (bits : Int)) = false := by simp; omega
  have t6 : decide (15 < (M : Int)) = false := by simp; omega
  have t5' : decide (M < bits) = false := by simp; omega
  have HSW := Lib.hid hsw
  clear hn hsw hv hv2
  go_enter Try.func8, Try.ntmps8
  go_wp2
  clear t1 t2 t3 t4 t5 t5' t6
  go_loopw [7, 8] (fun s7 s8 wr => ∃ (k cap : Nat) (u : Option Addr), k ≤ n ∧ s8 = .int .i64 (k : Int) ∧ s7 = .slice u k cap ∧ Hid (Io w.heap.size wr (.slice u k cap) (List.replicate k v)) ∧ Hid (Below w.heap.size w wr)) (fun _ s _ => n - (intOf s).toNat)
  case atStart => exact ⟨0, 0, none, Nat.zero_le _, rfl, rfl, Io.nil _ _, Below.refl _ _⟩
  case round =>
    obtain ⟨k, cap, u, hk, rfl, rfl, KI, KB⟩ := hrel
    have hsw := HSW.out
    by_cases hlt : k < n
    · obtain ⟨g', cap', w2, hrun, hO, hB2⟩ := Io.more KI.out KB.out v (by rw [List.length_replicate]; omega)
      rw [List.length_replicate] at hrun hO
      have HRUN := Lib.hid hrun
      have KI2 : Hid (Io w.heap.size w2 (.slice (some ⟨g', 0, none⟩) (k + 1) cap') (List.replicate (k + 1) v)) := by
        show Io _ _ _ _
        rw [List.replicate_succ', ]
        exact hO.out
      have KB2 := Lib.hid hB2
      clear hrun hO hB2 KI KB
      go_wp2_with (at_builtin; refine wpList_append_known rfl (.tmp 42) (.tmp 44) 22 rfl _ _ _ _ rfl rfl HRUN.out ?_)
      go_roundw
      case rel => exact ⟨k + 1, _, _, by omega, by go_num, rfl, KI2, KB2⟩
      case measure => simp [intOf]; omega
    · obtain rfl : k = n := by omega
      have hzl : Zl wr (.slice u k cap) (List.replicate k (v : Int)) := by
        have h := Io.nl KI.out (by rw [List.length_replicate]; omega)
        obtain ⟨a', len', cap', e, h1, h2, h3, h4, h5⟩ := h
        cases e
        refine ⟨_, k, cap, rfl, by simp, by omega, h4, fun h0 => ?_⟩
        obtain ⟨b, off, rfl, hlt, hc⟩ := h5 h0
        refine ⟨b, off, rfl, hlt, fun i hi => ?_⟩
        rw [hc i v (by simp [hi])]
        simp [hi]
      have HC := HL.out _ wr hzl
      clear hzl KI HL
      go_wp2_with fail
      refine HC.mono ?_
      clear HC
      rintro e w1 ⟨a1, c1, rfl, hz1, hb1⟩
      obtain ⟨a', n', c', e', x1, x2, x3, d2⟩ := hz1
      cases e'
      clear x1 x2 x3
      obtain ⟨b2, o2, rfl, lt2, q2⟩ := d2 hn1
      have B1 := Lib.hid (KB.out.trans (hb1.mono KB.out.size))
      have Q2 := Lib.hid q2
      have hne : ((k : Int) != (k : Int)) = false := by simp
      clear d2 q2 hb1 KB hsw
      go_wp2_with fail
      go_loopw [11] (fun s11 wr => ∃ j : Nat, j ≤ k ∧ s11 = .int .i64 (j : Int) ∧ wr = w1) (fun s _ => k - (intOf s).toNat)
      case atStart => exact ⟨0, Nat.zero_le _, rfl, rfl⟩
      case round =>
        obtain ⟨j, hj, rfl, rfl⟩ := hrel
        by_cases hjn : j < k
        · have lk := Q2.out j hjn
          rw [HA.out j hjn] at lk
          have hne2 : ((bits : Int) != (bits : Int)) = false := by simp
          go_wp2_with fail
          go_roundw
          case rel => exact ⟨j + 1, by omega, by go_num, by first | rfl | trivial⟩
          case measure => simp [intOf]; omega
        · obtain rfl : j = k := by omega
          go_wp2_with fail
          refine (lives_any _).mono ?_
          rintro e w5 ⟨rfl, hb⟩
          have B5 := Lib.hid (B1.out.trans (hb.mono B1.out.size))
          clear hb
          go_wp2
          go_ret
          exact ⟨rfl, B5.out⟩

set_option maxHeartbeats 4000000 in
theorem limitAlike_walk (v bits M : Int) (w : World) (lo0 : -9223372036854775808 ≤ v) (hi0 : v ≤ 9223372036854775807) (lo1 : -9223372036854775808 ≤ bits) (hi1 : bits ≤ 9223372036854775807) (lo2 : -9223372036854775808 ≤ M) (hi2 : M ≤ 9223372036854775807) :
    Calls Try.prog 8 #[.int .i64 v, .int .i64 bits, .int .i64 M] w fun e w' => e = .returned (.bool true) ∧ Below w.heap.size w w' := by
  by_cases h : v < 1 ∨ 4294967295 < v ∨ bits < 1 ∨ 8 < bits ∨ M < bits ∨ 15 < M
  · have HV := Lib.hid (lives_any w)
    by_cases h1 : v < 1
    · have t1 : decide (v < 1) = true := by simpa using h1
      clear h h1
      go_enter Try.func8, Try.ntmps8
      go_wp2_with fail
      refine HV.out.mono ?_
      rintro e w5 ⟨rfl, hb⟩
      go_wp2
      go_ret
      exact ⟨rfl, hb⟩
    · have t1 : decide (v < 1) = false := by simpa using h1
      by_cases h2 : 4294967295 < v
      · have t2 : decide (4294967295 < v) = true := by simpa using h2
        clear h h1 h2
        go_enter Try.func8, Try.ntmps8
        go_wp2_with fail
        refine HV.out.mono ?_
        rintro e w5 ⟨rfl, hb⟩
        go_wp2
        go_ret
        exact ⟨rfl, hb⟩
      · have t2 : decide (4294967295 < v) = false := by simpa using h2
        by_cases h3 : bits < 1
        · have t3 : decide (bits < 1) = true := by simpa using h3
          clear h h1 h2 h3
          go_enter Try.func8, Try.ntmps8
          go_wp2_with fail
          refine HV.out.mono ?_
          rintro e w5 ⟨rfl, hb⟩
          go_wp2
          go_ret
          exact ⟨rfl, hb⟩
        · have t3 : decide (bits < 1) = false := by simpa using h3
          by_cases h4 : 8 < bits
          · have t4 : decide (8 < bits) = true := by simpa using h4
            clear h h1 h2 h3 h4
            go_enter Try.func8, Try.ntmps8
            go_wp2_with fail
            refine HV.out.mono ?_
            rintro e w5 ⟨rfl, hb⟩
            go_wp2
            go_ret
            exact ⟨rfl, hb⟩
          · have t4 : decide (8 < bits) = false := by simpa using h4
            by_cases h5 : M < bits
            · have t5 : decide (M < bits) = true := by simpa using h5
              clear h h1 h2 h3 h4 h5
              go_enter Try.func8, Try.ntmps8
              go_wp2_with fail
              refine HV.out.mono ?_
              rintro e w5 ⟨rfl, hb⟩
              go_wp2
              go_ret
              exact ⟨rfl, hb⟩
            · have t5 : decide (M < bits) = false := by simpa using h5
              have h6 : 15 < M := by omega
              have t6 : decide (15 < M) = true := by simpa using h6
              clear h h1 h2 h3 h4 h5 h6
              go_enter Try.func8, Try.ntmps8
              go_wp2_with fail
              refine HV.out.mono ?_
              rintro e w5 ⟨rfl, hb⟩
              go_wp2
              go_ret
              exact ⟨rfl, hb⟩
  · have h' := alike_in v.toNat bits.toNat M.toNat w (by omega) (by omega) (by omega) (by omega) (by omega) (by omega)
    rwa [show ((v.toNat : Nat) : Int) = v by omega, show ((bits.toNat : Nat) : Int) = bits by omega, show ((M.toNat : Nat) : Int) = M by omega] at h'

set_option maxRecDepth 100000 in
theorem limitAlike_lifted (os : Os) (started : os.Started) (H : Type) (enc : TypeId × Value → H) :
    ReturnsInHanded {} Try.checked os 8 .any (Rows.limitAlikeSpec.pre6 enc Try.prog Try.f8 Rows.limitAlikeRow.domain false) (Rows.limitAlikeSpec.post enc Try.prog Try.f8 false true false false) := by
  refine returnsInHanded_of_change_sized (C := Try.checked) Try.own started (by kernel_rfl) Try.func8
    (ChangeSpec.witness6 (enc := enc) (C := Try.checked) false ⟨#[], #[.int .i64 0, .int .i64 0, .int .i64 0], []⟩ 8 (by kernel_rfl) (by kernel_rfl) (by kernel_rfl) (by kernel_rfl)) ?_
  intro W base args ds gs before hval0 hW _ hsz0 _
  have hval : ∀ (j : Nat) t v, Try.f8.params[j]? = some t → args[j]? = some v → Value.okWide Try.prog W .any base t v := hval0
  have hsz : (DataW.weightsEach Try.prog (Try.f8.params.toList ++ Rows.limitAlikeSpec.plain.varTypes Try.prog) (ds ++ gs)).all (· ≤ reachBytes) = true := hsz0
  have hW' := hW
  obtain ⟨p, q, hA0, hV, rfl, hfz, hnd⟩ := hW
  have hA : DataW.TrodAll enc Try.prog W 0 (fun _ => true) true Try.f8.params.toList args.toList ds p := hA0
  rw [Try.params8] at hA hval hsz
  obtain ⟨v0, vs0, d0, ds0, p0, q0, hargs, rfl, rfl, h0, r0⟩ := trodAll_cons hA
  obtain ⟨v1, vs1, d1, ds1, p1, q1, rfl, rfl, rfl, h1, r1⟩ := trodAll_cons r0
  obtain ⟨v2, vs2, d2, ds2, p2, q2, rfl, rfl, rfl, h2, r2⟩ := trodAll_cons r1
  obtain ⟨rfl, rfl, rfl⟩ := trodAll_nil r2
  obtain rfl : args = #[v0, v1, v2] := by cases args; simp_all
  obtain ⟨rfl, rfl⟩ := trodVars_none hV
  have k0 := h0
  have lt0 : ∀ x ∈ p0, x.block < W.heap.size := by obtain ⟨m, hm⟩ := k0; exact DataW.trod_lt m _ _ _ hm
  obtain ⟨n0, ev0, _, _, wn0⟩ := open_int Try.underlying3 (hval 0 3 v0 rfl rfl) h0
  subst ev0
  obtain ⟨lo0, hi0⟩ := wf_bounds wn0
  have k1 := h1
  have lt1 : ∀ x ∈ p1, x.block < W.heap.size := by obtain ⟨m, hm⟩ := k1; exact DataW.trod_lt m _ _ _ hm
  obtain ⟨n1, ev1, _, _, wn1⟩ := open_int Try.underlying3 (hval 1 3 v1 rfl rfl) h1
  subst ev1
  obtain ⟨lo1, hi1⟩ := wf_bounds wn1
  have k2 := h2
  have lt2 : ∀ x ∈ p2, x.block < W.heap.size := by obtain ⟨m, hm⟩ := k2; exact DataW.trod_lt m _ _ _ hm
  obtain ⟨n2, ev2, _, _, wn2⟩ := open_int Try.underlying3 (hval 2 3 v2 rfl rfl) h2
  subst ev2
  obtain ⟨lo2, hi2⟩ := wf_bounds wn2
  clear hA0 hval0 hsz0
  refine (limitAlike_walk n0 n1 n2 W lo0 hi0 lo1 hi1 lo2 hi2).mono fun e W' ⟨he, bel⟩ => ?_
  subst he
  exact ⟨_, rfl, _, _, _, [], _, [], hW', trodAll_mk1 (shut_bool Try.underlying4 _), (trodAll_cons_mk (Below.trod Try.laidOut (by kernel_rfl) (of_decide_eq_true (by kernel_rfl)) k0 bel lt0) (trodAll_cons_mk (Below.trod Try.laidOut (by kernel_rfl) (of_decide_eq_true (by kernel_rfl)) k1 bel lt1) (trodAll_cons_mk (Below.trod Try.laidOut (by kernel_rfl) (of_decide_eq_true (by kernel_rfl)) k2 bel lt2) trodAll_mk0))), rfl, bel.frame _, fun h => by cases h⟩

theorem limitAlike_proved : Rows.LimitAlikeSaid :=
  OpenClaim.holds_of_wide 8 Try.f8 rfl rfl rfl rfl rfl rfl rfl ⟨rfl, rfl, rfl, rfl, rfl⟩ rfl rfl rfl rfl rfl (by kernel_rfl) Try.func8 (by kernel_rfl)
    (of_decide_eq_true (by kernel_rfl)) (by unfold Func.isWrapper; rw [if_neg (of_decide_eq_false (by kernel_rfl))]; exact ⟨rfl, rfl⟩)
    (fun os started H enc _ => limitAlike_lifted os started H enc)
end Go.Proofs.Ytedbonnejgpjeaa
