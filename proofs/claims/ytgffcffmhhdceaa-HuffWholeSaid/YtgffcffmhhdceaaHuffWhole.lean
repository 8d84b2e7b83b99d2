/- The statement HuffWhole: of lengths of a whole code whatever bits are read are some code, as soon as there are fifteen of them. It holds for every row of numbers and all bytes, without a condition. -/
import Derived.Test.YtgffcffmhhdceaaHbyt
import Derived.Test.YtgffcffmhhdceaaHuffApart
import Derived.Test.YtgffcffmhhdceaaHhit
import Derived.Test.YtgffcffmhhdceaaHrd2
namespace Go.Proofs.Ytgffcffmhhdceaa
open Go.ChangeShapes Go.WideShapes Go.ChangeAt Go.RowKit

/-- What Read tells where a code stands. -/
theorem read_hit (T g capg : Nat) (ls : List Nat) (hg : Good ls) (s : Value) (l : List Bool) (N p n k : Nat) (w : World) (hT : Tb w T g capg ls) (hs : Sl w s (Bs.pack l)) (hl : Hid (N = l.length)) (hN : N ≤ 2251799813685248) (hk : Hf.Hit ls l p n k) (hn : 0 < n) (hp : p + n ≤ N) :
    Calls Try.prog 23 #[.pointer (some ⟨T, 0, none⟩), .agg #[s, .int .i64 (N : Int)], .int .i64 (p : Int)] w fun e w' => e = .returned (.tuple #[.int .i64 (Hf.sy ls k : Int), .int .i64 ((p + n : Nat) : Int), .int .i64 0]) ∧ Below w.heap.size w w' := by
  have hpN : p ≤ N := by omega
  have h3 := Hf.rd_hit hk hn (by rw [← hl.out]; exact hp)
  refine Calls.mono (read_ok T g capg ls hg s l N p w hT hs hl hN hpN) ?_
  clear hT hs hg hk hN
  rintro e w' ⟨r, he, hr, hb⟩
  have h := Hf.rd_one hr h3
  rw [h] at he
  refine ⟨?_, hb⟩
  clear hr h3 h hb
  simp only at he
  exact he

set_option maxRecDepth 100000 in
set_option maxHeartbeats 4000000 in
theorem huffWhole_walk (s : Value) (zs : List Int) (t : Value) (bs : List Nat) (w : World) (hz : Zl w s zs) (_ : zs.length ≤ 17592186043904) (hs : Sl w t bs) (hbl : bs.length ≤ 140737488351232) :
    Calls Try.prog 8 #[s, t] w fun e w' => e = .returned (.bool true) ∧ Below w.heap.size w w' := by
  have HC := Lib.hid (check_any zs s w hz)
  unfold One at HC
  by_cases hc : chk zs = 0
  · rw [hc] at HC
    have hne : newE zs = 0 := by unfold newE; rw [if_neg (by omega)]; exact hc
    have HNEW := Lib.hid (fun w' hb => new_ok zs s w' (hz.later hb) hne)
    have hG := good_of hne
    have hpf : Hid (Hf.pf (nat zs) (Hf.ordl (nat zs)).length = 32768) := by
      show _ = _
      have hv := (show Fit zs from Or.inl hc).valid
      rw [takes_pf _ (fun i hi => hv.le i hi)]
      unfold chk cmpr at hc
      rw [if_pos hv] at hc
      by_cases g : 32768 < takes (nat zs)
      · rw [if_pos g] at hc; omega
      · rw [if_neg g] at hc
        by_cases g2 : takes (nat zs) < 32768
        · rw [if_pos g2] at hc; omega
        · omega
    have HV := Lib.hid ((show Fit zs from Or.inl hc).valid)
    have HG := Lib.hid hG
    have HZ := Lib.hid hz
    have HS := Lib.hid hs
    obtain ⟨a0, len0, cap0, rfl, hlen0⟩ := hz.shape
    obtain ⟨a, len, cap, rfl, hlen⟩ := hs.shape
    have hlenb : len ≤ 140737488351232 := by omega
    have hl0 : 0 < len0 := by have := HV.out.1; omega
    have hl9 : len0 ≤ 288 := by have := HV.out.2.1; omega
    have HL0 := Lib.hid hlen0
    have HL := Lib.hid hlen
    obtain ⟨N, hN⟩ : ∃ N : Nat, N = 8 * len := ⟨_, rfl⟩
    have eN : IntKind.i64.wrap (8 * (len : Int)) = (N : Int) := by rw [IntWalk.i64_in _ (by omega)]; omega
    have hN2 : N ≤ 2251799813685248 := by omega
    have HNN := Lib.hid hN
    clear hz hs hlen0 hlen hbl hc hne hG hN
    go_enter Try.func8, Try.ntmps8
    go_wp2_with fail
    refine HC.out.mono ?_
    clear HC
    rintro e w1 ⟨rfl, hb⟩
    have B1 := Lib.hid hb
    clear hb
    go_wp2_with fail
    refine (HNEW.out _ B1.out).mono ?_
    clear HNEW
    rintro e w2 ⟨T, rfl, hT, hb⟩
    obtain ⟨g, capg, _, hTb⟩ := tb_of hT HG.out
    have T2 := Lib.hid hTb
    have B2 := Lib.hid (B1.out.trans (hb.mono B1.out.size))
    obtain ⟨gr, capr, w3, hrun, hs3, hb3⟩ := bytes_run w2 a len cap bs 34 (HS.out.later B2.out) hlenb
    have HRUN := Lib.hid hrun
    have S3 := Lib.hid hs3
    have T3 := Lib.hid (T2.out.below hb3)
    have B3 := Lib.hid (B2.out.trans (hb3.mono B2.out.size))
    clear hT hTb hb hrun hs3 hb3 T2
    go_wp2_with (at_builtin; refine wpList_append_known rfl _ _ 34 rfl _ _ _ _ rfl rfl HRUN.out ?_)
    obtain ⟨wB, hwB⟩ : ∃ wB, wB = w3.alloc (.cells #[.slice (some ⟨gr, 0, none⟩) len capr, .int .i64 (N : Int)] 36) := ⟨_, rfl⟩
    rw [← hwB]
    have XB : Hid (Has wB w3.heap.size (.cells #[.slice (some ⟨gr, 0, none⟩) len capr, .int .i64 (N : Int)] 36)) := by rw [hwB]; exact Has.new _ _
    have SB : Hid (Sl wB (.slice (some ⟨gr, 0, none⟩) len capr) bs) := by rw [hwB]; exact S3.out.later (below1 _ _)
    have TB : Hid (Tb wB T g capg (nat zs)) := by rw [hwB]; exact T3.out.below (below1 _ _)
    have BB : Hid (Below w.heap.size w wB) := by rw [hwB]; exact B3.out.trans ((below1 _ _).mono B3.out.size)
    clear hwB S3 T3 B3 HRUN B1 B2
    have HZB := Lib.hid (HZ.out.later BB.out)
    go_loopw [8] (fun s8 wr => ∃ p : Nat, p ≤ N ∧ p ≤ 500 ∧ s8 = .int .i64 p ∧ Hid (Below wB.heap.size wB wr)) (fun s _ => 400 - (intOf s).toNat)
    case atStart => exact ⟨0, Nat.zero_le _, by omega, rfl, Below.refl _ _⟩
    case round =>
      obtain ⟨p, hp, hp5, rfl, KB⟩ := hrel
      have KX := XB.out.later KB.out
      obtain ⟨c0, c1, _, _⟩ := KX.two
      have ep : IntKind.i64.wrap ((p : Int) + 15) = ((p + 15 : Nat) : Int) := by rw [IntWalk.i64_in _ (by omega)]; omega
      by_cases h1 : p + 15 ≤ N
      · by_cases h2 : p < 400
        · have hlN : Hid (N = (Bs.bitsFrom bs N).length) := by show _ = _; rw [Bs.bitsFrom_length]
          have hpk : Bs.pack (Bs.bitsFrom bs N) = bs := by
            refine Bs.pack_bitsFrom bs N ?_ SB.out.facts.1
            rw [HNN.out, HL.out]
            exact ⟨by omega, Or.inl (by omega)⟩
          obtain ⟨k, hk⟩ := Hf.whole_hit (nat zs) (Bs.bitsFrom bs N) p hpf.out
          obtain ⟨n, hn⟩ : ∃ n, n = Hf.ln (nat zs) (Hf.sy (nat zs) k) := ⟨_, rfl⟩
          have hm := Hf.sy_mem (nat zs) k hk.1
          rw [← hn] at hk hm
          have HRD := Lib.hid (read_hit T g capg (nat zs) HG.out (.slice (some ⟨gr, 0, none⟩) len capr) (Bs.bitsFrom bs N) N p n k wr (TB.out.below KB.out) (by rw [hpk]; exact SB.out.later KB.out) hlN hN2 hk hm.2.1 (by omega))
          obtain ⟨x, hx⟩ : ∃ x, x = Hf.sy (nat zs) k := ⟨_, rfl⟩
          rw [← hx] at HRD hm hn
          have hx0 : x < len0 := by have := hm.1; rw [nat_length] at this; have := HL0.out; omega
          obtain ⟨b, off, rfl, hblt, hq, hcell⟩ := zl_cell HZB.out x (by have := HL0.out; omega)
          have hcell2 : wB.cell? ⟨b, off + x, none⟩ = some (.int .i64 (n : Int)) := by
            rw [hcell, HV.out.get x (by have := HL0.out; omega), hn]; rfl
          have hn1 := hm.2.1
          have hn15 := hm.2.2
          clear hlN hpk hk hn hm hx hcell hq
          have d1 : decide (((p + 15 : Nat) : Int) ≤ (N : Int)) = true := decide_eq_true (by omega)
          have d2 : decide ((p : Int) < 400) = true := decide_eq_true (by omega)
          have d3 : decide ((x : Int) < 0) = false := decide_eq_false (by omega)
          have d4 : decide ((len0 : Int) ≤ (x : Int)) = false := decide_eq_false (by omega)
          have d5 : decide ((len0 : Nat) ≤ x) = false := decide_eq_false (by omega)
          have ep2 : IntKind.i64.wrap ((p : Int) + (n : Int)) = ((p + n : Nat) : Int) := by rw [IntWalk.i64_in _ (by omega)]; omega
          have d6 : decide (((p + n : Nat) : Int) ≤ (p : Int)) = false := decide_eq_false (by omega)
          have i1 : (0 : Int) ≤ (x : Int) := by omega
          have i2 : (x : Int) < (len0 : Int) := by omega
          have hbB : b < wB.heap.size := hblt
          go_wp2_with fail
          refine HRD.out.mono ?_
          rintro e w5 ⟨rfl, hb5⟩
          have hcell5 : w5.cell? ⟨b, off + x, none⟩ = some (.int .i64 (n : Int)) := by rw [hb5.cell (p := ⟨b, off + x, none⟩) (Nat.lt_of_lt_of_le hbB KB.out.size), KB.out.cell (p := ⟨b, off + x, none⟩) hbB]; exact hcell2
          have K5 := Lib.hid (KB.out.trans (hb5.mono KB.out.size))
          clear hcell2 hb5 HRD
          go_wp2
          exact ⟨⟨p + n, by omega, by omega, by go_num, K5.out⟩, by simp [intOf]; omega⟩
        · have d1 : decide (((p + 15 : Nat) : Int) ≤ (N : Int)) = true := decide_eq_true (by omega)
          have d2 : decide ((p : Int) < 400) = false := decide_eq_false (by omega)
          have BE := Lib.hid (BB.out.trans (KB.out.mono BB.out.size))
          go_wp2_with fail
          refine (lives_any _).mono ?_
          rintro e w5 ⟨rfl, hb5⟩
          have B5 := Lib.hid (BE.out.trans (hb5.mono BE.out.size))
          clear hb5
          go_wp2
          go_ret
          exact ⟨rfl, B5.out⟩
      · have d1 : decide (((p + 15 : Nat) : Int) ≤ (N : Int)) = false := decide_eq_false (by omega)
        have BE := Lib.hid (BB.out.trans (KB.out.mono BB.out.size))
        go_wp2_with fail
        refine (lives_any _).mono ?_
        rintro e w5 ⟨rfl, hb5⟩
        have B5 := Lib.hid (BE.out.trans (hb5.mono BE.out.size))
        clear hb5
        go_wp2
        go_ret
        exact ⟨rfl, B5.out⟩
  · obtain ⟨c, hcc⟩ : ∃ c, c = chk zs := ⟨_, rfl⟩
    rw [← hcc] at HC hc
    clear hz hs hbl hcc
    go_enter Try.func8, Try.ntmps8
    go_wp2_with fail
    refine HC.out.mono ?_
    clear HC
    rintro e w1 ⟨rfl, hb⟩
    have B1 := Lib.hid hb
    clear hb
    go_wp2_with fail
    refine (lives_any _).mono ?_
    rintro e w2 ⟨rfl, hb⟩
    have B2 := Lib.hid (B1.out.trans (hb.mono B1.out.size))
    clear hb
    go_wp2
    go_ret
    exact ⟨rfl, B2.out⟩

set_option maxRecDepth 100000 in
theorem huffWhole_lifted (os : Os) (started : os.Started) (H : Type) (enc : TypeId × Value → H) :
    ReturnsInHanded {} Try.checked os 8 .any (Rows.huffWholeSpec.pre6 enc Try.prog Try.f8 Rows.huffWholeRow.domain false) (Rows.huffWholeSpec.post enc Try.prog Try.f8 false true false false) := by
  refine returnsInHanded_of_change_sized (C := Try.checked) Try.own started (by kernel_rfl) Try.func8
    (ChangeSpec.witness6 (enc := enc) (C := Try.checked) false ⟨#[], #[.slice none 0 0, .slice none 0 0], []⟩ 8 (by kernel_rfl) (by kernel_rfl) (by kernel_rfl) (by kernel_rfl)) ?_
  intro W base args ds gs before hval0 hW _ hsz0 _
  have hval : ∀ (j : Nat) t v, Try.f8.params[j]? = some t → args[j]? = some v → Value.okWide Try.prog W .any base t v := hval0
  have hsz : (DataW.weightsEach Try.prog (Try.f8.params.toList ++ Rows.huffWholeSpec.plain.varTypes Try.prog) (ds ++ gs)).all (· ≤ reachBytes) = true := hsz0
  have hW' := hW
  obtain ⟨p, q, hA0, hV, rfl, hfz, hnd⟩ := hW
  have hA : DataW.TrodAll enc Try.prog W 0 (fun _ => true) true Try.f8.params.toList args.toList ds p := hA0
  rw [Try.params8] at hA hval hsz
  obtain ⟨v0, vs0, d0, ds0, p0, q0, hargs, rfl, rfl, h0, r0⟩ := trodAll_cons hA
  obtain ⟨v1, vs1, d1, ds1, p1, q1, rfl, rfl, rfl, h1, r1⟩ := trodAll_cons r0
  obtain ⟨rfl, rfl, rfl⟩ := trodAll_nil r1
  obtain rfl : args = #[v0, v1] := by cases args; simp_all
  obtain ⟨rfl, rfl⟩ := trodVars_none hV
  have k0 := h0
  have lt0 : ∀ x ∈ p0, x.block < W.heap.size := by obtain ⟨m, hm⟩ := k0; exact DataW.trod_lt m _ _ _ hm
  have w0 : ∀ n ∈ d0.weights Try.prog 22, n ≤ reachBytes := fun n hn => by simpa using List.all_eq_true.1 hsz n (DataW.weights_mem_each (j := 0) rfl rfl n hn)
  obtain ⟨zs0, zl0, ln0⟩ := ints_open (hval 0 22 v0 rfl rfl) h0 w0
  have k1 := h1
  have lt1 : ∀ x ∈ p1, x.block < W.heap.size := by obtain ⟨m, hm⟩ := k1; exact DataW.trod_lt m _ _ _ hm
  have w1 : ∀ n ∈ d1.weights Try.prog 34, n ≤ reachBytes := fun n hn => by simpa using List.all_eq_true.1 hsz n (DataW.weights_mem_each (j := 1) rfl rfl n hn)
  obtain ⟨bs1, sl1, ln1⟩ := bytes_open (hval 1 34 v1 rfl rfl) h1 w1
  clear hA0 hval0 hsz0
  refine (huffWhole_walk v0 zs0 v1 bs1 W zl0 ln0 sl1 ln1).mono fun e W' ⟨he, bel⟩ => ?_
  subst he
  exact ⟨_, rfl, _, _, _, [], _, [], hW', trodAll_mk1 (shut_bool Try.underlying4 _), (trodAll_cons_mk (Below.trod Try.laidOut (by kernel_rfl) (of_decide_eq_true (by kernel_rfl)) k0 bel lt0) (trodAll_cons_mk (Below.trod Try.laidOut (by kernel_rfl) (of_decide_eq_true (by kernel_rfl)) k1 bel lt1) trodAll_mk0)), rfl, bel.frame _, fun h => by cases h⟩

theorem huffWhole_proved : Rows.HuffWholeSaid :=
  OpenClaim.holds_of_wide 8 Try.f8 rfl rfl rfl rfl rfl rfl rfl ⟨rfl, rfl, rfl, rfl, rfl⟩ rfl rfl rfl rfl rfl (by kernel_rfl) Try.func8 (by kernel_rfl)
    (of_decide_eq_true (by kernel_rfl)) (by unfold Func.isWrapper; rw [if_neg (of_decide_eq_false (by kernel_rfl))]; exact ⟨rfl, rfl⟩)
    (fun os started H enc _ => huffWhole_lifted os started H enc)
end Go.Proofs.Ytgffcffmhhdceaa
