/- The statement LocksTurns: who waits for a key comes to hold it in the order in which all asked. It holds for every input, without a condition. -/
import Derived.Test.YtoipmdemicdhoaaQlaw
import Derived.Test.YtoipmdemicdhoaaAppk
import Derived.Test.YtoipmdemicdhoaaQtail
import Derived.BigQuiet

namespace Go.Proofs.Ytoipmdemicdhoaa
set_option maxRecDepth 100000
open Go.ChangeShapes Go.WideShapes Go.ChangeAt Go.RowKit

theorem turn_free {s : Qk.St} (who : Int) : s.row.map Prod.fst = Qk.freeN s who ++ (Qk.free s who).row.map Prod.fst := by
  unfold Qk.freeN Qk.free
  by_cases he : Qk.freeE s who = 0
  · rw [if_pos he, if_pos he]
    obtain ⟨_, _, h3⟩ := Qk.prom_len (Qk.left s who.toNat) s.wr s.row
    by_cases hz : (Qk.prom (Qk.left s who.toNat) s.wr s.row).hs = []
    · rw [if_pos hz]
      have hr : (Qk.prom (Qk.left s who.toNat) s.wr s.row).row = [] := by
        rcases (Qk.mid_end (Qk.left s who.toNat) s.wr s.row).2 with h | ⟨c, r, _, h⟩
        · exact h
        · exact absurd hz (Qk.lets_false h)
      rw [hr, List.append_nil] at h3
      rw [← h3]
      simp [Qk.nob]
    · rw [if_neg hz, ← List.map_append, ← h3]
  · rw [if_neg he, if_neg he]; rfl
theorem turn_ask {s : Qk.St} (who : Int) (z : Bool) : (Qk.askB s who z = true ∧ Qk.askE s who = 0 ∧ s.row = [] ∧ (Qk.ask s who z).row = []) ∨ (Qk.askB s who z = false ∧ Qk.askE s who = 0 ∧ 0 ≤ who ∧ (Qk.ask s who z).row.map Prod.fst = s.row.map Prod.fst ++ [who.toNat]) ∨ (Qk.askB s who z = false ∧ Qk.askE s who ≠ 0 ∧ (Qk.ask s who z).row.map Prod.fst = s.row.map Prod.fst) := by
  by_cases he : Qk.askE s who = 0
  · cases hb : Qk.askB s who z with
    | true =>
      have hr := ((Qk.askB_iff s who z).1 hb).2.1
      refine Or.inl ⟨rfl, he, hr, ?_⟩
      unfold Qk.ask; rw [if_pos he, if_pos hb]; exact hr
    | false =>
      refine Or.inr (Or.inl ⟨rfl, he, (Qk.askE_zero he).1, ?_⟩)
      unfold Qk.ask; rw [if_pos he, if_neg (by rw [hb]; decide)]; simp
  · refine Or.inr (Or.inr ⟨askB_err he, he, ?_⟩)
    unfold Qk.ask; rw [if_neg he]
theorem askE_vals (s : Qk.St) (who : Int) : Qk.askE s who = 0 ∨ Qk.askE s who = 2 ∨ Qk.askE s who = 18 := by
  unfold Qk.askE
  split
  · exact Or.inr (Or.inl rfl)
  · split
    · exact Or.inr (Or.inr rfl)
    · exact Or.inl rfl

set_option maxRecDepth 100000 in
set_option maxHeartbeats 16000000 in
theorem locksTurns_walk (v : Value) (acs : List QAc) (W : World) (ha : QActs W v acs) :
    Calls Try.prog 5 #[v] W fun e w' => e = .returned (.bool true) ∧ Below W.heap.size W w' := by
  obtain ⟨aa, cap, rfl, hcp, hl9⟩ := ha.shape
  have HN := Lib.hid (new_any W)
  have HFW := Lib.hid (fun w' hb => few_any (.slice aa acs.length cap) acs W w' ha hb)
  have HAT := Lib.hid (fun (h0 : 0 < acs.length) => ha.at h0)
  obtain ⟨n, hn⟩ : ∃ n, n = acs.length := ⟨_, rfl⟩
  have HNN := Lib.hid hn
  rw [← hn] at HFW hcp hl9 ⊢
  clear ha hn
  go_enter Try.func5, Try.ntmps5
  go_wp2_with fail
  refine HN.out.mono ?_
  rintro e W0 ⟨b, D0, rfl, hl0, hb0, hd0⟩
  have HL0 : Hid (Lw W W0 b D0 (fun _ => Qk.nob)) := ⟨hl0, hb0, hd0⟩
  have HF0 := Lib.hid (HFW.out W0 hb0)
  clear HN hl0 hb0 hd0 HFW
  by_cases hfew : fewQ acs = true
  · rw [hfew] at HF0
    have HLN := Lib.hid (fewQ_len hfew)
    have HKY := Lib.hid (fun i (a : QAc) (h : acs[i]? = some a) => fewQ_key hfew h)
    clear hfew
    go_wp2_with fail
    refine HF0.out.mono ?_
    rintro e W0 ⟨rfl, rfl⟩
    clear HF0
    go_wp2
    go_loopw [4, 5, 6, 7, 8, 9, 10, 11, 12, 13] (fun s4 s5 s6 s7 s8 s9 s10 s11 s12 s13 wr => ∃ (i : Nat) (D : Nat → Prop) (s : Qk.Sts), s4 = .int .i64 (i : Int) ∧ i ≤ n ∧ Hid (Lw W wr b D s)) (fun s4 s5 s6 s7 s8 s9 s10 s11 s12 s13 _ => n - (intOf s4).toNat)
    case atStart => exact ⟨0, D0, _, rfl, Nat.zero_le _, HL0⟩
    case round =>
      obtain ⟨i, D, s, rfl, hin, HL⟩ := hrel
      by_cases hlt : i < n
      · obtain ⟨bb, off, rfl, hbl, hq⟩ := HAT.out (by rw [← HNN.out]; omega)
        obtain ⟨ac, hac⟩ : ∃ ac : QAc, acs[i]? = some ac := ⟨acs[i]'(by rw [← HNN.out]; exact hlt), List.getElem?_eq_getElem _⟩
        have hky := HKY.out i ac hac
        have hA := hq wr HL.out.bel i ac hac
        have HQA : Hid (∀ w', Below W.heap.size W w' → QAt w' bb (off + i * 4) ac) := fun w' hb => hq w' hb i ac hac
        have HKL := Lib.hid (show ac.key.size ≤ 1000 by omega)
        have hl100 := HLN.out
        have hi9 : i + 1 ≤ 9223372036854775807 := by rw [← HNN.out] at hl100; omega
        obtain ⟨fr, who, K, z⟩ := ac
        have c2 := hA.key
        dsimp only at c2 HKL
        have CW := Lib.hid (waits_any wr b D s K HKL.out HL.out.k)
        clear hq hac hky hA
        go_wp2_with fail
        refine CW.out.mono ?_
        rintro e w1 ⟨wv, rfl, ho1, hb1⟩
        have HL1 := Lib.hid (HL.out.later hb1)
        have HV := Lib.hid (Lst.new (xs := (s K).row.map Prod.fst) ho1 rfl HL.out.k.lt)
        obtain ⟨aw, cw, hwE⟩ := HV.out.shape
        subst hwE
        have hle0 := (HL1.out.k.good K).le
        clear ho1 hb1 CW c2 HL
        have q1 := HQA.out w1 HL1.out.bel
        have c0 := q1.fr
        dsimp only at c0
        obtain ⟨ws, hws⟩ : ∃ x, x = (s K).row.map Prod.fst := ⟨_, rfl⟩
        have hwl8 : ws.length ≤ 8 := by rw [hws, List.length_map]; omega
        have hws0 := hws
        have HWS := Lib.hid hws0
        rw [← hws] at HV
        rw [← hws]
        clear hle0 q1
        cases fr with
        | true =>
          have HR1 : Hid (∀ W', W' = w1.drew → W'.cell? ⟨bb, off + i * 4 + 1, none⟩ = some (.int .i64 who) ∧ W'.cell? ⟨bb, off + i * 4 + 2, none⟩ = some (.string K)) := fun W' hW' => by
            rw [hW']
            have q := HQA.out w1 HL1.out.bel
            exact ⟨q.who, q.key⟩
          have CF := Lib.hid (fun W' (hW' : W' = w1.drew) => freeA_any W' b D s K HKL.out who (by rw [hW']; exact HL1.out.k.later (Below.refl _ _).drew))
          obtain ⟨wl, hwl⟩ : ∃ x, x = ws.length := ⟨_, rfl⟩
          rw [← hwl]
          have HWL := Lib.hid hwl
          have hwl9 : wl ≤ 8 := by rw [hwl]; exact hwl8
          clear hws hws0 hwl hwl8
          go_wp2_with fail
          obtain ⟨c1, c2⟩ := HR1.out w1.drew rfl
          have CF2 := Lib.hid (CF.out w1.drew rfl)
          clear HR1 CF c0
          refine wp_region_held_drew (S := fun wx => wx.cell? ⟨bb, off + i * 4 + 1, none⟩ = some (.int .i64 who) ∧ wx.cell? ⟨bb, off + i * 4 + 2, none⟩ = some (.string K)) (by kernel_rfl) ⟨c1, c2⟩ (fun _ => ?_)
          change wpAnyH _ _ _ _ _ 17 (Array.replicate 17 false) _ _
          refine wpAnyH_take (i := 0) (v := ?_) rfl (by kernel_rfl) (by kernel_rfl) (by kernel_rfl) (fun _ _ _ h => h) (Or.inl ⟨rfl, ?hy0⟩) ⟨c1, c2⟩ ?_
          case hy0 => intro w' hw'; clear hw'; go_simp; first | done | rfl
          try simp only [Act.put, List.getElem_toArray, List.getElem_cons_zero, List.setIfInBounds_toArray, List.set_cons_zero, List.set_cons_succ]
          refine wpAnyH_take (i := 1) (v := ?_) rfl (by kernel_rfl) (by kernel_rfl) (by kernel_rfl) (fun _ _ _ h => h) (Or.inl ⟨rfl, ?hy1⟩) ⟨c1, c2⟩ ?_
          case hy1 => intro w' hw'; clear hw'; go_simp; first | done | rfl
          try simp only [Act.put, List.getElem_toArray, List.getElem_cons_zero, List.getElem_cons_succ, List.setIfInBounds_toArray, List.set_cons_zero, List.set_cons_succ]
          refine wpAnyH_take (i := 2) (v := ?_) rfl (by kernel_rfl) (by kernel_rfl) (by kernel_rfl) (fun _ _ _ h => h) (Or.inl ⟨rfl, ?hy2⟩) ⟨c1, c2⟩ ?_
          case hy2 => intro w' hw'; clear hw'; go_simp; first | done | rfl
          try simp only [Act.put, List.getElem_toArray, List.getElem_cons_zero, List.getElem_cons_succ, List.setIfInBounds_toArray, List.set_cons_zero, List.set_cons_succ]
          refine wpAnyH_take (i := 3) (v := ?_) rfl (by kernel_rfl) (by kernel_rfl) (by kernel_rfl) (fun _ _ _ h => h) (Or.inl ⟨rfl, ?hy3⟩) ⟨c1, c2⟩ ?_
          case hy3 => intro w' hw'; clear hw'; go_simp; first | done | rfl
          try simp only [Act.put, List.getElem_toArray, List.getElem_cons_zero, List.getElem_cons_succ, List.setIfInBounds_toArray, List.set_cons_zero, List.set_cons_succ]
          refine wpAnyH_take (i := 4) (v := ?_) rfl (by kernel_rfl) (by kernel_rfl) (by kernel_rfl) (fun _ _ _ h => h) (Or.inl ⟨rfl, ?hy4⟩) ⟨c1, c2⟩ ?_
          case hy4 => intro w' hw'; clear hw'; go_simp; first | done | rfl
          try simp only [Act.put, List.getElem_toArray, List.getElem_cons_zero, List.getElem_cons_succ, List.setIfInBounds_toArray, List.set_cons_zero, List.set_cons_succ]
          refine wpAnyH_take (i := 5) (v := ?_) rfl (by kernel_rfl) (by kernel_rfl) (by kernel_rfl) (fun _ _ _ h => h) (Or.inl ⟨rfl, ?hy5⟩) ⟨c1, c2⟩ ?_
          case hy5 => intro w' hw'; obtain ⟨e0, e1⟩ := (show w'.cell? ⟨bb, off + i * 4 + 1, none⟩ = some (.int .i64 who) ∧ w'.cell? ⟨bb, off + i * 4 + 2, none⟩ = some (.string K) from hw'); clear hw'; go_simp; first | done | rfl
          try simp only [Act.put, List.getElem_toArray, List.getElem_cons_zero, List.getElem_cons_succ, List.setIfInBounds_toArray, List.set_cons_zero, List.set_cons_succ]
          refine wpAnyH_take (i := 6) (v := ?_) rfl (by kernel_rfl) (by kernel_rfl) (by kernel_rfl) (fun _ _ _ h => h) (Or.inl ⟨rfl, ?hy6⟩) ⟨c1, c2⟩ ?_
          case hy6 => intro w' hw'; clear hw'; go_simp; first | done | rfl
          try simp only [Act.put, List.getElem_toArray, List.getElem_cons_zero, List.getElem_cons_succ, List.setIfInBounds_toArray, List.set_cons_zero, List.set_cons_succ]
          refine wpAnyH_take (i := 7) (v := ?_) rfl (by kernel_rfl) (by kernel_rfl) (by kernel_rfl) (fun _ _ _ h => h) (Or.inl ⟨rfl, ?hy7⟩) ⟨c1, c2⟩ ?_
          case hy7 => intro w' hw'; clear hw'; go_simp; first | done | rfl
          try simp only [Act.put, List.getElem_toArray, List.getElem_cons_zero, List.getElem_cons_succ, List.setIfInBounds_toArray, List.set_cons_zero, List.set_cons_succ]
          refine wpAnyH_take (i := 8) (v := ?_) rfl (by kernel_rfl) (by kernel_rfl) (by kernel_rfl) (fun _ _ _ h => h) (Or.inl ⟨rfl, ?hy8⟩) ⟨c1, c2⟩ ?_
          case hy8 => intro w' hw'; clear hw'; go_simp; first | done | rfl
          try simp only [Act.put, List.getElem_toArray, List.getElem_cons_zero, List.getElem_cons_succ, List.setIfInBounds_toArray, List.set_cons_zero, List.set_cons_succ]
          refine wpAnyH_take (i := 9) (v := ?_) rfl (by kernel_rfl) (by kernel_rfl) (by kernel_rfl) (fun _ _ _ h => h) (Or.inl ⟨rfl, ?hy9⟩) ⟨c1, c2⟩ ?_
          case hy9 => intro w' hw'; clear hw'; go_simp; first | done | rfl
          try simp only [Act.put, List.getElem_toArray, List.getElem_cons_zero, List.getElem_cons_succ, List.setIfInBounds_toArray, List.set_cons_zero, List.set_cons_succ]
          refine wpAnyH_take (i := 10) (v := ?_) rfl (by kernel_rfl) (by kernel_rfl) (by kernel_rfl) (fun _ _ _ h => h) (Or.inl ⟨rfl, ?hy10⟩) ⟨c1, c2⟩ ?_
          case hy10 => intro w' hw'; obtain ⟨e0, e1⟩ := (show w'.cell? ⟨bb, off + i * 4 + 1, none⟩ = some (.int .i64 who) ∧ w'.cell? ⟨bb, off + i * 4 + 2, none⟩ = some (.string K) from hw'); clear hw'; go_simp; first | done | rfl
          try simp only [Act.put, List.getElem_toArray, List.getElem_cons_zero, List.getElem_cons_succ, List.setIfInBounds_toArray, List.set_cons_zero, List.set_cons_succ]
          refine wpAnyH_ready (rs := [11]) (by kernel_rfl) (by simp) ?_
          refine AllReadyH.cons rfl (fun K hK => ?_) AllReadyH.nil
          go_simp
          refine (CF2.out).mono ?_
          rintro e w3 ⟨nv, D3, rfl, ho3, hk3, hn3, hd3⟩
          have hn3' : Nxt D w1 D3 w3 := (Nxt.below (Below.refl _ w1).drew).trans hn3
          have HL3 := Lib.hid (HL1.out.nxt hk3 hn3')
          have g1 := (HQA.out w3 HL3.out.bel).who
          have g2 := (HQA.out w3 HL3.out.bel).key
          dsimp only at g1 g2
          dsimp only
          refine hK.out _ _ ⟨g1, g2⟩ (fun _ => ?_)
          clear hK K
          try simp only [Act.put, List.getElem_toArray, List.getElem_cons_zero, List.getElem_cons_succ, List.setIfInBounds_toArray, List.set_cons_zero, List.set_cons_succ]
          refine wpAnyH_take (i := 12) (v := ?_) rfl (by kernel_rfl) (by kernel_rfl) (by kernel_rfl) (fun _ _ _ h => h) (Or.inl ⟨rfl, ?hy12⟩) ⟨g1, g2⟩ ?_
          case hy12 => intro w' hw'; clear hw'; go_simp; first | done | rfl
          try simp only [Act.put, List.getElem_toArray, List.getElem_cons_zero, List.getElem_cons_succ, List.setIfInBounds_toArray, List.set_cons_zero, List.set_cons_succ]
          refine wpAnyH_take (i := 13) (v := ?_) rfl (by kernel_rfl) (by kernel_rfl) (by kernel_rfl) (fun _ _ _ h => h) (Or.inl ⟨rfl, ?hy13⟩) ⟨g1, g2⟩ ?_
          case hy13 => intro w' hw'; clear hw'; go_simp; first | done | rfl
          try simp only [Act.put, List.getElem_toArray, List.getElem_cons_zero, List.getElem_cons_succ, List.setIfInBounds_toArray, List.set_cons_zero, List.set_cons_succ]
          refine wpAnyH_take (i := 14) (v := ?_) rfl (by kernel_rfl) (by kernel_rfl) (by kernel_rfl) (fun _ _ _ h => h) (Or.inl ⟨rfl, ?hy14⟩) ⟨g1, g2⟩ ?_
          case hy14 => intro w' hw'; clear hw'; go_simp; first | done | rfl
          try simp only [Act.put, List.getElem_toArray, List.getElem_cons_zero, List.getElem_cons_succ, List.setIfInBounds_toArray, List.set_cons_zero, List.set_cons_succ]
          refine wpAnyH_take (i := 15) (v := ?_) rfl (by kernel_rfl) (by kernel_rfl) (by kernel_rfl) (fun _ _ _ h => h) (Or.inl ⟨rfl, ?hy15⟩) ⟨g1, g2⟩ ?_
          case hy15 => intro w' hw'; clear hw'; go_simp; first | done | rfl
          try simp only [Act.put, List.getElem_toArray, List.getElem_cons_zero, List.getElem_cons_succ, List.setIfInBounds_toArray, List.set_cons_zero, List.set_cons_succ]
          refine wpAnyH_take (i := 16) (v := ?_) rfl (by kernel_rfl) (by kernel_rfl) (by kernel_rfl) (fun _ _ _ h => h) (Or.inl ⟨rfl, ?hy16⟩) ⟨g1, g2⟩ ?_
          case hy16 => intro w' hw'; clear hw'; go_simp; first | done | rfl
          try simp only [Act.put, List.getElem_toArray, List.getElem_cons_zero, List.getElem_cons_succ, List.setIfInBounds_toArray, List.set_cons_zero, List.set_cons_succ]
          refine wpAnyH_done (by kernel_rfl) ?_ _
          have HV3 := Lib.hid (HV.out.nxt hn3')
          have HN3 : Hid (Lst w3 D3 nv (Qk.freeN (s K) who)) := ⟨World.ownsRow.mono ho3 (Nat.zero_le _), hd3⟩
          obtain ⟨an, cn, hnE⟩ := HN3.out.shape
          subst hnE
          have HTF := Lib.hid (turn_free (s := s K) who)
          obtain ⟨s3, hs3⟩ : ∃ x, x = Qk.upd s K (Qk.free (s K) who) := ⟨_, rfl⟩
          have hs3K : s3 K = Qk.free (s K) who := by rw [hs3, Qk.upd_same]
          rw [← hs3] at HL3
          have q3 := (HQA.out w3 HL3.out.bel).key
          dsimp only at q3
          have CW := Lib.hid (waits_any w3 b D3 s3 K HKL.out HL3.out.k)
          rw [hs3K] at CW
          obtain ⟨ns, hns⟩ : ∃ x, x = Qk.freeN (s K) who := ⟨_, rfl⟩
          obtain ⟨ls, hls⟩ : ∃ x, x = (Qk.free (s K) who).row.map Prod.fst := ⟨_, rfl⟩
          rw [← hns] at HN3 HTF
          rw [← hns]
          unfold WaitsP at CW
          rw [← HWS.out, ← hls] at HTF
          rw [← hls] at CW
          generalize Qk.freeE (s K) who = fe at *
          clear ho3 hk3 hn3 hd3 hn3' CF2 c1 c2 g1 g2 hs3 hs3K HL1 HV hns hls HQA HWS
          go_wp2_with fail
          refine CW.out.mono ?_
          rintro e w4 ⟨lv, rfl, ho4, hb4⟩
          have HL4 := Lib.hid (HL3.out.later hb4)
          have HV4 := Lib.hid (HV3.out.later hb4)
          have HN4 := Lib.hid (HN3.out.later hb4)
          have HE4 := Lib.hid (Lst.new (xs := ls) ho4 rfl HL3.out.k.lt)
          obtain ⟨al, cl, hlE⟩ := HE4.out.shape
          subst hlE
          clear ho4 hb4 CW q3 HL3 HV3 HN3
          obtain ⟨nl, hnl⟩ : ∃ x, x = ns.length := ⟨_, rfl⟩
          obtain ⟨ll, hll⟩ : ∃ x, x = ls.length := ⟨_, rfl⟩
          have hsum : wl = nl + ll := by rw [HWL.out, HTF.out, List.length_append, hnl, hll]
          have HRW : Hid (∀ j, j < wl → ∃ g, aw = some ⟨g, 0, none⟩ ∧ wl ≤ cw ∧ w4.cell? ⟨g, j, none⟩ = some (.int .i64 ((ws[j]?.getD 0 : Nat) : Int))) := fun j hj => by
            have h9 := HV4.out.1
            rw [← HWL.out] at h9
            obtain ⟨g, e, hc, hr⟩ := qn_cells h9 (by omega)
            exact ⟨g, e, hc, hr j hj⟩
          have HRN : Hid (∀ j, j < nl → ∃ g, an = some ⟨g, 0, none⟩ ∧ nl ≤ cn ∧ w4.cell? ⟨g, j, none⟩ = some (.int .i64 ((ws[j]?.getD 0 : Nat) : Int))) := fun j hj => by
            have h9 := HN4.out.1
            rw [← hnl] at h9
            obtain ⟨g, e, hc, hr⟩ := qn_cells h9 (by omega)
            refine ⟨g, e, hc, ?_⟩
            rw [HTF.out, List.getElem?_append_left (by omega)]
            exact hr j hj
          have HRL : Hid (∀ j, nl ≤ j → j < wl → ∃ g, al = some ⟨g, 0, none⟩ ∧ ll ≤ cl ∧ w4.cell? ⟨g, j - nl, none⟩ = some (.int .i64 ((ws[j]?.getD 0 : Nat) : Int))) := fun j hj1 hj => by
            have h9 := HE4.out.1
            rw [← hll] at h9
            obtain ⟨g, e, hc, hr⟩ := qn_cells h9 (by omega)
            refine ⟨g, e, hc, ?_⟩
            rw [HTF.out, List.getElem?_append_right (by omega), ← hnl]
            exact hr (j - nl) (by omega)
          rw [← hnl, ← hll]
          clear HV4 HN4 HE4 HTF HWL hnl hll
          have e1 : IntKind.i64.wrap ((nl : Int) + (ll : Int)) = (wl : Int) := by rw [IntWalk.i64_in _ (by omega)]; omega
          have e2 : ((wl : Int) != (wl : Int)) = false := by simp
          have HSM := Lib.hid hsum
          clear hsum
          go_wp2
          clear e1
          go_loopw [9] (fun s9 wq => ∃ k q : Nat, s9 = .int .i64 (k : Int) ∧ k ≤ wl ∧ wq = w4.drewN q) (fun s9 _ => wl - (intOf s9).toNat)
          case atStart => exact ⟨0, 0, rfl, Nat.zero_le _, rfl⟩
          case round =>
            obtain ⟨k, q, rfl, hk, rfl⟩ := hrel
            by_cases hkw : k < wl
            · obtain ⟨g1, rfl, hc1, r1⟩ := HRW.out k hkw
              obtain ⟨x, hx⟩ : ∃ x, x = ws[k]?.getD 0 := ⟨_, rfl⟩
              rw [← hx] at r1
              have exx : ((x : Int) != (x : Int)) = false := by simp
              have sm : IntKind.i64.wrap ((k : Int) + 1) = ((k + 1 : Nat) : Int) := by rw [IntWalk.i64_in _ (by omega)]; omega
              by_cases hkn : k < nl
              · obtain ⟨g2, rfl, hc2, r2⟩ := HRN.out k hkn
                rw [← hx] at r2
                have d1 : decide ((k : Int) < (nl : Int)) = true := decide_eq_true (by omega)
                have d2 : decide ((k : Int) ≥ (nl : Int)) = false := decide_eq_false (by omega)
                have d3 : decide (k < nl) = true := decide_eq_true hkn
                have d4 : decide (nl ≤ k) = false := decide_eq_false (by omega)
                clear hx HRW HRN HRL HSM
                go_wp2
                go_quiet (fail)
                go_wp2
                exact ⟨⟨k + 1, _, by first | rfl | trivial | simp, by omega, by first | rfl | trivial⟩, by simp [intOf]; omega⟩
              · obtain ⟨g2, rfl, hc2, r2⟩ := HRL.out k (by omega) hkw
                rw [← hx] at r2
                obtain ⟨kn, hkn2⟩ : ∃ y, y = k - nl := ⟨_, rfl⟩
                rw [← hkn2] at r2
                have hsb : IntKind.i64.wrap ((k : Int) - (nl : Int)) = (kn : Int) := by rw [IntWalk.i64_in _ (by omega)]; omega
                have hkl : kn < ll := by have := HSM.out; omega
                have d1 : decide ((k : Int) < (nl : Int)) = false := decide_eq_false (by omega)
                have d2 : decide ((k : Int) ≥ (nl : Int)) = true := decide_eq_true (by omega)
                have d3 : decide (k < nl) = false := decide_eq_false hkn
                have d4 : decide (nl ≤ k) = true := decide_eq_true (by omega)
                clear hx HRW HRN HRL HSM hkn2
                go_wp2
                go_quiet (fail)
                go_wp2
                exact ⟨⟨k + 1, _, by first | rfl | trivial | simp, by omega, by first | rfl | trivial⟩, by simp [intOf]; omega⟩
            · obtain rfl : k = wl := by omega
              have HLE := Lib.hid (HL4.out.later (below_drewN (Below.refl _ _) q))
              clear HRW HRN HRL HSM
              go_wp2
              exact ⟨⟨i + 1, D3, s3, by first | rfl | simp, by omega, HLE⟩, by simp [intOf]; omega⟩
        | false =>
          have HR1 : Hid (∀ W', W' = w1.drew → W'.cell? ⟨bb, off + i * 4 + 1, none⟩ = some (.int .i64 who) ∧ W'.cell? ⟨bb, off + i * 4 + 2, none⟩ = some (.string K) ∧ W'.cell? ⟨bb, off + i * 4 + 3, none⟩ = some (.bool z)) := fun W' hW' => by
            rw [hW']
            have q := HQA.out w1 HL1.out.bel
            exact ⟨q.who, q.key, q.wr⟩
          have CF := Lib.hid (fun W' (hW' : W' = w1.drew) => ask_any W' b D s K HKL.out who z (by rw [hW']; exact HL1.out.k.later (Below.refl _ _).drew))
          obtain ⟨wl, hwl⟩ : ∃ x, x = ws.length := ⟨_, rfl⟩
          rw [← hwl]
          have HWL := Lib.hid hwl
          have hwl9 : wl ≤ 8 := by rw [hwl]; exact hwl8
          clear hws hws0 hwl hwl8
          go_wp2_with fail
          obtain ⟨c1, c2, c3⟩ := HR1.out w1.drew rfl
          have CF2 := Lib.hid (CF.out w1.drew rfl)
          clear HR1 CF c0
          refine wp_region_held_drew (S := fun wx => wx.cell? ⟨bb, off + i * 4 + 1, none⟩ = some (.int .i64 who) ∧ wx.cell? ⟨bb, off + i * 4 + 2, none⟩ = some (.string K) ∧ wx.cell? ⟨bb, off + i * 4 + 3, none⟩ = some (.bool z)) (by kernel_rfl) ⟨c1, c2, c3⟩ (fun _ => ?_)
          change wpAnyH _ _ _ _ _ 22 (Array.replicate 22 false) _ _
          refine wpAnyH_take (i := 0) (v := ?_) rfl (by kernel_rfl) (by kernel_rfl) (by kernel_rfl) (fun _ _ _ h => h) (Or.inl ⟨rfl, ?hy0⟩) ⟨c1, c2, c3⟩ ?_
          case hy0 => intro w' hw'; clear hw'; go_simp; first | done | rfl
          try simp only [Act.put, List.getElem_toArray, List.getElem_cons_zero, List.setIfInBounds_toArray, List.set_cons_zero, List.set_cons_succ]
          refine wpAnyH_take (i := 1) (v := ?_) rfl (by kernel_rfl) (by kernel_rfl) (by kernel_rfl) (fun _ _ _ h => h) (Or.inl ⟨rfl, ?hy1⟩) ⟨c1, c2, c3⟩ ?_
          case hy1 => intro w' hw'; clear hw'; go_simp; first | done | rfl
          try simp only [Act.put, List.getElem_toArray, List.getElem_cons_zero, List.getElem_cons_succ, List.setIfInBounds_toArray, List.set_cons_zero, List.set_cons_succ]
          refine wpAnyH_take (i := 2) (v := ?_) rfl (by kernel_rfl) (by kernel_rfl) (by kernel_rfl) (fun _ _ _ h => h) (Or.inl ⟨rfl, ?hy2⟩) ⟨c1, c2, c3⟩ ?_
          case hy2 => intro w' hw'; clear hw'; go_simp; first | done | rfl
          try simp only [Act.put, List.getElem_toArray, List.getElem_cons_zero, List.getElem_cons_succ, List.setIfInBounds_toArray, List.set_cons_zero, List.set_cons_succ]
          refine wpAnyH_take (i := 3) (v := ?_) rfl (by kernel_rfl) (by kernel_rfl) (by kernel_rfl) (fun _ _ _ h => h) (Or.inl ⟨rfl, ?hy3⟩) ⟨c1, c2, c3⟩ ?_
          case hy3 => intro w' hw'; clear hw'; go_simp; first | done | rfl
          try simp only [Act.put, List.getElem_toArray, List.getElem_cons_zero, List.getElem_cons_succ, List.setIfInBounds_toArray, List.set_cons_zero, List.set_cons_succ]
          refine wpAnyH_take (i := 4) (v := ?_) rfl (by kernel_rfl) (by kernel_rfl) (by kernel_rfl) (fun _ _ _ h => h) (Or.inl ⟨rfl, ?hy4⟩) ⟨c1, c2, c3⟩ ?_
          case hy4 => intro w' hw'; clear hw'; go_simp; first | done | rfl
          try simp only [Act.put, List.getElem_toArray, List.getElem_cons_zero, List.getElem_cons_succ, List.setIfInBounds_toArray, List.set_cons_zero, List.set_cons_succ]
          refine wpAnyH_take (i := 5) (v := ?_) rfl (by kernel_rfl) (by kernel_rfl) (by kernel_rfl) (fun _ _ _ h => h) (Or.inl ⟨rfl, ?hy5⟩) ⟨c1, c2, c3⟩ ?_
          case hy5 => intro w' hw'; obtain ⟨e0, e1, e2⟩ := (show w'.cell? ⟨bb, off + i * 4 + 1, none⟩ = some (.int .i64 who) ∧ w'.cell? ⟨bb, off + i * 4 + 2, none⟩ = some (.string K) ∧ w'.cell? ⟨bb, off + i * 4 + 3, none⟩ = some (.bool z) from hw'); clear hw'; go_simp; first | done | rfl
          try simp only [Act.put, List.getElem_toArray, List.getElem_cons_zero, List.getElem_cons_succ, List.setIfInBounds_toArray, List.set_cons_zero, List.set_cons_succ]
          refine wpAnyH_take (i := 6) (v := ?_) rfl (by kernel_rfl) (by kernel_rfl) (by kernel_rfl) (fun _ _ _ h => h) (Or.inl ⟨rfl, ?hy6⟩) ⟨c1, c2, c3⟩ ?_
          case hy6 => intro w' hw'; clear hw'; go_simp; first | done | rfl
          try simp only [Act.put, List.getElem_toArray, List.getElem_cons_zero, List.getElem_cons_succ, List.setIfInBounds_toArray, List.set_cons_zero, List.set_cons_succ]
          refine wpAnyH_take (i := 7) (v := ?_) rfl (by kernel_rfl) (by kernel_rfl) (by kernel_rfl) (fun _ _ _ h => h) (Or.inl ⟨rfl, ?hy7⟩) ⟨c1, c2, c3⟩ ?_
          case hy7 => intro w' hw'; clear hw'; go_simp; first | done | rfl
          try simp only [Act.put, List.getElem_toArray, List.getElem_cons_zero, List.getElem_cons_succ, List.setIfInBounds_toArray, List.set_cons_zero, List.set_cons_succ]
          refine wpAnyH_take (i := 8) (v := ?_) rfl (by kernel_rfl) (by kernel_rfl) (by kernel_rfl) (fun _ _ _ h => h) (Or.inl ⟨rfl, ?hy8⟩) ⟨c1, c2, c3⟩ ?_
          case hy8 => intro w' hw'; clear hw'; go_simp; first | done | rfl
          try simp only [Act.put, List.getElem_toArray, List.getElem_cons_zero, List.getElem_cons_succ, List.setIfInBounds_toArray, List.set_cons_zero, List.set_cons_succ]
          refine wpAnyH_take (i := 9) (v := ?_) rfl (by kernel_rfl) (by kernel_rfl) (by kernel_rfl) (fun _ _ _ h => h) (Or.inl ⟨rfl, ?hy9⟩) ⟨c1, c2, c3⟩ ?_
          case hy9 => intro w' hw'; clear hw'; go_simp; first | done | rfl
          try simp only [Act.put, List.getElem_toArray, List.getElem_cons_zero, List.getElem_cons_succ, List.setIfInBounds_toArray, List.set_cons_zero, List.set_cons_succ]
          refine wpAnyH_take (i := 10) (v := ?_) rfl (by kernel_rfl) (by kernel_rfl) (by kernel_rfl) (fun _ _ _ h => h) (Or.inl ⟨rfl, ?hy10⟩) ⟨c1, c2, c3⟩ ?_
          case hy10 => intro w' hw'; obtain ⟨e0, e1, e2⟩ := (show w'.cell? ⟨bb, off + i * 4 + 1, none⟩ = some (.int .i64 who) ∧ w'.cell? ⟨bb, off + i * 4 + 2, none⟩ = some (.string K) ∧ w'.cell? ⟨bb, off + i * 4 + 3, none⟩ = some (.bool z) from hw'); clear hw'; go_simp; first | done | rfl
          try simp only [Act.put, List.getElem_toArray, List.getElem_cons_zero, List.getElem_cons_succ, List.setIfInBounds_toArray, List.set_cons_zero, List.set_cons_succ]
          refine wpAnyH_take (i := 11) (v := ?_) rfl (by kernel_rfl) (by kernel_rfl) (by kernel_rfl) (fun _ _ _ h => h) (Or.inl ⟨rfl, ?hy11⟩) ⟨c1, c2, c3⟩ ?_
          case hy11 => intro w' hw'; clear hw'; go_simp; first | done | rfl
          try simp only [Act.put, List.getElem_toArray, List.getElem_cons_zero, List.getElem_cons_succ, List.setIfInBounds_toArray, List.set_cons_zero, List.set_cons_succ]
          refine wpAnyH_take (i := 12) (v := ?_) rfl (by kernel_rfl) (by kernel_rfl) (by kernel_rfl) (fun _ _ _ h => h) (Or.inl ⟨rfl, ?hy12⟩) ⟨c1, c2, c3⟩ ?_
          case hy12 => intro w' hw'; clear hw'; go_simp; first | done | rfl
          try simp only [Act.put, List.getElem_toArray, List.getElem_cons_zero, List.getElem_cons_succ, List.setIfInBounds_toArray, List.set_cons_zero, List.set_cons_succ]
          refine wpAnyH_take (i := 13) (v := ?_) rfl (by kernel_rfl) (by kernel_rfl) (by kernel_rfl) (fun _ _ _ h => h) (Or.inl ⟨rfl, ?hy13⟩) ⟨c1, c2, c3⟩ ?_
          case hy13 => intro w' hw'; clear hw'; go_simp; first | done | rfl
          try simp only [Act.put, List.getElem_toArray, List.getElem_cons_zero, List.getElem_cons_succ, List.setIfInBounds_toArray, List.set_cons_zero, List.set_cons_succ]
          refine wpAnyH_take (i := 14) (v := ?_) rfl (by kernel_rfl) (by kernel_rfl) (by kernel_rfl) (fun _ _ _ h => h) (Or.inl ⟨rfl, ?hy14⟩) ⟨c1, c2, c3⟩ ?_
          case hy14 => intro w' hw'; clear hw'; go_simp; first | done | rfl
          try simp only [Act.put, List.getElem_toArray, List.getElem_cons_zero, List.getElem_cons_succ, List.setIfInBounds_toArray, List.set_cons_zero, List.set_cons_succ]
          refine wpAnyH_take (i := 15) (v := ?_) rfl (by kernel_rfl) (by kernel_rfl) (by kernel_rfl) (fun _ _ _ h => h) (Or.inl ⟨rfl, ?hy15⟩) ⟨c1, c2, c3⟩ ?_
          case hy15 => intro w' hw'; obtain ⟨e0, e1, e2⟩ := (show w'.cell? ⟨bb, off + i * 4 + 1, none⟩ = some (.int .i64 who) ∧ w'.cell? ⟨bb, off + i * 4 + 2, none⟩ = some (.string K) ∧ w'.cell? ⟨bb, off + i * 4 + 3, none⟩ = some (.bool z) from hw'); clear hw'; go_simp; first | done | rfl
          try simp only [Act.put, List.getElem_toArray, List.getElem_cons_zero, List.getElem_cons_succ, List.setIfInBounds_toArray, List.set_cons_zero, List.set_cons_succ]
          refine wpAnyH_ready (rs := [16]) (by kernel_rfl) (by simp) ?_
          refine AllReadyH.cons rfl (fun K hK => ?_) AllReadyH.nil
          go_simp
          refine (CF2.out).mono ?_
          rintro e w3 ⟨D3, rfl, hk3, hn3⟩
          have hn3' : Nxt D w1 D3 w3 := (Nxt.below (Below.refl _ w1).drew).trans hn3
          have HL3 := Lib.hid (HL1.out.nxt hk3 hn3')
          have g1 := (HQA.out w3 HL3.out.bel).who
          have g2 := (HQA.out w3 HL3.out.bel).key
          have g3 := (HQA.out w3 HL3.out.bel).wr
          dsimp only at g1 g2 g3
          dsimp only
          refine hK.out _ _ ⟨g1, g2, g3⟩ (fun _ => ?_)
          clear hK K
          try simp only [Act.put, List.getElem_toArray, List.getElem_cons_zero, List.getElem_cons_succ, List.setIfInBounds_toArray, List.set_cons_zero, List.set_cons_succ]
          refine wpAnyH_take (i := 17) (v := ?_) rfl (by kernel_rfl) (by kernel_rfl) (by kernel_rfl) (fun _ _ _ h => h) (Or.inl ⟨rfl, ?hy17⟩) ⟨g1, g2, g3⟩ ?_
          case hy17 => intro w' hw'; clear hw'; go_simp; first | done | rfl
          try simp only [Act.put, List.getElem_toArray, List.getElem_cons_zero, List.getElem_cons_succ, List.setIfInBounds_toArray, List.set_cons_zero, List.set_cons_succ]
          refine wpAnyH_take (i := 18) (v := ?_) rfl (by kernel_rfl) (by kernel_rfl) (by kernel_rfl) (fun _ _ _ h => h) (Or.inl ⟨rfl, ?hy18⟩) ⟨g1, g2, g3⟩ ?_
          case hy18 => intro w' hw'; clear hw'; go_simp; first | done | rfl
          try simp only [Act.put, List.getElem_toArray, List.getElem_cons_zero, List.getElem_cons_succ, List.setIfInBounds_toArray, List.set_cons_zero, List.set_cons_succ]
          refine wpAnyH_take (i := 19) (v := ?_) rfl (by kernel_rfl) (by kernel_rfl) (by kernel_rfl) (fun _ _ _ h => h) (Or.inl ⟨rfl, ?hy19⟩) ⟨g1, g2, g3⟩ ?_
          case hy19 => intro w' hw'; clear hw'; go_simp; first | done | rfl
          try simp only [Act.put, List.getElem_toArray, List.getElem_cons_zero, List.getElem_cons_succ, List.setIfInBounds_toArray, List.set_cons_zero, List.set_cons_succ]
          refine wpAnyH_take (i := 20) (v := ?_) rfl (by kernel_rfl) (by kernel_rfl) (by kernel_rfl) (fun _ _ _ h => h) (Or.inl ⟨rfl, ?hy20⟩) ⟨g1, g2, g3⟩ ?_
          case hy20 => intro w' hw'; clear hw'; go_simp; first | done | rfl
          try simp only [Act.put, List.getElem_toArray, List.getElem_cons_zero, List.getElem_cons_succ, List.setIfInBounds_toArray, List.set_cons_zero, List.set_cons_succ]
          refine wpAnyH_take (i := 21) (v := ?_) rfl (by kernel_rfl) (by kernel_rfl) (by kernel_rfl) (fun _ _ _ h => h) (Or.inl ⟨rfl, ?hy21⟩) ⟨g1, g2, g3⟩ ?_
          case hy21 => intro w' hw'; clear hw'; go_simp; first | done | rfl
          try simp only [Act.put, List.getElem_toArray, List.getElem_cons_zero, List.getElem_cons_succ, List.setIfInBounds_toArray, List.set_cons_zero, List.set_cons_succ]
          refine wpAnyH_done (by kernel_rfl) ?_ _
          have HTA := Lib.hid (turn_ask (s := s K) who z)
          have HEV := Lib.hid (askE_vals (s K) who)
          obtain ⟨s3, hs3⟩ : ∃ x, x = Qk.upd s K (Qk.ask (s K) who z) := ⟨_, rfl⟩
          have hs3K : s3 K = Qk.ask (s K) who z := by rw [hs3, Qk.upd_same]
          rw [← hs3] at HL3
          have q3 := (HQA.out w3 HL3.out.bel).key
          dsimp only at q3
          have CW := Lib.hid (waits_any w3 b D3 s3 K HKL.out HL3.out.k)
          rw [hs3K] at CW
          unfold WaitsP at CW
          obtain ⟨ls, hls⟩ : ∃ x, x = (Qk.ask (s K) who z).row.map Prod.fst := ⟨_, rfl⟩
          rw [← hls] at CW
          obtain ⟨ae, hae⟩ : ∃ x, x = Qk.askE (s K) who := ⟨_, rfl⟩
          obtain ⟨ab, hab⟩ : ∃ x, x = Qk.askB (s K) who z := ⟨_, rfl⟩
          have HCS : Hid ((ab = true ∧ ae = 0 ∧ wl = 0 ∧ ls = []) ∨ (ab = false ∧ ae = 0 ∧ 0 ≤ who ∧ ls = ws ++ [who.toNat]) ∨ (ab = false ∧ (ae = 2 ∨ ae = 18) ∧ ls = ws)) := by
            rw [hae, hab, hls, HWL.out, HWS.out]
            rcases HTA.out with ⟨h1, h2, h3, h4⟩ | ⟨h1, h2, h3, h4⟩ | ⟨h1, h2, h3⟩
            · exact Or.inl ⟨h1, h2, by rw [h3]; rfl, by rw [h4]; rfl⟩
            · exact Or.inr (Or.inl ⟨h1, h2, h3, h4⟩)
            · exact Or.inr (Or.inr ⟨h1, HEV.out.resolve_left h2, h3⟩)
          rw [← hae, ← hab]
          clear hk3 hn3 hn3' CF2 c1 c2 c3 g1 g2 g3 hs3 hs3K HL1 HV hls HTA HEV hae hab
          go_wp2_with fail
          refine CW.out.mono ?_
          rintro e w4 ⟨lv, rfl, ho4, hb4⟩
          have HL4 := Lib.hid (HL3.out.later hb4)
          have HE4 := Lib.hid (Lst.new (xs := ls) ho4 rfl HL3.out.k.lt)
          obtain ⟨al, cl, hlE⟩ := HE4.out.shape
          subst hlE
          clear ho4 hb4 CW q3 HL3
          have e2 : ((wl : Int) != (wl : Int)) = false := by simp
          have ez : IntKind.i64.wrap ((wl : Int) + 0) = (wl : Int) := by rw [IntWalk.i64_in _ (by omega)]; omega
          have sm1 : IntKind.i64.wrap ((wl : Int) + 1) = ((wl + 1 : Nat) : Int) := by rw [IntWalk.i64_in _ (by omega)]; omega
          have HLE := Lib.hid (fun q => HL4.out.later (below_drewN (Below.refl _ _) q))
          rcases HCS.out with ⟨rfl, rfl, rfl, hls⟩ | ⟨rfl, rfl, h0, hls⟩ | ⟨rfl, hae, hls⟩
          · rw [hls]
            clear HE4 HCS hls HL4 HQA HWL HWS
            go_wp2
            go_quiet (fail)
            go_wp2
            exact ⟨⟨i + 1, D3, s3, by first | rfl | simp, by omega, HLE.out _⟩, by simp [intOf]; omega⟩
          · have hll : ls.length = wl + 1 := by rw [hls, List.length_append, ← HWL.out]; rfl
            have HRL : Hid (∃ g, al = some ⟨g, 0, none⟩ ∧ wl + 1 ≤ cl ∧ w4.cell? ⟨g, wl, none⟩ = some (.int .i64 who)) := by
              have h9 := HE4.out.1
              rw [hll] at h9
              obtain ⟨g, e, hc, hr⟩ := qn_cells h9 (by omega)
              refine ⟨g, e, hc, ?_⟩
              have h8 := hr wl (by omega)
              rw [hls, HWL.out, List.getElem?_append_right (Nat.le_refl _), Nat.sub_self] at h8
              have h7 : ((([who.toNat])[0]?.getD 0 : Nat) : Int) = who := by simp; omega
              rw [h7, ← HWL.out] at h8
              exact h8
            obtain ⟨g, rfl, hc1, r0⟩ := HRL.out
            rw [hll]
            have e3 : ((who : Int) != who) = false := by simp
            have e4 : (((wl + 1 : Nat) : Int) != ((wl + 1 : Nat) : Int)) = false := by simp
            have e5 : ((wl : Int) + 1 != (wl : Int) + 1) = false := by simp
            have qw0 : w4.cell? ⟨bb, off + i * 4 + 1, none⟩ = some (.int .i64 who) := (HQA.out w4 HL4.out.bel).who
            have hw1 : wl < wl + 1 := by omega
            clear HE4 HCS hls HL4 HQA HWL HWS HRL hll
            go_wp2
            go_quiet (fail)
            go_wp2
            exact ⟨⟨i + 1, D3, s3, by first | rfl | simp, by omega, HLE.out _⟩, by simp [intOf]; omega⟩
          · have hll : ls.length = wl := by rw [hls, ← HWL.out]
            rw [hll]
            clear HE4 HCS hls HL4 HQA HWL HWS hll
            rcases hae with rfl | rfl
            all_goals
              go_wp2
              go_quiet (fail)
              go_wp2
              exact ⟨⟨i + 1, D3, s3, by first | rfl | simp, by omega, HLE.out _⟩, by simp [intOf]; omega⟩
      · obtain rfl : i = n := by omega
        have LV := Lib.hid (lives18 wr)
        go_wp2_with fail
        refine LV.out.mono ?_
        rintro e w9 ⟨rfl, hb9⟩
        have HB9 := Lib.hid (HL.out.bel.trans (hb9.mono HL.out.bel.size))
        clear hb9
        go_wp2
        go_ret
        exact ⟨rfl, HB9.out⟩
  · have hf : fewQ acs = false := by simpa using hfew
    rw [hf] at HF0
    clear hf hfew
    go_wp2_with fail
    refine HF0.out.mono ?_
    rintro e W0 ⟨rfl, rfl⟩
    have LV := Lib.hid (lives18 W0)
    have HB0 := Lib.hid HL0.out.bel
    clear HF0 HL0
    go_wp2_with fail
    refine LV.out.mono ?_
    rintro e w9 ⟨rfl, hb9⟩
    have HB9 := Lib.hid (HB0.out.trans (hb9.mono HB0.out.size))
    clear hb9
    go_wp2
    go_ret
    exact ⟨rfl, HB9.out⟩

set_option maxRecDepth 100000 in
theorem locksTurns_lifted (os : Os) (started : os.Started) (H : Type) (enc : TypeId × Value → H) :
    ReturnsInHanded {} Try.checked os 5 .any (Rows.locksTurnsSpec.pre6 enc Try.prog Try.f5 Rows.locksTurnsRow.domain false) (Rows.locksTurnsSpec.post enc Try.prog Try.f5 false true false false) := by
  refine returnsInHanded_of_change_sized (C := Try.checked) Try.own started (by kernel_rfl) Try.func5
    (ChangeSpec.witness6 (enc := enc) (C := Try.checked) false ⟨#[], #[.slice none 0 0], []⟩ 8 (by kernel_rfl) (by kernel_rfl) (by kernel_rfl) (by kernel_rfl)) ?_
  intro W base args ds gs before hval0 hW _ hsz0 _
  have hval : ∀ (j : Nat) t v, Try.f5.params[j]? = some t → args[j]? = some v → Value.okWide Try.prog W .any base t v := hval0
  have hsz : (DataW.weightsEach Try.prog (Try.f5.params.toList ++ Rows.locksTurnsSpec.plain.varTypes Try.prog) (ds ++ gs)).all (· ≤ reachBytes) = true := hsz0
  have hW' := hW
  obtain ⟨p, q, hA0, hV, rfl, hfz, hnd⟩ := hW
  have hA : DataW.TrodAll enc Try.prog W 0 (fun _ => true) true Try.f5.params.toList args.toList ds p := hA0
  rw [Try.params5] at hA hval hsz
  obtain ⟨v0, vs0, d0, ds0, p0, q0, hargs, rfl, rfl, h0, r0⟩ := trodAll_cons hA
  obtain ⟨rfl, rfl, rfl⟩ := trodAll_nil r0
  obtain rfl : args = #[v0] := by cases args; simp_all
  obtain ⟨rfl, rfl⟩ := trodVars_none hV
  have k0 := h0
  have lt0 : ∀ x ∈ p0, x.block < W.heap.size := by obtain ⟨m, hm⟩ := k0; exact DataW.trod_lt m _ _ _ hm
  obtain ⟨as0, al0⟩ := qacts_open (hval 0 22 v0 rfl rfl) h0
  clear hA0 hval0 hsz0
  refine (locksTurns_walk v0 as0 W al0).mono fun e W' ⟨he, bel⟩ => ?_
  subst he
  exact ⟨_, rfl, _, _, _, [], _, [], hW', trodAll_mk1 (shut_bool Try.underlying4 _), (trodAll_cons_mk (Below.trod Try.laidOut (by kernel_rfl) (of_decide_eq_true (by kernel_rfl)) k0 bel lt0) trodAll_mk0), rfl, bel.frame _, fun h => by cases h⟩

theorem locksTurns_proved : Rows.LocksTurnsSaid :=
  OpenClaim.holds_of_wide 5 Try.f5 rfl rfl rfl rfl rfl rfl rfl ⟨rfl, rfl, rfl, rfl, rfl⟩ rfl rfl rfl rfl rfl (by kernel_rfl) Try.func5 (by kernel_rfl)
    (of_decide_eq_true (by kernel_rfl)) (by unfold Func.isWrapper; rw [if_neg (of_decide_eq_false (by kernel_rfl))]; exact ⟨rfl, rfl⟩)
    (fun os started H enc _ => locksTurns_lifted os started H enc)
end Go.Proofs.Ytoipmdemicdhoaa
