/- Contract of the document's reader: stored. -/
import Derived.Test.YtnjlljdbghcobaaGreatDoorJget
import Derived.Test.YtnjlljdbghcobaaGreatDoorIpst
import Derived.Test.YtnjlljdbghcobaaGreatDoorKrun
import Derived.Test.YtnjlljdbghcobaaGreatDoorCapp
import Derived.Test.YtnjlljdbghcobaaGreatDoorJcop
import Derived.Test.YtnjlljdbghcobaaGreatDoorSref
import Derived.Test.YtnjlljdbghcobaaGreatDoorIas

namespace Go.Proofs.YtnjlljdbghcobaaGreatDoor
set_option maxRecDepth 100000
open Go.RowKit

/-- The document's reader's place in memory. -/
theorem Ds.place {K : Nat → Prop} {R : Nat} {s : Value} {l : List Bool} {N most : Nat} {w : World} {p : Nat} {out : List Nat} (h : Ds K R s l N most w p out) : placeOf R w = p := by
  obtain ⟨ov, hx, _, _⟩ := h.has
  obtain ⟨_, _, c2, _⟩ := jdi_cells hx
  unfold placeOf
  rw [c2]
  simp [intOf]

namespace If
/-- A stored block, by numbers, as the document asks. -/
theorem stored_at (l : List Bool) (most p n m u : Nat) (out : List Nat) (hu : u = up p) (hn : n = Hd.num l u 16) (hm : m = Hd.num l (u + 16) 16) :
    stored l most p out = if l.length < u + 32 then ([], 0, 4) else if n + m ≠ 65535 ∨ n &&& m ≠ 0 then ([], 0, 5) else if most < out.length + n then ([], 0, 3) else if l.length < u + 32 + 8 * n then ([], 0, 4) else
      (out ++ (List.range n).map fun i => Bs.byteAt l (u / 8 + 4 + i), u + 32 + 8 * n, 0) := by
  unfold stored
  rw [← hu, ← hn, ← hm]
  have : u % 8 = 0 := by rw [hu]; unfold up; omega
  rw [show (u + 32) / 8 = u / 8 + 4 by omega]
end If

/-- A run of the row's bytes. -/
theorem sl_run {w : World} {b off len cap : Nat} {l : List Bool} (h : Sl w (.slice (some ⟨b, off, none⟩) len cap) (Bs.pack l)) (i m c : Nat) (hm : i + m ≤ len) : Sl w (.slice (some ⟨b, off + i, none⟩) m c) ((List.range m).map fun j => Bs.byteAt l (i + j)) := by
  have hlen := h.len.1
  rw [Bs.pack_length] at hlen
  have e : ((Bs.pack l).drop i).take m = (List.range m).map fun j => Bs.byteAt l (i + j) := by
    apply List.ext_getElem
    · simp [Bs.pack_length]; omega
    · intro j h1 h2
      have h3 : i + j < (Bs.pack l).length := by rw [Bs.pack_length]; simp at h2; omega
      have h4 := Bs.packTo_get' ((l.length + 7) / 8) l (i + j) (by simp at h2; omega)
      have h5 : (Bs.pack l)[i + j]? = some (Bs.byteAt l (i + j)) := h4
      rw [List.getElem?_eq_getElem h3] at h5
      simp only [List.getElem_take, List.getElem_drop, List.getElem_map, List.getElem_range]
      exact Option.some.inj h5
  obtain ⟨a', len', cap', he, h1, h2, h3, h4, h5⟩ := h
  injection he with e1 e2 e3
  subst e1 e2 e3
  refine ⟨_, m, c, rfl, by simp, by omega, fun h => by simp at h, fun x hx => ?_, fun h0 => ?_⟩
  · rw [← e] at hx
    exact h4 x (List.mem_of_mem_drop (List.mem_of_mem_take hx))
  · obtain ⟨b', off', he, hlt, hc⟩ := h5 (by omega)
    injection he with he
    injection he with e1 e2 _
    subst e1 e2
    refine ⟨b, off + i, rfl, hlt, fun j hj => ?_⟩
    rw [← e, Nat.add_assoc, hc (i + j) (by omega), List.getElem?_take_of_lt hj, List.getElem?_drop]

set_option maxRecDepth 100000 in
set_option maxHeartbeats 8000000 in
theorem jstored_any {K : Nat → Prop} {R : Nat} {s : Value} {l : List Bool} {N most : Nat} {w : World} {p : Nat} {out : List Nat} (hS : Ds K R s l N most w p out) (hl : Hid (N = l.length)) (hN : N ≤ 2251799813685248) (h8 : Hid (N % 8 = 0)) (hm : most ≤ 65536) (hcap : Hid (∀ a len cap, s = .slice a len cap → len ≤ cap)) (res : List Nat × Nat × Int) (hres : Hid (Unit → If.stored l most p out = res)) :
    Calls Tryz.prog 76 #[.pointer (some ⟨R, 0, none⟩)] w (Jo K w res.2.2 (.int .i64 0) (.int .i64 res.2.2) (fun w' => Ds K R s l N most w' res.2.1 res.1)) := by
  have hp := hS.pn
  obtain ⟨u, hu⟩ : ∃ u, u = If.up p := ⟨_, rfl⟩
  have hu8 : Hid (u % 8 = 0 ∧ p ≤ u ∧ u < p + 8) := by show _ ∧ _; rw [hu]; unfold If.up; omega
  have huN : u ≤ N := by have := h8.out; have := hu8.out; omega
  obtain ⟨n, hn⟩ : ∃ n, n = Hd.num l u 16 := ⟨_, rfl⟩
  obtain ⟨m, hmm⟩ : ∃ m, m = Hd.num l (u + 16) 16 := ⟨_, rfl⟩
  have hst := If.stored_at l most p n m u out hu hn hmm
  rw [hres.out ()] at hst
  have hn9 : n < 65536 := by rw [hn]; exact Hd.num_lt _ _ _
  have hm9 : m < 65536 := by rw [hmm]; exact Hd.num_lt _ _ _
  have HNN := Lib.hid (fun _ : Unit => hn)
  have HMM := Lib.hid (fun _ : Unit => hmm)
  have HST := Lib.hid (fun _ : Unit => hst)
  have HS := Lib.hid hS
  clear hmm hst hu hn hres hS
  go_enter Tryz.func76, Tryz.ntmps76
  go_wp2_with fail
  go_loopw [16] (fun _ wr => ∃ q : Nat, Hid (q ≤ u ∧ p ≤ q) ∧ Hid (Ds K R s l N most wr q out) ∧ Hid (Fr K w wr)) (fun _ wr => u - placeOf R wr)
  case atStart => exact ⟨p, ⟨hu8.out.2.1, Nat.le_refl _⟩, HS.out, Fr.refl _ _⟩
  case round =>
    obtain ⟨q, HQ, KS, KF⟩ := hrel
    obtain ⟨ov, hx, _, _⟩ := KS.out.has
    obtain ⟨_, _, c2, _⟩ := jdi_cells hx
    have y2 := jdi_free hx 2
    have hqN : q ≤ N := KS.out.pn
    obtain ⟨r, hr⟩ : ∃ r, r = q % 8 := ⟨_, rfl⟩
    have hr8 : r < 8 := by omega
    have ht1 : (q : Int).tmod 8 = (r : Int) := by rw [Int.tmod_eq_emod_of_nonneg (by omega)]; omega
    have ht2 : (q : Int) % 8 = (r : Int) := by omega
    by_cases hlt : q = u
    · obtain rfl : u = q := hlt.symm
      obtain rfl : r = 0 := by have := hu8.out.1; omega
      have hq1 := jget_any 16 KS.out hl hN (by omega)
      rw [← HNN.out ()] at hq1
      have HQ1 := Lib.hid hq1
      clear hq1 hx y2 HNN HS HQ hlt hr KS
      go_wp2_with fail
      refine HQ1.out.mono ?_
      clear HQ1
      intro e w1 ho
      clear c2 ht1 ht2
      unfold numE at ho
      by_cases hE1 : N < u + 16
      · rw [if_pos hE1] at ho
        obtain ⟨rfl, hf1⟩ := ho.bad (by decide)
        have hst := HST.out ()
        rw [if_pos (by rw [← hl.out]; omega)] at hst
        subst hst
        have HF1 := Lib.hid (KF.out.trans hf1)
        clear ho hf1 HST
        go_wp2
        go_ret
        exact Jo.fault (by decide) HF1.out
      rw [if_neg hE1] at ho
      obtain ⟨rfl, hS1, hf1⟩ := ho.ok
      have HF2 := Lib.hid (KF.out.trans hf1)
      have hq2 := jget_any 16 hS1 hl hN (by omega)
      rw [← HMM.out ()] at hq2
      have HQ2 := Lib.hid hq2
      clear ho hS1 hf1 hq2 HMM KF
      go_wp2_with fail
      refine HQ2.out.mono ?_
      clear HQ2
      intro e w2 ho
      unfold numE at ho
      by_cases hE2 : N < u + 16 + 16
      · rw [if_pos hE2] at ho
        obtain ⟨rfl, hf1⟩ := ho.bad (by decide)
        have hst := HST.out ()
        rw [if_pos (by rw [← hl.out]; omega)] at hst
        subst hst
        have HF1 := Lib.hid (HF2.out.trans hf1)
        clear ho hf1 HST
        go_wp2
        go_ret
        exact Jo.fault (by decide) HF1.out
      rw [if_neg hE2] at ho
      obtain ⟨rfl, hS3, hf3⟩ := ho.ok
      have HF3 := Lib.hid (HF2.out.trans hf3)
      have HS3 := Lib.hid hS3
      have hst := HST.out ()
      rw [if_neg (by rw [← hl.out]; omega)] at hst
      have HST2 := Lib.hid (fun _ : Unit => hst)
      clear ho hS3 hf3 HF2 hst HST
      have hw1 : IntKind.i64.wrap ((n : Int) + (m : Int)) = ((n + m : Nat) : Int) := by rw [IntWalk.i64_in _ (by omega)]; norm_cast
      by_cases hE3 : n + m = 65535
      · obtain rfl : m = 65535 - n := by omega
        have hand : bits .and .i64 (n : Int) ((65535 - n : Nat) : Int) = 0 := by
          have h := i64_and_nat n (65535 - n) (by omega) (by omega)
          rw [If.and_turned n hn9] at h
          exact h
        have e1 : (((n : Int) + ((65535 - n : Nat) : Int)) != 65535) = false := by rw [bne_eq_false_iff_eq]; omega
        have e2 : ((n + (65535 - n)) != 65535) = false := by rw [bne_eq_false_iff_eq]; omega
        have hst := HST2.out ()
        rw [if_neg (by rw [If.and_turned n hn9]; simp; omega)] at hst
        have HST3 := Lib.hid (fun _ : Unit => hst)
        clear hst HST2
        obtain ⟨ov, hx, hown, hnk⟩ := HS3.out.has
        obtain ⟨oa, oc, rfl⟩ := own_shape hown
        obtain ⟨_, c1, c2, c3, c4⟩ := jdi_cells hx
        obtain ⟨o, ho⟩ : ∃ o, o = out.length := ⟨_, rfl⟩
        have hle := HS3.out.le
        rw [← ho] at c3 hle
        have hsub : IntKind.i64.wrap ((most : Int) - (o : Int)) = ((most - o : Nat) : Int) := by rw [IntWalk.i64_in _ (by omega)]; omega
        by_cases hE4 : most < o + n
        · have d1 : decide (((most - o : Nat) : Int) < (n : Int)) = true := by simp; omega
          have d2 : decide (most - o < n) = true := by simp; omega
          have hst := HST3.out ()
          rw [if_pos (by rw [← ho]; exact hE4)] at hst
          subst hst
          clear HST3 hx hown hnk ho
          go_wp2
          go_quiet (fail)
          go_wp2
          go_ret
          exact Jo.fault (by decide) (HF3.out.trans (Fr.of_below HS3.out.lt (below_drewN (Below.refl _ _) _)))
        · have d1 : decide (((most - o : Nat) : Int) < (n : Int)) = false := by simp; omega
          have d2 : decide (most - o < n) = false := by simp; omega
          have hst := HST3.out ()
          rw [if_neg (by rw [← ho]; exact hE4)] at hst
          have HST4 := Lib.hid (fun _ : Unit => hst)
          obtain ⟨v, hv⟩ : ∃ v, v = u + 16 + 16 := ⟨_, rfl⟩
          rw [← hv] at c2 HS3 hx
          have hvN : v ≤ N := by omega
          obtain ⟨z, hz⟩ : ∃ z, z = 8 * n := ⟨_, rfl⟩
          have hz9 : z ≤ 600000 := by omega
          have hsub2 : IntKind.i64.wrap ((N : Int) - (v : Int)) = ((N - v : Nat) : Int) := by rw [IntWalk.i64_in _ (by omega)]; omega
          have hmul : IntKind.i64.wrap (8 * (n : Int)) = (z : Int) := by rw [IntWalk.i64_in _ (by omega)]; omega
          have HX := Lib.hid hx
          have HO := Lib.hid hown
          have HNK := Lib.hid hnk
          have HON := Lib.hid ho
          have HE4 := Lib.hid hE4
          have HV := Lib.hid (fun _ : Unit => hv)
          have HZ := Lib.hid (fun _ : Unit => hz)
          clear hst HST3 hx hown hnk ho hE4
          by_cases hE5 : N < v + z
          · have d3 : decide (((N - v : Nat) : Int) < (z : Int)) = true := by simp; omega
            have d4 : decide (N - v < z) = true := by simp; omega
            have hst := HST4.out ()
            rw [if_pos (by rw [← hl.out]; omega)] at hst
            subst hst
            clear HST4 hv hz
            go_wp2
            go_quiet (fail)
            go_wp2
            go_quiet (fail)
            go_wp2
            go_ret
            exact Jo.fault (by decide) (HF3.out.trans (Fr.of_below HS3.out.lt (below_drewN (Below.refl _ _) _)))
          · have d3 : decide (((N - v : Nat) : Int) < (z : Int)) = false := by simp; omega
            have d4 : decide (N - v < z) = false := by simp; omega
            have hst := HST4.out ()
            rw [if_neg (by rw [← hl.out]; omega)] at hst
            have HST5 := Lib.hid (fun _ : Unit => hst)
            obtain ⟨i, hi⟩ : ∃ i, i = u / 8 + 4 := ⟨_, rfl⟩
            have hi1 : (v : Int) / 8 = (i : Int) := by have := hu8.out.1; omega
            have hi2 : (v : Int).tdiv 8 = (i : Int) := by rw [Int.tdiv_eq_ediv_of_nonneg (by omega)]; exact hi1
            have hi9 : i + n ≤ 281474976710656 := by omega
            obtain ⟨j, hj⟩ : ∃ j, j = i + n := ⟨_, rfl⟩
            have hsum : IntKind.i64.wrap ((i : Int) + (n : Int)) = (j : Int) := by rw [IntWalk.i64_in _ (by omega)]; omega
            have hwi : IntKind.i64.wrap (i : Int) = (i : Int) := IntWalk.i64_in _ (by omega)
            have hjn : j - i = n := by omega
            have HJN := Lib.hid hjn
            have HJ : Hid (j = i + n) := hj
            have HI := Lib.hid (fun _ : Unit => hi)
            clear hst HST4 hv hz hi hj hjn
            go_wp2
            go_quiet (fail)
            generalize nq = nqa
            go_wp2
            go_quiet (fail)
            have HSW := Lib.hid (HS3.out.later (below_drewN (below_drewN (Below.refl _ w2) nqa) nq))
            have HFW : Hid (Fr K w ((w2.drewN nqa).drewN nq)) := HF3.out.trans (Fr.of_below HS3.out.lt (below_drewN (below_drewN (Below.refl _ _) _) _))
            have HXW : Hid (Has ((w2.drewN nqa).drewN nq) R (jdi s N v most (.slice oa out.length oc))) := HX.out
            have HOW : Hid (((w2.drewN nqa).drewN nq).ownsRow 0 5 1 (.slice oa out.length oc) out.length (vb out)) := HO.out
            generalize (w2.drewN nqa).drewN nq = W at HSW HFW HXW HOW ⊢
            clear c1 c2 c3 c4 HX HO HS3 HF3
            obtain ⟨sa, sl, sc, hse, hsl⟩ := HSW.out.sl.shape
            have hcp := hcap.out sa sl sc hse
            subst hse
            have hs1 := HSW.out.sl
            rw [Bs.pack_length] at hsl
            obtain ⟨b, off, rfl, hbl, _, _⟩ := hs1.at 0 (by have := hl.out; omega)
            have hij9 : i + n ≤ (l.length + 7) / 8 := by have := hl.out; have := h8.out; have := HI.out (); have := HV.out (); have := HZ.out (); have := hu8.out; clear hi1 hi2 hsum hwi hmul hsub hsub2 d1 d2 d3 d4 hw1 hand e1 e2; omega
            obtain ⟨A, hA⟩ : ∃ A, (if sc = i then some (⟨b, off, none⟩ : Addr) else some ⟨b, off + i, none⟩) = A := ⟨_, rfl⟩
            have hr : Sl W (.slice A (j - i) (sc - i)) ((List.range n).map fun k => Bs.byteAt l (i + k)) := by
              rw [HJN.out, ← hA]
              by_cases hic : sc = i
              · obtain rfl : n = 0 := by have := HJ.out; omega
                rw [if_pos hic]
                refine ⟨_, 0, sc - i, rfl, rfl, Nat.zero_le _, fun h => by simp at h, fun x hx => by simp at hx, fun h => absurd h (by omega)⟩
              · rw [if_neg hic]
                exact sl_run hs1 i n (sc - i) (by omega)
            have h0j : (0 : Int) ≤ (j : Int) := by omega
            have h0i : (0 : Int) ≤ (i : Int) := by omega
            have hjc : (j : Int) ≤ (sc : Int) := by have := HJ.out; omega
            have hij : (i : Int) ≤ max (j : Int) 0 := by have := HJ.out; omega
            have hij2 : (i : Int) ≤ (j : Int) := by have := HJ.out; omega
            have hti : (i : Int).toNat = i := by omega
            have htj : (j : Int).toNat = j := by omega
            have hm0 : max (j : Int) 0 = (j : Int) := by omega
            clear hs1
            obtain ⟨c0, c1, c2, c3, c4⟩ := jdi_cells HXW.out
            have hlen9 : out.length + ((List.range n).map fun k => Bs.byteAt l (i + k)).length ≤ 100000 := by simp; have := HE4.out; have := HON.out; omega
            obtain ⟨v2, w5, hrun, hown2, hg2, hb2⟩ := run_app_out (w := W.drew) (v := .slice oa out.length oc) (out := out) 22 HOW.out.drew A (j - i) (sc - i) hr hlen9
            obtain ⟨a2, q2, k2, rfl⟩ : ∃ a q k, v2 = .slice a q k := by obtain ⟨a, c, h⟩ := own_shape hown2; exact ⟨a, _, c, h⟩
            have HRUN := Lib.hid hrun
            have hD := HSW.out
            have happ := Ds.app (W := W.drew) (hD.later (Below.refl _ _).drew) ((List.range n).map fun k => Bs.byteAt l (i + k)) (by simp; have := HE4.out; have := HON.out; omega) (fun x hx => by simp at hx; obtain ⟨k, _, rfl⟩ := hx; exact Bs.byteAt_lt _ _) (.slice oa out.length oc) HXW.out HOW.out.drew HNK.out hown2 hg2 hb2
            have HAPP := Lib.hid happ
            have hxa := (hg2.block R (show R < W.heap.size from HXW.out.lt) (fun e => ov_ne HXW.out HOW.out R e.symm rfl)).trans (show Has W.drew R _ from HXW.out)
            have y3 := jdi_free hxa 3
            obtain ⟨_, _, _, e3, _⟩ := jdi_cells hxa
            obtain ⟨ov9, hx9, _, _⟩ := happ.1.has
            obtain ⟨_, _, e9, _, _⟩ := jdi_cells hx9
            have y9 := jdi_free hx9 2
            have hfin : IntKind.i64.wrap ((v : Int) + (z : Int)) = ((v + z : Nat) : Int) := by rw [IntWalk.i64_in _ (by omega)]; norm_cast
            have HR := Lib.hid hr
            have HON2 := Lib.hid HON.out
            clear hr hrun hown2 hg2 hb2 happ hx9 hD hxa hij9 hlen9
            go_upto_region 15 with fail
            go_cut [93] from 70 to 95 (fun s93 wx => s93 = .slice a2 q2 k2 ∧ wx = w5.setCell ⟨R, 3, none⟩ (.slice a2 q2 k2))
            case first =>
              go_region_law (first | (refine step_append_known rfl (.tmp 74) (.tmp 92) 22 rfl _ _ _ w5 (by first | rfl | simp [Act.eval, go_sem]) (by first | rfl | simp [Act.eval, go_sem]) HRUN.out ?_))
              all_goals (go_wp2_with fail; go_meet; exact ⟨rfl, rfl⟩)
            case rest =>
              obtain ⟨rfl, rfl⟩ := hcut
              clear c0 c1 c2 c3 c4 y3 e3 HRUN
              go_wp2
              go_ret
              have hst := HST5.out ()
              have evz : v + z = u + 32 + 8 * n := by have := HV.out (); have := HZ.out (); omega
              rw [← HI.out (), ← evz] at hst
              subst hst
              have h1 := HAPP.out.1
              exact Jo.intro (((HFW.out.trans (Fr.of_below HSW.out.lt (Below.refl _ _).drew)).trans HAPP.out.2).trans (h1.at_fr (v + z))) (h1.at (v + z) (by omega))
      · have e1 : (((n : Int) + (m : Int)) != 65535) = true := by rw [bne_iff_ne]; omega
        have e2 : ((n + m) != 65535) = true := by rw [bne_iff_ne]; omega
        have hst := HST2.out ()
        rw [if_pos (Or.inl hE3)] at hst
        subst hst
        clear HST2 hE3
        go_wp2
        go_ret
        exact Jo.fault (by decide) HF3.out
    · have d1 : ((r : Int) != 0) = true := by
        have h1 := hu8.out
        have h2 := HQ.out
        rw [bne_iff_ne]; omega
      have hws : IntKind.i64.wrap ((q : Int) + 1) = ((q + 1 : Nat) : Int) := by rw [IntWalk.i64_in _ (by omega)]; norm_cast
      have HA := Lib.hid (KS.out.at (q + 1) (by have := HQ.out; omega))
      have HFA := Lib.hid (KF.out.trans (KS.out.at_fr (q + 1)))
      have HPL := Lib.hid KS.out.place
      have HQ2 : Hid (q + 1 ≤ u ∧ p ≤ q + 1) := by have := HQ.out; show _ ∧ _; omega
      have HLT : Hid (q < u) := by have := HQ.out; show _ < _; omega
      clear hx KS KF HQ hlt hr
      go_wp2
      go_roundw
      case rel => exact ⟨q + 1, HQ2.out, by first | exact HA.out | exact (by norm_cast; exact HA.out), HFA.out⟩
      case measure => have h1 := HA.out.place; have h2 := HPL.out; have h3 := HLT.out; push_cast at h1; first | (rw [h1, h2]; omega) | omega
end Go.Proofs.YtnjlljdbghcobaaGreatDoor

/- Contract of the document's reader: symbols. -/
namespace Go.Proofs.YtnjlljdbghcobaaGreatDoor
set_option maxRecDepth 100000
open Go.RowKit

set_option maxRecDepth 100000 in
set_option maxHeartbeats 8000000 in
theorem jsymbols_any {K : Nat → Prop} {R : Nat} {s : Value} {l : List Bool} {N most : Nat} {w : World} {p : Nat} {out : List Nat} (tb dv : Value) (lit dist : List Nat) (hT : Zk K w tb lit) (hfit : Fit (Hd.zz lit)) (hD : Zk K w dv dist) (hS : Ds K R s l N most w p out) (hl : Hid (N = l.length)) (hN : N ≤ 2251799813685248) (hm : most ≤ 65536)
    (k : Nat) (hk : N < p + k) (res : List Nat × Nat × Int) (hres : Hid (Unit → If.syms l lit dist most k out p = res)) :
    Calls Tryz.prog 77 #[.pointer (some ⟨R, 0, none⟩), tb, dv] w (Jo K w res.2.2 (.int .i64 0) (.int .i64 res.2.2) (fun w' => Ds K R s l N most w' res.2.1 res.1)) := by
  have HS := Lib.hid hS
  have HT := Lib.hid hT
  have HD := Lib.hid hD
  have HFIT := Lib.hid hfit
  clear hS hT hD hfit
  go_enter Tryz.func77, Tryz.ntmps77
  go_wp2_with fail
  go_loopw [13] (fun _ wr => ∃ (k' p : Nat) (ou : List Nat), Hid (N < p + k') ∧ Hid (Ds K R s l N most wr p ou) ∧ Hid (Fr K w wr) ∧ Hid (Unit → If.syms l lit dist most k' ou p = res)) (fun _ wr => N - placeOf R wr)
  case atStart => exact ⟨k, p, out, hk, HS.out, Fr.refl _ _, fun u => hres.out u⟩
  case round =>
    clear hk
    obtain ⟨k', p, ou, HK, KS, KF, KR⟩ := hrel
    have hpl := KS.out.place
    have hpn := KS.out.pn
    obtain ⟨k2, rfl⟩ : ∃ k2, k' = k2 + 1 := ⟨k' - 1, by have := HK.out; omega⟩
    obtain ⟨rr, hrr⟩ : ∃ rr, Hd.rd lit l p = rr := ⟨_, rfl⟩
    obtain ⟨y, q, c⟩ := rr
    have hstep := KR.out ()
    rw [If.syms_succ l lit dist most k2 _ p y q c hrr] at hstep
    have hlt := Hd.rd_lt (by rw [← hl.out]; exact hpn) hrr
    have HY := Lib.hid (jsym_any tb lit (HT.out.fr KF.out) HFIT.out KS.out hl hN y q c hrr)
    have HPL := Lib.hid hpl
    have HSTEP := Lib.hid (fun _ : Unit => hstep)
    have HLT := Lib.hid (fun _ : Unit => hlt)
    have HK2 := Lib.hid HK.out
    clear hstep hlt hrr KR hpl HK
    go_wp2_with fail
    refine HY.out.mono ?_
    clear HY
    intro e w1 ho
    by_cases hc : c ≠ 0
    · obtain ⟨rfl, hf1⟩ := ho.bad hc
      have hst := HSTEP.out ()
      rw [if_pos hc] at hst
      subst hst
      have e9 : (c != 0) = true := by rw [bne_iff_ne]; exact hc
      have HF1 := Lib.hid (KF.out.trans hf1)
      have HC := Lib.hid hc
      clear ho hf1 hc HSTEP hres
      go_wp2
      go_ret
      exact Jo.fault HC.out HF1.out
    obtain rfl : c = 0 := by simpa using hc
    obtain ⟨rfl, hS1, hf1⟩ := ho.ok
    have HS1 := Lib.hid hS1
    have HF1 := Lib.hid (KF.out.trans hf1)
    clear ho hS1 hf1 hc
    have hN9 : N < q + k2 := by have := (HLT.out ()).1 rfl; have := HK2.out; omega
    have HNK := Lib.hid hN9
    have hqy : Hid (p < q ∧ q ≤ N ∧ y < lit.length) := by have := (HLT.out ()).1 rfl; exact ⟨this.2.1, by rw [hl.out]; exact this.2.2, this.1⟩
    clear hN9 HK2 HLT KS hpn KF
    by_cases h256 : y = 256
    · have hst := HSTEP.out ()
      rw [if_neg (by simp), if_pos h256] at hst
      subst hst h256
      clear HSTEP hres
      go_wp2
      go_ret
      exact Jo.intro HF1.out HS1.out
    have e3 : ((y : Int) == 256) = false := by simp; omega
    have e4 : (y == 256) = false := by simp; omega
    by_cases hgt : 256 < y
    · have e1 : decide ((256 : Int) < (y : Int)) = true := decide_eq_true (by omega)
      have e2 : decide (256 < y) = true := decide_eq_true hgt
      have hst := HSTEP.out ()
      rw [if_neg (by simp), if_neg h256, if_pos hgt] at hst
      have hcf := @If.copy_facts l dist most y q ou
      obtain ⟨cc, hcce⟩ : ∃ cc, If.copy l dist most y q ou = cc := ⟨_, rfl⟩
      have HC := Lib.hid (jcopied_any y hgt dv dist (HD.out.fr HF1.out) HS1.out hl hN hm cc (fun _ => hcce))
      rw [hcce] at hst hcf
      obtain ⟨o2, q2, c2⟩ := cc
      simp only at hst hcf HC
      have HST := Lib.hid (fun _ : Unit => hst)
      have HCF := Lib.hid (fun _ : Unit => hcf)
      clear hst hcf hcce HSTEP hres h256
      go_wp2_with fail
      refine HC.out.mono ?_
      clear HC
      intro e w2 ho
      by_cases hc2 : c2 = 0
      · subst hc2
        obtain ⟨rfl, hS2, hf2⟩ := ho.ok
        have hst := HST.out ()
        rw [if_neg (by simp)] at hst
        have hq2 := HCF.out () rfl
        have HST3 := Lib.hid (fun _ : Unit => hst)
        have HQ2 := Lib.hid (show q < q2 ∧ q2 ≤ N from ⟨hq2.1, by rw [hl.out]; exact hq2.2⟩)
        have HS3 := Lib.hid hS2
        have HF3 := Lib.hid (HF1.out.trans hf2)
        clear hst hq2 hS2 hf2 ho HST HCF HF1 HS1
        go_wp2
        go_roundw
        case rel => exact ⟨k2, q2, o2, by show _ < _; have := HNK.out; have := HQ2.out; omega, HS3.out, HF3.out, HST3.out⟩
        case measure => have h1 := HS3.out.place; have h2 := HPL.out; have h3 := HQ2.out; have h4 := hqy.out; rw [h1, h2]; omega
      · obtain ⟨rfl, hf2⟩ := ho.bad hc2
        have hst := HST.out ()
        rw [if_pos hc2] at hst
        subst hst
        have e9 : (c2 != 0) = true := by rw [bne_iff_ne]; exact hc2
        have HF3 := Lib.hid (HF1.out.trans hf2)
        have HC2 := Lib.hid hc2
        clear hf2 ho HST HCF HF1 HS1 hc2
        go_wp2
        go_ret
        exact Jo.fault HC2.out HF3.out
    · have hlt : y < 256 := by omega
      have ew : IntKind.u8.wrap (y : Int) = (y : Int) := by simp [IntKind.wrap, IntKind.signed, IntKind.bits]; omega
      have e1 : decide ((256 : Int) < (y : Int)) = false := decide_eq_false (by omega)
      have e2 : decide (256 < y) = false := decide_eq_false hgt
      have hst := HSTEP.out ()
      rw [if_neg (by simp), if_neg h256, if_neg hgt] at hst
      have HST := Lib.hid (fun _ : Unit => hst)
      clear hst HSTEP hres h256 hgt
      obtain ⟨ov, hx, hown, hnk⟩ := HS1.out.has
      obtain ⟨oa, oc, rfl⟩ := own_shape hown
      obtain ⟨_, _, _, c3, c4⟩ := jdi_cells hx
      obtain ⟨o, ho2⟩ : ∃ o, o = ou.length := ⟨_, rfl⟩
      rw [← ho2] at c3
      have HX := Lib.hid hx
      have HO := Lib.hid hown
      have HNN := Lib.hid hnk
      have HOL := Lib.hid ho2
      clear hx hown hnk ho2
      by_cases hfull : most ≤ o
      · have d1 : decide ((most : Int) ≤ (o : Int)) = true := decide_eq_true (by omega)
        have d2 : decide (most ≤ o) = true := decide_eq_true hfull
        have hst := HST.out ()
        rw [if_pos (by rw [← HOL.out]; exact hfull)] at hst
        subst hst
        clear HST hfull HX HO HNN
        go_wp2
        go_quiet (fail)
        go_wp2
        go_ret
        exact Jo.fault (by decide) (HF1.out.trans (Fr.of_below HS1.out.lt (below_drewN (Below.refl _ _) _)))
      · have d1 : decide ((most : Int) ≤ (o : Int)) = false := decide_eq_false (by omega)
        have d2 : decide (most ≤ o) = false := decide_eq_false hfull
        have hst := HST.out ()
        rw [if_neg (by rw [← HOL.out]; exact hfull)] at hst
        have HST3 := Lib.hid (fun _ : Unit => hst)
        have HFU := Lib.hid hfull
        clear hst hfull HST
        go_wp2
        go_quiet (fail)
        have HSW := Lib.hid (HS1.out.later (below_drewN (Below.refl _ w1) nq))
        have HFW := Lib.hid (HF1.out.trans (Fr.of_below HS1.out.lt (below_drewN (Below.refl _ w1) nq)))
        have HXW : Hid (Has (w1.drewN nq) R (jdi s N q most (.slice oa ou.length oc))) := HX.out
        have HOW : Hid ((w1.drewN nq).ownsRow 0 5 1 (.slice oa ou.length oc) ou.length (vb ou)) := HO.out
        generalize w1.drewN nq = W at HSW HFW HXW HOW ⊢
        clear c3 c4 HX HO HS1 HF1 d1 d2
        have hb1 := below1 W (.cells #[.int .u8 (y : Int)] 5)
        have hx := HXW.out
        have hxA : Has (W.alloc (.cells #[.int .u8 (y : Int)] 5)) R (jdi s N q most (.slice oa ou.length oc)) := hx.alloc _
        have hownA : (W.alloc (.cells #[.int .u8 (y : Int)] 5)).ownsRow 0 5 1 (.slice oa ou.length oc) ou.length (vb ou) := own_keep HOW.out hb1
        have hsl : Sl (W.alloc (.cells #[.int .u8 (y : Int)] 5)) (.slice (some ⟨W.heap.size, 0, none⟩) 1 1) [y] := sl_byte1 (Has.new W _) hlt
        have hle1 : ou.length + [y].length ≤ most := by have := HOL.out; have := HFU.out; simp; omega
        obtain ⟨v9, w9, hrun, hown9, hg9, hb9⟩ := run_app_out 22 hownA (some ⟨W.heap.size, 0, none⟩) 1 1 hsl (by omega)
        obtain ⟨a9, n9, k9, rfl⟩ : ∃ a q k, v9 = .slice a q k := by obtain ⟨a, c, h⟩ := own_shape hown9; exact ⟨a, _, c, h⟩
        have HRUN := Lib.hid hrun
        have happ := Ds.app (HSW.out.later hb1) [y] (by rw [List.length_append]; exact hle1) (fun z hz => by simp at hz; omega) _ hxA hownA HNN.out hown9 hg9 hb9
        have HAPP := Lib.hid happ.1
        have HFA := Lib.hid ((HFW.out.trans (Fr.of_below HSW.out.lt hb1)).trans happ.2)
        have hx9 := (hg9.block R (by have := hx.lt; simp; omega) (fun e => ov_ne hx HOW.out R e.symm rfl)).trans hxA
        obtain ⟨_, _, _, c3, _⟩ := jdi_cells hx
        obtain ⟨_, _, _, f3, _⟩ := jdi_cells hx9
        have y3 := jdi_free hx9 3
        rw [← HOL.out] at c3 HRUN
        clear hx hxA hownA hsl hle1 hrun hown9 hg9 hb9 happ hx9 hb1
        go_wp2_with (at_builtin; (refine wpList_append_is rfl (.tmp 23) (.tmp 26) 22 rfl _ _ _ _ rfl rfl HRUN.out ?_))
        clear HRUN
        go_wp2
        go_roundw
        case rel => exact ⟨k2, q, ou ++ [y], HNK.out, HAPP.out, HFA.out, HST3.out⟩
        case measure => have h1 := HAPP.out.place; have h2 := HPL.out; have h4 := hqy.out; rw [h1, h2]; omega
end Go.Proofs.YtnjlljdbghcobaaGreatDoor

/- Contract of the document's reader: block. -/
namespace Go.Proofs.YtnjlljdbghcobaaGreatDoor
set_option maxRecDepth 100000
open Go.RowKit

/-- What a block of the document's reader leaves. -/
def Jb (K : Nat → Prop) (R : Nat) (s : Value) (l : List Bool) (N most : Nat) (la : Nat) (w : World) (res : List Nat × Nat × Int) (e : Ending) (w' : World) : Prop :=
  Fr K w w' ∧ (res.2.2 = 0 → e = .returned (.tuple #[.bool ((la : Int) == 1), .int .i64 0]) ∧ Ds K R s l N most w' res.2.1 res.1) ∧ (res.2.2 ≠ 0 → ∃ v : Value, e = .returned (.tuple #[v, .int .i64 res.2.2]))

/-- What is kept besides may be forgotten. -/
theorem Jo.narrow {K K' : Nat → Prop} {R : Nat} {s : Value} {l : List Bool} {N most : Nat} {w0 w w' : World} {p : Nat} {out : List Nat} {res : List Nat × Nat × Int} {ev bad : Value} {e : Ending} (h0 : Ds K R s l N most w0 p out) (hK : ∀ k, K k → K' k)
    (h : Jo K' w res.2.2 ev bad (fun w' => Ds K' R s l N most w' res.2.1 res.1) e w') : Jo K w res.2.2 ev bad (fun w' => Ds K R s l N most w' res.2.1 res.1) e w' :=
  ⟨h.1.mono hK, fun hc => ⟨(h.2.1 hc).1, (h.2.1 hc).2.narrow h0 hK⟩, h.2.2⟩

theorem fit_fixL : Fit (Hd.zz If.fixL) := fit_of newE_fixL
theorem fit_fixD : Fit (Hd.zz If.fixD) := fit_of newE_fixD

namespace If
theorem dynamic_j (l : List Bool) (most p : Nat) (out : List Nat) :
    dynamic l most p out = if (jdynE (Hd.head l p)).2.2.2 ≠ 0 then ([], 0, (jdynE (Hd.head l p)).2.2.2) else syms l (jdynE (Hd.head l p)).1 (jdynE (Hd.head l p)).2.1 most (l.length + 1) out (jdynE (Hd.head l p)).2.2.1 := by
  unfold dynamic jdynE
  by_cases h1 : (Hd.head l p).2.2.2 ≠ 0
  · rw [if_pos h1, if_pos h1, if_pos h1]
  rw [if_neg h1, if_neg h1]
  by_cases h2 : (Hd.head l p).1[256]?.getD 0 = 0
  · rw [if_pos h2, if_pos h2, if_pos (by simp)]
  rw [if_neg h2, if_neg h2]
  by_cases h3 : newE (Hd.zz (Hd.head l p).1) ≠ 0
  · rw [if_pos h3, if_pos h3, if_pos h3]
  rw [if_neg h3, if_neg h3]
  by_cases h4 : newE (Hd.zz (Hd.head l p).2.1) ≠ 0 ∧ ¬ (∀ x ∈ (Hd.head l p).2.1, x = 0)
  · rw [if_pos h4, if_pos h4, if_pos h4.1]
  rw [if_neg h4, if_neg h4, if_neg h1]
end If

set_option maxRecDepth 100000 in
set_option maxHeartbeats 8000000 in
theorem jblock_any {K : Nat → Prop} {R : Nat} {s : Value} {l : List Bool} {N most : Nat} {w : World} {p : Nat} {out : List Nat} (hS : Ds K R s l N most w p out) (hl : Hid (N = l.length)) (hN : N ≤ 2251799813685248) (h8 : Hid (N % 8 = 0)) (hm : most ≤ 65536) (hcap : Hid (∀ a len cap, s = .slice a len cap → len ≤ cap)) (res : List Nat × Nat × Int) (hres : Hid (Unit → If.block l most p out = res)) :
    Calls Tryz.prog 39 #[.pointer (some ⟨R, 0, none⟩)] w (Jb K R s l N most (Hd.num l p 1) w res) := by
  have hst := hres.out ()
  unfold If.block at hst
  have HS := Lib.hid hS
  have HG := Lib.hid (jget_any 1 hS hl hN (by omega))
  obtain ⟨la, hla⟩ : ∃ la, la = Hd.num l p 1 := ⟨_, rfl⟩
  rw [← hla] at HG
  rw [← hla]
  have HST := Lib.hid (fun _ : Unit => hst)
  clear hst hS hres hla
  go_enter Tryz.func39, Tryz.ntmps39
  go_wp2_with fail
  refine HG.out.mono ?_
  clear HG
  intro e w1 ho
  unfold numE at ho
  by_cases hE1 : N < p + 1
  · rw [if_pos hE1] at ho
    obtain ⟨rfl, hf⟩ := ho.bad (by decide)
    have hst := HST.out ()
    rw [if_pos (by rw [← hl.out]; omega)] at hst
    subst hst
    have HF := Lib.hid hf
    clear ho hf HST
    go_wp2
    go_ret2
    exact ⟨HF.out, fun h => absurd h (by decide), fun _ => ⟨_, rfl⟩⟩
  rw [if_neg hE1] at ho
  obtain ⟨rfl, hS1, hf⟩ := ho.ok
  have HF1 := Lib.hid hf
  have HG := Lib.hid (jget_any 2 hS1 hl hN (by omega))
  obtain ⟨kd, hkd⟩ : ∃ kd, kd = Hd.num l (p + 1) 2 := ⟨_, rfl⟩
  have hk4 : kd < 4 := by rw [hkd]; exact Hd.num_lt _ _ _
  rw [← hkd] at HG
  have hst := HST.out ()
  rw [← hkd] at hst
  have HST2 := Lib.hid (fun _ : Unit => hst)
  clear ho hf hst HST hkd hS1
  go_wp2_with fail
  refine HG.out.mono ?_
  clear HG
  intro e w2 ho
  unfold numE at ho
  by_cases hE2 : N < p + 1 + 2
  · rw [if_pos hE2] at ho
    obtain ⟨rfl, hf⟩ := ho.bad (by decide)
    have hst := HST2.out ()
    rw [if_pos (by rw [← hl.out]; omega)] at hst
    subst hst
    have HF := Lib.hid (HF1.out.trans hf)
    clear ho hf HST2
    go_wp2
    go_ret2
    exact ⟨HF.out, fun h => absurd h (by decide), fun _ => ⟨_, rfl⟩⟩
  rw [if_neg hE2] at ho
  obtain ⟨rfl, hS2, hf⟩ := ho.ok
  have HF2 := Lib.hid (HF1.out.trans hf)
  have HS2 := Lib.hid hS2
  have hst := HST2.out ()
  rw [if_neg (by rw [← hl.out]; omega)] at hst
  have HST3 := Lib.hid (fun _ : Unit => hst)
  clear ho hf hst HST2 hS2 HF1
  by_cases k0 : kd = 0
  · subst k0
    have hst := HST3.out ()
    rw [if_pos rfl] at hst
    have HC := Lib.hid (jstored_any (HS2.out) hl hN h8 hm hcap res (fun _ => hst))
    clear hst HST3
    go_wp2_with fail
    refine HC.out.mono ?_
    clear HC
    intro e w3 ho
    by_cases hc : res.2.2 = 0
    · have e1 := (ho.2.1 hc).1
      have HD := Lib.hid (ho.2.1 hc).2
      have HF := Lib.hid (HF2.out.trans ho.1)
      have HC := Lib.hid hc
      subst e1
      clear ho hc
      go_wp2
      go_ret2
      exact ⟨HF.out, fun _ => ⟨rfl, HD.out⟩, fun h => absurd HC.out h⟩
    · have e1 := ho.2.2 hc
      have HF := Lib.hid (HF2.out.trans ho.1)
      have HC := Lib.hid hc
      subst e1
      clear ho hc
      go_wp2
      go_ret2
      exact ⟨HF.out, fun h => absurd h HC.out, fun _ => ⟨_, rfl⟩⟩
  have b0 : ((kd : Int) == 0) = false := by simp; omega
  have b0' : (kd == 0) = false := by simp; omega
  by_cases k1 : kd = 1
  · subst k1
    have hst := HST3.out ()
    rw [if_neg (by omega), if_pos rfl] at hst
    have HST4 := Lib.hid (fun _ : Unit => hst)
    clear hst HST3 b0 b0' k0
    go_wp2_with fail
    refine (jfixed_is w2).mono ?_
    rintro e w3 ⟨v1, v2, rfl, g1, g2, rfl, rfl, h1, h2, h3, hx, hy, hb⟩
    have z1 := Zk.of_new (K := K) (v := .slice (some ⟨g1, 0, none⟩) 288 288) (zl_nums hx fixL_len.symm (by omega)) (newer_at h1) (Or.inr fit_fixL)
    have z2 := Zk.of_new (K := K) (v := .slice (some ⟨g2, 0, none⟩) 32 32) (zl_nums hy fixD_len.symm (by omega)) (newer_at h2) (Or.inr fit_fixD)
    have HC := Lib.hid (jsymbols_any _ _ _ _ z1 fit_fixL z2 (HS2.out.widen hb) hl hN hm (l.length + 1) (by have := hl.out; omega) res (fun _ => HST4.out ()))
    have HF3 := Lib.hid (HF2.out.trans (Fr.of_below HS2.out.lt hb))
    clear hx hy hb z1 z2 HST4
    go_wp2_with fail
    refine HC.out.mono ?_
    clear HC
    intro e w4 ho
    have ho := Jo.narrow HS2.out (fun k hk => Or.inl hk) ho
    by_cases hc : res.2.2 = 0
    · have e1 := (ho.2.1 hc).1
      have HD := Lib.hid (ho.2.1 hc).2
      have HF := Lib.hid (HF3.out.trans ho.1)
      have HC := Lib.hid hc
      subst e1
      clear ho hc
      go_wp2
      go_ret2
      exact ⟨HF.out, fun _ => ⟨rfl, HD.out⟩, fun h => absurd HC.out h⟩
    · have e1 := ho.2.2 hc
      have HF := Lib.hid (HF3.out.trans ho.1)
      have HC := Lib.hid hc
      subst e1
      clear ho hc
      go_wp2
      go_ret2
      exact ⟨HF.out, fun h => absurd h HC.out, fun _ => ⟨_, rfl⟩⟩
  have b1 : ((kd : Int) == 1) = false := by simp; omega
  have b1' : (kd == 1) = false := by simp; omega
  by_cases k2 : kd = 2
  · subst k2
    have hst := HST3.out ()
    rw [if_neg (by omega), if_neg (by omega), if_pos rfl, If.dynamic_j] at hst
    obtain ⟨r, hr⟩ : ∃ r, jdynE (Hd.head l (p + 1 + 2)) = r := ⟨_, rfl⟩
    have hr' : jdynE (Hd.head l (p + 3)) = r := hr
    rw [hr'] at hst
    have HC := Lib.hid (jdynamic_any HS2.out hl hN r (fun _ => hr))
    obtain ⟨lit, dist, q, c⟩ := r
    simp only at hst
    have HST4 := Lib.hid (fun _ : Unit => hst)
    clear hst HST3 b0 b0' b1 b1' k0 k1 hr hr'
    go_wp2_with fail
    refine HC.out.mono ?_
    clear HC
    intro e w3 ho
    by_cases hc : c = 0
    · subst hc
      obtain ⟨v1, v2, K', rfl, hK', z1, z2, hfit, hS3⟩ := ho.2.1 rfl
      have hst := HST4.out ()
      rw [if_neg (by simp)] at hst
      have HF3 := Lib.hid (HF2.out.trans ho.1)
      have HC := Lib.hid (jsymbols_any _ _ _ _ z1 hfit z2 hS3 hl hN hm (l.length + 1) (by have := hl.out; omega) res (fun _ => hst))
      have HKK := Lib.hid hK'
      clear ho hst HST4 z1 z2 hfit hS3
      go_wp2_with fail
      refine HC.out.mono ?_
      clear HC
      intro e w4 ho
      have ho := Jo.narrow HS2.out HKK.out ho
      by_cases hc : res.2.2 = 0
      · have e1 := (ho.2.1 hc).1
        have HD := Lib.hid (ho.2.1 hc).2
        have HF := Lib.hid (HF3.out.trans ho.1)
        have HC := Lib.hid hc
        subst e1
        clear ho hc
        go_wp2
        go_ret2
        exact ⟨HF.out, fun _ => ⟨rfl, HD.out⟩, fun h => absurd HC.out h⟩
      · have e1 := ho.2.2 hc
        have HF := Lib.hid (HF3.out.trans ho.1)
        have HC := Lib.hid hc
        subst e1
        clear ho hc
        go_wp2
        go_ret2
        exact ⟨HF.out, fun h => absurd h HC.out, fun _ => ⟨_, rfl⟩⟩
    · have e1 := ho.2.2 hc
      subst e1
      have hst := HST4.out ()
      rw [if_pos hc] at hst
      subst hst
      have HF := Lib.hid (HF2.out.trans ho.1)
      have HC := Lib.hid hc
      have e9 : (c == 0) = false := by rw [beq_eq_false_iff_ne]; exact hc
      clear ho hc HST4
      go_wp2
      go_ret2
      exact ⟨HF.out, fun h => absurd h HC.out, fun _ => ⟨_, rfl⟩⟩
  have b2 : ((kd : Int) == 2) = false := by simp; omega
  have b2' : (kd == 2) = false := by simp; omega
  have hst := HST3.out ()
  rw [if_neg k0, if_neg k1, if_neg k2] at hst
  subst hst
  clear HST3
  go_wp2
  go_ret2
  exact ⟨HF2.out, fun h => absurd h (by decide), fun _ => ⟨_, rfl⟩⟩
end Go.Proofs.YtnjlljdbghcobaaGreatDoor
