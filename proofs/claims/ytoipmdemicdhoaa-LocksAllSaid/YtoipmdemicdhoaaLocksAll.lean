/- The statement LocksAll: when all who hold a key free it, and those who come to hold it then do, too, all who waited have held it, and nobody does any more. It holds for every input, without a condition. -/
import Derived.Test.YtoipmdemicdhoaaQlaw
import Derived.BigQuiet

namespace Go.Proofs.Ytoipmdemicdhoaa
set_option maxRecDepth 100000
open Go.ChangeShapes Go.WideShapes Go.ChangeAt Go.RowKit

/-- A holder frees the key: there is one less in all. -/
theorem all_free {s : Qk.St} (hg : Qk.Good s) {p : Nat} (hp : p ∈ s.hs) : Qk.freeE s p = 0 ∧ s.row.map Prod.fst = Qk.freeN s p ++ (Qk.free s p).row.map Prod.fst ∧ (Qk.free s p).hs.length + (Qk.free s p).row.length + 1 = s.hs.length + s.row.length := by
  have he : Qk.freeE s p = 0 := by
    unfold Qk.freeE
    have := hg.lt.1 p hp
    rw [if_neg (by omega), if_pos (by simpa using hp)]
  have h0 : (p : Int).toNat = p := by omega
  obtain ⟨h1, h2, h3⟩ := Qk.prom_len (Qk.left s p) s.wr s.row
  have hl : (Qk.left s p).length + 1 = s.hs.length := by
    have hnd : s.hs.Nodup := (List.nodup_append.1 hg.nodup).1
    have : Qk.left s p = s.hs.erase p := by
      unfold Qk.left
      rw [hnd.erase_eq_filter]
      congr 1
      funext x
      by_cases e : x = p <;> simp [e]
    rw [this, List.length_erase_of_mem hp]
    have := List.length_pos_iff.2 (List.ne_nil_of_mem hp)
    omega
  have hr : (Qk.prom (Qk.left s p) s.wr s.row).hs = [] → (Qk.prom (Qk.left s p) s.wr s.row).row = [] := fun hz => by
    rcases (Qk.mid_end (Qk.left s p) s.wr s.row).2 with h | ⟨c, r, _, h⟩
    · exact h
    · exact absurd hz (Qk.lets_false h)
  refine ⟨he, ?_, ?_⟩
  · unfold Qk.freeN Qk.free
    rw [if_pos he, if_pos he, h0]
    by_cases hz : (Qk.prom (Qk.left s p) s.wr s.row).hs = []
    · rw [if_pos hz]
      rw [hr hz, List.append_nil] at h3
      rw [← h3]
      simp [Qk.nob]
    · rw [if_neg hz, ← List.map_append, ← h3]
  · unfold Qk.free
    rw [if_pos he, h0]
    by_cases hz : (Qk.prom (Qk.left s p) s.wr s.row).hs = []
    · rw [if_pos hz]
      rw [hr hz, hz] at h1
      simp only [List.length_nil] at h1
      show 0 + 0 + 1 = _
      omega
    · rw [if_neg hz]; omega

set_option maxRecDepth 100000 in
set_option maxHeartbeats 16000000 in
theorem locksAll_walk (v : Value) (acs : List QAc) (K : ByteArray) (W : World) (ha : QActs W v acs) (_hS : K.size ≤ 9223372036854775807) :
    Calls Try.prog 6 #[v, .string K] W fun e w' => e = .returned (.bool true) ∧ Below W.heap.size W w' := by
  obtain ⟨aa, cap, rfl, hcp, hl9⟩ := ha.shape
  have HN := Lib.hid (new_any W)
  have HFW := Lib.hid (fun w' hb => few_any (.slice aa acs.length cap) acs W w' ha hb)
  have HAT := Lib.hid (fun (h0 : 0 < acs.length) => ha.at h0)
  obtain ⟨n, hn⟩ : ∃ n, n = acs.length := ⟨_, rfl⟩
  have HNN := Lib.hid hn
  rw [← hn] at HFW hcp hl9 ⊢
  obtain ⟨ks, hks⟩ : ∃ x, x = K.size := ⟨_, rfl⟩
  clear ha hn
  go_enter Try.func6, Try.ntmps6
  go_wp2_with fail
  refine HN.out.mono ?_
  rintro e W0 ⟨b, D0, rfl, hl0, hb0, hd0⟩
  have HL0 : Hid (Lw W W0 b D0 (fun _ => Qk.nob)) := ⟨hl0, hb0, hd0⟩
  have HF0 := Lib.hid (HFW.out W0 hb0)
  clear HN hl0 hb0 hd0 HFW
  have HOUT : Hid (∀ w9 : World, Below W0.heap.size W0 w9 → Below W.heap.size W w9) := fun w9 h => HL0.out.bel.trans (h.mono HL0.out.bel.size)
  by_cases hfew : fewQ acs = true
  · rw [hfew] at HF0
    have HLN := Lib.hid (fewQ_len hfew)
    have HKY := Lib.hid (fun i (a : QAc) (h : acs[i]? = some a) => fewQ_key hfew h)
    clear hfew
    by_cases hk1 : 100 < ks
    · have d1 : decide ((K.size : Int) > 100) = true := decide_eq_true (by omega)
      have d2 : 100 < K.size := by omega
      have LV := Lib.hid (lives18 W0)
      clear hks
      go_wp2_with fail
      refine HF0.out.mono ?_
      rintro e W0 ⟨rfl, rfl⟩
      go_wp2_with fail
      refine LV.out.mono ?_
      rintro e w9 ⟨rfl, hb9⟩
      have HB9 := Lib.hid (HOUT.out _ hb9)
      clear hb9
      go_wp2
      go_ret
      exact ⟨rfl, HB9.out⟩
    · have d1 : decide ((K.size : Int) > 100) = false := decide_eq_false (by omega)
      have d2 : ¬ 100 < K.size := by omega
      have HKS := Lib.hid (show K.size ≤ 1000 by omega)
      clear hks
      go_wp2_with fail
      refine HF0.out.mono ?_
      rintro e W0 ⟨rfl, rfl⟩
      clear HF0
      go_wp2
      go_loopw [6] (fun s6 wr => ∃ (i : Nat) (D : Nat → Prop) (s : Qk.Sts), s6 = .int .i64 (i : Int) ∧ i ≤ n ∧ Hid (Lw W wr b D s)) (fun s6 _ => n - (intOf s6).toNat)
      case atStart => exact ⟨0, D0, _, rfl, Nat.zero_le _, HL0⟩
      case round =>
        obtain ⟨i, D, s, rfl, hin, HL⟩ := hrel
        by_cases hlt : i < n
        · obtain ⟨bb, off, rfl, hbl, hq⟩ := HAT.out (by rw [← HNN.out]; omega)
          obtain ⟨ac, hac⟩ : ∃ ac : QAc, acs[i]? = some ac := ⟨acs[i]'(by rw [← HNN.out]; exact hlt), List.getElem?_eq_getElem _⟩
          have hky := HKY.out i ac hac
          have hA := hq wr HL.out.bel i ac hac
          obtain ⟨c0, c1, c2, c3, -⟩ := hA
          have CD := Lib.hid (do_any wr b D s ac (by omega) HL.out.k)
          have hl100 := HLN.out
          clear hq hac hky
          go_wp2_with fail
          refine CD.out.mono ?_
          rintro e w1 ⟨rfl, D1, hk1, hn1⟩
          have HL1 := Lib.hid (HL.out.nxt hk1 hn1)
          clear hk1 hn1 CD c0 c1 c2 c3
          go_wp2
          exact ⟨⟨i + 1, D1, _, by first | rfl | simp, by omega, HL1⟩, by simp [intOf]; omega⟩
        · obtain rfl : i = n := by omega
          have CH := Lib.hid (tells_any wr b D s K HKS.out HL.out.k)
          go_wp2_with fail
          refine CH.out.mono ?_
          rintro e w2 ⟨hv, rfl, ho2, hb2⟩
          have HL2 := Lib.hid (HL.out.later hb2)
          have HV := Lib.hid (Lst.new (xs := (s K).hs) ho2 rfl HL.out.k.lt)
          obtain ⟨ah, ch, hhE⟩ := HV.out.shape
          subst hhE
          clear ho2 hb2 CH
          have CW := Lib.hid (waits_any w2 b D s K HKS.out HL2.out.k)
          go_wp2_with fail
          refine CW.out.mono ?_
          rintro e w3 ⟨qv, rfl, ho3, hb3⟩
          have HL3 := Lib.hid (HL2.out.later hb3)
          have HV3 := Lib.hid (HV.out.later hb3)
          have HQ := Lib.hid (Lst.new (xs := (s K).row.map Prod.fst) ho3 rfl HL2.out.k.lt)
          obtain ⟨aq, cq, hqE⟩ := HQ.out.shape
          subst hqE
          clear ho3 hb3 CW HL2 HV HL
          have hle := (HL3.out.k.good K).le
          obtain ⟨ws, hws⟩ : ∃ x, x = (s K).row.map Prod.fst := ⟨_, rfl⟩
          have hws8 : ws.length ≤ 8 := by rw [hws, List.length_map]; omega
          rw [← hws] at HQ ⊢
          obtain ⟨wl, hwl⟩ : ∃ x, x = ws.length := ⟨_, rfl⟩
          rw [← hwl] at hws8 ⊢
          have HWL := Lib.hid hwl
          have HI0 : Hid (Lw W w3 b D s ∧ Lst w3 D (.slice ah (s K).hs.length ch) (s K).hs ∧ Lst w3 D (.slice aq wl cq) ws ∧ (∃ t, ws = t ++ (s K).row.map Prod.fst ∧ t.length = 0) ∧ (s K).hs.length + (s K).row.length + 0 ≤ 8) :=
            ⟨HL3.out, HV3.out, by rw [hwl]; exact HQ.out, ⟨[], by rw [hws]; rfl, rfl⟩, by omega⟩
          obtain ⟨hl0, hhl0⟩ : ∃ x, x = (s K).hs.length := ⟨_, rfl⟩
          rw [← hhl0] at HI0 ⊢
          have HH0 := Lib.hid hhl0
          clear hws hwl hle HL3 HV3 HQ hhl0 HKY HLN HAT
          go_wp2
          go_loopw [7, 10, 11, 12, 13, 14] (fun s7 s10 s11 s12 s13 s14 wq => ∃ (k hd hl : Nat) (ah : Option Addr) (ch : Nat) (D : Nat → Prop) (s : Qk.Sts), s7 = .slice ah hl ch ∧ s10 = .int .i64 (hd : Int) ∧ s11 = .int .i64 (k : Int) ∧ hd ≤ wl ∧ Hid (hl = (s K).hs.length) ∧ Hid (Lw W wq b D s ∧ Lst wq D (.slice ah hl ch) (s K).hs ∧ Lst wq D (.slice aq wl cq) ws ∧ (∃ t, ws = t ++ (s K).row.map Prod.fst ∧ t.length = hd) ∧ (s K).hs.length + (s K).row.length + k ≤ 8)) (fun s7 s10 s11 s12 s13 s14 _ => 20 - (intOf s11).toNat)
          case atStart => exact ⟨0, 0, hl0, ah, ch, D, s, rfl, rfl, rfl, Nat.zero_le _, HH0, by have h9 := HI0.out; exact ⟨h9.1, h9.2.1, h9.2.2.1, h9.2.2.2.1, by have h1 := h9.2.2.2.2; have h2 := HH0.out; omega⟩⟩
          case round =>
            obtain ⟨k, hd, hl, ah, ch, D, s, rfl, rfl, rfl, hdw, HHL, HI⟩ := hrel
            have hk8 : k ≤ 8 := by have := HI.out.2.2.2.2; omega
            by_cases h0 : hl = 0
            · have hz : (s K).hs = [] := List.eq_nil_of_length_eq_zero (by rw [← HHL.out]; exact h0)
              have hnob := (HI.out.1.k.good K).empty hz
              have hdE : hd = wl := by
                obtain ⟨t, e1, e2⟩ := HI.out.2.2.2.1
                rw [hnob] at e1
                rw [HWL.out, e1]; simp [Qk.nob]; exact e2.symm
              subst hdE
              subst h0
              have CW := Lib.hid (waits_any wr b D s K HKS.out HI.out.1.k)
              rw [hnob] at CW
              have HLW := Lib.hid HI.out.1
              clear HI hnob hz
              go_wp2_with fail
              refine CW.out.mono ?_
              rintro e w5 ⟨v5, rfl, ho5, hb5⟩
              obtain ⟨a5, c5, h5E⟩ := qo_form ho5
              have e5 : ((Qk.nob).row.map Prod.fst).length = 0 := rfl
              rw [e5] at h5E
              subst h5E
              have LV := Lib.hid (lives18 w5)
              have HB5 := Lib.hid (HLW.out.bel.trans (hb5.mono HLW.out.bel.size))
              clear ho5 hb5 CW HLW e5
              go_wp2_with fail
              refine LV.out.mono ?_
              rintro e w9 ⟨rfl, hb9⟩
              have HB9 := Lib.hid (HB5.out.trans (hb9.mono HB5.out.size))
              clear hb9
              go_wp2
              go_ret
              exact ⟨rfl, HB9.out⟩
            · obtain ⟨hi1, hi2, hi3, ⟨t, ht1, ht2⟩, hi5⟩ := HI.out
              have hhn : 0 < (s K).hs.length := by rw [← HHL.out]; omega
              obtain ⟨p, hp⟩ : ∃ p, (s K).hs[0]? = some p := ⟨(s K).hs[0]'hhn, List.getElem?_eq_getElem _⟩
              have hpm : p ∈ (s K).hs := List.mem_of_getElem? hp
              obtain ⟨f1, f2, f3⟩ := all_free (hi1.k.good K) hpm
              have hhl1 : 0 < hl := by omega
              have h2o := hi2.1
              rw [← HHL.out] at h2o
              obtain ⟨g, rfl, hcc, hr⟩ := qn_cells h2o hhl1
              have r0 := hr 0 hhl1
              rw [hp] at r0
              have r0' : wr.cell? ⟨g, 0, none⟩ = some (.int .i64 (p : Int)) := r0
              have CF := Lib.hid (freeA_any wr b D s K HKS.out (p : Int) hi1.k)
              unfold FreeP at CF
              rw [f1] at CF
              obtain ⟨s3, hs3⟩ : ∃ x, x = Qk.upd s K (Qk.free (s K) (p : Int)) := ⟨_, rfl⟩
              have hs3K : s3 K = Qk.free (s K) (p : Int) := by rw [hs3, Qk.upd_same]
              rw [← hs3] at CF
              obtain ⟨ns, hns⟩ : ∃ x, x = Qk.freeN (s K) (p : Int) := ⟨_, rfl⟩
              rw [← hns] at CF f2
              rw [← hs3K] at f2 f3
              have HFA := Lib.hid (And.intro f2 f3)
              have HT := Lib.hid (And.intro ht1 ht2)
              have HI1 := Lib.hid hi1
              have HI3 := Lib.hid hi3
              have HI5 := Lib.hid hi5
              have d20 : decide ((k : Int) > 20) = false := decide_eq_false (by omega)
              have hgt : decide ((hl : Int) > 0) = true := decide_eq_true (by omega)
              clear hi1 hi2 hi3 ht1 ht2 hi5 hhn hp hpm f1 f2 f3 h2o hr r0 hs3 hs3K hns HI
              go_wp2_with fail
              refine CF.out.mono ?_
              rintro e w5 ⟨nv, D5, rfl, ho5, hk5, hn5, hd5⟩
              have HL5 := Lib.hid (HI1.out.nxt hk5 hn5)
              have HQ5 := Lib.hid (HI3.out.nxt hn5)
              have HN5 : Hid (Lst w5 D5 nv ns) := ⟨World.ownsRow.mono ho5 (Nat.zero_le _), hd5⟩
              obtain ⟨an, cn, hnE⟩ := HN5.out.shape
              subst hnE
              obtain ⟨nl, hnl⟩ : ∃ x, x = ns.length := ⟨_, rfl⟩
              rw [← hnl] at HN5 ⊢
              have hwsE : ∃ t, ws = t ++ (ns ++ (s3 K).row.map Prod.fst) ∧ t.length = hd := by
                obtain ⟨t, e1, e2⟩ : ∃ t, ws = t ++ (s K).row.map Prod.fst ∧ t.length = hd := ⟨_, HT.out.1, HT.out.2⟩
                exact ⟨t, by rw [e1, HFA.out.1], e2⟩
              have hsum : hd + nl ≤ wl := by
                obtain ⟨t, e1, e2⟩ := hwsE
                rw [HWL.out, e1, List.length_append, List.length_append, e2, hnl]; omega
              have HWE := Lib.hid hwsE
              have HRN : Hid (∀ j, j < nl → ∃ g, an = some ⟨g, 0, none⟩ ∧ nl ≤ cn ∧ w5.cell? ⟨g, j, none⟩ = some (.int .i64 ((ns[j]?.getD 0 : Nat) : Int))) := fun j hj => by
                have h9 := HN5.out.1
                rw [← hnl] at h9
                obtain ⟨g, e, hc, hr⟩ := qn_cells h9 (by omega)
                exact ⟨g, e, hc, hr j hj⟩
              have HRW : Hid (∀ j, j < nl → ∃ g, aq = some ⟨g, 0, none⟩ ∧ wl ≤ cq ∧ w5.cell? ⟨g, hd + j, none⟩ = some (.int .i64 ((ns[j]?.getD 0 : Nat) : Int))) := fun j hj => by
                have h9 := HQ5.out.1
                rw [← HWL.out] at h9
                obtain ⟨g, e, hc, hr⟩ := qn_cells h9 (by omega)
                refine ⟨g, e, hc, ?_⟩
                rw [hr (hd + j) (by omega)]
                obtain ⟨t, e1, e2⟩ := HWE.out
                rw [e1, List.getElem?_append_right (by omega), List.getElem?_append_left (by omega), e2, Nat.add_sub_cancel_left]
              have HNL := Lib.hid hnl
              clear ho5 hk5 hn5 hd5 CF r0' hwsE hnl HI1 HI3 HN5 HT
              go_wp2
              clear d20 hgt
              go_loopw [10, 14] (fun s10 s14 wq => ∃ j q : Nat, s10 = .int .i64 ((hd + j : Nat) : Int) ∧ s14 = .int .i64 (j : Int) ∧ j ≤ nl ∧ wq = w5.drewN q) (fun s10 s14 _ => nl - (intOf s14).toNat)
              case atStart => exact ⟨0, 0, rfl, rfl, Nat.zero_le _, rfl⟩
              case round =>
                obtain ⟨j, q, rfl, rfl, hj, rfl⟩ := hrel
                by_cases hjl : j < nl
                · obtain ⟨g1, rfl, hc1, r1⟩ := HRN.out j hjl
                  obtain ⟨g2, rfl, hc2, r2⟩ := HRW.out j hjl
                  obtain ⟨x, hx⟩ : ∃ x, x = ns[j]?.getD 0 := ⟨_, rfl⟩
                  rw [← hx] at r1 r2
                  obtain ⟨hj2, hhj⟩ : ∃ y, y = hd + j := ⟨_, rfl⟩
                  rw [← hhj] at r2
                  have exx : ((x : Int) != (x : Int)) = false := by simp
                  have hlt2 : hj2 < wl := by omega
                  have d3 : decide ((hj2 : Int) ≥ (wl : Int)) = false := decide_eq_false (by omega)
                  have d4 : decide (wl ≤ hj2) = false := decide_eq_false (by omega)
                  have sm1 : IntKind.i64.wrap ((hj2 : Int) + 1) = ((hj2 + 1 : Nat) : Int) := by rw [IntWalk.i64_in _ (by omega)]; omega
                  have sm2 : IntKind.i64.wrap ((j : Int) + 1) = ((j + 1 : Nat) : Int) := by rw [IntWalk.i64_in _ (by omega)]; omega
                  have HHJ := Lib.hid hhj
                  rw [← hhj]
                  clear hx hhj HRN HRW HFA HWE
                  go_wp2
                  go_quiet (fail)
                  go_wp2
                  exact ⟨⟨j + 1, _, by rw [← Nat.add_assoc, ← HHJ.out]; first | rfl | simp, by first | rfl | trivial | simp, by omega, by first | rfl | trivial⟩, by simp [intOf]; omega⟩
                · obtain rfl : j = nl := by omega
                  have HL6 := Lib.hid (HL5.out.later (below_drewN (Below.refl _ _) q))
                  have HQ6 := Lib.hid (HQ5.out.later (below_drewN (Below.refl _ _) q))
                  have CH := Lib.hid (tells_any (w5.drewN q) b D5 s3 K HKS.out HL6.out.k)
                  clear HRN HRW HL5 HQ5
                  go_wp2_with fail
                  refine CH.out.mono ?_
                  rintro e w7 ⟨hv7, rfl, ho7, hb7⟩
                  have HL7 := Lib.hid (HL6.out.later hb7)
                  have HQ7 := Lib.hid (HQ6.out.later hb7)
                  have HV7 := Lib.hid (Lst.new (xs := (s3 K).hs) ho7 rfl HL6.out.k.lt)
                  obtain ⟨a7, c7, h7E⟩ := HV7.out.shape
                  subst h7E
                  obtain ⟨l7, hl7⟩ : ∃ x, x = (s3 K).hs.length := ⟨_, rfl⟩
                  rw [← hl7] at HV7 ⊢
                  have HL77 := Lib.hid hl7
                  have HFIN : Hid (Lw W w7 b D5 s3 ∧ Lst w7 D5 (.slice a7 l7 c7) (s3 K).hs ∧ Lst w7 D5 (.slice aq wl cq) ws ∧ (∃ t, ws = t ++ (s3 K).row.map Prod.fst ∧ t.length = hd + j) ∧ (s3 K).hs.length + (s3 K).row.length + (k + 1) ≤ 8) := by
                    refine ⟨HL7.out, HV7.out, HQ7.out, ?_, ?_⟩
                    · obtain ⟨t, e1, e2⟩ := HWE.out
                      exact ⟨t ++ ns, by rw [e1, List.append_assoc], by rw [List.length_append, e2, HNL.out]⟩
                    · have h1 := HFA.out.2
                      have h2 := HI5.out
                      omega
                  have smk : IntKind.i64.wrap ((k : Int) + 1) = ((k + 1 : Nat) : Int) := by rw [IntWalk.i64_in _ (by omega)]; omega
                  clear ho7 hb7 CH HL6 HQ6 HL7 HQ7 HV7 hl7 HFA HWE
                  go_wp2
                  exact ⟨⟨k + 1, hd + j, l7, a7, c7, D5, s3, rfl, by first | rfl | simp, by first | rfl | simp, by omega, HL77, HFIN⟩, by simp [intOf]; omega⟩
  · have hf : fewQ acs = false := by simpa using hfew
    rw [hf] at HF0
    have LV := Lib.hid (lives18 W0)
    clear hf hfew hks
    go_wp2_with fail
    refine HF0.out.mono ?_
    rintro e W0 ⟨rfl, rfl⟩
    go_wp2_with fail
    refine LV.out.mono ?_
    rintro e w9 ⟨rfl, hb9⟩
    have HB9 := Lib.hid (HOUT.out _ hb9)
    clear hb9
    go_wp2
    go_ret
    exact ⟨rfl, HB9.out⟩

set_option maxRecDepth 100000 in
theorem locksAll_lifted (os : Os) (started : os.Started) (H : Type) (enc : TypeId × Value → H) :
    ReturnsInHanded {} Try.checked os 6 .any (Rows.locksAllSpec.pre6 enc Try.prog Try.f6 Rows.locksAllRow.domain false) (Rows.locksAllSpec.post enc Try.prog Try.f6 false true false false) := by
  refine returnsInHanded_of_change_sized (C := Try.checked) Try.own started (by kernel_rfl) Try.func6
    (ChangeSpec.witness6 (enc := enc) (C := Try.checked) false ⟨#[], #[.slice none 0 0, .string ByteArray.empty], []⟩ 8 (by kernel_rfl) (by kernel_rfl) (by kernel_rfl) (by kernel_rfl)) ?_
  intro W base args ds gs before hval0 hW _ hsz0 _
  have hval : ∀ (j : Nat) t v, Try.f6.params[j]? = some t → args[j]? = some v → Value.okWide Try.prog W .any base t v := hval0
  have hsz : (DataW.weightsEach Try.prog (Try.f6.params.toList ++ Rows.locksAllSpec.plain.varTypes Try.prog) (ds ++ gs)).all (· ≤ reachBytes) = true := hsz0
  have hW' := hW
  obtain ⟨p, q, hA0, hV, rfl, hfz, hnd⟩ := hW
  have hA : DataW.TrodAll enc Try.prog W 0 (fun _ => true) true Try.f6.params.toList args.toList ds p := hA0
  rw [Try.params6] at hA hval hsz
  obtain ⟨v0, vs0, d0, ds0, p0, q0, hargs, rfl, rfl, h0, r0⟩ := trodAll_cons hA
  obtain ⟨v1, vs1, d1, ds1, p1, q1, rfl, rfl, rfl, h1, r1⟩ := trodAll_cons r0
  obtain ⟨rfl, rfl, rfl⟩ := trodAll_nil r1
  obtain rfl : args = #[v0, v1] := by cases args; simp_all
  obtain ⟨rfl, rfl⟩ := trodVars_none hV
  have k0 := h0
  have lt0 : ∀ x ∈ p0, x.block < W.heap.size := by obtain ⟨m, hm⟩ := k0; exact DataW.trod_lt m _ _ _ hm
  obtain ⟨as0, al0⟩ := qacts_open (hval 0 22 v0 rfl rfl) h0
  have k1 := h1
  have lt1 : ∀ x ∈ p1, x.block < W.heap.size := by obtain ⟨m, hm⟩ := k1; exact DataW.trod_lt m _ _ _ hm
  obtain ⟨S1, ev1, ed1, _, wn1⟩ := Go.ChangeMaps.open_string Try.underlying9 (hval 1 9 v1 rfl rfl) h1
  subst ev1
  clear hA0 hval0 hsz0
  refine (locksAll_walk v0 as0 S1 W al0 wn1).mono fun e W' ⟨he, bel⟩ => ?_
  subst he
  exact ⟨_, rfl, _, _, _, [], _, [], hW', trodAll_mk1 (shut_bool Try.underlying4 _), (trodAll_cons_mk (Below.trod Try.laidOut (by kernel_rfl) (of_decide_eq_true (by kernel_rfl)) k0 bel lt0) (trodAll_cons_mk (Below.trod Try.laidOut (by kernel_rfl) (of_decide_eq_true (by kernel_rfl)) k1 bel lt1) trodAll_mk0)), rfl, bel.frame _, fun h => by cases h⟩

theorem locksAll_proved : Rows.LocksAllSaid :=
  OpenClaim.holds_of_wide 6 Try.f6 rfl rfl rfl rfl rfl rfl rfl ⟨rfl, rfl, rfl, rfl, rfl⟩ rfl rfl rfl rfl rfl (by kernel_rfl) Try.func6 (by kernel_rfl)
    (of_decide_eq_true (by kernel_rfl)) (by unfold Func.isWrapper; rw [if_neg (of_decide_eq_false (by kernel_rfl))]; exact ⟨rfl, rfl⟩)
    (fun os started H enc _ => locksAll_lifted os started H enc)
end Go.Proofs.Ytoipmdemicdhoaa
