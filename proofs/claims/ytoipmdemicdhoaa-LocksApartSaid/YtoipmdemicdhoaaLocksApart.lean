/- The statement LocksApart: who writes is alone; nobody holds a key twice, or holds it and waits for it; somebody waits only where somebody holds. It holds for every input, without a condition. -/
import Derived.Test.YtoipmdemicdhoaaQlaw
import Derived.Test.YtoipmdemicdhoaaAppk

namespace Go.Proofs.Ytoipmdemicdhoaa
set_option maxRecDepth 100000
open Go.ChangeShapes Go.WideShapes Go.ChangeAt Go.RowKit

/-- Those who hold a key, and those who wait for it, in one list. -/
theorem all_app {w : World} {v1 v2 : Value} {xs ys : List Nat} (h1 : w.ownsRow 0 3 1 v1 xs.length (qn xs)) (h2 : w.ownsRow 0 3 1 v2 ys.length (qn ys)) (hx : xs.length ≤ 8) (hy : ys.length ≤ 8) (ty ty2 : TypeId) :
    ∃ u w3 a cap w4, (Builtin.append_ #[32, 32] ty #[.slice (some ⟨w.heap.size, 0, none⟩) 0 0, v1]).run Try.prog (w.alloc (.cells #[] 3)) = .ok u w3 ∧ (Builtin.append_ #[32, 32] ty2 #[u, v2]).run Try.prog w3 = .ok (.slice a (xs ++ ys).length cap) w4 ∧
      w4.ownsRow w.heap.size 3 1 (.slice a (xs ++ ys).length cap) (xs ++ ys).length (qn (xs ++ ys)) ∧ Below w.heap.size w w4 := by
  obtain ⟨i0, hi, hz0, hz1, hz2⟩ := qinfo Try.infoIntQ
  have hb := below1 w (.cells #[] 3)
  have hown := World.ownsRow_lit (base := w.heap.size) (e := 3) (size := 1) w #[] 0 (Nat.le_refl _) (by unfold maxLen; omega) rfl
  have src : ∀ (W : World) (v : Value) (zs : List Nat), W.ownsRow 0 3 1 v zs.length (qn zs) → ∃ sp c, v = .slice sp zs.length c ∧ (sp = none → zs.length = 0 ∧ c = 0) ∧ (0 < zs.length → ∃ ad, sp = some ad ∧ ∀ j u, (qn zs)[j]? = some u → W.cell? (ad.add j) = some u) := by
    intro W v zs h
    rcases h.2 with ⟨e1, e2⟩ | ⟨g, cap, cur, e1, _, hg, _⟩
    · rw [e2]; exact ⟨none, 0, e1, fun _ => ⟨rfl, rfl⟩, fun h => absurd h (by omega)⟩
    · refine ⟨some ⟨g, 0, none⟩, cap, e1, (fun h => by cases h), fun h0 => ⟨_, rfl, fun j u hj => ?_⟩⟩
      subst e1
      rw [Addr.add_mid, Nat.zero_add]
      have hj2 := (List.getElem?_eq_some_iff.1 hj).1
      rw [h.cellAt j (by rw [qn_length] at hj2; omega)]
      exact hj
  have h1' : (w.alloc (.cells #[] 3)).ownsRow 0 3 1 v1 xs.length (qn xs) := h1.alloc _
  obtain ⟨sp1, c1, rfl, n1, q1⟩ := src _ v1 xs h1'
  obtain ⟨g1, cap1, w3, r1, o1, e1⟩ := run_append_mine (P := Try.prog) (w := w.alloc (.cells #[] 3)) w.heap.size 32 ty 3 i0 (.int .i64 0) 1 8 Try.underlying32 hi hz0 hz1 hz2 rfl (by decide)
    w.heap.size 0 0 [] hown sp1 xs.length c1 (qn xs) (by rw [qn_length]; omega) n1 q1 (qn_one _) (by unfold maxLen; omega) (by omega) (by simp)
  rw [Nat.zero_add, List.nil_append] at o1
  rw [Nat.zero_add] at r1
  have hb3 : Below w.heap.size w w3 := (hb.mono (Nat.le_refl _)).grown e1 (by simp) (fun k e => by cases e; exact Nat.le_refl _)
  have h2' : w3.ownsRow 0 3 1 v2 ys.length (qn ys) := qo_same h2 (fun g hg => hb3.block g (World.ownsRow.lt h2 g hg).2)
  obtain ⟨sp2, c2, rfl, n2, q2⟩ := src _ v2 ys h2'
  obtain ⟨g2, cap2, w4, r2, o2, e2⟩ := run_append_mine (P := Try.prog) (w := w3) w.heap.size 32 ty2 3 i0 (.int .i64 0) 1 8 Try.underlying32 hi hz0 hz1 hz2 rfl (by decide)
    g1 cap1 xs.length (qn xs) o1 sp2 ys.length c2 (qn ys) (by rw [qn_length]; omega) n2 q2 (qn_one _) (by unfold maxLen; omega) (by omega) hb3.size
  rw [← qn_append, ← List.length_append] at o2
  rw [← List.length_append] at r2
  exact ⟨_, w3, _, cap2, w4, r1, r2, o2, hb3.grown e2 hb3.size (fun k e => by cases e; exact (World.ownsRow.lt o1 g1 rfl).1)⟩

theorem nodup_get {l : List Nat} (h : l.Nodup) {i j : Nat} (hi : i < l.length) (hj : j < l.length) (hne : i ≠ j) : l[i]?.getD 0 ≠ l[j]?.getD 0 := by
  rw [List.getElem?_eq_getElem hi, List.getElem?_eq_getElem hj]
  intro e
  exact hne ((List.getElem_inj h).1 e)

set_option maxRecDepth 100000 in
set_option maxHeartbeats 16000000 in
theorem locksApart_walk (v : Value) (acs : List QAc) (W : World) (ha : QActs W v acs) :
    Calls Try.prog 4 #[v] W fun e w' => e = .returned (.bool true) ∧ Below W.heap.size W w' := by
  obtain ⟨aa, cap, rfl, hcp, hl9⟩ := ha.shape
  have HN := Lib.hid (new_any W)
  have HFW := Lib.hid (fun w' hb => few_any (.slice aa acs.length cap) acs W w' ha hb)
  have HAT := Lib.hid (fun (h0 : 0 < acs.length) => ha.at h0)
  obtain ⟨n, hn⟩ : ∃ n, n = acs.length := ⟨_, rfl⟩
  have HNN := Lib.hid hn
  rw [← hn] at HFW hcp hl9 ⊢
  clear ha hn
  go_enter Try.func4, Try.ntmps4
  go_wp2_with fail
  refine HN.out.mono ?_
  rintro e W0 ⟨b, D0, rfl, hl0, hb0, hd0⟩
  have HL0 : Hid (Lw W W0 b D0 (fun _ => Qk.nob)) := ⟨hl0, hb0, hd0⟩
  have HF0 := Lib.hid (HFW.out W0 hb0)
  clear HN hl0 hb0 hd0 HFW
  by_cases hfew : fewQ acs = true
  · rw [hfew] at HF0
    have HLN := Lib.hid (fewQ_len hfew)
    have HKY := Lib.hid (fun i (a : QAc) (h : acs[i]? = some a) => fewQ_key hfew h)
    clear hfew
    go_wp2_with fail
    refine HF0.out.mono ?_
    rintro e W0 ⟨rfl, rfl⟩
    clear HF0
    go_wp2
    go_loopw [4, 5, 6, 7, 8, 9, 10] (fun s4 s5 s6 s7 s8 s9 s10 wr => ∃ (i : Nat) (D : Nat → Prop) (s : Qk.Sts), s4 = .int .i64 (i : Int) ∧ i ≤ n ∧ Hid (Lw W wr b D s)) (fun s4 s5 s6 s7 s8 s9 s10 _ => n - (intOf s4).toNat)
    case atStart => exact ⟨0, D0, _, rfl, Nat.zero_le _, HL0⟩
    case round =>
      obtain ⟨i, D, s, rfl, hin, HL⟩ := hrel
      by_cases hlt : i < n
      · obtain ⟨bb, off, rfl, hbl, hq⟩ := HAT.out (by rw [← HNN.out]; omega)
        obtain ⟨ac, hac⟩ : ∃ ac : QAc, acs[i]? = some ac := ⟨acs[i]'(by rw [← HNN.out]; exact hlt), List.getElem?_eq_getElem _⟩
        have hky := HKY.out i ac hac
        have hA := hq wr HL.out.bel i ac hac
        obtain ⟨c0, c1, c2, c3, -⟩ := hA
        have CD := Lib.hid (do_any wr b D s ac (by omega) HL.out.k)
        have HQK : Hid (∀ w', Below W.heap.size W w' → w'.cell? ⟨bb, off + i * 4 + 2, none⟩ = some (.string ac.key)) := fun w' hb => (hq w' hb i ac hac).key
        have HKL := Lib.hid (show ac.key.size ≤ 1000 by omega)
        have hl100 := HLN.out
        have hi9 : i + 1 ≤ 9223372036854775807 := by rw [← HNN.out] at hl100; omega
        clear hq hac hky
        go_wp2_with fail
        refine CD.out.mono ?_
        rintro e w1 ⟨rfl, D1, hk1, hn1⟩
        have HL1 := Lib.hid (HL.out.nxt hk1 hn1)
        clear hk1 hn1 CD c0 c1 c2 c3
        have c2 := HQK.out w1 HL1.out.bel
        generalize hS1 : Qk.stepA s ac = s1 at *
        clear hS1 HL
        have CH := Lib.hid (tells_any w1 b D1 s1 ac.key HKL.out HL1.out.k)
        go_wp2_with fail
        refine CH.out.mono ?_
        rintro e w2 ⟨hv, rfl, ho2, hb2⟩
        have HL2 := Lib.hid (HL1.out.later hb2)
        have HV := Lib.hid (Lst.new (xs := (s1 ac.key).hs) ho2 rfl HL1.out.k.lt)
        obtain ⟨ah, ch, hhE⟩ := HV.out.shape
        subst hhE
        clear ho2 hb2 CH c2
        have c2 := HQK.out w2 HL2.out.bel
        have CW := Lib.hid (waits_any w2 b D1 s1 ac.key HKL.out HL2.out.k)
        go_wp2_with fail
        refine CW.out.mono ?_
        rintro e w3 ⟨qv, rfl, ho3, hb3⟩
        have HL3 := Lib.hid (HL2.out.later hb3)
        have HV3 := Lib.hid (HV.out.later hb3)
        have HQ := Lib.hid (Lst.new (xs := (s1 ac.key).row.map Prod.fst) ho3 rfl HL2.out.k.lt)
        obtain ⟨aq, cq, hqE⟩ := HQ.out.shape
        subst hqE
        clear ho3 hb3 CW c2 HL1 HL2 HV HQK
        have hG := HL3.out.k.good ac.key
        have hle := hG.le
        obtain ⟨hs, hhs⟩ : ∃ x, x = (s1 ac.key).hs := ⟨_, rfl⟩
        obtain ⟨ws, hws⟩ : ∃ x, x = (s1 ac.key).row.map Prod.fst := ⟨_, rfl⟩
        obtain ⟨z, hzz⟩ : ∃ x, x = (s1 ac.key).wr := ⟨_, rfl⟩
        have hnd := hG.nodup
        have hal := hG.alone
        have hem : hs = [] → ws = [] := fun e => by rw [hws, hG.empty (by rw [← hhs]; exact e)]; rfl
        rw [← hhs, ← hws] at hnd
        rw [← hzz, ← hhs] at hal
        have hws2 : ws.length = (s1 ac.key).row.length := by rw [hws, List.length_map]
        rw [← hhs] at hle
        rw [← hhs, ← hzz]
        rw [← hws]
        rw [← hhs] at HV3
        rw [← hws] at HQ
        have HND := Lib.hid hnd
        obtain ⟨u, w5, al, cl, w6, hr1, hr2, ho6, hb6⟩ := all_app HV3.out.1 HQ.out.1 (by omega) (by omega) 32 32
        have HL6 := Lib.hid (HL3.out.later hb6)
        have HO6 := Lib.hid ho6
        have HR1 := Lib.hid hr1
        have HR2 := Lib.hid hr2
        obtain ⟨hl, hhl⟩ : ∃ x, x = hs.length := ⟨_, rfl⟩
        obtain ⟨wl, hwl⟩ : ∃ x, x = ws.length := ⟨_, rfl⟩
        obtain ⟨tl, htl⟩ : ∃ x, x = (hs ++ ws).length := ⟨_, rfl⟩
        have htl2 : tl = hl + wl := by rw [htl, List.length_append, hhl, hwl]
        have htl8 : tl ≤ 16 := by omega
        have hd1 : z = true → hl = 1 := fun e => by rw [hhl]; exact hal e
        have hd2 : hl = 0 → wl = 0 := fun e => by
          rw [hhl] at e
          rw [hwl, hem (List.eq_nil_of_length_eq_zero e)]; rfl
        have HTL := Lib.hid htl
        rw [← hhl]
        rw [← hwl]
        rw [← hhl] at HR1
        rw [← hwl, ← htl] at HR2
        rw [← htl] at HO6
        clear ho6 hb6 hr1 hr2 hG hnd hal hem hhs hws hzz hws2 hhl hwl htl HV3 HQ hle HL3
        have HPR : Hid (∀ p k, p < tl → k < p → (hs ++ ws)[k]?.getD 0 ≠ (hs ++ ws)[p]?.getD 0) := fun p k h1 h2 => nodup_get HND.out (by rw [← HTL.out]; omega) (by rw [← HTL.out]; omega) (by omega)
        have HRD : Hid (∀ W', W' = w6 → ∀ j, j < tl → ∃ g, al = some ⟨g, 0, none⟩ ∧ tl ≤ cl ∧ W'.cell? ⟨g, j, none⟩ = some (.int .i64 (((hs ++ ws)[j]?.getD 0 : Nat) : Int))) := fun W' hW' j hj => by
          rw [hW']
          obtain ⟨g, e, hc, hr⟩ := qn_cells (World.ownsRow.mono HO6.out (Nat.zero_le _)) (by omega)
          exact ⟨g, e, hc, hr j hj⟩
        obtain ⟨xs, hxs⟩ : ∃ x, x = hs ++ ws := ⟨_, rfl⟩
        rw [← hxs] at HPR HRD
        clear hxs HO6 HND HTL
        have hcase : (z = true ∧ hl = 1) ∨ (z = false ∧ hl = 0 ∧ wl = 0) ∨ (z = false ∧ ¬ hl = 0) := by
          cases z with
          | true => exact Or.inl ⟨rfl, hd1 rfl⟩
          | false =>
            by_cases h0 : hl = 0
            · exact Or.inr (Or.inl ⟨rfl, h0, hd2 h0⟩)
            · exact Or.inr (Or.inr ⟨rfl, h0⟩)
        have HTL2 := Lib.hid (And.intro htl2 htl8)
        clear hd1 hd2 htl2 hl100
        rcases hcase with ⟨rfl, rfl⟩ | ⟨rfl, rfl, rfl⟩ | ⟨rfl, hne⟩
        · skip
          go_wp2_with (at_builtin; first | refine wpList_append_known' rfl (.tmp 69) (.tmp 70) 32 rfl _ _ _ _ rfl rfl HR1.out ?_ | refine wpList_append_known' rfl (.tmp 71) (.tmp 72) 32 rfl _ _ _ _ rfl rfl HR2.out ?_)
          go_loopw [9, 10] (fun s9 s10 wq => ∃ p q : Nat, s9 = .int .i64 (p : Int) ∧ p ≤ tl ∧ wq = w6.drewN q) (fun s9 s10 _ => tl - (intOf s9).toNat)
          case atStart => exact ⟨0, 0, rfl, Nat.zero_le _, rfl⟩
          case round =>
            obtain ⟨p, q, rfl, hp, rfl⟩ := hrel
            by_cases hpl : p < tl
            · go_wp2_with fail
              go_loopw [10] (fun s10 wq => ∃ k q : Nat, s10 = .int .i64 (k : Int) ∧ k ≤ p ∧ wq = w6.drewN q) (fun s10 _ => p - (intOf s10).toNat)
              case atStart => exact ⟨0, q, rfl, Nat.zero_le _, rfl⟩
              case round =>
                obtain ⟨k, q2, rfl, hk, rfl⟩ := hrel
                by_cases hkp : k < p
                · obtain ⟨g, rfl, hcl, hr1⟩ := HRD.out w6 rfl k (by omega)
                  obtain ⟨g', e', -, hr2⟩ := HRD.out w6 rfl p hpl
                  cases e'
                  have hne2 := HPR.out p k hpl hkp
                  obtain ⟨x, hx⟩ : ∃ x, x = xs[k]?.getD 0 := ⟨_, rfl⟩
                  obtain ⟨y, hy⟩ : ∃ y, y = xs[p]?.getD 0 := ⟨_, rfl⟩
                  rw [← hx] at hr1 hne2
                  rw [← hy] at hr2 hne2
                  have hq : ((x : Int) == (y : Int)) = false := by rw [beq_eq_false_iff_ne]; intro e; exact hne2 (by omega)
                  have hkt : k < tl := by omega
                  have t16 := HTL2.out.2
                  clear hx hy hne2 HPR
                  go_wp2
                  go_quiet (fail)
                  go_wp2
                  exact ⟨⟨k + 1, _, by first | rfl | simp, by omega, rfl⟩, by simp [intOf]; omega⟩
                · obtain rfl : k = p := by omega
                  have t16 := HTL2.out.2
                  clear HPR HRD
                  go_wp2
                  exact ⟨⟨k + 1, _, by first | rfl | simp, by omega, rfl⟩, by simp [intOf]; omega⟩
            · obtain rfl : p = tl := by omega
              have HLE := Lib.hid (HL6.out.later (below_drewN (Below.refl _ _) q))
              clear HPR HRD
              go_wp2
              exact ⟨⟨i + 1, D1, s1, by first | rfl | simp, by omega, HLE⟩, by simp [intOf]; omega⟩
        · skip
          go_wp2_with (at_builtin; first | refine wpList_append_known' rfl (.tmp 69) (.tmp 70) 32 rfl _ _ _ _ rfl rfl HR1.out ?_ | refine wpList_append_known' rfl (.tmp 71) (.tmp 72) 32 rfl _ _ _ _ rfl rfl HR2.out ?_)
          go_loopw [9, 10] (fun s9 s10 wq => ∃ p q : Nat, s9 = .int .i64 (p : Int) ∧ p ≤ tl ∧ wq = w6.drewN q) (fun s9 s10 _ => tl - (intOf s9).toNat)
          case atStart => exact ⟨0, 0, rfl, Nat.zero_le _, rfl⟩
          case round =>
            obtain ⟨p, q, rfl, hp, rfl⟩ := hrel
            by_cases hpl : p < tl
            · go_wp2_with fail
              go_loopw [10] (fun s10 wq => ∃ k q : Nat, s10 = .int .i64 (k : Int) ∧ k ≤ p ∧ wq = w6.drewN q) (fun s10 _ => p - (intOf s10).toNat)
              case atStart => exact ⟨0, q, rfl, Nat.zero_le _, rfl⟩
              case round =>
                obtain ⟨k, q2, rfl, hk, rfl⟩ := hrel
                by_cases hkp : k < p
                · obtain ⟨g, rfl, hcl, hr1⟩ := HRD.out w6 rfl k (by omega)
                  obtain ⟨g', e', -, hr2⟩ := HRD.out w6 rfl p hpl
                  cases e'
                  have hne2 := HPR.out p k hpl hkp
                  obtain ⟨x, hx⟩ : ∃ x, x = xs[k]?.getD 0 := ⟨_, rfl⟩
                  obtain ⟨y, hy⟩ : ∃ y, y = xs[p]?.getD 0 := ⟨_, rfl⟩
                  rw [← hx] at hr1 hne2
                  rw [← hy] at hr2 hne2
                  have hq : ((x : Int) == (y : Int)) = false := by rw [beq_eq_false_iff_ne]; intro e; exact hne2 (by omega)
                  have hkt : k < tl := by omega
                  have t16 := HTL2.out.2
                  clear hx hy hne2 HPR
                  go_wp2
                  go_quiet (fail)
                  go_wp2
                  exact ⟨⟨k + 1, _, by first | rfl | simp, by omega, rfl⟩, by simp [intOf]; omega⟩
                · obtain rfl : k = p := by omega
                  have t16 := HTL2.out.2
                  clear HPR HRD
                  go_wp2
                  exact ⟨⟨k + 1, _, by first | rfl | simp, by omega, rfl⟩, by simp [intOf]; omega⟩
            · obtain rfl : p = tl := by omega
              have HLE := Lib.hid (HL6.out.later (below_drewN (Below.refl _ _) q))
              clear HPR HRD
              go_wp2
              exact ⟨⟨i + 1, D1, s1, by first | rfl | simp, by omega, HLE⟩, by simp [intOf]; omega⟩
        · have hnz : ((hl : Int) == 0) = false := by rw [beq_eq_false_iff_ne]; omega
          go_wp2_with (at_builtin; first | refine wpList_append_known' rfl (.tmp 69) (.tmp 70) 32 rfl _ _ _ _ rfl rfl HR1.out ?_ | refine wpList_append_known' rfl (.tmp 71) (.tmp 72) 32 rfl _ _ _ _ rfl rfl HR2.out ?_)
          go_loopw [9, 10] (fun s9 s10 wq => ∃ p q : Nat, s9 = .int .i64 (p : Int) ∧ p ≤ tl ∧ wq = w6.drewN q) (fun s9 s10 _ => tl - (intOf s9).toNat)
          case atStart => exact ⟨0, 0, rfl, Nat.zero_le _, rfl⟩
          case round =>
            obtain ⟨p, q, rfl, hp, rfl⟩ := hrel
            by_cases hpl : p < tl
            · go_wp2_with fail
              go_loopw [10] (fun s10 wq => ∃ k q : Nat, s10 = .int .i64 (k : Int) ∧ k ≤ p ∧ wq = w6.drewN q) (fun s10 _ => p - (intOf s10).toNat)
              case atStart => exact ⟨0, q, rfl, Nat.zero_le _, rfl⟩
              case round =>
                obtain ⟨k, q2, rfl, hk, rfl⟩ := hrel
                by_cases hkp : k < p
                · obtain ⟨g, rfl, hcl, hr1⟩ := HRD.out w6 rfl k (by omega)
                  obtain ⟨g', e', -, hr2⟩ := HRD.out w6 rfl p hpl
                  cases e'
                  have hne2 := HPR.out p k hpl hkp
                  obtain ⟨x, hx⟩ : ∃ x, x = xs[k]?.getD 0 := ⟨_, rfl⟩
                  obtain ⟨y, hy⟩ : ∃ y, y = xs[p]?.getD 0 := ⟨_, rfl⟩
                  rw [← hx] at hr1 hne2
                  rw [← hy] at hr2 hne2
                  have hq : ((x : Int) == (y : Int)) = false := by rw [beq_eq_false_iff_ne]; intro e; exact hne2 (by omega)
                  have hkt : k < tl := by omega
                  have t16 := HTL2.out.2
                  clear hx hy hne2 HPR
                  go_wp2
                  go_quiet (fail)
                  go_wp2
                  exact ⟨⟨k + 1, _, by first | rfl | simp, by omega, rfl⟩, by simp [intOf]; omega⟩
                · obtain rfl : k = p := by omega
                  have t16 := HTL2.out.2
                  clear HPR HRD
                  go_wp2
                  exact ⟨⟨k + 1, _, by first | rfl | simp, by omega, rfl⟩, by simp [intOf]; omega⟩
            · obtain rfl : p = tl := by omega
              have HLE := Lib.hid (HL6.out.later (below_drewN (Below.refl _ _) q))
              clear HPR HRD
              go_wp2
              exact ⟨⟨i + 1, D1, s1, by first | rfl | simp, by omega, HLE⟩, by simp [intOf]; omega⟩
      · obtain rfl : i = n := by omega
        have LV := Lib.hid (lives18 wr)
        go_wp2_with fail
        refine LV.out.mono ?_
        rintro e w9 ⟨rfl, hb9⟩
        have HB9 := Lib.hid (HL.out.bel.trans (hb9.mono HL.out.bel.size))
        clear hb9
        go_wp2
        go_ret
        exact ⟨rfl, HB9.out⟩
  · have hf : fewQ acs = false := by simpa using hfew
    rw [hf] at HF0
    clear hf hfew
    go_wp2_with fail
    refine HF0.out.mono ?_
    rintro e W0 ⟨rfl, rfl⟩
    have LV := Lib.hid (lives18 W0)
    have HB0 := Lib.hid HL0.out.bel
    clear HF0 HL0
    go_wp2_with fail
    refine LV.out.mono ?_
    rintro e w9 ⟨rfl, hb9⟩
    have HB9 := Lib.hid (HB0.out.trans (hb9.mono HB0.out.size))
    clear hb9
    go_wp2
    go_ret
    exact ⟨rfl, HB9.out⟩

set_option maxRecDepth 100000 in
theorem locksApart_lifted (os : Os) (started : os.Started) (H : Type) (enc : TypeId × Value → H) :
    ReturnsInHanded {} Try.checked os 4 .any (Rows.locksApartSpec.pre6 enc Try.prog Try.f4 Rows.locksApartRow.domain false) (Rows.locksApartSpec.post enc Try.prog Try.f4 false true false false) := by
  refine returnsInHanded_of_change_sized (C := Try.checked) Try.own started (by kernel_rfl) Try.func4
    (ChangeSpec.witness6 (enc := enc) (C := Try.checked) false ⟨#[], #[.slice none 0 0], []⟩ 8 (by kernel_rfl) (by kernel_rfl) (by kernel_rfl) (by kernel_rfl)) ?_
  intro W base args ds gs before hval0 hW _ hsz0 _
  have hval : ∀ (j : Nat) t v, Try.f4.params[j]? = some t → args[j]? = some v → Value.okWide Try.prog W .any base t v := hval0
  have hsz : (DataW.weightsEach Try.prog (Try.f4.params.toList ++ Rows.locksApartSpec.plain.varTypes Try.prog) (ds ++ gs)).all (· ≤ reachBytes) = true := hsz0
  have hW' := hW
  obtain ⟨p, q, hA0, hV, rfl, hfz, hnd⟩ := hW
  have hA : DataW.TrodAll enc Try.prog W 0 (fun _ => true) true Try.f4.params.toList args.toList ds p := hA0
  rw [Try.params4] at hA hval hsz
  obtain ⟨v0, vs0, d0, ds0, p0, q0, hargs, rfl, rfl, h0, r0⟩ := trodAll_cons hA
  obtain ⟨rfl, rfl, rfl⟩ := trodAll_nil r0
  obtain rfl : args = #[v0] := by cases args; simp_all
  obtain ⟨rfl, rfl⟩ := trodVars_none hV
  have k0 := h0
  have lt0 : ∀ x ∈ p0, x.block < W.heap.size := by obtain ⟨m, hm⟩ := k0; exact DataW.trod_lt m _ _ _ hm
  obtain ⟨as0, al0⟩ := qacts_open (hval 0 22 v0 rfl rfl) h0
  clear hA0 hval0 hsz0
  refine (locksApart_walk v0 as0 W al0).mono fun e W' ⟨he, bel⟩ => ?_
  subst he
  exact ⟨_, rfl, _, _, _, [], _, [], hW', trodAll_mk1 (shut_bool Try.underlying4 _), (trodAll_cons_mk (Below.trod Try.laidOut (by kernel_rfl) (of_decide_eq_true (by kernel_rfl)) k0 bel lt0) trodAll_mk0), rfl, bel.frame _, fun h => by cases h⟩

theorem locksApart_proved : Rows.LocksApartSaid :=
  OpenClaim.holds_of_wide 4 Try.f4 rfl rfl rfl rfl rfl rfl rfl ⟨rfl, rfl, rfl, rfl, rfl⟩ rfl rfl rfl rfl rfl (by kernel_rfl) Try.func4 (by kernel_rfl)
    (of_decide_eq_true (by kernel_rfl)) (by unfold Func.isWrapper; rw [if_neg (of_decide_eq_false (by kernel_rfl))]; exact ⟨rfl, rfl⟩)
    (fun os started H enc _ => locksApart_lifted os started H enc)
end Go.Proofs.Ytoipmdemicdhoaa
