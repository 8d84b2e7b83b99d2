/- The statement SectorSure: what was synced stands behind any crash, in each sector that was not written since, whatever stays of other writes. It holds for every input, without a condition. -/
import Derived.Test.YtdjgjijhokhahaaEall
import Derived.Test.YtdjgjijhokhahaaEdone

namespace Go.Proofs.Ytdjgjijhokhahaa
set_option maxRecDepth 100000
open Go.ChangeShapes Go.WideShapes Go.ChangeAt Go.RowKit

theorem Strs.cell {w : World} {d : Ek.Dk} {s : Value} {k g : Nat} (h : Strs w s (strsTo d k) g) (i : Nat) (hi : i < k) : w.cell? ⟨g, i, none⟩ = some (.string (strB (Ek.now d i))) := by
  obtain ⟨cap, _, _, hc⟩ := h
  rw [hc i (by rw [strsTo_length]; exact hi), strsTo_get d k i hi]; rfl
def vbo (l : List Bool) : List Value := l.map Value.bool
theorem vbo_set (l : List Bool) (i : Nat) (x : Bool) : (vbo l).set i (.bool x) = vbo (l.set i x) := by simp [vbo, List.map_set]
theorem vbo_cell {w : World} {g : Nat} {l : List Bool} (h : Has w g (.cells (vbo l).toArray 4 (0, 0))) (i : Nat) (x : Bool) (hi : l[i]? = some x) : w.cell? ⟨g, i, none⟩ = some (.bool x) := by
  rw [h.cell, List.getElem?_toArray]; simp [vbo, hi]
theorem Try.infoBool : (Try.prog.info? 4).map (fun i => (i.zero, i.size, i.bytes)) = some (some (.bool false), 1, 1) := by kernel_rfl
theorem made_bools (n : Nat) : madeCells #[Value.bool false] n = (vbo (List.replicate n false)).toArray := by
  apply Array.toList_inj.1
  rw [toList_madeCells_one]
  simp [vbo]

namespace Ek
theorem write_shape (d : Dk) (i : Int) (bs : List Nat) : write d i bs = d ∨ ((write d i bs).n = d.n ∧ (write d i bs).sure = d.sure ∧ (write d i bs).loose = d.loose ++ [(i.toNat, bs)] ∧ (write d i bs).used = d.used + 1 ∧ 0 ≤ i ∧ i < (d.n : Int)) := by
  unfold write
  by_cases hb : Bad d i bs
  · exact Or.inl (if_pos hb)
  · rw [if_neg hb]
    by_cases hd : d.dark = true
    · exact Or.inl (if_pos hd)
    · rw [if_neg hd]
      unfold Bad at hb
      exact Or.inr ⟨change_n _, change_sure _, change_loose _, change_used _, by omega, by omega⟩
/-- What was written since the Sync is told by β. -/
structure Sq (d : Dk) (n : Nat) (s : Nat → List Nat) (k : Nat) (β : List Bool) : Prop where
  num : d.n = n
  sure : d.sure = s
  loose : ∀ p ∈ d.loose, β[p.1]? = some true
  used : d.used ≤ 40 + k
  len : β.length = n
theorem Sq.next {d : Dk} {n : Nat} {s : Nat → List Nat} {k : Nat} {β : List Bool} (h : Sq d n s k β) : Sq d n s (k + 1) β := ⟨h.num, h.sure, h.loose, by have := h.used; omega, h.len⟩
theorem Sq.write {d : Dk} {n : Nat} {s : Nat → List Nat} {k : Nat} {β : List Bool} (h : Sq d n s k β) (i : Nat) (hi : i < n) (bs : List Nat) : Sq (write d (i : Int) bs) n s (k + 1) (β.set i true) := by
  have hs : ∀ p ∈ d.loose, (β.set i true)[p.1]? = some true := fun p hp => by
    rw [List.getElem?_set]
    split
    · rw [if_pos (by rw [h.len]; exact hi)]
    · exact h.loose p hp
  have hl : (β.set i true).length = n := by rw [List.length_set]; exact h.len
  have hu := h.used
  rcases write_shape d (i : Int) bs with e | ⟨e1, e2, e3, e4, _, _⟩
  · rw [e]; exact ⟨h.num, h.sure, hs, by omega, hl⟩
  · refine ⟨e1.trans h.num, e2.trans h.sure, fun p hp => ?_, by omega, hl⟩
    rw [e3, List.mem_append, List.mem_singleton] at hp
    rcases hp with hp | rfl
    · exact hs p hp
    · show (β.set i true)[i]? = some true
      rw [List.getElem?_set_self (by rw [h.len]; exact hi)]
theorem Sq.out {d : Dk} {n : Nat} {s : Nat → List Nat} {k : Nat} {β : List Bool} (h : Sq d n s k β) (i : Int) (hi : ¬ (0 ≤ i ∧ i < (n : Int))) (bs : List Nat) : Sq (Ek.write d i bs) n s (k + 1) β := by
  have e : Ek.write d i bs = d := by unfold Ek.write; rw [if_pos (by unfold Bad; rw [h.num]; omega)]
  rw [e]; exact h.next
theorem settle_same {s : Nat → List Nat} {l : List (Nat × List Nat)} {keep : Nat → Int} {i : Nat} (h : ∀ p ∈ l, p.1 ≠ i) (k : Nat) : settleTo s l keep k i = s i := by
  induction k with
  | zero => rfl
  | succ k ih =>
    simp only [settleTo]
    cases hk : l[k]? with
    | none => exact ih
    | some p =>
      show lay _ _ _ _ i = _
      unfold lay
      rw [if_neg (fun e => h p (List.mem_of_getElem? hk) e.symm)]
      exact ih
theorem Sq.same {d : Dk} {n : Nat} {s : Nat → List Nat} {k : Nat} {β : List Bool} (h : Sq d n s k β) (keep : Nat → Int) (i : Nat) (hb : β[i]? = some false) : now (crash d keep) i = s i := by
  show (settled d keep).sure i = s i
  show settleTo d.sure d.loose keep d.loose.length i = s i
  rw [settle_same (fun p hp e => by have := h.loose p hp; rw [e, hb] at this; cases this), h.sure]
theorem sync_fr {d : Dk} {n i : Nat} (h : Fr d n i) : changeE d = 0 ∧ (sync d).n = n ∧ (sync d).dark = false ∧ (sync d).left = -1 ∧ (sync d).loose = [] ∧ (sync d).used = d.used := by
  obtain ⟨a, b⟩ := change_free h.dark h.left
  have e : sync d = settled d (fun _ => 1) := by unfold sync; rw [if_pos b, a]
  rw [e]; exact ⟨b, h.n, h.dark, h.left, rfl, rfl⟩
end Ek

set_option maxRecDepth 100000 in
set_option maxHeartbeats 8000000 in
theorem sure_main (n : Nat) (v : Value) (l : List Ac) (v2 : Value) (m : List Ac) (fz : Int) (kv : Value) (ks : List Int) (w : World) (h1 : 1 ≤ n) (h40 : n ≤ 40) (_lf : -9223372036854775808 ≤ fz) (hf : fz ≤ 9223372036854775807) (hl : Acts w v l) (hm : Acts w v2 m) (hk : Ks w kv ks) (hl40 : l.length ≤ 40) (hm40 : m.length ≤ 40) :
    Calls Try.prog 4 #[.int .i64 (n : Int), v, v2, .int .i64 fz, kv] w fun e w' => e = .returned (.bool true) ∧ Below w.heap.size w w' := by
  have HD := Lib.hid (done_any w n v l h1 (by omega) hl)
  have HKS : Hid (∀ w', Below w.heap.size w w' → Ks w' kv ks) := fun w' hb => hk.keep (keepA_below hb)
  have hfr := Ek.dn_fr n l (min l.length 40)
  obtain ⟨ka, kc, hkv, _⟩ := hk
  subst hkv
  generalize ks.length = kn at HKS
  obtain ⟨a1, cap1, rfl, _, _⟩ := hl
  obtain ⟨a, cap, rfl, _, hat⟩ := hm
  have HAT : Hid (∀ k ac, m[k]? = some ac → ∃ b off, a = some ⟨b, off, none⟩ ∧ ∀ w', Below w.heap.size w w' → AcAt w' b (off + k * 5) ac) := fun k ac hk => by
    have hkl := (List.getElem?_eq_some_iff.1 hk).1
    obtain ⟨b, off, ha, hc⟩ := hat (by omega)
    exact ⟨b, off, ha, fun w' hb => (hc k ac hk).keep' (keepA_below hb)⟩
  obtain ⟨L, hL⟩ : ∃ L, L = l.length := ⟨_, rfl⟩
  obtain ⟨N, hN⟩ : ∃ N, N = m.length := ⟨_, rfl⟩
  rw [← hL] at HD hfr hl40 ⊢
  rw [← hN] at hm40 ⊢
  have HN := Lib.hid hN
  obtain ⟨d, hd⟩ : ∃ d, d = Ek.dn n l (min L 40) := ⟨_, rfl⟩
  rw [← hd] at HD hfr
  obtain ⟨sy0, sy1, sy2, sy3, sy4, sy5⟩ := Ek.sync_fr hfr
  have hu : d.used ≤ 40 := by have := hfr.used; omega
  obtain ⟨d1, hd1⟩ : ∃ d1, d1 = Ek.sync d := ⟨_, rfl⟩
  rw [← hd1] at sy1 sy2 sy3 sy4 sy5
  have HD1 := Lib.hid hd1
  have HSY0 := Lib.hid sy0
  have HSY := Lib.hid (And.intro sy1 (And.intro sy2 (And.intro sy4 sy5)))
  have c1 : decide ((n : Int) < 1) = false := decide_eq_false (by omega)
  have c2 : decide ((40 : Int) < (n : Int)) = false := decide_eq_false (by omega)
  have c3 : decide ((40 : Int) < (L : Int)) = false := decide_eq_false (by omega)
  have c4 : decide ((40 : Int) < (N : Int)) = false := decide_eq_false (by omega)
  have hmk := run_make_row' (P := Try.prog) 46 4 (.bool false) 1 Try.underlying46 Try.infoBool rfl .i64 .i64 n (by omega) (by omega)
  clear hat hL hN hd hfr hd1 sy0 sy1 sy2 sy3 sy4 sy5 _lf hl40 hm40
  go_enter Try.func4, Try.ntmps4
  go_wp2_with fail
  refine HD.out.mono ?_
  rintro e w1 ⟨b, rfl, H1⟩
  clear HD
  have CS := lv_sync H1 (show d.used ≤ 1000 by omega)
  rw [HSY0.out, ← HD1.out] at CS
  clear H1
  go_wp2_with fail
  refine CS.mono ?_
  clear CS
  rintro e w2 ⟨rfl, H2⟩
  have CA := Lib.hid (all_any H2 HSY.out.2.1)
  have H2' := Lib.hid H2.ly
  clear H2
  go_wp2_with fail
  refine CA.out.mono ?_
  clear CA
  rintro e w3 ⟨s, g, rfl, hs, hg, hb3⟩
  rw [HSY.out.1] at hs
  have H3 := Lib.hid (H2'.out.add hb3 g hg (by obtain ⟨_, _, h, _⟩ := hs; exact h))
  have hgw : w.heap.size ≤ g := Nat.le_trans H2'.out.below.size hg
  have HGW := Lib.hid hgw
  obtain ⟨sc, hse, hsg, hsc⟩ := hs
  have HS : Hid (Strs w3 s (strsTo d1 n) g) := ⟨sc, hse, hsg, hsc⟩
  rw [strsTo_length] at hse
  subst hse
  clear hb3 hg hsg hsc H2' hgw
  have CF := Lib.hid (ly_fuse H3.out fz hf)
  go_wp2_with fail
  refine CF.out.mono ?_
  clear CF
  rintro e w4 ⟨rfl, H4, hk4⟩
  have HS4 := Lib.hid (HS.out.same (hk4 g (Or.inr rfl)))
  have hB5 := below1 w4 (.cells (madeCells #[Value.bool false] n) 4)
  have H5 := Lib.hid (H4.add hB5 w4.heap.size (Nat.le_refl _) (by simp))
  have HS5 := Lib.hid (HS4.out.later hB5)
  have HG5 : Hid (Has (w4.alloc (.cells (madeCells #[Value.bool false] n) 4)) w4.heap.size (.cells (vbo (List.replicate n false)).toArray 4 (0, 0))) := by
    show Has _ _ _
    rw [← made_bools]; exact Has.new w4 _
  have HGB : Hid (g < w4.heap.size ∧ w.heap.size ≤ w4.heap.size) := ⟨by obtain ⟨_, _, h, _⟩ := HS4.out; exact h, H4.below.size⟩
  have HSQ : Hid (Ek.Sq (Ek.fuse d1 fz) n d1.sure 0 (List.replicate n false)) := ⟨HSY.out.1, rfl, (fun p hp => by rw [show (Ek.fuse d1 fz).loose = [] from HSY.out.2.2.1] at hp; cases hp), by show d1.used ≤ _; rw [HSY.out.2.2.2]; omega, by simp⟩
  clear H3 HS H4 hk4 HS4 hB5 hu
  go_wp2_with fail
  obtain ⟨gB, hgB⟩ : ∃ gB, gB = w4.heap.size := ⟨_, rfl⟩
  rw [← hgB] at H5 HG5 HGB ⊢
  obtain ⟨w5, hw5⟩ : ∃ w5, w5 = w4.alloc (.cells (madeCells #[Value.bool false] n) 4) := ⟨_, rfl⟩
  rw [← hw5] at H5 HG5 HS5 ⊢
  clear hgB hw5 hmk
  go_loopw [14] (fun s14 wr => ∃ (k : Nat) (d : Ek.Dk) (β : List Bool), s14 = .int .i64 (k : Int) ∧ k ≤ N ∧ Hid (Ek.Sq d n d1.sure k β) ∧ Hid (Ly w wr b d (fun q => (False ∨ q = g) ∨ q = gB)) ∧ Hid (Has wr gB (.cells (vbo β).toArray 4 (0, 0))) ∧ Hid (Strs wr (.slice (some ⟨g, 0, none⟩) n sc) (strsTo d1 n) g)) (fun s14 _ => N - (intOf s14).toNat)
  case atStart => exact ⟨0, _, _, by go_num, Nat.zero_le _, HSQ, H5, HG5, HS5⟩
  case round =>
    obtain ⟨k, d, β, rfl, hk, KQ, KL, KG, KS⟩ := hrel
    have hw := KL.out.below
    have hu : d.used ≤ 40 + k := KQ.out.used
    by_cases hlt : k < N
    · have hN4 : N ≤ 40 := by have := c4; simp at this; omega
      have hu2 : d.used ≤ 80 := by omega
      have j0 : decide ((k : Int) < (N : Int)) = true := decide_eq_true (by omega)
      have j1 : (0 : Int) ≤ (k : Int) := by omega
      have j2 : (k : Int) < (N : Int) := by omega
      have j3 : (k : Int) ≤ 40 := by omega
      have j4 : k ≤ 40 := by omega
      obtain ⟨ac, hac⟩ : ∃ ac, m[k]? = some ac := ⟨_, List.getElem?_eq_getElem (by rw [← HN.out]; exact hlt)⟩
      obtain ⟨bA, oA, rfl, hA⟩ := HAT.out k ac hac
      have HA := Lib.hid hA
      have q0 := (hA wr hw).kind
      have q1 := (hA wr hw).i
      clear hA hac hw HAT hu hN4
      by_cases hk2 : ac.kind = 2
      · have k2 : (ac.kind == 2) = true := by simpa using hk2
        have KQ2 := Lib.hid KQ.out.next
        clear hk2
        go_wp2_with fail
        go_round
        case rel => exact ⟨k + 1, _, β, by go_num, by omega, KQ2, KL, KG, KS⟩
        case measure => simp [intOf]; omega
      · have k2 : (ac.kind == 2) = false := by simpa using hk2
        by_cases hk1 : ac.kind = 1
        · have k1 : (ac.kind == 1) = true := by simpa using hk1
          by_cases hin : 0 ≤ ac.i ∧ ac.i < (n : Int)
          · obtain ⟨ii, hii⟩ : ∃ ii : Nat, ac.i = (ii : Int) := ⟨ac.i.toNat, by omega⟩
            have hin2 : ii < n := by omega
            have e1 : decide ((0 : Int) ≤ (ii : Int)) = true := decide_eq_true (by omega)
            have e2 : decide ((ii : Int) < (n : Int)) = true := decide_eq_true (by omega)
            have e3 : (0 : Int) ≤ (ii : Int) := by omega
            have e4 : (ii : Int) < (n : Int) := by omega
            rw [hii] at q1
            have hlen := KQ.out.len
            have y1 := vbo_cell KG.out ii β[ii] (List.getElem?_eq_getElem (by omega))
            have y2 := KG.out.free ii
            obtain ⟨old, hold⟩ : ∃ old, old = β[ii]'(by omega) := ⟨_, rfl⟩
            rw [← hold] at y1
            have hgb := HGB.out
            have KG6 : Hid (Has (wr.setCell ⟨gB, ii, none⟩ (.bool true)) gB (.cells (vbo (β.set ii true)).toArray 4 (0, 0))) := by
              show Has _ _ _
              have := KG.out.setSelf (i := ii) (.bool true)
              rw [← vbo_set]
              simpa using this
            have KS6 := Lib.hid (KS.out.same (w' := wr.setCell ⟨gB, ii, none⟩ (.bool true)) (Below.heap_setCell wr ⟨gB, ii, none⟩ _ g (by show g ≠ gB; omega)))
            have KL6 : Hid (Ly w (wr.setCell ⟨gB, ii, none⟩ (.bool true)) b d (fun q => (False ∨ q = g) ∨ q = gB)) := KL.out.turned ((Tch.refl _ wr).setCell (p := ⟨gB, ii, none⟩) (Or.inr rfl) _) (fun q hq => by
              have := HGW.out
              rcases hq with (h | rfl) | rfl
              · exact h.elim
              · exact this
              · exact hgb.2)
            have hq6 := HA.out _ KL6.out.below
            have q06 := hq6.kind
            have KQ6 := Lib.hid (KQ.out.write ii hin2 (Ek.fil ac.c (Ek.fln ac.long)))
            have HII := Lib.hid hii
            clear hin hin2 hk1 hk2 hlen hold hgb hq6 hii
            go_wp2_with fail
            obtain ⟨W1, hW1⟩ : ∃ W1, W1 = wr.setCell ⟨gB, ii, none⟩ (.bool true) := ⟨_, rfl⟩
            rw [← hW1] at KG6 KS6 KL6 ⊢
            clear hW1 q06 y1 y2
            have HW0 : Hid (Below w.heap.size w (W1).drew) := below_drewN KL6.out.below 1
            refine wp_region_held_drew (S := fun wx => Below w.heap.size w wx) (by kernel_rfl) HW0.out (fun _ => ?_)
            change wpAnyH _ _ _ _ _ 18 (Array.replicate 18 false) _ _
            refine wpAnyH_take (i := 0) (v := ?_) rfl (by kernel_rfl) (by kernel_rfl) (by kernel_rfl) (fun _ _ _ h => h) (Or.inl ⟨rfl, ?hy0⟩) HW0.out ?_
            case hy0 => intro w' hw'; clear hw'; go_simp; first | done | rfl
            try simp only [Act.put, List.getElem_toArray, List.getElem_cons_zero, List.setIfInBounds_toArray, List.set_cons_zero, List.set_cons_succ]
            refine wpAnyH_take (i := 1) (v := ?_) rfl (by kernel_rfl) (by kernel_rfl) (by kernel_rfl) (fun _ _ _ h => h) (Or.inl ⟨rfl, ?hy1⟩) HW0.out ?_
            case hy1 => intro w' hw'; clear hw'; go_simp; first | done | rfl
            try simp only [Act.put, List.getElem_toArray, List.getElem_cons_zero, List.getElem_cons_succ, List.setIfInBounds_toArray, List.set_cons_zero, List.set_cons_succ]
            refine wpAnyH_take (i := 2) (v := ?_) rfl (by kernel_rfl) (by kernel_rfl) (by kernel_rfl) (fun _ _ _ h => h) (Or.inl ⟨rfl, ?hy2⟩) HW0.out ?_
            case hy2 => intro w' hw'; clear hw'; go_simp; first | done | rfl
            try simp only [Act.put, List.getElem_toArray, List.getElem_cons_zero, List.getElem_cons_succ, List.setIfInBounds_toArray, List.set_cons_zero, List.set_cons_succ]
            refine wpAnyH_take (i := 3) (v := ?_) rfl (by kernel_rfl) (by kernel_rfl) (by kernel_rfl) (fun _ _ _ h => h) (Or.inl ⟨rfl, ?hy3⟩) HW0.out ?_
            case hy3 => intro w' hw'; clear hw'; go_simp; first | done | rfl
            try simp only [Act.put, List.getElem_toArray, List.getElem_cons_zero, List.getElem_cons_succ, List.setIfInBounds_toArray, List.set_cons_zero, List.set_cons_succ]
            refine wpAnyH_take (i := 4) (v := ?_) rfl (by kernel_rfl) (by kernel_rfl) (by kernel_rfl) (fun _ _ _ h => h) (Or.inl ⟨rfl, ?hy4⟩) HW0.out ?_
            case hy4 => intro w' hw'; clear hw'; go_simp; first | done | rfl
            try simp only [Act.put, List.getElem_toArray, List.getElem_cons_zero, List.getElem_cons_succ, List.setIfInBounds_toArray, List.set_cons_zero, List.set_cons_succ]
            refine wpAnyH_take (i := 5) (v := ?_) rfl (by kernel_rfl) (by kernel_rfl) (by kernel_rfl) (fun _ _ _ h => h) (Or.inl ⟨rfl, ?hy5⟩) HW0.out ?_
            case hy5 => intro w' hw'; obtain ⟨_, q1, q2, q3, _, _, _, _, _, _⟩ := HA.out w' hw'; clear hw'; go_simp; first | done | rfl
            try simp only [Act.put, List.getElem_toArray, List.getElem_cons_zero, List.getElem_cons_succ, List.setIfInBounds_toArray, List.set_cons_zero, List.set_cons_succ]
            refine wpAnyH_take (i := 6) (v := ?_) rfl (by kernel_rfl) (by kernel_rfl) (by kernel_rfl) (fun _ _ _ h => h) (Or.inl ⟨rfl, ?hy6⟩) HW0.out ?_
            case hy6 => intro w' hw'; clear hw'; go_simp; first | done | rfl
            try simp only [Act.put, List.getElem_toArray, List.getElem_cons_zero, List.getElem_cons_succ, List.setIfInBounds_toArray, List.set_cons_zero, List.set_cons_succ]
            refine wpAnyH_take (i := 7) (v := ?_) rfl (by kernel_rfl) (by kernel_rfl) (by kernel_rfl) (fun _ _ _ h => h) (Or.inl ⟨rfl, ?hy7⟩) HW0.out ?_
            case hy7 => intro w' hw'; clear hw'; go_simp; first | done | rfl
            try simp only [Act.put, List.getElem_toArray, List.getElem_cons_zero, List.getElem_cons_succ, List.setIfInBounds_toArray, List.set_cons_zero, List.set_cons_succ]
            refine wpAnyH_take (i := 8) (v := ?_) rfl (by kernel_rfl) (by kernel_rfl) (by kernel_rfl) (fun _ _ _ h => h) (Or.inl ⟨rfl, ?hy8⟩) HW0.out ?_
            case hy8 => intro w' hw'; clear hw'; go_simp; first | done | rfl
            try simp only [Act.put, List.getElem_toArray, List.getElem_cons_zero, List.getElem_cons_succ, List.setIfInBounds_toArray, List.set_cons_zero, List.set_cons_succ]
            refine wpAnyH_take (i := 9) (v := ?_) rfl (by kernel_rfl) (by kernel_rfl) (by kernel_rfl) (fun _ _ _ h => h) (Or.inl ⟨rfl, ?hy9⟩) HW0.out ?_
            case hy9 => intro w' hw'; clear hw'; go_simp; first | done | rfl
            try simp only [Act.put, List.getElem_toArray, List.getElem_cons_zero, List.getElem_cons_succ, List.setIfInBounds_toArray, List.set_cons_zero, List.set_cons_succ]
            refine wpAnyH_take (i := 10) (v := ?_) rfl (by kernel_rfl) (by kernel_rfl) (by kernel_rfl) (fun _ _ _ h => h) (Or.inl ⟨rfl, ?hy10⟩) HW0.out ?_
            case hy10 => intro w' hw'; obtain ⟨_, q1, q2, q3, _, _, _, _, _, _⟩ := HA.out w' hw'; clear hw'; go_simp; first | done | rfl
            try simp only [Act.put, List.getElem_toArray, List.getElem_cons_zero, List.getElem_cons_succ, List.setIfInBounds_toArray, List.set_cons_zero, List.set_cons_succ]
            refine wpAnyH_take (i := 11) (v := ?_) rfl (by kernel_rfl) (by kernel_rfl) (by kernel_rfl) (fun _ _ _ h => h) (Or.inl ⟨rfl, ?hy11⟩) HW0.out ?_
            case hy11 => intro w' hw'; clear hw'; go_simp; first | done | rfl
            try simp only [Act.put, List.getElem_toArray, List.getElem_cons_zero, List.getElem_cons_succ, List.setIfInBounds_toArray, List.set_cons_zero, List.set_cons_succ]
            refine wpAnyH_take (i := 12) (v := ?_) rfl (by kernel_rfl) (by kernel_rfl) (by kernel_rfl) (fun _ _ _ h => h) (Or.inl ⟨rfl, ?hy12⟩) HW0.out ?_
            case hy12 => intro w' hw'; clear hw'; go_simp; first | done | rfl
            try simp only [Act.put, List.getElem_toArray, List.getElem_cons_zero, List.getElem_cons_succ, List.setIfInBounds_toArray, List.set_cons_zero, List.set_cons_succ]
            refine wpAnyH_take (i := 13) (v := ?_) rfl (by kernel_rfl) (by kernel_rfl) (by kernel_rfl) (fun _ _ _ h => h) (Or.inl ⟨rfl, ?hy13⟩) HW0.out ?_
            case hy13 => intro w' hw'; clear hw'; go_simp; first | done | rfl
            try simp only [Act.put, List.getElem_toArray, List.getElem_cons_zero, List.getElem_cons_succ, List.setIfInBounds_toArray, List.set_cons_zero, List.set_cons_succ]
            refine wpAnyH_take (i := 14) (v := ?_) rfl (by kernel_rfl) (by kernel_rfl) (by kernel_rfl) (fun _ _ _ h => h) (Or.inl ⟨rfl, ?hy14⟩) HW0.out ?_
            case hy14 => intro w' hw'; clear hw'; go_simp; first | done | rfl
            try simp only [Act.put, List.getElem_toArray, List.getElem_cons_zero, List.getElem_cons_succ, List.setIfInBounds_toArray, List.set_cons_zero, List.set_cons_succ]
            refine wpAnyH_take (i := 15) (v := ?_) rfl (by kernel_rfl) (by kernel_rfl) (by kernel_rfl) (fun _ _ _ h => h) (Or.inl ⟨rfl, ?hy15⟩) HW0.out ?_
            case hy15 => intro w' hw'; obtain ⟨_, q1, q2, q3, _, _, _, _, _, _⟩ := HA.out w' hw'; clear hw'; go_simp; first | done | rfl
            try simp only [Act.put, List.getElem_toArray, List.getElem_cons_zero, List.getElem_cons_succ, List.setIfInBounds_toArray, List.set_cons_zero, List.set_cons_succ]
            refine wpAnyH_ready (rs := [16]) (by kernel_rfl) (by simp) ?_
            refine AllReadyH.cons rfl (fun K hK => ?_) AllReadyH.nil
            go_simp
            refine (filled_any (W1).drew ac.c ac.long).mono ?_
            rintro e wF F
            have ef := F.1
            subst ef
            have HWF : Hid (Below w.heap.size w wF) := HW0.out.trans (F.2.2.1.mono HW0.out.size)
            have CW := Lib.hid (ly_filled_write KL6.out.drew F (by have := Ek.fln_le ac.long; omega) ac.i (by omega))
            have HFB : Hid (Below (W1).heap.size (W1) wF) := (below_drewN (Below.refl _ _) 1).trans F.2.2.1
            clear F
            dsimp only
            refine hK.out _ _ HWF.out (fun _ => ?_)
            clear hK K
            try simp only [Act.put, List.getElem_toArray, List.getElem_cons_zero, List.getElem_cons_succ, List.setIfInBounds_toArray, List.set_cons_zero, List.set_cons_succ]
            refine wpAnyH_ready (rs := [17]) (by kernel_rfl) (by simp) ?_
            refine AllReadyH.cons rfl (fun K hK => ?_) AllReadyH.nil
            go_simp
            refine (CW.out).mono ?_
            rintro e w3 ⟨rfl, H3, hk3⟩
            have HK3 := Lib.hid hk3
            clear CW HWF hk3
            dsimp only
            refine hK.out _ _ H3.below (fun _ => ?_)
            clear hK K
            try simp only [Act.put, List.getElem_toArray, List.getElem_cons_zero, List.getElem_cons_succ, List.setIfInBounds_toArray, List.set_cons_zero, List.set_cons_succ]
            refine wpAnyH_done (by kernel_rfl) ?_ _
            have H3' := Lib.hid H3
            clear H3
            go_wp2_with fail
            have HG3 : Hid (Has w3 gB (.cells (vbo (β.set ii true)).toArray 4 (0, 0))) := (HK3.out gB (Or.inr rfl)).trans (KG6.out.later HFB.out)
            have HT3 := Lib.hid ((KS6.out.later HFB.out).same (HK3.out g (Or.inl (Or.inr rfl))))
            go_round
            case rel => exact ⟨k + 1, _, β.set ii true, by go_num, by omega, by rw [HII.out]; exact KQ6, H3', HG3, HT3⟩
            case measure => simp [intOf]; omega
          · have KQ6 := Lib.hid (KQ.out.out ac.i hin (Ek.fil ac.c (Ek.fln ac.long)))
            by_cases hi0 : 0 ≤ ac.i
            · have e1 : decide (0 ≤ ac.i) = true := decide_eq_true hi0
              have e2 : decide (ac.i < (n : Int)) = false := decide_eq_false (by omega)
              clear hin hk1 hk2 hi0
              go_wp2_with fail
              have HW0 : Hid (Below w.heap.size w (wr).drew) := below_drewN KL.out.below 1
              refine wp_region_held_drew (S := fun wx => Below w.heap.size w wx) (by kernel_rfl) HW0.out (fun _ => ?_)
              change wpAnyH _ _ _ _ _ 18 (Array.replicate 18 false) _ _
              refine wpAnyH_take (i := 0) (v := ?_) rfl (by kernel_rfl) (by kernel_rfl) (by kernel_rfl) (fun _ _ _ h => h) (Or.inl ⟨rfl, ?hy0⟩) HW0.out ?_
              case hy0 => intro w' hw'; clear hw'; go_simp; first | done | rfl
              try simp only [Act.put, List.getElem_toArray, List.getElem_cons_zero, List.setIfInBounds_toArray, List.set_cons_zero, List.set_cons_succ]
              refine wpAnyH_take (i := 1) (v := ?_) rfl (by kernel_rfl) (by kernel_rfl) (by kernel_rfl) (fun _ _ _ h => h) (Or.inl ⟨rfl, ?hy1⟩) HW0.out ?_
              case hy1 => intro w' hw'; clear hw'; go_simp; first | done | rfl
              try simp only [Act.put, List.getElem_toArray, List.getElem_cons_zero, List.getElem_cons_succ, List.setIfInBounds_toArray, List.set_cons_zero, List.set_cons_succ]
              refine wpAnyH_take (i := 2) (v := ?_) rfl (by kernel_rfl) (by kernel_rfl) (by kernel_rfl) (fun _ _ _ h => h) (Or.inl ⟨rfl, ?hy2⟩) HW0.out ?_
              case hy2 => intro w' hw'; clear hw'; go_simp; first | done | rfl
              try simp only [Act.put, List.getElem_toArray, List.getElem_cons_zero, List.getElem_cons_succ, List.setIfInBounds_toArray, List.set_cons_zero, List.set_cons_succ]
              refine wpAnyH_take (i := 3) (v := ?_) rfl (by kernel_rfl) (by kernel_rfl) (by kernel_rfl) (fun _ _ _ h => h) (Or.inl ⟨rfl, ?hy3⟩) HW0.out ?_
              case hy3 => intro w' hw'; clear hw'; go_simp; first | done | rfl
              try simp only [Act.put, List.getElem_toArray, List.getElem_cons_zero, List.getElem_cons_succ, List.setIfInBounds_toArray, List.set_cons_zero, List.set_cons_succ]
              refine wpAnyH_take (i := 4) (v := ?_) rfl (by kernel_rfl) (by kernel_rfl) (by kernel_rfl) (fun _ _ _ h => h) (Or.inl ⟨rfl, ?hy4⟩) HW0.out ?_
              case hy4 => intro w' hw'; clear hw'; go_simp; first | done | rfl
              try simp only [Act.put, List.getElem_toArray, List.getElem_cons_zero, List.getElem_cons_succ, List.setIfInBounds_toArray, List.set_cons_zero, List.set_cons_succ]
              refine wpAnyH_take (i := 5) (v := ?_) rfl (by kernel_rfl) (by kernel_rfl) (by kernel_rfl) (fun _ _ _ h => h) (Or.inl ⟨rfl, ?hy5⟩) HW0.out ?_
              case hy5 => intro w' hw'; obtain ⟨_, q1, q2, q3, _, _, _, _, _, _⟩ := HA.out w' hw'; clear hw'; go_simp; first | done | rfl
              try simp only [Act.put, List.getElem_toArray, List.getElem_cons_zero, List.getElem_cons_succ, List.setIfInBounds_toArray, List.set_cons_zero, List.set_cons_succ]
              refine wpAnyH_take (i := 6) (v := ?_) rfl (by kernel_rfl) (by kernel_rfl) (by kernel_rfl) (fun _ _ _ h => h) (Or.inl ⟨rfl, ?hy6⟩) HW0.out ?_
              case hy6 => intro w' hw'; clear hw'; go_simp; first | done | rfl
              try simp only [Act.put, List.getElem_toArray, List.getElem_cons_zero, List.getElem_cons_succ, List.setIfInBounds_toArray, List.set_cons_zero, List.set_cons_succ]
              refine wpAnyH_take (i := 7) (v := ?_) rfl (by kernel_rfl) (by kernel_rfl) (by kernel_rfl) (fun _ _ _ h => h) (Or.inl ⟨rfl, ?hy7⟩) HW0.out ?_
              case hy7 => intro w' hw'; clear hw'; go_simp; first | done | rfl
              try simp only [Act.put, List.getElem_toArray, List.getElem_cons_zero, List.getElem_cons_succ, List.setIfInBounds_toArray, List.set_cons_zero, List.set_cons_succ]
              refine wpAnyH_take (i := 8) (v := ?_) rfl (by kernel_rfl) (by kernel_rfl) (by kernel_rfl) (fun _ _ _ h => h) (Or.inl ⟨rfl, ?hy8⟩) HW0.out ?_
              case hy8 => intro w' hw'; clear hw'; go_simp; first | done | rfl
              try simp only [Act.put, List.getElem_toArray, List.getElem_cons_zero, List.getElem_cons_succ, List.setIfInBounds_toArray, List.set_cons_zero, List.set_cons_succ]
              refine wpAnyH_take (i := 9) (v := ?_) rfl (by kernel_rfl) (by kernel_rfl) (by kernel_rfl) (fun _ _ _ h => h) (Or.inl ⟨rfl, ?hy9⟩) HW0.out ?_
              case hy9 => intro w' hw'; clear hw'; go_simp; first | done | rfl
              try simp only [Act.put, List.getElem_toArray, List.getElem_cons_zero, List.getElem_cons_succ, List.setIfInBounds_toArray, List.set_cons_zero, List.set_cons_succ]
              refine wpAnyH_take (i := 10) (v := ?_) rfl (by kernel_rfl) (by kernel_rfl) (by kernel_rfl) (fun _ _ _ h => h) (Or.inl ⟨rfl, ?hy10⟩) HW0.out ?_
              case hy10 => intro w' hw'; obtain ⟨_, q1, q2, q3, _, _, _, _, _, _⟩ := HA.out w' hw'; clear hw'; go_simp; first | done | rfl
              try simp only [Act.put, List.getElem_toArray, List.getElem_cons_zero, List.getElem_cons_succ, List.setIfInBounds_toArray, List.set_cons_zero, List.set_cons_succ]
              refine wpAnyH_take (i := 11) (v := ?_) rfl (by kernel_rfl) (by kernel_rfl) (by kernel_rfl) (fun _ _ _ h => h) (Or.inl ⟨rfl, ?hy11⟩) HW0.out ?_
              case hy11 => intro w' hw'; clear hw'; go_simp; first | done | rfl
              try simp only [Act.put, List.getElem_toArray, List.getElem_cons_zero, List.getElem_cons_succ, List.setIfInBounds_toArray, List.set_cons_zero, List.set_cons_succ]
              refine wpAnyH_take (i := 12) (v := ?_) rfl (by kernel_rfl) (by kernel_rfl) (by kernel_rfl) (fun _ _ _ h => h) (Or.inl ⟨rfl, ?hy12⟩) HW0.out ?_
              case hy12 => intro w' hw'; clear hw'; go_simp; first | done | rfl
              try simp only [Act.put, List.getElem_toArray, List.getElem_cons_zero, List.getElem_cons_succ, List.setIfInBounds_toArray, List.set_cons_zero, List.set_cons_succ]
              refine wpAnyH_take (i := 13) (v := ?_) rfl (by kernel_rfl) (by kernel_rfl) (by kernel_rfl) (fun _ _ _ h => h) (Or.inl ⟨rfl, ?hy13⟩) HW0.out ?_
              case hy13 => intro w' hw'; clear hw'; go_simp; first | done | rfl
              try simp only [Act.put, List.getElem_toArray, List.getElem_cons_zero, List.getElem_cons_succ, List.setIfInBounds_toArray, List.set_cons_zero, List.set_cons_succ]
              refine wpAnyH_take (i := 14) (v := ?_) rfl (by kernel_rfl) (by kernel_rfl) (by kernel_rfl) (fun _ _ _ h => h) (Or.inl ⟨rfl, ?hy14⟩) HW0.out ?_
              case hy14 => intro w' hw'; clear hw'; go_simp; first | done | rfl
              try simp only [Act.put, List.getElem_toArray, List.getElem_cons_zero, List.getElem_cons_succ, List.setIfInBounds_toArray, List.set_cons_zero, List.set_cons_succ]
              refine wpAnyH_take (i := 15) (v := ?_) rfl (by kernel_rfl) (by kernel_rfl) (by kernel_rfl) (fun _ _ _ h => h) (Or.inl ⟨rfl, ?hy15⟩) HW0.out ?_
              case hy15 => intro w' hw'; obtain ⟨_, q1, q2, q3, _, _, _, _, _, _⟩ := HA.out w' hw'; clear hw'; go_simp; first | done | rfl
              try simp only [Act.put, List.getElem_toArray, List.getElem_cons_zero, List.getElem_cons_succ, List.setIfInBounds_toArray, List.set_cons_zero, List.set_cons_succ]
              refine wpAnyH_ready (rs := [16]) (by kernel_rfl) (by simp) ?_
              refine AllReadyH.cons rfl (fun K hK => ?_) AllReadyH.nil
              go_simp
              refine (filled_any (wr).drew ac.c ac.long).mono ?_
              rintro e wF F
              have ef := F.1
              subst ef
              have HWF : Hid (Below w.heap.size w wF) := HW0.out.trans (F.2.2.1.mono HW0.out.size)
              have CW := Lib.hid (ly_filled_write KL.out.drew F (by have := Ek.fln_le ac.long; omega) ac.i (by omega))
              have HFB : Hid (Below (wr).heap.size (wr) wF) := (below_drewN (Below.refl _ _) 1).trans F.2.2.1
              clear F
              dsimp only
              refine hK.out _ _ HWF.out (fun _ => ?_)
              clear hK K
              try simp only [Act.put, List.getElem_toArray, List.getElem_cons_zero, List.getElem_cons_succ, List.setIfInBounds_toArray, List.set_cons_zero, List.set_cons_succ]
              refine wpAnyH_ready (rs := [17]) (by kernel_rfl) (by simp) ?_
              refine AllReadyH.cons rfl (fun K hK => ?_) AllReadyH.nil
              go_simp
              refine (CW.out).mono ?_
              rintro e w3 ⟨rfl, H3, hk3⟩
              have HK3 := Lib.hid hk3
              clear CW HWF hk3
              dsimp only
              refine hK.out _ _ H3.below (fun _ => ?_)
              clear hK K
              try simp only [Act.put, List.getElem_toArray, List.getElem_cons_zero, List.getElem_cons_succ, List.setIfInBounds_toArray, List.set_cons_zero, List.set_cons_succ]
              refine wpAnyH_done (by kernel_rfl) ?_ _
              have H3' := Lib.hid H3
              clear H3
              go_wp2_with fail
              have HG3 : Hid (Has w3 gB (.cells (vbo (β)).toArray 4 (0, 0))) := (HK3.out gB (Or.inr rfl)).trans (KG.out.later HFB.out)
              have HT3 := Lib.hid ((KS.out.later HFB.out).same (HK3.out g (Or.inl (Or.inr rfl))))
              go_round
              case rel => exact ⟨k + 1, _, β, by go_num, by omega, KQ6, H3', HG3, HT3⟩
              case measure => simp [intOf]; omega
            · have e1 : decide (0 ≤ ac.i) = false := decide_eq_false hi0
              clear hin hk1 hk2 hi0
              go_wp2_with fail
              have HW0 : Hid (Below w.heap.size w (wr).drew) := below_drewN KL.out.below 1
              refine wp_region_held_drew (S := fun wx => Below w.heap.size w wx) (by kernel_rfl) HW0.out (fun _ => ?_)
              change wpAnyH _ _ _ _ _ 18 (Array.replicate 18 false) _ _
              refine wpAnyH_take (i := 0) (v := ?_) rfl (by kernel_rfl) (by kernel_rfl) (by kernel_rfl) (fun _ _ _ h => h) (Or.inl ⟨rfl, ?hy0⟩) HW0.out ?_
              case hy0 => intro w' hw'; clear hw'; go_simp; first | done | rfl
              try simp only [Act.put, List.getElem_toArray, List.getElem_cons_zero, List.setIfInBounds_toArray, List.set_cons_zero, List.set_cons_succ]
              refine wpAnyH_take (i := 1) (v := ?_) rfl (by kernel_rfl) (by kernel_rfl) (by kernel_rfl) (fun _ _ _ h => h) (Or.inl ⟨rfl, ?hy1⟩) HW0.out ?_
              case hy1 => intro w' hw'; clear hw'; go_simp; first | done | rfl
              try simp only [Act.put, List.getElem_toArray, List.getElem_cons_zero, List.getElem_cons_succ, List.setIfInBounds_toArray, List.set_cons_zero, List.set_cons_succ]
              refine wpAnyH_take (i := 2) (v := ?_) rfl (by kernel_rfl) (by kernel_rfl) (by kernel_rfl) (fun _ _ _ h => h) (Or.inl ⟨rfl, ?hy2⟩) HW0.out ?_
              case hy2 => intro w' hw'; clear hw'; go_simp; first | done | rfl
              try simp only [Act.put, List.getElem_toArray, List.getElem_cons_zero, List.getElem_cons_succ, List.setIfInBounds_toArray, List.set_cons_zero, List.set_cons_succ]
              refine wpAnyH_take (i := 3) (v := ?_) rfl (by kernel_rfl) (by kernel_rfl) (by kernel_rfl) (fun _ _ _ h => h) (Or.inl ⟨rfl, ?hy3⟩) HW0.out ?_
              case hy3 => intro w' hw'; clear hw'; go_simp; first | done | rfl
              try simp only [Act.put, List.getElem_toArray, List.getElem_cons_zero, List.getElem_cons_succ, List.setIfInBounds_toArray, List.set_cons_zero, List.set_cons_succ]
              refine wpAnyH_take (i := 4) (v := ?_) rfl (by kernel_rfl) (by kernel_rfl) (by kernel_rfl) (fun _ _ _ h => h) (Or.inl ⟨rfl, ?hy4⟩) HW0.out ?_
              case hy4 => intro w' hw'; clear hw'; go_simp; first | done | rfl
              try simp only [Act.put, List.getElem_toArray, List.getElem_cons_zero, List.getElem_cons_succ, List.setIfInBounds_toArray, List.set_cons_zero, List.set_cons_succ]
              refine wpAnyH_take (i := 5) (v := ?_) rfl (by kernel_rfl) (by kernel_rfl) (by kernel_rfl) (fun _ _ _ h => h) (Or.inl ⟨rfl, ?hy5⟩) HW0.out ?_
              case hy5 => intro w' hw'; obtain ⟨_, q1, q2, q3, _, _, _, _, _, _⟩ := HA.out w' hw'; clear hw'; go_simp; first | done | rfl
              try simp only [Act.put, List.getElem_toArray, List.getElem_cons_zero, List.getElem_cons_succ, List.setIfInBounds_toArray, List.set_cons_zero, List.set_cons_succ]
              refine wpAnyH_take (i := 6) (v := ?_) rfl (by kernel_rfl) (by kernel_rfl) (by kernel_rfl) (fun _ _ _ h => h) (Or.inl ⟨rfl, ?hy6⟩) HW0.out ?_
              case hy6 => intro w' hw'; clear hw'; go_simp; first | done | rfl
              try simp only [Act.put, List.getElem_toArray, List.getElem_cons_zero, List.getElem_cons_succ, List.setIfInBounds_toArray, List.set_cons_zero, List.set_cons_succ]
              refine wpAnyH_take (i := 7) (v := ?_) rfl (by kernel_rfl) (by kernel_rfl) (by kernel_rfl) (fun _ _ _ h => h) (Or.inl ⟨rfl, ?hy7⟩) HW0.out ?_
              case hy7 => intro w' hw'; clear hw'; go_simp; first | done | rfl
              try simp only [Act.put, List.getElem_toArray, List.getElem_cons_zero, List.getElem_cons_succ, List.setIfInBounds_toArray, List.set_cons_zero, List.set_cons_succ]
              refine wpAnyH_take (i := 8) (v := ?_) rfl (by kernel_rfl) (by kernel_rfl) (by kernel_rfl) (fun _ _ _ h => h) (Or.inl ⟨rfl, ?hy8⟩) HW0.out ?_
              case hy8 => intro w' hw'; clear hw'; go_simp; first | done | rfl
              try simp only [Act.put, List.getElem_toArray, List.getElem_cons_zero, List.getElem_cons_succ, List.setIfInBounds_toArray, List.set_cons_zero, List.set_cons_succ]
              refine wpAnyH_take (i := 9) (v := ?_) rfl (by kernel_rfl) (by kernel_rfl) (by kernel_rfl) (fun _ _ _ h => h) (Or.inl ⟨rfl, ?hy9⟩) HW0.out ?_
              case hy9 => intro w' hw'; clear hw'; go_simp; first | done | rfl
              try simp only [Act.put, List.getElem_toArray, List.getElem_cons_zero, List.getElem_cons_succ, List.setIfInBounds_toArray, List.set_cons_zero, List.set_cons_succ]
              refine wpAnyH_take (i := 10) (v := ?_) rfl (by kernel_rfl) (by kernel_rfl) (by kernel_rfl) (fun _ _ _ h => h) (Or.inl ⟨rfl, ?hy10⟩) HW0.out ?_
              case hy10 => intro w' hw'; obtain ⟨_, q1, q2, q3, _, _, _, _, _, _⟩ := HA.out w' hw'; clear hw'; go_simp; first | done | rfl
              try simp only [Act.put, List.getElem_toArray, List.getElem_cons_zero, List.getElem_cons_succ, List.setIfInBounds_toArray, List.set_cons_zero, List.set_cons_succ]
              refine wpAnyH_take (i := 11) (v := ?_) rfl (by kernel_rfl) (by kernel_rfl) (by kernel_rfl) (fun _ _ _ h => h) (Or.inl ⟨rfl, ?hy11⟩) HW0.out ?_
              case hy11 => intro w' hw'; clear hw'; go_simp; first | done | rfl
              try simp only [Act.put, List.getElem_toArray, List.getElem_cons_zero, List.getElem_cons_succ, List.setIfInBounds_toArray, List.set_cons_zero, List.set_cons_succ]
              refine wpAnyH_take (i := 12) (v := ?_) rfl (by kernel_rfl) (by kernel_rfl) (by kernel_rfl) (fun _ _ _ h => h) (Or.inl ⟨rfl, ?hy12⟩) HW0.out ?_
              case hy12 => intro w' hw'; clear hw'; go_simp; first | done | rfl
              try simp only [Act.put, List.getElem_toArray, List.getElem_cons_zero, List.getElem_cons_succ, List.setIfInBounds_toArray, List.set_cons_zero, List.set_cons_succ]
              refine wpAnyH_take (i := 13) (v := ?_) rfl (by kernel_rfl) (by kernel_rfl) (by kernel_rfl) (fun _ _ _ h => h) (Or.inl ⟨rfl, ?hy13⟩) HW0.out ?_
              case hy13 => intro w' hw'; clear hw'; go_simp; first | done | rfl
              try simp only [Act.put, List.getElem_toArray, List.getElem_cons_zero, List.getElem_cons_succ, List.setIfInBounds_toArray, List.set_cons_zero, List.set_cons_succ]
              refine wpAnyH_take (i := 14) (v := ?_) rfl (by kernel_rfl) (by kernel_rfl) (by kernel_rfl) (fun _ _ _ h => h) (Or.inl ⟨rfl, ?hy14⟩) HW0.out ?_
              case hy14 => intro w' hw'; clear hw'; go_simp; first | done | rfl
              try simp only [Act.put, List.getElem_toArray, List.getElem_cons_zero, List.getElem_cons_succ, List.setIfInBounds_toArray, List.set_cons_zero, List.set_cons_succ]
              refine wpAnyH_take (i := 15) (v := ?_) rfl (by kernel_rfl) (by kernel_rfl) (by kernel_rfl) (fun _ _ _ h => h) (Or.inl ⟨rfl, ?hy15⟩) HW0.out ?_
              case hy15 => intro w' hw'; obtain ⟨_, q1, q2, q3, _, _, _, _, _, _⟩ := HA.out w' hw'; clear hw'; go_simp; first | done | rfl
              try simp only [Act.put, List.getElem_toArray, List.getElem_cons_zero, List.getElem_cons_succ, List.setIfInBounds_toArray, List.set_cons_zero, List.set_cons_succ]
              refine wpAnyH_ready (rs := [16]) (by kernel_rfl) (by simp) ?_
              refine AllReadyH.cons rfl (fun K hK => ?_) AllReadyH.nil
              go_simp
              refine (filled_any (wr).drew ac.c ac.long).mono ?_
              rintro e wF F
              have ef := F.1
              subst ef
              have HWF : Hid (Below w.heap.size w wF) := HW0.out.trans (F.2.2.1.mono HW0.out.size)
              have CW := Lib.hid (ly_filled_write KL.out.drew F (by have := Ek.fln_le ac.long; omega) ac.i (by omega))
              have HFB : Hid (Below (wr).heap.size (wr) wF) := (below_drewN (Below.refl _ _) 1).trans F.2.2.1
              clear F
              dsimp only
              refine hK.out _ _ HWF.out (fun _ => ?_)
              clear hK K
              try simp only [Act.put, List.getElem_toArray, List.getElem_cons_zero, List.getElem_cons_succ, List.setIfInBounds_toArray, List.set_cons_zero, List.set_cons_succ]
              refine wpAnyH_ready (rs := [17]) (by kernel_rfl) (by simp) ?_
              refine AllReadyH.cons rfl (fun K hK => ?_) AllReadyH.nil
              go_simp
              refine (CW.out).mono ?_
              rintro e w3 ⟨rfl, H3, hk3⟩
              have HK3 := Lib.hid hk3
              clear CW HWF hk3
              dsimp only
              refine hK.out _ _ H3.below (fun _ => ?_)
              clear hK K
              try simp only [Act.put, List.getElem_toArray, List.getElem_cons_zero, List.getElem_cons_succ, List.setIfInBounds_toArray, List.set_cons_zero, List.set_cons_succ]
              refine wpAnyH_done (by kernel_rfl) ?_ _
              have H3' := Lib.hid H3
              clear H3
              go_wp2_with fail
              have HG3 : Hid (Has w3 gB (.cells (vbo (β)).toArray 4 (0, 0))) := (HK3.out gB (Or.inr rfl)).trans (KG.out.later HFB.out)
              have HT3 := Lib.hid ((KS.out.later HFB.out).same (HK3.out g (Or.inl (Or.inr rfl))))
              go_round
              case rel => exact ⟨k + 1, _, β, by go_num, by omega, KQ6, H3', HG3, HT3⟩
              case measure => simp [intOf]; omega
        · have k1 : (ac.kind == 1) = false := by simpa using hk1
          have KQ2 := Lib.hid KQ.out.next
          clear hk1 hk2
          go_wp2_with fail
          go_round
          case rel => exact ⟨k + 1, _, β, by go_num, by omega, KQ2, KL, KG, KS⟩
          case measure => simp [intOf]; omega
    · obtain rfl : k = N := by omega
      have CC := Lib.hid (ly_crash KL.out _ ks (HKS.out wr hw))
      have j0 : decide ((k : Int) < (k : Int)) = false := decide_eq_false (by omega)
      clear hw HAT hlt hk
      go_wp2_with fail
      refine CC.out.mono ?_
      clear CC
      rintro e w6 ⟨rfl, H6, hk6⟩
      have HG6 := Lib.hid ((hk6 gB (Or.inr rfl)).trans KG.out)
      have HS6 := Lib.hid (KS.out.same (hk6 g (Or.inl (Or.inr rfl))))
      have CD := lv_dark H6.lv
      have CL := lv_loose H6.lv
      rw [show (Ek.crash d (Ek.nth ks)).dark = false from rfl] at CD
      rw [show (((Ek.crash d (Ek.nth ks)).loose.length : Nat) : Int) = 0 from rfl] at CL
      have CA := Lib.hid (all_any H6.lv rfl)
      have HCL := Lib.hid CL
      have H6' := Lib.hid H6
      clear KG KS KL hk6 CL H6
      go_wp2_with fail
      refine CD.mono ?_
      clear CD
      rintro e w' ⟨rfl, rfl⟩
      go_wp2_with fail
      refine HCL.out.mono ?_
      clear HCL
      rintro e w' ⟨rfl, rfl⟩
      go_wp2_with fail
      refine CA.out.mono ?_
      clear CA
      rintro e w7 ⟨s7, g7, rfl, hs7, hg7, hb7⟩
      rw [show (Ek.crash d (Ek.nth ks)).n = n from KQ.out.num] at hs7
      have HB7 := Lib.hid (H6'.out.later hb7).below
      have HG7 : Hid (Has w7 gB (.cells (vbo β).toArray 4 (0, 0))) := Has.later (show Has w6 gB _ from HG6.out) hb7
      have HS7 := Lib.hid (HS6.out.later hb7)
      obtain ⟨sc7, hse7, hsg7, hsc7⟩ := hs7
      have HT7 : Hid (Strs w7 s7 (strsTo (Ek.crash d (Ek.nth ks)) n) g7) := ⟨sc7, hse7, hsg7, hsc7⟩
      rw [strsTo_length] at hse7
      subst hse7
      have HLEN := Lib.hid KQ.out.len
      have HSAME : Hid (∀ i, i < n → β[i]? = some false → Ek.now (Ek.crash d (Ek.nth ks)) i = Ek.now d1 i) := fun i _ hb => by
        rw [KQ.out.same (Ek.nth ks) i hb]
        unfold Ek.now
        rw [HSY.out.2.2.1]; rfl
      clear hb7 hg7 hsg7 hsc7 H6' HG6 HS6 KQ hu
      go_wp2_with fail
      go_loopw [16] (fun s16 wr => ∃ k : Nat, s16 = .int .i64 (k : Int) ∧ k ≤ n ∧ Hid (∃ m, wr = w7.drewN m)) (fun s16 _ => n - (intOf s16).toNat)
      case atStart => exact ⟨0, by go_num, Nat.zero_le _, 0, rfl⟩
      case round =>
        obtain ⟨k, rfl, hk, KW⟩ := hrel
        by_cases hlt : k < n
        · have j0 : decide ((k : Int) < (n : Int)) = true := decide_eq_true (by omega)
          have j1 : (0 : Int) ≤ (k : Int) := by omega
          have j2 : (k : Int) < (n : Int) := by omega
          obtain ⟨bv, hbk⟩ : ∃ bv, β[k]? = some bv := ⟨_, List.getElem?_eq_getElem (by rw [HLEN.out]; exact hlt)⟩
          have y1 : wr.cell? ⟨gB, k, none⟩ = some (.bool bv) := by obtain ⟨q, hq⟩ := KW.out; rw [hq]; exact vbo_cell HG7.out k bv hbk
          have x2 : wr.cell? ⟨g, k, none⟩ = some (.string (strB (Ek.now d1 k))) := by obtain ⟨q, hq⟩ := KW.out; rw [hq]; exact HS7.out.cell k hlt
          have x3 : wr.cell? ⟨g7, k, none⟩ = some (.string (strB (Ek.now (Ek.crash d (Ek.nth ks)) k))) := by obtain ⟨q, hq⟩ := KW.out; rw [hq]; exact HT7.out.cell k hlt
          have KW2 : Hid (∃ m, wr.drew = w7.drewN m) := by obtain ⟨q, hq⟩ := KW.out; exact ⟨q + 1, by rw [hq]; rfl⟩
          cases hbv : bv
          · have x1 : wr.cell? ⟨gB, k, none⟩ = some (.bool false) := by rw [← hbv]; exact y1
            have hsame := HSAME.out k (by omega) (hbv ▸ hbk)
            rw [hsame] at x3
            generalize strB (Ek.now d1 k) = SS at x2 x3
            clear hbv y1 hsame
            go_wp2
            refine wp_region_held_drew (S := fun wx => wx = wr.drew) (by kernel_rfl) rfl (fun _ => ?_)
            change wpAnyH _ _ _ _ _ 16 (Array.replicate 16 false) _ _
            refine wpAnyH_take (i := 0) (v := ?_) rfl (by kernel_rfl) (by kernel_rfl) (by kernel_rfl) (fun _ _ _ h => h) (Or.inl ⟨rfl, ?hy0⟩) rfl ?_
            case hy0 => intro w' hw'; subst hw'; go_simp; first | done | rfl
            try simp only [Act.put, List.getElem_toArray, List.getElem_cons_zero, List.setIfInBounds_toArray, List.set_cons_zero, List.set_cons_succ]
            refine wpAnyH_take (i := 1) (v := ?_) rfl (by kernel_rfl) (by kernel_rfl) (by kernel_rfl) (fun _ _ _ h => h) (Or.inl ⟨rfl, ?hy1⟩) rfl ?_
            case hy1 => intro w' hw'; subst hw'; go_simp; first | done | rfl
            try simp only [Act.put, List.getElem_toArray, List.getElem_cons_zero, List.getElem_cons_succ, List.setIfInBounds_toArray, List.set_cons_zero, List.set_cons_succ]
            refine wpAnyH_take (i := 2) (v := ?_) rfl (by kernel_rfl) (by kernel_rfl) (by kernel_rfl) (fun _ _ _ h => h) (Or.inl ⟨rfl, ?hy2⟩) rfl ?_
            case hy2 => intro w' hw'; subst hw'; go_simp; first | done | rfl
            try simp only [Act.put, List.getElem_toArray, List.getElem_cons_zero, List.getElem_cons_succ, List.setIfInBounds_toArray, List.set_cons_zero, List.set_cons_succ]
            refine wpAnyH_take (i := 3) (v := ?_) rfl (by kernel_rfl) (by kernel_rfl) (by kernel_rfl) (fun _ _ _ h => h) (Or.inl ⟨rfl, ?hy3⟩) rfl ?_
            case hy3 => intro w' hw'; subst hw'; go_simp; first | done | rfl
            try simp only [Act.put, List.getElem_toArray, List.getElem_cons_zero, List.getElem_cons_succ, List.setIfInBounds_toArray, List.set_cons_zero, List.set_cons_succ]
            refine wpAnyH_take (i := 4) (v := ?_) rfl (by kernel_rfl) (by kernel_rfl) (by kernel_rfl) (fun _ _ _ h => h) (Or.inl ⟨rfl, ?hy4⟩) rfl ?_
            case hy4 => intro w' hw'; subst hw'; go_simp; first | done | rfl
            try simp only [Act.put, List.getElem_toArray, List.getElem_cons_zero, List.getElem_cons_succ, List.setIfInBounds_toArray, List.set_cons_zero, List.set_cons_succ]
            refine wpAnyH_take (i := 5) (v := ?_) rfl (by kernel_rfl) (by kernel_rfl) (by kernel_rfl) (fun _ _ _ h => h) (Or.inl ⟨rfl, ?hy5⟩) rfl ?_
            case hy5 => intro w' hw'; subst hw'; go_simp; first | done | rfl
            try simp only [Act.put, List.getElem_toArray, List.getElem_cons_zero, List.getElem_cons_succ, List.setIfInBounds_toArray, List.set_cons_zero, List.set_cons_succ]
            refine wpAnyH_take (i := 6) (v := ?_) rfl (by kernel_rfl) (by kernel_rfl) (by kernel_rfl) (fun _ _ _ h => h) (Or.inl ⟨rfl, ?hy6⟩) rfl ?_
            case hy6 => intro w' hw'; subst hw'; go_simp; first | done | rfl
            try simp only [Act.put, List.getElem_toArray, List.getElem_cons_zero, List.getElem_cons_succ, List.setIfInBounds_toArray, List.set_cons_zero, List.set_cons_succ]
            refine wpAnyH_take (i := 7) (v := ?_) rfl (by kernel_rfl) (by kernel_rfl) (by kernel_rfl) (fun _ _ _ h => h) (Or.inl ⟨rfl, ?hy7⟩) rfl ?_
            case hy7 => intro w' hw'; subst hw'; go_simp; first | done | rfl
            try simp only [Act.put, List.getElem_toArray, List.getElem_cons_zero, List.getElem_cons_succ, List.setIfInBounds_toArray, List.set_cons_zero, List.set_cons_succ]
            refine wpAnyH_take (i := 8) (v := ?_) rfl (by kernel_rfl) (by kernel_rfl) (by kernel_rfl) (fun _ _ _ h => h) (Or.inl ⟨rfl, ?hy8⟩) rfl ?_
            case hy8 => intro w' hw'; subst hw'; go_simp; first | done | rfl
            try simp only [Act.put, List.getElem_toArray, List.getElem_cons_zero, List.getElem_cons_succ, List.setIfInBounds_toArray, List.set_cons_zero, List.set_cons_succ]
            refine wpAnyH_take (i := 9) (v := ?_) rfl (by kernel_rfl) (by kernel_rfl) (by kernel_rfl) (fun _ _ _ h => h) (Or.inl ⟨rfl, ?hy9⟩) rfl ?_
            case hy9 => intro w' hw'; subst hw'; go_simp; first | done | rfl
            try simp only [Act.put, List.getElem_toArray, List.getElem_cons_zero, List.getElem_cons_succ, List.setIfInBounds_toArray, List.set_cons_zero, List.set_cons_succ]
            refine wpAnyH_take (i := 10) (v := ?_) rfl (by kernel_rfl) (by kernel_rfl) (by kernel_rfl) (fun _ _ _ h => h) (Or.inl ⟨rfl, ?hy10⟩) rfl ?_
            case hy10 => intro w' hw'; subst hw'; go_simp; first | done | rfl
            try simp only [Act.put, List.getElem_toArray, List.getElem_cons_zero, List.getElem_cons_succ, List.setIfInBounds_toArray, List.set_cons_zero, List.set_cons_succ]
            refine wpAnyH_take (i := 11) (v := ?_) rfl (by kernel_rfl) (by kernel_rfl) (by kernel_rfl) (fun _ _ _ h => h) (Or.inl ⟨rfl, ?hy11⟩) rfl ?_
            case hy11 => intro w' hw'; subst hw'; go_simp; first | done | rfl
            try simp only [Act.put, List.getElem_toArray, List.getElem_cons_zero, List.getElem_cons_succ, List.setIfInBounds_toArray, List.set_cons_zero, List.set_cons_succ]
            refine wpAnyH_take (i := 12) (v := ?_) rfl (by kernel_rfl) (by kernel_rfl) (by kernel_rfl) (fun _ _ _ h => h) (Or.inl ⟨rfl, ?hy12⟩) rfl ?_
            case hy12 => intro w' hw'; subst hw'; go_simp; first | done | rfl
            try simp only [Act.put, List.getElem_toArray, List.getElem_cons_zero, List.getElem_cons_succ, List.setIfInBounds_toArray, List.set_cons_zero, List.set_cons_succ]
            refine wpAnyH_take (i := 13) (v := ?_) rfl (by kernel_rfl) (by kernel_rfl) (by kernel_rfl) (fun _ _ _ h => h) (Or.inl ⟨rfl, ?hy13⟩) rfl ?_
            case hy13 => intro w' hw'; subst hw'; go_simp; first | done | rfl
            try simp only [Act.put, List.getElem_toArray, List.getElem_cons_zero, List.getElem_cons_succ, List.setIfInBounds_toArray, List.set_cons_zero, List.set_cons_succ]
            refine wpAnyH_take (i := 14) (v := ?_) rfl (by kernel_rfl) (by kernel_rfl) (by kernel_rfl) (fun _ _ _ h => h) (Or.inl ⟨rfl, ?hy14⟩) rfl ?_
            case hy14 => intro w' hw'; subst hw'; go_simp; first | done | rfl
            try simp only [Act.put, List.getElem_toArray, List.getElem_cons_zero, List.getElem_cons_succ, List.setIfInBounds_toArray, List.set_cons_zero, List.set_cons_succ]
            refine wpAnyH_take (i := 15) (v := ?_) rfl (by kernel_rfl) (by kernel_rfl) (by kernel_rfl) (fun _ _ _ h => h) (Or.inl ⟨rfl, ?hy15⟩) rfl ?_
            case hy15 => intro w' hw'; subst hw'; go_simp; first | done | rfl
            try simp only [Act.put, List.getElem_toArray, List.getElem_cons_zero, List.getElem_cons_succ, List.setIfInBounds_toArray, List.set_cons_zero, List.set_cons_succ]
            refine wpAnyH_done (by kernel_rfl) ?_ _
            go_wp2
            go_round
            case rel => exact ⟨k + 1, by go_num, by omega, KW2⟩
            case measure => simp [intOf]; omega
          · have x1 : wr.cell? ⟨gB, k, none⟩ = some (.bool true) := by rw [← hbv]; exact y1
            clear hbv y1
            go_wp2
            refine wp_region_held_drew (S := fun wx => wx = wr.drew) (by kernel_rfl) rfl (fun _ => ?_)
            change wpAnyH _ _ _ _ _ 16 (Array.replicate 16 false) _ _
            refine wpAnyH_take (i := 0) (v := ?_) rfl (by kernel_rfl) (by kernel_rfl) (by kernel_rfl) (fun _ _ _ h => h) (Or.inl ⟨rfl, ?hy0⟩) rfl ?_
            case hy0 => intro w' hw'; subst hw'; go_simp; first | done | rfl
            try simp only [Act.put, List.getElem_toArray, List.getElem_cons_zero, List.setIfInBounds_toArray, List.set_cons_zero, List.set_cons_succ]
            refine wpAnyH_take (i := 1) (v := ?_) rfl (by kernel_rfl) (by kernel_rfl) (by kernel_rfl) (fun _ _ _ h => h) (Or.inl ⟨rfl, ?hy1⟩) rfl ?_
            case hy1 => intro w' hw'; subst hw'; go_simp; first | done | rfl
            try simp only [Act.put, List.getElem_toArray, List.getElem_cons_zero, List.getElem_cons_succ, List.setIfInBounds_toArray, List.set_cons_zero, List.set_cons_succ]
            refine wpAnyH_take (i := 2) (v := ?_) rfl (by kernel_rfl) (by kernel_rfl) (by kernel_rfl) (fun _ _ _ h => h) (Or.inl ⟨rfl, ?hy2⟩) rfl ?_
            case hy2 => intro w' hw'; subst hw'; go_simp; first | done | rfl
            try simp only [Act.put, List.getElem_toArray, List.getElem_cons_zero, List.getElem_cons_succ, List.setIfInBounds_toArray, List.set_cons_zero, List.set_cons_succ]
            refine wpAnyH_take (i := 3) (v := ?_) rfl (by kernel_rfl) (by kernel_rfl) (by kernel_rfl) (fun _ _ _ h => h) (Or.inl ⟨rfl, ?hy3⟩) rfl ?_
            case hy3 => intro w' hw'; subst hw'; go_simp; first | done | rfl
            try simp only [Act.put, List.getElem_toArray, List.getElem_cons_zero, List.getElem_cons_succ, List.setIfInBounds_toArray, List.set_cons_zero, List.set_cons_succ]
            refine wpAnyH_take (i := 4) (v := ?_) rfl (by kernel_rfl) (by kernel_rfl) (by kernel_rfl) (fun _ _ _ h => h) (Or.inl ⟨rfl, ?hy4⟩) rfl ?_
            case hy4 => intro w' hw'; subst hw'; go_simp; first | done | rfl
            try simp only [Act.put, List.getElem_toArray, List.getElem_cons_zero, List.getElem_cons_succ, List.setIfInBounds_toArray, List.set_cons_zero, List.set_cons_succ]
            refine wpAnyH_take (i := 5) (v := ?_) rfl (by kernel_rfl) (by kernel_rfl) (by kernel_rfl) (fun _ _ _ h => h) (Or.inl ⟨rfl, ?hy5⟩) rfl ?_
            case hy5 => intro w' hw'; subst hw'; go_simp; first | done | rfl
            try simp only [Act.put, List.getElem_toArray, List.getElem_cons_zero, List.getElem_cons_succ, List.setIfInBounds_toArray, List.set_cons_zero, List.set_cons_succ]
            refine wpAnyH_take (i := 6) (v := undef) rfl (by kernel_rfl) (by kernel_rfl) (by kernel_rfl) (fun _ _ _ h => h) (Or.inr ⟨rfl, rfl⟩) rfl ?_
            try simp only [Act.put, List.getElem_toArray, List.getElem_cons_zero, List.getElem_cons_succ, List.setIfInBounds_toArray, List.set_cons_zero, List.set_cons_succ]
            refine wpAnyH_take (i := 7) (v := undef) rfl (by kernel_rfl) (by kernel_rfl) (by kernel_rfl) (fun _ _ _ h => h) (Or.inr ⟨rfl, rfl⟩) rfl ?_
            try simp only [Act.put, List.getElem_toArray, List.getElem_cons_zero, List.getElem_cons_succ, List.setIfInBounds_toArray, List.set_cons_zero, List.set_cons_succ]
            refine wpAnyH_take (i := 8) (v := undef) rfl (by kernel_rfl) (by kernel_rfl) (by kernel_rfl) (fun _ _ _ h => h) (Or.inr ⟨rfl, rfl⟩) rfl ?_
            try simp only [Act.put, List.getElem_toArray, List.getElem_cons_zero, List.getElem_cons_succ, List.setIfInBounds_toArray, List.set_cons_zero, List.set_cons_succ]
            refine wpAnyH_take (i := 9) (v := undef) rfl (by kernel_rfl) (by kernel_rfl) (by kernel_rfl) (fun _ _ _ h => h) (Or.inr ⟨rfl, rfl⟩) rfl ?_
            try simp only [Act.put, List.getElem_toArray, List.getElem_cons_zero, List.getElem_cons_succ, List.setIfInBounds_toArray, List.set_cons_zero, List.set_cons_succ]
            refine wpAnyH_take (i := 10) (v := undef) rfl (by kernel_rfl) (by kernel_rfl) (by kernel_rfl) (fun _ _ _ h => h) (Or.inr ⟨rfl, rfl⟩) rfl ?_
            try simp only [Act.put, List.getElem_toArray, List.getElem_cons_zero, List.getElem_cons_succ, List.setIfInBounds_toArray, List.set_cons_zero, List.set_cons_succ]
            refine wpAnyH_take (i := 11) (v := undef) rfl (by kernel_rfl) (by kernel_rfl) (by kernel_rfl) (fun _ _ _ h => h) (Or.inr ⟨rfl, rfl⟩) rfl ?_
            try simp only [Act.put, List.getElem_toArray, List.getElem_cons_zero, List.getElem_cons_succ, List.setIfInBounds_toArray, List.set_cons_zero, List.set_cons_succ]
            refine wpAnyH_take (i := 12) (v := undef) rfl (by kernel_rfl) (by kernel_rfl) (by kernel_rfl) (fun _ _ _ h => h) (Or.inr ⟨rfl, rfl⟩) rfl ?_
            try simp only [Act.put, List.getElem_toArray, List.getElem_cons_zero, List.getElem_cons_succ, List.setIfInBounds_toArray, List.set_cons_zero, List.set_cons_succ]
            refine wpAnyH_take (i := 13) (v := undef) rfl (by kernel_rfl) (by kernel_rfl) (by kernel_rfl) (fun _ _ _ h => h) (Or.inr ⟨rfl, rfl⟩) rfl ?_
            try simp only [Act.put, List.getElem_toArray, List.getElem_cons_zero, List.getElem_cons_succ, List.setIfInBounds_toArray, List.set_cons_zero, List.set_cons_succ]
            refine wpAnyH_take (i := 14) (v := undef) rfl (by kernel_rfl) (by kernel_rfl) (by kernel_rfl) (fun _ _ _ h => h) (Or.inr ⟨rfl, rfl⟩) rfl ?_
            try simp only [Act.put, List.getElem_toArray, List.getElem_cons_zero, List.getElem_cons_succ, List.setIfInBounds_toArray, List.set_cons_zero, List.set_cons_succ]
            refine wpAnyH_take (i := 15) (v := ?_) rfl (by kernel_rfl) (by kernel_rfl) (by kernel_rfl) (fun _ _ _ h => h) (Or.inl ⟨rfl, ?hy15⟩) rfl ?_
            case hy15 => intro w' hw'; subst hw'; go_simp; first | done | rfl
            try simp only [Act.put, List.getElem_toArray, List.getElem_cons_zero, List.getElem_cons_succ, List.setIfInBounds_toArray, List.set_cons_zero, List.set_cons_succ]
            refine wpAnyH_done (by kernel_rfl) ?_ _
            go_wp2
            go_round
            case rel => exact ⟨k + 1, by go_num, by omega, KW2⟩
            case measure => simp [intOf]; omega
        · obtain rfl : k = n := by omega
          have HBW : Hid (Below w.heap.size w wr) := by obtain ⟨q, hq⟩ := KW.out; rw [hq]; exact below_drewN HB7.out q
          have j0 : decide ((k : Int) < (k : Int)) = false := decide_eq_false (by omega)
          clear hlt hk
          go_wp2_with fail
          refine (lives_is wr).mono ?_
          rintro e w10 ⟨rfl, hb10⟩
          have HB10 := Lib.hid (HBW.out.trans (hb10.mono HBW.out.size))
          clear hb10
          go_wp2_with fail
          go_ret
          exact ⟨rfl, HB10.out⟩

set_option maxRecDepth 100000 in
set_option maxHeartbeats 4000000 in
theorem sectorSure_walk (n : Int) (v : Value) (l : List Ac) (v2 : Value) (m : List Ac) (fz : Int) (kv : Value) (ks : List Int) (w : World) (_lo : -9223372036854775808 ≤ n) (_hi : n ≤ 9223372036854775807) (hl : Acts w v l) (hm : Acts w v2 m) (lf : -9223372036854775808 ≤ fz) (hf : fz ≤ 9223372036854775807) (hk : Ks w kv ks) :
    Calls Try.prog 4 #[.int .i64 n, v, v2, .int .i64 fz, kv] w fun e w' => e = .returned (.bool true) ∧ Below w.heap.size w w' := by
  by_cases h1 : n < 1
  · have c1 : decide (n < 1) = true := decide_eq_true h1
    clear h1 _lo _hi
    go_enter Try.func4, Try.ntmps4
    go_wp2_with fail
    refine (lives_is w).mono ?_
    rintro e w5 ⟨rfl, hb5⟩
    go_wp2_with fail
    go_ret
    exact ⟨rfl, hb5⟩
  · have c1 : decide (n < 1) = false := decide_eq_false h1
    by_cases h2 : 40 < n
    · have c2 : decide (40 < n) = true := decide_eq_true h2
      clear h1 h2 _lo _hi
      go_enter Try.func4, Try.ntmps4
      go_wp2_with fail
      refine (lives_is w).mono ?_
      rintro e w5 ⟨rfl, hb5⟩
      go_wp2_with fail
      go_ret
      exact ⟨rfl, hb5⟩
    · have c2 : decide (40 < n) = false := decide_eq_false h2
      by_cases h3 : l.length ≤ 40
      · by_cases h4 : m.length ≤ 40
        · obtain ⟨nn, rfl⟩ : ∃ nn : Nat, n = (nn : Int) := ⟨n.toNat, by omega⟩
          exact sure_main nn v l v2 m fz kv ks w (by omega) (by omega) lf hf hl hm hk h3 h4
        · obtain ⟨a, cap, rfl, _, _⟩ := hl
          obtain ⟨a2, cap2, rfl, _, _⟩ := hm
          have c3 : decide ((40 : Int) < (l.length : Int)) = false := decide_eq_false (by omega)
          have c4 : decide ((40 : Int) < (m.length : Int)) = true := decide_eq_true (by omega)
          generalize l.length = L at c3
          generalize m.length = M at c4
          clear h1 h2 h3 h4 _lo _hi
          go_enter Try.func4, Try.ntmps4
          go_wp2_with fail
          refine (lives_is w).mono ?_
          rintro e w5 ⟨rfl, hb5⟩
          go_wp2_with fail
          go_ret
          exact ⟨rfl, hb5⟩
      · obtain ⟨a, cap, rfl, _, _⟩ := hl
        have c3 : decide ((40 : Int) < (l.length : Int)) = true := decide_eq_true (by omega)
        generalize l.length = L at c3
        clear h1 h2 h3 _lo _hi
        go_enter Try.func4, Try.ntmps4
        go_wp2_with fail
        refine (lives_is w).mono ?_
        rintro e w5 ⟨rfl, hb5⟩
        go_wp2_with fail
        go_ret
        exact ⟨rfl, hb5⟩
set_option maxRecDepth 100000 in
theorem sectorSure_lifted (os : Os) (started : os.Started) (H : Type) (enc : TypeId × Value → H) :
    ReturnsInHanded {} Try.checked os 4 .any (Rows.sectorSureSpec.pre6 enc Try.prog Try.f4 Rows.sectorSureRow.domain false) (Rows.sectorSureSpec.post enc Try.prog Try.f4 false true false false) := by
  refine returnsInHanded_of_change_sized (C := Try.checked) Try.own started (by kernel_rfl) Try.func4
    (ChangeSpec.witness6 (enc := enc) (C := Try.checked) false ⟨#[], #[.int .i64 0, .slice none 0 0, .slice none 0 0, .int .i64 0, .slice none 0 0], []⟩ 8 (by kernel_rfl) (by kernel_rfl) (by kernel_rfl) (by kernel_rfl)) ?_
  intro W base args ds gs before hval0 hW _ hsz0 _
  have hval : ∀ (j : Nat) t v, Try.f4.params[j]? = some t → args[j]? = some v → Value.okWide Try.prog W .any base t v := hval0
  have hsz : (DataW.weightsEach Try.prog (Try.f4.params.toList ++ Rows.sectorSureSpec.plain.varTypes Try.prog) (ds ++ gs)).all (· ≤ reachBytes) = true := hsz0
  have hW' := hW
  obtain ⟨p, q, hA0, hV, rfl, hfz, hnd⟩ := hW
  have hA : DataW.TrodAll enc Try.prog W 0 (fun _ => true) true Try.f4.params.toList args.toList ds p := hA0
  rw [Try.params4] at hA hval hsz
  obtain ⟨v0, vs0, d0, ds0, p0, q0, hargs, rfl, rfl, h0, r0⟩ := trodAll_cons hA
  obtain ⟨v1, vs1, d1, ds1, p1, q1, rfl, rfl, rfl, h1, r1⟩ := trodAll_cons r0
  obtain ⟨v2, vs2, d2, ds2, p2, q2, rfl, rfl, rfl, h2, r2⟩ := trodAll_cons r1
  obtain ⟨v3, vs3, d3, ds3, p3, q3, rfl, rfl, rfl, h3, r3⟩ := trodAll_cons r2
  obtain ⟨v4, vs4, d4, ds4, p4, q4, rfl, rfl, rfl, h4, r4⟩ := trodAll_cons r3
  obtain ⟨rfl, rfl, rfl⟩ := trodAll_nil r4
  obtain rfl : args = #[v0, v1, v2, v3, v4] := by cases args; simp_all
  obtain ⟨rfl, rfl⟩ := trodVars_none hV
  have k0 := h0
  have lt0 : ∀ x ∈ p0, x.block < W.heap.size := by obtain ⟨m, hm⟩ := k0; exact DataW.trod_lt m _ _ _ hm
  obtain ⟨n0, ev0, _, _, wn0⟩ := open_int Try.underlying3 (hval 0 3 v0 rfl rfl) h0
  subst ev0
  obtain ⟨lo0, hi0⟩ := wf_bounds wn0
  have k1 := h1
  have lt1 : ∀ x ∈ p1, x.block < W.heap.size := by obtain ⟨m, hm⟩ := k1; exact DataW.trod_lt m _ _ _ hm
  obtain ⟨as1, al1⟩ := acts_open (hval 1 22 v1 rfl rfl) h1
  have k2 := h2
  have lt2 : ∀ x ∈ p2, x.block < W.heap.size := by obtain ⟨m, hm⟩ := k2; exact DataW.trod_lt m _ _ _ hm
  obtain ⟨as2, al2⟩ := acts_open (hval 2 22 v2 rfl rfl) h2
  have k3 := h3
  have lt3 : ∀ x ∈ p3, x.block < W.heap.size := by obtain ⟨m, hm⟩ := k3; exact DataW.trod_lt m _ _ _ hm
  obtain ⟨n3, ev3, _, _, wn3⟩ := open_int Try.underlying3 (hval 3 3 v3 rfl rfl) h3
  subst ev3
  obtain ⟨lo3, hi3⟩ := wf_bounds wn3
  have k4 := h4
  have lt4 : ∀ x ∈ p4, x.block < W.heap.size := by obtain ⟨m, hm⟩ := k4; exact DataW.trod_lt m _ _ _ hm
  obtain ⟨ks4, kl4⟩ := ks_open (hval 4 37 v4 rfl rfl) h4
  clear hA0 hval0 hsz0
  refine (sectorSure_walk n0 v1 as1 v2 as2 n3 v4 ks4 W lo0 hi0 al1 al2 lo3 hi3 kl4).mono fun e W' ⟨he, bel⟩ => ?_
  subst he
  exact ⟨_, rfl, _, _, _, [], _, [], hW', trodAll_mk1 (shut_bool Try.underlying4 _), (trodAll_cons_mk (Below.trod Try.laidOut (by kernel_rfl) (of_decide_eq_true (by kernel_rfl)) k0 bel lt0) (trodAll_cons_mk (Below.trod Try.laidOut (by kernel_rfl) (of_decide_eq_true (by kernel_rfl)) k1 bel lt1) (trodAll_cons_mk (Below.trod Try.laidOut (by kernel_rfl) (of_decide_eq_true (by kernel_rfl)) k2 bel lt2) (trodAll_cons_mk (Below.trod Try.laidOut (by kernel_rfl) (of_decide_eq_true (by kernel_rfl)) k3 bel lt3) (trodAll_cons_mk (Below.trod Try.laidOut (by kernel_rfl) (of_decide_eq_true (by kernel_rfl)) k4 bel lt4) trodAll_mk0))))), rfl, bel.frame _, fun h => by cases h⟩

theorem sectorSure_proved : Rows.SectorSureSaid :=
  OpenClaim.holds_of_wide 4 Try.f4 rfl rfl rfl rfl rfl rfl rfl ⟨rfl, rfl, rfl, rfl, rfl⟩ rfl rfl rfl rfl rfl (by kernel_rfl) Try.func4 (by kernel_rfl)
    (of_decide_eq_true (by kernel_rfl)) (by unfold Func.isWrapper; rw [if_neg (of_decide_eq_false (by kernel_rfl))]; exact ⟨rfl, rfl⟩)
    (fun os started H enc _ => sectorSure_lifted os started H enc)
end Go.Proofs.Ytdjgjijhokhahaa
