/- Crash of the document's own disk. -/
import Derived.Test.YthbiibinmofmfaaYdc

namespace Go.Proofs.Ythbiibinmofmfaa
set_option maxRecDepth 100000
open Go.RowKit

theorem Ks.at' {w : World} {v : Value} {ks : List Int} (h : Ks w v ks) : ∃ a cap, v = .slice a ks.length cap ∧ ks.length ≤ 9223372036854775807 ∧ ∀ k, k < ks.length → ∃ g off, a = some ⟨g, off, none⟩ ∧ ∀ w', Below w.heap.size w w' → w'.cell? ⟨g, off + k, none⟩ = some (.int .i64 (Ek.nth ks k)) := by
  obtain ⟨a, cap, e, h1, h2, h3⟩ := h
  refine ⟨a, cap, e, h1, fun k hk => ?_⟩
  obtain ⟨g, off, ea, hc⟩ := h3 (by omega)
  have hck := hc k hk
  refine ⟨g, off, ea, fun w' hb => ?_⟩
  rw [hb.cell (p := ⟨g, off + k, none⟩) (World.block_lt_of_cell? w _ hck), hck]
  unfold Ek.nth
  rw [List.getElem?_eq_getElem hk, Option.getD_some]
theorem Ks.bound {w : World} {v : Value} {ks : List Int} (h : Ks w v ks) (k : Nat) : -9223372036854775808 ≤ Ek.nth ks k ∧ Ek.nth ks k ≤ 9223372036854775807 := by
  obtain ⟨a, cap, e, h1, h2, h3⟩ := h
  unfold Ek.nth
  cases hk : ks[k]? with
  | none => simp
  | some x => exact h2 x (List.mem_of_getElem? hk)

set_option maxRecDepth 100000 in
set_option maxHeartbeats 8000000 in
theorem rdisk_crash (w : World) (G : Nat → Prop) (v : Value) (d : Ek.Dk) (h : DDk w G v d) (kv : Value) (ks : List Int) (hk : Ks w kv ks) :
    Calls Try.prog 16 #[v, kv] w fun e w' => (∃ v', e = .returned v' ∧ DDk w' (fun q => G q ∨ w.heap.size ≤ q) v' (Ek.crash d (Ek.nth ks))) ∧ Below w.heap.size w w' := by
  obtain ⟨a, la, c, lc, rfl, hc, hnl, hok⟩ := h
  obtain ⟨ka, kc, rfl, hkl, hkc⟩ := hk.at'
  have hkb := fun k => hk.bound k
  have hlo := hok.lo
  have hhi := hok.hi
  have hll : d.loose.length ≤ 1000000 := by have := hok.used; have := hok.count; omega
  obtain ⟨B, hB⟩ : ∃ B, B = w.heap.size := ⟨_, rfl⟩
  unfold dv
  obtain ⟨W0, hW0⟩ : ∃ W, W = (w.alloc (.cells #[.slice a d.n c, .slice la d.loose.length lc, .int .i64 d.left, .bool d.dark] 32)).alloc (.cells #[.slice none 0 0, .slice none 0 0, .int .i64 0, .bool false] 32) := ⟨_, rfl⟩
  have hb0 : Below w.heap.size w W0 := by rw [hW0]; exact (below1 w _).trans ((below1 _ _).mono (by simp))
  have hs0 : W0.heap.size = w.heap.size + 2 := by rw [hW0]; simp
  have hM0 : Has W0 w.heap.size (.cells #[.slice a d.n c, .slice la d.loose.length lc, .int .i64 d.left, .bool d.dark] 32) := by rw [hW0]; exact (Has.new w _).later (below1 _ _)
  have hZ0 : Has W0 (w.heap.size + 1) (.cells #[.slice none 0 0, .slice none 0 0, .int .i64 0, .bool false] 32) := by
    rw [hW0]
    have := Has.new (w.alloc (.cells #[.slice a d.n c, .slice la d.loose.length lc, .int .i64 d.left, .bool d.dark] 32)) (.cells #[.slice none 0 0, .slice none 0 0, .int .i64 0, .bool false] 32)
    rw [show (w.alloc (.cells #[.slice a d.n c, .slice la d.loose.length lc, .int .i64 d.left, .bool d.dark] 32)).heap.size = w.heap.size + 1 by simp] at this
    exact this
  obtain ⟨g, capn, w1, hrun, ho1, hb1⟩ := strs_run W0 a d.n c (fun i => strB (d.sure i)) hlo (by omega) (fun i hi => by obtain ⟨g, off, e, _, hl, y⟩ := hc.1 i hi; exact ⟨g, off, e, (hb0.cell (p := ⟨g, off + i, none⟩) hl).trans y⟩)
  have hgl := ho1.lt g rfl
  have HC : Hid (∀ k j r, d.loose[k]? = some (j, r) → ∃ g off, la = some ⟨g, off, none⟩ ∧ ∀ w', Below w.heap.size w w' → w'.cell? ⟨g, off + k * 2, none⟩ = some (.int .i64 ((j : Nat) : Int)) ∧ w'.cell? ⟨g, off + k * 2 + 1, none⟩ = some (.string (strB r))) := fun k j r h => by
    obtain ⟨g, off, e, _, hl, y1, y2⟩ := hc.2 k j r h
    exact ⟨g, off, e, fun w' hb => ⟨(hb.cell (p := ⟨g, off + k * 2, none⟩) hl).trans y1, (hb.cell (p := ⟨g, off + k * 2 + 1, none⟩) hl).trans y2⟩⟩
  have HKC := Lib.hid hkc
  have HKB := Lib.hid hkb
  have HB1 := Lib.hid (hb0.trans (hb1.mono hb0.size))
  have HM1 := Lib.hid (hM0.later hb1)
  have HZ1 := Lib.hid (hZ0.later hb1)
  have HOK := Lib.hid hok
  have HG := Lib.hid (show w.heap.size + 2 ≤ g ∧ g < w1.heap.size by rw [← hs0]; exact hgl)
  have x0 : (W0.alloc (.cells #[] 9)).cell? ⟨w.heap.size, 0, none⟩ = some (.slice a d.n c) := (hM0.later (below1 W0 _)).cell 0
  rw [hW0] at x0
  rw [hs0] at hrun ho1
  rw [hW0] at hrun
  have HR := Lib.hid hrun
  have HFIN : Hid (∀ w', w'.ownsRow (w.heap.size + 2) 9 1 (.slice (some ⟨g, 0, none⟩) d.n capn) d.n (vstr (setK d (Ek.nth ks) d.loose.length)) → DDk w' (fun q => G q ∨ w.heap.size ≤ q) (.agg #[.slice (some ⟨g, 0, none⟩) d.n capn, .slice none 0 0, .int .i64 (-1), .bool false]) (Ek.crash d (Ek.nth ks))) := by
    intro w' ho
    refine ⟨some ⟨g, 0, none⟩, none, capn, 0, rfl, ⟨fun i hi => ?_, fun k j r h => ?_⟩, fun _ => rfl, Ek.crash_ok hok _⟩
    · have hl := ho.lt g rfl
      refine ⟨g, 0, rfl, Or.inr (by omega), hl.2, ?_⟩
      have hi1 : i < d.n * 1 := by rw [Nat.mul_one]; exact hi
      rw [Nat.zero_add, ho.cellAt i hi1]
      unfold vstr
      rw [List.getElem?_map, setK_get d (Ek.nth ks) d.loose.length i (show i < d.n from hi)]; rfl
    · exact absurd h (by show ¬ ([] : List (Nat × List Nat))[k]? = _; simp)
  have HO0 : Hid (w1.ownsRow (w.heap.size + 2) 9 1 (.slice (some ⟨g, 0, none⟩) d.n capn) d.n (vstr (setK d (Ek.nth ks) 0))) := by
    show World.ownsRow _ _ _ _ _ _ _
    unfold setK
    exact ho1
  obtain ⟨L, hL⟩ : ∃ L, L = d.loose.length := ⟨_, rfl⟩
  have HL := Lib.hid hL
  rw [← hL] at hll HM1 HFIN x0 HR ⊢
  obtain ⟨N, hN⟩ : ∃ N, N = d.n := ⟨_, rfl⟩
  have HN := Lib.hid hN
  rw [← hN] at hhi HR HO0 HM1 HFIN x0 ⊢
  obtain ⟨KL, hKL⟩ : ∃ K, K = ks.length := ⟨_, rfl⟩
  have HKL := Lib.hid hKL
  rw [← hKL] at hkl HKC ⊢
  have h8 : (N : Int) ≤ 8192 := by omega
  have hkl' : (KL : Int) ≤ 9223372036854775807 := by omega
  generalize d.left = F at *
  generalize d.dark = DD at *
  clear hc hok hL hN hKL hrun ho1 hb1 hlo hhi hk hkc hkb hb0 hs0 hM0 hZ0 hgl hW0 hnl hB hkl
  go_enter Try.func16, Try.ntmps16
  go_wp2_with (at_builtin; refine wpList_run rfl (exec_append (.tmp 10) (.tmp 12) 29 rfl (.slice (some ⟨w.heap.size + 2, 0, none⟩) 0 0) (.slice a N c) (.slice (some ⟨g, 0, none⟩) N capn) rfl rfl HR.out) ?_)
  clear x0 HR
  go_loopw [6] (fun s6 wr => ∃ k : Nat, s6 = .int .i64 (k : Int) ∧ k ≤ L ∧ Hid (wr.ownsRow (w.heap.size + 2) 9 1 (.slice (some ⟨g, 0, none⟩) N capn) N (vstr (setK d (Ek.nth ks) k))) ∧ Hid (Below w.heap.size w wr) ∧ Hid (Has wr w.heap.size (.cells #[.slice a N c, .slice la L lc, .int .i64 F, .bool DD] 32)) ∧ Hid (Has wr (w.heap.size + 1) (.cells #[.slice none 0 0, .slice none 0 0, .int .i64 0, .bool false] 32))) (fun s6 _ => L - (intOf s6).toNat)
  case atStart => exact ⟨0, by go_num, Nat.zero_le _, HO0, HB1, HM1, HZ1⟩
  case round =>
    obtain ⟨k, rfl, hk, KO, KB, KM, KZ⟩ := hrel
    have xl : wr.cell? ⟨w.heap.size, 1, none⟩ = some (.slice la L lc) := KM.out.cell 1
    by_cases hlt : k < L
    · have j0 : decide ((k : Int) < (L : Int)) = true := decide_eq_true (by omega)
      have j1 : (0 : Int) ≤ (k : Int) := by omega
      have j2 : (k : Int) < (L : Int) := by omega
      have j3 : (k : Int) ≤ 1000000 := by omega
      obtain ⟨⟨j, r⟩, hr⟩ : ∃ p, d.loose[k]? = some p := ⟨_, List.getElem?_eq_getElem (by rw [← HL.out]; exact hlt)⟩
      obtain ⟨gl, ol, rfl, hcl⟩ := HC.out k j r hr
      obtain ⟨q1, q2⟩ := hcl wr KB.out
      have hjn : j < N := by rw [HN.out]; exact (HOK.out.loose _ (List.mem_of_getElem? hr)).1
      have hrl : (strB r).size = 512 := by rw [strB_size]; exact (HOK.out.loose _ (List.mem_of_getElem? hr)).2.1
      have i0 : (0 : Int) ≤ (j : Int) := by omega
      have i1 : (j : Int) < (N : Int) := by omega
      have i2 : (j : Int) ≤ 8192 := by omega
      have hol : (strB (Ek.settleTo d.sure d.loose (Ek.nth ks) k j)).size = 512 := by rw [strB_size]; exact (Ek.settle_row HOK.out.sure (fun p hp => (HOK.out.loose p hp).2) _ k j).1
      have hrs : r.length = 512 := (HOK.out.loose _ (List.mem_of_getElem? hr)).2.1
      have hos : (Ek.settleTo d.sure d.loose (Ek.nth ks) k j).length = 512 := (Ek.settle_row HOK.out.sure (fun p hp => (HOK.out.loose p hp).2) _ k j).1
      obtain ⟨wa, hwa⟩ : ∃ W, W = wr.alloc (.cells #[.int .i64 ((j : Nat) : Int), .string (strB r)] 82) := ⟨_, rfl⟩
      have hba : Below wr.heap.size wr wa := by rw [hwa]; exact below1 wr _
      have hpa : Has wa wr.heap.size (.cells #[.int .i64 ((j : Nat) : Int), .string (strB r)] 82) := by rw [hwa]; exact Has.new wr _
      have KB2 := Lib.hid (below_drewN (KB.out.trans (hba.mono KB.out.size)) 1)
      have hba2 : Below wr.heap.size wr wa.drew := below_drewN hba 1
      have hpd : Has wa.drew wr.heap.size (.cells #[.int .i64 ((j : Nat) : Int), .string (strB r)] 82) := hpa.later (below_drewN (Below.refl _ _) 1)
      have hO : wa.drew.ownsRow (w.heap.size + 2) 9 1 (.slice (some ⟨g, 0, none⟩) N capn) N (vstr (setK d (Ek.nth ks) k)) := own_same KO.out (fun q hq => by cases hq; exact hba2.block g (KO.out.lt g rfl).2)
      have hgr := (KO.out.lt g rfl)
      have KM2 := Lib.hid (KM.out.later hba2)
      have KZ2 := Lib.hid (KZ.out.later hba2)
      have xo : wa.drew.cell? ⟨g, j, none⟩ = some (.string (strB (Ek.settleTo d.sure d.loose (Ek.nth ks) k j))) := by
        rw [hO.cellAt j (by omega)]
        unfold vstr
        rw [List.getElem?_map, setK_get _ _ _ _ (by rw [← HN.out]; exact hjn)]; rfl
      have xf : wa.drew.frozen? ⟨g, j, none⟩ = false := hO.frozenAt j
      have p0 := (hpd.cell 0).trans (show _ = some (Value.int .i64 ((j : Nat) : Int)) from rfl)
      have p1 := (hpd.cell 1).trans (show _ = some (Value.string (strB r)) from rfl)
      have hpg : g ≠ wr.heap.size := by omega
      have KS : Hid (∀ n, n = Ek.share j (Ek.nth ks k) → (strB r).extract 0 n ++ (strB (Ek.settleTo d.sure d.loose (Ek.nth ks) k j)).extract n 512 = strB (r.take (Ek.share j (Ek.nth ks k)) ++ (Ek.settleTo d.sure d.loose (Ek.nth ks) k j).drop (Ek.share j (Ek.nth ks k)))) := fun n hn => by
        rw [strB_cut, strB_cut, ← hn, strB_append, List.drop_zero, Nat.sub_zero]
        congr 2
        rw [List.take_of_length_le (by rw [List.length_drop, hos]; exact Nat.le_refl _)]
      obtain ⟨FIN, hFIN⟩ : ∃ X, X = strB (r.take (Ek.share j (Ek.nth ks k)) ++ (Ek.settleTo d.sure d.loose (Ek.nth ks) k j).drop (Ek.share j (Ek.nth ks k))) := ⟨_, rfl⟩
      rw [← hFIN] at KS
      have KO3 : Hid ((wa.drew.setCell ⟨g, j, none⟩ (.string FIN)).ownsRow (w.heap.size + 2) 9 1 (.slice (some ⟨g, 0, none⟩) N capn) N (vstr (setK d (Ek.nth ks) (k + 1)))) := by
        show World.ownsRow _ _ _ _ _ _ _
        rw [setK_succ hr, ← hFIN, show vstr ((setK d (Ek.nth ks) k).set j FIN) = (vstr (setK d (Ek.nth ks) k)).set j (.string FIN) by simp [vstr, List.map_set]]
        exact (hO.stored j (.string FIN)).1
      have KB3 : Hid (Below w.heap.size w (wa.drew.setCell ⟨g, j, none⟩ (.string FIN))) := KB2.out.setCell (p := ⟨g, j, none⟩) (by show w.heap.size ≤ g; have := HG.out; omega) _
      have KM3 := Lib.hid (KM2.out.set (a := ⟨g, j, none⟩) (by show w.heap.size ≠ g; have := HG.out; omega) (.string FIN))
      have KZ3 := Lib.hid (KZ2.out.set (a := ⟨g, j, none⟩) (by show w.heap.size + 1 ≠ g; have := HG.out; omega) (.string FIN))
      have PD : Hid ((wa.drew.setCell ⟨g, j, none⟩ (.string FIN)).cell? ⟨wr.heap.size, 0, none⟩ = some (.int .i64 ((j : Nat) : Int)) ∧ (wa.drew.setCell ⟨g, j, none⟩ (.string FIN)).cell? ⟨wr.heap.size, 1, none⟩ = some (.string (strB r))) := ⟨((hpd.set (a := ⟨g, j, none⟩) (fun h => hpg h.symm) (.string FIN)).cell 0), ((hpd.set (a := ⟨g, j, none⟩) (fun h => hpg h.symm) (.string FIN)).cell 1)⟩
      have PS : wa.drew.cell? ⟨wr.heap.size, 0, none⟩ = some (.int .i64 ((j : Nat) : Int)) ∧ wa.drew.cell? ⟨wr.heap.size, 1, none⟩ = some (.string (strB r)) := ⟨p0, p1⟩
      have eW : wa.drew.setCell ⟨g, j, none⟩ (.string FIN) = (wa.setCell ⟨g, j, none⟩ (.string FIN)).drew := rfl
      rw [eW] at KO3 KB3 KM3 KZ3 PD
      clear eW
      have HWA := Lib.hid hwa
      have HKB2 := HKB.out k
      generalize strB (Ek.settleTo d.sure d.loose (Ek.nth ks) k j) = OLD at KS xo hol
      generalize strB r = SR at KS PS PD p0 p1 hrl q2 HWA
      have HPS := Lib.hid PS
      have pz0 : (wr.alloc (.cells #[.int .i64 ((j : Nat) : Int), .string SR] 82)).cell? ⟨wr.heap.size, 0, none⟩ = some (.int .i64 ((j : Nat) : Int)) := (Has.new wr (.cells #[.int .i64 ((j : Nat) : Int), .string SR] 82)).cell 0
      have HXO := Lib.hid (And.intro xo xf)
      clear hr hcl hjn hll hrs hos hba hpa hba2 hpd hO hgr hwa hFIN PS p0 p1 xo xf hpg
      by_cases hkk : k < KL
      · obtain ⟨gk, ok, rfl, hkcell⟩ := HKC.out k hkk
        have kc0 := hkcell wr KB.out
        have c1 : decide ((k : Int) < (KL : Int)) = true := decide_eq_true (by omega)
        have c2 : (k : Int) < (KL : Int) := by omega
        generalize Ek.nth ks k = cc at *
        clear hkcell
        by_cases h1 : 1 < cc
        · by_cases hj : 0 < j
          · obtain ⟨z, hz⟩ : ∃ z : Nat, cc = (z : Int) + 2 := ⟨(cc - 2).toNat, by omega⟩
            have hsh : z % 512 = Ek.share j cc := by unfold Ek.share; rw [if_neg (by omega), if_neg (by omega)]; omega
            have ks1 := KS.out (z % 512) hsh
            have c3 : decide (1 < cc) = true := decide_eq_true h1
            have c4 : decide (0 < (j : Int)) = true := decide_eq_true (by omega)
            have c5 : decide (cc ≤ 0) = false := decide_eq_false (by omega)
            have c6 : Value.int .i64 (IntKind.i64.wrap (cc - 2)) = .int .i64 (z : Int) := by rw [IntWalk.i64_in _ (by omega)]; congr 1; omega
            have c7 : (z : Int) % 512 = ((z % 512 : Nat) : Int) := by omega
            have n1 : z % 512 ≤ 512 := by omega
            obtain ⟨n, hn⟩ : ∃ n, n = z % 512 := ⟨_, rfl⟩
            rw [← hn] at ks1 c7 n1
            have n2 : (n : Int) ≤ 512 := by omega
            have n3 : (0 : Int) ≤ (n : Int) := by omega
            have ks2 := Lib.hid ks1
            clear hz hsh hn KS h1 ks1 hkk
            go_wp2_with fail
            rw [← HWA.out]
            refine wp_region_held_drew (S := fun wx => wx.cell? ⟨wr.heap.size, 0, none⟩ = some (.int .i64 ((j : Nat) : Int)) ∧ wx.cell? ⟨wr.heap.size, 1, none⟩ = some (.string SR)) (by kernel_rfl) HPS.out (fun _ => ?_)
            change wpAnyH _ _ _ _ _ 17 (Array.replicate 17 false) _ _
            refine wpAnyH_take (i := 0) (v := ?_) rfl (by kernel_rfl) (by kernel_rfl) (by kernel_rfl) (fun _ _ _ h => h) (Or.inl ⟨rfl, ?hy0⟩) HPS.out ?_
            case hy0 => intro w' hw'; clear hw'; go_simp; first | done | rfl
            try simp only [Act.put, List.getElem_toArray, List.getElem_cons_zero, List.setIfInBounds_toArray, List.set_cons_zero, List.set_cons_succ]
            refine wpAnyH_take (i := 1) (v := ?_) rfl (by kernel_rfl) (by kernel_rfl) (by kernel_rfl) (fun _ _ _ h => h) (Or.inl ⟨rfl, ?hy1⟩) HPS.out ?_
            case hy1 => intro w' hw'; clear hw'; go_simp; first | done | rfl
            try simp only [Act.put, List.getElem_toArray, List.getElem_cons_zero, List.getElem_cons_succ, List.setIfInBounds_toArray, List.set_cons_zero, List.set_cons_succ]
            refine wpAnyH_take (i := 2) (v := ?_) rfl (by kernel_rfl) (by kernel_rfl) (by kernel_rfl) (fun _ _ _ h => h) (Or.inl ⟨rfl, ?hy2⟩) HPS.out ?_
            case hy2 => intro w' hw'; obtain ⟨z0, z1⟩ := hw'; go_simp; first | done | rfl
            try simp only [Act.put, List.getElem_toArray, List.getElem_cons_zero, List.getElem_cons_succ, List.setIfInBounds_toArray, List.set_cons_zero, List.set_cons_succ]
            refine wpAnyH_take (i := 3) (v := ?_) rfl (by kernel_rfl) (by kernel_rfl) (by kernel_rfl) (fun _ _ _ h => h) (Or.inl ⟨rfl, ?hy3⟩) HPS.out ?_
            case hy3 => intro w' hw'; clear hw'; go_simp; first | done | rfl
            try simp only [Act.put, List.getElem_toArray, List.getElem_cons_zero, List.getElem_cons_succ, List.setIfInBounds_toArray, List.set_cons_zero, List.set_cons_succ]
            refine wpAnyH_take (i := 4) (v := ?_) rfl (by kernel_rfl) (by kernel_rfl) (by kernel_rfl) (fun _ _ _ h => h) (Or.inl ⟨rfl, ?hy4⟩) HPS.out ?_
            case hy4 => intro w' hw'; obtain ⟨z0, z1⟩ := hw'; go_simp; first | done | rfl
            try simp only [Act.put, List.getElem_toArray, List.getElem_cons_zero, List.getElem_cons_succ, List.setIfInBounds_toArray, List.set_cons_zero, List.set_cons_succ]
            refine wpAnyH_take (i := 5) (v := ?_) rfl (by kernel_rfl) (by kernel_rfl) (by kernel_rfl) (fun _ _ _ h => h) (Or.inl ⟨rfl, ?hy5⟩) HPS.out ?_
            case hy5 => intro w' hw'; clear hw'; go_simp; first | done | rfl
            try simp only [Act.put, List.getElem_toArray, List.getElem_cons_zero, List.getElem_cons_succ, List.setIfInBounds_toArray, List.set_cons_zero, List.set_cons_succ]
            refine wpAnyH_take (i := 6) (v := ?_) rfl (by kernel_rfl) (by kernel_rfl) (by kernel_rfl) (fun _ _ _ h => h) (Or.inl ⟨rfl, ?hy6⟩) HPS.out ?_
            case hy6 => intro w' hw'; clear hw'; go_simp; first | done | rfl
            try simp only [Act.put, List.getElem_toArray, List.getElem_cons_zero, List.getElem_cons_succ, List.setIfInBounds_toArray, List.set_cons_zero, List.set_cons_succ]
            refine wpAnyH_take (i := 7) (v := ?_) rfl (by kernel_rfl) (by kernel_rfl) (by kernel_rfl) (fun _ _ _ h => h) (Or.inl ⟨rfl, ?hy7⟩) HPS.out ?_
            case hy7 => intro w' hw'; clear hw'; go_simp; first | done | rfl
            try simp only [Act.put, List.getElem_toArray, List.getElem_cons_zero, List.getElem_cons_succ, List.setIfInBounds_toArray, List.set_cons_zero, List.set_cons_succ]
            refine wpAnyH_take (i := 8) (v := ?_) rfl (by kernel_rfl) (by kernel_rfl) (by kernel_rfl) (fun _ _ _ h => h) (Or.inl ⟨rfl, ?hy8⟩) HPS.out ?_
            case hy8 => intro w' hw'; clear hw'; go_simp; first | done | rfl
            try simp only [Act.put, List.getElem_toArray, List.getElem_cons_zero, List.getElem_cons_succ, List.setIfInBounds_toArray, List.set_cons_zero, List.set_cons_succ]
            refine wpAnyH_take (i := 9) (v := ?_) rfl (by kernel_rfl) (by kernel_rfl) (by kernel_rfl) (fun _ _ _ h => h) (Or.inl ⟨rfl, ?hy9⟩) HPS.out ?_
            case hy9 => intro w' hw'; obtain ⟨z0, z1⟩ := hw'; go_simp; first | done | rfl
            try simp only [Act.put, List.getElem_toArray, List.getElem_cons_zero, List.getElem_cons_succ, List.setIfInBounds_toArray, List.set_cons_zero, List.set_cons_succ]
            refine wpAnyH_take (i := 10) (v := ?_) rfl (by kernel_rfl) (by kernel_rfl) (by kernel_rfl) (fun _ _ _ h => h) (Or.inl ⟨rfl, ?hy10⟩) HPS.out ?_
            case hy10 => intro w' hw'; clear hw'; go_simp; first | done | rfl
            try simp only [Act.put, List.getElem_toArray, List.getElem_cons_zero, List.getElem_cons_succ, List.setIfInBounds_toArray, List.set_cons_zero, List.set_cons_succ]
            refine wpAnyH_take (i := 12) (v := ?_) rfl (by kernel_rfl) (by kernel_rfl) (by kernel_rfl) (fun _ _ _ h => h) (Or.inl ⟨rfl, ?hy12⟩) HPS.out ?_
            case hy12 => intro w' hw'; clear hw'; go_simp; first | done | rfl
            try simp only [Act.put, List.getElem_toArray, List.getElem_cons_zero, List.getElem_cons_succ, List.setIfInBounds_toArray, List.set_cons_zero, List.set_cons_succ]
            refine wpAnyH_ready (rs := [11]) (by kernel_rfl) (by simp) ?_
            refine AllReadyH.cons rfl (fun K hK => ?_) AllReadyH.nil
            have xo := HXO.out.1
            go_simp
            refine hK.out _ _ HPS.out (fun _ => ?_)
            clear hK K xo
            try simp only [Act.put, List.getElem_toArray, List.getElem_cons_zero, List.getElem_cons_succ, List.setIfInBounds_toArray, List.set_cons_zero, List.set_cons_succ]
            refine wpAnyH_take (i := 13) (v := ?_) rfl (by kernel_rfl) (by kernel_rfl) (by kernel_rfl) (fun _ _ _ h => h) (Or.inl ⟨rfl, ?hy13⟩) HPS.out ?_
            case hy13 => intro w' hw'; clear hw'; go_simp; first | done | rfl
            try simp only [Act.put, List.getElem_toArray, List.getElem_cons_zero, List.getElem_cons_succ, List.setIfInBounds_toArray, List.set_cons_zero, List.set_cons_succ]
            refine wpAnyH_take (i := 14) (v := ?_) rfl (by kernel_rfl) (by kernel_rfl) (by kernel_rfl) (fun _ _ _ h => h) (Or.inl ⟨rfl, ?hy14⟩) HPS.out ?_
            case hy14 => intro w' hw'; clear hw'; go_simp; first | done | rfl
            try simp only [Act.put, List.getElem_toArray, List.getElem_cons_zero, List.getElem_cons_succ, List.setIfInBounds_toArray, List.set_cons_zero, List.set_cons_succ]
            refine wpAnyH_take (i := 15) (v := ?_) rfl (by kernel_rfl) (by kernel_rfl) (by kernel_rfl) (fun _ _ _ h => h) (Or.inl ⟨rfl, ?hy15⟩) HPS.out ?_
            case hy15 => intro w' hw'; clear hw'; go_simp; first | done | rfl
            try simp only [Act.put, List.getElem_toArray, List.getElem_cons_zero, List.getElem_cons_succ, List.setIfInBounds_toArray, List.set_cons_zero, List.set_cons_succ]
            refine wpAnyH_ready (rs := [16]) (by kernel_rfl) (by simp) ?_
            refine AllReadyH.cons rfl (fun K hK => ?_) AllReadyH.nil
            have xo := HXO.out.1
            have xf := HXO.out.2
            go_simp
            rw [ks2.out]
            refine hK.out _ _ PD.out (fun _ => ?_)
            clear hK K xo xf
            try simp only [Act.put, List.getElem_toArray, List.getElem_cons_zero, List.getElem_cons_succ, List.setIfInBounds_toArray, List.set_cons_zero, List.set_cons_succ]
            refine wpAnyH_done (by kernel_rfl) ?_ _
            go_wp2_with fail
            go_round
            case rel => exact ⟨k + 1, by go_num, by omega, KO3, KB3, KM3, KZ3⟩
            case measure => simp [intOf]; omega
          · have hsh : 512 = Ek.share j cc := by unfold Ek.share; rw [if_neg (by omega), if_pos (Or.inr (by omega))]
            have ks2 := Lib.hid (show SR.extract 0 512 = FIN by simpa using KS.out 512 hsh)
            have c3 : decide (1 < cc) = true := decide_eq_true h1
            have c4 : decide (0 < (j : Int)) = false := decide_eq_false (by omega)
            have c5 : decide (cc ≤ 0) = false := decide_eq_false (by omega)
            clear hsh KS h1 hkk
            go_wp2_with fail
            rw [← HWA.out]
            refine wp_region_held_drew (S := fun wx => wx.cell? ⟨wr.heap.size, 0, none⟩ = some (.int .i64 ((j : Nat) : Int)) ∧ wx.cell? ⟨wr.heap.size, 1, none⟩ = some (.string SR)) (by kernel_rfl) HPS.out (fun _ => ?_)
            change wpAnyH _ _ _ _ _ 17 (Array.replicate 17 false) _ _
            refine wpAnyH_take (i := 0) (v := ?_) rfl (by kernel_rfl) (by kernel_rfl) (by kernel_rfl) (fun _ _ _ h => h) (Or.inl ⟨rfl, ?hy0⟩) HPS.out ?_
            case hy0 => intro w' hw'; clear hw'; go_simp; first | done | rfl
            try simp only [Act.put, List.getElem_toArray, List.getElem_cons_zero, List.setIfInBounds_toArray, List.set_cons_zero, List.set_cons_succ]
            refine wpAnyH_take (i := 1) (v := ?_) rfl (by kernel_rfl) (by kernel_rfl) (by kernel_rfl) (fun _ _ _ h => h) (Or.inl ⟨rfl, ?hy1⟩) HPS.out ?_
            case hy1 => intro w' hw'; clear hw'; go_simp; first | done | rfl
            try simp only [Act.put, List.getElem_toArray, List.getElem_cons_zero, List.getElem_cons_succ, List.setIfInBounds_toArray, List.set_cons_zero, List.set_cons_succ]
            refine wpAnyH_take (i := 2) (v := ?_) rfl (by kernel_rfl) (by kernel_rfl) (by kernel_rfl) (fun _ _ _ h => h) (Or.inl ⟨rfl, ?hy2⟩) HPS.out ?_
            case hy2 => intro w' hw'; obtain ⟨z0, z1⟩ := hw'; go_simp; first | done | rfl
            try simp only [Act.put, List.getElem_toArray, List.getElem_cons_zero, List.getElem_cons_succ, List.setIfInBounds_toArray, List.set_cons_zero, List.set_cons_succ]
            refine wpAnyH_take (i := 3) (v := ?_) rfl (by kernel_rfl) (by kernel_rfl) (by kernel_rfl) (fun _ _ _ h => h) (Or.inl ⟨rfl, ?hy3⟩) HPS.out ?_
            case hy3 => intro w' hw'; clear hw'; go_simp; first | done | rfl
            try simp only [Act.put, List.getElem_toArray, List.getElem_cons_zero, List.getElem_cons_succ, List.setIfInBounds_toArray, List.set_cons_zero, List.set_cons_succ]
            refine wpAnyH_take (i := 4) (v := ?_) rfl (by kernel_rfl) (by kernel_rfl) (by kernel_rfl) (fun _ _ _ h => h) (Or.inl ⟨rfl, ?hy4⟩) HPS.out ?_
            case hy4 => intro w' hw'; obtain ⟨z0, z1⟩ := hw'; go_simp; first | done | rfl
            try simp only [Act.put, List.getElem_toArray, List.getElem_cons_zero, List.getElem_cons_succ, List.setIfInBounds_toArray, List.set_cons_zero, List.set_cons_succ]
            refine wpAnyH_take (i := 5) (v := ?_) rfl (by kernel_rfl) (by kernel_rfl) (by kernel_rfl) (fun _ _ _ h => h) (Or.inl ⟨rfl, ?hy5⟩) HPS.out ?_
            case hy5 => intro w' hw'; clear hw'; go_simp; first | done | rfl
            try simp only [Act.put, List.getElem_toArray, List.getElem_cons_zero, List.getElem_cons_succ, List.setIfInBounds_toArray, List.set_cons_zero, List.set_cons_succ]
            refine wpAnyH_take (i := 6) (v := ?_) rfl (by kernel_rfl) (by kernel_rfl) (by kernel_rfl) (fun _ _ _ h => h) (Or.inl ⟨rfl, ?hy6⟩) HPS.out ?_
            case hy6 => intro w' hw'; clear hw'; go_simp; first | done | rfl
            try simp only [Act.put, List.getElem_toArray, List.getElem_cons_zero, List.getElem_cons_succ, List.setIfInBounds_toArray, List.set_cons_zero, List.set_cons_succ]
            refine wpAnyH_take (i := 7) (v := ?_) rfl (by kernel_rfl) (by kernel_rfl) (by kernel_rfl) (fun _ _ _ h => h) (Or.inl ⟨rfl, ?hy7⟩) HPS.out ?_
            case hy7 => intro w' hw'; clear hw'; go_simp; first | done | rfl
            try simp only [Act.put, List.getElem_toArray, List.getElem_cons_zero, List.getElem_cons_succ, List.setIfInBounds_toArray, List.set_cons_zero, List.set_cons_succ]
            refine wpAnyH_take (i := 8) (v := ?_) rfl (by kernel_rfl) (by kernel_rfl) (by kernel_rfl) (fun _ _ _ h => h) (Or.inl ⟨rfl, ?hy8⟩) HPS.out ?_
            case hy8 => intro w' hw'; clear hw'; go_simp; first | done | rfl
            try simp only [Act.put, List.getElem_toArray, List.getElem_cons_zero, List.getElem_cons_succ, List.setIfInBounds_toArray, List.set_cons_zero, List.set_cons_succ]
            refine wpAnyH_take (i := 9) (v := ?_) rfl (by kernel_rfl) (by kernel_rfl) (by kernel_rfl) (fun _ _ _ h => h) (Or.inl ⟨rfl, ?hy9⟩) HPS.out ?_
            case hy9 => intro w' hw'; obtain ⟨z0, z1⟩ := hw'; go_simp; first | done | rfl
            try simp only [Act.put, List.getElem_toArray, List.getElem_cons_zero, List.getElem_cons_succ, List.setIfInBounds_toArray, List.set_cons_zero, List.set_cons_succ]
            refine wpAnyH_take (i := 10) (v := ?_) rfl (by kernel_rfl) (by kernel_rfl) (by kernel_rfl) (fun _ _ _ h => h) (Or.inl ⟨rfl, ?hy10⟩) HPS.out ?_
            case hy10 => intro w' hw'; clear hw'; go_simp; first | done | rfl
            try simp only [Act.put, List.getElem_toArray, List.getElem_cons_zero, List.getElem_cons_succ, List.setIfInBounds_toArray, List.set_cons_zero, List.set_cons_succ]
            refine wpAnyH_take (i := 12) (v := ?_) rfl (by kernel_rfl) (by kernel_rfl) (by kernel_rfl) (fun _ _ _ h => h) (Or.inl ⟨rfl, ?hy12⟩) HPS.out ?_
            case hy12 => intro w' hw'; clear hw'; go_simp; first | done | rfl
            try simp only [Act.put, List.getElem_toArray, List.getElem_cons_zero, List.getElem_cons_succ, List.setIfInBounds_toArray, List.set_cons_zero, List.set_cons_succ]
            refine wpAnyH_ready (rs := [11]) (by kernel_rfl) (by simp) ?_
            refine AllReadyH.cons rfl (fun K hK => ?_) AllReadyH.nil
            have xo := HXO.out.1
            go_simp
            refine hK.out _ _ HPS.out (fun _ => ?_)
            clear hK K xo
            try simp only [Act.put, List.getElem_toArray, List.getElem_cons_zero, List.getElem_cons_succ, List.setIfInBounds_toArray, List.set_cons_zero, List.set_cons_succ]
            refine wpAnyH_take (i := 13) (v := ?_) rfl (by kernel_rfl) (by kernel_rfl) (by kernel_rfl) (fun _ _ _ h => h) (Or.inl ⟨rfl, ?hy13⟩) HPS.out ?_
            case hy13 => intro w' hw'; clear hw'; go_simp; first | done | rfl
            try simp only [Act.put, List.getElem_toArray, List.getElem_cons_zero, List.getElem_cons_succ, List.setIfInBounds_toArray, List.set_cons_zero, List.set_cons_succ]
            refine wpAnyH_take (i := 14) (v := ?_) rfl (by kernel_rfl) (by kernel_rfl) (by kernel_rfl) (fun _ _ _ h => h) (Or.inl ⟨rfl, ?hy14⟩) HPS.out ?_
            case hy14 => intro w' hw'; clear hw'; go_simp; first | done | rfl
            try simp only [Act.put, List.getElem_toArray, List.getElem_cons_zero, List.getElem_cons_succ, List.setIfInBounds_toArray, List.set_cons_zero, List.set_cons_succ]
            refine wpAnyH_take (i := 15) (v := ?_) rfl (by kernel_rfl) (by kernel_rfl) (by kernel_rfl) (fun _ _ _ h => h) (Or.inl ⟨rfl, ?hy15⟩) HPS.out ?_
            case hy15 => intro w' hw'; clear hw'; go_simp; first | done | rfl
            try simp only [Act.put, List.getElem_toArray, List.getElem_cons_zero, List.getElem_cons_succ, List.setIfInBounds_toArray, List.set_cons_zero, List.set_cons_succ]
            refine wpAnyH_ready (rs := [16]) (by kernel_rfl) (by simp) ?_
            refine AllReadyH.cons rfl (fun K hK => ?_) AllReadyH.nil
            have xo := HXO.out.1
            have xf := HXO.out.2
            go_simp
            rw [ks2.out]
            refine hK.out _ _ PD.out (fun _ => ?_)
            clear hK K xo xf
            try simp only [Act.put, List.getElem_toArray, List.getElem_cons_zero, List.getElem_cons_succ, List.setIfInBounds_toArray, List.set_cons_zero, List.set_cons_succ]
            refine wpAnyH_done (by kernel_rfl) ?_ _
            go_wp2_with fail
            go_round
            case rel => exact ⟨k + 1, by go_num, by omega, KO3, KB3, KM3, KZ3⟩
            case measure => simp [intOf]; omega
        · by_cases h2 : cc = 1
          · have hsh : 512 = Ek.share j cc := by unfold Ek.share; rw [if_neg (by omega), if_pos (Or.inl h2)]
            have ks2 := Lib.hid (show SR.extract 0 512 = FIN by simpa using KS.out 512 hsh)
            have c3 : decide (1 < cc) = false := decide_eq_false h1
            have c5 : decide (cc ≤ 0) = false := decide_eq_false (by omega)
            clear hsh KS h1 h2 hkk
            go_wp2_with fail
            rw [← HWA.out]
            refine wp_region_held_drew (S := fun wx => wx.cell? ⟨wr.heap.size, 0, none⟩ = some (.int .i64 ((j : Nat) : Int)) ∧ wx.cell? ⟨wr.heap.size, 1, none⟩ = some (.string SR)) (by kernel_rfl) HPS.out (fun _ => ?_)
            change wpAnyH _ _ _ _ _ 17 (Array.replicate 17 false) _ _
            refine wpAnyH_take (i := 0) (v := ?_) rfl (by kernel_rfl) (by kernel_rfl) (by kernel_rfl) (fun _ _ _ h => h) (Or.inl ⟨rfl, ?hy0⟩) HPS.out ?_
            case hy0 => intro w' hw'; clear hw'; go_simp; first | done | rfl
            try simp only [Act.put, List.getElem_toArray, List.getElem_cons_zero, List.setIfInBounds_toArray, List.set_cons_zero, List.set_cons_succ]
            refine wpAnyH_take (i := 1) (v := ?_) rfl (by kernel_rfl) (by kernel_rfl) (by kernel_rfl) (fun _ _ _ h => h) (Or.inl ⟨rfl, ?hy1⟩) HPS.out ?_
            case hy1 => intro w' hw'; clear hw'; go_simp; first | done | rfl
            try simp only [Act.put, List.getElem_toArray, List.getElem_cons_zero, List.getElem_cons_succ, List.setIfInBounds_toArray, List.set_cons_zero, List.set_cons_succ]
            refine wpAnyH_take (i := 2) (v := ?_) rfl (by kernel_rfl) (by kernel_rfl) (by kernel_rfl) (fun _ _ _ h => h) (Or.inl ⟨rfl, ?hy2⟩) HPS.out ?_
            case hy2 => intro w' hw'; obtain ⟨z0, z1⟩ := hw'; go_simp; first | done | rfl
            try simp only [Act.put, List.getElem_toArray, List.getElem_cons_zero, List.getElem_cons_succ, List.setIfInBounds_toArray, List.set_cons_zero, List.set_cons_succ]
            refine wpAnyH_take (i := 3) (v := ?_) rfl (by kernel_rfl) (by kernel_rfl) (by kernel_rfl) (fun _ _ _ h => h) (Or.inl ⟨rfl, ?hy3⟩) HPS.out ?_
            case hy3 => intro w' hw'; clear hw'; go_simp; first | done | rfl
            try simp only [Act.put, List.getElem_toArray, List.getElem_cons_zero, List.getElem_cons_succ, List.setIfInBounds_toArray, List.set_cons_zero, List.set_cons_succ]
            refine wpAnyH_take (i := 4) (v := ?_) rfl (by kernel_rfl) (by kernel_rfl) (by kernel_rfl) (fun _ _ _ h => h) (Or.inl ⟨rfl, ?hy4⟩) HPS.out ?_
            case hy4 => intro w' hw'; obtain ⟨z0, z1⟩ := hw'; go_simp; first | done | rfl
            try simp only [Act.put, List.getElem_toArray, List.getElem_cons_zero, List.getElem_cons_succ, List.setIfInBounds_toArray, List.set_cons_zero, List.set_cons_succ]
            refine wpAnyH_take (i := 5) (v := ?_) rfl (by kernel_rfl) (by kernel_rfl) (by kernel_rfl) (fun _ _ _ h => h) (Or.inl ⟨rfl, ?hy5⟩) HPS.out ?_
            case hy5 => intro w' hw'; clear hw'; go_simp; first | done | rfl
            try simp only [Act.put, List.getElem_toArray, List.getElem_cons_zero, List.getElem_cons_succ, List.setIfInBounds_toArray, List.set_cons_zero, List.set_cons_succ]
            refine wpAnyH_take (i := 6) (v := ?_) rfl (by kernel_rfl) (by kernel_rfl) (by kernel_rfl) (fun _ _ _ h => h) (Or.inl ⟨rfl, ?hy6⟩) HPS.out ?_
            case hy6 => intro w' hw'; clear hw'; go_simp; first | done | rfl
            try simp only [Act.put, List.getElem_toArray, List.getElem_cons_zero, List.getElem_cons_succ, List.setIfInBounds_toArray, List.set_cons_zero, List.set_cons_succ]
            refine wpAnyH_take (i := 7) (v := ?_) rfl (by kernel_rfl) (by kernel_rfl) (by kernel_rfl) (fun _ _ _ h => h) (Or.inl ⟨rfl, ?hy7⟩) HPS.out ?_
            case hy7 => intro w' hw'; clear hw'; go_simp; first | done | rfl
            try simp only [Act.put, List.getElem_toArray, List.getElem_cons_zero, List.getElem_cons_succ, List.setIfInBounds_toArray, List.set_cons_zero, List.set_cons_succ]
            refine wpAnyH_take (i := 8) (v := ?_) rfl (by kernel_rfl) (by kernel_rfl) (by kernel_rfl) (fun _ _ _ h => h) (Or.inl ⟨rfl, ?hy8⟩) HPS.out ?_
            case hy8 => intro w' hw'; clear hw'; go_simp; first | done | rfl
            try simp only [Act.put, List.getElem_toArray, List.getElem_cons_zero, List.getElem_cons_succ, List.setIfInBounds_toArray, List.set_cons_zero, List.set_cons_succ]
            refine wpAnyH_take (i := 9) (v := ?_) rfl (by kernel_rfl) (by kernel_rfl) (by kernel_rfl) (fun _ _ _ h => h) (Or.inl ⟨rfl, ?hy9⟩) HPS.out ?_
            case hy9 => intro w' hw'; obtain ⟨z0, z1⟩ := hw'; go_simp; first | done | rfl
            try simp only [Act.put, List.getElem_toArray, List.getElem_cons_zero, List.getElem_cons_succ, List.setIfInBounds_toArray, List.set_cons_zero, List.set_cons_succ]
            refine wpAnyH_take (i := 10) (v := ?_) rfl (by kernel_rfl) (by kernel_rfl) (by kernel_rfl) (fun _ _ _ h => h) (Or.inl ⟨rfl, ?hy10⟩) HPS.out ?_
            case hy10 => intro w' hw'; clear hw'; go_simp; first | done | rfl
            try simp only [Act.put, List.getElem_toArray, List.getElem_cons_zero, List.getElem_cons_succ, List.setIfInBounds_toArray, List.set_cons_zero, List.set_cons_succ]
            refine wpAnyH_take (i := 12) (v := ?_) rfl (by kernel_rfl) (by kernel_rfl) (by kernel_rfl) (fun _ _ _ h => h) (Or.inl ⟨rfl, ?hy12⟩) HPS.out ?_
            case hy12 => intro w' hw'; clear hw'; go_simp; first | done | rfl
            try simp only [Act.put, List.getElem_toArray, List.getElem_cons_zero, List.getElem_cons_succ, List.setIfInBounds_toArray, List.set_cons_zero, List.set_cons_succ]
            refine wpAnyH_ready (rs := [11]) (by kernel_rfl) (by simp) ?_
            refine AllReadyH.cons rfl (fun K hK => ?_) AllReadyH.nil
            have xo := HXO.out.1
            go_simp
            refine hK.out _ _ HPS.out (fun _ => ?_)
            clear hK K xo
            try simp only [Act.put, List.getElem_toArray, List.getElem_cons_zero, List.getElem_cons_succ, List.setIfInBounds_toArray, List.set_cons_zero, List.set_cons_succ]
            refine wpAnyH_take (i := 13) (v := ?_) rfl (by kernel_rfl) (by kernel_rfl) (by kernel_rfl) (fun _ _ _ h => h) (Or.inl ⟨rfl, ?hy13⟩) HPS.out ?_
            case hy13 => intro w' hw'; clear hw'; go_simp; first | done | rfl
            try simp only [Act.put, List.getElem_toArray, List.getElem_cons_zero, List.getElem_cons_succ, List.setIfInBounds_toArray, List.set_cons_zero, List.set_cons_succ]
            refine wpAnyH_take (i := 14) (v := ?_) rfl (by kernel_rfl) (by kernel_rfl) (by kernel_rfl) (fun _ _ _ h => h) (Or.inl ⟨rfl, ?hy14⟩) HPS.out ?_
            case hy14 => intro w' hw'; clear hw'; go_simp; first | done | rfl
            try simp only [Act.put, List.getElem_toArray, List.getElem_cons_zero, List.getElem_cons_succ, List.setIfInBounds_toArray, List.set_cons_zero, List.set_cons_succ]
            refine wpAnyH_take (i := 15) (v := ?_) rfl (by kernel_rfl) (by kernel_rfl) (by kernel_rfl) (fun _ _ _ h => h) (Or.inl ⟨rfl, ?hy15⟩) HPS.out ?_
            case hy15 => intro w' hw'; clear hw'; go_simp; first | done | rfl
            try simp only [Act.put, List.getElem_toArray, List.getElem_cons_zero, List.getElem_cons_succ, List.setIfInBounds_toArray, List.set_cons_zero, List.set_cons_succ]
            refine wpAnyH_ready (rs := [16]) (by kernel_rfl) (by simp) ?_
            refine AllReadyH.cons rfl (fun K hK => ?_) AllReadyH.nil
            have xo := HXO.out.1
            have xf := HXO.out.2
            go_simp
            rw [ks2.out]
            refine hK.out _ _ PD.out (fun _ => ?_)
            clear hK K xo xf
            try simp only [Act.put, List.getElem_toArray, List.getElem_cons_zero, List.getElem_cons_succ, List.setIfInBounds_toArray, List.set_cons_zero, List.set_cons_succ]
            refine wpAnyH_done (by kernel_rfl) ?_ _
            go_wp2_with fail
            go_round
            case rel => exact ⟨k + 1, by go_num, by omega, KO3, KB3, KM3, KZ3⟩
            case measure => simp [intOf]; omega
          · have hsh : 0 = Ek.share j cc := by unfold Ek.share; rw [if_pos (by omega)]
            have ks2 := Lib.hid (show OLD.extract 0 512 = FIN by simpa using KS.out 0 hsh)
            have c3 : decide (1 < cc) = false := decide_eq_false h1
            have c5 : decide (cc ≤ 0) = true := decide_eq_true (by omega)
            clear hsh KS h1 h2 hkk
            go_wp2_with fail
            rw [← HWA.out]
            refine wp_region_held_drew (S := fun wx => wx.cell? ⟨wr.heap.size, 0, none⟩ = some (.int .i64 ((j : Nat) : Int)) ∧ wx.cell? ⟨wr.heap.size, 1, none⟩ = some (.string SR)) (by kernel_rfl) HPS.out (fun _ => ?_)
            change wpAnyH _ _ _ _ _ 17 (Array.replicate 17 false) _ _
            refine wpAnyH_take (i := 0) (v := ?_) rfl (by kernel_rfl) (by kernel_rfl) (by kernel_rfl) (fun _ _ _ h => h) (Or.inl ⟨rfl, ?hy0⟩) HPS.out ?_
            case hy0 => intro w' hw'; clear hw'; go_simp; first | done | rfl
            try simp only [Act.put, List.getElem_toArray, List.getElem_cons_zero, List.setIfInBounds_toArray, List.set_cons_zero, List.set_cons_succ]
            refine wpAnyH_take (i := 1) (v := ?_) rfl (by kernel_rfl) (by kernel_rfl) (by kernel_rfl) (fun _ _ _ h => h) (Or.inl ⟨rfl, ?hy1⟩) HPS.out ?_
            case hy1 => intro w' hw'; clear hw'; go_simp; first | done | rfl
            try simp only [Act.put, List.getElem_toArray, List.getElem_cons_zero, List.getElem_cons_succ, List.setIfInBounds_toArray, List.set_cons_zero, List.set_cons_succ]
            refine wpAnyH_take (i := 2) (v := ?_) rfl (by kernel_rfl) (by kernel_rfl) (by kernel_rfl) (fun _ _ _ h => h) (Or.inl ⟨rfl, ?hy2⟩) HPS.out ?_
            case hy2 => intro w' hw'; obtain ⟨z0, z1⟩ := hw'; go_simp; first | done | rfl
            try simp only [Act.put, List.getElem_toArray, List.getElem_cons_zero, List.getElem_cons_succ, List.setIfInBounds_toArray, List.set_cons_zero, List.set_cons_succ]
            refine wpAnyH_take (i := 3) (v := ?_) rfl (by kernel_rfl) (by kernel_rfl) (by kernel_rfl) (fun _ _ _ h => h) (Or.inl ⟨rfl, ?hy3⟩) HPS.out ?_
            case hy3 => intro w' hw'; clear hw'; go_simp; first | done | rfl
            try simp only [Act.put, List.getElem_toArray, List.getElem_cons_zero, List.getElem_cons_succ, List.setIfInBounds_toArray, List.set_cons_zero, List.set_cons_succ]
            refine wpAnyH_take (i := 4) (v := ?_) rfl (by kernel_rfl) (by kernel_rfl) (by kernel_rfl) (fun _ _ _ h => h) (Or.inl ⟨rfl, ?hy4⟩) HPS.out ?_
            case hy4 => intro w' hw'; obtain ⟨z0, z1⟩ := hw'; go_simp; first | done | rfl
            try simp only [Act.put, List.getElem_toArray, List.getElem_cons_zero, List.getElem_cons_succ, List.setIfInBounds_toArray, List.set_cons_zero, List.set_cons_succ]
            refine wpAnyH_take (i := 5) (v := ?_) rfl (by kernel_rfl) (by kernel_rfl) (by kernel_rfl) (fun _ _ _ h => h) (Or.inl ⟨rfl, ?hy5⟩) HPS.out ?_
            case hy5 => intro w' hw'; clear hw'; go_simp; first | done | rfl
            try simp only [Act.put, List.getElem_toArray, List.getElem_cons_zero, List.getElem_cons_succ, List.setIfInBounds_toArray, List.set_cons_zero, List.set_cons_succ]
            refine wpAnyH_take (i := 6) (v := ?_) rfl (by kernel_rfl) (by kernel_rfl) (by kernel_rfl) (fun _ _ _ h => h) (Or.inl ⟨rfl, ?hy6⟩) HPS.out ?_
            case hy6 => intro w' hw'; clear hw'; go_simp; first | done | rfl
            try simp only [Act.put, List.getElem_toArray, List.getElem_cons_zero, List.getElem_cons_succ, List.setIfInBounds_toArray, List.set_cons_zero, List.set_cons_succ]
            refine wpAnyH_take (i := 7) (v := ?_) rfl (by kernel_rfl) (by kernel_rfl) (by kernel_rfl) (fun _ _ _ h => h) (Or.inl ⟨rfl, ?hy7⟩) HPS.out ?_
            case hy7 => intro w' hw'; clear hw'; go_simp; first | done | rfl
            try simp only [Act.put, List.getElem_toArray, List.getElem_cons_zero, List.getElem_cons_succ, List.setIfInBounds_toArray, List.set_cons_zero, List.set_cons_succ]
            refine wpAnyH_take (i := 8) (v := ?_) rfl (by kernel_rfl) (by kernel_rfl) (by kernel_rfl) (fun _ _ _ h => h) (Or.inl ⟨rfl, ?hy8⟩) HPS.out ?_
            case hy8 => intro w' hw'; clear hw'; go_simp; first | done | rfl
            try simp only [Act.put, List.getElem_toArray, List.getElem_cons_zero, List.getElem_cons_succ, List.setIfInBounds_toArray, List.set_cons_zero, List.set_cons_succ]
            refine wpAnyH_take (i := 9) (v := ?_) rfl (by kernel_rfl) (by kernel_rfl) (by kernel_rfl) (fun _ _ _ h => h) (Or.inl ⟨rfl, ?hy9⟩) HPS.out ?_
            case hy9 => intro w' hw'; obtain ⟨z0, z1⟩ := hw'; go_simp; first | done | rfl
            try simp only [Act.put, List.getElem_toArray, List.getElem_cons_zero, List.getElem_cons_succ, List.setIfInBounds_toArray, List.set_cons_zero, List.set_cons_succ]
            refine wpAnyH_take (i := 10) (v := ?_) rfl (by kernel_rfl) (by kernel_rfl) (by kernel_rfl) (fun _ _ _ h => h) (Or.inl ⟨rfl, ?hy10⟩) HPS.out ?_
            case hy10 => intro w' hw'; clear hw'; go_simp; first | done | rfl
            try simp only [Act.put, List.getElem_toArray, List.getElem_cons_zero, List.getElem_cons_succ, List.setIfInBounds_toArray, List.set_cons_zero, List.set_cons_succ]
            refine wpAnyH_take (i := 12) (v := ?_) rfl (by kernel_rfl) (by kernel_rfl) (by kernel_rfl) (fun _ _ _ h => h) (Or.inl ⟨rfl, ?hy12⟩) HPS.out ?_
            case hy12 => intro w' hw'; clear hw'; go_simp; first | done | rfl
            try simp only [Act.put, List.getElem_toArray, List.getElem_cons_zero, List.getElem_cons_succ, List.setIfInBounds_toArray, List.set_cons_zero, List.set_cons_succ]
            refine wpAnyH_ready (rs := [11]) (by kernel_rfl) (by simp) ?_
            refine AllReadyH.cons rfl (fun K hK => ?_) AllReadyH.nil
            have xo := HXO.out.1
            go_simp
            refine hK.out _ _ HPS.out (fun _ => ?_)
            clear hK K xo
            try simp only [Act.put, List.getElem_toArray, List.getElem_cons_zero, List.getElem_cons_succ, List.setIfInBounds_toArray, List.set_cons_zero, List.set_cons_succ]
            refine wpAnyH_take (i := 13) (v := ?_) rfl (by kernel_rfl) (by kernel_rfl) (by kernel_rfl) (fun _ _ _ h => h) (Or.inl ⟨rfl, ?hy13⟩) HPS.out ?_
            case hy13 => intro w' hw'; clear hw'; go_simp; first | done | rfl
            try simp only [Act.put, List.getElem_toArray, List.getElem_cons_zero, List.getElem_cons_succ, List.setIfInBounds_toArray, List.set_cons_zero, List.set_cons_succ]
            refine wpAnyH_take (i := 14) (v := ?_) rfl (by kernel_rfl) (by kernel_rfl) (by kernel_rfl) (fun _ _ _ h => h) (Or.inl ⟨rfl, ?hy14⟩) HPS.out ?_
            case hy14 => intro w' hw'; clear hw'; go_simp; first | done | rfl
            try simp only [Act.put, List.getElem_toArray, List.getElem_cons_zero, List.getElem_cons_succ, List.setIfInBounds_toArray, List.set_cons_zero, List.set_cons_succ]
            refine wpAnyH_take (i := 15) (v := ?_) rfl (by kernel_rfl) (by kernel_rfl) (by kernel_rfl) (fun _ _ _ h => h) (Or.inl ⟨rfl, ?hy15⟩) HPS.out ?_
            case hy15 => intro w' hw'; clear hw'; go_simp; first | done | rfl
            try simp only [Act.put, List.getElem_toArray, List.getElem_cons_zero, List.getElem_cons_succ, List.setIfInBounds_toArray, List.set_cons_zero, List.set_cons_succ]
            refine wpAnyH_ready (rs := [16]) (by kernel_rfl) (by simp) ?_
            refine AllReadyH.cons rfl (fun K hK => ?_) AllReadyH.nil
            have xo := HXO.out.1
            have xf := HXO.out.2
            go_simp
            rw [ks2.out]
            refine hK.out _ _ PD.out (fun _ => ?_)
            clear hK K xo xf
            try simp only [Act.put, List.getElem_toArray, List.getElem_cons_zero, List.getElem_cons_succ, List.setIfInBounds_toArray, List.set_cons_zero, List.set_cons_succ]
            refine wpAnyH_done (by kernel_rfl) ?_ _
            go_wp2_with fail
            go_round
            case rel => exact ⟨k + 1, by go_num, by omega, KO3, KB3, KM3, KZ3⟩
            case measure => simp [intOf]; omega
      · have c1 : decide ((k : Int) < (KL : Int)) = false := decide_eq_false (by omega)
        have hsh : 0 = Ek.share j (Ek.nth ks k) := by
          have e : Ek.nth ks k = 0 := by unfold Ek.nth; rw [List.getElem?_eq_none (by rw [← HKL.out]; omega)]; rfl
          unfold Ek.share; rw [e, if_pos (by omega)]
        have ks2 := Lib.hid (show OLD.extract 0 512 = FIN by simpa using KS.out 0 hsh)
        clear hsh KS
        go_wp2_with fail
        rw [← HWA.out]
        refine wp_region_held_drew (S := fun wx => wx.cell? ⟨wr.heap.size, 0, none⟩ = some (.int .i64 ((j : Nat) : Int)) ∧ wx.cell? ⟨wr.heap.size, 1, none⟩ = some (.string SR)) (by kernel_rfl) HPS.out (fun _ => ?_)
        change wpAnyH _ _ _ _ _ 17 (Array.replicate 17 false) _ _
        refine wpAnyH_take (i := 0) (v := ?_) rfl (by kernel_rfl) (by kernel_rfl) (by kernel_rfl) (fun _ _ _ h => h) (Or.inl ⟨rfl, ?hy0⟩) HPS.out ?_
        case hy0 => intro w' hw'; clear hw'; go_simp; first | done | rfl
        try simp only [Act.put, List.getElem_toArray, List.getElem_cons_zero, List.setIfInBounds_toArray, List.set_cons_zero, List.set_cons_succ]
        refine wpAnyH_take (i := 1) (v := ?_) rfl (by kernel_rfl) (by kernel_rfl) (by kernel_rfl) (fun _ _ _ h => h) (Or.inl ⟨rfl, ?hy1⟩) HPS.out ?_
        case hy1 => intro w' hw'; clear hw'; go_simp; first | done | rfl
        try simp only [Act.put, List.getElem_toArray, List.getElem_cons_zero, List.getElem_cons_succ, List.setIfInBounds_toArray, List.set_cons_zero, List.set_cons_succ]
        refine wpAnyH_take (i := 2) (v := ?_) rfl (by kernel_rfl) (by kernel_rfl) (by kernel_rfl) (fun _ _ _ h => h) (Or.inl ⟨rfl, ?hy2⟩) HPS.out ?_
        case hy2 => intro w' hw'; obtain ⟨z0, z1⟩ := hw'; go_simp; first | done | rfl
        try simp only [Act.put, List.getElem_toArray, List.getElem_cons_zero, List.getElem_cons_succ, List.setIfInBounds_toArray, List.set_cons_zero, List.set_cons_succ]
        refine wpAnyH_take (i := 3) (v := ?_) rfl (by kernel_rfl) (by kernel_rfl) (by kernel_rfl) (fun _ _ _ h => h) (Or.inl ⟨rfl, ?hy3⟩) HPS.out ?_
        case hy3 => intro w' hw'; clear hw'; go_simp; first | done | rfl
        try simp only [Act.put, List.getElem_toArray, List.getElem_cons_zero, List.getElem_cons_succ, List.setIfInBounds_toArray, List.set_cons_zero, List.set_cons_succ]
        refine wpAnyH_take (i := 4) (v := ?_) rfl (by kernel_rfl) (by kernel_rfl) (by kernel_rfl) (fun _ _ _ h => h) (Or.inl ⟨rfl, ?hy4⟩) HPS.out ?_
        case hy4 => intro w' hw'; obtain ⟨z0, z1⟩ := hw'; go_simp; first | done | rfl
        try simp only [Act.put, List.getElem_toArray, List.getElem_cons_zero, List.getElem_cons_succ, List.setIfInBounds_toArray, List.set_cons_zero, List.set_cons_succ]
        refine wpAnyH_take (i := 5) (v := ?_) rfl (by kernel_rfl) (by kernel_rfl) (by kernel_rfl) (fun _ _ _ h => h) (Or.inl ⟨rfl, ?hy5⟩) HPS.out ?_
        case hy5 => intro w' hw'; clear hw'; go_simp; first | done | rfl
        try simp only [Act.put, List.getElem_toArray, List.getElem_cons_zero, List.getElem_cons_succ, List.setIfInBounds_toArray, List.set_cons_zero, List.set_cons_succ]
        refine wpAnyH_take (i := 6) (v := ?_) rfl (by kernel_rfl) (by kernel_rfl) (by kernel_rfl) (fun _ _ _ h => h) (Or.inl ⟨rfl, ?hy6⟩) HPS.out ?_
        case hy6 => intro w' hw'; clear hw'; go_simp; first | done | rfl
        try simp only [Act.put, List.getElem_toArray, List.getElem_cons_zero, List.getElem_cons_succ, List.setIfInBounds_toArray, List.set_cons_zero, List.set_cons_succ]
        refine wpAnyH_take (i := 7) (v := ?_) rfl (by kernel_rfl) (by kernel_rfl) (by kernel_rfl) (fun _ _ _ h => h) (Or.inl ⟨rfl, ?hy7⟩) HPS.out ?_
        case hy7 => intro w' hw'; clear hw'; go_simp; first | done | rfl
        try simp only [Act.put, List.getElem_toArray, List.getElem_cons_zero, List.getElem_cons_succ, List.setIfInBounds_toArray, List.set_cons_zero, List.set_cons_succ]
        refine wpAnyH_take (i := 8) (v := ?_) rfl (by kernel_rfl) (by kernel_rfl) (by kernel_rfl) (fun _ _ _ h => h) (Or.inl ⟨rfl, ?hy8⟩) HPS.out ?_
        case hy8 => intro w' hw'; clear hw'; go_simp; first | done | rfl
        try simp only [Act.put, List.getElem_toArray, List.getElem_cons_zero, List.getElem_cons_succ, List.setIfInBounds_toArray, List.set_cons_zero, List.set_cons_succ]
        refine wpAnyH_take (i := 9) (v := ?_) rfl (by kernel_rfl) (by kernel_rfl) (by kernel_rfl) (fun _ _ _ h => h) (Or.inl ⟨rfl, ?hy9⟩) HPS.out ?_
        case hy9 => intro w' hw'; obtain ⟨z0, z1⟩ := hw'; go_simp; first | done | rfl
        try simp only [Act.put, List.getElem_toArray, List.getElem_cons_zero, List.getElem_cons_succ, List.setIfInBounds_toArray, List.set_cons_zero, List.set_cons_succ]
        refine wpAnyH_take (i := 10) (v := ?_) rfl (by kernel_rfl) (by kernel_rfl) (by kernel_rfl) (fun _ _ _ h => h) (Or.inl ⟨rfl, ?hy10⟩) HPS.out ?_
        case hy10 => intro w' hw'; clear hw'; go_simp; first | done | rfl
        try simp only [Act.put, List.getElem_toArray, List.getElem_cons_zero, List.getElem_cons_succ, List.setIfInBounds_toArray, List.set_cons_zero, List.set_cons_succ]
        refine wpAnyH_take (i := 12) (v := ?_) rfl (by kernel_rfl) (by kernel_rfl) (by kernel_rfl) (fun _ _ _ h => h) (Or.inl ⟨rfl, ?hy12⟩) HPS.out ?_
        case hy12 => intro w' hw'; clear hw'; go_simp; first | done | rfl
        try simp only [Act.put, List.getElem_toArray, List.getElem_cons_zero, List.getElem_cons_succ, List.setIfInBounds_toArray, List.set_cons_zero, List.set_cons_succ]
        refine wpAnyH_ready (rs := [11]) (by kernel_rfl) (by simp) ?_
        refine AllReadyH.cons rfl (fun K hK => ?_) AllReadyH.nil
        have xo := HXO.out.1
        go_simp
        refine hK.out _ _ HPS.out (fun _ => ?_)
        clear hK K xo
        try simp only [Act.put, List.getElem_toArray, List.getElem_cons_zero, List.getElem_cons_succ, List.setIfInBounds_toArray, List.set_cons_zero, List.set_cons_succ]
        refine wpAnyH_take (i := 13) (v := ?_) rfl (by kernel_rfl) (by kernel_rfl) (by kernel_rfl) (fun _ _ _ h => h) (Or.inl ⟨rfl, ?hy13⟩) HPS.out ?_
        case hy13 => intro w' hw'; clear hw'; go_simp; first | done | rfl
        try simp only [Act.put, List.getElem_toArray, List.getElem_cons_zero, List.getElem_cons_succ, List.setIfInBounds_toArray, List.set_cons_zero, List.set_cons_succ]
        refine wpAnyH_take (i := 14) (v := ?_) rfl (by kernel_rfl) (by kernel_rfl) (by kernel_rfl) (fun _ _ _ h => h) (Or.inl ⟨rfl, ?hy14⟩) HPS.out ?_
        case hy14 => intro w' hw'; clear hw'; go_simp; first | done | rfl
        try simp only [Act.put, List.getElem_toArray, List.getElem_cons_zero, List.getElem_cons_succ, List.setIfInBounds_toArray, List.set_cons_zero, List.set_cons_succ]
        refine wpAnyH_take (i := 15) (v := ?_) rfl (by kernel_rfl) (by kernel_rfl) (by kernel_rfl) (fun _ _ _ h => h) (Or.inl ⟨rfl, ?hy15⟩) HPS.out ?_
        case hy15 => intro w' hw'; clear hw'; go_simp; first | done | rfl
        try simp only [Act.put, List.getElem_toArray, List.getElem_cons_zero, List.getElem_cons_succ, List.setIfInBounds_toArray, List.set_cons_zero, List.set_cons_succ]
        refine wpAnyH_ready (rs := [16]) (by kernel_rfl) (by simp) ?_
        refine AllReadyH.cons rfl (fun K hK => ?_) AllReadyH.nil
        have xo := HXO.out.1
        have xf := HXO.out.2
        go_simp
        rw [ks2.out]
        refine hK.out _ _ PD.out (fun _ => ?_)
        clear hK K xo xf
        try simp only [Act.put, List.getElem_toArray, List.getElem_cons_zero, List.getElem_cons_succ, List.setIfInBounds_toArray, List.set_cons_zero, List.set_cons_succ]
        refine wpAnyH_done (by kernel_rfl) ?_ _
        go_wp2_with fail
        go_round
        case rel => exact ⟨k + 1, by go_num, by omega, KO3, KB3, KM3, KZ3⟩
        case measure => simp [intOf]; omega
    · obtain rfl : L = k := by omega
      have j0 : decide ((L : Int) < (L : Int)) = false := decide_eq_false (by omega)
      have hZ0 := KZ.out
      have t0 := (hZ0.cell 0).trans (show _ = some (Value.slice none 0 0) from rfl)
      clear hlt hk
      go_wp2_with (first | (refine wpList_store_row rfl 32 (.tmp 4) (.tmp 63) rfl (w.heap.size + 1) #[.slice (some ⟨g, 0, none⟩) N capn, .slice none 0 0, .int .i64 (-1), .bool false] rfl rfl 32 _ KZ.out (by kernel_rfl) rfl (by simp [Value.oneCell']) ?_))
      have hne : g ≠ w.heap.size + 1 := by have := HG.out; omega
      have hrow := own_same KO.out (w' := wr.setRow (w.heap.size + 1) #[.slice (some ⟨g, 0, none⟩) N capn, .slice none 0 0, .int .i64 (-1), .bool false]) (fun q hq => by cases hq; exact setRow_other _ _ _ _ hne)
      refine bodyPost_ret (results_cell_row rfl _ _ (w.heap.size + 1) 32 _ (0, 0) _ rfl (setRow_heap _ _ _ _ _ _ KZ.out) Try.underlying32 rfl (by kernel_rfl)) rfl ⟨⟨_, rfl, HFIN.out _ hrow⟩, below_setRow KB.out (by omega) _⟩
end Go.Proofs.Ythbiibinmofmfaa
