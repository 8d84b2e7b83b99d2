/- valiselaw11.step: kind 6. -/
import Derived.Test.YtillckjohlbaiaaYst0

namespace Go.Proofs.Ytillckjohlbaiaa
set_option maxRecDepth 100000
open Go.RowKit

set_option maxRecDepth 100000 in
set_option maxHeartbeats 8000000 in
theorem step_6 {w0 w : World} {b : Nat} {d : Ek.Dk} {v : Value} {E G F : Nat → Prop} (h : Bo w0 w b d v d E G F w) (hu : d.used ≤ 900) (q : Int) (q1 : q ≠ 1) (q2 : q ≠ 2) (q3 : q ≠ 3) (q4 : q ≠ 4) (q5 : q ≠ 5) (i long : Int) (c : Nat) (_ : c < 256) (ka : Option Addr) (kn kc : Nat) :
    Calls Try.prog 17 #[.pointer (some ⟨b, 0, none⟩), v, .agg #[.int .i64 q, .int .i64 i, .int .u8 (c : Int), .int .i64 long, .slice ka kn kc]] w (StP w0 F w d) := by
  obtain ⟨xa, xn, xc, xl, xm, xk, xf, xd, rfl⟩ := h.doc.four
  obtain ⟨W0, hW0, hb0, hs0, hM0, hA0, hZ0⟩ := step_boxes w (.cells #[.slice xa xn xc, .slice xl xm xk, .int .i64 xf, .bool xd] 40) (.cells #[.int .i64 q, .int .i64 i, .int .u8 (c : Int), .int .i64 long, .slice ka kn kc] 48) (.cells #[.slice none 0 0, .slice none 0 0, .int .i64 0, .bool false] 40)
  have O0 := h.new hb0
  have hEz : (E (w.heap.size + 2) ∨ (w.heap.size ≤ w.heap.size + 2 ∧ w.heap.size + 2 < W0.heap.size)) := Or.inr (by omega)
  have hGlt : ∀ k, G k → k < w.heap.size := fun k hk => h.ly.lt k (h.sub k hk)
  have V0 := Lib.hid hW0
  have M0 := Lib.hid hM0
  have A0 := Lib.hid hA0
  have Z0 := Lib.hid hZ0
  have P0 := Lib.hid O0
  have HEZ := Lib.hid hEz
  have HG := Lib.hid hGlt
  have HS := Lib.hid hs0
  have HU := Lib.hid hu
  have B0 := Lib.hid hb0
  have CR := Lib.hid (lv_read O0.ly.lv i)
  have HROW := Lib.hid (Ek.now_row O0.ly.lv.ok i.toNat)
  clear h hb0 hW0 hM0 hA0 hZ0 O0 hEz hGlt hs0 hu
  go_enter Try.func17, Try.ntmps17
  go_wp2_with fail
  rw [← V0.out]
  clear V0
  refine CR.out.mono ?_
  clear CR
  rintro e w1 ⟨hb1, hpost⟩
  have CV := Lib.hid (rdisk_read_any w1 G _ d (P0.out.doc.later hb1) i)
  have P1 := Lib.hid (P0.out.new hb1)
  have M1 := Lib.hid (M0.out.later hb1)
  have A1 := Lib.hid (A0.out.later hb1)
  have Z1 := Lib.hid (Z0.out.later hb1)
  have hz1 := hb1.size
  have hzz := HS.out
  have HEz : Hid ((E (w.heap.size + 2) ∨ (w.heap.size ≤ w.heap.size + 2 ∧ w.heap.size + 2 < W0.heap.size)) ∨ (W0.heap.size ≤ w.heap.size + 2 ∧ w.heap.size + 2 < w1.heap.size)) := Or.inl HEZ.out
  have HGz : Hid (¬ G (w.heap.size + 2)) := fun h => by have := HG.out _ h; omega
  have HM4 : Hid ((w.heap.size : Nat) ≠ w.heap.size + 2) := by show _ ≠ _; omega
  rcases hpost with ⟨hne, rfl⟩ | ⟨hz0, g, rfl, hg, hhas⟩
  · obtain ⟨q0, hq0⟩ : ∃ x, x = Ek.readE d i := ⟨_, rfl⟩
    rw [if_neg hne] at CV
    rw [← hq0] at CV ⊢
    have CV' : Hid (Calls Try.prog 55 #[.agg #[.slice xa xn xc, .slice xl xm xk, .int .i64 xf, .bool xd], .int .i64 i] w1 fun e w' => e = .returned (.tuple #[.string ⟨#[]⟩, .int .i64 q0]) ∧ Below w1.heap.size w1 w') := CV
    have a1 := (A1.out.cell 1 : _ = some (Value.int .i64 i))
    have hqq : (q0 == q0) = true := by simp
    clear CV hne hq0 hb1 hz1 hzz
    go_wp2_with (refine wpList_load_row rfl 40 (.tmp 4) rfl w.heap.size rfl 40 _ (0, 0) _ M1.out Try.underlying40 rfl Try.infoDisk4 ?_)
    refine CV'.out.mono ?_
    clear CV'
    rintro e w2 ⟨rfl, hb2⟩
    have hcv := string_of w2 none 0 0 [] ⟨#[]⟩ (Sl.nil w2) (Lib.hid rfl)
    have D5 := below_drewN (Below.refl w2.heap.size w2) 1
    have O6 := Lib.hid ((P1.out.later hb2).later D5)
    have T6 : Has w2.drew w.heap.size (.cells #[.slice xa xn xc, .slice xl xm xk, .int .i64 xf, .bool xd] 40) ∧ True := ⟨(M1.out.later hb2).later D5, trivial⟩
    have Z6 := Lib.hid (show Has w2.drew (w.heap.size + 2) (.cells #[.slice none 0 0, .slice none 0 0, .int .i64 0, .bool false] 40) from (Z1.out.later hb2).later D5)
    clear a1 hb2 D5
    go_wp2_with fail
    refine wp_loop_rounds 1 ?_
    rw [rounds_succ]
    go_wp2_with fail
    refine wp_region_held_drew (S := fun wx => Has wx w.heap.size (.cells #[.slice xa xn xc, .slice xl xm xk, .int .i64 xf, .bool xd] 40) ∧ True) (by kernel_rfl) T6 (fun _ => ?_)
    change wpAnyH _ _ _ _ _ 6 (Array.replicate 6 false) _ _
    refine wpAnyH_take (i := 0) (v := ?_) rfl (by kernel_rfl) (by kernel_rfl) (by kernel_rfl) (fun _ _ _ h => h) (Or.inl ⟨rfl, ?hy0⟩) T6 ?_
    case hy0 => intro w' hw'; clear hw'; go_simp; first | done | rfl
    try simp only [Act.put, List.getElem_toArray, List.getElem_cons_zero, List.setIfInBounds_toArray, List.set_cons_zero, List.set_cons_succ]
    refine wpAnyH_take (i := 1) (v := .agg #[.slice xa xn xc, .slice xl xm xk, .int .i64 xf, .bool xd]) rfl (by kernel_rfl) (by kernel_rfl) (by kernel_rfl) (fun _ _ _ h => h) (Or.inl ⟨rfl, ?hy1⟩) T6 ?_
    case hy1 =>
      intro w' hw'
      exact exec_row (.tmp 4) rfl w.heap.size rfl 40 _ (0, 0) _ hw'.1 Try.underlying40 rfl Try.infoDisk4
    try simp only [Act.put, List.getElem_toArray, List.getElem_cons_zero, List.getElem_cons_succ, List.setIfInBounds_toArray, List.set_cons_zero, List.set_cons_succ]
    refine wpAnyH_take (i := 2) (v := ?_) rfl (by kernel_rfl) (by kernel_rfl) (by kernel_rfl) (fun _ _ _ h => h) (Or.inl ⟨rfl, ?hy2⟩) T6 ?_
    case hy2 => intro w' hw'; clear hw'; go_simp; first | done | rfl
    try simp only [Act.put, List.getElem_toArray, List.getElem_cons_zero, List.getElem_cons_succ, List.setIfInBounds_toArray, List.set_cons_zero, List.set_cons_succ]
    refine wpAnyH_take (i := 3) (v := ?_) rfl (by kernel_rfl) (by kernel_rfl) (by kernel_rfl) (fun _ _ _ h => h) (Or.inl ⟨rfl, ?hy3⟩) T6 ?_
    case hy3 => intro w' hw'; clear hw'; go_simp; first | done | rfl
    try simp only [Act.put, List.getElem_toArray, List.getElem_cons_zero, List.getElem_cons_succ, List.setIfInBounds_toArray, List.set_cons_zero, List.set_cons_succ]
    have i1 : Has (w2.drew.setRow (w.heap.size + 2) #[.slice xa xn xc, .slice xl xm xk, .int .i64 xf, .bool xd]) w.heap.size (.cells #[.slice xa xn xc, .slice xl xm xk, .int .i64 xf, .bool xd] 40) ∧ True := ⟨has_row T6.1 (fun hh => HM4.out hh.symm) _, trivial⟩
    refine wpAnyH_ready (rs := [4]) (by kernel_rfl) (by simp) ?_
    refine AllReadyH.cons rfl (fun K hK => ?_) AllReadyH.nil
    rw [if_pos (by rfl)]
    refine wp_store_row 40 _ _ rfl (w.heap.size + 2) #[.slice xa xn xc, .slice xl xm xk, .int .i64 xf, .bool xd] rfl rfl 40 _ Z6.out Try.infoDisk4 rfl (by simp [Value.oneCell']) ?_
    refine hK.out _ _ i1 (fun _ => ?_)
    clear hK K
    try simp only [Act.put, List.getElem_toArray, List.getElem_cons_zero, List.getElem_cons_succ]
    refine wpAnyH_take (i := 5) (v := ?_) rfl (by kernel_rfl) (by kernel_rfl) (by kernel_rfl) (fun _ _ _ h => h) (Or.inl ⟨rfl, ?hy5⟩) i1 ?_
    case hy5 => intro w' hw'; clear hw'; go_simp; first | done | rfl
    try simp only [Act.put, List.getElem_toArray, List.getElem_cons_zero, List.getElem_cons_succ, List.setIfInBounds_toArray, List.set_cons_zero, List.set_cons_succ]
    refine wpAnyH_done (by kernel_rfl) ?_ _
    go_wp2
    refine bodyPost_ret (results_tct rfl _ _ (w.heap.size + 2) 40 _ (0, 0) _ rfl (setRow_heap _ _ _ #[.slice xa xn xc, .slice xl xm xk, .int .i64 xf, .bool xd] _ _ Z6.out) Try.underlying40 rfl Try.infoDisk4) rfl ?_
    exact StP.of O6.out (w.heap.size + 2) HEz.out HGz.out (by omega) _
  · have CV' : Hid (Calls Try.prog 55 #[.agg #[.slice xa xn xc, .slice xl xm xk, .int .i64 xf, .bool xd], .int .i64 i] w1 fun e w' => e = .returned (.tuple #[.string (strB (Ek.now d i.toNat)), .int .i64 0]) ∧ Below w1.heap.size w1 w') := by
      have := CV.out
      rwa [if_pos hz0, hz0] at this
    have hgl := hhas.lt
    have HR := Lib.hid HROW.out
    have SG := Lib.hid (has_sl hhas HR.out.2 (by rw [show (Ek.now d i.toNat).length = 512 from HR.out.1]; decide) 512 512 HR.out.1.symm)
    have HH := Lib.hid hhas
    obtain ⟨S, hS⟩ : ∃ S, S = strB (Ek.now d i.toNat) := ⟨_, rfl⟩
    rw [← hS] at CV'
    have HSq := Lib.hid hS
    have a1 := (A1.out.cell 1 : _ = some (Value.int .i64 i))
    have HEg : Hid ((E g ∨ (w.heap.size ≤ g ∧ g < W0.heap.size)) ∨ (W0.heap.size ≤ g ∧ g < w1.heap.size)) := Or.inr ⟨hg, hgl⟩
    have HGg : Hid (¬ G g) := fun h => by have := HG.out _ h; omega
    have HWg : Hid (w.heap.size ≤ g) := by show _ ≤ _; omega
    have HNE := Lib.hid (show g ≠ w.heap.size ∧ g ≠ w.heap.size + 2 by omega)
    clear CV hz0 hb1 hz1 hzz hg hgl hhas hS
    go_wp2_with (refine wpList_load_row rfl 40 (.tmp 4) rfl w.heap.size rfl 40 _ (0, 0) _ M1.out Try.underlying40 rfl Try.infoDisk4 ?_)
    refine CV'.out.mono ?_
    clear CV'
    rintro e w2 ⟨rfl, hb2⟩
    have hcv := string_of w2 (some ⟨g, 0, none⟩) 512 512 _ S (SG.out.later hb2) HSq
    have hss : (S.toList == S.toList) = true := beq_self_eq_true _
    have P2 := Lib.hid (P1.out.later hb2)
    have M2 := Lib.hid (M1.out.later hb2)
    have Z2 := Lib.hid (Z1.out.later hb2)
    have H2 := Lib.hid (HH.out.later hb2)
    have HLn : Hid ((Ek.now d i.toNat).length = 512) := HR.out.1
    have HI0 : Hid (Tch (fun k => k = g) w2 w2) := Tch.refl _ _
    obtain ⟨fl, hfl⟩ : ∃ l, l = Ek.now d i.toNat := ⟨_, rfl⟩
    rw [← hfl] at H2 HLn
    clear a1 hb2 SG HH hfl
    go_wp2_with fail
    clear hcv hss
    go_loopw [22] (fun s22 wr => ∃ (k : Nat) (ys : List Nat), s22 = .int .i64 (k : Int) ∧ k ≤ 512 ∧ Hid (ys.length = 512) ∧ Hid (Has wr g (.cells (vb ys).toArray 113 (0, 0))) ∧ Hid (Tch (fun k => k = g) w2 wr)) (fun s22 _ => 512 - (intOf s22).toNat)
    case atStart => exact ⟨0, fl, by go_num, Nat.zero_le _, HLn, H2, HI0⟩
    case round =>
      obtain ⟨k, ys, rfl, hk, HY, KY, KT⟩ := hrel
      by_cases hlt : k < 512
      · have j0 : decide ((k : Int) < 512) = true := decide_eq_true (by omega)
        have hlt' : (k : Int) < 512 := by omega
        have hi0 : (0 : Int) ≤ (k : Int) := by omega
        obtain ⟨x, hx⟩ : ∃ x : Nat, ys[k]? = some x := ⟨_, List.getElem?_eq_getElem (by rw [HY.out]; exact hlt)⟩
        have hcell : wr.cell? ⟨g, k, none⟩ = some (.int .u8 (x : Int)) := by rw [KY.out.cell, List.getElem?_toArray, vb_get, hx]; rfl
        have hfro := KY.out.free k
        have KY2 : Hid (Has (wr.setCell ⟨g, k, none⟩ (.int .u8 7)) g (.cells (vb (ys.set k 7)).toArray 113 (0, 0))) := by
          have := KY.out.setSelf (i := k) (.int .u8 ((7 : Nat) : Int))
          rw [vb_set]
          show Has _ _ _
          simpa using this
        have KT2 := Lib.hid (KT.out.setCell (p := ⟨g, k, none⟩) rfl (.int .u8 7))
        have HY2 : Hid ((ys.set k 7).length = 512) := by show _ = _; rw [List.length_set]; exact HY.out
        clear hx hk
        go_wp2_with fail
        go_round
        case rel => exact ⟨k + 1, ys.set k 7, by go_num, by omega, HY2, KY2, KT2⟩
        case measure => simp [intOf]; omega
      · have j0 : decide ((k : Int) < 512) = false := decide_eq_false (by omega)
        have O5 := P2.out.tch g HEg.out HGg.out HWg.out KT.out
        have T5 : Has wr w.heap.size (.cells #[.slice xa xn xc, .slice xl xm xk, .int .i64 xf, .bool xd] 40) := M2.out.tch KT.out (fun hh => HNE.out.1 hh.symm)
        have Z5 : Has wr (w.heap.size + 2) (.cells #[.slice none 0 0, .slice none 0 0, .int .i64 0, .bool false] 40) := Z2.out.tch KT.out (fun hh => HNE.out.2 hh.symm)
        have D5 := below_drewN (Below.refl wr.heap.size wr) 1
        have O6 := Lib.hid (O5.later D5)
        have T6 : Has wr.drew w.heap.size (.cells #[.slice xa xn xc, .slice xl xm xk, .int .i64 xf, .bool xd] 40) ∧ True := ⟨T5.later D5, trivial⟩
        have Z6 := Lib.hid (show Has wr.drew (w.heap.size + 2) (.cells #[.slice none 0 0, .slice none 0 0, .int .i64 0, .bool false] 40) from Z5.later D5)
        clear hk O5 T5 Z5 D5 HY KY KT
        go_wp2_with fail
        refine wp_region_held_drew (S := fun wx => Has wx w.heap.size (.cells #[.slice xa xn xc, .slice xl xm xk, .int .i64 xf, .bool xd] 40) ∧ True) (by kernel_rfl) T6 (fun _ => ?_)
        change wpAnyH _ _ _ _ _ 6 (Array.replicate 6 false) _ _
        refine wpAnyH_take (i := 0) (v := ?_) rfl (by kernel_rfl) (by kernel_rfl) (by kernel_rfl) (fun _ _ _ h => h) (Or.inl ⟨rfl, ?hy0⟩) T6 ?_
        case hy0 => intro w' hw'; clear hw'; go_simp; first | done | rfl
        try simp only [Act.put, List.getElem_toArray, List.getElem_cons_zero, List.setIfInBounds_toArray, List.set_cons_zero, List.set_cons_succ]
        refine wpAnyH_take (i := 1) (v := .agg #[.slice xa xn xc, .slice xl xm xk, .int .i64 xf, .bool xd]) rfl (by kernel_rfl) (by kernel_rfl) (by kernel_rfl) (fun _ _ _ h => h) (Or.inl ⟨rfl, ?hy1⟩) T6 ?_
        case hy1 =>
          intro w' hw'
          exact exec_row (.tmp 4) rfl w.heap.size rfl 40 _ (0, 0) _ hw'.1 Try.underlying40 rfl Try.infoDisk4
        try simp only [Act.put, List.getElem_toArray, List.getElem_cons_zero, List.getElem_cons_succ, List.setIfInBounds_toArray, List.set_cons_zero, List.set_cons_succ]
        refine wpAnyH_take (i := 2) (v := ?_) rfl (by kernel_rfl) (by kernel_rfl) (by kernel_rfl) (fun _ _ _ h => h) (Or.inl ⟨rfl, ?hy2⟩) T6 ?_
        case hy2 => intro w' hw'; clear hw'; go_simp; first | done | rfl
        try simp only [Act.put, List.getElem_toArray, List.getElem_cons_zero, List.getElem_cons_succ, List.setIfInBounds_toArray, List.set_cons_zero, List.set_cons_succ]
        refine wpAnyH_take (i := 3) (v := ?_) rfl (by kernel_rfl) (by kernel_rfl) (by kernel_rfl) (fun _ _ _ h => h) (Or.inl ⟨rfl, ?hy3⟩) T6 ?_
        case hy3 => intro w' hw'; clear hw'; go_simp; first | done | rfl
        try simp only [Act.put, List.getElem_toArray, List.getElem_cons_zero, List.getElem_cons_succ, List.setIfInBounds_toArray, List.set_cons_zero, List.set_cons_succ]
        have i1 : Has (wr.drew.setRow (w.heap.size + 2) #[.slice xa xn xc, .slice xl xm xk, .int .i64 xf, .bool xd]) w.heap.size (.cells #[.slice xa xn xc, .slice xl xm xk, .int .i64 xf, .bool xd] 40) ∧ True := ⟨has_row T6.1 (fun hh => HM4.out hh.symm) _, trivial⟩
        refine wpAnyH_ready (rs := [4]) (by kernel_rfl) (by simp) ?_
        refine AllReadyH.cons rfl (fun K hK => ?_) AllReadyH.nil
        rw [if_pos (by rfl)]
        refine wp_store_row 40 _ _ rfl (w.heap.size + 2) #[.slice xa xn xc, .slice xl xm xk, .int .i64 xf, .bool xd] rfl rfl 40 _ Z6.out Try.infoDisk4 rfl (by simp [Value.oneCell']) ?_
        refine hK.out _ _ i1 (fun _ => ?_)
        clear hK K
        try simp only [Act.put, List.getElem_toArray, List.getElem_cons_zero, List.getElem_cons_succ]
        refine wpAnyH_take (i := 5) (v := ?_) rfl (by kernel_rfl) (by kernel_rfl) (by kernel_rfl) (fun _ _ _ h => h) (Or.inl ⟨rfl, ?hy5⟩) i1 ?_
        case hy5 => intro w' hw'; clear hw'; go_simp; first | done | rfl
        try simp only [Act.put, List.getElem_toArray, List.getElem_cons_zero, List.getElem_cons_succ, List.setIfInBounds_toArray, List.set_cons_zero, List.set_cons_succ]
        refine wpAnyH_done (by kernel_rfl) ?_ _
        go_wp2
        refine bodyPost_ret (results_tct rfl _ _ (w.heap.size + 2) 40 _ (0, 0) _ rfl (setRow_heap _ _ _ #[.slice xa xn xc, .slice xl xm xk, .int .i64 xf, .bool xd] _ _ Z6.out) Try.underlying40 rfl Try.infoDisk4) rfl ?_
        exact StP.of O6.out (w.heap.size + 2) HEz.out HGz.out (by omega) _
end Go.Proofs.Ytillckjohlbaiaa
