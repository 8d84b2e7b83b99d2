/- valiselaw11.step: kind 4. -/
import Derived.Test.YtillckjohlbaiaaYst0
import Derived.Test.YtillckjohlbaiaaEact8

namespace Go.Proofs.Ytillckjohlbaiaa
set_option maxRecDepth 100000
open Go.RowKit

set_option maxRecDepth 100000 in
set_option maxHeartbeats 8000000 in
theorem step_4 {w0 w : World} {b : Nat} {d : Ek.Dk} {v : Value} {E G F : Nat → Prop} (h : Bo w0 w b d v d E G F w) (hu : d.used ≤ 900) (i long : Int) (c : Nat) (_ : c < 256) (ka : Option Addr) (kn kc : Nat) (ks : List Int) (hks : Ks w (.slice ka kn kc) ks) (h8 : ks.length * 8 ≤ 140737488351232) (hkn : ka = none → kc = 0) :
    Calls Try.prog 17 #[.pointer (some ⟨b, 0, none⟩), v, .agg #[.int .i64 4, .int .i64 i, .int .u8 (c : Int), .int .i64 long, .slice ka kn kc]] w (StP w0 F w (Ek.crash d (Ek.nth ks))) := by
  obtain ⟨xa, xn, xc, xl, xm, xk, xf, xd, rfl⟩ := h.doc.four
  obtain ⟨W0, hW0, hb0, hs0, hM0, hA0, hZ0⟩ := step_boxes w (.cells #[.slice xa xn xc, .slice xl xm xk, .int .i64 xf, .bool xd] 40) (.cells #[.int .i64 4, .int .i64 i, .int .u8 (c : Int), .int .i64 long, .slice ka kn kc] 48) (.cells #[.slice none 0 0, .slice none 0 0, .int .i64 0, .bool false] 40)
  have O0 := h.new hb0
  have hEz : (E (w.heap.size + 2) ∨ (w.heap.size ≤ w.heap.size + 2 ∧ w.heap.size + 2 < W0.heap.size)) := Or.inr (by omega)
  have hGlt : ∀ k, G k → k < w.heap.size := fun k hk => h.ly.lt k (h.sub k hk)
  have V0 := Lib.hid hW0
  have M0 := Lib.hid hM0
  have A0 := Lib.hid hA0
  have Z0 := Lib.hid hZ0
  have P0 := Lib.hid O0
  have HEZ := Lib.hid hEz
  have HG := Lib.hid hGlt
  have HS := Lib.hid hs0
  have HU := Lib.hid hu
  have B0 := Lib.hid hb0
  have hks0 := hks.keep (keepA_below hb0)
  have HK8 := Lib.hid h8
  have HKN := Lib.hid hkn
  have D0 := below_drewN (Below.refl W0.heap.size W0) 1
  have P0d := Lib.hid (show Bo w0 W0.drew b d _ d _ _ _ _ from O0.later D0)
  have M0d := Lib.hid (show Has W0.drew w.heap.size (.cells #[.slice xa xn xc, .slice xl xm xk, .int .i64 xf, .bool xd] 40) from hM0.later D0)
  have A0d := Lib.hid (show Has W0.drew (w.heap.size + 1) (.cells #[.int .i64 4, .int .i64 i, .int .u8 (c : Int), .int .i64 long, .slice ka kn kc] 48) from hA0.later D0)
  have Z0d := Lib.hid (show Has W0.drew (w.heap.size + 2) (.cells #[.slice none 0 0, .slice none 0 0, .int .i64 0, .bool false] 40) from hZ0.later D0)
  have K0d := Lib.hid (show Ks W0.drew (.slice ka kn kc) ks from hks0.keep (keepA_below D0))
  have i0 : Has W0.drew w.heap.size (.cells #[.slice xa xn xc, .slice xl xm xk, .int .i64 xf, .bool xd] 40) ∧ Has W0.drew (w.heap.size + 1) (.cells #[.int .i64 4, .int .i64 i, .int .u8 (c : Int), .int .i64 long, .slice ka kn kc] 48) := ⟨M0d.out, A0d.out⟩
  clear hks hks0 h8 hkn D0 M0 A0 Z0 P0 B0
  clear h hb0 hW0 hM0 hA0 hZ0 O0 hEz hGlt hs0 hu
  go_enter Try.func17, Try.ntmps17
  go_wp2_with fail
  rw [← V0.out]
  clear V0
  refine wp_region_held_drew (S := (fun wx => Has wx w.heap.size (.cells #[.slice xa xn xc, .slice xl xm xk, .int .i64 xf, .bool xd] 40) ∧ Has wx (w.heap.size + 1) (.cells #[.int .i64 4, .int .i64 i, .int .u8 (c : Int), .int .i64 long, .slice ka kn kc] 48))) (by kernel_rfl) i0 (fun _ => ?_)
  change wpAnyH _ _ _ _ _ 15 (Array.replicate 15 false) _ _
  refine wpAnyH_take (i := 0) (v := ?_) rfl (by kernel_rfl) (by kernel_rfl) (by kernel_rfl) (fun _ _ _ h => h) (Or.inl ⟨rfl, ?hy0⟩) i0 ?_
  case hy0 => intro w' hw'; clear hw'; go_simp; first | done | rfl
  try simp only [Act.put, List.getElem_toArray, List.getElem_cons_zero, List.setIfInBounds_toArray, List.set_cons_zero, List.set_cons_succ]
  refine wpAnyH_take (i := 1) (v := .agg #[.slice xa xn xc, .slice xl xm xk, .int .i64 xf, .bool xd]) rfl (by kernel_rfl) (by kernel_rfl) (by kernel_rfl) (fun _ _ _ h => h) (Or.inl ⟨rfl, ?hy1⟩) i0 ?_
  case hy1 =>
    intro w' hw'
    exact exec_row (.tmp 4) rfl w.heap.size rfl 40 _ (0, 0) _ hw'.1 Try.underlying40 rfl Try.infoDisk4
  try simp only [Act.put, List.getElem_toArray, List.getElem_cons_zero, List.getElem_cons_succ, List.setIfInBounds_toArray, List.set_cons_zero, List.set_cons_succ]
  refine wpAnyH_take (i := 2) (v := ?_) rfl (by kernel_rfl) (by kernel_rfl) (by kernel_rfl) (fun _ _ _ h => h) (Or.inl ⟨rfl, ?hy2⟩) i0 ?_
  case hy2 => intro w' hw'; clear hw'; go_simp; first | done | rfl
  try simp only [Act.put, List.getElem_toArray, List.getElem_cons_zero, List.getElem_cons_succ, List.setIfInBounds_toArray, List.set_cons_zero, List.set_cons_succ]
  refine wpAnyH_take (i := 3) (v := ?_) rfl (by kernel_rfl) (by kernel_rfl) (by kernel_rfl) (fun _ _ _ h => h) (Or.inl ⟨rfl, ?hy3⟩) i0 ?_
  case hy3 => intro w' hw'; have c4 := hw'.2.cell 4; clear hw'; go_simp; first | done | rfl
  try simp only [Act.put, List.getElem_toArray, List.getElem_cons_zero, List.getElem_cons_succ, List.setIfInBounds_toArray, List.set_cons_zero, List.set_cons_succ]
  refine wpAnyH_take (i := 5) (v := ?_) rfl (by kernel_rfl) (by kernel_rfl) (by kernel_rfl) (fun _ _ _ h => h) (Or.inl ⟨rfl, ?hy5⟩) i0 ?_
  case hy5 => intro w' hw'; clear hw'; go_simp; first | done | rfl
  try simp only [Act.put, List.getElem_toArray, List.getElem_cons_zero, List.getElem_cons_succ, List.setIfInBounds_toArray, List.set_cons_zero, List.set_cons_succ]
  refine wpAnyH_take (i := 7) (v := ?_) rfl (by kernel_rfl) (by kernel_rfl) (by kernel_rfl) (fun _ _ _ h => h) (Or.inl ⟨rfl, ?hy7⟩) i0 ?_
  case hy7 => intro w' hw'; clear hw'; go_simp; first | done | rfl
  try simp only [Act.put, List.getElem_toArray, List.getElem_cons_zero, List.getElem_cons_succ, List.setIfInBounds_toArray, List.set_cons_zero, List.set_cons_succ]
  refine wpAnyH_take (i := 8) (v := ?_) rfl (by kernel_rfl) (by kernel_rfl) (by kernel_rfl) (fun _ _ _ h => h) (Or.inl ⟨rfl, ?hy8⟩) i0 ?_
  case hy8 => intro w' hw'; have c4 := hw'.2.cell 4; clear hw'; go_simp; first | done | rfl
  try simp only [Act.put, List.getElem_toArray, List.getElem_cons_zero, List.getElem_cons_succ, List.setIfInBounds_toArray, List.set_cons_zero, List.set_cons_succ]
  refine wpAnyH_ready (rs := [4, 6]) (by kernel_rfl) (by simp) ?_
  refine AllReadyH.cons rfl (fun K hK => ?_) (AllReadyH.cons rfl (fun K hK => ?_) AllReadyH.nil)
  · have CW := rdisk_crash W0.drew G _ d P0d.out.doc _ ks K0d.out
    go_simp
    refine CW.mono ?_
    clear CW
    rintro e w2 ⟨⟨v2, rfl, hd2⟩, hb2⟩
    have O2 := P0d.out.ref hb2 hd2
    obtain ⟨ya, yn, yc, yl, ym, yk, yf, yd, rfl⟩ := hd2.four
    have i2 : Has w2 w.heap.size (.cells #[.slice xa xn xc, .slice xl xm xk, .int .i64 xf, .bool xd] 40) ∧ Has w2 (w.heap.size + 1) (.cells #[.int .i64 4, .int .i64 i, .int .u8 (c : Int), .int .i64 long, .slice ka kn kc] 48) := ⟨i0.1.later hb2, i0.2.later hb2⟩
    have Z2 := Z0d.out.later hb2
    have hzz := HS.out
    have hbz : W0.drew.heap.size = W0.heap.size := by simp
    have HEz := Lib.hid (show ((E (w.heap.size + 2) ∨ (w.heap.size ≤ w.heap.size + 2 ∧ w.heap.size + 2 < W0.heap.size)) ∨ (W0.drew.heap.size ≤ w.heap.size + 2 ∧ w.heap.size + 2 < w2.heap.size)) from Or.inl HEZ.out)
    have HEm := Lib.hid (show ((E w.heap.size ∨ (w.heap.size ≤ w.heap.size ∧ w.heap.size < W0.heap.size)) ∨ (W0.drew.heap.size ≤ w.heap.size ∧ w.heap.size < w2.heap.size)) from Or.inl (Or.inr (by omega)))
    have HEa := Lib.hid (show ((E (w.heap.size + 1) ∨ (w.heap.size ≤ w.heap.size + 1 ∧ w.heap.size + 1 < W0.heap.size)) ∨ (W0.drew.heap.size ≤ w.heap.size + 1 ∧ w.heap.size + 1 < w2.heap.size)) from Or.inl (Or.inr (by omega)))
    have HGz := Lib.hid (show ¬ (G (w.heap.size + 2) ∨ (W0.drew.heap.size ≤ w.heap.size + 2 ∧ w.heap.size + 2 < w2.heap.size)) from by
      rintro (h | h)
      · have := HG.out _ h; omega
      · omega)
    have b3 := below1 w2 (.cells #[] 3)
    have i3 : Has (w2.alloc (.cells #[] 3)) w.heap.size (.cells #[.slice xa xn xc, .slice xl xm xk, .int .i64 xf, .bool xd] 40) ∧ Has (w2.alloc (.cells #[] 3)) (w.heap.size + 1) (.cells #[.int .i64 4, .int .i64 i, .int .u8 (c : Int), .int .i64 long, .slice ka kn kc] 48) := ⟨i2.1.later b3, i2.2.later b3⟩
    have own3 := World.ownsRow_lit (base := w2.heap.size) (e := 3) (size := 1) w2 #[] 0 (Nat.le_refl _) (by unfold maxLen; omega) rfl
    obtain ⟨g4, n4, w4, hrun, hks4, hgrow, hg4⟩ := ints_run (w2.alloc (.cells #[] 3)) w2.heap.size w2.heap.size own3 b3.size ka kn kc ks ((K0d.out.keep (keepA_below hb2)).keep (keepA_below b3)) HK8.out HKN.out
    have hb4 : Below w2.heap.size w2 w4 := b3.grown hgrow b3.size (fun k e => by cases e; exact Nat.le_refl _)
    have P4 := Lib.hid (O2.later hb4)
    have i4 : Has w4 w.heap.size (.cells #[.slice xa xn xc, .slice xl xm xk, .int .i64 xf, .bool xd] 40) ∧ Has w4 (w.heap.size + 1) (.cells #[.int .i64 4, .int .i64 i, .int .u8 (c : Int), .int .i64 long, .slice ka kn kc] 48) := ⟨i2.1.later hb4, i2.2.later hb4⟩
    have Z4 := Lib.hid (Z2.later hb4)
    have KS4 := Lib.hid hks4
    dsimp only
    refine hK.out _ _ i2 (fun _ => ?_)
    clear hK K
    try simp only [Act.put, List.getElem_toArray, List.getElem_cons_zero, List.getElem_cons_succ, List.setIfInBounds_toArray, List.set_cons_zero, List.set_cons_succ]
    refine wpAnyH_ready (rs := [6]) (by kernel_rfl) (by simp) ?_
    refine AllReadyH.cons rfl (fun K hK => ?_) AllReadyH.nil
    clear i0 hbz hzz O2 hd2 hb2 Z2 own3 hks4 hgrow hg4 hb4 b3
    go_simp
    refine hK.out _ _ i3 (fun _ => ?_)
    clear hK K
    try simp only [Act.put, List.getElem_toArray, List.getElem_cons_zero, List.getElem_cons_succ, List.setIfInBounds_toArray, List.set_cons_zero, List.set_cons_succ]
    have HRUN := Lib.hid hrun
    refine wpAnyH_ready (rs := [9]) (by kernel_rfl) (by simp) ?_
    refine AllReadyH.cons rfl (fun K hK => ?_) AllReadyH.nil
    rw [if_pos (by rfl)]
    refine wp_exec (exec_append (.tmp 92) (.tmp 94) 46 rfl (.slice (some ⟨w2.heap.size, 0, none⟩) 0 0) (.slice ka kn kc) (.slice (some ⟨g4, 0, none⟩) kn n4) rfl rfl HRUN.out) ?_
    refine hK.out _ _ i4 (fun _ => ?_)
    clear hK K HRUN
    try simp only [Act.put, List.getElem_toArray, List.getElem_cons_zero, List.getElem_cons_succ, List.setIfInBounds_toArray, List.set_cons_zero, List.set_cons_succ]
    have CK := Lib.hid (ly_crash P4.out.ly _ _ KS4.out)
    refine wpAnyH_ready (rs := [10]) (by kernel_rfl) (by simp) ?_
    refine AllReadyH.cons rfl (fun K hK => ?_) AllReadyH.nil
    go_simp
    refine CK.out.mono ?_
    clear CK
    rintro e w5 hp
    obtain ⟨rfl, O5⟩ := P4.out.prog hp
    have hkeep := hp.2.2
    have i5 : Has w5 w.heap.size (.cells #[.slice xa xn xc, .slice xl xm xk, .int .i64 xf, .bool xd] 40) ∧ Has w5 (w.heap.size + 1) (.cells #[.int .i64 4, .int .i64 i, .int .u8 (c : Int), .int .i64 long, .slice ka kn kc] 48) := ⟨(hkeep _ HEm.out).trans i4.1, (hkeep _ HEa.out).trans i4.2⟩
    have Z5 := Lib.hid (show Has w5 (w.heap.size + 2) (.cells #[.slice none 0 0, .slice none 0 0, .int .i64 0, .bool false] 40) from (hkeep _ HEz.out).trans Z4.out)
    have P5 := Lib.hid O5
    clear hp hkeep O5 i4
    dsimp only
    refine hK.out _ _ i5 (fun _ => ?_)
    clear hK K
    try simp only [Act.put, List.getElem_toArray, List.getElem_cons_zero, List.getElem_cons_succ, List.setIfInBounds_toArray, List.set_cons_zero, List.set_cons_succ]
    refine wpAnyH_take (i := 11) (v := ?_) rfl (by kernel_rfl) (by kernel_rfl) (by kernel_rfl) (fun _ _ _ h => h) (Or.inl ⟨rfl, ?hy11⟩) i5 ?_
    case hy11 => intro w' hw'; clear hw'; go_simp; first | done | rfl
    try simp only [Act.put, List.getElem_toArray, List.getElem_cons_zero, List.getElem_cons_succ, List.setIfInBounds_toArray, List.set_cons_zero, List.set_cons_succ]
    refine wpAnyH_take (i := 12) (v := ?_) rfl (by kernel_rfl) (by kernel_rfl) (by kernel_rfl) (fun _ _ _ h => h) (Or.inl ⟨rfl, ?hy12⟩) i5 ?_
    case hy12 => intro w' hw'; clear hw'; go_simp; first | done | rfl
    try simp only [Act.put, List.getElem_toArray, List.getElem_cons_zero, List.getElem_cons_succ, List.setIfInBounds_toArray, List.set_cons_zero, List.set_cons_succ]
    have i6 : Has (w5.setRow (w.heap.size + 2) #[.slice ya yn yc, .slice yl ym yk, .int .i64 yf, .bool yd]) w.heap.size (.cells #[.slice xa xn xc, .slice xl xm xk, .int .i64 xf, .bool xd] 40) ∧ Has (w5.setRow (w.heap.size + 2) #[.slice ya yn yc, .slice yl ym yk, .int .i64 yf, .bool yd]) (w.heap.size + 1) (.cells #[.int .i64 4, .int .i64 i, .int .u8 (c : Int), .int .i64 long, .slice ka kn kc] 48) := ⟨has_row i5.1 (by omega) _, has_row i5.2 (by omega) _⟩
    refine wpAnyH_ready (rs := [13]) (by kernel_rfl) (by simp) ?_
    refine AllReadyH.cons rfl (fun K hK => ?_) AllReadyH.nil
    rw [if_pos (by rfl)]
    refine wp_store_row 40 _ _ rfl (w.heap.size + 2) #[.slice ya yn yc, .slice yl ym yk, .int .i64 yf, .bool yd] rfl rfl 40 _ Z5.out Try.infoDisk4 rfl (by simp [Value.oneCell']) ?_
    refine hK.out _ _ i6 (fun _ => ?_)
    clear hK K
    try simp only [Act.put, List.getElem_toArray, List.getElem_cons_zero, List.getElem_cons_succ]
    refine wpAnyH_take (i := 14) (v := ?_) rfl (by kernel_rfl) (by kernel_rfl) (by kernel_rfl) (fun _ _ _ h => h) (Or.inl ⟨rfl, ?hy14⟩) i6 ?_
    case hy14 => intro w' hw'; clear hw'; go_simp; first | done | rfl
    try simp only [Act.put, List.getElem_toArray, List.getElem_cons_zero, List.getElem_cons_succ, List.setIfInBounds_toArray, List.set_cons_zero, List.set_cons_succ]
    refine wpAnyH_done (by kernel_rfl) ?_ _
    go_wp2
    refine bodyPost_ret (results_tct rfl _ _ (w.heap.size + 2) 40 _ (0, 0) _ rfl (setRow_heap _ _ _ #[.slice ya yn yc, .slice yl ym yk, .int .i64 yf, .bool yd] _ _ Z5.out) Try.underlying40 rfl Try.infoDisk4) rfl ?_
    exact StP.of P5.out (w.heap.size + 2) HEz.out HGz.out (by omega) _
  · have bB : Below W0.drew.heap.size W0.drew (W0.alloc (.cells #[] 3)).drew := below1 W0.drew (.cells #[] 3)
    have iB : Has (W0.alloc (.cells #[] 3)).drew w.heap.size (.cells #[.slice xa xn xc, .slice xl xm xk, .int .i64 xf, .bool xd] 40) ∧ Has (W0.alloc (.cells #[] 3)).drew (w.heap.size + 1) (.cells #[.int .i64 4, .int .i64 i, .int .u8 (c : Int), .int .i64 long, .slice ka kn kc] 48) := ⟨i0.1.later bB, i0.2.later bB⟩
    have PB := Lib.hid (show Bo w0 (W0.alloc (.cells #[] 3)).drew b d _ d _ _ _ _ from P0d.out.new bB)
    have ZB := Lib.hid (show Has (W0.alloc (.cells #[] 3)).drew (w.heap.size + 2) (.cells #[.slice none 0 0, .slice none 0 0, .int .i64 0, .bool false] 40) from Z0d.out.later bB)
    have KB := Lib.hid (show Ks (W0.alloc (.cells #[] 3)).drew (.slice ka kn kc) ks from K0d.out.keep (keepA_below bB))
    have ownB : Hid (World.ownsRow (W0.alloc (.cells #[] 3)).drew W0.heap.size 3 1 (.slice (some ⟨W0.heap.size, 0, none⟩) 0 0) 0 []) := World.ownsRow_lit (base := W0.heap.size) (e := 3) (size := 1) W0 #[] 0 (Nat.le_refl _) (by unfold maxLen; omega) rfl
    clear bB
    go_simp
    refine hK.out _ _ iB (fun _ => ?_)
    clear hK K
    try simp only [Act.put, List.getElem_toArray, List.getElem_cons_zero, List.getElem_cons_succ, List.setIfInBounds_toArray, List.set_cons_zero, List.set_cons_succ]
    have CW := Lib.hid (rdisk_crash (W0.alloc (.cells #[] 3)).drew G _ d PB.out.doc _ ks KB.out)
    refine wpAnyH_ready (rs := [4]) (by kernel_rfl) (by simp) ?_
    refine AllReadyH.cons rfl (fun K hK => ?_) AllReadyH.nil
    go_simp
    refine CW.out.mono ?_
    clear CW
    rintro e w2 ⟨⟨v2, rfl, hd2⟩, hb2⟩
    have O2 := PB.out.ref hb2 hd2
    obtain ⟨ya, yn, yc, yl, ym, yk, yf, yd, rfl⟩ := hd2.four
    have i2 : Has w2 w.heap.size (.cells #[.slice xa xn xc, .slice xl xm xk, .int .i64 xf, .bool xd] 40) ∧ Has w2 (w.heap.size + 1) (.cells #[.int .i64 4, .int .i64 i, .int .u8 (c : Int), .int .i64 long, .slice ka kn kc] 48) := ⟨iB.1.later hb2, iB.2.later hb2⟩
    have Z2 := ZB.out.later hb2
    have hzz := HS.out
    have hbz : (W0.alloc (.cells #[] 3)).drew.heap.size = W0.heap.size + 1 := by simp
    have hb0 : W0.drew.heap.size = W0.heap.size := rfl
    have HEz := Lib.hid (show (((E (w.heap.size + 2) ∨ (w.heap.size ≤ w.heap.size + 2 ∧ w.heap.size + 2 < W0.heap.size)) ∨ (W0.drew.heap.size ≤ w.heap.size + 2 ∧ w.heap.size + 2 < (W0.alloc (.cells #[] 3)).drew.heap.size)) ∨ ((W0.alloc (.cells #[] 3)).drew.heap.size ≤ w.heap.size + 2 ∧ w.heap.size + 2 < w2.heap.size)) from Or.inl (Or.inl HEZ.out))
    have HEm := Lib.hid (show (((E w.heap.size ∨ (w.heap.size ≤ w.heap.size ∧ w.heap.size < W0.heap.size)) ∨ (W0.drew.heap.size ≤ w.heap.size ∧ w.heap.size < (W0.alloc (.cells #[] 3)).drew.heap.size)) ∨ ((W0.alloc (.cells #[] 3)).drew.heap.size ≤ w.heap.size ∧ w.heap.size < w2.heap.size)) from Or.inl (Or.inl (Or.inr (by omega))))
    have HEa := Lib.hid (show (((E (w.heap.size + 1) ∨ (w.heap.size ≤ w.heap.size + 1 ∧ w.heap.size + 1 < W0.heap.size)) ∨ (W0.drew.heap.size ≤ w.heap.size + 1 ∧ w.heap.size + 1 < (W0.alloc (.cells #[] 3)).drew.heap.size)) ∨ ((W0.alloc (.cells #[] 3)).drew.heap.size ≤ w.heap.size + 1 ∧ w.heap.size + 1 < w2.heap.size)) from Or.inl (Or.inl (Or.inr (by omega))))
    have HEw : (((E W0.heap.size ∨ (w.heap.size ≤ W0.heap.size ∧ W0.heap.size < W0.heap.size)) ∨ (W0.drew.heap.size ≤ W0.heap.size ∧ W0.heap.size < (W0.alloc (.cells #[] 3)).drew.heap.size)) ∨ ((W0.alloc (.cells #[] 3)).drew.heap.size ≤ W0.heap.size ∧ W0.heap.size < w2.heap.size)) := Or.inl (Or.inr (by omega))
    have HGz := Lib.hid (show ¬ (G (w.heap.size + 2) ∨ ((W0.alloc (.cells #[] 3)).drew.heap.size ≤ w.heap.size + 2 ∧ w.heap.size + 2 < w2.heap.size)) from by
      rintro (h | h)
      · have := HG.out _ h; omega
      · omega)
    have own3 := own_same ownB.out (w' := w2) (fun q hq => by
      cases hq
      exact hb2.block W0.heap.size (by omega))
    have hsz2 := hb2.size
    obtain ⟨g4, n4, w4, hrun, hks4, hgrow, hg4⟩ := ints_run w2 W0.heap.size W0.heap.size own3 (by omega) ka kn kc ks (KB.out.keep (keepA_below hb2)) HK8.out HKN.out
    have hb4 : Tch (fun k => k = W0.heap.size) w2 w4 := by
      obtain ⟨r1, r2, r3, r4, r5⟩ := hgrow
      exact ⟨r1, r2, r3, r4, fun k hk hn => r5 k hk (fun e => hn (Option.some.inj e))⟩
    have Gw : ¬ (G W0.heap.size ∨ ((W0.alloc (.cells #[] 3)).drew.heap.size ≤ W0.heap.size ∧ W0.heap.size < w2.heap.size)) := by
      rintro (h | h)
      · have := HG.out _ h; omega
      · omega
    have P4 := Lib.hid (O2.tch W0.heap.size HEw Gw (by omega) hb4)
    have i4 : Has w4 w.heap.size (.cells #[.slice xa xn xc, .slice xl xm xk, .int .i64 xf, .bool xd] 40) ∧ Has w4 (w.heap.size + 1) (.cells #[.int .i64 4, .int .i64 i, .int .u8 (c : Int), .int .i64 long, .slice ka kn kc] 48) := ⟨i2.1.tch hb4 (by omega), i2.2.tch hb4 (by omega)⟩
    have Z4 := Lib.hid (Z2.tch hb4 (by omega))
    have KS4 := Lib.hid hks4
    clear i0 iB hbz hb0 hzz O2 hd2 hb2 Z2 own3 hks4 hgrow hg4 hb4 hsz2 Gw HEw
    dsimp only
    refine hK.out _ _ i2 (fun _ => ?_)
    clear hK K
    try simp only [Act.put, List.getElem_toArray, List.getElem_cons_zero, List.getElem_cons_succ, List.setIfInBounds_toArray, List.set_cons_zero, List.set_cons_succ]
    have HRUN := Lib.hid hrun
    refine wpAnyH_ready (rs := [9]) (by kernel_rfl) (by simp) ?_
    refine AllReadyH.cons rfl (fun K hK => ?_) AllReadyH.nil
    rw [if_pos (by rfl)]
    refine wp_exec (exec_append (.tmp 92) (.tmp 94) 46 rfl (.slice (some ⟨W0.heap.size, 0, none⟩) 0 0) (.slice ka kn kc) (.slice (some ⟨g4, 0, none⟩) kn n4) rfl rfl HRUN.out) ?_
    refine hK.out _ _ i4 (fun _ => ?_)
    clear hK K HRUN
    try simp only [Act.put, List.getElem_toArray, List.getElem_cons_zero, List.getElem_cons_succ, List.setIfInBounds_toArray, List.set_cons_zero, List.set_cons_succ]
    have CK := Lib.hid (ly_crash P4.out.ly _ _ KS4.out)
    refine wpAnyH_ready (rs := [10]) (by kernel_rfl) (by simp) ?_
    refine AllReadyH.cons rfl (fun K hK => ?_) AllReadyH.nil
    go_simp
    refine CK.out.mono ?_
    clear CK
    rintro e w5 hp
    obtain ⟨rfl, O5⟩ := P4.out.prog hp
    have hkeep := hp.2.2
    have i5 : Has w5 w.heap.size (.cells #[.slice xa xn xc, .slice xl xm xk, .int .i64 xf, .bool xd] 40) ∧ Has w5 (w.heap.size + 1) (.cells #[.int .i64 4, .int .i64 i, .int .u8 (c : Int), .int .i64 long, .slice ka kn kc] 48) := ⟨(hkeep _ HEm.out).trans i4.1, (hkeep _ HEa.out).trans i4.2⟩
    have Z5 := Lib.hid (show Has w5 (w.heap.size + 2) (.cells #[.slice none 0 0, .slice none 0 0, .int .i64 0, .bool false] 40) from (hkeep _ HEz.out).trans Z4.out)
    have P5 := Lib.hid O5
    clear hp hkeep O5 i4
    dsimp only
    refine hK.out _ _ i5 (fun _ => ?_)
    clear hK K
    try simp only [Act.put, List.getElem_toArray, List.getElem_cons_zero, List.getElem_cons_succ, List.setIfInBounds_toArray, List.set_cons_zero, List.set_cons_succ]
    refine wpAnyH_take (i := 11) (v := ?_) rfl (by kernel_rfl) (by kernel_rfl) (by kernel_rfl) (fun _ _ _ h => h) (Or.inl ⟨rfl, ?hy11⟩) i5 ?_
    case hy11 => intro w' hw'; clear hw'; go_simp; first | done | rfl
    try simp only [Act.put, List.getElem_toArray, List.getElem_cons_zero, List.getElem_cons_succ, List.setIfInBounds_toArray, List.set_cons_zero, List.set_cons_succ]
    refine wpAnyH_take (i := 12) (v := ?_) rfl (by kernel_rfl) (by kernel_rfl) (by kernel_rfl) (fun _ _ _ h => h) (Or.inl ⟨rfl, ?hy12⟩) i5 ?_
    case hy12 => intro w' hw'; clear hw'; go_simp; first | done | rfl
    try simp only [Act.put, List.getElem_toArray, List.getElem_cons_zero, List.getElem_cons_succ, List.setIfInBounds_toArray, List.set_cons_zero, List.set_cons_succ]
    have i6 : Has (w5.setRow (w.heap.size + 2) #[.slice ya yn yc, .slice yl ym yk, .int .i64 yf, .bool yd]) w.heap.size (.cells #[.slice xa xn xc, .slice xl xm xk, .int .i64 xf, .bool xd] 40) ∧ Has (w5.setRow (w.heap.size + 2) #[.slice ya yn yc, .slice yl ym yk, .int .i64 yf, .bool yd]) (w.heap.size + 1) (.cells #[.int .i64 4, .int .i64 i, .int .u8 (c : Int), .int .i64 long, .slice ka kn kc] 48) := ⟨has_row i5.1 (by omega) _, has_row i5.2 (by omega) _⟩
    refine wpAnyH_ready (rs := [13]) (by kernel_rfl) (by simp) ?_
    refine AllReadyH.cons rfl (fun K hK => ?_) AllReadyH.nil
    rw [if_pos (by rfl)]
    refine wp_store_row 40 _ _ rfl (w.heap.size + 2) #[.slice ya yn yc, .slice yl ym yk, .int .i64 yf, .bool yd] rfl rfl 40 _ Z5.out Try.infoDisk4 rfl (by simp [Value.oneCell']) ?_
    refine hK.out _ _ i6 (fun _ => ?_)
    clear hK K
    try simp only [Act.put, List.getElem_toArray, List.getElem_cons_zero, List.getElem_cons_succ]
    refine wpAnyH_take (i := 14) (v := ?_) rfl (by kernel_rfl) (by kernel_rfl) (by kernel_rfl) (fun _ _ _ h => h) (Or.inl ⟨rfl, ?hy14⟩) i6 ?_
    case hy14 => intro w' hw'; clear hw'; go_simp; first | done | rfl
    try simp only [Act.put, List.getElem_toArray, List.getElem_cons_zero, List.getElem_cons_succ, List.setIfInBounds_toArray, List.set_cons_zero, List.set_cons_succ]
    refine wpAnyH_done (by kernel_rfl) ?_ _
    go_wp2
    refine bodyPost_ret (results_tct rfl _ _ (w.heap.size + 2) 40 _ (0, 0) _ rfl (setRow_heap _ _ _ #[.slice ya yn yc, .slice yl ym yk, .int .i64 yf, .bool yd] _ _ Z5.out) Try.underlying40 rfl Try.infoDisk4) rfl ?_
    exact StP.of P5.out (w.heap.size + 2) HEz.out HGz.out (by omega) _
end Go.Proofs.Ytillckjohlbaiaa
