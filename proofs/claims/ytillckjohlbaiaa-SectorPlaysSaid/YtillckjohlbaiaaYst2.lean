/- valiselaw11.step: kind 2. -/
import Derived.Test.YtillckjohlbaiaaYst0

namespace Go.Proofs.Ytillckjohlbaiaa
set_option maxRecDepth 100000
open Go.RowKit

set_option maxRecDepth 100000 in
set_option maxHeartbeats 8000000 in
theorem step_2 {w0 w : World} {b : Nat} {d : Ek.Dk} {v : Value} {E G F : Nat → Prop} (h : Bo w0 w b d v d E G F w) (hu : d.used ≤ 900) (i long : Int) (c : Nat) (_ : c < 256) (ka : Option Addr) (kn kc : Nat) :
    Calls Try.prog 17 #[.pointer (some ⟨b, 0, none⟩), v, .agg #[.int .i64 2, .int .i64 i, .int .u8 (c : Int), .int .i64 long, .slice ka kn kc]] w (StP w0 F w (Ek.sync d)) := by
  obtain ⟨xa, xn, xc, xl, xm, xk, xf, xd, rfl⟩ := h.doc.four
  obtain ⟨W0, hW0, hb0, hs0, hM0, hA0, hZ0⟩ := step_boxes w (.cells #[.slice xa xn xc, .slice xl xm xk, .int .i64 xf, .bool xd] 40) (.cells #[.int .i64 2, .int .i64 i, .int .u8 (c : Int), .int .i64 long, .slice ka kn kc] 48) (.cells #[.slice none 0 0, .slice none 0 0, .int .i64 0, .bool false] 40)
  have O0 := h.new hb0
  have hEz : (E (w.heap.size + 2) ∨ (w.heap.size ≤ w.heap.size + 2 ∧ w.heap.size + 2 < W0.heap.size)) := Or.inr (by omega)
  have hGlt : ∀ k, G k → k < w.heap.size := fun k hk => h.ly.lt k (h.sub k hk)
  have V0 := Lib.hid hW0
  have M0 := Lib.hid hM0
  have A0 := Lib.hid hA0
  have Z0 := Lib.hid hZ0
  have P0 := Lib.hid O0
  have HEZ := Lib.hid hEz
  have HG := Lib.hid hGlt
  have HS := Lib.hid hs0
  have HU := Lib.hid hu
  have B0 := Lib.hid hb0
  have CW := Lib.hid (rdisk_sync_any W0 G _ d O0.doc)
  clear h hb0 hW0 hM0 hA0 hZ0 O0 hEz hGlt hs0 hu
  go_enter Try.func17, Try.ntmps17
  go_wp2_with fail
  rw [← V0.out]
  clear V0
  refine CW.out.mono ?_
  rintro e w2 ⟨⟨v2, rfl, hd2⟩, hb2⟩
  have O2 := P0.out.ref hb2 hd2
  obtain ⟨ya, yn, yc, yl, ym, yk, yf, yd, rfl⟩ := hd2.four
  obtain ⟨W3, hW3⟩ : ∃ W, W = w2.alloc (.cells #[.slice ya yn yc, .slice yl ym yk, .int .i64 yf, .bool yd] 40) := ⟨_, rfl⟩
  have hb3 : Below w2.heap.size w2 W3 := by rw [hW3]; exact below1 w2 _
  have hs3 : W3.heap.size = w2.heap.size + 1 := by rw [hW3]; simp
  have D3 := below_drewN (Below.refl W3.heap.size W3) 1
  have O3 : Bo w0 W3.drew b d _ _ _ _ _ _ := (O2.new hb3).later D3
  have T3 : Has W3.drew w2.heap.size (.cells #[.slice ya yn yc, .slice yl ym yk, .int .i64 yf, .bool yd] 40) := Has.later (show Has W3 w2.heap.size (.cells #[.slice ya yn yc, .slice yl ym yk, .int .i64 yf, .bool yd] 40) by rw [hW3]; exact Has.new w2 _) D3
  have Z3 : Has W3.drew (w.heap.size + 2) (.cells #[.slice none 0 0, .slice none 0 0, .int .i64 0, .bool false] 40) := ((Z0.out.later hb2).later hb3).later D3
  have hz1 := hb2.size
  have hzz := HS.out
  have Ez : (((E (w.heap.size + 2) ∨ (w.heap.size ≤ w.heap.size + 2 ∧ w.heap.size + 2 < W0.heap.size)) ∨ (W0.heap.size ≤ w.heap.size + 2 ∧ w.heap.size + 2 < w2.heap.size)) ∨ (w2.heap.size ≤ w.heap.size + 2 ∧ w.heap.size + 2 < W3.heap.size)) := Or.inl (Or.inl HEZ.out)
  have Gz : ¬ (G (w.heap.size + 2) ∨ (W0.heap.size ≤ w.heap.size + 2 ∧ w.heap.size + 2 < w2.heap.size)) := by
    rintro (h | h)
    · have := HG.out _ h; omega
    · omega
  have Et : (((E w2.heap.size ∨ (w.heap.size ≤ w2.heap.size ∧ w2.heap.size < W0.heap.size)) ∨ (W0.heap.size ≤ w2.heap.size ∧ w2.heap.size < w2.heap.size)) ∨ (w2.heap.size ≤ w2.heap.size ∧ w2.heap.size < W3.heap.size)) := Or.inr (by omega)
  have HNE := Lib.hid (show w2.heap.size ≠ w.heap.size + 2 by omega)
  have P3 := Lib.hid O3
  have T3' := Lib.hid T3
  have Z3' := Lib.hid Z3
  have HEz := Lib.hid Ez
  have HGz := Lib.hid Gz
  have HEt := Lib.hid Et
  have V3 := Lib.hid hW3
  have CP := Lib.hid (ly_sync O3.ly (by have := HU.out; omega))
  clear hW3 hb3 hs3 D3 O3 T3 Z3 hz1 hzz Ez Gz Et hd2 hb2 O2
  obtain ⟨e2, he2⟩ : ∃ x, x = Ek.changeE d := ⟨_, rfl⟩
  rw [← he2] at CP ⊢
  clear he2 CW
  go_wp2_with fail
  rw [← V3.out]
  refine wp_region_held_drew (S := fun wx => Has wx w2.heap.size (.cells #[.slice ya yn yc, .slice yl ym yk, .int .i64 yf, .bool yd] 40) ∧ True) (by kernel_rfl) (And.intro T3'.out trivial) (fun _ => ?_)
  change wpAnyH _ _ _ _ _ 9 (Array.replicate 9 false) _ _
  have i0 : Has W3.drew w2.heap.size (.cells #[.slice ya yn yc, .slice yl ym yk, .int .i64 yf, .bool yd] 40) ∧ True := ⟨T3'.out, trivial⟩
  refine wpAnyH_take (i := 0) (v := ?_) rfl (by kernel_rfl) (by kernel_rfl) (by kernel_rfl) (fun _ _ _ h => h) (Or.inl ⟨rfl, ?hy0⟩) i0 ?_
  case hy0 => intro w' hw'; clear hw'; go_simp; first | done | rfl
  try simp only [Act.put, List.getElem_toArray, List.getElem_cons_zero, List.setIfInBounds_toArray, List.set_cons_zero, List.set_cons_succ]
  refine wpAnyH_take (i := 1) (v := .agg #[.slice ya yn yc, .slice yl ym yk, .int .i64 yf, .bool yd]) rfl (by kernel_rfl) (by kernel_rfl) (by kernel_rfl) (fun _ _ _ h => h) (Or.inl ⟨rfl, ?hy1⟩) i0 ?_
  case hy1 =>
    intro w' hw'
    exact exec_row (.tmp 14) rfl w2.heap.size rfl 40 _ (0, 0) _ hw'.1 Try.underlying40 rfl Try.infoDisk4
  try simp only [Act.put, List.getElem_toArray, List.getElem_cons_zero, List.getElem_cons_succ, List.setIfInBounds_toArray, List.set_cons_zero, List.set_cons_succ]
  refine wpAnyH_take (i := 2) (v := ?_) rfl (by kernel_rfl) (by kernel_rfl) (by kernel_rfl) (fun _ _ _ h => h) (Or.inl ⟨rfl, ?hy2⟩) i0 ?_
  case hy2 => intro w' hw'; clear hw'; go_simp; first | done | rfl
  try simp only [Act.put, List.getElem_toArray, List.getElem_cons_zero, List.getElem_cons_succ, List.setIfInBounds_toArray, List.set_cons_zero, List.set_cons_succ]
  refine wpAnyH_take (i := 4) (v := ?_) rfl (by kernel_rfl) (by kernel_rfl) (by kernel_rfl) (fun _ _ _ h => h) (Or.inl ⟨rfl, ?hy4⟩) i0 ?_
  case hy4 => intro w' hw'; clear hw'; go_simp; first | done | rfl
  try simp only [Act.put, List.getElem_toArray, List.getElem_cons_zero, List.getElem_cons_succ, List.setIfInBounds_toArray, List.set_cons_zero, List.set_cons_succ]
  refine wpAnyH_ready (rs := [3]) (by kernel_rfl) (by simp) ?_
  refine AllReadyH.cons rfl (fun K hK => ?_) AllReadyH.nil
  go_simp
  refine CP.out.mono ?_
  rintro e w4 hp
  obtain ⟨rfl, O4⟩ := P3.out.prog hp
  have hkeep := hp.2.2
  have i1 : Has w4 w2.heap.size (.cells #[.slice ya yn yc, .slice yl ym yk, .int .i64 yf, .bool yd] 40) ∧ True := ⟨(hkeep _ HEt.out).trans T3'.out, trivial⟩
  have Z4 := Lib.hid (show Has w4 (w.heap.size + 2) (.cells #[.slice none 0 0, .slice none 0 0, .int .i64 0, .bool false] 40) from (hkeep _ HEz.out).trans Z3'.out)
  have P4 := Lib.hid O4
  have hee : (e2 == e2) = true := by simp
  clear hp hkeep O4 CP i0
  dsimp only
  refine hK.out _ _ i1 (fun _ => ?_)
  clear hK K
  try simp only [Act.put, List.getElem_toArray, List.getElem_cons_zero, List.getElem_cons_succ, List.setIfInBounds_toArray, List.set_cons_zero, List.set_cons_succ]
  refine wpAnyH_take (i := 5) (v := ?_) rfl (by kernel_rfl) (by kernel_rfl) (by kernel_rfl) (fun _ _ _ h => h) (Or.inl ⟨rfl, ?hy5⟩) i1 ?_
  case hy5 => intro w' hw'; clear hw'; go_simp; first | done | rfl
  try simp only [Act.put, List.getElem_toArray, List.getElem_cons_zero, List.getElem_cons_succ, List.setIfInBounds_toArray, List.set_cons_zero, List.set_cons_succ]
  refine wpAnyH_take (i := 6) (v := ?_) rfl (by kernel_rfl) (by kernel_rfl) (by kernel_rfl) (fun _ _ _ h => h) (Or.inl ⟨rfl, ?hy6⟩) i1 ?_
  case hy6 => intro w' hw'; clear hw'; go_simp; first | done | rfl
  try simp only [Act.put, List.getElem_toArray, List.getElem_cons_zero, List.getElem_cons_succ, List.setIfInBounds_toArray, List.set_cons_zero, List.set_cons_succ]
  have i2 : Has (w4.setRow (w.heap.size + 2) #[.slice ya yn yc, .slice yl ym yk, .int .i64 yf, .bool yd]) w2.heap.size (.cells #[.slice ya yn yc, .slice yl ym yk, .int .i64 yf, .bool yd] 40) ∧ True := ⟨has_row i1.1 (fun hh => HNE.out hh.symm) _, trivial⟩
  refine wpAnyH_ready (rs := [7]) (by kernel_rfl) (by simp) ?_
  refine AllReadyH.cons rfl (fun K hK => ?_) AllReadyH.nil
  rw [if_pos (by rfl)]
  refine wp_store_row 40 _ _ rfl (w.heap.size + 2) #[.slice ya yn yc, .slice yl ym yk, .int .i64 yf, .bool yd] rfl rfl 40 _ Z4.out Try.infoDisk4 rfl (by simp [Value.oneCell']) ?_
  refine hK.out _ _ i2 (fun _ => ?_)
  clear hK K
  try simp only [Act.put, List.getElem_toArray, List.getElem_cons_zero, List.getElem_cons_succ]
  refine wpAnyH_take (i := 8) (v := ?_) rfl (by kernel_rfl) (by kernel_rfl) (by kernel_rfl) (fun _ _ _ h => h) (Or.inl ⟨rfl, ?hy8⟩) i2 ?_
  case hy8 => intro w' hw'; clear hw'; go_simp; first | done | rfl
  try simp only [Act.put, List.getElem_toArray, List.getElem_cons_zero, List.getElem_cons_succ, List.setIfInBounds_toArray, List.set_cons_zero, List.set_cons_succ]
  refine wpAnyH_done (by kernel_rfl) ?_ _
  go_wp2
  refine bodyPost_ret (results_tct rfl _ _ (w.heap.size + 2) 40 _ (0, 0) _ rfl (setRow_heap _ _ _ #[.slice ya yn yc, .slice yl ym yk, .int .i64 yf, .bool yd] _ _ Z4.out) Try.underlying40 rfl Try.infoDisk4) rfl ?_
  exact StP.of P4.out (w.heap.size + 2) HEz.out HGz.out (by omega) _
end Go.Proofs.Ytillckjohlbaiaa
