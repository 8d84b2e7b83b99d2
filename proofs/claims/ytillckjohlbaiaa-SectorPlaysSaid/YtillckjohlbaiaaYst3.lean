/- valiselaw11.step: kind 3. -/
import Derived.Test.YtillckjohlbaiaaYst0

namespace Go.Proofs.Ytillckjohlbaiaa
set_option maxRecDepth 100000
open Go.RowKit

set_option maxRecDepth 100000 in
set_option maxHeartbeats 8000000 in
theorem step_3 {w0 w : World} {b : Nat} {d : Ek.Dk} {v : Value} {E G F : Nat → Prop} (h : Bo w0 w b d v d E G F w) (hu : d.used ≤ 900) (i long : Int) (c : Nat) (_ : c < 256) (ka : Option Addr) (kn kc : Nat) (hi : i ≤ 9223372036854775807) :
    Calls Try.prog 17 #[.pointer (some ⟨b, 0, none⟩), v, .agg #[.int .i64 3, .int .i64 i, .int .u8 (c : Int), .int .i64 long, .slice ka kn kc]] w (StP w0 F w (Ek.fuse d i)) := by
  obtain ⟨xa, xn, xc, xl, xm, xk, xf, xd, rfl⟩ := h.doc.four
  obtain ⟨W0, hW0, hb0, hs0, hM0, hA0, hZ0⟩ := step_boxes w (.cells #[.slice xa xn xc, .slice xl xm xk, .int .i64 xf, .bool xd] 40) (.cells #[.int .i64 3, .int .i64 i, .int .u8 (c : Int), .int .i64 long, .slice ka kn kc] 48) (.cells #[.slice none 0 0, .slice none 0 0, .int .i64 0, .bool false] 40)
  have O0 := h.new hb0
  have hEz : (E (w.heap.size + 2) ∨ (w.heap.size ≤ w.heap.size + 2 ∧ w.heap.size + 2 < W0.heap.size)) := Or.inr (by omega)
  have hGlt : ∀ k, G k → k < w.heap.size := fun k hk => h.ly.lt k (h.sub k hk)
  have V0 := Lib.hid hW0
  have M0 := Lib.hid hM0
  have A0 := Lib.hid hA0
  have Z0 := Lib.hid hZ0
  have P0 := Lib.hid O0
  have HEZ := Lib.hid hEz
  have HG := Lib.hid hGlt
  have HS := Lib.hid hs0
  have HU := Lib.hid hu
  have B0 := Lib.hid hb0
  have CF := Lib.hid (ly_fuse O0.ly i hi)
  have a0 := (hA0.cell 1 : _ = some (Value.int .i64 i))
  rw [hW0] at a0
  have HI := Lib.hid hi
  clear h hb0 hW0 hM0 hA0 hZ0 O0 hEz hGlt hs0 hu hi
  go_enter Try.func17, Try.ntmps17
  go_wp2_with fail
  rw [← V0.out]
  clear V0 a0
  refine CF.out.mono ?_
  rintro e w1 hp
  obtain ⟨rfl, O1⟩ := P0.out.prog hp
  have hkeep := hp.2.2
  have hzz := HS.out
  have M1 := Lib.hid (show Has w1 w.heap.size (.cells #[.slice xa xn xc, .slice xl xm xk, .int .i64 xf, .bool xd] 40) from (hkeep _ (Or.inr (by omega))).trans M0.out)
  have A1 := Lib.hid (show Has w1 (w.heap.size + 1) (.cells #[.int .i64 3, .int .i64 i, .int .u8 (c : Int), .int .i64 long, .slice ka kn kc] 48) from (hkeep _ (Or.inr (by omega))).trans A0.out)
  have Z1 := Lib.hid (show Has w1 (w.heap.size + 2) (.cells #[.slice none 0 0, .slice none 0 0, .int .i64 0, .bool false] 40) from (hkeep _ HEZ.out).trans Z0.out)
  have P1 := Lib.hid O1
  have a1 := (A1.out.cell 1 : _ = some (Value.int .i64 i))
  have CA := Lib.hid (rdisk_arm w1 G _ d O1.doc i HI.out)
  clear hp hkeep O1 CF M0 A0 Z0 P0 hzz
  go_wp2_with (refine wpList_load_row rfl 40 (.tmp 4) rfl w.heap.size rfl 40 _ (0, 0) _ M1.out Try.underlying40 rfl Try.infoDisk4 ?_)
  refine CA.out.mono ?_
  rintro e w2 ⟨⟨v2, rfl, hd2⟩, hb2⟩
  have O2 := P1.out.ref hb2 (hd2.mono (fun q => Or.inl))
  obtain ⟨ya, yn, yc, yl, ym, yk, yf, yd, rfl⟩ := hd2.four
  have Z2 := Lib.hid (Z1.out.later hb2)
  have hz1 := hb2.size
  have hzz := HS.out
  have Z1l := Z1.out.lt
  have Ez : ((E (w.heap.size + 2) ∨ (w.heap.size ≤ w.heap.size + 2 ∧ w.heap.size + 2 < W0.heap.size)) ∨ (w1.heap.size ≤ w.heap.size + 2 ∧ w.heap.size + 2 < w2.heap.size)) := Or.inl HEZ.out
  have Gz : ¬ (G (w.heap.size + 2) ∨ (w1.heap.size ≤ w.heap.size + 2 ∧ w.heap.size + 2 < w2.heap.size)) := by
    rintro (h | h)
    · have := HG.out _ h; omega
    · omega
  have P2 := Lib.hid O2
  have HEz := Lib.hid Ez
  have HGz := Lib.hid Gz
  clear hd2 hb2 O2 hz1 hzz Z1l Ez Gz CA a1
  go_wp2_with (refine wpList_store_row rfl 40 (.tmp 7) (.tmp 83) rfl (w.heap.size + 2) #[.slice ya yn yc, .slice yl ym yk, .int .i64 yf, .bool yd] rfl rfl 40 _ Z2.out Try.infoDisk4 rfl (by simp [Value.oneCell']) ?_)
  refine bodyPost_ret (results_tct rfl _ _ (w.heap.size + 2) 40 _ (0, 0) _ rfl (setRow_heap _ _ _ #[.slice ya yn yc, .slice yl ym yk, .int .i64 yf, .bool yd] _ _ Z2.out) Try.underlying40 rfl Try.infoDisk4) rfl ?_
  exact StP.of P2.out (w.heap.size + 2) HEz.out HGz.out (by omega) _
end Go.Proofs.Ytillckjohlbaiaa
