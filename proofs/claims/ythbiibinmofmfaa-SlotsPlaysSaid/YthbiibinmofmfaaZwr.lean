/- valiselaw12.write: a sector of both disks by hand. -/
import Derived.Test.YthbiibinmofmfaaZwr0

namespace Go.Proofs.Ythbiibinmofmfaa
set_option maxRecDepth 100000
open Go.RowKit

set_option maxRecDepth 100000 in
set_option maxHeartbeats 8000000 in
theorem zwr_dark {w0 w : World} {b : Nat} {d : Ek.Dk} {v : Value} {E G F : Nat → Prop} (h : Bo w0 w b d v d E G F w) (_hu : d.used ≤ 900) (kind I long : Int) (c : Nat) (ba : Option Addr) (bl bc : Nat) (ka : Option Addr) (kn kc : Nat) (_hI : -9223372036854775808 ≤ I ∧ I ≤ 9223372036854775807) (_hL : -9223372036854775808 ≤ long ∧ long ≤ 9223372036854775807) (_hc : c < 256) (hd : d.dark = true) :
    Calls Try.prog 17 #[.pointer (some ⟨b, 0, none⟩), v, .agg #[.int .i64 kind, .slice ba bl bc, .int .i64 I, .int .i64 long, .int .u8 (c : Int), .slice ka kn kc]] w (WrP w0 b F w d) := by
  obtain ⟨xn, xa, xc, xl, xm, xk, xf, xd, hv, hxn⟩ : ∃ n a c l m k f x, v = .agg #[.slice a n c, .slice l m k, .int .i64 f, .bool x] ∧ n = d.n := by
    obtain ⟨a, la, c, lc, e, _⟩ := h.doc
    exact ⟨_, _, _, _, _, _, _, _, e, rfl⟩
  have hok : Ek.Ok d := by obtain ⟨_, _, _, _, _, _, _, ho⟩ := h.doc; exact ho
  have hn8 := hok.hi
  have hn1 := hok.lo
  obtain ⟨q, hq⟩ : ∃ q, q = (I % 18446744073709551616).toNat := ⟨_, rfl⟩
  obtain ⟨j, hj⟩ : ∃ j, j = Ek.hj d I := ⟨_, rfl⟩
  have hjq : j = q % d.n := by rw [hj, hq]; rfl
  have hjn : j < d.n := by rw [hjq]; exact Nat.mod_lt _ (by omega)
  rw [← hxn] at hn8 hn1 hjq hjn
  have cI : IntKind.u64.wrap I = (q : Int) := by rw [IntKind.wrap_u64]; omega
  have cN : IntKind.u64.wrap (xn : Int) = (xn : Int) := by rw [IntKind.wrap_u64]; omega
  have cR : (q : Int).tmod (xn : Int) = (j : Int) := by rw [Int.tmod_eq_emod_of_nonneg (by omega), hjq]; omega
  have cJ : IntKind.i64.wrap (j : Int) = (j : Int) := IntWalk.i64_in _ (by omega)
  have n0 : (xn : Int) ≠ 0 := by omega
  have HR := fun W (hb : Below w.heap.size w W) => rdisk_read_any W G v d (h.doc.later hb) (j : Int)
  have hre : Ek.readE d (j : Int) = 6 := by unfold Ek.readE; rw [if_neg (by rw [← hxn]; omega)]; rw [if_pos hd]
  rw [hre, if_neg (by decide)] at HR
  rw [hv] at HR h ⊢
  obtain ⟨W0, hW0, hb0, hs0, hM0, hA0, hZ0⟩ := step_boxes w (.cells #[.slice xa xn xc, .slice xl xm xk, .int .i64 xf, .bool xd] 32) (.cells #[.int .i64 kind, .slice ba bl bc, .int .i64 I, .int .i64 long, .int .u8 (c : Int), .slice ka kn kc] 38) (.cells #[.slice none 0 0, .slice none 0 0, .int .i64 0, .bool false] 32)
  obtain ⟨E0, P0, hE0, hE0'⟩ := h.new3 hb0
  have HEZ := Lib.hid (hE0' (w.heap.size + 2) (by omega) (by omega))
  have HGl := Lib.hid h.glt
  have V0 := Lib.hid hW0
  have P0' := Lib.hid P0
  have M0 := Lib.hid hM0
  have A0 := Lib.hid hA0
  have Z0 := Lib.hid hZ0
  have S0 := Lib.hid hs0
  have CR := Lib.hid (HR W0 hb0)
  have ML := hM0
  rw [hW0] at ML
  have ML' := Lib.hid ML
  clear h hv HR hb0 hs0 hM0 hA0 hZ0 P0 hE0 hE0' hW0 ML hok hq hj hjq hre hxn hd _hu _hL _hc
  go_enter Try.func17, Try.ntmps17
  go_wp2_with (refine wpList_load_row rfl 32 (.tmp 4) rfl w.heap.size rfl 32 #[.slice xa xn xc, .slice xl xm xk, .int .i64 xf, .bool xd] (0, 0) _ ML'.out Try.underlying32 rfl Try.infoDisk4 ?_)
  rw [← V0.out]
  refine CR.out.mono ?_
  clear CR V0 ML'
  rintro e w1 ⟨rfl, hb1⟩
  obtain ⟨E1, P1, hE1, hE1'⟩ := P0'.out.new3 hb1
  have M1 := Lib.hid (M0.out.later hb1)
  have A1 := Lib.hid (A0.out.later hb1)
  have Z1 := Lib.hid (Z0.out.later hb1)
  have HZ1 := Lib.hid (hE1 _ HEZ.out)
  have P1' := Lib.hid P1
  have S1 : Hid (w.heap.size + 3 ≤ w1.heap.size) := by have := hb1.size; have := S0.out; show _ ≤ _; omega
  clear hb1 P1 hE1 hE1' P0' M0 A0 Z0 HEZ
  go_wp2_with (first | (refine wpList_load_row rfl 32 (.tmp 4) rfl w.heap.size rfl 32 #[.slice xa xn xc, .slice xl xm xk, .int .i64 xf, .bool xd] (0, 0) _ M1.out Try.underlying32 rfl Try.infoDisk4 ?_) | (refine wpList_store_row rfl 32 (.tmp 6) (.tmp 34) rfl (w.heap.size + 2) #[.slice xa xn xc, .slice xl xm xk, .int .i64 xf, .bool xd] rfl rfl 32 _ Z1.out Try.infoDisk4 rfl (by simp [Value.oneCell']) ?_))
  refine bodyPost_ret (results_c1 rfl _ _ (w.heap.size + 2) 32 #[.slice xa xn xc, .slice xl xm xk, .int .i64 xf, .bool xd] (0, 0) _ rfl (setRow_heap _ _ _ _ _ _ Z1.out) Try.underlying32 rfl Try.infoDisk4) rfl ?_
  exact WrP.of P1'.out (w.heap.size + 2) HZ1.out (fun hh => by have := HGl.out _ hh; omega) (by omega) _

set_option maxRecDepth 100000 in
set_option maxHeartbeats 8000000 in
theorem zwr_first {w0 w : World} {b : Nat} {d : Ek.Dk} {v : Value} {E G F : Nat → Prop} (h : Bo w0 w b d v d E G F w) (hu : d.used ≤ 900) (kind I long : Int) (c : Nat) (ba : Option Addr) (bl bc : Nat) (ka : Option Addr) (kn kc : Nat) (_hI : -9223372036854775808 ≤ I ∧ I ≤ 9223372036854775807) (_hL : -9223372036854775808 ≤ long ∧ long ≤ 9223372036854775807) (_hc : c < 256) (hd : d.dark = false) (hz : Ek.hj d I = 0) :
    Calls Try.prog 17 #[.pointer (some ⟨b, 0, none⟩), v, .agg #[.int .i64 kind, .slice ba bl bc, .int .i64 I, .int .i64 long, .int .u8 (c : Int), .slice ka kn kc]] w (WrP w0 b F w (Ek.write d 0 ((Ek.now d 0).set (Ek.hk long) (((Ek.now d 0)[Ek.hk long]?.getD 0 + c) % 256)))) := by
  obtain ⟨xn, xa, xc, xl, xm, xk, xf, xd, hv, hxn⟩ : ∃ n a c l m k f x, v = .agg #[.slice a n c, .slice l m k, .int .i64 f, .bool x] ∧ n = d.n := by
    obtain ⟨a, la, c, lc, e, _⟩ := h.doc
    exact ⟨_, _, _, _, _, _, _, _, e, rfl⟩
  have hok : Ek.Ok d := by obtain ⟨_, _, _, _, _, _, _, ho⟩ := h.doc; exact ho
  have hn8 := hok.hi
  have hn1 := hok.lo
  obtain ⟨q, hq⟩ : ∃ q, q = (I % 18446744073709551616).toNat := ⟨_, rfl⟩
  obtain ⟨j, hj⟩ : ∃ j, j = Ek.hj d I := ⟨_, rfl⟩
  have hjq : j = q % d.n := by rw [hj, hq]; rfl
  have hjn : j < d.n := by rw [hjq]; exact Nat.mod_lt _ (by omega)
  rw [← hxn] at hn8 hn1 hjq hjn
  have cI : IntKind.u64.wrap I = (q : Int) := by rw [IntKind.wrap_u64]; omega
  have cN : IntKind.u64.wrap (xn : Int) = (xn : Int) := by rw [IntKind.wrap_u64]; omega
  have cR : (q : Int).tmod (xn : Int) = (j : Int) := by rw [Int.tmod_eq_emod_of_nonneg (by omega), hjq]; omega
  have cJ : IntKind.i64.wrap (j : Int) = (j : Int) := IntWalk.i64_in _ (by omega)
  have n0 : (xn : Int) ≠ 0 := by omega
  have HR := fun W (hb : Below w.heap.size w W) => rdisk_read_any W G v d (h.doc.later hb) (j : Int)
  have hre : Ek.readE d (j : Int) = 0 := by unfold Ek.readE; rw [if_neg (by rw [← hxn]; omega)]; rw [if_neg (by simp [hd])]
  rw [hre, if_pos rfl] at HR
  rw [hv] at HR h ⊢
  obtain ⟨W0, hW0, hb0, hs0, hM0, hA0, hZ0⟩ := step_boxes w (.cells #[.slice xa xn xc, .slice xl xm xk, .int .i64 xf, .bool xd] 32) (.cells #[.int .i64 kind, .slice ba bl bc, .int .i64 I, .int .i64 long, .int .u8 (c : Int), .slice ka kn kc] 38) (.cells #[.slice none 0 0, .slice none 0 0, .int .i64 0, .bool false] 32)
  obtain ⟨E0, P0, hE0, hE0'⟩ := h.new3 hb0
  have HEZ := Lib.hid (hE0' (w.heap.size + 2) (by omega) (by omega))
  have HGl := Lib.hid h.glt
  have V0 := Lib.hid hW0
  have P0' := Lib.hid P0
  have M0 := Lib.hid hM0
  have A0 := Lib.hid hA0
  have Z0 := Lib.hid hZ0
  have S0 := Lib.hid hs0
  have CR := Lib.hid (HR W0 hb0)
  have ML := hM0
  rw [hW0] at ML
  have ML' := Lib.hid ML
  have hrow := Ek.now_row hok j
  obtain ⟨S, hS⟩ : ∃ S, S = strB (Ek.now d j) := ⟨_, rfl⟩
  have hjt : ((j : Int)).toNat = j := by omega
  rw [hjt, ← hS] at CR
  have HU := Lib.hid hu
  obtain ⟨uL, huL⟩ : ∃ u, u = (long % 18446744073709551616).toNat := ⟨_, rfl⟩
  obtain ⟨k, hk⟩ : ∃ k, k = Ek.hk long := ⟨_, rfl⟩
  have hkq : k = uL % 40 := by rw [hk, huL]; rfl
  have cL : IntKind.u64.wrap long = (uL : Int) := by rw [IntKind.wrap_u64]; omega
  have cM : (uL : Int).tmod 40 = (k : Int) := by rw [Int.tmod_eq_emod_of_nonneg (by omega), hkq]; omega
  have cK : IntKind.i64.wrap (k : Int) = (k : Int) := IntWalk.i64_in _ (by omega)
  have hk40 : k < 40 := by omega
  have hj0 : j = 0 := by rw [hj]; exact hz
  subst hj0
  rw [← hk]
  obtain ⟨x, hx⟩ : ∃ x, x = (Ek.now d 0)[k]?.getD 0 := ⟨_, rfl⟩
  rw [← hx]
  have hx8 : x < 256 := by
    rw [hx, List.getElem?_eq_getElem (by rw [hrow.1]; omega)]
    exact hrow.2 _ (List.getElem_mem _)
  have HX := Lib.hid hx
  obtain ⟨y, hy⟩ : ∃ y, y = (x + c) % 256 := ⟨_, rfl⟩
  rw [← hy]
  have cY : IntKind.u8.wrap ((x : Int) + (c : Int)) = (y : Int) := by rw [IntKind.wrap_u8]; omega
  have hy8 : y < 256 := by omega
  have hkI : (k : Int) < 512 := by omega
  have hkI0 : (0 : Int) ≤ (k : Int) := by omega
  obtain ⟨fr, hfr⟩ : ∃ l, l = ((Ek.now d 0).set k y) := ⟨_, rfl⟩
  rw [← hfr]
  have hf8 : ∀ t ∈ fr, t < 256 := by
    intro t ht
    rw [hfr] at ht
    rcases List.mem_or_eq_of_mem_set ht with h1 | h1; exact hrow.2 t h1; omega
  have hfl : fr.length = 512 := by rw [hfr]; rw [List.length_set]; exact hrow.1
  have HF := Lib.hid (show fr = ((Ek.now d 0).set k y) ∧ (∀ t ∈ fr, t < 256) ∧ fr.length = 512 from ⟨hfr, hf8, hfl⟩)
  obtain ⟨ro, hro⟩ : ∃ l, l = Ek.now d 0 := ⟨_, rfl⟩
  rw [← hro] at hS hrow HX
  rw [← hro] at HF
  have HRO := Lib.hid hrow
  have HSS : Hid (S = strB ro) := hS
  clear h hv HR hb0 hs0 hM0 hA0 hZ0 P0 hE0 hE0' hW0 ML hok hq hj hjq hre hxn hd hu _hL hro hS hrow hfr hf8 hfl hjt huL hk hkq hz hx hy
  go_enter Try.func17, Try.ntmps17
  go_wp2_with (refine wpList_load_row rfl 32 (.tmp 4) rfl w.heap.size rfl 32 #[.slice xa xn xc, .slice xl xm xk, .int .i64 xf, .bool xd] (0, 0) _ ML'.out Try.underlying32 rfl Try.infoDisk4 ?_)
  rw [← V0.out]
  refine CR.out.mono ?_
  clear CR V0 ML'
  rintro e w1 ⟨rfl, hb1⟩
  obtain ⟨E1, P1, hE1, hE1'⟩ := P0'.out.new3 hb1
  have M1 := Lib.hid (M0.out.later hb1)
  have A1 := Lib.hid (A0.out.later hb1)
  have Z1 := Lib.hid (Z0.out.later hb1)
  have HZ1 := Lib.hid (hE1 _ HEZ.out)
  have P1' := Lib.hid P1
  have S1 : Hid (w.heap.size + 3 ≤ w1.heap.size) := by have := hb1.size; have := S0.out; show _ ≤ _; omega
  clear hb1 P1 hE1 hE1' P0' M0 A0 Z0 HEZ
  obtain ⟨cap, w2, hcv, hwb, hb2, hcap, hs2⟩ := conv_wb ro HRO.out.2 (by rw [HRO.out.1]; decide) S HSS w1
  rw [HRO.out.1] at hcv hcap
  have hcv1 := hcv
  obtain ⟨g, hg⟩ : ∃ g, g = w1.heap.size := ⟨_, rfl⟩
  rw [← hg] at hcv hwb hs2
  obtain ⟨E2, P2, hE2, hE2'⟩ := P1'.out.new3 hb2
  have M2 := Lib.hid (M1.out.later hb2)
  have A2 := Lib.hid (A1.out.later hb2)
  have Z2 := Lib.hid (Z1.out.later hb2)
  have HZ2 := Lib.hid (hE2 _ HZ1.out)
  have HG2 := Lib.hid (hE2' g (by omega) (by omega))
  have P2' := Lib.hid P2
  have HGG := Lib.hid (show w.heap.size + 3 ≤ g by have := S1.out; omega)
  have WB := Lib.hid hwb
  have hcpI : (512 : Int) ≤ (cap : Int) := by omega
  clear hb2 P2 hE2 hE2' P1' M1 A1 Z1 HZ1 hwb hg S1 hs2 hcv1
  have a3 := (A2.out.cell 3 : _ = some (Value.int .i64 long))
  have a4 := (A2.out.cell 4 : _ = some (Value.int .u8 (c : Int)))
  have hcell : w2.cell? ⟨g, k, none⟩ = some (.int .u8 (x : Int)) := by have := WB.out.cell k (by rw [HRO.out.1]; omega); rw [← HX.out] at this; exact this
  have hfro := WB.out.free k (by rw [HRO.out.1]; omega)
  have WB3 := Lib.hid ((WB.out.set k (by rw [HRO.out.1]; omega) y).later (below_drewN (Below.refl _ _) 1))
  have T3 := Lib.hid (((Tch.refl (fun q => q = g) w2).setCell (p := ⟨g, k, none⟩) rfl (.int .u8 (y : Int))).drewN 1)
  rw [← HF.out.1] at WB3
  obtain ⟨wr, hwr⟩ : ∃ W, W = (w2.setCell ⟨g, k, none⟩ (.int .u8 (y : Int))).drew := ⟨_, rfl⟩
  change Hid (Wb (w2.setCell ⟨g, k, none⟩ (.int .u8 (y : Int))).drew g _) at WB3
  change Hid (Tch _ w2 (w2.setCell ⟨g, k, none⟩ (.int .u8 (y : Int))).drew) at T3
  rw [← hwr] at WB3 T3
  have V3 := Lib.hid hwr
  clear hwr WB
  have O3 := P2'.out.tch g HG2.out (fun hh => by have := HGl.out _ hh; have := HGG.out; omega) (by have := HGG.out; omega) T3.out
  have M3 := Lib.hid (show Has wr w.heap.size (.cells #[.slice xa xn xc, .slice xl xm xk, .int .i64 xf, .bool xd] 32) from M2.out.tch T3.out (fun hh => by have := HGG.out; omega))
  have Z3 := Lib.hid (show Has wr (w.heap.size + 2) (.cells #[.slice none 0 0, .slice none 0 0, .int .i64 0, .bool false] 32) from Z2.out.tch T3.out (fun hh => by have := HGG.out; omega))
  have SL3 := WB3.out.sl HF.out.2.1 512 cap HF.out.2.2.symm (by decide)
  obtain ⟨FS, hFS⟩ : ∃ S, S = strB fr := ⟨_, rfl⟩
  have hst := string_of wr (some ⟨g, 0, none⟩) 512 cap fr FS SL3 (Lib.hid hFS)
  have CW := rdisk_write_any wr G _ d O3.doc 0 fr HF.out.2.1 (by have := HU.out; omega)
  rw [← hFS] at CW
  have CW' := Lib.hid CW
  have O3' := Lib.hid O3
  have HGr := Lib.hid (Nat.lt_of_lt_of_le WB3.out.lt (Nat.le_refl _))
  clear CW hFS SL3 O3 P2' M2 Z2 T3
  rw [V3.out] at hst
  have M3L := M3.out
  rw [V3.out] at M3L
  have M3L2 := Lib.hid M3L
  go_wp2_with fail
  go_region
  all_goals go_wp2_with (refine wpList_load_row rfl 32 (.tmp 4) rfl w.heap.size rfl 32 #[.slice xa xn xc, .slice xl xm xk, .int .i64 xf, .bool xd] (0, 0) _ M3L2.out Try.underlying32 rfl Try.infoDisk4 ?_)
  rw [← V3.out]
  refine CW'.out.mono ?_
  clear CW' hst
  rintro e w4 ⟨⟨v4, rfl, hd4⟩, hb4⟩
  obtain ⟨E4, G4, O4, hE4, hG4, hG4l, hE4'⟩ := O3'.out.ref3 hb4 hd4
  obtain ⟨ya, yn, yc, yl, ym, yk, yf, yd, rfl⟩ := hd4.four
  obtain ⟨w5, hw5⟩ : ∃ W, W = w4.alloc (.cells #[.slice ya yn yc, .slice yl ym yk, .int .i64 yf, .bool yd] 32) := ⟨_, rfl⟩
  have hb5 : Below w4.heap.size w4 w5 := by rw [hw5]; exact below1 w4 _
  have hs5 : w5.heap.size = w4.heap.size + 1 := by rw [hw5]; simp
  obtain ⟨E5, O5, hE5, hE5'⟩ := O4.new3 hb5
  obtain ⟨X, hX⟩ : ∃ X, X = w4.heap.size := ⟨_, rfl⟩
  have T5 := Lib.hid (show Has w5 X (.cells #[.slice ya yn yc, .slice yl ym yk, .int .i64 yf, .bool yd] 32) by rw [hw5, hX]; exact Has.new w4 _)
  have Z5 := Lib.hid ((Z3.out.later hb4).later hb5)
  have WB5 := ((WB3.out.later hb4).later hb5)
  have hEg := hE5 _ (hE4 _ HG2.out)
  have hEz := hE5 _ (hE4 _ HZ2.out)
  have hEx := hE5' X (by omega) (by omega)
  have hs4 := hb4.size
  have hgr := HGr.out
  have hggg := HGG.out
  have hGz : ¬ G4 (w.heap.size + 2) := fun hh => by have := HGl.out _ (hG4 _ (by omega) hh); omega
  have hGx : ¬ G4 X := fun hh => by have := hG4l _ hh; omega
  have CP := Lib.hid (ly_write O5.ly (Below.refl _ _) 0 (.slice (some ⟨g, 0, none⟩) 512 cap) fr (WB5.sl HF.out.2.1 512 cap HF.out.2.2.symm (by decide)) (fun g' off spot len cap' e => by injection e with e1 _ _; injection e1 with e1; injection e1 with e1 _ _; subst e1; exact Or.inl hEg) (by have := HU.out; omega))
  have O5' := Lib.hid O5
  have V5 := Lib.hid hw5
  have HX5 := Lib.hid hX
  have HEz := Lib.hid hEz
  have HEx := Lib.hid hEx
  have HGz := Lib.hid hGz
  have HGx := Lib.hid hGx
  have HNX := Lib.hid (show X ≠ (w.heap.size + 2) ∧ w.heap.size ≤ X by omega)
  clear hd4 hb4 O4 hE4 hG4 hG4l hE4' hw5 hb5 hs5 O5 hE5 hE5' WB5 hEg hEz hEx hGz hGx hs4 hgr hggg hX Z3 O3' HGr WB3 V3
  generalize Ek.writeE d 0 fr = e2 at CP ⊢
  go_wp2_with fail
  rw [← V5.out]
  refine CP.out.mono ?_
  clear CP V5
  rintro e w6 hp
  obtain ⟨rfl, O6⟩ := O5'.out.prog hp
  have hkeep := hp.2.2
  have T6 := Lib.hid (show Has w6 X (.cells #[.slice ya yn yc, .slice yl ym yk, .int .i64 yf, .bool yd] 32) from (hkeep _ HEx.out).trans T5.out)
  have Z6 := Lib.hid (show Has w6 (w.heap.size + 2) (.cells #[.slice none 0 0, .slice none 0 0, .int .i64 0, .bool false] 32) from (hkeep _ HEz.out).trans Z5.out)
  have O6' := Lib.hid O6
  clear hp hkeep O6 O5' T5 Z5
  try rw [← HX5.out]
  go_wp2_with (first | (refine wpList_load_row rfl 32 (.tmp 14) rfl X rfl 32 #[.slice ya yn yc, .slice yl ym yk, .int .i64 yf, .bool yd] (0, 0) _ T6.out Try.underlying32 rfl Try.infoDisk4 ?_) | (refine wpList_store_row rfl 32 (.tmp 6) (.tmp 77) rfl (w.heap.size + 2) #[.slice ya yn yc, .slice yl ym yk, .int .i64 yf, .bool yd] rfl rfl 32 _ Z6.out Try.infoDisk4 rfl (by simp [Value.oneCell']) ?_))
  refine bodyPost_ret (results_c1 rfl _ _ (w.heap.size + 2) 32 #[.slice ya yn yc, .slice yl ym yk, .int .i64 yf, .bool yd] (0, 0) _ rfl (setRow_heap _ _ _ _ _ _ Z6.out) Try.underlying32 rfl Try.infoDisk4) rfl ?_
  exact WrP.of O6'.out (w.heap.size + 2) HEz.out HGz.out (by omega) _

set_option maxRecDepth 100000 in
set_option maxHeartbeats 8000000 in
theorem zwr_else {w0 w : World} {b : Nat} {d : Ek.Dk} {v : Value} {E G F : Nat → Prop} (h : Bo w0 w b d v d E G F w) (hu : d.used ≤ 900) (kind I long : Int) (c : Nat) (ba : Option Addr) (bl bc : Nat) (ka : Option Addr) (kn kc : Nat) (_hI : -9223372036854775808 ≤ I ∧ I ≤ 9223372036854775807) (_hL : -9223372036854775808 ≤ long ∧ long ≤ 9223372036854775807) (_hc : c < 256) (hd : d.dark = false) (hz : Ek.hj d I ≠ 0) :
    Calls Try.prog 17 #[.pointer (some ⟨b, 0, none⟩), v, .agg #[.int .i64 kind, .slice ba bl bc, .int .i64 I, .int .i64 long, .int .u8 (c : Int), .slice ka kn kc]] w (WrP w0 b F w (Ek.write d ((Ek.hj d I : Nat) : Int) (List.replicate 512 c))) := by
  obtain ⟨xn, xa, xc, xl, xm, xk, xf, xd, hv, hxn⟩ : ∃ n a c l m k f x, v = .agg #[.slice a n c, .slice l m k, .int .i64 f, .bool x] ∧ n = d.n := by
    obtain ⟨a, la, c, lc, e, _⟩ := h.doc
    exact ⟨_, _, _, _, _, _, _, _, e, rfl⟩
  have hok : Ek.Ok d := by obtain ⟨_, _, _, _, _, _, _, ho⟩ := h.doc; exact ho
  have hn8 := hok.hi
  have hn1 := hok.lo
  obtain ⟨q, hq⟩ : ∃ q, q = (I % 18446744073709551616).toNat := ⟨_, rfl⟩
  obtain ⟨j, hj⟩ : ∃ j, j = Ek.hj d I := ⟨_, rfl⟩
  have hjq : j = q % d.n := by rw [hj, hq]; rfl
  have hjn : j < d.n := by rw [hjq]; exact Nat.mod_lt _ (by omega)
  rw [← hxn] at hn8 hn1 hjq hjn
  have cI : IntKind.u64.wrap I = (q : Int) := by rw [IntKind.wrap_u64]; omega
  have cN : IntKind.u64.wrap (xn : Int) = (xn : Int) := by rw [IntKind.wrap_u64]; omega
  have cR : (q : Int).tmod (xn : Int) = (j : Int) := by rw [Int.tmod_eq_emod_of_nonneg (by omega), hjq]; omega
  have cJ : IntKind.i64.wrap (j : Int) = (j : Int) := IntWalk.i64_in _ (by omega)
  have n0 : (xn : Int) ≠ 0 := by omega
  have HR := fun W (hb : Below w.heap.size w W) => rdisk_read_any W G v d (h.doc.later hb) (j : Int)
  have hre : Ek.readE d (j : Int) = 0 := by unfold Ek.readE; rw [if_neg (by rw [← hxn]; omega)]; rw [if_neg (by simp [hd])]
  rw [hre, if_pos rfl] at HR
  rw [hv] at HR h ⊢
  obtain ⟨W0, hW0, hb0, hs0, hM0, hA0, hZ0⟩ := step_boxes w (.cells #[.slice xa xn xc, .slice xl xm xk, .int .i64 xf, .bool xd] 32) (.cells #[.int .i64 kind, .slice ba bl bc, .int .i64 I, .int .i64 long, .int .u8 (c : Int), .slice ka kn kc] 38) (.cells #[.slice none 0 0, .slice none 0 0, .int .i64 0, .bool false] 32)
  obtain ⟨E0, P0, hE0, hE0'⟩ := h.new3 hb0
  have HEZ := Lib.hid (hE0' (w.heap.size + 2) (by omega) (by omega))
  have HGl := Lib.hid h.glt
  have V0 := Lib.hid hW0
  have P0' := Lib.hid P0
  have M0 := Lib.hid hM0
  have A0 := Lib.hid hA0
  have Z0 := Lib.hid hZ0
  have S0 := Lib.hid hs0
  have CR := Lib.hid (HR W0 hb0)
  have ML := hM0
  rw [hW0] at ML
  have ML' := Lib.hid ML
  have hrow := Ek.now_row hok j
  obtain ⟨S, hS⟩ : ∃ S, S = strB (Ek.now d j) := ⟨_, rfl⟩
  have hjt : ((j : Int)).toNat = j := by omega
  rw [hjt, ← hS] at CR
  have HU := Lib.hid hu
  have hj1 : ((j : Int) == 0) = false := by rw [beq_eq_false_iff_ne]; omega
  have hj2 : ¬ ((j : Int) = 0) := by omega
  rw [← hj]
  obtain ⟨fr, hfr⟩ : ∃ l, l = (List.replicate 512 c) := ⟨_, rfl⟩
  rw [← hfr]
  have hf8 : ∀ t ∈ fr, t < 256 := by
    intro t ht
    rw [hfr] at ht
    rw [List.eq_of_mem_replicate ht]; exact _hc
  have hfl : fr.length = 512 := by rw [hfr]; exact List.length_replicate
  have HF := Lib.hid (show fr = (List.replicate 512 c) ∧ (∀ t ∈ fr, t < 256) ∧ fr.length = 512 from ⟨hfr, hf8, hfl⟩)
  obtain ⟨ro, hro⟩ : ∃ l, l = Ek.now d j := ⟨_, rfl⟩
  rw [← hro] at hS hrow 
  skip
  have HRO := Lib.hid hrow
  have HSS : Hid (S = strB ro) := hS
  clear h hv HR hb0 hs0 hM0 hA0 hZ0 P0 hE0 hE0' hW0 ML hok hq hj hjq hre hxn hd hu _hL hro hS hrow hfr hf8 hfl hjt hz
  go_enter Try.func17, Try.ntmps17
  go_wp2_with (refine wpList_load_row rfl 32 (.tmp 4) rfl w.heap.size rfl 32 #[.slice xa xn xc, .slice xl xm xk, .int .i64 xf, .bool xd] (0, 0) _ ML'.out Try.underlying32 rfl Try.infoDisk4 ?_)
  rw [← V0.out]
  refine CR.out.mono ?_
  clear CR V0 ML'
  rintro e w1 ⟨rfl, hb1⟩
  obtain ⟨E1, P1, hE1, hE1'⟩ := P0'.out.new3 hb1
  have M1 := Lib.hid (M0.out.later hb1)
  have A1 := Lib.hid (A0.out.later hb1)
  have Z1 := Lib.hid (Z0.out.later hb1)
  have HZ1 := Lib.hid (hE1 _ HEZ.out)
  have P1' := Lib.hid P1
  have S1 : Hid (w.heap.size + 3 ≤ w1.heap.size) := by have := hb1.size; have := S0.out; show _ ≤ _; omega
  clear hb1 P1 hE1 hE1' P0' M0 A0 Z0 HEZ
  obtain ⟨cap, w2, hcv, hwb, hb2, hcap, hs2⟩ := conv_wb ro HRO.out.2 (by rw [HRO.out.1]; decide) S HSS w1
  rw [HRO.out.1] at hcv hcap
  have hcv1 := hcv
  obtain ⟨g, hg⟩ : ∃ g, g = w1.heap.size := ⟨_, rfl⟩
  rw [← hg] at hcv hwb hs2
  obtain ⟨E2, P2, hE2, hE2'⟩ := P1'.out.new3 hb2
  have M2 := Lib.hid (M1.out.later hb2)
  have A2 := Lib.hid (A1.out.later hb2)
  have Z2 := Lib.hid (Z1.out.later hb2)
  have HZ2 := Lib.hid (hE2 _ HZ1.out)
  have HG2 := Lib.hid (hE2' g (by omega) (by omega))
  have P2' := Lib.hid P2
  have HGG := Lib.hid (show w.heap.size + 3 ≤ g by have := S1.out; omega)
  have WB := Lib.hid hwb
  have hcpI : (512 : Int) ≤ (cap : Int) := by omega
  clear hb2 P2 hE2 hE2' P1' M1 A1 Z1 HZ1 hwb hg S1 hs2 hcv1
  have a3 := (A2.out.cell 3 : _ = some (Value.int .i64 long))
  have a4 := (A2.out.cell 4 : _ = some (Value.int .u8 (c : Int)))
  have K0 := Lib.hid (Tch.refl (fun q => q = g) w2)
  have WB0 : Hid (Wb w2 g (List.replicate 0 c ++ ro.drop 0)) := by show Wb _ _ _; exact WB.out
  have hro5 := HRO.out.1
  have HRL := Lib.hid hro5
  clear WB hro5
  go_wp2_with fail
  go_loopw [13] (fun s13 wr => ∃ k : Nat, s13 = .int .i64 (k : Int) ∧ k ≤ 512 ∧ Hid (Tch (fun q => q = g) w2 wr) ∧ Hid (Wb wr g (List.replicate k c ++ ro.drop k))) (fun s13 _ => 512 - (intOf s13).toNat)
  case atStart => exact ⟨0, by go_num, by omega, K0, WB0⟩
  clear K0 WB0 a3 a4
  case round =>
    obtain ⟨k, rfl, hk, KT, KW⟩ := hrel
    have hkl : (List.replicate k c ++ ro.drop k).length = 512 := by rw [List.length_append, List.length_replicate, List.length_drop, HRL.out]; omega
    by_cases hlt : k < 512
    · have j0 : decide ((k : Int) < 512) = true := decide_eq_true (by omega)
      have hlt' : (k : Int) < 512 := by omega
      have hi0 : (0 : Int) ≤ (k : Int) := by omega
      obtain ⟨y, hy⟩ : ∃ y, y = (List.replicate k c ++ ro.drop k)[k]?.getD 0 := ⟨_, rfl⟩
      have hcell := KW.out.cell k (by omega)
      rw [← hy] at hcell
      have hfro := KW.out.free k (by omega)
      have a4 := ((A2.out.tch KT.out (show ¬ ((w.heap.size + 1) = g) by have := HGG.out; omega)).cell 4 : _ = some (Value.int .u8 (c : Int)))
      have KW2 := KW.out.set k (by omega) c
      rw [rep_drop ro c k (by rw [HRL.out]; exact hlt)] at KW2
      have KW2' := Lib.hid KW2
      have KT2 := Lib.hid (KT.out.setCell (p := ⟨g, k, none⟩) rfl (.int .u8 (c : Int)))
      clear hy hkl KW2 hk
      go_wp2_with fail
      go_round
      case rel => exact ⟨k + 1, by go_num, by omega, KT2, KW2'⟩
      case measure => simp [intOf]; omega
    · obtain rfl : k = 512 := by omega
      have j0 : decide ((512 : Int) < 512) = false := by decide
      have WB3 : Hid (Wb wr g fr) := by
        show Wb _ _ _
        rw [HF.out.1]
        have := KW.out
        rwa [List.drop_of_length_le (by rw [HRL.out]; exact Nat.le_refl _), List.append_nil] at this
      have T3 := KT
      have V3 : Hid (wr = wr) := rfl
      clear KW KT hkl hlt hk
      have O3 := P2'.out.tch g HG2.out (fun hh => by have := HGl.out _ hh; have := HGG.out; omega) (by have := HGG.out; omega) T3.out
      have M3 := Lib.hid (show Has wr w.heap.size (.cells #[.slice xa xn xc, .slice xl xm xk, .int .i64 xf, .bool xd] 32) from M2.out.tch T3.out (fun hh => by have := HGG.out; omega))
      have Z3 := Lib.hid (show Has wr (w.heap.size + 2) (.cells #[.slice none 0 0, .slice none 0 0, .int .i64 0, .bool false] 32) from Z2.out.tch T3.out (fun hh => by have := HGG.out; omega))
      have SL3 := WB3.out.sl HF.out.2.1 512 cap HF.out.2.2.symm (by decide)
      obtain ⟨FS, hFS⟩ : ∃ S, S = strB fr := ⟨_, rfl⟩
      have hst := string_of wr (some ⟨g, 0, none⟩) 512 cap fr FS SL3 (Lib.hid hFS)
      have CW := rdisk_write_any wr G _ d O3.doc (j : Int) fr HF.out.2.1 (by have := HU.out; omega)
      rw [← hFS] at CW
      have CW' := Lib.hid CW
      have O3' := Lib.hid O3
      have HGr := Lib.hid (Nat.lt_of_lt_of_le WB3.out.lt (Nat.le_refl _))
      clear CW hFS SL3 O3 P2' M2 Z2 T3
      skip
      skip
      skip
      go_wp2_with (refine wpList_load_row rfl 32 (.tmp 4) rfl w.heap.size rfl 32 #[.slice xa xn xc, .slice xl xm xk, .int .i64 xf, .bool xd] (0, 0) _ M3.out Try.underlying32 rfl Try.infoDisk4 ?_)
      skip
      refine CW'.out.mono ?_
      clear CW' hst
      rintro e w4 ⟨⟨v4, rfl, hd4⟩, hb4⟩
      obtain ⟨E4, G4, O4, hE4, hG4, hG4l, hE4'⟩ := O3'.out.ref3 hb4 hd4
      obtain ⟨ya, yn, yc, yl, ym, yk, yf, yd, rfl⟩ := hd4.four
      obtain ⟨w5, hw5⟩ : ∃ W, W = w4.alloc (.cells #[.slice ya yn yc, .slice yl ym yk, .int .i64 yf, .bool yd] 32) := ⟨_, rfl⟩
      have hb5 : Below w4.heap.size w4 w5 := by rw [hw5]; exact below1 w4 _
      have hs5 : w5.heap.size = w4.heap.size + 1 := by rw [hw5]; simp
      obtain ⟨E5, O5, hE5, hE5'⟩ := O4.new3 hb5
      obtain ⟨X, hX⟩ : ∃ X, X = w4.heap.size := ⟨_, rfl⟩
      have T5 := Lib.hid (show Has w5 X (.cells #[.slice ya yn yc, .slice yl ym yk, .int .i64 yf, .bool yd] 32) by rw [hw5, hX]; exact Has.new w4 _)
      have Z5 := Lib.hid ((Z3.out.later hb4).later hb5)
      have WB5 := ((WB3.out.later hb4).later hb5)
      have hEg := hE5 _ (hE4 _ HG2.out)
      have hEz := hE5 _ (hE4 _ HZ2.out)
      have hEx := hE5' X (by omega) (by omega)
      have hs4 := hb4.size
      have hgr := HGr.out
      have hggg := HGG.out
      have hGz : ¬ G4 (w.heap.size + 2) := fun hh => by have := HGl.out _ (hG4 _ (by omega) hh); omega
      have hGx : ¬ G4 X := fun hh => by have := hG4l _ hh; omega
      have CP := Lib.hid (ly_write O5.ly (Below.refl _ _) (j : Int) (.slice (some ⟨g, 0, none⟩) 512 cap) fr (WB5.sl HF.out.2.1 512 cap HF.out.2.2.symm (by decide)) (fun g' off spot len cap' e => by injection e with e1 _ _; injection e1 with e1; injection e1 with e1 _ _; subst e1; exact Or.inl hEg) (by have := HU.out; omega))
      have O5' := Lib.hid O5
      have V5 := Lib.hid hw5
      have HX5 := Lib.hid hX
      have HEz := Lib.hid hEz
      have HEx := Lib.hid hEx
      have HGz := Lib.hid hGz
      have HGx := Lib.hid hGx
      have HNX := Lib.hid (show X ≠ (w.heap.size + 2) ∧ w.heap.size ≤ X by omega)
      clear hd4 hb4 O4 hE4 hG4 hG4l hE4' hw5 hb5 hs5 O5 hE5 hE5' WB5 hEg hEz hEx hGz hGx hs4 hgr hggg hX Z3 O3' HGr WB3 V3
      generalize Ek.writeE d (j : Int) fr = e2 at CP ⊢
      go_wp2_with fail
      rw [← V5.out]
      refine CP.out.mono ?_
      clear CP V5
      rintro e w6 hp
      obtain ⟨rfl, O6⟩ := O5'.out.prog hp
      have hkeep := hp.2.2
      have T6 := Lib.hid (show Has w6 X (.cells #[.slice ya yn yc, .slice yl ym yk, .int .i64 yf, .bool yd] 32) from (hkeep _ HEx.out).trans T5.out)
      have Z6 := Lib.hid (show Has w6 (w.heap.size + 2) (.cells #[.slice none 0 0, .slice none 0 0, .int .i64 0, .bool false] 32) from (hkeep _ HEz.out).trans Z5.out)
      have O6' := Lib.hid O6
      clear hp hkeep O6 O5' T5 Z5
      try rw [← HX5.out]
      go_wp2_with (first | (refine wpList_load_row rfl 32 (.tmp 14) rfl X rfl 32 #[.slice ya yn yc, .slice yl ym yk, .int .i64 yf, .bool yd] (0, 0) _ T6.out Try.underlying32 rfl Try.infoDisk4 ?_) | (refine wpList_store_row rfl 32 (.tmp 6) (.tmp 77) rfl (w.heap.size + 2) #[.slice ya yn yc, .slice yl ym yk, .int .i64 yf, .bool yd] rfl rfl 32 _ Z6.out Try.infoDisk4 rfl (by simp [Value.oneCell']) ?_))
      refine bodyPost_ret (results_c1 rfl _ _ (w.heap.size + 2) 32 #[.slice ya yn yc, .slice yl ym yk, .int .i64 yf, .bool yd] (0, 0) _ rfl (setRow_heap _ _ _ _ _ _ Z6.out) Try.underlying32 rfl Try.infoDisk4) rfl ?_
      exact WrP.of O6'.out (w.heap.size + 2) HEz.out HGz.out (by omega) _

theorem zwr_any {w0 w : World} {b : Nat} {d : Ek.Dk} {v : Value} {E G F : Nat → Prop} (h : Bo w0 w b d v d E G F w) (hu : d.used ≤ 900) (kind I long : Int) (c : Nat) (ba : Option Addr) (bl bc : Nat) (ka : Option Addr) (kn kc : Nat) (hI : -9223372036854775808 ≤ I ∧ I ≤ 9223372036854775807) (hL : -9223372036854775808 ≤ long ∧ long ≤ 9223372036854775807) (hc : c < 256) :
    Calls Try.prog 17 #[.pointer (some ⟨b, 0, none⟩), v, .agg #[.int .i64 kind, .slice ba bl bc, .int .i64 I, .int .i64 long, .int .u8 (c : Int), .slice ka kn kc]] w (WrP w0 b F w (Ek.hand d I long c)) := by
  unfold Ek.hand
  by_cases hd : d.dark = true
  · rw [if_pos hd]; exact zwr_dark h hu kind I long c ba bl bc ka kn kc hI hL hc hd
  · rw [if_neg hd]
    unfold Ek.hrw
    by_cases hz : Ek.hj d I = 0
    · rw [if_pos hz, hz]; exact zwr_first h hu kind I long c ba bl bc ka kn kc hI hL hc (by simpa using hd) hz
    · rw [if_neg hz]; exact zwr_else h hu kind I long c ba bl bc ka kn kc hI hL hc (by simpa using hd) hz
end Go.Proofs.Ythbiibinmofmfaa
