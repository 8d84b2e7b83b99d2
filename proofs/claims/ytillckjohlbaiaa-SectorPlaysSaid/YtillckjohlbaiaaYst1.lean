/- valiselaw11.step: kind 1. -/
import Derived.Test.YtillckjohlbaiaaYst0

namespace Go.Proofs.Ytillckjohlbaiaa
set_option maxRecDepth 100000
open Go.RowKit

set_option maxRecDepth 100000 in
set_option maxHeartbeats 8000000 in
theorem step_1 {w0 w : World} {b : Nat} {d : Ek.Dk} {v : Value} {E G F : Nat → Prop} (h : Bo w0 w b d v d E G F w) (hu : d.used ≤ 900) (i long : Int) (c : Nat) (_ : c < 256) (ka : Option Addr) (kn kc : Nat) :
    Calls Try.prog 17 #[.pointer (some ⟨b, 0, none⟩), v, .agg #[.int .i64 1, .int .i64 i, .int .u8 (c : Int), .int .i64 long, .slice ka kn kc]] w (StP w0 F w (Ek.write d i (Ek.fil c (Ek.fln long)))) := by
  obtain ⟨xa, xn, xc, xl, xm, xk, xf, xd, rfl⟩ := h.doc.four
  obtain ⟨W0, hW0, hb0, hs0, hM0, hA0, hZ0⟩ := step_boxes w (.cells #[.slice xa xn xc, .slice xl xm xk, .int .i64 xf, .bool xd] 40) (.cells #[.int .i64 1, .int .i64 i, .int .u8 (c : Int), .int .i64 long, .slice ka kn kc] 48) (.cells #[.slice none 0 0, .slice none 0 0, .int .i64 0, .bool false] 40)
  have O0 := h.new hb0
  have hEz : (E (w.heap.size + 2) ∨ (w.heap.size ≤ w.heap.size + 2 ∧ w.heap.size + 2 < W0.heap.size)) := Or.inr (by omega)
  have hGlt : ∀ k, G k → k < w.heap.size := fun k hk => h.ly.lt k (h.sub k hk)
  have V0 := Lib.hid hW0
  have hn := Ek.fln_le long
  have C1 := Lib.hid (filled_any W0 c long)
  generalize Ek.fln long = n at *
  have M0 := Lib.hid hM0
  have A0 := Lib.hid hA0
  have Z0 := Lib.hid hZ0
  have P0 := Lib.hid O0
  have HEZ := Lib.hid hEz
  have HG := Lib.hid hGlt
  have HS := Lib.hid hs0
  have HU := Lib.hid hu
  have HN := Lib.hid hn
  have hn1 : (n : Int) ≤ 514 := by omega
  clear h hb0 hW0 hM0 hA0 hZ0 O0 hEz hGlt hs0 hu hn
  go_enter Try.func17, Try.ntmps17
  go_wp2_with fail
  rw [← V0.out]
  clear V0
  refine C1.out.mono ?_
  rintro e w1 hp
  have hS1 := hp.sl (by have := HN.out; omega)
  obtain ⟨rfl, hby, hb1, hlt1⟩ := hp
  have P1 := Lib.hid (P0.out.new hb1)
  have S1 := Lib.hid hS1
  have M1 := Lib.hid (M0.out.later hb1)
  have A1 := Lib.hid (A0.out.later hb1)
  have Z1 := Lib.hid (Z0.out.later hb1)
  have BY1 := Lib.hid hby
  have HL1 := Lib.hid hlt1
  have HB1 := Lib.hid hb1
  obtain ⟨S, hS⟩ : ∃ S, S = strB (Ek.fil c n) := ⟨_, rfl⟩
  have hcv := string_of w1 (some ⟨W0.heap.size, 0, none⟩) n n _ S hS1 (Lib.hid hS)
  have CW := rdisk_write_any w1 G _ d P1.out.doc i (Ek.fil c n) (Ek.fil_small c n) (by have := HU.out; omega)
  rw [← hS] at CW
  have CW' := Lib.hid CW
  have a1 := (A1.out.cell 1 : _ = some (Value.int .i64 i))
  clear CW hS hby hb1 hlt1 hS1 C1 M0 A0 Z0
  go_wp2_with (refine wpList_load_row rfl 40 (.tmp 4) rfl w.heap.size rfl 40 _ (0, 0) _ M1.out Try.underlying40 rfl Try.infoDisk4 ?_)
  refine CW'.out.mono ?_
  clear CW'
  rintro e w2 ⟨⟨v2, rfl, hd2⟩, hb2⟩
  have O2 := P1.out.ref hb2 hd2
  obtain ⟨ya, yn, yc, yl, ym, yk, yf, yd, rfl⟩ := hd2.four
  obtain ⟨W3, hW3⟩ : ∃ W, W = w2.alloc (.cells #[.slice ya yn yc, .slice yl ym yk, .int .i64 yf, .bool yd] 40) := ⟨_, rfl⟩
  have hb3 : Below w2.heap.size w2 W3 := by rw [hW3]; exact below1 w2 _
  have hs3 : W3.heap.size = w2.heap.size + 1 := by rw [hW3]; simp
  have O3 := O2.new hb3
  have T3 : Has W3 w2.heap.size (.cells #[.slice ya yn yc, .slice yl ym yk, .int .i64 yf, .bool yd] 40) := by rw [hW3]; exact Has.new w2 _
  have A3 := Lib.hid ((A1.out.later hb2).later hb3)
  have Z3 := Lib.hid ((Z1.out.later hb2).later hb3)
  have S3 := (S1.out.later hb2).later hb3
  have BY3 := Lib.hid (Has.later (Has.later BY1.out hb2) hb3)
  have hz1 := hb2.size
  have hzz := HS.out
  have hzl := HL1.out
  have Eg : ((((E W0.heap.size ∨ (w.heap.size ≤ W0.heap.size ∧ W0.heap.size < W0.heap.size)) ∨ (W0.heap.size ≤ W0.heap.size ∧ W0.heap.size < w1.heap.size)) ∨ (w1.heap.size ≤ W0.heap.size ∧ W0.heap.size < w2.heap.size)) ∨ (w2.heap.size ≤ W0.heap.size ∧ W0.heap.size < W3.heap.size)) := Or.inl (Or.inl (Or.inr (by omega)))
  have Gg : ¬ (G W0.heap.size ∨ (w1.heap.size ≤ W0.heap.size ∧ W0.heap.size < w2.heap.size)) := by
    rintro (h | h)
    · have := HG.out _ h; omega
    · omega
  have Ez : ((((E (w.heap.size + 2) ∨ (w.heap.size ≤ w.heap.size + 2 ∧ w.heap.size + 2 < W0.heap.size)) ∨ (W0.heap.size ≤ w.heap.size + 2 ∧ w.heap.size + 2 < w1.heap.size)) ∨ (w1.heap.size ≤ w.heap.size + 2 ∧ w.heap.size + 2 < w2.heap.size)) ∨ (w2.heap.size ≤ w.heap.size + 2 ∧ w.heap.size + 2 < W3.heap.size)) := Or.inl (Or.inl (Or.inl HEZ.out))
  have Gz : ¬ (G (w.heap.size + 2) ∨ (w1.heap.size ≤ w.heap.size + 2 ∧ w.heap.size + 2 < w2.heap.size)) := by
    rintro (h | h)
    · have := HG.out _ h; omega
    · omega
  have Et : ((((E w2.heap.size ∨ (w.heap.size ≤ w2.heap.size ∧ w2.heap.size < W0.heap.size)) ∨ (W0.heap.size ≤ w2.heap.size ∧ w2.heap.size < w1.heap.size)) ∨ (w1.heap.size ≤ w2.heap.size ∧ w2.heap.size < w2.heap.size)) ∨ (w2.heap.size ≤ w2.heap.size ∧ w2.heap.size < W3.heap.size)) := Or.inr (by omega)
  have CP := Lib.hid (ly_write O3.ly (Below.refl _ _) i (.slice (some ⟨W0.heap.size, 0, none⟩) n n) (Ek.fil c n) S3 (fun g off spot len cap e => by injection e with e1 _ _; injection e1 with e1; injection e1 with e1 _ _; subst e1; exact Or.inl Eg) (by have := HU.out; omega))
  have P3 := Lib.hid O3
  have T3' := Lib.hid T3
  have HEg := Lib.hid Eg
  have HGg := Lib.hid Gg
  have HEz := Lib.hid Ez
  have HGz := Lib.hid Gz
  have HEt := Lib.hid Et
  have V3 := Lib.hid hW3
  have HNE := Lib.hid (show W0.heap.size ≠ w2.heap.size ∧ W0.heap.size ≠ w.heap.size + 2 ∧ w2.heap.size ≠ w.heap.size + 2 by omega)
  have a3 := (A3.out.cell 1 : _ = some (Value.int .i64 i))
  clear hW3 hb3 hs3 O3 T3 S3 hz1 hzz hzl Eg Gg Ez Gz Et hd2 hb2 O2 a1 hcv M1 A1 Z1 S1 BY1 HL1
  rw [V3.out] at a3
  generalize hq2 : Ek.writeE d i (Ek.fil c n) = e2 at CP ⊢
  clear hq2
  go_wp2_with fail
  rw [← V3.out]
  refine CP.out.mono ?_
  clear CP V3 a3 A3
  rintro e w4 hp
  obtain ⟨rfl, O4⟩ := P3.out.prog hp
  have hkeep := hp.2.2
  have T4 := Lib.hid (show Has w4 w2.heap.size (.cells #[.slice ya yn yc, .slice yl ym yk, .int .i64 yf, .bool yd] 40) from (hkeep _ HEt.out).trans T3'.out)
  have Z4 := Lib.hid (show Has w4 (w.heap.size + 2) (.cells #[.slice none 0 0, .slice none 0 0, .int .i64 0, .bool false] 40) from (hkeep _ HEz.out).trans Z3.out)
  have BY4 := Lib.hid (show Has w4 W0.heap.size (.cells (vb (Ek.fil c n)).toArray 5 (0, 0)) from (hkeep _ HEg.out).trans BY3.out)
  have P4 := Lib.hid O4
  have HLn : Hid ((Ek.fil c n).length = n) := Ek.fil_length c n
  have HI0 : Hid (Tch (fun k => k = W0.heap.size) w4 w4) := Tch.refl _ _
  obtain ⟨fl, hfl⟩ : ∃ l, l = Ek.fil c n := ⟨_, rfl⟩
  rw [← hfl] at BY4 HLn
  clear hp hkeep O4 P3 T3' Z3 BY3 hfl
  go_wp2_with fail
  go_loopw [13] (fun s13 wr => ∃ (k : Nat) (ys : List Nat), s13 = .int .i64 (k : Int) ∧ k ≤ n ∧ Hid (ys.length = n) ∧ Hid (Has wr W0.heap.size (.cells (vb ys).toArray 5 (0, 0))) ∧ Hid (Tch (fun k => k = W0.heap.size) w4 wr)) (fun s13 _ => n - (intOf s13).toNat)
  case atStart => exact ⟨0, fl, by go_num, Nat.zero_le _, HLn, BY4, HI0⟩
  case round =>
    obtain ⟨k, ys, rfl, hk, HY, KY, KT⟩ := hrel
    by_cases hlt : k < n
    · have j0 : decide ((k : Int) < (n : Int)) = true := decide_eq_true (by omega)
      have hlt' : (k : Int) < (n : Int) := by omega
      have hi0 : (0 : Int) ≤ (k : Int) := by omega
      obtain ⟨x, hx⟩ : ∃ x : Nat, ys[k]? = some x := ⟨_, List.getElem?_eq_getElem (by rw [HY.out]; exact hlt)⟩
      have hcell : wr.cell? ⟨W0.heap.size, k, none⟩ = some (.int .u8 (x : Int)) := by rw [KY.out.cell, List.getElem?_toArray, vb_get, hx]; rfl
      have hfro := KY.out.free k
      have KY2 : Hid (Has (wr.setCell ⟨W0.heap.size, k, none⟩ (.int .u8 7)) W0.heap.size (.cells (vb (ys.set k 7)).toArray 5 (0, 0))) := by
        have := KY.out.setSelf (i := k) (.int .u8 ((7 : Nat) : Int))
        rw [vb_set]
        show Has _ _ _
        simpa using this
      have KT2 := Lib.hid (KT.out.setCell (p := ⟨W0.heap.size, k, none⟩) rfl (.int .u8 7))
      have HY2 : Hid ((ys.set k 7).length = n) := by show _ = _; rw [List.length_set]; exact HY.out
      clear hx hk
      go_wp2_with fail
      go_round
      case rel => exact ⟨k + 1, ys.set k 7, by go_num, by omega, HY2, KY2, KT2⟩
      case measure => simp [intOf]; omega
    · have j0 : decide ((k : Int) < (n : Int)) = false := decide_eq_false (by omega)
      have O5 := P4.out.tch W0.heap.size HEg.out HGg.out (by have := HS.out; omega) KT.out
      have T5 : Has wr w2.heap.size (.cells #[.slice ya yn yc, .slice yl ym yk, .int .i64 yf, .bool yd] 40) := T4.out.tch KT.out (fun hh => HNE.out.1 hh.symm)
      have Z5 : Has wr (w.heap.size + 2) (.cells #[.slice none 0 0, .slice none 0 0, .int .i64 0, .bool false] 40) := Z4.out.tch KT.out (fun hh => HNE.out.2.1 hh.symm)
      have D5 := below_drewN (Below.refl wr.heap.size wr) 1
      have O6 := Lib.hid (show Bo w0 wr.drew b (Ek.write d i (Ek.fil c n)) _ (Ek.write d i (Ek.fil c n)) _ _ _ _ from O5.later D5)
      have T6 : Has wr.drew w2.heap.size (.cells #[.slice ya yn yc, .slice yl ym yk, .int .i64 yf, .bool yd] 40) ∧ True := ⟨T5.later D5, trivial⟩
      have Z6 := Lib.hid (show Has wr.drew (w.heap.size + 2) (.cells #[.slice none 0 0, .slice none 0 0, .int .i64 0, .bool false] 40) from Z5.later D5)
      have hee : (e2 == e2) = true := by simp
      clear hk O5 T5 Z5 D5 HY KY KT T4 Z4 BY4 P4 HLn HI0
      go_wp2_with fail
      refine wp_region_held_drew (S := fun wx => Has wx w2.heap.size (.cells #[.slice ya yn yc, .slice yl ym yk, .int .i64 yf, .bool yd] 40) ∧ True) (by kernel_rfl) T6 (fun _ => ?_)
      change wpAnyH _ _ _ _ _ 8 (Array.replicate 8 false) _ _
      refine wpAnyH_take (i := 0) (v := ?_) rfl (by kernel_rfl) (by kernel_rfl) (by kernel_rfl) (fun _ _ _ h => h) (Or.inl ⟨rfl, ?hy0⟩) T6 ?_
      case hy0 => intro w' hw'; clear hw'; go_simp; first | done | rfl
      try simp only [Act.put, List.getElem_toArray, List.getElem_cons_zero, List.setIfInBounds_toArray, List.set_cons_zero, List.set_cons_succ]
      refine wpAnyH_take (i := 1) (v := .agg #[.slice ya yn yc, .slice yl ym yk, .int .i64 yf, .bool yd]) rfl (by kernel_rfl) (by kernel_rfl) (by kernel_rfl) (fun _ _ _ h => h) (Or.inl ⟨rfl, ?hy1⟩) T6 ?_
      case hy1 =>
        intro w' hw'
        exact exec_row (.tmp 10) rfl w2.heap.size rfl 40 _ (0, 0) _ hw'.1 Try.underlying40 rfl Try.infoDisk4
      try simp only [Act.put, List.getElem_toArray, List.getElem_cons_zero, List.getElem_cons_succ, List.setIfInBounds_toArray, List.set_cons_zero, List.set_cons_succ]
      refine wpAnyH_take (i := 2) (v := ?_) rfl (by kernel_rfl) (by kernel_rfl) (by kernel_rfl) (fun _ _ _ h => h) (Or.inl ⟨rfl, ?hy2⟩) T6 ?_
      case hy2 => intro w' hw'; clear hw'; go_simp; first | done | rfl
      try simp only [Act.put, List.getElem_toArray, List.getElem_cons_zero, List.getElem_cons_succ, List.setIfInBounds_toArray, List.set_cons_zero, List.set_cons_succ]
      refine wpAnyH_take (i := 3) (v := ?_) rfl (by kernel_rfl) (by kernel_rfl) (by kernel_rfl) (fun _ _ _ h => h) (Or.inl ⟨rfl, ?hy3⟩) T6 ?_
      case hy3 => intro w' hw'; clear hw'; go_simp; first | done | rfl
      try simp only [Act.put, List.getElem_toArray, List.getElem_cons_zero, List.getElem_cons_succ, List.setIfInBounds_toArray, List.set_cons_zero, List.set_cons_succ]
      refine wpAnyH_take (i := 4) (v := ?_) rfl (by kernel_rfl) (by kernel_rfl) (by kernel_rfl) (fun _ _ _ h => h) (Or.inl ⟨rfl, ?hy4⟩) T6 ?_
      case hy4 => intro w' hw'; clear hw'; go_simp; first | done | rfl
      try simp only [Act.put, List.getElem_toArray, List.getElem_cons_zero, List.getElem_cons_succ, List.setIfInBounds_toArray, List.set_cons_zero, List.set_cons_succ]
      refine wpAnyH_take (i := 5) (v := ?_) rfl (by kernel_rfl) (by kernel_rfl) (by kernel_rfl) (fun _ _ _ h => h) (Or.inl ⟨rfl, ?hy5⟩) T6 ?_
      case hy5 => intro w' hw'; clear hw'; go_simp; first | done | rfl
      try simp only [Act.put, List.getElem_toArray, List.getElem_cons_zero, List.getElem_cons_succ, List.setIfInBounds_toArray, List.set_cons_zero, List.set_cons_succ]
      have i1 : Has (wr.drew.setRow (w.heap.size + 2) #[.slice ya yn yc, .slice yl ym yk, .int .i64 yf, .bool yd]) w2.heap.size (.cells #[.slice ya yn yc, .slice yl ym yk, .int .i64 yf, .bool yd] 40) ∧ True := ⟨has_row T6.1 (fun hh => HNE.out.2.2 hh.symm) _, trivial⟩
      refine wpAnyH_ready (rs := [6]) (by kernel_rfl) (by simp) ?_
      refine AllReadyH.cons rfl (fun K hK => ?_) AllReadyH.nil
      rw [if_pos (by rfl)]
      refine wp_store_row 40 _ _ rfl (w.heap.size + 2) #[.slice ya yn yc, .slice yl ym yk, .int .i64 yf, .bool yd] rfl rfl 40 _ Z6.out Try.infoDisk4 rfl (by simp [Value.oneCell']) ?_
      refine hK.out _ _ i1 (fun _ => ?_)
      clear hK K
      try simp only [Act.put, List.getElem_toArray, List.getElem_cons_zero, List.getElem_cons_succ]
      refine wpAnyH_take (i := 7) (v := ?_) rfl (by kernel_rfl) (by kernel_rfl) (by kernel_rfl) (fun _ _ _ h => h) (Or.inl ⟨rfl, ?hy7⟩) i1 ?_
      case hy7 => intro w' hw'; clear hw'; go_simp; first | done | rfl
      try simp only [Act.put, List.getElem_toArray, List.getElem_cons_zero, List.getElem_cons_succ, List.setIfInBounds_toArray, List.set_cons_zero, List.set_cons_succ]
      refine wpAnyH_done (by kernel_rfl) ?_ _
      go_wp2
      refine bodyPost_ret (results_tct rfl _ _ (w.heap.size + 2) 40 _ (0, 0) _ rfl (setRow_heap _ _ _ #[.slice ya yn yc, .slice yl ym yk, .int .i64 yf, .bool yd] _ _ Z6.out) Try.underlying40 rfl Try.infoDisk4) rfl ?_
      exact StP.of O6.out (w.heap.size + 2) HEz.out HGz.out (by omega) _
end Go.Proofs.Ytillckjohlbaiaa
