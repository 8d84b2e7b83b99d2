/- valiselaw11.step: kind 5. -/
import Derived.Test.YtillckjohlbaiaaYst0

namespace Go.Proofs.Ytillckjohlbaiaa
set_option maxRecDepth 100000
open Go.RowKit

set_option maxRecDepth 100000 in
set_option maxHeartbeats 8000000 in
theorem step_5 {w0 w : World} {b : Nat} {d : Ek.Dk} {v : Value} {E G F : Nat → Prop} (h : Bo w0 w b d v d E G F w) (hu : d.used ≤ 900) (i long : Int) (c : Nat) (_ : c < 256) (ka : Option Addr) (kn kc : Nat) :
    Calls Try.prog 17 #[.pointer (some ⟨b, 0, none⟩), v, .agg #[.int .i64 5, .int .i64 i, .int .u8 (c : Int), .int .i64 long, .slice ka kn kc]] w (StP w0 F w d) := by
  obtain ⟨xa, xn, xc, xl, xm, xk, xf, xd, rfl⟩ := h.doc.four
  obtain ⟨W0, hW0, hb0, hs0, hM0, hA0, hZ0⟩ := step_boxes w (.cells #[.slice xa xn xc, .slice xl xm xk, .int .i64 xf, .bool xd] 40) (.cells #[.int .i64 5, .int .i64 i, .int .u8 (c : Int), .int .i64 long, .slice ka kn kc] 48) (.cells #[.slice none 0 0, .slice none 0 0, .int .i64 0, .bool false] 40)
  have O0 := h.new hb0
  have hEz : (E (w.heap.size + 2) ∨ (w.heap.size ≤ w.heap.size + 2 ∧ w.heap.size + 2 < W0.heap.size)) := Or.inr (by omega)
  have hGlt : ∀ k, G k → k < w.heap.size := fun k hk => h.ly.lt k (h.sub k hk)
  have V0 := Lib.hid hW0
  have M0 := Lib.hid hM0
  have A0 := Lib.hid hA0
  have Z0 := Lib.hid hZ0
  have P0 := Lib.hid O0
  have HEZ := Lib.hid hEz
  have HG := Lib.hid hGlt
  have HS := Lib.hid hs0
  have HU := Lib.hid hu
  have B0 := Lib.hid hb0
  have CC : Hid (Calls Try.prog 54 #[.pointer (some ⟨b, 0, none⟩)] W0 (CpPost W0 d)) := by
    obtain ⟨S, h1, _⟩ := id O0.ly
    exact copy_any W0 S b d h1
  clear h hb0 hW0 hM0 hA0 hZ0 O0 hEz hGlt hs0 hu
  go_enter Try.func17, Try.ntmps17
  go_wp2_with fail
  rw [← V0.out]
  clear V0
  refine CC.out.mono ?_
  clear CC
  rintro e w1 ⟨c2, T, rfl, hT, hTl, hb1⟩
  have P1 := Lib.hid (P0.out.new hb1)
  have TT := Lib.hid hTl
  have T1 := Lib.hid hT
  have M1 := Lib.hid (M0.out.later hb1)
  have Z1 := Lib.hid (Z0.out.later hb1)
  have B1 := Lib.hid (B0.out.trans (hb1.mono B0.out.size))
  have hz1 := hb1.size
  have HZ0 := Lib.hid hz1
  have HZ1 := Lib.hid (Nat.le_refl w1.heap.size)
  have HT1 : Hid (∀ k, T k → ((E k ∨ (w.heap.size ≤ k ∧ k < W0.heap.size)) ∨ (W0.heap.size ≤ k ∧ k < w1.heap.size))) := fun k hk => Or.inr (hTl k hk)
  have HO1 : Hid (∀ k, E k ∨ (w.heap.size ≤ k ∧ k < W0.heap.size) → ((E k ∨ (w.heap.size ≤ k ∧ k < W0.heap.size)) ∨ (W0.heap.size ≤ k ∧ k < w1.heap.size))) := fun k hk => Or.inl hk
  obtain ⟨E1, hE1⟩ : ∃ X, X = (fun k => (E k ∨ (w.heap.size ≤ k ∧ k < W0.heap.size)) ∨ (W0.heap.size ≤ k ∧ k < w1.heap.size)) := ⟨_, rfl⟩
  have HT1' : Hid (∀ k, T k → E1 k) := by rw [hE1]; exact HT1.out
  have HO1' : Hid (∀ k, E k ∨ (w.heap.size ≤ k ∧ k < W0.heap.size) → E1 k) := by rw [hE1]; exact HO1.out
  rw [← hE1] at P1
  have CF := Lib.hid (filled_any w1 9 0)
  have e5 : Ek.fln 0 = 512 := by decide
  rw [e5] at CF
  clear hT hTl hb1 hz1 hE1 e5 HT1 HO1
  go_wp2_with fail
  refine CF.out.mono ?_
  clear CF
  rintro e w2 hp
  have hS2 := hp.sl (by omega)
  obtain ⟨rfl, _, hb2, _⟩ := hp
  have CW := Lib.hid (ly_write_t P1.out.ly hb2 0 _ _ hS2 (fun g off spot len cap e => by injection e with e1 _ _; injection e1 with e1; injection e1 with e1 _ _; exact Or.inr (by omega)) (by have := HU.out; omega))
  have P2 := Lib.hid (P1.out.later hb2)
  have T2 := Lib.hid (T1.out.later hb2)
  have M2 := Lib.hid (M1.out.later hb2)
  have Z2 := Lib.hid (Z1.out.later hb2)
  have HZ2 := Lib.hid (Nat.le_trans HZ1.out hb2.size)
  clear hS2 hb2 P1 T1 M1 Z1
  generalize Ek.write d 0 (Ek.fil 9 512) = dx at CW
  go_wp2_with fail
  refine CW.out.mono ?_
  clear CW
  rintro e w3 ⟨hp, ht⟩
  obtain ⟨rfl, O3⟩ := P2.out.prog hp
  have T3 := Lib.hid (T2.out.tch ht (fun k hk hn => hn (HT1'.out k hk)))
  have M3 := Lib.hid (M2.out.tch ht (fun hn => hn (HO1'.out _ (Or.inr (by have := HS.out; omega)))))
  have Z3 := Lib.hid (Z2.out.tch ht (fun hn => hn (HO1'.out _ HEZ.out)))
  have HZ3 := Lib.hid (Nat.le_trans HZ2.out ht.size)
  have hb4 := below1 w3 (.cells #[.int .i64 1, .int .i64 1, .int .i64 1] 3)
  have P4 := Lib.hid (O3.later hb4)
  have T4 := Lib.hid (T3.out.later hb4)
  have M4 := Lib.hid (M3.out.later hb4)
  have Z4 := Lib.hid (Z3.out.later hb4)
  have HZ4 := Lib.hid (Nat.le_trans HZ3.out hb4.size)
  have HKS : Ks (w3.alloc (.cells #[.int .i64 1, .int .i64 1, .int .i64 1] 3)) (.slice (some ⟨w3.heap.size, 0, none⟩) 3 3) [1, 1, 1] := by
    refine ⟨_, 3, rfl, by simp, by simp, fun _ => ⟨w3.heap.size, 0, rfl, fun i hi => ?_⟩⟩
    rw [(Has.new w3 (.cells #[.int .i64 1, .int .i64 1, .int .i64 1] 3)).cell]
    have hi3 : i < 3 := by simpa using hi
    obtain rfl | rfl | rfl : i = 0 ∨ i = 1 ∨ i = 2 := by omega
    all_goals rfl
  have CK := Lib.hid (ly_crash_t P4.out.ly _ _ HKS)
  generalize Ek.crash dx (Ek.nth [1, 1, 1]) = dy at CK
  clear hp ht O3 hb4 HKS P2 T2 M2 Z2 T3 M3 Z3
  go_wp2_with fail
  refine CK.out.mono ?_
  clear CK
  rintro e w5 ⟨hp, ht⟩
  obtain ⟨rfl, O5⟩ := P4.out.prog hp
  have hT5 := T4.out.tch ht (fun k hk hn => hn (HT1'.out k hk))
  have D5 := below_drewN (Below.refl w5.heap.size w5) 1
  have HS3 := HS.out
  have HB5 : Below w0.heap.size w0 w5 := O5.below
  have hz6 : w1.heap.size ≤ w5.heap.size := Nat.le_trans HZ4.out ht.size
  have hz5 : W0.heap.size ≤ w5.heap.size := Nat.le_trans HZ0.out hz6
  have hw0 := O5.from'
  have B00 := P0.out.below.size
  have O6 := Lib.hid (show Bo w0 w5.drew c2 d _ d (fun k => w0.heap.size ≤ k ∧ k < W0.heap.size) G F w from
    ⟨⟨T, hT5.later D5, fun k hk => ⟨by have := (TT.out k hk).1; omega, by
        show k < w5.heap.size
        have := (TT.out k hk).2; omega, fun h => by have := (TT.out k hk).1; omega⟩, fun k hk => by show k < w5.heap.size; omega, below_drewN HB5 1⟩,
     O5.doc.later D5, fun k hk => ⟨hw0 k (O5.sub k hk), by have := HG.out k hk; omega⟩, fun k hk => hk.1, fun k hk => ⟨(O5.fr k hk).1, ⟨hw0 k (O5.fr k hk).2.1, by have := (O5.fr k hk).1; omega⟩, (O5.fr k hk).2.2⟩⟩)
  have T6 : Has w5.drew w.heap.size (.cells #[.slice xa xn xc, .slice xl xm xk, .int .i64 xf, .bool xd] 40) ∧ True := ⟨(M4.out.tch ht (fun hn => hn (HO1'.out _ (Or.inr (by omega))))).later D5, trivial⟩
  have Z6 := Lib.hid (show Has w5.drew (w.heap.size + 2) (.cells #[.slice none 0 0, .slice none 0 0, .int .i64 0, .bool false] 40) from (Z4.out.tch ht (fun hn => hn (HO1'.out _ HEZ.out))).later D5)
  have HEz : Hid (w0.heap.size ≤ w.heap.size + 2 ∧ w.heap.size + 2 < W0.heap.size) := by
    have := (P0.out.from' _ HEZ.out); exact ⟨this, by omega⟩
  have HGz : Hid (¬ G (w.heap.size + 2)) := fun h => by have := HG.out _ h; omega
  have HM4 : Hid ((w.heap.size : Nat) ≠ w.heap.size + 2) := by show _ ≠ _; omega
  clear hp ht O5 hT5 D5 HS3 HB5 hz5 hz6 hw0 B00
  go_wp2_with fail
  refine wp_region_held_drew (S := fun wx => Has wx w.heap.size (.cells #[.slice xa xn xc, .slice xl xm xk, .int .i64 xf, .bool xd] 40) ∧ True) (by kernel_rfl) T6 (fun _ => ?_)
  change wpAnyH _ _ _ _ _ 7 (Array.replicate 7 false) _ _
  refine wpAnyH_take (i := 0) (v := ?_) rfl (by kernel_rfl) (by kernel_rfl) (by kernel_rfl) (fun _ _ _ h => h) (Or.inl ⟨rfl, ?hy0⟩) T6 ?_
  case hy0 => intro w' hw'; clear hw'; go_simp; first | done | rfl
  try simp only [Act.put, List.getElem_toArray, List.getElem_cons_zero, List.setIfInBounds_toArray, List.set_cons_zero, List.set_cons_succ]
  refine wpAnyH_take (i := 1) (v := .agg #[.slice xa xn xc, .slice xl xm xk, .int .i64 xf, .bool xd]) rfl (by kernel_rfl) (by kernel_rfl) (by kernel_rfl) (fun _ _ _ h => h) (Or.inl ⟨rfl, ?hy1⟩) T6 ?_
  case hy1 =>
    intro w' hw'
    exact exec_row (.tmp 4) rfl w.heap.size rfl 40 _ (0, 0) _ hw'.1 Try.underlying40 rfl Try.infoDisk4
  try simp only [Act.put, List.getElem_toArray, List.getElem_cons_zero, List.getElem_cons_succ, List.setIfInBounds_toArray, List.set_cons_zero, List.set_cons_succ]
  refine wpAnyH_take (i := 2) (v := ?_) rfl (by kernel_rfl) (by kernel_rfl) (by kernel_rfl) (fun _ _ _ h => h) (Or.inl ⟨rfl, ?hy2⟩) T6 ?_
  case hy2 => intro w' hw'; clear hw'; go_simp; first | done | rfl
  try simp only [Act.put, List.getElem_toArray, List.getElem_cons_zero, List.getElem_cons_succ, List.setIfInBounds_toArray, List.set_cons_zero, List.set_cons_succ]
  refine wpAnyH_take (i := 3) (v := ?_) rfl (by kernel_rfl) (by kernel_rfl) (by kernel_rfl) (fun _ _ _ h => h) (Or.inl ⟨rfl, ?hy3⟩) T6 ?_
  case hy3 => intro w' hw'; clear hw'; go_simp; first | done | rfl
  try simp only [Act.put, List.getElem_toArray, List.getElem_cons_zero, List.getElem_cons_succ, List.setIfInBounds_toArray, List.set_cons_zero, List.set_cons_succ]
  refine wpAnyH_take (i := 4) (v := ?_) rfl (by kernel_rfl) (by kernel_rfl) (by kernel_rfl) (fun _ _ _ h => h) (Or.inl ⟨rfl, ?hy4⟩) T6 ?_
  case hy4 => intro w' hw'; clear hw'; go_simp; first | done | rfl
  try simp only [Act.put, List.getElem_toArray, List.getElem_cons_zero, List.getElem_cons_succ, List.setIfInBounds_toArray, List.set_cons_zero, List.set_cons_succ]
  have i1 : Has (w5.drew.setRow (w.heap.size + 2) #[.slice xa xn xc, .slice xl xm xk, .int .i64 xf, .bool xd]) w.heap.size (.cells #[.slice xa xn xc, .slice xl xm xk, .int .i64 xf, .bool xd] 40) ∧ True := ⟨has_row T6.1 (fun hh => HM4.out hh.symm) _, trivial⟩
  refine wpAnyH_ready (rs := [5]) (by kernel_rfl) (by simp) ?_
  refine AllReadyH.cons rfl (fun K hK => ?_) AllReadyH.nil
  rw [if_pos (by rfl)]
  refine wp_store_row 40 _ _ rfl (w.heap.size + 2) #[.slice xa xn xc, .slice xl xm xk, .int .i64 xf, .bool xd] rfl rfl 40 _ Z6.out Try.infoDisk4 rfl (by simp [Value.oneCell']) ?_
  refine hK.out _ _ i1 (fun _ => ?_)
  clear hK K
  try simp only [Act.put, List.getElem_toArray, List.getElem_cons_zero, List.getElem_cons_succ]
  refine wpAnyH_take (i := 6) (v := ?_) rfl (by kernel_rfl) (by kernel_rfl) (by kernel_rfl) (fun _ _ _ h => h) (Or.inl ⟨rfl, ?hy6⟩) i1 ?_
  case hy6 => intro w' hw'; clear hw'; go_simp; first | done | rfl
  try simp only [Act.put, List.getElem_toArray, List.getElem_cons_zero, List.getElem_cons_succ, List.setIfInBounds_toArray, List.set_cons_zero, List.set_cons_succ]
  refine wpAnyH_done (by kernel_rfl) ?_ _
  go_wp2
  refine bodyPost_ret (results_tct rfl _ _ (w.heap.size + 2) 40 _ (0, 0) _ rfl (setRow_heap _ _ _ #[.slice xa xn xc, .slice xl xm xk, .int .i64 xf, .bool xd] _ _ Z6.out) Try.underlying40 rfl Try.infoDisk4) rfl ?_
  exact StP.of O6.out (w.heap.size + 2) HEz.out HGz.out (by omega) _
end Go.Proofs.Ytillckjohlbaiaa
