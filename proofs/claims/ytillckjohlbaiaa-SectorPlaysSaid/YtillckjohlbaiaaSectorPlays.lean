/- The statement SectorPlays: whatever is done, the program's disk and the document's answer alike and have the same. It holds for every input within the model's capacity, without a further condition. -/
import Derived.Test.YtillckjohlbaiaaYst
import Derived.Test.YtillckjohlbaiaaElive

namespace Go.Proofs.Ytillckjohlbaiaa
set_option maxRecDepth 100000
open Go.ChangeShapes Go.WideShapes Go.ChangeAt Go.RowKit

theorem Ek.fresh_used (n : Nat) : (Ek.fresh n).used = 0 := rfl

set_option maxRecDepth 100000 in
set_option maxHeartbeats 8000000 in
theorem plays_bad (n : Int) (h : n < 1 ∨ 8192 < n) (a : Option Addr) (L cap : Nat) (w : World) :
    Calls Try.prog 4 #[.int .i64 n, .slice a L cap] w fun e w' => e = .returned (.bool true) ∧ Below w.heap.size w w' := by
  have C1 := Lib.hid (new_bad w n h)
  have C2 := Lib.hid (rdisk_new_bad w n h)
  clear h
  go_enter Try.func4, Try.ntmps4
  go_wp2_with fail
  refine C1.out.mono ?_
  rintro e w' ⟨rfl, rfl⟩
  clear C1
  go_wp2_with fail
  refine C2.out.mono ?_
  rintro e w2 ⟨rfl, hb2⟩
  clear C2
  have B3 := Lib.hid (hb2.trans ((below1 w2 (.cells #[.slice none 0 0, .slice none 0 0, .int .i64 0, .bool false] 40)).mono hb2.size))
  clear hb2
  have LV := Lib.hid (lives_is (w2.alloc (.cells #[.slice none 0 0, .slice none 0 0, .int .i64 0, .bool false] 40)))
  go_wp2_with fail
  refine LV.out.mono ?_
  rintro e w4 ⟨rfl, hb4⟩
  go_wp2_with fail
  go_ret
  exact ⟨rfl, B3.out.trans (hb4.mono B3.out.size)⟩

set_option maxRecDepth 100000 in
set_option maxHeartbeats 8000000 in
theorem plays_many (n : Nat) (h1 : 1 ≤ n) (h2 : n ≤ 8192) (a : Option Addr) (L cap : Nat) (hL : 40 < n ∨ 40 < L) (w : World) :
    Calls Try.prog 4 #[.int .i64 (n : Int), .slice a L cap] w fun e w' => e = .returned (.bool true) ∧ Below w.heap.size w w' := by
  have C1 := Lib.hid (lv_new (Below.refl w.heap.size w) n h1 h2)
  have C2 : Hid (∀ W, Calls Try.prog 14 #[.int .i64 (n : Int)] W fun e w' => (∃ v', e = .returned (.tuple #[v', .int .i64 0]) ∧ DDk w' (fun q => W.heap.size ≤ q) v' (Ek.fresh n)) ∧ Below W.heap.size W w') := fun W => rdisk_new W n h1 h2
  have hnn : ((n : Int) == (n : Int)) = true := by simp
  have hL' : decide ((40 : Int) < (n : Int)) = true ∨ (decide ((40 : Int) < (n : Int)) = false ∧ decide ((40 : Int) < (L : Int)) = true) := by
    by_cases h : 40 < n
    · exact Or.inl (decide_eq_true (by omega))
    · exact Or.inr ⟨decide_eq_false (by omega), decide_eq_true (by omega)⟩
  have HL := Lib.hid hL
  clear h1 h2 hL
  go_enter Try.func4, Try.ntmps4
  go_wp2_with fail
  refine C1.out.mono ?_
  rintro e w1 ⟨b, rfl, H1⟩
  have H1' := Lib.hid H1
  clear C1 H1
  go_wp2_with fail
  refine (C2.out w1).mono ?_
  rintro e w2 ⟨⟨v2, rfl, hd2⟩, hb2⟩
  obtain ⟨ya, yn, yc, yl, ym, yk, yf, yd, rfl⟩ := hd2.four
  have H3 := Lib.hid ((H1'.out.later hb2).later (below1 w2 (.cells #[.slice ya yn yc, .slice yl ym yk, .int .i64 yf, .bool yd] 40)))
  have LN := Lib.hid (lv_len H3.out)
  have LV := Lib.hid (lives_is (w2.alloc (.cells #[.slice ya yn yc, .slice yl ym yk, .int .i64 yf, .bool yd] 40)))
  have B3 := Lib.hid H3.out.below
  clear C2 hd2 hb2 H1' H3
  rcases hL' with c1 | ⟨c1, c2⟩
  all_goals
    go_wp2_with fail
    refine LN.out.mono ?_
    rintro e w4 ⟨rfl, rfl⟩
    go_wp2_with fail
    refine LV.out.mono ?_
    rintro e w5 ⟨rfl, hb5⟩
    go_wp2_with fail
    go_ret
    exact ⟨rfl, B3.out.trans (hb5.mono B3.out.size)⟩

set_option maxRecDepth 100000 in
set_option maxHeartbeats 8000000 in
theorem plays_main (n : Nat) (h1 : 1 ≤ n) (h40 : n ≤ 40) (v : Value) (l : List Ac) (w : World) (hl : Acts w v l) (hl8 : ∀ ac ∈ l, Ks8 ac) (hl40 : l.length ≤ 40) :
    Calls Try.prog 4 #[.int .i64 (n : Int), v] w fun e w' => e = .returned (.bool true) ∧ Below w.heap.size w w' := by
  have C1 := Lib.hid (lv_new (Below.refl w.heap.size w) n h1 (by omega))
  have C2 : Hid (∀ W, Calls Try.prog 14 #[.int .i64 (n : Int)] W fun e w' => (∃ v', e = .returned (.tuple #[v', .int .i64 0]) ∧ DDk w' (fun q => W.heap.size ≤ q) v' (Ek.fresh n)) ∧ Below W.heap.size W w') := fun W => rdisk_new W n h1 (by omega)
  obtain ⟨a, cap, rfl, h9, hat⟩ := hl
  have HAT : Hid (∀ k ac, l[k]? = some ac → ∃ b off, a = some ⟨b, off, none⟩ ∧ ∀ w', Below w.heap.size w w' → AcAt w' b (off + k * 5) ac) := fun k ac hk => by
    have hkl := (List.getElem?_eq_some_iff.1 hk).1
    obtain ⟨b, off, ha, hc⟩ := hat (by omega)
    exact ⟨b, off, ha, fun w' hb => (hc k ac hk).keep' (keepA_below hb)⟩
  have HK8 := Lib.hid hl8
  have c1 : decide ((40 : Int) < (n : Int)) = false := decide_eq_false (by omega)
  have c2 : decide ((40 : Int) < (l.length : Int)) = false := decide_eq_false (by omega)
  have c1' : ¬ (40 < n) := by omega
  have c2' : ¬ (40 < l.length) := by omega
  obtain ⟨L, hL⟩ : ∃ L, L = l.length := ⟨_, rfl⟩
  have HL := Lib.hid hL
  rw [← hL] at hl40 c2 c2' ⊢
  clear h1 h40 hat hl8 hL h9
  go_enter Try.func4, Try.ntmps4
  go_wp2_with fail
  refine C1.out.mono ?_
  rintro e w1 ⟨b, rfl, H1⟩
  have H1' := Lib.hid H1
  clear C1 H1
  go_wp2_with fail
  refine (C2.out w1).mono ?_
  rintro e w2 ⟨⟨v2, rfl, hd2⟩, hb2⟩
  obtain ⟨xa, xn, xc, xl, xm, xk, xf, xd, rfl⟩ := hd2.four
  obtain ⟨W3, hW3⟩ : ∃ W, W = w2.alloc (.cells #[.slice xa xn xc, .slice xl xm xk, .int .i64 xf, .bool xd] 40) := ⟨_, rfl⟩
  have hb3 : Below w2.heap.size w2 W3 := by rw [hW3]; exact below1 w2 _
  have hs3 : W3.heap.size = w2.heap.size + 1 := by rw [hW3]; simp
  have hw1 := H1'.out.below.size
  have hz2 := hb2.size
  have O2 : Bo w w2 b (Ek.fresh n) (.agg #[.slice xa xn xc, .slice xl xm xk, .int .i64 xf, .bool xd]) (Ek.fresh n) (fun k => False ∨ (w1.heap.size ≤ k ∧ k < w2.heap.size)) (fun k => w1.heap.size ≤ k ∧ k < w2.heap.size) (fun _ => False) w :=
    ⟨H1'.out.ly.new hb2, hd2.lo.mono (fun q hq => hq), fun k hk => Or.inr hk, fun k hk => by rcases hk with h | h; exact h.elim; omega, fun _ h => h.elim⟩
  have P3 := Lib.hid (O2.new hb3)
  obtain ⟨B7, hB7⟩ : ∃ B, B = w2.heap.size := ⟨_, rfl⟩
  have T3 := Lib.hid (show Has W3 B7 (.cells #[.slice xa xn xc, .slice xl xm xk, .int .i64 xf, .bool xd] 40) by rw [hW3, hB7]; exact Has.new w2 _)
  have HE3 : Hid (((False ∨ (w1.heap.size ≤ B7 ∧ B7 < w2.heap.size)) ∨ (w2.heap.size ≤ B7 ∧ B7 < W3.heap.size)) ∧ ¬ (w1.heap.size ≤ B7 ∧ B7 < w2.heap.size)) := ⟨Or.inr (by omega), by omega⟩
  have HW2 := Lib.hid (show w.heap.size ≤ B7 by omega)
  have HB7 := Lib.hid hB7
  have V3 := Lib.hid hW3
  have HU3 := Lib.hid (show (Ek.fresh n).used ≤ 0 from Nat.le_refl _)
  clear hW3 hb3 hs3 hw1 hz2 O2 hd2 hb2 H1' C2 hB7
  generalize Ek.fresh n = d0 at P3 HU3
  go_wp2_with fail
  rw [← V3.out]
  clear V3 c1 c2 c1' c2'
  rw [← HB7.out]
  go_loopw [5, 9] (fun s5 s9 wr => ∃ (i b : Nat) (d : Ek.Dk) (xa : Option Addr) (xn xc : Nat) (xl : Option Addr) (xm xk : Nat) (xf : Int) (xd : Bool) (E G : Nat → Prop), s5 = .pointer (some ⟨b, 0, none⟩) ∧ s9 = .int .i64 (i : Int) ∧ i ≤ L ∧ Hid (Bo w wr b d (.agg #[.slice xa xn xc, .slice xl xm xk, .int .i64 xf, .bool xd]) d E G (fun _ => False) w) ∧ Hid (Has wr B7 (.cells #[.slice xa xn xc, .slice xl xm xk, .int .i64 xf, .bool xd] 40)) ∧ Hid (E B7 ∧ ¬ G B7) ∧ Hid (d.used ≤ i)) (fun _ s9 _ => L - (intOf s9).toNat)
  case atStart => exact ⟨0, b, d0, xa, xn, xc, xl, xm, xk, xf, xd, _, _, rfl, by go_num, Nat.zero_le _, P3, T3, HE3, HU3⟩
  clear P3 T3 HE3 HU3
  case round =>
    obtain ⟨i, b, d, xa, xn, xc, xl, xm, xk, xf, xd, E, G, rfl, rfl, hi, KP, KT, KE, KU⟩ := hrel
    by_cases hlt : i < L
    · have j0 : decide ((i : Int) < (L : Int)) = true := decide_eq_true (by omega)
      have j1 : (0 : Int) ≤ (i : Int) := by omega
      have j2 : (i : Int) < (L : Int) := by omega
      have j3 : (i : Int) ≤ 40 := by omega
      obtain ⟨ac, hac⟩ : ∃ ac, l[i]? = some ac := ⟨_, List.getElem?_eq_getElem (by rw [← HL.out]; exact hlt)⟩
      obtain ⟨ba, oa, rfl, hcells⟩ := HAT.out i ac hac
      have HCL := Lib.hid hcells
      have HA8 := Lib.hid (HK8.out ac (List.mem_of_getElem? hac))
      have D0 := below_drewN (Below.refl wr.heap.size wr) 1
      have P0 := Lib.hid (show Bo w wr.drew b d _ d E G _ _ from KP.out.later D0)
      have i0 : Has wr.drew B7 (.cells #[.slice xa xn xc, .slice xl xm xk, .int .i64 xf, .bool xd] 40) ∧ Below w.heap.size w wr.drew := ⟨KT.out.later D0, P0.out.below⟩
      have hu : Hid (d.used ≤ 900) := by have := KU.out; show _ ≤ _; omega
      have HLT := Lib.hid hlt
      have HAC := Lib.hid (hcells wr.drew i0.2)
      clear hac hcells D0 KP KT hlt
      go_wp2_with fail
      refine wp_region_held_drew (S := fun wx => Has wx B7 (.cells #[.slice xa xn xc, .slice xl xm xk, .int .i64 xf, .bool xd] 40) ∧ Below w.heap.size w wx) (by kernel_rfl) i0 (fun _ => ?_)
      change wpAnyH _ _ _ _ _ 15 (Array.replicate 15 false) _ _
      refine wpAnyH_take (i := 0) (v := ?_) rfl (by kernel_rfl) (by kernel_rfl) (by kernel_rfl) (fun _ _ _ h => h) (Or.inl ⟨rfl, ?hy0⟩) i0 ?_
      case hy0 => intro w' hw'; clear hw'; go_simp; first | done | rfl
      try simp only [Act.put, List.getElem_toArray, List.getElem_cons_zero, List.setIfInBounds_toArray, List.set_cons_zero, List.set_cons_succ]
      refine wpAnyH_take (i := 1) (v := .agg #[.slice xa xn xc, .slice xl xm xk, .int .i64 xf, .bool xd]) rfl (by kernel_rfl) (by kernel_rfl) (by kernel_rfl) (fun _ _ _ h => h) (Or.inl ⟨rfl, ?hy1⟩) i0 ?_
      case hy1 =>
        intro w' hw'
        exact exec_row (.tmp 7) rfl B7 rfl 40 _ (0, 0) _ hw'.1 Try.underlying40 rfl Try.infoDisk4
      try simp only [Act.put, List.getElem_toArray, List.getElem_cons_zero, List.getElem_cons_succ, List.setIfInBounds_toArray, List.set_cons_zero, List.set_cons_succ]
      refine wpAnyH_take (i := 2) (v := ?_) rfl (by kernel_rfl) (by kernel_rfl) (by kernel_rfl) (fun _ _ _ h => h) (Or.inl ⟨rfl, ?hy2⟩) i0 ?_
      case hy2 => intro w' hw'; clear hw'; go_simp; first | done | rfl
      try simp only [Act.put, List.getElem_toArray, List.getElem_cons_zero, List.getElem_cons_succ, List.setIfInBounds_toArray, List.set_cons_zero, List.set_cons_succ]
      refine wpAnyH_take (i := 3) (v := ?_) rfl (by kernel_rfl) (by kernel_rfl) (by kernel_rfl) (fun _ _ _ h => h) (Or.inl ⟨rfl, ?hy3⟩) i0 ?_
      case hy3 => intro w' hw'; clear hw'; go_simp; first | done | rfl
      try simp only [Act.put, List.getElem_toArray, List.getElem_cons_zero, List.getElem_cons_succ, List.setIfInBounds_toArray, List.set_cons_zero, List.set_cons_succ]
      refine wpAnyH_take (i := 4) (v := ?_) rfl (by kernel_rfl) (by kernel_rfl) (by kernel_rfl) (fun _ _ _ h => h) (Or.inl ⟨rfl, ?hy4⟩) i0 ?_
      case hy4 => intro w' hw'; clear hw'; go_simp; first | done | rfl
      try simp only [Act.put, List.getElem_toArray, List.getElem_cons_zero, List.getElem_cons_succ, List.setIfInBounds_toArray, List.set_cons_zero, List.set_cons_succ]
      refine wpAnyH_take (i := 5) (v := ?_) rfl (by kernel_rfl) (by kernel_rfl) (by kernel_rfl) (fun _ _ _ h => h) (Or.inl ⟨rfl, ?hy5⟩) i0 ?_
      case hy5 => intro w' hw'; obtain ⟨f0, f1, f2, f3, f4, -, -, -, -, -⟩ := HCL.out w' hw'.2; clear hw'; go_simp; first | done | rfl
      try simp only [Act.put, List.getElem_toArray, List.getElem_cons_zero, List.getElem_cons_succ, List.setIfInBounds_toArray, List.set_cons_zero, List.set_cons_succ]
      refine wpAnyH_ready (rs := [6, 11]) (by kernel_rfl) (by simp) ?_
      refine AllReadyH.cons rfl (fun K hK => ?_) (AllReadyH.cons rfl (fun K hK => ?_) AllReadyH.nil)
      · have hB7l : B7 < wr.drew.heap.size := P0.out.ly.lt B7 KE.out.1
        have ST := step_any (P0.out.base (fun k => k = B7) (fun k hk => by subst hk; exact KE.out)) hu.out ac HAC.out.ks HA8.out HAC.out.c8 HAC.out.bi.2
        go_simp
        refine ST.mono ?_
        clear ST
        rintro e w2 ⟨b2, v2, E2, G2, rfl, O2⟩
        obtain ⟨ya, yn, yc, yl, ym, yk, yf, yd, rfl⟩ := O2.doc.four
        obtain ⟨-, hE2, hG2, hsame⟩ := O2.fr B7 rfl
        have i2 : Has w2 B7 (.cells #[.slice xa xn xc, .slice xl xm xk, .int .i64 xf, .bool xd] 40) ∧ Below w.heap.size w w2 := ⟨hsame.trans i0.1, O2.below⟩
        have b3 := below1 w2 (.cells #[.slice none 0 0, .slice none 0 0, .int .i64 0, .bool false] 40)
        have i3 : Has (w2.alloc (.cells #[.slice none 0 0, .slice none 0 0, .int .i64 0, .bool false] 40)) B7 (.cells #[.slice xa xn xc, .slice xl xm xk, .int .i64 xf, .bool xd] 40) ∧ Below w.heap.size w (w2.alloc (.cells #[.slice none 0 0, .slice none 0 0, .int .i64 0, .bool false] 40)) := ⟨i2.1.later b3, i2.2.trans (b3.mono i2.2.size)⟩
        have hlt2 := O2.ly.lt B7 hE2
        have hw2 := O2.below.size
        have n3 : Has (w2.alloc (.cells #[.slice none 0 0, .slice none 0 0, .int .i64 0, .bool false] 40)) w2.heap.size (.cells #[.slice none 0 0, .slice none 0 0, .int .i64 0, .bool false] 40) := Has.new w2 _
        have i5 : Has ((w2.alloc (.cells #[.slice none 0 0, .slice none 0 0, .int .i64 0, .bool false] 40)).setRow w2.heap.size #[.slice ya yn yc, .slice yl ym yk, .int .i64 yf, .bool yd]) B7 (.cells #[.slice xa xn xc, .slice xl xm xk, .int .i64 xf, .bool xd] 40) ∧ Below w.heap.size w ((w2.alloc (.cells #[.slice none 0 0, .slice none 0 0, .int .i64 0, .bool false] 40)).setRow w2.heap.size #[.slice ya yn yc, .slice yl ym yk, .int .i64 yf, .bool yd]) := ⟨has_row i3.1 (by omega) _, below_setRow i3.2 (by omega) _⟩
        have O3 := (O2.new b3).none w
        have hz3 : (w2.alloc (.cells #[.slice none 0 0, .slice none 0 0, .int .i64 0, .bool false] 40)).heap.size = w2.heap.size + 1 := by simp
        have P5 := Lib.hid (O3.tch w2.heap.size (Or.inr (by omega)) (fun h => by have := O2.ly.lt _ (O2.sub _ h); omega) (by omega) (tch_row (w2.alloc (.cells #[.slice none 0 0, .slice none 0 0, .int .i64 0, .bool false] 40)) w2.heap.size #[.slice ya yn yc, .slice yl ym yk, .int .i64 yf, .bool yd]))
        have T5 := Lib.hid (show Has ((w2.alloc (.cells #[.slice none 0 0, .slice none 0 0, .int .i64 0, .bool false] 40)).setRow w2.heap.size #[.slice ya yn yc, .slice yl ym yk, .int .i64 yf, .bool yd]) w2.heap.size (.cells #[.slice ya yn yc, .slice yl ym yk, .int .i64 yf, .bool yd] 40) from setRow_heap _ _ _ _ _ _ n3)
        have Z5 := Lib.hid i5.1
        have HE5 : Hid ((E2 B7 ∨ (w2.heap.size ≤ B7 ∧ B7 < (w2.alloc (.cells #[.slice none 0 0, .slice none 0 0, .int .i64 0, .bool false] 40)).heap.size)) ∧ ¬ G2 B7) := ⟨Or.inl hE2, hG2⟩
        have HNX := Lib.hid (show w2.heap.size ≠ B7 by omega)
        clear hsame hE2 hG2 b3 hlt2 hw2 O3 O2 hB7l hz3
        dsimp only
        refine hK.out _ _ i2 (fun _ => ?_)
        clear hK K
        try simp only [Act.put, List.getElem_toArray, List.getElem_cons_zero, List.getElem_cons_succ, List.setIfInBounds_toArray, List.set_cons_zero, List.set_cons_succ]
        refine wpAnyH_take (i := 7) (v := ?_) rfl (by kernel_rfl) (by kernel_rfl) (by kernel_rfl) (fun _ _ _ h => h) (Or.inl ⟨rfl, ?hy7⟩) i2 ?_
        case hy7 => intro w' hw'; clear hw'; go_simp; first | done | rfl
        try simp only [Act.put, List.getElem_toArray, List.getElem_cons_zero, List.getElem_cons_succ, List.setIfInBounds_toArray, List.set_cons_zero, List.set_cons_succ]
        refine wpAnyH_take (i := 8) (v := ?_) rfl (by kernel_rfl) (by kernel_rfl) (by kernel_rfl) (fun _ _ _ h => h) (Or.inl ⟨rfl, ?hy8⟩) i2 ?_
        case hy8 => intro w' hw'; clear hw'; go_simp; first | done | rfl
        try simp only [Act.put, List.getElem_toArray, List.getElem_cons_zero, List.getElem_cons_succ, List.setIfInBounds_toArray, List.set_cons_zero, List.set_cons_succ]
        refine wpAnyH_take (i := 9) (v := ?_) rfl (by kernel_rfl) (by kernel_rfl) (by kernel_rfl) (fun _ _ _ h => h) (Or.inl ⟨rfl, ?hy9⟩) i2 ?_
        case hy9 => intro w' hw'; clear hw'; go_simp; first | done | rfl
        try simp only [Act.put, List.getElem_toArray, List.getElem_cons_zero, List.getElem_cons_succ, List.setIfInBounds_toArray, List.set_cons_zero, List.set_cons_succ]
        refine wpAnyH_take (i := 10) (v := ?_) rfl (by kernel_rfl) (by kernel_rfl) (by kernel_rfl) (fun _ _ _ h => h) (Or.inl ⟨rfl, ?hy10⟩) i2 ?_
        case hy10 => intro w' hw'; clear hw'; go_simp; first | done | rfl
        try simp only [Act.put, List.getElem_toArray, List.getElem_cons_zero, List.getElem_cons_succ, List.setIfInBounds_toArray, List.set_cons_zero, List.set_cons_succ]
        refine wpAnyH_ready (rs := [11]) (by kernel_rfl) (by simp) ?_
        refine AllReadyH.cons rfl (fun K hK => ?_) AllReadyH.nil
        go_simp
        refine hK.out _ _ i3 (fun _ => ?_)
        clear hK K
        try simp only [Act.put, List.getElem_toArray, List.getElem_cons_zero, List.getElem_cons_succ, List.setIfInBounds_toArray, List.set_cons_zero, List.set_cons_succ]
        refine wpAnyH_take (i := 12) (v := ?_) rfl (by kernel_rfl) (by kernel_rfl) (by kernel_rfl) (fun _ _ _ h => h) (Or.inl ⟨rfl, ?hy12⟩) i3 ?_
        case hy12 => intro w' hw'; clear hw'; go_simp; first | done | rfl
        try simp only [Act.put, List.getElem_toArray, List.getElem_cons_zero, List.getElem_cons_succ, List.setIfInBounds_toArray, List.set_cons_zero, List.set_cons_succ]
        refine wpAnyH_ready (rs := [13]) (by kernel_rfl) (by simp) ?_
        refine AllReadyH.cons rfl (fun K hK => ?_) AllReadyH.nil
        rw [if_pos (by rfl)]
        refine wp_store_row 40 _ _ rfl w2.heap.size #[.slice ya yn yc, .slice yl ym yk, .int .i64 yf, .bool yd] rfl rfl 40 _ n3 Try.infoDisk4 rfl (by simp [Value.oneCell']) ?_
        refine hK.out _ _ i5 (fun _ => ?_)
        clear hK K
        try simp only [Act.put, List.getElem_toArray, List.getElem_cons_zero, List.getElem_cons_succ]
        refine wpAnyH_take (i := 14) (v := ?_) rfl (by kernel_rfl) (by kernel_rfl) (by kernel_rfl) (fun _ _ _ h => h) (Or.inl ⟨rfl, ?hy14⟩) i5 ?_
        case hy14 => intro w' hw'; clear hw'; go_simp; first | done | rfl
        try simp only [Act.put, List.getElem_toArray, List.getElem_cons_zero, List.getElem_cons_succ, List.setIfInBounds_toArray, List.set_cons_zero, List.set_cons_succ]
        obtain ⟨w5, hw5⟩ : ∃ W, W = (w2.alloc (.cells #[.slice none 0 0, .slice none 0 0, .int .i64 0, .bool false] 40)).setRow w2.heap.size #[.slice ya yn yc, .slice yl ym yk, .int .i64 yf, .bool yd] := ⟨_, rfl⟩
        obtain ⟨X5, hX5⟩ : ∃ X, X = w2.heap.size := ⟨_, rfl⟩
        rw [← hw5] at P5 T5 Z5 ⊢
        rw [← hX5] at T5 HNX ⊢
        clear hw5 hX5 i0 i2 i3 i5 n3
        refine wpAnyH_done (by kernel_rfl) ?_ _
        have t0 := (T5.out.cell 0 : _ = some (Value.slice ya yn yc))
        have t1 := (T5.out.cell 1 : _ = some (Value.slice yl ym yk))
        have t2 := (T5.out.cell 2 : _ = some (Value.int .i64 yf))
        have t3 := (T5.out.cell 3 : _ = some (Value.bool yd))
        have AL := Lib.hid (alike_any P5.out)
        go_wp2_with fail
        refine AL.out.mono ?_
        clear AL t0 t1 t2 t3
        rintro e w6 ⟨rfl, hb6⟩
        have D6 := below_drewN (Below.refl w6.heap.size w6) 1
        have P6 := Lib.hid (((P5.out.later hb6).later D6).none w)
        have i6 : Has w6.drew X5 (.cells #[.slice ya yn yc, .slice yl ym yk, .int .i64 yf, .bool yd] 40) ∧ True := ⟨(T5.out.later hb6).later D6, trivial⟩
        have Z6 := Lib.hid (show Has w6.drew B7 (.cells #[.slice xa xn xc, .slice xl xm xk, .int .i64 xf, .bool xd] 40) from (Z5.out.later hb6).later D6)
        clear hb6 D6
        go_wp2_with fail
        refine wp_region_held_drew (S := fun wx => Has wx X5 (.cells #[.slice ya yn yc, .slice yl ym yk, .int .i64 yf, .bool yd] 40) ∧ True) (by kernel_rfl) i6 (fun _ => ?_)
        change wpAnyH _ _ _ _ _ 4 (Array.replicate 4 false) _ _
        refine wpAnyH_take (i := 0) (v := ?_) rfl (by kernel_rfl) (by kernel_rfl) (by kernel_rfl) (fun _ _ _ h => h) (Or.inl ⟨rfl, ?hy0⟩) i6 ?_
        case hy0 => intro w' hw'; clear hw'; go_simp; first | done | rfl
        try simp only [Act.put, List.getElem_toArray, List.getElem_cons_zero, List.setIfInBounds_toArray, List.set_cons_zero, List.set_cons_succ]
        refine wpAnyH_take (i := 1) (v := .agg #[.slice ya yn yc, .slice yl ym yk, .int .i64 yf, .bool yd]) rfl (by kernel_rfl) (by kernel_rfl) (by kernel_rfl) (fun _ _ _ h => h) (Or.inl ⟨rfl, ?hy1⟩) i6 ?_
        case hy1 =>
          intro w' hw'
          exact exec_row (.tmp 11) rfl X5 rfl 40 _ (0, 0) _ hw'.1 Try.underlying40 rfl Try.infoDisk4
        try simp only [Act.put, List.getElem_toArray, List.getElem_cons_zero, List.getElem_cons_succ, List.setIfInBounds_toArray, List.set_cons_zero, List.set_cons_succ]
        refine wpAnyH_take (i := 2) (v := ?_) rfl (by kernel_rfl) (by kernel_rfl) (by kernel_rfl) (fun _ _ _ h => h) (Or.inl ⟨rfl, ?hy2⟩) i6 ?_
        case hy2 => intro w' hw'; clear hw'; go_simp; first | done | rfl
        try simp only [Act.put, List.getElem_toArray, List.getElem_cons_zero, List.getElem_cons_succ, List.setIfInBounds_toArray, List.set_cons_zero, List.set_cons_succ]
        have i7 : Has (w6.drew.setRow B7 #[.slice ya yn yc, .slice yl ym yk, .int .i64 yf, .bool yd]) X5 (.cells #[.slice ya yn yc, .slice yl ym yk, .int .i64 yf, .bool yd] 40) ∧ True := ⟨has_row i6.1 (fun hh => HNX.out hh.symm) _, trivial⟩
        refine wpAnyH_ready (rs := [3]) (by kernel_rfl) (by simp) ?_
        refine AllReadyH.cons rfl (fun K hK => ?_) AllReadyH.nil
        rw [if_pos (by rfl)]
        refine wp_store_row 40 _ _ rfl B7 #[.slice ya yn yc, .slice yl ym yk, .int .i64 yf, .bool yd] rfl rfl 40 _ Z6.out Try.infoDisk4 rfl (by simp [Value.oneCell']) ?_
        refine hK.out _ _ i7 (fun _ => ?_)
        clear hK K
        try simp only [Act.put, List.getElem_toArray, List.getElem_cons_zero, List.getElem_cons_succ]
        refine wpAnyH_done (by kernel_rfl) ?_ _
        have P8 := Lib.hid (P6.out.tch B7 HE5.out.1 HE5.out.2 HW2.out (tch_row w6.drew B7 #[.slice ya yn yc, .slice yl ym yk, .int .i64 yf, .bool yd]))
        have T8 := Lib.hid (show Has (w6.drew.setRow B7 #[.slice ya yn yc, .slice yl ym yk, .int .i64 yf, .bool yd]) B7 (.cells #[.slice ya yn yc, .slice yl ym yk, .int .i64 yf, .bool yd] 40) from setRow_heap _ _ _ _ _ _ Z6.out)
        have hlt := HLT.out
        have KU2 := Lib.hid (show (Ek.nx d ac).used ≤ i + 1 from Nat.le_trans (Ek.nx_used d ac) (by have := KU.out; omega))
        go_wp2_with fail
        go_round
        case rel => exact ⟨i + 1, b2, Ek.nx d ac, ya, yn, yc, yl, ym, yk, yf, yd, _, _, rfl, by go_num, by omega, P8, T8, HE5, KU2⟩
        case measure => simp [intOf]; omega
      · have hB7l : B7 < wr.drew.heap.size := P0.out.ly.lt B7 KE.out.1
        have hdz : wr.drew.heap.size = wr.heap.size := rfl
        have bB : Below wr.drew.heap.size wr.drew (wr.alloc (.cells #[.slice none 0 0, .slice none 0 0, .int .i64 0, .bool false] 40)).drew := below1 wr.drew (.cells #[.slice none 0 0, .slice none 0 0, .int .i64 0, .bool false] 40)
        have hzB : (wr.alloc (.cells #[.slice none 0 0, .slice none 0 0, .int .i64 0, .bool false] 40)).drew.heap.size = wr.heap.size + 1 := by simp
        have iB : Has (wr.alloc (.cells #[.slice none 0 0, .slice none 0 0, .int .i64 0, .bool false] 40)).drew B7 (.cells #[.slice xa xn xc, .slice xl xm xk, .int .i64 xf, .bool xd] 40) ∧ Below w.heap.size w (wr.alloc (.cells #[.slice none 0 0, .slice none 0 0, .int .i64 0, .bool false] 40)).drew := ⟨i0.1.later bB, i0.2.trans (bB.mono i0.2.size)⟩
        have PB := P0.out.new bB
        have nB : Has (wr.alloc (.cells #[.slice none 0 0, .slice none 0 0, .int .i64 0, .bool false] 40)).drew wr.heap.size (.cells #[.slice none 0 0, .slice none 0 0, .int .i64 0, .bool false] 40) := Has.new wr _
        have HACB := HCL.out _ iB.2
        have ST := step_any (PB.base (fun k => k = B7 ∨ k = wr.heap.size) (fun k hk => by
          rcases hk with h | h
          · subst h; exact ⟨Or.inl KE.out.1, KE.out.2⟩
          · subst h; exact ⟨Or.inr (by omega), fun h => by have := P0.out.ly.lt _ (P0.out.sub _ h); omega⟩)) hu.out ac HACB.ks HA8.out HACB.c8 HACB.bi.2
        have ST' := Lib.hid ST
        have HRW := Lib.hid (show wr.heap.size ≠ B7 by omega)
        have HRZ := Lib.hid (show w.heap.size ≤ wr.heap.size from i0.2.size)
        clear hB7l hdz bB hzB PB HACB ST
        go_simp
        refine hK.out _ _ iB (fun _ => ?_)
        clear hK K
        try simp only [Act.put, List.getElem_toArray, List.getElem_cons_zero, List.getElem_cons_succ, List.setIfInBounds_toArray, List.set_cons_zero, List.set_cons_succ]
        refine wpAnyH_ready (rs := [6]) (by kernel_rfl) (by simp) ?_
        refine AllReadyH.cons rfl (fun K hK => ?_) AllReadyH.nil
        go_simp
        refine ST'.out.mono ?_
        clear ST'
        rintro e w2 ⟨b2, v2, E2, G2, rfl, O2⟩
        obtain ⟨ya, yn, yc, yl, ym, yk, yf, yd, rfl⟩ := O2.doc.four
        obtain ⟨-, hE2, hG2, hsame⟩ := O2.fr B7 (Or.inl rfl)
        obtain ⟨-, hEX, hGX, hsameX⟩ := O2.fr wr.heap.size (Or.inr rfl)
        have i2 : Has w2 B7 (.cells #[.slice xa xn xc, .slice xl xm xk, .int .i64 xf, .bool xd] 40) ∧ Below w.heap.size w w2 := ⟨hsame.trans iB.1, O2.below⟩
        have n2 : Has w2 wr.heap.size (.cells #[.slice none 0 0, .slice none 0 0, .int .i64 0, .bool false] 40) := hsameX.trans nB
        have i5 : Has (w2.setRow wr.heap.size #[.slice ya yn yc, .slice yl ym yk, .int .i64 yf, .bool yd]) B7 (.cells #[.slice xa xn xc, .slice xl xm xk, .int .i64 xf, .bool xd] 40) ∧ Below w.heap.size w (w2.setRow wr.heap.size #[.slice ya yn yc, .slice yl ym yk, .int .i64 yf, .bool yd]) := ⟨has_row i2.1 HRW.out _, below_setRow i2.2 HRZ.out _⟩
        have P5 := Lib.hid ((O2.none w).tch wr.heap.size hEX hGX HRZ.out (tch_row w2 wr.heap.size #[.slice ya yn yc, .slice yl ym yk, .int .i64 yf, .bool yd]))
        have T5 := Lib.hid (show Has (w2.setRow wr.heap.size #[.slice ya yn yc, .slice yl ym yk, .int .i64 yf, .bool yd]) wr.heap.size (.cells #[.slice ya yn yc, .slice yl ym yk, .int .i64 yf, .bool yd] 40) from setRow_heap _ _ _ _ _ _ n2)
        have Z5 := Lib.hid i5.1
        have HE5 : Hid (E2 B7 ∧ ¬ G2 B7) := ⟨hE2, hG2⟩
        have HNX := HRW
        clear hsame hsameX hE2 hG2 hEX hGX O2
        dsimp only
        refine hK.out _ _ i2 (fun _ => ?_)
        clear hK K
        try simp only [Act.put, List.getElem_toArray, List.getElem_cons_zero, List.getElem_cons_succ, List.setIfInBounds_toArray, List.set_cons_zero, List.set_cons_succ]
        refine wpAnyH_take (i := 7) (v := ?_) rfl (by kernel_rfl) (by kernel_rfl) (by kernel_rfl) (fun _ _ _ h => h) (Or.inl ⟨rfl, ?hy7⟩) i2 ?_
        case hy7 => intro w' hw'; clear hw'; go_simp; first | done | rfl
        try simp only [Act.put, List.getElem_toArray, List.getElem_cons_zero, List.getElem_cons_succ, List.setIfInBounds_toArray, List.set_cons_zero, List.set_cons_succ]
        refine wpAnyH_take (i := 8) (v := ?_) rfl (by kernel_rfl) (by kernel_rfl) (by kernel_rfl) (fun _ _ _ h => h) (Or.inl ⟨rfl, ?hy8⟩) i2 ?_
        case hy8 => intro w' hw'; clear hw'; go_simp; first | done | rfl
        try simp only [Act.put, List.getElem_toArray, List.getElem_cons_zero, List.getElem_cons_succ, List.setIfInBounds_toArray, List.set_cons_zero, List.set_cons_succ]
        refine wpAnyH_take (i := 9) (v := ?_) rfl (by kernel_rfl) (by kernel_rfl) (by kernel_rfl) (fun _ _ _ h => h) (Or.inl ⟨rfl, ?hy9⟩) i2 ?_
        case hy9 => intro w' hw'; clear hw'; go_simp; first | done | rfl
        try simp only [Act.put, List.getElem_toArray, List.getElem_cons_zero, List.getElem_cons_succ, List.setIfInBounds_toArray, List.set_cons_zero, List.set_cons_succ]
        refine wpAnyH_take (i := 10) (v := ?_) rfl (by kernel_rfl) (by kernel_rfl) (by kernel_rfl) (fun _ _ _ h => h) (Or.inl ⟨rfl, ?hy10⟩) i2 ?_
        case hy10 => intro w' hw'; clear hw'; go_simp; first | done | rfl
        try simp only [Act.put, List.getElem_toArray, List.getElem_cons_zero, List.getElem_cons_succ, List.setIfInBounds_toArray, List.set_cons_zero, List.set_cons_succ]
        refine wpAnyH_take (i := 12) (v := ?_) rfl (by kernel_rfl) (by kernel_rfl) (by kernel_rfl) (fun _ _ _ h => h) (Or.inl ⟨rfl, ?hy12⟩) i2 ?_
        case hy12 => intro w' hw'; clear hw'; go_simp; first | done | rfl
        try simp only [Act.put, List.getElem_toArray, List.getElem_cons_zero, List.getElem_cons_succ, List.setIfInBounds_toArray, List.set_cons_zero, List.set_cons_succ]
        refine wpAnyH_ready (rs := [13]) (by kernel_rfl) (by simp) ?_
        refine AllReadyH.cons rfl (fun K hK => ?_) AllReadyH.nil
        rw [if_pos (by rfl)]
        refine wp_store_row 40 _ _ rfl wr.heap.size #[.slice ya yn yc, .slice yl ym yk, .int .i64 yf, .bool yd] rfl rfl 40 _ n2 Try.infoDisk4 rfl (by simp [Value.oneCell']) ?_
        refine hK.out _ _ i5 (fun _ => ?_)
        clear hK K
        try simp only [Act.put, List.getElem_toArray, List.getElem_cons_zero, List.getElem_cons_succ]
        refine wpAnyH_take (i := 14) (v := ?_) rfl (by kernel_rfl) (by kernel_rfl) (by kernel_rfl) (fun _ _ _ h => h) (Or.inl ⟨rfl, ?hy14⟩) i5 ?_
        case hy14 => intro w' hw'; clear hw'; go_simp; first | done | rfl
        try simp only [Act.put, List.getElem_toArray, List.getElem_cons_zero, List.getElem_cons_succ, List.setIfInBounds_toArray, List.set_cons_zero, List.set_cons_succ]
        obtain ⟨w5, hw5⟩ : ∃ W, W = w2.setRow wr.heap.size #[.slice ya yn yc, .slice yl ym yk, .int .i64 yf, .bool yd] := ⟨_, rfl⟩
        obtain ⟨X5, hX5⟩ : ∃ X, X = wr.heap.size := ⟨_, rfl⟩
        rw [← hw5] at P5 T5 Z5 ⊢
        rw [← hX5] at T5 HNX ⊢
        clear hw5 hX5 i0 i2 i5 n2 nB iB
        refine wpAnyH_done (by kernel_rfl) ?_ _
        have t0 := (T5.out.cell 0 : _ = some (Value.slice ya yn yc))
        have t1 := (T5.out.cell 1 : _ = some (Value.slice yl ym yk))
        have t2 := (T5.out.cell 2 : _ = some (Value.int .i64 yf))
        have t3 := (T5.out.cell 3 : _ = some (Value.bool yd))
        have AL := Lib.hid (alike_any P5.out)
        go_wp2_with fail
        refine AL.out.mono ?_
        clear AL t0 t1 t2 t3
        rintro e w6 ⟨rfl, hb6⟩
        have D6 := below_drewN (Below.refl w6.heap.size w6) 1
        have P6 := Lib.hid (((P5.out.later hb6).later D6).none w)
        have i6 : Has w6.drew X5 (.cells #[.slice ya yn yc, .slice yl ym yk, .int .i64 yf, .bool yd] 40) ∧ True := ⟨(T5.out.later hb6).later D6, trivial⟩
        have Z6 := Lib.hid (show Has w6.drew B7 (.cells #[.slice xa xn xc, .slice xl xm xk, .int .i64 xf, .bool xd] 40) from (Z5.out.later hb6).later D6)
        clear hb6 D6
        go_wp2_with fail
        refine wp_region_held_drew (S := fun wx => Has wx X5 (.cells #[.slice ya yn yc, .slice yl ym yk, .int .i64 yf, .bool yd] 40) ∧ True) (by kernel_rfl) i6 (fun _ => ?_)
        change wpAnyH _ _ _ _ _ 4 (Array.replicate 4 false) _ _
        refine wpAnyH_take (i := 0) (v := ?_) rfl (by kernel_rfl) (by kernel_rfl) (by kernel_rfl) (fun _ _ _ h => h) (Or.inl ⟨rfl, ?hy0⟩) i6 ?_
        case hy0 => intro w' hw'; clear hw'; go_simp; first | done | rfl
        try simp only [Act.put, List.getElem_toArray, List.getElem_cons_zero, List.setIfInBounds_toArray, List.set_cons_zero, List.set_cons_succ]
        refine wpAnyH_take (i := 1) (v := .agg #[.slice ya yn yc, .slice yl ym yk, .int .i64 yf, .bool yd]) rfl (by kernel_rfl) (by kernel_rfl) (by kernel_rfl) (fun _ _ _ h => h) (Or.inl ⟨rfl, ?hy1⟩) i6 ?_
        case hy1 =>
          intro w' hw'
          exact exec_row (.tmp 11) rfl X5 rfl 40 _ (0, 0) _ hw'.1 Try.underlying40 rfl Try.infoDisk4
        try simp only [Act.put, List.getElem_toArray, List.getElem_cons_zero, List.getElem_cons_succ, List.setIfInBounds_toArray, List.set_cons_zero, List.set_cons_succ]
        refine wpAnyH_take (i := 2) (v := ?_) rfl (by kernel_rfl) (by kernel_rfl) (by kernel_rfl) (fun _ _ _ h => h) (Or.inl ⟨rfl, ?hy2⟩) i6 ?_
        case hy2 => intro w' hw'; clear hw'; go_simp; first | done | rfl
        try simp only [Act.put, List.getElem_toArray, List.getElem_cons_zero, List.getElem_cons_succ, List.setIfInBounds_toArray, List.set_cons_zero, List.set_cons_succ]
        have i7 : Has (w6.drew.setRow B7 #[.slice ya yn yc, .slice yl ym yk, .int .i64 yf, .bool yd]) X5 (.cells #[.slice ya yn yc, .slice yl ym yk, .int .i64 yf, .bool yd] 40) ∧ True := ⟨has_row i6.1 (fun hh => HNX.out hh.symm) _, trivial⟩
        refine wpAnyH_ready (rs := [3]) (by kernel_rfl) (by simp) ?_
        refine AllReadyH.cons rfl (fun K hK => ?_) AllReadyH.nil
        rw [if_pos (by rfl)]
        refine wp_store_row 40 _ _ rfl B7 #[.slice ya yn yc, .slice yl ym yk, .int .i64 yf, .bool yd] rfl rfl 40 _ Z6.out Try.infoDisk4 rfl (by simp [Value.oneCell']) ?_
        refine hK.out _ _ i7 (fun _ => ?_)
        clear hK K
        try simp only [Act.put, List.getElem_toArray, List.getElem_cons_zero, List.getElem_cons_succ]
        refine wpAnyH_done (by kernel_rfl) ?_ _
        have P8 := Lib.hid (P6.out.tch B7 HE5.out.1 HE5.out.2 HW2.out (tch_row w6.drew B7 #[.slice ya yn yc, .slice yl ym yk, .int .i64 yf, .bool yd]))
        have T8 := Lib.hid (show Has (w6.drew.setRow B7 #[.slice ya yn yc, .slice yl ym yk, .int .i64 yf, .bool yd]) B7 (.cells #[.slice ya yn yc, .slice yl ym yk, .int .i64 yf, .bool yd] 40) from setRow_heap _ _ _ _ _ _ Z6.out)
        have hlt := HLT.out
        have KU2 := Lib.hid (show (Ek.nx d ac).used ≤ i + 1 from Nat.le_trans (Ek.nx_used d ac) (by have := KU.out; omega))
        go_wp2_with fail
        go_round
        case rel => exact ⟨i + 1, b2, Ek.nx d ac, ya, yn, yc, yl, ym, yk, yf, yd, _, _, rfl, by go_num, by omega, P8, T8, HE5, KU2⟩
        case measure => simp [intOf]; omega
    · have j0 : decide ((i : Int) < (L : Int)) = false := decide_eq_false (by omega)
      have B9 := Lib.hid KP.out.below
      have LV := Lib.hid (lives_is wr)
      clear hi KP KT KE KU
      go_wp2_with fail
      refine LV.out.mono ?_
      rintro e w9 ⟨rfl, hb9⟩
      go_wp2_with fail
      go_ret
      exact ⟨rfl, B9.out.trans (hb9.mono B9.out.size)⟩

theorem sectorPlays_walk (n : Int) (v : Value) (l : List Ac) (w : World) (_lo : -9223372036854775808 ≤ n) (_hi : n ≤ 9223372036854775807) (hl : Acts w v l ∧ ∀ ac ∈ l, Ks8 ac) :
    Calls Try.prog 4 #[.int .i64 n, v] w fun e w' => e = .returned (.bool true) ∧ Below w.heap.size w w' := by
  by_cases h : n < 1 ∨ 8192 < n
  · obtain ⟨⟨a, cap, rfl, _, _⟩, _⟩ := hl
    exact plays_bad n h a _ cap w
  · obtain ⟨m, rfl⟩ : ∃ m : Nat, n = (m : Int) := ⟨n.toNat, by omega⟩
    by_cases h2 : 40 < m ∨ 40 < l.length
    · obtain ⟨⟨a, cap, rfl, _, _⟩, _⟩ := hl
      exact plays_many m (by omega) (by omega) a _ cap h2 w
    · exact plays_main m (by omega) (by omega) v l w hl.1 hl.2 (by omega)


set_option maxRecDepth 100000 in
theorem sectorPlays_lifted (os : Os) (started : os.Started) (H : Type) (enc : TypeId × Value → H) :
    ReturnsInHanded {} Try.checked os 4 .any (Rows.sectorPlaysSpec.pre6 enc Try.prog Try.f4 Rows.sectorPlaysRow.domain false) (Rows.sectorPlaysSpec.post enc Try.prog Try.f4 false true false false) := by
  refine returnsInHanded_of_change_sized (C := Try.checked) Try.own started (by kernel_rfl) Try.func4
    (ChangeSpec.witness6 (enc := enc) (C := Try.checked) false ⟨#[], #[.int .i64 0, .slice none 0 0], []⟩ 8 (by kernel_rfl) (by kernel_rfl) (by kernel_rfl) (by kernel_rfl)) ?_
  intro W base args ds gs before hval0 hW _ hsz0 _
  have hval : ∀ (j : Nat) t v, Try.f4.params[j]? = some t → args[j]? = some v → Value.okWide Try.prog W .any base t v := hval0
  have hsz : (DataW.weightsEach Try.prog (Try.f4.params.toList ++ Rows.sectorPlaysSpec.plain.varTypes Try.prog) (ds ++ gs)).all (· ≤ reachBytes) = true := hsz0
  have hW' := hW
  obtain ⟨p, q, hA0, hV, rfl, hfz, hnd⟩ := hW
  have hA : DataW.TrodAll enc Try.prog W 0 (fun _ => true) true Try.f4.params.toList args.toList ds p := hA0
  rw [Try.params4] at hA hval hsz
  obtain ⟨v0, vs0, d0, ds0, p0, q0, hargs, rfl, rfl, h0, r0⟩ := trodAll_cons hA
  obtain ⟨v1, vs1, d1, ds1, p1, q1, rfl, rfl, rfl, h1, r1⟩ := trodAll_cons r0
  obtain ⟨rfl, rfl, rfl⟩ := trodAll_nil r1
  obtain rfl : args = #[v0, v1] := by cases args; simp_all
  obtain ⟨rfl, rfl⟩ := trodVars_none hV
  have k0 := h0
  have lt0 : ∀ x ∈ p0, x.block < W.heap.size := by obtain ⟨m, hm⟩ := k0; exact DataW.trod_lt m _ _ _ hm
  obtain ⟨n0, ev0, _, _, wn0⟩ := open_int Try.underlying3 (hval 0 3 v0 rfl rfl) h0
  subst ev0
  obtain ⟨lo0, hi0⟩ := wf_bounds wn0
  have k1 := h1
  have lt1 : ∀ x ∈ p1, x.block < W.heap.size := by obtain ⟨m, hm⟩ := k1; exact DataW.trod_lt m _ _ _ hm
  have w1 : ∀ n ∈ d1.weights Try.prog 33, n ≤ reachBytes := fun n hn => by simpa using List.all_eq_true.1 hsz n (DataW.weights_mem_each (j := 1) rfl rfl n hn)
  obtain ⟨as1, al1⟩ := acts_open8 (hval 1 33 v1 rfl rfl) h1 w1
  clear hA0 hval0 hsz0
  refine (sectorPlays_walk n0 v1 as1 W lo0 hi0 al1).mono fun e W' ⟨he, bel⟩ => ?_
  subst he
  exact ⟨_, rfl, _, _, _, [], _, [], hW', trodAll_mk1 (shut_bool Try.underlying4 _), (trodAll_cons_mk (Below.trod Try.laidOut (by kernel_rfl) (of_decide_eq_true (by kernel_rfl)) k0 bel lt0) (trodAll_cons_mk (Below.trod Try.laidOut (by kernel_rfl) (of_decide_eq_true (by kernel_rfl)) k1 bel lt1) trodAll_mk0)), rfl, bel.frame _, fun h => by cases h⟩

theorem sectorPlays_proved : Rows.SectorPlaysSaid :=
  OpenClaim.holds_of_wide 4 Try.f4 rfl rfl rfl rfl rfl rfl rfl ⟨rfl, rfl, rfl, rfl, rfl⟩ rfl rfl rfl rfl rfl (by kernel_rfl) Try.func4 (by kernel_rfl)
    (of_decide_eq_true (by kernel_rfl)) (by unfold Func.isWrapper; rw [if_neg (of_decide_eq_false (by kernel_rfl))]; exact ⟨rfl, rfl⟩)
    (fun os started H enc _ => sectorPlays_lifted os started H enc)
end Go.Proofs.Ytillckjohlbaiaa
