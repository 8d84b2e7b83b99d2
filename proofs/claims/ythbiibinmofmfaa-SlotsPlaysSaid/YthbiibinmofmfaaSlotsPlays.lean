/- The statement SlotsPlays: whatever is committed, formatted, cut off, torn or written by hand, the program's slots do on its disk just what the document's do on the document's. It holds for every input within the model's capacity, without a further condition. -/
import Derived.Test.YthbiibinmofmfaaZply
import Derived.Test.YthbiibinmofmfaaZback
import Derived.Test.YthbiibinmofmfaaEact8

namespace Go.Proofs.Ythbiibinmofmfaa
set_option maxRecDepth 100000
open Go.ChangeShapes Go.WideShapes Go.ChangeAt Go.RowKit

set_option maxRecDepth 100000 in
set_option maxHeartbeats 4000000 in
theorem splays_bad (n : Int) (h : n < 1 ∨ 24 < n) (a : Option Addr) (L cap : Nat) (w : World) :
    Calls Try.prog 3 #[.int .i64 n, .slice a L cap] w fun e w' => e = .returned (.bool true) ∧ Below w.heap.size w w' := by
  have LV := Lib.hid (zlives_is w)
  have h' : decide (n < 1) = true ∨ (decide (n < 1) = false ∧ decide (24 < n) = true) := by
    by_cases h1 : n < 1
    · exact Or.inl (decide_eq_true h1)
    · exact Or.inr ⟨decide_eq_false h1, decide_eq_true (by omega)⟩
  clear h
  go_enter Try.func3, Try.ntmps3
  rcases h' with c1 | ⟨c1, c2⟩
  all_goals
    go_wp2_with fail
    refine LV.out.mono ?_
    rintro e w5 ⟨rfl, hb5⟩
    go_wp2_with fail
    go_ret
    exact ⟨rfl, hb5⟩

set_option maxRecDepth 100000 in
set_option maxHeartbeats 4000000 in
theorem splays_many (n : Nat) (h1 : 1 ≤ n) (h24 : n ≤ 24) (v : Value) (l : List Zc) (w : World) (hl : Zcs w v l) (hf : ¬ Few l) :
    Calls Try.prog 3 #[.int .i64 (n : Int), v] w fun e w' => e = .returned (.bool true) ∧ Below w.heap.size w w' := by
  have LV := Lib.hid (fun W => zlives_is W)
  have CF := Lib.hid (few_false w v l hl hf)
  obtain ⟨a, cap, rfl, -, -⟩ := hl
  generalize l.length = L at *
  have c1 : decide ((n : Int) < 1) = false := decide_eq_false (by omega)
  have c2 : decide ((24 : Int) < (n : Int)) = false := decide_eq_false (by omega)
  have c2' : ¬ 24 < n := by omega
  have c1' : ¬ n < 1 := by omega
  clear hf h1 h24
  go_enter Try.func3, Try.ntmps3
  go_wp2_with fail
  refine CF.out.mono ?_
  rintro e w4 ⟨rfl, hb4⟩
  go_wp2_with fail
  refine (LV.out _).mono ?_
  rintro e w5 ⟨rfl, hb5⟩
  go_wp2_with fail
  go_ret
  exact ⟨rfl, hb4.trans (hb5.mono hb4.size)⟩

set_option maxRecDepth 100000 in
set_option maxHeartbeats 16000000 in
theorem splays_main (n : Nat) (h1 : 1 ≤ n) (h24 : n ≤ 24) (v : Value) (l : List Zc) (w : World) (hl : Zcs w v l) (hf : Few l) :
    Calls Try.prog 3 #[.int .i64 (n : Int), v] w fun e w' => e = .returned (.bool true) ∧ Below w.heap.size w w' := by
  have CF := Lib.hid (few_true w v l hl hf)
  have C1 := Lib.hid (fun W (hb : Below w.heap.size w W) => lv_new (w0 := w) hb n h1 (by omega))
  have C2 : Hid (∀ W, Calls Try.prog 7 #[.int .i64 (n : Int)] W fun e w' => (∃ v', e = .returned (.tuple #[v', .int .i64 0]) ∧ DDk w' (fun q => W.heap.size ≤ q) v' (Ek.fresh n)) ∧ Below W.heap.size W w') := fun W => rdisk_new W n h1 (by omega)
  obtain ⟨a, cap, rfl, h9, hat⟩ := hl
  have HAT : Hid (∀ k ac, l[k]? = some ac → ∃ b off, a = some ⟨b, off, none⟩ ∧ b < w.heap.size ∧ ∀ w', Below w.heap.size w w' → ZcAt w' b (off + k * 6) ac) := fun k ac hk => by
    have hkl := (List.getElem?_eq_some_iff.1 hk).1
    obtain ⟨b, off, ha, hc⟩ := hat (by omega)
    exact ⟨b, off, ha, by
      have := (hc k ac hk).kind
      by_cases hb : b < w.heap.size
      · exact hb
      · exfalso
        unfold World.cell? at this
        rw [Array.getElem?_eq_none (by simpa using hb)] at this
        simp at this, fun w' hb => (hc k ac hk).later hb⟩
  have HF3 := Lib.hid hf.2
  have c1 : decide ((n : Int) < 1) = false := decide_eq_false (by omega)
  have c2 : decide ((24 : Int) < (n : Int)) = false := decide_eq_false (by omega)
  have c2' : ¬ 24 < n := by omega
  have c1' : ¬ n < 1 := by omega
  have hl12 := hf.1
  obtain ⟨L, hL⟩ : ∃ L, L = l.length := ⟨_, rfl⟩
  have HL := Lib.hid hL
  rw [← hL] at hl12 CF ⊢
  have HN := Lib.hid (show (Ek.fresh n).n ≤ 24 from h24)
  clear hf h1 h24 hat h9 hL
  go_enter Try.func3, Try.ntmps3
  go_wp2_with fail
  refine CF.out.mono ?_
  rintro e wf ⟨rfl, hbf⟩
  have HBF := Lib.hid hbf
  clear CF hbf
  go_wp2_with fail
  refine (C1.out wf HBF.out).mono ?_
  rintro e w1 ⟨b, rfl, H1⟩
  have H1' := Lib.hid H1
  clear C1 H1
  go_wp2_with fail
  refine (C2.out w1).mono ?_
  rintro e w2 ⟨⟨v2, rfl, hd2⟩, hb2⟩
  obtain ⟨xa, xn, xc, xl, xm, xk, xf, xd, rfl⟩ := hd2.four
  obtain ⟨W3, hW3⟩ : ∃ W, W = w2.alloc (.cells #[.slice xa xn xc, .slice xl xm xk, .int .i64 xf, .bool xd] 32) := ⟨_, rfl⟩
  have hb3 : Below w2.heap.size w2 W3 := by rw [hW3]; exact below1 w2 _
  have hs3 : W3.heap.size = w2.heap.size + 1 := by rw [hW3]; simp
  have hw1 := H1'.out.below.size
  have hz2 := hb2.size
  have O2 : Bo w w2 b (Ek.fresh n) (.agg #[.slice xa xn xc, .slice xl xm xk, .int .i64 xf, .bool xd]) (Ek.fresh n) (fun k => False ∨ (w1.heap.size ≤ k ∧ k < w2.heap.size)) (fun k => w1.heap.size ≤ k ∧ k < w2.heap.size) (fun _ => False) w :=
    ⟨H1'.out.ly.new hb2, hd2.lo.mono (fun q hq => hq), fun k hk => Or.inr hk, fun k hk => by rcases hk with h | h; exact h.elim; omega, fun _ h => h.elim⟩
  obtain ⟨B7, hB7⟩ : ∃ B, B = w2.heap.size := ⟨_, rfl⟩
  have T3 := Lib.hid (show Has W3 B7 (.cells #[.slice xa xn xc, .slice xl xm xk, .int .i64 xf, .bool xd] 32) by rw [hW3, hB7]; exact Has.new w2 _)
  obtain ⟨E0, G0, q0, q1, q2⟩ : ∃ E0 G0, Bo w W3 b (Ek.fresh n) (.agg #[.slice xa xn xc, .slice xl xm xk, .int .i64 xf, .bool xd]) (Ek.fresh n) E0 G0 (fun _ => False) w ∧ E0 B7 ∧ ¬ G0 B7 := ⟨_, _, O2.new hb3, Or.inr (by omega), show ¬ (w1.heap.size ≤ B7 ∧ B7 < w2.heap.size) by omega⟩
  have P3 := Lib.hid q0
  have HE3 := Lib.hid (And.intro q1 q2)
  have HW2 := Lib.hid (show w.heap.size ≤ B7 by omega)
  have HB7 := Lib.hid hB7
  have V3 := Lib.hid hW3
  have HU3 := Lib.hid (show (Ek.fresh n).used ≤ 0 ∧ (Ek.fresh n).n ≤ 24 from ⟨Nat.le_refl _, HN.out⟩)
  clear hW3 hb3 hs3 hw1 hz2 O2 hd2 hb2 H1' C2 hB7 q0 q1 q2 HN
  generalize Ek.fresh n = d0 at P3 HU3
  go_wp2_with fail
  rw [← V3.out]
  clear V3 c1 c2 c1' c2' HBF
  rw [← HB7.out]
  clear HB7
  go_loopw [9] (fun s9 wr => ∃ (i : Nat) (d : Ek.Dk) (xa : Option Addr) (xn xc : Nat) (xl : Option Addr) (xm xk : Nat) (xf : Int) (xd : Bool) (E G : Nat → Prop), s9 = .int .i64 (i : Int) ∧ i ≤ L ∧ Hid (Bo w wr b d (.agg #[.slice xa xn xc, .slice xl xm xk, .int .i64 xf, .bool xd]) d E G (fun _ => False) w) ∧ Hid (Has wr B7 (.cells #[.slice xa xn xc, .slice xl xm xk, .int .i64 xf, .bool xd] 32)) ∧ Hid (E B7 ∧ ¬ G B7) ∧ Hid (d.used ≤ 14 * i ∧ d.n ≤ 24)) (fun s9 _ => L - (intOf s9).toNat)
  case atStart => exact ⟨0, d0, xa, xn, xc, xl, xm, xk, xf, xd, _, _, by go_num, Nat.zero_le _, P3, T3, HE3, HU3⟩
  clear P3 T3 HE3 HU3
  case round =>
    obtain ⟨i, d, xa, xn, xc, xl, xm, xk, xf, xd, E, G, rfl, hi, KP, KT, KE, KU⟩ := hrel
    by_cases hlt : i < L
    · have j0 : decide ((i : Int) < (L : Int)) = true := decide_eq_true (by omega)
      have j1 : (0 : Int) ≤ (i : Int) := by omega
      have j2 : (i : Int) < (L : Int) := by omega
      have j3 : (i : Int) ≤ 12 := by omega
      have hu9 : Hid (d.used ≤ 200) := by have := KU.out.1; show _ ≤ _; omega
      obtain ⟨ac, hac⟩ : ∃ ac, l[i]? = some ac := ⟨_, List.getElem?_eq_getElem (by rw [← HL.out]; exact hlt)⟩
      obtain ⟨ba0, oa, rfl, hba, hcells⟩ := HAT.out i ac hac
      have hb3000 := HF3.out ac (List.mem_of_getElem? hac)
      have hB := KP.out.below
      obtain ⟨f0, f1, f2, f3, f4, f5, fel, fks, fc8, fbi, fbk, fbg⟩ := hcells wr hB
      obtain ⟨kind, ba, bl, bc, bs, I, long, c, kv, keep⟩ := ac
      dsimp only at f0 f1 f2 f3 f4 f5 fel fks fc8 fbi fbk fbg hb3000
      obtain ⟨ka, kn, kc, rfl⟩ : ∃ a n c, kv = Value.slice a n c := by
        obtain ⟨a, cap, e, _⟩ := fks
        exact ⟨_, _, _, e⟩
      have zl : Has (wr.alloc (.cells #[.int .i64 0, .slice none 0 0, .int .i64 0, .int .i64 0, .int .u8 0, .slice none 0 0] 38)) wr.heap.size (.cells #[.int .i64 0, .slice none 0 0, .int .i64 0, .int .i64 0, .int .u8 0, .slice none 0 0] 38) := Has.new wr _
      have ZL := Lib.hid zl
      obtain ⟨W1, hW1⟩ : ∃ W, W = (wr.alloc (.cells #[.int .i64 0, .slice none 0 0, .int .i64 0, .int .i64 0, .int .u8 0, .slice none 0 0] 38)).setRow wr.heap.size #[.int .i64 kind, .slice ba bl bc, .int .i64 I, .int .i64 long, .int .u8 (c : Int), .slice ka kn kc] := ⟨_, rfl⟩
      have hb1 : Below wr.heap.size wr W1 := by rw [hW1]; exact below_setRow (below1 wr _) (Nat.le_refl _) _
      have hs1 : W1.heap.size = wr.heap.size + 1 := by rw [hW1]; simp
      obtain ⟨E1, O1, hE1, hE1'⟩ := KP.out.new3 hb1
      have P1 := Lib.hid O1
      have T1 := Lib.hid (KT.out.later hb1)
      have A1 := Lib.hid (show Has W1 wr.heap.size (.cells #[.int .i64 kind, .slice ba bl bc, .int .i64 I, .int .i64 long, .int .u8 (c : Int), .slice ka kn kc] 38) by rw [hW1]; exact setRow_heap _ _ _ _ _ _ zl)
      have HE1 := Lib.hid (And.intro (hE1 _ KE.out.1) KE.out.2)
      have HEA := Lib.hid (hE1' wr.heap.size (Nat.le_refl _) (by omega))
      have HGA := Lib.hid (show ¬ G wr.heap.size from fun hh => by have := KP.out.glt _ hh; omega)
      have T1l := T1.out
      have A1l := A1.out
      rw [hW1] at T1l A1l
      have g0 := (A1l.cell 0 : _ = some (Value.int .i64 kind))
      have g1 := (A1l.cell 1 : _ = some (Value.slice ba bl bc))
      have g2 := (A1l.cell 2 : _ = some (Value.int .i64 I))
      have g3 := (A1l.cell 3 : _ = some (Value.int .i64 long))
      have g5 := (A1l.cell 5 : _ = some (Value.slice ka kn kc))
      have T1L := Lib.hid T1l
      have A1L := Lib.hid A1l
      have V1 := Lib.hid hW1
      have SB := Lib.hid ((fel.2.2 hb3000).later hb1)
      have KS := Lib.hid (fks.keep (keepA_below hb1))
      have HBI := Lib.hid fbi
      have HBG := Lib.hid fbg
      have HC8 := Lib.hid fc8
      have HB3 := Lib.hid hb3000
      have HLT := Lib.hid hlt
      have HWR := Lib.hid hB.size
      have KU' := KU
      have KSO : Hid (∀ W, Below w.heap.size w W → Ks W (.slice ka kn kc) keep) := fun W hb => (hcells W hb).ks
      clear zl hac hcells hba hb3000 hB fel fks fbi fbg fc8 hW1 hb1 hs1 O1 hE1 hE1' T1l A1l KP KT KE hlt hi
      by_cases k1 : kind = 1
      · subst k1
        have CM := Lib.hid (many_any W1 ba bl bc bs long SB.out HB3.out HBG.out.1 HBG.out.2)
        go_wp2_with (refine wpList_store_row rfl 38 (.tmp 10) (.tmp 56) rfl wr.heap.size #[.int .i64 1, .slice ba bl bc, .int .i64 I, .int .i64 long, .int .u8 (c : Int), .slice ka kn kc] rfl rfl 38 _ ZL.out Try.infoAct6 rfl (by simp [Value.oneCell']) ?_)
        rw [← V1.out]
        refine CM.out.mono ?_
        clear CM V1 T1L A1L f0 f1 f2 f3 f4 f5 g0 g1 g2 g3 g5 ZL
        rintro e w2 hM
        obtain ⟨ma, mn, mc, ys, rfl, hb2, hsl, hmc, h8, h7, hmb⟩ := many_facts hM
        obtain ⟨E2, O2, hE2, hE2'⟩ := P1.out.new3 hb2
        have P2 := Lib.hid O2
        have T2 := Lib.hid (T1.out.later hb2)
        have HE2 := Lib.hid (And.intro (hE2 _ HE1.out.1) HE1.out.2)
        have HMB := Lib.hid (show 0 < mn → ∀ g off spot, ma = some ⟨g, off, spot⟩ → E2 g from fun h0 g off spot e => hE2' g (hmb h0 g off spot e).1 (hmb h0 g off spot e).2)
        have HNB := Lib.hid (show 0 < mn → ∀ g off spot, ma = some ⟨g, off, spot⟩ → g ≠ B7 from fun h0 g off spot e hh => by
          have h3 := (hmb h0 g off spot e).1
          have h4 := P1.out.ly.lt B7 HE1.out.1
          omega)
        have SL2 := Lib.hid hsl
        have HMC := Lib.hid hmc
        obtain ⟨S, hS⟩ : ∃ S, S = strB ys := ⟨_, rfl⟩
        have hst := string_of w2 ma mn mc ys S hsl (Lib.hid hS)
        have CC := rcommit_any w2 G _ d P2.out.doc (by have := hu9.out; omega) ys h8 (by omega) S hS
        have KU2 := Lib.hid (show (Sk.commit d ys).used ≤ 14 * (i + 1) ∧ (Sk.commit d ys).n ≤ 24 from ⟨by have := Sk.commit_used d ys KU'.out.2; have := KU'.out.1; omega, by rw [Sk.commit_n]; exact KU'.out.2⟩)
        have HKU := Lib.hid (show d.used + Sk.share d.n + 3 < 1000 by have := hu9.out; have := KU'.out.2; unfold Sk.share; omega)
        have CC' := Lib.hid CC
        generalize hdd : Sk.commit d ys = d2 at CC' KU2
        generalize hee0 : Sk.commitE d ys = ee at CC'
        have HDD := Lib.hid hdd
        have HEE := Lib.hid hee0
        clear hM hb2 hsl hmc h8 h7 hmb O2 hE2 hE2' hS CC P1 T1 HE1 hdd hee0
        go_wp2_with (refine wpList_load_row rfl 32 (.tmp 7) rfl B7 rfl 32 #[.slice xa xn xc, .slice xl xm xk, .int .i64 xf, .bool xd] (0, 0) _ T2.out Try.underlying32 rfl Try.infoDisk4 ?_)
        refine CC'.out.mono ?_
        rintro e w3 ⟨⟨v3, rfl, hd3⟩, hb3⟩
        obtain ⟨E3, G3, O3, hE3, hG3, hG3l, hE3'⟩ := P2.out.ref3 hb3 hd3
        obtain ⟨ya, yn, yc, yl, ym, yk, yf, yd, rfl⟩ := hd3.four
        obtain ⟨w4, hw4⟩ : ∃ W, W = w3.alloc (.cells #[.slice ya yn yc, .slice yl ym yk, .int .i64 yf, .bool yd] 32) := ⟨_, rfl⟩
        have hb4 : Below w3.heap.size w3 w4 := by rw [hw4]; exact below1 w3 _
        have hs4 : w4.heap.size = w3.heap.size + 1 := by rw [hw4]; simp
        obtain ⟨E4, O4, hE4, hE4'⟩ := O3.new3 hb4
        have Q4 : Has w4 w3.heap.size (.cells #[.slice ya yn yc, .slice yl ym yk, .int .i64 yf, .bool yd] 32) := by rw [hw4]; exact Has.new w3 _
        have T4 : Has w4 B7 (.cells #[.slice xa xn xc, .slice xl xm xk, .int .i64 xf, .bool xd] 32) := (T2.out.later hb3).later hb4
        obtain ⟨w5, hw5⟩ : ∃ W, W = w4.setRow B7 #[.slice ya yn yc, .slice yl ym yk, .int .i64 yf, .bool yd] := ⟨_, rfl⟩
        have hGB : ¬ G3 B7 := fun hh => HE2.out.2 (hG3 _ (Nat.lt_of_lt_of_le (P2.out.ly.lt B7 HE2.out.1) (Nat.le_refl _)) hh)
        have hEB : E4 B7 := hE4 _ (hE3 _ HE2.out.1)
        have O5 := O4.tch B7 hEB hGB HW2.out (tch_row w4 B7 #[.slice ya yn yc, .slice yl ym yk, .int .i64 yf, .bool yd])
        rw [← hw5] at O5
        have P5 := Lib.hid O5
        have T5 := Lib.hid (show Has w5 B7 (.cells #[.slice ya yn yc, .slice yl ym yk, .int .i64 yf, .bool yd] 32) by rw [hw5]; exact setRow_heap _ _ _ _ _ _ T4)
        have HE5 := Lib.hid (And.intro hEB hGB)
        have HE45 := Lib.hid (show ∀ k, E2 k → E4 k from fun k hk => hE4 _ (hE3 _ hk))
        have CPp := ly_commit P5.out.ly ma mn mc ys (show Sl w5 _ ys from by rw [hw5]; exact sl_row ((SL2.out.later hb3).later hb4) HNB.out) HMC.out (fun h0 g off spot e => HE45.out _ (HMB.out h0 g off spot e)) HKU.out
        rw [HDD.out, HEE.out] at CPp
        have CP := Lib.hid CPp
        clear CPp
        rw [hw4] at Q4 T4 hw5
        have Q4L := Lib.hid Q4
        have T4L := Lib.hid T4
        have V5 := Lib.hid hw5
        clear hd3 hb3 O3 hE3 hG3 hG3l hE3' hw4 hb4 hs4 O4 hE4 hE4' Q4 T4 hw5 hGB hEB O5
        go_wp2_with (first | (refine wpList_load_row rfl 32 (.tmp 12) rfl w3.heap.size rfl 32 #[.slice ya yn yc, .slice yl ym yk, .int .i64 yf, .bool yd] (0, 0) _ Q4L.out Try.underlying32 rfl Try.infoDisk4 ?_) | (refine wpList_store_row rfl 32 (.tmp 7) (.tmp 73) rfl B7 #[.slice ya yn yc, .slice yl ym yk, .int .i64 yf, .bool yd] rfl rfl 32 _ T4L.out Try.infoDisk4 rfl (by simp [Value.oneCell']) ?_))
        rw [← V5.out]
        refine CP.out.mono ?_
        clear CP V5 Q4L T4L
        rintro e wz hp
        obtain ⟨rfl, O6⟩ := P5.out.prog hp
        have Tz := Lib.hid (show Has wz B7 (.cells #[.slice ya yn yc, .slice yl ym yk, .int .i64 yf, .bool yd] 32) from (hp.2.2 _ HE5.out.1).trans T5.out)
        have Pz := Lib.hid O6
        have hee : ((ee : Int) != (ee : Int)) = false := by simp
        clear hp O6 P5 T5
        obtain ⟨lb, lg, ls, le, CL, RL⟩ := two_loads Pz.out
        have CL' := Lib.hid CL
        have RL' := Lib.hid RL
        obtain ⟨LS, hLS⟩ : ∃ S, S = strB lb := ⟨_, rfl⟩
        rw [← hLS] at RL'
        have HLS := Lib.hid hLS
        clear CL RL hLS
        go_wp2_with fail
        skip
        refine (CL'.out _ (Below.refl _ _)).mono ?_
        rintro e w6 ⟨hb6, sa, sn, sc, rfl, hsl6⟩
        have P6 := Lib.hid (Pz.out.later hb6)
        have T6 := Lib.hid (Tz.out.later hb6)
        have S6 := Lib.hid hsl6
        have CR6 := Lib.hid (RL'.out w6 hb6)
        clear hb6 hsl6 CL' RL'
        go_wp2_with (refine wpList_load_row rfl 32 (.tmp 7) rfl B7 rfl 32 #[.slice ya yn yc, .slice yl ym yk, .int .i64 yf, .bool yd] (0, 0) _ T6.out Try.underlying32 rfl Try.infoDisk4 ?_)
        refine CR6.out.mono ?_
        clear CR6
        rintro e w7 ⟨rfl, hb7⟩
        have P7 := Lib.hid (P6.out.later hb7)
        have T7 := Lib.hid (T6.out.later hb7)
        have hcv := string_of w7 sa sn sc lb LS (S6.out.later hb7) HLS
        have AL := Lib.hid (zalike_any P7.out)
        have hbq : (LS.toList == LS.toList) = true := beq_self_eq_true _
        have hbg : ((lg : Int) != (lg : Int)) = false := by simp
        have hbe : ((le : Int) != (le : Int)) = false := by simp
        have t0 := (T7.out.cell 0 : _ = some (Value.slice ya yn yc))
        have t1 := (T7.out.cell 1 : _ = some (Value.slice yl ym yk))
        have t2 := (T7.out.cell 2 : _ = some (Value.int .i64 yf))
        have t3 := (T7.out.cell 3 : _ = some (Value.bool yd))
        clear hb7 P6 T6 S6
        go_wp2_with fail
        refine AL.out.mono ?_
        clear AL hcv t0 t1 t2 t3
        rintro e w8 ⟨rfl, hb8⟩
        have P8 := Lib.hid (P7.out.later hb8)
        have T8 := Lib.hid (T7.out.later hb8)
        have hlt := HLT.out
        clear hb8 P7 T7
        go_wp2_with fail
        go_round
        case rel => exact ⟨i + 1, d2, ya, yn, yc, yl, ym, yk, yf, yd, _, _, by go_num, by omega, P8, T8, HE5, KU2⟩
        case measure => simp [intOf]; omega
      have k1b : ((kind : Int) == 1) = false := by rw [beq_eq_false_iff_ne]; exact k1
      by_cases k2 : kind = 2
      · subst k2
        have P2 := P1
        have T2 := T1
        have HE2 := HE1
        have CC := rformat_any W1 G _ d P2.out.doc (by have := hu9.out; omega)
        have KU2 := Lib.hid (show (Sk.format d).used ≤ 14 * (i + 1) ∧ (Sk.format d).n ≤ 24 from ⟨by have := Sk.format_used d; have := KU'.out.1; omega, by rw [Sk.format_n]; exact KU'.out.2⟩)
        have CC' := Lib.hid CC
        generalize hdd : Sk.format d = d2 at CC' KU2
        generalize hee0 : Sk.formatE d = ee at CC'
        have HDD := Lib.hid hdd
        have HEE := Lib.hid hee0
        clear CC hdd hee0 k1 k1b
        go_wp2_with (first | (refine wpList_store_row rfl 38 (.tmp 10) (.tmp 56) rfl wr.heap.size #[.int .i64 2, .slice ba bl bc, .int .i64 I, .int .i64 long, .int .u8 (c : Int), .slice ka kn kc] rfl rfl 38 _ ZL.out Try.infoAct6 rfl (by simp [Value.oneCell']) ?_) | (refine wpList_load_row rfl 32 (.tmp 7) rfl B7 rfl 32 #[.slice xa xn xc, .slice xl xm xk, .int .i64 xf, .bool xd] (0, 0) _ T1L.out Try.underlying32 rfl Try.infoDisk4 ?_))
        rw [← V1.out]
        clear V1 T1L A1L f0 f1 f2 f3 f4 f5
        have E2q : ∃ E2, E2 = E1 := ⟨_, rfl⟩
        obtain ⟨E2, hE2q⟩ := E2q
        rw [← hE2q] at P2 HE2
        clear hE2q
        refine CC'.out.mono ?_
        rintro e w3 ⟨⟨v3, rfl, hd3⟩, hb3⟩
        obtain ⟨E3, G3, O3, hE3, hG3, hG3l, hE3'⟩ := P2.out.ref3 hb3 hd3
        obtain ⟨ya, yn, yc, yl, ym, yk, yf, yd, rfl⟩ := hd3.four
        obtain ⟨w4, hw4⟩ : ∃ W, W = w3.alloc (.cells #[.slice ya yn yc, .slice yl ym yk, .int .i64 yf, .bool yd] 32) := ⟨_, rfl⟩
        have hb4 : Below w3.heap.size w3 w4 := by rw [hw4]; exact below1 w3 _
        have hs4 : w4.heap.size = w3.heap.size + 1 := by rw [hw4]; simp
        obtain ⟨E4, O4, hE4, hE4'⟩ := O3.new3 hb4
        have Q4 : Has w4 w3.heap.size (.cells #[.slice ya yn yc, .slice yl ym yk, .int .i64 yf, .bool yd] 32) := by rw [hw4]; exact Has.new w3 _
        have T4 : Has w4 B7 (.cells #[.slice xa xn xc, .slice xl xm xk, .int .i64 xf, .bool xd] 32) := (T2.out.later hb3).later hb4
        obtain ⟨w5, hw5⟩ : ∃ W, W = w4.setRow B7 #[.slice ya yn yc, .slice yl ym yk, .int .i64 yf, .bool yd] := ⟨_, rfl⟩
        have hGB : ¬ G3 B7 := fun hh => HE2.out.2 (hG3 _ (Nat.lt_of_lt_of_le (P2.out.ly.lt B7 HE2.out.1) (Nat.le_refl _)) hh)
        have hEB : E4 B7 := hE4 _ (hE3 _ HE2.out.1)
        have O5 := O4.tch B7 hEB hGB HW2.out (tch_row w4 B7 #[.slice ya yn yc, .slice yl ym yk, .int .i64 yf, .bool yd])
        rw [← hw5] at O5
        have P5 := Lib.hid O5
        have T5 := Lib.hid (show Has w5 B7 (.cells #[.slice ya yn yc, .slice yl ym yk, .int .i64 yf, .bool yd] 32) by rw [hw5]; exact setRow_heap _ _ _ _ _ _ T4)
        have HE5 := Lib.hid (And.intro hEB hGB)
        have HE45 := Lib.hid (show ∀ k, E2 k → E4 k from fun k hk => hE4 _ (hE3 _ hk))
        have CPp := ly_format P5.out.ly (by have := hu9.out; omega)
        rw [HDD.out, HEE.out] at CPp
        have CP := Lib.hid CPp
        clear CPp
        rw [hw4] at Q4 T4 hw5
        have Q4L := Lib.hid Q4
        have T4L := Lib.hid T4
        have V5 := Lib.hid hw5
        clear hd3 hb3 O3 hE3 hG3 hG3l hE3' hw4 hb4 hs4 O4 hE4 hE4' Q4 T4 hw5 hGB hEB O5
        go_wp2_with (first | (refine wpList_load_row rfl 32 (.tmp 14) rfl w3.heap.size rfl 32 #[.slice ya yn yc, .slice yl ym yk, .int .i64 yf, .bool yd] (0, 0) _ Q4L.out Try.underlying32 rfl Try.infoDisk4 ?_) | (refine wpList_store_row rfl 32 (.tmp 7) (.tmp 86) rfl B7 #[.slice ya yn yc, .slice yl ym yk, .int .i64 yf, .bool yd] rfl rfl 32 _ T4L.out Try.infoDisk4 rfl (by simp [Value.oneCell']) ?_))
        rw [← V5.out]
        refine CP.out.mono ?_
        clear CP V5 Q4L T4L
        rintro e wz hp
        obtain ⟨rfl, O6⟩ := P5.out.prog hp
        have Tz := Lib.hid (show Has wz B7 (.cells #[.slice ya yn yc, .slice yl ym yk, .int .i64 yf, .bool yd] 32) from (hp.2.2 _ HE5.out.1).trans T5.out)
        have Pz := Lib.hid O6
        have hee : ((ee : Int) != (ee : Int)) = false := by simp
        clear hp O6 P5 T5
        obtain ⟨lb, lg, ls, le, CL, RL⟩ := two_loads Pz.out
        have CL' := Lib.hid CL
        have RL' := Lib.hid RL
        obtain ⟨LS, hLS⟩ : ∃ S, S = strB lb := ⟨_, rfl⟩
        rw [← hLS] at RL'
        have HLS := Lib.hid hLS
        clear CL RL hLS
        go_wp2_with fail
        skip
        refine (CL'.out _ (Below.refl _ _)).mono ?_
        rintro e w6 ⟨hb6, sa, sn, sc, rfl, hsl6⟩
        have P6 := Lib.hid (Pz.out.later hb6)
        have T6 := Lib.hid (Tz.out.later hb6)
        have S6 := Lib.hid hsl6
        have CR6 := Lib.hid (RL'.out w6 hb6)
        clear hb6 hsl6 CL' RL'
        go_wp2_with (refine wpList_load_row rfl 32 (.tmp 7) rfl B7 rfl 32 #[.slice ya yn yc, .slice yl ym yk, .int .i64 yf, .bool yd] (0, 0) _ T6.out Try.underlying32 rfl Try.infoDisk4 ?_)
        refine CR6.out.mono ?_
        clear CR6
        rintro e w7 ⟨rfl, hb7⟩
        have P7 := Lib.hid (P6.out.later hb7)
        have T7 := Lib.hid (T6.out.later hb7)
        have hcv := string_of w7 sa sn sc lb LS (S6.out.later hb7) HLS
        have AL := Lib.hid (zalike_any P7.out)
        have hbq : (LS.toList == LS.toList) = true := beq_self_eq_true _
        have hbg : ((lg : Int) != (lg : Int)) = false := by simp
        have hbe : ((le : Int) != (le : Int)) = false := by simp
        have t0 := (T7.out.cell 0 : _ = some (Value.slice ya yn yc))
        have t1 := (T7.out.cell 1 : _ = some (Value.slice yl ym yk))
        have t2 := (T7.out.cell 2 : _ = some (Value.int .i64 yf))
        have t3 := (T7.out.cell 3 : _ = some (Value.bool yd))
        clear hb7 P6 T6 S6
        go_wp2_with fail
        refine AL.out.mono ?_
        clear AL hcv t0 t1 t2 t3
        rintro e w8 ⟨rfl, hb8⟩
        have P8 := Lib.hid (P7.out.later hb8)
        have T8 := Lib.hid (T7.out.later hb8)
        have hlt := HLT.out
        clear hb8 P7 T7
        go_wp2_with fail
        go_round
        case rel => exact ⟨i + 1, d2, ya, yn, yc, yl, ym, yk, yf, yd, _, _, by go_num, by omega, P8, T8, HE5, KU2⟩
        case measure => simp [intOf]; omega
      have k2b : ((kind : Int) == 2) = false := by rw [beq_eq_false_iff_ne]; exact k2
      by_cases k3 : kind = 3
      · subst k3
        have KU2 := Lib.hid (show (Ek.fuse d I).used ≤ 14 * (i + 1) ∧ (Ek.fuse d I).n ≤ 24 from ⟨by have := KU'.out.1; show d.used ≤ _; omega, KU'.out.2⟩)
        have CPl := ly_fuse P1.out.ly I HBI.out.2
        have CP := Lib.hid CPl
        clear CPl
        go_wp2_with (refine wpList_store_row rfl 38 (.tmp 10) (.tmp 56) rfl wr.heap.size #[.int .i64 3, .slice ba bl bc, .int .i64 I, .int .i64 long, .int .u8 (c : Int), .slice ka kn kc] rfl rfl 38 _ ZL.out Try.infoAct6 rfl (by simp [Value.oneCell']) ?_)
        rw [← V1.out]
        refine CP.out.mono ?_
        clear CP V1 T1L A1L f0 f1 f2 f3 f4 f5 g0 g1 g2 g3 g5 ZL
        rintro e w2 hp
        obtain ⟨rfl, O2⟩ := P1.out.prog hp
        have T2 := Lib.hid (show Has w2 B7 (.cells #[.slice xa xn xc, .slice xl xm xk, .int .i64 xf, .bool xd] 32) from (hp.2.2 _ HE1.out.1).trans T1.out)
        have A2 := Lib.hid (show Has w2 wr.heap.size (.cells #[.int .i64 3, .slice ba bl bc, .int .i64 I, .int .i64 long, .int .u8 (c : Int), .slice ka kn kc] 38) from (hp.2.2 _ HEA.out).trans A1.out)
        have P2 := Lib.hid O2
        skip
        have CC := Lib.hid (rdisk_arm w2 G _ d P2.out.doc I HBI.out.2)
        have a2 := (A2.out.cell 2 : _ = some (Value.int .i64 I))
        generalize Ek.fuse d I = d2 at CC P2 KU2
        clear hp O2 P1 T1 A1
        go_wp2_with (refine wpList_load_row rfl 32 (.tmp 7) rfl B7 rfl 32 #[.slice xa xn xc, .slice xl xm xk, .int .i64 xf, .bool xd] (0, 0) _ T2.out Try.underlying32 rfl Try.infoDisk4 ?_)
        refine CC.out.mono ?_
        clear CC a2
        rintro e w3 ⟨⟨v3, rfl, hd3⟩, hb3⟩
        obtain ⟨E3, G3, O3, hE3, hG3, hG3l, hE3'⟩ := P2.out.ref3 hb3 (hd3.mono (fun q hq => Or.inl hq))
        obtain ⟨ya, yn, yc, yl, ym, yk, yf, yd, rfl⟩ := hd3.four
        have T3 := Lib.hid (T2.out.later hb3)
        have hGB : ¬ G3 B7 := fun hh => HE1.out.2 (hG3 _ (P2.out.ly.lt B7 HE1.out.1) hh)
        have hEB : E3 B7 := hE3 _ HE1.out.1
        obtain ⟨wz, hwz⟩ : ∃ W, W = w3.setRow B7 #[.slice ya yn yc, .slice yl ym yk, .int .i64 yf, .bool yd] := ⟨_, rfl⟩
        have O5 := O3.tch B7 hEB hGB HW2.out (tch_row w3 B7 #[.slice ya yn yc, .slice yl ym yk, .int .i64 yf, .bool yd])
        rw [← hwz] at O5
        have Pz := Lib.hid O5
        have Tz := Lib.hid (show Has wz B7 (.cells #[.slice ya yn yc, .slice yl ym yk, .int .i64 yf, .bool yd] 32) by rw [hwz]; exact setRow_heap _ _ _ _ _ _ T3.out)
        have HE5 := Lib.hid (And.intro hEB hGB)
        have Vz := Lib.hid hwz
        clear hd3 hb3 O3 hE3 hG3 hG3l hE3' hGB hEB hwz O5 A2 T2
        obtain ⟨lb, lg, ls, le, CL, RL⟩ := two_loads Pz.out
        have CL' := Lib.hid CL
        have RL' := Lib.hid RL
        obtain ⟨LS, hLS⟩ : ∃ S, S = strB lb := ⟨_, rfl⟩
        rw [← hLS] at RL'
        have HLS := Lib.hid hLS
        clear CL RL hLS
        go_wp2_with (refine wpList_store_row rfl 32 (.tmp 7) (.tmp 100) rfl B7 #[.slice ya yn yc, .slice yl ym yk, .int .i64 yf, .bool yd] rfl rfl 32 _ T3.out Try.infoDisk4 rfl (by simp [Value.oneCell']) ?_)
        rw [← Vz.out]
        refine (CL'.out _ (Below.refl _ _)).mono ?_
        rintro e w6 ⟨hb6, sa, sn, sc, rfl, hsl6⟩
        have P6 := Lib.hid (Pz.out.later hb6)
        have T6 := Lib.hid (Tz.out.later hb6)
        have S6 := Lib.hid hsl6
        have CR6 := Lib.hid (RL'.out w6 hb6)
        clear hb6 hsl6 CL' RL'
        go_wp2_with (refine wpList_load_row rfl 32 (.tmp 7) rfl B7 rfl 32 #[.slice ya yn yc, .slice yl ym yk, .int .i64 yf, .bool yd] (0, 0) _ T6.out Try.underlying32 rfl Try.infoDisk4 ?_)
        refine CR6.out.mono ?_
        clear CR6
        rintro e w7 ⟨rfl, hb7⟩
        have P7 := Lib.hid (P6.out.later hb7)
        have T7 := Lib.hid (T6.out.later hb7)
        have hcv := string_of w7 sa sn sc lb LS (S6.out.later hb7) HLS
        have AL := Lib.hid (zalike_any P7.out)
        have hbq : (LS.toList == LS.toList) = true := beq_self_eq_true _
        have hbg : ((lg : Int) != (lg : Int)) = false := by simp
        have hbe : ((le : Int) != (le : Int)) = false := by simp
        have t0 := (T7.out.cell 0 : _ = some (Value.slice ya yn yc))
        have t1 := (T7.out.cell 1 : _ = some (Value.slice yl ym yk))
        have t2 := (T7.out.cell 2 : _ = some (Value.int .i64 yf))
        have t3 := (T7.out.cell 3 : _ = some (Value.bool yd))
        clear hb7 P6 T6 S6
        go_wp2_with fail
        refine AL.out.mono ?_
        clear AL hcv t0 t1 t2 t3
        rintro e w8 ⟨rfl, hb8⟩
        have P8 := Lib.hid (P7.out.later hb8)
        have T8 := Lib.hid (T7.out.later hb8)
        have hlt := HLT.out
        clear hb8 P7 T7
        go_wp2_with fail
        go_round
        case rel => exact ⟨i + 1, d2, ya, yn, yc, yl, ym, yk, yf, yd, _, _, by go_num, by omega, P8, T8, HE5, KU2⟩
        case measure => simp [intOf]; omega
      have k3b : ((kind : Int) == 3) = false := by rw [beq_eq_false_iff_ne]; exact k3
      by_cases k4 : kind = 4
      · subst k4
        have KU2 := Lib.hid (show (Ek.crash d (Ek.nth keep)).used ≤ 14 * (i + 1) ∧ (Ek.crash d (Ek.nth keep)).n ≤ 24 from ⟨by have := KU'.out.1; show d.used ≤ _; omega, KU'.out.2⟩)
        have CPl := ly_crash P1.out.ly (.slice ka kn kc) keep KS.out
        have CP := Lib.hid CPl
        clear CPl
        go_wp2_with (refine wpList_store_row rfl 38 (.tmp 10) (.tmp 56) rfl wr.heap.size #[.int .i64 4, .slice ba bl bc, .int .i64 I, .int .i64 long, .int .u8 (c : Int), .slice ka kn kc] rfl rfl 38 _ ZL.out Try.infoAct6 rfl (by simp [Value.oneCell']) ?_)
        rw [← V1.out]
        refine CP.out.mono ?_
        clear CP V1 T1L A1L f0 f1 f2 f3 f4 f5 g0 g1 g2 g3 g5 ZL
        rintro e w2 hp
        obtain ⟨rfl, O2⟩ := P1.out.prog hp
        have T2 := Lib.hid (show Has w2 B7 (.cells #[.slice xa xn xc, .slice xl xm xk, .int .i64 xf, .bool xd] 32) from (hp.2.2 _ HE1.out.1).trans T1.out)
        have A2 := Lib.hid (show Has w2 wr.heap.size (.cells #[.int .i64 4, .slice ba bl bc, .int .i64 I, .int .i64 long, .int .u8 (c : Int), .slice ka kn kc] 38) from (hp.2.2 _ HEA.out).trans A1.out)
        have P2 := Lib.hid O2
        have KS2 := Lib.hid (show Ks w2 (.slice ka kn kc) keep from KSO.out w2 O2.below)
        have CC := Lib.hid (rdisk_crash w2 G _ d P2.out.doc (.slice ka kn kc) keep KS2.out)
        have a2 := (A2.out.cell 5 : _ = some (Value.slice ka kn kc))
        generalize Ek.crash d (Ek.nth keep) = d2 at CC P2 KU2
        clear hp O2 P1 T1 A1
        go_wp2_with (refine wpList_load_row rfl 32 (.tmp 7) rfl B7 rfl 32 #[.slice xa xn xc, .slice xl xm xk, .int .i64 xf, .bool xd] (0, 0) _ T2.out Try.underlying32 rfl Try.infoDisk4 ?_)
        refine CC.out.mono ?_
        clear CC a2
        rintro e w3 ⟨⟨v3, rfl, hd3⟩, hb3⟩
        obtain ⟨E3, G3, O3, hE3, hG3, hG3l, hE3'⟩ := P2.out.ref3 hb3 hd3
        obtain ⟨ya, yn, yc, yl, ym, yk, yf, yd, rfl⟩ := hd3.four
        have T3 := Lib.hid (T2.out.later hb3)
        have hGB : ¬ G3 B7 := fun hh => HE1.out.2 (hG3 _ (P2.out.ly.lt B7 HE1.out.1) hh)
        have hEB : E3 B7 := hE3 _ HE1.out.1
        obtain ⟨wz, hwz⟩ : ∃ W, W = w3.setRow B7 #[.slice ya yn yc, .slice yl ym yk, .int .i64 yf, .bool yd] := ⟨_, rfl⟩
        have O5 := O3.tch B7 hEB hGB HW2.out (tch_row w3 B7 #[.slice ya yn yc, .slice yl ym yk, .int .i64 yf, .bool yd])
        rw [← hwz] at O5
        have Pz := Lib.hid O5
        have Tz := Lib.hid (show Has wz B7 (.cells #[.slice ya yn yc, .slice yl ym yk, .int .i64 yf, .bool yd] 32) by rw [hwz]; exact setRow_heap _ _ _ _ _ _ T3.out)
        have HE5 := Lib.hid (And.intro hEB hGB)
        have Vz := Lib.hid hwz
        clear hd3 hb3 O3 hE3 hG3 hG3l hE3' hGB hEB hwz O5 A2 T2
        obtain ⟨lb, lg, ls, le, CL, RL⟩ := two_loads Pz.out
        have CL' := Lib.hid CL
        have RL' := Lib.hid RL
        obtain ⟨LS, hLS⟩ : ∃ S, S = strB lb := ⟨_, rfl⟩
        rw [← hLS] at RL'
        have HLS := Lib.hid hLS
        clear CL RL hLS
        go_wp2_with (refine wpList_store_row rfl 32 (.tmp 7) (.tmp 110) rfl B7 #[.slice ya yn yc, .slice yl ym yk, .int .i64 yf, .bool yd] rfl rfl 32 _ T3.out Try.infoDisk4 rfl (by simp [Value.oneCell']) ?_)
        rw [← Vz.out]
        refine (CL'.out _ (Below.refl _ _)).mono ?_
        rintro e w6 ⟨hb6, sa, sn, sc, rfl, hsl6⟩
        have P6 := Lib.hid (Pz.out.later hb6)
        have T6 := Lib.hid (Tz.out.later hb6)
        have S6 := Lib.hid hsl6
        have CR6 := Lib.hid (RL'.out w6 hb6)
        clear hb6 hsl6 CL' RL'
        go_wp2_with (refine wpList_load_row rfl 32 (.tmp 7) rfl B7 rfl 32 #[.slice ya yn yc, .slice yl ym yk, .int .i64 yf, .bool yd] (0, 0) _ T6.out Try.underlying32 rfl Try.infoDisk4 ?_)
        refine CR6.out.mono ?_
        clear CR6
        rintro e w7 ⟨rfl, hb7⟩
        have P7 := Lib.hid (P6.out.later hb7)
        have T7 := Lib.hid (T6.out.later hb7)
        have hcv := string_of w7 sa sn sc lb LS (S6.out.later hb7) HLS
        have AL := Lib.hid (zalike_any P7.out)
        have hbq : (LS.toList == LS.toList) = true := beq_self_eq_true _
        have hbg : ((lg : Int) != (lg : Int)) = false := by simp
        have hbe : ((le : Int) != (le : Int)) = false := by simp
        have t0 := (T7.out.cell 0 : _ = some (Value.slice ya yn yc))
        have t1 := (T7.out.cell 1 : _ = some (Value.slice yl ym yk))
        have t2 := (T7.out.cell 2 : _ = some (Value.int .i64 yf))
        have t3 := (T7.out.cell 3 : _ = some (Value.bool yd))
        clear hb7 P6 T6 S6
        go_wp2_with fail
        refine AL.out.mono ?_
        clear AL hcv t0 t1 t2 t3
        rintro e w8 ⟨rfl, hb8⟩
        have P8 := Lib.hid (P7.out.later hb8)
        have T8 := Lib.hid (T7.out.later hb8)
        have hlt := HLT.out
        clear hb8 P7 T7
        go_wp2_with fail
        go_round
        case rel => exact ⟨i + 1, d2, ya, yn, yc, yl, ym, yk, yf, yd, _, _, by go_num, by omega, P8, T8, HE5, KU2⟩
        case measure => simp [intOf]; omega
      have k4b : ((kind : Int) == 4) = false := by rw [beq_eq_false_iff_ne]; exact k4
      by_cases k5 : kind = 5
      · subst k5
        have KU2 := Lib.hid (show (Ek.hand d I long c).used ≤ 14 * (i + 1) ∧ (Ek.hand d I long c).n ≤ 24 from ⟨by have := Ek.hand_used d I long c; have := KU'.out.1; omega, by rw [Ek.hand_n]; exact KU'.out.2⟩)
        have CPl := zwr_any (P1.out.base (fun k => k = B7) (fun k hk => by subst hk; exact HE1.out)) (by have := hu9.out; omega) 5 I long c ba bl bc ka kn kc HBI.out HBG.out HC8.out
        generalize Ek.hand d I long c = d2 at CPl KU2
        have CP := Lib.hid CPl
        clear CPl
        go_wp2_with (first | (refine wpList_store_row rfl 38 (.tmp 10) (.tmp 56) rfl wr.heap.size #[.int .i64 5, .slice ba bl bc, .int .i64 I, .int .i64 long, .int .u8 (c : Int), .slice ka kn kc] rfl rfl 38 _ ZL.out Try.infoAct6 rfl (by simp [Value.oneCell']) ?_) | (refine wpList_load_row rfl 32 (.tmp 7) rfl B7 rfl 32 #[.slice xa xn xc, .slice xl xm xk, .int .i64 xf, .bool xd] (0, 0) _ T1L.out Try.underlying32 rfl Try.infoDisk4 ?_) | (refine wpList_load_row rfl 38 (.tmp 10) rfl wr.heap.size rfl 38 #[.int .i64 5, .slice ba bl bc, .int .i64 I, .int .i64 long, .int .u8 (c : Int), .slice ka kn kc] (0, 0) _ A1L.out Try.underlying38 rfl Try.infoAct6 ?_))
        rw [← V1.out]
        refine CP.out.mono ?_
        clear CP V1 T1L A1L f0 f1 f2 f3 f4 f5 g0 g1 g2 g3 g5 ZL
        rintro e w2 ⟨v2, E2, G2, rfl, O2⟩
        obtain ⟨ya, yn, yc, yl, ym, yk, yf, yd, rfl⟩ := O2.doc.four
        obtain ⟨-, hE2, hG2, hsame⟩ := O2.fr B7 rfl
        have T2 := Lib.hid (show Has w2 B7 (.cells #[.slice xa xn xc, .slice xl xm xk, .int .i64 xf, .bool xd] 32) from hsame.trans T1.out)
        obtain ⟨wz, hwz⟩ : ∃ W, W = w2.setRow B7 #[.slice ya yn yc, .slice yl ym yk, .int .i64 yf, .bool yd] := ⟨_, rfl⟩
        have O5 := (O2.none w).tch B7 hE2 hG2 HW2.out (tch_row w2 B7 #[.slice ya yn yc, .slice yl ym yk, .int .i64 yf, .bool yd])
        rw [← hwz] at O5
        have Pz := Lib.hid O5
        have Tz := Lib.hid (show Has wz B7 (.cells #[.slice ya yn yc, .slice yl ym yk, .int .i64 yf, .bool yd] 32) by rw [hwz]; exact setRow_heap _ _ _ _ _ _ T2.out)
        have HE5 := Lib.hid (And.intro hE2 hG2)
        have Vz := Lib.hid hwz
        clear hwz O5 O2 hE2 hG2 hsame P1 T1
        obtain ⟨lb, lg, ls, le, CL, RL⟩ := two_loads Pz.out
        have CL' := Lib.hid CL
        have RL' := Lib.hid RL
        obtain ⟨LS, hLS⟩ : ∃ S, S = strB lb := ⟨_, rfl⟩
        rw [← hLS] at RL'
        have HLS := Lib.hid hLS
        clear CL RL hLS
        go_wp2_with (refine wpList_store_row rfl 32 (.tmp 7) (.tmp 116) rfl B7 #[.slice ya yn yc, .slice yl ym yk, .int .i64 yf, .bool yd] rfl rfl 32 _ T2.out Try.infoDisk4 rfl (by simp [Value.oneCell']) ?_)
        rw [← Vz.out]
        refine (CL'.out _ (Below.refl _ _)).mono ?_
        rintro e w6 ⟨hb6, sa, sn, sc, rfl, hsl6⟩
        have P6 := Lib.hid (Pz.out.later hb6)
        have T6 := Lib.hid (Tz.out.later hb6)
        have S6 := Lib.hid hsl6
        have CR6 := Lib.hid (RL'.out w6 hb6)
        clear hb6 hsl6 CL' RL'
        go_wp2_with (refine wpList_load_row rfl 32 (.tmp 7) rfl B7 rfl 32 #[.slice ya yn yc, .slice yl ym yk, .int .i64 yf, .bool yd] (0, 0) _ T6.out Try.underlying32 rfl Try.infoDisk4 ?_)
        refine CR6.out.mono ?_
        clear CR6
        rintro e w7 ⟨rfl, hb7⟩
        have P7 := Lib.hid (P6.out.later hb7)
        have T7 := Lib.hid (T6.out.later hb7)
        have hcv := string_of w7 sa sn sc lb LS (S6.out.later hb7) HLS
        have AL := Lib.hid (zalike_any P7.out)
        have hbq : (LS.toList == LS.toList) = true := beq_self_eq_true _
        have hbg : ((lg : Int) != (lg : Int)) = false := by simp
        have hbe : ((le : Int) != (le : Int)) = false := by simp
        have t0 := (T7.out.cell 0 : _ = some (Value.slice ya yn yc))
        have t1 := (T7.out.cell 1 : _ = some (Value.slice yl ym yk))
        have t2 := (T7.out.cell 2 : _ = some (Value.int .i64 yf))
        have t3 := (T7.out.cell 3 : _ = some (Value.bool yd))
        clear hb7 P6 T6 S6
        go_wp2_with fail
        refine AL.out.mono ?_
        clear AL hcv t0 t1 t2 t3
        rintro e w8 ⟨rfl, hb8⟩
        have P8 := Lib.hid (P7.out.later hb8)
        have T8 := Lib.hid (T7.out.later hb8)
        have hlt := HLT.out
        clear hb8 P7 T7
        go_wp2_with fail
        go_round
        case rel => exact ⟨i + 1, d2, ya, yn, yc, yl, ym, yk, yf, yd, _, _, by go_num, by omega, P8, T8, HE5, KU2⟩
        case measure => simp [intOf]; omega
      have k5b : ((kind : Int) == 5) = false := by rw [beq_eq_false_iff_ne]; exact k5
      have KU2 := Lib.hid (show d.used ≤ 14 * (i + 1) ∧ d.n ≤ 24 from ⟨by have := KU'.out.1; omega, KU'.out.2⟩)
      obtain ⟨ya, hya⟩ : ∃ x, x = xa := ⟨_, rfl⟩
      obtain ⟨yn, hyn⟩ : ∃ x, x = xn := ⟨_, rfl⟩
      obtain ⟨yc, hyc⟩ : ∃ x, x = xc := ⟨_, rfl⟩
      obtain ⟨yl, hyl⟩ : ∃ x, x = xl := ⟨_, rfl⟩
      obtain ⟨ym, hym⟩ : ∃ x, x = xm := ⟨_, rfl⟩
      obtain ⟨yk, hyk⟩ : ∃ x, x = xk := ⟨_, rfl⟩
      obtain ⟨yf, hyf⟩ : ∃ x, x = xf := ⟨_, rfl⟩
      obtain ⟨yd, hyd⟩ : ∃ x, x = xd := ⟨_, rfl⟩
      subst hya hyn hyc hyl hym hyk hyf hyd
      obtain ⟨wz, hwz⟩ : ∃ W, W = W1 := ⟨_, rfl⟩
      subst hwz
      obtain ⟨lb, lg, ls, le, CL, RL⟩ := two_loads P1.out
      have CL' := Lib.hid CL
      have RL' := Lib.hid RL
      obtain ⟨LS, hLS⟩ : ∃ S, S = strB lb := ⟨_, rfl⟩
      rw [← hLS] at RL'
      have HLS := Lib.hid hLS
      clear CL RL hLS
      go_wp2_with (refine wpList_store_row rfl 38 (.tmp 10) (.tmp 56) rfl wr.heap.size #[.int .i64 kind, .slice ba bl bc, .int .i64 I, .int .i64 long, .int .u8 (c : Int), .slice ka kn kc] rfl rfl 38 _ ZL.out Try.infoAct6 rfl (by simp [Value.oneCell']) ?_)
      rw [← V1.out]
      clear V1 T1L A1L f0 f1 f2 f3 f4 f5 g0 g1 g2 g3 g5 ZL
      refine (CL'.out _ (Below.refl _ _)).mono ?_
      rintro e w6 ⟨hb6, sa, sn, sc, rfl, hsl6⟩
      have P6 := Lib.hid (P1.out.later hb6)
      have T6 := Lib.hid (T1.out.later hb6)
      have S6 := Lib.hid hsl6
      have CR6 := Lib.hid (RL'.out w6 hb6)
      clear hb6 hsl6 CL' RL'
      go_wp2_with (refine wpList_load_row rfl 32 (.tmp 7) rfl B7 rfl 32 #[.slice ya yn yc, .slice yl ym yk, .int .i64 yf, .bool yd] (0, 0) _ T6.out Try.underlying32 rfl Try.infoDisk4 ?_)
      refine CR6.out.mono ?_
      clear CR6
      rintro e w7 ⟨rfl, hb7⟩
      have P7 := Lib.hid (P6.out.later hb7)
      have T7 := Lib.hid (T6.out.later hb7)
      have hcv := string_of w7 sa sn sc lb LS (S6.out.later hb7) HLS
      have AL := Lib.hid (zalike_any P7.out)
      have hbq : (LS.toList == LS.toList) = true := beq_self_eq_true _
      have hbg : ((lg : Int) != (lg : Int)) = false := by simp
      have hbe : ((le : Int) != (le : Int)) = false := by simp
      have t0 := (T7.out.cell 0 : _ = some (Value.slice ya yn yc))
      have t1 := (T7.out.cell 1 : _ = some (Value.slice yl ym yk))
      have t2 := (T7.out.cell 2 : _ = some (Value.int .i64 yf))
      have t3 := (T7.out.cell 3 : _ = some (Value.bool yd))
      clear hb7 P6 T6 S6
      go_wp2_with fail
      refine AL.out.mono ?_
      clear AL hcv t0 t1 t2 t3
      rintro e w8 ⟨rfl, hb8⟩
      have P8 := Lib.hid (P7.out.later hb8)
      have T8 := Lib.hid (T7.out.later hb8)
      have hlt := HLT.out
      clear hb8 P7 T7
      go_wp2_with fail
      go_round
      case rel => exact ⟨i + 1, d, ya, yn, yc, yl, ym, yk, yf, yd, _, _, by go_num, by omega, P8, T8, HE1, KU2⟩
      case measure => simp [intOf]; omega
    · have j0 : decide ((i : Int) < (L : Int)) = false := decide_eq_false (by omega)
      have B9 := Lib.hid KP.out.below
      have LV := Lib.hid (zlives_is wr)
      clear hi KP KT KE KU
      go_wp2_with fail
      refine LV.out.mono ?_
      rintro e w9 ⟨rfl, hb9⟩
      go_wp2_with fail
      go_ret
      exact ⟨rfl, B9.out.trans (hb9.mono B9.out.size)⟩

theorem slotsPlays_walk (n : Int) (v : Value) (l : List Zc) (w : World) (_lo : -9223372036854775808 ≤ n) (_hi : n ≤ 9223372036854775807) (hl : Zcs w v l ∧ ∀ ac ∈ l, Zk8 ac) :
    Calls Try.prog 3 #[.int .i64 n, v] w fun e w' => e = .returned (.bool true) ∧ Below w.heap.size w w' := by
  by_cases h : n < 1 ∨ 24 < n
  · obtain ⟨⟨a, cap, rfl, _, _⟩, _⟩ := hl
    exact splays_bad n h a _ cap w
  · obtain ⟨m, rfl⟩ : ∃ m : Nat, n = (m : Int) := ⟨n.toNat, by omega⟩
    by_cases h2 : Few l
    · exact splays_main m (by omega) (by omega) v l w hl.1 h2
    · exact splays_many m (by omega) (by omega) v l w hl.1 h2

set_option maxRecDepth 100000 in
theorem slotsPlays_lifted (os : Os) (started : os.Started) (H : Type) (enc : TypeId × Value → H) :
    ReturnsInHanded {} Try.checked os 3 .any (Rows.slotsPlaysSpec.pre6 enc Try.prog Try.f3 Rows.slotsPlaysRow.domain false) (Rows.slotsPlaysSpec.post enc Try.prog Try.f3 false true false false) := by
  refine returnsInHanded_of_change_sized (C := Try.checked) Try.own started (by kernel_rfl) Try.func3
    (ChangeSpec.witness6 (enc := enc) (C := Try.checked) false ⟨#[], #[.int .i64 0, .slice none 0 0], []⟩ 8 (by kernel_rfl) (by kernel_rfl) (by kernel_rfl) (by kernel_rfl)) ?_
  intro W base args ds gs before hval0 hW _ hsz0 _
  have hval : ∀ (j : Nat) t v, Try.f3.params[j]? = some t → args[j]? = some v → Value.okWide Try.prog W .any base t v := hval0
  have hsz : (DataW.weightsEach Try.prog (Try.f3.params.toList ++ Rows.slotsPlaysSpec.plain.varTypes Try.prog) (ds ++ gs)).all (· ≤ reachBytes) = true := hsz0
  have hW' := hW
  obtain ⟨p, q, hA0, hV, rfl, hfz, hnd⟩ := hW
  have hA : DataW.TrodAll enc Try.prog W 0 (fun _ => true) true Try.f3.params.toList args.toList ds p := hA0
  rw [Try.params3] at hA hval hsz
  obtain ⟨v0, vs0, d0, ds0, p0, q0, hargs, rfl, rfl, h0, r0⟩ := trodAll_cons hA
  obtain ⟨v1, vs1, d1, ds1, p1, q1, rfl, rfl, rfl, h1, r1⟩ := trodAll_cons r0
  obtain ⟨rfl, rfl, rfl⟩ := trodAll_nil r1
  obtain rfl : args = #[v0, v1] := by cases args; simp_all
  obtain ⟨rfl, rfl⟩ := trodVars_none hV
  have k0 := h0
  have lt0 : ∀ x ∈ p0, x.block < W.heap.size := by obtain ⟨m, hm⟩ := k0; exact DataW.trod_lt m _ _ _ hm
  obtain ⟨n0, ev0, _, _, wn0⟩ := open_int Try.underlying3 (hval 0 3 v0 rfl rfl) h0
  subst ev0
  obtain ⟨lo0, hi0⟩ := wf_bounds wn0
  have k1 := h1
  have lt1 : ∀ x ∈ p1, x.block < W.heap.size := by obtain ⟨m, hm⟩ := k1; exact DataW.trod_lt m _ _ _ hm
  have w1 : ∀ n ∈ d1.weights Try.prog 22, n ≤ reachBytes := fun n hn => by simpa using List.all_eq_true.1 hsz n (DataW.weights_mem_each (j := 1) rfl rfl n hn)
  obtain ⟨as1, al1⟩ := zacts_open (hval 1 22 v1 rfl rfl) h1 w1
  clear hA0 hval0 hsz0
  refine (slotsPlays_walk n0 v1 as1 W lo0 hi0 al1).mono fun e W' ⟨he, bel⟩ => ?_
  subst he
  exact ⟨_, rfl, _, _, _, [], _, [], hW', trodAll_mk1 (shut_bool Try.underlying4 _), (trodAll_cons_mk (Below.trod Try.laidOut (by kernel_rfl) (of_decide_eq_true (by kernel_rfl)) k0 bel lt0) (trodAll_cons_mk (Below.trod Try.laidOut (by kernel_rfl) (of_decide_eq_true (by kernel_rfl)) k1 bel lt1) trodAll_mk0)), rfl, bel.frame _, fun h => by cases h⟩

theorem slotsPlays_proved : Rows.SlotsPlaysSaid :=
  OpenClaim.holds_of_wide 3 Try.f3 rfl rfl rfl rfl rfl rfl rfl ⟨rfl, rfl, rfl, rfl, rfl⟩ rfl rfl rfl rfl rfl (by kernel_rfl) Try.func3 (by kernel_rfl)
    (of_decide_eq_true (by kernel_rfl)) (by unfold Func.isWrapper; rw [if_neg (of_decide_eq_false (by kernel_rfl))]; exact ⟨rfl, rfl⟩)
    (fun os started H enc _ => slotsPlays_lifted os started H enc)
end Go.Proofs.Ythbiibinmofmfaa
