/- The document's Commit. -/
import Derived.Test.YthbiibinmofmfaaZrfm
import Derived.Test.YthbiibinmofmfaaZcpl

namespace Go.Proofs.Ythbiibinmofmfaa
set_option maxRecDepth 100000
open Go.RowKit

set_option maxRecDepth 100000 in
set_option maxHeartbeats 4000000 in
theorem rcommit_a (a la : Option Addr) (N c L lc : Nat) (FF : Int) (DD : Bool) (SB : ByteArray) (LB : ByteArray) (g sl : Nat) (er : Int) (he : er ≠ 0) (w : World) (HLD : Hid (∀ W, Below w.heap.size w W → Calls Try.prog 19 #[.agg #[.slice a N c, .slice la L lc, .int .i64 FF, .bool DD]] W fun e w' => e = .returned (.tuple #[.string LB, .int .i64 (g : Int), .int .i64 (sl : Int), .int .i64 er]) ∧ Below W.heap.size W w')) :
    Calls Try.prog 9 #[.agg #[.slice a N c, .slice la L lc, .int .i64 FF, .bool DD], .string SB] w fun e w' => e = .returned (.tuple #[.agg #[.slice a N c, .slice la L lc, .int .i64 FF, .bool DD], .int .i64 er]) ∧ Below w.heap.size w w' := by
  obtain ⟨W0, hW0, hb0, hs0, hM0, hZ0⟩ := two_boxes w (.cells #[.slice a N c, .slice la L lc, .int .i64 FF, .bool DD] 32) (.cells #[.slice none 0 0, .slice none 0 0, .int .i64 0, .bool false] 32)
  have V0 := Lib.hid hW0
  have M0 := Lib.hid hM0
  have Z0 := Lib.hid hZ0
  have B0 := Lib.hid hb0
  have S0 := Lib.hid hs0
  clear hM0 hZ0 hb0 hs0 hW0
  have hne : (er != 0) = true := by simpa using he
  have he3 : ¬ ((er : Int) = 0) := he
  clear he
  go_enter Try.func9, Try.ntmps9
  go_wp2_with fail
  rw [← V0.out]
  clear V0
  refine (HLD.out _ B0.out).mono ?_
  clear HLD
  rintro e w1 ⟨rfl, hb1⟩
  have M1 := Lib.hid (M0.out.later hb1)
  have Z1 := Lib.hid (Z0.out.later hb1)
  have B1 := Lib.hid (B0.out.trans (hb1.mono B0.out.size))
  have S1 : Hid (w.heap.size + 2 ≤ w1.heap.size) := by have := hb1.size; have := S0.out; show _ ≤ _; omega
  have b1 := Lib.hid (B1.out)
  clear hb1 M0 Z0 B0 S0
  skip
  go_wp2_with (first | (refine wpList_load_row rfl 32 (.tmp 2) rfl w.heap.size rfl 32 #[.slice a N c, .slice la L lc, .int .i64 FF, .bool DD] (0, 0) _ M1.out Try.underlying32 rfl Try.infoDisk4 ?_) | (refine wpList_store_row rfl 32 (.tmp 4) (.tmp 22) rfl (w.heap.size + 1) #[.slice a N c, .slice la L lc, .int .i64 FF, .bool DD] rfl rfl 32 _ Z1.out Try.infoDisk4 rfl (by simp [Value.oneCell']) ?_))
  refine bodyPost_ret (results_ct rfl _ _ (w.heap.size + 1) 32 #[.slice a N c, .slice la L lc, .int .i64 FF, .bool DD] (0, 0) _ rfl (setRow_heap _ _ _ _ _ _ Z1.out) Try.underlying32 rfl Try.infoDisk4) rfl ⟨rfl, below_setRow B1.out (by omega) _⟩

set_option maxRecDepth 100000 in
set_option maxHeartbeats 4000000 in
theorem rcommit_b (a la : Option Addr) (N c L lc : Nat) (FF : Int) (DD : Bool) (SB : ByteArray) (LB : ByteArray) (g sl : Nat) (er : Int) (he : er = 0) (hg : g = 4294967295) (w : World) (HLD : Hid (∀ W, Below w.heap.size w W → Calls Try.prog 19 #[.agg #[.slice a N c, .slice la L lc, .int .i64 FF, .bool DD]] W fun e w' => e = .returned (.tuple #[.string LB, .int .i64 (g : Int), .int .i64 (sl : Int), .int .i64 er]) ∧ Below W.heap.size W w')) :
    Calls Try.prog 9 #[.agg #[.slice a N c, .slice la L lc, .int .i64 FF, .bool DD], .string SB] w fun e w' => e = .returned (.tuple #[.agg #[.slice a N c, .slice la L lc, .int .i64 FF, .bool DD], .int .i64 3]) ∧ Below w.heap.size w w' := by
  obtain ⟨W0, hW0, hb0, hs0, hM0, hZ0⟩ := two_boxes w (.cells #[.slice a N c, .slice la L lc, .int .i64 FF, .bool DD] 32) (.cells #[.slice none 0 0, .slice none 0 0, .int .i64 0, .bool false] 32)
  have V0 := Lib.hid hW0
  have M0 := Lib.hid hM0
  have Z0 := Lib.hid hZ0
  have B0 := Lib.hid hb0
  have S0 := Lib.hid hs0
  clear hM0 hZ0 hb0 hs0 hW0
  subst he
  subst hg
  go_enter Try.func9, Try.ntmps9
  go_wp2_with fail
  rw [← V0.out]
  clear V0
  refine (HLD.out _ B0.out).mono ?_
  clear HLD
  rintro e w1 ⟨rfl, hb1⟩
  have M1 := Lib.hid (M0.out.later hb1)
  have Z1 := Lib.hid (Z0.out.later hb1)
  have B1 := Lib.hid (B0.out.trans (hb1.mono B0.out.size))
  have S1 : Hid (w.heap.size + 2 ≤ w1.heap.size) := by have := hb1.size; have := S0.out; show _ ≤ _; omega
  have b1 := Lib.hid (B1.out)
  clear hb1 M0 Z0 B0 S0
  skip
  go_wp2_with (first | (refine wpList_load_row rfl 32 (.tmp 2) rfl w.heap.size rfl 32 #[.slice a N c, .slice la L lc, .int .i64 FF, .bool DD] (0, 0) _ M1.out Try.underlying32 rfl Try.infoDisk4 ?_) | (refine wpList_store_row rfl 32 (.tmp 4) (.tmp 26) rfl (w.heap.size + 1) #[.slice a N c, .slice la L lc, .int .i64 FF, .bool DD] rfl rfl 32 _ Z1.out Try.infoDisk4 rfl (by simp [Value.oneCell']) ?_))
  refine bodyPost_ret (results_ct rfl _ _ (w.heap.size + 1) 32 #[.slice a N c, .slice la L lc, .int .i64 FF, .bool DD] (0, 0) _ rfl (setRow_heap _ _ _ _ _ _ Z1.out) Try.underlying32 rfl Try.infoDisk4) rfl ⟨rfl, below_setRow B1.out (by omega) _⟩

set_option maxRecDepth 100000 in
set_option maxHeartbeats 4000000 in
theorem rcommit_c (a la : Option Addr) (N c L lc : Nat) (FF : Int) (DD : Bool) (SB : ByteArray) (LB : ByteArray) (g sl : Nat) (er : Int) (he : er = 0) (hg : g ≠ 4294967295) (_hg2 : g < 4294967296) (rm bl : Nat) (hsz : SB.size = bl) (_hN : N ≤ 8192) (_hbl : bl ≤ 9223372036854775807) (hrm : rm < bl) (HRM : Hid (∀ W, Calls Try.prog 23 #[.int .i64 (N : Int)] W fun e w' => e = .returned (.int .i64 (rm : Int)) ∧ W = w')) (w : World) (HLD : Hid (∀ W, Below w.heap.size w W → Calls Try.prog 19 #[.agg #[.slice a N c, .slice la L lc, .int .i64 FF, .bool DD]] W fun e w' => e = .returned (.tuple #[.string LB, .int .i64 (g : Int), .int .i64 (sl : Int), .int .i64 er]) ∧ Below W.heap.size W w')) :
    Calls Try.prog 9 #[.agg #[.slice a N c, .slice la L lc, .int .i64 FF, .bool DD], .string SB] w fun e w' => e = .returned (.tuple #[.agg #[.slice a N c, .slice la L lc, .int .i64 FF, .bool DD], .int .i64 7]) ∧ Below w.heap.size w w' := by
  obtain ⟨W0, hW0, hb0, hs0, hM0, hZ0⟩ := two_boxes w (.cells #[.slice a N c, .slice la L lc, .int .i64 FF, .bool DD] 32) (.cells #[.slice none 0 0, .slice none 0 0, .int .i64 0, .bool false] 32)
  have V0 := Lib.hid hW0
  have M0 := Lib.hid hM0
  have Z0 := Lib.hid hZ0
  have B0 := Lib.hid hb0
  have S0 := Lib.hid hs0
  clear hM0 hZ0 hb0 hs0 hW0
  subst he
  have q1 : ((g : Int) == 4294967295) = false := by rw [beq_eq_false_iff_ne]; omega
  have q1' : ¬ ((g : Int) = 4294967295) := by omega
  have q2 : decide ((rm : Int) < (bl : Int)) = true := decide_eq_true (by omega)
  have q2' : rm < bl := hrm
  clear hg hrm
  go_enter Try.func9, Try.ntmps9
  go_wp2_with fail
  rw [← V0.out]
  clear V0
  refine (HLD.out _ B0.out).mono ?_
  clear HLD
  rintro e w1 ⟨rfl, hb1⟩
  have M1 := Lib.hid (M0.out.later hb1)
  have Z1 := Lib.hid (Z0.out.later hb1)
  have B1 := Lib.hid (B0.out.trans (hb1.mono B0.out.size))
  have S1 : Hid (w.heap.size + 2 ≤ w1.heap.size) := by have := hb1.size; have := S0.out; show _ ≤ _; omega
  have b1 := Lib.hid (B1.out)
  clear hb1 M0 Z0 B0 S0
  have m0 := (M1.out.cell 0 : _ = some (Value.slice a N c))
  go_wp2_with (first | (refine wpList_load_row rfl 32 (.tmp 2) rfl w.heap.size rfl 32 #[.slice a N c, .slice la L lc, .int .i64 FF, .bool DD] (0, 0) _ M1.out Try.underlying32 rfl Try.infoDisk4 ?_) | (refine wpList_store_row rfl 32 (.tmp 4) (.tmp 34) rfl (w.heap.size + 1) #[.slice a N c, .slice la L lc, .int .i64 FF, .bool DD] rfl rfl 32 _ Z1.out Try.infoDisk4 rfl (by simp [Value.oneCell']) ?_) | (go_at_call 23; refine (HRM.out _).mono ?_; rintro e w2 ⟨rfl, rfl⟩))
  refine bodyPost_ret (results_ct rfl _ _ (w.heap.size + 1) 32 #[.slice a N c, .slice la L lc, .int .i64 FF, .bool DD] (0, 0) _ rfl (setRow_heap _ _ _ _ _ _ Z1.out) Try.underlying32 rfl Try.infoDisk4) rfl ⟨rfl, below_setRow B1.out (by omega) _⟩

set_option maxRecDepth 100000 in
set_option maxHeartbeats 16000000 in
theorem rcommit_main (w : World) (G : Nat → Prop) (a la : Option Addr) (N c L lc : Nat) (FF : Int) (DD : Bool) (hG : ∀ k, G k → k < w.heap.size) (SB LB : ByteArray) (g sl rm bl SH P FR ws : Nat) (er : Int) (he : er = 0) (hg : g < 4294967295) (hsl : sl ≤ 1) (hsz : SB.size = bl) (hN : N ≤ 8192) (hN3 : 3 ≤ N) (hrm : ¬ rm < bl) (hbl : bl ≤ 1048576) (HLD : Hid (∀ W, Below w.heap.size w W → Calls Try.prog 19 #[.agg #[.slice a N c, .slice la L lc, .int .i64 FF, .bool DD]] W fun e w' => e = .returned (.tuple #[.string LB, .int .i64 (g : Int), .int .i64 (sl : Int), .int .i64 er]) ∧ Below W.heap.size W w'))
    (HRM : Hid (∀ W, Calls Try.prog 23 #[.int .i64 (N : Int)] W fun e w' => e = .returned (.int .i64 (rm : Int)) ∧ W = w'))
    (hSH : SH = (N - 1) / 2) (hP : P = (bl + 511) / 512) (hws : ws = (1 - sl) * SH) (hFR : FR = 1 + ws)
    (PT DW : Nat → Ek.Dk) (PE EW : Nat → Int) (PR : Nat → List Nat) (R D1 D2 D3 : Ek.Dk) (eR C1 E2 C3 : Int) (HB : ByteArray)
    (HWR : Hid (∀ i, i < P → ∀ S, S = strB (PR i) → ∀ W v, DDk W (fun q => G q ∨ w.heap.size + 2 ≤ q) v (PT i) → Calls Try.prog 24 #[v, .int .i64 ((FR + i : Nat) : Int), .string S] W (RdP W (fun q => G q ∨ w.heap.size + 2 ≤ q) (DW i) (EW i))))
    (HPR : Hid (∀ i, i < P → ∀ lo hi zn, lo = i * 512 → hi = min bl ((i + 1) * 512) → zn = 512 - (hi - lo) → SB.extract lo hi ++ strB (List.replicate zn 0) = strB (PR i)))
    (HSU : Hid (∀ i, i < P → PE i = 0 → EW i = 0 → PT (i + 1) = DW i ∧ PE (i + 1) = 0))
    (HFE : Hid (∀ i, i < P → PE i = 0 → EW i ≠ 0 → R = DW i ∧ eR = EW i))
    (HEN : Hid (PE P = 0 → (C1 ≠ 0 ∧ R = D1 ∧ eR = C1) ∨ (C1 = 0 ∧ E2 ≠ 0 ∧ R = D2 ∧ eR = E2) ∨ (C1 = 0 ∧ E2 = 0 ∧ R = D3 ∧ eR = C3)))
    (CS1 : Hid (∀ W v, DDk W (fun q => G q ∨ w.heap.size + 2 ≤ q) v (PT P) → Calls Try.prog 25 #[v] W (RdP W (fun q => G q ∨ w.heap.size + 2 ≤ q) D1 C1)))
    (CW2 : Hid (∀ W v, DDk W (fun q => G q ∨ w.heap.size + 2 ≤ q) v D1 → Calls Try.prog 24 #[v, .int .i64 0, .string HB] W (RdP W (fun q => G q ∨ w.heap.size + 2 ≤ q) D2 E2)))
    (CS3 : Hid (∀ W v, DDk W (fun q => G q ∨ w.heap.size + 2 ≤ q) v D2 → Calls Try.prog 25 #[v] W (RdP W (fun q => G q ∨ w.heap.size + 2 ≤ q) D3 C3)))
    (HH : Hid (∀ W, Calls Try.prog 26 #[.int .i64 ((g : Int) + 1), .int .i64 (1 - (sl : Int)), .string SB] W fun e w' => e = .returned (.string HB) ∧ Below W.heap.size W w'))
    (h0 : PE 0 = 0) (hd0 : DDk w G (.agg #[.slice a N c, .slice la L lc, .int .i64 FF, .bool DD]) (PT 0)) :
    Calls Try.prog 9 #[.agg #[.slice a N c, .slice la L lc, .int .i64 FF, .bool DD], .string SB] w (RdP w G R eR) := by
  subst he
  obtain ⟨W0, hW0, hb0, hs0, hM0, hZ0⟩ := two_boxes w (.cells #[.slice a N c, .slice la L lc, .int .i64 FF, .bool DD] 32) (.cells #[.slice none 0 0, .slice none 0 0, .int .i64 0, .bool false] 32)
  have V0 := Lib.hid hW0
  have M0 := Lib.hid hM0
  have Z0 := Lib.hid hZ0
  have B0 := Lib.hid hb0
  have S0 := Lib.hid hs0
  clear hM0 hZ0 hb0 hs0 hW0
  have D0 := Lib.hid (fun W (hb : Below w.heap.size w W) => (hd0.later hb).mono (G' := (fun q => G q ∨ w.heap.size + 2 ≤ q)) (fun _ h => Or.inl h))
  have q1 : ((g : Int) == 4294967295) = false := by rw [beq_eq_false_iff_ne]; omega
  have q1' : ¬ ((g : Int) = 4294967295) := by omega
  have q2 : decide ((rm : Int) < (bl : Int)) = false := decide_eq_false (by omega)
  have q2' : ¬ rm < bl := hrm
  have q3 : Value.int .i64 (((N : Int) - 1).tdiv 2) = .int .i64 (SH : Int) := by congr 1; rw [Int.tdiv_eq_ediv_of_nonneg (by omega)]; omega
  have q4 : ((N : Int) - 1) / 2 = (SH : Int) := by omega
  have hws1 : ws ≤ SH := by rw [hws]; rcases Nat.le_one_iff_eq_zero_or_eq_one.1 hsl with e | e <;> rw [e] <;> omega
  have hss : (1 - (sl : Int)) = ((1 - sl : Nat) : Int) := by omega
  have hwp : Value.int .i64 ((1 - (sl : Int)) * (SH : Int)) = .int .i64 (ws : Int) := by rw [hss, hws]; push_cast; rfl
  have hwq : (1 - (sl : Int)) * (SH : Int) = (ws : Int) := by rw [hss, hws]; push_cast; rfl
  have hw4 : (ws : Int) ≤ 4096 := by omega
  have hbl' : (bl : Int) ≤ 1048576 := by omega
  have hgg : (g : Int) + 1 ≤ 4294967295 := by omega
  have hsl' : (sl : Int) ≤ 1 := by omega
  have hP4 : P ≤ 2048 := by omega
  have hN' : (N : Int) ≤ 8192 := by omega
  have hN3' : 3 ≤ (N : Int) := by omega
  have HPB := Lib.hid (fun i => (by omega : i < P ↔ i * 512 < bl))
  have HFR := Lib.hid hFR
  have HGl := Lib.hid hG
  have H0 := Lib.hid h0
  clear hrm hg hsl hN hN3 hSH hP hws hFR hws1 hss hd0 hG h0
  go_enter Try.func9, Try.ntmps9
  go_wp2_with fail
  rw [← V0.out]
  clear V0
  refine (HLD.out _ B0.out).mono ?_
  clear HLD
  rintro e w1 ⟨rfl, hb1⟩
  have M1 := Lib.hid (M0.out.later hb1)
  have Z1 := Lib.hid (Z0.out.later hb1)
  have B1 := Lib.hid (B0.out.trans (hb1.mono B0.out.size))
  have S1 : Hid (w.heap.size + 2 ≤ w1.heap.size) := by have := hb1.size; have := S0.out; show _ ≤ _; omega
  have b1 := Lib.hid (B1.out)
  clear hb1 M0 Z0 B0 S0
  have D1' := Lib.hid (D0.out w1 b1.out)
  have m0 := (M1.out.cell 0 : _ = some (Value.slice a N c))
  clear D0 b1
  go_wp2_with (first | (go_at_call 23; refine (HRM.out _).mono ?_; rintro e w2 ⟨rfl, rfl⟩))
  first | rw [q4] | skip
  clear m0 q1 q1' q2 q2' HRM q3 q4 hN' hN3'
  go_loopw [11] (fun s11 wr => ∃ (i : Nat) (xa : Option Addr) (xn xc : Nat) (xl : Option Addr) (xm xk : Nat) (xf : Int) (xd : Bool), s11 = .int .i64 (i : Int) ∧ i ≤ P ∧ Hid (Below w.heap.size w wr) ∧ Hid (Has wr w.heap.size (.cells #[.slice xa xn xc, .slice xl xm xk, .int .i64 xf, .bool xd] 32)) ∧ Hid (Has wr (w.heap.size + 1) (.cells #[.slice none 0 0, .slice none 0 0, .int .i64 0, .bool false] 32)) ∧ Hid (DDk wr (fun q => G q ∨ w.heap.size + 2 ≤ q) (.agg #[.slice xa xn xc, .slice xl xm xk, .int .i64 xf, .bool xd]) (PT i)) ∧ Hid (w.heap.size + 2 ≤ wr.heap.size) ∧ Hid (PE i = 0)) (fun s11 _ => P - (intOf s11).toNat)
  case atStart => exact ⟨0, a, N, c, la, L, lc, FF, DD, by go_num, Nat.zero_le _, B1, M1, Z1, D1', S1, H0⟩
  clear B1 M1 Z1 D1' S1 H0
  case round =>
    obtain ⟨i, xa, xn, xc, xl, xm, xk, xf, xd, rfl, hi, KB, KM, KZ, KD, KS, KE⟩ := hrel
    have hi4 : (i : Int) ≤ 2048 := by omega
    have i00 : (0 : Int) ≤ (i : Int) := by omega
    by_cases hlt : i < P
    · have hlt1 := (HPB.out i).1 hlt
      obtain ⟨lo, hlo⟩ : ∃ x, x = i * 512 := ⟨_, rfl⟩
      obtain ⟨hi', hhi⟩ : ∃ x, x = min bl ((i + 1) * 512) := ⟨_, rfl⟩
      obtain ⟨zn, hzn⟩ : ∃ x, x = 512 - (hi' - lo) := ⟨_, rfl⟩
      have hpr := HPR.out i hlt lo hi' zn hlo hhi hzn
      have hlt2 : (i : Int) * 512 < (bl : Int) := by omega
      obtain ⟨PC, hPC⟩ : ∃ S, S = SB.extract lo hi' := ⟨_, rfl⟩
      obtain ⟨pl, hpl⟩ : ∃ x, x = hi' - lo := ⟨_, rfl⟩
      have hps : PC.size = pl := by rw [hPC, ByteArray.size_extract, hsz]; omega
      have ez : (512 : Int) - (pl : Int) = (zn : Int) := by omega
      have nz : ¬ (9223372036854775807 < pl + zn) := by omega
      have wz : IntKind.i64.wrap (zn : Int) = (zn : Int) := IntWalk.i64_in _ (by omega)
      have hex : SB.extract lo hi' = PC := hPC.symm
      have HEX : Hid (SB.extract (i * 512) (min (bl : Int) (((i : Int) + 1) * 512)).toNat = PC) := by
        show _ = _
        rw [hPC, hlo, show (min (bl : Int) (((i : Int) + 1) * 512)).toNat = hi' by omega]
      obtain ⟨S2, hS2⟩ : ∃ S, S = strB (List.replicate zn 0) := ⟨_, rfl⟩
      have z2 : S2.size = zn := by rw [hS2, strB_size, List.length_replicate]
      rw [hex, ← hS2] at hpr
      have HS2 := Lib.hid hS2
      have CW := HWR.out i hlt (PC ++ S2) hpr
      have HIX : Hid (IntKind.i64.wrap (IntKind.i64.wrap (1 + IntKind.i64.wrap (IntKind.i64.wrap (1 - (sl : Int)) * (SH : Int))) + (i : Int)) = ((FR + i : Nat) : Int)) := by
        have hf := HFR.out
        show _ = _
        rw [IntWalk.i64_in (1 - (sl : Int)) (by omega), hwq, IntWalk.i64_in (ws : Int) (by omega), IntWalk.i64_in (1 + (ws : Int)) (by omega), IntWalk.i64_in _ (by omega)]
        omega
      have HCW := Lib.hid CW
      have HMK : Hid (∀ W, (Instr.makeSlice 35 (.int .i64 (zn : Int)) (.int .i64 (zn : Int))).run Try.prog W = .ok (.slice (some ⟨W.heap.size, 0, none⟩) zn zn) (W.alloc (.cells (madeCells #[Value.int .u8 0] zn) 5))) := fun W => run_make_row' (P := Try.prog) 35 5 (.int .u8 0) 1 Try.underlying35 Try.infoU8 rfl .i64 .i64 zn (by omega) (by omega) W
      have HZS : Hid (∀ W : World, Sl (W.alloc (.cells (madeCells #[Value.int .u8 0] zn) 5)) (.slice (some ⟨W.heap.size, 0, none⟩) zn zn) (List.replicate zn 0)) := fun W => zeros_sl zn (by omega) W
      have HFE' := Lib.hid (HFE.out i hlt KE.out)
      have HSU' := Lib.hid (HSU.out i hlt KE.out)
      have HLT := Lib.hid hlt
      obtain ⟨eW, hEW⟩ : ∃ e, e = EW i := ⟨_, rfl⟩
      rw [← hEW] at HCW HFE' HSU'
      obtain ⟨dW, hDW⟩ : ∃ e, e = DW i := ⟨_, rfl⟩
      rw [← hDW] at HCW HFE' HSU'
      have KB' := KB.out
      have i0 : Below w.heap.size w wr.drew := below_drewN KB' 1
      have M0 : Has wr.drew w.heap.size (.cells #[.slice xa xn xc, .slice xl xm xk, .int .i64 xf, .bool xd] 32) := KM.out.later (below_drewN (Below.refl _ _) 1)
      have DR0 := Lib.hid (fun W (hb : Below wr.heap.size wr W) => KD.out.later hb)
      clear hlt1 hlo hhi hzn hpr hPC hpl hS2 CW hex hEW hDW KE HPR KB' hlt HSU HFE HWR HEN CS1 CW2 CS3 HH
      go_wp2_with fail
      rw [HEX.out]
      clear HEX
      refine wp_region_held_drew (S := fun wx => Below w.heap.size w wx) (by kernel_rfl) i0 (fun _ => ?_)
      change wpAnyH _ _ _ _ _ 21 (Array.replicate 21 false) _ _
      refine wpAnyH_take (i := 1) (v := ?_) rfl (by kernel_rfl) (by kernel_rfl) (by kernel_rfl) (fun _ _ _ h => h) (Or.inl ⟨rfl, ?hy1⟩) i0 ?_
      case hy1 => intro w' hw'; clear hw'; go_simp; first | done | rfl
      try simp only [Act.put, List.getElem_toArray, List.getElem_cons_zero, List.getElem_cons_succ, List.setIfInBounds_toArray, List.set_cons_zero, List.set_cons_succ]
      refine wpAnyH_take (i := 2) (v := ?_) rfl (by kernel_rfl) (by kernel_rfl) (by kernel_rfl) (fun _ _ _ h => h) (Or.inl ⟨rfl, ?hy2⟩) i0 ?_
      case hy2 => intro w' hw'; clear hw'; go_simp; first | done | rfl
      try simp only [Act.put, List.getElem_toArray, List.getElem_cons_zero, List.getElem_cons_succ, List.setIfInBounds_toArray, List.set_cons_zero, List.set_cons_succ]
      refine wpAnyH_take (i := 3) (v := ?_) rfl (by kernel_rfl) (by kernel_rfl) (by kernel_rfl) (fun _ _ _ h => h) (Or.inl ⟨rfl, ?hy3⟩) i0 ?_
      case hy3 => intro w' hw'; clear hw'; go_simp; first | done | rfl
      try simp only [Act.put, List.getElem_toArray, List.getElem_cons_zero, List.getElem_cons_succ, List.setIfInBounds_toArray, List.set_cons_zero, List.set_cons_succ]
      refine wpAnyH_take (i := 4) (v := ?_) rfl (by kernel_rfl) (by kernel_rfl) (by kernel_rfl) (fun _ _ _ h => h) (Or.inl ⟨rfl, ?hy4⟩) i0 ?_
      case hy4 => intro w' hw'; clear hw'; go_simp; first | done | rfl
      try simp only [Act.put, List.getElem_toArray, List.getElem_cons_zero, List.getElem_cons_succ, List.setIfInBounds_toArray, List.set_cons_zero, List.set_cons_succ]
      refine wpAnyH_take (i := 5) (v := ?_) rfl (by kernel_rfl) (by kernel_rfl) (by kernel_rfl) (fun _ _ _ h => h) (Or.inl ⟨rfl, ?hy5⟩) i0 ?_
      case hy5 => intro w' hw'; clear hw'; go_simp; first | done | rfl
      try simp only [Act.put, List.getElem_toArray, List.getElem_cons_zero, List.getElem_cons_succ, List.setIfInBounds_toArray, List.set_cons_zero, List.set_cons_succ]
      refine wpAnyH_take (i := 6) (v := ?_) rfl (by kernel_rfl) (by kernel_rfl) (by kernel_rfl) (fun _ _ _ h => h) (Or.inl ⟨rfl, ?hy6⟩) i0 ?_
      case hy6 => intro w' hw'; clear hw'; go_simp; first | done | rfl
      try simp only [Act.put, List.getElem_toArray, List.getElem_cons_zero, List.getElem_cons_succ, List.setIfInBounds_toArray, List.set_cons_zero, List.set_cons_succ]
      refine wpAnyH_take (i := 7) (v := ?_) rfl (by kernel_rfl) (by kernel_rfl) (by kernel_rfl) (fun _ _ _ h => h) (Or.inl ⟨rfl, ?hy7⟩) i0 ?_
      case hy7 => intro w' hw'; clear hw'; go_simp; first | done | rfl
      try simp only [Act.put, List.getElem_toArray, List.getElem_cons_zero, List.getElem_cons_succ, List.setIfInBounds_toArray, List.set_cons_zero, List.set_cons_succ]
      refine wpAnyH_take (i := 8) (v := ?_) rfl (by kernel_rfl) (by kernel_rfl) (by kernel_rfl) (fun _ _ _ h => h) (Or.inl ⟨rfl, ?hy8⟩) i0 ?_
      case hy8 => intro w' hw'; clear hw'; go_simp; first | done | rfl
      try simp only [Act.put, List.getElem_toArray, List.getElem_cons_zero, List.getElem_cons_succ, List.setIfInBounds_toArray, List.set_cons_zero, List.set_cons_succ]
      refine wpAnyH_take (i := 9) (v := ?_) rfl (by kernel_rfl) (by kernel_rfl) (by kernel_rfl) (fun _ _ _ h => h) (Or.inl ⟨rfl, ?hy9⟩) i0 ?_
      case hy9 => intro w' hw'; clear hw'; go_simp; first | done | rfl
      try simp only [Act.put, List.getElem_toArray, List.getElem_cons_zero, List.getElem_cons_succ, List.setIfInBounds_toArray, List.set_cons_zero, List.set_cons_succ]
      refine wpAnyH_take (i := 10) (v := ?_) rfl (by kernel_rfl) (by kernel_rfl) (by kernel_rfl) (fun _ _ _ h => h) (Or.inl ⟨rfl, ?hy10⟩) i0 ?_
      case hy10 => intro w' hw'; clear hw'; go_simp; first | done | rfl
      try simp only [Act.put, List.getElem_toArray, List.getElem_cons_zero, List.getElem_cons_succ, List.setIfInBounds_toArray, List.set_cons_zero, List.set_cons_succ]
      refine wpAnyH_take (i := 11) (v := ?_) rfl (by kernel_rfl) (by kernel_rfl) (by kernel_rfl) (fun _ _ _ h => h) (Or.inl ⟨rfl, ?hy11⟩) i0 ?_
      case hy11 => intro w' hw'; clear hw'; go_simp; first | done | rfl
      try simp only [Act.put, List.getElem_toArray, List.getElem_cons_zero, List.getElem_cons_succ, List.setIfInBounds_toArray, List.set_cons_zero, List.set_cons_succ]
      refine wpAnyH_ready (rs := [0, 12]) (by kernel_rfl) (by simp) ?_
      refine AllReadyH.cons rfl (fun K hK => ?_) (AllReadyH.cons rfl (fun K hK => ?_) AllReadyH.nil)
      · skip
        rw [if_pos (by rfl)]
        refine wp_load_row 32 _ rfl w.heap.size rfl 32 #[.slice xa xn xc, .slice xl xm xk, .int .i64 xf, .bool xd] (0, 0) _ M0 Try.underlying32 rfl Try.infoDisk4 ?_
        refine hK.out _ _ i0 (fun _ => ?_)
        clear hK K
        try simp only [Act.put, List.getElem_toArray, List.getElem_cons_zero, List.setIfInBounds_toArray, List.set_cons_zero, List.set_cons_succ]
        refine wpAnyH_ready (rs := [12]) (by kernel_rfl) (by simp) ?_
        refine AllReadyH.cons rfl (fun K hK => ?_) AllReadyH.nil
        have hmk := HMK.out wr.drew
        have hzs : Sl (wr.alloc (.cells (madeCells #[Value.int .u8 0] zn) 5)).drew (.slice (some ⟨wr.heap.size, 0, none⟩) zn zn) (List.replicate zn 0) := HZS.out wr.drew
        have hbk : Below wr.heap.size wr (wr.alloc (.cells (madeCells #[Value.int .u8 0] zn) 5)).drew := (below_drewN (Below.refl wr.heap.size wr) 1).trans (below1 wr.drew _)
        go_simp
        refine hK.out _ _ (KB.out.trans (hbk.mono KB.out.size)) (fun _ => ?_)
        clear hK K hmk
        try simp only [Act.put, List.getElem_toArray, List.getElem_cons_zero, List.getElem_cons_succ, List.setIfInBounds_toArray, List.set_cons_zero, List.set_cons_succ]
        obtain ⟨V4, hV4⟩ : ∃ V, V = (wr.alloc (.cells (madeCells #[Value.int .u8 0] zn) 5)).drew := ⟨_, rfl⟩
        rw [← hV4] at hzs hbk ⊢
        refine wpAnyH_mono (S' := fun wx => Below w.heap.size w wx ∧ Sl wx (.slice (some ⟨wr.heap.size, 0, none⟩) zn zn) (List.replicate zn 0)) (fun wx h => h.1) _ _ _ _ ?_
        have R4 : Below w.heap.size w V4 ∧ Sl V4 (.slice (some ⟨wr.heap.size, 0, none⟩) zn zn) (List.replicate zn 0) := ⟨KB.out.trans (hbk.mono KB.out.size), hzs⟩
        have M4 : Has V4 w.heap.size (.cells #[.slice xa xn xc, .slice xl xm xk, .int .i64 xf, .bool xd] 32) := KM.out.later hbk
        have Z4 := Lib.hid (KZ.out.later hbk)
        have D4 := Lib.hid (DR0.out V4 hbk)
        have S4 : Hid (w.heap.size + 2 ≤ V4.heap.size) := by have := hbk.size; have := KS.out; show _ ≤ _; omega
        have S5 : Hid (wr.heap.size < V4.heap.size) := by rw [hV4]; show _ < _; simp
        clear hzs hbk hV4 HMK HZS DR0 KM KZ KD M0 i0
        refine wpAnyH_take (i := 13) (v := ?_) rfl (by kernel_rfl) (by kernel_rfl) (by kernel_rfl) (fun _ _ _ h => h) (Or.inl ⟨rfl, ?hy13⟩) R4 ?_
        case hy13 => intro w' hw'; have hcv := string_of w' _ _ _ _ S2 hw'.2 HS2; clear hw'; go_simp; first | done | rfl
        try simp only [Act.put, List.getElem_toArray, List.getElem_cons_zero, List.getElem_cons_succ, List.setIfInBounds_toArray, List.set_cons_zero, List.set_cons_succ]
        refine wpAnyH_take (i := 14) (v := ?_) rfl (by kernel_rfl) (by kernel_rfl) (by kernel_rfl) (fun _ _ _ h => h) (Or.inl ⟨rfl, ?hy14⟩) R4 ?_
        case hy14 => intro w' hw'; clear hw'; go_simp; first | done | rfl
        try simp only [Act.put, List.getElem_toArray, List.getElem_cons_zero, List.getElem_cons_succ, List.setIfInBounds_toArray, List.set_cons_zero, List.set_cons_succ]
        refine wpAnyH_ready (rs := [15]) (by kernel_rfl) (by simp) ?_
        refine AllReadyH.cons rfl (fun K hK => ?_) AllReadyH.nil
        go_simp
        rw [HIX.out]
        refine (HCW.out _ _ D4.out).mono ?_
        clear HCW D4 HIX
        rintro e w2 ⟨⟨v2, rfl, hd2⟩, hb2⟩
        obtain ⟨ya, yn, yc, yl, ym, yk, yf, yd, rfl⟩ := hd2.four
        have hz2 := hb2.size
        have hz4 := S4.out
        have hz5 := S5.out
        have hz6 := KS.out
        have hdm := hd2.mono (G' := (fun q => G q ∨ w.heap.size + 2 ≤ q)) (fun q hq => by rcases hq with h | h; exact h; exact Or.inr (by omega))
        have i2 : Below w.heap.size w w2 ∧ Sl w2 (.slice (some ⟨wr.heap.size, 0, none⟩) zn zn) (List.replicate zn 0) := ⟨R4.1.trans (hb2.mono R4.1.size), R4.2.later hb2⟩
        have M2 : Has w2 w.heap.size (.cells #[.slice xa xn xc, .slice xl xm xk, .int .i64 xf, .bool xd] 32) := M4.later hb2
        have Z2 := Lib.hid (Z4.out.later hb2)
        have HNG : Hid (¬ (G w.heap.size ∨ w.heap.size + 2 ≤ w.heap.size) ∧ ¬ (G (w.heap.size + 1) ∨ w.heap.size + 2 ≤ (w.heap.size + 1))) := ⟨by rintro (h | h); exact absurd (HGl.out _ h) (by omega); omega, by rintro (h | h); exact absurd (HGl.out _ h) (by omega); omega⟩
        have i5 : Below w.heap.size w (w2.setRow w.heap.size #[.slice ya yn yc, .slice yl ym yk, .int .i64 yf, .bool yd]) ∧ Sl (w2.setRow w.heap.size #[.slice ya yn yc, .slice yl ym yk, .int .i64 yf, .bool yd]) (.slice (some ⟨wr.heap.size, 0, none⟩) zn zn) (List.replicate zn 0) := ⟨below_setRow i2.1 (Nat.le_refl _) _, sl_same i2.2 (setRow_other _ _ _ _ (by omega)) (by omega)⟩
        have M5 := Lib.hid (show Has (w2.setRow w.heap.size #[.slice ya yn yc, .slice yl ym yk, .int .i64 yf, .bool yd]) w.heap.size (.cells #[.slice ya yn yc, .slice yl ym yk, .int .i64 yf, .bool yd] 32) from setRow_heap _ _ _ _ _ _ M2)
        have D5 := Lib.hid (hdm.put w.heap.size HNG.out.1 #[.slice ya yn yc, .slice yl ym yk, .int .i64 yf, .bool yd])
        have Z5 := Lib.hid (show Has (w2.setRow w.heap.size #[.slice ya yn yc, .slice yl ym yk, .int .i64 yf, .bool yd]) (w.heap.size + 1) (.cells #[.slice none 0 0, .slice none 0 0, .int .i64 0, .bool false] 32) from has_row Z2.out (by omega) _)
        have HS5 : Hid (w.heap.size + 2 ≤ (w2.setRow w.heap.size #[.slice ya yn yc, .slice yl ym yk, .int .i64 yf, .bool yd]).heap.size) := by show _ ≤ _; simp; omega
        clear hd2 hb2 hz2 hz4 hz5 hz6 hdm
        dsimp only
        refine hK.out _ _ i2 (fun _ => ?_)
        clear hK K
        try simp only [Act.put, List.getElem_toArray, List.getElem_cons_zero, List.getElem_cons_succ, List.setIfInBounds_toArray, List.set_cons_zero, List.set_cons_succ]
        refine wpAnyH_take (i := 16) (v := ?_) rfl (by kernel_rfl) (by kernel_rfl) (by kernel_rfl) (fun _ _ _ h => h) (Or.inl ⟨rfl, ?hy16⟩) i2 ?_
        case hy16 => intro w' hw'; clear hw'; go_simp; first | done | rfl
        try simp only [Act.put, List.getElem_toArray, List.getElem_cons_zero, List.getElem_cons_succ, List.setIfInBounds_toArray, List.set_cons_zero, List.set_cons_succ]
        refine wpAnyH_take (i := 17) (v := ?_) rfl (by kernel_rfl) (by kernel_rfl) (by kernel_rfl) (fun _ _ _ h => h) (Or.inl ⟨rfl, ?hy17⟩) i2 ?_
        case hy17 => intro w' hw'; clear hw'; go_simp; first | done | rfl
        try simp only [Act.put, List.getElem_toArray, List.getElem_cons_zero, List.getElem_cons_succ, List.setIfInBounds_toArray, List.set_cons_zero, List.set_cons_succ]
        refine wpAnyH_take (i := 18) (v := ?_) rfl (by kernel_rfl) (by kernel_rfl) (by kernel_rfl) (fun _ _ _ h => h) (Or.inl ⟨rfl, ?hy18⟩) i2 ?_
        case hy18 => intro w' hw'; clear hw'; go_simp; first | done | rfl
        try simp only [Act.put, List.getElem_toArray, List.getElem_cons_zero, List.getElem_cons_succ, List.setIfInBounds_toArray, List.set_cons_zero, List.set_cons_succ]
        refine wpAnyH_ready (rs := [19]) (by kernel_rfl) (by simp) ?_
        refine AllReadyH.cons rfl (fun K hK => ?_) AllReadyH.nil
        rw [if_pos (by rfl)]
        refine wp_store_row 32 _ _ rfl w.heap.size #[.slice ya yn yc, .slice yl ym yk, .int .i64 yf, .bool yd] rfl rfl 32 _ M2 Try.infoDisk4 rfl (by simp [Value.oneCell']) ?_
        refine hK.out _ _ i5 (fun _ => ?_)
        clear hK K
        try simp only [Act.put, List.getElem_toArray, List.getElem_cons_zero, List.getElem_cons_succ]
        refine wpAnyH_take (i := 20) (v := ?_) rfl (by kernel_rfl) (by kernel_rfl) (by kernel_rfl) (fun _ _ _ h => h) (Or.inl ⟨rfl, ?hy20⟩) i5 ?_
        case hy20 => intro w' hw'; clear hw'; go_simp; first | done | rfl
        try simp only [Act.put, List.getElem_toArray, List.getElem_cons_zero, List.getElem_cons_succ, List.setIfInBounds_toArray, List.set_cons_zero, List.set_cons_succ]
        refine wpAnyH_done (by kernel_rfl) ?_ _
        obtain ⟨w5, hw5⟩ : ∃ W, W = w2.setRow w.heap.size #[.slice ya yn yc, .slice yl ym yk, .int .i64 yf, .bool yd] := ⟨_, rfl⟩
        have B5 := Lib.hid i5.1
        rw [← hw5] at M5 D5 Z5 HS5 B5 ⊢
        clear hw5 i5 i2 M2 Z2 R4 M4 Z4 S4 S5
        by_cases hz : eW = 0
        · have hsu := HSU'.out hz
          have D6 : Hid (DDk w5 (fun q => G q ∨ w.heap.size + 2 ≤ q) (.agg #[.slice ya yn yc, .slice yl ym yk, .int .i64 yf, .bool yd]) (PT (i + 1))) := by show DDk _ _ _ _; rw [hsu.1]; exact D5.out
          have E6 := Lib.hid hsu.2
          have hlt := HLT.out
          subst hz
          clear hsu D5 HSU' HFE'
          go_wp2_with fail
          go_round
          case rel => exact ⟨i + 1, ya, yn, yc, yl, ym, yk, yf, yd, by go_num, by omega, B5, M5, Z5, D6, HS5, E6⟩
          case measure => simp [intOf]; omega
        · have hne : (eW != 0) = true := by simpa using hz
          have he2 : (eW == 0) = false := by simpa using hz
          have he3 : ¬ ((eW : Int) = 0) := hz
          obtain ⟨e8, e9⟩ := HFE'.out hz
          have D6 := Lib.hid ((D5.out.put (w.heap.size + 1) HNG.out.2 #[.slice ya yn yc, .slice yl ym yk, .int .i64 yf, .bool yd]).mono (G' := fun q => G q ∨ w.heap.size ≤ q) (fun q hq => by
            rcases hq with h | h
            · exact Or.inl h
            · exact Or.inr (by omega)))
          rw [← e8] at D6
          have E9 := Lib.hid e9
          have B7 := Lib.hid (below_setRow B5.out (show w.heap.size ≤ w.heap.size + 1 by omega) #[.slice ya yn yc, .slice yl ym yk, .int .i64 yf, .bool yd])
          clear D5 HNG HS5 e8 e9 HFE' HSU'
          go_wp2_with (first | (refine wpList_load_row rfl 32 (.tmp 2) rfl w.heap.size rfl 32 #[.slice ya yn yc, .slice yl ym yk, .int .i64 yf, .bool yd] (0, 0) _ M5.out Try.underlying32 rfl Try.infoDisk4 ?_) | (refine wpList_store_row rfl 32 (.tmp 4) (.tmp 78) rfl (w.heap.size + 1) #[.slice ya yn yc, .slice yl ym yk, .int .i64 yf, .bool yd] rfl rfl 32 _ Z5.out Try.infoDisk4 rfl (by simp [Value.oneCell']) ?_))
          have h9 := E9.out
          subst h9
          refine bodyPost_ret (results_ct rfl _ _ (w.heap.size + 1) 32 #[.slice ya yn yc, .slice yl ym yk, .int .i64 yf, .bool yd] (0, 0) _ rfl (setRow_heap _ _ _ _ _ _ Z5.out) Try.underlying32 rfl Try.infoDisk4) rfl ⟨⟨_, rfl, D6.out⟩, B7.out⟩
      · skip
        have hmk := HMK.out wr.drew
        have hzs : Sl (wr.alloc (.cells (madeCells #[Value.int .u8 0] zn) 5)).drew (.slice (some ⟨wr.heap.size, 0, none⟩) zn zn) (List.replicate zn 0) := HZS.out wr.drew
        have hbk : Below wr.heap.size wr (wr.alloc (.cells (madeCells #[Value.int .u8 0] zn) 5)).drew := (below_drewN (Below.refl wr.heap.size wr) 1).trans (below1 wr.drew _)
        go_simp
        refine hK.out _ _ (KB.out.trans (hbk.mono KB.out.size)) (fun _ => ?_)
        clear hK K hmk
        try simp only [Act.put, List.getElem_toArray, List.getElem_cons_zero, List.getElem_cons_succ, List.setIfInBounds_toArray, List.set_cons_zero, List.set_cons_succ]
        obtain ⟨V4, hV4⟩ : ∃ V, V = (wr.alloc (.cells (madeCells #[Value.int .u8 0] zn) 5)).drew := ⟨_, rfl⟩
        rw [← hV4] at hzs hbk ⊢
        refine wpAnyH_mono (S' := fun wx => Below w.heap.size w wx ∧ Sl wx (.slice (some ⟨wr.heap.size, 0, none⟩) zn zn) (List.replicate zn 0)) (fun wx h => h.1) _ _ _ _ ?_
        have R4 : Below w.heap.size w V4 ∧ Sl V4 (.slice (some ⟨wr.heap.size, 0, none⟩) zn zn) (List.replicate zn 0) := ⟨KB.out.trans (hbk.mono KB.out.size), hzs⟩
        have M4 : Has V4 w.heap.size (.cells #[.slice xa xn xc, .slice xl xm xk, .int .i64 xf, .bool xd] 32) := KM.out.later hbk
        have Z4 := Lib.hid (KZ.out.later hbk)
        have D4 := Lib.hid (DR0.out V4 hbk)
        have S4 : Hid (w.heap.size + 2 ≤ V4.heap.size) := by have := hbk.size; have := KS.out; show _ ≤ _; omega
        have S5 : Hid (wr.heap.size < V4.heap.size) := by rw [hV4]; show _ < _; simp
        clear hzs hbk hV4 HMK HZS DR0 KM KZ KD M0 i0
        refine wpAnyH_take (i := 13) (v := ?_) rfl (by kernel_rfl) (by kernel_rfl) (by kernel_rfl) (fun _ _ _ h => h) (Or.inl ⟨rfl, ?hy13⟩) R4 ?_
        case hy13 => intro w' hw'; have hcv := string_of w' _ _ _ _ S2 hw'.2 HS2; clear hw'; go_simp; first | done | rfl
        try simp only [Act.put, List.getElem_toArray, List.getElem_cons_zero, List.getElem_cons_succ, List.setIfInBounds_toArray, List.set_cons_zero, List.set_cons_succ]
        refine wpAnyH_take (i := 14) (v := ?_) rfl (by kernel_rfl) (by kernel_rfl) (by kernel_rfl) (fun _ _ _ h => h) (Or.inl ⟨rfl, ?hy14⟩) R4 ?_
        case hy14 => intro w' hw'; clear hw'; go_simp; first | done | rfl
        try simp only [Act.put, List.getElem_toArray, List.getElem_cons_zero, List.getElem_cons_succ, List.setIfInBounds_toArray, List.set_cons_zero, List.set_cons_succ]
        refine wpAnyH_ready (rs := [0]) (by kernel_rfl) (by simp) ?_
        refine AllReadyH.cons rfl (fun K hK => ?_) AllReadyH.nil
        rw [if_pos (by rfl)]
        refine wp_load_row 32 _ rfl w.heap.size rfl 32 #[.slice xa xn xc, .slice xl xm xk, .int .i64 xf, .bool xd] (0, 0) _ M4 Try.underlying32 rfl Try.infoDisk4 ?_
        refine hK.out _ _ R4 (fun _ => ?_)
        clear hK K
        try simp only [Act.put, List.getElem_toArray, List.getElem_cons_zero, List.setIfInBounds_toArray, List.set_cons_zero, List.set_cons_succ]
        refine wpAnyH_ready (rs := [15]) (by kernel_rfl) (by simp) ?_
        refine AllReadyH.cons rfl (fun K hK => ?_) AllReadyH.nil
        go_simp
        rw [HIX.out]
        refine (HCW.out _ _ D4.out).mono ?_
        clear HCW D4 HIX
        rintro e w2 ⟨⟨v2, rfl, hd2⟩, hb2⟩
        obtain ⟨ya, yn, yc, yl, ym, yk, yf, yd, rfl⟩ := hd2.four
        have hz2 := hb2.size
        have hz4 := S4.out
        have hz5 := S5.out
        have hz6 := KS.out
        have hdm := hd2.mono (G' := (fun q => G q ∨ w.heap.size + 2 ≤ q)) (fun q hq => by rcases hq with h | h; exact h; exact Or.inr (by omega))
        have i2 : Below w.heap.size w w2 ∧ Sl w2 (.slice (some ⟨wr.heap.size, 0, none⟩) zn zn) (List.replicate zn 0) := ⟨R4.1.trans (hb2.mono R4.1.size), R4.2.later hb2⟩
        have M2 : Has w2 w.heap.size (.cells #[.slice xa xn xc, .slice xl xm xk, .int .i64 xf, .bool xd] 32) := M4.later hb2
        have Z2 := Lib.hid (Z4.out.later hb2)
        have HNG : Hid (¬ (G w.heap.size ∨ w.heap.size + 2 ≤ w.heap.size) ∧ ¬ (G (w.heap.size + 1) ∨ w.heap.size + 2 ≤ (w.heap.size + 1))) := ⟨by rintro (h | h); exact absurd (HGl.out _ h) (by omega); omega, by rintro (h | h); exact absurd (HGl.out _ h) (by omega); omega⟩
        have i5 : Below w.heap.size w (w2.setRow w.heap.size #[.slice ya yn yc, .slice yl ym yk, .int .i64 yf, .bool yd]) ∧ Sl (w2.setRow w.heap.size #[.slice ya yn yc, .slice yl ym yk, .int .i64 yf, .bool yd]) (.slice (some ⟨wr.heap.size, 0, none⟩) zn zn) (List.replicate zn 0) := ⟨below_setRow i2.1 (Nat.le_refl _) _, sl_same i2.2 (setRow_other _ _ _ _ (by omega)) (by omega)⟩
        have M5 := Lib.hid (show Has (w2.setRow w.heap.size #[.slice ya yn yc, .slice yl ym yk, .int .i64 yf, .bool yd]) w.heap.size (.cells #[.slice ya yn yc, .slice yl ym yk, .int .i64 yf, .bool yd] 32) from setRow_heap _ _ _ _ _ _ M2)
        have D5 := Lib.hid (hdm.put w.heap.size HNG.out.1 #[.slice ya yn yc, .slice yl ym yk, .int .i64 yf, .bool yd])
        have Z5 := Lib.hid (show Has (w2.setRow w.heap.size #[.slice ya yn yc, .slice yl ym yk, .int .i64 yf, .bool yd]) (w.heap.size + 1) (.cells #[.slice none 0 0, .slice none 0 0, .int .i64 0, .bool false] 32) from has_row Z2.out (by omega) _)
        have HS5 : Hid (w.heap.size + 2 ≤ (w2.setRow w.heap.size #[.slice ya yn yc, .slice yl ym yk, .int .i64 yf, .bool yd]).heap.size) := by show _ ≤ _; simp; omega
        clear hd2 hb2 hz2 hz4 hz5 hz6 hdm
        dsimp only
        refine hK.out _ _ i2 (fun _ => ?_)
        clear hK K
        try simp only [Act.put, List.getElem_toArray, List.getElem_cons_zero, List.getElem_cons_succ, List.setIfInBounds_toArray, List.set_cons_zero, List.set_cons_succ]
        refine wpAnyH_take (i := 16) (v := ?_) rfl (by kernel_rfl) (by kernel_rfl) (by kernel_rfl) (fun _ _ _ h => h) (Or.inl ⟨rfl, ?hy16⟩) i2 ?_
        case hy16 => intro w' hw'; clear hw'; go_simp; first | done | rfl
        try simp only [Act.put, List.getElem_toArray, List.getElem_cons_zero, List.getElem_cons_succ, List.setIfInBounds_toArray, List.set_cons_zero, List.set_cons_succ]
        refine wpAnyH_take (i := 17) (v := ?_) rfl (by kernel_rfl) (by kernel_rfl) (by kernel_rfl) (fun _ _ _ h => h) (Or.inl ⟨rfl, ?hy17⟩) i2 ?_
        case hy17 => intro w' hw'; clear hw'; go_simp; first | done | rfl
        try simp only [Act.put, List.getElem_toArray, List.getElem_cons_zero, List.getElem_cons_succ, List.setIfInBounds_toArray, List.set_cons_zero, List.set_cons_succ]
        refine wpAnyH_take (i := 18) (v := ?_) rfl (by kernel_rfl) (by kernel_rfl) (by kernel_rfl) (fun _ _ _ h => h) (Or.inl ⟨rfl, ?hy18⟩) i2 ?_
        case hy18 => intro w' hw'; clear hw'; go_simp; first | done | rfl
        try simp only [Act.put, List.getElem_toArray, List.getElem_cons_zero, List.getElem_cons_succ, List.setIfInBounds_toArray, List.set_cons_zero, List.set_cons_succ]
        refine wpAnyH_ready (rs := [19]) (by kernel_rfl) (by simp) ?_
        refine AllReadyH.cons rfl (fun K hK => ?_) AllReadyH.nil
        rw [if_pos (by rfl)]
        refine wp_store_row 32 _ _ rfl w.heap.size #[.slice ya yn yc, .slice yl ym yk, .int .i64 yf, .bool yd] rfl rfl 32 _ M2 Try.infoDisk4 rfl (by simp [Value.oneCell']) ?_
        refine hK.out _ _ i5 (fun _ => ?_)
        clear hK K
        try simp only [Act.put, List.getElem_toArray, List.getElem_cons_zero, List.getElem_cons_succ]
        refine wpAnyH_take (i := 20) (v := ?_) rfl (by kernel_rfl) (by kernel_rfl) (by kernel_rfl) (fun _ _ _ h => h) (Or.inl ⟨rfl, ?hy20⟩) i5 ?_
        case hy20 => intro w' hw'; clear hw'; go_simp; first | done | rfl
        try simp only [Act.put, List.getElem_toArray, List.getElem_cons_zero, List.getElem_cons_succ, List.setIfInBounds_toArray, List.set_cons_zero, List.set_cons_succ]
        refine wpAnyH_done (by kernel_rfl) ?_ _
        obtain ⟨w5, hw5⟩ : ∃ W, W = w2.setRow w.heap.size #[.slice ya yn yc, .slice yl ym yk, .int .i64 yf, .bool yd] := ⟨_, rfl⟩
        have B5 := Lib.hid i5.1
        rw [← hw5] at M5 D5 Z5 HS5 B5 ⊢
        clear hw5 i5 i2 M2 Z2 R4 M4 Z4 S4 S5
        by_cases hz : eW = 0
        · have hsu := HSU'.out hz
          have D6 : Hid (DDk w5 (fun q => G q ∨ w.heap.size + 2 ≤ q) (.agg #[.slice ya yn yc, .slice yl ym yk, .int .i64 yf, .bool yd]) (PT (i + 1))) := by show DDk _ _ _ _; rw [hsu.1]; exact D5.out
          have E6 := Lib.hid hsu.2
          have hlt := HLT.out
          subst hz
          clear hsu D5 HSU' HFE'
          go_wp2_with fail
          go_round
          case rel => exact ⟨i + 1, ya, yn, yc, yl, ym, yk, yf, yd, by go_num, by omega, B5, M5, Z5, D6, HS5, E6⟩
          case measure => simp [intOf]; omega
        · have hne : (eW != 0) = true := by simpa using hz
          have he2 : (eW == 0) = false := by simpa using hz
          have he3 : ¬ ((eW : Int) = 0) := hz
          obtain ⟨e8, e9⟩ := HFE'.out hz
          have D6 := Lib.hid ((D5.out.put (w.heap.size + 1) HNG.out.2 #[.slice ya yn yc, .slice yl ym yk, .int .i64 yf, .bool yd]).mono (G' := fun q => G q ∨ w.heap.size ≤ q) (fun q hq => by
            rcases hq with h | h
            · exact Or.inl h
            · exact Or.inr (by omega)))
          rw [← e8] at D6
          have E9 := Lib.hid e9
          have B7 := Lib.hid (below_setRow B5.out (show w.heap.size ≤ w.heap.size + 1 by omega) #[.slice ya yn yc, .slice yl ym yk, .int .i64 yf, .bool yd])
          clear D5 HNG HS5 e8 e9 HFE' HSU'
          go_wp2_with (first | (refine wpList_load_row rfl 32 (.tmp 2) rfl w.heap.size rfl 32 #[.slice ya yn yc, .slice yl ym yk, .int .i64 yf, .bool yd] (0, 0) _ M5.out Try.underlying32 rfl Try.infoDisk4 ?_) | (refine wpList_store_row rfl 32 (.tmp 4) (.tmp 78) rfl (w.heap.size + 1) #[.slice ya yn yc, .slice yl ym yk, .int .i64 yf, .bool yd] rfl rfl 32 _ Z5.out Try.infoDisk4 rfl (by simp [Value.oneCell']) ?_))
          have h9 := E9.out
          subst h9
          refine bodyPost_ret (results_ct rfl _ _ (w.heap.size + 1) 32 #[.slice ya yn yc, .slice yl ym yk, .int .i64 yf, .bool yd] (0, 0) _ rfl (setRow_heap _ _ _ _ _ _ Z5.out) Try.underlying32 rfl Try.infoDisk4) rfl ⟨⟨_, rfl, D6.out⟩, B7.out⟩
    · obtain rfl : i = P := by omega
      have hlt2 : ¬ ((i : Int) * 512 < (bl : Int)) := fun h => hlt ((HPB.out i).2 (by omega))
      have HEN' := Lib.hid (HEN.out KE.out)
      have CS1' := Lib.hid (CS1.out wr _ KD.out)
      have HS := KS
      clear HEN CS1 KE HPB HFR HWR HPR HSU HFE KD hlt hi hwp hwq hw4
      go_wp2_with (refine wpList_load_row rfl 32 (.tmp 2) rfl w.heap.size rfl 32 #[.slice xa xn xc, .slice xl xm xk, .int .i64 xf, .bool xd] (0, 0) _ KM.out Try.underlying32 rfl Try.infoDisk4 ?_)
      refine CS1'.out.mono ?_
      clear CS1'
      rintro e w2 ⟨⟨v2, rfl, hd2⟩, hb2⟩
      obtain ⟨ya, yn, yc, yl, ym, yk, yf, yd, rfl⟩ := hd2.four
      have hz2 := hb2.size
      have hz6 := KS.out
      have hdm := hd2.mono (G' := (fun q => G q ∨ w.heap.size + 2 ≤ q)) (fun q hq => by rcases hq with h | h; exact h; exact Or.inr (by omega))
      have HNG : Hid (¬ (G w.heap.size ∨ w.heap.size + 2 ≤ w.heap.size) ∧ ¬ (G (w.heap.size + 1) ∨ w.heap.size + 2 ≤ (w.heap.size + 1))) := ⟨by rintro (h | h); exact absurd (HGl.out _ h) (by omega); omega, by rintro (h | h); exact absurd (HGl.out _ h) (by omega); omega⟩
      have M2 := Lib.hid (KM.out.later hb2)
      have Z2 := Lib.hid (KZ.out.later hb2)
      have B2 := Lib.hid (KB.out.trans (hb2.mono KB.out.size))
      have M5 := Lib.hid (show Has (w2.setRow w.heap.size #[.slice ya yn yc, .slice yl ym yk, .int .i64 yf, .bool yd]) w.heap.size (.cells #[.slice ya yn yc, .slice yl ym yk, .int .i64 yf, .bool yd] 32) from setRow_heap _ _ _ _ _ _ M2.out)
      have D5 := Lib.hid (hdm.put w.heap.size HNG.out.1 #[.slice ya yn yc, .slice yl ym yk, .int .i64 yf, .bool yd])
      have Z5 := Lib.hid (show Has (w2.setRow w.heap.size #[.slice ya yn yc, .slice yl ym yk, .int .i64 yf, .bool yd]) (w.heap.size + 1) (.cells #[.slice none 0 0, .slice none 0 0, .int .i64 0, .bool false] 32) from has_row Z2.out (by omega) _)
      have HS5 : Hid (w.heap.size + 2 ≤ (w2.setRow w.heap.size #[.slice ya yn yc, .slice yl ym yk, .int .i64 yf, .bool yd]).heap.size) := by show _ ≤ _; simp; omega
      have B5 := Lib.hid (below_setRow B2.out (Nat.le_refl _) #[.slice ya yn yc, .slice yl ym yk, .int .i64 yf, .bool yd])
      obtain ⟨w5, hw5⟩ : ∃ W, W = w2.setRow w.heap.size #[.slice ya yn yc, .slice yl ym yk, .int .i64 yf, .bool yd] := ⟨_, rfl⟩
      have HW5 := Lib.hid hw5
      rw [← hw5] at M5 D5 Z5 HS5 B5
      clear hd2 hb2 hz2 hz6 hdm hw5 KB KM KZ KS HS
      rcases HEN'.out with ⟨hc1, e8, e9⟩ | ⟨hc1, hc2, e8, e9⟩ | ⟨hc1, hc2, e8, e9⟩
      · have hne : (C1 != 0) = true := by simpa using hc1
        have he2 : (C1 == 0) = false := by simpa using hc1
        have he3 : ¬ ((C1 : Int) = 0) := hc1
        have D6 := Lib.hid ((D5.out.put (w.heap.size + 1) HNG.out.2 #[.slice ya yn yc, .slice yl ym yk, .int .i64 yf, .bool yd]).mono (G' := fun q => G q ∨ w.heap.size ≤ q) (fun q hq => by
          rcases hq with h | h
          · exact Or.inl h
          · exact Or.inr (by omega)))
        rw [← e8] at D6
        have E9 := Lib.hid e9
        have B7 := Lib.hid (below_setRow B5.out (show w.heap.size ≤ w.heap.size + 1 by omega) #[.slice ya yn yc, .slice yl ym yk, .int .i64 yf, .bool yd])
        clear D5 HNG HS5 e8 e9 HEN' CW2 CS3 HH hc1
        go_wp2_with (first | (refine wpList_store_row rfl 32 (.tmp 2) (.tmp 83) rfl w.heap.size #[.slice ya yn yc, .slice yl ym yk, .int .i64 yf, .bool yd] rfl rfl 32 _ M2.out Try.infoDisk4 rfl (by simp [Value.oneCell']) ?_; rw [← HW5.out]) | (refine wpList_load_row rfl 32 (.tmp 2) rfl w.heap.size rfl 32 #[.slice ya yn yc, .slice yl ym yk, .int .i64 yf, .bool yd] (0, 0) _ M5.out Try.underlying32 rfl Try.infoDisk4 ?_) | (refine wpList_store_row rfl 32 (.tmp 4) (.tmp 87) rfl (w.heap.size + 1) #[.slice ya yn yc, .slice yl ym yk, .int .i64 yf, .bool yd] rfl rfl 32 _ Z5.out Try.infoDisk4 rfl (by simp [Value.oneCell']) ?_))
        have h9 := E9.out
        subst h9
        refine bodyPost_ret (results_ct rfl _ _ (w.heap.size + 1) 32 #[.slice ya yn yc, .slice yl ym yk, .int .i64 yf, .bool yd] (0, 0) _ rfl (setRow_heap _ _ _ _ _ _ Z5.out) Try.underlying32 rfl Try.infoDisk4) rfl ⟨⟨_, rfl, D6.out⟩, B7.out⟩
      · subst hc1
        have E9 := Lib.hid e9
        have E8 := Lib.hid e8
        have HC2 := Lib.hid hc2
        have i0 : Below w.heap.size w w5.drew := below_drewN B5.out 1
        have M6 : Has w5.drew w.heap.size (.cells #[.slice ya yn yc, .slice yl ym yk, .int .i64 yf, .bool yd] 32) := M5.out.later (below_drewN (Below.refl _ _) 1)
        have Z6 := Lib.hid (show Has w5.drew (w.heap.size + 1) (.cells #[.slice none 0 0, .slice none 0 0, .int .i64 0, .bool false] 32) from Z5.out.later (below_drewN (Below.refl _ _) 1))
        have D6 := Lib.hid (fun W (hb : Below w5.drew.heap.size w5.drew W) => (D5.out.later (below_drewN (Below.refl w5.heap.size w5) 1)).later hb)
        have HS6 : Hid (w.heap.size + 2 ≤ w5.drew.heap.size) := HS5.out
        clear D5 HS5 e8 e9 HEN' hc2
        go_wp2_with (refine wpList_store_row rfl 32 (.tmp 2) (.tmp 83) rfl w.heap.size #[.slice ya yn yc, .slice yl ym yk, .int .i64 yf, .bool yd] rfl rfl 32 _ M2.out Try.infoDisk4 rfl (by simp [Value.oneCell']) ?_; rw [← HW5.out])
        clear M5 Z5 B5 HW5 M2 Z2 B2
        refine wp_region_held_drew (S := fun wx => Below w.heap.size w wx) (by kernel_rfl) i0 (fun _ => ?_)
        change wpAnyH _ _ _ _ _ 13 (Array.replicate 13 false) _ _
        refine wpAnyH_take (i := 1) (v := ?_) rfl (by kernel_rfl) (by kernel_rfl) (by kernel_rfl) (fun _ _ _ h => h) (Or.inl ⟨rfl, ?hy1⟩) i0 ?_
        case hy1 => intro w' hw'; clear hw'; go_simp; first | done | rfl
        try simp only [Act.put, List.getElem_toArray, List.getElem_cons_zero, List.getElem_cons_succ, List.setIfInBounds_toArray, List.set_cons_zero, List.set_cons_succ]
        refine wpAnyH_take (i := 2) (v := ?_) rfl (by kernel_rfl) (by kernel_rfl) (by kernel_rfl) (fun _ _ _ h => h) (Or.inl ⟨rfl, ?hy2⟩) i0 ?_
        case hy2 => intro w' hw'; clear hw'; go_simp; first | done | rfl
        try simp only [Act.put, List.getElem_toArray, List.getElem_cons_zero, List.getElem_cons_succ, List.setIfInBounds_toArray, List.set_cons_zero, List.set_cons_succ]
        refine wpAnyH_take (i := 3) (v := ?_) rfl (by kernel_rfl) (by kernel_rfl) (by kernel_rfl) (fun _ _ _ h => h) (Or.inl ⟨rfl, ?hy3⟩) i0 ?_
        case hy3 => intro w' hw'; clear hw'; go_simp; first | done | rfl
        try simp only [Act.put, List.getElem_toArray, List.getElem_cons_zero, List.getElem_cons_succ, List.setIfInBounds_toArray, List.set_cons_zero, List.set_cons_succ]
        refine wpAnyH_take (i := 4) (v := ?_) rfl (by kernel_rfl) (by kernel_rfl) (by kernel_rfl) (fun _ _ _ h => h) (Or.inl ⟨rfl, ?hy4⟩) i0 ?_
        case hy4 => intro w' hw'; clear hw'; go_simp; first | done | rfl
        try simp only [Act.put, List.getElem_toArray, List.getElem_cons_zero, List.getElem_cons_succ, List.setIfInBounds_toArray, List.set_cons_zero, List.set_cons_succ]
        refine wpAnyH_take (i := 5) (v := ?_) rfl (by kernel_rfl) (by kernel_rfl) (by kernel_rfl) (fun _ _ _ h => h) (Or.inl ⟨rfl, ?hy5⟩) i0 ?_
        case hy5 => intro w' hw'; clear hw'; go_simp; first | done | rfl
        try simp only [Act.put, List.getElem_toArray, List.getElem_cons_zero, List.getElem_cons_succ, List.setIfInBounds_toArray, List.set_cons_zero, List.set_cons_succ]
        refine wpAnyH_ready (rs := [0, 6]) (by kernel_rfl) (by simp) ?_
        refine AllReadyH.cons rfl (fun K hK => ?_) (AllReadyH.cons rfl (fun K hK => ?_) AllReadyH.nil)
        · skip
          rw [if_pos (by rfl)]
          refine wp_load_row 32 _ rfl w.heap.size rfl 32 #[.slice ya yn yc, .slice yl ym yk, .int .i64 yf, .bool yd] (0, 0) _ M6 Try.underlying32 rfl Try.infoDisk4 ?_
          refine hK.out _ _ i0 (fun _ => ?_)
          clear hK K
          try simp only [Act.put, List.getElem_toArray, List.getElem_cons_zero, List.setIfInBounds_toArray, List.set_cons_zero, List.set_cons_succ]
          refine wpAnyH_ready (rs := [6]) (by kernel_rfl) (by simp) ?_
          refine AllReadyH.cons rfl (fun K hK => ?_) AllReadyH.nil
          go_simp
          rw [IntWalk.i64_in ((g : Int) + 1) (by omega), IntWalk.i64_in (1 - (sl : Int)) (by omega)]
          refine (HH.out _).mono ?_
          clear HH
          rintro e w7 ⟨rfl, hb7⟩
          have i7 : Below w.heap.size w w7 := i0.trans (hb7.mono i0.size)
          have M7 : Has w7 w.heap.size (.cells #[.slice ya yn yc, .slice yl ym yk, .int .i64 yf, .bool yd] 32) := M6.later hb7
          have Z7 := Lib.hid (Z6.out.later hb7)
          have D7 := Lib.hid (D6.out w7 hb7)
          have HS7 : Hid (w.heap.size + 2 ≤ w7.heap.size) := by have := hb7.size; have := HS6.out; show _ ≤ _; omega
          clear hb7 M6 Z6 D6 HS6 i0
          dsimp only
          refine hK.out _ _ i7 (fun _ => ?_)
          clear hK K
          try simp only [Act.put, List.getElem_toArray, List.getElem_cons_zero, List.getElem_cons_succ, List.setIfInBounds_toArray, List.set_cons_zero, List.set_cons_succ]
          refine wpAnyH_ready (rs := [7]) (by kernel_rfl) (by simp) ?_
          refine AllReadyH.cons rfl (fun K hK => ?_) AllReadyH.nil
          go_simp
          refine (CW2.out _ _ D7.out).mono ?_
          clear CW2 D7
          rintro e w8 ⟨⟨v8, rfl, hd8⟩, hb8⟩
          obtain ⟨ua, un, uc, ul, um, uk, uf, ud, rfl⟩ := hd8.four
          have hz8 := hb8.size
          have hz7 := HS7.out
          have hdm := hd8.mono (G' := (fun q => G q ∨ w.heap.size + 2 ≤ q)) (fun q hq => by rcases hq with h | h; exact h; exact Or.inr (by omega))
          have i8 : Below w.heap.size w w8 := i7.trans (hb8.mono i7.size)
          have M8 : Has w8 w.heap.size (.cells #[.slice ya yn yc, .slice yl ym yk, .int .i64 yf, .bool yd] 32) := M7.later hb8
          have Z8 := Lib.hid (Z7.out.later hb8)
          have i9 : Below w.heap.size w (w8.setRow w.heap.size #[.slice ua un uc, .slice ul um uk, .int .i64 uf, .bool ud]) := below_setRow i8 (Nat.le_refl _) _
          have M9 := Lib.hid (show Has (w8.setRow w.heap.size #[.slice ua un uc, .slice ul um uk, .int .i64 uf, .bool ud]) w.heap.size (.cells #[.slice ua un uc, .slice ul um uk, .int .i64 uf, .bool ud] 32) from setRow_heap _ _ _ _ _ _ M8)
          have D9 := Lib.hid (hdm.put w.heap.size HNG.out.1 #[.slice ua un uc, .slice ul um uk, .int .i64 uf, .bool ud])
          have Z9 := Lib.hid (show Has (w8.setRow w.heap.size #[.slice ua un uc, .slice ul um uk, .int .i64 uf, .bool ud]) (w.heap.size + 1) (.cells #[.slice none 0 0, .slice none 0 0, .int .i64 0, .bool false] 32) from has_row Z8.out (by omega) _)
          have HS9 : Hid (w.heap.size + 2 ≤ (w8.setRow w.heap.size #[.slice ua un uc, .slice ul um uk, .int .i64 uf, .bool ud]).heap.size) := by show _ ≤ _; simp; omega
          clear hd8 hb8 hz8 hz7 hdm
          dsimp only
          refine hK.out _ _ i8 (fun _ => ?_)
          clear hK K
          try simp only [Act.put, List.getElem_toArray, List.getElem_cons_zero, List.getElem_cons_succ, List.setIfInBounds_toArray, List.set_cons_zero, List.set_cons_succ]
          refine wpAnyH_take (i := 8) (v := ?_) rfl (by kernel_rfl) (by kernel_rfl) (by kernel_rfl) (fun _ _ _ h => h) (Or.inl ⟨rfl, ?hy8⟩) i8 ?_
          case hy8 => intro w' hw'; clear hw'; go_simp; first | done | rfl
          try simp only [Act.put, List.getElem_toArray, List.getElem_cons_zero, List.getElem_cons_succ, List.setIfInBounds_toArray, List.set_cons_zero, List.set_cons_succ]
          refine wpAnyH_take (i := 9) (v := ?_) rfl (by kernel_rfl) (by kernel_rfl) (by kernel_rfl) (fun _ _ _ h => h) (Or.inl ⟨rfl, ?hy9⟩) i8 ?_
          case hy9 => intro w' hw'; clear hw'; go_simp; first | done | rfl
          try simp only [Act.put, List.getElem_toArray, List.getElem_cons_zero, List.getElem_cons_succ, List.setIfInBounds_toArray, List.set_cons_zero, List.set_cons_succ]
          refine wpAnyH_take (i := 10) (v := ?_) rfl (by kernel_rfl) (by kernel_rfl) (by kernel_rfl) (fun _ _ _ h => h) (Or.inl ⟨rfl, ?hy10⟩) i8 ?_
          case hy10 => intro w' hw'; clear hw'; go_simp; first | done | rfl
          try simp only [Act.put, List.getElem_toArray, List.getElem_cons_zero, List.getElem_cons_succ, List.setIfInBounds_toArray, List.set_cons_zero, List.set_cons_succ]
          refine wpAnyH_ready (rs := [11]) (by kernel_rfl) (by simp) ?_
          refine AllReadyH.cons rfl (fun K hK => ?_) AllReadyH.nil
          rw [if_pos (by rfl)]
          refine wp_store_row 32 _ _ rfl w.heap.size #[.slice ua un uc, .slice ul um uk, .int .i64 uf, .bool ud] rfl rfl 32 _ M8 Try.infoDisk4 rfl (by simp [Value.oneCell']) ?_
          refine hK.out _ _ i9 (fun _ => ?_)
          clear hK K
          try simp only [Act.put, List.getElem_toArray, List.getElem_cons_zero, List.getElem_cons_succ]
          refine wpAnyH_take (i := 12) (v := ?_) rfl (by kernel_rfl) (by kernel_rfl) (by kernel_rfl) (fun _ _ _ h => h) (Or.inl ⟨rfl, ?hy12⟩) i9 ?_
          case hy12 => intro w' hw'; clear hw'; go_simp; first | done | rfl
          try simp only [Act.put, List.getElem_toArray, List.getElem_cons_zero, List.getElem_cons_succ, List.setIfInBounds_toArray, List.set_cons_zero, List.set_cons_succ]
          refine wpAnyH_done (by kernel_rfl) ?_ _
          obtain ⟨w9, hw9⟩ : ∃ W, W = w8.setRow w.heap.size #[.slice ua un uc, .slice ul um uk, .int .i64 uf, .bool ud] := ⟨_, rfl⟩
          have B9 := Lib.hid i9
          rw [← hw9] at M9 D9 Z9 HS9 B9 ⊢
          clear hw9 i9 i8 M8 Z8 i7 M7 Z7 HS7
          have hne : (E2 != 0) = true := by simpa using HC2.out
          have he2 : (E2 == 0) = false := by simpa using HC2.out
          have he3 : ¬ ((E2 : Int) = 0) := HC2.out
          have Da := Lib.hid ((D9.out.put (w.heap.size + 1) HNG.out.2 #[.slice ua un uc, .slice ul um uk, .int .i64 uf, .bool ud]).mono (G' := fun q => G q ∨ w.heap.size ≤ q) (fun q hq => by
            rcases hq with h | h
            · exact Or.inl h
            · exact Or.inr (by omega)))
          rw [← E8.out] at Da
          have Bb := Lib.hid (below_setRow B9.out (show w.heap.size ≤ w.heap.size + 1 by omega) #[.slice ua un uc, .slice ul um uk, .int .i64 uf, .bool ud])
          clear D9 HNG HS9 E8 HC2
          go_wp2_with (first | (refine wpList_load_row rfl 32 (.tmp 2) rfl w.heap.size rfl 32 #[.slice ua un uc, .slice ul um uk, .int .i64 uf, .bool ud] (0, 0) _ M9.out Try.underlying32 rfl Try.infoDisk4 ?_) | (refine wpList_store_row rfl 32 (.tmp 4) (.tmp 102) rfl (w.heap.size + 1) #[.slice ua un uc, .slice ul um uk, .int .i64 uf, .bool ud] rfl rfl 32 _ Z9.out Try.infoDisk4 rfl (by simp [Value.oneCell']) ?_))
          have h9 := E9.out
          subst h9
          refine bodyPost_ret (results_ct rfl _ _ (w.heap.size + 1) 32 #[.slice ua un uc, .slice ul um uk, .int .i64 uf, .bool ud] (0, 0) _ rfl (setRow_heap _ _ _ _ _ _ Z9.out) Try.underlying32 rfl Try.infoDisk4) rfl ⟨⟨_, rfl, Da.out⟩, Bb.out⟩
        · skip
          go_simp
          rw [IntWalk.i64_in ((g : Int) + 1) (by omega), IntWalk.i64_in (1 - (sl : Int)) (by omega)]
          refine (HH.out _).mono ?_
          clear HH
          rintro e w7 ⟨rfl, hb7⟩
          have i7 : Below w.heap.size w w7 := i0.trans (hb7.mono i0.size)
          have M7 : Has w7 w.heap.size (.cells #[.slice ya yn yc, .slice yl ym yk, .int .i64 yf, .bool yd] 32) := M6.later hb7
          have Z7 := Lib.hid (Z6.out.later hb7)
          have D7 := Lib.hid (D6.out w7 hb7)
          have HS7 : Hid (w.heap.size + 2 ≤ w7.heap.size) := by have := hb7.size; have := HS6.out; show _ ≤ _; omega
          clear hb7 M6 Z6 D6 HS6 i0
          dsimp only
          refine hK.out _ _ i7 (fun _ => ?_)
          clear hK K
          try simp only [Act.put, List.getElem_toArray, List.getElem_cons_zero, List.getElem_cons_succ, List.setIfInBounds_toArray, List.set_cons_zero, List.set_cons_succ]
          refine wpAnyH_ready (rs := [0]) (by kernel_rfl) (by simp) ?_
          refine AllReadyH.cons rfl (fun K hK => ?_) AllReadyH.nil
          rw [if_pos (by rfl)]
          refine wp_load_row 32 _ rfl w.heap.size rfl 32 #[.slice ya yn yc, .slice yl ym yk, .int .i64 yf, .bool yd] (0, 0) _ M7 Try.underlying32 rfl Try.infoDisk4 ?_
          refine hK.out _ _ i7 (fun _ => ?_)
          clear hK K
          try simp only [Act.put, List.getElem_toArray, List.getElem_cons_zero, List.setIfInBounds_toArray, List.set_cons_zero, List.set_cons_succ]
          refine wpAnyH_ready (rs := [7]) (by kernel_rfl) (by simp) ?_
          refine AllReadyH.cons rfl (fun K hK => ?_) AllReadyH.nil
          go_simp
          refine (CW2.out _ _ D7.out).mono ?_
          clear CW2 D7
          rintro e w8 ⟨⟨v8, rfl, hd8⟩, hb8⟩
          obtain ⟨ua, un, uc, ul, um, uk, uf, ud, rfl⟩ := hd8.four
          have hz8 := hb8.size
          have hz7 := HS7.out
          have hdm := hd8.mono (G' := (fun q => G q ∨ w.heap.size + 2 ≤ q)) (fun q hq => by rcases hq with h | h; exact h; exact Or.inr (by omega))
          have i8 : Below w.heap.size w w8 := i7.trans (hb8.mono i7.size)
          have M8 : Has w8 w.heap.size (.cells #[.slice ya yn yc, .slice yl ym yk, .int .i64 yf, .bool yd] 32) := M7.later hb8
          have Z8 := Lib.hid (Z7.out.later hb8)
          have i9 : Below w.heap.size w (w8.setRow w.heap.size #[.slice ua un uc, .slice ul um uk, .int .i64 uf, .bool ud]) := below_setRow i8 (Nat.le_refl _) _
          have M9 := Lib.hid (show Has (w8.setRow w.heap.size #[.slice ua un uc, .slice ul um uk, .int .i64 uf, .bool ud]) w.heap.size (.cells #[.slice ua un uc, .slice ul um uk, .int .i64 uf, .bool ud] 32) from setRow_heap _ _ _ _ _ _ M8)
          have D9 := Lib.hid (hdm.put w.heap.size HNG.out.1 #[.slice ua un uc, .slice ul um uk, .int .i64 uf, .bool ud])
          have Z9 := Lib.hid (show Has (w8.setRow w.heap.size #[.slice ua un uc, .slice ul um uk, .int .i64 uf, .bool ud]) (w.heap.size + 1) (.cells #[.slice none 0 0, .slice none 0 0, .int .i64 0, .bool false] 32) from has_row Z8.out (by omega) _)
          have HS9 : Hid (w.heap.size + 2 ≤ (w8.setRow w.heap.size #[.slice ua un uc, .slice ul um uk, .int .i64 uf, .bool ud]).heap.size) := by show _ ≤ _; simp; omega
          clear hd8 hb8 hz8 hz7 hdm
          dsimp only
          refine hK.out _ _ i8 (fun _ => ?_)
          clear hK K
          try simp only [Act.put, List.getElem_toArray, List.getElem_cons_zero, List.getElem_cons_succ, List.setIfInBounds_toArray, List.set_cons_zero, List.set_cons_succ]
          refine wpAnyH_take (i := 8) (v := ?_) rfl (by kernel_rfl) (by kernel_rfl) (by kernel_rfl) (fun _ _ _ h => h) (Or.inl ⟨rfl, ?hy8⟩) i8 ?_
          case hy8 => intro w' hw'; clear hw'; go_simp; first | done | rfl
          try simp only [Act.put, List.getElem_toArray, List.getElem_cons_zero, List.getElem_cons_succ, List.setIfInBounds_toArray, List.set_cons_zero, List.set_cons_succ]
          refine wpAnyH_take (i := 9) (v := ?_) rfl (by kernel_rfl) (by kernel_rfl) (by kernel_rfl) (fun _ _ _ h => h) (Or.inl ⟨rfl, ?hy9⟩) i8 ?_
          case hy9 => intro w' hw'; clear hw'; go_simp; first | done | rfl
          try simp only [Act.put, List.getElem_toArray, List.getElem_cons_zero, List.getElem_cons_succ, List.setIfInBounds_toArray, List.set_cons_zero, List.set_cons_succ]
          refine wpAnyH_take (i := 10) (v := ?_) rfl (by kernel_rfl) (by kernel_rfl) (by kernel_rfl) (fun _ _ _ h => h) (Or.inl ⟨rfl, ?hy10⟩) i8 ?_
          case hy10 => intro w' hw'; clear hw'; go_simp; first | done | rfl
          try simp only [Act.put, List.getElem_toArray, List.getElem_cons_zero, List.getElem_cons_succ, List.setIfInBounds_toArray, List.set_cons_zero, List.set_cons_succ]
          refine wpAnyH_ready (rs := [11]) (by kernel_rfl) (by simp) ?_
          refine AllReadyH.cons rfl (fun K hK => ?_) AllReadyH.nil
          rw [if_pos (by rfl)]
          refine wp_store_row 32 _ _ rfl w.heap.size #[.slice ua un uc, .slice ul um uk, .int .i64 uf, .bool ud] rfl rfl 32 _ M8 Try.infoDisk4 rfl (by simp [Value.oneCell']) ?_
          refine hK.out _ _ i9 (fun _ => ?_)
          clear hK K
          try simp only [Act.put, List.getElem_toArray, List.getElem_cons_zero, List.getElem_cons_succ]
          refine wpAnyH_take (i := 12) (v := ?_) rfl (by kernel_rfl) (by kernel_rfl) (by kernel_rfl) (fun _ _ _ h => h) (Or.inl ⟨rfl, ?hy12⟩) i9 ?_
          case hy12 => intro w' hw'; clear hw'; go_simp; first | done | rfl
          try simp only [Act.put, List.getElem_toArray, List.getElem_cons_zero, List.getElem_cons_succ, List.setIfInBounds_toArray, List.set_cons_zero, List.set_cons_succ]
          refine wpAnyH_done (by kernel_rfl) ?_ _
          obtain ⟨w9, hw9⟩ : ∃ W, W = w8.setRow w.heap.size #[.slice ua un uc, .slice ul um uk, .int .i64 uf, .bool ud] := ⟨_, rfl⟩
          have B9 := Lib.hid i9
          rw [← hw9] at M9 D9 Z9 HS9 B9 ⊢
          clear hw9 i9 i8 M8 Z8 i7 M7 Z7 HS7
          have hne : (E2 != 0) = true := by simpa using HC2.out
          have he2 : (E2 == 0) = false := by simpa using HC2.out
          have he3 : ¬ ((E2 : Int) = 0) := HC2.out
          have Da := Lib.hid ((D9.out.put (w.heap.size + 1) HNG.out.2 #[.slice ua un uc, .slice ul um uk, .int .i64 uf, .bool ud]).mono (G' := fun q => G q ∨ w.heap.size ≤ q) (fun q hq => by
            rcases hq with h | h
            · exact Or.inl h
            · exact Or.inr (by omega)))
          rw [← E8.out] at Da
          have Bb := Lib.hid (below_setRow B9.out (show w.heap.size ≤ w.heap.size + 1 by omega) #[.slice ua un uc, .slice ul um uk, .int .i64 uf, .bool ud])
          clear D9 HNG HS9 E8 HC2
          go_wp2_with (first | (refine wpList_load_row rfl 32 (.tmp 2) rfl w.heap.size rfl 32 #[.slice ua un uc, .slice ul um uk, .int .i64 uf, .bool ud] (0, 0) _ M9.out Try.underlying32 rfl Try.infoDisk4 ?_) | (refine wpList_store_row rfl 32 (.tmp 4) (.tmp 102) rfl (w.heap.size + 1) #[.slice ua un uc, .slice ul um uk, .int .i64 uf, .bool ud] rfl rfl 32 _ Z9.out Try.infoDisk4 rfl (by simp [Value.oneCell']) ?_))
          have h9 := E9.out
          subst h9
          refine bodyPost_ret (results_ct rfl _ _ (w.heap.size + 1) 32 #[.slice ua un uc, .slice ul um uk, .int .i64 uf, .bool ud] (0, 0) _ rfl (setRow_heap _ _ _ _ _ _ Z9.out) Try.underlying32 rfl Try.infoDisk4) rfl ⟨⟨_, rfl, Da.out⟩, Bb.out⟩
      · subst hc1
        have E9 := Lib.hid e9
        have E8 := Lib.hid e8
        have HC2 := Lib.hid hc2
        have i0 : Below w.heap.size w w5.drew := below_drewN B5.out 1
        have M6 : Has w5.drew w.heap.size (.cells #[.slice ya yn yc, .slice yl ym yk, .int .i64 yf, .bool yd] 32) := M5.out.later (below_drewN (Below.refl _ _) 1)
        have Z6 := Lib.hid (show Has w5.drew (w.heap.size + 1) (.cells #[.slice none 0 0, .slice none 0 0, .int .i64 0, .bool false] 32) from Z5.out.later (below_drewN (Below.refl _ _) 1))
        have D6 := Lib.hid (fun W (hb : Below w5.drew.heap.size w5.drew W) => (D5.out.later (below_drewN (Below.refl w5.heap.size w5) 1)).later hb)
        have HS6 : Hid (w.heap.size + 2 ≤ w5.drew.heap.size) := HS5.out
        clear D5 HS5 e8 e9 HEN' hc2
        go_wp2_with (refine wpList_store_row rfl 32 (.tmp 2) (.tmp 83) rfl w.heap.size #[.slice ya yn yc, .slice yl ym yk, .int .i64 yf, .bool yd] rfl rfl 32 _ M2.out Try.infoDisk4 rfl (by simp [Value.oneCell']) ?_; rw [← HW5.out])
        clear M5 Z5 B5 HW5 M2 Z2 B2
        refine wp_region_held_drew (S := fun wx => Below w.heap.size w wx) (by kernel_rfl) i0 (fun _ => ?_)
        change wpAnyH _ _ _ _ _ 13 (Array.replicate 13 false) _ _
        refine wpAnyH_take (i := 1) (v := ?_) rfl (by kernel_rfl) (by kernel_rfl) (by kernel_rfl) (fun _ _ _ h => h) (Or.inl ⟨rfl, ?hy1⟩) i0 ?_
        case hy1 => intro w' hw'; clear hw'; go_simp; first | done | rfl
        try simp only [Act.put, List.getElem_toArray, List.getElem_cons_zero, List.getElem_cons_succ, List.setIfInBounds_toArray, List.set_cons_zero, List.set_cons_succ]
        refine wpAnyH_take (i := 2) (v := ?_) rfl (by kernel_rfl) (by kernel_rfl) (by kernel_rfl) (fun _ _ _ h => h) (Or.inl ⟨rfl, ?hy2⟩) i0 ?_
        case hy2 => intro w' hw'; clear hw'; go_simp; first | done | rfl
        try simp only [Act.put, List.getElem_toArray, List.getElem_cons_zero, List.getElem_cons_succ, List.setIfInBounds_toArray, List.set_cons_zero, List.set_cons_succ]
        refine wpAnyH_take (i := 3) (v := ?_) rfl (by kernel_rfl) (by kernel_rfl) (by kernel_rfl) (fun _ _ _ h => h) (Or.inl ⟨rfl, ?hy3⟩) i0 ?_
        case hy3 => intro w' hw'; clear hw'; go_simp; first | done | rfl
        try simp only [Act.put, List.getElem_toArray, List.getElem_cons_zero, List.getElem_cons_succ, List.setIfInBounds_toArray, List.set_cons_zero, List.set_cons_succ]
        refine wpAnyH_take (i := 4) (v := ?_) rfl (by kernel_rfl) (by kernel_rfl) (by kernel_rfl) (fun _ _ _ h => h) (Or.inl ⟨rfl, ?hy4⟩) i0 ?_
        case hy4 => intro w' hw'; clear hw'; go_simp; first | done | rfl
        try simp only [Act.put, List.getElem_toArray, List.getElem_cons_zero, List.getElem_cons_succ, List.setIfInBounds_toArray, List.set_cons_zero, List.set_cons_succ]
        refine wpAnyH_take (i := 5) (v := ?_) rfl (by kernel_rfl) (by kernel_rfl) (by kernel_rfl) (fun _ _ _ h => h) (Or.inl ⟨rfl, ?hy5⟩) i0 ?_
        case hy5 => intro w' hw'; clear hw'; go_simp; first | done | rfl
        try simp only [Act.put, List.getElem_toArray, List.getElem_cons_zero, List.getElem_cons_succ, List.setIfInBounds_toArray, List.set_cons_zero, List.set_cons_succ]
        refine wpAnyH_ready (rs := [0, 6]) (by kernel_rfl) (by simp) ?_
        refine AllReadyH.cons rfl (fun K hK => ?_) (AllReadyH.cons rfl (fun K hK => ?_) AllReadyH.nil)
        · skip
          rw [if_pos (by rfl)]
          refine wp_load_row 32 _ rfl w.heap.size rfl 32 #[.slice ya yn yc, .slice yl ym yk, .int .i64 yf, .bool yd] (0, 0) _ M6 Try.underlying32 rfl Try.infoDisk4 ?_
          refine hK.out _ _ i0 (fun _ => ?_)
          clear hK K
          try simp only [Act.put, List.getElem_toArray, List.getElem_cons_zero, List.setIfInBounds_toArray, List.set_cons_zero, List.set_cons_succ]
          refine wpAnyH_ready (rs := [6]) (by kernel_rfl) (by simp) ?_
          refine AllReadyH.cons rfl (fun K hK => ?_) AllReadyH.nil
          go_simp
          rw [IntWalk.i64_in ((g : Int) + 1) (by omega), IntWalk.i64_in (1 - (sl : Int)) (by omega)]
          refine (HH.out _).mono ?_
          clear HH
          rintro e w7 ⟨rfl, hb7⟩
          have i7 : Below w.heap.size w w7 := i0.trans (hb7.mono i0.size)
          have M7 : Has w7 w.heap.size (.cells #[.slice ya yn yc, .slice yl ym yk, .int .i64 yf, .bool yd] 32) := M6.later hb7
          have Z7 := Lib.hid (Z6.out.later hb7)
          have D7 := Lib.hid (D6.out w7 hb7)
          have HS7 : Hid (w.heap.size + 2 ≤ w7.heap.size) := by have := hb7.size; have := HS6.out; show _ ≤ _; omega
          clear hb7 M6 Z6 D6 HS6 i0
          dsimp only
          refine hK.out _ _ i7 (fun _ => ?_)
          clear hK K
          try simp only [Act.put, List.getElem_toArray, List.getElem_cons_zero, List.getElem_cons_succ, List.setIfInBounds_toArray, List.set_cons_zero, List.set_cons_succ]
          refine wpAnyH_ready (rs := [7]) (by kernel_rfl) (by simp) ?_
          refine AllReadyH.cons rfl (fun K hK => ?_) AllReadyH.nil
          go_simp
          refine (CW2.out _ _ D7.out).mono ?_
          clear CW2 D7
          rintro e w8 ⟨⟨v8, rfl, hd8⟩, hb8⟩
          obtain ⟨ua, un, uc, ul, um, uk, uf, ud, rfl⟩ := hd8.four
          have hz8 := hb8.size
          have hz7 := HS7.out
          have hdm := hd8.mono (G' := (fun q => G q ∨ w.heap.size + 2 ≤ q)) (fun q hq => by rcases hq with h | h; exact h; exact Or.inr (by omega))
          have i8 : Below w.heap.size w w8 := i7.trans (hb8.mono i7.size)
          have M8 : Has w8 w.heap.size (.cells #[.slice ya yn yc, .slice yl ym yk, .int .i64 yf, .bool yd] 32) := M7.later hb8
          have Z8 := Lib.hid (Z7.out.later hb8)
          have i9 : Below w.heap.size w (w8.setRow w.heap.size #[.slice ua un uc, .slice ul um uk, .int .i64 uf, .bool ud]) := below_setRow i8 (Nat.le_refl _) _
          have M9 := Lib.hid (show Has (w8.setRow w.heap.size #[.slice ua un uc, .slice ul um uk, .int .i64 uf, .bool ud]) w.heap.size (.cells #[.slice ua un uc, .slice ul um uk, .int .i64 uf, .bool ud] 32) from setRow_heap _ _ _ _ _ _ M8)
          have D9 := Lib.hid (hdm.put w.heap.size HNG.out.1 #[.slice ua un uc, .slice ul um uk, .int .i64 uf, .bool ud])
          have Z9 := Lib.hid (show Has (w8.setRow w.heap.size #[.slice ua un uc, .slice ul um uk, .int .i64 uf, .bool ud]) (w.heap.size + 1) (.cells #[.slice none 0 0, .slice none 0 0, .int .i64 0, .bool false] 32) from has_row Z8.out (by omega) _)
          have HS9 : Hid (w.heap.size + 2 ≤ (w8.setRow w.heap.size #[.slice ua un uc, .slice ul um uk, .int .i64 uf, .bool ud]).heap.size) := by show _ ≤ _; simp; omega
          clear hd8 hb8 hz8 hz7 hdm
          dsimp only
          refine hK.out _ _ i8 (fun _ => ?_)
          clear hK K
          try simp only [Act.put, List.getElem_toArray, List.getElem_cons_zero, List.getElem_cons_succ, List.setIfInBounds_toArray, List.set_cons_zero, List.set_cons_succ]
          refine wpAnyH_take (i := 8) (v := ?_) rfl (by kernel_rfl) (by kernel_rfl) (by kernel_rfl) (fun _ _ _ h => h) (Or.inl ⟨rfl, ?hy8⟩) i8 ?_
          case hy8 => intro w' hw'; clear hw'; go_simp; first | done | rfl
          try simp only [Act.put, List.getElem_toArray, List.getElem_cons_zero, List.getElem_cons_succ, List.setIfInBounds_toArray, List.set_cons_zero, List.set_cons_succ]
          refine wpAnyH_take (i := 9) (v := ?_) rfl (by kernel_rfl) (by kernel_rfl) (by kernel_rfl) (fun _ _ _ h => h) (Or.inl ⟨rfl, ?hy9⟩) i8 ?_
          case hy9 => intro w' hw'; clear hw'; go_simp; first | done | rfl
          try simp only [Act.put, List.getElem_toArray, List.getElem_cons_zero, List.getElem_cons_succ, List.setIfInBounds_toArray, List.set_cons_zero, List.set_cons_succ]
          refine wpAnyH_take (i := 10) (v := ?_) rfl (by kernel_rfl) (by kernel_rfl) (by kernel_rfl) (fun _ _ _ h => h) (Or.inl ⟨rfl, ?hy10⟩) i8 ?_
          case hy10 => intro w' hw'; clear hw'; go_simp; first | done | rfl
          try simp only [Act.put, List.getElem_toArray, List.getElem_cons_zero, List.getElem_cons_succ, List.setIfInBounds_toArray, List.set_cons_zero, List.set_cons_succ]
          refine wpAnyH_ready (rs := [11]) (by kernel_rfl) (by simp) ?_
          refine AllReadyH.cons rfl (fun K hK => ?_) AllReadyH.nil
          rw [if_pos (by rfl)]
          refine wp_store_row 32 _ _ rfl w.heap.size #[.slice ua un uc, .slice ul um uk, .int .i64 uf, .bool ud] rfl rfl 32 _ M8 Try.infoDisk4 rfl (by simp [Value.oneCell']) ?_
          refine hK.out _ _ i9 (fun _ => ?_)
          clear hK K
          try simp only [Act.put, List.getElem_toArray, List.getElem_cons_zero, List.getElem_cons_succ]
          refine wpAnyH_take (i := 12) (v := ?_) rfl (by kernel_rfl) (by kernel_rfl) (by kernel_rfl) (fun _ _ _ h => h) (Or.inl ⟨rfl, ?hy12⟩) i9 ?_
          case hy12 => intro w' hw'; clear hw'; go_simp; first | done | rfl
          try simp only [Act.put, List.getElem_toArray, List.getElem_cons_zero, List.getElem_cons_succ, List.setIfInBounds_toArray, List.set_cons_zero, List.set_cons_succ]
          refine wpAnyH_done (by kernel_rfl) ?_ _
          obtain ⟨w9, hw9⟩ : ∃ W, W = w8.setRow w.heap.size #[.slice ua un uc, .slice ul um uk, .int .i64 uf, .bool ud] := ⟨_, rfl⟩
          have B9 := Lib.hid i9
          rw [← hw9] at M9 D9 Z9 HS9 B9 ⊢
          clear hw9 i9 i8 M8 Z8 i7 M7 Z7 HS7
          have hE2 : E2 = 0 := HC2.out
          have CS3' := Lib.hid (CS3.out w9 _ D9.out)
          clear HC2 CS3 D9
          subst hE2
          go_wp2_with (refine wpList_load_row rfl 32 (.tmp 2) rfl w.heap.size rfl 32 #[.slice ua un uc, .slice ul um uk, .int .i64 uf, .bool ud] (0, 0) _ M9.out Try.underlying32 rfl Try.infoDisk4 ?_)
          refine CS3'.out.mono ?_
          clear CS3'
          rintro e wa ⟨⟨va, rfl, hda⟩, hba⟩
          obtain ⟨ta, tn, tc, tl, tm, tk, tf, td, rfl⟩ := hda.four
          have hza := hba.size
          have hz9 := HS9.out
          have hdm := hda.mono (G' := (fun q => G q ∨ w.heap.size + 2 ≤ q)) (fun q hq => by rcases hq with h | h; exact h; exact Or.inr (by omega))
          have Ba := Lib.hid (B9.out.trans (hba.mono B9.out.size))
          have Za := Lib.hid (Z9.out.later hba)
          have Da := Lib.hid ((hdm.put (w.heap.size + 1) HNG.out.2 #[.slice ta tn tc, .slice tl tm tk, .int .i64 tf, .bool td]).mono (G' := fun q => G q ∨ w.heap.size ≤ q) (fun q hq => by
            rcases hq with h | h
            · exact Or.inl h
            · exact Or.inr (by omega)))
          rw [← E8.out] at Da
          have Bb := Lib.hid (below_setRow Ba.out (show w.heap.size ≤ w.heap.size + 1 by omega) #[.slice ta tn tc, .slice tl tm tk, .int .i64 tf, .bool td])
          clear hda hba hza hz9 hdm HNG HS9 E8
          go_wp2_with (refine wpList_store_row rfl 32 (.tmp 4) (.tmp 106) rfl (w.heap.size + 1) #[.slice ta tn tc, .slice tl tm tk, .int .i64 tf, .bool td] rfl rfl 32 _ Za.out Try.infoDisk4 rfl (by simp [Value.oneCell']) ?_)
          have h9 := E9.out
          subst h9
          refine bodyPost_ret (results_ct rfl _ _ (w.heap.size + 1) 32 #[.slice ta tn tc, .slice tl tm tk, .int .i64 tf, .bool td] (0, 0) _ rfl (setRow_heap _ _ _ _ _ _ Za.out) Try.underlying32 rfl Try.infoDisk4) rfl ⟨⟨_, rfl, Da.out⟩, Bb.out⟩
        · skip
          go_simp
          rw [IntWalk.i64_in ((g : Int) + 1) (by omega), IntWalk.i64_in (1 - (sl : Int)) (by omega)]
          refine (HH.out _).mono ?_
          clear HH
          rintro e w7 ⟨rfl, hb7⟩
          have i7 : Below w.heap.size w w7 := i0.trans (hb7.mono i0.size)
          have M7 : Has w7 w.heap.size (.cells #[.slice ya yn yc, .slice yl ym yk, .int .i64 yf, .bool yd] 32) := M6.later hb7
          have Z7 := Lib.hid (Z6.out.later hb7)
          have D7 := Lib.hid (D6.out w7 hb7)
          have HS7 : Hid (w.heap.size + 2 ≤ w7.heap.size) := by have := hb7.size; have := HS6.out; show _ ≤ _; omega
          clear hb7 M6 Z6 D6 HS6 i0
          dsimp only
          refine hK.out _ _ i7 (fun _ => ?_)
          clear hK K
          try simp only [Act.put, List.getElem_toArray, List.getElem_cons_zero, List.getElem_cons_succ, List.setIfInBounds_toArray, List.set_cons_zero, List.set_cons_succ]
          refine wpAnyH_ready (rs := [0]) (by kernel_rfl) (by simp) ?_
          refine AllReadyH.cons rfl (fun K hK => ?_) AllReadyH.nil
          rw [if_pos (by rfl)]
          refine wp_load_row 32 _ rfl w.heap.size rfl 32 #[.slice ya yn yc, .slice yl ym yk, .int .i64 yf, .bool yd] (0, 0) _ M7 Try.underlying32 rfl Try.infoDisk4 ?_
          refine hK.out _ _ i7 (fun _ => ?_)
          clear hK K
          try simp only [Act.put, List.getElem_toArray, List.getElem_cons_zero, List.setIfInBounds_toArray, List.set_cons_zero, List.set_cons_succ]
          refine wpAnyH_ready (rs := [7]) (by kernel_rfl) (by simp) ?_
          refine AllReadyH.cons rfl (fun K hK => ?_) AllReadyH.nil
          go_simp
          refine (CW2.out _ _ D7.out).mono ?_
          clear CW2 D7
          rintro e w8 ⟨⟨v8, rfl, hd8⟩, hb8⟩
          obtain ⟨ua, un, uc, ul, um, uk, uf, ud, rfl⟩ := hd8.four
          have hz8 := hb8.size
          have hz7 := HS7.out
          have hdm := hd8.mono (G' := (fun q => G q ∨ w.heap.size + 2 ≤ q)) (fun q hq => by rcases hq with h | h; exact h; exact Or.inr (by omega))
          have i8 : Below w.heap.size w w8 := i7.trans (hb8.mono i7.size)
          have M8 : Has w8 w.heap.size (.cells #[.slice ya yn yc, .slice yl ym yk, .int .i64 yf, .bool yd] 32) := M7.later hb8
          have Z8 := Lib.hid (Z7.out.later hb8)
          have i9 : Below w.heap.size w (w8.setRow w.heap.size #[.slice ua un uc, .slice ul um uk, .int .i64 uf, .bool ud]) := below_setRow i8 (Nat.le_refl _) _
          have M9 := Lib.hid (show Has (w8.setRow w.heap.size #[.slice ua un uc, .slice ul um uk, .int .i64 uf, .bool ud]) w.heap.size (.cells #[.slice ua un uc, .slice ul um uk, .int .i64 uf, .bool ud] 32) from setRow_heap _ _ _ _ _ _ M8)
          have D9 := Lib.hid (hdm.put w.heap.size HNG.out.1 #[.slice ua un uc, .slice ul um uk, .int .i64 uf, .bool ud])
          have Z9 := Lib.hid (show Has (w8.setRow w.heap.size #[.slice ua un uc, .slice ul um uk, .int .i64 uf, .bool ud]) (w.heap.size + 1) (.cells #[.slice none 0 0, .slice none 0 0, .int .i64 0, .bool false] 32) from has_row Z8.out (by omega) _)
          have HS9 : Hid (w.heap.size + 2 ≤ (w8.setRow w.heap.size #[.slice ua un uc, .slice ul um uk, .int .i64 uf, .bool ud]).heap.size) := by show _ ≤ _; simp; omega
          clear hd8 hb8 hz8 hz7 hdm
          dsimp only
          refine hK.out _ _ i8 (fun _ => ?_)
          clear hK K
          try simp only [Act.put, List.getElem_toArray, List.getElem_cons_zero, List.getElem_cons_succ, List.setIfInBounds_toArray, List.set_cons_zero, List.set_cons_succ]
          refine wpAnyH_take (i := 8) (v := ?_) rfl (by kernel_rfl) (by kernel_rfl) (by kernel_rfl) (fun _ _ _ h => h) (Or.inl ⟨rfl, ?hy8⟩) i8 ?_
          case hy8 => intro w' hw'; clear hw'; go_simp; first | done | rfl
          try simp only [Act.put, List.getElem_toArray, List.getElem_cons_zero, List.getElem_cons_succ, List.setIfInBounds_toArray, List.set_cons_zero, List.set_cons_succ]
          refine wpAnyH_take (i := 9) (v := ?_) rfl (by kernel_rfl) (by kernel_rfl) (by kernel_rfl) (fun _ _ _ h => h) (Or.inl ⟨rfl, ?hy9⟩) i8 ?_
          case hy9 => intro w' hw'; clear hw'; go_simp; first | done | rfl
          try simp only [Act.put, List.getElem_toArray, List.getElem_cons_zero, List.getElem_cons_succ, List.setIfInBounds_toArray, List.set_cons_zero, List.set_cons_succ]
          refine wpAnyH_take (i := 10) (v := ?_) rfl (by kernel_rfl) (by kernel_rfl) (by kernel_rfl) (fun _ _ _ h => h) (Or.inl ⟨rfl, ?hy10⟩) i8 ?_
          case hy10 => intro w' hw'; clear hw'; go_simp; first | done | rfl
          try simp only [Act.put, List.getElem_toArray, List.getElem_cons_zero, List.getElem_cons_succ, List.setIfInBounds_toArray, List.set_cons_zero, List.set_cons_succ]
          refine wpAnyH_ready (rs := [11]) (by kernel_rfl) (by simp) ?_
          refine AllReadyH.cons rfl (fun K hK => ?_) AllReadyH.nil
          rw [if_pos (by rfl)]
          refine wp_store_row 32 _ _ rfl w.heap.size #[.slice ua un uc, .slice ul um uk, .int .i64 uf, .bool ud] rfl rfl 32 _ M8 Try.infoDisk4 rfl (by simp [Value.oneCell']) ?_
          refine hK.out _ _ i9 (fun _ => ?_)
          clear hK K
          try simp only [Act.put, List.getElem_toArray, List.getElem_cons_zero, List.getElem_cons_succ]
          refine wpAnyH_take (i := 12) (v := ?_) rfl (by kernel_rfl) (by kernel_rfl) (by kernel_rfl) (fun _ _ _ h => h) (Or.inl ⟨rfl, ?hy12⟩) i9 ?_
          case hy12 => intro w' hw'; clear hw'; go_simp; first | done | rfl
          try simp only [Act.put, List.getElem_toArray, List.getElem_cons_zero, List.getElem_cons_succ, List.setIfInBounds_toArray, List.set_cons_zero, List.set_cons_succ]
          refine wpAnyH_done (by kernel_rfl) ?_ _
          obtain ⟨w9, hw9⟩ : ∃ W, W = w8.setRow w.heap.size #[.slice ua un uc, .slice ul um uk, .int .i64 uf, .bool ud] := ⟨_, rfl⟩
          have B9 := Lib.hid i9
          rw [← hw9] at M9 D9 Z9 HS9 B9 ⊢
          clear hw9 i9 i8 M8 Z8 i7 M7 Z7 HS7
          have hE2 : E2 = 0 := HC2.out
          have CS3' := Lib.hid (CS3.out w9 _ D9.out)
          clear HC2 CS3 D9
          subst hE2
          go_wp2_with (refine wpList_load_row rfl 32 (.tmp 2) rfl w.heap.size rfl 32 #[.slice ua un uc, .slice ul um uk, .int .i64 uf, .bool ud] (0, 0) _ M9.out Try.underlying32 rfl Try.infoDisk4 ?_)
          refine CS3'.out.mono ?_
          clear CS3'
          rintro e wa ⟨⟨va, rfl, hda⟩, hba⟩
          obtain ⟨ta, tn, tc, tl, tm, tk, tf, td, rfl⟩ := hda.four
          have hza := hba.size
          have hz9 := HS9.out
          have hdm := hda.mono (G' := (fun q => G q ∨ w.heap.size + 2 ≤ q)) (fun q hq => by rcases hq with h | h; exact h; exact Or.inr (by omega))
          have Ba := Lib.hid (B9.out.trans (hba.mono B9.out.size))
          have Za := Lib.hid (Z9.out.later hba)
          have Da := Lib.hid ((hdm.put (w.heap.size + 1) HNG.out.2 #[.slice ta tn tc, .slice tl tm tk, .int .i64 tf, .bool td]).mono (G' := fun q => G q ∨ w.heap.size ≤ q) (fun q hq => by
            rcases hq with h | h
            · exact Or.inl h
            · exact Or.inr (by omega)))
          rw [← E8.out] at Da
          have Bb := Lib.hid (below_setRow Ba.out (show w.heap.size ≤ w.heap.size + 1 by omega) #[.slice ta tn tc, .slice tl tm tk, .int .i64 tf, .bool td])
          clear hda hba hza hz9 hdm HNG HS9 E8
          go_wp2_with (refine wpList_store_row rfl 32 (.tmp 4) (.tmp 106) rfl (w.heap.size + 1) #[.slice ta tn tc, .slice tl tm tk, .int .i64 tf, .bool td] rfl rfl 32 _ Za.out Try.infoDisk4 rfl (by simp [Value.oneCell']) ?_)
          have h9 := E9.out
          subst h9
          refine bodyPost_ret (results_ct rfl _ _ (w.heap.size + 1) 32 #[.slice ta tn tc, .slice tl tm tk, .int .i64 tf, .bool td] (0, 0) _ rfl (setRow_heap _ _ _ _ _ _ Za.out) Try.underlying32 rfl Try.infoDisk4) rfl ⟨⟨_, rfl, Da.out⟩, Bb.out⟩
end Go.Proofs.Ythbiibinmofmfaa
