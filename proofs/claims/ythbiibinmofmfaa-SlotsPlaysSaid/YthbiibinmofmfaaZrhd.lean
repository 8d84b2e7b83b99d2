/- The document's Header. -/
import Derived.Test.YthbiibinmofmfaaCmore
import Derived.Test.YthbiibinmofmfaaZpow
import Derived.Test.YthbiibinmofmfaaEstr
import Derived.Test.YthbiibinmofmfaaElv
import Derived.Deep.OwnRows
import Derived.Lib.ConvBytes

namespace Go.Proofs.Ythbiibinmofmfaa
set_option maxRecDepth 100000
open Go.RowKit

theorem wpAnyH_mono {P : Program} {md : Region.Mode} {ops : Array Oper} {Q : Exit → Act → World → Prop} {S S' : World → Prop} (h : ∀ w, S' w → S w) : ∀ (fuel : Nat) (listed : Array Bool) (a : Act) (w : World), wpAnyH P md ops Q S' fuel listed a w → wpAnyH P md ops Q S fuel listed a w
  | 0, _, _, _, hh => hh
  | n + 1, _, _, _, hh => ⟨hh.1, fun i hi => wpOp_mono (fun a w hk => ⟨h w hk.1, wpAnyH_mono h n _ a w hk.2⟩) (hh.2 i hi)⟩
/-- Bytes of a string. -/
theorem conv_bytes (bs : List Nat) (h8 : ∀ x ∈ bs, x < 256) (hl : bs.length ≤ 281474976710656) (S : ByteArray) (hS : Hid (S = strB bs)) (w : World) :
    ∃ cap w', (convert 9 35 (.string S)).run Try.prog w = .ok (.slice (some ⟨w.heap.size, 0, none⟩) bs.length cap) w' ∧ Sl w' (.slice (some ⟨w.heap.size, 0, none⟩) bs.length cap) bs ∧ Below w.heap.size w w' ∧ bs.length ≤ cap := by
  have hsz : S.size = bs.length := by rw [hS.out, strB_size]
  refine ⟨grownCap w S.size 0 5, Lib.bytesWorld w 5 S, ?_, ?_, ?_, ?_⟩
  · rw [← hsz]
    exact Lib.run_convert_string_bytes w 9 35 5 S Try.underlying9 Try.underlying35 Try.underlying5
  · refine ⟨_, _, _, rfl, rfl, hl, fun h => (nomatch h), h8, fun h0 => ⟨w.heap.size, 0, rfl, by rw [Lib.bytesWorld_size]; omega, fun i hi => ?_⟩⟩
    rw [Nat.zero_add, Lib.bytesWorld_cell w _ S i (by omega)]
    congr 2
    have e : S.data.toList = bs.map UInt8.ofNat := by
      rw [hS.out]
      unfold strB
      rw [strOfNums_data, List.map_map]
      congr 1
    rw [e]
    have hx := h8 (bs[i]) (List.getElem_mem hi)
    simp [List.getD, hi]
    omega
  · exact ⟨rfl, rfl, rfl, by rw [Lib.bytesWorld_size]; omega, fun k hk => Lib.bytesWorld_at_old w _ S k hk⟩
  · rw [← hsz]
    exact grownCap_ge w S.size 0 _
theorem zeros_sl (n : Nat) (hn : n ≤ 281474976710656) (w : World) : Sl (w.alloc (.cells (madeCells #[Value.int .u8 0] n) 5)) (.slice (some ⟨w.heap.size, 0, none⟩) n n) (List.replicate n 0) := by
  have e : madeCells #[Value.int .u8 0] n = (vb (List.replicate n 0)).toArray := by
    apply Array.toList_inj.1
    rw [toList_madeCells_one]
    simp [vb]
  rw [e]
  refine ⟨_, n, n, rfl, by simp, hn, fun h => (nomatch h), fun x hx => by rw [List.eq_of_mem_replicate hx]; decide, fun h0 => ⟨w.heap.size, 0, rfl, by simp, fun i hi => ?_⟩⟩
  rw [Nat.zero_add, (Has.new w (.cells (vb (List.replicate n 0)).toArray 5)).cell, List.getElem?_toArray, vb_get, List.getElem?_replicate, if_pos hi]
  rfl
theorem le4_le (n : Nat) : Fd.le 4 n = Sk.le4 n := rfl
theorem le4_small (n : Nat) : ∀ x ∈ Sk.le4 n, x < 256 := Sk.le4_byte n


set_option maxRecDepth 100000 in
set_option maxHeartbeats 16000000 in
theorem rheader_any (g sl : Nat) (hg : g < 4294967296) (hsl : sl < 4294967296) (bs : List Nat) (h8 : ∀ x ∈ bs, x < 256) (hl : bs.length ≤ 1048576) (S : ByteArray) (hS : Hid (S = strB bs)) (w : World) :
    Calls Try.prog 26 #[.int .i64 (g : Int), .int .i64 (sl : Int), .string S] w fun e w' => e = .returned (.string (strB (Sk.header ⟨g, sl, bs.length, Cr.sum 0 bs⟩))) ∧ Below w.heap.size w w' := by
  have hsz : S.size = bs.length := by rw [hS.out, strB_size]
  have hsum := Cr.sum_lt 0 bs (by decide) h8
  have HG : Hid (∀ W, Calls Try.prog 49 #[.int .i64 (g : Int), .int .i64 4] W fun e w' => ∃ a' cap', e = .returned (.slice a' 4 cap') ∧ Sl w' (.slice a' 4 cap') (Sk.le4 g) ∧ Below W.heap.size W w') := fun W => (bytes_walk g 4 (by omega) (by decide) W).mono fun e w' ⟨a', cap', he, hm, hb⟩ => ⟨a', cap', he, hm.sl (by decide), hb⟩
  have HT : Hid (∀ W, Calls Try.prog 49 #[.int .i64 (sl : Int), .int .i64 4] W fun e w' => ∃ a' cap', e = .returned (.slice a' 4 cap') ∧ Sl w' (.slice a' 4 cap') (Sk.le4 sl) ∧ Below W.heap.size W w') := fun W => (bytes_walk sl 4 (by omega) (by decide) W).mono fun e w' ⟨a', cap', he, hm, hb⟩ => ⟨a', cap', he, hm.sl (by decide), hb⟩
  have HZ : Hid (∀ W, Calls Try.prog 49 #[.int .i64 (S.size : Int), .int .i64 4] W fun e w' => ∃ a' cap', e = .returned (.slice a' 4 cap') ∧ Sl w' (.slice a' 4 cap') (Sk.le4 bs.length) ∧ Below W.heap.size W w') := fun W => by rw [hsz]; exact (bytes_walk bs.length 4 (by omega) (by decide) W).mono fun e w' ⟨a', cap', he, hm, hb⟩ => ⟨a', cap', he, hm.sl (by decide), hb⟩
  have HU : Hid (∀ W, Calls Try.prog 49 #[.int .i64 ((Cr.sum 0 bs : Nat) : Int), .int .i64 4] W fun e w' => ∃ a' cap', e = .returned (.slice a' 4 cap') ∧ Sl w' (.slice a' 4 cap') (Sk.le4 (Cr.sum 0 bs)) ∧ Below W.heap.size W w') := fun W => (bytes_walk (Cr.sum 0 bs) 4 (by omega) (by decide) W).mono fun e w' ⟨a', cap', he, hm, hb⟩ => ⟨a', cap', he, hm.sl (by decide), hb⟩
  have HV : Hid (∀ W s, Sl W s bs → Calls Try.prog 50 #[s] W (Tells (Cr.sum 0 bs) W)) := fun W s h => rsum_any s bs W h
  have HCB : Hid (∀ W, ∃ cap w', (convert 9 35 (.string S)).run Try.prog W = .ok (.slice (some ⟨W.heap.size, 0, none⟩) bs.length cap) w' ∧ Sl w' (.slice (some ⟨W.heap.size, 0, none⟩) bs.length cap) bs ∧ Below W.heap.size W w' ∧ bs.length ≤ cap) := fun W => conv_bytes bs h8 (by omega) S hS W
  have X8 : Hid (∀ x ∈ Sk.h20 ⟨g, sl, bs.length, Cr.sum 0 bs⟩, x < 256) := Sk.h20_byte _
  obtain ⟨M1, hM1⟩ : ∃ M, M = strB (Sk.le4 g) := ⟨_, rfl⟩
  obtain ⟨M2, hM2⟩ : ∃ M, M = strB (Sk.le4 sl) := ⟨_, rfl⟩
  obtain ⟨M3, hM3⟩ : ∃ M, M = strB (Sk.le4 bs.length) := ⟨_, rfl⟩
  obtain ⟨M4, hM4⟩ : ∃ M, M = strB (Sk.le4 (Cr.sum 0 bs)) := ⟨_, rfl⟩
  have z1 : M1.size = 4 := by rw [hM1, strB_size]; rfl
  have z2 : M2.size = 4 := by rw [hM2, strB_size]; rfl
  have z3 : M3.size = 4 := by rw [hM3, strB_size]; rfl
  have z4 : M4.size = 4 := by rw [hM4, strB_size]; rfl
  have HX : Hid ((((⟨#[86, 65, 76, 83]⟩ ++ M1) ++ M2) ++ M3) ++ M4 = strB (Sk.h20 ⟨g, sl, bs.length, Cr.sum 0 bs⟩)) := by
    show _ = _
    rw [hM1, hM2, hM3, hM4]
    unfold Sk.h20
    rw [strB_append, strB_append, strB_append, strB_append]
    rfl
  have HM1 := Lib.hid hM1
  have HM2 := Lib.hid hM2
  have HM3 := Lib.hid hM3
  have HM4 := Lib.hid hM4
  have HFIN : Hid (strB (Sk.h20 ⟨g, sl, bs.length, Cr.sum 0 bs⟩) ++ strB (Sk.le4 (Cr.sum 0 (Sk.h20 ⟨g, sl, bs.length, Cr.sum 0 bs⟩))) ++ strB (List.replicate 488 0) = strB (Sk.header ⟨g, sl, bs.length, Cr.sum 0 bs⟩)) := by
    show _ = _
    unfold Sk.header Sk.h24
    rw [strB_append, strB_append]
  have HY20 : Hid ((strB (Sk.h20 ⟨g, sl, bs.length, Cr.sum 0 bs⟩)).size = 20) := by show _ = _; rw [strB_size]; rfl
  have HY4 : Hid ((strB (Sk.le4 (Cr.sum 0 (Sk.h20 ⟨g, sl, bs.length, Cr.sum 0 bs⟩)))).size = 4) := by show _ = _; rw [strB_size]; rfl
  have HY488 : Hid ((strB (List.replicate 488 0)).size = 488) := by show _ = _; rw [strB_size, List.length_replicate]
  have hs20 := Sk.sum20 ⟨g, sl, bs.length, Cr.sum 0 bs⟩
  have L20 : Hid ((Sk.h20 ⟨g, sl, bs.length, Cr.sum 0 bs⟩).length = 20) := rfl
  have HC5 : Value.int .i64 (IntKind.i64.wrap ((Cr.sum 0 bs : Nat) : Int)) = .int .i64 ((Cr.sum 0 bs : Nat) : Int) := by rw [IntWalk.i64_in _ (by omega)]
  have HV2 : Hid (∀ W s, Sl W s (Sk.h20 ⟨g, sl, bs.length, Cr.sum 0 bs⟩) → Calls Try.prog 50 #[s] W (Tells (Cr.sum 0 (Sk.h20 ⟨g, sl, bs.length, Cr.sum 0 bs⟩)) W)) := fun W s h => rsum_any s _ W h
  have HU2 : Hid (∀ W, Calls Try.prog 49 #[.int .i64 ((Cr.sum 0 (Sk.h20 ⟨g, sl, bs.length, Cr.sum 0 bs⟩) : Nat) : Int), .int .i64 4] W fun e w' => ∃ a' cap', e = .returned (.slice a' 4 cap') ∧ Sl w' (.slice a' 4 cap') (Sk.le4 (Cr.sum 0 (Sk.h20 ⟨g, sl, bs.length, Cr.sum 0 bs⟩))) ∧ Below W.heap.size W w') := fun W => (bytes_walk _ 4 (by omega) (by decide) W).mono fun e w' ⟨a', cap', he, hm, hb⟩ => ⟨a', cap', he, hm.sl (by decide), hb⟩
  have HC6 : Value.int .i64 (IntKind.i64.wrap ((Cr.sum 0 (Sk.h20 ⟨g, sl, bs.length, Cr.sum 0 bs⟩) : Nat) : Int)) = .int .i64 ((Cr.sum 0 (Sk.h20 ⟨g, sl, bs.length, Cr.sum 0 bs⟩) : Nat) : Int) := by rw [IntWalk.i64_in _ (by omega)]
  have HMK : Hid (∀ W, (Instr.makeSlice 35 (.int .i64 488) (.int .i64 488)).run Try.prog W = .ok (.slice (some ⟨W.heap.size, 0, none⟩) 488 488) (W.alloc (.cells (madeCells #[Value.int .u8 0] 488) 5))) := fun W => run_make_row' (P := Try.prog) 35 5 (.int .u8 0) 1 Try.underlying35 Try.infoU8 rfl .i64 .i64 488 (by omega) (by omega) W
  generalize strB (Sk.header ⟨g, sl, bs.length, Cr.sum 0 bs⟩) = FIN at HFIN ⊢
  generalize Sk.h20 ⟨g, sl, bs.length, Cr.sum 0 bs⟩ = XB at *
  generalize hs2 : Cr.sum 0 XB = su2 at *
  obtain ⟨Y, hY⟩ : ∃ Y, Y = strB XB := ⟨_, rfl⟩
  obtain ⟨M5, hM5⟩ : ∃ M, M = strB (Sk.le4 su2) := ⟨_, rfl⟩
  obtain ⟨M6, hM6⟩ : ∃ M, M = strB (List.replicate 488 0) := ⟨_, rfl⟩
  rw [← hY] at HX HFIN HY20
  rw [← hM5] at HFIN HY4
  rw [← hM6] at HFIN HY488
  have HYq := Lib.hid hY
  have HM5 := Lib.hid hM5
  have HM6 := Lib.hid hM6
  clear hs2 hY hM5 hM6 hs20
  generalize hsu : Cr.sum 0 bs = su at *
  generalize bs.length = bl at *
  have HLB := Lib.hid hl
  clear hM1 hM2 hM3 hM4 hg hsl hsum h8 hsu hl hsz
  go_enter Try.func26, Try.ntmps26
  go_wp2_with fail
  refine wp_region_held_drew (S := fun wx => Below w.heap.size w wx) (by kernel_rfl) (below_drewN (Below.refl _ _) 1) (fun _ => ?_)
  change wpAnyH _ _ _ _ _ 21 (Array.replicate 21 false) _ _
  refine wpAnyH_mono (S' := fun wx => Below w.drew.heap.size w.drew wx) (fun wx h => (below_drewN (Below.refl _ _) 1).trans h) _ _ _ _ ?_
  have R0 := Below.refl w.drew.heap.size w.drew
  have Q0 := Lib.hid (below_drewN (Below.refl w.heap.size w) 1)
  refine wpAnyH_take (i := 0) (v := ?_) rfl (by kernel_rfl) (by kernel_rfl) (by kernel_rfl) (fun _ _ _ h => h) (Or.inl ⟨rfl, ?hy0⟩) R0 ?_
  case hy0 => intro w' hw'; clear hw'; go_simp; first | done | rfl
  try simp only [Act.put, List.getElem_toArray, List.getElem_cons_zero, List.setIfInBounds_toArray, List.set_cons_zero, List.set_cons_succ]
  refine wpAnyH_take (i := 4) (v := ?_) rfl (by kernel_rfl) (by kernel_rfl) (by kernel_rfl) (fun _ _ _ h => h) (Or.inl ⟨rfl, ?hy4⟩) R0 ?_
  case hy4 => intro w' hw'; clear hw'; go_simp; first | done | rfl
  try simp only [Act.put, List.getElem_toArray, List.getElem_cons_zero, List.getElem_cons_succ, List.setIfInBounds_toArray, List.set_cons_zero, List.set_cons_succ]
  refine wpAnyH_take (i := 8) (v := ?_) rfl (by kernel_rfl) (by kernel_rfl) (by kernel_rfl) (fun _ _ _ h => h) (Or.inl ⟨rfl, ?hy8⟩) R0 ?_
  case hy8 => intro w' hw'; clear hw'; go_simp; first | done | rfl
  try simp only [Act.put, List.getElem_toArray, List.getElem_cons_zero, List.getElem_cons_succ, List.setIfInBounds_toArray, List.set_cons_zero, List.set_cons_succ]
  refine wpAnyH_take (i := 9) (v := ?_) rfl (by kernel_rfl) (by kernel_rfl) (by kernel_rfl) (fun _ _ _ h => h) (Or.inl ⟨rfl, ?hy9⟩) R0 ?_
  case hy9 => intro w' hw'; clear hw'; go_simp; first | done | rfl
  try simp only [Act.put, List.getElem_toArray, List.getElem_cons_zero, List.getElem_cons_succ, List.setIfInBounds_toArray, List.set_cons_zero, List.set_cons_succ]
  refine wpAnyH_take (i := 13) (v := ?_) rfl (by kernel_rfl) (by kernel_rfl) (by kernel_rfl) (fun _ _ _ h => h) (Or.inl ⟨rfl, ?hy13⟩) R0 ?_
  case hy13 => intro w' hw'; clear hw'; go_simp; first | done | rfl
  try simp only [Act.put, List.getElem_toArray, List.getElem_cons_zero, List.getElem_cons_succ, List.setIfInBounds_toArray, List.set_cons_zero, List.set_cons_succ]
  refine wpAnyH_ready (rs := [1, 14]) (by kernel_rfl) (by simp) ?_
  refine AllReadyH.cons rfl (fun K hK => ?_) (AllReadyH.cons rfl (fun K hK => ?_) AllReadyH.nil)
  · go_simp
    refine (HG.out _).mono ?_
    rintro e w1 ⟨a1, c1, rfl, hsl1, hb1⟩
    have hB1 := hb1
    have S1 := Lib.hid hsl1
    have Q1 := Lib.hid (Q0.out.trans (hb1.mono Q0.out.size))
    dsimp only
    refine hK.out _ _ hb1 (fun _ => ?_)
    clear hK K
    try simp only [Act.put, List.getElem_toArray, List.getElem_cons_zero, List.getElem_cons_succ, List.setIfInBounds_toArray, List.set_cons_zero, List.set_cons_succ]
    refine wpAnyH_mono (S' := fun wx => Below w1.heap.size w1 wx) (fun wx h => hB1.trans (h.mono hB1.size)) _ _ _ _ ?_
    have R1 := Below.refl w1.heap.size w1
    clear hsl1 hb1
    refine wpAnyH_take (i := 2) (v := ?_) rfl (by kernel_rfl) (by kernel_rfl) (by kernel_rfl) (fun _ _ _ h => h) (Or.inl ⟨rfl, ?hy2⟩) R1 ?_
    case hy2 => intro w' hw'; have hcv := string_of w' _ _ _ _ M1 (S1.out.later hw') HM1; clear hw'; go_simp; first | done | rfl
    try simp only [Act.put, List.getElem_toArray, List.getElem_cons_zero, List.getElem_cons_succ, List.setIfInBounds_toArray, List.set_cons_zero, List.set_cons_succ]
    refine wpAnyH_take (i := 3) (v := ?_) rfl (by kernel_rfl) (by kernel_rfl) (by kernel_rfl) (fun _ _ _ h => h) (Or.inl ⟨rfl, ?hy3⟩) R1 ?_
    case hy3 => intro w' hw'; clear hw'; go_simp; first | done | rfl
    try simp only [Act.put, List.getElem_toArray, List.getElem_cons_zero, List.getElem_cons_succ, List.setIfInBounds_toArray, List.set_cons_zero, List.set_cons_succ]
    refine wpAnyH_ready (rs := [5, 14]) (by kernel_rfl) (by simp) ?_
    refine AllReadyH.cons rfl (fun K hK => ?_) (AllReadyH.cons rfl (fun K hK => ?_) AllReadyH.nil)
    · go_simp
      refine (HT.out _).mono ?_
      rintro e w2 ⟨a2, c2, rfl, hsl2, hb2⟩
      have hB2 := hb2
      have S2 := Lib.hid hsl2
      have Q2 := Lib.hid (Q1.out.trans (hb2.mono Q1.out.size))
      dsimp only
      refine hK.out _ _ hb2 (fun _ => ?_)
      clear hK K
      try simp only [Act.put, List.getElem_toArray, List.getElem_cons_zero, List.getElem_cons_succ, List.setIfInBounds_toArray, List.set_cons_zero, List.set_cons_succ]
      refine wpAnyH_mono (S' := fun wx => Below w2.heap.size w2 wx) (fun wx h => hB2.trans (h.mono hB2.size)) _ _ _ _ ?_
      have R2 := Below.refl w2.heap.size w2
      clear hsl2 hb2
      refine wpAnyH_take (i := 6) (v := ?_) rfl (by kernel_rfl) (by kernel_rfl) (by kernel_rfl) (fun _ _ _ h => h) (Or.inl ⟨rfl, ?hy6⟩) R2 ?_
      case hy6 => intro w' hw'; have hcv := string_of w' _ _ _ _ M2 (S2.out.later hw') HM2; clear hw'; go_simp; first | done | rfl
      try simp only [Act.put, List.getElem_toArray, List.getElem_cons_zero, List.getElem_cons_succ, List.setIfInBounds_toArray, List.set_cons_zero, List.set_cons_succ]
      refine wpAnyH_take (i := 7) (v := ?_) rfl (by kernel_rfl) (by kernel_rfl) (by kernel_rfl) (fun _ _ _ h => h) (Or.inl ⟨rfl, ?hy7⟩) R2 ?_
      case hy7 => intro w' hw'; clear hw'; go_simp; first | done | rfl
      try simp only [Act.put, List.getElem_toArray, List.getElem_cons_zero, List.getElem_cons_succ, List.setIfInBounds_toArray, List.set_cons_zero, List.set_cons_succ]
      refine wpAnyH_ready (rs := [10, 14]) (by kernel_rfl) (by simp) ?_
      refine AllReadyH.cons rfl (fun K hK => ?_) (AllReadyH.cons rfl (fun K hK => ?_) AllReadyH.nil)
      · go_simp
        refine (HZ.out _).mono ?_
        rintro e w3 ⟨a3, c3, rfl, hsl3, hb3⟩
        have hB3 := hb3
        have S3 := Lib.hid hsl3
        have Q3 := Lib.hid (Q2.out.trans (hb3.mono Q2.out.size))
        dsimp only
        refine hK.out _ _ hb3 (fun _ => ?_)
        clear hK K
        try simp only [Act.put, List.getElem_toArray, List.getElem_cons_zero, List.getElem_cons_succ, List.setIfInBounds_toArray, List.set_cons_zero, List.set_cons_succ]
        refine wpAnyH_mono (S' := fun wx => Below w3.heap.size w3 wx) (fun wx h => hB3.trans (h.mono hB3.size)) _ _ _ _ ?_
        have R3 := Below.refl w3.heap.size w3
        clear hsl3 hb3
        refine wpAnyH_take (i := 11) (v := ?_) rfl (by kernel_rfl) (by kernel_rfl) (by kernel_rfl) (fun _ _ _ h => h) (Or.inl ⟨rfl, ?hy11⟩) R3 ?_
        case hy11 => intro w' hw'; have hcv := string_of w' _ _ _ _ M3 (S3.out.later hw') HM3; clear hw'; go_simp; first | done | rfl
        try simp only [Act.put, List.getElem_toArray, List.getElem_cons_zero, List.getElem_cons_succ, List.setIfInBounds_toArray, List.set_cons_zero, List.set_cons_succ]
        refine wpAnyH_take (i := 12) (v := ?_) rfl (by kernel_rfl) (by kernel_rfl) (by kernel_rfl) (fun _ _ _ h => h) (Or.inl ⟨rfl, ?hy12⟩) R3 ?_
        case hy12 => intro w' hw'; clear hw'; go_simp; first | done | rfl
        try simp only [Act.put, List.getElem_toArray, List.getElem_cons_zero, List.getElem_cons_succ, List.setIfInBounds_toArray, List.set_cons_zero, List.set_cons_succ]
        refine wpAnyH_ready (rs := [14]) (by kernel_rfl) (by simp) ?_
        refine AllReadyH.cons rfl (fun K hK => ?_) AllReadyH.nil
        obtain ⟨c4, w4, hcv4, hsl4, hb4, _⟩ := HCB.out w3
        have hB4 := hb4
        have X4 := Lib.hid hsl4
        have Q4 := Lib.hid (Q3.out.trans (hb4.mono Q3.out.size))
        clear hsl4
        go_simp
        refine hK.out _ _ hb4 (fun _ => ?_)
        clear hK K hcv4
        try simp only [Act.put, List.getElem_toArray, List.getElem_cons_zero, List.getElem_cons_succ, List.setIfInBounds_toArray, List.set_cons_zero, List.set_cons_succ]
        refine wpAnyH_mono (S' := fun wx => Below w4.heap.size w4 wx) (fun wx h => hB4.trans (h.mono hB4.size)) _ _ _ _ ?_
        have R4 := Below.refl w4.heap.size w4
        clear hb4
        refine wpAnyH_ready (rs := [15]) (by kernel_rfl) (by simp) ?_
        refine AllReadyH.cons rfl (fun K hK => ?_) AllReadyH.nil
        go_simp
        refine (HV.out _ _ X4.out).mono ?_
        rintro e w' ⟨rfl, rfl⟩
        dsimp only
        refine hK.out _ _ R4 (fun _ => ?_)
        clear hK K
        try simp only [Act.put, List.getElem_toArray, List.getElem_cons_zero, List.getElem_cons_succ, List.setIfInBounds_toArray, List.set_cons_zero, List.set_cons_succ]
        refine wpAnyH_take (i := 16) (v := ?_) rfl (by kernel_rfl) (by kernel_rfl) (by kernel_rfl) (fun _ _ _ h => h) (Or.inl ⟨rfl, ?hy16⟩) R4 ?_
        case hy16 => intro w' hw'; clear hw'; go_simp; first | done | rfl
        try simp only [Act.put, List.getElem_toArray, List.getElem_cons_zero, List.getElem_cons_succ, List.setIfInBounds_toArray, List.set_cons_zero, List.set_cons_succ]
        refine wpAnyH_ready (rs := [17]) (by kernel_rfl) (by simp) ?_
        refine AllReadyH.cons rfl (fun K hK => ?_) AllReadyH.nil
        go_simp
        refine (HU.out _).mono ?_
        rintro e w5 ⟨a5, c5, rfl, hsl5, hb5⟩
        have hB5 := hb5
        have S5 := Lib.hid hsl5
        have Q5 := Lib.hid (Q4.out.trans (hb5.mono Q4.out.size))
        have T5 := Lib.hid (X4.out.later hb5)
        dsimp only
        refine hK.out _ _ hb5 (fun _ => ?_)
        clear hK K
        try simp only [Act.put, List.getElem_toArray, List.getElem_cons_zero, List.getElem_cons_succ, List.setIfInBounds_toArray, List.set_cons_zero, List.set_cons_succ]
        refine wpAnyH_mono (S' := fun wx => Below w5.heap.size w5 wx) (fun wx h => hB5.trans (h.mono hB5.size)) _ _ _ _ ?_
        have R5 := Below.refl w5.heap.size w5
        clear hsl5 hb5
        refine wpAnyH_take (i := 18) (v := ?_) rfl (by kernel_rfl) (by kernel_rfl) (by kernel_rfl) (fun _ _ _ h => h) (Or.inl ⟨rfl, ?hy18⟩) R5 ?_
        case hy18 => intro w' hw'; have hcv := string_of w' _ _ _ _ M4 (S5.out.later hw') HM4; clear hw'; go_simp; first | done | rfl
        try simp only [Act.put, List.getElem_toArray, List.getElem_cons_zero, List.getElem_cons_succ, List.setIfInBounds_toArray, List.set_cons_zero, List.set_cons_succ]
        refine wpAnyH_take (i := 19) (v := ?_) rfl (by kernel_rfl) (by kernel_rfl) (by kernel_rfl) (fun _ _ _ h => h) (Or.inl ⟨rfl, ?hy19⟩) R5 ?_
        case hy19 => intro w' hw'; clear hw'; go_simp; first | done | rfl
        try simp only [Act.put, List.getElem_toArray, List.getElem_cons_zero, List.getElem_cons_succ, List.setIfInBounds_toArray, List.set_cons_zero, List.set_cons_succ]
        refine wpAnyH_take (i := 20) (v := ?_) rfl (by kernel_rfl) (by kernel_rfl) (by kernel_rfl) (fun _ _ _ h => h) (Or.inl ⟨rfl, ?hy20⟩) R5 ?_
        case hy20 => intro w' hw'; clear hw'; go_simp; first | done | rfl
        try simp only [Act.put, List.getElem_toArray, List.getElem_cons_zero, List.getElem_cons_succ, List.setIfInBounds_toArray, List.set_cons_zero, List.set_cons_succ]
        refine wpAnyH_done (by kernel_rfl) ?_ _
        rw [HX.out]
        obtain ⟨cz, wz, hcz, hslz, hbz, _⟩ := conv_bytes XB X8.out (by rw [L20.out]; decide) Y HYq w5
        rw [L20.out] at hcz hslz
        have SZ := Lib.hid hslz
        have QZ := Lib.hid (Q5.out.trans (hbz.mono Q5.out.size))
        clear hslz hbz
        go_wp2_with fail
        refine (HV2.out _ _ SZ.out).mono ?_
        rintro e w' ⟨rfl, rfl⟩
        clear hcz
        go_wp2_with fail
        refine (HU2.out _).mono ?_
        rintro e wy ⟨ay, cy, rfl, hsy, hby⟩
        have hcvy := string_of wy _ _ _ _ M5 hsy HM5
        have QY := Lib.hid (QZ.out.trans (hby.mono QZ.out.size))
        have hmk := HMK.out wy
        have hcvm := string_of (wy.alloc (.cells (madeCells #[Value.int .u8 0] 488) 5)) _ _ _ _ M6 (zeros_sl 488 (by decide) wy) HM6
        have y20 := HY20.out
        have y4 := HY4.out
        have y488 := HY488.out
        clear hsy hby
        go_wp2_with fail
        go_ret
        exact ⟨by show Ending.returned (.string (Y ++ M5 ++ M6)) = _; rw [HFIN.out], QY.out.trans ((below1 wy _).mono QY.out.size)⟩
      · obtain ⟨c6, w6, hcv6, hsl6, hb6, _⟩ := HCB.out w2
        have hB6 := hb6
        have X6 := Lib.hid hsl6
        have Q6 := Lib.hid (Q2.out.trans (hb6.mono Q2.out.size))
        clear hsl6
        go_simp
        refine hK.out _ _ hb6 (fun _ => ?_)
        clear hK K hcv6
        try simp only [Act.put, List.getElem_toArray, List.getElem_cons_zero, List.getElem_cons_succ, List.setIfInBounds_toArray, List.set_cons_zero, List.set_cons_succ]
        refine wpAnyH_mono (S' := fun wx => Below w6.heap.size w6 wx) (fun wx h => hB6.trans (h.mono hB6.size)) _ _ _ _ ?_
        have R6 := Below.refl w6.heap.size w6
        clear hb6
        refine wpAnyH_ready (rs := [10]) (by kernel_rfl) (by simp) ?_
        refine AllReadyH.cons rfl (fun K hK => ?_) AllReadyH.nil
        go_simp
        refine (HZ.out _).mono ?_
        rintro e w7 ⟨a7, c7, rfl, hsl7, hb7⟩
        have hB7 := hb7
        have S7 := Lib.hid hsl7
        have Q7 := Lib.hid (Q6.out.trans (hb7.mono Q6.out.size))
        have T7 := Lib.hid (X6.out.later hb7)
        dsimp only
        refine hK.out _ _ hb7 (fun _ => ?_)
        clear hK K
        try simp only [Act.put, List.getElem_toArray, List.getElem_cons_zero, List.getElem_cons_succ, List.setIfInBounds_toArray, List.set_cons_zero, List.set_cons_succ]
        refine wpAnyH_mono (S' := fun wx => Below w7.heap.size w7 wx) (fun wx h => hB7.trans (h.mono hB7.size)) _ _ _ _ ?_
        have R7 := Below.refl w7.heap.size w7
        clear hsl7 hb7
        refine wpAnyH_take (i := 11) (v := ?_) rfl (by kernel_rfl) (by kernel_rfl) (by kernel_rfl) (fun _ _ _ h => h) (Or.inl ⟨rfl, ?hy11⟩) R7 ?_
        case hy11 => intro w' hw'; have hcv := string_of w' _ _ _ _ M3 (S7.out.later hw') HM3; clear hw'; go_simp; first | done | rfl
        try simp only [Act.put, List.getElem_toArray, List.getElem_cons_zero, List.getElem_cons_succ, List.setIfInBounds_toArray, List.set_cons_zero, List.set_cons_succ]
        refine wpAnyH_take (i := 12) (v := ?_) rfl (by kernel_rfl) (by kernel_rfl) (by kernel_rfl) (fun _ _ _ h => h) (Or.inl ⟨rfl, ?hy12⟩) R7 ?_
        case hy12 => intro w' hw'; clear hw'; go_simp; first | done | rfl
        try simp only [Act.put, List.getElem_toArray, List.getElem_cons_zero, List.getElem_cons_succ, List.setIfInBounds_toArray, List.set_cons_zero, List.set_cons_succ]
        refine wpAnyH_ready (rs := [15]) (by kernel_rfl) (by simp) ?_
        refine AllReadyH.cons rfl (fun K hK => ?_) AllReadyH.nil
        go_simp
        refine (HV.out _ _ T7.out).mono ?_
        rintro e w' ⟨rfl, rfl⟩
        dsimp only
        refine hK.out _ _ R7 (fun _ => ?_)
        clear hK K
        try simp only [Act.put, List.getElem_toArray, List.getElem_cons_zero, List.getElem_cons_succ, List.setIfInBounds_toArray, List.set_cons_zero, List.set_cons_succ]
        refine wpAnyH_take (i := 16) (v := ?_) rfl (by kernel_rfl) (by kernel_rfl) (by kernel_rfl) (fun _ _ _ h => h) (Or.inl ⟨rfl, ?hy16⟩) R7 ?_
        case hy16 => intro w' hw'; clear hw'; go_simp; first | done | rfl
        try simp only [Act.put, List.getElem_toArray, List.getElem_cons_zero, List.getElem_cons_succ, List.setIfInBounds_toArray, List.set_cons_zero, List.set_cons_succ]
        refine wpAnyH_ready (rs := [17]) (by kernel_rfl) (by simp) ?_
        refine AllReadyH.cons rfl (fun K hK => ?_) AllReadyH.nil
        go_simp
        refine (HU.out _).mono ?_
        rintro e w8 ⟨a8, c8, rfl, hsl8, hb8⟩
        have hB8 := hb8
        have S8 := Lib.hid hsl8
        have Q8 := Lib.hid (Q7.out.trans (hb8.mono Q7.out.size))
        have T8 := Lib.hid (T7.out.later hb8)
        dsimp only
        refine hK.out _ _ hb8 (fun _ => ?_)
        clear hK K
        try simp only [Act.put, List.getElem_toArray, List.getElem_cons_zero, List.getElem_cons_succ, List.setIfInBounds_toArray, List.set_cons_zero, List.set_cons_succ]
        refine wpAnyH_mono (S' := fun wx => Below w8.heap.size w8 wx) (fun wx h => hB8.trans (h.mono hB8.size)) _ _ _ _ ?_
        have R8 := Below.refl w8.heap.size w8
        clear hsl8 hb8
        refine wpAnyH_take (i := 18) (v := ?_) rfl (by kernel_rfl) (by kernel_rfl) (by kernel_rfl) (fun _ _ _ h => h) (Or.inl ⟨rfl, ?hy18⟩) R8 ?_
        case hy18 => intro w' hw'; have hcv := string_of w' _ _ _ _ M4 (S8.out.later hw') HM4; clear hw'; go_simp; first | done | rfl
        try simp only [Act.put, List.getElem_toArray, List.getElem_cons_zero, List.getElem_cons_succ, List.setIfInBounds_toArray, List.set_cons_zero, List.set_cons_succ]
        refine wpAnyH_take (i := 19) (v := ?_) rfl (by kernel_rfl) (by kernel_rfl) (by kernel_rfl) (fun _ _ _ h => h) (Or.inl ⟨rfl, ?hy19⟩) R8 ?_
        case hy19 => intro w' hw'; clear hw'; go_simp; first | done | rfl
        try simp only [Act.put, List.getElem_toArray, List.getElem_cons_zero, List.getElem_cons_succ, List.setIfInBounds_toArray, List.set_cons_zero, List.set_cons_succ]
        refine wpAnyH_take (i := 20) (v := ?_) rfl (by kernel_rfl) (by kernel_rfl) (by kernel_rfl) (fun _ _ _ h => h) (Or.inl ⟨rfl, ?hy20⟩) R8 ?_
        case hy20 => intro w' hw'; clear hw'; go_simp; first | done | rfl
        try simp only [Act.put, List.getElem_toArray, List.getElem_cons_zero, List.getElem_cons_succ, List.setIfInBounds_toArray, List.set_cons_zero, List.set_cons_succ]
        refine wpAnyH_done (by kernel_rfl) ?_ _
        rw [HX.out]
        obtain ⟨cz, wz, hcz, hslz, hbz, _⟩ := conv_bytes XB X8.out (by rw [L20.out]; decide) Y HYq w8
        rw [L20.out] at hcz hslz
        have SZ := Lib.hid hslz
        have QZ := Lib.hid (Q8.out.trans (hbz.mono Q8.out.size))
        clear hslz hbz
        go_wp2_with fail
        refine (HV2.out _ _ SZ.out).mono ?_
        rintro e w' ⟨rfl, rfl⟩
        clear hcz
        go_wp2_with fail
        refine (HU2.out _).mono ?_
        rintro e wy ⟨ay, cy, rfl, hsy, hby⟩
        have hcvy := string_of wy _ _ _ _ M5 hsy HM5
        have QY := Lib.hid (QZ.out.trans (hby.mono QZ.out.size))
        have hmk := HMK.out wy
        have hcvm := string_of (wy.alloc (.cells (madeCells #[Value.int .u8 0] 488) 5)) _ _ _ _ M6 (zeros_sl 488 (by decide) wy) HM6
        have y20 := HY20.out
        have y4 := HY4.out
        have y488 := HY488.out
        clear hsy hby
        go_wp2_with fail
        go_ret
        exact ⟨by show Ending.returned (.string (Y ++ M5 ++ M6)) = _; rw [HFIN.out], QY.out.trans ((below1 wy _).mono QY.out.size)⟩
    · obtain ⟨c9, w9, hcv9, hsl9, hb9, _⟩ := HCB.out w1
      have hB9 := hb9
      have X9 := Lib.hid hsl9
      have Q9 := Lib.hid (Q1.out.trans (hb9.mono Q1.out.size))
      clear hsl9
      go_simp
      refine hK.out _ _ hb9 (fun _ => ?_)
      clear hK K hcv9
      try simp only [Act.put, List.getElem_toArray, List.getElem_cons_zero, List.getElem_cons_succ, List.setIfInBounds_toArray, List.set_cons_zero, List.set_cons_succ]
      refine wpAnyH_mono (S' := fun wx => Below w9.heap.size w9 wx) (fun wx h => hB9.trans (h.mono hB9.size)) _ _ _ _ ?_
      have R9 := Below.refl w9.heap.size w9
      clear hb9
      refine wpAnyH_ready (rs := [5]) (by kernel_rfl) (by simp) ?_
      refine AllReadyH.cons rfl (fun K hK => ?_) AllReadyH.nil
      go_simp
      refine (HT.out _).mono ?_
      rintro e w10 ⟨a10, c10, rfl, hsl10, hb10⟩
      have hB10 := hb10
      have S10 := Lib.hid hsl10
      have Q10 := Lib.hid (Q9.out.trans (hb10.mono Q9.out.size))
      have T10 := Lib.hid (X9.out.later hb10)
      dsimp only
      refine hK.out _ _ hb10 (fun _ => ?_)
      clear hK K
      try simp only [Act.put, List.getElem_toArray, List.getElem_cons_zero, List.getElem_cons_succ, List.setIfInBounds_toArray, List.set_cons_zero, List.set_cons_succ]
      refine wpAnyH_mono (S' := fun wx => Below w10.heap.size w10 wx) (fun wx h => hB10.trans (h.mono hB10.size)) _ _ _ _ ?_
      have R10 := Below.refl w10.heap.size w10
      clear hsl10 hb10
      refine wpAnyH_take (i := 6) (v := ?_) rfl (by kernel_rfl) (by kernel_rfl) (by kernel_rfl) (fun _ _ _ h => h) (Or.inl ⟨rfl, ?hy6⟩) R10 ?_
      case hy6 => intro w' hw'; have hcv := string_of w' _ _ _ _ M2 (S10.out.later hw') HM2; clear hw'; go_simp; first | done | rfl
      try simp only [Act.put, List.getElem_toArray, List.getElem_cons_zero, List.getElem_cons_succ, List.setIfInBounds_toArray, List.set_cons_zero, List.set_cons_succ]
      refine wpAnyH_take (i := 7) (v := ?_) rfl (by kernel_rfl) (by kernel_rfl) (by kernel_rfl) (fun _ _ _ h => h) (Or.inl ⟨rfl, ?hy7⟩) R10 ?_
      case hy7 => intro w' hw'; clear hw'; go_simp; first | done | rfl
      try simp only [Act.put, List.getElem_toArray, List.getElem_cons_zero, List.getElem_cons_succ, List.setIfInBounds_toArray, List.set_cons_zero, List.set_cons_succ]
      refine wpAnyH_ready (rs := [10]) (by kernel_rfl) (by simp) ?_
      refine AllReadyH.cons rfl (fun K hK => ?_) AllReadyH.nil
      go_simp
      refine (HZ.out _).mono ?_
      rintro e w11 ⟨a11, c11, rfl, hsl11, hb11⟩
      have hB11 := hb11
      have S11 := Lib.hid hsl11
      have Q11 := Lib.hid (Q10.out.trans (hb11.mono Q10.out.size))
      have T11 := Lib.hid (T10.out.later hb11)
      dsimp only
      refine hK.out _ _ hb11 (fun _ => ?_)
      clear hK K
      try simp only [Act.put, List.getElem_toArray, List.getElem_cons_zero, List.getElem_cons_succ, List.setIfInBounds_toArray, List.set_cons_zero, List.set_cons_succ]
      refine wpAnyH_mono (S' := fun wx => Below w11.heap.size w11 wx) (fun wx h => hB11.trans (h.mono hB11.size)) _ _ _ _ ?_
      have R11 := Below.refl w11.heap.size w11
      clear hsl11 hb11
      refine wpAnyH_take (i := 11) (v := ?_) rfl (by kernel_rfl) (by kernel_rfl) (by kernel_rfl) (fun _ _ _ h => h) (Or.inl ⟨rfl, ?hy11⟩) R11 ?_
      case hy11 => intro w' hw'; have hcv := string_of w' _ _ _ _ M3 (S11.out.later hw') HM3; clear hw'; go_simp; first | done | rfl
      try simp only [Act.put, List.getElem_toArray, List.getElem_cons_zero, List.getElem_cons_succ, List.setIfInBounds_toArray, List.set_cons_zero, List.set_cons_succ]
      refine wpAnyH_take (i := 12) (v := ?_) rfl (by kernel_rfl) (by kernel_rfl) (by kernel_rfl) (fun _ _ _ h => h) (Or.inl ⟨rfl, ?hy12⟩) R11 ?_
      case hy12 => intro w' hw'; clear hw'; go_simp; first | done | rfl
      try simp only [Act.put, List.getElem_toArray, List.getElem_cons_zero, List.getElem_cons_succ, List.setIfInBounds_toArray, List.set_cons_zero, List.set_cons_succ]
      refine wpAnyH_ready (rs := [15]) (by kernel_rfl) (by simp) ?_
      refine AllReadyH.cons rfl (fun K hK => ?_) AllReadyH.nil
      go_simp
      refine (HV.out _ _ T11.out).mono ?_
      rintro e w' ⟨rfl, rfl⟩
      dsimp only
      refine hK.out _ _ R11 (fun _ => ?_)
      clear hK K
      try simp only [Act.put, List.getElem_toArray, List.getElem_cons_zero, List.getElem_cons_succ, List.setIfInBounds_toArray, List.set_cons_zero, List.set_cons_succ]
      refine wpAnyH_take (i := 16) (v := ?_) rfl (by kernel_rfl) (by kernel_rfl) (by kernel_rfl) (fun _ _ _ h => h) (Or.inl ⟨rfl, ?hy16⟩) R11 ?_
      case hy16 => intro w' hw'; clear hw'; go_simp; first | done | rfl
      try simp only [Act.put, List.getElem_toArray, List.getElem_cons_zero, List.getElem_cons_succ, List.setIfInBounds_toArray, List.set_cons_zero, List.set_cons_succ]
      refine wpAnyH_ready (rs := [17]) (by kernel_rfl) (by simp) ?_
      refine AllReadyH.cons rfl (fun K hK => ?_) AllReadyH.nil
      go_simp
      refine (HU.out _).mono ?_
      rintro e w12 ⟨a12, c12, rfl, hsl12, hb12⟩
      have hB12 := hb12
      have S12 := Lib.hid hsl12
      have Q12 := Lib.hid (Q11.out.trans (hb12.mono Q11.out.size))
      have T12 := Lib.hid (T11.out.later hb12)
      dsimp only
      refine hK.out _ _ hb12 (fun _ => ?_)
      clear hK K
      try simp only [Act.put, List.getElem_toArray, List.getElem_cons_zero, List.getElem_cons_succ, List.setIfInBounds_toArray, List.set_cons_zero, List.set_cons_succ]
      refine wpAnyH_mono (S' := fun wx => Below w12.heap.size w12 wx) (fun wx h => hB12.trans (h.mono hB12.size)) _ _ _ _ ?_
      have R12 := Below.refl w12.heap.size w12
      clear hsl12 hb12
      refine wpAnyH_take (i := 18) (v := ?_) rfl (by kernel_rfl) (by kernel_rfl) (by kernel_rfl) (fun _ _ _ h => h) (Or.inl ⟨rfl, ?hy18⟩) R12 ?_
      case hy18 => intro w' hw'; have hcv := string_of w' _ _ _ _ M4 (S12.out.later hw') HM4; clear hw'; go_simp; first | done | rfl
      try simp only [Act.put, List.getElem_toArray, List.getElem_cons_zero, List.getElem_cons_succ, List.setIfInBounds_toArray, List.set_cons_zero, List.set_cons_succ]
      refine wpAnyH_take (i := 19) (v := ?_) rfl (by kernel_rfl) (by kernel_rfl) (by kernel_rfl) (fun _ _ _ h => h) (Or.inl ⟨rfl, ?hy19⟩) R12 ?_
      case hy19 => intro w' hw'; clear hw'; go_simp; first | done | rfl
      try simp only [Act.put, List.getElem_toArray, List.getElem_cons_zero, List.getElem_cons_succ, List.setIfInBounds_toArray, List.set_cons_zero, List.set_cons_succ]
      refine wpAnyH_take (i := 20) (v := ?_) rfl (by kernel_rfl) (by kernel_rfl) (by kernel_rfl) (fun _ _ _ h => h) (Or.inl ⟨rfl, ?hy20⟩) R12 ?_
      case hy20 => intro w' hw'; clear hw'; go_simp; first | done | rfl
      try simp only [Act.put, List.getElem_toArray, List.getElem_cons_zero, List.getElem_cons_succ, List.setIfInBounds_toArray, List.set_cons_zero, List.set_cons_succ]
      refine wpAnyH_done (by kernel_rfl) ?_ _
      rw [HX.out]
      obtain ⟨cz, wz, hcz, hslz, hbz, _⟩ := conv_bytes XB X8.out (by rw [L20.out]; decide) Y HYq w12
      rw [L20.out] at hcz hslz
      have SZ := Lib.hid hslz
      have QZ := Lib.hid (Q12.out.trans (hbz.mono Q12.out.size))
      clear hslz hbz
      go_wp2_with fail
      refine (HV2.out _ _ SZ.out).mono ?_
      rintro e w' ⟨rfl, rfl⟩
      clear hcz
      go_wp2_with fail
      refine (HU2.out _).mono ?_
      rintro e wy ⟨ay, cy, rfl, hsy, hby⟩
      have hcvy := string_of wy _ _ _ _ M5 hsy HM5
      have QY := Lib.hid (QZ.out.trans (hby.mono QZ.out.size))
      have hmk := HMK.out wy
      have hcvm := string_of (wy.alloc (.cells (madeCells #[Value.int .u8 0] 488) 5)) _ _ _ _ M6 (zeros_sl 488 (by decide) wy) HM6
      have y20 := HY20.out
      have y4 := HY4.out
      have y488 := HY488.out
      clear hsy hby
      go_wp2_with fail
      go_ret
      exact ⟨by show Ending.returned (.string (Y ++ M5 ++ M6)) = _; rw [HFIN.out], QY.out.trans ((below1 wy _).mono QY.out.size)⟩
  · obtain ⟨c13, w13, hcv13, hsl13, hb13, _⟩ := HCB.out w.drew
    have hB13 := hb13
    have X13 := Lib.hid hsl13
    have Q13 := Lib.hid (Q0.out.trans (hb13.mono Q0.out.size))
    clear hsl13
    go_simp
    refine hK.out _ _ hb13 (fun _ => ?_)
    clear hK K hcv13
    try simp only [Act.put, List.getElem_toArray, List.getElem_cons_zero, List.getElem_cons_succ, List.setIfInBounds_toArray, List.set_cons_zero, List.set_cons_succ]
    refine wpAnyH_mono (S' := fun wx => Below w13.heap.size w13 wx) (fun wx h => hB13.trans (h.mono hB13.size)) _ _ _ _ ?_
    have R13 := Below.refl w13.heap.size w13
    clear hb13
    refine wpAnyH_ready (rs := [1]) (by kernel_rfl) (by simp) ?_
    refine AllReadyH.cons rfl (fun K hK => ?_) AllReadyH.nil
    go_simp
    refine (HG.out _).mono ?_
    rintro e w14 ⟨a14, c14, rfl, hsl14, hb14⟩
    have hB14 := hb14
    have S14 := Lib.hid hsl14
    have Q14 := Lib.hid (Q13.out.trans (hb14.mono Q13.out.size))
    have T14 := Lib.hid (X13.out.later hb14)
    dsimp only
    refine hK.out _ _ hb14 (fun _ => ?_)
    clear hK K
    try simp only [Act.put, List.getElem_toArray, List.getElem_cons_zero, List.getElem_cons_succ, List.setIfInBounds_toArray, List.set_cons_zero, List.set_cons_succ]
    refine wpAnyH_mono (S' := fun wx => Below w14.heap.size w14 wx) (fun wx h => hB14.trans (h.mono hB14.size)) _ _ _ _ ?_
    have R14 := Below.refl w14.heap.size w14
    clear hsl14 hb14
    refine wpAnyH_take (i := 2) (v := ?_) rfl (by kernel_rfl) (by kernel_rfl) (by kernel_rfl) (fun _ _ _ h => h) (Or.inl ⟨rfl, ?hy2⟩) R14 ?_
    case hy2 => intro w' hw'; have hcv := string_of w' _ _ _ _ M1 (S14.out.later hw') HM1; clear hw'; go_simp; first | done | rfl
    try simp only [Act.put, List.getElem_toArray, List.getElem_cons_zero, List.getElem_cons_succ, List.setIfInBounds_toArray, List.set_cons_zero, List.set_cons_succ]
    refine wpAnyH_take (i := 3) (v := ?_) rfl (by kernel_rfl) (by kernel_rfl) (by kernel_rfl) (fun _ _ _ h => h) (Or.inl ⟨rfl, ?hy3⟩) R14 ?_
    case hy3 => intro w' hw'; clear hw'; go_simp; first | done | rfl
    try simp only [Act.put, List.getElem_toArray, List.getElem_cons_zero, List.getElem_cons_succ, List.setIfInBounds_toArray, List.set_cons_zero, List.set_cons_succ]
    refine wpAnyH_ready (rs := [5]) (by kernel_rfl) (by simp) ?_
    refine AllReadyH.cons rfl (fun K hK => ?_) AllReadyH.nil
    go_simp
    refine (HT.out _).mono ?_
    rintro e w15 ⟨a15, c15, rfl, hsl15, hb15⟩
    have hB15 := hb15
    have S15 := Lib.hid hsl15
    have Q15 := Lib.hid (Q14.out.trans (hb15.mono Q14.out.size))
    have T15 := Lib.hid (T14.out.later hb15)
    dsimp only
    refine hK.out _ _ hb15 (fun _ => ?_)
    clear hK K
    try simp only [Act.put, List.getElem_toArray, List.getElem_cons_zero, List.getElem_cons_succ, List.setIfInBounds_toArray, List.set_cons_zero, List.set_cons_succ]
    refine wpAnyH_mono (S' := fun wx => Below w15.heap.size w15 wx) (fun wx h => hB15.trans (h.mono hB15.size)) _ _ _ _ ?_
    have R15 := Below.refl w15.heap.size w15
    clear hsl15 hb15
    refine wpAnyH_take (i := 6) (v := ?_) rfl (by kernel_rfl) (by kernel_rfl) (by kernel_rfl) (fun _ _ _ h => h) (Or.inl ⟨rfl, ?hy6⟩) R15 ?_
    case hy6 => intro w' hw'; have hcv := string_of w' _ _ _ _ M2 (S15.out.later hw') HM2; clear hw'; go_simp; first | done | rfl
    try simp only [Act.put, List.getElem_toArray, List.getElem_cons_zero, List.getElem_cons_succ, List.setIfInBounds_toArray, List.set_cons_zero, List.set_cons_succ]
    refine wpAnyH_take (i := 7) (v := ?_) rfl (by kernel_rfl) (by kernel_rfl) (by kernel_rfl) (fun _ _ _ h => h) (Or.inl ⟨rfl, ?hy7⟩) R15 ?_
    case hy7 => intro w' hw'; clear hw'; go_simp; first | done | rfl
    try simp only [Act.put, List.getElem_toArray, List.getElem_cons_zero, List.getElem_cons_succ, List.setIfInBounds_toArray, List.set_cons_zero, List.set_cons_succ]
    refine wpAnyH_ready (rs := [10]) (by kernel_rfl) (by simp) ?_
    refine AllReadyH.cons rfl (fun K hK => ?_) AllReadyH.nil
    go_simp
    refine (HZ.out _).mono ?_
    rintro e w16 ⟨a16, c16, rfl, hsl16, hb16⟩
    have hB16 := hb16
    have S16 := Lib.hid hsl16
    have Q16 := Lib.hid (Q15.out.trans (hb16.mono Q15.out.size))
    have T16 := Lib.hid (T15.out.later hb16)
    dsimp only
    refine hK.out _ _ hb16 (fun _ => ?_)
    clear hK K
    try simp only [Act.put, List.getElem_toArray, List.getElem_cons_zero, List.getElem_cons_succ, List.setIfInBounds_toArray, List.set_cons_zero, List.set_cons_succ]
    refine wpAnyH_mono (S' := fun wx => Below w16.heap.size w16 wx) (fun wx h => hB16.trans (h.mono hB16.size)) _ _ _ _ ?_
    have R16 := Below.refl w16.heap.size w16
    clear hsl16 hb16
    refine wpAnyH_take (i := 11) (v := ?_) rfl (by kernel_rfl) (by kernel_rfl) (by kernel_rfl) (fun _ _ _ h => h) (Or.inl ⟨rfl, ?hy11⟩) R16 ?_
    case hy11 => intro w' hw'; have hcv := string_of w' _ _ _ _ M3 (S16.out.later hw') HM3; clear hw'; go_simp; first | done | rfl
    try simp only [Act.put, List.getElem_toArray, List.getElem_cons_zero, List.getElem_cons_succ, List.setIfInBounds_toArray, List.set_cons_zero, List.set_cons_succ]
    refine wpAnyH_take (i := 12) (v := ?_) rfl (by kernel_rfl) (by kernel_rfl) (by kernel_rfl) (fun _ _ _ h => h) (Or.inl ⟨rfl, ?hy12⟩) R16 ?_
    case hy12 => intro w' hw'; clear hw'; go_simp; first | done | rfl
    try simp only [Act.put, List.getElem_toArray, List.getElem_cons_zero, List.getElem_cons_succ, List.setIfInBounds_toArray, List.set_cons_zero, List.set_cons_succ]
    refine wpAnyH_ready (rs := [15]) (by kernel_rfl) (by simp) ?_
    refine AllReadyH.cons rfl (fun K hK => ?_) AllReadyH.nil
    go_simp
    refine (HV.out _ _ T16.out).mono ?_
    rintro e w' ⟨rfl, rfl⟩
    dsimp only
    refine hK.out _ _ R16 (fun _ => ?_)
    clear hK K
    try simp only [Act.put, List.getElem_toArray, List.getElem_cons_zero, List.getElem_cons_succ, List.setIfInBounds_toArray, List.set_cons_zero, List.set_cons_succ]
    refine wpAnyH_take (i := 16) (v := ?_) rfl (by kernel_rfl) (by kernel_rfl) (by kernel_rfl) (fun _ _ _ h => h) (Or.inl ⟨rfl, ?hy16⟩) R16 ?_
    case hy16 => intro w' hw'; clear hw'; go_simp; first | done | rfl
    try simp only [Act.put, List.getElem_toArray, List.getElem_cons_zero, List.getElem_cons_succ, List.setIfInBounds_toArray, List.set_cons_zero, List.set_cons_succ]
    refine wpAnyH_ready (rs := [17]) (by kernel_rfl) (by simp) ?_
    refine AllReadyH.cons rfl (fun K hK => ?_) AllReadyH.nil
    go_simp
    refine (HU.out _).mono ?_
    rintro e w17 ⟨a17, c17, rfl, hsl17, hb17⟩
    have hB17 := hb17
    have S17 := Lib.hid hsl17
    have Q17 := Lib.hid (Q16.out.trans (hb17.mono Q16.out.size))
    have T17 := Lib.hid (T16.out.later hb17)
    dsimp only
    refine hK.out _ _ hb17 (fun _ => ?_)
    clear hK K
    try simp only [Act.put, List.getElem_toArray, List.getElem_cons_zero, List.getElem_cons_succ, List.setIfInBounds_toArray, List.set_cons_zero, List.set_cons_succ]
    refine wpAnyH_mono (S' := fun wx => Below w17.heap.size w17 wx) (fun wx h => hB17.trans (h.mono hB17.size)) _ _ _ _ ?_
    have R17 := Below.refl w17.heap.size w17
    clear hsl17 hb17
    refine wpAnyH_take (i := 18) (v := ?_) rfl (by kernel_rfl) (by kernel_rfl) (by kernel_rfl) (fun _ _ _ h => h) (Or.inl ⟨rfl, ?hy18⟩) R17 ?_
    case hy18 => intro w' hw'; have hcv := string_of w' _ _ _ _ M4 (S17.out.later hw') HM4; clear hw'; go_simp; first | done | rfl
    try simp only [Act.put, List.getElem_toArray, List.getElem_cons_zero, List.getElem_cons_succ, List.setIfInBounds_toArray, List.set_cons_zero, List.set_cons_succ]
    refine wpAnyH_take (i := 19) (v := ?_) rfl (by kernel_rfl) (by kernel_rfl) (by kernel_rfl) (fun _ _ _ h => h) (Or.inl ⟨rfl, ?hy19⟩) R17 ?_
    case hy19 => intro w' hw'; clear hw'; go_simp; first | done | rfl
    try simp only [Act.put, List.getElem_toArray, List.getElem_cons_zero, List.getElem_cons_succ, List.setIfInBounds_toArray, List.set_cons_zero, List.set_cons_succ]
    refine wpAnyH_take (i := 20) (v := ?_) rfl (by kernel_rfl) (by kernel_rfl) (by kernel_rfl) (fun _ _ _ h => h) (Or.inl ⟨rfl, ?hy20⟩) R17 ?_
    case hy20 => intro w' hw'; clear hw'; go_simp; first | done | rfl
    try simp only [Act.put, List.getElem_toArray, List.getElem_cons_zero, List.getElem_cons_succ, List.setIfInBounds_toArray, List.set_cons_zero, List.set_cons_succ]
    refine wpAnyH_done (by kernel_rfl) ?_ _
    rw [HX.out]
    obtain ⟨cz, wz, hcz, hslz, hbz, _⟩ := conv_bytes XB X8.out (by rw [L20.out]; decide) Y HYq w17
    rw [L20.out] at hcz hslz
    have SZ := Lib.hid hslz
    have QZ := Lib.hid (Q17.out.trans (hbz.mono Q17.out.size))
    clear hslz hbz
    go_wp2_with fail
    refine (HV2.out _ _ SZ.out).mono ?_
    rintro e w' ⟨rfl, rfl⟩
    clear hcz
    go_wp2_with fail
    refine (HU2.out _).mono ?_
    rintro e wy ⟨ay, cy, rfl, hsy, hby⟩
    have hcvy := string_of wy _ _ _ _ M5 hsy HM5
    have QY := Lib.hid (QZ.out.trans (hby.mono QZ.out.size))
    have hmk := HMK.out wy
    have hcvm := string_of (wy.alloc (.cells (madeCells #[Value.int .u8 0] 488) 5)) _ _ _ _ M6 (zeros_sl 488 (by decide) wy) HM6
    have y20 := HY20.out
    have y4 := HY4.out
    have y488 := HY488.out
    clear hsy hby
    go_wp2_with fail
    go_ret
    exact ⟨by show Ending.returned (.string (Y ++ M5 ++ M6)) = _; rw [HFIN.out], QY.out.trans ((below1 wy _).mono QY.out.size)⟩
end Go.Proofs.Ythbiibinmofmfaa
