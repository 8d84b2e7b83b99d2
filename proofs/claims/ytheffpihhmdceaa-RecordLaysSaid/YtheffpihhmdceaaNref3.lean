/- Contracts of the document's Local and Central at a record that can be laid out. -/
import Derived.Test.YtheffpihhmdceaaNref2
import Derived.Deep.RegionHeld3

namespace Go.Proofs.Ytheffpihhmdceaa
set_option maxRecDepth 100000
open Go.RowKit

set_option maxHeartbeats 8000000 in
theorem rlocal_ok (S : ByteArray) (m a b c d : Int) (h : okR S.size m a b c d = true) (X : ByteArray) (hX : Hid (X = strB (localB S m a b c d))) (w : World) :
    Calls Try.prog 11 #[rv S m a b c d] w fun e w' => e = .returned (.tuple #[.string X, .int .i64 0]) ∧ Below w.heap.size w w' := by
  have hSz0 := (okR_yes h).2.1
  have hSz : ¬ (9223372036854775807 < 30 + S.size) := by omega
  have HC := Lib.hid (fun w => rcheck_any S m a b c d w)
  rw [h] at HC
  simp only [if_true] at HC
  obtain ⟨M, hM⟩ : ∃ M, M = strB (mid S m a b c) := ⟨_, rfl⟩
  have hMz : M.size = 24 := by rw [hM, strB_size, mid_size]
  have HMid := Lib.hid (fun w => middle_any S m a b c d h M hM w)
  have HM := Lib.hid hM
  obtain ⟨S0, hS0⟩ : ∃ X, X = strB (Fd.le 2 (0 : Int).toNat) := ⟨_, rfl⟩
  have T0 := Lib.hid (fun w => two_int 0 (by omega) (by omega) S0 hS0 w)
  have HS0 := Lib.hid hS0
  have z0 : S0.size = 2 := by rw [hS0, strB_size, Fd.le_length]
  clear hS0
  have hB := B6.box w S m a b c d
  unfold B6 at hB
  have HB0 := Lib.hid hB
  unfold rv at HC HMid ⊢
  clear h hM hB hSz0
  go_enter Try.func11, Try.ntmps11
  go_wp2_with (go_at_call 15; refine (HC.out _).mono ?_; rintro e w1 ⟨rfl, hb1⟩; have HB1 := Lib.hid (keep6 HB0.out hb1); have HBd := Lib.hid (keep6 HB1.out (Below.refl _ _).drew); clear hb1 HC)
  go_region_held3 (fun W => W.cell? ⟨w.heap.size, 0, none⟩ = some (.string S) ∧ W.cell? ⟨w.heap.size, 1, none⟩ = some (.int .i64 m) ∧ W.cell? ⟨w.heap.size, 2, none⟩ = some (.int .i64 a) ∧ W.cell? ⟨w.heap.size, 3, none⟩ = some (.int .i64 b) ∧ W.cell? ⟨w.heap.size, 4, none⟩ = some (.int .i64 c) ∧ W.cell? ⟨w.heap.size, 5, none⟩ = some (.int .i64 d) ∧ Below w.heap.size w W ∧ w.heap.size < W.heap.size) (first | assumption | exact HBd.out) (first | (go_at_call 30; with_reducible refine (T0.out _).mono ?_; rintro e wn ⟨rfl, hbn⟩; have hSn := keep6 (w := w) (S := S) (m := m) (a := a) (b := b) (c := c) (d := d) (by assumption) hbn; clear hbn) | (go_at_call 29; with_reducible refine (HMid.out _).mono ?_; rintro e wn ⟨rfl, hbn⟩; have hSn := keep6 (w := w) (S := S) (m := m) (a := a) (b := b) (c := c) (d := d) (by assumption) hbn; clear hbn))
  go_wp2
  go_ret2
  have e : (⟨#[80, 75, 3, 4]⟩ : ByteArray) ++ M ++ S0 ++ S = X := by
    rw [hX.out, local_is, HM.out, HS0.out]
    simp only [strB_append, strB_sB]
    rfl
  refine ⟨by rw [← e]; rfl, (keep6 (w := w) (S := S) (m := m) (a := a) (b := b) (c := c) (d := d) (by assumption) (Below.refl _ _)).2.2.2.2.2.2.1⟩

set_option maxHeartbeats 8000000 in
theorem rcentral_ok (S : ByteArray) (m a b c d : Int) (h : okR S.size m a b c d = true) (X : ByteArray) (hX : Hid (X = strB (centralB S m a b c d))) (w : World) :
    Calls Try.prog 13 #[rv S m a b c d] w fun e w' => e = .returned (.tuple #[.string X, .int .i64 0]) ∧ Below w.heap.size w w' := by
  obtain ⟨n1, n2, h3, h4, h5, h6, h7⟩ := okR_yes h
  obtain ⟨a0, a1⟩ := Fd.isn_of h4
  obtain ⟨b0, b1⟩ := Fd.isn_of h5
  obtain ⟨c0, c1⟩ := Fd.isn_of h6
  obtain ⟨d0, d1⟩ := Fd.isn_of h7
  have hm : m = 0 ∨ m = 8 := by unfold okM at h3; simpa using h3
  have HC := Lib.hid (fun w => rcheck_any S m a b c d w)
  rw [h] at HC
  simp only [if_true] at HC
  obtain ⟨M, hM⟩ : ∃ M, M = strB (mid S m a b c) := ⟨_, rfl⟩
  have hMz : M.size = 24 := by rw [hM, strB_size, mid_size]
  have HMid := Lib.hid (fun w => middle_any S m a b c d h M hM w)
  have HM := Lib.hid hM
  have hw : IntKind.i64.wrap ((S.size : Int) - 1) = (S.size : Int) - 1 := IntWalk.i64_in _ (by omega)
  have hi0 : (0 : Int) ≤ (S.size : Int) - 1 := by omega
  have hi1 : (S.size : Int) - 1 < (S.size : Int) := by omega
  obtain ⟨S20, hS20⟩ : ∃ X, X = strB (Fd.le 2 (20 : Int).toNat) := ⟨_, rfl⟩
  have T20 := Lib.hid (fun w => two_int 20 (by omega) (by omega) S20 hS20 w)
  have HS20 := Lib.hid hS20
  have z20 : S20.size = 2 := by rw [hS20, strB_size, Fd.le_length]
  clear hS20
  obtain ⟨S0, hS0⟩ : ∃ X, X = strB (Fd.le 2 (0 : Int).toNat) := ⟨_, rfl⟩
  have T0 := Lib.hid (fun w => two_int 0 (by omega) (by omega) S0 hS0 w)
  have HS0 := Lib.hid hS0
  have z0 : S0.size = 2 := by rw [hS0, strB_size, Fd.le_length]
  clear hS0
  obtain ⟨Sd, hSd⟩ : ∃ X, X = strB (Fd.le 4 (d : Int).toNat) := ⟨_, rfl⟩
  have Td := Lib.hid (fun w => four_int d (by omega) (by omega) Sd hSd w)
  have HSd := Lib.hid hSd
  have zd : Sd.size = 4 := by rw [hSd, strB_size, Fd.le_length]
  clear hSd
  obtain ⟨Sk1, hSk1⟩ : ∃ X, X = strB (Fd.le 4 (16 : Int).toNat) := ⟨_, rfl⟩
  have Tk1 := Lib.hid (fun w => four_int 16 (by omega) (by omega) Sk1 hSk1 w)
  have HSk1 := Lib.hid hSk1
  have zk1 : Sk1.size = 4 := by rw [hSk1, strB_size, Fd.le_length]
  clear hSk1
  obtain ⟨Sk0, hSk0⟩ : ∃ X, X = strB (Fd.le 4 (0 : Int).toNat) := ⟨_, rfl⟩
  have Tk0 := Lib.hid (fun w => four_int 0 (by omega) (by omega) Sk0 hSk0 w)
  have HSk0 := Lib.hid hSk0
  have zk0 : Sk0.size = 4 := by rw [hSk0, strB_size, Fd.le_length]
  clear hSk0
  have hB := B6.box w S m a b c d
  unfold B6 at hB
  have HB0 := Lib.hid hB
  unfold rv at HC HMid ⊢
  have n1' := n1
  have n3' : ¬ (9223372036854775807 < 46 + S.size) := by omega
  clear h hM hB n1 n2 h3 h4 h5 h6 h7 a0 a1 b0 b1 c0 c1 d0 d1 hm
  have hK := ends_is S n1' (by omega)
  have hz1 : (1 : Int) ≤ (S.size : Int) := by omega
  clear n1'
  cases hE : endsB S
  · rw [hE] at hK
    have HE := Lib.hid hE
    clear hE
    go_enter Try.func13, Try.ntmps13
    go_wp2_with (go_at_call 15; refine (HC.out _).mono ?_; rintro e w1 ⟨rfl, hb1⟩; have HB1 := Lib.hid (keep6 HB0.out hb1); obtain ⟨q0, q1, q2, q3, q4, q5, -⟩ := HB1.out; have HBd := Lib.hid (keep6 HB1.out (Below.refl _ _).drew); clear hb1 HC)
    clear q0 q1 q2 q3 q4 q5
    go_region_held3 (fun W => W.cell? ⟨w.heap.size, 0, none⟩ = some (.string S) ∧ W.cell? ⟨w.heap.size, 1, none⟩ = some (.int .i64 m) ∧ W.cell? ⟨w.heap.size, 2, none⟩ = some (.int .i64 a) ∧ W.cell? ⟨w.heap.size, 3, none⟩ = some (.int .i64 b) ∧ W.cell? ⟨w.heap.size, 4, none⟩ = some (.int .i64 c) ∧ W.cell? ⟨w.heap.size, 5, none⟩ = some (.int .i64 d) ∧ Below w.heap.size w W ∧ w.heap.size < W.heap.size) (first | assumption | exact HBd.out) (first | (go_at_call 30; with_reducible refine (T20.out _).mono ?_; rintro e wn ⟨rfl, hbn⟩; have hSn := keep6 (w := w) (S := S) (m := m) (a := a) (b := b) (c := c) (d := d) (by assumption) hbn; clear hbn) | (go_at_call 30; with_reducible refine (T0.out _).mono ?_; rintro e wn ⟨rfl, hbn⟩; have hSn := keep6 (w := w) (S := S) (m := m) (a := a) (b := b) (c := c) (d := d) (by assumption) hbn; clear hbn) | (go_at_call 29; with_reducible refine (HMid.out _).mono ?_; rintro e wn ⟨rfl, hbn⟩; have hSn := keep6 (w := w) (S := S) (m := m) (a := a) (b := b) (c := c) (d := d) (by assumption) hbn; clear hbn) | (go_at_call 32; with_reducible refine (Tk0.out _).mono ?_; rintro e wn ⟨rfl, hbn⟩; have hSn := keep6 (w := w) (S := S) (m := m) (a := a) (b := b) (c := c) (d := d) (by assumption) hbn; clear hbn) | (go_at_call 32; with_reducible refine (Td.out _).mono ?_; rintro e wn ⟨rfl, hbn⟩; have hSn := keep6 (w := w) (S := S) (m := m) (a := a) (b := b) (c := c) (d := d) (by assumption) hbn; clear hbn))
    go_wp2
    go_ret2
    have e : (⟨#[80, 75, 1, 2]⟩ : ByteArray) ++ S20 ++ M ++ S0 ++ S0 ++ S0 ++ S0 ++ Sk0 ++ Sd ++ S = X := by
      rw [hX.out, central_is, HE.out, HM.out, HS20.out, HS0.out, HSk0.out, HSd.out]
      simp only [strB_append, strB_sB]
      rfl
    refine ⟨by rw [← e]; rfl, (keep6 (w := w) (S := S) (m := m) (a := a) (b := b) (c := c) (d := d) (by assumption) (Below.refl _ _)).2.2.2.2.2.2.1⟩
  · rw [hE] at hK
    have HE := Lib.hid hE
    clear hE
    go_enter Try.func13, Try.ntmps13
    go_wp2_with (go_at_call 15; refine (HC.out _).mono ?_; rintro e w1 ⟨rfl, hb1⟩; have HB1 := Lib.hid (keep6 HB0.out hb1); obtain ⟨q0, q1, q2, q3, q4, q5, -⟩ := HB1.out; have HBd := Lib.hid (keep6 HB1.out (Below.refl _ _).drew); clear hb1 HC)
    clear q0 q1 q2 q3 q4 q5
    go_region_held3 (fun W => W.cell? ⟨w.heap.size, 0, none⟩ = some (.string S) ∧ W.cell? ⟨w.heap.size, 1, none⟩ = some (.int .i64 m) ∧ W.cell? ⟨w.heap.size, 2, none⟩ = some (.int .i64 a) ∧ W.cell? ⟨w.heap.size, 3, none⟩ = some (.int .i64 b) ∧ W.cell? ⟨w.heap.size, 4, none⟩ = some (.int .i64 c) ∧ W.cell? ⟨w.heap.size, 5, none⟩ = some (.int .i64 d) ∧ Below w.heap.size w W ∧ w.heap.size < W.heap.size) (first | assumption | exact HBd.out) (first | (go_at_call 30; with_reducible refine (T20.out _).mono ?_; rintro e wn ⟨rfl, hbn⟩; have hSn := keep6 (w := w) (S := S) (m := m) (a := a) (b := b) (c := c) (d := d) (by assumption) hbn; clear hbn) | (go_at_call 30; with_reducible refine (T0.out _).mono ?_; rintro e wn ⟨rfl, hbn⟩; have hSn := keep6 (w := w) (S := S) (m := m) (a := a) (b := b) (c := c) (d := d) (by assumption) hbn; clear hbn) | (go_at_call 29; with_reducible refine (HMid.out _).mono ?_; rintro e wn ⟨rfl, hbn⟩; have hSn := keep6 (w := w) (S := S) (m := m) (a := a) (b := b) (c := c) (d := d) (by assumption) hbn; clear hbn) | (go_at_call 32; with_reducible refine (Tk1.out _).mono ?_; rintro e wn ⟨rfl, hbn⟩; have hSn := keep6 (w := w) (S := S) (m := m) (a := a) (b := b) (c := c) (d := d) (by assumption) hbn; clear hbn) | (go_at_call 32; with_reducible refine (Td.out _).mono ?_; rintro e wn ⟨rfl, hbn⟩; have hSn := keep6 (w := w) (S := S) (m := m) (a := a) (b := b) (c := c) (d := d) (by assumption) hbn; clear hbn))
    go_wp2
    go_ret2
    have e : (⟨#[80, 75, 1, 2]⟩ : ByteArray) ++ S20 ++ M ++ S0 ++ S0 ++ S0 ++ S0 ++ Sk1 ++ Sd ++ S = X := by
      rw [hX.out, central_is, HE.out, HM.out, HS20.out, HS0.out, HSk1.out, HSd.out]
      simp only [strB_append, strB_sB]
      rfl
    refine ⟨by rw [← e]; rfl, (keep6 (w := w) (S := S) (m := m) (a := a) (b := b) (c := c) (d := d) (by assumption) (Below.refl _ _)).2.2.2.2.2.2.1⟩

end Go.Proofs.Ytheffpihhmdceaa
