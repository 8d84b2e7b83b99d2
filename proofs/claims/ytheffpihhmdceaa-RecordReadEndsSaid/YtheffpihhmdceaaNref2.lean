/- The document's middle, Local, Central, End. -/
import Derived.Test.YtheffpihhmdceaaNref1
import Derived.Test.YtheffpihhmdceaaNend
import Derived.Deep.RegionHeld3

namespace Go.Proofs.Ytheffpihhmdceaa
set_option maxRecDepth 100000
open Go.RowKit

theorem two_int (z : Int) (h0 : 0 ≤ z) (h1 : z < 9223372036854775808) (S : ByteArray) (hS : Hid (S = strB (Fd.le 2 z.toNat))) (w : World) :
    Calls Try.prog 30 #[.int .i64 z] w fun e w' => e = .returned (.string S) ∧ Below w.heap.size w w' := by
  have h := two_any z.toNat (by omega) S hS w
  rwa [Int.toNat_of_nonneg h0] at h
theorem four_int (z : Int) (h0 : 0 ≤ z) (h1 : z < 9223372036854775808) (S : ByteArray) (hS : Hid (S = strB (Fd.le 4 z.toNat))) (w : World) :
    Calls Try.prog 32 #[.int .i64 z] w fun e w' => e = .returned (.string S) ∧ Below w.heap.size w w' := by
  have h := four_any z.toNat (by omega) S hS w
  rwa [Int.toNat_of_nonneg h0] at h

/-- The six cells of a record's box, in a world that has grown from w. -/
def B6 (w : World) (g : Nat) (S : ByteArray) (m a b c d : Int) (W : World) : Prop :=
  W.cell? ⟨g, 0, none⟩ = some (.string S) ∧ W.cell? ⟨g, 1, none⟩ = some (.int .i64 m) ∧ W.cell? ⟨g, 2, none⟩ = some (.int .i64 a) ∧ W.cell? ⟨g, 3, none⟩ = some (.int .i64 b) ∧ W.cell? ⟨g, 4, none⟩ = some (.int .i64 c) ∧ W.cell? ⟨g, 5, none⟩ = some (.int .i64 d) ∧ Below w.heap.size w W ∧ g < W.heap.size
theorem B6.later {w : World} {g : Nat} {S : ByteArray} {m a b c d : Int} {W W' : World} (h : B6 w g S m a b c d W) (hb : Below W.heap.size W W') : B6 w g S m a b c d W' := by
  obtain ⟨h0, h1, h2, h3, h4, h5, h6, h7⟩ := h
  exact ⟨(hb.cell (p := ⟨g, 0, none⟩) h7).trans h0, (hb.cell (p := ⟨g, 1, none⟩) h7).trans h1, (hb.cell (p := ⟨g, 2, none⟩) h7).trans h2, (hb.cell (p := ⟨g, 3, none⟩) h7).trans h3, (hb.cell (p := ⟨g, 4, none⟩) h7).trans h4, (hb.cell (p := ⟨g, 5, none⟩) h7).trans h5, h6.trans (hb.mono h6.size), Nat.lt_of_lt_of_le h7 hb.size⟩
theorem B6.box (w : World) (S : ByteArray) (m a b c d : Int) : B6 w w.heap.size S m a b c d (w.alloc (.cells #[.string S, .int .i64 m, .int .i64 a, .int .i64 b, .int .i64 c, .int .i64 d] 23)) := by
  have h := Has.new w (.cells #[.string S, .int .i64 m, .int .i64 a, .int .i64 b, .int .i64 c, .int .i64 d] 23)
  exact ⟨h.cell 0, h.cell 1, h.cell 2, h.cell 3, h.cell 4, h.cell 5, below1 w _, h.lt⟩

theorem keep6 {w : World} {S : ByteArray} {m a b c d : Int} {W W' : World} (h : W.cell? ⟨w.heap.size, 0, none⟩ = some (.string S) ∧ W.cell? ⟨w.heap.size, 1, none⟩ = some (.int .i64 m) ∧ W.cell? ⟨w.heap.size, 2, none⟩ = some (.int .i64 a) ∧ W.cell? ⟨w.heap.size, 3, none⟩ = some (.int .i64 b) ∧ W.cell? ⟨w.heap.size, 4, none⟩ = some (.int .i64 c) ∧ W.cell? ⟨w.heap.size, 5, none⟩ = some (.int .i64 d) ∧ Below w.heap.size w W ∧ w.heap.size < W.heap.size) (hb : Below W.heap.size W W') :
    W'.cell? ⟨w.heap.size, 0, none⟩ = some (.string S) ∧ W'.cell? ⟨w.heap.size, 1, none⟩ = some (.int .i64 m) ∧ W'.cell? ⟨w.heap.size, 2, none⟩ = some (.int .i64 a) ∧ W'.cell? ⟨w.heap.size, 3, none⟩ = some (.int .i64 b) ∧ W'.cell? ⟨w.heap.size, 4, none⟩ = some (.int .i64 c) ∧ W'.cell? ⟨w.heap.size, 5, none⟩ = some (.int .i64 d) ∧ Below w.heap.size w W' ∧ w.heap.size < W'.heap.size := B6.later h hb

/-- What both headers have in their midst. -/
def mid (S : ByteArray) (m a b c : Int) : List Nat := Fd.le 2 20 ++ Fd.le 2 0 ++ Fd.le 2 m.toNat ++ Fd.le 2 0 ++ Fd.le 2 33 ++ Fd.le 4 a.toNat ++ Fd.le 4 b.toNat ++ Fd.le 4 c.toNat ++ Fd.le 2 S.size

set_option maxHeartbeats 8000000 in
theorem middle_any (S : ByteArray) (m a b c d : Int) (h : okR S.size m a b c d = true) (M : ByteArray) (hM : Hid (M = strB (mid S m a b c))) (w : World) :
    Calls Try.prog 29 #[rv S m a b c d] w fun e w' => e = .returned (.string M) ∧ Below w.heap.size w w' := by
  obtain ⟨n1, n2, h3, h4, h5, h6, h7⟩ := okR_yes h
  obtain ⟨a0, a1⟩ := Fd.isn_of h4
  obtain ⟨b0, b1⟩ := Fd.isn_of h5
  obtain ⟨c0, c1⟩ := Fd.isn_of h6
  obtain ⟨d0, d1⟩ := Fd.isn_of h7
  have hm : m = 0 ∨ m = 8 := by unfold okM at h3; simpa using h3
  obtain ⟨S20, hS20⟩ : ∃ X, X = strB (Fd.le 2 (20 : Int).toNat) := ⟨_, rfl⟩
  have T20 := Lib.hid (fun w => two_int 20 (by omega) (by omega) S20 hS20 w)
  have HS20 := Lib.hid hS20
  have z20 : S20.size = 2 := by rw [hS20, strB_size, Fd.le_length]
  clear hS20
  obtain ⟨S0, hS0⟩ : ∃ X, X = strB (Fd.le 2 (0 : Int).toNat) := ⟨_, rfl⟩
  have T0 := Lib.hid (fun w => two_int 0 (by omega) (by omega) S0 hS0 w)
  have HS0 := Lib.hid hS0
  have z0 : S0.size = 2 := by rw [hS0, strB_size, Fd.le_length]
  clear hS0
  obtain ⟨Sm, hSm⟩ : ∃ X, X = strB (Fd.le 2 (m : Int).toNat) := ⟨_, rfl⟩
  have Tm := Lib.hid (fun w => two_int m (by omega) (by omega) Sm hSm w)
  have HSm := Lib.hid hSm
  have zm : Sm.size = 2 := by rw [hSm, strB_size, Fd.le_length]
  clear hSm
  obtain ⟨S33, hS33⟩ : ∃ X, X = strB (Fd.le 2 (33 : Int).toNat) := ⟨_, rfl⟩
  have T33 := Lib.hid (fun w => two_int 33 (by omega) (by omega) S33 hS33 w)
  have HS33 := Lib.hid hS33
  have z33 : S33.size = 2 := by rw [hS33, strB_size, Fd.le_length]
  clear hS33
  obtain ⟨Sn, hSn⟩ : ∃ X, X = strB (Fd.le 2 ((S.size : Int) : Int).toNat) := ⟨_, rfl⟩
  have Tn := Lib.hid (fun w => two_int (S.size : Int) (by omega) (by omega) Sn hSn w)
  have HSn := Lib.hid hSn
  have zn : Sn.size = 2 := by rw [hSn, strB_size, Fd.le_length]
  clear hSn
  obtain ⟨Sa, hSa⟩ : ∃ X, X = strB (Fd.le 4 (a : Int).toNat) := ⟨_, rfl⟩
  have Ta := Lib.hid (fun w => four_int a (by omega) (by omega) Sa hSa w)
  have HSa := Lib.hid hSa
  have za : Sa.size = 4 := by rw [hSa, strB_size, Fd.le_length]
  clear hSa
  obtain ⟨Sb, hSb⟩ : ∃ X, X = strB (Fd.le 4 (b : Int).toNat) := ⟨_, rfl⟩
  have Tb := Lib.hid (fun w => four_int b (by omega) (by omega) Sb hSb w)
  have HSb := Lib.hid hSb
  have zb : Sb.size = 4 := by rw [hSb, strB_size, Fd.le_length]
  clear hSb
  obtain ⟨Sc, hSc⟩ : ∃ X, X = strB (Fd.le 4 (c : Int).toNat) := ⟨_, rfl⟩
  have Tc := Lib.hid (fun w => four_int c (by omega) (by omega) Sc hSc w)
  have HSc := Lib.hid hSc
  have zc : Sc.size = 4 := by rw [hSc, strB_size, Fd.le_length]
  clear hSc
  have hB := Lib.hid (B6.later (B6.box w S m a b c d) (Below.refl _ _).drew)
  unfold B6 at hB
  unfold rv
  clear h n1 n2 h3 h4 h5 h6 h7 a0 a1 b0 b1 c0 c1 d0 d1 hm
  go_enter Try.func29, Try.ntmps29
  go_wp2_with fail
  go_region_held3 (fun W => W.cell? ⟨w.heap.size, 0, none⟩ = some (.string S) ∧ W.cell? ⟨w.heap.size, 1, none⟩ = some (.int .i64 m) ∧ W.cell? ⟨w.heap.size, 2, none⟩ = some (.int .i64 a) ∧ W.cell? ⟨w.heap.size, 3, none⟩ = some (.int .i64 b) ∧ W.cell? ⟨w.heap.size, 4, none⟩ = some (.int .i64 c) ∧ W.cell? ⟨w.heap.size, 5, none⟩ = some (.int .i64 d) ∧ Below w.heap.size w W ∧ w.heap.size < W.heap.size) (first | assumption | exact hB.out) (first | (go_at_call 30; with_reducible refine (T20.out _).mono ?_; rintro e wn ⟨rfl, hbn⟩; have hSn := keep6 (w := w) (S := S) (m := m) (a := a) (b := b) (c := c) (d := d) (by assumption) hbn; clear hbn) | (go_at_call 30; with_reducible refine (T0.out _).mono ?_; rintro e wn ⟨rfl, hbn⟩; have hSn := keep6 (w := w) (S := S) (m := m) (a := a) (b := b) (c := c) (d := d) (by assumption) hbn; clear hbn) | (go_at_call 30; with_reducible refine (Tm.out _).mono ?_; rintro e wn ⟨rfl, hbn⟩; have hSn := keep6 (w := w) (S := S) (m := m) (a := a) (b := b) (c := c) (d := d) (by assumption) hbn; clear hbn) | (go_at_call 30; with_reducible refine (T33.out _).mono ?_; rintro e wn ⟨rfl, hbn⟩; have hSn := keep6 (w := w) (S := S) (m := m) (a := a) (b := b) (c := c) (d := d) (by assumption) hbn; clear hbn) | (go_at_call 30; with_reducible refine (Tn.out _).mono ?_; rintro e wn ⟨rfl, hbn⟩; have hSn := keep6 (w := w) (S := S) (m := m) (a := a) (b := b) (c := c) (d := d) (by assumption) hbn; clear hbn) | (go_at_call 32; with_reducible refine (Ta.out _).mono ?_; rintro e wn ⟨rfl, hbn⟩; have hSn := keep6 (w := w) (S := S) (m := m) (a := a) (b := b) (c := c) (d := d) (by assumption) hbn; clear hbn) | (go_at_call 32; with_reducible refine (Tb.out _).mono ?_; rintro e wn ⟨rfl, hbn⟩; have hSn := keep6 (w := w) (S := S) (m := m) (a := a) (b := b) (c := c) (d := d) (by assumption) hbn; clear hbn) | (go_at_call 32; with_reducible refine (Tc.out _).mono ?_; rintro e wn ⟨rfl, hbn⟩; have hSn := keep6 (w := w) (S := S) (m := m) (a := a) (b := b) (c := c) (d := d) (by assumption) hbn; clear hbn))
  go_wp2
  go_ret
  have e : S20 ++ S0 ++ Sm ++ S0 ++ S33 ++ Sa ++ Sb ++ Sc ++ Sn = M := by
    rw [hM.out, HS20.out, HS0.out, HSm.out, HS33.out, HSa.out, HSb.out, HSc.out, HSn.out]
    unfold mid
    simp only [strB_append]
    rfl
  refine ⟨by rw [← e]; rfl, (keep6 (w := w) (S := S) (m := m) (a := a) (b := b) (c := c) (d := d) (by assumption) (Below.refl _ _)).2.2.2.2.2.2.1⟩

theorem mid_size (S : ByteArray) (m a b c : Int) : (mid S m a b c).length = 24 := by
  simp only [mid, List.length_append, Fd.le_length]

theorem local_is (S : ByteArray) (m a b c d : Int) : localB S m a b c d = [80, 75, 3, 4] ++ mid S m a b c ++ Fd.le 2 0 ++ sB S := by
  unfold localB laid mid bothL
  simp only [List.map_cons, List.map_nil, List.flatten_cons, List.flatten_nil, List.append_nil, List.append_assoc]
  rfl
theorem central_is (S : ByteArray) (m a b c d : Int) : centralB S m a b c d = [80, 75, 1, 2] ++ Fd.le 2 20 ++ mid S m a b c ++ Fd.le 2 0 ++ Fd.le 2 0 ++ Fd.le 2 0 ++ Fd.le 2 0 ++ Fd.le 4 (if endsB S = true then 16 else 0) ++ Fd.le 4 d.toNat ++ sB S := by
  unfold centralB laid mid centralL bothL
  simp only [List.map_cons, List.map_nil, List.flatten_cons, List.flatten_nil, List.append_nil, List.append_assoc, List.cons_append, List.nil_append]
  rfl
theorem end_is (c s a : Int) : endB c s a = [80, 75, 5, 6] ++ Fd.le 2 0 ++ Fd.le 2 0 ++ Fd.le 2 c.toNat ++ Fd.le 2 c.toNat ++ Fd.le 4 s.toNat ++ Fd.le 4 a.toNat ++ Fd.le 2 0 := by
  unfold endB laid endL
  simp only [List.map_cons, List.map_nil, List.flatten_cons, List.flatten_nil, List.append_nil, List.append_assoc]
  rfl

set_option maxHeartbeats 8000000 in
theorem rlocal_bad (S : ByteArray) (m a b c d : Int) (h : okR S.size m a b c d = false) (w : World) :
    Calls Try.prog 11 #[rv S m a b c d] w fun e w' => e = .returned (.tuple #[.string ⟨#[]⟩, .int .i64 2]) ∧ Below w.heap.size w w' := by
  have HC := Lib.hid (fun w => rcheck_any S m a b c d w)
  rw [h] at HC
  simp only [Bool.false_eq_true, if_false] at HC
  unfold rv at HC ⊢
  clear h
  go_enter Try.func11, Try.ntmps11
  go_wp2_with (go_at_call 15; refine (HC.out _).mono ?_; rintro e w1 ⟨rfl, hb1⟩)
  go_ret2
  exact ⟨rfl, (below1 w _).trans (hb1.mono (by simp))⟩

set_option maxHeartbeats 8000000 in
theorem rcentral_bad (S : ByteArray) (m a b c d : Int) (h : okR S.size m a b c d = false) (w : World) :
    Calls Try.prog 13 #[rv S m a b c d] w fun e w' => e = .returned (.tuple #[.string ⟨#[]⟩, .int .i64 2]) ∧ Below w.heap.size w w' := by
  have HC := Lib.hid (fun w => rcheck_any S m a b c d w)
  rw [h] at HC
  simp only [Bool.false_eq_true, if_false] at HC
  unfold rv at HC ⊢
  clear h
  go_enter Try.func13, Try.ntmps13
  go_wp2_with (go_at_call 15; refine (HC.out _).mono ?_; rintro e w1 ⟨rfl, hb1⟩)
  go_ret2
  exact ⟨rfl, (below1 w _).trans (hb1.mono (by simp))⟩

theorem ends_is (S : ByteArray) (h1 : 1 ≤ S.size) (h : S.size - 1 < S.size) : ((((S[S.size - 1]'h).toNat : Nat) : Int) == 47) = endsB S := by
  unfold endsB
  have e : (S.extract (S.size - 1) S.size).toList = [S[S.size - 1]'h] := by
    rw [ByteArray.toList_eq]
    simp only [ByteArray.data_extract]
    have hl : S.data.toList.length = S.size := Array.length_toList
    have hd : S.data.toList.drop (S.size - 1) = [S[S.size - 1]'h] := by
      rw [List.drop_eq_getElem_cons (by omega), List.drop_eq_nil_of_le (by omega)]
      rfl
    rw [← hd, Array.toList_extract, List.extract_eq_take_drop, List.take_of_length_le (by rw [List.length_drop]; omega)]
  rw [e]
  rw [Bool.eq_iff_iff, beq_iff_eq, beq_iff_eq]
  constructor
  · intro h0
    congr 1
    apply UInt8.toNat_inj.1
    show _ = 47
    omega
  · intro h0
    injection h0 with h0
    rw [h0]
    rfl

set_option maxHeartbeats 8000000 in
theorem rend_ok (c s a : Int) (h : okE c s a = true) (X : ByteArray) (hX : Hid (X = strB (endB c s a))) (w : World) :
    Calls Try.prog 18 #[.int .i64 c, .int .i64 s, .int .i64 a] w fun e w' => e = .returned (.tuple #[.string X, .int .i64 0]) ∧ Below w.heap.size w w' := by
  have hh : (0 ≤ c ∧ c ≤ 65535) ∧ Fd.isn s = true ∧ Fd.isn a = true := by
    unfold okE at h
    simp only [Bool.and_eq_true, decide_eq_true_eq] at h
    exact ⟨h.1.1, h.1.2, h.2⟩
  obtain ⟨⟨c0, c1⟩, hs, ha⟩ := hh
  obtain ⟨s0, s1⟩ := Fd.isn_of hs
  obtain ⟨a0, a1⟩ := Fd.isn_of ha
  have HA := Lib.hid (fun w => risnum_walk a true ha w)
  have HS := Lib.hid (fun w => risnum_walk s true hs w)
  obtain ⟨S0, hS0⟩ : ∃ X, X = strB (Fd.le 2 (0 : Int).toNat) := ⟨_, rfl⟩
  have T0 := Lib.hid (fun w => two_int 0 (by omega) (by omega) S0 hS0 w)
  have HS0 := Lib.hid hS0
  have z0 : S0.size = 2 := by rw [hS0, strB_size, Fd.le_length]
  clear hS0
  obtain ⟨Sc, hSc⟩ : ∃ X, X = strB (Fd.le 2 (c : Int).toNat) := ⟨_, rfl⟩
  have Tc := Lib.hid (fun w => two_int c (by omega) (by omega) Sc hSc w)
  have HSc := Lib.hid hSc
  have zc : Sc.size = 2 := by rw [hSc, strB_size, Fd.le_length]
  clear hSc
  obtain ⟨Ss, hSs⟩ : ∃ X, X = strB (Fd.le 4 (s : Int).toNat) := ⟨_, rfl⟩
  have Ts := Lib.hid (fun w => four_int s (by omega) (by omega) Ss hSs w)
  have HSs := Lib.hid hSs
  have zs : Ss.size = 4 := by rw [hSs, strB_size, Fd.le_length]
  clear hSs
  obtain ⟨Sa, hSa⟩ : ∃ X, X = strB (Fd.le 4 (a : Int).toNat) := ⟨_, rfl⟩
  have Ta := Lib.hid (fun w => four_int a (by omega) (by omega) Sa hSa w)
  have HSa := Lib.hid hSa
  have za : Sa.size = 4 := by rw [hSa, strB_size, Fd.le_length]
  clear hSa
  have B0 := Lib.hid (Below.refl w.heap.size w)
  clear h hs ha s0 s1 a0 a1
  go_enter Try.func18, Try.ntmps18
  go_wp2_with (first | (go_at_call 34; first | (with_reducible refine (HA.out _).mono ?_; rintro e w1 ⟨rfl, rfl⟩) | (with_reducible refine (HS.out _).mono ?_; rintro e w1 ⟨rfl, rfl⟩)) | (go_at_call 30; first | (with_reducible refine (T0.out _).mono ?_; rintro e w1 ⟨rfl, hb1⟩; have B0 := Lib.hid (B0.out.trans (hb1.mono B0.out.size)); clear hb1) | (with_reducible refine (Tc.out _).mono ?_; rintro e w1 ⟨rfl, hb1⟩; have B0 := Lib.hid (B0.out.trans (hb1.mono B0.out.size)); clear hb1)) | (go_at_call 32; first | (with_reducible refine (Ts.out _).mono ?_; rintro e w1 ⟨rfl, hb1⟩; have B0 := Lib.hid (B0.out.trans (hb1.mono B0.out.size)); clear hb1) | (with_reducible refine (Ta.out _).mono ?_; rintro e w1 ⟨rfl, hb1⟩; have B0 := Lib.hid (B0.out.trans (hb1.mono B0.out.size)); clear hb1)))
  go_ret2
  have e : (⟨#[80, 75, 5, 6]⟩ : ByteArray) ++ S0 ++ S0 ++ Sc ++ Sc ++ Ss ++ Sa ++ S0 = X := by
    rw [hX.out, end_is, HS0.out, HSc.out, HSs.out, HSa.out]
    simp only [strB_append]
    rfl
  exact ⟨by rw [← e]; rfl, B0.out⟩

set_option maxHeartbeats 8000000 in
theorem rend_bad (c s a : Int) (h : okE c s a = false) (w : World) :
    Calls Try.prog 18 #[.int .i64 c, .int .i64 s, .int .i64 a] w fun e w' => e = .returned (.tuple #[.string ⟨#[]⟩, .int .i64 2]) ∧ Below w.heap.size w w' := by
  obtain ⟨bs, hs⟩ : ∃ x, Fd.isn s = x := ⟨_, rfl⟩
  obtain ⟨ba, ha⟩ : ∃ x, Fd.isn a = x := ⟨_, rfl⟩
  have HA := Lib.hid (fun w => risnum_walk a ba ha w)
  have HS := Lib.hid (fun w => risnum_walk s bs hs w)
  by_cases c0 : c < 0
  · clear h
    go_enter Try.func18, Try.ntmps18
    go_wp2_with fail
    go_ret2
    exact ⟨rfl, Below.refl _ _⟩
  · have c0' : 0 ≤ c := by omega
    by_cases c1 : 65535 < c
    · clear h c0
      go_enter Try.func18, Try.ntmps18
      go_wp2_with fail
      go_ret2
      exact ⟨rfl, Below.refl _ _⟩
    · have c1' : c ≤ 65535 := by omega
      cases bs
      · clear h c0 c1
        go_enter Try.func18, Try.ntmps18
        go_wp2_with (go_at_call 34; with_reducible refine (HS.out _).mono ?_; rintro e w1 ⟨rfl, rfl⟩)
        go_ret2
        exact ⟨rfl, Below.refl _ _⟩
      · have hb : ba = false := by
          unfold okE at h
          rw [decide_eq_true c0', decide_eq_true c1', hs, ha] at h
          simpa using h
        subst hb
        clear h c0 c1
        go_enter Try.func18, Try.ntmps18
        go_wp2_with (go_at_call 34; first | (with_reducible refine (HA.out _).mono ?_; rintro e w1 ⟨rfl, rfl⟩) | (with_reducible refine (HS.out _).mono ?_; rintro e w1 ⟨rfl, rfl⟩))
        go_ret2
        exact ⟨rfl, Below.refl _ _⟩

end Go.Proofs.Ytheffpihhmdceaa
