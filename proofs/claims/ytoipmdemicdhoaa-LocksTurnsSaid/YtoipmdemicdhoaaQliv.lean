/- Locks: the document's example. -/
import Derived.Test.YtoipmdemicdhoaaQask2
import Derived.Test.YtoipmdemicdhoaaQwt
import Derived.BigQuiet

namespace Go.Proofs.Ytoipmdemicdhoaa
set_option maxRecDepth 100000
open Go.RowKit Go.Shelf Go.Maps

/-- A list of the call's own that no call on the locks turns. -/
def Lst (w : World) (D : Nat → Prop) (v : Value) (xs : List Nat) : Prop := w.ownsRow 0 3 1 v xs.length (qn xs) ∧ ∀ g, v.ownBlock = some g → ¬ D g
theorem Lst.nxt {w w' : World} {D D' : Nat → Prop} {v : Value} {xs : List Nat} (h : Lst w D v xs) (hn : Nxt D w D' w') : Lst w' D' v xs :=
  ⟨qo_same h.1 (fun g hg => hn.tch.block g (World.ownsRow.lt h.1 g hg).2 (h.2 g hg)), fun g hg => hn.not (World.ownsRow.lt h.1 g hg).2 (h.2 g hg)⟩
theorem Lst.later {w w' : World} {D : Nat → Prop} {v : Value} {xs : List Nat} (h : Lst w D v xs) (hb : Below w.heap.size w w') : Lst w' D v xs := h.nxt (Nxt.below hb)
theorem Lst.new {w w' : World} {D : Nat → Prop} {v : Value} {n : Nat} {xs : List Nat} (h : w'.ownsRow w.heap.size 3 1 v n (qn xs)) (hn : n = xs.length) (hD : ∀ g, D g → g < w.heap.size) : Lst w' D v xs :=
  ⟨by subst hn; exact World.ownsRow.mono h (Nat.zero_le _), fun g hg hd => by have := (World.ownsRow.lt h g hg).1; have := hD g hd; omega⟩
theorem Lst.shape {w : World} {D : Nat → Prop} {v : Value} {xs : List Nat} (h : Lst w D v xs) : ∃ a cap, v = .slice a xs.length cap := qo_form h.1

set_option maxHeartbeats 1000000 in
/-- The document's Same at two lists that are alike. -/
theorem qsame_any (a1 a2 : Option Addr) (n c1 c2 : Nat) (zs : List Int) (w : World) (hn : n ≤ 17592186044416)
    (h1 : Hid (0 < n → ∃ b off, a1 = some ⟨b, off, none⟩ ∧ ∀ i, i < n → w.cell? ⟨b, off + i, none⟩ = some (.int .i64 (zs[i]?.getD 0))))
    (h2 : Hid (0 < n → ∃ b off, a2 = some ⟨b, off, none⟩ ∧ ∀ i, i < n → w.cell? ⟨b, off + i, none⟩ = some (.int .i64 (zs[i]?.getD 0)))) :
    Calls Try.prog 13 #[.slice a1 n c1, .slice a2 n c2] w fun e w' => e = .returned (.bool true) ∧ Below w.heap.size w w' := by
  go_enter Try.func13, Try.ntmps13
  go_wp2
  go_loopw [5] (fun s5 wr => ∃ k q : Nat, k ≤ n ∧ s5 = .int .i64 k ∧ wr = w.drewN q) (fun s _ => n - (intOf s).toNat)
  case atStart => exact ⟨0, 0, Nat.zero_le _, rfl, rfl⟩
  case round =>
    obtain ⟨k, q, hk, rfl, rfl⟩ := hrel
    by_cases hlt : k < n
    · obtain ⟨b, off, rfl, hc⟩ := h1.out (by omega)
      obtain ⟨b', off', rfl, hc'⟩ := h2.out (by omega)
      have g1 := hc k hlt
      have g2 := hc' k hlt
      obtain ⟨z, hz⟩ : ∃ z, z = zs[k]?.getD 0 := ⟨_, rfl⟩
      rw [← hz] at g1 g2
      have e : (z != z) = false := by simp
      clear hc hc' hz
      go_wp2
      go_quiet (fail)
      go_wp2
      exact ⟨⟨k + 1, _, by omega, by go_num, rfl⟩, by simp [intOf]; omega⟩
    · obtain rfl : k = n := by omega
      go_wp2
      go_ret
      exact ⟨rfl, below_drewN (Below.refl _ _) q⟩
theorem lst_reads {w : World} {D : Nat → Prop} {a : Option Addr} {n cap : Nat} {xs : List Nat} (h : Lst w D (.slice a n cap) xs) (hn : n = xs.length) : Hid (0 < n → ∃ b off, a = some ⟨b, off, none⟩ ∧ ∀ i, i < n → w.cell? ⟨b, off + i, none⟩ = some (.int .i64 ((xs.map (fun (x : Nat) => (x : Int)))[i]?.getD 0))) := fun h0 => by
  obtain ⟨h1, -⟩ := h
  rw [← hn] at h1
  obtain ⟨g, rfl, -, hc⟩ := qn_cells h1 h0
  refine ⟨g, 0, rfl, fun i hi => ?_⟩
  rw [Nat.zero_add, hc i hi, List.getElem?_map, List.getElem?_eq_getElem (by omega)]
  rfl
theorem lit_reads {w : World} {g : Nat} {xs : List Nat} {n : Nat} (h : Has w g (.cells (qn xs).toArray 3 (0, 0))) (hn : n = xs.length) : Hid (0 < n → ∃ b off, (some ⟨g, 0, none⟩ : Option Addr) = some ⟨b, off, none⟩ ∧ ∀ i, i < n → w.cell? ⟨b, off + i, none⟩ = some (.int .i64 ((xs.map (fun (x : Nat) => (x : Int)))[i]?.getD 0))) := fun h0 => by
  refine ⟨g, 0, rfl, fun i hi => ?_⟩
  rw [Nat.zero_add, h.cell, List.getElem?_map, List.getElem?_toArray, qn_get, List.getElem?_eq_getElem (by omega)]
  rfl

/-- 'a'. -/
def kA : ByteArray := ⟨#[97]⟩
set_option maxRecDepth 100000 in
set_option maxHeartbeats 8000000 in
theorem lives18 (w : World) : Calls Try.prog 10 #[] w fun e w' => e = .returned (.bool true) ∧ Below w.heap.size w w' := by
  have HN := Lib.hid (new_any w)
  go_enter Try.func10, Try.ntmps10
  go_wp2_with fail
  refine HN.out.mono ?_
  rintro e W0 ⟨b, D0, rfl, hl0, hb0, hd0⟩
  have HK0 := Lib.hid hl0
  have HB0 : Hid (w.heap.size ≤ W0.heap.size ∧ Nxt (fun g => w.heap.size ≤ g) w D0 W0) := ⟨hb0.size, ⟨Tch.of_below hb0, fun g hg => Or.inl (hd0 g hg)⟩⟩
  clear hl0 hb0 hd0 HN
  obtain ⟨s0, hs0⟩ : ∃ s, s = (fun _ => Qk.nob : Qk.Sts) := ⟨_, rfl⟩
  rw [← hs0] at HK0
  have HS0 : Hid (s0 kA = Qk.nob) := by rw [hs0]; rfl
  clear hs0
  have HC := Lib.hid (ask_any W0 b D0 s0 kA (by decide) 0 false HK0.out)
  unfold AskP at HC
  rw [HS0.out] at HC
  have ea : Qk.askB Qk.nob 0 false = true ∧ Qk.askE Qk.nob 0 = 0 := by decide
  rw [ea.1, ea.2] at HC
  clear ea
  unfold kA at HC
  go_wp2_with fail
  refine HC.out.mono ?_
  rintro e W1 ⟨D1, rfl, hl1, hn1⟩
  have HB1 : Hid (w.heap.size ≤ W1.heap.size ∧ Nxt (fun g => w.heap.size ≤ g) w D1 W1) := ⟨Nat.le_trans HB0.out.1 hn1.tch.size, HB0.out.2.trans hn1⟩
  obtain ⟨s1, hs1⟩ : ∃ s, s = Qk.upd s0 kA (Qk.ask Qk.nob 0 false) := ⟨_, rfl⟩
  have HK1 : Hid (Lks W1 b D1 s1) := by rw [hs1]; exact hl1
  have HS1 : Hid (s1 kA = ⟨[0], false, []⟩) := by rw [hs1, Qk.upd_same]; rfl
  clear hl1 hn1 hs1 HC HK0 HB0 HS0
  have HC := Lib.hid (ask_any W1 b D1 s1 kA (by decide) 1 false HK1.out)
  unfold AskP at HC
  rw [HS1.out] at HC
  have ea : Qk.askB ⟨[0], false, []⟩ 1 false = true ∧ Qk.askE ⟨[0], false, []⟩ 1 = 0 := by decide
  rw [ea.1, ea.2] at HC
  clear ea
  unfold kA at HC
  go_wp2_with fail
  refine HC.out.mono ?_
  rintro e W2 ⟨D2, rfl, hl2, hn2⟩
  have HB2 : Hid (w.heap.size ≤ W2.heap.size ∧ Nxt (fun g => w.heap.size ≤ g) w D2 W2) := ⟨Nat.le_trans HB1.out.1 hn2.tch.size, HB1.out.2.trans hn2⟩
  obtain ⟨s2, hs2⟩ : ∃ s, s = Qk.upd s1 kA (Qk.ask ⟨[0], false, []⟩ 1 false) := ⟨_, rfl⟩
  have HK2 : Hid (Lks W2 b D2 s2) := by rw [hs2]; exact hl2
  have HS2 : Hid (s2 kA = ⟨[0, 1], false, []⟩) := by rw [hs2, Qk.upd_same]; rfl
  clear hl2 hn2 hs2 HC HK1 HB1 HS1
  have HC := Lib.hid (ask_any W2 b D2 s2 kA (by decide) 2 true HK2.out)
  unfold AskP at HC
  rw [HS2.out] at HC
  have ea : Qk.askB ⟨[0, 1], false, []⟩ 2 true = false ∧ Qk.askE ⟨[0, 1], false, []⟩ 2 = 0 := by decide
  rw [ea.1, ea.2] at HC
  clear ea
  unfold kA at HC
  go_wp2_with fail
  refine HC.out.mono ?_
  rintro e W3 ⟨D3, rfl, hl3, hn3⟩
  have HB3 : Hid (w.heap.size ≤ W3.heap.size ∧ Nxt (fun g => w.heap.size ≤ g) w D3 W3) := ⟨Nat.le_trans HB2.out.1 hn3.tch.size, HB2.out.2.trans hn3⟩
  obtain ⟨s3, hs3⟩ : ∃ s, s = Qk.upd s2 kA (Qk.ask ⟨[0, 1], false, []⟩ 2 true) := ⟨_, rfl⟩
  have HK3 : Hid (Lks W3 b D3 s3) := by rw [hs3]; exact hl3
  have HS3 : Hid (s3 kA = ⟨[0, 1], false, [(2, true)]⟩) := by rw [hs3, Qk.upd_same]; rfl
  clear hl3 hn3 hs3 HC HK2 HB2 HS2
  have HC := Lib.hid (ask_any W3 b D3 s3 kA (by decide) 3 false HK3.out)
  unfold AskP at HC
  rw [HS3.out] at HC
  have ea : Qk.askB ⟨[0, 1], false, [(2, true)]⟩ 3 false = false ∧ Qk.askE ⟨[0, 1], false, [(2, true)]⟩ 3 = 0 := by decide
  rw [ea.1, ea.2] at HC
  clear ea
  unfold kA at HC
  go_wp2_with fail
  refine HC.out.mono ?_
  rintro e W4 ⟨D4, rfl, hl4, hn4⟩
  have HB4 : Hid (w.heap.size ≤ W4.heap.size ∧ Nxt (fun g => w.heap.size ≤ g) w D4 W4) := ⟨Nat.le_trans HB3.out.1 hn4.tch.size, HB3.out.2.trans hn4⟩
  obtain ⟨s4, hs4⟩ : ∃ s, s = Qk.upd s3 kA (Qk.ask ⟨[0, 1], false, [(2, true)]⟩ 3 false) := ⟨_, rfl⟩
  have HK4 : Hid (Lks W4 b D4 s4) := by rw [hs4]; exact hl4
  have HS4 : Hid (s4 kA = ⟨[0, 1], false, [(2, true), (3, false)]⟩) := by rw [hs4, Qk.upd_same]; rfl
  clear hl4 hn4 hs4 HC HK3 HB3 HS3
  have HC := Lib.hid (waits_any W4 b D4 s4 kA (by decide) HK4.out)
  unfold WaitsP at HC
  rw [HS4.out] at HC
  unfold kA at HC
  go_wp2_with fail
  refine HC.out.mono ?_
  rintro e W5 ⟨vw, rfl, ho5, hb5⟩
  have HVW := Lib.hid (Lst.new (xs := [2, 3]) ho5 rfl HK4.out.lt)
  have HK5 := Lib.hid (HK4.out.later hb5)
  have HB5 : Hid (w.heap.size ≤ W5.heap.size ∧ Nxt (fun g => w.heap.size ≤ g) w D4 W5) := ⟨Nat.le_trans HB4.out.1 hb5.size, HB4.out.2.trans (Nxt.below hb5)⟩
  have HS5 : Hid (s4 kA = ⟨[0, 1], false, [(2, true), (3, false)]⟩) := HS4.out
  clear ho5 hb5 HC HK4 HB4 HS4
  have HC := Lib.hid (freeA_any W5 b D4 s4 kA (by decide) 0 HK5.out)
  unfold FreeP at HC
  rw [HS5.out] at HC
  have ea : Qk.freeE ⟨[0, 1], false, [(2, true), (3, false)]⟩ 0 = 0 ∧ Qk.freeN ⟨[0, 1], false, [(2, true), (3, false)]⟩ 0 = [] := by decide
  rw [ea.1, ea.2] at HC
  clear ea
  unfold kA at HC
  go_wp2_with fail
  refine HC.out.mono ?_
  rintro e W6 ⟨v6, D6, rfl, ho6, hl6, hn6, hv6⟩
  have HV6 : Hid (Lst W6 D6 v6 []) := ⟨World.ownsRow.mono ho6 (Nat.zero_le _), hv6⟩
  have HB6 : Hid (w.heap.size ≤ W6.heap.size ∧ Nxt (fun g => w.heap.size ≤ g) w D6 W6) := ⟨Nat.le_trans HB5.out.1 hn6.tch.size, HB5.out.2.trans hn6⟩
  have HVW6 := Lib.hid (HVW.out.nxt hn6)
  clear HVW
  obtain ⟨s6, hs6⟩ : ∃ s, s = Qk.upd s4 kA (Qk.free ⟨[0, 1], false, [(2, true), (3, false)]⟩ 0) := ⟨_, rfl⟩
  have HK6 : Hid (Lks W6 b D6 s6) := by rw [hs6]; exact hl6
  have HS6 : Hid (s6 kA = ⟨[1], false, [(2, true), (3, false)]⟩) := by rw [hs6, Qk.upd_same]; rfl
  clear ho6 hv6 hl6 hn6 hs6 HC HK5 HB5 HS5
  have HC := Lib.hid (freeA_any W6 b D6 s6 kA (by decide) 1 HK6.out)
  unfold FreeP at HC
  rw [HS6.out] at HC
  have ea : Qk.freeE ⟨[1], false, [(2, true), (3, false)]⟩ 1 = 0 ∧ Qk.freeN ⟨[1], false, [(2, true), (3, false)]⟩ 1 = [2] := by decide
  rw [ea.1, ea.2] at HC
  clear ea
  unfold kA at HC
  go_wp2_with fail
  refine HC.out.mono ?_
  rintro e W7 ⟨v7, D7, rfl, ho7, hl7, hn7, hv7⟩
  have HV7 : Hid (Lst W7 D7 v7 [2]) := ⟨World.ownsRow.mono ho7 (Nat.zero_le _), hv7⟩
  have HB7 : Hid (w.heap.size ≤ W7.heap.size ∧ Nxt (fun g => w.heap.size ≤ g) w D7 W7) := ⟨Nat.le_trans HB6.out.1 hn7.tch.size, HB6.out.2.trans hn7⟩
  have HVW67 := Lib.hid (HVW6.out.nxt hn7)
  clear HVW6
  have HV67 := Lib.hid (HV6.out.nxt hn7)
  clear HV6
  obtain ⟨s7, hs7⟩ : ∃ s, s = Qk.upd s6 kA (Qk.free ⟨[1], false, [(2, true), (3, false)]⟩ 1) := ⟨_, rfl⟩
  have HK7 : Hid (Lks W7 b D7 s7) := by rw [hs7]; exact hl7
  have HS7 : Hid (s7 kA = ⟨[2], true, [(3, false)]⟩) := by rw [hs7, Qk.upd_same]; rfl
  clear ho7 hv7 hl7 hn7 hs7 HC HK6 HB6 HS6
  have HC := Lib.hid (freeA_any W7 b D7 s7 kA (by decide) 2 HK7.out)
  unfold FreeP at HC
  rw [HS7.out] at HC
  have ea : Qk.freeE ⟨[2], true, [(3, false)]⟩ 2 = 0 ∧ Qk.freeN ⟨[2], true, [(3, false)]⟩ 2 = [3] := by decide
  rw [ea.1, ea.2] at HC
  clear ea
  unfold kA at HC
  go_wp2_with fail
  refine HC.out.mono ?_
  rintro e W8 ⟨v8, D8, rfl, ho8, hl8, hn8, hv8⟩
  have HV8 : Hid (Lst W8 D8 v8 [3]) := ⟨World.ownsRow.mono ho8 (Nat.zero_le _), hv8⟩
  have HB8 : Hid (w.heap.size ≤ W8.heap.size ∧ Nxt (fun g => w.heap.size ≤ g) w D8 W8) := ⟨Nat.le_trans HB7.out.1 hn8.tch.size, HB7.out.2.trans hn8⟩
  have HVW678 := Lib.hid (HVW67.out.nxt hn8)
  clear HVW67
  have HV678 := Lib.hid (HV67.out.nxt hn8)
  clear HV67
  have HV78 := Lib.hid (HV7.out.nxt hn8)
  clear HV7
  obtain ⟨s8, hs8⟩ : ∃ s, s = Qk.upd s7 kA (Qk.free ⟨[2], true, [(3, false)]⟩ 2) := ⟨_, rfl⟩
  have HK8 : Hid (Lks W8 b D8 s8) := by rw [hs8]; exact hl8
  have HS8 : Hid (s8 kA = ⟨[3], false, []⟩) := by rw [hs8, Qk.upd_same]; rfl
  clear ho8 hv8 hl8 hn8 hs8 HC HK7 HB7 HS7
  have HX := Lib.hid HB8.out
  clear HK8 HS8 HB8
  obtain ⟨a_vw, c_vw, e_vw⟩ := HVW678.out.shape
  subst e_vw
  obtain ⟨a_v6, c_v6, e_v6⟩ := HV678.out.shape
  subst e_v6
  obtain ⟨a_v7, c_v7, e_v7⟩ := HV78.out.shape
  subst e_v7
  obtain ⟨a_v8, c_v8, e_v8⟩ := HV8.out.shape
  subst e_v8
  have HQ0 : Hid (Below W8.heap.size W8 W8) := Below.refl _ _
  obtain ⟨Z0, hZ0⟩ : ∃ W, W = W8.alloc (.cells #[.int .i64 2, .int .i64 3] 3) := ⟨_, rfl⟩
  have bz0 := below1 W8 (.cells #[.int .i64 2, .int .i64 3] 3)
  have hx0 := Has.new W8 (.cells #[.int .i64 2, .int .i64 3] 3)
  rw [← hZ0] at bz0 hx0
  have hq0 : Below W8.heap.size W8 Z0 := HQ0.out.trans (bz0.mono HQ0.out.size)
  have HC := Lib.hid (qsame_any a_vw (some ⟨W8.heap.size, 0, none⟩) 2 c_vw 2 ([2, 3].map (fun (x : Nat) => (x : Int))) Z0 (by decide) (lst_reads (HVW678.out.later hq0) rfl) (lit_reads (xs := [2, 3]) hx0 rfl))
  have HV9 := Lib.hid hZ0
  have HQX := Lib.hid hq0
  clear hZ0 bz0 hx0 hq0
  go_wp2_with fail
  rw [← HV9.out]
  refine HC.out.mono ?_
  rintro e Y1 ⟨rfl, hy1⟩
  have HQ1 : Hid (Below W8.heap.size W8 Y1) := HQX.out.trans (hy1.mono HQX.out.size)
  clear hy1 HC HV9 HQX HQ0
  obtain ⟨Z1, hZ1⟩ : ∃ W, W = Y1.alloc (.cells #[.int .i64 2] 3) := ⟨_, rfl⟩
  have bz1 := below1 Y1 (.cells #[.int .i64 2] 3)
  have hx1 := Has.new Y1 (.cells #[.int .i64 2] 3)
  rw [← hZ1] at bz1 hx1
  have hq1 : Below W8.heap.size W8 Z1 := HQ1.out.trans (bz1.mono HQ1.out.size)
  have HC := Lib.hid (qsame_any a_v7 (some ⟨Y1.heap.size, 0, none⟩) 1 c_v7 1 ([2].map (fun (x : Nat) => (x : Int))) Z1 (by decide) (lst_reads (HV78.out.later hq1) rfl) (lit_reads (xs := [2]) hx1 rfl))
  have HV9 := Lib.hid hZ1
  have HQX := Lib.hid hq1
  clear hZ1 bz1 hx1 hq1
  go_wp2_with fail
  rw [← HV9.out]
  refine HC.out.mono ?_
  rintro e Y2 ⟨rfl, hy2⟩
  have HQ2 : Hid (Below W8.heap.size W8 Y2) := HQX.out.trans (hy2.mono HQX.out.size)
  clear hy2 HC HV9 HQX HQ1
  obtain ⟨Z2, hZ2⟩ : ∃ W, W = Y2.alloc (.cells #[.int .i64 3] 3) := ⟨_, rfl⟩
  have bz2 := below1 Y2 (.cells #[.int .i64 3] 3)
  have hx2 := Has.new Y2 (.cells #[.int .i64 3] 3)
  rw [← hZ2] at bz2 hx2
  have hq2 : Below W8.heap.size W8 Z2 := HQ2.out.trans (bz2.mono HQ2.out.size)
  have HC := Lib.hid (qsame_any a_v8 (some ⟨Y2.heap.size, 0, none⟩) 1 c_v8 1 ([3].map (fun (x : Nat) => (x : Int))) Z2 (by decide) (lst_reads (HV8.out.later hq2) rfl) (lit_reads (xs := [3]) hx2 rfl))
  have HV9 := Lib.hid hZ2
  have HQX := Lib.hid hq2
  clear hZ2 bz2 hx2 hq2
  go_wp2_with fail
  rw [← HV9.out]
  refine HC.out.mono ?_
  rintro e Y3 ⟨rfl, hy3⟩
  have HQ3 : Hid (Below W8.heap.size W8 Y3) := HQX.out.trans (hy3.mono HQX.out.size)
  clear hy3 HC HV9 HQX HQ2
  go_wp2_with fail
  go_ret
  refine ⟨rfl, ?_⟩
  have h1 := HX.out.2.tch
  have h2 := HQ3.out
  exact ⟨h2.os.trans h1.os, h2.tape.trans h1.tape, h2.output.trans h1.output, Nat.le_trans h1.size h2.size, fun k hk => (h2.block k (Nat.lt_of_lt_of_le hk h1.size)).trans (h1.block k hk (by omega))⟩
end Go.Proofs.Ytoipmdemicdhoaa
