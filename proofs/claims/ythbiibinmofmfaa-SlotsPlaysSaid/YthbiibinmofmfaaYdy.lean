/- Sync of the document's own disk. -/
import Derived.Test.YthbiibinmofmfaaYds

namespace Go.Proofs.Ythbiibinmofmfaa
set_option maxRecDepth 100000
open Go.RowKit

theorem Ek.change_dark {d : Ek.Dk} (hd : d.dark = true) : Ek.change d = d ∧ Ek.changeE d = 6 := by
  unfold Ek.change Ek.changeE
  rw [if_pos (Or.inl hd), if_pos (Or.inl hd)]
  cases d; simp_all
set_option maxRecDepth 100000 in
set_option maxHeartbeats 4000000 in
theorem rdisk_sync_dark (w : World) (G : Nat → Prop) (v : Value) (d : Ek.Dk) (h : DDk w G v d) (hd : d.dark = true) :
    Calls Try.prog 25 #[v] w fun e w' => (∃ v', e = .returned (.tuple #[v', .int .i64 6]) ∧ DDk w' G v' (Ek.sync d)) ∧ Below w.heap.size w w' := by
  have hs : Ek.sync d = d := by
    obtain ⟨a, b⟩ := Ek.change_dark hd
    unfold Ek.sync; rw [if_neg (by rw [b]; decide), a]
  rw [hs]
  have HQ : Hid (∀ w', Below w.heap.size w w' → DDk w' G v d) := fun w' hb => h.later hb
  obtain ⟨a, la, c, lc, rfl, hc, hnl, hok⟩ := h
  unfold dv at HQ ⊢
  rw [hd] at HQ ⊢
  generalize d.loose.length = L at HQ ⊢
  generalize d.left = F at HQ ⊢
  clear hc hok hd hs hnl
  go_enter Try.func25, Try.ntmps25
  go_wp2_with fail
  refine bodyPost_ret (v := .tuple #[.agg #[.slice a d.n c, .slice la L lc, .int .i64 F, .bool true], .int .i64 6]) ?_ rfl ⟨⟨_, rfl, HQ.out _ ?_⟩, ?_⟩
  · rw [results_cell_tmp rfl]
    go_simp
  · exact (below1 w _).trans ((below1 _ _).mono (by simp))
  · exact (below1 w _).trans ((below1 _ _).mono (by simp))

set_option maxRecDepth 100000 in
set_option maxHeartbeats 4000000 in
theorem rdisk_sync_good (w : World) (G : Nat → Prop) (v : Value) (d : Ek.Dk) (h : DDk w G v d) (hd : d.dark = false) (hz : d.left ≠ 0) :
    Calls Try.prog 25 #[v] w fun e w' => (∃ v', e = .returned (.tuple #[v', .int .i64 0]) ∧ DDk w' (fun q => G q ∨ w.heap.size ≤ q) v' (Ek.sync d)) ∧ Below w.heap.size w w' := by
  have HS : Hid (∀ w', Below w.heap.size w w' → Calls Try.prog 47 #[v] w' fun e w'' => (∃ v', e = .returned (.tuple #[v', .bool (decide (d.left ≠ 0))]) ∧ DDk w'' (fun q => G q ∧ q < w.heap.size) v' (Ek.change d)) ∧ Below w'.heap.size w' w'') := fun w' hb => rdisk_spend w' _ v d (h.lo.later hb) hd
  obtain ⟨a, la, c, lc, rfl, hc, hnl, hok⟩ := h
  have hE : Ek.changeE d = 0 := by unfold Ek.changeE; rw [if_neg (by simp [hd, hz])]
  have hsy : Ek.sync d = Ek.settled (Ek.change d) (fun _ => 1) := by unfold Ek.sync; rw [if_pos hE]
  have HK : Hid (Ek.Ok (Ek.sync d)) := Ek.sync_ok hok
  have HC := Lib.hid hc
  have HOK := Lib.hid hok
  have HCS : Hid (∀ w', Below w.heap.size w w' → Calls Try.prog 48 #[.slice a d.n c, .slice la d.loose.length lc] w' fun e w'' => ∃ g cap, e = .returned (.slice (some ⟨g, 0, none⟩) d.n cap) ∧ w''.ownsRow w'.heap.size 9 1 (.slice (some ⟨g, 0, none⟩) d.n cap) d.n (vstr (setS d d.loose.length)) ∧ Below w'.heap.size w' w'') := fun w' hb => settled_is w' G a la c lc d (hc.keep hb.size (fun g _ hl => hb.block g hl)) hok
  have HCN : Hid ((Ek.change d).n = d.n ∧ (Ek.change d).loose.length = d.loose.length) := ⟨Ek.change_n d, by rw [Ek.change_loose d]⟩
  have HFIN : Hid (∀ w7 base g2 n2, w.heap.size ≤ base → w7.ownsRow base 9 1 (.slice (some ⟨g2, 0, none⟩) d.n n2) d.n (vstr (setS d d.loose.length)) → DDk w7 (fun q => G q ∨ w.heap.size ≤ q) (.agg #[.slice (some ⟨g2, 0, none⟩) d.n n2, .slice none 0 0, .int .i64 (Ek.change d).left, .bool (Ek.change d).dark]) (Ek.sync d)) := fun w7 base g2 n2 hb ho => by
    have hsn : (Ek.sync d).n = d.n := by rw [hsy]; exact Ek.change_n d
    have hg := ho.lt g2 rfl
    have hss : (Ek.sync d).sure = Ek.settleTo d.sure d.loose (fun _ => 1) d.loose.length := by
      rw [hsy]
      show Ek.settleTo (Ek.change d).sure (Ek.change d).loose _ (Ek.change d).loose.length = _
      rw [Ek.change_sure, Ek.change_loose]
    refine ⟨some ⟨g2, 0, none⟩, none, n2, 0, ?_, ⟨fun i hi => ?_, fun k j q hq => ?_⟩, fun _ => rfl, Ek.sync_ok hok⟩
    · rw [hsy]; unfold dv
      show Value.agg #[_, _, _, _] = .agg #[.slice _ (Ek.change d).n _, _, _, _]
      rw [Ek.change_n]; rfl
    · rw [hsn] at hi
      refine ⟨g2, 0, rfl, Or.inr (Nat.le_trans hb hg.1), hg.2, ?_⟩
      rw [Nat.zero_add, ho.cellAt i (by omega), hss]
      unfold vstr
      rw [List.getElem?_map, setS_get _ _ _ hi]; rfl
    · have : (Ek.sync d).loose = [] := by rw [hsy]; rfl
      rw [this] at hq; cases hq
  unfold dv at HS ⊢
  rw [hd] at HS ⊢
  have e0 : decide (d.left ≠ 0) = true := by simp [hz]
  rw [e0] at HS
  obtain ⟨L, hL⟩ : ∃ L, L = d.loose.length := ⟨_, rfl⟩
  have HL := Lib.hid hL
  rw [← hL] at HS HCS HFIN ⊢
  obtain ⟨N, hN⟩ : ∃ N, N = d.n := ⟨_, rfl⟩
  have HN := Lib.hid hN
  rw [← hN] at HS HCS HFIN ⊢
  generalize d.left = F at HS ⊢
  clear hN hc hnl hok hd hL hz e0 hE hsy
  go_enter Try.func25, Try.ntmps25
  go_wp2_with fail
  have hA0 := (Has.new w (.cells #[.slice a N c, .slice la L lc, .int .i64 F, .bool false] 32)).later (below1 _ (.cells #[.slice none 0 0, .slice none 0 0, .int .i64 0, .bool false] 32))
  have hZ0 := Has.new (w.alloc (.cells #[.slice a N c, .slice la L lc, .int .i64 F, .bool false] 32)) (.cells #[.slice none 0 0, .slice none 0 0, .int .i64 0, .bool false] 32)
  have hB0 : Below w.heap.size w ((w.alloc (.cells #[.slice a N c, .slice la L lc, .int .i64 F, .bool false] 32)).alloc (.cells #[.slice none 0 0, .slice none 0 0, .int .i64 0, .bool false] 32)) := (below1 w _).trans ((below1 _ _).mono (by simp))
  have hs0 : (w.alloc (.cells #[.slice a N c, .slice la L lc, .int .i64 F, .bool false] 32)).heap.size = w.heap.size + 1 := by simp
  rw [hs0] at hZ0
  refine (HS.out _ hB0).mono ?_
  rintro e w2 ⟨⟨v2, rfl, hd2⟩, hb2⟩
  obtain ⟨a2, la2, k2, lc2, rfl, hc2, -, -⟩ := hd2
  unfold dv
  rw [HCN.out.1, HCN.out.2, ← HL.out, ← HN.out]
  obtain ⟨F2, hF2⟩ : ∃ x, x = (Ek.change d).left := ⟨_, rfl⟩
  obtain ⟨D2, hD2⟩ : ∃ x, x = (Ek.change d).dark := ⟨_, rfl⟩
  rw [← hF2, ← hD2]
  have hs2 : w.heap.size + 2 ≤ w2.heap.size := by have := hb2.size; simpa using this
  have hB2 := hB0.trans (hb2.mono hB0.size)
  obtain ⟨w3, hw3⟩ : ∃ x, x = w2.alloc (.cells #[.slice a2 N k2, .slice la2 L lc2, .int .i64 F2, .bool D2] 32) := ⟨_, rfl⟩
  have hb3 : Below w2.heap.size w2 w3 := by rw [hw3]; exact below1 w2 _
  have hs3 : w3.heap.size = w2.heap.size + 1 := by rw [hw3]; simp
  have hA3 := (hA0.later hb2).later hb3
  have hZ3 := (hZ0.later hb2).later hb3
  have hX3 : Has w3 w2.heap.size (.cells #[.slice a2 N k2, .slice la2 L lc2, .int .i64 F2, .bool D2] 32) := by rw [hw3]; exact Has.new w2 _
  have hB3 := hB2.trans (hb3.mono hB2.size)
  have x0 : (w2.alloc (.cells #[.slice a2 N k2, .slice la2 L lc2, .int .i64 F2, .bool D2] 32)).cell? ⟨w.heap.size, 0, none⟩ = some (.slice a N c) := by rw [← hw3]; exact hA3.cell 0
  have x1 : (w2.alloc (.cells #[.slice a2 N k2, .slice la2 L lc2, .int .i64 F2, .bool D2] 32)).cell? ⟨w.heap.size, 1, none⟩ = some (.slice la L lc) := by rw [← hw3]; exact hA3.cell 1
  have HZ3 := Lib.hid hZ3
  have HX3 := Lib.hid hX3
  have CS := Lib.hid (HCS.out w3 hB3)
  have HB3 := Lib.hid hB3
  have HS2 : Hid (w.heap.size + 2 ≤ w2.heap.size ∧ w3.heap.size = w2.heap.size + 1) := ⟨hs2, hs3⟩
  rw [hw3] at CS HZ3 HX3 HB3 HS2
  have HF2 := Lib.hid hF2
  have HD2 := Lib.hid hD2
  clear hA0 hZ0 hB0 hs0 hb2 hc2 hB2 hb3 hs3 hA3 hZ3 hX3 hB3 hs2 hw3 hF2 hD2 HCS HS
  go_wp2_with fail
  refine CS.out.mono ?_
  rintro e w5 ⟨g2, n2, rfl, ho5, hb5⟩
  clear CS
  have hs2 := HS2.out.1
  have hs3 := HS2.out.2
  have hg2 := (ho5.lt g2 rfl).1
  have hZ5 := HZ3.out.later hb5
  have hX5 := HX3.out.later hb5
  have hX6 := hX5.setSelf (i := 0) (.slice (some ⟨g2, 0, none⟩) N n2)
  have hX7 := hX6.setSelf (i := 1) (.slice none 0 0)
  have hZ6 := (hZ5.set (a := ⟨w2.heap.size, 0, none⟩) (by show w.heap.size + 1 ≠ w2.heap.size; omega) (.slice (some ⟨g2, 0, none⟩) N n2)).set (a := ⟨w2.heap.size, 1, none⟩) (by show w.heap.size + 1 ≠ w2.heap.size; omega) (.slice none 0 0)
  have hZ7 := hZ6.setSelf (i := 0) (.slice (some ⟨g2, 0, none⟩) N n2)
  have hZ8 := hZ7.setSelf (i := 1) (.slice none 0 0)
  have hZ9 := hZ8.setSelf (i := 2) (.int .i64 F2)
  have HZT := Lib.hid (hZ9.setSelf (i := 3) (.bool D2))
  have t0 := (hZ6.cell 0).trans (show _ = some (Value.slice none 0 0) from rfl)
  have t1 := (hZ7.cell 1).trans (show _ = some (Value.slice none 0 0) from rfl)
  have t2 := (hZ8.cell 2).trans (show _ = some (Value.int .i64 0) from rfl)
  have t3 := (hZ9.cell 3).trans (show _ = some (Value.bool false) from rfl)
  have b0 := hZ6.free 0
  have b1 := hZ7.free 1
  have b2 := hZ8.free 2
  have b3 := hZ9.free 3
  have y0 := (hX5.cell 0).trans (show _ = some (Value.slice a2 N k2) from rfl)
  have yf := hX5.free 0
  have y1 := (hX6.cell 1).trans (show _ = some (Value.slice la2 L lc2) from rfl)
  have yg := hX6.free 1
  have u0 := (hX7.cell 0).trans (show _ = some (Value.slice (some ⟨g2, 0, none⟩) N n2) from rfl)
  have u1 := (hX7.cell 1).trans (show _ = some (Value.slice none 0 0) from rfl)
  have u2 := (hX7.cell 2).trans (show _ = some (Value.int .i64 F2) from rfl)
  have u3 := (hX7.cell 3).trans (show _ = some (Value.bool D2) from rfl)
  have HQ : Hid (∀ w7, Below w.heap.size w5 w7 → w7.heap[g2]? = w5.heap[g2]? → DDk w7 (fun q => G q ∨ w.heap.size ≤ q) (.agg #[.slice (some ⟨g2, 0, none⟩) N n2, .slice none 0 0, .int .i64 F2, .bool D2]) (Ek.sync d) ∧ Below w.heap.size w w7) := fun w7 hb7 hk7 => by
    have hBw7 := (HB3.out.trans (hb5.mono HB3.out.size)).trans hb7
    have := HFIN.out w7 _ g2 n2 HB3.out.size (own_same ho5 (w' := w7) (fun q hq => by cases hq; exact hk7))
    rw [← HF2.out, ← HD2.out] at this
    exact ⟨this, hBw7⟩
  have HG2 : Hid (w2.heap.size < g2 ∧ w.heap.size + 2 ≤ w2.heap.size) := ⟨by omega, hs2⟩
  clear hs2 hs3 hg2 hZ5 hX5 hX6 hX7 hZ6 hZ7 hZ8 hZ9 ho5 hb5 HFIN HS2 HZ3 HX3 HB3
  go_wp2_with fail
  have r0 := (HZT.out.cell 0).trans (show _ = some (Value.slice (some ⟨g2, 0, none⟩) N n2) from rfl)
  have r1 := (HZT.out.cell 1).trans (show _ = some (Value.slice none 0 0) from rfl)
  have r2 := (HZT.out.cell 2).trans (show _ = some (Value.int .i64 F2) from rfl)
  have r3 := (HZT.out.cell 3).trans (show _ = some (Value.bool D2) from rfl)
  have hsz := HG2.out
  refine bodyPost_ret (v := .tuple #[.agg #[.slice (some ⟨g2, 0, none⟩) N n2, .slice none 0 0, .int .i64 F2, .bool D2], .int .i64 0]) ?_ rfl ?_
  · clear hsz
    rw [results_cell_tmp rfl]
    go_simp
  · have hq := HQ.out _ ((((((((Below.refl w.heap.size w5).setCell (p := ⟨w2.heap.size, 0, none⟩) (by show w.heap.size ≤ w2.heap.size; omega) (.slice (some ⟨g2, 0, none⟩) N n2)).setCell (p := ⟨w2.heap.size, 1, none⟩) (by show w.heap.size ≤ w2.heap.size; omega) (.slice none 0 0)).setCell (p := ⟨w.heap.size + 1, 0, none⟩) (by show w.heap.size ≤ w.heap.size + 1; omega) (.slice (some ⟨g2, 0, none⟩) N n2)).setCell (p := ⟨w.heap.size + 1, 1, none⟩) (by show w.heap.size ≤ w.heap.size + 1; omega) (.slice none 0 0)).setCell (p := ⟨w.heap.size + 1, 2, none⟩) (by show w.heap.size ≤ w.heap.size + 1; omega) (.int .i64 F2)).setCell (p := ⟨w.heap.size + 1, 3, none⟩) (by show w.heap.size ≤ w.heap.size + 1; omega) (.bool D2))) (by
      rw [Below.heap_setCell _ _ _ _ (by show g2 ≠ w.heap.size + 1; omega), Below.heap_setCell _ _ _ _ (by show g2 ≠ w.heap.size + 1; omega), Below.heap_setCell _ _ _ _ (by show g2 ≠ w.heap.size + 1; omega), Below.heap_setCell _ _ _ _ (by show g2 ≠ w.heap.size + 1; omega), Below.heap_setCell _ _ _ _ (by show g2 ≠ w2.heap.size; omega), Below.heap_setCell _ _ _ _ (by show g2 ≠ w2.heap.size; omega)])
    exact ⟨⟨_, rfl, hq.1⟩, hq.2⟩
set_option maxRecDepth 100000 in
set_option maxHeartbeats 4000000 in
theorem rdisk_sync_out (w : World) (G : Nat → Prop) (v : Value) (d : Ek.Dk) (h : DDk w G v d) (hd : d.dark = false) (hz : d.left = 0) :
    Calls Try.prog 25 #[v] w fun e w' => (∃ v', e = .returned (.tuple #[v', .int .i64 6]) ∧ DDk w' (fun q => G q ∨ w.heap.size ≤ q) v' (Ek.sync d)) ∧ Below w.heap.size w w' := by
  have HS : Hid (∀ w', Below w.heap.size w w' → Calls Try.prog 47 #[v] w' fun e w'' => (∃ v', e = .returned (.tuple #[v', .bool (decide (d.left ≠ 0))]) ∧ DDk w'' (fun q => G q ∧ q < w.heap.size) v' (Ek.change d)) ∧ Below w'.heap.size w' w'') := fun w' hb => rdisk_spend w' _ v d (h.lo.later hb) hd
  obtain ⟨a, la, c, lc, rfl, hc, hnl, hok⟩ := h
  have hE : Ek.changeE d = 6 := by unfold Ek.changeE; rw [if_pos (Or.inr hz)]
  have hsy : Ek.sync d = Ek.change d := by unfold Ek.sync; rw [if_neg (by rw [hE]; decide)]
  rw [hsy]
  unfold dv at HS ⊢
  rw [hd] at HS ⊢
  have e0 : decide (d.left ≠ 0) = false := by simp [hz]
  rw [e0] at HS
  generalize Ek.change d = dc at HS ⊢
  generalize d.loose.length = L at HS ⊢
  generalize d.n = N at HS ⊢
  generalize d.left = F at HS ⊢
  clear hc hnl hok hd hz e0 hE hsy
  go_enter Try.func25, Try.ntmps25
  go_wp2_with fail
  have hZ0 := Has.new (w.alloc (.cells #[.slice a N c, .slice la L lc, .int .i64 F, .bool false] 32)) (.cells #[.slice none 0 0, .slice none 0 0, .int .i64 0, .bool false] 32)
  have hB0 : Below w.heap.size w ((w.alloc (.cells #[.slice a N c, .slice la L lc, .int .i64 F, .bool false] 32)).alloc (.cells #[.slice none 0 0, .slice none 0 0, .int .i64 0, .bool false] 32)) := (below1 w _).trans ((below1 _ _).mono (by simp))
  have hs0 : (w.alloc (.cells #[.slice a N c, .slice la L lc, .int .i64 F, .bool false] 32)).heap.size = w.heap.size + 1 := by simp
  rw [hs0] at hZ0
  refine (HS.out _ hB0).mono ?_
  rintro e w2 ⟨⟨v2, rfl, hd2⟩, hb2⟩
  have hs2 : w.heap.size + 2 ≤ w2.heap.size := by have := hb2.size; simpa using this
  have hB2 := hB0.trans (hb2.mono hB0.size)
  obtain ⟨a2, la2, k2, lc2, rfl, hc2, hn2, hok2⟩ := hd2
  unfold dv
  have HQ : Hid (∀ w7, Below w.heap.size w2 w7 → DDk w7 (fun q => G q ∨ w.heap.size ≤ q) (.agg #[.slice a2 dc.n k2, .slice la2 dc.loose.length lc2, .int .i64 dc.left, .bool dc.dark]) dc ∧ Below w.heap.size w w7) := fun w7 hb7 => by
    have hBw7 := hB2.trans hb7
    have hc7 := hc2.keep hb7.size (fun q hq _ => (hBw7.block q hq.2).trans (hB2.block q hq.2).symm)
    exact ⟨DDk.mono (G := fun q => G q ∧ q < w.heap.size) ⟨a2, la2, k2, lc2, rfl, hc7, hn2, hok2⟩ (fun q hq => Or.inl hq.1), hBw7⟩
  have hZ5 := (hZ0.later hb2).later (below1 w2 (.cells #[.slice a2 dc.n k2, .slice la2 dc.loose.length lc2, .int .i64 dc.left, .bool dc.dark] 32))
  have hX5 := Has.new w2 (.cells #[.slice a2 dc.n k2, .slice la2 dc.loose.length lc2, .int .i64 dc.left, .bool dc.dark] 32)
  have hb5 : Below w.heap.size w2 (w2.alloc (.cells #[.slice a2 dc.n k2, .slice la2 dc.loose.length lc2, .int .i64 dc.left, .bool dc.dark] 32)) := (below1 w2 _).mono hB2.size
  generalize dc.n = N2 at HQ hZ5 hX5 hb5 ⊢
  generalize dc.loose.length = L2 at HQ hZ5 hX5 hb5 ⊢
  generalize dc.left = F2 at HQ hZ5 hX5 hb5 ⊢
  generalize dc.dark = D2 at HQ hZ5 hX5 hb5 ⊢
  have hZ7 := hZ5.setSelf (i := 0) (.slice a2 N2 k2)
  have hZ8 := hZ7.setSelf (i := 1) (.slice la2 L2 lc2)
  have hZ9 := hZ8.setSelf (i := 2) (.int .i64 F2)
  have HZT := Lib.hid (hZ9.setSelf (i := 3) (.bool D2))
  have t0 := (hZ5.cell 0).trans (show _ = some (Value.slice none 0 0) from rfl)
  have t1 := (hZ7.cell 1).trans (show _ = some (Value.slice none 0 0) from rfl)
  have t2 := (hZ8.cell 2).trans (show _ = some (Value.int .i64 0) from rfl)
  have t3 := (hZ9.cell 3).trans (show _ = some (Value.bool false) from rfl)
  have b0 := hZ5.free 0
  have b1 := hZ7.free 1
  have b2 := hZ8.free 2
  have b3 := hZ9.free 3
  have HB5 := Lib.hid hb5
  clear hZ0 hB0 hs0 hb2 hB2 hc2 hn2 hok2 hs2 hZ5 hX5 hZ7 hZ8 hZ9 hb5 HS
  go_wp2_with fail
  have r0 := (HZT.out.cell 0).trans (show _ = some (Value.slice a2 N2 k2) from rfl)
  have r1 := (HZT.out.cell 1).trans (show _ = some (Value.slice la2 L2 lc2) from rfl)
  have r2 := (HZT.out.cell 2).trans (show _ = some (Value.int .i64 F2) from rfl)
  have r3 := (HZT.out.cell 3).trans (show _ = some (Value.bool D2) from rfl)
  refine bodyPost_ret (v := .tuple #[.agg #[.slice a2 N2 k2, .slice la2 L2 lc2, .int .i64 F2, .bool D2], .int .i64 6]) ?_ rfl ?_
  · rw [results_cell_tmp rfl]
    go_simp
  · have hq := HQ.out _ ((((HB5.out.setCell (p := ⟨w.heap.size + 1, 0, none⟩) (by show w.heap.size ≤ w.heap.size + 1; omega) (.slice a2 N2 k2)).setCell (p := ⟨w.heap.size + 1, 1, none⟩) (by show w.heap.size ≤ w.heap.size + 1; omega) (.slice la2 L2 lc2)).setCell (p := ⟨w.heap.size + 1, 2, none⟩) (by show w.heap.size ≤ w.heap.size + 1; omega) (.int .i64 F2)).setCell (p := ⟨w.heap.size + 1, 3, none⟩) (by show w.heap.size ≤ w.heap.size + 1; omega) (.bool D2))
    exact ⟨⟨_, rfl, hq.1⟩, hq.2⟩
end Go.Proofs.Ythbiibinmofmfaa
