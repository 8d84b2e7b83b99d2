/- The document's Format: a header and a Sync. -/
import Derived.Test.YthbiibinmofmfaaZrld
import Derived.Test.YthbiibinmofmfaaYst0

namespace Go.Proofs.Ythbiibinmofmfaa
set_option maxRecDepth 100000
open Go.RowKit

/-- The boxes of a row and of none. -/
theorem two_boxes (w : World) (VC ZC : Obj) : ∃ W, W = (w.alloc VC).alloc ZC ∧ Below w.heap.size w W ∧ W.heap.size = w.heap.size + 2 ∧ Has W w.heap.size VC ∧ Has W (w.heap.size + 1) ZC := by
  refine ⟨_, rfl, (below1 w _).trans ((below1 _ _).mono (by simp)), by simp, (Has.new w VC).later (below1 _ _), ?_⟩
  have := Has.new (w.alloc VC) ZC
  rwa [show (w.alloc VC).heap.size = w.heap.size + 1 by simp] at this
/-- What a call of the document's that changes the disk leaves. -/
def RdP (w : World) (G : Nat → Prop) (d : Ek.Dk) (er : Int) (e : Ending) (w' : World) : Prop := (∃ v', e = .returned (.tuple #[v', .int .i64 er]) ∧ DDk w' (fun q => G q ∨ w.heap.size ≤ q) v' d) ∧ Below w.heap.size w w'
theorem DDk.put {w : World} {G : Nat → Prop} {v : Value} {d : Ek.Dk} (h : DDk w G v d) (g : Nat) (hg : ¬ G g) (cs : Array Value) : DDk (w.setRow g cs) G v d :=
  (h.lo.same (fun k hk => by have := hk.2; simpa using this) (fun k hk _ => setRow_other w g k cs (fun e => hg (e ▸ hk.1)))).mono (fun _ hq => hq.1)
theorem results_ct {P : Program} {fn : Func} {p s : Tmp} {ty : TypeId} (h : fn.results = #[.cell p ty, .tmp s]) (tmps : Array Value) (w : World) (g : Nat) (t : TypeId) (cs : Array Value) (fr : Nat × Nat) (d : TypeDesc)
    (hp : tmps.getD p undef = .pointer (some ⟨g, 0, none⟩)) (hg : w.heap[g]? = some (.cells cs t fr))
    (hu : P.underlying ty = some d) (hd : (match d with | .struct _ | .array _ _ => true | _ => false) = true) (hi : (P.info? ty).map (·.size) = some cs.size) :
    (results fn tmps).run P w = .ok (.tuple #[.agg cs, tmps.getD s undef]) w := by
  have hp' : tmps[p]?.getD undef = .pointer (some ⟨g, 0, none⟩) := by simpa using hp
  simp [results, h, hp', asAddr, run_loadVar_row w g t ty cs fr d hg hu hd hi]

set_option maxRecDepth 100000 in
set_option maxHeartbeats 4000000 in
theorem rformat_few (a la : Option Addr) (N c L lc : Nat) (FF : Int) (DD : Bool) (hN : N < 3) (w : World) :
    Calls Try.prog 11 #[.agg #[.slice a N c, .slice la L lc, .int .i64 FF, .bool DD]] w fun e w' => e = .returned (.tuple #[.agg #[.slice a N c, .slice la L lc, .int .i64 FF, .bool DD], .int .i64 7]) ∧ Below w.heap.size w w' := by
  obtain ⟨W0, hW0, hb0, hs0, hM0, hZ0⟩ := two_boxes w (.cells #[.slice a N c, .slice la L lc, .int .i64 FF, .bool DD] 32) (.cells #[.slice none 0 0, .slice none 0 0, .int .i64 0, .bool false] 32)
  have c1 : decide ((N : Int) < 3) = true := decide_eq_true (by omega)
  have a0 := (hM0.cell 0 : _ = some (Value.slice a N c))
  have M0 := Lib.hid hM0
  have Z0 := Lib.hid hZ0
  have B0 := Lib.hid hb0
  rw [hW0] at a0 M0 Z0 B0
  clear hM0 hZ0 hb0 hs0 hN hW0
  go_enter Try.func11, Try.ntmps11
  go_wp2_with (first | (refine wpList_load_row rfl 32 (.tmp 1) rfl w.heap.size rfl 32 _ (0, 0) _ M0.out Try.underlying32 rfl Try.infoDisk4 ?_) | (refine wpList_store_row rfl 32 (.tmp 2) (.tmp 9) rfl (w.heap.size + 1) #[.slice a N c, .slice la L lc, .int .i64 FF, .bool DD] rfl rfl 32 _ Z0.out Try.infoDisk4 rfl (by simp [Value.oneCell']) ?_))
  refine bodyPost_ret (results_ct rfl _ _ (w.heap.size + 1) 32 #[.slice a N c, .slice la L lc, .int .i64 FF, .bool DD] (0, 0) _ rfl (setRow_heap _ _ _ _ _ _ Z0.out) Try.underlying32 rfl Try.infoDisk4) rfl ⟨rfl, below_setRow B0.out (by omega) _⟩

set_option maxRecDepth 100000 in
set_option maxHeartbeats 4000000 in
theorem rformat_good (w : World) (G : Nat → Prop) (a la : Option Addr) (N c L lc : Nat) (FF : Int) (DD : Bool) (d : Ek.Dk) (hN : ¬ N < 3) (h : DDk w G (.agg #[.slice a N c, .slice la L lc, .int .i64 FF, .bool DD]) d) (hG : ∀ k, G k → k < w.heap.size) (hu : d.used < 900000) (row : List Nat) (hr : row = Sk.header ⟨0, 0, 0, 0⟩) (he : Ek.writeE d 0 row = 0) :
    Calls Try.prog 11 #[.agg #[.slice a N c, .slice la L lc, .int .i64 FF, .bool DD]] w (RdP w G (Ek.sync (Ek.write d 0 row)) (Ek.changeE (Ek.write d 0 row))) := by
  obtain ⟨W0, hW0, hb0, hs0, hM0, hZ0⟩ := two_boxes w (.cells #[.slice a N c, .slice la L lc, .int .i64 FF, .bool DD] 32) (.cells #[.slice none 0 0, .slice none 0 0, .int .i64 0, .bool false] 32)
  have HGl := Lib.hid hG
  have h8 : ∀ x ∈ row, x < 256 := by rw [hr]; exact (Sk.header_row _).2
  have HH : Hid (∀ W, Calls Try.prog 26 #[.int .i64 ((0 : Nat) : Int), .int .i64 ((0 : Nat) : Int), .string ⟨#[]⟩] W fun e w' => e = .returned (.string (strB row)) ∧ Below W.heap.size W w') := fun W => by
    rw [hr]
    exact rheader_any 0 0 (by decide) (by decide) [] (fun x hx => by simp at hx) (by decide) ⟨#[]⟩ (Lib.hid rfl) W
  have e0 : ((0 : Nat) : Int) = 0 := rfl
  rw [e0] at HH
  have HD := fun W (hb : Below w.heap.size w W) => h.later hb
  have CW : Hid (∀ W, Below w.heap.size w W → Calls Try.prog 24 #[.agg #[.slice a N c, .slice la L lc, .int .i64 FF, .bool DD], .int .i64 0, .string (strB row)] W (RdP W G (Ek.write d 0 row) (Ek.writeE d 0 row))) := fun W hb => rdisk_write_any W G _ d (HD W hb) 0 row h8 (by omega)
  have CS : Hid (∀ W G' v d', DDk W G' v d' → Calls Try.prog 25 #[v] W (RdP W G' (Ek.sync d') (Ek.changeE d'))) := fun W G' v d' hd => rdisk_sync_any W G' v d' hd
  have c1 : decide ((N : Int) < 3) = false := decide_eq_false (by omega)
  have a0 := (hM0.cell 0 : _ = some (Value.slice a N c))
  have V0 := Lib.hid hW0
  have M0 := Lib.hid hM0
  have Z0 := Lib.hid hZ0
  have B0 := Lib.hid hb0
  have HS0 := Lib.hid hs0
  rw [hW0] at a0
  generalize Ek.write d 0 row = d1 at *
  rw [he] at CW
  generalize strB row = RS at *
  clear hM0 hZ0 hb0 hs0 hN hW0 h HD h8 hu hr e0 hG he
  go_enter Try.func11, Try.ntmps11
  go_wp2_with fail
  rw [← V0.out]
  clear V0 a0 c1
  have M0' : Has W0.drew w.heap.size (.cells #[.slice a N c, .slice la L lc, .int .i64 FF, .bool DD] 32) := M0.out
  have i0 : Below w.heap.size w W0.drew := B0.out.trans ((below_drewN (Below.refl _ _) 1).mono B0.out.size)
  refine wp_region_held_drew (S := fun wx => Below w.heap.size w wx) (by kernel_rfl) i0 (fun _ => ?_)
  change wpAnyH _ _ _ _ _ 8 (Array.replicate 8 false) _ _
  refine wpAnyH_ready (rs := [0, 1]) (by kernel_rfl) (by simp) ?_
  refine AllReadyH.cons rfl (fun K hK => ?_) (AllReadyH.cons rfl (fun K hK => ?_) AllReadyH.nil)
  · skip
    rw [if_pos (by rfl)]
    refine wp_load_row 32 _ rfl w.heap.size rfl 32 #[.slice a N c, .slice la L lc, .int .i64 FF, .bool DD] (0, 0) _ M0' Try.underlying32 rfl Try.infoDisk4 ?_
    refine hK.out _ _ i0 (fun _ => ?_)
    clear hK K
    try simp only [Act.put, List.getElem_toArray, List.getElem_cons_zero, List.setIfInBounds_toArray, List.set_cons_zero, List.set_cons_succ]
    refine wpAnyH_ready (rs := [1]) (by kernel_rfl) (by simp) ?_
    refine AllReadyH.cons rfl (fun K hK => ?_) AllReadyH.nil
    go_simp
    refine (HH.out _).mono ?_
    rintro e w1 ⟨rfl, hb1⟩
    have i1 : Below w.heap.size w w1 := i0.trans (hb1.mono i0.size)
    have M1 : Has w1 w.heap.size (.cells #[.slice a N c, .slice la L lc, .int .i64 FF, .bool DD] 32) := M0'.later hb1
    have Z1 := Lib.hid (show Has w1 (w.heap.size + 1) (.cells #[.slice none 0 0, .slice none 0 0, .int .i64 0, .bool false] 32) from Has.later (w := W0.drew) Z0.out hb1)
    have HS1 : Hid (w.heap.size + 2 ≤ w1.heap.size) := by have := hb1.size; have := HS0.out; show _ ≤ _; have e : W0.drew.heap.size = W0.heap.size := rfl; omega
    clear Z0 HS0 hb1 i0 M0 B0 M0'
    dsimp only
    refine hK.out _ _ i1 (fun _ => ?_)
    clear hK K HH
    try simp only [Act.put, List.getElem_toArray, List.getElem_cons_zero, List.getElem_cons_succ, List.setIfInBounds_toArray, List.set_cons_zero, List.set_cons_succ]
    refine wpAnyH_ready (rs := [2]) (by kernel_rfl) (by simp) ?_
    refine AllReadyH.cons rfl (fun K hK => ?_) AllReadyH.nil
    go_simp
    refine (CW.out _ i1).mono ?_
    clear CW
    rintro e w2 ⟨⟨v2, rfl, hd2⟩, hb2⟩
    obtain ⟨ya, yn, yc, yl, ym, yk, yf, yd, rfl⟩ := hd2.four
    have i2 : Below w.heap.size w w2 := i1.trans (hb2.mono i1.size)
    have M2 : Has w2 w.heap.size (.cells #[.slice a N c, .slice la L lc, .int .i64 FF, .bool DD] 32) := M1.later hb2
    have Z2 := Lib.hid (Z1.out.later hb2)
    have hz2 := hb2.size
    have hzz := HS1.out
    have HNG : Hid (¬ (G w.heap.size ∨ w1.heap.size ≤ w.heap.size) ∧ ¬ (G (w.heap.size + 1) ∨ w1.heap.size ≤ w.heap.size + 1)) := ⟨by rintro (h | h); exact absurd (HGl.out _ h) (by omega); omega, by rintro (h | h); exact absurd (HGl.out _ h) (by omega); omega⟩
    have i5 : Below w.heap.size w (w2.setRow w.heap.size #[.slice ya yn yc, .slice yl ym yk, .int .i64 yf, .bool yd]) := below_setRow i2 (Nat.le_refl _) _
    have M5 := Lib.hid (show Has (w2.setRow w.heap.size #[.slice ya yn yc, .slice yl ym yk, .int .i64 yf, .bool yd]) w.heap.size (.cells #[.slice ya yn yc, .slice yl ym yk, .int .i64 yf, .bool yd] 32) from setRow_heap _ _ _ _ _ _ M2)
    have D5 := Lib.hid (hd2.put w.heap.size HNG.out.1 #[.slice ya yn yc, .slice yl ym yk, .int .i64 yf, .bool yd])
    have Z5 := Lib.hid (show Has (w2.setRow w.heap.size #[.slice ya yn yc, .slice yl ym yk, .int .i64 yf, .bool yd]) (w.heap.size + 1) (.cells #[.slice none 0 0, .slice none 0 0, .int .i64 0, .bool false] 32) from has_row Z2.out (by omega) _)
    have HS5 : Hid (w.heap.size + 2 ≤ (w2.setRow w.heap.size #[.slice ya yn yc, .slice yl ym yk, .int .i64 yf, .bool yd]).heap.size) := by show _ ≤ _; simp; omega
    clear hd2 hb2 hz2
    dsimp only
    refine hK.out _ _ i2 (fun _ => ?_)
    clear hK K
    try simp only [Act.put, List.getElem_toArray, List.getElem_cons_zero, List.getElem_cons_succ, List.setIfInBounds_toArray, List.set_cons_zero, List.set_cons_succ]
    refine wpAnyH_take (i := 3) (v := ?_) rfl (by kernel_rfl) (by kernel_rfl) (by kernel_rfl) (fun _ _ _ h => h) (Or.inl ⟨rfl, ?hy3⟩) i2 ?_
    case hy3 => intro w' hw'; clear hw'; go_simp; first | done | rfl
    try simp only [Act.put, List.getElem_toArray, List.getElem_cons_zero, List.getElem_cons_succ, List.setIfInBounds_toArray, List.set_cons_zero, List.set_cons_succ]
    refine wpAnyH_take (i := 4) (v := ?_) rfl (by kernel_rfl) (by kernel_rfl) (by kernel_rfl) (fun _ _ _ h => h) (Or.inl ⟨rfl, ?hy4⟩) i2 ?_
    case hy4 => intro w' hw'; clear hw'; go_simp; first | done | rfl
    try simp only [Act.put, List.getElem_toArray, List.getElem_cons_zero, List.getElem_cons_succ, List.setIfInBounds_toArray, List.set_cons_zero, List.set_cons_succ]
    refine wpAnyH_take (i := 5) (v := ?_) rfl (by kernel_rfl) (by kernel_rfl) (by kernel_rfl) (fun _ _ _ h => h) (Or.inl ⟨rfl, ?hy5⟩) i2 ?_
    case hy5 => intro w' hw'; clear hw'; go_simp; first | done | rfl
    try simp only [Act.put, List.getElem_toArray, List.getElem_cons_zero, List.getElem_cons_succ, List.setIfInBounds_toArray, List.set_cons_zero, List.set_cons_succ]
    refine wpAnyH_ready (rs := [6]) (by kernel_rfl) (by simp) ?_
    refine AllReadyH.cons rfl (fun K hK => ?_) AllReadyH.nil
    rw [if_pos (by rfl)]
    refine wp_store_row 32 _ _ rfl w.heap.size #[.slice ya yn yc, .slice yl ym yk, .int .i64 yf, .bool yd] rfl rfl 32 _ M2 Try.infoDisk4 rfl (by simp [Value.oneCell']) ?_
    refine hK.out _ _ i5 (fun _ => ?_)
    clear hK K
    try simp only [Act.put, List.getElem_toArray, List.getElem_cons_zero, List.getElem_cons_succ]
    refine wpAnyH_take (i := 7) (v := ?_) rfl (by kernel_rfl) (by kernel_rfl) (by kernel_rfl) (fun _ _ _ h => h) (Or.inl ⟨rfl, ?hy7⟩) i5 ?_
    case hy7 => intro w' hw'; clear hw'; go_simp; first | done | rfl
    try simp only [Act.put, List.getElem_toArray, List.getElem_cons_zero, List.getElem_cons_succ, List.setIfInBounds_toArray, List.set_cons_zero, List.set_cons_succ]
    refine wpAnyH_done (by kernel_rfl) ?_ _
    obtain ⟨w5, hw5⟩ : ∃ W, W = w2.setRow w.heap.size #[.slice ya yn yc, .slice yl ym yk, .int .i64 yf, .bool yd] := ⟨_, rfl⟩
    rw [← hw5] at M5 D5 Z5 HS5 i5 ⊢
    have B5 := Lib.hid i5
    clear hw5 i5 i2 M2 Z2 Z1 M1 i1

    have CS' := Lib.hid (CS.out w5 _ _ _ D5.out)
    clear CS
    go_wp2_with (refine wpList_load_row rfl 32 (.tmp 1) rfl w.heap.size rfl 32 _ (0, 0) _ M5.out Try.underlying32 rfl Try.infoDisk4 ?_)
    refine CS'.out.mono ?_
    clear CS'
    rintro e w6 ⟨⟨v6, rfl, hd6⟩, hb6⟩
    obtain ⟨ua, un, uc, ul, um, uk, uf, ud, rfl⟩ := hd6.four
    have Z6 := Lib.hid (Z5.out.later hb6)
    have B6 := Lib.hid (B5.out.trans (hb6.mono B5.out.size))
    have hz5 := HS5.out
    have D6 := Lib.hid ((hd6.put (w.heap.size + 1) (by rintro (h | h); exact HNG.out.2 h; omega) #[.slice ua un uc, .slice ul um uk, .int .i64 uf, .bool ud]).mono (G' := fun q => G q ∨ w.heap.size ≤ q) (fun q hq => by
      rcases hq with (h | h) | h
      · exact Or.inl h
      · exact Or.inr (by omega)
      · exact Or.inr (by omega)))
    have B7 := Lib.hid (below_setRow B6.out (show w.heap.size ≤ w.heap.size + 1 by omega) #[.slice ua un uc, .slice ul um uk, .int .i64 uf, .bool ud])
    clear hd6 hb6 HNG HS5
    go_wp2_with (refine wpList_store_row rfl 32 (.tmp 2) (.tmp 22) rfl (w.heap.size + 1) #[.slice ua un uc, .slice ul um uk, .int .i64 uf, .bool ud] rfl rfl 32 _ Z6.out Try.infoDisk4 rfl (by simp [Value.oneCell']) ?_)
    refine bodyPost_ret (results_ct rfl _ _ (w.heap.size + 1) 32 #[.slice ua un uc, .slice ul um uk, .int .i64 uf, .bool ud] (0, 0) _ rfl (setRow_heap _ _ _ _ _ _ Z6.out) Try.underlying32 rfl Try.infoDisk4) rfl ⟨⟨_, rfl, D6.out⟩, B7.out⟩
  · skip
    go_simp
    refine (HH.out _).mono ?_
    rintro e w1 ⟨rfl, hb1⟩
    have i1 : Below w.heap.size w w1 := i0.trans (hb1.mono i0.size)
    have M1 : Has w1 w.heap.size (.cells #[.slice a N c, .slice la L lc, .int .i64 FF, .bool DD] 32) := M0'.later hb1
    have Z1 := Lib.hid (show Has w1 (w.heap.size + 1) (.cells #[.slice none 0 0, .slice none 0 0, .int .i64 0, .bool false] 32) from Has.later (w := W0.drew) Z0.out hb1)
    have HS1 : Hid (w.heap.size + 2 ≤ w1.heap.size) := by have := hb1.size; have := HS0.out; show _ ≤ _; have e : W0.drew.heap.size = W0.heap.size := rfl; omega
    clear Z0 HS0 hb1 i0 M0 B0 M0'
    dsimp only
    refine hK.out _ _ i1 (fun _ => ?_)
    clear hK K HH
    try simp only [Act.put, List.getElem_toArray, List.getElem_cons_zero, List.getElem_cons_succ, List.setIfInBounds_toArray, List.set_cons_zero, List.set_cons_succ]
    refine wpAnyH_ready (rs := [0]) (by kernel_rfl) (by simp) ?_
    refine AllReadyH.cons rfl (fun K hK => ?_) AllReadyH.nil
    rw [if_pos (by rfl)]
    refine wp_load_row 32 _ rfl w.heap.size rfl 32 #[.slice a N c, .slice la L lc, .int .i64 FF, .bool DD] (0, 0) _ M1 Try.underlying32 rfl Try.infoDisk4 ?_
    refine hK.out _ _ i1 (fun _ => ?_)
    clear hK K
    try simp only [Act.put, List.getElem_toArray, List.getElem_cons_zero, List.setIfInBounds_toArray, List.set_cons_zero, List.set_cons_succ]
    refine wpAnyH_ready (rs := [2]) (by kernel_rfl) (by simp) ?_
    refine AllReadyH.cons rfl (fun K hK => ?_) AllReadyH.nil
    go_simp
    refine (CW.out _ i1).mono ?_
    clear CW
    rintro e w2 ⟨⟨v2, rfl, hd2⟩, hb2⟩
    obtain ⟨ya, yn, yc, yl, ym, yk, yf, yd, rfl⟩ := hd2.four
    have i2 : Below w.heap.size w w2 := i1.trans (hb2.mono i1.size)
    have M2 : Has w2 w.heap.size (.cells #[.slice a N c, .slice la L lc, .int .i64 FF, .bool DD] 32) := M1.later hb2
    have Z2 := Lib.hid (Z1.out.later hb2)
    have hz2 := hb2.size
    have hzz := HS1.out
    have HNG : Hid (¬ (G w.heap.size ∨ w1.heap.size ≤ w.heap.size) ∧ ¬ (G (w.heap.size + 1) ∨ w1.heap.size ≤ w.heap.size + 1)) := ⟨by rintro (h | h); exact absurd (HGl.out _ h) (by omega); omega, by rintro (h | h); exact absurd (HGl.out _ h) (by omega); omega⟩
    have i5 : Below w.heap.size w (w2.setRow w.heap.size #[.slice ya yn yc, .slice yl ym yk, .int .i64 yf, .bool yd]) := below_setRow i2 (Nat.le_refl _) _
    have M5 := Lib.hid (show Has (w2.setRow w.heap.size #[.slice ya yn yc, .slice yl ym yk, .int .i64 yf, .bool yd]) w.heap.size (.cells #[.slice ya yn yc, .slice yl ym yk, .int .i64 yf, .bool yd] 32) from setRow_heap _ _ _ _ _ _ M2)
    have D5 := Lib.hid (hd2.put w.heap.size HNG.out.1 #[.slice ya yn yc, .slice yl ym yk, .int .i64 yf, .bool yd])
    have Z5 := Lib.hid (show Has (w2.setRow w.heap.size #[.slice ya yn yc, .slice yl ym yk, .int .i64 yf, .bool yd]) (w.heap.size + 1) (.cells #[.slice none 0 0, .slice none 0 0, .int .i64 0, .bool false] 32) from has_row Z2.out (by omega) _)
    have HS5 : Hid (w.heap.size + 2 ≤ (w2.setRow w.heap.size #[.slice ya yn yc, .slice yl ym yk, .int .i64 yf, .bool yd]).heap.size) := by show _ ≤ _; simp; omega
    clear hd2 hb2 hz2
    dsimp only
    refine hK.out _ _ i2 (fun _ => ?_)
    clear hK K
    try simp only [Act.put, List.getElem_toArray, List.getElem_cons_zero, List.getElem_cons_succ, List.setIfInBounds_toArray, List.set_cons_zero, List.set_cons_succ]
    refine wpAnyH_take (i := 3) (v := ?_) rfl (by kernel_rfl) (by kernel_rfl) (by kernel_rfl) (fun _ _ _ h => h) (Or.inl ⟨rfl, ?hy3⟩) i2 ?_
    case hy3 => intro w' hw'; clear hw'; go_simp; first | done | rfl
    try simp only [Act.put, List.getElem_toArray, List.getElem_cons_zero, List.getElem_cons_succ, List.setIfInBounds_toArray, List.set_cons_zero, List.set_cons_succ]
    refine wpAnyH_take (i := 4) (v := ?_) rfl (by kernel_rfl) (by kernel_rfl) (by kernel_rfl) (fun _ _ _ h => h) (Or.inl ⟨rfl, ?hy4⟩) i2 ?_
    case hy4 => intro w' hw'; clear hw'; go_simp; first | done | rfl
    try simp only [Act.put, List.getElem_toArray, List.getElem_cons_zero, List.getElem_cons_succ, List.setIfInBounds_toArray, List.set_cons_zero, List.set_cons_succ]
    refine wpAnyH_take (i := 5) (v := ?_) rfl (by kernel_rfl) (by kernel_rfl) (by kernel_rfl) (fun _ _ _ h => h) (Or.inl ⟨rfl, ?hy5⟩) i2 ?_
    case hy5 => intro w' hw'; clear hw'; go_simp; first | done | rfl
    try simp only [Act.put, List.getElem_toArray, List.getElem_cons_zero, List.getElem_cons_succ, List.setIfInBounds_toArray, List.set_cons_zero, List.set_cons_succ]
    refine wpAnyH_ready (rs := [6]) (by kernel_rfl) (by simp) ?_
    refine AllReadyH.cons rfl (fun K hK => ?_) AllReadyH.nil
    rw [if_pos (by rfl)]
    refine wp_store_row 32 _ _ rfl w.heap.size #[.slice ya yn yc, .slice yl ym yk, .int .i64 yf, .bool yd] rfl rfl 32 _ M2 Try.infoDisk4 rfl (by simp [Value.oneCell']) ?_
    refine hK.out _ _ i5 (fun _ => ?_)
    clear hK K
    try simp only [Act.put, List.getElem_toArray, List.getElem_cons_zero, List.getElem_cons_succ]
    refine wpAnyH_take (i := 7) (v := ?_) rfl (by kernel_rfl) (by kernel_rfl) (by kernel_rfl) (fun _ _ _ h => h) (Or.inl ⟨rfl, ?hy7⟩) i5 ?_
    case hy7 => intro w' hw'; clear hw'; go_simp; first | done | rfl
    try simp only [Act.put, List.getElem_toArray, List.getElem_cons_zero, List.getElem_cons_succ, List.setIfInBounds_toArray, List.set_cons_zero, List.set_cons_succ]
    refine wpAnyH_done (by kernel_rfl) ?_ _
    obtain ⟨w5, hw5⟩ : ∃ W, W = w2.setRow w.heap.size #[.slice ya yn yc, .slice yl ym yk, .int .i64 yf, .bool yd] := ⟨_, rfl⟩
    rw [← hw5] at M5 D5 Z5 HS5 i5 ⊢
    have B5 := Lib.hid i5
    clear hw5 i5 i2 M2 Z2 Z1 M1 i1

    have CS' := Lib.hid (CS.out w5 _ _ _ D5.out)
    clear CS
    go_wp2_with (refine wpList_load_row rfl 32 (.tmp 1) rfl w.heap.size rfl 32 _ (0, 0) _ M5.out Try.underlying32 rfl Try.infoDisk4 ?_)
    refine CS'.out.mono ?_
    clear CS'
    rintro e w6 ⟨⟨v6, rfl, hd6⟩, hb6⟩
    obtain ⟨ua, un, uc, ul, um, uk, uf, ud, rfl⟩ := hd6.four
    have Z6 := Lib.hid (Z5.out.later hb6)
    have B6 := Lib.hid (B5.out.trans (hb6.mono B5.out.size))
    have hz5 := HS5.out
    have D6 := Lib.hid ((hd6.put (w.heap.size + 1) (by rintro (h | h); exact HNG.out.2 h; omega) #[.slice ua un uc, .slice ul um uk, .int .i64 uf, .bool ud]).mono (G' := fun q => G q ∨ w.heap.size ≤ q) (fun q hq => by
      rcases hq with (h | h) | h
      · exact Or.inl h
      · exact Or.inr (by omega)
      · exact Or.inr (by omega)))
    have B7 := Lib.hid (below_setRow B6.out (show w.heap.size ≤ w.heap.size + 1 by omega) #[.slice ua un uc, .slice ul um uk, .int .i64 uf, .bool ud])
    clear hd6 hb6 HNG HS5
    go_wp2_with (refine wpList_store_row rfl 32 (.tmp 2) (.tmp 22) rfl (w.heap.size + 1) #[.slice ua un uc, .slice ul um uk, .int .i64 uf, .bool ud] rfl rfl 32 _ Z6.out Try.infoDisk4 rfl (by simp [Value.oneCell']) ?_)
    refine bodyPost_ret (results_ct rfl _ _ (w.heap.size + 1) 32 #[.slice ua un uc, .slice ul um uk, .int .i64 uf, .bool ud] (0, 0) _ rfl (setRow_heap _ _ _ _ _ _ Z6.out) Try.underlying32 rfl Try.infoDisk4) rfl ⟨⟨_, rfl, D6.out⟩, B7.out⟩
set_option maxRecDepth 100000 in
set_option maxHeartbeats 4000000 in
theorem rformat_fell (w : World) (G : Nat → Prop) (a la : Option Addr) (N c L lc : Nat) (FF : Int) (DD : Bool) (d : Ek.Dk) (hN : ¬ N < 3) (h : DDk w G (.agg #[.slice a N c, .slice la L lc, .int .i64 FF, .bool DD]) d) (hG : ∀ k, G k → k < w.heap.size) (hu : d.used < 900000) (row : List Nat) (hr : row = Sk.header ⟨0, 0, 0, 0⟩) (he : ¬ Ek.writeE d 0 row = 0) :
    Calls Try.prog 11 #[.agg #[.slice a N c, .slice la L lc, .int .i64 FF, .bool DD]] w (RdP w G (Ek.write d 0 row) (Ek.writeE d 0 row)) := by
  obtain ⟨W0, hW0, hb0, hs0, hM0, hZ0⟩ := two_boxes w (.cells #[.slice a N c, .slice la L lc, .int .i64 FF, .bool DD] 32) (.cells #[.slice none 0 0, .slice none 0 0, .int .i64 0, .bool false] 32)
  have HGl := Lib.hid hG
  have h8 : ∀ x ∈ row, x < 256 := by rw [hr]; exact (Sk.header_row _).2
  have HH : Hid (∀ W, Calls Try.prog 26 #[.int .i64 ((0 : Nat) : Int), .int .i64 ((0 : Nat) : Int), .string ⟨#[]⟩] W fun e w' => e = .returned (.string (strB row)) ∧ Below W.heap.size W w') := fun W => by
    rw [hr]
    exact rheader_any 0 0 (by decide) (by decide) [] (fun x hx => by simp at hx) (by decide) ⟨#[]⟩ (Lib.hid rfl) W
  have e0 : ((0 : Nat) : Int) = 0 := rfl
  rw [e0] at HH
  have HD := fun W (hb : Below w.heap.size w W) => h.later hb
  have CW : Hid (∀ W, Below w.heap.size w W → Calls Try.prog 24 #[.agg #[.slice a N c, .slice la L lc, .int .i64 FF, .bool DD], .int .i64 0, .string (strB row)] W (RdP W G (Ek.write d 0 row) (Ek.writeE d 0 row))) := fun W hb => rdisk_write_any W G _ d (HD W hb) 0 row h8 (by omega)
  have CS : Hid (∀ W G' v d', DDk W G' v d' → Calls Try.prog 25 #[v] W (RdP W G' (Ek.sync d') (Ek.changeE d'))) := fun W G' v d' hd => rdisk_sync_any W G' v d' hd
  have c1 : decide ((N : Int) < 3) = false := decide_eq_false (by omega)
  have a0 := (hM0.cell 0 : _ = some (Value.slice a N c))
  have V0 := Lib.hid hW0
  have M0 := Lib.hid hM0
  have Z0 := Lib.hid hZ0
  have B0 := Lib.hid hb0
  have HS0 := Lib.hid hs0
  rw [hW0] at a0
  generalize Ek.write d 0 row = d1 at *
  generalize Ek.writeE d 0 row = e1 at *
  generalize strB row = RS at *
  clear hM0 hZ0 hb0 hs0 hN hW0 h HD h8 hu hr e0 hG
  go_enter Try.func11, Try.ntmps11
  go_wp2_with fail
  rw [← V0.out]
  clear V0 a0 c1
  have M0' : Has W0.drew w.heap.size (.cells #[.slice a N c, .slice la L lc, .int .i64 FF, .bool DD] 32) := M0.out
  have i0 : Below w.heap.size w W0.drew := B0.out.trans ((below_drewN (Below.refl _ _) 1).mono B0.out.size)
  refine wp_region_held_drew (S := fun wx => Below w.heap.size w wx) (by kernel_rfl) i0 (fun _ => ?_)
  change wpAnyH _ _ _ _ _ 8 (Array.replicate 8 false) _ _
  refine wpAnyH_ready (rs := [0, 1]) (by kernel_rfl) (by simp) ?_
  refine AllReadyH.cons rfl (fun K hK => ?_) (AllReadyH.cons rfl (fun K hK => ?_) AllReadyH.nil)
  · skip
    rw [if_pos (by rfl)]
    refine wp_load_row 32 _ rfl w.heap.size rfl 32 #[.slice a N c, .slice la L lc, .int .i64 FF, .bool DD] (0, 0) _ M0' Try.underlying32 rfl Try.infoDisk4 ?_
    refine hK.out _ _ i0 (fun _ => ?_)
    clear hK K
    try simp only [Act.put, List.getElem_toArray, List.getElem_cons_zero, List.setIfInBounds_toArray, List.set_cons_zero, List.set_cons_succ]
    refine wpAnyH_ready (rs := [1]) (by kernel_rfl) (by simp) ?_
    refine AllReadyH.cons rfl (fun K hK => ?_) AllReadyH.nil
    go_simp
    refine (HH.out _).mono ?_
    rintro e w1 ⟨rfl, hb1⟩
    have i1 : Below w.heap.size w w1 := i0.trans (hb1.mono i0.size)
    have M1 : Has w1 w.heap.size (.cells #[.slice a N c, .slice la L lc, .int .i64 FF, .bool DD] 32) := M0'.later hb1
    have Z1 := Lib.hid (show Has w1 (w.heap.size + 1) (.cells #[.slice none 0 0, .slice none 0 0, .int .i64 0, .bool false] 32) from Has.later (w := W0.drew) Z0.out hb1)
    have HS1 : Hid (w.heap.size + 2 ≤ w1.heap.size) := by have := hb1.size; have := HS0.out; show _ ≤ _; have e : W0.drew.heap.size = W0.heap.size := rfl; omega
    clear Z0 HS0 hb1 i0 M0 B0 M0'
    dsimp only
    refine hK.out _ _ i1 (fun _ => ?_)
    clear hK K HH
    try simp only [Act.put, List.getElem_toArray, List.getElem_cons_zero, List.getElem_cons_succ, List.setIfInBounds_toArray, List.set_cons_zero, List.set_cons_succ]
    refine wpAnyH_ready (rs := [2]) (by kernel_rfl) (by simp) ?_
    refine AllReadyH.cons rfl (fun K hK => ?_) AllReadyH.nil
    go_simp
    refine (CW.out _ i1).mono ?_
    clear CW
    rintro e w2 ⟨⟨v2, rfl, hd2⟩, hb2⟩
    obtain ⟨ya, yn, yc, yl, ym, yk, yf, yd, rfl⟩ := hd2.four
    have i2 : Below w.heap.size w w2 := i1.trans (hb2.mono i1.size)
    have M2 : Has w2 w.heap.size (.cells #[.slice a N c, .slice la L lc, .int .i64 FF, .bool DD] 32) := M1.later hb2
    have Z2 := Lib.hid (Z1.out.later hb2)
    have hz2 := hb2.size
    have hzz := HS1.out
    have HNG : Hid (¬ (G w.heap.size ∨ w1.heap.size ≤ w.heap.size) ∧ ¬ (G (w.heap.size + 1) ∨ w1.heap.size ≤ w.heap.size + 1)) := ⟨by rintro (h | h); exact absurd (HGl.out _ h) (by omega); omega, by rintro (h | h); exact absurd (HGl.out _ h) (by omega); omega⟩
    have i5 : Below w.heap.size w (w2.setRow w.heap.size #[.slice ya yn yc, .slice yl ym yk, .int .i64 yf, .bool yd]) := below_setRow i2 (Nat.le_refl _) _
    have M5 := Lib.hid (show Has (w2.setRow w.heap.size #[.slice ya yn yc, .slice yl ym yk, .int .i64 yf, .bool yd]) w.heap.size (.cells #[.slice ya yn yc, .slice yl ym yk, .int .i64 yf, .bool yd] 32) from setRow_heap _ _ _ _ _ _ M2)
    have D5 := Lib.hid (hd2.put w.heap.size HNG.out.1 #[.slice ya yn yc, .slice yl ym yk, .int .i64 yf, .bool yd])
    have Z5 := Lib.hid (show Has (w2.setRow w.heap.size #[.slice ya yn yc, .slice yl ym yk, .int .i64 yf, .bool yd]) (w.heap.size + 1) (.cells #[.slice none 0 0, .slice none 0 0, .int .i64 0, .bool false] 32) from has_row Z2.out (by omega) _)
    have HS5 : Hid (w.heap.size + 2 ≤ (w2.setRow w.heap.size #[.slice ya yn yc, .slice yl ym yk, .int .i64 yf, .bool yd]).heap.size) := by show _ ≤ _; simp; omega
    clear hd2 hb2 hz2
    dsimp only
    refine hK.out _ _ i2 (fun _ => ?_)
    clear hK K
    try simp only [Act.put, List.getElem_toArray, List.getElem_cons_zero, List.getElem_cons_succ, List.setIfInBounds_toArray, List.set_cons_zero, List.set_cons_succ]
    refine wpAnyH_take (i := 3) (v := ?_) rfl (by kernel_rfl) (by kernel_rfl) (by kernel_rfl) (fun _ _ _ h => h) (Or.inl ⟨rfl, ?hy3⟩) i2 ?_
    case hy3 => intro w' hw'; clear hw'; go_simp; first | done | rfl
    try simp only [Act.put, List.getElem_toArray, List.getElem_cons_zero, List.getElem_cons_succ, List.setIfInBounds_toArray, List.set_cons_zero, List.set_cons_succ]
    refine wpAnyH_take (i := 4) (v := ?_) rfl (by kernel_rfl) (by kernel_rfl) (by kernel_rfl) (fun _ _ _ h => h) (Or.inl ⟨rfl, ?hy4⟩) i2 ?_
    case hy4 => intro w' hw'; clear hw'; go_simp; first | done | rfl
    try simp only [Act.put, List.getElem_toArray, List.getElem_cons_zero, List.getElem_cons_succ, List.setIfInBounds_toArray, List.set_cons_zero, List.set_cons_succ]
    refine wpAnyH_take (i := 5) (v := ?_) rfl (by kernel_rfl) (by kernel_rfl) (by kernel_rfl) (fun _ _ _ h => h) (Or.inl ⟨rfl, ?hy5⟩) i2 ?_
    case hy5 => intro w' hw'; clear hw'; go_simp; first | done | rfl
    try simp only [Act.put, List.getElem_toArray, List.getElem_cons_zero, List.getElem_cons_succ, List.setIfInBounds_toArray, List.set_cons_zero, List.set_cons_succ]
    refine wpAnyH_ready (rs := [6]) (by kernel_rfl) (by simp) ?_
    refine AllReadyH.cons rfl (fun K hK => ?_) AllReadyH.nil
    rw [if_pos (by rfl)]
    refine wp_store_row 32 _ _ rfl w.heap.size #[.slice ya yn yc, .slice yl ym yk, .int .i64 yf, .bool yd] rfl rfl 32 _ M2 Try.infoDisk4 rfl (by simp [Value.oneCell']) ?_
    refine hK.out _ _ i5 (fun _ => ?_)
    clear hK K
    try simp only [Act.put, List.getElem_toArray, List.getElem_cons_zero, List.getElem_cons_succ]
    refine wpAnyH_take (i := 7) (v := ?_) rfl (by kernel_rfl) (by kernel_rfl) (by kernel_rfl) (fun _ _ _ h => h) (Or.inl ⟨rfl, ?hy7⟩) i5 ?_
    case hy7 => intro w' hw'; clear hw'; go_simp; first | done | rfl
    try simp only [Act.put, List.getElem_toArray, List.getElem_cons_zero, List.getElem_cons_succ, List.setIfInBounds_toArray, List.set_cons_zero, List.set_cons_succ]
    refine wpAnyH_done (by kernel_rfl) ?_ _
    obtain ⟨w5, hw5⟩ : ∃ W, W = w2.setRow w.heap.size #[.slice ya yn yc, .slice yl ym yk, .int .i64 yf, .bool yd] := ⟨_, rfl⟩
    rw [← hw5] at M5 D5 Z5 HS5 i5 ⊢
    have B5 := Lib.hid i5
    clear hw5 i5 i2 M2 Z2 Z1 M1 i1

    have hne : (e1 != 0) = true := by simpa using he
    have he2 : (e1 == 0) = false := by simpa using he
    have he3 : ¬ ((e1 : Int) = 0) := he
    have D6 := Lib.hid ((D5.out.put (w.heap.size + 1) HNG.out.2 #[.slice ya yn yc, .slice yl ym yk, .int .i64 yf, .bool yd]).mono (G' := fun q => G q ∨ w.heap.size ≤ q) (fun q hq => by
      rcases hq with h | h
      · exact Or.inl h
      · exact Or.inr (by omega)))
    have B7 := Lib.hid (below_setRow B5.out (show w.heap.size ≤ w.heap.size + 1 by omega) #[.slice ya yn yc, .slice yl ym yk, .int .i64 yf, .bool yd])
    clear CS HNG HS5 D5
    go_wp2_with (first | (refine wpList_load_row rfl 32 (.tmp 1) rfl w.heap.size rfl 32 _ (0, 0) _ M5.out Try.underlying32 rfl Try.infoDisk4 ?_) | (refine wpList_store_row rfl 32 (.tmp 2) (.tmp 18) rfl (w.heap.size + 1) #[.slice ya yn yc, .slice yl ym yk, .int .i64 yf, .bool yd] rfl rfl 32 _ Z5.out Try.infoDisk4 rfl (by simp [Value.oneCell']) ?_))
    refine bodyPost_ret (results_ct rfl _ _ (w.heap.size + 1) 32 #[.slice ya yn yc, .slice yl ym yk, .int .i64 yf, .bool yd] (0, 0) _ rfl (setRow_heap _ _ _ _ _ _ Z5.out) Try.underlying32 rfl Try.infoDisk4) rfl ⟨⟨_, rfl, D6.out⟩, B7.out⟩
  · skip
    go_simp
    refine (HH.out _).mono ?_
    rintro e w1 ⟨rfl, hb1⟩
    have i1 : Below w.heap.size w w1 := i0.trans (hb1.mono i0.size)
    have M1 : Has w1 w.heap.size (.cells #[.slice a N c, .slice la L lc, .int .i64 FF, .bool DD] 32) := M0'.later hb1
    have Z1 := Lib.hid (show Has w1 (w.heap.size + 1) (.cells #[.slice none 0 0, .slice none 0 0, .int .i64 0, .bool false] 32) from Has.later (w := W0.drew) Z0.out hb1)
    have HS1 : Hid (w.heap.size + 2 ≤ w1.heap.size) := by have := hb1.size; have := HS0.out; show _ ≤ _; have e : W0.drew.heap.size = W0.heap.size := rfl; omega
    clear Z0 HS0 hb1 i0 M0 B0 M0'
    dsimp only
    refine hK.out _ _ i1 (fun _ => ?_)
    clear hK K HH
    try simp only [Act.put, List.getElem_toArray, List.getElem_cons_zero, List.getElem_cons_succ, List.setIfInBounds_toArray, List.set_cons_zero, List.set_cons_succ]
    refine wpAnyH_ready (rs := [0]) (by kernel_rfl) (by simp) ?_
    refine AllReadyH.cons rfl (fun K hK => ?_) AllReadyH.nil
    rw [if_pos (by rfl)]
    refine wp_load_row 32 _ rfl w.heap.size rfl 32 #[.slice a N c, .slice la L lc, .int .i64 FF, .bool DD] (0, 0) _ M1 Try.underlying32 rfl Try.infoDisk4 ?_
    refine hK.out _ _ i1 (fun _ => ?_)
    clear hK K
    try simp only [Act.put, List.getElem_toArray, List.getElem_cons_zero, List.setIfInBounds_toArray, List.set_cons_zero, List.set_cons_succ]
    refine wpAnyH_ready (rs := [2]) (by kernel_rfl) (by simp) ?_
    refine AllReadyH.cons rfl (fun K hK => ?_) AllReadyH.nil
    go_simp
    refine (CW.out _ i1).mono ?_
    clear CW
    rintro e w2 ⟨⟨v2, rfl, hd2⟩, hb2⟩
    obtain ⟨ya, yn, yc, yl, ym, yk, yf, yd, rfl⟩ := hd2.four
    have i2 : Below w.heap.size w w2 := i1.trans (hb2.mono i1.size)
    have M2 : Has w2 w.heap.size (.cells #[.slice a N c, .slice la L lc, .int .i64 FF, .bool DD] 32) := M1.later hb2
    have Z2 := Lib.hid (Z1.out.later hb2)
    have hz2 := hb2.size
    have hzz := HS1.out
    have HNG : Hid (¬ (G w.heap.size ∨ w1.heap.size ≤ w.heap.size) ∧ ¬ (G (w.heap.size + 1) ∨ w1.heap.size ≤ w.heap.size + 1)) := ⟨by rintro (h | h); exact absurd (HGl.out _ h) (by omega); omega, by rintro (h | h); exact absurd (HGl.out _ h) (by omega); omega⟩
    have i5 : Below w.heap.size w (w2.setRow w.heap.size #[.slice ya yn yc, .slice yl ym yk, .int .i64 yf, .bool yd]) := below_setRow i2 (Nat.le_refl _) _
    have M5 := Lib.hid (show Has (w2.setRow w.heap.size #[.slice ya yn yc, .slice yl ym yk, .int .i64 yf, .bool yd]) w.heap.size (.cells #[.slice ya yn yc, .slice yl ym yk, .int .i64 yf, .bool yd] 32) from setRow_heap _ _ _ _ _ _ M2)
    have D5 := Lib.hid (hd2.put w.heap.size HNG.out.1 #[.slice ya yn yc, .slice yl ym yk, .int .i64 yf, .bool yd])
    have Z5 := Lib.hid (show Has (w2.setRow w.heap.size #[.slice ya yn yc, .slice yl ym yk, .int .i64 yf, .bool yd]) (w.heap.size + 1) (.cells #[.slice none 0 0, .slice none 0 0, .int .i64 0, .bool false] 32) from has_row Z2.out (by omega) _)
    have HS5 : Hid (w.heap.size + 2 ≤ (w2.setRow w.heap.size #[.slice ya yn yc, .slice yl ym yk, .int .i64 yf, .bool yd]).heap.size) := by show _ ≤ _; simp; omega
    clear hd2 hb2 hz2
    dsimp only
    refine hK.out _ _ i2 (fun _ => ?_)
    clear hK K
    try simp only [Act.put, List.getElem_toArray, List.getElem_cons_zero, List.getElem_cons_succ, List.setIfInBounds_toArray, List.set_cons_zero, List.set_cons_succ]
    refine wpAnyH_take (i := 3) (v := ?_) rfl (by kernel_rfl) (by kernel_rfl) (by kernel_rfl) (fun _ _ _ h => h) (Or.inl ⟨rfl, ?hy3⟩) i2 ?_
    case hy3 => intro w' hw'; clear hw'; go_simp; first | done | rfl
    try simp only [Act.put, List.getElem_toArray, List.getElem_cons_zero, List.getElem_cons_succ, List.setIfInBounds_toArray, List.set_cons_zero, List.set_cons_succ]
    refine wpAnyH_take (i := 4) (v := ?_) rfl (by kernel_rfl) (by kernel_rfl) (by kernel_rfl) (fun _ _ _ h => h) (Or.inl ⟨rfl, ?hy4⟩) i2 ?_
    case hy4 => intro w' hw'; clear hw'; go_simp; first | done | rfl
    try simp only [Act.put, List.getElem_toArray, List.getElem_cons_zero, List.getElem_cons_succ, List.setIfInBounds_toArray, List.set_cons_zero, List.set_cons_succ]
    refine wpAnyH_take (i := 5) (v := ?_) rfl (by kernel_rfl) (by kernel_rfl) (by kernel_rfl) (fun _ _ _ h => h) (Or.inl ⟨rfl, ?hy5⟩) i2 ?_
    case hy5 => intro w' hw'; clear hw'; go_simp; first | done | rfl
    try simp only [Act.put, List.getElem_toArray, List.getElem_cons_zero, List.getElem_cons_succ, List.setIfInBounds_toArray, List.set_cons_zero, List.set_cons_succ]
    refine wpAnyH_ready (rs := [6]) (by kernel_rfl) (by simp) ?_
    refine AllReadyH.cons rfl (fun K hK => ?_) AllReadyH.nil
    rw [if_pos (by rfl)]
    refine wp_store_row 32 _ _ rfl w.heap.size #[.slice ya yn yc, .slice yl ym yk, .int .i64 yf, .bool yd] rfl rfl 32 _ M2 Try.infoDisk4 rfl (by simp [Value.oneCell']) ?_
    refine hK.out _ _ i5 (fun _ => ?_)
    clear hK K
    try simp only [Act.put, List.getElem_toArray, List.getElem_cons_zero, List.getElem_cons_succ]
    refine wpAnyH_take (i := 7) (v := ?_) rfl (by kernel_rfl) (by kernel_rfl) (by kernel_rfl) (fun _ _ _ h => h) (Or.inl ⟨rfl, ?hy7⟩) i5 ?_
    case hy7 => intro w' hw'; clear hw'; go_simp; first | done | rfl
    try simp only [Act.put, List.getElem_toArray, List.getElem_cons_zero, List.getElem_cons_succ, List.setIfInBounds_toArray, List.set_cons_zero, List.set_cons_succ]
    refine wpAnyH_done (by kernel_rfl) ?_ _
    obtain ⟨w5, hw5⟩ : ∃ W, W = w2.setRow w.heap.size #[.slice ya yn yc, .slice yl ym yk, .int .i64 yf, .bool yd] := ⟨_, rfl⟩
    rw [← hw5] at M5 D5 Z5 HS5 i5 ⊢
    have B5 := Lib.hid i5
    clear hw5 i5 i2 M2 Z2 Z1 M1 i1

    have hne : (e1 != 0) = true := by simpa using he
    have he2 : (e1 == 0) = false := by simpa using he
    have he3 : ¬ ((e1 : Int) = 0) := he
    have D6 := Lib.hid ((D5.out.put (w.heap.size + 1) HNG.out.2 #[.slice ya yn yc, .slice yl ym yk, .int .i64 yf, .bool yd]).mono (G' := fun q => G q ∨ w.heap.size ≤ q) (fun q hq => by
      rcases hq with h | h
      · exact Or.inl h
      · exact Or.inr (by omega)))
    have B7 := Lib.hid (below_setRow B5.out (show w.heap.size ≤ w.heap.size + 1 by omega) #[.slice ya yn yc, .slice yl ym yk, .int .i64 yf, .bool yd])
    clear CS HNG HS5 D5
    go_wp2_with (first | (refine wpList_load_row rfl 32 (.tmp 1) rfl w.heap.size rfl 32 _ (0, 0) _ M5.out Try.underlying32 rfl Try.infoDisk4 ?_) | (refine wpList_store_row rfl 32 (.tmp 2) (.tmp 18) rfl (w.heap.size + 1) #[.slice ya yn yc, .slice yl ym yk, .int .i64 yf, .bool yd] rfl rfl 32 _ Z5.out Try.infoDisk4 rfl (by simp [Value.oneCell']) ?_))
    refine bodyPost_ret (results_ct rfl _ _ (w.heap.size + 1) 32 #[.slice ya yn yc, .slice yl ym yk, .int .i64 yf, .bool yd] (0, 0) _ rfl (setRow_heap _ _ _ _ _ _ Z5.out) Try.underlying32 rfl Try.infoDisk4) rfl ⟨⟨_, rfl, D6.out⟩, B7.out⟩

theorem rformat_any (w : World) (G : Nat → Prop) (v : Value) (d : Ek.Dk) (h : DDk w G v d) (hu : d.used < 900000) :
    Calls Try.prog 11 #[v] w (RdP w G (Sk.format d) (Sk.formatE d)) := by
  have h' := h.lo
  obtain ⟨a, la, c, lc, rfl, _⟩ := id h
  unfold dv at h h' ⊢
  by_cases hN : d.n < 3
  · have e1 : Sk.format d = d := by unfold Sk.format; rw [if_pos hN]
    have e2 : Sk.formatE d = 7 := by unfold Sk.formatE; rw [if_pos hN]
    rw [e1, e2]
    exact (rformat_few a la d.n c _ lc _ _ hN w).mono fun e w' hp => ⟨⟨_, hp.1, (h.later hp.2).mono (fun _ => Or.inl)⟩, hp.2⟩
  · have e1 : Sk.format d = if Ek.writeE d 0 (Sk.header ⟨0, 0, 0, 0⟩) = 0 then Ek.sync (Ek.write d 0 (Sk.header ⟨0, 0, 0, 0⟩)) else Ek.write d 0 (Sk.header ⟨0, 0, 0, 0⟩) := by
      unfold Sk.format; rw [if_neg hN]; simp only [Sk.shut, Sk.runs, Sk.one, Sk.oneE]; by_cases h2 : Ek.changeE (Ek.write d 0 (Sk.header ⟨0, 0, 0, 0⟩)) = 0 <;> simp [h2]
    have e2 : Sk.formatE d = if Ek.writeE d 0 (Sk.header ⟨0, 0, 0, 0⟩) = 0 then Ek.changeE (Ek.write d 0 (Sk.header ⟨0, 0, 0, 0⟩)) else Ek.writeE d 0 (Sk.header ⟨0, 0, 0, 0⟩) := by
      unfold Sk.formatE; rw [if_neg hN]; simp only [Sk.shut, Sk.runsE, Sk.one, Sk.oneE]; by_cases h2 : Ek.changeE (Ek.write d 0 (Sk.header ⟨0, 0, 0, 0⟩)) = 0 <;> simp [h2]
    rw [e1, e2]
    have key : Calls Try.prog 11 #[.agg #[.slice a d.n c, .slice la d.loose.length lc, .int .i64 d.left, .bool d.dark]] w (RdP w (fun q => G q ∧ q < w.heap.size) (if Ek.writeE d 0 (Sk.header ⟨0, 0, 0, 0⟩) = 0 then Ek.sync (Ek.write d 0 (Sk.header ⟨0, 0, 0, 0⟩)) else Ek.write d 0 (Sk.header ⟨0, 0, 0, 0⟩)) (if Ek.writeE d 0 (Sk.header ⟨0, 0, 0, 0⟩) = 0 then Ek.changeE (Ek.write d 0 (Sk.header ⟨0, 0, 0, 0⟩)) else Ek.writeE d 0 (Sk.header ⟨0, 0, 0, 0⟩))) := by
      by_cases he : Ek.writeE d 0 (Sk.header ⟨0, 0, 0, 0⟩) = 0
      · rw [if_pos he, if_pos he]
        exact rformat_good w _ a la d.n c _ lc _ _ d hN h' (fun k hk => hk.2) hu _ rfl he
      · rw [if_neg he, if_neg he]
        exact rformat_fell w _ a la d.n c _ lc _ _ d hN h' (fun k hk => hk.2) hu _ rfl he
    refine key.mono fun e w' hp => ?_
    obtain ⟨⟨v', he, hd⟩, hb⟩ := hp
    exact ⟨⟨v', he, hd.mono (fun q hq => hq.imp And.left id)⟩, hb⟩
end Go.Proofs.Ythbiibinmofmfaa
