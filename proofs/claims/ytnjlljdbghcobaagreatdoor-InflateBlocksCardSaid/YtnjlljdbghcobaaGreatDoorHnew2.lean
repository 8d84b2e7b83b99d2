/- Contract of huff.New. -/
import Derived.Test.YtnjlljdbghcobaaGreatDoorHround

namespace Go.Proofs.YtnjlljdbghcobaaGreatDoor
set_option maxRecDepth 100000
open Go.RowKit Go.Shelf

attribute [local go_sem] Oper.semAt_some

/-- What New says. -/
def newE (zs : List Int) : Int := if chk zs = 12 ∧ Lone (nat zs) then 0 else chk zs

/-- Where there is no table. -/
def NoTab (w : World) (c : Int) (e : Ending) (w' : World) : Prop := e = .returned (.tuple #[.pointer none, .int .i64 c]) ∧ Below w.heap.size w w'

set_option maxHeartbeats 1000000 in
theorem new_no (zs : List Int) (s : Value) (w : World) (hz : Zl w s zs) (hf : newE zs ≠ 0) : Calls Tryz.prog 158 #[s] w (NoTab w (newE zs)) := by
  have HC := check_any zs s w hz
  by_cases h12 : chk zs = 12
  · have hl : ¬ Lone (nat zs) := fun h => hf (if_pos ⟨h12, h⟩)
    have e : newE zs = 12 := by unfold newE; rw [if_neg (fun h => hl h.2), h12]
    have hv : Valid zs := Fit.valid (Or.inr h12)
    rw [e]
    rw [h12] at HC
    have HL : Hid (∀ w', Below w.heap.size w w' → Calls Tryz.prog 190 #[s] w' fun e w'' => e = .returned (.bool false) ∧ Below w'.heap.size w' w'') := fun w' hb => by
      have := lone_any zs s w' (hz.later hb) hv
      rw [decide_eq_false hl] at this; exact this
    obtain ⟨a, len, cap, rfl, hl'⟩ := hz.shape
    clear hz hf h12 hl e hv hl'
    go_enter Tryz.func158, Tryz.ntmps158
    go_wp2_with fail
    refine HC.mono ?_
    clear HC
    rintro e w1 ⟨rfl, hb⟩
    have HB := Lib.hid hb
    clear hb
    go_wp2_with fail
    refine (HL.out _ HB.out).mono ?_
    rintro e w2 ⟨rfl, hb⟩
    have HB2 := Lib.hid (HB.out.trans (hb.mono HB.out.size))
    clear hb
    go_wp2
    go_ret2
    exact ⟨rfl, HB2.out⟩
  · have e : newE zs = chk zs := by unfold newE; rw [if_neg (fun h => h12 h.1)]
    rw [e] at hf ⊢
    generalize chk zs = c at HC hf h12 ⊢
    have h1 : (c == 12) = false := by rw [beq_eq_false_iff_ne]; exact h12
    have h2 : (c != 0) = true := by rw [bne_iff_ne]; exact hf
    obtain ⟨a, len, cap, rfl, hl'⟩ := hz.shape
    clear hz hf h12 e hl'
    go_enter Tryz.func158, Tryz.ntmps158
    go_wp2_with fail
    refine HC.mono ?_
    clear HC
    rintro e w1 ⟨rfl, hb⟩
    have HB := Lib.hid hb
    clear hb
    go_wp2
    go_ret2
    exact ⟨rfl, HB.out⟩

/-- How many of a list have a length. -/
def cnt (ps : List (Nat × Nat)) (l : Nat) : Nat := (ps.filter fun p => p.2 == l).length
/-- A table of lengths: so many codes of each length, and the symbols in the order of their codes. -/
structure Tab (lo : Nat) (w : World) (T : Nat) (ls : List Nat) : Prop where
  le : lo ≤ T
  counts : Rw w T 16 (cnt (usedTo ls ls.length))
  syms : ∃ sv, w.cell? ⟨T, 16, none⟩ = some sv ∧ Il lo w sv (Hf.ordl ls)

theorem cnt_le (ps : List (Nat × Nat)) (l : Nat) : cnt ps l ≤ ps.length := List.length_filter_le _ _
theorem cnt_snoc (ps : List (Nat × Nat)) (p : Nat × Nat) (l : Nat) : cnt (ps ++ [p]) l = cnt ps l + (if l = p.2 then 1 else 0) := by
  unfold cnt
  rw [List.filter_append, List.length_append]
  by_cases h : l = p.2
  · rw [if_pos h]; simp [h]
  · rw [if_neg h]; simp [Ne.symm h]

/-- The slice is nil, or owns a block between lo and hi that reads xs. -/
def SyI (lo hi : Nat) (W : World) (sv : Value) (xs : List Nat) : Prop :=
  (sv = .slice none 0 0 ∧ xs = []) ∨ ∃ g cap, sv = .slice (some ⟨g, 0, none⟩) xs.length cap ∧ xs.length ≤ cap ∧ lo ≤ g ∧ g < hi ∧ Rw W g xs.length (fun i => xs[i]?.getD 0)
theorem il_of_syi {lo hi : Nat} {W : World} {sv : Value} {xs : List Nat} (h : SyI lo hi W sv xs) : Il lo W sv xs := by
  rcases h with h | ⟨g, cap, h1, h2, h3, _, h5⟩
  · exact Or.inl h
  · exact Or.inr ⟨g, cap, h1, h2, h3, h5⟩
theorem syi_of {lo lo' : Nat} {W : World} {sv : Value} {xs : List Nat} (h : Il lo W sv xs) (hl : lo' ≤ lo) : SyI lo' W.heap.size W sv xs := by
  rcases h with h | ⟨g, cap, h1, h2, h3, h5⟩
  · exact Or.inl h
  · exact Or.inr ⟨g, cap, h1, h2, by omega, h5.lt, h5⟩
theorem syi_below {lo hi : Nat} {W W' : World} {sv : Value} {xs : List Nat} (h : SyI lo hi W sv xs) (hb : Below hi W W') : SyI lo hi W' sv xs := by
  rcases h with h | ⟨g, cap, h1, h2, h3, h4, h5⟩
  · exact Or.inl h
  · exact Or.inr ⟨g, cap, h1, h2, h3, h4, h5.same (hb.block g h4) (Nat.lt_of_lt_of_le h5.lt hb.size)⟩
theorem syi_kept {lo hi : Nat} {W W' : World} {sv : Value} {xs : List Nat} {row : Option Nat} (h : SyI lo hi W sv xs) (hg : W.grownBy W' row) (hr : ∀ r, row = some r → ∃ o : Obj, W.heap[r]? = some o ∧ o.isCells = false) : SyI lo hi W' sv xs := by
  rcases h with h | ⟨g, cap, h1, h2, h3, h4, h5⟩
  · exact Or.inl h
  · exact Or.inr ⟨g, cap, h1, h2, h3, h4, row_kept h5 hg hr⟩

theorem new_step {w W : World} {T no cap3 : Nat} {a3 : Option Addr} {xs : List Nat} {ps : List (Nat × Nat)} (hr : Rw W T 16 (cnt ps)) (hc16 : W.cell? ⟨T, 16, none⟩ = some (.slice a3 no cap3)) (hcB : W.cell? ⟨T + 1, 0, none⟩ = some (.pointer (some ⟨T, 0, none⟩)))
    (hsy : SyI w.heap.size T W (.slice a3 no cap3) xs) (hB : Below w.heap.size w W) (x : Nat × Nat) (hx : x.2 ≤ 15) (hT : w.heap.size ≤ T) :
    (Rw ((W.setCell ⟨T, x.2, none⟩ (.int .i64 ((cnt ps x.2 : Nat) + 1 : Int))).drew) T 16 (cnt (ps ++ [x])) ∧ ((W.setCell ⟨T, x.2, none⟩ (.int .i64 ((cnt ps x.2 : Nat) + 1 : Int))).drew).cell? ⟨T, 16, none⟩ = some (.slice a3 no cap3) ∧
      ((W.setCell ⟨T, x.2, none⟩ (.int .i64 ((cnt ps x.2 : Nat) + 1 : Int))).drew).cell? ⟨T + 1, 0, none⟩ = some (.pointer (some ⟨T, 0, none⟩)) ∧ SyI w.heap.size T ((W.setCell ⟨T, x.2, none⟩ (.int .i64 ((cnt ps x.2 : Nat) + 1 : Int))).drew) (.slice a3 no cap3) xs) ∧ Below w.heap.size w ((W.setCell ⟨T, x.2, none⟩ (.int .i64 ((cnt ps x.2 : Nat) + 1 : Int))).drew) := by
  refine ⟨⟨?_, ?_, ?_, ?_⟩, (hB.setCell (p := ⟨T, x.2, none⟩) hT _).drew⟩
  · have h := (row_set (d' := cnt (ps ++ [x])) hr x.2 (cnt ps x.2 + 1) (by omega) fun i hi => ?_).drewN 1
    · rw [Int.natCast_add] at h; exact h
    · rw [cnt_snoc]
      by_cases e : i = x.2
      · rw [if_pos e, if_pos e, e]
      · rw [if_neg e, if_neg e]; rfl
  · show (W.setCell ⟨T, x.2, none⟩ _).cell? _ = _
    rw [World.cell?_setCell_other _ _ _ _ (addr_ne T (by omega))]; exact hc16
  · show (W.setCell ⟨T, x.2, none⟩ _).cell? _ = _
    rw [World.cell?_setCell_other _ _ _ _ (fun e => by cases e)]; exact hcB
  · exact syi_below hsy ⟨rfl, rfl, rfl, by show _ ≤ (W.setCell _ _).heap.size; simp, fun k hk => Below.heap_setCell W ⟨T, x.2, none⟩ _ k (by show k ≠ T; omega)⟩

theorem new_world (w3 : World) (a3 : Option Addr) (no cap3 : Nat) (a : Option Addr) (len cap : Nat) (w4 : World)
    (hw : w4 = ((w3.alloc (.cells #[Value.int .i64 0, Value.int .i64 0, Value.int .i64 0, Value.int .i64 0, Value.int .i64 0, Value.int .i64 0, Value.int .i64 0, Value.int .i64 0, Value.int .i64 0, Value.int .i64 0, Value.int .i64 0, Value.int .i64 0, Value.int .i64 0, Value.int .i64 0, Value.int .i64 0, Value.int .i64 0, Value.slice a3 no cap3] 258)).alloc (.cells #[Value.pointer (some ⟨w3.heap.size, 0, none⟩)] 62)).alloc (.cells #[Value.slice a len cap] 33)) :
    Rw w4 w3.heap.size 16 (cnt (([] : List Us).map Subtype.val)) ∧ w4.cell? ⟨w3.heap.size, 16, none⟩ = some (.slice a3 no cap3) ∧ w4.cell? ⟨w3.heap.size + 1, 0, none⟩ = some (.pointer (some ⟨w3.heap.size, 0, none⟩)) ∧ w4.cell? ⟨w3.heap.size + 1 + 1, 0, none⟩ = some (.slice a len cap) ∧
      Below w3.heap.size w3 w4 ∧ w4.heap.size = w3.heap.size + 3 := by
  subst hw
  obtain ⟨h1, h2, h3, h4, h5⟩ := facts3 (Below.refl _ (((w3.alloc (.cells #[Value.int .i64 0, Value.int .i64 0, Value.int .i64 0, Value.int .i64 0, Value.int .i64 0, Value.int .i64 0, Value.int .i64 0, Value.int .i64 0, Value.int .i64 0, Value.int .i64 0, Value.int .i64 0, Value.int .i64 0, Value.int .i64 0, Value.int .i64 0, Value.int .i64 0, Value.int .i64 0, Value.slice a3 no cap3] 258)).alloc (.cells #[Value.pointer (some ⟨w3.heap.size, 0, none⟩)] 62)).alloc (.cells #[Value.slice a len cap] 33)))
  refine ⟨⟨h1.lt, fun i hi => ?_, fun i _ => h1.free i⟩, by rw [h1.cell]; rfl, h2.one.1, h3.one.1, h4, by simp⟩
  rw [h1.cell]
  have e : cnt (([] : List Us).map Subtype.val) i = 0 := rfl
  rw [e]
  have : i = 0 ∨ i = 1 ∨ i = 2 ∨ i = 3 ∨ i = 4 ∨ i = 5 ∨ i = 6 ∨ i = 7 ∨ i = 8 ∨ i = 9 ∨ i = 10 ∨ i = 11 ∨ i = 12 ∨ i = 13 ∨ i = 14 ∨ i = 15 := by omega
  rcases this with rfl | rfl | rfl | rfl | rfl | rfl | rfl | rfl | rfl | rfl | rfl | rfl | rfl | rfl | rfl | rfl <;> rfl

set_option maxRecDepth 100000 in
set_option maxHeartbeats 4000000 in
theorem new_in (n : Nat) (hn : 3 ≤ n) (zs : List Int) (s : Value) (w : World) (hz : Zl w s zs) (hf : newE zs = 0) : CallsIn Fence.wide n Tryz.prog 158 #[s] w (fun e w' => ∃ T, e = .returned (.tuple #[.pointer (some ⟨T, 0, none⟩), .int .i64 0]) ∧ Tab w.heap.size w' T (nat zs) ∧ Below w.heap.size w w') := by
  have h1 : 1 ≤ n := by omega
  have HC := check_any zs s w hz
  have hcase : chk zs = 0 ∨ (chk zs = 12 ∧ Lone (nat zs)) := by
    unfold newE at hf
    by_cases h : chk zs = 12 ∧ Lone (nat zs)
    · exact Or.inr h
    · rw [if_neg h] at hf; exact Or.inl hf
  have hv : Valid zs := by
    rcases hcase with h | h
    · exact Fit.valid (Or.inl h)
    · exact Fit.valid (Or.inr h.1)
  have HL := Lib.hid (hv.lsl hz (Nat.le_refl _))
  have HV := Lib.hid hv
  have HLO : Hid (∀ w', Below w.heap.size w w' → Calls Tryz.prog 190 #[s] w' fun e w'' => e = .returned (.bool (decide (Lone (nat zs)))) ∧ Below w'.heap.size w' w'') := fun w' hb => lone_any zs s w' (hz.later hb) hv
  have HOR : Hid (∀ w', Below w.heap.size w w' → Calls Tryz.prog 191 #[s] w' (OrdPost w' (nat zs))) := fun w' hb => ordered_any s (nat zs) w' (hv.lsl (hz.later hb) (Nat.le_refl _)) (fun i hi => hv.le i hi)
  obtain ⟨a, len, cap, rfl, hl⟩ := hz.shape
  have hl2 : len ≤ 288 := by have := hv.2.1; omega
  clear hz hf hl hv
  refine callsIn_of_wp_marks Tryz.func158 rfl trivial ?_ rfl
  simp only [Tryz.ntmps158, List.size_toArray, List.length_cons, List.length_nil, Nat.reduceAdd, Nat.reduceSub, Array.replicate_succ, Array.replicate_zero, List.push_toArray, List.append_toArray, List.nil_append, List.cons_append]
  rcases hcase with h | ⟨h, hlo⟩
  · rw [h] at HC
    clear h
    gi_wp2_with (refine ⟨trivial, ?_⟩; gi_at_call 173; refine (callsIn_wide.2 HC).mono ?_; rintro e w1 ⟨rfl, hb1⟩)
    have hbO := hb1
    clear HC HLO
    refine ⟨trivial, ?_⟩
    gi_wp2_with fail
    refine ⟨trivial, ?_⟩
    refine (callsIn_wide.2 (HOR.out _ hbO)).mono ?_
    rintro e w3 ⟨v, rfl, hi, hb3⟩
    obtain ⟨a3, cap3, rfl, _⟩ := il_shape hi
    obtain ⟨no, hno⟩ : ∃ no, no = (Hf.ordl (nat zs)).length := ⟨_, rfl⟩
    have hno3 : no ≤ 288 := by have := Hf.ordl_length_le (nat zs); obtain ⟨_, _, _, _, _, h288, _⟩ := HL.out; omega
    rw [← hno] at hi ⊢
    have HI := Lib.hid (syi_of hi hbO.size)
    have HB3 := Lib.hid (hbO.trans (hb3.mono hbO.size))
    clear hi hb3 hbO hno
    gi_wp2_with (refine ⟨trivial, ?_⟩; gi_at_call 192; refine (used_in (n - 1) _ _ _ _ rfl _).mono ?_; rintro e w' ⟨rfl, rfl⟩)
    obtain ⟨w4, hw4⟩ : ∃ w4, w4 = ((w3.alloc (.cells #[Value.int .i64 0, Value.int .i64 0, Value.int .i64 0, Value.int .i64 0, Value.int .i64 0, Value.int .i64 0, Value.int .i64 0, Value.int .i64 0, Value.int .i64 0, Value.int .i64 0, Value.int .i64 0, Value.int .i64 0, Value.int .i64 0, Value.int .i64 0, Value.int .i64 0, Value.int .i64 0, Value.slice a3 no cap3] 258)).alloc (.cells #[Value.pointer (some ⟨w3.heap.size, 0, none⟩)] 62)).alloc (.cells #[Value.slice a len cap] 33) := ⟨_, rfl⟩
    obtain ⟨F1, F2, F3, F4, F5, F6⟩ := new_world w3 a3 no cap3 a len cap w4 hw4
    rw [← hw4]
    clear hw4
    have hsz3 := HB3.out.size
    have hB4 : Below w.heap.size w w4 := HB3.out.trans (F5.mono hsz3)
    have hLs : Lsl w.heap.size w4 (.slice a len cap) (nat zs) := HL.out.below hB4
    have hI4 := syi_below HI.out F5
    refine wpIn_rangeFunc_ownG rfl h1 (gf := 211) (lb := #[.pointer (some ⟨w3.heap.size + 1 + 1, 0, none⟩)]) rfl trivial (enters_of Tryz.func211 (by kernel_rfl) rfl)
      (used2_stops (n - 1) (by omega) (w3.heap.size + 1 + 1) w.heap.size _ (nat zs) (fun i hi => HV.out.le i hi) w4 (by omega) (by omega) F4 hLs) belowK_t (belowK_b (by omega)) (Below.refl _ _) (fun _ => rfl)
      (fun pre W => (Rw W w3.heap.size 16 (cnt (pre.map Subtype.val)) ∧ W.cell? ⟨w3.heap.size, 16, none⟩ = some (.slice a3 no cap3) ∧ W.cell? ⟨w3.heap.size + 1, 0, none⟩ = some (.pointer (some ⟨w3.heap.size, 0, none⟩)) ∧ SyI w.heap.size w3.heap.size W (.slice a3 no cap3) (Hf.ordl (nat zs))) ∧ Below w.heap.size w W)
      (fun _ _ _ => False)
      (OwnFrom.and (Own.from (fun s A B row hs hg hr => ⟨row_kept hs.1 hg hr, cell_kept hs.2.1 hg hr, cell_kept hs.2.2.1 hg hr, syi_kept hs.2.2.2 hg hr⟩) _) (ownFrom_below (Nat.le_refl _) (by omega)))
      (fun _ _ _ _ _ hs _ _ => hs)
      ⟨⟨F1, F2, F3, hI4⟩, hB4⟩
      (fun x => { tmps := #[.slice a len cap, undef, .pointer none, .int .i64 0, .int .i64 0, .pointer (some ⟨w3.heap.size + 1, 0, none⟩), undef, .int .i64 (x.1.2 : Int), .slice a len cap, .int .i64 0, .int .i64 0, .bool false, .bool false, undef, undef, .bool false, .int .i64 0, .bool false, undef, .slice a len cap, .slice a3 no cap3,
        .agg #[Value.int .i64 0, Value.int .i64 0, Value.int .i64 0, Value.int .i64 0, Value.int .i64 0, Value.int .i64 0, Value.int .i64 0, Value.int .i64 0, Value.int .i64 0, Value.int .i64 0, Value.int .i64 0, Value.int .i64 0, Value.int .i64 0, Value.int .i64 0, Value.int .i64 0, Value.int .i64 0, Value.slice a3 no cap3],
        .pointer (some ⟨w3.heap.size, 0, none⟩), .slice a len cap, .func (.func 211) #[] #[.pointer (some ⟨w3.heap.size + 1 + 1, 0, none⟩)], .int .i64 (x.1.1 : Int), .int .i64 (x.1.2 : Int), undef, undef, undef, undef, undef, undef, undef, undef, undef, undef, undef], defers := [] }) ?assign ?body ?done ?stop
    case assign =>
      intro l x W K hK
      gi_wp2
      exact hK
    case body =>
      rintro l pre x W ⟨⟨hr, hc16, hcB, hsy⟩, hB⟩ hlt
      have hx := x.2
      have st := new_step hr hc16 hcB hsy hB x.1 hx hsz3
      have ST := Lib.hid st
      have hcx := hr.cell x.1.2 (by omega)
      have hfx := hr.free x.1.2 (by omega)
      have hcn : cnt (pre.map Subtype.val) x.1.2 ≤ 288 := by
        have e1 := cnt_le (pre.map Subtype.val) x.1.2
        rw [List.length_map] at e1
        obtain ⟨_, _, _, _, _, h288, _⟩ := HL.out
        omega
      obtain ⟨y, hy⟩ : ∃ y, y = x.1.2 := ⟨_, rfl⟩
      obtain ⟨q, hq⟩ : ∃ q, q = x.1.1 := ⟨_, rfl⟩
      obtain ⟨c, hc⟩ : ∃ c, c = cnt (pre.map Subtype.val) x.1.2 := ⟨_, rfl⟩
      rw [← hc] at hcx hcn ST
      rw [← hy] at hx hcx hfx ST ⊢
      rw [← hq]
      have hy16 : (y : Int) < 16 := by omega
      have hmx : Tryz.prog.follows .mixedOrders = true := by kernel_rfl
      have hd1 : 1 ≤ n - 1 - 1 := by omega
      clear st hr hsy hc16 hy hq hc
      gi_wp2
      refine wpIn_region_any hmx ?_
      change wpAnyIn _ _ _ _ _ _ _ _ _ (World.drew _)
      refine wpAny_round l (by kernel_rfl) _ _ _ _ ?_
      refine wpAnyIn_take (i := 1) (v := ?_) rfl rfl (by kernel_rfl) (by kernel_rfl) (by kernel_rfl) (fun _ _ _ h => h) ⟨Or.inl ⟨by rfl, ?hy1_1⟩, fun _ => rfl⟩ ?_
      case hy1_1 => intro w; go_simp; first | done | rfl | (rw [if_pos hy16])
      refine wpAnyIn_ready (rs := [0]) (by kernel_rfl) (by simp) ?_
      refine AllReadyIn.cons rfl (fun K hK => ?_) AllReadyIn.nil
      go_simp
      refine hK _ _ ?_
      clear hK K
      refine wpAnyIn_take (i := 2) (v := ?_) rfl rfl (by kernel_rfl) (by kernel_rfl) (by kernel_rfl) (fun _ _ _ h => h) ⟨Or.inl ⟨by rfl, ?hy1_2⟩, fun _ => rfl⟩ ?_
      case hy1_2 => intro w; go_simp; first | done | rfl | (rw [if_pos hy16])
      refine wpAnyIn_take (i := 7) (v := ?_) rfl rfl (by kernel_rfl) (by kernel_rfl) (by kernel_rfl) (fun _ _ _ h => h) ⟨Or.inl ⟨by rfl, ?hy1_7⟩, fun _ => rfl⟩ ?_
      case hy1_7 => intro w; go_simp; first | done | rfl | (rw [if_pos hy16])
      refine wpAnyIn_take (i := 3) (v := ?_) rfl rfl (by kernel_rfl) (by kernel_rfl) (by kernel_rfl) (fun _ _ _ h => h) ⟨Or.inl ⟨by rfl, ?hy1_3⟩, fun _ => rfl⟩ ?_
      case hy1_3 => intro w; go_simp; first | done | rfl | (rw [if_pos hy16])
      refine wpAnyIn_take (i := 8) (v := ?_) rfl rfl (by kernel_rfl) (by kernel_rfl) (by kernel_rfl) (fun _ _ _ h => h) ⟨Or.inl ⟨by rfl, ?hy1_8⟩, fun _ => rfl⟩ ?_
      case hy1_8 => intro w; go_simp; first | done | rfl | (rw [if_pos hy16])
      refine wpAnyIn_take (i := 4) (v := ?_) rfl rfl (by kernel_rfl) (by kernel_rfl) (by kernel_rfl) (fun _ _ _ h => h) ⟨Or.inl ⟨by rfl, ?hy1_4⟩, fun _ => rfl⟩ ?_
      case hy1_4 => intro w; go_simp; first | done | rfl | (rw [if_pos hy16])
      refine wpAnyIn_ready (rs := [5]) (by kernel_rfl) (by simp) ?_
      refine AllReadyIn.cons rfl (fun K hK => ?_) AllReadyIn.nil
      go_simp
      refine hK _ _ ?_
      clear hK K
      refine wpAnyIn_take (i := 6) (v := ?_) rfl rfl (by kernel_rfl) (by kernel_rfl) (by kernel_rfl) (fun _ _ _ h => h) ⟨Or.inl ⟨by rfl, ?hy1_6⟩, fun _ => rfl⟩ ?_
      case hy1_6 => intro w; go_simp; first | done | rfl | (rw [if_pos hy16])
      refine wpAnyIn_take (i := 9) (v := ?_) rfl rfl (by kernel_rfl) (by kernel_rfl) (by kernel_rfl) (fun _ _ _ h => h) ⟨Or.inl ⟨by rfl, ?hy1_9⟩, fun _ => rfl⟩ ?_
      case hy1_9 => intro w; go_simp; first | done | rfl | (rw [if_pos hy16])
      refine wpAnyIn_ready (rs := [10]) (by kernel_rfl) (by simp) ?_
      refine AllReadyIn.cons rfl (fun K hK => ?_) AllReadyIn.nil
      go_simp
      refine hK _ _ ?_
      clear hK K
      refine wpAnyIn_done (by kernel_rfl) ?_ _
      have hwc : IntKind.i64.wrap ((c : Int) + 1) = (c : Int) + 1 := IntWalk.i64_in _ (by omega)
      rw [hwc]
      have ST2 := ST.out
      rw [show List.map Subtype.val pre ++ [x.1] = List.map Subtype.val (pre ++ [x]) by simp] at ST2
      exact ⟨((KeepsOthers.setCell _ _ _).trans (KeepsOthers.drew _)).from _, ((Below.refl w.heap.size W).setCell (p := ⟨w3.heap.size, y, none⟩) hsz3 _).drew, ST2⟩
    case done =>
      rintro D ys W hD hT ⟨⟨hr, hc16, hcB, hsy⟩, hB⟩ hK
      gi_wp2
      have hDW := (Array.getElem?_eq_some_iff.1 hK).1
      refine ⟨by simp, .inl ⟨_, _, rfl, run_takeDeferred hK, ?_⟩⟩
      refine ⟨.tuple #[.pointer (some ⟨w3.heap.size, 0, none⟩), .int .i64 0], by simp [results, Tryz.f158, go_sem], ?_⟩
      have hgr := grownBy_putObj' W D (.deferred none)
      have hrr : ∀ r, some D = some r → ∃ o : Obj, W.heap[r]? = some o ∧ o.isCells = false := fun r e => by cases e; exact ⟨_, hK, rfl⟩
      refine ⟨_, rfl, ⟨hsz3, ?_, _, cell_kept hc16 hgr hrr, il_of_syi (syi_kept hsy hgr hrr)⟩, hB.trans ((Below.refl w.heap.size W).grown hgr (by omega) (fun k e => by cases e; omega))⟩
      have := row_kept hr hgr hrr
      rw [hT] at this
      exact this
    case stop =>
      rintro D c pre W _ _ h _
      exact h.elim
  · rw [h] at HC
    rw [decide_eq_true hlo] at HLO
    clear h hlo
    gi_wp2_with (first | (refine ⟨trivial, ?_⟩; gi_at_call 173; refine (callsIn_wide.2 HC).mono ?_; rintro e w1 ⟨rfl, hb1⟩) | (refine ⟨trivial, ?_⟩; gi_at_call 190; refine (callsIn_wide.2 (HLO.out _ hb1)).mono ?_; rintro e w2 ⟨rfl, hb2⟩))
    have hbO := hb1.trans (hb2.mono hb1.size)
    clear HC HLO
    refine ⟨trivial, ?_⟩
    refine (callsIn_wide.2 (HOR.out _ hbO)).mono ?_
    rintro e w3 ⟨v, rfl, hi, hb3⟩
    obtain ⟨a3, cap3, rfl, _⟩ := il_shape hi
    obtain ⟨no, hno⟩ : ∃ no, no = (Hf.ordl (nat zs)).length := ⟨_, rfl⟩
    have hno3 : no ≤ 288 := by have := Hf.ordl_length_le (nat zs); obtain ⟨_, _, _, _, _, h288, _⟩ := HL.out; omega
    rw [← hno] at hi ⊢
    have HI := Lib.hid (syi_of hi hbO.size)
    have HB3 := Lib.hid (hbO.trans (hb3.mono hbO.size))
    clear hi hb3 hbO hno
    gi_wp2_with (refine ⟨trivial, ?_⟩; gi_at_call 192; refine (used_in (n - 1) _ _ _ _ rfl _).mono ?_; rintro e w' ⟨rfl, rfl⟩)
    obtain ⟨w4, hw4⟩ : ∃ w4, w4 = ((w3.alloc (.cells #[Value.int .i64 0, Value.int .i64 0, Value.int .i64 0, Value.int .i64 0, Value.int .i64 0, Value.int .i64 0, Value.int .i64 0, Value.int .i64 0, Value.int .i64 0, Value.int .i64 0, Value.int .i64 0, Value.int .i64 0, Value.int .i64 0, Value.int .i64 0, Value.int .i64 0, Value.int .i64 0, Value.slice a3 no cap3] 258)).alloc (.cells #[Value.pointer (some ⟨w3.heap.size, 0, none⟩)] 62)).alloc (.cells #[Value.slice a len cap] 33) := ⟨_, rfl⟩
    obtain ⟨F1, F2, F3, F4, F5, F6⟩ := new_world w3 a3 no cap3 a len cap w4 hw4
    rw [← hw4]
    clear hw4
    have hsz3 := HB3.out.size
    have hB4 : Below w.heap.size w w4 := HB3.out.trans (F5.mono hsz3)
    have hLs : Lsl w.heap.size w4 (.slice a len cap) (nat zs) := HL.out.below hB4
    have hI4 := syi_below HI.out F5
    refine wpIn_rangeFunc_ownG rfl h1 (gf := 211) (lb := #[.pointer (some ⟨w3.heap.size + 1 + 1, 0, none⟩)]) rfl trivial (enters_of Tryz.func211 (by kernel_rfl) rfl)
      (used2_stops (n - 1) (by omega) (w3.heap.size + 1 + 1) w.heap.size _ (nat zs) (fun i hi => HV.out.le i hi) w4 (by omega) (by omega) F4 hLs) belowK_t (belowK_b (by omega)) (Below.refl _ _) (fun _ => rfl)
      (fun pre W => (Rw W w3.heap.size 16 (cnt (pre.map Subtype.val)) ∧ W.cell? ⟨w3.heap.size, 16, none⟩ = some (.slice a3 no cap3) ∧ W.cell? ⟨w3.heap.size + 1, 0, none⟩ = some (.pointer (some ⟨w3.heap.size, 0, none⟩)) ∧ SyI w.heap.size w3.heap.size W (.slice a3 no cap3) (Hf.ordl (nat zs))) ∧ Below w.heap.size w W)
      (fun _ _ _ => False)
      (OwnFrom.and (Own.from (fun s A B row hs hg hr => ⟨row_kept hs.1 hg hr, cell_kept hs.2.1 hg hr, cell_kept hs.2.2.1 hg hr, syi_kept hs.2.2.2 hg hr⟩) _) (ownFrom_below (Nat.le_refl _) (by omega)))
      (fun _ _ _ _ _ hs _ _ => hs)
      ⟨⟨F1, F2, F3, hI4⟩, hB4⟩
      (fun x => { tmps := #[.slice a len cap, undef, .pointer none, .int .i64 0, .int .i64 0, .pointer (some ⟨w3.heap.size + 1, 0, none⟩), undef, .int .i64 (x.1.2 : Int), .slice a len cap, .int .i64 12, .int .i64 12, .bool true, .bool true, .slice a len cap, .bool true, .bool true, .int .i64 0, .bool false, undef, .slice a len cap, .slice a3 no cap3,
        .agg #[Value.int .i64 0, Value.int .i64 0, Value.int .i64 0, Value.int .i64 0, Value.int .i64 0, Value.int .i64 0, Value.int .i64 0, Value.int .i64 0, Value.int .i64 0, Value.int .i64 0, Value.int .i64 0, Value.int .i64 0, Value.int .i64 0, Value.int .i64 0, Value.int .i64 0, Value.int .i64 0, Value.slice a3 no cap3],
        .pointer (some ⟨w3.heap.size, 0, none⟩), .slice a len cap, .func (.func 211) #[] #[.pointer (some ⟨w3.heap.size + 1 + 1, 0, none⟩)], .int .i64 (x.1.1 : Int), .int .i64 (x.1.2 : Int), undef, undef, undef, undef, undef, undef, undef, undef, undef, undef, undef], defers := [] }) ?assign ?body ?done ?stop
    case assign =>
      intro l x W K hK
      gi_wp2
      exact hK
    case body =>
      rintro l pre x W ⟨⟨hr, hc16, hcB, hsy⟩, hB⟩ hlt
      have hx := x.2
      have st := new_step hr hc16 hcB hsy hB x.1 hx hsz3
      have ST := Lib.hid st
      have hcx := hr.cell x.1.2 (by omega)
      have hfx := hr.free x.1.2 (by omega)
      have hcn : cnt (pre.map Subtype.val) x.1.2 ≤ 288 := by
        have e1 := cnt_le (pre.map Subtype.val) x.1.2
        rw [List.length_map] at e1
        obtain ⟨_, _, _, _, _, h288, _⟩ := HL.out
        omega
      obtain ⟨y, hy⟩ : ∃ y, y = x.1.2 := ⟨_, rfl⟩
      obtain ⟨q, hq⟩ : ∃ q, q = x.1.1 := ⟨_, rfl⟩
      obtain ⟨c, hc⟩ : ∃ c, c = cnt (pre.map Subtype.val) x.1.2 := ⟨_, rfl⟩
      rw [← hc] at hcx hcn ST
      rw [← hy] at hx hcx hfx ST ⊢
      rw [← hq]
      have hy16 : (y : Int) < 16 := by omega
      have hmx : Tryz.prog.follows .mixedOrders = true := by kernel_rfl
      have hd1 : 1 ≤ n - 1 - 1 := by omega
      clear st hr hsy hc16 hy hq hc
      gi_wp2
      refine wpIn_region_any hmx ?_
      change wpAnyIn _ _ _ _ _ _ _ _ _ (World.drew _)
      refine wpAny_round l (by kernel_rfl) _ _ _ _ ?_
      refine wpAnyIn_take (i := 1) (v := ?_) rfl rfl (by kernel_rfl) (by kernel_rfl) (by kernel_rfl) (fun _ _ _ h => h) ⟨Or.inl ⟨by rfl, ?hy2_1⟩, fun _ => rfl⟩ ?_
      case hy2_1 => intro w; go_simp; first | done | rfl | (rw [if_pos hy16])
      refine wpAnyIn_ready (rs := [0]) (by kernel_rfl) (by simp) ?_
      refine AllReadyIn.cons rfl (fun K hK => ?_) AllReadyIn.nil
      go_simp
      refine hK _ _ ?_
      clear hK K
      refine wpAnyIn_take (i := 2) (v := ?_) rfl rfl (by kernel_rfl) (by kernel_rfl) (by kernel_rfl) (fun _ _ _ h => h) ⟨Or.inl ⟨by rfl, ?hy2_2⟩, fun _ => rfl⟩ ?_
      case hy2_2 => intro w; go_simp; first | done | rfl | (rw [if_pos hy16])
      refine wpAnyIn_take (i := 7) (v := ?_) rfl rfl (by kernel_rfl) (by kernel_rfl) (by kernel_rfl) (fun _ _ _ h => h) ⟨Or.inl ⟨by rfl, ?hy2_7⟩, fun _ => rfl⟩ ?_
      case hy2_7 => intro w; go_simp; first | done | rfl | (rw [if_pos hy16])
      refine wpAnyIn_take (i := 3) (v := ?_) rfl rfl (by kernel_rfl) (by kernel_rfl) (by kernel_rfl) (fun _ _ _ h => h) ⟨Or.inl ⟨by rfl, ?hy2_3⟩, fun _ => rfl⟩ ?_
      case hy2_3 => intro w; go_simp; first | done | rfl | (rw [if_pos hy16])
      refine wpAnyIn_take (i := 8) (v := ?_) rfl rfl (by kernel_rfl) (by kernel_rfl) (by kernel_rfl) (fun _ _ _ h => h) ⟨Or.inl ⟨by rfl, ?hy2_8⟩, fun _ => rfl⟩ ?_
      case hy2_8 => intro w; go_simp; first | done | rfl | (rw [if_pos hy16])
      refine wpAnyIn_take (i := 4) (v := ?_) rfl rfl (by kernel_rfl) (by kernel_rfl) (by kernel_rfl) (fun _ _ _ h => h) ⟨Or.inl ⟨by rfl, ?hy2_4⟩, fun _ => rfl⟩ ?_
      case hy2_4 => intro w; go_simp; first | done | rfl | (rw [if_pos hy16])
      refine wpAnyIn_ready (rs := [5]) (by kernel_rfl) (by simp) ?_
      refine AllReadyIn.cons rfl (fun K hK => ?_) AllReadyIn.nil
      go_simp
      refine hK _ _ ?_
      clear hK K
      refine wpAnyIn_take (i := 6) (v := ?_) rfl rfl (by kernel_rfl) (by kernel_rfl) (by kernel_rfl) (fun _ _ _ h => h) ⟨Or.inl ⟨by rfl, ?hy2_6⟩, fun _ => rfl⟩ ?_
      case hy2_6 => intro w; go_simp; first | done | rfl | (rw [if_pos hy16])
      refine wpAnyIn_take (i := 9) (v := ?_) rfl rfl (by kernel_rfl) (by kernel_rfl) (by kernel_rfl) (fun _ _ _ h => h) ⟨Or.inl ⟨by rfl, ?hy2_9⟩, fun _ => rfl⟩ ?_
      case hy2_9 => intro w; go_simp; first | done | rfl | (rw [if_pos hy16])
      refine wpAnyIn_ready (rs := [10]) (by kernel_rfl) (by simp) ?_
      refine AllReadyIn.cons rfl (fun K hK => ?_) AllReadyIn.nil
      go_simp
      refine hK _ _ ?_
      clear hK K
      refine wpAnyIn_done (by kernel_rfl) ?_ _
      have hwc : IntKind.i64.wrap ((c : Int) + 1) = (c : Int) + 1 := IntWalk.i64_in _ (by omega)
      rw [hwc]
      have ST2 := ST.out
      rw [show List.map Subtype.val pre ++ [x.1] = List.map Subtype.val (pre ++ [x]) by simp] at ST2
      exact ⟨((KeepsOthers.setCell _ _ _).trans (KeepsOthers.drew _)).from _, ((Below.refl w.heap.size W).setCell (p := ⟨w3.heap.size, y, none⟩) hsz3 _).drew, ST2⟩
    case done =>
      rintro D ys W hD hT ⟨⟨hr, hc16, hcB, hsy⟩, hB⟩ hK
      gi_wp2
      have hDW := (Array.getElem?_eq_some_iff.1 hK).1
      refine ⟨by simp, .inl ⟨_, _, rfl, run_takeDeferred hK, ?_⟩⟩
      refine ⟨.tuple #[.pointer (some ⟨w3.heap.size, 0, none⟩), .int .i64 0], by simp [results, Tryz.f158, go_sem], ?_⟩
      have hgr := grownBy_putObj' W D (.deferred none)
      have hrr : ∀ r, some D = some r → ∃ o : Obj, W.heap[r]? = some o ∧ o.isCells = false := fun r e => by cases e; exact ⟨_, hK, rfl⟩
      refine ⟨_, rfl, ⟨hsz3, ?_, _, cell_kept hc16 hgr hrr, il_of_syi (syi_kept hsy hgr hrr)⟩, hB.trans ((Below.refl w.heap.size W).grown hgr (by omega) (fun k e => by cases e; omega))⟩
      have := row_kept hr hgr hrr
      rw [hT] at this
      exact this
    case stop =>
      rintro D c pre W _ _ h _
      exact h.elim

theorem new_ok (zs : List Int) (s : Value) (w : World) (hz : Zl w s zs) (hf : newE zs = 0) : Calls Tryz.prog 158 #[s] w (fun e w' => ∃ T, e = .returned (.tuple #[.pointer (some ⟨T, 0, none⟩), .int .i64 0]) ∧ Tab w.heap.size w' T (nat zs) ∧ Below w.heap.size w w') :=
  callsIn_wide.1 (new_in 3 (Nat.le_refl _) zs s w hz hf)
end Go.Proofs.YtnjlljdbghcobaaGreatDoor
