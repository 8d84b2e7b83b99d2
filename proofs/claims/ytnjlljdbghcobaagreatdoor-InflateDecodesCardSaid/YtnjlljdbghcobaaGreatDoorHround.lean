/- Contract of huff.Codes. -/
import Derived.Test.YtnjlljdbghcobaaGreatDoorHcoded
import Derived.Deep.OwnRows

namespace Go.Proofs.YtnjlljdbghcobaaGreatDoor
set_option maxRecDepth 100000
open Go.RowKit Go.Shelf

attribute [local go_sem] Oper.semAt_some

theorem coded_stops (n : Nat) (hn : 1 ≤ n) (Bs C : Nat) (sv : Value) (ls : List Nat) (h15 : ∀ i, i < ls.length → Hf.ln ls i ≤ 15) (hp : Hf.pf ls (Hf.ordl ls).length ≤ 32768) (w : World) (hBs : Bs < w.heap.size)
    (hc : w.cell? ⟨Bs, 0, none⟩ = some sv) (hBC : Bs ≠ C) (hC : C < w.heap.size) (hL : Lsl w.heap.size w sv ls) (hCb : ∀ b off len cap, sv = .slice (some ⟨b, off, none⟩) len cap → b ≠ C) :
    SeqStopsK Fence.wide n Tryz.prog 202 #[.pointer (some ⟨Bs, 0, none⟩)] (fun x : Pr ls.length => #[Value.int .i64 (x.1.1 : Int), Value.int .i64 (x.1.2 : Int)]) (KeepC C) (fun ys => Tells ls (Hf.ordl ls).length ys) (fun _ => True) (Hf.ordl ls).length w := fun l J Jx W hW hJ _ hY h0 => by
  refine coded1_in n hn l Bs C sv ls h15 hp J Jx hY W hJ ((hW.cell (p := ⟨Bs, 0, none⟩) hBs).trans hc) hBC (Nat.lt_of_lt_of_le hC hW.size) ?_ hCb h0
  obtain ⟨b, off, cap, e1, e2, e3, e4, e5⟩ := hL.below hW
  exact ⟨b, off, cap, e1, e2, e3, Nat.lt_of_lt_of_le e4 hW.size, e5⟩

/-- What lengths take, said of symbols. -/
theorem takes_tk (ls : List Nat) (h15 : ∀ i, i < ls.length → Hf.ln ls i ≤ 15) (k : Nat) (hk : k ≤ ls.length) : takesOf (usedTo ls k) = Hf.tk ls (fun x => decide (0 < x)) k := by
  induction k with
  | zero => rfl
  | succ k ih =>
    have h := h15 k (by omega)
    simp only [usedTo, Hf.tk]
    by_cases h0 : ls[k]?.getD 0 = 0
    · rw [if_pos h0, List.append_nil, if_neg (by show ¬ decide (0 < ls[k]?.getD 0) = true; simp [h0]), ih (by omega)]; omega
    · have h1 : 0 < Hf.ln ls k := by show 0 < ls[k]?.getD 0; omega
      rw [if_neg h0, takesOf_snoc, ih (by omega), if_pos (by simpa using h1)]
      congr 1
      show 32768 / 2 ^ min (Hf.ln ls k) 64 = _
      rw [Nat.min_eq_left (by omega)]
      have e : (32768 : Nat) = 2 ^ (15 - Hf.ln ls k) * 2 ^ Hf.ln ls k := by rw [← Nat.pow_add, show 15 - Hf.ln ls k + Hf.ln ls k = 15 by omega]
      rw [e, Nat.mul_div_cancel _ (Nat.two_pow_pos _)]
theorem takes_pf (ls : List Nat) (h15 : ∀ i, i < ls.length → Hf.ln ls i ≤ 15) : Hf.pf ls (Hf.ordl ls).length = takes ls := by
  rw [Hf.pf_all ls h15]
  exact (takes_tk ls h15 _ (Nat.le_refl _)).symm

/-- May lengths have codes? -/
def Fit (zs : List Int) : Prop := chk zs = 0 ∨ chk zs = 12
instance (zs : List Int) : Decidable (Fit zs) := by unfold Fit; infer_instance
theorem Fit.valid {zs : List Int} (h : Fit zs) : Valid zs := by
  by_cases hv : Valid zs
  · exact hv
  · unfold Fit chk at h; rw [if_neg hv] at h; omega
theorem Fit.pf {zs : List Int} (h : Fit zs) : Hf.pf (nat zs) (Hf.ordl (nat zs)).length ≤ 32768 := by
  have hv := h.valid
  rw [takes_pf _ (fun i hi => hv.le i hi)]
  unfold Fit chk cmpr at h
  rw [if_pos hv] at h
  by_cases g : 32768 < takes (nat zs)
  · rw [if_pos g] at h; omega
  · omega

/-- Where codes are refused. -/
def NoCodes (w : World) (c : Int) (e : Ending) (w' : World) : Prop := e = .returned (.tuple #[.slice none 0 0, .int .i64 c]) ∧ Below w.heap.size w w'
/-- Where there are codes: in memory of their own. -/
def CodesPost (w : World) (xs : List Nat) (e : Ending) (w' : World) : Prop := ∃ v, e = .returned (.tuple #[v, .int .i64 0]) ∧ Il w.heap.size w' v xs ∧ Below w.heap.size w w'

set_option maxHeartbeats 1000000 in
theorem codes_no (zs : List Int) (s : Value) (w : World) (hz : Zl w s zs) (hf : ¬ Fit zs) : Calls Tryz.prog 129 #[s] w (NoCodes w (chk zs)) := by
  have HC := check_any zs s w hz
  obtain ⟨a, len, cap, rfl, hl⟩ := hz.shape
  unfold Fit at hf
  generalize chk zs = c at HC hf ⊢
  have h1 : (c != 0) = true := by rw [bne_iff_ne]; omega
  have h2 : (c != 12) = true := by rw [bne_iff_ne]; omega
  clear hz hf hl
  go_enter Tryz.func129, Tryz.ntmps129
  go_wp2_with fail
  refine HC.mono ?_
  clear HC
  rintro e w' ⟨rfl, hb⟩
  have HB := Lib.hid hb
  clear hb
  go_wp2
  go_ret2
  exact ⟨rfl, HB.out⟩

theorem keepC_set (W : World) (C i : Nat) (v : Value) : KeepC C W (W.setCell ⟨C, i, none⟩ v) := fun k _ h _ hne => (Below.heap_setCell W ⟨C, i, none⟩ v k hne).trans h
theorem row_kept {W W' : World} {g n : Nat} {d : Nat → Nat} {row : Option Nat} (h : Rw W g n d) (hg : W.grownBy W' row) (hr : ∀ r, row = some r → ∃ o : Obj, W.heap[r]? = some o ∧ o.isCells = false) : Rw W' g n d :=
  ⟨Nat.lt_of_lt_of_le h.lt hg.size, fun i hi => cell_kept (h.cell i hi) hg hr, fun i hi => (frozen_kept (h.cell i hi) hg hr).trans (h.free i hi)⟩
theorem row_set {W : World} {g n : Nat} {d d' : Nat → Nat} (h : Rw W g n d) (p v : Nat) (hp : p < n) (hd : ∀ i, i < n → d' i = if i = p then v else d i) : Rw (W.setCell ⟨g, p, none⟩ (.int .i64 (v : Int))) g n d' := by
  refine ⟨by simpa using h.lt, fun i hi => ?_, fun i hi => by rw [World.frozen?_setCell]; exact h.free i hi⟩
  rw [hd i hi]
  by_cases e : i = p
  · rw [if_pos e, e]
    exact World.cell?_setCell_same' _ _ _ (by rw [h.cell p hp]; rfl)
  · rw [if_neg e, World.cell?_setCell_other _ _ _ _ (addr_ne g (by omega))]
    exact h.cell i hi

theorem made_nat (w : World) (n : Nat) : Rw (w.alloc (.cells (madeCells #[Value.int .i64 0] n) 3)) w.heap.size n (fun _ => 0) := by
  have h : Has (w.alloc (.cells (madeCells #[Value.int .i64 0] n) 3)) w.heap.size (.cells (madeCells #[Value.int .i64 0] n) 3 (0, 0)) := Has.new w _
  refine ⟨by simp, fun i hi => ?_, fun i _ => h.free i⟩
  rw [h.cell i]
  rw [← Array.getElem?_toList, toList_madeCells_one]
  simp [hi]

theorem codes_world (w1 : World) (len : Nat) (a : Option Addr) (cap : Nat) (w3 : World) (hw : w3 = ((w1.alloc (.cells (madeCells #[Value.int IntKind.i64 0] len) 3)).alloc (.cells #[Value.slice (some ⟨w1.heap.size, 0, none⟩) len len] 33)).alloc (.cells #[Value.slice a len cap] 33)) :
    Rw w3 w1.heap.size len (fun i => (Hf.outOf len (([] : List (Pr len)).map Subtype.val))[i]?.getD 0) ∧ w3.cell? ⟨w1.heap.size + 1, 0, none⟩ = some (.slice (some ⟨w1.heap.size, 0, none⟩) len len) ∧
      w3.cell? ⟨w1.heap.size + 1 + 1, 0, none⟩ = some (.slice a len cap) ∧ Below w1.heap.size w1 w3 := by
  subst hw
  have h1 := made_nat w1 len
  have b2 := Boxed.new (w1.alloc (.cells (madeCells #[Value.int IntKind.i64 0] len) 3)) 33 (.slice (some ⟨w1.heap.size, 0, none⟩) len len)
  have b3 := Boxed.new ((w1.alloc (.cells (madeCells #[Value.int IntKind.i64 0] len) 3)).alloc (.cells #[Value.slice (some ⟨w1.heap.size, 0, none⟩) len len] 33)) 33 (.slice a len cap)
  have e2 : (w1.alloc (.cells (madeCells #[Value.int IntKind.i64 0] len) 3)).heap.size = w1.heap.size + 1 := by simp
  have e3 : ((w1.alloc (.cells (madeCells #[Value.int IntKind.i64 0] len) 3)).alloc (.cells #[Value.slice (some ⟨w1.heap.size, 0, none⟩) len len] 33)).heap.size = w1.heap.size + 1 + 1 := by simp
  rw [e2] at b2
  rw [e3] at b3
  refine ⟨?_, (b2.alloc _).cell, b3.cell, below3 _ _ _ _⟩
  have hk := (row_kept (row_kept h1 (World.grownBy_alloc _ (.cells #[Value.slice (some ⟨w1.heap.size, 0, none⟩) len len] 33) none) (fun r e => by cases e)) (World.grownBy_alloc _ (.cells #[Value.slice a len cap] 33) none) (fun r e => by cases e))
  refine ⟨hk.lt, fun i hi => ?_, hk.free⟩
  rw [hk.cell i hi]
  simp [Hf.outOf, hi]

theorem codes_step {w W : World} {C len : Nat} {ps : List (Nat × Nat)} (hr : Rw W C len (fun i => (Hf.outOf len ps)[i]?.getD 0)) (hcB : W.cell? ⟨C + 1, 0, none⟩ = some (.slice (some ⟨C, 0, none⟩) len len)) (hB : Below w.heap.size w W) (x : Nat × Nat) (hx : x.1 < len) (hC : w.heap.size ≤ C) :
    (Rw (W.setCell ⟨C, x.1, none⟩ (.int .i64 (x.2 : Int))) C len (fun i => (Hf.outOf len (ps ++ [x]))[i]?.getD 0) ∧ (W.setCell ⟨C, x.1, none⟩ (.int .i64 (x.2 : Int))).cell? ⟨C + 1, 0, none⟩ = some (.slice (some ⟨C, 0, none⟩) len len)) ∧ Below w.heap.size w (W.setCell ⟨C, x.1, none⟩ (.int .i64 (x.2 : Int))) := by
  refine ⟨⟨row_set hr x.1 x.2 hx fun i hi => ?_, ?_⟩, hB.setCell (p := ⟨C, x.1, none⟩) hC _⟩
  · rw [Hf.outOf_snoc]
    by_cases e : i = x.1
    · rw [if_pos e, e, List.getElem?_set_self (by rw [Hf.outOf_length]; exact hx)]; rfl
    · rw [if_neg e, List.getElem?_set_ne (by omega)]
  · rw [World.cell?_setCell_other _ _ _ _ (fun e => by cases e)]
    exact hcB

theorem codes_done {w w1 W : World} {len D : Nat} {ls : List Nat} {ys : List (Pr ls.length)} (hr : Rw W w1.heap.size len (fun i => (Hf.outOf len (ys.map Subtype.val))[i]?.getD 0)) (hl : len = ls.length) (hT : Tells ls (Hf.ordl ls).length ys) (hB : Below w.heap.size w W)
    (hsz : w.heap.size ≤ w1.heap.size) (hD : w.heap.size ≤ D) (hK : W.heap[D]? = some (.deferred (some []))) :
    Il w.heap.size (W.putObj D (.deferred none)) (.slice (some ⟨w1.heap.size, 0, none⟩) len len) (Hf.codes ls) ∧ Below w.heap.size w (W.putObj D (.deferred none)) := by
  have e : Hf.outOf len (ys.map Subtype.val) = Hf.codes ls := by rw [show ys.map Subtype.val = _ from hT, hl]; rfl
  have hDW := (Array.getElem?_eq_some_iff.1 hK).1
  refine ⟨Or.inr ⟨w1.heap.size, len, by rw [Hf.codes_length, hl], by rw [Hf.codes_length, hl]; exact Nat.le_refl _, hsz, ?_⟩, hB.trans ((Below.refl w.heap.size W).grown (grownBy_putObj' W D _) (by omega) (fun k e => by cases e; omega))⟩
  rw [Hf.codes_length, ← hl, ← e]
  exact row_kept hr (grownBy_putObj' W D _) (fun r e => by cases e; exact ⟨_, hK, rfl⟩)

set_option maxRecDepth 100000 in
set_option maxHeartbeats 4000000 in
theorem codes_in (n : Nat) (hn : 3 ≤ n) (zs : List Int) (s : Value) (w : World) (hz : Zl w s zs) (hf : Fit zs) : CallsIn Fence.wide n Tryz.prog 129 #[s] w (CodesPost w (Hf.codes (nat zs))) := by
  have h1 : 1 ≤ n := by omega
  have HC := check_any zs s w hz
  have HL := Lib.hid (hf.valid.lsl hz (Nat.le_refl _))
  have HF := Lib.hid hf
  obtain ⟨a, len, cap, rfl, hl⟩ := hz.shape
  have hl2 : len ≤ 288 := by have := hf.valid.2.1; omega
  have hl1 : 0 < len := by have := hf.valid.1; omega
  have HLN : Hid (len = (nat zs).length) := by show _ = _; rw [nat_length, hl]
  unfold Fit at hf
  obtain ⟨c, hc⟩ : ∃ c, c = chk zs := ⟨_, rfl⟩
  rw [← hc] at HC hf
  have hmk := run_make_row' (P := Tryz.prog) 33 3 (.int .i64 0) 8 Tryz.underlying33 Tryz.infoInt rfl .i64 .i64 len (by omega) (by omega)
  clear hz hl hc
  refine callsIn_of_wp_marks Tryz.func129 rfl trivial ?_ rfl
  simp only [Tryz.ntmps129, List.size_toArray, List.length_cons, List.length_nil, Nat.reduceAdd, Nat.reduceSub, Array.replicate_succ, Array.replicate_zero, List.push_toArray, List.append_toArray, List.nil_append, List.cons_append]
  rcases hf with rfl | rfl
  · gi_wp2_with (first | (refine ⟨trivial, ?_⟩; gi_at_call 173; refine (callsIn_wide.2 HC).mono ?_; rintro e w1 ⟨rfl, hb1⟩) | (refine ⟨trivial, ?_⟩; gi_at_call 174; refine (coded_in (n - 1) _ _ _ _ rfl _).mono ?_; rintro e w' ⟨rfl, rfl⟩))
    have hz3 : (((w1.alloc (.cells (madeCells #[Value.int IntKind.i64 0] len) 3)).alloc (.cells #[Value.slice (some ⟨w1.heap.size, 0, none⟩) len len] 33)).alloc (.cells #[Value.slice a len cap] 33)).heap.size = w1.heap.size + 3 := by simp
    obtain ⟨w3, hw3⟩ : ∃ w3, w3 = ((w1.alloc (.cells (madeCells #[Value.int IntKind.i64 0] len) 3)).alloc (.cells #[Value.slice (some ⟨w1.heap.size, 0, none⟩) len len] 33)).alloc (.cells #[Value.slice a len cap] 33) := ⟨_, rfl⟩
    obtain ⟨F1, F2, F3, F4⟩ := codes_world w1 len a cap w3 hw3
    rw [← hw3] at hz3 ⊢
    have hsz1 := hb1.size
    have hB3 : Below w.heap.size w w3 := hb1.trans (F4.mono hsz1)
    have hLs : Lsl w.heap.size w3 (.slice a len cap) (nat zs) := HL.out.below hB3
    have hbb : ∀ b off len' cap', Value.slice a len cap = .slice (some ⟨b, off, none⟩) len' cap' → b ≠ w1.heap.size := by
      intro b' off' len' cap' e
      obtain ⟨b, off, cap2, e1, _, _, e4, _⟩ := HL.out
      rw [e1] at e; cases e; omega
    have hLs2 : Lsl w3.heap.size w3 (.slice a len cap) (nat zs) := by
      obtain ⟨b, off, cap2, e1, e2, e3, e4, e5⟩ := hLs
      exact ⟨b, off, cap2, e1, e2, e3, by omega, e5⟩
    have hv := HF.out.valid
    clear hw3
    refine wpIn_rangeFunc_ownG rfl h1 (gf := 202) (lb := #[.pointer (some ⟨w1.heap.size + 1 + 1, 0, none⟩)]) rfl trivial (enters_of Tryz.func202 (by kernel_rfl) rfl)
      (coded_stops (n - 1) (by omega) (w1.heap.size + 1 + 1) w1.heap.size _ (nat zs) (fun i hi => hv.le i hi) HF.out.pf w3 (by omega) F3 (by omega) (by omega) hLs2 hbb) keepC_t keepC_b (Below.refl _ _) (fun _ => rfl)
      (fun pre W => (Rw W w1.heap.size len (fun i => (Hf.outOf len (pre.map Subtype.val))[i]?.getD 0) ∧ W.cell? ⟨w1.heap.size + 1, 0, none⟩ = some (.slice (some ⟨w1.heap.size, 0, none⟩) len len)) ∧ Below w.heap.size w W)
      (fun _ _ _ => False)
      (OwnFrom.and (Own.from (fun s A B row hs hg hr => ⟨row_kept hs.1 hg hr, cell_kept hs.2 hg hr⟩) _) (ownFrom_below (Nat.le_refl _) (by omega)))
      (fun _ _ _ _ _ hs _ _ => hs)
      ⟨⟨F1, F2⟩, hB3⟩
      (fun x => { tmps := #[.slice a len cap, undef, .slice none 0 0, .int .i64 0, .int .i64 0, .pointer (some ⟨w1.heap.size + 1, 0, none⟩), .int .i64 (x.1.1 : Int), .int .i64 (x.1.2 : Int), .slice a len cap, .int .i64 0, .int .i64 0, .bool false, .bool false, undef, undef, .bool false, undef, .slice a len cap, .int .i64 (len : Int), .slice (some ⟨w1.heap.size, 0, none⟩) len len, .slice a len cap, .func (.func 202) #[] #[.pointer (some ⟨w1.heap.size + 1 + 1, 0, none⟩)], .int .i64 (x.1.1 : Int), .int .i64 (x.1.2 : Int), undef, undef, undef, undef, undef], defers := [] }) ?assign ?body ?done ?stop
    case assign =>
      intro l x W K hK
      gi_wp2
      exact hK
    case body =>
      rintro l pre x W ⟨⟨hr, hcB⟩, hB⟩ hlt
      have hx : x.1.1 < len := by have := x.2; have := HLN.out; omega
      have st := codes_step hr hcB hB x.1 hx (by omega)
      have ST := Lib.hid st
      have hcx := hr.cell x.1.1 hx
      have hfx := hr.free x.1.1 hx
      obtain ⟨q, hq⟩ : ∃ q, q = x.1.1 := ⟨_, rfl⟩
      obtain ⟨r, hr2⟩ : ∃ r, r = x.1.2 := ⟨_, rfl⟩
      rw [← hq] at hx hcx hfx ST ⊢
      rw [← hr2] at ST ⊢
      have HQ := Lib.hid hq
      clear st hr hq hr2
      gi_wp2
      have ST2 := ST.out
      rw [show List.map Subtype.val pre ++ [x.1] = List.map Subtype.val (pre ++ [x]) by simp] at ST2
      exact ⟨(KeepsOthers.setCell _ _ _).from _, keepC_set _ _ _ _, ST2⟩
    case done =>
      rintro D ys W hD hT ⟨⟨hr, hcB⟩, hB⟩ hK
      gi_wp2
      have fin := codes_done hr HLN.out hT hB hsz1 (by omega) hK
      refine ⟨by simp, .inl ⟨_, _, rfl, run_takeDeferred hK, ?_⟩⟩
      refine ⟨.tuple #[.slice (some ⟨w1.heap.size, 0, none⟩) len len, .int .i64 0], by simp [results, Tryz.f129, go_sem], ?_⟩
      exact ⟨_, rfl, fin.1, fin.2⟩
    case stop =>
      rintro D c pre W _ _ h _
      exact h.elim
  · gi_wp2_with (first | (refine ⟨trivial, ?_⟩; gi_at_call 173; refine (callsIn_wide.2 HC).mono ?_; rintro e w1 ⟨rfl, hb1⟩) | (refine ⟨trivial, ?_⟩; gi_at_call 174; refine (coded_in (n - 1) _ _ _ _ rfl _).mono ?_; rintro e w' ⟨rfl, rfl⟩))
    have hz3 : (((w1.alloc (.cells (madeCells #[Value.int IntKind.i64 0] len) 3)).alloc (.cells #[Value.slice (some ⟨w1.heap.size, 0, none⟩) len len] 33)).alloc (.cells #[Value.slice a len cap] 33)).heap.size = w1.heap.size + 3 := by simp
    obtain ⟨w3, hw3⟩ : ∃ w3, w3 = ((w1.alloc (.cells (madeCells #[Value.int IntKind.i64 0] len) 3)).alloc (.cells #[Value.slice (some ⟨w1.heap.size, 0, none⟩) len len] 33)).alloc (.cells #[Value.slice a len cap] 33) := ⟨_, rfl⟩
    obtain ⟨F1, F2, F3, F4⟩ := codes_world w1 len a cap w3 hw3
    rw [← hw3] at hz3 ⊢
    have hsz1 := hb1.size
    have hB3 : Below w.heap.size w w3 := hb1.trans (F4.mono hsz1)
    have hLs : Lsl w.heap.size w3 (.slice a len cap) (nat zs) := HL.out.below hB3
    have hbb : ∀ b off len' cap', Value.slice a len cap = .slice (some ⟨b, off, none⟩) len' cap' → b ≠ w1.heap.size := by
      intro b' off' len' cap' e
      obtain ⟨b, off, cap2, e1, _, _, e4, _⟩ := HL.out
      rw [e1] at e; cases e; omega
    have hLs2 : Lsl w3.heap.size w3 (.slice a len cap) (nat zs) := by
      obtain ⟨b, off, cap2, e1, e2, e3, e4, e5⟩ := hLs
      exact ⟨b, off, cap2, e1, e2, e3, by omega, e5⟩
    have hv := HF.out.valid
    clear hw3
    refine wpIn_rangeFunc_ownG rfl h1 (gf := 202) (lb := #[.pointer (some ⟨w1.heap.size + 1 + 1, 0, none⟩)]) rfl trivial (enters_of Tryz.func202 (by kernel_rfl) rfl)
      (coded_stops (n - 1) (by omega) (w1.heap.size + 1 + 1) w1.heap.size _ (nat zs) (fun i hi => hv.le i hi) HF.out.pf w3 (by omega) F3 (by omega) (by omega) hLs2 hbb) keepC_t keepC_b (Below.refl _ _) (fun _ => rfl)
      (fun pre W => (Rw W w1.heap.size len (fun i => (Hf.outOf len (pre.map Subtype.val))[i]?.getD 0) ∧ W.cell? ⟨w1.heap.size + 1, 0, none⟩ = some (.slice (some ⟨w1.heap.size, 0, none⟩) len len)) ∧ Below w.heap.size w W)
      (fun _ _ _ => False)
      (OwnFrom.and (Own.from (fun s A B row hs hg hr => ⟨row_kept hs.1 hg hr, cell_kept hs.2 hg hr⟩) _) (ownFrom_below (Nat.le_refl _) (by omega)))
      (fun _ _ _ _ _ hs _ _ => hs)
      ⟨⟨F1, F2⟩, hB3⟩
      (fun x => { tmps := #[.slice a len cap, undef, .slice none 0 0, .int .i64 0, .int .i64 12, .pointer (some ⟨w1.heap.size + 1, 0, none⟩), .int .i64 (x.1.1 : Int), .int .i64 (x.1.2 : Int), .slice a len cap, .int .i64 12, .int .i64 12, .bool true, .bool true, .int .i64 12, .bool false, .bool false, undef, .slice a len cap, .int .i64 (len : Int), .slice (some ⟨w1.heap.size, 0, none⟩) len len, .slice a len cap, .func (.func 202) #[] #[.pointer (some ⟨w1.heap.size + 1 + 1, 0, none⟩)], .int .i64 (x.1.1 : Int), .int .i64 (x.1.2 : Int), undef, undef, undef, undef, undef], defers := [] }) ?assign ?body ?done ?stop
    case assign =>
      intro l x W K hK
      gi_wp2
      exact hK
    case body =>
      rintro l pre x W ⟨⟨hr, hcB⟩, hB⟩ hlt
      have hx : x.1.1 < len := by have := x.2; have := HLN.out; omega
      have st := codes_step hr hcB hB x.1 hx (by omega)
      have ST := Lib.hid st
      have hcx := hr.cell x.1.1 hx
      have hfx := hr.free x.1.1 hx
      obtain ⟨q, hq⟩ : ∃ q, q = x.1.1 := ⟨_, rfl⟩
      obtain ⟨r, hr2⟩ : ∃ r, r = x.1.2 := ⟨_, rfl⟩
      rw [← hq] at hx hcx hfx ST ⊢
      rw [← hr2] at ST ⊢
      have HQ := Lib.hid hq
      clear st hr hq hr2
      gi_wp2
      have ST2 := ST.out
      rw [show List.map Subtype.val pre ++ [x.1] = List.map Subtype.val (pre ++ [x]) by simp] at ST2
      exact ⟨(KeepsOthers.setCell _ _ _).from _, keepC_set _ _ _ _, ST2⟩
    case done =>
      rintro D ys W hD hT ⟨⟨hr, hcB⟩, hB⟩ hK
      gi_wp2
      have fin := codes_done hr HLN.out hT hB hsz1 (by omega) hK
      refine ⟨by simp, .inl ⟨_, _, rfl, run_takeDeferred hK, ?_⟩⟩
      refine ⟨.tuple #[.slice (some ⟨w1.heap.size, 0, none⟩) len len, .int .i64 0], by simp [results, Tryz.f129, go_sem], ?_⟩
      exact ⟨_, rfl, fin.1, fin.2⟩
    case stop =>
      rintro D c pre W _ _ h _
      exact h.elim

theorem codes_ok (zs : List Int) (s : Value) (w : World) (hz : Zl w s zs) (hf : Fit zs) : Calls Tryz.prog 129 #[s] w (CodesPost w (Hf.codes (nat zs))) := callsIn_wide.1 (codes_in 3 (Nat.le_refl _) zs s w hz hf)
end Go.Proofs.YtnjlljdbghcobaaGreatDoor

/- Contracts of huff.isLone and of the iterator over used symbols whose lengths are lengths. -/
namespace Go.Proofs.YtnjlljdbghcobaaGreatDoor
set_option maxRecDepth 100000
open Go.RowKit Go.Shelf

attribute [local go_sem] Oper.semAt_some

/-- Is one symbol alone used, by a code of one bit? -/
def Lone (ls : List Nat) : Prop := (Hf.ordl ls).length = 1 ∧ Hf.ln ls (Hf.sy ls 0) = 1
instance (ls : List Nat) : Decidable (Lone ls) := by unfold Lone; infer_instance

theorem il_shape {lo : Nat} {w : World} {v : Value} {xs : List Nat} (h : Il lo w v xs) : ∃ a cap, v = .slice a xs.length cap ∧ (0 < xs.length → ∃ g, a = some ⟨g, 0, none⟩ ∧ Rw w g xs.length (fun i => xs[i]?.getD 0)) := by
  rcases h with ⟨rfl, rfl⟩ | ⟨g, cap, e, _, hg, hr⟩
  · exact ⟨_, _, rfl, fun h => by simp at h⟩
  · exact ⟨_, _, e, fun _ => ⟨g, rfl, hr⟩⟩

set_option maxHeartbeats 1000000 in
theorem lone_any (zs : List Int) (s : Value) (w : World) (hz : Zl w s zs) (hv : Valid zs) :
    Calls Tryz.prog 190 #[s] w fun e w' => e = .returned (.bool (decide (Lone (nat zs)))) ∧ Below w.heap.size w w' := by
  have HO := ordered_any s (nat zs) w (hv.lsl hz (Nat.le_refl _)) (fun i hi => hv.le i hi)
  obtain ⟨b, off, cap, rfl, hpos, h288, hb, hcl⟩ := hv.lsl hz (Nat.le_refl _)
  have HCL := Lib.hid hcl
  clear hpos
  have hol := Hf.ordl_length_le (nat zs)
  obtain ⟨len, hlen⟩ : ∃ len, len = (nat zs).length := ⟨_, rfl⟩
  rw [← hlen] at HO hol h288 HCL ⊢
  have HLE := Lib.hid hlen
  clear hz hcl hlen
  go_enter Tryz.func190, Tryz.ntmps190
  go_wp2_with fail
  refine HO.mono ?_
  clear HO
  rintro e w2 ⟨v, rfl, hi, hb2⟩
  obtain ⟨a, cap2, rfl, ha⟩ := il_shape hi
  clear hi
  obtain ⟨n, hn⟩ : ∃ n, n = (Hf.ordl (nat zs)).length := ⟨_, rfl⟩
  rw [← hn] at ha hol ⊢
  have HN := Lib.hid hn
  have HB := Lib.hid hb2
  have HA := Lib.hid ha
  have hn3 : n ≤ 288 := by omega
  clear hn hb2 ha hol
  by_cases h1 : n = 1
  · obtain ⟨g, rfl, hr⟩ := HA.out (by omega)
    obtain ⟨x, hx⟩ : ∃ x, x = Hf.sy (nat zs) 0 := ⟨_, rfl⟩
    have c1 : w2.cell? ⟨g, 0, none⟩ = some (.int .i64 (x : Int)) := by
      have := hr.cell 0 (by omega)
      rw [this, hx]; rfl
    have hxl : x < len := by rw [hx, HLE.out]; exact (Hf.sy_mem (nat zs) 0 (by rw [← HN.out]; omega)).1
    have c2 : w2.cell? ⟨b, off + x, none⟩ = some (.int .i64 (((nat zs)[x]?.getD 0 : Nat) : Int)) := by
      rw [HB.out.cell (p := ⟨b, off + x, none⟩) hb]; exact HCL.out x hxl
    obtain ⟨y, hy⟩ : ∃ y, y = (nat zs)[x]?.getD 0 := ⟨_, rfl⟩
    rw [← hy] at c2
    have e1 : ((n : Int) == 1) = true := by rw [beq_iff_eq]; omega
    have hn1 : 0 < n := by omega
    by_cases h2 : y = 1
    · have e2 : ((y : Int) == 1) = true := by rw [beq_iff_eq]; omega
      have R : Hid (decide (Lone (nat zs)) = true) := decide_eq_true ⟨by rw [← HN.out]; exact h1, by rw [← hx]; show (nat zs)[x]?.getD 0 = 1; rw [← hy]; exact h2⟩
      clear hx hy h1 h2 hr HA
      go_wp2
      go_ret
      exact ⟨by rw [R.out]; rfl, HB.out⟩
    · have e2 : ((y : Int) == 1) = false := by rw [beq_eq_false_iff_ne]; omega
      have R : Hid (decide (Lone (nat zs)) = false) := decide_eq_false fun h => h2 (by rw [hy]; have := h.2; rw [← hx] at this; exact this)
      clear hx hy h1 h2 hr HA
      go_wp2
      go_ret
      exact ⟨by rw [R.out]; rfl, HB.out⟩
  · have e1 : ((n : Int) == 1) = false := by rw [beq_eq_false_iff_ne]; omega
    have R : Hid (decide (Lone (nat zs)) = false) := decide_eq_false fun h => h1 (by rw [HN.out]; exact h.1)
    clear h1 HA
    go_wp2
    go_ret
    exact ⟨by rw [R.out]; rfl, HB.out⟩

/-- A symbol and a number up to fifteen. -/
abbrev Us := { p : Nat × Nat // p.2 ≤ 15 }

set_option maxRecDepth 100000 in
set_option maxHeartbeats 2000000 in
theorem used2_in (n : Nat) (hn : 1 ≤ n) (l Bs n₀ : Nat) (sv : Value) (ls : List Nat) (h15 : ∀ i, i < ls.length → Hf.ln ls i ≤ 15) (J Jx : List Us → World → Prop)
    (hY : ∀ pre x W, J pre W → pre.length < ls.length → YieldAt Fence.wide (n - 1) Tryz.prog l #[.int .i64 (x.1.1 : Int), .int .i64 (x.1.2 : Int)] W fun e W' =>
      (e = .returned (.bool true) ∧ J (pre ++ [x]) W' ∧ Below n₀ W W') ∨ (e = .returned (.bool false) ∧ Jx (pre ++ [x]) W'))
    (W : World) (hBs : W.cell? ⟨Bs, 0, none⟩ = some sv) (hL : Lsl n₀ W sv ls) (h0 : J [] W) :
    CallsIn Fence.wide n Tryz.prog 211 #[.func (.yield l) #[] #[], .pointer (some ⟨Bs, 0, none⟩)] W fun e W' => (∃ v, e = .returned v) ∧
      ((∃ ys : List Us, ys.map Subtype.val = usedTo ls ls.length ∧ J ys W') ∨ (∃ pre, True ∧ Jx pre W')) := by
  obtain ⟨b, off, cap, rfl, hpos, h288, hb, hc⟩ := hL
  refine callsIn_of_wp Tryz.func211 rfl trivial ?_ rfl
  simp only [Tryz.ntmps211, List.size_toArray, List.length_cons, List.length_nil, Nat.reduceAdd, Nat.reduceSub, Array.replicate_succ, Array.replicate_zero, List.push_toArray, List.append_toArray, List.nil_append, List.cons_append]
  gi_wp2
  gi_loopw [7] (fun i wr => ∃ (k : Nat) (pre : List Us), k ≤ ls.length ∧ i = .int .i64 k ∧ Hid (pre.map Subtype.val = usedTo ls k) ∧ J pre wr ∧ Below n₀ W wr)
    (fun i _ => ls.length - (intOf i).toNat)
  case atStart => exact ⟨0, [], Nat.zero_le _, rfl, rfl, h0, Below.refl _ _⟩
  case round =>
    obtain ⟨k, pre, hk, rfl, KP, hJs, hnx⟩ := hrel
    by_cases hlt : k < ls.length
    · have hcx : wr.cell? ⟨b, off + k, none⟩ = some (.int .i64 ((ls[k]?.getD 0 : Nat) : Int)) := (hnx.cell (p := ⟨b, off + k, none⟩) hb).trans (hc k hlt)
      have h15k := h15 k hlt
      unfold Hf.ln at h15k
      obtain ⟨x, hx⟩ : ∃ x, x = ls[k]?.getD 0 := ⟨_, rfl⟩
      rw [← hx] at hcx h15k
      by_cases h0 : x = 0
      · have hst : pre.map Subtype.val = usedTo ls (k + 1) := by rw [KP.out]; simp [usedTo, ← hx, h0]
        have HST := Lib.hid hst
        subst h0
        clear hst hx
        gi_wp2
        refine ⟨fun _ h => (by cases h), ?_⟩
        gi_wp2
        go_roundw
        case rel => exact ⟨k + 1, pre, by omega, by simp, HST, hJs, hnx⟩
        case measure => simp [intOf]; omega
      · have hst : (pre ++ [(⟨(k, x), h15k⟩ : Us)]).map Subtype.val = usedTo ls (k + 1) := by rw [List.map_append, KP.out]; simp [usedTo, ← hx, h0]
        have HST := Lib.hid hst
        have hne : ((x : Int) != 0) = true := by rw [bne_iff_ne]; omega
        obtain ⟨fn, tmps, assign, body, hy, hR⟩ := hY pre ⟨(k, x), h15k⟩ wr hJs (by have h1 := usedTo_length ls k; have h2 := congrArg List.length KP.out; rw [List.length_map] at h2; omega)
        dsimp only at hy
        clear hst hx
        gi_wp2
        refine hR.mono ?_
        rintro e W3 (⟨rfl, hJ3, hk3⟩ | ⟨rfl, hJx3⟩)
        · gi_wp2
          go_roundw
          case rel => exact ⟨k + 1, _, by omega, by simp, HST, hJ3, hnx.trans hk3⟩
          case measure => simp [intOf]; omega
        · gi_wp2
          refine bodyPost_ret (results_none rfl _ _ _) rfl ?_
          exact ⟨⟨_, rfl⟩, .inr ⟨_, trivial, hJx3⟩⟩
    · obtain rfl : k = ls.length := by omega
      gi_wp2
      go_end0
      exact ⟨⟨_, rfl⟩, .inl ⟨_, KP.out, hJs⟩⟩

theorem used2_stops (n : Nat) (hn : 1 ≤ n) (Bs n₀ : Nat) (sv : Value) (ls : List Nat) (h15 : ∀ i, i < ls.length → Hf.ln ls i ≤ 15) (w : World) (hBs : Bs < w.heap.size) (hn₀ : n₀ ≤ w.heap.size)
    (hc : w.cell? ⟨Bs, 0, none⟩ = some sv) (hL : Lsl n₀ w sv ls) :
    SeqStopsK Fence.wide n Tryz.prog 211 #[.pointer (some ⟨Bs, 0, none⟩)] (fun x : Us => #[Value.int .i64 (x.1.1 : Int), Value.int .i64 (x.1.2 : Int)]) (Below n₀) (fun ys => ys.map Subtype.val = usedTo ls ls.length) (fun _ => True) ls.length w := fun l J Jx W hW _ _ hY h0 =>
  used2_in n hn l Bs n₀ sv ls h15 J Jx hY W ((hW.cell (p := ⟨Bs, 0, none⟩) hBs).trans hc) (hL.below (hW.mono hn₀)) h0
end Go.Proofs.YtnjlljdbghcobaaGreatDoor

/- A region without a defer statement, in a round of a loop over an iterator: it is walked as everywhere. -/
namespace Go.Proofs.YtnjlljdbghcobaaGreatDoor
set_option maxRecDepth 100000
open Go Go.RowKit Go.Shelf

/-- No operation is a defer statement. -/
def noDefer (ops : Array Oper) : Bool := ops.toList.all fun o => match o.op with | .defer _ => false | _ => true

theorem noDefer_at {ops : Array Oper} (h : noDefer ops = true) {i : Nat} {o : Oper} (ho : ops[i]? = some o) : ∀ c, o.op ≠ .defer c := by
  intro c e
  have hm : o ∈ ops.toList := by
    rw [← Array.getElem?_toList] at ho
    exact List.mem_of_getElem? ho
  have := List.all_eq_true.1 h o hm
  rw [e] at this
  cases this

theorem upon_round {F : Fence} {n : Nat} {P : Program} {o : Oper} {a : Act} {K : Act → World → Prop} {Q : Exit → Act → World → Prop} (l : Nat) {r : Result Next} (h : o.uponIn F n P a K Q r) : o.uponIn (F.inRound l) n P a K Q r := by
  cases r with
  | ok x w' => cases x <;> exact h
  | halt x w' => cases x <;> exact h

theorem wpAny_round {F : Fence} {n : Nat} {P : Program} {md : Region.Mode} {ops : Array Oper} {Q : Exit → Act → World → Prop} (l : Nat) (hd : noDefer ops = true) :
    ∀ (fuel : Nat) (listed : Array Bool) (a : Act) (w : World), wpAnyIn F n P md ops Q fuel listed a w → wpAnyIn (F.inRound l) n P md ops Q fuel listed a w := by
  intro fuel
  induction fuel with
  | zero => intro listed a w h; exact h
  | succ fuel ih =>
    intro listed a w h
    refine ⟨h.1, fun i hi => ?_⟩
    have h2 := wpOpIn_mono (K' := wpAnyIn (F.inRound l) n P md ops Q fuel (listed.setIfInBounds i true)) (fun a w h => ih _ a w h) (h.2 i hi)
    unfold wpOpIn at h2 ⊢
    split
    · rename_i ho; rw [ho] at h2; exact h2
    · rename_i o ho
      rw [ho] at h2
      simp only at h2 ⊢
      split
      · rename_i hw
        rw [if_pos hw] at h2
        unfold Oper.wpIn at h2 ⊢
        refine ⟨h2.1, ?_⟩
        have e : o.semAt (F.inRound l).round a.eval = o.semAt F.round a.eval := by
          rw [Oper.semAt_eq _ _ _ (noDefer_at hd ho), Oper.semAt_eq _ _ _ (noDefer_at hd ho)]
        rw [e]
        exact upon_round l h2.2
      · rename_i hw
        rw [if_neg hw] at h2
        exact h2
end Go.Proofs.YtnjlljdbghcobaaGreatDoor
