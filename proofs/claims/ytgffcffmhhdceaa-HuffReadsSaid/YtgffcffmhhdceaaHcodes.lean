/- Contract of huff.Codes. -/
import Derived.Test.YtgffcffmhhdceaaHcoded
import Derived.Deep.OwnRows
namespace Go.Proofs.Ytgffcffmhhdceaa
open Go.RowKit Go.Shelf

attribute [local go_sem] Oper.semAt_some

theorem coded_stops (n : Nat) (hn : 1 ≤ n) (Bs C : Nat) (sv : Value) (ls : List Nat) (h15 : ∀ i, i < ls.length → Hf.ln ls i ≤ 15) (hp : Hf.pf ls (Hf.ordl ls).length ≤ 32768) (w : World) (hBs : Bs < w.heap.size)
    (hc : w.cell? ⟨Bs, 0, none⟩ = some sv) (hBC : Bs ≠ C) (hC : C < w.heap.size) (hL : Lsl w.heap.size w sv ls) (hCb : ∀ b off len cap, sv = .slice (some ⟨b, off, none⟩) len cap → b ≠ C) :
    SeqStopsK Fence.wide n Try.prog 43 #[.pointer (some ⟨Bs, 0, none⟩)] (fun x : Pr ls.length => #[Value.int .i64 (x.1.1 : Int), Value.int .i64 (x.1.2 : Int)]) (KeepC C) (fun ys => Tells ls (Hf.ordl ls).length ys) (fun _ => True) (Hf.ordl ls).length w := fun l J Jx W hW hJ _ hY h0 => by
  refine coded1_in n hn l Bs C sv ls h15 hp J Jx hY W hJ ((hW.cell (p := ⟨Bs, 0, none⟩) hBs).trans hc) hBC (Nat.lt_of_lt_of_le hC hW.size) ?_ hCb h0
  obtain ⟨b, off, cap, e1, e2, e3, e4, e5⟩ := hL.below hW
  exact ⟨b, off, cap, e1, e2, e3, Nat.lt_of_lt_of_le e4 hW.size, e5⟩

/-- What lengths take, said of symbols. -/
theorem takes_tk (ls : List Nat) (h15 : ∀ i, i < ls.length → Hf.ln ls i ≤ 15) (k : Nat) (hk : k ≤ ls.length) : takesOf (usedTo ls k) = Hf.tk ls (fun x => decide (0 < x)) k := by
  induction k with
  | zero => rfl
  | succ k ih =>
    have h := h15 k (by omega)
    simp only [usedTo, Hf.tk]
    by_cases h0 : ls[k]?.getD 0 = 0
    · rw [if_pos h0, List.append_nil, if_neg (by show ¬ decide (0 < ls[k]?.getD 0) = true; simp [h0]), ih (by omega)]; omega
    · have h1 : 0 < Hf.ln ls k := by show 0 < ls[k]?.getD 0; omega
      rw [if_neg h0, takesOf_snoc, ih (by omega), if_pos (by simpa using h1)]
      congr 1
      show 32768 / 2 ^ min (Hf.ln ls k) 64 = _
      rw [Nat.min_eq_left (by omega)]
      have e : (32768 : Nat) = 2 ^ (15 - Hf.ln ls k) * 2 ^ Hf.ln ls k := by rw [← Nat.pow_add, show 15 - Hf.ln ls k + Hf.ln ls k = 15 by omega]
      rw [e, Nat.mul_div_cancel _ (Nat.two_pow_pos _)]
theorem takes_pf (ls : List Nat) (h15 : ∀ i, i < ls.length → Hf.ln ls i ≤ 15) : Hf.pf ls (Hf.ordl ls).length = takes ls := by
  rw [Hf.pf_all ls h15]
  exact (takes_tk ls h15 _ (Nat.le_refl _)).symm

/-- May lengths have codes? -/
def Fit (zs : List Int) : Prop := chk zs = 0 ∨ chk zs = 12
instance (zs : List Int) : Decidable (Fit zs) := by unfold Fit; infer_instance
theorem Fit.valid {zs : List Int} (h : Fit zs) : Valid zs := by
  by_cases hv : Valid zs
  · exact hv
  · unfold Fit chk at h; rw [if_neg hv] at h; omega
theorem Fit.pf {zs : List Int} (h : Fit zs) : Hf.pf (nat zs) (Hf.ordl (nat zs)).length ≤ 32768 := by
  have hv := h.valid
  rw [takes_pf _ (fun i hi => hv.le i hi)]
  unfold Fit chk cmpr at h
  rw [if_pos hv] at h
  by_cases g : 32768 < takes (nat zs)
  · rw [if_pos g] at h; omega
  · omega

/-- Where codes are refused. -/
def NoCodes (w : World) (c : Int) (e : Ending) (w' : World) : Prop := e = .returned (.tuple #[.slice none 0 0, .int .i64 c]) ∧ Below w.heap.size w w'
/-- Where there are codes: in memory of their own. -/
def CodesPost (w : World) (xs : List Nat) (e : Ending) (w' : World) : Prop := ∃ v, e = .returned (.tuple #[v, .int .i64 0]) ∧ Il w.heap.size w' v xs ∧ Below w.heap.size w w'

set_option maxHeartbeats 1000000 in
theorem codes_no (zs : List Int) (s : Value) (w : World) (hz : Zl w s zs) (hf : ¬ Fit zs) : Calls Try.prog 11 #[s] w (NoCodes w (chk zs)) := by
  have HC := check_any zs s w hz
  obtain ⟨a, len, cap, rfl, hl⟩ := hz.shape
  unfold Fit at hf
  generalize chk zs = c at HC hf ⊢
  have h1 : (c != 0) = true := by rw [bne_iff_ne]; omega
  have h2 : (c != 12) = true := by rw [bne_iff_ne]; omega
  clear hz hf hl
  go_enter Try.func11, Try.ntmps11
  go_wp2_with fail
  refine HC.mono ?_
  clear HC
  rintro e w' ⟨rfl, hb⟩
  have HB := Lib.hid hb
  clear hb
  go_wp2
  go_ret2
  exact ⟨rfl, HB.out⟩

theorem keepC_set (W : World) (C i : Nat) (v : Value) : KeepC C W (W.setCell ⟨C, i, none⟩ v) := fun k _ h _ hne => (Below.heap_setCell W ⟨C, i, none⟩ v k hne).trans h
theorem row_kept {W W' : World} {g n : Nat} {d : Nat → Nat} {row : Option Nat} (h : Rw W g n d) (hg : W.grownBy W' row) (hr : ∀ r, row = some r → ∃ o : Obj, W.heap[r]? = some o ∧ o.isCells = false) : Rw W' g n d :=
  ⟨Nat.lt_of_lt_of_le h.lt hg.size, fun i hi => cell_kept (h.cell i hi) hg hr, fun i hi => (frozen_kept (h.cell i hi) hg hr).trans (h.free i hi)⟩
theorem row_set {W : World} {g n : Nat} {d d' : Nat → Nat} (h : Rw W g n d) (p v : Nat) (hp : p < n) (hd : ∀ i, i < n → d' i = if i = p then v else d i) : Rw (W.setCell ⟨g, p, none⟩ (.int .i64 (v : Int))) g n d' := by
  refine ⟨by simpa using h.lt, fun i hi => ?_, fun i hi => by rw [World.frozen?_setCell]; exact h.free i hi⟩
  rw [hd i hi]
  by_cases e : i = p
  · rw [if_pos e, e]
    exact World.cell?_setCell_same' _ _ _ (by rw [h.cell p hp]; rfl)
  · rw [if_neg e, World.cell?_setCell_other _ _ _ _ (addr_ne g (by omega))]
    exact h.cell i hi

theorem made_nat (w : World) (n : Nat) : Rw (w.alloc (.cells (madeCells #[Value.int .i64 0] n) 3)) w.heap.size n (fun _ => 0) := by
  have h : Has (w.alloc (.cells (madeCells #[Value.int .i64 0] n) 3)) w.heap.size (.cells (madeCells #[Value.int .i64 0] n) 3 (0, 0)) := Has.new w _
  refine ⟨by simp, fun i hi => ?_, fun i _ => h.free i⟩
  rw [h.cell i]
  rw [← Array.getElem?_toList, toList_madeCells_one]
  simp [hi]

theorem codes_world (w1 : World) (len : Nat) (a : Option Addr) (cap : Nat) (w3 : World) (hw : w3 = ((w1.alloc (.cells (madeCells #[Value.int IntKind.i64 0] len) 3)).alloc (.cells #[Value.slice (some ⟨w1.heap.size, 0, none⟩) len len] 22)).alloc (.cells #[Value.slice a len cap] 22)) :
    Rw w3 w1.heap.size len (fun i => (Hf.outOf len (([] : List (Pr len)).map Subtype.val))[i]?.getD 0) ∧ w3.cell? ⟨w1.heap.size + 1, 0, none⟩ = some (.slice (some ⟨w1.heap.size, 0, none⟩) len len) ∧
      w3.cell? ⟨w1.heap.size + 1 + 1, 0, none⟩ = some (.slice a len cap) ∧ Below w1.heap.size w1 w3 := by
  subst hw
  have h1 := made_nat w1 len
  have b2 := Boxed.new (w1.alloc (.cells (madeCells #[Value.int IntKind.i64 0] len) 3)) 22 (.slice (some ⟨w1.heap.size, 0, none⟩) len len)
  have b3 := Boxed.new ((w1.alloc (.cells (madeCells #[Value.int IntKind.i64 0] len) 3)).alloc (.cells #[Value.slice (some ⟨w1.heap.size, 0, none⟩) len len] 22)) 22 (.slice a len cap)
  have e2 : (w1.alloc (.cells (madeCells #[Value.int IntKind.i64 0] len) 3)).heap.size = w1.heap.size + 1 := by simp
  have e3 : ((w1.alloc (.cells (madeCells #[Value.int IntKind.i64 0] len) 3)).alloc (.cells #[Value.slice (some ⟨w1.heap.size, 0, none⟩) len len] 22)).heap.size = w1.heap.size + 1 + 1 := by simp
  rw [e2] at b2
  rw [e3] at b3
  refine ⟨?_, (b2.alloc _).cell, b3.cell, below3 _ _ _ _⟩
  have hk := (row_kept (row_kept h1 (World.grownBy_alloc _ (.cells #[Value.slice (some ⟨w1.heap.size, 0, none⟩) len len] 22) none) (fun r e => by cases e)) (World.grownBy_alloc _ (.cells #[Value.slice a len cap] 22) none) (fun r e => by cases e))
  refine ⟨hk.lt, fun i hi => ?_, hk.free⟩
  rw [hk.cell i hi]
  simp [Hf.outOf, hi]

theorem codes_step {w W : World} {C len : Nat} {ps : List (Nat × Nat)} (hr : Rw W C len (fun i => (Hf.outOf len ps)[i]?.getD 0)) (hcB : W.cell? ⟨C + 1, 0, none⟩ = some (.slice (some ⟨C, 0, none⟩) len len)) (hB : Below w.heap.size w W) (x : Nat × Nat) (hx : x.1 < len) (hC : w.heap.size ≤ C) :
    (Rw (W.setCell ⟨C, x.1, none⟩ (.int .i64 (x.2 : Int))) C len (fun i => (Hf.outOf len (ps ++ [x]))[i]?.getD 0) ∧ (W.setCell ⟨C, x.1, none⟩ (.int .i64 (x.2 : Int))).cell? ⟨C + 1, 0, none⟩ = some (.slice (some ⟨C, 0, none⟩) len len)) ∧ Below w.heap.size w (W.setCell ⟨C, x.1, none⟩ (.int .i64 (x.2 : Int))) := by
  refine ⟨⟨row_set hr x.1 x.2 hx fun i hi => ?_, ?_⟩, hB.setCell (p := ⟨C, x.1, none⟩) hC _⟩
  · rw [Hf.outOf_snoc]
    by_cases e : i = x.1
    · rw [if_pos e, e, List.getElem?_set_self (by rw [Hf.outOf_length]; exact hx)]; rfl
    · rw [if_neg e, List.getElem?_set_ne (by omega)]
  · rw [World.cell?_setCell_other _ _ _ _ (fun e => by cases e)]
    exact hcB

theorem codes_done {w w1 W : World} {len D : Nat} {ls : List Nat} {ys : List (Pr ls.length)} (hr : Rw W w1.heap.size len (fun i => (Hf.outOf len (ys.map Subtype.val))[i]?.getD 0)) (hl : len = ls.length) (hT : Tells ls (Hf.ordl ls).length ys) (hB : Below w.heap.size w W)
    (hsz : w.heap.size ≤ w1.heap.size) (hD : w.heap.size ≤ D) (hK : W.heap[D]? = some (.deferred (some []))) :
    Il w.heap.size (W.putObj D (.deferred none)) (.slice (some ⟨w1.heap.size, 0, none⟩) len len) (Hf.codes ls) ∧ Below w.heap.size w (W.putObj D (.deferred none)) := by
  have e : Hf.outOf len (ys.map Subtype.val) = Hf.codes ls := by rw [show ys.map Subtype.val = _ from hT, hl]; rfl
  have hDW := (Array.getElem?_eq_some_iff.1 hK).1
  refine ⟨Or.inr ⟨w1.heap.size, len, by rw [Hf.codes_length, hl], by rw [Hf.codes_length, hl]; exact Nat.le_refl _, hsz, ?_⟩, hB.trans ((Below.refl w.heap.size W).grown (grownBy_putObj' W D _) (by omega) (fun k e => by cases e; omega))⟩
  rw [Hf.codes_length, ← hl, ← e]
  exact row_kept hr (grownBy_putObj' W D _) (fun r e => by cases e; exact ⟨_, hK, rfl⟩)

set_option maxRecDepth 100000 in
set_option maxHeartbeats 4000000 in
theorem codes_in (n : Nat) (hn : 3 ≤ n) (zs : List Int) (s : Value) (w : World) (hz : Zl w s zs) (hf : Fit zs) : CallsIn Fence.wide n Try.prog 11 #[s] w (CodesPost w (Hf.codes (nat zs))) := by
  have h1 : 1 ≤ n := by omega
  have HC := check_any zs s w hz
  have HL := Lib.hid (hf.valid.lsl hz (Nat.le_refl _))
  have HF := Lib.hid hf
  obtain ⟨a, len, cap, rfl, hl⟩ := hz.shape
  have hl2 : len ≤ 288 := by have := hf.valid.2.1; omega
  have hl1 : 0 < len := by have := hf.valid.1; omega
  have HLN : Hid (len = (nat zs).length) := by show _ = _; rw [nat_length, hl]
  unfold Fit at hf
  obtain ⟨c, hc⟩ : ∃ c, c = chk zs := ⟨_, rfl⟩
  rw [← hc] at HC hf
  have hmk := run_make_row' (P := Try.prog) 22 3 (.int .i64 0) 8 Try.underlying22 Try.infoInt rfl .i64 .i64 len (by omega) (by omega)
  clear hz hl hc
  refine callsIn_of_wp_marks Try.func11 rfl trivial ?_ rfl
  simp only [Try.ntmps11, List.size_toArray, List.length_cons, List.length_nil, Nat.reduceAdd, Nat.reduceSub, Array.replicate_succ, Array.replicate_zero, List.push_toArray, List.append_toArray, List.nil_append, List.cons_append]
  rcases hf with rfl | rfl
  · gi_wp2_with (first | (refine ⟨trivial, ?_⟩; gi_at_call 13; refine (callsIn_wide.2 HC).mono ?_; rintro e w1 ⟨rfl, hb1⟩) | (refine ⟨trivial, ?_⟩; gi_at_call 25; refine (coded_in (n - 1) _ _ _ _ rfl _).mono ?_; rintro e w' ⟨rfl, rfl⟩))
    have hz3 : (((w1.alloc (.cells (madeCells #[Value.int IntKind.i64 0] len) 3)).alloc (.cells #[Value.slice (some ⟨w1.heap.size, 0, none⟩) len len] 22)).alloc (.cells #[Value.slice a len cap] 22)).heap.size = w1.heap.size + 3 := by simp
    obtain ⟨w3, hw3⟩ : ∃ w3, w3 = ((w1.alloc (.cells (madeCells #[Value.int IntKind.i64 0] len) 3)).alloc (.cells #[Value.slice (some ⟨w1.heap.size, 0, none⟩) len len] 22)).alloc (.cells #[Value.slice a len cap] 22) := ⟨_, rfl⟩
    obtain ⟨F1, F2, F3, F4⟩ := codes_world w1 len a cap w3 hw3
    rw [← hw3] at hz3 ⊢
    have hsz1 := hb1.size
    have hB3 : Below w.heap.size w w3 := hb1.trans (F4.mono hsz1)
    have hLs : Lsl w.heap.size w3 (.slice a len cap) (nat zs) := HL.out.below hB3
    have hbb : ∀ b off len' cap', Value.slice a len cap = .slice (some ⟨b, off, none⟩) len' cap' → b ≠ w1.heap.size := by
      intro b' off' len' cap' e
      obtain ⟨b, off, cap2, e1, _, _, e4, _⟩ := HL.out
      rw [e1] at e; cases e; omega
    have hLs2 : Lsl w3.heap.size w3 (.slice a len cap) (nat zs) := by
      obtain ⟨b, off, cap2, e1, e2, e3, e4, e5⟩ := hLs
      exact ⟨b, off, cap2, e1, e2, e3, by omega, e5⟩
    have hv := HF.out.valid
    clear hw3
    refine wpIn_rangeFunc_ownG rfl h1 (gf := 43) (lb := #[.pointer (some ⟨w1.heap.size + 1 + 1, 0, none⟩)]) rfl trivial (enters_of Try.func43 (by kernel_rfl) rfl)
      (coded_stops (n - 1) (by omega) (w1.heap.size + 1 + 1) w1.heap.size _ (nat zs) (fun i hi => hv.le i hi) HF.out.pf w3 (by omega) F3 (by omega) (by omega) hLs2 hbb) keepC_t keepC_b (Below.refl _ _) (fun _ => rfl)
      (fun pre W => (Rw W w1.heap.size len (fun i => (Hf.outOf len (pre.map Subtype.val))[i]?.getD 0) ∧ W.cell? ⟨w1.heap.size + 1, 0, none⟩ = some (.slice (some ⟨w1.heap.size, 0, none⟩) len len)) ∧ Below w.heap.size w W)
      (fun _ _ _ => False)
      (OwnFrom.and (Own.from (fun s A B row hs hg hr => ⟨row_kept hs.1 hg hr, cell_kept hs.2 hg hr⟩) _) (ownFrom_below (Nat.le_refl _) (by omega)))
      (fun _ _ _ _ _ hs _ _ => hs)
      ⟨⟨F1, F2⟩, hB3⟩
      (fun x => { tmps := #[.slice a len cap, undef, .slice none 0 0, .int .i64 0, .int .i64 0, .pointer (some ⟨w1.heap.size + 1, 0, none⟩), .int .i64 (x.1.1 : Int), .int .i64 (x.1.2 : Int), .slice a len cap, .int .i64 0, .int .i64 0, .bool false, .bool false, undef, undef, .bool false, undef, .slice a len cap, .int .i64 (len : Int), .slice (some ⟨w1.heap.size, 0, none⟩) len len, .slice a len cap, .func (.func 43) #[] #[.pointer (some ⟨w1.heap.size + 1 + 1, 0, none⟩)], .int .i64 (x.1.1 : Int), .int .i64 (x.1.2 : Int), undef, undef, undef, undef, undef], defers := [] }) ?assign ?body ?done ?stop
    case assign =>
      intro l x W K hK
      gi_wp2
      exact hK
    case body =>
      rintro l pre x W ⟨⟨hr, hcB⟩, hB⟩ hlt
      have hx : x.1.1 < len := by have := x.2; have := HLN.out; omega
      have st := codes_step hr hcB hB x.1 hx (by omega)
      have ST := Lib.hid st
      have hcx := hr.cell x.1.1 hx
      have hfx := hr.free x.1.1 hx
      obtain ⟨q, hq⟩ : ∃ q, q = x.1.1 := ⟨_, rfl⟩
      obtain ⟨r, hr2⟩ : ∃ r, r = x.1.2 := ⟨_, rfl⟩
      rw [← hq] at hx hcx hfx ST ⊢
      rw [← hr2] at ST ⊢
      have HQ := Lib.hid hq
      clear st hr hq hr2
      gi_wp2
      have ST2 := ST.out
      rw [show List.map Subtype.val pre ++ [x.1] = List.map Subtype.val (pre ++ [x]) by simp] at ST2
      exact ⟨(KeepsOthers.setCell _ _ _).from _, keepC_set _ _ _ _, ST2⟩
    case done =>
      rintro D ys W hD hT ⟨⟨hr, hcB⟩, hB⟩ hK
      gi_wp2
      have fin := codes_done hr HLN.out hT hB hsz1 (by omega) hK
      refine ⟨by simp, .inl ⟨_, _, rfl, run_takeDeferred hK, ?_⟩⟩
      refine ⟨.tuple #[.slice (some ⟨w1.heap.size, 0, none⟩) len len, .int .i64 0], by simp [results, Try.f11, go_sem], ?_⟩
      exact ⟨_, rfl, fin.1, fin.2⟩
    case stop =>
      rintro D c pre W _ _ h _
      exact h.elim
  · gi_wp2_with (first | (refine ⟨trivial, ?_⟩; gi_at_call 13; refine (callsIn_wide.2 HC).mono ?_; rintro e w1 ⟨rfl, hb1⟩) | (refine ⟨trivial, ?_⟩; gi_at_call 25; refine (coded_in (n - 1) _ _ _ _ rfl _).mono ?_; rintro e w' ⟨rfl, rfl⟩))
    have hz3 : (((w1.alloc (.cells (madeCells #[Value.int IntKind.i64 0] len) 3)).alloc (.cells #[Value.slice (some ⟨w1.heap.size, 0, none⟩) len len] 22)).alloc (.cells #[Value.slice a len cap] 22)).heap.size = w1.heap.size + 3 := by simp
    obtain ⟨w3, hw3⟩ : ∃ w3, w3 = ((w1.alloc (.cells (madeCells #[Value.int IntKind.i64 0] len) 3)).alloc (.cells #[Value.slice (some ⟨w1.heap.size, 0, none⟩) len len] 22)).alloc (.cells #[Value.slice a len cap] 22) := ⟨_, rfl⟩
    obtain ⟨F1, F2, F3, F4⟩ := codes_world w1 len a cap w3 hw3
    rw [← hw3] at hz3 ⊢
    have hsz1 := hb1.size
    have hB3 : Below w.heap.size w w3 := hb1.trans (F4.mono hsz1)
    have hLs : Lsl w.heap.size w3 (.slice a len cap) (nat zs) := HL.out.below hB3
    have hbb : ∀ b off len' cap', Value.slice a len cap = .slice (some ⟨b, off, none⟩) len' cap' → b ≠ w1.heap.size := by
      intro b' off' len' cap' e
      obtain ⟨b, off, cap2, e1, _, _, e4, _⟩ := HL.out
      rw [e1] at e; cases e; omega
    have hLs2 : Lsl w3.heap.size w3 (.slice a len cap) (nat zs) := by
      obtain ⟨b, off, cap2, e1, e2, e3, e4, e5⟩ := hLs
      exact ⟨b, off, cap2, e1, e2, e3, by omega, e5⟩
    have hv := HF.out.valid
    clear hw3
    refine wpIn_rangeFunc_ownG rfl h1 (gf := 43) (lb := #[.pointer (some ⟨w1.heap.size + 1 + 1, 0, none⟩)]) rfl trivial (enters_of Try.func43 (by kernel_rfl) rfl)
      (coded_stops (n - 1) (by omega) (w1.heap.size + 1 + 1) w1.heap.size _ (nat zs) (fun i hi => hv.le i hi) HF.out.pf w3 (by omega) F3 (by omega) (by omega) hLs2 hbb) keepC_t keepC_b (Below.refl _ _) (fun _ => rfl)
      (fun pre W => (Rw W w1.heap.size len (fun i => (Hf.outOf len (pre.map Subtype.val))[i]?.getD 0) ∧ W.cell? ⟨w1.heap.size + 1, 0, none⟩ = some (.slice (some ⟨w1.heap.size, 0, none⟩) len len)) ∧ Below w.heap.size w W)
      (fun _ _ _ => False)
      (OwnFrom.and (Own.from (fun s A B row hs hg hr => ⟨row_kept hs.1 hg hr, cell_kept hs.2 hg hr⟩) _) (ownFrom_below (Nat.le_refl _) (by omega)))
      (fun _ _ _ _ _ hs _ _ => hs)
      ⟨⟨F1, F2⟩, hB3⟩
      (fun x => { tmps := #[.slice a len cap, undef, .slice none 0 0, .int .i64 0, .int .i64 12, .pointer (some ⟨w1.heap.size + 1, 0, none⟩), .int .i64 (x.1.1 : Int), .int .i64 (x.1.2 : Int), .slice a len cap, .int .i64 12, .int .i64 12, .bool true, .bool true, .int .i64 12, .bool false, .bool false, undef, .slice a len cap, .int .i64 (len : Int), .slice (some ⟨w1.heap.size, 0, none⟩) len len, .slice a len cap, .func (.func 43) #[] #[.pointer (some ⟨w1.heap.size + 1 + 1, 0, none⟩)], .int .i64 (x.1.1 : Int), .int .i64 (x.1.2 : Int), undef, undef, undef, undef, undef], defers := [] }) ?assign ?body ?done ?stop
    case assign =>
      intro l x W K hK
      gi_wp2
      exact hK
    case body =>
      rintro l pre x W ⟨⟨hr, hcB⟩, hB⟩ hlt
      have hx : x.1.1 < len := by have := x.2; have := HLN.out; omega
      have st := codes_step hr hcB hB x.1 hx (by omega)
      have ST := Lib.hid st
      have hcx := hr.cell x.1.1 hx
      have hfx := hr.free x.1.1 hx
      obtain ⟨q, hq⟩ : ∃ q, q = x.1.1 := ⟨_, rfl⟩
      obtain ⟨r, hr2⟩ : ∃ r, r = x.1.2 := ⟨_, rfl⟩
      rw [← hq] at hx hcx hfx ST ⊢
      rw [← hr2] at ST ⊢
      have HQ := Lib.hid hq
      clear st hr hq hr2
      gi_wp2
      have ST2 := ST.out
      rw [show List.map Subtype.val pre ++ [x.1] = List.map Subtype.val (pre ++ [x]) by simp] at ST2
      exact ⟨(KeepsOthers.setCell _ _ _).from _, keepC_set _ _ _ _, ST2⟩
    case done =>
      rintro D ys W hD hT ⟨⟨hr, hcB⟩, hB⟩ hK
      gi_wp2
      have fin := codes_done hr HLN.out hT hB hsz1 (by omega) hK
      refine ⟨by simp, .inl ⟨_, _, rfl, run_takeDeferred hK, ?_⟩⟩
      refine ⟨.tuple #[.slice (some ⟨w1.heap.size, 0, none⟩) len len, .int .i64 0], by simp [results, Try.f11, go_sem], ?_⟩
      exact ⟨_, rfl, fin.1, fin.2⟩
    case stop =>
      rintro D c pre W _ _ h _
      exact h.elim

theorem codes_ok (zs : List Int) (s : Value) (w : World) (hz : Zl w s zs) (hf : Fit zs) : Calls Try.prog 11 #[s] w (CodesPost w (Hf.codes (nat zs))) := callsIn_wide.1 (codes_in 3 (Nat.le_refl _) zs s w hz hf)
end Go.Proofs.Ytgffcffmhhdceaa
