/- Contract of slots' state.header: the header that says so. -/
import Derived.Test.YthbiibinmofmfaaZleaf
import Derived.Test.YthbiibinmofmfaaEnow
import Derived.Lib.SlBytesConst

namespace Go.Proofs.Ythbiibinmofmfaa
set_option maxRecDepth 100000
open Go.RowKit

theorem Try.infoHeader : (Try.prog.info? 100).map (fun i => (i.zero, i.size, i.bytes)) = some (some (.agg (vb zrow).toArray), 512, 512) := by kernel_rfl
theorem header_zero (w : World) : (zeroValue 100).run Try.prog w = .ok (.agg (vb zrow).toArray) w := (zero_of_parts Try.infoHeader).1 w
theorem header_size : (Try.prog.info? 100).map (·.size) = some 512 := (zero_of_parts Try.infoHeader).2
theorem header_alloc (w : World) (old : Value) : (Instr.alloc 100 true old).run Try.prog w = .ok (.pointer (some ⟨w.heap.size, 0, none⟩)) (w.alloc (.cells (vb zrow).toArray 100)) :=
  run_alloc_zero w _ _ old header_zero
/-- A row that lies in a block, whole. -/
theorem Has.range {w : World} {g : Nat} {r : List Nat} {t : TypeId} (h : Has w g (.cells (vb r).toArray t (0, 0))) : w.rangeAt g 0 (vb r) := fun j v hv => by
  rw [Nat.zero_add, h.cell, List.getElem?_toArray]; exact hv
theorem Has.there {w : World} {g : Nat} {r : List Nat} {t : TypeId} (h : Has w g (.cells (vb r).toArray t (0, 0))) : w.there g 0 r.length := fun j hj => by
  refine ⟨?_, h.free _⟩
  rw [Nat.zero_add, h.cell, List.getElem?_toArray, vb_get, List.getElem?_eq_getElem hj]; rfl
theorem header_load {w : World} {g : Nat} {r : List Nat} (h : Has w g (.cells (vb r).toArray 100 (0, 0))) (hr : r.length = 512) : (loadVar 100 ⟨g, 0, none⟩).run Try.prog w = .ok (.agg (vb r).toArray) w :=
  run_loadVar_mid w g 0 100 (vb r) _ h.range Try.underlying100 rfl (by rw [header_size, vb_length, hr])
theorem header_loadAt {w : World} {g : Nat} {r : List Nat} (h : Has w g (.cells (vb r).toArray 100 (0, 0))) (hr : r.length = 512) : (Instr.loadAt 100 (.pointer (some ⟨g, 0, none⟩))).run Try.prog w = .ok (.agg (vb r).toArray) w :=
  run_loadAt_mid w g 0 100 (vb r) _ h.range Try.underlying100 rfl (by rw [header_size, vb_length, hr])

theorem Only.trans {g : Nat} {w w1 w2 : World} (h : Only g w w1) (h' : Only g w1 w2) : Only g w w2 :=
  ⟨h'.os.trans h.os, h'.tape.trans h.tape, h'.output.trans h.output, Nat.le_trans h.size h'.size, fun k hk hne => (h'.block k (Nat.lt_of_lt_of_le hk h.size) hne).trans (h.block k hk hne)⟩
theorem Only.cell (w : World) (g o : Nat) (v : Value) : Only g w (w.setCell ⟨g, o, none⟩ v) :=
  ⟨rfl, rfl, rfl, by simp, fun k _ hne => Below.heap_setCell w ⟨g, o, none⟩ v k hne⟩
/-- Cells behind the first ones are set. -/
theorem setCells_only (g : Nat) (t : TypeId) : ∀ (vs pre old : List Value) (w : World), Has w g (.cells (pre ++ old).toArray t (0, 0)) → old.length = vs.length →
    Has (w.setCells g pre.length vs) g (.cells (pre ++ vs).toArray t (0, 0)) ∧ Only g w (w.setCells g pre.length vs)
  | [], pre, old, w, h, hl => by
    obtain rfl : old = [] := List.eq_nil_of_length_eq_zero hl
    exact ⟨h, Only.refl _ _⟩
  | v :: vs, pre, [], w, h, hl => by simp at hl
  | v :: vs, pre, x :: old, w, h, hl => by
    have h1 := h.setSelf (i := pre.length) v
    have e : ((pre ++ x :: old).toArray.setIfInBounds pre.length v) = ((pre ++ [v]) ++ old).toArray := by
      rw [List.setIfInBounds_toArray]; simp
    rw [e] at h1
    obtain ⟨h2, h3⟩ := setCells_only g t vs (pre ++ [v]) old _ h1 (by simpa using hl)
    rw [List.length_append, List.length_singleton, List.append_assoc] at h2
    rw [List.length_append, List.length_singleton] at h3
    exact ⟨h2, (Only.cell w g pre.length v).trans h3⟩
/-- A row is stored whole into a block that lies there. -/
theorem wpList_store_whole {ops : Array Oper} {rest : List Oper} {op : Oper} {a : Act} {w : World} {Q : Exit → Act → World → Prop} (hgd : op.guard = none) (ty : TypeId) (x y : Operand) (ho : op.op = .store ty x y)
    (g : Nat) (t : TypeId) (r s : List Nat) (hx : a.eval x = .pointer (some ⟨g, 0, none⟩)) (hy : a.eval y = .agg (vb s).toArray) (hg : Has w g (.cells (vb r).toArray t (0, 0))) (hrs : r.length = s.length)
    (hi : (Try.prog.info? ty).map (·.size) = some s.length)
    (h : ∀ w', Hid (Has w' g (.cells (vb s).toArray t (0, 0))) → Only g w w' → wpList Try.prog ops Q rest (a.put op.dst undef) w') : wpList Try.prog ops Q (op :: rest) a w := by
  obtain ⟨h1, h2⟩ := setCells_only g t (vb s) [] (vb r) w hg (by rw [vb_length, vb_length]; exact hrs)
  have ht := hg.there
  refine wpList_store_mid hgd ty x y ho g 0 (vb s).toArray hx hy (by rw [List.size_toArray, vb_length, ← hrs]; exact ht) (by rw [List.size_toArray, vb_length]; exact hi) (all_oneCell_toArray (oneCell_vb s)) ?_
  exact h _ h1 h2

/-- A struct of four numbers in a block. -/
def sts (s : Sk.St) : Value := .agg #[.int .i64 (s.gen : Int), .int .i64 (s.slot : Int), .int .i64 (s.size : Int), .int .i64 (s.sum : Int)]
theorem Mine.below {w w' : World} {B : Nat} {a : Option Addr} {n cap : Nat} {l : List Nat} (h : Mine w B a n cap l) (hn : n ≤ 1000) (hb : Below w.heap.size w w') : Sl w' (.slice a n cap) l := (h.sl (by omega)).later hb
theorem Mine.cap {w : World} {B : Nat} {a : Option Addr} {n cap : Nat} {l : List Nat} (h : Mine w B a n cap l) : n ≤ cap := by
  obtain ⟨a', c', e, hc⟩ := own_len h.1
  injection e with e1 e2 e3
  omega

/-- The header's first four bytes, as the conversion of a constant leaves them. -/
theorem mark_sl {w : World} {g : Nat} (h : Has w g (.cells #[.int .u8 86, .int .u8 65, .int .u8 76, .int .u8 83] 5 (4, 5))) : Sl w (.slice (some ⟨g, 0, none⟩) 4 4) Sk.mark := by
  refine ⟨_, 4, 4, rfl, rfl, by omega, fun h => (by cases h), fun x hx => ?_, fun _ => ⟨g, 0, rfl, h.lt, fun i hi => ?_⟩⟩
  · simp only [Sk.mark, List.mem_cons, List.not_mem_nil, or_false] at hx; omega
  · rw [Nat.zero_add, World.cell?, h]
    rcases i with _ | _ | _ | _ | i
    all_goals first | rfl | omega

set_option maxRecDepth 100000 in
set_option maxHeartbeats 4000000 in
theorem header_any (g sl sz sm : Nat) (hf : Sk.Fits ⟨g, sl, sz, sm⟩) (w : World) :
    Calls Try.prog 60 #[.agg #[.int .i64 (g : Int), .int .i64 (sl : Int), .int .i64 (sz : Int), .int .i64 (sm : Int)]] w fun e w' => e = .returned (.agg (vb (Sk.header ⟨g, sl, sz, sm⟩)).toArray) ∧ Below w.heap.size w w' := by
  have hal := header_zero
  have e2 : ((w.alloc (.cells #[.int .i64 (g : Int), .int .i64 (sl : Int), .int .i64 (sz : Int), .int .i64 (sm : Int)] 67)).alloc (.cells (vb zrow).toArray 100)).heap.size = w.heap.size + 1 + 1 := by simp
  have e3 : (((w.alloc (.cells #[.int .i64 (g : Int), .int .i64 (sl : Int), .int .i64 (sz : Int), .int .i64 (sm : Int)] 67)).alloc (.cells (vb zrow).toArray 100)).alloc (.cells #[.int .u8 86, .int .u8 65, .int .u8 76, .int .u8 83] 5 (4, 5))).heap.size = w.heap.size + 1 + 1 + 1 := by simp
  have kc := Lib.run_convert_bytes_const (P := Try.prog) ((w.alloc (.cells #[.int .i64 (g : Int), .int .i64 (sl : Int), .int .i64 (sz : Int), .int .i64 (sm : Int)] 67)).alloc (.cells (vb zrow).toArray 100)) 35 5 #[.int .u8 86, .int .u8 65, .int .u8 76, .int .u8 83] 4 4 Try.underlying35 Try.underlying5
  rw [e2, show (#[Value.int .u8 86, .int .u8 65, .int .u8 76, .int .u8 83] : Array Value).size = 4 from rfl, show 4 + 1 = 5 from rfl] at kc
  obtain ⟨w4, hW⟩ : ∃ x, x = (((w.alloc (.cells #[.int .i64 (g : Int), .int .i64 (sl : Int), .int .i64 (sz : Int), .int .i64 (sm : Int)] 67)).alloc (.cells (vb zrow).toArray 100)).alloc (.cells #[.int .u8 86, .int .u8 65, .int .u8 76, .int .u8 83] 5 (4, 5))).alloc (.cells #[.int .i64 (g : Int), .int .i64 (sl : Int), .int .i64 (sz : Int), .int .i64 (sm : Int)] 3) := ⟨_, rfl⟩
  have HB4 : Hid (Below w.heap.size w w4) := by rw [hW]; exact (below3 w _ _ _).trans ((below1 _ _).mono (by rw [e3]; omega))
  have HZ4 : Hid (Has w4 (w.heap.size + 1) (.cells (vb zrow).toArray 100 (0, 0))) := by
    have := ((Has.new (w.alloc (.cells #[.int .i64 (g : Int), .int .i64 (sl : Int), .int .i64 (sz : Int), .int .i64 (sm : Int)] 67)) (.cells (vb zrow).toArray 100)).alloc (.cells #[.int .u8 86, .int .u8 65, .int .u8 76, .int .u8 83] 5 (4, 5))).alloc (.cells #[.int .i64 (g : Int), .int .i64 (sl : Int), .int .i64 (sz : Int), .int .i64 (sm : Int)] 3)
    rw [show (w.alloc (.cells #[.int .i64 (g : Int), .int .i64 (sl : Int), .int .i64 (sz : Int), .int .i64 (sm : Int)] 67)).heap.size = w.heap.size + 1 by simp] at this
    rw [hW]; exact this
  have HM4 : Hid (Sl w4 (.slice (some ⟨w.heap.size + 1 + 1, 0, none⟩) 4 4) Sk.mark) := by
    have := (Has.new ((w.alloc (.cells #[.int .i64 (g : Int), .int .i64 (sl : Int), .int .i64 (sz : Int), .int .i64 (sm : Int)] 67)).alloc (.cells (vb zrow).toArray 100)) (.cells #[.int .u8 86, .int .u8 65, .int .u8 76, .int .u8 83] 5 (4, 5))).alloc (.cells #[.int .i64 (g : Int), .int .i64 (sl : Int), .int .i64 (sz : Int), .int .i64 (sm : Int)] 3)
    rw [e2] at this
    rw [hW]; exact mark_sl this
  have HN4 : Hid (Has w4 (w.heap.size + 1 + 1 + 1) (.cells #[.int .i64 (g : Int), .int .i64 (sl : Int), .int .i64 (sz : Int), .int .i64 (sm : Int)] 3 (0, 0))) := by
    have := Has.new (((w.alloc (.cells #[.int .i64 (g : Int), .int .i64 (sl : Int), .int .i64 (sz : Int), .int .i64 (sm : Int)] 67)).alloc (.cells (vb zrow).toArray 100)).alloc (.cells #[.int .u8 86, .int .u8 65, .int .u8 76, .int .u8 83] 5 (4, 5))) (.cells #[.int .i64 (g : Int), .int .i64 (sl : Int), .int .i64 (sz : Int), .int .i64 (sm : Int)] 3)
    rw [e3] at this
    rw [hW]; exact this
  have HN : ∀ wx, Below w4.heap.size w4 wx → Hid (wx.cell? ⟨w.heap.size + 1 + 1 + 1, 0, none⟩ = some (.int .i64 (g : Int)) ∧ wx.cell? ⟨w.heap.size + 1 + 1 + 1, 1, none⟩ = some (.int .i64 (sl : Int)) ∧ wx.cell? ⟨w.heap.size + 1 + 1 + 1, 2, none⟩ = some (.int .i64 (sz : Int)) ∧ wx.cell? ⟨w.heap.size + 1 + 1 + 1, 3, none⟩ = some (.int .i64 (sm : Int))) := fun wx hb => by
    have h := Has.later HN4.out hb
    refine ⟨?_, ?_, ?_, ?_⟩ <;> (rw [h.cell]; rfl)
  have HF := Lib.hid hf
  have HW := Lib.hid hW
  obtain ⟨HD, hHD⟩ : ∃ r, r = Sk.header ⟨g, sl, sz, sm⟩ := ⟨_, rfl⟩
  have HHD := Lib.hid hHD
  rw [← hHD]
  clear hf e2 e3 hW hHD
  go_enter Try.func60, Try.ntmps60
  go_wp2_with fail
  rw [← HW.out]
  clear HW kc
  generalize w.heap.size + 1 + 1 = M at HM4 HN4 HN ⊢
  refine wp_loop_rounds 5 ?_
  rw [rounds_succ]
  have hc := (HN w4 (Below.refl _ _)).out.1
  go_wp2_with fail
  refine (put_any _ 4 4 Sk.mark g HF.out.1 (Nat.le_refl _) (by decide) w4 HM4.out).mono ?_
  clear hc HM4
  rintro e w5 ⟨a5, c5, rfl, hm, hb⟩
  have HM := Lib.hid hm
  have HB := Lib.hid hb
  clear hm hb
  go_wp2_with fail
  rw [rounds_succ]
  have hc := (HN w5 HB.out).out.2.1
  go_wp2_with fail
  refine (put_any a5 8 c5 _ sl HF.out.2.1 HM.out.cap (by decide) w5 (HM.out.sl (by decide))).mono ?_
  clear hc HM
  rintro e w6 ⟨a6, c6, rfl, hm, hb⟩
  have HM := Lib.hid hm
  have HB6 := Lib.hid (HB.out.trans (hb.mono HB.out.size))
  clear hm hb HB
  go_wp2_with fail
  rw [rounds_succ]
  have hc := (HN w6 HB6.out).out.2.2.1
  go_wp2_with fail
  refine (put_any a6 12 c6 _ sz HF.out.2.2.1 HM.out.cap (by decide) w6 (HM.out.sl (by decide))).mono ?_
  clear hc HM
  rintro e w7 ⟨a7, c7, rfl, hm, hb⟩
  have HM := Lib.hid hm
  have HB7 := Lib.hid (HB6.out.trans (hb.mono HB6.out.size))
  clear hm hb HB6
  go_wp2_with fail
  rw [rounds_succ]
  have hc := (HN w7 HB7.out).out.2.2.2
  go_wp2_with fail
  refine (put_any a7 16 c7 _ sm HF.out.2.2.2 HM.out.cap (by decide) w7 (HM.out.sl (by decide))).mono ?_
  clear hc HM
  rintro e w8 ⟨a8, c8, rfl, hm, hb⟩
  have HM : Hid (Mine w8 w7.heap.size a8 20 c8 (Sk.h20 ⟨g, sl, sz, sm⟩)) := hm
  have HB8 := Lib.hid (HB7.out.trans (hb.mono HB7.out.size))
  clear hm hb HB7 HN
  go_wp2_with fail
  rw [rounds_succ]
  go_wp2_with fail
  have HL : Hid (Cr.sum 0 (Sk.h20 ⟨g, sl, sz, sm⟩) < 4294967296) := Sk.sum20 _
  have HH : Hid (∀ q, q = Cr.sum 0 (Sk.h20 ⟨g, sl, sz, sm⟩) → Sk.h20 ⟨g, sl, sz, sm⟩ ++ Sk.le4 q = Sk.h24 ⟨g, sl, sz, sm⟩) := fun q hq => by rw [hq]; rfl
  have HSUM := Lib.hid (sum_any _ _ w8 (HM.out.sl (by decide)))
  obtain ⟨Q, hQ⟩ : ∃ Q, Q = Cr.sum 0 (Sk.h20 ⟨g, sl, sz, sm⟩) := ⟨_, rfl⟩
  rw [← hQ] at HL HSUM
  have HQ := Lib.hid hQ
  clear hQ
  refine HSUM.out.mono ?_
  clear HSUM
  rintro e w' ⟨rfl, rfl⟩
  have hq1 : (Q : Int) < 4294967296 := by have := HL.out; omega
  go_wp2_with fail
  refine (put_any a8 20 c8 _ Q HL.out HM.out.cap (by decide) w8 (HM.out.sl (by decide))).mono ?_
  clear HM hq1
  rintro e w9 ⟨a9, c9, rfl, hm, hb⟩
  rw [HH.out Q HQ.out] at hm
  have HM := Lib.hid hm
  have HB9 := Lib.hid (HB8.out.trans (hb.mono HB8.out.size))
  clear hm hb HB8 HL HH HQ
  have HSP : Hid (splice (vb zrow) 0 (vb (Sk.h24 ⟨g, sl, sz, sm⟩)) = vb HD) := by
    show _ = _
    rw [HHD.out]
    unfold Sk.header splice
    rw [vb_append, List.take_zero, List.nil_append, vb_length, Sk.h24_length]
    congr 1
  have HDL : Hid (HD.length = 512) := by show _ = _; rw [HHD.out]; exact Sk.header_length _
  have H1 : Hid ((w9.alloc (.cells (vb zrow).toArray 100)).heap[w9.heap.size]? = some (.cells (vb zrow).toArray 100 (0, 0))) := Has.new w9 _
  have HB10 : Hid (Below w4.heap.size w4 (w9.alloc (.cells (vb zrow).toArray 100))) := HB9.out.trans ((below1 w9 _).mono HB9.out.size)
  have H4 : Hid ((vb (Sk.h24 ⟨g, sl, sz, sm⟩)).length = Nat.min 24 512) := rfl
  have H5 : Hid (∃ ad, a9 = some ad ∧ ∀ j v, (vb (Sk.h24 ⟨g, sl, sz, sm⟩))[j]? = some v → (w9.alloc (.cells (vb zrow).toArray 100)).cell? (ad.add j) = some v) := (HM.out.below (by decide) (below1 w9 _)).cells (by decide)
  have H6 : Hid (0 + (vb (Sk.h24 ⟨g, sl, sz, sm⟩)).length ≤ (vb zrow).length) := by show _ ≤ _; rw [vb_length, vb_length, Sk.h24_length, zrow_length]; decide
  have hsz : w.heap.size + 1 < w4.heap.size ∧ w4.heap.size ≤ w9.heap.size ∧ w.heap.size ≤ w4.heap.size := ⟨HZ4.out.lt, HB9.out.size, HB4.out.size⟩
  have HC : Hid (∀ wA, Hid (wA.heap[w9.heap.size]? = some (.cells (splice (vb zrow) 0 (vb (Sk.h24 ⟨g, sl, sz, sm⟩))).toArray 100 (0, 0))) → Only w9.heap.size (w9.alloc (.cells (vb zrow).toArray 100)) wA → wA.rangeAt w9.heap.size 0 (vb HD) ∧ Has wA (w.heap.size + 1) (.cells (vb zrow).toArray 100 (0, 0)) ∧ Below w.heap.size w wA) := fun wA hgA hoA => by
    have hgA' := hgA.out
    rw [HSP.out] at hgA'
    have HA : Has wA w9.heap.size (.cells (vb HD).toArray 100 (0, 0)) := hgA'
    have HBA : Below w4.heap.size w4 wA := hoA.below HB10.out hsz.2.1 HB10.out.size
    exact ⟨HA.range, Has.below HZ4.out HBA hsz.1, HB4.out.trans (HBA.mono hsz.2.2)⟩
  have HI : Hid ((Try.prog.info? 100).map (·.size) = some (vb HD).length) := by show _ = _; rw [header_size, vb_length, HDL.out]
  have HI2 : Hid ((Try.prog.info? 100).map (·.size) = some HD.length) := by show _ = _; rw [header_size, HDL.out]
  have HL2 : Hid (zrow.length = HD.length) := by show _ = _; rw [zrow_length, HDL.out]
  clear HM HB10 HB9 HSP HB4 HZ4 HN4 HF hsz
  go_wp2_with (first | (with_reducible refine wpList_copy_only rfl (.tmp 32) (.tmp 33) 35 35 rfl 5 Try.underlying35 (by kernel_rfl) (some ⟨w9.heap.size, 0, none⟩) a9 512 512 24 c9 rfl rfl w9.heap.size 0 (vb zrow) 100 H1.out (vb (Sk.h24 ⟨g, sl, sz, sm⟩)) H4.out (fun _ => ⟨rfl, H5.out⟩) H6.out (oneCell_vb _) ?_; intro wA hgA hoA; have HX := Lib.hid (HC.out wA hgA hoA); clear hgA hoA) | (refine wpList_load_mid rfl 100 _ rfl w9.heap.size 0 rfl (vb HD) _ HX.out.1 Try.underlying100 rfl HI.out ?_) | (refine wpList_store_whole rfl 100 _ _ rfl (w.heap.size + 1) 100 zrow HD rfl rfl HX.out.2.1 HL2.out HI2.out ?_; intro wB hB hoB))
  exact bodyPost_ret (v := .agg (vb HD).toArray) (results_cell_one Try.results60 rfl (header_load hB.out HDL.out)) rfl ⟨rfl, hoB.below HX.out.2.2 (by omega) HX.out.2.2.size⟩
end Go.Proofs.Ythbiibinmofmfaa
