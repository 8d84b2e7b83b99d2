/- Contract of sector.Write. -/
import Derived.Test.YthbiibinmofmfaaEnow
import Derived.Test.YthbiibinmofmfaaQtail
import Derived.Deep.RegionLawGrows
import Derived.Laws.Cover3
import Derived.Deep.RegionHeld3
import Derived.Maps.AppendAt

namespace Go.Proofs.Ythbiibinmofmfaa
set_option maxRecDepth 100000
open Go.RowKit

theorem rangeAt_same {w w' : World} {b o : Nat} {cs : List Value} (h : w.rangeAt b o cs) (he : w'.heap[b]? = w.heap[b]?) : w'.rangeAt b o cs := fun j v hv => (World.cell?_of_block (a := ⟨b, o + j, none⟩) he).trans (h j v hv)

/-- A step of a region that draws its order, whose run is known. -/
theorem step_run {P : Program} {ops : Array Oper} {o : Oper} {a : Act} {w w' : World} {v : Value} {K : Act → World → Prop} {Q : Exit → Act → World → Prop} {E : Prop}
    (hg : o.guard = none) (h : (execOp a.eval o).run P w = .ok (.value v) w') (hK : K (a.put o.dst v) w') : if Region.wanted o (yielded ops a.tmps) = true then Oper.wp P o a w K Q else E := by
  have hw : Region.wanted o (yielded ops a.tmps) = true := by simp [Region.wanted, hg]
  rw [if_pos hw]
  unfold Oper.wp
  rw [h]
  exact hK
theorem exec_load_row {o : Oper} {a : Act} {W : World} (x : Operand) (ho : o.op = .load 93 x) (b off : Nat) (hx : a.eval x = .pointer (some ⟨b, off, none⟩)) (r : List Nat) (hr : W.rangeAt b off (vb r)) (hl : r.length = 512) :
    (execOp a.eval o).run Try.prog W = .ok (.value (.agg (vb r).toArray)) W := by
  unfold execOp
  simp only [ho, hx, Instr.loadAt, Instr.sureAddr, Sem.run_bind, Sem.run_pure, Result.andThen_ok, run_loadVar_mid W b off 93 (vb r) _ hr Try.underlying93 rfl (by rw [row_size, vb_length, hl])]
theorem exec_build_write {o : Oper} {a : Act} {W : World} (x y : Operand) (ho : o.op = .build 116 #[(0, x), (1, y)]) (i : Nat) (r : List Nat) (hx : a.eval x = .int .i64 (i : Int)) (hy : a.eval y = .agg (vb r).toArray) (hl : r.length = 512) :
    (execOp a.eval o).run Try.prog W = .ok (.value (.agg (vw i r).toArray)) W := by
  unfold execOp
  simp only [ho, List.map_toArray, List.map_cons, List.map_nil, hx, hy, run_build_write W i r hl, Sem.run_bind, Sem.run_pure, Result.andThen_ok]
theorem exec_one_write {o : Oper} {a : Act} {w : World} (x : Operand) (ho : o.op = .buildSlice 60 1 #[(0, x)]) (cs : List Value) (hx : a.eval x = .agg cs.toArray) (hl : cs.length = 513) :
    (execOp a.eval o).run Try.prog w = .ok (.value (.slice (some ⟨w.heap.size, 0, none⟩) 1 1)) (w.alloc (.cells cs.toArray 116)) := by
  unfold execOp
  simp only [ho, List.map_toArray, List.map_cons, List.map_nil, hx, run_one_write w cs hl, Sem.run_bind, Sem.run_pure, Result.andThen_ok]
theorem exec_append {P : Program} {o : Oper} {a : Act} {w w' : World} (s x : Operand) (t : TypeId) (ho : o.op = Op.call { callee := Callee.builtin Builtin.append, args := #[s, x], argTypes := #[t, t] })
    (S X v : Value) (hs : a.eval s = S) (hx : a.eval x = X) (hrun : (Builtin.append_ #[t, t] o.type #[S, X]).run P w = .ok v w') : (execOp a.eval o).run P w = .ok (.value v) w' := by
  unfold execOp
  simp only [ho, resolve, invoke, builtin, Sem.run_bind, Sem.run_pure, Result.andThen_ok, List.map_toArray, List.map_cons, List.map_nil, hs, hx, hrun]

/-- A write is appended to the loose ones: in w, all of which is known. -/
theorem append_write {w : World} {lo : Value} {l : List (Nat × List Nat)} (h : w.ownsRow 0 116 513 lo l.length (vws l)) (i : Nat) (bs : List Nat) (hbl : bs.length = 512) (hl : l.length ≤ 1000000) (g : Nat)
    (hg : Has w g (.cells (vw i bs).toArray 116 (0, 0))) :
    ∃ v' w', (Builtin.append_ #[60, 60] 60 #[lo, .slice (some ⟨g, 0, none⟩) 1 1]).run Try.prog w = .ok v' w' ∧ w'.ownsRow 0 116 513 v' (l ++ [(i, bs)]).length (vws (l ++ [(i, bs)])) ∧ w.grownBy w' lo.ownBlock ∧ (v'.ownBlock = lo.ownBlock ∨ v'.ownBlock = some w.heap.size) := by
  obtain ⟨i0, hi, hz0, hz1, hz2⟩ := info_parts Try.infoWrite
  obtain ⟨v', w', h1, h2, h3, _, h5⟩ := run_append_own_at (P := Try.prog) (w := w) 0 60 60 116 i0 _ 513 520 Try.underlying60 hi hz0 hz1 hz2 (by simp [Value.cells, vw_length _ _ zrow_length]) (by decide) lo l.length (vws l) h ⟨g, 0, none⟩ 1 1 (vw i bs) (by rw [vw_length _ _ hbl])
    (fun j u hj => by rw [Addr.add_mid, Nat.zero_add, hg.cell, List.getElem?_toArray]; exact hj) (oneCell_vw i bs) (by unfold maxLen; omega) (by omega) (Nat.zero_le _)
  refine ⟨v', w', h1, ?_, h3, h5⟩
  rw [vws_snoc, List.length_append, List.length_singleton]
  exact h2

/-- The slice s lies outside of S. -/
def Out (S : Nat → Prop) (s : Value) : Prop := ∀ g off spot len cap, s = .slice (some ⟨g, off, spot⟩) len cap → ¬ S g

theorem own_same {w w' : World} {e : TypeId} {size n base : Nat} {v : Value} {xs : List Value} (h : w.ownsRow base e size v n xs) (he : ∀ g, v.ownBlock = some g → w'.heap[g]? = w.heap[g]?) : w'.ownsRow base e size v n xs := by
  obtain ⟨r1, r2⟩ := h
  refine ⟨r1, ?_⟩
  rcases r2 with r2 | ⟨g, cap, cur, e1, e2, e3, e4, e5, e6, e7⟩
  · exact Or.inl r2
  · exact Or.inr ⟨g, cap, cur, e1, e2, (he g (by rw [e1]; rfl)).trans e3, e4, e5, e6, e7⟩
theorem own_ne_has {w : World} {base n b size : Nat} {v : Value} {e : TypeId} {xs : List Value} {cs : Array Value} {fr : Nat × Nat} {t : TypeId} (h : w.ownsRow base e size v n xs) (hb : Has w b (.cells cs t fr)) (ht : t ≠ e) : v.ownBlock ≠ some b := by
  rcases h.2 with ⟨rfl, _⟩ | ⟨g, cap, cur, rfl, _, hg, _⟩
  · simp [Value.ownBlock]
  · intro e'
    simp only [Value.ownBlock, Option.some.injEq] at e'
    subst e'
    have q : some (Obj.cells _ _ _) = some (Obj.cells _ _ _) := hg.symm.trans hb
    simp only [Option.some.injEq, Obj.cells.injEq] at q
    exact ht q.2.1.symm
theorem own_ne_map {w : World} {base n b size m : Nat} {v : Value} {e : TypeId} {xs : List Value} {f : Nat → Option Value} (h : w.ownsRow base e size v n xs) (hb : Mp w b m f) : v.ownBlock ≠ some b := by
  rcases h.2 with ⟨rfl, _⟩ | ⟨g, cap, cur, rfl, _, hg, _⟩
  · simp [Value.ownBlock]
  · intro e'
    simp only [Value.ownBlock, Option.some.injEq] at e'
    subst e'
    obtain ⟨es, cl, hm, _⟩ := hb
    rw [hm] at hg
    cases hg
theorem Has.grown {w w' : World} {b : Nat} {o : Obj} {row : Option Nat} (h : Has w b o) (hg : w.grownBy w' row) (hne : some b ≠ row) : Has w' b o := (hg.block b h.lt hne).trans h
theorem Mp.grown {w w' : World} {b n : Nat} {f : Nat → Option Value} {row : Option Nat} (h : Mp w b n f) (hg : w.grownBy w' row) (hne : some b ≠ row) : Mp w' b n f := h.same (hg.block b h.lt hne)
theorem Tch.of_grown {S : Nat → Prop} {w w' : World} {row : Option Nat} (hg : w.grownBy w' row) (hr : ∀ g, row = some g → S g) : Tch S w w' :=
  ⟨hg.os, hg.tape, hg.output, hg.size, fun k hk hn => hg.block k hk (fun e => hn (hr k e.symm))⟩

theorem DP.from {w w5 : World} {S S' : Nat → Prop} {b : Nat} {d : Ek.Dk} {v : Value} {e : Ending} {w' : World} (h : DP w5 S' b d v e w') (h1 : Tch S w w5) (hS : ∀ k, S' k → S k ∨ (w.heap.size ≤ k ∧ k < w5.heap.size)) : DP w S b d v e w' := by
  obtain ⟨e1, S2, hd, ht, hk⟩ := h
  refine ⟨e1, S2, hd, h1.then ht (fun i hi => (hS i hi).elim Or.inl (fun x => Or.inr x.1)), fun k hk2 => ?_⟩
  have s1 := h1.size
  have s2 := ht.size
  rcases hk k hk2 with h | ⟨h, h'⟩
  · rcases hS k h with h | ⟨h, h'⟩
    · exact Or.inl h
    · exact Or.inr ⟨h, by omega⟩
  · exact Or.inr ⟨by omega, h'⟩

/-- The list of the last writes. -/
theorem last_added (l : List (Nat × List Nat)) (i : Nat) (bs : List Nat) : (fun j => if j = i then some (Value.int .i64 (l.length : Int)) else (Ek.lastOf l j).map fun (k : Nat) => Value.int .i64 (k : Int)) = fun j => (Ek.lastOf (l ++ [(i, bs)]) j).map fun (k : Nat) => Value.int .i64 (k : Int) := by
  funext j
  rw [Ek.lastOf_snoc]
  by_cases h : j = i
  · rw [if_pos h, if_pos h]; rfl
  · rw [if_neg h, if_neg h]

/-- All that a write does to the disk, ahead of the change. -/
theorem added_dsk {w w2 w4 : World} {S : Nat → Prop} {b : Nat} {d : Ek.Dk} {i : Nat} {bs : List Nat} {bm bl ns : Nat} {lo v' : Value} {fs : Nat → Option Value}
    (hok : Ek.Ok (Ek.added d (i : Int) bs))
    (hh : Has w b (.cells #[.int .i64 (d.n : Int), .map (some bm), lo, .map (some bl), .int .i64 d.left, .bool d.dark] 62 (0, 0)))
    (hm : Mp w bm ns fs) (hfs : ∀ i, fs i = some (.agg (vb (d.sure i)).toArray) ∨ (fs i = none ∧ d.sure i = zrow))
    (ho : w.ownsRow 0 116 513 lo d.loose.length (vws d.loose)) (s1 : S b) (s2 : S bm) (s3 : S bl) (hne : bm ≠ bl) (s4 : ∀ g, lo.ownBlock = some g → S g) 
    (hl : Mp w bl d.loose.length (fun i => (Ek.lastOf d.loose i).map fun (k : Nat) => Value.int .i64 (k : Int)))
    (hl2 : Mp w2 bl (d.loose.length + 1) (fun j => if j = i then some (Value.int .i64 (d.loose.length : Int)) else (Ek.lastOf d.loose j).map fun (k : Nat) => Value.int .i64 (k : Int)))
    (hon : Only bl w w2) (hsz : w2.heap.size = w.heap.size)
    (h4 : w4.ownsRow 0 116 513 v' (d.loose ++ [(i, bs)]).length (vws (d.loose ++ [(i, bs)])))
    (hg4 : (w2.drew.alloc (.cells (vw i bs).toArray 116)).grownBy w4 lo.ownBlock) (hob : v'.ownBlock = lo.ownBlock ∨ v'.ownBlock = some (w2.drew.alloc (.cells (vw i bs).toArray 116)).heap.size) (hlt : ∀ g, v'.ownBlock = some g → g < w4.heap.size) :
    Dsk (w4.setCell ⟨b, 2, none⟩ v') (fun k => S k ∨ v'.ownBlock = some k) b (Ek.added d (i : Int) bs) ∧ Tch S w (w4.setCell ⟨b, 2, none⟩ v') ∧ (∀ k, (S k ∨ v'.ownBlock = some k) → S k ∨ (w.heap.size ≤ k ∧ k < (w4.setCell ⟨b, 2, none⟩ v').heap.size)) := by
  have hlo := own_ne_has ho hh (by decide)
  have hlm := own_ne_map ho hm
  have hll := own_ne_map ho hl
  have hbl' : b ≠ bl := (hl.ne_has hh).symm
  have hb2 := hh.only hon hbl'
  have hm2 := hm.only hon hne
  have hh4 := ((show Has w2.drew b _ from hb2).alloc (.cells (vw i bs).toArray 116)).grown hg4 (fun e => hlo e.symm)
  have hm4 := ((show Mp w2.drew bm ns fs from hm2).alloc (.cells (vw i bs).toArray 116)).grown hg4 (fun e => hlm e.symm)
  have hl4 := ((show Mp w2.drew bl _ _ from hl2).alloc (.cells (vw i bs).toArray 116)).grown hg4 (fun e => hll e.symm)
  have hvb := own_ne_has h4 hh4 (by decide)
  rw [last_added] at hl4
  have hsz5 : (w4.setCell ⟨b, 2, none⟩ v').heap.size = w4.heap.size := by simp
  refine ⟨⟨bm, bl, ns, v', fs, hh4.setSelf v', hm4.set (hm4.ne_has hh4) v', hfs, ?_, own_same h4 (fun g hg => Below.heap_setCell w4 ⟨b, 2, none⟩ v' g (fun e => hvb (by rw [hg, e]))), Or.inl s1, Or.inl s2, Or.inl s3, hne, fun g hg => Or.inr hg, ?_, hok⟩, ?_, fun k hk => ?_⟩
  · have := hl4.set (a := ⟨b, 2, none⟩) (hl4.ne_has hh4) v'
    simp only [Ek.added, List.length_append, List.length_singleton]
    exact this
  · exact Nat.zero_le _
  · exact (((Tch.of_only hon s3).drew.alloc (.cells (vw i bs).toArray 116)).trans (Tch.of_grown hg4 s4)).setCell (p := ⟨b, 2, none⟩) s1 v'
  · rcases hk with hk | hk
    · exact Or.inl hk
    · rcases hob with h | h
      · exact Or.inl (s4 k (by rw [← h]; exact hk))
      · rw [hsz5]
        have e : k = (w2.drew.alloc (.cells (vw i bs).toArray 116)).heap.size := by rw [h] at hk; exact (Option.some.inj hk).symm
        have e2 : (w2.drew.alloc (.cells (vw i bs).toArray 116)).heap.size = w2.heap.size + 1 := by simp
        exact Or.inr ⟨by omega, hlt k hk⟩

theorem Sl.facts8 {w : World} {s : Value} {bs : List Nat} (h : Sl w s bs) : ∀ x ∈ bs, x < 256 := by
  obtain ⟨a, len, cap, _, _, _, _, h8, _⟩ := h
  exact h8
theorem Only.undrew {g : Nat} {w w' : World} (h : Only g w.drew w') : Only g w w' := ⟨h.os, h.tape, h.output, h.size, h.block⟩
theorem Mp.ne_cell {w : World} {b n g i : Nat} {f : Nat → Option Value} {v : Value} (h : Mp w b n f) (hc : w.cell? ⟨g, i, none⟩ = some v) : g ≠ b := by
  rintro rfl
  obtain ⟨es, clock, hb, _⟩ := h
  simp [World.cell?, hb] at hc

set_option maxHeartbeats 4000000 in
theorem write_good (w : World) (S : Nat → Prop) (b : Nat) (d : Ek.Dk) (i : Nat) (bs : List Nat) (s : Value) (h : Dsk w S b d) (hs : Sl w s bs) (hout : Out S s) (hb : ¬ Ek.Bad d (i : Int) bs) (hd : d.dark = false) (hu : d.used < 1000000) :
    Calls Try.prog 39 #[.pointer (some ⟨b, 0, none⟩), .int .i64 (i : Int), s] w (DP w S b (Ek.change (Ek.added d (i : Int) bs)) (.int .i64 (Ek.changeE d))) := by
  have h1 := h.ok.lo
  have h2 := h.ok.hi
  unfold Ek.Bad at hb
  have hi : i < d.n := by omega
  have hbl : bs.length = 512 := by omega
  obtain ⟨a, len, cap, rfl, hla⟩ := hs.shape
  obtain rfl : len = 512 := by omega
  clear hla
  have hok := Ek.added_ok h.ok (i : Int) bs (by unfold Ek.Bad; exact hb) hs.facts8 hu
  have hcnt := h.ok.count
  obtain ⟨bm, bl, ns, lo, fs, hh, hm, hfs, hl, ho, s1, s2, s3, hne, s4, huse, _⟩ := h
  obtain ⟨c0, _, c2, c3, _, c5, _, f2, _⟩ := has6 hh
  obtain ⟨x, cap2, rfl, hcap⟩ := own_len ho
  rw [hd] at c5
  have hq : decide (0 ≤ (i : Int) ∧ (i : Int) < (d.n : Int)) = true := by simp; omega
  have HA := has_any w b d.n (i : Int) c0
  rw [hq] at HA
  have HB : Hid (bs.length = 512) := hbl
  have HP := Lib.hid (fun (w2 w4 : World) (v' : Value) => added_dsk (w2 := w2) (w4 := w4) (v' := v') hok hh hm hfs ho s1 s2 s3 hne s4 hl)
  have HL := Lib.hid hl
  have HO := Lib.hid ho
  have HH := Lib.hid hh
  have HS := Lib.hid hs
  have HU : Hid (d.loose.length ≤ 1000000) := by show _ ≤ _; omega
  have HSS := Lib.hid (And.intro s1 (And.intro s3 (And.intro s4 hout)))
  clear hh hq hb hfs hm hbl hok hcnt s1 s2 s3 hne s4 huse hl ho hs hout hu hcap
  go_enter Try.func39, Try.ntmps39
  go_wp2_with fail
  refine (made_yes w b d.n c0 h1).mono ?_
  rintro e w' ⟨rfl, rfl⟩
  go_wp2_with fail
  refine HA.mono ?_
  rintro e w' ⟨rfl, rfl⟩
  go_wp2_with fail
  refine region_qtail 10 (by kernel_rfl) (by kernel_rfl) fun W hW => ?_
  have hl' : Mp W bl d.loose.length (fun i => (Ek.lastOf d.loose i).map fun (k : Nat) => Value.int .i64 (k : Int)) := by rw [hW]; exact HL.out
  have c2' : W.cell? ⟨b, 2, none⟩ = some (.slice x d.loose.length cap2) := by rw [hW]; exact c2
  have c3' : W.cell? ⟨b, 3, none⟩ = some (.map (some bl)) := by rw [hW]; exact c3
  obtain ⟨w2, hup, hm2, hon, hsz⟩ := hl'.store (P := Try.prog) (w := W) Try.underlying3 Try.underlying59 i (by omega) (.int .i64 (d.loose.length : Int))
  have HW := Lib.hid hW
  have HUP := Lib.hid (And.intro hm2 (And.intro hon hsz))
  clear hW hl' hm2 hon hsz
  simp only [List.take_succ_cons, List.take_zero, List.drop_succ_cons, List.drop_zero]
  iterate 10 (go_big_quiet_step (fail))
  refine wpQuiet_nil ?_
  go_wp2_with fail
  obtain ⟨hm2, hon0, hsz0⟩ := HUP.out
  have hon : Only bl w w2 := (HW.out ▸ hon0 : Only bl w.drew w2).undrew
  have hsz : w2.heap.size = w.heap.size := by rw [hsz0, HW.out]; rfl
  obtain ⟨s1, s3, s4, hout⟩ := HSS.out
  have hbl' : b ≠ bl := (HL.out.ne_has HH.out).symm
  have hb2 := HH.out.only hon hbl'
  obtain ⟨ad, rfl, hcs⟩ := HS.out.cells (by omega)
  have hlen := HB.out
  obtain ⟨sb, so, sp⟩ := ad
  obtain rfl : sp = none := by
    have := hcs 0 _ (by rw [vb_get, List.getElem?_eq_getElem (by omega)]; rfl)
    simpa [Addr.add] using World.cell?_spot this
  have hr : w.rangeAt sb so (vb bs) := fun j v hv => by rw [← Addr.add_mid]; exact hcs j v hv
  have hsS : ¬ S sb := hout sb so none 512 cap rfl
  have hr2 : w2.rangeAt sb so (vb bs) := rangeAt_same hr (hon.block sb (World.block_lt_of_cell? w _ (hcs 0 _ (by rw [vb_get, List.getElem?_eq_getElem (by omega)]; rfl))) (fun e => hsS (e ▸ s3)))
  have hsb : sb < w.heap.size := World.block_lt_of_cell? w _ (hcs 0 _ (by rw [vb_get, List.getElem?_eq_getElem (by omega)]; rfl))
  have ho2 := own_same HO.out (w' := w2) (fun g hg => hon.block g (HO.out.lt g hg).2 (fun e => own_ne_map HO.out HL.out (by rw [hg, e])))
  have ho3 := own_same ho2 (w' := w2.drew.alloc (.cells (vw i bs).toArray 116)) (fun g hg => Below.heap_alloc w2.drew _ g (show g < w2.heap.size from (ho2.lt g hg).2))
  obtain ⟨v', w4, hrun, h4, hg4, hob⟩ := append_write ho3 i bs hlen HU.out w2.heap.size (Has.new w2.drew _)
  obtain ⟨va, vc, rfl, hvc⟩ := own_len h4
  clear hvc
  have hlt : ∀ g, (Value.slice va (d.loose ++ [(i, bs)]).length vc).ownBlock = some g → g < w4.heap.size := fun g hg => (h4.lt g hg).2
  have hb3 : Has (w2.drew.alloc (.cells (vw i bs).toArray 116)) b _ := (show Has w2.drew b _ from hb2).alloc _
  have hb4 : Has w4 b _ := hb3.grown hg4 (fun e => own_ne_has ho3 hb3 (by decide) e.symm)
  have hr3 := World.rangeAt_alloc (show w2.drew.rangeAt sb so (vb bs) from hr2) (.cells (vw i bs).toArray 116)
  have hr4 : w4.rangeAt sb so (vb bs) := rangeAt_same hr3 (hg4.block sb (by simp; omega) (fun e => hsS (s4 sb e.symm)))
  have HQ := Lib.hid (HP.out w2 w4 _ hm2 hon hsz h4 hg4 hob hlt)
  have x2 : w2.drew.cell? ⟨b, 2, none⟩ = some (.slice x d.loose.length cap2) := (show Has w2.drew b _ from hb2).cell 2
  have x3 : (w2.drew.alloc (.cells (vw i bs).toArray 116)).cell? ⟨b, 2, none⟩ = some (.slice x d.loose.length cap2) := hb3.cell 2
  have x4 : w4.cell? ⟨b, 2, none⟩ = some (.slice x d.loose.length cap2) := hb4.cell 2
  have y4 : w4.frozen? ⟨b, 2, none⟩ = false := hb4.free 2
  have K2 := Lib.hid (And.intro x2 (show w2.drew.rangeAt sb so (vb bs) from hr2))
  have K3 := Lib.hid (And.intro x3 hr3)
  have K4 := Lib.hid (And.intro x4 hr4)
  have HRUN := Lib.hid hrun
  have ap := fun W => run_arrayAt (P := Try.prog) W 93 _ 512 (some ⟨sb, so, none⟩) 512 cap Try.underlying93 (Nat.le_refl _)
  have HLEN := Lib.hid hlen
  clear hm2 hon0 hsz0 hon hsz s1 s3 s4 hout hbl' hb2 hcs hlen hr hsS hr2 hsb ho2 ho3 hrun h4 hg4 hob hlt hb3 hb4 hr3 hr4 x2 x3 HP HL HO HH HS HSS HU HUP HB c0 c2 c3 c5 c2' c3' hup HA
  generalize (d.loose ++ [(i, bs)]).length = m' at *
  generalize d.loose.length = m at *
  refine wp_region_any (by kernel_rfl) ?_
  change wpAny _ _ _ _ 15 (Array.replicate 15 false) _ (World.drew _)
  refine wpAny_take (i := 0) (v := ?_) rfl (by kernel_rfl) (by kernel_rfl) (by kernel_rfl) (fun _ _ _ h => h) (Or.inl ⟨rfl, ?hy0⟩) ?_
  case hy0 => intro w; go_simp; first | done | rfl
  refine wpAny_take (i := 1) (v := ?_) rfl (by kernel_rfl) (by kernel_rfl) (by kernel_rfl) (fun _ _ _ h => h) (Or.inl ⟨rfl, ?hy1⟩) ?_
  case hy1 => intro w; go_simp; first | done | rfl
  refine wpAny_take (i := 2) (v := ?_) rfl (by kernel_rfl) (by kernel_rfl) (by kernel_rfl) (fun _ _ _ h => h) (Or.inl ⟨rfl, ?hy2⟩) ?_
  case hy2 => intro w; go_simp; first | done | rfl
  refine wpAny_take (i := 3) (v := ?_) rfl (by kernel_rfl) (by kernel_rfl) (by kernel_rfl) (fun _ _ _ h => h) (Or.inl ⟨rfl, ?hy3⟩) ?_
  case hy3 => intro w; go_simp; first | done | rfl
  refine wpAny_take (i := 5) (v := ?_) rfl (by kernel_rfl) (by kernel_rfl) (by kernel_rfl) (fun _ _ _ h => h) (Or.inl ⟨rfl, ?hy5⟩) ?_
  case hy5 => intro w; go_simp; first | done | rfl
  refine wpAny_take (i := 6) (v := ?_) rfl (by kernel_rfl) (by kernel_rfl) (by kernel_rfl) (fun _ _ _ h => h) (Or.inl ⟨rfl, ?hy6⟩) ?_
  case hy6 => intro w; go_simp; first | done | rfl
  refine wpAny_take (i := 7) (v := ?_) rfl (by kernel_rfl) (by kernel_rfl) (by kernel_rfl) (fun _ _ _ h => h) (Or.inl ⟨rfl, ?hy7⟩) ?_
  case hy7 => intro w; go_simp; first | done | rfl
  simp only [Act.put, List.getElem_toArray, List.getElem_cons_zero, List.getElem_cons_succ, List.setIfInBounds_toArray, List.set_cons_zero, List.set_cons_succ]
  refine wpAny_ready (rs := [4, 8]) (by kernel_rfl) (by simp) ?_
  refine AllReady.cons rfl (fun K hK => ?_) (AllReady.cons rfl (fun K hK => ?_) AllReady.nil)
  · have hc := K2.out.1
    go_simp
    refine hK _ _ ?_
    clear hK K
    clear hc
    refine wpAny_ready (rs := [8]) (by kernel_rfl) (by simp) ?_
    refine AllReady.cons rfl (fun K hK => ?_) AllReady.nil
    apply step_run
    · rfl
    · exact exec_load_row (.tmp 43) rfl sb so rfl bs K2.out.2 HLEN.out
    refine hK _ _ ?_
    clear hK K
    refine wpAny_ready (rs := [9]) (by kernel_rfl) (by simp) ?_
    refine AllReady.cons rfl (fun K hK => ?_) AllReady.nil
    apply step_run
    · rfl
    · exact exec_build_write (.tmp 41) (.tmp 44) rfl i bs rfl rfl HLEN.out
    refine hK _ _ ?_
    clear hK K
    refine wpAny_ready (rs := [10]) (by kernel_rfl) (by simp) ?_
    refine AllReady.cons rfl (fun K hK => ?_) AllReady.nil
    apply step_run
    · rfl
    · exact exec_one_write (.tmp 45) rfl (vw i bs) rfl (vw_length _ _ HLEN.out)
    refine hK _ _ ?_
    clear hK K
    refine wpAny_ready (rs := [11]) (by kernel_rfl) (by simp) ?_
    refine AllReady.cons rfl (fun K hK => ?_) AllReady.nil
    apply step_run
    · rfl
    · exact exec_append (.tmp 40) (.tmp 46) 60 rfl _ _ _ rfl rfl HRUN.out
    refine hK _ _ ?_
    clear hK K
    refine wpAny_ready (rs := [12]) (by kernel_rfl) (by simp) ?_
    refine AllReady.cons rfl (fun K hK => ?_) AllReady.nil
    go_simp
    refine hK _ _ ?_
    clear hK K
    refine wpAny_ready (rs := [13]) (by kernel_rfl) (by simp) ?_
    refine AllReady.cons rfl (fun K hK => ?_) AllReady.nil
    go_simp
    refine hK _ _ ?_
    clear hK K
    refine wpAny_ready (rs := [14]) (by kernel_rfl) (by simp) ?_
    refine AllReady.cons rfl (fun K hK => ?_) AllReady.nil
    go_simp
    refine hK _ _ ?_
    clear hK K
    refine wpAny_done (by kernel_rfl) ?_ _
    go_wp2_with fail
    obtain ⟨q1, q2, q3⟩ := HQ.out
    refine (change_any _ _ _ _ q1).mono ?_
    intro e w' hp
    have HF := Lib.hid (hp.from q2 q3)
    have he := hp.1
    subst he
    clear hp q1 q2 q3
    go_wp2_with fail
    go_ret
    exact HF.out
  · apply step_run
    · rfl
    · exact exec_load_row (.tmp 43) rfl sb so rfl bs K2.out.2 HLEN.out
    refine hK _ _ ?_
    clear hK K
    refine wpAny_ready (rs := [4, 9]) (by kernel_rfl) (by simp) ?_
    refine AllReady.cons rfl (fun K hK => ?_) (AllReady.cons rfl (fun K hK => ?_) AllReady.nil)
    · have hc := K2.out.1
      go_simp
      refine hK _ _ ?_
      clear hK K
      clear hc
      refine wpAny_ready (rs := [9]) (by kernel_rfl) (by simp) ?_
      refine AllReady.cons rfl (fun K hK => ?_) AllReady.nil
      apply step_run
      · rfl
      · exact exec_build_write (.tmp 41) (.tmp 44) rfl i bs rfl rfl HLEN.out
      refine hK _ _ ?_
      clear hK K
      refine wpAny_ready (rs := [10]) (by kernel_rfl) (by simp) ?_
      refine AllReady.cons rfl (fun K hK => ?_) AllReady.nil
      apply step_run
      · rfl
      · exact exec_one_write (.tmp 45) rfl (vw i bs) rfl (vw_length _ _ HLEN.out)
      refine hK _ _ ?_
      clear hK K
      refine wpAny_ready (rs := [11]) (by kernel_rfl) (by simp) ?_
      refine AllReady.cons rfl (fun K hK => ?_) AllReady.nil
      apply step_run
      · rfl
      · exact exec_append (.tmp 40) (.tmp 46) 60 rfl _ _ _ rfl rfl HRUN.out
      refine hK _ _ ?_
      clear hK K
      refine wpAny_ready (rs := [12]) (by kernel_rfl) (by simp) ?_
      refine AllReady.cons rfl (fun K hK => ?_) AllReady.nil
      go_simp
      refine hK _ _ ?_
      clear hK K
      refine wpAny_ready (rs := [13]) (by kernel_rfl) (by simp) ?_
      refine AllReady.cons rfl (fun K hK => ?_) AllReady.nil
      go_simp
      refine hK _ _ ?_
      clear hK K
      refine wpAny_ready (rs := [14]) (by kernel_rfl) (by simp) ?_
      refine AllReady.cons rfl (fun K hK => ?_) AllReady.nil
      go_simp
      refine hK _ _ ?_
      clear hK K
      refine wpAny_done (by kernel_rfl) ?_ _
      go_wp2_with fail
      obtain ⟨q1, q2, q3⟩ := HQ.out
      refine (change_any _ _ _ _ q1).mono ?_
      intro e w' hp
      have HF := Lib.hid (hp.from q2 q3)
      have he := hp.1
      subst he
      clear hp q1 q2 q3
      go_wp2_with fail
      go_ret
      exact HF.out
    · apply step_run
      · rfl
      · exact exec_build_write (.tmp 41) (.tmp 44) rfl i bs rfl rfl HLEN.out
      refine hK _ _ ?_
      clear hK K
      refine wpAny_ready (rs := [4, 10]) (by kernel_rfl) (by simp) ?_
      refine AllReady.cons rfl (fun K hK => ?_) (AllReady.cons rfl (fun K hK => ?_) AllReady.nil)
      · have hc := K2.out.1
        go_simp
        refine hK _ _ ?_
        clear hK K
        clear hc
        refine wpAny_ready (rs := [10]) (by kernel_rfl) (by simp) ?_
        refine AllReady.cons rfl (fun K hK => ?_) AllReady.nil
        apply step_run
        · rfl
        · exact exec_one_write (.tmp 45) rfl (vw i bs) rfl (vw_length _ _ HLEN.out)
        refine hK _ _ ?_
        clear hK K
        refine wpAny_ready (rs := [11]) (by kernel_rfl) (by simp) ?_
        refine AllReady.cons rfl (fun K hK => ?_) AllReady.nil
        apply step_run
        · rfl
        · exact exec_append (.tmp 40) (.tmp 46) 60 rfl _ _ _ rfl rfl HRUN.out
        refine hK _ _ ?_
        clear hK K
        refine wpAny_ready (rs := [12]) (by kernel_rfl) (by simp) ?_
        refine AllReady.cons rfl (fun K hK => ?_) AllReady.nil
        go_simp
        refine hK _ _ ?_
        clear hK K
        refine wpAny_ready (rs := [13]) (by kernel_rfl) (by simp) ?_
        refine AllReady.cons rfl (fun K hK => ?_) AllReady.nil
        go_simp
        refine hK _ _ ?_
        clear hK K
        refine wpAny_ready (rs := [14]) (by kernel_rfl) (by simp) ?_
        refine AllReady.cons rfl (fun K hK => ?_) AllReady.nil
        go_simp
        refine hK _ _ ?_
        clear hK K
        refine wpAny_done (by kernel_rfl) ?_ _
        go_wp2_with fail
        obtain ⟨q1, q2, q3⟩ := HQ.out
        refine (change_any _ _ _ _ q1).mono ?_
        intro e w' hp
        have HF := Lib.hid (hp.from q2 q3)
        have he := hp.1
        subst he
        clear hp q1 q2 q3
        go_wp2_with fail
        go_ret
        exact HF.out
      · apply step_run
        · rfl
        · exact exec_one_write (.tmp 45) rfl (vw i bs) rfl (vw_length _ _ HLEN.out)
        refine hK _ _ ?_
        clear hK K
        have hc : (w2.alloc (.cells (vw i bs).toArray 116)).cell? ⟨b, 2, none⟩ = some (.slice x m cap2) := K3.out.1
        refine wpAny_ready (rs := [4]) (by kernel_rfl) (by simp) ?_
        refine AllReady.cons rfl (fun K hK => ?_) AllReady.nil
        go_simp
        refine hK _ _ ?_
        clear hK K
        clear hc
        refine wpAny_ready (rs := [11]) (by kernel_rfl) (by simp) ?_
        refine AllReady.cons rfl (fun K hK => ?_) AllReady.nil
        apply step_run
        · rfl
        · exact exec_append (.tmp 40) (.tmp 46) 60 rfl _ _ _ rfl rfl HRUN.out
        refine hK _ _ ?_
        clear hK K
        refine wpAny_ready (rs := [12]) (by kernel_rfl) (by simp) ?_
        refine AllReady.cons rfl (fun K hK => ?_) AllReady.nil
        go_simp
        refine hK _ _ ?_
        clear hK K
        refine wpAny_ready (rs := [13]) (by kernel_rfl) (by simp) ?_
        refine AllReady.cons rfl (fun K hK => ?_) AllReady.nil
        go_simp
        refine hK _ _ ?_
        clear hK K
        refine wpAny_ready (rs := [14]) (by kernel_rfl) (by simp) ?_
        refine AllReady.cons rfl (fun K hK => ?_) AllReady.nil
        go_simp
        refine hK _ _ ?_
        clear hK K
        refine wpAny_done (by kernel_rfl) ?_ _
        go_wp2_with fail
        obtain ⟨q1, q2, q3⟩ := HQ.out
        refine (change_any _ _ _ _ q1).mono ?_
        intro e w' hp
        have HF := Lib.hid (hp.from q2 q3)
        have he := hp.1
        subst he
        clear hp q1 q2 q3
        go_wp2_with fail
        go_ret
        exact HF.out

set_option maxHeartbeats 2000000 in
theorem write_bad (w : World) (S : Nat → Prop) (b : Nat) (d : Ek.Dk) (i : Int) (bs : List Nat) (s : Value) (h : Dsk w S b d) (hs : Sl w s bs) (hb : Ek.Bad d i bs) :
    Calls Try.prog 39 #[.pointer (some ⟨b, 0, none⟩), .int .i64 i, s] w (DP w S b d (.int .i64 2)) := by
  have h1 := h.ok.lo
  unfold Ek.Bad at hb
  obtain ⟨a, len, cap, rfl, hla⟩ := hs.shape
  have H := Lib.hid (dp_same h (.int .i64 2))
  obtain ⟨bm, bl, ns, lo, fs, hh, hrest⟩ := h
  clear hrest hs
  obtain ⟨c0, _⟩ := has6 hh
  clear hh
  have HA := has_any w b d.n i c0
  by_cases hi : 0 ≤ i ∧ i < (d.n : Int)
  · have hq : decide (0 ≤ i ∧ i < (d.n : Int)) = true := by simpa using hi
    rw [hq] at HA
    have hne : ((len : Int) != 512) = true := by rw [bne_iff_ne]; omega
    clear hq hi hb hla
    go_enter Try.func39, Try.ntmps39
    go_wp2_with fail
    refine (made_yes w b d.n c0 h1).mono ?_
    rintro e w' ⟨rfl, rfl⟩
    go_wp2_with fail
    refine HA.mono ?_
    rintro e w' ⟨rfl, rfl⟩
    go_wp2_with fail
    go_ret
    exact H.out
  · have hq : decide (0 ≤ i ∧ i < (d.n : Int)) = false := by simpa using hi
    rw [hq] at HA
    clear hq hi hb hla
    go_enter Try.func39, Try.ntmps39
    go_wp2_with fail
    refine (made_yes w b d.n c0 h1).mono ?_
    rintro e w' ⟨rfl, rfl⟩
    go_wp2_with fail
    refine HA.mono ?_
    rintro e w' ⟨rfl, rfl⟩
    go_wp2_with fail
    go_ret
    exact H.out

set_option maxHeartbeats 2000000 in
theorem write_dark (w : World) (S : Nat → Prop) (b : Nat) (d : Ek.Dk) (i : Int) (bs : List Nat) (s : Value) (h : Dsk w S b d) (hs : Sl w s bs) (hb : ¬ Ek.Bad d i bs) (hd : d.dark = true) :
    Calls Try.prog 39 #[.pointer (some ⟨b, 0, none⟩), .int .i64 i, s] w (DP w S b d (.int .i64 6)) := by
  have h1 := h.ok.lo
  unfold Ek.Bad at hb
  obtain ⟨a, len, cap, rfl, hla⟩ := hs.shape
  obtain rfl : len = 512 := by omega
  have H := Lib.hid (dp_same h (.int .i64 6))
  obtain ⟨bm, bl, ns, lo, fs, hh, hrest⟩ := h
  clear hrest hs
  obtain ⟨c0, _, _, _, _, c5, _⟩ := has6 hh
  clear hh
  rw [hd] at c5
  have HA := has_any w b d.n i c0
  have hq : decide (0 ≤ i ∧ i < (d.n : Int)) = true := by simp; omega
  rw [hq] at HA
  clear hq hb hla hd
  go_enter Try.func39, Try.ntmps39
  go_wp2_with fail
  refine (made_yes w b d.n c0 h1).mono ?_
  rintro e w' ⟨rfl, rfl⟩
  go_wp2_with fail
  refine HA.mono ?_
  rintro e w' ⟨rfl, rfl⟩
  go_wp2_with fail
  go_ret
  exact H.out

theorem write_any (w : World) (S : Nat → Prop) (b : Nat) (d : Ek.Dk) (i : Int) (bs : List Nat) (s : Value) (h : Dsk w S b d) (hs : Sl w s bs) (hout : Out S s) (hu : d.used < 1000000) :
    Calls Try.prog 39 #[.pointer (some ⟨b, 0, none⟩), .int .i64 i, s] w (DP w S b (Ek.write d i bs) (.int .i64 (Ek.writeE d i bs))) := by
  unfold Ek.write Ek.writeE
  by_cases hb : Ek.Bad d i bs
  · rw [if_pos hb, if_pos hb]
    exact write_bad w S b d i bs s h hs hb
  · rw [if_neg hb, if_neg hb]
    by_cases hd : d.dark = true
    · rw [if_pos hd, if_pos hd]
      exact write_dark w S b d i bs s h hs hb hd
    · rw [if_neg hd, if_neg hd]
      obtain ⟨j, rfl⟩ : ∃ j : Nat, i = (j : Int) := ⟨i.toNat, by unfold Ek.Bad at hb; omega⟩
      exact write_good w S b d j bs s h hs hout hb (by simpa using hd) hu
end Go.Proofs.Ythbiibinmofmfaa
