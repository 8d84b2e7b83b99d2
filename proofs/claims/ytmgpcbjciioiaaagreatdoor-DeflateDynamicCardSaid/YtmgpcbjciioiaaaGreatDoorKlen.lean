import Derived.Test.YtmgpcbjciioiaaaGreatDoorHrnew
import Derived.Test.YtmgpcbjciioiaaaGreatDoorKneed
import Derived.Test.YtmgpcbjciioiaaaGreatDoorKclone
import Derived.Test.YtmgpcbjciioiaaaGreatDoorSlone
import Derived.Test.YtmgpcbjciioiaaaGreatDoorHrcodes
import Derived.Test.YtmgpcbjciioiaaaGreatDoorCarg
import Derived.Deep.RegionHeld3
import Derived.Deep.RegionWith
import Derived.Lib.Mul64
import Derived.Laws.Bits64b
namespace Go.Proofs.YtmgpcbjciioiaaaGreatDoor
set_option maxRecDepth 100000
set_option maxHeartbeats 8000000
section
open Go.RowKit
theorem hput_ok (s : Value) (l : List Bool) (N : Nat) (s2 : Value) (zs : List Int) (sym : Nat) (w : World) (hs : Sl w s (Bs.pack l)) (hz : Zl w s2 zs) (hl : Hid (N = l.length)) (hN : N <= 1125899906842624) (hy : sym < zs.length) (hf : Fit zs) (h0 : zs[sym]?.getD 0 ≠ 0) :
  Calls Tryz.prog 160 #[.agg #[s,.int .i64 (N : Int)],s2,.int .i64 (sym : Int)] w (RowPost w (l ++ cw (nat zs) sym)) := by
 have HS := LH hs
 obtain ⟨g1,g2,g3⟩ := code_fits hf sym hy h0
 have hgz := hf.valid.get sym hy
 have hln : Hf.ln (nat zs) sym = (nat zs)[sym]?.getD 0 := rfl
 obtain ⟨a2,len2,cap2,rfl,hl2⟩ := hz.shape
 obtain ⟨b2,off2,rfl,hb2,hle2,hc2⟩ := zl_cell hz sym hy
 clear hle2
 rw [hgz,<- hln] at hc2
 have hy2 : sym < len2 := by omega
 have HCC : Hid (∀ w',Below w.heap.size w w' -> Calls Tryz.prog 101 #[.slice (some ⟨b2,off2,none⟩) len2 cap2] w' (CodesPost w' (Hf.codes (nat zs)))) := fun w' h => codes_ok zs _ w' (hz.later h) hf
 have hcl : sym < (Hf.codes (nat zs)).length := by rw [Hf.codes_length,nat_length]; exact hy
 unfold cw
 generalize Hf.codes (nat zs) = cs at HCC hcl g1 ⊢
 generalize Hf.ln (nat zs) sym = L at hc2 g1 g2 g3 ⊢
 obtain ⟨C,hC⟩ : ∃ C,C = cs[sym]?.getD 0 := ⟨_,rfl⟩
 rw [<- hC] at g1 ⊢
 obtain ⟨T,hT⟩ : ∃ T,T = turned C L := ⟨_,rfl⟩
 have htl : T < 2 ^ L := by rw [hT]; exact turned_lt C L
 have HTU : Hid (∀ w',Calls Tryz.prog 103 #[.int .i64 (C : Int),.int .i64 (L : Int)] w' fun e w'' => e = .returned (.tuple #[.int .i64 (T : Int),.int .i64 0]) /\ w' = w'') := fun w' => by
  rw [hT]; exact turn_same C L (by omega) g1 w'
 have HPU : Hid (∀ w',Below w.heap.size w w' -> Calls Tryz.prog 100 #[.agg #[s,.int .i64 (N : Int)],.int .i64 (T : Int),.int .i64 (L : Int)] w' (RowPost w' (l ++ Bs.bitsOf T L))) := fun w' h => put_ok s l T L w' (hs.later h) (show _ <= _ by rw [<- hl.out]; exact hN) (by omega) htl N hl
 rw [<- hT]
 have H2 := LH hc2
 have HC := LH hC
 have HCL := LH hcl
 clear hs hz hl2 hy hf h0 hc2 hgz hln hcl hC hT htl g1
 obtain ⟨a,len,cap,rfl,hl'⟩ := HS.out.shape
 clear hl'
 go_enter Tryz.func160,Tryz.ntmps160
 go_wp2_with fail
 refine (check_ok _ (Bs.pack l) N _ (HS.out.later (below2 _ _ _)) (by omega) (by rw [hl.out]; exact Bs.pack_right l)).mono ?_
 rintro e w1 ⟨rfl,hb1⟩
 obtain ⟨k1,k2,kb,ks⟩ := facts2 hb1
 clear hb1
 have KB := LH kb
 have d1 : decide ((sym : Int) < 0) = false := by simp
 have d2 : decide (len2 <= sym) = false := by simp; omega
 clear kb
 go_wp2_with fail
 refine (HCC.out _ KB.out).mono ?_
 rintro e w2 ⟨v,rfl,hv,hb3⟩
 obtain ⟨g,capg,rfl,hg,hrow⟩ := il_cell hv (by have := HCL.out; omega)
 obtain ⟨ncs,hncs⟩ : ∃ ncs,ncs = cs.length := ⟨_,rfl⟩
 have hsy : sym < ncs := by rw [hncs]; exact HCL.out
 have cc : w2.cell? ⟨g,sym,none⟩ = some (.int .i64 (C : Int)) := by rw [hrow.cell sym HCL.out]; show some (Value.int .i64 ((cs[sym]?.getD 0 : Nat) : Int)) = _; rw [<- HC.out]
 rw [<- hncs]
 have k1' := k1.later hb3
 have k2' := k2.later hb3
 have KB2 := LH (KB.out.trans (hb3.mono (by omega)))
 have hsz2 := hb3.size
 have K2 := LH k2'
 clear hb3 hv hrow hncs k1 k2
 obtain ⟨e0,e1,f0,f1⟩ := k1'.two
 have cl : w2.cell? ⟨b2,off2 + sym,none⟩ = some (.int .i64 (L : Int)) := by rw [KB2.out.cell (p := ⟨b2,off2 + sym,none⟩) hb2]; exact H2.out
 have hL0 : ((L : Int) == 0) = false := by rw [beq_eq_false_iff_ne]; omega
 clear k1' k2'
 go_wp2
 go_quiet ((go_at_call 103; exact quiet_left (HTU.out _)))
 go_wp2
 go_region_with (go_at_call 100; refine (HPU.out _ (below_drewN KB2.out _)).mono ?_; rintro e w4 ⟨gg,m,rfl,hm,hgg,hh,hb4⟩; have K4 : Has w4 (w.heap.size + 1) _ := Has.later (w := w2) K2.out (show Below w2.heap.size w2 w4 from ⟨hb4.os,hb4.tape,hb4.output,hb4.size,hb4.block⟩); obtain ⟨r0,r1,q0,q1⟩ := K4.two; have HH := LH hh; have HM := LH hm; have HB4 := LH hb4; clear hh hm hb4)
 all_goals
  go_wp2
  have hge : w2.heap.size <= gg := hgg
  have hB4 : Below w2.heap.size w2 w4 := ⟨HB4.out.os,HB4.out.tape,HB4.out.output,HB4.out.size,HB4.out.block⟩
  have hne : gg ≠ w.heap.size + 1 := by omega
  refine bodyPost_ret (v := .tuple #[.agg #[.slice (some ⟨gg,0,none⟩) m m,.int .i64 ((l.length : Int) + ((Bs.bitsOf T L).length : Int))],.int .i64 0]) (by simp [results,Tryz.results160,go_sem,r0,r1]) rfl ⟨gg,m,?_,HM.out,by omega,?_,?_⟩
  ·rw [List.length_append,Int.natCast_add]
  ·exact (HH.out.set hne _).set hne _
  ·exact set2_below (KB2.out.trans (hB4.mono (by omega))) _ (by omega) _ _
end
section
open Go.RowKit
def tops (v n j : Nat) : List Bool := (List.range j).map fun i => v.testBit (n - 1 - i)
theorem tops_all (v n : Nat) : tops v n n = Bs.bitsOf (turned v n) n := by
 unfold tops Bs.bitsOf
 refine List.map_congr_left fun i hi => ?_
 have hi' : i < n := List.mem_range.1 hi
 unfold turned
 rw [Bs.testBit_num,List.getElem?_reverse (by rw [Bs.bitsOf_length]; exact hi'),Bs.bitsOf_length,Bs.bitsOf_get]
 simp; omega
end
section
open Go.RowKit
def Glob (w : World) : Prop := ∀ k,k < 19 -> w.cell? ⟨1,k,none⟩ = some (.int .i64 (Hd.ord k : Int))
theorem Glob.lt {w : World} (h : Glob w) : 1 < w.heap.size := World.block_lt_of_cell? w _ (h 0 (by omega))
theorem Glob.later {w w' : World} (h : Glob w) (hb : Below w.heap.size w w') : Glob w' := fun k hk => by
 rw [hb.cell (p := ⟨1,k,none⟩) h.lt]; exact h k hk
theorem Glob.ne {w : World} (h : Glob w) {R : Nat} {s : Value} {N p : Nat} (hx : Has w R (rdr s N p)) (hs : ∃ a len cap,s = .slice a len cap) : 1 ≠ R := by
 rintro rfl
 obtain ⟨c0,_⟩ := rdr_cells hx
 obtain ⟨a,len,cap,rfl⟩ := hs
 have := h 0 (by omega)
 rw [c0] at this; simp at this
theorem Glob.only {w w' : World} (h : Glob w) {R : Nat} (hne : 1 ≠ R) (ho : Only R w w') : Glob w' := fun k hk => by
 rw [cell_of_heap (ho.block _ h.lt hne)]; exact h k hk
theorem made_cl (l : List Bool) (p : Nat) : madeCells #[Value.int .i64 0] 19 = (vn (Hd.cl l p 0)).toArray := by
 apply Array.toList_inj.1
 rw [toList_madeCells_one]
 simp [Hd.cl,vn]
theorem nums_set {w : World} {g : Nat} {xs : List Nat} (h : Has w g (nums xs)) (i x : Nat) : Has (w.setCell ⟨g,i,none⟩ (.int .i64 (x : Int))) g (nums (xs.set i x)) := by
 have h' : Has w g (.cells (vn xs).toArray 3 (0,0)) := h
 have := h'.setSelf (i := i) (.int .i64 (x : Int))
 unfold nums
 have e : (vn (xs.set i x)).toArray = ((vn xs).toArray.setIfInBounds i (.int .i64 (x : Int))) := by
  apply Array.toList_inj.1
  simp [vn,List.map_set]
 rw [e]; exact this
end
section
open Go.RowKit
theorem Tb.ne {w : World} {T g capg : Nat} {ls : List Nat} (h : Tb w T g capg ls) (hg : Good ls) {R : Nat} {s : Value} {N p : Nat} (hx : Has w R (rdr s N p)) (hs : ∃ a len cap,s = .slice a len cap) : T ≠ R /\ g ≠ R := by
 obtain ⟨c0,_⟩ := rdr_cells hx
 obtain ⟨a,len,cap,rfl⟩ := hs
 constructor
 ·rintro rfl
  have := h.counts.cell 0 (by omega)
  rw [c0] at this; simp at this
 ·rintro rfl
  have := h.syms.cell 0 hg.1
  rw [c0] at this; simp at this
theorem Tb.rdr {w w' : World} {T g capg : Nat} {ls : List Nat} (h : Tb w T g capg ls) (hg : Good ls) {R : Nat} {s : Value} {N p : Nat} (hx : Has w R (rdr s N p)) (hs : ∃ a len cap,s = .slice a len cap) (ho : Only R w w') : Tb w' T g capg ls := by
 obtain ⟨n1,n2⟩ := h.ne hg hx hs
 refine ⟨h.counts.same (ho.block T h.counts.lt n1) (Nat.lt_of_lt_of_le h.counts.lt ho.size),?_,h.cap,h.syms.same (ho.block g h.syms.lt n2) (Nat.lt_of_lt_of_le h.syms.lt ho.size)⟩
 rw [cell_of_heap (ho.block T h.counts.lt n1)]; exact h.slice
def SymPost (R : Nat) (w : World) (s : Value) (N y q : Nat) (c : Int) (e : Ending) (w' : World) : Prop :=
 Only R w w' /\ (c = 0 -> e = .returned (.int .i64 (y : Int)) /\ Has w' R (rdr s N q)) /\ (c ≠ 0 -> e = .panicked (Pan c))
theorem SymPost.ok {R : Nat} {w w' : World} {s : Value} {N y q : Nat} {e : Ending} (h : SymPost R w s N y q 0 e w') : e = .returned (.int .i64 (y : Int)) /\ Has w' R (rdr s N q) /\ Only R w w' := ⟨(h.2.1 rfl).1,(h.2.1 rfl).2,h.1⟩
theorem SymPost.bad {R : Nat} {w w' : World} {s : Value} {N y q : Nat} {c : Int} {e : Ending} (h : SymPost R w s N y q c e w') (hc : c ≠ 0) : e = .panicked (Pan c) /\ Only R w w' := ⟨h.2.2 hc,h.1⟩
end
section
open Go.RowKit
def Pai (c : Int) : List PanicEntry := [{ v := .iface 134 (.agg #[.int .i64 c]),recovered := false }]
def tc (ts : List If.Tk) : List Value := ts.flatMap fun t => [.int .i64 (t.len : Int),.int .i64 (t.far : Int),.int .u8 (t.lit : Int)]
theorem tc_snoc (ts : List If.Tk) (t : If.Tk) : tc (ts ++ [t]) = tc ts ++ [.int .i64 (t.len : Int),.int .i64 (t.far : Int),.int .u8 (t.lit : Int)] := by simp [tc]
theorem tc_get : ∀ (ts : List If.Tk) (i : Nat) (t : If.Tk),ts[i]? = some t -> (tc ts)[3 * i]? = some (.int .i64 (t.len : Int)) /\ (tc ts)[3 * i + 1]? = some (.int .i64 (t.far : Int)) /\ (tc ts)[3 * i + 2]? = some (.int .u8 (t.lit : Int))
 | [],i,t,h => by simp at h
 | u :: ts,0,t,h => by simp at h; subst h; simp [tc]
 | u :: ts,i + 1,t,h => by
  have := tc_get ts i t (by simpa using h)
  simp only [tc,List.flatMap_cons] at this ⊢
  rw [show 3 * (i + 1) = [Value.int .i64 (u.len : Int),.int .i64 (u.far : Int),.int .u8 (u.lit : Int)].length + 3 * i by simp; omega]
  simp only [Nat.add_assoc]
  rw [List.getElem?_append_right (Nat.le_add_right _ _),List.getElem?_append_right (Nat.le_add_right _ _),List.getElem?_append_right (Nat.le_add_right _ _)]
  simp only [Nat.add_sub_cancel_left]
  exact this
structure Rv where
 p : Nat
 ts : List If.Tk
 lv : Value
 dv : Value
def rdi (s : Value) (N : Nat) (most : Nat) (tv : Value) (r : Rv) : Obj :=
 .cells #[s,.int .i64 (N : Int),.int .i64 (r.p : Int),tv,.int .i64 ((If.tell r.ts).length : Int),.int .i64 (most : Int),r.lv,r.dv] 90 (0,0)
structure Fr (K : Nat -> Prop) (w w' : World) : Prop where
 os : w'.os = w.os
 tape : w'.tape = w.tape
 output : w'.output = w.output
 size : w.heap.size <= w'.heap.size
 block : ∀ k,K k -> w'.heap[k]? = w.heap[k]?
theorem Fr.refl (K : Nat -> Prop) (w : World) : Fr K w w := ⟨rfl,rfl,rfl,Nat.le_refl _,fun _ _ => rfl⟩
theorem Fr.trans {K : Nat -> Prop} {a b c : World} (h : Fr K a b) (k : Fr K b c) : Fr K a c :=
 ⟨k.os.trans h.os,k.tape.trans h.tape,k.output.trans h.output,Nat.le_trans h.size k.size,fun i hi => (k.block i hi).trans (h.block i hi)⟩
theorem Fr.of_below {K : Nat -> Prop} {w w' : World} (hK : ∀ k,K k -> k < w.heap.size) (h : Below w.heap.size w w') : Fr K w w' :=
 ⟨h.os,h.tape,h.output,h.size,fun k hk => h.block k (hK k hk)⟩
theorem Fr.of_only {K : Nat -> Prop} {R : Nat} {w w' : World} (hK : ∀ k,K k -> k < w.heap.size) (hR : ¬ K R) (h : Only R w w') : Fr K w w' :=
 ⟨h.os,h.tape,h.output,h.size,fun k hk => h.block k (hK k hk) (fun e => hR (e ▸ hk))⟩
theorem Fr.mono {K K' : Nat -> Prop} {w w' : World} (h : Fr K' w w') (hK : ∀ k,K k -> K' k) : Fr K w w' := ⟨h.os,h.tape,h.output,h.size,fun k hk => h.block k (hK k hk)⟩
theorem Fr.below {K : Nat -> Prop} {B : Nat} {w w' : World} (h : Fr K w w') (hB : ∀ k,k < B -> K k) : Below B w w' := ⟨h.os,h.tape,h.output,h.size,fun k hk => h.block k (hB k hk)⟩
structure St (K : Nat -> Prop) (R : Nat) (s : Value) (l : List Bool) (N most : Nat) (w : World) (r : Rv) : Prop where
 lt : ∀ k,K k -> k < w.heap.size
 ne : ¬ K R
 sl : Sl w s (Bs.pack l)
 slK : ∀ a len cap b off,s = .slice a len cap -> 0 < len -> a = some ⟨b,off,none⟩ -> K b
 gl : Glob w
 glK : K 1
 pn : r.p <= N
 toks : If.Toks r.ts
 le : (If.tell r.ts).length <= most
 has : ∃ tv,Has w R (rdi s N most tv r) /\ w.ownsRow 0 48 3 tv r.ts.length (tc r.ts) /\ (∀ g,tv.ownBlock = some g -> ¬ K g)
theorem sl_keep {K : Nat -> Prop} {w w' : World} {s : Value} {bs : List Nat} (h : Sl w s bs) (hK : ∀ a len cap b off,s = .slice a len cap -> 0 < len -> a = some ⟨b,off,none⟩ -> K b) (hf : Fr K w w') : Sl w' s bs := by
 obtain ⟨a,len,cap,rfl,h1,h2,h3,h4,h5⟩ := h
 refine ⟨a,len,cap,rfl,h1,h2,h3,h4,fun hl => ?_⟩
 obtain ⟨b,off,rfl,hlt,hc⟩ := h5 hl
 refine ⟨b,off,rfl,Nat.lt_of_lt_of_le hlt hf.size,fun i hi => ?_⟩
 rw [cell_of_heap (hf.block b (hK _ _ _ _ _ rfl hl rfl))]
 exact hc i hi
theorem glob_keep {K : Nat -> Prop} {w w' : World} (h : Glob w) (hK : K 1) (hf : Fr K w w') : Glob w' := fun k hk => by
 rw [cell_of_heap (hf.block _ hK)]; exact h k hk
theorem St.later {K : Nat -> Prop} {R : Nat} {s : Value} {l : List Bool} {N most : Nat} {w w' : World} {r : Rv} (h : St K R s l N most w r) (hb : Below w.heap.size w w') : St K R s l N most w' r := by
 have hf := Fr.of_below h.lt hb
 obtain ⟨tv,h1,h2,h3⟩ := h.has
 exact ⟨fun k hk => Nat.lt_of_lt_of_le (h.lt k hk) hb.size,h.ne,h.sl.later hb,h.slK,h.gl.later hb,h.glK,h.pn,h.toks,h.le,tv,h1.later hb,own_keep h2 hb,h3⟩
theorem rdi_cells {w : World} {R : Nat} {s tv : Value} {N most : Nat} {r : Rv} (h : Has w R (rdi s N most tv r)) :
  w.cell? ⟨R,0,none⟩ = some s /\ w.cell? ⟨R,1,none⟩ = some (.int .i64 (N : Int)) /\ w.cell? ⟨R,2,none⟩ = some (.int .i64 (r.p : Int)) /\ w.cell? ⟨R,3,none⟩ = some tv /\
  w.cell? ⟨R,4,none⟩ = some (.int .i64 ((If.tell r.ts).length : Int)) /\ w.cell? ⟨R,5,none⟩ = some (.int .i64 (most : Int)) /\ w.cell? ⟨R,6,none⟩ = some r.lv /\ w.cell? ⟨R,7,none⟩ = some r.dv := by
 unfold rdi at h
 exact ⟨by rw [h.cell]; rfl,by rw [h.cell]; rfl,by rw [h.cell]; rfl,by rw [h.cell]; rfl,by rw [h.cell]; rfl,by rw [h.cell]; rfl,by rw [h.cell]; rfl,by rw [h.cell]; rfl⟩
theorem tok_ne {w : World} {R : Nat} {s tv : Value} {N most : Nat} {r : Rv} {n : Nat} {xs : List Value} (h : Has w R (rdi s N most tv r)) (ho : w.ownsRow 0 48 3 tv n xs) : ∀ g,tv.ownBlock = some g -> g ≠ R := by
 intro g hg
 rcases ho.2 with ⟨rfl,_⟩ | ⟨g',cap,cur,rfl,_,hh,_⟩
 ·simp [Value.ownBlock] at hg
 ·simp [Value.ownBlock] at hg
  subst hg
  rintro rfl
  unfold rdi at h
  have e : some (Obj.cells cur 48 (0,0)) = some _ := Eq.trans (Eq.symm hh) h
  simp only [Option.some.injEq,Obj.cells.injEq] at e
  exact absurd e.2.1 (by decide)
theorem own_setR {w : World} {R i : Nat} {x : Value} {tv : Value} {n : Nat} {xs : List Value} (ho : w.ownsRow 0 48 3 tv n xs) (hne : ∀ g,tv.ownBlock = some g -> g ≠ R) : (w.setCell ⟨R,i,none⟩ x).ownsRow 0 48 3 tv n xs := by
 refine ho.kept (row := some R) ⟨rfl,rfl,rfl,by simp,fun k hk hr => ?_⟩ ?_
 ·exact Below.heap_setCell w ⟨R,i,none⟩ x k (by simpa using hr)
 ·cases hv : tv.ownBlock with
  | none => exact Or.inl rfl
  | some g => exact Or.inr (fun e => hne g hv (by simpa using e))
theorem St.turn {K : Nat -> Prop} {R : Nat} {s : Value} {l : List Bool} {N most : Nat} {w : World} {r r' : Rv} (h : St K R s l N most w r) (i : Nat) (x : Value) (hp : r'.p <= N) (hts : r'.ts = r.ts)
  (hh : ∀ tv,Has w R (rdi s N most tv r) -> Has (w.setCell ⟨R,i,none⟩ x) R (rdi s N most tv r')) : St K R s l N most (w.setCell ⟨R,i,none⟩ x) r' := by
 have hf : Fr K w (w.setCell ⟨R,i,none⟩ x) := Fr.of_only h.lt h.ne (only_set w R i x)
 obtain ⟨tv,h1,h2,h3⟩ := h.has
 refine ⟨fun k hk => by simpa using h.lt k hk,h.ne,sl_keep h.sl h.slK hf,h.slK,glob_keep h.gl h.glK hf,h.glK,hp,by rw [hts]; exact h.toks,by rw [hts]; exact h.le,tv,hh tv h1,?_,h3⟩
 rw [hts]
 exact own_setR h2 (tok_ne h1 h2)
theorem St.at {K : Nat -> Prop} {R : Nat} {s : Value} {l : List Bool} {N most : Nat} {w : World} {r : Rv} (h : St K R s l N most w r) (q : Nat) (hq : q <= N) : St K R s l N most (w.setCell ⟨R,2,none⟩ (.int .i64 (q : Int))) { r with p := q } :=
 h.turn 2 _ hq rfl fun tv hh => by
  unfold rdi at hh ⊢
  have := hh.setSelf (i := 2) (.int .i64 (q : Int))
  simpa using this
def Out (K : Nat -> Prop) (w : World) (c : Int) (v : Value) (S : World -> Prop) (e : Ending) (w' : World) : Prop := Fr K w w' /\ (c = 0 -> e = .returned v /\ S w') /\ (c ≠ 0 -> e = .panicked (Pai c))
theorem Out.ok {K : Nat -> Prop} {w w' : World} {v : Value} {S : World -> Prop} {e : Ending} (h : Out K w 0 v S e w') : e = .returned v /\ S w' /\ Fr K w w' := ⟨(h.2.1 rfl).1,(h.2.1 rfl).2,h.1⟩
theorem Out.bad {K : Nat -> Prop} {w w' : World} {c : Int} {v : Value} {S : World -> Prop} {e : Ending} (h : Out K w c v S e w') (hc : c ≠ 0) : e = .panicked (Pai c) /\ Fr K w w' := ⟨h.2.2 hc,h.1⟩
theorem Out.intro {K : Nat -> Prop} {w w' : World} {v : Value} {S : World -> Prop} (hf : Fr K w w') (hs : S w') : Out K w 0 v S (.returned v) w' := ⟨hf,fun _ => ⟨rfl,hs⟩,fun h => absurd rfl h⟩
theorem Out.fault {K : Nat -> Prop} {w w' : World} {c : Int} {v : Value} {S : World -> Prop} (hc : c ≠ 0) (hf : Fr K w w') : Out K w c v S (.panicked (Pai c)) w' := ⟨hf,fun h => absurd h hc,fun _ => rfl⟩
end
section
open Go.RowKit
theorem size_ok (t : If.Tk) (ht : t.len <= 258) (w : World) : Calls Tryz.prog 86 #[.agg #[.int .i64 (t.len : Int),.int .i64 (t.far : Int),.int .u8 (t.lit : Int)]] w fun e w' => e = .returned (.int .i64 ((If.sz t : Nat) : Int)) /\ Below w.heap.size w w' := by
 have HB := LH (below1 w (.cells #[.int .i64 (t.len : Int),.int .i64 (t.far : Int),.int .u8 (t.lit : Int)] 48))
 obtain ⟨u0,u1,u2⟩ := cells3 (Has.new w (.cells #[.int .i64 (t.len : Int),.int .i64 (t.far : Int),.int .u8 (t.lit : Int)] 48))
 by_cases h0 : t.len = 0
 ·have e : If.sz t = 1 := by unfold If.sz; rw [if_pos h0]
  rw [e]
  rw [h0] at u0 HB ⊢
  clear h0 e ht
  go_enter Tryz.func86,Tryz.ntmps86
  go_wp2_with fail
  go_ret
  exact ⟨rfl,HB.out⟩
 ·have e : If.sz t = t.len := by unfold If.sz; rw [if_neg h0]
  rw [e]
  have h1 : (1 : Int) <= (t.len : Int) := by omega
  have h2 : max (t.len : Int) 1 = (t.len : Int) := by omega
  clear h0 e ht
  go_enter Tryz.func86,Tryz.ntmps86
  go_wp2_with fail
  go_ret
  exact ⟨rfl,HB.out⟩
end
section
open Go.RowKit
namespace Mu
theorem maskN (a : Nat) (ha : a < 4294967296) : bits .and .u64 (a : Int) 4294967295 = (a : Int) := by
 have h := bits_and_u64_nat a 4294967295 (by omega) (by omega)
 have e : a &&& 4294967295 = a % 4294967296 := Nat.and_two_pow_sub_one_eq_mod a 32
 rw [e,Nat.mod_eq_of_lt ha] at h
 exact h
theorem divN (a : Nat) (ha : a < 4294967296) : (a : Int) / 4294967296 = 0 := by omega
theorem wrapN (a : Nat) (ha : a < 18446744073709551616) : IntKind.u64.wrap (a : Int) = (a : Int) := by rw [IntKind.wrap_u64]; omega
end Mu
theorem mul64_one (y : Nat) (hy : y < 4294967296) (w : World) : Calls Tryz.prog 151 #[.int .u64 1,.int .u64 (y : Int)] w fun e w' => e = .returned (.tuple #[.int .u64 0,.int .u64 (y : Int)]) /\ w = w' := by
 have h1 := Mu.maskN y hy
 have h2 := Mu.maskN 1 (by omega)
 have h0 := Mu.maskN 0 (by omega)
 have d1 := Mu.divN y hy
 have w1 := Mu.wrapN y (by omega)
 simp only [Int.natCast_zero,Int.natCast_one] at h2 h0
 go_enter Tryz.func151,Tryz.ntmps151
 go_wp2
 go_ret2
 exact ⟨rfl,rfl⟩
theorem mul_one_is (y : Nat) (hy : y < 4294967296) (w : World) : Calls Tryz.prog 109 #[.int .u64 1,.int .u64 (y : Int)] w fun e w' => e = .returned (.tuple #[.int .u64 0,.int .u64 (y : Int)]) /\ w = w' := by
 go_enter Tryz.func109,Tryz.ntmps109
 go_wp2_with (go_at_call 151; refine (mul64_one y hy _).mono ?_; rintro e w' ⟨rfl,rfl⟩)
 go_ret2
 exact ⟨rfl,rfl⟩
def rp (q n m : Nat) : List Nat := List.replicate n q ++ List.replicate (m - n) 0
theorem rp_length (q n m : Nat) (h : n <= m) : (rp q n m).length = m := by simp [rp]; omega
theorem rp_full (q m : Nat) : rp q m m = List.replicate m q := by simp [rp]
theorem rp_get (q n m i : Nat) (hi : i < n) : (rp q n m)[i]? = some q := by
 unfold rp
 rw [List.getElem?_append_left (by simpa using hi)]
 simp [hi]
theorem rp_splice (q n k m : Nat) (h : n + k <= m) : splice (rp q n m) n (List.replicate k q) = rp q (n + k) m := by
 unfold splice rp
 rw [List.take_append_of_le_length (by simp),List.take_of_length_le (by simp),List.length_replicate,List.drop_append,List.drop_of_length_le (by simp),List.nil_append,List.length_replicate,List.drop_replicate,
  show m - n - (n + k - n) = m - (n + k) by omega,<- List.append_assoc,List.replicate_append_replicate]
theorem made_nums (m : Nat) : madeCells #[Value.int .i64 0] m = (vn (rp 0 0 m)).toArray := by
 apply Array.toList_inj.1
 rw [toList_madeCells_one]
 simp [rp,vn]
theorem rp_zero (q m : Nat) : rp q 0 m = rp 0 0 m := by simp [rp]
def RepPost (w : World) (q m : Nat) (e : Ending) (w' : World) : Prop :=
 ∃ g,e = .returned (.slice (some ⟨g,0,none⟩) m m) /\ Has w' g (nums (List.replicate m q)) /\ w.heap.size <= g /\ Below w.heap.size w w'
theorem repeat_one (b cap q m : Nat) (hm0 : 0 < m) (hm : m <= 1000) (w : World) (hb : b < w.heap.size) (hc : w.cell? ⟨b,0,none⟩ = some (.int .i64 (q : Int))) :
  Calls Tryz.prog 67 #[.slice (some ⟨b,0,none⟩) 1 cap,.int .i64 (m : Int)] w (RepPost w q m) := by
 have hmk := run_make_row' (P := Tryz.prog) 57 3 (.int .i64 0) 8 Tryz.underlying57 Tryz.infoInt rfl .i64 .i64 m (by omega) (by omega)
 obtain ⟨w1,hw1⟩ : ∃ w1,w1 = w.alloc (.cells (madeCells #[Value.int .i64 0] m) 3) := ⟨_,rfl⟩
 have hg1 : Has w1 w.heap.size (nums (rp q 0 m)) := by
  rw [hw1,rp_zero,made_nums]; exact Has.new w _
 have hb1 : Below w.heap.size w w1 := by rw [hw1]; exact below1 _ _
 have hcc : w1.cell? ⟨b,0,none⟩ = some (.int .i64 (q : Int)) := by rw [hb1.cell (p := ⟨b,0,none⟩) hb]; exact hc
 have HG1 := LH hg1
 have HB1 := LH hb1
 have HC := LH hcc
 have wy := Mu.wrapN m (by omega)
 have d0 : decide ((9223372036854775807 : Int) < (m : Int)) = false := decide_eq_false (by omega)
 have NEXT : Hid (∀ (n : Nat) (W : World),n < m -> Has W w.heap.size (nums (rp q n m)) -> ∀ j,j < (List.replicate (min n (m - n)) q).length -> W.cell? ⟨w.heap.size,0 + j,none⟩ = some (.int .i64 (((List.replicate (min n (m - n)) q)[j]?.getD 0 : Nat) : Int))) := by
  intro n W hlt hW j hj
  rw [List.length_replicate] at hj
  rw [Nat.zero_add,nums_cell hW j (by rw [rp_length _ _ _ (by omega)]; omega),rp_get _ _ _ _ (by omega),List.getElem?_replicate_of_lt hj]
 have ONE : Hid (∀ j,j < (List.replicate 1 q).length -> w1.cell? ⟨b,0 + j,none⟩ = some (.int .i64 (((List.replicate 1 q)[j]?.getD 0 : Nat) : Int))) := by
  intro j hj
  rw [List.length_replicate] at hj
  obtain rfl : j = 0 := by omega
  exact hcc
 clear hg1 hb1 hcc hc
 go_enter Tryz.func67,Tryz.ntmps67
 go_wp2_with (first | (go_at_call 109; refine (mul_one_is m (by omega) _).mono ?_; rintro e w' ⟨rfl,rfl⟩) | (rw [<- hw1]; with_reducible refine wpList_copy_nums rfl (.tmp 31) (.tmp 32) rfl m m 1 cap w.heap.size 0 b 0 rfl rfl (rp q 0 m) (List.replicate 1 q) HG1.out ?hn ONE.out ?hf ?_; (case hn => (rw [List.length_replicate]; exact (Nat.min_eq_left (by omega)).symm)); (case hf => (rw [rp_length _ _ _ (by omega),List.length_replicate]; omega)); intro w2 hg2 ho2))
 have HG2 : Hid (Has w2 w.heap.size (nums (rp q 1 m))) := by
  have h := hg2
  rw [rp_splice q 0 1 m (by omega)] at h
  exact h
 have HB2 := LH (ho2.below HB1.out (Nat.le_refl _) HB1.out.size)
 clear hg2 ho2 HG1 HB1 HC ONE hw1 hmk
 go_wp2_with fail
 go_loopw [8] (fun s8 wr => ∃ n : Nat,s8 = .int .i64 (n : Int) /\ 0 < n /\ n <= m /\ Hid (Has wr w.heap.size (nums (rp q n m))) /\ Hid (Below w.heap.size w wr)) (fun s _ => m - (intOf s).toNat)
 case atStart => exact ⟨1,by go_num,by omega,by omega,HG2,HB2⟩
 case round =>
  obtain ⟨n,rfl,hn0,hnm,KG,KB⟩ := hrel
  by_cases hlt : n < m
  ·have j0 : decide ((n : Int) < (m : Int)) = true := decide_eq_true (by omega)
   obtain ⟨k,hk⟩ : ∃ k,k = min n (m - n) := ⟨_,rfl⟩
   have HN := LH (NEXT.out n wr.drew hlt KG.out)
   rw [<- hk] at HN
   have ek : Hid (Value.int .i64 (IntKind.i64.wrap ((n : Int) + (k : Int))) = .int .i64 ((n + k : Nat) : Int)) := by
    show _ = _
    rw [IntWalk.i64_in _ (by omega)]; norm_cast
   have KG2 : Hid (Has wr.drew w.heap.size (nums (rp q n m))) := KG.out
   have KB2 : Hid (Below w.heap.size w wr.drew) := KB.out.drew
   have hk1 : 0 < k /\ n + k <= m := by omega
   have HK : Hid ((List.replicate k q).length = Nat.min n (m - n)) := by
    show _ = _
    rw [List.length_replicate,hk]
   have hne : ¬ m = n := by omega
   clear hk
   go_wp2
   go_region_law (refine step_copy_nums rfl (.tmp 41) (.tmp 44) rfl (m - n) (m - n) n m w.heap.size n w.heap.size 0 (by simp [Act.eval,Act.put]) (by simp [Act.eval,Act.put]) (rp q n m) (List.replicate k q) w.heap.size w KB2.out (Nat.le_refl _) KG2.out HK.out HN.out (by rw [rp_length _ _ _ (by omega),List.length_replicate]; omega) ?_; intro w3 hg3 hb3; rw [rp_splice q n k m hk1.2] at hg3; have HG3 := LH hg3; have HB3 := LH hb3; clear hg3 hb3)
   rw [IntWalk.i64_in ((n : Int) + (k : Int)) (by omega)]
   go_simp
   go_roundw
   case rel => exact ⟨.int .i64 ((n : Int) + (k : Int)),_,_,_,_,_,_,_,_,_,_,_,_,_,⟨n + k,by go_num,by omega,hk1.2,HG3,HB3⟩,rfl⟩
   case measure => simp [intOf]; omega
  ·obtain rfl : n = m := by omega
   go_wp2
   go_ret
   exact ⟨_,rfl,by have := KG.out; rw [rp_full] at this; exact this,Nat.le_refl _,KB.out⟩
end
section
open Go.RowKit
def LenPost (base : Nat) (w : World) (r : List Nat × Int) (e : Ending) (w' : World) : Prop :=
 ∃ s,e = .returned (.tuple #[s,.int .i64 r.2]) /\ (r.2 = 0 -> Own base w' s r.1) /\ Below base w w'
theorem LenPost.pair {base : Nat} {w w' : World} {x : List Nat} {c : Int} {e : Ending} (h : LenPost base w (x,c) e w') : ∃ s,e = .returned (.tuple #[s,.int .i64 c]) /\ (c = 0 -> Own base w' s x) /\ Below base w w' := h
theorem take_none (acc : List Nat) (s v n : Nat) (h1 : s = 16) (h2 : acc.length = 0) : Hd.take acc s v n = ([],9) := by unfold Hd.take; rw [if_pos ⟨h1,h2⟩]
theorem take_large (acc : List Nat) (s v n : Nat) (h1 : ¬ (s = 16 /\ acc.length = 0)) (h2 : n < acc.length + (Hd.least s + v)) : Hd.take acc s v n = ([],3) := by unfold Hd.take; rw [if_neg h1,if_pos h2]
theorem take_some (acc : List Nat) (s v n : Nat) (h1 : ¬ (s = 16 /\ acc.length = 0)) (h2 : acc.length + (Hd.least s + v) <= n) : Hd.take acc s v n = (acc ++ List.replicate (Hd.least s + v) (Hd.val acc s),0) := by
 unfold Hd.take; rw [if_neg h1,if_neg (by omega)]
theorem lengthen_any (base : Nat) (sv : Value) (acc : List Nat) (s v n : Nat) (hs : s < 19) (hv : v < 2 ^ Hd.ex s) (hn : n <= 400) (hl : acc.length <= n) (w : World) (ho : Own base w sv acc) (hb : base <= w.heap.size) :
  Calls Tryz.prog 216 #[sv,.agg #[.int .i64 (s : Int),.int .i64 (v : Int)],.int .i64 (n : Int)] w (LenPost base w (Hd.take acc s v n)) := by
 have hv2 : v < 128 := Nat.lt_of_lt_of_le hv (by have : 2 ^ Hd.ex s <= 2 ^ 7 := Nat.pow_le_pow_right (by omega) (Hd.ex_le s); omega)
 have hls := Hd.least_le s
 have HM := LH (fun w => maybe_yes s v hs hv w)
 have HS := LH (fun w => size_run s v hv2 w)
 obtain ⟨a,cap,rfl⟩ := ho.shape
 have HO := LH ho
 have X0 := LH (Has.new w (.cells #[.int .i64 (s : Int),.int .i64 (v : Int)] 165))
 have B0 := LH (below1 w (.cells #[.int .i64 (s : Int),.int .i64 (v : Int)] 165))
 clear ho hv
 obtain ⟨len,hlen⟩ : ∃ len,len = acc.length := ⟨_,rfl⟩
 rw [<- hlen] at HO hl ⊢
 have HL := LH hlen
 clear hlen
 by_cases h16 : s = 16 /\ len = 0
 ·rw [take_none acc s v n h16.1 (by rw [<- HL.out]; exact h16.2)]
  obtain ⟨rfl,rfl⟩ := h16
  go_enter Tryz.func216,Tryz.ntmps216
  go_wp2_with fail
  refine (HM.out _).mono ?_
  rintro e w1 ⟨rfl,hb1⟩
  obtain ⟨c0,c1,_,_⟩ := (X0.out.later hb1).two
  have B1 := LH (B0.out.trans (hb1.mono B0.out.size))
  clear hb1
  go_wp2_with fail
  go_ret2
  exact ⟨_,rfl,fun h => by simp at h,B1.out.mono hb⟩
 ·obtain ⟨m,hm⟩ : ∃ m,m = Hd.least s + v := ⟨_,rfl⟩
  have hm1 : 1 <= m /\ m <= 138 := by omega
  have HMM := LH hm
  by_cases hlt : n < len + m
  ·rw [take_large acc s v n (by rw [<- HL.out]; exact h16) (by rw [<- HL.out,<- hm]; exact hlt)]
   have j1 : decide ((n : Int) < (len : Int) + (m : Int)) = true := decide_eq_true (by omega)
   clear hm hlt hls hv2
   by_cases hs16 : s = 16
   ·have e0 : ((len : Int) == 0) = false := by rw [beq_eq_false_iff_ne]; omega
    subst hs16
    clear h16
    go_enter Tryz.func216,Tryz.ntmps216
    go_wp2_with fail
    refine (HM.out _).mono ?_
    rintro e w1 ⟨rfl,hb1⟩
    obtain ⟨c0,c1,_,_⟩ := (X0.out.later hb1).two
    have X1 := LH (X0.out.later hb1)
    have B1 := LH (B0.out.trans (hb1.mono B0.out.size))
    clear hb1
    go_wp2_with fail
    refine (HS.out _).mono ?_
    rintro e w2 ⟨rfl,hb2⟩
    clear c0 c1
    obtain ⟨c0,c1,_,_⟩ := (X1.out.later hb2).two
    have X2 := LH (X1.out.later hb2)
    have B2 := LH (B1.out.trans (hb2.mono B1.out.size))
    clear hb2
    rw [<- HMM.out]
    go_wp2_with fail
    go_ret2
    exact ⟨_,rfl,fun h => by simp at h,B2.out.mono hb⟩
   ·have e0 : ((s : Int) == 16) = false := by rw [beq_eq_false_iff_ne]; omega
    clear h16 hs16
    go_enter Tryz.func216,Tryz.ntmps216
    go_wp2_with fail
    refine (HM.out _).mono ?_
    rintro e w1 ⟨rfl,hb1⟩
    obtain ⟨c0,c1,_,_⟩ := (X0.out.later hb1).two
    have X1 := LH (X0.out.later hb1)
    have B1 := LH (B0.out.trans (hb1.mono B0.out.size))
    clear hb1
    go_wp2_with fail
    refine (HS.out _).mono ?_
    rintro e w2 ⟨rfl,hb2⟩
    clear c0 c1
    obtain ⟨c0,c1,_,_⟩ := (X1.out.later hb2).two
    have X2 := LH (X1.out.later hb2)
    have B2 := LH (B1.out.trans (hb2.mono B1.out.size))
    clear hb2
    rw [<- HMM.out]
    go_wp2_with fail
    go_ret2
    exact ⟨_,rfl,fun h => by simp at h,B2.out.mono hb⟩
  ·rw [take_some acc s v n (by rw [<- HL.out]; exact h16) (by rw [<- HL.out,<- hm]; omega),<- hm]
   have j1 : decide ((n : Int) < (len : Int) + (m : Int)) = false := decide_eq_false (by omega)
   have hnm : len + m <= n := by omega
   clear hm hlt hls hv2
   by_cases hs16 : s = 16
   ·have e0 : ((len : Int) == 0) = false := by rw [beq_eq_false_iff_ne]; omega
    have hlen0 : 0 < len := by omega
    subst hs16
    clear h16
    obtain ⟨k,rfl⟩ : ∃ k,len = k + 1 := ⟨len - 1,by omega⟩
    obtain ⟨q,hq⟩ : ∃ q,q = Hd.val acc 16 := ⟨_,rfl⟩
    obtain ⟨ga,rfl,hga,hgb,hcl⟩ := HO.out.cells (by rw [<- HL.out]; omega)
    have hcell : Hid (∀ w',Below w.heap.size w w' -> w'.cell? ⟨ga,k,none⟩ = some (.int .i64 (q : Int))) := by
     intro w' hb'
     rw [hb'.cell (p := ⟨ga,k,none⟩) hga,hcl k (by rw [<- HL.out]; omega),hq]
     simp [Hd.val,<- HL.out]
    rw [<- hq]
    clear hcl hq hga hgb
    go_enter Tryz.func216,Tryz.ntmps216
    go_wp2_with fail
    refine (HM.out _).mono ?_
    rintro e w1 ⟨rfl,hb1⟩
    obtain ⟨c0,c1,_,_⟩ := (X0.out.later hb1).two
    have X1 := LH (X0.out.later hb1)
    have B1 := LH (B0.out.trans (hb1.mono B0.out.size))
    clear hb1
    go_wp2_with fail
    refine (HS.out _).mono ?_
    rintro e w2 ⟨rfl,hb2⟩
    clear c0 c1
    obtain ⟨c0,c1,_,_⟩ := (X1.out.later hb2).two
    have X2 := LH (X1.out.later hb2)
    have B2 := LH (B1.out.trans (hb2.mono B1.out.size))
    clear hb2
    rw [<- HMM.out]
    obtain ⟨d0,d1,_,_⟩ := (X2.out.alloc (.cells #[.int .i64 (q : Int)] 3)).two
    have ck := hcell.out _ B2.out
    go_wp2_with fail
    refine (HS.out _).mono ?_
    rintro e w3 ⟨rfl,hb3⟩
    rw [<- HMM.out]
    obtain ⟨hx3,hb3',hz3⟩ := facts1 hb3
    have B3 := LH (B2.out.trans (hb3'.mono B2.out.size))
    have cq := hx3.one.1
    clear hb3 hb3' hx3
    go_wp2_with fail
    refine (repeat_one w2.heap.size 1 q m (by omega) (by omega) w3 (by omega) cq).mono ?_
    rintro e w4 ⟨g4,rfl,hg4,hz4,hb4⟩
    have B4 := LH (B3.out.trans (hb4.mono B3.out.size))
    have G4 := LH hg4
    clear hg4 hz4 hb4
    obtain ⟨v5,w5,r5,o5,gr5⟩ := nums_append (w := w4) (base := base) (v := .slice (some ⟨ga,0,none⟩) (k + 1) cap) (xs := acc) (HO.out.keep B4.out) 57 g4 m m (List.replicate m q) G4.out (by simp) (by omega) (by have := HL.out; omega) (by have := B4.out.size; omega)
    have R5 := LH r5
    have O5 := LH o5
    have B5 := LH ((B4.out.mono hb).grown gr5 (by have := B4.out.size; omega) HO.out.block)
    clear r5 o5 gr5
    go_wp2_with (at_builtin; refine wpList_append_is rfl _ _ 57 rfl _ _ _ _ rfl rfl R5.out ?_)
    go_ret2
    exact ⟨_,rfl,fun _ => O5.out,B5.out⟩
   ·have e0 : ((s : Int) == 16) = false := by rw [beq_eq_false_iff_ne]; omega
    have hq : ∀ q,q = Hd.val acc s -> q = if s = 17 ∨ s = 18 then 0 else s := fun q h => by rw [h]; unfold Hd.val; rw [if_neg hs16]
    clear h16 hs16
    by_cases hs17 : s = 17
    ·subst hs17
     rw [hq _ rfl,if_pos (Or.inl rfl)]
     clear hq
     go_enter Tryz.func216,Tryz.ntmps216
     go_wp2_with fail
     refine (HM.out _).mono ?_
     rintro e w1 ⟨rfl,hb1⟩
     obtain ⟨c0,c1,_,_⟩ := (X0.out.later hb1).two
     have X1 := LH (X0.out.later hb1)
     have B1 := LH (B0.out.trans (hb1.mono B0.out.size))
     clear hb1
     go_wp2_with fail
     refine (HS.out _).mono ?_
     rintro e w2 ⟨rfl,hb2⟩
     clear c0 c1
     obtain ⟨c0,c1,_,_⟩ := (X1.out.later hb2).two
     have X2 := LH (X1.out.later hb2)
     have B2 := LH (B1.out.trans (hb2.mono B1.out.size))
     clear hb2
     rw [<- HMM.out]
     obtain ⟨d0,d1,_,_⟩ := (X2.out.alloc (.cells #[.int .i64 0] 3)).two
     go_wp2_with fail
     refine (HS.out _).mono ?_
     rintro e w3 ⟨rfl,hb3⟩
     rw [<- HMM.out]
     obtain ⟨hx3,hb3',hz3⟩ := facts1 hb3
     have B3 := LH (B2.out.trans (hb3'.mono B2.out.size))
     have cq := hx3.one.1
     clear hb3 hb3' hx3
     go_wp2_with fail
     refine (repeat_one w2.heap.size 1 0 m (by omega) (by omega) w3 (by omega) cq).mono ?_
     rintro e w4 ⟨g4,rfl,hg4,hz4,hb4⟩
     have B4 := LH (B3.out.trans (hb4.mono B3.out.size))
     have G4 := LH hg4
     clear hg4 hz4 hb4
     obtain ⟨v5,w5,r5,o5,gr5⟩ := nums_append (w := w4) (base := base) (v := .slice a len cap) (xs := acc) (HO.out.keep B4.out) 57 g4 m m (List.replicate m 0) G4.out (by simp) (by omega) (by have := HL.out; omega) (by have := B4.out.size; omega)
     have R5 := LH r5
     have O5 := LH o5
     have B5 := LH ((B4.out.mono hb).grown gr5 (by have := B4.out.size; omega) HO.out.block)
     clear r5 o5 gr5
     go_wp2_with (at_builtin; refine wpList_append_is rfl _ _ 57 rfl _ _ _ _ rfl rfl R5.out ?_)
     go_ret2
     exact ⟨_,rfl,fun _ => O5.out,B5.out⟩
    ·by_cases hs18 : s = 18
     ·subst hs18
      rw [hq _ rfl,if_pos (Or.inr rfl)]
      clear hq
      go_enter Tryz.func216,Tryz.ntmps216
      go_wp2_with fail
      refine (HM.out _).mono ?_
      rintro e w1 ⟨rfl,hb1⟩
      obtain ⟨c0,c1,_,_⟩ := (X0.out.later hb1).two
      have X1 := LH (X0.out.later hb1)
      have B1 := LH (B0.out.trans (hb1.mono B0.out.size))
      clear hb1
      go_wp2_with fail
      refine (HS.out _).mono ?_
      rintro e w2 ⟨rfl,hb2⟩
      clear c0 c1
      obtain ⟨c0,c1,_,_⟩ := (X1.out.later hb2).two
      have X2 := LH (X1.out.later hb2)
      have B2 := LH (B1.out.trans (hb2.mono B1.out.size))
      clear hb2
      rw [<- HMM.out]
      obtain ⟨d0,d1,_,_⟩ := (X2.out.alloc (.cells #[.int .i64 0] 3)).two
      go_wp2_with fail
      refine (HS.out _).mono ?_
      rintro e w3 ⟨rfl,hb3⟩
      rw [<- HMM.out]
      obtain ⟨hx3,hb3',hz3⟩ := facts1 hb3
      have B3 := LH (B2.out.trans (hb3'.mono B2.out.size))
      have cq := hx3.one.1
      clear hb3 hb3' hx3
      go_wp2_with fail
      refine (repeat_one w2.heap.size 1 0 m (by omega) (by omega) w3 (by omega) cq).mono ?_
      rintro e w4 ⟨g4,rfl,hg4,hz4,hb4⟩
      have B4 := LH (B3.out.trans (hb4.mono B3.out.size))
      have G4 := LH hg4
      clear hg4 hz4 hb4
      obtain ⟨v5,w5,r5,o5,gr5⟩ := nums_append (w := w4) (base := base) (v := .slice a len cap) (xs := acc) (HO.out.keep B4.out) 57 g4 m m (List.replicate m 0) G4.out (by simp) (by omega) (by have := HL.out; omega) (by have := B4.out.size; omega)
      have R5 := LH r5
      have O5 := LH o5
      have B5 := LH ((B4.out.mono hb).grown gr5 (by have := B4.out.size; omega) HO.out.block)
      clear r5 o5 gr5
      go_wp2_with (at_builtin; refine wpList_append_is rfl _ _ 57 rfl _ _ _ _ rfl rfl R5.out ?_)
      go_ret2
      exact ⟨_,rfl,fun _ => O5.out,B5.out⟩
     ·rw [hq _ rfl,if_neg (by omega)]
      have e7 : ((s : Int) == 17) = false := by rw [beq_eq_false_iff_ne]; omega
      have e8 : ((s : Int) == 18) = false := by rw [beq_eq_false_iff_ne]; omega
      clear hq hs17 hs18
      go_enter Tryz.func216,Tryz.ntmps216
      go_wp2_with fail
      refine (HM.out _).mono ?_
      rintro e w1 ⟨rfl,hb1⟩
      obtain ⟨c0,c1,_,_⟩ := (X0.out.later hb1).two
      have X1 := LH (X0.out.later hb1)
      have B1 := LH (B0.out.trans (hb1.mono B0.out.size))
      clear hb1
      go_wp2_with fail
      refine (HS.out _).mono ?_
      rintro e w2 ⟨rfl,hb2⟩
      clear c0 c1
      obtain ⟨c0,c1,_,_⟩ := (X1.out.later hb2).two
      have X2 := LH (X1.out.later hb2)
      have B2 := LH (B1.out.trans (hb2.mono B1.out.size))
      clear hb2
      rw [<- HMM.out]
      obtain ⟨d0,d1,_,_⟩ := (X2.out.alloc (.cells #[.int .i64 (s : Int)] 3)).two
      go_wp2_with fail
      refine (HS.out _).mono ?_
      rintro e w3 ⟨rfl,hb3⟩
      rw [<- HMM.out]
      obtain ⟨hx3,hb3',hz3⟩ := facts1 hb3
      have B3 := LH (B2.out.trans (hb3'.mono B2.out.size))
      have cq := hx3.one.1
      clear hb3 hb3' hx3
      go_wp2_with fail
      refine (repeat_one w2.heap.size 1 s m (by omega) (by omega) w3 (by omega) cq).mono ?_
      rintro e w4 ⟨g4,rfl,hg4,hz4,hb4⟩
      have B4 := LH (B3.out.trans (hb4.mono B3.out.size))
      have G4 := LH hg4
      clear hg4 hz4 hb4
      obtain ⟨v5,w5,r5,o5,gr5⟩ := nums_append (w := w4) (base := base) (v := .slice a len cap) (xs := acc) (HO.out.keep B4.out) 57 g4 m m (List.replicate m s) G4.out (by simp) (by omega) (by have := HL.out; omega) (by have := B4.out.size; omega)
      have R5 := LH r5
      have O5 := LH o5
      have B5 := LH ((B4.out.mono hb).grown gr5 (by have := B4.out.size; omega) HO.out.block)
      clear r5 o5 gr5
      go_wp2_with (at_builtin; refine wpList_append_is rfl _ _ 57 rfl _ _ _ _ rfl rfl R5.out ?_)
      go_ret2
      exact ⟨_,rfl,fun _ => O5.out,B5.out⟩
end
end Go.Proofs.YtmgpcbjciioiaaaGreatDoor
