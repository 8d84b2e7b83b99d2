import Derived.Test.YtmgpcbjciioiaaaGreatDoorKneed
import Derived.Test.YtmgpcbjciioiaaaGreatDoorSone
import Derived.Test.YtmgpcbjciioiaaaGreatDoorSlone
import Derived.Test.YtmgpcbjciioiaaaGreatDoorHsort
import Derived.Deep.RegionHeld3
import Derived.Deep.RegionWith
import Derived.StillTail
namespace Go.Proofs.YtmgpcbjciioiaaaGreatDoor
set_option maxRecDepth 100000
set_option maxHeartbeats 8000000
section
open Go.RowKit
def rdr (s : Value) (N p : Nat) : Obj := .cells #[s,.int .i64 (N : Int),.int .i64 (p : Int)] 264 (0,0)
theorem rdr_cells {w : World} {R : Nat} {s : Value} {N p : Nat} (h : Has w R (rdr s N p)) :
  w.cell? ⟨R,0,none⟩ = some s /\ w.cell? ⟨R,1,none⟩ = some (.int .i64 (N : Int)) /\ w.cell? ⟨R,2,none⟩ = some (.int .i64 (p : Int)) /\ w.frozen? ⟨R,2,none⟩ = false := by
 unfold rdr at h
 exact ⟨by rw [h.cell]; rfl,by rw [h.cell]; rfl,by rw [h.cell]; rfl,h.free 2⟩
theorem Only.of_below {R : Nat} {w w' : World} (h : Below w.heap.size w w') : Only R w w' := ⟨h.os,h.tape,h.output,h.size,fun k hk _ => h.block k hk⟩
theorem Only.drewN {R : Nat} (w : World) (n : Nat) : Only R w (w.drewN n) := ⟨rfl,rfl,rfl,Nat.le_refl _,fun _ _ _ => rfl⟩
theorem Sl.ne_rdr {w : World} {a : Option Addr} {len cap : Nat} {bs : List Nat} {R N p : Nat} {s : Value} (h : Sl w (.slice a len cap) bs) (hx : Has w R (rdr s N p)) (hs : ∃ a len cap,s = .slice a len cap) :
  ∀ b off,0 < len -> a = some ⟨b,off,none⟩ -> b ≠ R := by
 obtain ⟨a',len',cap',he,h1,h2,h3,h4,h5⟩ := h
 injection he with e1 e2 e3
 subst e1 e2 e3
 intro b off hl e hb
 obtain ⟨b',off',e',hlt,hc⟩ := h5 hl
 rw [e] at e'
 obtain ⟨rfl,rfl⟩ : b = b' /\ off = off' := by simpa using e'
 subst hb
 have hc0 := hc 0 hl
 obtain ⟨a2,l2,c2,rfl⟩ := hs
 unfold rdr at hx
 rw [hx.cell] at hc0
 rcases off with _ | _ | _ | off <;> simp at hc0
theorem Sl.rdr {w w' : World} {bs : List Nat} {R N p : Nat} {s : Value} (h : Sl w s bs) (hx : Has w R (rdr s N p)) (ho : Only R w w') : Sl w' s bs := by
 obtain ⟨a,len,cap,rfl,hl⟩ := h.shape
 have hne := h.ne_rdr hx ⟨_,_,_,rfl⟩
 obtain ⟨a',len',cap',he,h1,h2,h3,h4,h5⟩ := h
 injection he with e1 e2 e3
 subst e1 e2 e3
 refine ⟨a,len,cap,rfl,h1,h2,h3,h4,fun hl => ?_⟩
 obtain ⟨b,off,rfl,hlt,hc⟩ := h5 hl
 refine ⟨b,off,rfl,Nat.lt_of_lt_of_le hlt ho.size,fun i hi => ?_⟩
 have := ho.block b hlt (hne b off hl rfl)
 rw [<- hc i hi]
 unfold World.cell?
 simp only [this]
end
section
open Go.RowKit
def Two (x c : Int) (w : World) (e : Ending) (w' : World) : Prop := e = .returned (.tuple #[.int .i64 x,.int .i64 c]) /\ Below w.heap.size w w'
def Bx (w : World) (a b c d : Int) (w1 : World) : Prop := Below (w.heap.size + 1) (boxed w a b c d) w1
theorem Bx.cells {w w1 : World} {a b c d : Int} (h : Bx w a b c d w1) :
  w1.cell? ⟨w.heap.size,0,none⟩ = some (.int .i64 a) /\ w1.cell? ⟨w.heap.size,1,none⟩ = some (.int .i64 b) /\ w1.cell? ⟨w.heap.size,2,none⟩ = some (.int .i64 c) /\ w1.cell? ⟨w.heap.size,3,none⟩ = some (.int .i64 d) :=
 boxed_cells w a b c d ⟨w1,h⟩
theorem Bx.below {w w1 : World} {a b c d : Int} (h : Bx w a b c d w1) : Below w.heap.size w w1 := (boxed_below w a b c d).trans (Below.mono h (by omega))
theorem Bx.size {w w1 : World} {a b c d : Int} (h : Bx w a b c d w1) : w.heap.size + 1 <= w1.heap.size := Nat.le_trans (boxed_le w a b c d) (Below.size h)
theorem Bx.first (w : World) (a b c d : Int) : Bx w a b c d (boxed w a b c d) := Below.refl _ _
theorem Bx.next {w w1 w2 : World} {a b c d : Int} (h : Bx w a b c d w1) (hb : Below w1.heap.size w1 w2) : Bx w a b c d w2 := Below.trans h (hb.mono h.size)
theorem Bx.drew {w w1 : World} {a b c d : Int} (h : Bx w a b c d w1) (n : Nat) : Bx w a b c d (w1.drewN n) := below_drewN h n
theorem lbits_bad (s : Int) (w : World) (h : s < 257 ∨ 285 < s) : Calls Tryz.prog 106 #[scl 257 3 4 7,.int .i64 s] w (Two 0 13 w) := by
 have HL := fun w => llone_is s w
 rw [show (s == 285) = false from by rw [beq_eq_false_iff_ne]; omega] at HL
 have HE := fun w => lend_is w
 unfold scl at HL HE ⊢
 have H := LH HL
 have H2 := LH HE
 clear HL HE
 by_cases h1 : s < 257
 ·have d1 : decide (s < 257) = true := decide_eq_true h1
  clear h h1
  go_enter Tryz.func106,Tryz.ntmps106
  go_wp2_with fail
  refine (H.out (boxed w 257 3 4 7)).mono ?_
  rintro e w1 ⟨rfl,hb⟩
  have hx := (Bx.first w 257 3 4 7).next hb
  obtain ⟨c0,c1,c2,c3⟩ := hx.cells
  have HX := LH hx
  clear hb hx
  go_wp2_with fail
  go_ret2
  exact ⟨rfl,HX.out.below⟩
 ·have d1 : decide (s < 257) = false := decide_eq_false h1
  have d2 : decide (285 <= s) = true := decide_eq_true (by omega)
  clear h h1
  go_enter Tryz.func106,Tryz.ntmps106
  go_wp2_with fail
  refine (H.out (boxed w 257 3 4 7)).mono ?_
  rintro e w1 ⟨rfl,hb⟩
  have hx := (Bx.first w 257 3 4 7).next hb
  obtain ⟨c0,c1,c2,c3⟩ := hx.cells
  have HX := LH hx
  clear hb hx
  go_wp2_with fail
  refine (H2.out _).mono ?_
  rintro e w2 ⟨rfl,hb⟩
  have HY := LH (HX.out.next hb)
  clear hb
  go_wp2_with fail
  go_ret2
  exact ⟨rfl,HY.out.below⟩
theorem lbits_ok (k : Nat) (w : World) (hk : k < 28) : Calls Tryz.prog 106 #[scl 257 3 4 7,.int .i64 (257 + (k : Int))] w (Two (Sy.at' Sy.lb k : Nat) 0 w) := by
 have HL := fun w => llone_is (257 + (k : Int)) w
 rw [show ((257 + (k : Int)) == 285) = false from by rw [beq_eq_false_iff_ne]; omega] at HL
 have HE := fun w => lend_is w
 unfold scl at HL HE ⊢
 have H := LH HL
 have H2 := LH HE
 clear HL HE
 have HG := LH (fun w => beside_is (k / 4) w (by omega))
 rw [(Sy.l_sum k hk).2]
 have d1 : decide ((257 + (k : Int)) < 257) = false := decide_eq_false (by omega)
 have d2 : decide (285 <= (257 + (k : Int))) = false := decide_eq_false (by omega)
 obtain ⟨s,hs⟩ : ∃ s,s = 257 + (k : Int) := ⟨_,rfl⟩
 have hq : (s - 257) / 4 = ((k / 4 : Nat) : Int) := by omega
 have hs1 : 257 <= s := by omega
 have hs2 : s < 285 := by omega
 rw [<- hs] at H d1 d2 ⊢
 obtain ⟨q,hq'⟩ : ∃ q : Int,q = ((k / 4 : Nat) : Int) := ⟨_,rfl⟩
 rw [<- hq'] at hq HG
 clear hs hq'
 go_enter Tryz.func106,Tryz.ntmps106
 go_wp2_with fail
 refine (H.out (boxed w 257 3 4 7)).mono ?_
 rintro e w1 ⟨rfl,hb⟩
 have hx := (Bx.first w 257 3 4 7).next hb
 obtain ⟨c0,c1,c2,c3⟩ := hx.cells
 have HX := LH hx
 clear hb hx
 go_wp2_with fail
 refine (H2.out _).mono ?_
 rintro e w2 ⟨rfl,hb⟩
 have hy := HX.out.next hb
 obtain ⟨e0,e1,e2,e3⟩ := hy.cells
 have HY := LH hy
 clear hb hy
 go_wp2_with fail
 refine (HG.out _).mono ?_
 rintro e w3 ⟨rfl,rfl⟩
 go_wp2_with fail
 go_ret2
 exact ⟨rfl,HY.out.below⟩
theorem lbits_lone (w : World) : Calls Tryz.prog 106 #[scl 257 3 4 7,.int .i64 285] w (Two 0 0 w) := by
 have HL := fun w => llone_is 285 w
 rw [show ((285 : Int) == 285) = true from rfl] at HL
 unfold scl at HL ⊢
 have H := LH HL
 clear HL
 go_enter Tryz.func106,Tryz.ntmps106
 go_wp2_with fail
 refine (H.out (boxed w 257 3 4 7)).mono ?_
 rintro e w1 ⟨rfl,hb⟩
 have HX := LH ((Bx.first w 257 3 4 7).next hb)
 clear hb
 go_wp2_with fail
 go_ret2
 exact ⟨rfl,HX.out.below⟩
theorem dbits_bad (s : Int) (w : World) (h : s < 0 ∨ 29 < s) : Calls Tryz.prog 106 #[scl 0 1 2 15,.int .i64 s] w (Two 0 13 w) := by
 have HL := fun w => dlone_is s w
 have HE := fun w => dend_is w
 unfold scl at HL HE ⊢
 have H := LH HL
 have H2 := LH HE
 clear HL HE
 by_cases h1 : s < 0
 ·have d1 : decide (s < 0) = true := decide_eq_true h1
  clear h h1
  go_enter Tryz.func106,Tryz.ntmps106
  go_wp2_with fail
  refine (H.out (boxed w 0 1 2 15)).mono ?_
  rintro e w1 ⟨rfl,hb⟩
  have hx := (Bx.first w 0 1 2 15).next hb
  obtain ⟨c0,c1,c2,c3⟩ := hx.cells
  have HX := LH hx
  clear hb hx
  go_wp2_with fail
  go_ret2
  exact ⟨rfl,HX.out.below⟩
 ·have d1 : decide (s < 0) = false := decide_eq_false h1
  have d2 : decide (30 <= s) = true := decide_eq_true (by omega)
  clear h h1
  go_enter Tryz.func106,Tryz.ntmps106
  go_wp2_with fail
  refine (H.out (boxed w 0 1 2 15)).mono ?_
  rintro e w1 ⟨rfl,hb⟩
  have hx := (Bx.first w 0 1 2 15).next hb
  obtain ⟨c0,c1,c2,c3⟩ := hx.cells
  have HX := LH hx
  clear hb hx
  go_wp2_with fail
  refine (H2.out _).mono ?_
  rintro e w2 ⟨rfl,hb⟩
  have HY := LH (HX.out.next hb)
  clear hb
  go_wp2_with fail
  go_ret2
  exact ⟨rfl,HY.out.below⟩
theorem dbits_ok (k : Nat) (w : World) (hk : k < 30) : Calls Tryz.prog 106 #[scl 0 1 2 15,.int .i64 (0 + (k : Int))] w (Two (Sy.at' Sy.db k : Nat) 0 w) := by
 have HL := fun w => dlone_is (0 + (k : Int)) w
 have HE := fun w => dend_is w
 unfold scl at HL HE ⊢
 have H := LH HL
 have H2 := LH HE
 clear HL HE
 have HG := LH (fun w => beside_is (k / 2) w (by omega))
 rw [(Sy.d_sum k hk).2]
 have d1 : decide ((0 + (k : Int)) < 0) = false := decide_eq_false (by omega)
 have d2 : decide (30 <= (0 + (k : Int))) = false := decide_eq_false (by omega)
 obtain ⟨s,hs⟩ : ∃ s,s = 0 + (k : Int) := ⟨_,rfl⟩
 have hq : s / 2 = ((k / 2 : Nat) : Int) := by omega
 have hs1 : 0 <= s := by omega
 have hs2 : s < 30 := by omega
 rw [<- hs] at H d1 d2 ⊢
 obtain ⟨q,hq'⟩ : ∃ q : Int,q = ((k / 2 : Nat) : Int) := ⟨_,rfl⟩
 rw [<- hq'] at hq HG
 clear hs hq'
 go_enter Tryz.func106,Tryz.ntmps106
 go_wp2_with fail
 refine (H.out (boxed w 0 1 2 15)).mono ?_
 rintro e w1 ⟨rfl,hb⟩
 have hx := (Bx.first w 0 1 2 15).next hb
 obtain ⟨c0,c1,c2,c3⟩ := hx.cells
 have HX := LH hx
 clear hb hx
 go_wp2_with fail
 refine (H2.out _).mono ?_
 rintro e w2 ⟨rfl,hb⟩
 have hy := HX.out.next hb
 obtain ⟨e0,e1,e2,e3⟩ := hy.cells
 have HY := LH hy
 clear hb hy
 go_wp2_with fail
 refine (HG.out _).mono ?_
 rintro e w3 ⟨rfl,rfl⟩
 go_wp2_with fail
 go_ret2
 exact ⟨rfl,HY.out.below⟩
end
section
open Go.RowKit
def Gvs (v : Value) (w : World) (e : Ending) (w' : World) : Prop := e = .returned v /\ Below w.heap.size w w'
theorem fld0 (x y : Int) (W : World) : (Instr.field 217 (.agg #[.int .i64 x,.int .i64 y]) 0).run Tryz.prog W = .ok (.int .i64 x) W := by kernel_rfl
theorem fld1 (x y : Int) (W : World) : (Instr.field 217 (.agg #[.int .i64 x,.int .i64 y]) 1).run Tryz.prog W = .ok (.int .i64 y) W := by kernel_rfl
def shp (s : Nat) : Value := .agg #[.int .i64 (Hd.least s : Int),.int .i64 (Hd.ex s : Int)]
theorem shape_is (s : Nat) (w : World) : Calls Tryz.prog 161 #[.int .i64 (s : Int)] w (Gvs (shp s) w) := by
 by_cases h6 : s = 16
 ·subst h6
  go_enter Tryz.func161,Tryz.ntmps161
  go_wp2
  refine bodyPost_ret (v := shp 16) (by simp [results,Tryz.results161,go_sem,shp,Hd.least,Hd.ex]) rfl ⟨rfl,?_⟩
  exact below1 w _
 ·by_cases h7 : s = 17
  ·subst h7
   go_enter Tryz.func161,Tryz.ntmps161
   go_wp2
   refine bodyPost_ret (v := shp 17) (by simp [results,Tryz.results161,go_sem,shp,Hd.least,Hd.ex]) rfl ⟨rfl,?_⟩
   exact below1 w _
  ·by_cases h8 : s = 18
   ·subst h8
    go_enter Tryz.func161,Tryz.ntmps161
    go_wp2
    refine bodyPost_ret (v := shp 18) (by simp [results,Tryz.results161,go_sem,shp,Hd.least,Hd.ex]) rfl ⟨rfl,?_⟩
    exact below1 w _
   ·have e1 : ((s : Int) == 16) = false := by rw [beq_eq_false_iff_ne]; omega
    have e2 : ((s : Int) == 17) = false := by rw [beq_eq_false_iff_ne]; omega
    have e3 : ((s : Int) == 18) = false := by rw [beq_eq_false_iff_ne]; omega
    have H6 := LH h6
    have H7 := LH h7
    have H8 := LH h8
    clear h6 h7 h8
    go_enter Tryz.func161,Tryz.ntmps161
    go_wp2
    refine bodyPost_ret (v := shp s) (by simp [results,Tryz.results161,go_sem,shp,Hd.least,Hd.ex,H6.out,H7.out,H8.out]) rfl ⟨rfl,?_⟩
    exact below1 w _
def bxr (w : World) (s v : Int) : World := w.alloc (.cells #[.int .i64 s,.int .i64 v] 165)
theorem bxr_below (w : World) (s v : Int) : Below w.heap.size w (bxr w s v) := below1 w _
theorem bxr_le (w : World) (s v : Int) : w.heap.size + 1 <= (bxr w s v).heap.size := by simp [bxr]
theorem bxr_cells (w : World) (s v : Int) (x : Wd (w.heap.size + 1) (bxr w s v)) : x.w.cell? ⟨w.heap.size,0,none⟩ = some (.int .i64 s) /\ x.w.cell? ⟨w.heap.size,1,none⟩ = some (.int .i64 v) := by
 have h := (Has.new w (.cells #[.int .i64 s,.int .i64 v] 165)).two
 refine ⟨?_,?_⟩
 ·rw [x.cell (by omega)]; exact h.1
 ·rw [x.cell (by omega)]; exact h.2.1
theorem size_run (s v : Nat) (hv : v < 128) (w : World) : Calls Tryz.prog 159 #[.agg #[.int .i64 (s : Int),.int .i64 (v : Int)]] w (Gvs (.int .i64 ((Hd.least s + v : Nat) : Int)) w) := by
 have cc := bxr_cells w s v
 have c0 := fun x => (cc x).1
 have c1 := fun x => (cc x).2
 have HS := LH (fun w => shape_is s w)
 unfold shp at HS
 obtain ⟨m,hm⟩ : ∃ m,m = Hd.least s := ⟨_,rfl⟩
 have hm2 : m <= 11 := by rw [hm]; exact (Hd.least_le s).2
 rw [<- hm] at HS ⊢
 have e1 : IntKind.i64.wrap ((m : Int) + (v : Int)) = ((m + v : Nat) : Int) := by rw [IntWalk.i64_in _ (by omega)]; omega
 have hfd := fld0 (m : Int) (Hd.ex s : Int)
 clear cc hm
 go_enter Tryz.func159,Tryz.ntmps159
 go_wp2
 refine region_made (w.heap.size + 1) (bxr w s v) (by kernel_rfl) (by kernel_rfl) (Below.refl _ _) ?_
 repeat (go_big_quiet_step (exact made_call _ (bxr_le _ _ _) (HS.out _)))
 refine wpQuiet_nil fun x => ?_
 have HX := LH ((bxr_below w s v).trans (x.h.mono (by omega)))
 go_wp2
 go_ret
 exact ⟨rfl,HX.out⟩
theorem maybe_yes (s v : Nat) (hs : s < 19) (hv : v < 2 ^ Hd.ex s) (w : World) : Calls Tryz.prog 226 #[.agg #[.int .i64 (s : Int),.int .i64 (v : Int)]] w (Gvs (.bool true) w) := by
 have cc := bxr_cells w s v
 have c0 := fun x => (cc x).1
 have c1 := fun x => (cc x).2
 have HS := LH (fun w => shape_is s w)
 unfold shp at HS
 obtain ⟨m,hm⟩ : ∃ m,m = Hd.ex s := ⟨_,rfl⟩
 have hm2 : m <= 7 := by rw [hm]; exact Hd.ex_le s
 rw [<- hm] at HS hv
 have hp : 2 ^ m <= 2 ^ 7 := Nat.pow_le_pow_right (by omega) hm2
 have d1 : decide ((0 : Int) <= (s : Int)) = true := decide_eq_true (by omega)
 have d2 : decide ((s : Int) < 19) = true := decide_eq_true (by omega)
 have d3 : decide ((0 : Int) <= (v : Int)) = true := decide_eq_true (by omega)
 have e0 : min m 64 = m := by omega
 have e1 : Value.int .i64 (IntKind.i64.wrap ((2 : Int) ^ m)) = .int .i64 ((2 ^ m : Nat) : Int) := by
  have h : ((2 : Int) ^ m) = ((2 ^ m : Nat) : Int) := by simp
  rw [h,IntWalk.i64_in _ (by omega)]
 obtain ⟨q,hq⟩ : ∃ q,q = 2 ^ m := ⟨_,rfl⟩
 rw [<- hq] at hv
 have d4 : decide ((v : Int) < (2 : Int) ^ m) = true := decide_eq_true (by have : ((2 : Int) ^ m) = ((2 ^ m : Nat) : Int) := by simp
                                                                           omega)
 have d5 : decide (v < 2 ^ m) = true := decide_eq_true (by omega)
 have hfd := fld1 (Hd.least s : Int) (m : Int)
 clear cc hm hq hp
 go_enter Tryz.func226,Tryz.ntmps226
 go_wp2
 refine region_made (w.heap.size + 1) (bxr w s v) (by kernel_rfl) (by kernel_rfl) (Below.refl _ _) ?_
 repeat (go_big_quiet_step (exact made_call _ (bxr_le _ _ _) (HS.out _)))
 refine wpQuiet_nil fun x => ?_
 have HX := LH ((bxr_below w s v).trans (x.h.mono (by omega)))
 go_wp2
 go_ret
 exact ⟨rfl,HX.out⟩
end
end Go.Proofs.YtmgpcbjciioiaaaGreatDoor
