import Derived.Test.YtckbhciehmokdaaGreatDoorNrng
import Derived.Test.YtckbhciehmokdaaGreatDoorCarg
import Derived.Test.YtckbhciehmokdaaGreatDoorKshape
import Derived.Test.YtckbhciehmokdaaGreatDoorHrget
import Derived.Test.YtckbhciehmokdaaGreatDoorHrnew
import Derived.Deep.RegionHeld3
namespace Go.Proofs.YtckbhciehmokdaaGreatDoor
set_option maxRecDepth 100000
set_option maxHeartbeats 8000000
open Go Go.RowKit Go.Shelf
namespace Nr
def NoBoth (Q : Exit -> Act -> World -> Prop) : Exit -> Act -> World -> Prop
 | .panic _, _, _ => False
 | .outgrown, _, _ => False
 | e, a, w => Q e a w
theorem NoBoth.imp {Q : Exit -> Act -> World -> Prop} : ∀ (e : Exit) (a : Act) (w : World), NoBoth Q e a w -> Q e a w := fun e a w h => by
 cases e <;> first | exact h | exact (h : False).elim
theorem NoBoth.normal {Q : Exit -> Act -> World -> Prop} {a : Act} {w : World} (h : Q .normal a w) : NoBoth Q .normal a w := h
end Nr
end Go.Proofs.YtckbhciehmokdaaGreatDoor
namespace Go.Proofs.YtckbhciehmokdaaGreatDoor
set_option maxRecDepth 100000
set_option maxHeartbeats 8000000
open Go.RowKit
def HeadPost (R : Nat) (w : World) (s : Value) (N : Nat) (r : List Nat × List Nat × Nat × Int) (e : Ending) (w' : World) : Prop :=
 Only R w w' /\ ((r.2.2.2 ≠ 0 /\ e = .panicked (Pan r.2.2.2)) ∨ (r.2.2.2 = 0 /\ ∃ s1 s2, e = .returned (.tuple #[s1, s2]) /\ Own w.heap.size w' s1 r.1 /\ Own w.heap.size w' s2 r.2.1 /\ Has w' R (rdr s N r.2.2.1)))
theorem HeadPost.bad {R : Nat} {w w' : World} {s : Value} {N : Nat} {c : Int} (h : Only R w w') (hc : c ≠ 0) : HeadPost R w s N ([], [], 0, c) (.panicked (Pan c)) w' := ⟨h, Or.inl ⟨hc, rfl⟩⟩
theorem zl_nums {w : World} {g n cap : Nat} {xs : List Nat} (h : Has w g (nums xs)) (hn : n = xs.length) (h2 : n <= 17592186044416) : Zl w (.slice (some ⟨g, 0, none⟩) n cap) (Hd.zz xs) := by
 refine ⟨_, n, cap, rfl, by rw [Hd.zz_length]; exact hn, h2, fun h => by simp at h, fun _ => ⟨g, 0, rfl, h.lt, fun i hi => ?_⟩⟩
 rw [Nat.zero_add, nums_cell h i (by omega), Hd.zz_get]
def slLen : Value -> Nat
 | .slice _ n _ => n
 | _ => 0
theorem own_part {base : Nat} {w : World} {g len cap : Nat} {xs : List Nat} (h : Own base w (.slice (some ⟨g, 0, none⟩) len cap) xs) (h0 : 0 < xs.length) (h9 : xs.length <= 100000) (i m cap' : Nat) (hm : i + m <= xs.length) :
  Zl w (.slice (some ⟨g, i, none⟩) m cap') (Hd.zz ((xs.drop i).take m)) := by
 obtain ⟨g', e, hg, hb, hc⟩ := h.cells h0
 obtain rfl : g = g' := by simpa using e
 refine ⟨_, m, cap', rfl, by rw [Hd.zz_length, List.length_take, List.length_drop]; omega, by omega, fun h => by simp at h, fun _ => ⟨g, i, rfl, hg, fun j hj => ?_⟩⟩
 rw [hc (i + j) (by omega), Hd.zz_get, List.getElem?_take_of_lt hj, List.getElem?_drop]
end Go.Proofs.YtckbhciehmokdaaGreatDoor
namespace Go.Proofs.YtckbhciehmokdaaGreatDoor
set_option maxRecDepth 100000
set_option maxHeartbeats 8000000
open Go.RowKit
structure Only3 (R L D : Nat) (w w' : World) : Prop where
 os : w'.os = w.os
 tape : w'.tape = w.tape
 output : w'.output = w.output
 size : w.heap.size <= w'.heap.size
 block : ∀ k, k < w.heap.size -> k ≠ R -> k ≠ L -> k ≠ D -> w'.heap[k]? = w.heap[k]?
theorem Only3.below {R L D B : Nat} {w w' : World} (h : Only3 R L D w w') (h1 : B <= R) (h2 : B <= L) (h3 : B <= D) (h4 : B <= w.heap.size) : Below B w w' :=
 ⟨h.os, h.tape, h.output, h.size, fun k hk => h.block k (by omega) (by omega) (by omega) (by omega)⟩
theorem Only.three {R : Nat} {w w' : World} (h : Only R w w') (L D : Nat) : Only3 R L D w w' := ⟨h.os, h.tape, h.output, h.size, fun k hk h1 _ _ => h.block k hk h1⟩
end Go.Proofs.YtckbhciehmokdaaGreatDoor
namespace Go.Proofs.YtckbhciehmokdaaGreatDoor
set_option maxRecDepth 100000
set_option maxHeartbeats 8000000
open Go.RowKit
def ordL : List Nat := [16, 17, 18, 0, 8, 7, 9, 6, 10, 5, 11, 4, 12, 3, 13, 2, 14, 1, 15]
theorem ordL_get (k : Nat) : ordL[k]?.getD 0 = Hd.ord k := rfl
theorem rorder_is (w : World) : Calls Tryz.prog 194 #[] w fun e w' => e = .returned (.slice (some ⟨w.heap.size, 0, none⟩) 19 19) /\ Has w' w.heap.size (nums ordL) /\ Below w.heap.size w w' := by
 go_enter Tryz.func194, Tryz.ntmps194
 go_wp2
 go_ret
 exact ⟨rfl, Has.new w _, below1 _ _⟩
theorem rget_num (s : Value) (l : List Bool) (N p n : Nat) (w : World) (hs : Sl w s (Bs.pack l)) (hl : Hid (N = l.length)) (hN : N <= 2251799813685248) (hn : n <= 32) (hp : p + n <= N) (x : Nat) (hx : Hid (x = Hd.num l p n)) :
  Calls Tryz.prog 122 #[.agg #[s, .int .i64 (N : Int)], .int .i64 (p : Int), .int .i64 (n : Int)] w (Nums w (x : Int) 0) := by
 rw [hx.out]; exact rget_ok s l N p n w hs hl hN hn hp
def RCodePost (w : World) (l : List Bool) (N p c : Nat) (c6 : Int) (e : Ending) (w' : World) : Prop :=
 Below w.heap.size w w' /\ ((p + 3 * c <= N /\ ∃ g, e = .returned (.tuple #[.slice (some ⟨g, 0, none⟩) 19 19, .int .i64 ((p + 3 * c : Nat) : Int), .int .i64 c6]) /\ Has w' g (nums (Hd.cl l p c))) ∨ (N < p + 3 * c /\ e = .returned (.tuple #[.slice none 0 0, .int .i64 0, .int .i64 4])))
theorem RCodePost.short {w w' : World} {l : List Bool} {N p c : Nat} {c6 : Int} {e : Ending} (h : RCodePost w l N p c c6 e w') (hs : N < p + 3 * c) : e = .returned (.tuple #[.slice none 0 0, .int .i64 0, .int .i64 4]) /\ Below w.heap.size w w' := by
 obtain ⟨hb, h⟩ := h
 rcases h with ⟨h, _⟩ | ⟨_, rfl⟩
 ·omega
 ·exact ⟨rfl, hb⟩
theorem RCodePost.ok {w w' : World} {l : List Bool} {N p c : Nat} {c6 : Int} {e : Ending} (h : RCodePost w l N p c c6 e w') (hs : p + 3 * c <= N) : ∃ g, e = .returned (.tuple #[.slice (some ⟨g, 0, none⟩) 19 19, .int .i64 ((p + 3 * c : Nat) : Int), .int .i64 c6]) /\ Has w' g (nums (Hd.cl l p c)) /\ Below w.heap.size w w' := by
 obtain ⟨hb, h⟩ := h
 rcases h with ⟨_, g, rfl, h⟩ | ⟨h, _⟩
 ·exact ⟨g, rfl, h, hb⟩
 ·omega
theorem rcodes_any (s : Value) (l : List Bool) (N p c : Nat) (w : World) (hs : Sl w s (Bs.pack l)) (hl : Hid (N = l.length)) (hN : N <= 2251799813685248) (hp : p <= N) (hc : c <= 19) :
  Calls Tryz.prog 167 #[.agg #[s, .int .i64 (N : Int)], .int .i64 (p : Int), .int .i64 (c : Int)] w (RCodePost w l N p c (newE (Hd.zz (Hd.cl l p c)))) := by
 have hmk : ∀ w, (Instr.makeSlice 57 (.int .i64 19) (.int .i64 19)).run Tryz.prog w = .ok (.slice (some ⟨w.heap.size, 0, none⟩) 19 19) (w.alloc (.cells (madeCells #[.int .i64 0] 19) 3)) :=
  fun w => run_make_row' (P := Tryz.prog) 57 3 (.int .i64 0) 8 Tryz.underlying57 Tryz.infoInt rfl .i64 .i64 19 (by omega) (by omega) w
 obtain ⟨a, len, cap, rfl, hlen⟩ := hs.shape
 clear hlen
 obtain ⟨w2, hw2⟩ : ∃ w2, w2 = (w.alloc (.cells #[.slice a len cap, .int .i64 (N : Int)] 64)).alloc (.cells (madeCells #[.int .i64 0] 19) 3) := ⟨_, rfl⟩
 have F2 : Below w2.heap.size w2 w2 := Below.refl _ _
 rw [hw2] at F2
 obtain ⟨X2, G2, B2, Z2⟩ := facts2 F2
 rw [<- hw2] at X2 G2 B2 Z2
 have HS := LH hs
 have HX2 := LH X2
 have HG2 : Hid (Has w2 (w.heap.size + 1) (nums (Hd.cl l p 0))) := by
  have h := G2
  rw [made_cl l p] at h
  exact h
 have HB2 := LH B2
 have HZ2 := LH Z2
 have HNEW : Hid (∀ g W, Has W g (nums (Hd.cl l p c)) -> Calls Tryz.prog 126 #[.slice (some ⟨g, 0, none⟩) 19 19] W fun e w' => e = .returned (.int .i64 (newE (Hd.zz (Hd.cl l p c)))) /\ W = w') := fun g W h =>
  rnew_any _ _ W (zl_nums h (Hd.cl_length l p c).symm (by omega))
 generalize newE (Hd.zz (Hd.cl l p c)) = c6 at HNEW ⊢
 clear hs F2 X2 G2 B2 Z2
 go_enter Tryz.func167, Tryz.ntmps167
 go_wp2_with fail
 rw [<- hw2]
 refine (rorder_is w2).mono ?_
 rintro e w3 ⟨rfl, ho3, hb3⟩
 have HO3 := LH ho3
 have HX3 := LH (HX2.out.later hb3)
 have HG3 := LH (HG2.out.later hb3)
 have HB3 := LH (HB2.out.trans (hb3.mono (by have := HZ2.out; omega)))
 have hz2 := HZ2.out
 have hz3 : w2.heap.size < w3.heap.size := ho3.lt
 clear ho3 hb3 HX2 HG2 HB2 HZ2 hw2 hmk
 go_wp2_with fail
 go_loopw [1, 11] (fun s1 s11 wr => ∃ k : Nat, s1 = .int .i64 ((p + 3 * k : Nat) : Int) /\ s11 = .int .i64 (k : Int) /\ k <= c /\ p + 3 * k <= N /\ Hid (Has wr w.heap.size (.cells #[.slice a len cap, .int .i64 (N : Int)] 64 (0, 0))) /\ Hid (Has wr (w.heap.size + 1) (nums (Hd.cl l p k))) /\ Hid (Has wr w2.heap.size (nums ordL)) /\ Hid (Below w.heap.size w wr)) (fun _ s _ => c - (intOf s).toNat)
 case atStart => exact ⟨0, by go_num, by go_num, by omega, by omega, HX3, HG3, HO3, HB3⟩
 case round =>
  obtain ⟨k, rfl, rfl, hk, hpk, KX, KG, KO, KB⟩ := hrel
  obtain ⟨q, hq⟩ : ∃ q, q = p + 3 * k := ⟨_, rfl⟩
  rw [<- hq] at hpk ⊢
  have HQ := LH hq
  by_cases hlt : k < c
  ·have j0 : decide ((k : Int) < (c : Int)) = true := decide_eq_true (by omega)
   have j0' : decide (k < c) = true := decide_eq_true hlt
   obtain ⟨c0, c1, _, _⟩ := KX.out.two
   have KS := LH (HS.out.later KB.out)
   by_cases h3 : q + 3 <= N
   ·obtain ⟨x, hxx⟩ : ∃ x, x = Hd.num l q 3 := ⟨_, rfl⟩
    have HXX := LH hxx
    have HGET := LH (rget_num _ l N q 3 wr KS.out hl hN (by omega) h3 x HXX)
    obtain ⟨o, ho⟩ : ∃ o, o = Hd.ord k := ⟨_, rfl⟩
    have ho19 : o < 19 := by rw [ho]; exact Hd.ord_lt k
    have HOO := LH ho
    have hk19 : k < 19 := by omega
    clear hxx ho hq
    go_wp2_with fail
    refine HGET.out.mono ?_
    clear HGET
    rintro e w4 ⟨rfl, hb4⟩
    have g0 := nums_cell (KO.out.later hb4) k hk19
    rw [ordL_get, <- HOO.out] at g0
    have hG4 := KG.out.later hb4
    have g1 := nums_cell hG4 o (by rw [Hd.cl_length]; exact ho19)
    have g2 : w4.frozen? ⟨w.heap.size + 1, o, none⟩ = false := by unfold nums at hG4; exact hG4.free o
    obtain ⟨z, hz⟩ : ∃ z, z = (Hd.cl l p k)[o]?.getD 0 := ⟨_, rfl⟩
    rw [<- hz] at g1
    have hset := nums_set hG4 o x
    have N4 : Hid (Has (w4.setCell ⟨w.heap.size + 1, o, none⟩ (.int .i64 (x : Int))) (w.heap.size + 1) (nums (Hd.cl l p (k + 1)))) := by
     show Has _ _ _
     rw [HXX.out, HOO.out, HQ.out] at hset ⊢
     exact hset
    have X4 := LH ((KX.out.later hb4).set (a := ⟨w.heap.size + 1, o, none⟩) (by simp) (.int .i64 (x : Int)))
    have O4 := LH ((KO.out.later hb4).set (a := ⟨w.heap.size + 1, o, none⟩) (by simp only; omega) (.int .i64 (x : Int)))
    have B4 := LH ((KB.out.trans (hb4.mono KB.out.size)).setCell (p := ⟨w.heap.size + 1, o, none⟩) (by simp) (.int .i64 (x : Int)))
    have i1 : (o : Int) < 19 := by omega
    have i2 : (k : Int) < 19 := by omega
    clear hG4 hset hz hb4 c0 c1
    go_wp2
    go_round
    case rel => exact ⟨k + 1, by rw [show p + 3 * (k + 1) = q + 3 by have := HQ.out; omega]; go_num, by go_num, by omega, by have := HQ.out; omega, X4, N4, O4, B4⟩
    case measure => simp [intOf]; omega
   ·have HGET := LH (rget_short _ (Bs.pack l) N q 3 wr KS.out (by omega) (by rw [hl.out]; exact Bs.pack_right l) (by omega) hpk (by omega))
    have hsh : N < p + 3 * c := by omega
    clear hq
    go_wp2_with fail
    refine HGET.out.mono ?_
    rintro e w4 ⟨rfl, hb4⟩
    have B4 := LH (KB.out.trans (hb4.mono KB.out.size))
    clear hb4
    go_wp2
    go_ret3
    exact ⟨B4.out, Or.inr ⟨hsh, rfl⟩⟩
  ·obtain rfl : k = c := by omega
   have j0 : decide ((k : Int) < (k : Int)) = false := decide_eq_false (by omega)
   clear hq
   go_wp2_with fail
   refine (HNEW.out _ wr KG.out).mono ?_
   rintro e w4 ⟨rfl, rfl⟩
   go_wp2
   go_ret3
   exact ⟨KB.out, Or.inl ⟨by rw [<- HQ.out]; exact hpk, _, by rw [<- HQ.out]; rfl, KG.out⟩⟩
end Go.Proofs.YtckbhciehmokdaaGreatDoor
namespace Go.Proofs.YtckbhciehmokdaaGreatDoor
set_option maxRecDepth 100000
set_option maxHeartbeats 8000000
open Go.RowKit
theorem rextra_is (s : Nat) (w : World) : Calls Tryz.prog 168 #[.int .i64 (s : Int)] w fun e w' => e = .returned (.int .i64 (Hd.ex s : Int)) /\ w = w' := by
 by_cases h6 : s = 16
 ·subst h6
  go_enter Tryz.func168, Tryz.ntmps168
  go_wp2
  go_ret
  exact ⟨rfl, rfl⟩
 ·by_cases h7 : s = 17
  ·subst h7
   go_enter Tryz.func168, Tryz.ntmps168
   go_wp2
   go_ret
   exact ⟨rfl, rfl⟩
  ·by_cases h8 : s = 18
   ·subst h8
    go_enter Tryz.func168, Tryz.ntmps168
    go_wp2
    go_ret
    exact ⟨rfl, rfl⟩
   ·have e1 : ((s : Int) == 16) = false := by rw [beq_eq_false_iff_ne]; omega
    have e2 : ((s : Int) == 17) = false := by rw [beq_eq_false_iff_ne]; omega
    have e3 : ((s : Int) == 18) = false := by rw [beq_eq_false_iff_ne]; omega
    have hx : Hid (Hd.ex s = 0) := by show _ = _; unfold Hd.ex; rw [if_neg h6, if_neg h7, if_neg h8]
    clear h6 h7 h8
    go_enter Tryz.func168, Tryz.ntmps168
    go_wp2
    go_ret
    exact ⟨by rw [hx.out]; rfl, rfl⟩
theorem one_append {w : World} {base : Nat} {v : Value} {xs : List Nat} (hown : Own base w v xs) (ty : TypeId) (q : Nat) (h1 : xs.length + 1 <= 100000) (hb : base <= w.heap.size) :
  ∃ v' w', (Builtin.append_ #[57, 57] ty #[v, .slice (some ⟨w.heap.size, 0, none⟩) 1 1]).run Tryz.prog (w.alloc (.cells #[.int .i64 (q : Int)] 3)) = .ok v' w' /\ Own base w' v' (xs ++ [q]) /\ Below base w w' := by
 have hg : Has (w.alloc (.cells #[.int .i64 (q : Int)] 3)) w.heap.size (nums [q]) := Has.new w _
 obtain ⟨v', w', h1, h2, h3⟩ := nums_append (hown.keep (below1 w _)) ty w.heap.size 1 1 [q] hg rfl (by omega) h1 (by simp; omega)
 exact ⟨v', w', h1, h2, ((below1 w _).mono hb).grown h3 (by simp; omega) hown.block⟩
theorem rtake_any (base : Nat) (sv : Value) (acc : List Nat) (s v n : Nat) (hv : v < 2 ^ Hd.ex s) (hn : n <= 400) (hl : acc.length <= n) (w : World) (ho : Own base w sv acc) (hb : base <= w.heap.size) :
  Calls Tryz.prog 169 #[sv, .agg #[.int .i64 (s : Int), .int .i64 (v : Int)], .int .i64 (n : Int)] w (LenPost base w (Hd.take acc s v n)) := by
 have hv2 : v < 128 := Nat.lt_of_lt_of_le hv (by have : 2 ^ Hd.ex s <= 2 ^ 7 := Nat.pow_le_pow_right (by omega) (Hd.ex_le s); omega)
 obtain ⟨a, cap, rfl⟩ := ho.shape
 have hbx := below1 w (.cells #[.int .i64 (s : Int), .int .i64 (v : Int)] 165)
 have HB0 := LH (hbx.mono hb)
 have HO0 := LH (ho.keep hbx)
 have HO := LH ho
 have hv9 := hv
 clear ho hv
 obtain ⟨len, hlen⟩ : ∃ len, len = acc.length := ⟨_, rfl⟩
 rw [<- hlen] at HO HO0 hl ⊢
 have HL := LH hlen
 clear hlen hbx
 by_cases h16 : s = 16
 ·subst h16
  by_cases h0 : len = 0
  ·rw [take_none acc 16 v n rfl (by rw [<- HL.out]; exact h0)]
   subst h0
   go_enter Tryz.func169, Tryz.ntmps169
   go_wp2
   go_ret2
   exact ⟨_, rfl, fun h => by simp at h, HB0.out⟩
  ·have e0 : ((len : Int) == 0) = false := by rw [beq_eq_false_iff_ne]; omega
   have e1 : decide ((0 : Int) < (len : Int)) = true := decide_eq_true (by omega)
   have e2 : decide (0 < len) = true := decide_eq_true (by omega)
   obtain ⟨k, rfl⟩ : ∃ k, len = k + 1 := ⟨len - 1, by omega⟩
   obtain ⟨q, hq⟩ : ∃ q, q = Hd.val acc 16 := ⟨_, rfl⟩
   obtain ⟨ga, rfl, hga, hgb, hcl⟩ := HO.out.cells (by rw [<- HL.out]; omega)
   have hcell : (w.alloc (.cells #[.int .i64 16, .int .i64 (v : Int)] 165)).cell? ⟨ga, k, none⟩ = some (.int .i64 (q : Int)) := by
    have hb' := below1 w (.cells #[.int .i64 16, .int .i64 (v : Int)] 165)
    rw [hb'.cell (p := ⟨ga, k, none⟩) hga, hcl k (by rw [<- HL.out]; omega), hq]
    simp [Hd.val, <- HL.out]
   by_cases hlt : n < (k + 1) + (3 + v)
   ·rw [take_large acc 16 v n (by rw [<- HL.out]; omega) (by rw [<- HL.out]; rw [show Hd.least 16 = 3 from rfl]; exact hlt)]
    have j1 : decide ((n : Int) - ((k : Int) + 1) < 3 + (v : Int)) = true := decide_eq_true (by omega)
    clear hcl hq hga hgb h0
    go_enter Tryz.func169, Tryz.ntmps169
    go_wp2
    go_quiet (fail)
    go_wp2
    go_ret2
    exact ⟨_, rfl, fun h => by simp at h, below_drewN HB0.out _⟩
   ·have ht : Hd.take acc 16 v n = (acc ++ List.replicate (3 + v) q, 0) := by
     rw [take_some acc 16 v n (by rw [<- HL.out]; omega) (by rw [<- HL.out, show Hd.least 16 = 3 from rfl]; omega), <- hq]; rfl
    rw [ht]
    have j1 : decide ((n : Int) - ((k : Int) + 1) < 3 + (v : Int)) = false := decide_eq_false (by omega)
    have hle : (k + 1) + (3 + v) <= n := by omega
    clear hcl hq hga hgb h0 ht hlt
    go_enter Tryz.func169, Tryz.ntmps169
    go_wp2
    go_quiet (fail)
    go_wp2
    go_wp2_with fail
    go_loopw [0, 10] (fun s0 s10 wr => ∃ i : Nat, s10 = .int .i64 (i : Int) /\ i <= (3 + v) /\ Hid (Own base wr s0 (acc ++ List.replicate i q)) /\ Hid (Below base w wr)) (fun _ s _ => (3 + v) - (intOf s).toNat)
    case atStart => exact ⟨0, by go_num, by omega, by show Own _ _ _ _; rw [List.replicate_zero, List.append_nil]; exact HO0.out, below_drewN HB0.out _⟩
    case round =>
     obtain ⟨i, rfl, hi, KO, KB⟩ := hrel
     by_cases hlt : i < (3 + v)
     ·have j0 : decide ((i : Int) < 3 + (v : Int)) = true := decide_eq_true (by omega)
      obtain ⟨a0, c0', rfl⟩ := KO.out.shape
      obtain ⟨v', w', r1, r2, r3⟩ := one_append (v := .slice a0 (acc ++ List.replicate i q).length c0') KO.out 57 q (by rw [List.length_append, List.length_replicate]; have := HL.out; omega) (by have := KB.out.size; omega)
      have R1 := LH r1
      have R2 : Hid (Own base w' v' (acc ++ List.replicate (i + 1) q)) := by
       show Own _ _ _ _
       rw [List.append_assoc, <- List.replicate_succ'] at r2
       exact r2
      have R3 := LH (KB.out.trans r3)
      clear r1 r2 r3
      generalize (acc ++ List.replicate i q).length = ln at R1 ⊢
      go_wp2_with (at_builtin; refine wpList_append_is rfl _ _ 57 rfl _ _ _ _ rfl rfl R1.out ?_)
      go_round
      case rel => first | exact ⟨i + 1, by go_num, by omega, R2, R3⟩ | ((repeat apply Exists.intro); exact ⟨⟨i + 1, by go_num, by omega, R2, R3⟩, rfl⟩)
      case measure => simp [intOf]; omega
     ·obtain rfl : i = (3 + v) := by omega
      have j0 : decide ((((3 + v) : Nat) : Int) < 3 + (v : Int)) = false := decide_eq_false (by omega)
      have HK := LH KO.out
      clear KO
      go_wp2
      go_ret2
      exact ⟨_, rfl, fun _ => HK.out, KB.out⟩
 ·by_cases h17 : s = 17
  ·subst h17
   by_cases hlt : n < len + (3 + v)
   ·rw [take_large acc 17 v n (by omega) (by rw [<- HL.out]; rw [show Hd.least 17 = 3 from rfl]; omega)]
    have j1 : decide ((n : Int) - (len : Int) < 3 + (v : Int)) = true := decide_eq_true (by omega)
    clear h16
    go_enter Tryz.func169, Tryz.ntmps169
    go_wp2
    go_quiet (fail)
    go_wp2
    go_ret2
    exact ⟨_, rfl, fun h => by simp at h, below_drewN HB0.out _⟩
   ·have ht : Hd.take acc 17 v n = (acc ++ List.replicate (3 + v) 0, 0) := by
     rw [take_some acc 17 v n (by omega) (by rw [<- HL.out, show Hd.least 17 = 3 from rfl]; omega)]; rfl
    rw [ht]
    have j1 : decide ((n : Int) - (len : Int) < 3 + (v : Int)) = false := decide_eq_false (by omega)
    have hle : len + (3 + v) <= n := by omega
    clear h16 ht hlt
    go_enter Tryz.func169, Tryz.ntmps169
    go_wp2
    go_quiet (fail)
    go_wp2
    go_wp2_with fail
    go_loopw [0, 10] (fun s0 s10 wr => ∃ i : Nat, s10 = .int .i64 (i : Int) /\ i <= (3 + v) /\ Hid (Own base wr s0 (acc ++ List.replicate i 0)) /\ Hid (Below base w wr)) (fun _ s _ => (3 + v) - (intOf s).toNat)
    case atStart => exact ⟨0, by go_num, by omega, by show Own _ _ _ _; rw [List.replicate_zero, List.append_nil]; exact HO0.out, below_drewN HB0.out _⟩
    case round =>
     obtain ⟨i, rfl, hi, KO, KB⟩ := hrel
     by_cases hlt : i < (3 + v)
     ·have j0 : decide ((i : Int) < 3 + (v : Int)) = true := decide_eq_true (by omega)
      obtain ⟨a0, c0', rfl⟩ := KO.out.shape
      obtain ⟨v', w', r1, r2, r3⟩ := one_append (v := .slice a0 (acc ++ List.replicate i 0).length c0') KO.out 57 0 (by rw [List.length_append, List.length_replicate]; have := HL.out; omega) (by have := KB.out.size; omega)
      have R1 := LH r1
      have R2 : Hid (Own base w' v' (acc ++ List.replicate (i + 1) 0)) := by
       show Own _ _ _ _
       rw [List.append_assoc, <- List.replicate_succ'] at r2
       exact r2
      have R3 := LH (KB.out.trans r3)
      clear r1 r2 r3
      generalize (acc ++ List.replicate i 0).length = ln at R1 ⊢
      go_wp2_with (at_builtin; refine wpList_append_is rfl _ _ 57 rfl _ _ _ _ rfl rfl R1.out ?_)
      go_round
      case rel => first | exact ⟨i + 1, by go_num, by omega, R2, R3⟩ | ((repeat apply Exists.intro); exact ⟨⟨i + 1, by go_num, by omega, R2, R3⟩, rfl⟩)
      case measure => simp [intOf]; omega
     ·obtain rfl : i = (3 + v) := by omega
      have j0 : decide ((((3 + v) : Nat) : Int) < 3 + (v : Int)) = false := decide_eq_false (by omega)
      have HK := LH KO.out
      clear KO
      go_wp2
      go_ret2
      exact ⟨_, rfl, fun _ => HK.out, KB.out⟩
  ·by_cases h18 : s = 18
   ·subst h18
    by_cases hlt : n < len + (11 + v)
    ·rw [take_large acc 18 v n (by omega) (by rw [<- HL.out]; rw [show Hd.least 18 = 11 from rfl]; omega)]
     have j1 : decide ((n : Int) - (len : Int) < 11 + (v : Int)) = true := decide_eq_true (by omega)
     clear h16
     go_enter Tryz.func169, Tryz.ntmps169
     go_wp2
     go_quiet (fail)
     go_wp2
     go_ret2
     exact ⟨_, rfl, fun h => by simp at h, below_drewN HB0.out _⟩
    ·have ht : Hd.take acc 18 v n = (acc ++ List.replicate (11 + v) 0, 0) := by
      rw [take_some acc 18 v n (by omega) (by rw [<- HL.out, show Hd.least 18 = 11 from rfl]; omega)]; rfl
     rw [ht]
     have j1 : decide ((n : Int) - (len : Int) < 11 + (v : Int)) = false := decide_eq_false (by omega)
     have hle : len + (11 + v) <= n := by omega
     clear h16 ht hlt
     go_enter Tryz.func169, Tryz.ntmps169
     go_wp2
     go_quiet (fail)
     go_wp2
     go_wp2_with fail
     go_loopw [0, 10] (fun s0 s10 wr => ∃ i : Nat, s10 = .int .i64 (i : Int) /\ i <= (11 + v) /\ Hid (Own base wr s0 (acc ++ List.replicate i 0)) /\ Hid (Below base w wr)) (fun _ s _ => (11 + v) - (intOf s).toNat)
     case atStart => exact ⟨0, by go_num, by omega, by show Own _ _ _ _; rw [List.replicate_zero, List.append_nil]; exact HO0.out, below_drewN HB0.out _⟩
     case round =>
      obtain ⟨i, rfl, hi, KO, KB⟩ := hrel
      by_cases hlt : i < (11 + v)
      ·have j0 : decide ((i : Int) < 11 + (v : Int)) = true := decide_eq_true (by omega)
       obtain ⟨a0, c0', rfl⟩ := KO.out.shape
       obtain ⟨v', w', r1, r2, r3⟩ := one_append (v := .slice a0 (acc ++ List.replicate i 0).length c0') KO.out 57 0 (by rw [List.length_append, List.length_replicate]; have := HL.out; omega) (by have := KB.out.size; omega)
       have R1 := LH r1
       have R2 : Hid (Own base w' v' (acc ++ List.replicate (i + 1) 0)) := by
        show Own _ _ _ _
        rw [List.append_assoc, <- List.replicate_succ'] at r2
        exact r2
       have R3 := LH (KB.out.trans r3)
       clear r1 r2 r3
       generalize (acc ++ List.replicate i 0).length = ln at R1 ⊢
       go_wp2_with (at_builtin; refine wpList_append_is rfl _ _ 57 rfl _ _ _ _ rfl rfl R1.out ?_)
       go_round
       case rel => first | exact ⟨i + 1, by go_num, by omega, R2, R3⟩ | ((repeat apply Exists.intro); exact ⟨⟨i + 1, by go_num, by omega, R2, R3⟩, rfl⟩)
       case measure => simp [intOf]; omega
      ·obtain rfl : i = (11 + v) := by omega
       have j0 : decide ((((11 + v) : Nat) : Int) < 11 + (v : Int)) = false := decide_eq_false (by omega)
       have HK := LH KO.out
       clear KO
       go_wp2
       go_ret2
       exact ⟨_, rfl, fun _ => HK.out, KB.out⟩
   ·have e6 : ((s : Int) == 16) = false := by rw [beq_eq_false_iff_ne]; omega
    have e7 : ((s : Int) == 17) = false := by rw [beq_eq_false_iff_ne]; omega
    have e8 : ((s : Int) == 18) = false := by rw [beq_eq_false_iff_ne]; omega
    have hx0 : Hd.ex s = 0 := by unfold Hd.ex; rw [if_neg h16, if_neg h17, if_neg h18]
    have hv0 : v = 0 := by rw [hx0] at hv9; omega
    have hl1 : Hd.least s = 1 := by unfold Hd.least; rw [if_neg h16, if_neg h17, if_neg h18]
    have hvl : Hd.val acc s = s := by unfold Hd.val; rw [if_neg h16, if_neg (by omega)]
    subst hv0
    by_cases hlt : n < len + 1
    ·rw [take_large acc s 0 n (by omega) (by rw [<- HL.out]; rw [hl1]; omega)]
     have j1 : decide ((n : Int) - (len : Int) < (1 : Int)) = true := decide_eq_true (by omega)
     clear h16 h17 h18 hx0 hl1 hvl hv9
     go_enter Tryz.func169, Tryz.ntmps169
     go_wp2
     go_quiet (fail)
     go_wp2
     go_ret2
     exact ⟨_, rfl, fun h => by simp at h, below_drewN HB0.out _⟩
    ·have ht : Hd.take acc s 0 n = (acc ++ List.replicate 1 s, 0) := by
      rw [take_some acc s 0 n (by omega) (by rw [<- HL.out, hl1]; omega), hl1, hvl]
     rw [ht]
     have j1 : decide ((n : Int) - (len : Int) < (1 : Int)) = false := decide_eq_false (by omega)
     have hle : len + 1 <= n := by omega
     clear h16 h17 h18 ht hlt hx0 hl1 hvl hv9
     go_enter Tryz.func169, Tryz.ntmps169
     go_wp2
     go_quiet (fail)
     go_wp2
     go_wp2_with fail
     go_loopw [0, 10] (fun s0 s10 wr => ∃ i : Nat, s10 = .int .i64 (i : Int) /\ i <= 1 /\ Hid (Own base wr s0 (acc ++ List.replicate i s)) /\ Hid (Below base w wr)) (fun _ s _ => 1 - (intOf s).toNat)
     case atStart => exact ⟨0, by go_num, by omega, by show Own _ _ _ _; rw [List.replicate_zero, List.append_nil]; exact HO0.out, below_drewN HB0.out _⟩
     case round =>
      obtain ⟨i, rfl, hi, KO, KB⟩ := hrel
      by_cases hlt : i < 1
      ·have j0 : decide ((i : Int) < (1 : Int)) = true := decide_eq_true (by omega)
       obtain ⟨a0, c0', rfl⟩ := KO.out.shape
       obtain ⟨v', w', r1, r2, r3⟩ := one_append (v := .slice a0 (acc ++ List.replicate i s).length c0') KO.out 57 s (by rw [List.length_append, List.length_replicate]; have := HL.out; omega) (by have := KB.out.size; omega)
       have R1 := LH r1
       have R2 : Hid (Own base w' v' (acc ++ List.replicate (i + 1) s)) := by
        show Own _ _ _ _
        rw [List.append_assoc, <- List.replicate_succ'] at r2
        exact r2
       have R3 := LH (KB.out.trans r3)
       clear r1 r2 r3
       generalize (acc ++ List.replicate i s).length = ln at R1 ⊢
       go_wp2_with (at_builtin; refine wpList_append_is rfl _ _ 57 rfl _ _ _ _ rfl rfl R1.out ?_)
       go_round
       case rel => first | exact ⟨i + 1, by go_num, by omega, R2, R3⟩ | ((repeat apply Exists.intro); exact ⟨⟨i + 1, by go_num, by omega, R2, R3⟩, rfl⟩)
       case measure => simp [intOf]; omega
      ·obtain rfl : i = 1 := by omega
       have j0 : decide (((1 : Nat) : Int) < (1 : Int)) = false := decide_eq_false (by omega)
       have HK := LH KO.out
       clear KO
       go_wp2
       go_ret2
       exact ⟨_, rfl, fun _ => HK.out, KB.out⟩
end Go.Proofs.YtckbhciehmokdaaGreatDoor
