import Derived.Test.YtckbhciehmokdaaGreatDoorIcau
import Derived.Test.YtckbhciehmokdaaGreatDoorIcop
import Derived.Test.YtckbhciehmokdaaGreatDoorSref
import Derived.Test.YtckbhciehmokdaaGreatDoorHrget
import Derived.Test.YtckbhciehmokdaaGreatDoorItake
namespace Go.Proofs.YtckbhciehmokdaaGreatDoor
set_option maxRecDepth 100000
set_option maxHeartbeats 8000000
open Go.RowKit
theorem dfixedDist_is (w : World) : Calls Tryz.prog 32 #[] w fun e w' => ∃ v, e = .returned v /\ Own w.heap.size w' v If.fixD /\ Below w.heap.size w w' := by
 have hA := Has.new w (.cells #[.int .i64 5] 3)
 have HR := LH (repeat_one w.heap.size 1 5 32 (by decide) (by decide) (w.alloc (.cells #[.int .i64 5] 3)) hA.lt hA.one.1)
 clear hA
 go_enter Tryz.func32, Tryz.ntmps32
 go_wp2_with fail
 refine HR.out.mono ?_
 rintro e w1 ⟨g, rfl, hx, hge, hb⟩
 have HX := LH hx
 have HG := LH hge
 have HB := LH hb
 clear hx hge hb
 go_wp2
 go_ret
 refine ⟨_, rfl, ⟨by unfold If.fixD; rfl, Or.inr ⟨g, 32, _, rfl, ?_, HX.out, Nat.le_refl _, by unfold maxLen; omega, ?_, ?_⟩⟩, (below1 _ _).trans (HB.out.mono (by simp))⟩
 ·have := HG.out; simp at this; omega
 ·rfl
 ·rfl
theorem dfixedLit_is (w : World) : Calls Tryz.prog 31 #[] w fun e w' => ∃ v, e = .returned v /\ Own w.heap.size w' v If.fixL /\ Below w.heap.size w w' := by
 have hA := Has.new w (.cells #[.int .i64 8] 3)
 have HR := LH (repeat_one w.heap.size 1 8 144 (by decide) (by decide) (w.alloc (.cells #[.int .i64 8] 3)) hA.lt hA.one.1)
 clear hA
 go_enter Tryz.func31, Tryz.ntmps31
 go_wp2_with fail
 refine HR.out.mono ?_
 clear HR
 rintro e w1 ⟨g0, rfl, hx0, hge0, hb⟩
 have HB1 := LH ((below1 w (.cells #[.int .i64 8] 3)).trans (hb.mono (by simp)))
 have hA := Has.new w1 (.cells #[.int .i64 9] 3)
 have HR := LH (repeat_one w1.heap.size 1 9 112 (by decide) (by decide) (w1.alloc (.cells #[.int .i64 9] 3)) hA.lt hA.one.1)
 have HX0 := LH hx0
 clear hA hx0 hge0 hb
 go_wp2_with fail
 refine HR.out.mono ?_
 clear HR
 rintro e w2 ⟨g1, rfl, hx1, hge1, hb⟩
 have hb12 := (below1 w1 (.cells #[.int .i64 9] 3)).trans (hb.mono (by simp))
 have HB2 := LH (HB1.out.trans (hb12.mono HB1.out.size))
 have hA := Has.new w2 (.cells #[.int .i64 7] 3)
 have HR := LH (repeat_one w2.heap.size 1 7 24 (by decide) (by decide) (w2.alloc (.cells #[.int .i64 7] 3)) hA.lt hA.one.1)
 have HX0' := LH (HX0.out.later hb12)
 have HX1 := LH hx1
 clear hA hx1 hge1 hb hb12 HX0 HB1
 go_wp2_with fail
 refine HR.out.mono ?_
 clear HR
 rintro e w3 ⟨g2, rfl, hx2, hge2, hb⟩
 have hb12 := (below1 w2 (.cells #[.int .i64 7] 3)).trans (hb.mono (by simp))
 have HB3 := LH (HB2.out.trans (hb12.mono HB2.out.size))
 have hA := Has.new w3 (.cells #[.int .i64 8] 3)
 have HR := LH (repeat_one w3.heap.size 1 8 8 (by decide) (by decide) (w3.alloc (.cells #[.int .i64 8] 3)) hA.lt hA.one.1)
 have HX0 := LH (HX0'.out.later hb12)
 have HX1' := LH (HX1.out.later hb12)
 have HX2 := LH hx2
 clear hA hx2 hge2 hb hb12 HX0' HX1 HB2
 go_wp2_with fail
 refine HR.out.mono ?_
 clear HR
 rintro e w4 ⟨g3, rfl, hx3, hge3, hb⟩
 have hb12 := (below1 w3 (.cells #[.int .i64 8] 3)).trans (hb.mono (by simp))
 have HB4 := LH (HB3.out.trans (hb12.mono HB3.out.size))
 have bC := below1 w4 (.cells #[.slice (some ⟨g0, 0, none⟩) 144 144, .slice (some ⟨g1, 0, none⟩) 112 112, .slice (some ⟨g2, 0, none⟩) 24 24, .slice (some ⟨g3, 0, none⟩) 8 8] 57)
 have HC := LH (concat4 w4.heap.size g0 g1 g2 g3 144 112 24 8 8 9 7 8 _ (Has.new w4 (.cells #[.slice (some ⟨g0, 0, none⟩) 144 144, .slice (some ⟨g1, 0, none⟩) 112 112, .slice (some ⟨g2, 0, none⟩) 24 24, .slice (some ⟨g3, 0, none⟩) 8 8] 57))
  ((HX0.out.later hb12).later bC) ((HX1'.out.later hb12).later bC) ((HX2.out.later hb12).later bC) (hx3.later bC) (by decide) (by decide) (by decide) (by decide) (by decide) (by decide) (by decide) (by decide))
 have BC := LH (HB4.out.trans (bC.mono HB4.out.size))
 clear hx3 hge3 hb hb12 bC HX0 HX1' HX2 HB3
 go_wp2_with fail
 refine HC.out.mono ?_
 rintro e w5 ⟨v, rfl, ho, hb5⟩
 have HO := LH ho
 have HB5 := LH hb5
 clear ho hb5 HC
 go_wp2
 go_ret
 exact ⟨_, rfl, HO.out.weaken (by have := BC.out.size; omega), BC.out.trans (HB5.out.mono BC.out.size)⟩
def Cells (w : World) (g : Nat) (ls : List Nat) : Prop := ∀ i, i < ls.length -> w.cell? ⟨g, i, none⟩ = some (.int .i64 ((Hf.ln ls i : Nat) : Int))
theorem Cells.later {w w' : World} {g : Nat} {ls : List Nat} (h : Cells w g ls) (hg : g < w.heap.size) (hb : Below w.heap.size w w') : Cells w' g ls := fun i hi => (hb.cell (p := ⟨g, i, none⟩) hg).trans (h i hi)
theorem own_ints {w : World} {base : Nat} {v : Value} {ls : List Nat} (h : Own base w v ls) (h0 : 0 < ls.length) : ∃ g c, v = .slice (some ⟨g, 0, none⟩) ls.length c /\ base <= g /\ g < w.heap.size /\ Cells w g ls := by
 have hh : w.ownsRow base 3 1 v ls.length (vn ls) := h
 rcases hh.2 with ⟨_, h1⟩ | ⟨g, c, cur, rfl, hb, hg, _⟩
 ·omega
 ·refine ⟨g, c, rfl, hb, lt_of_block hg, fun i hi => ?_⟩
  have hc := hh.cells (g := g) rfl i (.int .i64 ((Hf.ln ls i : Nat) : Int)) (by
   unfold vn Hf.ln
   rw [List.getElem?_map, List.getElem?_eq_getElem hi]
   rfl)
  have e : (⟨g, 0, none⟩ : Addr).add i = ⟨g, i, none⟩ := by cases i <;> simp [Addr.add]
  rw [e] at hc
  exact hc
def NewL (W : World) (ls : List Nat) (n : Nat) (e : Ending) (w' : World) : Prop := ∃ g c, e = .returned (.slice (some ⟨g, 0, none⟩) n c) /\ W.heap.size <= g /\ g < w'.heap.size /\ Cells w' g ls /\ Below W.heap.size W w'
theorem fixLit_go (W : World) : Calls Tryz.prog 31 #[] W (NewL W If.fixL 288) := by
 refine (dfixedLit_is W).mono ?_
 rintro e w' ⟨v, rfl, ho, hb⟩
 obtain ⟨g, c, rfl, h1, h2, h3⟩ := own_ints ho (by decide)
 exact ⟨g, c, rfl, h1, h2, h3, hb⟩
theorem fixDist_go (W : World) : Calls Tryz.prog 32 #[] W (NewL W If.fixD 32) := by
 refine (dfixedDist_is W).mono ?_
 rintro e w' ⟨v, rfl, ho, hb⟩
 obtain ⟨g, c, rfl, h1, h2, h3⟩ := own_ints ho (by decide)
 exact ⟨g, c, rfl, h1, h2, h3, hb⟩
theorem fixed1_lay (w : World) (P : Nat) (a : Option Addr) (n c : Nat) (ts : List If.Tk) (hp : Has w P (.cells #[.slice a n c] 30 (0, 0))) (hs : Tks w (.slice a n c) ts) (hn : n = ts.length) (hn9 : n <= 65536) (hv : ∀ t ∈ ts, If.Byt t ∨ If.Cop t) :
  Calls Tryz.prog 28 #[LF w.heap.size, .pointer (some ⟨P, 0, none⟩)] (boxes w) (LayPost w (boxes w) w.heap.size (.slice none 0 0) (If.fixRow ts)) := by
 have hly := boxes_ly w
 have HB := LH (begin_lay hly true 1 (by decide) (by simp))
 have HP := LH (fun W (hb : Below w.heap.size w W) => (hp.later hb).one.1)
 have hpl := hp.lt
 have htk : ∀ W, Below w.heap.size w W -> Tks W (.slice a n c) ts := fun W hb => hs.later hb
 have hhas : ∀ t ∈ ts, If.Has1 If.fixL If.fixD t := fun t h => If.has_fix (hv t h)
 have he : Hf.ln If.fixL 256 ≠ 0 := by have := If.ln_fixL 256 (by decide); omega
 have SYM : Hid (∀ (w1 W : World), Lx w (boxes w) (.slice none 0 0) w1 w.heap.size ([] ++ begBits true 1) -> Below w1.heap.size w1 W -> ∀ (gL cL gD cD : Nat), w1.heap.size <= gL -> gL < W.heap.size -> Cells W gL If.fixL -> w1.heap.size <= gD -> gD < W.heap.size -> Cells W gD If.fixD ->
   Calls Tryz.prog 30 #[LF w.heap.size, .slice a n c, .slice (some ⟨gL, 0, none⟩) 288 cL, .slice (some ⟨gD, 0, none⟩) 32 cD] W fun e w' => e = .returned (.tuple #[]) /\ Lx w (boxes w) (.slice none 0 0) w' w.heap.size (If.fixRow ts)) := by
  intro w1 W h1 hb gL cL gD cD h2 h3 h4 h5 h6 h7
  obtain ⟨tv1, hly1, hfz1⟩ := h1
  have hT := hly1.f.lt
  have hfb : ∀ g, w1.heap.size <= g -> g < W.heap.size -> Fb w.heap.size tv1 W g := fun g k1 k2 => ⟨k2, by omega, by omega, by omega, fun e => by have := (World.ownsRow.lt hly1.t.2 g e).2; omega⟩
  refine (symbols_lay (hly1.later hb) a n c ts htk hn If.fixL If.fixD gL cL gD cD h4 h7 (hfb gL h2 h3) (hfb gD h5 h6) If.fit_fixL If.fit_fixD (by decide) (by decide) (by decide) (by decide) hv hhas he (by simp [begBits, Bs.bitsOf_length]; omega)).mono ?_
  rintro e w' ⟨rfl, tv', h8, h9⟩
  refine ⟨rfl, tv', ?_, (hfz1.trans (Fz.of_below hb)).trans h9⟩
  exact h8
 clear hly hp hs hn hn9 hv htk hhas he
 go_enter Tryz.func28, Tryz.ntmps28
 go_wp2_with fail
 refine (show Calls Tryz.prog 29 #[_, _, .int .i64 1] _ _ from HB.out).mono ?_
 clear HB
 rintro e w1 ⟨rfl, h1⟩
 have H1 := LH (show Lx w (boxes w) (.slice none 0 0) w1 w.heap.size ([] ++ begBits true 1) from h1)
 have SY := LH (fun W => SYM.out w1 W H1.out)
 have cP := HP.out w1 H1.out.b
 have hP1 : P < w1.heap.size := by have := H1.out.s; have h2 : (boxes w).heap.size = w.heap.size + 3 := by simp [boxes]
                                   omega
 clear h1 SYM
 go_wp2_with fail
 go_region_with (first
  | (go_at_call 31; refine (fixLit_go _).mono ?_; rintro e wl ⟨gL, cL, rfl, hL1, hL2, hL3, hL4⟩; have cPl := (hL4.cell (p := ⟨P, 0, none⟩) (by first | exact hP1 | exact hPd)).trans (by first | exact cP | exact cPd); have hPl := Nat.lt_of_lt_of_le (show P < _ by first | exact hP1 | exact hPd) hL4.size; have XL := LH (And.intro hL1 (And.intro hL2 (And.intro hL3 hL4))); clear hL1 hL2 hL3 hL4)
  | (go_at_call 32; refine (fixDist_go _).mono ?_; rintro e wd ⟨gD, cD, rfl, hD1, hD2, hD3, hD4⟩; have cPd := (hD4.cell (p := ⟨P, 0, none⟩) (by first | exact hP1 | exact hPl)).trans (by first | exact cP | exact cPl); have hPd := Nat.lt_of_lt_of_le (show P < _ by first | exact hP1 | exact hPl) hD4.size; have XD := LH (And.intro hD1 (And.intro hD2 (And.intro hD3 hD4))); clear hD1 hD2 hD3 hD4)
  | (go_at_call 30; (first
    | (refine (SY.out wd (((Below.refl w1.heap.size w1).drew).trans (XL.out.2.2.2.trans (XD.out.2.2.2.mono XL.out.2.2.2.size))) gL cL gD cD XL.out.1 (Nat.lt_of_lt_of_le XL.out.2.1 XD.out.2.2.2.size) (XL.out.2.2.1.later XL.out.2.1 XD.out.2.2.2) (Nat.le_trans XL.out.2.2.2.size XD.out.1) XD.out.2.1 XD.out.2.2.1).mono ?_)
    | (refine (SY.out wl (((Below.refl w1.heap.size w1).drew).trans (XD.out.2.2.2.trans (XL.out.2.2.2.mono XD.out.2.2.2.size))) gL cL gD cD (Nat.le_trans XD.out.2.2.2.size XL.out.1) XL.out.2.1 XL.out.2.2.1 XD.out.1 (Nat.lt_of_lt_of_le XD.out.2.1 XL.out.2.2.2.size) (XD.out.2.2.1.later XD.out.2.1 XL.out.2.2.2)).mono ?_)); rintro e w9 ⟨rfl, h9⟩; have H9 := LH h9; clear h9))
 all_goals
  go_wp2
  exact ⟨rfl, .tuple #[], by simp [results, Tryz.results28, go_sem], H9.out.post⟩
end Go.Proofs.YtckbhciehmokdaaGreatDoor
namespace Go.Proofs.YtckbhciehmokdaaGreatDoor
set_option maxRecDepth 100000
set_option maxHeartbeats 8000000
namespace If
open Hd (num rd head)
end If
end Go.Proofs.YtckbhciehmokdaaGreatDoor
