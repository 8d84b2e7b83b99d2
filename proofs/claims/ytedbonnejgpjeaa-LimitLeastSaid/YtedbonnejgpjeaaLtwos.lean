/- Contracts of with, of twos, and of the iterator that twos hands back. -/
import Derived.Test.YtedbonnejgpjeaaLsing
namespace Go.Proofs.Ytedbonnejgpjeaa
open Go.RowKit Go.Shelf

attribute [local go_sem] Oper.semAt_some

set_option maxHeartbeats 2000000 in
theorem with_any (p q : Nat) (x y : Lm.Tr) (w : World) (hp : Pk w x p) (hq : Pk w y q) (hw : x.wt + y.wt ≤ 1125899906842624) :
    Calls Try.prog 44 #[.pointer (some ⟨p, 0, none⟩), .pointer (some ⟨q, 0, none⟩)] w fun e w' => ∃ r, e = .returned (.pointer (some ⟨r, 0, none⟩)) ∧ Pk w' (.node x y) r ∧ Below w.heap.size w w' := by
  have HP := Lib.hid hp
  have HQ := Lib.hid hq
  have c1 := hp.wt
  have c2 := hq.wt
  obtain ⟨u, hu⟩ : ∃ u, u = x.wt := ⟨_, rfl⟩
  obtain ⟨v, hv⟩ : ∃ v, v = y.wt := ⟨_, rfl⟩
  rw [← hu] at c1
  rw [← hv] at c2
  rw [← hu, ← hv] at hw
  have HU := Lib.hid hu
  have HV := Lib.hid hv
  clear hp hq hu hv
  go_enter Try.func44, Try.ntmps44
  go_wp2
  go_region
  go_wp2
  go_ret
  rw [HU.out, HV.out]
  have hb := (below1 w (.cells #[.int .i64 ((x.wt : Int) + (y.wt : Int)), .int .i64 0, .pointer (some ⟨p, 0, none⟩), .pointer (some ⟨q, 0, none⟩)] 55)).drew
  refine ⟨_, rfl, ⟨p, q, ?_, HP.out.later hb, HQ.out.later hb⟩, hb⟩
  have h := Has.new w (.cells #[.int .i64 ((x.wt : Int) + (y.wt : Int)), .int .i64 0, .pointer (some ⟨p, 0, none⟩), .pointer (some ⟨q, 0, none⟩)] 55)
  rw [show ((x.wt + y.wt : Nat) : Int) = (x.wt : Int) + (y.wt : Int) by omega]
  exact h

theorem below_of_drew {B : Nat} {w w' : World} (h : Below B w.drew w') : Below B w w' := ⟨h.os, h.tape, h.output, h.size, h.block⟩

/-- Two packages that were there in w. -/
def Two (w : World) (x : (Nat × Nat) × (Lm.Tr × Lm.Tr)) : Prop := Pk w x.2.1 x.1.1 ∧ Pk w x.2.2 x.1.2 ∧ x.2.1.wt + x.2.2.wt ≤ 1125899906842624
abbrev Tw (w : World) := { x : (Nat × Nat) × (Lm.Tr × Lm.Tr) // Two w x }
/-- The packages two by two, so many times. -/
def twTo (ts : List Lm.Tr) : Nat → List (Lm.Tr × Lm.Tr)
  | 0 => []
  | j + 1 => twTo ts j ++ [(ts[2 * j]?.getD (.leaf 0 0), ts[2 * j + 1]?.getD (.leaf 0 0))]
theorem twTo_length (ts : List Lm.Tr) (j : Nat) : (twTo ts j).length = j := by
  induction j with
  | zero => rfl
  | succ j ih => simp only [twTo, List.length_append, ih]; rfl
/-- What the iterator tells. -/
def TellsTw {w : World} (ts : List Lm.Tr) (j : Nat) (pre : List (Tw w)) : Prop := pre.map (fun x => x.1.2) = twTo ts j
theorem tellsTw_length {w : World} {ts : List Lm.Tr} {j : Nat} {pre : List (Tw w)} (h : TellsTw ts j pre) : pre.length = j := by
  have := congrArg List.length h
  rwa [List.length_map, twTo_length] at this

set_option maxHeartbeats 1000000 in
theorem twos_in (n : Nat) (sv : Value) (a : Option Addr) (len cap : Nat) (hsv : sv = .slice a len cap) (w : World) :
    CallsIn Fence.wide n Try.prog 43 #[sv] w fun e w' => e = .returned (.func (.func 49) #[] #[.pointer (some ⟨w.heap.size, 0, none⟩)]) ∧ w' = w.alloc (.cells #[sv] 42) := by
  subst hsv
  refine callsIn_of_wp Try.func43 rfl trivial ?_ rfl
  simp only [Try.ntmps43, List.size_toArray, List.length_cons, List.length_nil, Nat.reduceAdd, Nat.reduceSub, Array.replicate_succ, Array.replicate_zero, List.push_toArray, List.append_toArray, List.nil_append, List.cons_append]
  gi_wp2
  go_ret
  exact ⟨rfl, rfl⟩

/-- What lay below n₀, and the box Bs, are as they were. -/
def KeepB (n₀ Bs : Nat) (A B : World) : Prop := Below n₀ A B ∧ ∀ v, Boxed A Bs 42 v → Boxed B Bs 42 v
theorem KeepB.refl (n₀ Bs : Nat) (W : World) : KeepB n₀ Bs W W := ⟨Below.refl _ _, fun _ h => h⟩
theorem keepB_t {n₀ Bs : Nat} {A B C : World} (h : KeepB n₀ Bs A B) (k : KeepB n₀ Bs B C) : KeepB n₀ Bs A C := ⟨h.1.trans k.1, fun v hv => k.2 v (h.2 v hv)⟩
theorem keepB_b {n₀ Bs : Nat} {w : World} (hn : n₀ ≤ w.heap.size) (W : World) (l : Nat) (_o o' : Obj) (hl : w.heap.size ≤ l) (h : W.heap[l]? = some _o) (hc : _o.isCells = false) (_ : _o.isWalk = false) : KeepB n₀ Bs W (W.putObj l o') := by
  refine ⟨(Below.refl n₀ W).grown (grownBy_putObj' W l o') (by have := (Array.getElem?_eq_some_iff.1 h).1; omega) (fun k e => by cases e; omega), fun v hv => ?_⟩
  have hne : Bs ≠ l := by rintro rfl; rw [show W.heap[Bs]? = _ from hv] at h; cases h; cases hc
  show (W.putObj l o').heap[Bs]? = _
  rw [World.putObj_heap_other (by omega)]; exact hv

set_option maxRecDepth 100000 in
set_option maxHeartbeats 4000000 in
theorem twos1_in (n : Nat) (hn : 2 ≤ n) (l Bs : Nat) (w : World) (sv : Value) (ts : List Lm.Tr) (hpos : 0 < ts.length) (hP : Pl w sv ts) (hwt : ∀ (i : Nat) (t : Lm.Tr), ts[i]? = some t → t.wt ≤ 281474976710656) (J Jx : List (Tw w) → World → Prop)
    (hY : ∀ pre x W, J pre W → pre.length < ts.length / 2 → YieldAt Fence.wide (n - 1) Try.prog l #[.pointer (some ⟨x.1.1.1, 0, none⟩), .pointer (some ⟨x.1.1.2, 0, none⟩)] W fun e W' =>
      (e = .returned (.bool true) ∧ J (pre ++ [x]) W' ∧ KeepB w.heap.size Bs W W') ∨ (e = .returned (.bool false) ∧ Jx (pre ++ [x]) W'))
    (W : World) (hJ : AbidesFrom W.heap.size J) (hW : Below w.heap.size w W) (hBs : Boxed W Bs 42 sv) (h0 : J [] W) :
    CallsIn Fence.wide n Try.prog 49 #[.func (.yield l) #[] #[], .pointer (some ⟨Bs, 0, none⟩)] W fun e W' => (∃ v, e = .returned v) ∧
      ((∃ ys, TellsTw ts (ts.length / 2) ys ∧ J ys W') ∨ (∃ pre, True ∧ Jx pre W')) := by
  obtain ⟨a, len, cap, rfl, hlen, _, h1024, _, hc⟩ := hP
  obtain ⟨b, off, rfl, hb, hcc⟩ := hc (by omega)
  have HC := Lib.hid hcc
  have HW := Lib.hid hwt
  obtain ⟨m, hm⟩ : ∃ m, m = ts.length / 2 := ⟨_, rfl⟩
  rw [← hm] at hY ⊢
  have hm1 : 2 * m ≤ len := by omega
  have hm2 : len < 2 * m + 2 := by omega
  have HL := Lib.hid hlen
  clear hc hcc hwt hlen hm
  refine callsIn_of_wp Try.func49 rfl trivial ?_ rfl
  simp only [Try.ntmps49, List.size_toArray, List.length_cons, List.length_nil, Nat.reduceAdd, Nat.reduceSub, Array.replicate_succ, Array.replicate_zero, List.push_toArray, List.append_toArray, List.nil_append, List.cons_append]
  gi_wp2
  gi_loopw [3] (fun i wr => ∃ (k c : Nat) (pre : List (Tw w)), k ≤ m ∧ i = .int .i64 (c : Int) ∧ Hid (c = 2 * k + 1) ∧ Hid (TellsTw ts k pre) ∧ J pre wr ∧ Hid (KeepB w.heap.size Bs W wr))
    (fun i _ => 2 * m + 2 - (intOf i).toNat)
  case atStart => exact ⟨0, 1, [], Nat.zero_le _, rfl, rfl, rfl, h0, KeepB.refl _ _ _⟩
  case round =>
    obtain ⟨k, c, pre, hk, rfl, KC, KT, hJs, hnx⟩ := hrel
    have hkn := tellsTw_length KT.out
    have cB : wr.cell? ⟨Bs, 0, none⟩ = some (.slice (some ⟨b, off, none⟩) len cap) := (hnx.out.2 _ hBs).cell
    by_cases hlt : k < m
    · have i1 : 2 * k < ts.length := by have := HL.out; omega
      have i2 : 2 * k + 1 < ts.length := by have := HL.out; omega
      obtain ⟨tx, htx⟩ : ∃ t, ts[2 * k]? = some t := ⟨_, List.getElem?_eq_getElem i1⟩
      obtain ⟨ty, hty⟩ : ∃ t, ts[2 * k + 1]? = some t := ⟨_, List.getElem?_eq_getElem i2⟩
      obtain ⟨p, hp1, hp2⟩ := HC.out (2 * k) tx htx
      obtain ⟨q, hq1, hq2⟩ := HC.out (2 * k + 1) ty hty
      have w1 := HW.out (2 * k) tx htx
      have w2 := HW.out (2 * k + 1) ty hty
      have g1 : wr.cell? ⟨b, off + 2 * k, none⟩ = some (.pointer (some ⟨p, 0, none⟩)) := ((hW.trans hnx.out.1).cell (p := ⟨b, off + 2 * k, none⟩) hb).trans hp1
      have g2 : wr.cell? ⟨b, off + (2 * k + 1), none⟩ = some (.pointer (some ⟨q, 0, none⟩)) := ((hW.trans hnx.out.1).cell (p := ⟨b, off + (2 * k + 1), none⟩) hb).trans hq1
      have hx : Two w ((p, q), (tx, ty)) := ⟨hp2, hq2, by show tx.wt + ty.wt ≤ _; omega⟩
      have KT2 : Hid (TellsTw ts (k + 1) (pre ++ [(⟨((p, q), (tx, ty)), hx⟩ : Tw w)])) := by
        show List.map _ _ = _
        rw [List.map_append, show List.map (fun x => x.1.2) pre = _ from KT.out]
        simp only [twTo, List.map_cons, List.map_nil, htx, hty, Option.getD_some]
      obtain ⟨fn, tmps, assign, body, hy, hR0⟩ := hY pre ⟨_, hx⟩ wr.drew (hJ _ _ wr.drew none hJs ⟨rfl, rfl, rfl, Nat.le_refl _, fun _ _ _ => rfl⟩ (fun r e => by cases e)) (by omega)
      dsimp only at hy
      have hR := hR0.mono (R' := fun e W' => ∃ bb, e = Ending.returned (.bool bb) ∧ Hid ((bb = true ∧ J (pre ++ [⟨((p, q), tx, ty), hx⟩]) W' ∧ KeepB w.heap.size Bs wr.drew W') ∨ (bb = false ∧ Jx (pre ++ [⟨((p, q), tx, ty), hx⟩]) W'))) (by
        rintro e W3 (⟨rfl, hJ3, hk3⟩ | ⟨rfl, hJx3⟩)
        · exact ⟨true, rfl, .inl ⟨rfl, hJ3, hk3⟩⟩
        · exact ⟨false, rfl, .inr ⟨rfl, hJx3⟩⟩)
      clear hR0
      obtain ⟨d, hd⟩ : ∃ d, d = 2 * k := ⟨_, rfl⟩
      have hcd : c = d + 1 := by have := KC.out; omega
      have hcd2 : (c : Int) - 1 = (d : Int) := by omega
      have hcl : c < len := by omega
      have hdl : d < len := by omega
      rw [← hd] at g1
      rw [show 2 * k + 1 = c from KC.out.symm] at g2
      have HD := Lib.hid hd
      clear hcd w1 w2 hd hp1 hp2 hq1 hq2 htx hty i1 i2 hkn
      have hmx : Try.prog.follows .mixedOrders = true := by kernel_rfl
      have hd1 : 1 ≤ n - 1 := by omega
      have hn1 : 1 ≤ n := by omega
      gi_wp2
      have hwd : IntKind.i64.wrap (d : Int) = (d : Int) := IntWalk.i64_in _ (by omega)
      gi_region_with_o (refine hR.mono ?_; rintro e W3 ⟨bb, rfl, hbb⟩)
      all_goals
        rcases hbb.out with ⟨rfl, hJ3, hk3⟩ | ⟨rfl, hJx3⟩
        · clear hbb hwd hcd2
          gi_wp2
          go_roundw
          case rel => exact ⟨k + 1, c + 2, _, by omega, by go_num, by show _ = _; have := KC.out; omega, KT2, hJ3, keepB_t hnx.out ⟨below_of_drew hk3.1, fun v hv => hk3.2 v hv⟩⟩
          case measure => simp [intOf]; omega
        · clear hbb hwd hcd2
          gi_wp2
          refine bodyPost_ret (results_none rfl _ _ _) rfl ?_
          exact ⟨⟨_, rfl⟩, .inr ⟨_, trivial, hJx3⟩⟩
    · obtain rfl : k = m := by omega
      have hcl : ¬ c < len := by have := KC.out; omega
      gi_wp2
      go_end0
      exact ⟨⟨_, rfl⟩, .inl ⟨pre, KT.out, hJs⟩⟩

theorem twos_stops (n : Nat) (hn : 2 ≤ n) (Bs : Nat) (w w1 : World) (sv : Value) (ts : List Lm.Tr) (hpos : 0 < ts.length) (hP : Pl w sv ts) (hwt : ∀ (i : Nat) (t : Lm.Tr), ts[i]? = some t → t.wt ≤ 281474976710656) (hB : Below w.heap.size w w1) (hc : Boxed w1 Bs 42 sv) :
    SeqStopsK Fence.wide n Try.prog 49 #[.pointer (some ⟨Bs, 0, none⟩)] (fun x : Tw w => #[Value.pointer (some ⟨x.1.1.1, 0, none⟩), Value.pointer (some ⟨x.1.1.2, 0, none⟩)]) (KeepB w.heap.size Bs) (fun ys => TellsTw ts (ts.length / 2) ys) (fun _ => True) (ts.length / 2) w1 := fun l J Jx W hW hJ _ hY h0 =>
  twos1_in n hn l Bs w sv ts hpos hP hwt J Jx hY W hJ (hB.trans (hW.mono hB.size)) ((hW.block Bs hc.lt).trans hc) h0
end Go.Proofs.Ytedbonnejgpjeaa
