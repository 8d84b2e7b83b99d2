/- Contracts of sector.kept, and of the iterator that it hands back. -/
import Derived.Test.YthbiibinmofmfaaElay
import Derived.RangeFuncNested
import Derived.RangeFuncBound
import Derived.RangeFuncCalls
import Derived.RangeFuncLeaves
import Derived.RangeFuncBox
import Derived.Shelf.Abstract
import Derived.Shelf.RegionOpen
import Derived.WalkKit
import Derived.OwnWalkIn
import Derived.TacticsInMore
import Derived.LoopNIn
import Derived.LoopIn

namespace Go.Proofs.Ythbiibinmofmfaa
set_option maxRecDepth 100000
open Go.RowKit Go.Shelf

attribute [local go_sem] Oper.semAt_some

/-- What was there and holds cells is as it was. -/
def KeepA (W W' : World) : Prop := ∀ (k : Nat) (o : Obj), W.heap[k]? = some o → o.isCells = true → W'.heap[k]? = some o
theorem KeepA.refl (W : World) : KeepA W W := fun _ _ h _ => h
theorem keepA_t {A B D : World} (h : KeepA A B) (k : KeepA B D) : KeepA A D := fun i o h1 h2 => k i o (h i o h1 h2) h2
theorem keepA_b {w : World} (W : World) (l : Nat) (_o o' : Obj) (_ : w.heap.size ≤ l) (h : W.heap[l]? = some _o) (hc : _o.isCells = false) (_ : _o.isWalk = false) : KeepA W (W.putObj l o') := by
  intro k u hk hu
  have hne : k ≠ l := by intro e; subst e; rw [h] at hk; cases hk; rw [hc] at hu; cases hu
  rw [World.putObj_heap_other (by omega)]; exact hk
theorem keepA_below {W W' : World} (h : Below W.heap.size W W') : KeepA W W' := fun k _ hk _ => (h.block k (Array.getElem?_eq_some_iff.1 hk).1).trans hk
theorem keepA_only {g : Nat} {W W' : World} {n : Nat} {f : Nat → Option Value} (h : Only g W W') (hm : Mp W g n f) : KeepA W W' := fun k o hk ho => (h.block k (Array.getElem?_eq_some_iff.1 hk).1 (fun e => by
  subst e
  obtain ⟨es, cl, hb, _⟩ := hm
  rw [hb] at hk; cases hk; cases ho)).trans hk
theorem cells_of_cell {W : World} {g i : Nat} {v : Value} (h : W.cell? ⟨g, i, none⟩ = some v) : ∃ o, W.heap[g]? = some o ∧ o.isCells = true := by
  unfold World.cell? at h
  simp only at h
  cases e : W.heap[g]? with
  | none => rw [e] at h; simp at h
  | some o =>
    rw [e] at h
    cases o <;> first | exact ⟨_, rfl, rfl⟩ | (simp at h)
theorem KeepA.cell {W W' : World} (h : KeepA W W') {g i : Nat} {v : Value} (hc : W.cell? ⟨g, i, none⟩ = some v) : W'.cell? ⟨g, i, none⟩ = some v := by
  obtain ⟨o, h1, h2⟩ := cells_of_cell hc
  exact (World.cell?_of_block (a := ⟨g, i, none⟩) ((h g o h1 h2).trans h1.symm)).trans hc
theorem KeepA.range {W W' : World} (h : KeepA W W') {g o : Nat} {cs : List Value} (hc : W.rangeAt g o cs) : W'.rangeAt g o cs := fun j v hv => h.cell (hc j v hv)
theorem KeepA.has {W W' : World} (h : KeepA W W') {g : Nat} {cs : Array Value} {t : TypeId} {fr : Nat × Nat} (hc : Has W g (.cells cs t fr)) : Has W' g (.cells cs t fr) := h g _ hc rfl

/-- The slice value s reads the numbers ks. -/
def Ks (w : World) (s : Value) (ks : List Int) : Prop :=
  ∃ a cap, s = .slice a ks.length cap ∧ ks.length ≤ 9223372036854775807 ∧ (∀ k ∈ ks, -9223372036854775808 ≤ k ∧ k ≤ 9223372036854775807) ∧ (0 < ks.length → ∃ b off, a = some ⟨b, off, none⟩ ∧ ∀ i, i < ks.length → w.cell? ⟨b, off + i, none⟩ = some (.int .i64 (ks[i]?.getD 0)))
theorem Ks.keep {w w' : World} {s : Value} {ks : List Int} (h : Ks w s ks) (hk : KeepA w w') : Ks w' s ks := by
  obtain ⟨a, cap, e, h1, h2, h3⟩ := h
  refine ⟨a, cap, e, h1, h2, fun hp => ?_⟩
  obtain ⟨b, off, e2, hc⟩ := h3 hp
  exact ⟨b, off, e2, fun i hi => hk.cell (hc i hi)⟩
theorem nth_bound {ks : List Int} (h : ∀ k ∈ ks, -9223372036854775808 ≤ k ∧ k ≤ 9223372036854775807) (i : Nat) : -9223372036854775808 ≤ Ek.nth ks i ∧ Ek.nth ks i ≤ 9223372036854775807 := by
  unfold Ek.nth
  cases e : ks[i]? with
  | none => simp
  | some k => exact h k (List.mem_of_getElem? e)

namespace Ek
/-- What is told of the first k loose writes. -/
def toldTo (l : List (Nat × List Nat)) (ks : List Int) : Nat → List ((Nat × List Nat) × Nat)
  | 0 => []
  | k + 1 => toldTo l ks k ++ (match l[k]? with | some p => [(p, share p.1 (nth ks k))] | none => [])
theorem toldTo_length (l : List (Nat × List Nat)) (ks : List Int) (k : Nat) (h : k ≤ l.length) : (toldTo l ks k).length = k := by
  induction k with
  | zero => rfl
  | succ k ih =>
    simp only [toldTo, List.length_append]
    rw [ih (by omega), List.getElem?_eq_getElem (by omega)]
    rfl
/-- Laid one after the other. -/
def lays (s : Nat → List Nat) (l : List ((Nat × List Nat) × Nat)) : Nat → List Nat := l.foldl (fun s x => lay s x.1.1 x.1.2 x.2) s
theorem lays_told (s : Nat → List Nat) (l : List (Nat × List Nat)) (ks : List Int) (k : Nat) : lays s (toldTo l ks k) = settleTo s l (nth ks) k := by
  induction k with
  | zero => rfl
  | succ k ih =>
    simp only [toldTo, settleTo, lays, List.foldl_append]
    rw [show List.foldl (fun s x => lay s x.1.1 x.1.2 x.2) s (toldTo l ks k) = settleTo s l (nth ks) k from ih]
    cases l[k]? <;> rfl
theorem lays_snoc (s : Nat → List Nat) (l : List ((Nat × List Nat) × Nat)) (x : (Nat × List Nat) × Nat) : lays s (l ++ [x]) = lay (lays s l) x.1.1 x.1.2 x.2 := by simp [lays]
end Ek
/-- What the iterator hands on. -/
abbrev Tw := { x : (Nat × List Nat) × Nat // Row x.1.2 ∧ x.1.1 < 8192 ∧ x.2 ≤ 512 }
def TellsK (l : List (Nat × List Nat)) (ks : List Int) (k : Nat) (pre : List Tw) : Prop := pre.map Subtype.val = Ek.toldTo l ks k
theorem tells_length {l : List (Nat × List Nat)} {ks : List Int} {k : Nat} {pre : List Tw} (h : TellsK l ks k pre) (hk : k ≤ l.length) : pre.length = k := by
  have := congrArg List.length h
  rwa [List.length_map, Ek.toldTo_length _ _ _ hk] at this

set_option maxHeartbeats 1000000 in
theorem kept_in (n : Nat) (b : Nat) (a : Option Addr) (len cap : Nat) (w : World) :
    CallsIn Fence.wide n Try.prog 62 #[.pointer (some ⟨b, 0, none⟩), .slice a len cap] w fun e w' => e = .returned (.func (.func 71) #[] #[.pointer (some ⟨w.heap.size, 0, none⟩), .pointer (some ⟨w.heap.size + 1, 0, none⟩)]) ∧ w' = (w.alloc (.cells #[.pointer (some ⟨b, 0, none⟩)] 25)).alloc (.cells #[.slice a len cap] 36) := by
  refine callsIn_of_wp Try.func62 rfl trivial ?_ rfl
  simp only [Try.ntmps62, List.size_toArray, List.length_cons, List.length_nil, Nat.reduceAdd, Nat.reduceSub, Array.replicate_succ, Array.replicate_zero, List.push_toArray, List.append_toArray, List.nil_append, List.cons_append]
  gi_wp2
  go_ret
  exact ⟨rfl, rfl⟩

theorem write_all (a : Nat) (r : List Nat) : (vw a r).toArray.all (·.oneCell') = true := all_oneCell_toArray (oneCell_vw a r)
theorem write_cells (w : World) (a c : Nat) (r s : List Nat) (hr : r.length = 512) (hs : s.length = 512) : (storeCells ⟨w.heap.size, 0, none⟩ (vw c s) 0).run Try.prog (w.alloc (.cells (vw a r).toArray 116)) = .ok () (w.alloc (.cells (vw c s).toArray 116)) := by
  have := run_storeCells_new (P := Try.prog) w 116 (vw a r).toArray (vw c s).toArray (by rw [write_size]; simp [vw_length _ _ hs]) (by simp [vw_length _ _ hr, vw_length _ _ hs]) (write_all c s)
  simpa using this
theorem exec_load_write {o : Oper} {a : Act} {W : World} (x : Operand) (ho : o.op = .load 116 x) (b off : Nat) (hx : a.eval x = .pointer (some ⟨b, off, none⟩)) (i : Nat) (r : List Nat) (hr : W.rangeAt b off (vw i r)) (hl : r.length = 512) :
    (execOp a.eval o).run Try.prog W = .ok (.value (.agg (vw i r).toArray)) W := by
  unfold execOp
  simp only [ho, hx, Instr.loadAt, Instr.sureAddr, Sem.run_bind, Sem.run_pure, Result.andThen_ok, run_loadVar_mid W b off 116 (vw i r) _ hr Try.underlying116 rfl (by rw [write_size, vw_length _ _ hl])]
theorem wpListIn_run {F : Fence} {n : Nat} {P : Program} {ops : Array Oper} {rest : List Oper} {o : Oper} {a : Act} {w w' : World} {v : Value} {Q : Exit → Act → World → Prop} (hg : o.guard = none) (hro : F.round = none) (hab : o.about P w a.eval = none) (h : (execOp a.eval o).run P w = .ok (.value v) w') (hn : wpListIn F n P ops Q rest (a.put o.dst v) w') : wpListIn F n P ops Q (o :: rest) a w :=
  wpListIn_plain hg fun K hK => by
    refine ⟨fun f hf => (by rw [hab] at hf; cases hf), ?_⟩
    rw [hro, show o.semAt none a.eval = execOp a.eval o from rfl, h]
    exact hK _ _ hn
theorem step_runIn {F : Fence} {n : Nat} {P : Program} {ops : Array Oper} {o : Oper} {a : Act} {w w' : World} {v : Value} {K : Act → World → Prop} {Q : Exit → Act → World → Prop} {E : Prop}
    (hg : o.guard = none) (hro : F.round = none) (hab : o.about P w a.eval = none) (h : (execOp a.eval o).run P w = .ok (.value v) w') (hK : K (a.put o.dst v) w') : if Region.wanted o (yielded ops a.tmps) = true then Oper.wpIn F n P o a w K Q else E := by
  have hw : Region.wanted o (yielded ops a.tmps) = true := by simp [Region.wanted, hg]
  rw [if_pos hw]
  refine ⟨fun f hf => (by rw [hab] at hf; cases hf), ?_⟩
  rw [hro, show o.semAt none a.eval = execOp a.eval o from rfl, h]
  exact hK
theorem grownBy_drew' (w : World) (row : Option Nat) : w.grownBy w.drew row := ⟨rfl, rfl, rfl, Nat.le_refl _, fun _ _ _ => rfl⟩

set_option maxRecDepth 100000 in
set_option maxHeartbeats 4000000 in
theorem kept1_in (n : Nat) (hn : 2 ≤ n) (l B1 B2 b : Nat) (lo ksv : Value) (ls : List (Nat × List Nat)) (ks : List Int) (hls : ∀ p ∈ ls, p.1 < 8192 ∧ Row p.2) (hlen : ls.length ≤ 1000000) (J Jx : List Tw → World → Prop)
    (hY : ∀ pre x W, J pre W → pre.length < ls.length → YieldAt Fence.wide (n - 1) Try.prog l #[.agg (vw x.1.1.1 x.1.1.2).toArray, .int .i64 (x.1.2 : Int)] W fun e W' =>
      (e = .returned (.bool true) ∧ J (pre ++ [x]) W' ∧ KeepA W W') ∨ (e = .returned (.bool false) ∧ Jx (pre ++ [x]) W'))
    (W : World) (hJ : AbidesFrom W.heap.size J) (hB1 : W.cell? ⟨B1, 0, none⟩ = some (.pointer (some ⟨b, 0, none⟩))) (hB2 : W.cell? ⟨B2, 0, none⟩ = some ksv) (hks : Ks W ksv ks)
    (hb : W.cell? ⟨b, 2, none⟩ = some lo) (ho : W.ownsRow 0 116 513 lo ls.length (vws ls)) (h0 : J [] W) :
    CallsIn Fence.wide n Try.prog 71 #[.func (.yield l) #[] #[], .pointer (some ⟨B1, 0, none⟩), .pointer (some ⟨B2, 0, none⟩)] W fun e W' => (∃ v, e = .returned v) ∧
      ((∃ ys, TellsK ls ks ls.length ys ∧ J ys W') ∨ (∃ pre, True ∧ Jx pre W')) := by
  have HO := Lib.hid ho
  have HKS := Lib.hid hks
  have HLS := Lib.hid hls
  obtain ⟨la, lcap, rfl, _⟩ := own_len ho
  obtain ⟨ka, kcap, rfl, hkl, hkb, hkc⟩ := hks
  have HKB := Lib.hid hkb
  obtain ⟨N, hN⟩ : ∃ N, N = ls.length := ⟨_, rfl⟩
  obtain ⟨M, hM⟩ : ∃ M, M = ks.length := ⟨_, rfl⟩
  rw [← hN] at hb hY hlen ⊢
  rw [← hM] at hB2 hkl
  have HN := Lib.hid hN
  have HM := Lib.hid hM
  clear ho hls hkb hkc hN hM
  refine callsIn_of_wp Try.func71 rfl trivial ?_ rfl
  simp only [Try.ntmps71, List.size_toArray, List.length_cons, List.length_nil, Nat.reduceAdd, Nat.reduceSub, Array.replicate_succ, Array.replicate_zero, List.push_toArray, List.append_toArray, List.nil_append, List.cons_append]
  gi_wp2
  gi_loopw [12] (fun s12 wr => ∃ (k : Nat) (pre : List Tw), k ≤ N ∧ s12 = .int .i64 k ∧ Hid (TellsK ls ks k pre) ∧ J pre wr ∧ Hid (KeepA W wr))
    (fun s12 _ => N - (intOf s12).toNat)
  case atStart => exact ⟨0, [], Nat.zero_le _, rfl, rfl, h0, KeepA.refl _⟩
  case round =>
    obtain ⟨k, pre, hk, rfl, KT, hJs, KK⟩ := hrel
    by_cases hlt : k < N
    · obtain ⟨p, hp⟩ : ∃ p, ls[k]? = some p := ⟨_, List.getElem?_eq_getElem (by rw [← HN.out]; exact hlt)⟩
      have hpl := HLS.out p (List.mem_of_getElem? hp)
      obtain ⟨g, cap2, he, _, hgl, hrg⟩ := own_write HO.out (fun p hp => (HLS.out p hp).2) k p hp
      have he2 : la = some ⟨g, 0, none⟩ := by injection he
      subst he2
      obtain ⟨aa, haa⟩ : ∃ aa, aa = p.1 := ⟨_, rfl⟩
      obtain ⟨rr, hrr⟩ : ∃ rr, rr = p.2 := ⟨_, rfl⟩
      rw [← haa, ← hrr] at hrg hpl
      obtain ⟨c, hcn⟩ : ∃ c, c = Ek.nth ks k := ⟨_, rfl⟩
      have hcb : -9223372036854775808 ≤ c ∧ c ≤ 9223372036854775807 := by rw [hcn]; exact nth_bound HKB.out k
      have hrl := hpl.2.1
      have HR := Lib.hid (KK.out.range hrg)
      have HRL := Lib.hid hrl
      have hW3 := Has.new wr (.cells (vw aa rr).toArray 116)
      have hb3 := below1 wr (.cells (vw aa rr).toArray 116)
      have hk3 : KeepA W (wr.alloc (.cells (vw aa rr).toArray 116)) := keepA_t KK.out (keepA_below hb3)
      have hB2' := hk3.cell hB2
      have K5 : Hid ((wr.alloc (.cells (vw aa rr).toArray 116)).drew.rangeAt wr.heap.size 0 (vw aa rr)) := fun j v hv => by
        show (wr.alloc (.cells (vw aa rr).toArray 116)).cell? _ = _
        rw [hW3.cell, List.getElem?_toArray, Nat.zero_add]; exact hv
      have K6 : Hid ((wr.alloc (.cells (vw aa rr).toArray 116)).cell? ⟨wr.heap.size, 0, none⟩ = some (.int .i64 (aa : Int))) := by show _ = _; rw [hW3.cell]; rfl
      have HSH := Lib.hid (share_any (wr.alloc (.cells (vw aa rr).toArray 116)).drew aa c hcb.1 hcb.2)
      have hJ3 : J pre (wr.alloc (.cells (vw aa rr).toArray 116)).drew := hJ _ _ _ none (hJ _ _ _ none hJs (World.grownBy_alloc _ _ none) (fun r e => by cases e)) (grownBy_drew' _ none) (fun r e => by cases e)
      obtain ⟨x, hxv⟩ : ∃ x : Tw, x.1 = ((aa, rr), Ek.share aa c) := ⟨⟨((aa, rr), Ek.share aa c), hpl.2, hpl.1, Ek.share_le _ _⟩, rfl⟩
      have hlp := tells_length KT.out (by rw [← HN.out]; exact hk)
      obtain ⟨fn, tmps, assign, body, hy, hR⟩ := hY pre x _ hJ3 (by omega)
      have KT2 : Hid (TellsK ls ks (k + 1) (pre ++ [x])) := by
        show List.map _ _ = _
        rw [List.map_append, show List.map Subtype.val pre = _ from KT.out]
        simp only [Ek.toldTo, hp, List.map_cons, List.map_nil, hxv, haa, hrr, hcn]
      simp only [hxv] at hy
      generalize Ek.share aa c = q at hy HSH
      have HY := Lib.hid hy
      have HRR := Lib.hid hR
      have HCN := Lib.hid hcn
      have SC := write_cells wr 0 aa zrow rr zrow_length hrl
      have hvl : (vw aa rr).length = 513 := vw_length _ _ hrl
      have hz := write_zero
      have HMX : Hid (Try.prog.follows .mixedOrders = true) := by show _ = _; kernel_rfl
      have HK3 := Lib.hid hk3
      have hk0 : (0 : Int) ≤ (k : Int) := by omega
      have hkN : (k : Int) < (N : Int) := by omega
      by_cases hkM : k < M
      · obtain ⟨kb, koff, hke, hkc⟩ := (show ∃ b off, ka = some ⟨b, off, none⟩ ∧ ∀ i, i < ks.length → W.cell? ⟨b, off + i, none⟩ = some (.int .i64 (ks[i]?.getD 0)) by
          obtain ⟨a, cap, e, _, _, h⟩ := HKS.out
          injection e with e1 _ _
          subst e1
          exact h (by have := HM.out; omega))
        subst hke
        have hkc2 := HK3.out.cell (hkc k (by have := HM.out; omega))
        rw [show ks[k]?.getD 0 = c from hcn.symm] at hkc2
        have hkM1 : (k : Int) < (M : Int) := by omega
        clear hcn hcb hrl hpl hp hrg he haa hrr hW3 hb3 hk3 hxv hy hR hJ3 hlp hkc hgl
        gi_wp2_with (refine wpListIn_run rfl rfl rfl (exec_load_write (.tmp 15) rfl g (k * 513) rfl aa rr HR.out HRL.out) ?_)
        refine wpIn_region_any HMX.out ?_
        change wpAnyIn _ _ _ _ _ _ 8 (Array.replicate 8 false) _ (World.drew _)
        refine wpAnyIn_take (i := 0) (v := ?_) rfl rfl (by kernel_rfl) (by kernel_rfl) (by kernel_rfl) (fun _ _ _ h => h) ⟨Or.inl ⟨by rfl, ?hy1_0⟩, fun _ => rfl⟩ ?_
        case hy1_0 => intro w; go_simp; first | done | rfl
        refine wpAnyIn_take (i := 2) (v := ?_) rfl rfl (by kernel_rfl) (by kernel_rfl) (by kernel_rfl) (fun _ _ _ h => h) ⟨Or.inl ⟨by rfl, ?hy1_2⟩, fun _ => rfl⟩ ?_
        case hy1_2 => intro w; go_simp; first | done | rfl
        refine wpAnyIn_take (i := 4) (v := ?_) rfl rfl (by kernel_rfl) (by kernel_rfl) (by kernel_rfl) (fun _ _ _ h => h) ⟨Or.inl ⟨by rfl, ?hy1_4⟩, fun _ => rfl⟩ ?_
        case hy1_4 => intro w; go_simp; first | done | rfl
        simp only [Act.put, List.getElem_toArray, List.getElem_cons_zero, List.getElem_cons_succ, List.setIfInBounds_toArray, List.set_cons_zero, List.set_cons_succ]
        refine wpAnyIn_ready (rs := [1, 3]) (by kernel_rfl) (by simp) ?_
        refine AllReadyIn.cons rfl (fun K hK => ?_) (AllReadyIn.cons rfl (fun K hK => ?_) AllReadyIn.nil)
        · refine step_runIn rfl rfl rfl (exec_load_write (.tmp 5) rfl wr.heap.size 0 rfl aa rr K5.out HRL.out) (hK _ _ ?_)
          clear hK K
          refine wpAnyIn_ready (rs := [3]) (by kernel_rfl) (by simp) ?_
          refine AllReadyIn.cons rfl (fun K hK => ?_) AllReadyIn.nil
          have hq := K6.out
          go_simp
          clear hq
          refine hK _ _ ?_
          clear hK K
          refine wpAnyIn_ready (rs := [5]) (by kernel_rfl) (by simp) ?_
          refine AllReadyIn.cons rfl (fun K hK => ?_) AllReadyIn.nil
          go_simp
          refine ⟨trivial, ⟨fun _ => (by omega), ?_⟩⟩
          refine (callsIn_wide.2 HSH.out).mono ?_
          rintro e w' ⟨rfl, rfl⟩
          dsimp only
          refine hK _ _ ?_
          clear hK K
          refine wpAnyIn_ready (rs := [6]) (by kernel_rfl) (by simp) ?_
          refine AllReadyIn.cons rfl (fun K hK => ?_) AllReadyIn.nil
          have hy2 := HY.out
          go_simp
          refine ⟨fun _ => (by omega), HRR.out.mono ?_⟩
          rintro e W3 (⟨rfl, hJ3, hk3⟩ | ⟨rfl, hJx3⟩)
          · dsimp only
            refine hK _ _ ?_
            clear hK K hy2
            refine wpAnyIn_ready (rs := [7]) (by kernel_rfl) (by simp) ?_
            refine AllReadyIn.cons rfl (fun K hK => ?_) AllReadyIn.nil
            go_simp
            refine hK _ _ ?_
            clear hK K
            refine wpAnyIn_done (by kernel_rfl) ?_ _
            gi_wp2
            go_roundw
            case rel => exact ⟨k + 1, _, by omega, by simp, KT2, hJ3, keepA_t (keepA_t HK3.out (keepA_below (below_drewN (Below.refl _ _) 1))) hk3⟩
            case measure => simp [intOf]; omega
          · dsimp only
            refine hK _ _ ?_
            clear hK K hy2
            refine wpAnyIn_ready (rs := [7]) (by kernel_rfl) (by simp) ?_
            refine AllReadyIn.cons rfl (fun K hK => ?_) AllReadyIn.nil
            go_simp
            refine hK _ _ ?_
            clear hK K
            refine wpAnyIn_done (by kernel_rfl) ?_ _
            gi_wp2
            refine bodyPost_ret (results_none rfl _ _ _) rfl ?_
            exact ⟨⟨_, rfl⟩, .inr ⟨_, trivial, hJx3⟩⟩
        · have hq := K6.out
          go_simp
          clear hq
          refine hK _ _ ?_
          clear hK K
          refine wpAnyIn_ready (rs := [1, 5]) (by kernel_rfl) (by simp) ?_
          refine AllReadyIn.cons rfl (fun K hK => ?_) (AllReadyIn.cons rfl (fun K hK => ?_) AllReadyIn.nil)
          · refine step_runIn rfl rfl rfl (exec_load_write (.tmp 5) rfl wr.heap.size 0 rfl aa rr K5.out HRL.out) (hK _ _ ?_)
            clear hK K
            refine wpAnyIn_ready (rs := [5]) (by kernel_rfl) (by simp) ?_
            refine AllReadyIn.cons rfl (fun K hK => ?_) AllReadyIn.nil
            go_simp
            refine ⟨trivial, ⟨fun _ => (by omega), ?_⟩⟩
            refine (callsIn_wide.2 HSH.out).mono ?_
            rintro e w' ⟨rfl, rfl⟩
            dsimp only
            refine hK _ _ ?_
            clear hK K
            refine wpAnyIn_ready (rs := [6]) (by kernel_rfl) (by simp) ?_
            refine AllReadyIn.cons rfl (fun K hK => ?_) AllReadyIn.nil
            have hy2 := HY.out
            go_simp
            refine ⟨fun _ => (by omega), HRR.out.mono ?_⟩
            rintro e W3 (⟨rfl, hJ3, hk3⟩ | ⟨rfl, hJx3⟩)
            · dsimp only
              refine hK _ _ ?_
              clear hK K hy2
              refine wpAnyIn_ready (rs := [7]) (by kernel_rfl) (by simp) ?_
              refine AllReadyIn.cons rfl (fun K hK => ?_) AllReadyIn.nil
              go_simp
              refine hK _ _ ?_
              clear hK K
              refine wpAnyIn_done (by kernel_rfl) ?_ _
              gi_wp2
              go_roundw
              case rel => exact ⟨k + 1, _, by omega, by simp, KT2, hJ3, keepA_t (keepA_t HK3.out (keepA_below (below_drewN (Below.refl _ _) 1))) hk3⟩
              case measure => simp [intOf]; omega
            · dsimp only
              refine hK _ _ ?_
              clear hK K hy2
              refine wpAnyIn_ready (rs := [7]) (by kernel_rfl) (by simp) ?_
              refine AllReadyIn.cons rfl (fun K hK => ?_) AllReadyIn.nil
              go_simp
              refine hK _ _ ?_
              clear hK K
              refine wpAnyIn_done (by kernel_rfl) ?_ _
              gi_wp2
              refine bodyPost_ret (results_none rfl _ _ _) rfl ?_
              exact ⟨⟨_, rfl⟩, .inr ⟨_, trivial, hJx3⟩⟩
          · go_simp
            refine ⟨trivial, ⟨fun _ => (by omega), ?_⟩⟩
            refine (callsIn_wide.2 HSH.out).mono ?_
            rintro e w' ⟨rfl, rfl⟩
            dsimp only
            refine hK _ _ ?_
            clear hK K
            refine wpAnyIn_ready (rs := [1]) (by kernel_rfl) (by simp) ?_
            refine AllReadyIn.cons rfl (fun K hK => ?_) AllReadyIn.nil
            refine step_runIn rfl rfl rfl (exec_load_write (.tmp 5) rfl wr.heap.size 0 rfl aa rr K5.out HRL.out) (hK _ _ ?_)
            clear hK K
            refine wpAnyIn_ready (rs := [6]) (by kernel_rfl) (by simp) ?_
            refine AllReadyIn.cons rfl (fun K hK => ?_) AllReadyIn.nil
            have hy2 := HY.out
            go_simp
            refine ⟨fun _ => (by omega), HRR.out.mono ?_⟩
            rintro e W3 (⟨rfl, hJ3, hk3⟩ | ⟨rfl, hJx3⟩)
            · dsimp only
              refine hK _ _ ?_
              clear hK K hy2
              refine wpAnyIn_ready (rs := [7]) (by kernel_rfl) (by simp) ?_
              refine AllReadyIn.cons rfl (fun K hK => ?_) AllReadyIn.nil
              go_simp
              refine hK _ _ ?_
              clear hK K
              refine wpAnyIn_done (by kernel_rfl) ?_ _
              gi_wp2
              go_roundw
              case rel => exact ⟨k + 1, _, by omega, by simp, KT2, hJ3, keepA_t (keepA_t HK3.out (keepA_below (below_drewN (Below.refl _ _) 1))) hk3⟩
              case measure => simp [intOf]; omega
            · dsimp only
              refine hK _ _ ?_
              clear hK K hy2
              refine wpAnyIn_ready (rs := [7]) (by kernel_rfl) (by simp) ?_
              refine AllReadyIn.cons rfl (fun K hK => ?_) AllReadyIn.nil
              go_simp
              refine hK _ _ ?_
              clear hK K
              refine wpAnyIn_done (by kernel_rfl) ?_ _
              gi_wp2
              refine bodyPost_ret (results_none rfl _ _ _) rfl ?_
              exact ⟨⟨_, rfl⟩, .inr ⟨_, trivial, hJx3⟩⟩
      · have hc0 : c = 0 := by rw [hcn]; unfold Ek.nth; rw [List.getElem?_eq_none (by have := HM.out; omega)]; rfl
        subst hc0
        have hkM1 : ¬ ((k : Int) < (M : Int)) := by omega
        clear hcn hcb hrl hpl hp hrg he haa hrr hW3 hb3 hk3 hxv hy hR hJ3 hlp hgl
        gi_wp2_with (refine wpListIn_run rfl rfl rfl (exec_load_write (.tmp 15) rfl g (k * 513) rfl aa rr HR.out HRL.out) ?_)
        refine wpIn_region_any HMX.out ?_
        change wpAnyIn _ _ _ _ _ _ 8 (Array.replicate 8 false) _ (World.drew _)
        refine wpAnyIn_take (i := 0) (v := ?_) rfl rfl (by kernel_rfl) (by kernel_rfl) (by kernel_rfl) (fun _ _ _ h => h) ⟨Or.inl ⟨by rfl, ?hy1_0⟩, fun _ => rfl⟩ ?_
        case hy1_0 => intro w; go_simp; first | done | rfl
        refine wpAnyIn_take (i := 2) (v := ?_) rfl rfl (by kernel_rfl) (by kernel_rfl) (by kernel_rfl) (fun _ _ _ h => h) ⟨Or.inl ⟨by rfl, ?hy1_2⟩, fun _ => rfl⟩ ?_
        case hy1_2 => intro w; go_simp; first | done | rfl
        refine wpAnyIn_take (i := 4) (v := ?_) rfl rfl (by kernel_rfl) (by kernel_rfl) (by kernel_rfl) (fun _ _ _ h => h) ⟨Or.inl ⟨by rfl, ?hy1_4⟩, fun _ => rfl⟩ ?_
        case hy1_4 => intro w; go_simp; first | done | rfl
        simp only [Act.put, List.getElem_toArray, List.getElem_cons_zero, List.getElem_cons_succ, List.setIfInBounds_toArray, List.set_cons_zero, List.set_cons_succ]
        refine wpAnyIn_ready (rs := [1, 3]) (by kernel_rfl) (by simp) ?_
        refine AllReadyIn.cons rfl (fun K hK => ?_) (AllReadyIn.cons rfl (fun K hK => ?_) AllReadyIn.nil)
        · refine step_runIn rfl rfl rfl (exec_load_write (.tmp 5) rfl wr.heap.size 0 rfl aa rr K5.out HRL.out) (hK _ _ ?_)
          clear hK K
          refine wpAnyIn_ready (rs := [3]) (by kernel_rfl) (by simp) ?_
          refine AllReadyIn.cons rfl (fun K hK => ?_) AllReadyIn.nil
          have hq := K6.out
          go_simp
          clear hq
          refine hK _ _ ?_
          clear hK K
          refine wpAnyIn_ready (rs := [5]) (by kernel_rfl) (by simp) ?_
          refine AllReadyIn.cons rfl (fun K hK => ?_) AllReadyIn.nil
          go_simp
          refine ⟨trivial, ⟨fun _ => (by omega), ?_⟩⟩
          refine (callsIn_wide.2 HSH.out).mono ?_
          rintro e w' ⟨rfl, rfl⟩
          dsimp only
          refine hK _ _ ?_
          clear hK K
          refine wpAnyIn_ready (rs := [6]) (by kernel_rfl) (by simp) ?_
          refine AllReadyIn.cons rfl (fun K hK => ?_) AllReadyIn.nil
          have hy2 := HY.out
          go_simp
          refine ⟨fun _ => (by omega), HRR.out.mono ?_⟩
          rintro e W3 (⟨rfl, hJ3, hk3⟩ | ⟨rfl, hJx3⟩)
          · dsimp only
            refine hK _ _ ?_
            clear hK K hy2
            refine wpAnyIn_ready (rs := [7]) (by kernel_rfl) (by simp) ?_
            refine AllReadyIn.cons rfl (fun K hK => ?_) AllReadyIn.nil
            go_simp
            refine hK _ _ ?_
            clear hK K
            refine wpAnyIn_done (by kernel_rfl) ?_ _
            gi_wp2
            go_roundw
            case rel => exact ⟨k + 1, _, by omega, by simp, KT2, hJ3, keepA_t (keepA_t HK3.out (keepA_below (below_drewN (Below.refl _ _) 1))) hk3⟩
            case measure => simp [intOf]; omega
          · dsimp only
            refine hK _ _ ?_
            clear hK K hy2
            refine wpAnyIn_ready (rs := [7]) (by kernel_rfl) (by simp) ?_
            refine AllReadyIn.cons rfl (fun K hK => ?_) AllReadyIn.nil
            go_simp
            refine hK _ _ ?_
            clear hK K
            refine wpAnyIn_done (by kernel_rfl) ?_ _
            gi_wp2
            refine bodyPost_ret (results_none rfl _ _ _) rfl ?_
            exact ⟨⟨_, rfl⟩, .inr ⟨_, trivial, hJx3⟩⟩
        · have hq := K6.out
          go_simp
          clear hq
          refine hK _ _ ?_
          clear hK K
          refine wpAnyIn_ready (rs := [1, 5]) (by kernel_rfl) (by simp) ?_
          refine AllReadyIn.cons rfl (fun K hK => ?_) (AllReadyIn.cons rfl (fun K hK => ?_) AllReadyIn.nil)
          · refine step_runIn rfl rfl rfl (exec_load_write (.tmp 5) rfl wr.heap.size 0 rfl aa rr K5.out HRL.out) (hK _ _ ?_)
            clear hK K
            refine wpAnyIn_ready (rs := [5]) (by kernel_rfl) (by simp) ?_
            refine AllReadyIn.cons rfl (fun K hK => ?_) AllReadyIn.nil
            go_simp
            refine ⟨trivial, ⟨fun _ => (by omega), ?_⟩⟩
            refine (callsIn_wide.2 HSH.out).mono ?_
            rintro e w' ⟨rfl, rfl⟩
            dsimp only
            refine hK _ _ ?_
            clear hK K
            refine wpAnyIn_ready (rs := [6]) (by kernel_rfl) (by simp) ?_
            refine AllReadyIn.cons rfl (fun K hK => ?_) AllReadyIn.nil
            have hy2 := HY.out
            go_simp
            refine ⟨fun _ => (by omega), HRR.out.mono ?_⟩
            rintro e W3 (⟨rfl, hJ3, hk3⟩ | ⟨rfl, hJx3⟩)
            · dsimp only
              refine hK _ _ ?_
              clear hK K hy2
              refine wpAnyIn_ready (rs := [7]) (by kernel_rfl) (by simp) ?_
              refine AllReadyIn.cons rfl (fun K hK => ?_) AllReadyIn.nil
              go_simp
              refine hK _ _ ?_
              clear hK K
              refine wpAnyIn_done (by kernel_rfl) ?_ _
              gi_wp2
              go_roundw
              case rel => exact ⟨k + 1, _, by omega, by simp, KT2, hJ3, keepA_t (keepA_t HK3.out (keepA_below (below_drewN (Below.refl _ _) 1))) hk3⟩
              case measure => simp [intOf]; omega
            · dsimp only
              refine hK _ _ ?_
              clear hK K hy2
              refine wpAnyIn_ready (rs := [7]) (by kernel_rfl) (by simp) ?_
              refine AllReadyIn.cons rfl (fun K hK => ?_) AllReadyIn.nil
              go_simp
              refine hK _ _ ?_
              clear hK K
              refine wpAnyIn_done (by kernel_rfl) ?_ _
              gi_wp2
              refine bodyPost_ret (results_none rfl _ _ _) rfl ?_
              exact ⟨⟨_, rfl⟩, .inr ⟨_, trivial, hJx3⟩⟩
          · go_simp
            refine ⟨trivial, ⟨fun _ => (by omega), ?_⟩⟩
            refine (callsIn_wide.2 HSH.out).mono ?_
            rintro e w' ⟨rfl, rfl⟩
            dsimp only
            refine hK _ _ ?_
            clear hK K
            refine wpAnyIn_ready (rs := [1]) (by kernel_rfl) (by simp) ?_
            refine AllReadyIn.cons rfl (fun K hK => ?_) AllReadyIn.nil
            refine step_runIn rfl rfl rfl (exec_load_write (.tmp 5) rfl wr.heap.size 0 rfl aa rr K5.out HRL.out) (hK _ _ ?_)
            clear hK K
            refine wpAnyIn_ready (rs := [6]) (by kernel_rfl) (by simp) ?_
            refine AllReadyIn.cons rfl (fun K hK => ?_) AllReadyIn.nil
            have hy2 := HY.out
            go_simp
            refine ⟨fun _ => (by omega), HRR.out.mono ?_⟩
            rintro e W3 (⟨rfl, hJ3, hk3⟩ | ⟨rfl, hJx3⟩)
            · dsimp only
              refine hK _ _ ?_
              clear hK K hy2
              refine wpAnyIn_ready (rs := [7]) (by kernel_rfl) (by simp) ?_
              refine AllReadyIn.cons rfl (fun K hK => ?_) AllReadyIn.nil
              go_simp
              refine hK _ _ ?_
              clear hK K
              refine wpAnyIn_done (by kernel_rfl) ?_ _
              gi_wp2
              go_roundw
              case rel => exact ⟨k + 1, _, by omega, by simp, KT2, hJ3, keepA_t (keepA_t HK3.out (keepA_below (below_drewN (Below.refl _ _) 1))) hk3⟩
              case measure => simp [intOf]; omega
            · dsimp only
              refine hK _ _ ?_
              clear hK K hy2
              refine wpAnyIn_ready (rs := [7]) (by kernel_rfl) (by simp) ?_
              refine AllReadyIn.cons rfl (fun K hK => ?_) AllReadyIn.nil
              go_simp
              refine hK _ _ ?_
              clear hK K
              refine wpAnyIn_done (by kernel_rfl) ?_ _
              gi_wp2
              refine bodyPost_ret (results_none rfl _ _ _) rfl ?_
              exact ⟨⟨_, rfl⟩, .inr ⟨_, trivial, hJx3⟩⟩
    · obtain rfl : k = N := by omega
      gi_wp2
      go_end0
      exact ⟨⟨_, rfl⟩, .inl ⟨pre, by rw [HN.out]; rw [← HN.out]; exact KT.out, hJs⟩⟩
end Go.Proofs.Ythbiibinmofmfaa
