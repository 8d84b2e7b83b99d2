/- Contracts of huff.coded, and of the iterator that it hands back. -/
import Derived.Test.YtgffcffmhhdceaaHchk
import Derived.Test.YtgffcffmhhdceaaHcode
namespace Go.Proofs.Ytgffcffmhhdceaa
open Go.RowKit Go.Shelf

attribute [local go_sem] Oper.semAt_some

/-- Of what was there and holds cells, block C alone may have turned. -/
def KeepC (C : Nat) (W W' : World) : Prop := ∀ (k : Nat) (o : Obj), W.heap[k]? = some o → o.isCells = true → k ≠ C → W'.heap[k]? = some o

theorem KeepC.refl (C : Nat) (W : World) : KeepC C W W := fun _ _ h _ _ => h
theorem keepC_t {C : Nat} {A B D : World} (h : KeepC C A B) (k : KeepC C B D) : KeepC C A D := fun i o h1 h2 h3 => k i o (h i o h1 h2 h3) h2 h3
theorem keepC_b {C : Nat} {w : World} (W : World) (l : Nat) (_o o' : Obj) (_ : w.heap.size ≤ l) (h : W.heap[l]? = some _o) (hc : _o.isCells = false) (_ : _o.isWalk = false) : KeepC C W (W.putObj l o') := by
  intro k u hk hu _
  have hne : k ≠ l := by intro e; subst e; rw [h] at hk; cases hk; rw [hc] at hu; cases hu
  rw [World.putObj_heap_other (by omega)]; exact hk
theorem keepC_below {C : Nat} {W W' : World} (h : Below W.heap.size W W') : KeepC C W W' := fun k _ hk _ _ => (h.block k (Array.getElem?_eq_some_iff.1 hk).1).trans hk
theorem cells_of_cell {W : World} {g i : Nat} {v : Value} (h : W.cell? ⟨g, i, none⟩ = some v) : ∃ o, W.heap[g]? = some o ∧ o.isCells = true := by
  unfold World.cell? at h
  simp only at h
  cases e : W.heap[g]? with
  | none => rw [e] at h; simp at h
  | some o =>
    rw [e] at h
    cases o <;> first | exact ⟨_, rfl, rfl⟩ | (simp at h)
theorem KeepC.cell {C : Nat} {W W' : World} (h : KeepC C W W') {g i : Nat} {v : Value} (hc : W.cell? ⟨g, i, none⟩ = some v) (hne : g ≠ C) : W'.cell? ⟨g, i, none⟩ = some v := by
  obtain ⟨o, h1, h2⟩ := cells_of_cell hc
  exact (cell_of_heap ((h g o h1 h2 hne).trans h1.symm) i).trans hc

set_option maxHeartbeats 1000000 in
theorem coded_in (n : Nat) (sv : Value) (a : Option Addr) (len cap : Nat) (hsv : sv = .slice a len cap) (w : World) :
    CallsIn Fence.wide n Try.prog 25 #[sv] w fun e w' => e = .returned (.func (.func 43) #[] #[.pointer (some ⟨w.heap.size, 0, none⟩)]) ∧ w' = w.alloc (.cells #[sv] 22) := by
  subst hsv
  refine callsIn_of_wp Try.func25 rfl trivial ?_ rfl
  simp only [Try.ntmps25, List.size_toArray, List.length_cons, List.length_nil, Nat.reduceAdd, Nat.reduceSub, Array.replicate_succ, Array.replicate_zero, List.push_toArray, List.append_toArray, List.nil_append, List.cons_append]
  gi_wp2
  go_ret
  exact ⟨rfl, rfl⟩

/-- A symbol below m, and a number. -/
abbrev Pr (m : Nat) := { p : Nat × Nat // p.1 < m }
/-- What the iterator over codes tells. -/
def Tells (ls : List Nat) {m : Nat} (k : Nat) (pre : List (Pr m)) : Prop := pre.map Subtype.val = Hf.codedTo ls k

theorem tells_length {ls : List Nat} {m k : Nat} {pre : List (Pr m)} (h : Tells ls k pre) : pre.length = k := by
  have := congrArg List.length h
  rwa [List.length_map, Hf.codedTo_length] at this

theorem wrap_succ (c : Nat) (h : c < 32768) : wrap64 ((c : Int) + 1) = ((c + 1 : Nat) : Int) := by
  rw [IntWalk.wrap64_in _ (by omega)]; omega
theorem wrap_shl (nx d c : Nat) (h : c = nx * 2 ^ d) (hc : c < 32768) : wrap64 ((nx : Int) * 2 ^ d) = (c : Int) := by
  have e : ((nx : Int) * 2 ^ d) = (c : Int) := by rw [h]; simp
  rw [e, IntWalk.wrap64_in _ (by omega)]

set_option maxRecDepth 100000 in
set_option maxHeartbeats 4000000 in
theorem coded1_in (n : Nat) (hn : 1 ≤ n) (l Bs C : Nat) (sv : Value) (ls : List Nat) (h15 : ∀ i, i < ls.length → Hf.ln ls i ≤ 15) (hp : Hf.pf ls (Hf.ordl ls).length ≤ 32768) (J Jx : List (Pr ls.length) → World → Prop)
    (hY : ∀ pre x W, J pre W → pre.length < (Hf.ordl ls).length → YieldAt Fence.wide (n - 1) Try.prog l #[.int .i64 (x.1.1 : Int), .int .i64 (x.1.2 : Int)] W fun e W' =>
      (e = .returned (.bool true) ∧ J (pre ++ [x]) W' ∧ KeepC C W W') ∨ (e = .returned (.bool false) ∧ Jx (pre ++ [x]) W'))
    (W : World) (hJ : AbidesFrom W.heap.size J) (hBs : W.cell? ⟨Bs, 0, none⟩ = some sv) (hBC : Bs ≠ C) (hC : C < W.heap.size) (hCl : Lsl W.heap.size W sv ls) (hCb : ∀ b off len cap, sv = .slice (some ⟨b, off, none⟩) len cap → b ≠ C) (h0 : J [] W) :
    CallsIn Fence.wide n Try.prog 43 #[.func (.yield l) #[] #[], .pointer (some ⟨Bs, 0, none⟩)] W fun e W' => (∃ v, e = .returned v) ∧
      ((∃ ys, Tells ls (Hf.ordl ls).length ys ∧ J ys W') ∨ (∃ pre, True ∧ Jx pre W')) := by
  have HO := ordered_any sv ls W hCl h15
  have HL := Lib.hid hCl
  obtain ⟨b, off, cap, rfl, hpos, h288, hb, hcl⟩ := hCl
  have hbC := hCb b off _ _ rfl
  have HCL := Lib.hid hcl
  clear hCb hcl
  refine callsIn_of_wp Try.func43 rfl trivial ?_ rfl
  simp only [Try.ntmps43, List.size_toArray, List.length_cons, List.length_nil, Nat.reduceAdd, Nat.reduceSub, Array.replicate_succ, Array.replicate_zero, List.push_toArray, List.append_toArray, List.nil_append, List.cons_append]
  gi_wp2_with (refine ⟨trivial, ?_⟩; gi_at_call 38; refine (callsIn_wide.2 HO).mono ?_; rintro e w1 ⟨v, rfl, hv, hb1⟩)
  have h1 : J [] w1 := hJ _ _ w1 none h0 ⟨hb1.os, hb1.tape, hb1.output, hb1.size, fun k hk _ => hb1.block k hk⟩ (fun r e => by cases e)
  have HK1 : Hid (KeepC C W w1) := keepC_below hb1
  clear HO hb1 h0
  rcases hv with ⟨rfl, hnil⟩ | ⟨g, cap2, rfl, hle2, hg, hrow⟩
  · have HN := Lib.hid hnil
    clear hnil
    go_simp
    gi_wp2
    gi_loopw [3, 4, 10] (fun _ _ s10 wr => s10 = .int .i64 0 ∧ J [] wr) (fun _ _ _ _ => 0)
    case atStart => exact ⟨rfl, h1⟩
    case round =>
      obtain ⟨rfl, hJs⟩ := hrel
      gi_wp2
      go_end0
      exact ⟨⟨_, rfl⟩, .inl ⟨[], by rw [HN.out]; rfl, hJs⟩⟩
  · obtain ⟨N, hN⟩ : ∃ N, N = (Hf.ordl ls).length := ⟨_, rfl⟩
    have HN := Lib.hid hN
    have HR := Lib.hid hrow
    rw [← hN] at hY hp
    have HP := Lib.hid (fun _ : Unit => hp)
    rw [← hN]
    have hN2 : N ≤ 288 := by have := Hf.ordl_length_le ls; omega
    clear hN hrow hp
    go_simp
    gi_wp2
    gi_loopw [3, 4, 10] (fun s3 s4 s10 wr => ∃ (k nx le : Nat) (pre : List (Pr ls.length)), k ≤ N ∧ s3 = .int .i64 nx ∧ s4 = .int .i64 le ∧ s10 = .int .i64 k ∧ Hid (Hf.st ls k = (nx, le)) ∧ Hid (Tells ls k pre) ∧ J pre wr ∧ Hid (KeepC C w1 wr))
      (fun _ _ s10 _ => N - (intOf s10).toNat)
    case atStart => exact ⟨0, 0, 0, [], Nat.zero_le _, rfl, rfl, rfl, rfl, rfl, h1, KeepC.refl _ _⟩
    case round =>
      obtain ⟨k, nx, le, pre, hk, rfl, rfl, rfl, KS, KT, hJs, KK⟩ := hrel
      have hkn := tells_length KT.out
      by_cases hlt : k < N
      · obtain ⟨x, hx⟩ : ∃ x, x = Hf.sy ls k := ⟨_, rfl⟩
        obtain ⟨hx1, hx2, hx3⟩ := Hf.sy_mem ls k (by rw [← HN.out]; exact hlt)
        rw [← hx] at hx1 hx2 hx3
        obtain ⟨lx, hlx⟩ : ∃ lx, lx = Hf.ln ls x := ⟨_, rfl⟩
        have hle : le ≤ lx := by
          have := Hf.st_le ls k (by rw [← HN.out]; exact hlt)
          rw [KS.out, ← hx, ← hlx] at this; exact this
        have cg : wr.cell? ⟨g, k, none⟩ = some (.int .i64 (x : Int)) := by
          have := HR.out.cell k (by rw [← HN.out]; exact hlt)
          rw [show (Hf.ordl ls)[k]?.getD 0 = x from hx.symm] at this
          exact KK.out.cell this (by omega)
        have cl : wr.cell? ⟨b, off + x, none⟩ = some (.int .i64 (lx : Int)) := by
          have := HCL.out x hx1
          rw [show ls[x]?.getD 0 = lx from hlx.symm] at this
          exact KK.out.cell (HK1.out.cell this hbC) hbC
        have cB : wr.cell? ⟨Bs, 0, none⟩ = some (.slice (some ⟨b, off, none⟩) ls.length cap) := KK.out.cell (HK1.out.cell hBs hBC) hBC
        obtain ⟨c, hc⟩ : ∃ c, c = Hf.cd ls k := ⟨_, rfl⟩
        have hc2 := Hf.cd_small ls k (by rw [← HN.out]; exact hlt) (by rw [← HN.out]; exact HP.out ())
        have hc3 : c = nx * 2 ^ (lx - le) := by rw [hc]; unfold Hf.cd; rw [KS.out, ← hx, ← hlx]
        have KS2 : Hid (Hf.st ls (k + 1) = (c + 1, lx)) := by show _ = _; rw [Hf.st_succ, ← hc, ← hx, ← hlx]
        rw [← hc] at hc2
        obtain ⟨d, hd⟩ : ∃ d : Nat, d = lx - le := ⟨_, rfl⟩
        rw [← hd] at hc3
        have hd2 : (lx : Int) - (le : Int) = (d : Int) := by omega
        have KT2 : ∀ hxx : x < ls.length, Hid (Tells ls (k + 1) (pre ++ [(⟨(x, c), hxx⟩ : Pr ls.length)])) := fun hxx => by
          show List.map _ _ = _
          rw [List.map_append, show List.map Subtype.val pre = _ from KT.out]; simp only [Hf.codedTo, List.map_cons, List.map_nil, ← hc, ← hx]
        obtain ⟨fn, tmps, assign, body, hy, hR⟩ := hY pre ⟨(x, c), hx1⟩ wr hJs (by omega)
        dsimp only at hy
        have hw : Value.int .i64 (wrap64 ((nx : Int) * 2 ^ d)) = Value.int .i64 (c : Int) := by rw [wrap_shl nx d c hc3 hc2]
        clear hc3
        have HC2 := Lib.hid (fun _ : Unit => hc2)
        have hc4 : (c : Int) < 32768 := by omega
        clear hc2
        have hlx15 : lx ≤ 15 := by omega
        clear hx hlx hc hd hx2 hx3 hkn
        gi_wp2
        refine hR.mono ?_
        rintro e W3 (⟨rfl, hJ3, hk3⟩ | ⟨rfl, hJx3⟩)
        · gi_wp2
          go_roundw
          case rel => exact ⟨k + 1, c + 1, lx, _, by omega, by first | rw [wrap_succ c (HC2.out ())] | go_num, rfl, by go_num, KS2, KT2 hx1, hJ3, keepC_t KK.out hk3⟩
          case measure => simp [intOf]; omega
        · gi_wp2
          refine bodyPost_ret (results_none rfl _ _ _) rfl ?_
          exact ⟨⟨_, rfl⟩, .inr ⟨_, trivial, hJx3⟩⟩
      · obtain rfl : k = N := by omega
        clear hkn
        gi_wp2
        go_end0
        exact ⟨⟨_, rfl⟩, .inl ⟨pre, by rw [← HN.out]; exact KT.out, hJs⟩⟩
end Go.Proofs.Ytgffcffmhhdceaa
