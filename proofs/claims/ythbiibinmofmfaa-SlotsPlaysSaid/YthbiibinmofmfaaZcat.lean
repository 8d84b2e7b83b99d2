/- Contract of slots' fill: of no bytes there are no steps; both cases together. -/
import Derived.Test.YthbiibinmofmfaaZfill
import Derived.Lib.AppendZeros

namespace Go.Proofs.Ythbiibinmofmfaa
set_option maxRecDepth 100000
open Go.RowKit Go.Shelf

attribute [local go_sem] Oper.semAt_some

set_option maxRecDepth 100000 in
set_option maxHeartbeats 4000000 in
theorem chunk0_in (n : Nat) (l B1 B2 cap : Nat) (a : Option Addr) (J Jx : List Nat → World → Prop)
    (W : World) (hB1 : W.cell? ⟨B1, 0, none⟩ = some (.slice a 0 cap)) (h0 : J [] W) :
    CallsIn Fence.wide n Try.prog 68 #[.func (.yield l) #[] #[], .pointer (some ⟨B1, 0, none⟩), .pointer (some ⟨B2, 0, none⟩)] W fun e W' => (∃ v, e = .returned v) ∧
      ((∃ ys, ys = [] ∧ J ys W') ∨ (∃ pre, True ∧ Jx pre W')) := by
  refine callsIn_of_wp Try.func68 rfl trivial ?_ rfl
  simp only [Try.ntmps68, List.size_toArray, List.length_cons, List.length_nil, Nat.reduceAdd, Nat.reduceSub, Array.replicate_succ, Array.replicate_zero, List.push_toArray, List.append_toArray, List.nil_append, List.cons_append]
  gi_wp2
  gi_loopw [4] (fun s4 wr => s4 = .int .i64 0 ∧ Hid (wr = W)) (fun _ _ => 0)
  case atStart => exact ⟨rfl, rfl⟩
  case round =>
    obtain ⟨rfl, KW⟩ := hrel
    have hb1 : wr.cell? ⟨B1, 0, none⟩ = some (.slice a 0 cap) := by rw [KW.out]; exact hB1
    have HJ : Hid (J [] wr) := by rw [KW.out]; exact h0
    clear KW
    gi_wp2
    exact ⟨rfl, .tuple #[], by simp [results, Try.results68, go_sem], ⟨_, rfl⟩, .inl ⟨_, rfl, HJ.out⟩⟩

/-- Between rounds that there are not. -/
def F0I (w : World) (T N : Nat) (pre : List Nat) (W : World) : Prop := Has W T (.cells #[.slice none 0 0] 74 (0, 0)) ∧ Below w.heap.size w W ∧ N ≤ W.heap.size ∧ pre = pre
theorem f0I_own {w : World} {T N B : Nat} (hB : w.heap.size ≤ B) : OwnFrom B (F0I w T N) := by
  rintro pre W W' row ⟨h1, h2, h3, _⟩ hg hr
  refine ⟨h1.grown hg (fun e => by
    obtain ⟨_, o, ho, hc⟩ := hr T e.symm
    rw [show W.heap[T]? = _ from h1] at ho
    cases ho; cases hc), h2.grown hg h2.size (fun q e => Nat.le_trans hB (hr q e).1), Nat.le_trans h3 hg.size, rfl⟩

set_option maxRecDepth 100000 in
set_option maxHeartbeats 4000000 in
theorem fill0_in (n : Nat) (hn : 4 ≤ n) (w : World) (b slot : Nat) (a : Option Addr) (cap : Nat) :
    CallsIn Fence.wide n Try.prog 32 #[.pointer (some ⟨b, 0, none⟩), .int .i64 (slot : Int), .slice a 0 cap] w fun e w' => e = .returned (.slice none 0 0) ∧ Below w.heap.size w w' := by
  have h1 : 1 ≤ n := by omega
  refine callsIn_of_wp_marks Try.func32 rfl trivial ?_ rfl
  simp only [Try.ntmps32, List.size_toArray, List.length_cons, List.length_nil, Nat.reduceAdd, Nat.reduceSub, Array.replicate_succ, Array.replicate_zero, List.push_toArray, List.append_toArray, List.nil_append, List.cons_append]
  gi_wp2_with (refine ⟨trivial, ?_⟩; gi_at_call 55; refine (chunk_in (n - 1) _ _ _ _).mono ?_; rintro e w' ⟨rfl, rfl⟩)
  obtain ⟨w5, hw5⟩ : ∃ w5, w5 = (((((w.alloc (.cells #[.pointer (some ⟨b, 0, none⟩)] 25)).alloc (.cells #[.int .i64 (slot : Int)] 3)).alloc (.cells #[.slice none 0 0] 74)).alloc (.cells #[.slice a 0 cap] 35)).alloc (.cells #[.int .i64 512] 3)) := ⟨_, rfl⟩
  have hs5 : w5.heap.size = w.heap.size + 5 := by rw [hw5]; simp
  have hb5 : Below w.heap.size w w5 := by
    rw [hw5]
    exact (((below3 w _ _ _).alloc (by simp; omega) _).alloc (by simp; omega) _)
  have b2 : Has w5 (w.heap.size + 1 + 1) (.cells #[.slice none 0 0] 74 (0, 0)) := by
    have := ((Has.new ((w.alloc (.cells #[.pointer (some ⟨b, 0, none⟩)] 25)).alloc (.cells #[.int .i64 (slot : Int)] 3)) (.cells #[.slice none 0 0] 74)).alloc (.cells #[.slice a 0 cap] 35)).alloc (.cells #[.int .i64 512] 3)
    rw [hw5]; simpa using this
  have b3 : Has w5 (w.heap.size + 1 + 1 + 1) (.cells #[.slice a 0 cap] 35 (0, 0)) := by
    have := (Has.new (((w.alloc (.cells #[.pointer (some ⟨b, 0, none⟩)] 25)).alloc (.cells #[.int .i64 (slot : Int)] 3)).alloc (.cells #[.slice none 0 0] 74)) (.cells #[.slice a 0 cap] 35)).alloc (.cells #[.int .i64 512] 3)
    rw [hw5]; simpa using this
  rw [← hw5]
  clear hw5
  refine wpIn_rangeFunc_ownH (α := Nat) rfl h1 (gf := 68) (lb := #[.pointer (some ⟨w.heap.size + 1 + 1 + 1, 0, none⟩), .pointer (some ⟨w.heap.size + 1 + 1 + 1 + 1, 0, none⟩)]) rfl trivial (enters_of Try.func68 (by kernel_rfl) rfl)
    (encs := fun _ => #[.slice none 0 0]) (Kp := KeepT (w.heap.size + 1 + 1 + 1) (w.heap.size + 1 + 1 + 1 + 1)) (S := fun ys => ys = []) (Sp := fun _ => True) (N := 0) (w0 := w5)
    (fun l J Jx W hW _ _ _ h0 => chunk0_in (n - 1) l _ _ cap a J Jx W (by rw [(Has.later b3 hW).cell]; rfl) h0)
    KeepT.trans (fun W l o o' hl0 _ _ _ => ⟨World.putObj_heap_other (by omega), World.putObj_heap_other (by omega)⟩) (Below.refl _ _) (fun _ => rfl)
    (F0I w (w.heap.size + 1 + 1) w5.heap.size) (fun _ _ _ => False) (f0I_own (by omega)) (fun _ _ _ _ _ hs _ _ => hs) ⟨b2, hb5, Nat.le_refl _, rfl⟩
    (fun _ _ _ => True) ?hAx ?assign ?body ?done ?stop
  case hAx =>
    intro x a' _ W W' row _ hg hr
    trivial
  case stop =>
    rintro D c pre W _ _ h _
    exact h.elim
  case assign =>
    rintro l pre x W K ⟨q1, q2, q3, _⟩ hK
    have hI' : Hid (F0I w (w.heap.size + 1 + 1) w5.heap.size pre (W.alloc (.cells #[.slice none 0 0] 35))) := ⟨q1.alloc _, q2.alloc q2.size _, Nat.le_trans q3 (by simp), rfl⟩
    have HK : Hid (KeepT (w.heap.size + 1 + 1 + 1) (w.heap.size + 1 + 1 + 1 + 1) W (W.alloc (.cells #[.slice none 0 0] 35))) := ⟨Below.heap_alloc W _ _ (by omega), Below.heap_alloc W _ _ (by omega)⟩
    have HK2 := Lib.hid hK
    clear q1 q2 q3 hK
    gi_wp2
    exact HK2.out _ _ ((KeepsOthers.alloc _ _).from _) HK.out hI'.out trivial
  case body =>
    rintro l pre x a' W _ _ _ _ hlt
    exact absurd hlt (Nat.not_lt_zero _)
  case done =>
    rintro D ys W hD hT ⟨q1, q2, q3, _⟩ hK
    have c7 : W.cell? ⟨w.heap.size + 1 + 1, 0, none⟩ = some (.slice none 0 0) := q1.cell 0
    have hsz : (W.putObj D (.deferred none)).heap.size = W.heap.size := by simp [World.putObj]
    have HP : Hid (Below w.heap.size w (W.putObj D (.deferred none))) := ⟨q2.os, q2.tape, q2.output, by rw [hsz]; exact q2.size, fun k hk => (World.putObj_heap_other (by omega)).trans (q2.block k hk)⟩
    clear q1 q2 q3 hT
    gi_wp2
    exact ⟨by simp, .inl ⟨_, _, rfl, run_takeDeferred hK, ⟨_, by simp [results, Try.results32, go_sem], rfl, HP.out⟩⟩⟩

/-- What fill leaves: E tells whether a block may be read by its steps. -/
def FillPost (w : World) (b : Nat) (d : Ek.Dk) (slot : Nat) (G : Nat → Prop) (bs : List Nat) (e : Ending) (w' : World) : Prop := ∃ sv, e = .returned sv ∧ StSl w' (fun k => (G k ∨ w.heap.size ≤ k) ∧ k < w'.heap.size) b sv (Sk.fill d.n slot bs) ∧ Below w.heap.size w w'
theorem fillz_any (w : World) (S : Nat → Prop) (b : Nat) (d : Ek.Dk) (h : Dsk w S b d) (slot : Nat) (hs : slot ≤ 1) (a : Option Addr) (len cap : Nat) (bs : List Nat) (hb : Sl w (.slice a len cap) bs) (hlc : len ≤ cap) (hl : len ≤ 1048576) (G : Nat → Prop) (hG : 0 < len → ∀ g off spot, a = some ⟨g, off, spot⟩ → G g) :
    Calls Try.prog 32 #[.pointer (some ⟨b, 0, none⟩), .int .i64 (slot : Int), .slice a len cap] w (FillPost w b d slot G bs) := by
  rcases Nat.eq_zero_or_pos len with rfl | hpos
  · refine (callsIn_wide.1 (fill0_in 4 (Nat.le_refl _) w b slot a cap)).mono ?_
    rintro e w' ⟨rfl, hbw⟩
    have hbs : bs = [] := by
      obtain ⟨a', len', cap', q, q1, _⟩ := hb
      injection q with e1 e2 e3
      exact List.eq_nil_of_length_eq_zero (by omega)
    have hx : Sk.fill d.n slot bs = [] := by rw [hbs]; rfl
    refine ⟨_, rfl, ?_, hbw⟩
    rw [hx]
    exact ⟨none, 0, [], rfl, fun _ => rfl, Nat.le_refl _, StsAt.nil _ _ _, fun q => absurd q (by simp)⟩
  · obtain ⟨g, off, rfl⟩ : ∃ g off, a = some ⟨g, off, none⟩ := by
      obtain ⟨a', len', cap', e, _, _, _, _, q5⟩ := hb
      injection e with e1 e2 e3; subst e1 e2 e3
      obtain ⟨b', o', q, _⟩ := q5 hpos
      exact ⟨b', o', q⟩
    refine (callsIn_wide.1 (fill_in 4 (Nat.le_refl _) w S b d h slot hs g off len cap bs hb hlc hl hpos)).mono ?_
    rintro e w' ⟨sv, rfl, hst, hbw⟩
    refine ⟨sv, rfl, hst.mono (fun k hk => ⟨?_, hk.2⟩), hbw⟩
    rcases hk.1 with q | q
    · rw [q]; exact Or.inl (hG hpos g off none rfl)
    · exact Or.inr q
end Go.Proofs.Ythbiibinmofmfaa

/- Contract of slices.Concat over three rows of steps. -/
namespace Go.Proofs.Ythbiibinmofmfaa
set_option maxRecDepth 100000
open Go.RowKit

theorem StsAt.cell1 {w : World} {E : Nat → Prop} {b : Nat} {vs : List Value} {xs : List Sk.Step} (h : StsAt w E b vs xs) : ∀ u ∈ vs, u.oneCell' = true := by
  intro u hu
  obtain ⟨i, hi, e⟩ := List.getElem_of_mem hu
  have hx : i < xs.length := by rw [← h.1]; exact hi
  have q := h.2 i u _ (by rw [List.getElem?_eq_getElem hi, e]) (List.getElem?_eq_getElem hx)
  generalize xs[i] = x at q
  cases x with
  | sync => rw [show u = _ from q]; rfl
  | put j r =>
    rcases q with ⟨p1, p2, p3, sa, n, cap, p, hv, _⟩ | ⟨h0, p2, p5, hv, _⟩
    · rw [hv]; rfl
    · rw [hv]; rfl
theorem append_steps {w : World} {base g cap n : Nat} {vs : List Value} (ho : w.ownsRow base 77 1 (.slice (some ⟨g, 0, none⟩) n cap) n vs) (hb : base ≤ w.heap.size) {a : Option Addr} {m c : Nat} {us : List Value} (hm : us.length = m) (ha : a = none → c = 0) (h1 : ∀ u ∈ us, u.oneCell' = true)
    (hc : 0 < m → ∃ g', a = some ⟨g', 0, none⟩ ∧ ∀ i v, us[i]? = some v → w.cell? ⟨g', i, none⟩ = some v) (hl : n + m ≤ 100000) :
    ∃ g2 cap2 w2, (Builtin.append_ #[74, 74] 74 #[.slice (some ⟨g, 0, none⟩) n cap, .slice a m c]).run Try.prog w = .ok (.slice (some ⟨g2, 0, none⟩) (n + m) cap2) w2 ∧ w2.ownsRow base 77 1 (.slice (some ⟨g2, 0, none⟩) (n + m) cap2) (n + m) (vs ++ us) ∧ w.grownBy w2 (some g) := by
  obtain ⟨i0, hi, hz0, hz1, hz2⟩ := info_parts Try.infoStep
  refine run_append_mine (P := Try.prog) base 74 74 77 i0 .nilFunc 1 8 Try.underlying74 hi hz0 hz1 hz2 rfl (by decide) g cap n vs ho a m c us (by omega) (fun e => ⟨?_, ha e⟩) (fun h0 => ?_) h1 (by unfold maxLen; omega) (by omega) hb
  · rcases Nat.eq_zero_or_pos m with h | h
    · exact h
    · obtain ⟨g', e', _⟩ := hc h
      rw [e] at e'; cases e'
  · obtain ⟨g', e', hcc⟩ := hc h0
    refine ⟨_, e', fun j u hj => ?_⟩
    rw [Addr.add_mid, Nat.zero_add]; exact hcc j u hj

theorem exec_append' {P : Program} {o : Oper} {a : Act} {w w' : World} (s x : Operand) (t u : TypeId) (ho : o.op = Op.call { callee := Callee.builtin Builtin.append, args := #[s, x], argTypes := #[t, u] })
    (S X v : Value) (hs : a.eval s = S) (hx : a.eval x = X) (hrun : (Builtin.append_ #[t, u] o.type #[S, X]).run P w = .ok v w') : (execOp a.eval o).run P w = .ok (.value v) w' := by
  unfold execOp
  simp only [ho, resolve, invoke, builtin, Sem.run_bind, Sem.run_pure, Result.andThen_ok, List.map_toArray, List.map_cons, List.map_nil, hs, hx, hrun]

set_option maxHeartbeats 2000000 in
theorem grow_nil (n : Nat) (hn : 0 < n) (hl : n ≤ 100000) (w : World) : Calls Try.prog 54 #[.slice none 0 0, .int .i64 (n : Int)] w fun e w' => ∃ g cap, e = .returned (.slice (some ⟨g, 0, none⟩) 0 cap) ∧ w'.ownsRow w.heap.size 77 1 (.slice (some ⟨g, 0, none⟩) 0 cap) 0 [] ∧ Below w.heap.size w w' := by
  obtain ⟨i0, hi, hz0, hz1, hz2⟩ := info_parts Try.infoStep
  have hrun := Lib.run_append_nil_zeros (P := Try.prog) w 74 3 74 77 i0 .nilFunc .i64 .i64 Try.underlying74 Try.underlying3 hi hz0 n hn (by omega) (by omega) (by rw [hz2]; omega)
  have hge := grownCap_ge w n 0 77
  have hle := grownCap_le_maxLen w n 0 77 (by unfold maxLen; omega)
  have hown : (w.drew.alloc (.cells (Builtin.zeroCells Value.nilFunc.cells n ++ Builtin.zeroCells Value.nilFunc.cells (grownCap w n 0 77 - n)) 77)).ownsRow w.heap.size 77 1 (.slice (some ⟨w.heap.size, 0, none⟩) 0 (grownCap w n 0 77)) 0 [] := by
    have hs : (Builtin.zeroCells Value.nilFunc.cells n ++ Builtin.zeroCells Value.nilFunc.cells (grownCap w n 0 77 - n)).size = grownCap w n 0 77 * 1 := by
      rw [Array.size_append]
      simp only [Builtin.zeroCells]
      simp [Value.cells]
      omega
    exact World.ownsRow_made w.drew _ _ (Nat.le_refl _) hle hs
  obtain ⟨C, hC⟩ : ∃ C, C = grownCap w n 0 77 := ⟨_, rfl⟩
  rw [← hC] at hrun hge hle hown
  generalize hW : w.drew.alloc (.cells (Builtin.zeroCells Value.nilFunc.cells n ++ Builtin.zeroCells Value.nilFunc.cells (C - n)) 77) = W at hrun hown
  have HB : Hid (Below w.heap.size w W) := by rw [← hW]; exact (below_drewN (Below.refl _ _) 1).alloc (Nat.le_refl _) _
  have HO := Lib.hid hown
  have HRUN := Lib.hid hrun
  have hn0 : ¬ ((n : Int) < 0) := by omega
  have hn1 : (0 : Int) < (n : Int) := by omega
  have hC63 : C ≤ 9223372036854775807 := by unfold maxLen at hle; omega
  clear hrun hown hW hC hi hz0 hz1 hz2 i0 hle
  go_enter Try.func54, Try.ntmps54
  go_wp2_with (refine wpList_run rfl (exec_append' (.tmp 20) (.tmp 21) 74 3 rfl (.slice none 0 0) (.int .i64 (n : Int)) (.slice (some ⟨w.heap.size, 0, none⟩) n C) rfl rfl HRUN.out) ?_)
  go_ret
  exact ⟨_, _, rfl, HO.out, HB.out⟩
/-- A source of Concat. -/
def Src (w : World) (a : Option Addr) (m c : Nat) (us : List Value) : Prop := us.length = m ∧ (a = none → c = 0) ∧ (∀ u ∈ us, u.oneCell' = true) ∧ m ≤ c ∧ (0 < m → ∃ g', a = some ⟨g', 0, none⟩ ∧ g' < w.heap.size ∧ ∀ i v, us[i]? = some v → w.cell? ⟨g', i, none⟩ = some v)
theorem Src.later {w w' : World} {a : Option Addr} {m c : Nat} {us : List Value} (h : Src w a m c us) (hb : Below w.heap.size w w') : Src w' a m c us := by
  obtain ⟨h1, h2, h3, h3b, h4⟩ := h
  refine ⟨h1, h2, h3, h3b, fun h0 => ?_⟩
  obtain ⟨g', q1, q2, q3⟩ := h4 h0
  exact ⟨g', q1, Nat.lt_of_lt_of_le q2 hb.size, fun i v hv => (hb.cell (p := ⟨g', i, none⟩) q2).trans (q3 i v hv)⟩
theorem Src.app {w : World} {base g cap n : Nat} {vs : List Value} {a : Option Addr} {m c : Nat} {us : List Value} (h : Src w a m c us) (ho : w.ownsRow base 77 1 (.slice (some ⟨g, 0, none⟩) n cap) n vs) (hb : base ≤ w.heap.size) (hl : n + m ≤ 100000) :
    ∃ g2 cap2 w2, (Builtin.append_ #[74, 74] 74 #[.slice (some ⟨g, 0, none⟩) n cap, .slice a m c]).run Try.prog w = .ok (.slice (some ⟨g2, 0, none⟩) (n + m) cap2) w2 ∧ w2.ownsRow base 77 1 (.slice (some ⟨g2, 0, none⟩) (n + m) cap2) (n + m) (vs ++ us) ∧ w.grownBy w2 (some g) :=
  append_steps ho hb h.1 h.2.1 h.2.2.1 (fun h0 => by obtain ⟨g', q1, _, q3⟩ := h.2.2.2.2 h0; exact ⟨g', q1, q3⟩) hl

set_option maxRecDepth 100000 in
set_option maxHeartbeats 4000000 in
theorem concat_any (w : World) (G : Nat) (a1 a2 a3 : Option Addr) (n1 n2 n3 c1 c2 c3 N : Nat) (us1 us2 us3 : List Value) (hN : n1 + n2 + n3 = N) (h0 : 0 < N) (hl : N ≤ 100000)
    (g0 : w.cell? ⟨G, 0, none⟩ = some (.slice a1 n1 c1)) (g1 : w.cell? ⟨G, 1, none⟩ = some (.slice a2 n2 c2)) (g2 : w.cell? ⟨G, 2, none⟩ = some (.slice a3 n3 c3)) (s1 : Src w a1 n1 c1 us1) (s2 : Src w a2 n2 c2 us2) (s3 : Src w a3 n3 c3 us3) :
    Calls Try.prog 31 #[.slice (some ⟨G, 0, none⟩) 3 3] w fun e w' => ∃ g cap, e = .returned (.slice (some ⟨g, 0, none⟩) N cap) ∧ N ≤ cap ∧ w'.ownsRow w.heap.size 77 1 (.slice (some ⟨g, 0, none⟩) N cap) N (us1 ++ us2 ++ us3) ∧ Below w.heap.size w w' := by
  obtain ⟨M, hM⟩ : ∃ M, M = n1 + n2 := ⟨_, rfl⟩
  have HG : Hid (G < w.heap.size) := World.block_lt_of_cell? w _ g0
  have HGR := Lib.hid (grow_nil N h0 hl)
  have HM := Lib.hid hM
  have HN : Hid (M + n3 = N) := by show _ = _; omega
  have b1 : n1 ≤ 100000 := by omega
  have b2 : n2 ≤ 100000 := by omega
  have b3 : n3 ≤ 100000 := by omega
  have j1 : (n1 : Int) + (n2 : Int) = (M : Int) := by omega
  have j2 : (M : Int) + (n3 : Int) = (N : Int) := by omega
  have b4 : M ≤ 100000 := by omega
  have S1 := Lib.hid s1
  have S2 := Lib.hid s2
  have S3 := Lib.hid s3
  have G0 := Lib.hid g0
  have G1 := Lib.hid g1
  have G2 := Lib.hid g2
  clear s1 s2 s3 hM hN h0
  go_enter Try.func31, Try.ntmps31
  go_wp2_with fail
  refine wp_loop_rounds 4 ?_
  rw [rounds_succ]
  go_wp2_with fail
  rw [rounds_succ]
  go_wp2_with fail
  rw [rounds_succ]
  go_wp2_with fail
  rw [rounds_succ]
  go_wp2_with fail
  refine (HGR.out w).mono ?_
  clear HGR g0 g1 g2 j1 j2
  rintro e w2 ⟨gA, kA, rfl, ho, hb⟩
  have HO := Lib.hid ho
  have HB := Lib.hid hb
  clear ho hb
  obtain ⟨gB, kB, wB, hr, ho, hg⟩ := (S1.out.later HB.out).app HO.out HB.out.size (by omega)
  rw [Nat.zero_add, List.nil_append] at ho
  rw [Nat.zero_add] at hr
  have HRB := Lib.hid hr
  have HOB := Lib.hid ho
  have HBB : Hid (Below w.heap.size w wB) := HB.out.grown hg HB.out.size (fun q e => by cases e; exact (HO.out.lt gA rfl).1)
  clear hr ho hg
  obtain ⟨gC, kC, wC, hr, ho, hg⟩ := (S2.out.later HBB.out).app HOB.out HBB.out.size (by rw [← HM.out]; exact b4)
  rw [← HM.out] at hr ho
  have HRC := Lib.hid hr
  have HOC := Lib.hid ho
  have HBC : Hid (Below w.heap.size w wC) := HBB.out.grown hg HBB.out.size (fun q e => by cases e; exact (HOB.out.lt gB rfl).1)
  clear hr ho hg
  obtain ⟨gD, kD, wD, hr, ho, hg⟩ := (S3.out.later HBC.out).app HOC.out HBC.out.size (by rw [HN.out]; exact hl)
  rw [HN.out] at hr ho
  have HRD := Lib.hid hr
  have HOD := Lib.hid ho
  have HBD : Hid (Below w.heap.size w wD) := HBC.out.grown hg HBC.out.size (fun q e => by cases e; exact (HOC.out.lt gC rfl).1)
  have HKD : Hid (N ≤ kD) := by
    obtain ⟨a', c', e, q⟩ := own_len ho
    injection e with e1 e2 e3
    show N ≤ kD; omega
  clear hr ho hg
  have q0 : w2.cell? ⟨G, 0, none⟩ = some (.slice a1 n1 c1) := (HB.out.cell (p := ⟨G, 0, none⟩) HG.out).trans G0.out
  have q1 : wB.cell? ⟨G, 1, none⟩ = some (.slice a2 n2 c2) := (HBB.out.cell (p := ⟨G, 1, none⟩) HG.out).trans G1.out
  have q2 : wC.cell? ⟨G, 2, none⟩ = some (.slice a3 n3 c3) := (HBC.out.cell (p := ⟨G, 2, none⟩) HG.out).trans G2.out
  go_wp2_with fail
  refine wp_loop_rounds 4 ?_
  rw [rounds_succ]
  go_wp2_with (refine wpList_run rfl (exec_append (.tmp 31) (.tmp 32) 74 rfl (.slice (some ⟨gA, 0, none⟩) 0 kA) (.slice a1 n1 c1) (.slice (some ⟨gB, 0, none⟩) n1 kB) rfl rfl HRB.out) ?_)
  rw [rounds_succ]
  go_wp2_with (refine wpList_run rfl (exec_append (.tmp 31) (.tmp 32) 74 rfl (.slice (some ⟨gB, 0, none⟩) n1 kB) (.slice a2 n2 c2) (.slice (some ⟨gC, 0, none⟩) M kC) rfl rfl HRC.out) ?_)
  rw [rounds_succ]
  go_wp2_with (refine wpList_run rfl (exec_append (.tmp 31) (.tmp 32) 74 rfl (.slice (some ⟨gC, 0, none⟩) M kC) (.slice a3 n3 c3) (.slice (some ⟨gD, 0, none⟩) N kD) rfl rfl HRD.out) ?_)
  rw [rounds_succ]
  go_wp2_with fail
  go_ret
  exact ⟨gD, kD, rfl, HKD.out, HOD.out, HBD.out⟩
end Go.Proofs.Ythbiibinmofmfaa
