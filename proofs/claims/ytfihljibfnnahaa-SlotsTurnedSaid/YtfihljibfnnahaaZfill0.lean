/- Contract of slots' fill: of no bytes there are no steps; both cases together. -/
import Derived.Test.YtfihljibfnnahaaZfill

namespace Go.Proofs.Ytfihljibfnnahaa
set_option maxRecDepth 100000
open Go.RowKit Go.Shelf

attribute [local go_sem] Oper.semAt_some

set_option maxRecDepth 100000 in
set_option maxHeartbeats 4000000 in
theorem chunk0_in (n : Nat) (l B1 B2 cap : Nat) (a : Option Addr) (J Jx : List Nat → World → Prop)
    (W : World) (hB1 : W.cell? ⟨B1, 0, none⟩ = some (.slice a 0 cap)) (h0 : J [] W) :
    CallsIn Fence.wide n Try.prog 88 #[.func (.yield l) #[] #[], .pointer (some ⟨B1, 0, none⟩), .pointer (some ⟨B2, 0, none⟩)] W fun e W' => (∃ v, e = .returned v) ∧
      ((∃ ys, ys = [] ∧ J ys W') ∨ (∃ pre, True ∧ Jx pre W')) := by
  refine callsIn_of_wp Try.func88 rfl trivial ?_ rfl
  simp only [Try.ntmps88, List.size_toArray, List.length_cons, List.length_nil, Nat.reduceAdd, Nat.reduceSub, Array.replicate_succ, Array.replicate_zero, List.push_toArray, List.append_toArray, List.nil_append, List.cons_append]
  gi_wp2
  gi_loopw [4] (fun s4 wr => s4 = .int .i64 0 ∧ Hid (wr = W)) (fun _ _ => 0)
  case atStart => exact ⟨rfl, rfl⟩
  case round =>
    obtain ⟨rfl, KW⟩ := hrel
    have hb1 : wr.cell? ⟨B1, 0, none⟩ = some (.slice a 0 cap) := by rw [KW.out]; exact hB1
    have HJ : Hid (J [] wr) := by rw [KW.out]; exact h0
    clear KW
    gi_wp2
    exact ⟨rfl, .tuple #[], by simp [results, Try.results88, go_sem], ⟨_, rfl⟩, .inl ⟨_, rfl, HJ.out⟩⟩

/-- Between rounds that there are not. -/
def F0I (w : World) (T N : Nat) (pre : List Nat) (W : World) : Prop := Has W T (.cells #[.slice none 0 0] 103 (0, 0)) ∧ Below w.heap.size w W ∧ N ≤ W.heap.size ∧ pre = pre
theorem f0I_own {w : World} {T N B : Nat} (hB : w.heap.size ≤ B) : OwnFrom B (F0I w T N) := by
  rintro pre W W' row ⟨h1, h2, h3, _⟩ hg hr
  refine ⟨h1.grown hg (fun e => by
    obtain ⟨_, o, ho, hc⟩ := hr T e.symm
    rw [show W.heap[T]? = _ from h1] at ho
    cases ho; cases hc), h2.grown hg h2.size (fun q e => Nat.le_trans hB (hr q e).1), Nat.le_trans h3 hg.size, rfl⟩

set_option maxRecDepth 100000 in
set_option maxHeartbeats 4000000 in
theorem fill0_in (n : Nat) (hn : 4 ≤ n) (w : World) (b slot : Nat) (a : Option Addr) (cap : Nat) :
    CallsIn Fence.wide n Try.prog 55 #[.pointer (some ⟨b, 0, none⟩), .int .i64 (slot : Int), .slice a 0 cap] w fun e w' => e = .returned (.slice none 0 0) ∧ Below w.heap.size w w' := by
  have h1 : 1 ≤ n := by omega
  refine callsIn_of_wp_marks Try.func55 rfl trivial ?_ rfl
  simp only [Try.ntmps55, List.size_toArray, List.length_cons, List.length_nil, Nat.reduceAdd, Nat.reduceSub, Array.replicate_succ, Array.replicate_zero, List.push_toArray, List.append_toArray, List.nil_append, List.cons_append]
  gi_wp2_with (refine ⟨trivial, ?_⟩; gi_at_call 75; refine (chunk_in (n - 1) _ _ _ _).mono ?_; rintro e w' ⟨rfl, rfl⟩)
  obtain ⟨w5, hw5⟩ : ∃ w5, w5 = (((((w.alloc (.cells #[.pointer (some ⟨b, 0, none⟩)] 23)).alloc (.cells #[.int .i64 (slot : Int)] 3)).alloc (.cells #[.slice none 0 0] 103)).alloc (.cells #[.slice a 0 cap] 43)).alloc (.cells #[.int .i64 512] 3)) := ⟨_, rfl⟩
  have hs5 : w5.heap.size = w.heap.size + 5 := by rw [hw5]; simp
  have hb5 : Below w.heap.size w w5 := by
    rw [hw5]
    exact (((below3 w _ _ _).alloc (by simp; omega) _).alloc (by simp; omega) _)
  have b2 : Has w5 (w.heap.size + 1 + 1) (.cells #[.slice none 0 0] 103 (0, 0)) := by
    have := ((Has.new ((w.alloc (.cells #[.pointer (some ⟨b, 0, none⟩)] 23)).alloc (.cells #[.int .i64 (slot : Int)] 3)) (.cells #[.slice none 0 0] 103)).alloc (.cells #[.slice a 0 cap] 43)).alloc (.cells #[.int .i64 512] 3)
    rw [hw5]; simpa using this
  have b3 : Has w5 (w.heap.size + 1 + 1 + 1) (.cells #[.slice a 0 cap] 43 (0, 0)) := by
    have := (Has.new (((w.alloc (.cells #[.pointer (some ⟨b, 0, none⟩)] 23)).alloc (.cells #[.int .i64 (slot : Int)] 3)).alloc (.cells #[.slice none 0 0] 103)) (.cells #[.slice a 0 cap] 43)).alloc (.cells #[.int .i64 512] 3)
    rw [hw5]; simpa using this
  rw [← hw5]
  clear hw5
  refine wpIn_rangeFunc_ownH (α := Nat) rfl h1 (gf := 88) (lb := #[.pointer (some ⟨w.heap.size + 1 + 1 + 1, 0, none⟩), .pointer (some ⟨w.heap.size + 1 + 1 + 1 + 1, 0, none⟩)]) rfl trivial (enters_of Try.func88 (by kernel_rfl) rfl)
    (encs := fun _ => #[.slice none 0 0]) (Kp := KeepT (w.heap.size + 1 + 1 + 1) (w.heap.size + 1 + 1 + 1 + 1)) (S := fun ys => ys = []) (Sp := fun _ => True) (N := 0) (w0 := w5)
    (fun l J Jx W hW _ _ _ h0 => chunk0_in (n - 1) l _ _ cap a J Jx W (by rw [(Has.later b3 hW).cell]; rfl) h0)
    KeepT.trans (fun W l o o' hl0 _ _ _ => ⟨World.putObj_heap_other (by omega), World.putObj_heap_other (by omega)⟩) (Below.refl _ _) (fun _ => rfl)
    (F0I w (w.heap.size + 1 + 1) w5.heap.size) (fun _ _ _ => False) (f0I_own (by omega)) (fun _ _ _ _ _ hs _ _ => hs) ⟨b2, hb5, Nat.le_refl _, rfl⟩
    (fun _ _ _ => True) ?hAx ?assign ?body ?done ?stop
  case hAx =>
    intro x a' _ W W' row _ hg hr
    trivial
  case stop =>
    rintro D c pre W _ _ h _
    exact h.elim
  case assign =>
    rintro l pre x W K ⟨q1, q2, q3, _⟩ hK
    have hI' : Hid (F0I w (w.heap.size + 1 + 1) w5.heap.size pre (W.alloc (.cells #[.slice none 0 0] 43))) := ⟨q1.alloc _, q2.alloc q2.size _, Nat.le_trans q3 (by simp), rfl⟩
    have HK : Hid (KeepT (w.heap.size + 1 + 1 + 1) (w.heap.size + 1 + 1 + 1 + 1) W (W.alloc (.cells #[.slice none 0 0] 43))) := ⟨Below.heap_alloc W _ _ (by omega), Below.heap_alloc W _ _ (by omega)⟩
    have HK2 := Lib.hid hK
    clear q1 q2 q3 hK
    gi_wp2
    exact HK2.out _ _ ((KeepsOthers.alloc _ _).from _) HK.out hI'.out trivial
  case body =>
    rintro l pre x a' W _ _ _ _ hlt
    exact absurd hlt (Nat.not_lt_zero _)
  case done =>
    rintro D ys W hD hT ⟨q1, q2, q3, _⟩ hK
    have c7 : W.cell? ⟨w.heap.size + 1 + 1, 0, none⟩ = some (.slice none 0 0) := q1.cell 0
    have hsz : (W.putObj D (.deferred none)).heap.size = W.heap.size := by simp [World.putObj]
    have HP : Hid (Below w.heap.size w (W.putObj D (.deferred none))) := ⟨q2.os, q2.tape, q2.output, by rw [hsz]; exact q2.size, fun k hk => (World.putObj_heap_other (by omega)).trans (q2.block k hk)⟩
    clear q1 q2 q3 hT
    gi_wp2
    exact ⟨by simp, .inl ⟨_, _, rfl, run_takeDeferred hK, ⟨_, by simp [results, Try.results55, go_sem], rfl, HP.out⟩⟩⟩

/-- What fill leaves: E tells whether a block may be read by its steps. -/
def FillPost (w : World) (b : Nat) (d : Ek.Dk) (slot : Nat) (G : Nat → Prop) (bs : List Nat) (e : Ending) (w' : World) : Prop := ∃ sv, e = .returned sv ∧ StSl w' (fun k => (G k ∨ w.heap.size ≤ k) ∧ k < w'.heap.size) b sv (Sk.fill d.n slot bs) ∧ Below w.heap.size w w'
theorem fillz_any (w : World) (S : Nat → Prop) (b : Nat) (d : Ek.Dk) (h : Dsk w S b d) (slot : Nat) (hs : slot ≤ 1) (a : Option Addr) (len cap : Nat) (bs : List Nat) (hb : Sl w (.slice a len cap) bs) (hlc : len ≤ cap) (hl : len ≤ 1048576) (G : Nat → Prop) (hG : 0 < len → ∀ g off spot, a = some ⟨g, off, spot⟩ → G g) :
    Calls Try.prog 55 #[.pointer (some ⟨b, 0, none⟩), .int .i64 (slot : Int), .slice a len cap] w (FillPost w b d slot G bs) := by
  rcases Nat.eq_zero_or_pos len with rfl | hpos
  · refine (callsIn_wide.1 (fill0_in 4 (Nat.le_refl _) w b slot a cap)).mono ?_
    rintro e w' ⟨rfl, hbw⟩
    have hbs : bs = [] := by
      obtain ⟨a', len', cap', q, q1, _⟩ := hb
      injection q with e1 e2 e3
      exact List.eq_nil_of_length_eq_zero (by omega)
    have hx : Sk.fill d.n slot bs = [] := by rw [hbs]; rfl
    refine ⟨_, rfl, ?_, hbw⟩
    rw [hx]
    exact ⟨none, 0, [], rfl, fun _ => rfl, Nat.le_refl _, StsAt.nil _ _ _, fun q => absurd q (by simp)⟩
  · obtain ⟨g, off, rfl⟩ : ∃ g off, a = some ⟨g, off, none⟩ := by
      obtain ⟨a', len', cap', e, _, _, _, _, q5⟩ := hb
      injection e with e1 e2 e3; subst e1 e2 e3
      obtain ⟨b', o', q, _⟩ := q5 hpos
      exact ⟨b', o', q⟩
    refine (callsIn_wide.1 (fill_in 4 (Nat.le_refl _) w S b d h slot hs g off len cap bs hb hlc hl hpos)).mono ?_
    rintro e w' ⟨sv, rfl, hst, hbw⟩
    refine ⟨sv, rfl, hst.mono (fun k hk => ⟨?_, hk.2⟩), hbw⟩
    rcases hk.1 with q | q
    · rw [q]; exact Or.inl (hG hpos g off none rfl)
    · exact Or.inr q
end Go.Proofs.Ytfihljibfnnahaa
