/- Contract of slices.Chunk at 512: the iterator of pieces. -/
import Derived.Test.YthbiibinmofmfaaZfmt
import Derived.Test.YthbiibinmofmfaaEset
import Derived.Sort.QuietTacIn

namespace Go.Proofs.Ythbiibinmofmfaa
set_option maxRecDepth 100000
open Go.RowKit Go.Shelf

attribute [local go_sem] Oper.semAt_some

/-- The k-th piece of a slice. -/
def chV (g off len k : Nat) : Value := .slice (some ⟨g, off + 512 * k, none⟩) (min 512 (len - 512 * k)) (min 512 (len - 512 * k))
/-- Both of the iterator's boxes are as they were. -/
def KeepT (B1 B2 : Nat) (W W' : World) : Prop := W'.heap[B1]? = W.heap[B1]? ∧ W'.heap[B2]? = W.heap[B2]?
theorem KeepT.refl (B1 B2 : Nat) (W : World) : KeepT B1 B2 W W := ⟨rfl, rfl⟩
theorem KeepT.trans {B1 B2 : Nat} {A B C : World} (h : KeepT B1 B2 A B) (k : KeepT B1 B2 B C) : KeepT B1 B2 A C := ⟨k.1.trans h.1, k.2.trans h.2⟩

set_option maxHeartbeats 1000000 in
theorem chunk_in (n : Nat) (a : Option Addr) (len cap : Nat) (w : World) :
    CallsIn Fence.wide n Try.prog 55 #[.slice a len cap, .int .i64 512] w fun e w' => e = .returned (.func (.func 68) #[] #[.pointer (some ⟨w.heap.size, 0, none⟩), .pointer (some ⟨w.heap.size + 1, 0, none⟩)]) ∧ w' = (w.alloc (.cells #[.slice a len cap] 35)).alloc (.cells #[.int .i64 512] 3) := by
  refine callsIn_of_wp Try.func55 rfl trivial ?_ rfl
  simp only [Try.ntmps55, List.size_toArray, List.length_cons, List.length_nil, Nat.reduceAdd, Nat.reduceSub, Array.replicate_succ, Array.replicate_zero, List.push_toArray, List.append_toArray, List.nil_append, List.cons_append]
  gi_wp2
  go_ret
  exact ⟨rfl, rfl⟩

set_option maxRecDepth 100000 in
set_option maxHeartbeats 4000000 in
theorem chunk1_in (n : Nat) (hn : 1 ≤ n) (l B1 B2 g off len cap : Nat) (hlc : len ≤ cap) (hl : len ≤ 1048576) (J Jx : List Nat → World → Prop)
    (hY : ∀ pre x W, J pre W → pre.length < (len + 511) / 512 → YieldAt Fence.wide (n - 1) Try.prog l #[chV g off len x] W fun e W' =>
      (e = .returned (.bool true) ∧ J (pre ++ [x]) W' ∧ KeepT B1 B2 W W') ∨ (e = .returned (.bool false) ∧ Jx (pre ++ [x]) W'))
    (W : World) (hJ : AbidesFrom W.heap.size J) (hB1 : W.cell? ⟨B1, 0, none⟩ = some (.slice (some ⟨g, off, none⟩) len cap)) (hB2 : W.cell? ⟨B2, 0, none⟩ = some (.int .i64 512)) (h0 : J [] W) :
    CallsIn Fence.wide n Try.prog 68 #[.func (.yield l) #[] #[], .pointer (some ⟨B1, 0, none⟩), .pointer (some ⟨B2, 0, none⟩)] W fun e W' => (∃ v, e = .returned v) ∧
      ((∃ ys, ys = List.range ((len + 511) / 512) ∧ J ys W') ∨ (∃ pre, True ∧ Jx pre W')) := by
  refine callsIn_of_wp Try.func68 rfl trivial ?_ rfl
  simp only [Try.ntmps68, List.size_toArray, List.length_cons, List.length_nil, Nat.reduceAdd, Nat.reduceSub, Array.replicate_succ, Array.replicate_zero, List.push_toArray, List.append_toArray, List.nil_append, List.cons_append]
  gi_wp2
  gi_loopw [4] (fun s4 wr => ∃ k : Nat, s4 = .int .i64 ((512 * k : Nat) : Int) ∧ k ≤ (len + 511) / 512 ∧ J (List.range k) wr ∧ Hid (KeepT B1 B2 W wr))
    (fun s4 _ => len + 512 - (intOf s4).toNat)
  case atStart => exact ⟨0, by go_num, Nat.zero_le _, h0, KeepT.refl _ _ _⟩
  case round =>
    obtain ⟨k, rfl, hk, hJs, KK⟩ := hrel
    have hb1 : wr.cell? ⟨B1, 0, none⟩ = some (.slice (some ⟨g, off, none⟩) len cap) := (World.cell?_of_block (a := ⟨B1, 0, none⟩) KK.out.1).trans hB1
    have hb2 : wr.cell? ⟨B2, 0, none⟩ = some (.int .i64 512) := (World.cell?_of_block (a := ⟨B2, 0, none⟩) KK.out.2).trans hB2
    by_cases hlt : 512 * k < len
    · obtain ⟨i, hi⟩ : ∃ i, i = 512 * k := ⟨_, rfl⟩
      rw [← hi] at hlt ⊢
      obtain ⟨m, hm⟩ : ∃ m, m = min 512 (len - i) := ⟨_, rfl⟩
      have hmm : 0 < m ∧ m ≤ 512 ∧ i + m ≤ len := by omega
      have jm : min (512 : Int) ((len : Int) - (i : Int)) = (m : Int) := by omega
      have jm2 : min (512 : Int) ((len - i : Nat) : Int) = (m : Int) := by omega
      have j0 : decide ((i : Int) < (len : Int)) = true := decide_eq_true (by omega)
      have HJ := Lib.hid (hJ _ _ _ none hJs (grownBy_drew' wr none) (fun r e => by cases e))
      obtain ⟨fn, tmps, assign, body, hy, hR⟩ := hY (List.range k) k wr.drew HJ.out (by rw [List.length_range]; omega)
      have hch : chV g off len k = .slice (some ⟨g, off + i, none⟩) m m := by unfold chV; rw [← hi, ← hm]
      rw [hch] at hy
      have HI := Lib.hid hi
      have HM := Lib.hid hm
      obtain ⟨hm0, hm1, hm2⟩ := hmm
      clear hi hm hch
      gi_wp2
      gi_region
      gi_wp2
      refine hR.mono ?_
      rintro e W3 (⟨rfl, hJ3, hk3⟩ | ⟨rfl, hJx3⟩)
      · have HJ3 : Hid (J (List.range (k + 1)) W3) := by rw [List.range_succ]; exact hJ3
        have HK3 : Hid (KeepT B1 B2 W W3) := KK.out.trans hk3
        have HZ : Hid (i + 512 = 512 * (k + 1) ∧ k + 1 ≤ (len + 511) / 512) := by have := HI.out; show _ ∧ _; omega
        have hb3 : W3.cell? ⟨B2, 0, none⟩ = some (.int .i64 512) := (World.cell?_of_block (a := ⟨B2, 0, none⟩) HK3.out.2).trans hB2
        clear hy hR hJ3 hk3 HJ HM HI jm jm2 j0 hb1 hb2
        gi_wp2
        go_roundw
        case rel => exact ⟨k + 1, by rw [← HZ.out.1]; go_num, HZ.out.2, HJ3.out, HK3⟩
        case measure => simp [intOf]; omega
      · clear hy HJ HM HI jm jm2 j0 hb1 hb2
        gi_wp2
        refine bodyPost_ret (results_none rfl _ _ _) rfl ?_
        exact ⟨⟨_, rfl⟩, .inr ⟨_, trivial, hJx3⟩⟩
    · have hkk : k = (len + 511) / 512 := by omega
      have HJ : Hid (J (List.range ((len + 511) / 512)) wr) := by rw [← hkk]; exact hJs
      obtain ⟨i, hi⟩ : ∃ i, i = 512 * k := ⟨_, rfl⟩
      rw [← hi] at hlt ⊢
      have j0 : decide ((i : Int) < (len : Int)) = false := decide_eq_false (by omega)
      have j1 : decide (i < len) = false := decide_eq_false hlt
      clear hkk hi
      gi_wp2
      exact ⟨rfl, .tuple #[], by simp [results, Try.results68, go_sem], ⟨_, rfl⟩, .inl ⟨_, rfl, HJ.out⟩⟩
end Go.Proofs.Ythbiibinmofmfaa

/- A region that draws its order, in a round of a loop over an iterator, walked as outside of one, under what is held. -/
namespace Go.Proofs.Ythbiibinmofmfaa
set_option maxRecDepth 100000
open Go Go.RowKit Go.Shelf

/-- Q, but no panic and no way out for want of room. -/
def NoBoth (Q : Exit → Act → World → Prop) : Exit → Act → World → Prop
  | .panic _, _, _ => False
  | .outgrown, _, _ => False
  | e, a, w => Q e a w
theorem NoBoth.imp {Q : Exit → Act → World → Prop} : ∀ (e : Exit) (a : Act) (w : World), NoBoth Q e a w → Q e a w := fun e a w h => by
  cases e <;> first | exact h | exact (h : False).elim
theorem NoBoth.normal {Q : Exit → Act → World → Prop} {a : Act} {w : World} (h : Q .normal a w) : NoBoth Q .normal a w := h
theorem NoBoth.lets {Q : Exit → Act → World → Prop} : ¬ LetsOut (NoBoth Q) := fun ⟨_, _, h⟩ => h

/-- No operation is a defer statement. -/
def noDefer' (ops : Array Oper) : Bool := ops.toList.all fun o => match o.op with | .defer _ => false | _ => true
theorem noDefer_at' {ops : Array Oper} (h : noDefer' ops = true) {i : Nat} {o : Oper} (ho : ops[i]? = some o) : ∀ c, o.op ≠ .defer c := by
  intro c e
  have hm : o ∈ ops.toList := by
    rw [← Array.getElem?_toList] at ho
    exact List.mem_of_getElem? ho
  have := List.all_eq_true.1 h o hm
  rw [e] at this
  cases this
theorem rows_wide {n l : Nat} {P : Program} {row : String} {args : Array Value} {w : World} {R : Value → World → Prop} (h : Rows P row args w R) : RowsIn (Fence.wide.inRound l) n P row args w R := fun c cs _ =>
  let ⟨v, w', r, s⟩ := h c cs
  ⟨v, w', r, stepsIn_wide.2 s⟩
theorem uponIn_of {n l : Nat} {P : Program} {o : Oper} {a : Act} {K : Act → World → Prop} {Q : Exit → Act → World → Prop} {r : Result Next} (h : o.upon P a K Q r) : o.uponIn (Fence.wide.inRound l) n P a K Q r := by
  cases r with
  | ok x w' =>
    cases x with
    | enter f args => exact ⟨fun q => (by simp [Fence.wide] at q), CallsIn.inRound l (callsIn_wide.2 h)⟩
    | row row args => exact ⟨fun q => (by simp [Fence.wide] at q), rows_wide h⟩
    | round _ _ _ _ _ => exact (h : False).elim
    | _ => exact h
  | halt x w' => cases x <;> exact h
theorem anyIn_of_any {n l : Nat} {P : Program} {md : Region.Mode} {ops : Array Oper} {Q : Exit → Act → World → Prop} (hd : noDefer' ops = true) (hQ : ¬ LetsOut Q) :
    ∀ (fuel : Nat) (listed : Array Bool) (a : Act) (w : World), wpAny P md ops Q fuel listed a w → wpAnyIn (Fence.wide.inRound l) n P md ops Q fuel listed a w := by
  intro fuel
  induction fuel with
  | zero => intro listed a w h; exact h
  | succ fuel ih =>
    intro listed a w h
    refine ⟨h.1, fun i hi => ?_⟩
    have h2 := h.2 i hi
    unfold wpOp at h2
    unfold wpOpIn
    split
    · rename_i ho; rw [ho] at h2; exact ih _ _ _ h2
    · rename_i o ho
      rw [ho] at h2
      simp only at h2 ⊢
      split
      · rename_i hw
        rw [if_pos hw] at h2
        rcases h2 with h2 | ⟨_, h2⟩
        · unfold Oper.wpIn
          refine ⟨fun _ _ => trivial, ?_⟩
          rw [Oper.semAt_eq _ _ _ (noDefer_at' hd ho)]
          have h3 : o.upon P a (wpAnyIn (Fence.wide.inRound l) n P md ops Q fuel (listed.setIfInBounds i true)) Q ((execOp a.eval o).run P w) := Oper.wp_mono (fun a w h => ih _ a w h) h2
          exact uponIn_of h3
        · exact absurd h2 hQ
      · rename_i hw
        rw [if_neg hw] at h2
        exact ⟨fun _ _ => trivial, ih _ _ _ h2⟩
theorem region_round_held {n l : Nat} {P : Program} {id : Nat} {ops : Array Oper} {Q : Exit → Act → World → Prop} {a : Act} {w : World} {S : World → Prop} (hm : P.follows .mixedOrders = true) (hd : noDefer' ops = true) (hS : S w.drew)
    (h : S w.drew → wpAnyH P .any ops (NoBoth Q) S ops.size (Array.replicate ops.size false) a w.drew) : (Code.region id ops true).wpIn (Fence.wide.inRound l) n P Q a w :=
  Code.wpIn_mono NoBoth.imp (wpIn_region_any hm (anyIn_of_any hd NoBoth.lets _ _ _ _ (wpAny_of_held _ _ _ _ (h hS))))
/-- All orders come to one state. -/
theorem region_round_one {n l : Nat} {P : Program} {id : Nat} {ops : Array Oper} {Q : Exit → Act → World → Prop} {a : Act} {w : World} {S : World → Prop} (a9 : Act) (w9 : World) (hm : P.follows .mixedOrders = true) (hd : noDefer' ops = true) (hS : S w.drew)
    (h : ∀ Q' : Exit → Act → World → Prop, Hid (Q' .normal a9 w9) → wpAnyH P .any ops (NoBoth Q') S ops.size (Array.replicate ops.size false) a w.drew) (ht : Q .normal a9 w9) : (Code.region id ops true).wpIn (Fence.wide.inRound l) n P Q a w :=
  region_round_held hm hd hS (fun _ => h Q ht)
end Go.Proofs.Ythbiibinmofmfaa
