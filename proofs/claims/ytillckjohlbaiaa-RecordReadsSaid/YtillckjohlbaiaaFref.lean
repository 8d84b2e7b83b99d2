/- Contracts of the document's Put, Piece and Get. -/
import Derived.Test.YtillckjohlbaiaaFbyt

namespace Go.Proofs.Ytillckjohlbaiaa
set_option maxRecDepth 100000
open Go.RowKit

theorem own_later {w w' : World} {base : Nat} {e : TypeId} {size : Nat} {v : Value} {n : Nat} {xs : List Value} (h : w.ownsRow base e size v n xs) (hb : Below w.heap.size w w') : w'.ownsRow base e size v n xs := by
  obtain ⟨h1, h2⟩ := h
  refine ⟨h1, ?_⟩
  rcases h2 with h | ⟨g, c, cur, h, hbg, hg, r⟩
  · exact Or.inl h
  · exact Or.inr ⟨g, c, cur, h, hbg, (hb.block g (lt_of_block hg)).trans hg, r⟩

theorem Mine.later {w w' : World} {B : Nat} {a : Option Addr} {n cap : Nat} {l : List Nat} (h : Mine w B a n cap l) (hb : Below w.heap.size w w') : Mine w' B a n cap l := ⟨own_later h.1 hb, h.2⟩

/-- No bytes from a place within the capacity. -/
theorem Sl.cut0 {w : World} {a : Option Addr} {len cap : Nat} {bs : List Nat} (h : Sl w (.slice a len cap) bs) (i : Nat) (_hi : i ≤ len) (_hc : cap ≠ i) :
    Sl w (.slice (Option.map (fun x => x.add i) a) 0 (cap - i)) ((bs.drop i).take 0) := by
  obtain ⟨_, _, h3⟩ := h.len
  refine ⟨_, 0, _, rfl, by simp, by omega, fun hn => ?_, by simp, fun h => absurd h (by omega)⟩
  cases a with
  | none =>
    have := h3 rfl
    omega
  | some ad => simp at hn

set_option maxHeartbeats 2000000 in
theorem rpiece_bad (a : Option Addr) (len cap : Nat) (i k : Int) (h : i < 0 ∨ (len : Int) < i ∨ k < 0) (w : World) :
    Calls Try.prog 95 #[.slice a len cap, .int .i64 i, .int .i64 k] w fun e w' => e = .returned (.tuple #[.slice none 0 0, .int .i64 2]) ∧ w = w' := by
  have hd : ((decide (i < 0) || decide ((len : Int) < i)) || decide (k < 0)) = true := by simpa [Bool.or_eq_true, or_assoc] using h
  by_cases h0 : i < 0
  · go_enter Try.func95, Try.ntmps95
    go_wp2
    go_ret2
    exact ⟨rfl, rfl⟩
  · by_cases h1 : (len : Int) < i
    · go_enter Try.func95, Try.ntmps95
      go_wp2
      go_ret2
      exact ⟨rfl, rfl⟩
    · have h2 : k < 0 := by omega
      go_enter Try.func95, Try.ntmps95
      go_wp2
      go_ret2
      exact ⟨rfl, rfl⟩

set_option maxHeartbeats 2000000 in
theorem rpiece_short (a : Option Addr) (len cap : Nat) (i k : Int) (hl : len ≤ 281474976710656) (h0 : 0 ≤ i) (h1 : i ≤ (len : Int)) (h2 : (len : Int) - i < k) (w : World) :
    Calls Try.prog 95 #[.slice a len cap, .int .i64 i, .int .i64 k] w fun e w' => e = .returned (.tuple #[.slice none 0 0, .int .i64 4]) ∧ w = w' := by
  have h3 : IntKind.i64.wrap ((len : Int) - i) = (len : Int) - i := IntWalk.i64_in _ (by omega)
  have h4 : 0 ≤ k := by omega
  go_enter Try.func95, Try.ntmps95
  go_wp2
  go_ret2
  exact ⟨rfl, rfl⟩

set_option maxHeartbeats 2000000 in
theorem rpiece_ok (a : Option Addr) (len cap : Nat) (bs : List Nat) (i k : Nat) (h : i + k ≤ len) (hc : len ≤ cap) (hk8 : k ≤ 140737488355328) (w : World) (hs : Sl w (.slice a len cap) bs) :
    Calls Try.prog 95 #[.slice a len cap, .int .i64 (i : Int), .int .i64 (k : Int)] w fun e w' => ∃ g' cap', e = .returned (.tuple #[.slice (some ⟨g', 0, none⟩) k cap', .int .i64 0]) ∧ Mine w' w.heap.size (some ⟨g', 0, none⟩) k cap' ((bs.drop i).take k) ∧ Below w.heap.size w w' := by
  have hl := hs.len.2.1
  have HS := Lib.hid hs
  clear hs
  have h0 : (0 : Int) ≤ (i : Int) := by omega
  have h1 : (i : Int) ≤ (len : Int) := by omega
  have h2 : (0 : Int) ≤ (k : Int) := by omega
  have h3 : IntKind.i64.wrap ((len : Int) - (i : Int)) = (len : Int) - (i : Int) := IntWalk.i64_in _ (by omega)
  have h4 : (k : Int) ≤ (len : Int) - (i : Int) := by omega
  have h5 : IntKind.i64.wrap ((i : Int) + (k : Int)) = (i : Int) + (k : Int) := IntWalk.i64_in _ (by omega)
  have h6 : (i : Int) ≤ (i : Int) + (k : Int) := by omega
  have h7 : (i : Int) + (k : Int) ≤ (cap : Int) := by omega
  have A1 : Hid ((w.alloc (.cells #[] 5)).ownsRow w.heap.size 5 1 (.slice (some ⟨w.heap.size, 0, none⟩) 0 0) 0 []) :=
    World.ownsRow_lit (base := w.heap.size) (e := 5) (size := 1) w #[] 0 (by simp) (by unfold maxLen; omega) rfl
  have B0 : Hid (Below w.heap.size w (w.alloc (.cells #[] 5))) := below1 w _
  by_cases hcap : cap = i
  · obtain rfl : k = 0 := by omega
    have S0 := Lib.hid (Sl.empty (w.alloc (.cells #[] 5)) a)
    go_enter Try.func95, Try.ntmps95
    go_wp2_with (at_builtin; (refine wpList_append_sl rfl (.tmp 26) (.tmp 32) rfl w.heap.size w.heap.size 0 0 [] rfl A1.out a 0 0 [] rfl S0.out (by omega) (by simp) ?_; intro g1 c1 w1 ho1 hg1; have hO1 := Lib.hid (own_app_zero ho1.out); have hB1 := Lib.hid (below_grown B0.out hg1.out (by omega) B0.out.size); clear ho1 hg1))
    go_ret2
    exact ⟨_, _, rfl, ⟨by simpa using hO1.out, by simp, by simp⟩, hB1.out⟩
  · have hk3 : i + k - i = k := by omega
    have S0 : Hid (Sl (w.alloc (.cells #[] 5)) (.slice (Option.map (fun x => x.add i) a) k (cap - i)) ((bs.drop i).take k)) := by
      by_cases hk : k = 0
      · subst hk
        exact (HS.out.later B0.out).cut0 i (by omega) hcap
      · exact (HS.out.later B0.out).cut i k h hk (cap - i)
    have HL : Hid (k = ((bs.drop i).take k).length) := by
      have := HS.out.len.1
      show k = _
      rw [List.length_take, List.length_drop]
      omega
    have H8 : Hid (∀ x ∈ (bs.drop i).take k, x < 256) := S0.out.bytes
    generalize (bs.drop i).take k = l at *
    go_enter Try.func95, Try.ntmps95
    go_wp2_with (at_builtin; (refine wpList_append_sl rfl (.tmp 26) (.tmp 32) rfl w.heap.size w.heap.size 0 0 [] rfl A1.out (Option.map (fun x => x.add i) a) k (cap - i) l (by first | rfl | simp [Act.eval, hk3]) S0.out (by omega) (by simp) ?_; intro g1 c1 w1 ho1 hg1; have hO1 := Lib.hid (own_app_zero ho1.out); have hB1 := Lib.hid (below_grown B0.out hg1.out (by omega) B0.out.size); clear ho1 hg1))
    go_ret2
    exact ⟨_, _, by simp, ⟨hO1.out, HL.out, H8.out⟩, hB1.out⟩
end Go.Proofs.Ytillckjohlbaiaa
