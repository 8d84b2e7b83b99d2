/- Contracts of what the document's readers have: get2, get4, begin, zero. -/
import Derived.Test.YtillckjohlbaiaaFrget
import Derived.Test.YtillckjohlbaiaaNre

namespace Go.Proofs.Ytillckjohlbaiaa
set_option maxRecDepth 100000
open Go.RowKit

theorem take2_of (bs : List Nat) (k : Nat) (h : k + 2 ≤ bs.length) : ∃ x y, (bs.drop k).take 2 = [x, y] := two_of (by rw [List.length_take, List.length_drop]; omega)

set_option maxHeartbeats 1000000 in
theorem get2_any (a : Option Addr) (len cap : Nat) (bs : List Nat) (k : Nat) (h : k + 2 ≤ len) (hc : len ≤ cap) (w : World) (hs : Sl w (.slice a len cap) bs) :
    Calls Try.prog 79 #[.slice a len cap, .int .i64 (k : Int)] w fun e w' => e = .returned (.int .i64 (g2 bs k)) ∧ Below w.heap.size w w' := by
  have hl := hs.len.1
  obtain ⟨x, y, hx⟩ := two_of (l := (bs.drop k).take 2) (by rw [List.length_take, List.length_drop]; omega)
  have R := Lib.hid (rget2_ok a len cap bs k x y h hc hx w hs)
  have e : g2 bs k = ((x + 256 * y : Nat) : Int) := by unfold g2; rw [hx]; rfl
  rw [← e] at R
  generalize g2 bs k = v at *
  clear hs hx hl e h hc
  go_enter Try.func79, Try.ntmps79
  go_wp2_with fail
  refine R.out.mono ?_
  rintro e w2 ⟨rfl, hb⟩
  have HB := Lib.hid hb
  clear hb
  go_wp2
  go_ret
  exact ⟨rfl, HB.out⟩

set_option maxHeartbeats 1000000 in
theorem get4_any (a : Option Addr) (len cap : Nat) (bs : List Nat) (k : Nat) (h : k + 4 ≤ len) (hc : len ≤ cap) (w : World) (hs : Sl w (.slice a len cap) bs) :
    Calls Try.prog 43 #[.slice a len cap, .int .i64 (k : Int)] w fun e w' => e = .returned (.int .i64 (g4 bs k)) ∧ Below w.heap.size w w' := by
  have hl := hs.len.1
  obtain ⟨x, y, z, u, hx⟩ := four_of (l := (bs.drop k).take 4) (by rw [List.length_take, List.length_drop]; omega)
  have R := Lib.hid (rget4_ok a len cap bs k x y z u h hc hx w hs)
  have e : g4 bs k = ((x + 256 * y + 65536 * z + 16777216 * u : Nat) : Int) := by unfold g4; rw [hx]; rfl
  rw [← e] at R
  generalize g4 bs k = v at *
  clear hs hx hl e h hc
  go_enter Try.func43, Try.ntmps43
  go_wp2_with fail
  refine R.out.mono ?_
  rintro e w2 ⟨rfl, hb⟩
  have HB := Lib.hid hb
  clear hb
  go_wp2
  go_ret
  exact ⟨rfl, HB.out⟩

set_option maxHeartbeats 1000000 in
theorem begin_out (a : Option Addr) (len cap : Nat) (i : Int) (n : Nat) (h : i < 0 ∨ (len : Int) < i) (w : World) :
    Calls Try.prog 39 #[.slice a len cap, .int .i64 i, .int .i64 (n : Int)] w fun e w' => e = .returned (.tuple #[.slice none 0 0, .int .i64 2]) ∧ w = w' := by
  by_cases h0 : i < 0
  · clear h
    go_enter Try.func39, Try.ntmps39
    go_wp2
    go_ret2
    exact ⟨rfl, rfl⟩
  · have h1 : (len : Int) < i := by omega
    clear h
    go_enter Try.func39, Try.ntmps39
    go_wp2
    go_ret2
    exact ⟨rfl, rfl⟩

set_option maxHeartbeats 1000000 in
theorem begin_short (a : Option Addr) (len cap k n : Nat) (hl : len ≤ 281474976710656) (hk : k ≤ len) (h : len < k + n) (w : World) :
    Calls Try.prog 39 #[.slice a len cap, .int .i64 (k : Int), .int .i64 (n : Int)] w fun e w' => e = .returned (.tuple #[.slice none 0 0, .int .i64 4]) ∧ w = w' := by
  have h0 : ¬ ((k : Int) < 0) := by omega
  have h1 : ¬ ((len : Int) < (k : Int)) := by omega
  have h1' : ¬ (len < k) := by omega
  have hw : IntKind.i64.wrap ((len : Int) - (k : Int)) = (len : Int) - (k : Int) := IntWalk.i64_in _ (by omega)
  have h2 : (len : Int) - (k : Int) < (n : Int) := by omega
  clear h hk hl
  go_enter Try.func39, Try.ntmps39
  go_wp2
  go_ret2
  exact ⟨rfl, rfl⟩

set_option maxHeartbeats 1000000 in
theorem begin_ok (a : Option Addr) (len cap k n m c : Nat) (hl : len ≤ 281474976710656) (hn : 0 < n) (hm : len = k + m) (hc : cap = k + c) (hmc : m ≤ c) (h : n ≤ m) (w : World) :
    Calls Try.prog 39 #[.slice a len cap, .int .i64 (k : Int), .int .i64 (n : Int)] w fun e w' => e = .returned (.tuple #[.slice (Option.map (fun x => x.add k) a) m c, .int .i64 0]) ∧ w = w' := by
  have h0 : ¬ ((k : Int) < 0) := by omega
  have h1 : ¬ ((len : Int) < (k : Int)) := by omega
  have h1' : ¬ (len < k) := by omega
  have hw : IntKind.i64.wrap ((len : Int) - (k : Int)) = (len : Int) - (k : Int) := IntWalk.i64_in _ (by omega)
  have h2 : ¬ ((len : Int) - (k : Int) < (n : Int)) := by omega
  have h3 : (k : Int) ≤ (len : Int) := by omega
  have h4 : (len : Int) ≤ (cap : Int) := by omega
  have e1 : len - k = m := by omega
  have e2 : cap - k = c := by omega
  have e3 : ¬ cap = k := by omega
  have h5 : k ≤ len := by omega
  have h6 : len ≤ cap := by omega
  clear h hm hc hl hmc hn
  go_enter Try.func39, Try.ntmps39
  go_wp2
  go_ret2
  exact ⟨rfl, rfl⟩

end Go.Proofs.Ytillckjohlbaiaa
