/- Contracts of the document's zero. -/
import Derived.Test.YtillckjohlbaiaaNrer

namespace Go.Proofs.Ytillckjohlbaiaa
set_option maxRecDepth 100000
open Go.RowKit

set_option maxHeartbeats 2000000 in
theorem zero1_0 (a : Option Addr) (len cap : Nat) (bs : List Nat) (g : Nat) (k0 : Nat) (h0 : k0 + 2 ≤ len) (hc : len ≤ cap)  (z0 : ¬ g2 bs k0 = 0) (w : World) (hs : Sl w (.slice a len cap) bs) (hg : Has w g (.cells #[.int .i64 (k0 : Int)] 3 (0, 0))) :
    Calls Try.prog 40 #[.slice a len cap, .slice (some ⟨g, 0, none⟩) 1 1] w fun e w' => e = .returned (.bool false) ∧ Below w.heap.size w w' := by
  have S0 := Lib.hid hs
  have G0 := Lib.hid hg
  have B0 := Lib.hid (Below.refl w.heap.size w)
  have R0 := Lib.hid (fun W hW => get2_any a len cap bs k0 h0 hc W hW)
  generalize g2 bs k0 = v at *
  clear hs hg h0 hc 
  go_enter Try.func40, Try.ntmps40
  go_wp2_with fail
  refine wp_loop_rounds 2 ?_
  rw [rounds_succ]
  have q0 := (G0.out.cell 0 : _ = some (Value.int .i64 (k0 : Int)))
  go_wp2_with fail
  refine (R0.out _ S0.out).mono ?_
  rintro e w1 ⟨rfl, b0⟩
  have S1 := Lib.hid (S0.out.later b0)
  have G1 := Lib.hid (G0.out.later b0)
  have B1 := Lib.hid (B0.out.trans (b0.mono B0.out.size))
  clear b0 q0 S0 G0 B0
  go_wp2_with fail
  go_ret
  exact ⟨rfl, B1.out⟩

set_option maxHeartbeats 2000000 in
theorem zero1_1 (a : Option Addr) (len cap : Nat) (bs : List Nat) (g : Nat) (k0 : Nat) (h0 : k0 + 2 ≤ len) (hc : len ≤ cap) (z0 : g2 bs k0 = 0) (w : World) (hs : Sl w (.slice a len cap) bs) (hg : Has w g (.cells #[.int .i64 (k0 : Int)] 3 (0, 0))) :
    Calls Try.prog 40 #[.slice a len cap, .slice (some ⟨g, 0, none⟩) 1 1] w fun e w' => e = .returned (.bool true) ∧ Below w.heap.size w w' := by
  have S0 := Lib.hid hs
  have G0 := Lib.hid hg
  have B0 := Lib.hid (Below.refl w.heap.size w)
  have R0 := Lib.hid (fun W hW => get2_any a len cap bs k0 h0 hc W hW)
  rw [z0] at R0
  clear hs hg h0 hc z0
  go_enter Try.func40, Try.ntmps40
  go_wp2_with fail
  refine wp_loop_rounds 2 ?_
  rw [rounds_succ]
  have q0 := (G0.out.cell 0 : _ = some (Value.int .i64 (k0 : Int)))
  go_wp2_with fail
  refine (R0.out _ S0.out).mono ?_
  rintro e w1 ⟨rfl, b0⟩
  have S1 := Lib.hid (S0.out.later b0)
  have G1 := Lib.hid (G0.out.later b0)
  have B1 := Lib.hid (B0.out.trans (b0.mono B0.out.size))
  clear b0 q0 S0 G0 B0
  go_wp2_with fail
  rw [rounds_succ]
  go_wp2_with fail
  go_ret
  exact ⟨rfl, B1.out⟩

set_option maxHeartbeats 2000000 in
theorem zero3_0 (a : Option Addr) (len cap : Nat) (bs : List Nat) (g : Nat) (k0 k1 k2 : Nat) (h0 : k0 + 2 ≤ len) (_ : k1 + 2 ≤ len) (_ : k2 + 2 ≤ len) (hc : len ≤ cap)  (z0 : ¬ g2 bs k0 = 0) (w : World) (hs : Sl w (.slice a len cap) bs) (hg : Has w g (.cells #[.int .i64 (k0 : Int), .int .i64 (k1 : Int), .int .i64 (k2 : Int)] 3 (0, 0))) :
    Calls Try.prog 40 #[.slice a len cap, .slice (some ⟨g, 0, none⟩) 3 3] w fun e w' => e = .returned (.bool false) ∧ Below w.heap.size w w' := by
  have S0 := Lib.hid hs
  have G0 := Lib.hid hg
  have B0 := Lib.hid (Below.refl w.heap.size w)
  have R0 := Lib.hid (fun W hW => get2_any a len cap bs k0 h0 hc W hW)
  generalize g2 bs k0 = v at *
  clear hs hg h0 hc 
  go_enter Try.func40, Try.ntmps40
  go_wp2_with fail
  refine wp_loop_rounds 4 ?_
  rw [rounds_succ]
  have q0 := (G0.out.cell 0 : _ = some (Value.int .i64 (k0 : Int)))
  go_wp2_with fail
  refine (R0.out _ S0.out).mono ?_
  rintro e w1 ⟨rfl, b0⟩
  have S1 := Lib.hid (S0.out.later b0)
  have G1 := Lib.hid (G0.out.later b0)
  have B1 := Lib.hid (B0.out.trans (b0.mono B0.out.size))
  clear b0 q0 S0 G0 B0
  go_wp2_with fail
  go_ret
  exact ⟨rfl, B1.out⟩

set_option maxHeartbeats 2000000 in
theorem zero3_1 (a : Option Addr) (len cap : Nat) (bs : List Nat) (g : Nat) (k0 k1 k2 : Nat) (h0 : k0 + 2 ≤ len) (h1 : k1 + 2 ≤ len) (_ : k2 + 2 ≤ len) (hc : len ≤ cap) (z0 : g2 bs k0 = 0) (z1 : ¬ g2 bs k1 = 0) (w : World) (hs : Sl w (.slice a len cap) bs) (hg : Has w g (.cells #[.int .i64 (k0 : Int), .int .i64 (k1 : Int), .int .i64 (k2 : Int)] 3 (0, 0))) :
    Calls Try.prog 40 #[.slice a len cap, .slice (some ⟨g, 0, none⟩) 3 3] w fun e w' => e = .returned (.bool false) ∧ Below w.heap.size w w' := by
  have S0 := Lib.hid hs
  have G0 := Lib.hid hg
  have B0 := Lib.hid (Below.refl w.heap.size w)
  have R0 := Lib.hid (fun W hW => get2_any a len cap bs k0 h0 hc W hW)
  rw [z0] at R0
  have R1 := Lib.hid (fun W hW => get2_any a len cap bs k1 h1 hc W hW)
  generalize g2 bs k1 = v at *
  clear hs hg h0 h1 hc z0
  go_enter Try.func40, Try.ntmps40
  go_wp2_with fail
  refine wp_loop_rounds 4 ?_
  rw [rounds_succ]
  have q0 := (G0.out.cell 0 : _ = some (Value.int .i64 (k0 : Int)))
  go_wp2_with fail
  refine (R0.out _ S0.out).mono ?_
  rintro e w1 ⟨rfl, b0⟩
  have S1 := Lib.hid (S0.out.later b0)
  have G1 := Lib.hid (G0.out.later b0)
  have B1 := Lib.hid (B0.out.trans (b0.mono B0.out.size))
  clear b0 q0 S0 G0 B0
  go_wp2_with fail
  rw [rounds_succ]
  have q1 := (G1.out.cell 1 : _ = some (Value.int .i64 (k1 : Int)))
  go_wp2_with fail
  refine (R1.out _ S1.out).mono ?_
  rintro e w2 ⟨rfl, b1⟩
  have S2 := Lib.hid (S1.out.later b1)
  have G2 := Lib.hid (G1.out.later b1)
  have B2 := Lib.hid (B1.out.trans (b1.mono B1.out.size))
  clear b1 q1 S1 G1 B1
  go_wp2_with fail
  go_ret
  exact ⟨rfl, B2.out⟩

set_option maxHeartbeats 2000000 in
theorem zero3_2 (a : Option Addr) (len cap : Nat) (bs : List Nat) (g : Nat) (k0 k1 k2 : Nat) (h0 : k0 + 2 ≤ len) (h1 : k1 + 2 ≤ len) (h2 : k2 + 2 ≤ len) (hc : len ≤ cap) (z0 : g2 bs k0 = 0) (z1 : g2 bs k1 = 0) (z2 : ¬ g2 bs k2 = 0) (w : World) (hs : Sl w (.slice a len cap) bs) (hg : Has w g (.cells #[.int .i64 (k0 : Int), .int .i64 (k1 : Int), .int .i64 (k2 : Int)] 3 (0, 0))) :
    Calls Try.prog 40 #[.slice a len cap, .slice (some ⟨g, 0, none⟩) 3 3] w fun e w' => e = .returned (.bool false) ∧ Below w.heap.size w w' := by
  have S0 := Lib.hid hs
  have G0 := Lib.hid hg
  have B0 := Lib.hid (Below.refl w.heap.size w)
  have R0 := Lib.hid (fun W hW => get2_any a len cap bs k0 h0 hc W hW)
  rw [z0] at R0
  have R1 := Lib.hid (fun W hW => get2_any a len cap bs k1 h1 hc W hW)
  rw [z1] at R1
  have R2 := Lib.hid (fun W hW => get2_any a len cap bs k2 h2 hc W hW)
  generalize g2 bs k2 = v at *
  clear hs hg h0 h1 h2 hc z0 z1
  go_enter Try.func40, Try.ntmps40
  go_wp2_with fail
  refine wp_loop_rounds 4 ?_
  rw [rounds_succ]
  have q0 := (G0.out.cell 0 : _ = some (Value.int .i64 (k0 : Int)))
  go_wp2_with fail
  refine (R0.out _ S0.out).mono ?_
  rintro e w1 ⟨rfl, b0⟩
  have S1 := Lib.hid (S0.out.later b0)
  have G1 := Lib.hid (G0.out.later b0)
  have B1 := Lib.hid (B0.out.trans (b0.mono B0.out.size))
  clear b0 q0 S0 G0 B0
  go_wp2_with fail
  rw [rounds_succ]
  have q1 := (G1.out.cell 1 : _ = some (Value.int .i64 (k1 : Int)))
  go_wp2_with fail
  refine (R1.out _ S1.out).mono ?_
  rintro e w2 ⟨rfl, b1⟩
  have S2 := Lib.hid (S1.out.later b1)
  have G2 := Lib.hid (G1.out.later b1)
  have B2 := Lib.hid (B1.out.trans (b1.mono B1.out.size))
  clear b1 q1 S1 G1 B1
  go_wp2_with fail
  rw [rounds_succ]
  have q2 := (G2.out.cell 2 : _ = some (Value.int .i64 (k2 : Int)))
  go_wp2_with fail
  refine (R2.out _ S2.out).mono ?_
  rintro e w3 ⟨rfl, b2⟩
  have S3 := Lib.hid (S2.out.later b2)
  have G3 := Lib.hid (G2.out.later b2)
  have B3 := Lib.hid (B2.out.trans (b2.mono B2.out.size))
  clear b2 q2 S2 G2 B2
  go_wp2_with fail
  go_ret
  exact ⟨rfl, B3.out⟩

set_option maxHeartbeats 2000000 in
theorem zero3_3 (a : Option Addr) (len cap : Nat) (bs : List Nat) (g : Nat) (k0 k1 k2 : Nat) (h0 : k0 + 2 ≤ len) (h1 : k1 + 2 ≤ len) (h2 : k2 + 2 ≤ len) (hc : len ≤ cap) (z0 : g2 bs k0 = 0) (z1 : g2 bs k1 = 0) (z2 : g2 bs k2 = 0) (w : World) (hs : Sl w (.slice a len cap) bs) (hg : Has w g (.cells #[.int .i64 (k0 : Int), .int .i64 (k1 : Int), .int .i64 (k2 : Int)] 3 (0, 0))) :
    Calls Try.prog 40 #[.slice a len cap, .slice (some ⟨g, 0, none⟩) 3 3] w fun e w' => e = .returned (.bool true) ∧ Below w.heap.size w w' := by
  have S0 := Lib.hid hs
  have G0 := Lib.hid hg
  have B0 := Lib.hid (Below.refl w.heap.size w)
  have R0 := Lib.hid (fun W hW => get2_any a len cap bs k0 h0 hc W hW)
  rw [z0] at R0
  have R1 := Lib.hid (fun W hW => get2_any a len cap bs k1 h1 hc W hW)
  rw [z1] at R1
  have R2 := Lib.hid (fun W hW => get2_any a len cap bs k2 h2 hc W hW)
  rw [z2] at R2
  clear hs hg h0 h1 h2 hc z0 z1 z2
  go_enter Try.func40, Try.ntmps40
  go_wp2_with fail
  refine wp_loop_rounds 4 ?_
  rw [rounds_succ]
  have q0 := (G0.out.cell 0 : _ = some (Value.int .i64 (k0 : Int)))
  go_wp2_with fail
  refine (R0.out _ S0.out).mono ?_
  rintro e w1 ⟨rfl, b0⟩
  have S1 := Lib.hid (S0.out.later b0)
  have G1 := Lib.hid (G0.out.later b0)
  have B1 := Lib.hid (B0.out.trans (b0.mono B0.out.size))
  clear b0 q0 S0 G0 B0
  go_wp2_with fail
  rw [rounds_succ]
  have q1 := (G1.out.cell 1 : _ = some (Value.int .i64 (k1 : Int)))
  go_wp2_with fail
  refine (R1.out _ S1.out).mono ?_
  rintro e w2 ⟨rfl, b1⟩
  have S2 := Lib.hid (S1.out.later b1)
  have G2 := Lib.hid (G1.out.later b1)
  have B2 := Lib.hid (B1.out.trans (b1.mono B1.out.size))
  clear b1 q1 S1 G1 B1
  go_wp2_with fail
  rw [rounds_succ]
  have q2 := (G2.out.cell 2 : _ = some (Value.int .i64 (k2 : Int)))
  go_wp2_with fail
  refine (R2.out _ S2.out).mono ?_
  rintro e w3 ⟨rfl, b2⟩
  have S3 := Lib.hid (S2.out.later b2)
  have G3 := Lib.hid (G2.out.later b2)
  have B3 := Lib.hid (B2.out.trans (b2.mono B2.out.size))
  clear b2 q2 S2 G2 B2
  go_wp2_with fail
  rw [rounds_succ]
  go_wp2_with fail
  go_ret
  exact ⟨rfl, B3.out⟩

end Go.Proofs.Ytillckjohlbaiaa
