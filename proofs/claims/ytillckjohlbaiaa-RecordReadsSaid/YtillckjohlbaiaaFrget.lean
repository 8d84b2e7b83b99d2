/- Contract of the document's Get. -/
import Derived.Test.YtillckjohlbaiaaFref

namespace Go.Proofs.Ytillckjohlbaiaa
set_option maxRecDepth 100000
open Go.RowKit

set_option maxHeartbeats 1000000 in
theorem rget_bad (a : Option Addr) (len cap k : Nat) (i : Int) (h : i < 0 ∨ (len : Int) < i) (w : World) :
    Calls Try.prog 64 #[.slice a len cap, .int .i64 i, .int .i64 (k : Int)] w fun e w' => e = .returned (.tuple #[.int .i64 0, .int .i64 2]) ∧ w = w' := by
  have H := Lib.hid h
  clear h
  go_enter Try.func64, Try.ntmps64
  go_wp2_with fail
  refine (rpiece_bad a len cap i k (H.out.elim Or.inl (fun h => Or.inr (Or.inl h))) _).mono ?_
  rintro e w2 ⟨rfl, rfl⟩
  go_wp2
  go_ret2
  exact ⟨rfl, rfl⟩

set_option maxHeartbeats 1000000 in
theorem rget_short (a : Option Addr) (len cap k : Nat) (i : Int) (hl : len ≤ 281474976710656) (h0 : 0 ≤ i) (h1 : i ≤ (len : Int)) (h2 : (len : Int) - i < (k : Int)) (w : World) :
    Calls Try.prog 64 #[.slice a len cap, .int .i64 i, .int .i64 (k : Int)] w fun e w' => e = .returned (.tuple #[.int .i64 0, .int .i64 4]) ∧ w = w' := by
  go_enter Try.func64, Try.ntmps64
  go_wp2_with fail
  refine (rpiece_short a len cap i k hl h0 h1 h2 _).mono ?_
  rintro e w2 ⟨rfl, rfl⟩
  go_wp2
  go_ret2
  exact ⟨rfl, rfl⟩

set_option maxHeartbeats 2000000 in
theorem rget2_ok (a : Option Addr) (len cap : Nat) (bs : List Nat) (i x y : Nat) (h : i + 2 ≤ len) (hc : len ≤ cap) (hx : (bs.drop i).take 2 = [x, y]) (w : World) (hs : Sl w (.slice a len cap) bs) :
    Calls Try.prog 64 #[.slice a len cap, .int .i64 (i : Int), .int .i64 2] w fun e w' => e = .returned (.tuple #[.int .i64 ((x + 256 * y : Nat) : Int), .int .i64 0]) ∧ Below w.heap.size w w' := by
  have HS := Lib.hid hs
  have HX := Lib.hid hx
  clear hs hx
  obtain ⟨v0, hv0⟩ : ∃ v : Nat, 256 * y + x = v := ⟨_, rfl⟩
  have hv : x + 256 * y = v0 := by omega
  rw [hv]
  have HV0 := Lib.hid hv0
  clear hv hv0
  go_enter Try.func64, Try.ntmps64
  go_wp2_with fail
  refine (rpiece_ok a len cap bs i 2 h hc (by omega) _ HS.out).mono ?_
  rintro e w2 ⟨g, cap2, rfl, hm, hb⟩
  have hs2 := hm.sl (by omega)
  rw [HX.out] at hs2
  have HB := Lib.hid hb
  have h8 := hs2.bytes
  obtain ⟨a'', len', cap', he, _, _, _, _, hcell⟩ := hs2
  injection he with e1 e2 e3
  subst e1 e2 e3
  obtain ⟨b, off, hbo, _, hcl⟩ := hcell (by omega)
  injection hbo with hbo
  injection hbo with hb1 hb2 hb3
  subst hb1 hb2
  have c0 : w2.cell? ⟨g, 0, none⟩ = some (.int .u8 (x : Int)) := hcl 0 (by omega)
  have c1 : w2.cell? ⟨g, 1, none⟩ = some (.int .u8 (y : Int)) := hcl 1 (by omega)
  have gx : x < 256 := h8 x (by simp)
  have gy : y < 256 := h8 y (by simp)
  have q0 := HV0.out
  have F0 : IntKind.i64.wrap (256 * (y : Int)) = 256 * (y : Int) := IntWalk.i64_in _ (by omega)
  have E0 : IntKind.i64.wrap (256 * (y : Int) + (x : Int)) = (v0 : Int) := by rw [IntWalk.i64_in _ (by omega)]; omega
  clear hm hb hcell hcl h8 q0
  go_wp2_with fail
  refine wp_loop_rounds 3 ?_
  rw [rounds_succ]
  go_wp2_with fail
  rw [rounds_succ]
  go_wp2_with fail
  rw [rounds_succ]
  go_wp2_with fail
  go_ret2
  exact ⟨rfl, HB.out⟩

set_option maxHeartbeats 2000000 in
theorem rget4_ok (a : Option Addr) (len cap : Nat) (bs : List Nat) (i x y z u : Nat) (h : i + 4 ≤ len) (hc : len ≤ cap) (hx : (bs.drop i).take 4 = [x, y, z, u]) (w : World) (hs : Sl w (.slice a len cap) bs) :
    Calls Try.prog 64 #[.slice a len cap, .int .i64 (i : Int), .int .i64 4] w fun e w' => e = .returned (.tuple #[.int .i64 ((x + 256 * y + 65536 * z + 16777216 * u : Nat) : Int), .int .i64 0]) ∧ Below w.heap.size w w' := by
  have HS := Lib.hid hs
  have HX := Lib.hid hx
  clear hs hx
  obtain ⟨v2, hv2⟩ : ∃ v : Nat, 256 * u + z = v := ⟨_, rfl⟩
  obtain ⟨v1, hv1⟩ : ∃ v : Nat, 256 * v2 + y = v := ⟨_, rfl⟩
  obtain ⟨v0, hv0⟩ : ∃ v : Nat, 256 * v1 + x = v := ⟨_, rfl⟩
  have hv : x + 256 * y + 65536 * z + 16777216 * u = v0 := by omega
  rw [hv]
  have HV0 := Lib.hid hv0
  have HV1 := Lib.hid hv1
  have HV2 := Lib.hid hv2
  clear hv hv0 hv1 hv2
  go_enter Try.func64, Try.ntmps64
  go_wp2_with fail
  refine (rpiece_ok a len cap bs i 4 h hc (by omega) _ HS.out).mono ?_
  rintro e w2 ⟨g, cap2, rfl, hm, hb⟩
  have hs2 := hm.sl (by omega)
  rw [HX.out] at hs2
  have HB := Lib.hid hb
  have h8 := hs2.bytes
  obtain ⟨a'', len', cap', he, _, _, _, _, hcell⟩ := hs2
  injection he with e1 e2 e3
  subst e1 e2 e3
  obtain ⟨b, off, hbo, _, hcl⟩ := hcell (by omega)
  injection hbo with hbo
  injection hbo with hb1 hb2 hb3
  subst hb1 hb2
  have c0 : w2.cell? ⟨g, 0, none⟩ = some (.int .u8 (x : Int)) := hcl 0 (by omega)
  have c1 : w2.cell? ⟨g, 1, none⟩ = some (.int .u8 (y : Int)) := hcl 1 (by omega)
  have c2 : w2.cell? ⟨g, 2, none⟩ = some (.int .u8 (z : Int)) := hcl 2 (by omega)
  have c3 : w2.cell? ⟨g, 3, none⟩ = some (.int .u8 (u : Int)) := hcl 3 (by omega)
  have gx : x < 256 := h8 x (by simp)
  have gy : y < 256 := h8 y (by simp)
  have gz : z < 256 := h8 z (by simp)
  have gu : u < 256 := h8 u (by simp)
  have q2 := HV2.out
  have F2 : IntKind.i64.wrap (256 * (u : Int)) = 256 * (u : Int) := IntWalk.i64_in _ (by omega)
  have E2 : IntKind.i64.wrap (256 * (u : Int) + (z : Int)) = (v2 : Int) := by rw [IntWalk.i64_in _ (by omega)]; omega
  have q1 := HV1.out
  have F1 : IntKind.i64.wrap (256 * (v2 : Int)) = 256 * (v2 : Int) := IntWalk.i64_in _ (by omega)
  have E1 : IntKind.i64.wrap (256 * (v2 : Int) + (y : Int)) = (v1 : Int) := by rw [IntWalk.i64_in _ (by omega)]; omega
  have q0 := HV0.out
  have F0 : IntKind.i64.wrap (256 * (v1 : Int)) = 256 * (v1 : Int) := IntWalk.i64_in _ (by omega)
  have E0 : IntKind.i64.wrap (256 * (v1 : Int) + (x : Int)) = (v0 : Int) := by rw [IntWalk.i64_in _ (by omega)]; omega
  clear hm hb hcell hcl h8 q0 q1 q2
  go_wp2_with fail
  refine wp_loop_rounds 5 ?_
  rw [rounds_succ]
  go_wp2_with fail
  rw [rounds_succ]
  go_wp2_with fail
  rw [rounds_succ]
  go_wp2_with fail
  rw [rounds_succ]
  go_wp2_with fail
  rw [rounds_succ]
  go_wp2_with fail
  go_ret2
  exact ⟨rfl, HB.out⟩

end Go.Proofs.Ytillckjohlbaiaa
