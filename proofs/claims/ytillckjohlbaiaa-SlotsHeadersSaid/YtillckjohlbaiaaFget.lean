/- Contracts of Piece, Get2, Get4, Put2, Put4. -/
import Derived.Test.YtillckjohlbaiaaFlay

namespace Go.Proofs.Ytillckjohlbaiaa
set_option maxRecDepth 100000
open Go.RowKit

set_option maxHeartbeats 1000000 in
theorem piece_bad (a : Option Addr) (len cap : Nat) (i k : Int) (h : i < 0 ∨ (len : Int) < i ∨ k < 0) (w : World) :
    Calls Try.prog 108 #[.slice a len cap, .int .i64 i, .int .i64 k] w fun e w' => e = .returned (.tuple #[.slice none 0 0, .int .i64 2]) ∧ w = w' := by
  have H := Lib.hid h
  clear h
  go_enter Try.func108, Try.ntmps108
  go_wp2_with fail
  refine (cut_bad a len cap i k H.out _).mono ?_
  rintro e w2 ⟨rfl, rfl⟩
  go_wp2
  go_ret2
  exact ⟨rfl, rfl⟩

set_option maxHeartbeats 1000000 in
theorem piece_short (a : Option Addr) (len cap : Nat) (i k : Int) (hl : len ≤ 281474976710656) (h0 : 0 ≤ i) (h1 : i ≤ (len : Int)) (h2 : (len : Int) - i < k) (w : World) :
    Calls Try.prog 108 #[.slice a len cap, .int .i64 i, .int .i64 k] w fun e w' => e = .returned (.tuple #[.slice none 0 0, .int .i64 4]) ∧ w = w' := by
  go_enter Try.func108, Try.ntmps108
  go_wp2_with fail
  refine (cut_short a len cap i k hl h0 h1 h2 _).mono ?_
  rintro e w2 ⟨rfl, rfl⟩
  go_wp2
  go_ret2
  exact ⟨rfl, rfl⟩

set_option maxHeartbeats 1000000 in
theorem piece_ok (a : Option Addr) (len cap : Nat) (bs : List Nat) (i k : Nat) (h : i + k ≤ len) (hc : len ≤ cap) (hk : k ≤ 140737488355328) (w : World) (hs : Sl w (.slice a len cap) bs) :
    Calls Try.prog 108 #[.slice a len cap, .int .i64 (i : Int), .int .i64 (k : Int)] w fun e w' => ∃ a' cap', e = .returned (.tuple #[.slice a' k cap', .int .i64 0]) ∧ Mine w' w.heap.size a' k cap' ((bs.drop i).take k) ∧ Below w.heap.size w w' := by
  have HS := Lib.hid hs
  clear hs
  go_enter Try.func108, Try.ntmps108
  go_wp2_with fail
  refine (cut_ok a len cap bs i k h hc _ HS.out).mono ?_
  rintro e w2 ⟨a', rfl, hs2, rfl⟩
  have HS2 := Lib.hid hs2
  clear hs2
  go_wp2_with fail
  refine (clone_walk a' k k _ _ HS2.out hk).mono ?_
  rintro e w2 ⟨a2, cap2, rfl, hm, hb⟩
  have HM := Lib.hid hm
  have HB := Lib.hid hb
  clear hm hb
  go_wp2
  go_ret2
  exact ⟨_, _, rfl, HM.out, HB.out⟩

theorem Mine.weaken {w : World} {B B' : Nat} {a : Option Addr} {n cap : Nat} {l : List Nat} (h : Mine w B a n cap l) (hB : B' ≤ B) : Mine w B' a n cap l := by
  obtain ⟨⟨h1, h2⟩, h3⟩ := h
  refine ⟨⟨h1, ?_⟩, h3⟩
  rcases h2 with h | ⟨g, c, cur, h, hb, r⟩
  · exact Or.inl h
  · exact Or.inr ⟨g, c, cur, h, Nat.le_trans hB hb, r⟩

set_option maxHeartbeats 1000000 in
theorem get2_bad (a : Option Addr) (len cap : Nat) (i : Int) (h : i < 0 ∨ (len : Int) < i) (w : World) :
    Calls Try.prog 130 #[.slice a len cap, .int .i64 i] w fun e w' => e = .returned (.tuple #[.int .i64 0, .int .i64 2]) ∧ w = w' := by
  have H := Lib.hid h
  clear h
  go_enter Try.func130, Try.ntmps130
  go_wp2_with fail
  refine (cut_bad a len cap i 2 (H.out.elim Or.inl (fun h => Or.inr (Or.inl h))) _).mono ?_
  rintro e w2 ⟨rfl, rfl⟩
  go_wp2
  go_ret2
  exact ⟨rfl, rfl⟩

set_option maxHeartbeats 1000000 in
theorem get2_short (a : Option Addr) (len cap : Nat) (i : Int) (hl : len ≤ 281474976710656) (h0 : 0 ≤ i) (h1 : i ≤ (len : Int)) (h2 : (len : Int) - i < 2) (w : World) :
    Calls Try.prog 130 #[.slice a len cap, .int .i64 i] w fun e w' => e = .returned (.tuple #[.int .i64 0, .int .i64 4]) ∧ w = w' := by
  go_enter Try.func130, Try.ntmps130
  go_wp2_with fail
  refine (cut_short a len cap i 2 hl h0 h1 h2 _).mono ?_
  rintro e w2 ⟨rfl, rfl⟩
  go_wp2
  go_ret2
  exact ⟨rfl, rfl⟩

set_option maxHeartbeats 1000000 in
theorem get2_ok (a : Option Addr) (len cap : Nat) (bs : List Nat) (i x y : Nat) (h : i + 2 ≤ len) (hc : len ≤ cap) (hx : (bs.drop i).take 2 = [x, y]) (w : World) (hs : Sl w (.slice a len cap) bs) :
    Calls Try.prog 130 #[.slice a len cap, .int .i64 (i : Int)] w fun e w' => e = .returned (.tuple #[.int .i64 ((x + 256 * y : Nat) : Int), .int .i64 0]) ∧ Below w.heap.size w w' := by
  have HS := Lib.hid hs
  have HX := Lib.hid hx
  clear hs hx
  obtain ⟨v, hv⟩ : ∃ v : Nat, x + 256 * y = v := ⟨_, rfl⟩
  rw [hv]
  have HV := Lib.hid hv
  clear hv
  go_enter Try.func130, Try.ntmps130
  go_wp2_with fail
  refine (cut_ok a len cap bs i 2 h hc _ HS.out).mono ?_
  rintro e w2 ⟨a', rfl, hs2, rfl⟩
  rw [HX.out] at hs2
  have h8 := hs2.bytes
  obtain ⟨a'', len', cap', he, _, _, _, _, hcell⟩ := hs2
  injection he with e1 e2 e3
  subst e1 e2 e3
  obtain ⟨b, off, rfl, hlt, hcl⟩ := hcell (by omega)
  have c0 : w.cell? ⟨b, off, none⟩ = some (.int .u8 (x : Int)) := hcl 0 (by omega)
  have c1 : w.cell? ⟨b, off + 1, none⟩ = some (.int .u8 (y : Int)) := hcl 1 (by omega)
  have Hx8 := Lib.hid (h8 x (by simp))
  have Hy8 := Lib.hid (h8 y (by simp))
  clear hcell hcl h8
  have ha : ∀ W, (Instr.arrayAt 195 (.slice (some ⟨b, off, none⟩) 2 2)).run Try.prog W = .ok (.pointer (some ⟨b, off, none⟩)) W := fun W => run_arrayAt W 195 5 2 _ 2 2 Try.underlying195 (by decide)
  go_wp2_with fail
  refine (read2_walk x y Hx8.out Hy8.out _).mono ?_
  rintro e w2 ⟨rfl, hb⟩
  rw [HV.out]
  have HB := Lib.hid hb
  clear hb
  go_wp2
  go_ret2
  exact ⟨rfl, HB.out⟩

set_option maxHeartbeats 1000000 in
theorem put2_bad (a : Option Addr) (len cap : Nat) (n : Int) (h : n < 0 ∨ 65535 < n) (w : World) :
    Calls Try.prog 124 #[.slice a len cap, .int .i64 n] w fun e w' => e = .returned (.tuple #[.slice none 0 0, .int .i64 2]) ∧ Below w.heap.size w w' := by
  have H := Lib.hid h
  clear h
  go_enter Try.func124, Try.ntmps124
  go_wp2_with fail
  refine (lay2_bad n H.out _).mono ?_
  rintro e w2 ⟨rfl, hb⟩
  have HB := Lib.hid hb
  clear hb
  go_wp2
  go_ret2
  exact ⟨rfl, HB.out.trans ((below1 w2 _).mono HB.out.size)⟩

theorem cells2 (w : World) (x y : Nat) (h : ∀ b ∈ [x, y], b < 256) : Sl (w.alloc (.cells #[.int .u8 (x : Int), .int .u8 (y : Int)] 195)) (.slice (some ⟨w.heap.size, 0, none⟩) 2 2) [x, y] := by
  have hh := Has.new w (.cells #[.int .u8 (x : Int), .int .u8 (y : Int)] 195)
  refine ⟨_, 2, 2, rfl, rfl, by omega, fun h => by simp at h, h, fun _ => ⟨w.heap.size, 0, rfl, hh.lt, fun i hi => ?_⟩⟩
  rw [Nat.zero_add, hh.cell]
  match i, hi with
  | 0, _ => rfl
  | 1, _ => rfl

set_option maxHeartbeats 1000000 in
theorem put2_ok (a : Option Addr) (len cap : Nat) (bs : List Nat) (n : Nat) (hn : n < 65536) (hc : len ≤ cap) (hl : len + 2 ≤ 140737488355328) (w : World) (hs : Sl w (.slice a len cap) bs) :
    Calls Try.prog 124 #[.slice a len cap, .int .i64 (n : Int)] w fun e w' => ∃ a' cap', e = .returned (.tuple #[.slice a' (len + 2) cap', .int .i64 0]) ∧ Mine w' w.heap.size a' (len + 2) cap' (bs ++ [n / 1 % 256, n / 256 % 256]) ∧ Below w.heap.size w w' := by
  have HS := Lib.hid hs
  clear hs
  obtain ⟨x, hx⟩ : ∃ x, x = n / 1 % 256 := ⟨_, rfl⟩
  obtain ⟨y, hy⟩ : ∃ y, y = n / 256 % 256 := ⟨_, rfl⟩
  have h8 : ∀ b ∈ [x, y], b < 256 := by
    intro b hb
    simp only [List.mem_cons, List.not_mem_nil, or_false] at hb
    rcases hb with rfl | rfl
    all_goals omega
  have H8 := Lib.hid h8
  have HL := Lib.hid (lay2_ok n hn)
  rw [← hx, ← hy]
  rw [← hx, ← hy] at HL
  clear h8 hx hy
  go_enter Try.func124, Try.ntmps124
  go_wp2_with fail
  refine (HL.out _).mono ?_
  rintro e w2 ⟨rfl, hb⟩
  have HB := Lib.hid (hb.trans ((below1 w2 (.cells #[.int .u8 (x : Int), .int .u8 (y : Int)] 195)).mono hb.size))
  have S2 := Lib.hid (HS.out.later HB.out)
  have T2 := Lib.hid (cells2 w2 x y H8.out)
  clear hb HL
  go_wp2_with fail
  refine (behind_walk a len cap bs w2.heap.size 2 [x, y] _ S2.out hc T2.out (by omega) hl).mono ?_
  rintro e w3 ⟨a3, cap3, rfl, hm, hb⟩
  have HM := Lib.hid hm
  have HB3 := Lib.hid (HB.out.trans (hb.mono HB.out.size))
  have HZ := Lib.hid HB.out.size
  clear hm hb
  go_wp2
  go_ret2
  exact ⟨_, _, rfl, HM.out.weaken HZ.out, HB3.out⟩

set_option maxHeartbeats 1000000 in
theorem get4_bad (a : Option Addr) (len cap : Nat) (i : Int) (h : i < 0 ∨ (len : Int) < i) (w : World) :
    Calls Try.prog 114 #[.slice a len cap, .int .i64 i] w fun e w' => e = .returned (.tuple #[.int .i64 0, .int .i64 2]) ∧ w = w' := by
  have H := Lib.hid h
  clear h
  go_enter Try.func114, Try.ntmps114
  go_wp2_with fail
  refine (cut_bad a len cap i 4 (H.out.elim Or.inl (fun h => Or.inr (Or.inl h))) _).mono ?_
  rintro e w2 ⟨rfl, rfl⟩
  go_wp2
  go_ret2
  exact ⟨rfl, rfl⟩

set_option maxHeartbeats 1000000 in
theorem get4_short (a : Option Addr) (len cap : Nat) (i : Int) (hl : len ≤ 281474976710656) (h0 : 0 ≤ i) (h1 : i ≤ (len : Int)) (h2 : (len : Int) - i < 4) (w : World) :
    Calls Try.prog 114 #[.slice a len cap, .int .i64 i] w fun e w' => e = .returned (.tuple #[.int .i64 0, .int .i64 4]) ∧ w = w' := by
  go_enter Try.func114, Try.ntmps114
  go_wp2_with fail
  refine (cut_short a len cap i 4 hl h0 h1 h2 _).mono ?_
  rintro e w2 ⟨rfl, rfl⟩
  go_wp2
  go_ret2
  exact ⟨rfl, rfl⟩

set_option maxHeartbeats 1000000 in
theorem get4_ok (a : Option Addr) (len cap : Nat) (bs : List Nat) (i x y z u : Nat) (h : i + 4 ≤ len) (hc : len ≤ cap) (hx : (bs.drop i).take 4 = [x, y, z, u]) (w : World) (hs : Sl w (.slice a len cap) bs) :
    Calls Try.prog 114 #[.slice a len cap, .int .i64 (i : Int)] w fun e w' => e = .returned (.tuple #[.int .i64 ((x + 256 * y + 65536 * z + 16777216 * u : Nat) : Int), .int .i64 0]) ∧ Below w.heap.size w w' := by
  have HS := Lib.hid hs
  have HX := Lib.hid hx
  clear hs hx
  obtain ⟨v, hv⟩ : ∃ v : Nat, x + 256 * y + 65536 * z + 16777216 * u = v := ⟨_, rfl⟩
  rw [hv]
  have HV := Lib.hid hv
  clear hv
  go_enter Try.func114, Try.ntmps114
  go_wp2_with fail
  refine (cut_ok a len cap bs i 4 h hc _ HS.out).mono ?_
  rintro e w2 ⟨a', rfl, hs2, rfl⟩
  rw [HX.out] at hs2
  have h8 := hs2.bytes
  obtain ⟨a'', len', cap', he, _, _, _, _, hcell⟩ := hs2
  injection he with e1 e2 e3
  subst e1 e2 e3
  obtain ⟨b, off, rfl, hlt, hcl⟩ := hcell (by omega)
  have c0 : w.cell? ⟨b, off, none⟩ = some (.int .u8 (x : Int)) := hcl 0 (by omega)
  have c1 : w.cell? ⟨b, off + 1, none⟩ = some (.int .u8 (y : Int)) := hcl 1 (by omega)
  have c2 : w.cell? ⟨b, off + 2, none⟩ = some (.int .u8 (z : Int)) := hcl 2 (by omega)
  have c3 : w.cell? ⟨b, off + 3, none⟩ = some (.int .u8 (u : Int)) := hcl 3 (by omega)
  have Hx8 := Lib.hid (h8 x (by simp))
  have Hy8 := Lib.hid (h8 y (by simp))
  have Hz8 := Lib.hid (h8 z (by simp))
  have Hu8 := Lib.hid (h8 u (by simp))
  clear hcell hcl h8
  have ha : ∀ W, (Instr.arrayAt 194 (.slice (some ⟨b, off, none⟩) 4 4)).run Try.prog W = .ok (.pointer (some ⟨b, off, none⟩)) W := fun W => run_arrayAt W 194 5 4 _ 4 4 Try.underlying194 (by decide)
  go_wp2_with fail
  refine (read4_walk x y z u Hx8.out Hy8.out Hz8.out Hu8.out _).mono ?_
  rintro e w2 ⟨rfl, hb⟩
  rw [HV.out]
  have HB := Lib.hid hb
  clear hb
  go_wp2
  go_ret2
  exact ⟨rfl, HB.out⟩

set_option maxHeartbeats 1000000 in
theorem put4_bad (a : Option Addr) (len cap : Nat) (n : Int) (h : n < 0 ∨ 4294967295 < n) (w : World) :
    Calls Try.prog 125 #[.slice a len cap, .int .i64 n] w fun e w' => e = .returned (.tuple #[.slice none 0 0, .int .i64 2]) ∧ Below w.heap.size w w' := by
  have H := Lib.hid h
  clear h
  go_enter Try.func125, Try.ntmps125
  go_wp2_with fail
  refine (lay4_bad n H.out _).mono ?_
  rintro e w2 ⟨rfl, hb⟩
  have HB := Lib.hid hb
  clear hb
  go_wp2
  go_ret2
  exact ⟨rfl, HB.out.trans ((below1 w2 _).mono HB.out.size)⟩

theorem cells4 (w : World) (x y z u : Nat) (h : ∀ b ∈ [x, y, z, u], b < 256) : Sl (w.alloc (.cells #[.int .u8 (x : Int), .int .u8 (y : Int), .int .u8 (z : Int), .int .u8 (u : Int)] 194)) (.slice (some ⟨w.heap.size, 0, none⟩) 4 4) [x, y, z, u] := by
  have hh := Has.new w (.cells #[.int .u8 (x : Int), .int .u8 (y : Int), .int .u8 (z : Int), .int .u8 (u : Int)] 194)
  refine ⟨_, 4, 4, rfl, rfl, by omega, fun h => by simp at h, h, fun _ => ⟨w.heap.size, 0, rfl, hh.lt, fun i hi => ?_⟩⟩
  rw [Nat.zero_add, hh.cell]
  match i, hi with
  | 0, _ => rfl
  | 1, _ => rfl
  | 2, _ => rfl
  | 3, _ => rfl

set_option maxHeartbeats 1000000 in
theorem put4_ok (a : Option Addr) (len cap : Nat) (bs : List Nat) (n : Nat) (hn : n < 4294967296) (hc : len ≤ cap) (hl : len + 4 ≤ 140737488355328) (w : World) (hs : Sl w (.slice a len cap) bs) :
    Calls Try.prog 125 #[.slice a len cap, .int .i64 (n : Int)] w fun e w' => ∃ a' cap', e = .returned (.tuple #[.slice a' (len + 4) cap', .int .i64 0]) ∧ Mine w' w.heap.size a' (len + 4) cap' (bs ++ [n / 1 % 256, n / 256 % 256, n / 65536 % 256, n / 16777216 % 256]) ∧ Below w.heap.size w w' := by
  have HS := Lib.hid hs
  clear hs
  obtain ⟨x, hx⟩ : ∃ x, x = n / 1 % 256 := ⟨_, rfl⟩
  obtain ⟨y, hy⟩ : ∃ y, y = n / 256 % 256 := ⟨_, rfl⟩
  obtain ⟨z, hz⟩ : ∃ z, z = n / 65536 % 256 := ⟨_, rfl⟩
  obtain ⟨u, hu⟩ : ∃ u, u = n / 16777216 % 256 := ⟨_, rfl⟩
  have h8 : ∀ b ∈ [x, y, z, u], b < 256 := by
    intro b hb
    simp only [List.mem_cons, List.not_mem_nil, or_false] at hb
    rcases hb with rfl | rfl | rfl | rfl
    all_goals omega
  have H8 := Lib.hid h8
  have HL := Lib.hid (lay4_ok n hn)
  rw [← hx, ← hy, ← hz, ← hu]
  rw [← hx, ← hy, ← hz, ← hu] at HL
  clear h8 hx hy hz hu
  go_enter Try.func125, Try.ntmps125
  go_wp2_with fail
  refine (HL.out _).mono ?_
  rintro e w2 ⟨rfl, hb⟩
  have HB := Lib.hid (hb.trans ((below1 w2 (.cells #[.int .u8 (x : Int), .int .u8 (y : Int), .int .u8 (z : Int), .int .u8 (u : Int)] 194)).mono hb.size))
  have S2 := Lib.hid (HS.out.later HB.out)
  have T2 := Lib.hid (cells4 w2 x y z u H8.out)
  clear hb HL
  go_wp2_with fail
  refine (behind_walk a len cap bs w2.heap.size 4 [x, y, z, u] _ S2.out hc T2.out (by omega) hl).mono ?_
  rintro e w3 ⟨a3, cap3, rfl, hm, hb⟩
  have HM := Lib.hid hm
  have HB3 := Lib.hid (HB.out.trans (hb.mono HB.out.size))
  have HZ := Lib.hid HB.out.size
  clear hm hb
  go_wp2
  go_ret2
  exact ⟨_, _, rfl, HM.out.weaken HZ.out, HB3.out⟩

end Go.Proofs.Ytillckjohlbaiaa
