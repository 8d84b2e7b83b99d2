/- Contracts of number and piece. -/
import Derived.Test.YtillckjohlbaiaaNsrc

namespace Go.Proofs.Ytillckjohlbaiaa
set_option maxRecDepth 100000
open Go.RowKit

set_option maxHeartbeats 1000000 in
theorem number_fault (R : Nat) (t : TypeId) (b : Value) (pl f : Int) (F : List Int) (wd : Int) (hf : (f != 0) = true) (w : World) (h : Rs w R t b pl f F) :
    Calls Try.prog 106 #[.pointer (some ⟨R, 0, none⟩), .int .i64 wd] w fun x w' => x = .returned (.int .i64 0) ∧ w = w' := by
  obtain ⟨c0, c1, c2⟩ := h.cells
  clear h
  go_enter Try.func106, Try.ntmps106
  go_wp2
  go_ret
  exact ⟨rfl, rfl⟩

set_option maxHeartbeats 1000000 in
theorem piece_fault (R : Nat) (t : TypeId) (b : Value) (pl f : Int) (F : List Int) (n : Int) (hf : (f != 0) = true) (w : World) (h : Rs w R t b pl f F) :
    Calls Try.prog 76 #[.pointer (some ⟨R, 0, none⟩), .int .i64 n] w fun x w' => x = .returned (.slice none 0 0) ∧ w = w' := by
  obtain ⟨c0, c1, c2⟩ := h.cells
  clear h
  go_enter Try.func76, Try.ntmps76
  go_wp2
  go_ret
  exact ⟨rfl, rfl⟩

set_option maxHeartbeats 2000000 in
theorem number_ok (R : Nat) (t : TypeId) (a : Option Addr) (len cap : Nat) (bs : List Nat) (p : Nat) (F : List Int) (wd : Nat) (hw : wd = 2 ∨ wd = 4) (hp : p + wd ≤ len) (w : World) (hs : Sb w R a len cap bs) (h : Rs w R t (.slice a len cap) (p : Int) 0 F) :
    Calls Try.prog 106 #[.pointer (some ⟨R, 0, none⟩), .int .i64 (wd : Int)] w fun x w' => x = .returned (.int .i64 ((nm ((bs.drop p).take wd) : Nat) : Int)) ∧ Rs w' R t (.slice a len cap) ((p + wd : Nat) : Int) 0 F ∧ Lo R 1 w w' := by
  have hl := hs.1.len.2.1
  have H0 := Lib.hid h
  obtain ⟨g0, g1, g2⟩ := h.cells
  have HQ := Lib.hid (fun W hS => wget_ok wd hw a len cap bs p hp hs.2.1 W hS)
  have HS := Lib.hid hs.1
  have HR := Lib.hid (fun W e pl hW => refuse_first R t (.slice a len cap) pl F e W hW)
  have E : IntKind.i64.wrap ((p : Int) + (wd : Int)) = ((p + wd : Nat) : Int) := by rw [IntWalk.i64_in _ (by omega)]; omega
  obtain ⟨q, hq⟩ : ∃ q, q = p + wd := ⟨_, rfl⟩
  rw [← hq] at E ⊢
  generalize nm ((bs.drop p).take wd) = v at *
  clear h hs hl hw hp hq
  go_enter Try.func106, Try.ntmps106
  go_wp2_with fail
  have H := Lib.hid (H0.out.later (Below.refl _ _).drew)
  have HSd := Lib.hid (HS.out.later (Below.refl _ _).drew)
  obtain ⟨c0, c1, c2⟩ := H.out.cells
  go_region_held3 (fun w' => w'.cell? ⟨R, 0, none⟩ = some (.slice a len cap) ∧ w'.cell? ⟨R, 1, none⟩ = some (.int .i64 (p : Int))) ((first | (exact ⟨c0, c1⟩) | (exact ⟨d0, d1⟩))) (first | (go_at_call 120; refine (HQ.out _ HSd.out).mono ?_; rintro e w1 ⟨rfl, hb1⟩; have H1 := Lib.hid (H.out.later hb1); have B1 := Lib.hid hb1; obtain ⟨d0, d1, d2⟩ := H1.out.cells; clear hb1))
  go_wp2_with fail
  refine (HR.out _ _ _ H1.out).mono ?_
  rintro e w2 ⟨rfl, hr2, hl2, hz2⟩
  have R2 := Lib.hid hr2
  have L2 := Lib.hid ((Lo.of_below (A := w) ((Below.refl w.heap.size w).drew.trans B1.out)).trans hl2)
  obtain ⟨e0, e1, e2⟩ := hr2.cells
  have f1 := hr2.free 1
  clear hr2 hl2 H H1 B1 HQ HSd HR d0 d1 d2 c0 c1 c2 g0 g1 g2 hz2
  go_wp2
  go_ret
  exact ⟨rfl, R2.out.place _, L2.out.trans (Lo.setCell _ _ _ _)⟩

set_option maxHeartbeats 2000000 in
theorem piece_good (R : Nat) (t : TypeId) (a : Option Addr) (len cap : Nat) (bs : List Nat) (p : Nat) (F : List Int) (n : Nat) (hn : n ≤ 65535) (hp : p + n ≤ len) (w : World) (hs : Sb w R a len cap bs) (h : Rs w R t (.slice a len cap) (p : Int) 0 F) :
    Calls Try.prog 76 #[.pointer (some ⟨R, 0, none⟩), .int .i64 (n : Int)] w fun x w' => ∃ a' cap', x = .returned (.slice a' n cap') ∧ Sl w' (.slice a' n cap') ((bs.drop p).take n) ∧ Rs w' R t (.slice a len cap) ((p + n : Nat) : Int) 0 F ∧ Lo R 1 w w' := by
  have hl := hs.1.len.2.1
  have H0 := Lib.hid h
  have HLT := Lib.hid (Has.lt h)
  obtain ⟨g0, g1, g2⟩ := h.cells
  have HQ := Lib.hid (fun W hS => piece_ok a len cap bs p n hp hs.2.1 (by omega) W hS)
  have HS := Lib.hid hs.1
  have HR := Lib.hid (fun W e pl hW => refuse_first R t (.slice a len cap) pl F e W hW)
  have E : IntKind.i64.wrap ((p : Int) + (n : Int)) = ((p + n : Nat) : Int) := by rw [IntWalk.i64_in _ (by omega)]; omega
  have HN : Hid (n ≤ 281474976710656) := by show _ ≤ _; omega
  obtain ⟨q, hq⟩ : ∃ q, q = p + n := ⟨_, rfl⟩
  rw [← hq] at E ⊢
  generalize (bs.drop p).take n = v at *
  clear h hs hl hn hp hq
  go_enter Try.func76, Try.ntmps76
  go_wp2_with fail
  have H := Lib.hid (H0.out.later (Below.refl _ _).drew)
  have HSd := Lib.hid (HS.out.later (Below.refl _ _).drew)
  obtain ⟨c0, c1, c2⟩ := H.out.cells
  go_region_held3 (fun w' => w'.cell? ⟨R, 0, none⟩ = some (.slice a len cap) ∧ w'.cell? ⟨R, 1, none⟩ = some (.int .i64 (p : Int))) ((first | (exact ⟨c0, c1⟩) | (exact ⟨d0, d1⟩))) (first | (go_at_call 108; refine (HQ.out _ HSd.out).mono ?_; rintro e w1 ⟨a1, cap1, rfl, hm1, hb1⟩; have H1 := Lib.hid (H.out.later hb1); have B1 := Lib.hid hb1; have M1 := Lib.hid hm1; obtain ⟨d0, d1, d2⟩ := H1.out.cells; clear hb1 hm1))
  go_wp2_with fail
  refine (HR.out _ _ _ H1.out).mono ?_
  rintro e w2 ⟨rfl, hr2, hl2, hz2⟩
  have R2 := Lib.hid hr2
  have M2 := Lib.hid ((M1.out.weaken (Nat.succ_le_of_lt HLT.out)).lo hl2 (Nat.le_refl _))
  have L2 := Lib.hid ((Lo.of_below (A := w) ((Below.refl w.heap.size w).drew.trans B1.out)).trans hl2)
  obtain ⟨e0, e1, e2⟩ := hr2.cells
  have f1 := hr2.free 1
  clear hr2 hl2 H H1 B1 M1 HQ HSd HR d0 d1 d2 c0 c1 c2 g0 g1 g2 hz2
  go_wp2
  go_ret
  exact ⟨_, _, rfl, (M2.out.lo (Lo.setCell _ _ _ _) (Nat.le_refl _)).sl HN.out, R2.out.place _, L2.out.trans (Lo.setCell _ _ _ _)⟩

set_option maxHeartbeats 2000000 in
theorem piece_far (R : Nat) (t : TypeId) (a : Option Addr) (len cap : Nat) (p : Nat) (F : List Int) (n : Nat) (hn : n ≤ 65535) (hl : len ≤ 281474976710656) (hp : p ≤ len) (hq : len < p + n) (w : World) (h : Rs w R t (.slice a len cap) (p : Int) 0 F) :
    Calls Try.prog 76 #[.pointer (some ⟨R, 0, none⟩), .int .i64 (n : Int)] w fun x w' => x = .returned (.slice none 0 0) ∧ Rs w' R t (.slice a len cap) ((p + n : Nat) : Int) 4 F ∧ Lo R 1 w w' := by
  have H0 := Lib.hid h
  obtain ⟨g0, g1, g2⟩ := h.cells
  have HQ := Lib.hid (fun W => piece_short a len cap p n hl (by omega) (by omega) (by omega) W)
  have HR := Lib.hid (fun W e pl hW => refuse_first R t (.slice a len cap) pl F e W hW)
  have E : IntKind.i64.wrap ((p : Int) + (n : Int)) = ((p + n : Nat) : Int) := by rw [IntWalk.i64_in _ (by omega)]; omega
  obtain ⟨q, hq2⟩ : ∃ q, q = p + n := ⟨_, rfl⟩
  rw [← hq2] at E ⊢
  clear h hl hn hp hq hq2
  go_enter Try.func76, Try.ntmps76
  go_wp2_with fail
  have H := Lib.hid (H0.out.later (Below.refl _ _).drew)
  obtain ⟨c0, c1, c2⟩ := H.out.cells
  go_region_held3 (fun w' => w'.cell? ⟨R, 0, none⟩ = some (.slice a len cap) ∧ w'.cell? ⟨R, 1, none⟩ = some (.int .i64 (p : Int))) ((first | (exact ⟨c0, c1⟩))) (first | (go_at_call 108; refine (HQ.out _).mono ?_; rintro e w1 ⟨rfl, rfl⟩))
  go_wp2_with fail
  refine (HR.out _ _ _ H.out).mono ?_
  rintro e w2 ⟨rfl, hr2, hl2, hz2⟩
  have R2 := Lib.hid hr2
  have L2 := Lib.hid ((Lo.of_below (A := w) (Below.refl w.heap.size w).drew).trans hl2)
  obtain ⟨e0, e1, e2⟩ := hr2.cells
  have f1 := hr2.free 1
  clear hr2 hl2 H HQ HR c0 c1 c2 g0 g1 g2 hz2
  go_wp2
  go_ret
  exact ⟨rfl, R2.out.place _, L2.out.trans (Lo.setCell _ _ _ _)⟩
end Go.Proofs.Ytillckjohlbaiaa
