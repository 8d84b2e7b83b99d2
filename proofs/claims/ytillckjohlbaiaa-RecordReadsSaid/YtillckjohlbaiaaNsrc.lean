/- Contracts of what all readers have: refuse, need, number, piece. -/
import Derived.Test.YtillckjohlbaiaaNput

namespace Go.Proofs.Ytillckjohlbaiaa
set_option maxRecDepth 100000
open Go.RowKit

/-- Block R holds a reader: bytes, a place, a fault, the numbers behind. -/
def Rs (w : World) (R : Nat) (t : TypeId) (b : Value) (pl f : Int) (F : List Int) : Prop := Has w R (.cells (b :: .int .i64 pl :: .int .i64 f :: F.map (Value.int .i64)).toArray t (0, 0))

theorem Rs.cells {w : World} {R : Nat} {t : TypeId} {b : Value} {pl f : Int} {F : List Int} (h : Rs w R t b pl f F) : w.cell? ⟨R, 0, none⟩ = some b ∧ w.cell? ⟨R, 1, none⟩ = some (.int .i64 pl) ∧ w.cell? ⟨R, 2, none⟩ = some (.int .i64 f) :=
  ⟨Has.cell h 0, Has.cell h 1, Has.cell h 2⟩
theorem Rs.free {w : World} {R : Nat} {t : TypeId} {b : Value} {pl f : Int} {F : List Int} (h : Rs w R t b pl f F) (i : Nat) : w.frozen? ⟨R, i, none⟩ = false := Has.free h i
theorem Rs.field {w : World} {R : Nat} {t : TypeId} {b : Value} {pl f : Int} {F : List Int} (h : Rs w R t b pl f F) (k : Nat) (hk : k < F.length) : w.cell? ⟨R, 3 + k, none⟩ = some (.int .i64 (F[k]?.getD 0)) := by
  rw [Has.cell h, List.getElem?_toArray, Nat.add_comm 3 k]
  simp [List.getElem?_eq_getElem hk]
theorem Rs.place {w : World} {R : Nat} {t : TypeId} {b : Value} {pl f : Int} {F : List Int} (h : Rs w R t b pl f F) (q : Int) : Rs (w.setCell ⟨R, 1, none⟩ (.int .i64 q)) R t b q f F := by
  have := Has.setSelf (i := 1) h (.int .i64 q)
  rw [List.setIfInBounds_toArray] at this
  exact this
theorem Rs.fault {w : World} {R : Nat} {t : TypeId} {b : Value} {pl f : Int} {F : List Int} (h : Rs w R t b pl f F) (q : Int) : Rs (w.setCell ⟨R, 2, none⟩ (.int .i64 q)) R t b pl q F := by
  have := Has.setSelf (i := 2) h (.int .i64 q)
  rw [List.setIfInBounds_toArray] at this
  exact this
theorem Rs.put {w : World} {R : Nat} {t : TypeId} {b : Value} {pl f : Int} {F : List Int} (h : Rs w R t b pl f F) (k : Nat) (q : Int) : Rs (w.setCell ⟨R, 3 + k, none⟩ (.int .i64 q)) R t b pl f (F.set k q) := by
  have := Has.setSelf (i := 3 + k) h (.int .i64 q)
  rw [List.setIfInBounds_toArray, Nat.add_comm 3 k] at this
  unfold Rs
  rw [List.map_set, Nat.add_comm 3 k]
  exact this
theorem Rs.later {w w' : World} {R : Nat} {t : TypeId} {b : Value} {pl f : Int} {F : List Int} (h : Rs w R t b pl f F) (hb : Below w.heap.size w w') : Rs w' R t b pl f F := Has.later h hb
theorem Lo.setCell (w : World) (R i : Nat) (v : Value) : Lo R 1 w (w.setCell ⟨R, i, none⟩ v) :=
  ⟨rfl, rfl, rfl, by simp [World.setCell], fun k _ hk => Below.heap_setCell _ _ _ _ (by show k ≠ R; omega)⟩

/-- The bytes that a reader reads: in a block ahead of its own. -/
def Sb (w : World) (R : Nat) (a : Option Addr) (len cap : Nat) (bs : List Nat) : Prop := Sl w (.slice a len cap) bs ∧ len ≤ cap ∧ ∀ ad, 0 < len → a = some ad → ad.block < R
theorem Sb.lo {w w' : World} {R : Nat} {a : Option Addr} {len cap : Nat} {bs : List Nat} (h : Sb w R a len cap bs) (hl : Lo R 1 w w') : Sb w' R a len cap bs := by
  obtain ⟨⟨a', len', cap', he, h1, h2, h3, h4, h5⟩, h6, h7⟩ := h
  injection he with e1 e2 e3
  subst e1 e2 e3
  refine ⟨⟨_, _, _, rfl, h1, h2, h3, h4, fun hn => ?_⟩, h6, h7⟩
  obtain ⟨b', off, e, hlt, hc⟩ := h5 hn
  refine ⟨b', off, e, Nat.lt_of_lt_of_le hlt hl.size, fun i hi => ?_⟩
  have hb := h7 _ hn e
  have : w'.heap[b']? = w.heap[b']? := hl.block b' hlt (Or.inl hb)
  simp only [World.cell?, this]
  exact hc i hi

set_option maxHeartbeats 1000000 in
theorem refuse_first (R : Nat) (t : TypeId) (b : Value) (pl : Int) (F : List Int) (e : Int) (w : World) (h : Rs w R t b pl 0 F) :
    Calls Try.prog 75 #[.pointer (some ⟨R, 0, none⟩), .int .i64 e] w fun x w' => x = .returned (.tuple #[]) ∧ Rs w' R t b pl e F ∧ Lo R 1 w w' ∧ w'.heap.size = w.heap.size := by
  have H := Lib.hid h
  obtain ⟨c0, c1, c2⟩ := h.cells
  have f2 := h.free 2
  clear h
  go_enter Try.func75, Try.ntmps75
  go_wp2
  exact ⟨rfl, .tuple #[], by simp [results, Try.results75, go_sem], rfl, H.out.fault e, Lo.setCell w R 2 _, by simp [World.setCell]⟩

set_option maxHeartbeats 1000000 in
theorem refuse_more (R : Nat) (t : TypeId) (b : Value) (pl f : Int) (F : List Int) (e : Int) (hf : (f == 0) = false) (w : World) (h : Rs w R t b pl f F) :
    Calls Try.prog 75 #[.pointer (some ⟨R, 0, none⟩), .int .i64 e] w fun x w' => x = .returned (.tuple #[]) ∧ w = w' := by
  obtain ⟨c0, c1, c2⟩ := h.cells
  clear h
  go_enter Try.func75, Try.ntmps75
  go_wp2
  exact ⟨rfl, .tuple #[], by simp [results, Try.results75, go_sem], rfl, rfl⟩

/-- What is wrong with a piece of n bytes at a place. -/
def pe (len : Nat) (i : Int) (n : Nat) : Int := if i < 0 ∨ (len : Int) < i then 2 else if (len : Int) - i < (n : Int) then 4 else 0

set_option maxHeartbeats 2000000 in
theorem need_any (R : Nat) (t : TypeId) (a : Option Addr) (len cap : Nat) (bs : List Nat) (i : Int) (F : List Int) (n : Nat) (hn : n ≤ 1000) (w : World) (hs : Sb w R a len cap bs) (h : Rs w R t (.slice a len cap) i 0 F) :
    Calls Try.prog 105 #[.pointer (some ⟨R, 0, none⟩), .int .i64 (n : Int)] w fun x w' => x = .returned (.tuple #[]) ∧ Rs w' R t (.slice a len cap) i (pe len i n) F ∧ Lo R 1 w w' := by
  have hl := hs.1.len.2.1
  have hq : ∀ W, Sl W (.slice a len cap) bs → Calls Try.prog 108 #[.slice a len cap, .int .i64 i, .int .i64 (n : Int)] W fun e w' => ∃ v, e = .returned (.tuple #[v, .int .i64 (pe len i n)]) ∧ Below W.heap.size W w' := by
    intro W hS
    unfold pe
    by_cases h1 : i < 0 ∨ (len : Int) < i
    · rw [if_pos h1]
      exact (piece_bad a len cap i n (h1.elim Or.inl (fun h => Or.inr (Or.inl h))) W).mono (fun e w' ⟨he, hw⟩ => ⟨_, he, by subst hw; exact Below.refl _ _⟩)
    · rw [if_neg h1]
      by_cases h2 : (len : Int) - i < (n : Int)
      · rw [if_pos h2]
        exact (piece_short a len cap i n hl (by omega) (by omega) h2 W).mono (fun e w' ⟨he, hw⟩ => ⟨_, he, by subst hw; exact Below.refl _ _⟩)
      · rw [if_neg h2]
        obtain ⟨j, rfl⟩ : ∃ j : Nat, i = (j : Int) := ⟨i.toNat, by omega⟩
        exact (piece_ok a len cap bs j n (by omega) hs.2.1 (by omega) W hS).mono (fun e w' ⟨a', c', he, _, hb⟩ => ⟨_, he, hb⟩)
  have HQ := Lib.hid (hq w.drew (hs.1.later (Below.refl _ _).drew))
  have H := Lib.hid (h.later (Below.refl _ _).drew)
  obtain ⟨c0, c1, c2⟩ := H.out.cells
  have HR := Lib.hid (fun W e hW => refuse_first R t (.slice a len cap) i F e W hW)
  generalize pe len i n = E at *
  clear h hs hl hq hn
  go_enter Try.func105, Try.ntmps105
  go_wp2_with fail
  go_region_held3 (fun w' => w'.cell? ⟨R, 0, none⟩ = some (.slice a len cap) ∧ w'.cell? ⟨R, 1, none⟩ = some (.int .i64 i)) ((first | (exact ⟨c0, c1⟩) | (exact ⟨d0, d1⟩))) (first | (go_at_call 108; refine HQ.out.mono ?_; rintro e w1 ⟨v, rfl, hb1⟩; have H1 := Lib.hid (H.out.later hb1); have B1 := Lib.hid hb1; obtain ⟨d0, d1, d2⟩ := H1.out.cells; clear hb1))
  go_wp2_with fail
  refine (HR.out _ _ H1.out).mono ?_
  rintro e w2 ⟨rfl, hr2, hl2, hz2⟩
  have R2 := Lib.hid hr2
  have L2 := Lib.hid hl2
  clear hr2 hl2
  go_wp2
  exact ⟨rfl, .tuple #[], by simp [results, Try.results105, go_sem], rfl, R2.out, (Lo.of_below ((Below.refl _ _).drew.trans B1.out)).trans L2.out⟩
end Go.Proofs.Ytillckjohlbaiaa
