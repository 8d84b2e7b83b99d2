/- Contracts of what the statements themselves call: own and kept. -/
import Derived.Test.YtillckjohlbaiaaFref
import Derived.Laws.BytesArg
import Derived.Laws.BytesString

namespace Go.Proofs.Ytillckjohlbaiaa
set_option maxRecDepth 100000
open Go.RowKit

/-- A row of bytes as a string. -/
def strB (bs : List Nat) : ByteArray := strOfNums (bs.map fun (x : Nat) => (x : Int))

/-- string(b), whatever the slice. -/
theorem run_string {P : Program} (w : World) (src dst e : TypeId) (hs : P.underlying src = some (.slice e)) (he : P.underlying e = some (.int .u8)) (hd : P.underlying dst = some .string) (a : Option Addr) (len cap : Nat) (bs : List Nat) (h : Sl w (.slice a len cap) bs) :
    (convert src dst (.slice a len cap)).run P w = .ok (.string (strB bs)) w := by
  obtain ⟨a', len', cap', he', h1, h2, h3, h4, h5⟩ := h
  injection he' with e1 e2 e3
  subst e1 e2 e3
  by_cases h0 : 0 < len
  · obtain ⟨b, off, rfl, hlt, hc⟩ := h5 h0
    refine run_convert_bytes_arg w src e hs he b off len cap (bs.map fun (x : Nat) => (x : Int)) (by rw [List.length_map, h1]) (fun i hi => ?_) dst hd
    rw [hc i hi]
    simp [List.getD, List.getElem?_eq_getElem (show i < bs.length by omega)]
  · obtain rfl : len = 0 := by omega
    obtain rfl : bs = [] := List.eq_nil_of_length_eq_zero h1.symm
    cases a with
    | none => exact run_convert_bytes_nil w src e hs he 0 cap dst hd
    | some p =>
      have hl : (loadCells p 0).run P w = .ok (([] : List Int).map (Value.int .u8)).toArray w := by
        have := run_loadCells_list (P := P) w p [] (fun j v hj => by simp at hj)
        simpa using this
      rw [run_convert_bytes_string w src dst e _ 0 cap hs he hd, run_bytesToString w p 0 cap [] hl]
      rfl

theorem string_of (w : World) (a : Option Addr) (len cap : Nat) (bs : List Nat) (S : ByteArray) (h : Sl w (.slice a len cap) bs) (hS : Hid (S = strB bs)) : (convert 22 9 (.slice a len cap)).run Try.prog w = .ok (.string S) w := by
  rw [hS.out]
  exact run_string w 22 9 5 Try.underlying22 Try.underlying5 Try.underlying9 a len cap bs h

theorem own_form {w : World} {base : Nat} {e : TypeId} {size : Nat} {v : Value} {n : Nat} {xs : List Value} (h : w.ownsRow base e size v (n + 1) xs) : ∃ g cap, v = .slice (some ⟨g, 0, none⟩) (n + 1) cap ∧ n + 1 ≤ cap ∧ base ≤ g := by
  rcases h.2 with ⟨_, h⟩ | ⟨g, cap, cur, rfl, hb, _, hc, _⟩
  · omega
  · exact ⟨_, _, rfl, hc, hb⟩

/-- A slice with a byte 0x77 behind its end, in a block of its own. -/
def Lent (w : World) (g len cap : Nat) (bs : List Nat) : Prop :=
  Sl w (.slice (some ⟨g, 0, none⟩) len cap) bs ∧ len + 1 ≤ cap ∧ g < w.heap.size ∧ w.cell? ⟨g, len, none⟩ = some (.int .u8 119)

theorem Lent.later {w w' : World} {g len cap : Nat} {bs : List Nat} (h : Lent w g len cap bs) (hb : Below w.heap.size w w') : Lent w' g len cap bs :=
  ⟨h.1.later hb, h.2.1, Nat.lt_of_lt_of_le h.2.2.1 hb.size, (hb.cell (p := ⟨g, len, none⟩) h.2.2.1).trans h.2.2.2⟩

theorem own_lent {w : World} {base g c len : Nat} {bs : List Nat} (h : w.ownsRow base 5 1 (.slice (some ⟨g, 0, none⟩) (len + 1) c) (len + 1) (vb (bs ++ [119]))) (hl : len = bs.length) (h8 : ∀ x ∈ bs, x < 256) (hc : len + 1 ≤ c) (hle : len ≤ 281474976710656) : Lent w g len c bs := by
  have hcell : ∀ j, j < len + 1 → w.cell? ⟨g, j, none⟩ = (vb (bs ++ [119]))[j]? := fun j hj => h.cellAt j (by omega)
  have e119 : (vb (bs ++ [119]))[len]? = some (.int .u8 119) := by
    rw [vb_get, List.getElem?_append_right (by omega), hl, Nat.sub_self]
    rfl
  have hlt : g < w.heap.size := by
    have := hcell len (by omega)
    rw [e119] at this
    exact World.block_lt_of_cell? w _ this
  refine ⟨⟨_, len, c, rfl, hl, hle, fun h => by simp at h, h8, fun _ => ⟨g, 0, rfl, hlt, fun i hi => ?_⟩⟩, hc, hlt, ?_⟩
  · rw [Nat.zero_add, hcell i (by omega), vb_get, List.getElem?_append_left (by omega), List.getElem?_eq_getElem (by omega)]
    rfl
  · rw [hcell len (by omega), e119]

end Go.Proofs.Ytillckjohlbaiaa
