/- A slice of bytes as a string. -/
import Derived.Test.YtillckjohlbaiaaMem
import Derived.Laws.BytesArg
import Derived.Laws.BytesString

namespace Go.Proofs.Ytillckjohlbaiaa
set_option maxRecDepth 100000
open Go.RowKit

/-- A row of bytes as a string. -/
def strB (bs : List Nat) : ByteArray := strOfNums (bs.map fun (x : Nat) => (x : Int))

/-- string(b), whatever the slice. -/
theorem run_string {P : Program} (w : World) (src dst e : TypeId) (hs : P.underlying src = some (.slice e)) (he : P.underlying e = some (.int .u8)) (hd : P.underlying dst = some .string) (a : Option Addr) (len cap : Nat) (bs : List Nat) (h : Sl w (.slice a len cap) bs) :
    (convert src dst (.slice a len cap)).run P w = .ok (.string (strB bs)) w := by
  obtain ⟨a', len', cap', he', h1, h2, h3, h4, h5⟩ := h
  injection he' with e1 e2 e3
  subst e1 e2 e3
  by_cases h0 : 0 < len
  · obtain ⟨b, off, rfl, hlt, hc⟩ := h5 h0
    refine run_convert_bytes_arg w src e hs he b off len cap (bs.map fun (x : Nat) => (x : Int)) (by rw [List.length_map, h1]) (fun i hi => ?_) dst hd
    rw [hc i hi]
    simp [List.getD, List.getElem?_eq_getElem (show i < bs.length by omega)]
  · obtain rfl : len = 0 := by omega
    obtain rfl : bs = [] := List.eq_nil_of_length_eq_zero h1.symm
    cases a with
    | none => exact run_convert_bytes_nil w src e hs he 0 cap dst hd
    | some p =>
      have hl : (loadCells p 0).run P w = .ok (([] : List Int).map (Value.int .u8)).toArray w := by
        have := run_loadCells_list (P := P) w p [] (fun j v hj => by simp at hj)
        simpa using this
      rw [run_convert_bytes_string w src dst e _ 0 cap hs he hd, run_bytesToString w p 0 cap [] hl]
      rfl

theorem string_of (w : World) (a : Option Addr) (len cap : Nat) (bs : List Nat) (S : ByteArray) (h : Sl w (.slice a len cap) bs) (hS : Hid (S = strB bs)) : (convert 22 9 (.slice a len cap)).run Try.prog w = .ok (.string S) w := by
  rw [hS.out]
  exact run_string w 22 9 5 Try.underlying22 Try.underlying5 Try.underlying9 a len cap bs h

theorem strB_size (a : List Nat) : (strB a).size = a.length := by unfold strB; rw [strOfNums_size, List.length_map]
theorem strB_append (a b : List Nat) : strB (a ++ b) = strB a ++ strB b := by
  apply ByteArray.ext
  rw [ByteArray.data_append]
  simp [strB, strOfNums]
end Go.Proofs.Ytillckjohlbaiaa
