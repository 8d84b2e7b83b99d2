/- Crash of the document's own disk. -/
import Derived.Test.YthbiibinmofmfaaYds
import Derived.Test.YthbiibinmofmfaaEdone

namespace Go.Proofs.Ythbiibinmofmfaa
set_option maxRecDepth 100000
open Go.RowKit

/-- The sectors behind the first k loose writes, of which shares stay. -/
def setK (d : Ek.Dk) (keep : Nat → Int) (k : Nat) : List ByteArray := (List.range d.n).map fun i => strB (Ek.settleTo d.sure d.loose keep k i)
theorem setK_length (d : Ek.Dk) (keep : Nat → Int) (k : Nat) : (setK d keep k).length = d.n := by simp [setK]
theorem setK_get (d : Ek.Dk) (keep : Nat → Int) (k i : Nat) (h : i < d.n) : (setK d keep k)[i]? = some (strB (Ek.settleTo d.sure d.loose keep k i)) := by simp [setK, h]
theorem setK_succ {d : Ek.Dk} {keep : Nat → Int} {k j : Nat} {r : List Nat} (h : d.loose[k]? = some (j, r)) : setK d keep (k + 1) = (setK d keep k).set j (strB (r.take (Ek.share j (keep k)) ++ (Ek.settleTo d.sure d.loose keep k j).drop (Ek.share j (keep k)))) := by
  apply List.ext_getElem?
  intro i
  by_cases hi : i < d.n
  · rw [setK_get _ _ _ _ hi, List.getElem?_set]
    have e : Ek.settleTo d.sure d.loose keep (k + 1) i = if i = j then r.take (Ek.share j (keep k)) ++ (Ek.settleTo d.sure d.loose keep k j).drop (Ek.share j (keep k)) else Ek.settleTo d.sure d.loose keep k i := by
      simp only [Ek.settleTo, h]
      rfl
    rw [e]
    by_cases hij : i = j
    · subst hij
      rw [if_pos rfl, if_pos rfl, if_pos (by rw [setK_length]; exact hi)]
    · rw [if_neg hij, if_neg (fun h => hij h.symm), setK_get _ _ _ _ hi]
  · rw [List.getElem?_eq_none (by rw [setK_length]; omega), List.getElem?_eq_none (by rw [List.length_set, setK_length]; omega)]
theorem yb_data (bs : List Nat) : (strB bs).data.toList = bs.map UInt8.ofNat := by
  unfold strB
  rw [strOfNums_data, List.map_map]
  congr 1
theorem strB_cut (l : List Nat) (a b : Nat) : (strB l).extract a b = strB ((l.drop a).take (b - a)) := by
  apply ByteArray.ext
  apply Array.ext'
  rw [yb_data, ByteArray.data_extract, Array.toList_extract, yb_data, List.extract_eq_take_drop]
  simp [List.map_take, List.map_drop]
end Go.Proofs.Ythbiibinmofmfaa
