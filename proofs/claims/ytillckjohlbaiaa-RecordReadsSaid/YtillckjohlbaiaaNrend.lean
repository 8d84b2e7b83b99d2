/- Contract of the document's ReadEnd. -/
import Derived.Test.YtillckjohlbaiaaNzero
import Derived.Test.YtillckjohlbaiaaNlives

namespace Go.Proofs.Ytillckjohlbaiaa
set_option maxRecDepth 100000
open Go.RowKit

theorem drop_sl {w : World} {a : Option Addr} {len cap : Nat} {bs : List Nat} (h : Sl w (.slice a len cap) bs) (k m c : Nat) (hm : len = k + m) (h0 : m ≠ 0) : Sl w (.slice (Option.map (fun x => x.add k) a) m c) (bs.drop k) := by
  have := h.cut k m (by omega) h0 c
  rwa [List.take_of_length_le (by rw [List.length_drop, ← h.len.1]; omega)] at this

end Go.Proofs.Ytillckjohlbaiaa
