import Derived.Test.YtmgpcbjciioiaaaGreatDoorKlen
import Derived.Defers
import Derived.Recover
import Derived.LaidEql
import Derived.Stop.Asserts
import Derived.RowKitTokens
namespace Go.Proofs.YtmgpcbjciioiaaaGreatDoor
set_option maxRecDepth 100000
set_option maxHeartbeats 8000000
open Go.RowKit Go.Extern.Stop Go.Stop Go.Extern
def GlobE (w : World) : Prop := w.cell? ⟨0,0,none⟩ = some (.iface 228 (.agg #[.pointer (some ⟨2,136,none⟩)]))
theorem GlobE.lt {w : World} (h : GlobE w) : 0 < w.heap.size := by
 unfold GlobE at h
 rcases Nat.lt_or_ge 0 w.heap.size with h0 | h0
 ·exact h0
 ·rw [World.cell?,Array.getElem?_eq_none h0] at h; cases h
theorem GlobE.later {w w' : World} (h : GlobE w) (hb : Below w.heap.size w w') : GlobE w' := by
 have hl := GlobE.lt h
 unfold GlobE at h ⊢
 rw [hb.cell (p := ⟨0,0,none⟩) hl]; exact h
end Go.Proofs.YtmgpcbjciioiaaaGreatDoor
