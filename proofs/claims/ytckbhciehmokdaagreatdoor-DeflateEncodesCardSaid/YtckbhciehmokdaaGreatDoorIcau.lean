import Derived.Test.YtckbhciehmokdaaGreatDoorIcop
import Derived.Test.YtckbhciehmokdaaGreatDoorItake
import Derived.Test.YtckbhciehmokdaaGreatDoorHrget
import Derived.Test.YtckbhciehmokdaaGreatDoorIfix
import Derived.Test.YtckbhciehmokdaaGreatDoorIas2

namespace Go.Proofs.YtckbhciehmokdaaGreatDoor
set_option maxRecDepth 100000
set_option maxHeartbeats 8000000
open Go.RowKit
def placeOf (R : Nat) (w : World) : Nat := match w.cell? ⟨R, 2, none⟩ with | some v => (intOf v).toNat | none => 0
theorem St.place {K : Nat -> Prop} {R : Nat} {s : Value} {l : List Bool} {N most : Nat} {w : World} {r : Rv} (h : St K R s l N most w r) : placeOf R w = r.p := by
 obtain ⟨tv, hx, _, _⟩ := h.has
 obtain ⟨_, _, c2, _⟩ := rdi_cells hx
 unfold placeOf
 rw [c2]
 simp [intOf]
namespace If
theorem syms_succ (l : List Bool) (lit dist : List Nat) (most k : Nat) (out : List Nat) (p y q : Nat) (c : Int) (hr : Hd.rd lit l p = (y, q, c)) :
  syms l lit dist most (k + 1) out p = if c ≠ 0 then ([], 0, c) else if y = 256 then (out, q, 0) else
   if 256 < y then (if (copy l dist most y q out).2.2 ≠ 0 then ([], 0, (copy l dist most y q out).2.2) else syms l lit dist most k (copy l dist most y q out).1 (copy l dist most y q out).2.1) else
   if most <= out.length then ([], 0, 3) else syms l lit dist most k (out ++ [y]) q := by
 simp only [syms]
 rw [hr]
end If
end Go.Proofs.YtckbhciehmokdaaGreatDoor
namespace Go.Proofs.YtckbhciehmokdaaGreatDoor
set_option maxRecDepth 100000
set_option maxHeartbeats 8000000
open Go.RowKit
namespace If
end If
end Go.Proofs.YtckbhciehmokdaaGreatDoor
namespace Go.Proofs.YtckbhciehmokdaaGreatDoor
set_option maxRecDepth 100000
set_option maxHeartbeats 8000000
open Go.RowKit
theorem newE_fixL : newE (Hd.zz If.fixL) = 0 := by decide +kernel
theorem newE_fixD : newE (Hd.zz If.fixD) = 0 := by decide +kernel
end Go.Proofs.YtckbhciehmokdaaGreatDoor
