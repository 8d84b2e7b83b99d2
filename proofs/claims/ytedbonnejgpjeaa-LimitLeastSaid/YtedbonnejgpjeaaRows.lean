/-
  No cell of these rows narrows 'for every input' (looked for: loops, veiled, ifaces, maps, wideKeys, modest, calm, conditions, laid).
  DERIVED. THE GIVEN ROWS OF THIS SEAT. 6 by the template 'for every input the law returns true; each argument reads behind the call as it read before'; 0 by the template 'total and deterministic' (their statements: YtedbonnejgpjeaaTotals.lean).
  GIVEN WITH THE SEED: the statements are not yours to turn. If you find one false, say at which input.
  Laid BY PROGRAM, IN A SANDBOX (cutbox-rows.mjs): the forced cells as the released guide's own fill.sh prints them over the translation 5344500f89197b82… (all of the seat's roots in one cut). By AI agents, Wed Nov 11 2026. No macro, syntax, notation, axiom, sorry.
-/
import Derived.Test.YtedbonnejgpjeaaChecked
import GoSem.Claim
import GoSem.ClaimJoined
import GoSem.ClaimMapViews
import Derived.JoinedTies
import Derived.KernelRfl
namespace Go.Proofs.Ytedbonnejgpjeaa
/- THE CELL 'sum', in the pinned program and in every row, IS THE sha256 OF THE DUMP (.gsa) THAT YtedbonnejgpjeaaProg.lean LOADS. Nothing in Lean hashes anything: it is a label: what it is worth is what the hold of that sum in a sandbox is worth. -/
noncomputable def Try.pinned : Pinned := { name := "ytedbonnejgpjeaa", sum := "5344500f89197b8251cef120a39e4cfe3763876bd1fbb066458bebd7f0670f96", checked := Try.checked }
namespace Rows
def none {H : Type} : Left H := { results := [], args := [] }

/-- 'valiselaw05.LimitLengths': WHATEVER THE INPUT: true; the input reads as it did. -/
def limitLengthsSpec : ChangeSpec := { name := "limitLengths", fn := fun _ => fun
  | [d1, d2] => { results := [.lit (.bool true)], args := [d1, d2] }
  | _ => none }
def limitLengthsRow : OpenClaim := { program := "ytedbonnejgpjeaa", sum := "5344500f89197b8251cef120a39e4cfe3763876bd1fbb066458bebd7f0670f96", func := "valise/valiselaw05.LimitLengths", spec := "limitLengths", unfollowed := true, recurses := true, apart := false }
def LimitLengthsSaid : Prop := limitLengthsRow.holds Try.pinned (OpenSpec.ofChange limitLengthsSpec)

/-- ITS FALSE NEIGHBOUR: 'it returns false'. Refute it at one input. -/
def limitLengthsWrong : ChangeSpec := { name := "limitLengths", fn := fun _ => fun
  | [d1, d2] => { results := [.lit (.bool false)], args := [d1, d2] }
  | _ => none }
def LimitLengthsWrongFalsely : Prop := limitLengthsRow.holds Try.pinned (OpenSpec.ofChange limitLengthsWrong)

/-- 'valiselaw05.LimitCosts': WHATEVER THE INPUT: true; the input reads as it did. -/
def limitCostsSpec : ChangeSpec := { name := "limitCosts", fn := fun _ => fun
  | [d1, d2] => { results := [.lit (.bool true)], args := [d1, d2] }
  | _ => none }
def limitCostsRow : OpenClaim := { program := "ytedbonnejgpjeaa", sum := "5344500f89197b8251cef120a39e4cfe3763876bd1fbb066458bebd7f0670f96", func := "valise/valiselaw05.LimitCosts", spec := "limitCosts", unfollowed := true, recurses := true, apart := false }
def LimitCostsSaid : Prop := limitCostsRow.holds Try.pinned (OpenSpec.ofChange limitCostsSpec)

/-- ITS FALSE NEIGHBOUR: 'it returns false'. Refute it at one input. -/
def limitCostsWrong : ChangeSpec := { name := "limitCosts", fn := fun _ => fun
  | [d1, d2] => { results := [.lit (.bool false)], args := [d1, d2] }
  | _ => none }
def LimitCostsWrongFalsely : Prop := limitCostsRow.holds Try.pinned (OpenSpec.ofChange limitCostsWrong)

/-- 'valiselaw05.LimitOrder': WHATEVER THE INPUT: true; the input reads as it did. -/
def limitOrderSpec : ChangeSpec := { name := "limitOrder", fn := fun _ => fun
  | [d1, d2] => { results := [.lit (.bool true)], args := [d1, d2] }
  | _ => none }
def limitOrderRow : OpenClaim := { program := "ytedbonnejgpjeaa", sum := "5344500f89197b8251cef120a39e4cfe3763876bd1fbb066458bebd7f0670f96", func := "valise/valiselaw05.LimitOrder", spec := "limitOrder", unfollowed := true, recurses := true, apart := false }
def LimitOrderSaid : Prop := limitOrderRow.holds Try.pinned (OpenSpec.ofChange limitOrderSpec)

/-- ITS FALSE NEIGHBOUR: 'it returns false'. Refute it at one input. -/
def limitOrderWrong : ChangeSpec := { name := "limitOrder", fn := fun _ => fun
  | [d1, d2] => { results := [.lit (.bool false)], args := [d1, d2] }
  | _ => none }
def LimitOrderWrongFalsely : Prop := limitOrderRow.holds Try.pinned (OpenSpec.ofChange limitOrderWrong)

/-- 'valiselaw05.LimitRoom': WHATEVER THE INPUT: true; the input reads as it did. -/
def limitRoomSpec : ChangeSpec := { name := "limitRoom", fn := fun _ => fun
  | [d1, d2] => { results := [.lit (.bool true)], args := [d1, d2] }
  | _ => none }
def limitRoomRow : OpenClaim := { program := "ytedbonnejgpjeaa", sum := "5344500f89197b8251cef120a39e4cfe3763876bd1fbb066458bebd7f0670f96", func := "valise/valiselaw05.LimitRoom", spec := "limitRoom", unfollowed := true, recurses := true, apart := false }
def LimitRoomSaid : Prop := limitRoomRow.holds Try.pinned (OpenSpec.ofChange limitRoomSpec)

/-- ITS FALSE NEIGHBOUR: 'it returns false'. Refute it at one input. -/
def limitRoomWrong : ChangeSpec := { name := "limitRoom", fn := fun _ => fun
  | [d1, d2] => { results := [.lit (.bool false)], args := [d1, d2] }
  | _ => none }
def LimitRoomWrongFalsely : Prop := limitRoomRow.holds Try.pinned (OpenSpec.ofChange limitRoomWrong)

/-- 'valiselaw05.LimitLeast': WHATEVER THE INPUT: true; the input reads as it did. -/
def limitLeastSpec : ChangeSpec := { name := "limitLeast", fn := fun _ => fun
  | [d1, d2, d3] => { results := [.lit (.bool true)], args := [d1, d2, d3] }
  | _ => none }
def limitLeastRow : OpenClaim := { program := "ytedbonnejgpjeaa", sum := "5344500f89197b8251cef120a39e4cfe3763876bd1fbb066458bebd7f0670f96", func := "valise/valiselaw05.LimitLeast", spec := "limitLeast", unfollowed := true, recurses := true, apart := false }
def LimitLeastSaid : Prop := limitLeastRow.holds Try.pinned (OpenSpec.ofChange limitLeastSpec)

/-- ITS FALSE NEIGHBOUR: 'it returns false'. Refute it at one input. -/
def limitLeastWrong : ChangeSpec := { name := "limitLeast", fn := fun _ => fun
  | [d1, d2, d3] => { results := [.lit (.bool false)], args := [d1, d2, d3] }
  | _ => none }
def LimitLeastWrongFalsely : Prop := limitLeastRow.holds Try.pinned (OpenSpec.ofChange limitLeastWrong)

/-- 'valiselaw05.LimitAlike': WHATEVER THE INPUT: true; the input reads as it did. -/
def limitAlikeSpec : ChangeSpec := { name := "limitAlike", fn := fun _ => fun
  | [d1, d2, d3] => { results := [.lit (.bool true)], args := [d1, d2, d3] }
  | _ => none }
def limitAlikeRow : OpenClaim := { program := "ytedbonnejgpjeaa", sum := "5344500f89197b8251cef120a39e4cfe3763876bd1fbb066458bebd7f0670f96", func := "valise/valiselaw05.LimitAlike", spec := "limitAlike", unfollowed := true, recurses := true, apart := false }
def LimitAlikeSaid : Prop := limitAlikeRow.holds Try.pinned (OpenSpec.ofChange limitAlikeSpec)

/-- ITS FALSE NEIGHBOUR: 'it returns false'. Refute it at one input. -/
def limitAlikeWrong : ChangeSpec := { name := "limitAlike", fn := fun _ => fun
  | [d1, d2, d3] => { results := [.lit (.bool false)], args := [d1, d2, d3] }
  | _ => none }
def LimitAlikeWrongFalsely : Prop := limitAlikeRow.holds Try.pinned (OpenSpec.ofChange limitAlikeWrong)

/- THE SECOND FORM. 'bulk': how many values and letters a reading holds, each counted each time it is reached (what is shared counts as often as it is met; a slice's spare places count too). A statement '..UptoSaid' is the law's where the arguments, and the package variables that the reading takes, are together of bulk at most 1048576: NARROWER than '..Said'. Prove '..Said' where nothing that the law and all that it calls make is longer than what came in: it says more and counts as full. Else prove '..UptoSaid'. A law counts once. -/
mutual
def uptoBulk {H : Type} : DataW H → Nat
  | .lit (.string bytes) => bytes.length + 1
  | .lit _ => 1
  | .nil => 1
  | .ptr d => uptoBulk d + 1
  | .slice elems spare => uptoBulkAll elems + uptoBulkAll spare + 1
  | .agg parts => uptoBulkAll parts + 1
  | .iface _ d => uptoBulk d + 1
  | .map entries => uptoBulkEntries entries + 1
  | .held _ => 1
def uptoBulkAll {H : Type} : List (DataW H) → Nat
  | [] => 0
  | d :: r => uptoBulk d + uptoBulkAll r
def uptoBulkEntries {H : Type} : List (Lit × DataW H) → Nat
  | [] => 0
  | x :: r => uptoBulkEntry x + uptoBulkEntries r
def uptoBulkEntry {H : Type} : Lit × DataW H → Nat
  | (.string bytes, d) => bytes.length + uptoBulk d + 1
  | (_, d) => uptoBulk d + 1
 end
def uptoSmall : (H : Type) → List (DataW H) → Bool := fun _ ds => decide (uptoBulkAll ds ≤ 1048576)
def OpenSpec.upto (s : _root_.Go.ChangeSpec) : _root_.Go.OpenSpec := { _root_.Go.OpenSpec.ofChange s with cond := some uptoSmall }

/-- 'valiselaw05.LimitLengths', WHERE WHAT IT READS IS OF BULK AT MOST 1048576: true; the input reads as it did. -/
def limitLengthsUptoRow : OpenClaim := { program := "ytedbonnejgpjeaa", sum := "5344500f89197b8251cef120a39e4cfe3763876bd1fbb066458bebd7f0670f96", func := "valise/valiselaw05.LimitLengths", spec := "limitLengths", unfollowed := true, recurses := true, apart := false, narrowed := true }
def LimitLengthsUptoSaid : Prop := limitLengthsUptoRow.holds Try.pinned (OpenSpec.upto limitLengthsSpec)

/-- 'valiselaw05.LimitCosts', WHERE WHAT IT READS IS OF BULK AT MOST 1048576: true; the input reads as it did. -/
def limitCostsUptoRow : OpenClaim := { program := "ytedbonnejgpjeaa", sum := "5344500f89197b8251cef120a39e4cfe3763876bd1fbb066458bebd7f0670f96", func := "valise/valiselaw05.LimitCosts", spec := "limitCosts", unfollowed := true, recurses := true, apart := false, narrowed := true }
def LimitCostsUptoSaid : Prop := limitCostsUptoRow.holds Try.pinned (OpenSpec.upto limitCostsSpec)

/-- 'valiselaw05.LimitOrder', WHERE WHAT IT READS IS OF BULK AT MOST 1048576: true; the input reads as it did. -/
def limitOrderUptoRow : OpenClaim := { program := "ytedbonnejgpjeaa", sum := "5344500f89197b8251cef120a39e4cfe3763876bd1fbb066458bebd7f0670f96", func := "valise/valiselaw05.LimitOrder", spec := "limitOrder", unfollowed := true, recurses := true, apart := false, narrowed := true }
def LimitOrderUptoSaid : Prop := limitOrderUptoRow.holds Try.pinned (OpenSpec.upto limitOrderSpec)

/-- 'valiselaw05.LimitRoom', WHERE WHAT IT READS IS OF BULK AT MOST 1048576: true; the input reads as it did. -/
def limitRoomUptoRow : OpenClaim := { program := "ytedbonnejgpjeaa", sum := "5344500f89197b8251cef120a39e4cfe3763876bd1fbb066458bebd7f0670f96", func := "valise/valiselaw05.LimitRoom", spec := "limitRoom", unfollowed := true, recurses := true, apart := false, narrowed := true }
def LimitRoomUptoSaid : Prop := limitRoomUptoRow.holds Try.pinned (OpenSpec.upto limitRoomSpec)

/-- 'valiselaw05.LimitLeast', WHERE WHAT IT READS IS OF BULK AT MOST 1048576: true; the input reads as it did. -/
def limitLeastUptoRow : OpenClaim := { program := "ytedbonnejgpjeaa", sum := "5344500f89197b8251cef120a39e4cfe3763876bd1fbb066458bebd7f0670f96", func := "valise/valiselaw05.LimitLeast", spec := "limitLeast", unfollowed := true, recurses := true, apart := false, narrowed := true }
def LimitLeastUptoSaid : Prop := limitLeastUptoRow.holds Try.pinned (OpenSpec.upto limitLeastSpec)

/-- 'valiselaw05.LimitAlike', WHERE WHAT IT READS IS OF BULK AT MOST 1048576: true; the input reads as it did. -/
def limitAlikeUptoRow : OpenClaim := { program := "ytedbonnejgpjeaa", sum := "5344500f89197b8251cef120a39e4cfe3763876bd1fbb066458bebd7f0670f96", func := "valise/valiselaw05.LimitAlike", spec := "limitAlike", unfollowed := true, recurses := true, apart := false, narrowed := true }
def LimitAlikeUptoSaid : Prop := limitAlikeUptoRow.holds Try.pinned (OpenSpec.upto limitAlikeSpec)

end Rows
end Go.Proofs.Ytedbonnejgpjeaa
