/-
  NARROWER THAN 'FOR EVERY INPUT', by the rows' own cells (each row's printed sentence says how): InflateDecodes: laid · InflateBlocks: laid · InflateUsed: laid · InflateMost: laid · InflateStored: laid · InflateCodes: laid.
  DERIVED. THE GIVEN ROWS OF THIS SEAT. 6 by the template 'for every input the law returns true; each argument reads behind the call as it read before'; 0 by the template 'total and deterministic' (their statements: YtgbojpakddjhlaaGreatDoorTotals.lean).
  GIVEN WITH THE SEED: the statements are not yours to turn. If you find one false, say at which input.
  Laid BY PROGRAM, IN A SANDBOX (cutbox-rows.mjs): the forced cells as the released guide's own fill.sh prints them over the translation f5c97631b794d447… (all of the seat's roots in one cut). By AI agents, Wed Nov 11 2026. No macro, syntax, notation, axiom, sorry.
-/
import Derived.Test.YtgbojpakddjhlaaGreatDoorChecked
import GoSem.Claim
import GoSem.ClaimJoined
import GoSem.ClaimMapViews
import Derived.JoinedTies
import Derived.KernelRfl
namespace Go.Proofs.YtgbojpakddjhlaaGreatDoor
/- THE CELL 'sum', in the pinned program and in every row, IS THE sha256 OF THE DUMP (.gsa) THAT YtgbojpakddjhlaaGreatDoorProg.lean LOADS. Nothing in Lean hashes anything: it is a label: what it is worth is what the hold of that sum in a sandbox is worth. -/
noncomputable def Tryz.pinned : Pinned := { name := "ytgbojpakddjhlaagreatdoor", sum := "f5c97631b794d447d0a9c355d044760af36d189e47a3b7b9a7e428a6e8514a48", checked := Tryz.checked }
namespace Rows
def none {H : Type} : Left H := { results := [], args := [] }

/- WHAT THE LISTED PACKAGE-LEVEL VARIABLES READ AS WHEN THE CALL BEGINS. Each datum BY PROGRAM (the guide's laid-datum.mjs) off the statement by which the dump's own 'gosem.cut.vars' lays the variable. In a bare row this is a premise. The card (YtgbojpakddjhlaaGreatDoorCards.lean) ties it to the program's text. -/
def laid_errors_errorType {H : Type} : DataW H := .iface "internal/reflectlite.rtype" (.agg [.ptr (.lit (.string [101, 114, 114, 111, 114]))])
def laid_valise_header_order {H : Type} : DataW H := .agg [.lit (.int .i64 16), .lit (.int .i64 17), .lit (.int .i64 18), .lit (.int .i64 0), .lit (.int .i64 8), .lit (.int .i64 7), .lit (.int .i64 9), .lit (.int .i64 6), .lit (.int .i64 10), .lit (.int .i64 5), .lit (.int .i64 11), .lit (.int .i64 4), .lit (.int .i64 12), .lit (.int .i64 3), .lit (.int .i64 13), .lit (.int .i64 2), .lit (.int .i64 14), .lit (.int .i64 1), .lit (.int .i64 15)]

/-- 'valiselaw09.InflateDecodes': WHATEVER THE INPUT: true; the input reads as it did. -/
def inflateDecodesSpec : ChangeSpec := { name := "inflateDecodes", fn := fun _ => fun
  | [d1, d2] => { results := [.lit (.bool true)], args := [d1, d2] }
  | _ => none }
def inflateDecodesRow : OpenClaim := { program := "ytgbojpakddjhlaagreatdoor", sum := "f5c97631b794d447d0a9c355d044760af36d189e47a3b7b9a7e428a6e8514a48", func := "valise/valiselaw09.InflateDecodes", spec := "inflateDecodes", inPlace := ["internal/reflectlite.ValueOf", "(internal/reflectlite.Value).Type", "(internal/reflectlite.Value).IsNil", "internal/reflectlite.TypeOf", "(internal/reflectlite.Value).Elem", "(internal/reflectlite.Value).Set"], unfollowed := true, recurses := true, named := ["valise/header.order", "errors.errorType"], apart := false, laid := [("errors.errorType", laid_errors_errorType), ("valise/header.order", laid_valise_header_order)] }
def InflateDecodesSaid : Prop := inflateDecodesRow.holds Tryz.pinned (OpenSpec.ofChange inflateDecodesSpec)

/-- ITS FALSE NEIGHBOUR: 'it returns false'. Refute it at one input. -/
def inflateDecodesWrong : ChangeSpec := { name := "inflateDecodes", fn := fun _ => fun
  | [d1, d2] => { results := [.lit (.bool false)], args := [d1, d2] }
  | _ => none }
def InflateDecodesWrongFalsely : Prop := inflateDecodesRow.holds Tryz.pinned (OpenSpec.ofChange inflateDecodesWrong)

/-- 'valiselaw09.InflateBlocks': WHATEVER THE INPUT: true; the input reads as it did. -/
def inflateBlocksSpec : ChangeSpec := { name := "inflateBlocks", fn := fun _ => fun
  | [d1, d2, d3, d4] => { results := [.lit (.bool true)], args := [d1, d2, d3, d4] }
  | _ => none }
def inflateBlocksRow : OpenClaim := { program := "ytgbojpakddjhlaagreatdoor", sum := "f5c97631b794d447d0a9c355d044760af36d189e47a3b7b9a7e428a6e8514a48", func := "valise/valiselaw09.InflateBlocks", spec := "inflateBlocks", inPlace := ["internal/reflectlite.ValueOf", "(internal/reflectlite.Value).Type", "(internal/reflectlite.Value).IsNil", "internal/reflectlite.TypeOf", "(internal/reflectlite.Value).Elem", "(internal/reflectlite.Value).Set"], unfollowed := true, recurses := true, named := ["valise/header.order", "errors.errorType"], apart := false, laid := [("errors.errorType", laid_errors_errorType), ("valise/header.order", laid_valise_header_order)] }
def InflateBlocksSaid : Prop := inflateBlocksRow.holds Tryz.pinned (OpenSpec.ofChange inflateBlocksSpec)

/-- ITS FALSE NEIGHBOUR: 'it returns false'. Refute it at one input. -/
def inflateBlocksWrong : ChangeSpec := { name := "inflateBlocks", fn := fun _ => fun
  | [d1, d2, d3, d4] => { results := [.lit (.bool false)], args := [d1, d2, d3, d4] }
  | _ => none }
def InflateBlocksWrongFalsely : Prop := inflateBlocksRow.holds Tryz.pinned (OpenSpec.ofChange inflateBlocksWrong)

/-- 'valiselaw09.InflateUsed': WHATEVER THE INPUT: true; the input reads as it did. -/
def inflateUsedSpec : ChangeSpec := { name := "inflateUsed", fn := fun _ => fun
  | [d1, d2, d3] => { results := [.lit (.bool true)], args := [d1, d2, d3] }
  | _ => none }
def inflateUsedRow : OpenClaim := { program := "ytgbojpakddjhlaagreatdoor", sum := "f5c97631b794d447d0a9c355d044760af36d189e47a3b7b9a7e428a6e8514a48", func := "valise/valiselaw09.InflateUsed", spec := "inflateUsed", inPlace := ["internal/reflectlite.ValueOf", "(internal/reflectlite.Value).Type", "(internal/reflectlite.Value).IsNil", "internal/reflectlite.TypeOf", "(internal/reflectlite.Value).Elem", "(internal/reflectlite.Value).Set"], unfollowed := true, recurses := true, named := ["valise/header.order", "errors.errorType"], apart := false, laid := [("errors.errorType", laid_errors_errorType), ("valise/header.order", laid_valise_header_order)] }
def InflateUsedSaid : Prop := inflateUsedRow.holds Tryz.pinned (OpenSpec.ofChange inflateUsedSpec)

/-- ITS FALSE NEIGHBOUR: 'it returns false'. Refute it at one input. -/
def inflateUsedWrong : ChangeSpec := { name := "inflateUsed", fn := fun _ => fun
  | [d1, d2, d3] => { results := [.lit (.bool false)], args := [d1, d2, d3] }
  | _ => none }
def InflateUsedWrongFalsely : Prop := inflateUsedRow.holds Tryz.pinned (OpenSpec.ofChange inflateUsedWrong)

/-- 'valiselaw09.InflateMost': WHATEVER THE INPUT: true; the input reads as it did. -/
def inflateMostSpec : ChangeSpec := { name := "inflateMost", fn := fun _ => fun
  | [d1, d2] => { results := [.lit (.bool true)], args := [d1, d2] }
  | _ => none }
def inflateMostRow : OpenClaim := { program := "ytgbojpakddjhlaagreatdoor", sum := "f5c97631b794d447d0a9c355d044760af36d189e47a3b7b9a7e428a6e8514a48", func := "valise/valiselaw09.InflateMost", spec := "inflateMost", inPlace := ["internal/reflectlite.ValueOf", "(internal/reflectlite.Value).Type", "(internal/reflectlite.Value).IsNil", "internal/reflectlite.TypeOf", "(internal/reflectlite.Value).Elem", "(internal/reflectlite.Value).Set"], unfollowed := true, recurses := true, named := ["valise/header.order", "errors.errorType"], apart := false, laid := [("errors.errorType", laid_errors_errorType), ("valise/header.order", laid_valise_header_order)] }
def InflateMostSaid : Prop := inflateMostRow.holds Tryz.pinned (OpenSpec.ofChange inflateMostSpec)

/-- ITS FALSE NEIGHBOUR: 'it returns false'. Refute it at one input. -/
def inflateMostWrong : ChangeSpec := { name := "inflateMost", fn := fun _ => fun
  | [d1, d2] => { results := [.lit (.bool false)], args := [d1, d2] }
  | _ => none }
def InflateMostWrongFalsely : Prop := inflateMostRow.holds Tryz.pinned (OpenSpec.ofChange inflateMostWrong)

/-- 'valiselaw09.InflateStored': WHATEVER THE INPUT: true; the input reads as it did. -/
def inflateStoredSpec : ChangeSpec := { name := "inflateStored", fn := fun _ => fun
  | [d] => { results := [.lit (.bool true)], args := [d] }
  | _ => none }
def inflateStoredRow : OpenClaim := { program := "ytgbojpakddjhlaagreatdoor", sum := "f5c97631b794d447d0a9c355d044760af36d189e47a3b7b9a7e428a6e8514a48", func := "valise/valiselaw09.InflateStored", spec := "inflateStored", inPlace := ["internal/reflectlite.ValueOf", "(internal/reflectlite.Value).Type", "(internal/reflectlite.Value).IsNil", "internal/reflectlite.TypeOf", "(internal/reflectlite.Value).Elem", "(internal/reflectlite.Value).Set"], unfollowed := true, recurses := true, named := ["valise/header.order", "errors.errorType"], apart := false, laid := [("errors.errorType", laid_errors_errorType), ("valise/header.order", laid_valise_header_order)] }
def InflateStoredSaid : Prop := inflateStoredRow.holds Tryz.pinned (OpenSpec.ofChange inflateStoredSpec)

/-- ITS FALSE NEIGHBOUR: 'it returns false'. Refute it at one input. -/
def inflateStoredWrong : ChangeSpec := { name := "inflateStored", fn := fun _ => fun
  | [d] => { results := [.lit (.bool false)], args := [d] }
  | _ => none }
def InflateStoredWrongFalsely : Prop := inflateStoredRow.holds Tryz.pinned (OpenSpec.ofChange inflateStoredWrong)

/-- 'valiselaw09.InflateCodes': WHATEVER THE INPUT: true; the input reads as it did. -/
def inflateCodesSpec : ChangeSpec := { name := "inflateCodes", fn := fun _ => fun
  | [d1, d2] => { results := [.lit (.bool true)], args := [d1, d2] }
  | _ => none }
def inflateCodesRow : OpenClaim := { program := "ytgbojpakddjhlaagreatdoor", sum := "f5c97631b794d447d0a9c355d044760af36d189e47a3b7b9a7e428a6e8514a48", func := "valise/valiselaw09.InflateCodes", spec := "inflateCodes", inPlace := ["internal/reflectlite.ValueOf", "(internal/reflectlite.Value).Type", "(internal/reflectlite.Value).IsNil", "internal/reflectlite.TypeOf", "(internal/reflectlite.Value).Elem", "(internal/reflectlite.Value).Set"], unfollowed := true, recurses := true, named := ["valise/header.order", "errors.errorType"], apart := false, laid := [("errors.errorType", laid_errors_errorType), ("valise/header.order", laid_valise_header_order)] }
def InflateCodesSaid : Prop := inflateCodesRow.holds Tryz.pinned (OpenSpec.ofChange inflateCodesSpec)

/-- ITS FALSE NEIGHBOUR: 'it returns false'. Refute it at one input. -/
def inflateCodesWrong : ChangeSpec := { name := "inflateCodes", fn := fun _ => fun
  | [d1, d2] => { results := [.lit (.bool false)], args := [d1, d2] }
  | _ => none }
def InflateCodesWrongFalsely : Prop := inflateCodesRow.holds Tryz.pinned (OpenSpec.ofChange inflateCodesWrong)

/- THE SECOND FORM. 'bulk': how many values and letters a reading holds, each counted each time it is reached (what is shared counts as often as it is met; a slice's spare places count too). A statement '..UptoSaid' is the law's where the arguments, and the package variables that the reading takes, are together of bulk at most 1048576: NARROWER than '..Said'. Prove '..Said' where nothing that the law and all that it calls make is longer than what came in: it says more and counts as full. Else prove '..UptoSaid'. A law counts once. -/
mutual
def uptoBulk {H : Type} : DataW H → Nat
  | .lit (.string bytes) => bytes.length + 1
  | .lit _ => 1
  | .nil => 1
  | .ptr d => uptoBulk d + 1
  | .slice elems spare => uptoBulkAll elems + uptoBulkAll spare + 1
  | .agg parts => uptoBulkAll parts + 1
  | .iface _ d => uptoBulk d + 1
  | .map entries => uptoBulkEntries entries + 1
  | .held _ => 1
def uptoBulkAll {H : Type} : List (DataW H) → Nat
  | [] => 0
  | d :: r => uptoBulk d + uptoBulkAll r
def uptoBulkEntries {H : Type} : List (Lit × DataW H) → Nat
  | [] => 0
  | x :: r => uptoBulkEntry x + uptoBulkEntries r
def uptoBulkEntry {H : Type} : Lit × DataW H → Nat
  | (.string bytes, d) => bytes.length + uptoBulk d + 1
  | (_, d) => uptoBulk d + 1
 end
def uptoSmall : (H : Type) → List (DataW H) → Bool := fun _ ds => decide (uptoBulkAll ds ≤ 1048576)
def OpenSpec.upto (s : _root_.Go.ChangeSpec) : _root_.Go.OpenSpec := { _root_.Go.OpenSpec.ofChange s with cond := some uptoSmall }

/-- 'valiselaw09.InflateDecodes', WHERE WHAT IT READS IS OF BULK AT MOST 1048576: true; the input reads as it did. -/
def inflateDecodesUptoRow : OpenClaim := { program := "ytgbojpakddjhlaagreatdoor", sum := "f5c97631b794d447d0a9c355d044760af36d189e47a3b7b9a7e428a6e8514a48", func := "valise/valiselaw09.InflateDecodes", spec := "inflateDecodes", inPlace := ["internal/reflectlite.ValueOf", "(internal/reflectlite.Value).Type", "(internal/reflectlite.Value).IsNil", "internal/reflectlite.TypeOf", "(internal/reflectlite.Value).Elem", "(internal/reflectlite.Value).Set"], unfollowed := true, recurses := true, named := ["valise/header.order", "errors.errorType"], apart := false, laid := [("errors.errorType", laid_errors_errorType), ("valise/header.order", laid_valise_header_order)], narrowed := true }
def InflateDecodesUptoSaid : Prop := inflateDecodesUptoRow.holds Tryz.pinned (OpenSpec.upto inflateDecodesSpec)

/-- 'valiselaw09.InflateBlocks', WHERE WHAT IT READS IS OF BULK AT MOST 1048576: true; the input reads as it did. -/
def inflateBlocksUptoRow : OpenClaim := { program := "ytgbojpakddjhlaagreatdoor", sum := "f5c97631b794d447d0a9c355d044760af36d189e47a3b7b9a7e428a6e8514a48", func := "valise/valiselaw09.InflateBlocks", spec := "inflateBlocks", inPlace := ["internal/reflectlite.ValueOf", "(internal/reflectlite.Value).Type", "(internal/reflectlite.Value).IsNil", "internal/reflectlite.TypeOf", "(internal/reflectlite.Value).Elem", "(internal/reflectlite.Value).Set"], unfollowed := true, recurses := true, named := ["valise/header.order", "errors.errorType"], apart := false, laid := [("errors.errorType", laid_errors_errorType), ("valise/header.order", laid_valise_header_order)], narrowed := true }
def InflateBlocksUptoSaid : Prop := inflateBlocksUptoRow.holds Tryz.pinned (OpenSpec.upto inflateBlocksSpec)

/-- 'valiselaw09.InflateUsed', WHERE WHAT IT READS IS OF BULK AT MOST 1048576: true; the input reads as it did. -/
def inflateUsedUptoRow : OpenClaim := { program := "ytgbojpakddjhlaagreatdoor", sum := "f5c97631b794d447d0a9c355d044760af36d189e47a3b7b9a7e428a6e8514a48", func := "valise/valiselaw09.InflateUsed", spec := "inflateUsed", inPlace := ["internal/reflectlite.ValueOf", "(internal/reflectlite.Value).Type", "(internal/reflectlite.Value).IsNil", "internal/reflectlite.TypeOf", "(internal/reflectlite.Value).Elem", "(internal/reflectlite.Value).Set"], unfollowed := true, recurses := true, named := ["valise/header.order", "errors.errorType"], apart := false, laid := [("errors.errorType", laid_errors_errorType), ("valise/header.order", laid_valise_header_order)], narrowed := true }
def InflateUsedUptoSaid : Prop := inflateUsedUptoRow.holds Tryz.pinned (OpenSpec.upto inflateUsedSpec)

/-- 'valiselaw09.InflateMost', WHERE WHAT IT READS IS OF BULK AT MOST 1048576: true; the input reads as it did. -/
def inflateMostUptoRow : OpenClaim := { program := "ytgbojpakddjhlaagreatdoor", sum := "f5c97631b794d447d0a9c355d044760af36d189e47a3b7b9a7e428a6e8514a48", func := "valise/valiselaw09.InflateMost", spec := "inflateMost", inPlace := ["internal/reflectlite.ValueOf", "(internal/reflectlite.Value).Type", "(internal/reflectlite.Value).IsNil", "internal/reflectlite.TypeOf", "(internal/reflectlite.Value).Elem", "(internal/reflectlite.Value).Set"], unfollowed := true, recurses := true, named := ["valise/header.order", "errors.errorType"], apart := false, laid := [("errors.errorType", laid_errors_errorType), ("valise/header.order", laid_valise_header_order)], narrowed := true }
def InflateMostUptoSaid : Prop := inflateMostUptoRow.holds Tryz.pinned (OpenSpec.upto inflateMostSpec)

/-- 'valiselaw09.InflateStored', WHERE WHAT IT READS IS OF BULK AT MOST 1048576: true; the input reads as it did. -/
def inflateStoredUptoRow : OpenClaim := { program := "ytgbojpakddjhlaagreatdoor", sum := "f5c97631b794d447d0a9c355d044760af36d189e47a3b7b9a7e428a6e8514a48", func := "valise/valiselaw09.InflateStored", spec := "inflateStored", inPlace := ["internal/reflectlite.ValueOf", "(internal/reflectlite.Value).Type", "(internal/reflectlite.Value).IsNil", "internal/reflectlite.TypeOf", "(internal/reflectlite.Value).Elem", "(internal/reflectlite.Value).Set"], unfollowed := true, recurses := true, named := ["valise/header.order", "errors.errorType"], apart := false, laid := [("errors.errorType", laid_errors_errorType), ("valise/header.order", laid_valise_header_order)], narrowed := true }
def InflateStoredUptoSaid : Prop := inflateStoredUptoRow.holds Tryz.pinned (OpenSpec.upto inflateStoredSpec)

/-- 'valiselaw09.InflateCodes', WHERE WHAT IT READS IS OF BULK AT MOST 1048576: true; the input reads as it did. -/
def inflateCodesUptoRow : OpenClaim := { program := "ytgbojpakddjhlaagreatdoor", sum := "f5c97631b794d447d0a9c355d044760af36d189e47a3b7b9a7e428a6e8514a48", func := "valise/valiselaw09.InflateCodes", spec := "inflateCodes", inPlace := ["internal/reflectlite.ValueOf", "(internal/reflectlite.Value).Type", "(internal/reflectlite.Value).IsNil", "internal/reflectlite.TypeOf", "(internal/reflectlite.Value).Elem", "(internal/reflectlite.Value).Set"], unfollowed := true, recurses := true, named := ["valise/header.order", "errors.errorType"], apart := false, laid := [("errors.errorType", laid_errors_errorType), ("valise/header.order", laid_valise_header_order)], narrowed := true }
def InflateCodesUptoSaid : Prop := inflateCodesUptoRow.holds Tryz.pinned (OpenSpec.upto inflateCodesSpec)

end Rows
end Go.Proofs.YtgbojpakddjhlaaGreatDoor
