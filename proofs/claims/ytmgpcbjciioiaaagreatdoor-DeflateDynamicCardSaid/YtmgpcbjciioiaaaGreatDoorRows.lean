/-
  NARROWER THAN 'FOR EVERY INPUT', by the rows' own cells (each row's printed sentence says how): DeflateStores: laid · DeflateFixes: laid · DeflateDynamic: laid · DeflateEncodes: laid · DeflateBack: laid · DeflateAlike: laid · DeflateWays: laid · DeflateSame: laid.
  DERIVED. THE GIVEN ROWS OF THIS SEAT. 8 by the template 'for every input the law returns true; each argument reads behind the call as it read before'; 0 by the template 'total and deterministic' (their statements: YtmgpcbjciioiaaaGreatDoorTotals.lean).
  GIVEN WITH THE SEED: the statements are not yours to turn. If you find one false, say at which input.
  Laid BY PROGRAM, IN A SANDBOX (cutbox-rows.mjs): the forced cells as the released guide's own fill.sh prints them over the translation 1b14a0802f8bde02… (all of the seat's roots in one cut). By AI agents, Wed Nov 11 2026. No macro, syntax, notation, axiom, sorry.
-/
import Derived.Test.YtmgpcbjciioiaaaGreatDoorChecked
import GoSem.Claim
import GoSem.ClaimJoined
import GoSem.ClaimMapViews
import Derived.JoinedTies
import Derived.KernelRfl
namespace Go.Proofs.YtmgpcbjciioiaaaGreatDoor
/- THE CELL 'sum', in the pinned program and in every row, IS THE sha256 OF THE DUMP (.gsa) THAT YtmgpcbjciioiaaaGreatDoorProg.lean LOADS. Nothing in Lean hashes anything: it is a label: what it is worth is what the hold of that sum in a sandbox is worth. -/
noncomputable def Tryz.pinned : Pinned := { name := "ytmgpcbjciioiaaagreatdoor", sum := "1b14a0802f8bde0240edd6d2c9b8f9713fe1e1e85ddcf2b0b363cecd494c87d7", checked := Tryz.checked }
namespace Rows
def none {H : Type} : Left H := { results := [], args := [] }

/- WHAT THE LISTED PACKAGE-LEVEL VARIABLES READ AS WHEN THE CALL BEGINS. Each datum BY PROGRAM (the guide's laid-datum.mjs) off the statement by which the dump's own 'gosem.cut.vars' lays the variable. In a bare row this is a premise. The card (YtmgpcbjciioiaaaGreatDoorCards.lean) ties it to the program's text. -/
def laid_valise_header_order {H : Type} : DataW H := .agg [.lit (.int .i64 16), .lit (.int .i64 17), .lit (.int .i64 18), .lit (.int .i64 0), .lit (.int .i64 8), .lit (.int .i64 7), .lit (.int .i64 9), .lit (.int .i64 6), .lit (.int .i64 10), .lit (.int .i64 5), .lit (.int .i64 11), .lit (.int .i64 4), .lit (.int .i64 12), .lit (.int .i64 3), .lit (.int .i64 13), .lit (.int .i64 2), .lit (.int .i64 14), .lit (.int .i64 1), .lit (.int .i64 15)]
def laid_errors_errorType {H : Type} : DataW H := .iface "internal/reflectlite.rtype" (.agg [.ptr (.lit (.string [101, 114, 114, 111, 114]))])

/-- 'valiselaw10.DeflateStores': WHATEVER THE INPUT: true; the input reads as it did. -/
def deflateStoresSpec : ChangeSpec := { name := "deflateStores", fn := fun _ => fun
  | [d] => { results := [.lit (.bool true)], args := [d] }
  | _ => none }
def deflateStoresRow : OpenClaim := { program := "ytmgpcbjciioiaaagreatdoor", sum := "1b14a0802f8bde0240edd6d2c9b8f9713fe1e1e85ddcf2b0b363cecd494c87d7", func := "valise/valiselaw10.DeflateStores", spec := "deflateStores", unfollowed := true, recurses := true, named := ["valise/header.order"], plainKeys := false, apart := false, laid := [("valise/header.order", laid_valise_header_order)] }
def DeflateStoresSaid : Prop := deflateStoresRow.holds Tryz.pinned (OpenSpec.ofChange deflateStoresSpec)

/-- ITS FALSE NEIGHBOUR: 'it returns false'. Refute it at one input. -/
def deflateStoresWrong : ChangeSpec := { name := "deflateStores", fn := fun _ => fun
  | [d] => { results := [.lit (.bool false)], args := [d] }
  | _ => none }
def DeflateStoresWrongFalsely : Prop := deflateStoresRow.holds Tryz.pinned (OpenSpec.ofChange deflateStoresWrong)

/-- 'valiselaw10.DeflateFixes': WHATEVER THE INPUT: true; the input reads as it did. -/
def deflateFixesSpec : ChangeSpec := { name := "deflateFixes", fn := fun _ => fun
  | [d] => { results := [.lit (.bool true)], args := [d] }
  | _ => none }
def deflateFixesRow : OpenClaim := { program := "ytmgpcbjciioiaaagreatdoor", sum := "1b14a0802f8bde0240edd6d2c9b8f9713fe1e1e85ddcf2b0b363cecd494c87d7", func := "valise/valiselaw10.DeflateFixes", spec := "deflateFixes", unfollowed := true, recurses := true, named := ["valise/header.order"], plainKeys := false, apart := false, laid := [("valise/header.order", laid_valise_header_order)] }
def DeflateFixesSaid : Prop := deflateFixesRow.holds Tryz.pinned (OpenSpec.ofChange deflateFixesSpec)

/-- ITS FALSE NEIGHBOUR: 'it returns false'. Refute it at one input. -/
def deflateFixesWrong : ChangeSpec := { name := "deflateFixes", fn := fun _ => fun
  | [d] => { results := [.lit (.bool false)], args := [d] }
  | _ => none }
def DeflateFixesWrongFalsely : Prop := deflateFixesRow.holds Tryz.pinned (OpenSpec.ofChange deflateFixesWrong)

/-- 'valiselaw10.DeflateDynamic': WHATEVER THE INPUT: true; the input reads as it did. -/
def deflateDynamicSpec : ChangeSpec := { name := "deflateDynamic", fn := fun _ => fun
  | [d] => { results := [.lit (.bool true)], args := [d] }
  | _ => none }
def deflateDynamicRow : OpenClaim := { program := "ytmgpcbjciioiaaagreatdoor", sum := "1b14a0802f8bde0240edd6d2c9b8f9713fe1e1e85ddcf2b0b363cecd494c87d7", func := "valise/valiselaw10.DeflateDynamic", spec := "deflateDynamic", unfollowed := true, recurses := true, named := ["valise/header.order"], plainKeys := false, apart := false, laid := [("valise/header.order", laid_valise_header_order)] }
def DeflateDynamicSaid : Prop := deflateDynamicRow.holds Tryz.pinned (OpenSpec.ofChange deflateDynamicSpec)

/-- ITS FALSE NEIGHBOUR: 'it returns false'. Refute it at one input. -/
def deflateDynamicWrong : ChangeSpec := { name := "deflateDynamic", fn := fun _ => fun
  | [d] => { results := [.lit (.bool false)], args := [d] }
  | _ => none }
def DeflateDynamicWrongFalsely : Prop := deflateDynamicRow.holds Tryz.pinned (OpenSpec.ofChange deflateDynamicWrong)

/-- 'valiselaw10.DeflateEncodes': WHATEVER THE INPUT: true; the input reads as it did. -/
def deflateEncodesSpec : ChangeSpec := { name := "deflateEncodes", fn := fun _ => fun
  | [d1, d2] => { results := [.lit (.bool true)], args := [d1, d2] }
  | _ => none }
def deflateEncodesRow : OpenClaim := { program := "ytmgpcbjciioiaaagreatdoor", sum := "1b14a0802f8bde0240edd6d2c9b8f9713fe1e1e85ddcf2b0b363cecd494c87d7", func := "valise/valiselaw10.DeflateEncodes", spec := "deflateEncodes", unfollowed := true, recurses := true, named := ["valise/header.order"], plainKeys := false, apart := false, laid := [("valise/header.order", laid_valise_header_order)] }
def DeflateEncodesSaid : Prop := deflateEncodesRow.holds Tryz.pinned (OpenSpec.ofChange deflateEncodesSpec)

/-- ITS FALSE NEIGHBOUR: 'it returns false'. Refute it at one input. -/
def deflateEncodesWrong : ChangeSpec := { name := "deflateEncodes", fn := fun _ => fun
  | [d1, d2] => { results := [.lit (.bool false)], args := [d1, d2] }
  | _ => none }
def DeflateEncodesWrongFalsely : Prop := deflateEncodesRow.holds Tryz.pinned (OpenSpec.ofChange deflateEncodesWrong)

/-- 'valiselaw10.DeflateBack': WHATEVER THE INPUT: true; the input reads as it did. -/
def deflateBackSpec : ChangeSpec := { name := "deflateBack", fn := fun _ => fun
  | [d1, d2, d3] => { results := [.lit (.bool true)], args := [d1, d2, d3] }
  | _ => none }
def deflateBackRow : OpenClaim := { program := "ytmgpcbjciioiaaagreatdoor", sum := "1b14a0802f8bde0240edd6d2c9b8f9713fe1e1e85ddcf2b0b363cecd494c87d7", func := "valise/valiselaw10.DeflateBack", spec := "deflateBack", inPlace := ["internal/reflectlite.ValueOf", "(internal/reflectlite.Value).Type", "(internal/reflectlite.Value).IsNil", "internal/reflectlite.TypeOf", "(internal/reflectlite.Value).Elem", "(internal/reflectlite.Value).Set"], unfollowed := true, recurses := true, named := ["valise/header.order", "errors.errorType"], plainKeys := false, apart := false, laid := [("errors.errorType", laid_errors_errorType), ("valise/header.order", laid_valise_header_order)] }
def DeflateBackSaid : Prop := deflateBackRow.holds Tryz.pinned (OpenSpec.ofChange deflateBackSpec)

/-- ITS FALSE NEIGHBOUR: 'it returns false'. Refute it at one input. -/
def deflateBackWrong : ChangeSpec := { name := "deflateBack", fn := fun _ => fun
  | [d1, d2, d3] => { results := [.lit (.bool false)], args := [d1, d2, d3] }
  | _ => none }
def DeflateBackWrongFalsely : Prop := deflateBackRow.holds Tryz.pinned (OpenSpec.ofChange deflateBackWrong)

/-- 'valiselaw10.DeflateAlike': WHATEVER THE INPUT: true; the input reads as it did. -/
def deflateAlikeSpec : ChangeSpec := { name := "deflateAlike", fn := fun _ => fun
  | [d1, d2, d3] => { results := [.lit (.bool true)], args := [d1, d2, d3] }
  | _ => none }
def deflateAlikeRow : OpenClaim := { program := "ytmgpcbjciioiaaagreatdoor", sum := "1b14a0802f8bde0240edd6d2c9b8f9713fe1e1e85ddcf2b0b363cecd494c87d7", func := "valise/valiselaw10.DeflateAlike", spec := "deflateAlike", inPlace := ["internal/reflectlite.ValueOf", "(internal/reflectlite.Value).Type", "(internal/reflectlite.Value).IsNil", "internal/reflectlite.TypeOf", "(internal/reflectlite.Value).Elem", "(internal/reflectlite.Value).Set"], unfollowed := true, recurses := true, named := ["valise/header.order", "errors.errorType"], plainKeys := false, apart := false, laid := [("errors.errorType", laid_errors_errorType), ("valise/header.order", laid_valise_header_order)] }
def DeflateAlikeSaid : Prop := deflateAlikeRow.holds Tryz.pinned (OpenSpec.ofChange deflateAlikeSpec)

/-- ITS FALSE NEIGHBOUR: 'it returns false'. Refute it at one input. -/
def deflateAlikeWrong : ChangeSpec := { name := "deflateAlike", fn := fun _ => fun
  | [d1, d2, d3] => { results := [.lit (.bool false)], args := [d1, d2, d3] }
  | _ => none }
def DeflateAlikeWrongFalsely : Prop := deflateAlikeRow.holds Tryz.pinned (OpenSpec.ofChange deflateAlikeWrong)

/-- 'valiselaw10.DeflateWays': WHATEVER THE INPUT: true; the input reads as it did. -/
def deflateWaysSpec : ChangeSpec := { name := "deflateWays", fn := fun _ => fun
  | [d] => { results := [.lit (.bool true)], args := [d] }
  | _ => none }
def deflateWaysRow : OpenClaim := { program := "ytmgpcbjciioiaaagreatdoor", sum := "1b14a0802f8bde0240edd6d2c9b8f9713fe1e1e85ddcf2b0b363cecd494c87d7", func := "valise/valiselaw10.DeflateWays", spec := "deflateWays", inPlace := ["internal/reflectlite.ValueOf", "(internal/reflectlite.Value).Type", "(internal/reflectlite.Value).IsNil", "internal/reflectlite.TypeOf", "(internal/reflectlite.Value).Elem", "(internal/reflectlite.Value).Set"], unfollowed := true, recurses := true, named := ["valise/header.order", "errors.errorType"], plainKeys := false, apart := false, laid := [("errors.errorType", laid_errors_errorType), ("valise/header.order", laid_valise_header_order)] }
def DeflateWaysSaid : Prop := deflateWaysRow.holds Tryz.pinned (OpenSpec.ofChange deflateWaysSpec)

/-- ITS FALSE NEIGHBOUR: 'it returns false'. Refute it at one input. -/
def deflateWaysWrong : ChangeSpec := { name := "deflateWays", fn := fun _ => fun
  | [d] => { results := [.lit (.bool false)], args := [d] }
  | _ => none }
def DeflateWaysWrongFalsely : Prop := deflateWaysRow.holds Tryz.pinned (OpenSpec.ofChange deflateWaysWrong)

/-- 'valiselaw10.DeflateSame': WHATEVER THE INPUT: true; the input reads as it did. -/
def deflateSameSpec : ChangeSpec := { name := "deflateSame", fn := fun _ => fun
  | [d1, d2] => { results := [.lit (.bool true)], args := [d1, d2] }
  | _ => none }
def deflateSameRow : OpenClaim := { program := "ytmgpcbjciioiaaagreatdoor", sum := "1b14a0802f8bde0240edd6d2c9b8f9713fe1e1e85ddcf2b0b363cecd494c87d7", func := "valise/valiselaw10.DeflateSame", spec := "deflateSame", unfollowed := true, recurses := true, named := ["valise/header.order"], plainKeys := false, apart := false, laid := [("valise/header.order", laid_valise_header_order)] }
def DeflateSameSaid : Prop := deflateSameRow.holds Tryz.pinned (OpenSpec.ofChange deflateSameSpec)

/-- ITS FALSE NEIGHBOUR: 'it returns false'. Refute it at one input. -/
def deflateSameWrong : ChangeSpec := { name := "deflateSame", fn := fun _ => fun
  | [d1, d2] => { results := [.lit (.bool false)], args := [d1, d2] }
  | _ => none }
def DeflateSameWrongFalsely : Prop := deflateSameRow.holds Tryz.pinned (OpenSpec.ofChange deflateSameWrong)

/- THE SECOND FORM. 'bulk': how many values and letters a reading holds, each counted each time it is reached (what is shared counts as often as it is met; a slice's spare places count too). A statement '..UptoSaid' is the law's where the arguments, and the package variables that the reading takes, are together of bulk at most 1048576: NARROWER than '..Said'. Prove '..Said' where nothing that the law and all that it calls make is longer than what came in: it says more and counts as full. Else prove '..UptoSaid'. A law counts once. -/
mutual
def uptoBulk {H : Type} : DataW H → Nat
  | .lit (.string bytes) => bytes.length + 1
  | .lit _ => 1
  | .nil => 1
  | .ptr d => uptoBulk d + 1
  | .slice elems spare => uptoBulkAll elems + uptoBulkAll spare + 1
  | .agg parts => uptoBulkAll parts + 1
  | .iface _ d => uptoBulk d + 1
  | .map entries => uptoBulkEntries entries + 1
  | .held _ => 1
def uptoBulkAll {H : Type} : List (DataW H) → Nat
  | [] => 0
  | d :: r => uptoBulk d + uptoBulkAll r
def uptoBulkEntries {H : Type} : List (Lit × DataW H) → Nat
  | [] => 0
  | x :: r => uptoBulkEntry x + uptoBulkEntries r
def uptoBulkEntry {H : Type} : Lit × DataW H → Nat
  | (.string bytes, d) => bytes.length + uptoBulk d + 1
  | (_, d) => uptoBulk d + 1
 end
def uptoSmall : (H : Type) → List (DataW H) → Bool := fun _ ds => decide (uptoBulkAll ds ≤ 1048576)
def OpenSpec.upto (s : _root_.Go.ChangeSpec) : _root_.Go.OpenSpec := { _root_.Go.OpenSpec.ofChange s with cond := some uptoSmall }

/-- 'valiselaw10.DeflateStores', WHERE WHAT IT READS IS OF BULK AT MOST 1048576: true; the input reads as it did. -/
def deflateStoresUptoRow : OpenClaim := { program := "ytmgpcbjciioiaaagreatdoor", sum := "1b14a0802f8bde0240edd6d2c9b8f9713fe1e1e85ddcf2b0b363cecd494c87d7", func := "valise/valiselaw10.DeflateStores", spec := "deflateStores", unfollowed := true, recurses := true, named := ["valise/header.order"], plainKeys := false, apart := false, laid := [("valise/header.order", laid_valise_header_order)], narrowed := true }
def DeflateStoresUptoSaid : Prop := deflateStoresUptoRow.holds Tryz.pinned (OpenSpec.upto deflateStoresSpec)

/-- 'valiselaw10.DeflateFixes', WHERE WHAT IT READS IS OF BULK AT MOST 1048576: true; the input reads as it did. -/
def deflateFixesUptoRow : OpenClaim := { program := "ytmgpcbjciioiaaagreatdoor", sum := "1b14a0802f8bde0240edd6d2c9b8f9713fe1e1e85ddcf2b0b363cecd494c87d7", func := "valise/valiselaw10.DeflateFixes", spec := "deflateFixes", unfollowed := true, recurses := true, named := ["valise/header.order"], plainKeys := false, apart := false, laid := [("valise/header.order", laid_valise_header_order)], narrowed := true }
def DeflateFixesUptoSaid : Prop := deflateFixesUptoRow.holds Tryz.pinned (OpenSpec.upto deflateFixesSpec)

/-- 'valiselaw10.DeflateDynamic', WHERE WHAT IT READS IS OF BULK AT MOST 1048576: true; the input reads as it did. -/
def deflateDynamicUptoRow : OpenClaim := { program := "ytmgpcbjciioiaaagreatdoor", sum := "1b14a0802f8bde0240edd6d2c9b8f9713fe1e1e85ddcf2b0b363cecd494c87d7", func := "valise/valiselaw10.DeflateDynamic", spec := "deflateDynamic", unfollowed := true, recurses := true, named := ["valise/header.order"], plainKeys := false, apart := false, laid := [("valise/header.order", laid_valise_header_order)], narrowed := true }
def DeflateDynamicUptoSaid : Prop := deflateDynamicUptoRow.holds Tryz.pinned (OpenSpec.upto deflateDynamicSpec)

/-- 'valiselaw10.DeflateEncodes', WHERE WHAT IT READS IS OF BULK AT MOST 1048576: true; the input reads as it did. -/
def deflateEncodesUptoRow : OpenClaim := { program := "ytmgpcbjciioiaaagreatdoor", sum := "1b14a0802f8bde0240edd6d2c9b8f9713fe1e1e85ddcf2b0b363cecd494c87d7", func := "valise/valiselaw10.DeflateEncodes", spec := "deflateEncodes", unfollowed := true, recurses := true, named := ["valise/header.order"], plainKeys := false, apart := false, laid := [("valise/header.order", laid_valise_header_order)], narrowed := true }
def DeflateEncodesUptoSaid : Prop := deflateEncodesUptoRow.holds Tryz.pinned (OpenSpec.upto deflateEncodesSpec)

/-- 'valiselaw10.DeflateBack', WHERE WHAT IT READS IS OF BULK AT MOST 1048576: true; the input reads as it did. -/
def deflateBackUptoRow : OpenClaim := { program := "ytmgpcbjciioiaaagreatdoor", sum := "1b14a0802f8bde0240edd6d2c9b8f9713fe1e1e85ddcf2b0b363cecd494c87d7", func := "valise/valiselaw10.DeflateBack", spec := "deflateBack", inPlace := ["internal/reflectlite.ValueOf", "(internal/reflectlite.Value).Type", "(internal/reflectlite.Value).IsNil", "internal/reflectlite.TypeOf", "(internal/reflectlite.Value).Elem", "(internal/reflectlite.Value).Set"], unfollowed := true, recurses := true, named := ["valise/header.order", "errors.errorType"], plainKeys := false, apart := false, laid := [("errors.errorType", laid_errors_errorType), ("valise/header.order", laid_valise_header_order)], narrowed := true }
def DeflateBackUptoSaid : Prop := deflateBackUptoRow.holds Tryz.pinned (OpenSpec.upto deflateBackSpec)

/-- 'valiselaw10.DeflateAlike', WHERE WHAT IT READS IS OF BULK AT MOST 1048576: true; the input reads as it did. -/
def deflateAlikeUptoRow : OpenClaim := { program := "ytmgpcbjciioiaaagreatdoor", sum := "1b14a0802f8bde0240edd6d2c9b8f9713fe1e1e85ddcf2b0b363cecd494c87d7", func := "valise/valiselaw10.DeflateAlike", spec := "deflateAlike", inPlace := ["internal/reflectlite.ValueOf", "(internal/reflectlite.Value).Type", "(internal/reflectlite.Value).IsNil", "internal/reflectlite.TypeOf", "(internal/reflectlite.Value).Elem", "(internal/reflectlite.Value).Set"], unfollowed := true, recurses := true, named := ["valise/header.order", "errors.errorType"], plainKeys := false, apart := false, laid := [("errors.errorType", laid_errors_errorType), ("valise/header.order", laid_valise_header_order)], narrowed := true }
def DeflateAlikeUptoSaid : Prop := deflateAlikeUptoRow.holds Tryz.pinned (OpenSpec.upto deflateAlikeSpec)

/-- 'valiselaw10.DeflateWays', WHERE WHAT IT READS IS OF BULK AT MOST 1048576: true; the input reads as it did. -/
def deflateWaysUptoRow : OpenClaim := { program := "ytmgpcbjciioiaaagreatdoor", sum := "1b14a0802f8bde0240edd6d2c9b8f9713fe1e1e85ddcf2b0b363cecd494c87d7", func := "valise/valiselaw10.DeflateWays", spec := "deflateWays", inPlace := ["internal/reflectlite.ValueOf", "(internal/reflectlite.Value).Type", "(internal/reflectlite.Value).IsNil", "internal/reflectlite.TypeOf", "(internal/reflectlite.Value).Elem", "(internal/reflectlite.Value).Set"], unfollowed := true, recurses := true, named := ["valise/header.order", "errors.errorType"], plainKeys := false, apart := false, laid := [("errors.errorType", laid_errors_errorType), ("valise/header.order", laid_valise_header_order)], narrowed := true }
def DeflateWaysUptoSaid : Prop := deflateWaysUptoRow.holds Tryz.pinned (OpenSpec.upto deflateWaysSpec)

/-- 'valiselaw10.DeflateSame', WHERE WHAT IT READS IS OF BULK AT MOST 1048576: true; the input reads as it did. -/
def deflateSameUptoRow : OpenClaim := { program := "ytmgpcbjciioiaaagreatdoor", sum := "1b14a0802f8bde0240edd6d2c9b8f9713fe1e1e85ddcf2b0b363cecd494c87d7", func := "valise/valiselaw10.DeflateSame", spec := "deflateSame", unfollowed := true, recurses := true, named := ["valise/header.order"], plainKeys := false, apart := false, laid := [("valise/header.order", laid_valise_header_order)], narrowed := true }
def DeflateSameUptoSaid : Prop := deflateSameUptoRow.holds Tryz.pinned (OpenSpec.upto deflateSameSpec)

end Rows
end Go.Proofs.YtmgpcbjciioiaaaGreatDoor
