/-
  DERIVED. GIVEN WITH THE SEED: THE CARDS: each row of YtmgpcbjciioiaaaGreatDoorRows.lean that lists a variable, with what it lists TIED to the program's text (the seventh form; the later family's looks); each row that meets fmt, with fmt's text TOLD by the authors' own Lean function (tested against real Go, not proved from fmt's source: count such statements apart). THE CARD IS WHAT COUNTS. Prove the row's statement (the work); the ties are given (YtmgpcbjciioiaaaGreatDoorTie.lean); close each card by the builder's one call (the guide's Derived/Test/ToyasCard.lean, 'card_holds'). Laid BY PROGRAM, IN A SANDBOX (cutbox-door.mjs). By AI agents, Wed Nov 11 2026. No macro, syntax, notation, axiom, sorry.
-/
import Derived.Test.YtmgpcbjciioiaaaGreatDoorRows
import GoSem.ClaimSeven
namespace Go.Proofs.YtmgpcbjciioiaaaGreatDoor
namespace Rows

/-- THE TIED CARD OF 'valiselaw10.DeflateStores'. -/
def deflateStoresCard : Claim7 := { stood := { row := deflateStoresRow, standIns := [], harness := (true, "2edb1eb2bd5c366934f1a0d3fecbe12607f814bd154b56814da59fc7d7a24b26"), looks := true }, kinds := [], alts := [], laidByText := true, laidKinds := [.data], laidTests := true, laidLooks := .later }
def DeflateStoresCardSaid : Prop := Claim7.holds Tryz.pinned (.plain (OpenSpec.ofChange deflateStoresSpec)) deflateStoresCard

/-- THE TIED CARD OF 'valiselaw10.DeflateFixes'. -/
def deflateFixesCard : Claim7 := { stood := { row := deflateFixesRow, standIns := [], harness := (true, "2edb1eb2bd5c366934f1a0d3fecbe12607f814bd154b56814da59fc7d7a24b26"), looks := true }, kinds := [], alts := [], laidByText := true, laidKinds := [.data], laidTests := true, laidLooks := .later }
def DeflateFixesCardSaid : Prop := Claim7.holds Tryz.pinned (.plain (OpenSpec.ofChange deflateFixesSpec)) deflateFixesCard

/-- THE TIED CARD OF 'valiselaw10.DeflateDynamic'. -/
def deflateDynamicCard : Claim7 := { stood := { row := deflateDynamicRow, standIns := [], harness := (true, "2edb1eb2bd5c366934f1a0d3fecbe12607f814bd154b56814da59fc7d7a24b26"), looks := true }, kinds := [], alts := [], laidByText := true, laidKinds := [.data], laidTests := true, laidLooks := .later }
def DeflateDynamicCardSaid : Prop := Claim7.holds Tryz.pinned (.plain (OpenSpec.ofChange deflateDynamicSpec)) deflateDynamicCard

/-- THE TIED CARD OF 'valiselaw10.DeflateEncodes'. -/
def deflateEncodesCard : Claim7 := { stood := { row := deflateEncodesRow, standIns := [], harness := (true, "2edb1eb2bd5c366934f1a0d3fecbe12607f814bd154b56814da59fc7d7a24b26"), looks := true }, kinds := [], alts := [], laidByText := true, laidKinds := [.data], laidTests := true, laidLooks := .later }
def DeflateEncodesCardSaid : Prop := Claim7.holds Tryz.pinned (.plain (OpenSpec.ofChange deflateEncodesSpec)) deflateEncodesCard

/-- THE TIED CARD OF 'valiselaw10.DeflateBack'. -/
def deflateBackCard : Claim7 := { stood := { row := deflateBackRow, standIns := [], harness := (true, "2edb1eb2bd5c366934f1a0d3fecbe12607f814bd154b56814da59fc7d7a24b26"), looks := true }, kinds := [], alts := [], laidByText := true, laidKinds := [.handle, .data], laidTests := true, laidLooks := .later }
def DeflateBackCardSaid : Prop := Claim7.holds Tryz.pinned (.plain (OpenSpec.ofChange deflateBackSpec)) deflateBackCard

/-- THE TIED CARD OF 'valiselaw10.DeflateAlike'. -/
def deflateAlikeCard : Claim7 := { stood := { row := deflateAlikeRow, standIns := [], harness := (true, "2edb1eb2bd5c366934f1a0d3fecbe12607f814bd154b56814da59fc7d7a24b26"), looks := true }, kinds := [], alts := [], laidByText := true, laidKinds := [.handle, .data], laidTests := true, laidLooks := .later }
def DeflateAlikeCardSaid : Prop := Claim7.holds Tryz.pinned (.plain (OpenSpec.ofChange deflateAlikeSpec)) deflateAlikeCard

/-- THE TIED CARD OF 'valiselaw10.DeflateWays'. -/
def deflateWaysCard : Claim7 := { stood := { row := deflateWaysRow, standIns := [], harness := (true, "2edb1eb2bd5c366934f1a0d3fecbe12607f814bd154b56814da59fc7d7a24b26"), looks := true }, kinds := [], alts := [], laidByText := true, laidKinds := [.handle, .data], laidTests := true, laidLooks := .later }
def DeflateWaysCardSaid : Prop := Claim7.holds Tryz.pinned (.plain (OpenSpec.ofChange deflateWaysSpec)) deflateWaysCard

/-- THE TIED CARD OF 'valiselaw10.DeflateSame'. -/
def deflateSameCard : Claim7 := { stood := { row := deflateSameRow, standIns := [], harness := (true, "2edb1eb2bd5c366934f1a0d3fecbe12607f814bd154b56814da59fc7d7a24b26"), looks := true }, kinds := [], alts := [], laidByText := true, laidKinds := [.data], laidTests := true, laidLooks := .later }
def DeflateSameCardSaid : Prop := Claim7.holds Tryz.pinned (.plain (OpenSpec.ofChange deflateSameSpec)) deflateSameCard

/-- THE SECOND FORM's CARD OF 'valiselaw10.DeflateStores'. -/
def deflateStoresUptoCard : Claim7 := { stood := { row := deflateStoresUptoRow, standIns := [], harness := (true, "2edb1eb2bd5c366934f1a0d3fecbe12607f814bd154b56814da59fc7d7a24b26"), looks := true }, kinds := [], alts := [], laidByText := true, laidKinds := [.data], laidTests := true, laidLooks := .later }
def DeflateStoresUptoCardSaid : Prop := Claim7.holds Tryz.pinned (.plain (OpenSpec.upto deflateStoresSpec)) deflateStoresUptoCard

/-- THE SECOND FORM's CARD OF 'valiselaw10.DeflateFixes'. -/
def deflateFixesUptoCard : Claim7 := { stood := { row := deflateFixesUptoRow, standIns := [], harness := (true, "2edb1eb2bd5c366934f1a0d3fecbe12607f814bd154b56814da59fc7d7a24b26"), looks := true }, kinds := [], alts := [], laidByText := true, laidKinds := [.data], laidTests := true, laidLooks := .later }
def DeflateFixesUptoCardSaid : Prop := Claim7.holds Tryz.pinned (.plain (OpenSpec.upto deflateFixesSpec)) deflateFixesUptoCard

/-- THE SECOND FORM's CARD OF 'valiselaw10.DeflateDynamic'. -/
def deflateDynamicUptoCard : Claim7 := { stood := { row := deflateDynamicUptoRow, standIns := [], harness := (true, "2edb1eb2bd5c366934f1a0d3fecbe12607f814bd154b56814da59fc7d7a24b26"), looks := true }, kinds := [], alts := [], laidByText := true, laidKinds := [.data], laidTests := true, laidLooks := .later }
def DeflateDynamicUptoCardSaid : Prop := Claim7.holds Tryz.pinned (.plain (OpenSpec.upto deflateDynamicSpec)) deflateDynamicUptoCard

/-- THE SECOND FORM's CARD OF 'valiselaw10.DeflateEncodes'. -/
def deflateEncodesUptoCard : Claim7 := { stood := { row := deflateEncodesUptoRow, standIns := [], harness := (true, "2edb1eb2bd5c366934f1a0d3fecbe12607f814bd154b56814da59fc7d7a24b26"), looks := true }, kinds := [], alts := [], laidByText := true, laidKinds := [.data], laidTests := true, laidLooks := .later }
def DeflateEncodesUptoCardSaid : Prop := Claim7.holds Tryz.pinned (.plain (OpenSpec.upto deflateEncodesSpec)) deflateEncodesUptoCard

/-- THE SECOND FORM's CARD OF 'valiselaw10.DeflateBack'. -/
def deflateBackUptoCard : Claim7 := { stood := { row := deflateBackUptoRow, standIns := [], harness := (true, "2edb1eb2bd5c366934f1a0d3fecbe12607f814bd154b56814da59fc7d7a24b26"), looks := true }, kinds := [], alts := [], laidByText := true, laidKinds := [.handle, .data], laidTests := true, laidLooks := .later }
def DeflateBackUptoCardSaid : Prop := Claim7.holds Tryz.pinned (.plain (OpenSpec.upto deflateBackSpec)) deflateBackUptoCard

/-- THE SECOND FORM's CARD OF 'valiselaw10.DeflateAlike'. -/
def deflateAlikeUptoCard : Claim7 := { stood := { row := deflateAlikeUptoRow, standIns := [], harness := (true, "2edb1eb2bd5c366934f1a0d3fecbe12607f814bd154b56814da59fc7d7a24b26"), looks := true }, kinds := [], alts := [], laidByText := true, laidKinds := [.handle, .data], laidTests := true, laidLooks := .later }
def DeflateAlikeUptoCardSaid : Prop := Claim7.holds Tryz.pinned (.plain (OpenSpec.upto deflateAlikeSpec)) deflateAlikeUptoCard

/-- THE SECOND FORM's CARD OF 'valiselaw10.DeflateWays'. -/
def deflateWaysUptoCard : Claim7 := { stood := { row := deflateWaysUptoRow, standIns := [], harness := (true, "2edb1eb2bd5c366934f1a0d3fecbe12607f814bd154b56814da59fc7d7a24b26"), looks := true }, kinds := [], alts := [], laidByText := true, laidKinds := [.handle, .data], laidTests := true, laidLooks := .later }
def DeflateWaysUptoCardSaid : Prop := Claim7.holds Tryz.pinned (.plain (OpenSpec.upto deflateWaysSpec)) deflateWaysUptoCard

/-- THE SECOND FORM's CARD OF 'valiselaw10.DeflateSame'. -/
def deflateSameUptoCard : Claim7 := { stood := { row := deflateSameUptoRow, standIns := [], harness := (true, "2edb1eb2bd5c366934f1a0d3fecbe12607f814bd154b56814da59fc7d7a24b26"), looks := true }, kinds := [], alts := [], laidByText := true, laidKinds := [.data], laidTests := true, laidLooks := .later }
def DeflateSameUptoCardSaid : Prop := Claim7.holds Tryz.pinned (.plain (OpenSpec.upto deflateSameSpec)) deflateSameUptoCard
end Rows
end Go.Proofs.YtmgpcbjciioiaaaGreatDoor
