/-
  DERIVED. GIVEN WITH THE SEED: THE CARDS: each row of YtgbojpakddjhlaaGreatDoorRows.lean that lists a variable, with what it lists TIED to the program's text (the seventh form; the later family's looks); each row that meets fmt, with fmt's text TOLD by the authors' own Lean function (tested against real Go, not proved from fmt's source: count such statements apart). THE CARD IS WHAT COUNTS. Prove the row's statement (the work); the ties are given (YtgbojpakddjhlaaGreatDoorTie.lean); close each card by the builder's one call (the guide's Derived/Test/ToyasCard.lean, 'card_holds'). Laid BY PROGRAM, IN A SANDBOX (cutbox-door.mjs). By AI agents, Wed Nov 11 2026. No macro, syntax, notation, axiom, sorry.
-/
import Derived.Test.YtgbojpakddjhlaaGreatDoorRows
import GoSem.ClaimSeven
namespace Go.Proofs.YtgbojpakddjhlaaGreatDoor
namespace Rows

/-- THE TIED CARD OF 'valiselaw09.InflateDecodes'. -/
def inflateDecodesCard : Claim7 := { stood := { row := inflateDecodesRow, standIns := [], harness := (true, "295b5f01aeb909a8b4bb66cf008da63d430bcda5473f93a2deb3f5ee33fdd6bb"), looks := true }, kinds := [], alts := [], laidByText := true, laidKinds := [.handle, .data], laidTests := true, laidLooks := .later }
def InflateDecodesCardSaid : Prop := Claim7.holds Tryz.pinned (.plain (OpenSpec.ofChange inflateDecodesSpec)) inflateDecodesCard

/-- THE TIED CARD OF 'valiselaw09.InflateBlocks'. -/
def inflateBlocksCard : Claim7 := { stood := { row := inflateBlocksRow, standIns := [], harness := (true, "295b5f01aeb909a8b4bb66cf008da63d430bcda5473f93a2deb3f5ee33fdd6bb"), looks := true }, kinds := [], alts := [], laidByText := true, laidKinds := [.handle, .data], laidTests := true, laidLooks := .later }
def InflateBlocksCardSaid : Prop := Claim7.holds Tryz.pinned (.plain (OpenSpec.ofChange inflateBlocksSpec)) inflateBlocksCard

/-- THE TIED CARD OF 'valiselaw09.InflateUsed'. -/
def inflateUsedCard : Claim7 := { stood := { row := inflateUsedRow, standIns := [], harness := (true, "295b5f01aeb909a8b4bb66cf008da63d430bcda5473f93a2deb3f5ee33fdd6bb"), looks := true }, kinds := [], alts := [], laidByText := true, laidKinds := [.handle, .data], laidTests := true, laidLooks := .later }
def InflateUsedCardSaid : Prop := Claim7.holds Tryz.pinned (.plain (OpenSpec.ofChange inflateUsedSpec)) inflateUsedCard

/-- THE TIED CARD OF 'valiselaw09.InflateMost'. -/
def inflateMostCard : Claim7 := { stood := { row := inflateMostRow, standIns := [], harness := (true, "295b5f01aeb909a8b4bb66cf008da63d430bcda5473f93a2deb3f5ee33fdd6bb"), looks := true }, kinds := [], alts := [], laidByText := true, laidKinds := [.handle, .data], laidTests := true, laidLooks := .later }
def InflateMostCardSaid : Prop := Claim7.holds Tryz.pinned (.plain (OpenSpec.ofChange inflateMostSpec)) inflateMostCard

/-- THE TIED CARD OF 'valiselaw09.InflateStored'. -/
def inflateStoredCard : Claim7 := { stood := { row := inflateStoredRow, standIns := [], harness := (true, "295b5f01aeb909a8b4bb66cf008da63d430bcda5473f93a2deb3f5ee33fdd6bb"), looks := true }, kinds := [], alts := [], laidByText := true, laidKinds := [.handle, .data], laidTests := true, laidLooks := .later }
def InflateStoredCardSaid : Prop := Claim7.holds Tryz.pinned (.plain (OpenSpec.ofChange inflateStoredSpec)) inflateStoredCard

/-- THE TIED CARD OF 'valiselaw09.InflateCodes'. -/
def inflateCodesCard : Claim7 := { stood := { row := inflateCodesRow, standIns := [], harness := (true, "295b5f01aeb909a8b4bb66cf008da63d430bcda5473f93a2deb3f5ee33fdd6bb"), looks := true }, kinds := [], alts := [], laidByText := true, laidKinds := [.handle, .data], laidTests := true, laidLooks := .later }
def InflateCodesCardSaid : Prop := Claim7.holds Tryz.pinned (.plain (OpenSpec.ofChange inflateCodesSpec)) inflateCodesCard

/-- THE SECOND FORM's CARD OF 'valiselaw09.InflateDecodes'. -/
def inflateDecodesUptoCard : Claim7 := { stood := { row := inflateDecodesUptoRow, standIns := [], harness := (true, "295b5f01aeb909a8b4bb66cf008da63d430bcda5473f93a2deb3f5ee33fdd6bb"), looks := true }, kinds := [], alts := [], laidByText := true, laidKinds := [.handle, .data], laidTests := true, laidLooks := .later }
def InflateDecodesUptoCardSaid : Prop := Claim7.holds Tryz.pinned (.plain (OpenSpec.upto inflateDecodesSpec)) inflateDecodesUptoCard

/-- THE SECOND FORM's CARD OF 'valiselaw09.InflateBlocks'. -/
def inflateBlocksUptoCard : Claim7 := { stood := { row := inflateBlocksUptoRow, standIns := [], harness := (true, "295b5f01aeb909a8b4bb66cf008da63d430bcda5473f93a2deb3f5ee33fdd6bb"), looks := true }, kinds := [], alts := [], laidByText := true, laidKinds := [.handle, .data], laidTests := true, laidLooks := .later }
def InflateBlocksUptoCardSaid : Prop := Claim7.holds Tryz.pinned (.plain (OpenSpec.upto inflateBlocksSpec)) inflateBlocksUptoCard

/-- THE SECOND FORM's CARD OF 'valiselaw09.InflateUsed'. -/
def inflateUsedUptoCard : Claim7 := { stood := { row := inflateUsedUptoRow, standIns := [], harness := (true, "295b5f01aeb909a8b4bb66cf008da63d430bcda5473f93a2deb3f5ee33fdd6bb"), looks := true }, kinds := [], alts := [], laidByText := true, laidKinds := [.handle, .data], laidTests := true, laidLooks := .later }
def InflateUsedUptoCardSaid : Prop := Claim7.holds Tryz.pinned (.plain (OpenSpec.upto inflateUsedSpec)) inflateUsedUptoCard

/-- THE SECOND FORM's CARD OF 'valiselaw09.InflateMost'. -/
def inflateMostUptoCard : Claim7 := { stood := { row := inflateMostUptoRow, standIns := [], harness := (true, "295b5f01aeb909a8b4bb66cf008da63d430bcda5473f93a2deb3f5ee33fdd6bb"), looks := true }, kinds := [], alts := [], laidByText := true, laidKinds := [.handle, .data], laidTests := true, laidLooks := .later }
def InflateMostUptoCardSaid : Prop := Claim7.holds Tryz.pinned (.plain (OpenSpec.upto inflateMostSpec)) inflateMostUptoCard

/-- THE SECOND FORM's CARD OF 'valiselaw09.InflateStored'. -/
def inflateStoredUptoCard : Claim7 := { stood := { row := inflateStoredUptoRow, standIns := [], harness := (true, "295b5f01aeb909a8b4bb66cf008da63d430bcda5473f93a2deb3f5ee33fdd6bb"), looks := true }, kinds := [], alts := [], laidByText := true, laidKinds := [.handle, .data], laidTests := true, laidLooks := .later }
def InflateStoredUptoCardSaid : Prop := Claim7.holds Tryz.pinned (.plain (OpenSpec.upto inflateStoredSpec)) inflateStoredUptoCard

/-- THE SECOND FORM's CARD OF 'valiselaw09.InflateCodes'. -/
def inflateCodesUptoCard : Claim7 := { stood := { row := inflateCodesUptoRow, standIns := [], harness := (true, "295b5f01aeb909a8b4bb66cf008da63d430bcda5473f93a2deb3f5ee33fdd6bb"), looks := true }, kinds := [], alts := [], laidByText := true, laidKinds := [.handle, .data], laidTests := true, laidLooks := .later }
def InflateCodesUptoCardSaid : Prop := Claim7.holds Tryz.pinned (.plain (OpenSpec.upto inflateCodesSpec)) inflateCodesUptoCard
end Rows
end Go.Proofs.YtgbojpakddjhlaaGreatDoor
