/-
  DERIVED. GIVEN WITH THE SEED: THE CARDS: each row of YtcecljolnknapaaDoorRows.lean that lists a variable, with what it lists TIED to the program's text (the seventh form; the later family's looks); each row that meets fmt, with fmt's text TOLD by the authors' own Lean function (tested against real Go, not proved from fmt's source: count such statements apart). THE CARD IS WHAT COUNTS. Prove the row's statement (the work); the ties are given (YtcecljolnknapaaDoorTie.lean); close each card by the builder's one call (the guide's Derived/Test/ToyasCard.lean, 'card_holds'). Laid BY PROGRAM, IN A SANDBOX (cutbox-door.mjs). By AI agents, Wed Nov 11 2026. No macro, syntax, notation, axiom, sorry.
-/
import Derived.Test.YtcecljolnknapaaDoorRows
import GoSem.ClaimSeven
namespace Go.Proofs.YtcecljolnknapaaDoor
namespace Rows

/-- THE TIED CARD OF 'laws.FnExactTermValid'. -/
def fnExactTermValidCard : Claim7 := { stood := { row := fnExactTermValidRow, standIns := [], harness := (true, "040f6b375a38cc8bfac0c2e1efc70b2e11aed0023981ea5693c6d8e1359e7f37"), looks := true }, kinds := [], alts := [], laidByText := true, laidKinds := [.sentinel], laidTests := true, laidLooks := .later }
def FnExactTermValidCardSaid : Prop := Claim7.holds Tryd.pinned (.plain (OpenSpec.ofChange fnExactTermValidSpec)) fnExactTermValidCard

/-- THE TIED CARD OF 'laws.FnExactHeadOf'. -/
def fnExactHeadOfCard : Claim7 := { stood := { row := fnExactHeadOfRow, standIns := [], harness := (true, "040f6b375a38cc8bfac0c2e1efc70b2e11aed0023981ea5693c6d8e1359e7f37"), looks := true }, kinds := [], alts := [], laidByText := true, laidKinds := [.sentinel], laidTests := true, laidLooks := .later }
def FnExactHeadOfCardSaid : Prop := Claim7.holds Tryd.pinned (.plain (OpenSpec.ofChange fnExactHeadOfSpec)) fnExactHeadOfCard

/-- THE TIED CARD OF 'laws.FnExactPartsOf'. -/
def fnExactPartsOfCard : Claim7 := { stood := { row := fnExactPartsOfRow, standIns := [], harness := (true, "040f6b375a38cc8bfac0c2e1efc70b2e11aed0023981ea5693c6d8e1359e7f37"), looks := true }, kinds := [], alts := [], laidByText := true, laidKinds := [.sentinel], laidTests := true, laidLooks := .later }
def FnExactPartsOfCardSaid : Prop := Claim7.holds Tryd.pinned (.plain (OpenSpec.ofChange fnExactPartsOfSpec)) fnExactPartsOfCard

/-- THE TIED CARD OF 'laws.FnExactLiteralOf'. -/
def fnExactLiteralOfCard : Claim7 := { stood := { row := fnExactLiteralOfRow, standIns := [], harness := (true, "040f6b375a38cc8bfac0c2e1efc70b2e11aed0023981ea5693c6d8e1359e7f37"), looks := true }, kinds := [], alts := [], laidByText := true, laidKinds := [.sentinel], laidTests := true, laidLooks := .later }
def FnExactLiteralOfCardSaid : Prop := Claim7.holds Tryd.pinned (.plain (OpenSpec.ofChange fnExactLiteralOfSpec)) fnExactLiteralOfCard

/-- THE TIED CARD OF 'laws.FnExactCallTerm'. -/
def fnExactCallTermCard : Claim7 := { stood := { row := fnExactCallTermRow, standIns := [], harness := (true, "040f6b375a38cc8bfac0c2e1efc70b2e11aed0023981ea5693c6d8e1359e7f37"), looks := true }, kinds := [], alts := [], laidByText := true, laidKinds := [.sentinel], laidTests := true, laidLooks := .later }
def FnExactCallTermCardSaid : Prop := Claim7.holds Tryd.pinned (.plain (OpenSpec.ofChange fnExactCallTermSpec)) fnExactCallTermCard

/-- THE TIED CARD OF 'laws.FnExactSizeOf'. -/
def fnExactSizeOfCard : Claim7 := { stood := { row := fnExactSizeOfRow, standIns := [], harness := (true, "040f6b375a38cc8bfac0c2e1efc70b2e11aed0023981ea5693c6d8e1359e7f37"), looks := true }, kinds := [], alts := [], laidByText := true, laidKinds := [.sentinel], laidTests := true, laidLooks := .later }
def FnExactSizeOfCardSaid : Prop := Claim7.holds Tryd.pinned (.plain (OpenSpec.ofChange fnExactSizeOfSpec)) fnExactSizeOfCard

/-- THE TIED CARD OF 'laws.FnExactDepthOf'. -/
def fnExactDepthOfCard : Claim7 := { stood := { row := fnExactDepthOfRow, standIns := [], harness := (true, "040f6b375a38cc8bfac0c2e1efc70b2e11aed0023981ea5693c6d8e1359e7f37"), looks := true }, kinds := [], alts := [], laidByText := true, laidKinds := [.sentinel], laidTests := true, laidLooks := .later }
def FnExactDepthOfCardSaid : Prop := Claim7.holds Tryd.pinned (.plain (OpenSpec.ofChange fnExactDepthOfSpec)) fnExactDepthOfCard

/-- THE TIED CARD OF 'laws.FnExactNamesIn'. -/
def fnExactNamesInCard : Claim7 := { stood := { row := fnExactNamesInRow, standIns := [], harness := (true, "040f6b375a38cc8bfac0c2e1efc70b2e11aed0023981ea5693c6d8e1359e7f37"), looks := true }, kinds := [], alts := [], laidByText := true, laidKinds := [.sentinel], laidTests := true, laidLooks := .later }
def FnExactNamesInCardSaid : Prop := Claim7.holds Tryd.pinned (.plain (OpenSpec.ofChange fnExactNamesInSpec)) fnExactNamesInCard

/-- THE TIED CARD OF 'laws.FnExactPutLiteral'. -/
def fnExactPutLiteralCard : Claim7 := { stood := { row := fnExactPutLiteralRow, standIns := [], harness := (true, "040f6b375a38cc8bfac0c2e1efc70b2e11aed0023981ea5693c6d8e1359e7f37"), looks := true }, kinds := [], alts := [], laidByText := true, laidKinds := [.data, .data, .data, .sentinel], laidTests := true, laidLooks := .later }
def FnExactPutLiteralCardSaid : Prop := Claim7.holds Tryd.pinned (.plain (OpenSpec.ofChange fnExactPutLiteralSpec)) fnExactPutLiteralCard

/-- THE TIED CARD OF 'laws.FnSizes'. -/
def fnSizesCard : Claim7 := { stood := { row := fnSizesRow, standIns := [], harness := (true, "040f6b375a38cc8bfac0c2e1efc70b2e11aed0023981ea5693c6d8e1359e7f37"), looks := true }, kinds := [], alts := [], laidByText := true, laidKinds := [.sentinel], laidTests := true, laidLooks := .later }
def FnSizesCardSaid : Prop := Claim7.holds Tryd.pinned (.plain (OpenSpec.ofChange fnSizesSpec)) fnSizesCard

/-- THE TIED CARD OF 'laws.FnParts'. -/
def fnPartsCard : Claim7 := { stood := { row := fnPartsRow, standIns := [], harness := (true, "040f6b375a38cc8bfac0c2e1efc70b2e11aed0023981ea5693c6d8e1359e7f37"), looks := true }, kinds := [], alts := [], laidByText := true, laidKinds := [.sentinel], laidTests := true, laidLooks := .later }
def FnPartsCardSaid : Prop := Claim7.holds Tryd.pinned (.plain (OpenSpec.ofChange fnPartsSpec)) fnPartsCard

/-- THE TIED CARD OF 'laws.FnCallTerm'. -/
def fnCallTermCard : Claim7 := { stood := { row := fnCallTermRow, standIns := [], harness := (true, "040f6b375a38cc8bfac0c2e1efc70b2e11aed0023981ea5693c6d8e1359e7f37"), looks := true }, kinds := [], alts := [], laidByText := true, laidKinds := [.sentinel], laidTests := true, laidLooks := .later }
def FnCallTermCardSaid : Prop := Claim7.holds Tryd.pinned (.plain (OpenSpec.ofChange fnCallTermSpec)) fnCallTermCard

/-- THE TIED CARD OF 'laws.FnPutLiteral'. -/
def fnPutLiteralCard : Claim7 := { stood := { row := fnPutLiteralRow, standIns := [], harness := (true, "040f6b375a38cc8bfac0c2e1efc70b2e11aed0023981ea5693c6d8e1359e7f37"), looks := true }, kinds := [], alts := [], laidByText := true, laidKinds := [.data, .data, .data, .sentinel], laidTests := true, laidLooks := .later }
def FnPutLiteralCardSaid : Prop := Claim7.holds Tryd.pinned (.plain (OpenSpec.ofChange fnPutLiteralSpec)) fnPutLiteralCard

/-- THE SECOND FORM's CARD OF 'laws.FnExactTermValid'. -/
def fnExactTermValidUptoCard : Claim7 := { stood := { row := fnExactTermValidUptoRow, standIns := [], harness := (true, "040f6b375a38cc8bfac0c2e1efc70b2e11aed0023981ea5693c6d8e1359e7f37"), looks := true }, kinds := [], alts := [], laidByText := true, laidKinds := [.sentinel], laidTests := true, laidLooks := .later }
def FnExactTermValidUptoCardSaid : Prop := Claim7.holds Tryd.pinned (.plain (OpenSpec.upto fnExactTermValidSpec)) fnExactTermValidUptoCard

/-- THE SECOND FORM's CARD OF 'laws.FnExactHeadOf'. -/
def fnExactHeadOfUptoCard : Claim7 := { stood := { row := fnExactHeadOfUptoRow, standIns := [], harness := (true, "040f6b375a38cc8bfac0c2e1efc70b2e11aed0023981ea5693c6d8e1359e7f37"), looks := true }, kinds := [], alts := [], laidByText := true, laidKinds := [.sentinel], laidTests := true, laidLooks := .later }
def FnExactHeadOfUptoCardSaid : Prop := Claim7.holds Tryd.pinned (.plain (OpenSpec.upto fnExactHeadOfSpec)) fnExactHeadOfUptoCard

/-- THE SECOND FORM's CARD OF 'laws.FnExactPartsOf'. -/
def fnExactPartsOfUptoCard : Claim7 := { stood := { row := fnExactPartsOfUptoRow, standIns := [], harness := (true, "040f6b375a38cc8bfac0c2e1efc70b2e11aed0023981ea5693c6d8e1359e7f37"), looks := true }, kinds := [], alts := [], laidByText := true, laidKinds := [.sentinel], laidTests := true, laidLooks := .later }
def FnExactPartsOfUptoCardSaid : Prop := Claim7.holds Tryd.pinned (.plain (OpenSpec.upto fnExactPartsOfSpec)) fnExactPartsOfUptoCard

/-- THE SECOND FORM's CARD OF 'laws.FnExactLiteralOf'. -/
def fnExactLiteralOfUptoCard : Claim7 := { stood := { row := fnExactLiteralOfUptoRow, standIns := [], harness := (true, "040f6b375a38cc8bfac0c2e1efc70b2e11aed0023981ea5693c6d8e1359e7f37"), looks := true }, kinds := [], alts := [], laidByText := true, laidKinds := [.sentinel], laidTests := true, laidLooks := .later }
def FnExactLiteralOfUptoCardSaid : Prop := Claim7.holds Tryd.pinned (.plain (OpenSpec.upto fnExactLiteralOfSpec)) fnExactLiteralOfUptoCard

/-- THE SECOND FORM's CARD OF 'laws.FnExactCallTerm'. -/
def fnExactCallTermUptoCard : Claim7 := { stood := { row := fnExactCallTermUptoRow, standIns := [], harness := (true, "040f6b375a38cc8bfac0c2e1efc70b2e11aed0023981ea5693c6d8e1359e7f37"), looks := true }, kinds := [], alts := [], laidByText := true, laidKinds := [.sentinel], laidTests := true, laidLooks := .later }
def FnExactCallTermUptoCardSaid : Prop := Claim7.holds Tryd.pinned (.plain (OpenSpec.upto fnExactCallTermSpec)) fnExactCallTermUptoCard

/-- THE SECOND FORM's CARD OF 'laws.FnExactSizeOf'. -/
def fnExactSizeOfUptoCard : Claim7 := { stood := { row := fnExactSizeOfUptoRow, standIns := [], harness := (true, "040f6b375a38cc8bfac0c2e1efc70b2e11aed0023981ea5693c6d8e1359e7f37"), looks := true }, kinds := [], alts := [], laidByText := true, laidKinds := [.sentinel], laidTests := true, laidLooks := .later }
def FnExactSizeOfUptoCardSaid : Prop := Claim7.holds Tryd.pinned (.plain (OpenSpec.upto fnExactSizeOfSpec)) fnExactSizeOfUptoCard

/-- THE SECOND FORM's CARD OF 'laws.FnExactDepthOf'. -/
def fnExactDepthOfUptoCard : Claim7 := { stood := { row := fnExactDepthOfUptoRow, standIns := [], harness := (true, "040f6b375a38cc8bfac0c2e1efc70b2e11aed0023981ea5693c6d8e1359e7f37"), looks := true }, kinds := [], alts := [], laidByText := true, laidKinds := [.sentinel], laidTests := true, laidLooks := .later }
def FnExactDepthOfUptoCardSaid : Prop := Claim7.holds Tryd.pinned (.plain (OpenSpec.upto fnExactDepthOfSpec)) fnExactDepthOfUptoCard

/-- THE SECOND FORM's CARD OF 'laws.FnExactNamesIn'. -/
def fnExactNamesInUptoCard : Claim7 := { stood := { row := fnExactNamesInUptoRow, standIns := [], harness := (true, "040f6b375a38cc8bfac0c2e1efc70b2e11aed0023981ea5693c6d8e1359e7f37"), looks := true }, kinds := [], alts := [], laidByText := true, laidKinds := [.sentinel], laidTests := true, laidLooks := .later }
def FnExactNamesInUptoCardSaid : Prop := Claim7.holds Tryd.pinned (.plain (OpenSpec.upto fnExactNamesInSpec)) fnExactNamesInUptoCard

/-- THE SECOND FORM's CARD OF 'laws.FnExactPutLiteral'. -/
def fnExactPutLiteralUptoCard : Claim7 := { stood := { row := fnExactPutLiteralUptoRow, standIns := [], harness := (true, "040f6b375a38cc8bfac0c2e1efc70b2e11aed0023981ea5693c6d8e1359e7f37"), looks := true }, kinds := [], alts := [], laidByText := true, laidKinds := [.data, .data, .data, .sentinel], laidTests := true, laidLooks := .later }
def FnExactPutLiteralUptoCardSaid : Prop := Claim7.holds Tryd.pinned (.plain (OpenSpec.upto fnExactPutLiteralSpec)) fnExactPutLiteralUptoCard

/-- THE SECOND FORM's CARD OF 'laws.FnSizes'. -/
def fnSizesUptoCard : Claim7 := { stood := { row := fnSizesUptoRow, standIns := [], harness := (true, "040f6b375a38cc8bfac0c2e1efc70b2e11aed0023981ea5693c6d8e1359e7f37"), looks := true }, kinds := [], alts := [], laidByText := true, laidKinds := [.sentinel], laidTests := true, laidLooks := .later }
def FnSizesUptoCardSaid : Prop := Claim7.holds Tryd.pinned (.plain (OpenSpec.upto fnSizesSpec)) fnSizesUptoCard

/-- THE SECOND FORM's CARD OF 'laws.FnParts'. -/
def fnPartsUptoCard : Claim7 := { stood := { row := fnPartsUptoRow, standIns := [], harness := (true, "040f6b375a38cc8bfac0c2e1efc70b2e11aed0023981ea5693c6d8e1359e7f37"), looks := true }, kinds := [], alts := [], laidByText := true, laidKinds := [.sentinel], laidTests := true, laidLooks := .later }
def FnPartsUptoCardSaid : Prop := Claim7.holds Tryd.pinned (.plain (OpenSpec.upto fnPartsSpec)) fnPartsUptoCard

/-- THE SECOND FORM's CARD OF 'laws.FnCallTerm'. -/
def fnCallTermUptoCard : Claim7 := { stood := { row := fnCallTermUptoRow, standIns := [], harness := (true, "040f6b375a38cc8bfac0c2e1efc70b2e11aed0023981ea5693c6d8e1359e7f37"), looks := true }, kinds := [], alts := [], laidByText := true, laidKinds := [.sentinel], laidTests := true, laidLooks := .later }
def FnCallTermUptoCardSaid : Prop := Claim7.holds Tryd.pinned (.plain (OpenSpec.upto fnCallTermSpec)) fnCallTermUptoCard

/-- THE SECOND FORM's CARD OF 'laws.FnPutLiteral'. -/
def fnPutLiteralUptoCard : Claim7 := { stood := { row := fnPutLiteralUptoRow, standIns := [], harness := (true, "040f6b375a38cc8bfac0c2e1efc70b2e11aed0023981ea5693c6d8e1359e7f37"), looks := true }, kinds := [], alts := [], laidByText := true, laidKinds := [.data, .data, .data, .sentinel], laidTests := true, laidLooks := .later }
def FnPutLiteralUptoCardSaid : Prop := Claim7.holds Tryd.pinned (.plain (OpenSpec.upto fnPutLiteralSpec)) fnPutLiteralUptoCard
end Rows
end Go.Proofs.YtcecljolnknapaaDoor
