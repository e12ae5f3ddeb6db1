/-
  DERIVED. GIVEN WITH THE SEED: THE CARDS: each row of YtgkfddhhkjblgaaGreatDoorRows.lean that lists a variable, with what it lists TIED to the program's text (the seventh form; the later family's looks); each row that meets fmt, with fmt's text TOLD by the authors' own Lean function (tested against real Go, not proved from fmt's source: count such statements apart). THE CARD IS WHAT COUNTS. Prove the row's statement (the work); the ties are given (YtgkfddhhkjblgaaGreatDoorTie.lean); close each card by the builder's one call (the guide's Derived/Test/ToyasCard.lean, 'card_holds'). Laid BY PROGRAM, IN A SANDBOX (cutbox-door.mjs). By AI agents, Wed Nov 11 2026. No macro, syntax, notation, axiom, sorry.
-/
import Derived.Test.YtgkfddhhkjblgaaGreatDoorRows
import GoSem.ClaimSeven
namespace Go.Proofs.YtgkfddhhkjblgaaGreatDoor
namespace Rows

/-- THE TIED CARD OF 'laws.FnExactElaborate'. -/
def fnExactElaborateCard : Claim7 := { stood := { row := fnExactElaborateRow, standIns := [], harness := (true, "df15e2f89129fce7bdb0e100697240c6e5501aaca2c84bce02d3c6cd9e3349af"), looks := true }, kinds := [], alts := [], laidByText := true, laidKinds := [.sentinel, .sentinel, .sentinel, .sentinel, .sentinel, .sentinel], laidTests := true, laidLooks := .later }
def FnExactElaborateCardSaid : Prop := Claim7.holds Tryz.pinned (.plain (OpenSpec.ofChange fnExactElaborateSpec)) fnExactElaborateCard

/-- THE TIED CARD OF 'laws.FnExactTypeOf'. -/
def fnExactTypeOfCard : Claim7 := { stood := { row := fnExactTypeOfRow, standIns := [], harness := (true, "df15e2f89129fce7bdb0e100697240c6e5501aaca2c84bce02d3c6cd9e3349af"), looks := true }, kinds := [], alts := [], laidByText := true, laidKinds := [.sentinel, .sentinel, .sentinel, .sentinel, .sentinel, .sentinel], laidTests := true, laidLooks := .later }
def FnExactTypeOfCardSaid : Prop := Claim7.holds Tryz.pinned (.plain (OpenSpec.ofChange fnExactTypeOfSpec)) fnExactTypeOfCard

/-- THE TIED CARD OF 'laws.FnExactElaborateAt'. -/
def fnExactElaborateAtCard : Claim7 := { stood := { row := fnExactElaborateAtRow, standIns := [], harness := (true, "df15e2f89129fce7bdb0e100697240c6e5501aaca2c84bce02d3c6cd9e3349af"), looks := true }, kinds := [], alts := [], laidByText := true, laidKinds := [.sentinel, .sentinel, .sentinel, .sentinel, .sentinel, .sentinel], laidTests := true, laidLooks := .later }
def FnExactElaborateAtCardSaid : Prop := Claim7.holds Tryz.pinned (.plain (OpenSpec.ofChange fnExactElaborateAtSpec)) fnExactElaborateAtCard

/-- THE TIED CARD OF 'laws.FnExactAllMade'. -/
def fnExactAllMadeCard : Claim7 := { stood := { row := fnExactAllMadeRow, standIns := [], harness := (true, "df15e2f89129fce7bdb0e100697240c6e5501aaca2c84bce02d3c6cd9e3349af"), looks := true }, kinds := [], alts := [], laidByText := true, laidKinds := [.sentinel], laidTests := true, laidLooks := .later }
def FnExactAllMadeCardSaid : Prop := Claim7.holds Tryz.pinned (.plain (OpenSpec.ofChange fnExactAllMadeSpec)) fnExactAllMadeCard

/-- THE TIED CARD OF 'laws.FnExactKindsOf'. -/
def fnExactKindsOfCard : Claim7 := { stood := { row := fnExactKindsOfRow, standIns := [], harness := (true, "df15e2f89129fce7bdb0e100697240c6e5501aaca2c84bce02d3c6cd9e3349af"), looks := true }, kinds := [], alts := [], laidByText := true, laidKinds := [.sentinel], laidTests := true, laidLooks := .later }
def FnExactKindsOfCardSaid : Prop := Claim7.holds Tryz.pinned (.plain (OpenSpec.ofChange fnExactKindsOfSpec)) fnExactKindsOfCard

/-- THE TIED CARD OF 'laws.FnExactLeastKind'. -/
def fnExactLeastKindCard : Claim7 := { stood := { row := fnExactLeastKindRow, standIns := [], harness := (true, "df15e2f89129fce7bdb0e100697240c6e5501aaca2c84bce02d3c6cd9e3349af"), looks := true }, kinds := [], alts := [], laidByText := true, laidKinds := [.sentinel], laidTests := true, laidLooks := .later }
def FnExactLeastKindCardSaid : Prop := Claim7.holds Tryz.pinned (.plain (OpenSpec.ofChange fnExactLeastKindSpec)) fnExactLeastKindCard

/-- THE TIED CARD OF 'laws.FnExactCheapestMade'. -/
def fnExactCheapestMadeCard : Claim7 := { stood := { row := fnExactCheapestMadeRow, standIns := [], harness := (true, "df15e2f89129fce7bdb0e100697240c6e5501aaca2c84bce02d3c6cd9e3349af"), looks := true }, kinds := [], alts := [], laidByText := true, laidKinds := [.sentinel], laidTests := true, laidLooks := .later }
def FnExactCheapestMadeCardSaid : Prop := Claim7.holds Tryz.pinned (.plain (OpenSpec.ofChange fnExactCheapestMadeSpec)) fnExactCheapestMadeCard

/-- THE SECOND FORM's CARD OF 'laws.FnExactElaborate'. -/
def fnExactElaborateUptoCard : Claim7 := { stood := { row := fnExactElaborateUptoRow, standIns := [], harness := (true, "df15e2f89129fce7bdb0e100697240c6e5501aaca2c84bce02d3c6cd9e3349af"), looks := true }, kinds := [], alts := [], laidByText := true, laidKinds := [.sentinel, .sentinel, .sentinel, .sentinel, .sentinel, .sentinel], laidTests := true, laidLooks := .later }
def FnExactElaborateUptoCardSaid : Prop := Claim7.holds Tryz.pinned (.plain (OpenSpec.upto fnExactElaborateSpec)) fnExactElaborateUptoCard

/-- THE SECOND FORM's CARD OF 'laws.FnExactTypeOf'. -/
def fnExactTypeOfUptoCard : Claim7 := { stood := { row := fnExactTypeOfUptoRow, standIns := [], harness := (true, "df15e2f89129fce7bdb0e100697240c6e5501aaca2c84bce02d3c6cd9e3349af"), looks := true }, kinds := [], alts := [], laidByText := true, laidKinds := [.sentinel, .sentinel, .sentinel, .sentinel, .sentinel, .sentinel], laidTests := true, laidLooks := .later }
def FnExactTypeOfUptoCardSaid : Prop := Claim7.holds Tryz.pinned (.plain (OpenSpec.upto fnExactTypeOfSpec)) fnExactTypeOfUptoCard

/-- THE SECOND FORM's CARD OF 'laws.FnExactElaborateAt'. -/
def fnExactElaborateAtUptoCard : Claim7 := { stood := { row := fnExactElaborateAtUptoRow, standIns := [], harness := (true, "df15e2f89129fce7bdb0e100697240c6e5501aaca2c84bce02d3c6cd9e3349af"), looks := true }, kinds := [], alts := [], laidByText := true, laidKinds := [.sentinel, .sentinel, .sentinel, .sentinel, .sentinel, .sentinel], laidTests := true, laidLooks := .later }
def FnExactElaborateAtUptoCardSaid : Prop := Claim7.holds Tryz.pinned (.plain (OpenSpec.upto fnExactElaborateAtSpec)) fnExactElaborateAtUptoCard

/-- THE SECOND FORM's CARD OF 'laws.FnExactAllMade'. -/
def fnExactAllMadeUptoCard : Claim7 := { stood := { row := fnExactAllMadeUptoRow, standIns := [], harness := (true, "df15e2f89129fce7bdb0e100697240c6e5501aaca2c84bce02d3c6cd9e3349af"), looks := true }, kinds := [], alts := [], laidByText := true, laidKinds := [.sentinel], laidTests := true, laidLooks := .later }
def FnExactAllMadeUptoCardSaid : Prop := Claim7.holds Tryz.pinned (.plain (OpenSpec.upto fnExactAllMadeSpec)) fnExactAllMadeUptoCard

/-- THE SECOND FORM's CARD OF 'laws.FnExactKindsOf'. -/
def fnExactKindsOfUptoCard : Claim7 := { stood := { row := fnExactKindsOfUptoRow, standIns := [], harness := (true, "df15e2f89129fce7bdb0e100697240c6e5501aaca2c84bce02d3c6cd9e3349af"), looks := true }, kinds := [], alts := [], laidByText := true, laidKinds := [.sentinel], laidTests := true, laidLooks := .later }
def FnExactKindsOfUptoCardSaid : Prop := Claim7.holds Tryz.pinned (.plain (OpenSpec.upto fnExactKindsOfSpec)) fnExactKindsOfUptoCard

/-- THE SECOND FORM's CARD OF 'laws.FnExactLeastKind'. -/
def fnExactLeastKindUptoCard : Claim7 := { stood := { row := fnExactLeastKindUptoRow, standIns := [], harness := (true, "df15e2f89129fce7bdb0e100697240c6e5501aaca2c84bce02d3c6cd9e3349af"), looks := true }, kinds := [], alts := [], laidByText := true, laidKinds := [.sentinel], laidTests := true, laidLooks := .later }
def FnExactLeastKindUptoCardSaid : Prop := Claim7.holds Tryz.pinned (.plain (OpenSpec.upto fnExactLeastKindSpec)) fnExactLeastKindUptoCard

/-- THE SECOND FORM's CARD OF 'laws.FnExactCheapestMade'. -/
def fnExactCheapestMadeUptoCard : Claim7 := { stood := { row := fnExactCheapestMadeUptoRow, standIns := [], harness := (true, "df15e2f89129fce7bdb0e100697240c6e5501aaca2c84bce02d3c6cd9e3349af"), looks := true }, kinds := [], alts := [], laidByText := true, laidKinds := [.sentinel], laidTests := true, laidLooks := .later }
def FnExactCheapestMadeUptoCardSaid : Prop := Claim7.holds Tryz.pinned (.plain (OpenSpec.upto fnExactCheapestMadeSpec)) fnExactCheapestMadeUptoCard
end Rows
end Go.Proofs.YtgkfddhhkjblgaaGreatDoor
