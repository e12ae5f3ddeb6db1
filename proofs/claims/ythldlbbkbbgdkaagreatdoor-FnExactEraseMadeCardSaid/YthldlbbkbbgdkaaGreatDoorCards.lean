/-
  DERIVED. GIVEN WITH THE SEED: THE CARDS: each row of YthldlbbkbbgdkaaGreatDoorRows.lean that lists a variable, with what it lists TIED to the program's text (the seventh form; the later family's looks); each row that meets fmt, with fmt's text TOLD by the authors' own Lean function (tested against real Go, not proved from fmt's source: count such statements apart). THE CARD IS WHAT COUNTS. Prove the row's statement (the work); the ties are given (YthldlbbkbbgdkaaGreatDoorTie.lean); close each card by the builder's one call (the guide's Derived/Test/ToyasCard.lean, 'card_holds'). Laid BY PROGRAM, IN A SANDBOX (cutbox-door.mjs). By AI agents, Wed Nov 11 2026. No macro, syntax, notation, axiom, sorry.
-/
import Derived.Test.YthldlbbkbbgdkaaGreatDoorRows
import GoSem.ClaimSeven
namespace Go.Proofs.YthldlbbkbbgdkaaGreatDoor
namespace Rows

/-- THE TIED CARD OF 'laws.FnExactEraseMade'. -/
def fnExactEraseMadeCard : Claim7 := { stood := { row := fnExactEraseMadeRow, standIns := [], harness := (true, "ce8cf056fd2d6730b2e08b9e09126eca6f7f1c1c3568eb95e847e4b96edf6cf1"), looks := true }, kinds := [], alts := [], laidByText := true, laidKinds := [.sentinel], laidTests := true, laidLooks := .later }
def FnExactEraseMadeCardSaid : Prop := Claim7.holds Tryz.pinned (.plain (OpenSpec.ofChange fnExactEraseMadeSpec)) fnExactEraseMadeCard

/-- THE TIED CARD OF 'laws.FnExactElaborate'. -/
def fnExactElaborateCard : Claim7 := { stood := { row := fnExactElaborateRow, standIns := [], harness := (true, "ce8cf056fd2d6730b2e08b9e09126eca6f7f1c1c3568eb95e847e4b96edf6cf1"), looks := true }, kinds := [], alts := [], laidByText := true, laidKinds := [.sentinel, .sentinel, .sentinel, .sentinel, .sentinel, .sentinel], laidTests := true, laidLooks := .later }
def FnExactElaborateCardSaid : Prop := Claim7.holds Tryz.pinned (.plain (OpenSpec.ofChange fnExactElaborateSpec)) fnExactElaborateCard

/-- THE TIED CARD OF 'laws.FnExactTypeOf'. -/
def fnExactTypeOfCard : Claim7 := { stood := { row := fnExactTypeOfRow, standIns := [], harness := (true, "ce8cf056fd2d6730b2e08b9e09126eca6f7f1c1c3568eb95e847e4b96edf6cf1"), looks := true }, kinds := [], alts := [], laidByText := true, laidKinds := [.sentinel, .sentinel, .sentinel, .sentinel, .sentinel, .sentinel], laidTests := true, laidLooks := .later }
def FnExactTypeOfCardSaid : Prop := Claim7.holds Tryz.pinned (.plain (OpenSpec.ofChange fnExactTypeOfSpec)) fnExactTypeOfCard

/-- THE TIED CARD OF 'laws.FnExactElaborateAt'. -/
def fnExactElaborateAtCard : Claim7 := { stood := { row := fnExactElaborateAtRow, standIns := [], harness := (true, "ce8cf056fd2d6730b2e08b9e09126eca6f7f1c1c3568eb95e847e4b96edf6cf1"), looks := true }, kinds := [], alts := [], laidByText := true, laidKinds := [.sentinel, .sentinel, .sentinel, .sentinel, .sentinel, .sentinel], laidTests := true, laidLooks := .later }
def FnExactElaborateAtCardSaid : Prop := Claim7.holds Tryz.pinned (.plain (OpenSpec.ofChange fnExactElaborateAtSpec)) fnExactElaborateAtCard

/-- THE TIED CARD OF 'laws.FnElaborate'. -/
def fnElaborateCard : Claim7 := { stood := { row := fnElaborateRow, standIns := [], harness := (true, "ce8cf056fd2d6730b2e08b9e09126eca6f7f1c1c3568eb95e847e4b96edf6cf1"), looks := true }, kinds := [], alts := [], laidByText := true, laidKinds := [.sentinel, .sentinel, .sentinel, .sentinel, .sentinel, .sentinel], laidTests := true, laidLooks := .later }
def FnElaborateCardSaid : Prop := Claim7.holds Tryz.pinned (.plain (OpenSpec.ofChange fnElaborateSpec)) fnElaborateCard

/-- THE TIED CARD OF 'laws.FnElaborateParts'. -/
def fnElaboratePartsCard : Claim7 := { stood := { row := fnElaboratePartsRow, standIns := [], harness := (true, "ce8cf056fd2d6730b2e08b9e09126eca6f7f1c1c3568eb95e847e4b96edf6cf1"), looks := true }, kinds := [], alts := [], laidByText := true, laidKinds := [.data, .data, .data, .sentinel, .sentinel, .sentinel, .sentinel, .sentinel, .sentinel], laidTests := true, laidLooks := .later }
def FnElaboratePartsCardSaid : Prop := Claim7.holds Tryz.pinned (.plain (OpenSpec.ofChange fnElaboratePartsSpec)) fnElaboratePartsCard

/-- THE TIED CARD OF 'laws.FnElaborateAt'. -/
def fnElaborateAtCard : Claim7 := { stood := { row := fnElaborateAtRow, standIns := [], harness := (true, "ce8cf056fd2d6730b2e08b9e09126eca6f7f1c1c3568eb95e847e4b96edf6cf1"), looks := true }, kinds := [], alts := [], laidByText := true, laidKinds := [.data, .data, .data, .sentinel, .sentinel, .sentinel, .sentinel, .sentinel, .sentinel], laidTests := true, laidLooks := .later }
def FnElaborateAtCardSaid : Prop := Claim7.holds Tryz.pinned (.plain (OpenSpec.ofChange fnElaborateAtSpec)) fnElaborateAtCard

/-- THE TIED CARD OF 'laws.FnMade'. -/
def fnMadeCard : Claim7 := { stood := { row := fnMadeRow, standIns := [], harness := (true, "ce8cf056fd2d6730b2e08b9e09126eca6f7f1c1c3568eb95e847e4b96edf6cf1"), looks := true }, kinds := [], alts := [], laidByText := true, laidKinds := [.sentinel], laidTests := true, laidLooks := .later }
def FnMadeCardSaid : Prop := Claim7.holds Tryz.pinned (.plain (OpenSpec.ofChange fnMadeSpec)) fnMadeCard

/-- THE TIED CARD OF 'laws.FnWrap'. -/
def fnWrapCard : Claim7 := { stood := { row := fnWrapRow, standIns := [], harness := (true, "ce8cf056fd2d6730b2e08b9e09126eca6f7f1c1c3568eb95e847e4b96edf6cf1"), looks := true }, kinds := [], alts := [], laidByText := true, laidKinds := [.data, .data, .data, .sentinel], laidTests := true, laidLooks := .later }
def FnWrapCardSaid : Prop := Claim7.holds Tryz.pinned (.plain (OpenSpec.ofChange fnWrapSpec)) fnWrapCard

/-- THE SECOND FORM's CARD OF 'laws.FnExactEraseMade'. -/
def fnExactEraseMadeUptoCard : Claim7 := { stood := { row := fnExactEraseMadeUptoRow, standIns := [], harness := (true, "ce8cf056fd2d6730b2e08b9e09126eca6f7f1c1c3568eb95e847e4b96edf6cf1"), looks := true }, kinds := [], alts := [], laidByText := true, laidKinds := [.sentinel], laidTests := true, laidLooks := .later }
def FnExactEraseMadeUptoCardSaid : Prop := Claim7.holds Tryz.pinned (.plain (OpenSpec.upto fnExactEraseMadeSpec)) fnExactEraseMadeUptoCard

/-- THE SECOND FORM's CARD OF 'laws.FnExactElaborate'. -/
def fnExactElaborateUptoCard : Claim7 := { stood := { row := fnExactElaborateUptoRow, standIns := [], harness := (true, "ce8cf056fd2d6730b2e08b9e09126eca6f7f1c1c3568eb95e847e4b96edf6cf1"), looks := true }, kinds := [], alts := [], laidByText := true, laidKinds := [.sentinel, .sentinel, .sentinel, .sentinel, .sentinel, .sentinel], laidTests := true, laidLooks := .later }
def FnExactElaborateUptoCardSaid : Prop := Claim7.holds Tryz.pinned (.plain (OpenSpec.upto fnExactElaborateSpec)) fnExactElaborateUptoCard

/-- THE SECOND FORM's CARD OF 'laws.FnExactTypeOf'. -/
def fnExactTypeOfUptoCard : Claim7 := { stood := { row := fnExactTypeOfUptoRow, standIns := [], harness := (true, "ce8cf056fd2d6730b2e08b9e09126eca6f7f1c1c3568eb95e847e4b96edf6cf1"), looks := true }, kinds := [], alts := [], laidByText := true, laidKinds := [.sentinel, .sentinel, .sentinel, .sentinel, .sentinel, .sentinel], laidTests := true, laidLooks := .later }
def FnExactTypeOfUptoCardSaid : Prop := Claim7.holds Tryz.pinned (.plain (OpenSpec.upto fnExactTypeOfSpec)) fnExactTypeOfUptoCard

/-- THE SECOND FORM's CARD OF 'laws.FnExactElaborateAt'. -/
def fnExactElaborateAtUptoCard : Claim7 := { stood := { row := fnExactElaborateAtUptoRow, standIns := [], harness := (true, "ce8cf056fd2d6730b2e08b9e09126eca6f7f1c1c3568eb95e847e4b96edf6cf1"), looks := true }, kinds := [], alts := [], laidByText := true, laidKinds := [.sentinel, .sentinel, .sentinel, .sentinel, .sentinel, .sentinel], laidTests := true, laidLooks := .later }
def FnExactElaborateAtUptoCardSaid : Prop := Claim7.holds Tryz.pinned (.plain (OpenSpec.upto fnExactElaborateAtSpec)) fnExactElaborateAtUptoCard

/-- THE SECOND FORM's CARD OF 'laws.FnElaborate'. -/
def fnElaborateUptoCard : Claim7 := { stood := { row := fnElaborateUptoRow, standIns := [], harness := (true, "ce8cf056fd2d6730b2e08b9e09126eca6f7f1c1c3568eb95e847e4b96edf6cf1"), looks := true }, kinds := [], alts := [], laidByText := true, laidKinds := [.sentinel, .sentinel, .sentinel, .sentinel, .sentinel, .sentinel], laidTests := true, laidLooks := .later }
def FnElaborateUptoCardSaid : Prop := Claim7.holds Tryz.pinned (.plain (OpenSpec.upto fnElaborateSpec)) fnElaborateUptoCard

/-- THE SECOND FORM's CARD OF 'laws.FnElaborateParts'. -/
def fnElaboratePartsUptoCard : Claim7 := { stood := { row := fnElaboratePartsUptoRow, standIns := [], harness := (true, "ce8cf056fd2d6730b2e08b9e09126eca6f7f1c1c3568eb95e847e4b96edf6cf1"), looks := true }, kinds := [], alts := [], laidByText := true, laidKinds := [.data, .data, .data, .sentinel, .sentinel, .sentinel, .sentinel, .sentinel, .sentinel], laidTests := true, laidLooks := .later }
def FnElaboratePartsUptoCardSaid : Prop := Claim7.holds Tryz.pinned (.plain (OpenSpec.upto fnElaboratePartsSpec)) fnElaboratePartsUptoCard

/-- THE SECOND FORM's CARD OF 'laws.FnElaborateAt'. -/
def fnElaborateAtUptoCard : Claim7 := { stood := { row := fnElaborateAtUptoRow, standIns := [], harness := (true, "ce8cf056fd2d6730b2e08b9e09126eca6f7f1c1c3568eb95e847e4b96edf6cf1"), looks := true }, kinds := [], alts := [], laidByText := true, laidKinds := [.data, .data, .data, .sentinel, .sentinel, .sentinel, .sentinel, .sentinel, .sentinel], laidTests := true, laidLooks := .later }
def FnElaborateAtUptoCardSaid : Prop := Claim7.holds Tryz.pinned (.plain (OpenSpec.upto fnElaborateAtSpec)) fnElaborateAtUptoCard

/-- THE SECOND FORM's CARD OF 'laws.FnMade'. -/
def fnMadeUptoCard : Claim7 := { stood := { row := fnMadeUptoRow, standIns := [], harness := (true, "ce8cf056fd2d6730b2e08b9e09126eca6f7f1c1c3568eb95e847e4b96edf6cf1"), looks := true }, kinds := [], alts := [], laidByText := true, laidKinds := [.sentinel], laidTests := true, laidLooks := .later }
def FnMadeUptoCardSaid : Prop := Claim7.holds Tryz.pinned (.plain (OpenSpec.upto fnMadeSpec)) fnMadeUptoCard

/-- THE SECOND FORM's CARD OF 'laws.FnWrap'. -/
def fnWrapUptoCard : Claim7 := { stood := { row := fnWrapUptoRow, standIns := [], harness := (true, "ce8cf056fd2d6730b2e08b9e09126eca6f7f1c1c3568eb95e847e4b96edf6cf1"), looks := true }, kinds := [], alts := [], laidByText := true, laidKinds := [.data, .data, .data, .sentinel], laidTests := true, laidLooks := .later }
def FnWrapUptoCardSaid : Prop := Claim7.holds Tryz.pinned (.plain (OpenSpec.upto fnWrapSpec)) fnWrapUptoCard
end Rows
end Go.Proofs.YthldlbbkbbgdkaaGreatDoor
