/-
  DERIVED. GIVEN WITH THE SEED: THE CARDS: each row of YthldlbbkbbgdkaaDoorRows.lean that lists a variable, with what it lists TIED to the program's text (the seventh form; the later family's looks); each row that meets fmt, with fmt's text TOLD by the authors' own Lean function (tested against real Go, not proved from fmt's source: count such statements apart). THE CARD IS WHAT COUNTS. Prove the row's statement (the work); the ties are given (YthldlbbkbbgdkaaDoorTie.lean); close each card by the builder's one call (the guide's Derived/Test/ToyasCard.lean, 'card_holds'). Laid BY PROGRAM, IN A SANDBOX (cutbox-door.mjs). By AI agents, Wed Nov 11 2026. No macro, syntax, notation, axiom, sorry.
-/
import Derived.Test.YthldlbbkbbgdkaaDoorRows
import GoSem.ClaimSeven
namespace Go.Proofs.YthldlbbkbbgdkaaDoor
namespace Rows

/-- THE TIED CARD OF 'laws.FnExactWrapMade'. -/
def fnExactWrapMadeCard : Claim7 := { stood := { row := fnExactWrapMadeRow, standIns := [], harness := (true, "b03409d1ed5f276ab18206cdf055bea611961b66e277dce49ed97f1dfab00445"), looks := true }, kinds := [], alts := [], laidByText := true, laidKinds := [.data, .data, .data], laidTests := true, laidLooks := .later }
def FnExactWrapMadeCardSaid : Prop := Claim7.holds Tryd.pinned (.plain (OpenSpec.ofChange fnExactWrapMadeSpec)) fnExactWrapMadeCard

/-- THE TIED CARD OF 'laws.FnExactMadeType'. -/
def fnExactMadeTypeCard : Claim7 := { stood := { row := fnExactMadeTypeRow, standIns := [], harness := (true, "b03409d1ed5f276ab18206cdf055bea611961b66e277dce49ed97f1dfab00445"), looks := true }, kinds := [], alts := [], laidByText := true, laidKinds := [.sentinel], laidTests := true, laidLooks := .later }
def FnExactMadeTypeCardSaid : Prop := Claim7.holds Tryd.pinned (.plain (OpenSpec.ofChange fnExactMadeTypeSpec)) fnExactMadeTypeCard

/-- THE TIED CARD OF 'laws.FnExactCoercionsIn'. -/
def fnExactCoercionsInCard : Claim7 := { stood := { row := fnExactCoercionsInRow, standIns := [], harness := (true, "b03409d1ed5f276ab18206cdf055bea611961b66e277dce49ed97f1dfab00445"), looks := true }, kinds := [], alts := [], laidByText := true, laidKinds := [.sentinel], laidTests := true, laidLooks := .later }
def FnExactCoercionsInCardSaid : Prop := Claim7.holds Tryd.pinned (.plain (OpenSpec.ofChange fnExactCoercionsInSpec)) fnExactCoercionsInCard

/-- THE TIED CARD OF 'laws.FnExactFunctionsIn'. -/
def fnExactFunctionsInCard : Claim7 := { stood := { row := fnExactFunctionsInRow, standIns := [], harness := (true, "b03409d1ed5f276ab18206cdf055bea611961b66e277dce49ed97f1dfab00445"), looks := true }, kinds := [], alts := [], laidByText := true, laidKinds := [.sentinel], laidTests := true, laidLooks := .later }
def FnExactFunctionsInCardSaid : Prop := Claim7.holds Tryd.pinned (.plain (OpenSpec.ofChange fnExactFunctionsInSpec)) fnExactFunctionsInCard

/-- THE SECOND FORM's CARD OF 'laws.FnExactWrapMade'. -/
def fnExactWrapMadeUptoCard : Claim7 := { stood := { row := fnExactWrapMadeUptoRow, standIns := [], harness := (true, "b03409d1ed5f276ab18206cdf055bea611961b66e277dce49ed97f1dfab00445"), looks := true }, kinds := [], alts := [], laidByText := true, laidKinds := [.data, .data, .data], laidTests := true, laidLooks := .later }
def FnExactWrapMadeUptoCardSaid : Prop := Claim7.holds Tryd.pinned (.plain (OpenSpec.upto fnExactWrapMadeSpec)) fnExactWrapMadeUptoCard

/-- THE SECOND FORM's CARD OF 'laws.FnExactMadeType'. -/
def fnExactMadeTypeUptoCard : Claim7 := { stood := { row := fnExactMadeTypeUptoRow, standIns := [], harness := (true, "b03409d1ed5f276ab18206cdf055bea611961b66e277dce49ed97f1dfab00445"), looks := true }, kinds := [], alts := [], laidByText := true, laidKinds := [.sentinel], laidTests := true, laidLooks := .later }
def FnExactMadeTypeUptoCardSaid : Prop := Claim7.holds Tryd.pinned (.plain (OpenSpec.upto fnExactMadeTypeSpec)) fnExactMadeTypeUptoCard

/-- THE SECOND FORM's CARD OF 'laws.FnExactCoercionsIn'. -/
def fnExactCoercionsInUptoCard : Claim7 := { stood := { row := fnExactCoercionsInUptoRow, standIns := [], harness := (true, "b03409d1ed5f276ab18206cdf055bea611961b66e277dce49ed97f1dfab00445"), looks := true }, kinds := [], alts := [], laidByText := true, laidKinds := [.sentinel], laidTests := true, laidLooks := .later }
def FnExactCoercionsInUptoCardSaid : Prop := Claim7.holds Tryd.pinned (.plain (OpenSpec.upto fnExactCoercionsInSpec)) fnExactCoercionsInUptoCard

/-- THE SECOND FORM's CARD OF 'laws.FnExactFunctionsIn'. -/
def fnExactFunctionsInUptoCard : Claim7 := { stood := { row := fnExactFunctionsInUptoRow, standIns := [], harness := (true, "b03409d1ed5f276ab18206cdf055bea611961b66e277dce49ed97f1dfab00445"), looks := true }, kinds := [], alts := [], laidByText := true, laidKinds := [.sentinel], laidTests := true, laidLooks := .later }
def FnExactFunctionsInUptoCardSaid : Prop := Claim7.holds Tryd.pinned (.plain (OpenSpec.upto fnExactFunctionsInSpec)) fnExactFunctionsInUptoCard
end Rows
end Go.Proofs.YthldlbbkbbgdkaaDoor
