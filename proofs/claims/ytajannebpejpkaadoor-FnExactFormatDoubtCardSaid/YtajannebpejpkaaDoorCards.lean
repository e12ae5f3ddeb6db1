/-
  DERIVED. GIVEN WITH THE SEED: THE CARDS: each row of YtajannebpejpkaaDoorRows.lean that lists a variable, with what it lists TIED to the program's text (the seventh form; the later family's looks); each row that meets fmt, with fmt's text TOLD by the authors' own Lean function (tested against real Go, not proved from fmt's source: count such statements apart). THE CARD IS WHAT COUNTS. Prove the row's statement (the work); the ties are given (YtajannebpejpkaaDoorTie.lean); close each card by the builder's one call (the guide's Derived/Test/ToyasCard.lean, 'card_holds'). Laid BY PROGRAM, IN A SANDBOX (cutbox-door.mjs). By AI agents, Wed Nov 11 2026. No macro, syntax, notation, axiom, sorry.
-/
import Derived.Test.YtajannebpejpkaaDoorRows
import GoSem.ClaimSeven
namespace Go.Proofs.YtajannebpejpkaaDoor
namespace Rows

/-- THE TIED CARD OF 'laws.FnExactFormatNumbers'. -/
def fnExactFormatNumbersCard : Claim7 := { stood := { row := fnExactFormatNumbersRow, standIns := [], harness := (true, "8e3fbfc99650b807ab0145d5d72207a9b8277e15e11e57c593612dd39d613398"), looks := false }, kinds := [], alts := [], laidByText := true, laidKinds := [.data, .data, .data], laidTests := true, laidLooks := .later }
def FnExactFormatNumbersCardSaid : Prop := Claim7.holds Tryd.pinned (.plain (OpenSpec.ofChange fnExactFormatNumbersSpec)) fnExactFormatNumbersCard

/-- THE TIED CARD OF 'laws.FnExactFormatDoubt'. -/
def fnExactFormatDoubtCard : Claim7 := { stood := { row := fnExactFormatDoubtRow, standIns := [], harness := (true, "8e3fbfc99650b807ab0145d5d72207a9b8277e15e11e57c593612dd39d613398"), looks := false }, kinds := [], alts := [], laidByText := true, laidKinds := [.data, .data, .data], laidTests := true, laidLooks := .later }
def FnExactFormatDoubtCardSaid : Prop := Claim7.holds Tryd.pinned (.plain (OpenSpec.ofChange fnExactFormatDoubtSpec)) fnExactFormatDoubtCard

/-- THE TIED CARD OF 'laws.FnExactFormatGap'. -/
def fnExactFormatGapCard : Claim7 := { stood := { row := fnExactFormatGapRow, standIns := [], harness := (true, "8e3fbfc99650b807ab0145d5d72207a9b8277e15e11e57c593612dd39d613398"), looks := false }, kinds := [], alts := [], laidByText := true, laidKinds := [.data, .data, .data], laidTests := true, laidLooks := .later }
def FnExactFormatGapCardSaid : Prop := Claim7.holds Tryd.pinned (.plain (OpenSpec.ofChange fnExactFormatGapSpec)) fnExactFormatGapCard

/-- THE TIED CARD OF 'laws.FnExactFormatClash'. -/
def fnExactFormatClashCard : Claim7 := { stood := { row := fnExactFormatClashRow, standIns := [], harness := (true, "8e3fbfc99650b807ab0145d5d72207a9b8277e15e11e57c593612dd39d613398"), looks := false }, kinds := [], alts := [], laidByText := true, laidKinds := [.data, .data, .data], laidTests := true, laidLooks := .later }
def FnExactFormatClashCardSaid : Prop := Claim7.holds Tryd.pinned (.plain (OpenSpec.ofChange fnExactFormatClashSpec)) fnExactFormatClashCard

/-- THE SECOND FORM's CARD OF 'laws.FnExactFormatNumbers'. -/
def fnExactFormatNumbersUptoCard : Claim7 := { stood := { row := fnExactFormatNumbersUptoRow, standIns := [], harness := (true, "8e3fbfc99650b807ab0145d5d72207a9b8277e15e11e57c593612dd39d613398"), looks := false }, kinds := [], alts := [], laidByText := true, laidKinds := [.data, .data, .data], laidTests := true, laidLooks := .later }
def FnExactFormatNumbersUptoCardSaid : Prop := Claim7.holds Tryd.pinned (.plain (OpenSpec.upto fnExactFormatNumbersSpec)) fnExactFormatNumbersUptoCard

/-- THE SECOND FORM's CARD OF 'laws.FnExactFormatDoubt'. -/
def fnExactFormatDoubtUptoCard : Claim7 := { stood := { row := fnExactFormatDoubtUptoRow, standIns := [], harness := (true, "8e3fbfc99650b807ab0145d5d72207a9b8277e15e11e57c593612dd39d613398"), looks := false }, kinds := [], alts := [], laidByText := true, laidKinds := [.data, .data, .data], laidTests := true, laidLooks := .later }
def FnExactFormatDoubtUptoCardSaid : Prop := Claim7.holds Tryd.pinned (.plain (OpenSpec.upto fnExactFormatDoubtSpec)) fnExactFormatDoubtUptoCard

/-- THE SECOND FORM's CARD OF 'laws.FnExactFormatGap'. -/
def fnExactFormatGapUptoCard : Claim7 := { stood := { row := fnExactFormatGapUptoRow, standIns := [], harness := (true, "8e3fbfc99650b807ab0145d5d72207a9b8277e15e11e57c593612dd39d613398"), looks := false }, kinds := [], alts := [], laidByText := true, laidKinds := [.data, .data, .data], laidTests := true, laidLooks := .later }
def FnExactFormatGapUptoCardSaid : Prop := Claim7.holds Tryd.pinned (.plain (OpenSpec.upto fnExactFormatGapSpec)) fnExactFormatGapUptoCard

/-- THE SECOND FORM's CARD OF 'laws.FnExactFormatClash'. -/
def fnExactFormatClashUptoCard : Claim7 := { stood := { row := fnExactFormatClashUptoRow, standIns := [], harness := (true, "8e3fbfc99650b807ab0145d5d72207a9b8277e15e11e57c593612dd39d613398"), looks := false }, kinds := [], alts := [], laidByText := true, laidKinds := [.data, .data, .data], laidTests := true, laidLooks := .later }
def FnExactFormatClashUptoCardSaid : Prop := Claim7.holds Tryd.pinned (.plain (OpenSpec.upto fnExactFormatClashSpec)) fnExactFormatClashUptoCard
end Rows
end Go.Proofs.YtajannebpejpkaaDoor
