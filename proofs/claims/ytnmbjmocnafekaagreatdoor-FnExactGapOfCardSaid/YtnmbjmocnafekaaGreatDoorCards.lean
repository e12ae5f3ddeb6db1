/-
  DERIVED. GIVEN WITH THE SEED: THE CARDS: each row of YtnmbjmocnafekaaGreatDoorRows.lean that lists a variable, with what it lists TIED to the program's text (the seventh form; the later family's looks); each row that meets fmt, with fmt's text TOLD by the authors' own Lean function (tested against real Go, not proved from fmt's source: count such statements apart). THE CARD IS WHAT COUNTS. Prove the row's statement (the work); the ties are given (YtnmbjmocnafekaaGreatDoorTie.lean); close each card by the builder's one call (the guide's Derived/Test/ToyasCard.lean, 'card_holds'). Laid BY PROGRAM, IN A SANDBOX (cutbox-door.mjs). By AI agents, Wed Nov 11 2026. No macro, syntax, notation, axiom, sorry.
-/
import Derived.Test.YtnmbjmocnafekaaGreatDoorRows
import GoSem.ClaimSeven
namespace Go.Proofs.YtnmbjmocnafekaaGreatDoor
namespace Rows

/-- THE TIED CARD OF 'laws.FnExactIsRegular'. -/
def fnExactIsRegularCard : Claim7 := { stood := { row := fnExactIsRegularRow, standIns := [], harness := (true, "3d5569291c927a899ac75ae834e11c6be02b2fd93cb07d99d4102c5e7780f22f"), looks := true }, kinds := [], alts := [], laidByText := true, laidKinds := [.sentinel, .sentinel, .sentinel], laidTests := true, laidLooks := .later }
def FnExactIsRegularCardSaid : Prop := Claim7.holds Tryz.pinned (.plain (OpenSpec.ofChange fnExactIsRegularSpec)) fnExactIsRegularCard

/-- THE TIED CARD OF 'laws.FnExactGapOf'. -/
def fnExactGapOfCard : Claim7 := { stood := { row := fnExactGapOfRow, standIns := [], harness := (true, "3d5569291c927a899ac75ae834e11c6be02b2fd93cb07d99d4102c5e7780f22f"), looks := true }, kinds := [], alts := [], laidByText := true, laidKinds := [.handle, .sentinel, .sentinel, .sentinel], laidTests := true, laidLooks := .later }
def FnExactGapOfCardSaid : Prop := Claim7.holds Tryz.pinned (.plain (OpenSpec.ofChange fnExactGapOfSpec)) fnExactGapOfCard

/-- THE TIED CARD OF 'laws.FnExactAllMade'. -/
def fnExactAllMadeCard : Claim7 := { stood := { row := fnExactAllMadeRow, standIns := [], harness := (true, "3d5569291c927a899ac75ae834e11c6be02b2fd93cb07d99d4102c5e7780f22f"), looks := true }, kinds := [], alts := [], laidByText := true, laidKinds := [.sentinel], laidTests := true, laidLooks := .later }
def FnExactAllMadeCardSaid : Prop := Claim7.holds Tryz.pinned (.plain (OpenSpec.ofChange fnExactAllMadeSpec)) fnExactAllMadeCard

/-- THE TIED CARD OF 'laws.FnExactKindsOf'. -/
def fnExactKindsOfCard : Claim7 := { stood := { row := fnExactKindsOfRow, standIns := [], harness := (true, "3d5569291c927a899ac75ae834e11c6be02b2fd93cb07d99d4102c5e7780f22f"), looks := true }, kinds := [], alts := [], laidByText := true, laidKinds := [.sentinel], laidTests := true, laidLooks := .later }
def FnExactKindsOfCardSaid : Prop := Claim7.holds Tryz.pinned (.plain (OpenSpec.ofChange fnExactKindsOfSpec)) fnExactKindsOfCard

/-- THE TIED CARD OF 'laws.FnExactLeastKind'. -/
def fnExactLeastKindCard : Claim7 := { stood := { row := fnExactLeastKindRow, standIns := [], harness := (true, "3d5569291c927a899ac75ae834e11c6be02b2fd93cb07d99d4102c5e7780f22f"), looks := true }, kinds := [], alts := [], laidByText := true, laidKinds := [.sentinel], laidTests := true, laidLooks := .later }
def FnExactLeastKindCardSaid : Prop := Claim7.holds Tryz.pinned (.plain (OpenSpec.ofChange fnExactLeastKindSpec)) fnExactLeastKindCard

/-- THE TIED CARD OF 'laws.FnExactCheapestMade'. -/
def fnExactCheapestMadeCard : Claim7 := { stood := { row := fnExactCheapestMadeRow, standIns := [], harness := (true, "3d5569291c927a899ac75ae834e11c6be02b2fd93cb07d99d4102c5e7780f22f"), looks := true }, kinds := [], alts := [], laidByText := true, laidKinds := [.sentinel], laidTests := true, laidLooks := .later }
def FnExactCheapestMadeCardSaid : Prop := Claim7.holds Tryz.pinned (.plain (OpenSpec.ofChange fnExactCheapestMadeSpec)) fnExactCheapestMadeCard

/-- THE SECOND FORM's CARD OF 'laws.FnExactIsRegular'. -/
def fnExactIsRegularUptoCard : Claim7 := { stood := { row := fnExactIsRegularUptoRow, standIns := [], harness := (true, "3d5569291c927a899ac75ae834e11c6be02b2fd93cb07d99d4102c5e7780f22f"), looks := true }, kinds := [], alts := [], laidByText := true, laidKinds := [.sentinel, .sentinel, .sentinel], laidTests := true, laidLooks := .later }
def FnExactIsRegularUptoCardSaid : Prop := Claim7.holds Tryz.pinned (.plain (OpenSpec.upto fnExactIsRegularSpec)) fnExactIsRegularUptoCard

/-- THE SECOND FORM's CARD OF 'laws.FnExactGapOf'. -/
def fnExactGapOfUptoCard : Claim7 := { stood := { row := fnExactGapOfUptoRow, standIns := [], harness := (true, "3d5569291c927a899ac75ae834e11c6be02b2fd93cb07d99d4102c5e7780f22f"), looks := true }, kinds := [], alts := [], laidByText := true, laidKinds := [.handle, .sentinel, .sentinel, .sentinel], laidTests := true, laidLooks := .later }
def FnExactGapOfUptoCardSaid : Prop := Claim7.holds Tryz.pinned (.plain (OpenSpec.upto fnExactGapOfSpec)) fnExactGapOfUptoCard

/-- THE SECOND FORM's CARD OF 'laws.FnExactAllMade'. -/
def fnExactAllMadeUptoCard : Claim7 := { stood := { row := fnExactAllMadeUptoRow, standIns := [], harness := (true, "3d5569291c927a899ac75ae834e11c6be02b2fd93cb07d99d4102c5e7780f22f"), looks := true }, kinds := [], alts := [], laidByText := true, laidKinds := [.sentinel], laidTests := true, laidLooks := .later }
def FnExactAllMadeUptoCardSaid : Prop := Claim7.holds Tryz.pinned (.plain (OpenSpec.upto fnExactAllMadeSpec)) fnExactAllMadeUptoCard

/-- THE SECOND FORM's CARD OF 'laws.FnExactKindsOf'. -/
def fnExactKindsOfUptoCard : Claim7 := { stood := { row := fnExactKindsOfUptoRow, standIns := [], harness := (true, "3d5569291c927a899ac75ae834e11c6be02b2fd93cb07d99d4102c5e7780f22f"), looks := true }, kinds := [], alts := [], laidByText := true, laidKinds := [.sentinel], laidTests := true, laidLooks := .later }
def FnExactKindsOfUptoCardSaid : Prop := Claim7.holds Tryz.pinned (.plain (OpenSpec.upto fnExactKindsOfSpec)) fnExactKindsOfUptoCard

/-- THE SECOND FORM's CARD OF 'laws.FnExactLeastKind'. -/
def fnExactLeastKindUptoCard : Claim7 := { stood := { row := fnExactLeastKindUptoRow, standIns := [], harness := (true, "3d5569291c927a899ac75ae834e11c6be02b2fd93cb07d99d4102c5e7780f22f"), looks := true }, kinds := [], alts := [], laidByText := true, laidKinds := [.sentinel], laidTests := true, laidLooks := .later }
def FnExactLeastKindUptoCardSaid : Prop := Claim7.holds Tryz.pinned (.plain (OpenSpec.upto fnExactLeastKindSpec)) fnExactLeastKindUptoCard

/-- THE SECOND FORM's CARD OF 'laws.FnExactCheapestMade'. -/
def fnExactCheapestMadeUptoCard : Claim7 := { stood := { row := fnExactCheapestMadeUptoRow, standIns := [], harness := (true, "3d5569291c927a899ac75ae834e11c6be02b2fd93cb07d99d4102c5e7780f22f"), looks := true }, kinds := [], alts := [], laidByText := true, laidKinds := [.sentinel], laidTests := true, laidLooks := .later }
def FnExactCheapestMadeUptoCardSaid : Prop := Claim7.holds Tryz.pinned (.plain (OpenSpec.upto fnExactCheapestMadeSpec)) fnExactCheapestMadeUptoCard
end Rows
end Go.Proofs.YtnmbjmocnafekaaGreatDoor
