/-
  DERIVED. GIVEN WITH THE SEED: THE CARDS: each row of YtbblhjdcpmahkaaGreatDoorRows.lean that lists a variable, with what it lists TIED to the program's text (the seventh form; the later family's looks); each row that meets fmt, with fmt's text TOLD by the authors' own Lean function (tested against real Go, not proved from fmt's source: count such statements apart). THE CARD IS WHAT COUNTS. Prove the row's statement (the work); the ties are given (YtbblhjdcpmahkaaGreatDoorTie.lean); close each card by the builder's one call (the guide's Derived/Test/ToyasCard.lean, 'card_holds'). Laid BY PROGRAM, IN A SANDBOX (cutbox-door.mjs). By AI agents, Wed Nov 11 2026. No macro, syntax, notation, axiom, sorry.
-/
import Derived.Test.YtbblhjdcpmahkaaGreatDoorRows
import GoSem.ClaimSeven
namespace Go.Proofs.YtbblhjdcpmahkaaGreatDoor
namespace Rows

/-- THE TIED CARD OF 'laws.FnExactResolveCall'. -/
def fnExactResolveCallCard : Claim7 := { stood := { row := fnExactResolveCallRow, standIns := [], harness := (true, "d9cc03d4d022640ef0cff1e13a7a934b5ffd85a011cd46a10f54aad9f0bce758"), looks := true }, kinds := [], alts := [], laidByText := true, laidKinds := [.sentinel, .sentinel], laidTests := true, laidLooks := .later }
def FnExactResolveCallCardSaid : Prop := Claim7.holds Tryz.pinned (.plain (OpenSpec.ofChange fnExactResolveCallSpec)) fnExactResolveCallCard

/-- THE TIED CARD OF 'laws.FnExactResolveByCost'. -/
def fnExactResolveByCostCard : Claim7 := { stood := { row := fnExactResolveByCostRow, standIns := [], harness := (true, "d9cc03d4d022640ef0cff1e13a7a934b5ffd85a011cd46a10f54aad9f0bce758"), looks := true }, kinds := [], alts := [], laidByText := true, laidKinds := [.sentinel, .sentinel], laidTests := true, laidLooks := .later }
def FnExactResolveByCostCardSaid : Prop := Claim7.holds Tryz.pinned (.plain (OpenSpec.ofChange fnExactResolveByCostSpec)) fnExactResolveByCostCard

/-- THE TIED CARD OF 'laws.FnExactRulesAgree'. -/
def fnExactRulesAgreeCard : Claim7 := { stood := { row := fnExactRulesAgreeRow, standIns := [], harness := (true, "d9cc03d4d022640ef0cff1e13a7a934b5ffd85a011cd46a10f54aad9f0bce758"), looks := true }, kinds := [], alts := [], laidByText := true, laidKinds := [.sentinel, .sentinel], laidTests := true, laidLooks := .later }
def FnExactRulesAgreeCardSaid : Prop := Claim7.holds Tryz.pinned (.plain (OpenSpec.ofChange fnExactRulesAgreeSpec)) fnExactRulesAgreeCard

/-- THE SECOND FORM's CARD OF 'laws.FnExactResolveCall'. -/
def fnExactResolveCallUptoCard : Claim7 := { stood := { row := fnExactResolveCallUptoRow, standIns := [], harness := (true, "d9cc03d4d022640ef0cff1e13a7a934b5ffd85a011cd46a10f54aad9f0bce758"), looks := true }, kinds := [], alts := [], laidByText := true, laidKinds := [.sentinel, .sentinel], laidTests := true, laidLooks := .later }
def FnExactResolveCallUptoCardSaid : Prop := Claim7.holds Tryz.pinned (.plain (OpenSpec.upto fnExactResolveCallSpec)) fnExactResolveCallUptoCard

/-- THE SECOND FORM's CARD OF 'laws.FnExactResolveByCost'. -/
def fnExactResolveByCostUptoCard : Claim7 := { stood := { row := fnExactResolveByCostUptoRow, standIns := [], harness := (true, "d9cc03d4d022640ef0cff1e13a7a934b5ffd85a011cd46a10f54aad9f0bce758"), looks := true }, kinds := [], alts := [], laidByText := true, laidKinds := [.sentinel, .sentinel], laidTests := true, laidLooks := .later }
def FnExactResolveByCostUptoCardSaid : Prop := Claim7.holds Tryz.pinned (.plain (OpenSpec.upto fnExactResolveByCostSpec)) fnExactResolveByCostUptoCard

/-- THE SECOND FORM's CARD OF 'laws.FnExactRulesAgree'. -/
def fnExactRulesAgreeUptoCard : Claim7 := { stood := { row := fnExactRulesAgreeUptoRow, standIns := [], harness := (true, "d9cc03d4d022640ef0cff1e13a7a934b5ffd85a011cd46a10f54aad9f0bce758"), looks := true }, kinds := [], alts := [], laidByText := true, laidKinds := [.sentinel, .sentinel], laidTests := true, laidLooks := .later }
def FnExactRulesAgreeUptoCardSaid : Prop := Claim7.holds Tryz.pinned (.plain (OpenSpec.upto fnExactRulesAgreeSpec)) fnExactRulesAgreeUptoCard
end Rows
end Go.Proofs.YtbblhjdcpmahkaaGreatDoor
