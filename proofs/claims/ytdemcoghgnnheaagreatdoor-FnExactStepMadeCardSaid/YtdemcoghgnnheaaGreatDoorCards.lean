/-
  DERIVED. GIVEN WITH THE SEED: THE CARDS: each row of YtdemcoghgnnheaaGreatDoorRows.lean that lists a variable, with what it lists TIED to the program's text (the seventh form; the later family's looks); each row that meets fmt, with fmt's text TOLD by the authors' own Lean function (tested against real Go, not proved from fmt's source: count such statements apart). THE CARD IS WHAT COUNTS. Prove the row's statement (the work); the ties are given (YtdemcoghgnnheaaGreatDoorTie.lean); close each card by the builder's one call (the guide's Derived/Test/ToyasCard.lean, 'card_holds'). Laid BY PROGRAM, IN A SANDBOX (cutbox-door.mjs). By AI agents, Wed Nov 11 2026. No macro, syntax, notation, axiom, sorry.
-/
import Derived.Test.YtdemcoghgnnheaaGreatDoorRows
import GoSem.ClaimSeven
namespace Go.Proofs.YtdemcoghgnnheaaGreatDoor
namespace Rows

/-- THE TIED CARD OF 'laws.FnExactElaborate'. -/
def fnExactElaborateCard : Claim7 := { stood := { row := fnExactElaborateRow, standIns := [], harness := (true, "a69105db7fed0491e38bd4fa3b80830dc393f29f9f2f26381bb01b053089a2ee"), looks := true }, kinds := [], alts := [], goes := true, laidByText := true, laidKinds := [.sentinel, .sentinel, .sentinel, .sentinel, .sentinel, .sentinel], laidTests := true, laidLooks := .later }
def FnExactElaborateCardSaid : Prop := Claim7.holds Tryz.pinned (.plain (OpenSpec.ofChange fnExactElaborateSpec)) fnExactElaborateCard

/-- THE TIED CARD OF 'laws.FnExactTypeOf'. -/
def fnExactTypeOfCard : Claim7 := { stood := { row := fnExactTypeOfRow, standIns := [], harness := (true, "a69105db7fed0491e38bd4fa3b80830dc393f29f9f2f26381bb01b053089a2ee"), looks := true }, kinds := [], alts := [], goes := true, laidByText := true, laidKinds := [.sentinel, .sentinel, .sentinel, .sentinel, .sentinel, .sentinel], laidTests := true, laidLooks := .later }
def FnExactTypeOfCardSaid : Prop := Claim7.holds Tryz.pinned (.plain (OpenSpec.ofChange fnExactTypeOfSpec)) fnExactTypeOfCard

/-- THE TIED CARD OF 'laws.FnExactElaborateAt'. -/
def fnExactElaborateAtCard : Claim7 := { stood := { row := fnExactElaborateAtRow, standIns := [], harness := (true, "a69105db7fed0491e38bd4fa3b80830dc393f29f9f2f26381bb01b053089a2ee"), looks := true }, kinds := [], alts := [], goes := true, laidByText := true, laidKinds := [.sentinel, .sentinel, .sentinel, .sentinel, .sentinel, .sentinel], laidTests := true, laidLooks := .later }
def FnExactElaborateAtCardSaid : Prop := Claim7.holds Tryz.pinned (.plain (OpenSpec.ofChange fnExactElaborateAtSpec)) fnExactElaborateAtCard

/-- THE TIED CARD OF 'laws.FnExactRunMade'. -/
def fnExactRunMadeCard : Claim7 := { stood := { row := fnExactRunMadeRow, standIns := [], harness := (true, "a69105db7fed0491e38bd4fa3b80830dc393f29f9f2f26381bb01b053089a2ee"), looks := true }, kinds := [], alts := [], goes := true, laidByText := true, laidKinds := [.sentinel], laidTests := true, laidLooks := .later }
def FnExactRunMadeCardSaid : Prop := Claim7.holds Tryz.pinned (.plain (OpenSpec.ofChange fnExactRunMadeSpec)) fnExactRunMadeCard

/-- THE TIED CARD OF 'laws.FnExactRunTerm'. -/
def fnExactRunTermCard : Claim7 := { stood := { row := fnExactRunTermRow, standIns := [], harness := (true, "a69105db7fed0491e38bd4fa3b80830dc393f29f9f2f26381bb01b053089a2ee"), looks := true }, kinds := [], alts := [], goes := true, laidByText := true, laidKinds := [.sentinel, .sentinel, .sentinel, .sentinel, .sentinel, .sentinel], laidTests := true, laidLooks := .later }
def FnExactRunTermCardSaid : Prop := Claim7.holds Tryz.pinned (.plain (OpenSpec.ofChange fnExactRunTermSpec)) fnExactRunTermCard

/-- THE TIED CARD OF 'laws.FnExactRunAt'. -/
def fnExactRunAtCard : Claim7 := { stood := { row := fnExactRunAtRow, standIns := [], harness := (true, "a69105db7fed0491e38bd4fa3b80830dc393f29f9f2f26381bb01b053089a2ee"), looks := true }, kinds := [], alts := [], goes := true, laidByText := true, laidKinds := [.sentinel, .sentinel, .sentinel, .sentinel, .sentinel, .sentinel], laidTests := true, laidLooks := .later }
def FnExactRunAtCardSaid : Prop := Claim7.holds Tryz.pinned (.plain (OpenSpec.ofChange fnExactRunAtSpec)) fnExactRunAtCard

/-- THE TIED CARD OF 'laws.FnExactStepsOf'. -/
def fnExactStepsOfCard : Claim7 := { stood := { row := fnExactStepsOfRow, standIns := [], harness := (true, "a69105db7fed0491e38bd4fa3b80830dc393f29f9f2f26381bb01b053089a2ee"), looks := true }, kinds := [], alts := [], goes := true, laidByText := true, laidKinds := [.sentinel], laidTests := true, laidLooks := .later }
def FnExactStepsOfCardSaid : Prop := Claim7.holds Tryz.pinned (.plain (OpenSpec.ofChange fnExactStepsOfSpec)) fnExactStepsOfCard

/-- THE TIED CARD OF 'laws.FnExactSameMade'. -/
def fnExactSameMadeCard : Claim7 := { stood := { row := fnExactSameMadeRow, standIns := [], harness := (true, "a69105db7fed0491e38bd4fa3b80830dc393f29f9f2f26381bb01b053089a2ee"), looks := true }, kinds := [], alts := [], goes := true, laidByText := true, laidKinds := [.sentinel], laidTests := true, laidLooks := .later }
def FnExactSameMadeCardSaid : Prop := Claim7.holds Tryz.pinned (.plain (OpenSpec.ofChange fnExactSameMadeSpec)) fnExactSameMadeCard

/-- THE TIED CARD OF 'laws.FnExactNormal'. -/
def fnExactNormalCard : Claim7 := { stood := { row := fnExactNormalRow, standIns := [], harness := (true, "a69105db7fed0491e38bd4fa3b80830dc393f29f9f2f26381bb01b053089a2ee"), looks := true }, kinds := [], alts := [], goes := true, laidByText := true, laidKinds := [.data, .data, .data, .sentinel], laidTests := true, laidLooks := .later }
def FnExactNormalCardSaid : Prop := Claim7.holds Tryz.pinned (.plain (OpenSpec.ofChange fnExactNormalSpec)) fnExactNormalCard

/-- THE TIED CARD OF 'laws.FnExactStepMade'. -/
def fnExactStepMadeCard : Claim7 := { stood := { row := fnExactStepMadeRow, standIns := [], harness := (true, "a69105db7fed0491e38bd4fa3b80830dc393f29f9f2f26381bb01b053089a2ee"), looks := true }, kinds := [], alts := [], goes := true, laidByText := true, laidKinds := [.data, .data, .data, .data, .sentinel, .pinned], laidTests := true, laidLooks := .later }
def FnExactStepMadeCardSaid : Prop := Claim7.holds Tryz.pinned (.plain (OpenSpec.ofChange fnExactStepMadeSpec)) fnExactStepMadeCard

/-- THE SECOND FORM's CARD OF 'laws.FnExactElaborate'. -/
def fnExactElaborateUptoCard : Claim7 := { stood := { row := fnExactElaborateUptoRow, standIns := [], harness := (true, "a69105db7fed0491e38bd4fa3b80830dc393f29f9f2f26381bb01b053089a2ee"), looks := true }, kinds := [], alts := [], goes := true, laidByText := true, laidKinds := [.sentinel, .sentinel, .sentinel, .sentinel, .sentinel, .sentinel], laidTests := true, laidLooks := .later }
def FnExactElaborateUptoCardSaid : Prop := Claim7.holds Tryz.pinned (.plain (OpenSpec.upto fnExactElaborateSpec)) fnExactElaborateUptoCard

/-- THE SECOND FORM's CARD OF 'laws.FnExactTypeOf'. -/
def fnExactTypeOfUptoCard : Claim7 := { stood := { row := fnExactTypeOfUptoRow, standIns := [], harness := (true, "a69105db7fed0491e38bd4fa3b80830dc393f29f9f2f26381bb01b053089a2ee"), looks := true }, kinds := [], alts := [], goes := true, laidByText := true, laidKinds := [.sentinel, .sentinel, .sentinel, .sentinel, .sentinel, .sentinel], laidTests := true, laidLooks := .later }
def FnExactTypeOfUptoCardSaid : Prop := Claim7.holds Tryz.pinned (.plain (OpenSpec.upto fnExactTypeOfSpec)) fnExactTypeOfUptoCard

/-- THE SECOND FORM's CARD OF 'laws.FnExactElaborateAt'. -/
def fnExactElaborateAtUptoCard : Claim7 := { stood := { row := fnExactElaborateAtUptoRow, standIns := [], harness := (true, "a69105db7fed0491e38bd4fa3b80830dc393f29f9f2f26381bb01b053089a2ee"), looks := true }, kinds := [], alts := [], goes := true, laidByText := true, laidKinds := [.sentinel, .sentinel, .sentinel, .sentinel, .sentinel, .sentinel], laidTests := true, laidLooks := .later }
def FnExactElaborateAtUptoCardSaid : Prop := Claim7.holds Tryz.pinned (.plain (OpenSpec.upto fnExactElaborateAtSpec)) fnExactElaborateAtUptoCard
end Rows
end Go.Proofs.YtdemcoghgnnheaaGreatDoor
