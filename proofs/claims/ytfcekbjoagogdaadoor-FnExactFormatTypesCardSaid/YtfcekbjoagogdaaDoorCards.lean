/-
  DERIVED. GIVEN WITH THE SEED: THE CARDS: each row of YtfcekbjoagogdaaDoorRows.lean that lists a variable, with what it lists TIED to the program's text (the seventh form; the later family's looks); each row that meets fmt, with fmt's text TOLD by the authors' own Lean function (tested against real Go, not proved from fmt's source: count such statements apart). THE CARD IS WHAT COUNTS. Prove the row's statement (the work); the ties are given (YtfcekbjoagogdaaDoorTie.lean); close each card by the builder's one call (the guide's Derived/Test/ToyasCard.lean, 'card_holds'). Laid BY PROGRAM, IN A SANDBOX (cutbox-door.mjs). By AI agents, Wed Nov 11 2026. No macro, syntax, notation, axiom, sorry.
-/
import Derived.Test.YtfcekbjoagogdaaDoorRows
import GoSem.ClaimSeven
namespace Go.Proofs.YtfcekbjoagogdaaDoor
namespace Rows

/-- THE TIED CARD OF 'laws.FnExactFormatTypes'. -/
def fnExactFormatTypesCard : Claim7 := { stood := { row := fnExactFormatTypesRow, standIns := [], harness := (true, "5546752bfea0f68cf70a1a826ae5a6853f19522dd2d5ef7ddd6d493902282750"), looks := false }, kinds := [], alts := [], laidByText := true, laidKinds := [.data, .data, .data], laidTests := true, laidLooks := .later }
def FnExactFormatTypesCardSaid : Prop := Claim7.holds Tryd.pinned (.plain (OpenSpec.ofChange fnExactFormatTypesSpec)) fnExactFormatTypesCard

/-- THE TIED CARD OF 'laws.FnExactParseTypes'. -/
def fnExactParseTypesCard : Claim7 := { stood := { row := fnExactParseTypesRow, standIns := [], harness := (true, "5546752bfea0f68cf70a1a826ae5a6853f19522dd2d5ef7ddd6d493902282750"), looks := false }, kinds := [], alts := [], laidByText := true, laidKinds := [.sentinel], laidTests := true, laidLooks := .later }
def FnExactParseTypesCardSaid : Prop := Claim7.holds Tryd.pinned (.plain (OpenSpec.ofChange fnExactParseTypesSpec)) fnExactParseTypesCard

/-- THE TIED CARD OF 'laws.FnExactSignatureOf'. -/
def fnExactSignatureOfCard : Claim7 := { stood := { row := fnExactSignatureOfRow, standIns := [], harness := (true, "5546752bfea0f68cf70a1a826ae5a6853f19522dd2d5ef7ddd6d493902282750"), looks := false }, kinds := [], alts := [], laidByText := true, laidKinds := [.data, .data, .data, .data, .pinned], laidTests := true, laidLooks := .later }
def FnExactSignatureOfCardSaid : Prop := Claim7.holds Tryd.pinned (.plain (OpenSpec.ofChange fnExactSignatureOfSpec)) fnExactSignatureOfCard

/-- THE TIED CARD OF 'laws.FnExactFormatSystem'. -/
def fnExactFormatSystemCard : Claim7 := { stood := { row := fnExactFormatSystemRow, standIns := [], harness := (true, "5546752bfea0f68cf70a1a826ae5a6853f19522dd2d5ef7ddd6d493902282750"), looks := false }, kinds := [], alts := [], laidByText := true, laidKinds := [.data, .data, .data, .data, .pinned], laidTests := true, laidLooks := .later }
def FnExactFormatSystemCardSaid : Prop := Claim7.holds Tryd.pinned (.plain (OpenSpec.ofChange fnExactFormatSystemSpec)) fnExactFormatSystemCard

/-- THE TIED CARD OF 'laws.FnExactParseSystem'. -/
def fnExactParseSystemCard : Claim7 := { stood := { row := fnExactParseSystemRow, standIns := [], harness := (true, "5546752bfea0f68cf70a1a826ae5a6853f19522dd2d5ef7ddd6d493902282750"), looks := false }, kinds := [], alts := [], laidByText := true, laidKinds := [.sentinel], laidTests := true, laidLooks := .later }
def FnExactParseSystemCardSaid : Prop := Claim7.holds Tryd.pinned (.plain (OpenSpec.ofChange fnExactParseSystemSpec)) fnExactParseSystemCard

/-- THE SECOND FORM's CARD OF 'laws.FnExactFormatTypes'. -/
def fnExactFormatTypesUptoCard : Claim7 := { stood := { row := fnExactFormatTypesUptoRow, standIns := [], harness := (true, "5546752bfea0f68cf70a1a826ae5a6853f19522dd2d5ef7ddd6d493902282750"), looks := false }, kinds := [], alts := [], laidByText := true, laidKinds := [.data, .data, .data], laidTests := true, laidLooks := .later }
def FnExactFormatTypesUptoCardSaid : Prop := Claim7.holds Tryd.pinned (.plain (OpenSpec.upto fnExactFormatTypesSpec)) fnExactFormatTypesUptoCard

/-- THE SECOND FORM's CARD OF 'laws.FnExactParseTypes'. -/
def fnExactParseTypesUptoCard : Claim7 := { stood := { row := fnExactParseTypesUptoRow, standIns := [], harness := (true, "5546752bfea0f68cf70a1a826ae5a6853f19522dd2d5ef7ddd6d493902282750"), looks := false }, kinds := [], alts := [], laidByText := true, laidKinds := [.sentinel], laidTests := true, laidLooks := .later }
def FnExactParseTypesUptoCardSaid : Prop := Claim7.holds Tryd.pinned (.plain (OpenSpec.upto fnExactParseTypesSpec)) fnExactParseTypesUptoCard

/-- THE SECOND FORM's CARD OF 'laws.FnExactSignatureOf'. -/
def fnExactSignatureOfUptoCard : Claim7 := { stood := { row := fnExactSignatureOfUptoRow, standIns := [], harness := (true, "5546752bfea0f68cf70a1a826ae5a6853f19522dd2d5ef7ddd6d493902282750"), looks := false }, kinds := [], alts := [], laidByText := true, laidKinds := [.data, .data, .data, .data, .pinned], laidTests := true, laidLooks := .later }
def FnExactSignatureOfUptoCardSaid : Prop := Claim7.holds Tryd.pinned (.plain (OpenSpec.upto fnExactSignatureOfSpec)) fnExactSignatureOfUptoCard

/-- THE SECOND FORM's CARD OF 'laws.FnExactFormatSystem'. -/
def fnExactFormatSystemUptoCard : Claim7 := { stood := { row := fnExactFormatSystemUptoRow, standIns := [], harness := (true, "5546752bfea0f68cf70a1a826ae5a6853f19522dd2d5ef7ddd6d493902282750"), looks := false }, kinds := [], alts := [], laidByText := true, laidKinds := [.data, .data, .data, .data, .pinned], laidTests := true, laidLooks := .later }
def FnExactFormatSystemUptoCardSaid : Prop := Claim7.holds Tryd.pinned (.plain (OpenSpec.upto fnExactFormatSystemSpec)) fnExactFormatSystemUptoCard

/-- THE SECOND FORM's CARD OF 'laws.FnExactParseSystem'. -/
def fnExactParseSystemUptoCard : Claim7 := { stood := { row := fnExactParseSystemUptoRow, standIns := [], harness := (true, "5546752bfea0f68cf70a1a826ae5a6853f19522dd2d5ef7ddd6d493902282750"), looks := false }, kinds := [], alts := [], laidByText := true, laidKinds := [.sentinel], laidTests := true, laidLooks := .later }
def FnExactParseSystemUptoCardSaid : Prop := Claim7.holds Tryd.pinned (.plain (OpenSpec.upto fnExactParseSystemSpec)) fnExactParseSystemUptoCard
end Rows
end Go.Proofs.YtfcekbjoagogdaaDoor
