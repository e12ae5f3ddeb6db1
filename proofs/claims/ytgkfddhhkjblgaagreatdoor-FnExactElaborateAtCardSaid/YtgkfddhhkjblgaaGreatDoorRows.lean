/-
  NARROWER THAN 'FOR EVERY INPUT', by the rows' own cells (each row's printed sentence says how): FnExactElaborate: ifaces, laid · FnExactTypeOf: ifaces, laid · FnExactElaborateAt: ifaces, laid · FnExactAllMade: ifaces, laid · FnExactKindsOf: ifaces, laid · FnExactLeastKind: ifaces, laid · FnExactCheapestMade: ifaces, laid.
  DERIVED. THE GIVEN ROWS OF THIS SEAT. 7 by the template 'for every input the law returns true; each argument reads behind the call as it read before'; 0 by the template 'total and deterministic' (their statements: YtgkfddhhkjblgaaGreatDoorTotals.lean).
  GIVEN WITH THE SEED: the statements are not yours to turn. If you find one false, say at which input.
  Laid BY PROGRAM, IN A SANDBOX (cutbox-rows.mjs): the forced cells as the released guide's own fill.sh prints them over the translation 153f8a174543e058… (all of the seat's roots in one cut). By AI agents, Wed Nov 11 2026. No macro, syntax, notation, axiom, sorry.
-/
import Derived.Test.YtgkfddhhkjblgaaGreatDoorChecked
import GoSem.Claim
import GoSem.ClaimJoined
import GoSem.ClaimMapViews
import Derived.JoinedTies
import Derived.KernelRfl
namespace Go.Proofs.YtgkfddhhkjblgaaGreatDoor
/- THE CELL 'sum', in the pinned program and in every row, IS THE sha256 OF THE DUMP (.gsa) THAT YtgkfddhhkjblgaaGreatDoorProg.lean LOADS. Nothing in Lean hashes anything: it is a label: what it is worth is what the hold of that sum in a sandbox is worth. -/
noncomputable def Tryz.pinned : Pinned := { name := "ytgkfddhhkjblgaagreatdoor", sum := "153f8a174543e058626109369c2e8fd33770bf45f6579189191328af0e81e7c2", checked := Tryz.checked }
namespace Rows
def none {H : Type} : Left H := { results := [], args := [] }

/- WHAT THE LISTED PACKAGE-LEVEL VARIABLES READ AS WHEN THE CALL BEGINS. Each datum BY PROGRAM (the guide's laid-datum.mjs) off the statement by which the dump's own 'gosem.cut.vars' lays the variable. In a bare row this is a premise. The card (YtgkfddhhkjblgaaGreatDoorCards.lean) ties it to the program's text. -/
def laid_loop_example_overloads_impl_errText {H : Type} : DataW H := .iface "*errors.errorString" (.ptr (.agg [.lit (.string [116, 101, 120, 116, 32, 100, 111, 101, 115, 32, 110, 111, 116, 32, 102, 105, 116])]))
def laid_loop_example_overloads_impl_errNone {H : Type} : DataW H := .iface "*errors.errorString" (.ptr (.agg [.lit (.string [110, 111, 32, 102, 117, 110, 99, 116, 105, 111, 110, 32, 105, 115, 32, 97, 112, 112, 108, 105, 99, 97, 98, 108, 101])]))
def laid_loop_example_overloads_impl_errMany {H : Type} : DataW H := .iface "*errors.errorString" (.ptr (.agg [.lit (.string [110, 111, 32, 102, 117, 110, 99, 116, 105, 111, 110, 32, 105, 115, 32, 98, 101, 102, 111, 114, 101, 32, 97, 108, 108, 32, 111, 116, 104, 101, 114, 115])]))
def laid_loop_example_overloads_impl_errUnknown {H : Type} : DataW H := .iface "*errors.errorString" (.ptr (.agg [.lit (.string [115, 121, 115, 116, 101, 109, 44, 32, 116, 101, 114, 109, 32, 111, 114, 32, 118, 97, 108, 117, 101, 32, 105, 115, 32, 110, 111, 116, 32, 107, 110, 111, 119, 110])]))
def laid_loop_example_overloads_impl_errNoWay {H : Type} : DataW H := .iface "*errors.errorString" (.ptr (.agg [.lit (.string [110, 111, 32, 119, 97, 121, 32, 108, 101, 97, 100, 115, 32, 116, 111, 32, 116, 104, 101, 32, 116, 121, 112, 101])]))
def laid_loop_example_overloads_impl_errLong {H : Type} : DataW H := .iface "*errors.errorString" (.ptr (.agg [.lit (.string [101, 120, 112, 108, 105, 99, 105, 116, 32, 116, 101, 114, 109, 32, 105, 115, 32, 116, 111, 111, 32, 108, 111, 110, 103])]))

/-- 'laws.FnExactElaborate': WHATEVER THE INPUT: true; the input reads as it did. -/
def fnExactElaborateSpec : ChangeSpec := { name := "fnExactElaborate", vars := ["loop.example/overloads/impl.errUnknown", "loop.example/overloads/impl.errText", "loop.example/overloads/impl.errNone", "loop.example/overloads/impl.errMany", "loop.example/overloads/impl.errLong", "loop.example/overloads/impl.errNoWay"], fn := fun _ => fun
  | [d1, d2, g1, g2, g3, g4, g5, g6] => { results := [.lit (.bool true)], args := [d1, d2], vars := [g1, g2, g3, g4, g5, g6] }
  | _ => none }
def fnExactElaborateRow : OpenClaim := { program := "ytgkfddhhkjblgaagreatdoor", sum := "153f8a174543e058626109369c2e8fd33770bf45f6579189191328af0e81e7c2", func := "loop.example/overloads/laws.FnExactElaborate", spec := "fnExactElaborate", inPlace := ["internal/reflectlite.TypeOf"], unfollowed := true, recurses := true, named := ["loop.example/overloads/impl.errUnknown", "loop.example/overloads/impl.errText", "loop.example/overloads/impl.errNone", "loop.example/overloads/impl.errMany", "loop.example/overloads/impl.errLong", "loop.example/overloads/impl.errNoWay"], ifaces := true, plainKeys := false, apart := false, laid := [("loop.example/overloads/impl.errText", laid_loop_example_overloads_impl_errText), ("loop.example/overloads/impl.errNone", laid_loop_example_overloads_impl_errNone), ("loop.example/overloads/impl.errMany", laid_loop_example_overloads_impl_errMany), ("loop.example/overloads/impl.errUnknown", laid_loop_example_overloads_impl_errUnknown), ("loop.example/overloads/impl.errNoWay", laid_loop_example_overloads_impl_errNoWay), ("loop.example/overloads/impl.errLong", laid_loop_example_overloads_impl_errLong)] }
def FnExactElaborateSaid : Prop := fnExactElaborateRow.holds Tryz.pinned (OpenSpec.ofChange fnExactElaborateSpec)

/-- ITS FALSE NEIGHBOUR: 'it returns false'. Refute it at one input. -/
def fnExactElaborateWrong : ChangeSpec := { name := "fnExactElaborate", vars := ["loop.example/overloads/impl.errUnknown", "loop.example/overloads/impl.errText", "loop.example/overloads/impl.errNone", "loop.example/overloads/impl.errMany", "loop.example/overloads/impl.errLong", "loop.example/overloads/impl.errNoWay"], fn := fun _ => fun
  | [d1, d2, g1, g2, g3, g4, g5, g6] => { results := [.lit (.bool false)], args := [d1, d2], vars := [g1, g2, g3, g4, g5, g6] }
  | _ => none }
def FnExactElaborateWrongFalsely : Prop := fnExactElaborateRow.holds Tryz.pinned (OpenSpec.ofChange fnExactElaborateWrong)

/-- 'laws.FnExactTypeOf': WHATEVER THE INPUT: true; the input reads as it did. -/
def fnExactTypeOfSpec : ChangeSpec := { name := "fnExactTypeOf", vars := ["loop.example/overloads/impl.errUnknown", "loop.example/overloads/impl.errText", "loop.example/overloads/impl.errNone", "loop.example/overloads/impl.errMany", "loop.example/overloads/impl.errLong", "loop.example/overloads/impl.errNoWay"], fn := fun _ => fun
  | [d1, d2, g1, g2, g3, g4, g5, g6] => { results := [.lit (.bool true)], args := [d1, d2], vars := [g1, g2, g3, g4, g5, g6] }
  | _ => none }
def fnExactTypeOfRow : OpenClaim := { program := "ytgkfddhhkjblgaagreatdoor", sum := "153f8a174543e058626109369c2e8fd33770bf45f6579189191328af0e81e7c2", func := "loop.example/overloads/laws.FnExactTypeOf", spec := "fnExactTypeOf", inPlace := ["internal/reflectlite.TypeOf"], unfollowed := true, recurses := true, named := ["loop.example/overloads/impl.errUnknown", "loop.example/overloads/impl.errText", "loop.example/overloads/impl.errNone", "loop.example/overloads/impl.errMany", "loop.example/overloads/impl.errLong", "loop.example/overloads/impl.errNoWay"], ifaces := true, plainKeys := false, apart := false, laid := [("loop.example/overloads/impl.errText", laid_loop_example_overloads_impl_errText), ("loop.example/overloads/impl.errNone", laid_loop_example_overloads_impl_errNone), ("loop.example/overloads/impl.errMany", laid_loop_example_overloads_impl_errMany), ("loop.example/overloads/impl.errUnknown", laid_loop_example_overloads_impl_errUnknown), ("loop.example/overloads/impl.errNoWay", laid_loop_example_overloads_impl_errNoWay), ("loop.example/overloads/impl.errLong", laid_loop_example_overloads_impl_errLong)] }
def FnExactTypeOfSaid : Prop := fnExactTypeOfRow.holds Tryz.pinned (OpenSpec.ofChange fnExactTypeOfSpec)

/-- ITS FALSE NEIGHBOUR: 'it returns false'. Refute it at one input. -/
def fnExactTypeOfWrong : ChangeSpec := { name := "fnExactTypeOf", vars := ["loop.example/overloads/impl.errUnknown", "loop.example/overloads/impl.errText", "loop.example/overloads/impl.errNone", "loop.example/overloads/impl.errMany", "loop.example/overloads/impl.errLong", "loop.example/overloads/impl.errNoWay"], fn := fun _ => fun
  | [d1, d2, g1, g2, g3, g4, g5, g6] => { results := [.lit (.bool false)], args := [d1, d2], vars := [g1, g2, g3, g4, g5, g6] }
  | _ => none }
def FnExactTypeOfWrongFalsely : Prop := fnExactTypeOfRow.holds Tryz.pinned (OpenSpec.ofChange fnExactTypeOfWrong)

/-- 'laws.FnExactElaborateAt': WHATEVER THE INPUT: true; the input reads as it did. -/
def fnExactElaborateAtSpec : ChangeSpec := { name := "fnExactElaborateAt", vars := ["loop.example/overloads/impl.errNoWay", "loop.example/overloads/impl.errUnknown", "loop.example/overloads/impl.errText", "loop.example/overloads/impl.errNone", "loop.example/overloads/impl.errMany", "loop.example/overloads/impl.errLong"], fn := fun _ => fun
  | [d1, d2, d3, g1, g2, g3, g4, g5, g6] => { results := [.lit (.bool true)], args := [d1, d2, d3], vars := [g1, g2, g3, g4, g5, g6] }
  | _ => none }
def fnExactElaborateAtRow : OpenClaim := { program := "ytgkfddhhkjblgaagreatdoor", sum := "153f8a174543e058626109369c2e8fd33770bf45f6579189191328af0e81e7c2", func := "loop.example/overloads/laws.FnExactElaborateAt", spec := "fnExactElaborateAt", inPlace := ["internal/reflectlite.TypeOf"], unfollowed := true, recurses := true, named := ["loop.example/overloads/impl.errNoWay", "loop.example/overloads/impl.errUnknown", "loop.example/overloads/impl.errText", "loop.example/overloads/impl.errNone", "loop.example/overloads/impl.errMany", "loop.example/overloads/impl.errLong"], ifaces := true, plainKeys := false, apart := false, laid := [("loop.example/overloads/impl.errText", laid_loop_example_overloads_impl_errText), ("loop.example/overloads/impl.errNone", laid_loop_example_overloads_impl_errNone), ("loop.example/overloads/impl.errMany", laid_loop_example_overloads_impl_errMany), ("loop.example/overloads/impl.errUnknown", laid_loop_example_overloads_impl_errUnknown), ("loop.example/overloads/impl.errNoWay", laid_loop_example_overloads_impl_errNoWay), ("loop.example/overloads/impl.errLong", laid_loop_example_overloads_impl_errLong)] }
def FnExactElaborateAtSaid : Prop := fnExactElaborateAtRow.holds Tryz.pinned (OpenSpec.ofChange fnExactElaborateAtSpec)

/-- ITS FALSE NEIGHBOUR: 'it returns false'. Refute it at one input. -/
def fnExactElaborateAtWrong : ChangeSpec := { name := "fnExactElaborateAt", vars := ["loop.example/overloads/impl.errNoWay", "loop.example/overloads/impl.errUnknown", "loop.example/overloads/impl.errText", "loop.example/overloads/impl.errNone", "loop.example/overloads/impl.errMany", "loop.example/overloads/impl.errLong"], fn := fun _ => fun
  | [d1, d2, d3, g1, g2, g3, g4, g5, g6] => { results := [.lit (.bool false)], args := [d1, d2, d3], vars := [g1, g2, g3, g4, g5, g6] }
  | _ => none }
def FnExactElaborateAtWrongFalsely : Prop := fnExactElaborateAtRow.holds Tryz.pinned (OpenSpec.ofChange fnExactElaborateAtWrong)

/-- 'laws.FnExactAllMade': WHATEVER THE INPUT: true; the input reads as it did. -/
def fnExactAllMadeSpec : ChangeSpec := { name := "fnExactAllMade", vars := ["loop.example/overloads/impl.errText"], fn := fun _ => fun
  | [d1, d2, d3, g1] => { results := [.lit (.bool true)], args := [d1, d2, d3], vars := [g1] }
  | _ => none }
def fnExactAllMadeRow : OpenClaim := { program := "ytgkfddhhkjblgaagreatdoor", sum := "153f8a174543e058626109369c2e8fd33770bf45f6579189191328af0e81e7c2", func := "loop.example/overloads/laws.FnExactAllMade", spec := "fnExactAllMade", unfollowed := true, recurses := true, named := ["loop.example/overloads/impl.errText"], ifaces := true, plainKeys := false, apart := false, laid := [("loop.example/overloads/impl.errText", laid_loop_example_overloads_impl_errText)] }
def FnExactAllMadeSaid : Prop := fnExactAllMadeRow.holds Tryz.pinned (OpenSpec.ofChange fnExactAllMadeSpec)

/-- ITS FALSE NEIGHBOUR: 'it returns false'. Refute it at one input. -/
def fnExactAllMadeWrong : ChangeSpec := { name := "fnExactAllMade", vars := ["loop.example/overloads/impl.errText"], fn := fun _ => fun
  | [d1, d2, d3, g1] => { results := [.lit (.bool false)], args := [d1, d2, d3], vars := [g1] }
  | _ => none }
def FnExactAllMadeWrongFalsely : Prop := fnExactAllMadeRow.holds Tryz.pinned (OpenSpec.ofChange fnExactAllMadeWrong)

/-- 'laws.FnExactKindsOf': WHATEVER THE INPUT: true; the input reads as it did. -/
def fnExactKindsOfSpec : ChangeSpec := { name := "fnExactKindsOf", vars := ["loop.example/overloads/impl.errText"], fn := fun _ => fun
  | [d1, d2, g1] => { results := [.lit (.bool true)], args := [d1, d2], vars := [g1] }
  | _ => none }
def fnExactKindsOfRow : OpenClaim := { program := "ytgkfddhhkjblgaagreatdoor", sum := "153f8a174543e058626109369c2e8fd33770bf45f6579189191328af0e81e7c2", func := "loop.example/overloads/laws.FnExactKindsOf", spec := "fnExactKindsOf", unfollowed := true, recurses := true, named := ["loop.example/overloads/impl.errText"], ifaces := true, plainKeys := false, apart := false, laid := [("loop.example/overloads/impl.errText", laid_loop_example_overloads_impl_errText)] }
def FnExactKindsOfSaid : Prop := fnExactKindsOfRow.holds Tryz.pinned (OpenSpec.ofChange fnExactKindsOfSpec)

/-- ITS FALSE NEIGHBOUR: 'it returns false'. Refute it at one input. -/
def fnExactKindsOfWrong : ChangeSpec := { name := "fnExactKindsOf", vars := ["loop.example/overloads/impl.errText"], fn := fun _ => fun
  | [d1, d2, g1] => { results := [.lit (.bool false)], args := [d1, d2], vars := [g1] }
  | _ => none }
def FnExactKindsOfWrongFalsely : Prop := fnExactKindsOfRow.holds Tryz.pinned (OpenSpec.ofChange fnExactKindsOfWrong)

/-- 'laws.FnExactLeastKind': WHATEVER THE INPUT: true; the input reads as it did. -/
def fnExactLeastKindSpec : ChangeSpec := { name := "fnExactLeastKind", vars := ["loop.example/overloads/impl.errText"], fn := fun _ => fun
  | [d1, d2, g1] => { results := [.lit (.bool true)], args := [d1, d2], vars := [g1] }
  | _ => none }
def fnExactLeastKindRow : OpenClaim := { program := "ytgkfddhhkjblgaagreatdoor", sum := "153f8a174543e058626109369c2e8fd33770bf45f6579189191328af0e81e7c2", func := "loop.example/overloads/laws.FnExactLeastKind", spec := "fnExactLeastKind", unfollowed := true, recurses := true, named := ["loop.example/overloads/impl.errText"], ifaces := true, plainKeys := false, apart := false, laid := [("loop.example/overloads/impl.errText", laid_loop_example_overloads_impl_errText)] }
def FnExactLeastKindSaid : Prop := fnExactLeastKindRow.holds Tryz.pinned (OpenSpec.ofChange fnExactLeastKindSpec)

/-- ITS FALSE NEIGHBOUR: 'it returns false'. Refute it at one input. -/
def fnExactLeastKindWrong : ChangeSpec := { name := "fnExactLeastKind", vars := ["loop.example/overloads/impl.errText"], fn := fun _ => fun
  | [d1, d2, g1] => { results := [.lit (.bool false)], args := [d1, d2], vars := [g1] }
  | _ => none }
def FnExactLeastKindWrongFalsely : Prop := fnExactLeastKindRow.holds Tryz.pinned (OpenSpec.ofChange fnExactLeastKindWrong)

/-- 'laws.FnExactCheapestMade': WHATEVER THE INPUT: true; the input reads as it did. -/
def fnExactCheapestMadeSpec : ChangeSpec := { name := "fnExactCheapestMade", vars := ["loop.example/overloads/impl.errText"], fn := fun _ => fun
  | [d1, d2, d3, g1] => { results := [.lit (.bool true)], args := [d1, d2, d3], vars := [g1] }
  | _ => none }
def fnExactCheapestMadeRow : OpenClaim := { program := "ytgkfddhhkjblgaagreatdoor", sum := "153f8a174543e058626109369c2e8fd33770bf45f6579189191328af0e81e7c2", func := "loop.example/overloads/laws.FnExactCheapestMade", spec := "fnExactCheapestMade", unfollowed := true, recurses := true, named := ["loop.example/overloads/impl.errText"], ifaces := true, plainKeys := false, apart := false, laid := [("loop.example/overloads/impl.errText", laid_loop_example_overloads_impl_errText)] }
def FnExactCheapestMadeSaid : Prop := fnExactCheapestMadeRow.holds Tryz.pinned (OpenSpec.ofChange fnExactCheapestMadeSpec)

/-- ITS FALSE NEIGHBOUR: 'it returns false'. Refute it at one input. -/
def fnExactCheapestMadeWrong : ChangeSpec := { name := "fnExactCheapestMade", vars := ["loop.example/overloads/impl.errText"], fn := fun _ => fun
  | [d1, d2, d3, g1] => { results := [.lit (.bool false)], args := [d1, d2, d3], vars := [g1] }
  | _ => none }
def FnExactCheapestMadeWrongFalsely : Prop := fnExactCheapestMadeRow.holds Tryz.pinned (OpenSpec.ofChange fnExactCheapestMadeWrong)

/- THE SECOND FORM. 'bulk': how many values and letters a reading holds, each counted each time it is reached (what is shared counts as often as it is met; a slice's spare places count too). A statement '..UptoSaid' is the law's where the arguments, and the package variables that the reading takes, are together of bulk at most 1048576: NARROWER than '..Said'. Prove '..Said' where nothing that the law and all that it calls make is longer than what came in: it says more and counts as full. Else prove '..UptoSaid'. A law counts once. -/
mutual
def uptoBulk {H : Type} : DataW H → Nat
  | .lit (.string bytes) => bytes.length + 1
  | .lit _ => 1
  | .nil => 1
  | .ptr d => uptoBulk d + 1
  | .slice elems spare => uptoBulkAll elems + uptoBulkAll spare + 1
  | .agg parts => uptoBulkAll parts + 1
  | .iface _ d => uptoBulk d + 1
  | .map entries => uptoBulkEntries entries + 1
  | .held _ => 1
def uptoBulkAll {H : Type} : List (DataW H) → Nat
  | [] => 0
  | d :: r => uptoBulk d + uptoBulkAll r
def uptoBulkEntries {H : Type} : List (Lit × DataW H) → Nat
  | [] => 0
  | x :: r => uptoBulkEntry x + uptoBulkEntries r
def uptoBulkEntry {H : Type} : Lit × DataW H → Nat
  | (.string bytes, d) => bytes.length + uptoBulk d + 1
  | (_, d) => uptoBulk d + 1
 end
def uptoSmall : (H : Type) → List (DataW H) → Bool := fun _ ds => decide (uptoBulkAll ds ≤ 1048576)
def OpenSpec.upto (s : _root_.Go.ChangeSpec) : _root_.Go.OpenSpec := { _root_.Go.OpenSpec.ofChange s with cond := some uptoSmall }

/-- 'laws.FnExactElaborate', WHERE WHAT IT READS IS OF BULK AT MOST 1048576: true; the input reads as it did. -/
def fnExactElaborateUptoRow : OpenClaim := { program := "ytgkfddhhkjblgaagreatdoor", sum := "153f8a174543e058626109369c2e8fd33770bf45f6579189191328af0e81e7c2", func := "loop.example/overloads/laws.FnExactElaborate", spec := "fnExactElaborate", inPlace := ["internal/reflectlite.TypeOf"], unfollowed := true, recurses := true, named := ["loop.example/overloads/impl.errUnknown", "loop.example/overloads/impl.errText", "loop.example/overloads/impl.errNone", "loop.example/overloads/impl.errMany", "loop.example/overloads/impl.errLong", "loop.example/overloads/impl.errNoWay"], ifaces := true, plainKeys := false, apart := false, laid := [("loop.example/overloads/impl.errText", laid_loop_example_overloads_impl_errText), ("loop.example/overloads/impl.errNone", laid_loop_example_overloads_impl_errNone), ("loop.example/overloads/impl.errMany", laid_loop_example_overloads_impl_errMany), ("loop.example/overloads/impl.errUnknown", laid_loop_example_overloads_impl_errUnknown), ("loop.example/overloads/impl.errNoWay", laid_loop_example_overloads_impl_errNoWay), ("loop.example/overloads/impl.errLong", laid_loop_example_overloads_impl_errLong)], narrowed := true }
def FnExactElaborateUptoSaid : Prop := fnExactElaborateUptoRow.holds Tryz.pinned (OpenSpec.upto fnExactElaborateSpec)

/-- 'laws.FnExactTypeOf', WHERE WHAT IT READS IS OF BULK AT MOST 1048576: true; the input reads as it did. -/
def fnExactTypeOfUptoRow : OpenClaim := { program := "ytgkfddhhkjblgaagreatdoor", sum := "153f8a174543e058626109369c2e8fd33770bf45f6579189191328af0e81e7c2", func := "loop.example/overloads/laws.FnExactTypeOf", spec := "fnExactTypeOf", inPlace := ["internal/reflectlite.TypeOf"], unfollowed := true, recurses := true, named := ["loop.example/overloads/impl.errUnknown", "loop.example/overloads/impl.errText", "loop.example/overloads/impl.errNone", "loop.example/overloads/impl.errMany", "loop.example/overloads/impl.errLong", "loop.example/overloads/impl.errNoWay"], ifaces := true, plainKeys := false, apart := false, laid := [("loop.example/overloads/impl.errText", laid_loop_example_overloads_impl_errText), ("loop.example/overloads/impl.errNone", laid_loop_example_overloads_impl_errNone), ("loop.example/overloads/impl.errMany", laid_loop_example_overloads_impl_errMany), ("loop.example/overloads/impl.errUnknown", laid_loop_example_overloads_impl_errUnknown), ("loop.example/overloads/impl.errNoWay", laid_loop_example_overloads_impl_errNoWay), ("loop.example/overloads/impl.errLong", laid_loop_example_overloads_impl_errLong)], narrowed := true }
def FnExactTypeOfUptoSaid : Prop := fnExactTypeOfUptoRow.holds Tryz.pinned (OpenSpec.upto fnExactTypeOfSpec)

/-- 'laws.FnExactElaborateAt', WHERE WHAT IT READS IS OF BULK AT MOST 1048576: true; the input reads as it did. -/
def fnExactElaborateAtUptoRow : OpenClaim := { program := "ytgkfddhhkjblgaagreatdoor", sum := "153f8a174543e058626109369c2e8fd33770bf45f6579189191328af0e81e7c2", func := "loop.example/overloads/laws.FnExactElaborateAt", spec := "fnExactElaborateAt", inPlace := ["internal/reflectlite.TypeOf"], unfollowed := true, recurses := true, named := ["loop.example/overloads/impl.errNoWay", "loop.example/overloads/impl.errUnknown", "loop.example/overloads/impl.errText", "loop.example/overloads/impl.errNone", "loop.example/overloads/impl.errMany", "loop.example/overloads/impl.errLong"], ifaces := true, plainKeys := false, apart := false, laid := [("loop.example/overloads/impl.errText", laid_loop_example_overloads_impl_errText), ("loop.example/overloads/impl.errNone", laid_loop_example_overloads_impl_errNone), ("loop.example/overloads/impl.errMany", laid_loop_example_overloads_impl_errMany), ("loop.example/overloads/impl.errUnknown", laid_loop_example_overloads_impl_errUnknown), ("loop.example/overloads/impl.errNoWay", laid_loop_example_overloads_impl_errNoWay), ("loop.example/overloads/impl.errLong", laid_loop_example_overloads_impl_errLong)], narrowed := true }
def FnExactElaborateAtUptoSaid : Prop := fnExactElaborateAtUptoRow.holds Tryz.pinned (OpenSpec.upto fnExactElaborateAtSpec)

/-- 'laws.FnExactAllMade', WHERE WHAT IT READS IS OF BULK AT MOST 1048576: true; the input reads as it did. -/
def fnExactAllMadeUptoRow : OpenClaim := { program := "ytgkfddhhkjblgaagreatdoor", sum := "153f8a174543e058626109369c2e8fd33770bf45f6579189191328af0e81e7c2", func := "loop.example/overloads/laws.FnExactAllMade", spec := "fnExactAllMade", unfollowed := true, recurses := true, named := ["loop.example/overloads/impl.errText"], ifaces := true, plainKeys := false, apart := false, laid := [("loop.example/overloads/impl.errText", laid_loop_example_overloads_impl_errText)], narrowed := true }
def FnExactAllMadeUptoSaid : Prop := fnExactAllMadeUptoRow.holds Tryz.pinned (OpenSpec.upto fnExactAllMadeSpec)

/-- 'laws.FnExactKindsOf', WHERE WHAT IT READS IS OF BULK AT MOST 1048576: true; the input reads as it did. -/
def fnExactKindsOfUptoRow : OpenClaim := { program := "ytgkfddhhkjblgaagreatdoor", sum := "153f8a174543e058626109369c2e8fd33770bf45f6579189191328af0e81e7c2", func := "loop.example/overloads/laws.FnExactKindsOf", spec := "fnExactKindsOf", unfollowed := true, recurses := true, named := ["loop.example/overloads/impl.errText"], ifaces := true, plainKeys := false, apart := false, laid := [("loop.example/overloads/impl.errText", laid_loop_example_overloads_impl_errText)], narrowed := true }
def FnExactKindsOfUptoSaid : Prop := fnExactKindsOfUptoRow.holds Tryz.pinned (OpenSpec.upto fnExactKindsOfSpec)

/-- 'laws.FnExactLeastKind', WHERE WHAT IT READS IS OF BULK AT MOST 1048576: true; the input reads as it did. -/
def fnExactLeastKindUptoRow : OpenClaim := { program := "ytgkfddhhkjblgaagreatdoor", sum := "153f8a174543e058626109369c2e8fd33770bf45f6579189191328af0e81e7c2", func := "loop.example/overloads/laws.FnExactLeastKind", spec := "fnExactLeastKind", unfollowed := true, recurses := true, named := ["loop.example/overloads/impl.errText"], ifaces := true, plainKeys := false, apart := false, laid := [("loop.example/overloads/impl.errText", laid_loop_example_overloads_impl_errText)], narrowed := true }
def FnExactLeastKindUptoSaid : Prop := fnExactLeastKindUptoRow.holds Tryz.pinned (OpenSpec.upto fnExactLeastKindSpec)

/-- 'laws.FnExactCheapestMade', WHERE WHAT IT READS IS OF BULK AT MOST 1048576: true; the input reads as it did. -/
def fnExactCheapestMadeUptoRow : OpenClaim := { program := "ytgkfddhhkjblgaagreatdoor", sum := "153f8a174543e058626109369c2e8fd33770bf45f6579189191328af0e81e7c2", func := "loop.example/overloads/laws.FnExactCheapestMade", spec := "fnExactCheapestMade", unfollowed := true, recurses := true, named := ["loop.example/overloads/impl.errText"], ifaces := true, plainKeys := false, apart := false, laid := [("loop.example/overloads/impl.errText", laid_loop_example_overloads_impl_errText)], narrowed := true }
def FnExactCheapestMadeUptoSaid : Prop := fnExactCheapestMadeUptoRow.holds Tryz.pinned (OpenSpec.upto fnExactCheapestMadeSpec)

end Rows
end Go.Proofs.YtgkfddhhkjblgaaGreatDoor
