/-
  NARROWER THAN 'FOR EVERY INPUT', by the rows' own cells (each row's printed sentence says how): FnExactIsRegular: ifaces, laid · FnExactGapOf: ifaces, laid · FnExactAllMade: ifaces, laid · FnExactKindsOf: ifaces, laid · FnExactLeastKind: ifaces, laid · FnExactCheapestMade: ifaces, laid.
  DERIVED. THE GIVEN ROWS OF THIS SEAT. 6 by the template 'for every input the law returns true; each argument reads behind the call as it read before'; 0 by the template 'total and deterministic' (their statements: YtnmbjmocnafekaaGreatDoorTotals.lean).
  GIVEN WITH THE SEED: the statements are not yours to turn. If you find one false, say at which input.
  Laid BY PROGRAM, IN A SANDBOX (cutbox-rows.mjs): the forced cells as the released guide's own fill.sh prints them over the translation 7ece4495337514c5… (all of the seat's roots in one cut). By AI agents, Wed Nov 11 2026. No macro, syntax, notation, axiom, sorry.
-/
import Derived.Test.YtnmbjmocnafekaaGreatDoorChecked
import GoSem.Claim
import GoSem.ClaimJoined
import GoSem.ClaimMapViews
import Derived.JoinedTies
import Derived.KernelRfl
namespace Go.Proofs.YtnmbjmocnafekaaGreatDoor
/- THE CELL 'sum', in the pinned program and in every row, IS THE sha256 OF THE DUMP (.gsa) THAT YtnmbjmocnafekaaGreatDoorProg.lean LOADS. Nothing in Lean hashes anything: it is a label: what it is worth is what the hold of that sum in a sandbox is worth. -/
noncomputable def Tryz.pinned : Pinned := { name := "ytnmbjmocnafekaagreatdoor", sum := "7ece4495337514c52539af59829c48e6553c5b6326001bda706352d811a5be71", checked := Tryz.checked }
namespace Rows
def none {H : Type} : Left H := { results := [], args := [] }

/- WHAT THE LISTED PACKAGE-LEVEL VARIABLES READ AS WHEN THE CALL BEGINS. Each datum BY PROGRAM (the guide's laid-datum.mjs) off the statement by which the dump's own 'gosem.cut.vars' lays the variable. In a bare row this is a premise. The card (YtnmbjmocnafekaaGreatDoorCards.lean) ties it to the program's text. -/
def laid_loop_example_overloads_impl_errInvalid {H : Type} : DataW H := .iface "*errors.errorString" (.ptr (.agg [.lit (.string [115, 121, 115, 116, 101, 109, 32, 105, 115, 32, 110, 111, 116, 32, 118, 97, 108, 105, 100])]))
def laid_loop_example_overloads_impl_errNone {H : Type} : DataW H := .iface "*errors.errorString" (.ptr (.agg [.lit (.string [110, 111, 32, 102, 117, 110, 99, 116, 105, 111, 110, 32, 105, 115, 32, 97, 112, 112, 108, 105, 99, 97, 98, 108, 101])]))
def laid_loop_example_overloads_impl_errMany {H : Type} : DataW H := .iface "*errors.errorString" (.ptr (.agg [.lit (.string [110, 111, 32, 102, 117, 110, 99, 116, 105, 111, 110, 32, 105, 115, 32, 98, 101, 102, 111, 114, 101, 32, 97, 108, 108, 32, 111, 116, 104, 101, 114, 115])]))
def laid_errors_errorType {H : Type} : DataW H := .iface "internal/reflectlite.rtype" (.agg [.ptr (.lit (.string [101, 114, 114, 111, 114]))])
def laid_loop_example_overloads_impl_errText {H : Type} : DataW H := .iface "*errors.errorString" (.ptr (.agg [.lit (.string [116, 101, 120, 116, 32, 100, 111, 101, 115, 32, 110, 111, 116, 32, 102, 105, 116])]))

/-- 'laws.FnExactIsRegular': WHATEVER THE INPUT: true; the input reads as it did. -/
def fnExactIsRegularSpec : ChangeSpec := { name := "fnExactIsRegular", vars := ["loop.example/overloads/impl.errInvalid", "loop.example/overloads/impl.errMany", "loop.example/overloads/impl.errNone"], fn := fun _ => fun
  | [d, g1, g2, g3] => { results := [.lit (.bool true)], args := [d], vars := [g1, g2, g3] }
  | _ => none }
def fnExactIsRegularRow : OpenClaim := { program := "ytnmbjmocnafekaagreatdoor", sum := "7ece4495337514c52539af59829c48e6553c5b6326001bda706352d811a5be71", func := "loop.example/overloads/laws.FnExactIsRegular", spec := "fnExactIsRegular", inPlace := ["internal/reflectlite.TypeOf"], unfollowed := true, recurses := true, named := ["loop.example/overloads/impl.errInvalid", "loop.example/overloads/impl.errMany", "loop.example/overloads/impl.errNone"], ifaces := true, plainKeys := false, apart := false, laid := [("loop.example/overloads/impl.errInvalid", laid_loop_example_overloads_impl_errInvalid), ("loop.example/overloads/impl.errNone", laid_loop_example_overloads_impl_errNone), ("loop.example/overloads/impl.errMany", laid_loop_example_overloads_impl_errMany)] }
def FnExactIsRegularSaid : Prop := fnExactIsRegularRow.holds Tryz.pinned (OpenSpec.ofChange fnExactIsRegularSpec)

/-- ITS FALSE NEIGHBOUR: 'it returns false'. Refute it at one input. -/
def fnExactIsRegularWrong : ChangeSpec := { name := "fnExactIsRegular", vars := ["loop.example/overloads/impl.errInvalid", "loop.example/overloads/impl.errMany", "loop.example/overloads/impl.errNone"], fn := fun _ => fun
  | [d, g1, g2, g3] => { results := [.lit (.bool false)], args := [d], vars := [g1, g2, g3] }
  | _ => none }
def FnExactIsRegularWrongFalsely : Prop := fnExactIsRegularRow.holds Tryz.pinned (OpenSpec.ofChange fnExactIsRegularWrong)

/-- 'laws.FnExactGapOf': WHATEVER THE INPUT: true; the input reads as it did. -/
def fnExactGapOfSpec : ChangeSpec := { name := "fnExactGapOf", vars := ["loop.example/overloads/impl.errInvalid", "loop.example/overloads/impl.errMany", "loop.example/overloads/impl.errNone"], fn := fun _ => fun
  | [d, g1, g2, g3] => { results := [.lit (.bool true)], args := [d], vars := [g1, g2, g3] }
  | _ => none }
def fnExactGapOfRow : OpenClaim := { program := "ytnmbjmocnafekaagreatdoor", sum := "7ece4495337514c52539af59829c48e6553c5b6326001bda706352d811a5be71", func := "loop.example/overloads/laws.FnExactGapOf", spec := "fnExactGapOf", inPlace := ["internal/reflectlite.TypeOf", "internal/reflectlite.ValueOf", "(internal/reflectlite.Value).Type", "(internal/reflectlite.Value).IsNil", "(internal/reflectlite.Value).Elem", "(internal/reflectlite.Value).Set"], unfollowed := true, recurses := true, named := ["loop.example/overloads/impl.errInvalid", "loop.example/overloads/impl.errMany", "loop.example/overloads/impl.errNone", "errors.errorType"], ifaces := true, plainKeys := false, apart := false, laid := [("errors.errorType", laid_errors_errorType), ("loop.example/overloads/impl.errInvalid", laid_loop_example_overloads_impl_errInvalid), ("loop.example/overloads/impl.errNone", laid_loop_example_overloads_impl_errNone), ("loop.example/overloads/impl.errMany", laid_loop_example_overloads_impl_errMany)] }
def FnExactGapOfSaid : Prop := fnExactGapOfRow.holds Tryz.pinned (OpenSpec.ofChange fnExactGapOfSpec)

/-- ITS FALSE NEIGHBOUR: 'it returns false'. Refute it at one input. -/
def fnExactGapOfWrong : ChangeSpec := { name := "fnExactGapOf", vars := ["loop.example/overloads/impl.errInvalid", "loop.example/overloads/impl.errMany", "loop.example/overloads/impl.errNone"], fn := fun _ => fun
  | [d, g1, g2, g3] => { results := [.lit (.bool false)], args := [d], vars := [g1, g2, g3] }
  | _ => none }
def FnExactGapOfWrongFalsely : Prop := fnExactGapOfRow.holds Tryz.pinned (OpenSpec.ofChange fnExactGapOfWrong)

/-- 'laws.FnExactAllMade': WHATEVER THE INPUT: true; the input reads as it did. -/
def fnExactAllMadeSpec : ChangeSpec := { name := "fnExactAllMade", vars := ["loop.example/overloads/impl.errText"], fn := fun _ => fun
  | [d1, d2, d3, g1] => { results := [.lit (.bool true)], args := [d1, d2, d3], vars := [g1] }
  | _ => none }
def fnExactAllMadeRow : OpenClaim := { program := "ytnmbjmocnafekaagreatdoor", sum := "7ece4495337514c52539af59829c48e6553c5b6326001bda706352d811a5be71", func := "loop.example/overloads/laws.FnExactAllMade", spec := "fnExactAllMade", unfollowed := true, recurses := true, named := ["loop.example/overloads/impl.errText"], ifaces := true, plainKeys := false, apart := false, laid := [("loop.example/overloads/impl.errText", laid_loop_example_overloads_impl_errText)] }
def FnExactAllMadeSaid : Prop := fnExactAllMadeRow.holds Tryz.pinned (OpenSpec.ofChange fnExactAllMadeSpec)

/-- ITS FALSE NEIGHBOUR: 'it returns false'. Refute it at one input. -/
def fnExactAllMadeWrong : ChangeSpec := { name := "fnExactAllMade", vars := ["loop.example/overloads/impl.errText"], fn := fun _ => fun
  | [d1, d2, d3, g1] => { results := [.lit (.bool false)], args := [d1, d2, d3], vars := [g1] }
  | _ => none }
def FnExactAllMadeWrongFalsely : Prop := fnExactAllMadeRow.holds Tryz.pinned (OpenSpec.ofChange fnExactAllMadeWrong)

/-- 'laws.FnExactKindsOf': WHATEVER THE INPUT: true; the input reads as it did. -/
def fnExactKindsOfSpec : ChangeSpec := { name := "fnExactKindsOf", vars := ["loop.example/overloads/impl.errText"], fn := fun _ => fun
  | [d1, d2, g1] => { results := [.lit (.bool true)], args := [d1, d2], vars := [g1] }
  | _ => none }
def fnExactKindsOfRow : OpenClaim := { program := "ytnmbjmocnafekaagreatdoor", sum := "7ece4495337514c52539af59829c48e6553c5b6326001bda706352d811a5be71", func := "loop.example/overloads/laws.FnExactKindsOf", spec := "fnExactKindsOf", unfollowed := true, recurses := true, named := ["loop.example/overloads/impl.errText"], ifaces := true, plainKeys := false, apart := false, laid := [("loop.example/overloads/impl.errText", laid_loop_example_overloads_impl_errText)] }
def FnExactKindsOfSaid : Prop := fnExactKindsOfRow.holds Tryz.pinned (OpenSpec.ofChange fnExactKindsOfSpec)

/-- ITS FALSE NEIGHBOUR: 'it returns false'. Refute it at one input. -/
def fnExactKindsOfWrong : ChangeSpec := { name := "fnExactKindsOf", vars := ["loop.example/overloads/impl.errText"], fn := fun _ => fun
  | [d1, d2, g1] => { results := [.lit (.bool false)], args := [d1, d2], vars := [g1] }
  | _ => none }
def FnExactKindsOfWrongFalsely : Prop := fnExactKindsOfRow.holds Tryz.pinned (OpenSpec.ofChange fnExactKindsOfWrong)

/-- 'laws.FnExactLeastKind': WHATEVER THE INPUT: true; the input reads as it did. -/
def fnExactLeastKindSpec : ChangeSpec := { name := "fnExactLeastKind", vars := ["loop.example/overloads/impl.errText"], fn := fun _ => fun
  | [d1, d2, g1] => { results := [.lit (.bool true)], args := [d1, d2], vars := [g1] }
  | _ => none }
def fnExactLeastKindRow : OpenClaim := { program := "ytnmbjmocnafekaagreatdoor", sum := "7ece4495337514c52539af59829c48e6553c5b6326001bda706352d811a5be71", func := "loop.example/overloads/laws.FnExactLeastKind", spec := "fnExactLeastKind", unfollowed := true, recurses := true, named := ["loop.example/overloads/impl.errText"], ifaces := true, plainKeys := false, apart := false, laid := [("loop.example/overloads/impl.errText", laid_loop_example_overloads_impl_errText)] }
def FnExactLeastKindSaid : Prop := fnExactLeastKindRow.holds Tryz.pinned (OpenSpec.ofChange fnExactLeastKindSpec)

/-- ITS FALSE NEIGHBOUR: 'it returns false'. Refute it at one input. -/
def fnExactLeastKindWrong : ChangeSpec := { name := "fnExactLeastKind", vars := ["loop.example/overloads/impl.errText"], fn := fun _ => fun
  | [d1, d2, g1] => { results := [.lit (.bool false)], args := [d1, d2], vars := [g1] }
  | _ => none }
def FnExactLeastKindWrongFalsely : Prop := fnExactLeastKindRow.holds Tryz.pinned (OpenSpec.ofChange fnExactLeastKindWrong)

/-- 'laws.FnExactCheapestMade': WHATEVER THE INPUT: true; the input reads as it did. -/
def fnExactCheapestMadeSpec : ChangeSpec := { name := "fnExactCheapestMade", vars := ["loop.example/overloads/impl.errText"], fn := fun _ => fun
  | [d1, d2, d3, g1] => { results := [.lit (.bool true)], args := [d1, d2, d3], vars := [g1] }
  | _ => none }
def fnExactCheapestMadeRow : OpenClaim := { program := "ytnmbjmocnafekaagreatdoor", sum := "7ece4495337514c52539af59829c48e6553c5b6326001bda706352d811a5be71", func := "loop.example/overloads/laws.FnExactCheapestMade", spec := "fnExactCheapestMade", unfollowed := true, recurses := true, named := ["loop.example/overloads/impl.errText"], ifaces := true, plainKeys := false, apart := false, laid := [("loop.example/overloads/impl.errText", laid_loop_example_overloads_impl_errText)] }
def FnExactCheapestMadeSaid : Prop := fnExactCheapestMadeRow.holds Tryz.pinned (OpenSpec.ofChange fnExactCheapestMadeSpec)

/-- ITS FALSE NEIGHBOUR: 'it returns false'. Refute it at one input. -/
def fnExactCheapestMadeWrong : ChangeSpec := { name := "fnExactCheapestMade", vars := ["loop.example/overloads/impl.errText"], fn := fun _ => fun
  | [d1, d2, d3, g1] => { results := [.lit (.bool false)], args := [d1, d2, d3], vars := [g1] }
  | _ => none }
def FnExactCheapestMadeWrongFalsely : Prop := fnExactCheapestMadeRow.holds Tryz.pinned (OpenSpec.ofChange fnExactCheapestMadeWrong)

/- THE SECOND FORM. 'bulk': how many values and letters a reading holds, each counted each time it is reached (what is shared counts as often as it is met; a slice's spare places count too). A statement '..UptoSaid' is the law's where the arguments, and the package variables that the reading takes, are together of bulk at most 1048576: NARROWER than '..Said'. Prove '..Said' where nothing that the law and all that it calls make is longer than what came in: it says more and counts as full. Else prove '..UptoSaid'. A law counts once. -/
mutual
def uptoBulk {H : Type} : DataW H → Nat
  | .lit (.string bytes) => bytes.length + 1
  | .lit _ => 1
  | .nil => 1
  | .ptr d => uptoBulk d + 1
  | .slice elems spare => uptoBulkAll elems + uptoBulkAll spare + 1
  | .agg parts => uptoBulkAll parts + 1
  | .iface _ d => uptoBulk d + 1
  | .map entries => uptoBulkEntries entries + 1
  | .held _ => 1
def uptoBulkAll {H : Type} : List (DataW H) → Nat
  | [] => 0
  | d :: r => uptoBulk d + uptoBulkAll r
def uptoBulkEntries {H : Type} : List (Lit × DataW H) → Nat
  | [] => 0
  | x :: r => uptoBulkEntry x + uptoBulkEntries r
def uptoBulkEntry {H : Type} : Lit × DataW H → Nat
  | (.string bytes, d) => bytes.length + uptoBulk d + 1
  | (_, d) => uptoBulk d + 1
 end
def uptoSmall : (H : Type) → List (DataW H) → Bool := fun _ ds => decide (uptoBulkAll ds ≤ 1048576)
def OpenSpec.upto (s : _root_.Go.ChangeSpec) : _root_.Go.OpenSpec := { _root_.Go.OpenSpec.ofChange s with cond := some uptoSmall }

/-- 'laws.FnExactIsRegular', WHERE WHAT IT READS IS OF BULK AT MOST 1048576: true; the input reads as it did. -/
def fnExactIsRegularUptoRow : OpenClaim := { program := "ytnmbjmocnafekaagreatdoor", sum := "7ece4495337514c52539af59829c48e6553c5b6326001bda706352d811a5be71", func := "loop.example/overloads/laws.FnExactIsRegular", spec := "fnExactIsRegular", inPlace := ["internal/reflectlite.TypeOf"], unfollowed := true, recurses := true, named := ["loop.example/overloads/impl.errInvalid", "loop.example/overloads/impl.errMany", "loop.example/overloads/impl.errNone"], ifaces := true, plainKeys := false, apart := false, laid := [("loop.example/overloads/impl.errInvalid", laid_loop_example_overloads_impl_errInvalid), ("loop.example/overloads/impl.errNone", laid_loop_example_overloads_impl_errNone), ("loop.example/overloads/impl.errMany", laid_loop_example_overloads_impl_errMany)], narrowed := true }
def FnExactIsRegularUptoSaid : Prop := fnExactIsRegularUptoRow.holds Tryz.pinned (OpenSpec.upto fnExactIsRegularSpec)

/-- 'laws.FnExactGapOf', WHERE WHAT IT READS IS OF BULK AT MOST 1048576: true; the input reads as it did. -/
def fnExactGapOfUptoRow : OpenClaim := { program := "ytnmbjmocnafekaagreatdoor", sum := "7ece4495337514c52539af59829c48e6553c5b6326001bda706352d811a5be71", func := "loop.example/overloads/laws.FnExactGapOf", spec := "fnExactGapOf", inPlace := ["internal/reflectlite.TypeOf", "internal/reflectlite.ValueOf", "(internal/reflectlite.Value).Type", "(internal/reflectlite.Value).IsNil", "(internal/reflectlite.Value).Elem", "(internal/reflectlite.Value).Set"], unfollowed := true, recurses := true, named := ["loop.example/overloads/impl.errInvalid", "loop.example/overloads/impl.errMany", "loop.example/overloads/impl.errNone", "errors.errorType"], ifaces := true, plainKeys := false, apart := false, laid := [("errors.errorType", laid_errors_errorType), ("loop.example/overloads/impl.errInvalid", laid_loop_example_overloads_impl_errInvalid), ("loop.example/overloads/impl.errNone", laid_loop_example_overloads_impl_errNone), ("loop.example/overloads/impl.errMany", laid_loop_example_overloads_impl_errMany)], narrowed := true }
def FnExactGapOfUptoSaid : Prop := fnExactGapOfUptoRow.holds Tryz.pinned (OpenSpec.upto fnExactGapOfSpec)

/-- 'laws.FnExactAllMade', WHERE WHAT IT READS IS OF BULK AT MOST 1048576: true; the input reads as it did. -/
def fnExactAllMadeUptoRow : OpenClaim := { program := "ytnmbjmocnafekaagreatdoor", sum := "7ece4495337514c52539af59829c48e6553c5b6326001bda706352d811a5be71", func := "loop.example/overloads/laws.FnExactAllMade", spec := "fnExactAllMade", unfollowed := true, recurses := true, named := ["loop.example/overloads/impl.errText"], ifaces := true, plainKeys := false, apart := false, laid := [("loop.example/overloads/impl.errText", laid_loop_example_overloads_impl_errText)], narrowed := true }
def FnExactAllMadeUptoSaid : Prop := fnExactAllMadeUptoRow.holds Tryz.pinned (OpenSpec.upto fnExactAllMadeSpec)

/-- 'laws.FnExactKindsOf', WHERE WHAT IT READS IS OF BULK AT MOST 1048576: true; the input reads as it did. -/
def fnExactKindsOfUptoRow : OpenClaim := { program := "ytnmbjmocnafekaagreatdoor", sum := "7ece4495337514c52539af59829c48e6553c5b6326001bda706352d811a5be71", func := "loop.example/overloads/laws.FnExactKindsOf", spec := "fnExactKindsOf", unfollowed := true, recurses := true, named := ["loop.example/overloads/impl.errText"], ifaces := true, plainKeys := false, apart := false, laid := [("loop.example/overloads/impl.errText", laid_loop_example_overloads_impl_errText)], narrowed := true }
def FnExactKindsOfUptoSaid : Prop := fnExactKindsOfUptoRow.holds Tryz.pinned (OpenSpec.upto fnExactKindsOfSpec)

/-- 'laws.FnExactLeastKind', WHERE WHAT IT READS IS OF BULK AT MOST 1048576: true; the input reads as it did. -/
def fnExactLeastKindUptoRow : OpenClaim := { program := "ytnmbjmocnafekaagreatdoor", sum := "7ece4495337514c52539af59829c48e6553c5b6326001bda706352d811a5be71", func := "loop.example/overloads/laws.FnExactLeastKind", spec := "fnExactLeastKind", unfollowed := true, recurses := true, named := ["loop.example/overloads/impl.errText"], ifaces := true, plainKeys := false, apart := false, laid := [("loop.example/overloads/impl.errText", laid_loop_example_overloads_impl_errText)], narrowed := true }
def FnExactLeastKindUptoSaid : Prop := fnExactLeastKindUptoRow.holds Tryz.pinned (OpenSpec.upto fnExactLeastKindSpec)

/-- 'laws.FnExactCheapestMade', WHERE WHAT IT READS IS OF BULK AT MOST 1048576: true; the input reads as it did. -/
def fnExactCheapestMadeUptoRow : OpenClaim := { program := "ytnmbjmocnafekaagreatdoor", sum := "7ece4495337514c52539af59829c48e6553c5b6326001bda706352d811a5be71", func := "loop.example/overloads/laws.FnExactCheapestMade", spec := "fnExactCheapestMade", unfollowed := true, recurses := true, named := ["loop.example/overloads/impl.errText"], ifaces := true, plainKeys := false, apart := false, laid := [("loop.example/overloads/impl.errText", laid_loop_example_overloads_impl_errText)], narrowed := true }
def FnExactCheapestMadeUptoSaid : Prop := fnExactCheapestMadeUptoRow.holds Tryz.pinned (OpenSpec.upto fnExactCheapestMadeSpec)

end Rows
end Go.Proofs.YtnmbjmocnafekaaGreatDoor
