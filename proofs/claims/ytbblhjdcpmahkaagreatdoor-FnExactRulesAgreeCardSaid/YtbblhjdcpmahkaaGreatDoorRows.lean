/-
  NARROWER THAN 'FOR EVERY INPUT', by the rows' own cells (each row's printed sentence says how): FnExactResolveCall: ifaces, laid · FnExactResolveByCost: ifaces, laid · FnExactRulesAgree: ifaces, laid.
  DERIVED. THE GIVEN ROWS OF THIS SEAT. 3 by the template 'for every input the law returns true; each argument reads behind the call as it read before'; 0 by the template 'total and deterministic' (their statements: YtbblhjdcpmahkaaGreatDoorTotals.lean).
  GIVEN WITH THE SEED: the statements are not yours to turn. If you find one false, say at which input.
  Laid BY PROGRAM, IN A SANDBOX (cutbox-rows.mjs): the forced cells as the released guide's own fill.sh prints them over the translation c4c3a79fff101f4d… (all of the seat's roots in one cut). By AI agents, Wed Nov 11 2026. No macro, syntax, notation, axiom, sorry.
-/
import Derived.Test.YtbblhjdcpmahkaaGreatDoorChecked
import GoSem.Claim
import GoSem.ClaimJoined
import GoSem.ClaimMapViews
import Derived.JoinedTies
import Derived.KernelRfl
namespace Go.Proofs.YtbblhjdcpmahkaaGreatDoor
/- THE CELL 'sum', in the pinned program and in every row, IS THE sha256 OF THE DUMP (.gsa) THAT YtbblhjdcpmahkaaGreatDoorProg.lean LOADS. Nothing in Lean hashes anything: it is a label: what it is worth is what the hold of that sum in a sandbox is worth. -/
noncomputable def Tryz.pinned : Pinned := { name := "ytbblhjdcpmahkaagreatdoor", sum := "c4c3a79fff101f4d4c37549dc6dd39c693b984c0e08f6bce9a1ad390315a3dde", checked := Tryz.checked }
namespace Rows
def none {H : Type} : Left H := { results := [], args := [] }

/- WHAT THE LISTED PACKAGE-LEVEL VARIABLES READ AS WHEN THE CALL BEGINS. Each datum BY PROGRAM (the guide's laid-datum.mjs) off the statement by which the dump's own 'gosem.cut.vars' lays the variable. In a bare row this is a premise. The card (YtbblhjdcpmahkaaGreatDoorCards.lean) ties it to the program's text. -/
def laid_loop_example_overloads_impl_errNone {H : Type} : DataW H := .iface "*errors.errorString" (.ptr (.agg [.lit (.string [110, 111, 32, 102, 117, 110, 99, 116, 105, 111, 110, 32, 105, 115, 32, 97, 112, 112, 108, 105, 99, 97, 98, 108, 101])]))
def laid_loop_example_overloads_impl_errMany {H : Type} : DataW H := .iface "*errors.errorString" (.ptr (.agg [.lit (.string [110, 111, 32, 102, 117, 110, 99, 116, 105, 111, 110, 32, 105, 115, 32, 98, 101, 102, 111, 114, 101, 32, 97, 108, 108, 32, 111, 116, 104, 101, 114, 115])]))

/-- 'laws.FnExactResolveCall': WHATEVER THE INPUT: true; the input reads as it did. -/
def fnExactResolveCallSpec : ChangeSpec := { name := "fnExactResolveCall", vars := ["loop.example/overloads/impl.errNone", "loop.example/overloads/impl.errMany"], fn := fun _ => fun
  | [d1, d2, d3, g1, g2] => { results := [.lit (.bool true)], args := [d1, d2, d3], vars := [g1, g2] }
  | _ => none }
def fnExactResolveCallRow : OpenClaim := { program := "ytbblhjdcpmahkaagreatdoor", sum := "c4c3a79fff101f4d4c37549dc6dd39c693b984c0e08f6bce9a1ad390315a3dde", func := "loop.example/overloads/laws.FnExactResolveCall", spec := "fnExactResolveCall", inPlace := ["internal/reflectlite.TypeOf"], unfollowed := true, recurses := true, named := ["loop.example/overloads/impl.errNone", "loop.example/overloads/impl.errMany"], ifaces := true, apart := false, laid := [("loop.example/overloads/impl.errNone", laid_loop_example_overloads_impl_errNone), ("loop.example/overloads/impl.errMany", laid_loop_example_overloads_impl_errMany)] }
def FnExactResolveCallSaid : Prop := fnExactResolveCallRow.holds Tryz.pinned (OpenSpec.ofChange fnExactResolveCallSpec)

/-- ITS FALSE NEIGHBOUR: 'it returns false'. Refute it at one input. -/
def fnExactResolveCallWrong : ChangeSpec := { name := "fnExactResolveCall", vars := ["loop.example/overloads/impl.errNone", "loop.example/overloads/impl.errMany"], fn := fun _ => fun
  | [d1, d2, d3, g1, g2] => { results := [.lit (.bool false)], args := [d1, d2, d3], vars := [g1, g2] }
  | _ => none }
def FnExactResolveCallWrongFalsely : Prop := fnExactResolveCallRow.holds Tryz.pinned (OpenSpec.ofChange fnExactResolveCallWrong)

/-- 'laws.FnExactResolveByCost': WHATEVER THE INPUT: true; the input reads as it did. -/
def fnExactResolveByCostSpec : ChangeSpec := { name := "fnExactResolveByCost", vars := ["loop.example/overloads/impl.errNone", "loop.example/overloads/impl.errMany"], fn := fun _ => fun
  | [d1, d2, d3, g1, g2] => { results := [.lit (.bool true)], args := [d1, d2, d3], vars := [g1, g2] }
  | _ => none }
def fnExactResolveByCostRow : OpenClaim := { program := "ytbblhjdcpmahkaagreatdoor", sum := "c4c3a79fff101f4d4c37549dc6dd39c693b984c0e08f6bce9a1ad390315a3dde", func := "loop.example/overloads/laws.FnExactResolveByCost", spec := "fnExactResolveByCost", inPlace := ["internal/reflectlite.TypeOf"], unfollowed := true, recurses := true, named := ["loop.example/overloads/impl.errNone", "loop.example/overloads/impl.errMany"], ifaces := true, apart := false, laid := [("loop.example/overloads/impl.errNone", laid_loop_example_overloads_impl_errNone), ("loop.example/overloads/impl.errMany", laid_loop_example_overloads_impl_errMany)] }
def FnExactResolveByCostSaid : Prop := fnExactResolveByCostRow.holds Tryz.pinned (OpenSpec.ofChange fnExactResolveByCostSpec)

/-- ITS FALSE NEIGHBOUR: 'it returns false'. Refute it at one input. -/
def fnExactResolveByCostWrong : ChangeSpec := { name := "fnExactResolveByCost", vars := ["loop.example/overloads/impl.errNone", "loop.example/overloads/impl.errMany"], fn := fun _ => fun
  | [d1, d2, d3, g1, g2] => { results := [.lit (.bool false)], args := [d1, d2, d3], vars := [g1, g2] }
  | _ => none }
def FnExactResolveByCostWrongFalsely : Prop := fnExactResolveByCostRow.holds Tryz.pinned (OpenSpec.ofChange fnExactResolveByCostWrong)

/-- 'laws.FnExactRulesAgree': WHATEVER THE INPUT: true; the input reads as it did. -/
def fnExactRulesAgreeSpec : ChangeSpec := { name := "fnExactRulesAgree", vars := ["loop.example/overloads/impl.errNone", "loop.example/overloads/impl.errMany"], fn := fun _ => fun
  | [d1, d2, d3, g1, g2] => { results := [.lit (.bool true)], args := [d1, d2, d3], vars := [g1, g2] }
  | _ => none }
def fnExactRulesAgreeRow : OpenClaim := { program := "ytbblhjdcpmahkaagreatdoor", sum := "c4c3a79fff101f4d4c37549dc6dd39c693b984c0e08f6bce9a1ad390315a3dde", func := "loop.example/overloads/laws.FnExactRulesAgree", spec := "fnExactRulesAgree", inPlace := ["internal/reflectlite.TypeOf"], unfollowed := true, recurses := true, named := ["loop.example/overloads/impl.errNone", "loop.example/overloads/impl.errMany"], ifaces := true, apart := false, laid := [("loop.example/overloads/impl.errNone", laid_loop_example_overloads_impl_errNone), ("loop.example/overloads/impl.errMany", laid_loop_example_overloads_impl_errMany)] }
def FnExactRulesAgreeSaid : Prop := fnExactRulesAgreeRow.holds Tryz.pinned (OpenSpec.ofChange fnExactRulesAgreeSpec)

/-- ITS FALSE NEIGHBOUR: 'it returns false'. Refute it at one input. -/
def fnExactRulesAgreeWrong : ChangeSpec := { name := "fnExactRulesAgree", vars := ["loop.example/overloads/impl.errNone", "loop.example/overloads/impl.errMany"], fn := fun _ => fun
  | [d1, d2, d3, g1, g2] => { results := [.lit (.bool false)], args := [d1, d2, d3], vars := [g1, g2] }
  | _ => none }
def FnExactRulesAgreeWrongFalsely : Prop := fnExactRulesAgreeRow.holds Tryz.pinned (OpenSpec.ofChange fnExactRulesAgreeWrong)

/- THE SECOND FORM. 'bulk': how many values and letters a reading holds, each counted each time it is reached (what is shared counts as often as it is met; a slice's spare places count too). A statement '..UptoSaid' is the law's where the arguments, and the package variables that the reading takes, are together of bulk at most 1048576: NARROWER than '..Said'. Prove '..Said' where nothing that the law and all that it calls make is longer than what came in: it says more and counts as full. Else prove '..UptoSaid'. A law counts once. -/
mutual
def uptoBulk {H : Type} : DataW H → Nat
  | .lit (.string bytes) => bytes.length + 1
  | .lit _ => 1
  | .nil => 1
  | .ptr d => uptoBulk d + 1
  | .slice elems spare => uptoBulkAll elems + uptoBulkAll spare + 1
  | .agg parts => uptoBulkAll parts + 1
  | .iface _ d => uptoBulk d + 1
  | .map entries => uptoBulkEntries entries + 1
  | .held _ => 1
def uptoBulkAll {H : Type} : List (DataW H) → Nat
  | [] => 0
  | d :: r => uptoBulk d + uptoBulkAll r
def uptoBulkEntries {H : Type} : List (Lit × DataW H) → Nat
  | [] => 0
  | x :: r => uptoBulkEntry x + uptoBulkEntries r
def uptoBulkEntry {H : Type} : Lit × DataW H → Nat
  | (.string bytes, d) => bytes.length + uptoBulk d + 1
  | (_, d) => uptoBulk d + 1
 end
def uptoSmall : (H : Type) → List (DataW H) → Bool := fun _ ds => decide (uptoBulkAll ds ≤ 1048576)
def OpenSpec.upto (s : _root_.Go.ChangeSpec) : _root_.Go.OpenSpec := { _root_.Go.OpenSpec.ofChange s with cond := some uptoSmall }

/-- 'laws.FnExactResolveCall', WHERE WHAT IT READS IS OF BULK AT MOST 1048576: true; the input reads as it did. -/
def fnExactResolveCallUptoRow : OpenClaim := { program := "ytbblhjdcpmahkaagreatdoor", sum := "c4c3a79fff101f4d4c37549dc6dd39c693b984c0e08f6bce9a1ad390315a3dde", func := "loop.example/overloads/laws.FnExactResolveCall", spec := "fnExactResolveCall", inPlace := ["internal/reflectlite.TypeOf"], unfollowed := true, recurses := true, named := ["loop.example/overloads/impl.errNone", "loop.example/overloads/impl.errMany"], ifaces := true, apart := false, laid := [("loop.example/overloads/impl.errNone", laid_loop_example_overloads_impl_errNone), ("loop.example/overloads/impl.errMany", laid_loop_example_overloads_impl_errMany)], narrowed := true }
def FnExactResolveCallUptoSaid : Prop := fnExactResolveCallUptoRow.holds Tryz.pinned (OpenSpec.upto fnExactResolveCallSpec)

/-- 'laws.FnExactResolveByCost', WHERE WHAT IT READS IS OF BULK AT MOST 1048576: true; the input reads as it did. -/
def fnExactResolveByCostUptoRow : OpenClaim := { program := "ytbblhjdcpmahkaagreatdoor", sum := "c4c3a79fff101f4d4c37549dc6dd39c693b984c0e08f6bce9a1ad390315a3dde", func := "loop.example/overloads/laws.FnExactResolveByCost", spec := "fnExactResolveByCost", inPlace := ["internal/reflectlite.TypeOf"], unfollowed := true, recurses := true, named := ["loop.example/overloads/impl.errNone", "loop.example/overloads/impl.errMany"], ifaces := true, apart := false, laid := [("loop.example/overloads/impl.errNone", laid_loop_example_overloads_impl_errNone), ("loop.example/overloads/impl.errMany", laid_loop_example_overloads_impl_errMany)], narrowed := true }
def FnExactResolveByCostUptoSaid : Prop := fnExactResolveByCostUptoRow.holds Tryz.pinned (OpenSpec.upto fnExactResolveByCostSpec)

/-- 'laws.FnExactRulesAgree', WHERE WHAT IT READS IS OF BULK AT MOST 1048576: true; the input reads as it did. -/
def fnExactRulesAgreeUptoRow : OpenClaim := { program := "ytbblhjdcpmahkaagreatdoor", sum := "c4c3a79fff101f4d4c37549dc6dd39c693b984c0e08f6bce9a1ad390315a3dde", func := "loop.example/overloads/laws.FnExactRulesAgree", spec := "fnExactRulesAgree", inPlace := ["internal/reflectlite.TypeOf"], unfollowed := true, recurses := true, named := ["loop.example/overloads/impl.errNone", "loop.example/overloads/impl.errMany"], ifaces := true, apart := false, laid := [("loop.example/overloads/impl.errNone", laid_loop_example_overloads_impl_errNone), ("loop.example/overloads/impl.errMany", laid_loop_example_overloads_impl_errMany)], narrowed := true }
def FnExactRulesAgreeUptoSaid : Prop := fnExactRulesAgreeUptoRow.holds Tryz.pinned (OpenSpec.upto fnExactRulesAgreeSpec)

end Rows
end Go.Proofs.YtbblhjdcpmahkaaGreatDoor
