/-
  NARROWER THAN 'FOR EVERY INPUT', by the rows' own cells (each row's printed sentence says how): FnExactTermValid: ifaces, laid · FnExactHeadOf: ifaces, laid · FnExactPartsOf: ifaces, laid · FnExactLiteralOf: ifaces, laid · FnExactCallTerm: ifaces, laid · FnExactSizeOf: ifaces, laid · FnExactDepthOf: ifaces, laid · FnExactNamesIn: ifaces, laid · FnExactPutLiteral: ifaces, laid · FnSizes: ifaces, laid · FnParts: ifaces, laid · FnCallTerm: ifaces, laid · FnPutLiteral: ifaces, laid.
  DERIVED. THE GIVEN ROWS OF THIS SEAT. 13 by the template 'for every input the law returns true; each argument reads behind the call as it read before'; 0 by the template 'total and deterministic' (their statements: YtcecljolnknapaaDoorTotals.lean).
  GIVEN WITH THE SEED: the statements are not yours to turn. If you find one false, say at which input.
  Laid BY PROGRAM, IN A SANDBOX (cutbox-rows.mjs): the forced cells as the released guide's own fill.sh prints them over the translation 54db1c4975a1e9e5… (all of the seat's roots in one cut). By AI agents, Wed Nov 11 2026. No macro, syntax, notation, axiom, sorry.
-/
import Derived.Test.YtcecljolnknapaaDoorChecked
import GoSem.Claim
import GoSem.ClaimJoined
import GoSem.ClaimMapViews
import Derived.JoinedTies
import Derived.KernelRfl
namespace Go.Proofs.YtcecljolnknapaaDoor
/- THE CELL 'sum', in the pinned program and in every row, IS THE sha256 OF THE DUMP (.gsa) THAT YtcecljolnknapaaDoorProg.lean LOADS. Nothing in Lean hashes anything: it is a label: what it is worth is what the hold of that sum in a sandbox is worth. -/
noncomputable def Tryd.pinned : Pinned := { name := "ytcecljolnknapaadoor", sum := "54db1c4975a1e9e59fcade8b0dadd190d0b6c3443bfa7cd6df705484c64b9a12", checked := Tryd.checked }
namespace Rows
def none {H : Type} : Left H := { results := [], args := [] }

/- WHAT THE LISTED PACKAGE-LEVEL VARIABLES READ AS WHEN THE CALL BEGINS. Each datum BY PROGRAM (the guide's laid-datum.mjs) off the statement by which the dump's own 'gosem.cut.vars' lays the variable. In a bare row this is a premise. The card (YtcecljolnknapaaDoorCards.lean) ties it to the program's text. -/
def laid_loop_example_overloads_impl_errText {H : Type} : DataW H := .iface "*errors.errorString" (.ptr (.agg [.lit (.string [116, 101, 120, 116, 32, 100, 111, 101, 115, 32, 110, 111, 116, 32, 102, 105, 116])]))
def laid_math_bits_deBruijn32tab {H : Type} : DataW H := .agg [.lit (.int .u8 0), .lit (.int .u8 1), .lit (.int .u8 28), .lit (.int .u8 2), .lit (.int .u8 29), .lit (.int .u8 14), .lit (.int .u8 24), .lit (.int .u8 3), .lit (.int .u8 30), .lit (.int .u8 22), .lit (.int .u8 20), .lit (.int .u8 15), .lit (.int .u8 25), .lit (.int .u8 17), .lit (.int .u8 4), .lit (.int .u8 8), .lit (.int .u8 31), .lit (.int .u8 27), .lit (.int .u8 13), .lit (.int .u8 23), .lit (.int .u8 21), .lit (.int .u8 19), .lit (.int .u8 16), .lit (.int .u8 7), .lit (.int .u8 26), .lit (.int .u8 12), .lit (.int .u8 18), .lit (.int .u8 6), .lit (.int .u8 11), .lit (.int .u8 5), .lit (.int .u8 10), .lit (.int .u8 9)]
def laid_math_bits_deBruijn64tab {H : Type} : DataW H := .agg [.lit (.int .u8 0), .lit (.int .u8 1), .lit (.int .u8 56), .lit (.int .u8 2), .lit (.int .u8 57), .lit (.int .u8 49), .lit (.int .u8 28), .lit (.int .u8 3), .lit (.int .u8 61), .lit (.int .u8 58), .lit (.int .u8 42), .lit (.int .u8 50), .lit (.int .u8 38), .lit (.int .u8 29), .lit (.int .u8 17), .lit (.int .u8 4), .lit (.int .u8 62), .lit (.int .u8 47), .lit (.int .u8 59), .lit (.int .u8 36), .lit (.int .u8 45), .lit (.int .u8 43), .lit (.int .u8 51), .lit (.int .u8 22), .lit (.int .u8 53), .lit (.int .u8 39), .lit (.int .u8 33), .lit (.int .u8 30), .lit (.int .u8 24), .lit (.int .u8 18), .lit (.int .u8 12), .lit (.int .u8 5), .lit (.int .u8 63), .lit (.int .u8 55), .lit (.int .u8 48), .lit (.int .u8 27), .lit (.int .u8 60), .lit (.int .u8 41), .lit (.int .u8 37), .lit (.int .u8 16), .lit (.int .u8 46), .lit (.int .u8 35), .lit (.int .u8 44), .lit (.int .u8 21), .lit (.int .u8 52), .lit (.int .u8 32), .lit (.int .u8 23), .lit (.int .u8 11), .lit (.int .u8 54), .lit (.int .u8 26), .lit (.int .u8 40), .lit (.int .u8 15), .lit (.int .u8 34), .lit (.int .u8 20), .lit (.int .u8 31), .lit (.int .u8 10), .lit (.int .u8 25), .lit (.int .u8 14), .lit (.int .u8 19), .lit (.int .u8 9), .lit (.int .u8 13), .lit (.int .u8 8), .lit (.int .u8 7), .lit (.int .u8 6)]
def laid_internal_strconv_uint64pow10 {H : Type} : DataW H := .agg [.lit (.int .u64 1), .lit (.int .u64 10), .lit (.int .u64 100), .lit (.int .u64 1000), .lit (.int .u64 10000), .lit (.int .u64 100000), .lit (.int .u64 1000000), .lit (.int .u64 10000000), .lit (.int .u64 100000000), .lit (.int .u64 1000000000), .lit (.int .u64 10000000000), .lit (.int .u64 100000000000), .lit (.int .u64 1000000000000), .lit (.int .u64 10000000000000), .lit (.int .u64 100000000000000), .lit (.int .u64 1000000000000000), .lit (.int .u64 10000000000000000), .lit (.int .u64 100000000000000000), .lit (.int .u64 1000000000000000000), .lit (.int .u64 10000000000000000000)]

/-- 'laws.FnExactTermValid': WHATEVER THE INPUT: true; the input reads as it did. -/
def fnExactTermValidSpec : ChangeSpec := { name := "fnExactTermValid", vars := ["loop.example/overloads/impl.errText"], fn := fun _ => fun
  | [d, g1] => { results := [.lit (.bool true)], args := [d], vars := [g1] }
  | _ => none }
def fnExactTermValidRow : OpenClaim := { program := "ytcecljolnknapaadoor", sum := "54db1c4975a1e9e59fcade8b0dadd190d0b6c3443bfa7cd6df705484c64b9a12", func := "loop.example/overloads/laws.FnExactTermValid", spec := "fnExactTermValid", recurses := true, named := ["loop.example/overloads/impl.errText"], ifaces := true, apart := false, laid := [("loop.example/overloads/impl.errText", laid_loop_example_overloads_impl_errText)] }
def FnExactTermValidSaid : Prop := fnExactTermValidRow.holds Tryd.pinned (OpenSpec.ofChange fnExactTermValidSpec)

/-- ITS FALSE NEIGHBOUR: 'it returns false'. Refute it at one input. -/
def fnExactTermValidWrong : ChangeSpec := { name := "fnExactTermValid", vars := ["loop.example/overloads/impl.errText"], fn := fun _ => fun
  | [d, g1] => { results := [.lit (.bool false)], args := [d], vars := [g1] }
  | _ => none }
def FnExactTermValidWrongFalsely : Prop := fnExactTermValidRow.holds Tryd.pinned (OpenSpec.ofChange fnExactTermValidWrong)

/-- 'laws.FnExactHeadOf': WHATEVER THE INPUT: true; the input reads as it did. -/
def fnExactHeadOfSpec : ChangeSpec := { name := "fnExactHeadOf", vars := ["loop.example/overloads/impl.errText"], fn := fun _ => fun
  | [d, g1] => { results := [.lit (.bool true)], args := [d], vars := [g1] }
  | _ => none }
def fnExactHeadOfRow : OpenClaim := { program := "ytcecljolnknapaadoor", sum := "54db1c4975a1e9e59fcade8b0dadd190d0b6c3443bfa7cd6df705484c64b9a12", func := "loop.example/overloads/laws.FnExactHeadOf", spec := "fnExactHeadOf", recurses := true, named := ["loop.example/overloads/impl.errText"], ifaces := true, apart := false, laid := [("loop.example/overloads/impl.errText", laid_loop_example_overloads_impl_errText)] }
def FnExactHeadOfSaid : Prop := fnExactHeadOfRow.holds Tryd.pinned (OpenSpec.ofChange fnExactHeadOfSpec)

/-- ITS FALSE NEIGHBOUR: 'it returns false'. Refute it at one input. -/
def fnExactHeadOfWrong : ChangeSpec := { name := "fnExactHeadOf", vars := ["loop.example/overloads/impl.errText"], fn := fun _ => fun
  | [d, g1] => { results := [.lit (.bool false)], args := [d], vars := [g1] }
  | _ => none }
def FnExactHeadOfWrongFalsely : Prop := fnExactHeadOfRow.holds Tryd.pinned (OpenSpec.ofChange fnExactHeadOfWrong)

/-- 'laws.FnExactPartsOf': WHATEVER THE INPUT: true; the input reads as it did. -/
def fnExactPartsOfSpec : ChangeSpec := { name := "fnExactPartsOf", vars := ["loop.example/overloads/impl.errText"], fn := fun _ => fun
  | [d, g1] => { results := [.lit (.bool true)], args := [d], vars := [g1] }
  | _ => none }
def fnExactPartsOfRow : OpenClaim := { program := "ytcecljolnknapaadoor", sum := "54db1c4975a1e9e59fcade8b0dadd190d0b6c3443bfa7cd6df705484c64b9a12", func := "loop.example/overloads/laws.FnExactPartsOf", spec := "fnExactPartsOf", unfollowed := true, recurses := true, named := ["loop.example/overloads/impl.errText"], ifaces := true, apart := false, laid := [("loop.example/overloads/impl.errText", laid_loop_example_overloads_impl_errText)] }
def FnExactPartsOfSaid : Prop := fnExactPartsOfRow.holds Tryd.pinned (OpenSpec.ofChange fnExactPartsOfSpec)

/-- ITS FALSE NEIGHBOUR: 'it returns false'. Refute it at one input. -/
def fnExactPartsOfWrong : ChangeSpec := { name := "fnExactPartsOf", vars := ["loop.example/overloads/impl.errText"], fn := fun _ => fun
  | [d, g1] => { results := [.lit (.bool false)], args := [d], vars := [g1] }
  | _ => none }
def FnExactPartsOfWrongFalsely : Prop := fnExactPartsOfRow.holds Tryd.pinned (OpenSpec.ofChange fnExactPartsOfWrong)

/-- 'laws.FnExactLiteralOf': WHATEVER THE INPUT: true; the input reads as it did. -/
def fnExactLiteralOfSpec : ChangeSpec := { name := "fnExactLiteralOf", vars := ["loop.example/overloads/impl.errText"], fn := fun _ => fun
  | [d, g1] => { results := [.lit (.bool true)], args := [d], vars := [g1] }
  | _ => none }
def fnExactLiteralOfRow : OpenClaim := { program := "ytcecljolnknapaadoor", sum := "54db1c4975a1e9e59fcade8b0dadd190d0b6c3443bfa7cd6df705484c64b9a12", func := "loop.example/overloads/laws.FnExactLiteralOf", spec := "fnExactLiteralOf", recurses := true, named := ["loop.example/overloads/impl.errText"], ifaces := true, apart := false, laid := [("loop.example/overloads/impl.errText", laid_loop_example_overloads_impl_errText)] }
def FnExactLiteralOfSaid : Prop := fnExactLiteralOfRow.holds Tryd.pinned (OpenSpec.ofChange fnExactLiteralOfSpec)

/-- ITS FALSE NEIGHBOUR: 'it returns false'. Refute it at one input. -/
def fnExactLiteralOfWrong : ChangeSpec := { name := "fnExactLiteralOf", vars := ["loop.example/overloads/impl.errText"], fn := fun _ => fun
  | [d, g1] => { results := [.lit (.bool false)], args := [d], vars := [g1] }
  | _ => none }
def FnExactLiteralOfWrongFalsely : Prop := fnExactLiteralOfRow.holds Tryd.pinned (OpenSpec.ofChange fnExactLiteralOfWrong)

/-- 'laws.FnExactCallTerm': WHATEVER THE INPUT: true; the input reads as it did. -/
def fnExactCallTermSpec : ChangeSpec := { name := "fnExactCallTerm", vars := ["loop.example/overloads/impl.errText"], fn := fun _ => fun
  | [d1, d2, g1] => { results := [.lit (.bool true)], args := [d1, d2], vars := [g1] }
  | _ => none }
def fnExactCallTermRow : OpenClaim := { program := "ytcecljolnknapaadoor", sum := "54db1c4975a1e9e59fcade8b0dadd190d0b6c3443bfa7cd6df705484c64b9a12", func := "loop.example/overloads/laws.FnExactCallTerm", spec := "fnExactCallTerm", inPlace := ["internal/abi.NoEscape", "internal/bytealg.MakeNoZero"], recurses := true, named := ["loop.example/overloads/impl.errText"], ifaces := true, apart := false, laid := [("loop.example/overloads/impl.errText", laid_loop_example_overloads_impl_errText)] }
def FnExactCallTermSaid : Prop := fnExactCallTermRow.holds Tryd.pinned (OpenSpec.ofChange fnExactCallTermSpec)

/-- ITS FALSE NEIGHBOUR: 'it returns false'. Refute it at one input. -/
def fnExactCallTermWrong : ChangeSpec := { name := "fnExactCallTerm", vars := ["loop.example/overloads/impl.errText"], fn := fun _ => fun
  | [d1, d2, g1] => { results := [.lit (.bool false)], args := [d1, d2], vars := [g1] }
  | _ => none }
def FnExactCallTermWrongFalsely : Prop := fnExactCallTermRow.holds Tryd.pinned (OpenSpec.ofChange fnExactCallTermWrong)

/-- 'laws.FnExactSizeOf': WHATEVER THE INPUT: true; the input reads as it did. -/
def fnExactSizeOfSpec : ChangeSpec := { name := "fnExactSizeOf", vars := ["loop.example/overloads/impl.errText"], fn := fun _ => fun
  | [d, g1] => { results := [.lit (.bool true)], args := [d], vars := [g1] }
  | _ => none }
def fnExactSizeOfRow : OpenClaim := { program := "ytcecljolnknapaadoor", sum := "54db1c4975a1e9e59fcade8b0dadd190d0b6c3443bfa7cd6df705484c64b9a12", func := "loop.example/overloads/laws.FnExactSizeOf", spec := "fnExactSizeOf", recurses := true, named := ["loop.example/overloads/impl.errText"], ifaces := true, apart := false, laid := [("loop.example/overloads/impl.errText", laid_loop_example_overloads_impl_errText)] }
def FnExactSizeOfSaid : Prop := fnExactSizeOfRow.holds Tryd.pinned (OpenSpec.ofChange fnExactSizeOfSpec)

/-- ITS FALSE NEIGHBOUR: 'it returns false'. Refute it at one input. -/
def fnExactSizeOfWrong : ChangeSpec := { name := "fnExactSizeOf", vars := ["loop.example/overloads/impl.errText"], fn := fun _ => fun
  | [d, g1] => { results := [.lit (.bool false)], args := [d], vars := [g1] }
  | _ => none }
def FnExactSizeOfWrongFalsely : Prop := fnExactSizeOfRow.holds Tryd.pinned (OpenSpec.ofChange fnExactSizeOfWrong)

/-- 'laws.FnExactDepthOf': WHATEVER THE INPUT: true; the input reads as it did. -/
def fnExactDepthOfSpec : ChangeSpec := { name := "fnExactDepthOf", vars := ["loop.example/overloads/impl.errText"], fn := fun _ => fun
  | [d, g1] => { results := [.lit (.bool true)], args := [d], vars := [g1] }
  | _ => none }
def fnExactDepthOfRow : OpenClaim := { program := "ytcecljolnknapaadoor", sum := "54db1c4975a1e9e59fcade8b0dadd190d0b6c3443bfa7cd6df705484c64b9a12", func := "loop.example/overloads/laws.FnExactDepthOf", spec := "fnExactDepthOf", recurses := true, named := ["loop.example/overloads/impl.errText"], ifaces := true, apart := false, laid := [("loop.example/overloads/impl.errText", laid_loop_example_overloads_impl_errText)] }
def FnExactDepthOfSaid : Prop := fnExactDepthOfRow.holds Tryd.pinned (OpenSpec.ofChange fnExactDepthOfSpec)

/-- ITS FALSE NEIGHBOUR: 'it returns false'. Refute it at one input. -/
def fnExactDepthOfWrong : ChangeSpec := { name := "fnExactDepthOf", vars := ["loop.example/overloads/impl.errText"], fn := fun _ => fun
  | [d, g1] => { results := [.lit (.bool false)], args := [d], vars := [g1] }
  | _ => none }
def FnExactDepthOfWrongFalsely : Prop := fnExactDepthOfRow.holds Tryd.pinned (OpenSpec.ofChange fnExactDepthOfWrong)

/-- 'laws.FnExactNamesIn': WHATEVER THE INPUT: true; the input reads as it did. -/
def fnExactNamesInSpec : ChangeSpec := { name := "fnExactNamesIn", vars := ["loop.example/overloads/impl.errText"], fn := fun _ => fun
  | [d, g1] => { results := [.lit (.bool true)], args := [d], vars := [g1] }
  | _ => none }
def fnExactNamesInRow : OpenClaim := { program := "ytcecljolnknapaadoor", sum := "54db1c4975a1e9e59fcade8b0dadd190d0b6c3443bfa7cd6df705484c64b9a12", func := "loop.example/overloads/laws.FnExactNamesIn", spec := "fnExactNamesIn", inPlace := ["internal/abi.NoEscape", "internal/bytealg.MakeNoZero"], recurses := true, named := ["loop.example/overloads/impl.errText"], ifaces := true, apart := false, laid := [("loop.example/overloads/impl.errText", laid_loop_example_overloads_impl_errText)] }
def FnExactNamesInSaid : Prop := fnExactNamesInRow.holds Tryd.pinned (OpenSpec.ofChange fnExactNamesInSpec)

/-- ITS FALSE NEIGHBOUR: 'it returns false'. Refute it at one input. -/
def fnExactNamesInWrong : ChangeSpec := { name := "fnExactNamesIn", vars := ["loop.example/overloads/impl.errText"], fn := fun _ => fun
  | [d, g1] => { results := [.lit (.bool false)], args := [d], vars := [g1] }
  | _ => none }
def FnExactNamesInWrongFalsely : Prop := fnExactNamesInRow.holds Tryd.pinned (OpenSpec.ofChange fnExactNamesInWrong)

/-- 'laws.FnExactPutLiteral': WHATEVER THE INPUT: true; the input reads as it did. -/
def fnExactPutLiteralSpec : ChangeSpec := { name := "fnExactPutLiteral", vars := ["loop.example/overloads/impl.errText"], fn := fun _ => fun
  | [d1, d2, d3, d4, g1] => { results := [.lit (.bool true)], args := [d1, d2, d3, d4], vars := [g1] }
  | _ => none }
def fnExactPutLiteralRow : OpenClaim := { program := "ytcecljolnknapaadoor", sum := "54db1c4975a1e9e59fcade8b0dadd190d0b6c3443bfa7cd6df705484c64b9a12", func := "loop.example/overloads/laws.FnExactPutLiteral", spec := "fnExactPutLiteral", recurses := true, named := ["loop.example/overloads/impl.errText", "internal/strconv.uint64pow10", "math/bits.deBruijn32tab", "math/bits.deBruijn64tab"], ifaces := true, apart := false, laid := [("math/bits.deBruijn32tab", laid_math_bits_deBruijn32tab), ("math/bits.deBruijn64tab", laid_math_bits_deBruijn64tab), ("internal/strconv.uint64pow10", laid_internal_strconv_uint64pow10), ("loop.example/overloads/impl.errText", laid_loop_example_overloads_impl_errText)] }
def FnExactPutLiteralSaid : Prop := fnExactPutLiteralRow.holds Tryd.pinned (OpenSpec.ofChange fnExactPutLiteralSpec)

/-- ITS FALSE NEIGHBOUR: 'it returns false'. Refute it at one input. -/
def fnExactPutLiteralWrong : ChangeSpec := { name := "fnExactPutLiteral", vars := ["loop.example/overloads/impl.errText"], fn := fun _ => fun
  | [d1, d2, d3, d4, g1] => { results := [.lit (.bool false)], args := [d1, d2, d3, d4], vars := [g1] }
  | _ => none }
def FnExactPutLiteralWrongFalsely : Prop := fnExactPutLiteralRow.holds Tryd.pinned (OpenSpec.ofChange fnExactPutLiteralWrong)

/-- 'laws.FnSizes': WHATEVER THE INPUT: true; the input reads as it did. -/
def fnSizesSpec : ChangeSpec := { name := "fnSizes", vars := ["loop.example/overloads/impl.errText"], fn := fun _ => fun
  | [d, g1] => { results := [.lit (.bool true)], args := [d], vars := [g1] }
  | _ => none }
def fnSizesRow : OpenClaim := { program := "ytcecljolnknapaadoor", sum := "54db1c4975a1e9e59fcade8b0dadd190d0b6c3443bfa7cd6df705484c64b9a12", func := "loop.example/overloads/laws.FnSizes", spec := "fnSizes", inPlace := ["internal/abi.NoEscape", "internal/bytealg.MakeNoZero"], recurses := true, named := ["loop.example/overloads/impl.errText"], ifaces := true, apart := false, laid := [("loop.example/overloads/impl.errText", laid_loop_example_overloads_impl_errText)] }
def FnSizesSaid : Prop := fnSizesRow.holds Tryd.pinned (OpenSpec.ofChange fnSizesSpec)

/-- ITS FALSE NEIGHBOUR: 'it returns false'. Refute it at one input. -/
def fnSizesWrong : ChangeSpec := { name := "fnSizes", vars := ["loop.example/overloads/impl.errText"], fn := fun _ => fun
  | [d, g1] => { results := [.lit (.bool false)], args := [d], vars := [g1] }
  | _ => none }
def FnSizesWrongFalsely : Prop := fnSizesRow.holds Tryd.pinned (OpenSpec.ofChange fnSizesWrong)

/-- 'laws.FnParts': WHATEVER THE INPUT: true; the input reads as it did. -/
def fnPartsSpec : ChangeSpec := { name := "fnParts", vars := ["loop.example/overloads/impl.errText"], fn := fun _ => fun
  | [d, g1] => { results := [.lit (.bool true)], args := [d], vars := [g1] }
  | _ => none }
def fnPartsRow : OpenClaim := { program := "ytcecljolnknapaadoor", sum := "54db1c4975a1e9e59fcade8b0dadd190d0b6c3443bfa7cd6df705484c64b9a12", func := "loop.example/overloads/laws.FnParts", spec := "fnParts", inPlace := ["internal/abi.NoEscape", "internal/bytealg.MakeNoZero"], unfollowed := true, recurses := true, named := ["loop.example/overloads/impl.errText"], ifaces := true, apart := false, laid := [("loop.example/overloads/impl.errText", laid_loop_example_overloads_impl_errText)] }
def FnPartsSaid : Prop := fnPartsRow.holds Tryd.pinned (OpenSpec.ofChange fnPartsSpec)

/-- ITS FALSE NEIGHBOUR: 'it returns false'. Refute it at one input. -/
def fnPartsWrong : ChangeSpec := { name := "fnParts", vars := ["loop.example/overloads/impl.errText"], fn := fun _ => fun
  | [d, g1] => { results := [.lit (.bool false)], args := [d], vars := [g1] }
  | _ => none }
def FnPartsWrongFalsely : Prop := fnPartsRow.holds Tryd.pinned (OpenSpec.ofChange fnPartsWrong)

/-- 'laws.FnCallTerm': WHATEVER THE INPUT: true; the input reads as it did. -/
def fnCallTermSpec : ChangeSpec := { name := "fnCallTerm", vars := ["loop.example/overloads/impl.errText"], fn := fun _ => fun
  | [d, g1] => { results := [.lit (.bool true)], args := [d], vars := [g1] }
  | _ => none }
def fnCallTermRow : OpenClaim := { program := "ytcecljolnknapaadoor", sum := "54db1c4975a1e9e59fcade8b0dadd190d0b6c3443bfa7cd6df705484c64b9a12", func := "loop.example/overloads/laws.FnCallTerm", spec := "fnCallTerm", inPlace := ["internal/abi.NoEscape", "internal/bytealg.MakeNoZero"], unfollowed := true, recurses := true, named := ["loop.example/overloads/impl.errText"], ifaces := true, apart := false, laid := [("loop.example/overloads/impl.errText", laid_loop_example_overloads_impl_errText)] }
def FnCallTermSaid : Prop := fnCallTermRow.holds Tryd.pinned (OpenSpec.ofChange fnCallTermSpec)

/-- ITS FALSE NEIGHBOUR: 'it returns false'. Refute it at one input. -/
def fnCallTermWrong : ChangeSpec := { name := "fnCallTerm", vars := ["loop.example/overloads/impl.errText"], fn := fun _ => fun
  | [d, g1] => { results := [.lit (.bool false)], args := [d], vars := [g1] }
  | _ => none }
def FnCallTermWrongFalsely : Prop := fnCallTermRow.holds Tryd.pinned (OpenSpec.ofChange fnCallTermWrong)

/-- 'laws.FnPutLiteral': WHATEVER THE INPUT: true; the input reads as it did. -/
def fnPutLiteralSpec : ChangeSpec := { name := "fnPutLiteral", vars := ["loop.example/overloads/impl.errText"], fn := fun _ => fun
  | [d1, d2, g1] => { results := [.lit (.bool true)], args := [d1, d2], vars := [g1] }
  | _ => none }
def fnPutLiteralRow : OpenClaim := { program := "ytcecljolnknapaadoor", sum := "54db1c4975a1e9e59fcade8b0dadd190d0b6c3443bfa7cd6df705484c64b9a12", func := "loop.example/overloads/laws.FnPutLiteral", spec := "fnPutLiteral", inPlace := ["internal/abi.NoEscape", "internal/bytealg.MakeNoZero"], recurses := true, named := ["loop.example/overloads/impl.errText", "internal/strconv.uint64pow10", "math/bits.deBruijn32tab", "math/bits.deBruijn64tab"], ifaces := true, apart := false, laid := [("math/bits.deBruijn32tab", laid_math_bits_deBruijn32tab), ("math/bits.deBruijn64tab", laid_math_bits_deBruijn64tab), ("internal/strconv.uint64pow10", laid_internal_strconv_uint64pow10), ("loop.example/overloads/impl.errText", laid_loop_example_overloads_impl_errText)] }
def FnPutLiteralSaid : Prop := fnPutLiteralRow.holds Tryd.pinned (OpenSpec.ofChange fnPutLiteralSpec)

/-- ITS FALSE NEIGHBOUR: 'it returns false'. Refute it at one input. -/
def fnPutLiteralWrong : ChangeSpec := { name := "fnPutLiteral", vars := ["loop.example/overloads/impl.errText"], fn := fun _ => fun
  | [d1, d2, g1] => { results := [.lit (.bool false)], args := [d1, d2], vars := [g1] }
  | _ => none }
def FnPutLiteralWrongFalsely : Prop := fnPutLiteralRow.holds Tryd.pinned (OpenSpec.ofChange fnPutLiteralWrong)

/- THE SECOND FORM. 'bulk': how many values and letters a reading holds, each counted each time it is reached (what is shared counts as often as it is met; a slice's spare places count too). A statement '..UptoSaid' is the law's where the arguments, and the package variables that the reading takes, are together of bulk at most 1048576: NARROWER than '..Said'. Prove '..Said' where nothing that the law and all that it calls make is longer than what came in: it says more and counts as full. Else prove '..UptoSaid'. A law counts once. -/
mutual
def uptoBulk {H : Type} : DataW H → Nat
  | .lit (.string bytes) => bytes.length + 1
  | .lit _ => 1
  | .nil => 1
  | .ptr d => uptoBulk d + 1
  | .slice elems spare => uptoBulkAll elems + uptoBulkAll spare + 1
  | .agg parts => uptoBulkAll parts + 1
  | .iface _ d => uptoBulk d + 1
  | .map entries => uptoBulkEntries entries + 1
  | .held _ => 1
def uptoBulkAll {H : Type} : List (DataW H) → Nat
  | [] => 0
  | d :: r => uptoBulk d + uptoBulkAll r
def uptoBulkEntries {H : Type} : List (Lit × DataW H) → Nat
  | [] => 0
  | x :: r => uptoBulkEntry x + uptoBulkEntries r
def uptoBulkEntry {H : Type} : Lit × DataW H → Nat
  | (.string bytes, d) => bytes.length + uptoBulk d + 1
  | (_, d) => uptoBulk d + 1
 end
def uptoSmall : (H : Type) → List (DataW H) → Bool := fun _ ds => decide (uptoBulkAll ds ≤ 1048576)
def OpenSpec.upto (s : _root_.Go.ChangeSpec) : _root_.Go.OpenSpec := { _root_.Go.OpenSpec.ofChange s with cond := some uptoSmall }

/-- 'laws.FnExactTermValid', WHERE WHAT IT READS IS OF BULK AT MOST 1048576: true; the input reads as it did. -/
def fnExactTermValidUptoRow : OpenClaim := { program := "ytcecljolnknapaadoor", sum := "54db1c4975a1e9e59fcade8b0dadd190d0b6c3443bfa7cd6df705484c64b9a12", func := "loop.example/overloads/laws.FnExactTermValid", spec := "fnExactTermValid", recurses := true, named := ["loop.example/overloads/impl.errText"], ifaces := true, apart := false, laid := [("loop.example/overloads/impl.errText", laid_loop_example_overloads_impl_errText)], narrowed := true }
def FnExactTermValidUptoSaid : Prop := fnExactTermValidUptoRow.holds Tryd.pinned (OpenSpec.upto fnExactTermValidSpec)

/-- 'laws.FnExactHeadOf', WHERE WHAT IT READS IS OF BULK AT MOST 1048576: true; the input reads as it did. -/
def fnExactHeadOfUptoRow : OpenClaim := { program := "ytcecljolnknapaadoor", sum := "54db1c4975a1e9e59fcade8b0dadd190d0b6c3443bfa7cd6df705484c64b9a12", func := "loop.example/overloads/laws.FnExactHeadOf", spec := "fnExactHeadOf", recurses := true, named := ["loop.example/overloads/impl.errText"], ifaces := true, apart := false, laid := [("loop.example/overloads/impl.errText", laid_loop_example_overloads_impl_errText)], narrowed := true }
def FnExactHeadOfUptoSaid : Prop := fnExactHeadOfUptoRow.holds Tryd.pinned (OpenSpec.upto fnExactHeadOfSpec)

/-- 'laws.FnExactPartsOf', WHERE WHAT IT READS IS OF BULK AT MOST 1048576: true; the input reads as it did. -/
def fnExactPartsOfUptoRow : OpenClaim := { program := "ytcecljolnknapaadoor", sum := "54db1c4975a1e9e59fcade8b0dadd190d0b6c3443bfa7cd6df705484c64b9a12", func := "loop.example/overloads/laws.FnExactPartsOf", spec := "fnExactPartsOf", unfollowed := true, recurses := true, named := ["loop.example/overloads/impl.errText"], ifaces := true, apart := false, laid := [("loop.example/overloads/impl.errText", laid_loop_example_overloads_impl_errText)], narrowed := true }
def FnExactPartsOfUptoSaid : Prop := fnExactPartsOfUptoRow.holds Tryd.pinned (OpenSpec.upto fnExactPartsOfSpec)

/-- 'laws.FnExactLiteralOf', WHERE WHAT IT READS IS OF BULK AT MOST 1048576: true; the input reads as it did. -/
def fnExactLiteralOfUptoRow : OpenClaim := { program := "ytcecljolnknapaadoor", sum := "54db1c4975a1e9e59fcade8b0dadd190d0b6c3443bfa7cd6df705484c64b9a12", func := "loop.example/overloads/laws.FnExactLiteralOf", spec := "fnExactLiteralOf", recurses := true, named := ["loop.example/overloads/impl.errText"], ifaces := true, apart := false, laid := [("loop.example/overloads/impl.errText", laid_loop_example_overloads_impl_errText)], narrowed := true }
def FnExactLiteralOfUptoSaid : Prop := fnExactLiteralOfUptoRow.holds Tryd.pinned (OpenSpec.upto fnExactLiteralOfSpec)

/-- 'laws.FnExactCallTerm', WHERE WHAT IT READS IS OF BULK AT MOST 1048576: true; the input reads as it did. -/
def fnExactCallTermUptoRow : OpenClaim := { program := "ytcecljolnknapaadoor", sum := "54db1c4975a1e9e59fcade8b0dadd190d0b6c3443bfa7cd6df705484c64b9a12", func := "loop.example/overloads/laws.FnExactCallTerm", spec := "fnExactCallTerm", inPlace := ["internal/abi.NoEscape", "internal/bytealg.MakeNoZero"], recurses := true, named := ["loop.example/overloads/impl.errText"], ifaces := true, apart := false, laid := [("loop.example/overloads/impl.errText", laid_loop_example_overloads_impl_errText)], narrowed := true }
def FnExactCallTermUptoSaid : Prop := fnExactCallTermUptoRow.holds Tryd.pinned (OpenSpec.upto fnExactCallTermSpec)

/-- 'laws.FnExactSizeOf', WHERE WHAT IT READS IS OF BULK AT MOST 1048576: true; the input reads as it did. -/
def fnExactSizeOfUptoRow : OpenClaim := { program := "ytcecljolnknapaadoor", sum := "54db1c4975a1e9e59fcade8b0dadd190d0b6c3443bfa7cd6df705484c64b9a12", func := "loop.example/overloads/laws.FnExactSizeOf", spec := "fnExactSizeOf", recurses := true, named := ["loop.example/overloads/impl.errText"], ifaces := true, apart := false, laid := [("loop.example/overloads/impl.errText", laid_loop_example_overloads_impl_errText)], narrowed := true }
def FnExactSizeOfUptoSaid : Prop := fnExactSizeOfUptoRow.holds Tryd.pinned (OpenSpec.upto fnExactSizeOfSpec)

/-- 'laws.FnExactDepthOf', WHERE WHAT IT READS IS OF BULK AT MOST 1048576: true; the input reads as it did. -/
def fnExactDepthOfUptoRow : OpenClaim := { program := "ytcecljolnknapaadoor", sum := "54db1c4975a1e9e59fcade8b0dadd190d0b6c3443bfa7cd6df705484c64b9a12", func := "loop.example/overloads/laws.FnExactDepthOf", spec := "fnExactDepthOf", recurses := true, named := ["loop.example/overloads/impl.errText"], ifaces := true, apart := false, laid := [("loop.example/overloads/impl.errText", laid_loop_example_overloads_impl_errText)], narrowed := true }
def FnExactDepthOfUptoSaid : Prop := fnExactDepthOfUptoRow.holds Tryd.pinned (OpenSpec.upto fnExactDepthOfSpec)

/-- 'laws.FnExactNamesIn', WHERE WHAT IT READS IS OF BULK AT MOST 1048576: true; the input reads as it did. -/
def fnExactNamesInUptoRow : OpenClaim := { program := "ytcecljolnknapaadoor", sum := "54db1c4975a1e9e59fcade8b0dadd190d0b6c3443bfa7cd6df705484c64b9a12", func := "loop.example/overloads/laws.FnExactNamesIn", spec := "fnExactNamesIn", inPlace := ["internal/abi.NoEscape", "internal/bytealg.MakeNoZero"], recurses := true, named := ["loop.example/overloads/impl.errText"], ifaces := true, apart := false, laid := [("loop.example/overloads/impl.errText", laid_loop_example_overloads_impl_errText)], narrowed := true }
def FnExactNamesInUptoSaid : Prop := fnExactNamesInUptoRow.holds Tryd.pinned (OpenSpec.upto fnExactNamesInSpec)

/-- 'laws.FnExactPutLiteral', WHERE WHAT IT READS IS OF BULK AT MOST 1048576: true; the input reads as it did. -/
def fnExactPutLiteralUptoRow : OpenClaim := { program := "ytcecljolnknapaadoor", sum := "54db1c4975a1e9e59fcade8b0dadd190d0b6c3443bfa7cd6df705484c64b9a12", func := "loop.example/overloads/laws.FnExactPutLiteral", spec := "fnExactPutLiteral", recurses := true, named := ["loop.example/overloads/impl.errText", "internal/strconv.uint64pow10", "math/bits.deBruijn32tab", "math/bits.deBruijn64tab"], ifaces := true, apart := false, laid := [("math/bits.deBruijn32tab", laid_math_bits_deBruijn32tab), ("math/bits.deBruijn64tab", laid_math_bits_deBruijn64tab), ("internal/strconv.uint64pow10", laid_internal_strconv_uint64pow10), ("loop.example/overloads/impl.errText", laid_loop_example_overloads_impl_errText)], narrowed := true }
def FnExactPutLiteralUptoSaid : Prop := fnExactPutLiteralUptoRow.holds Tryd.pinned (OpenSpec.upto fnExactPutLiteralSpec)

/-- 'laws.FnSizes', WHERE WHAT IT READS IS OF BULK AT MOST 1048576: true; the input reads as it did. -/
def fnSizesUptoRow : OpenClaim := { program := "ytcecljolnknapaadoor", sum := "54db1c4975a1e9e59fcade8b0dadd190d0b6c3443bfa7cd6df705484c64b9a12", func := "loop.example/overloads/laws.FnSizes", spec := "fnSizes", inPlace := ["internal/abi.NoEscape", "internal/bytealg.MakeNoZero"], recurses := true, named := ["loop.example/overloads/impl.errText"], ifaces := true, apart := false, laid := [("loop.example/overloads/impl.errText", laid_loop_example_overloads_impl_errText)], narrowed := true }
def FnSizesUptoSaid : Prop := fnSizesUptoRow.holds Tryd.pinned (OpenSpec.upto fnSizesSpec)

/-- 'laws.FnParts', WHERE WHAT IT READS IS OF BULK AT MOST 1048576: true; the input reads as it did. -/
def fnPartsUptoRow : OpenClaim := { program := "ytcecljolnknapaadoor", sum := "54db1c4975a1e9e59fcade8b0dadd190d0b6c3443bfa7cd6df705484c64b9a12", func := "loop.example/overloads/laws.FnParts", spec := "fnParts", inPlace := ["internal/abi.NoEscape", "internal/bytealg.MakeNoZero"], unfollowed := true, recurses := true, named := ["loop.example/overloads/impl.errText"], ifaces := true, apart := false, laid := [("loop.example/overloads/impl.errText", laid_loop_example_overloads_impl_errText)], narrowed := true }
def FnPartsUptoSaid : Prop := fnPartsUptoRow.holds Tryd.pinned (OpenSpec.upto fnPartsSpec)

/-- 'laws.FnCallTerm', WHERE WHAT IT READS IS OF BULK AT MOST 1048576: true; the input reads as it did. -/
def fnCallTermUptoRow : OpenClaim := { program := "ytcecljolnknapaadoor", sum := "54db1c4975a1e9e59fcade8b0dadd190d0b6c3443bfa7cd6df705484c64b9a12", func := "loop.example/overloads/laws.FnCallTerm", spec := "fnCallTerm", inPlace := ["internal/abi.NoEscape", "internal/bytealg.MakeNoZero"], unfollowed := true, recurses := true, named := ["loop.example/overloads/impl.errText"], ifaces := true, apart := false, laid := [("loop.example/overloads/impl.errText", laid_loop_example_overloads_impl_errText)], narrowed := true }
def FnCallTermUptoSaid : Prop := fnCallTermUptoRow.holds Tryd.pinned (OpenSpec.upto fnCallTermSpec)

/-- 'laws.FnPutLiteral', WHERE WHAT IT READS IS OF BULK AT MOST 1048576: true; the input reads as it did. -/
def fnPutLiteralUptoRow : OpenClaim := { program := "ytcecljolnknapaadoor", sum := "54db1c4975a1e9e59fcade8b0dadd190d0b6c3443bfa7cd6df705484c64b9a12", func := "loop.example/overloads/laws.FnPutLiteral", spec := "fnPutLiteral", inPlace := ["internal/abi.NoEscape", "internal/bytealg.MakeNoZero"], recurses := true, named := ["loop.example/overloads/impl.errText", "internal/strconv.uint64pow10", "math/bits.deBruijn32tab", "math/bits.deBruijn64tab"], ifaces := true, apart := false, laid := [("math/bits.deBruijn32tab", laid_math_bits_deBruijn32tab), ("math/bits.deBruijn64tab", laid_math_bits_deBruijn64tab), ("internal/strconv.uint64pow10", laid_internal_strconv_uint64pow10), ("loop.example/overloads/impl.errText", laid_loop_example_overloads_impl_errText)], narrowed := true }
def FnPutLiteralUptoSaid : Prop := fnPutLiteralUptoRow.holds Tryd.pinned (OpenSpec.upto fnPutLiteralSpec)

end Rows
end Go.Proofs.YtcecljolnknapaaDoor
