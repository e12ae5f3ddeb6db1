/-
  NARROWER THAN 'FOR EVERY INPUT', by the rows' own cells (each row's printed sentence says how): FnExactElaborate: ifaces, laid · FnExactTypeOf: ifaces, laid · FnExactElaborateAt: ifaces, laid · FnExactRunMade: ifaces, calm, laid · FnExactRunTerm: ifaces, calm, laid · FnExactRunAt: ifaces, calm, laid · FnExactStepsOf: ifaces, calm, laid · FnExactSameMade: ifaces, calm, laid · FnExactNormal: ifaces, calm, laid · FnExactStepMade: ifaces, calm, laid.
  DERIVED. THE GIVEN ROWS OF THIS SEAT. 10 by the template 'for every input the law returns true; each argument reads behind the call as it read before'; 0 by the template 'total and deterministic' (their statements: YtdemcoghgnnheaaGreatDoorTotals.lean).
  GIVEN WITH THE SEED: the statements are not yours to turn. If you find one false, say at which input.
  Laid BY PROGRAM, IN A SANDBOX (cutbox-rows.mjs): the forced cells as the released guide's own fill.sh prints them over the translation 0a4c83ea14a0b87a… (all of the seat's roots in one cut). By AI agents, Wed Nov 11 2026. No macro, syntax, notation, axiom, sorry.
-/
import Derived.Test.YtdemcoghgnnheaaGreatDoorChecked
import GoSem.PinnedTables
import GoSem.Claim
import GoSem.ClaimJoined
import GoSem.ClaimMapViews
import Derived.JoinedTies
import Derived.KernelRfl
namespace Go.Proofs.YtdemcoghgnnheaaGreatDoor
/- THE CELL 'sum', in the pinned program and in every row, IS THE sha256 OF THE DUMP (.gsa) THAT YtdemcoghgnnheaaGreatDoorProg.lean LOADS. Nothing in Lean hashes anything: it is a label: what it is worth is what the hold of that sum in a sandbox is worth. -/
noncomputable def Tryz.pinned : Pinned := { name := "ytdemcoghgnnheaagreatdoor", sum := "0a4c83ea14a0b87a7fcdaaba2565ededeea1eb6ef2507ec09760d17ed52c6531", checked := Tryz.checked }
namespace Rows
def none {H : Type} : Left H := { results := [], args := [] }

/- WHAT THE LISTED PACKAGE-LEVEL VARIABLES READ AS WHEN THE CALL BEGINS. Each datum BY PROGRAM (the guide's laid-datum.mjs) off the statement by which the dump's own 'gosem.cut.vars' lays the variable. In a bare row this is a premise. The card (YtdemcoghgnnheaaGreatDoorCards.lean) ties it to the program's text. -/
def laid_loop_example_overloads_impl_errText {H : Type} : DataW H := .iface "*errors.errorString" (.ptr (.agg [.lit (.string [116, 101, 120, 116, 32, 100, 111, 101, 115, 32, 110, 111, 116, 32, 102, 105, 116])]))
def laid_loop_example_overloads_impl_errNone {H : Type} : DataW H := .iface "*errors.errorString" (.ptr (.agg [.lit (.string [110, 111, 32, 102, 117, 110, 99, 116, 105, 111, 110, 32, 105, 115, 32, 97, 112, 112, 108, 105, 99, 97, 98, 108, 101])]))
def laid_loop_example_overloads_impl_errMany {H : Type} : DataW H := .iface "*errors.errorString" (.ptr (.agg [.lit (.string [110, 111, 32, 102, 117, 110, 99, 116, 105, 111, 110, 32, 105, 115, 32, 98, 101, 102, 111, 114, 101, 32, 97, 108, 108, 32, 111, 116, 104, 101, 114, 115])]))
def laid_loop_example_overloads_impl_errUnknown {H : Type} : DataW H := .iface "*errors.errorString" (.ptr (.agg [.lit (.string [115, 121, 115, 116, 101, 109, 44, 32, 116, 101, 114, 109, 32, 111, 114, 32, 118, 97, 108, 117, 101, 32, 105, 115, 32, 110, 111, 116, 32, 107, 110, 111, 119, 110])]))
def laid_loop_example_overloads_impl_errNoWay {H : Type} : DataW H := .iface "*errors.errorString" (.ptr (.agg [.lit (.string [110, 111, 32, 119, 97, 121, 32, 108, 101, 97, 100, 115, 32, 116, 111, 32, 116, 104, 101, 32, 116, 121, 112, 101])]))
def laid_loop_example_overloads_impl_errLong {H : Type} : DataW H := .iface "*errors.errorString" (.ptr (.agg [.lit (.string [101, 120, 112, 108, 105, 99, 105, 116, 32, 116, 101, 114, 109, 32, 105, 115, 32, 116, 111, 111, 32, 108, 111, 110, 103])]))
def laid_math_bits_deBruijn32tab {H : Type} : DataW H := .agg [.lit (.int .u8 0), .lit (.int .u8 1), .lit (.int .u8 28), .lit (.int .u8 2), .lit (.int .u8 29), .lit (.int .u8 14), .lit (.int .u8 24), .lit (.int .u8 3), .lit (.int .u8 30), .lit (.int .u8 22), .lit (.int .u8 20), .lit (.int .u8 15), .lit (.int .u8 25), .lit (.int .u8 17), .lit (.int .u8 4), .lit (.int .u8 8), .lit (.int .u8 31), .lit (.int .u8 27), .lit (.int .u8 13), .lit (.int .u8 23), .lit (.int .u8 21), .lit (.int .u8 19), .lit (.int .u8 16), .lit (.int .u8 7), .lit (.int .u8 26), .lit (.int .u8 12), .lit (.int .u8 18), .lit (.int .u8 6), .lit (.int .u8 11), .lit (.int .u8 5), .lit (.int .u8 10), .lit (.int .u8 9)]
def laid_math_bits_deBruijn64tab {H : Type} : DataW H := .agg [.lit (.int .u8 0), .lit (.int .u8 1), .lit (.int .u8 56), .lit (.int .u8 2), .lit (.int .u8 57), .lit (.int .u8 49), .lit (.int .u8 28), .lit (.int .u8 3), .lit (.int .u8 61), .lit (.int .u8 58), .lit (.int .u8 42), .lit (.int .u8 50), .lit (.int .u8 38), .lit (.int .u8 29), .lit (.int .u8 17), .lit (.int .u8 4), .lit (.int .u8 62), .lit (.int .u8 47), .lit (.int .u8 59), .lit (.int .u8 36), .lit (.int .u8 45), .lit (.int .u8 43), .lit (.int .u8 51), .lit (.int .u8 22), .lit (.int .u8 53), .lit (.int .u8 39), .lit (.int .u8 33), .lit (.int .u8 30), .lit (.int .u8 24), .lit (.int .u8 18), .lit (.int .u8 12), .lit (.int .u8 5), .lit (.int .u8 63), .lit (.int .u8 55), .lit (.int .u8 48), .lit (.int .u8 27), .lit (.int .u8 60), .lit (.int .u8 41), .lit (.int .u8 37), .lit (.int .u8 16), .lit (.int .u8 46), .lit (.int .u8 35), .lit (.int .u8 44), .lit (.int .u8 21), .lit (.int .u8 52), .lit (.int .u8 32), .lit (.int .u8 23), .lit (.int .u8 11), .lit (.int .u8 54), .lit (.int .u8 26), .lit (.int .u8 40), .lit (.int .u8 15), .lit (.int .u8 34), .lit (.int .u8 20), .lit (.int .u8 31), .lit (.int .u8 10), .lit (.int .u8 25), .lit (.int .u8 14), .lit (.int .u8 19), .lit (.int .u8 9), .lit (.int .u8 13), .lit (.int .u8 8), .lit (.int .u8 7), .lit (.int .u8 6)]
def laid_internal_strconv_uint64pow10 {H : Type} : DataW H := .agg [.lit (.int .u64 1), .lit (.int .u64 10), .lit (.int .u64 100), .lit (.int .u64 1000), .lit (.int .u64 10000), .lit (.int .u64 100000), .lit (.int .u64 1000000), .lit (.int .u64 10000000), .lit (.int .u64 100000000), .lit (.int .u64 1000000000), .lit (.int .u64 10000000000), .lit (.int .u64 100000000000), .lit (.int .u64 1000000000000), .lit (.int .u64 10000000000000), .lit (.int .u64 100000000000000), .lit (.int .u64 1000000000000000), .lit (.int .u64 10000000000000000), .lit (.int .u64 100000000000000000), .lit (.int .u64 1000000000000000000), .lit (.int .u64 10000000000000000000)]
def laid_unicode_utf8_acceptRanges {H : Type} : DataW H := .agg [.agg [.lit (.int .u8 128), .lit (.int .u8 191)], .agg [.lit (.int .u8 160), .lit (.int .u8 191)], .agg [.lit (.int .u8 128), .lit (.int .u8 159)], .agg [.lit (.int .u8 144), .lit (.int .u8 191)], .agg [.lit (.int .u8 128), .lit (.int .u8 143)], .agg [.lit (.int .u8 0), .lit (.int .u8 0)], .agg [.lit (.int .u8 0), .lit (.int .u8 0)], .agg [.lit (.int .u8 0), .lit (.int .u8 0)], .agg [.lit (.int .u8 0), .lit (.int .u8 0)], .agg [.lit (.int .u8 0), .lit (.int .u8 0)], .agg [.lit (.int .u8 0), .lit (.int .u8 0)], .agg [.lit (.int .u8 0), .lit (.int .u8 0)], .agg [.lit (.int .u8 0), .lit (.int .u8 0)], .agg [.lit (.int .u8 0), .lit (.int .u8 0)], .agg [.lit (.int .u8 0), .lit (.int .u8 0)], .agg [.lit (.int .u8 0), .lit (.int .u8 0)]]
/-- One of Go's own tables, pinned by name: the form's constant. -/
def laid_unicode_utf8_first : DataW Unit := Go.Pinned.utf8First

/-- 'laws.FnExactElaborate': WHATEVER THE INPUT: true; the input reads as it did. -/
def fnExactElaborateSpec : ChangeSpec := { name := "fnExactElaborate", vars := ["loop.example/overloads/impl.errUnknown", "loop.example/overloads/impl.errText", "loop.example/overloads/impl.errNone", "loop.example/overloads/impl.errMany", "loop.example/overloads/impl.errLong", "loop.example/overloads/impl.errNoWay"], fn := fun _ => fun
  | [d1, d2, g1, g2, g3, g4, g5, g6] => { results := [.lit (.bool true)], args := [d1, d2], vars := [g1, g2, g3, g4, g5, g6] }
  | _ => none }
def fnExactElaborateRow : OpenClaim := { program := "ytdemcoghgnnheaagreatdoor", sum := "0a4c83ea14a0b87a7fcdaaba2565ededeea1eb6ef2507ec09760d17ed52c6531", func := "loop.example/overloads/laws.FnExactElaborate", spec := "fnExactElaborate", inPlace := ["internal/reflectlite.TypeOf"], unfollowed := true, recurses := true, named := ["loop.example/overloads/impl.errUnknown", "loop.example/overloads/impl.errText", "loop.example/overloads/impl.errNone", "loop.example/overloads/impl.errMany", "loop.example/overloads/impl.errLong", "loop.example/overloads/impl.errNoWay"], ifaces := true, leaving := true, apart := false, laid := [("loop.example/overloads/impl.errText", laid_loop_example_overloads_impl_errText), ("loop.example/overloads/impl.errNone", laid_loop_example_overloads_impl_errNone), ("loop.example/overloads/impl.errMany", laid_loop_example_overloads_impl_errMany), ("loop.example/overloads/impl.errUnknown", laid_loop_example_overloads_impl_errUnknown), ("loop.example/overloads/impl.errNoWay", laid_loop_example_overloads_impl_errNoWay), ("loop.example/overloads/impl.errLong", laid_loop_example_overloads_impl_errLong)] }
def FnExactElaborateSaid : Prop := fnExactElaborateRow.holds Tryz.pinned (OpenSpec.ofChange fnExactElaborateSpec)

/-- ITS FALSE NEIGHBOUR: 'it returns false'. Refute it at one input. -/
def fnExactElaborateWrong : ChangeSpec := { name := "fnExactElaborate", vars := ["loop.example/overloads/impl.errUnknown", "loop.example/overloads/impl.errText", "loop.example/overloads/impl.errNone", "loop.example/overloads/impl.errMany", "loop.example/overloads/impl.errLong", "loop.example/overloads/impl.errNoWay"], fn := fun _ => fun
  | [d1, d2, g1, g2, g3, g4, g5, g6] => { results := [.lit (.bool false)], args := [d1, d2], vars := [g1, g2, g3, g4, g5, g6] }
  | _ => none }
def FnExactElaborateWrongFalsely : Prop := fnExactElaborateRow.holds Tryz.pinned (OpenSpec.ofChange fnExactElaborateWrong)

/-- 'laws.FnExactTypeOf': WHATEVER THE INPUT: true; the input reads as it did. -/
def fnExactTypeOfSpec : ChangeSpec := { name := "fnExactTypeOf", vars := ["loop.example/overloads/impl.errUnknown", "loop.example/overloads/impl.errText", "loop.example/overloads/impl.errNone", "loop.example/overloads/impl.errMany", "loop.example/overloads/impl.errLong", "loop.example/overloads/impl.errNoWay"], fn := fun _ => fun
  | [d1, d2, g1, g2, g3, g4, g5, g6] => { results := [.lit (.bool true)], args := [d1, d2], vars := [g1, g2, g3, g4, g5, g6] }
  | _ => none }
def fnExactTypeOfRow : OpenClaim := { program := "ytdemcoghgnnheaagreatdoor", sum := "0a4c83ea14a0b87a7fcdaaba2565ededeea1eb6ef2507ec09760d17ed52c6531", func := "loop.example/overloads/laws.FnExactTypeOf", spec := "fnExactTypeOf", inPlace := ["internal/reflectlite.TypeOf"], unfollowed := true, recurses := true, named := ["loop.example/overloads/impl.errUnknown", "loop.example/overloads/impl.errText", "loop.example/overloads/impl.errNone", "loop.example/overloads/impl.errMany", "loop.example/overloads/impl.errLong", "loop.example/overloads/impl.errNoWay"], ifaces := true, leaving := true, apart := false, laid := [("loop.example/overloads/impl.errText", laid_loop_example_overloads_impl_errText), ("loop.example/overloads/impl.errNone", laid_loop_example_overloads_impl_errNone), ("loop.example/overloads/impl.errMany", laid_loop_example_overloads_impl_errMany), ("loop.example/overloads/impl.errUnknown", laid_loop_example_overloads_impl_errUnknown), ("loop.example/overloads/impl.errNoWay", laid_loop_example_overloads_impl_errNoWay), ("loop.example/overloads/impl.errLong", laid_loop_example_overloads_impl_errLong)] }
def FnExactTypeOfSaid : Prop := fnExactTypeOfRow.holds Tryz.pinned (OpenSpec.ofChange fnExactTypeOfSpec)

/-- ITS FALSE NEIGHBOUR: 'it returns false'. Refute it at one input. -/
def fnExactTypeOfWrong : ChangeSpec := { name := "fnExactTypeOf", vars := ["loop.example/overloads/impl.errUnknown", "loop.example/overloads/impl.errText", "loop.example/overloads/impl.errNone", "loop.example/overloads/impl.errMany", "loop.example/overloads/impl.errLong", "loop.example/overloads/impl.errNoWay"], fn := fun _ => fun
  | [d1, d2, g1, g2, g3, g4, g5, g6] => { results := [.lit (.bool false)], args := [d1, d2], vars := [g1, g2, g3, g4, g5, g6] }
  | _ => none }
def FnExactTypeOfWrongFalsely : Prop := fnExactTypeOfRow.holds Tryz.pinned (OpenSpec.ofChange fnExactTypeOfWrong)

/-- 'laws.FnExactElaborateAt': WHATEVER THE INPUT: true; the input reads as it did. -/
def fnExactElaborateAtSpec : ChangeSpec := { name := "fnExactElaborateAt", vars := ["loop.example/overloads/impl.errNoWay", "loop.example/overloads/impl.errUnknown", "loop.example/overloads/impl.errText", "loop.example/overloads/impl.errNone", "loop.example/overloads/impl.errMany", "loop.example/overloads/impl.errLong"], fn := fun _ => fun
  | [d1, d2, d3, g1, g2, g3, g4, g5, g6] => { results := [.lit (.bool true)], args := [d1, d2, d3], vars := [g1, g2, g3, g4, g5, g6] }
  | _ => none }
def fnExactElaborateAtRow : OpenClaim := { program := "ytdemcoghgnnheaagreatdoor", sum := "0a4c83ea14a0b87a7fcdaaba2565ededeea1eb6ef2507ec09760d17ed52c6531", func := "loop.example/overloads/laws.FnExactElaborateAt", spec := "fnExactElaborateAt", inPlace := ["internal/reflectlite.TypeOf"], unfollowed := true, recurses := true, named := ["loop.example/overloads/impl.errNoWay", "loop.example/overloads/impl.errUnknown", "loop.example/overloads/impl.errText", "loop.example/overloads/impl.errNone", "loop.example/overloads/impl.errMany", "loop.example/overloads/impl.errLong"], ifaces := true, leaving := true, apart := false, laid := [("loop.example/overloads/impl.errText", laid_loop_example_overloads_impl_errText), ("loop.example/overloads/impl.errNone", laid_loop_example_overloads_impl_errNone), ("loop.example/overloads/impl.errMany", laid_loop_example_overloads_impl_errMany), ("loop.example/overloads/impl.errUnknown", laid_loop_example_overloads_impl_errUnknown), ("loop.example/overloads/impl.errNoWay", laid_loop_example_overloads_impl_errNoWay), ("loop.example/overloads/impl.errLong", laid_loop_example_overloads_impl_errLong)] }
def FnExactElaborateAtSaid : Prop := fnExactElaborateAtRow.holds Tryz.pinned (OpenSpec.ofChange fnExactElaborateAtSpec)

/-- ITS FALSE NEIGHBOUR: 'it returns false'. Refute it at one input. -/
def fnExactElaborateAtWrong : ChangeSpec := { name := "fnExactElaborateAt", vars := ["loop.example/overloads/impl.errNoWay", "loop.example/overloads/impl.errUnknown", "loop.example/overloads/impl.errText", "loop.example/overloads/impl.errNone", "loop.example/overloads/impl.errMany", "loop.example/overloads/impl.errLong"], fn := fun _ => fun
  | [d1, d2, d3, g1, g2, g3, g4, g5, g6] => { results := [.lit (.bool false)], args := [d1, d2, d3], vars := [g1, g2, g3, g4, g5, g6] }
  | _ => none }
def FnExactElaborateAtWrongFalsely : Prop := fnExactElaborateAtRow.holds Tryz.pinned (OpenSpec.ofChange fnExactElaborateAtWrong)

/-- 'laws.FnExactRunMade': WHATEVER THE INPUT: true; the input reads as it did. -/
def fnExactRunMadeSpec : ChangeSpec := { name := "fnExactRunMade", vars := ["loop.example/overloads/impl.errText"], fn := fun _ => fun
  | [d1, d2, g1] => { results := [.lit (.bool true)], args := [d1, d2], vars := [g1] }
  | _ => none }
def fnExactRunMadeRow : OpenClaim := { program := "ytdemcoghgnnheaagreatdoor", sum := "0a4c83ea14a0b87a7fcdaaba2565ededeea1eb6ef2507ec09760d17ed52c6531", func := "loop.example/overloads/laws.FnExactRunMade", spec := "fnExactRunMade", inPlace := ["sync/atomic.LoadUint32", "(*internal/sync.Mutex).Lock", "internal/race.Disable", "sync/atomic.CompareAndSwapInt32", "internal/race.Enable", "internal/race.Acquire", "(*internal/sync.Mutex).lockSlow", "internal/sync.runtime_canSpin", "internal/sync.runtime_doSpin", "internal/sync.throw", "internal/sync.runtime_nanotime", "internal/sync.runtime_SemacquireMutex", "sync/atomic.AddInt32", "(*internal/sync.Mutex).Unlock", "internal/race.ReleaseMerge", "(*internal/sync.Mutex).unlockSlow", "internal/sync.fatal", "internal/sync.runtime_Semrelease", "sync/atomic.StoreUint32"], unfollowed := true, recurses := true, named := ["loop.example/overloads/impl.errText"], ifaces := true, leaving := true, apart := false, calm := true, outside := [.timePasses], laid := [("loop.example/overloads/impl.errText", laid_loop_example_overloads_impl_errText)] }
def FnExactRunMadeSaid : Prop := fnExactRunMadeRow.holds Tryz.pinned (OpenSpec.ofChange fnExactRunMadeSpec)

/-- ITS FALSE NEIGHBOUR: 'it returns false'. Refute it at one input. -/
def fnExactRunMadeWrong : ChangeSpec := { name := "fnExactRunMade", vars := ["loop.example/overloads/impl.errText"], fn := fun _ => fun
  | [d1, d2, g1] => { results := [.lit (.bool false)], args := [d1, d2], vars := [g1] }
  | _ => none }
def FnExactRunMadeWrongFalsely : Prop := fnExactRunMadeRow.holds Tryz.pinned (OpenSpec.ofChange fnExactRunMadeWrong)

/-- 'laws.FnExactRunTerm': WHATEVER THE INPUT: true; the input reads as it did. -/
def fnExactRunTermSpec : ChangeSpec := { name := "fnExactRunTerm", vars := ["loop.example/overloads/impl.errUnknown", "loop.example/overloads/impl.errText", "loop.example/overloads/impl.errNone", "loop.example/overloads/impl.errMany", "loop.example/overloads/impl.errLong", "loop.example/overloads/impl.errNoWay"], fn := fun _ => fun
  | [d1, d2, g1, g2, g3, g4, g5, g6] => { results := [.lit (.bool true)], args := [d1, d2], vars := [g1, g2, g3, g4, g5, g6] }
  | _ => none }
def fnExactRunTermRow : OpenClaim := { program := "ytdemcoghgnnheaagreatdoor", sum := "0a4c83ea14a0b87a7fcdaaba2565ededeea1eb6ef2507ec09760d17ed52c6531", func := "loop.example/overloads/laws.FnExactRunTerm", spec := "fnExactRunTerm", inPlace := ["internal/reflectlite.TypeOf", "sync/atomic.LoadUint32", "(*internal/sync.Mutex).Lock", "internal/race.Disable", "sync/atomic.CompareAndSwapInt32", "internal/race.Enable", "internal/race.Acquire", "(*internal/sync.Mutex).lockSlow", "internal/sync.runtime_canSpin", "internal/sync.runtime_doSpin", "internal/sync.throw", "internal/sync.runtime_nanotime", "internal/sync.runtime_SemacquireMutex", "sync/atomic.AddInt32", "(*internal/sync.Mutex).Unlock", "internal/race.ReleaseMerge", "(*internal/sync.Mutex).unlockSlow", "internal/sync.fatal", "internal/sync.runtime_Semrelease", "sync/atomic.StoreUint32"], unfollowed := true, recurses := true, named := ["loop.example/overloads/impl.errUnknown", "loop.example/overloads/impl.errText", "loop.example/overloads/impl.errNone", "loop.example/overloads/impl.errMany", "loop.example/overloads/impl.errLong", "loop.example/overloads/impl.errNoWay"], ifaces := true, leaving := true, apart := false, calm := true, outside := [.timePasses], laid := [("loop.example/overloads/impl.errText", laid_loop_example_overloads_impl_errText), ("loop.example/overloads/impl.errNone", laid_loop_example_overloads_impl_errNone), ("loop.example/overloads/impl.errMany", laid_loop_example_overloads_impl_errMany), ("loop.example/overloads/impl.errUnknown", laid_loop_example_overloads_impl_errUnknown), ("loop.example/overloads/impl.errNoWay", laid_loop_example_overloads_impl_errNoWay), ("loop.example/overloads/impl.errLong", laid_loop_example_overloads_impl_errLong)] }
def FnExactRunTermSaid : Prop := fnExactRunTermRow.holds Tryz.pinned (OpenSpec.ofChange fnExactRunTermSpec)

/-- ITS FALSE NEIGHBOUR: 'it returns false'. Refute it at one input. -/
def fnExactRunTermWrong : ChangeSpec := { name := "fnExactRunTerm", vars := ["loop.example/overloads/impl.errUnknown", "loop.example/overloads/impl.errText", "loop.example/overloads/impl.errNone", "loop.example/overloads/impl.errMany", "loop.example/overloads/impl.errLong", "loop.example/overloads/impl.errNoWay"], fn := fun _ => fun
  | [d1, d2, g1, g2, g3, g4, g5, g6] => { results := [.lit (.bool false)], args := [d1, d2], vars := [g1, g2, g3, g4, g5, g6] }
  | _ => none }
def FnExactRunTermWrongFalsely : Prop := fnExactRunTermRow.holds Tryz.pinned (OpenSpec.ofChange fnExactRunTermWrong)

/-- 'laws.FnExactRunAt': WHATEVER THE INPUT: true; the input reads as it did. -/
def fnExactRunAtSpec : ChangeSpec := { name := "fnExactRunAt", vars := ["loop.example/overloads/impl.errNoWay", "loop.example/overloads/impl.errUnknown", "loop.example/overloads/impl.errText", "loop.example/overloads/impl.errNone", "loop.example/overloads/impl.errMany", "loop.example/overloads/impl.errLong"], fn := fun _ => fun
  | [d1, d2, d3, g1, g2, g3, g4, g5, g6] => { results := [.lit (.bool true)], args := [d1, d2, d3], vars := [g1, g2, g3, g4, g5, g6] }
  | _ => none }
def fnExactRunAtRow : OpenClaim := { program := "ytdemcoghgnnheaagreatdoor", sum := "0a4c83ea14a0b87a7fcdaaba2565ededeea1eb6ef2507ec09760d17ed52c6531", func := "loop.example/overloads/laws.FnExactRunAt", spec := "fnExactRunAt", inPlace := ["internal/reflectlite.TypeOf", "sync/atomic.LoadUint32", "(*internal/sync.Mutex).Lock", "internal/race.Disable", "sync/atomic.CompareAndSwapInt32", "internal/race.Enable", "internal/race.Acquire", "(*internal/sync.Mutex).lockSlow", "internal/sync.runtime_canSpin", "internal/sync.runtime_doSpin", "internal/sync.throw", "internal/sync.runtime_nanotime", "internal/sync.runtime_SemacquireMutex", "sync/atomic.AddInt32", "(*internal/sync.Mutex).Unlock", "internal/race.ReleaseMerge", "(*internal/sync.Mutex).unlockSlow", "internal/sync.fatal", "internal/sync.runtime_Semrelease", "sync/atomic.StoreUint32"], unfollowed := true, recurses := true, named := ["loop.example/overloads/impl.errNoWay", "loop.example/overloads/impl.errUnknown", "loop.example/overloads/impl.errText", "loop.example/overloads/impl.errNone", "loop.example/overloads/impl.errMany", "loop.example/overloads/impl.errLong"], ifaces := true, leaving := true, apart := false, calm := true, outside := [.timePasses], laid := [("loop.example/overloads/impl.errText", laid_loop_example_overloads_impl_errText), ("loop.example/overloads/impl.errNone", laid_loop_example_overloads_impl_errNone), ("loop.example/overloads/impl.errMany", laid_loop_example_overloads_impl_errMany), ("loop.example/overloads/impl.errUnknown", laid_loop_example_overloads_impl_errUnknown), ("loop.example/overloads/impl.errNoWay", laid_loop_example_overloads_impl_errNoWay), ("loop.example/overloads/impl.errLong", laid_loop_example_overloads_impl_errLong)] }
def FnExactRunAtSaid : Prop := fnExactRunAtRow.holds Tryz.pinned (OpenSpec.ofChange fnExactRunAtSpec)

/-- ITS FALSE NEIGHBOUR: 'it returns false'. Refute it at one input. -/
def fnExactRunAtWrong : ChangeSpec := { name := "fnExactRunAt", vars := ["loop.example/overloads/impl.errNoWay", "loop.example/overloads/impl.errUnknown", "loop.example/overloads/impl.errText", "loop.example/overloads/impl.errNone", "loop.example/overloads/impl.errMany", "loop.example/overloads/impl.errLong"], fn := fun _ => fun
  | [d1, d2, d3, g1, g2, g3, g4, g5, g6] => { results := [.lit (.bool false)], args := [d1, d2, d3], vars := [g1, g2, g3, g4, g5, g6] }
  | _ => none }
def FnExactRunAtWrongFalsely : Prop := fnExactRunAtRow.holds Tryz.pinned (OpenSpec.ofChange fnExactRunAtWrong)

/-- 'laws.FnExactStepsOf': WHATEVER THE INPUT: true; the input reads as it did. -/
def fnExactStepsOfSpec : ChangeSpec := { name := "fnExactStepsOf", vars := ["loop.example/overloads/impl.errText"], fn := fun _ => fun
  | [d1, d2, g1] => { results := [.lit (.bool true)], args := [d1, d2], vars := [g1] }
  | _ => none }
def fnExactStepsOfRow : OpenClaim := { program := "ytdemcoghgnnheaagreatdoor", sum := "0a4c83ea14a0b87a7fcdaaba2565ededeea1eb6ef2507ec09760d17ed52c6531", func := "loop.example/overloads/laws.FnExactStepsOf", spec := "fnExactStepsOf", inPlace := ["sync/atomic.LoadUint32", "(*internal/sync.Mutex).Lock", "internal/race.Disable", "sync/atomic.CompareAndSwapInt32", "internal/race.Enable", "internal/race.Acquire", "(*internal/sync.Mutex).lockSlow", "internal/sync.runtime_canSpin", "internal/sync.runtime_doSpin", "internal/sync.throw", "internal/sync.runtime_nanotime", "internal/sync.runtime_SemacquireMutex", "sync/atomic.AddInt32", "(*internal/sync.Mutex).Unlock", "internal/race.ReleaseMerge", "(*internal/sync.Mutex).unlockSlow", "internal/sync.fatal", "internal/sync.runtime_Semrelease", "sync/atomic.StoreUint32"], unfollowed := true, recurses := true, named := ["loop.example/overloads/impl.errText"], ifaces := true, leaving := true, apart := false, calm := true, outside := [.timePasses], laid := [("loop.example/overloads/impl.errText", laid_loop_example_overloads_impl_errText)] }
def FnExactStepsOfSaid : Prop := fnExactStepsOfRow.holds Tryz.pinned (OpenSpec.ofChange fnExactStepsOfSpec)

/-- ITS FALSE NEIGHBOUR: 'it returns false'. Refute it at one input. -/
def fnExactStepsOfWrong : ChangeSpec := { name := "fnExactStepsOf", vars := ["loop.example/overloads/impl.errText"], fn := fun _ => fun
  | [d1, d2, g1] => { results := [.lit (.bool false)], args := [d1, d2], vars := [g1] }
  | _ => none }
def FnExactStepsOfWrongFalsely : Prop := fnExactStepsOfRow.holds Tryz.pinned (OpenSpec.ofChange fnExactStepsOfWrong)

/-- 'laws.FnExactSameMade': WHATEVER THE INPUT: true; the input reads as it did. -/
def fnExactSameMadeSpec : ChangeSpec := { name := "fnExactSameMade", vars := ["loop.example/overloads/impl.errText"], fn := fun _ => fun
  | [d1, d2, d3, g1] => { results := [.lit (.bool true)], args := [d1, d2, d3], vars := [g1] }
  | _ => none }
def fnExactSameMadeRow : OpenClaim := { program := "ytdemcoghgnnheaagreatdoor", sum := "0a4c83ea14a0b87a7fcdaaba2565ededeea1eb6ef2507ec09760d17ed52c6531", func := "loop.example/overloads/laws.FnExactSameMade", spec := "fnExactSameMade", inPlace := ["sync/atomic.LoadUint32", "(*internal/sync.Mutex).Lock", "internal/race.Disable", "sync/atomic.CompareAndSwapInt32", "internal/race.Enable", "internal/race.Acquire", "(*internal/sync.Mutex).lockSlow", "internal/sync.runtime_canSpin", "internal/sync.runtime_doSpin", "internal/sync.throw", "internal/sync.runtime_nanotime", "internal/sync.runtime_SemacquireMutex", "sync/atomic.AddInt32", "(*internal/sync.Mutex).Unlock", "internal/race.ReleaseMerge", "(*internal/sync.Mutex).unlockSlow", "internal/sync.fatal", "internal/sync.runtime_Semrelease", "sync/atomic.StoreUint32"], unfollowed := true, recurses := true, named := ["loop.example/overloads/impl.errText"], ifaces := true, leaving := true, apart := false, calm := true, outside := [.timePasses], laid := [("loop.example/overloads/impl.errText", laid_loop_example_overloads_impl_errText)] }
def FnExactSameMadeSaid : Prop := fnExactSameMadeRow.holds Tryz.pinned (OpenSpec.ofChange fnExactSameMadeSpec)

/-- ITS FALSE NEIGHBOUR: 'it returns false'. Refute it at one input. -/
def fnExactSameMadeWrong : ChangeSpec := { name := "fnExactSameMade", vars := ["loop.example/overloads/impl.errText"], fn := fun _ => fun
  | [d1, d2, d3, g1] => { results := [.lit (.bool false)], args := [d1, d2, d3], vars := [g1] }
  | _ => none }
def FnExactSameMadeWrongFalsely : Prop := fnExactSameMadeRow.holds Tryz.pinned (OpenSpec.ofChange fnExactSameMadeWrong)

/-- 'laws.FnExactNormal': WHATEVER THE INPUT: true; the input reads as it did. -/
def fnExactNormalSpec : ChangeSpec := { name := "fnExactNormal", vars := ["loop.example/overloads/impl.errText"], fn := fun _ => fun
  | [d1, d2, g1] => { results := [.lit (.bool true)], args := [d1, d2], vars := [g1] }
  | _ => none }
def fnExactNormalRow : OpenClaim := { program := "ytdemcoghgnnheaagreatdoor", sum := "0a4c83ea14a0b87a7fcdaaba2565ededeea1eb6ef2507ec09760d17ed52c6531", func := "loop.example/overloads/laws.FnExactNormal", spec := "fnExactNormal", inPlace := ["sync/atomic.LoadUint32", "(*internal/sync.Mutex).Lock", "internal/race.Disable", "sync/atomic.CompareAndSwapInt32", "internal/race.Enable", "internal/race.Acquire", "(*internal/sync.Mutex).lockSlow", "internal/sync.runtime_canSpin", "internal/sync.runtime_doSpin", "internal/sync.throw", "internal/sync.runtime_nanotime", "internal/sync.runtime_SemacquireMutex", "sync/atomic.AddInt32", "(*internal/sync.Mutex).Unlock", "internal/race.ReleaseMerge", "(*internal/sync.Mutex).unlockSlow", "internal/sync.fatal", "internal/sync.runtime_Semrelease", "sync/atomic.StoreUint32"], unfollowed := true, recurses := true, named := ["loop.example/overloads/impl.errText", "internal/strconv.uint64pow10", "math/bits.deBruijn32tab", "math/bits.deBruijn64tab"], ifaces := true, leaving := true, apart := false, calm := true, outside := [.timePasses], laid := [("math/bits.deBruijn32tab", laid_math_bits_deBruijn32tab), ("math/bits.deBruijn64tab", laid_math_bits_deBruijn64tab), ("internal/strconv.uint64pow10", laid_internal_strconv_uint64pow10), ("loop.example/overloads/impl.errText", laid_loop_example_overloads_impl_errText)] }
def FnExactNormalSaid : Prop := fnExactNormalRow.holds Tryz.pinned (OpenSpec.ofChange fnExactNormalSpec)

/-- ITS FALSE NEIGHBOUR: 'it returns false'. Refute it at one input. -/
def fnExactNormalWrong : ChangeSpec := { name := "fnExactNormal", vars := ["loop.example/overloads/impl.errText"], fn := fun _ => fun
  | [d1, d2, g1] => { results := [.lit (.bool false)], args := [d1, d2], vars := [g1] }
  | _ => none }
def FnExactNormalWrongFalsely : Prop := fnExactNormalRow.holds Tryz.pinned (OpenSpec.ofChange fnExactNormalWrong)

/-- 'laws.FnExactStepMade': WHATEVER THE INPUT: true; the input reads as it did. -/
def fnExactStepMadeSpec : ChangeSpec := { name := "fnExactStepMade", vars := ["loop.example/overloads/impl.errText"], fn := fun _ => fun
  | [d1, d2, g1] => { results := [.lit (.bool true)], args := [d1, d2], vars := [g1] }
  | _ => none }
def fnExactStepMadeRow : OpenClaim := { program := "ytdemcoghgnnheaagreatdoor", sum := "0a4c83ea14a0b87a7fcdaaba2565ededeea1eb6ef2507ec09760d17ed52c6531", func := "loop.example/overloads/laws.FnExactStepMade", spec := "fnExactStepMade", inPlace := ["sync/atomic.LoadUint32", "(*internal/sync.Mutex).Lock", "internal/race.Disable", "sync/atomic.CompareAndSwapInt32", "internal/race.Enable", "internal/race.Acquire", "(*internal/sync.Mutex).lockSlow", "internal/sync.runtime_canSpin", "internal/sync.runtime_doSpin", "internal/sync.throw", "internal/sync.runtime_nanotime", "internal/sync.runtime_SemacquireMutex", "sync/atomic.AddInt32", "(*internal/sync.Mutex).Unlock", "internal/race.ReleaseMerge", "(*internal/sync.Mutex).unlockSlow", "internal/sync.fatal", "internal/sync.runtime_Semrelease", "sync/atomic.StoreUint32", "internal/bytealg.CountString", "internal/bytealg.IndexByteString", "internal/bytealg.IndexString", "internal/abi.NoEscape", "internal/bytealg.MakeNoZero"], unfollowed := true, recurses := true, named := ["loop.example/overloads/impl.errText", "internal/strconv.uint64pow10", "math/bits.deBruijn32tab", "math/bits.deBruijn64tab", "internal/bytealg.MaxLen", "unicode/utf8.first", "unicode/utf8.acceptRanges"], ifaces := true, leaving := true, apart := false, calm := true, outside := [.timePasses], laid := [("math/bits.deBruijn32tab", laid_math_bits_deBruijn32tab), ("math/bits.deBruijn64tab", laid_math_bits_deBruijn64tab), ("internal/strconv.uint64pow10", laid_internal_strconv_uint64pow10), ("unicode/utf8.acceptRanges", laid_unicode_utf8_acceptRanges), ("loop.example/overloads/impl.errText", laid_loop_example_overloads_impl_errText), ("unicode/utf8.first", laid_unicode_utf8_first)] }
def FnExactStepMadeSaid : Prop := fnExactStepMadeRow.holds Tryz.pinned (OpenSpec.ofChange fnExactStepMadeSpec)

/-- ITS FALSE NEIGHBOUR: 'it returns false'. Refute it at one input. -/
def fnExactStepMadeWrong : ChangeSpec := { name := "fnExactStepMade", vars := ["loop.example/overloads/impl.errText"], fn := fun _ => fun
  | [d1, d2, g1] => { results := [.lit (.bool false)], args := [d1, d2], vars := [g1] }
  | _ => none }
def FnExactStepMadeWrongFalsely : Prop := fnExactStepMadeRow.holds Tryz.pinned (OpenSpec.ofChange fnExactStepMadeWrong)

/- THE SECOND FORM. 'bulk': how many values and letters a reading holds, each counted each time it is reached (what is shared counts as often as it is met; a slice's spare places count too). A statement '..UptoSaid' is the law's where the arguments, and the package variables that the reading takes, are together of bulk at most 1048576: NARROWER than '..Said'. Prove '..Said' where nothing that the law and all that it calls make is longer than what came in: it says more and counts as full. Else prove '..UptoSaid'. A law counts once. -/
mutual
def uptoBulk {H : Type} : DataW H → Nat
  | .lit (.string bytes) => bytes.length + 1
  | .lit _ => 1
  | .nil => 1
  | .ptr d => uptoBulk d + 1
  | .slice elems spare => uptoBulkAll elems + uptoBulkAll spare + 1
  | .agg parts => uptoBulkAll parts + 1
  | .iface _ d => uptoBulk d + 1
  | .map entries => uptoBulkEntries entries + 1
  | .held _ => 1
def uptoBulkAll {H : Type} : List (DataW H) → Nat
  | [] => 0
  | d :: r => uptoBulk d + uptoBulkAll r
def uptoBulkEntries {H : Type} : List (Lit × DataW H) → Nat
  | [] => 0
  | x :: r => uptoBulkEntry x + uptoBulkEntries r
def uptoBulkEntry {H : Type} : Lit × DataW H → Nat
  | (.string bytes, d) => bytes.length + uptoBulk d + 1
  | (_, d) => uptoBulk d + 1
 end
def uptoSmall : (H : Type) → List (DataW H) → Bool := fun _ ds => decide (uptoBulkAll ds ≤ 1048576)
def OpenSpec.upto (s : _root_.Go.ChangeSpec) : _root_.Go.OpenSpec := { _root_.Go.OpenSpec.ofChange s with cond := some uptoSmall }

/-- 'laws.FnExactElaborate', WHERE WHAT IT READS IS OF BULK AT MOST 1048576: true; the input reads as it did. -/
def fnExactElaborateUptoRow : OpenClaim := { program := "ytdemcoghgnnheaagreatdoor", sum := "0a4c83ea14a0b87a7fcdaaba2565ededeea1eb6ef2507ec09760d17ed52c6531", func := "loop.example/overloads/laws.FnExactElaborate", spec := "fnExactElaborate", inPlace := ["internal/reflectlite.TypeOf"], unfollowed := true, recurses := true, named := ["loop.example/overloads/impl.errUnknown", "loop.example/overloads/impl.errText", "loop.example/overloads/impl.errNone", "loop.example/overloads/impl.errMany", "loop.example/overloads/impl.errLong", "loop.example/overloads/impl.errNoWay"], ifaces := true, leaving := true, apart := false, laid := [("loop.example/overloads/impl.errText", laid_loop_example_overloads_impl_errText), ("loop.example/overloads/impl.errNone", laid_loop_example_overloads_impl_errNone), ("loop.example/overloads/impl.errMany", laid_loop_example_overloads_impl_errMany), ("loop.example/overloads/impl.errUnknown", laid_loop_example_overloads_impl_errUnknown), ("loop.example/overloads/impl.errNoWay", laid_loop_example_overloads_impl_errNoWay), ("loop.example/overloads/impl.errLong", laid_loop_example_overloads_impl_errLong)], narrowed := true }
def FnExactElaborateUptoSaid : Prop := fnExactElaborateUptoRow.holds Tryz.pinned (OpenSpec.upto fnExactElaborateSpec)

/-- 'laws.FnExactTypeOf', WHERE WHAT IT READS IS OF BULK AT MOST 1048576: true; the input reads as it did. -/
def fnExactTypeOfUptoRow : OpenClaim := { program := "ytdemcoghgnnheaagreatdoor", sum := "0a4c83ea14a0b87a7fcdaaba2565ededeea1eb6ef2507ec09760d17ed52c6531", func := "loop.example/overloads/laws.FnExactTypeOf", spec := "fnExactTypeOf", inPlace := ["internal/reflectlite.TypeOf"], unfollowed := true, recurses := true, named := ["loop.example/overloads/impl.errUnknown", "loop.example/overloads/impl.errText", "loop.example/overloads/impl.errNone", "loop.example/overloads/impl.errMany", "loop.example/overloads/impl.errLong", "loop.example/overloads/impl.errNoWay"], ifaces := true, leaving := true, apart := false, laid := [("loop.example/overloads/impl.errText", laid_loop_example_overloads_impl_errText), ("loop.example/overloads/impl.errNone", laid_loop_example_overloads_impl_errNone), ("loop.example/overloads/impl.errMany", laid_loop_example_overloads_impl_errMany), ("loop.example/overloads/impl.errUnknown", laid_loop_example_overloads_impl_errUnknown), ("loop.example/overloads/impl.errNoWay", laid_loop_example_overloads_impl_errNoWay), ("loop.example/overloads/impl.errLong", laid_loop_example_overloads_impl_errLong)], narrowed := true }
def FnExactTypeOfUptoSaid : Prop := fnExactTypeOfUptoRow.holds Tryz.pinned (OpenSpec.upto fnExactTypeOfSpec)

/-- 'laws.FnExactElaborateAt', WHERE WHAT IT READS IS OF BULK AT MOST 1048576: true; the input reads as it did. -/
def fnExactElaborateAtUptoRow : OpenClaim := { program := "ytdemcoghgnnheaagreatdoor", sum := "0a4c83ea14a0b87a7fcdaaba2565ededeea1eb6ef2507ec09760d17ed52c6531", func := "loop.example/overloads/laws.FnExactElaborateAt", spec := "fnExactElaborateAt", inPlace := ["internal/reflectlite.TypeOf"], unfollowed := true, recurses := true, named := ["loop.example/overloads/impl.errNoWay", "loop.example/overloads/impl.errUnknown", "loop.example/overloads/impl.errText", "loop.example/overloads/impl.errNone", "loop.example/overloads/impl.errMany", "loop.example/overloads/impl.errLong"], ifaces := true, leaving := true, apart := false, laid := [("loop.example/overloads/impl.errText", laid_loop_example_overloads_impl_errText), ("loop.example/overloads/impl.errNone", laid_loop_example_overloads_impl_errNone), ("loop.example/overloads/impl.errMany", laid_loop_example_overloads_impl_errMany), ("loop.example/overloads/impl.errUnknown", laid_loop_example_overloads_impl_errUnknown), ("loop.example/overloads/impl.errNoWay", laid_loop_example_overloads_impl_errNoWay), ("loop.example/overloads/impl.errLong", laid_loop_example_overloads_impl_errLong)], narrowed := true }
def FnExactElaborateAtUptoSaid : Prop := fnExactElaborateAtUptoRow.holds Tryz.pinned (OpenSpec.upto fnExactElaborateAtSpec)

end Rows
end Go.Proofs.YtdemcoghgnnheaaGreatDoor
