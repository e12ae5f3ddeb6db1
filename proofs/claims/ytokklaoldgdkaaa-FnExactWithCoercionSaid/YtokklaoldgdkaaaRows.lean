/-
  NARROWER THAN 'FOR EVERY INPUT', by the rows' own cells (each row's printed sentence says how): FnExactIsCoherent: calm · FnExactDoubtOf: calm · FnExactCoerce: calm · FnExactIsRedundant: calm · FnExactReducedTypes: calm · FnExactAgreeAt: calm · FnHasValue: calm · FnApply: calm.
  DERIVED. THE GIVEN ROWS OF THIS SEAT. 10 by the template 'for every input the law returns true; each argument reads behind the call as it read before'; 0 by the template 'total and deterministic' (their statements: YtokklaoldgdkaaaTotals.lean).
  GIVEN WITH THE SEED: the statements are not yours to turn. If you find one false, say at which input.
  Laid BY PROGRAM, IN A SANDBOX (cutbox-rows.mjs): the forced cells as the released guide's own fill.sh prints them over the translation 6be5c68e1b714766… (all of the seat's roots in one cut). By AI agents, Wed Nov 11 2026. No macro, syntax, notation, axiom, sorry.
-/
import Derived.Test.YtokklaoldgdkaaaChecked
import GoSem.Claim
import GoSem.ClaimJoined
import GoSem.ClaimMapViews
import Derived.JoinedTies
import Derived.KernelRfl
namespace Go.Proofs.Ytokklaoldgdkaaa
/- THE CELL 'sum', in the pinned program and in every row, IS THE sha256 OF THE DUMP (.gsa) THAT YtokklaoldgdkaaaProg.lean LOADS. Nothing in Lean hashes anything: it is a label: what it is worth is what the hold of that sum in a sandbox is worth. -/
noncomputable def Try.pinned : Pinned := { name := "ytokklaoldgdkaaa", sum := "6be5c68e1b714766e7a6eca12c6fb00fe5a8dabadbf3a65adc471190a668b9f4", checked := Try.checked }
namespace Rows
def none {H : Type} : Left H := { results := [], args := [] }

/-- 'laws.FnExactIsCoherent': WHATEVER THE INPUT: true; the input reads as it did. -/
def fnExactIsCoherentSpec : ChangeSpec := { name := "fnExactIsCoherent", fn := fun _ => fun
  | [d] => { results := [.lit (.bool true)], args := [d] }
  | _ => none }
def fnExactIsCoherentRow : OpenClaim := { program := "ytokklaoldgdkaaa", sum := "6be5c68e1b714766e7a6eca12c6fb00fe5a8dabadbf3a65adc471190a668b9f4", func := "loop.example/overloads/laws.FnExactIsCoherent", spec := "fnExactIsCoherent", inPlace := ["(*sync.WaitGroup).Add", "internal/race.ReleaseMerge", "internal/race.Disable", "internal/race.Enable", "internal/synctest.IsInBubble", "internal/synctest.Associate[sync.WaitGroup]", "sync.fatal", "sync/atomic.OrUint64", "sync/atomic.AddUint64", "internal/race.Read", "sync/atomic.LoadUint64", "sync/atomic.StoreUint64", "internal/synctest.Disassociate[sync.WaitGroup]", "sync.runtime_Semrelease", "(*sync.WaitGroup).Done", "sync/atomic.LoadUint32", "(*internal/sync.Mutex).Lock", "sync/atomic.CompareAndSwapInt32", "internal/race.Acquire", "(*internal/sync.Mutex).lockSlow", "internal/sync.runtime_canSpin", "internal/sync.runtime_doSpin", "internal/sync.throw", "internal/sync.runtime_nanotime", "internal/sync.runtime_SemacquireMutex", "sync/atomic.AddInt32", "(*internal/sync.Mutex).Unlock", "(*internal/sync.Mutex).unlockSlow", "internal/sync.fatal", "internal/sync.runtime_Semrelease", "sync/atomic.StoreUint32", "(*sync.WaitGroup).Wait", "internal/synctest.IsAssociated[sync.WaitGroup]", "sync/atomic.CompareAndSwapUint64", "internal/race.Write", "sync.runtime_SemacquireWaitGroup"], unfollowed := true, recurses := true, plainKeys := false, leaving := true, apart := false, calm := true, outside := [.timePasses] }
def FnExactIsCoherentSaid : Prop := fnExactIsCoherentRow.holds Try.pinned (OpenSpec.ofChange fnExactIsCoherentSpec)

/-- ITS FALSE NEIGHBOUR: 'it returns false'. Refute it at one input. -/
def fnExactIsCoherentWrong : ChangeSpec := { name := "fnExactIsCoherent", fn := fun _ => fun
  | [d] => { results := [.lit (.bool false)], args := [d] }
  | _ => none }
def FnExactIsCoherentWrongFalsely : Prop := fnExactIsCoherentRow.holds Try.pinned (OpenSpec.ofChange fnExactIsCoherentWrong)

/-- 'laws.FnExactDoubtOf': WHATEVER THE INPUT: true; the input reads as it did. -/
def fnExactDoubtOfSpec : ChangeSpec := { name := "fnExactDoubtOf", fn := fun _ => fun
  | [d] => { results := [.lit (.bool true)], args := [d] }
  | _ => none }
def fnExactDoubtOfRow : OpenClaim := { program := "ytokklaoldgdkaaa", sum := "6be5c68e1b714766e7a6eca12c6fb00fe5a8dabadbf3a65adc471190a668b9f4", func := "loop.example/overloads/laws.FnExactDoubtOf", spec := "fnExactDoubtOf", inPlace := ["(*sync.WaitGroup).Add", "internal/race.ReleaseMerge", "internal/race.Disable", "internal/race.Enable", "internal/synctest.IsInBubble", "internal/synctest.Associate[sync.WaitGroup]", "sync.fatal", "sync/atomic.OrUint64", "sync/atomic.AddUint64", "internal/race.Read", "sync/atomic.LoadUint64", "sync/atomic.StoreUint64", "internal/synctest.Disassociate[sync.WaitGroup]", "sync.runtime_Semrelease", "(*sync.WaitGroup).Done", "sync/atomic.LoadUint32", "(*internal/sync.Mutex).Lock", "sync/atomic.CompareAndSwapInt32", "internal/race.Acquire", "(*internal/sync.Mutex).lockSlow", "internal/sync.runtime_canSpin", "internal/sync.runtime_doSpin", "internal/sync.throw", "internal/sync.runtime_nanotime", "internal/sync.runtime_SemacquireMutex", "sync/atomic.AddInt32", "(*internal/sync.Mutex).Unlock", "(*internal/sync.Mutex).unlockSlow", "internal/sync.fatal", "internal/sync.runtime_Semrelease", "sync/atomic.StoreUint32", "(*sync.WaitGroup).Wait", "internal/synctest.IsAssociated[sync.WaitGroup]", "sync/atomic.CompareAndSwapUint64", "internal/race.Write", "sync.runtime_SemacquireWaitGroup"], unfollowed := true, recurses := true, plainKeys := false, leaving := true, apart := false, calm := true, outside := [.timePasses] }
def FnExactDoubtOfSaid : Prop := fnExactDoubtOfRow.holds Try.pinned (OpenSpec.ofChange fnExactDoubtOfSpec)

/-- ITS FALSE NEIGHBOUR: 'it returns false'. Refute it at one input. -/
def fnExactDoubtOfWrong : ChangeSpec := { name := "fnExactDoubtOf", fn := fun _ => fun
  | [d] => { results := [.lit (.bool false)], args := [d] }
  | _ => none }
def FnExactDoubtOfWrongFalsely : Prop := fnExactDoubtOfRow.holds Try.pinned (OpenSpec.ofChange fnExactDoubtOfWrong)

/-- 'laws.FnExactCoerce': WHATEVER THE INPUT: true; the input reads as it did. -/
def fnExactCoerceSpec : ChangeSpec := { name := "fnExactCoerce", fn := fun _ => fun
  | [d1, d2, d3, d4] => { results := [.lit (.bool true)], args := [d1, d2, d3, d4] }
  | _ => none }
def fnExactCoerceRow : OpenClaim := { program := "ytokklaoldgdkaaa", sum := "6be5c68e1b714766e7a6eca12c6fb00fe5a8dabadbf3a65adc471190a668b9f4", func := "loop.example/overloads/laws.FnExactCoerce", spec := "fnExactCoerce", inPlace := ["sync/atomic.LoadUint32", "(*internal/sync.Mutex).Lock", "internal/race.Disable", "sync/atomic.CompareAndSwapInt32", "internal/race.Enable", "internal/race.Acquire", "(*internal/sync.Mutex).lockSlow", "internal/sync.runtime_canSpin", "internal/sync.runtime_doSpin", "internal/sync.throw", "internal/sync.runtime_nanotime", "internal/sync.runtime_SemacquireMutex", "sync/atomic.AddInt32", "(*internal/sync.Mutex).Unlock", "internal/race.ReleaseMerge", "(*internal/sync.Mutex).unlockSlow", "internal/sync.fatal", "internal/sync.runtime_Semrelease", "sync/atomic.StoreUint32"], unfollowed := true, recurses := true, plainKeys := false, leaving := true, apart := false, calm := true, outside := [.timePasses] }
def FnExactCoerceSaid : Prop := fnExactCoerceRow.holds Try.pinned (OpenSpec.ofChange fnExactCoerceSpec)

/-- ITS FALSE NEIGHBOUR: 'it returns false'. Refute it at one input. -/
def fnExactCoerceWrong : ChangeSpec := { name := "fnExactCoerce", fn := fun _ => fun
  | [d1, d2, d3, d4] => { results := [.lit (.bool false)], args := [d1, d2, d3, d4] }
  | _ => none }
def FnExactCoerceWrongFalsely : Prop := fnExactCoerceRow.holds Try.pinned (OpenSpec.ofChange fnExactCoerceWrong)

/-- 'laws.FnExactIsRedundant': WHATEVER THE INPUT: true; the input reads as it did. -/
def fnExactIsRedundantSpec : ChangeSpec := { name := "fnExactIsRedundant", fn := fun _ => fun
  | [d1, d2] => { results := [.lit (.bool true)], args := [d1, d2] }
  | _ => none }
def fnExactIsRedundantRow : OpenClaim := { program := "ytokklaoldgdkaaa", sum := "6be5c68e1b714766e7a6eca12c6fb00fe5a8dabadbf3a65adc471190a668b9f4", func := "loop.example/overloads/laws.FnExactIsRedundant", spec := "fnExactIsRedundant", inPlace := ["sync/atomic.LoadUint32", "(*internal/sync.Mutex).Lock", "internal/race.Disable", "sync/atomic.CompareAndSwapInt32", "internal/race.Enable", "internal/race.Acquire", "(*internal/sync.Mutex).lockSlow", "internal/sync.runtime_canSpin", "internal/sync.runtime_doSpin", "internal/sync.throw", "internal/sync.runtime_nanotime", "internal/sync.runtime_SemacquireMutex", "sync/atomic.AddInt32", "(*internal/sync.Mutex).Unlock", "internal/race.ReleaseMerge", "(*internal/sync.Mutex).unlockSlow", "internal/sync.fatal", "internal/sync.runtime_Semrelease", "sync/atomic.StoreUint32"], unfollowed := true, recurses := true, plainKeys := false, leaving := true, apart := false, calm := true, outside := [.timePasses] }
def FnExactIsRedundantSaid : Prop := fnExactIsRedundantRow.holds Try.pinned (OpenSpec.ofChange fnExactIsRedundantSpec)

/-- ITS FALSE NEIGHBOUR: 'it returns false'. Refute it at one input. -/
def fnExactIsRedundantWrong : ChangeSpec := { name := "fnExactIsRedundant", fn := fun _ => fun
  | [d1, d2] => { results := [.lit (.bool false)], args := [d1, d2] }
  | _ => none }
def FnExactIsRedundantWrongFalsely : Prop := fnExactIsRedundantRow.holds Try.pinned (OpenSpec.ofChange fnExactIsRedundantWrong)

/-- 'laws.FnExactReducedTypes': WHATEVER THE INPUT: true; the input reads as it did. -/
def fnExactReducedTypesSpec : ChangeSpec := { name := "fnExactReducedTypes", fn := fun _ => fun
  | [d] => { results := [.lit (.bool true)], args := [d] }
  | _ => none }
def fnExactReducedTypesRow : OpenClaim := { program := "ytokklaoldgdkaaa", sum := "6be5c68e1b714766e7a6eca12c6fb00fe5a8dabadbf3a65adc471190a668b9f4", func := "loop.example/overloads/laws.FnExactReducedTypes", spec := "fnExactReducedTypes", inPlace := ["sync/atomic.LoadUint32", "(*internal/sync.Mutex).Lock", "internal/race.Disable", "sync/atomic.CompareAndSwapInt32", "internal/race.Enable", "internal/race.Acquire", "(*internal/sync.Mutex).lockSlow", "internal/sync.runtime_canSpin", "internal/sync.runtime_doSpin", "internal/sync.throw", "internal/sync.runtime_nanotime", "internal/sync.runtime_SemacquireMutex", "sync/atomic.AddInt32", "(*internal/sync.Mutex).Unlock", "internal/race.ReleaseMerge", "(*internal/sync.Mutex).unlockSlow", "internal/sync.fatal", "internal/sync.runtime_Semrelease", "sync/atomic.StoreUint32"], unfollowed := true, recurses := true, plainKeys := false, leaving := true, apart := false, calm := true, outside := [.timePasses] }
def FnExactReducedTypesSaid : Prop := fnExactReducedTypesRow.holds Try.pinned (OpenSpec.ofChange fnExactReducedTypesSpec)

/-- ITS FALSE NEIGHBOUR: 'it returns false'. Refute it at one input. -/
def fnExactReducedTypesWrong : ChangeSpec := { name := "fnExactReducedTypes", fn := fun _ => fun
  | [d] => { results := [.lit (.bool false)], args := [d] }
  | _ => none }
def FnExactReducedTypesWrongFalsely : Prop := fnExactReducedTypesRow.holds Try.pinned (OpenSpec.ofChange fnExactReducedTypesWrong)

/-- 'laws.FnExactAgreeAt': WHATEVER THE INPUT: true; the input reads as it did. -/
def fnExactAgreeAtSpec : ChangeSpec := { name := "fnExactAgreeAt", fn := fun _ => fun
  | [d1, d2, d3, d4] => { results := [.lit (.bool true)], args := [d1, d2, d3, d4] }
  | _ => none }
def fnExactAgreeAtRow : OpenClaim := { program := "ytokklaoldgdkaaa", sum := "6be5c68e1b714766e7a6eca12c6fb00fe5a8dabadbf3a65adc471190a668b9f4", func := "loop.example/overloads/laws.FnExactAgreeAt", spec := "fnExactAgreeAt", inPlace := ["sync/atomic.LoadUint32", "(*internal/sync.Mutex).Lock", "internal/race.Disable", "sync/atomic.CompareAndSwapInt32", "internal/race.Enable", "internal/race.Acquire", "(*internal/sync.Mutex).lockSlow", "internal/sync.runtime_canSpin", "internal/sync.runtime_doSpin", "internal/sync.throw", "internal/sync.runtime_nanotime", "internal/sync.runtime_SemacquireMutex", "sync/atomic.AddInt32", "(*internal/sync.Mutex).Unlock", "internal/race.ReleaseMerge", "(*internal/sync.Mutex).unlockSlow", "internal/sync.fatal", "internal/sync.runtime_Semrelease", "sync/atomic.StoreUint32"], unfollowed := true, recurses := true, plainKeys := false, leaving := true, apart := false, calm := true, outside := [.timePasses] }
def FnExactAgreeAtSaid : Prop := fnExactAgreeAtRow.holds Try.pinned (OpenSpec.ofChange fnExactAgreeAtSpec)

/-- ITS FALSE NEIGHBOUR: 'it returns false'. Refute it at one input. -/
def fnExactAgreeAtWrong : ChangeSpec := { name := "fnExactAgreeAt", fn := fun _ => fun
  | [d1, d2, d3, d4] => { results := [.lit (.bool false)], args := [d1, d2, d3, d4] }
  | _ => none }
def FnExactAgreeAtWrongFalsely : Prop := fnExactAgreeAtRow.holds Try.pinned (OpenSpec.ofChange fnExactAgreeAtWrong)

/-- 'laws.FnExactWithCoercion': WHATEVER THE INPUT: true; the input reads as it did. -/
def fnExactWithCoercionSpec : ChangeSpec := { name := "fnExactWithCoercion", fn := fun _ => fun
  | [d1, d2] => { results := [.lit (.bool true)], args := [d1, d2] }
  | _ => none }
def fnExactWithCoercionRow : OpenClaim := { program := "ytokklaoldgdkaaa", sum := "6be5c68e1b714766e7a6eca12c6fb00fe5a8dabadbf3a65adc471190a668b9f4", func := "loop.example/overloads/laws.FnExactWithCoercion", spec := "fnExactWithCoercion", plainKeys := false, apart := false }
def FnExactWithCoercionSaid : Prop := fnExactWithCoercionRow.holds Try.pinned (OpenSpec.ofChange fnExactWithCoercionSpec)

/-- ITS FALSE NEIGHBOUR: 'it returns false'. Refute it at one input. -/
def fnExactWithCoercionWrong : ChangeSpec := { name := "fnExactWithCoercion", fn := fun _ => fun
  | [d1, d2] => { results := [.lit (.bool false)], args := [d1, d2] }
  | _ => none }
def FnExactWithCoercionWrongFalsely : Prop := fnExactWithCoercionRow.holds Try.pinned (OpenSpec.ofChange fnExactWithCoercionWrong)

/-- 'laws.FnExactWithoutCoercion': WHATEVER THE INPUT: true; the input reads as it did. -/
def fnExactWithoutCoercionSpec : ChangeSpec := { name := "fnExactWithoutCoercion", fn := fun _ => fun
  | [d1, d2] => { results := [.lit (.bool true)], args := [d1, d2] }
  | _ => none }
def fnExactWithoutCoercionRow : OpenClaim := { program := "ytokklaoldgdkaaa", sum := "6be5c68e1b714766e7a6eca12c6fb00fe5a8dabadbf3a65adc471190a668b9f4", func := "loop.example/overloads/laws.FnExactWithoutCoercion", spec := "fnExactWithoutCoercion", plainKeys := false, apart := false }
def FnExactWithoutCoercionSaid : Prop := fnExactWithoutCoercionRow.holds Try.pinned (OpenSpec.ofChange fnExactWithoutCoercionSpec)

/-- ITS FALSE NEIGHBOUR: 'it returns false'. Refute it at one input. -/
def fnExactWithoutCoercionWrong : ChangeSpec := { name := "fnExactWithoutCoercion", fn := fun _ => fun
  | [d1, d2] => { results := [.lit (.bool false)], args := [d1, d2] }
  | _ => none }
def FnExactWithoutCoercionWrongFalsely : Prop := fnExactWithoutCoercionRow.holds Try.pinned (OpenSpec.ofChange fnExactWithoutCoercionWrong)

/-- 'laws.FnHasValue': WHATEVER THE INPUT: true; the input reads as it did. -/
def fnHasValueSpec : ChangeSpec := { name := "fnHasValue", fn := fun _ => fun
  | [d] => { results := [.lit (.bool true)], args := [d] }
  | _ => none }
def fnHasValueRow : OpenClaim := { program := "ytokklaoldgdkaaa", sum := "6be5c68e1b714766e7a6eca12c6fb00fe5a8dabadbf3a65adc471190a668b9f4", func := "loop.example/overloads/laws.FnHasValue", spec := "fnHasValue", inPlace := ["sync/atomic.LoadUint32", "(*internal/sync.Mutex).Lock", "internal/race.Disable", "sync/atomic.CompareAndSwapInt32", "internal/race.Enable", "internal/race.Acquire", "(*internal/sync.Mutex).lockSlow", "internal/sync.runtime_canSpin", "internal/sync.runtime_doSpin", "internal/sync.throw", "internal/sync.runtime_nanotime", "internal/sync.runtime_SemacquireMutex", "sync/atomic.AddInt32", "(*internal/sync.Mutex).Unlock", "internal/race.ReleaseMerge", "(*internal/sync.Mutex).unlockSlow", "internal/sync.fatal", "internal/sync.runtime_Semrelease", "sync/atomic.StoreUint32"], unfollowed := true, recurses := true, plainKeys := false, leaving := true, apart := false, calm := true, outside := [.timePasses] }
def FnHasValueSaid : Prop := fnHasValueRow.holds Try.pinned (OpenSpec.ofChange fnHasValueSpec)

/-- ITS FALSE NEIGHBOUR: 'it returns false'. Refute it at one input. -/
def fnHasValueWrong : ChangeSpec := { name := "fnHasValue", fn := fun _ => fun
  | [d] => { results := [.lit (.bool false)], args := [d] }
  | _ => none }
def FnHasValueWrongFalsely : Prop := fnHasValueRow.holds Try.pinned (OpenSpec.ofChange fnHasValueWrong)

/-- 'laws.FnApply': WHATEVER THE INPUT: true; the input reads as it did. -/
def fnApplySpec : ChangeSpec := { name := "fnApply", fn := fun _ => fun
  | [d] => { results := [.lit (.bool true)], args := [d] }
  | _ => none }
def fnApplyRow : OpenClaim := { program := "ytokklaoldgdkaaa", sum := "6be5c68e1b714766e7a6eca12c6fb00fe5a8dabadbf3a65adc471190a668b9f4", func := "loop.example/overloads/laws.FnApply", spec := "fnApply", inPlace := ["sync/atomic.LoadUint32", "(*internal/sync.Mutex).Lock", "internal/race.Disable", "sync/atomic.CompareAndSwapInt32", "internal/race.Enable", "internal/race.Acquire", "(*internal/sync.Mutex).lockSlow", "internal/sync.runtime_canSpin", "internal/sync.runtime_doSpin", "internal/sync.throw", "internal/sync.runtime_nanotime", "internal/sync.runtime_SemacquireMutex", "sync/atomic.AddInt32", "(*internal/sync.Mutex).Unlock", "internal/race.ReleaseMerge", "(*internal/sync.Mutex).unlockSlow", "internal/sync.fatal", "internal/sync.runtime_Semrelease", "sync/atomic.StoreUint32"], unfollowed := true, recurses := true, plainKeys := false, leaving := true, apart := false, calm := true, outside := [.timePasses] }
def FnApplySaid : Prop := fnApplyRow.holds Try.pinned (OpenSpec.ofChange fnApplySpec)

/-- ITS FALSE NEIGHBOUR: 'it returns false'. Refute it at one input. -/
def fnApplyWrong : ChangeSpec := { name := "fnApply", fn := fun _ => fun
  | [d] => { results := [.lit (.bool false)], args := [d] }
  | _ => none }
def FnApplyWrongFalsely : Prop := fnApplyRow.holds Try.pinned (OpenSpec.ofChange fnApplyWrong)

/- THE SECOND FORM. 'bulk': how many values and letters a reading holds, each counted each time it is reached (what is shared counts as often as it is met; a slice's spare places count too). A statement '..UptoSaid' is the law's where the arguments, and the package variables that the reading takes, are together of bulk at most 1048576: NARROWER than '..Said'. Prove '..Said' where nothing that the law and all that it calls make is longer than what came in: it says more and counts as full. Else prove '..UptoSaid'. A law counts once. -/
mutual
def uptoBulk {H : Type} : DataW H → Nat
  | .lit (.string bytes) => bytes.length + 1
  | .lit _ => 1
  | .nil => 1
  | .ptr d => uptoBulk d + 1
  | .slice elems spare => uptoBulkAll elems + uptoBulkAll spare + 1
  | .agg parts => uptoBulkAll parts + 1
  | .iface _ d => uptoBulk d + 1
  | .map entries => uptoBulkEntries entries + 1
  | .held _ => 1
def uptoBulkAll {H : Type} : List (DataW H) → Nat
  | [] => 0
  | d :: r => uptoBulk d + uptoBulkAll r
def uptoBulkEntries {H : Type} : List (Lit × DataW H) → Nat
  | [] => 0
  | x :: r => uptoBulkEntry x + uptoBulkEntries r
def uptoBulkEntry {H : Type} : Lit × DataW H → Nat
  | (.string bytes, d) => bytes.length + uptoBulk d + 1
  | (_, d) => uptoBulk d + 1
 end
def uptoSmall : (H : Type) → List (DataW H) → Bool := fun _ ds => decide (uptoBulkAll ds ≤ 1048576)
def OpenSpec.upto (s : _root_.Go.ChangeSpec) : _root_.Go.OpenSpec := { _root_.Go.OpenSpec.ofChange s with cond := some uptoSmall }

/-- 'laws.FnExactIsCoherent', WHERE WHAT IT READS IS OF BULK AT MOST 1048576: true; the input reads as it did. -/
def fnExactIsCoherentUptoRow : OpenClaim := { program := "ytokklaoldgdkaaa", sum := "6be5c68e1b714766e7a6eca12c6fb00fe5a8dabadbf3a65adc471190a668b9f4", func := "loop.example/overloads/laws.FnExactIsCoherent", spec := "fnExactIsCoherent", inPlace := ["(*sync.WaitGroup).Add", "internal/race.ReleaseMerge", "internal/race.Disable", "internal/race.Enable", "internal/synctest.IsInBubble", "internal/synctest.Associate[sync.WaitGroup]", "sync.fatal", "sync/atomic.OrUint64", "sync/atomic.AddUint64", "internal/race.Read", "sync/atomic.LoadUint64", "sync/atomic.StoreUint64", "internal/synctest.Disassociate[sync.WaitGroup]", "sync.runtime_Semrelease", "(*sync.WaitGroup).Done", "sync/atomic.LoadUint32", "(*internal/sync.Mutex).Lock", "sync/atomic.CompareAndSwapInt32", "internal/race.Acquire", "(*internal/sync.Mutex).lockSlow", "internal/sync.runtime_canSpin", "internal/sync.runtime_doSpin", "internal/sync.throw", "internal/sync.runtime_nanotime", "internal/sync.runtime_SemacquireMutex", "sync/atomic.AddInt32", "(*internal/sync.Mutex).Unlock", "(*internal/sync.Mutex).unlockSlow", "internal/sync.fatal", "internal/sync.runtime_Semrelease", "sync/atomic.StoreUint32", "(*sync.WaitGroup).Wait", "internal/synctest.IsAssociated[sync.WaitGroup]", "sync/atomic.CompareAndSwapUint64", "internal/race.Write", "sync.runtime_SemacquireWaitGroup"], unfollowed := true, recurses := true, plainKeys := false, leaving := true, apart := false, calm := true, outside := [.timePasses], narrowed := true }
def FnExactIsCoherentUptoSaid : Prop := fnExactIsCoherentUptoRow.holds Try.pinned (OpenSpec.upto fnExactIsCoherentSpec)

/-- 'laws.FnExactDoubtOf', WHERE WHAT IT READS IS OF BULK AT MOST 1048576: true; the input reads as it did. -/
def fnExactDoubtOfUptoRow : OpenClaim := { program := "ytokklaoldgdkaaa", sum := "6be5c68e1b714766e7a6eca12c6fb00fe5a8dabadbf3a65adc471190a668b9f4", func := "loop.example/overloads/laws.FnExactDoubtOf", spec := "fnExactDoubtOf", inPlace := ["(*sync.WaitGroup).Add", "internal/race.ReleaseMerge", "internal/race.Disable", "internal/race.Enable", "internal/synctest.IsInBubble", "internal/synctest.Associate[sync.WaitGroup]", "sync.fatal", "sync/atomic.OrUint64", "sync/atomic.AddUint64", "internal/race.Read", "sync/atomic.LoadUint64", "sync/atomic.StoreUint64", "internal/synctest.Disassociate[sync.WaitGroup]", "sync.runtime_Semrelease", "(*sync.WaitGroup).Done", "sync/atomic.LoadUint32", "(*internal/sync.Mutex).Lock", "sync/atomic.CompareAndSwapInt32", "internal/race.Acquire", "(*internal/sync.Mutex).lockSlow", "internal/sync.runtime_canSpin", "internal/sync.runtime_doSpin", "internal/sync.throw", "internal/sync.runtime_nanotime", "internal/sync.runtime_SemacquireMutex", "sync/atomic.AddInt32", "(*internal/sync.Mutex).Unlock", "(*internal/sync.Mutex).unlockSlow", "internal/sync.fatal", "internal/sync.runtime_Semrelease", "sync/atomic.StoreUint32", "(*sync.WaitGroup).Wait", "internal/synctest.IsAssociated[sync.WaitGroup]", "sync/atomic.CompareAndSwapUint64", "internal/race.Write", "sync.runtime_SemacquireWaitGroup"], unfollowed := true, recurses := true, plainKeys := false, leaving := true, apart := false, calm := true, outside := [.timePasses], narrowed := true }
def FnExactDoubtOfUptoSaid : Prop := fnExactDoubtOfUptoRow.holds Try.pinned (OpenSpec.upto fnExactDoubtOfSpec)

/-- 'laws.FnExactCoerce', WHERE WHAT IT READS IS OF BULK AT MOST 1048576: true; the input reads as it did. -/
def fnExactCoerceUptoRow : OpenClaim := { program := "ytokklaoldgdkaaa", sum := "6be5c68e1b714766e7a6eca12c6fb00fe5a8dabadbf3a65adc471190a668b9f4", func := "loop.example/overloads/laws.FnExactCoerce", spec := "fnExactCoerce", inPlace := ["sync/atomic.LoadUint32", "(*internal/sync.Mutex).Lock", "internal/race.Disable", "sync/atomic.CompareAndSwapInt32", "internal/race.Enable", "internal/race.Acquire", "(*internal/sync.Mutex).lockSlow", "internal/sync.runtime_canSpin", "internal/sync.runtime_doSpin", "internal/sync.throw", "internal/sync.runtime_nanotime", "internal/sync.runtime_SemacquireMutex", "sync/atomic.AddInt32", "(*internal/sync.Mutex).Unlock", "internal/race.ReleaseMerge", "(*internal/sync.Mutex).unlockSlow", "internal/sync.fatal", "internal/sync.runtime_Semrelease", "sync/atomic.StoreUint32"], unfollowed := true, recurses := true, plainKeys := false, leaving := true, apart := false, calm := true, outside := [.timePasses], narrowed := true }
def FnExactCoerceUptoSaid : Prop := fnExactCoerceUptoRow.holds Try.pinned (OpenSpec.upto fnExactCoerceSpec)

/-- 'laws.FnExactIsRedundant', WHERE WHAT IT READS IS OF BULK AT MOST 1048576: true; the input reads as it did. -/
def fnExactIsRedundantUptoRow : OpenClaim := { program := "ytokklaoldgdkaaa", sum := "6be5c68e1b714766e7a6eca12c6fb00fe5a8dabadbf3a65adc471190a668b9f4", func := "loop.example/overloads/laws.FnExactIsRedundant", spec := "fnExactIsRedundant", inPlace := ["sync/atomic.LoadUint32", "(*internal/sync.Mutex).Lock", "internal/race.Disable", "sync/atomic.CompareAndSwapInt32", "internal/race.Enable", "internal/race.Acquire", "(*internal/sync.Mutex).lockSlow", "internal/sync.runtime_canSpin", "internal/sync.runtime_doSpin", "internal/sync.throw", "internal/sync.runtime_nanotime", "internal/sync.runtime_SemacquireMutex", "sync/atomic.AddInt32", "(*internal/sync.Mutex).Unlock", "internal/race.ReleaseMerge", "(*internal/sync.Mutex).unlockSlow", "internal/sync.fatal", "internal/sync.runtime_Semrelease", "sync/atomic.StoreUint32"], unfollowed := true, recurses := true, plainKeys := false, leaving := true, apart := false, calm := true, outside := [.timePasses], narrowed := true }
def FnExactIsRedundantUptoSaid : Prop := fnExactIsRedundantUptoRow.holds Try.pinned (OpenSpec.upto fnExactIsRedundantSpec)

/-- 'laws.FnExactReducedTypes', WHERE WHAT IT READS IS OF BULK AT MOST 1048576: true; the input reads as it did. -/
def fnExactReducedTypesUptoRow : OpenClaim := { program := "ytokklaoldgdkaaa", sum := "6be5c68e1b714766e7a6eca12c6fb00fe5a8dabadbf3a65adc471190a668b9f4", func := "loop.example/overloads/laws.FnExactReducedTypes", spec := "fnExactReducedTypes", inPlace := ["sync/atomic.LoadUint32", "(*internal/sync.Mutex).Lock", "internal/race.Disable", "sync/atomic.CompareAndSwapInt32", "internal/race.Enable", "internal/race.Acquire", "(*internal/sync.Mutex).lockSlow", "internal/sync.runtime_canSpin", "internal/sync.runtime_doSpin", "internal/sync.throw", "internal/sync.runtime_nanotime", "internal/sync.runtime_SemacquireMutex", "sync/atomic.AddInt32", "(*internal/sync.Mutex).Unlock", "internal/race.ReleaseMerge", "(*internal/sync.Mutex).unlockSlow", "internal/sync.fatal", "internal/sync.runtime_Semrelease", "sync/atomic.StoreUint32"], unfollowed := true, recurses := true, plainKeys := false, leaving := true, apart := false, calm := true, outside := [.timePasses], narrowed := true }
def FnExactReducedTypesUptoSaid : Prop := fnExactReducedTypesUptoRow.holds Try.pinned (OpenSpec.upto fnExactReducedTypesSpec)

/-- 'laws.FnExactAgreeAt', WHERE WHAT IT READS IS OF BULK AT MOST 1048576: true; the input reads as it did. -/
def fnExactAgreeAtUptoRow : OpenClaim := { program := "ytokklaoldgdkaaa", sum := "6be5c68e1b714766e7a6eca12c6fb00fe5a8dabadbf3a65adc471190a668b9f4", func := "loop.example/overloads/laws.FnExactAgreeAt", spec := "fnExactAgreeAt", inPlace := ["sync/atomic.LoadUint32", "(*internal/sync.Mutex).Lock", "internal/race.Disable", "sync/atomic.CompareAndSwapInt32", "internal/race.Enable", "internal/race.Acquire", "(*internal/sync.Mutex).lockSlow", "internal/sync.runtime_canSpin", "internal/sync.runtime_doSpin", "internal/sync.throw", "internal/sync.runtime_nanotime", "internal/sync.runtime_SemacquireMutex", "sync/atomic.AddInt32", "(*internal/sync.Mutex).Unlock", "internal/race.ReleaseMerge", "(*internal/sync.Mutex).unlockSlow", "internal/sync.fatal", "internal/sync.runtime_Semrelease", "sync/atomic.StoreUint32"], unfollowed := true, recurses := true, plainKeys := false, leaving := true, apart := false, calm := true, outside := [.timePasses], narrowed := true }
def FnExactAgreeAtUptoSaid : Prop := fnExactAgreeAtUptoRow.holds Try.pinned (OpenSpec.upto fnExactAgreeAtSpec)

/-- 'laws.FnExactWithCoercion', WHERE WHAT IT READS IS OF BULK AT MOST 1048576: true; the input reads as it did. -/
def fnExactWithCoercionUptoRow : OpenClaim := { program := "ytokklaoldgdkaaa", sum := "6be5c68e1b714766e7a6eca12c6fb00fe5a8dabadbf3a65adc471190a668b9f4", func := "loop.example/overloads/laws.FnExactWithCoercion", spec := "fnExactWithCoercion", plainKeys := false, apart := false, narrowed := true }
def FnExactWithCoercionUptoSaid : Prop := fnExactWithCoercionUptoRow.holds Try.pinned (OpenSpec.upto fnExactWithCoercionSpec)

/-- 'laws.FnExactWithoutCoercion', WHERE WHAT IT READS IS OF BULK AT MOST 1048576: true; the input reads as it did. -/
def fnExactWithoutCoercionUptoRow : OpenClaim := { program := "ytokklaoldgdkaaa", sum := "6be5c68e1b714766e7a6eca12c6fb00fe5a8dabadbf3a65adc471190a668b9f4", func := "loop.example/overloads/laws.FnExactWithoutCoercion", spec := "fnExactWithoutCoercion", plainKeys := false, apart := false, narrowed := true }
def FnExactWithoutCoercionUptoSaid : Prop := fnExactWithoutCoercionUptoRow.holds Try.pinned (OpenSpec.upto fnExactWithoutCoercionSpec)

/-- 'laws.FnHasValue', WHERE WHAT IT READS IS OF BULK AT MOST 1048576: true; the input reads as it did. -/
def fnHasValueUptoRow : OpenClaim := { program := "ytokklaoldgdkaaa", sum := "6be5c68e1b714766e7a6eca12c6fb00fe5a8dabadbf3a65adc471190a668b9f4", func := "loop.example/overloads/laws.FnHasValue", spec := "fnHasValue", inPlace := ["sync/atomic.LoadUint32", "(*internal/sync.Mutex).Lock", "internal/race.Disable", "sync/atomic.CompareAndSwapInt32", "internal/race.Enable", "internal/race.Acquire", "(*internal/sync.Mutex).lockSlow", "internal/sync.runtime_canSpin", "internal/sync.runtime_doSpin", "internal/sync.throw", "internal/sync.runtime_nanotime", "internal/sync.runtime_SemacquireMutex", "sync/atomic.AddInt32", "(*internal/sync.Mutex).Unlock", "internal/race.ReleaseMerge", "(*internal/sync.Mutex).unlockSlow", "internal/sync.fatal", "internal/sync.runtime_Semrelease", "sync/atomic.StoreUint32"], unfollowed := true, recurses := true, plainKeys := false, leaving := true, apart := false, calm := true, outside := [.timePasses], narrowed := true }
def FnHasValueUptoSaid : Prop := fnHasValueUptoRow.holds Try.pinned (OpenSpec.upto fnHasValueSpec)

/-- 'laws.FnApply', WHERE WHAT IT READS IS OF BULK AT MOST 1048576: true; the input reads as it did. -/
def fnApplyUptoRow : OpenClaim := { program := "ytokklaoldgdkaaa", sum := "6be5c68e1b714766e7a6eca12c6fb00fe5a8dabadbf3a65adc471190a668b9f4", func := "loop.example/overloads/laws.FnApply", spec := "fnApply", inPlace := ["sync/atomic.LoadUint32", "(*internal/sync.Mutex).Lock", "internal/race.Disable", "sync/atomic.CompareAndSwapInt32", "internal/race.Enable", "internal/race.Acquire", "(*internal/sync.Mutex).lockSlow", "internal/sync.runtime_canSpin", "internal/sync.runtime_doSpin", "internal/sync.throw", "internal/sync.runtime_nanotime", "internal/sync.runtime_SemacquireMutex", "sync/atomic.AddInt32", "(*internal/sync.Mutex).Unlock", "internal/race.ReleaseMerge", "(*internal/sync.Mutex).unlockSlow", "internal/sync.fatal", "internal/sync.runtime_Semrelease", "sync/atomic.StoreUint32"], unfollowed := true, recurses := true, plainKeys := false, leaving := true, apart := false, calm := true, outside := [.timePasses], narrowed := true }
def FnApplyUptoSaid : Prop := fnApplyUptoRow.holds Try.pinned (OpenSpec.upto fnApplySpec)

end Rows
end Go.Proofs.Ytokklaoldgdkaaa
