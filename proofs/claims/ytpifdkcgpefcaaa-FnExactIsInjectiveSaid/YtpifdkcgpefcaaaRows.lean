/-
  No cell of these rows narrows 'for every input' (looked for: loops, veiled, ifaces, maps, wideKeys, modest, calm, conditions, laid).
  DERIVED. THE GIVEN ROWS OF THIS SEAT. 9 by the template 'for every input the law returns true; each argument reads behind the call as it read before'; 0 by the template 'total and deterministic' (their statements: YtpifdkcgpefcaaaTotals.lean).
  GIVEN WITH THE SEED: the statements are not yours to turn. If you find one false, say at which input.
  Laid BY PROGRAM, IN A SANDBOX (cutbox-rows.mjs): the forced cells as the released guide's own fill.sh prints them over the translation 434cdc6a32608351… (all of the seat's roots in one cut). By AI agents, Wed Nov 11 2026. No macro, syntax, notation, axiom, sorry.
-/
import Derived.Test.YtpifdkcgpefcaaaChecked
import GoSem.Claim
import GoSem.ClaimJoined
import GoSem.ClaimMapViews
import Derived.JoinedTies
import Derived.KernelRfl
namespace Go.Proofs.Ytpifdkcgpefcaaa
/- THE CELL 'sum', in the pinned program and in every row, IS THE sha256 OF THE DUMP (.gsa) THAT YtpifdkcgpefcaaaProg.lean LOADS. Nothing in Lean hashes anything: it is a label: what it is worth is what the hold of that sum in a sandbox is worth. -/
noncomputable def Try.pinned : Pinned := { name := "ytpifdkcgpefcaaa", sum := "434cdc6a3260835110dcd377d0246cf5016f7374db29839a9c1eaf5aaaee9338", checked := Try.checked }
namespace Rows
def none {H : Type} : Left H := { results := [], args := [] }

/-- 'laws.FnApply': WHATEVER THE INPUT: true; the input reads as it did. -/
def fnApplySpec : ChangeSpec := { name := "fnApply", fn := fun _ => fun
  | [d] => { results := [.lit (.bool true)], args := [d] }
  | _ => none }
def fnApplyRow : OpenClaim := { program := "ytpifdkcgpefcaaa", sum := "434cdc6a3260835110dcd377d0246cf5016f7374db29839a9c1eaf5aaaee9338", func := "loop.example/overloads/laws.FnApply", spec := "fnApply", inPlace := ["sync/atomic.LoadUint32", "(*internal/sync.Mutex).Lock", "internal/race.Disable", "sync/atomic.CompareAndSwapInt32", "internal/race.Enable", "internal/race.Acquire", "(*internal/sync.Mutex).lockSlow", "internal/sync.runtime_canSpin", "internal/sync.runtime_doSpin", "internal/sync.throw", "internal/sync.runtime_nanotime", "internal/sync.runtime_SemacquireMutex", "sync/atomic.AddInt32", "(*internal/sync.Mutex).Unlock", "internal/race.ReleaseMerge", "(*internal/sync.Mutex).unlockSlow", "internal/sync.fatal", "internal/sync.runtime_Semrelease", "sync/atomic.StoreUint32"], unfollowed := true, recurses := true, apart := false }
def FnApplySaid : Prop := fnApplyRow.holds Try.pinned (OpenSpec.ofChange fnApplySpec)

/-- ITS FALSE NEIGHBOUR: 'it returns false'. Refute it at one input. -/
def fnApplyWrong : ChangeSpec := { name := "fnApply", fn := fun _ => fun
  | [d] => { results := [.lit (.bool false)], args := [d] }
  | _ => none }
def FnApplyWrongFalsely : Prop := fnApplyRow.holds Try.pinned (OpenSpec.ofChange fnApplyWrong)

/-- 'laws.FnWith': WHATEVER THE INPUT: true; the input reads as it did. -/
def fnWithSpec : ChangeSpec := { name := "fnWith", fn := fun _ => fun
  | [d1, d2] => { results := [.lit (.bool true)], args := [d1, d2] }
  | _ => none }
def fnWithRow : OpenClaim := { program := "ytpifdkcgpefcaaa", sum := "434cdc6a3260835110dcd377d0246cf5016f7374db29839a9c1eaf5aaaee9338", func := "loop.example/overloads/laws.FnWith", spec := "fnWith", apart := false }
def FnWithSaid : Prop := fnWithRow.holds Try.pinned (OpenSpec.ofChange fnWithSpec)

/-- ITS FALSE NEIGHBOUR: 'it returns false'. Refute it at one input. -/
def fnWithWrong : ChangeSpec := { name := "fnWith", fn := fun _ => fun
  | [d1, d2] => { results := [.lit (.bool false)], args := [d1, d2] }
  | _ => none }
def FnWithWrongFalsely : Prop := fnWithRow.holds Try.pinned (OpenSpec.ofChange fnWithWrong)

/-- 'laws.FnHasValue': WHATEVER THE INPUT: true; the input reads as it did. -/
def fnHasValueSpec : ChangeSpec := { name := "fnHasValue", fn := fun _ => fun
  | [d] => { results := [.lit (.bool true)], args := [d] }
  | _ => none }
def fnHasValueRow : OpenClaim := { program := "ytpifdkcgpefcaaa", sum := "434cdc6a3260835110dcd377d0246cf5016f7374db29839a9c1eaf5aaaee9338", func := "loop.example/overloads/laws.FnHasValue", spec := "fnHasValue", inPlace := ["sync/atomic.LoadUint32", "(*internal/sync.Mutex).Lock", "internal/race.Disable", "sync/atomic.CompareAndSwapInt32", "internal/race.Enable", "internal/race.Acquire", "(*internal/sync.Mutex).lockSlow", "internal/sync.runtime_canSpin", "internal/sync.runtime_doSpin", "internal/sync.throw", "internal/sync.runtime_nanotime", "internal/sync.runtime_SemacquireMutex", "sync/atomic.AddInt32", "(*internal/sync.Mutex).Unlock", "internal/race.ReleaseMerge", "(*internal/sync.Mutex).unlockSlow", "internal/sync.fatal", "internal/sync.runtime_Semrelease", "sync/atomic.StoreUint32"], unfollowed := true, recurses := true, apart := false }
def FnHasValueSaid : Prop := fnHasValueRow.holds Try.pinned (OpenSpec.ofChange fnHasValueSpec)

/-- ITS FALSE NEIGHBOUR: 'it returns false'. Refute it at one input. -/
def fnHasValueWrong : ChangeSpec := { name := "fnHasValue", fn := fun _ => fun
  | [d] => { results := [.lit (.bool false)], args := [d] }
  | _ => none }
def FnHasValueWrongFalsely : Prop := fnHasValueRow.holds Try.pinned (OpenSpec.ofChange fnHasValueWrong)

/-- 'laws.FnExactTypesValid': WHATEVER THE INPUT: true; the input reads as it did. -/
def fnExactTypesValidSpec : ChangeSpec := { name := "fnExactTypesValid", fn := fun _ => fun
  | [d] => { results := [.lit (.bool true)], args := [d] }
  | _ => none }
def fnExactTypesValidRow : OpenClaim := { program := "ytpifdkcgpefcaaa", sum := "434cdc6a3260835110dcd377d0246cf5016f7374db29839a9c1eaf5aaaee9338", func := "loop.example/overloads/laws.FnExactTypesValid", spec := "fnExactTypesValid", apart := false }
def FnExactTypesValidSaid : Prop := fnExactTypesValidRow.holds Try.pinned (OpenSpec.ofChange fnExactTypesValidSpec)

/-- ITS FALSE NEIGHBOUR: 'it returns false'. Refute it at one input. -/
def fnExactTypesValidWrong : ChangeSpec := { name := "fnExactTypesValid", fn := fun _ => fun
  | [d] => { results := [.lit (.bool false)], args := [d] }
  | _ => none }
def FnExactTypesValidWrongFalsely : Prop := fnExactTypesValidRow.holds Try.pinned (OpenSpec.ofChange fnExactTypesValidWrong)

/-- 'laws.FnExactHasValue': WHATEVER THE INPUT: true; the input reads as it did. -/
def fnExactHasValueSpec : ChangeSpec := { name := "fnExactHasValue", fn := fun _ => fun
  | [d1, d2, d3] => { results := [.lit (.bool true)], args := [d1, d2, d3] }
  | _ => none }
def fnExactHasValueRow : OpenClaim := { program := "ytpifdkcgpefcaaa", sum := "434cdc6a3260835110dcd377d0246cf5016f7374db29839a9c1eaf5aaaee9338", func := "loop.example/overloads/laws.FnExactHasValue", spec := "fnExactHasValue", apart := false }
def FnExactHasValueSaid : Prop := fnExactHasValueRow.holds Try.pinned (OpenSpec.ofChange fnExactHasValueSpec)

/-- ITS FALSE NEIGHBOUR: 'it returns false'. Refute it at one input. -/
def fnExactHasValueWrong : ChangeSpec := { name := "fnExactHasValue", fn := fun _ => fun
  | [d1, d2, d3] => { results := [.lit (.bool false)], args := [d1, d2, d3] }
  | _ => none }
def FnExactHasValueWrongFalsely : Prop := fnExactHasValueRow.holds Try.pinned (OpenSpec.ofChange fnExactHasValueWrong)

/-- 'laws.FnExactApplyCoercion': WHATEVER THE INPUT: true; the input reads as it did. -/
def fnExactApplyCoercionSpec : ChangeSpec := { name := "fnExactApplyCoercion", fn := fun _ => fun
  | [d1, d2, d3] => { results := [.lit (.bool true)], args := [d1, d2, d3] }
  | _ => none }
def fnExactApplyCoercionRow : OpenClaim := { program := "ytpifdkcgpefcaaa", sum := "434cdc6a3260835110dcd377d0246cf5016f7374db29839a9c1eaf5aaaee9338", func := "loop.example/overloads/laws.FnExactApplyCoercion", spec := "fnExactApplyCoercion", inPlace := ["sync/atomic.LoadUint32", "(*internal/sync.Mutex).Lock", "internal/race.Disable", "sync/atomic.CompareAndSwapInt32", "internal/race.Enable", "internal/race.Acquire", "(*internal/sync.Mutex).lockSlow", "internal/sync.runtime_canSpin", "internal/sync.runtime_doSpin", "internal/sync.throw", "internal/sync.runtime_nanotime", "internal/sync.runtime_SemacquireMutex", "sync/atomic.AddInt32", "(*internal/sync.Mutex).Unlock", "internal/race.ReleaseMerge", "(*internal/sync.Mutex).unlockSlow", "internal/sync.fatal", "internal/sync.runtime_Semrelease", "sync/atomic.StoreUint32"], unfollowed := true, recurses := true, apart := false }
def FnExactApplyCoercionSaid : Prop := fnExactApplyCoercionRow.holds Try.pinned (OpenSpec.ofChange fnExactApplyCoercionSpec)

/-- ITS FALSE NEIGHBOUR: 'it returns false'. Refute it at one input. -/
def fnExactApplyCoercionWrong : ChangeSpec := { name := "fnExactApplyCoercion", fn := fun _ => fun
  | [d1, d2, d3] => { results := [.lit (.bool false)], args := [d1, d2, d3] }
  | _ => none }
def FnExactApplyCoercionWrongFalsely : Prop := fnExactApplyCoercionRow.holds Try.pinned (OpenSpec.ofChange fnExactApplyCoercionWrong)

/-- 'laws.FnExactIsInjective': WHATEVER THE INPUT: true; the input reads as it did. -/
def fnExactIsInjectiveSpec : ChangeSpec := { name := "fnExactIsInjective", fn := fun _ => fun
  | [d1, d2] => { results := [.lit (.bool true)], args := [d1, d2] }
  | _ => none }
def fnExactIsInjectiveRow : OpenClaim := { program := "ytpifdkcgpefcaaa", sum := "434cdc6a3260835110dcd377d0246cf5016f7374db29839a9c1eaf5aaaee9338", func := "loop.example/overloads/laws.FnExactIsInjective", spec := "fnExactIsInjective", inPlace := ["sync/atomic.LoadUint32", "(*internal/sync.Mutex).Lock", "internal/race.Disable", "sync/atomic.CompareAndSwapInt32", "internal/race.Enable", "internal/race.Acquire", "(*internal/sync.Mutex).lockSlow", "internal/sync.runtime_canSpin", "internal/sync.runtime_doSpin", "internal/sync.throw", "internal/sync.runtime_nanotime", "internal/sync.runtime_SemacquireMutex", "sync/atomic.AddInt32", "(*internal/sync.Mutex).Unlock", "internal/race.ReleaseMerge", "(*internal/sync.Mutex).unlockSlow", "internal/sync.fatal", "internal/sync.runtime_Semrelease", "sync/atomic.StoreUint32"], unfollowed := true, recurses := true, apart := false }
def FnExactIsInjectiveSaid : Prop := fnExactIsInjectiveRow.holds Try.pinned (OpenSpec.ofChange fnExactIsInjectiveSpec)

/-- ITS FALSE NEIGHBOUR: 'it returns false'. Refute it at one input. -/
def fnExactIsInjectiveWrong : ChangeSpec := { name := "fnExactIsInjective", fn := fun _ => fun
  | [d1, d2] => { results := [.lit (.bool false)], args := [d1, d2] }
  | _ => none }
def FnExactIsInjectiveWrongFalsely : Prop := fnExactIsInjectiveRow.holds Try.pinned (OpenSpec.ofChange fnExactIsInjectiveWrong)

/-- 'laws.FnExactCoercionsFrom': WHATEVER THE INPUT: true; the input reads as it did. -/
def fnExactCoercionsFromSpec : ChangeSpec := { name := "fnExactCoercionsFrom", fn := fun _ => fun
  | [d1, d2] => { results := [.lit (.bool true)], args := [d1, d2] }
  | _ => none }
def fnExactCoercionsFromRow : OpenClaim := { program := "ytpifdkcgpefcaaa", sum := "434cdc6a3260835110dcd377d0246cf5016f7374db29839a9c1eaf5aaaee9338", func := "loop.example/overloads/laws.FnExactCoercionsFrom", spec := "fnExactCoercionsFrom", apart := false }
def FnExactCoercionsFromSaid : Prop := fnExactCoercionsFromRow.holds Try.pinned (OpenSpec.ofChange fnExactCoercionsFromSpec)

/-- ITS FALSE NEIGHBOUR: 'it returns false'. Refute it at one input. -/
def fnExactCoercionsFromWrong : ChangeSpec := { name := "fnExactCoercionsFrom", fn := fun _ => fun
  | [d1, d2] => { results := [.lit (.bool false)], args := [d1, d2] }
  | _ => none }
def FnExactCoercionsFromWrongFalsely : Prop := fnExactCoercionsFromRow.holds Try.pinned (OpenSpec.ofChange fnExactCoercionsFromWrong)

/-- 'laws.FnExactWithCoercion': WHATEVER THE INPUT: true; the input reads as it did. -/
def fnExactWithCoercionSpec : ChangeSpec := { name := "fnExactWithCoercion", fn := fun _ => fun
  | [d1, d2] => { results := [.lit (.bool true)], args := [d1, d2] }
  | _ => none }
def fnExactWithCoercionRow : OpenClaim := { program := "ytpifdkcgpefcaaa", sum := "434cdc6a3260835110dcd377d0246cf5016f7374db29839a9c1eaf5aaaee9338", func := "loop.example/overloads/laws.FnExactWithCoercion", spec := "fnExactWithCoercion", apart := false }
def FnExactWithCoercionSaid : Prop := fnExactWithCoercionRow.holds Try.pinned (OpenSpec.ofChange fnExactWithCoercionSpec)

/-- ITS FALSE NEIGHBOUR: 'it returns false'. Refute it at one input. -/
def fnExactWithCoercionWrong : ChangeSpec := { name := "fnExactWithCoercion", fn := fun _ => fun
  | [d1, d2] => { results := [.lit (.bool false)], args := [d1, d2] }
  | _ => none }
def FnExactWithCoercionWrongFalsely : Prop := fnExactWithCoercionRow.holds Try.pinned (OpenSpec.ofChange fnExactWithCoercionWrong)

/- THE SECOND FORM. 'bulk': how many values and letters a reading holds, each counted each time it is reached (what is shared counts as often as it is met; a slice's spare places count too). A statement '..UptoSaid' is the law's where the arguments, and the package variables that the reading takes, are together of bulk at most 1048576: NARROWER than '..Said'. Prove '..Said' where nothing that the law and all that it calls make is longer than what came in: it says more and counts as full. Else prove '..UptoSaid'. A law counts once. -/
mutual
def uptoBulk {H : Type} : DataW H → Nat
  | .lit (.string bytes) => bytes.length + 1
  | .lit _ => 1
  | .nil => 1
  | .ptr d => uptoBulk d + 1
  | .slice elems spare => uptoBulkAll elems + uptoBulkAll spare + 1
  | .agg parts => uptoBulkAll parts + 1
  | .iface _ d => uptoBulk d + 1
  | .map entries => uptoBulkEntries entries + 1
  | .held _ => 1
def uptoBulkAll {H : Type} : List (DataW H) → Nat
  | [] => 0
  | d :: r => uptoBulk d + uptoBulkAll r
def uptoBulkEntries {H : Type} : List (Lit × DataW H) → Nat
  | [] => 0
  | x :: r => uptoBulkEntry x + uptoBulkEntries r
def uptoBulkEntry {H : Type} : Lit × DataW H → Nat
  | (.string bytes, d) => bytes.length + uptoBulk d + 1
  | (_, d) => uptoBulk d + 1
 end
def uptoSmall : (H : Type) → List (DataW H) → Bool := fun _ ds => decide (uptoBulkAll ds ≤ 1048576)
def OpenSpec.upto (s : _root_.Go.ChangeSpec) : _root_.Go.OpenSpec := { _root_.Go.OpenSpec.ofChange s with cond := some uptoSmall }

/-- 'laws.FnApply', WHERE WHAT IT READS IS OF BULK AT MOST 1048576: true; the input reads as it did. -/
def fnApplyUptoRow : OpenClaim := { program := "ytpifdkcgpefcaaa", sum := "434cdc6a3260835110dcd377d0246cf5016f7374db29839a9c1eaf5aaaee9338", func := "loop.example/overloads/laws.FnApply", spec := "fnApply", inPlace := ["sync/atomic.LoadUint32", "(*internal/sync.Mutex).Lock", "internal/race.Disable", "sync/atomic.CompareAndSwapInt32", "internal/race.Enable", "internal/race.Acquire", "(*internal/sync.Mutex).lockSlow", "internal/sync.runtime_canSpin", "internal/sync.runtime_doSpin", "internal/sync.throw", "internal/sync.runtime_nanotime", "internal/sync.runtime_SemacquireMutex", "sync/atomic.AddInt32", "(*internal/sync.Mutex).Unlock", "internal/race.ReleaseMerge", "(*internal/sync.Mutex).unlockSlow", "internal/sync.fatal", "internal/sync.runtime_Semrelease", "sync/atomic.StoreUint32"], unfollowed := true, recurses := true, apart := false, narrowed := true }
def FnApplyUptoSaid : Prop := fnApplyUptoRow.holds Try.pinned (OpenSpec.upto fnApplySpec)

/-- 'laws.FnWith', WHERE WHAT IT READS IS OF BULK AT MOST 1048576: true; the input reads as it did. -/
def fnWithUptoRow : OpenClaim := { program := "ytpifdkcgpefcaaa", sum := "434cdc6a3260835110dcd377d0246cf5016f7374db29839a9c1eaf5aaaee9338", func := "loop.example/overloads/laws.FnWith", spec := "fnWith", apart := false, narrowed := true }
def FnWithUptoSaid : Prop := fnWithUptoRow.holds Try.pinned (OpenSpec.upto fnWithSpec)

/-- 'laws.FnHasValue', WHERE WHAT IT READS IS OF BULK AT MOST 1048576: true; the input reads as it did. -/
def fnHasValueUptoRow : OpenClaim := { program := "ytpifdkcgpefcaaa", sum := "434cdc6a3260835110dcd377d0246cf5016f7374db29839a9c1eaf5aaaee9338", func := "loop.example/overloads/laws.FnHasValue", spec := "fnHasValue", inPlace := ["sync/atomic.LoadUint32", "(*internal/sync.Mutex).Lock", "internal/race.Disable", "sync/atomic.CompareAndSwapInt32", "internal/race.Enable", "internal/race.Acquire", "(*internal/sync.Mutex).lockSlow", "internal/sync.runtime_canSpin", "internal/sync.runtime_doSpin", "internal/sync.throw", "internal/sync.runtime_nanotime", "internal/sync.runtime_SemacquireMutex", "sync/atomic.AddInt32", "(*internal/sync.Mutex).Unlock", "internal/race.ReleaseMerge", "(*internal/sync.Mutex).unlockSlow", "internal/sync.fatal", "internal/sync.runtime_Semrelease", "sync/atomic.StoreUint32"], unfollowed := true, recurses := true, apart := false, narrowed := true }
def FnHasValueUptoSaid : Prop := fnHasValueUptoRow.holds Try.pinned (OpenSpec.upto fnHasValueSpec)

/-- 'laws.FnExactTypesValid', WHERE WHAT IT READS IS OF BULK AT MOST 1048576: true; the input reads as it did. -/
def fnExactTypesValidUptoRow : OpenClaim := { program := "ytpifdkcgpefcaaa", sum := "434cdc6a3260835110dcd377d0246cf5016f7374db29839a9c1eaf5aaaee9338", func := "loop.example/overloads/laws.FnExactTypesValid", spec := "fnExactTypesValid", apart := false, narrowed := true }
def FnExactTypesValidUptoSaid : Prop := fnExactTypesValidUptoRow.holds Try.pinned (OpenSpec.upto fnExactTypesValidSpec)

/-- 'laws.FnExactHasValue', WHERE WHAT IT READS IS OF BULK AT MOST 1048576: true; the input reads as it did. -/
def fnExactHasValueUptoRow : OpenClaim := { program := "ytpifdkcgpefcaaa", sum := "434cdc6a3260835110dcd377d0246cf5016f7374db29839a9c1eaf5aaaee9338", func := "loop.example/overloads/laws.FnExactHasValue", spec := "fnExactHasValue", apart := false, narrowed := true }
def FnExactHasValueUptoSaid : Prop := fnExactHasValueUptoRow.holds Try.pinned (OpenSpec.upto fnExactHasValueSpec)

/-- 'laws.FnExactApplyCoercion', WHERE WHAT IT READS IS OF BULK AT MOST 1048576: true; the input reads as it did. -/
def fnExactApplyCoercionUptoRow : OpenClaim := { program := "ytpifdkcgpefcaaa", sum := "434cdc6a3260835110dcd377d0246cf5016f7374db29839a9c1eaf5aaaee9338", func := "loop.example/overloads/laws.FnExactApplyCoercion", spec := "fnExactApplyCoercion", inPlace := ["sync/atomic.LoadUint32", "(*internal/sync.Mutex).Lock", "internal/race.Disable", "sync/atomic.CompareAndSwapInt32", "internal/race.Enable", "internal/race.Acquire", "(*internal/sync.Mutex).lockSlow", "internal/sync.runtime_canSpin", "internal/sync.runtime_doSpin", "internal/sync.throw", "internal/sync.runtime_nanotime", "internal/sync.runtime_SemacquireMutex", "sync/atomic.AddInt32", "(*internal/sync.Mutex).Unlock", "internal/race.ReleaseMerge", "(*internal/sync.Mutex).unlockSlow", "internal/sync.fatal", "internal/sync.runtime_Semrelease", "sync/atomic.StoreUint32"], unfollowed := true, recurses := true, apart := false, narrowed := true }
def FnExactApplyCoercionUptoSaid : Prop := fnExactApplyCoercionUptoRow.holds Try.pinned (OpenSpec.upto fnExactApplyCoercionSpec)

/-- 'laws.FnExactIsInjective', WHERE WHAT IT READS IS OF BULK AT MOST 1048576: true; the input reads as it did. -/
def fnExactIsInjectiveUptoRow : OpenClaim := { program := "ytpifdkcgpefcaaa", sum := "434cdc6a3260835110dcd377d0246cf5016f7374db29839a9c1eaf5aaaee9338", func := "loop.example/overloads/laws.FnExactIsInjective", spec := "fnExactIsInjective", inPlace := ["sync/atomic.LoadUint32", "(*internal/sync.Mutex).Lock", "internal/race.Disable", "sync/atomic.CompareAndSwapInt32", "internal/race.Enable", "internal/race.Acquire", "(*internal/sync.Mutex).lockSlow", "internal/sync.runtime_canSpin", "internal/sync.runtime_doSpin", "internal/sync.throw", "internal/sync.runtime_nanotime", "internal/sync.runtime_SemacquireMutex", "sync/atomic.AddInt32", "(*internal/sync.Mutex).Unlock", "internal/race.ReleaseMerge", "(*internal/sync.Mutex).unlockSlow", "internal/sync.fatal", "internal/sync.runtime_Semrelease", "sync/atomic.StoreUint32"], unfollowed := true, recurses := true, apart := false, narrowed := true }
def FnExactIsInjectiveUptoSaid : Prop := fnExactIsInjectiveUptoRow.holds Try.pinned (OpenSpec.upto fnExactIsInjectiveSpec)

/-- 'laws.FnExactCoercionsFrom', WHERE WHAT IT READS IS OF BULK AT MOST 1048576: true; the input reads as it did. -/
def fnExactCoercionsFromUptoRow : OpenClaim := { program := "ytpifdkcgpefcaaa", sum := "434cdc6a3260835110dcd377d0246cf5016f7374db29839a9c1eaf5aaaee9338", func := "loop.example/overloads/laws.FnExactCoercionsFrom", spec := "fnExactCoercionsFrom", apart := false, narrowed := true }
def FnExactCoercionsFromUptoSaid : Prop := fnExactCoercionsFromUptoRow.holds Try.pinned (OpenSpec.upto fnExactCoercionsFromSpec)

/-- 'laws.FnExactWithCoercion', WHERE WHAT IT READS IS OF BULK AT MOST 1048576: true; the input reads as it did. -/
def fnExactWithCoercionUptoRow : OpenClaim := { program := "ytpifdkcgpefcaaa", sum := "434cdc6a3260835110dcd377d0246cf5016f7374db29839a9c1eaf5aaaee9338", func := "loop.example/overloads/laws.FnExactWithCoercion", spec := "fnExactWithCoercion", apart := false, narrowed := true }
def FnExactWithCoercionUptoSaid : Prop := fnExactWithCoercionUptoRow.holds Try.pinned (OpenSpec.upto fnExactWithCoercionSpec)

end Rows
end Go.Proofs.Ytpifdkcgpefcaaa
