/-
  No cell of these rows narrows 'for every input' (looked for: loops, veiled, ifaces, maps, wideKeys, modest, calm, conditions, laid).
  DERIVED. THE GIVEN ROWS OF THIS SEAT. 2 by the template 'for every input the law returns true; each argument reads behind the call as it read before'; 0 by the template 'total and deterministic' (their statements: YtplncocfbajefaaTotals.lean).
  GIVEN WITH THE SEED: the statements are not yours to turn. If you find one false, say at which input.
  Laid BY PROGRAM, IN A SANDBOX (cutbox-rows.mjs): the forced cells as the released guide's own fill.sh prints them over the translation b5f85fa773dcc279… (all of the seat's roots in one cut). By AI agents, Wed Nov 11 2026. No macro, syntax, notation, axiom, sorry.
-/
import Derived.Test.YtplncocfbajefaaChecked
import GoSem.Claim
import GoSem.ClaimJoined
import GoSem.ClaimMapViews
import Derived.JoinedTies
import Derived.KernelRfl
namespace Go.Proofs.Ytplncocfbajefaa
/- THE CELL 'sum', in the pinned program and in every row, IS THE sha256 OF THE DUMP (.gsa) THAT YtplncocfbajefaaProg.lean LOADS. Nothing in Lean hashes anything: it is a label: what it is worth is what the hold of that sum in a sandbox is worth. -/
noncomputable def Try.pinned : Pinned := { name := "ytplncocfbajefaa", sum := "b5f85fa773dcc279bf5a6706a5aa5d83cb842d9baabe7b41b0114e0049c317c1", checked := Try.checked }
namespace Rows
def none {H : Type} : Left H := { results := [], args := [] }

/-- 'laws.FnExactAddCoercion': WHATEVER THE INPUT: true; the input reads as it did. -/
def fnExactAddCoercionSpec : ChangeSpec := { name := "fnExactAddCoercion", fn := fun _ => fun
  | [d1, d2] => { results := [.lit (.bool true)], args := [d1, d2] }
  | _ => none }
def fnExactAddCoercionRow : OpenClaim := { program := "ytplncocfbajefaa", sum := "b5f85fa773dcc279bf5a6706a5aa5d83cb842d9baabe7b41b0114e0049c317c1", func := "loop.example/overloads/laws.FnExactAddCoercion", spec := "fnExactAddCoercion", apart := false }
def FnExactAddCoercionSaid : Prop := fnExactAddCoercionRow.holds Try.pinned (OpenSpec.ofChange fnExactAddCoercionSpec)

/-- ITS FALSE NEIGHBOUR: 'it returns false'. Refute it at one input. -/
def fnExactAddCoercionWrong : ChangeSpec := { name := "fnExactAddCoercion", fn := fun _ => fun
  | [d1, d2] => { results := [.lit (.bool false)], args := [d1, d2] }
  | _ => none }
def FnExactAddCoercionWrongFalsely : Prop := fnExactAddCoercionRow.holds Try.pinned (OpenSpec.ofChange fnExactAddCoercionWrong)

/-- 'laws.FnExactDropFunction': WHATEVER THE INPUT: true; the input reads as it did. -/
def fnExactDropFunctionSpec : ChangeSpec := { name := "fnExactDropFunction", fn := fun _ => fun
  | [d1, d2] => { results := [.lit (.bool true)], args := [d1, d2] }
  | _ => none }
def fnExactDropFunctionRow : OpenClaim := { program := "ytplncocfbajefaa", sum := "b5f85fa773dcc279bf5a6706a5aa5d83cb842d9baabe7b41b0114e0049c317c1", func := "loop.example/overloads/laws.FnExactDropFunction", spec := "fnExactDropFunction", apart := false }
def FnExactDropFunctionSaid : Prop := fnExactDropFunctionRow.holds Try.pinned (OpenSpec.ofChange fnExactDropFunctionSpec)

/-- ITS FALSE NEIGHBOUR: 'it returns false'. Refute it at one input. -/
def fnExactDropFunctionWrong : ChangeSpec := { name := "fnExactDropFunction", fn := fun _ => fun
  | [d1, d2] => { results := [.lit (.bool false)], args := [d1, d2] }
  | _ => none }
def FnExactDropFunctionWrongFalsely : Prop := fnExactDropFunctionRow.holds Try.pinned (OpenSpec.ofChange fnExactDropFunctionWrong)

/- THE SECOND FORM. 'bulk': how many values and letters a reading holds, each counted each time it is reached (what is shared counts as often as it is met; a slice's spare places count too). A statement '..UptoSaid' is the law's where the arguments, and the package variables that the reading takes, are together of bulk at most 1048576: NARROWER than '..Said'. Prove '..Said' where nothing that the law and all that it calls make is longer than what came in: it says more and counts as full. Else prove '..UptoSaid'. A law counts once. -/
mutual
def uptoBulk {H : Type} : DataW H → Nat
  | .lit (.string bytes) => bytes.length + 1
  | .lit _ => 1
  | .nil => 1
  | .ptr d => uptoBulk d + 1
  | .slice elems spare => uptoBulkAll elems + uptoBulkAll spare + 1
  | .agg parts => uptoBulkAll parts + 1
  | .iface _ d => uptoBulk d + 1
  | .map entries => uptoBulkEntries entries + 1
  | .held _ => 1
def uptoBulkAll {H : Type} : List (DataW H) → Nat
  | [] => 0
  | d :: r => uptoBulk d + uptoBulkAll r
def uptoBulkEntries {H : Type} : List (Lit × DataW H) → Nat
  | [] => 0
  | x :: r => uptoBulkEntry x + uptoBulkEntries r
def uptoBulkEntry {H : Type} : Lit × DataW H → Nat
  | (.string bytes, d) => bytes.length + uptoBulk d + 1
  | (_, d) => uptoBulk d + 1
 end
def uptoSmall : (H : Type) → List (DataW H) → Bool := fun _ ds => decide (uptoBulkAll ds ≤ 1048576)
def OpenSpec.upto (s : _root_.Go.ChangeSpec) : _root_.Go.OpenSpec := { _root_.Go.OpenSpec.ofChange s with cond := some uptoSmall }

/-- 'laws.FnExactAddCoercion', WHERE WHAT IT READS IS OF BULK AT MOST 1048576: true; the input reads as it did. -/
def fnExactAddCoercionUptoRow : OpenClaim := { program := "ytplncocfbajefaa", sum := "b5f85fa773dcc279bf5a6706a5aa5d83cb842d9baabe7b41b0114e0049c317c1", func := "loop.example/overloads/laws.FnExactAddCoercion", spec := "fnExactAddCoercion", apart := false, narrowed := true }
def FnExactAddCoercionUptoSaid : Prop := fnExactAddCoercionUptoRow.holds Try.pinned (OpenSpec.upto fnExactAddCoercionSpec)

/-- 'laws.FnExactDropFunction', WHERE WHAT IT READS IS OF BULK AT MOST 1048576: true; the input reads as it did. -/
def fnExactDropFunctionUptoRow : OpenClaim := { program := "ytplncocfbajefaa", sum := "b5f85fa773dcc279bf5a6706a5aa5d83cb842d9baabe7b41b0114e0049c317c1", func := "loop.example/overloads/laws.FnExactDropFunction", spec := "fnExactDropFunction", apart := false, narrowed := true }
def FnExactDropFunctionUptoSaid : Prop := fnExactDropFunctionUptoRow.holds Try.pinned (OpenSpec.upto fnExactDropFunctionSpec)

end Rows
end Go.Proofs.Ytplncocfbajefaa
