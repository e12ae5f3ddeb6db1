/-
  errors.As at a target that is a struct: the contracts for nil, for a gapFault and for an errorString.
  errors.As at a target that is a gapFault: a gapFault is found, an errorString is not.
-/
import Derived.Test.YtnmbjmocnafekaaGreatDoorG2
import Derived.Test.YtnmbjmocnafekaaGreatDoorRows
import Derived.WalkKit
import Derived.LaidEql
import Derived.Stop.Asserts
import Derived.RowKitTokens
namespace Go.Proofs.YtnmbjmocnafekaaGreatDoor
open Go.RowKit Go.Extern.Stop Go.Stop Go.Extern

/-- errors.As(nil, target). -/
theorem asG_nil (t : Value) (w : World) :
    Calls Tryz.prog 45 #[.nilIface, t] w fun e w' => e = .returned (.bool false) ∧ w' = w := by
  go_enter Tryz.func45, Tryz.ntmps45
  go_wp2
  go_ret
  exact ⟨rfl, rfl⟩

theorem asgV78 (t : Addr) (w : World) : (ReflectliteValue.unpack (.iface 78 (.pointer (some t)))).run Tryz.prog w
    = .ok (.agg #[.pointer (some ⟨11, 78, none⟩), .pointer (some ⟨w.heap.size, 0, none⟩), .int .u64 150]) (w.alloc (.cells #[.pointer (some t)] 78)) := by kernel_rfl
theorem asgT78 (a : Addr) (w : World) : (ReflectliteValue.methodAny (ReflectliteValue.valueError "reflectlite.Value.Type" 0) (fun t _ _ _ => ReflectliteType.toType t) #[.agg #[.pointer (some ⟨11, 78, none⟩), .pointer (some a), .int .u64 150]]).run Tryz.prog w
    = .ok (.iface 210 (.agg #[.pointer (some ⟨11, 78, none⟩)])) w := by kernel_rfl
theorem asgMK (h : Value) (w : World) : (Go.method 475 210 (.agg #[h]) "Kind").run Tryz.prog w = .ok (232, h) w := by kernel_rfl
theorem asgK78 (w : World) : ((ReflectliteType.abiMethod fun t => (fun a : Nat => Value.int IntKind.u8 (a : Int)) <$> Rtype.kind t) #[.pointer (some ⟨11, 78, none⟩)]).run Tryz.prog w = .ok (.int .u8 22) w := by kernel_rfl
theorem asgK76 (w : World) : ((ReflectliteType.abiMethod fun t => (fun a : Nat => Value.int IntKind.u8 (a : Int)) <$> Rtype.kind t) #[.pointer (some ⟨11, 76, none⟩)]).run Tryz.prog w = .ok (.int .u8 25) w := by kernel_rfl
theorem asgRlm (z : Sem Value) (f : TypeId → Addr → Nat → Nat → Sem Value) (v : Value) :
    ReflectliteValue.method z f #[v] = (do match ← ReflectliteValue.parts v with | none => z | some (t, a, fl) => f t a fl (fl % 32)) := rfl
theorem asgP78 (a : Addr) (w : World) : (ReflectliteValue.parts (.agg #[.pointer (some ⟨11, 78, none⟩), .pointer (some a), .int .u64 150])).run Tryz.prog w = .ok (some (78, a, 150)) w := by kernel_rfl
theorem asgN78 (a p : Addr) (W : World) (ha : W.cell? a = some (.pointer (some p))) :
    (ReflectliteValue.method (ReflectliteValue.valueError "reflectlite.Value.IsNil" 0) ReflectliteValue.isNil #[.agg #[.pointer (some ⟨11, 78, none⟩), .pointer (some a), .int .u64 150]]).run Tryz.prog W = .ok (.bool false) W := by
  rw [asgRlm]
  simp only [Sem.run_bind, asgP78, Result.andThen]
  simp [ReflectliteValue.isNil, loadVar, isAgg, underlying, Tryz.underlying78, ha, Result.andThen]
theorem asgME (h : Value) (w : World) : (Go.method 475 210 (.agg #[h]) "Elem").run Tryz.prog w = .ok (299, .agg #[h]) w := by kernel_rfl
theorem asgMI (h : Value) (w : World) : (Go.method 475 210 (.agg #[h]) "Implements").run Tryz.prog w = .ok (300, .agg #[h]) w := by kernel_rfl
theorem asgMA (h : Value) (w : World) : (Go.method 475 210 (.agg #[h]) "AssignableTo").run Tryz.prog w = .ok (297, .agg #[h]) w := by kernel_rfl
theorem asgE78 (w : World) : (ReflectliteType.method ReflectliteType.elem #[.agg #[.pointer (some ⟨11, 78, none⟩)]]).run Tryz.prog w = .ok (.iface 210 (.agg #[.pointer (some ⟨11, 76, none⟩)])) w := by kernel_rfl
theorem asgI76 (w : World) : (ReflectliteType.relation "Implements" ReflectliteType.implements_ #[.agg #[.pointer (some ⟨11, 76, none⟩)], .iface 210 (.agg #[.pointer (some ⟨11, 65, none⟩)])]).run Tryz.prog w = .ok (.bool true) w := by kernel_rfl
theorem asgO76 (v : Value) (w : World) : (ReflectliteType.typeOf #[.iface 76 v]).run Tryz.prog w = .ok (.iface 210 (.agg #[.pointer (some ⟨11, 76, none⟩)])) w := by kernel_rfl
theorem asgOE (v : Value) (w : World) : (ReflectliteType.typeOf #[.iface 314 v]).run Tryz.prog w = .ok (.iface 210 (.agg #[.pointer (some ⟨11, 314, none⟩)])) w := by kernel_rfl
theorem asgA76 (w : World) : (ReflectliteType.relation "AssignableTo" ReflectliteType.assignableTo #[.agg #[.pointer (some ⟨11, 76, none⟩)], .iface 210 (.agg #[.pointer (some ⟨11, 76, none⟩)])]).run Tryz.prog w = .ok (.bool true) w := by kernel_rfl
theorem asgAE (w : World) : (ReflectliteType.relation "AssignableTo" ReflectliteType.assignableTo #[.agg #[.pointer (some ⟨11, 314, none⟩)], .iface 210 (.agg #[.pointer (some ⟨11, 76, none⟩)])]).run Tryz.prog w = .ok (.bool false) w := by kernel_rfl
theorem asgV76 (a b : Value) (w : World) : (ReflectliteValue.unpack (.iface 76 (.agg #[a, b]))).run Tryz.prog w
    = .ok (.agg #[.pointer (some ⟨11, 76, none⟩), .pointer (some ⟨w.heap.size, 0, none⟩), .int .u64 153]) (w.alloc (.cells #[a, b] 76)) := by kernel_rfl
theorem asgEo78 (w : World) : (Rtype.elem? 78).run Tryz.prog w = .ok (some 76) w := by kernel_rfl
theorem asgMk76 (p : Addr) (w : World) : (ReflectliteValue.mk 76 p ReflectliteValue.flagAddr).run Tryz.prog w = .ok (.agg #[.pointer (some ⟨11, 76, none⟩), .pointer (some p), .int .u64 409]) w := by kernel_rfl
theorem asgEv78 (a p : Addr) (W : World) (ha : W.cell? a = some (.pointer (some p))) :
    (ReflectliteValue.method (ReflectliteValue.valueError "reflectlite.Value.Elem" 0) ReflectliteValue.elem #[.agg #[.pointer (some ⟨11, 78, none⟩), .pointer (some a), .int .u64 150]]).run Tryz.prog W
      = .ok (.agg #[.pointer (some ⟨11, 76, none⟩), .pointer (some p), .int .u64 409]) W := by
  rw [asgRlm]
  simp only [Sem.run_bind, asgP78, Result.andThen]
  simp [ReflectliteValue.elem, loadVar, isAgg, underlying, Tryz.underlying78, ha, Result.andThen, asgEo78, asgMk76]
theorem asgRls (v x : Value) : ReflectliteValue.set #[v, x] = (do
    let (some (dst, a, fl), some (src, b, _)) := (← ReflectliteValue.parts v, ← ReflectliteValue.parts x)
      | unsupported (.noEntry "extern/(internal/reflectlite.Value).Set.zeroValue")
    if fl / ReflectliteValue.flagAddr % 2 == 0 then unsupported (.noEntry "extern/(internal/reflectlite.Value).Set.unaddressable")
    let val ← loadVar src b
    if ← Rtype.directlyAssignable dst src then storeVar dst a val
    else if ← Rtype.implements dst src then
      if (← Rtype.kind src) == 20 then
        match val with
        | .nilIface => unsupported (.noEntry "extern/reflectlite: a nil value of one interface type handed on as a value of another")
        | _ => storeVar dst a val
      else storeVar dst a (.iface src val)
    else panicString ("reflectlite.Set: value of type " ++ (← Rtype.spelt src) ++ " is not assignable to type " ++ (← Rtype.spelt dst))
    pure (.tuple #[])) := rfl
theorem asgP76a (a : Addr) (w : World) : (ReflectliteValue.parts (.agg #[.pointer (some ⟨11, 76, none⟩), .pointer (some a), .int .u64 409])).run Tryz.prog w = .ok (some (76, a, 409)) w := by kernel_rfl
theorem asgP76 (a : Addr) (w : World) : (ReflectliteValue.parts (.agg #[.pointer (some ⟨11, 76, none⟩), .pointer (some a), .int .u64 153])).run Tryz.prog w = .ok (some (76, a, 153)) w := by kernel_rfl
theorem asgD76 (w : World) : (Rtype.directlyAssignable 76 76).run Tryz.prog w = .ok true w := by kernel_rfl
theorem asgS76 (w : World) : (sizeOf 76).run Tryz.prog w = .ok 2 w := by kernel_rfl
theorem asgAg (w : World) : (isAgg 76).run Tryz.prog w = .ok true w := by kernel_rfl
theorem asgLd (b : Nat) (x y : Value) (W : World) (h0 : W.cell? ⟨b, 0, none⟩ = some x) (h1 : W.cell? ⟨b, 1, none⟩ = some y) : (loadVar 76 ⟨b, 0, none⟩).run Tryz.prog W = .ok (.agg #[x, y]) W := by
  simp [loadVar, Result.andThen, loadCells, loadCellsFrom, Addr.add, h0, h1]
theorem asgSt (t : Nat) (x y o0 o1 : Value) (W : World) (hx : x.oneCell' = true) (hy : y.oneCell' = true) (h0 : W.cell? ⟨t, 0, none⟩ = some o0) (h1 : W.cell? ⟨t, 1, none⟩ = some o1) (f0 : W.frozen? ⟨t, 0, none⟩ = false) (f1 : W.frozen? ⟨t, 1, none⟩ = false) :
    (storeVar 76 ⟨t, 0, none⟩ (.agg #[x, y])).run Tryz.prog W = .ok () ((W.setCell ⟨t, 0, none⟩ x).setCell ⟨t, 1, none⟩ y) := by
  have e1 : (W.setCell ⟨t, 0, none⟩ x).cell? ⟨t, 1, none⟩ = some o1 := by
    rw [World.cell?_setCell_other W ⟨t, 0, none⟩ ⟨t, 1, none⟩ x (fun h => by cases h)]
    exact h1
  have e2 : (W.setCell ⟨t, 0, none⟩ x).frozen? ⟨t, 1, none⟩ = false := by
    rw [World.frozen?_setCell]
    exact f1
  simp [storeVar, Result.andThen, Value.cells, storeCells, Addr.add]
  rw [run_store Tryz.prog W ⟨t, 0, none⟩ _ _ hx]
  simp [h0, f0]
  rw [run_store Tryz.prog _ ⟨t, 1, none⟩ _ _ hy]
  simp [e1, e2]
theorem asgSet (t b : Nat) (x y o0 o1 : Value) (W : World) (hx : x.oneCell' = true) (hy : y.oneCell' = true) (b0 : W.cell? ⟨b, 0, none⟩ = some x) (b1 : W.cell? ⟨b, 1, none⟩ = some y) (h0 : W.cell? ⟨t, 0, none⟩ = some o0) (h1 : W.cell? ⟨t, 1, none⟩ = some o1) (f0 : W.frozen? ⟨t, 0, none⟩ = false) (f1 : W.frozen? ⟨t, 1, none⟩ = false) :
    (ReflectliteValue.set #[.agg #[.pointer (some ⟨11, 76, none⟩), .pointer (some ⟨t, 0, none⟩), .int .u64 409], .agg #[.pointer (some ⟨11, 76, none⟩), .pointer (some ⟨b, 0, none⟩), .int .u64 153]]).run Tryz.prog W
      = .ok (.tuple #[]) ((W.setCell ⟨t, 0, none⟩ x).setCell ⟨t, 1, none⟩ y) := by
  rw [asgRls]
  simp only [Sem.run_bind, asgP76a, asgP76, Result.andThen]
  simp [ReflectliteValue.flagAddr, asgLd b x y W b0 b1, Result.andThen, asgD76, asgSt t x y o0 o1 W hx hy h0 h1 f0 f1]
theorem asgNoAs (v : Value) (xT : TypeId) (w : World) : (Instr.typeAssert (.iface 314 v) xT 215 true).run Tryz.prog w = .ok (.tuple #[.nilIface, .bool false]) w := run_typeAssert_lacksB Tryz.underlying215 (by kernel_rfl) (by kernel_rfl) v xT w
theorem asgNoU (v : Value) (xT : TypeId) (w : World) : (Instr.typeAssert (.iface 314 v) xT 218 true).run Tryz.prog w = .ok (.tuple #[.nilIface, .bool false]) w := run_typeAssert_lacksB Tryz.underlying218 (by kernel_rfl) (by kernel_rfl) v xT w
theorem asgNoUs (v : Value) (xT : TypeId) (w : World) : (Instr.typeAssert (.iface 314 v) xT 219 true).run Tryz.prog w = .ok (.tuple #[.nilIface, .bool false]) w := run_typeAssert_lacksB Tryz.underlying219 (by kernel_rfl) (by kernel_rfl) v xT w
end Go.Proofs.YtnmbjmocnafekaaGreatDoor

namespace Go.Proofs.YtnmbjmocnafekaaGreatDoor
open Go.RowKit Go.Extern.Stop Go.Stop Go.Extern

/-- The world with the four blocks that errors.As makes at a gapFault. -/
def asW (w : World) (t : Nat) (x y : Value) : World :=
  (((w.alloc (.cells #[.pointer (some ⟨t, 0, none⟩)] 78)).alloc (.cells #[.pointer (some ⟨11, 78, none⟩), .pointer (some ⟨w.heap.size, 0, none⟩), .int .u64 150] 129)).alloc (.cells #[.pointer (some ⟨11, 78, none⟩), .pointer (some ⟨w.heap.size, 0, none⟩), .int .u64 150] 129)).alloc (.cells #[x, y] 76)
/-- The same, ahead of the last. -/
def asW3 (w : World) (t : Nat) : World :=
  ((w.alloc (.cells #[.pointer (some ⟨t, 0, none⟩)] 78)).alloc (.cells #[.pointer (some ⟨11, 78, none⟩), .pointer (some ⟨w.heap.size, 0, none⟩), .int .u64 150] 129)).alloc (.cells #[.pointer (some ⟨11, 78, none⟩), .pointer (some ⟨w.heap.size, 0, none⟩), .int .u64 150] 129)

set_option maxRecDepth 100000 in
set_option maxHeartbeats 4000000 in
theorem asG_hit (t : Nat) (x y o0 o1 : Value) (w : World) (hx : x.oneCell' = true) (hy : y.oneCell' = true) (hg : w.cell? ⟨1, 0, none⟩ = some (.iface 210 (.agg #[.pointer (some ⟨11, 65, none⟩)]))) (hgl : 1 < w.heap.size) (htl : t < w.heap.size) (h0 : w.cell? ⟨t, 0, none⟩ = some o0) (h1 : w.cell? ⟨t, 1, none⟩ = some o1) (f0 : w.frozen? ⟨t, 0, none⟩ = false) (f1 : w.frozen? ⟨t, 1, none⟩ = false) :
    Calls Tryz.prog 45 #[.iface 76 (.agg #[x, y]), .iface 78 (.pointer (some ⟨t, 0, none⟩))] w fun ev w' => ev = .returned (.bool true) ∧ w' = ((asW w t x y).setCell ⟨t, 0, none⟩ x).setCell ⟨t, 1, none⟩ y := by
  have h6 := @run_callFunc_extern Tryz.prog 81 _ (fun args => ReflectliteValue.unpack (args.getD 0 (.tuple #[]))) Tryz.func81 (by kernel_rfl) (by kernel_rfl) (by kernel_rfl) (by kernel_rfl)
  have h7 := @run_callFunc_extern Tryz.prog 82 _ (ReflectliteValue.methodAny (ReflectliteValue.valueError "reflectlite.Value.Type" 0) (fun t _ _ _ => ReflectliteType.toType t)) Tryz.func82 (by kernel_rfl) (by kernel_rfl) (by kernel_rfl) (by kernel_rfl)
  have h8 := @run_callFunc_extern Tryz.prog 83 _ (ReflectliteValue.method (ReflectliteValue.valueError "reflectlite.Value.IsNil" 0) ReflectliteValue.isNil) Tryz.func83 (by kernel_rfl) (by kernel_rfl) (by kernel_rfl) (by kernel_rfl)
  have h27 := @run_callFunc_extern Tryz.prog 232 _ (ReflectliteType.abiMethod fun t => do pure (.int .u8 (← Rtype.kind t))) Tryz.func232 (by kernel_rfl) (by kernel_rfl) (by kernel_rfl) (by kernel_rfl)
  have h37 := @run_callFunc_extern Tryz.prog 299 _ (ReflectliteType.method ReflectliteType.elem) Tryz.func299 (by kernel_rfl) (by kernel_rfl) (by kernel_rfl) (by kernel_rfl)
  have h38 := @run_callFunc_extern Tryz.prog 300 _ (ReflectliteType.relation "Implements" ReflectliteType.implements_) Tryz.func300 (by kernel_rfl) (by kernel_rfl) (by kernel_rfl) (by kernel_rfl)
  have h10 := @run_callFunc_extern Tryz.prog 126 _ ReflectliteType.typeOf Tryz.func126 (by kernel_rfl) (by kernel_rfl) (by kernel_rfl) (by kernel_rfl)
  have h35 := @run_callFunc_extern Tryz.prog 297 _ (ReflectliteType.relation "AssignableTo" ReflectliteType.assignableTo) Tryz.func297 (by kernel_rfl) (by kernel_rfl) (by kernel_rfl) (by kernel_rfl)
  have h11 := @run_callFunc_extern Tryz.prog 127 _ (ReflectliteValue.method (ReflectliteValue.valueError "reflectlite.Value.Elem" 0) ReflectliteValue.elem) Tryz.func127 (by kernel_rfl) (by kernel_rfl) (by kernel_rfl) (by kernel_rfl)
  have h12 := @run_callFunc_extern Tryz.prog 128 _ ReflectliteValue.set Tryz.func128 (by kernel_rfl) (by kernel_rfl) (by kernel_rfl) (by kernel_rfl)
  have tO := asgO76
  have mA := asgMA
  have a25 := asgA76
  have v25 := asgV76 x y
  have f6 := asgV78
  have f7 := asgT78
  have mK := asgMK
  have mE := asgME
  have mI := asgMI
  have k27 := asgK78
  have k25 := asgK76
  have e27 := asgE78
  have i25 := asgI76
  have n8 := asgN78 ⟨w.heap.size, 0, none⟩ ⟨t, 0, none⟩ ((w.alloc (.cells #[.pointer (some ⟨t, 0, none⟩)] 78)).alloc (.cells #[.pointer (some ⟨11, 78, none⟩), .pointer (some ⟨w.heap.size, 0, none⟩), .int .u64 150] 129)) (by simp)
  have hg2 : ((w.alloc (.cells #[.pointer (some ⟨t, 0, none⟩)] 78)).alloc (.cells #[.pointer (some ⟨11, 78, none⟩), .pointer (some ⟨w.heap.size, 0, none⟩), .int .u64 150] 129)).cell? ⟨1, 0, none⟩ = some (.iface 210 (.agg #[.pointer (some ⟨11, 65, none⟩)])) := by
    rw [World.cell?_alloc_lt _ _ ⟨1, 0, none⟩ (by simp; omega), World.cell?_alloc_lt _ _ ⟨1, 0, none⟩ hgl]; exact hg
  have el := asgEv78 ⟨w.heap.size, 0, none⟩ ⟨t, 0, none⟩ (asW3 w t) (by unfold asW3; rw [World.cell?_alloc_lt _ _ ⟨w.heap.size, 0, none⟩ (by simp; omega)]; simp)
  have hc : ∀ j, (asW w t x y).cell? ⟨t, j, none⟩ = w.cell? ⟨t, j, none⟩ := fun j => by
    unfold asW
    rw [World.cell?_alloc_lt _ _ ⟨t, j, none⟩ (by simp; omega), World.cell?_alloc_lt _ _ ⟨t, j, none⟩ (by simp; omega), World.cell?_alloc_lt _ _ ⟨t, j, none⟩ (by simp; omega), World.cell?_alloc_lt _ _ ⟨t, j, none⟩ htl]
  have hf : ∀ j, (asW w t x y).frozen? ⟨t, j, none⟩ = w.frozen? ⟨t, j, none⟩ := fun j => by
    unfold asW
    rw [World.frozen?_alloc_old _ _ ⟨t, j, none⟩ (by simp; omega), World.frozen?_alloc_old _ _ ⟨t, j, none⟩ (by simp; omega), World.frozen?_alloc_old _ _ ⟨t, j, none⟩ (by simp; omega), World.frozen?_alloc_old _ _ ⟨t, j, none⟩ (Nat.ne_of_lt htl)]
  have st := asgSet t (w.heap.size + 1 + 1 + 1) x y o0 o1 (asW w t x y) hx hy
    (by unfold asW; rw [World.cell?_alloc_at _ _ _ _ (by simp)]; rfl) (by unfold asW; rw [World.cell?_alloc_at _ _ _ _ (by simp)]; rfl)
    ((hc 0).trans h0) ((hc 1).trans h1) ((hf 0).trans f0) ((hf 1).trans f1)
  unfold asW3 at el
  unfold asW at st ⊢
  clear hc hf
  go_enter Tryz.func45, Tryz.ntmps45
  go_wp2
  refine wp_loop_rounds 1 ?_
  rw [rounds_succ]
  go_wp2
  go_ret
  exact ⟨rfl, rfl⟩

/-- The world with the three blocks that errors.As makes at what is not found. -/
def asW0 (w : World) (t : Nat) : World :=
  ((w.alloc (.cells #[.pointer (some ⟨t, 0, none⟩)] 78)).alloc (.cells #[.pointer (some ⟨11, 78, none⟩), .pointer (some ⟨w.heap.size, 0, none⟩), .int .u64 150] 129)).alloc (.cells #[.pointer (some ⟨11, 78, none⟩), .pointer (some ⟨w.heap.size, 0, none⟩), .int .u64 150] 129)

set_option maxRecDepth 100000 in
set_option maxHeartbeats 4000000 in
theorem asG_miss (t : Nat) (v : Value) (w : World) (hg : w.cell? ⟨1, 0, none⟩ = some (.iface 210 (.agg #[.pointer (some ⟨11, 65, none⟩)]))) (hgl : 1 < w.heap.size) :
    Calls Tryz.prog 45 #[.iface 314 v, .iface 78 (.pointer (some ⟨t, 0, none⟩))] w fun ev w' => ev = .returned (.bool false) ∧ w' = asW0 w t := by
  have h6 := @run_callFunc_extern Tryz.prog 81 _ (fun args => ReflectliteValue.unpack (args.getD 0 (.tuple #[]))) Tryz.func81 (by kernel_rfl) (by kernel_rfl) (by kernel_rfl) (by kernel_rfl)
  have h7 := @run_callFunc_extern Tryz.prog 82 _ (ReflectliteValue.methodAny (ReflectliteValue.valueError "reflectlite.Value.Type" 0) (fun t _ _ _ => ReflectliteType.toType t)) Tryz.func82 (by kernel_rfl) (by kernel_rfl) (by kernel_rfl) (by kernel_rfl)
  have h8 := @run_callFunc_extern Tryz.prog 83 _ (ReflectliteValue.method (ReflectliteValue.valueError "reflectlite.Value.IsNil" 0) ReflectliteValue.isNil) Tryz.func83 (by kernel_rfl) (by kernel_rfl) (by kernel_rfl) (by kernel_rfl)
  have h27 := @run_callFunc_extern Tryz.prog 232 _ (ReflectliteType.abiMethod fun t => do pure (.int .u8 (← Rtype.kind t))) Tryz.func232 (by kernel_rfl) (by kernel_rfl) (by kernel_rfl) (by kernel_rfl)
  have h37 := @run_callFunc_extern Tryz.prog 299 _ (ReflectliteType.method ReflectliteType.elem) Tryz.func299 (by kernel_rfl) (by kernel_rfl) (by kernel_rfl) (by kernel_rfl)
  have h38 := @run_callFunc_extern Tryz.prog 300 _ (ReflectliteType.relation "Implements" ReflectliteType.implements_) Tryz.func300 (by kernel_rfl) (by kernel_rfl) (by kernel_rfl) (by kernel_rfl)
  have h10 := @run_callFunc_extern Tryz.prog 126 _ ReflectliteType.typeOf Tryz.func126 (by kernel_rfl) (by kernel_rfl) (by kernel_rfl) (by kernel_rfl)
  have h35 := @run_callFunc_extern Tryz.prog 297 _ (ReflectliteType.relation "AssignableTo" ReflectliteType.assignableTo) Tryz.func297 (by kernel_rfl) (by kernel_rfl) (by kernel_rfl) (by kernel_rfl)
  have tO := asgOE
  have mA := asgMA
  have aE := asgAE
  have f6 := asgV78
  have f7 := asgT78
  have mK := asgMK
  have mE := asgME
  have mI := asgMI
  have k27 := asgK78
  have k25 := asgK76
  have e27 := asgE78
  have i25 := asgI76
  have nA := asgNoAs
  have nU := asgNoU
  have nUs := asgNoUs
  have n8 := asgN78 ⟨w.heap.size, 0, none⟩ ⟨t, 0, none⟩ ((w.alloc (.cells #[.pointer (some ⟨t, 0, none⟩)] 78)).alloc (.cells #[.pointer (some ⟨11, 78, none⟩), .pointer (some ⟨w.heap.size, 0, none⟩), .int .u64 150] 129)) (by simp)
  have hg2 : ((w.alloc (.cells #[.pointer (some ⟨t, 0, none⟩)] 78)).alloc (.cells #[.pointer (some ⟨11, 78, none⟩), .pointer (some ⟨w.heap.size, 0, none⟩), .int .u64 150] 129)).cell? ⟨1, 0, none⟩ = some (.iface 210 (.agg #[.pointer (some ⟨11, 65, none⟩)])) := by
    rw [World.cell?_alloc_lt _ _ ⟨1, 0, none⟩ (by simp; omega), World.cell?_alloc_lt _ _ ⟨1, 0, none⟩ hgl]; exact hg
  unfold asW0
  go_enter Tryz.func45, Tryz.ntmps45
  go_wp2
  refine wp_loop_rounds 1 ?_
  rw [rounds_succ]
  go_wp2
  go_ret
  exact ⟨rfl, rfl⟩
end Go.Proofs.YtnmbjmocnafekaaGreatDoor

