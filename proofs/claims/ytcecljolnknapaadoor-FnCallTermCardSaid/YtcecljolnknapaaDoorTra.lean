/-
  The program's type assertions on nodes.
-/
import Derived.Test.YtcecljolnknapaaDoorTrr
import Derived.BigQuiet
namespace Go.Proofs.YtcecljolnknapaaDoor
open Go.RowKit

theorem asCC (x : Value) (w : World) : (Instr.typeAssert (.iface 52 x) 47 52 true).run Tryd.prog w = .ok (.tuple #[x, .bool true]) w := by
  simp [Instr.typeAssert, run_underlying Tryd.underlying52]
theorem asLC (x : Value) (w : World) : (Instr.typeAssert (.iface 58 x) 47 52 true).run Tryd.prog w = .ok (.tuple #[.agg #[.string ⟨#[]⟩, .slice none 0 0], .bool false]) w := by
  simp [Instr.typeAssert, run_underlying Tryd.underlying52, Tryd.zeroValue52]
theorem asNC (w : World) : (Instr.typeAssert .nilIface 47 52 true).run Tryd.prog w = .ok (.tuple #[.agg #[.string ⟨#[]⟩, .slice none 0 0], .bool false]) w := by
  simp [Instr.typeAssert, run_underlying Tryd.underlying52, Tryd.zeroValue52]
theorem asLL (x : Value) (w : World) : (Instr.typeAssert (.iface 58 x) 47 58 true).run Tryd.prog w = .ok (.tuple #[x, .bool true]) w := by
  simp [Instr.typeAssert, run_underlying Tryd.underlying58]
theorem asCL (x : Value) (w : World) : (Instr.typeAssert (.iface 52 x) 47 58 true).run Tryd.prog w = .ok (.tuple #[.agg #[.int .i64 0, .int .i64 0], .bool false]) w := by
  simp [Instr.typeAssert, run_underlying Tryd.underlying58, Tryd.zeroValue58]
theorem asNL (w : World) : (Instr.typeAssert .nilIface 47 58 true).run Tryd.prog w = .ok (.tuple #[.agg #[.int .i64 0, .int .i64 0], .bool false]) w := by
  simp [Instr.typeAssert, run_underlying Tryd.underlying58, Tryd.zeroValue58]
end Go.Proofs.YtcecljolnknapaaDoor
