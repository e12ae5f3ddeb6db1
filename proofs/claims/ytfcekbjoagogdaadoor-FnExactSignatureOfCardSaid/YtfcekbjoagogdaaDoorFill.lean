/-
  The table that a coercion makes once: filled by the function that is handed to the Once.
-/
import Derived.Test.YtfcekbjoagogdaaDoorOnce
import Derived.Outline
import Derived.Handy
import Derived.StillTailTactics
import Derived.Laws.CopyOwn
namespace Go.Proofs.YtfcekbjoagogdaaDoor
open Go.RowKit

/-- What the table holds. -/
def tabOf (zs : List Int) : List Value := zs.map (Value.int .i64) ++ List.replicate (4 - zs.length) (.int .i64 (-1))

end Go.Proofs.YtfcekbjoagogdaaDoor
