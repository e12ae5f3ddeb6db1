/-
  sync.Once in one goroutine, the lock free and nothing done yet: the parts of its slow road, each a contract of its own.
-/
import Derived.Test.YtfcekbjoagogdaaDoorRows
import Derived.Test.YtfcekbjoagogdaaDoorOwn
import Derived.Tactics
import Derived.Tactics2
import Derived.Defers
import Derived.Laws.Pointers
import Derived.Laws.LoneSync
import Derived.RegionTactic
import Derived.RegionCalls
import Derived.ChangeAlike
namespace Go.Proofs.YtfcekbjoagogdaaDoor
open Go.RowKit

end Go.Proofs.YtfcekbjoagogdaaDoor
