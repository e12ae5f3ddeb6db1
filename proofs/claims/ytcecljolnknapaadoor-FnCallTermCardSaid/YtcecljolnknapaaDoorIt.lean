/-
  The contract of the program's TypesValid.
-/
import Derived.Test.YtcecljolnknapaaDoorIv
namespace Go.Proofs.YtcecljolnknapaaDoor
open Go.RowKit

end Go.Proofs.YtcecljolnknapaaDoor
