/-
  The contract of the model's TypesValid.
-/
import Derived.Test.YtcecljolnknapaaDoorValid
namespace Go.Proofs.YtcecljolnknapaaDoor
open Go.RowKit

end Go.Proofs.YtcecljolnknapaaDoor
