/-
  The contracts of the functions that mark coercions and types, and look whether the marks hold.
-/
import Derived.Test.YtplpnammboofiaaMark
namespace Go.Proofs.Ytplpnammboofiaa
open Go.RowKit

end Go.Proofs.Ytplpnammboofiaa
