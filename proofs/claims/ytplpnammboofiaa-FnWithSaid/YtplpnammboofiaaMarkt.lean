/-
  The contracts of the functions that mark types, and look whether the marks hold.
-/
import Derived.Test.YtplpnammboofiaaMarkc
namespace Go.Proofs.Ytplpnammboofiaa
open Go.RowKit

end Go.Proofs.Ytplpnammboofiaa
