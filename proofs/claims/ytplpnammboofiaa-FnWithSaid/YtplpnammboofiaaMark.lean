/-
  The contracts of the functions that mark a result's memory and look whether the marks hold: numbers in one slice.
-/
import Derived.Test.YtplpnammboofiaaRows
import Derived.Test.YtplpnammboofiaaOwn
import Derived.Outline
import Derived.Handy
namespace Go.Proofs.Ytplpnammboofiaa
open Go.RowKit

end Go.Proofs.Ytplpnammboofiaa
