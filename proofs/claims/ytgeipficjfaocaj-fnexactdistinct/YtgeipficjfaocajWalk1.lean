/-
  The contracts of the small functions: which texts are letters, which numbers fit.
-/
import Derived.Test.YtgeipficjfaocajMem
import Derived.Test.YtgeipficjfaocajMath
namespace Go.Proofs.Ytgeipficjfaocaj
open Go.ChangeShapes Go.WideShapes Go.ChangeAt Go.RowKit

end Go.Proofs.Ytgeipficjfaocaj
