/-
  The contracts of the small functions: which texts are letters, which numbers fit.
-/
import Derived.Test.YtgeipficjfaocabMem
import Derived.Test.YtgeipficjfaocabMath
namespace Go.Proofs.Ytgeipficjfaocab
open Go.ChangeShapes Go.WideShapes Go.ChangeAt Go.RowKit

end Go.Proofs.Ytgeipficjfaocab
