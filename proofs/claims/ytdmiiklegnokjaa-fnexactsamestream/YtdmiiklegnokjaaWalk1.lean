/-
  The contracts of the small functions: which texts are letters, which numbers fit.
-/
import Derived.Test.YtdmiiklegnokjaaMem
import Derived.Test.YtdmiiklegnokjaaMath
namespace Go.Proofs.Ytdmiiklegnokjaa
open Go.ChangeShapes Go.WideShapes Go.ChangeAt Go.RowKit

end Go.Proofs.Ytdmiiklegnokjaa
