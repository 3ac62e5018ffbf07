/-
  The contracts of the program's own question whether a cell is right: by its shape.
-/
import Derived.Test.YtgeipficjfaocabEql
import Derived.Deep.RegionWith
namespace Go.Proofs.Ytgeipficjfaocab
open Go.ChangeShapes Go.WideShapes Go.ChangeAt Go.RowKit

end Go.Proofs.Ytgeipficjfaocab
