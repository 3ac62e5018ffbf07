/-
  The contracts of the program's own question whether a cell is right: by its shape.
-/
import Derived.Test.YtmhamgcjmehnnaaDoorEql
import Derived.Deep.RegionWith
namespace Go.Proofs.YtmhamgcjmehnnaaDoor
open Go.ChangeShapes Go.WideShapes Go.ChangeAt Go.RowKit

end Go.Proofs.YtmhamgcjmehnnaaDoor
