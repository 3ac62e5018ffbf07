/-
  The contracts of the program's own question whether a cell is right: by its shape.
-/
import Derived.Test.YtdmiiklegnokjaaEql
import Derived.Deep.RegionWith
namespace Go.Proofs.Ytdmiiklegnokjaa
open Go.ChangeShapes Go.WideShapes Go.ChangeAt Go.RowKit

end Go.Proofs.Ytdmiiklegnokjaa
