/-
  What every walk over cells uses: both questions whether a cell is right with the answer as a letter, new blocks in later worlds, cells written and read again.
-/
import Derived.Test.YtmhamgcjmehnnaaDoorWalk4
import Derived.Deep.QuietTactic
import Derived.BigQuiet
import Derived.Deep.RegionHeld3
import Derived.Deep.DeepCutAuto
import Derived.Deep.DrawnRows
namespace Go.Proofs.YtmhamgcjmehnnaaDoor
open Go.ChangeShapes Go.WideShapes Go.ChangeAt Go.RowKit

end Go.Proofs.YtmhamgcjmehnnaaDoor
