/-
  The contracts of the laws' own helpers (a cell taken over, its size, two cells held against each other) and of both functions that ask whether a cell is right.
-/
import Derived.Test.YtmhamgcjmehnnaaDoorWalk1
namespace Go.Proofs.YtmhamgcjmehnnaaDoor
open Go.ChangeShapes Go.WideShapes Go.ChangeAt Go.RowKit

end Go.Proofs.YtmhamgcjmehnnaaDoor
