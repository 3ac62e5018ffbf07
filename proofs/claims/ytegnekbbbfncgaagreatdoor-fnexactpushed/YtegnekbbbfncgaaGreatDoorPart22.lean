/-
  A part of the proof: ShpS1.
-/
import Derived.Test.YtegnekbbbfncgaaGreatDoorPart21
import Derived.Test.YtegnekbbbfncgaaGreatDoorPart7
import Derived.Test.YtegnekbbbfncgaaGreatDoorPart11

/-
  The contract of the model's step of a shape.
-/
namespace Go.Proofs.YtegnekbbbfncgaaGreatDoor
open Go.ChangeShapes Go.WideShapes Go.ChangeAt Go.RowKit
attribute [local go_sem ↓] Go.wp_at_zero Go.wp_at_succ
attribute [local simp] World.cell?_alloc_past World.cell?_alloc_at World.frozen?_alloc_at cell_far cell_off cell_here World.frozen?_alloc_past

end Go.Proofs.YtegnekbbbfncgaaGreatDoor
