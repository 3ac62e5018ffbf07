/-
  The contracts of the law's helpers on tables: the measure, and two that are one held against each other.
-/
import Derived.Test.YtdmiiklegnokjaaTab1
namespace Go.Proofs.Ytdmiiklegnokjaa
open Go.ChangeShapes Go.WideShapes Go.ChangeAt Go.RowKit
attribute [local go_sem ↓] Go.wp_at_zero Go.wp_at_succ
attribute [local simp] World.cell?_alloc_past World.cell?_alloc_at World.frozen?_alloc_at cell_far cell_off cell_here World.frozen?_alloc_past

end Go.Proofs.Ytdmiiklegnokjaa
