/-
  The contract of the law's helper that looks whether the marks of a list of cells are still there.
-/
import Derived.Test.YtdmiiklegnokjaaLists6
namespace Go.Proofs.Ytdmiiklegnokjaa
open Go.ChangeShapes Go.WideShapes Go.ChangeAt Go.RowKit
attribute [local go_sem ↓] Go.wp_at_zero Go.wp_at_succ

end Go.Proofs.Ytdmiiklegnokjaa
