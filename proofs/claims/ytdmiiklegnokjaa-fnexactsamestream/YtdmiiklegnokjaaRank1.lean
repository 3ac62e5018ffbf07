/-
  The contracts of the model's order on cells.
-/
import Derived.Test.YtdmiiklegnokjaaBase
namespace Go.Proofs.Ytdmiiklegnokjaa
open Go.ChangeShapes Go.WideShapes Go.ChangeAt Go.RowKit
attribute [local go_sem ↓] Go.wp_at_zero Go.wp_at_succ

/-- Is the one cell less than the other? By kind, then by number, then by text. -/
def lessB (k1 n1 : Int) (t1 : ByteArray) (k2 n2 : Int) (t2 : ByteArray) : Bool :=
  if (k1 != k2) = true then decide (k1 < k2) else if (n1 != n2) = true then decide (n1 < n2) else Op.bytesLess t1.toList t2.toList

end Go.Proofs.Ytdmiiklegnokjaa
