/-
  The contracts of the model's SameAs and Below.
-/
import Derived.Test.YtdmiiklegnokjaaRank1
namespace Go.Proofs.Ytdmiiklegnokjaa
open Go.ChangeShapes Go.WideShapes Go.ChangeAt Go.RowKit
attribute [local go_sem ↓] Go.wp_at_zero Go.wp_at_succ

/-- Are both right, and is one none? -/
def nonesB (k1 n1 : Int) (t1 : ByteArray) (k2 n2 : Int) (t2 : ByteArray) : Bool := (okB k1 n1 t1 && okB k2 n2 t2) && (k1 == 0 || k2 == 0)
/-- Are both right, and of one kind, or is one none? -/
def likeB (k1 n1 : Int) (t1 : ByteArray) (k2 n2 : Int) (t2 : ByteArray) : Bool := (okB k1 n1 t1 && okB k2 n2 t2) && ((k1 == 0 || k2 == 0) || k1 == k2)
/-- What comes of two cells that are held against each other: kind, number, fault. -/
def heldR (like none yes : Bool) : Int × Int × Int := if like = false then (0, 0, 3) else if none = true then (0, 0, 0) else (3, if yes = true then 1 else 0, 0)
/-- What SameAs comes to: kind, number, fault. -/
def sameR (k1 n1 : Int) (t1 : ByteArray) (k2 n2 : Int) (t2 : ByteArray) : Int × Int × Int := heldR (likeB k1 n1 t1 k2 n2 t2) (nonesB k1 n1 t1 k2 n2 t2) (sameB k1 n1 t1 k2 n2 t2)
/-- What Below comes to: kind, number, fault. -/
def belowR (k1 n1 : Int) (t1 : ByteArray) (k2 n2 : Int) (t2 : ByteArray) : Int × Int × Int := heldR (likeB k1 n1 t1 k2 n2 t2) (nonesB k1 n1 t1 k2 n2 t2) (lessB k1 n1 t1 k2 n2 t2)

end Go.Proofs.Ytdmiiklegnokjaa
