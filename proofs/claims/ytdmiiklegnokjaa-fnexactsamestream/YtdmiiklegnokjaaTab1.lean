/-
  Tables: how a table lies in memory, what a right one is, without any program, and the contract of the model's TableOk.
-/
import Derived.Test.YtdmiiklegnokjaaNames2
import Derived.Test.YtdmiiklegnokjaaLists4
namespace Go.Proofs.Ytdmiiklegnokjaa
open Go.ChangeShapes Go.WideShapes Go.ChangeAt Go.RowKit
attribute [local go_sem ↓] Go.wp_at_zero Go.wp_at_succ
attribute [local simp] World.cell?_alloc_past World.cell?_alloc_at World.frozen?_alloc_at cell_far cell_off cell_here World.frozen?_alloc_past

/-- A table: its name, its columns, its rows. -/
abbrev TB := ByteArray × List ByteArray × List (List CT)
/-- The columns and rows of a table lie where it says. -/
structure TabAt (w : World) (ca : Option Addr) (cc : Nat) (ra : Option Addr) (t : TB) : Prop where
  cols : StrsAt w ca t.2.1
  fit : FitS t.2.1
  len : t.2.1.length ≤ maxLen
  cap : t.2.1.length ≤ cc
  nilC : ca = none → cc = 0
  rows : RowsAt w ra t.2.2
  lenR : t.2.2.length ≤ maxLen
  name : t.1.size ≤ maxLen
theorem TabAt.below {w w' : World} {ca : Option Addr} {cc : Nat} {ra : Option Addr} {t : TB} (h : TabAt w ca cc ra t) (hb : Below w.heap.size w w') : TabAt w' ca cc ra t :=
  ⟨h.cols.below hb, h.fit, h.len, h.cap, h.nilC, h.rows.below hb, h.lenR, h.name⟩

def rowOk (n : Nat) (r : List CT) : Bool := decide (r.length = n) && r.all okC
/-- Is it a right table? -/
def tableB (t : TB) : Bool := (nameB t.1 && (namesB t.2.1 1 6 && decide (t.2.2.length ≤ 60))) && t.2.2.all (rowOk t.2.1.length)

end Go.Proofs.Ytdmiiklegnokjaa
