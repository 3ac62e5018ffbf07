/-
  A part of the proof: LaidCol.
-/
import Derived.Test.YtegnekbbbfncgaaGreatDoorRows
import Derived.Test.YtegnekbbbfncgaaGreatDoorPart22
import Derived.Test.YtegnekbbbfncgaaGreatDoorPart23
import Derived.OpenVars
import Derived.ChangeVars

/-
  From the row's condition on the listed variables to what the walks ask of them, where the program's sentinel for a column that is not there is listed too.
-/
namespace Go.Proofs.YtegnekbbbfncgaaGreatDoor
open Go.ChangeShapes Go.WideShapes Go.ChangeAt Go.RowKit

theorem gCol : Tryz.prog.globalNamed "loop.example/g00536/impl.errNoColumn" = some 1 := by kernel_rfl
theorem gColT : (Tryz.prog.globals[1]?).map (·.type) = some 99 := by kernel_rfl
theorem col_of {W : World} {rest : List (String × DataW Unit)} (h : laidMet Tryz.prog (("loop.example/g00536/impl.errNoColumn", Rows.laid_loop_example_g00536_impl_errNoColumn) :: rest) W) : ColAt W := by
  unfold Rows.laid_loop_example_g00536_impl_errNoColumn at h
  obtain ⟨a, s, hv, _⟩ := laid_sentinel h gCol gColT Tryz.underlying99 row_err Tryz.underlying398 Tryz.underlying400 rfl rfl Tryz.underlying9 (by kernel_rfl) (by kernel_rfl)
  have hc : W.cell? ⟨1, 0, none⟩ = some (.iface 398 (.pointer (some a))) := by simpa using World.var?_cell gCol hv 0
  refine ⟨?_, a, hc⟩
  by_cases hl : 1 < W.heap.size
  · exact hl
  · simp [World.cell?, Array.getElem?_eq_none (Nat.le_of_not_lt hl)] at hc
end Go.Proofs.YtegnekbbbfncgaaGreatDoor
