/-
  The program's question whether a cell is right answers as it should, at every cell.
-/
import Derived.Test.YtmhamgcjmehnnaaDoorWalk3
namespace Go.Proofs.YtmhamgcjmehnnaaDoor
open Go.ChangeShapes Go.WideShapes Go.ChangeAt Go.RowKit

theorem toList_empty : (⟨#[]⟩ : ByteArray).toList = [] := by rw [ByteArray.toList_eq]
theorem same0 (n : Int) (t : ByteArray) : okB 0 n t = sameB 0 0 ⟨#[]⟩ 0 n t := by
  rw [Bool.eq_iff_iff, sameB_eq]
  unfold okB
  rw [if_pos rfl, Bool.and_eq_true, beq_iff_eq, List.isEmpty_iff]
  exact ⟨fun ⟨h1, h2⟩ => ⟨rfl, h1.symm, bytes_eq (by rw [h2, toList_empty])⟩, fun ⟨_, h1, h2⟩ => ⟨h1.symm, by rw [← h2, toList_empty]⟩⟩
theorem same1 (n : Int) (t : ByteArray) (k : Int) : t.toList.isEmpty = sameB k n ⟨#[]⟩ k n t := by
  rw [Bool.eq_iff_iff, sameB_eq, List.isEmpty_iff]
  exact ⟨fun h2 => ⟨rfl, rfl, bytes_eq (by rw [h2, toList_empty])⟩, fun ⟨_, _, h2⟩ => by rw [← h2, toList_empty]⟩
theorem same2 (n : Int) (t : ByteArray) (k : Int) : (n == 0) = sameB k 0 t k n t := by
  rw [Bool.eq_iff_iff, sameB_eq, beq_iff_eq]
  exact ⟨fun h => ⟨rfl, h.symm, rfl⟩, fun ⟨_, h, _⟩ => h.symm⟩

end Go.Proofs.YtmhamgcjmehnnaaDoor
