/-
  Two cells held against each other by Go's own comparison: field by field.
-/
import Derived.Test.YtmhamgcjmehnnaaDoorWalk2
namespace Go.Proofs.YtmhamgcjmehnnaaDoor
open Go.ChangeShapes Go.WideShapes Go.ChangeAt Go.RowKit

/-- Are two cells one? -/
def sameB (a b : Int) (s : ByteArray) (c d : Int) (u : ByteArray) : Bool := (a == c && b == d) && s.toList == u.toList

theorem bytes_eq {s u : ByteArray} (h : s.toList = u.toList) : s = u := by
  rw [ByteArray.toList_eq, ByteArray.toList_eq] at h
  cases s with
  | mk x => cases u with
    | mk y => simp at h; rw [h]

theorem sameB_eq {a b : Int} {s : ByteArray} {c d : Int} {u : ByteArray} : sameB a b s c d u = true ↔ a = c ∧ b = d ∧ s = u := by
  unfold sameB
  simp only [Bool.and_eq_true, beq_iff_eq]
  exact ⟨fun ⟨⟨h1, h2⟩, h3⟩ => ⟨h1, h2, bytes_eq h3⟩, fun ⟨h1, h2, h3⟩ => ⟨⟨h1, h2⟩, by rw [h3]⟩⟩

theorem sameB_refl (a b : Int) (s : ByteArray) : sameB a b s a b s = true := sameB_eq.2 ⟨rfl, rfl, rfl⟩

end Go.Proofs.YtmhamgcjmehnnaaDoor
