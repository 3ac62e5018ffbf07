/-
  Lists of cells: how a slice of cells lies in memory, and the contract of the law's helper that measures one.
-/
import Derived.Test.YtmhamgcjmehnnaaDoorHd
import Derived.Test.YtmhamgcjmehnnaaDoorBase
namespace Go.Proofs.YtmhamgcjmehnnaaDoor
open Go.ChangeShapes Go.WideShapes Go.ChangeAt Go.RowKit
attribute [local go_sem ↓] Go.wp_at_zero Go.wp_at_succ

/-- A cell: kind, number, text. -/
abbrev CT := Int × Int × ByteArray
/-- The cells of a slice lie where it says. -/
def RowAt (w : World) (a : Option Addr) (l : List CT) : Prop :=
  ∀ j (h : j < l.length), ∃ b o, a = some ⟨b, o, none⟩ ∧ b < w.heap.size ∧ w.cell? ⟨b, o + j * 3, none⟩ = some (.int .i64 l[j].1) ∧ w.cell? ⟨b, o + j * 3 + 1, none⟩ = some (.int .i64 l[j].2.1) ∧ w.cell? ⟨b, o + j * 3 + 2, none⟩ = some (.string l[j].2.2)
theorem RowAt.below {w w' : World} {a : Option Addr} {l : List CT} (h : RowAt w a l) (hb : Below w.heap.size w w') : RowAt w' a l := by
  intro j hj
  obtain ⟨b, o, ha, hlt, h0, h1, h2⟩ := h j hj
  refine ⟨b, o, ha, Nat.lt_of_lt_of_le hlt hb.size, ?_, ?_, ?_⟩
  · rw [hb.cell (p := ⟨b, _, none⟩) hlt]; exact h0
  · rw [hb.cell (p := ⟨b, _, none⟩) hlt]; exact h1
  · rw [hb.cell (p := ⟨b, _, none⟩) hlt]; exact h2
/-- No text is longer than a text can be. -/
def Fit (l : List CT) : Prop := ∀ j (h : j < l.length), (l[j]).2.2.size ≤ maxLen
/-- How many bytes the texts of a list have. -/
def weight (l : List CT) : Nat := (l.map (·.2.2.size)).sum
theorem weight_take (l : List CT) (k : Nat) (h : k < l.length) : weight (l.take (k + 1)) = weight (l.take k) + (l[k]).2.2.size := by
  unfold weight
  rw [List.take_succ_eq_append_getElem h, List.map_append, List.sum_append]; simp
theorem weight_le (l : List CT) (k : Nat) : weight (l.take k) ≤ weight l := by
  unfold weight
  conv => rhs; rw [← List.take_append_drop k l, List.map_append, List.sum_append]
  omega

end Go.Proofs.YtmhamgcjmehnnaaDoor
