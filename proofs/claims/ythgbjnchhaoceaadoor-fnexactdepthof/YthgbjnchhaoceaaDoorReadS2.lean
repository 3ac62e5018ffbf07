/-
  The contract of the model's reading of a cell.
-/
import Derived.Test.YthgbjnchhaoceaaDoorReadS
import Derived.Laws.DeepStrings4
namespace Go.Proofs.YthgbjnchhaoceaaDoor
open Go.ChangeShapes Go.WideShapes Go.ChangeAt Go.RowKit
attribute [local go_sem ↓] Go.wp_at_zero Go.wp_at_succ

/-- What a text is read as, as both answer it. -/
def readR (s : ByteArray) : Int × Int × ByteArray × Bool := match readB s with
  | some (k, n, t) => (k, n, t, true)
  | none => (0, 0, ⟨#[]⟩, false)
theorem readR_most {s : ByteArray} {a : Int} (h1 : ¬ s.data.toList = wNone) (h2 : ¬ s.data.toList = wYes) (h3 : ¬ s.data.toList = wNo) (hm : mostR s.data.toList = (a, true)) :
    readR s = if numB a = true then (1, a, ⟨#[]⟩, true) else (0, 0, ⟨#[]⟩, false) := by
  unfold readR readB
  rw [if_neg h1, if_neg h2, if_neg h3]
  unfold mostR at hm
  cases hr : readMost s.data.toList with
  | none => rw [hr] at hm; injection hm with _ e; cases e
  | some n =>
    rw [hr] at hm
    injection hm with e _
    subst e
    simp only []
    by_cases hn : numB n = true
    · rw [if_pos hn, if_pos hn]
    · rw [if_neg hn, if_neg hn]
theorem readR_text {s : ByteArray} {a : Int} (h1 : ¬ s.data.toList = wNone) (h2 : ¬ s.data.toList = wYes) (h3 : ¬ s.data.toList = wNo) (hm : mostR s.data.toList = (a, false)) :
    a = 0 ∧ readR s = if 1 < s.size ∧ s.data.toList.head? = some 39 ∧ s.data.toList.getLast? = some 39 then (if textB (inner s) = true then (2, 0, inner s, true) else (0, 0, ⟨#[]⟩, false)) else (0, 0, ⟨#[]⟩, false) := by
  unfold readR readB
  rw [if_neg h1, if_neg h2, if_neg h3]
  unfold mostR at hm
  cases hr : readMost s.data.toList with
  | some n => rw [hr] at hm; injection hm with _ e; cases e
  | none =>
    rw [hr] at hm
    injection hm with e _
    refine ⟨e.symm, ?_⟩
    simp only []
    by_cases hq : 1 < s.size ∧ s.data.toList.head? = some 39 ∧ s.data.toList.getLast? = some 39
    · rw [if_pos hq, if_pos hq]
      by_cases ht : textB (inner s) = true
      · rw [if_pos ht, if_pos ht]
      · rw [if_neg ht, if_neg ht]
    · rw [if_neg hq, if_neg hq]
theorem last_get (s : ByteArray) (h : 0 < s.size) : s.data.toList.getLast? = some (s[s.size - 1]'(by omega)) := by
  rw [List.getLast?_eq_getElem?, ← Lib.size_eq, List.getElem?_eq_getElem (by rw [← Lib.size_eq]; omega)]; rfl

/-- Two new blocks of three, in every later world, and that both may be written. -/
theorem two3F {w w1 : World} {a b c : Value} {T : TypeId} {x y z : Value} {U : TypeId}
    (hb : Below ((w.alloc (.cells #[a, b, c] T)).alloc (.cells #[x, y, z] U)).heap.size ((w.alloc (.cells #[a, b, c] T)).alloc (.cells #[x, y, z] U)) w1) :
    ((w1.cell? ⟨w.heap.size, 0, none⟩ = some a ∧ w1.cell? ⟨w.heap.size, 1, none⟩ = some b ∧ w1.cell? ⟨w.heap.size, 2, none⟩ = some c ∧ w.heap.size < w1.heap.size) ∧
    (w1.cell? ⟨w.heap.size + 1, 0, none⟩ = some x ∧ w1.cell? ⟨w.heap.size + 1, 1, none⟩ = some y ∧ w1.cell? ⟨w.heap.size + 1, 2, none⟩ = some z ∧ w.heap.size + 1 < w1.heap.size)) ∧
    ((w1.frozen? ⟨w.heap.size, 0, none⟩ = false ∧ w1.frozen? ⟨w.heap.size, 1, none⟩ = false ∧ w1.frozen? ⟨w.heap.size, 2, none⟩ = false) ∧
    (w1.frozen? ⟨w.heap.size + 1, 0, none⟩ = false ∧ w1.frozen? ⟨w.heap.size + 1, 1, none⟩ = false ∧ w1.frozen? ⟨w.heap.size + 1, 2, none⟩ = false)) := by
  obtain ⟨h1, h2, h3⟩ := two3 hb
  refine ⟨⟨h1, h2⟩, ⟨?_, ?_, ?_⟩, h3⟩
  · rw [hb.frozen (p := ⟨w.heap.size, 0, none⟩) (by simp; omega)]; simp [go_sem]
  · rw [hb.frozen (p := ⟨w.heap.size, 1, none⟩) (by simp; omega)]; simp [go_sem]
  · rw [hb.frozen (p := ⟨w.heap.size, 2, none⟩) (by simp; omega)]; simp [go_sem]

/-- Three cells of a block are written: they hold it, and what lies in another block stays. -/
theorem set3 {w W : World} {B : Nat} {x y z p q r : Value} (hW : W = ((w.setCell ⟨B, 0, none⟩ x).setCell ⟨B, 1, none⟩ y).setCell ⟨B, 2, none⟩ z) (h : w.cell? ⟨B, 0, none⟩ = some p ∧ w.cell? ⟨B, 1, none⟩ = some q ∧ w.cell? ⟨B, 2, none⟩ = some r) :
    (W.cell? ⟨B, 0, none⟩ = some x ∧ W.cell? ⟨B, 1, none⟩ = some y ∧ W.cell? ⟨B, 2, none⟩ = some z) ∧ W.heap.size = w.heap.size ∧ (∀ D o, D ≠ B → W.cell? ⟨D, o, none⟩ = w.cell? ⟨D, o, none⟩) ∧ (∀ D o, W.frozen? ⟨D, o, none⟩ = w.frozen? ⟨D, o, none⟩) := by
  obtain ⟨h0, h1, h2⟩ := h
  have c1 : ((w.setCell ⟨B, 0, none⟩ x).cell? ⟨B, 1, none⟩) = some q := by rw [cell_off _ _ _ _ _ (by decide)]; exact h1
  have c2 : (((w.setCell ⟨B, 0, none⟩ x).setCell ⟨B, 1, none⟩ y).cell? ⟨B, 2, none⟩) = some r := by rw [cell_off _ _ _ _ _ (by decide), cell_off _ _ _ _ _ (by decide)]; exact h2
  subst hW
  refine ⟨⟨?_, ?_, ?_⟩, by simp, ?_, ?_⟩
  · rw [cell_off _ _ _ _ _ (by decide), cell_off _ _ _ _ _ (by decide), cell_here _ _ _ _ (by rw [h0]; rfl)]
  · rw [cell_off _ _ _ _ _ (by decide), cell_here _ _ _ _ (by rw [c1]; rfl)]
  · rw [cell_here _ _ _ _ (by rw [c2]; rfl)]
  · intro D o hD
    rw [cell_far _ _ _ _ _ _ hD, cell_far _ _ _ _ _ _ hD, cell_far _ _ _ _ _ _ hD]
  · intro D o
    simp

end Go.Proofs.YthgbjnchhaoceaaDoor
