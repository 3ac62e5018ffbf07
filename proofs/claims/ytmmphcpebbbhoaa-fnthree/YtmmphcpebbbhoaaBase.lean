/-
  What every walk over cells uses: both questions whether a cell is right with the answer as a letter, new blocks in later worlds, cells written and read again.
-/
import Derived.Test.YtmmphcpebbbhoaaWalk4
import Derived.Deep.QuietTactic
import Derived.BigQuiet
import Derived.Deep.RegionHeld3
import Derived.Deep.DeepCutAuto
import Derived.Deep.DrawnRows
namespace Go.Proofs.Ytmmphcpebbbhoaa
open Go.ChangeShapes Go.WideShapes Go.ChangeAt Go.RowKit

theorem ok_implb (k n : Int) (t : ByteArray) (b : Bool) (hb : okB k n t = b) (w : World) (ht : t.size ≤ maxLen) :
    Calls Try.prog 12 #[.agg #[.int .i64 k, .int .i64 n, .string t]] w fun e w' => e = .returned (.bool b) ∧ Below w.heap.size w w' := by
  subst hb; exact ok_impl k n t w ht

/-- A boxed cell and a new block behind it. -/
theorem two3 {w w1 : World} {a b c : Value} {T : TypeId} {x y z : Value} {U : TypeId}
    (hb : Below ((w.alloc (.cells #[a, b, c] T)).alloc (.cells #[x, y, z] U)).heap.size ((w.alloc (.cells #[a, b, c] T)).alloc (.cells #[x, y, z] U)) w1) :
    (w1.cell? ⟨w.heap.size, 0, none⟩ = some a ∧ w1.cell? ⟨w.heap.size, 1, none⟩ = some b ∧ w1.cell? ⟨w.heap.size, 2, none⟩ = some c ∧ w.heap.size < w1.heap.size) ∧
    (w1.cell? ⟨w.heap.size + 1, 0, none⟩ = some x ∧ w1.cell? ⟨w.heap.size + 1, 1, none⟩ = some y ∧ w1.cell? ⟨w.heap.size + 1, 2, none⟩ = some z ∧ w.heap.size + 1 < w1.heap.size) ∧
    (w1.frozen? ⟨w.heap.size + 1, 0, none⟩ = false ∧ w1.frozen? ⟨w.heap.size + 1, 1, none⟩ = false ∧ w1.frozen? ⟨w.heap.size + 1, 2, none⟩ = false) := by
  refine ⟨⟨?_, ?_, ?_, ?_⟩, ⟨?_, ?_, ?_, ?_⟩, ?_, ?_, ?_⟩
  · rw [hb.cell (p := ⟨w.heap.size, 0, none⟩) (by simp; omega)]; simp [go_sem]
  · rw [hb.cell (p := ⟨w.heap.size, 1, none⟩) (by simp; omega)]; simp [go_sem]
  · rw [hb.cell (p := ⟨w.heap.size, 2, none⟩) (by simp; omega)]; simp [go_sem]
  · have := hb.size; simp at this; omega
  · rw [hb.cell (p := ⟨w.heap.size + 1, 0, none⟩) (by simp)]; simp [go_sem]
  · rw [hb.cell (p := ⟨w.heap.size + 1, 1, none⟩) (by simp)]; simp [go_sem]
  · rw [hb.cell (p := ⟨w.heap.size + 1, 2, none⟩) (by simp)]; simp [go_sem]
  · have := hb.size; simp at this; omega
  · rw [hb.frozen (p := ⟨w.heap.size + 1, 0, none⟩) (by simp)]; simp [go_sem]
  · rw [hb.frozen (p := ⟨w.heap.size + 1, 1, none⟩) (by simp)]; simp [go_sem]
  · rw [hb.frozen (p := ⟨w.heap.size + 1, 2, none⟩) (by simp)]; simp [go_sem]

/-- A new block of three, in every later world, and that it may be written. -/
theorem box3F {w w1 : World} {a b c : Value} {T : TypeId} (hb : Below (w.alloc (.cells #[a, b, c] T)).heap.size (w.alloc (.cells #[a, b, c] T)) w1) :
    (w1.cell? ⟨w.heap.size, 0, none⟩ = some a ∧ w1.cell? ⟨w.heap.size, 1, none⟩ = some b ∧ w1.cell? ⟨w.heap.size, 2, none⟩ = some c ∧ w.heap.size < w1.heap.size) ∧
    (w1.frozen? ⟨w.heap.size, 0, none⟩ = false ∧ w1.frozen? ⟨w.heap.size, 1, none⟩ = false ∧ w1.frozen? ⟨w.heap.size, 2, none⟩ = false) := by
  refine ⟨box3 hb, ?_, ?_, ?_⟩
  · rw [hb.frozen (p := ⟨w.heap.size, 0, none⟩) (by simp)]; simp [go_sem]
  · rw [hb.frozen (p := ⟨w.heap.size, 1, none⟩) (by simp)]; simp [go_sem]
  · rw [hb.frozen (p := ⟨w.heap.size, 2, none⟩) (by simp)]; simp [go_sem]

theorem frozen3 {B : Nat} {w1 w2 : World} (hb : Below w1.heap.size w1 w2) (hB : B < w1.heap.size)
    (h : w1.frozen? ⟨B, 0, none⟩ = false ∧ w1.frozen? ⟨B, 1, none⟩ = false ∧ w1.frozen? ⟨B, 2, none⟩ = false) :
    w2.frozen? ⟨B, 0, none⟩ = false ∧ w2.frozen? ⟨B, 1, none⟩ = false ∧ w2.frozen? ⟨B, 2, none⟩ = false := by
  obtain ⟨h0, h1, h2⟩ := h
  refine ⟨?_, ?_, ?_⟩
  · rw [hb.frozen (p := ⟨B, 0, none⟩) hB]; exact h0
  · rw [hb.frozen (p := ⟨B, 1, none⟩) hB]; exact h1
  · rw [hb.frozen (p := ⟨B, 2, none⟩) hB]; exact h2

theorem chainAA {w w'' : World} {o o' : Obj} (k : Below ((w.alloc o).alloc o').heap.size ((w.alloc o).alloc o') w'') : Below w.heap.size w w'' := chainA (chainA k)

theorem undrew {w w1 : World} (h : Below w.drew.heap.size w.drew w1) : Below w.heap.size w w1 := ((Below.refl w.heap.size w).drew).trans h

theorem belowN {B : Nat} {a w : World} (h : Below B a w) (n : Nat) : Below B a (w.drewN n) := h.trans ⟨rfl, rfl, rfl, Nat.le_refl _, fun _ _ => rfl⟩

theorem ok_specb (k n : Int) (t : ByteArray) (b : Bool) (hb : okB k n t = b) (w : World) (ht : t.size ≤ maxLen) :
    Calls Try.prog 13 #[.agg #[.int .i64 k, .int .i64 n, .string t]] w fun e w' => e = .returned (.bool b) ∧ Below w.heap.size w w' := by
  subst hb; exact ok_spec k n t w ht

theorem cell_far (w : World) (m j n i : Nat) (v : Value) (h : n ≠ m) : (w.setCell ⟨m, j, none⟩ v).cell? ⟨n, i, none⟩ = w.cell? ⟨n, i, none⟩ :=
  World.cell?_of_block (w := w) (Below.heap_setCell w _ v n h)

theorem cell_off (w : World) (m j i : Nat) (v : Value) (h : i ≠ j) : (w.setCell ⟨m, j, none⟩ v).cell? ⟨m, i, none⟩ = w.cell? ⟨m, i, none⟩ :=
  World.cell?_setCell_other w ⟨m, j, none⟩ ⟨m, i, none⟩ v (fun e => h (by cases e; rfl))
theorem cell_here (w : World) (m i : Nat) (v : Value) (h : (w.cell? ⟨m, i, none⟩).isSome = true) : (w.setCell ⟨m, i, none⟩ v).cell? ⟨m, i, none⟩ = some v :=
  World.cell?_setCell_same' w ⟨m, i, none⟩ v h

section
attribute [local simp] World.cell?_alloc_past World.cell?_alloc_at World.frozen?_alloc_at
/-- Three new blocks, in every later world. -/
theorem three3 {w w1 : World} {a b c : Value} {T : TypeId} {x y z : Value} {U : TypeId} {p q r : Value} {V : TypeId}
    (hb : Below (((w.alloc (.cells #[a, b, c] T)).alloc (.cells #[x, y, z] U)).alloc (.cells #[p, q, r] V)).heap.size (((w.alloc (.cells #[a, b, c] T)).alloc (.cells #[x, y, z] U)).alloc (.cells #[p, q, r] V)) w1) :
    (w1.cell? ⟨w.heap.size, 0, none⟩ = some a ∧ w1.cell? ⟨w.heap.size, 1, none⟩ = some b ∧ w1.cell? ⟨w.heap.size, 2, none⟩ = some c ∧ w.heap.size < w1.heap.size) ∧
    (w1.cell? ⟨w.heap.size + 1, 0, none⟩ = some x ∧ w1.cell? ⟨w.heap.size + 1, 1, none⟩ = some y ∧ w1.cell? ⟨w.heap.size + 1, 2, none⟩ = some z ∧ w.heap.size + 1 < w1.heap.size) ∧
    (w1.cell? ⟨w.heap.size + 1 + 1, 0, none⟩ = some p ∧ w1.cell? ⟨w.heap.size + 1 + 1, 1, none⟩ = some q ∧ w1.cell? ⟨w.heap.size + 1 + 1, 2, none⟩ = some r ∧ w.heap.size + 1 + 1 < w1.heap.size) ∧
    (w1.frozen? ⟨w.heap.size + 1 + 1, 0, none⟩ = false ∧ w1.frozen? ⟨w.heap.size + 1 + 1, 1, none⟩ = false ∧ w1.frozen? ⟨w.heap.size + 1 + 1, 2, none⟩ = false) := by
  have hs : w.heap.size + 1 + 1 + 1 ≤ w1.heap.size := by have := hb.size; simp at this; omega
  refine ⟨⟨?_, ?_, ?_, ?_⟩, ⟨?_, ?_, ?_, ?_⟩, ⟨?_, ?_, ?_, ?_⟩, ?_, ?_, ?_⟩
  · rw [hb.cell (p := ⟨w.heap.size, 0, none⟩) (by simp; try omega)]; simp (disch := first | omega | (simp <;> omega) | fail)
  · rw [hb.cell (p := ⟨w.heap.size, 1, none⟩) (by simp; try omega)]; simp (disch := first | omega | (simp <;> omega) | fail)
  · rw [hb.cell (p := ⟨w.heap.size, 2, none⟩) (by simp; try omega)]; simp (disch := first | omega | (simp <;> omega) | fail)
  · omega
  · rw [hb.cell (p := ⟨w.heap.size + 1, 0, none⟩) (by simp; try omega)]; simp (disch := first | omega | (simp <;> omega) | fail)
  · rw [hb.cell (p := ⟨w.heap.size + 1, 1, none⟩) (by simp; try omega)]; simp (disch := first | omega | (simp <;> omega) | fail)
  · rw [hb.cell (p := ⟨w.heap.size + 1, 2, none⟩) (by simp; try omega)]; simp (disch := first | omega | (simp <;> omega) | fail)
  · omega
  · rw [hb.cell (p := ⟨w.heap.size + 1 + 1, 0, none⟩) (by simp; try omega)]; simp (disch := first | omega | (simp <;> omega) | fail)
  · rw [hb.cell (p := ⟨w.heap.size + 1 + 1, 1, none⟩) (by simp; try omega)]; simp (disch := first | omega | (simp <;> omega) | fail)
  · rw [hb.cell (p := ⟨w.heap.size + 1 + 1, 2, none⟩) (by simp; try omega)]; simp (disch := first | omega | (simp <;> omega) | fail)
  · omega
  · rw [hb.frozen (p := ⟨w.heap.size + 1 + 1, 0, none⟩) (by simp)]; simp (disch := first | omega | (simp <;> omega) | fail)
  · rw [hb.frozen (p := ⟨w.heap.size + 1 + 1, 1, none⟩) (by simp)]; simp (disch := first | omega | (simp <;> omega) | fail)
  · rw [hb.frozen (p := ⟨w.heap.size + 1 + 1, 2, none⟩) (by simp)]; simp (disch := first | omega | (simp <;> omega) | fail)

end

section
attribute [local simp] World.cell?_alloc_past World.cell?_alloc_at World.frozen?_alloc_at cell_far cell_off cell_here World.frozen?_alloc_past
/-- A new block of three that is written whole, in every later world. -/
theorem made3 {w w1 : World} {u0 u1 u2 x y z : Value} {T : TypeId}
    (hb : Below ((((w.alloc (.cells #[u0, u1, u2] T)).setCell ⟨w.heap.size, 0, none⟩ x).setCell ⟨w.heap.size, 1, none⟩ y).setCell ⟨w.heap.size, 2, none⟩ z).heap.size ((((w.alloc (.cells #[u0, u1, u2] T)).setCell ⟨w.heap.size, 0, none⟩ x).setCell ⟨w.heap.size, 1, none⟩ y).setCell ⟨w.heap.size, 2, none⟩ z) w1) :
    (w1.cell? ⟨w.heap.size, 0, none⟩ = some x ∧ w1.cell? ⟨w.heap.size, 1, none⟩ = some y ∧ w1.cell? ⟨w.heap.size, 2, none⟩ = some z ∧ w.heap.size < w1.heap.size) ∧ Below w.heap.size w w1 := by
  have hs : w.heap.size + 1 ≤ w1.heap.size := by have := hb.size; simp at this; omega
  refine ⟨⟨?_, ?_, ?_, ?_⟩, ?_⟩
  · rw [hb.cell (p := ⟨w.heap.size, 0, none⟩) (by simp)]; simp (disch := first | omega | (simp <;> omega) | (simp (disch := first | omega | (simp <;> omega) | fail); done) | fail)
  · rw [hb.cell (p := ⟨w.heap.size, 1, none⟩) (by simp)]; simp (disch := first | omega | (simp <;> omega) | (simp (disch := first | omega | (simp <;> omega) | fail); done) | fail)
  · rw [hb.cell (p := ⟨w.heap.size, 2, none⟩) (by simp)]; simp (disch := first | omega | (simp <;> omega) | (simp (disch := first | omega | (simp <;> omega) | fail); done) | fail)
  · omega
  · refine chain ?_ hb
    exact ((((Below.refl _ _).alloc (Nat.le_refl _) _).setCell (Nat.le_refl _) _).setCell (Nat.le_refl _) _).setCell (Nat.le_refl _) _
end

end Go.Proofs.Ytmmphcpebbbhoaa
