/-
  Blocks that are as they were from a world on (Kept); the cells of a box.
-/
import Derived.Test.YtmhamgcjmehnnaaDoorLists6
namespace Go.Proofs.YtmhamgcjmehnnaaDoor
open Go.ChangeShapes Go.WideShapes Go.ChangeAt Go.RowKit

/-- Blocks from lo up that V had are as they were. -/
structure Kept (lo : Nat) (V W : World) : Prop where
  size : V.heap.size ≤ W.heap.size
  same : ∀ g, lo ≤ g → g < V.heap.size → W.heap[g]? = V.heap[g]?
theorem Kept.refl (lo : Nat) (V : World) : Kept lo V V := ⟨Nat.le_refl _, fun _ _ _ => rfl⟩
theorem Kept.below {lo : Nat} {V W W' : World} (h : Kept lo V W) (hb : Below W.heap.size W W') : Kept lo V W' :=
  ⟨Nat.le_trans h.size hb.size, fun g h1 h2 => (hb.block g (Nat.lt_of_lt_of_le h2 h.size)).trans (h.same g h1 h2)⟩
theorem Kept.keepS {lo : Nat} {V W W' : World} {P : Nat → Prop} (h : Kept lo V W) (hk : KeepS P W W') (hP : ∀ b, P b → lo ≤ b → V.heap.size ≤ b) : Kept lo V W' :=
  ⟨Nat.le_trans h.size hk.size, fun g h1 h2 => (hk.block g (Nat.lt_of_lt_of_le h2 h.size) (fun hp => by have := hP g hp h1; omega)).trans (h.same g h1 h2)⟩
theorem Kept.box {lo B : Nat} {V W : World} {x : Obj} (h : Kept lo V W) (hlo : lo ≤ B) (hB : V.heap[B]? = some x) : W.heap[B]? = some x := by
  have hlt : B < V.heap.size := by
    by_cases hl : B < V.heap.size
    · exact hl
    · rw [Array.getElem?_eq_none (by omega)] at hB; cases hB
  exact (h.same B hlo hlt).trans hB
theorem cells7 {w : World} {B : Nat} {a b c d e f g : Value} {T : TypeId} (h : w.heap[B]? = some (.cells #[a, b, c, d, e, f, g] T)) : w.cell? ⟨B, 0, none⟩ = some (a) ∧ w.cell? ⟨B, 1, none⟩ = some (b) ∧ w.cell? ⟨B, 2, none⟩ = some (c) ∧ w.cell? ⟨B, 3, none⟩ = some (d) ∧ w.cell? ⟨B, 4, none⟩ = some (e) ∧ w.cell? ⟨B, 5, none⟩ = some (f) ∧ w.cell? ⟨B, 6, none⟩ = some (g) :=
  ⟨cell_of_row _ _ _ _ _ _ h, cell_of_row _ _ _ _ _ _ h, cell_of_row _ _ _ _ _ _ h, cell_of_row _ _ _ _ _ _ h, cell_of_row _ _ _ _ _ _ h, cell_of_row _ _ _ _ _ _ h, cell_of_row _ _ _ _ _ _ h⟩
theorem cells2 {w : World} {B : Nat} {a b : Value} {T : TypeId} (h : w.heap[B]? = some (.cells #[a, b] T)) : w.cell? ⟨B, 0, none⟩ = some (a) ∧ w.cell? ⟨B, 1, none⟩ = some (b) :=
  ⟨cell_of_row _ _ _ _ _ _ h, cell_of_row _ _ _ _ _ _ h⟩
/-- Two boxes at the bottom of a call, as later worlds have them. -/
theorem two_boxes (w : World) (x y : Obj) : ∃ E0, ((w.alloc x).alloc y) = E0 ∧ Below w.heap.size w E0 ∧ E0.heap[w.heap.size]? = some x ∧ E0.heap[w.heap.size + 1]? = some y :=
  ⟨_, rfl, ((Below.refl _ _).alloc (Nat.le_refl _) _).alloc (by simp) _, (_root_.Go.heap_alloc_old _ _ (by simp)).trans (_root_.Go.heap_alloc_new _ _), (show (w.alloc x).heap.size = w.heap.size + 1 by simp) ▸ _root_.Go.heap_alloc_new (w.alloc x) _⟩
theorem three_boxes (w : World) (x y z : Obj) : ∃ E0, (((w.alloc x).alloc y).alloc z) = E0 ∧ Below w.heap.size w E0 ∧ E0.heap[w.heap.size]? = some x ∧ E0.heap[w.heap.size + 1]? = some y ∧ E0.heap[w.heap.size + 1 + 1]? = some z ∧ E0.heap.size = w.heap.size + 3 := by
  obtain ⟨F, hF, hB, h1, h2⟩ := two_boxes w x y
  have hs : F.heap.size = w.heap.size + 2 := by rw [← hF]; simp
  refine ⟨_, rfl, ?_, ?_, ?_, ?_, ?_⟩
  · rw [hF]; exact hB.alloc (by omega) _
  · rw [hF]; exact (_root_.Go.heap_alloc_old _ _ (by omega)).trans h1
  · rw [hF]; exact (_root_.Go.heap_alloc_old _ _ (by omega)).trans h2
  · rw [hF, ← hs]; exact _root_.Go.heap_alloc_new _ _
  · simp
end Go.Proofs.YtmhamgcjmehnnaaDoor
