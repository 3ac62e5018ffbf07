/-
  Lists of cells in new memory: the contract of the law's helper that takes a list over.
-/
import Derived.Test.YtmhamgcjmehnnaaDoorHd
import Derived.Test.YtmhamgcjmehnnaaDoorLists1
namespace Go.Proofs.YtmhamgcjmehnnaaDoor
open Go.ChangeShapes Go.WideShapes Go.ChangeAt Go.RowKit
attribute [local go_sem ↓] Go.wp_at_zero Go.wp_at_succ

/-- The cells of a list, one behind the other. -/
def flat : List CT → List Value
  | [] => []
  | x :: l => .int .i64 x.1 :: .int .i64 x.2.1 :: .string x.2.2 :: flat l
theorem flat_length (l : List CT) : (flat l).length = l.length * 3 := by
  induction l with
  | nil => rfl
  | cons x l ih => simp only [flat, List.length_cons, ih]; omega
theorem flat_append (l m : List CT) : flat (l ++ m) = flat l ++ flat m := by
  induction l with
  | nil => rfl
  | cons x l ih => simp only [List.cons_append, flat, ih]
theorem flat_at (l : List CT) (j : Nat) (h : j < l.length) : (flat l)[j * 3]? = some (.int .i64 l[j].1) ∧ (flat l)[j * 3 + 1]? = some (.int .i64 l[j].2.1) ∧ (flat l)[j * 3 + 2]? = some (.string l[j].2.2) := by
  induction l generalizing j with
  | nil => simp at h
  | cons x l ih =>
    cases j with
    | zero => exact ⟨rfl, rfl, rfl⟩
    | succ j =>
      have := ih j (by simpa using h)
      have e0 : (j + 1) * 3 = j * 3 + 1 + 1 + 1 := by omega
      have e1 : (j + 1) * 3 + 1 = j * 3 + 1 + 1 + 1 + 1 := by omega
      have e2 : (j + 1) * 3 + 2 = j * 3 + 2 + 1 + 1 + 1 := by omega
      rw [e1, e2, e0]
      simpa only [flat, List.getElem?_cons_succ, List.getElem_cons_succ] using this

/-- Three cells of a row are written: one element more of the list. -/
theorem flat_step (l : List CT) (k : Nat) (h : k < l.length) (z : List Value) (hz : z.length = l.length * 3) :
    (((flat (l.take k) ++ z.drop (k * 3)).set (k * 3) (.int .i64 l[k].1)).set (k * 3 + 1) (.int .i64 l[k].2.1)).set (k * 3 + 2) (.string l[k].2.2) = flat (l.take (k + 1)) ++ z.drop ((k + 1) * 3) := by
  have hl : (flat (l.take k)).length = k * 3 := by rw [flat_length, List.length_take]; congr 1; omega
  obtain ⟨a, b, c, r, hr⟩ : ∃ a b c r, z.drop (k * 3) = a :: b :: c :: r := by
    have hd : (z.drop (k * 3)).length ≥ 3 := by rw [List.length_drop]; omega
    match hm : z.drop (k * 3), hd with
    | a :: b :: c :: r, _ => exact ⟨a, b, c, r, rfl⟩
  have hr3 : z.drop ((k + 1) * 3) = r := by
    rw [show (k + 1) * 3 = k * 3 + 3 by omega, ← List.drop_drop, hr]; rfl
  rw [List.take_succ_eq_append_getElem h, flat_append, hr, hr3]
  rw [List.set_append_right _ _ (by omega), List.set_append_right _ _ (by omega), List.set_append_right _ _ (by omega), hl]
  rw [show k * 3 - k * 3 = 0 by omega, show k * 3 + 1 - k * 3 = 1 by omega, show k * 3 + 2 - k * 3 = 2 by omega]
  simp [flat]

theorem own_below {w w' : World} {base : Nat} {e : TypeId} {size : Nat} {v : Value} {n : Nat} {xs : List Value} (h : w.ownsRow base e size v n xs) (hb : Below w.heap.size w w') : w'.ownsRow base e size v n xs := by
  refine ⟨h.1, ?_⟩
  rcases h.2 with h' | ⟨g, cap, cur, h', hbg, hg, hr⟩
  · exact .inl h'
  · refine .inr ⟨g, cap, cur, h', hbg, ?_, hr⟩
    have hlt : g < w.heap.size := by
      by_cases hl : g < w.heap.size
      · exact hl
      · rw [Array.getElem?_eq_none (by omega)] at hg; cases hg
    rw [hb.block g hlt]; exact hg

/-- What is owned lies there. -/
theorem own_row {w : World} {base g cap : Nat} {e : TypeId} {l : List CT} (h : w.ownsRow base e 3 (.slice (some ⟨g, 0, none⟩) l.length cap) l.length (flat l)) : RowAt w (some ⟨g, 0, none⟩) l := by
  have hlt : g < w.heap.size := by
    rcases h.2 with ⟨h', _⟩ | ⟨g', cap', cur, h', _, hg, _⟩
    · simp at h'
    · simp only [Value.slice.injEq, Option.some.injEq, Addr.mk.injEq, and_true, true_and] at h'
      obtain ⟨rfl, rfl⟩ := h'
      by_cases hl : g < w.heap.size
      · exact hl
      · rw [Array.getElem?_eq_none (by omega)] at hg; cases hg
  intro j hj
  obtain ⟨f0, f1, f2⟩ := flat_at l j hj
  refine ⟨g, 0, rfl, hlt, ?_, ?_, ?_⟩
  · rw [show 0 + j * 3 = j * 3 by omega, h.cellAt _ (by omega)]; exact f0
  · rw [show 0 + j * 3 + 1 = j * 3 + 1 by omega, h.cellAt _ (by omega)]; exact f1
  · rw [show 0 + j * 3 + 2 = j * 3 + 2 by omega, h.cellAt _ (by omega)]; exact f2

end Go.Proofs.YtmhamgcjmehnnaaDoor
