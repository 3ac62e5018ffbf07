/-
  The contract of the model's helper that takes a row over: new memory.
-/
import Derived.Test.YtdmiiklegnokjaaRank2
import Derived.Test.YtdmiiklegnokjaaLists2
import Derived.Laws.AppendOwnNone
namespace Go.Proofs.Ytdmiiklegnokjaa
open Go.ChangeShapes Go.WideShapes Go.ChangeAt Go.RowKit
attribute [local go_sem ↓] Go.wp_at_zero Go.wp_at_succ

/-- The cells of a row, one behind the other, lie there. -/
theorem flat_cells {w : World} {ad : Addr} {l : List CT} (h : RowAt w (some ad) l) (j : Nat) (u : Value) (hj : (flat l)[j]? = some u) : w.cell? (ad.add j) = some u := by
  have hlt : j < l.length * 3 := by
    have := (List.getElem?_eq_some_iff.1 hj).1
    rwa [flat_length] at this
  obtain ⟨b, o, e, _, c0, c1, c2⟩ := h (j / 3) (by omega)
  cases e
  obtain ⟨f0, f1, f2⟩ := flat_at l (j / 3) (by omega)
  have hadd : ∀ q, ((⟨b, o, none⟩ : Addr).add q) = ⟨b, o + q, none⟩ := by
    intro q
    unfold Addr.add
    by_cases hq : q = 0 <;> simp [hq]
  rw [hadd]
  rcases (show j = j / 3 * 3 ∨ j = j / 3 * 3 + 1 ∨ j = j / 3 * 3 + 2 by omega) with e | e | e
  · rw [e] at hj ⊢
    rw [f0] at hj
    rw [← hj]; exact c0
  · rw [e] at hj
    rw [f1] at hj
    rw [e, ← hj, ← Nat.add_assoc]; exact c1
  · rw [e] at hj
    rw [f2] at hj
    rw [e, ← hj, ← Nat.add_assoc]; exact c2

theorem flat_one (l : List CT) : ∀ u ∈ flat l, u.oneCell' = true := by
  induction l with
  | nil => intro u hu; cases hu
  | cons x l ih =>
    intro u hu
    simp only [flat, List.mem_cons] at hu
    rcases hu with rfl | rfl | rfl | hu
    · rfl
    · rfl
    · rfl
    · exact ih u hu

end Go.Proofs.Ytdmiiklegnokjaa
