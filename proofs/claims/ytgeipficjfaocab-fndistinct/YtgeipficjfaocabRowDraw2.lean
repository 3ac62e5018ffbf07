/-
  The contract of the draw of two rows.
-/
import Derived.Test.YtgeipficjfaocabRowDraw
namespace Go.Proofs.Ytgeipficjfaocab
open Go.ChangeShapes Go.WideShapes Go.ChangeAt Go.RowKit
attribute [local go_sem ↓] Go.wp_at_zero Go.wp_at_succ
attribute [local simp] World.cell?_alloc_past World.cell?_alloc_at World.frozen?_alloc_at cell_far cell_off cell_here World.frozen?_alloc_past

theorem own_form {w : World} {base : Nat} {l : List CT} {v : Value} (h : w.ownsRow base 37 3 v l.length (flat l)) (hv : v ≠ .slice none 0 0) : ∃ g c, v = .slice (some ⟨g, 0, none⟩) l.length c ∧ base ≤ g ∧ l.length ≤ c := by
  rcases h.2 with ⟨h', _⟩ | ⟨g, c, cur, h', hbg, _, hc, _⟩
  · exact absurd h' hv
  · exact ⟨g, c, h', hbg, hc⟩
theorem flat_take (l : List CT) (y : Nat) (h : y ≤ l.length) : (flat l).take (y * 3) = flat (l.take y) := by
  conv => lhs; rw [← List.take_append_drop y l, flat_append]
  rw [List.take_left' (by rw [flat_length, List.length_take]; congr 1; omega)]
theorem own_cut {w : World} {base g c : Nat} {l : List CT} (h : w.ownsRow base 37 3 (.slice (some ⟨g, 0, none⟩) l.length c) l.length (flat l)) (y : Nat) (hy : y ≤ l.length) : w.ownsRow base 37 3 (.slice (some ⟨g, 0, none⟩) y c) y (flat (l.take y)) := by
  rcases h.2 with ⟨h', _⟩ | ⟨g', c', cur, h', hb', hg', hc', hm', hz', ht'⟩
  · simp at h'
  · simp only [Value.slice.injEq, Option.some.injEq, Addr.mk.injEq, and_true, true_and] at h'
    obtain ⟨rfl, rfl⟩ := h'
    refine ⟨by rw [flat_length, List.length_take]; congr 1; omega, .inr ⟨g, c, cur, rfl, hb', hg', by omega, hm', hz', ?_⟩⟩
    have e2 : cur.toList.take (y * 3) = (cur.toList.take (l.length * 3)).take (y * 3) := by rw [List.take_take]; congr 1; omega
    rw [e2, ht', flat_take l y hy]

end Go.Proofs.Ytgeipficjfaocab
