/-
  A part of the proof: RowDraw.
-/
import Derived.Test.YthgbjnchhaoceaaDoorPart2
import Derived.Test.YthgbjnchhaoceaaDoorPart5

/-
  Rows that are drawn: the contracts of the model's draws of a row, and of two rows that are held against each other.
-/
namespace Go.Proofs.YthgbjnchhaoceaaDoor
open Go.ChangeShapes Go.WideShapes Go.ChangeAt Go.RowKit
attribute [local go_sem ↓] Go.wp_at_zero Go.wp_at_succ
attribute [local simp] World.cell?_alloc_past World.cell?_alloc_at World.frozen?_alloc_at cell_far cell_off cell_here World.frozen?_alloc_past

theorem Cur.far {w w' : World} {c B : Nat} {a : Option Addr} {len cap : Nat} (h : Cur w c a len cap) (hb : Below B w w') (hB : c < B) : Cur w' c a len cap := by
  refine ⟨?_, ?_, ?_, ?_, ?_, ?_, Nat.lt_of_lt_of_le h.lt hb.size, h.hlen, ?_⟩
  · rw [hb.cell (p := ⟨c, 0, none⟩) hB]; exact h.c0
  · rw [hb.cell (p := ⟨c, 1, none⟩) hB]; exact h.c1
  · rw [hb.cell (p := ⟨c, 2, none⟩) hB]; exact h.c2
  · rw [hb.frozen (p := ⟨c, 0, none⟩) hB]; exact h.f0
  · rw [hb.frozen (p := ⟨c, 1, none⟩) hB]; exact h.f1
  · rw [hb.frozen (p := ⟨c, 2, none⟩) hB]; exact h.f2
  · intro j hj
    obtain ⟨rb, ro, v, ha, hrb, hc, hv⟩ := h.row j hj
    exact ⟨rb, ro, v, ha, hrb, by rw [hb.cell (p := ⟨rb, _, none⟩) (by show rb < B; omega)]; exact hc, hv⟩
theorem Keep.far {c B : Nat} {w w1 w2 : World} (h : Keep c w w1) (hb : Below B w1 w2) (hB : w.heap.size ≤ B) : Keep c w w2 :=
  ⟨hb.os.trans h.os, hb.tape.trans h.tape, hb.output.trans h.output, Nat.le_trans h.size hb.size, fun k hk hc => (hb.block k (by omega)).trans (h.block k hk hc)⟩
theorem own_keep {w w' : World} {c base : Nat} {e : TypeId} {size n : Nat} {v : Value} {xs : List Value} (h : w.ownsRow base e size v n xs) (hk : Keep c w w') (hc : c < base) : w'.ownsRow base e size v n xs := by
  refine ⟨h.1, ?_⟩
  rcases h.2 with h' | ⟨g, cap, cur, h', hbg, hg, hr⟩
  · exact .inl h'
  · refine .inr ⟨g, cap, cur, h', hbg, ?_, hr⟩
    have hlt : g < w.heap.size := by
      by_cases hl : g < w.heap.size
      · exact hl
      · rw [Array.getElem?_eq_none (by omega)] at hg; cases hg
    rw [hk.block g hlt (by omega)]; exact hg
theorem Fit.append {l : List CT} {x : CT} (h : Fit l) (hx : x.2.2.size ≤ maxLen) : Fit (l ++ [x]) := by
  intro j hj
  by_cases e : j < l.length
  · rw [List.getElem_append_left e]; exact h j e
  · rw [List.getElem_append_right (by omega)]; simpa using hx

theorem infoCellD : (Tryd.prog.info? 29).map (fun i => (i.zero, i.size, i.bytes)) = some (some (.agg #[.int .i64 0, .int .i64 0, .string ⟨#[]⟩]), 3, 32) := by kernel_rfl

end Go.Proofs.YthgbjnchhaoceaaDoor
