/-
  The contract of the program's cell of a truth.
-/
import Derived.Test.YtgiknjlifocioaaDoorBase
namespace Go.Proofs.YtgiknjlifocioaaDoor
open Go.ChangeShapes Go.WideShapes Go.ChangeAt Go.RowKit

theorem truth_impl (b : Bool) (w : World) :
    Calls Tryd.prog 43 #[.bool b] w fun e w' => e = .returned (.agg #[.int .i64 3, .int .i64 (if b = true then 1 else 0), .string ⟨#[]⟩]) ∧ Below w.heap.size w w' := by
  cases b
  · go_enter Tryd.func43, Tryd.ntmps43
    go_wp2_with fail
    refine (cell3 _ _).mono ?_
    rintro e w1 ⟨rfl, hb1⟩
    obtain ⟨⟨a1, b1, c1, d1⟩, f0, f1, f2⟩ := box3F hb1
    have hx := chainA hb1
    go_wp2
    exact bodyPost_ret (v := .agg #[.int .i64 3, .int .i64 0, .string ⟨#[]⟩]) (by simp [results, Tryd.results43, go_sem, a1, b1, c1]) rfl ⟨rfl, by go_grown⟩
  · go_enter Tryd.func43, Tryd.ntmps43
    go_wp2_with fail
    refine (cell3 _ _).mono ?_
    rintro e w1 ⟨rfl, hb1⟩
    obtain ⟨⟨a1, b1, c1, d1⟩, f0, f1, f2⟩ := box3F hb1
    have hx := chainA hb1
    go_wp2
    exact bodyPost_ret (v := .agg #[.int .i64 3, .int .i64 1, .string ⟨#[]⟩]) (by simp [results, Tryd.results43, go_sem, a1, b1, c1]) rfl ⟨rfl, by go_grown⟩

theorem truth_implb (b : Bool) (n : Int) (hn : (if b = true then 1 else 0) = n) (w : World) :
    Calls Tryd.prog 43 #[.bool b] w fun e w' => e = .returned (.agg #[.int .i64 3, .int .i64 n, .string ⟨#[]⟩]) ∧ Below w.heap.size w w' := by
  subst hn; exact truth_impl b w

end Go.Proofs.YtgiknjlifocioaaDoor
