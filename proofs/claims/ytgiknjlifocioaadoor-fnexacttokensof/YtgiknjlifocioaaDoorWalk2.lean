/-
  The contracts of the laws' own helpers (a cell taken over, its size, two cells held against each other) and of both functions that ask whether a cell is right.
-/
import Derived.Test.YtgiknjlifocioaaDoorWalk1
namespace Go.Proofs.YtgiknjlifocioaaDoor
open Go.ChangeShapes Go.WideShapes Go.ChangeAt Go.RowKit

theorem ok_spec (k n : Int) (t : ByteArray) (w : World) (ht : t.size ≤ maxLen) :
    Calls Tryd.prog 22 #[.agg #[.int .i64 k, .int .i64 n, .string t]] w fun e w' => e = .returned (.bool (okB k n t)) ∧ Below w.heap.size w w' := by
  by_cases k0 : k = 0
  · subst k0
    go_enter Tryd.func22, Tryd.ntmps22
    go_wp2
    all_goals go_ret
    all_goals exact ⟨ret_bool (by simp [okB, *]), by go_grown⟩
  by_cases k1 : k = 1
  · subst k1
    go_enter Tryd.func22, Tryd.ntmps22
    go_wp2_with (go_at_call 35; refine (number_spec _ _).mono ?_; rintro e w' ⟨rfl, rfl⟩)
    all_goals go_ret
    all_goals exact ⟨ret_bool (by simp [okB, *]), by go_grown⟩
  by_cases k2 : k = 2
  · subst k2
    go_enter Tryd.func22, Tryd.ntmps22
    cases hL : (lets t.data.toList && decide ((t.size : Int) ≤ 12))
    all_goals
      go_wp2_with (go_at_call 36; refine (letters_spec _ _ _ ht).mono ?_; rintro e w' ⟨rfl, rfl⟩)
      go_ret
      exact ⟨ret_bool (by simp only [okB, hL]; simp), by go_grown⟩
  by_cases k3 : k = 3
  · subst k3
    go_enter Tryd.func22, Tryd.ntmps22
    go_wp2_with (go_at_call 37; refine (in_spec _ _ _ _).mono ?_; rintro e w' ⟨rfl, rfl⟩)
    all_goals go_ret
    all_goals exact ⟨ret_bool (by simp [okB, *]), by go_grown⟩
  · go_enter Tryd.func22, Tryd.ntmps22
    go_wp2
    go_ret
    exact ⟨ret_bool (by simp [okB, *]), by go_grown⟩

end Go.Proofs.YtgiknjlifocioaaDoor
