/-
  The contracts of the laws' own helpers (a cell taken over, its size, two cells held against each other) and of both functions that ask whether a cell is right.
-/
import Derived.Test.YthgbjnchhaoceaaDoorWalk1
namespace Go.Proofs.YthgbjnchhaoceaaDoor
open Go.ChangeShapes Go.WideShapes Go.ChangeAt Go.RowKit

theorem sz_laws (k n : Int) (t : ByteArray) (l : Int) (w : World) (ht : t.size ≤ maxLen) (h0 : 0 ≤ l) (h1 : l ≤ 1048576) :
    Calls Tryd.prog 33 #[.agg #[.int .i64 k, .int .i64 n, .string t], .int .i64 l] w fun e w' => e = .returned (.int .i64 (if l < (t.size : Int) then -1 else l - t.size)) ∧ Below w.heap.size w w' := by
  unfold maxLen at ht
  by_cases hl : l < (t.size : Int)
  · have hl' : l - (t.size : Int) < 0 := by omega
    go_enter Tryd.func33, Tryd.ntmps33
    go_wp2
    go_ret
    exact ⟨rfl, by go_grown⟩
  · have hl' : ¬ l - (t.size : Int) < 0 := by omega
    go_enter Tryd.func33, Tryd.ntmps33
    go_wp2
    go_ret
    exact ⟨rfl, by go_grown⟩

theorem to_laws (k n : Int) (t : ByteArray) (w : World) :
    Calls Tryd.prog 34 #[.agg #[.int .i64 k, .int .i64 n, .string t]] w fun e w' => e = .returned (.agg #[.int .i64 k, .int .i64 n, .string t]) ∧ Below w.heap.size w w' := by
  go_enter Tryd.func34, Tryd.ntmps34
  go_wp2
  go_returns
  exact ⟨rfl, by go_grown⟩

theorem ok_spec (k n : Int) (t : ByteArray) (w : World) (ht : t.size ≤ maxLen) :
    Calls Tryd.prog 30 #[.agg #[.int .i64 k, .int .i64 n, .string t]] w fun e w' => e = .returned (.bool (okB k n t)) ∧ Below w.heap.size w w' := by
  by_cases k0 : k = 0
  · subst k0
    go_enter Tryd.func30, Tryd.ntmps30
    go_wp2
    all_goals go_ret
    all_goals exact ⟨ret_bool (by simp [okB, *]), by go_grown⟩
  by_cases k1 : k = 1
  · subst k1
    go_enter Tryd.func30, Tryd.ntmps30
    go_wp2_with (go_at_call 41; refine (number_spec _ _).mono ?_; rintro e w' ⟨rfl, rfl⟩)
    all_goals go_ret
    all_goals exact ⟨ret_bool (by simp [okB, *]), by go_grown⟩
  by_cases k2 : k = 2
  · subst k2
    go_enter Tryd.func30, Tryd.ntmps30
    cases hL : (lets t.data.toList && decide ((t.size : Int) ≤ 12))
    all_goals
      go_wp2_with (go_at_call 42; refine (letters_spec _ _ _ ht).mono ?_; rintro e w' ⟨rfl, rfl⟩)
      go_ret
      exact ⟨ret_bool (by simp only [okB, hL]; simp), by go_grown⟩
  by_cases k3 : k = 3
  · subst k3
    go_enter Tryd.func30, Tryd.ntmps30
    go_wp2_with (go_at_call 32; refine (in_spec _ _ _ _).mono ?_; rintro e w' ⟨rfl, rfl⟩)
    all_goals go_ret
    all_goals exact ⟨ret_bool (by simp [okB, *]), by go_grown⟩
  · go_enter Tryd.func30, Tryd.ntmps30
    go_wp2
    go_ret
    exact ⟨ret_bool (by simp [okB, *]), by go_grown⟩

end Go.Proofs.YthgbjnchhaoceaaDoor
