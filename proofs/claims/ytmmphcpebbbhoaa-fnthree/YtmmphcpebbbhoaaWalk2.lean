/-
  The contracts of the laws' own helpers (a cell taken over, its size, two cells held against each other) and of both functions that ask whether a cell is right.
-/
import Derived.Test.YtmmphcpebbbhoaaWalk1
namespace Go.Proofs.Ytmmphcpebbbhoaa
open Go.ChangeShapes Go.WideShapes Go.ChangeAt Go.RowKit

theorem ret_int {k : IntKind} {a b : Int} (h : a = b) : Ending.returned (.int k a) = .returned (.int k b) := by rw [h]

theorem bcell {W w1 : World} (hb : Below W.heap.size W w1) : (∀ b o, b < W.heap.size → w1.cell? ⟨b, o, none⟩ = W.cell? ⟨b, o, none⟩) ∧ (∀ b o, b < W.heap.size → w1.frozen? ⟨b, o, none⟩ = W.frozen? ⟨b, o, none⟩) :=
  ⟨fun b o h => hb.cell (p := ⟨b, o, none⟩) h, fun b o h => hb.frozen (p := ⟨b, o, none⟩) h⟩

theorem ok_spec (k n : Int) (t : ByteArray) (w : World) (ht : t.size ≤ maxLen) :
    Calls Try.prog 13 #[.agg #[.int .i64 k, .int .i64 n, .string t]] w fun e w' => e = .returned (.bool (okB k n t)) ∧ Below w.heap.size w w' := by
  by_cases k0 : k = 0
  · subst k0
    go_enter Try.func13, Try.ntmps13
    go_wp2
    all_goals go_ret
    all_goals exact ⟨ret_bool (by simp [okB, *]), by go_grown⟩
  by_cases k1 : k = 1
  · subst k1
    go_enter Try.func13, Try.ntmps13
    go_wp2_with (go_at_call 40; refine (number_spec _ _).mono ?_; rintro e w' ⟨rfl, rfl⟩)
    all_goals go_ret
    all_goals exact ⟨ret_bool (by simp [okB, *]), by go_grown⟩
  by_cases k2 : k = 2
  · subst k2
    go_enter Try.func13, Try.ntmps13
    cases hL : (lets t.data.toList && decide ((t.size : Int) ≤ 12))
    all_goals
      go_wp2_with (go_at_call 41; refine (letters_spec _ _ _ ht).mono ?_; rintro e w' ⟨rfl, rfl⟩)
      go_ret
      exact ⟨ret_bool (by simp only [okB, hL]; simp), by go_grown⟩
  by_cases k3 : k = 3
  · subst k3
    go_enter Try.func13, Try.ntmps13
    go_wp2_with (go_at_call 42; refine (in_spec _ _ _ _).mono ?_; rintro e w' ⟨rfl, rfl⟩)
    all_goals go_ret
    all_goals exact ⟨ret_bool (by simp [okB, *]), by go_grown⟩
  · go_enter Try.func13, Try.ntmps13
    go_wp2
    go_ret
    exact ⟨ret_bool (by simp [okB, *]), by go_grown⟩

end Go.Proofs.Ytmmphcpebbbhoaa
