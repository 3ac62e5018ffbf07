/-
  The program's question whether a cell is right answers as it should, at every cell.
-/
import Derived.Test.YtgiknjlifocioaaDoorWalk3
namespace Go.Proofs.YtgiknjlifocioaaDoor
open Go.ChangeShapes Go.WideShapes Go.ChangeAt Go.RowKit

theorem cell0 (w : World) :
    Calls Tryd.prog 42 #[.agg #[]] w fun e w' => e = .returned (.agg #[.int .i64 0, .int .i64 0, .string ⟨#[]⟩]) ∧ Below w.heap.size w w' := by
  go_enter Tryd.func42, Tryd.ntmps42
  go_wp2
  go_returns
  exact ⟨rfl, by go_grown⟩

theorem cell1 (n : Int) (w : World) :
    Calls Tryd.prog 49 #[.agg #[.int .i64 n]] w fun e w' => e = .returned (.agg #[.int .i64 1, .int .i64 n, .string ⟨#[]⟩]) ∧ Below w.heap.size w w' := by
  go_enter Tryd.func49, Tryd.ntmps49
  go_wp2
  go_returns
  exact ⟨rfl, by go_grown⟩

theorem cell2 (t : ByteArray) (w : World) :
    Calls Tryd.prog 47 #[.agg #[.string t]] w fun e w' => e = .returned (.agg #[.int .i64 2, .int .i64 0, .string t]) ∧ Below w.heap.size w w' := by
  go_enter Tryd.func47, Tryd.ntmps47
  go_wp2
  go_returns
  exact ⟨rfl, by go_grown⟩

theorem cell3 (n : Int) (w : World) :
    Calls Tryd.prog 54 #[.agg #[.int .i64 n]] w fun e w' => e = .returned (.agg #[.int .i64 3, .int .i64 n, .string ⟨#[]⟩]) ∧ Below w.heap.size w w' := by
  go_enter Tryd.func54, Tryd.ntmps54
  go_wp2
  go_returns
  exact ⟨rfl, by go_grown⟩

theorem shapeOk1b (n : Int) (b : Bool) (hg : numB n = b) (w : World) :
    Calls Tryd.prog 53 #[.iface 70 (.agg #[.int .i64 n])] w fun e w' => e = .returned (.bool b) ∧ Below w.heap.size w w' := by
  subst hg; exact shapeOk1 n w
theorem shapeOk2b (t : ByteArray) (b : Bool) (hg : (lets t.data.toList && decide ((t.size : Int) ≤ 12)) = b) (w : World) (ht : t.size ≤ maxLen) :
    Calls Tryd.prog 53 #[.iface 64 (.agg #[.string t])] w fun e w' => e = .returned (.bool b) ∧ Below w.heap.size w w' := by
  subst hg; exact shapeOk2 t w ht
theorem shapeOk3b (n : Int) (b : Bool) (hg : (decide (0 ≤ n) && decide (n ≤ 1)) = b) (w : World) :
    Calls Tryd.prog 53 #[.iface 76 (.agg #[.int .i64 n])] w fun e w' => e = .returned (.bool b) ∧ Below w.heap.size w w' := by
  subst hg; exact shapeOk3 n w

theorem toList_empty : (⟨#[]⟩ : ByteArray).toList = [] := by rw [ByteArray.toList_eq]
theorem same0 (n : Int) (t : ByteArray) : okB 0 n t = sameB 0 0 ⟨#[]⟩ 0 n t := by
  rw [Bool.eq_iff_iff, sameB_eq]
  unfold okB
  rw [if_pos rfl, Bool.and_eq_true, beq_iff_eq, List.isEmpty_iff]
  exact ⟨fun ⟨h1, h2⟩ => ⟨rfl, h1.symm, bytes_eq (by rw [h2, toList_empty])⟩, fun ⟨_, h1, h2⟩ => ⟨h1.symm, by rw [← h2, toList_empty]⟩⟩
theorem same1 (n : Int) (t : ByteArray) (k : Int) : t.toList.isEmpty = sameB k n ⟨#[]⟩ k n t := by
  rw [Bool.eq_iff_iff, sameB_eq, List.isEmpty_iff]
  exact ⟨fun h2 => ⟨rfl, rfl, bytes_eq (by rw [h2, toList_empty])⟩, fun ⟨_, _, h2⟩ => by rw [← h2, toList_empty]⟩
theorem same2 (n : Int) (t : ByteArray) (k : Int) : (n == 0) = sameB k 0 t k n t := by
  rw [Bool.eq_iff_iff, sameB_eq, beq_iff_eq]
  exact ⟨fun h => ⟨rfl, h.symm, rfl⟩, fun ⟨_, h, _⟩ => h.symm⟩

set_option maxHeartbeats 400000 in
theorem ok_impl0 (n : Int) (t : ByteArray) (w : World) :
    Calls Tryd.prog 41 #[.agg #[.int .i64 0, .int .i64 n, .string t]] w fun e w' => e = .returned (.bool (okB 0 n t)) ∧ Below w.heap.size w w' := by
  have hq := run_eql
  rw [show okB 0 n t = sameB 0 0 ⟨#[]⟩ 0 n t from same0 n t]
  go_enter Tryd.func41, Tryd.ntmps41
  go_wp2_with fail
  refine (shape0 _ _ _).mono ?_
  rintro e w1 ⟨rfl, hb1⟩
  obtain ⟨a1, b1, c1, d1⟩ := box3 hb1
  go_wp2_with fail
  first | go_region_with (first
    | (go_at_call 53; refine (shapeOk0 _).mono ?_; rintro e w2 ⟨rfl, hb2⟩; obtain ⟨a2, b2, c2, d2⟩ := later3 hb2 ⟨a1, b1, c1, d1⟩)
    | (go_at_call 42; refine (cell0 _).mono ?_; rintro e w3 ⟨rfl, hb3⟩; obtain ⟨a3, b3, c3, d3⟩ := later3 hb3 ⟨a2, b2, c2, d2⟩)) | fail
  all_goals go_wp2
  all_goals go_ret
  all_goals exact ⟨rfl, chain (chain (chainA hb1).drew hb2) hb3⟩

set_option maxHeartbeats 400000 in
theorem ok_impl1 (n : Int) (t : ByteArray) (w : World) :
    Calls Tryd.prog 41 #[.agg #[.int .i64 1, .int .i64 n, .string t]] w fun e w' => e = .returned (.bool (okB 1 n t)) ∧ Below w.heap.size w w' := by
  have hq := run_eql
  cases hg : numB n
  · rw [show okB 1 n t = false from by simp only [okB, hg]; simp]
    go_enter Tryd.func41, Tryd.ntmps41
    go_wp2_with fail
    refine (shape1 _ _ _).mono ?_
    rintro e w1 ⟨rfl, hb1⟩
    obtain ⟨a1, b1, c1, d1⟩ := box3 hb1
    go_wp2_with fail
    first | go_region_with (first
      | (go_at_call 53; refine (shapeOk1b _ _ hg _).mono ?_; rintro e w2 ⟨rfl, hb2⟩; obtain ⟨a2, b2, c2, d2⟩ := later3 hb2 ⟨a1, b1, c1, d1⟩)
      | (go_at_call 49; refine (cell1 _ _).mono ?_; rintro e w3 ⟨rfl, hb3⟩; obtain ⟨a3, b3, c3, d3⟩ := later3 hb3 ⟨a2, b2, c2, d2⟩)) | fail
    all_goals go_wp2
    all_goals go_ret
    all_goals exact ⟨rfl, chain (chainA hb1).drew hb2⟩
  · rw [show okB 1 n t = sameB 1 n ⟨#[]⟩ 1 n t from by rw [← same1]; simp [okB, hg]]
    go_enter Tryd.func41, Tryd.ntmps41
    go_wp2_with fail
    refine (shape1 _ _ _).mono ?_
    rintro e w1 ⟨rfl, hb1⟩
    obtain ⟨a1, b1, c1, d1⟩ := box3 hb1
    go_wp2_with fail
    first | go_region_with (first
      | (go_at_call 53; refine (shapeOk1b _ _ hg _).mono ?_; rintro e w2 ⟨rfl, hb2⟩; obtain ⟨a2, b2, c2, d2⟩ := later3 hb2 ⟨a1, b1, c1, d1⟩)
      | (go_at_call 49; refine (cell1 _ _).mono ?_; rintro e w3 ⟨rfl, hb3⟩; obtain ⟨a3, b3, c3, d3⟩ := later3 hb3 ⟨a2, b2, c2, d2⟩)) | fail
    all_goals go_wp2
    all_goals go_ret
    all_goals exact ⟨rfl, chain (chain (chainA hb1).drew hb2) hb3⟩

set_option maxHeartbeats 400000 in
theorem ok_impl2 (n : Int) (t : ByteArray) (w : World) (ht : t.size ≤ maxLen) :
    Calls Tryd.prog 41 #[.agg #[.int .i64 2, .int .i64 n, .string t]] w fun e w' => e = .returned (.bool (okB 2 n t)) ∧ Below w.heap.size w w' := by
  have hq := run_eql
  cases hg : (lets t.data.toList && decide ((t.size : Int) ≤ 12))
  · rw [show okB 2 n t = false from by simp only [okB, hg]; simp]
    go_enter Tryd.func41, Tryd.ntmps41
    go_wp2_with fail
    refine (shape2 _ _ _).mono ?_
    rintro e w1 ⟨rfl, hb1⟩
    obtain ⟨a1, b1, c1, d1⟩ := box3 hb1
    go_wp2_with fail
    first | go_region_with (first
      | (go_at_call 53; refine (shapeOk2b _ _ hg _ ht).mono ?_; rintro e w2 ⟨rfl, hb2⟩; obtain ⟨a2, b2, c2, d2⟩ := later3 hb2 ⟨a1, b1, c1, d1⟩)
      | (go_at_call 47; refine (cell2 _ _).mono ?_; rintro e w3 ⟨rfl, hb3⟩; obtain ⟨a3, b3, c3, d3⟩ := later3 hb3 ⟨a2, b2, c2, d2⟩)) | fail
    all_goals go_wp2
    all_goals go_ret
    all_goals exact ⟨rfl, chain (chainA hb1).drew hb2⟩
  · rw [show okB 2 n t = sameB 2 0 t 2 n t from by rw [← same2]; simp only [okB, hg]; simp]
    go_enter Tryd.func41, Tryd.ntmps41
    go_wp2_with fail
    refine (shape2 _ _ _).mono ?_
    rintro e w1 ⟨rfl, hb1⟩
    obtain ⟨a1, b1, c1, d1⟩ := box3 hb1
    go_wp2_with fail
    first | go_region_with (first
      | (go_at_call 53; refine (shapeOk2b _ _ hg _ ht).mono ?_; rintro e w2 ⟨rfl, hb2⟩; obtain ⟨a2, b2, c2, d2⟩ := later3 hb2 ⟨a1, b1, c1, d1⟩)
      | (go_at_call 47; refine (cell2 _ _).mono ?_; rintro e w3 ⟨rfl, hb3⟩; obtain ⟨a3, b3, c3, d3⟩ := later3 hb3 ⟨a2, b2, c2, d2⟩)) | fail
    all_goals go_wp2
    all_goals go_ret
    all_goals exact ⟨rfl, chain (chain (chainA hb1).drew hb2) hb3⟩

set_option maxHeartbeats 400000 in
theorem ok_impl3 (n : Int) (t : ByteArray) (w : World) :
    Calls Tryd.prog 41 #[.agg #[.int .i64 3, .int .i64 n, .string t]] w fun e w' => e = .returned (.bool (okB 3 n t)) ∧ Below w.heap.size w w' := by
  have hq := run_eql
  cases hg : (decide (0 ≤ n) && decide (n ≤ 1))
  · rw [show okB 3 n t = false from by simp only [okB, hg]; simp]
    go_enter Tryd.func41, Tryd.ntmps41
    go_wp2_with fail
    refine (shape3 _ _ _).mono ?_
    rintro e w1 ⟨rfl, hb1⟩
    obtain ⟨a1, b1, c1, d1⟩ := box3 hb1
    go_wp2_with fail
    first | go_region_with (first
      | (go_at_call 53; refine (shapeOk3b _ _ hg _).mono ?_; rintro e w2 ⟨rfl, hb2⟩; obtain ⟨a2, b2, c2, d2⟩ := later3 hb2 ⟨a1, b1, c1, d1⟩)
      | (go_at_call 54; refine (cell3 _ _).mono ?_; rintro e w3 ⟨rfl, hb3⟩; obtain ⟨a3, b3, c3, d3⟩ := later3 hb3 ⟨a2, b2, c2, d2⟩)) | fail
    all_goals go_wp2
    all_goals go_ret
    all_goals exact ⟨rfl, chain (chainA hb1).drew hb2⟩
  · rw [show okB 3 n t = sameB 3 n ⟨#[]⟩ 3 n t from by rw [← same1]; simp only [okB, hg]; simp]
    go_enter Tryd.func41, Tryd.ntmps41
    go_wp2_with fail
    refine (shape3 _ _ _).mono ?_
    rintro e w1 ⟨rfl, hb1⟩
    obtain ⟨a1, b1, c1, d1⟩ := box3 hb1
    go_wp2_with fail
    first | go_region_with (first
      | (go_at_call 53; refine (shapeOk3b _ _ hg _).mono ?_; rintro e w2 ⟨rfl, hb2⟩; obtain ⟨a2, b2, c2, d2⟩ := later3 hb2 ⟨a1, b1, c1, d1⟩)
      | (go_at_call 54; refine (cell3 _ _).mono ?_; rintro e w3 ⟨rfl, hb3⟩; obtain ⟨a3, b3, c3, d3⟩ := later3 hb3 ⟨a2, b2, c2, d2⟩)) | fail
    all_goals go_wp2
    all_goals go_ret
    all_goals exact ⟨rfl, chain (chain (chainA hb1).drew hb2) hb3⟩

set_option maxHeartbeats 400000 in
theorem ok_impl4 (k n : Int) (t : ByteArray) (w : World) (k0 : k ≠ 0) (k1 : k ≠ 1) (k2 : k ≠ 2) (k3 : k ≠ 3) :
    Calls Tryd.prog 41 #[.agg #[.int .i64 k, .int .i64 n, .string t]] w fun e w' => e = .returned (.bool (okB k n t)) ∧ Below w.heap.size w w' := by
  rw [show okB k n t = false from by simp [okB, k0, k1, k2, k3]]
  go_enter Tryd.func41, Tryd.ntmps41
  go_wp2_with fail
  refine (shape4 _ _ _ _ k0 k1 k2 k3).mono ?_
  rintro e w1 ⟨rfl, hb1⟩
  obtain ⟨a1, b1, c1, d1⟩ := box3 hb1
  go_wp2_with fail
  first | go_region_with (go_at_call 53; refine (shapeOk4 _).mono ?_; rintro e w2 ⟨rfl, hb2⟩; obtain ⟨a2, b2, c2, d2⟩ := later3 hb2 ⟨a1, b1, c1, d1⟩) | fail
  all_goals go_wp2
  all_goals go_ret
  all_goals exact ⟨rfl, chain (chainA hb1).drew hb2⟩

theorem ok_impl (k n : Int) (t : ByteArray) (w : World) (ht : t.size ≤ maxLen) :
    Calls Tryd.prog 41 #[.agg #[.int .i64 k, .int .i64 n, .string t]] w fun e w' => e = .returned (.bool (okB k n t)) ∧ Below w.heap.size w w' := by
  by_cases k0 : k = 0
  · subst k0; exact ok_impl0 n t w
  by_cases k1 : k = 1
  · subst k1; exact ok_impl1 n t w
  by_cases k2 : k = 2
  · subst k2; exact ok_impl2 n t w ht
  by_cases k3 : k = 3
  · subst k3; exact ok_impl3 n t w
  · exact ok_impl4 k n t w k0 k1 k2 k3

end Go.Proofs.YtgiknjlifocioaaDoor
