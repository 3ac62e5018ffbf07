/-
  The contracts of the model's Plus, Less, Times and By.
-/
import Derived.Test.YtodldfplmdoblaaWalk8
namespace Go.Proofs.Ytodldfplmdoblaa
open Go.ChangeShapes Go.WideShapes Go.ChangeAt Go.RowKit

set_option maxHeartbeats 400000 in
theorem plus_spec_a (k1 n1 : Int) (t1 : ByteArray) (k2 n2 : Int) (t2 : ByteArray) (w : World) (ht1 : t1.size ≤ maxLen) (ht2 : t2.size ≤ maxLen) (hf : (rightB k1 n1 t1 && rightB k2 n2 t2) = false) :
    Calls Try.prog 10 #[.agg #[.int .i64 k1, .int .i64 n1, .string t1], .agg #[.int .i64 k2, .int .i64 n2, .string t2]] w fun e w' => e = .returned (.tuple #[.agg #[.int .i64 (resR addO k1 n1 t1 k2 n2 t2).1, .int .i64 (resR addO k1 n1 t1 k2 n2 t2).2.1, .string ⟨#[]⟩], .int .i64 (resR addO k1 n1 t1 k2 n2 t2).2.2]) ∧ Below w.heap.size w w' := by
  rw [show resR addO k1 n1 t1 k2 n2 t2 = (0, 0, 3) from by simp [resR, opR, hf]]
  go_enter Try.func10, Try.ntmps10
  go_wp2_with fail
  refine (sums_spec k1 n1 t1 k2 n2 t2 false false (by simp [hf]) (by simp) _ ht1 ht2).mono ?_
  rintro e w1 ⟨rfl, hb1⟩
  obtain ⟨⟨a1, b1, c1, d1⟩, ⟨x1, y1, z1, s1⟩, ⟨p1, q1, r1, s2⟩, ff⟩ := three3 hb1
  obtain ⟨f0, f1, f2⟩ := ff
  have hx := chainA (chainAA hb1)
  go_wp2
  exact bodyPost_ret (v := .tuple #[.agg #[.int .i64 0, .int .i64 0, .string ⟨#[]⟩], .int .i64 3]) (by simp [results, Try.results10, go_sem, p1, q1, r1]) rfl ⟨rfl, by go_grown⟩

set_option maxHeartbeats 400000 in
theorem plus_spec_b (k1 n1 : Int) (t1 : ByteArray) (k2 n2 : Int) (t2 : ByteArray) (w : World) (ht1 : t1.size ≤ maxLen) (ht2 : t2.size ≤ maxLen) (hf : (rightB k1 n1 t1 && rightB k2 n2 t2) = true) (hz : (k1 == 0 || k2 == 0) = true) :
    Calls Try.prog 10 #[.agg #[.int .i64 k1, .int .i64 n1, .string t1], .agg #[.int .i64 k2, .int .i64 n2, .string t2]] w fun e w' => e = .returned (.tuple #[.agg #[.int .i64 (resR addO k1 n1 t1 k2 n2 t2).1, .int .i64 (resR addO k1 n1 t1 k2 n2 t2).2.1, .string ⟨#[]⟩], .int .i64 (resR addO k1 n1 t1 k2 n2 t2).2.2]) ∧ Below w.heap.size w w' := by
  rw [show resR addO k1 n1 t1 k2 n2 t2 = (0, 0, 0) from by simp [resR, opR, hf, right_known k1 n1 t1 k2 n2 t2 hf, hz]]
  go_enter Try.func10, Try.ntmps10
  go_wp2_with fail
  refine (sums_spec k1 n1 t1 k2 n2 t2 true true (by simp [hf]) (by simp [hz]) _ ht1 ht2).mono ?_
  rintro e w1 ⟨rfl, hb1⟩
  obtain ⟨⟨a1, b1, c1, d1⟩, ⟨x1, y1, z1, s1⟩, ⟨p1, q1, r1, s2⟩, ff⟩ := three3 hb1
  obtain ⟨f0, f1, f2⟩ := ff
  have hx := chainA (chainAA hb1)
  go_wp2
  exact bodyPost_ret (v := .tuple #[.agg #[.int .i64 0, .int .i64 0, .string ⟨#[]⟩], .int .i64 0]) (by simp [results, Try.results10, go_sem, p1, q1, r1]) rfl ⟨rfl, by go_grown⟩

set_option maxHeartbeats 400000 in
theorem plus_spec_y (k1 n1 : Int) (t1 : ByteArray) (k2 n2 : Int) (t2 : ByteArray) (w : World) (ht1 : t1.size ≤ maxLen) (ht2 : t2.size ≤ maxLen) (hf : (rightB k1 n1 t1 && rightB k2 n2 t2) = true) (hz : (k1 == 0 || k2 == 0) = false) (hb : numB (wrap64 (n1 + n2)) = true) :
    Calls Try.prog 10 #[.agg #[.int .i64 k1, .int .i64 n1, .string t1], .agg #[.int .i64 k2, .int .i64 n2, .string t2]] w fun e w' => e = .returned (.tuple #[.agg #[.int .i64 (resR addO k1 n1 t1 k2 n2 t2).1, .int .i64 (resR addO k1 n1 t1 k2 n2 t2).2.1, .string ⟨#[]⟩], .int .i64 (resR addO k1 n1 t1 k2 n2 t2).2.2]) ∧ Below w.heap.size w w' := by
  rw [show resR addO k1 n1 t1 k2 n2 t2 = (1, wrap64 (n1 + n2), 0) from by simp [resR, opR, hf, right_known k1 n1 t1 k2 n2 t2 hf, hz, addO, hb]]
  go_enter Try.func10, Try.ntmps10
  go_wp2_with fail
  refine (sums_spec k1 n1 t1 k2 n2 t2 true false (by simp [hf]) (by simp [hz]) _ ht1 ht2).mono ?_
  rintro e w1 ⟨rfl, hb1⟩
  obtain ⟨⟨a1, b1, c1, d1⟩, ⟨x1, y1, z1, s1⟩, ⟨p1, q1, r1, s2⟩, ff⟩ := three3 hb1
  go_wp2_with fail
  refine (cell_spec_yes _ hb _).mono ?_
  rintro e w2 ⟨rfl, hb2⟩
  obtain ⟨f0, f1, f2⟩ := frozen3 hb2 s2 ff
  obtain ⟨p2, q2, r2, s3⟩ := later3 hb2 ⟨p1, q1, r1, s2⟩
  have hx := chain (chainA (chainAA hb1)) hb2
  go_wp2
  exact bodyPost_ret (v := .tuple #[.agg #[.int .i64 1, .int .i64 (wrap64 (n1 + n2)), .string ⟨#[]⟩], .int .i64 0]) (by simp [results, Try.results10, go_sem, p2, q2, r2]) rfl ⟨rfl, by go_grown⟩

set_option maxHeartbeats 400000 in
theorem plus_spec_n (k1 n1 : Int) (t1 : ByteArray) (k2 n2 : Int) (t2 : ByteArray) (w : World) (ht1 : t1.size ≤ maxLen) (ht2 : t2.size ≤ maxLen) (hf : (rightB k1 n1 t1 && rightB k2 n2 t2) = true) (hz : (k1 == 0 || k2 == 0) = false) (hb : numB (wrap64 (n1 + n2)) = false) :
    Calls Try.prog 10 #[.agg #[.int .i64 k1, .int .i64 n1, .string t1], .agg #[.int .i64 k2, .int .i64 n2, .string t2]] w fun e w' => e = .returned (.tuple #[.agg #[.int .i64 (resR addO k1 n1 t1 k2 n2 t2).1, .int .i64 (resR addO k1 n1 t1 k2 n2 t2).2.1, .string ⟨#[]⟩], .int .i64 (resR addO k1 n1 t1 k2 n2 t2).2.2]) ∧ Below w.heap.size w w' := by
  rw [show resR addO k1 n1 t1 k2 n2 t2 = (0, 0, 1) from by simp [resR, opR, hf, right_known k1 n1 t1 k2 n2 t2 hf, hz, addO, hb]]
  go_enter Try.func10, Try.ntmps10
  go_wp2_with fail
  refine (sums_spec k1 n1 t1 k2 n2 t2 true false (by simp [hf]) (by simp [hz]) _ ht1 ht2).mono ?_
  rintro e w1 ⟨rfl, hb1⟩
  obtain ⟨⟨a1, b1, c1, d1⟩, ⟨x1, y1, z1, s1⟩, ⟨p1, q1, r1, s2⟩, ff⟩ := three3 hb1
  go_wp2_with fail
  refine (cell_spec_no _ hb _).mono ?_
  rintro e w2 ⟨rfl, hb2⟩
  obtain ⟨f0, f1, f2⟩ := frozen3 hb2 s2 ff
  obtain ⟨p2, q2, r2, s3⟩ := later3 hb2 ⟨p1, q1, r1, s2⟩
  have hx := chain (chainA (chainAA hb1)) hb2
  go_wp2
  exact bodyPost_ret (v := .tuple #[.agg #[.int .i64 0, .int .i64 0, .string ⟨#[]⟩], .int .i64 1]) (by simp [results, Try.results10, go_sem, p2, q2, r2]) rfl ⟨rfl, by go_grown⟩

theorem plus_spec (k1 n1 : Int) (t1 : ByteArray) (k2 n2 : Int) (t2 : ByteArray) (w : World) (ht1 : t1.size ≤ maxLen) (ht2 : t2.size ≤ maxLen) :
    Calls Try.prog 10 #[.agg #[.int .i64 k1, .int .i64 n1, .string t1], .agg #[.int .i64 k2, .int .i64 n2, .string t2]] w fun e w' => e = .returned (.tuple #[.agg #[.int .i64 (resR addO k1 n1 t1 k2 n2 t2).1, .int .i64 (resR addO k1 n1 t1 k2 n2 t2).2.1, .string ⟨#[]⟩], .int .i64 (resR addO k1 n1 t1 k2 n2 t2).2.2]) ∧ Below w.heap.size w w' := by
  cases hf : (rightB k1 n1 t1 && rightB k2 n2 t2)
  · exact plus_spec_a k1 n1 t1 k2 n2 t2 w ht1 ht2 hf
  cases hz : (k1 == 0 || k2 == 0)
  · cases hb : numB (wrap64 (n1 + n2))
    · exact plus_spec_n k1 n1 t1 k2 n2 t2 w ht1 ht2 hf hz hb
    · exact plus_spec_y k1 n1 t1 k2 n2 t2 w ht1 ht2 hf hz hb
  · exact plus_spec_b k1 n1 t1 k2 n2 t2 w ht1 ht2 hf hz

set_option maxHeartbeats 400000 in
theorem less_spec_a (k1 n1 : Int) (t1 : ByteArray) (k2 n2 : Int) (t2 : ByteArray) (w : World) (ht1 : t1.size ≤ maxLen) (ht2 : t2.size ≤ maxLen) (hf : (rightB k1 n1 t1 && rightB k2 n2 t2) = false) :
    Calls Try.prog 13 #[.agg #[.int .i64 k1, .int .i64 n1, .string t1], .agg #[.int .i64 k2, .int .i64 n2, .string t2]] w fun e w' => e = .returned (.tuple #[.agg #[.int .i64 (resR subO k1 n1 t1 k2 n2 t2).1, .int .i64 (resR subO k1 n1 t1 k2 n2 t2).2.1, .string ⟨#[]⟩], .int .i64 (resR subO k1 n1 t1 k2 n2 t2).2.2]) ∧ Below w.heap.size w w' := by
  rw [show resR subO k1 n1 t1 k2 n2 t2 = (0, 0, 3) from by simp [resR, opR, hf]]
  go_enter Try.func13, Try.ntmps13
  go_wp2_with fail
  refine (sums_spec k1 n1 t1 k2 n2 t2 false false (by simp [hf]) (by simp) _ ht1 ht2).mono ?_
  rintro e w1 ⟨rfl, hb1⟩
  obtain ⟨⟨a1, b1, c1, d1⟩, ⟨x1, y1, z1, s1⟩, ⟨p1, q1, r1, s2⟩, ff⟩ := three3 hb1
  obtain ⟨f0, f1, f2⟩ := ff
  have hx := chainA (chainAA hb1)
  go_wp2
  exact bodyPost_ret (v := .tuple #[.agg #[.int .i64 0, .int .i64 0, .string ⟨#[]⟩], .int .i64 3]) (by simp [results, Try.results13, go_sem, p1, q1, r1]) rfl ⟨rfl, by go_grown⟩

set_option maxHeartbeats 400000 in
theorem less_spec_b (k1 n1 : Int) (t1 : ByteArray) (k2 n2 : Int) (t2 : ByteArray) (w : World) (ht1 : t1.size ≤ maxLen) (ht2 : t2.size ≤ maxLen) (hf : (rightB k1 n1 t1 && rightB k2 n2 t2) = true) (hz : (k1 == 0 || k2 == 0) = true) :
    Calls Try.prog 13 #[.agg #[.int .i64 k1, .int .i64 n1, .string t1], .agg #[.int .i64 k2, .int .i64 n2, .string t2]] w fun e w' => e = .returned (.tuple #[.agg #[.int .i64 (resR subO k1 n1 t1 k2 n2 t2).1, .int .i64 (resR subO k1 n1 t1 k2 n2 t2).2.1, .string ⟨#[]⟩], .int .i64 (resR subO k1 n1 t1 k2 n2 t2).2.2]) ∧ Below w.heap.size w w' := by
  rw [show resR subO k1 n1 t1 k2 n2 t2 = (0, 0, 0) from by simp [resR, opR, hf, right_known k1 n1 t1 k2 n2 t2 hf, hz]]
  go_enter Try.func13, Try.ntmps13
  go_wp2_with fail
  refine (sums_spec k1 n1 t1 k2 n2 t2 true true (by simp [hf]) (by simp [hz]) _ ht1 ht2).mono ?_
  rintro e w1 ⟨rfl, hb1⟩
  obtain ⟨⟨a1, b1, c1, d1⟩, ⟨x1, y1, z1, s1⟩, ⟨p1, q1, r1, s2⟩, ff⟩ := three3 hb1
  obtain ⟨f0, f1, f2⟩ := ff
  have hx := chainA (chainAA hb1)
  go_wp2
  exact bodyPost_ret (v := .tuple #[.agg #[.int .i64 0, .int .i64 0, .string ⟨#[]⟩], .int .i64 0]) (by simp [results, Try.results13, go_sem, p1, q1, r1]) rfl ⟨rfl, by go_grown⟩

set_option maxHeartbeats 400000 in
theorem less_spec_y (k1 n1 : Int) (t1 : ByteArray) (k2 n2 : Int) (t2 : ByteArray) (w : World) (ht1 : t1.size ≤ maxLen) (ht2 : t2.size ≤ maxLen) (hf : (rightB k1 n1 t1 && rightB k2 n2 t2) = true) (hz : (k1 == 0 || k2 == 0) = false) (hb : numB (wrap64 (n1 - n2)) = true) :
    Calls Try.prog 13 #[.agg #[.int .i64 k1, .int .i64 n1, .string t1], .agg #[.int .i64 k2, .int .i64 n2, .string t2]] w fun e w' => e = .returned (.tuple #[.agg #[.int .i64 (resR subO k1 n1 t1 k2 n2 t2).1, .int .i64 (resR subO k1 n1 t1 k2 n2 t2).2.1, .string ⟨#[]⟩], .int .i64 (resR subO k1 n1 t1 k2 n2 t2).2.2]) ∧ Below w.heap.size w w' := by
  rw [show resR subO k1 n1 t1 k2 n2 t2 = (1, wrap64 (n1 - n2), 0) from by simp [resR, opR, hf, right_known k1 n1 t1 k2 n2 t2 hf, hz, subO, hb]]
  go_enter Try.func13, Try.ntmps13
  go_wp2_with fail
  refine (sums_spec k1 n1 t1 k2 n2 t2 true false (by simp [hf]) (by simp [hz]) _ ht1 ht2).mono ?_
  rintro e w1 ⟨rfl, hb1⟩
  obtain ⟨⟨a1, b1, c1, d1⟩, ⟨x1, y1, z1, s1⟩, ⟨p1, q1, r1, s2⟩, ff⟩ := three3 hb1
  go_wp2_with fail
  refine (cell_spec_yes _ hb _).mono ?_
  rintro e w2 ⟨rfl, hb2⟩
  obtain ⟨f0, f1, f2⟩ := frozen3 hb2 s2 ff
  obtain ⟨p2, q2, r2, s3⟩ := later3 hb2 ⟨p1, q1, r1, s2⟩
  have hx := chain (chainA (chainAA hb1)) hb2
  go_wp2
  exact bodyPost_ret (v := .tuple #[.agg #[.int .i64 1, .int .i64 (wrap64 (n1 - n2)), .string ⟨#[]⟩], .int .i64 0]) (by simp [results, Try.results13, go_sem, p2, q2, r2]) rfl ⟨rfl, by go_grown⟩

set_option maxHeartbeats 400000 in
theorem less_spec_n (k1 n1 : Int) (t1 : ByteArray) (k2 n2 : Int) (t2 : ByteArray) (w : World) (ht1 : t1.size ≤ maxLen) (ht2 : t2.size ≤ maxLen) (hf : (rightB k1 n1 t1 && rightB k2 n2 t2) = true) (hz : (k1 == 0 || k2 == 0) = false) (hb : numB (wrap64 (n1 - n2)) = false) :
    Calls Try.prog 13 #[.agg #[.int .i64 k1, .int .i64 n1, .string t1], .agg #[.int .i64 k2, .int .i64 n2, .string t2]] w fun e w' => e = .returned (.tuple #[.agg #[.int .i64 (resR subO k1 n1 t1 k2 n2 t2).1, .int .i64 (resR subO k1 n1 t1 k2 n2 t2).2.1, .string ⟨#[]⟩], .int .i64 (resR subO k1 n1 t1 k2 n2 t2).2.2]) ∧ Below w.heap.size w w' := by
  rw [show resR subO k1 n1 t1 k2 n2 t2 = (0, 0, 1) from by simp [resR, opR, hf, right_known k1 n1 t1 k2 n2 t2 hf, hz, subO, hb]]
  go_enter Try.func13, Try.ntmps13
  go_wp2_with fail
  refine (sums_spec k1 n1 t1 k2 n2 t2 true false (by simp [hf]) (by simp [hz]) _ ht1 ht2).mono ?_
  rintro e w1 ⟨rfl, hb1⟩
  obtain ⟨⟨a1, b1, c1, d1⟩, ⟨x1, y1, z1, s1⟩, ⟨p1, q1, r1, s2⟩, ff⟩ := three3 hb1
  go_wp2_with fail
  refine (cell_spec_no _ hb _).mono ?_
  rintro e w2 ⟨rfl, hb2⟩
  obtain ⟨f0, f1, f2⟩ := frozen3 hb2 s2 ff
  obtain ⟨p2, q2, r2, s3⟩ := later3 hb2 ⟨p1, q1, r1, s2⟩
  have hx := chain (chainA (chainAA hb1)) hb2
  go_wp2
  exact bodyPost_ret (v := .tuple #[.agg #[.int .i64 0, .int .i64 0, .string ⟨#[]⟩], .int .i64 1]) (by simp [results, Try.results13, go_sem, p2, q2, r2]) rfl ⟨rfl, by go_grown⟩

theorem less_spec (k1 n1 : Int) (t1 : ByteArray) (k2 n2 : Int) (t2 : ByteArray) (w : World) (ht1 : t1.size ≤ maxLen) (ht2 : t2.size ≤ maxLen) :
    Calls Try.prog 13 #[.agg #[.int .i64 k1, .int .i64 n1, .string t1], .agg #[.int .i64 k2, .int .i64 n2, .string t2]] w fun e w' => e = .returned (.tuple #[.agg #[.int .i64 (resR subO k1 n1 t1 k2 n2 t2).1, .int .i64 (resR subO k1 n1 t1 k2 n2 t2).2.1, .string ⟨#[]⟩], .int .i64 (resR subO k1 n1 t1 k2 n2 t2).2.2]) ∧ Below w.heap.size w w' := by
  cases hf : (rightB k1 n1 t1 && rightB k2 n2 t2)
  · exact less_spec_a k1 n1 t1 k2 n2 t2 w ht1 ht2 hf
  cases hz : (k1 == 0 || k2 == 0)
  · cases hb : numB (wrap64 (n1 - n2))
    · exact less_spec_n k1 n1 t1 k2 n2 t2 w ht1 ht2 hf hz hb
    · exact less_spec_y k1 n1 t1 k2 n2 t2 w ht1 ht2 hf hz hb
  · exact less_spec_b k1 n1 t1 k2 n2 t2 w ht1 ht2 hf hz

set_option maxHeartbeats 400000 in
theorem times_spec_a (k1 n1 : Int) (t1 : ByteArray) (k2 n2 : Int) (t2 : ByteArray) (w : World) (ht1 : t1.size ≤ maxLen) (ht2 : t2.size ≤ maxLen) (hf : (rightB k1 n1 t1 && rightB k2 n2 t2) = false) :
    Calls Try.prog 14 #[.agg #[.int .i64 k1, .int .i64 n1, .string t1], .agg #[.int .i64 k2, .int .i64 n2, .string t2]] w fun e w' => e = .returned (.tuple #[.agg #[.int .i64 (resR mulO k1 n1 t1 k2 n2 t2).1, .int .i64 (resR mulO k1 n1 t1 k2 n2 t2).2.1, .string ⟨#[]⟩], .int .i64 (resR mulO k1 n1 t1 k2 n2 t2).2.2]) ∧ Below w.heap.size w w' := by
  rw [show resR mulO k1 n1 t1 k2 n2 t2 = (0, 0, 3) from by simp [resR, opR, hf]]
  go_enter Try.func14, Try.ntmps14
  go_wp2_with fail
  refine (sums_spec k1 n1 t1 k2 n2 t2 false false (by simp [hf]) (by simp) _ ht1 ht2).mono ?_
  rintro e w1 ⟨rfl, hb1⟩
  obtain ⟨⟨a1, b1, c1, d1⟩, ⟨x1, y1, z1, s1⟩, ⟨p1, q1, r1, s2⟩, ff⟩ := three3 hb1
  obtain ⟨f0, f1, f2⟩ := ff
  have hx := chainA (chainAA hb1)
  go_wp2
  exact bodyPost_ret (v := .tuple #[.agg #[.int .i64 0, .int .i64 0, .string ⟨#[]⟩], .int .i64 3]) (by simp [results, Try.results14, go_sem, p1, q1, r1]) rfl ⟨rfl, by go_grown⟩

set_option maxHeartbeats 400000 in
theorem times_spec_b (k1 n1 : Int) (t1 : ByteArray) (k2 n2 : Int) (t2 : ByteArray) (w : World) (ht1 : t1.size ≤ maxLen) (ht2 : t2.size ≤ maxLen) (hf : (rightB k1 n1 t1 && rightB k2 n2 t2) = true) (hz : (k1 == 0 || k2 == 0) = true) :
    Calls Try.prog 14 #[.agg #[.int .i64 k1, .int .i64 n1, .string t1], .agg #[.int .i64 k2, .int .i64 n2, .string t2]] w fun e w' => e = .returned (.tuple #[.agg #[.int .i64 (resR mulO k1 n1 t1 k2 n2 t2).1, .int .i64 (resR mulO k1 n1 t1 k2 n2 t2).2.1, .string ⟨#[]⟩], .int .i64 (resR mulO k1 n1 t1 k2 n2 t2).2.2]) ∧ Below w.heap.size w w' := by
  rw [show resR mulO k1 n1 t1 k2 n2 t2 = (0, 0, 0) from by simp [resR, opR, hf, right_known k1 n1 t1 k2 n2 t2 hf, hz]]
  go_enter Try.func14, Try.ntmps14
  go_wp2_with fail
  refine (sums_spec k1 n1 t1 k2 n2 t2 true true (by simp [hf]) (by simp [hz]) _ ht1 ht2).mono ?_
  rintro e w1 ⟨rfl, hb1⟩
  obtain ⟨⟨a1, b1, c1, d1⟩, ⟨x1, y1, z1, s1⟩, ⟨p1, q1, r1, s2⟩, ff⟩ := three3 hb1
  obtain ⟨f0, f1, f2⟩ := ff
  have hx := chainA (chainAA hb1)
  go_wp2
  exact bodyPost_ret (v := .tuple #[.agg #[.int .i64 0, .int .i64 0, .string ⟨#[]⟩], .int .i64 0]) (by simp [results, Try.results14, go_sem, p1, q1, r1]) rfl ⟨rfl, by go_grown⟩

set_option maxHeartbeats 400000 in
theorem times_spec_y (k1 n1 : Int) (t1 : ByteArray) (k2 n2 : Int) (t2 : ByteArray) (w : World) (ht1 : t1.size ≤ maxLen) (ht2 : t2.size ≤ maxLen) (hf : (rightB k1 n1 t1 && rightB k2 n2 t2) = true) (hz : (k1 == 0 || k2 == 0) = false) (hb : numB (wrap64 (n1 * n2)) = true) :
    Calls Try.prog 14 #[.agg #[.int .i64 k1, .int .i64 n1, .string t1], .agg #[.int .i64 k2, .int .i64 n2, .string t2]] w fun e w' => e = .returned (.tuple #[.agg #[.int .i64 (resR mulO k1 n1 t1 k2 n2 t2).1, .int .i64 (resR mulO k1 n1 t1 k2 n2 t2).2.1, .string ⟨#[]⟩], .int .i64 (resR mulO k1 n1 t1 k2 n2 t2).2.2]) ∧ Below w.heap.size w w' := by
  rw [show resR mulO k1 n1 t1 k2 n2 t2 = (1, wrap64 (n1 * n2), 0) from by simp [resR, opR, hf, right_known k1 n1 t1 k2 n2 t2 hf, hz, mulO, hb]]
  go_enter Try.func14, Try.ntmps14
  go_wp2_with fail
  refine (sums_spec k1 n1 t1 k2 n2 t2 true false (by simp [hf]) (by simp [hz]) _ ht1 ht2).mono ?_
  rintro e w1 ⟨rfl, hb1⟩
  obtain ⟨⟨a1, b1, c1, d1⟩, ⟨x1, y1, z1, s1⟩, ⟨p1, q1, r1, s2⟩, ff⟩ := three3 hb1
  go_wp2_with fail
  refine (cell_spec_yes _ hb _).mono ?_
  rintro e w2 ⟨rfl, hb2⟩
  obtain ⟨f0, f1, f2⟩ := frozen3 hb2 s2 ff
  obtain ⟨p2, q2, r2, s3⟩ := later3 hb2 ⟨p1, q1, r1, s2⟩
  have hx := chain (chainA (chainAA hb1)) hb2
  go_wp2
  exact bodyPost_ret (v := .tuple #[.agg #[.int .i64 1, .int .i64 (wrap64 (n1 * n2)), .string ⟨#[]⟩], .int .i64 0]) (by simp [results, Try.results14, go_sem, p2, q2, r2]) rfl ⟨rfl, by go_grown⟩

set_option maxHeartbeats 400000 in
theorem times_spec_n (k1 n1 : Int) (t1 : ByteArray) (k2 n2 : Int) (t2 : ByteArray) (w : World) (ht1 : t1.size ≤ maxLen) (ht2 : t2.size ≤ maxLen) (hf : (rightB k1 n1 t1 && rightB k2 n2 t2) = true) (hz : (k1 == 0 || k2 == 0) = false) (hb : numB (wrap64 (n1 * n2)) = false) :
    Calls Try.prog 14 #[.agg #[.int .i64 k1, .int .i64 n1, .string t1], .agg #[.int .i64 k2, .int .i64 n2, .string t2]] w fun e w' => e = .returned (.tuple #[.agg #[.int .i64 (resR mulO k1 n1 t1 k2 n2 t2).1, .int .i64 (resR mulO k1 n1 t1 k2 n2 t2).2.1, .string ⟨#[]⟩], .int .i64 (resR mulO k1 n1 t1 k2 n2 t2).2.2]) ∧ Below w.heap.size w w' := by
  rw [show resR mulO k1 n1 t1 k2 n2 t2 = (0, 0, 1) from by simp [resR, opR, hf, right_known k1 n1 t1 k2 n2 t2 hf, hz, mulO, hb]]
  go_enter Try.func14, Try.ntmps14
  go_wp2_with fail
  refine (sums_spec k1 n1 t1 k2 n2 t2 true false (by simp [hf]) (by simp [hz]) _ ht1 ht2).mono ?_
  rintro e w1 ⟨rfl, hb1⟩
  obtain ⟨⟨a1, b1, c1, d1⟩, ⟨x1, y1, z1, s1⟩, ⟨p1, q1, r1, s2⟩, ff⟩ := three3 hb1
  go_wp2_with fail
  refine (cell_spec_no _ hb _).mono ?_
  rintro e w2 ⟨rfl, hb2⟩
  obtain ⟨f0, f1, f2⟩ := frozen3 hb2 s2 ff
  obtain ⟨p2, q2, r2, s3⟩ := later3 hb2 ⟨p1, q1, r1, s2⟩
  have hx := chain (chainA (chainAA hb1)) hb2
  go_wp2
  exact bodyPost_ret (v := .tuple #[.agg #[.int .i64 0, .int .i64 0, .string ⟨#[]⟩], .int .i64 1]) (by simp [results, Try.results14, go_sem, p2, q2, r2]) rfl ⟨rfl, by go_grown⟩

theorem times_spec (k1 n1 : Int) (t1 : ByteArray) (k2 n2 : Int) (t2 : ByteArray) (w : World) (ht1 : t1.size ≤ maxLen) (ht2 : t2.size ≤ maxLen) :
    Calls Try.prog 14 #[.agg #[.int .i64 k1, .int .i64 n1, .string t1], .agg #[.int .i64 k2, .int .i64 n2, .string t2]] w fun e w' => e = .returned (.tuple #[.agg #[.int .i64 (resR mulO k1 n1 t1 k2 n2 t2).1, .int .i64 (resR mulO k1 n1 t1 k2 n2 t2).2.1, .string ⟨#[]⟩], .int .i64 (resR mulO k1 n1 t1 k2 n2 t2).2.2]) ∧ Below w.heap.size w w' := by
  cases hf : (rightB k1 n1 t1 && rightB k2 n2 t2)
  · exact times_spec_a k1 n1 t1 k2 n2 t2 w ht1 ht2 hf
  cases hz : (k1 == 0 || k2 == 0)
  · cases hb : numB (wrap64 (n1 * n2))
    · exact times_spec_n k1 n1 t1 k2 n2 t2 w ht1 ht2 hf hz hb
    · exact times_spec_y k1 n1 t1 k2 n2 t2 w ht1 ht2 hf hz hb
  · exact times_spec_b k1 n1 t1 k2 n2 t2 w ht1 ht2 hf hz

set_option maxHeartbeats 400000 in
theorem by_spec_a (k1 n1 : Int) (t1 : ByteArray) (k2 n2 : Int) (t2 : ByteArray) (w : World) (ht1 : t1.size ≤ maxLen) (ht2 : t2.size ≤ maxLen) (hf : (rightB k1 n1 t1 && rightB k2 n2 t2) = false) :
    Calls Try.prog 15 #[.agg #[.int .i64 k1, .int .i64 n1, .string t1], .agg #[.int .i64 k2, .int .i64 n2, .string t2]] w fun e w' => e = .returned (.tuple #[.agg #[.int .i64 (resR divO k1 n1 t1 k2 n2 t2).1, .int .i64 (resR divO k1 n1 t1 k2 n2 t2).2.1, .string ⟨#[]⟩], .int .i64 (resR divO k1 n1 t1 k2 n2 t2).2.2]) ∧ Below w.heap.size w w' := by
  rw [show resR divO k1 n1 t1 k2 n2 t2 = (0, 0, 3) from by simp [resR, opR, hf]]
  go_enter Try.func15, Try.ntmps15
  go_wp2_with fail
  refine (sums_spec k1 n1 t1 k2 n2 t2 false false (by simp [hf]) (by simp) _ ht1 ht2).mono ?_
  rintro e w1 ⟨rfl, hb1⟩
  obtain ⟨⟨a1, b1, c1, d1⟩, ⟨x1, y1, z1, s1⟩, ⟨p1, q1, r1, s2⟩, ff⟩ := three3 hb1
  obtain ⟨f0, f1, f2⟩ := ff
  have hx := chainA (chainAA hb1)
  go_wp2
  exact bodyPost_ret (v := .tuple #[.agg #[.int .i64 0, .int .i64 0, .string ⟨#[]⟩], .int .i64 3]) (by simp [results, Try.results15, go_sem, p1, q1, r1]) rfl ⟨rfl, by go_grown⟩

set_option maxHeartbeats 400000 in
theorem by_spec_b (k1 n1 : Int) (t1 : ByteArray) (k2 n2 : Int) (t2 : ByteArray) (w : World) (ht1 : t1.size ≤ maxLen) (ht2 : t2.size ≤ maxLen) (hf : (rightB k1 n1 t1 && rightB k2 n2 t2) = true) (hz : (k1 == 0 || k2 == 0) = true) :
    Calls Try.prog 15 #[.agg #[.int .i64 k1, .int .i64 n1, .string t1], .agg #[.int .i64 k2, .int .i64 n2, .string t2]] w fun e w' => e = .returned (.tuple #[.agg #[.int .i64 (resR divO k1 n1 t1 k2 n2 t2).1, .int .i64 (resR divO k1 n1 t1 k2 n2 t2).2.1, .string ⟨#[]⟩], .int .i64 (resR divO k1 n1 t1 k2 n2 t2).2.2]) ∧ Below w.heap.size w w' := by
  rw [show resR divO k1 n1 t1 k2 n2 t2 = (0, 0, 0) from by simp [resR, opR, hf, right_known k1 n1 t1 k2 n2 t2 hf, hz]]
  go_enter Try.func15, Try.ntmps15
  go_wp2_with fail
  refine (sums_spec k1 n1 t1 k2 n2 t2 true true (by simp [hf]) (by simp [hz]) _ ht1 ht2).mono ?_
  rintro e w1 ⟨rfl, hb1⟩
  obtain ⟨⟨a1, b1, c1, d1⟩, ⟨x1, y1, z1, s1⟩, ⟨p1, q1, r1, s2⟩, ff⟩ := three3 hb1
  obtain ⟨f0, f1, f2⟩ := ff
  have hx := chainA (chainAA hb1)
  go_wp2
  exact bodyPost_ret (v := .tuple #[.agg #[.int .i64 0, .int .i64 0, .string ⟨#[]⟩], .int .i64 0]) (by simp [results, Try.results15, go_sem, p1, q1, r1]) rfl ⟨rfl, by go_grown⟩

set_option maxHeartbeats 400000 in
theorem by_spec_z (k1 n1 : Int) (t1 : ByteArray) (k2 n2 : Int) (t2 : ByteArray) (w : World) (ht1 : t1.size ≤ maxLen) (ht2 : t2.size ≤ maxLen) (hf : (rightB k1 n1 t1 && rightB k2 n2 t2) = true) (hz : (k1 == 0 || k2 == 0) = false) (hn : n2 = 0) :
    Calls Try.prog 15 #[.agg #[.int .i64 k1, .int .i64 n1, .string t1], .agg #[.int .i64 k2, .int .i64 n2, .string t2]] w fun e w' => e = .returned (.tuple #[.agg #[.int .i64 (resR divO k1 n1 t1 k2 n2 t2).1, .int .i64 (resR divO k1 n1 t1 k2 n2 t2).2.1, .string ⟨#[]⟩], .int .i64 (resR divO k1 n1 t1 k2 n2 t2).2.2]) ∧ Below w.heap.size w w' := by
  subst hn
  rw [show resR divO k1 n1 t1 k2 0 t2 = (0, 0, 2) from by simp [resR, opR, hf, right_known k1 n1 t1 k2 0 t2 hf, hz, divO]]
  go_enter Try.func15, Try.ntmps15
  go_wp2_with fail
  refine (sums_spec k1 n1 t1 k2 0 t2 true false (by simp [hf]) (by simp [hz]) _ ht1 ht2).mono ?_
  rintro e w1 ⟨rfl, hb1⟩
  obtain ⟨⟨a1, b1, c1, d1⟩, ⟨x1, y1, z1, s1⟩, ⟨p1, q1, r1, s2⟩, ff⟩ := three3 hb1
  obtain ⟨f0, f1, f2⟩ := ff
  have hx := chainA (chainAA hb1)
  go_wp2
  exact bodyPost_ret (v := .tuple #[.agg #[.int .i64 0, .int .i64 0, .string ⟨#[]⟩], .int .i64 2]) (by simp [results, Try.results15, go_sem, p1, q1, r1]) rfl ⟨rfl, by go_grown⟩

set_option maxHeartbeats 400000 in
theorem by_spec_y (k1 n1 : Int) (t1 : ByteArray) (k2 n2 : Int) (t2 : ByteArray) (w : World) (ht1 : t1.size ≤ maxLen) (ht2 : t2.size ≤ maxLen) (hf : (rightB k1 n1 t1 && rightB k2 n2 t2) = true) (hz : (k1 == 0 || k2 == 0) = false) (hn : n2 ≠ 0) (hb : numB (wrap64 (n1.tdiv n2)) = true) :
    Calls Try.prog 15 #[.agg #[.int .i64 k1, .int .i64 n1, .string t1], .agg #[.int .i64 k2, .int .i64 n2, .string t2]] w fun e w' => e = .returned (.tuple #[.agg #[.int .i64 (resR divO k1 n1 t1 k2 n2 t2).1, .int .i64 (resR divO k1 n1 t1 k2 n2 t2).2.1, .string ⟨#[]⟩], .int .i64 (resR divO k1 n1 t1 k2 n2 t2).2.2]) ∧ Below w.heap.size w w' := by
  rw [show resR divO k1 n1 t1 k2 n2 t2 = (1, wrap64 (n1.tdiv n2), 0) from by simp [resR, opR, hf, right_known k1 n1 t1 k2 n2 t2 hf, hz, divO, hn, hb]]
  go_enter Try.func15, Try.ntmps15
  go_wp2_with fail
  refine (sums_spec k1 n1 t1 k2 n2 t2 true false (by simp [hf]) (by simp [hz]) _ ht1 ht2).mono ?_
  rintro e w1 ⟨rfl, hb1⟩
  obtain ⟨⟨a1, b1, c1, d1⟩, ⟨x1, y1, z1, s1⟩, ⟨p1, q1, r1, s2⟩, ff⟩ := three3 hb1
  go_wp2_with fail
  refine (cell_spec_yes _ hb _).mono ?_
  rintro e w2 ⟨rfl, hb2⟩
  obtain ⟨f0, f1, f2⟩ := frozen3 hb2 s2 ff
  obtain ⟨p2, q2, r2, s3⟩ := later3 hb2 ⟨p1, q1, r1, s2⟩
  have hx := chain (chainA (chainAA hb1)) hb2
  go_wp2
  exact bodyPost_ret (v := .tuple #[.agg #[.int .i64 1, .int .i64 (wrap64 (n1.tdiv n2)), .string ⟨#[]⟩], .int .i64 0]) (by simp [results, Try.results15, go_sem, p2, q2, r2]) rfl ⟨rfl, by go_grown⟩

set_option maxHeartbeats 400000 in
theorem by_spec_n (k1 n1 : Int) (t1 : ByteArray) (k2 n2 : Int) (t2 : ByteArray) (w : World) (ht1 : t1.size ≤ maxLen) (ht2 : t2.size ≤ maxLen) (hf : (rightB k1 n1 t1 && rightB k2 n2 t2) = true) (hz : (k1 == 0 || k2 == 0) = false) (hn : n2 ≠ 0) (hb : numB (wrap64 (n1.tdiv n2)) = false) :
    Calls Try.prog 15 #[.agg #[.int .i64 k1, .int .i64 n1, .string t1], .agg #[.int .i64 k2, .int .i64 n2, .string t2]] w fun e w' => e = .returned (.tuple #[.agg #[.int .i64 (resR divO k1 n1 t1 k2 n2 t2).1, .int .i64 (resR divO k1 n1 t1 k2 n2 t2).2.1, .string ⟨#[]⟩], .int .i64 (resR divO k1 n1 t1 k2 n2 t2).2.2]) ∧ Below w.heap.size w w' := by
  rw [show resR divO k1 n1 t1 k2 n2 t2 = (0, 0, 1) from by simp [resR, opR, hf, right_known k1 n1 t1 k2 n2 t2 hf, hz, divO, hn, hb]]
  go_enter Try.func15, Try.ntmps15
  go_wp2_with fail
  refine (sums_spec k1 n1 t1 k2 n2 t2 true false (by simp [hf]) (by simp [hz]) _ ht1 ht2).mono ?_
  rintro e w1 ⟨rfl, hb1⟩
  obtain ⟨⟨a1, b1, c1, d1⟩, ⟨x1, y1, z1, s1⟩, ⟨p1, q1, r1, s2⟩, ff⟩ := three3 hb1
  go_wp2_with fail
  refine (cell_spec_no _ hb _).mono ?_
  rintro e w2 ⟨rfl, hb2⟩
  obtain ⟨f0, f1, f2⟩ := frozen3 hb2 s2 ff
  obtain ⟨p2, q2, r2, s3⟩ := later3 hb2 ⟨p1, q1, r1, s2⟩
  have hx := chain (chainA (chainAA hb1)) hb2
  go_wp2
  exact bodyPost_ret (v := .tuple #[.agg #[.int .i64 0, .int .i64 0, .string ⟨#[]⟩], .int .i64 1]) (by simp [results, Try.results15, go_sem, p2, q2, r2]) rfl ⟨rfl, by go_grown⟩

theorem by_spec (k1 n1 : Int) (t1 : ByteArray) (k2 n2 : Int) (t2 : ByteArray) (w : World) (ht1 : t1.size ≤ maxLen) (ht2 : t2.size ≤ maxLen) :
    Calls Try.prog 15 #[.agg #[.int .i64 k1, .int .i64 n1, .string t1], .agg #[.int .i64 k2, .int .i64 n2, .string t2]] w fun e w' => e = .returned (.tuple #[.agg #[.int .i64 (resR divO k1 n1 t1 k2 n2 t2).1, .int .i64 (resR divO k1 n1 t1 k2 n2 t2).2.1, .string ⟨#[]⟩], .int .i64 (resR divO k1 n1 t1 k2 n2 t2).2.2]) ∧ Below w.heap.size w w' := by
  cases hf : (rightB k1 n1 t1 && rightB k2 n2 t2)
  · exact by_spec_a k1 n1 t1 k2 n2 t2 w ht1 ht2 hf
  cases hz : (k1 == 0 || k2 == 0)
  · by_cases hn : n2 = 0
    · exact by_spec_z k1 n1 t1 k2 n2 t2 w ht1 ht2 hf hz hn
    cases hb : numB (wrap64 (n1.tdiv n2))
    · exact by_spec_n k1 n1 t1 k2 n2 t2 w ht1 ht2 hf hz hn hb
    · exact by_spec_y k1 n1 t1 k2 n2 t2 w ht1 ht2 hf hz hn hb
  · exact by_spec_b k1 n1 t1 k2 n2 t2 w ht1 ht2 hf hz

end Go.Proofs.Ytodldfplmdoblaa
