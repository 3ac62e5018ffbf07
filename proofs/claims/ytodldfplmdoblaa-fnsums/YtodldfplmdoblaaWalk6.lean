/-
  The contract of the model's helper that asks whether two cells can be reckoned with.
-/
import Derived.Test.YtodldfplmdoblaaWalk5
import Derived.Deep.QuietTactic
import Derived.BigQuiet
namespace Go.Proofs.Ytodldfplmdoblaa
open Go.ChangeShapes Go.WideShapes Go.ChangeAt Go.RowKit

theorem belowN {B : Nat} {a w : World} (h : Below B a w) (n : Nat) : Below B a (w.drewN n) := h.trans ⟨rfl, rfl, rfl, Nat.le_refl _, fun _ _ => rfl⟩

theorem ok_specb (k n : Int) (t : ByteArray) (b : Bool) (hb : okB k n t = b) (w : World) (ht : t.size ≤ maxLen) :
    Calls Try.prog 12 #[.agg #[.int .i64 k, .int .i64 n, .string t]] w fun e w' => e = .returned (.bool b) ∧ Below w.heap.size w w' := by
  subst hb; exact ok_spec k n t w ht

set_option maxHeartbeats 400000 in
theorem sums_a (k1 n1 : Int) (t1 : ByteArray) (k2 n2 : Int) (t2 : ByteArray) (w : World) (ht1 : t1.size ≤ maxLen) (h1 : okB k1 n1 t1 = false) :
    Calls Try.prog 23 #[.agg #[.int .i64 k1, .int .i64 n1, .string t1], .agg #[.int .i64 k2, .int .i64 n2, .string t2]] w fun e w' => e = .returned (.tuple #[.bool false, .bool false]) ∧ Below w.heap.size w w' := by
  go_enter Try.func23, Try.ntmps23
  go_wp2_with fail
  refine (ok_specb _ _ _ _ h1 _ ht1).mono ?_
  rintro e w1 ⟨rfl, hb1⟩
  obtain ⟨⟨a1, b1, c1, d1⟩, ⟨x1, y1, z1, s1⟩, ff⟩ := two3 hb1
  have hx := chainAA hb1
  go_wp2_with fail
  go_quiet (fail)
  go_wp2
  go_ret2
  exact ⟨rfl, belowN hx _⟩

set_option maxHeartbeats 400000 in
theorem sums_b (k1 n1 : Int) (t1 : ByteArray) (k2 n2 : Int) (t2 : ByteArray) (w : World) (ht1 : t1.size ≤ maxLen) (ht2 : t2.size ≤ maxLen) (h1 : okB k1 n1 t1 = true) (h2 : okB k2 n2 t2 = false) :
    Calls Try.prog 23 #[.agg #[.int .i64 k1, .int .i64 n1, .string t1], .agg #[.int .i64 k2, .int .i64 n2, .string t2]] w fun e w' => e = .returned (.tuple #[.bool false, .bool false]) ∧ Below w.heap.size w w' := by
  go_enter Try.func23, Try.ntmps23
  go_wp2_with fail
  refine (ok_specb _ _ _ _ h1 _ ht1).mono ?_
  rintro e w1 ⟨rfl, hb1⟩
  obtain ⟨⟨a1, b1, c1, d1⟩, ⟨x1, y1, z1, s1⟩, ff⟩ := two3 hb1
  go_wp2_with fail
  refine (ok_specb _ _ _ _ h2 _ ht2).mono ?_
  rintro e w2 ⟨rfl, hb2⟩
  obtain ⟨a2, b2, c2, d2⟩ := later3 hb2 ⟨a1, b1, c1, d1⟩
  obtain ⟨x2, y2, z2, s2⟩ := later3 hb2 ⟨x1, y1, z1, s1⟩
  have hx := chain (chainAA hb1) hb2
  go_wp2_with fail
  go_quiet (fail)
  go_wp2
  go_ret2
  exact ⟨rfl, belowN hx _⟩

set_option maxHeartbeats 400000 in
theorem sums_c (k1 n1 : Int) (t1 : ByteArray) (k2 n2 : Int) (t2 : ByteArray) (w : World) (ht1 : t1.size ≤ maxLen) (ht2 : t2.size ≤ maxLen) (h1 : okB k1 n1 t1 = true) (h2 : okB k2 n2 t2 = true) (e1 : (k1 == 1) = false) (e0 : (k1 == 0) = false) :
    Calls Try.prog 23 #[.agg #[.int .i64 k1, .int .i64 n1, .string t1], .agg #[.int .i64 k2, .int .i64 n2, .string t2]] w fun e w' => e = .returned (.tuple #[.bool false, .bool false]) ∧ Below w.heap.size w w' := by
  go_enter Try.func23, Try.ntmps23
  go_wp2_with fail
  refine (ok_specb _ _ _ _ h1 _ ht1).mono ?_
  rintro e w1 ⟨rfl, hb1⟩
  obtain ⟨⟨a1, b1, c1, d1⟩, ⟨x1, y1, z1, s1⟩, ff⟩ := two3 hb1
  go_wp2_with fail
  refine (ok_specb _ _ _ _ h2 _ ht2).mono ?_
  rintro e w2 ⟨rfl, hb2⟩
  obtain ⟨a2, b2, c2, d2⟩ := later3 hb2 ⟨a1, b1, c1, d1⟩
  obtain ⟨x2, y2, z2, s2⟩ := later3 hb2 ⟨x1, y1, z1, s1⟩
  have hx := chain (chainAA hb1) hb2
  go_wp2_with fail
  go_quiet (fail)
  go_wp2
  go_ret2
  exact ⟨rfl, belowN hx _⟩

set_option maxHeartbeats 400000 in
theorem sums_d0 (n1 : Int) (t1 : ByteArray) (k2 n2 : Int) (t2 : ByteArray) (w : World) (ht1 : t1.size ≤ maxLen) (ht2 : t2.size ≤ maxLen) (h1 : okB 0 n1 t1 = true) (h2 : okB k2 n2 t2 = true) (e1 : (k2 == 1) = false) (e0 : (k2 == 0) = false) :
    Calls Try.prog 23 #[.agg #[.int .i64 0, .int .i64 n1, .string t1], .agg #[.int .i64 k2, .int .i64 n2, .string t2]] w fun e w' => e = .returned (.tuple #[.bool false, .bool false]) ∧ Below w.heap.size w w' := by
  go_enter Try.func23, Try.ntmps23
  go_wp2_with fail
  refine (ok_specb _ _ _ _ h1 _ ht1).mono ?_
  rintro e w1 ⟨rfl, hb1⟩
  obtain ⟨⟨a1, b1, c1, d1⟩, ⟨x1, y1, z1, s1⟩, ff⟩ := two3 hb1
  go_wp2_with fail
  refine (ok_specb _ _ _ _ h2 _ ht2).mono ?_
  rintro e w2 ⟨rfl, hb2⟩
  obtain ⟨a2, b2, c2, d2⟩ := later3 hb2 ⟨a1, b1, c1, d1⟩
  obtain ⟨x2, y2, z2, s2⟩ := later3 hb2 ⟨x1, y1, z1, s1⟩
  have hx := chain (chainAA hb1) hb2
  go_wp2_with fail
  go_quiet (fail)
  go_wp2
  go_ret2
  exact ⟨rfl, belowN hx _⟩

set_option maxHeartbeats 400000 in
theorem sums_d1 (n1 : Int) (t1 : ByteArray) (k2 n2 : Int) (t2 : ByteArray) (w : World) (ht1 : t1.size ≤ maxLen) (ht2 : t2.size ≤ maxLen) (h1 : okB 1 n1 t1 = true) (h2 : okB k2 n2 t2 = true) (e1 : (k2 == 1) = false) (e0 : (k2 == 0) = false) :
    Calls Try.prog 23 #[.agg #[.int .i64 1, .int .i64 n1, .string t1], .agg #[.int .i64 k2, .int .i64 n2, .string t2]] w fun e w' => e = .returned (.tuple #[.bool false, .bool false]) ∧ Below w.heap.size w w' := by
  go_enter Try.func23, Try.ntmps23
  go_wp2_with fail
  refine (ok_specb _ _ _ _ h1 _ ht1).mono ?_
  rintro e w1 ⟨rfl, hb1⟩
  obtain ⟨⟨a1, b1, c1, d1⟩, ⟨x1, y1, z1, s1⟩, ff⟩ := two3 hb1
  go_wp2_with fail
  refine (ok_specb _ _ _ _ h2 _ ht2).mono ?_
  rintro e w2 ⟨rfl, hb2⟩
  obtain ⟨a2, b2, c2, d2⟩ := later3 hb2 ⟨a1, b1, c1, d1⟩
  obtain ⟨x2, y2, z2, s2⟩ := later3 hb2 ⟨x1, y1, z1, s1⟩
  have hx := chain (chainAA hb1) hb2
  go_wp2_with fail
  go_quiet (fail)
  go_wp2
  go_ret2
  exact ⟨rfl, belowN hx _⟩

set_option maxHeartbeats 400000 in
theorem sums_e00 (n1 : Int) (t1 : ByteArray) (n2 : Int) (t2 : ByteArray) (w : World) (ht1 : t1.size ≤ maxLen) (ht2 : t2.size ≤ maxLen) (h1 : okB 0 n1 t1 = true) (h2 : okB 0 n2 t2 = true) :
    Calls Try.prog 23 #[.agg #[.int .i64 0, .int .i64 n1, .string t1], .agg #[.int .i64 0, .int .i64 n2, .string t2]] w fun e w' => e = .returned (.tuple #[.bool true, .bool true]) ∧ Below w.heap.size w w' := by
  go_enter Try.func23, Try.ntmps23
  go_wp2_with fail
  refine (ok_specb _ _ _ _ h1 _ ht1).mono ?_
  rintro e w1 ⟨rfl, hb1⟩
  obtain ⟨⟨a1, b1, c1, d1⟩, ⟨x1, y1, z1, s1⟩, ff⟩ := two3 hb1
  go_wp2_with fail
  refine (ok_specb _ _ _ _ h2 _ ht2).mono ?_
  rintro e w2 ⟨rfl, hb2⟩
  obtain ⟨a2, b2, c2, d2⟩ := later3 hb2 ⟨a1, b1, c1, d1⟩
  obtain ⟨x2, y2, z2, s2⟩ := later3 hb2 ⟨x1, y1, z1, s1⟩
  have hx := chain (chainAA hb1) hb2
  go_wp2_with fail
  go_quiet (fail)
  go_wp2
  go_ret2
  exact ⟨rfl, belowN hx _⟩

set_option maxHeartbeats 400000 in
theorem sums_e01 (n1 : Int) (t1 : ByteArray) (n2 : Int) (t2 : ByteArray) (w : World) (ht1 : t1.size ≤ maxLen) (ht2 : t2.size ≤ maxLen) (h1 : okB 0 n1 t1 = true) (h2 : okB 1 n2 t2 = true) :
    Calls Try.prog 23 #[.agg #[.int .i64 0, .int .i64 n1, .string t1], .agg #[.int .i64 1, .int .i64 n2, .string t2]] w fun e w' => e = .returned (.tuple #[.bool true, .bool true]) ∧ Below w.heap.size w w' := by
  go_enter Try.func23, Try.ntmps23
  go_wp2_with fail
  refine (ok_specb _ _ _ _ h1 _ ht1).mono ?_
  rintro e w1 ⟨rfl, hb1⟩
  obtain ⟨⟨a1, b1, c1, d1⟩, ⟨x1, y1, z1, s1⟩, ff⟩ := two3 hb1
  go_wp2_with fail
  refine (ok_specb _ _ _ _ h2 _ ht2).mono ?_
  rintro e w2 ⟨rfl, hb2⟩
  obtain ⟨a2, b2, c2, d2⟩ := later3 hb2 ⟨a1, b1, c1, d1⟩
  obtain ⟨x2, y2, z2, s2⟩ := later3 hb2 ⟨x1, y1, z1, s1⟩
  have hx := chain (chainAA hb1) hb2
  go_wp2_with fail
  go_quiet (fail)
  go_wp2
  go_ret2
  exact ⟨rfl, belowN hx _⟩

set_option maxHeartbeats 400000 in
theorem sums_e10 (n1 : Int) (t1 : ByteArray) (n2 : Int) (t2 : ByteArray) (w : World) (ht1 : t1.size ≤ maxLen) (ht2 : t2.size ≤ maxLen) (h1 : okB 1 n1 t1 = true) (h2 : okB 0 n2 t2 = true) :
    Calls Try.prog 23 #[.agg #[.int .i64 1, .int .i64 n1, .string t1], .agg #[.int .i64 0, .int .i64 n2, .string t2]] w fun e w' => e = .returned (.tuple #[.bool true, .bool true]) ∧ Below w.heap.size w w' := by
  go_enter Try.func23, Try.ntmps23
  go_wp2_with fail
  refine (ok_specb _ _ _ _ h1 _ ht1).mono ?_
  rintro e w1 ⟨rfl, hb1⟩
  obtain ⟨⟨a1, b1, c1, d1⟩, ⟨x1, y1, z1, s1⟩, ff⟩ := two3 hb1
  go_wp2_with fail
  refine (ok_specb _ _ _ _ h2 _ ht2).mono ?_
  rintro e w2 ⟨rfl, hb2⟩
  obtain ⟨a2, b2, c2, d2⟩ := later3 hb2 ⟨a1, b1, c1, d1⟩
  obtain ⟨x2, y2, z2, s2⟩ := later3 hb2 ⟨x1, y1, z1, s1⟩
  have hx := chain (chainAA hb1) hb2
  go_wp2_with fail
  go_quiet (fail)
  go_wp2
  go_ret2
  exact ⟨rfl, belowN hx _⟩

set_option maxHeartbeats 400000 in
theorem sums_e11 (n1 : Int) (t1 : ByteArray) (n2 : Int) (t2 : ByteArray) (w : World) (ht1 : t1.size ≤ maxLen) (ht2 : t2.size ≤ maxLen) (h1 : okB 1 n1 t1 = true) (h2 : okB 1 n2 t2 = true) :
    Calls Try.prog 23 #[.agg #[.int .i64 1, .int .i64 n1, .string t1], .agg #[.int .i64 1, .int .i64 n2, .string t2]] w fun e w' => e = .returned (.tuple #[.bool true, .bool false]) ∧ Below w.heap.size w w' := by
  go_enter Try.func23, Try.ntmps23
  go_wp2_with fail
  refine (ok_specb _ _ _ _ h1 _ ht1).mono ?_
  rintro e w1 ⟨rfl, hb1⟩
  obtain ⟨⟨a1, b1, c1, d1⟩, ⟨x1, y1, z1, s1⟩, ff⟩ := two3 hb1
  go_wp2_with fail
  refine (ok_specb _ _ _ _ h2 _ ht2).mono ?_
  rintro e w2 ⟨rfl, hb2⟩
  obtain ⟨a2, b2, c2, d2⟩ := later3 hb2 ⟨a1, b1, c1, d1⟩
  obtain ⟨x2, y2, z2, s2⟩ := later3 hb2 ⟨x1, y1, z1, s1⟩
  have hx := chain (chainAA hb1) hb2
  go_wp2_with fail
  go_quiet (fail)
  go_wp2
  go_ret2
  exact ⟨rfl, belowN hx _⟩

/-- Are both right, and each a number or none? And is one none? -/
theorem sums_spec (k1 n1 : Int) (t1 : ByteArray) (k2 n2 : Int) (t2 : ByteArray) (f z : Bool) (hf : (rightB k1 n1 t1 && rightB k2 n2 t2) = f) (hz : (f && (k1 == 0 || k2 == 0)) = z) (w : World) (ht1 : t1.size ≤ maxLen) (ht2 : t2.size ≤ maxLen) :
    Calls Try.prog 23 #[.agg #[.int .i64 k1, .int .i64 n1, .string t1], .agg #[.int .i64 k2, .int .i64 n2, .string t2]] w fun e w' => e = .returned (.tuple #[.bool f, .bool z]) ∧ Below w.heap.size w w' := by
  subst hf hz
  cases h1 : okB k1 n1 t1
  · rw [show rightB k1 n1 t1 = false from by simp [rightB, h1]]
    exact sums_a k1 n1 t1 k2 n2 t2 w ht1 h1
  cases h2 : okB k2 n2 t2
  · rw [show rightB k2 n2 t2 = false from by simp [rightB, h2], Bool.and_false]
    exact sums_b k1 n1 t1 k2 n2 t2 w ht1 ht2 h1 h2
  by_cases k11 : k1 = 1
  · subst k11
    rw [show rightB 1 n1 t1 = true from by simp [rightB, h1]]
    by_cases k21 : k2 = 1
    · subst k21
      rw [show rightB 1 n2 t2 = true from by simp [rightB, h2]]
      exact sums_e11 n1 t1 n2 t2 w ht1 ht2 h1 h2
    by_cases k20 : k2 = 0
    · subst k20
      rw [show rightB 0 n2 t2 = true from by simp [rightB, h2]]
      exact sums_e10 n1 t1 n2 t2 w ht1 ht2 h1 h2
    · rw [show rightB k2 n2 t2 = false from by simp [rightB, k20, k21]]
      exact sums_d1 n1 t1 k2 n2 t2 w ht1 ht2 h1 h2 (by simp [k21]) (by simp [k20])
  by_cases k10 : k1 = 0
  · subst k10
    rw [show rightB 0 n1 t1 = true from by simp [rightB, h1]]
    by_cases k21 : k2 = 1
    · subst k21
      rw [show rightB 1 n2 t2 = true from by simp [rightB, h2]]
      exact sums_e01 n1 t1 n2 t2 w ht1 ht2 h1 h2
    by_cases k20 : k2 = 0
    · subst k20
      rw [show rightB 0 n2 t2 = true from by simp [rightB, h2]]
      exact sums_e00 n1 t1 n2 t2 w ht1 ht2 h1 h2
    · rw [show rightB k2 n2 t2 = false from by simp [rightB, k20, k21]]
      exact sums_d0 n1 t1 k2 n2 t2 w ht1 ht2 h1 h2 (by simp [k21]) (by simp [k20])
  · rw [show rightB k1 n1 t1 = false from by simp [rightB, k10, k11]]
    exact sums_c k1 n1 t1 k2 n2 t2 w ht1 ht2 h1 h2 (by simp [k11]) (by simp [k10])

end Go.Proofs.Ytodldfplmdoblaa
