/-
  What comes of right answers, by their ranks; and the contracts of the program's and the model's functions with what comes named by letters.
-/
import Derived.Test.YtgablbdphflokaaThree4
namespace Go.Proofs.Ytgablbdphflokaa
open Go.ChangeShapes Go.WideShapes Go.ChangeAt Go.RowKit

theorem rk_of {k n : Int} {t : ByteArray} (h : threeB k n t = true) : ∃ x, (0 ≤ x ∧ x ≤ 2) ∧ k = rkK x ∧ n = rkN x ∧ t = ⟨#[]⟩ := by
  rcases three_cases h with ⟨rfl, rfl, rfl⟩ | ⟨rfl, rfl, rfl⟩ | ⟨rfl, rfl, rfl⟩
  · exact ⟨1, by omega, rfl, rfl, rfl⟩
  · exact ⟨0, by omega, rfl, rfl, rfl⟩
  · exact ⟨2, by omega, rfl, rfl, rfl⟩

theorem rk_right {x : Int} (h : 0 ≤ x ∧ x ≤ 2) : threeB (rkK x) (rkN x) ⟨#[]⟩ = true ∧ rankI (rkK x) (rkN x) = x := by
  rcases (show x = 0 ∨ x = 1 ∨ x = 2 by omega) with rfl | rfl | rfl
  all_goals exact ⟨by simp [threeB, okB, rkK, rkN], by simp [rankI, rkK, rkN]⟩

theorem both_rk {x y p : Int} (hx : 0 ≤ x ∧ x ≤ 2) (hy : 0 ≤ y ∧ y ≤ 2) (hp : min x y = p) : bothR (rkK x) (rkN x) ⟨#[]⟩ (rkK y) (rkN y) ⟨#[]⟩ = (rkK p, rkN p, 0) := by
  unfold bothR
  rw [(rk_right hx).1, (rk_right hy).1, (rk_right hx).2, (rk_right hy).2, hp]; rfl
theorem either_rk {x y p : Int} (hx : 0 ≤ x ∧ x ≤ 2) (hy : 0 ≤ y ∧ y ≤ 2) (hp : max x y = p) : eitherR (rkK x) (rkN x) ⟨#[]⟩ (rkK y) (rkN y) ⟨#[]⟩ = (rkK p, rkN p, 0) := by
  unfold eitherR
  rw [(rk_right hx).1, (rk_right hy).1, (rk_right hx).2, (rk_right hy).2, hp]; rfl
theorem not_rk {x p : Int} (hx : 0 ≤ x ∧ x ≤ 2) (hp : 2 - x = p) : notR (rkK x) (rkN x) ⟨#[]⟩ = (rkK p, rkN p, 0) := by
  unfold notR
  rw [(rk_right hx).1, (rk_right hx).2, hp]; rfl
theorem holds_rk {x : Int} (hx : 0 ≤ x ∧ x ≤ 2) : sameB (rkK x) (rkN x) ⟨#[]⟩ 3 1 ⟨#[]⟩ = decide (x = 2) := by
  rcases (show x = 0 ∨ x = 1 ∨ x = 2 by omega) with rfl | rfl | rfl <;> simp [sameB, rkK, rkN]

theorem both_wrong {k1 n1 : Int} {t1 : ByteArray} {k2 n2 : Int} {t2 : ByteArray} (h : (threeB k1 n1 t1 && threeB k2 n2 t2) = false) : bothR k1 n1 t1 k2 n2 t2 = (0, 0, 3) := by
  unfold bothR; rw [h]; rfl
theorem either_wrong {k1 n1 : Int} {t1 : ByteArray} {k2 n2 : Int} {t2 : ByteArray} (h : (threeB k1 n1 t1 && threeB k2 n2 t2) = false) : eitherR k1 n1 t1 k2 n2 t2 = (0, 0, 3) := by
  unfold eitherR; rw [h]; rfl
theorem none_ok {k n : Int} {t : ByteArray} (h : okB k n t = true) : noneR k n t = (3, (if k = 0 then 1 else 0), 0) := by unfold noneR; rw [h]; rfl
theorem none_wrong {k n : Int} {t : ByteArray} (h : okB k n t = false) : noneR k n t = (0, 0, 3) := by unfold noneR; rw [h]; rfl
theorem none_holds {k m : Int} (hm : (if k = 0 then 1 else 0) = m) : sameB 3 m ⟨#[]⟩ 3 1 ⟨#[]⟩ = (k == 0) := by
  subst hm
  by_cases h : k = 0 <;> simp [sameB, h]

theorem both_impl' (k1 n1 : Int) (t1 : ByteArray) (k2 n2 : Int) (t2 : ByteArray) (x y z : Int) (hR : Hid (bothR k1 n1 t1 k2 n2 t2 = (x, y, z))) (w : World) (ht1 : t1.size ≤ maxLen) (ht2 : t2.size ≤ maxLen) :
    Calls Try.prog 20 #[.agg #[.int .i64 k1, .int .i64 n1, .string t1], .agg #[.int .i64 k2, .int .i64 n2, .string t2]] w fun e w' => e = .returned (.tuple #[.agg #[.int .i64 x, .int .i64 y, .string ⟨#[]⟩], .int .i64 z]) ∧ Below w.heap.size w w' := by
  have h := both_impl k1 n1 t1 k2 n2 t2 w ht1 ht2
  rw [hR.out] at h; exact h
theorem both_spec' (k1 n1 : Int) (t1 : ByteArray) (k2 n2 : Int) (t2 : ByteArray) (x y z : Int) (hR : Hid (bothR k1 n1 t1 k2 n2 t2 = (x, y, z))) (w : World) (ht1 : t1.size ≤ maxLen) (ht2 : t2.size ≤ maxLen) :
    Calls Try.prog 25 #[.agg #[.int .i64 k1, .int .i64 n1, .string t1], .agg #[.int .i64 k2, .int .i64 n2, .string t2]] w fun e w' => e = .returned (.tuple #[.agg #[.int .i64 x, .int .i64 y, .string ⟨#[]⟩], .int .i64 z]) ∧ Below w.heap.size w w' := by
  have h := both_spec k1 n1 t1 k2 n2 t2 w ht1 ht2
  rw [hR.out] at h; exact h
theorem either_impl' (k1 n1 : Int) (t1 : ByteArray) (k2 n2 : Int) (t2 : ByteArray) (x y z : Int) (hR : Hid (eitherR k1 n1 t1 k2 n2 t2 = (x, y, z))) (w : World) (ht1 : t1.size ≤ maxLen) (ht2 : t2.size ≤ maxLen) :
    Calls Try.prog 21 #[.agg #[.int .i64 k1, .int .i64 n1, .string t1], .agg #[.int .i64 k2, .int .i64 n2, .string t2]] w fun e w' => e = .returned (.tuple #[.agg #[.int .i64 x, .int .i64 y, .string ⟨#[]⟩], .int .i64 z]) ∧ Below w.heap.size w w' := by
  have h := either_impl k1 n1 t1 k2 n2 t2 w ht1 ht2
  rw [hR.out] at h; exact h
theorem either_spec' (k1 n1 : Int) (t1 : ByteArray) (k2 n2 : Int) (t2 : ByteArray) (x y z : Int) (hR : Hid (eitherR k1 n1 t1 k2 n2 t2 = (x, y, z))) (w : World) (ht1 : t1.size ≤ maxLen) (ht2 : t2.size ≤ maxLen) :
    Calls Try.prog 26 #[.agg #[.int .i64 k1, .int .i64 n1, .string t1], .agg #[.int .i64 k2, .int .i64 n2, .string t2]] w fun e w' => e = .returned (.tuple #[.agg #[.int .i64 x, .int .i64 y, .string ⟨#[]⟩], .int .i64 z]) ∧ Below w.heap.size w w' := by
  have h := either_spec k1 n1 t1 k2 n2 t2 w ht1 ht2
  rw [hR.out] at h; exact h
theorem not_impl' (k n : Int) (t : ByteArray) (x y z : Int) (hR : Hid (notR k n t = (x, y, z))) (w : World) (ht : t.size ≤ maxLen) :
    Calls Try.prog 22 #[.agg #[.int .i64 k, .int .i64 n, .string t]] w fun e w' => e = .returned (.tuple #[.agg #[.int .i64 x, .int .i64 y, .string ⟨#[]⟩], .int .i64 z]) ∧ Below w.heap.size w w' := by
  have h := not_impl k n t w ht
  rw [hR.out] at h; exact h
theorem not_spec' (k n : Int) (t : ByteArray) (x y z : Int) (hR : Hid (notR k n t = (x, y, z))) (w : World) (ht : t.size ≤ maxLen) :
    Calls Try.prog 27 #[.agg #[.int .i64 k, .int .i64 n, .string t]] w fun e w' => e = .returned (.tuple #[.agg #[.int .i64 x, .int .i64 y, .string ⟨#[]⟩], .int .i64 z]) ∧ Below w.heap.size w w' := by
  have h := not_spec k n t w ht
  rw [hR.out] at h; exact h
theorem none_impl' (k n : Int) (t : ByteArray) (x y z : Int) (hR : Hid (noneR k n t = (x, y, z))) (w : World) (ht : t.size ≤ maxLen) :
    Calls Try.prog 24 #[.agg #[.int .i64 k, .int .i64 n, .string t]] w fun e w' => e = .returned (.tuple #[.agg #[.int .i64 x, .int .i64 y, .string ⟨#[]⟩], .int .i64 z]) ∧ Below w.heap.size w w' := by
  have h := none_impl k n t w ht
  rw [hR.out] at h; exact h
theorem none_spec' (k n : Int) (t : ByteArray) (x y z : Int) (hR : Hid (noneR k n t = (x, y, z))) (w : World) (ht : t.size ≤ maxLen) :
    Calls Try.prog 28 #[.agg #[.int .i64 k, .int .i64 n, .string t]] w fun e w' => e = .returned (.tuple #[.agg #[.int .i64 x, .int .i64 y, .string ⟨#[]⟩], .int .i64 z]) ∧ Below w.heap.size w w' := by
  have h := none_spec k n t w ht
  rw [hR.out] at h; exact h
theorem holds_implb (k n : Int) (t : ByteArray) (b : Bool) (hb : sameB k n t 3 1 ⟨#[]⟩ = b) (w : World) :
    Calls Try.prog 29 #[.agg #[.int .i64 k, .int .i64 n, .string t]] w fun e w' => e = .returned (.bool b) ∧ Below w.heap.size w w' := by
  subst hb; exact holds_impl k n t w

end Go.Proofs.Ytgablbdphflokaa
