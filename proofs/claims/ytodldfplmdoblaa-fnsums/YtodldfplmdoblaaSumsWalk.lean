/-
  The walk of the law FnSums: of every code two cells are drawn of which the program reckons as its model does; what is added is taken away again, what is multiplied is divided again, and of none comes none: the law answers true.
-/
import Derived.Test.YtodldfplmdoblaaWalk9
import Derived.Test.YtodldfplmdoblaaDraw5
namespace Go.Proofs.Ytodldfplmdoblaa
open Go.ChangeShapes Go.WideShapes Go.ChangeAt Go.RowKit
attribute [local go_sem ↓] Go.wp_at_zero Go.wp_at_succ
attribute [local simp] World.cell?_alloc_past World.cell?_alloc_at World.frozen?_alloc_at cell_far cell_off cell_here World.frozen?_alloc_past

namespace sums

/-- A cell lies in block B. -/
def C3 (w : World) (B : Nat) (k n : Int) (t : ByteArray) : Prop :=
  w.cell? ⟨B, 0, none⟩ = some (.int .i64 k) ∧ w.cell? ⟨B, 1, none⟩ = some (.int .i64 n) ∧ w.cell? ⟨B, 2, none⟩ = some (.string t) ∧ B < w.heap.size
theorem C3.below {w w' : World} {B : Nat} {k n : Int} {t : ByteArray} (h : C3 w B k n t) (hb : Below w.heap.size w w') : C3 w' B k n t := later3 hb h
theorem C3.step {w w' : World} {B : Nat} {k n : Int} {t : ByteArray} {o : Obj} (h : C3 w B k n t) (hb : Below (w.alloc o).heap.size (w.alloc o) w') : C3 w' B k n t := h.below (chainA hb)
theorem C3.fresh {w w' : World} {k n : Int} {t : ByteArray} {T : TypeId} (hb : Below (w.alloc (.cells #[.int .i64 k, .int .i64 n, .string t] T)).heap.size (w.alloc (.cells #[.int .i64 k, .int .i64 n, .string t] T)) w') : C3 w' w.heap.size k n t := box3 hb

theorem w64 (n : Int) (h : -9223372036854775808 ≤ n) (h' : n ≤ 9223372036854775807) : wrap64 n = n := IntWalk.wrap64_in n ⟨h, h'⟩

theorem num_iff {n : Int} : numB n = true ↔ -1000000000 ≤ n ∧ n ≤ 1000000000 := by simp [numB]

theorem ok_num {n : Int} {t : ByteArray} (h : okB 1 n t = true) : numB n = true ∧ t = ⟨#[]⟩ := by
  unfold okB at h
  rw [if_neg (by omega), if_pos rfl, Bool.and_eq_true, List.isEmpty_iff] at h
  exact ⟨h.1, bytes_eq (by rw [h.2, toList_empty])⟩

theorem ok_of_num {n : Int} (h : numB n = true) : okB 1 n ⟨#[]⟩ = true := by
  unfold okB
  rw [if_neg (by omega), if_pos rfl, h, toList_empty]; rfl

theorem res_zero {o : Int → Int → Int × Int} {k1 n1 : Int} {t1 : ByteArray} {k2 n2 : Int} {t2 : ByteArray} {x y z : Int} (h : (knownB k1 n1 t1 && knownB k2 n2 t2) = false) (hR : Hid (resR o k1 n1 t1 k2 n2 t2 = (x, y, z))) : x = 0 ∧ y = 0 := by
  have hR := hR.out
  unfold resR opR at hR
  rw [h] at hR
  cases hr : (rightB k1 n1 t1 && rightB k2 n2 t2)
  · rw [hr] at hR
    simp at hR
    exact ⟨hR.1.symm, hR.2.1.symm⟩
  · rw [hr] at hR
    simp at hR
    exact ⟨hR.1.symm, hR.2.1.symm⟩

theorem res_none {o : Int → Int → Int × Int} {n1 : Int} {t1 : ByteArray} {n2 : Int} {t2 : ByteArray} {x y z : Int} (h1 : okB 0 n1 t1 = true) (h2 : okB 0 n2 t2 = true) (hR : Hid (resR o 0 n1 t1 0 n2 t2 = (x, y, z))) : x = 0 ∧ y = 0 ∧ z = 0 := by
  have hR := hR.out
  unfold resR opR rightB knownB at hR
  rw [h1, h2] at hR
  simp at hR
  exact ⟨hR.1.symm, hR.2.1.symm, hR.2.2.symm⟩

theorem res_num (o : Int → Int → Int × Int) {n1 : Int} {n2 : Int} (h1 : numB n1 = true) (h2 : numB n2 = true) :
    resR o 1 n1 ⟨#[]⟩ 1 n2 ⟨#[]⟩ = if (o n1 n2).2 ≠ 0 then (0, 0, (o n1 n2).2) else if numB (o n1 n2).1 = true then (1, (o n1 n2).1, 0) else (0, 0, 1) := by
  unfold resR opR rightB knownB
  rw [ok_of_num h1, ok_of_num h2]
  simp

theorem mul_bound {a b : Int} (h1 : numB a = true) (h2 : numB b = true) : -1000000000000000000 ≤ a * b ∧ a * b ≤ 1000000000000000000 := by
  rw [num_iff] at h1 h2
  have ha : a.natAbs ≤ 1000000000 := by omega
  have hb : b.natAbs ≤ 1000000000 := by omega
  have hm : (a * b).natAbs ≤ 1000000000 * 1000000000 := by rw [Int.natAbs_mul]; exact Nat.mul_le_mul ha hb
  omega

theorem div_bound {a b : Int} (h1 : numB a = true) : numB (a.tdiv b) = true := by
  rw [num_iff] at h1 ⊢
  have hd : (a.tdiv b).natAbs ≤ a.natAbs := by rw [Int.natAbs_tdiv]; exact Nat.div_le_self _ _
  omega

theorem add_yes {n1 n2 : Int} (h1 : numB n1 = true) (h2 : numB n2 = true) (h : numB (n1 + n2) = true) : resR addO 1 n1 ⟨#[]⟩ 1 n2 ⟨#[]⟩ = (1, n1 + n2, 0) := by
  have a := num_iff.1 h1
  have b := num_iff.1 h2
  rw [res_num addO h1 h2]
  simp [addO, w64 (n1 + n2) (by omega) (by omega), h]
theorem add_no {n1 n2 : Int} (h1 : numB n1 = true) (h2 : numB n2 = true) (h : numB (n1 + n2) = false) : resR addO 1 n1 ⟨#[]⟩ 1 n2 ⟨#[]⟩ = (0, 0, 1) := by
  have a := num_iff.1 h1
  have b := num_iff.1 h2
  rw [res_num addO h1 h2]
  simp [addO, w64 (n1 + n2) (by omega) (by omega), h]
theorem sub_back {n1 n2 : Int} (h1 : numB n1 = true) (h2 : numB n2 = true) (h : numB (n1 + n2) = true) : resR subO 1 (n1 + n2) ⟨#[]⟩ 1 n2 ⟨#[]⟩ = (1, n1, 0) := by
  have a := num_iff.1 h1
  rw [res_num subO h h2]
  have e : n1 + n2 - n2 = n1 := by omega
  simp [subO, e, w64 n1 (by omega) (by omega), h1]
theorem mul_yes {n1 n2 : Int} (h1 : numB n1 = true) (h2 : numB n2 = true) (h : numB (n1 * n2) = true) : resR mulO 1 n1 ⟨#[]⟩ 1 n2 ⟨#[]⟩ = (1, n1 * n2, 0) := by
  have b := mul_bound h1 h2
  rw [res_num mulO h1 h2]
  simp [mulO, w64 (n1 * n2) (by omega) (by omega), h]
theorem mul_no {n1 n2 : Int} (h1 : numB n1 = true) (h2 : numB n2 = true) (h : numB (n1 * n2) = false) : resR mulO 1 n1 ⟨#[]⟩ 1 n2 ⟨#[]⟩ = (0, 0, 1) := by
  have b := mul_bound h1 h2
  rw [res_num mulO h1 h2]
  simp [mulO, w64 (n1 * n2) (by omega) (by omega), h]
theorem div_zero {n1 : Int} (h1 : numB n1 = true) : resR divO 1 n1 ⟨#[]⟩ 1 0 ⟨#[]⟩ = (0, 0, 2) := by
  rw [res_num divO h1 (by decide)]
  simp [divO]
theorem div_yes {n1 n2 : Int} (h1 : numB n1 = true) (h2 : numB n2 = true) (hn : n2 ≠ 0) : resR divO 1 n1 ⟨#[]⟩ 1 n2 ⟨#[]⟩ = (1, n1.tdiv n2, 0) := by
  have hd := div_bound (b := n2) h1
  have b := num_iff.1 hd
  rw [res_num divO h1 h2]
  simp [divO, hn, w64 (n1.tdiv n2) (by omega) (by omega), hd]
theorem div_back {n1 n2 : Int} (h1 : numB n1 = true) (h2 : numB n2 = true) (h : numB (n1 * n2) = true) (hn : n2 ≠ 0) : resR divO 1 (n1 * n2) ⟨#[]⟩ 1 n2 ⟨#[]⟩ = (1, n1, 0) := by
  have b := num_iff.1 h1
  rw [res_num divO h h2]
  have e : (n1 * n2).tdiv n2 = n1 := Int.mul_tdiv_cancel n1 hn
  simp [divO, hn, e, w64 n1 (by omega) (by omega), h1]

theorem mul_nil {n1 : Int} (h1 : numB n1 = true) : resR mulO 1 n1 ⟨#[]⟩ 1 0 ⟨#[]⟩ = (1, 0, 0) := by
  have h0 : numB 0 = true := by decide
  have e := mul_yes (n2 := 0) h1 h0 (by rw [Int.mul_zero]; exact h0)
  rw [Int.mul_zero] at e; exact e
theorem add_nil {n1 : Int} (h1 : numB n1 = true) : resR addO 1 n1 ⟨#[]⟩ 1 0 ⟨#[]⟩ = (1, n1, 0) := by
  have h0 : numB 0 = true := by decide
  have e := add_yes (n2 := 0) h1 h0 (by rw [Int.add_zero]; exact h1)
  rw [Int.add_zero] at e; exact e
theorem sub_nil {n1 : Int} (h1 : numB n1 = true) : resR subO 1 n1 ⟨#[]⟩ 1 0 ⟨#[]⟩ = (1, n1, 0) := by
  have h0 : numB 0 = true := by decide
  have e := sub_back (n2 := 0) h1 h0 (by rw [Int.add_zero]; exact h1)
  rw [Int.add_zero] at e; exact e

theorem neq_same (a b : Int) (s : ByteArray) (w : World) :
    (binOp .neq 25 (.agg #[.int .i64 a, .int .i64 b, .string s]) (.agg #[.int .i64 a, .int .i64 b, .string s])).run Try.prog w = .ok (.bool false) w := by
  rw [run_neq, sameB_refl]; rfl

theorem big_laws (a : Option Addr) (len cap : Nat) (w : World) :
    Calls Try.prog 4 #[.slice a len cap] w fun e w' => e = .returned (.bool (decide (4096 < (len : Int)))) ∧ w = w' := by
  go_enter Try.func4, Try.ntmps4
  go_wp2
  go_ret
  exact ⟨rfl, rfl⟩

theorem plus_impl' (k1 n1 : Int) (t1 : ByteArray) (k2 n2 : Int) (t2 : ByteArray) (x y z : Int) (hR : Hid (resR addO k1 n1 t1 k2 n2 t2 = (x, y, z))) (w : World) (ht1 : t1.size ≤ maxLen) (ht2 : t2.size ≤ maxLen) :
    Calls Try.prog 6 #[.agg #[.int .i64 k1, .int .i64 n1, .string t1], .agg #[.int .i64 k2, .int .i64 n2, .string t2]] w fun e w' => e = .returned (.tuple #[.agg #[.int .i64 x, .int .i64 y, .string ⟨#[]⟩], .int .i64 z]) ∧ Below w.heap.size w w' := by
  have h := plus_impl k1 n1 t1 k2 n2 t2 w ht1 ht2
  rw [hR.out] at h; exact h
theorem plus_spec' (k1 n1 : Int) (t1 : ByteArray) (k2 n2 : Int) (t2 : ByteArray) (x y z : Int) (hR : Hid (resR addO k1 n1 t1 k2 n2 t2 = (x, y, z))) (w : World) (ht1 : t1.size ≤ maxLen) (ht2 : t2.size ≤ maxLen) :
    Calls Try.prog 10 #[.agg #[.int .i64 k1, .int .i64 n1, .string t1], .agg #[.int .i64 k2, .int .i64 n2, .string t2]] w fun e w' => e = .returned (.tuple #[.agg #[.int .i64 x, .int .i64 y, .string ⟨#[]⟩], .int .i64 z]) ∧ Below w.heap.size w w' := by
  have h := plus_spec k1 n1 t1 k2 n2 t2 w ht1 ht2
  rw [hR.out] at h; exact h
theorem less_impl' (k1 n1 : Int) (t1 : ByteArray) (k2 n2 : Int) (t2 : ByteArray) (x y z : Int) (hR : Hid (resR subO k1 n1 t1 k2 n2 t2 = (x, y, z))) (w : World) (ht1 : t1.size ≤ maxLen) (ht2 : t2.size ≤ maxLen) :
    Calls Try.prog 7 #[.agg #[.int .i64 k1, .int .i64 n1, .string t1], .agg #[.int .i64 k2, .int .i64 n2, .string t2]] w fun e w' => e = .returned (.tuple #[.agg #[.int .i64 x, .int .i64 y, .string ⟨#[]⟩], .int .i64 z]) ∧ Below w.heap.size w w' := by
  have h := less_impl k1 n1 t1 k2 n2 t2 w ht1 ht2
  rw [hR.out] at h; exact h
theorem less_spec' (k1 n1 : Int) (t1 : ByteArray) (k2 n2 : Int) (t2 : ByteArray) (x y z : Int) (hR : Hid (resR subO k1 n1 t1 k2 n2 t2 = (x, y, z))) (w : World) (ht1 : t1.size ≤ maxLen) (ht2 : t2.size ≤ maxLen) :
    Calls Try.prog 13 #[.agg #[.int .i64 k1, .int .i64 n1, .string t1], .agg #[.int .i64 k2, .int .i64 n2, .string t2]] w fun e w' => e = .returned (.tuple #[.agg #[.int .i64 x, .int .i64 y, .string ⟨#[]⟩], .int .i64 z]) ∧ Below w.heap.size w w' := by
  have h := less_spec k1 n1 t1 k2 n2 t2 w ht1 ht2
  rw [hR.out] at h; exact h
theorem times_impl' (k1 n1 : Int) (t1 : ByteArray) (k2 n2 : Int) (t2 : ByteArray) (x y z : Int) (hR : Hid (resR mulO k1 n1 t1 k2 n2 t2 = (x, y, z))) (w : World) (ht1 : t1.size ≤ maxLen) (ht2 : t2.size ≤ maxLen) :
    Calls Try.prog 8 #[.agg #[.int .i64 k1, .int .i64 n1, .string t1], .agg #[.int .i64 k2, .int .i64 n2, .string t2]] w fun e w' => e = .returned (.tuple #[.agg #[.int .i64 x, .int .i64 y, .string ⟨#[]⟩], .int .i64 z]) ∧ Below w.heap.size w w' := by
  have h := times_impl k1 n1 t1 k2 n2 t2 w ht1 ht2
  rw [hR.out] at h; exact h
theorem times_spec' (k1 n1 : Int) (t1 : ByteArray) (k2 n2 : Int) (t2 : ByteArray) (x y z : Int) (hR : Hid (resR mulO k1 n1 t1 k2 n2 t2 = (x, y, z))) (w : World) (ht1 : t1.size ≤ maxLen) (ht2 : t2.size ≤ maxLen) :
    Calls Try.prog 14 #[.agg #[.int .i64 k1, .int .i64 n1, .string t1], .agg #[.int .i64 k2, .int .i64 n2, .string t2]] w fun e w' => e = .returned (.tuple #[.agg #[.int .i64 x, .int .i64 y, .string ⟨#[]⟩], .int .i64 z]) ∧ Below w.heap.size w w' := by
  have h := times_spec k1 n1 t1 k2 n2 t2 w ht1 ht2
  rw [hR.out] at h; exact h
theorem by_impl' (k1 n1 : Int) (t1 : ByteArray) (k2 n2 : Int) (t2 : ByteArray) (x y z : Int) (hR : Hid (resR divO k1 n1 t1 k2 n2 t2 = (x, y, z))) (w : World) (ht1 : t1.size ≤ maxLen) (ht2 : t2.size ≤ maxLen) :
    Calls Try.prog 9 #[.agg #[.int .i64 k1, .int .i64 n1, .string t1], .agg #[.int .i64 k2, .int .i64 n2, .string t2]] w fun e w' => e = .returned (.tuple #[.agg #[.int .i64 x, .int .i64 y, .string ⟨#[]⟩], .int .i64 z]) ∧ Below w.heap.size w w' := by
  have h := by_impl k1 n1 t1 k2 n2 t2 w ht1 ht2
  rw [hR.out] at h; exact h
theorem by_spec' (k1 n1 : Int) (t1 : ByteArray) (k2 n2 : Int) (t2 : ByteArray) (x y z : Int) (hR : Hid (resR divO k1 n1 t1 k2 n2 t2 = (x, y, z))) (w : World) (ht1 : t1.size ≤ maxLen) (ht2 : t2.size ≤ maxLen) :
    Calls Try.prog 15 #[.agg #[.int .i64 k1, .int .i64 n1, .string t1], .agg #[.int .i64 k2, .int .i64 n2, .string t2]] w fun e w' => e = .returned (.tuple #[.agg #[.int .i64 x, .int .i64 y, .string ⟨#[]⟩], .int .i64 z]) ∧ Below w.heap.size w w' := by
  have h := by_spec k1 n1 t1 k2 n2 t2 w ht1 ht2
  rw [hR.out] at h; exact h

set_option maxRecDepth 100000 in
set_option maxHeartbeats 8000000 in
theorem walk {w : World} {a : Option Addr} {len cap : Nat}
    (row : ∀ j, j < len → ∃ (rb ro : Nat) (v : Int), a = some ⟨rb, ro, none⟩ ∧ rb < w.heap.size ∧ w.cell? ⟨rb, ro + j, none⟩ = some (.int .u8 v) ∧ 0 ≤ v ∧ v ≤ 255) :
    Calls Try.prog 3 #[.slice a len cap] w fun e w' => e = .returned (.bool true) ∧ Below w.heap.size w w' := by
  by_cases hl : 4096 < (len : Int)
  · clear row
    go_enter Try.func3, Try.ntmps3
    go_wp2_with (go_at_call 4; refine (big_laws _ _ _ _).mono ?_; rintro e w' ⟨rfl, rfl⟩)
    go_ret
    exact ⟨rfl, Below.refl _ _⟩
  have hR : Hid (∀ j, j < len → ∃ (rb ro : Nat) (v : Int), a = some ⟨rb, ro, none⟩ ∧ rb < w.heap.size ∧ w.cell? ⟨rb, ro + j, none⟩ = some (.int .u8 v) ∧ 0 ≤ v ∧ v ≤ 255) := row
  clear row
  have hq := neq_same
  go_enter Try.func3, Try.ntmps3
  go_wp2_with fail
  refine (big_laws _ _ _ _).mono ?_
  rintro e w' ⟨rfl, rfl⟩
  go_wp2_with fail
  refine (plus_draw (by omega) hR.out).mono ?_
  rintro e w1 ⟨k1, n1, t1, k2, n2, t2, rfl, ht1, ht2, hx⟩
  clear hR
  obtain ⟨pk, pn, pf, hP⟩ : ∃ x y z, Hid (resR addO k1 n1 t1 k2 n2 t2 = (x, y, z)) := ⟨_, _, _, rfl⟩
  obtain ⟨lk, ln, lf, hL⟩ : ∃ x y z, Hid (resR subO k1 n1 t1 k2 n2 t2 = (x, y, z)) := ⟨_, _, _, rfl⟩
  obtain ⟨mk, mn, mf, hM⟩ : ∃ x y z, Hid (resR mulO k1 n1 t1 k2 n2 t2 = (x, y, z)) := ⟨_, _, _, rfl⟩
  obtain ⟨dk, dn, df, hD⟩ : ∃ x y z, Hid (resR divO k1 n1 t1 k2 n2 t2 = (x, y, z)) := ⟨_, _, _, rfl⟩
  go_wp2_with fail
  refine (plus_impl' _ _ _ _ _ _ _ _ _ hP _ ht1 ht2).mono ?_
  rintro e w2 ⟨rfl, hb⟩
  obtain ⟨A, B, _⟩ := two3 hb
  have A : C3 w2 w1.heap.size k1 n1 t1 := A
  have B : C3 w2 (w1.heap.size + 1) k2 n2 t2 := B
  have hx := chain hx (chainAA hb)
  clear hb
  have ⟨a0, a1, a2, a3⟩ := A
  have ⟨b0, b1, b2, b3⟩ := B
  go_wp2_with fail
  refine (less_impl' _ _ _ _ _ _ _ _ _ hL _ ht1 ht2).mono ?_
  rintro e w3 ⟨rfl, hb⟩
  clear a0 a1 a2 a3 b0 b1 b2 b3
  replace A := A.step hb
  replace B := B.step hb
  have P : C3 w3 w2.heap.size pk pn ⟨#[]⟩ := C3.fresh hb
  replace hx := chain hx (chainA hb)
  clear hb
  have ⟨a0, a1, a2, a3⟩ := A
  have ⟨b0, b1, b2, b3⟩ := B
  go_wp2_with fail
  refine (times_impl' _ _ _ _ _ _ _ _ _ hM _ ht1 ht2).mono ?_
  rintro e w4 ⟨rfl, hb⟩
  clear a0 a1 a2 a3 b0 b1 b2 b3
  replace A := A.step hb
  replace B := B.step hb
  replace P := P.step hb
  have L : C3 w4 w3.heap.size lk ln ⟨#[]⟩ := C3.fresh hb
  replace hx := chain hx (chainA hb)
  clear hb
  have ⟨a0, a1, a2, a3⟩ := A
  have ⟨b0, b1, b2, b3⟩ := B
  go_wp2_with fail
  refine (by_impl' _ _ _ _ _ _ _ _ _ hD _ ht1 ht2).mono ?_
  rintro e w5 ⟨rfl, hb⟩
  clear a0 a1 a2 a3 b0 b1 b2 b3
  replace A := A.step hb
  replace B := B.step hb
  replace P := P.step hb
  replace L := L.step hb
  have M : C3 w5 w4.heap.size mk mn ⟨#[]⟩ := C3.fresh hb
  replace hx := chain hx (chainA hb)
  clear hb
  have ⟨a0, a1, a2, a3⟩ := A
  have ⟨b0, b1, b2, b3⟩ := B
  go_wp2_with fail
  refine (plus_spec' _ _ _ _ _ _ _ _ _ hP _ ht1 ht2).mono ?_
  rintro e w6 ⟨rfl, hb⟩
  clear a0 a1 a2 a3 b0 b1 b2 b3
  replace A := A.step hb
  replace B := B.step hb
  replace P := P.step hb
  replace L := L.step hb
  replace M := M.step hb
  have D : C3 w6 w5.heap.size dk dn ⟨#[]⟩ := C3.fresh hb
  replace hx := chain hx (chainA hb)
  clear hb
  have ⟨a0, a1, a2, a3⟩ := A
  have ⟨b0, b1, b2, b3⟩ := B
  have ⟨p0, p1, p2, p3⟩ := P
  go_wp2_with fail
  go_cut [76] (fun s76 wc => s76 = .bool false ∧ Below w6.heap.size w6 wc)
  case first =>
    go_region_held3 (fun w' => w'.cell? ⟨w1.heap.size, 0, none⟩ = some (.int .i64 k1) ∧ w'.cell? ⟨w1.heap.size, 1, none⟩ = some (.int .i64 n1) ∧ w'.cell? ⟨w1.heap.size, 2, none⟩ = some (.string t1) ∧
        w'.cell? ⟨w2.heap.size, 0, none⟩ = some (.int .i64 pk) ∧ w'.cell? ⟨w2.heap.size, 1, none⟩ = some (.int .i64 pn) ∧ w'.cell? ⟨w2.heap.size, 2, none⟩ = some (.string ⟨#[]⟩) ∧
        w'.cell? ⟨w6.heap.size, 0, none⟩ = some (.int .i64 pk) ∧ w'.cell? ⟨w6.heap.size, 1, none⟩ = some (.int .i64 pn) ∧ w'.cell? ⟨w6.heap.size, 2, none⟩ = some (.string ⟨#[]⟩))
      (((try dsimp only); (repeat' apply And.intro) <;> first | (go_keep; done) | (simp (disch := first | omega | (simp <;> omega) | fail) [*]; done) | fail))
      (first
        | (go_at_call 11; refine (ok_impl _ _ _ _ ht1).mono ?_; rintro e w7 ⟨rfl, hb7⟩; obtain ⟨hc7, hf7⟩ := bcell hb7; have hz7 := hb7.size; (try simp at hz7); (try have y70 : w1.heap.size < w7.heap.size := by omega); (try have y71 : w2.heap.size < w7.heap.size := by omega); (try have y72 : w6.heap.size < w7.heap.size := by omega))
        | (go_at_call 12; refine (ok_spec _ _ _ _ ht1).mono ?_; rintro e w8 ⟨rfl, hb8⟩; obtain ⟨hc8, hf8⟩ := bcell hb8; have hz8 := hb8.size; (try simp at hz8); (try have y80 : w1.heap.size < w8.heap.size := by omega); (try have y81 : w2.heap.size < w8.heap.size := by omega); (try have y82 : w6.heap.size < w8.heap.size := by omega)))
    all_goals
      go_wp2_with fail
      go_meet
      case rel =>
        refine ⟨?_, ?_⟩
        · first | rfl | (simp; done)
        · repeat' (first | (with_reducible exact Below.refl _ _) | (with_reducible refine Below.alloc ?_ ?_ _) | (with_reducible refine Below.drew ?_) | (with_reducible refine chain ?_ hb8) | (with_reducible refine chain ?_ hb7) | (simp <;> omega) | omega)
  case rest =>
    obtain ⟨rfl, hb⟩ := hcut
    clear a0 a1 a2 a3 b0 b1 b2 b3 p0 p1 p2 p3
    replace A := A.below hb
    replace B := B.below hb
    replace P := P.below hb
    replace L := L.below hb
    replace M := M.below hb
    replace D := D.below hb
    replace hx := chain hx hb
    clear hb
    have ⟨a0, a1, a2, a3⟩ := A
    have ⟨b0, b1, b2, b3⟩ := B
    have ⟨l0, l1, l2, l3⟩ := L
    go_wp2_with fail
    refine (less_spec' _ _ _ _ _ _ _ _ _ hL _ ht1 ht2).mono ?_
    rintro e w9 ⟨rfl, hb⟩
    clear a0 a1 a2 a3 b0 b1 b2 b3 l0 l1 l2 l3
    replace A := A.below hb
    replace B := B.below hb
    replace P := P.below hb
    replace L := L.below hb
    replace M := M.below hb
    replace D := D.below hb
    replace hx := chain hx hb
    clear hb
    have ⟨a0, a1, a2, a3⟩ := A
    have ⟨b0, b1, b2, b3⟩ := B
    have ⟨l0, l1, l2, l3⟩ := L
    have ⟨m0, m1, m2, m3⟩ := M
    go_wp2_with fail
    refine (times_spec' _ _ _ _ _ _ _ _ _ hM _ ht1 ht2).mono ?_
    rintro e w10 ⟨rfl, hb⟩
    clear a0 a1 a2 a3 b0 b1 b2 b3 l0 l1 l2 l3 m0 m1 m2 m3
    replace A := A.step hb
    replace B := B.step hb
    replace P := P.step hb
    replace L := L.step hb
    replace M := M.step hb
    replace D := D.step hb
    replace hx := chain hx (chainA hb)
    clear hb
    have ⟨a0, a1, a2, a3⟩ := A
    have ⟨b0, b1, b2, b3⟩ := B
    have ⟨m0, m1, m2, m3⟩ := M
    have ⟨d0, d1, d2, d3⟩ := D
    go_wp2_with fail
    refine (by_spec' _ _ _ _ _ _ _ _ _ hD _ ht1 ht2).mono ?_
    rintro e w11 ⟨rfl, hb⟩
    clear a0 a1 a2 a3 b0 b1 b2 b3 m0 m1 m2 m3 d0 d1 d2 d3
    replace A := A.step hb
    replace B := B.step hb
    replace P := P.step hb
    replace L := L.step hb
    replace M := M.step hb
    replace D := D.step hb
    replace hx := chain hx (chainA hb)
    clear hb
    by_cases z1 : k1 = 0
    · subst z1
      by_cases z2 : k2 = 0
      · subst z2
        cases h1 : okB 0 n1 t1
        · have hkn : (knownB 0 n1 t1 && knownB 0 n2 t2) = false := by simp [knownB]
          obtain ⟨rfl, rfl⟩ := res_zero hkn hP
          obtain ⟨rfl, rfl⟩ := res_zero hkn hL
          obtain ⟨rfl, rfl⟩ := res_zero hkn hM
          obtain ⟨rfl, rfl⟩ := res_zero hkn hD
          clear hkn hP hL hM hD
          have ⟨a0, a1, a2, a3⟩ := A
          have ⟨b0, b1, b2, b3⟩ := B
          have ⟨p0, p1, p2, p3⟩ := P
          have ⟨l0, l1, l2, l3⟩ := L
          have ⟨m0, m1, m2, m3⟩ := M
          have ⟨d0, d1, d2, d3⟩ := D
          go_wp2_with fail
          refine (ok_implb _ _ _ _ h1 _ ht1).mono ?_
          rintro e w12 ⟨rfl, hb⟩
          clear a0 a1 a2 a3 b0 b1 b2 b3 p0 p1 p2 p3 l0 l1 l2 l3 m0 m1 m2 m3 d0 d1 d2 d3
          replace A := A.step hb
          replace B := B.step hb
          replace P := P.step hb
          replace L := L.step hb
          replace M := M.step hb
          replace D := D.step hb
          replace hx := chain hx (chainA hb)
          clear hb
          have ⟨a0, a1, a2, a3⟩ := A
          have ⟨b0, b1, b2, b3⟩ := B
          have ⟨p0, p1, p2, p3⟩ := P
          have ⟨l0, l1, l2, l3⟩ := L
          have ⟨m0, m1, m2, m3⟩ := M
          have ⟨d0, d1, d2, d3⟩ := D
          go_wp2
          go_ret
          exact ⟨by first | rfl | (simp; done), hx⟩
        cases h2 : okB 0 n2 t2
        · have hkn : (knownB 0 n1 t1 && knownB 0 n2 t2) = false := by simp [knownB]
          obtain ⟨rfl, rfl⟩ := res_zero hkn hP
          obtain ⟨rfl, rfl⟩ := res_zero hkn hL
          obtain ⟨rfl, rfl⟩ := res_zero hkn hM
          obtain ⟨rfl, rfl⟩ := res_zero hkn hD
          clear hkn hP hL hM hD
          have ⟨a0, a1, a2, a3⟩ := A
          have ⟨b0, b1, b2, b3⟩ := B
          have ⟨p0, p1, p2, p3⟩ := P
          have ⟨l0, l1, l2, l3⟩ := L
          have ⟨m0, m1, m2, m3⟩ := M
          have ⟨d0, d1, d2, d3⟩ := D
          go_wp2_with fail
          refine (ok_implb _ _ _ _ h1 _ ht1).mono ?_
          rintro e w12 ⟨rfl, hb⟩
          clear a0 a1 a2 a3 b0 b1 b2 b3 p0 p1 p2 p3 l0 l1 l2 l3 m0 m1 m2 m3 d0 d1 d2 d3
          replace A := A.step hb
          replace B := B.step hb
          replace P := P.step hb
          replace L := L.step hb
          replace M := M.step hb
          replace D := D.step hb
          replace hx := chain hx (chainA hb)
          clear hb
          have ⟨a0, a1, a2, a3⟩ := A
          have ⟨b0, b1, b2, b3⟩ := B
          have ⟨p0, p1, p2, p3⟩ := P
          have ⟨l0, l1, l2, l3⟩ := L
          have ⟨m0, m1, m2, m3⟩ := M
          have ⟨d0, d1, d2, d3⟩ := D
          go_wp2_with fail
          refine (ok_implb _ _ _ _ h2 _ ht2).mono ?_
          rintro e w13 ⟨rfl, hb⟩
          clear a0 a1 a2 a3 b0 b1 b2 b3 p0 p1 p2 p3 l0 l1 l2 l3 m0 m1 m2 m3 d0 d1 d2 d3
          replace A := A.below hb
          replace B := B.below hb
          replace P := P.below hb
          replace L := L.below hb
          replace M := M.below hb
          replace D := D.below hb
          replace hx := chain hx hb
          clear hb
          have ⟨a0, a1, a2, a3⟩ := A
          have ⟨b0, b1, b2, b3⟩ := B
          have ⟨p0, p1, p2, p3⟩ := P
          have ⟨l0, l1, l2, l3⟩ := L
          have ⟨m0, m1, m2, m3⟩ := M
          have ⟨d0, d1, d2, d3⟩ := D
          go_wp2
          go_ret
          exact ⟨by first | rfl | (simp; done), hx⟩
        · obtain ⟨rfl, rfl, rfl⟩ := res_none h1 h2 hP
          obtain ⟨rfl, rfl, rfl⟩ := res_none h1 h2 hL
          obtain ⟨rfl, rfl, rfl⟩ := res_none h1 h2 hM
          obtain ⟨rfl, rfl, rfl⟩ := res_none h1 h2 hD
          clear hP hL hM hD
          have ⟨a0, a1, a2, a3⟩ := A
          have ⟨b0, b1, b2, b3⟩ := B
          have ⟨p0, p1, p2, p3⟩ := P
          have ⟨l0, l1, l2, l3⟩ := L
          have ⟨m0, m1, m2, m3⟩ := M
          have ⟨d0, d1, d2, d3⟩ := D
          go_wp2_with fail
          refine (ok_implb _ _ _ _ h1 _ ht1).mono ?_
          rintro e w12 ⟨rfl, hb⟩
          clear a0 a1 a2 a3 b0 b1 b2 b3 p0 p1 p2 p3 l0 l1 l2 l3 m0 m1 m2 m3 d0 d1 d2 d3
          replace A := A.step hb
          replace B := B.step hb
          replace P := P.step hb
          replace L := L.step hb
          replace M := M.step hb
          replace D := D.step hb
          replace hx := chain hx (chainA hb)
          clear hb
          have ⟨a0, a1, a2, a3⟩ := A
          have ⟨b0, b1, b2, b3⟩ := B
          have ⟨p0, p1, p2, p3⟩ := P
          have ⟨l0, l1, l2, l3⟩ := L
          have ⟨m0, m1, m2, m3⟩ := M
          have ⟨d0, d1, d2, d3⟩ := D
          go_wp2_with fail
          refine (ok_implb _ _ _ _ h2 _ ht2).mono ?_
          rintro e w13 ⟨rfl, hb⟩
          clear a0 a1 a2 a3 b0 b1 b2 b3 p0 p1 p2 p3 l0 l1 l2 l3 m0 m1 m2 m3 d0 d1 d2 d3
          replace A := A.below hb
          replace B := B.below hb
          replace P := P.below hb
          replace L := L.below hb
          replace M := M.below hb
          replace D := D.below hb
          replace hx := chain hx hb
          clear hb
          have ⟨a0, a1, a2, a3⟩ := A
          have ⟨b0, b1, b2, b3⟩ := B
          have ⟨p0, p1, p2, p3⟩ := P
          have ⟨l0, l1, l2, l3⟩ := L
          have ⟨m0, m1, m2, m3⟩ := M
          have ⟨d0, d1, d2, d3⟩ := D
          go_wp2
          go_ret
          exact ⟨by first | rfl | (simp; done), hx⟩
      · have hkn : (knownB 0 n1 t1 && knownB k2 n2 t2) = false := by simp [knownB]
        obtain ⟨rfl, rfl⟩ := res_zero hkn hP
        obtain ⟨rfl, rfl⟩ := res_zero hkn hL
        obtain ⟨rfl, rfl⟩ := res_zero hkn hM
        obtain ⟨rfl, rfl⟩ := res_zero hkn hD
        clear hkn hP hL hM hD
        have ⟨a0, a1, a2, a3⟩ := A
        have ⟨b0, b1, b2, b3⟩ := B
        have ⟨p0, p1, p2, p3⟩ := P
        have ⟨l0, l1, l2, l3⟩ := L
        have ⟨m0, m1, m2, m3⟩ := M
        have ⟨d0, d1, d2, d3⟩ := D
        go_wp2
        go_ret
        exact ⟨by first | rfl | (simp; done), chain hx ((Below.refl _ _).alloc (Nat.le_refl _) _)⟩
    by_cases z1' : k1 = 1
    · subst z1'
      by_cases z2 : k2 = 1
      · subst z2
        cases h1 : okB 1 n1 t1
        · have hkn : (knownB 1 n1 t1 && knownB 1 n2 t2) = false := by simp [knownB, h1]
          obtain ⟨rfl, rfl⟩ := res_zero hkn hP
          obtain ⟨rfl, rfl⟩ := res_zero hkn hL
          obtain ⟨rfl, rfl⟩ := res_zero hkn hM
          obtain ⟨rfl, rfl⟩ := res_zero hkn hD
          clear hkn hP hL hM hD
          have ⟨a0, a1, a2, a3⟩ := A
          have ⟨b0, b1, b2, b3⟩ := B
          have ⟨p0, p1, p2, p3⟩ := P
          have ⟨l0, l1, l2, l3⟩ := L
          have ⟨m0, m1, m2, m3⟩ := M
          have ⟨d0, d1, d2, d3⟩ := D
          go_wp2_with fail
          refine (ok_implb _ _ _ _ h1 _ ht1).mono ?_
          rintro e w12 ⟨rfl, hb⟩
          clear a0 a1 a2 a3 b0 b1 b2 b3 p0 p1 p2 p3 l0 l1 l2 l3 m0 m1 m2 m3 d0 d1 d2 d3
          replace A := A.step hb
          replace B := B.step hb
          replace P := P.step hb
          replace L := L.step hb
          replace M := M.step hb
          replace D := D.step hb
          replace hx := chain hx (chainA hb)
          clear hb
          have ⟨a0, a1, a2, a3⟩ := A
          have ⟨b0, b1, b2, b3⟩ := B
          have ⟨p0, p1, p2, p3⟩ := P
          have ⟨l0, l1, l2, l3⟩ := L
          have ⟨m0, m1, m2, m3⟩ := M
          have ⟨d0, d1, d2, d3⟩ := D
          go_wp2
          go_ret
          exact ⟨by first | rfl | (simp; done), hx⟩
        cases h2 : okB 1 n2 t2
        · have hkn : (knownB 1 n1 t1 && knownB 1 n2 t2) = false := by simp [knownB, h2]
          obtain ⟨rfl, rfl⟩ := res_zero hkn hP
          obtain ⟨rfl, rfl⟩ := res_zero hkn hL
          obtain ⟨rfl, rfl⟩ := res_zero hkn hM
          obtain ⟨rfl, rfl⟩ := res_zero hkn hD
          clear hkn hP hL hM hD
          have ⟨a0, a1, a2, a3⟩ := A
          have ⟨b0, b1, b2, b3⟩ := B
          have ⟨p0, p1, p2, p3⟩ := P
          have ⟨l0, l1, l2, l3⟩ := L
          have ⟨m0, m1, m2, m3⟩ := M
          have ⟨d0, d1, d2, d3⟩ := D
          go_wp2_with fail
          refine (ok_implb _ _ _ _ h1 _ ht1).mono ?_
          rintro e w12 ⟨rfl, hb⟩
          clear a0 a1 a2 a3 b0 b1 b2 b3 p0 p1 p2 p3 l0 l1 l2 l3 m0 m1 m2 m3 d0 d1 d2 d3
          replace A := A.step hb
          replace B := B.step hb
          replace P := P.step hb
          replace L := L.step hb
          replace M := M.step hb
          replace D := D.step hb
          replace hx := chain hx (chainA hb)
          clear hb
          have ⟨a0, a1, a2, a3⟩ := A
          have ⟨b0, b1, b2, b3⟩ := B
          have ⟨p0, p1, p2, p3⟩ := P
          have ⟨l0, l1, l2, l3⟩ := L
          have ⟨m0, m1, m2, m3⟩ := M
          have ⟨d0, d1, d2, d3⟩ := D
          go_wp2_with fail
          refine (ok_implb _ _ _ _ h2 _ ht2).mono ?_
          rintro e w13 ⟨rfl, hb⟩
          clear a0 a1 a2 a3 b0 b1 b2 b3 p0 p1 p2 p3 l0 l1 l2 l3 m0 m1 m2 m3 d0 d1 d2 d3
          replace A := A.below hb
          replace B := B.below hb
          replace P := P.below hb
          replace L := L.below hb
          replace M := M.below hb
          replace D := D.below hb
          replace hx := chain hx hb
          clear hb
          have ⟨a0, a1, a2, a3⟩ := A
          have ⟨b0, b1, b2, b3⟩ := B
          have ⟨p0, p1, p2, p3⟩ := P
          have ⟨l0, l1, l2, l3⟩ := L
          have ⟨m0, m1, m2, m3⟩ := M
          have ⟨d0, d1, d2, d3⟩ := D
          go_wp2
          go_ret
          exact ⟨by first | rfl | (simp; done), hx⟩
        · obtain ⟨m1, e1⟩ := ok_num h1
          obtain ⟨m2, e2⟩ := ok_num h2
          subst e1 e2
          have G1 : Hid (okB 1 n1 ⟨#[]⟩ = true) := h1
          have G2 : Hid (okB 1 n2 ⟨#[]⟩ = true) := h2
          clear h1 h2 hL
          have h1 := G1
          have h2 := G2
          by_cases zn : n2 = 0
          · subst zn
            obtain ⟨rfl, rfl, rfl⟩ : 0 = dk ∧ 0 = dn ∧ 2 = df := by have e := (div_zero m1).symm.trans hD.out; simpa using e
            obtain ⟨rfl, rfl, rfl⟩ : 1 = mk ∧ 0 = mn ∧ 0 = mf := by have e := (mul_nil m1).symm.trans hM.out; simpa using e
            obtain ⟨rfl, rfl, rfl⟩ : 1 = pk ∧ n1 = pn ∧ 0 = pf := by have e := (add_nil m1).symm.trans hP.out; simpa using e
            have hS : Hid (resR subO 1 n1 ⟨#[]⟩ 1 0 ⟨#[]⟩ = (1, n1, 0)) := sub_nil m1
            clear hP hM hD m1 m2
            have ⟨a0, a1, a2, a3⟩ := A
            have ⟨b0, b1, b2, b3⟩ := B
            have ⟨p0, p1, p2, p3⟩ := P
            have ⟨l0, l1, l2, l3⟩ := L
            have ⟨m0, m1, m2, m3⟩ := M
            have ⟨d0, d1, d2, d3⟩ := D
            go_wp2_with fail
            refine (ok_implb _ _ _ _ h1.out _ ht1).mono ?_
            rintro e w12 ⟨rfl, hb⟩
            clear a0 a1 a2 a3 b0 b1 b2 b3 p0 p1 p2 p3 l0 l1 l2 l3 m0 m1 m2 m3 d0 d1 d2 d3
            replace A := A.step hb
            replace B := B.step hb
            replace P := P.step hb
            replace L := L.step hb
            replace M := M.step hb
            replace D := D.step hb
            replace hx := chain hx (chainA hb)
            clear hb
            have ⟨a0, a1, a2, a3⟩ := A
            have ⟨b0, b1, b2, b3⟩ := B
            have ⟨p0, p1, p2, p3⟩ := P
            have ⟨l0, l1, l2, l3⟩ := L
            have ⟨m0, m1, m2, m3⟩ := M
            have ⟨d0, d1, d2, d3⟩ := D
            go_wp2_with fail
            refine (ok_implb _ _ _ _ h2.out _ ht2).mono ?_
            rintro e w13 ⟨rfl, hb⟩
            clear a0 a1 a2 a3 b0 b1 b2 b3 p0 p1 p2 p3 l0 l1 l2 l3 m0 m1 m2 m3 d0 d1 d2 d3
            replace A := A.below hb
            replace B := B.below hb
            replace P := P.below hb
            replace L := L.below hb
            replace M := M.below hb
            replace D := D.below hb
            replace hx := chain hx hb
            clear hb
            have ⟨a0, a1, a2, a3⟩ := A
            have ⟨b0, b1, b2, b3⟩ := B
            have ⟨p0, p1, p2, p3⟩ := P
            have ⟨l0, l1, l2, l3⟩ := L
            have ⟨m0, m1, m2, m3⟩ := M
            have ⟨d0, d1, d2, d3⟩ := D
            go_wp2_with fail
            refine (less_impl' _ _ _ _ _ _ _ _ _ hS _ (by decide) ht2).mono ?_
            rintro e w14 ⟨rfl, hb⟩
            clear a0 a1 a2 a3 b0 b1 b2 b3 p0 p1 p2 p3 l0 l1 l2 l3 m0 m1 m2 m3 d0 d1 d2 d3
            replace A := A.below hb
            replace B := B.below hb
            replace P := P.below hb
            replace L := L.below hb
            replace M := M.below hb
            replace D := D.below hb
            replace hx := chain hx hb
            clear hb
            have ⟨a0, a1, a2, a3⟩ := A
            have ⟨b0, b1, b2, b3⟩ := B
            have ⟨p0, p1, p2, p3⟩ := P
            have ⟨l0, l1, l2, l3⟩ := L
            have ⟨m0, m1, m2, m3⟩ := M
            have ⟨d0, d1, d2, d3⟩ := D
            go_wp2
            go_ret
            exact ⟨by first | rfl | (simp; done), chain hx ((Below.refl _ _).alloc (Nat.le_refl _) _)⟩
          have hnb : (n2 == 0) = false := by simp [zn]
          have HN : Hid (n2 ≠ 0) := zn
          clear zn
          obtain ⟨rfl, rfl, rfl⟩ : 1 = dk ∧ n1.tdiv n2 = dn ∧ 0 = df := by have e := (div_yes m1 m2 HN.out).symm.trans hD.out; simpa using e
          cases hs : numB (n1 + n2)
          · obtain ⟨rfl, rfl, rfl⟩ : 0 = pk ∧ 0 = pn ∧ 1 = pf := by have e := (add_no m1 m2 hs).symm.trans hP.out; simpa using e
            clear hs
            cases hm : numB (n1 * n2)
            · obtain ⟨rfl, rfl, rfl⟩ : 0 = mk ∧ 0 = mn ∧ 1 = mf := by have e := (mul_no m1 m2 hm).symm.trans hM.out; simpa using e
              clear hP hM hD m1 m2 hm HN
              have ⟨a0, a1, a2, a3⟩ := A
              have ⟨b0, b1, b2, b3⟩ := B
              have ⟨p0, p1, p2, p3⟩ := P
              have ⟨l0, l1, l2, l3⟩ := L
              have ⟨m0, m1, m2, m3⟩ := M
              have ⟨d0, d1, d2, d3⟩ := D
              go_wp2_with fail
              refine (ok_implb _ _ _ _ h1.out _ ht1).mono ?_
              rintro e w12 ⟨rfl, hb⟩
              clear a0 a1 a2 a3 b0 b1 b2 b3 p0 p1 p2 p3 l0 l1 l2 l3 m0 m1 m2 m3 d0 d1 d2 d3
              replace A := A.step hb
              replace B := B.step hb
              replace P := P.step hb
              replace L := L.step hb
              replace M := M.step hb
              replace D := D.step hb
              replace hx := chain hx (chainA hb)
              clear hb
              have ⟨a0, a1, a2, a3⟩ := A
              have ⟨b0, b1, b2, b3⟩ := B
              have ⟨p0, p1, p2, p3⟩ := P
              have ⟨l0, l1, l2, l3⟩ := L
              have ⟨m0, m1, m2, m3⟩ := M
              have ⟨d0, d1, d2, d3⟩ := D
              go_wp2_with fail
              refine (ok_implb _ _ _ _ h2.out _ ht2).mono ?_
              rintro e w13 ⟨rfl, hb⟩
              clear a0 a1 a2 a3 b0 b1 b2 b3 p0 p1 p2 p3 l0 l1 l2 l3 m0 m1 m2 m3 d0 d1 d2 d3
              replace A := A.below hb
              replace B := B.below hb
              replace P := P.below hb
              replace L := L.below hb
              replace M := M.below hb
              replace D := D.below hb
              replace hx := chain hx hb
              clear hb
              have ⟨a0, a1, a2, a3⟩ := A
              have ⟨b0, b1, b2, b3⟩ := B
              have ⟨p0, p1, p2, p3⟩ := P
              have ⟨l0, l1, l2, l3⟩ := L
              have ⟨m0, m1, m2, m3⟩ := M
              have ⟨d0, d1, d2, d3⟩ := D
              go_wp2
              go_ret
              exact ⟨by first | rfl | (simp; done), hx⟩
            · obtain ⟨rfl, rfl, rfl⟩ : 1 = mk ∧ n1 * n2 = mn ∧ 0 = mf := by have e := (mul_yes m1 m2 hm).symm.trans hM.out; simpa using e
              have hB : Hid (resR divO 1 (n1 * n2) ⟨#[]⟩ 1 n2 ⟨#[]⟩ = (1, n1, 0)) := div_back m1 m2 hm HN.out
              clear hP hM hD m1 m2 hm HN
              have ⟨a0, a1, a2, a3⟩ := A
              have ⟨b0, b1, b2, b3⟩ := B
              have ⟨p0, p1, p2, p3⟩ := P
              have ⟨l0, l1, l2, l3⟩ := L
              have ⟨m0, m1, m2, m3⟩ := M
              have ⟨d0, d1, d2, d3⟩ := D
              go_wp2_with fail
              refine (ok_implb _ _ _ _ h1.out _ ht1).mono ?_
              rintro e w12 ⟨rfl, hb⟩
              clear a0 a1 a2 a3 b0 b1 b2 b3 p0 p1 p2 p3 l0 l1 l2 l3 m0 m1 m2 m3 d0 d1 d2 d3
              replace A := A.step hb
              replace B := B.step hb
              replace P := P.step hb
              replace L := L.step hb
              replace M := M.step hb
              replace D := D.step hb
              replace hx := chain hx (chainA hb)
              clear hb
              have ⟨a0, a1, a2, a3⟩ := A
              have ⟨b0, b1, b2, b3⟩ := B
              have ⟨p0, p1, p2, p3⟩ := P
              have ⟨l0, l1, l2, l3⟩ := L
              have ⟨m0, m1, m2, m3⟩ := M
              have ⟨d0, d1, d2, d3⟩ := D
              go_wp2_with fail
              refine (ok_implb _ _ _ _ h2.out _ ht2).mono ?_
              rintro e w13 ⟨rfl, hb⟩
              clear a0 a1 a2 a3 b0 b1 b2 b3 p0 p1 p2 p3 l0 l1 l2 l3 m0 m1 m2 m3 d0 d1 d2 d3
              replace A := A.below hb
              replace B := B.below hb
              replace P := P.below hb
              replace L := L.below hb
              replace M := M.below hb
              replace D := D.below hb
              replace hx := chain hx hb
              clear hb
              have ⟨a0, a1, a2, a3⟩ := A
              have ⟨b0, b1, b2, b3⟩ := B
              have ⟨p0, p1, p2, p3⟩ := P
              have ⟨l0, l1, l2, l3⟩ := L
              have ⟨m0, m1, m2, m3⟩ := M
              have ⟨d0, d1, d2, d3⟩ := D
              go_wp2_with fail
              refine (by_impl' _ _ _ _ _ _ _ _ _ hB _ (by decide) ht2).mono ?_
              rintro e w15 ⟨rfl, hb⟩
              clear a0 a1 a2 a3 b0 b1 b2 b3 p0 p1 p2 p3 l0 l1 l2 l3 m0 m1 m2 m3 d0 d1 d2 d3
              replace A := A.below hb
              replace B := B.below hb
              replace P := P.below hb
              replace L := L.below hb
              replace M := M.below hb
              replace D := D.below hb
              replace hx := chain hx hb
              clear hb
              have ⟨a0, a1, a2, a3⟩ := A
              have ⟨b0, b1, b2, b3⟩ := B
              have ⟨p0, p1, p2, p3⟩ := P
              have ⟨l0, l1, l2, l3⟩ := L
              have ⟨m0, m1, m2, m3⟩ := M
              have ⟨d0, d1, d2, d3⟩ := D
              go_wp2
              go_ret
              exact ⟨by first | rfl | (simp; done), chain hx ((Below.refl _ _).alloc (Nat.le_refl _) _)⟩
          · obtain ⟨rfl, rfl, rfl⟩ : 1 = pk ∧ n1 + n2 = pn ∧ 0 = pf := by have e := (add_yes m1 m2 hs).symm.trans hP.out; simpa using e
            have hS : Hid (resR subO 1 (n1 + n2) ⟨#[]⟩ 1 n2 ⟨#[]⟩ = (1, n1, 0)) := sub_back m1 m2 hs
            clear hs
            cases hm : numB (n1 * n2)
            · obtain ⟨rfl, rfl, rfl⟩ : 0 = mk ∧ 0 = mn ∧ 1 = mf := by have e := (mul_no m1 m2 hm).symm.trans hM.out; simpa using e
              clear hP hM hD m1 m2 hm HN
              have ⟨a0, a1, a2, a3⟩ := A
              have ⟨b0, b1, b2, b3⟩ := B
              have ⟨p0, p1, p2, p3⟩ := P
              have ⟨l0, l1, l2, l3⟩ := L
              have ⟨m0, m1, m2, m3⟩ := M
              have ⟨d0, d1, d2, d3⟩ := D
              go_wp2_with fail
              refine (ok_implb _ _ _ _ h1.out _ ht1).mono ?_
              rintro e w12 ⟨rfl, hb⟩
              clear a0 a1 a2 a3 b0 b1 b2 b3 p0 p1 p2 p3 l0 l1 l2 l3 m0 m1 m2 m3 d0 d1 d2 d3
              replace A := A.step hb
              replace B := B.step hb
              replace P := P.step hb
              replace L := L.step hb
              replace M := M.step hb
              replace D := D.step hb
              replace hx := chain hx (chainA hb)
              clear hb
              have ⟨a0, a1, a2, a3⟩ := A
              have ⟨b0, b1, b2, b3⟩ := B
              have ⟨p0, p1, p2, p3⟩ := P
              have ⟨l0, l1, l2, l3⟩ := L
              have ⟨m0, m1, m2, m3⟩ := M
              have ⟨d0, d1, d2, d3⟩ := D
              go_wp2_with fail
              refine (ok_implb _ _ _ _ h2.out _ ht2).mono ?_
              rintro e w13 ⟨rfl, hb⟩
              clear a0 a1 a2 a3 b0 b1 b2 b3 p0 p1 p2 p3 l0 l1 l2 l3 m0 m1 m2 m3 d0 d1 d2 d3
              replace A := A.below hb
              replace B := B.below hb
              replace P := P.below hb
              replace L := L.below hb
              replace M := M.below hb
              replace D := D.below hb
              replace hx := chain hx hb
              clear hb
              have ⟨a0, a1, a2, a3⟩ := A
              have ⟨b0, b1, b2, b3⟩ := B
              have ⟨p0, p1, p2, p3⟩ := P
              have ⟨l0, l1, l2, l3⟩ := L
              have ⟨m0, m1, m2, m3⟩ := M
              have ⟨d0, d1, d2, d3⟩ := D
              go_wp2_with fail
              refine (less_impl' _ _ _ _ _ _ _ _ _ hS _ (by decide) ht2).mono ?_
              rintro e w14 ⟨rfl, hb⟩
              clear a0 a1 a2 a3 b0 b1 b2 b3 p0 p1 p2 p3 l0 l1 l2 l3 m0 m1 m2 m3 d0 d1 d2 d3
              replace A := A.below hb
              replace B := B.below hb
              replace P := P.below hb
              replace L := L.below hb
              replace M := M.below hb
              replace D := D.below hb
              replace hx := chain hx hb
              clear hb
              have ⟨a0, a1, a2, a3⟩ := A
              have ⟨b0, b1, b2, b3⟩ := B
              have ⟨p0, p1, p2, p3⟩ := P
              have ⟨l0, l1, l2, l3⟩ := L
              have ⟨m0, m1, m2, m3⟩ := M
              have ⟨d0, d1, d2, d3⟩ := D
              go_wp2
              go_ret
              exact ⟨by first | rfl | (simp; done), chain hx ((Below.refl _ _).alloc (Nat.le_refl _) _)⟩
            · obtain ⟨rfl, rfl, rfl⟩ : 1 = mk ∧ n1 * n2 = mn ∧ 0 = mf := by have e := (mul_yes m1 m2 hm).symm.trans hM.out; simpa using e
              have hB : Hid (resR divO 1 (n1 * n2) ⟨#[]⟩ 1 n2 ⟨#[]⟩ = (1, n1, 0)) := div_back m1 m2 hm HN.out
              clear hP hM hD m1 m2 hm HN
              have ⟨a0, a1, a2, a3⟩ := A
              have ⟨b0, b1, b2, b3⟩ := B
              have ⟨p0, p1, p2, p3⟩ := P
              have ⟨l0, l1, l2, l3⟩ := L
              have ⟨m0, m1, m2, m3⟩ := M
              have ⟨d0, d1, d2, d3⟩ := D
              go_wp2_with fail
              refine (ok_implb _ _ _ _ h1.out _ ht1).mono ?_
              rintro e w12 ⟨rfl, hb⟩
              clear a0 a1 a2 a3 b0 b1 b2 b3 p0 p1 p2 p3 l0 l1 l2 l3 m0 m1 m2 m3 d0 d1 d2 d3
              replace A := A.step hb
              replace B := B.step hb
              replace P := P.step hb
              replace L := L.step hb
              replace M := M.step hb
              replace D := D.step hb
              replace hx := chain hx (chainA hb)
              clear hb
              have ⟨a0, a1, a2, a3⟩ := A
              have ⟨b0, b1, b2, b3⟩ := B
              have ⟨p0, p1, p2, p3⟩ := P
              have ⟨l0, l1, l2, l3⟩ := L
              have ⟨m0, m1, m2, m3⟩ := M
              have ⟨d0, d1, d2, d3⟩ := D
              go_wp2_with fail
              refine (ok_implb _ _ _ _ h2.out _ ht2).mono ?_
              rintro e w13 ⟨rfl, hb⟩
              clear a0 a1 a2 a3 b0 b1 b2 b3 p0 p1 p2 p3 l0 l1 l2 l3 m0 m1 m2 m3 d0 d1 d2 d3
              replace A := A.below hb
              replace B := B.below hb
              replace P := P.below hb
              replace L := L.below hb
              replace M := M.below hb
              replace D := D.below hb
              replace hx := chain hx hb
              clear hb
              have ⟨a0, a1, a2, a3⟩ := A
              have ⟨b0, b1, b2, b3⟩ := B
              have ⟨p0, p1, p2, p3⟩ := P
              have ⟨l0, l1, l2, l3⟩ := L
              have ⟨m0, m1, m2, m3⟩ := M
              have ⟨d0, d1, d2, d3⟩ := D
              go_wp2_with fail
              refine (less_impl' _ _ _ _ _ _ _ _ _ hS _ (by decide) ht2).mono ?_
              rintro e w14 ⟨rfl, hb⟩
              clear a0 a1 a2 a3 b0 b1 b2 b3 p0 p1 p2 p3 l0 l1 l2 l3 m0 m1 m2 m3 d0 d1 d2 d3
              replace A := A.below hb
              replace B := B.below hb
              replace P := P.below hb
              replace L := L.below hb
              replace M := M.below hb
              replace D := D.below hb
              replace hx := chain hx hb
              clear hb
              have ⟨a0, a1, a2, a3⟩ := A
              have ⟨b0, b1, b2, b3⟩ := B
              have ⟨p0, p1, p2, p3⟩ := P
              have ⟨l0, l1, l2, l3⟩ := L
              have ⟨m0, m1, m2, m3⟩ := M
              have ⟨d0, d1, d2, d3⟩ := D
              go_wp2_with fail
              refine (by_impl' _ _ _ _ _ _ _ _ _ hB _ (by decide) ht2).mono ?_
              rintro e w15 ⟨rfl, hb⟩
              clear a0 a1 a2 a3 b0 b1 b2 b3 p0 p1 p2 p3 l0 l1 l2 l3 m0 m1 m2 m3 d0 d1 d2 d3
              replace A := A.step hb
              replace B := B.step hb
              replace P := P.step hb
              replace L := L.step hb
              replace M := M.step hb
              replace D := D.step hb
              replace hx := chain hx (chainA hb)
              clear hb
              have ⟨a0, a1, a2, a3⟩ := A
              have ⟨b0, b1, b2, b3⟩ := B
              have ⟨p0, p1, p2, p3⟩ := P
              have ⟨l0, l1, l2, l3⟩ := L
              have ⟨m0, m1, m2, m3⟩ := M
              have ⟨d0, d1, d2, d3⟩ := D
              go_wp2
              go_ret
              exact ⟨by first | rfl | (simp; done), chain hx ((Below.refl _ _).alloc (Nat.le_refl _) _)⟩
      · have hkn : (knownB 1 n1 t1 && knownB k2 n2 t2) = false := by simp [knownB, z2]
        obtain ⟨rfl, rfl⟩ := res_zero hkn hP
        obtain ⟨rfl, rfl⟩ := res_zero hkn hL
        obtain ⟨rfl, rfl⟩ := res_zero hkn hM
        obtain ⟨rfl, rfl⟩ := res_zero hkn hD
        clear hkn hP hL hM hD
        have ⟨a0, a1, a2, a3⟩ := A
        have ⟨b0, b1, b2, b3⟩ := B
        have ⟨p0, p1, p2, p3⟩ := P
        have ⟨l0, l1, l2, l3⟩ := L
        have ⟨m0, m1, m2, m3⟩ := M
        have ⟨d0, d1, d2, d3⟩ := D
        go_wp2
        go_ret
        exact ⟨by first | rfl | (simp; done), chain hx ((Below.refl _ _).alloc (Nat.le_refl _) _)⟩
    · have hkn : (knownB k1 n1 t1 && knownB k2 n2 t2) = false := by simp [knownB, z1']
      obtain ⟨rfl, rfl⟩ := res_zero hkn hP
      obtain ⟨rfl, rfl⟩ := res_zero hkn hL
      obtain ⟨rfl, rfl⟩ := res_zero hkn hM
      obtain ⟨rfl, rfl⟩ := res_zero hkn hD
      clear hkn hP hL hM hD
      have ⟨a0, a1, a2, a3⟩ := A
      have ⟨b0, b1, b2, b3⟩ := B
      have ⟨p0, p1, p2, p3⟩ := P
      have ⟨l0, l1, l2, l3⟩ := L
      have ⟨m0, m1, m2, m3⟩ := M
      have ⟨d0, d1, d2, d3⟩ := D
      go_wp2
      go_ret
      exact ⟨by first | rfl | (simp; done), chain hx ((Below.refl _ _).alloc (Nat.le_refl _) _)⟩

end sums
end Go.Proofs.Ytodldfplmdoblaa
