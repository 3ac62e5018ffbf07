/-
  The contracts of the program's own small functions on truths: what an answer's rank is, what the lesser, the greater and the turned one of ranks is, and the cell of a rank.
-/
import Derived.Test.YtgablbdphflokaaTruth
namespace Go.Proofs.Ytgablbdphflokaa
open Go.ChangeShapes Go.WideShapes Go.ChangeAt Go.RowKit

/-- A right cell that is a truth or none. -/
def threeB (k n : Int) (t : ByteArray) : Bool := okB k n t && (k == 3 || k == 0)
/-- Where an answer stands: no, nobody knows, yes. -/
def rankI (k n : Int) : Int := if k = 0 then 1 else if n = 1 then 2 else 0
/-- The kind and the number of the cell at a rank. -/
def rkK (r : Int) : Int := if r = 1 then 0 else 3
def rkN (r : Int) : Int := if r = 2 then 1 else 0
/-- What comes of right answers, and what else: kind, number, fault. -/
def resT (right : Bool) (r : Int) : Int × Int × Int := if right = true then (rkK r, rkN r, 0) else (0, 0, 3)

theorem acell_impl (r : Int) (w : World) :
    Calls Try.prog 94 #[.int .i64 r] w fun e w' => e = .returned (.agg #[.int .i64 (rkK r), .int .i64 (rkN r), .string ⟨#[]⟩]) ∧ Below w.heap.size w w' := by
  by_cases h1 : r = 1
  · subst h1
    go_enter Try.func94, Try.ntmps94
    go_wp2_with fail
    refine (cell0 _).mono ?_
    rintro e w1 ⟨rfl, hb1⟩
    obtain ⟨⟨a1, b1, c1, d1⟩, f0, f1, f2⟩ := box3F hb1
    have hx := chainA hb1
    go_wp2
    exact bodyPost_ret (v := .agg #[.int .i64 0, .int .i64 0, .string ⟨#[]⟩]) (by simp [results, Try.results94, go_sem, a1, b1, c1]) rfl ⟨rfl, by go_grown⟩
  · have hk : rkK r = 3 := by simp [rkK, h1]
    rw [hk]
    go_enter Try.func94, Try.ntmps94
    go_wp2_with fail
    refine (truth_implb _ (rkN r) (by simp [rkN]) _).mono ?_
    rintro e w1 ⟨rfl, hb1⟩
    obtain ⟨⟨a1, b1, c1, d1⟩, f0, f1, f2⟩ := box3F hb1
    have hx := chainA hb1
    go_wp2
    exact bodyPost_ret (v := .agg #[.int .i64 3, .int .i64 (rkN r), .string ⟨#[]⟩]) (by simp [results, Try.results94, go_sem, a1, b1, c1]) rfl ⟨rfl, by go_grown⟩

theorem both_m (x y : Int) (w : World) :
    Calls Try.prog 63 #[.int .i64 x, .int .i64 y] w fun e w' => e = .returned (.int .i64 (min x y)) ∧ w' = w := by
  go_enter Try.func63, Try.ntmps63
  go_wp2
  all_goals go_ret
  all_goals exact ⟨ret_int (by omega), rfl⟩

theorem either_m (x y : Int) (w : World) :
    Calls Try.prog 64 #[.int .i64 x, .int .i64 y] w fun e w' => e = .returned (.int .i64 (max x y)) ∧ w' = w := by
  go_enter Try.func64, Try.ntmps64
  go_wp2
  all_goals go_ret
  all_goals exact ⟨ret_int (by omega), rfl⟩

theorem turned_m (x : Int) (h0 : 0 ≤ x) (h2 : x ≤ 2) (w : World) :
    Calls Try.prog 65 #[.int .i64 x] w fun e w' => e = .returned (.int .i64 (2 - x)) ∧ w' = w := by
  go_enter Try.func65, Try.ntmps65
  go_wp2
  go_ret
  exact ⟨by first | rfl | (rw [wrap64_id (by omega) (by omega)]), rfl⟩

set_option maxHeartbeats 400000 in
theorem answer_wrong (k n : Int) (t : ByteArray) (h : okB k n t = false) (w : World) (ht : t.size ≤ maxLen) :
    Calls Try.prog 61 #[.agg #[.int .i64 k, .int .i64 n, .string t]] w fun e w' => e = .returned (.tuple #[.int .i64 0, .bool false]) ∧ Below w.heap.size w w' := by
  go_enter Try.func61, Try.ntmps61
  go_wp2_with fail
  refine (ok_implb _ _ _ _ h _ ht).mono ?_
  rintro e w1 ⟨rfl, hb1⟩
  have hx := chainA hb1
  go_wp2
  go_ret2
  exact ⟨rfl, by go_grown⟩

set_option maxHeartbeats 400000 in
theorem answer_none (n : Int) (t : ByteArray) (h : okB 0 n t = true) (w : World) (ht : t.size ≤ maxLen) :
    Calls Try.prog 61 #[.agg #[.int .i64 0, .int .i64 n, .string t]] w fun e w' => e = .returned (.tuple #[.int .i64 1, .bool true]) ∧ Below w.heap.size w w' := by
  have q0 := asserts_noneShape
  go_enter Try.func61, Try.ntmps61
  go_wp2_with fail
  refine (ok_implb _ _ _ _ h _ ht).mono ?_
  rintro e w1 ⟨rfl, hb1⟩
  obtain ⟨a1, b1, c1, d1⟩ := box3 hb1
  go_wp2_with fail
  refine (shape0 _ _ _).mono ?_
  rintro e w2 ⟨rfl, hb2⟩
  have hx := chain (chainA hb1) hb2
  have hxs := hx.size
  go_wp2
  go_ret2
  exact ⟨rfl, by go_grown⟩

set_option maxHeartbeats 400000 in
theorem answer_num (n : Int) (t : ByteArray) (h : okB 1 n t = true) (w : World) (ht : t.size ≤ maxLen) :
    Calls Try.prog 61 #[.agg #[.int .i64 1, .int .i64 n, .string t]] w fun e w' => e = .returned (.tuple #[.int .i64 0, .bool false]) ∧ Below w.heap.size w w' := by
  have q0 := asserts_numberShape.1
  have q1 : (∀ (v : Value) (w : World), (Instr.typeAssert (.iface 96 v) 52 99 true).run Try.prog w = .ok (.tuple #[.agg #[.int .i64 0], .bool false]) w) := fun v w => by kernel_rfl
  go_enter Try.func61, Try.ntmps61
  go_wp2_with fail
  refine (ok_implb _ _ _ _ h _ ht).mono ?_
  rintro e w1 ⟨rfl, hb1⟩
  obtain ⟨a1, b1, c1, d1⟩ := box3 hb1
  go_wp2_with fail
  refine (shape1 _ _ _).mono ?_
  rintro e w2 ⟨rfl, hb2⟩
  have hx := chain (chainA hb1) hb2
  have hxs := hx.size
  go_wp2
  go_ret2
  exact ⟨rfl, by go_grown⟩

set_option maxHeartbeats 400000 in
theorem answer_text (n : Int) (t : ByteArray) (h : okB 2 n t = true) (w : World) (ht : t.size ≤ maxLen) :
    Calls Try.prog 61 #[.agg #[.int .i64 2, .int .i64 n, .string t]] w fun e w' => e = .returned (.tuple #[.int .i64 0, .bool false]) ∧ Below w.heap.size w w' := by
  have q0 := asserts_textShape.1
  have q1 : (∀ (v : Value) (w : World), (Instr.typeAssert (.iface 98 v) 52 99 true).run Try.prog w = .ok (.tuple #[.agg #[.int .i64 0], .bool false]) w) := fun v w => by kernel_rfl
  go_enter Try.func61, Try.ntmps61
  go_wp2_with fail
  refine (ok_implb _ _ _ _ h _ ht).mono ?_
  rintro e w1 ⟨rfl, hb1⟩
  obtain ⟨a1, b1, c1, d1⟩ := box3 hb1
  go_wp2_with fail
  refine (shape2 _ _ _).mono ?_
  rintro e w2 ⟨rfl, hb2⟩
  have hx := chain (chainA hb1) hb2
  have hxs := hx.size
  go_wp2
  go_ret2
  exact ⟨rfl, by go_grown⟩

set_option maxHeartbeats 400000 in
theorem answer_truth (n : Int) (t : ByteArray) (h : okB 3 n t = true) (w : World) (ht : t.size ≤ maxLen) :
    Calls Try.prog 61 #[.agg #[.int .i64 3, .int .i64 n, .string t]] w fun e w' => e = .returned (.tuple #[.int .i64 (if n = 1 then 2 else 0), .bool true]) ∧ Below w.heap.size w w' := by
  have q0 := asserts_truthShape.1
  have q3 := asserts_truthShape.2.2.2
  by_cases hn : n = 1
  · subst hn
    go_enter Try.func61, Try.ntmps61
    go_wp2_with fail
    refine (ok_implb _ _ _ _ h _ ht).mono ?_
    rintro e w1 ⟨rfl, hb1⟩
    obtain ⟨a1, b1, c1, d1⟩ := box3 hb1
    go_wp2_with fail
    refine (shape3 _ _ _).mono ?_
    rintro e w2 ⟨rfl, hb2⟩
    have hx := chain (chainA hb1) hb2
    have hxs := hx.size
    go_wp2
    go_ret2
    exact ⟨rfl, by go_grown⟩
  · rw [if_neg hn]
    go_enter Try.func61, Try.ntmps61
    go_wp2_with fail
    refine (ok_implb _ _ _ _ h _ ht).mono ?_
    rintro e w1 ⟨rfl, hb1⟩
    obtain ⟨a1, b1, c1, d1⟩ := box3 hb1
    go_wp2_with fail
    refine (shape3 _ _ _).mono ?_
    rintro e w2 ⟨rfl, hb2⟩
    have hx := chain (chainA hb1) hb2
    have hxs := hx.size
    go_wp2
    go_ret2
    exact ⟨rfl, by go_grown⟩

/-- What the program makes of a cell to answer with. -/
theorem answer_impl (k n : Int) (t : ByteArray) (x : Int) (rt : Bool) (hr : threeB k n t = rt) (hx : (if rt = true then rankI k n else 0) = x) (w : World) (ht : t.size ≤ maxLen) :
    Calls Try.prog 61 #[.agg #[.int .i64 k, .int .i64 n, .string t]] w fun e w' => e = .returned (.tuple #[.int .i64 x, .bool rt]) ∧ Below w.heap.size w w' := by
  subst hr hx
  cases h : okB k n t
  · have h2 : threeB k n t = false := by simp [threeB, h]
    rw [h2]; exact answer_wrong k n t h w ht
  by_cases k0 : k = 0
  · subst k0
    have h2 : threeB 0 n t = true := by simp [threeB, h]
    rw [h2]; exact answer_none n t h w ht
  by_cases k3 : k = 3
  · subst k3
    have h2 : threeB 3 n t = true := by simp [threeB, h]
    rw [h2]; exact answer_truth n t h w ht
  have h2 : threeB k n t = false := by simp [threeB, k0, k3]
  rw [h2]
  by_cases k1 : k = 1
  · subst k1; exact answer_num n t h w ht
  by_cases k2 : k = 2
  · subst k2; exact answer_text n t h w ht
  · exact absurd h (by simp [okB, k0, k1, k2, k3])

end Go.Proofs.Ytgablbdphflokaa
