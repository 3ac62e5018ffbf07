/-
  The contracts of what is reckoned with: operands, the four small functions on numbers, the model's own helpers, two cells held against each other.
-/
import Derived.Test.YtodldfplmdoblaaWalk4
namespace Go.Proofs.Ytodldfplmdoblaa
open Go.ChangeShapes Go.WideShapes Go.ChangeAt Go.RowKit

/-- A right cell with which one can reckon: a number or none. -/
def rightB (k n : Int) (t : ByteArray) : Bool := okB k n t && (k == 1 || k == 0)
/-- A right cell that is a number. -/
def knownB (k n : Int) (t : ByteArray) : Bool := okB k n t && k == 1

theorem ok_implb (k n : Int) (t : ByteArray) (b : Bool) (hb : okB k n t = b) (w : World) (ht : t.size ≤ maxLen) :
    Calls Try.prog 11 #[.agg #[.int .i64 k, .int .i64 n, .string t]] w fun e w' => e = .returned (.bool b) ∧ Below w.heap.size w w' := by
  subst hb; exact ok_impl k n t w ht

/-- A boxed cell and a new block behind it. -/
theorem two3 {w w1 : World} {a b c : Value} {T : TypeId} {x y z : Value} {U : TypeId}
    (hb : Below ((w.alloc (.cells #[a, b, c] T)).alloc (.cells #[x, y, z] U)).heap.size ((w.alloc (.cells #[a, b, c] T)).alloc (.cells #[x, y, z] U)) w1) :
    (w1.cell? ⟨w.heap.size, 0, none⟩ = some a ∧ w1.cell? ⟨w.heap.size, 1, none⟩ = some b ∧ w1.cell? ⟨w.heap.size, 2, none⟩ = some c ∧ w.heap.size < w1.heap.size) ∧
    (w1.cell? ⟨w.heap.size + 1, 0, none⟩ = some x ∧ w1.cell? ⟨w.heap.size + 1, 1, none⟩ = some y ∧ w1.cell? ⟨w.heap.size + 1, 2, none⟩ = some z ∧ w.heap.size + 1 < w1.heap.size) ∧
    (w1.frozen? ⟨w.heap.size + 1, 0, none⟩ = false ∧ w1.frozen? ⟨w.heap.size + 1, 1, none⟩ = false ∧ w1.frozen? ⟨w.heap.size + 1, 2, none⟩ = false) := by
  refine ⟨⟨?_, ?_, ?_, ?_⟩, ⟨?_, ?_, ?_, ?_⟩, ?_, ?_, ?_⟩
  · rw [hb.cell (p := ⟨w.heap.size, 0, none⟩) (by simp; omega)]; simp [go_sem]
  · rw [hb.cell (p := ⟨w.heap.size, 1, none⟩) (by simp; omega)]; simp [go_sem]
  · rw [hb.cell (p := ⟨w.heap.size, 2, none⟩) (by simp; omega)]; simp [go_sem]
  · have := hb.size; simp at this; omega
  · rw [hb.cell (p := ⟨w.heap.size + 1, 0, none⟩) (by simp)]; simp [go_sem]
  · rw [hb.cell (p := ⟨w.heap.size + 1, 1, none⟩) (by simp)]; simp [go_sem]
  · rw [hb.cell (p := ⟨w.heap.size + 1, 2, none⟩) (by simp)]; simp [go_sem]
  · have := hb.size; simp at this; omega
  · rw [hb.frozen (p := ⟨w.heap.size + 1, 0, none⟩) (by simp)]; simp [go_sem]
  · rw [hb.frozen (p := ⟨w.heap.size + 1, 1, none⟩) (by simp)]; simp [go_sem]
  · rw [hb.frozen (p := ⟨w.heap.size + 1, 2, none⟩) (by simp)]; simp [go_sem]

theorem frozen3 {B : Nat} {w1 w2 : World} (hb : Below w1.heap.size w1 w2) (hB : B < w1.heap.size)
    (h : w1.frozen? ⟨B, 0, none⟩ = false ∧ w1.frozen? ⟨B, 1, none⟩ = false ∧ w1.frozen? ⟨B, 2, none⟩ = false) :
    w2.frozen? ⟨B, 0, none⟩ = false ∧ w2.frozen? ⟨B, 1, none⟩ = false ∧ w2.frozen? ⟨B, 2, none⟩ = false := by
  obtain ⟨h0, h1, h2⟩ := h
  refine ⟨?_, ?_, ?_⟩
  · rw [hb.frozen (p := ⟨B, 0, none⟩) hB]; exact h0
  · rw [hb.frozen (p := ⟨B, 1, none⟩) hB]; exact h1
  · rw [hb.frozen (p := ⟨B, 2, none⟩) hB]; exact h2

theorem chainAA {w w'' : World} {o o' : Obj} (k : Below ((w.alloc o).alloc o').heap.size ((w.alloc o).alloc o') w'') : Below w.heap.size w w'' := chainA (chainA k)

set_option maxHeartbeats 400000 in
theorem operand_wrong (k n : Int) (t : ByteArray) (h : okB k n t = false) (w : World) (ht : t.size ≤ maxLen) :
    Calls Try.prog 33 #[.agg #[.int .i64 k, .int .i64 n, .string t]] w fun e w' => e = .returned (.agg #[.int .i64 0, .bool false, .bool false]) ∧ Below w.heap.size w w' := by
  go_enter Try.func33, Try.ntmps33
  go_wp2_with fail
  refine (ok_implb _ _ _ _ h _ ht).mono ?_
  rintro e w1 ⟨rfl, hb1⟩
  obtain ⟨⟨a1, b1, c1, d1⟩, ⟨x1, y1, z1, s1⟩, f0, f1, f2⟩ := two3 hb1
  have hx := chainAA hb1
  go_wp2
  exact bodyPost_ret (v := .agg #[.int .i64 0, .bool false, .bool false]) (by simp [results, Try.results33, go_sem, x1, y1, z1]) rfl ⟨rfl, by go_grown⟩

set_option maxHeartbeats 400000 in
theorem operand_none (n : Int) (t : ByteArray) (h : okB 0 n t = true) (w : World) (ht : t.size ≤ maxLen) :
    Calls Try.prog 33 #[.agg #[.int .i64 0, .int .i64 n, .string t]] w fun e w' => e = .returned (.agg #[.int .i64 0, .bool false, .bool true]) ∧ Below w.heap.size w w' := by
  have q0 := asserts_noneShape
  go_enter Try.func33, Try.ntmps33
  go_wp2_with fail
  refine (ok_implb _ _ _ _ h _ ht).mono ?_
  rintro e w1 ⟨rfl, hb1⟩
  obtain ⟨⟨a1, b1, c1, d1⟩, ⟨x1, y1, z1, s1⟩, ff⟩ := two3 hb1
  go_wp2_with fail
  refine (shape0 _ _ _).mono ?_
  rintro e w2 ⟨rfl, hb2⟩
  obtain ⟨f0, f1, f2⟩ := frozen3 hb2 s1 ff
  obtain ⟨x2, y2, z2, s2⟩ := later3 hb2 ⟨x1, y1, z1, s1⟩
  have hx := chain (chainAA hb1) hb2
  go_wp2
  exact bodyPost_ret (v := .agg #[.int .i64 0, .bool false, .bool true]) (by simp [results, Try.results33, go_sem, x2, y2, z2, s2]) rfl ⟨rfl, by go_grown⟩

set_option maxHeartbeats 400000 in
theorem operand_num (n : Int) (t : ByteArray) (h : okB 1 n t = true) (w : World) (ht : t.size ≤ maxLen) :
    Calls Try.prog 33 #[.agg #[.int .i64 1, .int .i64 n, .string t]] w fun e w' => e = .returned (.agg #[.int .i64 n, .bool true, .bool true]) ∧ Below w.heap.size w w' := by
  obtain ⟨q0, q1⟩ := asserts_numberShape
  go_enter Try.func33, Try.ntmps33
  go_wp2_with fail
  refine (ok_implb _ _ _ _ h _ ht).mono ?_
  rintro e w1 ⟨rfl, hb1⟩
  obtain ⟨⟨a1, b1, c1, d1⟩, ⟨x1, y1, z1, s1⟩, ff⟩ := two3 hb1
  go_wp2_with fail
  refine (shape1 _ _ _).mono ?_
  rintro e w2 ⟨rfl, hb2⟩
  obtain ⟨f0, f1, f2⟩ := frozen3 hb2 s1 ff
  obtain ⟨x2, y2, z2, s2⟩ := later3 hb2 ⟨x1, y1, z1, s1⟩
  have hx := chain (chainAA hb1) hb2
  go_wp2
  exact bodyPost_ret (v := .agg #[.int .i64 n, .bool true, .bool true]) (by simp [results, Try.results33, go_sem, x2, y2, z2, s2]) rfl ⟨rfl, by go_grown⟩

set_option maxHeartbeats 400000 in
theorem operand_text (n : Int) (t : ByteArray) (h : okB 2 n t = true) (w : World) (ht : t.size ≤ maxLen) :
    Calls Try.prog 33 #[.agg #[.int .i64 2, .int .i64 n, .string t]] w fun e w' => e = .returned (.agg #[.int .i64 0, .bool false, .bool false]) ∧ Below w.heap.size w w' := by
  obtain ⟨q0, q1, q2⟩ := asserts_textShape
  go_enter Try.func33, Try.ntmps33
  go_wp2_with fail
  refine (ok_implb _ _ _ _ h _ ht).mono ?_
  rintro e w1 ⟨rfl, hb1⟩
  obtain ⟨⟨a1, b1, c1, d1⟩, ⟨x1, y1, z1, s1⟩, ff⟩ := two3 hb1
  go_wp2_with fail
  refine (shape2 _ _ _).mono ?_
  rintro e w2 ⟨rfl, hb2⟩
  obtain ⟨f0, f1, f2⟩ := frozen3 hb2 s1 ff
  obtain ⟨x2, y2, z2, s2⟩ := later3 hb2 ⟨x1, y1, z1, s1⟩
  have hx := chain (chainAA hb1) hb2
  go_wp2
  exact bodyPost_ret (v := .agg #[.int .i64 0, .bool false, .bool false]) (by simp [results, Try.results33, go_sem, x2, y2, z2]) rfl ⟨rfl, by go_grown⟩

set_option maxHeartbeats 400000 in
theorem operand_truth (n : Int) (t : ByteArray) (h : okB 3 n t = true) (w : World) (ht : t.size ≤ maxLen) :
    Calls Try.prog 33 #[.agg #[.int .i64 3, .int .i64 n, .string t]] w fun e w' => e = .returned (.agg #[.int .i64 0, .bool false, .bool false]) ∧ Below w.heap.size w w' := by
  obtain ⟨q0, q1, q2, q3⟩ := asserts_truthShape
  go_enter Try.func33, Try.ntmps33
  go_wp2_with fail
  refine (ok_implb _ _ _ _ h _ ht).mono ?_
  rintro e w1 ⟨rfl, hb1⟩
  obtain ⟨⟨a1, b1, c1, d1⟩, ⟨x1, y1, z1, s1⟩, ff⟩ := two3 hb1
  go_wp2_with fail
  refine (shape3 _ _ _).mono ?_
  rintro e w2 ⟨rfl, hb2⟩
  obtain ⟨f0, f1, f2⟩ := frozen3 hb2 s1 ff
  obtain ⟨x2, y2, z2, s2⟩ := later3 hb2 ⟨x1, y1, z1, s1⟩
  have hx := chain (chainAA hb1) hb2
  go_wp2
  exact bodyPost_ret (v := .agg #[.int .i64 0, .bool false, .bool false]) (by simp [results, Try.results33, go_sem, x2, y2, z2]) rfl ⟨rfl, by go_grown⟩

/-- What the program makes of a cell to reckon with. -/
theorem operand_impl (k n : Int) (t : ByteArray) (x : Int) (kn rt : Bool) (hk : knownB k n t = kn) (hr : rightB k n t = rt) (hx : (if kn = true then n else 0) = x) (w : World) (ht : t.size ≤ maxLen) :
    Calls Try.prog 33 #[.agg #[.int .i64 k, .int .i64 n, .string t]] w fun e w' => e = .returned (.agg #[.int .i64 x, .bool kn, .bool rt]) ∧ Below w.heap.size w w' := by
  subst hk hr hx
  cases h : okB k n t
  · have h1 : knownB k n t = false := by simp [knownB, h]
    have h2 : rightB k n t = false := by simp [rightB, h]
    rw [h1, h2]; exact operand_wrong k n t h w ht
  by_cases k0 : k = 0
  · subst k0
    have h1 : knownB 0 n t = false := by simp [knownB]
    have h2 : rightB 0 n t = true := by simp [rightB, h]
    rw [h1, h2]; exact operand_none n t h w ht
  by_cases k1 : k = 1
  · subst k1
    have h1 : knownB 1 n t = true := by simp [knownB, h]
    have h2 : rightB 1 n t = true := by simp [rightB, h]
    rw [h1, h2]; exact operand_num n t h w ht
  have h1 : knownB k n t = false := by simp [knownB, k1]
  have h2 : rightB k n t = false := by simp [rightB, k0, k1]
  rw [h1, h2]
  by_cases k2 : k = 2
  · subst k2; exact operand_text n t h w ht
  by_cases k3 : k = 3
  · subst k3; exact operand_truth n t h w ht
  · exact absurd h (by simp [okB, k0, k1, k2, k3])

theorem plus_impl1 (a b : Int) (w : World) :
    Calls Try.prog 19 #[.int .i64 a, .int .i64 b] w fun e w' => e = .returned (.tuple #[.int .i64 (wrap64 (a + b)), .int .i64 0]) ∧ w' = w := by
  go_enter Try.func19, Try.ntmps19
  go_wp2
  go_ret2
  exact ⟨rfl, rfl⟩

theorem less_impl1 (a b : Int) (w : World) :
    Calls Try.prog 20 #[.int .i64 a, .int .i64 b] w fun e w' => e = .returned (.tuple #[.int .i64 (wrap64 (a - b)), .int .i64 0]) ∧ w' = w := by
  go_enter Try.func20, Try.ntmps20
  go_wp2
  go_ret2
  exact ⟨rfl, rfl⟩

theorem times_impl1 (a b : Int) (w : World) :
    Calls Try.prog 21 #[.int .i64 a, .int .i64 b] w fun e w' => e = .returned (.tuple #[.int .i64 (wrap64 (a * b)), .int .i64 0]) ∧ w' = w := by
  go_enter Try.func21, Try.ntmps21
  go_wp2
  go_ret2
  exact ⟨rfl, rfl⟩

theorem divide_impl0 (a : Int) (w : World) :
    Calls Try.prog 22 #[.int .i64 a, .int .i64 0] w fun e w' => e = .returned (.tuple #[.int .i64 0, .int .i64 2]) ∧ w' = w := by
  go_enter Try.func22, Try.ntmps22
  go_wp2
  go_ret2
  exact ⟨rfl, rfl⟩

theorem divide_impl (a b : Int) (hb : b ≠ 0) (w : World) :
    Calls Try.prog 22 #[.int .i64 a, .int .i64 b] w fun e w' => e = .returned (.tuple #[.int .i64 (wrap64 (a.tdiv b)), .int .i64 0]) ∧ w' = w := by
  go_enter Try.func22, Try.ntmps22
  go_wp2
  go_ret2
  exact ⟨rfl, rfl⟩

theorem cell_spec_yes (n : Int) (h : numB n = true) (w : World) :
    Calls Try.prog 24 #[.int .i64 n] w fun e w' => e = .returned (.tuple #[.agg #[.int .i64 1, .int .i64 n, .string ⟨#[]⟩], .int .i64 0]) ∧ Below w.heap.size w w' := by
  go_enter Try.func24, Try.ntmps24
  go_wp2_with (go_at_call 27; refine (number_spec _ _).mono ?_; rintro e w' ⟨rfl, rfl⟩)
  exact bodyPost_ret (v := .tuple #[.agg #[.int .i64 1, .int .i64 n, .string ⟨#[]⟩], .int .i64 0]) (by simp [results, Try.results24, go_sem]) rfl ⟨rfl, by go_grown⟩

theorem cell_spec_no (n : Int) (h : numB n = false) (w : World) :
    Calls Try.prog 24 #[.int .i64 n] w fun e w' => e = .returned (.tuple #[.agg #[.int .i64 0, .int .i64 0, .string ⟨#[]⟩], .int .i64 1]) ∧ Below w.heap.size w w' := by
  go_enter Try.func24, Try.ntmps24
  go_wp2_with (go_at_call 27; refine (number_spec _ _).mono ?_; rintro e w' ⟨rfl, rfl⟩)
  exact bodyPost_ret (v := .tuple #[.agg #[.int .i64 0, .int .i64 0, .string ⟨#[]⟩], .int .i64 1]) (by simp [results, Try.results24, go_sem]) rfl ⟨rfl, by go_grown⟩

end Go.Proofs.Ytodldfplmdoblaa
