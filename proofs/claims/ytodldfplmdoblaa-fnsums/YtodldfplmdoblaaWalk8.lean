/-
  The contracts of Plus, Less, Times and By: the program's and the model's come to the same.
-/
import Derived.Test.YtodldfplmdoblaaWalk7
namespace Go.Proofs.Ytodldfplmdoblaa
open Go.ChangeShapes Go.WideShapes Go.ChangeAt Go.RowKit

def addO (a b : Int) : Int × Int := (wrap64 (a + b), 0)
def subO (a b : Int) : Int × Int := (wrap64 (a - b), 0)
def mulO (a b : Int) : Int × Int := (wrap64 (a * b), 0)
def divO (a b : Int) : Int × Int := if b = 0 then (0, 2) else (wrap64 (a.tdiv b), 0)

/-- What comes of two cells: the kind, the number, the fault. -/
def resR (o : Int → Int → Int × Int) (k1 n1 : Int) (t1 : ByteArray) (k2 n2 : Int) (t2 : ByteArray) : Int × Int × Int :=
  opR (rightB k1 n1 t1 && rightB k2 n2 t2) (knownB k1 n1 t1 && knownB k2 n2 t2) (o n1 n2).1 (o n1 n2).2

theorem resR_open (o : Int → Int → Int × Int) (k1 n1 : Int) (t1 : ByteArray) (k2 n2 : Int) (t2 : ByteArray) (x1 x2 : Int) (hx1 : (if knownB k1 n1 t1 = true then n1 else 0) = x1) (hx2 : (if knownB k2 n2 t2 = true then n2 else 0) = x2) :
    resR o k1 n1 t1 k2 n2 t2 = opR (rightB k1 n1 t1 && rightB k2 n2 t2) (knownB k1 n1 t1 && knownB k2 n2 t2) (o x1 x2).1 (o x1 x2).2 := by
  unfold resR
  cases h1 : knownB k1 n1 t1
  · simp [opR]
  · cases h2 : knownB k2 n2 t2
    · simp [opR]
    · rw [h1] at hx1; rw [h2] at hx2
      simp at hx1 hx2
      rw [hx1, hx2]

theorem right_known (k1 n1 : Int) (t1 : ByteArray) (k2 n2 : Int) (t2 : ByteArray) (h : (rightB k1 n1 t1 && rightB k2 n2 t2) = true) :
    (knownB k1 n1 t1 && knownB k2 n2 t2) = !(k1 == 0 || k2 == 0) := by
  simp only [rightB, Bool.and_eq_true, Bool.or_eq_true, beq_iff_eq] at h
  obtain ⟨⟨o1, h1⟩, o2, h2⟩ := h
  unfold knownB
  rw [o1, o2]
  rcases h1 with h1 | h1 <;> rcases h2 with h2 | h2 <;> subst h1 <;> subst h2 <;> rfl

section
attribute [local simp] World.cell?_alloc_past World.cell?_alloc_at World.frozen?_alloc_at
/-- Three new blocks, in every later world. -/
theorem three3 {w w1 : World} {a b c : Value} {T : TypeId} {x y z : Value} {U : TypeId} {p q r : Value} {V : TypeId}
    (hb : Below (((w.alloc (.cells #[a, b, c] T)).alloc (.cells #[x, y, z] U)).alloc (.cells #[p, q, r] V)).heap.size (((w.alloc (.cells #[a, b, c] T)).alloc (.cells #[x, y, z] U)).alloc (.cells #[p, q, r] V)) w1) :
    (w1.cell? ⟨w.heap.size, 0, none⟩ = some a ∧ w1.cell? ⟨w.heap.size, 1, none⟩ = some b ∧ w1.cell? ⟨w.heap.size, 2, none⟩ = some c ∧ w.heap.size < w1.heap.size) ∧
    (w1.cell? ⟨w.heap.size + 1, 0, none⟩ = some x ∧ w1.cell? ⟨w.heap.size + 1, 1, none⟩ = some y ∧ w1.cell? ⟨w.heap.size + 1, 2, none⟩ = some z ∧ w.heap.size + 1 < w1.heap.size) ∧
    (w1.cell? ⟨w.heap.size + 1 + 1, 0, none⟩ = some p ∧ w1.cell? ⟨w.heap.size + 1 + 1, 1, none⟩ = some q ∧ w1.cell? ⟨w.heap.size + 1 + 1, 2, none⟩ = some r ∧ w.heap.size + 1 + 1 < w1.heap.size) ∧
    (w1.frozen? ⟨w.heap.size + 1 + 1, 0, none⟩ = false ∧ w1.frozen? ⟨w.heap.size + 1 + 1, 1, none⟩ = false ∧ w1.frozen? ⟨w.heap.size + 1 + 1, 2, none⟩ = false) := by
  have hs : w.heap.size + 1 + 1 + 1 ≤ w1.heap.size := by have := hb.size; simp at this; omega
  refine ⟨⟨?_, ?_, ?_, ?_⟩, ⟨?_, ?_, ?_, ?_⟩, ⟨?_, ?_, ?_, ?_⟩, ?_, ?_, ?_⟩
  · rw [hb.cell (p := ⟨w.heap.size, 0, none⟩) (by simp; try omega)]; simp (disch := first | omega | (simp <;> omega) | fail)
  · rw [hb.cell (p := ⟨w.heap.size, 1, none⟩) (by simp; try omega)]; simp (disch := first | omega | (simp <;> omega) | fail)
  · rw [hb.cell (p := ⟨w.heap.size, 2, none⟩) (by simp; try omega)]; simp (disch := first | omega | (simp <;> omega) | fail)
  · omega
  · rw [hb.cell (p := ⟨w.heap.size + 1, 0, none⟩) (by simp; try omega)]; simp (disch := first | omega | (simp <;> omega) | fail)
  · rw [hb.cell (p := ⟨w.heap.size + 1, 1, none⟩) (by simp; try omega)]; simp (disch := first | omega | (simp <;> omega) | fail)
  · rw [hb.cell (p := ⟨w.heap.size + 1, 2, none⟩) (by simp; try omega)]; simp (disch := first | omega | (simp <;> omega) | fail)
  · omega
  · rw [hb.cell (p := ⟨w.heap.size + 1 + 1, 0, none⟩) (by simp; try omega)]; simp (disch := first | omega | (simp <;> omega) | fail)
  · rw [hb.cell (p := ⟨w.heap.size + 1 + 1, 1, none⟩) (by simp; try omega)]; simp (disch := first | omega | (simp <;> omega) | fail)
  · rw [hb.cell (p := ⟨w.heap.size + 1 + 1, 2, none⟩) (by simp; try omega)]; simp (disch := first | omega | (simp <;> omega) | fail)
  · omega
  · rw [hb.frozen (p := ⟨w.heap.size + 1 + 1, 0, none⟩) (by simp)]; simp (disch := first | omega | (simp <;> omega) | fail)
  · rw [hb.frozen (p := ⟨w.heap.size + 1 + 1, 1, none⟩) (by simp)]; simp (disch := first | omega | (simp <;> omega) | fail)
  · rw [hb.frozen (p := ⟨w.heap.size + 1 + 1, 2, none⟩) (by simp)]; simp (disch := first | omega | (simp <;> omega) | fail)

end

theorem enters_plus (xs : Array Value) (w : World) : (callFunc 19 xs).run Try.prog w = .ok (.enter 19 xs) w := by kernel_rfl

set_option maxHeartbeats 400000 in
theorem plus_impl (k1 n1 : Int) (t1 : ByteArray) (k2 n2 : Int) (t2 : ByteArray) (w : World) (ht1 : t1.size ≤ maxLen) (ht2 : t2.size ≤ maxLen) :
    Calls Try.prog 6 #[.agg #[.int .i64 k1, .int .i64 n1, .string t1], .agg #[.int .i64 k2, .int .i64 n2, .string t2]] w fun e w' => e = .returned (.tuple #[.agg #[.int .i64 (resR addO k1 n1 t1 k2 n2 t2).1, .int .i64 (resR addO k1 n1 t1 k2 n2 t2).2.1, .string ⟨#[]⟩], .int .i64 (resR addO k1 n1 t1 k2 n2 t2).2.2]) ∧ Below w.heap.size w w' := by
  obtain ⟨x1, hx1⟩ : ∃ x, (if knownB k1 n1 t1 = true then n1 else 0) = x := ⟨_, rfl⟩
  obtain ⟨x2, hx2⟩ : ∃ x, (if knownB k2 n2 t2 = true then n2 else 0) = x := ⟨_, rfl⟩
  rw [resR_open addO k1 n1 t1 k2 n2 t2 x1 x2 hx1 hx2]
  have H : Hid (∀ w, Calls Try.prog 18 #[.agg #[.int .i64 k1, .int .i64 n1, .string t1], .agg #[.int .i64 k2, .int .i64 n2, .string t2], .func (.func 19) #[] #[]] w fun e w' => e = .returned (.tuple #[.agg #[.int .i64 (opR (rightB k1 n1 t1 && rightB k2 n2 t2) (knownB k1 n1 t1 && knownB k2 n2 t2) (addO x1 x2).1 (addO x1 x2).2).1, .int .i64 (opR (rightB k1 n1 t1 && rightB k2 n2 t2) (knownB k1 n1 t1 && knownB k2 n2 t2) (addO x1 x2).1 (addO x1 x2).2).2.1, .string ⟨#[]⟩], .int .i64 (opR (rightB k1 n1 t1 && rightB k2 n2 t2) (knownB k1 n1 t1 && knownB k2 n2 t2) (addO x1 x2).1 (addO x1 x2).2).2.2]) ∧ Below w.heap.size w w') := fun w =>
    reckon 19 enters_plus _ _ k1 n1 t1 k2 n2 t2 x1 x2 _ _ _ _ rfl rfl hx1 rfl rfl hx2 (fun w => plus_impl1 x1 x2 w) w ht1 ht2
  clear hx1 hx2
  generalize opR (rightB k1 n1 t1 && rightB k2 n2 t2) (knownB k1 n1 t1 && knownB k2 n2 t2) (addO x1 x2).1 (addO x1 x2).2 = R at H ⊢
  go_enter Try.func6, Try.ntmps6
  go_wp2_with fail
  refine (H.out _).mono ?_
  rintro e w1 ⟨rfl, hb1⟩
  obtain ⟨⟨a1, b1, c1, d1⟩, ⟨x1, y1, z1, s1⟩, ⟨p1, q1, r1, s2⟩, f0, f1, f2⟩ := three3 hb1
  have hx := chainA (chainAA hb1)
  go_wp2
  exact bodyPost_ret (v := .tuple #[.agg #[.int .i64 R.1, .int .i64 R.2.1, .string ⟨#[]⟩], .int .i64 R.2.2]) (by simp [results, Try.results6, go_sem, p1, q1, r1]) rfl ⟨rfl, by go_grown⟩

theorem enters_less (xs : Array Value) (w : World) : (callFunc 20 xs).run Try.prog w = .ok (.enter 20 xs) w := by kernel_rfl

set_option maxHeartbeats 400000 in
theorem less_impl (k1 n1 : Int) (t1 : ByteArray) (k2 n2 : Int) (t2 : ByteArray) (w : World) (ht1 : t1.size ≤ maxLen) (ht2 : t2.size ≤ maxLen) :
    Calls Try.prog 7 #[.agg #[.int .i64 k1, .int .i64 n1, .string t1], .agg #[.int .i64 k2, .int .i64 n2, .string t2]] w fun e w' => e = .returned (.tuple #[.agg #[.int .i64 (resR subO k1 n1 t1 k2 n2 t2).1, .int .i64 (resR subO k1 n1 t1 k2 n2 t2).2.1, .string ⟨#[]⟩], .int .i64 (resR subO k1 n1 t1 k2 n2 t2).2.2]) ∧ Below w.heap.size w w' := by
  obtain ⟨x1, hx1⟩ : ∃ x, (if knownB k1 n1 t1 = true then n1 else 0) = x := ⟨_, rfl⟩
  obtain ⟨x2, hx2⟩ : ∃ x, (if knownB k2 n2 t2 = true then n2 else 0) = x := ⟨_, rfl⟩
  rw [resR_open subO k1 n1 t1 k2 n2 t2 x1 x2 hx1 hx2]
  have H : Hid (∀ w, Calls Try.prog 18 #[.agg #[.int .i64 k1, .int .i64 n1, .string t1], .agg #[.int .i64 k2, .int .i64 n2, .string t2], .func (.func 20) #[] #[]] w fun e w' => e = .returned (.tuple #[.agg #[.int .i64 (opR (rightB k1 n1 t1 && rightB k2 n2 t2) (knownB k1 n1 t1 && knownB k2 n2 t2) (subO x1 x2).1 (subO x1 x2).2).1, .int .i64 (opR (rightB k1 n1 t1 && rightB k2 n2 t2) (knownB k1 n1 t1 && knownB k2 n2 t2) (subO x1 x2).1 (subO x1 x2).2).2.1, .string ⟨#[]⟩], .int .i64 (opR (rightB k1 n1 t1 && rightB k2 n2 t2) (knownB k1 n1 t1 && knownB k2 n2 t2) (subO x1 x2).1 (subO x1 x2).2).2.2]) ∧ Below w.heap.size w w') := fun w =>
    reckon 20 enters_less _ _ k1 n1 t1 k2 n2 t2 x1 x2 _ _ _ _ rfl rfl hx1 rfl rfl hx2 (fun w => less_impl1 x1 x2 w) w ht1 ht2
  clear hx1 hx2
  generalize opR (rightB k1 n1 t1 && rightB k2 n2 t2) (knownB k1 n1 t1 && knownB k2 n2 t2) (subO x1 x2).1 (subO x1 x2).2 = R at H ⊢
  go_enter Try.func7, Try.ntmps7
  go_wp2_with fail
  refine (H.out _).mono ?_
  rintro e w1 ⟨rfl, hb1⟩
  obtain ⟨⟨a1, b1, c1, d1⟩, ⟨x1, y1, z1, s1⟩, ⟨p1, q1, r1, s2⟩, f0, f1, f2⟩ := three3 hb1
  have hx := chainA (chainAA hb1)
  go_wp2
  exact bodyPost_ret (v := .tuple #[.agg #[.int .i64 R.1, .int .i64 R.2.1, .string ⟨#[]⟩], .int .i64 R.2.2]) (by simp [results, Try.results7, go_sem, p1, q1, r1]) rfl ⟨rfl, by go_grown⟩

theorem enters_times (xs : Array Value) (w : World) : (callFunc 21 xs).run Try.prog w = .ok (.enter 21 xs) w := by kernel_rfl

set_option maxHeartbeats 400000 in
theorem times_impl (k1 n1 : Int) (t1 : ByteArray) (k2 n2 : Int) (t2 : ByteArray) (w : World) (ht1 : t1.size ≤ maxLen) (ht2 : t2.size ≤ maxLen) :
    Calls Try.prog 8 #[.agg #[.int .i64 k1, .int .i64 n1, .string t1], .agg #[.int .i64 k2, .int .i64 n2, .string t2]] w fun e w' => e = .returned (.tuple #[.agg #[.int .i64 (resR mulO k1 n1 t1 k2 n2 t2).1, .int .i64 (resR mulO k1 n1 t1 k2 n2 t2).2.1, .string ⟨#[]⟩], .int .i64 (resR mulO k1 n1 t1 k2 n2 t2).2.2]) ∧ Below w.heap.size w w' := by
  obtain ⟨x1, hx1⟩ : ∃ x, (if knownB k1 n1 t1 = true then n1 else 0) = x := ⟨_, rfl⟩
  obtain ⟨x2, hx2⟩ : ∃ x, (if knownB k2 n2 t2 = true then n2 else 0) = x := ⟨_, rfl⟩
  rw [resR_open mulO k1 n1 t1 k2 n2 t2 x1 x2 hx1 hx2]
  have H : Hid (∀ w, Calls Try.prog 18 #[.agg #[.int .i64 k1, .int .i64 n1, .string t1], .agg #[.int .i64 k2, .int .i64 n2, .string t2], .func (.func 21) #[] #[]] w fun e w' => e = .returned (.tuple #[.agg #[.int .i64 (opR (rightB k1 n1 t1 && rightB k2 n2 t2) (knownB k1 n1 t1 && knownB k2 n2 t2) (mulO x1 x2).1 (mulO x1 x2).2).1, .int .i64 (opR (rightB k1 n1 t1 && rightB k2 n2 t2) (knownB k1 n1 t1 && knownB k2 n2 t2) (mulO x1 x2).1 (mulO x1 x2).2).2.1, .string ⟨#[]⟩], .int .i64 (opR (rightB k1 n1 t1 && rightB k2 n2 t2) (knownB k1 n1 t1 && knownB k2 n2 t2) (mulO x1 x2).1 (mulO x1 x2).2).2.2]) ∧ Below w.heap.size w w') := fun w =>
    reckon 21 enters_times _ _ k1 n1 t1 k2 n2 t2 x1 x2 _ _ _ _ rfl rfl hx1 rfl rfl hx2 (fun w => times_impl1 x1 x2 w) w ht1 ht2
  clear hx1 hx2
  generalize opR (rightB k1 n1 t1 && rightB k2 n2 t2) (knownB k1 n1 t1 && knownB k2 n2 t2) (mulO x1 x2).1 (mulO x1 x2).2 = R at H ⊢
  go_enter Try.func8, Try.ntmps8
  go_wp2_with fail
  refine (H.out _).mono ?_
  rintro e w1 ⟨rfl, hb1⟩
  obtain ⟨⟨a1, b1, c1, d1⟩, ⟨x1, y1, z1, s1⟩, ⟨p1, q1, r1, s2⟩, f0, f1, f2⟩ := three3 hb1
  have hx := chainA (chainAA hb1)
  go_wp2
  exact bodyPost_ret (v := .tuple #[.agg #[.int .i64 R.1, .int .i64 R.2.1, .string ⟨#[]⟩], .int .i64 R.2.2]) (by simp [results, Try.results8, go_sem, p1, q1, r1]) rfl ⟨rfl, by go_grown⟩

theorem divide_all (a b : Int) (w : World) :
    Calls Try.prog 22 #[.int .i64 a, .int .i64 b] w fun e w' => e = .returned (.tuple #[.int .i64 (divO a b).1, .int .i64 (divO a b).2]) ∧ w' = w := by
  unfold divO
  by_cases hb : b = 0
  · subst hb; exact divide_impl0 a w
  · rw [if_neg hb]; exact divide_impl a b hb w

theorem enters_by (xs : Array Value) (w : World) : (callFunc 22 xs).run Try.prog w = .ok (.enter 22 xs) w := by kernel_rfl

set_option maxHeartbeats 400000 in
theorem by_impl (k1 n1 : Int) (t1 : ByteArray) (k2 n2 : Int) (t2 : ByteArray) (w : World) (ht1 : t1.size ≤ maxLen) (ht2 : t2.size ≤ maxLen) :
    Calls Try.prog 9 #[.agg #[.int .i64 k1, .int .i64 n1, .string t1], .agg #[.int .i64 k2, .int .i64 n2, .string t2]] w fun e w' => e = .returned (.tuple #[.agg #[.int .i64 (resR divO k1 n1 t1 k2 n2 t2).1, .int .i64 (resR divO k1 n1 t1 k2 n2 t2).2.1, .string ⟨#[]⟩], .int .i64 (resR divO k1 n1 t1 k2 n2 t2).2.2]) ∧ Below w.heap.size w w' := by
  obtain ⟨x1, hx1⟩ : ∃ x, (if knownB k1 n1 t1 = true then n1 else 0) = x := ⟨_, rfl⟩
  obtain ⟨x2, hx2⟩ : ∃ x, (if knownB k2 n2 t2 = true then n2 else 0) = x := ⟨_, rfl⟩
  rw [resR_open divO k1 n1 t1 k2 n2 t2 x1 x2 hx1 hx2]
  have H : Hid (∀ w, Calls Try.prog 18 #[.agg #[.int .i64 k1, .int .i64 n1, .string t1], .agg #[.int .i64 k2, .int .i64 n2, .string t2], .func (.func 22) #[] #[]] w fun e w' => e = .returned (.tuple #[.agg #[.int .i64 (opR (rightB k1 n1 t1 && rightB k2 n2 t2) (knownB k1 n1 t1 && knownB k2 n2 t2) (divO x1 x2).1 (divO x1 x2).2).1, .int .i64 (opR (rightB k1 n1 t1 && rightB k2 n2 t2) (knownB k1 n1 t1 && knownB k2 n2 t2) (divO x1 x2).1 (divO x1 x2).2).2.1, .string ⟨#[]⟩], .int .i64 (opR (rightB k1 n1 t1 && rightB k2 n2 t2) (knownB k1 n1 t1 && knownB k2 n2 t2) (divO x1 x2).1 (divO x1 x2).2).2.2]) ∧ Below w.heap.size w w') := fun w =>
    reckon 22 enters_by _ _ k1 n1 t1 k2 n2 t2 x1 x2 _ _ _ _ rfl rfl hx1 rfl rfl hx2 (fun w => divide_all x1 x2 w) w ht1 ht2
  clear hx1 hx2
  generalize opR (rightB k1 n1 t1 && rightB k2 n2 t2) (knownB k1 n1 t1 && knownB k2 n2 t2) (divO x1 x2).1 (divO x1 x2).2 = R at H ⊢
  go_enter Try.func9, Try.ntmps9
  go_wp2_with fail
  refine (H.out _).mono ?_
  rintro e w1 ⟨rfl, hb1⟩
  obtain ⟨⟨a1, b1, c1, d1⟩, ⟨x1, y1, z1, s1⟩, ⟨p1, q1, r1, s2⟩, f0, f1, f2⟩ := three3 hb1
  have hx := chainA (chainAA hb1)
  go_wp2
  exact bodyPost_ret (v := .tuple #[.agg #[.int .i64 R.1, .int .i64 R.2.1, .string ⟨#[]⟩], .int .i64 R.2.2]) (by simp [results, Try.results9, go_sem, p1, q1, r1]) rfl ⟨rfl, by go_grown⟩

end Go.Proofs.Ytodldfplmdoblaa
