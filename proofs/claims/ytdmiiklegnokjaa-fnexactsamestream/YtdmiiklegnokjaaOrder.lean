/-
  The order of cells: of two that are unlike just one is less; what is less than less is less; three answers of one comparison.
-/
import Derived.Test.YtdmiiklegnokjaaRank1
import Derived.Test.YtdmiiklegnokjaaHeapMath
import Derived.Sort.Walk0
namespace Go.Proofs.Ytdmiiklegnokjaa

/-- Held against each other: below 0, 0, or above. -/
def cmpI (x y : Int) : Int := if x < y then -1 else if y < x then 1 else 0
def cmpS (s u : ByteArray) : Int := if Op.bytesLess s.toList u.toList = true then -1 else if Op.bytesLess u.toList s.toList = true then 1 else 0
/-- The first that is not 0. -/
def or3 (a b c : Int) : Int := if a ≠ 0 then a else if b ≠ 0 then b else c
def cmpC (k1 n1 : Int) (t1 : ByteArray) (k2 n2 : Int) (t2 : ByteArray) : Int := or3 (cmpI k1 k2) (cmpI n1 n2) (cmpS t1 t2)

theorem bl_irr (s : ByteArray) : Op.bytesLess s.toList s.toList = false := by
  rw [bytesLess_eq]; simp
theorem bl_asym {s u : ByteArray} (h : Op.bytesLess s.toList u.toList = true) : Op.bytesLess u.toList s.toList = false := by
  rw [bytesLess_eq] at h ⊢
  simp only [decide_eq_true_eq, decide_eq_false_iff_not] at h ⊢
  exact List.lt_asymm h
theorem bl_trans {s u v : ByteArray} (h : Op.bytesLess s.toList u.toList = true) (k : Op.bytesLess u.toList v.toList = true) : Op.bytesLess s.toList v.toList = true := by
  rw [bytesLess_eq] at h k ⊢
  simp only [decide_eq_true_eq] at h k ⊢
  exact List.lt_trans h k
theorem bl_tri {s u : ByteArray} (h : Op.bytesLess s.toList u.toList = false) (k : Op.bytesLess u.toList s.toList = false) : s = u := by
  rw [bytesLess_eq] at h k
  simp only [decide_eq_false_iff_not] at h k
  exact bytes_eq (List.le_antisymm k h)

theorem cmpI_neg (x y : Int) : cmpI y x = - cmpI x y := by
  unfold cmpI
  by_cases h1 : x < y
  · rw [if_neg (by omega), if_pos h1, if_pos h1]; rfl
  · by_cases h2 : y < x
    · rw [if_pos h2, if_neg h1, if_pos h2]
    · rw [if_neg h2, if_neg h1, if_neg h1, if_neg h2]; rfl
theorem cmpS_neg (s u : ByteArray) : cmpS u s = - cmpS s u := by
  unfold cmpS
  cases h1 : Op.bytesLess s.toList u.toList
  · cases h2 : Op.bytesLess u.toList s.toList <;> simp
  · simp [bl_asym h1]
theorem cmpC_neg (k1 n1 : Int) (t1 : ByteArray) (k2 n2 : Int) (t2 : ByteArray) : cmpC k2 n2 t2 k1 n1 t1 = - cmpC k1 n1 t1 k2 n2 t2 := by
  unfold cmpC or3
  rw [cmpI_neg k1 k2, cmpI_neg n1 n2, cmpS_neg t1 t2]
  by_cases h1 : cmpI k1 k2 = 0 <;> by_cases h2 : cmpI n1 n2 = 0 <;> simp [h1, h2]
theorem cmpI_bound (x y : Int) : -1 ≤ cmpI x y ∧ cmpI x y ≤ 1 := by
  unfold cmpI; split
  · omega
  · split <;> omega
theorem cmpS_bound (x y : ByteArray) : -1 ≤ cmpS x y ∧ cmpS x y ≤ 1 := by
  unfold cmpS; split
  · omega
  · split <;> omega
theorem cmpC_bound (k1 n1 : Int) (t1 : ByteArray) (k2 n2 : Int) (t2 : ByteArray) : -1 ≤ cmpC k1 n1 t1 k2 n2 t2 ∧ cmpC k1 n1 t1 k2 n2 t2 ≤ 1 := by
  unfold cmpC or3
  split
  · exact cmpI_bound _ _
  · split
    · exact cmpI_bound _ _
    · exact cmpS_bound _ _
theorem cmpI_lt (x y : Int) : cmpI x y < 0 ↔ x < y := by
  unfold cmpI; split
  · omega
  · split <;> omega
theorem cmpI_zero (x y : Int) : cmpI x y = 0 ↔ x = y := by
  unfold cmpI; split
  · omega
  · split <;> omega
theorem cmpS_lt (s u : ByteArray) : cmpS s u < 0 ↔ Op.bytesLess s.toList u.toList = true := by
  unfold cmpS; split
  · rename_i h; simp [h]
  · rename_i h; split <;> simp [h]
theorem cmpS_zero (s u : ByteArray) : cmpS s u = 0 ↔ s = u := by
  unfold cmpS
  cases h1 : Op.bytesLess s.toList u.toList
  · cases h2 : Op.bytesLess u.toList s.toList
    · simp [bl_tri h1 h2]
    · simp; intro e; rw [e, bl_irr] at h2; cases h2
  · simp; intro e; rw [e, bl_irr] at h1; cases h1

theorem less_cmp (k1 n1 : Int) (t1 : ByteArray) (k2 n2 : Int) (t2 : ByteArray) : lessB k1 n1 t1 k2 n2 t2 = decide (cmpC k1 n1 t1 k2 n2 t2 < 0) := by
  unfold lessB cmpC or3
  by_cases h1 : k1 = k2
  · have e1 : ¬ cmpI k1 k2 ≠ 0 := fun e => e ((cmpI_zero k1 k2).2 h1)
    rw [if_neg (by simp [h1]), if_neg e1]
    by_cases h2 : n1 = n2
    · have e2 : ¬ cmpI n1 n2 ≠ 0 := fun e => e ((cmpI_zero n1 n2).2 h2)
      rw [if_neg (by simp [h2]), if_neg e2]
      have := cmpS_lt t1 t2
      cases h : Op.bytesLess t1.toList t2.toList <;> rw [h] at this <;> simp at this <;> simp [this]
    · have e2 : cmpI n1 n2 ≠ 0 := fun e => h2 ((cmpI_zero n1 n2).1 e)
      rw [if_pos (by simp [h2]), if_pos e2, decide_eq_decide.2 (cmpI_lt n1 n2)]
  · have e1 : cmpI k1 k2 ≠ 0 := fun e => h1 ((cmpI_zero k1 k2).1 e)
    rw [if_pos (by simp [h1]), if_pos e1, decide_eq_decide.2 (cmpI_lt k1 k2)]
theorem cmpC_zero (k1 n1 : Int) (t1 : ByteArray) (k2 n2 : Int) (t2 : ByteArray) : cmpC k1 n1 t1 k2 n2 t2 = 0 ↔ k1 = k2 ∧ n1 = n2 ∧ t1 = t2 := by
  unfold cmpC or3
  by_cases h1 : cmpI k1 k2 = 0
  · have e1 := (cmpI_zero k1 k2).1 h1
    rw [if_neg (Decidable.not_not.2 h1)]
    by_cases h2 : cmpI n1 n2 = 0
    · have e2 := (cmpI_zero n1 n2).1 h2
      rw [if_neg (Decidable.not_not.2 h2), cmpS_zero]
      exact ⟨fun h => ⟨e1, e2, h⟩, fun h => h.2.2⟩
    · have e2 : ¬ n1 = n2 := fun e => h2 ((cmpI_zero n1 n2).2 e)
      rw [if_pos h2]
      exact ⟨fun h => absurd h h2, fun h => absurd h.2.1 e2⟩
  · have e1 : ¬ k1 = k2 := fun e => h1 ((cmpI_zero k1 k2).2 e)
    rw [if_pos h1]
    exact ⟨fun h => absurd h h1, fun h => absurd h.1 e1⟩

abbrev CT3 := Int × Int × ByteArray
/-- The same of two cells. -/
def lessC (x y : CT3) : Bool := lessB x.1 x.2.1 x.2.2 y.1 y.2.1 y.2.2
theorem lessC_irr (x : CT3) : lessC x x = false := by
  unfold lessC; rw [less_cmp, (cmpC_zero _ _ _ _ _ _).2 ⟨rfl, rfl, rfl⟩]; rfl
theorem lessC_tri {x y : CT3} (h : lessC x y = false) (k : lessC y x = false) : x = y := by
  obtain ⟨a, b, c⟩ := x
  obtain ⟨d, e, f⟩ := y
  unfold lessC at h k
  rw [less_cmp] at h k
  rw [cmpC_neg a b c d e f] at k
  simp only [decide_eq_false_iff_not] at h k
  obtain ⟨rfl, rfl, rfl⟩ := (cmpC_zero a b c d e f).1 (by omega)
  rfl
theorem lessC_trans {x y z : CT3} (h : lessC x y = true) (k : lessC y z = true) : lessC x z = true := by
  obtain ⟨a, b, c⟩ := x
  obtain ⟨d, e, f⟩ := y
  obtain ⟨g, i, j⟩ := z
  unfold lessC lessB at *
  dsimp only at *
  by_cases h1 : a = d
  · subst h1
    by_cases k1 : a = g
    · subst k1
      simp only [bne_self_eq_false, Bool.false_eq_true, if_false] at h k ⊢
      by_cases h2 : b = e
      · subst h2
        by_cases k2 : b = i
        · subst k2
          simp only [bne_self_eq_false, Bool.false_eq_true, if_false] at h k ⊢
          exact bl_trans h k
        · simp [k2] at k ⊢; exact k
      · by_cases k2 : e = i
        · subst k2; simp [h2] at h ⊢; exact h
        · simp [h2] at h
          simp [k2] at k
          simp [show ¬ b = i by omega]; omega
    · simp [k1] at k ⊢; exact k
  · by_cases k1 : d = g
    · subst k1; simp [h1] at h ⊢; exact h
    · simp [h1] at h
      simp [k1] at k
      simp [show ¬ a = g by omega]; omega
theorem lessC_asym {x y : CT3} (h : lessC x y = true) : lessC y x = false := by
  cases k : lessC y x with
  | false => rfl
  | true => have := lessC_trans h k; rw [lessC_irr] at this; cases this

/-- By a cell of each, up or down, then by place. -/
def placeLt (key : Nat → CT3) (down : Bool) (i j : Nat) : Bool :=
  if lessC (key i) (key j) = true then !down else if lessC (key j) (key i) = true then down else decide (i < j)
theorem placeLt_strict (key : Nat → CT3) (down : Bool) (n : Nat) : Strict (placeLt key down) n where
  irr a := by simp [placeLt, lessC_irr]
  tri a b _ _ h k := by
    unfold placeLt at h k
    cases h1 : lessC (key a) (key b)
    · cases h2 : lessC (key b) (key a)
      · simp [h1, h2] at h k; omega
      · rw [h1] at h k; rw [h2] at h k; cases down <;> simp at h k
    · have h2 := lessC_asym h1
      rw [h1] at h k; rw [h2] at h k; cases down <;> simp at h k
  trans a b c h k := by
    unfold placeLt at *
    cases h1 : lessC (key a) (key b)
    · cases h2 : lessC (key b) (key a)
      · have e := lessC_tri h1 h2
        rw [h1, h2] at h
        rw [e]
        cases h3 : lessC (key b) (key c)
        · cases h4 : lessC (key c) (key b)
          · simp [h3, h4] at h k ⊢; omega
          · simp [h3, h4] at h k ⊢; exact k
        · simp [h3] at k ⊢; exact k
      · rw [h1, h2] at h
        simp at h
        subst h
        cases h3 : lessC (key b) (key c)
        · cases h4 : lessC (key c) (key b)
          · have e := lessC_tri h3 h4
            rw [← e]; simp [h1, h2]
          · have := lessC_trans h4 h2
            simp [this, lessC_asym this]
        · simp [h3] at k
    · rw [h1] at h
      simp at h
      subst h
      cases h3 : lessC (key b) (key c)
      · cases h4 : lessC (key c) (key b)
        · have e := lessC_tri h3 h4
          rw [← e]; simp [h1]
        · simp [h3, h4] at k
      · have := lessC_trans h1 h3
        simp [this]

end Go.Proofs.Ytdmiiklegnokjaa
