/-
  A part of the proof: Order, SortMath, SortedS, RowsDraw, TabDraw1.
-/
import Derived.Test.YtbjpjhhdnbclbabPart3
import Derived.Test.YtbjpjhhdnbclbabPart6
import Derived.Sort.Walk0
import Derived.Test.YtbjpjhhdnbclbabPart4
import Derived.Test.YtbjpjhhdnbclbabPart5

/-
  The order of cells: of two that are unlike just one is less; what is less than less is less; three answers of one comparison.
-/
namespace Go.Proofs.Ytbjpjhhdnbclbab

/-- Held against each other: below 0, 0, or above. -/
def cmpI (x y : Int) : Int := if x < y then -1 else if y < x then 1 else 0
def cmpS (s u : ByteArray) : Int := if Op.bytesLess s.toList u.toList = true then -1 else if Op.bytesLess u.toList s.toList = true then 1 else 0
/-- The first that is not 0. -/
def or3 (a b c : Int) : Int := if a ≠ 0 then a else if b ≠ 0 then b else c
def cmpC (k1 n1 : Int) (t1 : ByteArray) (k2 n2 : Int) (t2 : ByteArray) : Int := or3 (cmpI k1 k2) (cmpI n1 n2) (cmpS t1 t2)

theorem bl_irr (s : ByteArray) : Op.bytesLess s.toList s.toList = false := by
  rw [bytesLess_eq]; simp
theorem bl_asym {s u : ByteArray} (h : Op.bytesLess s.toList u.toList = true) : Op.bytesLess u.toList s.toList = false := by
  rw [bytesLess_eq] at h ⊢
  simp only [decide_eq_true_eq, decide_eq_false_iff_not] at h ⊢
  exact List.lt_asymm h
theorem bl_trans {s u v : ByteArray} (h : Op.bytesLess s.toList u.toList = true) (k : Op.bytesLess u.toList v.toList = true) : Op.bytesLess s.toList v.toList = true := by
  rw [bytesLess_eq] at h k ⊢
  simp only [decide_eq_true_eq] at h k ⊢
  exact List.lt_trans h k
theorem bl_tri {s u : ByteArray} (h : Op.bytesLess s.toList u.toList = false) (k : Op.bytesLess u.toList s.toList = false) : s = u := by
  rw [bytesLess_eq] at h k
  simp only [decide_eq_false_iff_not] at h k
  exact bytes_eq (List.le_antisymm k h)

theorem cmpI_neg (x y : Int) : cmpI y x = - cmpI x y := by
  unfold cmpI
  by_cases h1 : x < y
  · rw [if_neg (by omega), if_pos h1, if_pos h1]; rfl
  · by_cases h2 : y < x
    · rw [if_pos h2, if_neg h1, if_pos h2]
    · rw [if_neg h2, if_neg h1, if_neg h1, if_neg h2]; rfl
theorem cmpS_neg (s u : ByteArray) : cmpS u s = - cmpS s u := by
  unfold cmpS
  cases h1 : Op.bytesLess s.toList u.toList
  · cases h2 : Op.bytesLess u.toList s.toList <;> simp
  · simp [bl_asym h1]
theorem cmpC_neg (k1 n1 : Int) (t1 : ByteArray) (k2 n2 : Int) (t2 : ByteArray) : cmpC k2 n2 t2 k1 n1 t1 = - cmpC k1 n1 t1 k2 n2 t2 := by
  unfold cmpC or3
  rw [cmpI_neg k1 k2, cmpI_neg n1 n2, cmpS_neg t1 t2]
  by_cases h1 : cmpI k1 k2 = 0 <;> by_cases h2 : cmpI n1 n2 = 0 <;> simp [h1, h2]
theorem cmpI_bound (x y : Int) : -1 ≤ cmpI x y ∧ cmpI x y ≤ 1 := by
  unfold cmpI; split
  · omega
  · split <;> omega
theorem cmpS_bound (x y : ByteArray) : -1 ≤ cmpS x y ∧ cmpS x y ≤ 1 := by
  unfold cmpS; split
  · omega
  · split <;> omega
theorem cmpC_bound (k1 n1 : Int) (t1 : ByteArray) (k2 n2 : Int) (t2 : ByteArray) : -1 ≤ cmpC k1 n1 t1 k2 n2 t2 ∧ cmpC k1 n1 t1 k2 n2 t2 ≤ 1 := by
  unfold cmpC or3
  split
  · exact cmpI_bound _ _
  · split
    · exact cmpI_bound _ _
    · exact cmpS_bound _ _
theorem cmpI_lt (x y : Int) : cmpI x y < 0 ↔ x < y := by
  unfold cmpI; split
  · omega
  · split <;> omega
theorem cmpI_zero (x y : Int) : cmpI x y = 0 ↔ x = y := by
  unfold cmpI; split
  · omega
  · split <;> omega
theorem cmpS_lt (s u : ByteArray) : cmpS s u < 0 ↔ Op.bytesLess s.toList u.toList = true := by
  unfold cmpS; split
  · rename_i h; simp [h]
  · rename_i h; split <;> simp [h]
theorem cmpS_zero (s u : ByteArray) : cmpS s u = 0 ↔ s = u := by
  unfold cmpS
  cases h1 : Op.bytesLess s.toList u.toList
  · cases h2 : Op.bytesLess u.toList s.toList
    · simp [bl_tri h1 h2]
    · simp; intro e; rw [e, bl_irr] at h2; cases h2
  · simp; intro e; rw [e, bl_irr] at h1; cases h1

theorem less_cmp (k1 n1 : Int) (t1 : ByteArray) (k2 n2 : Int) (t2 : ByteArray) : lessB k1 n1 t1 k2 n2 t2 = decide (cmpC k1 n1 t1 k2 n2 t2 < 0) := by
  unfold lessB cmpC or3
  by_cases h1 : k1 = k2
  · have e1 : ¬ cmpI k1 k2 ≠ 0 := fun e => e ((cmpI_zero k1 k2).2 h1)
    rw [if_neg (by simp [h1]), if_neg e1]
    by_cases h2 : n1 = n2
    · have e2 : ¬ cmpI n1 n2 ≠ 0 := fun e => e ((cmpI_zero n1 n2).2 h2)
      rw [if_neg (by simp [h2]), if_neg e2]
      have := cmpS_lt t1 t2
      cases h : Op.bytesLess t1.toList t2.toList <;> rw [h] at this <;> simp at this <;> simp [this]
    · have e2 : cmpI n1 n2 ≠ 0 := fun e => h2 ((cmpI_zero n1 n2).1 e)
      rw [if_pos (by simp [h2]), if_pos e2, decide_eq_decide.2 (cmpI_lt n1 n2)]
  · have e1 : cmpI k1 k2 ≠ 0 := fun e => h1 ((cmpI_zero k1 k2).1 e)
    rw [if_pos (by simp [h1]), if_pos e1, decide_eq_decide.2 (cmpI_lt k1 k2)]
theorem cmpC_zero (k1 n1 : Int) (t1 : ByteArray) (k2 n2 : Int) (t2 : ByteArray) : cmpC k1 n1 t1 k2 n2 t2 = 0 ↔ k1 = k2 ∧ n1 = n2 ∧ t1 = t2 := by
  unfold cmpC or3
  by_cases h1 : cmpI k1 k2 = 0
  · have e1 := (cmpI_zero k1 k2).1 h1
    rw [if_neg (Decidable.not_not.2 h1)]
    by_cases h2 : cmpI n1 n2 = 0
    · have e2 := (cmpI_zero n1 n2).1 h2
      rw [if_neg (Decidable.not_not.2 h2), cmpS_zero]
      exact ⟨fun h => ⟨e1, e2, h⟩, fun h => h.2.2⟩
    · have e2 : ¬ n1 = n2 := fun e => h2 ((cmpI_zero n1 n2).2 e)
      rw [if_pos h2]
      exact ⟨fun h => absurd h h2, fun h => absurd h.2.1 e2⟩
  · have e1 : ¬ k1 = k2 := fun e => h1 ((cmpI_zero k1 k2).2 e)
    rw [if_pos h1]
    exact ⟨fun h => absurd h h1, fun h => absurd h.1 e1⟩

abbrev CT3 := Int × Int × ByteArray
/-- The same of two cells. -/
def lessC (x y : CT3) : Bool := lessB x.1 x.2.1 x.2.2 y.1 y.2.1 y.2.2
theorem lessC_irr (x : CT3) : lessC x x = false := by
  unfold lessC; rw [less_cmp, (cmpC_zero _ _ _ _ _ _).2 ⟨rfl, rfl, rfl⟩]; rfl
theorem lessC_tri {x y : CT3} (h : lessC x y = false) (k : lessC y x = false) : x = y := by
  obtain ⟨a, b, c⟩ := x
  obtain ⟨d, e, f⟩ := y
  unfold lessC at h k
  rw [less_cmp] at h k
  rw [cmpC_neg a b c d e f] at k
  simp only [decide_eq_false_iff_not] at h k
  obtain ⟨rfl, rfl, rfl⟩ := (cmpC_zero a b c d e f).1 (by omega)
  rfl
theorem lessC_trans {x y z : CT3} (h : lessC x y = true) (k : lessC y z = true) : lessC x z = true := by
  obtain ⟨a, b, c⟩ := x
  obtain ⟨d, e, f⟩ := y
  obtain ⟨g, i, j⟩ := z
  unfold lessC lessB at *
  dsimp only at *
  by_cases h1 : a = d
  · subst h1
    by_cases k1 : a = g
    · subst k1
      simp only [bne_self_eq_false, Bool.false_eq_true, if_false] at h k ⊢
      by_cases h2 : b = e
      · subst h2
        by_cases k2 : b = i
        · subst k2
          simp only [bne_self_eq_false, Bool.false_eq_true, if_false] at h k ⊢
          exact bl_trans h k
        · simp [k2] at k ⊢; exact k
      · by_cases k2 : e = i
        · subst k2; simp [h2] at h ⊢; exact h
        · simp [h2] at h
          simp [k2] at k
          simp [show ¬ b = i by omega]; omega
    · simp [k1] at k ⊢; exact k
  · by_cases k1 : d = g
    · subst k1; simp [h1] at h ⊢; exact h
    · simp [h1] at h
      simp [k1] at k
      simp [show ¬ a = g by omega]; omega
theorem lessC_asym {x y : CT3} (h : lessC x y = true) : lessC y x = false := by
  cases k : lessC y x with
  | false => rfl
  | true => have := lessC_trans h k; rw [lessC_irr] at this; cases this

/-- By a cell of each, up or down, then by place. -/
def placeLt (key : Nat → CT3) (down : Bool) (i j : Nat) : Bool :=
  if lessC (key i) (key j) = true then !down else if lessC (key j) (key i) = true then down else decide (i < j)
theorem placeLt_strict (key : Nat → CT3) (down : Bool) (n : Nat) : Strict (placeLt key down) n where
  irr a := by simp [placeLt, lessC_irr]
  tri a b _ _ h k := by
    unfold placeLt at h k
    cases h1 : lessC (key a) (key b)
    · cases h2 : lessC (key b) (key a)
      · simp [h1, h2] at h k; omega
      · rw [h1] at h k; rw [h2] at h k; cases down <;> simp at h k
    · have h2 := lessC_asym h1
      rw [h1] at h k; rw [h2] at h k; cases down <;> simp at h k
  trans a b c h k := by
    unfold placeLt at *
    cases h1 : lessC (key a) (key b)
    · cases h2 : lessC (key b) (key a)
      · have e := lessC_tri h1 h2
        rw [h1, h2] at h
        rw [e]
        cases h3 : lessC (key b) (key c)
        · cases h4 : lessC (key c) (key b)
          · simp [h3, h4] at h k ⊢; omega
          · simp [h3, h4] at h k ⊢; exact k
        · simp [h3] at k ⊢; exact k
      · rw [h1, h2] at h
        simp at h
        subst h
        cases h3 : lessC (key b) (key c)
        · cases h4 : lessC (key c) (key b)
          · have e := lessC_tri h3 h4
            rw [← e]; simp [h1, h2]
          · have := lessC_trans h4 h2
            simp [this, lessC_asym this]
        · simp [h3] at k
    · rw [h1] at h
      simp at h
      subst h
      cases h3 : lessC (key b) (key c)
      · cases h4 : lessC (key c) (key b)
        · have e := lessC_tri h3 h4
          rw [← e]; simp [h1]
        · simp [h3, h4] at k
      · have := lessC_trans h1 h3
        simp [this]

end Go.Proofs.Ytbjpjhhdnbclbab

/-
  Places put in order one by one, without any program: what is moved towards the front, and when all is in order.
-/
namespace Go.Proofs.Ytbjpjhhdnbclbab

/-- The first m are in order. -/
def SortedTo (lt : Nat → Nat → Bool) (p : List Nat) (m : Nat) : Prop := ∀ x y, x < y → y < m → lt (p.getD y 0) (p.getD x 0) = false
/-- So are those up to i but for place k, which may be too far behind. -/
def InsAt (lt : Nat → Nat → Bool) (p : List Nat) (i k : Nat) : Prop :=
  (∀ x y, x < y → y ≤ i → x ≠ k → y ≠ k → lt (p.getD y 0) (p.getD x 0) = false) ∧ (∀ y, k < y → y ≤ i → lt (p.getD y 0) (p.getD k 0) = false)
/-- Who stands where: i at place k, lesser ones up to i, and behind it each one at its own. -/
def PlAt (p : List Nat) (n i k : Nat) : Prop := p.getD k 0 = i ∧ (∀ x, x ≤ i → x ≠ k → p.getD x 0 < i) ∧ (∀ x, i < x → x < n → p.getD x 0 = x)

theorem InsAt.start {lt : Nat → Nat → Bool} {p : List Nat} {i : Nat} (h : SortedTo lt p i) : InsAt lt p i i :=
  ⟨fun x y hxy hy _ hyk => h x y hxy (by omega), fun y h1 h2 => by omega⟩
theorem InsAt.done {lt : Nat → Nat → Bool} {p : List Nat} {i k N : Nat} (S : Strict lt N) (hp : ∀ x ∈ p, x < N) (hi : i < p.length) (hk : k ≤ i) (h : InsAt lt p i k) (hd : k = 0 ∨ lt (p.getD k 0) (p.getD (k - 1) 0) = false) : SortedTo lt p (i + 1) := by
  intro x y hxy hy
  by_cases e1 : x = k
  · subst e1; exact h.2 y hxy (by omega)
  · by_cases e2 : y = k
    · subst e2
      rcases hd with rfl | hd
      · omega
      · by_cases e3 : x = y - 1
        · subst e3; exact hd
        · exact S.neg (mem_lt hp (by omega)) (mem_lt hp (by omega)) hd (h.1 x (y - 1) (by omega) (by omega) (by omega) (by omega))
    · exact h.1 x y hxy (by omega) e1 e2
theorem InsAt.step {lt : Nat → Nat → Bool} {p : List Nat} {i k N : Nat} (S : Strict lt N) (hi : i < p.length) (hk : k ≤ i) (h0 : 0 < k) (h : InsAt lt p i k) (hl : lt (p.getD k 0) (p.getD (k - 1) 0) = true) : InsAt lt (swap 0 p (k - 1) k) i (k - 1) := by
  have h1 : k - 1 < p.length := by omega
  have h2 : k < p.length := by omega
  refine ⟨fun x y hxy hy hx hyk => ?_, fun y hy hyi => ?_⟩
  · rw [swap_getD _ _ _ _ _ h1 h2, swap_getD _ _ _ _ _ h1 h2, if_neg hx, if_neg hyk]
    by_cases e1 : y = k
    · subst e1
      rw [if_pos rfl, if_neg (by omega)]
      exact h.1 x (y - 1) (by omega) (by omega) (by omega) (by omega)
    · rw [if_neg e1]
      by_cases e2 : x = k
      · subst e2
        rw [if_pos rfl]
        exact h.1 (x - 1) y (by omega) (by omega) (by omega) (by omega)
      · rw [if_neg e2]
        exact h.1 x y hxy hy e2 e1
  · rw [swap_getD _ _ _ _ _ h1 h2, swap_getD _ _ _ _ _ h1 h2, if_neg (by omega : ¬ k - 1 = k), if_pos rfl]
    by_cases e1 : y = k
    · subst e1
      rw [if_pos rfl]
      exact S.asym hl
    · rw [if_neg e1, if_neg (by omega)]
      exact h.2 y (by omega) hyi
theorem PlAt.step {p : List Nat} {n i k : Nat} (hi : i < p.length) (hk : k ≤ i) (h0 : 0 < k) (h : PlAt p n i k) : PlAt (swap 0 p (k - 1) k) n i (k - 1) := by
  have h1 : k - 1 < p.length := by omega
  have h2 : k < p.length := by omega
  refine ⟨?_, fun x hx hxk => ?_, fun x hx hxn => ?_⟩
  · rw [swap_getD _ _ _ _ _ h1 h2, if_neg (by omega), if_pos rfl]; exact h.1
  · rw [swap_getD _ _ _ _ _ h1 h2]
    by_cases e1 : x = k
    · rw [if_pos e1]; exact h.2.1 (k - 1) (by omega) (by omega)
    · rw [if_neg e1, if_neg hxk]; exact h.2.1 x hx e1
  · rw [swap_getD _ _ _ _ _ h1 h2, if_neg (by omega), if_neg (by omega)]; exact h.2.2 x hx hxn

theorem SortedTo.pairwise {lt : Nat → Nat → Bool} {p : List Nat} (h : SortedTo lt p p.length) : p.Pairwise (fun x y => lt y x = false) := by
  rw [List.pairwise_iff_getElem]
  intro i j hi hj hij
  have := h i j hij hj
  simpa [List.getD, List.getElem?_eq_getElem hi, List.getElem?_eq_getElem hj] using this

/-- The cell of a row by which it is put in order. -/
def keyOf (L : List (List CT3)) (at_ : Int) (i : Nat) : CT3 := (L.getD i []).getD at_.toNat (0, 0, ⟨#[]⟩)
/-- Has each row that place? -/
def Reach (L : List (List CT3)) (at_ : Int) : Prop := ∀ i (h : i < L.length), 0 ≤ at_ ∧ at_ < (L[i].length : Int)
/-- The places of the rows in the order that is asked for; as they are where one has no such place. -/
structure IsOrder (L : List (List CT3)) (at_ : Int) (down : Bool) (p : List Nat) : Prop where
  perm : p.Perm (List.range L.length)
  inOrder : Reach L at_ → p.Pairwise (fun x y => placeLt (keyOf L at_) down y x = false)
  asTheyAre : ¬ Reach L at_ → p = List.range L.length
theorem IsOrder.one {L : List (List CT3)} {at_ : Int} {down : Bool} {p q : List Nat} (h : IsOrder L at_ down p) (k : IsOrder L at_ down q) : p = q := by
  by_cases hr : Reach L at_
  · exact one_order (placeLt_strict (keyOf L at_) down L.length) h.perm k.perm (h.inOrder hr) (k.inOrder hr)
  · rw [h.asTheyAre hr, k.asTheyAre hr]

/-- The rows at these places. -/
def rowsOf (L : List (List CT3)) (p : List Nat) : List (List CT3) := p.map fun i => L.getD i []
theorem rowsOf_length (L : List (List CT3)) (p : List Nat) : (rowsOf L p).length = p.length := by simp [rowsOf]
theorem rowsOf_range (L : List (List CT3)) : rowsOf L (List.range L.length) = L := by
  apply List.ext_getElem
  · simp [rowsOf]
  · intro i h1 h2; simp [rowsOf, List.getD, List.getElem?_eq_getElem h2]
theorem rowsOf_getD (L : List (List CT3)) (p : List Nat) (k : Nat) (hk : k < p.length) : (rowsOf L p).getD k [] = L.getD (p.getD k 0) [] := by
  simp [rowsOf, List.getD, List.getElem?_eq_getElem hk]
theorem rowsOf_swap (L : List (List CT3)) (p : List Nat) (i j : Nat) (hi : i < p.length) (hj : j < p.length) : swap [] (rowsOf L p) i j = rowsOf L (swap 0 p i j) := by
  apply List.ext_getElem
  · simp [rowsOf, swap]
  · intro k h1 h2
    have hk : k < p.length := by simpa [rowsOf, swap] using h1
    have e1 : (swap [] (rowsOf L p) i j)[k] = (swap [] (rowsOf L p) i j).getD k [] := by simp [List.getD, List.getElem?_eq_getElem h1]
    have e2 : (rowsOf L (swap 0 p i j))[k] = (rowsOf L (swap 0 p i j)).getD k [] := by simp [List.getD, List.getElem?_eq_getElem h2]
    rw [e1, e2, swap_getD _ _ _ _ _ (by simpa [rowsOf] using hi) (by simpa [rowsOf] using hj), rowsOf_getD L (swap 0 p i j) k (by simpa [swap] using hk), swap_getD 0 p i j k hi hj, rowsOf_getD L p i hi, rowsOf_getD L p j hj, rowsOf_getD L p k hk]
    by_cases e3 : k = j
    · simp [e3]
    · by_cases e4 : k = i
      · subst e4; simp [e3]
      · simp [e3, e4]

/-- The question whether i goes ahead of one that comes before it is that of their cells alone. -/
theorem placeLt_before (key : Nat → CT3) (down : Bool) (i j : Nat) (h : j < i) : placeLt key down i j = if down = true then lessC (key j) (key i) else lessC (key i) (key j) := by
  unfold placeLt
  cases h1 : lessC (key i) (key j)
  · cases h2 : lessC (key j) (key i)
    · cases down <;> simp <;> omega
    · cases down <;> simp
  · rw [lessC_asym h1]; cases down <;> simp

end Go.Proofs.Ytbjpjhhdnbclbab

/-
  The contract of the model's Sorted: rows in new memory, in the order of their places that is asked for.
-/
namespace Go.Proofs.Ytbjpjhhdnbclbab
open Go.ChangeShapes Go.WideShapes Go.ChangeAt Go.RowKit
attribute [local go_sem ↓] Go.wp_at_zero Go.wp_at_succ

/-- Where one comes from when two change places. -/
def sw (i j k : Nat) : Nat := if k = j then i else if k = i then j else k
theorem sw_lt {i j k n : Nat} (hi : i < n) (hj : j < n) (hk : k < n) : sw i j k < n := by unfold sw; split <;> (try split) <;> omega
theorem sw_inj {i j a b : Nat} (h : sw i j a = sw i j b) : a = b := by
  unfold sw at h
  split at h <;> split at h <;> (try split at h) <;> (try split at h) <;> omega
theorem swap_sw {α : Type} (d : α) (s : List α) (i j k : Nat) (hi : i < s.length) (hj : j < s.length) : (swap d s i j).getD k d = s.getD (sw i j k) d := by
  rw [swap_getD _ _ _ _ _ hi hj]; unfold sw
  split
  · rfl
  · split <;> rfl

/-- Two heads change places. -/
theorem OwnRows.swap {w : World} {base g c : Nat} {L : List (List CT)} {G C : Nat → Nat} (h : OwnRows w base (.slice (some ⟨g, 0, none⟩) L.length c) L G C) (i j : Nat) (hi : i < L.length) (hj : j < L.length) (hij : i ≠ j) :
    OwnRows ((w.setCell ⟨g, j, none⟩ (headOf G C L i)).setCell ⟨g, i, none⟩ (headOf G C L j)) base (.slice (some ⟨g, 0, none⟩) L.length c) (swap [] L i j) (fun k => G (sw i j k)) (fun k => C (sw i j k)) := by
  have s1 := h.outer.stored j (headOf G C L i)
  have s2 := s1.1.stored i (headOf G C L j)
  have hh : ∀ k, headOf (fun k => G (sw i j k)) (fun k => C (sw i j k)) (Go.Proofs.Ytbjpjhhdnbclbab.swap [] L i j) k = headOf G C L (sw i j k) := by
    intro k; simp only [headOf, swap_sw [] L i j k hi hj]
  refine ⟨?_, ?_, ?_⟩
  · rw [swap_length]
    have e : ((List.range L.length).map (headOf (fun k => G (sw i j k)) (fun k => C (sw i j k)) (Go.Proofs.Ytbjpjhhdnbclbab.swap [] L i j))) = (((List.range L.length).map (headOf G C L)).set j (headOf G C L i)).set i (headOf G C L j) := by
      apply List.ext_getElem
      · simp
      · intro k h1 h2
        have hk : k < L.length := by simpa using h1
        simp only [List.getElem_map, List.getElem_range, List.getElem_set]
        rw [hh]
        unfold sw
        by_cases e1 : k = j
        · subst e1; simp [hij]
        · by_cases e2 : k = i
          · subst e2; simp [e1]
          · simp [e1, e2, Ne.symm e1, Ne.symm e2]
    rw [e]; exact s2.1
  · intro k hk
    rw [swap_length] at hk
    rw [hh, swap_sw [] L i j k hi hj]
    have hin := h.inner (sw i j k) (sw_lt hi hj hk)
    have hne : (headOf G C L (sw i j k)).ownBlock ≠ some g := by
      simp only [headOf, Value.ownBlock]
      intro e
      exact own_other h.outer (h.inner (sw i j k) (sw_lt hi hj hk)) (by decide) (by simp only [Value.ownBlock]; exact e.symm)
    exact (hin.kept s1.2 (.inr hne)).kept s2.2 (.inr hne)
  · intro a b ha hb hab
    rw [swap_length] at ha hb
    exact h.apart _ _ (sw_lt hi hj ha) (sw_lt hi hj hb) (fun e => hab (sw_inj e))

theorem getD_get {α : Type} (d : α) (l : List α) (j : Nat) (h : j < l.length) : l.getD j d = l[j] := by simp [List.getD, List.getElem?_eq_getElem h]
/-- The head of a row, and a cell of it. -/
theorem OwnRows.look {w : World} {base g c : Nat} {L : List (List CT)} {G C : Nat → Nat} (h : OwnRows w base (.slice (some ⟨g, 0, none⟩) L.length c) L G C) (i : Nat) (hi : i < L.length) : w.cell? ⟨g, i, none⟩ = some (headOf G C L i) ∧ w.frozen? ⟨g, i, none⟩ = false := by
  refine ⟨?_, h.outer.frozenAt i⟩
  rw [h.outer.cellAt i (by omega), List.getElem?_map, List.getElem?_range hi]; rfl
theorem OwnRows.lookIn {w : World} {base g c : Nat} {L : List (List CT)} {G C : Nat → Nat} (h : OwnRows w base (.slice (some ⟨g, 0, none⟩) L.length c) L G C) (i : Nat) (hi : i < L.length) (j : Nat) (x : CT) (hj : j < (L.getD i []).length) (hx : (L.getD i []).getD j (0, 0, ⟨#[]⟩) = x) :
    w.cell? ⟨G i, j * 3, none⟩ = some (.int .i64 x.1) ∧ w.cell? ⟨G i, j * 3 + 1, none⟩ = some (.int .i64 x.2.1) ∧ w.cell? ⟨G i, j * 3 + 2, none⟩ = some (.string x.2.2) ∧ G i < w.heap.size := by
  have hin := h.inner i hi
  unfold headOf at hin
  obtain ⟨b, o, e, hlt, c0, c1, c2⟩ := own_row hin j hj
  cases e
  have ex : (L.getD i [])[j] = x := by rw [← hx, getD_get _ _ _ hj]
  rw [ex] at c0 c1 c2
  rw [show 0 + j * 3 = j * 3 by omega] at c0 c1 c2
  exact ⟨c0, c1, c2, hlt⟩

/-- Rows in the order of these places, in memory of their own. -/
def Laid (w : World) (base g c : Nat) (L : List (List CT)) (p : List Nat) : Prop := ∃ G C, OwnRows w base (.slice (some ⟨g, 0, none⟩) L.length c) (rowsOf L p) G C
theorem Laid.below {w w' : World} {base g c : Nat} {L : List (List CT)} {p : List Nat} (h : Laid w base g c L p) (hb : Below w.heap.size w w') : Laid w' base g c L p := by
  obtain ⟨G, C, h⟩ := h
  exact ⟨G, C, h.below hb⟩

theorem reach_key {L : List (List CT)} {at_ : Int} (hr : Reach L at_) (q : Nat) (hq : q < L.length) : 0 ≤ at_ ∧ at_.toNat < (L.getD q []).length ∧ (at_.toNat : Int) = at_ := by
  have := hr q hq
  rw [show L.getD q [] = L[q] from by simp [List.getD, List.getElem?_eq_getElem hq]]
  omega

end Go.Proofs.Ytbjpjhhdnbclbab

/-
  The contract of the model's draw of several rows.
-/
namespace Go.Proofs.Ytbjpjhhdnbclbab
open Go.ChangeShapes Go.WideShapes Go.ChangeAt Go.RowKit
attribute [local go_sem ↓] Go.wp_at_zero Go.wp_at_succ
attribute [local simp] World.cell?_alloc_past World.cell?_alloc_at World.frozen?_alloc_at cell_far cell_off cell_here World.frozen?_alloc_past

theorem OwnRows.keep {w w' : World} {c base : Nat} {v : Value} {L : List (List CT)} {G C : Nat → Nat} (h : OwnRows w base v L G C) (hk : Keep c w w') (hc : c < base) : OwnRows w' base v L G C :=
  ⟨own_keep h.outer hk hc, fun i hi => own_keep (h.inner i hi) hk hc, h.apart⟩
theorem OwnRows.lt {w : World} {base : Nat} {v : Value} {L : List (List CT)} {G C : Nat → Nat} (h : OwnRows w base v L G C) (i : Nat) (hi : i < L.length) : G i < w.heap.size := by
  rcases (h.inner i hi).2 with ⟨h', _⟩ | ⟨g2, c2, cur2, h', _, hg2, _⟩
  · simp [headOf] at h'
  · simp only [headOf, Value.slice.injEq, Option.some.injEq, Addr.mk.injEq, and_true, true_and] at h'
    obtain ⟨rfl, rfl⟩ := h'
    by_cases hl : G i < w.heap.size
    · exact hl
    · rw [Array.getElem?_eq_none (by omega)] at hg2; cases hg2

/-- One row more, in a block that none of them has: its head is appended. -/
theorem OwnRows.stepG {w1 w2 : World} {base : Nat} {v v' : Value} {L : List (List CT)} {G C : Nat → Nat} {x : List CT} {g c : Nat} {o : Obj} (h1 : OwnRows w1 base v L G C) (hg : ∀ i, i < L.length → G i ≠ g)
    (own : w1.ownsRow base 49 3 (.slice (some ⟨g, 0, none⟩) x.length c) x.length (flat x))
    (own2 : w2.ownsRow base 29 1 v' (L.length + 1) ((List.range L.length).map (headOf G C L) ++ [.slice (some ⟨g, 0, none⟩) x.length c])) (hgr : (w1.alloc o).grownBy w2 v.ownBlock) :
    ∃ G' C', OwnRows w2 base v' (L ++ [x]) G' C' := by
  have he : (29 : TypeId) ≠ 49 := by decide
  have hd : ∀ i, i < L.length → (L ++ [x]).getD i [] = L.getD i [] := by
    intro i hi
    simp [List.getD, List.getElem?_append_left hi]
  have hdl : (L ++ [x]).getD L.length [] = x := by simp [List.getD]
  refine ⟨fun i => if i = L.length then g else G i, fun i => if i = L.length then c else C i, ?_, ?_, ?_⟩
  · have e1 : (L ++ [x]).length = L.length + 1 := by simp
    rw [e1, List.range_succ, List.map_append]
    have e2 : (List.range L.length).map (headOf (fun i => if i = L.length then g else G i) (fun i => if i = L.length then c else C i) (L ++ [x])) = (List.range L.length).map (headOf G C L) := by
      refine List.map_congr_left fun i hi => ?_
      have hi' : i < L.length := by simpa using hi
      have hne : i ≠ L.length := by omega
      simp only [headOf, if_neg hne, hd i hi']
    have e3 : [L.length].map (headOf (fun i => if i = L.length then g else G i) (fun i => if i = L.length then c else C i) (L ++ [x])) = [.slice (some ⟨g, 0, none⟩) x.length c] := by
      simp only [List.map_cons, List.map_nil, headOf, if_true, hdl]
    rw [e2, e3]; exact own2
  · intro i hi
    by_cases hil : i = L.length
    · subst hil
      rw [hdl]
      have := own.alloc o
      have k := this.kept hgr (.inr (by simp only [Value.ownBlock]; exact (own_other (h1.outer.alloc o) this he).symm))
      simpa only [headOf, if_true, hdl] using k
    · have hi' : i < L.length := by simp at hi; omega
      rw [hd i hi']
      have := (h1.inner i hi').alloc o
      have k := this.kept hgr (.inr (by simp only [headOf, Value.ownBlock]; exact (own_other (h1.outer.alloc o) this he).symm))
      simpa only [headOf, if_neg hil, hd i hi'] using k
  · intro i j hi hj hij
    have hi2 : i < L.length + 1 := by simpa using hi
    have hj2 : j < L.length + 1 := by simpa using hj
    by_cases e1 : i = L.length
    · have e2 : j ≠ L.length := by omega
      have := hg j (by omega)
      simp only [if_pos e1, if_neg e2]; omega
    · by_cases e2 : j = L.length
      · have := hg i (by omega)
        simp only [if_neg e1, if_pos e2]; omega
      · simp only [if_neg e1, if_neg e2]; exact h1.apart i j (by omega) (by omega) hij

theorem cells1w (w : World) (T : TypeId) (x : Value) : ∀ j u, [x][j]? = some u → (w.alloc (.cells #[x] T)).cell? ((⟨w.heap.size, 0, none⟩ : Addr).add j) = some u := by
  intro j u hj
  match j, hj with
  | 0, hj => simp at hj; subst hj; simp [Addr.add]
theorem row_drawI {w : World} {c : Nat} {a : Option Addr} {len cap : Nat} (h : Cur w c a len cap) (n : Nat) (hn : n ≤ 1000) (y : Int) (hy : y = (n : Int)) :
    Calls Try.prog 35 #[.pointer (some ⟨c, 0, none⟩), .int .i64 y] w fun e w' => ∃ v l, e = .returned v ∧ l.length = n ∧ Fit l ∧ v ≠ .slice none 0 0 ∧ w'.ownsRow w.heap.size 49 3 v l.length (flat l) ∧ Cur w' c a len cap ∧ Keep c w w' := by
  subst hy; exact row_draw h n hn
/-- Rows that were drawn: few, short, and their texts fit. -/
def Drawn (L : List (List CT)) (n : Nat) : Prop := L.length ≤ n ∧ ∀ i (h : i < L.length), Fit L[i] ∧ L[i].length ≤ 1000
theorem Drawn.append {L : List (List CT)} {n : Nat} {x : List CT} (h : Drawn L n) (hf : Fit x) (hx : x.length ≤ 1000) : Drawn (L ++ [x]) (n + 1) := by
  refine ⟨by have := h.1; simp; omega, fun i hi => ?_⟩
  by_cases e : i < L.length
  · rw [List.getElem_append_left e]; exact h.2 i e
  · rw [List.getElem_append_right (by omega)]; simpa using ⟨hf, hx⟩
theorem infoRowD : (Try.prog.info? 29).map (fun i => (i.zero, i.size, i.bytes)) = some (some (.slice none 0 0), 1, 24) := by kernel_rfl

/-- The state of the draw: the rows so far, the cursor. -/
def RowsSoFar (wr : World) (base c : Nat) (a : Option Addr) (len cap : Nat) (v : Value) (n : Nat) : Prop := ∃ L G C, OwnRows wr base v L G C ∧ Drawn L n ∧ Cur wr c a len cap

set_option maxRecDepth 100000 in
set_option maxHeartbeats 4000000 in
theorem rows_draw {w : World} {c : Nat} {a : Option Addr} {len cap : Nat} (h : Cur w c a len cap) :
    Calls Try.prog 27 #[.pointer (some ⟨c, 0, none⟩)] w fun e w' => ∃ v L G C, e = .returned v ∧ v ≠ .slice none 0 0 ∧ OwnRows w' w.heap.size v L G C ∧ Drawn L 7 ∧ Cur w' c a len cap ∧ Keep c w w' := by
  obtain ⟨i0, hi, hz0, hz1, hz2⟩ := info_parts infoRowD
  have hcw := h.lt
  have own0 : Hid (RowsSoFar (w.alloc (.cells #[] 29)) w.heap.size c a len cap (.slice (some ⟨w.heap.size, 0, none⟩) 0 0) 0) := by
    refine ⟨[], fun _ => 0, fun _ => 0, ⟨⟨rfl, .inr ⟨w.heap.size, 0, #[], rfl, Nat.le_refl _, by show (w.heap.push _)[w.heap.size]? = _; simp, Nat.le_refl _, by unfold maxLen; omega, rfl, rfl⟩⟩, fun i hi => by simp at hi, fun i j hi => by simp at hi⟩, ⟨by simp, fun i hi => by simp at hi⟩, h.alloc _⟩
  have C0 : Hid (Cur (w.alloc (.cells #[] 29)) c a len cap) := h.alloc _
  clear h
  go_enter Try.func27, Try.ntmps27
  go_wp2_with fail
  refine (below_draw C0.out 3 (by omega) (by omega)).mono ?_
  rintro e w1 ⟨x, rfl, hx0, hx1, hc1, hk1⟩
  obtain ⟨x, rfl⟩ : ∃ n : Nat, x = n := ⟨x.toNat, by omega⟩
  have C1 : Hid (Cur w1 c a len cap) := hc1
  clear hc1
  have qx : (x : Int) ≤ 3 := by omega
  go_wp2_with fail
  refine (below_draw C1.out 7 (by omega) (by omega)).mono ?_
  rintro e w2 ⟨y, rfl, hy0, hy1, hc2, hk2⟩
  obtain ⟨y, rfl⟩ : ∃ n : Nat, y = n := ⟨y.toNat, by omega⟩
  have hk02 : Keep c w w2 := (((Keep.refl c w).alloc _).trans hk1).trans hk2
  have own2 : Hid (RowsSoFar w2 w.heap.size c a len cap (.slice (some ⟨w.heap.size, 0, none⟩) 0 0) 0) := by
    obtain ⟨L, G, C, O, D, _⟩ := own0.out
    exact ⟨L, G, C, O.keep (hk1.trans hk2) hcw, D, hc2⟩
  have hy6 : y ≤ 6 := by omega
  clear hk1 hk2 hc2 own0 C0 C1
  go_wp2_with fail
  go_loopw [3, 5] (fun v x wr => ∃ m n : Nat, x = .int .i64 m ∧ n + m ≤ 6 ∧ v ≠ .slice none 0 0 ∧ Hid (RowsSoFar wr w.heap.size c a len cap v n) ∧ Keep c w wr) (fun _ x _ => (intOf x).toNat)
  case atStart => exact ⟨y, 0, rfl, by omega, by simp, own2, hk02⟩
  case round =>
    obtain ⟨m, n, rfl, hmn, hvn, hP, hkA⟩ := hrel
    clear own2 hk02
    obtain ⟨L, G, C, O, D, CU⟩ := hP.out
    obtain ⟨av, cv, hv⟩ := (show ∃ a c, _ = Value.slice a L.length c from by
      rcases O.outer.2 with ⟨h1, h2⟩ | ⟨g, k, cur, h1, _⟩
      · exact absurd h1 hvn
      · exact ⟨_, k, h1⟩)
    subst hv
    have OOA : Hid (OwnRows wr w.heap.size (.slice av L.length cv) L G C) := O
    have CCA : Hid (Cur wr c a len cap) := CU
    have hszA := hkA.size
    clear hP O CU
    by_cases hm0 : m = 0
    · subst hm0
      go_wp2_with fail
      refine (once_draw CCA.out 10 (by omega) (by omega)).mono ?_
      rintro e w4 ⟨bb, rfl, hc4, hk4⟩
      have OOB : Hid (OwnRows w4 w.heap.size (.slice av L.length cv) L G C) := OOA.out.keep hk4 hcw
      have CCB : Hid (Cur w4 c a len cap) := hc4
      have hkB := hkA.trans hk4
      clear hc4 hk4 OOA CCA hkA
      cases bb
      · go_wp2
        go_ret
        exact ⟨_, L, G, C, rfl, hvn, OOB.out, ⟨by have := D.1; omega, D.2⟩, CCB.out, hkB⟩
      · go_wp2_with fail
        refine (below_draw CCB.out 4 (by omega) (by omega)).mono ?_
        rintro e w6 ⟨x2, rfl, hx20, hx21, hc6, hk6⟩
        obtain ⟨x2, rfl⟩ : ∃ n : Nat, x2 = n := ⟨x2.toNat, by omega⟩
        have OOC : Hid (OwnRows w6 w.heap.size (.slice av L.length cv) L G C) := OOB.out.keep hk6 hcw
        have CCC : Hid (Cur w6 c a len cap) := hc6
        have hkC := hkB.trans hk6
        clear hc6 hk6 OOB CCB hkB
        go_wp2_with fail
        refine (row_drawI CCC.out x2 (by omega) _ (by omega)).mono ?_
        rintro e w5 ⟨vz, z, rfl, hzn, hzf, hvz, own0, hc5, hk5⟩
        obtain ⟨g, k, rfl, hgg, _⟩ := own_form own0 hvz
        have hzl : z.length ≤ 1000 := by omega
        clear hzn
        have OK := OOC.out.keep hk5 hcw
        have hgz : ∀ i, i < L.length → G i ≠ g := fun i hi => by have := OOC.out.lt i hi; omega
        have hsw := hkC.size
        have own := own_base own0 hsw
        have hkK := hkC.trans hk5
        have hsK := hkK.size
        have CK : Hid (Cur w5 c a len cap) := hc5
        clear own0 hc5 hk5 hvz
        have hrl := D.1
        go_wp2_with (at_builtin; refine wpList_append_own _ rfl _ _ 24 rfl w.heap.size 29 i0 (.slice none 0 0) 1 24 Try.underlying24 hi hz0 hz1 hz2 rfl (by decide) _ _ _ rfl (OK.outer.alloc _) ⟨w5.heap.size, 0, none⟩ 1 1 [.slice (some ⟨g, 0, none⟩) z.length k] rfl rfl (cells1w w5 _ _) (by intro u hu; simp at hu; subst hu; rfl) (by unfold maxLen; omega) (by omega) (by simp; omega) ?_)
        intro v' w9 own9 hgrow hnn
        obtain ⟨G', C', O9⟩ := OK.stepG hgz own own9 hgrow
        have hb9 : Below w.heap.size w5 w9 := by
          refine (((Below.refl w.heap.size w5).alloc (by omega) _).grown hgrow (by simp; omega) ?_)
          intro kk hkk
          exact (OK.outer.lt kk hkk).1
        have hv9 : v' ≠ .slice none 0 0 := by first | exact hnn | exact fun e => hvn (hnn.1 e).1
        have fin : Hid (RowsSoFar w9 w.heap.size c a len cap v' (n + 1)) := ⟨_, G', C', O9, D.append hzf hzl, CK.out.far hb9 hcw⟩
        have hk9 : Keep c w w9 := hkK.far hb9 (Nat.le_refl _)
        clear own9 hgrow hnn O9 own hb9 OK CK
        go_wp2
        go_ret
        obtain ⟨L', G2, C2, O2, D2, CU2⟩ := fin.out
        exact ⟨_, L', G2, C2, rfl, hv9, O2, ⟨by have := D2.1; omega, D2.2⟩, CU2, hk9⟩
    · obtain ⟨j, rfl⟩ : ∃ j, m = j + 1 := ⟨m - 1, by omega⟩
      have q3 : (0 : Int) < ((j + 1 : Nat) : Int) := by omega
      have q4 : ((j + 1 : Nat) : Int) - 1 = (j : Int) := by omega
      by_cases hL0 : L.length = 0
      · have q5 : ¬ (0 : Int) < (L.length : Int) := by omega
        have hL0' : Hid (L.length = 0) := hL0
        clear hL0
        go_wp2_with fail
        refine (row_drawI CCA.out (x + 1) (by omega) _ (by omega)).mono ?_
        rintro e w5 ⟨vz, z, rfl, hzn, hzf, hvz, own0, hc5, hk5⟩
        obtain ⟨g, k, rfl, hgg, _⟩ := own_form own0 hvz
        have hzl : z.length ≤ 1000 := by omega
        clear hzn
        have OK := OOA.out.keep hk5 hcw
        have hgz : ∀ i, i < L.length → G i ≠ g := fun i hi => by have := OOA.out.lt i hi; omega
        have hsw := hkA.size
        have own := own_base own0 hsw
        have hkK := hkA.trans hk5
        have hsK := hkK.size
        have CK : Hid (Cur w5 c a len cap) := hc5
        clear own0 hc5 hk5 hvz
        have hrl := D.1
        go_wp2_with (at_builtin; refine wpList_append_own _ rfl _ _ 24 rfl w.heap.size 29 i0 (.slice none 0 0) 1 24 Try.underlying24 hi hz0 hz1 hz2 rfl (by decide) _ _ _ rfl (OK.outer.alloc _) ⟨w5.heap.size, 0, none⟩ 1 1 [.slice (some ⟨g, 0, none⟩) z.length k] rfl rfl (cells1w w5 _ _) (by intro u hu; simp at hu; subst hu; rfl) (by unfold maxLen; omega) (by omega) (by simp; omega) ?_)
        intro v' w9 own9 hgrow hnn
        obtain ⟨G', C', O9⟩ := OK.stepG hgz own own9 hgrow
        have hb9 : Below w.heap.size w5 w9 := by
          refine (((Below.refl w.heap.size w5).alloc (by omega) _).grown hgrow (by simp; omega) ?_)
          intro kk hkk
          exact (OK.outer.lt kk hkk).1
        have hv9 : v' ≠ .slice none 0 0 := by first | exact hnn | exact fun e => hvn (hnn.1 e).1
        have fin : Hid (RowsSoFar w9 w.heap.size c a len cap v' (n + 1)) := ⟨_, G', C', O9, D.append hzf hzl, CK.out.far hb9 hcw⟩
        have hk9 : Keep c w w9 := hkK.far hb9 (Nat.le_refl _)
        clear own9 hgrow hnn O9 own hb9 OK CK
        go_wp2
        go_roundw
        case rel => exact ⟨j, n + 1, rfl, by omega, hv9, fin, hk9⟩
        case measure => simp [intOf]
      · have q5 : (0 : Int) < (L.length : Int) := by omega
        go_wp2_with fail
        refine (once_draw CCA.out 3 (by omega) (by omega)).mono ?_
        rintro e w4 ⟨bb, rfl, hc4, hk4⟩
        have OOB : Hid (OwnRows w4 w.heap.size (.slice av L.length cv) L G C) := OOA.out.keep hk4 hcw
        have CCB : Hid (Cur w4 c a len cap) := hc4
        have hkB := hkA.trans hk4
        clear hc4 hk4 OOA CCA hkA
        cases bb
        · go_wp2_with fail
          refine (row_drawI CCB.out (x + 1) (by omega) _ (by omega)).mono ?_
          rintro e w5 ⟨vz, z, rfl, hzn, hzf, hvz, own0, hc5, hk5⟩
          obtain ⟨g, k, rfl, hgg, _⟩ := own_form own0 hvz
          have hzl : z.length ≤ 1000 := by omega
          clear hzn
          have OK := OOB.out.keep hk5 hcw
          have hgz : ∀ i, i < L.length → G i ≠ g := fun i hi => by have := OOB.out.lt i hi; omega
          have hsw := hkB.size
          have own := own_base own0 hsw
          have hkK := hkB.trans hk5
          have hsK := hkK.size
          have CK : Hid (Cur w5 c a len cap) := hc5
          clear own0 hc5 hk5 hvz
          have hrl := D.1
          go_wp2_with (at_builtin; refine wpList_append_own _ rfl _ _ 24 rfl w.heap.size 29 i0 (.slice none 0 0) 1 24 Try.underlying24 hi hz0 hz1 hz2 rfl (by decide) _ _ _ rfl (OK.outer.alloc _) ⟨w5.heap.size, 0, none⟩ 1 1 [.slice (some ⟨g, 0, none⟩) z.length k] rfl rfl (cells1w w5 _ _) (by intro u hu; simp at hu; subst hu; rfl) (by unfold maxLen; omega) (by omega) (by simp; omega) ?_)
          intro v' w9 own9 hgrow hnn
          obtain ⟨G', C', O9⟩ := OK.stepG hgz own own9 hgrow
          have hb9 : Below w.heap.size w5 w9 := by
            refine (((Below.refl w.heap.size w5).alloc (by omega) _).grown hgrow (by simp; omega) ?_)
            intro kk hkk
            exact (OK.outer.lt kk hkk).1
          have hv9 : v' ≠ .slice none 0 0 := by first | exact hnn | exact fun e => hvn (hnn.1 e).1
          have fin : Hid (RowsSoFar w9 w.heap.size c a len cap v' (n + 1)) := ⟨_, G', C', O9, D.append hzf hzl, CK.out.far hb9 hcw⟩
          have hk9 : Keep c w w9 := hkK.far hb9 (Nat.le_refl _)
          clear own9 hgrow hnn O9 own hb9 OK CK
          go_wp2
          go_roundw
          case rel => exact ⟨j, n + 1, rfl, by omega, hv9, fin, hk9⟩
          case measure => simp [intOf]
        · have hd1 := D.1
          go_wp2_with fail
          refine (below_draw CCB.out (L.length : Int) (by omega) (by omega)).mono ?_
          rintro e w6 ⟨x2, rfl, hx20, hx21, hc6, hk6⟩
          obtain ⟨x2, rfl⟩ : ∃ n : Nat, x2 = n := ⟨x2.toNat, by omega⟩
          have OC := OOB.out.keep hk6 hcw
          have CCC : Hid (Cur w6 c a len cap) := hc6
          have hkC := hkB.trans hk6
          have hx2L : x2 < L.length := by omega
          obtain ⟨gv, hav⟩ : ∃ gv, av = some ⟨gv, 0, none⟩ := by
            rcases OC.outer.2 with ⟨h1, h2⟩ | ⟨g, k, cur, h1, _⟩
            · exact absurd h1 hvn
            · simp only [Value.slice.injEq] at h1; exact ⟨g, h1.1⟩
          subst hav
          obtain ⟨l1, _⟩ := OC.look x2 hx2L
          have hin := OC.inner x2 hx2L
          unfold headOf at l1 hin
          obtain ⟨z, hz⟩ : ∃ z, L.getD x2 [] = z := ⟨_, rfl⟩
          rw [hz] at l1 hin
          have hzz : L[x2] = z := by rw [← hz, getD_get _ _ _ hx2L]
          have hzf : Fit z := by rw [← hzz]; exact (D.2 x2 hx2L).1
          have hzl : z.length ≤ 1000 := by rw [← hzz]; exact (D.2 x2 hx2L).2
          have HIN : Hid (RowAt w6 (some ⟨G x2, 0, none⟩) z) := own_row hin
          have OOC : Hid (OwnRows w6 w.heap.size (.slice (some ⟨gv, 0, none⟩) L.length cv) L G C) := OC
          have HZF : Hid (Fit z) := hzf
          clear hc6 hk6 OOB CCB hkB OC hin hz hzz hzf
          go_wp2_with fail
          refine (row_spec _ _ z _ HIN.out (fun e => by cases e) (by omega)).mono ?_
          rintro e w5 ⟨g, k, rfl, hgg, own0, hb5⟩
          have hzf := HZF.out
          have OK := OOC.out.below hb5
          have hgz : ∀ i, i < L.length → G i ≠ g := fun i hi => by have := OOC.out.lt i hi; omega
          have hsw := hkC.size
          have own := own_base own0 hsw
          have hkK := hkC.trans (Keep.ofBelow hb5)
          have hsK := hkK.size
          have CK : Hid (Cur w5 c a len cap) := CCC.out.below hb5
          clear own0 hb5
          have hrl := D.1
          go_wp2_with (at_builtin; refine wpList_append_own _ rfl _ _ 24 rfl w.heap.size 29 i0 (.slice none 0 0) 1 24 Try.underlying24 hi hz0 hz1 hz2 rfl (by decide) _ _ _ rfl (OK.outer.alloc _) ⟨w5.heap.size, 0, none⟩ 1 1 [.slice (some ⟨g, 0, none⟩) z.length k] rfl rfl (cells1w w5 _ _) (by intro u hu; simp at hu; subst hu; rfl) (by unfold maxLen; omega) (by omega) (by simp; omega) ?_)
          intro v' w9 own9 hgrow hnn
          obtain ⟨G', C', O9⟩ := OK.stepG hgz own own9 hgrow
          have hb9 : Below w.heap.size w5 w9 := by
            refine (((Below.refl w.heap.size w5).alloc (by omega) _).grown hgrow (by simp; omega) ?_)
            intro kk hkk
            exact (OK.outer.lt kk hkk).1
          have hv9 : v' ≠ .slice none 0 0 := by first | exact hnn | exact fun e => hvn (hnn.1 e).1
          have fin : Hid (RowsSoFar w9 w.heap.size c a len cap v' (n + 1)) := ⟨_, G', C', O9, D.append hzf hzl, CK.out.far hb9 hcw⟩
          have hk9 : Keep c w w9 := hkK.far hb9 (Nat.le_refl _)
          clear own9 hgrow hnn O9 own hb9 OK CK
          go_wp2
          go_roundw
          case rel => exact ⟨j, n + 1, rfl, by omega, hv9, fin, hk9⟩
          case measure => simp [intOf]

end Go.Proofs.Ytbjpjhhdnbclbab

/-
  A table that is being drawn: the block of its three fields, its columns and rows in memory of the call's own; the small draws of stage 5.
-/
namespace Go.Proofs.Ytbjpjhhdnbclbab
open Go.ChangeShapes Go.WideShapes Go.ChangeAt Go.RowKit
attribute [local go_sem ↓] Go.wp_at_zero Go.wp_at_succ
attribute [local simp] World.cell?_alloc_past World.cell?_alloc_at World.frozen?_alloc_at cell_far cell_off cell_here World.frozen?_alloc_past

/-- The three fields of a table in block B. -/
def TBox (w : World) (B : Nat) (x y z : Value) : Prop := w.heap[B]? = some (.cells #[x, y, z] 32 (0, 0))
theorem TBox.lt {w : World} {B : Nat} {x y z : Value} (h : TBox w B x y z) : B < w.heap.size := by
  by_cases hl : B < w.heap.size
  · exact hl
  · unfold TBox at h; rw [Array.getElem?_eq_none (by omega)] at h; cases h
theorem TBox.cells {w : World} {B : Nat} {x y z : Value} (h : TBox w B x y z) : w.cell? ⟨B, 0, none⟩ = some x ∧ w.cell? ⟨B, 1, none⟩ = some y ∧ w.cell? ⟨B, 2, none⟩ = some z := by
  unfold TBox at h
  refine ⟨?_, ?_, ?_⟩ <;> simp [World.cell?, h]
theorem TBox.free {w : World} {B : Nat} {x y z : Value} (h : TBox w B x y z) : w.frozen? ⟨B, 0, none⟩ = false ∧ w.frozen? ⟨B, 1, none⟩ = false ∧ w.frozen? ⟨B, 2, none⟩ = false := by
  unfold TBox at h
  refine ⟨?_, ?_, ?_⟩ <;> simp [World.frozen?, h]
theorem TBox.of {w w' : World} {B : Nat} {x y z : Value} (h : TBox w B x y z) (e : w'.heap[B]? = w.heap[B]?) : TBox w' B x y z := by unfold TBox at h ⊢; rw [e]; exact h
theorem TBox.keep {w w' : World} {c B : Nat} {x y z : Value} (h : TBox w B x y z) (hk : Keep c w w') (hne : B ≠ c) : TBox w' B x y z := h.of (hk.block B h.lt hne)
theorem TBox.below {w w' : World} {B : Nat} {x y z : Value} (h : TBox w B x y z) (hb : Below w.heap.size w w') : TBox w' B x y z := h.of (hb.block B h.lt)
theorem TBox.alloc {w : World} {B : Nat} {x y z : Value} (h : TBox w B x y z) (o : Obj) : TBox (w.alloc o) B x y z := by
  refine h.of ?_
  show (w.heap.push o)[B]? = _
  rw [Array.getElem?_push_lt h.lt, ← Array.getElem?_eq_getElem h.lt]
theorem TBox.grown {w w' : World} {B : Nat} {x y z : Value} {row : Option Nat} (h : TBox w B x y z) (hg : w.grownBy w' row) (hne : row ≠ some B) : TBox w' B x y z := h.of (hg.block B h.lt (fun e => hne e.symm))
theorem TBox.new (w : World) (x y z : Value) : TBox (w.alloc (.cells #[x, y, z] 32)) w.heap.size x y z := by
  unfold TBox
  show (w.heap.push _)[w.heap.size]? = _
  simp
theorem TBox.set0 {w : World} {B : Nat} {x y z : Value} (h : TBox w B x y z) (u : Value) : TBox (w.setCell ⟨B, 0, none⟩ u) B u y z := by
  have := heap_setCell_same w B 0 #[x, y, z] 32 u h
  unfold TBox; rw [this]; rfl
theorem TBox.set1 {w : World} {B : Nat} {x y z : Value} (h : TBox w B x y z) (u : Value) : TBox (w.setCell ⟨B, 1, none⟩ u) B x u z := by
  have := heap_setCell_same w B 1 #[x, y, z] 32 u h
  unfold TBox; rw [this]; rfl
theorem TBox.set2 {w : World} {B : Nat} {x y z : Value} (h : TBox w B x y z) (u : Value) : TBox (w.setCell ⟨B, 2, none⟩ u) B x y u := by
  have := heap_setCell_same w B 2 #[x, y, z] 32 u h
  unfold TBox; rw [this]; rfl
theorem TBox.notOwn {w : World} {B : Nat} {x y z : Value} (h : TBox w B x y z) {base : Nat} {e : TypeId} {size n : Nat} {v : Value} {xs : List Value} (ho : w.ownsRow base e size v n xs) (he : 32 ≠ e) : v.ownBlock ≠ some B := by
  rcases ho.2 with ⟨rfl, _⟩ | ⟨g, cap, cur, rfl, _, hg, _⟩
  · simp [Value.ownBlock]
  · intro hh
    simp only [Value.ownBlock, Option.some.injEq] at hh
    subst hh
    unfold TBox at h
    rw [h] at hg
    simp at hg
    exact he hg.2
theorem own_apart {w : World} {base b2 : Nat} {e e2 : TypeId} {size size2 n n2 : Nat} {v v2 : Value} {xs ys : List Value} (h : w.ownsRow base e size v n xs) (k : w.ownsRow b2 e2 size2 v2 n2 ys) (he : e ≠ e2) : v2.ownBlock = none ∨ v2.ownBlock ≠ v.ownBlock := by
  rcases k.2 with ⟨rfl, _⟩ | ⟨g, c, cur, rfl, _, hg, _⟩
  · exact .inl rfl
  · right
    have := own_other h (g := g) (c := c) k he
    simp only [Value.ownBlock] at this ⊢
    exact fun e => this e.symm

/-- A table under way: its fields in block B, its columns and rows in memory of their own. -/
structure TD (w : World) (base B : Nat) (nm : ByteArray) (vc vr : Value) (C : List ByteArray) (L : List (List CT)) : Prop where
  box : TBox w B (.string nm) vc vr
  cols : w.ownsRow base 9 1 vc C.length (strV C)
  rows : ∃ G D, OwnRows w base vr L G D
theorem TD.keep {w w' : World} {c base B : Nat} {nm : ByteArray} {vc vr : Value} {C : List ByteArray} {L : List (List CT)} (h : TD w base B nm vc vr C L) (hk : Keep c w w') (hc : c < base) (hB : B ≠ c) : TD w' base B nm vc vr C L :=
  ⟨h.box.keep hk hB, own_keep h.cols hk hc, by obtain ⟨G, D, O⟩ := h.rows; exact ⟨G, D, O.keep hk hc⟩⟩
theorem TD.alloc {w : World} {base B : Nat} {nm : ByteArray} {vc vr : Value} {C : List ByteArray} {L : List (List CT)} (h : TD w base B nm vc vr C L) (o : Obj) : TD (w.alloc o) base B nm vc vr C L :=
  ⟨h.box.alloc o, h.cols.alloc o, by obtain ⟨G, D, O⟩ := h.rows; exact ⟨G, D, O.outer.alloc o, fun i hi => (O.inner i hi).alloc o, O.apart⟩⟩
theorem TD.below {w w' : World} {base B : Nat} {nm : ByteArray} {vc vr : Value} {C : List ByteArray} {L : List (List CT)} (h : TD w base B nm vc vr C L) (hb : Below w.heap.size w w') : TD w' base B nm vc vr C L :=
  ⟨h.box.below hb, own_below h.cols hb, by obtain ⟨G, D, O⟩ := h.rows; exact ⟨G, D, O.below hb⟩⟩
theorem TD.drew {w : World} {base B : Nat} {nm : ByteArray} {vc vr : Value} {C : List ByteArray} {L : List (List CT)} (h : TD w base B nm vc vr C L) : TD w.drew base B nm vc vr C L := h.below (Below.refl _ _).drew
/-- One column more, its slice stored into the table's block. -/
theorem TD.addCol {w w2 : World} {base B : Nat} {nm : ByteArray} {vc vr v' : Value} {C : List ByteArray} {L : List (List CT)} {s : ByteArray} (h : TD w base B nm vc vr C L) (own : w2.ownsRow base 9 1 v' (C.length + 1) (strV C ++ [.string s])) (hg : w.grownBy w2 vc.ownBlock) :
    TD (w2.setCell ⟨B, 1, none⟩ v') base B nm v' vr (C ++ [s]) L := by
  have hb := h.box.grown hg (h.box.notOwn h.cols (by decide))
  obtain ⟨G, D, O⟩ := h.rows
  have O2 : OwnRows w2 base vr L G D := ⟨O.outer.kept hg (own_apart h.cols O.outer (by decide)), fun i hi => (O.inner i hi).kept hg (own_apart h.cols (O.inner i hi) (by decide)), O.apart⟩
  refine ⟨hb.set1 v', ?_, G, D, O2.setT hb (by decide) (by decide) 1 v'⟩
  have e : strV (C ++ [s]) = strV C ++ [.string s] := List.map_append
  rw [e, List.length_append]
  exact own_setT own hb (by decide) 1 v'
/-- One row more. -/
theorem TD.addRow {w w2 : World} {base B : Nat} {nm : ByteArray} {vc vr v' : Value} {C : List ByteArray} {L : List (List CT)} {x : List CT} {g k : Nat} {o : Obj} {G D : Nat → Nat} (h : TD w base B nm vc vr C L) (O : OwnRows w base vr L G D) (hgx : ∀ i, i < L.length → G i ≠ g)
    (ownx : w.ownsRow base 49 3 (.slice (some ⟨g, 0, none⟩) x.length k) x.length (flat x))
    (own : w2.ownsRow base 29 1 v' (L.length + 1) ((List.range L.length).map (headOf G D L) ++ [.slice (some ⟨g, 0, none⟩) x.length k])) (hg : (w.alloc o).grownBy w2 vr.ownBlock) :
    TD (w2.setCell ⟨B, 2, none⟩ v') base B nm vc v' C (L ++ [x]) := by
  have ha := h.alloc o
  have hb := ha.box.grown hg (h.box.notOwn O.outer (by decide))
  obtain ⟨G', D', S⟩ := O.stepG hgx ownx own hg
  exact ⟨hb.set2 v', own_setT (ha.cols.kept hg (own_apart (O.outer.alloc o) ha.cols (by decide))) hb (by decide) 2 v', G', D', S.setT hb (by decide) (by decide) 2 v'⟩

theorem name_draw {w : World} {c : Nat} {a : Option Addr} {len cap : Nat} (h : Cur w c a len cap) :
    Calls Try.prog 61 #[.pointer (some ⟨c, 0, none⟩)] w fun e w' => ∃ s : ByteArray, e = .returned (.string s) ∧ s.size ≤ 7 ∧ Cur w' c a len cap ∧ Keep c w w' := by
  have hcw := h.lt
  have HC : Hid (Cur w c a len cap) := h
  clear h
  go_enter Try.func61, Try.ntmps61
  go_wp2_with fail
  refine (below_draw (HC.out.alloc (.cells #[.string ⟨#[116]⟩, .string ⟨#[117]⟩, .string ⟨#[118]⟩] 9)) 3 (by omega) (by omega)).mono ?_
  rintro e w1 ⟨x, rfl, hx0, hx1, hc1, hk1⟩
  have C1 : Hid (Cur w1 c a len cap) := hc1
  have K1 : Hid (Keep c w w1) := ((Keep.refl c w).alloc _).trans hk1
  have hq : ∀ j, w1.cell? ⟨w.heap.size, j, none⟩ = (w.alloc (.cells #[.string ⟨#[116]⟩, .string ⟨#[117]⟩, .string ⟨#[118]⟩] 9)).cell? ⟨w.heap.size, j, none⟩ := fun j => hk1.cell (by simp) (by omega)
  clear hc1 hk1
  rcases (by omega : x = 0 ∨ x = 1 ∨ x = 2) with rfl | rfl | rfl
  · have h0 : w1.cell? ⟨w.heap.size, 0, none⟩ = some (.string ⟨#[116]⟩) := by rw [hq]; simp
    clear hq
    go_wp2
    go_ret
    exact ⟨_, rfl, by decide, C1.out, K1.out⟩
  · have h0 : w1.cell? ⟨w.heap.size, 1, none⟩ = some (.string ⟨#[117]⟩) := by rw [hq]; simp
    clear hq
    go_wp2
    go_ret
    exact ⟨_, rfl, by decide, C1.out, K1.out⟩
  · have h0 : w1.cell? ⟨w.heap.size, 2, none⟩ = some (.string ⟨#[118]⟩) := by rw [hq]; simp
    clear hq
    go_wp2
    go_ret
    exact ⟨_, rfl, by decide, C1.out, K1.out⟩

theorem column_draw {w : World} {c : Nat} {a : Option Addr} {len cap : Nat} (h : Cur w c a len cap) :
    Calls Try.prog 42 #[.pointer (some ⟨c, 0, none⟩)] w fun e w' => ∃ s : ByteArray, e = .returned (.string s) ∧ s.size ≤ 7 ∧ Cur w' c a len cap ∧ Keep c w w' := by
  have hcw := h.lt
  have HC : Hid (Cur w c a len cap) := h
  clear h
  go_enter Try.func42, Try.ntmps42
  go_wp2_with fail
  refine (below_draw (HC.out.alloc (.cells #[.string ⟨#[97]⟩, .string ⟨#[98]⟩, .string ⟨#[99]⟩, .string ⟨#[100]⟩, .string ⟨#[120]⟩] 9)) 5 (by omega) (by omega)).mono ?_
  rintro e w1 ⟨x, rfl, hx0, hx1, hc1, hk1⟩
  have C1 : Hid (Cur w1 c a len cap) := hc1
  have K1 : Hid (Keep c w w1) := ((Keep.refl c w).alloc _).trans hk1
  have hq : ∀ j, w1.cell? ⟨w.heap.size, j, none⟩ = (w.alloc (.cells #[.string ⟨#[97]⟩, .string ⟨#[98]⟩, .string ⟨#[99]⟩, .string ⟨#[100]⟩, .string ⟨#[120]⟩] 9)).cell? ⟨w.heap.size, j, none⟩ := fun j => hk1.cell (by simp) (by omega)
  clear hc1 hk1
  rcases (by omega : x = 0 ∨ x = 1 ∨ x = 2 ∨ x = 3 ∨ x = 4) with rfl | rfl | rfl | rfl | rfl
  · have h0 : w1.cell? ⟨w.heap.size, 0, none⟩ = some (.string ⟨#[97]⟩) := by rw [hq]; simp
    clear hq
    go_wp2
    go_ret
    exact ⟨_, rfl, by decide, C1.out, K1.out⟩
  · have h0 : w1.cell? ⟨w.heap.size, 1, none⟩ = some (.string ⟨#[98]⟩) := by rw [hq]; simp
    clear hq
    go_wp2
    go_ret
    exact ⟨_, rfl, by decide, C1.out, K1.out⟩
  · have h0 : w1.cell? ⟨w.heap.size, 2, none⟩ = some (.string ⟨#[99]⟩) := by rw [hq]; simp
    clear hq
    go_wp2
    go_ret
    exact ⟨_, rfl, by decide, C1.out, K1.out⟩
  · have h0 : w1.cell? ⟨w.heap.size, 3, none⟩ = some (.string ⟨#[100]⟩) := by rw [hq]; simp
    clear hq
    go_wp2
    go_ret
    exact ⟨_, rfl, by decide, C1.out, K1.out⟩
  · have h0 : w1.cell? ⟨w.heap.size, 4, none⟩ = some (.string ⟨#[120]⟩) := by rw [hq]; simp
    clear hq
    go_wp2
    go_ret
    exact ⟨_, rfl, by decide, C1.out, K1.out⟩

theorem tcell_draw {w : World} {c : Nat} {a : Option Addr} {len cap : Nat} (h : Cur w c a len cap) :
    Calls Try.prog 76 #[.pointer (some ⟨c, 0, none⟩)] w fun e w' => ∃ (k n : Int) (t : ByteArray), e = .returned (.agg #[.int .i64 k, .int .i64 n, .string t]) ∧ t.size ≤ maxLen ∧ Cur w' c a len cap ∧ Keep c w w' := by
  have hcw := h.lt
  have HC : Hid (Cur w c a len cap) := h
  clear h
  go_enter Try.func76, Try.ntmps76
  go_wp2_with fail
  refine (once_draw (HC.out.alloc _) 8 (by omega) (by omega)).mono ?_
  rintro e w1 ⟨bb, rfl, hc1, hk1⟩
  have B1 : Hid (Has3 w1 w.heap.size (.int .i64 0) (.int .i64 0) (.string ⟨#[]⟩)) := (Has3.new w _ _ _ _).keep hk1 (by omega)
  have K1 : Hid (Keep c w w1) := ((Keep.refl c w).alloc _).trans hk1
  have C1 : Hid (Cur w1 c a len cap) := hc1
  clear hc1 hk1
  cases bb
  · go_wp2_with fail
    refine (below_draw C1.out 9 (by omega) (by omega)).mono ?_
    rintro e w2 ⟨x, rfl, hx0, hx1, hc2, hk2⟩
    obtain ⟨⟨p0, p1, p2, p3⟩, f0, f1, f2⟩ := B1.out.keep hk2 (by omega)
    have K2 : Hid (Keep c w w2) := K1.out.trans hk2
    have C2 : Hid (Cur w2 c a len cap) := hc2
    clear hc2 hk2 B1 C1 K1
    go_wp2
    refine bodyPost_ret (v := .agg #[.int .i64 1, .int .i64 (x - 2), .string ⟨#[]⟩]) (by simp [results, Try.results76, go_sem, p0, p1, p2]) rfl ⟨1, x - 2, ⟨#[]⟩, rfl, by decide, ?_, ?_⟩
    · repeat (first | exact C2.out | refine Cur.setAbove ?_ (by omega) _)
    · repeat (first | exact K2.out | refine Keep.setCell ?_ (Or.inr (Nat.le_refl _)) _)
  · go_wp2_with fail
    refine (cell_draw C1.out).mono ?_
    rintro e w2 ⟨k, n, t, rfl, ht, hc2, hk2⟩
    obtain ⟨⟨p0, p1, p2, p3⟩, f0, f1, f2⟩ := B1.out.keep hk2 (by omega)
    have K2 : Hid (Keep c w w2) := K1.out.trans hk2
    have C2 : Hid (Cur w2 c a len cap) := hc2
    clear hc2 hk2 B1 C1 K1
    go_wp2
    refine bodyPost_ret (v := .agg #[.int .i64 k, .int .i64 n, .string t]) (by simp [results, Try.results76, go_sem, p0, p1, p2]) rfl ⟨k, n, t, rfl, ht, ?_, ?_⟩
    · repeat (first | exact C2.out | refine Cur.setAbove ?_ (by omega) _)
    · repeat (first | exact K2.out | refine Keep.setCell ?_ (Or.inr (Nat.le_refl _)) _)

end Go.Proofs.Ytbjpjhhdnbclbab
