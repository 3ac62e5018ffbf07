/-
  A part of the proof: Order, SortMath, SortedS, CopyI, PutI, SumS, MayS, Box5, KeyVar.
-/
import Derived.Test.YtadbbkpillfjaaaGreatDoorPart11
import Derived.Test.YtadbbkpillfjaaaGreatDoorPart12
import Derived.Sort.Walk0
import Derived.Maps.AppendAt
import Derived.Test.YtadbbkpillfjaaaGreatDoorPart5
import Derived.Test.YtadbbkpillfjaaaGreatDoorPart4
import Derived.Test.YtadbbkpillfjaaaGreatDoorPart2
import Derived.Test.YtadbbkpillfjaaaGreatDoorShelf

/-
  The order of cells: of two that are unlike just one is less; what is less than less is less; three answers of one comparison.
-/
namespace Go.Proofs.YtadbbkpillfjaaaGreatDoor

/-- Held against each other: below 0, 0, or above. -/
def cmpI (x y : Int) : Int := if x < y then -1 else if y < x then 1 else 0
def cmpS (s u : ByteArray) : Int := if Op.bytesLess s.toList u.toList = true then -1 else if Op.bytesLess u.toList s.toList = true then 1 else 0
/-- The first that is not 0. -/
def or3 (a b c : Int) : Int := if a ≠ 0 then a else if b ≠ 0 then b else c
def cmpC (k1 n1 : Int) (t1 : ByteArray) (k2 n2 : Int) (t2 : ByteArray) : Int := or3 (cmpI k1 k2) (cmpI n1 n2) (cmpS t1 t2)

theorem bl_irr (s : ByteArray) : Op.bytesLess s.toList s.toList = false := by
  rw [bytesLess_eq]; simp
theorem bl_asym {s u : ByteArray} (h : Op.bytesLess s.toList u.toList = true) : Op.bytesLess u.toList s.toList = false := by
  rw [bytesLess_eq] at h ⊢
  simp only [decide_eq_true_eq, decide_eq_false_iff_not] at h ⊢
  exact List.lt_asymm h
theorem bl_trans {s u v : ByteArray} (h : Op.bytesLess s.toList u.toList = true) (k : Op.bytesLess u.toList v.toList = true) : Op.bytesLess s.toList v.toList = true := by
  rw [bytesLess_eq] at h k ⊢
  simp only [decide_eq_true_eq] at h k ⊢
  exact List.lt_trans h k
theorem bl_tri {s u : ByteArray} (h : Op.bytesLess s.toList u.toList = false) (k : Op.bytesLess u.toList s.toList = false) : s = u := by
  rw [bytesLess_eq] at h k
  simp only [decide_eq_false_iff_not] at h k
  exact bytes_eq (List.le_antisymm k h)

theorem cmpI_neg (x y : Int) : cmpI y x = - cmpI x y := by
  unfold cmpI
  by_cases h1 : x < y
  · rw [if_neg (by omega), if_pos h1, if_pos h1]; rfl
  · by_cases h2 : y < x
    · rw [if_pos h2, if_neg h1, if_pos h2]
    · rw [if_neg h2, if_neg h1, if_neg h1, if_neg h2]; rfl
theorem cmpS_neg (s u : ByteArray) : cmpS u s = - cmpS s u := by
  unfold cmpS
  cases h1 : Op.bytesLess s.toList u.toList
  · cases h2 : Op.bytesLess u.toList s.toList <;> simp
  · simp [bl_asym h1]
theorem cmpC_neg (k1 n1 : Int) (t1 : ByteArray) (k2 n2 : Int) (t2 : ByteArray) : cmpC k2 n2 t2 k1 n1 t1 = - cmpC k1 n1 t1 k2 n2 t2 := by
  unfold cmpC or3
  rw [cmpI_neg k1 k2, cmpI_neg n1 n2, cmpS_neg t1 t2]
  by_cases h1 : cmpI k1 k2 = 0 <;> by_cases h2 : cmpI n1 n2 = 0 <;> simp [h1, h2]
theorem cmpI_lt (x y : Int) : cmpI x y < 0 ↔ x < y := by
  unfold cmpI; split
  · omega
  · split <;> omega
theorem cmpI_zero (x y : Int) : cmpI x y = 0 ↔ x = y := by
  unfold cmpI; split
  · omega
  · split <;> omega
theorem cmpS_lt (s u : ByteArray) : cmpS s u < 0 ↔ Op.bytesLess s.toList u.toList = true := by
  unfold cmpS; split
  · rename_i h; simp [h]
  · rename_i h; split <;> simp [h]
theorem cmpS_zero (s u : ByteArray) : cmpS s u = 0 ↔ s = u := by
  unfold cmpS
  cases h1 : Op.bytesLess s.toList u.toList
  · cases h2 : Op.bytesLess u.toList s.toList
    · simp [bl_tri h1 h2]
    · simp; intro e; rw [e, bl_irr] at h2; cases h2
  · simp; intro e; rw [e, bl_irr] at h1; cases h1

theorem less_cmp (k1 n1 : Int) (t1 : ByteArray) (k2 n2 : Int) (t2 : ByteArray) : lessB k1 n1 t1 k2 n2 t2 = decide (cmpC k1 n1 t1 k2 n2 t2 < 0) := by
  unfold lessB cmpC or3
  by_cases h1 : k1 = k2
  · have e1 : ¬ cmpI k1 k2 ≠ 0 := fun e => e ((cmpI_zero k1 k2).2 h1)
    rw [if_neg (by simp [h1]), if_neg e1]
    by_cases h2 : n1 = n2
    · have e2 : ¬ cmpI n1 n2 ≠ 0 := fun e => e ((cmpI_zero n1 n2).2 h2)
      rw [if_neg (by simp [h2]), if_neg e2]
      have := cmpS_lt t1 t2
      cases h : Op.bytesLess t1.toList t2.toList <;> rw [h] at this <;> simp at this <;> simp [this]
    · have e2 : cmpI n1 n2 ≠ 0 := fun e => h2 ((cmpI_zero n1 n2).1 e)
      rw [if_pos (by simp [h2]), if_pos e2, decide_eq_decide.2 (cmpI_lt n1 n2)]
  · have e1 : cmpI k1 k2 ≠ 0 := fun e => h1 ((cmpI_zero k1 k2).1 e)
    rw [if_pos (by simp [h1]), if_pos e1, decide_eq_decide.2 (cmpI_lt k1 k2)]
theorem cmpC_zero (k1 n1 : Int) (t1 : ByteArray) (k2 n2 : Int) (t2 : ByteArray) : cmpC k1 n1 t1 k2 n2 t2 = 0 ↔ k1 = k2 ∧ n1 = n2 ∧ t1 = t2 := by
  unfold cmpC or3
  by_cases h1 : cmpI k1 k2 = 0
  · have e1 := (cmpI_zero k1 k2).1 h1
    rw [if_neg (Decidable.not_not.2 h1)]
    by_cases h2 : cmpI n1 n2 = 0
    · have e2 := (cmpI_zero n1 n2).1 h2
      rw [if_neg (Decidable.not_not.2 h2), cmpS_zero]
      exact ⟨fun h => ⟨e1, e2, h⟩, fun h => h.2.2⟩
    · have e2 : ¬ n1 = n2 := fun e => h2 ((cmpI_zero n1 n2).2 e)
      rw [if_pos h2]
      exact ⟨fun h => absurd h h2, fun h => absurd h.2.1 e2⟩
  · have e1 : ¬ k1 = k2 := fun e => h1 ((cmpI_zero k1 k2).2 e)
    rw [if_pos h1]
    exact ⟨fun h => absurd h h1, fun h => absurd h.1 e1⟩

abbrev CT3 := Int × Int × ByteArray
/-- The same of two cells. -/
def lessC (x y : CT3) : Bool := lessB x.1 x.2.1 x.2.2 y.1 y.2.1 y.2.2
theorem lessC_irr (x : CT3) : lessC x x = false := by
  unfold lessC; rw [less_cmp, (cmpC_zero _ _ _ _ _ _).2 ⟨rfl, rfl, rfl⟩]; rfl
theorem lessC_tri {x y : CT3} (h : lessC x y = false) (k : lessC y x = false) : x = y := by
  obtain ⟨a, b, c⟩ := x
  obtain ⟨d, e, f⟩ := y
  unfold lessC at h k
  rw [less_cmp] at h k
  rw [cmpC_neg a b c d e f] at k
  simp only [decide_eq_false_iff_not] at h k
  obtain ⟨rfl, rfl, rfl⟩ := (cmpC_zero a b c d e f).1 (by omega)
  rfl
theorem lessC_trans {x y z : CT3} (h : lessC x y = true) (k : lessC y z = true) : lessC x z = true := by
  obtain ⟨a, b, c⟩ := x
  obtain ⟨d, e, f⟩ := y
  obtain ⟨g, i, j⟩ := z
  unfold lessC lessB at *
  dsimp only at *
  by_cases h1 : a = d
  · subst h1
    by_cases k1 : a = g
    · subst k1
      simp only [bne_self_eq_false, Bool.false_eq_true, if_false] at h k ⊢
      by_cases h2 : b = e
      · subst h2
        by_cases k2 : b = i
        · subst k2
          simp only [bne_self_eq_false, Bool.false_eq_true, if_false] at h k ⊢
          exact bl_trans h k
        · simp [k2] at k ⊢; exact k
      · by_cases k2 : e = i
        · subst k2; simp [h2] at h ⊢; exact h
        · simp [h2] at h
          simp [k2] at k
          simp [show ¬ b = i by omega]; omega
    · simp [k1] at k ⊢; exact k
  · by_cases k1 : d = g
    · subst k1; simp [h1] at h ⊢; exact h
    · simp [h1] at h
      simp [k1] at k
      simp [show ¬ a = g by omega]; omega
theorem lessC_asym {x y : CT3} (h : lessC x y = true) : lessC y x = false := by
  cases k : lessC y x with
  | false => rfl
  | true => have := lessC_trans h k; rw [lessC_irr] at this; cases this

/-- By a cell of each, up or down, then by place. -/
def placeLt (key : Nat → CT3) (down : Bool) (i j : Nat) : Bool :=
  if lessC (key i) (key j) = true then !down else if lessC (key j) (key i) = true then down else decide (i < j)
theorem placeLt_strict (key : Nat → CT3) (down : Bool) (n : Nat) : Strict (placeLt key down) n where
  irr a := by simp [placeLt, lessC_irr]
  tri a b _ _ h k := by
    unfold placeLt at h k
    cases h1 : lessC (key a) (key b)
    · cases h2 : lessC (key b) (key a)
      · simp [h1, h2] at h k; omega
      · rw [h1] at h k; rw [h2] at h k; cases down <;> simp at h k
    · have h2 := lessC_asym h1
      rw [h1] at h k; rw [h2] at h k; cases down <;> simp at h k
  trans a b c h k := by
    unfold placeLt at *
    cases h1 : lessC (key a) (key b)
    · cases h2 : lessC (key b) (key a)
      · have e := lessC_tri h1 h2
        rw [h1, h2] at h
        rw [e]
        cases h3 : lessC (key b) (key c)
        · cases h4 : lessC (key c) (key b)
          · simp [h3, h4] at h k ⊢; omega
          · simp [h3, h4] at h k ⊢; exact k
        · simp [h3] at k ⊢; exact k
      · rw [h1, h2] at h
        simp at h
        subst h
        cases h3 : lessC (key b) (key c)
        · cases h4 : lessC (key c) (key b)
          · have e := lessC_tri h3 h4
            rw [← e]; simp [h1, h2]
          · have := lessC_trans h4 h2
            simp [this, lessC_asym this]
        · simp [h3] at k
    · rw [h1] at h
      simp at h
      subst h
      cases h3 : lessC (key b) (key c)
      · cases h4 : lessC (key c) (key b)
        · have e := lessC_tri h3 h4
          rw [← e]; simp [h1]
        · simp [h3, h4] at k
      · have := lessC_trans h1 h3
        simp [this]

end Go.Proofs.YtadbbkpillfjaaaGreatDoor

/-
  Places put in order one by one, without any program: what is moved towards the front, and when all is in order.
-/
namespace Go.Proofs.YtadbbkpillfjaaaGreatDoor

/-- The first m are in order. -/
def SortedTo (lt : Nat → Nat → Bool) (p : List Nat) (m : Nat) : Prop := ∀ x y, x < y → y < m → lt (p.getD y 0) (p.getD x 0) = false
/-- So are those up to i but for place k, which may be too far behind. -/
def InsAt (lt : Nat → Nat → Bool) (p : List Nat) (i k : Nat) : Prop :=
  (∀ x y, x < y → y ≤ i → x ≠ k → y ≠ k → lt (p.getD y 0) (p.getD x 0) = false) ∧ (∀ y, k < y → y ≤ i → lt (p.getD y 0) (p.getD k 0) = false)
/-- Who stands where: i at place k, lesser ones up to i, and behind it each one at its own. -/
def PlAt (p : List Nat) (n i k : Nat) : Prop := p.getD k 0 = i ∧ (∀ x, x ≤ i → x ≠ k → p.getD x 0 < i) ∧ (∀ x, i < x → x < n → p.getD x 0 = x)

theorem InsAt.start {lt : Nat → Nat → Bool} {p : List Nat} {i : Nat} (h : SortedTo lt p i) : InsAt lt p i i :=
  ⟨fun x y hxy hy _ hyk => h x y hxy (by omega), fun y h1 h2 => by omega⟩
theorem InsAt.done {lt : Nat → Nat → Bool} {p : List Nat} {i k N : Nat} (S : Strict lt N) (hp : ∀ x ∈ p, x < N) (hi : i < p.length) (hk : k ≤ i) (h : InsAt lt p i k) (hd : k = 0 ∨ lt (p.getD k 0) (p.getD (k - 1) 0) = false) : SortedTo lt p (i + 1) := by
  intro x y hxy hy
  by_cases e1 : x = k
  · subst e1; exact h.2 y hxy (by omega)
  · by_cases e2 : y = k
    · subst e2
      rcases hd with rfl | hd
      · omega
      · by_cases e3 : x = y - 1
        · subst e3; exact hd
        · exact S.neg (mem_lt hp (by omega)) (mem_lt hp (by omega)) hd (h.1 x (y - 1) (by omega) (by omega) (by omega) (by omega))
    · exact h.1 x y hxy (by omega) e1 e2
theorem InsAt.step {lt : Nat → Nat → Bool} {p : List Nat} {i k N : Nat} (S : Strict lt N) (hi : i < p.length) (hk : k ≤ i) (h0 : 0 < k) (h : InsAt lt p i k) (hl : lt (p.getD k 0) (p.getD (k - 1) 0) = true) : InsAt lt (swap 0 p (k - 1) k) i (k - 1) := by
  have h1 : k - 1 < p.length := by omega
  have h2 : k < p.length := by omega
  refine ⟨fun x y hxy hy hx hyk => ?_, fun y hy hyi => ?_⟩
  · rw [swap_getD _ _ _ _ _ h1 h2, swap_getD _ _ _ _ _ h1 h2, if_neg hx, if_neg hyk]
    by_cases e1 : y = k
    · subst e1
      rw [if_pos rfl, if_neg (by omega)]
      exact h.1 x (y - 1) (by omega) (by omega) (by omega) (by omega)
    · rw [if_neg e1]
      by_cases e2 : x = k
      · subst e2
        rw [if_pos rfl]
        exact h.1 (x - 1) y (by omega) (by omega) (by omega) (by omega)
      · rw [if_neg e2]
        exact h.1 x y hxy hy e2 e1
  · rw [swap_getD _ _ _ _ _ h1 h2, swap_getD _ _ _ _ _ h1 h2, if_neg (by omega : ¬ k - 1 = k), if_pos rfl]
    by_cases e1 : y = k
    · subst e1
      rw [if_pos rfl]
      exact S.asym hl
    · rw [if_neg e1, if_neg (by omega)]
      exact h.2 y (by omega) hyi
theorem PlAt.step {p : List Nat} {n i k : Nat} (hi : i < p.length) (hk : k ≤ i) (h0 : 0 < k) (h : PlAt p n i k) : PlAt (swap 0 p (k - 1) k) n i (k - 1) := by
  have h1 : k - 1 < p.length := by omega
  have h2 : k < p.length := by omega
  refine ⟨?_, fun x hx hxk => ?_, fun x hx hxn => ?_⟩
  · rw [swap_getD _ _ _ _ _ h1 h2, if_neg (by omega), if_pos rfl]; exact h.1
  · rw [swap_getD _ _ _ _ _ h1 h2]
    by_cases e1 : x = k
    · rw [if_pos e1]; exact h.2.1 (k - 1) (by omega) (by omega)
    · rw [if_neg e1, if_neg hxk]; exact h.2.1 x hx e1
  · rw [swap_getD _ _ _ _ _ h1 h2, if_neg (by omega), if_neg (by omega)]; exact h.2.2 x hx hxn

/-- The cell of a row by which it is put in order. -/
def keyOf (L : List (List CT3)) (at_ : Int) (i : Nat) : CT3 := (L.getD i []).getD at_.toNat (0, 0, ⟨#[]⟩)
/-- Has each row that place? -/
def Reach (L : List (List CT3)) (at_ : Int) : Prop := ∀ i (h : i < L.length), 0 ≤ at_ ∧ at_ < (L[i].length : Int)
/-- The places of the rows in the order that is asked for; as they are where one has no such place. -/
structure IsOrder (L : List (List CT3)) (at_ : Int) (down : Bool) (p : List Nat) : Prop where
  perm : p.Perm (List.range L.length)
  inOrder : Reach L at_ → p.Pairwise (fun x y => placeLt (keyOf L at_) down y x = false)
  asTheyAre : ¬ Reach L at_ → p = List.range L.length
theorem IsOrder.one {L : List (List CT3)} {at_ : Int} {down : Bool} {p q : List Nat} (h : IsOrder L at_ down p) (k : IsOrder L at_ down q) : p = q := by
  by_cases hr : Reach L at_
  · exact one_order (placeLt_strict (keyOf L at_) down L.length) h.perm k.perm (h.inOrder hr) (k.inOrder hr)
  · rw [h.asTheyAre hr, k.asTheyAre hr]

end Go.Proofs.YtadbbkpillfjaaaGreatDoor

/-
  The contract of the model's Sorted: rows in new memory, in the order of their places that is asked for.
-/
namespace Go.Proofs.YtadbbkpillfjaaaGreatDoor
open Go.ChangeShapes Go.WideShapes Go.ChangeAt Go.RowKit
attribute [local go_sem ↓] Go.wp_at_zero Go.wp_at_succ

end Go.Proofs.YtadbbkpillfjaaaGreatDoor

/-
  The contracts of the program's helpers that take rows over into new memory, and of the question whether each row has a place.
-/
namespace Go.Proofs.YtadbbkpillfjaaaGreatDoor
open Go.ChangeShapes Go.WideShapes Go.ChangeAt Go.RowKit
attribute [local go_sem ↓] Go.wp_at_zero Go.wp_at_succ

end Go.Proofs.YtadbbkpillfjaaaGreatDoor

/-
  The contract of the program's Put.
-/
namespace Go.Proofs.YtadbbkpillfjaaaGreatDoor
open Go.ChangeShapes Go.WideShapes Go.ChangeAt Go.RowKit
attribute [local go_sem ↓] Go.wp_at_zero Go.wp_at_succ
attribute [local simp] World.cell?_alloc_past World.cell?_alloc_at World.frozen?_alloc_at cell_far cell_off cell_here World.frozen?_alloc_past

/-- The heads of rows, by their places. -/
def HK (w : World) (ra : Option Addr) (L : List (List CT)) (A : Nat → Option Addr) (K : Nat → Nat) : Prop :=
  ∀ i, (hi : i < L.length) → ∃ b o, ra = some ⟨b, o, none⟩ ∧ b < w.heap.size ∧ w.cell? ⟨b, o + i, none⟩ = some (.slice (A i) L[i].length (K i)) ∧ RowAt w (A i) L[i] ∧ Fit L[i] ∧ L[i].length ≤ maxLen ∧ (A i = none → K i = 0)
theorem HK.below {w w' : World} {ra : Option Addr} {L : List (List CT)} {A : Nat → Option Addr} {K : Nat → Nat} (h : HK w ra L A K) (hb : Below w.heap.size w w') : HK w' ra L A K := by
  intro i hi
  obtain ⟨b, o, e, hlt, h0, h1, h2, h3, h4⟩ := h i hi
  exact ⟨b, o, e, Nat.lt_of_lt_of_le hlt hb.size, by rw [hb.cell (p := ⟨b, _, none⟩) hlt]; exact h0, h1.below hb, h2, h3, h4⟩
end Go.Proofs.YtadbbkpillfjaaaGreatDoor

/-
  The contracts of the model's questions for an item and for a sum.
-/
namespace Go.Proofs.YtadbbkpillfjaaaGreatDoor
open Go.ChangeShapes Go.WideShapes Go.ChangeAt Go.RowKit
attribute [local go_sem ↓] Go.wp_at_zero Go.wp_at_succ
attribute [local simp] World.cell?_alloc_past World.cell?_alloc_at World.frozen?_alloc_at cell_far cell_off cell_here World.frozen?_alloc_past

theorem needs_spec (k : Int) (n : Nat) (hn : needsI k = n) (w : World) :
    Calls Tryz.prog 70 #[.int .i64 k] w fun e w' => e = .returned (.int .i64 (n : Int)) ∧ w' = w := by
  unfold needsI at hn
  by_cases h1 : k ≤ 2
  · rw [if_pos h1] at hn
    subst hn
    go_enter Tryz.func70, Tryz.ntmps70
    go_wp2
    go_ret
    exact ⟨rfl, rfl⟩
  rw [if_neg h1] at hn
  by_cases h2 : 11 ≤ k
  · rw [if_pos h2] at hn
    subst hn
    go_enter Tryz.func70, Tryz.ntmps70
    go_wp2
    go_ret
    exact ⟨rfl, rfl⟩
  rw [if_neg h2] at hn
  subst hn
  go_enter Tryz.func70, Tryz.ntmps70
  go_wp2
  go_ret
  exact ⟨rfl, rfl⟩
theorem zero_txt (s : ByteArray) (b : Bool) (h : decide (s = ⟨#[]⟩) = b) : (s.toList == []) = b := by
  rw [← h]
  by_cases e : s = ⟨#[]⟩
  · rw [decide_eq_true e, e]; simp [Lib.toList_data]
  · rw [decide_eq_false e]
    have := txt_other e
    rw [show (⟨#[]⟩ : ByteArray).toList = [] from by rw [Lib.toList_data]] at this
    exact this
theorem run_eqlI (k ck cn : Int) (ct s : ByteArray) (w : World) :
    (binOp .eql 56 (.agg #[.int .i64 k, .int .i64 ck, .int .i64 cn, .string ct, .string s]) (.agg #[.int .i64 k, .int .i64 0, .int .i64 0, .string ⟨#[]⟩, .string ⟨#[]⟩])).run Tryz.prog w = .ok (.bool ((ck == 0 && cn == 0) && (ct.toList == [] && s.toList == []))) w := by
  by_cases h1 : ck = 0
  · by_cases h2 : cn = 0
    · subst h1 h2
      by_cases h3 : ct.toList = []
      · by_cases h4 : s.toList = []
        · go_simp
        · go_simp
      · go_simp
    · go_simp
  · go_simp
set_option maxHeartbeats 2000000 in
theorem item_spec (x : TI) (w : World) (h1 : x.2.2.size ≤ maxLen) (h2 : x.2.1.2.2.size ≤ maxLen) (b : Bool) (hb : itemB x = b) :
    Calls Tryz.prog 69 #[.agg #[.int .i64 x.1, .int .i64 x.2.1.1, .int .i64 x.2.1.2.1, .string x.2.1.2.2, .string x.2.2]] w fun e w' => e = .returned (.bool b) ∧ Below w.heap.size w w' := by
  obtain ⟨k, ⟨ck, cn, ct⟩, s⟩ := x
  dsimp only at h1 h2 ⊢
  have hA : Below w.heap.size w (w.alloc (.cells #[.int .i64 k, .int .i64 ck, .int .i64 cn, .string ct, .string s] 56)) := (Below.refl _ _).alloc (Nat.le_refl _) _
  unfold itemB at hb
  dsimp only at hb
  by_cases k1 : k = 1
  · subst k1
    rw [if_pos rfl] at hb
    obtain ⟨b1, e1⟩ : ∃ x, okC (ck, cn, ct) = x := ⟨_, rfl⟩
    obtain ⟨b2, e2⟩ : ∃ x, decide (s = ⟨#[]⟩) = x := ⟨_, rfl⟩
    rw [e1, e2] at hb
    have hq := zero_txt s b2 e2
    have E1 : Hid (okB ck cn ct = b1) := e1
    clear e1 e2
    cases b1
    · obtain rfl : false = b := hb
      go_enter Tryz.func69, Tryz.ntmps69
      go_wp2_with fail
      refine (ok_specb ck cn ct false E1.out _ h2).mono ?_
      rintro e w1 ⟨rfl, hb1⟩
      have hx := chain hA hb1
      go_wp2
      go_ret
      exact ⟨rfl, hx⟩
    · obtain rfl : b2 = b := hb
      go_enter Tryz.func69, Tryz.ntmps69
      go_wp2_with fail
      refine (ok_specb ck cn ct true E1.out _ h2).mono ?_
      rintro e w1 ⟨rfl, hb1⟩
      have hx := chain hA hb1
      obtain ⟨hc, hf⟩ := bcell hb1
      have c1 : w1.cell? ⟨w.heap.size, 4, none⟩ = some (.string s) := by rw [hc _ _ (by simp)]; simp
      clear hc hf
      go_wp2
      go_ret
      exact ⟨rfl, hx⟩
  rw [if_neg k1] at hb
  by_cases k2 : k = 2
  · subst k2
    rw [if_pos rfl] at hb
    obtain ⟨b1, e1⟩ : ∃ x, nameK s = x := ⟨_, rfl⟩
    obtain ⟨b2, e2⟩ : ∃ x, decide ((ck, cn, ct) = zeroC) = x := ⟨_, rfl⟩
    rw [e1, e2] at hb
    have hz := zeroC_same (ck, cn, ct) b2 e2
    dsimp only at hz
    have hq := fun w' => run_eql ck cn ct 0 0 ⟨#[]⟩ w'
    rw [hz] at hq
    have E1 : Hid (nameK s = b1) := e1
    clear e1 e2 hz
    cases b1
    · obtain rfl : false = b := hb
      go_enter Tryz.func69, Tryz.ntmps69
      go_wp2_with fail
      refine (namek_spec s _ h1 false E1.out).mono ?_
      rintro e w1 ⟨rfl, hb1⟩
      have hx := chain hA hb1
      go_wp2
      go_ret
      exact ⟨rfl, hx⟩
    · obtain rfl : b2 = b := hb
      go_enter Tryz.func69, Tryz.ntmps69
      go_wp2_with fail
      refine (namek_spec s _ h1 true E1.out).mono ?_
      rintro e w1 ⟨rfl, hb1⟩
      have hx := chain hA hb1
      obtain ⟨hc, hf⟩ := bcell hb1
      have c1 : w1.cell? ⟨w.heap.size, 1, none⟩ = some (.int .i64 ck) := by rw [hc _ _ (by simp)]; simp
      have c2 : w1.cell? ⟨w.heap.size, 2, none⟩ = some (.int .i64 cn) := by rw [hc _ _ (by simp)]; simp
      have c3 : w1.cell? ⟨w.heap.size, 3, none⟩ = some (.string ct) := by rw [hc _ _ (by simp)]; simp
      clear hc hf
      go_wp2
      go_ret
      exact ⟨rfl, hx⟩
  rw [if_neg k2] at hb
  have hq := fun w' => run_eqlI k ck cn ct s w'
  obtain ⟨b2, e2⟩ : ∃ x, ((ck == 0 && cn == 0) && (ct.toList == [] && s.toList == [])) = x := ⟨_, rfl⟩
  rw [e2] at hq
  have e3 : decide (((k, (ck, cn, ct), s) : TI) = opI k) = b2 := by
    rw [← e2]
    have g1 := zero_txt ct _ rfl
    have g2 := zero_txt s _ rfl
    rw [g1, g2, Bool.eq_iff_iff, decide_eq_true_eq]
    unfold opI zeroC
    simp [and_assoc]
  rw [e3] at hb
  clear e2 e3
  by_cases h3 : 3 ≤ k ∧ k ≤ 12
  · rw [decide_eq_true h3.1, decide_eq_true h3.2] at hb
    obtain rfl : b2 = b := by simpa using hb
    clear hb
    go_enter Tryz.func69, Tryz.ntmps69
    go_wp2_with fail
    refine (in_spec k 3 12 _).mono ?_
    rintro e w1 ⟨rfl, rfl⟩
    rw [decide_eq_true h3.1, decide_eq_true h3.2]
    go_wp2
    go_ret
    exact ⟨rfl, hA⟩
  · have hbf : b = false := by
      rw [← hb]
      by_cases h4 : 3 ≤ k
      · rw [decide_eq_false (fun h5 => h3 ⟨h4, h5⟩)]; simp
      · rw [decide_eq_false h4]; simp
    subst hbf
    clear hb
    have h5 : (decide (3 ≤ k) && decide (k ≤ 12)) = false := by
      by_cases h4 : 3 ≤ k
      · rw [decide_eq_false (fun h5 => h3 ⟨h4, h5⟩)]; simp
      · rw [decide_eq_false h4]; simp
    go_enter Tryz.func69, Tryz.ntmps69
    go_wp2_with fail
    refine (in_spec k 3 12 _).mono ?_
    rintro e w1 ⟨rfl, rfl⟩
    rw [h5]
    go_wp2
    go_ret
    exact ⟨rfl, hA⟩
theorem heap_step (l : List TI) (k : Nat) (h : k < l.length) (c : Nat) (hc : heapN (l.take k) 0 = some c) : heapN (l.take (k + 1)) 0 = if itemB l[k] = true ∧ needsI l[k].1 ≤ c then some (c + 1 - needsI l[k].1) else none := by
  rw [List.take_succ_eq_append_getElem h, heapN_append, hc]
  simp only [Option.bind_some, heapN]
theorem heap_no (l : List TI) (k : Nat) (h : heapN (l.take k) 0 = none) : sumB l = false := by
  unfold sumB
  have : heapN l 0 = none := by
    conv => lhs; rw [← List.take_append_drop k l]
    rw [heapN_append, h]; rfl
  rw [this]; simp
set_option maxRecDepth 100000 in
set_option maxHeartbeats 2000000 in
theorem sum_spec (a : Option Addr) (cap : Nat) (l : List TI) (n : Nat) (hn : l.length = n) (w : World) (hrow : ItmAt w a l) (hfit : FitItm l) (hm : n ≤ maxLen) (b : Bool) (hb : sumB l = b) :
    Calls Tryz.prog 56 #[.slice a n cap] w fun e w' => e = .returned (.bool b) ∧ Below w.heap.size w w' := by
  subst hn
  have HR : Hid (ItmAt w a l) := hrow
  have HF : Hid (FitItm l) := hfit
  have HB : Hid (sumB l = b) := hb
  clear hrow hfit hb
  unfold maxLen at hm
  go_enter Tryz.func56, Tryz.ntmps56
  go_wp2
  go_loopw [3, 4] (fun nv kk wr => ∃ k c : Nat, k ≤ l.length ∧ kk = .int .i64 k ∧ nv = .int .i64 c ∧ c ≤ k ∧ Hid (heapN (l.take k) 0 = some c) ∧ Below w.heap.size w wr) (fun _ kk _ => l.length - (intOf kk).toNat)
  case atStart => exact ⟨0, 0, Nat.zero_le _, rfl, rfl, Nat.le_refl _, rfl, Below.refl _ _⟩
  case round =>
    obtain ⟨k, c, hk, rfl, rfl, hck, hhp, hbw⟩ := hrel
    by_cases hlt : k < l.length
    · obtain ⟨g, o, rfl, hgw, c0, c1, c2, c3, c4⟩ := HR.out.below hbw k hlt
      have hi0 : (0 : Int) ≤ (k : Int) := by omega
      have hi1 : (k : Int) < (l.length : Int) := by omega
      obtain ⟨hf1, hf2⟩ := HF.out k hlt
      have hst := heap_step l k hlt c hhp.out
      have HNO : Hid (heapN (l.take (k + 1)) 0 = none → b = false) := by
        have : heapN (l.take (k + 1)) 0 = none → b = false := fun h => by rw [← HB.out]; exact heap_no l (k + 1) h
        exact this
      obtain ⟨r, hr⟩ : ∃ r, itemB l[k] = r := ⟨_, rfl⟩
      obtain ⟨d, hd⟩ : ∃ d, needsI l[k].1 = d := ⟨_, rfl⟩
      rw [hr, hd] at hst
      have HST : Hid (heapN (l.take (k + 1)) 0 = if r = true ∧ d ≤ c then some (c + 1 - d) else none) := hst
      have HRR : Hid (itemB l[k] = r) := hr
      have HD : Hid (needsI l[k].1 = d) := hd
      have hd2 : d ≤ 2 := by rw [← hd]; unfold needsI; (repeat' split) <;> omega
      clear hst hr hd
      generalize l[k] = x at c0 c1 c2 c3 c4 hf1 hf2 HRR HD
      go_wp2_with fail
      refine (item_spec x _ hf2 hf1 r HRR.out).mono ?_
      rintro e w1 ⟨rfl, hb1⟩
      have hx1 := chain hbw hb1
      cases r
      · obtain rfl : b = false := HNO.out (by rw [HST.out, if_neg (by simp)])
        clear c0 c1 c2 c3 c4
        go_wp2
        go_ret
        exact ⟨rfl, hx1⟩
      rw [← hb1.cell (p := ⟨g, _, none⟩) hgw] at c0 c1 c2 c3 c4
      clear hb1
      go_wp2_with fail
      refine (needs_spec x.1 d HD.out _).mono ?_
      rintro e w2 ⟨rfl, rfl⟩
      by_cases hcd : d ≤ c
      · have h1 : ¬ (c : Int) < (d : Int) := by omega
        have HS2 : Hid (heapN (l.take (k + 1)) 0 = some (c + 1 - d)) := by
          have : heapN (l.take (k + 1)) 0 = some (c + 1 - d) := by rw [HST.out]; simp [hcd]
          exact this
        have hz : ((c + 1 - d : Nat) : Int) = (c : Int) + 1 - (d : Int) := by omega
        go_wp2_with fail
        refine (needs_spec x.1 d HD.out _).mono ?_
        rintro e w3 ⟨rfl, rfl⟩
        clear c0 c1 c2 c3 c4
        go_wp2
        go_roundw
        case rel => exact ⟨k + 1, c + 1 - d, by omega, by go_num, by rw [hz], by omega, HS2, hx1⟩
        case measure => simp [intOf]; omega
      · have h1 : (c : Int) < (d : Int) := by omega
        obtain rfl : b = false := HNO.out (by rw [HST.out, if_neg (fun h => hcd h.2)])
        clear c0 c1 c2 c3 c4
        go_wp2
        go_ret
        exact ⟨rfl, hx1⟩
    · have hkl : k = l.length := by omega
      subst hkl
      have hi1 : ¬ (l.length : Int) < (l.length : Int) := by omega
      have hh := hhp.out
      rw [List.take_length] at hh
      have HBB : Hid ((decide (c = 1) && decide (l.length ≤ 40)) = b) := by
        have : (decide (c = 1) && decide (l.length ≤ 40)) = b := by
          rw [← HB.out]; unfold sumB; rw [hh]; simp
        exact this
      clear hh
      by_cases e1 : c = 1
      · subst e1
        go_wp2
        go_ret
        exact ⟨ret_bool (by rw [← HBB.out]; simp; omega), hbw⟩
      · have e2 : ¬ (c : Int) = 1 := by omega
        have e3 : ((c : Int) == 1) = false := by simpa using e2
        go_wp2
        go_ret
        exact ⟨ret_bool (by rw [← HBB.out]; simp [e1]), hbw⟩
end Go.Proofs.YtadbbkpillfjaaaGreatDoor

/-
  The contract of the model's MayFail.
-/
namespace Go.Proofs.YtadbbkpillfjaaaGreatDoor
open Go.ChangeShapes Go.WideShapes Go.ChangeAt Go.RowKit
attribute [local go_sem ↓] Go.wp_at_zero Go.wp_at_succ
attribute [local simp] World.cell?_alloc_past World.cell?_alloc_at World.frozen?_alloc_at cell_far cell_off cell_here World.frozen?_alloc_past

/-- An item that cannot fail. -/
def safeI (x : TI) : Bool := decide (x.1 = 1) || decide (x.1 = 2) || decide (x.1 = 12)
/-- What MayFail answers. -/
def mayR (l : List TI) : Bool := !(l.all safeI && sumB l)
theorem safe_snoc (l : List TI) (k : Nat) (h : k < l.length) : (l.take (k + 1)).all safeI = ((l.take k).all safeI && safeI l[k]) := by
  rw [List.take_succ_eq_append_getElem h, List.all_append]; simp
set_option maxRecDepth 100000 in
set_option maxHeartbeats 4000000 in
theorem may_spec (a : Option Addr) (cap : Nat) (l : List TI) (n : Nat) (hn : l.length = n) (w : World) (hrow : ItmAt w a l) (hfit : FitItm l) (hm : n ≤ maxLen) :
    Calls Tryz.prog 44 #[.slice a n cap] w fun e w' => e = .returned (.bool (mayR l)) ∧ Below w.heap.size w w' := by
  have HN : Hid (l.length = n) := hn
  have HR : Hid (ItmAt w a l) := hrow
  have HF : Hid (FitItm l) := hfit
  have HM : Hid (n ≤ maxLen) := hm
  clear hrow hfit hn
  unfold maxLen at hm
  go_enter Tryz.func44, Tryz.ntmps44
  go_wp2
  go_loopw [3] (fun i wr => ∃ k : Nat, k ≤ n ∧ i = .int .i64 k ∧ Hid ((l.take k).all safeI = true) ∧ wr = w) (fun i _ => n - (intOf i).toNat)
  case atStart => exact ⟨0, Nat.zero_le _, rfl, rfl, rfl⟩
  case round =>
    obtain ⟨k, hkn, rfl, hall, hwr⟩ := hrel
    replace hwr := hwr.symm
    subst hwr
    by_cases hlt : k < n
    · have hlk : k < l.length := by rw [HN.out]; exact hlt
      have hi1 : (k : Int) < (n : Int) := by omega
      have hi0 : (0 : Int) ≤ (k : Int) := by omega
      obtain ⟨g, o, rfl, hgw, c0, c1, c2, c3, c4⟩ := HR.out k hlk
      have hsn := safe_snoc l k hlk
      rw [hall.out, Bool.true_and] at hsn
      have HSn : Hid ((l.take (k + 1)).all safeI = safeI l[k]) := hsn
      have HNo : Hid (safeI l[k] = false → mayR l = true) := by
        have : safeI l[k] = false → mayR l = true := fun h => by
          have h2 : l.all safeI = false := by
            rw [Bool.eq_false_iff]
            intro h3
            have := List.all_eq_true.1 h3 _ (List.getElem_mem hlk)
            rw [h] at this
            cases this
          unfold mayR
          rw [h2]
          rfl
        exact this
      clear hsn c1 c2 c3 c4 hall
      generalize l[k] = x at c0 HSn HNo
      obtain ⟨kd, y⟩ := x
      simp only at c0
      by_cases h1 : kd = 1
      · subst h1
        have HS : Hid ((l.take (k + 1)).all safeI = true) := HSn.out
        clear HNo HSn
        go_wp2
        go_roundw
        case rel => exact ⟨k + 1, by omega, by go_num, HS, by first | rfl | trivial⟩
        case measure => simp [intOf]; omega
      · by_cases h2 : kd = 2
        · subst h2
          have HS : Hid ((l.take (k + 1)).all safeI = true) := HSn.out
          clear HNo HSn h1
          go_wp2
          go_roundw
          case rel => exact ⟨k + 1, by omega, by go_num, HS, by first | rfl | trivial⟩
          case measure => simp [intOf]; omega
        · by_cases h3 : kd = 12
          · subst h3
            have HS : Hid ((l.take (k + 1)).all safeI = true) := HSn.out
            clear HNo HSn h1 h2
            go_wp2
            go_roundw
            case rel => exact ⟨k + 1, by omega, by go_num, HS, by first | rfl | trivial⟩
            case measure => simp [intOf]; omega
          · have fin : Hid (mayR l = true) := HNo.out (by unfold safeI; simp [h1, h2, h3])
            have q1 : (kd != 1) = true := by simp [h1]
            have q2 : (kd != 2) = true := by simp [h2]
            have q3 : (kd != 12) = true := by simp [h3]
            clear HNo HSn
            go_wp2
            go_ret
            exact ⟨by simp [fin.out], Below.refl _ _⟩
    · have hi1 : ¬ (k : Int) < (n : Int) := by omega
      obtain ⟨b, hb⟩ : ∃ b, sumB l = b := ⟨_, rfl⟩
      have HB : Hid (sumB l = b) := hb
      have fin : Hid (mayR l = !b) := by
        have ht : l.take k = l := List.take_of_length_le (by rw [HN.out]; omega)
        have h1 := hall.out
        rw [ht] at h1
        have : mayR l = !b := by unfold mayR; rw [h1, hb, Bool.true_and]
        exact this
      clear hall hb
      go_wp2_with fail
      refine (sum_spec _ _ l n HN.out _ HR.out HF.out HM.out b HB.out).mono ?_
      rintro e w1 ⟨rfl, hb1⟩
      go_wp2
      go_ret
      exact ⟨by simp [fin.out], hb1⟩
end Go.Proofs.YtadbbkpillfjaaaGreatDoor

/-
  A block of five cells that was laid, behind what came later.
-/
namespace Go.Proofs.YtadbbkpillfjaaaGreatDoor
open Go.ChangeShapes Go.WideShapes Go.ChangeAt Go.RowKit

end Go.Proofs.YtadbbkpillfjaaaGreatDoor

/-
  Package-level variables of the library in later worlds: the table of powers of ten, the two sentinels.
-/
namespace Go.Proofs.YtadbbkpillfjaaaGreatDoor
open Go.ChangeShapes Go.WideShapes Go.ChangeAt Go.RowKit

theorem var_below {P : Program} {w w' : World} {name : String} {v : Array Value} (h : w.var? P name = some v) (hb : Below w.heap.size w w') : w'.var? P name = some v := by
  unfold World.var? at h ⊢
  cases hg : P.globalNamed name with
  | none => rw [hg] at h; cases h
  | some g =>
    rw [hg] at h
    have h2 : (match w.heap[g]? with | some (.cells cs _ _) => some cs | _ => none) = some v := h
    have hlt : g < w.heap.size := by
      by_cases hl : g < w.heap.size
      · exact hl
      · rw [Array.getElem?_eq_none (by omega)] at h2; cases h2
    show (match w'.heap[g]? with | some (.cells cs _ _) => some cs | _ => none) = some v
    rw [hb.block g hlt]; exact h2
/-- The table of powers of ten holds them. -/
def PowAt (w : World) : Prop := Lib.TabIs Tryz.prog w "internal/strconv.uint64pow10" .u64 Lib.pow10Tab
theorem PowAt.below {w w' : World} (h : PowAt w) (hb : Below w.heap.size w w') : PowAt w' := var_below h hb
/-- The two sentinels hold something. -/
def ErrAt (w : World) : Prop := (∃ tp p, w.var? Tryz.prog "strconv.ErrSyntax" = some #[.iface tp p]) ∧ (∃ tp p, w.var? Tryz.prog "strconv.ErrRange" = some #[.iface tp p])
theorem ErrAt.below {w w' : World} (h : ErrAt w) (hb : Below w.heap.size w w') : ErrAt w' := by
  obtain ⟨⟨a, b, h1⟩, ⟨c, d, h2⟩⟩ := h
  exact ⟨⟨a, b, var_below h1 hb⟩, ⟨c, d, var_below h2 hb⟩⟩
theorem grow_below (w : World) (os : Array Obj) : Below w.heap.size w (Sort.grow w os) :=
  ⟨rfl, rfl, rfl, by unfold Sort.grow; simp, fun k hk => by
    unfold Sort.grow
    show (w.heap ++ os)[k]? = w.heap[k]?
    rw [Array.getElem?_append_left hk]⟩

theorem format_lib (n : Int) (h0 : -9223372036854775808 ≤ n) (h1 : n ≤ 9223372036854775807) (w : World) (hp : PowAt w) :
    Calls Tryz.prog 115 #[.int .i64 n, .int .i64 10] w fun e w' => e = .returned (.string ⟨(Lib.itoa n).toArray⟩) ∧ Below w.heap.size w w' := by
  refine (Tryz.strconv_FormatInt_10 n h0 h1 w hp).mono ?_
  rintro e w' ⟨rfl, k, os, rfl⟩
  exact ⟨rfl, (belowN (Below.refl _ _) k).trans (grow_below (w.drewN k) os)⟩

end Go.Proofs.YtadbbkpillfjaaaGreatDoor
