/-
  A part of the proof: HeapMath, Order, TokMath, PieceMath, ItmMath, NamesMath, Tok1.
-/
import Derived.WalkKit
import Derived.Test.YtjjkdbmjloolaaaGreatDoorPart5
import Derived.Sort.Walk0
import Derived.Test.YtjjkdbmjloolaaaGreatDoorPart1
import Derived.Test.YtjjkdbmjloolaaaGreatDoorPart2

namespace Go.Proofs.YtjjkdbmjloolaaaGreatDoor
structure Strict (lt : Nat → Nat → Bool) (n : Nat) : Prop where
 irr : ∀ a, lt a a = false
 tri : ∀ a b, a < n → b < n → lt a b = false → lt b a = false → a = b
 trans : ∀ a b c, lt a b = true → lt b c = true → lt a c = true
theorem Strict.asym {lt : Nat → Nat → Bool} {n : Nat} (S : Strict lt n) {a b : Nat} (h : lt a b = true) : lt b a = false := by
 cases hb : lt b a with
 | false => rfl
 | true => have := S.trans a b a h hb; rw [S.irr] at this; cases this
theorem Strict.neg {lt : Nat → Nat → Bool} {n : Nat} (S : Strict lt n) {a b c : Nat} (ha : a < n) (hb : b < n) (h1 : lt a b = false) (h2 : lt b c = false) : lt a c = false := by
 cases hc : lt a c with
 | false => rfl
 | true =>
  cases hba : lt b a with
  | true => have := S.trans b a c hba hc; rw [h2] at this; cases this
  | false => have e := S.tri a b ha hb h1 hba; subst e; rw [h2] at hc; cases hc
def Heap (lt : Nat → Nat → Bool) (s : List Nat) (n : Nat) : Prop := ∀ i, 0 < i → i < n → lt (s.getD i 0) (s.getD ((i - 1) / 2) 0) = false
def UpAt (lt : Nat → Nat → Bool) (s : List Nat) (n j : Nat) : Prop :=
 (∀ i, 0 < i → i < n → i ≠ j → lt (s.getD i 0) (s.getD ((i - 1) / 2) 0) = false) ∧
 (∀ i, 0 < i → i < n → (i - 1) / 2 = j → 0 < j → lt (s.getD i 0) (s.getD ((j - 1) / 2) 0) = false)
def DownAt (lt : Nat → Nat → Bool) (s : List Nat) (n j : Nat) : Prop :=
 (∀ i, 0 < i → i < n → (i - 1) / 2 ≠ j → lt (s.getD i 0) (s.getD ((i - 1) / 2) 0) = false) ∧
 (∀ i, 0 < i → i < n → (i - 1) / 2 = j → 0 < j → lt (s.getD i 0) (s.getD ((j - 1) / 2) 0) = false)
def swap {α : Type} (d : α) (s : List α) (i j : Nat) : List α := (s.set i (s.getD j d)).set j (s.getD i d)
theorem swap_length {α : Type} (d : α) (s : List α) (i j : Nat) : (swap d s i j).length = s.length := by simp [swap]
theorem swap_getD {α : Type} (d : α) (s : List α) (i j k : Nat) (hi : i < s.length) (hj : j < s.length) : (swap d s i j).getD k d = if k = j then s.getD i d else if k = i then s.getD j d else s.getD k d := by
 unfold swap
 simp only [List.getD_eq_getElem?_getD, List.getElem?_set, List.length_set]
 by_cases h1 : j = k
 · subst h1; simp [hj]
 · by_cases h2 : i = k
  · subst h2; simp [h1, hi, Ne.symm h1]
  · simp [h1, h2, Ne.symm h1, Ne.symm h2]
theorem mem_lt {s : List Nat} {N i : Nat} (h : ∀ x ∈ s, x < N) (hi : i < s.length) : s.getD i 0 < N := by
 have : s.getD i 0 ∈ s := by simp [List.getD, List.getElem?_eq_getElem hi]
 exact h _ this
theorem UpAt.start {lt : Nat → Nat → Bool} {s : List Nat} {n : Nat} (h : Heap lt s n) : UpAt lt s (n + 1) n :=
 ⟨fun i h0 hi hne => h i h0 (by omega), fun i h0 hi hp hj => by omega⟩
theorem UpAt.done {lt : Nat → Nat → Bool} {s : List Nat} {n j : Nat} (h : UpAt lt s n j) (hj : lt (s.getD j 0) (s.getD ((j - 1) / 2) 0) = false) : Heap lt s n := by
 intro i h0 hi
 by_cases e : i = j
 · subst e; exact hj
 · exact h.1 i h0 hi e
theorem UpAt.step {lt : Nat → Nat → Bool} {s : List Nat} {n j N : Nat} (S : Strict lt N) (hs : ∀ x ∈ s, x < N) (hn : n ≤ s.length) (hjn : j < n) (h0 : 0 < j) (h : UpAt lt s n j) (hj : lt (s.getD j 0) (s.getD ((j - 1) / 2) 0) = true) :
  UpAt lt (swap 0 s ((j - 1) / 2) j) n ((j - 1) / 2) := by
 obtain ⟨p, hp⟩ : ∃ p, (j - 1) / 2 = p := ⟨_, rfl⟩
 rw [hp] at hj ⊢
 have hpj : p < j := by omega
 have hpl : p < s.length := by omega
 have hjl : j < s.length := by omega
 obtain ⟨A, B⟩ := h
 refine ⟨fun i i0 hi hne => ?_, fun i i0 hi hpar hp0 => ?_⟩
 · rw [swap_getD _ _ _ _ _ hpl hjl, swap_getD _ _ _ _ _ hpl hjl]
  by_cases e1 : i = j
  · subst e1
   rw [if_pos rfl, hp, if_neg (by omega), if_pos rfl]
   exact S.asym hj
  · rw [if_neg e1, if_neg hne]
   have A1 := A i i0 hi e1
   by_cases e2 : (i - 1) / 2 = j
   · rw [if_pos e2]
    have := B i i0 hi e2 h0
    rwa [hp] at this
   · rw [if_neg e2]
    by_cases e3 : (i - 1) / 2 = p
    · rw [if_pos e3]
     rw [e3] at A1
     cases hc : lt (s.getD i 0) (s.getD j 0) with
     | false => rfl
     | true => have := S.trans _ _ _ hc hj; rw [A1] at this; cases this
    · rw [if_neg e3]; exact A1
 · have App := A p hp0 (by omega) (by omega)
  rw [swap_getD _ _ _ _ _ hpl hjl, swap_getD _ _ _ _ _ hpl hjl, if_neg (by omega : ¬ (p - 1) / 2 = j), if_neg (by omega : ¬ (p - 1) / 2 = p)]
  by_cases e1 : i = j
  · rw [if_pos e1]; exact App
  · rw [if_neg e1, if_neg (by omega)]
   have A1 := A i i0 hi e1
   rw [hpar] at A1
   exact S.neg (mem_lt hs (by omega)) (mem_lt hs (by omega)) A1 App
theorem DownAt.start {lt : Nat → Nat → Bool} {s s' : List Nat} {n : Nat} (h : Heap lt s (n + 1)) (hs : ∀ i, 0 < i → i < n → s'.getD i 0 = s.getD i 0) : DownAt lt s' n 0 := by
 refine ⟨fun i h0 hi hne => ?_, fun i h0 hi hp hj => by omega⟩
 rw [hs i h0 hi, hs _ (by omega) (by omega)]
 exact h i h0 (by omega)
theorem DownAt.done {lt : Nat → Nat → Bool} {s : List Nat} {n j : Nat} (h : DownAt lt s n j) (h1 : 2 * j + 1 < n → lt (s.getD (2 * j + 1) 0) (s.getD j 0) = false) (h2 : 2 * j + 2 < n → lt (s.getD (2 * j + 2) 0) (s.getD j 0) = false) : Heap lt s n := by
 intro i h0 hi
 by_cases e : (i - 1) / 2 = j
 · rcases (show i = 2 * j + 1 ∨ i = 2 * j + 2 by omega) with rfl | rfl
  · rw [e]; exact h1 hi
  · rw [e]; exact h2 hi
 · exact h.1 i h0 hi e
theorem DownAt.step {lt : Nat → Nat → Bool} {s : List Nat} {n j c N : Nat} (S : Strict lt N) (hn : n ≤ s.length) (hc : c < n) (hcj : c = 2 * j + 1 ∨ c = 2 * j + 2) (h : DownAt lt s n j)
  (hl : lt (s.getD c 0) (s.getD j 0) = true) (hleast : ∀ d, d = 2 * j + 1 ∨ d = 2 * j + 2 → d < n → lt (s.getD d 0) (s.getD c 0) = false) :
  DownAt lt (swap 0 s j c) n c := by
 have hjl : j < s.length := by omega
 have hcl : c < s.length := by omega
 obtain ⟨A, B⟩ := h
 refine ⟨fun i i0 hi hne => ?_, fun i i0 hi hpar hp0 => ?_⟩
 · rw [swap_getD _ _ _ _ _ hjl hcl, swap_getD _ _ _ _ _ hjl hcl, if_neg hne]
  by_cases e1 : i = c
  · rw [if_pos e1, if_pos (by omega)]
   exact S.asym hl
  · rw [if_neg e1]
   by_cases e2 : i = j
   · rw [if_pos e2, if_neg (by omega)]
    have := B c (by omega) hc (by omega) (by omega)
    rwa [e2]
   · rw [if_neg e2]
    by_cases e3 : (i - 1) / 2 = j
    · rw [if_pos e3]; exact hleast i (by omega) hi
    · rw [if_neg e3]; exact A i i0 hi e3
 · have Ai := A i i0 hi (by omega)
  rw [swap_getD _ _ _ _ _ hjl hcl, swap_getD _ _ _ _ _ hjl hcl, if_neg (by omega), if_neg (by omega), if_neg (by omega), if_pos (by omega)]
  rw [hpar] at Ai; exact Ai
theorem Heap.least {lt : Nat → Nat → Bool} {s : List Nat} {n N : Nat} (S : Strict lt N) (hs : ∀ x ∈ s, x < N) (hn : n ≤ s.length) (h : Heap lt s n) : ∀ k i, i ≤ k → i < n → lt (s.getD i 0) (s.getD 0 0) = false := by
 intro k
 induction k with
 | zero => intro i hi hin; have : i = 0 := by omega
      subst this; exact S.irr _
 | succ k ih =>
  intro i hi hin
  by_cases e : i = 0
  · subst e; exact S.irr _
  · exact S.neg (mem_lt hs (by omega)) (mem_lt hs (by omega)) (h i (by omega) hin) (ih _ (by omega) (by omega))
theorem one_order {lt : Nat → Nat → Bool} {N : Nat} (S : Strict lt N) {a b : List Nat} (ha : a.Perm (List.range N)) (hb : b.Perm (List.range N)) (pa : a.Pairwise (fun x y => lt y x = false)) (pb : b.Pairwise (fun x y => lt y x = false)) : a = b := by
 refine List.Perm.eq_of_pairwise (le := fun x y => lt y x = false) ?_ pa pb (ha.trans hb.symm)
 intro x y hx hy h1 h2
 have hx' : x < N := by simpa using (ha.mem_iff.1 hx)
 have hy' : y < N := by simpa using (hb.mem_iff.1 hy)
 exact S.tri x y hx' hy' h2 h1
def cmpI (x y : Int) : Int := if x < y then -1 else if y < x then 1 else 0
def cmpS (s u : ByteArray) : Int := if Op.bytesLess s.toList u.toList = true then -1 else if Op.bytesLess u.toList s.toList = true then 1 else 0
def or3 (a b c : Int) : Int := if a ≠ 0 then a else if b ≠ 0 then b else c
def cmpC (k1 n1 : Int) (t1 : ByteArray) (k2 n2 : Int) (t2 : ByteArray) : Int := or3 (cmpI k1 k2) (cmpI n1 n2) (cmpS t1 t2)
theorem bl_irr (s : ByteArray) : Op.bytesLess s.toList s.toList = false := by
 rw [bytesLess_eq]; simp
theorem bl_asym {s u : ByteArray} (h : Op.bytesLess s.toList u.toList = true) : Op.bytesLess u.toList s.toList = false := by
 rw [bytesLess_eq] at h ⊢
 simp only [decide_eq_true_eq, decide_eq_false_iff_not] at h ⊢
 exact List.lt_asymm h
theorem bl_trans {s u v : ByteArray} (h : Op.bytesLess s.toList u.toList = true) (k : Op.bytesLess u.toList v.toList = true) : Op.bytesLess s.toList v.toList = true := by
 rw [bytesLess_eq] at h k ⊢
 simp only [decide_eq_true_eq] at h k ⊢
 exact List.lt_trans h k
theorem bl_tri {s u : ByteArray} (h : Op.bytesLess s.toList u.toList = false) (k : Op.bytesLess u.toList s.toList = false) : s = u := by
 rw [bytesLess_eq] at h k
 simp only [decide_eq_false_iff_not] at h k
 exact bytes_eq (List.le_antisymm k h)
theorem cmpI_neg (x y : Int) : cmpI y x = - cmpI x y := by
 unfold cmpI
 by_cases h1 : x < y
 · rw [if_neg (by omega), if_pos h1, if_pos h1]; rfl
 · by_cases h2 : y < x
  · rw [if_pos h2, if_neg h1, if_pos h2]
  · rw [if_neg h2, if_neg h1, if_neg h1, if_neg h2]; rfl
theorem cmpS_neg (s u : ByteArray) : cmpS u s = - cmpS s u := by
 unfold cmpS
 cases h1 : Op.bytesLess s.toList u.toList
 · cases h2 : Op.bytesLess u.toList s.toList <;> simp
 · simp [bl_asym h1]
theorem cmpC_neg (k1 n1 : Int) (t1 : ByteArray) (k2 n2 : Int) (t2 : ByteArray) : cmpC k2 n2 t2 k1 n1 t1 = - cmpC k1 n1 t1 k2 n2 t2 := by
 unfold cmpC or3
 rw [cmpI_neg k1 k2, cmpI_neg n1 n2, cmpS_neg t1 t2]
 by_cases h1 : cmpI k1 k2 = 0 <;> by_cases h2 : cmpI n1 n2 = 0 <;> simp [h1, h2]
theorem cmpI_lt (x y : Int) : cmpI x y < 0 ↔ x < y := by
 unfold cmpI; split
 · omega
 · split <;> omega
theorem cmpI_zero (x y : Int) : cmpI x y = 0 ↔ x = y := by
 unfold cmpI; split
 · omega
 · split <;> omega
theorem cmpS_lt (s u : ByteArray) : cmpS s u < 0 ↔ Op.bytesLess s.toList u.toList = true := by
 unfold cmpS; split
 · rename_i h; simp [h]
 · rename_i h; split <;> simp [h]
theorem cmpS_zero (s u : ByteArray) : cmpS s u = 0 ↔ s = u := by
 unfold cmpS
 cases h1 : Op.bytesLess s.toList u.toList
 · cases h2 : Op.bytesLess u.toList s.toList
  · simp [bl_tri h1 h2]
  · simp; intro e; rw [e, bl_irr] at h2; cases h2
 · simp; intro e; rw [e, bl_irr] at h1; cases h1
theorem less_cmp (k1 n1 : Int) (t1 : ByteArray) (k2 n2 : Int) (t2 : ByteArray) : lessB k1 n1 t1 k2 n2 t2 = decide (cmpC k1 n1 t1 k2 n2 t2 < 0) := by
 unfold lessB cmpC or3
 by_cases h1 : k1 = k2
 · have e1 : ¬ cmpI k1 k2 ≠ 0 := fun e => e ((cmpI_zero k1 k2).2 h1)
  rw [if_neg (by simp [h1]), if_neg e1]
  by_cases h2 : n1 = n2
  · have e2 : ¬ cmpI n1 n2 ≠ 0 := fun e => e ((cmpI_zero n1 n2).2 h2)
   rw [if_neg (by simp [h2]), if_neg e2]
   have := cmpS_lt t1 t2
   cases h : Op.bytesLess t1.toList t2.toList <;> rw [h] at this <;> simp at this <;> simp [this]
  · have e2 : cmpI n1 n2 ≠ 0 := fun e => h2 ((cmpI_zero n1 n2).1 e)
   rw [if_pos (by simp [h2]), if_pos e2, decide_eq_decide.2 (cmpI_lt n1 n2)]
 · have e1 : cmpI k1 k2 ≠ 0 := fun e => h1 ((cmpI_zero k1 k2).1 e)
  rw [if_pos (by simp [h1]), if_pos e1, decide_eq_decide.2 (cmpI_lt k1 k2)]
theorem cmpC_zero (k1 n1 : Int) (t1 : ByteArray) (k2 n2 : Int) (t2 : ByteArray) : cmpC k1 n1 t1 k2 n2 t2 = 0 ↔ k1 = k2 ∧ n1 = n2 ∧ t1 = t2 := by
 unfold cmpC or3
 by_cases h1 : cmpI k1 k2 = 0
 · have e1 := (cmpI_zero k1 k2).1 h1
  rw [if_neg (Decidable.not_not.2 h1)]
  by_cases h2 : cmpI n1 n2 = 0
  · have e2 := (cmpI_zero n1 n2).1 h2
   rw [if_neg (Decidable.not_not.2 h2), cmpS_zero]
   exact ⟨fun h => ⟨e1, e2, h⟩, fun h => h.2.2⟩
  · have e2 : ¬ n1 = n2 := fun e => h2 ((cmpI_zero n1 n2).2 e)
   rw [if_pos h2]
   exact ⟨fun h => absurd h h2, fun h => absurd h.2.1 e2⟩
 · have e1 : ¬ k1 = k2 := fun e => h1 ((cmpI_zero k1 k2).2 e)
  rw [if_pos h1]
  exact ⟨fun h => absurd h h1, fun h => absurd h.1 e1⟩
abbrev CT3 := Int × Int × ByteArray
def lessC (x y : CT3) : Bool := lessB x.1 x.2.1 x.2.2 y.1 y.2.1 y.2.2
theorem lessC_irr (x : CT3) : lessC x x = false := by
 unfold lessC; rw [less_cmp, (cmpC_zero _ _ _ _ _ _).2 ⟨rfl, rfl, rfl⟩]; rfl
theorem lessC_tri {x y : CT3} (h : lessC x y = false) (k : lessC y x = false) : x = y := by
 obtain ⟨a, b, c⟩ := x
 obtain ⟨d, e, f⟩ := y
 unfold lessC at h k
 rw [less_cmp] at h k
 rw [cmpC_neg a b c d e f] at k
 simp only [decide_eq_false_iff_not] at h k
 obtain ⟨rfl, rfl, rfl⟩ := (cmpC_zero a b c d e f).1 (by omega)
 rfl
theorem lessC_trans {x y z : CT3} (h : lessC x y = true) (k : lessC y z = true) : lessC x z = true := by
 obtain ⟨a, b, c⟩ := x
 obtain ⟨d, e, f⟩ := y
 obtain ⟨g, i, j⟩ := z
 unfold lessC lessB at *
 dsimp only at *
 by_cases h1 : a = d
 · subst h1
  by_cases k1 : a = g
  · subst k1
   simp only [bne_self_eq_false, Bool.false_eq_true, if_false] at h k ⊢
   by_cases h2 : b = e
   · subst h2
    by_cases k2 : b = i
    · subst k2
     simp only [bne_self_eq_false, Bool.false_eq_true, if_false] at h k ⊢
     exact bl_trans h k
    · simp [k2] at k ⊢; exact k
   · by_cases k2 : e = i
    · subst k2; simp [h2] at h ⊢; exact h
    · simp [h2] at h
     simp [k2] at k
     simp [show ¬ b = i by omega]; omega
  · simp [k1] at k ⊢; exact k
 · by_cases k1 : d = g
  · subst k1; simp [h1] at h ⊢; exact h
  · simp [h1] at h
   simp [k1] at k
   simp [show ¬ a = g by omega]; omega
theorem lessC_asym {x y : CT3} (h : lessC x y = true) : lessC y x = false := by
 cases k : lessC y x with
 | false => rfl
 | true => have := lessC_trans h k; rw [lessC_irr] at this; cases this
def placeLt (key : Nat → CT3) (down : Bool) (i j : Nat) : Bool :=
 if lessC (key i) (key j) = true then !down else if lessC (key j) (key i) = true then down else decide (i < j)
theorem placeLt_strict (key : Nat → CT3) (down : Bool) (n : Nat) : Strict (placeLt key down) n where
 irr a := by simp [placeLt, lessC_irr]
 tri a b _ _ h k := by
  unfold placeLt at h k
  cases h1 : lessC (key a) (key b)
  · cases h2 : lessC (key b) (key a)
   · simp [h1, h2] at h k; omega
   · rw [h1] at h k; rw [h2] at h k; cases down <;> simp at h k
  · have h2 := lessC_asym h1
   rw [h1] at h k; rw [h2] at h k; cases down <;> simp at h k
 trans a b c h k := by
  unfold placeLt at *
  cases h1 : lessC (key a) (key b)
  · cases h2 : lessC (key b) (key a)
   · have e := lessC_tri h1 h2
    rw [h1, h2] at h
    rw [e]
    cases h3 : lessC (key b) (key c)
    · cases h4 : lessC (key c) (key b)
     · simp [h3, h4] at h k ⊢; omega
     · simp [h3, h4] at h k ⊢; exact k
    · simp [h3] at k ⊢; exact k
   · rw [h1, h2] at h
    simp at h
    subst h
    cases h3 : lessC (key b) (key c)
    · cases h4 : lessC (key c) (key b)
     · have e := lessC_tri h3 h4
      rw [← e]; simp [h1, h2]
     · have := lessC_trans h4 h2
      simp [this, lessC_asym this]
    · simp [h3] at k
  · rw [h1] at h
   simp at h
   subst h
   cases h3 : lessC (key b) (key c)
   · cases h4 : lessC (key c) (key b)
    · have e := lessC_tri h3 h4
     rw [← e]; simp [h1]
    · simp [h3, h4] at k
   · have := lessC_trans h1 h3
    simp [this]
def letB (c : UInt8) : Bool := decide (97 ≤ c.toNat) && decide (c.toNat ≤ 122)
abbrev TT := Int × ByteArray × CK
def zeroC : CK := (0, 0, ⟨#[]⟩)
def signW : List ByteArray := [⟨#[97, 110, 100]⟩, ⟨#[111, 114]⟩, ⟨#[110, 111, 116]⟩, ⟨#[108, 97, 99, 107, 115]⟩]
def signO : List ByteArray := [⟨#[43]⟩, ⟨#[45]⟩, ⟨#[42]⟩, ⟨#[47]⟩, ⟨#[61]⟩, ⟨#[60]⟩, ⟨#[40]⟩, ⟨#[41]⟩]
def signB (s : ByteArray) : Bool := inB signW s || inB signO s
def nameK (s : ByteArray) : Bool := nameB s && (!inB signW s && (decide (s.data.toList ≠ wNone) && (decide (s.data.toList ≠ wYes) && decide (s.data.toList ≠ wNo))))
theorem readB_head {l : List UInt8} {c : CK} (h : readB ⟨l.toArray⟩ = some c) : l = wNone ∨ l = wYes ∨ l = wNo ∨ ∃ b r, l = b :: r ∧ (isDig b = true ∨ b = 45 ∨ b = 39) := by
 obtain ⟨k, n, t⟩ := c
 obtain ⟨ho, e⟩ := readB_some h
 have e' := cellT_ok ho
 rw [e] at e'
 change l = _ at e'
 rcases okB_kind ho with rfl | rfl | rfl | rfl
 · exact .inl e'
 · obtain ⟨b, r, hb, hx⟩ := itoa_head n
  refine .inr (.inr (.inr ⟨b, r, by rw [e', l4T_1, hb], ?_⟩))
  rcases hx with hx | hx
  · exact .inl hx
  · exact .inr (.inl hx)
 · exact .inr (.inr (.inr ⟨39, _, by rw [e', l4T_2], .inr (.inr rfl)⟩))
 · obtain ⟨hn, _⟩ := okB_3 ho
  rcases hn with rfl | rfl
  · exact .inr (.inr (.inl (by rw [e', l4T_30])))
  · exact .inr (.inl (by rw [e', l4T_31]))
theorem letB_dig {c : UInt8} (h : isDig c = true) : letB c = false := by
 unfold isDig at h
 unfold letB
 simp only [Bool.and_eq_true, decide_eq_true_eq] at h
 rw [decide_eq_false (by omega)]; rfl
abbrev TI := Int × CK × ByteArray
def opI (k : Int) : TI := (k, zeroC, ⟨#[]⟩)
def itemB (x : TI) : Bool :=
 if x.1 = 1 then okC x.2.1 && decide (x.2.2 = ⟨#[]⟩) else if x.1 = 2 then nameK x.2.2 && decide (x.2.1 = zeroC) else (decide (3 ≤ x.1) && decide (x.1 ≤ 12)) && decide (x = opI x.1)
def needsI (k : Int) : Nat := if k ≤ 2 then 0 else if 11 ≤ k then 1 else 2
def heapN : List TI → Nat → Option Nat
 | [], n => some n
 | x :: l, n => if itemB x = true ∧ needsI x.1 ≤ n then heapN l (n + 1 - needsI x.1) else none
def sumB (l : List TI) : Bool := decide (heapN l 0 = some 1) && decide (l.length ≤ 40)
inductive Tr where
 | leaf (x : TI)
 | one (k : Int) (t : Tr)
 | two (k : Int) (a b : Tr)
def Tr.post : Tr → List TI
 | .leaf x => [x]
 | .one k t => t.post ++ [opI k]
 | .two k a b => a.post ++ (b.post ++ [opI k])
def Tr.ok : Tr → Prop
 | .leaf x => itemB x = true ∧ (x.1 = 1 ∨ x.1 = 2)
 | .one k t => (k = 11 ∨ k = 12) ∧ t.ok
 | .two k a b => (3 ≤ k ∧ k ≤ 10) ∧ a.ok ∧ b.ok
theorem item_op {x : TI} (h : itemB x = true) (h1 : x.1 ≠ 1) (h2 : x.1 ≠ 2) : 3 ≤ x.1 ∧ x.1 ≤ 12 ∧ x = opI x.1 := by
 unfold itemB at h
 rw [if_neg h1, if_neg h2] at h
 simp only [Bool.and_eq_true, decide_eq_true_eq] at h
 exact ⟨h.1.1, h.1.2, h.2⟩
theorem heapN_append (l m : List TI) (n : Nat) : heapN (l ++ m) n = (heapN l n).bind (heapN m) := by
 induction l generalizing n with
 | nil => rfl
 | cons x l ih =>
  rw [List.cons_append]
  unfold heapN
  split
  · exact ih _
  · rfl
def sgn (k : Int) : ByteArray :=
 if k = 3 then ⟨#[43]⟩ else if k = 4 then ⟨#[45]⟩ else if k = 5 then ⟨#[42]⟩ else if k = 6 then ⟨#[47]⟩ else if k = 7 then ⟨#[61]⟩ else if k = 8 then ⟨#[60]⟩ else if k = 9 then ⟨#[97, 110, 100]⟩ else if k = 10 then ⟨#[111, 114]⟩ else if k = 11 then ⟨#[110, 111, 116]⟩ else ⟨#[108, 97, 99, 107, 115]⟩
def sgnT (k : Int) : TT := (3, sgn k, zeroC)
def blt (x y : ByteArray) : Bool := Op.bytesLess x.toList y.toList
def putN : List ByteArray → ByteArray → List ByteArray
 | [], s => [s]
 | x :: L, s => if blt x s = true then x :: putN L s else if x = s then x :: L else s :: x :: L
theorem mem_putN {L : List ByteArray} {s y : ByteArray} : y ∈ putN L s ↔ y = s ∨ y ∈ L := by
 induction L with
 | nil => simp [putN]
 | cons x L ih =>
  unfold putN
  split
  · rw [List.mem_cons, ih, List.mem_cons]
   exact ⟨fun h => by rcases h with h | h | h <;> simp [h], fun h => by rcases h with h | h | h <;> simp [h]⟩
  · split
   · rename_i h
    rw [List.mem_cons, ← h]
    exact ⟨fun h => .inr h, fun h => by rcases h with h | h; exact .inl h; exact h⟩
   · rw [List.mem_cons]
theorem putN_rises {L : List ByteArray} {s : ByteArray} (h : L.Pairwise (fun x y => blt x y = true)) : (putN L s).Pairwise (fun x y => blt x y = true) := by
 induction L with
 | nil => exact List.pairwise_singleton _ _
 | cons x L ih =>
  rw [List.pairwise_cons] at h
  unfold putN
  split
  · rename_i hx
   rw [List.pairwise_cons]
   refine ⟨fun y hy => ?_, ih h.2⟩
   rcases mem_putN.1 hy with rfl | hy
   · exact hx
   · exact h.1 y hy
  · rename_i hx
   split
   · rw [List.pairwise_cons]; exact h
   · rename_i hne
    have hsx : blt s x = true := by
     cases hq : blt s x with
     | true => rfl
     | false =>
      exfalso
      have h1 : blt x s = false := by
       cases hz : blt x s with
       | true => exact absurd hz hx
       | false => rfl
      exact hne (bl_tri h1 hq)
    rw [List.pairwise_cons, List.pairwise_cons]
    refine ⟨fun y hy => ?_, h⟩
    rcases List.mem_cons.1 hy with rfl | hy
    · exact hsx
    · exact bl_trans hsx (h.1 y hy)
def namesN (l : List TI) : List ByteArray := l.foldl (fun L x => if x.1 = 2 then putN L x.2.2 else L) []
theorem putN_length (L : List ByteArray) (s : ByteArray) : (putN L s).length ≤ L.length + 1 := by
 induction L with
 | nil => exact Nat.le_refl _
 | cons x L ih =>
  unfold putN
  split
  · simp only [List.length_cons]; omega
  · split
   · simp
   · simp
def namesR (l : List TI) : List ByteArray := if sumB l = true then namesN l else []
theorem namesN_rises (l : List TI) : (namesN l).Pairwise (fun x y => blt x y = true) := by
 suffices h : ∀ (l : List TI) (L : List ByteArray), L.Pairwise (fun x y => blt x y = true) → (l.foldl (fun L x => if x.1 = 2 then putN L x.2.2 else L) L).Pairwise (fun x y => blt x y = true) from h l [] List.Pairwise.nil
 intro l
 induction l with
 | nil => intro L h; exact h
 | cons x l ih =>
  intro L h
  rw [List.foldl_cons]
  apply ih
  split
  · exact putN_rises h
  · exact h
theorem mem_namesN (l : List TI) (y : ByteArray) : y ∈ namesN l ↔ ∃ x ∈ l, x.1 = 2 ∧ x.2.2 = y := by
 suffices h : ∀ (l : List TI) (L : List ByteArray), y ∈ (l.foldl (fun L x => if x.1 = 2 then putN L x.2.2 else L) L) ↔ y ∈ L ∨ ∃ x ∈ l, x.1 = 2 ∧ x.2.2 = y by
  have := h l []
  simpa [namesN] using this
 intro l
 induction l with
 | nil => intro L; simp
 | cons x l ih =>
  intro L
  rw [List.foldl_cons, ih]
  by_cases h2 : x.1 = 2
  · rw [if_pos h2, mem_putN]
   constructor
   · rintro ((rfl | h) | ⟨z, hz, h⟩)
    · exact .inr ⟨x, by simp, h2, rfl⟩
    · exact .inl h
    · exact .inr ⟨z, by simp [hz], h⟩
   · rintro (h | ⟨z, hz, h⟩)
    · exact .inl (.inr h)
    · rcases List.mem_cons.1 hz with rfl | hz
     · exact .inl (.inl h.2.symm)
     · exact .inr ⟨z, hz, h⟩
  · rw [if_neg h2]
   constructor
   · rintro (h | ⟨z, hz, h⟩)
    · exact .inl h
    · exact .inr ⟨z, by simp [hz], h⟩
   · rintro (h | ⟨z, hz, h⟩)
    · exact .inl h
    · rcases List.mem_cons.1 hz with rfl | hz
     · exact absurd h.1 h2
     · exact .inr ⟨z, hz, h⟩
end Go.Proofs.YtjjkdbmjloolaaaGreatDoor
namespace Go.Proofs.YtjjkdbmjloolaaaGreatDoor
open Go.ChangeShapes Go.WideShapes Go.ChangeAt Go.RowKit
attribute [local go_sem ↓] Go.wp_at_zero Go.wp_at_succ
attribute [local simp] World.cell?_alloc_past World.cell?_alloc_at World.frozen?_alloc_at cell_far cell_off cell_here World.frozen?_alloc_past
def TokAt (w : World) (a : Option Addr) (l : List TT) : Prop :=
 ∀ j (h : j < l.length), ∃ b o, a = some ⟨b, o, none⟩ ∧ b < w.heap.size ∧ w.cell? ⟨b, o + j * 5, none⟩ = some (.int .i64 l[j].1) ∧ w.cell? ⟨b, o + j * 5 + 1, none⟩ = some (.string l[j].2.1) ∧ w.cell? ⟨b, o + j * 5 + 2, none⟩ = some (.int .i64 l[j].2.2.1) ∧ w.cell? ⟨b, o + j * 5 + 3, none⟩ = some (.int .i64 l[j].2.2.2.1) ∧ w.cell? ⟨b, o + j * 5 + 4, none⟩ = some (.string l[j].2.2.2.2)
theorem TokAt.below {w w' : World} {a : Option Addr} {l : List TT} (h : TokAt w a l) (hb : Below w.heap.size w w') : TokAt w' a l := by
 intro j hj
 obtain ⟨b, o, ha, hlt, c0, c1, c2, c3, c4⟩ := h j hj
 refine ⟨b, o, ha, Nat.lt_of_lt_of_le hlt hb.size, ?_, ?_, ?_, ?_, ?_⟩
 · rw [hb.cell (p := ⟨b, _, none⟩) hlt]; exact c0
 · rw [hb.cell (p := ⟨b, _, none⟩) hlt]; exact c1
 · rw [hb.cell (p := ⟨b, _, none⟩) hlt]; exact c2
 · rw [hb.cell (p := ⟨b, _, none⟩) hlt]; exact c3
 · rw [hb.cell (p := ⟨b, _, none⟩) hlt]; exact c4
theorem five {w : World} {b : Nat} {a0 a1 a2 a3 a4 : Value} (v0 v1 v2 v3 v4 : Value) (h0 : w.cell? ⟨b, 0, none⟩ = some a0) (h1 : w.cell? ⟨b, 1, none⟩ = some a1) (h2 : w.cell? ⟨b, 2, none⟩ = some a2) (h3 : w.cell? ⟨b, 3, none⟩ = some a3) (h4 : w.cell? ⟨b, 4, none⟩ = some a4) :
  (((((w.setCell ⟨b, 0, none⟩ v0).setCell ⟨b, 1, none⟩ v1).setCell ⟨b, 2, none⟩ v2).setCell ⟨b, 3, none⟩ v3).setCell ⟨b, 4, none⟩ v4).cell? ⟨b, 0, none⟩ = some v0 ∧ (((((w.setCell ⟨b, 0, none⟩ v0).setCell ⟨b, 1, none⟩ v1).setCell ⟨b, 2, none⟩ v2).setCell ⟨b, 3, none⟩ v3).setCell ⟨b, 4, none⟩ v4).cell? ⟨b, 1, none⟩ = some v1 ∧ (((((w.setCell ⟨b, 0, none⟩ v0).setCell ⟨b, 1, none⟩ v1).setCell ⟨b, 2, none⟩ v2).setCell ⟨b, 3, none⟩ v3).setCell ⟨b, 4, none⟩ v4).cell? ⟨b, 2, none⟩ = some v2 ∧ (((((w.setCell ⟨b, 0, none⟩ v0).setCell ⟨b, 1, none⟩ v1).setCell ⟨b, 2, none⟩ v2).setCell ⟨b, 3, none⟩ v3).setCell ⟨b, 4, none⟩ v4).cell? ⟨b, 3, none⟩ = some v3 ∧ (((((w.setCell ⟨b, 0, none⟩ v0).setCell ⟨b, 1, none⟩ v1).setCell ⟨b, 2, none⟩ v2).setCell ⟨b, 3, none⟩ v3).setCell ⟨b, 4, none⟩ v4).cell? ⟨b, 4, none⟩ = some v4 := by
 refine ⟨?_, ?_, ?_, ?_, ?_⟩
 · rw [cell_off _ _ _ _ _ (by omega), cell_off _ _ _ _ _ (by omega), cell_off _ _ _ _ _ (by omega), cell_off _ _ _ _ _ (by omega), cell_here _ _ _ _ (by rw [h0]; rfl)]
 · rw [cell_off _ _ _ _ _ (by omega), cell_off _ _ _ _ _ (by omega), cell_off _ _ _ _ _ (by omega), cell_here _ _ _ _ (by rw [cell_off _ _ _ _ _ (by omega), h1]; rfl)]
 · rw [cell_off _ _ _ _ _ (by omega), cell_off _ _ _ _ _ (by omega), cell_here _ _ _ _ (by rw [cell_off _ _ _ _ _ (by omega), cell_off _ _ _ _ _ (by omega), h2]; rfl)]
 · rw [cell_off _ _ _ _ _ (by omega), cell_here _ _ _ _ (by rw [cell_off _ _ _ _ _ (by omega), cell_off _ _ _ _ _ (by omega), cell_off _ _ _ _ _ (by omega), h3]; rfl)]
 · rw [cell_here _ _ _ _ (by rw [cell_off _ _ _ _ _ (by omega), cell_off _ _ _ _ _ (by omega), cell_off _ _ _ _ _ (by omega), cell_off _ _ _ _ _ (by omega), h4]; rfl)]
end Go.Proofs.YtjjkdbmjloolaaaGreatDoor
