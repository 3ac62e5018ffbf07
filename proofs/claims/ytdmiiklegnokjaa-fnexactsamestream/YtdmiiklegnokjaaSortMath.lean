/-
  Places put in order one by one, without any program: what is moved towards the front, and when all is in order.
-/
import Derived.Test.YtdmiiklegnokjaaOrder
namespace Go.Proofs.Ytdmiiklegnokjaa

/-- The first m are in order. -/
def SortedTo (lt : Nat → Nat → Bool) (p : List Nat) (m : Nat) : Prop := ∀ x y, x < y → y < m → lt (p.getD y 0) (p.getD x 0) = false
/-- So are those up to i but for place k, which may be too far behind. -/
def InsAt (lt : Nat → Nat → Bool) (p : List Nat) (i k : Nat) : Prop :=
  (∀ x y, x < y → y ≤ i → x ≠ k → y ≠ k → lt (p.getD y 0) (p.getD x 0) = false) ∧ (∀ y, k < y → y ≤ i → lt (p.getD y 0) (p.getD k 0) = false)
/-- Who stands where: i at place k, lesser ones up to i, and behind it each one at its own. -/
def PlAt (p : List Nat) (n i k : Nat) : Prop := p.getD k 0 = i ∧ (∀ x, x ≤ i → x ≠ k → p.getD x 0 < i) ∧ (∀ x, i < x → x < n → p.getD x 0 = x)

theorem InsAt.start {lt : Nat → Nat → Bool} {p : List Nat} {i : Nat} (h : SortedTo lt p i) : InsAt lt p i i :=
  ⟨fun x y hxy hy _ hyk => h x y hxy (by omega), fun y h1 h2 => by omega⟩
theorem InsAt.done {lt : Nat → Nat → Bool} {p : List Nat} {i k N : Nat} (S : Strict lt N) (hp : ∀ x ∈ p, x < N) (hi : i < p.length) (hk : k ≤ i) (h : InsAt lt p i k) (hd : k = 0 ∨ lt (p.getD k 0) (p.getD (k - 1) 0) = false) : SortedTo lt p (i + 1) := by
  intro x y hxy hy
  by_cases e1 : x = k
  · subst e1; exact h.2 y hxy (by omega)
  · by_cases e2 : y = k
    · subst e2
      rcases hd with rfl | hd
      · omega
      · by_cases e3 : x = y - 1
        · subst e3; exact hd
        · exact S.neg (mem_lt hp (by omega)) (mem_lt hp (by omega)) hd (h.1 x (y - 1) (by omega) (by omega) (by omega) (by omega))
    · exact h.1 x y hxy (by omega) e1 e2
theorem InsAt.step {lt : Nat → Nat → Bool} {p : List Nat} {i k N : Nat} (S : Strict lt N) (hi : i < p.length) (hk : k ≤ i) (h0 : 0 < k) (h : InsAt lt p i k) (hl : lt (p.getD k 0) (p.getD (k - 1) 0) = true) : InsAt lt (swap 0 p (k - 1) k) i (k - 1) := by
  have h1 : k - 1 < p.length := by omega
  have h2 : k < p.length := by omega
  refine ⟨fun x y hxy hy hx hyk => ?_, fun y hy hyi => ?_⟩
  · rw [swap_getD _ _ _ _ _ h1 h2, swap_getD _ _ _ _ _ h1 h2, if_neg hx, if_neg hyk]
    by_cases e1 : y = k
    · subst e1
      rw [if_pos rfl, if_neg (by omega)]
      exact h.1 x (y - 1) (by omega) (by omega) (by omega) (by omega)
    · rw [if_neg e1]
      by_cases e2 : x = k
      · subst e2
        rw [if_pos rfl]
        exact h.1 (x - 1) y (by omega) (by omega) (by omega) (by omega)
      · rw [if_neg e2]
        exact h.1 x y hxy hy e2 e1
  · rw [swap_getD _ _ _ _ _ h1 h2, swap_getD _ _ _ _ _ h1 h2, if_neg (by omega : ¬ k - 1 = k), if_pos rfl]
    by_cases e1 : y = k
    · subst e1
      rw [if_pos rfl]
      exact S.asym hl
    · rw [if_neg e1, if_neg (by omega)]
      exact h.2 y (by omega) hyi
theorem PlAt.step {p : List Nat} {n i k : Nat} (hi : i < p.length) (hk : k ≤ i) (h0 : 0 < k) (h : PlAt p n i k) : PlAt (swap 0 p (k - 1) k) n i (k - 1) := by
  have h1 : k - 1 < p.length := by omega
  have h2 : k < p.length := by omega
  refine ⟨?_, fun x hx hxk => ?_, fun x hx hxn => ?_⟩
  · rw [swap_getD _ _ _ _ _ h1 h2, if_neg (by omega), if_pos rfl]; exact h.1
  · rw [swap_getD _ _ _ _ _ h1 h2]
    by_cases e1 : x = k
    · rw [if_pos e1]; exact h.2.1 (k - 1) (by omega) (by omega)
    · rw [if_neg e1, if_neg hxk]; exact h.2.1 x hx e1
  · rw [swap_getD _ _ _ _ _ h1 h2, if_neg (by omega), if_neg (by omega)]; exact h.2.2 x hx hxn

theorem SortedTo.pairwise {lt : Nat → Nat → Bool} {p : List Nat} (h : SortedTo lt p p.length) : p.Pairwise (fun x y => lt y x = false) := by
  rw [List.pairwise_iff_getElem]
  intro i j hi hj hij
  have := h i j hij hj
  simpa [List.getD, List.getElem?_eq_getElem hi, List.getElem?_eq_getElem hj] using this

/-- The cell of a row by which it is put in order. -/
def keyOf (L : List (List CT3)) (at_ : Int) (i : Nat) : CT3 := (L.getD i []).getD at_.toNat (0, 0, ⟨#[]⟩)
/-- Has each row that place? -/
def Reach (L : List (List CT3)) (at_ : Int) : Prop := ∀ i (h : i < L.length), 0 ≤ at_ ∧ at_ < (L[i].length : Int)
/-- The places of the rows in the order that is asked for; as they are where one has no such place. -/
structure IsOrder (L : List (List CT3)) (at_ : Int) (down : Bool) (p : List Nat) : Prop where
  perm : p.Perm (List.range L.length)
  inOrder : Reach L at_ → p.Pairwise (fun x y => placeLt (keyOf L at_) down y x = false)
  asTheyAre : ¬ Reach L at_ → p = List.range L.length
theorem IsOrder.one {L : List (List CT3)} {at_ : Int} {down : Bool} {p q : List Nat} (h : IsOrder L at_ down p) (k : IsOrder L at_ down q) : p = q := by
  by_cases hr : Reach L at_
  · exact one_order (placeLt_strict (keyOf L at_) down L.length) h.perm k.perm (h.inOrder hr) (k.inOrder hr)
  · rw [h.asTheyAre hr, k.asTheyAre hr]

/-- The rows at these places. -/
def rowsOf (L : List (List CT3)) (p : List Nat) : List (List CT3) := p.map fun i => L.getD i []
theorem rowsOf_length (L : List (List CT3)) (p : List Nat) : (rowsOf L p).length = p.length := by simp [rowsOf]
theorem rowsOf_range (L : List (List CT3)) : rowsOf L (List.range L.length) = L := by
  apply List.ext_getElem
  · simp [rowsOf]
  · intro i h1 h2; simp [rowsOf, List.getD, List.getElem?_eq_getElem h2]
theorem rowsOf_getD (L : List (List CT3)) (p : List Nat) (k : Nat) (hk : k < p.length) : (rowsOf L p).getD k [] = L.getD (p.getD k 0) [] := by
  simp [rowsOf, List.getD, List.getElem?_eq_getElem hk]
theorem rowsOf_swap (L : List (List CT3)) (p : List Nat) (i j : Nat) (hi : i < p.length) (hj : j < p.length) : swap [] (rowsOf L p) i j = rowsOf L (swap 0 p i j) := by
  apply List.ext_getElem
  · simp [rowsOf, swap]
  · intro k h1 h2
    have hk : k < p.length := by simpa [rowsOf, swap] using h1
    have e1 : (swap [] (rowsOf L p) i j)[k] = (swap [] (rowsOf L p) i j).getD k [] := by simp [List.getD, List.getElem?_eq_getElem h1]
    have e2 : (rowsOf L (swap 0 p i j))[k] = (rowsOf L (swap 0 p i j)).getD k [] := by simp [List.getD, List.getElem?_eq_getElem h2]
    rw [e1, e2, swap_getD _ _ _ _ _ (by simpa [rowsOf] using hi) (by simpa [rowsOf] using hj), rowsOf_getD L (swap 0 p i j) k (by simpa [swap] using hk), swap_getD 0 p i j k hi hj, rowsOf_getD L p i hi, rowsOf_getD L p j hj, rowsOf_getD L p k hk]
    by_cases e3 : k = j
    · simp [e3]
    · by_cases e4 : k = i
      · subst e4; simp [e3]
      · simp [e3, e4]

/-- The question whether i goes ahead of one that comes before it is that of their cells alone. -/
theorem placeLt_before (key : Nat → CT3) (down : Bool) (i j : Nat) (h : j < i) : placeLt key down i j = if down = true then lessC (key j) (key i) else lessC (key i) (key j) := by
  unfold placeLt
  cases h1 : lessC (key i) (key j)
  · cases h2 : lessC (key j) (key i)
    · cases down <;> simp <;> omega
    · cases down <;> simp
  · rw [lessC_asym h1]; cases down <;> simp

end Go.Proofs.Ytdmiiklegnokjaa
