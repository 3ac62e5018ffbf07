/-
  Lists in heap order, without any program: what moves up or down one step keeps all but one place right, the first one is the least.
-/
import Derived.WalkKit
namespace Go.Proofs.Ytdmiiklegnokjaa

/-- A strict order in which of two one is less, or they are one. -/
structure Strict (lt : Nat → Nat → Bool) (n : Nat) : Prop where
  irr : ∀ a, lt a a = false
  tri : ∀ a b, a < n → b < n → lt a b = false → lt b a = false → a = b
  trans : ∀ a b c, lt a b = true → lt b c = true → lt a c = true

theorem Strict.asym {lt : Nat → Nat → Bool} {n : Nat} (S : Strict lt n) {a b : Nat} (h : lt a b = true) : lt b a = false := by
  cases hb : lt b a with
  | false => rfl
  | true => have := S.trans a b a h hb; rw [S.irr] at this; cases this
/-- What is not less, twice. -/
theorem Strict.neg {lt : Nat → Nat → Bool} {n : Nat} (S : Strict lt n) {a b c : Nat} (ha : a < n) (hb : b < n) (h1 : lt a b = false) (h2 : lt b c = false) : lt a c = false := by
  cases hc : lt a c with
  | false => rfl
  | true =>
    cases hba : lt b a with
    | true => have := S.trans b a c hba hc; rw [h2] at this; cases this
    | false => have e := S.tri a b ha hb h1 hba; subst e; rw [h2] at hc; cases hc

/-- The first n are in heap order. -/
def Heap (lt : Nat → Nat → Bool) (s : List Nat) (n : Nat) : Prop := ∀ i, 0 < i → i < n → lt (s.getD i 0) (s.getD ((i - 1) / 2) 0) = false
/-- So are they but for place j, which may be too low. -/
def UpAt (lt : Nat → Nat → Bool) (s : List Nat) (n j : Nat) : Prop :=
  (∀ i, 0 < i → i < n → i ≠ j → lt (s.getD i 0) (s.getD ((i - 1) / 2) 0) = false) ∧
  (∀ i, 0 < i → i < n → (i - 1) / 2 = j → 0 < j → lt (s.getD i 0) (s.getD ((j - 1) / 2) 0) = false)
/-- So are they but for place j, which may be too high. -/
def DownAt (lt : Nat → Nat → Bool) (s : List Nat) (n j : Nat) : Prop :=
  (∀ i, 0 < i → i < n → (i - 1) / 2 ≠ j → lt (s.getD i 0) (s.getD ((i - 1) / 2) 0) = false) ∧
  (∀ i, 0 < i → i < n → (i - 1) / 2 = j → 0 < j → lt (s.getD i 0) (s.getD ((j - 1) / 2) 0) = false)

/-- Two change places. -/
def swap {α : Type} (d : α) (s : List α) (i j : Nat) : List α := (s.set i (s.getD j d)).set j (s.getD i d)
theorem swap_length {α : Type} (d : α) (s : List α) (i j : Nat) : (swap d s i j).length = s.length := by simp [swap]
theorem swap_getD {α : Type} (d : α) (s : List α) (i j k : Nat) (hi : i < s.length) (hj : j < s.length) : (swap d s i j).getD k d = if k = j then s.getD i d else if k = i then s.getD j d else s.getD k d := by
  unfold swap
  simp only [List.getD_eq_getElem?_getD, List.getElem?_set, List.length_set]
  by_cases h1 : j = k
  · subst h1; simp [hj]
  · by_cases h2 : i = k
    · subst h2; simp [h1, hi, Ne.symm h1]
    · simp [h1, h2, Ne.symm h1, Ne.symm h2]
theorem swap_perm {α : Type} (d : α) (s : List α) (i j : Nat) (hi : i < s.length) (hj : j < s.length) : (swap d s i j).Perm s := by
  have := List.set_set_perm («as» := s) hi hj
  simpa [swap, List.getD, List.getElem?_eq_getElem hi, List.getElem?_eq_getElem hj] using this

theorem mem_lt {s : List Nat} {N i : Nat} (h : ∀ x ∈ s, x < N) (hi : i < s.length) : s.getD i 0 < N := by
  have : s.getD i 0 ∈ s := by simp [List.getD, List.getElem?_eq_getElem hi]
  exact h _ this

theorem UpAt.start {lt : Nat → Nat → Bool} {s : List Nat} {n : Nat} (h : Heap lt s n) : UpAt lt s (n + 1) n :=
  ⟨fun i h0 hi hne => h i h0 (by omega), fun i h0 hi hp hj => by omega⟩
theorem UpAt.done0 {lt : Nat → Nat → Bool} {s : List Nat} {n : Nat} (h : UpAt lt s n 0) : Heap lt s n := fun i h0 hi => h.1 i h0 hi (by omega)
theorem UpAt.done {lt : Nat → Nat → Bool} {s : List Nat} {n j : Nat} (h : UpAt lt s n j) (hj : lt (s.getD j 0) (s.getD ((j - 1) / 2) 0) = false) : Heap lt s n := by
  intro i h0 hi
  by_cases e : i = j
  · subst e; exact hj
  · exact h.1 i h0 hi e
theorem UpAt.step {lt : Nat → Nat → Bool} {s : List Nat} {n j N : Nat} (S : Strict lt N) (hs : ∀ x ∈ s, x < N) (hn : n ≤ s.length) (hjn : j < n) (h0 : 0 < j) (h : UpAt lt s n j) (hj : lt (s.getD j 0) (s.getD ((j - 1) / 2) 0) = true) :
    UpAt lt (swap 0 s ((j - 1) / 2) j) n ((j - 1) / 2) := by
  obtain ⟨p, hp⟩ : ∃ p, (j - 1) / 2 = p := ⟨_, rfl⟩
  rw [hp] at hj ⊢
  have hpj : p < j := by omega
  have hpl : p < s.length := by omega
  have hjl : j < s.length := by omega
  obtain ⟨A, B⟩ := h
  refine ⟨fun i i0 hi hne => ?_, fun i i0 hi hpar hp0 => ?_⟩
  · rw [swap_getD _ _ _ _ _ hpl hjl, swap_getD _ _ _ _ _ hpl hjl]
    by_cases e1 : i = j
    · subst e1
      rw [if_pos rfl, hp, if_neg (by omega), if_pos rfl]
      exact S.asym hj
    · rw [if_neg e1, if_neg hne]
      have A1 := A i i0 hi e1
      by_cases e2 : (i - 1) / 2 = j
      · rw [if_pos e2]
        have := B i i0 hi e2 h0
        rwa [hp] at this
      · rw [if_neg e2]
        by_cases e3 : (i - 1) / 2 = p
        · rw [if_pos e3]
          rw [e3] at A1
          cases hc : lt (s.getD i 0) (s.getD j 0) with
          | false => rfl
          | true => have := S.trans _ _ _ hc hj; rw [A1] at this; cases this
        · rw [if_neg e3]; exact A1
  · have App := A p hp0 (by omega) (by omega)
    rw [swap_getD _ _ _ _ _ hpl hjl, swap_getD _ _ _ _ _ hpl hjl, if_neg (by omega : ¬ (p - 1) / 2 = j), if_neg (by omega : ¬ (p - 1) / 2 = p)]
    by_cases e1 : i = j
    · rw [if_pos e1]; exact App
    · rw [if_neg e1, if_neg (by omega)]
      have A1 := A i i0 hi e1
      rw [hpar] at A1
      exact S.neg (mem_lt hs (by omega)) (mem_lt hs (by omega)) A1 App

theorem DownAt.start {lt : Nat → Nat → Bool} {s s' : List Nat} {n : Nat} (h : Heap lt s (n + 1)) (hs : ∀ i, 0 < i → i < n → s'.getD i 0 = s.getD i 0) : DownAt lt s' n 0 := by
  refine ⟨fun i h0 hi hne => ?_, fun i h0 hi hp hj => by omega⟩
  rw [hs i h0 hi, hs _ (by omega) (by omega)]
  exact h i h0 (by omega)
theorem DownAt.done {lt : Nat → Nat → Bool} {s : List Nat} {n j : Nat} (h : DownAt lt s n j) (h1 : 2 * j + 1 < n → lt (s.getD (2 * j + 1) 0) (s.getD j 0) = false) (h2 : 2 * j + 2 < n → lt (s.getD (2 * j + 2) 0) (s.getD j 0) = false) : Heap lt s n := by
  intro i h0 hi
  by_cases e : (i - 1) / 2 = j
  · rcases (show i = 2 * j + 1 ∨ i = 2 * j + 2 by omega) with rfl | rfl
    · rw [e]; exact h1 hi
    · rw [e]; exact h2 hi
  · exact h.1 i h0 hi e
/-- The lesser one c of those below j goes up. -/
theorem DownAt.step {lt : Nat → Nat → Bool} {s : List Nat} {n j c N : Nat} (S : Strict lt N) (hn : n ≤ s.length) (hc : c < n) (hcj : c = 2 * j + 1 ∨ c = 2 * j + 2) (h : DownAt lt s n j)
    (hl : lt (s.getD c 0) (s.getD j 0) = true) (hleast : ∀ d, d = 2 * j + 1 ∨ d = 2 * j + 2 → d < n → lt (s.getD d 0) (s.getD c 0) = false) :
    DownAt lt (swap 0 s j c) n c := by
  have hjl : j < s.length := by omega
  have hcl : c < s.length := by omega
  obtain ⟨A, B⟩ := h
  refine ⟨fun i i0 hi hne => ?_, fun i i0 hi hpar hp0 => ?_⟩
  · rw [swap_getD _ _ _ _ _ hjl hcl, swap_getD _ _ _ _ _ hjl hcl, if_neg hne]
    by_cases e1 : i = c
    · rw [if_pos e1, if_pos (by omega)]
      exact S.asym hl
    · rw [if_neg e1]
      by_cases e2 : i = j
      · rw [if_pos e2, if_neg (by omega)]
        have := B c (by omega) hc (by omega) (by omega)
        rwa [e2]
      · rw [if_neg e2]
        by_cases e3 : (i - 1) / 2 = j
        · rw [if_pos e3]; exact hleast i (by omega) hi
        · rw [if_neg e3]; exact A i i0 hi e3
  · have Ai := A i i0 hi (by omega)
    rw [swap_getD _ _ _ _ _ hjl hcl, swap_getD _ _ _ _ _ hjl hcl, if_neg (by omega), if_neg (by omega), if_neg (by omega), if_pos (by omega)]
    rw [hpar] at Ai; exact Ai

/-- Of a heap the first one is the least. -/
theorem Heap.least {lt : Nat → Nat → Bool} {s : List Nat} {n N : Nat} (S : Strict lt N) (hs : ∀ x ∈ s, x < N) (hn : n ≤ s.length) (h : Heap lt s n) : ∀ k i, i ≤ k → i < n → lt (s.getD i 0) (s.getD 0 0) = false := by
  intro k
  induction k with
  | zero => intro i hi hin; have : i = 0 := by omega
            subst this; exact S.irr _
  | succ k ih =>
    intro i hi hin
    by_cases e : i = 0
    · subst e; exact S.irr _
    · exact S.neg (mem_lt hs (by omega)) (mem_lt hs (by omega)) (h i (by omega) hin) (ih _ (by omega) (by omega))

/-- In order, and all there: there is but one such list. -/
theorem one_order {lt : Nat → Nat → Bool} {N : Nat} (S : Strict lt N) {a b : List Nat} (ha : a.Perm (List.range N)) (hb : b.Perm (List.range N)) (pa : a.Pairwise (fun x y => lt y x = false)) (pb : b.Pairwise (fun x y => lt y x = false)) : a = b := by
  refine List.Perm.eq_of_pairwise (le := fun x y => lt y x = false) ?_ pa pb (ha.trans hb.symm)
  intro x y hx hy h1 h2
  have hx' : x < N := by simpa using (ha.mem_iff.1 hx)
  have hy' : y < N := by simpa using (hb.mem_iff.1 hy)
  exact S.tri x y hx' hy' h2 h1

end Go.Proofs.Ytdmiiklegnokjaa
