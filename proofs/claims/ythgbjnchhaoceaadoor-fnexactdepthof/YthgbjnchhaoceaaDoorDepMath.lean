/-
  The depth of a sum without any program: the most that lie there at once.
-/
import Derived.Test.YthgbjnchhaoceaaDoorItmMath
namespace Go.Proofs.YthgbjnchhaoceaaDoor

/-- The most that lie there at once, from n that lie there, where a was the most up to now. -/
def depF : List TI → Nat → Nat → Nat
  | [], _, a => a
  | x :: l, n, a => depF l (n + 1 - needsI x.1) (max a (n + 1 - needsI x.1))
/-- How many lie there at the end. -/
def highF : List TI → Nat → Nat
  | [], n => n
  | x :: l, n => highF l (n + 1 - needsI x.1)
/-- What DepthOf answers. -/
def depthR (l : List TI) : Nat := if sumB l = true then depF l 0 0 else 0
theorem depF_append : ∀ (l m : List TI) (n a : Nat), depF (l ++ m) n a = depF m (highF l n) (depF l n a)
  | [], _, _, _ => rfl
  | x :: l, m, n, a => depF_append l m (n + 1 - needsI x.1) (max a (n + 1 - needsI x.1))
theorem highF_append : ∀ (l m : List TI) (n : Nat), highF (l ++ m) n = highF m (highF l n)
  | [], _, _ => rfl
  | x :: l, m, n => highF_append l m (n + 1 - needsI x.1)
theorem heap_high : ∀ (l : List TI) (n h : Nat), heapN l n = some h → highF l n = h
  | [], n, h, e => by
    have e' : some n = some h := e
    cases e'; rfl
  | x :: l, n, h, e => by
    unfold heapN at e
    split at e
    · exact heap_high l _ h e
    · cases e
theorem depF_max : ∀ (l : List TI) (n a : Nat), depF l n a = max a (depF l n 0)
  | [], _, a => by show a = max a 0; omega
  | x :: l, n, a => by
    show depF l (n + 1 - needsI x.1) (max a (n + 1 - needsI x.1)) = max a (depF l (n + 1 - needsI x.1) (max 0 (n + 1 - needsI x.1)))
    rw [depF_max l _ (max a _), depF_max l _ (max 0 _)]
    omega
theorem depF_shift : ∀ (l : List TI) (n a h k : Nat), heapN l n = some h → depF l (n + k) (a + k) = depF l n a + k
  | [], _, _, _, _, _ => rfl
  | x :: l, n, a, h, k, e => by
    unfold heapN at e
    split at e
    · rename_i hc
      show depF l (n + k + 1 - needsI x.1) (max (a + k) (n + k + 1 - needsI x.1)) = depF l (n + 1 - needsI x.1) (max a (n + 1 - needsI x.1)) + k
      have h1 : n + k + 1 - needsI x.1 = (n + 1 - needsI x.1) + k := by have := hc.2; omega
      have h2 : max (a + k) ((n + 1 - needsI x.1) + k) = max a (n + 1 - needsI x.1) + k := by omega
      rw [h1, h2]
      exact depF_shift l _ _ h k e
    · cases e
theorem depF_high : ∀ (l : List TI) (n a : Nat), n ≤ a → highF l n ≤ depF l n a
  | [], _, _, h => h
  | x :: l, n, a, _ => depF_high l _ _ (by omega)
theorem sum_heap {l : List TI} (h : sumB l = true) : heapN l 0 = some 1 ∧ l.length ≤ 40 := by
  unfold sumB at h
  simpa using h
theorem depth_pos {l : List TI} (h : sumB l = true) : 1 ≤ depthR l := by
  unfold depthR
  rw [if_pos h]
  have := depF_high l 0 0 (Nat.le_refl _)
  rw [heap_high l 0 1 (sum_heap h).1] at this
  exact this
theorem depF_le : ∀ (l : List TI) (n a : Nat), depF l n a ≤ max a (n + l.length)
  | [], _, _ => by show _ ≤ max _ _; unfold depF; omega
  | x :: l, n, a => by
    have := depF_le l (n + 1 - needsI x.1) (max a (n + 1 - needsI x.1))
    show depF l (n + 1 - needsI x.1) (max a (n + 1 - needsI x.1)) ≤ _
    simp only [List.length_cons]
    omega
theorem depth_le {l : List TI} : depthR l ≤ 40 := by
  unfold depthR
  split
  · rename_i h
    have := depF_le l 0 0
    have := (sum_heap h).2
    omega
  · omega
/-- Two sums side by side are a sum. -/
theorem both_sum {l m : List TI} (hl : sumB l = true) (hm : sumB m = true) (h : l.length + m.length < 40) : sumB (l ++ m ++ [opI 3]) = true := by
  obtain ⟨t, ht, rfl⟩ := sum_tree hl
  obtain ⟨u, hu, rfl⟩ := sum_tree hm
  unfold sumB
  rw [heapN_append, heapN_append, tree_sum ht 0]
  show (decide (((heapN u.post 1).bind (heapN [opI 3])) = some 1) && _) = true
  rw [tree_sum hu 1]
  simp only [List.length_append, List.length_cons, List.length_nil]
  rw [decide_eq_true (p := _ ≤ 40) (by omega), Bool.and_true]
  rfl
theorem not_sum {l : List TI} (hl : sumB l = true) (h : l.length < 40) : sumB (l ++ [opI 11]) = true := by
  unfold sumB
  rw [heapN_append, (sum_heap hl).1]
  simp only [List.length_append, List.length_cons, List.length_nil]
  rw [decide_eq_true (p := _ ≤ 40) (by omega), Bool.and_true]
  rfl
/-- The depth of two sums side by side. -/
theorem depth_both {l m : List TI} (hl : sumB l = true) (hm : sumB m = true) (h : l.length + m.length < 40) : depthR (l ++ m ++ [opI 3]) = max (depthR l) (depthR m + 1) := by
  have hp := depth_pos hl
  have h1 := both_sum hl hm h
  unfold depthR at hp ⊢
  rw [if_pos h1, if_pos hl, if_pos hm]
  rw [if_pos hl] at hp
  obtain ⟨hl1, _⟩ := sum_heap hl
  obtain ⟨hm1, _⟩ := sum_heap hm
  rw [depF_append, depF_append, highF_append, heap_high l 0 1 hl1]
  have hs := depF_shift m 0 0 1 1 hm1
  rw [Nat.zero_add] at hs
  have e1 := depF_max m 1 (depF l 0 0)
  have e2 := depF_max m 1 1
  rw [e1]
  have h2 : highF m 1 = 2 := by
    obtain ⟨u, hu, rfl⟩ := sum_tree hm
    exact heap_high _ _ _ (tree_sum hu 1)
  rw [h2]
  show max (max (depF l 0 0) (depF m 1 0)) (2 + 1 - 2) = _
  omega
theorem depth_not {l : List TI} (hl : sumB l = true) (h : l.length < 40) : depthR (l ++ [opI 11]) = depthR l := by
  have hp := depth_pos hl
  have h1 := not_sum hl h
  unfold depthR at hp ⊢
  rw [if_pos h1, if_pos hl]
  rw [if_pos hl] at hp
  rw [depF_append, heap_high l 0 1 (sum_heap hl).1]
  show max (depF l 0 0) (1 + 1 - 1) = _
  omega
theorem depF_snoc {l : List TI} {k : Nat} (h : k < l.length) (n a : Nat) : depF (l.take (k + 1)) n a = max (depF (l.take k) n a) (highF (l.take k) n + 1 - needsI l[k].1) := by
  rw [List.take_succ_eq_append_getElem h, depF_append]
  rfl
theorem highF_snoc {l : List TI} {k : Nat} (h : k < l.length) (n : Nat) : highF (l.take (k + 1)) n = highF (l.take k) n + 1 - needsI l[k].1 := by
  rw [List.take_succ_eq_append_getElem h, highF_append]
  rfl
/-- In a sum each item finds what it needs. -/
theorem sum_needs {l : List TI} (h : sumB l = true) {k : Nat} (hk : k < l.length) : itemB l[k] = true ∧ needsI l[k].1 ≤ highF (l.take k) 0 := by
  have h1 := (sum_heap h).1
  have e : l = l.take k ++ (l[k] :: l.drop (k + 1)) := by
    rw [← List.drop_eq_getElem_cons hk, List.take_append_drop]
  rw [e, heapN_append] at h1
  cases ht : heapN (l.take k) 0 with
  | none => rw [ht] at h1; cases h1
  | some c =>
    rw [ht] at h1
    have h2 : heapN (l[k] :: l.drop (k + 1)) c = some 1 := h1
    unfold heapN at h2
    split at h2
    · rename_i hc
      rw [heap_high _ _ _ ht]
      exact hc
    · cases h2
end Go.Proofs.YthgbjnchhaoceaaDoor
