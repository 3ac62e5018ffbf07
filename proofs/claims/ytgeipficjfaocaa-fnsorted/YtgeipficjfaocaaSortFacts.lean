/-
  What the law FnSorted asks of an order of places, without any program: those that are alike stay as they were, and of two side by side the second is not ahead.
-/
import Derived.Test.YtgeipficjfaocaaSortMath
namespace Go.Proofs.Ytgeipficjfaocaa

/-- Those with one cell stand in the order as they stood. -/
theorem IsOrder.alike {L : List (List CT3)} {at_ : Int} {down : Bool} {p : List Nat} (h : IsOrder L at_ down p) (hr : Reach L at_) (f : Nat → Bool) (x : CT3) (hf : ∀ q, f q = true → keyOf L at_ q = x) : p.filter f = (List.range L.length).filter f := by
  have S := placeLt_strict (keyOf L at_) down L.length
  refine List.Perm.eq_of_pairwise (le := fun a b => placeLt (keyOf L at_) down b a = false) ?_ ((h.inOrder hr).filter f) ?_ (h.perm.filter f)
  · intro a b ha hb h1 h2
    have ha' : a < L.length := by simpa using h.perm.mem_iff.1 (List.mem_filter.1 ha).1
    have hb' : b < L.length := by simpa using (List.mem_filter.1 hb).1
    exact S.tri a b ha' hb' h2 h1
  · refine List.Pairwise.imp_of_mem ?_ (List.pairwise_lt_range.filter f)
    intro a b ha hb hab
    have e1 := hf a (List.mem_filter.1 ha).2
    have e2 := hf b (List.mem_filter.1 hb).2
    unfold placeLt
    rw [e1, e2, lessC_irr]
    simp; omega

/-- Of two side by side the second is not ahead. -/
theorem IsOrder.side {L : List (List CT3)} {at_ : Int} {down : Bool} {p : List Nat} (h : IsOrder L at_ down p) (hr : Reach L at_) (i : Nat) (hi : i + 1 < p.length) :
    (if down = true then lessC (keyOf L at_ (p.getD i 0)) (keyOf L at_ (p.getD (i + 1) 0)) else lessC (keyOf L at_ (p.getD (i + 1) 0)) (keyOf L at_ (p.getD i 0))) = false := by
  have hp := List.pairwise_iff_getElem.1 (h.inOrder hr) i (i + 1) (by omega) hi (by omega)
  have e1 : p.getD i 0 = p[i] := by simp [List.getD, List.getElem?_eq_getElem (show i < p.length by omega)]
  have e2 : p.getD (i + 1) 0 = p[i + 1] := by simp [List.getD, List.getElem?_eq_getElem hi]
  rw [e1, e2]
  unfold placeLt at hp
  cases h1 : lessC (keyOf L at_ p[i + 1]) (keyOf L at_ p[i])
  · cases h2 : lessC (keyOf L at_ p[i]) (keyOf L at_ p[i + 1])
    · cases down <;> rfl
    · rw [h1, h2] at hp
      cases down
      · rfl
      · simp at hp
  · have h2 := lessC_asym h1
    rw [h1] at hp
    cases down
    · simp at hp
    · simp [h2]

end Go.Proofs.Ytgeipficjfaocaa
