/-
  The contract of the model's helper that takes rows over: new memory, a block for each row.
-/
import Derived.Test.YtdmiiklegnokjaaRank3
import Derived.Test.YtdmiiklegnokjaaLists4
namespace Go.Proofs.Ytdmiiklegnokjaa
open Go.ChangeShapes Go.WideShapes Go.ChangeAt Go.RowKit
attribute [local go_sem ↓] Go.wp_at_zero Go.wp_at_succ

/-- The head of the i-th row. -/
def headOf (G C : Nat → Nat) (L : List (List CT)) (i : Nat) : Value := .slice (some ⟨G i, 0, none⟩) (L.getD i []).length (C i)
/-- Rows that lie in memory of their own: the heads in one block, each row in another. -/
structure OwnRows (w : World) (base : Nat) (v : Value) (L : List (List CT)) (G C : Nat → Nat) : Prop where
  outer : w.ownsRow base 34 1 v L.length ((List.range L.length).map (headOf G C L))
  inner : ∀ i, i < L.length → w.ownsRow base 37 3 (headOf G C L i) (L.getD i []).length (flat (L.getD i []))
  apart : ∀ i j, i < L.length → j < L.length → i ≠ j → G i ≠ G j

theorem OwnRows.below {w w' : World} {base : Nat} {v : Value} {L : List (List CT)} {G C : Nat → Nat} (h : OwnRows w base v L G C) (hb : Below w.heap.size w w') : OwnRows w' base v L G C :=
  ⟨own_below h.outer hb, fun i hi => own_below (h.inner i hi) hb, h.apart⟩

/-- The block of a row is none of the heads'. -/
theorem own_other {w : World} {base b2 n m sz sz2 : Nat} {e e2 : TypeId} {v : Value} {g c : Nat} {xs ys : List Value} (h : w.ownsRow base e sz v n xs) (k : w.ownsRow b2 e2 sz2 (.slice (some ⟨g, 0, none⟩) m c) m ys) (he : e ≠ e2) : v.ownBlock ≠ some g := by
  rcases h.2 with ⟨rfl, _⟩ | ⟨g1, c1, cur, rfl, _, hg, _⟩
  · simp [Value.ownBlock]
  · rcases k.2 with ⟨h', _⟩ | ⟨g2, c2, cur2, h', _, hg2, _⟩
    · simp at h'
    · simp only [Value.slice.injEq, Option.some.injEq, Addr.mk.injEq, and_true, true_and] at h'
      obtain ⟨rfl, rfl⟩ := h'
      intro hh
      simp only [Value.ownBlock, Option.some.injEq] at hh
      subst hh
      rw [hg] at hg2
      simp at hg2
      exact he hg2.2

theorem own_base {w : World} {b1 b2 n sz : Nat} {e : TypeId} {v : Value} {xs : List Value} (h : w.ownsRow b1 e sz v n xs) (hle : b2 ≤ b1) : w.ownsRow b2 e sz v n xs := by
  refine ⟨h.1, ?_⟩
  rcases h.2 with h' | ⟨g, cap, cur, h', hbg, hr⟩
  · exact .inl h'
  · exact .inr ⟨g, cap, cur, h', Nat.le_trans hle hbg, hr⟩

/-- One row more: its head is appended. -/
theorem OwnRows.step {w w1 w2 : World} {base : Nat} {v v' : Value} {L : List (List CT)} {G C : Nat → Nat} {x : List CT} {g c : Nat} {o : Obj} (h : OwnRows w base v L G C) (hb : Below w.heap.size w w1) (hg : w.heap.size ≤ g)
    (own : w1.ownsRow base 37 3 (.slice (some ⟨g, 0, none⟩) x.length c) x.length (flat x))
    (own2 : w2.ownsRow base 34 1 v' (L.length + 1) ((List.range L.length).map (headOf G C L) ++ [.slice (some ⟨g, 0, none⟩) x.length c])) (hgr : (w1.alloc o).grownBy w2 v.ownBlock) :
    ∃ G' C', OwnRows w2 base v' (L ++ [x]) G' C' := by
  have h1 := h.below hb
  have hlt : ∀ i, i < L.length → G i < w.heap.size := by
    intro i hi
    rcases (h.inner i hi).2 with ⟨h', _⟩ | ⟨g2, c2, cur2, h', _, hg2, _⟩
    · simp [headOf] at h'
    · simp only [headOf, Value.slice.injEq, Option.some.injEq, Addr.mk.injEq, and_true, true_and] at h'
      obtain ⟨rfl, rfl⟩ := h'
      by_cases hl : G i < w.heap.size
      · exact hl
      · rw [Array.getElem?_eq_none (by omega)] at hg2; cases hg2
  have he : (34 : TypeId) ≠ 37 := by decide
  have hd : ∀ i, i < L.length → (L ++ [x]).getD i [] = L.getD i [] := by
    intro i hi
    simp [List.getD, List.getElem?_append_left hi]
  have hdl : (L ++ [x]).getD L.length [] = x := by simp [List.getD]
  refine ⟨fun i => if i = L.length then g else G i, fun i => if i = L.length then c else C i, ?_, ?_, ?_⟩
  · have e1 : (L ++ [x]).length = L.length + 1 := by simp
    rw [e1, List.range_succ, List.map_append]
    have e2 : (List.range L.length).map (headOf (fun i => if i = L.length then g else G i) (fun i => if i = L.length then c else C i) (L ++ [x])) = (List.range L.length).map (headOf G C L) := by
      refine List.map_congr_left fun i hi => ?_
      have hi' : i < L.length := by simpa using hi
      have hne : i ≠ L.length := by omega
      simp only [headOf, if_neg hne, hd i hi']
    have e3 : [L.length].map (headOf (fun i => if i = L.length then g else G i) (fun i => if i = L.length then c else C i) (L ++ [x])) = [.slice (some ⟨g, 0, none⟩) x.length c] := by
      simp only [List.map_cons, List.map_nil, headOf, if_true, hdl]
    rw [e2, e3]; exact own2
  · intro i hi
    by_cases hil : i = L.length
    · subst hil
      rw [hdl]
      have := own.alloc o
      have k := this.kept hgr (.inr (by simp only [Value.ownBlock]; exact (own_other (h1.outer.alloc o) this he).symm))
      simpa only [headOf, if_true, hdl] using k
    · have hi' : i < L.length := by simp at hi; omega
      rw [hd i hi']
      have := (h1.inner i hi').alloc o
      have k := this.kept hgr (.inr (by simp only [headOf, Value.ownBlock]; exact (own_other (h1.outer.alloc o) this he).symm))
      simpa only [headOf, if_neg hil, hd i hi'] using k
  · intro i j hi hj hij
    have hi2 : i < L.length + 1 := by simpa using hi
    have hj2 : j < L.length + 1 := by simpa using hj
    by_cases e1 : i = L.length
    · have e2 : j ≠ L.length := by omega
      have := hlt j (by omega)
      simp only [if_pos e1, if_neg e2]; omega
    · by_cases e2 : j = L.length
      · have := hlt i (by omega)
        simp only [if_neg e1, if_pos e2]; omega
      · simp only [if_neg e1, if_neg e2]; exact h.apart i j (by omega) (by omega) hij

end Go.Proofs.Ytdmiiklegnokjaa
