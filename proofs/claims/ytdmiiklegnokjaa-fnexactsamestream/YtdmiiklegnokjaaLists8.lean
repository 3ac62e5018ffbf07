/-
  The contracts of the law's helpers that mark the cells of a list of lists, and that look whether the marks are still there.
-/
import Derived.Test.YtdmiiklegnokjaaLists7
namespace Go.Proofs.Ytdmiiklegnokjaa
open Go.ChangeShapes Go.WideShapes Go.ChangeAt Go.RowKit
attribute [local go_sem ↓] Go.wp_at_zero Go.wp_at_succ

/-- How many cells lie ahead of the i-th list. -/
def offs (L : List (List CT)) (i : Nat) : Nat := ((L.take i).map List.length).sum
theorem offs_step (L : List (List CT)) (i : Nat) (h : i < L.length) : offs L (i + 1) = offs L i + L[i].length := by
  unfold offs
  rw [List.take_succ_eq_append_getElem h, List.map_append, List.sum_append]; simp
theorem offs_le (L : List (List CT)) (i : Nat) : offs L i ≤ offs L L.length := by
  unfold offs
  rw [List.take_length]
  conv => rhs; rw [← List.take_append_drop i L, List.map_append, List.sum_append]
  omega

/-- The heads of the lists lie where the slice says. -/
def HeadsAt (w : World) (a : Option Addr) (L : List (List CT)) (A : Nat → Option Addr) (C : Nat → Nat) : Prop :=
  ∀ i (h : i < L.length), ∃ b o, a = some ⟨b, o, none⟩ ∧ b < w.heap.size ∧ w.cell? ⟨b, o + i, none⟩ = some (.slice (A i) L[i].length (C i))
/-- No two lists that have cells share a block, and none shares one with the heads. -/
structure Apart (a : Option Addr) (L : List (List CT)) (A : Nat → Option Addr) : Prop where
  heads : ∀ i (h : i < L.length) b o, a = some ⟨b, o, none⟩ → ¬ inBlk (A i) L[i].length b
  rows : ∀ i j (hi : i < L.length) (hj : j < L.length) b, i ≠ j → inBlk (A i) L[i].length b → ¬ inBlk (A j) L[j].length b

theorem RowAt.keepS {P : Nat → Prop} {w w' : World} {a : Option Addr} {l : List CT} (h : RowAt w a l) (hk : KeepS P w w') (hP : ∀ b, inBlk a l.length b → ¬ P b) : RowAt w' a l := by
  intro j hj
  obtain ⟨b, o, ha, hlt, h0, h1, h2⟩ := h j hj
  have hn := hP b ⟨by omega, o, ha⟩
  exact ⟨b, o, ha, Nat.lt_of_lt_of_le hlt hk.size, by rw [hk.cell hlt hn]; exact h0, by rw [hk.cell hlt hn]; exact h1, by rw [hk.cell hlt hn]; exact h2⟩
theorem Free.keepS {P : Nat → Prop} {w w' : World} {a : Option Addr} {l : List CT} (hf : Free w a l.length) (h : RowAt w a l) (hk : KeepS P w w') (hP : ∀ b, inBlk a l.length b → ¬ P b) : Free w' a l.length := by
  intro b o ha j hj
  obtain ⟨b', o', ha', hlt, _⟩ := h 0 (by omega)
  rw [ha] at ha'
  cases ha'
  rw [hk.frozen hlt (hP b ⟨by omega, o, ha⟩)]
  exact hf b o ha j hj
theorem HeadsAt.keepS {P : Nat → Prop} {w w' : World} {a : Option Addr} {L : List (List CT)} {A : Nat → Option Addr} {C : Nat → Nat} (h : HeadsAt w a L A C) (hk : KeepS P w w') (hP : ∀ b o, a = some ⟨b, o, none⟩ → ¬ P b) : HeadsAt w' a L A C := by
  intro i hi
  obtain ⟨b, o, ha, hlt, h0⟩ := h i hi
  exact ⟨b, o, ha, Nat.lt_of_lt_of_le hlt hk.size, by rw [hk.cell hlt (hP b o ha)]; exact h0⟩

/-- The lists are marked up to the i-th; the others are as they were. -/
def Marked (w : World) (L : List (List CT)) (A : Nat → Option Addr) (k i : Nat) : Prop :=
  ∀ j (h : j < L.length), (j < i → RowAt w (A j) (marks (k + 3 * offs L j) L[j].length)) ∧ (i ≤ j → RowAt w (A j) L[j]) ∧ Free w (A j) L[j].length
/-- The blocks of all lists. -/
def rowBlks (L : List (List CT)) (A : Nat → Option Addr) (b : Nat) : Prop := ∃ i, ∃ h : i < L.length, inBlk (A i) L[i].length b

theorem Marked.step {w w' : World} {a : Option Addr} {L : List (List CT)} {A : Nat → Option Addr} {k i : Nat} (hi : i < L.length) (h : Marked w L A k i) (ap : Apart a L A) (hk : KeepS (inBlk (A i) L[i].length) w w')
    (hr : RowAt w' (A i) (marks (k + 3 * offs L i) L[i].length)) (hf : Free w' (A i) L[i].length) : Marked w' L A k (i + 1) := by
  intro j hj
  by_cases hij : j = i
  · subst hij
    exact ⟨fun _ => hr, fun hle => by omega, hf⟩
  · obtain ⟨h1, h2, h3⟩ := h j hj
    have hP : ∀ b, inBlk (A j) L[j].length b → ¬ inBlk (A i) L[i].length b := fun b hb => ap.rows j i hj hi b hij hb
    refine ⟨fun hlt => ?_, fun hle => (h2 (by omega)).keepS hk hP, ?_⟩
    · exact (h1 (by omega)).keepS hk (by rw [marks_length]; exact hP)
    · by_cases hlt : j < i
      · have hm := h1 hlt
        have := Free.keepS (l := marks (k + 3 * offs L j) L[j].length) (by rw [marks_length]; exact h3) hm hk (by rw [marks_length]; exact hP)
        rwa [marks_length] at this
      · exact h3.keepS (h2 (by omega)) hk hP

end Go.Proofs.Ytdmiiklegnokjaa
