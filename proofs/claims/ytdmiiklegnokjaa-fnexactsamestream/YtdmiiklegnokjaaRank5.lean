/-
  Rows that lie in memory of their own may be marked: their heads lie there, no two share a block, and all may be written.
-/
import Derived.Test.YtdmiiklegnokjaaRank4
import Derived.Test.YtdmiiklegnokjaaLists8
namespace Go.Proofs.Ytdmiiklegnokjaa
open Go.ChangeShapes Go.WideShapes Go.ChangeAt Go.RowKit

theorem own_lt {w : World} {base g n c sz : Nat} {e : TypeId} {xs : List Value} (h : w.ownsRow base e sz (.slice (some ⟨g, 0, none⟩) n c) n xs) : g < w.heap.size := by
  rcases h.2 with ⟨h', _⟩ | ⟨g', cap', cur, h', _, hg, _⟩
  · simp at h'
  · simp only [Value.slice.injEq, Option.some.injEq, Addr.mk.injEq, and_true, true_and] at h'
    obtain ⟨rfl, rfl⟩ := h'
    by_cases hl : g < w.heap.size
    · exact hl
    · rw [Array.getElem?_eq_none (by omega)] at hg; cases hg

theorem getD_at {L : List (List CT)} {i : Nat} (h : i < L.length) : L.getD i [] = L[i] := by simp [List.getD, List.getElem?_eq_getElem h]

/-- The heads lie in one block. -/
theorem OwnRows.head {w : World} {base : Nat} {v : Value} {L : List (List CT)} {G C : Nat → Nat} (h : OwnRows w base v L G C) (hn : v ≠ .slice none 0 0) : ∃ g c, v = .slice (some ⟨g, 0, none⟩) L.length c ∧ base ≤ g := by
  rcases h.outer.2 with ⟨h', _⟩ | ⟨g, c, cur, h', hb, _⟩
  · exact absurd h' hn
  · exact ⟨g, c, h', hb⟩

theorem OwnRows.heads {w : World} {base g c : Nat} {L : List (List CT)} {G C : Nat → Nat} (h : OwnRows w base (.slice (some ⟨g, 0, none⟩) L.length c) L G C) : HeadsAt w (some ⟨g, 0, none⟩) L (fun i => some ⟨G i, 0, none⟩) C := by
  intro i hi
  refine ⟨g, 0, rfl, own_lt h.outer, ?_⟩
  rw [show 0 + i = i by omega, h.outer.cellAt i (by omega)]
  rw [List.getElem?_map, List.getElem?_range hi]
  simp only [Option.map_some, headOf, getD_at hi]

theorem OwnRows.apartA {w : World} {base g c : Nat} {L : List (List CT)} {G C : Nat → Nat} (h : OwnRows w base (.slice (some ⟨g, 0, none⟩) L.length c) L G C) : Apart (some ⟨g, 0, none⟩) L (fun i => some ⟨G i, 0, none⟩) where
  heads i hi b o e := by
    cases e
    rintro ⟨_, o', e'⟩
    cases e'
    exact own_other h.outer (h.inner i hi) (by decide) rfl
  rows i j hi hj b hij := by
    rintro ⟨_, o1, e1⟩ ⟨_, o2, e2⟩
    cases e1
    simp only [Option.some.injEq, Addr.mk.injEq] at e2
    exact h.apart i j hi hj hij e2.1.symm

theorem OwnRows.unmarked {w : World} {base : Nat} {v : Value} {L : List (List CT)} {G C : Nat → Nat} (h : OwnRows w base v L G C) (k : Nat) : Marked w L (fun i => some ⟨G i, 0, none⟩) k 0 := by
  intro j hj
  have hin := h.inner j hj
  rw [headOf, getD_at hj] at hin
  refine ⟨fun hlt => by omega, fun _ => own_row hin, ?_⟩
  intro b o e q hq
  cases e
  exact hin.frozenAt _

theorem OwnRows.rowsAt {w : World} {base g c : Nat} {L : List (List CT)} {G C : Nat → Nat} (h : OwnRows w base (.slice (some ⟨g, 0, none⟩) L.length c) L G C) (hf : ∀ i (hi : i < L.length), Fit L[i]) (hm : ∀ i (hi : i < L.length), L[i].length ≤ maxLen) : RowsAt w (some ⟨g, 0, none⟩) L := by
  intro i hi
  obtain ⟨b, o, e, hlt, hc⟩ := h.heads i hi
  exact ⟨b, o, _, _, e, hlt, hc, (h.unmarked 1 i hi).2.1 (Nat.zero_le _), hf i hi, hm i hi, fun e => by cases e⟩

end Go.Proofs.Ytdmiiklegnokjaa
