/-
  Rows that were taken over, or that lie in memory of their own: what the marks want of them.
-/
import Derived.Test.YtbjpjhhdnbclbajRank5
import Derived.Test.YtbjpjhhdnbclbajLists9
namespace Go.Proofs.Ytbjpjhhdnbclbaj
open Go.ChangeShapes Go.WideShapes Go.ChangeAt Go.RowKit

theorem Taken.heads {w : World} {g : Nat} {L : List (List CT)} {G : Nat → Nat} (h : Taken w g L G L.length) : HeadsAt w (some ⟨g, 0, none⟩) L (fun i => some ⟨G i, 0, none⟩) (fun i => (L.getD i []).length) := by
  intro i hi
  refine ⟨g, 0, rfl, h.lt, ?_⟩
  rw [show 0 + i = i by omega, (h.rows i hi hi).1]
  dsimp only; rw [getD_at hi]
theorem Taken.apartA {w : World} {g : Nat} {L : List (List CT)} {G : Nat → Nat} (h : Taken w g L G L.length) : Apart (some ⟨g, 0, none⟩) L (fun i => some ⟨G i, 0, none⟩) where
  heads i hi b o e := by
    cases e
    rintro ⟨_, o', e'⟩
    simp only [Option.some.injEq, Addr.mk.injEq] at e'
    have := (h.bounds i hi).1; omega
  rows i j hi hj b hij := by
    rintro ⟨_, o1, e1⟩ ⟨_, o2, e2⟩
    simp only [Option.some.injEq, Addr.mk.injEq] at e1 e2
    rcases Nat.lt_or_gt_of_ne hij with hl | hl
    · have := h.rises i j hl hj; omega
    · have := h.rises j i hl hi; omega
theorem Taken.unmarked {w : World} {g : Nat} {L : List (List CT)} {G : Nat → Nat} (h : Taken w g L G L.length) (k : Nat) : Marked w L (fun i => some ⟨G i, 0, none⟩) k 0 :=
  fun j hj => ⟨fun hlt => by omega, fun _ => (h.rows j hj hj).2.1, (h.rows j hj hj).2.2⟩
theorem Taken.rowsAt {w : World} {g : Nat} {L : List (List CT)} {G : Nat → Nat} (h : Taken w g L G L.length) (hf : ∀ i (hi : i < L.length), Fit L[i]) (hm : ∀ i (hi : i < L.length), L[i].length ≤ maxLen) : RowsAt w (some ⟨g, 0, none⟩) L := by
  intro i hi
  obtain ⟨h1, h2, _⟩ := h.rows i hi hi
  exact ⟨g, 0, _, _, rfl, h.lt, by rw [show 0 + i = i by omega]; exact h1, h2, hf i hi, hm i hi, fun e => by cases e⟩
theorem Taken.blks {w : World} {g : Nat} {L : List (List CT)} {G : Nat → Nat} (h : Taken w g L G L.length) (b : Nat) (hb : rowBlks L (fun i => some ⟨G i, 0, none⟩) b) : g < b ∧ b < w.heap.size := by
  obtain ⟨i, hi, _, o, e⟩ := hb
  simp only [Option.some.injEq, Addr.mk.injEq] at e
  have := h.bounds i hi; omega

theorem own_keepS {w w' : World} {P : Nat → Prop} {base : Nat} {e : TypeId} {size n : Nat} {v : Value} {xs : List Value} (h : w.ownsRow base e size v n xs) (hk : KeepS P w w') (hP : ∀ b, P b → b < base) : w'.ownsRow base e size v n xs := by
  refine ⟨h.1, ?_⟩
  rcases h.2 with h' | ⟨g, cap, cur, h', hbg, hg, hr⟩
  · exact .inl h'
  · refine .inr ⟨g, cap, cur, h', hbg, ?_, hr⟩
    have hlt : g < w.heap.size := by
      by_cases hl : g < w.heap.size
      · exact hl
      · rw [Array.getElem?_eq_none (by omega)] at hg; cases hg
    rw [hk.block g hlt (fun hp => by have := hP g hp; omega)]; exact hg
theorem OwnRows.keepS {w w' : World} {P : Nat → Prop} {base : Nat} {v : Value} {L : List (List CT)} {G C : Nat → Nat} (h : OwnRows w base v L G C) (hk : KeepS P w w') (hP : ∀ b, P b → b < base) : OwnRows w' base v L G C :=
  ⟨own_keepS h.outer hk hP, fun i hi => own_keepS (h.inner i hi) hk hP, h.apart⟩

theorem HeadsAt.below {w w' : World} {a : Option Addr} {L : List (List CT)} {A : Nat → Option Addr} {C : Nat → Nat} (h : HeadsAt w a L A C) (hb : Below w.heap.size w w') : HeadsAt w' a L A C := by
  intro i hi
  obtain ⟨b, o, ha, hlt, h0⟩ := h i hi
  exact ⟨b, o, ha, Nat.lt_of_lt_of_le hlt hb.size, by rw [hb.cell (p := ⟨b, _, none⟩) hlt]; exact h0⟩
theorem Marked.below {w w' : World} {L : List (List CT)} {A : Nat → Option Addr} {k : Nat} (h : Marked w L A k L.length) (hb : Below w.heap.size w w') : Marked w' L A k L.length := by
  intro j hj
  obtain ⟨h1, _, h3⟩ := h j hj
  refine ⟨fun hlt => (h1 hlt).below hb, fun hle => by omega, ?_⟩
  intro b o e q hq
  have hlt : b < w.heap.size := by
    obtain ⟨b', o', e', hlt, _⟩ := h1 hj 0 (by rw [marks_length]; omega)
    rw [e] at e'
    simp only [Option.some.injEq, Addr.mk.injEq] at e'
    omega
  rw [hb.frozen (p := ⟨b, _, none⟩) hlt]; exact h3 b o e q hq

/-- The blocks of rows in memory of their own. -/
theorem OwnRows.blks {w : World} {base : Nat} {v : Value} {L : List (List CT)} {G C : Nat → Nat} (h : OwnRows w base v L G C) (b : Nat) (hb : rowBlks L (fun i => some ⟨G i, 0, none⟩) b) : base ≤ b := by
  obtain ⟨i, hi, _, o, e⟩ := hb
  simp only [Option.some.injEq, Addr.mk.injEq] at e
  rcases (h.inner i hi).2 with ⟨h', _⟩ | ⟨g2, c2, cur2, h', hle, _⟩
  · simp [headOf] at h'
  · simp only [headOf, Value.slice.injEq, Option.some.injEq, Addr.mk.injEq, and_true, true_and] at h'
    omega


end Go.Proofs.Ytbjpjhhdnbclbaj
