/-
  A part of the proof: Lists8, Lists9, Tab3, Rank5, TakenX, OutTab, PutS.
-/
import Derived.Test.YtegnekbbbfncgaaGreatDoorPart8
import Derived.Test.YtegnekbbbfncgaaGreatDoorPart11
import Derived.Test.YtegnekbbbfncgaaGreatDoorPart9

/-
  The contracts of the law's helpers that mark the cells of a list of lists, and that look whether the marks are still there.
-/
namespace Go.Proofs.YtegnekbbbfncgaaGreatDoor
open Go.ChangeShapes Go.WideShapes Go.ChangeAt Go.RowKit
attribute [local go_sem ↓] Go.wp_at_zero Go.wp_at_succ

/-- How many cells lie ahead of the i-th list. -/
def offs (L : List (List CT)) (i : Nat) : Nat := ((L.take i).map List.length).sum
/-- The heads of the lists lie where the slice says. -/
def HeadsAt (w : World) (a : Option Addr) (L : List (List CT)) (A : Nat → Option Addr) (C : Nat → Nat) : Prop :=
  ∀ i (h : i < L.length), ∃ b o, a = some ⟨b, o, none⟩ ∧ b < w.heap.size ∧ w.cell? ⟨b, o + i, none⟩ = some (.slice (A i) L[i].length (C i))
/-- No two lists that have cells share a block, and none shares one with the heads. -/
structure Apart (a : Option Addr) (L : List (List CT)) (A : Nat → Option Addr) : Prop where
  heads : ∀ i (h : i < L.length) b o, a = some ⟨b, o, none⟩ → ¬ inBlk (A i) L[i].length b
  rows : ∀ i j (hi : i < L.length) (hj : j < L.length) b, i ≠ j → inBlk (A i) L[i].length b → ¬ inBlk (A j) L[j].length b

theorem RowAt.keepS {P : Nat → Prop} {w w' : World} {a : Option Addr} {l : List CT} (h : RowAt w a l) (hk : KeepS P w w') (hP : ∀ b, inBlk a l.length b → ¬ P b) : RowAt w' a l := by
  intro j hj
  obtain ⟨b, o, ha, hlt, h0, h1, h2⟩ := h j hj
  have hn := hP b ⟨by omega, o, ha⟩
  exact ⟨b, o, ha, Nat.lt_of_lt_of_le hlt hk.size, by rw [hk.cell hlt hn]; exact h0, by rw [hk.cell hlt hn]; exact h1, by rw [hk.cell hlt hn]; exact h2⟩
theorem Free.keepS {P : Nat → Prop} {w w' : World} {a : Option Addr} {l : List CT} (hf : Free w a l.length) (h : RowAt w a l) (hk : KeepS P w w') (hP : ∀ b, inBlk a l.length b → ¬ P b) : Free w' a l.length := by
  intro b o ha j hj
  obtain ⟨b', o', ha', hlt, _⟩ := h 0 (by omega)
  rw [ha] at ha'
  cases ha'
  rw [hk.frozen hlt (hP b ⟨by omega, o, ha⟩)]
  exact hf b o ha j hj
theorem HeadsAt.keepS {P : Nat → Prop} {w w' : World} {a : Option Addr} {L : List (List CT)} {A : Nat → Option Addr} {C : Nat → Nat} (h : HeadsAt w a L A C) (hk : KeepS P w w') (hP : ∀ b o, a = some ⟨b, o, none⟩ → ¬ P b) : HeadsAt w' a L A C := by
  intro i hi
  obtain ⟨b, o, ha, hlt, h0⟩ := h i hi
  exact ⟨b, o, ha, Nat.lt_of_lt_of_le hlt hk.size, by rw [hk.cell hlt (hP b o ha)]; exact h0⟩

/-- The lists are marked up to the i-th; the others are as they were. -/
def Marked (w : World) (L : List (List CT)) (A : Nat → Option Addr) (k i : Nat) : Prop :=
  ∀ j (h : j < L.length), (j < i → RowAt w (A j) (marks (k + 3 * offs L j) L[j].length)) ∧ (i ≤ j → RowAt w (A j) L[j]) ∧ Free w (A j) L[j].length
/-- The blocks of all lists. -/
def rowBlks (L : List (List CT)) (A : Nat → Option Addr) (b : Nat) : Prop := ∃ i, ∃ h : i < L.length, inBlk (A i) L[i].length b

theorem Marked.step {w w' : World} {a : Option Addr} {L : List (List CT)} {A : Nat → Option Addr} {k i : Nat} (hi : i < L.length) (h : Marked w L A k i) (ap : Apart a L A) (hk : KeepS (inBlk (A i) L[i].length) w w')
    (hr : RowAt w' (A i) (marks (k + 3 * offs L i) L[i].length)) (hf : Free w' (A i) L[i].length) : Marked w' L A k (i + 1) := by
  intro j hj
  by_cases hij : j = i
  · subst hij
    exact ⟨fun _ => hr, fun hle => by omega, hf⟩
  · obtain ⟨h1, h2, h3⟩ := h j hj
    have hP : ∀ b, inBlk (A j) L[j].length b → ¬ inBlk (A i) L[i].length b := fun b hb => ap.rows j i hj hi b hij hb
    refine ⟨fun hlt => ?_, fun hle => (h2 (by omega)).keepS hk hP, ?_⟩
    · exact (h1 (by omega)).keepS hk (by rw [marks_length]; exact hP)
    · by_cases hlt : j < i
      · have hm := h1 hlt
        have := Free.keepS (l := marks (k + 3 * offs L j) L[j].length) (by rw [marks_length]; exact h3) hm hk (by rw [marks_length]; exact hP)
        rwa [marks_length] at this
      · exact h3.keepS (h2 (by omega)) hk hP

end Go.Proofs.YtegnekbbbfncgaaGreatDoor

/-
  The contract of the law's helper that takes a list of lists over: new memory, a block for each list.
-/
namespace Go.Proofs.YtegnekbbbfncgaaGreatDoor
open Go.ChangeShapes Go.WideShapes Go.ChangeAt Go.RowKit
attribute [local go_sem ↓] Go.wp_at_zero Go.wp_at_succ

/-- The first m lists are taken over, each into a block of its own behind block g. -/
structure Taken (w : World) (g : Nat) (L : List (List CT)) (G : Nat → Nat) (m : Nat) : Prop where
  lt : g < w.heap.size
  there : ∀ i, i < L.length → ∃ u, w.cell? ⟨g, i, none⟩ = some u
  free : ∀ i, i < L.length → w.frozen? ⟨g, i, none⟩ = false
  bounds : ∀ i, i < m → g < G i ∧ G i < w.heap.size
  rises : ∀ i j, i < j → j < m → G i < G j
  rows : ∀ i (h : i < L.length), i < m → w.cell? ⟨g, i, none⟩ = some (.slice (some ⟨G i, 0, none⟩) L[i].length L[i].length) ∧ RowAt w (some ⟨G i, 0, none⟩) L[i] ∧ Free w (some ⟨G i, 0, none⟩) L[i].length

theorem Taken.below {w w' : World} {g : Nat} {L : List (List CT)} {G : Nat → Nat} {m : Nat} (h : Taken w g L G m) (hb : Below w.heap.size w w') : Taken w' g L G m where
  lt := Nat.lt_of_lt_of_le h.lt hb.size
  there i hi := by obtain ⟨u, hu⟩ := h.there i hi; exact ⟨u, by rw [hb.cell (p := ⟨g, i, none⟩) h.lt]; exact hu⟩
  free i hi := by rw [hb.frozen (p := ⟨g, i, none⟩) h.lt]; exact h.free i hi
  bounds i hi := ⟨(h.bounds i hi).1, Nat.lt_of_lt_of_le (h.bounds i hi).2 hb.size⟩
  rises := h.rises
  rows i hi hm := by
    obtain ⟨h1, h2, h3⟩ := h.rows i hi hm
    refine ⟨by rw [hb.cell (p := ⟨g, i, none⟩) h.lt]; exact h1, h2.below hb, ?_⟩
    intro b o e j hj
    cases e
    rw [hb.frozen (p := ⟨G i, _, none⟩) (h.bounds i hm).2]; exact h3 _ _ rfl j hj

/-- One list more is taken over: its head is written. -/
theorem Taken.step {w : World} {g : Nat} {L : List (List CT)} {G : Nat → Nat} {m B : Nat} (h : Taken w g L G m) (hm : m < L.length) (hB : B < w.heap.size) (hgB : g < B) (hup : ∀ i, i < m → G i < B)
    (hr : RowAt w (some ⟨B, 0, none⟩) L[m]) (hf : Free w (some ⟨B, 0, none⟩) L[m].length) :
    Taken (w.setCell ⟨g, m, none⟩ (.slice (some ⟨B, 0, none⟩) L[m].length L[m].length)) g L (fun i => if i = m then B else G i) (m + 1) where
  lt := by simpa using h.lt
  there i hi := by
    by_cases e : i = m
    · subst e
      obtain ⟨u, hu⟩ := h.there i hi
      exact ⟨_, cell_here _ _ _ _ (by rw [hu]; rfl)⟩
    · obtain ⟨u, hu⟩ := h.there i hi
      exact ⟨u, by rw [cell_off _ _ _ _ _ e]; exact hu⟩
  free i hi := by rw [World.frozen?_setCell]; exact h.free i hi
  bounds i hi := by
    by_cases e : i = m
    · simpa [e] using ⟨hgB, hB⟩
    · simpa [e] using h.bounds i (by omega)
  rises i j hij hj := by
    by_cases e : j = m
    · have ei : i ≠ m := by omega
      simpa [e, ei] using hup i (by omega)
    · have ei : i ≠ m := by omega
      simpa [e, ei] using h.rises i j hij (by omega)
  rows i hi hlt := by
    have far : ∀ b q, b ≠ g → (w.setCell ⟨g, m, none⟩ (.slice (some ⟨B, 0, none⟩) L[m].length L[m].length)).cell? ⟨b, q, none⟩ = w.cell? ⟨b, q, none⟩ := fun b q hb => cell_far _ _ _ _ _ _ hb
    have rowFar : ∀ b l, b ≠ g → RowAt w (some ⟨b, 0, none⟩) l → RowAt (w.setCell ⟨g, m, none⟩ (.slice (some ⟨B, 0, none⟩) L[m].length L[m].length)) (some ⟨b, 0, none⟩) l := by
      intro b l hb hr j hj
      obtain ⟨b', o', e, hlt, c0, c1, c2⟩ := hr j hj
      cases e
      exact ⟨b, 0, rfl, by simpa using hlt, by rw [far _ _ hb]; exact c0, by rw [far _ _ hb]; exact c1, by rw [far _ _ hb]; exact c2⟩
    have freeFar : ∀ b n, Free w (some ⟨b, 0, none⟩) n → Free (w.setCell ⟨g, m, none⟩ (.slice (some ⟨B, 0, none⟩) L[m].length L[m].length)) (some ⟨b, 0, none⟩) n := by
      intro b n hf b' o' e j hj
      rw [World.frozen?_setCell]; exact hf b' o' e j hj
    by_cases e : i = m
    · subst e
      obtain ⟨u, hu⟩ := h.there i hi
      simp only [if_true]
      exact ⟨cell_here _ _ _ _ (by rw [hu]; rfl), rowFar _ _ (by omega) hr, freeFar _ _ hf⟩
    · obtain ⟨h1, h2, h3⟩ := h.rows i hi (by omega)
      have hb := (h.bounds i (by omega)).1
      simp only [if_neg e]
      exact ⟨by rw [cell_off _ _ _ _ _ e]; exact h1, rowFar _ _ (by omega) h2, freeFar _ _ h3⟩

end Go.Proofs.YtegnekbbbfncgaaGreatDoor

/-
  The contract of the law's helper that takes a table over: all of it lies in new memory.
-/
namespace Go.Proofs.YtegnekbbbfncgaaGreatDoor
open Go.ChangeShapes Go.WideShapes Go.ChangeAt Go.RowKit
attribute [local go_sem ↓] Go.wp_at_zero Go.wp_at_succ
attribute [local simp] World.cell?_alloc_past World.cell?_alloc_at World.frozen?_alloc_at cell_far cell_off cell_here World.frozen?_alloc_past

theorem Taken.lies {w : World} {g : Nat} {L : List (List CT)} {G : Nat → Nat} (h : Taken w g L G L.length) (hf : ∀ i (hi : i < L.length), Fit L[i]) (hm : ∀ i (hi : i < L.length), L[i].length ≤ maxLen) : RowsAt w (some ⟨g, 0, none⟩) L := by
  intro i hi
  obtain ⟨h1, h2, _⟩ := h.rows i hi hi
  exact ⟨g, 0, _, _, rfl, h.lt, by rw [Nat.zero_add]; exact h1, h2, hf i hi, hm i hi, fun e => by cases e⟩

theorem own_keepG {w w' : World} {base base' g c : Nat} {e : TypeId} {size n : Nat} {xs : List Value} (h : w.ownsRow base e size (.slice (some ⟨g, 0, none⟩) n c) n xs) (hb : base' ≤ base) (hk : w'.heap[g]? = w.heap[g]?) : w'.ownsRow base' e size (.slice (some ⟨g, 0, none⟩) n c) n xs := by
  refine ⟨h.1, ?_⟩
  rcases h.2 with h' | ⟨g', cap, cur, h', hbg, hg, hr⟩
  · exact .inl h'
  · refine .inr ⟨g', cap, cur, h', by omega, ?_, hr⟩
    simp only [Value.slice.injEq, Option.some.injEq, Addr.mk.injEq, and_true, true_and] at h'
    obtain ⟨rfl, _⟩ := h'
    rw [hk]; exact hg
theorem Taken.low {w w' : World} {g : Nat} {L : List (List CT)} {G : Nat → Nat} (h : Taken w g L G L.length) (hs : w.heap.size ≤ w'.heap.size) (hk : ∀ k, g ≤ k → k < w.heap.size → w'.heap[k]? = w.heap[k]?) : Taken w' g L G L.length where
  lt := Nat.lt_of_lt_of_le h.lt hs
  there := fun i hi => by rw [World.cell?_of_block (a := ⟨g, i, none⟩) (hk g (Nat.le_refl _) h.lt)]; exact h.there i hi
  free := fun i hi => by rw [World.frozen?_of_block (a := ⟨g, i, none⟩) (hk g (Nat.le_refl _) h.lt)]; exact h.free i hi
  bounds := fun i hi => ⟨(h.bounds i hi).1, Nat.lt_of_lt_of_le (h.bounds i hi).2 hs⟩
  rises := h.rises
  rows := fun i hi hm => by
    obtain ⟨h1, h2, h3⟩ := h.rows i hi hm
    have hb := h.bounds i hm
    have e := hk (G i) (by omega) hb.2
    refine ⟨by rw [World.cell?_of_block (a := ⟨g, i, none⟩) (hk g (Nat.le_refl _) h.lt)]; exact h1, ?_, ?_⟩
    · intro j hj
      obtain ⟨b, o, ha, hlt, c0, c1, c2⟩ := h2 j hj
      simp only [Option.some.injEq, Addr.mk.injEq, and_true] at ha
      obtain ⟨rfl, rfl⟩ := ha
      exact ⟨_, _, rfl, Nat.lt_of_lt_of_le hlt hs, by rw [World.cell?_of_block (a := ⟨G i, _, none⟩) e]; exact c0, by rw [World.cell?_of_block (a := ⟨G i, _, none⟩) e]; exact c1, by rw [World.cell?_of_block (a := ⟨G i, _, none⟩) e]; exact c2⟩
    · intro b o ha j hj
      cases ha
      rw [World.frozen?_of_block (a := ⟨G i, _, none⟩) e]
      exact h3 _ _ rfl j hj
/-- A table that was taken over: its columns in block g, its rows in block g2 and those behind. -/
structure NewTab (w : World) (base g g2 : Nat) (t : TB) : Prop where
  lo : base ≤ g
  cols : w.ownsRow base 9 1 (.slice (some ⟨g, 0, none⟩) t.2.1.length t.2.1.length) t.2.1.length (strV t.2.1)
  apart : g < g2
  rows : ∃ G, Taken w g2 t.2.2 G t.2.2.length
theorem NewTab.below {w w' : World} {base g g2 : Nat} {t : TB} (h : NewTab w base g g2 t) (hb : Below w.heap.size w w') : NewTab w' base g g2 t :=
  ⟨h.lo, own_below h.cols hb, h.apart, by obtain ⟨G, hG⟩ := h.rows; exact ⟨G, hG.below hb⟩⟩
theorem NewTab.lies {w : World} {base g g2 : Nat} {t : TB} (h : NewTab w base g g2 t) (hf : FitS t.2.1) (hn : t.1.size ≤ maxLen) (hc : t.2.1.length ≤ maxLen) (hr : t.2.2.length ≤ maxLen) (hfr : ∀ i (hi : i < t.2.2.length), Fit t.2.2[i]) (hmr : ∀ i (hi : i < t.2.2.length), t.2.2[i].length ≤ maxLen) :
    TabAt w (some ⟨g, 0, none⟩) t.2.1.length (some ⟨g2, 0, none⟩) t :=
  ⟨own_strs h.cols, hf, hc, Nat.le_refl _, (fun e => by cases e), by obtain ⟨G, hG⟩ := h.rows; exact hG.lies hfr hmr, hr, hn⟩

theorem NewTab.keepS {w w' : World} {base g g2 : Nat} {t : TB} {P : Nat → Prop} (h : NewTab w base g g2 t) (hk : KeepS P w w') (hP : ∀ b, P b → b < g) : NewTab w' base g g2 t := by
  have hg := (h.cols.lt g rfl).2
  obtain ⟨G, hG⟩ := h.rows
  have ha := h.apart
  exact ⟨h.lo, own_keepG h.cols (Nat.le_refl _) (hk.block g hg (fun hp => by have := hP g hp; omega)), h.apart, G, hG.low hk.size (fun k hgk hl => hk.block k hl (fun hp => by have := hP k hp; omega))⟩

end Go.Proofs.YtegnekbbbfncgaaGreatDoor

/-
  Rows that lie in memory of their own may be marked: their heads lie there, no two share a block, and all may be written.
-/
namespace Go.Proofs.YtegnekbbbfncgaaGreatDoor
open Go.ChangeShapes Go.WideShapes Go.ChangeAt Go.RowKit

theorem own_lt {w : World} {base g n c sz : Nat} {e : TypeId} {xs : List Value} (h : w.ownsRow base e sz (.slice (some ⟨g, 0, none⟩) n c) n xs) : g < w.heap.size := by
  rcases h.2 with ⟨h', _⟩ | ⟨g', cap', cur, h', _, hg, _⟩
  · simp at h'
  · simp only [Value.slice.injEq, Option.some.injEq, Addr.mk.injEq, and_true, true_and] at h'
    obtain ⟨rfl, rfl⟩ := h'
    by_cases hl : g < w.heap.size
    · exact hl
    · rw [Array.getElem?_eq_none (by omega)] at hg; cases hg

theorem getD_at {L : List (List CT)} {i : Nat} (h : i < L.length) : L.getD i [] = L[i] := by simp [List.getD, List.getElem?_eq_getElem h]

/-- The heads lie in one block. -/
theorem OwnRows.head {w : World} {base : Nat} {v : Value} {L : List (List CT)} {G C : Nat → Nat} (h : OwnRows w base v L G C) (hn : v ≠ .slice none 0 0) : ∃ g c, v = .slice (some ⟨g, 0, none⟩) L.length c ∧ base ≤ g := by
  rcases h.outer.2 with ⟨h', _⟩ | ⟨g, c, cur, h', hb, _⟩
  · exact absurd h' hn
  · exact ⟨g, c, h', hb⟩

theorem OwnRows.heads {w : World} {base g c : Nat} {L : List (List CT)} {G C : Nat → Nat} (h : OwnRows w base (.slice (some ⟨g, 0, none⟩) L.length c) L G C) : HeadsAt w (some ⟨g, 0, none⟩) L (fun i => some ⟨G i, 0, none⟩) C := by
  intro i hi
  refine ⟨g, 0, rfl, own_lt h.outer, ?_⟩
  rw [show 0 + i = i by omega, h.outer.cellAt i (by omega)]
  rw [List.getElem?_map, List.getElem?_range hi]
  simp only [Option.map_some, headOf, getD_at hi]

theorem OwnRows.apartA {w : World} {base g c : Nat} {L : List (List CT)} {G C : Nat → Nat} (h : OwnRows w base (.slice (some ⟨g, 0, none⟩) L.length c) L G C) : Apart (some ⟨g, 0, none⟩) L (fun i => some ⟨G i, 0, none⟩) where
  heads i hi b o e := by
    cases e
    rintro ⟨_, o', e'⟩
    cases e'
    exact own_other h.outer (h.inner i hi) (by decide) rfl
  rows i j hi hj b hij := by
    rintro ⟨_, o1, e1⟩ ⟨_, o2, e2⟩
    cases e1
    simp only [Option.some.injEq, Addr.mk.injEq] at e2
    exact h.apart i j hi hj hij e2.1.symm

theorem OwnRows.unmarked {w : World} {base : Nat} {v : Value} {L : List (List CT)} {G C : Nat → Nat} (h : OwnRows w base v L G C) (k : Nat) : Marked w L (fun i => some ⟨G i, 0, none⟩) k 0 := by
  intro j hj
  have hin := h.inner j hj
  rw [headOf, getD_at hj] at hin
  refine ⟨fun hlt => by omega, fun _ => own_row hin, ?_⟩
  intro b o e q hq
  cases e
  exact hin.frozenAt _

end Go.Proofs.YtegnekbbbfncgaaGreatDoor

/-
  Rows that were taken over, or that lie in memory of their own: what the marks want of them.
-/
namespace Go.Proofs.YtegnekbbbfncgaaGreatDoor
open Go.ChangeShapes Go.WideShapes Go.ChangeAt Go.RowKit

theorem Taken.heads {w : World} {g : Nat} {L : List (List CT)} {G : Nat → Nat} (h : Taken w g L G L.length) : HeadsAt w (some ⟨g, 0, none⟩) L (fun i => some ⟨G i, 0, none⟩) (fun i => (L.getD i []).length) := by
  intro i hi
  refine ⟨g, 0, rfl, h.lt, ?_⟩
  rw [show 0 + i = i by omega, (h.rows i hi hi).1]
  dsimp only; rw [getD_at hi]
theorem Taken.apartA {w : World} {g : Nat} {L : List (List CT)} {G : Nat → Nat} (h : Taken w g L G L.length) : Apart (some ⟨g, 0, none⟩) L (fun i => some ⟨G i, 0, none⟩) where
  heads i hi b o e := by
    cases e
    rintro ⟨_, o', e'⟩
    simp only [Option.some.injEq, Addr.mk.injEq] at e'
    have := (h.bounds i hi).1; omega
  rows i j hi hj b hij := by
    rintro ⟨_, o1, e1⟩ ⟨_, o2, e2⟩
    simp only [Option.some.injEq, Addr.mk.injEq] at e1 e2
    rcases Nat.lt_or_gt_of_ne hij with hl | hl
    · have := h.rises i j hl hj; omega
    · have := h.rises j i hl hi; omega
theorem Taken.unmarked {w : World} {g : Nat} {L : List (List CT)} {G : Nat → Nat} (h : Taken w g L G L.length) (k : Nat) : Marked w L (fun i => some ⟨G i, 0, none⟩) k 0 :=
  fun j hj => ⟨fun hlt => by omega, fun _ => (h.rows j hj hj).2.1, (h.rows j hj hj).2.2⟩
theorem Taken.blks {w : World} {g : Nat} {L : List (List CT)} {G : Nat → Nat} (h : Taken w g L G L.length) (b : Nat) (hb : rowBlks L (fun i => some ⟨G i, 0, none⟩) b) : g < b ∧ b < w.heap.size := by
  obtain ⟨i, hi, _, o, e⟩ := hb
  simp only [Option.some.injEq, Addr.mk.injEq] at e
  have := h.bounds i hi; omega

theorem own_keepS {w w' : World} {P : Nat → Prop} {base : Nat} {e : TypeId} {size n : Nat} {v : Value} {xs : List Value} (h : w.ownsRow base e size v n xs) (hk : KeepS P w w') (hP : ∀ b, P b → b < base) : w'.ownsRow base e size v n xs := by
  refine ⟨h.1, ?_⟩
  rcases h.2 with h' | ⟨g, cap, cur, h', hbg, hg, hr⟩
  · exact .inl h'
  · refine .inr ⟨g, cap, cur, h', hbg, ?_, hr⟩
    have hlt : g < w.heap.size := by
      by_cases hl : g < w.heap.size
      · exact hl
      · rw [Array.getElem?_eq_none (by omega)] at hg; cases hg
    rw [hk.block g hlt (fun hp => by have := hP g hp; omega)]; exact hg
theorem OwnRows.keepS {w w' : World} {P : Nat → Prop} {base : Nat} {v : Value} {L : List (List CT)} {G C : Nat → Nat} (h : OwnRows w base v L G C) (hk : KeepS P w w') (hP : ∀ b, P b → b < base) : OwnRows w' base v L G C :=
  ⟨own_keepS h.outer hk hP, fun i hi => own_keepS (h.inner i hi) hk hP, h.apart⟩

theorem HeadsAt.below {w w' : World} {a : Option Addr} {L : List (List CT)} {A : Nat → Option Addr} {C : Nat → Nat} (h : HeadsAt w a L A C) (hb : Below w.heap.size w w') : HeadsAt w' a L A C := by
  intro i hi
  obtain ⟨b, o, ha, hlt, h0⟩ := h i hi
  exact ⟨b, o, ha, Nat.lt_of_lt_of_le hlt hb.size, by rw [hb.cell (p := ⟨b, _, none⟩) hlt]; exact h0⟩
theorem Marked.below {w w' : World} {L : List (List CT)} {A : Nat → Option Addr} {k : Nat} (h : Marked w L A k L.length) (hb : Below w.heap.size w w') : Marked w' L A k L.length := by
  intro j hj
  obtain ⟨h1, _, h3⟩ := h j hj
  refine ⟨fun hlt => (h1 hlt).below hb, fun hle => by omega, ?_⟩
  intro b o e q hq
  have hlt : b < w.heap.size := by
    obtain ⟨b', o', e', hlt, _⟩ := h1 hj 0 (by rw [marks_length]; omega)
    rw [e] at e'
    simp only [Option.some.injEq, Addr.mk.injEq] at e'
    omega
  rw [hb.frozen (p := ⟨b, _, none⟩) hlt]; exact h3 b o e q hq

/-- The blocks of rows in memory of their own. -/
theorem OwnRows.blks {w : World} {base : Nat} {v : Value} {L : List (List CT)} {G C : Nat → Nat} (h : OwnRows w base v L G C) (b : Nat) (hb : rowBlks L (fun i => some ⟨G i, 0, none⟩) b) : base ≤ b := by
  obtain ⟨i, hi, _, o, e⟩ := hb
  simp only [Option.some.injEq, Addr.mk.injEq] at e
  rcases (h.inner i hi).2 with ⟨h', _⟩ | ⟨g2, c2, cur2, h', hle, _⟩
  · simp [headOf] at h'
  · simp only [headOf, Value.slice.injEq, Option.some.injEq, Addr.mk.injEq, and_true, true_and] at h'
    omega


end Go.Proofs.YtegnekbbbfncgaaGreatDoor

/-
  A table in memory of its own: what the marks want of it, and the contracts of the law's helpers that mark a table, and look whether the marks are still there.
-/
namespace Go.Proofs.YtegnekbbbfncgaaGreatDoor
open Go.ChangeShapes Go.WideShapes Go.ChangeAt Go.RowKit
attribute [local go_sem ↓] Go.wp_at_zero Go.wp_at_succ
attribute [local simp] World.cell?_alloc_past World.cell?_alloc_at World.frozen?_alloc_at cell_far cell_off cell_here World.frozen?_alloc_past

theorem FreeS.keepS {P : Nat → Prop} {w w' : World} {a : Option Addr} {l : List ByteArray} (hf : FreeS w a l.length) (h : StrsAt w a l) (hk : KeepS P w w') (hP : ∀ b, inBlk a l.length b → ¬ P b) : FreeS w' a l.length := by
  intro b o ha j hj
  obtain ⟨b', o', ha', hlt, _⟩ := h j hj
  rw [ha] at ha'
  cases ha'
  rw [hk.frozen hlt (hP b ⟨by omega, o, ha⟩)]
  exact hf b o ha j hj
theorem HeadsAt.keepN {P : Nat → Prop} {w w' : World} {a : Option Addr} {L : List (List CT)} {A : Nat → Option Addr} {C : Nat → Nat} (h : HeadsAt w a L A C) (hk : KeepS P w w') (hP : ∀ b o, 0 < L.length → a = some ⟨b, o, none⟩ → ¬ P b) : HeadsAt w' a L A C := by
  intro i hi
  obtain ⟨b, o, ha, hlt, h0⟩ := h i hi
  exact ⟨b, o, ha, Nat.lt_of_lt_of_le hlt hk.size, by rw [hk.cell hlt (hP b o (by omega) ha)]; exact h0⟩
theorem Marked.keep0 {P : Nat → Prop} {w w' : World} {L : List (List CT)} {A : Nat → Option Addr} {k : Nat} (h : Marked w L A k 0) (hk : KeepS P w w') (hP : ∀ b, rowBlks L A b → ¬ P b) : Marked w' L A k 0 := by
  intro j hj
  obtain ⟨_, h2, h3⟩ := h j hj
  have hq : ∀ b, inBlk (A j) L[j].length b → ¬ P b := fun b hb => hP b ⟨j, hj, hb⟩
  exact ⟨fun hlt => by omega, fun _ => (h2 (Nat.zero_le _)).keepS hk hq, h3.keepS (h2 (Nat.zero_le _)) hk hq⟩
theorem Marked.keepL {P : Nat → Prop} {w w' : World} {L : List (List CT)} {A : Nat → Option Addr} {k : Nat} (h : Marked w L A k L.length) (hk : KeepS P w w') (hP : ∀ b, rowBlks L A b → ¬ P b) : Marked w' L A k L.length := by
  intro j hj
  obtain ⟨h1, _, h3⟩ := h j hj
  have hq : ∀ b, inBlk (A j) L[j].length b → ¬ P b := fun b hb => hP b ⟨j, hj, hb⟩
  refine ⟨fun _ => (h1 hj).keepS hk (by rw [marks_length]; exact hq), fun hle => by omega, ?_⟩
  have := Free.keepS (l := marks (k + 3 * offs L j) L[j].length) (by rw [marks_length]; exact h3) (h1 hj) hk (by rw [marks_length]; exact hq)
  rwa [marks_length] at this

/-- The blocks of a table. -/
def tabBlks (ca ra : Option Addr) (t : TB) (A : Nat → Option Addr) (b : Nat) : Prop :=
  inBlk ca t.2.1.length b ∨ rowBlks t.2.2 A b ∨ (0 < t.2.2.length ∧ ∃ o, ra = some ⟨b, o, none⟩)
/-- A table whose lists share no memory, all of it at base or behind. -/
structure OutTab (w : World) (base : Nat) (ca : Option Addr) (cc : Nat) (ra : Option Addr) (t : TB) (A : Nat → Option Addr) (C : Nat → Nat) : Prop where
  cols : StrsAt w ca t.2.1
  fit : FitS t.2.1
  len : t.2.1.length ≤ maxLen
  cap : t.2.1.length ≤ cc
  nilC : ca = none → cc = 0
  lenR : t.2.2.length ≤ maxLen
  name : t.1.size ≤ maxLen
  fitR : ∀ i (hi : i < t.2.2.length), Fit t.2.2[i]
  lenL : ∀ i (hi : i < t.2.2.length), t.2.2[i].length ≤ maxLen
  nilR : ∀ i, A i = none → C i = 0
  free : FreeS w ca t.2.1.length
  heads : HeadsAt w ra t.2.2 A C
  un : ∀ k, Marked w t.2.2 A k 0
  ap : Apart ra t.2.2 A
  colR : ∀ b, inBlk ca t.2.1.length b → ¬ rowBlks t.2.2 A b
  colH : ∀ b, inBlk ca t.2.1.length b → 0 < t.2.2.length → ∀ o, ra ≠ some ⟨b, o, none⟩
  lo : ∀ b, tabBlks ca ra t A b → base ≤ b
theorem OutTab.tab {w : World} {base : Nat} {ca : Option Addr} {cc : Nat} {ra : Option Addr} {t : TB} {A : Nat → Option Addr} {C : Nat → Nat} (h : OutTab w base ca cc ra t A C) : TabAt w ca cc ra t := by
  refine ⟨h.cols, h.fit, h.len, h.cap, h.nilC, ?_, h.lenR, h.name⟩
  intro i hi
  obtain ⟨b, o, e, hlt, c0⟩ := h.heads i hi
  exact ⟨b, o, A i, C i, e, hlt, c0, (h.un 0 i hi).2.1 (Nat.zero_le _), h.fitR i hi, h.lenL i hi, h.nilR i⟩
theorem OutTab.keepS {w w' : World} {P : Nat → Prop} {base : Nat} {ca : Option Addr} {cc : Nat} {ra : Option Addr} {t : TB} {A : Nat → Option Addr} {C : Nat → Nat} (h : OutTab w base ca cc ra t A C) (hk : KeepS P w w') (hP : ∀ b, tabBlks ca ra t A b → ¬ P b) : OutTab w' base ca cc ra t A C :=
  ⟨h.cols.keepS hk (fun b hb => hP b (.inl hb)), h.fit, h.len, h.cap, h.nilC, h.lenR, h.name, h.fitR, h.lenL, h.nilR, h.free.keepS h.cols hk (fun b hb => hP b (.inl hb)), h.heads.keepN hk (fun b o h0 e => hP b (.inr (.inr ⟨h0, o, e⟩))),
    fun k => (h.un k).keep0 hk (fun b hb => hP b (.inr (.inl hb))), h.ap, h.colR, h.colH, h.lo⟩
theorem OutTab.below {w w' : World} {base : Nat} {ca : Option Addr} {cc : Nat} {ra : Option Addr} {t : TB} {A : Nat → Option Addr} {C : Nat → Nat} (h : OutTab w base ca cc ra t A C) (hb : Below w.heap.size w w') : OutTab w' base ca cc ra t A C :=
  h.keepS (KeepS.ofBelow (P := fun _ => False) hb) (fun _ _ h => h)
theorem OutTab.lt {w : World} {base : Nat} {ca : Option Addr} {cc : Nat} {ra : Option Addr} {t : TB} {A : Nat → Option Addr} {C : Nat → Nat} (h : OutTab w base ca cc ra t A C) (b : Nat) (hb : tabBlks ca ra t A b) : b < w.heap.size := by
  rcases hb with ⟨h0, o, e⟩ | ⟨i, hi, h0, o, e⟩ | ⟨h0, o, e⟩
  · obtain ⟨b', o', e', hlt, _⟩ := h.cols 0 h0
    rw [e] at e'; cases e'; exact hlt
  · obtain ⟨b', o', e', hlt, _⟩ := (h.un 0 i hi).2.1 (Nat.zero_le _) 0 h0
    rw [e] at e'; cases e'; exact hlt
  · obtain ⟨b', o', e', hlt, _⟩ := h.heads 0 h0
    rw [e] at e'; cases e'; exact hlt

theorem own_freeS {w : World} {base g n c : Nat} {e : TypeId} {xs : List Value} (h : w.ownsRow base e 1 (.slice (some ⟨g, 0, none⟩) n c) n xs) : FreeS w (some ⟨g, 0, none⟩) n := by
  intro b o e j hj
  cases e
  rw [Nat.zero_add]
  exact h.frozenAt j

theorem NewTab.out {w : World} {base g g2 : Nat} {t : TB} (h : NewTab w base g g2 t) (hf : FitS t.2.1) (hn : t.1.size ≤ maxLen) (hc : t.2.1.length ≤ maxLen) (hr : t.2.2.length ≤ maxLen) (hfr : ∀ i (hi : i < t.2.2.length), Fit t.2.2[i]) (hmr : ∀ i (hi : i < t.2.2.length), t.2.2[i].length ≤ maxLen) :
    ∃ A C, OutTab w base (some ⟨g, 0, none⟩) t.2.1.length (some ⟨g2, 0, none⟩) t A C := by
  obtain ⟨G, hG⟩ := h.rows
  have hlo := h.lo
  have hap := h.apart
  refine ⟨fun i => some ⟨G i, 0, none⟩, fun i => (t.2.2.getD i []).length, own_strs h.cols, hf, hc, Nat.le_refl _, (fun e => by cases e), hr, hn, hfr, hmr, (fun i e => by cases e), own_freeS h.cols, hG.heads, fun k => hG.unmarked k, hG.apartA, ?_, ?_, ?_⟩
  · rintro b ⟨_, o, e⟩ hb
    cases e
    have := (hG.blks _ hb).1
    omega
  · rintro b ⟨_, o, e⟩ _ o' e'
    cases e
    cases e'
    omega
  · rintro b (⟨_, o, e⟩ | hb | ⟨_, o, e⟩)
    · cases e; exact hlo
    · have := (hG.blks _ hb).1; omega
    · cases e; omega

/-- The marked table. -/
structure MarkedT (w : World) (ca ra : Option Addr) (t : TB) (A : Nat → Option Addr) (C : Nat → Nat) (k : Nat) : Prop where
  cols : StrsAt w ca (marksS k t.2.1.length)
  heads : HeadsAt w ra t.2.2 A C
  rows : Marked w t.2.2 A (k + t.2.1.length) t.2.2.length
theorem MarkedT.below {w w' : World} {ca ra : Option Addr} {t : TB} {A : Nat → Option Addr} {C : Nat → Nat} {k : Nat} (h : MarkedT w ca ra t A C k) (hb : Below w.heap.size w w') : MarkedT w' ca ra t A C k :=
  ⟨h.cols.below hb, h.heads.below hb, h.rows.below hb⟩
end Go.Proofs.YtegnekbbbfncgaaGreatDoor

/-
  What Put answers, and the contract of the model's Put.
-/
namespace Go.Proofs.YtegnekbbbfncgaaGreatDoor
open Go.ChangeShapes Go.WideShapes Go.ChangeAt Go.RowKit
attribute [local go_sem ↓] Go.wp_at_zero Go.wp_at_succ
attribute [local simp] World.cell?_alloc_past World.cell?_alloc_at World.frozen?_alloc_at cell_far cell_off cell_here World.frozen?_alloc_past

def zeroT : TB := (⟨#[]⟩, [], [])
theorem OwnRows.base {w : World} {b1 b2 : Nat} {v : Value} {L : List (List CT)} {G C : Nat → Nat} (h : OwnRows w b1 v L G C) (hle : b2 ≤ b1) : OwnRows w b2 v L G C :=
  ⟨own_base h.outer hle, fun j hj => own_base (h.inner j hj) hle, h.apart⟩

theorem OutTab.base {w : World} {b1 b2 : Nat} {ca : Option Addr} {cc : Nat} {ra : Option Addr} {t : TB} {A : Nat → Option Addr} {C : Nat → Nat} (h : OutTab w b1 ca cc ra t A C) (hle : b2 ≤ b1) : OutTab w b2 ca cc ra t A C :=
  ⟨h.cols, h.fit, h.len, h.cap, h.nilC, h.lenR, h.name, h.fitR, h.lenL, h.nilR, h.free, h.heads, h.un, h.ap, h.colR, h.colH, fun b hb => Nat.le_trans hle (h.lo b hb)⟩
/-- Three stores into a block that is not the table's. -/
theorem OutTab.set3 {w : World} {base : Nat} {ca : Option Addr} {cc : Nat} {ra : Option Addr} {t : TB} {A : Nat → Option Addr} {C : Nat → Nat} (h : OutTab w base ca cc ra t A C) (c : Nat) (hc : c < base) (i j k : Nat) (x y z : Value) : OutTab (((w.setCell ⟨c, i, none⟩ x).setCell ⟨c, j, none⟩ y).setCell ⟨c, k, none⟩ z) base ca cc ra t A C := by
  refine h.keepS (P := fun b => b = c) ?_ (fun b hb e => by have := h.lo b hb; omega)
  exact (((KeepS.refl (fun b => b = c) w).setCell (p := ⟨c, i, none⟩) rfl x).setCell (p := ⟨c, j, none⟩) rfl y).setCell (p := ⟨c, k, none⟩) rfl z
end Go.Proofs.YtegnekbbbfncgaaGreatDoor
