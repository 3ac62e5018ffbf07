/-
  A part of the proof: Lists6, Lists7, Lists8, Lists9, Tab3, Rank5, TakenX, Strs2, OutTab, PutS, Draw1, Draw2.
-/
import Derived.Test.YteamdmcgkpeelabGreatDoorPart4
import Derived.Test.YteamdmcgkpeelabGreatDoorPart1

/-
  The contracts of the law's helpers that mark the cells of a list, one number behind the other, and that look whether the marks are still there.
-/
namespace Go.Proofs.YteamdmcgkpeelabGreatDoor
open Go.ChangeShapes Go.WideShapes Go.ChangeAt Go.RowKit
attribute [local go_sem ↓] Go.wp_at_zero Go.wp_at_succ

/-- The i-th mark from k on. -/
def mark1 (k i : Nat) : CT := (((k + 3 * i : Nat) : Int), ((k + 3 * i + 1 : Nat) : Int), mt (k + 3 * i + 2))
/-- The marks of a list of n cells. -/
def marks (k n : Nat) : List CT := (List.range n).map (mark1 k)
theorem marks_length (k n : Nat) : (marks k n).length = n := by simp [marks]
theorem marks_at (k n i : Nat) (h : i < (marks k n).length) : (marks k n)[i] = mark1 k i := by simp [marks]
theorem marks_step (k : Nat) (l : List CT) (i : Nat) (h : i < l.length) : (marks k i ++ l.drop i).set i (mark1 k i) = marks k (i + 1) ++ l.drop (i + 1) := by
  rw [List.set_append_right _ _ (by rw [marks_length]; omega), marks_length, Nat.sub_self]
  have e : l.drop i = l[i] :: l.drop (i + 1) := List.drop_eq_getElem_cons h
  rw [e, List.set_cons_zero]
  simp [marks, List.range_succ]

/-- The cells of a slice may be written. -/
def Free (w : World) (a : Option Addr) (n : Nat) : Prop := ∀ b o, a = some ⟨b, o, none⟩ → ∀ j, j < n * 3 → w.frozen? ⟨b, o + j, none⟩ = false
/-- The block in which a slice of n cells lies, where it has one. -/
def inBlk (a : Option Addr) (n b : Nat) : Prop := 0 < n ∧ ∃ o, a = some ⟨b, o, none⟩

theorem RowAt.upd {w w' : World} {b o : Nat} {l : List CT} {i : Nat} {x : CT} (h : RowAt w (some ⟨b, o, none⟩) l) (hs : w.heap.size ≤ w'.heap.size)
    (hfar : ∀ q, q ≠ o + i * 3 → q ≠ o + i * 3 + 1 → q ≠ o + i * 3 + 2 → w'.cell? ⟨b, q, none⟩ = w.cell? ⟨b, q, none⟩)
    (h0 : w'.cell? ⟨b, o + i * 3, none⟩ = some (.int .i64 x.1)) (h1 : w'.cell? ⟨b, o + i * 3 + 1, none⟩ = some (.int .i64 x.2.1)) (h2 : w'.cell? ⟨b, o + i * 3 + 2, none⟩ = some (.string x.2.2)) :
    RowAt w' (some ⟨b, o, none⟩) (l.set i x) := by
  intro j hj
  have hj' : j < l.length := by simpa using hj
  obtain ⟨b', o', e, hlt, c0, c1, c2⟩ := h j hj'
  cases e
  refine ⟨b, o, rfl, Nat.lt_of_lt_of_le hlt hs, ?_⟩
  by_cases hij : i = j
  · subst hij
    rw [List.getElem_set_self]
    exact ⟨h0, h1, h2⟩
  · rw [List.getElem_set_ne hij]
    refine ⟨?_, ?_, ?_⟩
    · rw [hfar _ (by omega) (by omega) (by omega)]; exact c0
    · rw [hfar _ (by omega) (by omega) (by omega)]; exact c1
    · rw [hfar _ (by omega) (by omega) (by omega)]; exact c2

theorem Free.upd {w w' : World} {a : Option Addr} {n : Nat} (h : Free w a n) (hf : ∀ b o q, a = some ⟨b, o, none⟩ → w'.frozen? ⟨b, q, none⟩ = w.frozen? ⟨b, q, none⟩) : Free w' a n :=
  fun b o e j hj => by rw [hf b o _ e]; exact h b o e j hj

end Go.Proofs.YteamdmcgkpeelabGreatDoor

/-
  The contract of the law's helper that looks whether the marks of a list of cells are still there.
-/
namespace Go.Proofs.YteamdmcgkpeelabGreatDoor
open Go.ChangeShapes Go.WideShapes Go.ChangeAt Go.RowKit
attribute [local go_sem ↓] Go.wp_at_zero Go.wp_at_succ

end Go.Proofs.YteamdmcgkpeelabGreatDoor

/-
  The contracts of the law's helpers that mark the cells of a list of lists, and that look whether the marks are still there.
-/
namespace Go.Proofs.YteamdmcgkpeelabGreatDoor
open Go.ChangeShapes Go.WideShapes Go.ChangeAt Go.RowKit
attribute [local go_sem ↓] Go.wp_at_zero Go.wp_at_succ

/-- How many cells lie ahead of the i-th list. -/
def offs (L : List (List CT)) (i : Nat) : Nat := ((L.take i).map List.length).sum
theorem offs_step (L : List (List CT)) (i : Nat) (h : i < L.length) : offs L (i + 1) = offs L i + L[i].length := by
  unfold offs
  rw [List.take_succ_eq_append_getElem h, List.map_append, List.sum_append]; simp
theorem offs_le (L : List (List CT)) (i : Nat) : offs L i ≤ offs L L.length := by
  unfold offs
  rw [List.take_length]
  conv => rhs; rw [← List.take_append_drop i L, List.map_append, List.sum_append]
  omega

/-- The heads of the lists lie where the slice says. -/
def HeadsAt (w : World) (a : Option Addr) (L : List (List CT)) (A : Nat → Option Addr) (C : Nat → Nat) : Prop :=
  ∀ i (h : i < L.length), ∃ b o, a = some ⟨b, o, none⟩ ∧ b < w.heap.size ∧ w.cell? ⟨b, o + i, none⟩ = some (.slice (A i) L[i].length (C i))
/-- No two lists that have cells share a block, and none shares one with the heads. -/
structure Apart (a : Option Addr) (L : List (List CT)) (A : Nat → Option Addr) : Prop where
  heads : ∀ i (h : i < L.length) b o, a = some ⟨b, o, none⟩ → ¬ inBlk (A i) L[i].length b
  rows : ∀ i j (hi : i < L.length) (hj : j < L.length) b, i ≠ j → inBlk (A i) L[i].length b → ¬ inBlk (A j) L[j].length b

theorem RowAt.keepS {P : Nat → Prop} {w w' : World} {a : Option Addr} {l : List CT} (h : RowAt w a l) (hk : KeepS P w w') (hP : ∀ b, inBlk a l.length b → ¬ P b) : RowAt w' a l := by
  intro j hj
  obtain ⟨b, o, ha, hlt, h0, h1, h2⟩ := h j hj
  have hn := hP b ⟨by omega, o, ha⟩
  exact ⟨b, o, ha, Nat.lt_of_lt_of_le hlt hk.size, by rw [hk.cell hlt hn]; exact h0, by rw [hk.cell hlt hn]; exact h1, by rw [hk.cell hlt hn]; exact h2⟩
theorem Free.keepS {P : Nat → Prop} {w w' : World} {a : Option Addr} {l : List CT} (hf : Free w a l.length) (h : RowAt w a l) (hk : KeepS P w w') (hP : ∀ b, inBlk a l.length b → ¬ P b) : Free w' a l.length := by
  intro b o ha j hj
  obtain ⟨b', o', ha', hlt, _⟩ := h 0 (by omega)
  rw [ha] at ha'
  cases ha'
  rw [hk.frozen hlt (hP b ⟨by omega, o, ha⟩)]
  exact hf b o ha j hj
theorem HeadsAt.keepS {P : Nat → Prop} {w w' : World} {a : Option Addr} {L : List (List CT)} {A : Nat → Option Addr} {C : Nat → Nat} (h : HeadsAt w a L A C) (hk : KeepS P w w') (hP : ∀ b o, a = some ⟨b, o, none⟩ → ¬ P b) : HeadsAt w' a L A C := by
  intro i hi
  obtain ⟨b, o, ha, hlt, h0⟩ := h i hi
  exact ⟨b, o, ha, Nat.lt_of_lt_of_le hlt hk.size, by rw [hk.cell hlt (hP b o ha)]; exact h0⟩

/-- The lists are marked up to the i-th; the others are as they were. -/
def Marked (w : World) (L : List (List CT)) (A : Nat → Option Addr) (k i : Nat) : Prop :=
  ∀ j (h : j < L.length), (j < i → RowAt w (A j) (marks (k + 3 * offs L j) L[j].length)) ∧ (i ≤ j → RowAt w (A j) L[j]) ∧ Free w (A j) L[j].length
/-- The blocks of all lists. -/
def rowBlks (L : List (List CT)) (A : Nat → Option Addr) (b : Nat) : Prop := ∃ i, ∃ h : i < L.length, inBlk (A i) L[i].length b

theorem Marked.step {w w' : World} {a : Option Addr} {L : List (List CT)} {A : Nat → Option Addr} {k i : Nat} (hi : i < L.length) (h : Marked w L A k i) (ap : Apart a L A) (hk : KeepS (inBlk (A i) L[i].length) w w')
    (hr : RowAt w' (A i) (marks (k + 3 * offs L i) L[i].length)) (hf : Free w' (A i) L[i].length) : Marked w' L A k (i + 1) := by
  intro j hj
  by_cases hij : j = i
  · subst hij
    exact ⟨fun _ => hr, fun hle => by omega, hf⟩
  · obtain ⟨h1, h2, h3⟩ := h j hj
    have hP : ∀ b, inBlk (A j) L[j].length b → ¬ inBlk (A i) L[i].length b := fun b hb => ap.rows j i hj hi b hij hb
    refine ⟨fun hlt => ?_, fun hle => (h2 (by omega)).keepS hk hP, ?_⟩
    · exact (h1 (by omega)).keepS hk (by rw [marks_length]; exact hP)
    · by_cases hlt : j < i
      · have hm := h1 hlt
        have := Free.keepS (l := marks (k + 3 * offs L j) L[j].length) (by rw [marks_length]; exact h3) hm hk (by rw [marks_length]; exact hP)
        rwa [marks_length] at this
      · exact h3.keepS (h2 (by omega)) hk hP

end Go.Proofs.YteamdmcgkpeelabGreatDoor

/-
  The contract of the law's helper that takes a list of lists over: new memory, a block for each list.
-/
namespace Go.Proofs.YteamdmcgkpeelabGreatDoor
open Go.ChangeShapes Go.WideShapes Go.ChangeAt Go.RowKit
attribute [local go_sem ↓] Go.wp_at_zero Go.wp_at_succ

/-- The first m lists are taken over, each into a block of its own behind block g. -/
structure Taken (w : World) (g : Nat) (L : List (List CT)) (G : Nat → Nat) (m : Nat) : Prop where
  lt : g < w.heap.size
  there : ∀ i, i < L.length → ∃ u, w.cell? ⟨g, i, none⟩ = some u
  free : ∀ i, i < L.length → w.frozen? ⟨g, i, none⟩ = false
  bounds : ∀ i, i < m → g < G i ∧ G i < w.heap.size
  rises : ∀ i j, i < j → j < m → G i < G j
  rows : ∀ i (h : i < L.length), i < m → w.cell? ⟨g, i, none⟩ = some (.slice (some ⟨G i, 0, none⟩) L[i].length L[i].length) ∧ RowAt w (some ⟨G i, 0, none⟩) L[i] ∧ Free w (some ⟨G i, 0, none⟩) L[i].length

theorem Taken.below {w w' : World} {g : Nat} {L : List (List CT)} {G : Nat → Nat} {m : Nat} (h : Taken w g L G m) (hb : Below w.heap.size w w') : Taken w' g L G m where
  lt := Nat.lt_of_lt_of_le h.lt hb.size
  there i hi := by obtain ⟨u, hu⟩ := h.there i hi; exact ⟨u, by rw [hb.cell (p := ⟨g, i, none⟩) h.lt]; exact hu⟩
  free i hi := by rw [hb.frozen (p := ⟨g, i, none⟩) h.lt]; exact h.free i hi
  bounds i hi := ⟨(h.bounds i hi).1, Nat.lt_of_lt_of_le (h.bounds i hi).2 hb.size⟩
  rises := h.rises
  rows i hi hm := by
    obtain ⟨h1, h2, h3⟩ := h.rows i hi hm
    refine ⟨by rw [hb.cell (p := ⟨g, i, none⟩) h.lt]; exact h1, h2.below hb, ?_⟩
    intro b o e j hj
    cases e
    rw [hb.frozen (p := ⟨G i, _, none⟩) (h.bounds i hm).2]; exact h3 _ _ rfl j hj

/-- One list more is taken over: its head is written. -/
theorem Taken.step {w : World} {g : Nat} {L : List (List CT)} {G : Nat → Nat} {m B : Nat} (h : Taken w g L G m) (hm : m < L.length) (hB : B < w.heap.size) (hgB : g < B) (hup : ∀ i, i < m → G i < B)
    (hr : RowAt w (some ⟨B, 0, none⟩) L[m]) (hf : Free w (some ⟨B, 0, none⟩) L[m].length) :
    Taken (w.setCell ⟨g, m, none⟩ (.slice (some ⟨B, 0, none⟩) L[m].length L[m].length)) g L (fun i => if i = m then B else G i) (m + 1) where
  lt := by simpa using h.lt
  there i hi := by
    by_cases e : i = m
    · subst e
      obtain ⟨u, hu⟩ := h.there i hi
      exact ⟨_, cell_here _ _ _ _ (by rw [hu]; rfl)⟩
    · obtain ⟨u, hu⟩ := h.there i hi
      exact ⟨u, by rw [cell_off _ _ _ _ _ e]; exact hu⟩
  free i hi := by rw [World.frozen?_setCell]; exact h.free i hi
  bounds i hi := by
    by_cases e : i = m
    · simpa [e] using ⟨hgB, hB⟩
    · simpa [e] using h.bounds i (by omega)
  rises i j hij hj := by
    by_cases e : j = m
    · have ei : i ≠ m := by omega
      simpa [e, ei] using hup i (by omega)
    · have ei : i ≠ m := by omega
      simpa [e, ei] using h.rises i j hij (by omega)
  rows i hi hlt := by
    have far : ∀ b q, b ≠ g → (w.setCell ⟨g, m, none⟩ (.slice (some ⟨B, 0, none⟩) L[m].length L[m].length)).cell? ⟨b, q, none⟩ = w.cell? ⟨b, q, none⟩ := fun b q hb => cell_far _ _ _ _ _ _ hb
    have rowFar : ∀ b l, b ≠ g → RowAt w (some ⟨b, 0, none⟩) l → RowAt (w.setCell ⟨g, m, none⟩ (.slice (some ⟨B, 0, none⟩) L[m].length L[m].length)) (some ⟨b, 0, none⟩) l := by
      intro b l hb hr j hj
      obtain ⟨b', o', e, hlt, c0, c1, c2⟩ := hr j hj
      cases e
      exact ⟨b, 0, rfl, by simpa using hlt, by rw [far _ _ hb]; exact c0, by rw [far _ _ hb]; exact c1, by rw [far _ _ hb]; exact c2⟩
    have freeFar : ∀ b n, Free w (some ⟨b, 0, none⟩) n → Free (w.setCell ⟨g, m, none⟩ (.slice (some ⟨B, 0, none⟩) L[m].length L[m].length)) (some ⟨b, 0, none⟩) n := by
      intro b n hf b' o' e j hj
      rw [World.frozen?_setCell]; exact hf b' o' e j hj
    by_cases e : i = m
    · subst e
      obtain ⟨u, hu⟩ := h.there i hi
      simp only [if_true]
      exact ⟨cell_here _ _ _ _ (by rw [hu]; rfl), rowFar _ _ (by omega) hr, freeFar _ _ hf⟩
    · obtain ⟨h1, h2, h3⟩ := h.rows i hi (by omega)
      have hb := (h.bounds i (by omega)).1
      simp only [if_neg e]
      exact ⟨by rw [cell_off _ _ _ _ _ e]; exact h1, rowFar _ _ (by omega) h2, freeFar _ _ h3⟩

end Go.Proofs.YteamdmcgkpeelabGreatDoor

/-
  The contract of the law's helper that takes a table over: all of it lies in new memory.
-/
namespace Go.Proofs.YteamdmcgkpeelabGreatDoor
open Go.ChangeShapes Go.WideShapes Go.ChangeAt Go.RowKit
attribute [local go_sem ↓] Go.wp_at_zero Go.wp_at_succ
attribute [local simp] World.cell?_alloc_past World.cell?_alloc_at World.frozen?_alloc_at cell_far cell_off cell_here World.frozen?_alloc_past

theorem Taken.lies {w : World} {g : Nat} {L : List (List CT)} {G : Nat → Nat} (h : Taken w g L G L.length) (hf : ∀ i (hi : i < L.length), Fit L[i]) (hm : ∀ i (hi : i < L.length), L[i].length ≤ maxLen) : RowsAt w (some ⟨g, 0, none⟩) L := by
  intro i hi
  obtain ⟨h1, h2, _⟩ := h.rows i hi hi
  exact ⟨g, 0, _, _, rfl, h.lt, by rw [Nat.zero_add]; exact h1, h2, hf i hi, hm i hi, fun e => by cases e⟩

end Go.Proofs.YteamdmcgkpeelabGreatDoor

/-
  Rows that lie in memory of their own may be marked: their heads lie there, no two share a block, and all may be written.
-/
namespace Go.Proofs.YteamdmcgkpeelabGreatDoor
open Go.ChangeShapes Go.WideShapes Go.ChangeAt Go.RowKit

theorem own_lt {w : World} {base g n c sz : Nat} {e : TypeId} {xs : List Value} (h : w.ownsRow base e sz (.slice (some ⟨g, 0, none⟩) n c) n xs) : g < w.heap.size := by
  rcases h.2 with ⟨h', _⟩ | ⟨g', cap', cur, h', _, hg, _⟩
  · simp at h'
  · simp only [Value.slice.injEq, Option.some.injEq, Addr.mk.injEq, and_true, true_and] at h'
    obtain ⟨rfl, rfl⟩ := h'
    by_cases hl : g < w.heap.size
    · exact hl
    · rw [Array.getElem?_eq_none (by omega)] at hg; cases hg

theorem getD_at {L : List (List CT)} {i : Nat} (h : i < L.length) : L.getD i [] = L[i] := by simp [List.getD, List.getElem?_eq_getElem h]

/-- The heads lie in one block. -/
theorem OwnRows.head {w : World} {base : Nat} {v : Value} {L : List (List CT)} {G C : Nat → Nat} (h : OwnRows w base v L G C) (hn : v ≠ .slice none 0 0) : ∃ g c, v = .slice (some ⟨g, 0, none⟩) L.length c ∧ base ≤ g := by
  rcases h.outer.2 with ⟨h', _⟩ | ⟨g, c, cur, h', hb, _⟩
  · exact absurd h' hn
  · exact ⟨g, c, h', hb⟩

theorem OwnRows.heads {w : World} {base g c : Nat} {L : List (List CT)} {G C : Nat → Nat} (h : OwnRows w base (.slice (some ⟨g, 0, none⟩) L.length c) L G C) : HeadsAt w (some ⟨g, 0, none⟩) L (fun i => some ⟨G i, 0, none⟩) C := by
  intro i hi
  refine ⟨g, 0, rfl, own_lt h.outer, ?_⟩
  rw [show 0 + i = i by omega, h.outer.cellAt i (by omega)]
  rw [List.getElem?_map, List.getElem?_range hi]
  simp only [Option.map_some, headOf, getD_at hi]

theorem OwnRows.apartA {w : World} {base g c : Nat} {L : List (List CT)} {G C : Nat → Nat} (h : OwnRows w base (.slice (some ⟨g, 0, none⟩) L.length c) L G C) : Apart (some ⟨g, 0, none⟩) L (fun i => some ⟨G i, 0, none⟩) where
  heads i hi b o e := by
    cases e
    rintro ⟨_, o', e'⟩
    cases e'
    exact own_other h.outer (h.inner i hi) (by decide) rfl
  rows i j hi hj b hij := by
    rintro ⟨_, o1, e1⟩ ⟨_, o2, e2⟩
    cases e1
    simp only [Option.some.injEq, Addr.mk.injEq] at e2
    exact h.apart i j hi hj hij e2.1.symm

theorem OwnRows.unmarked {w : World} {base : Nat} {v : Value} {L : List (List CT)} {G C : Nat → Nat} (h : OwnRows w base v L G C) (k : Nat) : Marked w L (fun i => some ⟨G i, 0, none⟩) k 0 := by
  intro j hj
  have hin := h.inner j hj
  rw [headOf, getD_at hj] at hin
  refine ⟨fun hlt => by omega, fun _ => own_row hin, ?_⟩
  intro b o e q hq
  cases e
  exact hin.frozenAt _

theorem OwnRows.rowsAt {w : World} {base g c : Nat} {L : List (List CT)} {G C : Nat → Nat} (h : OwnRows w base (.slice (some ⟨g, 0, none⟩) L.length c) L G C) (hf : ∀ i (hi : i < L.length), Fit L[i]) (hm : ∀ i (hi : i < L.length), L[i].length ≤ maxLen) : RowsAt w (some ⟨g, 0, none⟩) L := by
  intro i hi
  obtain ⟨b, o, e, hlt, hc⟩ := h.heads i hi
  exact ⟨b, o, _, _, e, hlt, hc, (h.unmarked 1 i hi).2.1 (Nat.zero_le _), hf i hi, hm i hi, fun e => by cases e⟩

end Go.Proofs.YteamdmcgkpeelabGreatDoor

/-
  Rows that were taken over, or that lie in memory of their own: what the marks want of them.
-/
namespace Go.Proofs.YteamdmcgkpeelabGreatDoor
open Go.ChangeShapes Go.WideShapes Go.ChangeAt Go.RowKit

theorem Taken.heads {w : World} {g : Nat} {L : List (List CT)} {G : Nat → Nat} (h : Taken w g L G L.length) : HeadsAt w (some ⟨g, 0, none⟩) L (fun i => some ⟨G i, 0, none⟩) (fun i => (L.getD i []).length) := by
  intro i hi
  refine ⟨g, 0, rfl, h.lt, ?_⟩
  rw [show 0 + i = i by omega, (h.rows i hi hi).1]
  dsimp only; rw [getD_at hi]
theorem Taken.apartA {w : World} {g : Nat} {L : List (List CT)} {G : Nat → Nat} (h : Taken w g L G L.length) : Apart (some ⟨g, 0, none⟩) L (fun i => some ⟨G i, 0, none⟩) where
  heads i hi b o e := by
    cases e
    rintro ⟨_, o', e'⟩
    simp only [Option.some.injEq, Addr.mk.injEq] at e'
    have := (h.bounds i hi).1; omega
  rows i j hi hj b hij := by
    rintro ⟨_, o1, e1⟩ ⟨_, o2, e2⟩
    simp only [Option.some.injEq, Addr.mk.injEq] at e1 e2
    rcases Nat.lt_or_gt_of_ne hij with hl | hl
    · have := h.rises i j hl hj; omega
    · have := h.rises j i hl hi; omega
theorem Taken.unmarked {w : World} {g : Nat} {L : List (List CT)} {G : Nat → Nat} (h : Taken w g L G L.length) (k : Nat) : Marked w L (fun i => some ⟨G i, 0, none⟩) k 0 :=
  fun j hj => ⟨fun hlt => by omega, fun _ => (h.rows j hj hj).2.1, (h.rows j hj hj).2.2⟩
theorem Taken.rowsAt {w : World} {g : Nat} {L : List (List CT)} {G : Nat → Nat} (h : Taken w g L G L.length) (hf : ∀ i (hi : i < L.length), Fit L[i]) (hm : ∀ i (hi : i < L.length), L[i].length ≤ maxLen) : RowsAt w (some ⟨g, 0, none⟩) L := by
  intro i hi
  obtain ⟨h1, h2, _⟩ := h.rows i hi hi
  exact ⟨g, 0, _, _, rfl, h.lt, by rw [show 0 + i = i by omega]; exact h1, h2, hf i hi, hm i hi, fun e => by cases e⟩
theorem Taken.blks {w : World} {g : Nat} {L : List (List CT)} {G : Nat → Nat} (h : Taken w g L G L.length) (b : Nat) (hb : rowBlks L (fun i => some ⟨G i, 0, none⟩) b) : g < b ∧ b < w.heap.size := by
  obtain ⟨i, hi, _, o, e⟩ := hb
  simp only [Option.some.injEq, Addr.mk.injEq] at e
  have := h.bounds i hi; omega

theorem own_keepS {w w' : World} {P : Nat → Prop} {base : Nat} {e : TypeId} {size n : Nat} {v : Value} {xs : List Value} (h : w.ownsRow base e size v n xs) (hk : KeepS P w w') (hP : ∀ b, P b → b < base) : w'.ownsRow base e size v n xs := by
  refine ⟨h.1, ?_⟩
  rcases h.2 with h' | ⟨g, cap, cur, h', hbg, hg, hr⟩
  · exact .inl h'
  · refine .inr ⟨g, cap, cur, h', hbg, ?_, hr⟩
    have hlt : g < w.heap.size := by
      by_cases hl : g < w.heap.size
      · exact hl
      · rw [Array.getElem?_eq_none (by omega)] at hg; cases hg
    rw [hk.block g hlt (fun hp => by have := hP g hp; omega)]; exact hg
theorem OwnRows.keepS {w w' : World} {P : Nat → Prop} {base : Nat} {v : Value} {L : List (List CT)} {G C : Nat → Nat} (h : OwnRows w base v L G C) (hk : KeepS P w w') (hP : ∀ b, P b → b < base) : OwnRows w' base v L G C :=
  ⟨own_keepS h.outer hk hP, fun i hi => own_keepS (h.inner i hi) hk hP, h.apart⟩

theorem HeadsAt.below {w w' : World} {a : Option Addr} {L : List (List CT)} {A : Nat → Option Addr} {C : Nat → Nat} (h : HeadsAt w a L A C) (hb : Below w.heap.size w w') : HeadsAt w' a L A C := by
  intro i hi
  obtain ⟨b, o, ha, hlt, h0⟩ := h i hi
  exact ⟨b, o, ha, Nat.lt_of_lt_of_le hlt hb.size, by rw [hb.cell (p := ⟨b, _, none⟩) hlt]; exact h0⟩
theorem Marked.below {w w' : World} {L : List (List CT)} {A : Nat → Option Addr} {k : Nat} (h : Marked w L A k L.length) (hb : Below w.heap.size w w') : Marked w' L A k L.length := by
  intro j hj
  obtain ⟨h1, _, h3⟩ := h j hj
  refine ⟨fun hlt => (h1 hlt).below hb, fun hle => by omega, ?_⟩
  intro b o e q hq
  have hlt : b < w.heap.size := by
    obtain ⟨b', o', e', hlt, _⟩ := h1 hj 0 (by rw [marks_length]; omega)
    rw [e] at e'
    simp only [Option.some.injEq, Addr.mk.injEq] at e'
    omega
  rw [hb.frozen (p := ⟨b, _, none⟩) hlt]; exact h3 b o e q hq

/-- The blocks of rows in memory of their own. -/
theorem OwnRows.blks {w : World} {base : Nat} {v : Value} {L : List (List CT)} {G C : Nat → Nat} (h : OwnRows w base v L G C) (b : Nat) (hb : rowBlks L (fun i => some ⟨G i, 0, none⟩) b) : base ≤ b := by
  obtain ⟨i, hi, _, o, e⟩ := hb
  simp only [Option.some.injEq, Addr.mk.injEq] at e
  rcases (h.inner i hi).2 with ⟨h', _⟩ | ⟨g2, c2, cur2, h', hle, _⟩
  · simp [headOf] at h'
  · simp only [headOf, Value.slice.injEq, Option.some.injEq, Addr.mk.injEq, and_true, true_and] at h'
    omega


end Go.Proofs.YteamdmcgkpeelabGreatDoor

/-
  The contracts of the law's helpers that mark the texts of a list, one number behind the other, and that look whether the marks are still there.
-/
namespace Go.Proofs.YteamdmcgkpeelabGreatDoor
open Go.ChangeShapes Go.WideShapes Go.ChangeAt Go.RowKit
attribute [local go_sem ↓] Go.wp_at_zero Go.wp_at_succ

/-- The marks of a list of n texts. -/
def marksS (k n : Nat) : List ByteArray := (List.range n).map fun i => mt (k + i)
theorem marksS_length (k n : Nat) : (marksS k n).length = n := by simp [marksS]
theorem marksS_at (k n i : Nat) (h : i < (marksS k n).length) : (marksS k n)[i] = mt (k + i) := by simp [marksS]
theorem marksS_step (k : Nat) (l : List ByteArray) (i : Nat) (h : i < l.length) : (marksS k i ++ l.drop i).set i (mt (k + i)) = marksS k (i + 1) ++ l.drop (i + 1) := by
  rw [List.set_append_right _ _ (by rw [marksS_length]; omega), marksS_length, Nat.sub_self]
  have e : l.drop i = l[i] :: l.drop (i + 1) := List.drop_eq_getElem_cons h
  rw [e, List.set_cons_zero]
  simp [marksS, List.range_succ]
/-- The texts of a slice may be written. -/
def FreeS (w : World) (a : Option Addr) (n : Nat) : Prop := ∀ b o, a = some ⟨b, o, none⟩ → ∀ j, j < n → w.frozen? ⟨b, o + j, none⟩ = false
theorem StrsAt.upd {w w' : World} {b o : Nat} {l : List ByteArray} {i : Nat} {x : ByteArray} (h : StrsAt w (some ⟨b, o, none⟩) l) (hs : w.heap.size ≤ w'.heap.size)
    (hfar : ∀ q, q ≠ o + i → w'.cell? ⟨b, q, none⟩ = w.cell? ⟨b, q, none⟩) (h0 : w'.cell? ⟨b, o + i, none⟩ = some (.string x)) : StrsAt w' (some ⟨b, o, none⟩) (l.set i x) := by
  intro j hj
  have hj' : j < l.length := by simpa using hj
  obtain ⟨b', o', e, hlt, c0⟩ := h j hj'
  cases e
  refine ⟨b, o, rfl, Nat.lt_of_lt_of_le hlt hs, ?_⟩
  by_cases hij : i = j
  · subst hij
    rw [List.getElem_set_self]; exact h0
  · rw [List.getElem_set_ne hij, hfar _ (by omega)]; exact c0
theorem FreeS.upd {w w' : World} {a : Option Addr} {n : Nat} (h : FreeS w a n) (hf : ∀ b o q, a = some ⟨b, o, none⟩ → w'.frozen? ⟨b, q, none⟩ = w.frozen? ⟨b, q, none⟩) : FreeS w' a n :=
  fun b o e j hj => by rw [hf b o _ e]; exact h b o e j hj

end Go.Proofs.YteamdmcgkpeelabGreatDoor

/-
  A table in memory of its own: what the marks want of it, and the contracts of the law's helpers that mark a table, and look whether the marks are still there.
-/
namespace Go.Proofs.YteamdmcgkpeelabGreatDoor
open Go.ChangeShapes Go.WideShapes Go.ChangeAt Go.RowKit
attribute [local go_sem ↓] Go.wp_at_zero Go.wp_at_succ
attribute [local simp] World.cell?_alloc_past World.cell?_alloc_at World.frozen?_alloc_at cell_far cell_off cell_here World.frozen?_alloc_past

theorem StrsAt.keepS {P : Nat → Prop} {w w' : World} {a : Option Addr} {l : List ByteArray} (h : StrsAt w a l) (hk : KeepS P w w') (hP : ∀ b, inBlk a l.length b → ¬ P b) : StrsAt w' a l := by
  intro j hj
  obtain ⟨b, o, ha, hlt, h0⟩ := h j hj
  exact ⟨b, o, ha, Nat.lt_of_lt_of_le hlt hk.size, by rw [hk.cell hlt (hP b ⟨by omega, o, ha⟩)]; exact h0⟩
theorem FreeS.keepS {P : Nat → Prop} {w w' : World} {a : Option Addr} {l : List ByteArray} (hf : FreeS w a l.length) (h : StrsAt w a l) (hk : KeepS P w w') (hP : ∀ b, inBlk a l.length b → ¬ P b) : FreeS w' a l.length := by
  intro b o ha j hj
  obtain ⟨b', o', ha', hlt, _⟩ := h j hj
  rw [ha] at ha'
  cases ha'
  rw [hk.frozen hlt (hP b ⟨by omega, o, ha⟩)]
  exact hf b o ha j hj
theorem HeadsAt.keepN {P : Nat → Prop} {w w' : World} {a : Option Addr} {L : List (List CT)} {A : Nat → Option Addr} {C : Nat → Nat} (h : HeadsAt w a L A C) (hk : KeepS P w w') (hP : ∀ b o, 0 < L.length → a = some ⟨b, o, none⟩ → ¬ P b) : HeadsAt w' a L A C := by
  intro i hi
  obtain ⟨b, o, ha, hlt, h0⟩ := h i hi
  exact ⟨b, o, ha, Nat.lt_of_lt_of_le hlt hk.size, by rw [hk.cell hlt (hP b o (by omega) ha)]; exact h0⟩
theorem Marked.keep0 {P : Nat → Prop} {w w' : World} {L : List (List CT)} {A : Nat → Option Addr} {k : Nat} (h : Marked w L A k 0) (hk : KeepS P w w') (hP : ∀ b, rowBlks L A b → ¬ P b) : Marked w' L A k 0 := by
  intro j hj
  obtain ⟨_, h2, h3⟩ := h j hj
  have hq : ∀ b, inBlk (A j) L[j].length b → ¬ P b := fun b hb => hP b ⟨j, hj, hb⟩
  exact ⟨fun hlt => by omega, fun _ => (h2 (Nat.zero_le _)).keepS hk hq, h3.keepS (h2 (Nat.zero_le _)) hk hq⟩
theorem Marked.keepL {P : Nat → Prop} {w w' : World} {L : List (List CT)} {A : Nat → Option Addr} {k : Nat} (h : Marked w L A k L.length) (hk : KeepS P w w') (hP : ∀ b, rowBlks L A b → ¬ P b) : Marked w' L A k L.length := by
  intro j hj
  obtain ⟨h1, _, h3⟩ := h j hj
  have hq : ∀ b, inBlk (A j) L[j].length b → ¬ P b := fun b hb => hP b ⟨j, hj, hb⟩
  refine ⟨fun _ => (h1 hj).keepS hk (by rw [marks_length]; exact hq), fun hle => by omega, ?_⟩
  have := Free.keepS (l := marks (k + 3 * offs L j) L[j].length) (by rw [marks_length]; exact h3) (h1 hj) hk (by rw [marks_length]; exact hq)
  rwa [marks_length] at this

/-- The blocks of a table. -/
def tabBlks (ca ra : Option Addr) (t : TB) (A : Nat → Option Addr) (b : Nat) : Prop :=
  inBlk ca t.2.1.length b ∨ rowBlks t.2.2 A b ∨ (0 < t.2.2.length ∧ ∃ o, ra = some ⟨b, o, none⟩)
/-- A table whose lists share no memory, all of it at base or behind. -/
structure OutTab (w : World) (base : Nat) (ca : Option Addr) (cc : Nat) (ra : Option Addr) (t : TB) (A : Nat → Option Addr) (C : Nat → Nat) : Prop where
  cols : StrsAt w ca t.2.1
  fit : FitS t.2.1
  len : t.2.1.length ≤ maxLen
  cap : t.2.1.length ≤ cc
  nilC : ca = none → cc = 0
  lenR : t.2.2.length ≤ maxLen
  name : t.1.size ≤ maxLen
  fitR : ∀ i (hi : i < t.2.2.length), Fit t.2.2[i]
  lenL : ∀ i (hi : i < t.2.2.length), t.2.2[i].length ≤ maxLen
  nilR : ∀ i, A i = none → C i = 0
  free : FreeS w ca t.2.1.length
  heads : HeadsAt w ra t.2.2 A C
  un : ∀ k, Marked w t.2.2 A k 0
  ap : Apart ra t.2.2 A
  colR : ∀ b, inBlk ca t.2.1.length b → ¬ rowBlks t.2.2 A b
  colH : ∀ b, inBlk ca t.2.1.length b → 0 < t.2.2.length → ∀ o, ra ≠ some ⟨b, o, none⟩
  lo : ∀ b, tabBlks ca ra t A b → base ≤ b
theorem OutTab.tab {w : World} {base : Nat} {ca : Option Addr} {cc : Nat} {ra : Option Addr} {t : TB} {A : Nat → Option Addr} {C : Nat → Nat} (h : OutTab w base ca cc ra t A C) : TabAt w ca cc ra t := by
  refine ⟨h.cols, h.fit, h.len, h.cap, h.nilC, ?_, h.lenR, h.name⟩
  intro i hi
  obtain ⟨b, o, e, hlt, c0⟩ := h.heads i hi
  exact ⟨b, o, A i, C i, e, hlt, c0, (h.un 0 i hi).2.1 (Nat.zero_le _), h.fitR i hi, h.lenL i hi, h.nilR i⟩
theorem OutTab.keepS {w w' : World} {P : Nat → Prop} {base : Nat} {ca : Option Addr} {cc : Nat} {ra : Option Addr} {t : TB} {A : Nat → Option Addr} {C : Nat → Nat} (h : OutTab w base ca cc ra t A C) (hk : KeepS P w w') (hP : ∀ b, tabBlks ca ra t A b → ¬ P b) : OutTab w' base ca cc ra t A C :=
  ⟨h.cols.keepS hk (fun b hb => hP b (.inl hb)), h.fit, h.len, h.cap, h.nilC, h.lenR, h.name, h.fitR, h.lenL, h.nilR, h.free.keepS h.cols hk (fun b hb => hP b (.inl hb)), h.heads.keepN hk (fun b o h0 e => hP b (.inr (.inr ⟨h0, o, e⟩))),
    fun k => (h.un k).keep0 hk (fun b hb => hP b (.inr (.inl hb))), h.ap, h.colR, h.colH, h.lo⟩
theorem OutTab.below {w w' : World} {base : Nat} {ca : Option Addr} {cc : Nat} {ra : Option Addr} {t : TB} {A : Nat → Option Addr} {C : Nat → Nat} (h : OutTab w base ca cc ra t A C) (hb : Below w.heap.size w w') : OutTab w' base ca cc ra t A C :=
  h.keepS (KeepS.ofBelow (P := fun _ => False) hb) (fun _ _ h => h)
theorem OutTab.lt {w : World} {base : Nat} {ca : Option Addr} {cc : Nat} {ra : Option Addr} {t : TB} {A : Nat → Option Addr} {C : Nat → Nat} (h : OutTab w base ca cc ra t A C) (b : Nat) (hb : tabBlks ca ra t A b) : b < w.heap.size := by
  rcases hb with ⟨h0, o, e⟩ | ⟨i, hi, h0, o, e⟩ | ⟨h0, o, e⟩
  · obtain ⟨b', o', e', hlt, _⟩ := h.cols 0 h0
    rw [e] at e'; cases e'; exact hlt
  · obtain ⟨b', o', e', hlt, _⟩ := (h.un 0 i hi).2.1 (Nat.zero_le _) 0 h0
    rw [e] at e'; cases e'; exact hlt
  · obtain ⟨b', o', e', hlt, _⟩ := h.heads 0 h0
    rw [e] at e'; cases e'; exact hlt

theorem own_freeS {w : World} {base g n c : Nat} {e : TypeId} {xs : List Value} (h : w.ownsRow base e 1 (.slice (some ⟨g, 0, none⟩) n c) n xs) : FreeS w (some ⟨g, 0, none⟩) n := by
  intro b o e j hj
  cases e
  rw [Nat.zero_add]
  exact h.frozenAt j

/-- Columns and rows that a call laid are a table in memory of its own. -/
theorem out_of_own {w : World} {base g c g2 c2 : Nat} {S : TypeId} {t : TB} {G D : Nat → Nat} (hS : S ≠ 67) (hS2 : S ≠ 78) (ho : w.ownsRow base S 1 (.slice (some ⟨g, 0, none⟩) t.2.1.length c) t.2.1.length (strV t.2.1)) (hr : OwnRows w base (.slice (some ⟨g2, 0, none⟩) t.2.2.length c2) t.2.2 G D)
    (hcap : t.2.1.length ≤ c) (hf : FitS t.2.1) (hn : t.1.size ≤ maxLen) (hc : t.2.1.length ≤ maxLen) (hrl : t.2.2.length ≤ maxLen) (hfr : ∀ i (hi : i < t.2.2.length), Fit t.2.2[i]) (hmr : ∀ i (hi : i < t.2.2.length), t.2.2[i].length ≤ maxLen) :
    OutTab w base (some ⟨g, 0, none⟩) c (some ⟨g2, 0, none⟩) t (fun i => some ⟨G i, 0, none⟩) D := by
  refine ⟨own_strs ho, hf, hc, hcap, (fun e => by cases e), hrl, hn, hfr, hmr, (fun i e => by cases e), own_freeS ho, hr.heads, fun k => hr.unmarked k, hr.apartA, ?_, ?_, ?_⟩
  · rintro b ⟨_, o, e⟩ ⟨i, hi, _, o', e'⟩
    cases e
    have := hr.inner i hi
    unfold headOf at this
    refine own_other ho this hS2 ?_
    simp only [Option.some.injEq, Addr.mk.injEq] at e'
    rw [e'.1]; rfl
  · rintro b ⟨_, o, e⟩ _ o' e'
    cases e
    cases e'
    exact own_other ho hr.outer hS rfl
  · rintro b (⟨_, o, e⟩ | hb | ⟨_, o, e⟩)
    · cases e; exact (ho.lt _ rfl).1
    · exact hr.blks _ hb
    · cases e; exact (hr.outer.lt _ rfl).1

/-- The marked table. -/
structure MarkedT (w : World) (ca ra : Option Addr) (t : TB) (A : Nat → Option Addr) (C : Nat → Nat) (k : Nat) : Prop where
  cols : StrsAt w ca (marksS k t.2.1.length)
  heads : HeadsAt w ra t.2.2 A C
  rows : Marked w t.2.2 A (k + t.2.1.length) t.2.2.length
theorem MarkedT.below {w w' : World} {ca ra : Option Addr} {t : TB} {A : Nat → Option Addr} {C : Nat → Nat} {k : Nat} (h : MarkedT w ca ra t A C k) (hb : Below w.heap.size w w') : MarkedT w' ca ra t A C k :=
  ⟨h.cols.below hb, h.heads.below hb, h.rows.below hb⟩
/-- The number behind the marks. -/
def markN (t : TB) (k : Nat) : Nat := k + t.2.1.length + 3 * offs t.2.2 t.2.2.length

end Go.Proofs.YteamdmcgkpeelabGreatDoor

/-
  What Put answers, and the contract of the model's Put.
-/
namespace Go.Proofs.YteamdmcgkpeelabGreatDoor
open Go.ChangeShapes Go.WideShapes Go.ChangeAt Go.RowKit
attribute [local go_sem ↓] Go.wp_at_zero Go.wp_at_succ
attribute [local simp] World.cell?_alloc_past World.cell?_alloc_at World.frozen?_alloc_at cell_far cell_off cell_here World.frozen?_alloc_past

def zeroT : TB := (⟨#[]⟩, [], [])
def putT (t : TB) (r : List CT) : TB := (t.1, t.2.1, t.2.2 ++ [r])
/-- The table that Put answers, and whether it was put. -/
def putR (t : TB) (r : List CT) : TB × Bool := if tableB t = true then (if tableB (putT t r) = true then (putT t r, true) else (t, false)) else (zeroT, false)
/-- Put's answer: a table in memory of its own, and the word. -/
def PutOut (w : World) (T : TB) (b : Bool) (e : Ending) (w' : World) : Prop :=
  ∃ ca cc ra cr A C, e = .returned (.tuple #[.agg #[.string T.1, .slice ca T.2.1.length cc, .slice ra T.2.2.length cr], .bool b]) ∧ OutTab w' w.heap.size ca cc ra T A C ∧ Below w.heap.size w w' ∧ T.2.2.length ≤ cr
theorem table_row' {t : TB} (h : tableB t = true) (i : Nat) (hi : i < t.2.2.length) : t.2.2[i].length = t.2.1.length ∧ t.2.2[i].all okC = true := by
  unfold tableB at h
  rw [Bool.and_eq_true, List.all_eq_true] at h
  have := h.2 _ (List.getElem_mem hi)
  unfold rowOk at this
  rw [Bool.and_eq_true, decide_eq_true_eq] at this
  exact this
theorem table_len' {t : TB} (h : tableB t = true) : t.2.1.length ≤ 6 ∧ t.2.2.length ≤ 60 := by
  unfold tableB at h
  rw [Bool.and_eq_true, Bool.and_eq_true, Bool.and_eq_true, decide_eq_true_eq] at h
  have h2 := h.1.2.1
  unfold namesB at h2
  rw [Bool.and_eq_true, Bool.and_eq_true, decide_eq_true_eq, decide_eq_true_eq] at h2
  have := h2.2.2
  exact ⟨by omega, h.1.2.2⟩
theorem own_cap {w : World} {base n g c : Nat} {e : TypeId} {size m : Nat} {xs : List Value} (h : w.ownsRow base e size (.slice (some ⟨g, 0, none⟩) m c) n xs) : n ≤ c := by
  rcases h.2 with ⟨h1, _⟩ | ⟨g', c', cur, h', _, _, hle, _⟩
  · simp at h1
  · simp only [Value.slice.injEq] at h'
    omega
theorem out_zero (w : World) (base : Nat) : OutTab w base none 0 none zeroT (fun _ => none) (fun _ => 0) where
  cols := fun j hj => absurd hj (Nat.not_lt_zero _)
  fit := fun j hj => absurd hj (Nat.not_lt_zero _)
  len := Nat.zero_le _
  cap := Nat.le_refl _
  nilC := fun _ => rfl
  lenR := Nat.zero_le _
  name := Nat.zero_le _
  fitR := fun j hj => absurd hj (Nat.not_lt_zero _)
  lenL := fun j hj => absurd hj (Nat.not_lt_zero _)
  nilR := fun _ _ => rfl
  free := fun b o e => (by cases e)
  heads := fun j hj => absurd hj (Nat.not_lt_zero _)
  un := fun k j hj => absurd hj (Nat.not_lt_zero _)
  ap := ⟨fun j hj => absurd hj (Nat.not_lt_zero _), fun i j hi => absurd hi (Nat.not_lt_zero _)⟩
  colR := by rintro b ⟨_, o, e⟩; cases e
  colH := by rintro b ⟨_, o, e⟩; cases e
  lo := by
    rintro b (⟨_, o, e⟩ | ⟨i, hi, _⟩ | ⟨_, o, e⟩)
    · cases e
    · exact absurd hi (Nat.not_lt_zero _)
    · cases e
theorem own_setT {w : World} {base : Nat} {e : TypeId} {size : Nat} {v : Value} {n : Nat} {xs : List Value} {c : Nat} {T : TypeId} {cur : Array Value} {fz : Nat × Nat} (h : w.ownsRow base e size v n xs) (hc : w.heap[c]? = some (.cells cur T fz)) (hT : T ≠ e) (i : Nat) (u : Value) : (w.setCell ⟨c, i, none⟩ u).ownsRow base e size v n xs := by
  refine ⟨h.1, ?_⟩
  rcases h.2 with h' | ⟨g, cap, cur, h', hbg, hg, hr⟩
  · exact .inl h'
  · refine .inr ⟨g, cap, cur, h', hbg, ?_, hr⟩
    have hlt : g < w.heap.size := by
      by_cases hl : g < w.heap.size
      · exact hl
      · rw [Array.getElem?_eq_none (by omega)] at hg; cases hg
    have hne : g ≠ c := by
      rintro rfl
      rw [hc] at hg
      simp at hg
      exact hT hg.2.1
    rw [((Keep.refl c w).setCell (p := ⟨c, i, none⟩) (Or.inl rfl) u).block g hlt hne]; exact hg
theorem OwnRows.setT {w : World} {base : Nat} {v : Value} {L : List (List CT)} {G C : Nat → Nat} {c : Nat} {T : TypeId} {cur : Array Value} {fz : Nat × Nat} (h : OwnRows w base v L G C) (hc : w.heap[c]? = some (.cells cur T fz)) (h1 : T ≠ 67) (h2 : T ≠ 78) (i : Nat) (u : Value) : OwnRows (w.setCell ⟨c, i, none⟩ u) base v L G C :=
  ⟨own_setT h.outer hc h1 i u, fun j hj => own_setT (h.inner j hj) hc h2 i u, h.apart⟩
theorem OwnRows.base {w : World} {b1 b2 : Nat} {v : Value} {L : List (List CT)} {G C : Nat → Nat} (h : OwnRows w b1 v L G C) (hle : b2 ≤ b1) : OwnRows w b2 v L G C :=
  ⟨own_base h.outer hle, fun j hj => own_base (h.inner j hj) hle, h.apart⟩

theorem OutTab.base {w : World} {b1 b2 : Nat} {ca : Option Addr} {cc : Nat} {ra : Option Addr} {t : TB} {A : Nat → Option Addr} {C : Nat → Nat} (h : OutTab w b1 ca cc ra t A C) (hle : b2 ≤ b1) : OutTab w b2 ca cc ra t A C :=
  ⟨h.cols, h.fit, h.len, h.cap, h.nilC, h.lenR, h.name, h.fitR, h.lenL, h.nilR, h.free, h.heads, h.un, h.ap, h.colR, h.colH, fun b hb => Nat.le_trans hle (h.lo b hb)⟩
/-- Three stores into a block that is not the table's. -/
theorem OutTab.set3 {w : World} {base : Nat} {ca : Option Addr} {cc : Nat} {ra : Option Addr} {t : TB} {A : Nat → Option Addr} {C : Nat → Nat} (h : OutTab w base ca cc ra t A C) (c : Nat) (hc : c < base) (i j k : Nat) (x y z : Value) : OutTab (((w.setCell ⟨c, i, none⟩ x).setCell ⟨c, j, none⟩ y).setCell ⟨c, k, none⟩ z) base ca cc ra t A C := by
  refine h.keepS (P := fun b => b = c) ?_ (fun b hb e => by have := h.lo b hb; omega)
  exact (((KeepS.refl (fun b => b = c) w).setCell (p := ⟨c, i, none⟩) rfl x).setCell (p := ⟨c, j, none⟩) rfl y).setCell (p := ⟨c, k, none⟩) rfl z
theorem append_each {P : List CT → Prop} {L : List (List CT)} {r : List CT} (h : ∀ i (hi : i < L.length), P L[i]) (hr : P r) : ∀ i (hi : i < (L ++ [r]).length), P (L ++ [r])[i] := by
  intro i hi
  by_cases hl : i < L.length
  · rw [List.getElem_append_left hl]; exact h i hl
  · have : i = L.length := by simp at hi; omega
    subst this
    rw [List.getElem_append_right (Nat.le_refl _)]
    simpa using hr

/-- The model's step: the head of a new row behind the others, then the slice into the table's own block. -/
theorem put_step {W2 w3 w4 : World} {base g c g2 c2 g4 c4 gr cr n nr cb : Nat} {o : Obj} {nm : ByteArray} {C : List ByteArray} {L : List (List CT)} {r : List CT} {G D : Nat → Nat} {cur : Array Value} {fz : Nat × Nat}
    (O1 : W2.ownsRow base 9 1 (.slice (some ⟨g, 0, none⟩) C.length c) C.length (strV C)) (O2 : OwnRows W2 base (.slice (some ⟨g2, 0, none⟩) nr c2) L G D) (hob : W2.heap[cb]? = some (.cells cur 35 fz)) (hnr : L.length = nr) (hn : r.length = n)
    (hx3 : Below W2.heap.size W2 w3) (hbs : base ≤ W2.heap.size) (hgr : W2.heap.size ≤ gr) (ownr : w3.ownsRow W2.heap.size 78 3 (.slice (some ⟨gr, 0, none⟩) r.length cr) r.length (flat r))
    (own4 : w4.ownsRow base 67 1 (.slice (some ⟨g4, 0, none⟩) (nr + 1) c4) (L.length + 1) ((List.range L.length).map (headOf G D L) ++ [.slice (some ⟨gr, 0, none⟩) n cr])) (hgrow : (w3.alloc o).grownBy w4 (Value.slice (some ⟨g2, 0, none⟩) nr c2).ownBlock)
    (hgg : g2 < cb) (hcc : C.length ≤ c) (hf : FitS C) (hnm : nm.size ≤ maxLen) (hC : C.length ≤ maxLen) (hL : nr + 1 ≤ maxLen) (hfr : ∀ i (hi : i < L.length), Fit L[i]) (hlr : ∀ i (hi : i < L.length), L[i].length ≤ maxLen) (hfr1 : Fit r) (hlr1 : n ≤ maxLen) (u : Value) :
    ∃ G' D', OutTab (w4.setCell ⟨cb, 2, none⟩ u) base (some ⟨g, 0, none⟩) c (some ⟨g4, 0, none⟩) (putT (nm, C, L) r) G' D' := by
  subst hnr hn
  have hcb : cb < W2.heap.size := by
    by_cases hl : cb < W2.heap.size
    · exact hl
    · rw [Array.getElem?_eq_none (by omega)] at hob; cases hob
  have h3 := hx3.size
  have hbk : w4.heap[cb]? = some (.cells cur 35 fz) := by
    rw [hgrow.block cb (by simp; omega) (by simp [Value.ownBlock]; omega)]
    show (w3.heap.push _)[cb]? = _
    rw [Array.getElem?_push_lt (by omega), ← Array.getElem?_eq_getElem (by omega), hx3.block cb hcb]; exact hob
  obtain ⟨G', D', S⟩ := O2.step hx3 hgr (own_base ownr hbs) own4 hgrow
  have C4 := ((own_below O1 hx3).alloc o).kept hgrow (.inr (own_other O1 O2.outer (by decide)))
  have S5 := S.setT (i := 2) (u := u) hbk (by decide) (by decide)
  have C5 := own_setT (i := 2) (u := u) C4 hbk (by decide)
  have e : (L ++ [r]).length = L.length + 1 := by simp
  refine ⟨_, _, out_of_own (S := 9) (t := putT (nm, C, L) r) (by decide) (by decide) C5 (by rw [← e] at S5; exact S5) hcc hf hnm hC (by rw [← e] at hL; exact hL) (append_each (P := fun l => Fit l) hfr hfr1) (append_each (P := fun l => l.length ≤ maxLen) hlr hlr1)⟩

end Go.Proofs.YteamdmcgkpeelabGreatDoor

/-
  The contracts of the drawing cursor: where it lies in memory, and that a byte drawn is from 0 to 255.
-/
namespace Go.Proofs.YteamdmcgkpeelabGreatDoor
open Go.ChangeShapes Go.WideShapes Go.ChangeAt Go.RowKit

/-- A cursor lies at block c: its bytes, how far it has come, its number. -/
structure Cur (w : World) (c : Nat) (a : Option Addr) (len cap : Nat) : Prop where
  c0 : w.cell? ⟨c, 0, none⟩ = some (.slice a len cap)
  c1 : ∃ i : Nat, w.cell? ⟨c, 1, none⟩ = some (.int .i64 (i : Int)) ∧ i ≤ len
  c2 : ∃ h : Int, w.cell? ⟨c, 2, none⟩ = some (.int .i64 h)
  f0 : w.frozen? ⟨c, 0, none⟩ = false
  f1 : w.frozen? ⟨c, 1, none⟩ = false
  f2 : w.frozen? ⟨c, 2, none⟩ = false
  lt : c < w.heap.size
  hlen : len ≤ maxLen
  row : ∀ j, j < len → ∃ (rb ro : Nat) (v : Int), a = some ⟨rb, ro, none⟩ ∧ rb < c ∧ w.cell? ⟨rb, ro + j, none⟩ = some (.int .u8 v) ∧ 0 ≤ v ∧ v ≤ 255

theorem Cur.below {w w' : World} {c : Nat} {a : Option Addr} {len cap : Nat} (h : Cur w c a len cap) (hb : Below w.heap.size w w') : Cur w' c a len cap := by
  have hc : ∀ o, w'.cell? ⟨c, o, none⟩ = w.cell? ⟨c, o, none⟩ := fun o => hb.cell (p := ⟨c, o, none⟩) h.lt
  have hf : ∀ o, w'.frozen? ⟨c, o, none⟩ = w.frozen? ⟨c, o, none⟩ := fun o => hb.frozen (p := ⟨c, o, none⟩) h.lt
  refine ⟨by rw [hc]; exact h.c0, by rw [hc]; exact h.c1, by rw [hc]; exact h.c2, by rw [hf]; exact h.f0, by rw [hf]; exact h.f1, by rw [hf]; exact h.f2, Nat.lt_of_lt_of_le h.lt hb.size, h.hlen, ?_⟩
  intro j hj
  obtain ⟨rb, ro, v, ha, hlt, hcell, hv⟩ := h.row j hj
  exact ⟨rb, ro, v, ha, hlt, by rw [hb.cell (p := ⟨rb, ro + j, none⟩) (Nat.lt_trans hlt h.lt)]; exact hcell, hv⟩

theorem Cur.drewN {w : World} {c : Nat} {a : Option Addr} {len cap : Nat} (h : Cur w c a len cap) (n : Nat) : Cur (w.drewN n) c a len cap :=
  ⟨h.c0, h.c1, h.c2, h.f0, h.f1, h.f2, h.lt, h.hlen, h.row⟩
theorem Cur.drew {w : World} {c : Nat} {a : Option Addr} {len cap : Nat} (h : Cur w c a len cap) : Cur w.drew c a len cap :=
  ⟨h.c0, h.c1, h.c2, h.f0, h.f1, h.f2, h.lt, h.hlen, h.row⟩

theorem set_row {w : World} {c : Nat} {a : Option Addr} {len o : Nat} {u : Value} (row : ∀ j, j < len → ∃ (rb ro : Nat) (v : Int), a = some ⟨rb, ro, none⟩ ∧ rb < c ∧ w.cell? ⟨rb, ro + j, none⟩ = some (.int .u8 v) ∧ 0 ≤ v ∧ v ≤ 255) :
    ∀ j, j < len → ∃ (rb ro : Nat) (v : Int), a = some ⟨rb, ro, none⟩ ∧ rb < c ∧ (w.setCell ⟨c, o, none⟩ u).cell? ⟨rb, ro + j, none⟩ = some (.int .u8 v) ∧ 0 ≤ v ∧ v ≤ 255 := by
  intro j hj
  obtain ⟨rb, ro, v, ha, hlt, hcell, hv⟩ := row j hj
  exact ⟨rb, ro, v, ha, hlt, by rw [World.cell?_of_block (w := w) (Below.heap_setCell w _ u rb (Nat.ne_of_lt hlt))]; exact hcell, hv⟩

theorem Cur.set2 {w : World} {c : Nat} {a : Option Addr} {len cap : Nat} (h : Cur w c a len cap) (v : Int) : Cur (w.setCell ⟨c, 2, none⟩ (.int .i64 v)) c a len cap := by
  obtain ⟨c0, ⟨i, c1, hi⟩, ⟨hh, c2⟩, f0, f1, f2, lt, hlen, row⟩ := h
  refine ⟨?_, ⟨i, ?_, hi⟩, ⟨v, ?_⟩, by rw [World.frozen?_setCell]; exact f0, by rw [World.frozen?_setCell]; exact f1, by rw [World.frozen?_setCell]; exact f2, by simpa using lt, hlen, set_row row⟩
  · rw [World.cell?_setCell_other _ _ _ _ (by simp)]; exact c0
  · rw [World.cell?_setCell_other _ _ _ _ (by simp)]; exact c1
  · exact World.cell?_setCell_same _ _ _ c2

theorem Cur.set1 {w : World} {c : Nat} {a : Option Addr} {len cap : Nat} (h : Cur w c a len cap) (i : Nat) (hi : i ≤ len) (v : Int) (hv : v = (i : Int)) : Cur (w.setCell ⟨c, 1, none⟩ (.int .i64 v)) c a len cap := by
  subst hv
  obtain ⟨c0, ⟨i', c1, _⟩, ⟨hh, c2⟩, f0, f1, f2, lt, hlen, row⟩ := h
  refine ⟨?_, ⟨i, ?_, hi⟩, ⟨hh, ?_⟩, by rw [World.frozen?_setCell]; exact f0, by rw [World.frozen?_setCell]; exact f1, by rw [World.frozen?_setCell]; exact f2, by simpa using lt, hlen, set_row row⟩
  · rw [World.cell?_setCell_other _ _ _ _ (by simp)]; exact c0
  · exact World.cell?_setCell_same _ _ _ c1
  · rw [World.cell?_setCell_other _ _ _ _ (by simp)]; exact c2

/-- A store into a block that was made behind the cursor. -/
theorem Cur.setAbove {w : World} {c : Nat} {a : Option Addr} {len cap : Nat} (h : Cur w c a len cap) {b o : Nat} (hb : c < b) (u : Value) : Cur (w.setCell ⟨b, o, none⟩ u) c a len cap := by
  have hc : ∀ k q, k ≤ c → (w.setCell ⟨b, o, none⟩ u).cell? ⟨k, q, none⟩ = w.cell? ⟨k, q, none⟩ := fun k q hk => World.cell?_of_block (w := w) (Below.heap_setCell w _ u k (by simp; omega))
  obtain ⟨c0, c1, c2, f0, f1, f2, lt, hlen, row⟩ := h
  refine ⟨by rw [hc _ _ (Nat.le_refl _)]; exact c0, by rw [hc _ _ (Nat.le_refl _)]; exact c1, by rw [hc _ _ (Nat.le_refl _)]; exact c2, by rw [World.frozen?_setCell]; exact f0, by rw [World.frozen?_setCell]; exact f1, by rw [World.frozen?_setCell]; exact f2, by simpa using lt, hlen, ?_⟩
  intro j hj
  obtain ⟨rb, ro, v, ha, hlt, hcell, hv⟩ := row j hj
  exact ⟨rb, ro, v, ha, hlt, by rw [hc _ _ (Nat.le_of_lt hlt)]; exact hcell, hv⟩

theorem Cur.alloc {w : World} {c : Nat} {a : Option Addr} {len cap : Nat} (h : Cur w c a len cap) (o : Obj) : Cur (w.alloc o) c a len cap :=
  h.below ((Below.refl _ _).alloc (Nat.le_refl _) o)

theorem i64_and255 (n : Int) : bits .and .i64 n 255 = n % 256 := by
  have h255 : (BitVec.ofInt 64 255).toNat = 2 ^ 8 - 1 := by decide
  have key : (BitVec.ofInt 64 n &&& BitVec.ofInt 64 255).toNat = (n % ((2 ^ 64 : Nat) : Int)).toNat % 2 ^ 8 := by
    rw [BitVec.toNat_and, BitVec.toNat_ofInt, h255, Nat.and_two_pow_sub_one_eq_mod]
  show IntKind.i64.wrap ((BitVec.ofInt 64 n &&& BitVec.ofInt 64 255).toNat : Nat) = n % 256
  rw [key, IntKind.wrap_i64]
  omega

theorem and255 (n : Int) : 0 ≤ bits .and .i64 n 255 ∧ bits .and .i64 n 255 ≤ 255 := by
  rw [i64_and255]; omega

set_option maxHeartbeats 1000000 in
theorem byte_draw {w : World} {c : Nat} {a : Option Addr} {len cap : Nat} (h : Cur w c a len cap) :
    Calls Tryz.prog 71 #[.pointer (some ⟨c, 0, none⟩)] w fun e w' => ∃ x : Int, e = .returned (.int .i64 x) ∧ 0 ≤ x ∧ x ≤ 255 ∧ Cur w' c a len cap ∧ Keep c w w' := by
  have hcur : Hid (Cur w c a len cap) := h
  obtain ⟨c0, ⟨i, c1, hi⟩, ⟨hh, c2⟩, f0, f1, f2, lt, hlen, row⟩ := h
  unfold maxLen at hlen
  by_cases hl : i < len
  · obtain ⟨rb, ro, v, ha, hlt, hcell, hv0, hv1⟩ := row i hl
    have hne : rb ≠ c := Nat.ne_of_lt hlt
    subst ha
    have hi0 : (0 : Int) ≤ (i : Int) := by omega
    have hi1 : (i : Int) < (len : Int) := by omega
    clear row
    go_enter Tryz.func71, Tryz.ntmps71
    go_wp2
    go_quiet (fail)
    go_wp2
    go_quiet (fail)
    go_wp2
    go_quiet (fail)
    go_wp2
    go_ret
    refine ⟨_, rfl, (and255 _).1, (and255 _).2, ?_, ?_⟩
    · exact Cur.set1 ((hcur.out.set2 _).drewN _) (i + 1) (by omega) _ (by omega)
    · exact (((Keep.refl c w).setCell (p := ⟨c, 2, none⟩) (Or.inl rfl) _).drewN _).setCell (p := ⟨c, 1, none⟩) (Or.inl rfl) _
  · clear row
    go_enter Tryz.func71, Tryz.ntmps71
    go_wp2
    go_quiet (fail)
    go_wp2
    go_quiet (fail)
    go_wp2
    go_ret
    refine ⟨_, rfl, (and255 _).1, (and255 _).2, ?_, ?_⟩
    · exact ((hcur.out.set2 _).drewN _).drewN _
    · exact ((((Keep.refl c w).setCell (Or.inl rfl) _).drewN _).drewN _)

/-- A number below n, n from 1 to 256. -/
theorem below_draw {w : World} {c : Nat} {a : Option Addr} {len cap : Nat} (h : Cur w c a len cap) (n : Int) (h0 : 0 < n) (h1 : n ≤ 256) :
    Calls Tryz.prog 47 #[.pointer (some ⟨c, 0, none⟩), .int .i64 n] w fun e w' => ∃ x : Int, e = .returned (.int .i64 x) ∧ 0 ≤ x ∧ x < n ∧ Cur w' c a len cap ∧ Keep c w w' := by
  go_enter Tryz.func47, Tryz.ntmps47
  go_wp2_with fail
  refine (byte_draw h).mono ?_
  rintro e w1 ⟨x, rfl, hx0, hx1, hc1, hk1⟩
  go_wp2
  go_ret
  refine ⟨_, rfl, ?_, ?_, hc1, hk1⟩
  · exact Int.emod_nonneg _ (by omega)
  · exact Int.emod_lt_of_pos _ (by omega)

theorem once_draw {w : World} {c : Nat} {a : Option Addr} {len cap : Nat} (h : Cur w c a len cap) (n : Int) (h0 : 0 < n) (h1 : n ≤ 256) :
    Calls Tryz.prog 26 #[.pointer (some ⟨c, 0, none⟩), .int .i64 n] w fun e w' => ∃ b : Bool, e = .returned (.bool b) ∧ Cur w' c a len cap ∧ Keep c w w' := by
  go_enter Tryz.func26, Tryz.ntmps26
  go_wp2_with fail
  refine (below_draw h n h0 h1).mono ?_
  rintro e w1 ⟨x, rfl, hx0, hx1, hc1, hk1⟩
  go_wp2
  go_ret
  exact ⟨_, rfl, hc1, hk1⟩

theorem from_draw {w : World} {c : Nat} {a : Option Addr} {len cap : Nat} (h : Cur w c a len cap) :
    Calls Tryz.prog 74 #[.pointer (some ⟨c, 0, none⟩), .int .i64 (-1), .int .i64 4] w fun e w' => ∃ x : Int, e = .returned (.int .i64 x) ∧ Cur w' c a len cap ∧ Keep c w w' := by
  go_enter Tryz.func74, Tryz.ntmps74
  go_wp2_with fail
  refine (below_draw h 6 (by omega) (by omega)).mono ?_
  rintro e w1 ⟨x, rfl, hx0, hx1, hc1, hk1⟩
  go_wp2
  go_ret
  exact ⟨_, rfl, hc1, hk1⟩

end Go.Proofs.YteamdmcgkpeelabGreatDoor

/-
  The contracts of the cursor's making and of a drawn cell: whatever is drawn, it is a cell whose text is no longer than a text may be.
-/
namespace Go.Proofs.YteamdmcgkpeelabGreatDoor
open Go.ChangeShapes Go.WideShapes Go.ChangeAt Go.RowKit

set_option maxHeartbeats 1000000 in
theorem new_draw {w : World} {a : Option Addr} {len cap : Nat} (hlen : len ≤ 4096)
    (row : ∀ j, j < len → ∃ (rb ro : Nat) (v : Int), a = some ⟨rb, ro, none⟩ ∧ rb < w.heap.size ∧ w.cell? ⟨rb, ro + j, none⟩ = some (.int .u8 v) ∧ 0 ≤ v ∧ v ≤ 255) :
    Calls Tryz.prog 23 #[.slice a len cap] w fun e w' => ∃ c : Nat, e = .returned (.pointer (some ⟨c, 0, none⟩)) ∧ w.heap.size ≤ c ∧ Cur w' c a len cap ∧ Below w.heap.size w w' := by
  have R := row
  have hR : Hid (∀ j, j < len → ∃ (rb ro : Nat) (v : Int), a = some ⟨rb, ro, none⟩ ∧ rb < w.heap.size ∧ w.cell? ⟨rb, ro + j, none⟩ = some (.int .u8 v) ∧ 0 ≤ v ∧ v ≤ 255) := R
  clear R row
  go_enter Tryz.func23, Tryz.ntmps23
  go_wp2
  go_loop [3, 4] (fun h i => ∃ (k : Nat) (q : Int), k ≤ len ∧ i = .int .i64 k ∧ h = .int .i64 q) (fun _ i => len - (intOf i).toNat)
  case atStart => exact ⟨0, _, Nat.zero_le _, rfl, rfl⟩
  case round =>
    obtain ⟨k, q, hk, rfl, rfl⟩ := hrel
    by_cases hlt : k < len
    · obtain ⟨rb, ro, v, ha, hrb, hcell, hv0, hv1⟩ := hR.out k hlt
      subst ha
      have hi0 : (0 : Int) ≤ (k : Int) := by omega
      have hi1 : (k : Int) < (len : Int) := by omega
      go_wp2
      go_round
      case rel => exact ⟨k + 1, _, by omega, by go_num, rfl⟩
      case measure => simp [intOf]; omega
    · go_wp2
      go_ret
      refine ⟨_, rfl, Nat.le_refl _, ⟨?_, ⟨0, ?_, Nat.zero_le _⟩, ⟨q, ?_⟩, ?_, ?_, ?_, ?_, ?_, ?_⟩, by go_grown⟩
      · simp [go_sem]
      · simp [go_sem]
      · simp [go_sem]
      · simp [go_sem]
      · simp [go_sem]
      · simp [go_sem]
      · simp
      · unfold maxLen; omega
      · intro j hj
        obtain ⟨rb, ro, v, ha, hrb, hcell, hv⟩ := hR.out j hj
        exact ⟨rb, ro, v, ha, hrb, by rw [World.cell?_alloc_lt _ _ _ hrb]; exact hcell, hv⟩

end Go.Proofs.YteamdmcgkpeelabGreatDoor
