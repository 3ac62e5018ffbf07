/-
  A part of the proof: Lists8, Rank5, Lists9, TakenX, ShHas.
-/
import Derived.Test.YtpggjgilklpncaaGreatPart11
import Derived.Test.YtpggjgilklpncaaGreatPart8

/-
  The contracts of the law's helpers that mark the cells of a list of lists, and that look whether the marks are still there.
-/
namespace Go.Proofs.YtpggjgilklpncaaGreat
open Go.ChangeShapes Go.WideShapes Go.ChangeAt Go.RowKit
attribute [local go_sem ↓] Go.wp_at_zero Go.wp_at_succ

/-- How many cells lie ahead of the i-th list. -/
def offs (L : List (List CT)) (i : Nat) : Nat := ((L.take i).map List.length).sum
theorem offs_step (L : List (List CT)) (i : Nat) (h : i < L.length) : offs L (i + 1) = offs L i + L[i].length := by
  unfold offs
  rw [List.take_succ_eq_append_getElem h, List.map_append, List.sum_append]; simp
theorem offs_le (L : List (List CT)) (i : Nat) : offs L i ≤ offs L L.length := by
  unfold offs
  rw [List.take_length]
  conv => rhs; rw [← List.take_append_drop i L, List.map_append, List.sum_append]
  omega

/-- The heads of the lists lie where the slice says. -/
def HeadsAt (w : World) (a : Option Addr) (L : List (List CT)) (A : Nat → Option Addr) (C : Nat → Nat) : Prop :=
  ∀ i (h : i < L.length), ∃ b o, a = some ⟨b, o, none⟩ ∧ b < w.heap.size ∧ w.cell? ⟨b, o + i, none⟩ = some (.slice (A i) L[i].length (C i))
/-- No two lists that have cells share a block, and none shares one with the heads. -/
structure Apart (a : Option Addr) (L : List (List CT)) (A : Nat → Option Addr) : Prop where
  heads : ∀ i (h : i < L.length) b o, a = some ⟨b, o, none⟩ → ¬ inBlk (A i) L[i].length b
  rows : ∀ i j (hi : i < L.length) (hj : j < L.length) b, i ≠ j → inBlk (A i) L[i].length b → ¬ inBlk (A j) L[j].length b

theorem RowAt.keepS {P : Nat → Prop} {w w' : World} {a : Option Addr} {l : List CT} (h : RowAt w a l) (hk : KeepS P w w') (hP : ∀ b, inBlk a l.length b → ¬ P b) : RowAt w' a l := by
  intro j hj
  obtain ⟨b, o, ha, hlt, h0, h1, h2⟩ := h j hj
  have hn := hP b ⟨by omega, o, ha⟩
  exact ⟨b, o, ha, Nat.lt_of_lt_of_le hlt hk.size, by rw [hk.cell hlt hn]; exact h0, by rw [hk.cell hlt hn]; exact h1, by rw [hk.cell hlt hn]; exact h2⟩
theorem Free.keepS {P : Nat → Prop} {w w' : World} {a : Option Addr} {l : List CT} (hf : Free w a l.length) (h : RowAt w a l) (hk : KeepS P w w') (hP : ∀ b, inBlk a l.length b → ¬ P b) : Free w' a l.length := by
  intro b o ha j hj
  obtain ⟨b', o', ha', hlt, _⟩ := h 0 (by omega)
  rw [ha] at ha'
  cases ha'
  rw [hk.frozen hlt (hP b ⟨by omega, o, ha⟩)]
  exact hf b o ha j hj
theorem HeadsAt.keepS {P : Nat → Prop} {w w' : World} {a : Option Addr} {L : List (List CT)} {A : Nat → Option Addr} {C : Nat → Nat} (h : HeadsAt w a L A C) (hk : KeepS P w w') (hP : ∀ b o, a = some ⟨b, o, none⟩ → ¬ P b) : HeadsAt w' a L A C := by
  intro i hi
  obtain ⟨b, o, ha, hlt, h0⟩ := h i hi
  exact ⟨b, o, ha, Nat.lt_of_lt_of_le hlt hk.size, by rw [hk.cell hlt (hP b o ha)]; exact h0⟩

/-- The lists are marked up to the i-th; the others are as they were. -/
def Marked (w : World) (L : List (List CT)) (A : Nat → Option Addr) (k i : Nat) : Prop :=
  ∀ j (h : j < L.length), (j < i → RowAt w (A j) (marks (k + 3 * offs L j) L[j].length)) ∧ (i ≤ j → RowAt w (A j) L[j]) ∧ Free w (A j) L[j].length
/-- The blocks of all lists. -/
def rowBlks (L : List (List CT)) (A : Nat → Option Addr) (b : Nat) : Prop := ∃ i, ∃ h : i < L.length, inBlk (A i) L[i].length b

theorem Marked.step {w w' : World} {a : Option Addr} {L : List (List CT)} {A : Nat → Option Addr} {k i : Nat} (hi : i < L.length) (h : Marked w L A k i) (ap : Apart a L A) (hk : KeepS (inBlk (A i) L[i].length) w w')
    (hr : RowAt w' (A i) (marks (k + 3 * offs L i) L[i].length)) (hf : Free w' (A i) L[i].length) : Marked w' L A k (i + 1) := by
  intro j hj
  by_cases hij : j = i
  · subst hij
    exact ⟨fun _ => hr, fun hle => by omega, hf⟩
  · obtain ⟨h1, h2, h3⟩ := h j hj
    have hP : ∀ b, inBlk (A j) L[j].length b → ¬ inBlk (A i) L[i].length b := fun b hb => ap.rows j i hj hi b hij hb
    refine ⟨fun hlt => ?_, fun hle => (h2 (by omega)).keepS hk hP, ?_⟩
    · exact (h1 (by omega)).keepS hk (by rw [marks_length]; exact hP)
    · by_cases hlt : j < i
      · have hm := h1 hlt
        have := Free.keepS (l := marks (k + 3 * offs L j) L[j].length) (by rw [marks_length]; exact h3) hm hk (by rw [marks_length]; exact hP)
        rwa [marks_length] at this
      · exact h3.keepS (h2 (by omega)) hk hP

set_option maxHeartbeats 2000000 in
theorem markss_laws (a : Option Addr) (cap : Nat) (L : List (List CT)) (A : Nat → Option Addr) (C : Nat → Nat) (k : Nat) (w : World) (hh : HeadsAt w a L A C) (hm : Marked w L A k 0) (ap : Apart a L A) (h0 : 0 < k) (h1 : k + 3 * offs L L.length ≤ 1099511627776) (hlen : L.length ≤ maxLen) :
    Calls Tryz.prog 21 #[.slice a L.length cap, .int .i64 k] w fun e w' => e = .returned (.int .i64 ((k + 3 * offs L L.length : Nat) : Int)) ∧ HeadsAt w' a L A C ∧ Marked w' L A k L.length ∧ KeepS (rowBlks L A) w w' := by
  have hH : Hid (HeadsAt w a L A C) := hh
  have hM : Hid (Marked w L A k 0) := hm
  have hA : Hid (Apart a L A) := ap
  clear hh hm ap
  unfold maxLen at hlen
  go_enter Tryz.func21, Tryz.ntmps21
  go_wp2
  go_loopw [1, 5] (fun s i wr => ∃ m : Nat, m ≤ L.length ∧ i = .int .i64 m ∧ s = .int .i64 ((k + 3 * offs L m : Nat) : Int) ∧ Hid (HeadsAt wr a L A C) ∧ Hid (Marked wr L A k m) ∧ KeepS (rowBlks L A) w wr)
    (fun _ i _ => L.length - (intOf i).toNat)
  case atStart => exact ⟨0, Nat.zero_le _, rfl, by simp [offs], hH, hM, KeepS.refl _ _⟩
  case round =>
    obtain ⟨m, hmL, rfl, rfl, hd, hmk, hkp⟩ := hrel
    by_cases hlt : m < L.length
    · obtain ⟨b, o, ha, hbw, c0⟩ := hd.out m hlt
      have hst := offs_step L m hlt
      have hle := offs_le L (m + 1)
      obtain ⟨_, hrow, hfree⟩ := hmk.out m hlt
      have hrow := hrow (Nat.le_refl _)
      have hRW : Hid (RowAt wr (A m) L[m]) := hrow
      have hFR : Hid (Free wr (A m) L[m].length) := hfree
      clear hrow hfree
      have hi0 : (0 : Int) ≤ (m : Int) := by omega
      have hi1 : (m : Int) < (L.length : Int) := by omega
      have FIN : Hid (∀ w1, RowAt w1 (A m) (marks (k + 3 * offs L m) L[m].length) → Free w1 (A m) L[m].length → KeepS (inBlk (A m) L[m].length) wr w1 → HeadsAt w1 a L A C ∧ Marked w1 L A k (m + 1) ∧ KeepS (rowBlks L A) w w1) := by
        intro w1 r f kp
        exact ⟨hd.out.keepS kp (fun b o e => hA.out.heads m hlt b o e), hmk.out.step hlt hA.out kp r f, hkp.trans (kp.mono fun b hb => ⟨m, hlt, hb⟩)⟩
      clear hmk hkp
      generalize L[m] = x at c0 hst hRW hFR FIN
      subst ha
      go_wp2_with fail
      refine (mark_laws _ _ _ (k + 3 * offs L m) _ hRW.out hFR.out (by omega) (by omega)).mono ?_
      rintro e w1 ⟨rfl, r, f, kp⟩
      obtain ⟨q1, q2, q3⟩ := FIN.out w1 r f kp
      clear r f kp FIN
      go_wp2
      go_roundw
      case rel => exact ⟨m + 1, by omega, by go_num, by rw [hst]; congr 1; omega, q1, q2, q3⟩
      case measure => simp [intOf]; omega
    · have hkl : m = L.length := by omega
      subst hkl
      go_wp2
      go_ret
      exact ⟨rfl, hd.out, hmk.out, hkp⟩

set_option maxHeartbeats 2000000 in
theorem heldss_laws (a : Option Addr) (cap : Nat) (L : List (List CT)) (A : Nat → Option Addr) (C : Nat → Nat) (k : Nat) (w : World) (hh : HeadsAt w a L A C) (hm : Marked w L A k L.length) (h0 : 0 < k) (h1 : k + 3 * offs L L.length ≤ 1099511627776) (hlen : L.length ≤ maxLen) :
    Calls Tryz.prog 23 #[.slice a L.length cap, .int .i64 k] w fun e w' => e = .returned (.int .i64 ((k + 3 * offs L L.length : Nat) : Int)) ∧ Below w.heap.size w w' := by
  have hH : Hid (HeadsAt w a L A C) := hh
  have hM : Hid (Marked w L A k L.length) := hm
  clear hh hm
  unfold maxLen at hlen
  go_enter Tryz.func23, Tryz.ntmps23
  go_wp2
  go_loopw [1, 5] (fun s i wr => ∃ m : Nat, m ≤ L.length ∧ i = .int .i64 m ∧ s = .int .i64 ((k + 3 * offs L m : Nat) : Int) ∧ Below w.heap.size w wr)
    (fun _ i _ => L.length - (intOf i).toNat)
  case atStart => exact ⟨0, Nat.zero_le _, rfl, by simp [offs], Below.refl _ _⟩
  case round =>
    obtain ⟨m, hmL, rfl, rfl, hx⟩ := hrel
    by_cases hlt : m < L.length
    · obtain ⟨b, o, ha, hbw, c0⟩ := hH.out m hlt
      have c0' : wr.cell? ⟨b, o + m, none⟩ = some (.slice (A m) L[m].length (C m)) := by rw [hx.cell (p := ⟨b, o + m, none⟩) hbw]; exact c0
      have hst := offs_step L m hlt
      have hle := offs_le L (m + 1)
      have hRW : Hid (RowAt wr (A m) (marks (k + 3 * offs L m) L[m].length)) := ((hM.out m hlt).1 hlt).below hx
      have hi0 : (0 : Int) ≤ (m : Int) := by omega
      have hi1 : (m : Int) < (L.length : Int) := by omega
      clear c0
      generalize L[m] = x at c0' hst hRW
      subst ha
      have hnn : ¬ ((k : Int) + 3 * ((offs L m + x.length : Nat) : Int)) < 0 := by omega
      go_wp2_with fail
      refine (held_laws _ _ _ (k + 3 * offs L m) _ hRW.out (by omega) (by omega)).mono ?_
      rw [show k + 3 * offs L m + 3 * x.length = k + 3 * offs L (m + 1) by rw [hst]; omega]
      rintro e w1 ⟨rfl, hb1⟩
      have hnn2 : ¬ (((k + 3 * offs L (m + 1) : Nat) : Int)) < 0 := by omega
      go_wp2
      go_roundw
      case rel => exact ⟨m + 1, by omega, by go_num, by go_num, chain hx hb1⟩
      case measure => simp [intOf]; omega
    · have hkl : m = L.length := by omega
      subst hkl
      go_wp2
      go_ret
      exact ⟨rfl, hx⟩

end Go.Proofs.YtpggjgilklpncaaGreat

/-
  Rows that lie in memory of their own may be marked: their heads lie there, no two share a block, and all may be written.
-/
namespace Go.Proofs.YtpggjgilklpncaaGreat
open Go.ChangeShapes Go.WideShapes Go.ChangeAt Go.RowKit

theorem own_lt {w : World} {base g n c sz : Nat} {e : TypeId} {xs : List Value} (h : w.ownsRow base e sz (.slice (some ⟨g, 0, none⟩) n c) n xs) : g < w.heap.size := by
  rcases h.2 with ⟨h', _⟩ | ⟨g', cap', cur, h', _, hg, _⟩
  · simp at h'
  · simp only [Value.slice.injEq, Option.some.injEq, Addr.mk.injEq, and_true, true_and] at h'
    obtain ⟨rfl, rfl⟩ := h'
    by_cases hl : g < w.heap.size
    · exact hl
    · rw [Array.getElem?_eq_none (by omega)] at hg; cases hg

theorem getD_at {L : List (List CT)} {i : Nat} (h : i < L.length) : L.getD i [] = L[i] := by simp [List.getD, List.getElem?_eq_getElem h]

/-- The heads lie in one block. -/
theorem OwnRows.head {w : World} {base : Nat} {v : Value} {L : List (List CT)} {G C : Nat → Nat} (h : OwnRows w base v L G C) (hn : v ≠ .slice none 0 0) : ∃ g c, v = .slice (some ⟨g, 0, none⟩) L.length c ∧ base ≤ g := by
  rcases h.outer.2 with ⟨h', _⟩ | ⟨g, c, cur, h', hb, _⟩
  · exact absurd h' hn
  · exact ⟨g, c, h', hb⟩

theorem OwnRows.heads {w : World} {base g c : Nat} {L : List (List CT)} {G C : Nat → Nat} (h : OwnRows w base (.slice (some ⟨g, 0, none⟩) L.length c) L G C) : HeadsAt w (some ⟨g, 0, none⟩) L (fun i => some ⟨G i, 0, none⟩) C := by
  intro i hi
  refine ⟨g, 0, rfl, own_lt h.outer, ?_⟩
  rw [show 0 + i = i by omega, h.outer.cellAt i (by omega)]
  rw [List.getElem?_map, List.getElem?_range hi]
  simp only [Option.map_some, headOf, getD_at hi]

theorem OwnRows.apartA {w : World} {base g c : Nat} {L : List (List CT)} {G C : Nat → Nat} (h : OwnRows w base (.slice (some ⟨g, 0, none⟩) L.length c) L G C) : Apart (some ⟨g, 0, none⟩) L (fun i => some ⟨G i, 0, none⟩) where
  heads i hi b o e := by
    cases e
    rintro ⟨_, o', e'⟩
    cases e'
    exact own_other h.outer (h.inner i hi) (by decide) rfl
  rows i j hi hj b hij := by
    rintro ⟨_, o1, e1⟩ ⟨_, o2, e2⟩
    cases e1
    simp only [Option.some.injEq, Addr.mk.injEq] at e2
    exact h.apart i j hi hj hij e2.1.symm

theorem OwnRows.unmarked {w : World} {base : Nat} {v : Value} {L : List (List CT)} {G C : Nat → Nat} (h : OwnRows w base v L G C) (k : Nat) : Marked w L (fun i => some ⟨G i, 0, none⟩) k 0 := by
  intro j hj
  have hin := h.inner j hj
  rw [headOf, getD_at hj] at hin
  refine ⟨fun hlt => by omega, fun _ => own_row hin, ?_⟩
  intro b o e q hq
  cases e
  exact hin.frozenAt _

end Go.Proofs.YtpggjgilklpncaaGreat

/-
  The contract of the law's helper that takes a list of lists over: new memory, a block for each list.
-/
namespace Go.Proofs.YtpggjgilklpncaaGreat
open Go.ChangeShapes Go.WideShapes Go.ChangeAt Go.RowKit
attribute [local go_sem ↓] Go.wp_at_zero Go.wp_at_succ

/-- The first m lists are taken over, each into a block of its own behind block g. -/
structure Taken (w : World) (g : Nat) (L : List (List CT)) (G : Nat → Nat) (m : Nat) : Prop where
  lt : g < w.heap.size
  there : ∀ i, i < L.length → ∃ u, w.cell? ⟨g, i, none⟩ = some u
  free : ∀ i, i < L.length → w.frozen? ⟨g, i, none⟩ = false
  bounds : ∀ i, i < m → g < G i ∧ G i < w.heap.size
  rises : ∀ i j, i < j → j < m → G i < G j
  rows : ∀ i (h : i < L.length), i < m → w.cell? ⟨g, i, none⟩ = some (.slice (some ⟨G i, 0, none⟩) L[i].length L[i].length) ∧ RowAt w (some ⟨G i, 0, none⟩) L[i] ∧ Free w (some ⟨G i, 0, none⟩) L[i].length

theorem Taken.below {w w' : World} {g : Nat} {L : List (List CT)} {G : Nat → Nat} {m : Nat} (h : Taken w g L G m) (hb : Below w.heap.size w w') : Taken w' g L G m where
  lt := Nat.lt_of_lt_of_le h.lt hb.size
  there i hi := by obtain ⟨u, hu⟩ := h.there i hi; exact ⟨u, by rw [hb.cell (p := ⟨g, i, none⟩) h.lt]; exact hu⟩
  free i hi := by rw [hb.frozen (p := ⟨g, i, none⟩) h.lt]; exact h.free i hi
  bounds i hi := ⟨(h.bounds i hi).1, Nat.lt_of_lt_of_le (h.bounds i hi).2 hb.size⟩
  rises := h.rises
  rows i hi hm := by
    obtain ⟨h1, h2, h3⟩ := h.rows i hi hm
    refine ⟨by rw [hb.cell (p := ⟨g, i, none⟩) h.lt]; exact h1, h2.below hb, ?_⟩
    intro b o e j hj
    cases e
    rw [hb.frozen (p := ⟨G i, _, none⟩) (h.bounds i hm).2]; exact h3 _ _ rfl j hj

/-- One list more is taken over: its head is written. -/
theorem Taken.step {w : World} {g : Nat} {L : List (List CT)} {G : Nat → Nat} {m B : Nat} (h : Taken w g L G m) (hm : m < L.length) (hB : B < w.heap.size) (hgB : g < B) (hup : ∀ i, i < m → G i < B)
    (hr : RowAt w (some ⟨B, 0, none⟩) L[m]) (hf : Free w (some ⟨B, 0, none⟩) L[m].length) :
    Taken (w.setCell ⟨g, m, none⟩ (.slice (some ⟨B, 0, none⟩) L[m].length L[m].length)) g L (fun i => if i = m then B else G i) (m + 1) where
  lt := by simpa using h.lt
  there i hi := by
    by_cases e : i = m
    · subst e
      obtain ⟨u, hu⟩ := h.there i hi
      exact ⟨_, cell_here _ _ _ _ (by rw [hu]; rfl)⟩
    · obtain ⟨u, hu⟩ := h.there i hi
      exact ⟨u, by rw [cell_off _ _ _ _ _ e]; exact hu⟩
  free i hi := by rw [World.frozen?_setCell]; exact h.free i hi
  bounds i hi := by
    by_cases e : i = m
    · simpa [e] using ⟨hgB, hB⟩
    · simpa [e] using h.bounds i (by omega)
  rises i j hij hj := by
    by_cases e : j = m
    · have ei : i ≠ m := by omega
      simpa [e, ei] using hup i (by omega)
    · have ei : i ≠ m := by omega
      simpa [e, ei] using h.rises i j hij (by omega)
  rows i hi hlt := by
    have far : ∀ b q, b ≠ g → (w.setCell ⟨g, m, none⟩ (.slice (some ⟨B, 0, none⟩) L[m].length L[m].length)).cell? ⟨b, q, none⟩ = w.cell? ⟨b, q, none⟩ := fun b q hb => cell_far _ _ _ _ _ _ hb
    have rowFar : ∀ b l, b ≠ g → RowAt w (some ⟨b, 0, none⟩) l → RowAt (w.setCell ⟨g, m, none⟩ (.slice (some ⟨B, 0, none⟩) L[m].length L[m].length)) (some ⟨b, 0, none⟩) l := by
      intro b l hb hr j hj
      obtain ⟨b', o', e, hlt, c0, c1, c2⟩ := hr j hj
      cases e
      exact ⟨b, 0, rfl, by simpa using hlt, by rw [far _ _ hb]; exact c0, by rw [far _ _ hb]; exact c1, by rw [far _ _ hb]; exact c2⟩
    have freeFar : ∀ b n, Free w (some ⟨b, 0, none⟩) n → Free (w.setCell ⟨g, m, none⟩ (.slice (some ⟨B, 0, none⟩) L[m].length L[m].length)) (some ⟨b, 0, none⟩) n := by
      intro b n hf b' o' e j hj
      rw [World.frozen?_setCell]; exact hf b' o' e j hj
    by_cases e : i = m
    · subst e
      obtain ⟨u, hu⟩ := h.there i hi
      simp only [if_true]
      exact ⟨cell_here _ _ _ _ (by rw [hu]; rfl), rowFar _ _ (by omega) hr, freeFar _ _ hf⟩
    · obtain ⟨h1, h2, h3⟩ := h.rows i hi (by omega)
      have hb := (h.bounds i (by omega)).1
      simp only [if_neg e]
      exact ⟨by rw [cell_off _ _ _ _ _ e]; exact h1, rowFar _ _ (by omega) h2, freeFar _ _ h3⟩

theorem infoS : (Tryz.prog.info? 66).map (fun i => (i.zero, i.size, i.bytes)) = some (some (.slice none 0 0), 1, 24) := by kernel_rfl

set_option maxHeartbeats 2000000 in
theorem toss_laws (a : Option Addr) (cap : Nat) (L : List (List CT)) (w : World) (hrow : RowsAt w a L) (hm : L.length ≤ 1048576) (hms : ∀ i (h : i < L.length), L[i].length ≤ 1048576) :
    Calls Tryz.prog 29 #[.slice a L.length cap] w fun e w' => e = .returned (.slice (some ⟨w.heap.size, 0, none⟩) L.length L.length) ∧
      (∃ G, Taken w' w.heap.size L G L.length) ∧ Below w.heap.size w w' := by
  obtain ⟨i0, hi, hz0, hz1, hz2⟩ := info_parts infoS
  have hR : Hid (RowsAt w a L) := hrow
  have hMS : Hid (∀ i (h : i < L.length), L[i].length ≤ 1048576) := hms
  clear hrow hms
  go_enter Tryz.func29, Tryz.ntmps29
  go_wp2_with (at_make; refine wpList_make_full _ rfl _ _ 38 rfl w.heap.size 66 i0 (.slice none 0 0) 1 Tryz.underlying38 hi hz0 hz1 .i64 .i64 _ _ L.length rfl rfl rfl rfl ?b2 ?b3 (Nat.le_refl _) ?_)
  case b2 => rw [hz2]; omega
  case b3 => unfold maxLen; omega
  intro w1 hown hgrow
  have hb1 : Below w.heap.size w w1 := (Below.refl _ _).grown hgrow (Nat.le_refl _) (by intro k h; cases h)
  generalize (madeCells _ _).toList = z at hown
  have hT : Hid (∃ G, Taken w1 w.heap.size L G 0) := by
    refine ⟨fun _ => 0, ?_, ?_, fun i _ => hown.frozenAt i, fun i h => by omega, fun i j _ h => by omega, fun i _ h => by omega⟩
    · rcases hown.2 with ⟨h', _⟩ | ⟨g', cap', cur, h', _, hg, _⟩
      · simp at h'
      · simp only [Value.slice.injEq, Option.some.injEq, Addr.mk.injEq, and_true, true_and] at h'
        obtain ⟨rfl, rfl⟩ := h'
        by_cases hl : w.heap.size < w1.heap.size
        · exact hl
        · rw [Array.getElem?_eq_none (by omega)] at hg; cases hg
    · intro i hi
      exact ⟨_, (hown.cellAt i (by omega)).trans (List.getElem?_eq_getElem (by rw [hown.1]; omega))⟩
  clear hown hgrow
  go_wp2
  go_loopw [4] (fun i wr => ∃ m : Nat, m ≤ L.length ∧ i = .int .i64 m ∧ Hid (∃ G, Taken wr w.heap.size L G m) ∧ Below w.heap.size w wr)
    (fun i _ => L.length - (intOf i).toNat)
  case atStart => exact ⟨0, Nat.zero_le _, rfl, hT, hb1⟩
  case round =>
    obtain ⟨m, hmL, rfl, hT2, hb⟩ := hrel
    by_cases hlt : m < L.length
    · obtain ⟨b, o, ai, ci, ha, hbw, c0, hra, _, _⟩ := hR.out.below hb m hlt
      have hi0 : (0 : Int) ≤ (m : Int) := by omega
      have hi1 : (m : Int) < (L.length : Int) := by omega
      have hRA : Hid (RowAt wr ai L[m]) := hra
      have hml := hMS.out m hlt
      have FIN : Hid (∀ w2, Below wr.heap.size wr w2 → w2.ownsRow wr.heap.size 89 3 (.slice (some ⟨wr.heap.size, 0, none⟩) L[m].length L[m].length) L[m].length (flat L[m]) →
          (∃ u, w2.cell? ⟨w.heap.size, m, none⟩ = some u) ∧ w2.frozen? ⟨w.heap.size, m, none⟩ = false ∧ ∃ G, Taken (w2.setCell ⟨w.heap.size, m, none⟩ (.slice (some ⟨wr.heap.size, 0, none⟩) L[m].length L[m].length)) w.heap.size L G (m + 1)) := by
        intro w2 hb2 own
        obtain ⟨G, T⟩ := hT2.out
        have T2 := T.below hb2
        refine ⟨T2.there m hlt, T2.free m hlt, _, T2.step hlt ?_ T.lt (fun i hi => (T.bounds i hi).2) (own_row own) ?_⟩
        · rcases own.2 with ⟨h', _⟩ | ⟨g', cap', cur, h', _, hg, _⟩
          · simp at h'
          · simp only [Value.slice.injEq, Option.some.injEq, Addr.mk.injEq, and_true, true_and] at h'
            obtain ⟨rfl, rfl⟩ := h'
            by_cases hl : wr.heap.size < w2.heap.size
            · exact hl
            · rw [Array.getElem?_eq_none (by omega)] at hg; cases hg
        · intro b' o' e j hj
          cases e
          exact own.frozenAt _
      clear hra hT2
      generalize L[m] = x at c0 hRA hml FIN
      subst ha
      go_wp2_with fail
      refine (tos_laws _ _ _ _ hRA.out hml).mono ?_
      rintro e w2 ⟨rfl, own, hb2⟩
      obtain ⟨⟨u, g0⟩, f0, hG⟩ := FIN.out w2 hb2 own
      have hGG : Hid (∃ G, Taken (w2.setCell ⟨w.heap.size, m, none⟩ (.slice (some ⟨wr.heap.size, 0, none⟩) x.length x.length)) w.heap.size L G (m + 1)) := hG
      have hx := chain hb hb2
      clear own hG FIN hb2
      go_wp2
      go_roundw
      case rel => exact ⟨m + 1, by omega, by go_num, hGG, hx.setCell (Nat.le_refl _) _⟩
      case measure => simp [intOf]; omega
    · have hkl : m = L.length := by omega
      subst hkl
      go_wp2
      go_ret
      exact ⟨rfl, hT2.out, hb⟩

end Go.Proofs.YtpggjgilklpncaaGreat

/-
  Rows that were taken over, or that lie in memory of their own: what the marks want of them.
-/
namespace Go.Proofs.YtpggjgilklpncaaGreat
open Go.ChangeShapes Go.WideShapes Go.ChangeAt Go.RowKit

theorem Taken.heads {w : World} {g : Nat} {L : List (List CT)} {G : Nat → Nat} (h : Taken w g L G L.length) : HeadsAt w (some ⟨g, 0, none⟩) L (fun i => some ⟨G i, 0, none⟩) (fun i => (L.getD i []).length) := by
  intro i hi
  refine ⟨g, 0, rfl, h.lt, ?_⟩
  rw [show 0 + i = i by omega, (h.rows i hi hi).1]
  dsimp only; rw [getD_at hi]
theorem Taken.apartA {w : World} {g : Nat} {L : List (List CT)} {G : Nat → Nat} (h : Taken w g L G L.length) : Apart (some ⟨g, 0, none⟩) L (fun i => some ⟨G i, 0, none⟩) where
  heads i hi b o e := by
    cases e
    rintro ⟨_, o', e'⟩
    simp only [Option.some.injEq, Addr.mk.injEq] at e'
    have := (h.bounds i hi).1; omega
  rows i j hi hj b hij := by
    rintro ⟨_, o1, e1⟩ ⟨_, o2, e2⟩
    simp only [Option.some.injEq, Addr.mk.injEq] at e1 e2
    rcases Nat.lt_or_gt_of_ne hij with hl | hl
    · have := h.rises i j hl hj; omega
    · have := h.rises j i hl hi; omega
theorem Taken.unmarked {w : World} {g : Nat} {L : List (List CT)} {G : Nat → Nat} (h : Taken w g L G L.length) (k : Nat) : Marked w L (fun i => some ⟨G i, 0, none⟩) k 0 :=
  fun j hj => ⟨fun hlt => by omega, fun _ => (h.rows j hj hj).2.1, (h.rows j hj hj).2.2⟩
theorem Taken.blks {w : World} {g : Nat} {L : List (List CT)} {G : Nat → Nat} (h : Taken w g L G L.length) (b : Nat) (hb : rowBlks L (fun i => some ⟨G i, 0, none⟩) b) : g < b ∧ b < w.heap.size := by
  obtain ⟨i, hi, _, o, e⟩ := hb
  simp only [Option.some.injEq, Addr.mk.injEq] at e
  have := h.bounds i hi; omega

theorem own_keepS {w w' : World} {P : Nat → Prop} {base : Nat} {e : TypeId} {size n : Nat} {v : Value} {xs : List Value} (h : w.ownsRow base e size v n xs) (hk : KeepS P w w') (hP : ∀ b, P b → b < base) : w'.ownsRow base e size v n xs := by
  refine ⟨h.1, ?_⟩
  rcases h.2 with h' | ⟨g, cap, cur, h', hbg, hg, hr⟩
  · exact .inl h'
  · refine .inr ⟨g, cap, cur, h', hbg, ?_, hr⟩
    have hlt : g < w.heap.size := by
      by_cases hl : g < w.heap.size
      · exact hl
      · rw [Array.getElem?_eq_none (by omega)] at hg; cases hg
    rw [hk.block g hlt (fun hp => by have := hP g hp; omega)]; exact hg
theorem OwnRows.keepS {w w' : World} {P : Nat → Prop} {base : Nat} {v : Value} {L : List (List CT)} {G C : Nat → Nat} (h : OwnRows w base v L G C) (hk : KeepS P w w') (hP : ∀ b, P b → b < base) : OwnRows w' base v L G C :=
  ⟨own_keepS h.outer hk hP, fun i hi => own_keepS (h.inner i hi) hk hP, h.apart⟩

theorem HeadsAt.below {w w' : World} {a : Option Addr} {L : List (List CT)} {A : Nat → Option Addr} {C : Nat → Nat} (h : HeadsAt w a L A C) (hb : Below w.heap.size w w') : HeadsAt w' a L A C := by
  intro i hi
  obtain ⟨b, o, ha, hlt, h0⟩ := h i hi
  exact ⟨b, o, ha, Nat.lt_of_lt_of_le hlt hb.size, by rw [hb.cell (p := ⟨b, _, none⟩) hlt]; exact h0⟩
theorem Marked.below {w w' : World} {L : List (List CT)} {A : Nat → Option Addr} {k : Nat} (h : Marked w L A k L.length) (hb : Below w.heap.size w w') : Marked w' L A k L.length := by
  intro j hj
  obtain ⟨h1, _, h3⟩ := h j hj
  refine ⟨fun hlt => (h1 hlt).below hb, fun hle => by omega, ?_⟩
  intro b o e q hq
  have hlt : b < w.heap.size := by
    obtain ⟨b', o', e', hlt, _⟩ := h1 hj 0 (by rw [marks_length]; omega)
    rw [e] at e'
    simp only [Option.some.injEq, Addr.mk.injEq] at e'
    omega
  rw [hb.frozen (p := ⟨b, _, none⟩) hlt]; exact h3 b o e q hq

/-- The blocks of rows in memory of their own. -/
theorem OwnRows.blks {w : World} {base : Nat} {v : Value} {L : List (List CT)} {G C : Nat → Nat} (h : OwnRows w base v L G C) (b : Nat) (hb : rowBlks L (fun i => some ⟨G i, 0, none⟩) b) : base ≤ b := by
  obtain ⟨i, hi, _, o, e⟩ := hb
  simp only [Option.some.injEq, Addr.mk.injEq] at e
  rcases (h.inner i hi).2 with ⟨h', _⟩ | ⟨g2, c2, cur2, h', hle, _⟩
  · simp [headOf] at h'
  · simp only [headOf, Value.slice.injEq, Option.some.injEq, Addr.mk.injEq, and_true, true_and] at h'
    omega


end Go.Proofs.YtpggjgilklpncaaGreat

/-
  The contracts of a shelf that is asked for a name.
-/
namespace Go.Proofs.YtpggjgilklpncaaGreat
open Go.ChangeShapes Go.WideShapes Go.ChangeAt Go.RowKit Go.Maps
attribute [local go_sem ↓] Go.wp_at_zero Go.wp_at_succ

theorem zeroTab (w : World) : (zeroValue 40).run Tryz.prog w = .ok (.agg #[.string ⟨#[]⟩, .slice none 0 0, .slice none 0 0]) w := by kernel_rfl
/-- A name that is there: what stands at it. -/
theorem ShelfAt.found {w : World} {B n : Nat} {ks : List ByteArray} {f : ByteArray → Value} (h : ShelfAt w B n ks f) (s : ByteArray) (hs : s.size ≤ maxLen) (hm : s ∈ ks) :
    (Instr.lookup 56 (.map (some B)) (.string s) false).run Tryz.prog w = .ok (f s) w ∧ (Instr.lookup 56 (.map (some B)) (.string s) true).run Tryz.prog w = .ok (.tuple #[f s, .bool true]) w := by
  obtain ⟨D, hown, S⟩ := h
  constructor
  · obtain ⟨v, ps, hrun, hv⟩ := hown.lookup str_keyed Tryz.underlying56 (zeroTab w) (zd := .held (.agg #[.string ⟨#[]⟩, .slice none 0 0, .slice none 0 0])) rfl (keyOf_txt s hs)
    rw [S.holds s hm] at hv
    simp only [tokR, Option.some.injEq, Prod.mk.injEq, DataW.held.injEq] at hv
    rw [← hv.1]; exact hrun
  · obtain ⟨v, ps, hrun, hv⟩ := hown.look_ok str_keyed Tryz.underlying56 (zeroTab w) (zd := .held (.agg #[.string ⟨#[]⟩, .slice none 0 0, .slice none 0 0])) rfl (keyOf_txt s hs)
    rw [S.holds s hm] at hv
    simp only [tokR, Option.some.injEq, Prod.mk.injEq, DataW.held.injEq] at hv
    rw [S.has s, decide_eq_true hm] at hrun
    rw [← hv.1]; exact hrun
/-- A name that is not there. -/
theorem ShelfAt.lacks {w : World} {B n : Nat} {ks : List ByteArray} {f : ByteArray → Value} (h : ShelfAt w B n ks f) (s : ByteArray) (hs : s.size ≤ maxLen) (hm : s ∉ ks) :
    (Instr.lookup 56 (.map (some B)) (.string s) true).run Tryz.prog w = .ok (.tuple #[.agg #[.string ⟨#[]⟩, .slice none 0 0, .slice none 0 0], .bool false]) w := by
  obtain ⟨D, hown, S⟩ := h
  obtain ⟨v, ps, hrun, hv⟩ := hown.look_ok str_keyed Tryz.underlying56 (zeroTab w) (zd := .held (.agg #[.string ⟨#[]⟩, .slice none 0 0, .slice none 0 0])) rfl (keyOf_txt s hs)
  have hh := S.has s
  rw [decide_eq_false hm] at hh
  rw [atKey_of_not_has hh] at hv
  simp only [tokR, Option.some.injEq, Prod.mk.injEq, DataW.held.injEq] at hv
  rw [hh] at hrun
  rw [← hv.1]; exact hrun
theorem ShelfAt.len {w : World} {B n : Nat} {ks : List ByteArray} {f : ByteArray → Value} (h : ShelfAt w B n ks f) (ty : TypeId) : (Builtin.len_ #[56] ty #[.map (some B)]).run Tryz.prog w = .ok (.int .i64 ks.length) w := by
  obtain ⟨D, hown, S⟩ := h
  rw [hown.len Tryz.underlying56 ty, size_keys hown S]

/-- A shelf is asked for a name. -/
theorem has_at (B n : Nat) (ks : List ByteArray) (f : ByteArray → Value) (w : World) (h : ShelfAt w B n ks f) (hf : ∀ s, s ∈ ks → ∃ ca nc cc ra nr cr, f s = .agg #[.string s, .slice ca nc cc, .slice ra nr cr]) (s : ByteArray) (hs : s.size ≤ maxLen) (b : Bool) (hb : decide (s ∈ ks) = b) :
    Calls Tryz.prog 31 #[.map (some B), .string s] w fun e w' => e = .returned (.bool b) ∧ Below w.heap.size w w' := by
  cases b
  · have hm : s ∉ ks := of_decide_eq_false hb
    have hrun := h.lacks s hs hm
    clear hb h hf hm
    go_enter Tryz.func31, Tryz.ntmps31
    go_wp2
    go_ret
    exact ⟨rfl, (Below.refl _ _).alloc (Nat.le_refl _) _⟩
  · have hm : s ∈ ks := of_decide_eq_true hb
    have hrun := (h.found s hs hm).2
    obtain ⟨ca, nc, cc, ra, nr, cr, ef⟩ := hf s hm
    rw [ef] at hrun
    clear hb h hf hm ef
    go_enter Tryz.func31, Tryz.ntmps31
    go_wp2
    go_ret
    exact ⟨rfl, (Below.refl _ _).alloc (Nat.le_refl _) _⟩

end Go.Proofs.YtpggjgilklpncaaGreat
