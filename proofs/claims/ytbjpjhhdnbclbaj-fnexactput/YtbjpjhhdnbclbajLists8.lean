/-
  The contracts of the law's helpers that mark the cells of a list of lists, and that look whether the marks are still there.
-/
import Derived.Test.YtbjpjhhdnbclbajLists7
namespace Go.Proofs.Ytbjpjhhdnbclbaj
open Go.ChangeShapes Go.WideShapes Go.ChangeAt Go.RowKit
attribute [local go_sem ↓] Go.wp_at_zero Go.wp_at_succ

/-- How many cells lie ahead of the i-th list. -/
def offs (L : List (List CT)) (i : Nat) : Nat := ((L.take i).map List.length).sum
theorem offs_step (L : List (List CT)) (i : Nat) (h : i < L.length) : offs L (i + 1) = offs L i + L[i].length := by
  unfold offs
  rw [List.take_succ_eq_append_getElem h, List.map_append, List.sum_append]; simp
theorem offs_le (L : List (List CT)) (i : Nat) : offs L i ≤ offs L L.length := by
  unfold offs
  rw [List.take_length]
  conv => rhs; rw [← List.take_append_drop i L, List.map_append, List.sum_append]
  omega

/-- The heads of the lists lie where the slice says. -/
def HeadsAt (w : World) (a : Option Addr) (L : List (List CT)) (A : Nat → Option Addr) (C : Nat → Nat) : Prop :=
  ∀ i (h : i < L.length), ∃ b o, a = some ⟨b, o, none⟩ ∧ b < w.heap.size ∧ w.cell? ⟨b, o + i, none⟩ = some (.slice (A i) L[i].length (C i))
/-- No two lists that have cells share a block, and none shares one with the heads. -/
structure Apart (a : Option Addr) (L : List (List CT)) (A : Nat → Option Addr) : Prop where
  heads : ∀ i (h : i < L.length) b o, a = some ⟨b, o, none⟩ → ¬ inBlk (A i) L[i].length b
  rows : ∀ i j (hi : i < L.length) (hj : j < L.length) b, i ≠ j → inBlk (A i) L[i].length b → ¬ inBlk (A j) L[j].length b

theorem RowAt.keepS {P : Nat → Prop} {w w' : World} {a : Option Addr} {l : List CT} (h : RowAt w a l) (hk : KeepS P w w') (hP : ∀ b, inBlk a l.length b → ¬ P b) : RowAt w' a l := by
  intro j hj
  obtain ⟨b, o, ha, hlt, h0, h1, h2⟩ := h j hj
  have hn := hP b ⟨by omega, o, ha⟩
  exact ⟨b, o, ha, Nat.lt_of_lt_of_le hlt hk.size, by rw [hk.cell hlt hn]; exact h0, by rw [hk.cell hlt hn]; exact h1, by rw [hk.cell hlt hn]; exact h2⟩
theorem Free.keepS {P : Nat → Prop} {w w' : World} {a : Option Addr} {l : List CT} (hf : Free w a l.length) (h : RowAt w a l) (hk : KeepS P w w') (hP : ∀ b, inBlk a l.length b → ¬ P b) : Free w' a l.length := by
  intro b o ha j hj
  obtain ⟨b', o', ha', hlt, _⟩ := h 0 (by omega)
  rw [ha] at ha'
  cases ha'
  rw [hk.frozen hlt (hP b ⟨by omega, o, ha⟩)]
  exact hf b o ha j hj
theorem HeadsAt.keepS {P : Nat → Prop} {w w' : World} {a : Option Addr} {L : List (List CT)} {A : Nat → Option Addr} {C : Nat → Nat} (h : HeadsAt w a L A C) (hk : KeepS P w w') (hP : ∀ b o, a = some ⟨b, o, none⟩ → ¬ P b) : HeadsAt w' a L A C := by
  intro i hi
  obtain ⟨b, o, ha, hlt, h0⟩ := h i hi
  exact ⟨b, o, ha, Nat.lt_of_lt_of_le hlt hk.size, by rw [hk.cell hlt (hP b o ha)]; exact h0⟩

/-- The lists are marked up to the i-th; the others are as they were. -/
def Marked (w : World) (L : List (List CT)) (A : Nat → Option Addr) (k i : Nat) : Prop :=
  ∀ j (h : j < L.length), (j < i → RowAt w (A j) (marks (k + 3 * offs L j) L[j].length)) ∧ (i ≤ j → RowAt w (A j) L[j]) ∧ Free w (A j) L[j].length
/-- The blocks of all lists. -/
def rowBlks (L : List (List CT)) (A : Nat → Option Addr) (b : Nat) : Prop := ∃ i, ∃ h : i < L.length, inBlk (A i) L[i].length b

theorem Marked.step {w w' : World} {a : Option Addr} {L : List (List CT)} {A : Nat → Option Addr} {k i : Nat} (hi : i < L.length) (h : Marked w L A k i) (ap : Apart a L A) (hk : KeepS (inBlk (A i) L[i].length) w w')
    (hr : RowAt w' (A i) (marks (k + 3 * offs L i) L[i].length)) (hf : Free w' (A i) L[i].length) : Marked w' L A k (i + 1) := by
  intro j hj
  by_cases hij : j = i
  · subst hij
    exact ⟨fun _ => hr, fun hle => by omega, hf⟩
  · obtain ⟨h1, h2, h3⟩ := h j hj
    have hP : ∀ b, inBlk (A j) L[j].length b → ¬ inBlk (A i) L[i].length b := fun b hb => ap.rows j i hj hi b hij hb
    refine ⟨fun hlt => ?_, fun hle => (h2 (by omega)).keepS hk hP, ?_⟩
    · exact (h1 (by omega)).keepS hk (by rw [marks_length]; exact hP)
    · by_cases hlt : j < i
      · have hm := h1 hlt
        have := Free.keepS (l := marks (k + 3 * offs L j) L[j].length) (by rw [marks_length]; exact h3) hm hk (by rw [marks_length]; exact hP)
        rwa [marks_length] at this
      · exact h3.keepS (h2 (by omega)) hk hP

set_option maxHeartbeats 2000000 in
theorem markss_laws (a : Option Addr) (cap : Nat) (L : List (List CT)) (A : Nat → Option Addr) (C : Nat → Nat) (k : Nat) (w : World) (hh : HeadsAt w a L A C) (hm : Marked w L A k 0) (ap : Apart a L A) (h0 : 0 < k) (h1 : k + 3 * offs L L.length ≤ 1099511627776) (hlen : L.length ≤ maxLen) :
    Calls Try.prog 12 #[.slice a L.length cap, .int .i64 k] w fun e w' => e = .returned (.int .i64 ((k + 3 * offs L L.length : Nat) : Int)) ∧ HeadsAt w' a L A C ∧ Marked w' L A k L.length ∧ KeepS (rowBlks L A) w w' := by
  have hH : Hid (HeadsAt w a L A C) := hh
  have hM : Hid (Marked w L A k 0) := hm
  have hA : Hid (Apart a L A) := ap
  clear hh hm ap
  unfold maxLen at hlen
  go_enter Try.func12, Try.ntmps12
  go_wp2
  go_loopw [1, 5] (fun s i wr => ∃ m : Nat, m ≤ L.length ∧ i = .int .i64 m ∧ s = .int .i64 ((k + 3 * offs L m : Nat) : Int) ∧ Hid (HeadsAt wr a L A C) ∧ Hid (Marked wr L A k m) ∧ KeepS (rowBlks L A) w wr)
    (fun _ i _ => L.length - (intOf i).toNat)
  case atStart => exact ⟨0, Nat.zero_le _, rfl, by simp [offs], hH, hM, KeepS.refl _ _⟩
  case round =>
    obtain ⟨m, hmL, rfl, rfl, hd, hmk, hkp⟩ := hrel
    by_cases hlt : m < L.length
    · obtain ⟨b, o, ha, hbw, c0⟩ := hd.out m hlt
      have hst := offs_step L m hlt
      have hle := offs_le L (m + 1)
      obtain ⟨_, hrow, hfree⟩ := hmk.out m hlt
      have hrow := hrow (Nat.le_refl _)
      have hRW : Hid (RowAt wr (A m) L[m]) := hrow
      have hFR : Hid (Free wr (A m) L[m].length) := hfree
      clear hrow hfree
      have hi0 : (0 : Int) ≤ (m : Int) := by omega
      have hi1 : (m : Int) < (L.length : Int) := by omega
      have FIN : Hid (∀ w1, RowAt w1 (A m) (marks (k + 3 * offs L m) L[m].length) → Free w1 (A m) L[m].length → KeepS (inBlk (A m) L[m].length) wr w1 → HeadsAt w1 a L A C ∧ Marked w1 L A k (m + 1) ∧ KeepS (rowBlks L A) w w1) := by
        intro w1 r f kp
        exact ⟨hd.out.keepS kp (fun b o e => hA.out.heads m hlt b o e), hmk.out.step hlt hA.out kp r f, hkp.trans (kp.mono fun b hb => ⟨m, hlt, hb⟩)⟩
      clear hmk hkp
      generalize L[m] = x at c0 hst hRW hFR FIN
      subst ha
      go_wp2_with fail
      refine (mark_laws _ _ _ (k + 3 * offs L m) _ hRW.out hFR.out (by omega) (by omega)).mono ?_
      rintro e w1 ⟨rfl, r, f, kp⟩
      obtain ⟨q1, q2, q3⟩ := FIN.out w1 r f kp
      clear r f kp FIN
      go_wp2
      go_roundw
      case rel => exact ⟨m + 1, by omega, by go_num, by rw [hst]; congr 1; omega, q1, q2, q3⟩
      case measure => simp [intOf]; omega
    · have hkl : m = L.length := by omega
      subst hkl
      go_wp2
      go_ret
      exact ⟨rfl, hd.out, hmk.out, hkp⟩

set_option maxHeartbeats 2000000 in
theorem heldss_laws (a : Option Addr) (cap : Nat) (L : List (List CT)) (A : Nat → Option Addr) (C : Nat → Nat) (k : Nat) (w : World) (hh : HeadsAt w a L A C) (hm : Marked w L A k L.length) (h0 : 0 < k) (h1 : k + 3 * offs L L.length ≤ 1099511627776) (hlen : L.length ≤ maxLen) :
    Calls Try.prog 13 #[.slice a L.length cap, .int .i64 k] w fun e w' => e = .returned (.int .i64 ((k + 3 * offs L L.length : Nat) : Int)) ∧ Below w.heap.size w w' := by
  have hH : Hid (HeadsAt w a L A C) := hh
  have hM : Hid (Marked w L A k L.length) := hm
  clear hh hm
  unfold maxLen at hlen
  go_enter Try.func13, Try.ntmps13
  go_wp2
  go_loopw [1, 5] (fun s i wr => ∃ m : Nat, m ≤ L.length ∧ i = .int .i64 m ∧ s = .int .i64 ((k + 3 * offs L m : Nat) : Int) ∧ Below w.heap.size w wr)
    (fun _ i _ => L.length - (intOf i).toNat)
  case atStart => exact ⟨0, Nat.zero_le _, rfl, by simp [offs], Below.refl _ _⟩
  case round =>
    obtain ⟨m, hmL, rfl, rfl, hx⟩ := hrel
    by_cases hlt : m < L.length
    · obtain ⟨b, o, ha, hbw, c0⟩ := hH.out m hlt
      have c0' : wr.cell? ⟨b, o + m, none⟩ = some (.slice (A m) L[m].length (C m)) := by rw [hx.cell (p := ⟨b, o + m, none⟩) hbw]; exact c0
      have hst := offs_step L m hlt
      have hle := offs_le L (m + 1)
      have hRW : Hid (RowAt wr (A m) (marks (k + 3 * offs L m) L[m].length)) := ((hM.out m hlt).1 hlt).below hx
      have hi0 : (0 : Int) ≤ (m : Int) := by omega
      have hi1 : (m : Int) < (L.length : Int) := by omega
      clear c0
      generalize L[m] = x at c0' hst hRW
      subst ha
      have hnn : ¬ ((k : Int) + 3 * ((offs L m + x.length : Nat) : Int)) < 0 := by omega
      go_wp2_with fail
      refine (held_laws _ _ _ (k + 3 * offs L m) _ hRW.out (by omega) (by omega)).mono ?_
      rw [show k + 3 * offs L m + 3 * x.length = k + 3 * offs L (m + 1) by rw [hst]; omega]
      rintro e w1 ⟨rfl, hb1⟩
      have hnn2 : ¬ (((k + 3 * offs L (m + 1) : Nat) : Int)) < 0 := by omega
      go_wp2
      go_roundw
      case rel => exact ⟨m + 1, by omega, by go_num, by go_num, chain hx hb1⟩
      case measure => simp [intOf]; omega
    · have hkl : m = L.length := by omega
      subst hkl
      go_wp2
      go_ret
      exact ⟨rfl, hx⟩

end Go.Proofs.Ytbjpjhhdnbclbaj
