/-
  A part of the proof: Lists6, Lists7, Tok2, Itm2, Open5, TokN, Lists8, Rank5, Lists9.
-/
import Derived.Test.YtfokdblojlmnlamGreatDoorPart14
import Derived.Test.YtfokdblojlmnlamGreatDoorPart4
import Derived.Test.YtfokdblojlmnlamGreatDoorPart5
import Derived.Lib.SmallJoins
import Derived.Test.YtfokdblojlmnlamGreatDoorPart8

/-
  The contracts of the law's helpers that mark the cells of a list, one number behind the other, and that look whether the marks are still there.
-/
namespace Go.Proofs.YtfokdblojlmnlamGreatDoor
open Go.ChangeShapes Go.WideShapes Go.ChangeAt Go.RowKit
attribute [local go_sem ↓] Go.wp_at_zero Go.wp_at_succ

/-- The i-th mark from k on. -/
def mark1 (k i : Nat) : CT := (((k + 3 * i : Nat) : Int), ((k + 3 * i + 1 : Nat) : Int), mt (k + 3 * i + 2))
/-- The marks of a list of n cells. -/
def marks (k n : Nat) : List CT := (List.range n).map (mark1 k)
theorem marks_length (k n : Nat) : (marks k n).length = n := by simp [marks]
theorem marks_at (k n i : Nat) (h : i < (marks k n).length) : (marks k n)[i] = mark1 k i := by simp [marks]
theorem marks_step (k : Nat) (l : List CT) (i : Nat) (h : i < l.length) : (marks k i ++ l.drop i).set i (mark1 k i) = marks k (i + 1) ++ l.drop (i + 1) := by
  rw [List.set_append_right _ _ (by rw [marks_length]; omega), marks_length, Nat.sub_self]
  have e : l.drop i = l[i] :: l.drop (i + 1) := List.drop_eq_getElem_cons h
  rw [e, List.set_cons_zero]
  simp [marks, List.range_succ]

/-- The cells of a slice may be written. -/
def Free (w : World) (a : Option Addr) (n : Nat) : Prop := ∀ b o, a = some ⟨b, o, none⟩ → ∀ j, j < n * 3 → w.frozen? ⟨b, o + j, none⟩ = false
/-- The block in which a slice of n cells lies, where it has one. -/
def inBlk (a : Option Addr) (n b : Nat) : Prop := 0 < n ∧ ∃ o, a = some ⟨b, o, none⟩

theorem RowAt.upd {w w' : World} {b o : Nat} {l : List CT} {i : Nat} {x : CT} (h : RowAt w (some ⟨b, o, none⟩) l) (hs : w.heap.size ≤ w'.heap.size)
    (hfar : ∀ q, q ≠ o + i * 3 → q ≠ o + i * 3 + 1 → q ≠ o + i * 3 + 2 → w'.cell? ⟨b, q, none⟩ = w.cell? ⟨b, q, none⟩)
    (h0 : w'.cell? ⟨b, o + i * 3, none⟩ = some (.int .i64 x.1)) (h1 : w'.cell? ⟨b, o + i * 3 + 1, none⟩ = some (.int .i64 x.2.1)) (h2 : w'.cell? ⟨b, o + i * 3 + 2, none⟩ = some (.string x.2.2)) :
    RowAt w' (some ⟨b, o, none⟩) (l.set i x) := by
  intro j hj
  have hj' : j < l.length := by simpa using hj
  obtain ⟨b', o', e, hlt, c0, c1, c2⟩ := h j hj'
  cases e
  refine ⟨b, o, rfl, Nat.lt_of_lt_of_le hlt hs, ?_⟩
  by_cases hij : i = j
  · subst hij
    rw [List.getElem_set_self]
    exact ⟨h0, h1, h2⟩
  · rw [List.getElem_set_ne hij]
    refine ⟨?_, ?_, ?_⟩
    · rw [hfar _ (by omega) (by omega) (by omega)]; exact c0
    · rw [hfar _ (by omega) (by omega) (by omega)]; exact c1
    · rw [hfar _ (by omega) (by omega) (by omega)]; exact c2

theorem Free.upd {w w' : World} {a : Option Addr} {n : Nat} (h : Free w a n) (hf : ∀ b o q, a = some ⟨b, o, none⟩ → w'.frozen? ⟨b, q, none⟩ = w.frozen? ⟨b, q, none⟩) : Free w' a n :=
  fun b o e j hj => by rw [hf b o _ e]; exact h b o e j hj

end Go.Proofs.YtfokdblojlmnlamGreatDoor

/-
  The contract of the law's helper that looks whether the marks of a list of cells are still there.
-/
namespace Go.Proofs.YtfokdblojlmnlamGreatDoor
open Go.ChangeShapes Go.WideShapes Go.ChangeAt Go.RowKit
attribute [local go_sem ↓] Go.wp_at_zero Go.wp_at_succ

end Go.Proofs.YtfokdblojlmnlamGreatDoor

/-
  The contracts of the law's helpers that mark the Tokens of a list, one number behind the other, and that look whether the marks are still there.
-/
namespace Go.Proofs.YtfokdblojlmnlamGreatDoor
open Go.ChangeShapes Go.WideShapes Go.ChangeAt Go.RowKit
attribute [local go_sem ↓] Go.wp_at_zero Go.wp_at_succ

/-- The i-th mark from k on. -/
def mark1Tok (k i : Nat) : TT := (((k + 5 * i : Nat) : Int), mt (k + 5 * i + 1), ((k + 5 * i + 2 : Nat) : Int), ((k + 5 * i + 3 : Nat) : Int), mt (k + 5 * i + 4))
def marksTok (k n : Nat) : List TT := (List.range n).map (mark1Tok k)
theorem marksTok_length (k n : Nat) : (marksTok k n).length = n := by simp [marksTok]
theorem marksTok_at (k n i : Nat) (h : i < (marksTok k n).length) : (marksTok k n)[i] = mark1Tok k i := by simp [marksTok]
theorem marksTok_step (k : Nat) (l : List TT) (i : Nat) (h : i < l.length) : (marksTok k i ++ l.drop i).set i (mark1Tok k i) = marksTok k (i + 1) ++ l.drop (i + 1) := by
  rw [List.set_append_right _ _ (by rw [marksTok_length]; omega), marksTok_length, Nat.sub_self]
  have e : l.drop i = l[i] :: l.drop (i + 1) := List.drop_eq_getElem_cons h
  rw [e, List.set_cons_zero]
  simp [marksTok, List.range_succ]
/-- The cells of a slice may be written. -/
def FreeTok (w : World) (a : Option Addr) (n : Nat) : Prop := ∀ b o, a = some ⟨b, o, none⟩ → ∀ j, j < n * 5 → w.frozen? ⟨b, o + j, none⟩ = false
theorem TokAt.upd {w w' : World} {b o : Nat} {l : List TT} {i : Nat} {x : TT} (h : TokAt w (some ⟨b, o, none⟩) l) (hs : w.heap.size ≤ w'.heap.size)
    (hfar : ∀ q, q ≠ o + i * 5 → q ≠ o + i * 5 + 1 → q ≠ o + i * 5 + 2 → q ≠ o + i * 5 + 3 → q ≠ o + i * 5 + 4 → w'.cell? ⟨b, q, none⟩ = w.cell? ⟨b, q, none⟩)
    (h0 : w'.cell? ⟨b, o + i * 5, none⟩ = some (.int .i64 x.1)) (h1 : w'.cell? ⟨b, o + i * 5 + 1, none⟩ = some (.string x.2.1)) (h2 : w'.cell? ⟨b, o + i * 5 + 2, none⟩ = some (.int .i64 x.2.2.1)) (h3 : w'.cell? ⟨b, o + i * 5 + 3, none⟩ = some (.int .i64 x.2.2.2.1)) (h4 : w'.cell? ⟨b, o + i * 5 + 4, none⟩ = some (.string x.2.2.2.2)) :
    TokAt w' (some ⟨b, o, none⟩) (l.set i x) := by
  intro j hj
  have hj' : j < l.length := by simpa using hj
  obtain ⟨b', o', e, hlt, c0, c1, c2, c3, c4⟩ := h j hj'
  cases e
  refine ⟨b, o, rfl, Nat.lt_of_lt_of_le hlt hs, ?_⟩
  by_cases hij : i = j
  · subst hij
    rw [List.getElem_set_self]
    exact ⟨h0, h1, h2, h3, h4⟩
  · rw [List.getElem_set_ne hij]
    refine ⟨?_, ?_, ?_, ?_, ?_⟩
    · rw [hfar _ (by omega) (by omega) (by omega) (by omega) (by omega)]; exact c0
    · rw [hfar _ (by omega) (by omega) (by omega) (by omega) (by omega)]; exact c1
    · rw [hfar _ (by omega) (by omega) (by omega) (by omega) (by omega)]; exact c2
    · rw [hfar _ (by omega) (by omega) (by omega) (by omega) (by omega)]; exact c3
    · rw [hfar _ (by omega) (by omega) (by omega) (by omega) (by omega)]; exact c4
theorem FreeTok.upd {w w' : World} {a : Option Addr} {n : Nat} (h : FreeTok w a n) (hf : ∀ b o q, a = some ⟨b, o, none⟩ → w'.frozen? ⟨b, q, none⟩ = w.frozen? ⟨b, q, none⟩) : FreeTok w' a n :=
  fun b o e j hj => by rw [hf b o _ e]; exact h b o e j hj
theorem TokAt.keepS {P : Nat → Prop} {w w' : World} {a : Option Addr} {l : List TT} (h : TokAt w a l) (hk : KeepS P w w') (hP : ∀ b, inBlk a l.length b → ¬ P b) : TokAt w' a l := by
  intro j hj
  obtain ⟨b, o, ha, hlt, c0, c1, c2, c3, c4⟩ := h j hj
  have hn := hP b ⟨by omega, o, ha⟩
  refine ⟨b, o, ha, Nat.lt_of_lt_of_le hlt hk.size, ?_, ?_, ?_, ?_, ?_⟩
  · rw [hk.cell hlt hn]; exact c0
  · rw [hk.cell hlt hn]; exact c1
  · rw [hk.cell hlt hn]; exact c2
  · rw [hk.cell hlt hn]; exact c3
  · rw [hk.cell hlt hn]; exact c4

set_option maxRecDepth 100000 in
set_option maxHeartbeats 4000000 in
theorem markTok_laws (a : Option Addr) (cap : Nat) (l : List TT) (k : Nat) (w : World) (hrow : TokAt w a l) (hfree : FreeTok w a l.length) (h0 : 0 < k) (h1 : k + 5 * l.length ≤ 1099511627776) :
    Calls Tryz.prog 11 #[.slice a l.length cap, .int .i64 k] w fun e w' => e = .returned (.int .i64 ((k + 5 * l.length : Nat) : Int)) ∧ TokAt w' a (marksTok k l.length) ∧ FreeTok w' a l.length ∧ KeepS (inBlk a l.length) w w' := by
  have hR : Hid (TokAt w a l) := hrow
  have hF : Hid (FreeTok w a l.length) := hfree
  clear hrow hfree
  go_enter Tryz.func11, Tryz.ntmps11
  go_wp2
  go_loopw [1, 5] (fun s i wr => ∃ m : Nat, m ≤ l.length ∧ i = .int .i64 m ∧ s = .int .i64 ((k + 5 * m : Nat) : Int) ∧ Hid (TokAt wr a (marksTok k m ++ l.drop m)) ∧ Hid (FreeTok wr a l.length) ∧ KeepS (inBlk a l.length) w wr)
    (fun _ i _ => l.length - (intOf i).toNat)
  case atStart => exact ⟨0, Nat.zero_le _, rfl, by simp, by simpa [marksTok] using hR, hF, KeepS.refl _ _⟩
  case round =>
    obtain ⟨m, hm, rfl, rfl, hr, hf, hkp⟩ := hrel
    by_cases hlt : m < l.length
    · have hl2 : m < (marksTok k m ++ l.drop m).length := by rw [List.length_append, marksTok_length, List.length_drop]; omega
      obtain ⟨b, o, rfl, hbw, c0, c1, c2, c3, c4⟩ := hr.out m hl2
      generalize (marksTok k m ++ l.drop m)[m] = x at c0 c1 c2 c3 c4
      have hi0 : (0 : Int) ≤ (m : Int) := by omega
      have hi1 : (m : Int) < (l.length : Int) := by omega
      have f0 := hf.out b o rfl (m * 5) (by omega)
      have f1 := hf.out b o rfl (m * 5 + 1) (by omega)
      have f2 := hf.out b o rfl (m * 5 + 2) (by omega)
      have f3 := hf.out b o rfl (m * 5 + 3) (by omega)
      have f4 := hf.out b o rfl (m * 5 + 4) (by omega)
      rw [← Nat.add_assoc] at f1 f2 f3 f4
      go_wp2_with fail
      refine (text_lawsN (k + 5 * m + 1) _ (by omega) _ (by omega) (by omega)).mono ?_
      rintro e w2 ⟨rfl, hb2⟩
      have hl2 : b < w2.heap.size := by have := hb2.size; simp at this; omega
      have g2_1 : w2.cell? ⟨b, o + m * 5 + 1, none⟩ = some (.string x.2.1) := by
        rw [hb2.cell (p := ⟨b, o + m * 5 + 1, none⟩) (by simpa using hbw), cell_off _ _ _ _ _ (by omega)]; exact c1
      have e2_1 : w2.frozen? ⟨b, o + m * 5 + 1, none⟩ = false := by
        rw [hb2.frozen (p := ⟨b, o + m * 5 + 1, none⟩) (by simpa using hbw)]; simpa using f1
      have g2_2 : w2.cell? ⟨b, o + m * 5 + 2, none⟩ = some (.int .i64 x.2.2.1) := by
        rw [hb2.cell (p := ⟨b, o + m * 5 + 2, none⟩) (by simpa using hbw), cell_off _ _ _ _ _ (by omega)]; exact c2
      have e2_2 : w2.frozen? ⟨b, o + m * 5 + 2, none⟩ = false := by
        rw [hb2.frozen (p := ⟨b, o + m * 5 + 2, none⟩) (by simpa using hbw)]; simpa using f2
      have g2_3 : w2.cell? ⟨b, o + m * 5 + 3, none⟩ = some (.int .i64 x.2.2.2.1) := by
        rw [hb2.cell (p := ⟨b, o + m * 5 + 3, none⟩) (by simpa using hbw), cell_off _ _ _ _ _ (by omega)]; exact c3
      have e2_3 : w2.frozen? ⟨b, o + m * 5 + 3, none⟩ = false := by
        rw [hb2.frozen (p := ⟨b, o + m * 5 + 3, none⟩) (by simpa using hbw)]; simpa using f3
      have g2_4 : w2.cell? ⟨b, o + m * 5 + 4, none⟩ = some (.string x.2.2.2.2) := by
        rw [hb2.cell (p := ⟨b, o + m * 5 + 4, none⟩) (by simpa using hbw), cell_off _ _ _ _ _ (by omega)]; exact c4
      have e2_4 : w2.frozen? ⟨b, o + m * 5 + 4, none⟩ = false := by
        rw [hb2.frozen (p := ⟨b, o + m * 5 + 4, none⟩) (by simpa using hbw)]; simpa using f4
      go_wp2_with fail
      refine (text_lawsN (k + 5 * m + 4) _ (by omega) _ (by omega) (by omega)).mono ?_
      rintro e w3 ⟨rfl, hb3⟩
      have hl3 : b < w3.heap.size := by have := hb3.size; simp at this; omega
      have g3_4 : w3.cell? ⟨b, o + m * 5 + 4, none⟩ = some (.string x.2.2.2.2) := by
        rw [hb3.cell (p := ⟨b, o + m * 5 + 4, none⟩) (by simpa using hl2), cell_off _ _ _ _ _ (by omega), cell_off _ _ _ _ _ (by omega), cell_off _ _ _ _ _ (by omega)]; exact g2_4
      have e3_4 : w3.frozen? ⟨b, o + m * 5 + 4, none⟩ = false := by
        rw [hb3.frozen (p := ⟨b, o + m * 5 + 4, none⟩) (by simpa using hl2)]; simpa using e2_4
      go_wp2
      go_roundw
      case rel =>
        have hsz : wr.heap.size ≤ w3.heap.size := by have := hb2.size; have := hb3.size; simp at *; omega
        refine ⟨m + 1, by omega, by go_num, by go_num, ?_, ?_, ?_⟩
        · show TokAt _ _ _
          rw [← marksTok_step k l m hlt]
          refine hr.out.upd (by simpa using hsz) ?_ ?_ ?_ ?_ ?_ ?_
          · intro q q0 q1 q2 q3 q4
            rw [cell_off _ _ _ _ _ q4, hb3.cell (p := ⟨b, q, none⟩) (by simpa using hl2), cell_off _ _ _ _ _ q3, cell_off _ _ _ _ _ q2, cell_off _ _ _ _ _ q1, hb2.cell (p := ⟨b, q, none⟩) (by simpa using hbw), cell_off _ _ _ _ _ q0]
          · rw [cell_off _ _ _ _ _ (by omega), hb3.cell (p := ⟨b, _, none⟩) (by simpa using hl2), cell_off _ _ _ _ _ (by omega), cell_off _ _ _ _ _ (by omega), cell_off _ _ _ _ _ (by omega), hb2.cell (p := ⟨b, _, none⟩) (by simpa using hbw), cell_here _ _ _ _ (by rw [c0]; rfl)]
            first | (simp [mark1Tok]; done) | (simp [mark1Tok]; omega)
          · rw [cell_off _ _ _ _ _ (by omega), hb3.cell (p := ⟨b, _, none⟩) (by simpa using hl2), cell_off _ _ _ _ _ (by omega), cell_off _ _ _ _ _ (by omega), cell_here _ _ _ _ (by rw [g2_1]; rfl)]
            first | (simp [mark1Tok]; done) | (simp [mark1Tok]; omega)
          · rw [cell_off _ _ _ _ _ (by omega), hb3.cell (p := ⟨b, _, none⟩) (by simpa using hl2), cell_off _ _ _ _ _ (by omega), cell_here _ _ _ _ (by rw [cell_off _ _ _ _ _ (by omega), g2_2]; rfl)]
            first | (simp [mark1Tok]; done) | (simp [mark1Tok]; omega)
          · rw [cell_off _ _ _ _ _ (by omega), hb3.cell (p := ⟨b, _, none⟩) (by simpa using hl2), cell_here _ _ _ _ (by rw [cell_off _ _ _ _ _ (by omega), cell_off _ _ _ _ _ (by omega), g2_3]; rfl)]
            first | (simp [mark1Tok]; done) | (simp [mark1Tok]; omega)
          · rw [cell_here _ _ _ _ (by rw [g3_4]; rfl)]
            first | (simp [mark1Tok]; done) | (simp [mark1Tok]; omega)
        · show FreeTok _ _ _
          refine hf.out.upd ?_
          intro b' o' q e
          cases e
          rw [World.frozen?_setCell, hb3.frozen (p := ⟨b, q, none⟩) (by simpa using hl2), World.frozen?_setCell, World.frozen?_setCell, World.frozen?_setCell, hb2.frozen (p := ⟨b, q, none⟩) (by simpa using hbw), World.frozen?_setCell]
        · exact (((((((hkp.setCell (p := ⟨b, o + m * 5, none⟩) ⟨by omega, o, rfl⟩ _).trans (KeepS.ofBelow hb2)).setCell (p := ⟨b, o + m * 5 + 1, none⟩) ⟨by omega, o, rfl⟩ _).setCell (p := ⟨b, o + m * 5 + 2, none⟩) ⟨by omega, o, rfl⟩ _).setCell (p := ⟨b, o + m * 5 + 3, none⟩) ⟨by omega, o, rfl⟩ _).trans (KeepS.ofBelow hb3)).setCell (p := ⟨b, o + m * 5 + 4, none⟩) ⟨by omega, o, rfl⟩ _)
      case measure => simp [intOf]; omega
    · have hkl : m = l.length := by omega
      subst hkl
      rw [List.drop_length, List.append_nil] at hr
      go_wp2
      go_ret
      exact ⟨rfl, hr.out, hf.out, hkp⟩

end Go.Proofs.YtfokdblojlmnlamGreatDoor

/-
  The contracts of the law's helpers that mark the Items of a list, one number behind the other, and that look whether the marks are still there.
-/
namespace Go.Proofs.YtfokdblojlmnlamGreatDoor
open Go.ChangeShapes Go.WideShapes Go.ChangeAt Go.RowKit
attribute [local go_sem ↓] Go.wp_at_zero Go.wp_at_succ

/-- The i-th mark from k on. -/
def mark1Itm (k i : Nat) : TI := (((k + 5 * i : Nat) : Int), (((k + 5 * i + 1 : Nat) : Int), ((k + 5 * i + 2 : Nat) : Int), mt (k + 5 * i + 3)), mt (k + 5 * i + 4))
def marksItm (k n : Nat) : List TI := (List.range n).map (mark1Itm k)
theorem marksItm_length (k n : Nat) : (marksItm k n).length = n := by simp [marksItm]
theorem marksItm_at (k n i : Nat) (h : i < (marksItm k n).length) : (marksItm k n)[i] = mark1Itm k i := by simp [marksItm]
theorem marksItm_step (k : Nat) (l : List TI) (i : Nat) (h : i < l.length) : (marksItm k i ++ l.drop i).set i (mark1Itm k i) = marksItm k (i + 1) ++ l.drop (i + 1) := by
  rw [List.set_append_right _ _ (by rw [marksItm_length]; omega), marksItm_length, Nat.sub_self]
  have e : l.drop i = l[i] :: l.drop (i + 1) := List.drop_eq_getElem_cons h
  rw [e, List.set_cons_zero]
  simp [marksItm, List.range_succ]
/-- The cells of a slice may be written. -/
def FreeItm (w : World) (a : Option Addr) (n : Nat) : Prop := ∀ b o, a = some ⟨b, o, none⟩ → ∀ j, j < n * 5 → w.frozen? ⟨b, o + j, none⟩ = false
theorem ItmAt.upd {w w' : World} {b o : Nat} {l : List TI} {i : Nat} {x : TI} (h : ItmAt w (some ⟨b, o, none⟩) l) (hs : w.heap.size ≤ w'.heap.size)
    (hfar : ∀ q, q ≠ o + i * 5 → q ≠ o + i * 5 + 1 → q ≠ o + i * 5 + 2 → q ≠ o + i * 5 + 3 → q ≠ o + i * 5 + 4 → w'.cell? ⟨b, q, none⟩ = w.cell? ⟨b, q, none⟩)
    (h0 : w'.cell? ⟨b, o + i * 5, none⟩ = some (.int .i64 x.1)) (h1 : w'.cell? ⟨b, o + i * 5 + 1, none⟩ = some (.int .i64 x.2.1.1)) (h2 : w'.cell? ⟨b, o + i * 5 + 2, none⟩ = some (.int .i64 x.2.1.2.1)) (h3 : w'.cell? ⟨b, o + i * 5 + 3, none⟩ = some (.string x.2.1.2.2)) (h4 : w'.cell? ⟨b, o + i * 5 + 4, none⟩ = some (.string x.2.2)) :
    ItmAt w' (some ⟨b, o, none⟩) (l.set i x) := by
  intro j hj
  have hj' : j < l.length := by simpa using hj
  obtain ⟨b', o', e, hlt, c0, c1, c2, c3, c4⟩ := h j hj'
  cases e
  refine ⟨b, o, rfl, Nat.lt_of_lt_of_le hlt hs, ?_⟩
  by_cases hij : i = j
  · subst hij
    rw [List.getElem_set_self]
    exact ⟨h0, h1, h2, h3, h4⟩
  · rw [List.getElem_set_ne hij]
    refine ⟨?_, ?_, ?_, ?_, ?_⟩
    · rw [hfar _ (by omega) (by omega) (by omega) (by omega) (by omega)]; exact c0
    · rw [hfar _ (by omega) (by omega) (by omega) (by omega) (by omega)]; exact c1
    · rw [hfar _ (by omega) (by omega) (by omega) (by omega) (by omega)]; exact c2
    · rw [hfar _ (by omega) (by omega) (by omega) (by omega) (by omega)]; exact c3
    · rw [hfar _ (by omega) (by omega) (by omega) (by omega) (by omega)]; exact c4
theorem FreeItm.upd {w w' : World} {a : Option Addr} {n : Nat} (h : FreeItm w a n) (hf : ∀ b o q, a = some ⟨b, o, none⟩ → w'.frozen? ⟨b, q, none⟩ = w.frozen? ⟨b, q, none⟩) : FreeItm w' a n :=
  fun b o e j hj => by rw [hf b o _ e]; exact h b o e j hj
theorem ItmAt.keepS {P : Nat → Prop} {w w' : World} {a : Option Addr} {l : List TI} (h : ItmAt w a l) (hk : KeepS P w w') (hP : ∀ b, inBlk a l.length b → ¬ P b) : ItmAt w' a l := by
  intro j hj
  obtain ⟨b, o, ha, hlt, c0, c1, c2, c3, c4⟩ := h j hj
  have hn := hP b ⟨by omega, o, ha⟩
  refine ⟨b, o, ha, Nat.lt_of_lt_of_le hlt hk.size, ?_, ?_, ?_, ?_, ?_⟩
  · rw [hk.cell hlt hn]; exact c0
  · rw [hk.cell hlt hn]; exact c1
  · rw [hk.cell hlt hn]; exact c2
  · rw [hk.cell hlt hn]; exact c3
  · rw [hk.cell hlt hn]; exact c4

set_option maxRecDepth 100000 in
set_option maxHeartbeats 4000000 in
theorem markItm_laws (a : Option Addr) (cap : Nat) (l : List TI) (k : Nat) (w : World) (hrow : ItmAt w a l) (hfree : FreeItm w a l.length) (h0 : 0 < k) (h1 : k + 5 * l.length ≤ 1099511627776) :
    Calls Tryz.prog 12 #[.slice a l.length cap, .int .i64 k] w fun e w' => e = .returned (.int .i64 ((k + 5 * l.length : Nat) : Int)) ∧ ItmAt w' a (marksItm k l.length) ∧ FreeItm w' a l.length ∧ KeepS (inBlk a l.length) w w' := by
  have hR : Hid (ItmAt w a l) := hrow
  have hF : Hid (FreeItm w a l.length) := hfree
  clear hrow hfree
  go_enter Tryz.func12, Tryz.ntmps12
  go_wp2
  go_loopw [1, 5] (fun s i wr => ∃ m : Nat, m ≤ l.length ∧ i = .int .i64 m ∧ s = .int .i64 ((k + 5 * m : Nat) : Int) ∧ Hid (ItmAt wr a (marksItm k m ++ l.drop m)) ∧ Hid (FreeItm wr a l.length) ∧ KeepS (inBlk a l.length) w wr)
    (fun _ i _ => l.length - (intOf i).toNat)
  case atStart => exact ⟨0, Nat.zero_le _, rfl, by simp, by simpa [marksItm] using hR, hF, KeepS.refl _ _⟩
  case round =>
    obtain ⟨m, hm, rfl, rfl, hr, hf, hkp⟩ := hrel
    by_cases hlt : m < l.length
    · have hl2 : m < (marksItm k m ++ l.drop m).length := by rw [List.length_append, marksItm_length, List.length_drop]; omega
      obtain ⟨b, o, rfl, hbw, c0, c1, c2, c3, c4⟩ := hr.out m hl2
      generalize (marksItm k m ++ l.drop m)[m] = x at c0 c1 c2 c3 c4
      have hi0 : (0 : Int) ≤ (m : Int) := by omega
      have hi1 : (m : Int) < (l.length : Int) := by omega
      have f0 := hf.out b o rfl (m * 5) (by omega)
      have f1 := hf.out b o rfl (m * 5 + 1) (by omega)
      have f2 := hf.out b o rfl (m * 5 + 2) (by omega)
      have f3 := hf.out b o rfl (m * 5 + 3) (by omega)
      have f4 := hf.out b o rfl (m * 5 + 4) (by omega)
      rw [← Nat.add_assoc] at f1 f2 f3 f4
      go_wp2_with fail
      refine (text_lawsN (k + 5 * m + 3) _ (by omega) _ (by omega) (by omega)).mono ?_
      rintro e w2 ⟨rfl, hb2⟩
      have hl2 : b < w2.heap.size := by have := hb2.size; simp at this; omega
      have g2_3 : w2.cell? ⟨b, o + m * 5 + 3, none⟩ = some (.string x.2.1.2.2) := by
        rw [hb2.cell (p := ⟨b, o + m * 5 + 3, none⟩) (by simpa using hbw), cell_off _ _ _ _ _ (by omega), cell_off _ _ _ _ _ (by omega), cell_off _ _ _ _ _ (by omega)]; exact c3
      have e2_3 : w2.frozen? ⟨b, o + m * 5 + 3, none⟩ = false := by
        rw [hb2.frozen (p := ⟨b, o + m * 5 + 3, none⟩) (by simpa using hbw)]; simpa using f3
      have g2_4 : w2.cell? ⟨b, o + m * 5 + 4, none⟩ = some (.string x.2.2) := by
        rw [hb2.cell (p := ⟨b, o + m * 5 + 4, none⟩) (by simpa using hbw), cell_off _ _ _ _ _ (by omega), cell_off _ _ _ _ _ (by omega), cell_off _ _ _ _ _ (by omega)]; exact c4
      have e2_4 : w2.frozen? ⟨b, o + m * 5 + 4, none⟩ = false := by
        rw [hb2.frozen (p := ⟨b, o + m * 5 + 4, none⟩) (by simpa using hbw)]; simpa using f4
      go_wp2_with fail
      refine (text_lawsN (k + 5 * m + 4) _ (by omega) _ (by omega) (by omega)).mono ?_
      rintro e w3 ⟨rfl, hb3⟩
      have hl3 : b < w3.heap.size := by have := hb3.size; simp at this; omega
      have g3_4 : w3.cell? ⟨b, o + m * 5 + 4, none⟩ = some (.string x.2.2) := by
        rw [hb3.cell (p := ⟨b, o + m * 5 + 4, none⟩) (by simpa using hl2), cell_off _ _ _ _ _ (by omega)]; exact g2_4
      have e3_4 : w3.frozen? ⟨b, o + m * 5 + 4, none⟩ = false := by
        rw [hb3.frozen (p := ⟨b, o + m * 5 + 4, none⟩) (by simpa using hl2)]; simpa using e2_4
      go_wp2
      go_roundw
      case rel =>
        have hsz : wr.heap.size ≤ w3.heap.size := by have := hb2.size; have := hb3.size; simp at *; omega
        refine ⟨m + 1, by omega, by go_num, by go_num, ?_, ?_, ?_⟩
        · show ItmAt _ _ _
          rw [← marksItm_step k l m hlt]
          refine hr.out.upd (by simpa using hsz) ?_ ?_ ?_ ?_ ?_ ?_
          · intro q q0 q1 q2 q3 q4
            rw [cell_off _ _ _ _ _ q4, hb3.cell (p := ⟨b, q, none⟩) (by simpa using hl2), cell_off _ _ _ _ _ q3, hb2.cell (p := ⟨b, q, none⟩) (by simpa using hbw), cell_off _ _ _ _ _ q2, cell_off _ _ _ _ _ q1, cell_off _ _ _ _ _ q0]
          · rw [cell_off _ _ _ _ _ (by omega), hb3.cell (p := ⟨b, _, none⟩) (by simpa using hl2), cell_off _ _ _ _ _ (by omega), hb2.cell (p := ⟨b, _, none⟩) (by simpa using hbw), cell_off _ _ _ _ _ (by omega), cell_off _ _ _ _ _ (by omega), cell_here _ _ _ _ (by rw [c0]; rfl)]
            first | (simp [mark1Itm]; done) | (simp [mark1Itm]; omega)
          · rw [cell_off _ _ _ _ _ (by omega), hb3.cell (p := ⟨b, _, none⟩) (by simpa using hl2), cell_off _ _ _ _ _ (by omega), hb2.cell (p := ⟨b, _, none⟩) (by simpa using hbw), cell_off _ _ _ _ _ (by omega), cell_here _ _ _ _ (by rw [cell_off _ _ _ _ _ (by omega), c1]; rfl)]
            first | (simp [mark1Itm]; done) | (simp [mark1Itm]; omega)
          · rw [cell_off _ _ _ _ _ (by omega), hb3.cell (p := ⟨b, _, none⟩) (by simpa using hl2), cell_off _ _ _ _ _ (by omega), hb2.cell (p := ⟨b, _, none⟩) (by simpa using hbw), cell_here _ _ _ _ (by rw [cell_off _ _ _ _ _ (by omega), cell_off _ _ _ _ _ (by omega), c2]; rfl)]
            first | (simp [mark1Itm]; done) | (simp [mark1Itm]; omega)
          · rw [cell_off _ _ _ _ _ (by omega), hb3.cell (p := ⟨b, _, none⟩) (by simpa using hl2), cell_here _ _ _ _ (by rw [g2_3]; rfl)]
            first | (simp [mark1Itm]; done) | (simp [mark1Itm]; omega)
          · rw [cell_here _ _ _ _ (by rw [g3_4]; rfl)]
            first | (simp [mark1Itm]; done) | (simp [mark1Itm]; omega)
        · show FreeItm _ _ _
          refine hf.out.upd ?_
          intro b' o' q e
          cases e
          rw [World.frozen?_setCell, hb3.frozen (p := ⟨b, q, none⟩) (by simpa using hl2), World.frozen?_setCell, hb2.frozen (p := ⟨b, q, none⟩) (by simpa using hbw), World.frozen?_setCell, World.frozen?_setCell, World.frozen?_setCell]
        · exact (((((((hkp.setCell (p := ⟨b, o + m * 5, none⟩) ⟨by omega, o, rfl⟩ _).setCell (p := ⟨b, o + m * 5 + 1, none⟩) ⟨by omega, o, rfl⟩ _).setCell (p := ⟨b, o + m * 5 + 2, none⟩) ⟨by omega, o, rfl⟩ _).trans (KeepS.ofBelow hb2)).setCell (p := ⟨b, o + m * 5 + 3, none⟩) ⟨by omega, o, rfl⟩ _).trans (KeepS.ofBelow hb3)).setCell (p := ⟨b, o + m * 5 + 4, none⟩) ⟨by omega, o, rfl⟩ _)
      case measure => simp [intOf]; omega
    · have hkl : m = l.length := by omega
      subst hkl
      rw [List.drop_length, List.append_nil] at hr
      go_wp2
      go_ret
      exact ⟨rfl, hr.out, hf.out, hkp⟩

set_option maxRecDepth 100000 in
set_option maxHeartbeats 4000000 in
theorem heldItm_laws (a : Option Addr) (cap n : Nat) (k : Nat) (w : World) (hrow : ItmAt w a (marksItm k n)) (h0 : 0 < k) (h1 : k + 5 * n ≤ 1099511627776) :
    Calls Tryz.prog 13 #[.slice a n cap, .int .i64 k] w fun e w' => e = .returned (.int .i64 ((k + 5 * n : Nat) : Int)) ∧ Below w.heap.size w w' := by
  have hR : Hid (ItmAt w a (marksItm k n)) := hrow
  clear hrow
  go_enter Tryz.func13, Tryz.ntmps13
  go_wp2
  go_loopw [1, 5] (fun s i wr => ∃ m : Nat, m ≤ n ∧ i = .int .i64 m ∧ s = .int .i64 ((k + 5 * m : Nat) : Int) ∧ Below w.heap.size w wr)
    (fun _ i _ => n - (intOf i).toNat)
  case atStart => exact ⟨0, Nat.zero_le _, rfl, by simp, Below.refl _ _⟩
  case round =>
    obtain ⟨m, hm, rfl, rfl, hx⟩ := hrel
    by_cases hlt : m < n
    · have hl2 : m < (marksItm k n).length := by rw [marksItm_length]; exact hlt
      obtain ⟨b, o, rfl, hbw, c0, c1, c2, c3, c4⟩ := hR.out.below hx m hl2
      rw [marksItm_at] at c0 c1 c2 c3 c4
      have d0 : wr.cell? ⟨b, o + m * 5, none⟩ = some (.int .i64 ((k : Int) + 5 * (m : Int))) := by rw [c0]; first | (simp [mark1Itm]; done) | (simp [mark1Itm]; omega)
      have d1 : wr.cell? ⟨b, o + m * 5 + 1, none⟩ = some (.int .i64 ((k : Int) + 5 * (m : Int) + 1)) := by rw [c1]; first | (simp [mark1Itm]; done) | (simp [mark1Itm]; omega)
      have d2 : wr.cell? ⟨b, o + m * 5 + 2, none⟩ = some (.int .i64 ((k : Int) + 5 * (m : Int) + 1 + 1)) := by rw [c2]; first | (simp [mark1Itm]; done) | (simp [mark1Itm]; omega)
      obtain ⟨T3, hT3⟩ : ∃ T, mt (k + 5 * m + 3) = T := ⟨_, rfl⟩
      have d3 : wr.cell? ⟨b, o + m * 5 + 3, none⟩ = some (.string T3) := by rw [c3, ← hT3]; simp [mark1Itm]
      obtain ⟨T4, hT4⟩ : ∃ T, mt (k + 5 * m + 4) = T := ⟨_, rfl⟩
      have d4 : wr.cell? ⟨b, o + m * 5 + 4, none⟩ = some (.string T4) := by rw [c4, ← hT4]; simp [mark1Itm]
      clear c0 c1 c2 c3 c4
      have hi0 : (0 : Int) ≤ (m : Int) := by omega
      have hi1 : (m : Int) < (n : Int) := by omega
      go_wp2_with fail
      refine wp_region_held_drew (S := (fun w' => w'.cell? ⟨b, o + m * 5 + 3, none⟩ = some (.string T3))) (by kernel_rfl) ?_ (fun hHeld => ?_)
      · exact d3
      refine wpAnyH_take (i := 0) (by simp only [List.getElem?_toArray, List.getElem?_cons_zero]; rfl) (by kernel_rfl) (by kernel_rfl) (by kernel_rfl) (by intro _ _ _ h; exact h) (Or.inl ⟨by rfl, fun w hSw => by (dsimp only at hSw; go_simp; (try with_reducible rfl))⟩) (by assumption) ?_
      simp only [Act.put, List.setIfInBounds_toArray, List.set_cons_zero, List.set_cons_succ]
      refine wpAnyH_take (i := 1) (by simp only [List.getElem?_toArray, List.getElem?_cons_zero, List.getElem?_cons_succ]; rfl) (by kernel_rfl) (by kernel_rfl) (by kernel_rfl) (by intro _ _ _ h; exact h) (Or.inl ⟨by rfl, fun w hSw => by (dsimp only at hSw; go_simp; (try with_reducible rfl))⟩) (by assumption) ?_
      simp only [Act.put, List.setIfInBounds_toArray, List.set_cons_zero, List.set_cons_succ]
      refine wpAnyH_take (i := 2) (by simp only [List.getElem?_toArray, List.getElem?_cons_zero, List.getElem?_cons_succ]; rfl) (by kernel_rfl) (by kernel_rfl) (by kernel_rfl) (by intro _ _ _ h; exact h) (Or.inl ⟨by rfl, fun w hSw => by (dsimp only at hSw; go_simp; (try with_reducible rfl))⟩) (by assumption) ?_
      simp only [Act.put, List.setIfInBounds_toArray, List.set_cons_zero, List.set_cons_succ]
      refine wpAnyH_take (i := 3) (by simp only [List.getElem?_toArray, List.getElem?_cons_zero, List.getElem?_cons_succ]; rfl) (by kernel_rfl) (by kernel_rfl) (by kernel_rfl) (by intro _ _ _ h; exact h) (Or.inl ⟨by rfl, fun w hSw => by (dsimp only at hSw; go_simp; (try with_reducible rfl))⟩) (by assumption) ?_
      simp only [Act.put, List.setIfInBounds_toArray, List.set_cons_zero, List.set_cons_succ]
      refine wpAnyH_take (i := 4) (by simp only [List.getElem?_toArray, List.getElem?_cons_zero, List.getElem?_cons_succ]; rfl) (by kernel_rfl) (by kernel_rfl) (by kernel_rfl) (by intro _ _ _ h; exact h) (Or.inl ⟨by rfl, fun w hSw => by (dsimp only at hSw; go_simp; (try with_reducible rfl))⟩) (by assumption) ?_
      simp only [Act.put, List.setIfInBounds_toArray, List.set_cons_zero, List.set_cons_succ]
      refine wpAnyH_take (i := 5) (by simp only [List.getElem?_toArray, List.getElem?_cons_zero, List.getElem?_cons_succ]; rfl) (by kernel_rfl) (by kernel_rfl) (by kernel_rfl) (by intro _ _ _ h; exact h) (Or.inl ⟨by rfl, fun w hSw => by (dsimp only at hSw; go_simp; (try with_reducible rfl))⟩) (by assumption) ?_
      simp only [Act.put, List.setIfInBounds_toArray, List.set_cons_zero, List.set_cons_succ]
      refine wpAnyH_take (i := 6) (by simp only [List.getElem?_toArray, List.getElem?_cons_zero, List.getElem?_cons_succ]; rfl) (by kernel_rfl) (by kernel_rfl) (by kernel_rfl) (by intro _ _ _ h; exact h) (Or.inl ⟨by rfl, fun w hSw => by (dsimp only at hSw; go_simp; (try with_reducible rfl))⟩) (by assumption) ?_
      simp only [Act.put, List.setIfInBounds_toArray, List.set_cons_zero, List.set_cons_succ]
      refine wpAnyH_ready (rs := [7]) (by kernel_rfl) (by simp) ?_
      refine AllReadyH.cons (by simp only [List.getElem?_toArray, List.getElem?_cons_zero, List.getElem?_cons_succ]; rfl) ?_ AllReadyH.nil
      intro K hK
      go_simp
      refine (text_lawsN (k + 5 * m + 3) _ (by omega) _ (by omega) (by omega)).mono ?_
      rw [hT3]
      rintro e v1 ⟨rfl, hb1'⟩
      have hb1 : Below wr.heap.size wr v1 := undrew hb1'
      rw [← hb1.cell (p := ⟨b, _, none⟩) hbw] at d3 d4
      replace hbw := Nat.lt_of_lt_of_le hbw hb1.size
      have hx1 := chain hx hb1
      clear hb1 hb1'
      go_wp2_with fail
      refine hK.out _ _ d3 (fun hHeld => ?_)
      clear hK K
      try simp only [Act.put, List.setIfInBounds_toArray, List.set_cons_zero, List.set_cons_succ]
      refine wpAnyH_take (i := 8) (by simp only [List.getElem?_toArray, List.getElem?_cons_zero, List.getElem?_cons_succ]; rfl) (by kernel_rfl) (by kernel_rfl) (by kernel_rfl) (by intro _ _ _ h; exact h) (Or.inl ⟨by rfl, fun w hSw => by (dsimp only at hSw; go_simp; (try with_reducible rfl))⟩) (by assumption) ?_
      simp only [Act.put, List.setIfInBounds_toArray, List.set_cons_zero, List.set_cons_succ]
      refine wpAnyH_done (by kernel_rfl) ?_ _
      go_wp2_with fail
      refine wp_region_held_drew (S := (fun w' => w'.cell? ⟨b, o + m * 5 + 4, none⟩ = some (.string T4))) (by kernel_rfl) ?_ (fun hHeld => ?_)
      · exact d4
      refine wpAnyH_take (i := 0) (by simp only [List.getElem?_toArray, List.getElem?_cons_zero]; rfl) (by kernel_rfl) (by kernel_rfl) (by kernel_rfl) (by intro _ _ _ h; exact h) (Or.inl ⟨by rfl, fun w hSw => by (dsimp only at hSw; go_simp; (try with_reducible rfl))⟩) (by assumption) ?_
      simp only [Act.put, List.setIfInBounds_toArray, List.set_cons_zero, List.set_cons_succ]
      refine wpAnyH_take (i := 1) (by simp only [List.getElem?_toArray, List.getElem?_cons_zero, List.getElem?_cons_succ]; rfl) (by kernel_rfl) (by kernel_rfl) (by kernel_rfl) (by intro _ _ _ h; exact h) (Or.inl ⟨by rfl, fun w hSw => by (dsimp only at hSw; go_simp; (try with_reducible rfl))⟩) (by assumption) ?_
      simp only [Act.put, List.setIfInBounds_toArray, List.set_cons_zero, List.set_cons_succ]
      refine wpAnyH_take (i := 2) (by simp only [List.getElem?_toArray, List.getElem?_cons_zero, List.getElem?_cons_succ]; rfl) (by kernel_rfl) (by kernel_rfl) (by kernel_rfl) (by intro _ _ _ h; exact h) (Or.inl ⟨by rfl, fun w hSw => by (dsimp only at hSw; go_simp; (try with_reducible rfl))⟩) (by assumption) ?_
      simp only [Act.put, List.setIfInBounds_toArray, List.set_cons_zero, List.set_cons_succ]
      refine wpAnyH_take (i := 3) (by simp only [List.getElem?_toArray, List.getElem?_cons_zero, List.getElem?_cons_succ]; rfl) (by kernel_rfl) (by kernel_rfl) (by kernel_rfl) (by intro _ _ _ h; exact h) (Or.inl ⟨by rfl, fun w hSw => by (dsimp only at hSw; go_simp; (try with_reducible rfl))⟩) (by assumption) ?_
      simp only [Act.put, List.setIfInBounds_toArray, List.set_cons_zero, List.set_cons_succ]
      refine wpAnyH_take (i := 4) (by simp only [List.getElem?_toArray, List.getElem?_cons_zero, List.getElem?_cons_succ]; rfl) (by kernel_rfl) (by kernel_rfl) (by kernel_rfl) (by intro _ _ _ h; exact h) (Or.inl ⟨by rfl, fun w hSw => by (dsimp only at hSw; go_simp; (try with_reducible rfl))⟩) (by assumption) ?_
      simp only [Act.put, List.setIfInBounds_toArray, List.set_cons_zero, List.set_cons_succ]
      refine wpAnyH_take (i := 5) (by simp only [List.getElem?_toArray, List.getElem?_cons_zero, List.getElem?_cons_succ]; rfl) (by kernel_rfl) (by kernel_rfl) (by kernel_rfl) (by intro _ _ _ h; exact h) (Or.inl ⟨by rfl, fun w hSw => by (dsimp only at hSw; go_simp; (try with_reducible rfl))⟩) (by assumption) ?_
      simp only [Act.put, List.setIfInBounds_toArray, List.set_cons_zero, List.set_cons_succ]
      refine wpAnyH_ready (rs := [6]) (by kernel_rfl) (by simp) ?_
      refine AllReadyH.cons (by simp only [List.getElem?_toArray, List.getElem?_cons_zero, List.getElem?_cons_succ]; rfl) ?_ AllReadyH.nil
      intro K hK
      go_simp
      refine (text_lawsN (k + 5 * m + 4) _ (by omega) _ (by omega) (by omega)).mono ?_
      rw [hT4]
      rintro e v2 ⟨rfl, hb2'⟩
      have hb2 : Below v1.heap.size v1 v2 := undrew hb2'
      rw [← hb2.cell (p := ⟨b, _, none⟩) hbw] at d4
      replace hbw := Nat.lt_of_lt_of_le hbw hb2.size
      have hx2 := chain hx1 hb2
      clear hb2 hb2'
      go_wp2_with fail
      refine hK.out _ _ d4 (fun hHeld => ?_)
      clear hK K
      try simp only [Act.put, List.setIfInBounds_toArray, List.set_cons_zero, List.set_cons_succ]
      refine wpAnyH_take (i := 7) (by simp only [List.getElem?_toArray, List.getElem?_cons_zero, List.getElem?_cons_succ]; rfl) (by kernel_rfl) (by kernel_rfl) (by kernel_rfl) (by intro _ _ _ h; exact h) (Or.inl ⟨by rfl, fun w hSw => by (dsimp only at hSw; go_simp; (try with_reducible rfl))⟩) (by assumption) ?_
      simp only [Act.put, List.setIfInBounds_toArray, List.set_cons_zero, List.set_cons_succ]
      refine wpAnyH_done (by kernel_rfl) ?_ _
      go_wp2
      go_roundw
      case rel => exact ⟨m + 1, by omega, by go_num, by go_num, hx2⟩
      case measure => simp [intOf]; omega
    · have hkl : m = n := by omega
      subst hkl
      go_wp2
      go_ret
      exact ⟨rfl, hx⟩

end Go.Proofs.YtfokdblojlmnlamGreatDoor

/-
  A law's argument that is a slice of items, opened; what the laws ask of lists of items, with their lengths as letters.
-/
namespace Go.Proofs.YtfokdblojlmnlamGreatDoor
open Go.ChangeShapes Go.WideShapes Go.ChangeAt Go.RowKit Go.Deep

theorem open_itms {H : Type} {enc : TypeId × Value → H} {P : Program} {w : World} {base : Nat} {spare : Nat → Bool} {held : Bool} {t e : TypeId} {f0 f1 f2 g0 g1 g2 : Field} {fuel : Nat} {a : Option Addr} {len cap : Nat} {x : DataW H × List MemPlace}
    (ht : P.underlying t = some (.slice e)) (he : P.underlying e = some (.struct #[f0, f1, f2])) (hce : P.underlying f1.type = some (.struct #[g0, g1, g2])) (kk : P.cellsOf e = 5)
    (o0 : f0.offset = 0) (o1 : f1.offset = 1) (o2 : f2.offset = 4) (p0 : g0.offset = 0) (p1 : g1.offset = 1) (p2 : g2.offset = 2)
    (c0 : P.cellsOf f0.type = 1) (c1 : P.cellsOf f1.type = 3) (c2 : P.cellsOf f2.type = 1) (d0 : P.cellsOf g0.type = 1) (d1 : P.cellsOf g1.type = 1) (d2 : P.cellsOf g2.type = 1)
    (u0 : P.underlying f0.type = some (.int .i64)) (u1 : P.underlying f2.type = some .string) (v0 : P.underlying g0.type = some (.int .i64)) (v1 : P.underlying g1.type = some (.int .i64)) (v2 : P.underlying g2.type = some .string)
    (h : DataW.trod enc P w base spare held fuel t [.slice a len cap] = some x) :
    ∃ l : List TI, l.length = len ∧ ItmAt w a l ∧ FitItm l ∧ len ≤ maxLen ∧ (a = none → cap = 0) := by
  rcases open_slice ht h with ⟨h0, _⟩ | ⟨ad, len', cap', m, n, D, Pl, hcs, hb, hl, hm, hmm, _, hx⟩
  · simp at h0
    obtain ⟨rfl, rfl, rfl⟩ := h0
    exact ⟨[], rfl, fun j hj => by simp at hj, fun j hj => by simp at hj, by unfold maxLen; omega, fun _ => rfl⟩
  simp at hcs
  obtain ⟨rfl, rfl, rfl⟩ := hcs
  have hlm : len ≤ m := by rw [hmm]; split <;> omega
  have each : ∀ i, i < len → ∃ q : TI, w.cell? (ad.add (i * 5)) = some (.int .i64 q.1) ∧ w.cell? (ad.add (i * 5 + 1)) = some (.int .i64 q.2.1.1) ∧ w.cell? (ad.add (i * 5 + 2)) = some (.int .i64 q.2.1.2.1) ∧ w.cell? (ad.add (i * 5 + 3)) = some (.string q.2.1.2.2) ∧ w.cell? (ad.add (i * 5 + 4)) = some (.string q.2.2) ∧ q.2.1.2.2.size ≤ maxLen ∧ q.2.2.size ≤ maxLen := by
    intro i hi
    obtain ⟨cs', h1, h2⟩ := hx i (by omega)
    rw [kk] at h1
    obtain ⟨_, hlen, hcell⟩ := World.cells?_some h1
    obtain ⟨xs, k, hk, hxy, _, hxl, hf⟩ := DataW.trod_struct he h2
    match xs, hxl, cs', hlen with
    | [y0, y1, y2], _, [w0, w1, w2, w3, w4], _ =>
      have q0 := hf 0 f0 rfl
      have q1 := hf 1 f1 rfl
      have q2 := hf 2 f2 rfl
      simp [o0, o1, o2, c0, c1, c2] at q0 q1 q2
      obtain ⟨ys, k2, hk2, hyy, _, hyl, hg⟩ := DataW.trod_struct hce q1
      match ys, hyl with
      | [z0, z1, z2], _ =>
        have r0 := hg 0 g0 rfl
        have r1 := hg 1 g1 rfl
        have r2 := hg 2 g2 rfl
        simp [p0, p1, p2, d0, d1, d2] at r0 r1 r2
        have e0 := hcell 0 (by omega)
        have e1 := hcell 1 (by omega)
        have e2 := hcell 2 (by omega)
        have e3 := hcell 3 (by omega)
        have e4 := hcell 4 (by omega)
        rw [add_add] at e0 e1 e2 e3 e4
        obtain ⟨k0, ek, _, _⟩ := DataW.trod_int u0 q0
        obtain ⟨s0, es, _, hs⟩ := DataW.trod_string u1 q2
        obtain ⟨k1, ek1, _, _⟩ := DataW.trod_int v0 r0
        obtain ⟨n1, en1, _, _⟩ := DataW.trod_int v1 r1
        obtain ⟨s1, es1, _, hs1⟩ := DataW.trod_string v2 r2
        simp at ek es ek1 en1 es1
        subst ek es ek1 en1 es1
        exact ⟨(k0, (k1, n1, s1), s0), by simpa using e0, by simpa using e1, by simpa using e2, by simpa using e3, by simpa using e4, hs1, hs⟩
  obtain ⟨q, hq⟩ := choose_lt each
  have spot : 0 < len → ad.spot = none := by
    intro h0
    obtain ⟨e0, _⟩ := hq 0 h0
    simpa [Addr.add] using World.cell?_spot e0
  refine ⟨(List.range len).map q, by simp, ?_, ?_, by omega, fun h => by cases h⟩
  · intro j hj
    have hj' : j < len := by simpa using hj
    obtain ⟨b, o, sp⟩ := ad
    have hsp := spot (by omega)
    simp at hsp
    subst hsp
    obtain ⟨e0, e1, e2, e3, e4, _⟩ := hq j hj'
    have hadd : ∀ q, ((⟨b, o, none⟩ : Addr).add q) = ⟨b, o + q, none⟩ := by
      intro q
      unfold Addr.add
      by_cases hq : q = 0 <;> simp [hq]
    rw [hadd] at e0 e1 e2 e3 e4
    refine ⟨b, o, rfl, World.block_lt_of_cell? w _ e0, ?_, ?_, ?_, ?_, ?_⟩
    · simpa using e0
    · simpa [Nat.add_assoc] using e1
    · simpa [Nat.add_assoc] using e2
    · simpa [Nat.add_assoc] using e3
    · simpa [Nat.add_assoc] using e4
  · intro j hj
    have hj' : j < len := by simpa using hj
    simpa using (hq j hj').2.2.2.2.2
theorem szI (n : Nat) (a : Option Addr) (cap : Nat) (l : List TI) (hn : l.length = n) (w : World) (hrow : ItmAt w a l) (hfit : FitItm l) (hm : n ≤ maxLen) (r : Int) (hr : leftOfItm l 1048576 = r) :
    Calls Tryz.prog 14 #[.slice a n cap, .int .i64 1048576] w fun e w' => e = .returned (.int .i64 r) ∧ Below w.heap.size w w' := by
  subst hn hr; exact szsItm a cap l 1048576 w hrow hfit hm (by omega) (by omega)
theorem tosI (n : Nat) (a : Option Addr) (cap : Nat) (l : List TI) (hn : l.length = n) (w : World) (hrow : ItmAt w a l) (hm : n ≤ 1048576) :
    Calls Tryz.prog 16 #[.slice a n cap] w fun e w' => ∃ g, e = .returned (.slice (some ⟨g, 0, none⟩) n n) ∧ ItmAt w' (some ⟨g, 0, none⟩) l ∧ w.heap.size ≤ g ∧ (∀ j, j < n * 5 → w'.frozen? ⟨g, 0 + j, none⟩ = false) ∧ Below w.heap.size w w' := by
  subst hn
  refine (tosItm a cap l w hrow hm).mono ?_
  rintro e w' ⟨rfl, hO, hb⟩
  refine ⟨_, rfl, ownItm hO, (hO.lt _ rfl).1, fun j _ => ?_, hb⟩
  rw [Nat.zero_add]; exact hO.frozenAt j
theorem eqsI (n : Nat) (a b : Option Addr) (ca cb : Nat) (l : List TI) (hn : l.length = n) (w : World) (ha : ItmAt w a l) (hb : ItmAt w b l) (hm : n ≤ maxLen) :
    Calls Tryz.prog 9 #[.slice a n ca, .slice b n cb] w fun e w' => e = .returned (.bool true) ∧ Below w.heap.size w w' := by
  subst hn; exact eqsItm a b ca cb l w ha hb hm
theorem oneI_le {l : List TI} {x : TI} (h : x ∈ l) : oneItm x ≤ weightItm l := by
  unfold weightItm
  obtain ⟨j, hj, rfl⟩ := List.mem_iff_getElem.1 h
  have h1 := weightItm_take l j hj
  have h2 := weightItm_le l (j + 1)
  unfold weightItm at h1 h2
  omega
end Go.Proofs.YtfokdblojlmnlamGreatDoor

/-
  What the laws ask of lists of tokens, with their lengths as letters; what an exact law asks of an answer of items.
-/
namespace Go.Proofs.YtfokdblojlmnlamGreatDoor
open Go.ChangeShapes Go.WideShapes Go.ChangeAt Go.RowKit

theorem szT (n : Nat) (a : Option Addr) (cap : Nat) (l : List TT) (hn : l.length = n) (w : World) (hrow : TokAt w a l) (hfit : FitTok l) (hm : n ≤ maxLen) (r : Int) (hr : leftOfTok l 1048576 = r) :
    Calls Tryz.prog 5 #[.slice a n cap, .int .i64 1048576] w fun e w' => e = .returned (.int .i64 r) ∧ Below w.heap.size w w' := by
  subst hn hr; exact szsTok a cap l 1048576 w hrow hfit hm (by omega) (by omega)
theorem tosT (n : Nat) (a : Option Addr) (cap : Nat) (l : List TT) (hn : l.length = n) (w : World) (hrow : TokAt w a l) (hm : n ≤ 1048576) :
    Calls Tryz.prog 7 #[.slice a n cap] w fun e w' => ∃ g, e = .returned (.slice (some ⟨g, 0, none⟩) n n) ∧ TokAt w' (some ⟨g, 0, none⟩) l ∧ w.heap.size ≤ g ∧ (∀ j, j < n * 5 → w'.frozen? ⟨g, 0 + j, none⟩ = false) ∧ Below w.heap.size w w' := by
  subst hn
  refine (tosTok a cap l w hrow hm).mono ?_
  rintro e w' ⟨rfl, hO, hb⟩
  refine ⟨_, rfl, ownTok hO, (hO.lt _ rfl).1, fun j _ => ?_, hb⟩
  rw [Nat.zero_add]; exact hO.frozenAt j
theorem eqsT (n : Nat) (a b : Option Addr) (ca cb : Nat) (l : List TT) (hn : l.length = n) (w : World) (ha : TokAt w a l) (hb : TokAt w b l) (hm : n ≤ maxLen) :
    Calls Tryz.prog 10 #[.slice a n ca, .slice b n cb] w fun e w' => e = .returned (.bool true) ∧ Below w.heap.size w w' := by
  subst hn; exact eqsTok a b ca cb l w ha hb hm
theorem oneT_le {l : List TT} {x : TT} (h : x ∈ l) : oneTok x ≤ weightTok l := by
  unfold weightTok
  obtain ⟨j, hj, rfl⟩ := List.mem_iff_getElem.1 h
  have h1 := weightTok_take l j hj
  have h2 := weightTok_le l (j + 1)
  unfold weightTok at h1 h2
  omega
theorem markTN (n : Nat) (a : Option Addr) (cap : Nat) (l : List TT) (hn : l.length = n) (r : Nat) (hr : 1 + 5 * n = r) (w : World) (hrow : TokAt w a l) (hfree : FreeTok w a n) (h1 : r ≤ 1099511627776) :
    Calls Tryz.prog 11 #[.slice a n cap, .int .i64 1] w fun e w' => e = .returned (.int .i64 (r : Int)) ∧ KeepS (inBlk a n) w w' := by
  subst hn hr
  refine (markTok_laws a cap l 1 w hrow hfree (by omega) h1).mono ?_
  rintro e w' ⟨rfl, _, _, h3⟩
  exact ⟨rfl, h3⟩
theorem free_tok {w : World} {g n : Nat} (h : ∀ j, j < n * 5 → w.frozen? ⟨g, 0 + j, none⟩ = false) : FreeTok w (some ⟨g, 0, none⟩) n := by
  intro b o e j hj
  simp only [Option.some.injEq, Addr.mk.injEq, and_true] at e
  obtain ⟨rfl, rfl⟩ := e
  exact h j hj
theorem in_ltT {w : World} {g n b : Nat} {l : List TT} (hn : l.length = n) (h : TokAt w (some ⟨g, 0, none⟩) l) (hb : inBlk (some ⟨g, 0, none⟩) n b) : b = g ∧ g < w.heap.size := by
  obtain ⟨h0, o, e⟩ := hb
  simp only [Option.some.injEq, Addr.mk.injEq, and_true] at e
  obtain ⟨rfl, rfl⟩ := e
  obtain ⟨g', o', e', hlt, _⟩ := h 0 (by omega)
  simp only [Option.some.injEq, Addr.mk.injEq, and_true] at e'
  obtain ⟨rfl, rfl⟩ := e'
  exact ⟨rfl, hlt⟩
theorem free_tok_below {w w' : World} {g n : Nat} (hg : g < w.heap.size) (h : FreeTok w (some ⟨g, 0, none⟩) n) (hb : Below w.heap.size w w') : FreeTok w' (some ⟨g, 0, none⟩) n := by
  refine h.upd (fun b o q e => ?_)
  simp only [Option.some.injEq, Addr.mk.injEq, and_true] at e
  obtain ⟨rfl, rfl⟩ := e
  exact World.frozen?_of_block (a := ⟨g, q, none⟩) (hb.block g hg)
theorem markAI (n : Nat) (a : Option Addr) (cap : Nat) (l : List TI) (hn : l.length = n) (r : Nat) (hr : 1 + 5 * n = r) (w : World) (hrow : ItmAt w a l) (hfree : FreeItm w a n) (h1 : r ≤ 1099511627776) :
    Calls Tryz.prog 12 #[.slice a n cap, .int .i64 1] w fun e w' => e = .returned (.int .i64 (r : Int)) ∧ ItmAt w' a (marksItm 1 n) ∧ KeepS (inBlk a n) w w' := by
  subst hn hr
  refine (markItm_laws a cap l 1 w hrow hfree (by omega) h1).mono ?_
  rintro e w' ⟨rfl, h1, _, h3⟩
  exact ⟨rfl, h1, h3⟩
theorem heldAI (n : Nat) (a : Option Addr) (cap : Nat) (r : Nat) (hr : 1 + 5 * n = r) (w : World) (hrow : ItmAt w a (marksItm 1 n)) (h1 : r ≤ 1099511627776) :
    Calls Tryz.prog 13 #[.slice a n cap, .int .i64 1] w fun e w' => e = .returned (.int .i64 (r : Int)) ∧ Below w.heap.size w w' := by
  subst hr; exact heldItm_laws a cap n 1 w hrow (by omega) h1
theorem own_freeI {w : World} {base g c n : Nat} {e : TypeId} {xs : List Value} (h : w.ownsRow base e 5 (.slice (some ⟨g, 0, none⟩) n c) n xs) : FreeItm w (some ⟨g, 0, none⟩) n := by
  intro b o e j _
  simp only [Option.some.injEq, Addr.mk.injEq, and_true] at e
  obtain ⟨rfl, rfl⟩ := e
  rw [Nat.zero_add]; exact h.frozenAt j
end Go.Proofs.YtfokdblojlmnlamGreatDoor

/-
  The contracts of the law's helpers that mark the cells of a list of lists, and that look whether the marks are still there.
-/
namespace Go.Proofs.YtfokdblojlmnlamGreatDoor
open Go.ChangeShapes Go.WideShapes Go.ChangeAt Go.RowKit
attribute [local go_sem ↓] Go.wp_at_zero Go.wp_at_succ

/-- How many cells lie ahead of the i-th list. -/
def offs (L : List (List CT)) (i : Nat) : Nat := ((L.take i).map List.length).sum
theorem offs_step (L : List (List CT)) (i : Nat) (h : i < L.length) : offs L (i + 1) = offs L i + L[i].length := by
  unfold offs
  rw [List.take_succ_eq_append_getElem h, List.map_append, List.sum_append]; simp
theorem offs_le (L : List (List CT)) (i : Nat) : offs L i ≤ offs L L.length := by
  unfold offs
  rw [List.take_length]
  conv => rhs; rw [← List.take_append_drop i L, List.map_append, List.sum_append]
  omega

/-- The heads of the lists lie where the slice says. -/
def HeadsAt (w : World) (a : Option Addr) (L : List (List CT)) (A : Nat → Option Addr) (C : Nat → Nat) : Prop :=
  ∀ i (h : i < L.length), ∃ b o, a = some ⟨b, o, none⟩ ∧ b < w.heap.size ∧ w.cell? ⟨b, o + i, none⟩ = some (.slice (A i) L[i].length (C i))
/-- No two lists that have cells share a block, and none shares one with the heads. -/
structure Apart (a : Option Addr) (L : List (List CT)) (A : Nat → Option Addr) : Prop where
  heads : ∀ i (h : i < L.length) b o, a = some ⟨b, o, none⟩ → ¬ inBlk (A i) L[i].length b
  rows : ∀ i j (hi : i < L.length) (hj : j < L.length) b, i ≠ j → inBlk (A i) L[i].length b → ¬ inBlk (A j) L[j].length b

theorem RowAt.keepS {P : Nat → Prop} {w w' : World} {a : Option Addr} {l : List CT} (h : RowAt w a l) (hk : KeepS P w w') (hP : ∀ b, inBlk a l.length b → ¬ P b) : RowAt w' a l := by
  intro j hj
  obtain ⟨b, o, ha, hlt, h0, h1, h2⟩ := h j hj
  have hn := hP b ⟨by omega, o, ha⟩
  exact ⟨b, o, ha, Nat.lt_of_lt_of_le hlt hk.size, by rw [hk.cell hlt hn]; exact h0, by rw [hk.cell hlt hn]; exact h1, by rw [hk.cell hlt hn]; exact h2⟩
theorem Free.keepS {P : Nat → Prop} {w w' : World} {a : Option Addr} {l : List CT} (hf : Free w a l.length) (h : RowAt w a l) (hk : KeepS P w w') (hP : ∀ b, inBlk a l.length b → ¬ P b) : Free w' a l.length := by
  intro b o ha j hj
  obtain ⟨b', o', ha', hlt, _⟩ := h 0 (by omega)
  rw [ha] at ha'
  cases ha'
  rw [hk.frozen hlt (hP b ⟨by omega, o, ha⟩)]
  exact hf b o ha j hj
theorem HeadsAt.keepS {P : Nat → Prop} {w w' : World} {a : Option Addr} {L : List (List CT)} {A : Nat → Option Addr} {C : Nat → Nat} (h : HeadsAt w a L A C) (hk : KeepS P w w') (hP : ∀ b o, a = some ⟨b, o, none⟩ → ¬ P b) : HeadsAt w' a L A C := by
  intro i hi
  obtain ⟨b, o, ha, hlt, h0⟩ := h i hi
  exact ⟨b, o, ha, Nat.lt_of_lt_of_le hlt hk.size, by rw [hk.cell hlt (hP b o ha)]; exact h0⟩

/-- The lists are marked up to the i-th; the others are as they were. -/
def Marked (w : World) (L : List (List CT)) (A : Nat → Option Addr) (k i : Nat) : Prop :=
  ∀ j (h : j < L.length), (j < i → RowAt w (A j) (marks (k + 3 * offs L j) L[j].length)) ∧ (i ≤ j → RowAt w (A j) L[j]) ∧ Free w (A j) L[j].length
/-- The blocks of all lists. -/
def rowBlks (L : List (List CT)) (A : Nat → Option Addr) (b : Nat) : Prop := ∃ i, ∃ h : i < L.length, inBlk (A i) L[i].length b

theorem Marked.step {w w' : World} {a : Option Addr} {L : List (List CT)} {A : Nat → Option Addr} {k i : Nat} (hi : i < L.length) (h : Marked w L A k i) (ap : Apart a L A) (hk : KeepS (inBlk (A i) L[i].length) w w')
    (hr : RowAt w' (A i) (marks (k + 3 * offs L i) L[i].length)) (hf : Free w' (A i) L[i].length) : Marked w' L A k (i + 1) := by
  intro j hj
  by_cases hij : j = i
  · subst hij
    exact ⟨fun _ => hr, fun hle => by omega, hf⟩
  · obtain ⟨h1, h2, h3⟩ := h j hj
    have hP : ∀ b, inBlk (A j) L[j].length b → ¬ inBlk (A i) L[i].length b := fun b hb => ap.rows j i hj hi b hij hb
    refine ⟨fun hlt => ?_, fun hle => (h2 (by omega)).keepS hk hP, ?_⟩
    · exact (h1 (by omega)).keepS hk (by rw [marks_length]; exact hP)
    · by_cases hlt : j < i
      · have hm := h1 hlt
        have := Free.keepS (l := marks (k + 3 * offs L j) L[j].length) (by rw [marks_length]; exact h3) hm hk (by rw [marks_length]; exact hP)
        rwa [marks_length] at this
      · exact h3.keepS (h2 (by omega)) hk hP

end Go.Proofs.YtfokdblojlmnlamGreatDoor

/-
  Rows that lie in memory of their own may be marked: their heads lie there, no two share a block, and all may be written.
-/
namespace Go.Proofs.YtfokdblojlmnlamGreatDoor
open Go.ChangeShapes Go.WideShapes Go.ChangeAt Go.RowKit

theorem own_lt {w : World} {base g n c sz : Nat} {e : TypeId} {xs : List Value} (h : w.ownsRow base e sz (.slice (some ⟨g, 0, none⟩) n c) n xs) : g < w.heap.size := by
  rcases h.2 with ⟨h', _⟩ | ⟨g', cap', cur, h', _, hg, _⟩
  · simp at h'
  · simp only [Value.slice.injEq, Option.some.injEq, Addr.mk.injEq, and_true, true_and] at h'
    obtain ⟨rfl, rfl⟩ := h'
    by_cases hl : g < w.heap.size
    · exact hl
    · rw [Array.getElem?_eq_none (by omega)] at hg; cases hg

theorem getD_at {L : List (List CT)} {i : Nat} (h : i < L.length) : L.getD i [] = L[i] := by simp [List.getD, List.getElem?_eq_getElem h]

end Go.Proofs.YtfokdblojlmnlamGreatDoor

/-
  The contract of the law's helper that takes a list of lists over: new memory, a block for each list.
-/
namespace Go.Proofs.YtfokdblojlmnlamGreatDoor
open Go.ChangeShapes Go.WideShapes Go.ChangeAt Go.RowKit
attribute [local go_sem ↓] Go.wp_at_zero Go.wp_at_succ

/-- The first m lists are taken over, each into a block of its own behind block g. -/
structure Taken (w : World) (g : Nat) (L : List (List CT)) (G : Nat → Nat) (m : Nat) : Prop where
  lt : g < w.heap.size
  there : ∀ i, i < L.length → ∃ u, w.cell? ⟨g, i, none⟩ = some u
  free : ∀ i, i < L.length → w.frozen? ⟨g, i, none⟩ = false
  bounds : ∀ i, i < m → g < G i ∧ G i < w.heap.size
  rises : ∀ i j, i < j → j < m → G i < G j
  rows : ∀ i (h : i < L.length), i < m → w.cell? ⟨g, i, none⟩ = some (.slice (some ⟨G i, 0, none⟩) L[i].length L[i].length) ∧ RowAt w (some ⟨G i, 0, none⟩) L[i] ∧ Free w (some ⟨G i, 0, none⟩) L[i].length

theorem Taken.below {w w' : World} {g : Nat} {L : List (List CT)} {G : Nat → Nat} {m : Nat} (h : Taken w g L G m) (hb : Below w.heap.size w w') : Taken w' g L G m where
  lt := Nat.lt_of_lt_of_le h.lt hb.size
  there i hi := by obtain ⟨u, hu⟩ := h.there i hi; exact ⟨u, by rw [hb.cell (p := ⟨g, i, none⟩) h.lt]; exact hu⟩
  free i hi := by rw [hb.frozen (p := ⟨g, i, none⟩) h.lt]; exact h.free i hi
  bounds i hi := ⟨(h.bounds i hi).1, Nat.lt_of_lt_of_le (h.bounds i hi).2 hb.size⟩
  rises := h.rises
  rows i hi hm := by
    obtain ⟨h1, h2, h3⟩ := h.rows i hi hm
    refine ⟨by rw [hb.cell (p := ⟨g, i, none⟩) h.lt]; exact h1, h2.below hb, ?_⟩
    intro b o e j hj
    cases e
    rw [hb.frozen (p := ⟨G i, _, none⟩) (h.bounds i hm).2]; exact h3 _ _ rfl j hj

/-- One list more is taken over: its head is written. -/
theorem Taken.step {w : World} {g : Nat} {L : List (List CT)} {G : Nat → Nat} {m B : Nat} (h : Taken w g L G m) (hm : m < L.length) (hB : B < w.heap.size) (hgB : g < B) (hup : ∀ i, i < m → G i < B)
    (hr : RowAt w (some ⟨B, 0, none⟩) L[m]) (hf : Free w (some ⟨B, 0, none⟩) L[m].length) :
    Taken (w.setCell ⟨g, m, none⟩ (.slice (some ⟨B, 0, none⟩) L[m].length L[m].length)) g L (fun i => if i = m then B else G i) (m + 1) where
  lt := by simpa using h.lt
  there i hi := by
    by_cases e : i = m
    · subst e
      obtain ⟨u, hu⟩ := h.there i hi
      exact ⟨_, cell_here _ _ _ _ (by rw [hu]; rfl)⟩
    · obtain ⟨u, hu⟩ := h.there i hi
      exact ⟨u, by rw [cell_off _ _ _ _ _ e]; exact hu⟩
  free i hi := by rw [World.frozen?_setCell]; exact h.free i hi
  bounds i hi := by
    by_cases e : i = m
    · simpa [e] using ⟨hgB, hB⟩
    · simpa [e] using h.bounds i (by omega)
  rises i j hij hj := by
    by_cases e : j = m
    · have ei : i ≠ m := by omega
      simpa [e, ei] using hup i (by omega)
    · have ei : i ≠ m := by omega
      simpa [e, ei] using h.rises i j hij (by omega)
  rows i hi hlt := by
    have far : ∀ b q, b ≠ g → (w.setCell ⟨g, m, none⟩ (.slice (some ⟨B, 0, none⟩) L[m].length L[m].length)).cell? ⟨b, q, none⟩ = w.cell? ⟨b, q, none⟩ := fun b q hb => cell_far _ _ _ _ _ _ hb
    have rowFar : ∀ b l, b ≠ g → RowAt w (some ⟨b, 0, none⟩) l → RowAt (w.setCell ⟨g, m, none⟩ (.slice (some ⟨B, 0, none⟩) L[m].length L[m].length)) (some ⟨b, 0, none⟩) l := by
      intro b l hb hr j hj
      obtain ⟨b', o', e, hlt, c0, c1, c2⟩ := hr j hj
      cases e
      exact ⟨b, 0, rfl, by simpa using hlt, by rw [far _ _ hb]; exact c0, by rw [far _ _ hb]; exact c1, by rw [far _ _ hb]; exact c2⟩
    have freeFar : ∀ b n, Free w (some ⟨b, 0, none⟩) n → Free (w.setCell ⟨g, m, none⟩ (.slice (some ⟨B, 0, none⟩) L[m].length L[m].length)) (some ⟨b, 0, none⟩) n := by
      intro b n hf b' o' e j hj
      rw [World.frozen?_setCell]; exact hf b' o' e j hj
    by_cases e : i = m
    · subst e
      obtain ⟨u, hu⟩ := h.there i hi
      simp only [if_true]
      exact ⟨cell_here _ _ _ _ (by rw [hu]; rfl), rowFar _ _ (by omega) hr, freeFar _ _ hf⟩
    · obtain ⟨h1, h2, h3⟩ := h.rows i hi (by omega)
      have hb := (h.bounds i (by omega)).1
      simp only [if_neg e]
      exact ⟨by rw [cell_off _ _ _ _ _ e]; exact h1, rowFar _ _ (by omega) h2, freeFar _ _ h3⟩

end Go.Proofs.YtfokdblojlmnlamGreatDoor
