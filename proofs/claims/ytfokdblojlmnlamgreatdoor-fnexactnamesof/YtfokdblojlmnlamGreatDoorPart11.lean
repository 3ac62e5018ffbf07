/-
  A part of the proof: Itm2, Strs2, Lists8, Rank5, Lists9, TakenX, Open1, Open5, Laid.
-/
import Derived.Test.YtfokdblojlmnlamGreatDoorPart5
import Derived.Test.YtfokdblojlmnlamGreatDoorPart10
import Derived.Test.YtfokdblojlmnlamGreatDoorPart1
import Derived.Test.YtfokdblojlmnlamGreatDoorPart9
import Derived.Deep.SlicePairs
import Derived.Lib.SmallJoins
import Derived.Test.YtfokdblojlmnlamGreatDoorPart6
import Derived.LaidMore
import Derived.Stop.LaidErr
import Derived.Lib.LaidTab
import Derived.Stop.Joined
import Derived.ProofKit
import Derived.LaidLaws

/-
  The contracts of the law's helpers that mark the Items of a list, one number behind the other, and that look whether the marks are still there.
-/
namespace Go.Proofs.YtfokdblojlmnlamGreatDoor
open Go.ChangeShapes Go.WideShapes Go.ChangeAt Go.RowKit
attribute [local go_sem ↓] Go.wp_at_zero Go.wp_at_succ

/-- The i-th mark from k on. -/
def mark1Itm (k i : Nat) : TI := (((k + 5 * i : Nat) : Int), (((k + 5 * i + 1 : Nat) : Int), ((k + 5 * i + 2 : Nat) : Int), mt (k + 5 * i + 3)), mt (k + 5 * i + 4))
def marksItm (k n : Nat) : List TI := (List.range n).map (mark1Itm k)
theorem marksItm_length (k n : Nat) : (marksItm k n).length = n := by simp [marksItm]
theorem marksItm_at (k n i : Nat) (h : i < (marksItm k n).length) : (marksItm k n)[i] = mark1Itm k i := by simp [marksItm]
theorem marksItm_step (k : Nat) (l : List TI) (i : Nat) (h : i < l.length) : (marksItm k i ++ l.drop i).set i (mark1Itm k i) = marksItm k (i + 1) ++ l.drop (i + 1) := by
  rw [List.set_append_right _ _ (by rw [marksItm_length]; omega), marksItm_length, Nat.sub_self]
  have e : l.drop i = l[i] :: l.drop (i + 1) := List.drop_eq_getElem_cons h
  rw [e, List.set_cons_zero]
  simp [marksItm, List.range_succ]
/-- The cells of a slice may be written. -/
def FreeItm (w : World) (a : Option Addr) (n : Nat) : Prop := ∀ b o, a = some ⟨b, o, none⟩ → ∀ j, j < n * 5 → w.frozen? ⟨b, o + j, none⟩ = false
theorem ItmAt.upd {w w' : World} {b o : Nat} {l : List TI} {i : Nat} {x : TI} (h : ItmAt w (some ⟨b, o, none⟩) l) (hs : w.heap.size ≤ w'.heap.size)
    (hfar : ∀ q, q ≠ o + i * 5 → q ≠ o + i * 5 + 1 → q ≠ o + i * 5 + 2 → q ≠ o + i * 5 + 3 → q ≠ o + i * 5 + 4 → w'.cell? ⟨b, q, none⟩ = w.cell? ⟨b, q, none⟩)
    (h0 : w'.cell? ⟨b, o + i * 5, none⟩ = some (.int .i64 x.1)) (h1 : w'.cell? ⟨b, o + i * 5 + 1, none⟩ = some (.int .i64 x.2.1.1)) (h2 : w'.cell? ⟨b, o + i * 5 + 2, none⟩ = some (.int .i64 x.2.1.2.1)) (h3 : w'.cell? ⟨b, o + i * 5 + 3, none⟩ = some (.string x.2.1.2.2)) (h4 : w'.cell? ⟨b, o + i * 5 + 4, none⟩ = some (.string x.2.2)) :
    ItmAt w' (some ⟨b, o, none⟩) (l.set i x) := by
  intro j hj
  have hj' : j < l.length := by simpa using hj
  obtain ⟨b', o', e, hlt, c0, c1, c2, c3, c4⟩ := h j hj'
  cases e
  refine ⟨b, o, rfl, Nat.lt_of_lt_of_le hlt hs, ?_⟩
  by_cases hij : i = j
  · subst hij
    rw [List.getElem_set_self]
    exact ⟨h0, h1, h2, h3, h4⟩
  · rw [List.getElem_set_ne hij]
    refine ⟨?_, ?_, ?_, ?_, ?_⟩
    · rw [hfar _ (by omega) (by omega) (by omega) (by omega) (by omega)]; exact c0
    · rw [hfar _ (by omega) (by omega) (by omega) (by omega) (by omega)]; exact c1
    · rw [hfar _ (by omega) (by omega) (by omega) (by omega) (by omega)]; exact c2
    · rw [hfar _ (by omega) (by omega) (by omega) (by omega) (by omega)]; exact c3
    · rw [hfar _ (by omega) (by omega) (by omega) (by omega) (by omega)]; exact c4
theorem FreeItm.upd {w w' : World} {a : Option Addr} {n : Nat} (h : FreeItm w a n) (hf : ∀ b o q, a = some ⟨b, o, none⟩ → w'.frozen? ⟨b, q, none⟩ = w.frozen? ⟨b, q, none⟩) : FreeItm w' a n :=
  fun b o e j hj => by rw [hf b o _ e]; exact h b o e j hj
theorem ItmAt.keepS {P : Nat → Prop} {w w' : World} {a : Option Addr} {l : List TI} (h : ItmAt w a l) (hk : KeepS P w w') (hP : ∀ b, inBlk a l.length b → ¬ P b) : ItmAt w' a l := by
  intro j hj
  obtain ⟨b, o, ha, hlt, c0, c1, c2, c3, c4⟩ := h j hj
  have hn := hP b ⟨by omega, o, ha⟩
  refine ⟨b, o, ha, Nat.lt_of_lt_of_le hlt hk.size, ?_, ?_, ?_, ?_, ?_⟩
  · rw [hk.cell hlt hn]; exact c0
  · rw [hk.cell hlt hn]; exact c1
  · rw [hk.cell hlt hn]; exact c2
  · rw [hk.cell hlt hn]; exact c3
  · rw [hk.cell hlt hn]; exact c4

set_option maxRecDepth 100000 in
set_option maxHeartbeats 4000000 in
theorem markItm_laws (a : Option Addr) (cap : Nat) (l : List TI) (k : Nat) (w : World) (hrow : ItmAt w a l) (hfree : FreeItm w a l.length) (h0 : 0 < k) (h1 : k + 5 * l.length ≤ 1099511627776) :
    Calls Tryz.prog 12 #[.slice a l.length cap, .int .i64 k] w fun e w' => e = .returned (.int .i64 ((k + 5 * l.length : Nat) : Int)) ∧ ItmAt w' a (marksItm k l.length) ∧ FreeItm w' a l.length ∧ KeepS (inBlk a l.length) w w' := by
  have hR : Hid (ItmAt w a l) := hrow
  have hF : Hid (FreeItm w a l.length) := hfree
  clear hrow hfree
  go_enter Tryz.func12, Tryz.ntmps12
  go_wp2
  go_loopw [1, 5] (fun s i wr => ∃ m : Nat, m ≤ l.length ∧ i = .int .i64 m ∧ s = .int .i64 ((k + 5 * m : Nat) : Int) ∧ Hid (ItmAt wr a (marksItm k m ++ l.drop m)) ∧ Hid (FreeItm wr a l.length) ∧ KeepS (inBlk a l.length) w wr)
    (fun _ i _ => l.length - (intOf i).toNat)
  case atStart => exact ⟨0, Nat.zero_le _, rfl, by simp, by simpa [marksItm] using hR, hF, KeepS.refl _ _⟩
  case round =>
    obtain ⟨m, hm, rfl, rfl, hr, hf, hkp⟩ := hrel
    by_cases hlt : m < l.length
    · have hl2 : m < (marksItm k m ++ l.drop m).length := by rw [List.length_append, marksItm_length, List.length_drop]; omega
      obtain ⟨b, o, rfl, hbw, c0, c1, c2, c3, c4⟩ := hr.out m hl2
      generalize (marksItm k m ++ l.drop m)[m] = x at c0 c1 c2 c3 c4
      have hi0 : (0 : Int) ≤ (m : Int) := by omega
      have hi1 : (m : Int) < (l.length : Int) := by omega
      have f0 := hf.out b o rfl (m * 5) (by omega)
      have f1 := hf.out b o rfl (m * 5 + 1) (by omega)
      have f2 := hf.out b o rfl (m * 5 + 2) (by omega)
      have f3 := hf.out b o rfl (m * 5 + 3) (by omega)
      have f4 := hf.out b o rfl (m * 5 + 4) (by omega)
      rw [← Nat.add_assoc] at f1 f2 f3 f4
      go_wp2_with fail
      refine (text_lawsN (k + 5 * m + 3) _ (by omega) _ (by omega) (by omega)).mono ?_
      rintro e w2 ⟨rfl, hb2⟩
      have hl2 : b < w2.heap.size := by have := hb2.size; simp at this; omega
      have g2_3 : w2.cell? ⟨b, o + m * 5 + 3, none⟩ = some (.string x.2.1.2.2) := by
        rw [hb2.cell (p := ⟨b, o + m * 5 + 3, none⟩) (by simpa using hbw), cell_off _ _ _ _ _ (by omega), cell_off _ _ _ _ _ (by omega), cell_off _ _ _ _ _ (by omega)]; exact c3
      have e2_3 : w2.frozen? ⟨b, o + m * 5 + 3, none⟩ = false := by
        rw [hb2.frozen (p := ⟨b, o + m * 5 + 3, none⟩) (by simpa using hbw)]; simpa using f3
      have g2_4 : w2.cell? ⟨b, o + m * 5 + 4, none⟩ = some (.string x.2.2) := by
        rw [hb2.cell (p := ⟨b, o + m * 5 + 4, none⟩) (by simpa using hbw), cell_off _ _ _ _ _ (by omega), cell_off _ _ _ _ _ (by omega), cell_off _ _ _ _ _ (by omega)]; exact c4
      have e2_4 : w2.frozen? ⟨b, o + m * 5 + 4, none⟩ = false := by
        rw [hb2.frozen (p := ⟨b, o + m * 5 + 4, none⟩) (by simpa using hbw)]; simpa using f4
      go_wp2_with fail
      refine (text_lawsN (k + 5 * m + 4) _ (by omega) _ (by omega) (by omega)).mono ?_
      rintro e w3 ⟨rfl, hb3⟩
      have hl3 : b < w3.heap.size := by have := hb3.size; simp at this; omega
      have g3_4 : w3.cell? ⟨b, o + m * 5 + 4, none⟩ = some (.string x.2.2) := by
        rw [hb3.cell (p := ⟨b, o + m * 5 + 4, none⟩) (by simpa using hl2), cell_off _ _ _ _ _ (by omega)]; exact g2_4
      have e3_4 : w3.frozen? ⟨b, o + m * 5 + 4, none⟩ = false := by
        rw [hb3.frozen (p := ⟨b, o + m * 5 + 4, none⟩) (by simpa using hl2)]; simpa using e2_4
      go_wp2
      go_roundw
      case rel =>
        have hsz : wr.heap.size ≤ w3.heap.size := by have := hb2.size; have := hb3.size; simp at *; omega
        refine ⟨m + 1, by omega, by go_num, by go_num, ?_, ?_, ?_⟩
        · show ItmAt _ _ _
          rw [← marksItm_step k l m hlt]
          refine hr.out.upd (by simpa using hsz) ?_ ?_ ?_ ?_ ?_ ?_
          · intro q q0 q1 q2 q3 q4
            rw [cell_off _ _ _ _ _ q4, hb3.cell (p := ⟨b, q, none⟩) (by simpa using hl2), cell_off _ _ _ _ _ q3, hb2.cell (p := ⟨b, q, none⟩) (by simpa using hbw), cell_off _ _ _ _ _ q2, cell_off _ _ _ _ _ q1, cell_off _ _ _ _ _ q0]
          · rw [cell_off _ _ _ _ _ (by omega), hb3.cell (p := ⟨b, _, none⟩) (by simpa using hl2), cell_off _ _ _ _ _ (by omega), hb2.cell (p := ⟨b, _, none⟩) (by simpa using hbw), cell_off _ _ _ _ _ (by omega), cell_off _ _ _ _ _ (by omega), cell_here _ _ _ _ (by rw [c0]; rfl)]
            first | (simp [mark1Itm]; done) | (simp [mark1Itm]; omega)
          · rw [cell_off _ _ _ _ _ (by omega), hb3.cell (p := ⟨b, _, none⟩) (by simpa using hl2), cell_off _ _ _ _ _ (by omega), hb2.cell (p := ⟨b, _, none⟩) (by simpa using hbw), cell_off _ _ _ _ _ (by omega), cell_here _ _ _ _ (by rw [cell_off _ _ _ _ _ (by omega), c1]; rfl)]
            first | (simp [mark1Itm]; done) | (simp [mark1Itm]; omega)
          · rw [cell_off _ _ _ _ _ (by omega), hb3.cell (p := ⟨b, _, none⟩) (by simpa using hl2), cell_off _ _ _ _ _ (by omega), hb2.cell (p := ⟨b, _, none⟩) (by simpa using hbw), cell_here _ _ _ _ (by rw [cell_off _ _ _ _ _ (by omega), cell_off _ _ _ _ _ (by omega), c2]; rfl)]
            first | (simp [mark1Itm]; done) | (simp [mark1Itm]; omega)
          · rw [cell_off _ _ _ _ _ (by omega), hb3.cell (p := ⟨b, _, none⟩) (by simpa using hl2), cell_here _ _ _ _ (by rw [g2_3]; rfl)]
            first | (simp [mark1Itm]; done) | (simp [mark1Itm]; omega)
          · rw [cell_here _ _ _ _ (by rw [g3_4]; rfl)]
            first | (simp [mark1Itm]; done) | (simp [mark1Itm]; omega)
        · show FreeItm _ _ _
          refine hf.out.upd ?_
          intro b' o' q e
          cases e
          rw [World.frozen?_setCell, hb3.frozen (p := ⟨b, q, none⟩) (by simpa using hl2), World.frozen?_setCell, hb2.frozen (p := ⟨b, q, none⟩) (by simpa using hbw), World.frozen?_setCell, World.frozen?_setCell, World.frozen?_setCell]
        · exact (((((((hkp.setCell (p := ⟨b, o + m * 5, none⟩) ⟨by omega, o, rfl⟩ _).setCell (p := ⟨b, o + m * 5 + 1, none⟩) ⟨by omega, o, rfl⟩ _).setCell (p := ⟨b, o + m * 5 + 2, none⟩) ⟨by omega, o, rfl⟩ _).trans (KeepS.ofBelow hb2)).setCell (p := ⟨b, o + m * 5 + 3, none⟩) ⟨by omega, o, rfl⟩ _).trans (KeepS.ofBelow hb3)).setCell (p := ⟨b, o + m * 5 + 4, none⟩) ⟨by omega, o, rfl⟩ _)
      case measure => simp [intOf]; omega
    · have hkl : m = l.length := by omega
      subst hkl
      rw [List.drop_length, List.append_nil] at hr
      go_wp2
      go_ret
      exact ⟨rfl, hr.out, hf.out, hkp⟩

set_option maxRecDepth 100000 in
set_option maxHeartbeats 4000000 in
theorem heldItm_laws (a : Option Addr) (cap n : Nat) (k : Nat) (w : World) (hrow : ItmAt w a (marksItm k n)) (h0 : 0 < k) (h1 : k + 5 * n ≤ 1099511627776) :
    Calls Tryz.prog 13 #[.slice a n cap, .int .i64 k] w fun e w' => e = .returned (.int .i64 ((k + 5 * n : Nat) : Int)) ∧ Below w.heap.size w w' := by
  have hR : Hid (ItmAt w a (marksItm k n)) := hrow
  clear hrow
  go_enter Tryz.func13, Tryz.ntmps13
  go_wp2
  go_loopw [1, 5] (fun s i wr => ∃ m : Nat, m ≤ n ∧ i = .int .i64 m ∧ s = .int .i64 ((k + 5 * m : Nat) : Int) ∧ Below w.heap.size w wr)
    (fun _ i _ => n - (intOf i).toNat)
  case atStart => exact ⟨0, Nat.zero_le _, rfl, by simp, Below.refl _ _⟩
  case round =>
    obtain ⟨m, hm, rfl, rfl, hx⟩ := hrel
    by_cases hlt : m < n
    · have hl2 : m < (marksItm k n).length := by rw [marksItm_length]; exact hlt
      obtain ⟨b, o, rfl, hbw, c0, c1, c2, c3, c4⟩ := hR.out.below hx m hl2
      rw [marksItm_at] at c0 c1 c2 c3 c4
      have d0 : wr.cell? ⟨b, o + m * 5, none⟩ = some (.int .i64 ((k : Int) + 5 * (m : Int))) := by rw [c0]; first | (simp [mark1Itm]; done) | (simp [mark1Itm]; omega)
      have d1 : wr.cell? ⟨b, o + m * 5 + 1, none⟩ = some (.int .i64 ((k : Int) + 5 * (m : Int) + 1)) := by rw [c1]; first | (simp [mark1Itm]; done) | (simp [mark1Itm]; omega)
      have d2 : wr.cell? ⟨b, o + m * 5 + 2, none⟩ = some (.int .i64 ((k : Int) + 5 * (m : Int) + 1 + 1)) := by rw [c2]; first | (simp [mark1Itm]; done) | (simp [mark1Itm]; omega)
      obtain ⟨T3, hT3⟩ : ∃ T, mt (k + 5 * m + 3) = T := ⟨_, rfl⟩
      have d3 : wr.cell? ⟨b, o + m * 5 + 3, none⟩ = some (.string T3) := by rw [c3, ← hT3]; simp [mark1Itm]
      obtain ⟨T4, hT4⟩ : ∃ T, mt (k + 5 * m + 4) = T := ⟨_, rfl⟩
      have d4 : wr.cell? ⟨b, o + m * 5 + 4, none⟩ = some (.string T4) := by rw [c4, ← hT4]; simp [mark1Itm]
      clear c0 c1 c2 c3 c4
      have hi0 : (0 : Int) ≤ (m : Int) := by omega
      have hi1 : (m : Int) < (n : Int) := by omega
      go_wp2_with fail
      refine wp_region_held_drew (S := (fun w' => w'.cell? ⟨b, o + m * 5 + 3, none⟩ = some (.string T3))) (by kernel_rfl) ?_ (fun hHeld => ?_)
      · exact d3
      refine wpAnyH_take (i := 0) (by simp only [List.getElem?_toArray, List.getElem?_cons_zero]; rfl) (by kernel_rfl) (by kernel_rfl) (by kernel_rfl) (by intro _ _ _ h; exact h) (Or.inl ⟨by rfl, fun w hSw => by (dsimp only at hSw; go_simp; (try with_reducible rfl))⟩) (by assumption) ?_
      simp only [Act.put, List.setIfInBounds_toArray, List.set_cons_zero, List.set_cons_succ]
      refine wpAnyH_take (i := 1) (by simp only [List.getElem?_toArray, List.getElem?_cons_zero, List.getElem?_cons_succ]; rfl) (by kernel_rfl) (by kernel_rfl) (by kernel_rfl) (by intro _ _ _ h; exact h) (Or.inl ⟨by rfl, fun w hSw => by (dsimp only at hSw; go_simp; (try with_reducible rfl))⟩) (by assumption) ?_
      simp only [Act.put, List.setIfInBounds_toArray, List.set_cons_zero, List.set_cons_succ]
      refine wpAnyH_take (i := 2) (by simp only [List.getElem?_toArray, List.getElem?_cons_zero, List.getElem?_cons_succ]; rfl) (by kernel_rfl) (by kernel_rfl) (by kernel_rfl) (by intro _ _ _ h; exact h) (Or.inl ⟨by rfl, fun w hSw => by (dsimp only at hSw; go_simp; (try with_reducible rfl))⟩) (by assumption) ?_
      simp only [Act.put, List.setIfInBounds_toArray, List.set_cons_zero, List.set_cons_succ]
      refine wpAnyH_take (i := 3) (by simp only [List.getElem?_toArray, List.getElem?_cons_zero, List.getElem?_cons_succ]; rfl) (by kernel_rfl) (by kernel_rfl) (by kernel_rfl) (by intro _ _ _ h; exact h) (Or.inl ⟨by rfl, fun w hSw => by (dsimp only at hSw; go_simp; (try with_reducible rfl))⟩) (by assumption) ?_
      simp only [Act.put, List.setIfInBounds_toArray, List.set_cons_zero, List.set_cons_succ]
      refine wpAnyH_take (i := 4) (by simp only [List.getElem?_toArray, List.getElem?_cons_zero, List.getElem?_cons_succ]; rfl) (by kernel_rfl) (by kernel_rfl) (by kernel_rfl) (by intro _ _ _ h; exact h) (Or.inl ⟨by rfl, fun w hSw => by (dsimp only at hSw; go_simp; (try with_reducible rfl))⟩) (by assumption) ?_
      simp only [Act.put, List.setIfInBounds_toArray, List.set_cons_zero, List.set_cons_succ]
      refine wpAnyH_take (i := 5) (by simp only [List.getElem?_toArray, List.getElem?_cons_zero, List.getElem?_cons_succ]; rfl) (by kernel_rfl) (by kernel_rfl) (by kernel_rfl) (by intro _ _ _ h; exact h) (Or.inl ⟨by rfl, fun w hSw => by (dsimp only at hSw; go_simp; (try with_reducible rfl))⟩) (by assumption) ?_
      simp only [Act.put, List.setIfInBounds_toArray, List.set_cons_zero, List.set_cons_succ]
      refine wpAnyH_take (i := 6) (by simp only [List.getElem?_toArray, List.getElem?_cons_zero, List.getElem?_cons_succ]; rfl) (by kernel_rfl) (by kernel_rfl) (by kernel_rfl) (by intro _ _ _ h; exact h) (Or.inl ⟨by rfl, fun w hSw => by (dsimp only at hSw; go_simp; (try with_reducible rfl))⟩) (by assumption) ?_
      simp only [Act.put, List.setIfInBounds_toArray, List.set_cons_zero, List.set_cons_succ]
      refine wpAnyH_ready (rs := [7]) (by kernel_rfl) (by simp) ?_
      refine AllReadyH.cons (by simp only [List.getElem?_toArray, List.getElem?_cons_zero, List.getElem?_cons_succ]; rfl) ?_ AllReadyH.nil
      intro K hK
      go_simp
      refine (text_lawsN (k + 5 * m + 3) _ (by omega) _ (by omega) (by omega)).mono ?_
      rw [hT3]
      rintro e v1 ⟨rfl, hb1'⟩
      have hb1 : Below wr.heap.size wr v1 := undrew hb1'
      rw [← hb1.cell (p := ⟨b, _, none⟩) hbw] at d3 d4
      replace hbw := Nat.lt_of_lt_of_le hbw hb1.size
      have hx1 := chain hx hb1
      clear hb1 hb1'
      go_wp2_with fail
      refine hK.out _ _ d3 (fun hHeld => ?_)
      clear hK K
      try simp only [Act.put, List.setIfInBounds_toArray, List.set_cons_zero, List.set_cons_succ]
      refine wpAnyH_take (i := 8) (by simp only [List.getElem?_toArray, List.getElem?_cons_zero, List.getElem?_cons_succ]; rfl) (by kernel_rfl) (by kernel_rfl) (by kernel_rfl) (by intro _ _ _ h; exact h) (Or.inl ⟨by rfl, fun w hSw => by (dsimp only at hSw; go_simp; (try with_reducible rfl))⟩) (by assumption) ?_
      simp only [Act.put, List.setIfInBounds_toArray, List.set_cons_zero, List.set_cons_succ]
      refine wpAnyH_done (by kernel_rfl) ?_ _
      go_wp2_with fail
      refine wp_region_held_drew (S := (fun w' => w'.cell? ⟨b, o + m * 5 + 4, none⟩ = some (.string T4))) (by kernel_rfl) ?_ (fun hHeld => ?_)
      · exact d4
      refine wpAnyH_take (i := 0) (by simp only [List.getElem?_toArray, List.getElem?_cons_zero]; rfl) (by kernel_rfl) (by kernel_rfl) (by kernel_rfl) (by intro _ _ _ h; exact h) (Or.inl ⟨by rfl, fun w hSw => by (dsimp only at hSw; go_simp; (try with_reducible rfl))⟩) (by assumption) ?_
      simp only [Act.put, List.setIfInBounds_toArray, List.set_cons_zero, List.set_cons_succ]
      refine wpAnyH_take (i := 1) (by simp only [List.getElem?_toArray, List.getElem?_cons_zero, List.getElem?_cons_succ]; rfl) (by kernel_rfl) (by kernel_rfl) (by kernel_rfl) (by intro _ _ _ h; exact h) (Or.inl ⟨by rfl, fun w hSw => by (dsimp only at hSw; go_simp; (try with_reducible rfl))⟩) (by assumption) ?_
      simp only [Act.put, List.setIfInBounds_toArray, List.set_cons_zero, List.set_cons_succ]
      refine wpAnyH_take (i := 2) (by simp only [List.getElem?_toArray, List.getElem?_cons_zero, List.getElem?_cons_succ]; rfl) (by kernel_rfl) (by kernel_rfl) (by kernel_rfl) (by intro _ _ _ h; exact h) (Or.inl ⟨by rfl, fun w hSw => by (dsimp only at hSw; go_simp; (try with_reducible rfl))⟩) (by assumption) ?_
      simp only [Act.put, List.setIfInBounds_toArray, List.set_cons_zero, List.set_cons_succ]
      refine wpAnyH_take (i := 3) (by simp only [List.getElem?_toArray, List.getElem?_cons_zero, List.getElem?_cons_succ]; rfl) (by kernel_rfl) (by kernel_rfl) (by kernel_rfl) (by intro _ _ _ h; exact h) (Or.inl ⟨by rfl, fun w hSw => by (dsimp only at hSw; go_simp; (try with_reducible rfl))⟩) (by assumption) ?_
      simp only [Act.put, List.setIfInBounds_toArray, List.set_cons_zero, List.set_cons_succ]
      refine wpAnyH_take (i := 4) (by simp only [List.getElem?_toArray, List.getElem?_cons_zero, List.getElem?_cons_succ]; rfl) (by kernel_rfl) (by kernel_rfl) (by kernel_rfl) (by intro _ _ _ h; exact h) (Or.inl ⟨by rfl, fun w hSw => by (dsimp only at hSw; go_simp; (try with_reducible rfl))⟩) (by assumption) ?_
      simp only [Act.put, List.setIfInBounds_toArray, List.set_cons_zero, List.set_cons_succ]
      refine wpAnyH_take (i := 5) (by simp only [List.getElem?_toArray, List.getElem?_cons_zero, List.getElem?_cons_succ]; rfl) (by kernel_rfl) (by kernel_rfl) (by kernel_rfl) (by intro _ _ _ h; exact h) (Or.inl ⟨by rfl, fun w hSw => by (dsimp only at hSw; go_simp; (try with_reducible rfl))⟩) (by assumption) ?_
      simp only [Act.put, List.setIfInBounds_toArray, List.set_cons_zero, List.set_cons_succ]
      refine wpAnyH_ready (rs := [6]) (by kernel_rfl) (by simp) ?_
      refine AllReadyH.cons (by simp only [List.getElem?_toArray, List.getElem?_cons_zero, List.getElem?_cons_succ]; rfl) ?_ AllReadyH.nil
      intro K hK
      go_simp
      refine (text_lawsN (k + 5 * m + 4) _ (by omega) _ (by omega) (by omega)).mono ?_
      rw [hT4]
      rintro e v2 ⟨rfl, hb2'⟩
      have hb2 : Below v1.heap.size v1 v2 := undrew hb2'
      rw [← hb2.cell (p := ⟨b, _, none⟩) hbw] at d4
      replace hbw := Nat.lt_of_lt_of_le hbw hb2.size
      have hx2 := chain hx1 hb2
      clear hb2 hb2'
      go_wp2_with fail
      refine hK.out _ _ d4 (fun hHeld => ?_)
      clear hK K
      try simp only [Act.put, List.setIfInBounds_toArray, List.set_cons_zero, List.set_cons_succ]
      refine wpAnyH_take (i := 7) (by simp only [List.getElem?_toArray, List.getElem?_cons_zero, List.getElem?_cons_succ]; rfl) (by kernel_rfl) (by kernel_rfl) (by kernel_rfl) (by intro _ _ _ h; exact h) (Or.inl ⟨by rfl, fun w hSw => by (dsimp only at hSw; go_simp; (try with_reducible rfl))⟩) (by assumption) ?_
      simp only [Act.put, List.setIfInBounds_toArray, List.set_cons_zero, List.set_cons_succ]
      refine wpAnyH_done (by kernel_rfl) ?_ _
      go_wp2
      go_roundw
      case rel => exact ⟨m + 1, by omega, by go_num, by go_num, hx2⟩
      case measure => simp [intOf]; omega
    · have hkl : m = n := by omega
      subst hkl
      go_wp2
      go_ret
      exact ⟨rfl, hx⟩

end Go.Proofs.YtfokdblojlmnlamGreatDoor

/-
  The contracts of the law's helpers that mark the texts of a list, one number behind the other, and that look whether the marks are still there.
-/
namespace Go.Proofs.YtfokdblojlmnlamGreatDoor
open Go.ChangeShapes Go.WideShapes Go.ChangeAt Go.RowKit
attribute [local go_sem ↓] Go.wp_at_zero Go.wp_at_succ

/-- The marks of a list of n texts. -/
def marksS (k n : Nat) : List ByteArray := (List.range n).map fun i => mt (k + i)
theorem marksS_length (k n : Nat) : (marksS k n).length = n := by simp [marksS]
theorem marksS_at (k n i : Nat) (h : i < (marksS k n).length) : (marksS k n)[i] = mt (k + i) := by simp [marksS]
theorem marksS_step (k : Nat) (l : List ByteArray) (i : Nat) (h : i < l.length) : (marksS k i ++ l.drop i).set i (mt (k + i)) = marksS k (i + 1) ++ l.drop (i + 1) := by
  rw [List.set_append_right _ _ (by rw [marksS_length]; omega), marksS_length, Nat.sub_self]
  have e : l.drop i = l[i] :: l.drop (i + 1) := List.drop_eq_getElem_cons h
  rw [e, List.set_cons_zero]
  simp [marksS, List.range_succ]
/-- The texts of a slice may be written. -/
def FreeS (w : World) (a : Option Addr) (n : Nat) : Prop := ∀ b o, a = some ⟨b, o, none⟩ → ∀ j, j < n → w.frozen? ⟨b, o + j, none⟩ = false
theorem StrsAt.upd {w w' : World} {b o : Nat} {l : List ByteArray} {i : Nat} {x : ByteArray} (h : StrsAt w (some ⟨b, o, none⟩) l) (hs : w.heap.size ≤ w'.heap.size)
    (hfar : ∀ q, q ≠ o + i → w'.cell? ⟨b, q, none⟩ = w.cell? ⟨b, q, none⟩) (h0 : w'.cell? ⟨b, o + i, none⟩ = some (.string x)) : StrsAt w' (some ⟨b, o, none⟩) (l.set i x) := by
  intro j hj
  have hj' : j < l.length := by simpa using hj
  obtain ⟨b', o', e, hlt, c0⟩ := h j hj'
  cases e
  refine ⟨b, o, rfl, Nat.lt_of_lt_of_le hlt hs, ?_⟩
  by_cases hij : i = j
  · subst hij
    rw [List.getElem_set_self]; exact h0
  · rw [List.getElem_set_ne hij, hfar _ (by omega)]; exact c0
theorem FreeS.upd {w w' : World} {a : Option Addr} {n : Nat} (h : FreeS w a n) (hf : ∀ b o q, a = some ⟨b, o, none⟩ → w'.frozen? ⟨b, q, none⟩ = w.frozen? ⟨b, q, none⟩) : FreeS w' a n :=
  fun b o e j hj => by rw [hf b o _ e]; exact h b o e j hj

set_option maxHeartbeats 2000000 in
theorem markstr_laws (a : Option Addr) (cap : Nat) (l : List ByteArray) (k : Nat) (w : World) (hrow : StrsAt w a l) (hfree : FreeS w a l.length) (h0 : 0 < k) (h1 : k + l.length ≤ 1099511627776) :
    Calls Tryz.prog 19 #[.slice a l.length cap, .int .i64 k] w fun e w' => e = .returned (.int .i64 ((k + l.length : Nat) : Int)) ∧ StrsAt w' a (marksS k l.length) ∧ FreeS w' a l.length ∧ KeepS (inBlk a l.length) w w' := by
  have hR : Hid (StrsAt w a l) := hrow
  have hF : Hid (FreeS w a l.length) := hfree
  clear hrow hfree
  go_enter Tryz.func19, Tryz.ntmps19
  go_wp2
  go_loopw [1, 5] (fun s i wr => ∃ m : Nat, m ≤ l.length ∧ i = .int .i64 m ∧ s = .int .i64 ((k + m : Nat) : Int) ∧ Hid (StrsAt wr a (marksS k m ++ l.drop m)) ∧ Hid (FreeS wr a l.length) ∧ KeepS (inBlk a l.length) w wr)
    (fun _ i _ => l.length - (intOf i).toNat)
  case atStart => exact ⟨0, Nat.zero_le _, rfl, by simp, by simpa [marksS] using hR, hF, KeepS.refl _ _⟩
  case round =>
    obtain ⟨m, hm, rfl, rfl, hr, hf, hkp⟩ := hrel
    by_cases hlt : m < l.length
    · have hl2 : m < (marksS k m ++ l.drop m).length := by rw [List.length_append, marksS_length, List.length_drop]; omega
      obtain ⟨b, o, rfl, hbw, c0⟩ := hr.out m hl2
      generalize (marksS k m ++ l.drop m)[m] = x at c0
      have hi0 : (0 : Int) ≤ (m : Int) := by omega
      have hi1 : (m : Int) < (l.length : Int) := by omega
      have f0 := hf.out b o rfl m hlt
      go_wp2_with fail
      refine (text_lawsN (k + m) _ (by omega) _ (by omega) (by omega)).mono ?_
      rintro e w2 ⟨rfl, hb2⟩
      have g0 : w2.cell? ⟨b, o + m, none⟩ = some (.string x) := by rw [hb2.cell (p := ⟨b, o + m, none⟩) hbw]; exact c0
      have e0 : w2.frozen? ⟨b, o + m, none⟩ = false := by rw [hb2.frozen (p := ⟨b, o + m, none⟩) hbw]; exact f0
      go_wp2
      go_roundw
      case rel =>
        refine ⟨m + 1, by omega, by go_num, by go_num, ?_, ?_, ?_⟩
        · show StrsAt _ _ _
          rw [← marksS_step k l m hlt]
          refine hr.out.upd (by simpa using hb2.size) ?_ ?_
          · intro q q0
            rw [cell_off _ _ _ _ _ q0, hb2.cell (p := ⟨b, q, none⟩) hbw]
          · rw [cell_here _ _ _ _ (by rw [g0]; rfl)]
        · show FreeS _ _ _
          refine hf.out.upd ?_
          intro b' o' q e
          cases e
          rw [World.frozen?_setCell, hb2.frozen (p := ⟨b, q, none⟩) hbw]
        · exact (hkp.trans (KeepS.ofBelow hb2)).setCell (p := ⟨b, o + m, none⟩) ⟨by omega, o, rfl⟩ _
      case measure => simp [intOf]; omega
    · have hkl : m = l.length := by omega
      subst hkl
      rw [List.drop_length, List.append_nil] at hr
      go_wp2
      go_ret
      exact ⟨rfl, hr.out, hf.out, hkp⟩

set_option maxHeartbeats 2000000 in
theorem heldstr_laws (a : Option Addr) (cap n : Nat) (k : Nat) (w : World) (hrow : StrsAt w a (marksS k n)) (h0 : 0 < k) (h1 : k + n ≤ 1099511627776) :
    Calls Tryz.prog 20 #[.slice a n cap, .int .i64 k] w fun e w' => e = .returned (.int .i64 ((k + n : Nat) : Int)) ∧ Below w.heap.size w w' := by
  have hR : Hid (StrsAt w a (marksS k n)) := hrow
  clear hrow
  go_enter Tryz.func20, Tryz.ntmps20
  go_wp2
  go_loopw [1, 5] (fun s i wr => ∃ m : Nat, m ≤ n ∧ i = .int .i64 m ∧ s = .int .i64 ((k + m : Nat) : Int) ∧ Below w.heap.size w wr)
    (fun _ i _ => n - (intOf i).toNat)
  case atStart => exact ⟨0, Nat.zero_le _, rfl, by simp, Below.refl _ _⟩
  case round =>
    obtain ⟨m, hm, rfl, rfl, hx⟩ := hrel
    by_cases hlt : m < n
    · have hl2 : m < (marksS k n).length := by rw [marksS_length]; exact hlt
      obtain ⟨b, o, rfl, hbw, c0⟩ := hR.out.below hx m hl2
      rw [marksS_at] at c0
      generalize hT : mt (k + m) = T at c0
      have hTT : (T.toList == T.toList) = true := by simp
      have hi0 : (0 : Int) ≤ (m : Int) := by omega
      have hi1 : (m : Int) < (n : Int) := by omega
      go_wp2_with fail
      go_region_held3 (fun w' => w'.cell? ⟨b, o + m, none⟩ = some (.string T))
        (((try dsimp only); first | (go_keep; done) | (simp (disch := first | omega | (simp <;> omega) | fail) [*]; done) | fail))
        ((go_at_call 32; refine (text_lawsN (k + m) _ (by omega) _ (by omega) (by omega)).mono ?_; rw [hT]; rintro e w1 ⟨rfl, hb1⟩; obtain ⟨hc, hf⟩ := bcell hb1))
      all_goals
        go_wp2
        go_roundw
        case rel => exact ⟨m + 1, by omega, by go_num, by go_num, chain hx (undrew hb1)⟩
        case measure => simp [intOf]; omega
    · have hkl : m = n := by omega
      subst hkl
      go_wp2
      go_ret
      exact ⟨rfl, hx⟩

end Go.Proofs.YtfokdblojlmnlamGreatDoor

/-
  The contracts of the law's helpers that mark the cells of a list of lists, and that look whether the marks are still there.
-/
namespace Go.Proofs.YtfokdblojlmnlamGreatDoor
open Go.ChangeShapes Go.WideShapes Go.ChangeAt Go.RowKit
attribute [local go_sem ↓] Go.wp_at_zero Go.wp_at_succ

/-- How many cells lie ahead of the i-th list. -/
def offs (L : List (List CT)) (i : Nat) : Nat := ((L.take i).map List.length).sum
theorem offs_step (L : List (List CT)) (i : Nat) (h : i < L.length) : offs L (i + 1) = offs L i + L[i].length := by
  unfold offs
  rw [List.take_succ_eq_append_getElem h, List.map_append, List.sum_append]; simp
theorem offs_le (L : List (List CT)) (i : Nat) : offs L i ≤ offs L L.length := by
  unfold offs
  rw [List.take_length]
  conv => rhs; rw [← List.take_append_drop i L, List.map_append, List.sum_append]
  omega

/-- The heads of the lists lie where the slice says. -/
def HeadsAt (w : World) (a : Option Addr) (L : List (List CT)) (A : Nat → Option Addr) (C : Nat → Nat) : Prop :=
  ∀ i (h : i < L.length), ∃ b o, a = some ⟨b, o, none⟩ ∧ b < w.heap.size ∧ w.cell? ⟨b, o + i, none⟩ = some (.slice (A i) L[i].length (C i))
/-- No two lists that have cells share a block, and none shares one with the heads. -/
structure Apart (a : Option Addr) (L : List (List CT)) (A : Nat → Option Addr) : Prop where
  heads : ∀ i (h : i < L.length) b o, a = some ⟨b, o, none⟩ → ¬ inBlk (A i) L[i].length b
  rows : ∀ i j (hi : i < L.length) (hj : j < L.length) b, i ≠ j → inBlk (A i) L[i].length b → ¬ inBlk (A j) L[j].length b

theorem RowAt.keepS {P : Nat → Prop} {w w' : World} {a : Option Addr} {l : List CT} (h : RowAt w a l) (hk : KeepS P w w') (hP : ∀ b, inBlk a l.length b → ¬ P b) : RowAt w' a l := by
  intro j hj
  obtain ⟨b, o, ha, hlt, h0, h1, h2⟩ := h j hj
  have hn := hP b ⟨by omega, o, ha⟩
  exact ⟨b, o, ha, Nat.lt_of_lt_of_le hlt hk.size, by rw [hk.cell hlt hn]; exact h0, by rw [hk.cell hlt hn]; exact h1, by rw [hk.cell hlt hn]; exact h2⟩
theorem Free.keepS {P : Nat → Prop} {w w' : World} {a : Option Addr} {l : List CT} (hf : Free w a l.length) (h : RowAt w a l) (hk : KeepS P w w') (hP : ∀ b, inBlk a l.length b → ¬ P b) : Free w' a l.length := by
  intro b o ha j hj
  obtain ⟨b', o', ha', hlt, _⟩ := h 0 (by omega)
  rw [ha] at ha'
  cases ha'
  rw [hk.frozen hlt (hP b ⟨by omega, o, ha⟩)]
  exact hf b o ha j hj
theorem HeadsAt.keepS {P : Nat → Prop} {w w' : World} {a : Option Addr} {L : List (List CT)} {A : Nat → Option Addr} {C : Nat → Nat} (h : HeadsAt w a L A C) (hk : KeepS P w w') (hP : ∀ b o, a = some ⟨b, o, none⟩ → ¬ P b) : HeadsAt w' a L A C := by
  intro i hi
  obtain ⟨b, o, ha, hlt, h0⟩ := h i hi
  exact ⟨b, o, ha, Nat.lt_of_lt_of_le hlt hk.size, by rw [hk.cell hlt (hP b o ha)]; exact h0⟩

/-- The lists are marked up to the i-th; the others are as they were. -/
def Marked (w : World) (L : List (List CT)) (A : Nat → Option Addr) (k i : Nat) : Prop :=
  ∀ j (h : j < L.length), (j < i → RowAt w (A j) (marks (k + 3 * offs L j) L[j].length)) ∧ (i ≤ j → RowAt w (A j) L[j]) ∧ Free w (A j) L[j].length
/-- The blocks of all lists. -/
def rowBlks (L : List (List CT)) (A : Nat → Option Addr) (b : Nat) : Prop := ∃ i, ∃ h : i < L.length, inBlk (A i) L[i].length b

theorem Marked.step {w w' : World} {a : Option Addr} {L : List (List CT)} {A : Nat → Option Addr} {k i : Nat} (hi : i < L.length) (h : Marked w L A k i) (ap : Apart a L A) (hk : KeepS (inBlk (A i) L[i].length) w w')
    (hr : RowAt w' (A i) (marks (k + 3 * offs L i) L[i].length)) (hf : Free w' (A i) L[i].length) : Marked w' L A k (i + 1) := by
  intro j hj
  by_cases hij : j = i
  · subst hij
    exact ⟨fun _ => hr, fun hle => by omega, hf⟩
  · obtain ⟨h1, h2, h3⟩ := h j hj
    have hP : ∀ b, inBlk (A j) L[j].length b → ¬ inBlk (A i) L[i].length b := fun b hb => ap.rows j i hj hi b hij hb
    refine ⟨fun hlt => ?_, fun hle => (h2 (by omega)).keepS hk hP, ?_⟩
    · exact (h1 (by omega)).keepS hk (by rw [marks_length]; exact hP)
    · by_cases hlt : j < i
      · have hm := h1 hlt
        have := Free.keepS (l := marks (k + 3 * offs L j) L[j].length) (by rw [marks_length]; exact h3) hm hk (by rw [marks_length]; exact hP)
        rwa [marks_length] at this
      · exact h3.keepS (h2 (by omega)) hk hP

end Go.Proofs.YtfokdblojlmnlamGreatDoor

/-
  Rows that lie in memory of their own may be marked: their heads lie there, no two share a block, and all may be written.
-/
namespace Go.Proofs.YtfokdblojlmnlamGreatDoor
open Go.ChangeShapes Go.WideShapes Go.ChangeAt Go.RowKit

theorem own_lt {w : World} {base g n c sz : Nat} {e : TypeId} {xs : List Value} (h : w.ownsRow base e sz (.slice (some ⟨g, 0, none⟩) n c) n xs) : g < w.heap.size := by
  rcases h.2 with ⟨h', _⟩ | ⟨g', cap', cur, h', _, hg, _⟩
  · simp at h'
  · simp only [Value.slice.injEq, Option.some.injEq, Addr.mk.injEq, and_true, true_and] at h'
    obtain ⟨rfl, rfl⟩ := h'
    by_cases hl : g < w.heap.size
    · exact hl
    · rw [Array.getElem?_eq_none (by omega)] at hg; cases hg

theorem getD_at {L : List (List CT)} {i : Nat} (h : i < L.length) : L.getD i [] = L[i] := by simp [List.getD, List.getElem?_eq_getElem h]

end Go.Proofs.YtfokdblojlmnlamGreatDoor

/-
  The contract of the law's helper that takes a list of lists over: new memory, a block for each list.
-/
namespace Go.Proofs.YtfokdblojlmnlamGreatDoor
open Go.ChangeShapes Go.WideShapes Go.ChangeAt Go.RowKit
attribute [local go_sem ↓] Go.wp_at_zero Go.wp_at_succ

/-- The first m lists are taken over, each into a block of its own behind block g. -/
structure Taken (w : World) (g : Nat) (L : List (List CT)) (G : Nat → Nat) (m : Nat) : Prop where
  lt : g < w.heap.size
  there : ∀ i, i < L.length → ∃ u, w.cell? ⟨g, i, none⟩ = some u
  free : ∀ i, i < L.length → w.frozen? ⟨g, i, none⟩ = false
  bounds : ∀ i, i < m → g < G i ∧ G i < w.heap.size
  rises : ∀ i j, i < j → j < m → G i < G j
  rows : ∀ i (h : i < L.length), i < m → w.cell? ⟨g, i, none⟩ = some (.slice (some ⟨G i, 0, none⟩) L[i].length L[i].length) ∧ RowAt w (some ⟨G i, 0, none⟩) L[i] ∧ Free w (some ⟨G i, 0, none⟩) L[i].length

theorem Taken.below {w w' : World} {g : Nat} {L : List (List CT)} {G : Nat → Nat} {m : Nat} (h : Taken w g L G m) (hb : Below w.heap.size w w') : Taken w' g L G m where
  lt := Nat.lt_of_lt_of_le h.lt hb.size
  there i hi := by obtain ⟨u, hu⟩ := h.there i hi; exact ⟨u, by rw [hb.cell (p := ⟨g, i, none⟩) h.lt]; exact hu⟩
  free i hi := by rw [hb.frozen (p := ⟨g, i, none⟩) h.lt]; exact h.free i hi
  bounds i hi := ⟨(h.bounds i hi).1, Nat.lt_of_lt_of_le (h.bounds i hi).2 hb.size⟩
  rises := h.rises
  rows i hi hm := by
    obtain ⟨h1, h2, h3⟩ := h.rows i hi hm
    refine ⟨by rw [hb.cell (p := ⟨g, i, none⟩) h.lt]; exact h1, h2.below hb, ?_⟩
    intro b o e j hj
    cases e
    rw [hb.frozen (p := ⟨G i, _, none⟩) (h.bounds i hm).2]; exact h3 _ _ rfl j hj

/-- One list more is taken over: its head is written. -/
theorem Taken.step {w : World} {g : Nat} {L : List (List CT)} {G : Nat → Nat} {m B : Nat} (h : Taken w g L G m) (hm : m < L.length) (hB : B < w.heap.size) (hgB : g < B) (hup : ∀ i, i < m → G i < B)
    (hr : RowAt w (some ⟨B, 0, none⟩) L[m]) (hf : Free w (some ⟨B, 0, none⟩) L[m].length) :
    Taken (w.setCell ⟨g, m, none⟩ (.slice (some ⟨B, 0, none⟩) L[m].length L[m].length)) g L (fun i => if i = m then B else G i) (m + 1) where
  lt := by simpa using h.lt
  there i hi := by
    by_cases e : i = m
    · subst e
      obtain ⟨u, hu⟩ := h.there i hi
      exact ⟨_, cell_here _ _ _ _ (by rw [hu]; rfl)⟩
    · obtain ⟨u, hu⟩ := h.there i hi
      exact ⟨u, by rw [cell_off _ _ _ _ _ e]; exact hu⟩
  free i hi := by rw [World.frozen?_setCell]; exact h.free i hi
  bounds i hi := by
    by_cases e : i = m
    · simpa [e] using ⟨hgB, hB⟩
    · simpa [e] using h.bounds i (by omega)
  rises i j hij hj := by
    by_cases e : j = m
    · have ei : i ≠ m := by omega
      simpa [e, ei] using hup i (by omega)
    · have ei : i ≠ m := by omega
      simpa [e, ei] using h.rises i j hij (by omega)
  rows i hi hlt := by
    have far : ∀ b q, b ≠ g → (w.setCell ⟨g, m, none⟩ (.slice (some ⟨B, 0, none⟩) L[m].length L[m].length)).cell? ⟨b, q, none⟩ = w.cell? ⟨b, q, none⟩ := fun b q hb => cell_far _ _ _ _ _ _ hb
    have rowFar : ∀ b l, b ≠ g → RowAt w (some ⟨b, 0, none⟩) l → RowAt (w.setCell ⟨g, m, none⟩ (.slice (some ⟨B, 0, none⟩) L[m].length L[m].length)) (some ⟨b, 0, none⟩) l := by
      intro b l hb hr j hj
      obtain ⟨b', o', e, hlt, c0, c1, c2⟩ := hr j hj
      cases e
      exact ⟨b, 0, rfl, by simpa using hlt, by rw [far _ _ hb]; exact c0, by rw [far _ _ hb]; exact c1, by rw [far _ _ hb]; exact c2⟩
    have freeFar : ∀ b n, Free w (some ⟨b, 0, none⟩) n → Free (w.setCell ⟨g, m, none⟩ (.slice (some ⟨B, 0, none⟩) L[m].length L[m].length)) (some ⟨b, 0, none⟩) n := by
      intro b n hf b' o' e j hj
      rw [World.frozen?_setCell]; exact hf b' o' e j hj
    by_cases e : i = m
    · subst e
      obtain ⟨u, hu⟩ := h.there i hi
      simp only [if_true]
      exact ⟨cell_here _ _ _ _ (by rw [hu]; rfl), rowFar _ _ (by omega) hr, freeFar _ _ hf⟩
    · obtain ⟨h1, h2, h3⟩ := h.rows i hi (by omega)
      have hb := (h.bounds i (by omega)).1
      simp only [if_neg e]
      exact ⟨by rw [cell_off _ _ _ _ _ e]; exact h1, rowFar _ _ (by omega) h2, freeFar _ _ h3⟩

end Go.Proofs.YtfokdblojlmnlamGreatDoor

/-
  Rows that were taken over, or that lie in memory of their own: what the marks want of them.
-/
namespace Go.Proofs.YtfokdblojlmnlamGreatDoor
open Go.ChangeShapes Go.WideShapes Go.ChangeAt Go.RowKit

theorem Taken.heads {w : World} {g : Nat} {L : List (List CT)} {G : Nat → Nat} (h : Taken w g L G L.length) : HeadsAt w (some ⟨g, 0, none⟩) L (fun i => some ⟨G i, 0, none⟩) (fun i => (L.getD i []).length) := by
  intro i hi
  refine ⟨g, 0, rfl, h.lt, ?_⟩
  rw [show 0 + i = i by omega, (h.rows i hi hi).1]
  dsimp only; rw [getD_at hi]
theorem Taken.apartA {w : World} {g : Nat} {L : List (List CT)} {G : Nat → Nat} (h : Taken w g L G L.length) : Apart (some ⟨g, 0, none⟩) L (fun i => some ⟨G i, 0, none⟩) where
  heads i hi b o e := by
    cases e
    rintro ⟨_, o', e'⟩
    simp only [Option.some.injEq, Addr.mk.injEq] at e'
    have := (h.bounds i hi).1; omega
  rows i j hi hj b hij := by
    rintro ⟨_, o1, e1⟩ ⟨_, o2, e2⟩
    simp only [Option.some.injEq, Addr.mk.injEq] at e1 e2
    rcases Nat.lt_or_gt_of_ne hij with hl | hl
    · have := h.rises i j hl hj; omega
    · have := h.rises j i hl hi; omega
theorem Taken.unmarked {w : World} {g : Nat} {L : List (List CT)} {G : Nat → Nat} (h : Taken w g L G L.length) (k : Nat) : Marked w L (fun i => some ⟨G i, 0, none⟩) k 0 :=
  fun j hj => ⟨fun hlt => by omega, fun _ => (h.rows j hj hj).2.1, (h.rows j hj hj).2.2⟩
theorem Taken.rowsAt {w : World} {g : Nat} {L : List (List CT)} {G : Nat → Nat} (h : Taken w g L G L.length) (hf : ∀ i (hi : i < L.length), Fit L[i]) (hm : ∀ i (hi : i < L.length), L[i].length ≤ maxLen) : RowsAt w (some ⟨g, 0, none⟩) L := by
  intro i hi
  obtain ⟨h1, h2, _⟩ := h.rows i hi hi
  exact ⟨g, 0, _, _, rfl, h.lt, by rw [show 0 + i = i by omega]; exact h1, h2, hf i hi, hm i hi, fun e => by cases e⟩
theorem Taken.blks {w : World} {g : Nat} {L : List (List CT)} {G : Nat → Nat} (h : Taken w g L G L.length) (b : Nat) (hb : rowBlks L (fun i => some ⟨G i, 0, none⟩) b) : g < b ∧ b < w.heap.size := by
  obtain ⟨i, hi, _, o, e⟩ := hb
  simp only [Option.some.injEq, Addr.mk.injEq] at e
  have := h.bounds i hi; omega

theorem own_keepS {w w' : World} {P : Nat → Prop} {base : Nat} {e : TypeId} {size n : Nat} {v : Value} {xs : List Value} (h : w.ownsRow base e size v n xs) (hk : KeepS P w w') (hP : ∀ b, P b → b < base) : w'.ownsRow base e size v n xs := by
  refine ⟨h.1, ?_⟩
  rcases h.2 with h' | ⟨g, cap, cur, h', hbg, hg, hr⟩
  · exact .inl h'
  · refine .inr ⟨g, cap, cur, h', hbg, ?_, hr⟩
    have hlt : g < w.heap.size := by
      by_cases hl : g < w.heap.size
      · exact hl
      · rw [Array.getElem?_eq_none (by omega)] at hg; cases hg
    rw [hk.block g hlt (fun hp => by have := hP g hp; omega)]; exact hg
theorem HeadsAt.below {w w' : World} {a : Option Addr} {L : List (List CT)} {A : Nat → Option Addr} {C : Nat → Nat} (h : HeadsAt w a L A C) (hb : Below w.heap.size w w') : HeadsAt w' a L A C := by
  intro i hi
  obtain ⟨b, o, ha, hlt, h0⟩ := h i hi
  exact ⟨b, o, ha, Nat.lt_of_lt_of_le hlt hb.size, by rw [hb.cell (p := ⟨b, _, none⟩) hlt]; exact h0⟩
theorem Marked.below {w w' : World} {L : List (List CT)} {A : Nat → Option Addr} {k : Nat} (h : Marked w L A k L.length) (hb : Below w.heap.size w w') : Marked w' L A k L.length := by
  intro j hj
  obtain ⟨h1, _, h3⟩ := h j hj
  refine ⟨fun hlt => (h1 hlt).below hb, fun hle => by omega, ?_⟩
  intro b o e q hq
  have hlt : b < w.heap.size := by
    obtain ⟨b', o', e', hlt, _⟩ := h1 hj 0 (by rw [marks_length]; omega)
    rw [e] at e'
    simp only [Option.some.injEq, Addr.mk.injEq] at e'
    omega
  rw [hb.frozen (p := ⟨b, _, none⟩) hlt]; exact h3 b o e q hq

end Go.Proofs.YtfokdblojlmnlamGreatDoor

/-
  A law's argument that is a slice of cells, opened: which list of cells it is, and where they lie.
-/
namespace Go.Proofs.YtfokdblojlmnlamGreatDoor
open Go.ChangeShapes Go.WideShapes Go.ChangeAt Go.RowKit Go.Deep

theorem open_cells {H : Type} {enc : TypeId × Value → H} {P : Program} {w : World} {base : Nat} {spare : Nat → Bool} {held : Bool} {t e : TypeId} {f0 f1 f2 : Field} {fuel : Nat} {a : Option Addr} {len cap : Nat} {x : DataW H × List MemPlace}
    (ht : P.underlying t = some (.slice e)) (he : P.underlying e = some (.struct #[f0, f1, f2])) (ce : P.cellsOf e = 3) (o0 : f0.offset = 0) (o1 : f1.offset = 1) (o2 : f2.offset = 2)
    (c0 : P.cellsOf f0.type = 1) (c1 : P.cellsOf f1.type = 1) (c2 : P.cellsOf f2.type = 1) (u0 : P.underlying f0.type = some (.int .i64)) (u1 : P.underlying f1.type = some (.int .i64)) (u2 : P.underlying f2.type = some .string)
    (h : DataW.trod enc P w base spare held fuel t [.slice a len cap] = some x) :
    ∃ l : List CT, l.length = len ∧ RowAt w a l ∧ Fit l ∧ len ≤ maxLen ∧ (a = none → cap = 0) := by
  rcases open_slice ht h with ⟨h0, _⟩ | ⟨ad, len', cap', m, n, D, Pl, hcs, hb, hl, hm, hmm, _, hx⟩
  · simp at h0
    obtain ⟨rfl, rfl, rfl⟩ := h0
    exact ⟨[], rfl, fun j hj => by simp at hj, fun j hj => by simp at hj, by unfold maxLen; omega, fun _ => rfl⟩
  simp at hcs
  obtain ⟨rfl, rfl, rfl⟩ := hcs
  have hlm : len ≤ m := by rw [hmm]; split <;> omega
  have each : ∀ i, i < len → ∃ q : CT, w.cell? (ad.add (i * 3)) = some (.int .i64 q.1) ∧ w.cell? (ad.add (i * 3 + 1)) = some (.int .i64 q.2.1) ∧ w.cell? (ad.add (i * 3 + 2)) = some (.string q.2.2) ∧ q.2.2.size ≤ maxLen := by
    intro i hi
    obtain ⟨cs', h1, h2⟩ := hx i (by omega)
    rw [ce] at h1
    obtain ⟨_, hlen, hcell⟩ := World.cells?_some h1
    obtain ⟨xs, k, hk, hxy, _, hxl, hf⟩ := DataW.trod_struct he h2
    match xs, hxl, cs', hlen with
    | [y0, y1, y2], _, [v0, v1, v2], _ =>
      have g0 := hf 0 f0 rfl
      have g1 := hf 1 f1 rfl
      have g2 := hf 2 f2 rfl
      simp [o0, o1, o2, c0, c1, c2] at g0 g1 g2
      have e0 := hcell 0 (by omega)
      have e1 := hcell 1 (by omega)
      have e2 := hcell 2 (by omega)
      rw [add_add] at e0 e1 e2
      obtain ⟨k0, ek, _, _⟩ := DataW.trod_int u0 g0
      obtain ⟨n0, en, _, _⟩ := DataW.trod_int u1 g1
      obtain ⟨s0, es, _, hs⟩ := DataW.trod_string u2 g2
      simp at ek en es
      subst ek en es
      exact ⟨(k0, n0, s0), by simpa using e0, by simpa using e1, by simpa using e2, hs⟩
  obtain ⟨q, hq⟩ := choose_lt each
  have spot : 0 < len → ad.spot = none := by
    intro h0
    obtain ⟨e0, _⟩ := hq 0 h0
    simpa [Addr.add] using World.cell?_spot e0
  refine ⟨(List.range len).map q, by simp, ?_, ?_, by omega, fun h => by cases h⟩
  · intro j hj
    have hj' : j < len := by simpa using hj
    obtain ⟨b, o, sp⟩ := ad
    have hsp := spot (by omega)
    simp at hsp
    subst hsp
    obtain ⟨e0, e1, e2, _⟩ := hq j hj'
    have hadd : ∀ q, ((⟨b, o, none⟩ : Addr).add q) = ⟨b, o + q, none⟩ := by
      intro q
      unfold Addr.add
      by_cases hq : q = 0 <;> simp [hq]
    rw [hadd] at e0 e1 e2
    refine ⟨b, o, rfl, World.block_lt_of_cell? w _ e0, ?_, ?_, ?_⟩
    · simpa using e0
    · simpa [Nat.add_assoc] using e1
    · simpa [Nat.add_assoc] using e2
  · intro j hj
    have hj' : j < len := by simpa using hj
    simpa using (hq j hj').2.2.2

theorem open_rows {H : Type} {enc : TypeId × Value → H} {P : Program} {w : World} {base : Nat} {spare : Nat → Bool} {held : Bool} {tt t e : TypeId} {f0 f1 f2 : Field} {fuel : Nat} {a : Option Addr} {len cap : Nat} {x : DataW H × List MemPlace}
    (htt : P.underlying tt = some (.slice t)) (ct : P.cellsOf t = 1) (ht : P.underlying t = some (.slice e)) (he : P.underlying e = some (.struct #[f0, f1, f2])) (ce : P.cellsOf e = 3) (o0 : f0.offset = 0) (o1 : f1.offset = 1) (o2 : f2.offset = 2)
    (c0 : P.cellsOf f0.type = 1) (c1 : P.cellsOf f1.type = 1) (c2 : P.cellsOf f2.type = 1) (u0 : P.underlying f0.type = some (.int .i64)) (u1 : P.underlying f1.type = some (.int .i64)) (u2 : P.underlying f2.type = some .string)
    (h : DataW.trod enc P w base spare held fuel tt [.slice a len cap] = some x) :
    ∃ L : List (List CT), L.length = len ∧ RowsAt w a L ∧ len ≤ maxLen ∧ (a = none → cap = 0) := by
  rcases open_slice htt h with ⟨h0, _⟩ | ⟨ad, len', cap', m, n, D, Pl, hcs, hb, hl, hm, hmm, _, hx⟩
  · simp at h0
    obtain ⟨rfl, rfl, rfl⟩ := h0
    exact ⟨[], rfl, fun j hj => by simp at hj, by unfold maxLen; omega, fun _ => rfl⟩
  simp at hcs
  obtain ⟨rfl, rfl, rfl⟩ := hcs
  have hlm : len ≤ m := by rw [hmm]; split <;> omega
  have each : ∀ i, i < len → ∃ l : List CT, ∃ ai ci, w.cell? (ad.add i) = some (.slice ai l.length ci) ∧ RowAt w ai l ∧ Fit l ∧ l.length ≤ maxLen ∧ (ai = none → ci = 0) := by
    intro i hi
    obtain ⟨cs', h1, h2⟩ := hx i (by omega)
    rw [ct, Nat.mul_one] at h1
    obtain ⟨_, hlen, hcell⟩ := World.cells?_some h1
    match cs', hlen with
    | [v], _ =>
      have e0 := hcell 0 (by omega)
      rw [add_add] at e0
      have e1 : w.cell? (ad.add i) = some v := by simpa using e0
      obtain ⟨ai, li, ci, rfl⟩ : ∃ ai li ci, v = .slice ai li ci := by
        rcases open_slice ht h2 with ⟨hv, _⟩ | ⟨a', l', c', _, _, _, _, hv, _⟩
        · simp at hv; exact ⟨_, _, _, hv⟩
        · simp at hv; exact ⟨_, _, _, hv⟩
      obtain ⟨l, hll, hr, hf, hml, hn⟩ := open_cells ht he ce o0 o1 o2 c0 c1 c2 u0 u1 u2 h2
      subst hll
      exact ⟨l, ai, ci, e1, hr, hf, hml, hn⟩
  obtain ⟨q, hq⟩ := choose_lt each
  have spot : 0 < len → ad.spot = none := by
    intro h0
    obtain ⟨ai, ci, e0, _⟩ := hq 0 h0
    simpa [Addr.add] using World.cell?_spot e0
  refine ⟨(List.range len).map q, by simp, ?_, by omega, fun h => by cases h⟩
  intro j hj
  have hj' : j < len := by simpa using hj
  obtain ⟨b, o, sp⟩ := ad
  have hsp := spot (by omega)
  simp at hsp
  subst hsp
  obtain ⟨ai, ci, e0, hr, hf, hml, hn⟩ := hq j hj'
  have hadd : ((⟨b, o, none⟩ : Addr).add j) = ⟨b, o + j, none⟩ := by
    unfold Addr.add
    by_cases hq : j = 0 <;> simp [hq]
  rw [hadd] at e0
  have hg : ((List.range len).map q)[j] = q j := by simp
  rw [hg]
  exact ⟨b, o, ai, ci, rfl, World.block_lt_of_cell? w _ e0, e0, hr, hf, hml, hn⟩

end Go.Proofs.YtfokdblojlmnlamGreatDoor

/-
  A law's argument that is a slice of items, opened; what the laws ask of lists of items, with their lengths as letters.
-/
namespace Go.Proofs.YtfokdblojlmnlamGreatDoor
open Go.ChangeShapes Go.WideShapes Go.ChangeAt Go.RowKit Go.Deep

theorem open_itms {H : Type} {enc : TypeId × Value → H} {P : Program} {w : World} {base : Nat} {spare : Nat → Bool} {held : Bool} {t e : TypeId} {f0 f1 f2 g0 g1 g2 : Field} {fuel : Nat} {a : Option Addr} {len cap : Nat} {x : DataW H × List MemPlace}
    (ht : P.underlying t = some (.slice e)) (he : P.underlying e = some (.struct #[f0, f1, f2])) (hce : P.underlying f1.type = some (.struct #[g0, g1, g2])) (kk : P.cellsOf e = 5)
    (o0 : f0.offset = 0) (o1 : f1.offset = 1) (o2 : f2.offset = 4) (p0 : g0.offset = 0) (p1 : g1.offset = 1) (p2 : g2.offset = 2)
    (c0 : P.cellsOf f0.type = 1) (c1 : P.cellsOf f1.type = 3) (c2 : P.cellsOf f2.type = 1) (d0 : P.cellsOf g0.type = 1) (d1 : P.cellsOf g1.type = 1) (d2 : P.cellsOf g2.type = 1)
    (u0 : P.underlying f0.type = some (.int .i64)) (u1 : P.underlying f2.type = some .string) (v0 : P.underlying g0.type = some (.int .i64)) (v1 : P.underlying g1.type = some (.int .i64)) (v2 : P.underlying g2.type = some .string)
    (h : DataW.trod enc P w base spare held fuel t [.slice a len cap] = some x) :
    ∃ l : List TI, l.length = len ∧ ItmAt w a l ∧ FitItm l ∧ len ≤ maxLen ∧ (a = none → cap = 0) := by
  rcases open_slice ht h with ⟨h0, _⟩ | ⟨ad, len', cap', m, n, D, Pl, hcs, hb, hl, hm, hmm, _, hx⟩
  · simp at h0
    obtain ⟨rfl, rfl, rfl⟩ := h0
    exact ⟨[], rfl, fun j hj => by simp at hj, fun j hj => by simp at hj, by unfold maxLen; omega, fun _ => rfl⟩
  simp at hcs
  obtain ⟨rfl, rfl, rfl⟩ := hcs
  have hlm : len ≤ m := by rw [hmm]; split <;> omega
  have each : ∀ i, i < len → ∃ q : TI, w.cell? (ad.add (i * 5)) = some (.int .i64 q.1) ∧ w.cell? (ad.add (i * 5 + 1)) = some (.int .i64 q.2.1.1) ∧ w.cell? (ad.add (i * 5 + 2)) = some (.int .i64 q.2.1.2.1) ∧ w.cell? (ad.add (i * 5 + 3)) = some (.string q.2.1.2.2) ∧ w.cell? (ad.add (i * 5 + 4)) = some (.string q.2.2) ∧ q.2.1.2.2.size ≤ maxLen ∧ q.2.2.size ≤ maxLen := by
    intro i hi
    obtain ⟨cs', h1, h2⟩ := hx i (by omega)
    rw [kk] at h1
    obtain ⟨_, hlen, hcell⟩ := World.cells?_some h1
    obtain ⟨xs, k, hk, hxy, _, hxl, hf⟩ := DataW.trod_struct he h2
    match xs, hxl, cs', hlen with
    | [y0, y1, y2], _, [w0, w1, w2, w3, w4], _ =>
      have q0 := hf 0 f0 rfl
      have q1 := hf 1 f1 rfl
      have q2 := hf 2 f2 rfl
      simp [o0, o1, o2, c0, c1, c2] at q0 q1 q2
      obtain ⟨ys, k2, hk2, hyy, _, hyl, hg⟩ := DataW.trod_struct hce q1
      match ys, hyl with
      | [z0, z1, z2], _ =>
        have r0 := hg 0 g0 rfl
        have r1 := hg 1 g1 rfl
        have r2 := hg 2 g2 rfl
        simp [p0, p1, p2, d0, d1, d2] at r0 r1 r2
        have e0 := hcell 0 (by omega)
        have e1 := hcell 1 (by omega)
        have e2 := hcell 2 (by omega)
        have e3 := hcell 3 (by omega)
        have e4 := hcell 4 (by omega)
        rw [add_add] at e0 e1 e2 e3 e4
        obtain ⟨k0, ek, _, _⟩ := DataW.trod_int u0 q0
        obtain ⟨s0, es, _, hs⟩ := DataW.trod_string u1 q2
        obtain ⟨k1, ek1, _, _⟩ := DataW.trod_int v0 r0
        obtain ⟨n1, en1, _, _⟩ := DataW.trod_int v1 r1
        obtain ⟨s1, es1, _, hs1⟩ := DataW.trod_string v2 r2
        simp at ek es ek1 en1 es1
        subst ek es ek1 en1 es1
        exact ⟨(k0, (k1, n1, s1), s0), by simpa using e0, by simpa using e1, by simpa using e2, by simpa using e3, by simpa using e4, hs1, hs⟩
  obtain ⟨q, hq⟩ := choose_lt each
  have spot : 0 < len → ad.spot = none := by
    intro h0
    obtain ⟨e0, _⟩ := hq 0 h0
    simpa [Addr.add] using World.cell?_spot e0
  refine ⟨(List.range len).map q, by simp, ?_, ?_, by omega, fun h => by cases h⟩
  · intro j hj
    have hj' : j < len := by simpa using hj
    obtain ⟨b, o, sp⟩ := ad
    have hsp := spot (by omega)
    simp at hsp
    subst hsp
    obtain ⟨e0, e1, e2, e3, e4, _⟩ := hq j hj'
    have hadd : ∀ q, ((⟨b, o, none⟩ : Addr).add q) = ⟨b, o + q, none⟩ := by
      intro q
      unfold Addr.add
      by_cases hq : q = 0 <;> simp [hq]
    rw [hadd] at e0 e1 e2 e3 e4
    refine ⟨b, o, rfl, World.block_lt_of_cell? w _ e0, ?_, ?_, ?_, ?_, ?_⟩
    · simpa using e0
    · simpa [Nat.add_assoc] using e1
    · simpa [Nat.add_assoc] using e2
    · simpa [Nat.add_assoc] using e3
    · simpa [Nat.add_assoc] using e4
  · intro j hj
    have hj' : j < len := by simpa using hj
    simpa using (hq j hj').2.2.2.2.2
theorem szI (n : Nat) (a : Option Addr) (cap : Nat) (l : List TI) (hn : l.length = n) (w : World) (hrow : ItmAt w a l) (hfit : FitItm l) (hm : n ≤ maxLen) (r : Int) (hr : leftOfItm l 1048576 = r) :
    Calls Tryz.prog 14 #[.slice a n cap, .int .i64 1048576] w fun e w' => e = .returned (.int .i64 r) ∧ Below w.heap.size w w' := by
  subst hn hr; exact szsItm a cap l 1048576 w hrow hfit hm (by omega) (by omega)
theorem tosI (n : Nat) (a : Option Addr) (cap : Nat) (l : List TI) (hn : l.length = n) (w : World) (hrow : ItmAt w a l) (hm : n ≤ 1048576) :
    Calls Tryz.prog 16 #[.slice a n cap] w fun e w' => ∃ g, e = .returned (.slice (some ⟨g, 0, none⟩) n n) ∧ ItmAt w' (some ⟨g, 0, none⟩) l ∧ w.heap.size ≤ g ∧ (∀ j, j < n * 5 → w'.frozen? ⟨g, 0 + j, none⟩ = false) ∧ Below w.heap.size w w' := by
  subst hn
  refine (tosItm a cap l w hrow hm).mono ?_
  rintro e w' ⟨rfl, hO, hb⟩
  refine ⟨_, rfl, ownItm hO, (hO.lt _ rfl).1, fun j _ => ?_, hb⟩
  rw [Nat.zero_add]; exact hO.frozenAt j
theorem eqsI (n : Nat) (a b : Option Addr) (ca cb : Nat) (l : List TI) (hn : l.length = n) (w : World) (ha : ItmAt w a l) (hb : ItmAt w b l) (hm : n ≤ maxLen) :
    Calls Tryz.prog 9 #[.slice a n ca, .slice b n cb] w fun e w' => e = .returned (.bool true) ∧ Below w.heap.size w w' := by
  subst hn; exact eqsItm a b ca cb l w ha hb hm
theorem oneI_le {l : List TI} {x : TI} (h : x ∈ l) : oneItm x ≤ weightItm l := by
  unfold weightItm
  obtain ⟨j, hj, rfl⟩ := List.mem_iff_getElem.1 h
  have h1 := weightItm_take l j hj
  have h2 := weightItm_le l (j + 1)
  unfold weightItm at h1 h2
  omega
end Go.Proofs.YtfokdblojlmnlamGreatDoor

/-
  From the row's condition on the listed variables to what the walks ask of them.
-/
namespace Go.Proofs.YtfokdblojlmnlamGreatDoor
open Go.ChangeShapes Go.WideShapes Go.ChangeAt Go.RowKit

theorem gPow : (Tryz.prog.globalNamed "internal/strconv.uint64pow10").bind (fun g => (Tryz.prog.globals[g]?).map (·.type)) = some 175 := by kernel_rfl
theorem pow_data : (Rows.laid_internal_strconv_uint64pow10 : DataW Unit) = Lib.tabData .u64 Lib.pow10Tab := by kernel_rfl
theorem pow_of {W : World} {rest : List (String × DataW Unit)} (h : laidMet Tryz.prog (("internal/strconv.uint64pow10", Rows.laid_internal_strconv_uint64pow10) :: rest) W) : PowAt W := by
  rw [pow_data] at h
  obtain ⟨g, hg, ht⟩ := Option.bind_eq_some_iff.1 gPow
  exact Lib.tabIs_of_head hg ht Tryz.underlying175 Tryz.underlying118 (by kernel_rfl) (by kernel_rfl) h

theorem star_name : "*" ++ "errors.errorString" = "*errors.errorString" := by decide
theorem row_err (u : TypeId) (h : Tryz.prog.typeName? 3 u = some "*errors.errorString") : u = 170 :=
  typeName_ptr_named (nm := "errors.errorString") (by rw [star_name]; kernel_rfl) (by kernel_rfl) (by decide) u (by rw [star_name]; exact h)
theorem gRange : (Tryz.prog.globalNamed "strconv.ErrRange").bind (fun g => (Tryz.prog.globals[g]?).map (·.type)) = some 137 := by kernel_rfl
theorem gSyntax : (Tryz.prog.globalNamed "strconv.ErrSyntax").bind (fun g => (Tryz.prog.globals[g]?).map (·.type)) = some 137 := by kernel_rfl
theorem err_of {W : World} {rest : List (String × DataW Unit)} (h : laidMet Tryz.prog (("strconv.ErrRange", Rows.laid_strconv_ErrRange) :: ("strconv.ErrSyntax", Rows.laid_strconv_ErrSyntax) :: rest) W) : ErrAt W := by
  obtain ⟨g, hg, ht⟩ := Option.bind_eq_some_iff.1 gRange
  obtain ⟨g2, hg2, ht2⟩ := Option.bind_eq_some_iff.1 gSyntax
  have h2 := h.tail
  unfold Rows.laid_strconv_ErrRange at h
  unfold Rows.laid_strconv_ErrSyntax at h2
  obtain ⟨a, s, hv, _⟩ := laid_sentinel h hg ht Tryz.underlying137 row_err Tryz.underlying170 Tryz.underlying172 rfl rfl Tryz.underlying9 (by kernel_rfl) (by kernel_rfl)
  obtain ⟨a2, s2, hv2, _⟩ := laid_sentinel h2 hg2 ht2 Tryz.underlying137 row_err Tryz.underlying170 Tryz.underlying172 rfl rfl Tryz.underlying9 (by kernel_rfl) (by kernel_rfl)
  exact ⟨⟨_, _, hv2⟩, ⟨_, _, hv⟩⟩

end Go.Proofs.YtfokdblojlmnlamGreatDoor
