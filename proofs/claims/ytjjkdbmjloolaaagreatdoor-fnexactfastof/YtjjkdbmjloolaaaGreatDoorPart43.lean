/-
  A part of the proof: Itm2, Open4, Tok2, TokN.
-/
import Derived.Test.YtjjkdbmjloolaaaGreatDoorPart1
import Derived.Test.YtjjkdbmjloolaaaGreatDoorPart7
import Derived.Test.YtjjkdbmjloolaaaGreatDoorPart26
import Derived.Test.YtjjkdbmjloolaaaGreatDoorPart13
import Derived.Test.YtjjkdbmjloolaaaGreatDoorPart6
import Derived.Lib.SmallJoins

namespace Go.Proofs.YtjjkdbmjloolaaaGreatDoor
open Go.ChangeShapes Go.WideShapes Go.ChangeAt Go.RowKit
attribute [local go_sem ↓] Go.wp_at_zero Go.wp_at_succ
def mark1Itm (k i : Nat) : TI := (((k + 5 * i : Nat) : Int), (((k + 5 * i + 1 : Nat) : Int), ((k + 5 * i + 2 : Nat) : Int), mt (k + 5 * i + 3)), mt (k + 5 * i + 4))
def marksItm (k n : Nat) : List TI := (List.range n).map (mark1Itm k)
theorem marksItm_length (k n : Nat) : (marksItm k n).length = n := by simp [marksItm]
theorem marksItm_step (k : Nat) (l : List TI) (i : Nat) (h : i < l.length) : (marksItm k i ++ l.drop i).set i (mark1Itm k i) = marksItm k (i + 1) ++ l.drop (i + 1) := by
 rw [List.set_append_right _ _ (by rw [marksItm_length]; omega), marksItm_length, Nat.sub_self]
 have e : l.drop i = l[i] :: l.drop (i + 1) := List.drop_eq_getElem_cons h
 rw [e, List.set_cons_zero]
 simp [marksItm, List.range_succ]
def FreeItm (w : World) (a : Option Addr) (n : Nat) : Prop := ∀ b o, a = some ⟨b, o, none⟩ → ∀ j, j < n * 5 → w.frozen? ⟨b, o + j, none⟩ = false
theorem ItmAt.upd {w w' : World} {b o : Nat} {l : List TI} {i : Nat} {x : TI} (h : ItmAt w (some ⟨b, o, none⟩) l) (hs : w.heap.size ≤ w'.heap.size)
  (hfar : ∀ q, q ≠ o + i * 5 → q ≠ o + i * 5 + 1 → q ≠ o + i * 5 + 2 → q ≠ o + i * 5 + 3 → q ≠ o + i * 5 + 4 → w'.cell? ⟨b, q, none⟩ = w.cell? ⟨b, q, none⟩)
  (h0 : w'.cell? ⟨b, o + i * 5, none⟩ = some (.int .i64 x.1)) (h1 : w'.cell? ⟨b, o + i * 5 + 1, none⟩ = some (.int .i64 x.2.1.1)) (h2 : w'.cell? ⟨b, o + i * 5 + 2, none⟩ = some (.int .i64 x.2.1.2.1)) (h3 : w'.cell? ⟨b, o + i * 5 + 3, none⟩ = some (.string x.2.1.2.2)) (h4 : w'.cell? ⟨b, o + i * 5 + 4, none⟩ = some (.string x.2.2)) :
  ItmAt w' (some ⟨b, o, none⟩) (l.set i x) := by
 intro j hj
 have hj' : j < l.length := by simpa using hj
 obtain ⟨b', o', e, hlt, c0, c1, c2, c3, c4⟩ := h j hj'
 cases e
 refine ⟨b, o, rfl, Nat.lt_of_lt_of_le hlt hs, ?_⟩
 by_cases hij : i = j
 · subst hij
  rw [List.getElem_set_self]
  exact ⟨h0, h1, h2, h3, h4⟩
 · rw [List.getElem_set_ne hij]
  refine ⟨?_, ?_, ?_, ?_, ?_⟩
  · rw [hfar _ (by omega) (by omega) (by omega) (by omega) (by omega)]; exact c0
  · rw [hfar _ (by omega) (by omega) (by omega) (by omega) (by omega)]; exact c1
  · rw [hfar _ (by omega) (by omega) (by omega) (by omega) (by omega)]; exact c2
  · rw [hfar _ (by omega) (by omega) (by omega) (by omega) (by omega)]; exact c3
  · rw [hfar _ (by omega) (by omega) (by omega) (by omega) (by omega)]; exact c4
theorem FreeItm.upd {w w' : World} {a : Option Addr} {n : Nat} (h : FreeItm w a n) (hf : ∀ b o q, a = some ⟨b, o, none⟩ → w'.frozen? ⟨b, q, none⟩ = w.frozen? ⟨b, q, none⟩) : FreeItm w' a n :=
 fun b o e j hj => by rw [hf b o _ e]; exact h b o e j hj
theorem ItmAt.keepS {P : Nat → Prop} {w w' : World} {a : Option Addr} {l : List TI} (h : ItmAt w a l) (hk : KeepS P w w') (hP : ∀ b, inBlk a l.length b → ¬ P b) : ItmAt w' a l := by
 intro j hj
 obtain ⟨b, o, ha, hlt, c0, c1, c2, c3, c4⟩ := h j hj
 have hn := hP b ⟨by omega, o, ha⟩
 refine ⟨b, o, ha, Nat.lt_of_lt_of_le hlt hk.size, ?_, ?_, ?_, ?_, ?_⟩
 · rw [hk.cell hlt hn]; exact c0
 · rw [hk.cell hlt hn]; exact c1
 · rw [hk.cell hlt hn]; exact c2
 · rw [hk.cell hlt hn]; exact c3
 · rw [hk.cell hlt hn]; exact c4
set_option maxRecDepth 100000 in
set_option maxHeartbeats 4000000 in
theorem markItm_laws (a : Option Addr) (cap : Nat) (l : List TI) (k : Nat) (w : World) (hrow : ItmAt w a l) (hfree : FreeItm w a l.length) (h0 : 0 < k) (h1 : k + 5 * l.length ≤ 1099511627776) :
  Calls Tryz.prog 28 #[.slice a l.length cap, .int .i64 k] w fun e w' => e = .returned (.int .i64 ((k + 5 * l.length : Nat) : Int)) ∧ ItmAt w' a (marksItm k l.length) ∧ FreeItm w' a l.length ∧ KeepS (inBlk a l.length) w w' := by
 have hR := hid hrow
 have hF := hid hfree
 clear hrow hfree
 go_enter Tryz.func28, Tryz.ntmps28
 go_wp2
 go_loopw [1, 5] (fun s i wr => ∃ m : Nat, m ≤ l.length ∧ i = .int .i64 m ∧ s = .int .i64 ((k + 5 * m : Nat) : Int) ∧ Hid (ItmAt wr a (marksItm k m ++ l.drop m)) ∧ Hid (FreeItm wr a l.length) ∧ KeepS (inBlk a l.length) w wr)
  (fun _ i _ => l.length - (intOf i).toNat)
 case atStart => exact ⟨0, Nat.zero_le _, rfl, by simp, by simpa [marksItm] using hR, hF, KeepS.refl _ _⟩
 case round =>
  obtain ⟨m, hm, rfl, rfl, hr, hf, hkp⟩ := hrel
  by_cases hlt : m < l.length
  · have hl2 : m < (marksItm k m ++ l.drop m).length := by rw [List.length_append, marksItm_length, List.length_drop]; omega
   obtain ⟨b, o, rfl, hbw, c0, c1, c2, c3, c4⟩ := hr.out m hl2
   generalize (marksItm k m ++ l.drop m)[m] = x at c0 c1 c2 c3 c4
   have hi0 : (0 : Int) ≤ (m : Int) := by omega
   have hi1 : (m : Int) < (l.length : Int) := by omega
   have f0 := hf.out b o rfl (m * 5) (by omega)
   have f1 := hf.out b o rfl (m * 5 + 1) (by omega)
   have f2 := hf.out b o rfl (m * 5 + 2) (by omega)
   have f3 := hf.out b o rfl (m * 5 + 3) (by omega)
   have f4 := hf.out b o rfl (m * 5 + 4) (by omega)
   rw [← Nat.add_assoc] at f1 f2 f3 f4
   go_wp2_with fail
   refine (text_lawsN (k + 5 * m + 3) _ (by omega) _ (by omega) (by omega)).mono ?_
   rintro e w2 ⟨rfl, hb2⟩
   have hl2 : b < w2.heap.size := by have := hb2.size; simp at this; omega
   have g2_3 : w2.cell? ⟨b, o + m * 5 + 3, none⟩ = some (.string x.2.1.2.2) := by
    rw [hb2.cell (p := ⟨b, o + m * 5 + 3, none⟩) (by simpa using hbw), cell_off _ _ _ _ _ (by omega), cell_off _ _ _ _ _ (by omega), cell_off _ _ _ _ _ (by omega)]; exact c3
   have e2_3 : w2.frozen? ⟨b, o + m * 5 + 3, none⟩ = false := by
    rw [hb2.frozen (p := ⟨b, o + m * 5 + 3, none⟩) (by simpa using hbw)]; simpa using f3
   have g2_4 : w2.cell? ⟨b, o + m * 5 + 4, none⟩ = some (.string x.2.2) := by
    rw [hb2.cell (p := ⟨b, o + m * 5 + 4, none⟩) (by simpa using hbw), cell_off _ _ _ _ _ (by omega), cell_off _ _ _ _ _ (by omega), cell_off _ _ _ _ _ (by omega)]; exact c4
   have e2_4 : w2.frozen? ⟨b, o + m * 5 + 4, none⟩ = false := by
    rw [hb2.frozen (p := ⟨b, o + m * 5 + 4, none⟩) (by simpa using hbw)]; simpa using f4
   go_wp2_with fail
   refine (text_lawsN (k + 5 * m + 4) _ (by omega) _ (by omega) (by omega)).mono ?_
   rintro e w3 ⟨rfl, hb3⟩
   have hl3 : b < w3.heap.size := by have := hb3.size; simp at this; omega
   have g3_4 : w3.cell? ⟨b, o + m * 5 + 4, none⟩ = some (.string x.2.2) := by
    rw [hb3.cell (p := ⟨b, o + m * 5 + 4, none⟩) (by simpa using hl2), cell_off _ _ _ _ _ (by omega)]; exact g2_4
   have e3_4 : w3.frozen? ⟨b, o + m * 5 + 4, none⟩ = false := by
    rw [hb3.frozen (p := ⟨b, o + m * 5 + 4, none⟩) (by simpa using hl2)]; simpa using e2_4
   go_wp2
   go_roundw
   case rel =>
    have hsz : wr.heap.size ≤ w3.heap.size := by have := hb2.size; have := hb3.size; simp at *; omega
    refine ⟨m + 1, by omega, by go_num, by go_num, ?_, ?_, ?_⟩
    · show ItmAt _ _ _
     rw [← marksItm_step k l m hlt]
     refine hr.out.upd (by simpa using hsz) ?_ ?_ ?_ ?_ ?_ ?_
     · intro q q0 q1 q2 q3 q4
      rw [cell_off _ _ _ _ _ q4, hb3.cell (p := ⟨b, q, none⟩) (by simpa using hl2), cell_off _ _ _ _ _ q3, hb2.cell (p := ⟨b, q, none⟩) (by simpa using hbw), cell_off _ _ _ _ _ q2, cell_off _ _ _ _ _ q1, cell_off _ _ _ _ _ q0]
     · rw [cell_off _ _ _ _ _ (by omega), hb3.cell (p := ⟨b, _, none⟩) (by simpa using hl2), cell_off _ _ _ _ _ (by omega), hb2.cell (p := ⟨b, _, none⟩) (by simpa using hbw), cell_off _ _ _ _ _ (by omega), cell_off _ _ _ _ _ (by omega), cell_here _ _ _ _ (by rw [c0]; rfl)]
      first | (simp [mark1Itm]; done) | (simp [mark1Itm]; omega)
     · rw [cell_off _ _ _ _ _ (by omega), hb3.cell (p := ⟨b, _, none⟩) (by simpa using hl2), cell_off _ _ _ _ _ (by omega), hb2.cell (p := ⟨b, _, none⟩) (by simpa using hbw), cell_off _ _ _ _ _ (by omega), cell_here _ _ _ _ (by rw [cell_off _ _ _ _ _ (by omega), c1]; rfl)]
      first | (simp [mark1Itm]; done) | (simp [mark1Itm]; omega)
     · rw [cell_off _ _ _ _ _ (by omega), hb3.cell (p := ⟨b, _, none⟩) (by simpa using hl2), cell_off _ _ _ _ _ (by omega), hb2.cell (p := ⟨b, _, none⟩) (by simpa using hbw), cell_here _ _ _ _ (by rw [cell_off _ _ _ _ _ (by omega), cell_off _ _ _ _ _ (by omega), c2]; rfl)]
      first | (simp [mark1Itm]; done) | (simp [mark1Itm]; omega)
     · rw [cell_off _ _ _ _ _ (by omega), hb3.cell (p := ⟨b, _, none⟩) (by simpa using hl2), cell_here _ _ _ _ (by rw [g2_3]; rfl)]
      first | (simp [mark1Itm]; done) | (simp [mark1Itm]; omega)
     · rw [cell_here _ _ _ _ (by rw [g3_4]; rfl)]
      first | (simp [mark1Itm]; done) | (simp [mark1Itm]; omega)
    · show FreeItm _ _ _
     refine hf.out.upd ?_
     intro b' o' q e
     cases e
     rw [World.frozen?_setCell, hb3.frozen (p := ⟨b, q, none⟩) (by simpa using hl2), World.frozen?_setCell, hb2.frozen (p := ⟨b, q, none⟩) (by simpa using hbw), World.frozen?_setCell, World.frozen?_setCell, World.frozen?_setCell]
    · exact (((((((hkp.setCell (p := ⟨b, o + m * 5, none⟩) ⟨by omega, o, rfl⟩ _).setCell (p := ⟨b, o + m * 5 + 1, none⟩) ⟨by omega, o, rfl⟩ _).setCell (p := ⟨b, o + m * 5 + 2, none⟩) ⟨by omega, o, rfl⟩ _).trans (KeepS.ofBelow hb2)).setCell (p := ⟨b, o + m * 5 + 3, none⟩) ⟨by omega, o, rfl⟩ _).trans (KeepS.ofBelow hb3)).setCell (p := ⟨b, o + m * 5 + 4, none⟩) ⟨by omega, o, rfl⟩ _)
   case measure => simp [intOf]; omega
  · have hkl : m = l.length := by omega
   subst hkl
   rw [List.drop_length, List.append_nil] at hr
   go_wp2
   go_ret
   exact ⟨rfl, hr.out, hf.out, hkp⟩
end Go.Proofs.YtjjkdbmjloolaaaGreatDoor
namespace Go.Proofs.YtjjkdbmjloolaaaGreatDoor
open Go.ChangeShapes Go.WideShapes Go.ChangeAt Go.RowKit Go.Deep
end Go.Proofs.YtjjkdbmjloolaaaGreatDoor
namespace Go.Proofs.YtjjkdbmjloolaaaGreatDoor
open Go.ChangeShapes Go.WideShapes Go.ChangeAt Go.RowKit
attribute [local go_sem ↓] Go.wp_at_zero Go.wp_at_succ
def FreeTok (w : World) (a : Option Addr) (n : Nat) : Prop := ∀ b o, a = some ⟨b, o, none⟩ → ∀ j, j < n * 5 → w.frozen? ⟨b, o + j, none⟩ = false
theorem TokAt.upd {w w' : World} {b o : Nat} {l : List TT} {i : Nat} {x : TT} (h : TokAt w (some ⟨b, o, none⟩) l) (hs : w.heap.size ≤ w'.heap.size)
  (hfar : ∀ q, q ≠ o + i * 5 → q ≠ o + i * 5 + 1 → q ≠ o + i * 5 + 2 → q ≠ o + i * 5 + 3 → q ≠ o + i * 5 + 4 → w'.cell? ⟨b, q, none⟩ = w.cell? ⟨b, q, none⟩)
  (h0 : w'.cell? ⟨b, o + i * 5, none⟩ = some (.int .i64 x.1)) (h1 : w'.cell? ⟨b, o + i * 5 + 1, none⟩ = some (.string x.2.1)) (h2 : w'.cell? ⟨b, o + i * 5 + 2, none⟩ = some (.int .i64 x.2.2.1)) (h3 : w'.cell? ⟨b, o + i * 5 + 3, none⟩ = some (.int .i64 x.2.2.2.1)) (h4 : w'.cell? ⟨b, o + i * 5 + 4, none⟩ = some (.string x.2.2.2.2)) :
  TokAt w' (some ⟨b, o, none⟩) (l.set i x) := by
 intro j hj
 have hj' : j < l.length := by simpa using hj
 obtain ⟨b', o', e, hlt, c0, c1, c2, c3, c4⟩ := h j hj'
 cases e
 refine ⟨b, o, rfl, Nat.lt_of_lt_of_le hlt hs, ?_⟩
 by_cases hij : i = j
 · subst hij
  rw [List.getElem_set_self]
  exact ⟨h0, h1, h2, h3, h4⟩
 · rw [List.getElem_set_ne hij]
  refine ⟨?_, ?_, ?_, ?_, ?_⟩
  · rw [hfar _ (by omega) (by omega) (by omega) (by omega) (by omega)]; exact c0
  · rw [hfar _ (by omega) (by omega) (by omega) (by omega) (by omega)]; exact c1
  · rw [hfar _ (by omega) (by omega) (by omega) (by omega) (by omega)]; exact c2
  · rw [hfar _ (by omega) (by omega) (by omega) (by omega) (by omega)]; exact c3
  · rw [hfar _ (by omega) (by omega) (by omega) (by omega) (by omega)]; exact c4
theorem FreeTok.upd {w w' : World} {a : Option Addr} {n : Nat} (h : FreeTok w a n) (hf : ∀ b o q, a = some ⟨b, o, none⟩ → w'.frozen? ⟨b, q, none⟩ = w.frozen? ⟨b, q, none⟩) : FreeTok w' a n :=
 fun b o e j hj => by rw [hf b o _ e]; exact h b o e j hj
theorem TokAt.keepS {P : Nat → Prop} {w w' : World} {a : Option Addr} {l : List TT} (h : TokAt w a l) (hk : KeepS P w w') (hP : ∀ b, inBlk a l.length b → ¬ P b) : TokAt w' a l := by
 intro j hj
 obtain ⟨b, o, ha, hlt, c0, c1, c2, c3, c4⟩ := h j hj
 have hn := hP b ⟨by omega, o, ha⟩
 refine ⟨b, o, ha, Nat.lt_of_lt_of_le hlt hk.size, ?_, ?_, ?_, ?_, ?_⟩
 · rw [hk.cell hlt hn]; exact c0
 · rw [hk.cell hlt hn]; exact c1
 · rw [hk.cell hlt hn]; exact c2
 · rw [hk.cell hlt hn]; exact c3
 · rw [hk.cell hlt hn]; exact c4
end Go.Proofs.YtjjkdbmjloolaaaGreatDoor
namespace Go.Proofs.YtjjkdbmjloolaaaGreatDoor
open Go.ChangeShapes Go.WideShapes Go.ChangeAt Go.RowKit
theorem own_freeItm {w : World} {base g c n : Nat} {e : TypeId} {xs : List Value} (h : w.ownsRow base e 5 (.slice (some ⟨g, 0, none⟩) n c) n xs) : FreeItm w (some ⟨g, 0, none⟩) n := by
 intro b o e j _
 simp only [Option.some.injEq, Addr.mk.injEq, and_true] at e
 obtain ⟨rfl, rfl⟩ := e
 rw [Nat.zero_add]; exact h.frozenAt j
end Go.Proofs.YtjjkdbmjloolaaaGreatDoor
