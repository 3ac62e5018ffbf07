/-
  A part of the proof: FastMark, TabsMark, OwnD.
-/
import Derived.Test.YtjjkdbmjloolaaaGreatDoorPart42
import Derived.Test.YtjjkdbmjloolaaaGreatDoorPart45
import Derived.Test.YtjjkdbmjloolaaaGreatDoorPart4
import Derived.Test.YtjjkdbmjloolaaaGreatDoorPart1
import Derived.Test.YtjjkdbmjloolaaaGreatDoorPart28

namespace Go.Proofs.YtjjkdbmjloolaaaGreatDoor
open Go.ChangeShapes Go.WideShapes Go.ChangeAt Go.RowKit
attribute [local go_sem ↓] Go.wp_at_zero Go.wp_at_succ
attribute [local simp] World.cell?_alloc_past World.cell?_alloc_at World.frozen?_alloc_at cell_far cell_off cell_here World.frozen?_alloc_past
def mark1Fo (k i : Nat) : FO := (((k + 4 * i : Nat) : Int), ((k + 4 * i + 1 : Nat) : Int), ((k + 4 * i + 2 : Nat) : Int), ((k + 4 * i + 3 : Nat) : Int))
def marksFo (k n : Nat) : List FO := (List.range n).map (mark1Fo k)
theorem marksFo_length (k n : Nat) : (marksFo k n).length = n := by simp [marksFo]
theorem marksFo_at (k n i : Nat) (h : i < (marksFo k n).length) : (marksFo k n)[i] = mark1Fo k i := by simp [marksFo]
theorem marksFo_step (k : Nat) (l : List FO) (i : Nat) (h : i < l.length) : (marksFo k i ++ l.drop i).set i (mark1Fo k i) = marksFo k (i + 1) ++ l.drop (i + 1) := by
 rw [List.set_append_right _ _ (by rw [marksFo_length]; omega), marksFo_length, Nat.sub_self]
 have e : l.drop i = l[i] :: l.drop (i + 1) := List.drop_eq_getElem_cons h
 rw [e, List.set_cons_zero]
 simp [marksFo, List.range_succ]
def FreeFo (w : World) (a : Option Addr) (n : Nat) : Prop := ∀ b o, a = some ⟨b, o, none⟩ → ∀ j, j < n * 4 → w.frozen? ⟨b, o + j, none⟩ = false
theorem FreeFo.upd {w w' : World} {a : Option Addr} {n : Nat} (h : FreeFo w a n) (hf : ∀ b o q, a = some ⟨b, o, none⟩ → w'.frozen? ⟨b, q, none⟩ = w.frozen? ⟨b, q, none⟩) : FreeFo w' a n :=
 fun b o e j hj => by rw [hf b o _ e]; exact h b o e j hj
theorem FoAt.upd {w w' : World} {b o : Nat} {l : List FO} {i : Nat} {x : FO} (h : FoAt w (some ⟨b, o, none⟩) l) (hs : w.heap.size ≤ w'.heap.size)
  (hfar : ∀ q, q ≠ o + i * 4 → q ≠ o + i * 4 + 1 → q ≠ o + i * 4 + 2 → q ≠ o + i * 4 + 3 → w'.cell? ⟨b, q, none⟩ = w.cell? ⟨b, q, none⟩)
  (h0 : w'.cell? ⟨b, o + i * 4, none⟩ = some (.int .i64 x.1)) (h1 : w'.cell? ⟨b, o + i * 4 + 1, none⟩ = some (.int .i64 x.2.1)) (h2 : w'.cell? ⟨b, o + i * 4 + 2, none⟩ = some (.int .i64 x.2.2.1)) (h3 : w'.cell? ⟨b, o + i * 4 + 3, none⟩ = some (.int .i64 x.2.2.2)) :
  FoAt w' (some ⟨b, o, none⟩) (l.set i x) := by
 intro j hj
 have hj' : j < l.length := by simpa using hj
 obtain ⟨b', o', e, hlt, c0, c1, c2, c3⟩ := h j hj'
 cases e
 refine ⟨b, o, rfl, Nat.lt_of_lt_of_le hlt hs, ?_⟩
 by_cases hij : i = j
 · subst hij
  rw [List.getElem_set_self]
  exact ⟨h0, h1, h2, h3⟩
 · rw [List.getElem_set_ne hij]
  refine ⟨?_, ?_, ?_, ?_⟩
  · rw [hfar _ (by omega) (by omega) (by omega) (by omega)]; exact c0
  · rw [hfar _ (by omega) (by omega) (by omega) (by omega)]; exact c1
  · rw [hfar _ (by omega) (by omega) (by omega) (by omega)]; exact c2
  · rw [hfar _ (by omega) (by omega) (by omega) (by omega)]; exact c3
set_option maxRecDepth 100000 in
set_option maxHeartbeats 4000000 in
theorem markFo_laws (a : Option Addr) (cap n : Nat) (l : List FO) (hn : l.length = n) (k : Nat) (w : World) (hrow : FoAt w a l) (hfree : FreeFo w a n) (h1 : k + 4 * n ≤ 1099511627776) :
  Calls Tryz.prog 29 #[.slice a n cap, .int .i64 k] w fun e w' => e = .returned (.int .i64 ((k + 4 * n : Nat) : Int)) ∧ FoAt w' a (marksFo k n) ∧ KeepS (inBlk a n) w w' := by
 subst hn
 have hR := hid hrow
 have hF := hid hfree
 clear hrow hfree
 go_enter Tryz.func29, Tryz.ntmps29
 go_wp2
 go_loopw [1, 5] (fun s i wr => ∃ m : Nat, m ≤ l.length ∧ i = .int .i64 m ∧ s = .int .i64 ((k + 4 * m : Nat) : Int) ∧ Hid (FoAt wr a (marksFo k m ++ l.drop m)) ∧ Hid (FreeFo wr a l.length) ∧ KeepS (inBlk a l.length) w wr)
  (fun _ i _ => l.length - (intOf i).toNat)
 case atStart => exact ⟨0, Nat.zero_le _, rfl, by simp, by simpa [marksFo] using hR, hF, KeepS.refl _ _⟩
 case round =>
  obtain ⟨m, hm, rfl, rfl, hr, hf, hkp⟩ := hrel
  by_cases hlt : m < l.length
  · have hl2 : m < (marksFo k m ++ l.drop m).length := by rw [List.length_append, marksFo_length, List.length_drop]; omega
   obtain ⟨b, o, rfl, hbw, c0, c1, c2, c3⟩ := hr.out m hl2
   generalize (marksFo k m ++ l.drop m)[m] = x at c0 c1 c2 c3
   obtain ⟨x0, x1, x2, x3⟩ := x
   dsimp only at c0 c1 c2 c3
   have hi0 : (0 : Int) ≤ (m : Int) := by omega
   have hi1 : (m : Int) < (l.length : Int) := by omega
   have f0 := hf.out b o rfl (m * 4) (by omega)
   have f1 := hf.out b o rfl (m * 4 + 1) (by omega)
   have f2 := hf.out b o rfl (m * 4 + 2) (by omega)
   have f3 := hf.out b o rfl (m * 4 + 3) (by omega)
   rw [← Nat.add_assoc] at f1 f2 f3
   go_wp2
   go_roundw
   case rel =>
    refine ⟨m + 1, by omega, by go_num, by go_num, ?_, ?_, ?_⟩
    · show FoAt _ _ _
     rw [← marksFo_step k l m hlt]
     refine hr.out.upd (by simp) ?_ ?_ ?_ ?_ ?_
     · intro q q0 q1 q2 q3
      rw [cell_off _ _ _ _ _ q3, cell_off _ _ _ _ _ q2, cell_off _ _ _ _ _ q1, cell_off _ _ _ _ _ q0]
     · rw [cell_off _ _ _ _ _ (by omega), cell_off _ _ _ _ _ (by omega), cell_off _ _ _ _ _ (by omega), cell_here _ _ _ _ (by rw [c0]; rfl)]
      first | (simp [mark1Fo]; done) | (simp [mark1Fo]; omega)
     · rw [cell_off _ _ _ _ _ (by omega), cell_off _ _ _ _ _ (by omega), cell_here _ _ _ _ (by rw [cell_off _ _ _ _ _ (by omega)]; rw [c1]; rfl)]
      first | (simp [mark1Fo]; done) | (simp [mark1Fo]; omega)
     · rw [cell_off _ _ _ _ _ (by omega), cell_here _ _ _ _ (by rw [cell_off _ _ _ _ _ (by omega)]; rw [cell_off _ _ _ _ _ (by omega)]; rw [c2]; rfl)]
      first | (simp [mark1Fo]; done) | (simp [mark1Fo]; omega)
     · rw [cell_here _ _ _ _ (by rw [cell_off _ _ _ _ _ (by omega)]; rw [cell_off _ _ _ _ _ (by omega)]; rw [cell_off _ _ _ _ _ (by omega)]; rw [c3]; rfl)]
      first | (simp [mark1Fo]; done) | (simp [mark1Fo]; omega)
    · show FreeFo _ _ _
     refine hf.out.upd ?_
     intro b' o' q e
     cases e
     rw [World.frozen?_setCell, World.frozen?_setCell, World.frozen?_setCell, World.frozen?_setCell]
    · exact (((((hkp.setCell (p := ⟨b, o + m * 4, none⟩) ⟨by omega, o, rfl⟩ _).setCell (p := ⟨b, o + m * 4 + 1, none⟩) ⟨by omega, o, rfl⟩ _).setCell (p := ⟨b, o + m * 4 + 2, none⟩) ⟨by omega, o, rfl⟩ _).setCell (p := ⟨b, o + m * 4 + 3, none⟩) ⟨by omega, o, rfl⟩ _))
   case measure => simp [intOf]; omega
  · have hkl : m = l.length := by omega
   subst hkl
   rw [List.drop_length, List.append_nil] at hr
   go_wp2
   go_ret
   exact ⟨rfl, hr.out, hkp⟩
set_option maxRecDepth 100000 in
set_option maxHeartbeats 4000000 in
theorem heldFo_laws (a : Option Addr) (cap n : Nat) (k : Nat) (w : World) (hrow : FoAt w a (marksFo k n)) (h1 : k + 4 * n ≤ 1099511627776) :
  Calls Tryz.prog 31 #[.slice a n cap, .int .i64 k] w fun e w' => e = .returned (.int .i64 ((k + 4 * n : Nat) : Int)) ∧ w' = w := by
 have hR := hid hrow
 clear hrow
 go_enter Tryz.func31, Tryz.ntmps31
 go_wp2
 go_loopw [1, 5] (fun s i wr => ∃ m : Nat, m ≤ n ∧ i = .int .i64 m ∧ s = .int .i64 ((k + 4 * m : Nat) : Int) ∧ wr = w)
  (fun _ i _ => n - (intOf i).toNat)
 case atStart => exact ⟨0, Nat.zero_le _, rfl, by simp, rfl⟩
 case round =>
  obtain ⟨m, hm, rfl, rfl, rfl⟩ := hrel
  by_cases hlt : m < n
  · have hl2 : m < (marksFo k n).length := by rw [marksFo_length]; exact hlt
   obtain ⟨b, o, rfl, hbw, c0, c1, c2, c3⟩ := hR.out m hl2
   rw [marksFo_at] at c0 c1 c2 c3
   have d0 : wr.cell? ⟨b, o + m * 4, none⟩ = some (.int .i64 ((k : Int) + 4 * (m : Int))) := by rw [c0]; first | (simp [mark1Fo]; done) | (simp [mark1Fo]; omega)
   have d1 : wr.cell? ⟨b, o + m * 4 + 1, none⟩ = some (.int .i64 ((k : Int) + 4 * (m : Int) + 1)) := by rw [c1]; first | (simp [mark1Fo]; done) | (simp [mark1Fo]; omega)
   have d2 : wr.cell? ⟨b, o + m * 4 + 2, none⟩ = some (.int .i64 ((k : Int) + 4 * (m : Int) + 1 + 1)) := by rw [c2]; first | (simp [mark1Fo]; done) | (simp [mark1Fo]; omega)
   have d3 : wr.cell? ⟨b, o + m * 4 + 3, none⟩ = some (.int .i64 ((k : Int) + 4 * (m : Int) + 1 + 1 + 1)) := by rw [c3]; first | (simp [mark1Fo]; done) | (simp [mark1Fo]; omega)
   clear c0 c1 c2 c3
   have hi0 : (0 : Int) ≤ (m : Int) := by omega
   have hi1 : (m : Int) < (n : Int) := by omega
   go_wp2
   go_roundw
   case rel => exact ⟨m + 1, by omega, by go_num, by go_num, by first | rfl | trivial⟩
   case measure => simp [intOf]; omega
  · have hkl : m = n := by omega
   subst hkl
   go_wp2
   go_ret
   exact ⟨rfl, by first | rfl | trivial⟩
def mark1Fu (k i : Nat) : FU := (((k + 3 * i : Nat) : Int), ((k + 3 * i + 1 : Nat) : Int), thirdB (k + 3 * i + 2))
def marksFu (k n : Nat) : List FU := (List.range n).map (mark1Fu k)
theorem marksFu_length (k n : Nat) : (marksFu k n).length = n := by simp [marksFu]
theorem marksFu_at (k n i : Nat) (h : i < (marksFu k n).length) : (marksFu k n)[i] = mark1Fu k i := by simp [marksFu]
theorem marksFu_step (k : Nat) (l : List FU) (i : Nat) (h : i < l.length) : (marksFu k i ++ l.drop i).set i (mark1Fu k i) = marksFu k (i + 1) ++ l.drop (i + 1) := by
 rw [List.set_append_right _ _ (by rw [marksFu_length]; omega), marksFu_length, Nat.sub_self]
 have e : l.drop i = l[i] :: l.drop (i + 1) := List.drop_eq_getElem_cons h
 rw [e, List.set_cons_zero]
 simp [marksFu, List.range_succ]
def FreeFu (w : World) (a : Option Addr) (n : Nat) : Prop := ∀ b o, a = some ⟨b, o, none⟩ → ∀ j, j < n * 3 → w.frozen? ⟨b, o + j, none⟩ = false
theorem FreeFu.upd {w w' : World} {a : Option Addr} {n : Nat} (h : FreeFu w a n) (hf : ∀ b o q, a = some ⟨b, o, none⟩ → w'.frozen? ⟨b, q, none⟩ = w.frozen? ⟨b, q, none⟩) : FreeFu w' a n :=
 fun b o e j hj => by rw [hf b o _ e]; exact h b o e j hj
theorem FuAt.upd {w w' : World} {b o : Nat} {l : List FU} {i : Nat} {x : FU} (h : FuAt w (some ⟨b, o, none⟩) l) (hs : w.heap.size ≤ w'.heap.size)
  (hfar : ∀ q, q ≠ o + i * 3 → q ≠ o + i * 3 + 1 → q ≠ o + i * 3 + 2 → w'.cell? ⟨b, q, none⟩ = w.cell? ⟨b, q, none⟩)
  (h0 : w'.cell? ⟨b, o + i * 3, none⟩ = some (.int .i64 x.1)) (h1 : w'.cell? ⟨b, o + i * 3 + 1, none⟩ = some (.int .i64 x.2.1)) (h2 : w'.cell? ⟨b, o + i * 3 + 2, none⟩ = some (.bool x.2.2)) :
  FuAt w' (some ⟨b, o, none⟩) (l.set i x) := by
 intro j hj
 have hj' : j < l.length := by simpa using hj
 obtain ⟨b', o', e, hlt, c0, c1, c2⟩ := h j hj'
 cases e
 refine ⟨b, o, rfl, Nat.lt_of_lt_of_le hlt hs, ?_⟩
 by_cases hij : i = j
 · subst hij
  rw [List.getElem_set_self]
  exact ⟨h0, h1, h2⟩
 · rw [List.getElem_set_ne hij]
  refine ⟨?_, ?_, ?_⟩
  · rw [hfar _ (by omega) (by omega) (by omega)]; exact c0
  · rw [hfar _ (by omega) (by omega) (by omega)]; exact c1
  · rw [hfar _ (by omega) (by omega) (by omega)]; exact c2
set_option maxRecDepth 100000 in
set_option maxHeartbeats 4000000 in
theorem markFu_laws (a : Option Addr) (cap n : Nat) (l : List FU) (hn : l.length = n) (k : Nat) (w : World) (hrow : FuAt w a l) (hfree : FreeFu w a n) (h1 : k + 3 * n ≤ 1099511627776) :
  Calls Tryz.prog 30 #[.slice a n cap, .int .i64 k] w fun e w' => e = .returned (.int .i64 ((k + 3 * n : Nat) : Int)) ∧ FuAt w' a (marksFu k n) ∧ KeepS (inBlk a n) w w' := by
 subst hn
 have hR := hid hrow
 have hF := hid hfree
 clear hrow hfree
 go_enter Tryz.func30, Tryz.ntmps30
 go_wp2
 go_loopw [1, 5] (fun s i wr => ∃ m : Nat, m ≤ l.length ∧ i = .int .i64 m ∧ s = .int .i64 ((k + 3 * m : Nat) : Int) ∧ Hid (FuAt wr a (marksFu k m ++ l.drop m)) ∧ Hid (FreeFu wr a l.length) ∧ KeepS (inBlk a l.length) w wr)
  (fun _ i _ => l.length - (intOf i).toNat)
 case atStart => exact ⟨0, Nat.zero_le _, rfl, by simp, by simpa [marksFu] using hR, hF, KeepS.refl _ _⟩
 case round =>
  obtain ⟨m, hm, rfl, rfl, hr, hf, hkp⟩ := hrel
  by_cases hlt : m < l.length
  · have hl2 : m < (marksFu k m ++ l.drop m).length := by rw [List.length_append, marksFu_length, List.length_drop]; omega
   obtain ⟨b, o, rfl, hbw, c0, c1, c2⟩ := hr.out m hl2
   generalize (marksFu k m ++ l.drop m)[m] = x at c0 c1 c2
   obtain ⟨x0, x1, x2⟩ := x
   dsimp only at c0 c1 c2
   have hi0 : (0 : Int) ≤ (m : Int) := by omega
   have hi1 : (m : Int) < (l.length : Int) := by omega
   have f0 := hf.out b o rfl (m * 3) (by omega)
   have f1 := hf.out b o rfl (m * 3 + 1) (by omega)
   have f2 := hf.out b o rfl (m * 3 + 2) (by omega)
   rw [← Nat.add_assoc] at f1 f2
   go_wp2
   go_roundw
   case rel =>
    refine ⟨m + 1, by omega, by go_num, by go_num, ?_, ?_, ?_⟩
    · show FuAt _ _ _
     rw [← marksFu_step k l m hlt]
     refine hr.out.upd (by simp) ?_ ?_ ?_ ?_
     · intro q q0 q1 q2
      rw [cell_off _ _ _ _ _ q2, cell_off _ _ _ _ _ q1, cell_off _ _ _ _ _ q0]
     · rw [cell_off _ _ _ _ _ (by omega), cell_off _ _ _ _ _ (by omega), cell_here _ _ _ _ (by rw [c0]; rfl)]
      first | (simp [mark1Fu]; done) | (simp [mark1Fu]; omega)
     · rw [cell_off _ _ _ _ _ (by omega), cell_here _ _ _ _ (by rw [cell_off _ _ _ _ _ (by omega)]; rw [c1]; rfl)]
      first | (simp [mark1Fu]; done) | (simp [mark1Fu]; omega)
     · rw [cell_here _ _ _ _ (by rw [cell_off _ _ _ _ _ (by omega)]; rw [cell_off _ _ _ _ _ (by omega)]; rw [c2]; rfl)]
      first | (simp [mark1Fu]; done) | (simp [mark1Fu]; omega) | (rw [show ((k : Int) + 3 * (m : Int) + 1 + 1) = ((k + 3 * m + 2 : Nat) : Int) from by omega, third_int]; rfl)
    · show FreeFu _ _ _
     refine hf.out.upd ?_
     intro b' o' q e
     cases e
     rw [World.frozen?_setCell, World.frozen?_setCell, World.frozen?_setCell]
    · exact ((((hkp.setCell (p := ⟨b, o + m * 3, none⟩) ⟨by omega, o, rfl⟩ _).setCell (p := ⟨b, o + m * 3 + 1, none⟩) ⟨by omega, o, rfl⟩ _).setCell (p := ⟨b, o + m * 3 + 2, none⟩) ⟨by omega, o, rfl⟩ _))
   case measure => simp [intOf]; omega
  · have hkl : m = l.length := by omega
   subst hkl
   rw [List.drop_length, List.append_nil] at hr
   go_wp2
   go_ret
   exact ⟨rfl, hr.out, hkp⟩
set_option maxRecDepth 100000 in
set_option maxHeartbeats 4000000 in
theorem heldFu_laws (a : Option Addr) (cap n : Nat) (k : Nat) (w : World) (hrow : FuAt w a (marksFu k n)) (h1 : k + 3 * n ≤ 1099511627776) :
  Calls Tryz.prog 32 #[.slice a n cap, .int .i64 k] w fun e w' => e = .returned (.int .i64 ((k + 3 * n : Nat) : Int)) ∧ w' = w := by
 have hR := hid hrow
 clear hrow
 go_enter Tryz.func32, Tryz.ntmps32
 go_wp2
 go_loopw [1, 5] (fun s i wr => ∃ m : Nat, m ≤ n ∧ i = .int .i64 m ∧ s = .int .i64 ((k + 3 * m : Nat) : Int) ∧ wr = w)
  (fun _ i _ => n - (intOf i).toNat)
 case atStart => exact ⟨0, Nat.zero_le _, rfl, by simp, rfl⟩
 case round =>
  obtain ⟨m, hm, rfl, rfl, rfl⟩ := hrel
  by_cases hlt : m < n
  · have hl2 : m < (marksFu k n).length := by rw [marksFu_length]; exact hlt
   obtain ⟨b, o, rfl, hbw, c0, c1, c2⟩ := hR.out m hl2
   rw [marksFu_at] at c0 c1 c2
   have d0 : wr.cell? ⟨b, o + m * 3, none⟩ = some (.int .i64 ((k : Int) + 3 * (m : Int))) := by rw [c0]; first | (simp [mark1Fu]; done) | (simp [mark1Fu]; omega)
   have d1 : wr.cell? ⟨b, o + m * 3 + 1, none⟩ = some (.int .i64 ((k : Int) + 3 * (m : Int) + 1)) := by rw [c1]; first | (simp [mark1Fu]; done) | (simp [mark1Fu]; omega)
   have d2 : wr.cell? ⟨b, o + m * 3 + 2, none⟩ = some (.bool ((((k : Int) + 3 * (m : Int) + 1 + 1)) % 3 == 0)) := by
    rw [c2]
    have e := third_int (k + 3 * m + 2)
    unfold mark1Fu
    dsimp only
    rw [← e]
    congr 4 <;> omega
   clear c0 c1 c2
   have hi0 : (0 : Int) ≤ (m : Int) := by omega
   have hi1 : (m : Int) < (n : Int) := by omega
   go_wp2
   go_roundw
   case rel => exact ⟨m + 1, by omega, by go_num, by go_num, by first | rfl | trivial⟩
   case measure => simp [intOf]; omega
  · have hkl : m = n := by omega
   subst hkl
   go_wp2
   go_ret
   exact ⟨rfl, by first | rfl | trivial⟩
theorem own_fo {w : World} {base n c : Nat} {oa : Option Addr} {O : List FO} (h : w.ownsRow base 75 4 (.slice oa n c) n (flatFo O)) (hn : O.length = n) : FoAt w oa O ∧ FreeFo w oa n := by
 subst hn
 rcases h.2 with ⟨e, e0⟩ | ⟨g', c', cur, e, _, hg, _⟩
 · exact ⟨fun i hi => by omega, fun b o _ j hj => by omega⟩
 · cases e
  exact ⟨ownFo h, fun b o e j _ => by cases e; simp [World.frozen?, hg]⟩
theorem own_fu {w : World} {base n c : Nat} {ua : Option Addr} {U : List FU} (h : w.ownsRow base 51 3 (.slice ua n c) n (flatFu U)) (hn : U.length = n) : FuAt w ua U ∧ FreeFu w ua n := by
 subst hn
 rcases h.2 with ⟨e, e0⟩ | ⟨g', c', cur, e, _, hg, _⟩
 · exact ⟨fun i hi => by omega, fun b o _ j hj => by omega⟩
 · cases e
  exact ⟨ownFu h, fun b o e j _ => by cases e; simp [World.frozen?, hg]⟩
structure OutF (w : World) (base : Nat) (oa : Option Addr) (on oc : Nat) (ua : Option Addr) (un uc : Nat) (O : List FO) (U : List FU) : Prop where
 lenO : O.length = on
 lenU : U.length = un
 ops : w.ownsRow base 75 4 (.slice oa on oc) on (flatFo O)
 outs : w.ownsRow base 51 3 (.slice ua un uc) un (flatFu U)
def blkF (oa : Option Addr) (on oc : Nat) (ua : Option Addr) (un uc : Nat) (b : Nat) : Prop := (Value.slice oa on oc).ownBlock = some b ∨ (Value.slice ua un uc).ownBlock = some b
theorem OutF.below {w w' : World} {base on oc un uc : Nat} {oa ua : Option Addr} {O : List FO} {U : List FU} (h : OutF w base oa on oc ua un uc O U) (hb : Below w.heap.size w w') : OutF w' base oa on oc ua un uc O U := ⟨h.lenO, h.lenU, own_below h.ops hb, own_below h.outs hb⟩
theorem OutF.keepS {P : Nat → Prop} {w w' : World} {base on oc un uc : Nat} {oa ua : Option Addr} {O : List FO} {U : List FU} (h : OutF w base oa on oc ua un uc O U) (hk : KeepS P w w') (hP : ∀ b, base ≤ b → b < w.heap.size → ¬ P b) : OutF w' base oa on oc ua un uc O U :=
 ⟨h.lenO, h.lenU, own_keepF h.ops hk (fun g e => hP g (h.ops.lt g e).1 (h.ops.lt g e).2), own_keepF h.outs hk (fun g e => hP g (h.outs.lt g e).1 (h.outs.lt g e).2)⟩
theorem OutF.blk {w : World} {base on oc un uc : Nat} {oa ua : Option Addr} {O : List FO} {U : List FU} (h : OutF w base oa on oc ua un uc O U) (b : Nat) (hb : blkF oa on oc ua un uc b) : base ≤ b ∧ b < w.heap.size :=
 hb.elim (fun e => h.ops.lt b e) (fun e => h.outs.lt b e)
def MarkF (w : World) (oa : Option Addr) (on : Nat) (ua : Option Addr) (un k : Nat) : Prop := FoAt w oa (marksFo k on) ∧ FuAt w ua (marksFu (k + 4 * on) un)
theorem MarkF.below {w w' : World} {oa ua : Option Addr} {on un k : Nat} (h : MarkF w oa on ua un k) (hb : Below w.heap.size w w') : MarkF w' oa on ua un k := ⟨h.1.below hb, h.2.below hb⟩
set_option maxRecDepth 100000 in
set_option maxHeartbeats 4000000 in
theorem markfast_laws (oa ua : Option Addr) (on oc un uc base k r : Nat) (O : List FO) (U : List FU) (hr : k + 4 * on + 3 * un = r) (w : World) (h : OutF w base oa on oc ua un uc O U) (h1 : r ≤ 1099511627776) :
  Calls Tryz.prog 15 #[.agg #[.slice oa on oc, .slice ua un uc], .int .i64 k] w fun e w' => e = .returned (.int .i64 (r : Int)) ∧ MarkF w' oa on ua un k ∧ KeepS (blkF oa on oc ua un uc) w w' := by
 subst hr
 obtain ⟨E0, hE0⟩ : ∃ z, w.alloc (.cells #[.slice oa on oc, .slice ua un uc] 29) = z := ⟨_, rfl⟩
 have hA : Below w.heap.size w E0 := by rw [← hE0]; exact (Below.refl _ _).alloc (Nat.le_refl _) _
 have HX := hid (p := E0.heap[w.heap.size]? = some (.cells #[.slice oa on oc, .slice ua un uc] 29)) (by rw [← hE0]; exact _root_.Go.heap_alloc_new w _)
 obtain ⟨p0, p1⟩ := cells2 HX.out
 have H := hid (h.below hA)
 have H0 := hid h
 clear h
 go_enter Tryz.func15, Tryz.ntmps15
 go_wp2_with fail
 obtain ⟨r1, r2⟩ := own_fo H.out.ops H.out.lenO
 refine (markFo_laws oa oc on O H.out.lenO k _ r1 r2 (by omega)).mono ?_
 rintro e w1 ⟨rfl, m1, K1⟩
 have hi : ∀ b, inBlk oa on b → (Value.slice oa on oc).ownBlock = some b := fun b hb => by
  obtain ⟨_, o, e⟩ := hb
  subst e
  rcases H.out.ops.2 with ⟨e, _⟩ | ⟨g', c', cur, e, _⟩
  · cases e
  · cases e; rfl
 have hi2 : ∀ b, inBlk ua un b → (Value.slice ua un uc).ownBlock = some b := fun b hb => by
  obtain ⟨_, o, e⟩ := hb
  subst e
  rcases H.out.outs.2 with ⟨e, _⟩ | ⟨g', c', cur, e, _⟩
  · cases e
  · cases e; rfl
 have hxn : w1.heap[w.heap.size]? = E0.heap[w.heap.size]? := K1.block _ (lt_of_heapN HX.out) (fun hb => by
  have := (H0.out.ops.lt _ (hi _ hb)).2
  omega)
 obtain ⟨q0, q1⟩ := cells2 (hxn.trans HX.out)
 have U1 := hid (own_keepF H.out.outs K1 (fun g e hb => by
  rcases own_apartF H.out.outs H.out.ops (by decide) with e3 | e3
  · rw [e3] at e; cases e
  · exact e3 (e.trans (hi g hb).symm)))
 have M1 := hid m1
 have HK1 := hid K1
 obtain ⟨s1, s2⟩ := own_fu U1.out H.out.lenU
 clear m1 K1 hxn p0 p1 hE0
 go_wp2_with fail
 have hkk : ((k : Int) + 4 * (on : Int)) = ((k + 4 * on : Nat) : Int) := by omega
 (try rw [hkk])
 refine (markFu_laws ua uc un U H.out.lenU (k + 4 * on) _ s1 s2 (by omega)).mono ?_
 rintro e w2 ⟨rfl, m2, K2⟩
 have M2 := hid m2
 have FIN := hid (p := MarkF w2 oa on ua un k ∧ KeepS (blkF oa on oc ua un uc) w w2) (by
  refine ⟨⟨?_, M2.out⟩, ((KeepS.ofBelow hA).trans (HK1.out.mono (fun g e => .inl (hi g e)))).trans (K2.mono (fun g e => .inr (hi2 g e)))⟩
  refine M1.out.keepS K2 (fun g o e hb => ?_)
  subst e
  rcases H.out.ops.2 with ⟨e, _⟩ | ⟨g', c', cur, e, _⟩
  · cases e
  · cases e
   rcases own_apartF H.out.outs H.out.ops (by decide) with e3 | e3
   · rw [hi2 _ hb] at e3; cases e3
   · exact e3 (hi2 _ hb))
 clear m2 K2 hkk
 go_wp2
 go_ret
 exact ⟨by congr 3; try omega, FIN.out⟩
set_option maxRecDepth 100000 in
set_option maxHeartbeats 4000000 in
theorem heldfast_laws (oa ua : Option Addr) (on oc un uc k r : Nat) (hr : k + 4 * on + 3 * un = r) (w : World) (h : MarkF w oa on ua un k) (h1 : r ≤ 1099511627776) :
  Calls Tryz.prog 16 #[.agg #[.slice oa on oc, .slice ua un uc], .int .i64 k] w fun e w' => e = .returned (.int .i64 (r : Int)) ∧ Below w.heap.size w w' := by
 subst hr
 have hA : Below w.heap.size w (w.alloc (.cells #[.slice oa on oc, .slice ua un uc] 29)) := (Below.refl _ _).alloc (Nat.le_refl _) _
 have H := hid (h.below hA)
 clear h
 have hp1 : ¬ (k : Int) + 4 * (on : Int) < 0 := by omega
 have hp2 : ¬ (k : Int) + 4 * (on : Int) + 3 * (un : Int) < 0 := by omega
 go_enter Tryz.func16, Tryz.ntmps16
 go_wp2_with fail
 refine (heldFo_laws oa oc on k _ H.out.1 (by omega)).mono ?_
 rintro e w1 ⟨rfl, rfl⟩
 go_wp2_with fail
 have hkk : ((k : Int) + 4 * (on : Int)) = ((k + 4 * on : Nat) : Int) := by omega
 (try rw [hkk])
 refine (heldFu_laws ua uc un (k + 4 * on) _ H.out.2 (by omega)).mono ?_
 rintro e w2 ⟨rfl, rfl⟩
 clear hkk
 go_wp2
 go_ret
 exact ⟨by congr 3; try omega, hA⟩
end Go.Proofs.YtjjkdbmjloolaaaGreatDoor
namespace Go.Proofs.YtjjkdbmjloolaaaGreatDoor
open Go.ChangeShapes Go.WideShapes Go.ChangeAt Go.RowKit
theorem sivN_left {s : SV} {x : Int} (h : 0 ≤ leftV s x) : (sivN s : Int) ≤ 5 + 5 * (x - leftV s x) := by
 unfold leftV at h ⊢
 by_cases h1 : x < (s.name.size : Int)
 · rw [if_pos h1] at h; omega
 rw [if_neg h1] at h ⊢
 by_cases h2 : leftOfS s.names (x - s.name.size) < 0
 · rw [if_pos h2] at h; omega
 rw [if_neg h2] at h ⊢
 by_cases h3 : leftOfItm s.sum (leftOfS s.names (x - s.name.size)) < 0
 · rw [if_pos h3] at h; omega
 rw [if_neg h3] at h ⊢
 unfold leftOfItm at h3 ⊢
 split at h3
 · omega
 rename_i h4
 rw [if_neg h4]
 unfold leftOfS at h2 h4 ⊢
 split at h2
 · omega
 rename_i h5
 rw [if_neg h5] at h4 ⊢
 unfold sivN
 omega
theorem offV_leftVs {T : List SV} {x : Int} (h : 0 ≤ leftVs T x) : (((T.map sivN).sum : Nat) : Int) ≤ 5 * T.length + 5 * (x - leftVs T x) := by
 induction T generalizing x with
 | nil => simp [leftVs]
 | cons t T ih =>
  unfold leftVs at h ⊢
  split at h
  · omega
  rename_i hn
  rw [if_neg hn]
  have h1 := sivN_left (s := t) (x := x) (by omega)
  have h2 := ih h
  rw [List.map_cons, List.sum_cons, List.length_cons]
  omega
theorem offV_leftVS {T : List SV} {x : Int} (h1 : x ≤ 1048576) (h : 0 ≤ leftVS T x) : offV T T.length ≤ 8388608 := by
 unfold leftVS at h
 split at h
 · omega
 rename_i hn
 have := offV_leftVs (T := T) (x := x - T.length) h
 unfold offV
 rw [List.take_length]
 omega
theorem own_keepO {w w' : World} {base base' g c : Nat} {e : TypeId} {size n : Nat} {xs : List Value} (h : w.ownsRow base e size (.slice (some ⟨g, 0, none⟩) n c) n xs) (hb : base' ≤ base) (hk : w'.heap[g]? = w.heap[g]?) : w'.ownsRow base' e size (.slice (some ⟨g, 0, none⟩) n c) n xs := by
 refine ⟨h.1, ?_⟩
 rcases h.2 with h' | ⟨g', cap, cur, h', hbg, hg, hr⟩
 · exact .inl h'
 · refine .inr ⟨g', cap, cur, h', by omega, ?_, hr⟩
  simp only [Value.slice.injEq, Option.some.injEq, Addr.mk.injEq, and_true, true_and] at h'
  obtain ⟨rfl, _⟩ := h'
  rw [hk]; exact hg
def Own (w : World) (base g n c : Nat) (D : List ByteArray) : Prop := D.length = n ∧ w.ownsRow base 9 1 (.slice (some ⟨g, 0, none⟩) n c) n (strV D)
theorem Own.strs {w : World} {base g n c : Nat} {D : List ByteArray} (h : Own w base g n c D) : StrsAt w (some ⟨g, 0, none⟩) D := by
 obtain ⟨rfl, h⟩ := h
 exact own_strs h
theorem Own.free {w : World} {base g n c : Nat} {D : List ByteArray} (h : Own w base g n c D) : FreeS w (some ⟨g, 0, none⟩) D.length := by
 obtain ⟨rfl, h⟩ := h
 exact own_freeS h
theorem Own.below {w w' : World} {base g n c : Nat} {D : List ByteArray} (h : Own w base g n c D) (hb : Below w.heap.size w w') : Own w' base g n c D := ⟨h.1, own_below h.2 hb⟩
theorem Own.lo {w : World} {base g n c : Nat} {D : List ByteArray} (h : Own w base g n c D) : base ≤ g := (h.2.lt g rfl).1
theorem Own.keepS {P : Nat → Prop} {w w' : World} {base g n c : Nat} {D : List ByteArray} (h : Own w base g n c D) (hk : KeepS P w w') (hP : ∀ b, P b → b < base) : Own w' base g n c D := by
 have hg := h.2.lt g rfl
 exact ⟨h.1, own_keepO h.2 (Nat.le_refl _) (hk.block g hg.2 (fun hp => by have := hP g hp; omega))⟩
theorem belowP {P : Nat → Prop} {B : Nat} {a w w' : World} (h : Below B a w) (hk : KeepS P w w') (hB : B ≤ w.heap.size) (hP : ∀ b, P b → B ≤ b) : Below B a w' :=
 ⟨hk.os.trans h.os, hk.tape.trans h.tape, hk.output.trans h.output, Nat.le_trans h.size hk.size, fun i hi => (hk.block i (by omega) (fun hp => by have := hP i hp; omega)).trans (h.block i hi)⟩
end Go.Proofs.YtjjkdbmjloolaaaGreatDoor
