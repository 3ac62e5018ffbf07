/-
  A part of the proof: Walk4, Base, Lists1, Lists2, Lists3, Lists4, Lists5, Lists6.
-/
import Derived.Test.YtjjkdbmjloolaaaGreatDoorPart1
import Derived.Deep.QuietTactic
import Derived.BigQuiet
import Derived.Deep.RegionHeld3
import Derived.Deep.DeepCutAuto
import Derived.Deep.DrawnRows
import Derived.Laws.IdiomStrings
import Derived.Laws.Concat

namespace Go.Proofs.YtjjkdbmjloolaaaGreatDoor
open Go.ChangeShapes Go.WideShapes Go.ChangeAt Go.RowKit
theorem cell0 (w : World) :
  Calls Tryz.prog 173 #[.agg #[]] w fun e w' => e = .returned (.agg #[.int .i64 0, .int .i64 0, .string ⟨#[]⟩]) ∧ Below w.heap.size w w' := by
 go_enter Tryz.func173, Tryz.ntmps173
 go_wp2
 go_returns
 exact ⟨rfl, by go_grown⟩
theorem cell1 (n : Int) (w : World) :
  Calls Tryz.prog 180 #[.agg #[.int .i64 n]] w fun e w' => e = .returned (.agg #[.int .i64 1, .int .i64 n, .string ⟨#[]⟩]) ∧ Below w.heap.size w w' := by
 go_enter Tryz.func180, Tryz.ntmps180
 go_wp2
 go_returns
 exact ⟨rfl, by go_grown⟩
theorem cell2 (t : ByteArray) (w : World) :
  Calls Tryz.prog 178 #[.agg #[.string t]] w fun e w' => e = .returned (.agg #[.int .i64 2, .int .i64 0, .string t]) ∧ Below w.heap.size w w' := by
 go_enter Tryz.func178, Tryz.ntmps178
 go_wp2
 go_returns
 exact ⟨rfl, by go_grown⟩
theorem cell3 (n : Int) (w : World) :
  Calls Tryz.prog 184 #[.agg #[.int .i64 n]] w fun e w' => e = .returned (.agg #[.int .i64 3, .int .i64 n, .string ⟨#[]⟩]) ∧ Below w.heap.size w w' := by
 go_enter Tryz.func184, Tryz.ntmps184
 go_wp2
 go_returns
 exact ⟨rfl, by go_grown⟩
theorem shapeOk1b (n : Int) (b : Bool) (hg : numB n = b) (w : World) :
  Calls Tryz.prog 158 #[.iface 251 (.agg #[.int .i64 n])] w fun e w' => e = .returned (.bool b) ∧ Below w.heap.size w w' := by
 subst hg; exact shapeOk1 n w
theorem shapeOk2b (t : ByteArray) (b : Bool) (hg : (lets t.data.toList && decide ((t.size : Int) ≤ 12)) = b) (w : World) (ht : t.size ≤ maxLen) :
  Calls Tryz.prog 158 #[.iface 253 (.agg #[.string t])] w fun e w' => e = .returned (.bool b) ∧ Below w.heap.size w w' := by
 subst hg; exact shapeOk2 t w ht
theorem shapeOk3b (n : Int) (b : Bool) (hg : (decide (0 ≤ n) && decide (n ≤ 1)) = b) (w : World) :
  Calls Tryz.prog 158 #[.iface 254 (.agg #[.int .i64 n])] w fun e w' => e = .returned (.bool b) ∧ Below w.heap.size w w' := by
 subst hg; exact shapeOk3 n w
theorem toList_empty : (⟨#[]⟩ : ByteArray).toList = [] := by rw [ByteArray.toList_eq]
theorem same0 (n : Int) (t : ByteArray) : okB 0 n t = sameB 0 0 ⟨#[]⟩ 0 n t := by
 rw [Bool.eq_iff_iff, sameB_eq]
 unfold okB
 rw [if_pos rfl, Bool.and_eq_true, beq_iff_eq, List.isEmpty_iff]
 exact ⟨fun ⟨h1, h2⟩ => ⟨rfl, h1.symm, bytes_eq (by rw [h2, toList_empty])⟩, fun ⟨_, h1, h2⟩ => ⟨h1.symm, by rw [← h2, toList_empty]⟩⟩
theorem same1 (n : Int) (t : ByteArray) (k : Int) : t.toList.isEmpty = sameB k n ⟨#[]⟩ k n t := by
 rw [Bool.eq_iff_iff, sameB_eq, List.isEmpty_iff]
 exact ⟨fun h2 => ⟨rfl, rfl, bytes_eq (by rw [h2, toList_empty])⟩, fun ⟨_, _, h2⟩ => by rw [← h2, toList_empty]⟩
theorem same2 (n : Int) (t : ByteArray) (k : Int) : (n == 0) = sameB k 0 t k n t := by
 rw [Bool.eq_iff_iff, sameB_eq, beq_iff_eq]
 exact ⟨fun h => ⟨rfl, h.symm, rfl⟩, fun ⟨_, h, _⟩ => h.symm⟩
set_option maxHeartbeats 400000 in
theorem ok_impl0 (n : Int) (t : ByteArray) (w : World) :
  Calls Tryz.prog 136 #[.agg #[.int .i64 0, .int .i64 n, .string t]] w fun e w' => e = .returned (.bool (okB 0 n t)) ∧ Below w.heap.size w w' := by
 have hq := run_eql
 rw [show okB 0 n t = sameB 0 0 ⟨#[]⟩ 0 n t from same0 n t]
 go_enter Tryz.func136, Tryz.ntmps136
 go_wp2_with fail
 refine (shape0 _ _ _).mono ?_
 rintro e w1 ⟨rfl, hb1⟩
 obtain ⟨a1, b1, c1, d1⟩ := box3 hb1
 go_wp2_with fail
 first | go_region_with (first
  | (go_at_call 158; refine (shapeOk0 _).mono ?_; rintro e w2 ⟨rfl, hb2⟩; obtain ⟨a2, b2, c2, d2⟩ := later3 hb2 ⟨a1, b1, c1, d1⟩)
  | (go_at_call 173; refine (cell0 _).mono ?_; rintro e w3 ⟨rfl, hb3⟩; obtain ⟨a3, b3, c3, d3⟩ := later3 hb3 ⟨a2, b2, c2, d2⟩)) | fail
 all_goals go_wp2
 all_goals go_ret
 all_goals exact ⟨rfl, chain (chain (chainA hb1).drew hb2) hb3⟩
set_option maxHeartbeats 400000 in
theorem ok_impl1 (n : Int) (t : ByteArray) (w : World) :
  Calls Tryz.prog 136 #[.agg #[.int .i64 1, .int .i64 n, .string t]] w fun e w' => e = .returned (.bool (okB 1 n t)) ∧ Below w.heap.size w w' := by
 have hq := run_eql
 cases hg : numB n
 · rw [show okB 1 n t = false from by simp only [okB, hg]; simp]
  go_enter Tryz.func136, Tryz.ntmps136
  go_wp2_with fail
  refine (shape1 _ _ _).mono ?_
  rintro e w1 ⟨rfl, hb1⟩
  obtain ⟨a1, b1, c1, d1⟩ := box3 hb1
  go_wp2_with fail
  first | go_region_with (first
   | (go_at_call 158; refine (shapeOk1b _ _ hg _).mono ?_; rintro e w2 ⟨rfl, hb2⟩; obtain ⟨a2, b2, c2, d2⟩ := later3 hb2 ⟨a1, b1, c1, d1⟩)
   | (go_at_call 180; refine (cell1 _ _).mono ?_; rintro e w3 ⟨rfl, hb3⟩; obtain ⟨a3, b3, c3, d3⟩ := later3 hb3 ⟨a2, b2, c2, d2⟩)) | fail
  all_goals go_wp2
  all_goals go_ret
  all_goals exact ⟨rfl, chain (chainA hb1).drew hb2⟩
 · rw [show okB 1 n t = sameB 1 n ⟨#[]⟩ 1 n t from by rw [← same1]; simp [okB, hg]]
  go_enter Tryz.func136, Tryz.ntmps136
  go_wp2_with fail
  refine (shape1 _ _ _).mono ?_
  rintro e w1 ⟨rfl, hb1⟩
  obtain ⟨a1, b1, c1, d1⟩ := box3 hb1
  go_wp2_with fail
  first | go_region_with (first
   | (go_at_call 158; refine (shapeOk1b _ _ hg _).mono ?_; rintro e w2 ⟨rfl, hb2⟩; obtain ⟨a2, b2, c2, d2⟩ := later3 hb2 ⟨a1, b1, c1, d1⟩)
   | (go_at_call 180; refine (cell1 _ _).mono ?_; rintro e w3 ⟨rfl, hb3⟩; obtain ⟨a3, b3, c3, d3⟩ := later3 hb3 ⟨a2, b2, c2, d2⟩)) | fail
  all_goals go_wp2
  all_goals go_ret
  all_goals exact ⟨rfl, chain (chain (chainA hb1).drew hb2) hb3⟩
set_option maxHeartbeats 400000 in
theorem ok_impl2 (n : Int) (t : ByteArray) (w : World) (ht : t.size ≤ maxLen) :
  Calls Tryz.prog 136 #[.agg #[.int .i64 2, .int .i64 n, .string t]] w fun e w' => e = .returned (.bool (okB 2 n t)) ∧ Below w.heap.size w w' := by
 have hq := run_eql
 cases hg : (lets t.data.toList && decide ((t.size : Int) ≤ 12))
 · rw [show okB 2 n t = false from by simp only [okB, hg]; simp]
  go_enter Tryz.func136, Tryz.ntmps136
  go_wp2_with fail
  refine (shape2 _ _ _).mono ?_
  rintro e w1 ⟨rfl, hb1⟩
  obtain ⟨a1, b1, c1, d1⟩ := box3 hb1
  go_wp2_with fail
  first | go_region_with (first
   | (go_at_call 158; refine (shapeOk2b _ _ hg _ ht).mono ?_; rintro e w2 ⟨rfl, hb2⟩; obtain ⟨a2, b2, c2, d2⟩ := later3 hb2 ⟨a1, b1, c1, d1⟩)
   | (go_at_call 178; refine (cell2 _ _).mono ?_; rintro e w3 ⟨rfl, hb3⟩; obtain ⟨a3, b3, c3, d3⟩ := later3 hb3 ⟨a2, b2, c2, d2⟩)) | fail
  all_goals go_wp2
  all_goals go_ret
  all_goals exact ⟨rfl, chain (chainA hb1).drew hb2⟩
 · rw [show okB 2 n t = sameB 2 0 t 2 n t from by rw [← same2]; simp only [okB, hg]; simp]
  go_enter Tryz.func136, Tryz.ntmps136
  go_wp2_with fail
  refine (shape2 _ _ _).mono ?_
  rintro e w1 ⟨rfl, hb1⟩
  obtain ⟨a1, b1, c1, d1⟩ := box3 hb1
  go_wp2_with fail
  first | go_region_with (first
   | (go_at_call 158; refine (shapeOk2b _ _ hg _ ht).mono ?_; rintro e w2 ⟨rfl, hb2⟩; obtain ⟨a2, b2, c2, d2⟩ := later3 hb2 ⟨a1, b1, c1, d1⟩)
   | (go_at_call 178; refine (cell2 _ _).mono ?_; rintro e w3 ⟨rfl, hb3⟩; obtain ⟨a3, b3, c3, d3⟩ := later3 hb3 ⟨a2, b2, c2, d2⟩)) | fail
  all_goals go_wp2
  all_goals go_ret
  all_goals exact ⟨rfl, chain (chain (chainA hb1).drew hb2) hb3⟩
set_option maxHeartbeats 400000 in
theorem ok_impl3 (n : Int) (t : ByteArray) (w : World) :
  Calls Tryz.prog 136 #[.agg #[.int .i64 3, .int .i64 n, .string t]] w fun e w' => e = .returned (.bool (okB 3 n t)) ∧ Below w.heap.size w w' := by
 have hq := run_eql
 cases hg : (decide (0 ≤ n) && decide (n ≤ 1))
 · rw [show okB 3 n t = false from by simp only [okB, hg]; simp]
  go_enter Tryz.func136, Tryz.ntmps136
  go_wp2_with fail
  refine (shape3 _ _ _).mono ?_
  rintro e w1 ⟨rfl, hb1⟩
  obtain ⟨a1, b1, c1, d1⟩ := box3 hb1
  go_wp2_with fail
  first | go_region_with (first
   | (go_at_call 158; refine (shapeOk3b _ _ hg _).mono ?_; rintro e w2 ⟨rfl, hb2⟩; obtain ⟨a2, b2, c2, d2⟩ := later3 hb2 ⟨a1, b1, c1, d1⟩)
   | (go_at_call 184; refine (cell3 _ _).mono ?_; rintro e w3 ⟨rfl, hb3⟩; obtain ⟨a3, b3, c3, d3⟩ := later3 hb3 ⟨a2, b2, c2, d2⟩)) | fail
  all_goals go_wp2
  all_goals go_ret
  all_goals exact ⟨rfl, chain (chainA hb1).drew hb2⟩
 · rw [show okB 3 n t = sameB 3 n ⟨#[]⟩ 3 n t from by rw [← same1]; simp only [okB, hg]; simp]
  go_enter Tryz.func136, Tryz.ntmps136
  go_wp2_with fail
  refine (shape3 _ _ _).mono ?_
  rintro e w1 ⟨rfl, hb1⟩
  obtain ⟨a1, b1, c1, d1⟩ := box3 hb1
  go_wp2_with fail
  first | go_region_with (first
   | (go_at_call 158; refine (shapeOk3b _ _ hg _).mono ?_; rintro e w2 ⟨rfl, hb2⟩; obtain ⟨a2, b2, c2, d2⟩ := later3 hb2 ⟨a1, b1, c1, d1⟩)
   | (go_at_call 184; refine (cell3 _ _).mono ?_; rintro e w3 ⟨rfl, hb3⟩; obtain ⟨a3, b3, c3, d3⟩ := later3 hb3 ⟨a2, b2, c2, d2⟩)) | fail
  all_goals go_wp2
  all_goals go_ret
  all_goals exact ⟨rfl, chain (chain (chainA hb1).drew hb2) hb3⟩
set_option maxHeartbeats 400000 in
theorem ok_impl4 (k n : Int) (t : ByteArray) (w : World) (k0 : k ≠ 0) (k1 : k ≠ 1) (k2 : k ≠ 2) (k3 : k ≠ 3) :
  Calls Tryz.prog 136 #[.agg #[.int .i64 k, .int .i64 n, .string t]] w fun e w' => e = .returned (.bool (okB k n t)) ∧ Below w.heap.size w w' := by
 rw [show okB k n t = false from by simp [okB, k0, k1, k2, k3]]
 go_enter Tryz.func136, Tryz.ntmps136
 go_wp2_with fail
 refine (shape4 _ _ _ _ k0 k1 k2 k3).mono ?_
 rintro e w1 ⟨rfl, hb1⟩
 obtain ⟨a1, b1, c1, d1⟩ := box3 hb1
 go_wp2_with fail
 first | go_region_with (go_at_call 158; refine (shapeOk4 _).mono ?_; rintro e w2 ⟨rfl, hb2⟩; obtain ⟨a2, b2, c2, d2⟩ := later3 hb2 ⟨a1, b1, c1, d1⟩) | fail
 all_goals go_wp2
 all_goals go_ret
 all_goals exact ⟨rfl, chain (chainA hb1).drew hb2⟩
theorem ok_impl (k n : Int) (t : ByteArray) (w : World) (ht : t.size ≤ maxLen) :
  Calls Tryz.prog 136 #[.agg #[.int .i64 k, .int .i64 n, .string t]] w fun e w' => e = .returned (.bool (okB k n t)) ∧ Below w.heap.size w w' := by
 by_cases k0 : k = 0
 · subst k0; exact ok_impl0 n t w
 by_cases k1 : k = 1
 · subst k1; exact ok_impl1 n t w
 by_cases k2 : k = 2
 · subst k2; exact ok_impl2 n t w ht
 by_cases k3 : k = 3
 · subst k3; exact ok_impl3 n t w
 · exact ok_impl4 k n t w k0 k1 k2 k3
theorem ok_implb (k n : Int) (t : ByteArray) (b : Bool) (hb : okB k n t = b) (w : World) (ht : t.size ≤ maxLen) :
  Calls Tryz.prog 136 #[.agg #[.int .i64 k, .int .i64 n, .string t]] w fun e w' => e = .returned (.bool b) ∧ Below w.heap.size w w' := by
 subst hb; exact ok_impl k n t w ht
theorem ok_specb (k n : Int) (t : ByteArray) (b : Bool) (hb : okB k n t = b) (w : World) (ht : t.size ≤ maxLen) :
  Calls Tryz.prog 115 #[.agg #[.int .i64 k, .int .i64 n, .string t]] w fun e w' => e = .returned (.bool b) ∧ Below w.heap.size w w' := by
 subst hb; exact ok_spec k n t w ht
theorem eq_laws (a b : Int) (s : ByteArray) (w : World) :
  Calls Tryz.prog 89 #[.agg #[.int .i64 a, .int .i64 b, .string s], .agg #[.int .i64 a, .int .i64 b, .string s]] w fun e w' => e = .returned (.bool true) ∧ Below w.heap.size w w' := by
 go_enter Tryz.func89, Tryz.ntmps89
 go_wp2
 all_goals go_ret
 all_goals exact ⟨rfl, by go_grown⟩
end Go.Proofs.YtjjkdbmjloolaaaGreatDoor
namespace Go.Proofs.YtjjkdbmjloolaaaGreatDoor
open Go.ChangeShapes Go.WideShapes Go.ChangeAt Go.RowKit
attribute [local go_sem ↓] Go.wp_at_zero Go.wp_at_succ
abbrev CT := Int × Int × ByteArray
def RowAt (w : World) (a : Option Addr) (l : List CT) : Prop :=
 ∀ j (h : j < l.length), ∃ b o, a = some ⟨b, o, none⟩ ∧ b < w.heap.size ∧ w.cell? ⟨b, o + j * 3, none⟩ = some (.int .i64 l[j].1) ∧ w.cell? ⟨b, o + j * 3 + 1, none⟩ = some (.int .i64 l[j].2.1) ∧ w.cell? ⟨b, o + j * 3 + 2, none⟩ = some (.string l[j].2.2)
theorem RowAt.below {w w' : World} {a : Option Addr} {l : List CT} (h : RowAt w a l) (hb : Below w.heap.size w w') : RowAt w' a l := by
 intro j hj
 obtain ⟨b, o, ha, hlt, h0, h1, h2⟩ := h j hj
 refine ⟨b, o, ha, Nat.lt_of_lt_of_le hlt hb.size, ?_, ?_, ?_⟩
 · rw [hb.cell (p := ⟨b, _, none⟩) hlt]; exact h0
 · rw [hb.cell (p := ⟨b, _, none⟩) hlt]; exact h1
 · rw [hb.cell (p := ⟨b, _, none⟩) hlt]; exact h2
def Fit (l : List CT) : Prop := ∀ j (h : j < l.length), (l[j]).2.2.size ≤ maxLen
def flat : List CT → List Value
 | [] => []
 | x :: l => .int .i64 x.1 :: .int .i64 x.2.1 :: .string x.2.2 :: flat l
theorem flat_length (l : List CT) : (flat l).length = l.length * 3 := by
 induction l with
 | nil => rfl
 | cons x l ih => simp only [flat, List.length_cons, ih]; omega
theorem flat_at (l : List CT) (j : Nat) (h : j < l.length) : (flat l)[j * 3]? = some (.int .i64 l[j].1) ∧ (flat l)[j * 3 + 1]? = some (.int .i64 l[j].2.1) ∧ (flat l)[j * 3 + 2]? = some (.string l[j].2.2) := by
 induction l generalizing j with
 | nil => simp at h
 | cons x l ih =>
  cases j with
  | zero => exact ⟨rfl, rfl, rfl⟩
  | succ j =>
   have := ih j (by simpa using h)
   have e0 : (j + 1) * 3 = j * 3 + 1 + 1 + 1 := by omega
   have e1 : (j + 1) * 3 + 1 = j * 3 + 1 + 1 + 1 + 1 := by omega
   have e2 : (j + 1) * 3 + 2 = j * 3 + 2 + 1 + 1 + 1 := by omega
   rw [e1, e2, e0]
   simpa only [flat, List.getElem?_cons_succ, List.getElem_cons_succ] using this
theorem own_below {w w' : World} {base : Nat} {e : TypeId} {size : Nat} {v : Value} {n : Nat} {xs : List Value} (h : w.ownsRow base e size v n xs) (hb : Below w.heap.size w w') : w'.ownsRow base e size v n xs := by
 refine ⟨h.1, ?_⟩
 rcases h.2 with h' | ⟨g, cap, cur, h', hbg, hg, hr⟩
 · exact .inl h'
 · refine .inr ⟨g, cap, cur, h', hbg, ?_, hr⟩
  have hlt : g < w.heap.size := by
   by_cases hl : g < w.heap.size
   · exact hl
   · rw [Array.getElem?_eq_none (by omega)] at hg; cases hg
  rw [hb.block g hlt]; exact hg
theorem own_row {w : World} {base g cap : Nat} {e : TypeId} {l : List CT} (h : w.ownsRow base e 3 (.slice (some ⟨g, 0, none⟩) l.length cap) l.length (flat l)) : RowAt w (some ⟨g, 0, none⟩) l := by
 have hlt : g < w.heap.size := by
  rcases h.2 with ⟨h', _⟩ | ⟨g', cap', cur, h', _, hg, _⟩
  · simp at h'
  · simp only [Value.slice.injEq, Option.some.injEq, Addr.mk.injEq, and_true, true_and] at h'
   obtain ⟨rfl, rfl⟩ := h'
   by_cases hl : g < w.heap.size
   · exact hl
   · rw [Array.getElem?_eq_none (by omega)] at hg; cases hg
 intro j hj
 obtain ⟨f0, f1, f2⟩ := flat_at l j hj
 refine ⟨g, 0, rfl, hlt, ?_, ?_, ?_⟩
 · rw [show 0 + j * 3 = j * 3 by omega, h.cellAt _ (by omega)]; exact f0
 · rw [show 0 + j * 3 + 1 = j * 3 + 1 by omega, h.cellAt _ (by omega)]; exact f1
 · rw [show 0 + j * 3 + 2 = j * 3 + 2 by omega, h.cellAt _ (by omega)]; exact f2
def RowsAt (w : World) (a : Option Addr) (L : List (List CT)) : Prop :=
 ∀ i (h : i < L.length), ∃ b o ai ci, a = some ⟨b, o, none⟩ ∧ b < w.heap.size ∧ w.cell? ⟨b, o + i, none⟩ = some (.slice ai L[i].length ci) ∧ RowAt w ai L[i] ∧ Fit L[i] ∧ L[i].length ≤ maxLen ∧ (ai = none → ci = 0)
theorem RowsAt.below {w w' : World} {a : Option Addr} {L : List (List CT)} (h : RowsAt w a L) (hb : Below w.heap.size w w') : RowsAt w' a L := by
 intro i hi
 obtain ⟨b, o, ai, ci, ha, hlt, h0, h1, h2⟩ := h i hi
 refine ⟨b, o, ai, ci, ha, Nat.lt_of_lt_of_le hlt hb.size, ?_, h1.below hb, h2⟩
 rw [hb.cell (p := ⟨b, _, none⟩) hlt]; exact h0
def dig (k : Nat) : UInt8 := UInt8.ofNat (48 + k % 10)
theorem dig_nat (k : Nat) : (dig k).toNat = 48 + k % 10 := by unfold dig; rw [UInt8.toNat_ofNat']; omega
def digs : Nat → Nat → ByteArray → ByteArray
 | 0, _, out => out
 | f + 1, k, out => if k = 0 then out else digs f (k / 10) (⟨#[dig k]⟩ ++ out)
def mt (k : Nat) : ByteArray := ⟨#[109]⟩ ++ digs k k ⟨#[]⟩
theorem digs_step (m : Nat) (out : ByteArray) (h : 0 < m) : digs m m out = digs (m / 10) (m / 10) (⟨#[dig m]⟩ ++ out) := by
 have fuel : ∀ (k f g : Nat) (out : ByteArray), k ≤ f → k ≤ g → digs f k out = digs g k out := by
  intro k
  induction k using Nat.strongRecOn with
  | _ k ih =>
   intro f g out hf hg
   cases f with
   | zero =>
    have : k = 0 := by omega
    subst this
    cases g <;> simp [digs]
   | succ f =>
    cases g with
    | zero =>
     have : k = 0 := by omega
     subst this
     simp [digs]
    | succ g =>
     by_cases hk : k = 0
     · simp [digs, hk]
     · rw [digs, digs, if_neg hk, if_neg hk]
      exact ih (k / 10) (by omega) f g _ (by omega) (by omega)
 cases m with
 | zero => omega
 | succ m =>
  rw [digs, if_neg (by omega)]
  exact fuel _ _ _ _ (by omega) (by omega)
set_option maxRecDepth 100000 in
set_option maxHeartbeats 1000000 in
theorem text_laws (k : Nat) (w : World) (h0 : 0 < k) (h1 : k ≤ 1099511627776) :
  Calls Tryz.prog 27 #[.int .i64 k] w fun e w' => e = .returned (.string (mt k)) ∧ Below w.heap.size w w' := by
 go_enter Tryz.func27, Tryz.ntmps27
 go_wp2
 go_loopw [0, 3] (fun s o wr => ∃ (m : Nat) (out : ByteArray), s = .int .i64 m ∧ o = .string out ∧ m ≤ k ∧ out.size + m ≤ k ∧ digs m m out = digs k k ⟨#[]⟩ ∧ Below w.heap.size w wr)
  (fun s _ _ => (intOf s).toNat)
 case atStart => exact ⟨k, ⟨#[]⟩, rfl, rfl, Nat.le_refl _, by show 0 + k ≤ k; omega, rfl, Below.refl _ _⟩
 case round =>
  obtain ⟨m, out, rfl, rfl, hmk, hsz, hd, hb⟩ := hrel
  by_cases hm : 0 < m
  · have hcv : (convert 93 9 (.slice (some ⟨wr.heap.size, 0, none⟩) 1 1)).run Tryz.prog (wr.alloc (.cells #[.int .u8 (48 + (m : Int) % 10)] 5)) = .ok (.string ⟨#[dig m]⟩) (wr.alloc (.cells #[.int .u8 (48 + (m : Int) % 10)] 5)) := by
    refine run_convert_bytes_back _ _ _ 5 _ 1 [dig m] Tryz.underlying93 Tryz.underlying5 Tryz.underlying9 ?_
    intro j hj
    have hj0 : j = 0 := by simpa using hj
    subst hj0
    have hn := dig_nat m
    simp only [List.getElem_cons_zero, hn]
    simp [Addr.add, go_sem]
   have hadd : ∀ (x : UInt8) (w : World), (Op.stringOp .add ⟨#[x]⟩ out).run Tryz.prog w = .ok (.string (⟨#[x]⟩ ++ out)) w := fun x w => run_string_add_sum w _ _ (by show 1 + out.size ≤ 9223372036854775807; omega)
   have hbs := hb.size
   go_wp2
   go_roundw
   case rel =>
    refine ⟨m / 10, ⟨#[dig m]⟩ ++ out, by go_num, rfl, by omega, ?_, ?_, by go_grown⟩
    · rw [ByteArray.size_append]; show 1 + out.size + m / 10 ≤ k; omega
    · rw [← digs_step m out hm]; exact hd
   case measure => simp [intOf]; omega
  · have hm0 : m = 0 := by omega
   subst hm0
   have hadd : ∀ (w : World), (Op.stringOp .add ⟨#[109]⟩ out).run Tryz.prog w = .ok (.string (⟨#[109]⟩ ++ out)) w := fun w => run_string_add_sum w _ _ (by show 1 + out.size ≤ 9223372036854775807; omega)
   go_wp2
   go_ret
   refine ⟨?_, hb⟩
   rw [mt, ← hd]; rfl
theorem text_lawsN (k : Nat) (n : Int) (hn : n = (k : Int)) (w : World) (h0 : 0 < k) (h1 : k ≤ 1099511627776) :
  Calls Tryz.prog 27 #[.int .i64 n] w fun e w' => e = .returned (.string (mt k)) ∧ Below w.heap.size w w' := by
 subst hn; exact text_laws k w h0 h1
def mark1 (k i : Nat) : CT := (((k + 3 * i : Nat) : Int), ((k + 3 * i + 1 : Nat) : Int), mt (k + 3 * i + 2))
def marks (k n : Nat) : List CT := (List.range n).map (mark1 k)
theorem marks_length (k n : Nat) : (marks k n).length = n := by simp [marks]
def Free (w : World) (a : Option Addr) (n : Nat) : Prop := ∀ b o, a = some ⟨b, o, none⟩ → ∀ j, j < n * 3 → w.frozen? ⟨b, o + j, none⟩ = false
def inBlk (a : Option Addr) (n b : Nat) : Prop := 0 < n ∧ ∃ o, a = some ⟨b, o, none⟩
theorem RowAt.upd {w w' : World} {b o : Nat} {l : List CT} {i : Nat} {x : CT} (h : RowAt w (some ⟨b, o, none⟩) l) (hs : w.heap.size ≤ w'.heap.size)
  (hfar : ∀ q, q ≠ o + i * 3 → q ≠ o + i * 3 + 1 → q ≠ o + i * 3 + 2 → w'.cell? ⟨b, q, none⟩ = w.cell? ⟨b, q, none⟩)
  (h0 : w'.cell? ⟨b, o + i * 3, none⟩ = some (.int .i64 x.1)) (h1 : w'.cell? ⟨b, o + i * 3 + 1, none⟩ = some (.int .i64 x.2.1)) (h2 : w'.cell? ⟨b, o + i * 3 + 2, none⟩ = some (.string x.2.2)) :
  RowAt w' (some ⟨b, o, none⟩) (l.set i x) := by
 intro j hj
 have hj' : j < l.length := by simpa using hj
 obtain ⟨b', o', e, hlt, c0, c1, c2⟩ := h j hj'
 cases e
 refine ⟨b, o, rfl, Nat.lt_of_lt_of_le hlt hs, ?_⟩
 by_cases hij : i = j
 · subst hij
  rw [List.getElem_set_self]
  exact ⟨h0, h1, h2⟩
 · rw [List.getElem_set_ne hij]
  refine ⟨?_, ?_, ?_⟩
  · rw [hfar _ (by omega) (by omega) (by omega)]; exact c0
  · rw [hfar _ (by omega) (by omega) (by omega)]; exact c1
  · rw [hfar _ (by omega) (by omega) (by omega)]; exact c2
theorem Free.upd {w w' : World} {a : Option Addr} {n : Nat} (h : Free w a n) (hf : ∀ b o q, a = some ⟨b, o, none⟩ → w'.frozen? ⟨b, q, none⟩ = w.frozen? ⟨b, q, none⟩) : Free w' a n :=
 fun b o e j hj => by rw [hf b o _ e]; exact h b o e j hj
end Go.Proofs.YtjjkdbmjloolaaaGreatDoor
