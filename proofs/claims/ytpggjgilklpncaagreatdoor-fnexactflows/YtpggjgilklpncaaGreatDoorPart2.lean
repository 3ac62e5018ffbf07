/-
  A part of the proof: Walk4, Base, Lists1, Lists2, Strs1.
-/
import Derived.Test.YtpggjgilklpncaaGreatDoorPart1
import Derived.Deep.QuietTactic
import Derived.BigQuiet
import Derived.Deep.RegionHeld3
import Derived.Deep.DeepCutAuto
import Derived.Deep.DrawnRows

/-
  The program's question whether a cell is right answers as it should, at every cell.
-/
namespace Go.Proofs.YtpggjgilklpncaaGreatDoor
open Go.ChangeShapes Go.WideShapes Go.ChangeAt Go.RowKit

theorem cell0 (w : World) :
    Calls Tryz.prog 68 #[.agg #[]] w fun e w' => e = .returned (.agg #[.int .i64 0, .int .i64 0, .string ⟨#[]⟩]) ∧ Below w.heap.size w w' := by
  go_enter Tryz.func68, Tryz.ntmps68
  go_wp2
  go_returns
  exact ⟨rfl, by go_grown⟩

theorem cell1 (n : Int) (w : World) :
    Calls Tryz.prog 75 #[.agg #[.int .i64 n]] w fun e w' => e = .returned (.agg #[.int .i64 1, .int .i64 n, .string ⟨#[]⟩]) ∧ Below w.heap.size w w' := by
  go_enter Tryz.func75, Tryz.ntmps75
  go_wp2
  go_returns
  exact ⟨rfl, by go_grown⟩

theorem cell2 (t : ByteArray) (w : World) :
    Calls Tryz.prog 73 #[.agg #[.string t]] w fun e w' => e = .returned (.agg #[.int .i64 2, .int .i64 0, .string t]) ∧ Below w.heap.size w w' := by
  go_enter Tryz.func73, Tryz.ntmps73
  go_wp2
  go_returns
  exact ⟨rfl, by go_grown⟩

theorem cell3 (n : Int) (w : World) :
    Calls Tryz.prog 79 #[.agg #[.int .i64 n]] w fun e w' => e = .returned (.agg #[.int .i64 3, .int .i64 n, .string ⟨#[]⟩]) ∧ Below w.heap.size w w' := by
  go_enter Tryz.func79, Tryz.ntmps79
  go_wp2
  go_returns
  exact ⟨rfl, by go_grown⟩

theorem shapeOk1b (n : Int) (b : Bool) (hg : numB n = b) (w : World) :
    Calls Tryz.prog 78 #[.iface 104 (.agg #[.int .i64 n])] w fun e w' => e = .returned (.bool b) ∧ Below w.heap.size w w' := by
  subst hg; exact shapeOk1 n w
theorem shapeOk2b (t : ByteArray) (b : Bool) (hg : (lets t.data.toList && decide ((t.size : Int) ≤ 12)) = b) (w : World) (ht : t.size ≤ maxLen) :
    Calls Tryz.prog 78 #[.iface 98 (.agg #[.string t])] w fun e w' => e = .returned (.bool b) ∧ Below w.heap.size w w' := by
  subst hg; exact shapeOk2 t w ht
theorem shapeOk3b (n : Int) (b : Bool) (hg : (decide (0 ≤ n) && decide (n ≤ 1)) = b) (w : World) :
    Calls Tryz.prog 78 #[.iface 110 (.agg #[.int .i64 n])] w fun e w' => e = .returned (.bool b) ∧ Below w.heap.size w w' := by
  subst hg; exact shapeOk3 n w

theorem toList_empty : (⟨#[]⟩ : ByteArray).toList = [] := by rw [ByteArray.toList_eq]
theorem same0 (n : Int) (t : ByteArray) : okB 0 n t = sameB 0 0 ⟨#[]⟩ 0 n t := by
  rw [Bool.eq_iff_iff, sameB_eq]
  unfold okB
  rw [if_pos rfl, Bool.and_eq_true, beq_iff_eq, List.isEmpty_iff]
  exact ⟨fun ⟨h1, h2⟩ => ⟨rfl, h1.symm, bytes_eq (by rw [h2, toList_empty])⟩, fun ⟨_, h1, h2⟩ => ⟨h1.symm, by rw [← h2, toList_empty]⟩⟩
theorem same1 (n : Int) (t : ByteArray) (k : Int) : t.toList.isEmpty = sameB k n ⟨#[]⟩ k n t := by
  rw [Bool.eq_iff_iff, sameB_eq, List.isEmpty_iff]
  exact ⟨fun h2 => ⟨rfl, rfl, bytes_eq (by rw [h2, toList_empty])⟩, fun ⟨_, _, h2⟩ => by rw [← h2, toList_empty]⟩
theorem same2 (n : Int) (t : ByteArray) (k : Int) : (n == 0) = sameB k 0 t k n t := by
  rw [Bool.eq_iff_iff, sameB_eq, beq_iff_eq]
  exact ⟨fun h => ⟨rfl, h.symm, rfl⟩, fun ⟨_, h, _⟩ => h.symm⟩

set_option maxHeartbeats 400000 in
theorem ok_impl0 (n : Int) (t : ByteArray) (w : World) :
    Calls Tryz.prog 67 #[.agg #[.int .i64 0, .int .i64 n, .string t]] w fun e w' => e = .returned (.bool (okB 0 n t)) ∧ Below w.heap.size w w' := by
  have hq := run_eql
  rw [show okB 0 n t = sameB 0 0 ⟨#[]⟩ 0 n t from same0 n t]
  go_enter Tryz.func67, Tryz.ntmps67
  go_wp2_with fail
  refine (shape0 _ _ _).mono ?_
  rintro e w1 ⟨rfl, hb1⟩
  obtain ⟨a1, b1, c1, d1⟩ := box3 hb1
  go_wp2_with fail
  first | go_region_with (first
    | (go_at_call 78; refine (shapeOk0 _).mono ?_; rintro e w2 ⟨rfl, hb2⟩; obtain ⟨a2, b2, c2, d2⟩ := later3 hb2 ⟨a1, b1, c1, d1⟩)
    | (go_at_call 68; refine (cell0 _).mono ?_; rintro e w3 ⟨rfl, hb3⟩; obtain ⟨a3, b3, c3, d3⟩ := later3 hb3 ⟨a2, b2, c2, d2⟩)) | fail
  all_goals go_wp2
  all_goals go_ret
  all_goals exact ⟨rfl, chain (chain (chainA hb1).drew hb2) hb3⟩

set_option maxHeartbeats 400000 in
theorem ok_impl1 (n : Int) (t : ByteArray) (w : World) :
    Calls Tryz.prog 67 #[.agg #[.int .i64 1, .int .i64 n, .string t]] w fun e w' => e = .returned (.bool (okB 1 n t)) ∧ Below w.heap.size w w' := by
  have hq := run_eql
  cases hg : numB n
  · rw [show okB 1 n t = false from by simp only [okB, hg]; simp]
    go_enter Tryz.func67, Tryz.ntmps67
    go_wp2_with fail
    refine (shape1 _ _ _).mono ?_
    rintro e w1 ⟨rfl, hb1⟩
    obtain ⟨a1, b1, c1, d1⟩ := box3 hb1
    go_wp2_with fail
    first | go_region_with (first
      | (go_at_call 78; refine (shapeOk1b _ _ hg _).mono ?_; rintro e w2 ⟨rfl, hb2⟩; obtain ⟨a2, b2, c2, d2⟩ := later3 hb2 ⟨a1, b1, c1, d1⟩)
      | (go_at_call 75; refine (cell1 _ _).mono ?_; rintro e w3 ⟨rfl, hb3⟩; obtain ⟨a3, b3, c3, d3⟩ := later3 hb3 ⟨a2, b2, c2, d2⟩)) | fail
    all_goals go_wp2
    all_goals go_ret
    all_goals exact ⟨rfl, chain (chainA hb1).drew hb2⟩
  · rw [show okB 1 n t = sameB 1 n ⟨#[]⟩ 1 n t from by rw [← same1]; simp [okB, hg]]
    go_enter Tryz.func67, Tryz.ntmps67
    go_wp2_with fail
    refine (shape1 _ _ _).mono ?_
    rintro e w1 ⟨rfl, hb1⟩
    obtain ⟨a1, b1, c1, d1⟩ := box3 hb1
    go_wp2_with fail
    first | go_region_with (first
      | (go_at_call 78; refine (shapeOk1b _ _ hg _).mono ?_; rintro e w2 ⟨rfl, hb2⟩; obtain ⟨a2, b2, c2, d2⟩ := later3 hb2 ⟨a1, b1, c1, d1⟩)
      | (go_at_call 75; refine (cell1 _ _).mono ?_; rintro e w3 ⟨rfl, hb3⟩; obtain ⟨a3, b3, c3, d3⟩ := later3 hb3 ⟨a2, b2, c2, d2⟩)) | fail
    all_goals go_wp2
    all_goals go_ret
    all_goals exact ⟨rfl, chain (chain (chainA hb1).drew hb2) hb3⟩

set_option maxHeartbeats 400000 in
theorem ok_impl2 (n : Int) (t : ByteArray) (w : World) (ht : t.size ≤ maxLen) :
    Calls Tryz.prog 67 #[.agg #[.int .i64 2, .int .i64 n, .string t]] w fun e w' => e = .returned (.bool (okB 2 n t)) ∧ Below w.heap.size w w' := by
  have hq := run_eql
  cases hg : (lets t.data.toList && decide ((t.size : Int) ≤ 12))
  · rw [show okB 2 n t = false from by simp only [okB, hg]; simp]
    go_enter Tryz.func67, Tryz.ntmps67
    go_wp2_with fail
    refine (shape2 _ _ _).mono ?_
    rintro e w1 ⟨rfl, hb1⟩
    obtain ⟨a1, b1, c1, d1⟩ := box3 hb1
    go_wp2_with fail
    first | go_region_with (first
      | (go_at_call 78; refine (shapeOk2b _ _ hg _ ht).mono ?_; rintro e w2 ⟨rfl, hb2⟩; obtain ⟨a2, b2, c2, d2⟩ := later3 hb2 ⟨a1, b1, c1, d1⟩)
      | (go_at_call 73; refine (cell2 _ _).mono ?_; rintro e w3 ⟨rfl, hb3⟩; obtain ⟨a3, b3, c3, d3⟩ := later3 hb3 ⟨a2, b2, c2, d2⟩)) | fail
    all_goals go_wp2
    all_goals go_ret
    all_goals exact ⟨rfl, chain (chainA hb1).drew hb2⟩
  · rw [show okB 2 n t = sameB 2 0 t 2 n t from by rw [← same2]; simp only [okB, hg]; simp]
    go_enter Tryz.func67, Tryz.ntmps67
    go_wp2_with fail
    refine (shape2 _ _ _).mono ?_
    rintro e w1 ⟨rfl, hb1⟩
    obtain ⟨a1, b1, c1, d1⟩ := box3 hb1
    go_wp2_with fail
    first | go_region_with (first
      | (go_at_call 78; refine (shapeOk2b _ _ hg _ ht).mono ?_; rintro e w2 ⟨rfl, hb2⟩; obtain ⟨a2, b2, c2, d2⟩ := later3 hb2 ⟨a1, b1, c1, d1⟩)
      | (go_at_call 73; refine (cell2 _ _).mono ?_; rintro e w3 ⟨rfl, hb3⟩; obtain ⟨a3, b3, c3, d3⟩ := later3 hb3 ⟨a2, b2, c2, d2⟩)) | fail
    all_goals go_wp2
    all_goals go_ret
    all_goals exact ⟨rfl, chain (chain (chainA hb1).drew hb2) hb3⟩

set_option maxHeartbeats 400000 in
theorem ok_impl3 (n : Int) (t : ByteArray) (w : World) :
    Calls Tryz.prog 67 #[.agg #[.int .i64 3, .int .i64 n, .string t]] w fun e w' => e = .returned (.bool (okB 3 n t)) ∧ Below w.heap.size w w' := by
  have hq := run_eql
  cases hg : (decide (0 ≤ n) && decide (n ≤ 1))
  · rw [show okB 3 n t = false from by simp only [okB, hg]; simp]
    go_enter Tryz.func67, Tryz.ntmps67
    go_wp2_with fail
    refine (shape3 _ _ _).mono ?_
    rintro e w1 ⟨rfl, hb1⟩
    obtain ⟨a1, b1, c1, d1⟩ := box3 hb1
    go_wp2_with fail
    first | go_region_with (first
      | (go_at_call 78; refine (shapeOk3b _ _ hg _).mono ?_; rintro e w2 ⟨rfl, hb2⟩; obtain ⟨a2, b2, c2, d2⟩ := later3 hb2 ⟨a1, b1, c1, d1⟩)
      | (go_at_call 79; refine (cell3 _ _).mono ?_; rintro e w3 ⟨rfl, hb3⟩; obtain ⟨a3, b3, c3, d3⟩ := later3 hb3 ⟨a2, b2, c2, d2⟩)) | fail
    all_goals go_wp2
    all_goals go_ret
    all_goals exact ⟨rfl, chain (chainA hb1).drew hb2⟩
  · rw [show okB 3 n t = sameB 3 n ⟨#[]⟩ 3 n t from by rw [← same1]; simp only [okB, hg]; simp]
    go_enter Tryz.func67, Tryz.ntmps67
    go_wp2_with fail
    refine (shape3 _ _ _).mono ?_
    rintro e w1 ⟨rfl, hb1⟩
    obtain ⟨a1, b1, c1, d1⟩ := box3 hb1
    go_wp2_with fail
    first | go_region_with (first
      | (go_at_call 78; refine (shapeOk3b _ _ hg _).mono ?_; rintro e w2 ⟨rfl, hb2⟩; obtain ⟨a2, b2, c2, d2⟩ := later3 hb2 ⟨a1, b1, c1, d1⟩)
      | (go_at_call 79; refine (cell3 _ _).mono ?_; rintro e w3 ⟨rfl, hb3⟩; obtain ⟨a3, b3, c3, d3⟩ := later3 hb3 ⟨a2, b2, c2, d2⟩)) | fail
    all_goals go_wp2
    all_goals go_ret
    all_goals exact ⟨rfl, chain (chain (chainA hb1).drew hb2) hb3⟩

set_option maxHeartbeats 400000 in
theorem ok_impl4 (k n : Int) (t : ByteArray) (w : World) (k0 : k ≠ 0) (k1 : k ≠ 1) (k2 : k ≠ 2) (k3 : k ≠ 3) :
    Calls Tryz.prog 67 #[.agg #[.int .i64 k, .int .i64 n, .string t]] w fun e w' => e = .returned (.bool (okB k n t)) ∧ Below w.heap.size w w' := by
  rw [show okB k n t = false from by simp [okB, k0, k1, k2, k3]]
  go_enter Tryz.func67, Tryz.ntmps67
  go_wp2_with fail
  refine (shape4 _ _ _ _ k0 k1 k2 k3).mono ?_
  rintro e w1 ⟨rfl, hb1⟩
  obtain ⟨a1, b1, c1, d1⟩ := box3 hb1
  go_wp2_with fail
  first | go_region_with (go_at_call 78; refine (shapeOk4 _).mono ?_; rintro e w2 ⟨rfl, hb2⟩; obtain ⟨a2, b2, c2, d2⟩ := later3 hb2 ⟨a1, b1, c1, d1⟩) | fail
  all_goals go_wp2
  all_goals go_ret
  all_goals exact ⟨rfl, chain (chainA hb1).drew hb2⟩

theorem ok_impl (k n : Int) (t : ByteArray) (w : World) (ht : t.size ≤ maxLen) :
    Calls Tryz.prog 67 #[.agg #[.int .i64 k, .int .i64 n, .string t]] w fun e w' => e = .returned (.bool (okB k n t)) ∧ Below w.heap.size w w' := by
  by_cases k0 : k = 0
  · subst k0; exact ok_impl0 n t w
  by_cases k1 : k = 1
  · subst k1; exact ok_impl1 n t w
  by_cases k2 : k = 2
  · subst k2; exact ok_impl2 n t w ht
  by_cases k3 : k = 3
  · subst k3; exact ok_impl3 n t w
  · exact ok_impl4 k n t w k0 k1 k2 k3

end Go.Proofs.YtpggjgilklpncaaGreatDoor

/-
  What every walk over cells uses: both questions whether a cell is right with the answer as a letter, new blocks in later worlds, cells written and read again.
-/
namespace Go.Proofs.YtpggjgilklpncaaGreatDoor
open Go.ChangeShapes Go.WideShapes Go.ChangeAt Go.RowKit

theorem ok_implb (k n : Int) (t : ByteArray) (b : Bool) (hb : okB k n t = b) (w : World) (ht : t.size ≤ maxLen) :
    Calls Tryz.prog 67 #[.agg #[.int .i64 k, .int .i64 n, .string t]] w fun e w' => e = .returned (.bool b) ∧ Below w.heap.size w w' := by
  subst hb; exact ok_impl k n t w ht

theorem ok_specb (k n : Int) (t : ByteArray) (b : Bool) (hb : okB k n t = b) (w : World) (ht : t.size ≤ maxLen) :
    Calls Tryz.prog 55 #[.agg #[.int .i64 k, .int .i64 n, .string t]] w fun e w' => e = .returned (.bool b) ∧ Below w.heap.size w w' := by
  subst hb; exact ok_spec k n t w ht

theorem eq_laws (a b : Int) (s : ByteArray) (w : World) :
    Calls Tryz.prog 44 #[.agg #[.int .i64 a, .int .i64 b, .string s], .agg #[.int .i64 a, .int .i64 b, .string s]] w fun e w' => e = .returned (.bool true) ∧ Below w.heap.size w w' := by
  go_enter Tryz.func44, Tryz.ntmps44
  go_wp2
  all_goals go_ret
  all_goals exact ⟨rfl, by go_grown⟩

end Go.Proofs.YtpggjgilklpncaaGreatDoor

/-
  Lists of cells: how a slice of cells lies in memory, and the contract of the law's helper that measures one.
-/
namespace Go.Proofs.YtpggjgilklpncaaGreatDoor
open Go.ChangeShapes Go.WideShapes Go.ChangeAt Go.RowKit
attribute [local go_sem ↓] Go.wp_at_zero Go.wp_at_succ

/-- A cell: kind, number, text. -/
abbrev CT := Int × Int × ByteArray
/-- The cells of a slice lie where it says. -/
def RowAt (w : World) (a : Option Addr) (l : List CT) : Prop :=
  ∀ j (h : j < l.length), ∃ b o, a = some ⟨b, o, none⟩ ∧ b < w.heap.size ∧ w.cell? ⟨b, o + j * 3, none⟩ = some (.int .i64 l[j].1) ∧ w.cell? ⟨b, o + j * 3 + 1, none⟩ = some (.int .i64 l[j].2.1) ∧ w.cell? ⟨b, o + j * 3 + 2, none⟩ = some (.string l[j].2.2)
theorem RowAt.below {w w' : World} {a : Option Addr} {l : List CT} (h : RowAt w a l) (hb : Below w.heap.size w w') : RowAt w' a l := by
  intro j hj
  obtain ⟨b, o, ha, hlt, h0, h1, h2⟩ := h j hj
  refine ⟨b, o, ha, Nat.lt_of_lt_of_le hlt hb.size, ?_, ?_, ?_⟩
  · rw [hb.cell (p := ⟨b, _, none⟩) hlt]; exact h0
  · rw [hb.cell (p := ⟨b, _, none⟩) hlt]; exact h1
  · rw [hb.cell (p := ⟨b, _, none⟩) hlt]; exact h2
/-- No text is longer than a text can be. -/
def Fit (l : List CT) : Prop := ∀ j (h : j < l.length), (l[j]).2.2.size ≤ maxLen
end Go.Proofs.YtpggjgilklpncaaGreatDoor

/-
  Lists of cells in new memory: the contract of the law's helper that takes a list over.
-/
namespace Go.Proofs.YtpggjgilklpncaaGreatDoor
open Go.ChangeShapes Go.WideShapes Go.ChangeAt Go.RowKit
attribute [local go_sem ↓] Go.wp_at_zero Go.wp_at_succ

theorem own_below {w w' : World} {base : Nat} {e : TypeId} {size : Nat} {v : Value} {n : Nat} {xs : List Value} (h : w.ownsRow base e size v n xs) (hb : Below w.heap.size w w') : w'.ownsRow base e size v n xs := by
  refine ⟨h.1, ?_⟩
  rcases h.2 with h' | ⟨g, cap, cur, h', hbg, hg, hr⟩
  · exact .inl h'
  · refine .inr ⟨g, cap, cur, h', hbg, ?_, hr⟩
    have hlt : g < w.heap.size := by
      by_cases hl : g < w.heap.size
      · exact hl
      · rw [Array.getElem?_eq_none (by omega)] at hg; cases hg
    rw [hb.block g hlt]; exact hg

end Go.Proofs.YtpggjgilklpncaaGreatDoor

/-
  Lists of texts: how a slice of texts lies in memory, and the contracts of the law's helpers that measure one, take one over and hold two against each other.
-/
namespace Go.Proofs.YtpggjgilklpncaaGreatDoor
open Go.ChangeShapes Go.WideShapes Go.ChangeAt Go.RowKit
attribute [local go_sem ↓] Go.wp_at_zero Go.wp_at_succ

/-- The texts of a slice lie where it says. -/
def StrsAt (w : World) (a : Option Addr) (l : List ByteArray) : Prop :=
  ∀ j (h : j < l.length), ∃ b o, a = some ⟨b, o, none⟩ ∧ b < w.heap.size ∧ w.cell? ⟨b, o + j, none⟩ = some (.string l[j])
theorem StrsAt.below {w w' : World} {a : Option Addr} {l : List ByteArray} (h : StrsAt w a l) (hb : Below w.heap.size w w') : StrsAt w' a l := by
  intro j hj
  obtain ⟨b, o, ha, hlt, h0⟩ := h j hj
  exact ⟨b, o, ha, Nat.lt_of_lt_of_le hlt hb.size, by rw [hb.cell (p := ⟨b, _, none⟩) hlt]; exact h0⟩
def FitS (l : List ByteArray) : Prop := ∀ j (h : j < l.length), (l[j]).size ≤ maxLen
def weightS (l : List ByteArray) : Nat := (l.map (·.size)).sum
theorem weightS_take (l : List ByteArray) (k : Nat) (h : k < l.length) : weightS (l.take (k + 1)) = weightS (l.take k) + (l[k]).size := by
  unfold weightS
  rw [List.take_succ_eq_append_getElem h, List.map_append, List.sum_append]; simp
theorem weightS_le (l : List ByteArray) (k : Nat) : weightS (l.take k) ≤ weightS l := by
  unfold weightS
  conv => rhs; rw [← List.take_append_drop k l, List.map_append, List.sum_append]
  omega
def strV (l : List ByteArray) : List Value := l.map Value.string
theorem strV_length (l : List ByteArray) : (strV l).length = l.length := List.length_map _
theorem strV_step (l : List ByteArray) (k : Nat) (h : k < l.length) (z : List Value) (hz : z.length = l.length) :
    (strV (l.take k) ++ z.drop k).set k (.string l[k]) = strV (l.take (k + 1)) ++ z.drop (k + 1) := by
  have hl : (strV (l.take k)).length = k := by rw [strV_length, List.length_take]; omega
  obtain ⟨a, r, hr⟩ : ∃ a r, z.drop k = a :: r := by
    have hd : (z.drop k).length ≥ 1 := by rw [List.length_drop]; omega
    match hm : z.drop k, hd with
    | a :: r, _ => exact ⟨a, r, rfl⟩
  have hr1 : z.drop (k + 1) = r := by rw [← List.drop_drop, hr]; rfl
  rw [List.take_succ_eq_append_getElem h, hr, hr1]
  rw [List.set_append_right _ _ (by omega), hl, Nat.sub_self, List.set_cons_zero, show strV (l.take k ++ [l[k]]) = strV (l.take k) ++ [.string l[k]] from List.map_append, List.append_assoc]
  rfl
theorem own_strs {w : World} {base g cap : Nat} {e : TypeId} {l : List ByteArray} (h : w.ownsRow base e 1 (.slice (some ⟨g, 0, none⟩) l.length cap) l.length (strV l)) : StrsAt w (some ⟨g, 0, none⟩) l := by
  have hlt : g < w.heap.size := (h.lt g rfl).2
  intro j hj
  refine ⟨g, 0, rfl, hlt, ?_⟩
  rw [Nat.zero_add, h.cellAt _ (by omega)]
  unfold strV
  rw [List.getElem?_map, List.getElem?_eq_getElem hj]; rfl

/-- What is left of a measure behind a list; -1 where it does not last. -/
def leftOfS (l : List ByteArray) (left : Int) : Int := if left < (l.length : Int) + (weightS l : Int) then -1 else left - l.length - weightS l

set_option maxHeartbeats 1000000 in
theorem szstr_laws (a : Option Addr) (cap : Nat) (l : List ByteArray) (left : Int) (w : World) (hrow : StrsAt w a l) (hfit : FitS l) (hm : l.length ≤ maxLen) (h0 : 0 ≤ left) (h1 : left ≤ 1048576) :
    Calls Tryz.prog 17 #[.slice a l.length cap, .int .i64 left] w fun e w' => e = .returned (.int .i64 (leftOfS l left)) ∧ Below w.heap.size w w' := by
  have hR : Hid (StrsAt w a l) := hrow
  have hF : Hid (FitS l) := hfit
  clear hrow hfit
  by_cases hlen : left < (l.length : Int)
  · have hneg : left - (l.length : Int) < 0 := by omega
    rw [show leftOfS l left = -1 from if_pos (by omega)]
    unfold maxLen at hm
    go_enter Tryz.func17, Tryz.ntmps17
    go_wp2
    go_ret
    exact ⟨rfl, Below.refl _ _⟩
  have hneg : 0 ≤ left - (l.length : Int) := by omega
  go_enter Tryz.func17, Tryz.ntmps17
  go_wp2
  go_loopw [1, 5] (fun s i wr => ∃ k : Nat, k ≤ l.length ∧ i = .int .i64 k ∧ s = .int .i64 (left - l.length - weightS (l.take k)) ∧ 0 ≤ left - l.length - weightS (l.take k) ∧ Below w.heap.size w wr)
    (fun _ i _ => l.length - (intOf i).toNat)
  case atStart => exact ⟨0, Nat.zero_le _, rfl, by simp [weightS], by simp [weightS]; omega, Below.refl _ _⟩
  case round =>
    obtain ⟨k, hk, rfl, rfl, hpos, hb⟩ := hrel
    by_cases hlt : k < l.length
    · obtain ⟨b, o, rfl, hbw, c0⟩ := hR.out.below hb k hlt
      have hi0 : (0 : Int) ≤ (k : Int) := by omega
      have hi1 : (k : Int) < (l.length : Int) := by omega
      have hwt := weightS_take l k hlt
      have hft := hF.out k hlt
      have hwl := weightS_le l (k + 1)
      unfold maxLen at hft
      generalize l[k] = x at c0 hwt hft
      generalize weightS (l.take k) = W at *
      by_cases hs : left - (l.length : Int) - (W : Int) < (x.size : Int)
      · have hp2 : left - (l.length : Int) - (W : Int) - (x.size : Int) < 0 := by omega
        go_wp2
        go_ret
        exact ⟨ret_int (by rw [leftOfS, if_pos (by omega)]), hb⟩
      · have hp2 : 0 ≤ left - (l.length : Int) - (W : Int) - (x.size : Int) := by omega
        go_wp2
        go_roundw
        case rel => exact ⟨k + 1, by omega, by go_num, by rw [hwt]; congr 1; omega, by rw [hwt]; omega, hb⟩
        case measure => simp [intOf]; omega
    · have hkl : k = l.length := by omega
      subst hkl
      rw [List.take_length] at hpos ⊢
      go_wp2
      go_ret
      exact ⟨ret_int (by rw [leftOfS, if_neg (by omega)]), hb⟩

theorem infoStrT : (Tryz.prog.info? 9).map (fun i => (i.zero, i.size, i.bytes)) = some (some (.string ⟨#[]⟩), 1, 16) := by kernel_rfl

set_option maxHeartbeats 1000000 in
theorem tostr_laws (a : Option Addr) (cap : Nat) (l : List ByteArray) (w : World) (hrow : StrsAt w a l) (hm : l.length ≤ 1048576) :
    Calls Tryz.prog 21 #[.slice a l.length cap] w fun e w' => e = .returned (.slice (some ⟨w.heap.size, 0, none⟩) l.length l.length) ∧
      w'.ownsRow w.heap.size 9 1 (.slice (some ⟨w.heap.size, 0, none⟩) l.length l.length) l.length (strV l) ∧ Below w.heap.size w w' := by
  obtain ⟨i0, hi, hz0, hz1, hz2⟩ := info_parts infoStrT
  have hR : Hid (StrsAt w a l) := hrow
  clear hrow
  go_enter Tryz.func21, Tryz.ntmps21
  go_wp2_with (at_make; refine wpList_make_full _ rfl _ _ 30 rfl w.heap.size 9 i0 (.string ⟨#[]⟩) 1 Tryz.underlying30 hi hz0 hz1 .i64 .i64 _ _ l.length rfl rfl rfl rfl ?b2 ?b3 (Nat.le_refl _) ?_)
  case b2 => rw [hz2]; omega
  case b3 => unfold maxLen; omega
  intro w1 hown hgrow
  have hb1 : Below w.heap.size w w1 := (Below.refl _ _).grown hgrow (Nat.le_refl _) (by intro k h; cases h)
  generalize (madeCells _ _).toList = z at hown
  have hzl : z.length = l.length := by have := hown.1; omega
  have hO : Hid (w1.ownsRow w.heap.size 9 1 (.slice (some ⟨w.heap.size, 0, none⟩) l.length l.length) l.length z) := hown
  clear hown hgrow
  go_wp2
  go_loopw [4] (fun i wr => ∃ k : Nat, k ≤ l.length ∧ i = .int .i64 k ∧ wr.ownsRow w.heap.size 9 1 (.slice (some ⟨w.heap.size, 0, none⟩) l.length l.length) l.length (strV (l.take k) ++ z.drop k) ∧ Below w.heap.size w wr)
    (fun i _ => l.length - (intOf i).toNat)
  case atStart => exact ⟨0, Nat.zero_le _, rfl, by simpa [strV] using hO.out, hb1⟩
  case round =>
    obtain ⟨k, hk, rfl, hown, hb⟩ := hrel
    by_cases hlt : k < l.length
    · obtain ⟨b, o, rfl, hbw, c0⟩ := hR.out.below hb k hlt
      have hi0 : (0 : Int) ≤ (k : Int) := by omega
      have hi1 : (k : Int) < (l.length : Int) := by omega
      have hst := strV_step l k hlt z hzl
      obtain ⟨u0, g0⟩ : ∃ u, wr.cell? ⟨w.heap.size, k, none⟩ = some u := ⟨_, (hown.cellAt k (by omega)).trans (List.getElem?_eq_getElem (by rw [hown.1]; omega))⟩
      have f0 := hown.frozenAt k
      have hO2 : Hid (wr.ownsRow w.heap.size 9 1 (.slice (some ⟨w.heap.size, 0, none⟩) l.length l.length) l.length (strV (l.take k) ++ z.drop k)) := hown
      clear hown
      generalize l[k] = x at c0 hst
      go_wp2
      go_roundw
      case rel =>
        refine ⟨k + 1, by omega, by go_num, ?_, ?_⟩
        · have r := hO2.out.stored k (.string x)
          rw [hst] at r; exact r.1
        · exact hb.setCell (Nat.le_refl _) _
      case measure => simp [intOf]; omega
    · have hkl : k = l.length := by omega
      subst hkl
      rw [List.take_length, List.drop_of_length_le (by omega), List.append_nil] at hown
      go_wp2
      go_ret
      exact ⟨rfl, hown, hb⟩

set_option maxHeartbeats 1000000 in
theorem eqstr_laws (a b : Option Addr) (ca cb : Nat) (l : List ByteArray) (w : World) (ha : StrsAt w a l) (hb : StrsAt w b l) (hm : l.length ≤ maxLen) :
    Calls Tryz.prog 25 #[.slice a l.length ca, .slice b l.length cb] w fun e w' => e = .returned (.bool true) ∧ Below w.heap.size w w' := by
  have hA : Hid (StrsAt w a l) := ha
  have hB : Hid (StrsAt w b l) := hb
  clear ha hb
  unfold maxLen at hm
  go_enter Tryz.func25, Tryz.ntmps25
  go_wp2
  go_loopw [5] (fun i wr => ∃ k : Nat, k ≤ l.length ∧ i = .int .i64 k ∧ Below w.heap.size w wr) (fun i _ => l.length - (intOf i).toNat)
  case atStart => exact ⟨0, Nat.zero_le _, rfl, Below.refl _ _⟩
  case round =>
    obtain ⟨k, hk, rfl, hx⟩ := hrel
    by_cases hlt : k < l.length
    · obtain ⟨b1, o1, rfl, hbw, c0⟩ := hA.out.below hx k hlt
      obtain ⟨b2, o2, rfl, hbw2, d0⟩ := hB.out.below hx k hlt
      have hi0 : (0 : Int) ≤ (k : Int) := by omega
      have hi1 : (k : Int) < (l.length : Int) := by omega
      generalize l[k] = x at c0 d0
      have hxx : (x.toList == x.toList) = true := by simp
      go_wp2_with fail
      go_quiet (fail)
      go_wp2
      go_roundw
      case rel => exact ⟨k + 1, by omega, by go_num, belowN hx _⟩
      case measure => simp [intOf]; omega
    · go_wp2
      go_ret
      exact ⟨rfl, hx⟩

end Go.Proofs.YtpggjgilklpncaaGreatDoor
