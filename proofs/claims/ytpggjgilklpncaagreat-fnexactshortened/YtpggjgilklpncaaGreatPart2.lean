/-
  A part of the proof: Walk4, Base, Lists1, Lists2.
-/
import Derived.Test.YtpggjgilklpncaaGreatPart1
import Derived.Deep.QuietTactic
import Derived.BigQuiet
import Derived.Deep.RegionHeld3
import Derived.Deep.DeepCutAuto
import Derived.Deep.DrawnRows

/-
  The program's question whether a cell is right answers as it should, at every cell.
-/
namespace Go.Proofs.YtpggjgilklpncaaGreat
open Go.ChangeShapes Go.WideShapes Go.ChangeAt Go.RowKit

theorem cell0 (w : World) :
    Calls Tryz.prog 119 #[.agg #[]] w fun e w' => e = .returned (.agg #[.int .i64 0, .int .i64 0, .string ⟨#[]⟩]) ∧ Below w.heap.size w w' := by
  go_enter Tryz.func119, Tryz.ntmps119
  go_wp2
  go_returns
  exact ⟨rfl, by go_grown⟩

theorem cell1 (n : Int) (w : World) :
    Calls Tryz.prog 120 #[.agg #[.int .i64 n]] w fun e w' => e = .returned (.agg #[.int .i64 1, .int .i64 n, .string ⟨#[]⟩]) ∧ Below w.heap.size w w' := by
  go_enter Tryz.func120, Tryz.ntmps120
  go_wp2
  go_returns
  exact ⟨rfl, by go_grown⟩

theorem cell2 (t : ByteArray) (w : World) :
    Calls Tryz.prog 121 #[.agg #[.string t]] w fun e w' => e = .returned (.agg #[.int .i64 2, .int .i64 0, .string t]) ∧ Below w.heap.size w w' := by
  go_enter Tryz.func121, Tryz.ntmps121
  go_wp2
  go_returns
  exact ⟨rfl, by go_grown⟩

theorem cell3 (n : Int) (w : World) :
    Calls Tryz.prog 122 #[.agg #[.int .i64 n]] w fun e w' => e = .returned (.agg #[.int .i64 3, .int .i64 n, .string ⟨#[]⟩]) ∧ Below w.heap.size w w' := by
  go_enter Tryz.func122, Tryz.ntmps122
  go_wp2
  go_returns
  exact ⟨rfl, by go_grown⟩

theorem shapeOk1b (n : Int) (b : Bool) (hg : numB n = b) (w : World) :
    Calls Tryz.prog 80 #[.iface 125 (.agg #[.int .i64 n])] w fun e w' => e = .returned (.bool b) ∧ Below w.heap.size w w' := by
  subst hg; exact shapeOk1 n w
theorem shapeOk2b (t : ByteArray) (b : Bool) (hg : (lets t.data.toList && decide ((t.size : Int) ≤ 12)) = b) (w : World) (ht : t.size ≤ maxLen) :
    Calls Tryz.prog 80 #[.iface 127 (.agg #[.string t])] w fun e w' => e = .returned (.bool b) ∧ Below w.heap.size w w' := by
  subst hg; exact shapeOk2 t w ht
theorem shapeOk3b (n : Int) (b : Bool) (hg : (decide (0 ≤ n) && decide (n ≤ 1)) = b) (w : World) :
    Calls Tryz.prog 80 #[.iface 128 (.agg #[.int .i64 n])] w fun e w' => e = .returned (.bool b) ∧ Below w.heap.size w w' := by
  subst hg; exact shapeOk3 n w

theorem toList_empty : (⟨#[]⟩ : ByteArray).toList = [] := by rw [ByteArray.toList_eq]
theorem same0 (n : Int) (t : ByteArray) : okB 0 n t = sameB 0 0 ⟨#[]⟩ 0 n t := by
  rw [Bool.eq_iff_iff, sameB_eq]
  unfold okB
  rw [if_pos rfl, Bool.and_eq_true, beq_iff_eq, List.isEmpty_iff]
  exact ⟨fun ⟨h1, h2⟩ => ⟨rfl, h1.symm, bytes_eq (by rw [h2, toList_empty])⟩, fun ⟨_, h1, h2⟩ => ⟨h1.symm, by rw [← h2, toList_empty]⟩⟩
theorem same1 (n : Int) (t : ByteArray) (k : Int) : t.toList.isEmpty = sameB k n ⟨#[]⟩ k n t := by
  rw [Bool.eq_iff_iff, sameB_eq, List.isEmpty_iff]
  exact ⟨fun h2 => ⟨rfl, rfl, bytes_eq (by rw [h2, toList_empty])⟩, fun ⟨_, _, h2⟩ => by rw [← h2, toList_empty]⟩
theorem same2 (n : Int) (t : ByteArray) (k : Int) : (n == 0) = sameB k 0 t k n t := by
  rw [Bool.eq_iff_iff, sameB_eq, beq_iff_eq]
  exact ⟨fun h => ⟨rfl, h.symm, rfl⟩, fun ⟨_, h, _⟩ => h.symm⟩

set_option maxHeartbeats 400000 in
theorem ok_impl0 (n : Int) (t : ByteArray) (w : World) :
    Calls Tryz.prog 72 #[.agg #[.int .i64 0, .int .i64 n, .string t]] w fun e w' => e = .returned (.bool (okB 0 n t)) ∧ Below w.heap.size w w' := by
  have hq := run_eql
  rw [show okB 0 n t = sameB 0 0 ⟨#[]⟩ 0 n t from same0 n t]
  go_enter Tryz.func72, Tryz.ntmps72
  go_wp2_with fail
  refine (shape0 _ _ _).mono ?_
  rintro e w1 ⟨rfl, hb1⟩
  obtain ⟨a1, b1, c1, d1⟩ := box3 hb1
  go_wp2_with fail
  first | go_region_with (first
    | (go_at_call 80; refine (shapeOk0 _).mono ?_; rintro e w2 ⟨rfl, hb2⟩; obtain ⟨a2, b2, c2, d2⟩ := later3 hb2 ⟨a1, b1, c1, d1⟩)
    | (go_at_call 119; refine (cell0 _).mono ?_; rintro e w3 ⟨rfl, hb3⟩; obtain ⟨a3, b3, c3, d3⟩ := later3 hb3 ⟨a2, b2, c2, d2⟩)) | fail
  all_goals go_wp2
  all_goals go_ret
  all_goals exact ⟨rfl, chain (chain (chainA hb1).drew hb2) hb3⟩

set_option maxHeartbeats 400000 in
theorem ok_impl1 (n : Int) (t : ByteArray) (w : World) :
    Calls Tryz.prog 72 #[.agg #[.int .i64 1, .int .i64 n, .string t]] w fun e w' => e = .returned (.bool (okB 1 n t)) ∧ Below w.heap.size w w' := by
  have hq := run_eql
  cases hg : numB n
  · rw [show okB 1 n t = false from by simp only [okB, hg]; simp]
    go_enter Tryz.func72, Tryz.ntmps72
    go_wp2_with fail
    refine (shape1 _ _ _).mono ?_
    rintro e w1 ⟨rfl, hb1⟩
    obtain ⟨a1, b1, c1, d1⟩ := box3 hb1
    go_wp2_with fail
    first | go_region_with (first
      | (go_at_call 80; refine (shapeOk1b _ _ hg _).mono ?_; rintro e w2 ⟨rfl, hb2⟩; obtain ⟨a2, b2, c2, d2⟩ := later3 hb2 ⟨a1, b1, c1, d1⟩)
      | (go_at_call 120; refine (cell1 _ _).mono ?_; rintro e w3 ⟨rfl, hb3⟩; obtain ⟨a3, b3, c3, d3⟩ := later3 hb3 ⟨a2, b2, c2, d2⟩)) | fail
    all_goals go_wp2
    all_goals go_ret
    all_goals exact ⟨rfl, chain (chainA hb1).drew hb2⟩
  · rw [show okB 1 n t = sameB 1 n ⟨#[]⟩ 1 n t from by rw [← same1]; simp [okB, hg]]
    go_enter Tryz.func72, Tryz.ntmps72
    go_wp2_with fail
    refine (shape1 _ _ _).mono ?_
    rintro e w1 ⟨rfl, hb1⟩
    obtain ⟨a1, b1, c1, d1⟩ := box3 hb1
    go_wp2_with fail
    first | go_region_with (first
      | (go_at_call 80; refine (shapeOk1b _ _ hg _).mono ?_; rintro e w2 ⟨rfl, hb2⟩; obtain ⟨a2, b2, c2, d2⟩ := later3 hb2 ⟨a1, b1, c1, d1⟩)
      | (go_at_call 120; refine (cell1 _ _).mono ?_; rintro e w3 ⟨rfl, hb3⟩; obtain ⟨a3, b3, c3, d3⟩ := later3 hb3 ⟨a2, b2, c2, d2⟩)) | fail
    all_goals go_wp2
    all_goals go_ret
    all_goals exact ⟨rfl, chain (chain (chainA hb1).drew hb2) hb3⟩

set_option maxHeartbeats 400000 in
theorem ok_impl2 (n : Int) (t : ByteArray) (w : World) (ht : t.size ≤ maxLen) :
    Calls Tryz.prog 72 #[.agg #[.int .i64 2, .int .i64 n, .string t]] w fun e w' => e = .returned (.bool (okB 2 n t)) ∧ Below w.heap.size w w' := by
  have hq := run_eql
  cases hg : (lets t.data.toList && decide ((t.size : Int) ≤ 12))
  · rw [show okB 2 n t = false from by simp only [okB, hg]; simp]
    go_enter Tryz.func72, Tryz.ntmps72
    go_wp2_with fail
    refine (shape2 _ _ _).mono ?_
    rintro e w1 ⟨rfl, hb1⟩
    obtain ⟨a1, b1, c1, d1⟩ := box3 hb1
    go_wp2_with fail
    first | go_region_with (first
      | (go_at_call 80; refine (shapeOk2b _ _ hg _ ht).mono ?_; rintro e w2 ⟨rfl, hb2⟩; obtain ⟨a2, b2, c2, d2⟩ := later3 hb2 ⟨a1, b1, c1, d1⟩)
      | (go_at_call 121; refine (cell2 _ _).mono ?_; rintro e w3 ⟨rfl, hb3⟩; obtain ⟨a3, b3, c3, d3⟩ := later3 hb3 ⟨a2, b2, c2, d2⟩)) | fail
    all_goals go_wp2
    all_goals go_ret
    all_goals exact ⟨rfl, chain (chainA hb1).drew hb2⟩
  · rw [show okB 2 n t = sameB 2 0 t 2 n t from by rw [← same2]; simp only [okB, hg]; simp]
    go_enter Tryz.func72, Tryz.ntmps72
    go_wp2_with fail
    refine (shape2 _ _ _).mono ?_
    rintro e w1 ⟨rfl, hb1⟩
    obtain ⟨a1, b1, c1, d1⟩ := box3 hb1
    go_wp2_with fail
    first | go_region_with (first
      | (go_at_call 80; refine (shapeOk2b _ _ hg _ ht).mono ?_; rintro e w2 ⟨rfl, hb2⟩; obtain ⟨a2, b2, c2, d2⟩ := later3 hb2 ⟨a1, b1, c1, d1⟩)
      | (go_at_call 121; refine (cell2 _ _).mono ?_; rintro e w3 ⟨rfl, hb3⟩; obtain ⟨a3, b3, c3, d3⟩ := later3 hb3 ⟨a2, b2, c2, d2⟩)) | fail
    all_goals go_wp2
    all_goals go_ret
    all_goals exact ⟨rfl, chain (chain (chainA hb1).drew hb2) hb3⟩

set_option maxHeartbeats 400000 in
theorem ok_impl3 (n : Int) (t : ByteArray) (w : World) :
    Calls Tryz.prog 72 #[.agg #[.int .i64 3, .int .i64 n, .string t]] w fun e w' => e = .returned (.bool (okB 3 n t)) ∧ Below w.heap.size w w' := by
  have hq := run_eql
  cases hg : (decide (0 ≤ n) && decide (n ≤ 1))
  · rw [show okB 3 n t = false from by simp only [okB, hg]; simp]
    go_enter Tryz.func72, Tryz.ntmps72
    go_wp2_with fail
    refine (shape3 _ _ _).mono ?_
    rintro e w1 ⟨rfl, hb1⟩
    obtain ⟨a1, b1, c1, d1⟩ := box3 hb1
    go_wp2_with fail
    first | go_region_with (first
      | (go_at_call 80; refine (shapeOk3b _ _ hg _).mono ?_; rintro e w2 ⟨rfl, hb2⟩; obtain ⟨a2, b2, c2, d2⟩ := later3 hb2 ⟨a1, b1, c1, d1⟩)
      | (go_at_call 122; refine (cell3 _ _).mono ?_; rintro e w3 ⟨rfl, hb3⟩; obtain ⟨a3, b3, c3, d3⟩ := later3 hb3 ⟨a2, b2, c2, d2⟩)) | fail
    all_goals go_wp2
    all_goals go_ret
    all_goals exact ⟨rfl, chain (chainA hb1).drew hb2⟩
  · rw [show okB 3 n t = sameB 3 n ⟨#[]⟩ 3 n t from by rw [← same1]; simp only [okB, hg]; simp]
    go_enter Tryz.func72, Tryz.ntmps72
    go_wp2_with fail
    refine (shape3 _ _ _).mono ?_
    rintro e w1 ⟨rfl, hb1⟩
    obtain ⟨a1, b1, c1, d1⟩ := box3 hb1
    go_wp2_with fail
    first | go_region_with (first
      | (go_at_call 80; refine (shapeOk3b _ _ hg _).mono ?_; rintro e w2 ⟨rfl, hb2⟩; obtain ⟨a2, b2, c2, d2⟩ := later3 hb2 ⟨a1, b1, c1, d1⟩)
      | (go_at_call 122; refine (cell3 _ _).mono ?_; rintro e w3 ⟨rfl, hb3⟩; obtain ⟨a3, b3, c3, d3⟩ := later3 hb3 ⟨a2, b2, c2, d2⟩)) | fail
    all_goals go_wp2
    all_goals go_ret
    all_goals exact ⟨rfl, chain (chain (chainA hb1).drew hb2) hb3⟩

set_option maxHeartbeats 400000 in
theorem ok_impl4 (k n : Int) (t : ByteArray) (w : World) (k0 : k ≠ 0) (k1 : k ≠ 1) (k2 : k ≠ 2) (k3 : k ≠ 3) :
    Calls Tryz.prog 72 #[.agg #[.int .i64 k, .int .i64 n, .string t]] w fun e w' => e = .returned (.bool (okB k n t)) ∧ Below w.heap.size w w' := by
  rw [show okB k n t = false from by simp [okB, k0, k1, k2, k3]]
  go_enter Tryz.func72, Tryz.ntmps72
  go_wp2_with fail
  refine (shape4 _ _ _ _ k0 k1 k2 k3).mono ?_
  rintro e w1 ⟨rfl, hb1⟩
  obtain ⟨a1, b1, c1, d1⟩ := box3 hb1
  go_wp2_with fail
  first | go_region_with (go_at_call 80; refine (shapeOk4 _).mono ?_; rintro e w2 ⟨rfl, hb2⟩; obtain ⟨a2, b2, c2, d2⟩ := later3 hb2 ⟨a1, b1, c1, d1⟩) | fail
  all_goals go_wp2
  all_goals go_ret
  all_goals exact ⟨rfl, chain (chainA hb1).drew hb2⟩

theorem ok_impl (k n : Int) (t : ByteArray) (w : World) (ht : t.size ≤ maxLen) :
    Calls Tryz.prog 72 #[.agg #[.int .i64 k, .int .i64 n, .string t]] w fun e w' => e = .returned (.bool (okB k n t)) ∧ Below w.heap.size w w' := by
  by_cases k0 : k = 0
  · subst k0; exact ok_impl0 n t w
  by_cases k1 : k = 1
  · subst k1; exact ok_impl1 n t w
  by_cases k2 : k = 2
  · subst k2; exact ok_impl2 n t w ht
  by_cases k3 : k = 3
  · subst k3; exact ok_impl3 n t w
  · exact ok_impl4 k n t w k0 k1 k2 k3

end Go.Proofs.YtpggjgilklpncaaGreat

/-
  What every walk over cells uses: both questions whether a cell is right with the answer as a letter, new blocks in later worlds, cells written and read again.
-/
namespace Go.Proofs.YtpggjgilklpncaaGreat
open Go.ChangeShapes Go.WideShapes Go.ChangeAt Go.RowKit

theorem ok_implb (k n : Int) (t : ByteArray) (b : Bool) (hb : okB k n t = b) (w : World) (ht : t.size ≤ maxLen) :
    Calls Tryz.prog 72 #[.agg #[.int .i64 k, .int .i64 n, .string t]] w fun e w' => e = .returned (.bool b) ∧ Below w.heap.size w w' := by
  subst hb; exact ok_impl k n t w ht

theorem ok_specb (k n : Int) (t : ByteArray) (b : Bool) (hb : okB k n t = b) (w : World) (ht : t.size ≤ maxLen) :
    Calls Tryz.prog 62 #[.agg #[.int .i64 k, .int .i64 n, .string t]] w fun e w' => e = .returned (.bool b) ∧ Below w.heap.size w w' := by
  subst hb; exact ok_spec k n t w ht

theorem eq_laws (a b : Int) (s : ByteArray) (w : World) :
    Calls Tryz.prog 73 #[.agg #[.int .i64 a, .int .i64 b, .string s], .agg #[.int .i64 a, .int .i64 b, .string s]] w fun e w' => e = .returned (.bool true) ∧ Below w.heap.size w w' := by
  go_enter Tryz.func73, Tryz.ntmps73
  go_wp2
  all_goals go_ret
  all_goals exact ⟨rfl, by go_grown⟩

end Go.Proofs.YtpggjgilklpncaaGreat

/-
  Lists of cells: how a slice of cells lies in memory, and the contract of the law's helper that measures one.
-/
namespace Go.Proofs.YtpggjgilklpncaaGreat
open Go.ChangeShapes Go.WideShapes Go.ChangeAt Go.RowKit
attribute [local go_sem ↓] Go.wp_at_zero Go.wp_at_succ

/-- A cell: kind, number, text. -/
abbrev CT := Int × Int × ByteArray
/-- The cells of a slice lie where it says. -/
def RowAt (w : World) (a : Option Addr) (l : List CT) : Prop :=
  ∀ j (h : j < l.length), ∃ b o, a = some ⟨b, o, none⟩ ∧ b < w.heap.size ∧ w.cell? ⟨b, o + j * 3, none⟩ = some (.int .i64 l[j].1) ∧ w.cell? ⟨b, o + j * 3 + 1, none⟩ = some (.int .i64 l[j].2.1) ∧ w.cell? ⟨b, o + j * 3 + 2, none⟩ = some (.string l[j].2.2)
theorem RowAt.below {w w' : World} {a : Option Addr} {l : List CT} (h : RowAt w a l) (hb : Below w.heap.size w w') : RowAt w' a l := by
  intro j hj
  obtain ⟨b, o, ha, hlt, h0, h1, h2⟩ := h j hj
  refine ⟨b, o, ha, Nat.lt_of_lt_of_le hlt hb.size, ?_, ?_, ?_⟩
  · rw [hb.cell (p := ⟨b, _, none⟩) hlt]; exact h0
  · rw [hb.cell (p := ⟨b, _, none⟩) hlt]; exact h1
  · rw [hb.cell (p := ⟨b, _, none⟩) hlt]; exact h2
/-- No text is longer than a text can be. -/
def Fit (l : List CT) : Prop := ∀ j (h : j < l.length), (l[j]).2.2.size ≤ maxLen
/-- How many bytes the texts of a list have. -/
def weight (l : List CT) : Nat := (l.map (·.2.2.size)).sum
theorem weight_take (l : List CT) (k : Nat) (h : k < l.length) : weight (l.take (k + 1)) = weight (l.take k) + (l[k]).2.2.size := by
  unfold weight
  rw [List.take_succ_eq_append_getElem h, List.map_append, List.sum_append]; simp
theorem weight_le (l : List CT) (k : Nat) : weight (l.take k) ≤ weight l := by
  unfold weight
  conv => rhs; rw [← List.take_append_drop k l, List.map_append, List.sum_append]
  omega

/-- What is left of a measure behind a list; -1 where it does not last. -/
def leftOf (l : List CT) (left : Int) : Int := if left < (l.length : Int) + (weight l : Int) then -1 else left - l.length - weight l

set_option maxHeartbeats 1000000 in
theorem szs_laws (a : Option Addr) (cap : Nat) (l : List CT) (left : Int) (w : World) (hrow : RowAt w a l) (hfit : Fit l) (hm : l.length ≤ maxLen) (h0 : 0 ≤ left) (h1 : left ≤ 1048576) :
    Calls Tryz.prog 40 #[.slice a l.length cap, .int .i64 left] w fun e w' => e = .returned (.int .i64 (leftOf l left)) ∧ Below w.heap.size w w' := by
  have hR : Hid (RowAt w a l) := hrow
  have hF : Hid (Fit l) := hfit
  clear hrow hfit
  by_cases hlen : left < (l.length : Int)
  · have hneg : left - (l.length : Int) < 0 := by omega
    rw [show leftOf l left = -1 from if_pos (by omega)]
    unfold maxLen at hm
    go_enter Tryz.func40, Tryz.ntmps40
    go_wp2
    go_ret
    exact ⟨rfl, Below.refl _ _⟩
  have hneg : 0 ≤ left - (l.length : Int) := by omega
  go_enter Tryz.func40, Tryz.ntmps40
  go_wp2
  go_loopw [1, 5] (fun s i wr => ∃ k : Nat, k ≤ l.length ∧ i = .int .i64 k ∧ s = .int .i64 (left - l.length - weight (l.take k)) ∧ 0 ≤ left - l.length - weight (l.take k) ∧ Below w.heap.size w wr)
    (fun _ i _ => l.length - (intOf i).toNat)
  case atStart => exact ⟨0, Nat.zero_le _, rfl, by simp [weight], by simp [weight]; omega, Below.refl _ _⟩
  case round =>
    obtain ⟨k, hk, rfl, rfl, hpos, hb⟩ := hrel
    by_cases hlt : k < l.length
    · obtain ⟨b, o, rfl, hbw, c0, c1, c2⟩ := hR.out.below hb k hlt
      have hi0 : (0 : Int) ≤ (k : Int) := by omega
      have hi1 : (k : Int) < (l.length : Int) := by omega
      have hwt := weight_take l k hlt
      have hft := hF.out k hlt
      generalize l[k] = x at c0 c1 c2 hwt hft
      generalize weight (l.take k) = W at *
      by_cases hs : left - (l.length : Int) - (W : Int) < (x.2.2.size : Int)
      · go_wp2_with fail
        refine (sz_laws _ _ _ _ _ hft (by omega) (by omega)).mono ?_
        rw [if_pos (by omega)]
        rintro e w1 ⟨rfl, hb1⟩
        go_wp2
        go_ret
        have hwl := weight_le l (k + 1)
        exact ⟨ret_int (by rw [leftOf, if_pos (by omega)]), chain hb hb1⟩
      · have hp2 : 0 ≤ left - (l.length : Int) - (W : Int) - (x.2.2.size : Int) := by omega
        go_wp2_with fail
        refine (sz_laws _ _ _ _ _ hft (by omega) (by omega)).mono ?_
        rw [if_neg (by omega)]
        rintro e w1 ⟨rfl, hb1⟩
        go_wp2
        go_roundw
        case rel => exact ⟨k + 1, by omega, by go_num, by rw [hwt]; congr 1; omega, by rw [hwt]; omega, chain hb hb1⟩
        case measure => simp [intOf]; omega
    · have hkl : k = l.length := by omega
      subst hkl
      rw [List.take_length] at hpos ⊢
      go_wp2
      go_ret
      exact ⟨ret_int (by rw [leftOf, if_neg (by omega)]), hb⟩

end Go.Proofs.YtpggjgilklpncaaGreat

/-
  Lists of cells in new memory: the contract of the law's helper that takes a list over.
-/
namespace Go.Proofs.YtpggjgilklpncaaGreat
open Go.ChangeShapes Go.WideShapes Go.ChangeAt Go.RowKit
attribute [local go_sem ↓] Go.wp_at_zero Go.wp_at_succ

/-- The cells of a list, one behind the other. -/
def flat : List CT → List Value
  | [] => []
  | x :: l => .int .i64 x.1 :: .int .i64 x.2.1 :: .string x.2.2 :: flat l
theorem flat_length (l : List CT) : (flat l).length = l.length * 3 := by
  induction l with
  | nil => rfl
  | cons x l ih => simp only [flat, List.length_cons, ih]; omega
theorem flat_append (l m : List CT) : flat (l ++ m) = flat l ++ flat m := by
  induction l with
  | nil => rfl
  | cons x l ih => simp only [List.cons_append, flat, ih]
theorem flat_at (l : List CT) (j : Nat) (h : j < l.length) : (flat l)[j * 3]? = some (.int .i64 l[j].1) ∧ (flat l)[j * 3 + 1]? = some (.int .i64 l[j].2.1) ∧ (flat l)[j * 3 + 2]? = some (.string l[j].2.2) := by
  induction l generalizing j with
  | nil => simp at h
  | cons x l ih =>
    cases j with
    | zero => exact ⟨rfl, rfl, rfl⟩
    | succ j =>
      have := ih j (by simpa using h)
      have e0 : (j + 1) * 3 = j * 3 + 1 + 1 + 1 := by omega
      have e1 : (j + 1) * 3 + 1 = j * 3 + 1 + 1 + 1 + 1 := by omega
      have e2 : (j + 1) * 3 + 2 = j * 3 + 2 + 1 + 1 + 1 := by omega
      rw [e1, e2, e0]
      simpa only [flat, List.getElem?_cons_succ, List.getElem_cons_succ] using this

/-- Three cells of a row are written: one element more of the list. -/
theorem flat_step (l : List CT) (k : Nat) (h : k < l.length) (z : List Value) (hz : z.length = l.length * 3) :
    (((flat (l.take k) ++ z.drop (k * 3)).set (k * 3) (.int .i64 l[k].1)).set (k * 3 + 1) (.int .i64 l[k].2.1)).set (k * 3 + 2) (.string l[k].2.2) = flat (l.take (k + 1)) ++ z.drop ((k + 1) * 3) := by
  have hl : (flat (l.take k)).length = k * 3 := by rw [flat_length, List.length_take]; congr 1; omega
  obtain ⟨a, b, c, r, hr⟩ : ∃ a b c r, z.drop (k * 3) = a :: b :: c :: r := by
    have hd : (z.drop (k * 3)).length ≥ 3 := by rw [List.length_drop]; omega
    match hm : z.drop (k * 3), hd with
    | a :: b :: c :: r, _ => exact ⟨a, b, c, r, rfl⟩
  have hr3 : z.drop ((k + 1) * 3) = r := by
    rw [show (k + 1) * 3 = k * 3 + 3 by omega, ← List.drop_drop, hr]; rfl
  rw [List.take_succ_eq_append_getElem h, flat_append, hr, hr3]
  rw [List.set_append_right _ _ (by omega), List.set_append_right _ _ (by omega), List.set_append_right _ _ (by omega), hl]
  rw [show k * 3 - k * 3 = 0 by omega, show k * 3 + 1 - k * 3 = 1 by omega, show k * 3 + 2 - k * 3 = 2 by omega]
  simp [flat]

theorem own_below {w w' : World} {base : Nat} {e : TypeId} {size : Nat} {v : Value} {n : Nat} {xs : List Value} (h : w.ownsRow base e size v n xs) (hb : Below w.heap.size w w') : w'.ownsRow base e size v n xs := by
  refine ⟨h.1, ?_⟩
  rcases h.2 with h' | ⟨g, cap, cur, h', hbg, hg, hr⟩
  · exact .inl h'
  · refine .inr ⟨g, cap, cur, h', hbg, ?_, hr⟩
    have hlt : g < w.heap.size := by
      by_cases hl : g < w.heap.size
      · exact hl
      · rw [Array.getElem?_eq_none (by omega)] at hg; cases hg
    rw [hb.block g hlt]; exact hg

/-- What is owned lies there. -/
theorem own_row {w : World} {base g cap : Nat} {e : TypeId} {l : List CT} (h : w.ownsRow base e 3 (.slice (some ⟨g, 0, none⟩) l.length cap) l.length (flat l)) : RowAt w (some ⟨g, 0, none⟩) l := by
  have hlt : g < w.heap.size := by
    rcases h.2 with ⟨h', _⟩ | ⟨g', cap', cur, h', _, hg, _⟩
    · simp at h'
    · simp only [Value.slice.injEq, Option.some.injEq, Addr.mk.injEq, and_true, true_and] at h'
      obtain ⟨rfl, rfl⟩ := h'
      by_cases hl : g < w.heap.size
      · exact hl
      · rw [Array.getElem?_eq_none (by omega)] at hg; cases hg
  intro j hj
  obtain ⟨f0, f1, f2⟩ := flat_at l j hj
  refine ⟨g, 0, rfl, hlt, ?_, ?_, ?_⟩
  · rw [show 0 + j * 3 = j * 3 by omega, h.cellAt _ (by omega)]; exact f0
  · rw [show 0 + j * 3 + 1 = j * 3 + 1 by omega, h.cellAt _ (by omega)]; exact f1
  · rw [show 0 + j * 3 + 2 = j * 3 + 2 by omega, h.cellAt _ (by omega)]; exact f2

theorem infoC : (Tryz.prog.info? 89).map (fun i => (i.zero, i.size, i.bytes)) = some (some (.agg #[.int .i64 0, .int .i64 0, .string ⟨#[]⟩]), 3, 32) := by kernel_rfl

set_option maxHeartbeats 1000000 in
theorem tos_laws (a : Option Addr) (cap : Nat) (l : List CT) (w : World) (hrow : RowAt w a l) (hm : l.length ≤ 1048576) :
    Calls Tryz.prog 46 #[.slice a l.length cap] w fun e w' => e = .returned (.slice (some ⟨w.heap.size, 0, none⟩) l.length l.length) ∧
      w'.ownsRow w.heap.size 89 3 (.slice (some ⟨w.heap.size, 0, none⟩) l.length l.length) l.length (flat l) ∧ Below w.heap.size w w' := by
  obtain ⟨i0, hi, hz0, hz1, hz2⟩ := info_parts infoC
  have hR : Hid (RowAt w a l) := hrow
  clear hrow
  go_enter Tryz.func46, Tryz.ntmps46
  go_wp2_with (at_make; refine wpList_make_full _ rfl _ _ 66 rfl w.heap.size 89 i0 (.agg #[.int .i64 0, .int .i64 0, .string ⟨#[]⟩]) 3 Tryz.underlying66 hi hz0 hz1 .i64 .i64 _ _ l.length rfl rfl rfl rfl ?b2 ?b3 (Nat.le_refl _) ?_)
  case b2 => rw [hz2]; omega
  case b3 => unfold maxLen; omega
  intro w1 hown hgrow
  have hb1 : Below w.heap.size w w1 := (Below.refl _ _).grown hgrow (Nat.le_refl _) (by intro k h; cases h)
  generalize (madeCells _ _).toList = z at hown
  have hzl : z.length = l.length * 3 := hown.1
  have hO : Hid (w1.ownsRow w.heap.size 89 3 (.slice (some ⟨w.heap.size, 0, none⟩) l.length l.length) l.length z) := hown
  clear hown hgrow
  go_wp2
  go_loopw [4] (fun i wr => ∃ k : Nat, k ≤ l.length ∧ i = .int .i64 k ∧ wr.ownsRow w.heap.size 89 3 (.slice (some ⟨w.heap.size, 0, none⟩) l.length l.length) l.length (flat (l.take k) ++ z.drop (k * 3)) ∧ Below w.heap.size w wr)
    (fun i _ => l.length - (intOf i).toNat)
  case atStart => exact ⟨0, Nat.zero_le _, rfl, by simpa [flat] using hO.out, hb1⟩
  case round =>
    obtain ⟨k, hk, rfl, hown, hb⟩ := hrel
    by_cases hlt : k < l.length
    · obtain ⟨b, o, rfl, hbw, c0, c1, c2⟩ := hR.out.below hb k hlt
      have hi0 : (0 : Int) ≤ (k : Int) := by omega
      have hi1 : (k : Int) < (l.length : Int) := by omega
      have hst := flat_step l k hlt z hzl
      have hown' : Hid (wr.ownsRow w.heap.size 89 3 (.slice (some ⟨w.heap.size, 0, none⟩) l.length l.length) l.length (flat (l.take k) ++ z.drop (k * 3))) := hown
      clear hown
      generalize l[k] = x at c0 c1 c2 hst
      go_wp2_with fail
      refine (to_laws _ _ _ _).mono ?_
      rintro e w2 ⟨rfl, hb2⟩
      have own2 := own_below hown'.out hb2
      have hx := chain hb hb2
      obtain ⟨u0, g0⟩ : ∃ u, w2.cell? ⟨w.heap.size, k * 3, none⟩ = some u := ⟨_, (own2.cellAt (k * 3) (by omega)).trans (List.getElem?_eq_getElem (by rw [own2.1]; omega))⟩
      obtain ⟨u1, g1⟩ : ∃ u, w2.cell? ⟨w.heap.size, k * 3 + 1, none⟩ = some u := ⟨_, (own2.cellAt (k * 3 + 1) (by omega)).trans (List.getElem?_eq_getElem (by rw [own2.1]; omega))⟩
      obtain ⟨u2, g2⟩ : ∃ u, w2.cell? ⟨w.heap.size, k * 3 + 2, none⟩ = some u := ⟨_, (own2.cellAt (k * 3 + 2) (by omega)).trans (List.getElem?_eq_getElem (by rw [own2.1]; omega))⟩
      have f0 := own2.frozenAt (k * 3)
      have f1 := own2.frozenAt (k * 3 + 1)
      have f2 := own2.frozenAt (k * 3 + 2)
      have hO2 : Hid (w2.ownsRow w.heap.size 89 3 (.slice (some ⟨w.heap.size, 0, none⟩) l.length l.length) l.length (flat (l.take k) ++ z.drop (k * 3))) := own2
      clear own2 hown' hb2
      go_wp2
      go_roundw
      case rel =>
        refine ⟨k + 1, by omega, by go_num, ?_, ?_⟩
        · have r := ((hO2.out.stored (k * 3) (.int .i64 x.1)).1.stored (k * 3 + 1) (.int .i64 x.2.1)).1.stored (k * 3 + 2) (.string x.2.2)
          rw [hst] at r; exact r.1
        · exact ((hx.setCell (Nat.le_refl _) _).setCell (Nat.le_refl _) _).setCell (Nat.le_refl _) _
      case measure => simp [intOf]; omega
    · have hkl : k = l.length := by omega
      subst hkl
      rw [List.take_length, List.drop_of_length_le (by omega), List.append_nil] at hown
      go_wp2
      go_ret
      exact ⟨rfl, hown, hb⟩

end Go.Proofs.YtpggjgilklpncaaGreat
