/-
  A part of the proof: KeyI, ReadS, ReadS2, Truth, ReadI, TokI, SumMath, LevMath, LevMath2, YardMath.
-/
import Derived.Test.YtjiaciikbnpicaaGreatDoorPart1
import Derived.Test.YtjiaciikbnpicaaGreatDoorPart3
import Derived.Laws.DeepStrings4
import Derived.Test.YtjiaciikbnpicaaGreatDoorPart11
import Derived.Test.YtjiaciikbnpicaaGreatDoorPart12
import Derived.Test.YtjiaciikbnpicaaGreatDoorPart4

/-
  The contracts of the program's texts of cells.
-/
namespace Go.Proofs.YtjiaciikbnpicaaGreatDoor
open Go.ChangeShapes Go.WideShapes Go.ChangeAt Go.RowKit

theorem joined_impl (bk c : Nat) (xs : List ByteArray) (sep : ByteArray) (w : World) (hcells : ∀ (j : Nat) x, xs[j]? = some x → w.cell? ⟨bk, 0 + j, none⟩ = some (.string x)) (hbk : bk < w.heap.size) (hN : xs.length ≤ 140737488355328) (hcap : xs.length ≤ c) (hlen : (Lib.join (xs.map (·.data.toList)) sep.data.toList).length ≤ 140737488355328) (y : ByteArray) (hy : (⟨(Lib.join (xs.map (·.data.toList)) sep.data.toList).toArray⟩ : ByteArray) = y) :
    Calls Tryz.prog 218 #[.string sep, .slice (some ⟨bk, 0, none⟩) xs.length c] w fun e w' => e = .returned (.string y) ∧ Below w.heap.size w w' := by
  subst hy
  go_enter Tryz.func218, Tryz.ntmps218
  go_wp2_with fail
  refine (Tryz.strings_Join bk 0 c xs sep _ hcells hbk hN hcap hlen).mono ?_
  rintro e w1 ⟨rfl, hb⟩
  go_wp2
  go_ret
  exact ⟨rfl, hb⟩

theorem st0 (w : World) :
    Calls Tryz.prog 210 #[.iface 262 (.agg #[])] w fun e w' => e = .returned (.string ⟨wNone.toArray⟩) ∧ Below w.heap.size w w' := by
  have h1 := asserts_noneShape
  go_enter Tryz.func210, Tryz.ntmps210
  go_wp2
  go_ret
  exact ⟨rfl, by go_grown⟩
theorem st1 (n : Int) (h0 : -9223372036854775808 ≤ n) (h1 : n ≤ 9223372036854775807) (w : World) (hp : PowAt w) :
    Calls Tryz.prog 210 #[.iface 264 (.agg #[.int .i64 n])] w fun e w' => e = .returned (.string ⟨(Lib.itoa n).toArray⟩) ∧ Below w.heap.size w w' := by
  obtain ⟨a1, a2⟩ := asserts_numberShape
  have HP : Hid (PowAt w) := hp
  clear hp
  go_enter Tryz.func210, Tryz.ntmps210
  go_wp2_with fail
  refine (format_lib n h0 h1 _ (HP.out.below (by go_grown))).mono ?_
  rintro e w1 ⟨rfl, hb⟩
  go_wp2
  go_ret
  exact ⟨rfl, chainA hb⟩
theorem st3 (n : Int) (w : World) :
    Calls Tryz.prog 210 #[.iface 267 (.agg #[.int .i64 n])] w fun e w' => e = .returned (.string ⟨(if n = 1 then wYes else wNo).toArray⟩) ∧ Below w.heap.size w w' := by
  obtain ⟨a1, a2, a3, a4⟩ := asserts_truthShape
  by_cases hn : n = 1
  · subst hn
    go_enter Tryz.func210, Tryz.ntmps210
    go_wp2
    go_ret
    exact ⟨rfl, by go_grown⟩
  · rw [if_neg hn]
    go_enter Tryz.func210, Tryz.ntmps210
    go_wp2
    go_ret
    exact ⟨rfl, by go_grown⟩
theorem st3b (n : Int) (y : ByteArray) (hy : (⟨(if n = 1 then wYes else wNo).toArray⟩ : ByteArray) = y) (w : World) :
    Calls Tryz.prog 210 #[.iface 267 (.agg #[.int .i64 n])] w fun e w' => e = .returned (.string y) ∧ Below w.heap.size w w' := by
  subst hy; exact st3 n w
theorem st2 (t : ByteArray) (ht : t.size ≤ 1000) (w : World) :
    Calls Tryz.prog 210 #[.iface 266 (.agg #[.string t])] w fun e w' => e = .returned (.string ⟨(39 :: (t.data.toList ++ [39])).toArray⟩) ∧ Below w.heap.size w w' := by
  obtain ⟨a1, a2, a3⟩ := asserts_textShape
  obtain ⟨y, hy⟩ : ∃ y : ByteArray, (⟨(39 :: (t.data.toList ++ [39])).toArray⟩ : ByteArray) = y := ⟨_, rfl⟩
  rw [hy]
  go_enter Tryz.func210, Tryz.ntmps210
  go_wp2_with fail
  refine (joined_impl _ _ [⟨#[39]⟩, t, ⟨#[39]⟩] ⟨#[]⟩ _ ?_ (by simp) (by simp) (by simp) ?_ y (by rw [← hy]; simp [Lib.join_cons, Lib.joinTail])).mono ?_
  · intro j x hj
    match j, hj with
    | 0, hj => simp at hj; subst hj; simp [go_sem]
    | 1, hj => simp at hj; subst hj; simp [go_sem]
    | 2, hj => simp at hj; subst hj; simp [go_sem]
  · have hsz := Lib.size_eq t
    simp [Lib.join_cons, Lib.joinTail]
    omega
  rintro e w1 ⟨rfl, hb⟩
  go_wp2
  go_ret
  exact ⟨rfl, chainAA hb⟩

theorem ctext_impl (k n : Int) (t : ByteArray) (w : World) (ht : t.size ≤ maxLen) (hp : PowAt w) :
    Calls Tryz.prog 199 #[.agg #[.int .i64 k, .int .i64 n, .string t]] w fun e w' => e = .returned (.string (cellT k n t)) ∧ Below w.heap.size w w' := by
  have HP : Hid (PowAt w) := hp
  clear hp
  cases ho : okB k n t with
  | false =>
    rw [cellT_no ho]
    go_enter Tryz.func199, Tryz.ntmps199
    go_wp2_with fail
    refine (ok_implb _ _ _ _ ho _ ht).mono ?_
    rintro e w1 ⟨rfl, hb⟩
    go_wp2
    go_ret
    exact ⟨rfl, by first | exact hb | exact chainA hb⟩
  | true =>
    have hc : cellT k n t = ⟨(l4T k n t.data.toList).toArray⟩ := by unfold cellT; rw [if_pos ho]
    rw [hc]
    clear hc
    rcases okB_kind ho with rfl | rfl | rfl | rfl
    · go_enter Tryz.func199, Tryz.ntmps199
      go_wp2_with fail
      refine (ok_implb _ _ _ _ ho _ ht).mono ?_
      rintro e w1 ⟨rfl, hb⟩
      obtain ⟨a1, b1, c1, d1⟩ := box3 hb
      go_wp2_with fail
      refine (shape0 _ _ _).mono ?_
      rintro e w2 ⟨rfl, hb2⟩
      go_wp2_with fail
      refine (st0 _).mono ?_
      rintro e w3 ⟨rfl, hb3⟩
      go_wp2
      go_ret
      exact ⟨rfl, chain (chain (chainA hb) hb2) hb3⟩
    · have hb := numB_iff.1 (okB_1 ho).1
      go_enter Tryz.func199, Tryz.ntmps199
      go_wp2_with fail
      refine (ok_implb _ _ _ _ ho _ ht).mono ?_
      rintro e w1 ⟨rfl, hb1⟩
      obtain ⟨a1, b1, c1, d1⟩ := box3 hb1
      go_wp2_with fail
      refine (shape1 _ _ _).mono ?_
      rintro e w2 ⟨rfl, hb2⟩
      go_wp2_with fail
      refine (st1 n (by omega) (by omega) _ (HP.out.below (chain (chainA hb1) hb2))).mono ?_
      rintro e w3 ⟨rfl, hb3⟩
      go_wp2
      go_ret
      exact ⟨rfl, chain (chain (chainA hb1) hb2) hb3⟩
    · have h12 : t.size ≤ 1000 := by
        have := (okB_2 ho).2
        unfold textB at this
        rw [Bool.and_eq_true, decide_eq_true_eq] at this
        omega
      go_enter Tryz.func199, Tryz.ntmps199
      go_wp2_with fail
      refine (ok_implb _ _ _ _ ho _ ht).mono ?_
      rintro e w1 ⟨rfl, hb1⟩
      obtain ⟨a1, b1, c1, d1⟩ := box3 hb1
      go_wp2_with fail
      refine (shape2 _ _ _).mono ?_
      rintro e w2 ⟨rfl, hb2⟩
      go_wp2_with fail
      refine (st2 t h12 _).mono ?_
      rintro e w3 ⟨rfl, hb3⟩
      go_wp2
      go_ret
      exact ⟨rfl, chain (chain (chainA hb1) hb2) hb3⟩
    · obtain ⟨y, hy⟩ : ∃ y : ByteArray, (⟨(l4T 3 n t.data.toList).toArray⟩ : ByteArray) = y := ⟨_, rfl⟩
      rw [hy]
      go_enter Tryz.func199, Tryz.ntmps199
      go_wp2_with fail
      refine (ok_implb _ _ _ _ ho _ ht).mono ?_
      rintro e w1 ⟨rfl, hb1⟩
      obtain ⟨a1, b1, c1, d1⟩ := box3 hb1
      go_wp2_with fail
      refine (shape3 _ _ _).mono ?_
      rintro e w2 ⟨rfl, hb2⟩
      go_wp2_with fail
      refine (st3b n y hy _).mono ?_
      rintro e w3 ⟨rfl, hb3⟩
      go_wp2
      go_ret
      exact ⟨rfl, chain (chain (chainA hb1) hb2) hb3⟩

theorem ctext_implb (k n : Int) (t : ByteArray) (y : ByteArray) (hy : cellT k n t = y) (w : World) (ht : t.size ≤ maxLen) (hp : PowAt w) :
    Calls Tryz.prog 199 #[.agg #[.int .i64 k, .int .i64 n, .string t]] w fun e w' => e = .returned (.string y) ∧ Below w.heap.size w w' := by
  subst hy; exact ctext_impl k n t w ht hp

end Go.Proofs.YtjiaciikbnpicaaGreatDoor

/-
  The contracts of the model's reading of cells.
-/
namespace Go.Proofs.YtjiaciikbnpicaaGreatDoor
open Go.ChangeShapes Go.WideShapes Go.ChangeAt Go.RowKit
attribute [local go_sem ↓] Go.wp_at_zero Go.wp_at_succ

end Go.Proofs.YtjiaciikbnpicaaGreatDoor

/-
  The contract of the model's reading of a cell.
-/
namespace Go.Proofs.YtjiaciikbnpicaaGreatDoor
open Go.ChangeShapes Go.WideShapes Go.ChangeAt Go.RowKit
attribute [local go_sem ↓] Go.wp_at_zero Go.wp_at_succ

/-- What a text is read as, as both answer it. -/
def readR (s : ByteArray) : Int × Int × ByteArray × Bool := match readB s with
  | some (k, n, t) => (k, n, t, true)
  | none => (0, 0, ⟨#[]⟩, false)
/-- Three cells of a block are written: they hold it, and what lies in another block stays. -/
theorem set3 {w W : World} {B : Nat} {x y z p q r : Value} (hW : W = ((w.setCell ⟨B, 0, none⟩ x).setCell ⟨B, 1, none⟩ y).setCell ⟨B, 2, none⟩ z) (h : w.cell? ⟨B, 0, none⟩ = some p ∧ w.cell? ⟨B, 1, none⟩ = some q ∧ w.cell? ⟨B, 2, none⟩ = some r) :
    (W.cell? ⟨B, 0, none⟩ = some x ∧ W.cell? ⟨B, 1, none⟩ = some y ∧ W.cell? ⟨B, 2, none⟩ = some z) ∧ W.heap.size = w.heap.size ∧ (∀ D o, D ≠ B → W.cell? ⟨D, o, none⟩ = w.cell? ⟨D, o, none⟩) ∧ (∀ D o, W.frozen? ⟨D, o, none⟩ = w.frozen? ⟨D, o, none⟩) := by
  obtain ⟨h0, h1, h2⟩ := h
  have c1 : ((w.setCell ⟨B, 0, none⟩ x).cell? ⟨B, 1, none⟩) = some q := by rw [cell_off _ _ _ _ _ (by decide)]; exact h1
  have c2 : (((w.setCell ⟨B, 0, none⟩ x).setCell ⟨B, 1, none⟩ y).cell? ⟨B, 2, none⟩) = some r := by rw [cell_off _ _ _ _ _ (by decide), cell_off _ _ _ _ _ (by decide)]; exact h2
  subst hW
  refine ⟨⟨?_, ?_, ?_⟩, by simp, ?_, ?_⟩
  · rw [cell_off _ _ _ _ _ (by decide), cell_off _ _ _ _ _ (by decide), cell_here _ _ _ _ (by rw [h0]; rfl)]
  · rw [cell_off _ _ _ _ _ (by decide), cell_here _ _ _ _ (by rw [c1]; rfl)]
  · rw [cell_here _ _ _ _ (by rw [c2]; rfl)]
  · intro D o hD
    rw [cell_far _ _ _ _ _ _ hD, cell_far _ _ _ _ _ _ hD, cell_far _ _ _ _ _ _ hD]
  · intro D o
    simp

end Go.Proofs.YtjiaciikbnpicaaGreatDoor

/-
  The contract of the program's cell of a truth.
-/
namespace Go.Proofs.YtjiaciikbnpicaaGreatDoor
open Go.ChangeShapes Go.WideShapes Go.ChangeAt Go.RowKit

theorem truth_impl (b : Bool) (w : World) :
    Calls Tryz.prog 203 #[.bool b] w fun e w' => e = .returned (.agg #[.int .i64 3, .int .i64 (if b = true then 1 else 0), .string ⟨#[]⟩]) ∧ Below w.heap.size w w' := by
  cases b
  · go_enter Tryz.func203, Tryz.ntmps203
    go_wp2_with fail
    refine (cell3 _ _).mono ?_
    rintro e w1 ⟨rfl, hb1⟩
    obtain ⟨⟨a1, b1, c1, d1⟩, f0, f1, f2⟩ := box3F hb1
    have hx := chainA hb1
    go_wp2
    exact bodyPost_ret (v := .agg #[.int .i64 3, .int .i64 0, .string ⟨#[]⟩]) (by simp [results, Tryz.results203, go_sem, a1, b1, c1]) rfl ⟨rfl, by go_grown⟩
  · go_enter Tryz.func203, Tryz.ntmps203
    go_wp2_with fail
    refine (cell3 _ _).mono ?_
    rintro e w1 ⟨rfl, hb1⟩
    obtain ⟨⟨a1, b1, c1, d1⟩, f0, f1, f2⟩ := box3F hb1
    have hx := chainA hb1
    go_wp2
    exact bodyPost_ret (v := .agg #[.int .i64 3, .int .i64 1, .string ⟨#[]⟩]) (by simp [results, Tryz.results203, go_sem, a1, b1, c1]) rfl ⟨rfl, by go_grown⟩

theorem truth_implb (b : Bool) (n : Int) (hn : (if b = true then 1 else 0) = n) (w : World) :
    Calls Tryz.prog 203 #[.bool b] w fun e w' => e = .returned (.agg #[.int .i64 3, .int .i64 n, .string ⟨#[]⟩]) ∧ Below w.heap.size w w' := by
  subst hn; exact truth_impl b w

end Go.Proofs.YtjiaciikbnpicaaGreatDoor

/-
  The contracts of the program's reading of cells.
-/
namespace Go.Proofs.YtjiaciikbnpicaaGreatDoor
open Go.ChangeShapes Go.WideShapes Go.ChangeAt Go.RowKit
attribute [local go_sem ↓] Go.wp_at_zero Go.wp_at_succ

theorem err_some (v : Value) (w : World) : (binOp .eql 70 (.iface 283 v) .nilIface).run Tryz.prog w = .ok (.bool false) w := by kernel_rfl
theorem err_none (w : World) : (binOp .eql 70 .nilIface .nilIface).run Tryz.prog w = .ok (.bool true) w := by kernel_rfl

theorem parse_ok (s : ByteArray) (hs : s.size ≤ 1048576) (v : Int) (h : Lib.parseIntB 64 s.data.toList = .ok v) (w : World) :
    Calls Tryz.prog 208 #[.string s, .int .i64 10, .int .i64 64] w fun e w' => e = .returned (.tuple #[.int .i64 v, .nilIface]) ∧ Below w.heap.size w w' := by
  refine (Tryz.strconv_ParseInt_10_at64_ok s (by omega) v h w).mono ?_
  rintro e w' ⟨rfl, h⟩
  refine ⟨rfl, ?_⟩
  rcases h with rfl | ⟨t, rfl⟩
  · exact Below.refl _ _
  · exact Lib.bytesWorld_below _ _ _
theorem parse_no (s : ByteArray) (hs : s.size ≤ 1048576) (h : ∀ v, Lib.parseIntB 64 s.data.toList ≠ .ok v) (w : World) (he : ErrAt w) :
    Calls Tryz.prog 208 #[.string s, .int .i64 10, .int .i64 64] w fun e w' => ∃ x N, e = .returned (.tuple #[.int .i64 x, .iface 283 (.pointer (some ⟨N, 0, none⟩))]) ∧ Below w.heap.size w w' := by
  obtain ⟨⟨tp, p, h1⟩, ⟨tq, q, h2⟩⟩ := he
  cases hp : Lib.parseIntB 64 s.data.toList with
  | ok v => exact absurd hp (h v)
  | «syntax» =>
    refine (Tryz.strconv_ParseInt_10_at64_syntax_var s (by omega) hp tp p w h1).mono ?_
    rintro e w' ⟨N, rfl, _, _, hb⟩
    exact ⟨_, N, rfl, hb⟩
  | range =>
    refine (Tryz.strconv_ParseInt_10_at64_range_var s (by omega) hp tq q w h2).mono ?_
    rintro e w' ⟨N, rfl, _, _, hb⟩
    exact ⟨_, N, rfl, hb⟩

set_option maxRecDepth 100000 in
set_option maxHeartbeats 4000000 in
theorem guess_num (s : ByteArray) (hs : s.size ≤ 1048576) (w : World) (h1 : ¬ s.data.toList = wNone) (h2 : ¬ s.data.toList = wYes) (h3 : ¬ s.data.toList = wNo) (h4 : s.data.toList.head? ≠ some 39) (v : Int) (hv : Lib.parseIntB 64 s.data.toList = .ok v) :
    Calls Tryz.prog 198 #[.string s] w fun e w' => e = .returned (.tuple #[.agg #[.int .i64 1, .int .i64 v, .string ⟨#[]⟩], .bool true]) ∧ Below w.heap.size w w' := by
  have q1 : (s.toList == [110, 111, 110, 101]) = false := by rw [Lib.toList_data]; exact beq_eq_false_iff_ne.2 h1
  have q2 : (s.toList == [121, 101, 115]) = false := by rw [Lib.toList_data]; exact beq_eq_false_iff_ne.2 h2
  have q3 : (s.toList == [110, 111]) = false := by rw [Lib.toList_data]; exact beq_eq_false_iff_ne.2 h3
  have hpre : Lib.hasPrefix s.data.toList [39] = false := by
    unfold Lib.hasPrefix
    cases hd : s.data.toList with
    | nil => rfl
    | cons c r =>
      rw [hd] at h4
      have : (39 : UInt8) ≠ c := fun e => h4 (by simp [e])
      simp [List.isPrefixOf, this]
  have hV : Hid (Lib.parseIntB 64 s.data.toList = .ok v) := hv
  clear h1 h2 h3 h4 hv
  have hen := err_none
  go_enter Tryz.func198, Tryz.ntmps198
  go_wp2_with fail
  refine (Tryz.strings_HasPrefix _ _ _).mono ?_
  rintro e w1 ⟨rfl, rfl⟩
  rw [show (⟨#[39]⟩ : ByteArray).data.toList = [39] from rfl, hpre]
  go_wp2_with fail
  refine (parse_ok s hs v hV.out _).mono ?_
  rintro e w2 ⟨rfl, hb2⟩
  obtain ⟨⟨a1, b1, c1, d1⟩, f1, f2, f3⟩ := box3F hb2
  go_wp2_with fail
  refine wp_region_any (by kernel_rfl) (show wpAny _ _ _ _ _ _ _ w2.drew from ?_)
  refine wpAny_take (i := 0) (by simp only [List.getElem?_toArray, List.getElem?_cons_zero]; rfl) (by kernel_rfl) (by kernel_rfl) (by kernel_rfl) (by intro _ _ _ h; exact h) (Or.inl ⟨by rfl, fun w => by (go_simp; (try with_reducible rfl))⟩) ?_
  simp only [Act.put, List.setIfInBounds_toArray, List.set_cons_zero, List.set_cons_succ]
  refine wpAny_take (i := 1) (by simp only [List.getElem?_toArray, List.getElem?_cons_zero, List.getElem?_cons_succ]; rfl) (by kernel_rfl) (by kernel_rfl) (by kernel_rfl) (by intro _ _ _ h; exact h) (Or.inl ⟨by rfl, fun w => by (go_simp; (try with_reducible rfl))⟩) ?_
  simp only [Act.put, List.setIfInBounds_toArray, List.set_cons_zero, List.set_cons_succ]
  refine wpAny_take (i := 3) (by simp only [List.getElem?_toArray, List.getElem?_cons_zero, List.getElem?_cons_succ]; rfl) (by kernel_rfl) (by kernel_rfl) (by kernel_rfl) (by intro _ _ _ h; exact h) (Or.inl ⟨by rfl, fun w => by (go_simp; (try with_reducible rfl))⟩) ?_
  simp only [Act.put, List.setIfInBounds_toArray, List.set_cons_zero, List.set_cons_succ]
  refine wpAny_take (i := 4) (by simp only [List.getElem?_toArray, List.getElem?_cons_zero, List.getElem?_cons_succ]; rfl) (by kernel_rfl) (by kernel_rfl) (by kernel_rfl) (by intro _ _ _ h; exact h) (Or.inl ⟨by rfl, fun w => by (go_simp; (try with_reducible rfl))⟩) ?_
  simp only [Act.put, List.setIfInBounds_toArray, List.set_cons_zero, List.set_cons_succ]
  refine wpAny_ready (rs := [2]) (by kernel_rfl) (by simp) ?_
  refine AllReady.cons (by simp only [List.getElem?_toArray, List.getElem?_cons_zero, List.getElem?_cons_succ]; rfl) ?_ AllReady.nil
  intro K hK
  go_simp
  refine (cell1 _ _).mono ?_
  rintro e w3 ⟨rfl, hb3⟩
  have hb3' := undrew hb3
  obtain ⟨x1, x2, x3, x4⟩ := later3 (B := w.heap.size) hb3' ⟨a1, b1, c1, d1⟩
  obtain ⟨y1, y2, y3⟩ := frozen3 (B := w.heap.size) hb3' d1 ⟨f1, f2, f3⟩
  clear a1 b1 c1 f1 f2 f3 hb3
  refine hK _ _ ?_
  clear hK K
  try simp only [Act.put, List.setIfInBounds_toArray, List.set_cons_zero, List.set_cons_succ]
  refine wpAny_ready (rs := [5]) (by kernel_rfl) (by simp) ?_
  refine AllReady.cons (by simp only [List.getElem?_toArray, List.getElem?_cons_zero, List.getElem?_cons_succ]; rfl) ?_ AllReady.nil
  intro K hK
  go_simp
  refine hK _ _ ?_
  clear hK K
  try simp only [Act.put, List.setIfInBounds_toArray, List.set_cons_zero, List.set_cons_succ]
  refine wpAny_take (i := 6) (by simp only [List.getElem?_toArray, List.getElem?_cons_zero, List.getElem?_cons_succ]; rfl) (by kernel_rfl) (by kernel_rfl) (by kernel_rfl) (by intro _ _ _ h; exact h) (Or.inl ⟨by rfl, fun w => by (go_simp; (try with_reducible rfl))⟩) ?_
  simp only [Act.put, List.setIfInBounds_toArray, List.set_cons_zero, List.set_cons_succ]
  refine wpAny_done (by kernel_rfl) ?_ _
  go_wp2_with fail
  generalize hZ : ((w3.setCell ⟨w.heap.size, 0, none⟩ _).setCell ⟨w.heap.size, 1, none⟩ _).setCell ⟨w.heap.size, 2, none⟩ _ = Z
  obtain ⟨⟨z1, z2, z3⟩, _, _, _⟩ := set3 hZ.symm ⟨x1, x2, x3⟩
  refine bodyPost_ret (by simp [results, Tryz.results198, go_sem, z1, z2, z3]; try rfl) rfl ?_
  exact ⟨rfl, by rw [← hZ]; exact (((chain (chainA hb2) hb3').setCell (Nat.le_refl _) _).setCell (Nat.le_refl _) _).setCell (Nat.le_refl _) _⟩

set_option maxRecDepth 100000 in
set_option maxHeartbeats 4000000 in
theorem guess_none (s : ByteArray) (hs : s.size ≤ 1048576) (w : World) (h1 : ¬ s.data.toList = wNone) (h2 : ¬ s.data.toList = wYes) (h3 : ¬ s.data.toList = wNo) (h4 : s.data.toList.head? ≠ some 39) (hv : ∀ v, Lib.parseIntB 64 s.data.toList ≠ .ok v) (he : ErrAt w) :
    Calls Tryz.prog 198 #[.string s] w fun e w' => ∃ x, e = .returned (.tuple #[.agg #[.int .i64 1, .int .i64 x, .string ⟨#[]⟩], .bool false]) ∧ Below w.heap.size w w' := by
  have q1 : (s.toList == [110, 111, 110, 101]) = false := by rw [Lib.toList_data]; exact beq_eq_false_iff_ne.2 h1
  have q2 : (s.toList == [121, 101, 115]) = false := by rw [Lib.toList_data]; exact beq_eq_false_iff_ne.2 h2
  have q3 : (s.toList == [110, 111]) = false := by rw [Lib.toList_data]; exact beq_eq_false_iff_ne.2 h3
  have hpre : Lib.hasPrefix s.data.toList [39] = false := by
    unfold Lib.hasPrefix
    cases hd : s.data.toList with
    | nil => rfl
    | cons c r =>
      rw [hd] at h4
      have : (39 : UInt8) ≠ c := fun e => h4 (by simp [e])
      simp [List.isPrefixOf, this]
  have hV : Hid (∀ v, Lib.parseIntB 64 s.data.toList ≠ .ok v) := hv
  have hE : Hid (ErrAt w) := he
  clear h1 h2 h3 h4 hv he
  have hen := err_some
  go_enter Tryz.func198, Tryz.ntmps198
  go_wp2_with fail
  refine (Tryz.strings_HasPrefix _ _ _).mono ?_
  rintro e w1 ⟨rfl, rfl⟩
  rw [show (⟨#[39]⟩ : ByteArray).data.toList = [39] from rfl, hpre]
  go_wp2_with fail
  refine (parse_no s hs hV.out _ (hE.out.below ((Below.refl _ _).alloc (Nat.le_refl _) _))).mono ?_
  rintro e w2 ⟨x, N, rfl, hb2⟩
  obtain ⟨⟨a1, b1, c1, d1⟩, f1, f2, f3⟩ := box3F hb2
  go_wp2_with fail
  refine wp_region_any (by kernel_rfl) (show wpAny _ _ _ _ _ _ _ w2.drew from ?_)
  refine wpAny_take (i := 0) (by simp only [List.getElem?_toArray, List.getElem?_cons_zero]; rfl) (by kernel_rfl) (by kernel_rfl) (by kernel_rfl) (by intro _ _ _ h; exact h) (Or.inl ⟨by rfl, fun w => by (go_simp; (try with_reducible rfl))⟩) ?_
  simp only [Act.put, List.setIfInBounds_toArray, List.set_cons_zero, List.set_cons_succ]
  refine wpAny_take (i := 1) (by simp only [List.getElem?_toArray, List.getElem?_cons_zero, List.getElem?_cons_succ]; rfl) (by kernel_rfl) (by kernel_rfl) (by kernel_rfl) (by intro _ _ _ h; exact h) (Or.inl ⟨by rfl, fun w => by (go_simp; (try with_reducible rfl))⟩) ?_
  simp only [Act.put, List.setIfInBounds_toArray, List.set_cons_zero, List.set_cons_succ]
  refine wpAny_take (i := 3) (by simp only [List.getElem?_toArray, List.getElem?_cons_zero, List.getElem?_cons_succ]; rfl) (by kernel_rfl) (by kernel_rfl) (by kernel_rfl) (by intro _ _ _ h; exact h) (Or.inl ⟨by rfl, fun w => by (go_simp; (try with_reducible rfl))⟩) ?_
  simp only [Act.put, List.setIfInBounds_toArray, List.set_cons_zero, List.set_cons_succ]
  refine wpAny_take (i := 4) (by simp only [List.getElem?_toArray, List.getElem?_cons_zero, List.getElem?_cons_succ]; rfl) (by kernel_rfl) (by kernel_rfl) (by kernel_rfl) (by intro _ _ _ h; exact h) (Or.inl ⟨by rfl, fun w => by (go_simp; (try with_reducible rfl))⟩) ?_
  simp only [Act.put, List.setIfInBounds_toArray, List.set_cons_zero, List.set_cons_succ]
  refine wpAny_ready (rs := [2]) (by kernel_rfl) (by simp) ?_
  refine AllReady.cons (by simp only [List.getElem?_toArray, List.getElem?_cons_zero, List.getElem?_cons_succ]; rfl) ?_ AllReady.nil
  intro K hK
  go_simp
  refine (cell1 _ _).mono ?_
  rintro e w3 ⟨rfl, hb3⟩
  have hb3' := undrew hb3
  obtain ⟨x1, x2, x3, x4⟩ := later3 (B := w.heap.size) hb3' ⟨a1, b1, c1, d1⟩
  obtain ⟨y1, y2, y3⟩ := frozen3 (B := w.heap.size) hb3' d1 ⟨f1, f2, f3⟩
  clear a1 b1 c1 f1 f2 f3 hb3
  refine hK _ _ ?_
  clear hK K
  try simp only [Act.put, List.setIfInBounds_toArray, List.set_cons_zero, List.set_cons_succ]
  refine wpAny_ready (rs := [5]) (by kernel_rfl) (by simp) ?_
  refine AllReady.cons (by simp only [List.getElem?_toArray, List.getElem?_cons_zero, List.getElem?_cons_succ]; rfl) ?_ AllReady.nil
  intro K hK
  go_simp
  refine hK _ _ ?_
  clear hK K
  try simp only [Act.put, List.setIfInBounds_toArray, List.set_cons_zero, List.set_cons_succ]
  refine wpAny_take (i := 6) (by simp only [List.getElem?_toArray, List.getElem?_cons_zero, List.getElem?_cons_succ]; rfl) (by kernel_rfl) (by kernel_rfl) (by kernel_rfl) (by intro _ _ _ h; exact h) (Or.inl ⟨by rfl, fun w => by (go_simp; (try with_reducible rfl))⟩) ?_
  simp only [Act.put, List.setIfInBounds_toArray, List.set_cons_zero, List.set_cons_succ]
  refine wpAny_done (by kernel_rfl) ?_ _
  go_wp2_with fail
  generalize hZ : ((w3.setCell ⟨w.heap.size, 0, none⟩ _).setCell ⟨w.heap.size, 1, none⟩ _).setCell ⟨w.heap.size, 2, none⟩ _ = Z
  obtain ⟨⟨z1, z2, z3⟩, _, _, _⟩ := set3 hZ.symm ⟨x1, x2, x3⟩
  refine bodyPost_ret (by simp [results, Tryz.results198, go_sem, z1, z2, z3]; try rfl) rfl ?_
  exact ⟨x, rfl, by rw [← hZ]; exact (((chain (chainA hb2) hb3').setCell (Nat.le_refl _) _).setCell (Nat.le_refl _) _).setCell (Nat.le_refl _) _⟩

set_option maxRecDepth 100000 in
set_option maxHeartbeats 4000000 in
theorem guess_quote (s : ByteArray) (hs : s.size ≤ 1048576) (w : World) (h4 : s.data.toList.head? = some 39) (t : ByteArray) (ht : t.data.toList = innerL s.data.toList) :
    Calls Tryz.prog 198 #[.string s] w fun e w' => e = .returned (.tuple #[.agg #[.int .i64 2, .int .i64 0, .string t], .bool true]) ∧ Below w.heap.size w w' := by
  have h1 : ¬ s.data.toList = wNone := fun e => by rw [e] at h4; cases h4
  have h2 : ¬ s.data.toList = wYes := fun e => by rw [e] at h4; cases h4
  have h3 : ¬ s.data.toList = wNo := fun e => by rw [e] at h4; cases h4
  have q1 : (s.toList == [110, 111, 110, 101]) = false := by rw [Lib.toList_data]; exact beq_eq_false_iff_ne.2 h1
  have q2 : (s.toList == [121, 101, 115]) = false := by rw [Lib.toList_data]; exact beq_eq_false_iff_ne.2 h2
  have q3 : (s.toList == [110, 111]) = false := by rw [Lib.toList_data]; exact beq_eq_false_iff_ne.2 h3
  have hpre : Lib.hasPrefix s.data.toList [39] = true := by
    unfold Lib.hasPrefix
    cases hd : s.data.toList with
    | nil => rw [hd] at h4; cases h4
    | cons c r =>
      rw [hd] at h4
      have : c = 39 := by simpa using h4
      simp [List.isPrefixOf, this]
  obtain ⟨u, hu⟩ : ∃ u : ByteArray, (⟨(Lib.trimPrefix s.data.toList [39]).toArray⟩ : ByteArray) = u := ⟨_, rfl⟩
  have hul : u.data.toList = Lib.trimPrefix s.data.toList [39] := by rw [← hu]
  have hus : u.size ≤ 9223372036854775807 := by
    have hle : (Lib.trimPrefix s.data.toList [39]).length ≤ s.data.toList.length := by unfold Lib.trimPrefix; split <;> simp
    rw [Lib.size_eq, hul]
    rw [Lib.size_eq] at hs
    omega
  have hut : (⟨(Lib.trimSuffix u.data.toList [39]).toArray⟩ : ByteArray) = t := bytes_ext (by rw [bytes_mk, hul, ht]; rfl)
  have HU : Hid ((⟨(Lib.trimPrefix s.data.toList [39]).toArray⟩ : ByteArray) = u) := hu
  have HT : Hid ((⟨(Lib.trimSuffix u.data.toList [39]).toArray⟩ : ByteArray) = t) := hut
  clear h1 h2 h3 h4 ht hul hu hut
  go_enter Tryz.func198, Tryz.ntmps198
  go_wp2_with fail
  refine (Tryz.strings_HasPrefix _ _ _).mono ?_
  rintro e w1 ⟨rfl, rfl⟩
  rw [show (⟨#[39]⟩ : ByteArray).data.toList = [39] from rfl, hpre]
  go_wp2_with fail
  refine (Tryz.strings_TrimPrefix _ _ _).mono ?_
  rintro e w2 ⟨rfl, rfl⟩
  rw [show (⟨#[39]⟩ : ByteArray).data.toList = [39] from rfl, HU.out]
  go_wp2_with fail
  refine (Tryz.strings_TrimSuffix _ _ _ hus).mono ?_
  rintro e w3 ⟨rfl, rfl⟩
  rw [show (⟨#[39]⟩ : ByteArray).data.toList = [39] from rfl, HT.out]
  go_wp2_with fail
  refine (cell2 _ _).mono ?_
  rintro e w4 ⟨rfl, hb4⟩
  obtain ⟨⟨a1, b1, c1, d1⟩, f1, f2, f3⟩ := box3F hb4
  go_wp2
  generalize hZ : ((w4.setCell ⟨w.heap.size, 0, none⟩ _).setCell ⟨w.heap.size, 1, none⟩ _).setCell ⟨w.heap.size, 2, none⟩ _ = Z
  obtain ⟨⟨z1, z2, z3⟩, _, _, _⟩ := set3 hZ.symm ⟨a1, b1, c1⟩
  refine bodyPost_ret (by simp [results, Tryz.results198, go_sem, z1, z2, z3]; try rfl) rfl ?_
  exact ⟨rfl, by rw [← hZ]; exact (((chainA hb4).setCell (Nat.le_refl _) _).setCell (Nat.le_refl _) _).setCell (Nat.le_refl _) _⟩

set_option maxRecDepth 100000 in
set_option maxHeartbeats 4000000 in
theorem guess_word (s : ByteArray) (w : World) (k n : Int) (h : (s.data.toList = wNone ∧ k = 0 ∧ n = 0) ∨ (s.data.toList = wYes ∧ k = 3 ∧ n = 1) ∨ (s.data.toList = wNo ∧ k = 3 ∧ n = 0)) :
    Calls Tryz.prog 198 #[.string s] w fun e w' => e = .returned (.tuple #[.agg #[.int .i64 k, .int .i64 n, .string ⟨#[]⟩], .bool true]) ∧ Below w.heap.size w w' := by
  rcases h with ⟨h, rfl, rfl⟩ | ⟨h, rfl, rfl⟩ | ⟨h, rfl, rfl⟩
  · have e : s = ⟨wNone.toArray⟩ := bytes_ext h
    subst e
    go_enter Tryz.func198, Tryz.ntmps198
    go_wp2_with fail
    refine (cell0 _).mono ?_
    rintro e w4 ⟨rfl, hb4⟩
    obtain ⟨⟨a1, b1, c1, d1⟩, f1, f2, f3⟩ := box3F hb4
    go_wp2
    generalize hZ : ((w4.setCell ⟨w.heap.size, 0, none⟩ _).setCell ⟨w.heap.size, 1, none⟩ _).setCell ⟨w.heap.size, 2, none⟩ _ = Z
    obtain ⟨⟨z1, z2, z3⟩, _, _, _⟩ := set3 hZ.symm ⟨a1, b1, c1⟩
    refine bodyPost_ret (by simp [results, Tryz.results198, go_sem, z1, z2, z3]; try rfl) rfl ?_
    exact ⟨rfl, by rw [← hZ]; exact (((chainA hb4).setCell (Nat.le_refl _) _).setCell (Nat.le_refl _) _).setCell (Nat.le_refl _) _⟩
  · have e : s = ⟨wYes.toArray⟩ := bytes_ext h
    subst e
    go_enter Tryz.func198, Tryz.ntmps198
    go_wp2_with fail
    refine (truth_implb _ 1 rfl _).mono ?_
    rintro e w4 ⟨rfl, hb4⟩
    obtain ⟨⟨a1, b1, c1, d1⟩, f1, f2, f3⟩ := box3F hb4
    go_wp2
    generalize hZ : ((w4.setCell ⟨w.heap.size, 0, none⟩ _).setCell ⟨w.heap.size, 1, none⟩ _).setCell ⟨w.heap.size, 2, none⟩ _ = Z
    obtain ⟨⟨z1, z2, z3⟩, _, _, _⟩ := set3 hZ.symm ⟨a1, b1, c1⟩
    refine bodyPost_ret (by simp [results, Tryz.results198, go_sem, z1, z2, z3]; try rfl) rfl ?_
    exact ⟨rfl, by rw [← hZ]; exact (((chainA hb4).setCell (Nat.le_refl _) _).setCell (Nat.le_refl _) _).setCell (Nat.le_refl _) _⟩
  · have e : s = ⟨wNo.toArray⟩ := bytes_ext h
    subst e
    go_enter Tryz.func198, Tryz.ntmps198
    go_wp2_with fail
    refine (truth_implb _ 0 rfl _).mono ?_
    rintro e w4 ⟨rfl, hb4⟩
    obtain ⟨⟨a1, b1, c1, d1⟩, f1, f2, f3⟩ := box3F hb4
    go_wp2
    generalize hZ : ((w4.setCell ⟨w.heap.size, 0, none⟩ _).setCell ⟨w.heap.size, 1, none⟩ _).setCell ⟨w.heap.size, 2, none⟩ _ = Z
    obtain ⟨⟨z1, z2, z3⟩, _, _, _⟩ := set3 hZ.symm ⟨a1, b1, c1⟩
    refine bodyPost_ret (by simp [results, Tryz.results198, go_sem, z1, z2, z3]; try rfl) rfl ?_
    exact ⟨rfl, by rw [← hZ]; exact (((chainA hb4).setCell (Nat.le_refl _) _).setCell (Nat.le_refl _) _).setCell (Nat.le_refl _) _⟩


set_option maxRecDepth 100000 in
set_option maxHeartbeats 4000000 in
/-- Behind the guess: the cell is taken only where it is written just so. -/
theorem read_by (s : ByteArray) (w : World) (k n : Int) (t : ByteArray) (ht : t.size ≤ maxLen) (hp : PowAt w) (same : Bool) (hsame : ((cellT k n t).toList == s.toList) = same)
    (hg : ∀ w', Below w.heap.size w w' → Calls Tryz.prog 198 #[.string s] w' fun e w'' => e = .returned (.tuple #[.agg #[.int .i64 k, .int .i64 n, .string t], .bool true]) ∧ Below w'.heap.size w' w'') :
    Calls Tryz.prog 185 #[.string s] w fun e w' => e = .returned (.tuple #[.agg #[.int .i64 (if same = true then k else 0), .int .i64 (if same = true then n else 0), .string (if same = true then t else ⟨#[]⟩)], .bool same]) ∧ Below w.heap.size w w' := by
  obtain ⟨y, hy⟩ : ∃ y, cellT k n t = y := ⟨_, rfl⟩
  rw [hy] at hsame
  have HP : Hid (PowAt w) := hp
  have HY : Hid (cellT k n t = y) := hy
  have HG : Hid (∀ w', Below w.heap.size w w' → Calls Tryz.prog 198 #[.string s] w' fun e w'' => e = .returned (.tuple #[.agg #[.int .i64 k, .int .i64 n, .string t], .bool true]) ∧ Below w'.heap.size w' w'') := hg
  clear hp hy hg
  cases same
  · rw [if_neg (by decide), if_neg (by decide), if_neg (by decide)]
    go_enter Tryz.func185, Tryz.ntmps185
    go_wp2_with fail
    refine (HG.out _ ((Below.refl _ _).alloc (Nat.le_refl _) _)).mono ?_
    rintro e w1 ⟨rfl, hb1⟩
    obtain ⟨⟨a1, b1, c1, d1⟩, f1, f2, f3⟩ := box3F hb1
    go_wp2_with fail
    refine (ctext_implb _ _ _ y HY.out _ ht (HP.out.below (chain (chainA hb1) ((Below.refl _ _).alloc (Nat.le_refl _) _)))).mono ?_
    rintro e w2 ⟨rfl, hb2⟩
    obtain ⟨p1, p2, p3, p4⟩ := box3 hb2
    obtain ⟨x1, x2, x3, x4⟩ := later3 (B := w.heap.size) (chainA hb2) ⟨a1, b1, c1, d1⟩
    obtain ⟨y1, y2, y3⟩ := frozen3 (B := w.heap.size) (chainA hb2) d1 ⟨f1, f2, f3⟩
    clear a1 b1 c1 f1 f2 f3
    go_wp2
    generalize hZ : ((w2.setCell ⟨w.heap.size, 0, none⟩ _).setCell ⟨w.heap.size, 1, none⟩ _).setCell ⟨w.heap.size, 2, none⟩ _ = Z
    obtain ⟨⟨z1, z2, z3⟩, _, _, _⟩ := set3 hZ.symm ⟨x1, x2, x3⟩
    refine bodyPost_ret (by simp [results, Tryz.results185, go_sem, z1, z2, z3]; try rfl) rfl ?_
    exact ⟨rfl, by rw [← hZ]; exact (((chain (chainA hb1) (chainA hb2)).setCell (Nat.le_refl _) _).setCell (Nat.le_refl _) _).setCell (Nat.le_refl _) _⟩
  · rw [if_pos rfl, if_pos rfl, if_pos rfl]
    go_enter Tryz.func185, Tryz.ntmps185
    go_wp2_with fail
    refine (HG.out _ ((Below.refl _ _).alloc (Nat.le_refl _) _)).mono ?_
    rintro e w1 ⟨rfl, hb1⟩
    obtain ⟨⟨a1, b1, c1, d1⟩, f1, f2, f3⟩ := box3F hb1
    go_wp2_with fail
    refine (ctext_implb _ _ _ y HY.out _ ht (HP.out.below (chain (chainA hb1) ((Below.refl _ _).alloc (Nat.le_refl _) _)))).mono ?_
    rintro e w2 ⟨rfl, hb2⟩
    obtain ⟨p1, p2, p3, p4⟩ := box3 hb2
    obtain ⟨x1, x2, x3, x4⟩ := later3 (B := w.heap.size) (chainA hb2) ⟨a1, b1, c1, d1⟩
    obtain ⟨y1, y2, y3⟩ := frozen3 (B := w.heap.size) (chainA hb2) d1 ⟨f1, f2, f3⟩
    clear a1 b1 c1 f1 f2 f3
    go_wp2
    generalize hZ : ((w2.setCell ⟨w.heap.size, 0, none⟩ _).setCell ⟨w.heap.size, 1, none⟩ _).setCell ⟨w.heap.size, 2, none⟩ _ = Z
    obtain ⟨⟨z1, z2, z3⟩, _, _, _⟩ := set3 hZ.symm ⟨x1, x2, x3⟩
    refine bodyPost_ret (by simp [results, Tryz.results185, go_sem, z1, z2, z3]; try rfl) rfl ?_
    exact ⟨rfl, by rw [← hZ]; exact (((chain (chainA hb1) (chainA hb2)).setCell (Nat.le_refl _) _).setCell (Nat.le_refl _) _).setCell (Nat.le_refl _) _⟩

set_option maxRecDepth 100000 in
set_option maxHeartbeats 4000000 in
theorem read_not (s : ByteArray) (w : World)
    (hg : ∀ w', Below w.heap.size w w' → Calls Tryz.prog 198 #[.string s] w' fun e w'' => ∃ x, e = .returned (.tuple #[.agg #[.int .i64 1, .int .i64 x, .string ⟨#[]⟩], .bool false]) ∧ Below w'.heap.size w' w'') :
    Calls Tryz.prog 185 #[.string s] w fun e w' => e = .returned (.tuple #[.agg #[.int .i64 0, .int .i64 0, .string ⟨#[]⟩], .bool false]) ∧ Below w.heap.size w w' := by
  have HG : Hid (∀ w', Below w.heap.size w w' → Calls Tryz.prog 198 #[.string s] w' fun e w'' => ∃ x, e = .returned (.tuple #[.agg #[.int .i64 1, .int .i64 x, .string ⟨#[]⟩], .bool false]) ∧ Below w'.heap.size w' w'') := hg
  clear hg
  go_enter Tryz.func185, Tryz.ntmps185
  go_wp2_with fail
  refine (HG.out _ ((Below.refl _ _).alloc (Nat.le_refl _) _)).mono ?_
  rintro e w1 ⟨x, rfl, hb1⟩
  obtain ⟨⟨a1, b1, c1, d1⟩, f1, f2, f3⟩ := box3F hb1
  go_wp2
  generalize hZ : ((w1.setCell ⟨w.heap.size, 0, none⟩ _).setCell ⟨w.heap.size, 1, none⟩ _).setCell ⟨w.heap.size, 2, none⟩ _ = Z
  obtain ⟨⟨z1, z2, z3⟩, z4, _, _⟩ := set3 hZ.symm ⟨a1, b1, c1⟩
  have hbZ : Below w.heap.size w Z := by rw [← hZ]; exact (((chainA hb1).setCell (Nat.le_refl _) _).setCell (Nat.le_refl _) _).setCell (Nat.le_refl _) _
  have hbA : Below Z.heap.size Z (Z.alloc (.cells #[.int .i64 1, .int .i64 x, .string ⟨#[]⟩] 114)) := (Below.refl _ _).alloc (Nat.le_refl _) _
  obtain ⟨u1, u2, u3, _⟩ := later3 (B := w.heap.size) hbA ⟨z1, z2, z3, by omega⟩
  have hbY := chain hbZ hbA
  generalize Z.alloc (.cells #[.int .i64 1, .int .i64 x, .string ⟨#[]⟩] 114) = Y at u1 u2 u3 hbY ⊢
  refine bodyPost_ret (by simp [results, Tryz.results185, go_sem, u1, u2, u3]; try rfl) rfl ?_
  exact ⟨rfl, hbY⟩

theorem same_bytes {y s : ByteArray} (h : y = s) : (y.toList == s.toList) = true := by rw [h]; simp
theorem other_bytes {y s : ByteArray} (h : y ≠ s) : (y.toList == s.toList) = false := by
  rw [beq_eq_false_iff_ne]
  intro e
  exact h (bytes_eq e)
theorem innerL_len (l : List UInt8) : (innerL l).length ≤ l.length := by
  unfold innerL Lib.trimSuffix Lib.trimPrefix
  split <;> split <;> simp <;> omega

/-- The program's ReadCell answers as the model's. -/
theorem readcell_impl (s : ByteArray) (hs : s.size ≤ 1048576) (w : World) (hp : PowAt w) (he : ErrAt w) (k n : Int) (t : ByteArray) (b : Bool) (hR : readR s = (k, n, t, b)) :
    Calls Tryz.prog 185 #[.string s] w fun e w' => e = .returned (.tuple #[.agg #[.int .i64 k, .int .i64 n, .string t], .bool b]) ∧ Below w.heap.size w w' := by
  unfold readR at hR
  cases hB : readB s with
  | some c =>
    obtain ⟨k', n', t'⟩ := c
    rw [hB] at hR
    injection hR with e1 hR; injection hR with e2 hR; injection hR with e3 e4
    subst e1 e2 e3 e4
    obtain ⟨ho, hcs⟩ := readB_some hB
    have ht : t'.size ≤ maxLen := by
      have hl := l4T_len ho
      have e := cellT_ok ho
      rcases okB_kind ho with rfl | rfl | rfl | rfl
      · rw [(okB_0 ho).2]; exact Nat.zero_le _
      · rw [(okB_1 ho).2]; exact Nat.zero_le _
      · have := (okB_2 ho).2
        unfold textB at this
        rw [Bool.and_eq_true, decide_eq_true_eq] at this
        unfold maxLen; omega
      · rw [(okB_3 ho).2]; exact Nat.zero_le _
    have fin := fun hg => read_by s w k' n' t' ht hp true (same_bytes hcs) hg
    rw [if_pos rfl, if_pos rfl, if_pos rfl] at fin
    refine fin ?_
    intro w' _
    rcases guess_text hB with ⟨rfl, rfl, rfl, h⟩ | ⟨rfl, rfl, rfl, h⟩ | ⟨rfl, rfl, rfl, h⟩ | ⟨rfl, rfl, h, hh⟩ | ⟨rfl, rfl, h, hh⟩
    · exact guess_word s w' 0 0 (.inl ⟨h, rfl, rfl⟩)
    · exact guess_word s w' 3 1 (.inr (.inl ⟨h, rfl, rfl⟩))
    · exact guess_word s w' 3 0 (.inr (.inr ⟨h, rfl, rfl⟩))
    · exact guess_quote s hs w' hh t' h
    · have hne : ∀ l : List UInt8, l.head? = some 110 ∨ l.head? = some 121 → ¬ s.data.toList = l := by
        intro l hl e
        rw [← hcs, cellT_ok ho, l4T_1] at e
        obtain ⟨c, r, hc, hx⟩ := itoa_head n'
        rw [← e, hc] at hl
        have : c = 110 ∨ c = 121 := by simpa using hl
        rcases this with rfl | rfl <;> rcases hx with hx | hx <;> exact absurd hx (by decide)
      exact guess_num s hs w' (hne _ (.inl rfl)) (hne _ (.inr rfl)) (hne _ (.inl rfl)) hh n' h
  | none =>
    rw [hB] at hR
    injection hR with e1 hR; injection hR with e2 hR; injection hR with e3 e4
    subst e1 e2 e3 e4
    have hw : ∀ l : List UInt8, (l = wNone ∨ l = wYes ∨ l = wNo) → ¬ s.data.toList = l := by
      intro l hl e
      unfold readB at hB
      rcases hl with rfl | rfl | rfl
      · rw [if_pos e] at hB; cases hB
      · rw [if_neg (by rw [e]; decide), if_pos e] at hB; cases hB
      · rw [if_neg (by rw [e]; decide), if_neg (by rw [e]; decide), if_pos e] at hB; cases hB
    by_cases hq : s.data.toList.head? = some 39
    · have hs0 : s ≠ ⟨#[]⟩ := fun e => by rw [e] at hq; cases hq
      obtain ⟨t', ht'⟩ : ∃ t' : ByteArray, t'.data.toList = innerL s.data.toList := ⟨⟨(innerL s.data.toList).toArray⟩, rfl⟩
      have htl : t'.size ≤ maxLen := by
        rw [Lib.size_eq, ht']
        have := innerL_len s.data.toList
        rw [Lib.size_eq] at hs
        unfold maxLen; omega
      have fin := fun hg => read_by s w 2 0 t' htl hp false (other_bytes (guess_no hB hs0 2 0 t')) hg
      rw [if_neg (by decide), if_neg (by decide), if_neg (by decide)] at fin
      exact fin (fun w' _ => guess_quote s hs w' hq t' ht')
    · cases hv : Lib.parseIntB 64 s.data.toList with
      | ok v =>
        have hs0 : s ≠ ⟨#[]⟩ := fun e => by rw [e] at hv; cases hv
        have fin := fun hg => read_by s w 1 v ⟨#[]⟩ (Nat.zero_le _) hp false (other_bytes (guess_no hB hs0 1 v ⟨#[]⟩)) hg
        rw [if_neg (by decide), if_neg (by decide), if_neg (by decide)] at fin
        exact fin (fun w' _ => guess_num s hs w' (hw _ (.inl rfl)) (hw _ (.inr (.inl rfl))) (hw _ (.inr (.inr rfl))) hq v hv)
      | «syntax» => exact read_not s w (fun w' hb => guess_none s hs w' (hw _ (.inl rfl)) (hw _ (.inr (.inl rfl))) (hw _ (.inr (.inr rfl))) hq (fun v e => by rw [hv] at e; cases e) (he.below hb))
      | range => exact read_not s w (fun w' hb => guess_none s hs w' (hw _ (.inl rfl)) (hw _ (.inr (.inl rfl))) (hw _ (.inr (.inr rfl))) hq (fun v e => by rw [hv] at e; cases e) (he.below hb))

end Go.Proofs.YtjiaciikbnpicaaGreatDoor

/-
  The contracts of the program's questions for a token, and of what one piece is read as.
-/
namespace Go.Proofs.YtjiaciikbnpicaaGreatDoor
open Go.ChangeShapes Go.WideShapes Go.ChangeAt Go.RowKit
attribute [local go_sem ↓] Go.wp_at_zero Go.wp_at_succ
attribute [local simp] World.cell?_alloc_past World.cell?_alloc_at World.frozen?_alloc_at cell_far cell_off cell_here World.frozen?_alloc_past

/-- A name that is no other word: a name that is neither read as a cell nor a sign. -/
theorem nameK_free (s : ByteArray) : nameK s = (nameB s && (!(readB s).isSome && !signB s)) := by
  cases hn : nameB s with
  | false => unfold nameK; rw [hn]; rfl
  | true =>
    have hn2 := hn
    unfold nameB at hn2
    simp only [Bool.and_eq_true, decide_eq_true_eq] at hn2
    obtain ⟨_, h2, _⟩ := hn2
    have hO : inB signO s = false := by
      cases hq : inB signO s with
      | false => rfl
      | true =>
        exfalso
        have hm := inB_iff.1 hq
        have hall := List.all_eq_true.1 h2
        simp only [signO, List.mem_cons, List.not_mem_nil, or_false] at hm
        rcases hm with rfl | rfl | rfl | rfl | rfl | rfl | rfl | rfl <;> exact absurd (hall _ (List.mem_cons_self ..)) (by decide)
    have hR : (readB s).isSome = !(decide (s.data.toList ≠ wNone) && (decide (s.data.toList ≠ wYes) && decide (s.data.toList ≠ wNo))) := by
      cases hq : readB s with
      | none =>
        unfold readB at hq
        by_cases e1 : s.data.toList = wNone
        · rw [if_pos e1] at hq; cases hq
        by_cases e2 : s.data.toList = wYes
        · rw [if_neg e1, if_pos e2] at hq; cases hq
        by_cases e3 : s.data.toList = wNo
        · rw [if_neg e1, if_neg e2, if_pos e3] at hq; cases hq
        rw [decide_eq_true e1, decide_eq_true e2, decide_eq_true e3]; rfl
      | some d =>
        have es : (⟨s.data.toList.toArray⟩ : ByteArray) = s := rfl
        rw [← es] at hq
        rcases readB_head hq with q | q | q | ⟨b, x, q, hb⟩
        · simp [q]
        · simp [q]
        · simp [q]
        · exfalso
          have hl : letB b = true := List.all_eq_true.1 h2 b (by rw [q]; simp)
          rcases hb with hb | rfl | rfl
          · rw [letB_dig hb] at hl; cases hl
          · exact absurd hl (by decide)
          · exact absurd hl (by decide)
    unfold nameK signB
    rw [hn, hO, hR, Bool.or_false, Bool.not_not]
    cases inB signW s <;> cases (decide (s.data.toList ≠ wNone) && (decide (s.data.toList ≠ wYes) && decide (s.data.toList ≠ wNo))) <;> rfl
theorem readR_b {s : ByteArray} {k n : Int} {t : ByteArray} {b : Bool} (h : readR s = (k, n, t, b)) : (readB s).isSome = b ∧ (b = true → readB s = some (k, n, t)) := by
  unfold readR at h
  cases hq : readB s with
  | none =>
    rw [hq] at h
    injection h with _ h; injection h with _ h; injection h with _ h
    subst h
    exact ⟨rfl, fun h => by cases h⟩
  | some d =>
    obtain ⟨k', n', t'⟩ := d
    rw [hq] at h
    injection h with h1 h; injection h with h2 h; injection h with h3 h
    subst h1 h2 h3 h
    exact ⟨rfl, fun _ => rfl⟩

theorem not_lit {s : ByteArray} {l : List UInt8} (h : s ≠ ⟨l.toArray⟩) : (s.toList == l) = false := by
  rw [Lib.toList_data, beq_eq_false_iff_ne]
  exact fun e => h (bytes_ext e)
set_option maxRecDepth 100000 in
set_option maxHeartbeats 4000000 in
theorem sign_impl (s : ByteArray) (b : Bool) (hb : signB s = b) (w : World) :
    Calls Tryz.prog 186 #[.string s] w fun e w' => e = .returned (.bool b) ∧ w' = w := by
  cases b with
  | true =>
    unfold signB at hb
    rw [Bool.or_eq_true] at hb
    rcases hb with hs | hs
    · have hm := inB_iff.1 hs
      simp only [signW, List.mem_cons, List.not_mem_nil, or_false] at hm
      clear hs
      rcases hm with rfl | rfl | rfl | rfl
      all_goals
        go_enter Tryz.func186, Tryz.ntmps186
        go_wp2
        go_ret
        exact ⟨rfl, rfl⟩
    · have hm := inB_iff.1 hs
      simp only [signO, List.mem_cons, List.not_mem_nil, or_false] at hm
      clear hs
      rcases hm with rfl | rfl | rfl | rfl | rfl | rfl | rfl | rfl
      all_goals
        go_enter Tryz.func186, Tryz.ntmps186
        go_wp2
        go_ret
        exact ⟨rfl, rfl⟩
  | false =>
    unfold signB at hb
    rw [Bool.or_eq_false_iff, inB_no, inB_no] at hb
    obtain ⟨h1, h2⟩ := hb
    simp only [signW, signO, List.mem_cons, List.not_mem_nil, or_false, not_or] at h1 h2
    obtain ⟨a1, a2, a3, a4⟩ := h1
    obtain ⟨b1, b2, b3, b4, b5, b6, b7, b8⟩ := h2
    have q1 := not_lit (l := [97, 110, 100]) a1
    have q2 := not_lit (l := [111, 114]) a2
    have q3 := not_lit (l := [110, 111, 116]) a3
    have q4 := not_lit (l := [108, 97, 99, 107, 115]) a4
    have r1 := not_lit (l := [43]) b1
    have r2 := not_lit (l := [45]) b2
    have r3 := not_lit (l := [42]) b3
    have r4 := not_lit (l := [47]) b4
    have r5 := not_lit (l := [61]) b5
    have r6 := not_lit (l := [60]) b6
    have r7 := not_lit (l := [40]) b7
    have r8 := not_lit (l := [41]) b8
    clear a1 a2 a3 a4 b1 b2 b3 b4 b5 b6 b7 b8
    go_enter Tryz.func186, Tryz.ntmps186
    go_wp2
    go_ret
    exact ⟨rfl, rfl⟩
set_option maxHeartbeats 1000000 in
theorem free_impl (s : ByteArray) (hs : s.size ≤ 1048576) (w : World) (hp : PowAt w) (he : ErrAt w) (b : Bool) (hb : nameK s = b) :
    Calls Tryz.prog 163 #[.string s] w fun e w' => e = .returned (.bool b) ∧ Below w.heap.size w w' := by
  have HB : Hid (nameK s = b) := hb
  have HP : Hid (PowAt w) := hp
  have HE : Hid (ErrAt w) := he
  clear hb hp he
  have hsM : s.size ≤ maxLen := by unfold maxLen; omega
  obtain ⟨k, n, t, c, hR⟩ : ∃ k n t c, readR s = (k, n, t, c) := ⟨_, _, _, _, rfl⟩
  have HR : Hid (readR s = (k, n, t, c)) := hR
  obtain ⟨q, hq⟩ : ∃ x, nameB s = x := ⟨_, rfl⟩
  obtain ⟨g, hg⟩ : ∃ x, signB s = x := ⟨_, rfl⟩
  have HQ : Hid (nameB s = q) := hq
  have HG : Hid (signB s = g) := hg
  have HX : Hid ((q && (!c && !g)) = b) := by
    have : (q && (!c && !g)) = b := by rw [← HB.out, nameK_free, hq, hg, (readR_b hR).1]
    exact this
  clear hR hq hg HB
  go_enter Tryz.func163, Tryz.ntmps163
  go_wp2_with fail
  refine (readcell_impl s hs _ HP.out HE.out k n t c HR.out).mono ?_
  rintro e w1 ⟨rfl, hb1⟩
  go_wp2_with fail
  refine (name_impl s _ hsM q HQ.out).mono ?_
  rintro e w2 ⟨rfl, rfl⟩
  cases q
  · obtain rfl : false = b := HX.out
    go_wp2
    go_ret
    exact ⟨rfl, hb1.alloc hb1.size _⟩
  rcases Bool.eq_false_or_eq_true c with rfl | rfl
  · obtain rfl : false = b := HX.out
    go_wp2
    go_ret
    exact ⟨rfl, hb1.alloc hb1.size _⟩
  go_wp2_with fail
  refine (sign_impl s g HG.out _).mono ?_
  rintro e w3 ⟨rfl, rfl⟩
  cases g
  · obtain rfl : true = b := HX.out
    go_wp2
    go_ret
    exact ⟨rfl, hb1.alloc hb1.size _⟩
  · obtain rfl : false = b := HX.out
    go_wp2
    go_ret
    exact ⟨rfl, hb1.alloc hb1.size _⟩
end Go.Proofs.YtjiaciikbnpicaaGreatDoor

/-
  What tokens are read as, level by level, without any program; and that a sum is read from its tokens.
-/
namespace Go.Proofs.YtjiaciikbnpicaaGreatDoor

/-- Is that sign next? What stands behind it. -/
def seesT (s : ByteArray) : List TT → Option (List TT)
  | [] => none
  | t :: r => if t.1 = 3 ∧ t.2.1 = s then some r else none
theorem seesT_cons (s : ByteArray) (t : TT) (r : List TT) : seesT s (t :: r) = if t.1 = 3 ∧ t.2.1 = s then some r else none := rfl
theorem sees_this (s : ByteArray) (c : CK) (r : List TT) : seesT s ((3, s, c) :: r) = some r := by rw [seesT_cons, if_pos ⟨rfl, rfl⟩]
/-- The kinds of a level: or, and, = and <, + and -, * and /. -/
def kindsL (lev : Nat) : List Int := if lev = 0 then [10] else if lev = 1 then [9] else if lev = 3 then [7, 8] else if lev = 4 then [3, 4] else if lev = 5 then [5, 6] else []
/-- Which sign of that level is next, and what stands behind it. -/
def twoK (r : List TT) : List Int → Option (Int × List TT)
  | [] => none
  | k :: ks => match seesT (sgn k) r with
    | some r1 => some (k, r1)
    | none => twoK r ks
def twoT (lev : Nat) (r : List TT) : Option (Int × List TT) := twoK r (kindsL lev)
/-- The item of a token that is one alone. -/
def itmOf (t : TT) : TI := if t.1 = 1 then (2, zeroC, t.2.1) else (1, t.2.2, ⟨#[]⟩)
mutual
/-- A level: 0 or, 1 and, 2 not, 3 = and <, 4 + and -, 5 * and /, 6 lacks, 7 one alone. -/
def levP : Nat → Nat → List TT → Option (List TI × List TT)
  | 0, _, _ => none
  | f + 1, lev, r =>
    if lev = 0 ∨ lev = 1 ∨ lev = 4 ∨ lev = 5 then (levP f (lev + 1) r).bind (fun p => tailP f lev p.1 p.2)
    else if lev = 3 then (levP f 4 r).bind (fun p => match twoT 3 p.2 with
      | none => some p
      | some (k, r2) => (levP f 4 r2).map (fun q => (p.1 ++ (q.1 ++ [opI k]), q.2)))
    else if lev = 2 ∨ lev = 6 then match seesT (sgn (if lev = 2 then 11 else 12)) r with
      | some r1 => (levP f lev r1).map (fun q => (q.1 ++ [opI (if lev = 2 then 11 else 12)], q.2))
      | none => levP f (lev + 1) r
    else match seesT ⟨#[40]⟩ r with
      | some r1 => (levP f 0 r1).bind (fun q => (seesT ⟨#[41]⟩ q.2).map (fun r2 => (q.1, r2)))
      | none => match r with
        | [] => none
        | t :: r1 => if t.1 = 3 then none else some ([itmOf t], r1)
def tailP : Nat → Nat → List TI → List TT → Option (List TI × List TT)
  | 0, _, _, _ => none
  | f + 1, lev, o, r => match twoT lev r with
    | none => some (o, r)
    | some (k, r1) => (levP f (lev + 1) r1).bind (fun p => tailP f lev (o ++ (p.1 ++ [opI k])) p.2)
end
/-- Read at that level, with steps enough. -/
def Par (lev : Nat) (r0 : List TT) (o : List TI) (r : List TT) : Prop := ∃ f0, ∀ f, f0 ≤ f → levP f lev r0 = some (o, r)
theorem Par.up {lev : Nat} {r0 r : List TT} {o : List TI} (h : Par (lev + 1) r0 o r) (hl : lev = 0 ∨ lev = 1 ∨ lev = 4 ∨ lev = 5) (hn : twoT lev r = none) : Par lev r0 o r := by
  obtain ⟨f0, h⟩ := h
  refine ⟨f0 + 2, fun f hf => ?_⟩
  obtain ⟨g, rfl⟩ : ∃ g, f = g + 1 + 1 := ⟨f - 2, by omega⟩
  unfold levP
  rw [if_pos hl, h (g + 1) (by omega)]
  simp only [Option.bind_some]
  unfold tailP
  rw [hn]
theorem Par.up3 {r0 r : List TT} {o : List TI} (h : Par 4 r0 o r) (hn : twoT 3 r = none) : Par 3 r0 o r := by
  obtain ⟨f0, h⟩ := h
  refine ⟨f0 + 1, fun f hf => ?_⟩
  obtain ⟨g, rfl⟩ : ∃ g, f = g + 1 := ⟨f - 1, by omega⟩
  unfold levP
  rw [if_neg (by omega), if_pos rfl, h g (by omega)]
  simp only [Option.bind_some]
  rw [hn]
theorem Par.up2 {lev : Nat} {r0 r : List TT} {o : List TI} (h : Par (lev + 1) r0 o r) (hl : lev = 2 ∨ lev = 6) (hn : seesT (sgn (if lev = 2 then 11 else 12)) r0 = none) : Par lev r0 o r := by
  obtain ⟨f0, h⟩ := h
  refine ⟨f0 + 1, fun f hf => ?_⟩
  obtain ⟨g, rfl⟩ : ∃ g, f = g + 1 := ⟨f - 1, by omega⟩
  unfold levP
  rw [if_neg (by omega), if_neg (by omega), if_pos hl, hn]
  exact h g (by omega)
/-- Nothing of that level or a later one is next. -/
def StopT (lev : Nat) (r : List TT) : Prop := ∀ L, lev ≤ L → L ≤ 5 → twoT L r = none
/-- No sign stands ahead that is followed by one alone. -/
def NoPre (r : List TT) : Prop := seesT (sgn 11) r = none ∧ seesT (sgn 12) r = none
theorem StopT.mono {lev lev' : Nat} {r : List TT} (h : StopT lev r) (hl : lev ≤ lev') : StopT lev' r := fun L h1 h2 => h L (by omega) h2
/-- What is one alone is read at every level above. -/
theorem Par.down {r0 r : List TT} {o : List TI} (h : Par 7 r0 o r) (hp : NoPre r0) {lev : Nat} (hl : lev ≤ 7) (hs : StopT lev r) : Par lev r0 o r := by
  have h6 : lev ≤ 6 → Par 6 r0 o r := fun _ => h.up2 (.inr rfl) hp.2
  have h5 : lev ≤ 5 → Par 5 r0 o r := fun e => (h6 (by omega)).up (by omega) (hs 5 e (by omega))
  have h4 : lev ≤ 4 → Par 4 r0 o r := fun e => (h5 (by omega)).up (by omega) (hs 4 e (by omega))
  have h3 : lev ≤ 3 → Par 3 r0 o r := fun e => (h4 (by omega)).up3 (hs 3 e (by omega))
  have h2 : lev ≤ 2 → Par 2 r0 o r := fun e => (h3 (by omega)).up2 (.inl rfl) hp.1
  have h1 : lev ≤ 1 → Par 1 r0 o r := fun e => (h2 (by omega)).up (by omega) (hs 1 e (by omega))
  have h0 : lev ≤ 0 → Par 0 r0 o r := fun e => (h1 (by omega)).up (by omega) (hs 0 e (by omega))
  have : lev = 0 ∨ lev = 1 ∨ lev = 2 ∨ lev = 3 ∨ lev = 4 ∨ lev = 5 ∨ lev = 6 ∨ lev = 7 := by omega
  rcases this with rfl | rfl | rfl | rfl | rfl | rfl | rfl | rfl
  · exact h0 (by omega)
  · exact h1 (by omega)
  · exact h2 (by omega)
  · exact h3 (by omega)
  · exact h4 (by omega)
  · exact h5 (by omega)
  · exact h6 (by omega)
  · exact h
theorem Par.pre {lev : Nat} {r1 r : List TT} {o : List TI} (hl : lev = 2 ∨ lev = 6) (h : Par lev r1 o r) : Par lev (sgnT (if lev = 2 then 11 else 12) :: r1) (o ++ [opI (if lev = 2 then 11 else 12)]) r := by
  obtain ⟨f0, h⟩ := h
  refine ⟨f0 + 1, fun f hf => ?_⟩
  obtain ⟨g, rfl⟩ : ∃ g, f = g + 1 := ⟨f - 1, by omega⟩
  unfold levP
  rw [if_neg (by omega), if_neg (by omega), if_pos hl]
  have : seesT (sgn (if lev = 2 then 11 else 12)) (sgnT (if lev = 2 then 11 else 12) :: r1) = some r1 := sees_this _ _ _
  rw [this]
  simp only []
  rw [h g (by omega)]
  rfl
theorem Par.two {lev : Nat} {r0 r1 r2 : List TT} {oa ob : List TI} {k : Int} (hl : lev = 0 ∨ lev = 1 ∨ lev = 4 ∨ lev = 5) (ha : Par (lev + 1) r0 oa (sgnT k :: r1)) (ht : twoT lev (sgnT k :: r1) = some (k, r1)) (hb : Par (lev + 1) r1 ob r2) (hn : twoT lev r2 = none) : Par lev r0 (oa ++ (ob ++ [opI k])) r2 := by
  obtain ⟨f1, ha⟩ := ha
  obtain ⟨f2, hb⟩ := hb
  refine ⟨f1 + f2 + 3, fun f hf => ?_⟩
  obtain ⟨g, rfl⟩ : ∃ g, f = g + 1 + 1 + 1 := ⟨f - 3, by omega⟩
  unfold levP
  rw [if_pos hl, ha _ (by omega)]
  simp only [Option.bind_some]
  unfold tailP
  rw [ht]
  simp only []
  rw [hb _ (by omega)]
  simp only [Option.bind_some]
  unfold tailP
  rw [hn]
theorem Par.two3 {r0 r1 r2 : List TT} {oa ob : List TI} {k : Int} (ha : Par 4 r0 oa (sgnT k :: r1)) (ht : twoT 3 (sgnT k :: r1) = some (k, r1)) (hb : Par 4 r1 ob r2) : Par 3 r0 (oa ++ (ob ++ [opI k])) r2 := by
  obtain ⟨f1, ha⟩ := ha
  obtain ⟨f2, hb⟩ := hb
  refine ⟨f1 + f2 + 1, fun f hf => ?_⟩
  obtain ⟨g, rfl⟩ : ∃ g, f = g + 1 := ⟨f - 1, by omega⟩
  unfold levP
  rw [if_neg (by omega), if_pos rfl, ha _ (by omega)]
  simp only [Option.bind_some]
  rw [ht]
  simp only []
  rw [hb _ (by omega)]
  rfl
end Go.Proofs.YtjiaciikbnpicaaGreatDoor

/-
  What tokens are read as, level by level, without counting steps.
-/
namespace Go.Proofs.YtjiaciikbnpicaaGreatDoor

end Go.Proofs.YtjiaciikbnpicaaGreatDoor

/-
  What is read of right tokens is right items; what ReadSum answers.
-/
namespace Go.Proofs.YtjiaciikbnpicaaGreatDoor

end Go.Proofs.YtjiaciikbnpicaaGreatDoor

/-
  The program's reader of sums without any program: signs that wait, and that it answers what the levels read.
-/
namespace Go.Proofs.YtjiaciikbnpicaaGreatDoor

/-- How much a sign binds. -/
def bindK (k : Int) : Nat :=
  if k = 12 then 7 else if k = 5 ∨ k = 6 then 6 else if k = 3 ∨ k = 4 then 5 else if k = 7 ∨ k = 8 then 4 else if k = 11 then 3 else if k = 9 then 2 else if k = 10 then 1 else 0
/-- A sign between two that binds more than that stands next. -/
def OpNext (lev : Nat) (r : List TT) : Prop := ∃ k r1, (3 ≤ k ∧ k ≤ 10) ∧ r = sgnT k :: r1 ∧ lev < bindK k
theorem OpNext.mono {lev lev' : Nat} {r : List TT} (h : OpNext lev' r) (hl : lev ≤ lev') : OpNext lev r := by
  obtain ⟨k, r1, h1, h2, h3⟩ := h
  exact ⟨k, r1, h1, h2, by omega⟩
end Go.Proofs.YtjiaciikbnpicaaGreatDoor
