/-
  A part of the proof: ReadI, TokI, SumMath.
-/
import Derived.Test.YthgbjnchhaoceaaGreatDoorPart10
import Derived.Test.YthgbjnchhaoceaaGreatDoorPart5
import Derived.Test.YthgbjnchhaoceaaGreatDoorPart4
import Derived.Test.YthgbjnchhaoceaaGreatDoorPart9

/-
  The contracts of the program's reading of cells.
-/
namespace Go.Proofs.YthgbjnchhaoceaaGreatDoor
open Go.ChangeShapes Go.WideShapes Go.ChangeAt Go.RowKit
attribute [local go_sem ↓] Go.wp_at_zero Go.wp_at_succ

theorem err_some (v : Value) (w : World) : (binOp .eql 174 (.iface 188 v) .nilIface).run Tryz.prog w = .ok (.bool false) w := by kernel_rfl
theorem err_none (w : World) : (binOp .eql 174 .nilIface .nilIface).run Tryz.prog w = .ok (.bool true) w := by kernel_rfl

theorem parse_ok (s : ByteArray) (hs : s.size ≤ 1048576) (v : Int) (h : Lib.parseIntB 64 s.data.toList = .ok v) (w : World) :
    Calls Tryz.prog 174 #[.string s, .int .i64 10, .int .i64 64] w fun e w' => e = .returned (.tuple #[.int .i64 v, .nilIface]) ∧ Below w.heap.size w w' := by
  refine (Tryz.strconv_ParseInt_10_at64_ok s (by omega) v h w).mono ?_
  rintro e w' ⟨rfl, h⟩
  refine ⟨rfl, ?_⟩
  rcases h with rfl | ⟨t, rfl⟩
  · exact Below.refl _ _
  · exact Lib.bytesWorld_below _ _ _
theorem parse_no (s : ByteArray) (hs : s.size ≤ 1048576) (h : ∀ v, Lib.parseIntB 64 s.data.toList ≠ .ok v) (w : World) (he : ErrAt w) :
    Calls Tryz.prog 174 #[.string s, .int .i64 10, .int .i64 64] w fun e w' => ∃ x N, e = .returned (.tuple #[.int .i64 x, .iface 188 (.pointer (some ⟨N, 0, none⟩))]) ∧ Below w.heap.size w w' := by
  obtain ⟨⟨tp, p, h1⟩, ⟨tq, q, h2⟩⟩ := he
  cases hp : Lib.parseIntB 64 s.data.toList with
  | ok v => exact absurd hp (h v)
  | «syntax» =>
    refine (Tryz.strconv_ParseInt_10_at64_syntax_var s (by omega) hp tp p w h1).mono ?_
    rintro e w' ⟨N, rfl, _, _, hb⟩
    exact ⟨_, N, rfl, hb⟩
  | range =>
    refine (Tryz.strconv_ParseInt_10_at64_range_var s (by omega) hp tq q w h2).mono ?_
    rintro e w' ⟨N, rfl, _, _, hb⟩
    exact ⟨_, N, rfl, hb⟩

set_option maxRecDepth 100000 in
set_option maxHeartbeats 4000000 in
theorem guess_num (s : ByteArray) (hs : s.size ≤ 1048576) (w : World) (h1 : ¬ s.data.toList = wNone) (h2 : ¬ s.data.toList = wYes) (h3 : ¬ s.data.toList = wNo) (h4 : s.data.toList.head? ≠ some 39) (v : Int) (hv : Lib.parseIntB 64 s.data.toList = .ok v) :
    Calls Tryz.prog 163 #[.string s] w fun e w' => e = .returned (.tuple #[.agg #[.int .i64 1, .int .i64 v, .string ⟨#[]⟩], .bool true]) ∧ Below w.heap.size w w' := by
  have q1 : (s.toList == [110, 111, 110, 101]) = false := by rw [Lib.toList_data]; exact beq_eq_false_iff_ne.2 h1
  have q2 : (s.toList == [121, 101, 115]) = false := by rw [Lib.toList_data]; exact beq_eq_false_iff_ne.2 h2
  have q3 : (s.toList == [110, 111]) = false := by rw [Lib.toList_data]; exact beq_eq_false_iff_ne.2 h3
  have hpre : Lib.hasPrefix s.data.toList [39] = false := by
    unfold Lib.hasPrefix
    cases hd : s.data.toList with
    | nil => rfl
    | cons c r =>
      rw [hd] at h4
      have : (39 : UInt8) ≠ c := fun e => h4 (by simp [e])
      simp [List.isPrefixOf, this]
  have hV : Hid (Lib.parseIntB 64 s.data.toList = .ok v) := hv
  clear h1 h2 h3 h4 hv
  have hen := err_none
  go_enter Tryz.func163, Tryz.ntmps163
  go_wp2_with fail
  refine (Tryz.strings_HasPrefix _ _ _).mono ?_
  rintro e w1 ⟨rfl, rfl⟩
  rw [show (⟨#[39]⟩ : ByteArray).data.toList = [39] from rfl, hpre]
  go_wp2_with fail
  refine (parse_ok s hs v hV.out _).mono ?_
  rintro e w2 ⟨rfl, hb2⟩
  obtain ⟨⟨a1, b1, c1, d1⟩, f1, f2, f3⟩ := box3F hb2
  go_wp2_with fail
  refine wp_region_any (by kernel_rfl) (show wpAny _ _ _ _ _ _ _ w2.drew from ?_)
  refine wpAny_take (i := 0) (by simp only [List.getElem?_toArray, List.getElem?_cons_zero]; rfl) (by kernel_rfl) (by kernel_rfl) (by kernel_rfl) (by intro _ _ _ h; exact h) (Or.inl ⟨by rfl, fun w => by (go_simp; (try with_reducible rfl))⟩) ?_
  simp only [Act.put, List.setIfInBounds_toArray, List.set_cons_zero, List.set_cons_succ]
  refine wpAny_take (i := 1) (by simp only [List.getElem?_toArray, List.getElem?_cons_zero, List.getElem?_cons_succ]; rfl) (by kernel_rfl) (by kernel_rfl) (by kernel_rfl) (by intro _ _ _ h; exact h) (Or.inl ⟨by rfl, fun w => by (go_simp; (try with_reducible rfl))⟩) ?_
  simp only [Act.put, List.setIfInBounds_toArray, List.set_cons_zero, List.set_cons_succ]
  refine wpAny_take (i := 3) (by simp only [List.getElem?_toArray, List.getElem?_cons_zero, List.getElem?_cons_succ]; rfl) (by kernel_rfl) (by kernel_rfl) (by kernel_rfl) (by intro _ _ _ h; exact h) (Or.inl ⟨by rfl, fun w => by (go_simp; (try with_reducible rfl))⟩) ?_
  simp only [Act.put, List.setIfInBounds_toArray, List.set_cons_zero, List.set_cons_succ]
  refine wpAny_take (i := 4) (by simp only [List.getElem?_toArray, List.getElem?_cons_zero, List.getElem?_cons_succ]; rfl) (by kernel_rfl) (by kernel_rfl) (by kernel_rfl) (by intro _ _ _ h; exact h) (Or.inl ⟨by rfl, fun w => by (go_simp; (try with_reducible rfl))⟩) ?_
  simp only [Act.put, List.setIfInBounds_toArray, List.set_cons_zero, List.set_cons_succ]
  refine wpAny_ready (rs := [2]) (by kernel_rfl) (by simp) ?_
  refine AllReady.cons (by simp only [List.getElem?_toArray, List.getElem?_cons_zero, List.getElem?_cons_succ]; rfl) ?_ AllReady.nil
  intro K hK
  go_simp
  refine (cell1 _ _).mono ?_
  rintro e w3 ⟨rfl, hb3⟩
  have hb3' := undrew hb3
  obtain ⟨x1, x2, x3, x4⟩ := later3 (B := w.heap.size) hb3' ⟨a1, b1, c1, d1⟩
  obtain ⟨y1, y2, y3⟩ := frozen3 (B := w.heap.size) hb3' d1 ⟨f1, f2, f3⟩
  clear a1 b1 c1 f1 f2 f3 hb3
  refine hK _ _ ?_
  clear hK K
  try simp only [Act.put, List.setIfInBounds_toArray, List.set_cons_zero, List.set_cons_succ]
  refine wpAny_ready (rs := [5]) (by kernel_rfl) (by simp) ?_
  refine AllReady.cons (by simp only [List.getElem?_toArray, List.getElem?_cons_zero, List.getElem?_cons_succ]; rfl) ?_ AllReady.nil
  intro K hK
  go_simp
  refine hK _ _ ?_
  clear hK K
  try simp only [Act.put, List.setIfInBounds_toArray, List.set_cons_zero, List.set_cons_succ]
  refine wpAny_take (i := 6) (by simp only [List.getElem?_toArray, List.getElem?_cons_zero, List.getElem?_cons_succ]; rfl) (by kernel_rfl) (by kernel_rfl) (by kernel_rfl) (by intro _ _ _ h; exact h) (Or.inl ⟨by rfl, fun w => by (go_simp; (try with_reducible rfl))⟩) ?_
  simp only [Act.put, List.setIfInBounds_toArray, List.set_cons_zero, List.set_cons_succ]
  refine wpAny_done (by kernel_rfl) ?_ _
  go_wp2_with fail
  generalize hZ : ((w3.setCell ⟨w.heap.size, 0, none⟩ _).setCell ⟨w.heap.size, 1, none⟩ _).setCell ⟨w.heap.size, 2, none⟩ _ = Z
  obtain ⟨⟨z1, z2, z3⟩, _, _, _⟩ := set3 hZ.symm ⟨x1, x2, x3⟩
  refine bodyPost_ret (by simp [results, Tryz.results163, go_sem, z1, z2, z3]; try rfl) rfl ?_
  exact ⟨rfl, by rw [← hZ]; exact (((chain (chainA hb2) hb3').setCell (Nat.le_refl _) _).setCell (Nat.le_refl _) _).setCell (Nat.le_refl _) _⟩

set_option maxRecDepth 100000 in
set_option maxHeartbeats 4000000 in
theorem guess_none (s : ByteArray) (hs : s.size ≤ 1048576) (w : World) (h1 : ¬ s.data.toList = wNone) (h2 : ¬ s.data.toList = wYes) (h3 : ¬ s.data.toList = wNo) (h4 : s.data.toList.head? ≠ some 39) (hv : ∀ v, Lib.parseIntB 64 s.data.toList ≠ .ok v) (he : ErrAt w) :
    Calls Tryz.prog 163 #[.string s] w fun e w' => ∃ x, e = .returned (.tuple #[.agg #[.int .i64 1, .int .i64 x, .string ⟨#[]⟩], .bool false]) ∧ Below w.heap.size w w' := by
  have q1 : (s.toList == [110, 111, 110, 101]) = false := by rw [Lib.toList_data]; exact beq_eq_false_iff_ne.2 h1
  have q2 : (s.toList == [121, 101, 115]) = false := by rw [Lib.toList_data]; exact beq_eq_false_iff_ne.2 h2
  have q3 : (s.toList == [110, 111]) = false := by rw [Lib.toList_data]; exact beq_eq_false_iff_ne.2 h3
  have hpre : Lib.hasPrefix s.data.toList [39] = false := by
    unfold Lib.hasPrefix
    cases hd : s.data.toList with
    | nil => rfl
    | cons c r =>
      rw [hd] at h4
      have : (39 : UInt8) ≠ c := fun e => h4 (by simp [e])
      simp [List.isPrefixOf, this]
  have hV : Hid (∀ v, Lib.parseIntB 64 s.data.toList ≠ .ok v) := hv
  have hE : Hid (ErrAt w) := he
  clear h1 h2 h3 h4 hv he
  have hen := err_some
  go_enter Tryz.func163, Tryz.ntmps163
  go_wp2_with fail
  refine (Tryz.strings_HasPrefix _ _ _).mono ?_
  rintro e w1 ⟨rfl, rfl⟩
  rw [show (⟨#[39]⟩ : ByteArray).data.toList = [39] from rfl, hpre]
  go_wp2_with fail
  refine (parse_no s hs hV.out _ (hE.out.below ((Below.refl _ _).alloc (Nat.le_refl _) _))).mono ?_
  rintro e w2 ⟨x, N, rfl, hb2⟩
  obtain ⟨⟨a1, b1, c1, d1⟩, f1, f2, f3⟩ := box3F hb2
  go_wp2_with fail
  refine wp_region_any (by kernel_rfl) (show wpAny _ _ _ _ _ _ _ w2.drew from ?_)
  refine wpAny_take (i := 0) (by simp only [List.getElem?_toArray, List.getElem?_cons_zero]; rfl) (by kernel_rfl) (by kernel_rfl) (by kernel_rfl) (by intro _ _ _ h; exact h) (Or.inl ⟨by rfl, fun w => by (go_simp; (try with_reducible rfl))⟩) ?_
  simp only [Act.put, List.setIfInBounds_toArray, List.set_cons_zero, List.set_cons_succ]
  refine wpAny_take (i := 1) (by simp only [List.getElem?_toArray, List.getElem?_cons_zero, List.getElem?_cons_succ]; rfl) (by kernel_rfl) (by kernel_rfl) (by kernel_rfl) (by intro _ _ _ h; exact h) (Or.inl ⟨by rfl, fun w => by (go_simp; (try with_reducible rfl))⟩) ?_
  simp only [Act.put, List.setIfInBounds_toArray, List.set_cons_zero, List.set_cons_succ]
  refine wpAny_take (i := 3) (by simp only [List.getElem?_toArray, List.getElem?_cons_zero, List.getElem?_cons_succ]; rfl) (by kernel_rfl) (by kernel_rfl) (by kernel_rfl) (by intro _ _ _ h; exact h) (Or.inl ⟨by rfl, fun w => by (go_simp; (try with_reducible rfl))⟩) ?_
  simp only [Act.put, List.setIfInBounds_toArray, List.set_cons_zero, List.set_cons_succ]
  refine wpAny_take (i := 4) (by simp only [List.getElem?_toArray, List.getElem?_cons_zero, List.getElem?_cons_succ]; rfl) (by kernel_rfl) (by kernel_rfl) (by kernel_rfl) (by intro _ _ _ h; exact h) (Or.inl ⟨by rfl, fun w => by (go_simp; (try with_reducible rfl))⟩) ?_
  simp only [Act.put, List.setIfInBounds_toArray, List.set_cons_zero, List.set_cons_succ]
  refine wpAny_ready (rs := [2]) (by kernel_rfl) (by simp) ?_
  refine AllReady.cons (by simp only [List.getElem?_toArray, List.getElem?_cons_zero, List.getElem?_cons_succ]; rfl) ?_ AllReady.nil
  intro K hK
  go_simp
  refine (cell1 _ _).mono ?_
  rintro e w3 ⟨rfl, hb3⟩
  have hb3' := undrew hb3
  obtain ⟨x1, x2, x3, x4⟩ := later3 (B := w.heap.size) hb3' ⟨a1, b1, c1, d1⟩
  obtain ⟨y1, y2, y3⟩ := frozen3 (B := w.heap.size) hb3' d1 ⟨f1, f2, f3⟩
  clear a1 b1 c1 f1 f2 f3 hb3
  refine hK _ _ ?_
  clear hK K
  try simp only [Act.put, List.setIfInBounds_toArray, List.set_cons_zero, List.set_cons_succ]
  refine wpAny_ready (rs := [5]) (by kernel_rfl) (by simp) ?_
  refine AllReady.cons (by simp only [List.getElem?_toArray, List.getElem?_cons_zero, List.getElem?_cons_succ]; rfl) ?_ AllReady.nil
  intro K hK
  go_simp
  refine hK _ _ ?_
  clear hK K
  try simp only [Act.put, List.setIfInBounds_toArray, List.set_cons_zero, List.set_cons_succ]
  refine wpAny_take (i := 6) (by simp only [List.getElem?_toArray, List.getElem?_cons_zero, List.getElem?_cons_succ]; rfl) (by kernel_rfl) (by kernel_rfl) (by kernel_rfl) (by intro _ _ _ h; exact h) (Or.inl ⟨by rfl, fun w => by (go_simp; (try with_reducible rfl))⟩) ?_
  simp only [Act.put, List.setIfInBounds_toArray, List.set_cons_zero, List.set_cons_succ]
  refine wpAny_done (by kernel_rfl) ?_ _
  go_wp2_with fail
  generalize hZ : ((w3.setCell ⟨w.heap.size, 0, none⟩ _).setCell ⟨w.heap.size, 1, none⟩ _).setCell ⟨w.heap.size, 2, none⟩ _ = Z
  obtain ⟨⟨z1, z2, z3⟩, _, _, _⟩ := set3 hZ.symm ⟨x1, x2, x3⟩
  refine bodyPost_ret (by simp [results, Tryz.results163, go_sem, z1, z2, z3]; try rfl) rfl ?_
  exact ⟨x, rfl, by rw [← hZ]; exact (((chain (chainA hb2) hb3').setCell (Nat.le_refl _) _).setCell (Nat.le_refl _) _).setCell (Nat.le_refl _) _⟩

set_option maxRecDepth 100000 in
set_option maxHeartbeats 4000000 in
theorem guess_quote (s : ByteArray) (hs : s.size ≤ 1048576) (w : World) (h4 : s.data.toList.head? = some 39) (t : ByteArray) (ht : t.data.toList = innerL s.data.toList) :
    Calls Tryz.prog 163 #[.string s] w fun e w' => e = .returned (.tuple #[.agg #[.int .i64 2, .int .i64 0, .string t], .bool true]) ∧ Below w.heap.size w w' := by
  have h1 : ¬ s.data.toList = wNone := fun e => by rw [e] at h4; cases h4
  have h2 : ¬ s.data.toList = wYes := fun e => by rw [e] at h4; cases h4
  have h3 : ¬ s.data.toList = wNo := fun e => by rw [e] at h4; cases h4
  have q1 : (s.toList == [110, 111, 110, 101]) = false := by rw [Lib.toList_data]; exact beq_eq_false_iff_ne.2 h1
  have q2 : (s.toList == [121, 101, 115]) = false := by rw [Lib.toList_data]; exact beq_eq_false_iff_ne.2 h2
  have q3 : (s.toList == [110, 111]) = false := by rw [Lib.toList_data]; exact beq_eq_false_iff_ne.2 h3
  have hpre : Lib.hasPrefix s.data.toList [39] = true := by
    unfold Lib.hasPrefix
    cases hd : s.data.toList with
    | nil => rw [hd] at h4; cases h4
    | cons c r =>
      rw [hd] at h4
      have : c = 39 := by simpa using h4
      simp [List.isPrefixOf, this]
  obtain ⟨u, hu⟩ : ∃ u : ByteArray, (⟨(Lib.trimPrefix s.data.toList [39]).toArray⟩ : ByteArray) = u := ⟨_, rfl⟩
  have hul : u.data.toList = Lib.trimPrefix s.data.toList [39] := by rw [← hu]
  have hus : u.size ≤ 9223372036854775807 := by
    have hle : (Lib.trimPrefix s.data.toList [39]).length ≤ s.data.toList.length := by unfold Lib.trimPrefix; split <;> simp
    rw [Lib.size_eq, hul]
    rw [Lib.size_eq] at hs
    omega
  have hut : (⟨(Lib.trimSuffix u.data.toList [39]).toArray⟩ : ByteArray) = t := bytes_ext (by rw [bytes_mk, hul, ht]; rfl)
  have HU : Hid ((⟨(Lib.trimPrefix s.data.toList [39]).toArray⟩ : ByteArray) = u) := hu
  have HT : Hid ((⟨(Lib.trimSuffix u.data.toList [39]).toArray⟩ : ByteArray) = t) := hut
  clear h1 h2 h3 h4 ht hul hu hut
  go_enter Tryz.func163, Tryz.ntmps163
  go_wp2_with fail
  refine (Tryz.strings_HasPrefix _ _ _).mono ?_
  rintro e w1 ⟨rfl, rfl⟩
  rw [show (⟨#[39]⟩ : ByteArray).data.toList = [39] from rfl, hpre]
  go_wp2_with fail
  refine (Tryz.strings_TrimPrefix _ _ _).mono ?_
  rintro e w2 ⟨rfl, rfl⟩
  rw [show (⟨#[39]⟩ : ByteArray).data.toList = [39] from rfl, HU.out]
  go_wp2_with fail
  refine (Tryz.strings_TrimSuffix _ _ _ hus).mono ?_
  rintro e w3 ⟨rfl, rfl⟩
  rw [show (⟨#[39]⟩ : ByteArray).data.toList = [39] from rfl, HT.out]
  go_wp2_with fail
  refine (cell2 _ _).mono ?_
  rintro e w4 ⟨rfl, hb4⟩
  obtain ⟨⟨a1, b1, c1, d1⟩, f1, f2, f3⟩ := box3F hb4
  go_wp2
  generalize hZ : ((w4.setCell ⟨w.heap.size, 0, none⟩ _).setCell ⟨w.heap.size, 1, none⟩ _).setCell ⟨w.heap.size, 2, none⟩ _ = Z
  obtain ⟨⟨z1, z2, z3⟩, _, _, _⟩ := set3 hZ.symm ⟨a1, b1, c1⟩
  refine bodyPost_ret (by simp [results, Tryz.results163, go_sem, z1, z2, z3]; try rfl) rfl ?_
  exact ⟨rfl, by rw [← hZ]; exact (((chainA hb4).setCell (Nat.le_refl _) _).setCell (Nat.le_refl _) _).setCell (Nat.le_refl _) _⟩

set_option maxRecDepth 100000 in
set_option maxHeartbeats 4000000 in
theorem guess_word (s : ByteArray) (w : World) (k n : Int) (h : (s.data.toList = wNone ∧ k = 0 ∧ n = 0) ∨ (s.data.toList = wYes ∧ k = 3 ∧ n = 1) ∨ (s.data.toList = wNo ∧ k = 3 ∧ n = 0)) :
    Calls Tryz.prog 163 #[.string s] w fun e w' => e = .returned (.tuple #[.agg #[.int .i64 k, .int .i64 n, .string ⟨#[]⟩], .bool true]) ∧ Below w.heap.size w w' := by
  rcases h with ⟨h, rfl, rfl⟩ | ⟨h, rfl, rfl⟩ | ⟨h, rfl, rfl⟩
  · have e : s = ⟨wNone.toArray⟩ := bytes_ext h
    subst e
    go_enter Tryz.func163, Tryz.ntmps163
    go_wp2_with fail
    refine (cell0 _).mono ?_
    rintro e w4 ⟨rfl, hb4⟩
    obtain ⟨⟨a1, b1, c1, d1⟩, f1, f2, f3⟩ := box3F hb4
    go_wp2
    generalize hZ : ((w4.setCell ⟨w.heap.size, 0, none⟩ _).setCell ⟨w.heap.size, 1, none⟩ _).setCell ⟨w.heap.size, 2, none⟩ _ = Z
    obtain ⟨⟨z1, z2, z3⟩, _, _, _⟩ := set3 hZ.symm ⟨a1, b1, c1⟩
    refine bodyPost_ret (by simp [results, Tryz.results163, go_sem, z1, z2, z3]; try rfl) rfl ?_
    exact ⟨rfl, by rw [← hZ]; exact (((chainA hb4).setCell (Nat.le_refl _) _).setCell (Nat.le_refl _) _).setCell (Nat.le_refl _) _⟩
  · have e : s = ⟨wYes.toArray⟩ := bytes_ext h
    subst e
    go_enter Tryz.func163, Tryz.ntmps163
    go_wp2_with fail
    refine (truth_implb _ 1 rfl _).mono ?_
    rintro e w4 ⟨rfl, hb4⟩
    obtain ⟨⟨a1, b1, c1, d1⟩, f1, f2, f3⟩ := box3F hb4
    go_wp2
    generalize hZ : ((w4.setCell ⟨w.heap.size, 0, none⟩ _).setCell ⟨w.heap.size, 1, none⟩ _).setCell ⟨w.heap.size, 2, none⟩ _ = Z
    obtain ⟨⟨z1, z2, z3⟩, _, _, _⟩ := set3 hZ.symm ⟨a1, b1, c1⟩
    refine bodyPost_ret (by simp [results, Tryz.results163, go_sem, z1, z2, z3]; try rfl) rfl ?_
    exact ⟨rfl, by rw [← hZ]; exact (((chainA hb4).setCell (Nat.le_refl _) _).setCell (Nat.le_refl _) _).setCell (Nat.le_refl _) _⟩
  · have e : s = ⟨wNo.toArray⟩ := bytes_ext h
    subst e
    go_enter Tryz.func163, Tryz.ntmps163
    go_wp2_with fail
    refine (truth_implb _ 0 rfl _).mono ?_
    rintro e w4 ⟨rfl, hb4⟩
    obtain ⟨⟨a1, b1, c1, d1⟩, f1, f2, f3⟩ := box3F hb4
    go_wp2
    generalize hZ : ((w4.setCell ⟨w.heap.size, 0, none⟩ _).setCell ⟨w.heap.size, 1, none⟩ _).setCell ⟨w.heap.size, 2, none⟩ _ = Z
    obtain ⟨⟨z1, z2, z3⟩, _, _, _⟩ := set3 hZ.symm ⟨a1, b1, c1⟩
    refine bodyPost_ret (by simp [results, Tryz.results163, go_sem, z1, z2, z3]; try rfl) rfl ?_
    exact ⟨rfl, by rw [← hZ]; exact (((chainA hb4).setCell (Nat.le_refl _) _).setCell (Nat.le_refl _) _).setCell (Nat.le_refl _) _⟩


set_option maxRecDepth 100000 in
set_option maxHeartbeats 4000000 in
/-- Behind the guess: the cell is taken only where it is written just so. -/
theorem read_by (s : ByteArray) (w : World) (k n : Int) (t : ByteArray) (ht : t.size ≤ maxLen) (hp : PowAt w) (same : Bool) (hsame : ((cellT k n t).toList == s.toList) = same)
    (hg : ∀ w', Below w.heap.size w w' → Calls Tryz.prog 163 #[.string s] w' fun e w'' => e = .returned (.tuple #[.agg #[.int .i64 k, .int .i64 n, .string t], .bool true]) ∧ Below w'.heap.size w' w'') :
    Calls Tryz.prog 142 #[.string s] w fun e w' => e = .returned (.tuple #[.agg #[.int .i64 (if same = true then k else 0), .int .i64 (if same = true then n else 0), .string (if same = true then t else ⟨#[]⟩)], .bool same]) ∧ Below w.heap.size w w' := by
  obtain ⟨y, hy⟩ : ∃ y, cellT k n t = y := ⟨_, rfl⟩
  rw [hy] at hsame
  have HP : Hid (PowAt w) := hp
  have HY : Hid (cellT k n t = y) := hy
  have HG : Hid (∀ w', Below w.heap.size w w' → Calls Tryz.prog 163 #[.string s] w' fun e w'' => e = .returned (.tuple #[.agg #[.int .i64 k, .int .i64 n, .string t], .bool true]) ∧ Below w'.heap.size w' w'') := hg
  clear hp hy hg
  cases same
  · rw [if_neg (by decide), if_neg (by decide), if_neg (by decide)]
    go_enter Tryz.func142, Tryz.ntmps142
    go_wp2_with fail
    refine (HG.out _ ((Below.refl _ _).alloc (Nat.le_refl _) _)).mono ?_
    rintro e w1 ⟨rfl, hb1⟩
    obtain ⟨⟨a1, b1, c1, d1⟩, f1, f2, f3⟩ := box3F hb1
    go_wp2_with fail
    refine (ctext_implb _ _ _ y HY.out _ ht (HP.out.below (chain (chainA hb1) ((Below.refl _ _).alloc (Nat.le_refl _) _)))).mono ?_
    rintro e w2 ⟨rfl, hb2⟩
    obtain ⟨p1, p2, p3, p4⟩ := box3 hb2
    obtain ⟨x1, x2, x3, x4⟩ := later3 (B := w.heap.size) (chainA hb2) ⟨a1, b1, c1, d1⟩
    obtain ⟨y1, y2, y3⟩ := frozen3 (B := w.heap.size) (chainA hb2) d1 ⟨f1, f2, f3⟩
    clear a1 b1 c1 f1 f2 f3
    go_wp2
    generalize hZ : ((w2.setCell ⟨w.heap.size, 0, none⟩ _).setCell ⟨w.heap.size, 1, none⟩ _).setCell ⟨w.heap.size, 2, none⟩ _ = Z
    obtain ⟨⟨z1, z2, z3⟩, _, _, _⟩ := set3 hZ.symm ⟨x1, x2, x3⟩
    refine bodyPost_ret (by simp [results, Tryz.results142, go_sem, z1, z2, z3]; try rfl) rfl ?_
    exact ⟨rfl, by rw [← hZ]; exact (((chain (chainA hb1) (chainA hb2)).setCell (Nat.le_refl _) _).setCell (Nat.le_refl _) _).setCell (Nat.le_refl _) _⟩
  · rw [if_pos rfl, if_pos rfl, if_pos rfl]
    go_enter Tryz.func142, Tryz.ntmps142
    go_wp2_with fail
    refine (HG.out _ ((Below.refl _ _).alloc (Nat.le_refl _) _)).mono ?_
    rintro e w1 ⟨rfl, hb1⟩
    obtain ⟨⟨a1, b1, c1, d1⟩, f1, f2, f3⟩ := box3F hb1
    go_wp2_with fail
    refine (ctext_implb _ _ _ y HY.out _ ht (HP.out.below (chain (chainA hb1) ((Below.refl _ _).alloc (Nat.le_refl _) _)))).mono ?_
    rintro e w2 ⟨rfl, hb2⟩
    obtain ⟨p1, p2, p3, p4⟩ := box3 hb2
    obtain ⟨x1, x2, x3, x4⟩ := later3 (B := w.heap.size) (chainA hb2) ⟨a1, b1, c1, d1⟩
    obtain ⟨y1, y2, y3⟩ := frozen3 (B := w.heap.size) (chainA hb2) d1 ⟨f1, f2, f3⟩
    clear a1 b1 c1 f1 f2 f3
    go_wp2
    generalize hZ : ((w2.setCell ⟨w.heap.size, 0, none⟩ _).setCell ⟨w.heap.size, 1, none⟩ _).setCell ⟨w.heap.size, 2, none⟩ _ = Z
    obtain ⟨⟨z1, z2, z3⟩, _, _, _⟩ := set3 hZ.symm ⟨x1, x2, x3⟩
    refine bodyPost_ret (by simp [results, Tryz.results142, go_sem, z1, z2, z3]; try rfl) rfl ?_
    exact ⟨rfl, by rw [← hZ]; exact (((chain (chainA hb1) (chainA hb2)).setCell (Nat.le_refl _) _).setCell (Nat.le_refl _) _).setCell (Nat.le_refl _) _⟩

set_option maxRecDepth 100000 in
set_option maxHeartbeats 4000000 in
theorem read_not (s : ByteArray) (w : World)
    (hg : ∀ w', Below w.heap.size w w' → Calls Tryz.prog 163 #[.string s] w' fun e w'' => ∃ x, e = .returned (.tuple #[.agg #[.int .i64 1, .int .i64 x, .string ⟨#[]⟩], .bool false]) ∧ Below w'.heap.size w' w'') :
    Calls Tryz.prog 142 #[.string s] w fun e w' => e = .returned (.tuple #[.agg #[.int .i64 0, .int .i64 0, .string ⟨#[]⟩], .bool false]) ∧ Below w.heap.size w w' := by
  have HG : Hid (∀ w', Below w.heap.size w w' → Calls Tryz.prog 163 #[.string s] w' fun e w'' => ∃ x, e = .returned (.tuple #[.agg #[.int .i64 1, .int .i64 x, .string ⟨#[]⟩], .bool false]) ∧ Below w'.heap.size w' w'') := hg
  clear hg
  go_enter Tryz.func142, Tryz.ntmps142
  go_wp2_with fail
  refine (HG.out _ ((Below.refl _ _).alloc (Nat.le_refl _) _)).mono ?_
  rintro e w1 ⟨x, rfl, hb1⟩
  obtain ⟨⟨a1, b1, c1, d1⟩, f1, f2, f3⟩ := box3F hb1
  go_wp2
  generalize hZ : ((w1.setCell ⟨w.heap.size, 0, none⟩ _).setCell ⟨w.heap.size, 1, none⟩ _).setCell ⟨w.heap.size, 2, none⟩ _ = Z
  obtain ⟨⟨z1, z2, z3⟩, z4, _, _⟩ := set3 hZ.symm ⟨a1, b1, c1⟩
  have hbZ : Below w.heap.size w Z := by rw [← hZ]; exact (((chainA hb1).setCell (Nat.le_refl _) _).setCell (Nat.le_refl _) _).setCell (Nat.le_refl _) _
  have hbA : Below Z.heap.size Z (Z.alloc (.cells #[.int .i64 1, .int .i64 x, .string ⟨#[]⟩] 30)) := (Below.refl _ _).alloc (Nat.le_refl _) _
  obtain ⟨u1, u2, u3, _⟩ := later3 (B := w.heap.size) hbA ⟨z1, z2, z3, by omega⟩
  have hbY := chain hbZ hbA
  generalize Z.alloc (.cells #[.int .i64 1, .int .i64 x, .string ⟨#[]⟩] 30) = Y at u1 u2 u3 hbY ⊢
  refine bodyPost_ret (by simp [results, Tryz.results142, go_sem, u1, u2, u3]; try rfl) rfl ?_
  exact ⟨rfl, hbY⟩

theorem same_bytes {y s : ByteArray} (h : y = s) : (y.toList == s.toList) = true := by rw [h]; simp
theorem other_bytes {y s : ByteArray} (h : y ≠ s) : (y.toList == s.toList) = false := by
  rw [beq_eq_false_iff_ne]
  intro e
  exact h (bytes_eq e)
theorem innerL_len (l : List UInt8) : (innerL l).length ≤ l.length := by
  unfold innerL Lib.trimSuffix Lib.trimPrefix
  split <;> split <;> simp <;> omega

/-- The program's ReadCell answers as the model's. -/
theorem readcell_impl (s : ByteArray) (hs : s.size ≤ 1048576) (w : World) (hp : PowAt w) (he : ErrAt w) (k n : Int) (t : ByteArray) (b : Bool) (hR : readR s = (k, n, t, b)) :
    Calls Tryz.prog 142 #[.string s] w fun e w' => e = .returned (.tuple #[.agg #[.int .i64 k, .int .i64 n, .string t], .bool b]) ∧ Below w.heap.size w w' := by
  unfold readR at hR
  cases hB : readB s with
  | some c =>
    obtain ⟨k', n', t'⟩ := c
    rw [hB] at hR
    injection hR with e1 hR; injection hR with e2 hR; injection hR with e3 e4
    subst e1 e2 e3 e4
    obtain ⟨ho, hcs⟩ := readB_some hB
    have ht : t'.size ≤ maxLen := by
      have hl := l4T_len ho
      have e := cellT_ok ho
      rcases okB_kind ho with rfl | rfl | rfl | rfl
      · rw [(okB_0 ho).2]; exact Nat.zero_le _
      · rw [(okB_1 ho).2]; exact Nat.zero_le _
      · have := (okB_2 ho).2
        unfold textB at this
        rw [Bool.and_eq_true, decide_eq_true_eq] at this
        unfold maxLen; omega
      · rw [(okB_3 ho).2]; exact Nat.zero_le _
    have fin := fun hg => read_by s w k' n' t' ht hp true (same_bytes hcs) hg
    rw [if_pos rfl, if_pos rfl, if_pos rfl] at fin
    refine fin ?_
    intro w' _
    rcases guess_text hB with ⟨rfl, rfl, rfl, h⟩ | ⟨rfl, rfl, rfl, h⟩ | ⟨rfl, rfl, rfl, h⟩ | ⟨rfl, rfl, h, hh⟩ | ⟨rfl, rfl, h, hh⟩
    · exact guess_word s w' 0 0 (.inl ⟨h, rfl, rfl⟩)
    · exact guess_word s w' 3 1 (.inr (.inl ⟨h, rfl, rfl⟩))
    · exact guess_word s w' 3 0 (.inr (.inr ⟨h, rfl, rfl⟩))
    · exact guess_quote s hs w' hh t' h
    · have hne : ∀ l : List UInt8, l.head? = some 110 ∨ l.head? = some 121 → ¬ s.data.toList = l := by
        intro l hl e
        rw [← hcs, cellT_ok ho, l4T_1] at e
        obtain ⟨c, r, hc, hx⟩ := itoa_head n'
        rw [← e, hc] at hl
        have : c = 110 ∨ c = 121 := by simpa using hl
        rcases this with rfl | rfl <;> rcases hx with hx | hx <;> exact absurd hx (by decide)
      exact guess_num s hs w' (hne _ (.inl rfl)) (hne _ (.inr rfl)) (hne _ (.inl rfl)) hh n' h
  | none =>
    rw [hB] at hR
    injection hR with e1 hR; injection hR with e2 hR; injection hR with e3 e4
    subst e1 e2 e3 e4
    have hw : ∀ l : List UInt8, (l = wNone ∨ l = wYes ∨ l = wNo) → ¬ s.data.toList = l := by
      intro l hl e
      unfold readB at hB
      rcases hl with rfl | rfl | rfl
      · rw [if_pos e] at hB; cases hB
      · rw [if_neg (by rw [e]; decide), if_pos e] at hB; cases hB
      · rw [if_neg (by rw [e]; decide), if_neg (by rw [e]; decide), if_pos e] at hB; cases hB
    by_cases hq : s.data.toList.head? = some 39
    · have hs0 : s ≠ ⟨#[]⟩ := fun e => by rw [e] at hq; cases hq
      obtain ⟨t', ht'⟩ : ∃ t' : ByteArray, t'.data.toList = innerL s.data.toList := ⟨⟨(innerL s.data.toList).toArray⟩, rfl⟩
      have htl : t'.size ≤ maxLen := by
        rw [Lib.size_eq, ht']
        have := innerL_len s.data.toList
        rw [Lib.size_eq] at hs
        unfold maxLen; omega
      have fin := fun hg => read_by s w 2 0 t' htl hp false (other_bytes (guess_no hB hs0 2 0 t')) hg
      rw [if_neg (by decide), if_neg (by decide), if_neg (by decide)] at fin
      exact fin (fun w' _ => guess_quote s hs w' hq t' ht')
    · cases hv : Lib.parseIntB 64 s.data.toList with
      | ok v =>
        have hs0 : s ≠ ⟨#[]⟩ := fun e => by rw [e] at hv; cases hv
        have fin := fun hg => read_by s w 1 v ⟨#[]⟩ (Nat.zero_le _) hp false (other_bytes (guess_no hB hs0 1 v ⟨#[]⟩)) hg
        rw [if_neg (by decide), if_neg (by decide), if_neg (by decide)] at fin
        exact fin (fun w' _ => guess_num s hs w' (hw _ (.inl rfl)) (hw _ (.inr (.inl rfl))) (hw _ (.inr (.inr rfl))) hq v hv)
      | «syntax» => exact read_not s w (fun w' hb => guess_none s hs w' (hw _ (.inl rfl)) (hw _ (.inr (.inl rfl))) (hw _ (.inr (.inr rfl))) hq (fun v e => by rw [hv] at e; cases e) (he.below hb))
      | range => exact read_not s w (fun w' hb => guess_none s hs w' (hw _ (.inl rfl)) (hw _ (.inr (.inl rfl))) (hw _ (.inr (.inr rfl))) hq (fun v e => by rw [hv] at e; cases e) (he.below hb))

end Go.Proofs.YthgbjnchhaoceaaGreatDoor

/-
  The contracts of the program's questions for a token, and of what one piece is read as.
-/
namespace Go.Proofs.YthgbjnchhaoceaaGreatDoor
open Go.ChangeShapes Go.WideShapes Go.ChangeAt Go.RowKit
attribute [local go_sem ↓] Go.wp_at_zero Go.wp_at_succ
attribute [local simp] World.cell?_alloc_past World.cell?_alloc_at World.frozen?_alloc_at cell_far cell_off cell_here World.frozen?_alloc_past

/-- A name that is no other word: a name that is neither read as a cell nor a sign. -/
theorem nameK_free (s : ByteArray) : nameK s = (nameB s && (!(readB s).isSome && !signB s)) := by
  cases hn : nameB s with
  | false => unfold nameK; rw [hn]; rfl
  | true =>
    have hn2 := hn
    unfold nameB at hn2
    simp only [Bool.and_eq_true, decide_eq_true_eq] at hn2
    obtain ⟨_, h2, _⟩ := hn2
    have hO : inB signO s = false := by
      cases hq : inB signO s with
      | false => rfl
      | true =>
        exfalso
        have hm := inB_iff.1 hq
        have hall := List.all_eq_true.1 h2
        simp only [signO, List.mem_cons, List.not_mem_nil, or_false] at hm
        rcases hm with rfl | rfl | rfl | rfl | rfl | rfl | rfl | rfl <;> exact absurd (hall _ (List.mem_cons_self ..)) (by decide)
    have hR : (readB s).isSome = !(decide (s.data.toList ≠ wNone) && (decide (s.data.toList ≠ wYes) && decide (s.data.toList ≠ wNo))) := by
      cases hq : readB s with
      | none =>
        unfold readB at hq
        by_cases e1 : s.data.toList = wNone
        · rw [if_pos e1] at hq; cases hq
        by_cases e2 : s.data.toList = wYes
        · rw [if_neg e1, if_pos e2] at hq; cases hq
        by_cases e3 : s.data.toList = wNo
        · rw [if_neg e1, if_neg e2, if_pos e3] at hq; cases hq
        rw [decide_eq_true e1, decide_eq_true e2, decide_eq_true e3]; rfl
      | some d =>
        have es : (⟨s.data.toList.toArray⟩ : ByteArray) = s := rfl
        rw [← es] at hq
        rcases readB_head hq with q | q | q | ⟨b, x, q, hb⟩
        · simp [q]
        · simp [q]
        · simp [q]
        · exfalso
          have hl : letB b = true := List.all_eq_true.1 h2 b (by rw [q]; simp)
          rcases hb with hb | rfl | rfl
          · rw [letB_dig hb] at hl; cases hl
          · exact absurd hl (by decide)
          · exact absurd hl (by decide)
    unfold nameK signB
    rw [hn, hO, hR, Bool.or_false, Bool.not_not]
    cases inB signW s <;> cases (decide (s.data.toList ≠ wNone) && (decide (s.data.toList ≠ wYes) && decide (s.data.toList ≠ wNo))) <;> rfl
theorem readR_b {s : ByteArray} {k n : Int} {t : ByteArray} {b : Bool} (h : readR s = (k, n, t, b)) : (readB s).isSome = b ∧ (b = true → readB s = some (k, n, t)) := by
  unfold readR at h
  cases hq : readB s with
  | none =>
    rw [hq] at h
    injection h with _ h; injection h with _ h; injection h with _ h
    subst h
    exact ⟨rfl, fun h => by cases h⟩
  | some d =>
    obtain ⟨k', n', t'⟩ := d
    rw [hq] at h
    injection h with h1 h; injection h with h2 h; injection h with h3 h
    subst h1 h2 h3 h
    exact ⟨rfl, fun _ => rfl⟩

theorem not_lit {s : ByteArray} {l : List UInt8} (h : s ≠ ⟨l.toArray⟩) : (s.toList == l) = false := by
  rw [Lib.toList_data, beq_eq_false_iff_ne]
  exact fun e => h (bytes_ext e)
set_option maxRecDepth 100000 in
set_option maxHeartbeats 4000000 in
theorem sign_impl (s : ByteArray) (b : Bool) (hb : signB s = b) (w : World) :
    Calls Tryz.prog 144 #[.string s] w fun e w' => e = .returned (.bool b) ∧ w' = w := by
  cases b with
  | true =>
    unfold signB at hb
    rw [Bool.or_eq_true] at hb
    rcases hb with hs | hs
    · have hm := inB_iff.1 hs
      simp only [signW, List.mem_cons, List.not_mem_nil, or_false] at hm
      clear hs
      rcases hm with rfl | rfl | rfl | rfl
      all_goals
        go_enter Tryz.func144, Tryz.ntmps144
        go_wp2
        go_ret
        exact ⟨rfl, rfl⟩
    · have hm := inB_iff.1 hs
      simp only [signO, List.mem_cons, List.not_mem_nil, or_false] at hm
      clear hs
      rcases hm with rfl | rfl | rfl | rfl | rfl | rfl | rfl | rfl
      all_goals
        go_enter Tryz.func144, Tryz.ntmps144
        go_wp2
        go_ret
        exact ⟨rfl, rfl⟩
  | false =>
    unfold signB at hb
    rw [Bool.or_eq_false_iff, inB_no, inB_no] at hb
    obtain ⟨h1, h2⟩ := hb
    simp only [signW, signO, List.mem_cons, List.not_mem_nil, or_false, not_or] at h1 h2
    obtain ⟨a1, a2, a3, a4⟩ := h1
    obtain ⟨b1, b2, b3, b4, b5, b6, b7, b8⟩ := h2
    have q1 := not_lit (l := [97, 110, 100]) a1
    have q2 := not_lit (l := [111, 114]) a2
    have q3 := not_lit (l := [110, 111, 116]) a3
    have q4 := not_lit (l := [108, 97, 99, 107, 115]) a4
    have r1 := not_lit (l := [43]) b1
    have r2 := not_lit (l := [45]) b2
    have r3 := not_lit (l := [42]) b3
    have r4 := not_lit (l := [47]) b4
    have r5 := not_lit (l := [61]) b5
    have r6 := not_lit (l := [60]) b6
    have r7 := not_lit (l := [40]) b7
    have r8 := not_lit (l := [41]) b8
    clear a1 a2 a3 a4 b1 b2 b3 b4 b5 b6 b7 b8
    go_enter Tryz.func144, Tryz.ntmps144
    go_wp2
    go_ret
    exact ⟨rfl, rfl⟩
set_option maxHeartbeats 1000000 in
theorem free_impl (s : ByteArray) (hs : s.size ≤ 1048576) (w : World) (hp : PowAt w) (he : ErrAt w) (b : Bool) (hb : nameK s = b) :
    Calls Tryz.prog 109 #[.string s] w fun e w' => e = .returned (.bool b) ∧ Below w.heap.size w w' := by
  have HB : Hid (nameK s = b) := hb
  have HP : Hid (PowAt w) := hp
  have HE : Hid (ErrAt w) := he
  clear hb hp he
  have hsM : s.size ≤ maxLen := by unfold maxLen; omega
  obtain ⟨k, n, t, c, hR⟩ : ∃ k n t c, readR s = (k, n, t, c) := ⟨_, _, _, _, rfl⟩
  have HR : Hid (readR s = (k, n, t, c)) := hR
  obtain ⟨q, hq⟩ : ∃ x, nameB s = x := ⟨_, rfl⟩
  obtain ⟨g, hg⟩ : ∃ x, signB s = x := ⟨_, rfl⟩
  have HQ : Hid (nameB s = q) := hq
  have HG : Hid (signB s = g) := hg
  have HX : Hid ((q && (!c && !g)) = b) := by
    have : (q && (!c && !g)) = b := by rw [← HB.out, nameK_free, hq, hg, (readR_b hR).1]
    exact this
  clear hR hq hg HB
  go_enter Tryz.func109, Tryz.ntmps109
  go_wp2_with fail
  refine (readcell_impl s hs _ HP.out HE.out k n t c HR.out).mono ?_
  rintro e w1 ⟨rfl, hb1⟩
  go_wp2_with fail
  refine (name_impl s _ hsM q HQ.out).mono ?_
  rintro e w2 ⟨rfl, rfl⟩
  cases q
  · obtain rfl : false = b := HX.out
    go_wp2
    go_ret
    exact ⟨rfl, hb1.alloc hb1.size _⟩
  rcases Bool.eq_false_or_eq_true c with rfl | rfl
  · obtain rfl : false = b := HX.out
    go_wp2
    go_ret
    exact ⟨rfl, hb1.alloc hb1.size _⟩
  go_wp2_with fail
  refine (sign_impl s g HG.out _).mono ?_
  rintro e w3 ⟨rfl, rfl⟩
  cases g
  · obtain rfl : true = b := HX.out
    go_wp2
    go_ret
    exact ⟨rfl, hb1.alloc hb1.size _⟩
  · obtain rfl : false = b := HX.out
    go_wp2
    go_ret
    exact ⟨rfl, hb1.alloc hb1.size _⟩
end Go.Proofs.YthgbjnchhaoceaaGreatDoor

/-
  What tokens are read as, level by level, without any program; and that a sum is read from its tokens.
-/
namespace Go.Proofs.YthgbjnchhaoceaaGreatDoor

/-- Is that sign next? What stands behind it. -/
def seesT (s : ByteArray) : List TT → Option (List TT)
  | [] => none
  | t :: r => if t.1 = 3 ∧ t.2.1 = s then some r else none
theorem seesT_cons (s : ByteArray) (t : TT) (r : List TT) : seesT s (t :: r) = if t.1 = 3 ∧ t.2.1 = s then some r else none := rfl
theorem sees_this (s : ByteArray) (c : CK) (r : List TT) : seesT s ((3, s, c) :: r) = some r := by rw [seesT_cons, if_pos ⟨rfl, rfl⟩]
/-- The kinds of a level: or, and, = and <, + and -, * and /. -/
def kindsL (lev : Nat) : List Int := if lev = 0 then [10] else if lev = 1 then [9] else if lev = 3 then [7, 8] else if lev = 4 then [3, 4] else if lev = 5 then [5, 6] else []
/-- Which sign of that level is next, and what stands behind it. -/
def twoK (r : List TT) : List Int → Option (Int × List TT)
  | [] => none
  | k :: ks => match seesT (sgn k) r with
    | some r1 => some (k, r1)
    | none => twoK r ks
def twoT (lev : Nat) (r : List TT) : Option (Int × List TT) := twoK r (kindsL lev)
/-- The item of a token that is one alone. -/
def itmOf (t : TT) : TI := if t.1 = 1 then (2, zeroC, t.2.1) else (1, t.2.2, ⟨#[]⟩)
mutual
/-- A level: 0 or, 1 and, 2 not, 3 = and <, 4 + and -, 5 * and /, 6 lacks, 7 one alone. -/
def levP : Nat → Nat → List TT → Option (List TI × List TT)
  | 0, _, _ => none
  | f + 1, lev, r =>
    if lev = 0 ∨ lev = 1 ∨ lev = 4 ∨ lev = 5 then (levP f (lev + 1) r).bind (fun p => tailP f lev p.1 p.2)
    else if lev = 3 then (levP f 4 r).bind (fun p => match twoT 3 p.2 with
      | none => some p
      | some (k, r2) => (levP f 4 r2).map (fun q => (p.1 ++ (q.1 ++ [opI k]), q.2)))
    else if lev = 2 ∨ lev = 6 then match seesT (sgn (if lev = 2 then 11 else 12)) r with
      | some r1 => (levP f lev r1).map (fun q => (q.1 ++ [opI (if lev = 2 then 11 else 12)], q.2))
      | none => levP f (lev + 1) r
    else match seesT ⟨#[40]⟩ r with
      | some r1 => (levP f 0 r1).bind (fun q => (seesT ⟨#[41]⟩ q.2).map (fun r2 => (q.1, r2)))
      | none => match r with
        | [] => none
        | t :: r1 => if t.1 = 3 then none else some ([itmOf t], r1)
def tailP : Nat → Nat → List TI → List TT → Option (List TI × List TT)
  | 0, _, _, _ => none
  | f + 1, lev, o, r => match twoT lev r with
    | none => some (o, r)
    | some (k, r1) => (levP f (lev + 1) r1).bind (fun p => tailP f lev (o ++ (p.1 ++ [opI k])) p.2)
end
theorem sees_len {s : ByteArray} {r r1 : List TT} (h : seesT s r = some r1) : r1.length < r.length := by
  cases r with
  | nil => cases h
  | cons t r =>
    rw [seesT_cons] at h
    split at h
    · cases h; simp
    · cases h
theorem twoK_len {r r1 : List TT} {k : Int} {ks : List Int} (h : twoK r ks = some (k, r1)) : r1.length < r.length := by
  induction ks with
  | nil => cases h
  | cons j ks ih =>
    unfold twoK at h
    cases hs : seesT (sgn j) r with
    | some r2 => rw [hs] at h; cases h; exact sees_len hs
    | none => rw [hs] at h; exact ih h
/-- What is read is passed over. -/
theorem levP_len : ∀ f, (∀ lev r o r', levP f lev r = some (o, r') → r'.length < r.length) ∧ (∀ lev o r o' r', tailP f lev o r = some (o', r') → r'.length ≤ r.length)
  | 0 => ⟨fun lev r o r' h => by simp [levP] at h, fun lev o r o' r' h => by simp [tailP] at h⟩
  | f + 1 => by
    obtain ⟨ih1, ih2⟩ := levP_len f
    refine ⟨fun lev r o r' h => ?_, fun lev o r o' r' h => ?_⟩
    · unfold levP at h
      split at h
      · obtain ⟨p, h1, h2⟩ := Option.bind_eq_some_iff.1 h
        have := ih1 _ _ _ _ (show levP f (lev + 1) r = some (p.1, p.2) from h1)
        have := ih2 _ _ _ _ _ h2
        omega
      · split at h
        · obtain ⟨p, h1, h2⟩ := Option.bind_eq_some_iff.1 h
          have l1 := ih1 _ _ _ _ (show levP f 4 r = some (p.1, p.2) from h1)
          cases ht : twoT 3 p.2 with
          | none =>
            rw [ht] at h2
            cases h2
            exact l1
          | some q =>
            obtain ⟨k, r2⟩ := q
            rw [ht] at h2
            obtain ⟨z, h3, h4⟩ := Option.map_eq_some_iff.1 h2
            cases h4
            have := ih1 _ _ _ _ (show levP f 4 r2 = some (z.1, z.2) from h3)
            have := twoK_len ht
            omega
        · split at h
          · cases hs : seesT (sgn (if lev = 2 then 11 else 12)) r with
            | some r1 =>
              rw [hs] at h
              obtain ⟨z, h3, h4⟩ := Option.map_eq_some_iff.1 h
              cases h4
              have := ih1 _ _ _ _ (show levP f lev r1 = some (z.1, z.2) from h3)
              have := sees_len hs
              omega
            | none => rw [hs] at h; exact ih1 _ _ _ _ h
          · cases hs : seesT ⟨#[40]⟩ r with
            | some r1 =>
              rw [hs] at h
              obtain ⟨q, h1, h2⟩ := Option.bind_eq_some_iff.1 h
              obtain ⟨z, h3, h4⟩ := Option.map_eq_some_iff.1 h2
              cases h4
              have := ih1 _ _ _ _ (show levP f 0 r1 = some (q.1, q.2) from h1)
              have := sees_len hs
              have := sees_len h3
              omega
            | none =>
              rw [hs] at h
              cases r with
              | nil => cases h
              | cons t r =>
                simp only [] at h
                split at h
                · cases h
                · cases h; simp
    · unfold tailP at h
      cases ht : twoT lev r with
      | none => rw [ht] at h; cases h; exact Nat.le_refl _
      | some q =>
        obtain ⟨k, r1⟩ := q
        rw [ht] at h
        obtain ⟨p, h1, h2⟩ := Option.bind_eq_some_iff.1 h
        have := ih1 _ _ _ _ (show levP f (lev + 1) r1 = some (p.1, p.2) from h1)
        have := ih2 _ _ _ _ _ h2
        have := twoK_len ht
        omega
/-- More steps than are wanted say the same. -/
theorem levP_more : ∀ f, (∀ lev r f', lev ≤ 7 → 10 * r.length + (7 - lev) < f → f ≤ f' → levP f' lev r = levP f lev r) ∧ (∀ lev o r f', lev ≤ 5 → 10 * r.length + 8 < f → f ≤ f' → tailP f' lev o r = tailP f lev o r)
  | 0 => ⟨fun _ _ _ _ h _ => by omega, fun _ _ _ _ _ h _ => by omega⟩
  | f + 1 => by
    obtain ⟨ih1, ih2⟩ := levP_more f
    refine ⟨fun lev r f' hl h hf => ?_, fun lev o r f' hl h hf => ?_⟩
    · obtain ⟨g, rfl⟩ : ∃ g, f' = g + 1 := ⟨f' - 1, by omega⟩
      unfold levP
      by_cases c1 : lev = 0 ∨ lev = 1 ∨ lev = 4 ∨ lev = 5
      · rw [if_pos c1, if_pos c1, ih1 (lev + 1) r g (by omega) (by omega) (by omega)]
        cases hq : levP f (lev + 1) r with
        | none => rfl
        | some p =>
          obtain ⟨o, r1⟩ := p
          have := (levP_len f).1 _ _ _ _ hq
          simp only [Option.bind_some]
          exact ih2 lev o r1 g (by omega) (by omega) (by omega)
      rw [if_neg c1, if_neg c1]
      by_cases c2 : lev = 3
      · rw [if_pos c2, if_pos c2, ih1 4 r g (by omega) (by omega) (by omega)]
        cases hq : levP f 4 r with
        | none => rfl
        | some p =>
          obtain ⟨o, r1⟩ := p
          have := (levP_len f).1 _ _ _ _ hq
          simp only [Option.bind_some]
          cases ht : twoT 3 r1 with
          | none => rfl
          | some q =>
            obtain ⟨k, r2⟩ := q
            have := twoK_len ht
            simp only []
            rw [ih1 4 r2 g (by omega) (by omega) (by omega)]
      rw [if_neg c2, if_neg c2]
      by_cases c3 : lev = 2 ∨ lev = 6
      · rw [if_pos c3, if_pos c3]
        cases hs : seesT (sgn (if lev = 2 then 11 else 12)) r with
        | some r1 =>
          have := sees_len hs
          simp only []
          rw [ih1 lev r1 g hl (by omega) (by omega)]
        | none => exact ih1 (lev + 1) r g (by omega) (by omega) (by omega)
      rw [if_neg c3, if_neg c3]
      cases hs : seesT ⟨#[40]⟩ r with
      | some r1 =>
        have := sees_len hs
        simp only []
        rw [ih1 0 r1 g (by omega) (by omega) (by omega)]
      | none => rfl
    · obtain ⟨g, rfl⟩ : ∃ g, f' = g + 1 := ⟨f' - 1, by omega⟩
      unfold tailP
      cases ht : twoT lev r with
      | none => rfl
      | some q =>
        obtain ⟨k, r1⟩ := q
        have := twoK_len ht
        simp only []
        rw [ih1 (lev + 1) r1 g (by omega) (by omega) (by omega)]
        cases hq : levP f (lev + 1) r1 with
        | none => rfl
        | some p =>
          obtain ⟨o2, r2⟩ := p
          have := (levP_len f).1 _ _ _ _ hq
          simp only [Option.bind_some]
          exact ih2 lev _ r2 g hl (by omega) (by omega)
/-- What a level reads. -/
def levR (lev : Nat) (r : List TT) : Option (List TI × List TT) := levP (10 * r.length + 8) lev r
theorem levR_of {lev : Nat} {r : List TT} (hl : lev ≤ 7) {f : Nat} (hf : 10 * r.length + 8 ≤ f) : levP f lev r = levR lev r :=
  (levP_more (10 * r.length + 8)).1 lev r f hl (by omega) hf
/-- Read at that level, with steps enough. -/
def Par (lev : Nat) (r0 : List TT) (o : List TI) (r : List TT) : Prop := ∃ f0, ∀ f, f0 ≤ f → levP f lev r0 = some (o, r)
theorem Par.up {lev : Nat} {r0 r : List TT} {o : List TI} (h : Par (lev + 1) r0 o r) (hl : lev = 0 ∨ lev = 1 ∨ lev = 4 ∨ lev = 5) (hn : twoT lev r = none) : Par lev r0 o r := by
  obtain ⟨f0, h⟩ := h
  refine ⟨f0 + 2, fun f hf => ?_⟩
  obtain ⟨g, rfl⟩ : ∃ g, f = g + 1 + 1 := ⟨f - 2, by omega⟩
  unfold levP
  rw [if_pos hl, h (g + 1) (by omega)]
  simp only [Option.bind_some]
  unfold tailP
  rw [hn]
theorem Par.up3 {r0 r : List TT} {o : List TI} (h : Par 4 r0 o r) (hn : twoT 3 r = none) : Par 3 r0 o r := by
  obtain ⟨f0, h⟩ := h
  refine ⟨f0 + 1, fun f hf => ?_⟩
  obtain ⟨g, rfl⟩ : ∃ g, f = g + 1 := ⟨f - 1, by omega⟩
  unfold levP
  rw [if_neg (by omega), if_pos rfl, h g (by omega)]
  simp only [Option.bind_some]
  rw [hn]
theorem Par.up2 {lev : Nat} {r0 r : List TT} {o : List TI} (h : Par (lev + 1) r0 o r) (hl : lev = 2 ∨ lev = 6) (hn : seesT (sgn (if lev = 2 then 11 else 12)) r0 = none) : Par lev r0 o r := by
  obtain ⟨f0, h⟩ := h
  refine ⟨f0 + 1, fun f hf => ?_⟩
  obtain ⟨g, rfl⟩ : ∃ g, f = g + 1 := ⟨f - 1, by omega⟩
  unfold levP
  rw [if_neg (by omega), if_neg (by omega), if_pos hl, hn]
  exact h g (by omega)
/-- Nothing of that level or a later one is next. -/
def StopT (lev : Nat) (r : List TT) : Prop := ∀ L, lev ≤ L → L ≤ 5 → twoT L r = none
/-- No sign stands ahead that is followed by one alone. -/
def NoPre (r : List TT) : Prop := seesT (sgn 11) r = none ∧ seesT (sgn 12) r = none
theorem StopT.mono {lev lev' : Nat} {r : List TT} (h : StopT lev r) (hl : lev ≤ lev') : StopT lev' r := fun L h1 h2 => h L (by omega) h2
/-- What is one alone is read at every level above. -/
theorem Par.down {r0 r : List TT} {o : List TI} (h : Par 7 r0 o r) (hp : NoPre r0) {lev : Nat} (hl : lev ≤ 7) (hs : StopT lev r) : Par lev r0 o r := by
  have h6 : lev ≤ 6 → Par 6 r0 o r := fun _ => h.up2 (.inr rfl) hp.2
  have h5 : lev ≤ 5 → Par 5 r0 o r := fun e => (h6 (by omega)).up (by omega) (hs 5 e (by omega))
  have h4 : lev ≤ 4 → Par 4 r0 o r := fun e => (h5 (by omega)).up (by omega) (hs 4 e (by omega))
  have h3 : lev ≤ 3 → Par 3 r0 o r := fun e => (h4 (by omega)).up3 (hs 3 e (by omega))
  have h2 : lev ≤ 2 → Par 2 r0 o r := fun e => (h3 (by omega)).up2 (.inl rfl) hp.1
  have h1 : lev ≤ 1 → Par 1 r0 o r := fun e => (h2 (by omega)).up (by omega) (hs 1 e (by omega))
  have h0 : lev ≤ 0 → Par 0 r0 o r := fun e => (h1 (by omega)).up (by omega) (hs 0 e (by omega))
  have : lev = 0 ∨ lev = 1 ∨ lev = 2 ∨ lev = 3 ∨ lev = 4 ∨ lev = 5 ∨ lev = 6 ∨ lev = 7 := by omega
  rcases this with rfl | rfl | rfl | rfl | rfl | rfl | rfl | rfl
  · exact h0 (by omega)
  · exact h1 (by omega)
  · exact h2 (by omega)
  · exact h3 (by omega)
  · exact h4 (by omega)
  · exact h5 (by omega)
  · exact h6 (by omega)
  · exact h
/-- From level 2, or 6, on to a level above, behind a sign that is followed by one alone. -/
theorem Par.down2 {r0 r : List TT} {o : List TI} (h : Par 2 r0 o r) (hs : StopT 0 r) : Par 0 r0 o r :=
  (h.up (lev := 1) (by omega) (hs 1 (by omega) (by omega))).up (by omega) (hs 0 (by omega) (by omega))
theorem Par.down6 {r0 r : List TT} {o : List TI} (h : Par 6 r0 o r) (hs : StopT 0 r) (hn : seesT (sgn 11) r0 = none) : Par 0 r0 o r :=
  Par.down2 (((h.up (lev := 5) (by omega) (hs 5 (by omega) (by omega))).up (lev := 4) (by omega) (hs 4 (by omega) (by omega))).up3 (hs 3 (by omega) (by omega)) |>.up2 (lev := 2) (.inl rfl) hn) hs
theorem Par.pre {lev : Nat} {r1 r : List TT} {o : List TI} (hl : lev = 2 ∨ lev = 6) (h : Par lev r1 o r) : Par lev (sgnT (if lev = 2 then 11 else 12) :: r1) (o ++ [opI (if lev = 2 then 11 else 12)]) r := by
  obtain ⟨f0, h⟩ := h
  refine ⟨f0 + 1, fun f hf => ?_⟩
  obtain ⟨g, rfl⟩ : ∃ g, f = g + 1 := ⟨f - 1, by omega⟩
  unfold levP
  rw [if_neg (by omega), if_neg (by omega), if_pos hl]
  have : seesT (sgn (if lev = 2 then 11 else 12)) (sgnT (if lev = 2 then 11 else 12) :: r1) = some r1 := sees_this _ _ _
  rw [this]
  simp only []
  rw [h g (by omega)]
  rfl
theorem Par.two {lev : Nat} {r0 r1 r2 : List TT} {oa ob : List TI} {k : Int} (hl : lev = 0 ∨ lev = 1 ∨ lev = 4 ∨ lev = 5) (ha : Par (lev + 1) r0 oa (sgnT k :: r1)) (ht : twoT lev (sgnT k :: r1) = some (k, r1)) (hb : Par (lev + 1) r1 ob r2) (hn : twoT lev r2 = none) : Par lev r0 (oa ++ (ob ++ [opI k])) r2 := by
  obtain ⟨f1, ha⟩ := ha
  obtain ⟨f2, hb⟩ := hb
  refine ⟨f1 + f2 + 3, fun f hf => ?_⟩
  obtain ⟨g, rfl⟩ : ∃ g, f = g + 1 + 1 + 1 := ⟨f - 3, by omega⟩
  unfold levP
  rw [if_pos hl, ha _ (by omega)]
  simp only [Option.bind_some]
  unfold tailP
  rw [ht]
  simp only []
  rw [hb _ (by omega)]
  simp only [Option.bind_some]
  unfold tailP
  rw [hn]
theorem Par.two3 {r0 r1 r2 : List TT} {oa ob : List TI} {k : Int} (ha : Par 4 r0 oa (sgnT k :: r1)) (ht : twoT 3 (sgnT k :: r1) = some (k, r1)) (hb : Par 4 r1 ob r2) : Par 3 r0 (oa ++ (ob ++ [opI k])) r2 := by
  obtain ⟨f1, ha⟩ := ha
  obtain ⟨f2, hb⟩ := hb
  refine ⟨f1 + f2 + 1, fun f hf => ?_⟩
  obtain ⟨g, rfl⟩ : ∃ g, f = g + 1 := ⟨f - 1, by omega⟩
  unfold levP
  rw [if_neg (by omega), if_pos rfl, ha _ (by omega)]
  simp only [Option.bind_some]
  rw [ht]
  simp only []
  rw [hb _ (by omega)]
  rfl
theorem Par.paren {r1 r : List TT} {o : List TI} (h : Par 0 r1 o (parC :: r)) : Par 7 (parO :: r1) o r := by
  obtain ⟨f0, h⟩ := h
  refine ⟨f0 + 1, fun f hf => ?_⟩
  obtain ⟨g, rfl⟩ : ∃ g, f = g + 1 := ⟨f - 1, by omega⟩
  unfold levP
  rw [if_neg (by omega), if_neg (by omega), if_neg (by omega)]
  have e1 : seesT ⟨#[40]⟩ (parO :: r1) = some r1 := sees_this _ _ _
  have e2 : seesT ⟨#[41]⟩ (parC :: r) = some r := sees_this _ _ _
  rw [e1]
  simp only []
  rw [h g (by omega)]
  simp only [Option.bind_some]
  rw [e2]
  rfl
/-- The level of a sign between two. -/
def levK (k : Int) : Nat := if k = 10 then 0 else if k = 9 then 1 else if k = 7 ∨ k = 8 then 3 else if k = 3 ∨ k = 4 then 4 else 5
theorem sees_sgn (j k : Int) (hj : 3 ≤ j ∧ j ≤ 12) (hk : 3 ≤ k ∧ k ≤ 12) (r : List TT) : seesT (sgn j) (sgnT k :: r) = if j = k then some r else none := by
  have h1 : j = 3 ∨ j = 4 ∨ j = 5 ∨ j = 6 ∨ j = 7 ∨ j = 8 ∨ j = 9 ∨ j = 10 ∨ j = 11 ∨ j = 12 := by omega
  have h2 : k = 3 ∨ k = 4 ∨ k = 5 ∨ k = 6 ∨ k = 7 ∨ k = 8 ∨ k = 9 ∨ k = 10 ∨ k = 11 ∨ k = 12 := by omega
  have key : (sgn k = sgn j) ↔ j = k := by
    rcases h1 with rfl | rfl | rfl | rfl | rfl | rfl | rfl | rfl | rfl | rfl <;> rcases h2 with rfl | rfl | rfl | rfl | rfl | rfl | rfl | rfl | rfl | rfl <;> decide +kernel
  rw [seesT_cons]
  by_cases e : j = k
  · rw [if_pos ⟨rfl, key.2 e⟩, if_pos e]
  · rw [if_neg (fun h => e (key.1 h.2)), if_neg e]
theorem two_sgn (k : Int) (hk : 3 ≤ k ∧ k ≤ 10) (r : List TT) (L : Nat) (hL : L ≤ 5) : twoT L (sgnT k :: r) = if levK k = L then some (k, r) else none := by
  have h2 : k = 3 ∨ k = 4 ∨ k = 5 ∨ k = 6 ∨ k = 7 ∨ k = 8 ∨ k = 9 ∨ k = 10 := by omega
  have h1 : L = 0 ∨ L = 1 ∨ L = 2 ∨ L = 3 ∨ L = 4 ∨ L = 5 := by omega
  rcases h1 with rfl | rfl | rfl | rfl | rfl | rfl <;> simp only [twoT, kindsL, twoK, reduceIte, Nat.reduceEqDiff] <;> (repeat rw [sees_sgn _ k (by omega) (by omega) r]) <;> rcases h2 with rfl | rfl | rfl | rfl | rfl | rfl | rfl | rfl <;> simp [levK]
theorem stop_sgn (k : Int) (hk : 3 ≤ k ∧ k ≤ 10) (r : List TT) : StopT (levK k + 1) (sgnT k :: r) := fun L h1 h2 => by
  rw [two_sgn k hk r L h2, if_neg (by omega)]
theorem sees_other {s : ByteArray} {t : TT} {r : List TT} (h : t.1 ≠ 3 ∨ t.2.1 ≠ s) : seesT s (t :: r) = none := by
  rw [seesT_cons, if_neg (fun ⟨a, b⟩ => by rcases h with h | h <;> contradiction)]
theorem stop_par (r : List TT) : StopT 0 (parC :: r) := fun L _ h2 => by
  have h1 : L = 0 ∨ L = 1 ∨ L = 2 ∨ L = 3 ∨ L = 4 ∨ L = 5 := by omega
  have key : ∀ k : Int, 3 ≤ k → k ≤ 12 → seesT (sgn k) (parC :: r) = none := fun k a b => by
    have h2 : k = 3 ∨ k = 4 ∨ k = 5 ∨ k = 6 ∨ k = 7 ∨ k = 8 ∨ k = 9 ∨ k = 10 ∨ k = 11 ∨ k = 12 := by omega
    refine sees_other (.inr ?_)
    rcases h2 with rfl | rfl | rfl | rfl | rfl | rfl | rfl | rfl | rfl | rfl <;> decide +kernel
  rcases h1 with rfl | rfl | rfl | rfl | rfl | rfl <;> simp only [twoT, kindsL, twoK, reduceIte, Nat.reduceEqDiff] <;> (repeat rw [key _ (by omega) (by omega)])
theorem stop_nil : StopT 0 [] := fun L _ h2 => by
  have h1 : L = 0 ∨ L = 1 ∨ L = 2 ∨ L = 3 ∨ L = 4 ∨ L = 5 := by omega
  rcases h1 with rfl | rfl | rfl | rfl | rfl | rfl <;> rfl
theorem tkOf_kind {x : TI} (hx : x.1 = 1 ∨ x.1 = 2) : (tkOf x).1 ≠ 3 := by
  unfold tkOf
  rcases hx with e | e
  · rw [if_pos e]
    exact (by decide : (2 : Int) ≠ 3)
  · rw [if_neg (by omega)]
    exact (by decide : (1 : Int) ≠ 3)
theorem itm_tk {x : TI} (h : itemB x = true) (hx : x.1 = 1 ∨ x.1 = 2) : itmOf (tkOf x) = x := by
  obtain ⟨k, c, s⟩ := x
  unfold itemB at h
  dsimp only at h hx
  unfold itmOf tkOf
  dsimp only
  rcases hx with rfl | rfl
  · rw [if_pos rfl] at h
    simp only [Bool.and_eq_true, decide_eq_true_eq] at h
    simp [h.2]
  · rw [if_neg (by decide), if_pos rfl] at h
    simp only [Bool.and_eq_true, decide_eq_true_eq] at h
    simp [h.2]
theorem pre_tree {t : Tr} (h : t.ok) (r : List TT) : NoPre (t.toks ++ r) := by
  cases t with
  | leaf x => exact ⟨sees_other (.inl (tkOf_kind h.2)), sees_other (.inl (tkOf_kind h.2))⟩
  | one k t => exact ⟨sees_other (.inr (by decide +kernel)), sees_other (.inr (by decide +kernel))⟩
  | two k a b => exact ⟨sees_other (.inr (by decide +kernel)), sees_other (.inr (by decide +kernel))⟩
/-- A sum is read from its tokens. -/
theorem par_tree {t : Tr} (h : t.ok) : ∀ r, Par 7 (t.toks ++ r) t.post r := by
  induction t with
  | leaf x =>
    intro r
    refine ⟨1, fun f hf => ?_⟩
    obtain ⟨g, rfl⟩ : ∃ g, f = g + 1 := ⟨f - 1, by omega⟩
    simp only [Tr.toks, Tr.post, List.singleton_append]
    unfold levP
    rw [if_neg (by omega), if_neg (by omega), if_neg (by omega), sees_other (.inl (tkOf_kind h.2))]
    simp only []
    rw [if_neg (tkOf_kind h.2), itm_tk h.1 h.2]
  | one k t ih =>
    intro r
    have hi := ih h.2 (parC :: r)
    simp only [Tr.toks, Tr.post, List.cons_append, List.append_assoc, List.nil_append]
    refine Par.paren ?_
    rcases h.1 with rfl | rfl
    · exact Par.down2 (Par.pre (lev := 2) (.inl rfl) (hi.down (pre_tree h.2 _) (by omega) ((stop_par r).mono (by omega)))) (stop_par r)
    · refine Par.down6 (Par.pre (lev := 6) (.inr rfl) (hi.down (pre_tree h.2 _) (by omega) ((stop_par r).mono (by omega)))) (stop_par r) ?_
      rw [sees_sgn 11 12 (by omega) (by omega), if_neg (by omega)]
  | two k a b iha ihb =>
    intro r
    have hk := h.1
    have ha := iha h.2.1 (sgnT k :: (b.toks ++ parC :: r))
    have hb := ihb h.2.2 (parC :: r)
    simp only [Tr.toks, Tr.post, List.cons_append, List.append_assoc, List.nil_append]
    refine Par.paren ?_
    have hL : levK k ≤ 5 := by unfold levK; (repeat' split) <;> omega
    have hA : Par (levK k + 1) (a.toks ++ sgnT k :: (b.toks ++ parC :: r)) a.post (sgnT k :: (b.toks ++ parC :: r)) := ha.down (pre_tree h.2.1 _) (by omega) (stop_sgn k hk _)
    have hB : Par (levK k + 1) (b.toks ++ parC :: r) b.post (parC :: r) := hb.down (pre_tree h.2.2 _) (by omega) ((stop_par r).mono (by omega))
    have hT : twoT (levK k) (sgnT k :: (b.toks ++ parC :: r)) = some (k, b.toks ++ parC :: r) := by rw [two_sgn k hk _ _ hL, if_pos rfl]
    have hS := stop_par r
    have hcase : levK k = 0 ∨ levK k = 1 ∨ levK k = 3 ∨ levK k = 4 ∨ levK k = 5 := by unfold levK; (repeat' split) <;> omega
    have hp := (pre_tree h.2.1 (sgnT k :: (b.toks ++ parC :: r))).1
    rcases hcase with e | e | e | e | e
    · rw [e] at hA hB hT
      exact Par.two (.inl rfl) hA hT hB (hS 0 (by omega) (by omega))
    · rw [e] at hA hB hT
      exact (Par.two (.inr (.inl rfl)) hA hT hB (hS 1 (by omega) (by omega))).up (by omega) (hS 0 (by omega) (by omega))
    · rw [e] at hA hB hT
      exact Par.down2 ((Par.two3 hA hT hB).up2 (lev := 2) (.inl rfl) hp) hS
    · rw [e] at hA hB hT
      exact Par.down2 (((Par.two (.inr (.inr (.inl rfl))) hA hT hB (hS 4 (by omega) (by omega))).up3 (hS 3 (by omega) (by omega))).up2 (lev := 2) (.inl rfl) hp) hS
    · rw [e] at hA hB hT
      exact Par.down2 ((((Par.two (.inr (.inr (.inr rfl))) hA hT hB (hS 5 (by omega) (by omega))).up (lev := 4) (by omega) (hS 4 (by omega) (by omega))).up3 (hS 3 (by omega) (by omega))).up2 (lev := 2) (.inl rfl) hp) hS
theorem Par.levR {lev : Nat} {r0 r : List TT} {o : List TI} (h : Par lev r0 o r) (hl : lev ≤ 7) : levR lev r0 = some (o, r) := by
  obtain ⟨f0, h⟩ := h
  rw [← levR_of hl (f := f0 + (10 * r0.length + 8)) (by omega)]
  exact h _ (by omega)
theorem par_sum {t : Tr} (h : t.ok) : Par 0 t.toks t.post [] := by
  have := (par_tree h []).down (pre_tree h []) (lev := 0) (by omega) stop_nil
  rwa [List.append_nil] at this
end Go.Proofs.YthgbjnchhaoceaaGreatDoor
