/-
  A part of the proof: Three3, Three4, Lists3, Tok1.
-/
import Derived.Test.YthgbjnchhaoceaaGreatDoorPart6
import Derived.Test.YthgbjnchhaoceaaGreatDoorPart1
import Derived.Test.YthgbjnchhaoceaaGreatDoorPart3

/-
  The contracts of the model's Not, IsNone and Holds: they come to what the program's come to.
-/
namespace Go.Proofs.YthgbjnchhaoceaaGreatDoor
open Go.ChangeShapes Go.WideShapes Go.ChangeAt Go.RowKit
attribute [local go_sem ↓] Go.wp_at_zero Go.wp_at_succ

theorem empty_of {t : ByteArray} (h : t.toList.isEmpty = true) : t = ⟨#[]⟩ := bytes_eq (by rw [toList_empty]; exact List.isEmpty_iff.1 h)

/-- The three right answers. -/
theorem three_cases {k n : Int} {t : ByteArray} (h : threeB k n t = true) : (k = 0 ∧ n = 0 ∧ t = ⟨#[]⟩) ∨ (k = 3 ∧ n = 0 ∧ t = ⟨#[]⟩) ∨ (k = 3 ∧ n = 1 ∧ t = ⟨#[]⟩) := by
  unfold threeB okB at h
  by_cases k0 : k = 0
  · subst k0
    simp only [if_true, Bool.and_eq_true, beq_iff_eq] at h
    exact .inl ⟨rfl, h.1.1, empty_of h.1.2⟩
  by_cases k3 : k = 3
  · subst k3
    simp at h
    have ht : t = ⟨#[]⟩ := empty_of (by simp [h.2])
    rcases (show n = 0 ∨ n = 1 by omega) with hn | hn
    · exact .inr (.inl ⟨rfl, hn, ht⟩)
    · exact .inr (.inr ⟨rfl, hn, ht⟩)
  · simp [k0, k3] at h

set_option maxHeartbeats 400000 in
theorem three_specb (k n : Int) (t : ByteArray) (b : Bool) (hb : threeB k n t = b) (w : World) (ht : t.size ≤ maxLen) :
    Calls Tryz.prog 137 #[.agg #[.int .i64 k, .int .i64 n, .string t]] w fun e w' => e = .returned (.bool b) ∧ Below w.heap.size w w' := by
  subst hb
  cases h : okB k n t
  · rw [show threeB k n t = false from by simp [threeB, h]]
    go_enter Tryz.func137, Tryz.ntmps137
    go_wp2_with fail
    refine (ok_specb _ _ _ _ h _ ht).mono ?_
    rintro e w1 ⟨rfl, hb1⟩
    go_wp2
    go_ret
    exact ⟨rfl, chainA hb1⟩
  · rw [show threeB k n t = (k == 3 || k == 0) from by simp [threeB, h]]
    by_cases k3 : k = 3
    · subst k3
      go_enter Tryz.func137, Tryz.ntmps137
      go_wp2_with fail
      refine (ok_specb _ _ _ _ h _ ht).mono ?_
      rintro e w1 ⟨rfl, hb1⟩
      obtain ⟨a1, b1, c1, d1⟩ := box3 hb1
      go_wp2
      go_ret
      exact ⟨rfl, chainA hb1⟩
    · rw [show (k == 3) = false from by simp [k3], Bool.false_or]
      go_enter Tryz.func137, Tryz.ntmps137
      go_wp2_with fail
      refine (ok_specb _ _ _ _ h _ ht).mono ?_
      rintro e w1 ⟨rfl, hb1⟩
      obtain ⟨a1, b1, c1, d1⟩ := box3 hb1
      go_wp2
      go_ret
      exact ⟨ret_bool (by first | rfl | simp [*]), chainA hb1⟩

set_option maxHeartbeats 400000 in
theorem not_spec (k n : Int) (t : ByteArray) (w : World) (ht : t.size ≤ maxLen) :
    Calls Tryz.prog 99 #[.agg #[.int .i64 k, .int .i64 n, .string t]] w fun e w' => e = .returned (.tuple #[.agg #[.int .i64 (notR k n t).1, .int .i64 (notR k n t).2.1, .string ⟨#[]⟩], .int .i64 (notR k n t).2.2]) ∧ Below w.heap.size w w' := by
  cases h : threeB k n t
  · simp only [show notR k n t = (0, 0, 3) from by simp [notR, h, resT]]
    go_enter Tryz.func99, Tryz.ntmps99
    go_wp2_with fail
    refine (three_specb _ _ _ _ h _ ht).mono ?_
    rintro e w1 ⟨rfl, hb1⟩
    obtain ⟨⟨a1, b1, c1, d1⟩, ⟨x1, y1, z1, s1⟩, f0, f1, f2⟩ := two3 hb1
    have hx := chainAA hb1
    have hxs := hx.size
    go_wp2
    exact bodyPost_ret (v := .tuple #[.agg #[.int .i64 0, .int .i64 0, .string ⟨#[]⟩], .int .i64 3]) (by simp [results, Tryz.results99, go_sem, x1, y1, z1]) rfl ⟨rfl, by go_grown⟩
  · rcases three_cases h with ⟨rfl, rfl, rfl⟩ | ⟨rfl, rfl, rfl⟩ | ⟨rfl, rfl, rfl⟩
    · simp only [show notR 0 0 ⟨#[]⟩ = (0, 0, 0) from by unfold notR; rw [h]; rfl]
      go_enter Tryz.func99, Tryz.ntmps99
      go_wp2_with fail
      refine (three_specb _ _ _ _ h _ ht).mono ?_
      rintro e w1 ⟨rfl, hb1⟩
      obtain ⟨⟨a1, b1, c1, d1⟩, ⟨x1, y1, z1, s1⟩, f0, f1, f2⟩ := two3 hb1
      have hx := chainAA hb1
      have hxs := hx.size
      go_wp2
      exact bodyPost_ret (v := .tuple #[.agg #[.int .i64 0, .int .i64 0, .string ⟨#[]⟩], .int .i64 0]) (by simp [results, Tryz.results99, go_sem, x1, y1, z1]) rfl ⟨rfl, by go_grown⟩
    · simp only [show notR 3 0 ⟨#[]⟩ = (3, 1, 0) from by unfold notR; rw [h]; rfl]
      go_enter Tryz.func99, Tryz.ntmps99
      go_wp2_with fail
      refine (three_specb _ _ _ _ h _ ht).mono ?_
      rintro e w1 ⟨rfl, hb1⟩
      obtain ⟨⟨a1, b1, c1, d1⟩, ⟨x1, y1, z1, s1⟩, ff⟩ := two3 hb1
      go_wp2_with fail
      refine (truth_specb _ 1 (by simp) _).mono ?_
      rintro e w2 ⟨rfl, hb2⟩
      obtain ⟨f0, f1, f2⟩ := frozen3 hb2 s1 ff
      obtain ⟨x2, y2, z2, s2⟩ := later3 hb2 ⟨x1, y1, z1, s1⟩
      have hx := chain (chainAA hb1) hb2
      have hxs := hx.size
      go_wp2
      exact bodyPost_ret (v := .tuple #[.agg #[.int .i64 3, .int .i64 1, .string ⟨#[]⟩], .int .i64 0]) (by simp [results, Tryz.results99, go_sem, x2, y2, z2]) rfl ⟨rfl, by go_grown⟩
    · simp only [show notR 3 1 ⟨#[]⟩ = (3, 0, 0) from by unfold notR; rw [h]; rfl]
      go_enter Tryz.func99, Tryz.ntmps99
      go_wp2_with fail
      refine (three_specb _ _ _ _ h _ ht).mono ?_
      rintro e w1 ⟨rfl, hb1⟩
      obtain ⟨⟨a1, b1, c1, d1⟩, ⟨x1, y1, z1, s1⟩, ff⟩ := two3 hb1
      go_wp2_with fail
      refine (truth_specb _ 0 (by simp) _).mono ?_
      rintro e w2 ⟨rfl, hb2⟩
      obtain ⟨f0, f1, f2⟩ := frozen3 hb2 s1 ff
      obtain ⟨x2, y2, z2, s2⟩ := later3 hb2 ⟨x1, y1, z1, s1⟩
      have hx := chain (chainAA hb1) hb2
      have hxs := hx.size
      go_wp2
      exact bodyPost_ret (v := .tuple #[.agg #[.int .i64 3, .int .i64 0, .string ⟨#[]⟩], .int .i64 0]) (by simp [results, Tryz.results99, go_sem, x2, y2, z2]) rfl ⟨rfl, by go_grown⟩

set_option maxHeartbeats 400000 in
theorem none_spec (k n : Int) (t : ByteArray) (w : World) (ht : t.size ≤ maxLen) :
    Calls Tryz.prog 100 #[.agg #[.int .i64 k, .int .i64 n, .string t]] w fun e w' => e = .returned (.tuple #[.agg #[.int .i64 (noneR k n t).1, .int .i64 (noneR k n t).2.1, .string ⟨#[]⟩], .int .i64 (noneR k n t).2.2]) ∧ Below w.heap.size w w' := by
  cases h : okB k n t
  · simp only [show noneR k n t = (0, 0, 3) from by simp [noneR, h]]
    go_enter Tryz.func100, Tryz.ntmps100
    go_wp2_with fail
    refine (ok_specb _ _ _ _ h _ ht).mono ?_
    rintro e w1 ⟨rfl, hb1⟩
    obtain ⟨⟨a1, b1, c1, d1⟩, ⟨x1, y1, z1, s1⟩, f0, f1, f2⟩ := two3 hb1
    have hx := chainAA hb1
    have hxs := hx.size
    go_wp2
    exact bodyPost_ret (v := .tuple #[.agg #[.int .i64 0, .int .i64 0, .string ⟨#[]⟩], .int .i64 3]) (by simp [results, Tryz.results100, go_sem, x1, y1, z1]) rfl ⟨rfl, by go_grown⟩
  · have hR : noneR k n t = (3, if k = 0 then 1 else 0, 0) := by simp [noneR, h]
    generalize hm : (if k = 0 then (1 : Int) else 0) = m at hR
    simp only [hR]
    go_enter Tryz.func100, Tryz.ntmps100
    go_wp2_with fail
    refine (ok_specb _ _ _ _ h _ ht).mono ?_
    rintro e w1 ⟨rfl, hb1⟩
    obtain ⟨⟨a1, b1, c1, d1⟩, ⟨x1, y1, z1, s1⟩, ff⟩ := two3 hb1
    go_wp2_with fail
    refine (truth_specb _ m (by rw [← hm]; simp) _).mono ?_
    rintro e w2 ⟨rfl, hb2⟩
    obtain ⟨f0, f1, f2⟩ := frozen3 hb2 s1 ff
    obtain ⟨x2, y2, z2, s2⟩ := later3 hb2 ⟨x1, y1, z1, s1⟩
    have hx := chain (chainAA hb1) hb2
    have hxs := hx.size
    go_wp2
    exact bodyPost_ret (v := .tuple #[.agg #[.int .i64 3, .int .i64 m, .string ⟨#[]⟩], .int .i64 0]) (by simp [results, Tryz.results100, go_sem, x2, y2, z2]) rfl ⟨rfl, by go_grown⟩

set_option maxHeartbeats 400000 in
theorem holds_spec (k n : Int) (t : ByteArray) (w : World) :
    Calls Tryz.prog 19 #[.agg #[.int .i64 k, .int .i64 n, .string t]] w fun e w' => e = .returned (.bool (sameB k n t 3 1 ⟨#[]⟩)) ∧ Below w.heap.size w w' := by
  have hq := run_eql
  go_enter Tryz.func19, Tryz.ntmps19
  go_wp2_with fail
  first | go_region_with (go_at_call 53; refine (truth_specb true 1 rfl _).mono ?_; rintro e w1 ⟨rfl, hb1⟩; obtain ⟨a1, b1, c1, d1⟩ := box3 (undrew hb1)) | fail
  all_goals go_wp2
  all_goals go_ret
  all_goals exact ⟨rfl, chainA (undrew hb1)⟩

end Go.Proofs.YthgbjnchhaoceaaGreatDoor

/-
  The contracts of the model's Both and Either: they come to what the program's come to.
-/
namespace Go.Proofs.YthgbjnchhaoceaaGreatDoor
open Go.ChangeShapes Go.WideShapes Go.ChangeAt Go.RowKit
attribute [local go_sem ↓] Go.wp_at_zero Go.wp_at_succ

set_option maxHeartbeats 400000 in
theorem both_spec_a (k1 n1 : Int) (t1 : ByteArray) (k2 n2 : Int) (t2 : ByteArray) (w : World) (ht1 : t1.size ≤ maxLen) (h1 : threeB k1 n1 t1 = false) :
    Calls Tryz.prog 107 #[.agg #[.int .i64 k1, .int .i64 n1, .string t1], .agg #[.int .i64 k2, .int .i64 n2, .string t2]] w fun e w' => e = .returned (.tuple #[.agg #[.int .i64 0, .int .i64 0, .string ⟨#[]⟩], .int .i64 3]) ∧ Below w.heap.size w w' := by
  go_enter Tryz.func107, Tryz.ntmps107
  go_wp2_with fail
  refine (three_specb _ _ _ _ h1 _ ht1).mono ?_
  rintro e w1 ⟨rfl, hb1⟩
  obtain ⟨⟨a1, b1, c1, d1⟩, ⟨x1, y1, z1, s1⟩, ⟨p1, q1, r1, s2⟩, f0, f1, f2⟩ := three3 hb1
  have hx := chainA (chainAA hb1)
  have hxs := hx.size
  go_wp2
  exact bodyPost_ret (v := .tuple #[.agg #[.int .i64 0, .int .i64 0, .string ⟨#[]⟩], .int .i64 3]) (by simp [results, Tryz.results107, go_sem, p1, q1, r1]) rfl ⟨rfl, by go_grown⟩

set_option maxHeartbeats 400000 in
theorem both_spec_b (k1 n1 : Int) (t1 : ByteArray) (k2 n2 : Int) (t2 : ByteArray) (w : World) (ht1 : t1.size ≤ maxLen) (ht2 : t2.size ≤ maxLen) (h1 : threeB k1 n1 t1 = true) (h2 : threeB k2 n2 t2 = false) :
    Calls Tryz.prog 107 #[.agg #[.int .i64 k1, .int .i64 n1, .string t1], .agg #[.int .i64 k2, .int .i64 n2, .string t2]] w fun e w' => e = .returned (.tuple #[.agg #[.int .i64 0, .int .i64 0, .string ⟨#[]⟩], .int .i64 3]) ∧ Below w.heap.size w w' := by
  go_enter Tryz.func107, Tryz.ntmps107
  go_wp2_with fail
  refine (three_specb _ _ _ _ h1 _ ht1).mono ?_
  rintro e w1 ⟨rfl, hb1⟩
  obtain ⟨⟨a1, b1, c1, d1⟩, ⟨x1, y1, z1, s1⟩, ⟨p1, q1, r1, s2⟩, ff⟩ := three3 hb1
  go_wp2_with fail
  refine (three_specb _ _ _ _ h2 _ ht2).mono ?_
  rintro e w2 ⟨rfl, hb2⟩
  obtain ⟨f0, f1, f2⟩ := frozen3 hb2 s2 ff
  obtain ⟨p2, q2, r2, s3⟩ := later3 hb2 ⟨p1, q1, r1, s2⟩
  have hx := chain (chainA (chainAA hb1)) hb2
  have hxs := hx.size
  go_wp2
  exact bodyPost_ret (v := .tuple #[.agg #[.int .i64 0, .int .i64 0, .string ⟨#[]⟩], .int .i64 3]) (by simp [results, Tryz.results107, go_sem, p2, q2, r2]) rfl ⟨rfl, by go_grown⟩

set_option maxHeartbeats 1000000 in
theorem both_spec_c (k1 n1 : Int) (t1 : ByteArray) (k2 n2 : Int) (t2 : ByteArray) (v1 v2 z1b z2b : Bool) (w : World) (ht1 : t1.size ≤ maxLen) (ht2 : t2.size ≤ maxLen) (h1 : threeB k1 n1 t1 = true) (h2 : threeB k2 n2 t2 = true)
    (e1 : sameB k1 n1 t1 3 0 ⟨#[]⟩ = v1) (e2 : sameB k2 n2 t2 3 0 ⟨#[]⟩ = v2) (g1 : (k1 == 0) = z1b) (g2 : (k2 == 0) = z2b) (R : Int × Int × Int) (hR : (if (v1 || v2) = true then ((3 : Int), (0 : Int), (0 : Int)) else if (z1b || z2b) = true then (0, 0, 0) else (3, 1, 0)) = R) :
    Calls Tryz.prog 107 #[.agg #[.int .i64 k1, .int .i64 n1, .string t1], .agg #[.int .i64 k2, .int .i64 n2, .string t2]] w fun e w' => e = .returned (.tuple #[.agg #[.int .i64 R.1, .int .i64 R.2.1, .string ⟨#[]⟩], .int .i64 R.2.2]) ∧ Below w.heap.size w w' := by
  have hq1 : ∀ w, (binOp .eql 30 (.agg #[.int .i64 k1, .int .i64 n1, .string t1]) (.agg #[.int .i64 3, .int .i64 0, .string ⟨#[]⟩])).run Tryz.prog w = .ok (.bool v1) w := fun w => by rw [run_eql, e1]
  have hq2 : ∀ w, (binOp .eql 30 (.agg #[.int .i64 k2, .int .i64 n2, .string t2]) (.agg #[.int .i64 3, .int .i64 0, .string ⟨#[]⟩])).run Tryz.prog w = .ok (.bool v2) w := fun w => by rw [run_eql, e2]
  go_enter Tryz.func107, Tryz.ntmps107
  go_wp2_with fail
  refine (three_specb _ _ _ _ h1 _ ht1).mono ?_
  rintro e w1 ⟨rfl, hb1⟩
  obtain ⟨⟨a1, b1, c1, d1⟩, ⟨x1, y1, z1, s1⟩, ⟨p1, q1, r1, s2⟩, ff⟩ := three3 hb1
  go_wp2_with fail
  refine (three_specb _ _ _ _ h2 _ ht2).mono ?_
  rintro e w2 ⟨rfl, hb2⟩
  replace ff := frozen3 hb2 s2 ff
  obtain ⟨a2, b2, c2, d2⟩ := later3 hb2 ⟨a1, b1, c1, d1⟩
  obtain ⟨x2, y2, z2, s4⟩ := later3 hb2 ⟨x1, y1, z1, s1⟩
  obtain ⟨p2, q2, r2, s3⟩ := later3 hb2 ⟨p1, q1, r1, s2⟩
  have hx := chain (chainA (chainAA hb1)) hb2
  clear hb1 hb2 a1 b1 c1 d1 x1 y1 z1 s1 p1 q1 r1 s2
  go_wp2_with fail
  go_cut [16] (fun s16 wc => s16 = .bool (v1 || v2) ∧ Below w2.heap.size w2 wc)
  case first =>
    have hk : Below w2.heap.size w2 w2 := Below.refl _ _
    cases v1
    all_goals
      first
        | go_region_with
            (go_at_call 53
             refine (truth_specb false 0 rfl _).mono ?_
             rintro e w3 ⟨rfl, hb3⟩
             first
               | replace hb3 := undrew hb3
               | skip
             replace hk := chain hk hb3
             obtain ⟨a2, b2, c2, d2⟩ := later3 hb3 ⟨a2, b2, c2, d2⟩
             obtain ⟨x2, y2, z2, s4⟩ := later3 hb3 ⟨x2, y2, z2, s4⟩)
        | fail
      all_goals
        go_wp2_with fail
        go_meet
        case rel => exact ⟨rfl, hk⟩
  case rest =>
    obtain ⟨rfl, hbc⟩ := hcut
    replace ff := frozen3 hbc s3 ff
    obtain ⟨a3, b3, c3, d3⟩ := later3 hbc ⟨a2, b2, c2, d2⟩
    obtain ⟨x3, y3, z3, s5⟩ := later3 hbc ⟨x2, y2, z2, s4⟩
    obtain ⟨p3, q3, r3, s6⟩ := later3 hbc ⟨p2, q2, r2, s3⟩
    replace hx := chain hx hbc
    clear hbc a2 b2 c2 d2 x2 y2 z2 s4 p2 q2 r2 s3
    cases hv : (v1 || v2)
    · rw [hv] at hR
      cases hz : (z1b || z2b)
      · rw [hz] at hR
        subst hR
        obtain ⟨rfl, rfl⟩ : z1b = false ∧ z2b = false := by simpa using hz
        go_wp2_with fail
        refine (truth_specb _ 1 (by simp) _).mono ?_
        rintro e w6 ⟨rfl, hb6⟩
        obtain ⟨f0, f1, f2⟩ := frozen3 hb6 s6 ff
        obtain ⟨p4, q4, r4, s7⟩ := later3 hb6 ⟨p3, q3, r3, s6⟩
        replace hx := chain hx hb6
        have hxs := hx.size
        go_wp2
        exact bodyPost_ret (v := .tuple #[.agg #[.int .i64 3, .int .i64 1, .string ⟨#[]⟩], .int .i64 0]) (by simp [results, Tryz.results107, go_sem, p4, q4, r4]) rfl ⟨rfl, by go_grown⟩
      · rw [hz] at hR
        subst hR
        obtain ⟨f0, f1, f2⟩ := ff
        have hxs := hx.size
        cases z1b
        · obtain rfl : z2b = true := by simpa using hz
          go_wp2
          exact bodyPost_ret (v := .tuple #[.agg #[.int .i64 0, .int .i64 0, .string ⟨#[]⟩], .int .i64 0]) (by simp [results, Tryz.results107, go_sem, p3, q3, r3]) rfl ⟨rfl, by go_grown⟩
        · go_wp2
          exact bodyPost_ret (v := .tuple #[.agg #[.int .i64 0, .int .i64 0, .string ⟨#[]⟩], .int .i64 0]) (by simp [results, Tryz.results107, go_sem, p3, q3, r3]) rfl ⟨rfl, by go_grown⟩
    · rw [hv] at hR
      subst hR
      go_wp2_with fail
      refine (truth_specb _ 0 (by simp) _).mono ?_
      rintro e w6 ⟨rfl, hb6⟩
      obtain ⟨f0, f1, f2⟩ := frozen3 hb6 s6 ff
      obtain ⟨p4, q4, r4, s7⟩ := later3 hb6 ⟨p3, q3, r3, s6⟩
      replace hx := chain hx hb6
      have hxs := hx.size
      go_wp2
      exact bodyPost_ret (v := .tuple #[.agg #[.int .i64 3, .int .i64 0, .string ⟨#[]⟩], .int .i64 0]) (by simp [results, Tryz.results107, go_sem, p4, q4, r4]) rfl ⟨rfl, by go_grown⟩

theorem both_spec (k1 n1 : Int) (t1 : ByteArray) (k2 n2 : Int) (t2 : ByteArray) (w : World) (ht1 : t1.size ≤ maxLen) (ht2 : t2.size ≤ maxLen) :
    Calls Tryz.prog 107 #[.agg #[.int .i64 k1, .int .i64 n1, .string t1], .agg #[.int .i64 k2, .int .i64 n2, .string t2]] w fun e w' => e = .returned (.tuple #[.agg #[.int .i64 (bothR k1 n1 t1 k2 n2 t2).1, .int .i64 (bothR k1 n1 t1 k2 n2 t2).2.1, .string ⟨#[]⟩], .int .i64 (bothR k1 n1 t1 k2 n2 t2).2.2]) ∧ Below w.heap.size w w' := by
  cases h1 : threeB k1 n1 t1
  · simp only [show bothR k1 n1 t1 k2 n2 t2 = (0, 0, 3) from by simp [bothR, h1, resT]]
    exact both_spec_a k1 n1 t1 k2 n2 t2 w ht1 h1
  cases h2 : threeB k2 n2 t2
  · simp only [show bothR k1 n1 t1 k2 n2 t2 = (0, 0, 3) from by simp [bothR, h2, resT]]
    exact both_spec_b k1 n1 t1 k2 n2 t2 w ht1 ht2 h1 h2
  refine both_spec_c k1 n1 t1 k2 n2 t2 _ _ _ _ w ht1 ht2 h1 h2 rfl rfl rfl rfl _ ?_
  unfold bothR
  rw [h1, h2]
  rcases three_cases h1 with ⟨rfl, rfl, rfl⟩ | ⟨rfl, rfl, rfl⟩ | ⟨rfl, rfl, rfl⟩ <;>
  rcases three_cases h2 with ⟨rfl, rfl, rfl⟩ | ⟨rfl, rfl, rfl⟩ | ⟨rfl, rfl, rfl⟩ <;>
  (simp [sameB, resT, rankI, rkK, rkN] <;> omega)

theorem holds_specb (k n : Int) (t : ByteArray) (b : Bool) (hb : sameB k n t 3 1 ⟨#[]⟩ = b) (w : World) :
    Calls Tryz.prog 19 #[.agg #[.int .i64 k, .int .i64 n, .string t]] w fun e w' => e = .returned (.bool b) ∧ Below w.heap.size w w' := by
  subst hb; exact holds_spec k n t w

set_option maxHeartbeats 400000 in
theorem either_spec_a (k1 n1 : Int) (t1 : ByteArray) (k2 n2 : Int) (t2 : ByteArray) (w : World) (ht1 : t1.size ≤ maxLen) (h1 : threeB k1 n1 t1 = false) :
    Calls Tryz.prog 108 #[.agg #[.int .i64 k1, .int .i64 n1, .string t1], .agg #[.int .i64 k2, .int .i64 n2, .string t2]] w fun e w' => e = .returned (.tuple #[.agg #[.int .i64 0, .int .i64 0, .string ⟨#[]⟩], .int .i64 3]) ∧ Below w.heap.size w w' := by
  go_enter Tryz.func108, Tryz.ntmps108
  go_wp2_with fail
  refine (three_specb _ _ _ _ h1 _ ht1).mono ?_
  rintro e w1 ⟨rfl, hb1⟩
  obtain ⟨⟨a1, b1, c1, d1⟩, ⟨x1, y1, z1, s1⟩, ⟨p1, q1, r1, s2⟩, f0, f1, f2⟩ := three3 hb1
  have hx := chainA (chainAA hb1)
  have hxs := hx.size
  go_wp2
  exact bodyPost_ret (v := .tuple #[.agg #[.int .i64 0, .int .i64 0, .string ⟨#[]⟩], .int .i64 3]) (by simp [results, Tryz.results108, go_sem, p1, q1, r1]) rfl ⟨rfl, by go_grown⟩

set_option maxHeartbeats 400000 in
theorem either_spec_b (k1 n1 : Int) (t1 : ByteArray) (k2 n2 : Int) (t2 : ByteArray) (w : World) (ht1 : t1.size ≤ maxLen) (ht2 : t2.size ≤ maxLen) (h1 : threeB k1 n1 t1 = true) (h2 : threeB k2 n2 t2 = false) :
    Calls Tryz.prog 108 #[.agg #[.int .i64 k1, .int .i64 n1, .string t1], .agg #[.int .i64 k2, .int .i64 n2, .string t2]] w fun e w' => e = .returned (.tuple #[.agg #[.int .i64 0, .int .i64 0, .string ⟨#[]⟩], .int .i64 3]) ∧ Below w.heap.size w w' := by
  go_enter Tryz.func108, Tryz.ntmps108
  go_wp2_with fail
  refine (three_specb _ _ _ _ h1 _ ht1).mono ?_
  rintro e w1 ⟨rfl, hb1⟩
  obtain ⟨⟨a1, b1, c1, d1⟩, ⟨x1, y1, z1, s1⟩, ⟨p1, q1, r1, s2⟩, ff⟩ := three3 hb1
  go_wp2_with fail
  refine (three_specb _ _ _ _ h2 _ ht2).mono ?_
  rintro e w2 ⟨rfl, hb2⟩
  obtain ⟨f0, f1, f2⟩ := frozen3 hb2 s2 ff
  obtain ⟨p2, q2, r2, s3⟩ := later3 hb2 ⟨p1, q1, r1, s2⟩
  have hx := chain (chainA (chainAA hb1)) hb2
  have hxs := hx.size
  go_wp2
  exact bodyPost_ret (v := .tuple #[.agg #[.int .i64 0, .int .i64 0, .string ⟨#[]⟩], .int .i64 3]) (by simp [results, Tryz.results108, go_sem, p2, q2, r2]) rfl ⟨rfl, by go_grown⟩

set_option maxHeartbeats 1000000 in
theorem either_spec_c (k1 n1 : Int) (t1 : ByteArray) (k2 n2 : Int) (t2 : ByteArray) (v1 v2 z1b z2b : Bool) (w : World) (ht1 : t1.size ≤ maxLen) (ht2 : t2.size ≤ maxLen) (h1 : threeB k1 n1 t1 = true) (h2 : threeB k2 n2 t2 = true)
    (e1 : sameB k1 n1 t1 3 1 ⟨#[]⟩ = v1) (e2 : sameB k2 n2 t2 3 1 ⟨#[]⟩ = v2) (g1 : (k1 == 0) = z1b) (g2 : (k2 == 0) = z2b) (R : Int × Int × Int) (hR : (if (v1 || v2) = true then ((3 : Int), (1 : Int), (0 : Int)) else if (z1b || z2b) = true then (0, 0, 0) else (3, 0, 0)) = R) :
    Calls Tryz.prog 108 #[.agg #[.int .i64 k1, .int .i64 n1, .string t1], .agg #[.int .i64 k2, .int .i64 n2, .string t2]] w fun e w' => e = .returned (.tuple #[.agg #[.int .i64 R.1, .int .i64 R.2.1, .string ⟨#[]⟩], .int .i64 R.2.2]) ∧ Below w.heap.size w w' := by
  go_enter Tryz.func108, Tryz.ntmps108
  go_wp2_with fail
  refine (three_specb _ _ _ _ h1 _ ht1).mono ?_
  rintro e w1 ⟨rfl, hb1⟩
  obtain ⟨⟨a1, b1, c1, d1⟩, ⟨x1, y1, z1, s1⟩, ⟨p1, q1, r1, s2⟩, ff⟩ := three3 hb1
  go_wp2_with fail
  refine (three_specb _ _ _ _ h2 _ ht2).mono ?_
  rintro e w2 ⟨rfl, hb2⟩
  replace ff := frozen3 hb2 s2 ff
  obtain ⟨a2, b2, c2, d2⟩ := later3 hb2 ⟨a1, b1, c1, d1⟩
  obtain ⟨x2, y2, z2, s4⟩ := later3 hb2 ⟨x1, y1, z1, s1⟩
  obtain ⟨p2, q2, r2, s3⟩ := later3 hb2 ⟨p1, q1, r1, s2⟩
  have hx := chain (chainA (chainAA hb1)) hb2
  clear hb1 hb2 a1 b1 c1 d1 x1 y1 z1 s1 p1 q1 r1 s2
  go_wp2_with fail
  refine (holds_specb _ _ _ _ e1 _).mono ?_
  rintro e wb ⟨rfl, hbc⟩
  replace ff := frozen3 hbc s3 ff
  obtain ⟨a3, b3, c3, d3⟩ := later3 hbc ⟨a2, b2, c2, d2⟩
  obtain ⟨x3, y3, z3, s5⟩ := later3 hbc ⟨x2, y2, z2, s4⟩
  obtain ⟨p3, q3, r3, s6⟩ := later3 hbc ⟨p2, q2, r2, s3⟩
  replace hx := chain hx hbc
  clear hbc a2 b2 c2 d2 x2 y2 z2 s4 p2 q2 r2 s3
  cases v1
  · go_wp2_with fail
    refine (holds_specb _ _ _ _ e2 _).mono ?_
    rintro e wd ⟨rfl, hbd⟩
    replace ff := frozen3 hbd s6 ff
    obtain ⟨a3, b3, c3, d3⟩ := later3 hbd ⟨a3, b3, c3, d3⟩
    obtain ⟨x3, y3, z3, s5⟩ := later3 hbd ⟨x3, y3, z3, s5⟩
    obtain ⟨p3, q3, r3, s6⟩ := later3 hbd ⟨p3, q3, r3, s6⟩
    replace hx := chain hx hbd
    clear hbd
    cases v2
    · cases hz : (z1b || z2b)
      · rw [hz] at hR
        subst hR
        obtain ⟨rfl, rfl⟩ : z1b = false ∧ z2b = false := by simpa using hz
        go_wp2_with fail
        refine (truth_specb _ 0 (by simp) _).mono ?_
        rintro e w6 ⟨rfl, hb6⟩
        obtain ⟨f0, f1, f2⟩ := frozen3 hb6 s6 ff
        obtain ⟨p4, q4, r4, s7⟩ := later3 hb6 ⟨p3, q3, r3, s6⟩
        replace hx := chain hx hb6
        have hxs := hx.size
        go_wp2
        exact bodyPost_ret (v := .tuple #[.agg #[.int .i64 3, .int .i64 0, .string ⟨#[]⟩], .int .i64 0]) (by simp [results, Tryz.results108, go_sem, p4, q4, r4]) rfl ⟨rfl, by go_grown⟩
      · rw [hz] at hR
        subst hR
        obtain ⟨f0, f1, f2⟩ := ff
        have hxs := hx.size
        cases z1b
        · obtain rfl : z2b = true := by simpa using hz
          go_wp2
          exact bodyPost_ret (v := .tuple #[.agg #[.int .i64 0, .int .i64 0, .string ⟨#[]⟩], .int .i64 0]) (by simp [results, Tryz.results108, go_sem, p3, q3, r3]) rfl ⟨rfl, by go_grown⟩
        · go_wp2
          exact bodyPost_ret (v := .tuple #[.agg #[.int .i64 0, .int .i64 0, .string ⟨#[]⟩], .int .i64 0]) (by simp [results, Tryz.results108, go_sem, p3, q3, r3]) rfl ⟨rfl, by go_grown⟩
    · subst hR
      go_wp2_with fail
      refine (truth_specb _ 1 (by simp) _).mono ?_
      rintro e w6 ⟨rfl, hb6⟩
      obtain ⟨f0, f1, f2⟩ := frozen3 hb6 s6 ff
      obtain ⟨p4, q4, r4, s7⟩ := later3 hb6 ⟨p3, q3, r3, s6⟩
      replace hx := chain hx hb6
      have hxs := hx.size
      go_wp2
      exact bodyPost_ret (v := .tuple #[.agg #[.int .i64 3, .int .i64 1, .string ⟨#[]⟩], .int .i64 0]) (by simp [results, Tryz.results108, go_sem, p4, q4, r4]) rfl ⟨rfl, by go_grown⟩
  · subst hR
    go_wp2_with fail
    refine (truth_specb _ 1 (by simp) _).mono ?_
    rintro e w6 ⟨rfl, hb6⟩
    obtain ⟨f0, f1, f2⟩ := frozen3 hb6 s6 ff
    obtain ⟨p4, q4, r4, s7⟩ := later3 hb6 ⟨p3, q3, r3, s6⟩
    replace hx := chain hx hb6
    have hxs := hx.size
    go_wp2
    exact bodyPost_ret (v := .tuple #[.agg #[.int .i64 3, .int .i64 1, .string ⟨#[]⟩], .int .i64 0]) (by simp [results, Tryz.results108, go_sem, p4, q4, r4]) rfl ⟨rfl, by go_grown⟩

theorem either_spec (k1 n1 : Int) (t1 : ByteArray) (k2 n2 : Int) (t2 : ByteArray) (w : World) (ht1 : t1.size ≤ maxLen) (ht2 : t2.size ≤ maxLen) :
    Calls Tryz.prog 108 #[.agg #[.int .i64 k1, .int .i64 n1, .string t1], .agg #[.int .i64 k2, .int .i64 n2, .string t2]] w fun e w' => e = .returned (.tuple #[.agg #[.int .i64 (eitherR k1 n1 t1 k2 n2 t2).1, .int .i64 (eitherR k1 n1 t1 k2 n2 t2).2.1, .string ⟨#[]⟩], .int .i64 (eitherR k1 n1 t1 k2 n2 t2).2.2]) ∧ Below w.heap.size w w' := by
  cases h1 : threeB k1 n1 t1
  · simp only [show eitherR k1 n1 t1 k2 n2 t2 = (0, 0, 3) from by simp [eitherR, h1, resT]]
    exact either_spec_a k1 n1 t1 k2 n2 t2 w ht1 h1
  cases h2 : threeB k2 n2 t2
  · simp only [show eitherR k1 n1 t1 k2 n2 t2 = (0, 0, 3) from by simp [eitherR, h2, resT]]
    exact either_spec_b k1 n1 t1 k2 n2 t2 w ht1 ht2 h1 h2
  refine either_spec_c k1 n1 t1 k2 n2 t2 _ _ _ _ w ht1 ht2 h1 h2 rfl rfl rfl rfl _ ?_
  unfold eitherR
  rw [h1, h2]
  rcases three_cases h1 with ⟨rfl, rfl, rfl⟩ | ⟨rfl, rfl, rfl⟩ | ⟨rfl, rfl, rfl⟩ <;>
  rcases three_cases h2 with ⟨rfl, rfl, rfl⟩ | ⟨rfl, rfl, rfl⟩ | ⟨rfl, rfl, rfl⟩ <;>
  (simp [sameB, resT, rankI, rkK, rkN] <;> omega)

end Go.Proofs.YthgbjnchhaoceaaGreatDoor

/-
  The contract of the law's helper that holds two lists of cells against each other: of two that are one it answers true.
-/
namespace Go.Proofs.YthgbjnchhaoceaaGreatDoor
open Go.ChangeShapes Go.WideShapes Go.ChangeAt Go.RowKit
attribute [local go_sem ↓] Go.wp_at_zero Go.wp_at_succ

set_option maxHeartbeats 1000000 in
theorem eqs_laws (a b : Option Addr) (ca cb : Nat) (l : List CT) (w : World) (ha : RowAt w a l) (hb : RowAt w b l) (hm : l.length ≤ maxLen) :
    Calls Tryz.prog 34 #[.slice a l.length ca, .slice b l.length cb] w fun e w' => e = .returned (.bool true) ∧ Below w.heap.size w w' := by
  have hA : Hid (RowAt w a l) := ha
  have hB : Hid (RowAt w b l) := hb
  clear ha hb
  unfold maxLen at hm
  go_enter Tryz.func34, Tryz.ntmps34
  go_wp2
  go_loopw [5] (fun i wr => ∃ k : Nat, k ≤ l.length ∧ i = .int .i64 k ∧ Below w.heap.size w wr) (fun i _ => l.length - (intOf i).toNat)
  case atStart => exact ⟨0, Nat.zero_le _, rfl, Below.refl _ _⟩
  case round =>
    obtain ⟨k, hk, rfl, hx⟩ := hrel
    by_cases hlt : k < l.length
    · obtain ⟨b1, o1, rfl, hbw, c0, c1, c2⟩ := hA.out.below hx k hlt
      obtain ⟨b2, o2, rfl, hbw2, d0, d1, d2⟩ := hB.out.below hx k hlt
      have hi0 : (0 : Int) ≤ (k : Int) := by omega
      have hi1 : (k : Int) < (l.length : Int) := by omega
      generalize l[k] = x at c0 c1 c2 d0 d1 d2
      go_wp2_with fail
      go_region_held3 (fun w' => w'.cell? ⟨b1, o1 + k * 3, none⟩ = some (.int .i64 x.1) ∧ w'.cell? ⟨b1, o1 + k * 3 + 1, none⟩ = some (.int .i64 x.2.1) ∧ w'.cell? ⟨b1, o1 + k * 3 + 2, none⟩ = some (.string x.2.2) ∧
          w'.cell? ⟨b2, o2 + k * 3, none⟩ = some (.int .i64 x.1) ∧ w'.cell? ⟨b2, o2 + k * 3 + 1, none⟩ = some (.int .i64 x.2.1) ∧ w'.cell? ⟨b2, o2 + k * 3 + 2, none⟩ = some (.string x.2.2))
        (((try dsimp only); (repeat' apply And.intro) <;> first | (go_keep; done) | (simp (disch := first | omega | (simp <;> omega) | fail) [*]; done) | fail))
        ((go_at_call 31; refine (eq_laws _ _ _ _).mono ?_; rintro e w1 ⟨rfl, hb1⟩; obtain ⟨hc, hf⟩ := bcell hb1))
      all_goals
        go_wp2
        go_roundw
        case rel => exact ⟨k + 1, by omega, by go_num, chain hx (undrew hb1)⟩
        case measure => simp [intOf]; omega
    · go_wp2
      go_ret
      exact ⟨rfl, hx⟩

end Go.Proofs.YthgbjnchhaoceaaGreatDoor

/-
  Lists of Tokens: how one lies in memory, and the contracts of the law's helpers that measure, take over and compare.
-/
namespace Go.Proofs.YthgbjnchhaoceaaGreatDoor
open Go.ChangeShapes Go.WideShapes Go.ChangeAt Go.RowKit
attribute [local go_sem ↓] Go.wp_at_zero Go.wp_at_succ
attribute [local simp] World.cell?_alloc_past World.cell?_alloc_at World.frozen?_alloc_at cell_far cell_off cell_here World.frozen?_alloc_past

/-- The Tokens of a slice lie where it says. -/
def TokAt (w : World) (a : Option Addr) (l : List TT) : Prop :=
  ∀ j (h : j < l.length), ∃ b o, a = some ⟨b, o, none⟩ ∧ b < w.heap.size ∧ w.cell? ⟨b, o + j * 5, none⟩ = some (.int .i64 l[j].1) ∧ w.cell? ⟨b, o + j * 5 + 1, none⟩ = some (.string l[j].2.1) ∧ w.cell? ⟨b, o + j * 5 + 2, none⟩ = some (.int .i64 l[j].2.2.1) ∧ w.cell? ⟨b, o + j * 5 + 3, none⟩ = some (.int .i64 l[j].2.2.2.1) ∧ w.cell? ⟨b, o + j * 5 + 4, none⟩ = some (.string l[j].2.2.2.2)
theorem TokAt.below {w w' : World} {a : Option Addr} {l : List TT} (h : TokAt w a l) (hb : Below w.heap.size w w') : TokAt w' a l := by
  intro j hj
  obtain ⟨b, o, ha, hlt, c0, c1, c2, c3, c4⟩ := h j hj
  refine ⟨b, o, ha, Nat.lt_of_lt_of_le hlt hb.size, ?_, ?_, ?_, ?_, ?_⟩
  · rw [hb.cell (p := ⟨b, _, none⟩) hlt]; exact c0
  · rw [hb.cell (p := ⟨b, _, none⟩) hlt]; exact c1
  · rw [hb.cell (p := ⟨b, _, none⟩) hlt]; exact c2
  · rw [hb.cell (p := ⟨b, _, none⟩) hlt]; exact c3
  · rw [hb.cell (p := ⟨b, _, none⟩) hlt]; exact c4
/-- No text is longer than a text can be. -/
def FitTok (l : List TT) : Prop := ∀ j (h : j < l.length), ((l[j]).2.1).size ≤ maxLen ∧ ((l[j]).2.2.2.2).size ≤ maxLen
def oneTok (x : TT) : Nat := x.2.1.size + x.2.2.2.2.size
def weightTok (l : List TT) : Nat := (l.map oneTok).sum
theorem weightTok_take (l : List TT) (k : Nat) (h : k < l.length) : weightTok (l.take (k + 1)) = weightTok (l.take k) + oneTok l[k] := by
  unfold weightTok
  rw [List.take_succ_eq_append_getElem h, List.map_append, List.sum_append]; simp
theorem weightTok_le (l : List TT) (k : Nat) : weightTok (l.take k) ≤ weightTok l := by
  unfold weightTok
  conv => rhs; rw [← List.take_append_drop k l, List.map_append, List.sum_append]
  omega
/-- The cells of a list, one behind the other. -/
def flatTok : List TT → List Value
  | [] => []
  | x :: l => .int .i64 x.1 :: .string x.2.1 :: .int .i64 x.2.2.1 :: .int .i64 x.2.2.2.1 :: .string x.2.2.2.2 :: flatTok l
theorem flatTok_length (l : List TT) : (flatTok l).length = l.length * 5 := by
  induction l with
  | nil => rfl
  | cons x l ih => simp only [flatTok, List.length_cons, ih]; omega
theorem flatTok_append (l m : List TT) : flatTok (l ++ m) = flatTok l ++ flatTok m := by
  induction l with
  | nil => rfl
  | cons x l ih => simp only [List.cons_append, flatTok, ih]
theorem flatTok_at (l : List TT) (j : Nat) (h : j < l.length) : (flatTok l)[j * 5]? = some (.int .i64 l[j].1) ∧ (flatTok l)[j * 5 + 1]? = some (.string l[j].2.1) ∧ (flatTok l)[j * 5 + 2]? = some (.int .i64 l[j].2.2.1) ∧ (flatTok l)[j * 5 + 3]? = some (.int .i64 l[j].2.2.2.1) ∧ (flatTok l)[j * 5 + 4]? = some (.string l[j].2.2.2.2) := by
  induction l generalizing j with
  | nil => simp at h
  | cons x l ih =>
    cases j with
    | zero => exact ⟨rfl, rfl, rfl, rfl, rfl⟩
    | succ j =>
      have := ih j (by simpa using h)
      have e0 : (j + 1) * 5 = j * 5 + 1 + 1 + 1 + 1 + 1 := by omega
      have e1 : (j + 1) * 5 + 1 = j * 5 + 1 + 1 + 1 + 1 + 1 + 1 := by omega
      have e2 : (j + 1) * 5 + 2 = j * 5 + 2 + 1 + 1 + 1 + 1 + 1 := by omega
      have e3 : (j + 1) * 5 + 3 = j * 5 + 3 + 1 + 1 + 1 + 1 + 1 := by omega
      have e4 : (j + 1) * 5 + 4 = j * 5 + 4 + 1 + 1 + 1 + 1 + 1 := by omega
      rw [e1, e2, e3, e4, e0]
      simpa only [flatTok, List.getElem?_cons_succ, List.getElem_cons_succ] using this
theorem flatTok_step (l : List TT) (k : Nat) (h : k < l.length) (z : List Value) (hz : z.length = l.length * 5) :
    ((((((flatTok (l.take k) ++ z.drop (k * 5)).set (k * 5) (.int .i64 l[k].1)).set (k * 5 + 1) (.string l[k].2.1)).set (k * 5 + 2) (.int .i64 l[k].2.2.1)).set (k * 5 + 3) (.int .i64 l[k].2.2.2.1)).set (k * 5 + 4) (.string l[k].2.2.2.2)) = flatTok (l.take (k + 1)) ++ z.drop ((k + 1) * 5) := by
  have hl : (flatTok (l.take k)).length = k * 5 := by rw [flatTok_length, List.length_take]; congr 1; omega
  obtain ⟨a0, a1, a2, a3, a4, r, hr⟩ : ∃ a0 a1 a2 a3 a4 r, z.drop (k * 5) = a0 :: a1 :: a2 :: a3 :: a4 :: r := by
    have hd : (z.drop (k * 5)).length ≥ 5 := by rw [List.length_drop]; omega
    match hm : z.drop (k * 5), hd with
    | a0 :: a1 :: a2 :: a3 :: a4 :: r, _ => exact ⟨a0, a1, a2, a3, a4, r, rfl⟩
  have hr3 : z.drop ((k + 1) * 5) = r := by
    rw [show (k + 1) * 5 = k * 5 + 5 by omega, ← List.drop_drop, hr]; rfl
  rw [List.take_succ_eq_append_getElem h, flatTok_append, hr, hr3]
  rw [List.set_append_right _ _ (by omega), List.set_append_right _ _ (by omega), List.set_append_right _ _ (by omega), List.set_append_right _ _ (by omega), List.set_append_right _ _ (by omega), hl]
  rw [show k * 5 - k * 5 = 0 by omega, show k * 5 + 1 - k * 5 = 1 by omega, show k * 5 + 2 - k * 5 = 2 by omega, show k * 5 + 3 - k * 5 = 3 by omega, show k * 5 + 4 - k * 5 = 4 by omega]
  simp [flatTok]
/-- What is owned lies there. -/
theorem ownTok {w : World} {base g cap : Nat} {e : TypeId} {l : List TT} (h : w.ownsRow base e 5 (.slice (some ⟨g, 0, none⟩) l.length cap) l.length (flatTok l)) : TokAt w (some ⟨g, 0, none⟩) l := by
  have hlt : g < w.heap.size := (h.lt g rfl).2
  intro j hj
  obtain ⟨f0, f1, f2, f3, f4⟩ := flatTok_at l j hj
  refine ⟨g, 0, rfl, hlt, ?_, ?_, ?_, ?_, ?_⟩
  · rw [show 0 + j * 5 = j * 5 by omega, h.cellAt _ (by omega)]; exact f0
  · rw [show 0 + j * 5 + 1 = j * 5 + 1 by omega, h.cellAt _ (by omega)]; exact f1
  · rw [show 0 + j * 5 + 2 = j * 5 + 2 by omega, h.cellAt _ (by omega)]; exact f2
  · rw [show 0 + j * 5 + 3 = j * 5 + 3 by omega, h.cellAt _ (by omega)]; exact f3
  · rw [show 0 + j * 5 + 4 = j * 5 + 4 by omega, h.cellAt _ (by omega)]; exact f4

/-- Five cells of a block are written. -/
theorem five {w : World} {b : Nat} {a0 a1 a2 a3 a4 : Value} (v0 v1 v2 v3 v4 : Value) (h0 : w.cell? ⟨b, 0, none⟩ = some a0) (h1 : w.cell? ⟨b, 1, none⟩ = some a1) (h2 : w.cell? ⟨b, 2, none⟩ = some a2) (h3 : w.cell? ⟨b, 3, none⟩ = some a3) (h4 : w.cell? ⟨b, 4, none⟩ = some a4) :
    (((((w.setCell ⟨b, 0, none⟩ v0).setCell ⟨b, 1, none⟩ v1).setCell ⟨b, 2, none⟩ v2).setCell ⟨b, 3, none⟩ v3).setCell ⟨b, 4, none⟩ v4).cell? ⟨b, 0, none⟩ = some v0 ∧ (((((w.setCell ⟨b, 0, none⟩ v0).setCell ⟨b, 1, none⟩ v1).setCell ⟨b, 2, none⟩ v2).setCell ⟨b, 3, none⟩ v3).setCell ⟨b, 4, none⟩ v4).cell? ⟨b, 1, none⟩ = some v1 ∧ (((((w.setCell ⟨b, 0, none⟩ v0).setCell ⟨b, 1, none⟩ v1).setCell ⟨b, 2, none⟩ v2).setCell ⟨b, 3, none⟩ v3).setCell ⟨b, 4, none⟩ v4).cell? ⟨b, 2, none⟩ = some v2 ∧ (((((w.setCell ⟨b, 0, none⟩ v0).setCell ⟨b, 1, none⟩ v1).setCell ⟨b, 2, none⟩ v2).setCell ⟨b, 3, none⟩ v3).setCell ⟨b, 4, none⟩ v4).cell? ⟨b, 3, none⟩ = some v3 ∧ (((((w.setCell ⟨b, 0, none⟩ v0).setCell ⟨b, 1, none⟩ v1).setCell ⟨b, 2, none⟩ v2).setCell ⟨b, 3, none⟩ v3).setCell ⟨b, 4, none⟩ v4).cell? ⟨b, 4, none⟩ = some v4 := by
  refine ⟨?_, ?_, ?_, ?_, ?_⟩
  · rw [cell_off _ _ _ _ _ (by omega), cell_off _ _ _ _ _ (by omega), cell_off _ _ _ _ _ (by omega), cell_off _ _ _ _ _ (by omega), cell_here _ _ _ _ (by rw [h0]; rfl)]
  · rw [cell_off _ _ _ _ _ (by omega), cell_off _ _ _ _ _ (by omega), cell_off _ _ _ _ _ (by omega), cell_here _ _ _ _ (by rw [cell_off _ _ _ _ _ (by omega), h1]; rfl)]
  · rw [cell_off _ _ _ _ _ (by omega), cell_off _ _ _ _ _ (by omega), cell_here _ _ _ _ (by rw [cell_off _ _ _ _ _ (by omega), cell_off _ _ _ _ _ (by omega), h2]; rfl)]
  · rw [cell_off _ _ _ _ _ (by omega), cell_here _ _ _ _ (by rw [cell_off _ _ _ _ _ (by omega), cell_off _ _ _ _ _ (by omega), cell_off _ _ _ _ _ (by omega), h3]; rfl)]
  · rw [cell_here _ _ _ _ (by rw [cell_off _ _ _ _ _ (by omega), cell_off _ _ _ _ _ (by omega), cell_off _ _ _ _ _ (by omega), cell_off _ _ _ _ _ (by omega), h4]; rfl)]
end Go.Proofs.YthgbjnchhaoceaaGreatDoor
