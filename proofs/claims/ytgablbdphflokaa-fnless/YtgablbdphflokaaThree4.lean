/-
  The contracts of the model's Both and Either: they come to what the program's come to.
-/
import Derived.Test.YtgablbdphflokaaThree3
namespace Go.Proofs.Ytgablbdphflokaa
open Go.ChangeShapes Go.WideShapes Go.ChangeAt Go.RowKit
attribute [local go_sem ↓] Go.wp_at_zero Go.wp_at_succ

set_option maxHeartbeats 400000 in
theorem both_spec_a (k1 n1 : Int) (t1 : ByteArray) (k2 n2 : Int) (t2 : ByteArray) (w : World) (ht1 : t1.size ≤ maxLen) (h1 : threeB k1 n1 t1 = false) :
    Calls Try.prog 25 #[.agg #[.int .i64 k1, .int .i64 n1, .string t1], .agg #[.int .i64 k2, .int .i64 n2, .string t2]] w fun e w' => e = .returned (.tuple #[.agg #[.int .i64 0, .int .i64 0, .string ⟨#[]⟩], .int .i64 3]) ∧ Below w.heap.size w w' := by
  go_enter Try.func25, Try.ntmps25
  go_wp2_with fail
  refine (three_specb _ _ _ _ h1 _ ht1).mono ?_
  rintro e w1 ⟨rfl, hb1⟩
  obtain ⟨⟨a1, b1, c1, d1⟩, ⟨x1, y1, z1, s1⟩, ⟨p1, q1, r1, s2⟩, f0, f1, f2⟩ := three3 hb1
  have hx := chainA (chainAA hb1)
  have hxs := hx.size
  go_wp2
  exact bodyPost_ret (v := .tuple #[.agg #[.int .i64 0, .int .i64 0, .string ⟨#[]⟩], .int .i64 3]) (by simp [results, Try.results25, go_sem, p1, q1, r1]) rfl ⟨rfl, by go_grown⟩

set_option maxHeartbeats 400000 in
theorem both_spec_b (k1 n1 : Int) (t1 : ByteArray) (k2 n2 : Int) (t2 : ByteArray) (w : World) (ht1 : t1.size ≤ maxLen) (ht2 : t2.size ≤ maxLen) (h1 : threeB k1 n1 t1 = true) (h2 : threeB k2 n2 t2 = false) :
    Calls Try.prog 25 #[.agg #[.int .i64 k1, .int .i64 n1, .string t1], .agg #[.int .i64 k2, .int .i64 n2, .string t2]] w fun e w' => e = .returned (.tuple #[.agg #[.int .i64 0, .int .i64 0, .string ⟨#[]⟩], .int .i64 3]) ∧ Below w.heap.size w w' := by
  go_enter Try.func25, Try.ntmps25
  go_wp2_with fail
  refine (three_specb _ _ _ _ h1 _ ht1).mono ?_
  rintro e w1 ⟨rfl, hb1⟩
  obtain ⟨⟨a1, b1, c1, d1⟩, ⟨x1, y1, z1, s1⟩, ⟨p1, q1, r1, s2⟩, ff⟩ := three3 hb1
  go_wp2_with fail
  refine (three_specb _ _ _ _ h2 _ ht2).mono ?_
  rintro e w2 ⟨rfl, hb2⟩
  obtain ⟨f0, f1, f2⟩ := frozen3 hb2 s2 ff
  obtain ⟨p2, q2, r2, s3⟩ := later3 hb2 ⟨p1, q1, r1, s2⟩
  have hx := chain (chainA (chainAA hb1)) hb2
  have hxs := hx.size
  go_wp2
  exact bodyPost_ret (v := .tuple #[.agg #[.int .i64 0, .int .i64 0, .string ⟨#[]⟩], .int .i64 3]) (by simp [results, Try.results25, go_sem, p2, q2, r2]) rfl ⟨rfl, by go_grown⟩

set_option maxHeartbeats 1000000 in
theorem both_spec_c (k1 n1 : Int) (t1 : ByteArray) (k2 n2 : Int) (t2 : ByteArray) (v1 v2 z1b z2b : Bool) (w : World) (ht1 : t1.size ≤ maxLen) (ht2 : t2.size ≤ maxLen) (h1 : threeB k1 n1 t1 = true) (h2 : threeB k2 n2 t2 = true)
    (e1 : sameB k1 n1 t1 3 0 ⟨#[]⟩ = v1) (e2 : sameB k2 n2 t2 3 0 ⟨#[]⟩ = v2) (g1 : (k1 == 0) = z1b) (g2 : (k2 == 0) = z2b) (R : Int × Int × Int) (hR : (if (v1 || v2) = true then ((3 : Int), (0 : Int), (0 : Int)) else if (z1b || z2b) = true then (0, 0, 0) else (3, 1, 0)) = R) :
    Calls Try.prog 25 #[.agg #[.int .i64 k1, .int .i64 n1, .string t1], .agg #[.int .i64 k2, .int .i64 n2, .string t2]] w fun e w' => e = .returned (.tuple #[.agg #[.int .i64 R.1, .int .i64 R.2.1, .string ⟨#[]⟩], .int .i64 R.2.2]) ∧ Below w.heap.size w w' := by
  have hq1 : ∀ w, (binOp .eql 25 (.agg #[.int .i64 k1, .int .i64 n1, .string t1]) (.agg #[.int .i64 3, .int .i64 0, .string ⟨#[]⟩])).run Try.prog w = .ok (.bool v1) w := fun w => by rw [run_eql, e1]
  have hq2 : ∀ w, (binOp .eql 25 (.agg #[.int .i64 k2, .int .i64 n2, .string t2]) (.agg #[.int .i64 3, .int .i64 0, .string ⟨#[]⟩])).run Try.prog w = .ok (.bool v2) w := fun w => by rw [run_eql, e2]
  go_enter Try.func25, Try.ntmps25
  go_wp2_with fail
  refine (three_specb _ _ _ _ h1 _ ht1).mono ?_
  rintro e w1 ⟨rfl, hb1⟩
  obtain ⟨⟨a1, b1, c1, d1⟩, ⟨x1, y1, z1, s1⟩, ⟨p1, q1, r1, s2⟩, ff⟩ := three3 hb1
  go_wp2_with fail
  refine (three_specb _ _ _ _ h2 _ ht2).mono ?_
  rintro e w2 ⟨rfl, hb2⟩
  replace ff := frozen3 hb2 s2 ff
  obtain ⟨a2, b2, c2, d2⟩ := later3 hb2 ⟨a1, b1, c1, d1⟩
  obtain ⟨x2, y2, z2, s4⟩ := later3 hb2 ⟨x1, y1, z1, s1⟩
  obtain ⟨p2, q2, r2, s3⟩ := later3 hb2 ⟨p1, q1, r1, s2⟩
  have hx := chain (chainA (chainAA hb1)) hb2
  clear hb1 hb2 a1 b1 c1 d1 x1 y1 z1 s1 p1 q1 r1 s2
  go_wp2_with fail
  go_cut [16] (fun s16 wc => s16 = .bool (v1 || v2) ∧ Below w2.heap.size w2 wc)
  case first =>
    have hk : Below w2.heap.size w2 w2 := Below.refl _ _
    cases v1
    all_goals
      first
        | go_region_with
            (go_at_call 69
             refine (truth_specb false 0 rfl _).mono ?_
             rintro e w3 ⟨rfl, hb3⟩
             first
               | replace hb3 := undrew hb3
               | skip
             replace hk := chain hk hb3
             obtain ⟨a2, b2, c2, d2⟩ := later3 hb3 ⟨a2, b2, c2, d2⟩
             obtain ⟨x2, y2, z2, s4⟩ := later3 hb3 ⟨x2, y2, z2, s4⟩)
        | fail
      all_goals
        go_wp2_with fail
        go_meet
        case rel => exact ⟨rfl, hk⟩
  case rest =>
    obtain ⟨rfl, hbc⟩ := hcut
    replace ff := frozen3 hbc s3 ff
    obtain ⟨a3, b3, c3, d3⟩ := later3 hbc ⟨a2, b2, c2, d2⟩
    obtain ⟨x3, y3, z3, s5⟩ := later3 hbc ⟨x2, y2, z2, s4⟩
    obtain ⟨p3, q3, r3, s6⟩ := later3 hbc ⟨p2, q2, r2, s3⟩
    replace hx := chain hx hbc
    clear hbc a2 b2 c2 d2 x2 y2 z2 s4 p2 q2 r2 s3
    cases hv : (v1 || v2)
    · rw [hv] at hR
      cases hz : (z1b || z2b)
      · rw [hz] at hR
        subst hR
        obtain ⟨rfl, rfl⟩ : z1b = false ∧ z2b = false := by simpa using hz
        go_wp2_with fail
        refine (truth_specb _ 1 (by simp) _).mono ?_
        rintro e w6 ⟨rfl, hb6⟩
        obtain ⟨f0, f1, f2⟩ := frozen3 hb6 s6 ff
        obtain ⟨p4, q4, r4, s7⟩ := later3 hb6 ⟨p3, q3, r3, s6⟩
        replace hx := chain hx hb6
        have hxs := hx.size
        go_wp2
        exact bodyPost_ret (v := .tuple #[.agg #[.int .i64 3, .int .i64 1, .string ⟨#[]⟩], .int .i64 0]) (by simp [results, Try.results25, go_sem, p4, q4, r4]) rfl ⟨rfl, by go_grown⟩
      · rw [hz] at hR
        subst hR
        obtain ⟨f0, f1, f2⟩ := ff
        have hxs := hx.size
        cases z1b
        · obtain rfl : z2b = true := by simpa using hz
          go_wp2
          exact bodyPost_ret (v := .tuple #[.agg #[.int .i64 0, .int .i64 0, .string ⟨#[]⟩], .int .i64 0]) (by simp [results, Try.results25, go_sem, p3, q3, r3]) rfl ⟨rfl, by go_grown⟩
        · go_wp2
          exact bodyPost_ret (v := .tuple #[.agg #[.int .i64 0, .int .i64 0, .string ⟨#[]⟩], .int .i64 0]) (by simp [results, Try.results25, go_sem, p3, q3, r3]) rfl ⟨rfl, by go_grown⟩
    · rw [hv] at hR
      subst hR
      go_wp2_with fail
      refine (truth_specb _ 0 (by simp) _).mono ?_
      rintro e w6 ⟨rfl, hb6⟩
      obtain ⟨f0, f1, f2⟩ := frozen3 hb6 s6 ff
      obtain ⟨p4, q4, r4, s7⟩ := later3 hb6 ⟨p3, q3, r3, s6⟩
      replace hx := chain hx hb6
      have hxs := hx.size
      go_wp2
      exact bodyPost_ret (v := .tuple #[.agg #[.int .i64 3, .int .i64 0, .string ⟨#[]⟩], .int .i64 0]) (by simp [results, Try.results25, go_sem, p4, q4, r4]) rfl ⟨rfl, by go_grown⟩

theorem both_spec (k1 n1 : Int) (t1 : ByteArray) (k2 n2 : Int) (t2 : ByteArray) (w : World) (ht1 : t1.size ≤ maxLen) (ht2 : t2.size ≤ maxLen) :
    Calls Try.prog 25 #[.agg #[.int .i64 k1, .int .i64 n1, .string t1], .agg #[.int .i64 k2, .int .i64 n2, .string t2]] w fun e w' => e = .returned (.tuple #[.agg #[.int .i64 (bothR k1 n1 t1 k2 n2 t2).1, .int .i64 (bothR k1 n1 t1 k2 n2 t2).2.1, .string ⟨#[]⟩], .int .i64 (bothR k1 n1 t1 k2 n2 t2).2.2]) ∧ Below w.heap.size w w' := by
  cases h1 : threeB k1 n1 t1
  · simp only [show bothR k1 n1 t1 k2 n2 t2 = (0, 0, 3) from by simp [bothR, h1, resT]]
    exact both_spec_a k1 n1 t1 k2 n2 t2 w ht1 h1
  cases h2 : threeB k2 n2 t2
  · simp only [show bothR k1 n1 t1 k2 n2 t2 = (0, 0, 3) from by simp [bothR, h2, resT]]
    exact both_spec_b k1 n1 t1 k2 n2 t2 w ht1 ht2 h1 h2
  refine both_spec_c k1 n1 t1 k2 n2 t2 _ _ _ _ w ht1 ht2 h1 h2 rfl rfl rfl rfl _ ?_
  unfold bothR
  rw [h1, h2]
  rcases three_cases h1 with ⟨rfl, rfl, rfl⟩ | ⟨rfl, rfl, rfl⟩ | ⟨rfl, rfl, rfl⟩ <;>
  rcases three_cases h2 with ⟨rfl, rfl, rfl⟩ | ⟨rfl, rfl, rfl⟩ | ⟨rfl, rfl, rfl⟩ <;>
  (simp [sameB, resT, rankI, rkK, rkN] <;> omega)

theorem holds_specb (k n : Int) (t : ByteArray) (b : Bool) (hb : sameB k n t 3 1 ⟨#[]⟩ = b) (w : World) :
    Calls Try.prog 30 #[.agg #[.int .i64 k, .int .i64 n, .string t]] w fun e w' => e = .returned (.bool b) ∧ Below w.heap.size w w' := by
  subst hb; exact holds_spec k n t w

set_option maxHeartbeats 400000 in
theorem either_spec_a (k1 n1 : Int) (t1 : ByteArray) (k2 n2 : Int) (t2 : ByteArray) (w : World) (ht1 : t1.size ≤ maxLen) (h1 : threeB k1 n1 t1 = false) :
    Calls Try.prog 26 #[.agg #[.int .i64 k1, .int .i64 n1, .string t1], .agg #[.int .i64 k2, .int .i64 n2, .string t2]] w fun e w' => e = .returned (.tuple #[.agg #[.int .i64 0, .int .i64 0, .string ⟨#[]⟩], .int .i64 3]) ∧ Below w.heap.size w w' := by
  go_enter Try.func26, Try.ntmps26
  go_wp2_with fail
  refine (three_specb _ _ _ _ h1 _ ht1).mono ?_
  rintro e w1 ⟨rfl, hb1⟩
  obtain ⟨⟨a1, b1, c1, d1⟩, ⟨x1, y1, z1, s1⟩, ⟨p1, q1, r1, s2⟩, f0, f1, f2⟩ := three3 hb1
  have hx := chainA (chainAA hb1)
  have hxs := hx.size
  go_wp2
  exact bodyPost_ret (v := .tuple #[.agg #[.int .i64 0, .int .i64 0, .string ⟨#[]⟩], .int .i64 3]) (by simp [results, Try.results26, go_sem, p1, q1, r1]) rfl ⟨rfl, by go_grown⟩

set_option maxHeartbeats 400000 in
theorem either_spec_b (k1 n1 : Int) (t1 : ByteArray) (k2 n2 : Int) (t2 : ByteArray) (w : World) (ht1 : t1.size ≤ maxLen) (ht2 : t2.size ≤ maxLen) (h1 : threeB k1 n1 t1 = true) (h2 : threeB k2 n2 t2 = false) :
    Calls Try.prog 26 #[.agg #[.int .i64 k1, .int .i64 n1, .string t1], .agg #[.int .i64 k2, .int .i64 n2, .string t2]] w fun e w' => e = .returned (.tuple #[.agg #[.int .i64 0, .int .i64 0, .string ⟨#[]⟩], .int .i64 3]) ∧ Below w.heap.size w w' := by
  go_enter Try.func26, Try.ntmps26
  go_wp2_with fail
  refine (three_specb _ _ _ _ h1 _ ht1).mono ?_
  rintro e w1 ⟨rfl, hb1⟩
  obtain ⟨⟨a1, b1, c1, d1⟩, ⟨x1, y1, z1, s1⟩, ⟨p1, q1, r1, s2⟩, ff⟩ := three3 hb1
  go_wp2_with fail
  refine (three_specb _ _ _ _ h2 _ ht2).mono ?_
  rintro e w2 ⟨rfl, hb2⟩
  obtain ⟨f0, f1, f2⟩ := frozen3 hb2 s2 ff
  obtain ⟨p2, q2, r2, s3⟩ := later3 hb2 ⟨p1, q1, r1, s2⟩
  have hx := chain (chainA (chainAA hb1)) hb2
  have hxs := hx.size
  go_wp2
  exact bodyPost_ret (v := .tuple #[.agg #[.int .i64 0, .int .i64 0, .string ⟨#[]⟩], .int .i64 3]) (by simp [results, Try.results26, go_sem, p2, q2, r2]) rfl ⟨rfl, by go_grown⟩

set_option maxHeartbeats 1000000 in
theorem either_spec_c (k1 n1 : Int) (t1 : ByteArray) (k2 n2 : Int) (t2 : ByteArray) (v1 v2 z1b z2b : Bool) (w : World) (ht1 : t1.size ≤ maxLen) (ht2 : t2.size ≤ maxLen) (h1 : threeB k1 n1 t1 = true) (h2 : threeB k2 n2 t2 = true)
    (e1 : sameB k1 n1 t1 3 1 ⟨#[]⟩ = v1) (e2 : sameB k2 n2 t2 3 1 ⟨#[]⟩ = v2) (g1 : (k1 == 0) = z1b) (g2 : (k2 == 0) = z2b) (R : Int × Int × Int) (hR : (if (v1 || v2) = true then ((3 : Int), (1 : Int), (0 : Int)) else if (z1b || z2b) = true then (0, 0, 0) else (3, 0, 0)) = R) :
    Calls Try.prog 26 #[.agg #[.int .i64 k1, .int .i64 n1, .string t1], .agg #[.int .i64 k2, .int .i64 n2, .string t2]] w fun e w' => e = .returned (.tuple #[.agg #[.int .i64 R.1, .int .i64 R.2.1, .string ⟨#[]⟩], .int .i64 R.2.2]) ∧ Below w.heap.size w w' := by
  go_enter Try.func26, Try.ntmps26
  go_wp2_with fail
  refine (three_specb _ _ _ _ h1 _ ht1).mono ?_
  rintro e w1 ⟨rfl, hb1⟩
  obtain ⟨⟨a1, b1, c1, d1⟩, ⟨x1, y1, z1, s1⟩, ⟨p1, q1, r1, s2⟩, ff⟩ := three3 hb1
  go_wp2_with fail
  refine (three_specb _ _ _ _ h2 _ ht2).mono ?_
  rintro e w2 ⟨rfl, hb2⟩
  replace ff := frozen3 hb2 s2 ff
  obtain ⟨a2, b2, c2, d2⟩ := later3 hb2 ⟨a1, b1, c1, d1⟩
  obtain ⟨x2, y2, z2, s4⟩ := later3 hb2 ⟨x1, y1, z1, s1⟩
  obtain ⟨p2, q2, r2, s3⟩ := later3 hb2 ⟨p1, q1, r1, s2⟩
  have hx := chain (chainA (chainAA hb1)) hb2
  clear hb1 hb2 a1 b1 c1 d1 x1 y1 z1 s1 p1 q1 r1 s2
  go_wp2_with fail
  refine (holds_specb _ _ _ _ e1 _).mono ?_
  rintro e wb ⟨rfl, hbc⟩
  replace ff := frozen3 hbc s3 ff
  obtain ⟨a3, b3, c3, d3⟩ := later3 hbc ⟨a2, b2, c2, d2⟩
  obtain ⟨x3, y3, z3, s5⟩ := later3 hbc ⟨x2, y2, z2, s4⟩
  obtain ⟨p3, q3, r3, s6⟩ := later3 hbc ⟨p2, q2, r2, s3⟩
  replace hx := chain hx hbc
  clear hbc a2 b2 c2 d2 x2 y2 z2 s4 p2 q2 r2 s3
  cases v1
  · go_wp2_with fail
    refine (holds_specb _ _ _ _ e2 _).mono ?_
    rintro e wd ⟨rfl, hbd⟩
    replace ff := frozen3 hbd s6 ff
    obtain ⟨a3, b3, c3, d3⟩ := later3 hbd ⟨a3, b3, c3, d3⟩
    obtain ⟨x3, y3, z3, s5⟩ := later3 hbd ⟨x3, y3, z3, s5⟩
    obtain ⟨p3, q3, r3, s6⟩ := later3 hbd ⟨p3, q3, r3, s6⟩
    replace hx := chain hx hbd
    clear hbd
    cases v2
    · cases hz : (z1b || z2b)
      · rw [hz] at hR
        subst hR
        obtain ⟨rfl, rfl⟩ : z1b = false ∧ z2b = false := by simpa using hz
        go_wp2_with fail
        refine (truth_specb _ 0 (by simp) _).mono ?_
        rintro e w6 ⟨rfl, hb6⟩
        obtain ⟨f0, f1, f2⟩ := frozen3 hb6 s6 ff
        obtain ⟨p4, q4, r4, s7⟩ := later3 hb6 ⟨p3, q3, r3, s6⟩
        replace hx := chain hx hb6
        have hxs := hx.size
        go_wp2
        exact bodyPost_ret (v := .tuple #[.agg #[.int .i64 3, .int .i64 0, .string ⟨#[]⟩], .int .i64 0]) (by simp [results, Try.results26, go_sem, p4, q4, r4]) rfl ⟨rfl, by go_grown⟩
      · rw [hz] at hR
        subst hR
        obtain ⟨f0, f1, f2⟩ := ff
        have hxs := hx.size
        cases z1b
        · obtain rfl : z2b = true := by simpa using hz
          go_wp2
          exact bodyPost_ret (v := .tuple #[.agg #[.int .i64 0, .int .i64 0, .string ⟨#[]⟩], .int .i64 0]) (by simp [results, Try.results26, go_sem, p3, q3, r3]) rfl ⟨rfl, by go_grown⟩
        · go_wp2
          exact bodyPost_ret (v := .tuple #[.agg #[.int .i64 0, .int .i64 0, .string ⟨#[]⟩], .int .i64 0]) (by simp [results, Try.results26, go_sem, p3, q3, r3]) rfl ⟨rfl, by go_grown⟩
    · subst hR
      go_wp2_with fail
      refine (truth_specb _ 1 (by simp) _).mono ?_
      rintro e w6 ⟨rfl, hb6⟩
      obtain ⟨f0, f1, f2⟩ := frozen3 hb6 s6 ff
      obtain ⟨p4, q4, r4, s7⟩ := later3 hb6 ⟨p3, q3, r3, s6⟩
      replace hx := chain hx hb6
      have hxs := hx.size
      go_wp2
      exact bodyPost_ret (v := .tuple #[.agg #[.int .i64 3, .int .i64 1, .string ⟨#[]⟩], .int .i64 0]) (by simp [results, Try.results26, go_sem, p4, q4, r4]) rfl ⟨rfl, by go_grown⟩
  · subst hR
    go_wp2_with fail
    refine (truth_specb _ 1 (by simp) _).mono ?_
    rintro e w6 ⟨rfl, hb6⟩
    obtain ⟨f0, f1, f2⟩ := frozen3 hb6 s6 ff
    obtain ⟨p4, q4, r4, s7⟩ := later3 hb6 ⟨p3, q3, r3, s6⟩
    replace hx := chain hx hb6
    have hxs := hx.size
    go_wp2
    exact bodyPost_ret (v := .tuple #[.agg #[.int .i64 3, .int .i64 1, .string ⟨#[]⟩], .int .i64 0]) (by simp [results, Try.results26, go_sem, p4, q4, r4]) rfl ⟨rfl, by go_grown⟩

theorem either_spec (k1 n1 : Int) (t1 : ByteArray) (k2 n2 : Int) (t2 : ByteArray) (w : World) (ht1 : t1.size ≤ maxLen) (ht2 : t2.size ≤ maxLen) :
    Calls Try.prog 26 #[.agg #[.int .i64 k1, .int .i64 n1, .string t1], .agg #[.int .i64 k2, .int .i64 n2, .string t2]] w fun e w' => e = .returned (.tuple #[.agg #[.int .i64 (eitherR k1 n1 t1 k2 n2 t2).1, .int .i64 (eitherR k1 n1 t1 k2 n2 t2).2.1, .string ⟨#[]⟩], .int .i64 (eitherR k1 n1 t1 k2 n2 t2).2.2]) ∧ Below w.heap.size w w' := by
  cases h1 : threeB k1 n1 t1
  · simp only [show eitherR k1 n1 t1 k2 n2 t2 = (0, 0, 3) from by simp [eitherR, h1, resT]]
    exact either_spec_a k1 n1 t1 k2 n2 t2 w ht1 h1
  cases h2 : threeB k2 n2 t2
  · simp only [show eitherR k1 n1 t1 k2 n2 t2 = (0, 0, 3) from by simp [eitherR, h2, resT]]
    exact either_spec_b k1 n1 t1 k2 n2 t2 w ht1 ht2 h1 h2
  refine either_spec_c k1 n1 t1 k2 n2 t2 _ _ _ _ w ht1 ht2 h1 h2 rfl rfl rfl rfl _ ?_
  unfold eitherR
  rw [h1, h2]
  rcases three_cases h1 with ⟨rfl, rfl, rfl⟩ | ⟨rfl, rfl, rfl⟩ | ⟨rfl, rfl, rfl⟩ <;>
  rcases three_cases h2 with ⟨rfl, rfl, rfl⟩ | ⟨rfl, rfl, rfl⟩ | ⟨rfl, rfl, rfl⟩ <;>
  (simp [sameB, resT, rankI, rkK, rkN] <;> omega)

end Go.Proofs.Ytgablbdphflokaa
