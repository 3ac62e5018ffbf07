/-
  The contracts of the model's Not, IsNone and Holds: they come to what the program's come to.
-/
import Derived.Test.YtgablbdphflokaaThree2
namespace Go.Proofs.Ytgablbdphflokaa
open Go.ChangeShapes Go.WideShapes Go.ChangeAt Go.RowKit
attribute [local go_sem ↓] Go.wp_at_zero Go.wp_at_succ

theorem empty_of {t : ByteArray} (h : t.toList.isEmpty = true) : t = ⟨#[]⟩ := bytes_eq (by rw [toList_empty]; exact List.isEmpty_iff.1 h)

/-- The three right answers. -/
theorem three_cases {k n : Int} {t : ByteArray} (h : threeB k n t = true) : (k = 0 ∧ n = 0 ∧ t = ⟨#[]⟩) ∨ (k = 3 ∧ n = 0 ∧ t = ⟨#[]⟩) ∨ (k = 3 ∧ n = 1 ∧ t = ⟨#[]⟩) := by
  unfold threeB okB at h
  by_cases k0 : k = 0
  · subst k0
    simp only [if_true, Bool.and_eq_true, beq_iff_eq] at h
    exact .inl ⟨rfl, h.1.1, empty_of h.1.2⟩
  by_cases k3 : k = 3
  · subst k3
    simp at h
    have ht : t = ⟨#[]⟩ := empty_of (by simp [h.2])
    rcases (show n = 0 ∨ n = 1 by omega) with hn | hn
    · exact .inr (.inl ⟨rfl, hn, ht⟩)
    · exact .inr (.inr ⟨rfl, hn, ht⟩)
  · simp [k0, k3] at h

set_option maxHeartbeats 400000 in
theorem three_specb (k n : Int) (t : ByteArray) (b : Bool) (hb : threeB k n t = b) (w : World) (ht : t.size ≤ maxLen) :
    Calls Try.prog 68 #[.agg #[.int .i64 k, .int .i64 n, .string t]] w fun e w' => e = .returned (.bool b) ∧ Below w.heap.size w w' := by
  subst hb
  cases h : okB k n t
  · rw [show threeB k n t = false from by simp [threeB, h]]
    go_enter Try.func68, Try.ntmps68
    go_wp2_with fail
    refine (ok_specb _ _ _ _ h _ ht).mono ?_
    rintro e w1 ⟨rfl, hb1⟩
    go_wp2
    go_ret
    exact ⟨rfl, chainA hb1⟩
  · rw [show threeB k n t = (k == 3 || k == 0) from by simp [threeB, h]]
    by_cases k3 : k = 3
    · subst k3
      go_enter Try.func68, Try.ntmps68
      go_wp2_with fail
      refine (ok_specb _ _ _ _ h _ ht).mono ?_
      rintro e w1 ⟨rfl, hb1⟩
      obtain ⟨a1, b1, c1, d1⟩ := box3 hb1
      go_wp2
      go_ret
      exact ⟨rfl, chainA hb1⟩
    · rw [show (k == 3) = false from by simp [k3], Bool.false_or]
      go_enter Try.func68, Try.ntmps68
      go_wp2_with fail
      refine (ok_specb _ _ _ _ h _ ht).mono ?_
      rintro e w1 ⟨rfl, hb1⟩
      obtain ⟨a1, b1, c1, d1⟩ := box3 hb1
      go_wp2
      go_ret
      exact ⟨ret_bool (by first | rfl | simp [*]), chainA hb1⟩

set_option maxHeartbeats 400000 in
theorem not_spec (k n : Int) (t : ByteArray) (w : World) (ht : t.size ≤ maxLen) :
    Calls Try.prog 27 #[.agg #[.int .i64 k, .int .i64 n, .string t]] w fun e w' => e = .returned (.tuple #[.agg #[.int .i64 (notR k n t).1, .int .i64 (notR k n t).2.1, .string ⟨#[]⟩], .int .i64 (notR k n t).2.2]) ∧ Below w.heap.size w w' := by
  cases h : threeB k n t
  · simp only [show notR k n t = (0, 0, 3) from by simp [notR, h, resT]]
    go_enter Try.func27, Try.ntmps27
    go_wp2_with fail
    refine (three_specb _ _ _ _ h _ ht).mono ?_
    rintro e w1 ⟨rfl, hb1⟩
    obtain ⟨⟨a1, b1, c1, d1⟩, ⟨x1, y1, z1, s1⟩, f0, f1, f2⟩ := two3 hb1
    have hx := chainAA hb1
    have hxs := hx.size
    go_wp2
    exact bodyPost_ret (v := .tuple #[.agg #[.int .i64 0, .int .i64 0, .string ⟨#[]⟩], .int .i64 3]) (by simp [results, Try.results27, go_sem, x1, y1, z1]) rfl ⟨rfl, by go_grown⟩
  · rcases three_cases h with ⟨rfl, rfl, rfl⟩ | ⟨rfl, rfl, rfl⟩ | ⟨rfl, rfl, rfl⟩
    · simp only [show notR 0 0 ⟨#[]⟩ = (0, 0, 0) from by unfold notR; rw [h]; rfl]
      go_enter Try.func27, Try.ntmps27
      go_wp2_with fail
      refine (three_specb _ _ _ _ h _ ht).mono ?_
      rintro e w1 ⟨rfl, hb1⟩
      obtain ⟨⟨a1, b1, c1, d1⟩, ⟨x1, y1, z1, s1⟩, f0, f1, f2⟩ := two3 hb1
      have hx := chainAA hb1
      have hxs := hx.size
      go_wp2
      exact bodyPost_ret (v := .tuple #[.agg #[.int .i64 0, .int .i64 0, .string ⟨#[]⟩], .int .i64 0]) (by simp [results, Try.results27, go_sem, x1, y1, z1]) rfl ⟨rfl, by go_grown⟩
    · simp only [show notR 3 0 ⟨#[]⟩ = (3, 1, 0) from by unfold notR; rw [h]; rfl]
      go_enter Try.func27, Try.ntmps27
      go_wp2_with fail
      refine (three_specb _ _ _ _ h _ ht).mono ?_
      rintro e w1 ⟨rfl, hb1⟩
      obtain ⟨⟨a1, b1, c1, d1⟩, ⟨x1, y1, z1, s1⟩, ff⟩ := two3 hb1
      go_wp2_with fail
      refine (truth_specb _ 1 (by simp) _).mono ?_
      rintro e w2 ⟨rfl, hb2⟩
      obtain ⟨f0, f1, f2⟩ := frozen3 hb2 s1 ff
      obtain ⟨x2, y2, z2, s2⟩ := later3 hb2 ⟨x1, y1, z1, s1⟩
      have hx := chain (chainAA hb1) hb2
      have hxs := hx.size
      go_wp2
      exact bodyPost_ret (v := .tuple #[.agg #[.int .i64 3, .int .i64 1, .string ⟨#[]⟩], .int .i64 0]) (by simp [results, Try.results27, go_sem, x2, y2, z2]) rfl ⟨rfl, by go_grown⟩
    · simp only [show notR 3 1 ⟨#[]⟩ = (3, 0, 0) from by unfold notR; rw [h]; rfl]
      go_enter Try.func27, Try.ntmps27
      go_wp2_with fail
      refine (three_specb _ _ _ _ h _ ht).mono ?_
      rintro e w1 ⟨rfl, hb1⟩
      obtain ⟨⟨a1, b1, c1, d1⟩, ⟨x1, y1, z1, s1⟩, ff⟩ := two3 hb1
      go_wp2_with fail
      refine (truth_specb _ 0 (by simp) _).mono ?_
      rintro e w2 ⟨rfl, hb2⟩
      obtain ⟨f0, f1, f2⟩ := frozen3 hb2 s1 ff
      obtain ⟨x2, y2, z2, s2⟩ := later3 hb2 ⟨x1, y1, z1, s1⟩
      have hx := chain (chainAA hb1) hb2
      have hxs := hx.size
      go_wp2
      exact bodyPost_ret (v := .tuple #[.agg #[.int .i64 3, .int .i64 0, .string ⟨#[]⟩], .int .i64 0]) (by simp [results, Try.results27, go_sem, x2, y2, z2]) rfl ⟨rfl, by go_grown⟩

set_option maxHeartbeats 400000 in
theorem none_spec (k n : Int) (t : ByteArray) (w : World) (ht : t.size ≤ maxLen) :
    Calls Try.prog 28 #[.agg #[.int .i64 k, .int .i64 n, .string t]] w fun e w' => e = .returned (.tuple #[.agg #[.int .i64 (noneR k n t).1, .int .i64 (noneR k n t).2.1, .string ⟨#[]⟩], .int .i64 (noneR k n t).2.2]) ∧ Below w.heap.size w w' := by
  cases h : okB k n t
  · simp only [show noneR k n t = (0, 0, 3) from by simp [noneR, h]]
    go_enter Try.func28, Try.ntmps28
    go_wp2_with fail
    refine (ok_specb _ _ _ _ h _ ht).mono ?_
    rintro e w1 ⟨rfl, hb1⟩
    obtain ⟨⟨a1, b1, c1, d1⟩, ⟨x1, y1, z1, s1⟩, f0, f1, f2⟩ := two3 hb1
    have hx := chainAA hb1
    have hxs := hx.size
    go_wp2
    exact bodyPost_ret (v := .tuple #[.agg #[.int .i64 0, .int .i64 0, .string ⟨#[]⟩], .int .i64 3]) (by simp [results, Try.results28, go_sem, x1, y1, z1]) rfl ⟨rfl, by go_grown⟩
  · have hR : noneR k n t = (3, if k = 0 then 1 else 0, 0) := by simp [noneR, h]
    generalize hm : (if k = 0 then (1 : Int) else 0) = m at hR
    simp only [hR]
    go_enter Try.func28, Try.ntmps28
    go_wp2_with fail
    refine (ok_specb _ _ _ _ h _ ht).mono ?_
    rintro e w1 ⟨rfl, hb1⟩
    obtain ⟨⟨a1, b1, c1, d1⟩, ⟨x1, y1, z1, s1⟩, ff⟩ := two3 hb1
    go_wp2_with fail
    refine (truth_specb _ m (by rw [← hm]; simp) _).mono ?_
    rintro e w2 ⟨rfl, hb2⟩
    obtain ⟨f0, f1, f2⟩ := frozen3 hb2 s1 ff
    obtain ⟨x2, y2, z2, s2⟩ := later3 hb2 ⟨x1, y1, z1, s1⟩
    have hx := chain (chainAA hb1) hb2
    have hxs := hx.size
    go_wp2
    exact bodyPost_ret (v := .tuple #[.agg #[.int .i64 3, .int .i64 m, .string ⟨#[]⟩], .int .i64 0]) (by simp [results, Try.results28, go_sem, x2, y2, z2]) rfl ⟨rfl, by go_grown⟩

set_option maxHeartbeats 400000 in
theorem holds_spec (k n : Int) (t : ByteArray) (w : World) :
    Calls Try.prog 30 #[.agg #[.int .i64 k, .int .i64 n, .string t]] w fun e w' => e = .returned (.bool (sameB k n t 3 1 ⟨#[]⟩)) ∧ Below w.heap.size w w' := by
  have hq := run_eql
  go_enter Try.func30, Try.ntmps30
  go_wp2_with fail
  first | go_region_with (go_at_call 69; refine (truth_specb true 1 rfl _).mono ?_; rintro e w1 ⟨rfl, hb1⟩; obtain ⟨a1, b1, c1, d1⟩ := box3 (undrew hb1)) | fail
  all_goals go_wp2
  all_goals go_ret
  all_goals exact ⟨rfl, chainA (undrew hb1)⟩

end Go.Proofs.Ytgablbdphflokaa
