/-
  The contracts of the program's questions for an item and for a sum.
-/
import Derived.Test.YthgbjnchhaoceaaDoorSumS
import Derived.Test.YthgbjnchhaoceaaDoorTokI
import Derived.Test.YthgbjnchhaoceaaDoorYardMath
namespace Go.Proofs.YthgbjnchhaoceaaDoor
open Go.ChangeShapes Go.WideShapes Go.ChangeAt Go.RowKit
attribute [local go_sem ↓] Go.wp_at_zero Go.wp_at_succ
attribute [local simp] World.cell?_alloc_past World.cell?_alloc_at World.frozen?_alloc_at cell_far cell_off cell_here World.frozen?_alloc_past

/-- How many the program makes one of. -/
def needsP (k : Int) : Nat := if 3 ≤ k ∧ k ≤ 10 then 2 else if k = 11 ∨ k = 12 then 1 else 0
theorem needsP_ok {x : TI} (h : itemB x = true) : needsP x.1 = needsI x.1 := by
  have hk : 1 ≤ x.1 ∧ x.1 ≤ 12 := by
    by_cases h1 : x.1 = 1
    · omega
    by_cases h2 : x.1 = 2
    · omega
    have := item_op h h1 h2
    omega
  unfold needsP needsI
  (repeat' split) <;> omega
theorem needsP_le (k : Int) : needsP k ≤ 2 := by unfold needsP; (repeat' split) <;> omega
theorem neq_k {k : Int} {j : Int} (h : k ≠ j) : (k == j) = false := by simpa using h
set_option maxHeartbeats 2000000 in
theorem needs_impl (k : Int) (n : Nat) (hn : needsP k = n) (w : World) :
    Calls Tryd.prog 15 #[.int .i64 k] w fun e w' => e = .returned (.int .i64 (n : Int)) ∧ w' = w := by
  by_cases h1 : 3 ≤ k ∧ k ≤ 10
  · have e : n = 2 := by rw [← hn]; unfold needsP; rw [if_pos h1]
    subst e
    have h2 : k = 3 ∨ k = 4 ∨ k = 5 ∨ k = 6 ∨ k = 7 ∨ k = 8 ∨ k = 9 ∨ k = 10 := by omega
    clear hn h1
    rcases h2 with rfl | rfl | rfl | rfl | rfl | rfl | rfl | rfl
    all_goals
      go_enter Tryd.func15, Tryd.ntmps15
      go_wp2
      go_ret
      exact ⟨rfl, rfl⟩
  by_cases h2 : k = 11 ∨ k = 12
  · have e : n = 1 := by rw [← hn]; unfold needsP; rw [if_neg h1, if_pos h2]
    subst e
    clear hn h1
    rcases h2 with rfl | rfl
    all_goals
      go_enter Tryd.func15, Tryd.ntmps15
      go_wp2
      go_ret
      exact ⟨rfl, rfl⟩
  have e : n = 0 := by rw [← hn]; unfold needsP; rw [if_neg h1, if_neg h2]
  subst e
  have q3 : (k == 3) = false := neq_k (by omega)
  have q4 : (k == 4) = false := neq_k (by omega)
  have q5 : (k == 5) = false := neq_k (by omega)
  have q6 : (k == 6) = false := neq_k (by omega)
  have q7 : (k == 7) = false := neq_k (by omega)
  have q8 : (k == 8) = false := neq_k (by omega)
  have q9 : (k == 9) = false := neq_k (by omega)
  have q10 : (k == 10) = false := neq_k (by omega)
  have q11 : (k == 11) = false := neq_k (by omega)
  have q12 : (k == 12) = false := neq_k (by omega)
  clear hn h1 h2
  go_enter Tryd.func15, Tryd.ntmps15
  go_wp2
  go_ret
  exact ⟨rfl, rfl⟩
set_option maxHeartbeats 2000000 in
theorem item_impl (x : TI) (w : World) (h1 : x.2.2.size ≤ 1048576) (h2 : x.2.1.2.2.size ≤ maxLen) (hp : PowAt w) (he : ErrAt w) (b : Bool) (hb : itemB x = b) :
    Calls Tryd.prog 24 #[.agg #[.int .i64 x.1, .int .i64 x.2.1.1, .int .i64 x.2.1.2.1, .string x.2.1.2.2, .string x.2.2]] w fun e w' => e = .returned (.bool b) ∧ Below w.heap.size w w' := by
  obtain ⟨k, ⟨ck, cn, ct⟩, s⟩ := x
  dsimp only at h1 h2 ⊢
  have HP : Hid (PowAt w) := hp
  have HE : Hid (ErrAt w) := he
  clear hp he
  have hA : Below w.heap.size w (w.alloc (.cells #[.int .i64 k, .int .i64 ck, .int .i64 cn, .string ct, .string s] 31)) := (Below.refl _ _).alloc (Nat.le_refl _) _
  unfold itemB at hb
  dsimp only at hb
  by_cases k1 : k = 1
  · subst k1
    rw [if_pos rfl] at hb
    obtain ⟨b1, e1⟩ : ∃ x, okC (ck, cn, ct) = x := ⟨_, rfl⟩
    obtain ⟨b2, e2⟩ : ∃ x, decide (s = ⟨#[]⟩) = x := ⟨_, rfl⟩
    rw [e1, e2] at hb
    have E1 : Hid (okB ck cn ct = b1) := e1
    have HBB : Hid ((b1 && b2) = b) := hb
    cases b2
    · have hq := not_lit (l := []) (of_decide_eq_false e2)
      obtain rfl : false = b := by rw [← HBB.out, Bool.and_false]
      clear e1 e2 hb
      have hq2 : s.toList.isEmpty = false := by
        cases hs : s.toList with
        | nil => rw [hs] at hq; exact absurd hq (by decide)
        | cons _ _ => rfl
      go_enter Tryd.func24, Tryd.ntmps24
      go_wp2
      go_ret
      exact ⟨rfl, hA⟩
    · obtain rfl : s = ⟨#[]⟩ := of_decide_eq_true e2
      obtain rfl : b1 = b := by rw [← HBB.out, Bool.and_true]
      clear e1 e2 hb
      go_enter Tryd.func24, Tryd.ntmps24
      go_wp2_with fail
      refine (ok_implb ck cn ct b1 E1.out _ h2).mono ?_
      rintro e w1 ⟨rfl, hb1⟩
      have hx := chain hA hb1
      go_wp2
      go_ret
      exact ⟨rfl, hx⟩
  rw [if_neg k1] at hb
  by_cases k2 : k = 2
  · subst k2
    rw [if_pos rfl] at hb
    obtain ⟨b1, e1⟩ : ∃ x, nameK s = x := ⟨_, rfl⟩
    obtain ⟨b2, e2⟩ : ∃ x, decide ((ck, cn, ct) = zeroC) = x := ⟨_, rfl⟩
    rw [e1, e2] at hb
    have hz := zeroC_same (ck, cn, ct) b2 e2
    dsimp only at hz
    have hq := fun w' => run_eql ck cn ct 0 0 ⟨#[]⟩ w'
    rw [hz] at hq
    have E1 : Hid (nameK s = b1) := e1
    have HBB : Hid ((b1 && b2) = b) := hb
    clear e1 e2 hz hb
    cases b2
    · obtain rfl : false = b := by rw [← HBB.out, Bool.and_false]
      go_enter Tryd.func24, Tryd.ntmps24
      go_wp2
      go_ret
      exact ⟨rfl, hA⟩
    · obtain rfl : b1 = b := by rw [← HBB.out, Bool.and_true]
      go_enter Tryd.func24, Tryd.ntmps24
      go_wp2_with fail
      refine (free_impl s h1 _ (HP.out.below hA) (HE.out.below hA) b1 E1.out).mono ?_
      rintro e w1 ⟨rfl, hb1⟩
      have hx := chain hA hb1
      go_wp2
      go_ret
      exact ⟨rfl, hx⟩
  rw [if_neg k2] at hb
  have hq := fun w' => run_eqlI k ck cn ct s w'
  obtain ⟨b2, e2⟩ : ∃ x, ((ck == 0 && cn == 0) && (ct.toList == [] && s.toList == [])) = x := ⟨_, rfl⟩
  rw [e2] at hq
  have e3 : decide (((k, (ck, cn, ct), s) : TI) = opI k) = b2 := by
    rw [← e2]
    have g1 := zero_txt ct _ rfl
    have g2 := zero_txt s _ rfl
    rw [g1, g2, Bool.eq_iff_iff, decide_eq_true_eq]
    unfold opI zeroC
    simp [and_assoc]
  rw [e3] at hb
  clear e2 e3
  have q1 : (k == 1) = false := neq_k k1
  have q2 : (k == 2) = false := neq_k k2
  obtain ⟨n, hn⟩ : ∃ n, needsP k = n := ⟨_, rfl⟩
  have HN : Hid (needsP k = n) := hn
  by_cases h3 : 3 ≤ k ∧ k ≤ 12
  · rw [decide_eq_true h3.1, decide_eq_true h3.2] at hb
    obtain rfl : b2 = b := by simpa using hb
    have hn0 : (0 : Int) < (n : Int) := by
      rw [← hn]; unfold needsP; (repeat' split) <;> omega
    clear hb hn
    go_enter Tryd.func24, Tryd.ntmps24
    go_wp2_with fail
    refine (needs_impl k n HN.out _).mono ?_
    rintro e w1 ⟨rfl, rfl⟩
    go_wp2
    go_ret
    exact ⟨rfl, hA⟩
  · have hbf : b = false := by
      rw [← hb]
      by_cases h4 : 3 ≤ k
      · rw [decide_eq_false (fun h5 => h3 ⟨h4, h5⟩)]; simp
      · rw [decide_eq_false h4]; simp
    subst hbf
    have hn0 : n = 0 := by
      rw [← hn]; unfold needsP; (repeat' split) <;> omega
    subst hn0
    clear hb hn
    go_enter Tryd.func24, Tryd.ntmps24
    go_wp2_with fail
    refine (needs_impl k 0 HN.out _).mono ?_
    rintro e w1 ⟨rfl, rfl⟩
    go_wp2
    go_ret
    exact ⟨rfl, hA⟩
end Go.Proofs.YthgbjnchhaoceaaDoor
