/-
  The contracts of the program's SameAs and Below.
-/
import Derived.Test.YtgablbdphflokaaCmp2
import Derived.Test.YtgablbdphflokaaRank2
import Derived.Test.YtgablbdphflokaaTruth
namespace Go.Proofs.Ytgablbdphflokaa
open Go.ChangeShapes Go.WideShapes Go.ChangeAt Go.RowKit
attribute [local go_sem ↓] Go.wp_at_zero Go.wp_at_succ

set_option maxHeartbeats 2000000 in
theorem ranked_impl (g : Nat) (hent : ∀ (xs : Array Value) (w : World), (callFunc g xs).run Try.prog w = .ok (.enter g xs) w) (yes : Bool) (k1 n1 : Int) (t1 : ByteArray) (k2 n2 : Int) (t2 : ByteArray)
    (hg : ∀ w, Calls Try.prog g #[.agg #[.int .i64 k1, .int .i64 n1, .string t1], .agg #[.int .i64 k2, .int .i64 n2, .string t2]] w fun e w' => e = .returned (.bool yes) ∧ Below w.heap.size w w')
    (w : World) (ht1 : t1.size ≤ maxLen) (ht2 : t2.size ≤ maxLen) :
    Calls Try.prog 70 #[.agg #[.int .i64 k1, .int .i64 n1, .string t1], .agg #[.int .i64 k2, .int .i64 n2, .string t2], .func (.func g) #[] #[]] w fun e w' => e = .returned (.tuple #[.agg #[.int .i64 (heldR (likeB k1 n1 t1 k2 n2 t2) (nonesB k1 n1 t1 k2 n2 t2) yes).1, .int .i64 (heldR (likeB k1 n1 t1 k2 n2 t2) (nonesB k1 n1 t1 k2 n2 t2) yes).2.1, .string ⟨#[]⟩], .int .i64 (heldR (likeB k1 n1 t1 k2 n2 t2) (nonesB k1 n1 t1 k2 n2 t2) yes).2.2]) ∧ Below w.heap.size w w' := by
  have G : Hid (∀ w, Calls Try.prog g #[.agg #[.int .i64 k1, .int .i64 n1, .string t1], .agg #[.int .i64 k2, .int .i64 n2, .string t2]] w fun e w' => e = .returned (.bool yes) ∧ Below w.heap.size w w') := hg
  clear hg
  obtain ⟨m, hm⟩ : ∃ m : Int, (if yes = true then 1 else 0) = m := ⟨_, rfl⟩
  obtain ⟨rk, rn, rf, hR⟩ : ∃ x y z, Hid (heldR (likeB k1 n1 t1 k2 n2 t2) (nonesB k1 n1 t1 k2 n2 t2) yes = (x, y, z)) := ⟨_, _, _, rfl⟩
  simp only [hR.out]
  have hR' : Hid (heldR ((okB k1 n1 t1 && okB k2 n2 t2) && ((k1 == 0 || k2 == 0) || k1 == k2)) ((okB k1 n1 t1 && okB k2 n2 t2) && (k1 == 0 || k2 == 0)) yes = (rk, rn, rf)) := hR.out
  clear hR
  cases h1 : okB k1 n1 t1
  · skip
    obtain ⟨rfl, rfl, rfl⟩ : rk = 0 ∧ rn = 0 ∧ rf = 3 := by
      have := hR'.out
      simp [heldR, h1] at this
      exact ⟨this.1.symm, this.2.1.symm, this.2.2.symm⟩
    go_enter Try.func70, Try.ntmps70
    go_wp2_with fail
    refine (ok_implb _ _ _ _ h1 _ ht1).mono ?_
    rintro e w1 ⟨rfl, hb1⟩
    obtain ⟨⟨a1, b1, c1, d1⟩, ⟨x1, y1, z1, s1⟩, ⟨p1, q1, r1, s2⟩, f0, f1, f2⟩ := three3 hb1
    have hx := chainA (chainAA hb1)
    have hxs := hx.size
    go_wp2
    exact bodyPost_ret (v := .tuple #[.agg #[.int .i64 0, .int .i64 0, .string ⟨#[]⟩], .int .i64 3]) (by simp [results, Try.results70, go_sem, p1, q1, r1]) rfl ⟨rfl, by go_grown⟩
  cases h2 : okB k2 n2 t2
  · skip
    obtain ⟨rfl, rfl, rfl⟩ : rk = 0 ∧ rn = 0 ∧ rf = 3 := by
      have := hR'.out
      simp [heldR, h2] at this
      exact ⟨this.1.symm, this.2.1.symm, this.2.2.symm⟩
    go_enter Try.func70, Try.ntmps70
    go_wp2_with fail
    refine (ok_implb _ _ _ _ h1 _ ht1).mono ?_
    rintro e w1 ⟨rfl, hb1⟩
    obtain ⟨⟨a1, b1, c1, d1⟩, ⟨x1, y1, z1, s1⟩, ⟨p1, q1, r1, s2⟩, ff⟩ := three3 hb1
    have hx := chainA (chainAA hb1)
    clear hb1
    go_wp2_with fail
    refine (ok_implb _ _ _ _ h2 _ ht2).mono ?_
    rintro e w2 ⟨rfl, hb2⟩
    obtain ⟨f0, f1, f2⟩ := frozen3 hb2 s2 ff
    obtain ⟨p2, q2, r2, s3⟩ := later3 hb2 ⟨p1, q1, r1, s2⟩
    replace hx := chain hx hb2
    clear hb2 ff
    have hxs := hx.size
    go_wp2
    exact bodyPost_ret (v := .tuple #[.agg #[.int .i64 0, .int .i64 0, .string ⟨#[]⟩], .int .i64 3]) (by simp [results, Try.results70, go_sem, p2, q2, r2]) rfl ⟨rfl, by go_grown⟩
  go_enter Try.func70, Try.ntmps70
  go_wp2_with fail
  refine (ok_implb _ _ _ _ h1 _ ht1).mono ?_
  rintro e w1 ⟨rfl, hb1⟩
  obtain ⟨⟨a1, b1, c1, d1⟩, ⟨x1, y1, z1, s1⟩, ⟨p1, q1, r1, s2⟩, ff⟩ := three3 hb1
  have hx := chainA (chainAA hb1)
  clear hb1
  go_wp2_with fail
  refine (ok_implb _ _ _ _ h2 _ ht2).mono ?_
  rintro e w2 ⟨rfl, hb2⟩
  replace ff := frozen3 hb2 s2 ff
  obtain ⟨p2, q2, r2, s3⟩ := later3 hb2 ⟨p1, q1, r1, s2⟩
  obtain ⟨a2, b2, c2, d2⟩ := later3 hb2 ⟨a1, b1, c1, d1⟩
  obtain ⟨x2, y2, z2, s4⟩ := later3 hb2 ⟨x1, y1, z1, s1⟩
  replace hx := chain hx hb2
  clear hb2 a1 b1 c1 d1 x1 y1 z1 s1 p1 q1 r1 s2
  by_cases g0 : k1 = 0 ∨ k2 = 0
  · have e0 : (k1 == 0 || k2 == 0) = true := by simpa using g0
    obtain ⟨rfl, rfl, rfl⟩ : rk = 0 ∧ rn = 0 ∧ rf = 0 := by
      have := hR'.out
      simp [heldR, h1, h2, e0] at this
      exact ⟨this.1.symm, this.2.1.symm, this.2.2.symm⟩
    cases g1 : (k1 == 0)
    · have g2 : (k2 == 0) = true := by rw [g1] at e0; simpa using e0
      go_wp2_with (go_at_call 96; refine (cell0 _).mono ?_; rintro e w3 ⟨rfl, hb3⟩; obtain ⟨f0, f1, f2⟩ := frozen3 hb3 s3 ff; obtain ⟨p3, q3, r3, s5⟩ := later3 hb3 ⟨p2, q2, r2, s3⟩; replace hx := chain hx hb3; have hxs := hx.size)
      exact bodyPost_ret (v := .tuple #[.agg #[.int .i64 0, .int .i64 0, .string ⟨#[]⟩], .int .i64 0]) (by simp [results, Try.results70, go_sem, p3, q3, r3]) rfl ⟨rfl, by go_grown⟩
    · go_wp2_with (go_at_call 96; refine (cell0 _).mono ?_; rintro e w3 ⟨rfl, hb3⟩; obtain ⟨f0, f1, f2⟩ := frozen3 hb3 s3 ff; obtain ⟨p3, q3, r3, s5⟩ := later3 hb3 ⟨p2, q2, r2, s3⟩; replace hx := chain hx hb3; have hxs := hx.size)
      exact bodyPost_ret (v := .tuple #[.agg #[.int .i64 0, .int .i64 0, .string ⟨#[]⟩], .int .i64 0]) (by simp [results, Try.results70, go_sem, p3, q3, r3]) rfl ⟨rfl, by go_grown⟩
  have e0 : (k1 == 0 || k2 == 0) = false := by simpa using g0
  have g1 : (k1 == 0) = false := by simp at e0; simp [e0]
  have g2 : (k2 == 0) = false := by simp at e0; simp [e0]
  obtain ⟨f0, f1, f2⟩ := ff
  cases g3 : (k1 != k2)
  · have g4 : (k1 == k2) = true := by simpa using g3
    obtain ⟨rfl, rfl, rfl⟩ : rk = 3 ∧ rn = m ∧ rf = 0 := by
      have := hR'.out
      simp [heldR, h1, h2, g1, g2, g4, hm] at this
      exact ⟨this.1.symm, this.2.1.symm, this.2.2.symm⟩
    go_wp2_with fail
    refine (G.out _).mono ?_
    rintro e w3 ⟨rfl, hb3⟩
    have ff := frozen3 hb3 s3 ⟨f0, f1, f2⟩
    obtain ⟨p3, q3, r3, s5⟩ := later3 hb3 ⟨p2, q2, r2, s3⟩
    replace hx := chain hx hb3
    clear hb3 f0 f1 f2 p2 q2 r2 s3
    go_wp2_with fail
    refine (truth_implb _ rn hm _).mono ?_
    rintro e w4 ⟨rfl, hb4⟩
    obtain ⟨f0, f1, f2⟩ := frozen3 hb4 s5 ff
    obtain ⟨p4, q4, r4, s7⟩ := later3 hb4 ⟨p3, q3, r3, s5⟩
    replace hx := chain hx hb4
    have hxs := hx.size
    go_wp2
    exact bodyPost_ret (v := .tuple #[.agg #[.int .i64 3, .int .i64 rn, .string ⟨#[]⟩], .int .i64 0]) (by simp [results, Try.results70, go_sem, p4, q4, r4]) rfl ⟨rfl, by go_grown⟩
  · have g4 : (k1 == k2) = false := by simpa using g3
    obtain ⟨rfl, rfl, rfl⟩ : rk = 0 ∧ rn = 0 ∧ rf = 3 := by
      have := hR'.out
      simp [heldR, h1, h2, g1, g2, g4] at this
      exact ⟨this.1.symm, this.2.1.symm, this.2.2.symm⟩
    have hxs := hx.size
    go_wp2
    exact bodyPost_ret (v := .tuple #[.agg #[.int .i64 0, .int .i64 0, .string ⟨#[]⟩], .int .i64 3]) (by simp [results, Try.results70, go_sem, p2, q2, r2]) rfl ⟨rfl, by go_grown⟩

theorem ent_less : ∀ (xs : Array Value) (w : World), (callFunc 37 xs).run Try.prog w = .ok (.enter 37 xs) w := fun xs w => by kernel_rfl

set_option maxHeartbeats 1000000 in
theorem below_impl (k1 n1 : Int) (t1 : ByteArray) (k2 n2 : Int) (t2 : ByteArray) (w : World) (ht1 : t1.size ≤ maxLen) (ht2 : t2.size ≤ maxLen) :
    Calls Try.prog 34 #[.agg #[.int .i64 k1, .int .i64 n1, .string t1], .agg #[.int .i64 k2, .int .i64 n2, .string t2]] w fun e w' => e = .returned (.tuple #[.agg #[.int .i64 (belowR k1 n1 t1 k2 n2 t2).1, .int .i64 (belowR k1 n1 t1 k2 n2 t2).2.1, .string ⟨#[]⟩], .int .i64 (belowR k1 n1 t1 k2 n2 t2).2.2]) ∧ Below w.heap.size w w' := by
  have H : Hid (∀ w, Calls Try.prog 70 #[.agg #[.int .i64 k1, .int .i64 n1, .string t1], .agg #[.int .i64 k2, .int .i64 n2, .string t2], .func (.func 37) #[] #[]] w fun e w' => e = .returned (.tuple #[.agg #[.int .i64 (belowR k1 n1 t1 k2 n2 t2).1, .int .i64 (belowR k1 n1 t1 k2 n2 t2).2.1, .string ⟨#[]⟩], .int .i64 (belowR k1 n1 t1 k2 n2 t2).2.2]) ∧ Below w.heap.size w w') :=
    fun w => ranked_impl 37 ent_less (lessB k1 n1 t1 k2 n2 t2) k1 n1 t1 k2 n2 t2 (fun w => cless_impl _ _ _ _ _ _ w) w ht1 ht2
  generalize belowR k1 n1 t1 k2 n2 t2 = R at H ⊢
  obtain ⟨rk, rn, rf⟩ := R
  go_enter Try.func34, Try.ntmps34
  go_wp2_with fail
  refine (H.out _).mono ?_
  rintro e w1 ⟨rfl, hb1⟩
  obtain ⟨_, _, ⟨p1, q1, r1, s2⟩, f0, f1, f2⟩ := three3 hb1
  have hx := chainA (chainAA hb1)
  have hxs := hx.size
  go_wp2
  exact bodyPost_ret (v := .tuple #[.agg #[.int .i64 rk, .int .i64 rn, .string ⟨#[]⟩], .int .i64 rf]) (by simp [results, Try.results34, go_sem, p1, q1, r1]) rfl ⟨rfl, by go_grown⟩

theorem ent_same : ∀ (xs : Array Value) (w : World), (callFunc 71 xs).run Try.prog w = .ok (.enter 71 xs) w := fun xs w => by kernel_rfl

theorem same_one (k1 n1 : Int) (t1 : ByteArray) (k2 n2 : Int) (t2 : ByteArray) (w : World) :
    Calls Try.prog 71 #[.agg #[.int .i64 k1, .int .i64 n1, .string t1], .agg #[.int .i64 k2, .int .i64 n2, .string t2]] w fun e w' => e = .returned (.bool (sameB k1 n1 t1 k2 n2 t2)) ∧ Below w.heap.size w w' := by
  obtain ⟨yes, hy⟩ : ∃ b, sameB k1 n1 t1 k2 n2 t2 = b := ⟨_, rfl⟩
  rw [hy]
  have hq : ∀ w, (binOp .eql 25 (.agg #[.int .i64 k1, .int .i64 n1, .string t1]) (.agg #[.int .i64 k2, .int .i64 n2, .string t2])).run Try.prog w = .ok (.bool yes) w := fun w => by rw [run_eql, hy]
  go_enter Try.func71, Try.ntmps71
  go_wp2
  go_ret
  exact ⟨rfl, by go_grown⟩

set_option maxHeartbeats 1000000 in
theorem same_impl (k1 n1 : Int) (t1 : ByteArray) (k2 n2 : Int) (t2 : ByteArray) (w : World) (ht1 : t1.size ≤ maxLen) (ht2 : t2.size ≤ maxLen) :
    Calls Try.prog 33 #[.agg #[.int .i64 k1, .int .i64 n1, .string t1], .agg #[.int .i64 k2, .int .i64 n2, .string t2]] w fun e w' => e = .returned (.tuple #[.agg #[.int .i64 (sameR k1 n1 t1 k2 n2 t2).1, .int .i64 (sameR k1 n1 t1 k2 n2 t2).2.1, .string ⟨#[]⟩], .int .i64 (sameR k1 n1 t1 k2 n2 t2).2.2]) ∧ Below w.heap.size w w' := by
  have H : Hid (∀ w, Calls Try.prog 70 #[.agg #[.int .i64 k1, .int .i64 n1, .string t1], .agg #[.int .i64 k2, .int .i64 n2, .string t2], .func (.func 71) #[] #[]] w fun e w' => e = .returned (.tuple #[.agg #[.int .i64 (sameR k1 n1 t1 k2 n2 t2).1, .int .i64 (sameR k1 n1 t1 k2 n2 t2).2.1, .string ⟨#[]⟩], .int .i64 (sameR k1 n1 t1 k2 n2 t2).2.2]) ∧ Below w.heap.size w w') :=
    fun w => ranked_impl 71 ent_same (sameB k1 n1 t1 k2 n2 t2) k1 n1 t1 k2 n2 t2 (fun w => same_one _ _ _ _ _ _ w) w ht1 ht2
  generalize sameR k1 n1 t1 k2 n2 t2 = R at H ⊢
  obtain ⟨rk, rn, rf⟩ := R
  go_enter Try.func33, Try.ntmps33
  go_wp2_with fail
  refine (H.out _).mono ?_
  rintro e w1 ⟨rfl, hb1⟩
  obtain ⟨_, _, ⟨p1, q1, r1, s2⟩, f0, f1, f2⟩ := three3 hb1
  have hx := chainA (chainAA hb1)
  have hxs := hx.size
  go_wp2
  exact bodyPost_ret (v := .tuple #[.agg #[.int .i64 rk, .int .i64 rn, .string ⟨#[]⟩], .int .i64 rf]) (by simp [results, Try.results33, go_sem, p1, q1, r1]) rfl ⟨rfl, by go_grown⟩

end Go.Proofs.Ytgablbdphflokaa
