/-
  A part of the proof: RankI, RkI, Walk9.
-/
import Derived.Test.YthgbjnchhaoceaaGreatDoorPart6
import Derived.Test.YthgbjnchhaoceaaGreatDoorPart5

/-
  The contracts of the program's SameAs and Below.
-/
namespace Go.Proofs.YthgbjnchhaoceaaGreatDoor
open Go.ChangeShapes Go.WideShapes Go.ChangeAt Go.RowKit
attribute [local go_sem ↓] Go.wp_at_zero Go.wp_at_succ

set_option maxHeartbeats 2000000 in
theorem ranked_impl (g : Nat) (hent : ∀ (xs : Array Value) (w : World), (callFunc g xs).run Tryz.prog w = .ok (.enter g xs) w) (yes : Bool) (k1 n1 : Int) (t1 : ByteArray) (k2 n2 : Int) (t2 : ByteArray)
    (hg : ∀ w, Calls Tryz.prog g #[.agg #[.int .i64 k1, .int .i64 n1, .string t1], .agg #[.int .i64 k2, .int .i64 n2, .string t2]] w fun e w' => e = .returned (.bool yes) ∧ Below w.heap.size w w')
    (w : World) (ht1 : t1.size ≤ maxLen) (ht2 : t2.size ≤ maxLen) :
    Calls Tryz.prog 156 #[.agg #[.int .i64 k1, .int .i64 n1, .string t1], .agg #[.int .i64 k2, .int .i64 n2, .string t2], .func (.func g) #[] #[]] w fun e w' => e = .returned (.tuple #[.agg #[.int .i64 (heldR (likeB k1 n1 t1 k2 n2 t2) (nonesB k1 n1 t1 k2 n2 t2) yes).1, .int .i64 (heldR (likeB k1 n1 t1 k2 n2 t2) (nonesB k1 n1 t1 k2 n2 t2) yes).2.1, .string ⟨#[]⟩], .int .i64 (heldR (likeB k1 n1 t1 k2 n2 t2) (nonesB k1 n1 t1 k2 n2 t2) yes).2.2]) ∧ Below w.heap.size w w' := by
  have G : Hid (∀ w, Calls Tryz.prog g #[.agg #[.int .i64 k1, .int .i64 n1, .string t1], .agg #[.int .i64 k2, .int .i64 n2, .string t2]] w fun e w' => e = .returned (.bool yes) ∧ Below w.heap.size w w') := hg
  clear hg
  obtain ⟨m, hm⟩ : ∃ m : Int, (if yes = true then 1 else 0) = m := ⟨_, rfl⟩
  obtain ⟨rk, rn, rf, hR⟩ : ∃ x y z, Hid (heldR (likeB k1 n1 t1 k2 n2 t2) (nonesB k1 n1 t1 k2 n2 t2) yes = (x, y, z)) := ⟨_, _, _, rfl⟩
  simp only [hR.out]
  have hR' : Hid (heldR ((okB k1 n1 t1 && okB k2 n2 t2) && ((k1 == 0 || k2 == 0) || k1 == k2)) ((okB k1 n1 t1 && okB k2 n2 t2) && (k1 == 0 || k2 == 0)) yes = (rk, rn, rf)) := hR.out
  clear hR
  cases h1 : okB k1 n1 t1
  · skip
    obtain ⟨rfl, rfl, rfl⟩ : rk = 0 ∧ rn = 0 ∧ rf = 3 := by
      have := hR'.out
      simp [heldR, h1] at this
      exact ⟨this.1.symm, this.2.1.symm, this.2.2.symm⟩
    go_enter Tryz.func156, Tryz.ntmps156
    go_wp2_with fail
    refine (ok_implb _ _ _ _ h1 _ ht1).mono ?_
    rintro e w1 ⟨rfl, hb1⟩
    obtain ⟨⟨a1, b1, c1, d1⟩, ⟨x1, y1, z1, s1⟩, ⟨p1, q1, r1, s2⟩, f0, f1, f2⟩ := three3 hb1
    have hx := chainA (chainAA hb1)
    have hxs := hx.size
    go_wp2
    exact bodyPost_ret (v := .tuple #[.agg #[.int .i64 0, .int .i64 0, .string ⟨#[]⟩], .int .i64 3]) (by simp [results, Tryz.results156, go_sem, p1, q1, r1]) rfl ⟨rfl, by go_grown⟩
  cases h2 : okB k2 n2 t2
  · skip
    obtain ⟨rfl, rfl, rfl⟩ : rk = 0 ∧ rn = 0 ∧ rf = 3 := by
      have := hR'.out
      simp [heldR, h2] at this
      exact ⟨this.1.symm, this.2.1.symm, this.2.2.symm⟩
    go_enter Tryz.func156, Tryz.ntmps156
    go_wp2_with fail
    refine (ok_implb _ _ _ _ h1 _ ht1).mono ?_
    rintro e w1 ⟨rfl, hb1⟩
    obtain ⟨⟨a1, b1, c1, d1⟩, ⟨x1, y1, z1, s1⟩, ⟨p1, q1, r1, s2⟩, ff⟩ := three3 hb1
    have hx := chainA (chainAA hb1)
    clear hb1
    go_wp2_with fail
    refine (ok_implb _ _ _ _ h2 _ ht2).mono ?_
    rintro e w2 ⟨rfl, hb2⟩
    obtain ⟨f0, f1, f2⟩ := frozen3 hb2 s2 ff
    obtain ⟨p2, q2, r2, s3⟩ := later3 hb2 ⟨p1, q1, r1, s2⟩
    replace hx := chain hx hb2
    clear hb2 ff
    have hxs := hx.size
    go_wp2
    exact bodyPost_ret (v := .tuple #[.agg #[.int .i64 0, .int .i64 0, .string ⟨#[]⟩], .int .i64 3]) (by simp [results, Tryz.results156, go_sem, p2, q2, r2]) rfl ⟨rfl, by go_grown⟩
  go_enter Tryz.func156, Tryz.ntmps156
  go_wp2_with fail
  refine (ok_implb _ _ _ _ h1 _ ht1).mono ?_
  rintro e w1 ⟨rfl, hb1⟩
  obtain ⟨⟨a1, b1, c1, d1⟩, ⟨x1, y1, z1, s1⟩, ⟨p1, q1, r1, s2⟩, ff⟩ := three3 hb1
  have hx := chainA (chainAA hb1)
  clear hb1
  go_wp2_with fail
  refine (ok_implb _ _ _ _ h2 _ ht2).mono ?_
  rintro e w2 ⟨rfl, hb2⟩
  replace ff := frozen3 hb2 s2 ff
  obtain ⟨p2, q2, r2, s3⟩ := later3 hb2 ⟨p1, q1, r1, s2⟩
  obtain ⟨a2, b2, c2, d2⟩ := later3 hb2 ⟨a1, b1, c1, d1⟩
  obtain ⟨x2, y2, z2, s4⟩ := later3 hb2 ⟨x1, y1, z1, s1⟩
  replace hx := chain hx hb2
  clear hb2 a1 b1 c1 d1 x1 y1 z1 s1 p1 q1 r1 s2
  by_cases g0 : k1 = 0 ∨ k2 = 0
  · have e0 : (k1 == 0 || k2 == 0) = true := by simpa using g0
    obtain ⟨rfl, rfl, rfl⟩ : rk = 0 ∧ rn = 0 ∧ rf = 0 := by
      have := hR'.out
      simp [heldR, h1, h2, e0] at this
      exact ⟨this.1.symm, this.2.1.symm, this.2.2.symm⟩
    cases g1 : (k1 == 0)
    · have g2 : (k2 == 0) = true := by rw [g1] at e0; simpa using e0
      go_wp2_with (go_at_call 167; refine (cell0 _).mono ?_; rintro e w3 ⟨rfl, hb3⟩; obtain ⟨f0, f1, f2⟩ := frozen3 hb3 s3 ff; obtain ⟨p3, q3, r3, s5⟩ := later3 hb3 ⟨p2, q2, r2, s3⟩; replace hx := chain hx hb3; have hxs := hx.size)
      exact bodyPost_ret (v := .tuple #[.agg #[.int .i64 0, .int .i64 0, .string ⟨#[]⟩], .int .i64 0]) (by simp [results, Tryz.results156, go_sem, p3, q3, r3]) rfl ⟨rfl, by go_grown⟩
    · go_wp2_with (go_at_call 167; refine (cell0 _).mono ?_; rintro e w3 ⟨rfl, hb3⟩; obtain ⟨f0, f1, f2⟩ := frozen3 hb3 s3 ff; obtain ⟨p3, q3, r3, s5⟩ := later3 hb3 ⟨p2, q2, r2, s3⟩; replace hx := chain hx hb3; have hxs := hx.size)
      exact bodyPost_ret (v := .tuple #[.agg #[.int .i64 0, .int .i64 0, .string ⟨#[]⟩], .int .i64 0]) (by simp [results, Tryz.results156, go_sem, p3, q3, r3]) rfl ⟨rfl, by go_grown⟩
  have e0 : (k1 == 0 || k2 == 0) = false := by simpa using g0
  have g1 : (k1 == 0) = false := by simp at e0; simp [e0]
  have g2 : (k2 == 0) = false := by simp at e0; simp [e0]
  obtain ⟨f0, f1, f2⟩ := ff
  cases g3 : (k1 != k2)
  · have g4 : (k1 == k2) = true := by simpa using g3
    obtain ⟨rfl, rfl, rfl⟩ : rk = 3 ∧ rn = m ∧ rf = 0 := by
      have := hR'.out
      simp [heldR, h1, h2, g1, g2, g4, hm] at this
      exact ⟨this.1.symm, this.2.1.symm, this.2.2.symm⟩
    go_wp2_with fail
    refine (G.out _).mono ?_
    rintro e w3 ⟨rfl, hb3⟩
    have ff := frozen3 hb3 s3 ⟨f0, f1, f2⟩
    obtain ⟨p3, q3, r3, s5⟩ := later3 hb3 ⟨p2, q2, r2, s3⟩
    replace hx := chain hx hb3
    clear hb3 f0 f1 f2 p2 q2 r2 s3
    go_wp2_with fail
    refine (truth_implb _ rn hm _).mono ?_
    rintro e w4 ⟨rfl, hb4⟩
    obtain ⟨f0, f1, f2⟩ := frozen3 hb4 s5 ff
    obtain ⟨p4, q4, r4, s7⟩ := later3 hb4 ⟨p3, q3, r3, s5⟩
    replace hx := chain hx hb4
    have hxs := hx.size
    go_wp2
    exact bodyPost_ret (v := .tuple #[.agg #[.int .i64 3, .int .i64 rn, .string ⟨#[]⟩], .int .i64 0]) (by simp [results, Tryz.results156, go_sem, p4, q4, r4]) rfl ⟨rfl, by go_grown⟩
  · have g4 : (k1 == k2) = false := by simpa using g3
    obtain ⟨rfl, rfl, rfl⟩ : rk = 0 ∧ rn = 0 ∧ rf = 3 := by
      have := hR'.out
      simp [heldR, h1, h2, g1, g2, g4] at this
      exact ⟨this.1.symm, this.2.1.symm, this.2.2.symm⟩
    have hxs := hx.size
    go_wp2
    exact bodyPost_ret (v := .tuple #[.agg #[.int .i64 0, .int .i64 0, .string ⟨#[]⟩], .int .i64 3]) (by simp [results, Tryz.results156, go_sem, p2, q2, r2]) rfl ⟨rfl, by go_grown⟩

theorem ent_less : ∀ (xs : Array Value) (w : World), (callFunc 158 xs).run Tryz.prog w = .ok (.enter 158 xs) w := fun xs w => by kernel_rfl

set_option maxHeartbeats 1000000 in
theorem below_impl (k1 n1 : Int) (t1 : ByteArray) (k2 n2 : Int) (t2 : ByteArray) (w : World) (ht1 : t1.size ≤ maxLen) (ht2 : t2.size ≤ maxLen) :
    Calls Tryz.prog 130 #[.agg #[.int .i64 k1, .int .i64 n1, .string t1], .agg #[.int .i64 k2, .int .i64 n2, .string t2]] w fun e w' => e = .returned (.tuple #[.agg #[.int .i64 (belowR k1 n1 t1 k2 n2 t2).1, .int .i64 (belowR k1 n1 t1 k2 n2 t2).2.1, .string ⟨#[]⟩], .int .i64 (belowR k1 n1 t1 k2 n2 t2).2.2]) ∧ Below w.heap.size w w' := by
  have H : Hid (∀ w, Calls Tryz.prog 156 #[.agg #[.int .i64 k1, .int .i64 n1, .string t1], .agg #[.int .i64 k2, .int .i64 n2, .string t2], .func (.func 158) #[] #[]] w fun e w' => e = .returned (.tuple #[.agg #[.int .i64 (belowR k1 n1 t1 k2 n2 t2).1, .int .i64 (belowR k1 n1 t1 k2 n2 t2).2.1, .string ⟨#[]⟩], .int .i64 (belowR k1 n1 t1 k2 n2 t2).2.2]) ∧ Below w.heap.size w w') :=
    fun w => ranked_impl 158 ent_less (lessB k1 n1 t1 k2 n2 t2) k1 n1 t1 k2 n2 t2 (fun w => cless_impl _ _ _ _ _ _ w) w ht1 ht2
  generalize belowR k1 n1 t1 k2 n2 t2 = R at H ⊢
  obtain ⟨rk, rn, rf⟩ := R
  go_enter Tryz.func130, Tryz.ntmps130
  go_wp2_with fail
  refine (H.out _).mono ?_
  rintro e w1 ⟨rfl, hb1⟩
  obtain ⟨_, _, ⟨p1, q1, r1, s2⟩, f0, f1, f2⟩ := three3 hb1
  have hx := chainA (chainAA hb1)
  have hxs := hx.size
  go_wp2
  exact bodyPost_ret (v := .tuple #[.agg #[.int .i64 rk, .int .i64 rn, .string ⟨#[]⟩], .int .i64 rf]) (by simp [results, Tryz.results130, go_sem, p1, q1, r1]) rfl ⟨rfl, by go_grown⟩

theorem ent_same : ∀ (xs : Array Value) (w : World), (callFunc 157 xs).run Tryz.prog w = .ok (.enter 157 xs) w := fun xs w => by kernel_rfl

theorem same_one (k1 n1 : Int) (t1 : ByteArray) (k2 n2 : Int) (t2 : ByteArray) (w : World) :
    Calls Tryz.prog 157 #[.agg #[.int .i64 k1, .int .i64 n1, .string t1], .agg #[.int .i64 k2, .int .i64 n2, .string t2]] w fun e w' => e = .returned (.bool (sameB k1 n1 t1 k2 n2 t2)) ∧ Below w.heap.size w w' := by
  obtain ⟨yes, hy⟩ : ∃ b, sameB k1 n1 t1 k2 n2 t2 = b := ⟨_, rfl⟩
  rw [hy]
  have hq : ∀ w, (binOp .eql 30 (.agg #[.int .i64 k1, .int .i64 n1, .string t1]) (.agg #[.int .i64 k2, .int .i64 n2, .string t2])).run Tryz.prog w = .ok (.bool yes) w := fun w => by rw [run_eql, hy]
  go_enter Tryz.func157, Tryz.ntmps157
  go_wp2
  go_ret
  exact ⟨rfl, by go_grown⟩

set_option maxHeartbeats 1000000 in
theorem same_impl (k1 n1 : Int) (t1 : ByteArray) (k2 n2 : Int) (t2 : ByteArray) (w : World) (ht1 : t1.size ≤ maxLen) (ht2 : t2.size ≤ maxLen) :
    Calls Tryz.prog 129 #[.agg #[.int .i64 k1, .int .i64 n1, .string t1], .agg #[.int .i64 k2, .int .i64 n2, .string t2]] w fun e w' => e = .returned (.tuple #[.agg #[.int .i64 (sameR k1 n1 t1 k2 n2 t2).1, .int .i64 (sameR k1 n1 t1 k2 n2 t2).2.1, .string ⟨#[]⟩], .int .i64 (sameR k1 n1 t1 k2 n2 t2).2.2]) ∧ Below w.heap.size w w' := by
  have H : Hid (∀ w, Calls Tryz.prog 156 #[.agg #[.int .i64 k1, .int .i64 n1, .string t1], .agg #[.int .i64 k2, .int .i64 n2, .string t2], .func (.func 157) #[] #[]] w fun e w' => e = .returned (.tuple #[.agg #[.int .i64 (sameR k1 n1 t1 k2 n2 t2).1, .int .i64 (sameR k1 n1 t1 k2 n2 t2).2.1, .string ⟨#[]⟩], .int .i64 (sameR k1 n1 t1 k2 n2 t2).2.2]) ∧ Below w.heap.size w w') :=
    fun w => ranked_impl 157 ent_same (sameB k1 n1 t1 k2 n2 t2) k1 n1 t1 k2 n2 t2 (fun w => same_one _ _ _ _ _ _ w) w ht1 ht2
  generalize sameR k1 n1 t1 k2 n2 t2 = R at H ⊢
  obtain ⟨rk, rn, rf⟩ := R
  go_enter Tryz.func129, Tryz.ntmps129
  go_wp2_with fail
  refine (H.out _).mono ?_
  rintro e w1 ⟨rfl, hb1⟩
  obtain ⟨_, _, ⟨p1, q1, r1, s2⟩, f0, f1, f2⟩ := three3 hb1
  have hx := chainA (chainAA hb1)
  have hxs := hx.size
  go_wp2
  exact bodyPost_ret (v := .tuple #[.agg #[.int .i64 rk, .int .i64 rn, .string ⟨#[]⟩], .int .i64 rf]) (by simp [results, Tryz.results129, go_sem, p1, q1, r1]) rfl ⟨rfl, by go_grown⟩

end Go.Proofs.YthgbjnchhaoceaaGreatDoor

/-
  The contracts of the program's aheadCell and pairCell.
-/
namespace Go.Proofs.YthgbjnchhaoceaaGreatDoor
open Go.ChangeShapes Go.WideShapes Go.ChangeAt Go.RowKit
attribute [local go_sem ↓] Go.wp_at_zero Go.wp_at_succ
attribute [local simp] World.cell?_alloc_past World.cell?_alloc_at World.frozen?_alloc_at cell_far cell_off cell_here World.frozen?_alloc_past

set_option maxHeartbeats 1000000 in
theorem ahead_impl (k : Int) (hk : k = 11 ∨ k = 12) (a : CK) (r : Int × Int × Int) (hr : oneR k a = r) (w : World) (ht : a.2.2.size ≤ maxLen) :
    Calls Tryz.prog 96 #[.int .i64 k, .agg #[.int .i64 a.1, .int .i64 a.2.1, .string a.2.2]] w fun e w' => e = .returned (.tuple #[.agg #[.int .i64 r.1, .int .i64 r.2.1, .string ⟨#[]⟩], .int .i64 r.2.2]) ∧ Below w.heap.size w w' := by
  subst hr
  obtain ⟨a1, a2, a3⟩ := a
  dsimp only at ht ⊢
  rcases hk with rfl | rfl
  · have hr : oneR 11 (a1, a2, a3) = notR a1 a2 a3 := rfl
    rw [hr]
    obtain ⟨x, y, z, hR⟩ : ∃ x y z, notR a1 a2 a3 = (x, y, z) := ⟨_, _, _, rfl⟩
    have h := fun w => not_impl a1 a2 a3 w ht
    rw [hR] at h ⊢
    have HC : Hid (∀ w, Calls Tryz.prog 133 #[.agg #[.int .i64 a1, .int .i64 a2, .string a3]] w fun e w' => e = .returned (.tuple #[.agg #[.int .i64 x, .int .i64 y, .string ⟨#[]⟩], .int .i64 z]) ∧ Below w.heap.size w w') := h
    clear h hR hr
    go_enter Tryz.func96, Tryz.ntmps96
    go_wp2_with fail
    refine (HC.out _).mono ?_
    rintro e w1 ⟨rfl, hb1⟩
    obtain ⟨⟨p0, p1, p2, p3⟩, ⟨q0, q1, q2, q3⟩, f0, f1, f2⟩ := two3 hb1
    have hx := chainAA hb1
    go_wp2
    exact bodyPost_ret (v := .tuple #[.agg #[.int .i64 x, .int .i64 y, .string ⟨#[]⟩], .int .i64 z]) (by simp [results, Tryz.results96, go_sem, q0, q1, q2]) rfl ⟨rfl, by go_grown⟩
  · have hr : oneR 12 (a1, a2, a3) = noneR a1 a2 a3 := rfl
    rw [hr]
    obtain ⟨x, y, z, hR⟩ : ∃ x y z, noneR a1 a2 a3 = (x, y, z) := ⟨_, _, _, rfl⟩
    have h := fun w => none_impl a1 a2 a3 w ht
    rw [hR] at h ⊢
    have HC : Hid (∀ w, Calls Tryz.prog 134 #[.agg #[.int .i64 a1, .int .i64 a2, .string a3]] w fun e w' => e = .returned (.tuple #[.agg #[.int .i64 x, .int .i64 y, .string ⟨#[]⟩], .int .i64 z]) ∧ Below w.heap.size w w') := h
    clear h hR hr
    go_enter Tryz.func96, Tryz.ntmps96
    go_wp2_with fail
    refine (HC.out _).mono ?_
    rintro e w1 ⟨rfl, hb1⟩
    obtain ⟨⟨p0, p1, p2, p3⟩, ⟨q0, q1, q2, q3⟩, f0, f1, f2⟩ := two3 hb1
    have hx := chainAA hb1
    go_wp2
    exact bodyPost_ret (v := .tuple #[.agg #[.int .i64 x, .int .i64 y, .string ⟨#[]⟩], .int .i64 z]) (by simp [results, Tryz.results96, go_sem, q0, q1, q2]) rfl ⟨rfl, by go_grown⟩
set_option maxRecDepth 100000 in
set_option maxHeartbeats 1000000 in
theorem pair_plus (a b : CK) (w : World) (hta : a.2.2.size ≤ maxLen) (htb : b.2.2.size ≤ maxLen) :
    Calls Tryz.prog 95 #[.int .i64 3, .agg #[.int .i64 a.1, .int .i64 a.2.1, .string a.2.2], .agg #[.int .i64 b.1, .int .i64 b.2.1, .string b.2.2]] w fun e w' => e = .returned (.tuple #[.agg #[.int .i64 (twoR 3 a b).1, .int .i64 (twoR 3 a b).2.1, .string ⟨#[]⟩], .int .i64 (twoR 3 a b).2.2]) ∧ Below w.heap.size w w' := by
  obtain ⟨a1, a2, a3⟩ := a
  obtain ⟨b1, b2, b3⟩ := b
  dsimp only at hta htb ⊢
  have hr : twoR 3 (a1, a2, a3) (b1, b2, b3) = resR addO a1 a2 a3 b1 b2 b3 := rfl
  rw [hr]
  obtain ⟨x, y, z, hR⟩ : ∃ x y z, resR addO a1 a2 a3 b1 b2 b3 = (x, y, z) := ⟨_, _, _, rfl⟩
  have h := fun w => plus_impl a1 a2 a3 b1 b2 b3 w hta htb
  rw [hR] at h ⊢
  have HC : Hid (∀ w, Calls Tryz.prog 125 #[.agg #[.int .i64 a1, .int .i64 a2, .string a3], .agg #[.int .i64 b1, .int .i64 b2, .string b3]] w fun e w' => e = .returned (.tuple #[.agg #[.int .i64 x, .int .i64 y, .string ⟨#[]⟩], .int .i64 z]) ∧ Below w.heap.size w w') := h
  clear h hR hr
  go_enter Tryz.func95, Tryz.ntmps95
  go_wp2_with fail
  refine (HC.out _).mono ?_
  rintro e w1 ⟨rfl, hb1⟩
  obtain ⟨⟨p0, p1, p2, p3⟩, ⟨q0, q1, q2, q3⟩, ⟨r0, r1, r2, r3⟩, f0, f1, f2⟩ := three3 hb1
  have hx := chainA (chainAA hb1)
  go_wp2
  exact bodyPost_ret (v := .tuple #[.agg #[.int .i64 x, .int .i64 y, .string ⟨#[]⟩], .int .i64 z]) (by simp [results, Tryz.results95, go_sem, r0, r1, r2]) rfl ⟨rfl, by go_grown⟩
set_option maxRecDepth 100000 in
set_option maxHeartbeats 1000000 in
theorem pair_less (a b : CK) (w : World) (hta : a.2.2.size ≤ maxLen) (htb : b.2.2.size ≤ maxLen) :
    Calls Tryz.prog 95 #[.int .i64 4, .agg #[.int .i64 a.1, .int .i64 a.2.1, .string a.2.2], .agg #[.int .i64 b.1, .int .i64 b.2.1, .string b.2.2]] w fun e w' => e = .returned (.tuple #[.agg #[.int .i64 (twoR 4 a b).1, .int .i64 (twoR 4 a b).2.1, .string ⟨#[]⟩], .int .i64 (twoR 4 a b).2.2]) ∧ Below w.heap.size w w' := by
  obtain ⟨a1, a2, a3⟩ := a
  obtain ⟨b1, b2, b3⟩ := b
  dsimp only at hta htb ⊢
  have hr : twoR 4 (a1, a2, a3) (b1, b2, b3) = resR subO a1 a2 a3 b1 b2 b3 := rfl
  rw [hr]
  obtain ⟨x, y, z, hR⟩ : ∃ x y z, resR subO a1 a2 a3 b1 b2 b3 = (x, y, z) := ⟨_, _, _, rfl⟩
  have h := fun w => less_impl a1 a2 a3 b1 b2 b3 w hta htb
  rw [hR] at h ⊢
  have HC : Hid (∀ w, Calls Tryz.prog 126 #[.agg #[.int .i64 a1, .int .i64 a2, .string a3], .agg #[.int .i64 b1, .int .i64 b2, .string b3]] w fun e w' => e = .returned (.tuple #[.agg #[.int .i64 x, .int .i64 y, .string ⟨#[]⟩], .int .i64 z]) ∧ Below w.heap.size w w') := h
  clear h hR hr
  go_enter Tryz.func95, Tryz.ntmps95
  go_wp2_with fail
  refine (HC.out _).mono ?_
  rintro e w1 ⟨rfl, hb1⟩
  obtain ⟨⟨p0, p1, p2, p3⟩, ⟨q0, q1, q2, q3⟩, ⟨r0, r1, r2, r3⟩, f0, f1, f2⟩ := three3 hb1
  have hx := chainA (chainAA hb1)
  go_wp2
  exact bodyPost_ret (v := .tuple #[.agg #[.int .i64 x, .int .i64 y, .string ⟨#[]⟩], .int .i64 z]) (by simp [results, Tryz.results95, go_sem, r0, r1, r2]) rfl ⟨rfl, by go_grown⟩
set_option maxRecDepth 100000 in
set_option maxHeartbeats 1000000 in
theorem pair_times (a b : CK) (w : World) (hta : a.2.2.size ≤ maxLen) (htb : b.2.2.size ≤ maxLen) :
    Calls Tryz.prog 95 #[.int .i64 5, .agg #[.int .i64 a.1, .int .i64 a.2.1, .string a.2.2], .agg #[.int .i64 b.1, .int .i64 b.2.1, .string b.2.2]] w fun e w' => e = .returned (.tuple #[.agg #[.int .i64 (twoR 5 a b).1, .int .i64 (twoR 5 a b).2.1, .string ⟨#[]⟩], .int .i64 (twoR 5 a b).2.2]) ∧ Below w.heap.size w w' := by
  obtain ⟨a1, a2, a3⟩ := a
  obtain ⟨b1, b2, b3⟩ := b
  dsimp only at hta htb ⊢
  have hr : twoR 5 (a1, a2, a3) (b1, b2, b3) = resR mulO a1 a2 a3 b1 b2 b3 := rfl
  rw [hr]
  obtain ⟨x, y, z, hR⟩ : ∃ x y z, resR mulO a1 a2 a3 b1 b2 b3 = (x, y, z) := ⟨_, _, _, rfl⟩
  have h := fun w => times_impl a1 a2 a3 b1 b2 b3 w hta htb
  rw [hR] at h ⊢
  have HC : Hid (∀ w, Calls Tryz.prog 127 #[.agg #[.int .i64 a1, .int .i64 a2, .string a3], .agg #[.int .i64 b1, .int .i64 b2, .string b3]] w fun e w' => e = .returned (.tuple #[.agg #[.int .i64 x, .int .i64 y, .string ⟨#[]⟩], .int .i64 z]) ∧ Below w.heap.size w w') := h
  clear h hR hr
  go_enter Tryz.func95, Tryz.ntmps95
  go_wp2_with fail
  refine (HC.out _).mono ?_
  rintro e w1 ⟨rfl, hb1⟩
  obtain ⟨⟨p0, p1, p2, p3⟩, ⟨q0, q1, q2, q3⟩, ⟨r0, r1, r2, r3⟩, f0, f1, f2⟩ := three3 hb1
  have hx := chainA (chainAA hb1)
  go_wp2
  exact bodyPost_ret (v := .tuple #[.agg #[.int .i64 x, .int .i64 y, .string ⟨#[]⟩], .int .i64 z]) (by simp [results, Tryz.results95, go_sem, r0, r1, r2]) rfl ⟨rfl, by go_grown⟩
set_option maxRecDepth 100000 in
set_option maxHeartbeats 1000000 in
theorem pair_by (a b : CK) (w : World) (hta : a.2.2.size ≤ maxLen) (htb : b.2.2.size ≤ maxLen) :
    Calls Tryz.prog 95 #[.int .i64 6, .agg #[.int .i64 a.1, .int .i64 a.2.1, .string a.2.2], .agg #[.int .i64 b.1, .int .i64 b.2.1, .string b.2.2]] w fun e w' => e = .returned (.tuple #[.agg #[.int .i64 (twoR 6 a b).1, .int .i64 (twoR 6 a b).2.1, .string ⟨#[]⟩], .int .i64 (twoR 6 a b).2.2]) ∧ Below w.heap.size w w' := by
  obtain ⟨a1, a2, a3⟩ := a
  obtain ⟨b1, b2, b3⟩ := b
  dsimp only at hta htb ⊢
  have hr : twoR 6 (a1, a2, a3) (b1, b2, b3) = resR divO a1 a2 a3 b1 b2 b3 := rfl
  rw [hr]
  obtain ⟨x, y, z, hR⟩ : ∃ x y z, resR divO a1 a2 a3 b1 b2 b3 = (x, y, z) := ⟨_, _, _, rfl⟩
  have h := fun w => by_impl a1 a2 a3 b1 b2 b3 w hta htb
  rw [hR] at h ⊢
  have HC : Hid (∀ w, Calls Tryz.prog 128 #[.agg #[.int .i64 a1, .int .i64 a2, .string a3], .agg #[.int .i64 b1, .int .i64 b2, .string b3]] w fun e w' => e = .returned (.tuple #[.agg #[.int .i64 x, .int .i64 y, .string ⟨#[]⟩], .int .i64 z]) ∧ Below w.heap.size w w') := h
  clear h hR hr
  go_enter Tryz.func95, Tryz.ntmps95
  go_wp2_with fail
  refine (HC.out _).mono ?_
  rintro e w1 ⟨rfl, hb1⟩
  obtain ⟨⟨p0, p1, p2, p3⟩, ⟨q0, q1, q2, q3⟩, ⟨r0, r1, r2, r3⟩, f0, f1, f2⟩ := three3 hb1
  have hx := chainA (chainAA hb1)
  go_wp2
  exact bodyPost_ret (v := .tuple #[.agg #[.int .i64 x, .int .i64 y, .string ⟨#[]⟩], .int .i64 z]) (by simp [results, Tryz.results95, go_sem, r0, r1, r2]) rfl ⟨rfl, by go_grown⟩
set_option maxRecDepth 100000 in
set_option maxHeartbeats 1000000 in
theorem pair_same (a b : CK) (w : World) (hta : a.2.2.size ≤ maxLen) (htb : b.2.2.size ≤ maxLen) :
    Calls Tryz.prog 95 #[.int .i64 7, .agg #[.int .i64 a.1, .int .i64 a.2.1, .string a.2.2], .agg #[.int .i64 b.1, .int .i64 b.2.1, .string b.2.2]] w fun e w' => e = .returned (.tuple #[.agg #[.int .i64 (twoR 7 a b).1, .int .i64 (twoR 7 a b).2.1, .string ⟨#[]⟩], .int .i64 (twoR 7 a b).2.2]) ∧ Below w.heap.size w w' := by
  obtain ⟨a1, a2, a3⟩ := a
  obtain ⟨b1, b2, b3⟩ := b
  dsimp only at hta htb ⊢
  have hr : twoR 7 (a1, a2, a3) (b1, b2, b3) = sameR a1 a2 a3 b1 b2 b3 := rfl
  rw [hr]
  obtain ⟨x, y, z, hR⟩ : ∃ x y z, sameR a1 a2 a3 b1 b2 b3 = (x, y, z) := ⟨_, _, _, rfl⟩
  have h := fun w => same_impl a1 a2 a3 b1 b2 b3 w hta htb
  rw [hR] at h ⊢
  have HC : Hid (∀ w, Calls Tryz.prog 129 #[.agg #[.int .i64 a1, .int .i64 a2, .string a3], .agg #[.int .i64 b1, .int .i64 b2, .string b3]] w fun e w' => e = .returned (.tuple #[.agg #[.int .i64 x, .int .i64 y, .string ⟨#[]⟩], .int .i64 z]) ∧ Below w.heap.size w w') := h
  clear h hR hr
  go_enter Tryz.func95, Tryz.ntmps95
  go_wp2_with fail
  refine (HC.out _).mono ?_
  rintro e w1 ⟨rfl, hb1⟩
  obtain ⟨⟨p0, p1, p2, p3⟩, ⟨q0, q1, q2, q3⟩, ⟨r0, r1, r2, r3⟩, f0, f1, f2⟩ := three3 hb1
  have hx := chainA (chainAA hb1)
  go_wp2
  exact bodyPost_ret (v := .tuple #[.agg #[.int .i64 x, .int .i64 y, .string ⟨#[]⟩], .int .i64 z]) (by simp [results, Tryz.results95, go_sem, r0, r1, r2]) rfl ⟨rfl, by go_grown⟩
set_option maxRecDepth 100000 in
set_option maxHeartbeats 1000000 in
theorem pair_below (a b : CK) (w : World) (hta : a.2.2.size ≤ maxLen) (htb : b.2.2.size ≤ maxLen) :
    Calls Tryz.prog 95 #[.int .i64 8, .agg #[.int .i64 a.1, .int .i64 a.2.1, .string a.2.2], .agg #[.int .i64 b.1, .int .i64 b.2.1, .string b.2.2]] w fun e w' => e = .returned (.tuple #[.agg #[.int .i64 (twoR 8 a b).1, .int .i64 (twoR 8 a b).2.1, .string ⟨#[]⟩], .int .i64 (twoR 8 a b).2.2]) ∧ Below w.heap.size w w' := by
  obtain ⟨a1, a2, a3⟩ := a
  obtain ⟨b1, b2, b3⟩ := b
  dsimp only at hta htb ⊢
  have hr : twoR 8 (a1, a2, a3) (b1, b2, b3) = belowR a1 a2 a3 b1 b2 b3 := rfl
  rw [hr]
  obtain ⟨x, y, z, hR⟩ : ∃ x y z, belowR a1 a2 a3 b1 b2 b3 = (x, y, z) := ⟨_, _, _, rfl⟩
  have h := fun w => below_impl a1 a2 a3 b1 b2 b3 w hta htb
  rw [hR] at h ⊢
  have HC : Hid (∀ w, Calls Tryz.prog 130 #[.agg #[.int .i64 a1, .int .i64 a2, .string a3], .agg #[.int .i64 b1, .int .i64 b2, .string b3]] w fun e w' => e = .returned (.tuple #[.agg #[.int .i64 x, .int .i64 y, .string ⟨#[]⟩], .int .i64 z]) ∧ Below w.heap.size w w') := h
  clear h hR hr
  go_enter Tryz.func95, Tryz.ntmps95
  go_wp2_with fail
  refine (HC.out _).mono ?_
  rintro e w1 ⟨rfl, hb1⟩
  obtain ⟨⟨p0, p1, p2, p3⟩, ⟨q0, q1, q2, q3⟩, ⟨r0, r1, r2, r3⟩, f0, f1, f2⟩ := three3 hb1
  have hx := chainA (chainAA hb1)
  go_wp2
  exact bodyPost_ret (v := .tuple #[.agg #[.int .i64 x, .int .i64 y, .string ⟨#[]⟩], .int .i64 z]) (by simp [results, Tryz.results95, go_sem, r0, r1, r2]) rfl ⟨rfl, by go_grown⟩
set_option maxRecDepth 100000 in
set_option maxHeartbeats 1000000 in
theorem pair_both (a b : CK) (w : World) (hta : a.2.2.size ≤ maxLen) (htb : b.2.2.size ≤ maxLen) :
    Calls Tryz.prog 95 #[.int .i64 9, .agg #[.int .i64 a.1, .int .i64 a.2.1, .string a.2.2], .agg #[.int .i64 b.1, .int .i64 b.2.1, .string b.2.2]] w fun e w' => e = .returned (.tuple #[.agg #[.int .i64 (twoR 9 a b).1, .int .i64 (twoR 9 a b).2.1, .string ⟨#[]⟩], .int .i64 (twoR 9 a b).2.2]) ∧ Below w.heap.size w w' := by
  obtain ⟨a1, a2, a3⟩ := a
  obtain ⟨b1, b2, b3⟩ := b
  dsimp only at hta htb ⊢
  have hr : twoR 9 (a1, a2, a3) (b1, b2, b3) = bothR a1 a2 a3 b1 b2 b3 := rfl
  rw [hr]
  obtain ⟨x, y, z, hR⟩ : ∃ x y z, bothR a1 a2 a3 b1 b2 b3 = (x, y, z) := ⟨_, _, _, rfl⟩
  have h := fun w => both_impl a1 a2 a3 b1 b2 b3 w hta htb
  rw [hR] at h ⊢
  have HC : Hid (∀ w, Calls Tryz.prog 131 #[.agg #[.int .i64 a1, .int .i64 a2, .string a3], .agg #[.int .i64 b1, .int .i64 b2, .string b3]] w fun e w' => e = .returned (.tuple #[.agg #[.int .i64 x, .int .i64 y, .string ⟨#[]⟩], .int .i64 z]) ∧ Below w.heap.size w w') := h
  clear h hR hr
  go_enter Tryz.func95, Tryz.ntmps95
  go_wp2_with fail
  refine (HC.out _).mono ?_
  rintro e w1 ⟨rfl, hb1⟩
  obtain ⟨⟨p0, p1, p2, p3⟩, ⟨q0, q1, q2, q3⟩, ⟨r0, r1, r2, r3⟩, f0, f1, f2⟩ := three3 hb1
  have hx := chainA (chainAA hb1)
  go_wp2
  exact bodyPost_ret (v := .tuple #[.agg #[.int .i64 x, .int .i64 y, .string ⟨#[]⟩], .int .i64 z]) (by simp [results, Tryz.results95, go_sem, r0, r1, r2]) rfl ⟨rfl, by go_grown⟩
set_option maxRecDepth 100000 in
set_option maxHeartbeats 1000000 in
theorem pair_either (a b : CK) (w : World) (hta : a.2.2.size ≤ maxLen) (htb : b.2.2.size ≤ maxLen) :
    Calls Tryz.prog 95 #[.int .i64 10, .agg #[.int .i64 a.1, .int .i64 a.2.1, .string a.2.2], .agg #[.int .i64 b.1, .int .i64 b.2.1, .string b.2.2]] w fun e w' => e = .returned (.tuple #[.agg #[.int .i64 (twoR 10 a b).1, .int .i64 (twoR 10 a b).2.1, .string ⟨#[]⟩], .int .i64 (twoR 10 a b).2.2]) ∧ Below w.heap.size w w' := by
  obtain ⟨a1, a2, a3⟩ := a
  obtain ⟨b1, b2, b3⟩ := b
  dsimp only at hta htb ⊢
  have hr : twoR 10 (a1, a2, a3) (b1, b2, b3) = eitherR a1 a2 a3 b1 b2 b3 := rfl
  rw [hr]
  obtain ⟨x, y, z, hR⟩ : ∃ x y z, eitherR a1 a2 a3 b1 b2 b3 = (x, y, z) := ⟨_, _, _, rfl⟩
  have h := fun w => either_impl a1 a2 a3 b1 b2 b3 w hta htb
  rw [hR] at h ⊢
  have HC : Hid (∀ w, Calls Tryz.prog 132 #[.agg #[.int .i64 a1, .int .i64 a2, .string a3], .agg #[.int .i64 b1, .int .i64 b2, .string b3]] w fun e w' => e = .returned (.tuple #[.agg #[.int .i64 x, .int .i64 y, .string ⟨#[]⟩], .int .i64 z]) ∧ Below w.heap.size w w') := h
  clear h hR hr
  go_enter Tryz.func95, Tryz.ntmps95
  go_wp2_with fail
  refine (HC.out _).mono ?_
  rintro e w1 ⟨rfl, hb1⟩
  obtain ⟨⟨p0, p1, p2, p3⟩, ⟨q0, q1, q2, q3⟩, ⟨r0, r1, r2, r3⟩, f0, f1, f2⟩ := three3 hb1
  have hx := chainA (chainAA hb1)
  go_wp2
  exact bodyPost_ret (v := .tuple #[.agg #[.int .i64 x, .int .i64 y, .string ⟨#[]⟩], .int .i64 z]) (by simp [results, Tryz.results95, go_sem, r0, r1, r2]) rfl ⟨rfl, by go_grown⟩
theorem pair_impl (k : Int) (hk : 3 ≤ k ∧ k ≤ 10) (a b : CK) (r : Int × Int × Int) (hr : twoR k a b = r) (w : World) (hta : a.2.2.size ≤ maxLen) (htb : b.2.2.size ≤ maxLen) :
    Calls Tryz.prog 95 #[.int .i64 k, .agg #[.int .i64 a.1, .int .i64 a.2.1, .string a.2.2], .agg #[.int .i64 b.1, .int .i64 b.2.1, .string b.2.2]] w fun e w' => e = .returned (.tuple #[.agg #[.int .i64 r.1, .int .i64 r.2.1, .string ⟨#[]⟩], .int .i64 r.2.2]) ∧ Below w.heap.size w w' := by
  subst hr
  have : k = 3 ∨ k = 4 ∨ k = 5 ∨ k = 6 ∨ k = 7 ∨ k = 8 ∨ k = 9 ∨ k = 10 := by omega
  rcases this with rfl | rfl | rfl | rfl | rfl | rfl | rfl | rfl
  · exact pair_plus a b w hta htb
  · exact pair_less a b w hta htb
  · exact pair_times a b w hta htb
  · exact pair_by a b w hta htb
  · exact pair_same a b w hta htb
  · exact pair_below a b w hta htb
  · exact pair_both a b w hta htb
  · exact pair_either a b w hta htb
end Go.Proofs.YthgbjnchhaoceaaGreatDoor

/-
  The contracts of the model's Plus, Less, Times and By.
-/
namespace Go.Proofs.YthgbjnchhaoceaaGreatDoor
open Go.ChangeShapes Go.WideShapes Go.ChangeAt Go.RowKit

set_option maxHeartbeats 400000 in
theorem plus_spec_a (k1 n1 : Int) (t1 : ByteArray) (k2 n2 : Int) (t2 : ByteArray) (w : World) (ht1 : t1.size ≤ maxLen) (ht2 : t2.size ≤ maxLen) (hf : (rightB k1 n1 t1 && rightB k2 n2 t2) = false) :
    Calls Tryz.prog 101 #[.agg #[.int .i64 k1, .int .i64 n1, .string t1], .agg #[.int .i64 k2, .int .i64 n2, .string t2]] w fun e w' => e = .returned (.tuple #[.agg #[.int .i64 (resR addO k1 n1 t1 k2 n2 t2).1, .int .i64 (resR addO k1 n1 t1 k2 n2 t2).2.1, .string ⟨#[]⟩], .int .i64 (resR addO k1 n1 t1 k2 n2 t2).2.2]) ∧ Below w.heap.size w w' := by
  rw [show resR addO k1 n1 t1 k2 n2 t2 = (0, 0, 3) from by simp [resR, opR, hf]]
  go_enter Tryz.func101, Tryz.ntmps101
  go_wp2_with fail
  refine (sums_spec k1 n1 t1 k2 n2 t2 false false (by simp [hf]) (by simp) _ ht1 ht2).mono ?_
  rintro e w1 ⟨rfl, hb1⟩
  obtain ⟨⟨a1, b1, c1, d1⟩, ⟨x1, y1, z1, s1⟩, ⟨p1, q1, r1, s2⟩, ff⟩ := three3 hb1
  obtain ⟨f0, f1, f2⟩ := ff
  have hx := chainA (chainAA hb1)
  go_wp2
  exact bodyPost_ret (v := .tuple #[.agg #[.int .i64 0, .int .i64 0, .string ⟨#[]⟩], .int .i64 3]) (by simp [results, Tryz.results101, go_sem, p1, q1, r1]) rfl ⟨rfl, by go_grown⟩

set_option maxHeartbeats 400000 in
theorem plus_spec_b (k1 n1 : Int) (t1 : ByteArray) (k2 n2 : Int) (t2 : ByteArray) (w : World) (ht1 : t1.size ≤ maxLen) (ht2 : t2.size ≤ maxLen) (hf : (rightB k1 n1 t1 && rightB k2 n2 t2) = true) (hz : (k1 == 0 || k2 == 0) = true) :
    Calls Tryz.prog 101 #[.agg #[.int .i64 k1, .int .i64 n1, .string t1], .agg #[.int .i64 k2, .int .i64 n2, .string t2]] w fun e w' => e = .returned (.tuple #[.agg #[.int .i64 (resR addO k1 n1 t1 k2 n2 t2).1, .int .i64 (resR addO k1 n1 t1 k2 n2 t2).2.1, .string ⟨#[]⟩], .int .i64 (resR addO k1 n1 t1 k2 n2 t2).2.2]) ∧ Below w.heap.size w w' := by
  rw [show resR addO k1 n1 t1 k2 n2 t2 = (0, 0, 0) from by simp [resR, opR, hf, right_known k1 n1 t1 k2 n2 t2 hf, hz]]
  go_enter Tryz.func101, Tryz.ntmps101
  go_wp2_with fail
  refine (sums_spec k1 n1 t1 k2 n2 t2 true true (by simp [hf]) (by simp [hz]) _ ht1 ht2).mono ?_
  rintro e w1 ⟨rfl, hb1⟩
  obtain ⟨⟨a1, b1, c1, d1⟩, ⟨x1, y1, z1, s1⟩, ⟨p1, q1, r1, s2⟩, ff⟩ := three3 hb1
  obtain ⟨f0, f1, f2⟩ := ff
  have hx := chainA (chainAA hb1)
  go_wp2
  exact bodyPost_ret (v := .tuple #[.agg #[.int .i64 0, .int .i64 0, .string ⟨#[]⟩], .int .i64 0]) (by simp [results, Tryz.results101, go_sem, p1, q1, r1]) rfl ⟨rfl, by go_grown⟩

set_option maxHeartbeats 400000 in
theorem plus_spec_y (k1 n1 : Int) (t1 : ByteArray) (k2 n2 : Int) (t2 : ByteArray) (w : World) (ht1 : t1.size ≤ maxLen) (ht2 : t2.size ≤ maxLen) (hf : (rightB k1 n1 t1 && rightB k2 n2 t2) = true) (hz : (k1 == 0 || k2 == 0) = false) (hb : numB (wrap64 (n1 + n2)) = true) :
    Calls Tryz.prog 101 #[.agg #[.int .i64 k1, .int .i64 n1, .string t1], .agg #[.int .i64 k2, .int .i64 n2, .string t2]] w fun e w' => e = .returned (.tuple #[.agg #[.int .i64 (resR addO k1 n1 t1 k2 n2 t2).1, .int .i64 (resR addO k1 n1 t1 k2 n2 t2).2.1, .string ⟨#[]⟩], .int .i64 (resR addO k1 n1 t1 k2 n2 t2).2.2]) ∧ Below w.heap.size w w' := by
  rw [show resR addO k1 n1 t1 k2 n2 t2 = (1, wrap64 (n1 + n2), 0) from by simp [resR, opR, hf, right_known k1 n1 t1 k2 n2 t2 hf, hz, addO, hb]]
  go_enter Tryz.func101, Tryz.ntmps101
  go_wp2_with fail
  refine (sums_spec k1 n1 t1 k2 n2 t2 true false (by simp [hf]) (by simp [hz]) _ ht1 ht2).mono ?_
  rintro e w1 ⟨rfl, hb1⟩
  obtain ⟨⟨a1, b1, c1, d1⟩, ⟨x1, y1, z1, s1⟩, ⟨p1, q1, r1, s2⟩, ff⟩ := three3 hb1
  go_wp2_with fail
  refine (cell_spec_yes _ hb _).mono ?_
  rintro e w2 ⟨rfl, hb2⟩
  obtain ⟨f0, f1, f2⟩ := frozen3 hb2 s2 ff
  obtain ⟨p2, q2, r2, s3⟩ := later3 hb2 ⟨p1, q1, r1, s2⟩
  have hx := chain (chainA (chainAA hb1)) hb2
  go_wp2
  exact bodyPost_ret (v := .tuple #[.agg #[.int .i64 1, .int .i64 (wrap64 (n1 + n2)), .string ⟨#[]⟩], .int .i64 0]) (by simp [results, Tryz.results101, go_sem, p2, q2, r2]) rfl ⟨rfl, by go_grown⟩

set_option maxHeartbeats 400000 in
theorem plus_spec_n (k1 n1 : Int) (t1 : ByteArray) (k2 n2 : Int) (t2 : ByteArray) (w : World) (ht1 : t1.size ≤ maxLen) (ht2 : t2.size ≤ maxLen) (hf : (rightB k1 n1 t1 && rightB k2 n2 t2) = true) (hz : (k1 == 0 || k2 == 0) = false) (hb : numB (wrap64 (n1 + n2)) = false) :
    Calls Tryz.prog 101 #[.agg #[.int .i64 k1, .int .i64 n1, .string t1], .agg #[.int .i64 k2, .int .i64 n2, .string t2]] w fun e w' => e = .returned (.tuple #[.agg #[.int .i64 (resR addO k1 n1 t1 k2 n2 t2).1, .int .i64 (resR addO k1 n1 t1 k2 n2 t2).2.1, .string ⟨#[]⟩], .int .i64 (resR addO k1 n1 t1 k2 n2 t2).2.2]) ∧ Below w.heap.size w w' := by
  rw [show resR addO k1 n1 t1 k2 n2 t2 = (0, 0, 1) from by simp [resR, opR, hf, right_known k1 n1 t1 k2 n2 t2 hf, hz, addO, hb]]
  go_enter Tryz.func101, Tryz.ntmps101
  go_wp2_with fail
  refine (sums_spec k1 n1 t1 k2 n2 t2 true false (by simp [hf]) (by simp [hz]) _ ht1 ht2).mono ?_
  rintro e w1 ⟨rfl, hb1⟩
  obtain ⟨⟨a1, b1, c1, d1⟩, ⟨x1, y1, z1, s1⟩, ⟨p1, q1, r1, s2⟩, ff⟩ := three3 hb1
  go_wp2_with fail
  refine (cell_spec_no _ hb _).mono ?_
  rintro e w2 ⟨rfl, hb2⟩
  obtain ⟨f0, f1, f2⟩ := frozen3 hb2 s2 ff
  obtain ⟨p2, q2, r2, s3⟩ := later3 hb2 ⟨p1, q1, r1, s2⟩
  have hx := chain (chainA (chainAA hb1)) hb2
  go_wp2
  exact bodyPost_ret (v := .tuple #[.agg #[.int .i64 0, .int .i64 0, .string ⟨#[]⟩], .int .i64 1]) (by simp [results, Tryz.results101, go_sem, p2, q2, r2]) rfl ⟨rfl, by go_grown⟩

theorem plus_spec (k1 n1 : Int) (t1 : ByteArray) (k2 n2 : Int) (t2 : ByteArray) (w : World) (ht1 : t1.size ≤ maxLen) (ht2 : t2.size ≤ maxLen) :
    Calls Tryz.prog 101 #[.agg #[.int .i64 k1, .int .i64 n1, .string t1], .agg #[.int .i64 k2, .int .i64 n2, .string t2]] w fun e w' => e = .returned (.tuple #[.agg #[.int .i64 (resR addO k1 n1 t1 k2 n2 t2).1, .int .i64 (resR addO k1 n1 t1 k2 n2 t2).2.1, .string ⟨#[]⟩], .int .i64 (resR addO k1 n1 t1 k2 n2 t2).2.2]) ∧ Below w.heap.size w w' := by
  cases hf : (rightB k1 n1 t1 && rightB k2 n2 t2)
  · exact plus_spec_a k1 n1 t1 k2 n2 t2 w ht1 ht2 hf
  cases hz : (k1 == 0 || k2 == 0)
  · cases hb : numB (wrap64 (n1 + n2))
    · exact plus_spec_n k1 n1 t1 k2 n2 t2 w ht1 ht2 hf hz hb
    · exact plus_spec_y k1 n1 t1 k2 n2 t2 w ht1 ht2 hf hz hb
  · exact plus_spec_b k1 n1 t1 k2 n2 t2 w ht1 ht2 hf hz

set_option maxHeartbeats 400000 in
theorem less_spec_a (k1 n1 : Int) (t1 : ByteArray) (k2 n2 : Int) (t2 : ByteArray) (w : World) (ht1 : t1.size ≤ maxLen) (ht2 : t2.size ≤ maxLen) (hf : (rightB k1 n1 t1 && rightB k2 n2 t2) = false) :
    Calls Tryz.prog 102 #[.agg #[.int .i64 k1, .int .i64 n1, .string t1], .agg #[.int .i64 k2, .int .i64 n2, .string t2]] w fun e w' => e = .returned (.tuple #[.agg #[.int .i64 (resR subO k1 n1 t1 k2 n2 t2).1, .int .i64 (resR subO k1 n1 t1 k2 n2 t2).2.1, .string ⟨#[]⟩], .int .i64 (resR subO k1 n1 t1 k2 n2 t2).2.2]) ∧ Below w.heap.size w w' := by
  rw [show resR subO k1 n1 t1 k2 n2 t2 = (0, 0, 3) from by simp [resR, opR, hf]]
  go_enter Tryz.func102, Tryz.ntmps102
  go_wp2_with fail
  refine (sums_spec k1 n1 t1 k2 n2 t2 false false (by simp [hf]) (by simp) _ ht1 ht2).mono ?_
  rintro e w1 ⟨rfl, hb1⟩
  obtain ⟨⟨a1, b1, c1, d1⟩, ⟨x1, y1, z1, s1⟩, ⟨p1, q1, r1, s2⟩, ff⟩ := three3 hb1
  obtain ⟨f0, f1, f2⟩ := ff
  have hx := chainA (chainAA hb1)
  go_wp2
  exact bodyPost_ret (v := .tuple #[.agg #[.int .i64 0, .int .i64 0, .string ⟨#[]⟩], .int .i64 3]) (by simp [results, Tryz.results102, go_sem, p1, q1, r1]) rfl ⟨rfl, by go_grown⟩

set_option maxHeartbeats 400000 in
theorem less_spec_b (k1 n1 : Int) (t1 : ByteArray) (k2 n2 : Int) (t2 : ByteArray) (w : World) (ht1 : t1.size ≤ maxLen) (ht2 : t2.size ≤ maxLen) (hf : (rightB k1 n1 t1 && rightB k2 n2 t2) = true) (hz : (k1 == 0 || k2 == 0) = true) :
    Calls Tryz.prog 102 #[.agg #[.int .i64 k1, .int .i64 n1, .string t1], .agg #[.int .i64 k2, .int .i64 n2, .string t2]] w fun e w' => e = .returned (.tuple #[.agg #[.int .i64 (resR subO k1 n1 t1 k2 n2 t2).1, .int .i64 (resR subO k1 n1 t1 k2 n2 t2).2.1, .string ⟨#[]⟩], .int .i64 (resR subO k1 n1 t1 k2 n2 t2).2.2]) ∧ Below w.heap.size w w' := by
  rw [show resR subO k1 n1 t1 k2 n2 t2 = (0, 0, 0) from by simp [resR, opR, hf, right_known k1 n1 t1 k2 n2 t2 hf, hz]]
  go_enter Tryz.func102, Tryz.ntmps102
  go_wp2_with fail
  refine (sums_spec k1 n1 t1 k2 n2 t2 true true (by simp [hf]) (by simp [hz]) _ ht1 ht2).mono ?_
  rintro e w1 ⟨rfl, hb1⟩
  obtain ⟨⟨a1, b1, c1, d1⟩, ⟨x1, y1, z1, s1⟩, ⟨p1, q1, r1, s2⟩, ff⟩ := three3 hb1
  obtain ⟨f0, f1, f2⟩ := ff
  have hx := chainA (chainAA hb1)
  go_wp2
  exact bodyPost_ret (v := .tuple #[.agg #[.int .i64 0, .int .i64 0, .string ⟨#[]⟩], .int .i64 0]) (by simp [results, Tryz.results102, go_sem, p1, q1, r1]) rfl ⟨rfl, by go_grown⟩

set_option maxHeartbeats 400000 in
theorem less_spec_y (k1 n1 : Int) (t1 : ByteArray) (k2 n2 : Int) (t2 : ByteArray) (w : World) (ht1 : t1.size ≤ maxLen) (ht2 : t2.size ≤ maxLen) (hf : (rightB k1 n1 t1 && rightB k2 n2 t2) = true) (hz : (k1 == 0 || k2 == 0) = false) (hb : numB (wrap64 (n1 - n2)) = true) :
    Calls Tryz.prog 102 #[.agg #[.int .i64 k1, .int .i64 n1, .string t1], .agg #[.int .i64 k2, .int .i64 n2, .string t2]] w fun e w' => e = .returned (.tuple #[.agg #[.int .i64 (resR subO k1 n1 t1 k2 n2 t2).1, .int .i64 (resR subO k1 n1 t1 k2 n2 t2).2.1, .string ⟨#[]⟩], .int .i64 (resR subO k1 n1 t1 k2 n2 t2).2.2]) ∧ Below w.heap.size w w' := by
  rw [show resR subO k1 n1 t1 k2 n2 t2 = (1, wrap64 (n1 - n2), 0) from by simp [resR, opR, hf, right_known k1 n1 t1 k2 n2 t2 hf, hz, subO, hb]]
  go_enter Tryz.func102, Tryz.ntmps102
  go_wp2_with fail
  refine (sums_spec k1 n1 t1 k2 n2 t2 true false (by simp [hf]) (by simp [hz]) _ ht1 ht2).mono ?_
  rintro e w1 ⟨rfl, hb1⟩
  obtain ⟨⟨a1, b1, c1, d1⟩, ⟨x1, y1, z1, s1⟩, ⟨p1, q1, r1, s2⟩, ff⟩ := three3 hb1
  go_wp2_with fail
  refine (cell_spec_yes _ hb _).mono ?_
  rintro e w2 ⟨rfl, hb2⟩
  obtain ⟨f0, f1, f2⟩ := frozen3 hb2 s2 ff
  obtain ⟨p2, q2, r2, s3⟩ := later3 hb2 ⟨p1, q1, r1, s2⟩
  have hx := chain (chainA (chainAA hb1)) hb2
  go_wp2
  exact bodyPost_ret (v := .tuple #[.agg #[.int .i64 1, .int .i64 (wrap64 (n1 - n2)), .string ⟨#[]⟩], .int .i64 0]) (by simp [results, Tryz.results102, go_sem, p2, q2, r2]) rfl ⟨rfl, by go_grown⟩

set_option maxHeartbeats 400000 in
theorem less_spec_n (k1 n1 : Int) (t1 : ByteArray) (k2 n2 : Int) (t2 : ByteArray) (w : World) (ht1 : t1.size ≤ maxLen) (ht2 : t2.size ≤ maxLen) (hf : (rightB k1 n1 t1 && rightB k2 n2 t2) = true) (hz : (k1 == 0 || k2 == 0) = false) (hb : numB (wrap64 (n1 - n2)) = false) :
    Calls Tryz.prog 102 #[.agg #[.int .i64 k1, .int .i64 n1, .string t1], .agg #[.int .i64 k2, .int .i64 n2, .string t2]] w fun e w' => e = .returned (.tuple #[.agg #[.int .i64 (resR subO k1 n1 t1 k2 n2 t2).1, .int .i64 (resR subO k1 n1 t1 k2 n2 t2).2.1, .string ⟨#[]⟩], .int .i64 (resR subO k1 n1 t1 k2 n2 t2).2.2]) ∧ Below w.heap.size w w' := by
  rw [show resR subO k1 n1 t1 k2 n2 t2 = (0, 0, 1) from by simp [resR, opR, hf, right_known k1 n1 t1 k2 n2 t2 hf, hz, subO, hb]]
  go_enter Tryz.func102, Tryz.ntmps102
  go_wp2_with fail
  refine (sums_spec k1 n1 t1 k2 n2 t2 true false (by simp [hf]) (by simp [hz]) _ ht1 ht2).mono ?_
  rintro e w1 ⟨rfl, hb1⟩
  obtain ⟨⟨a1, b1, c1, d1⟩, ⟨x1, y1, z1, s1⟩, ⟨p1, q1, r1, s2⟩, ff⟩ := three3 hb1
  go_wp2_with fail
  refine (cell_spec_no _ hb _).mono ?_
  rintro e w2 ⟨rfl, hb2⟩
  obtain ⟨f0, f1, f2⟩ := frozen3 hb2 s2 ff
  obtain ⟨p2, q2, r2, s3⟩ := later3 hb2 ⟨p1, q1, r1, s2⟩
  have hx := chain (chainA (chainAA hb1)) hb2
  go_wp2
  exact bodyPost_ret (v := .tuple #[.agg #[.int .i64 0, .int .i64 0, .string ⟨#[]⟩], .int .i64 1]) (by simp [results, Tryz.results102, go_sem, p2, q2, r2]) rfl ⟨rfl, by go_grown⟩

theorem less_spec (k1 n1 : Int) (t1 : ByteArray) (k2 n2 : Int) (t2 : ByteArray) (w : World) (ht1 : t1.size ≤ maxLen) (ht2 : t2.size ≤ maxLen) :
    Calls Tryz.prog 102 #[.agg #[.int .i64 k1, .int .i64 n1, .string t1], .agg #[.int .i64 k2, .int .i64 n2, .string t2]] w fun e w' => e = .returned (.tuple #[.agg #[.int .i64 (resR subO k1 n1 t1 k2 n2 t2).1, .int .i64 (resR subO k1 n1 t1 k2 n2 t2).2.1, .string ⟨#[]⟩], .int .i64 (resR subO k1 n1 t1 k2 n2 t2).2.2]) ∧ Below w.heap.size w w' := by
  cases hf : (rightB k1 n1 t1 && rightB k2 n2 t2)
  · exact less_spec_a k1 n1 t1 k2 n2 t2 w ht1 ht2 hf
  cases hz : (k1 == 0 || k2 == 0)
  · cases hb : numB (wrap64 (n1 - n2))
    · exact less_spec_n k1 n1 t1 k2 n2 t2 w ht1 ht2 hf hz hb
    · exact less_spec_y k1 n1 t1 k2 n2 t2 w ht1 ht2 hf hz hb
  · exact less_spec_b k1 n1 t1 k2 n2 t2 w ht1 ht2 hf hz

set_option maxHeartbeats 400000 in
theorem times_spec_a (k1 n1 : Int) (t1 : ByteArray) (k2 n2 : Int) (t2 : ByteArray) (w : World) (ht1 : t1.size ≤ maxLen) (ht2 : t2.size ≤ maxLen) (hf : (rightB k1 n1 t1 && rightB k2 n2 t2) = false) :
    Calls Tryz.prog 103 #[.agg #[.int .i64 k1, .int .i64 n1, .string t1], .agg #[.int .i64 k2, .int .i64 n2, .string t2]] w fun e w' => e = .returned (.tuple #[.agg #[.int .i64 (resR mulO k1 n1 t1 k2 n2 t2).1, .int .i64 (resR mulO k1 n1 t1 k2 n2 t2).2.1, .string ⟨#[]⟩], .int .i64 (resR mulO k1 n1 t1 k2 n2 t2).2.2]) ∧ Below w.heap.size w w' := by
  rw [show resR mulO k1 n1 t1 k2 n2 t2 = (0, 0, 3) from by simp [resR, opR, hf]]
  go_enter Tryz.func103, Tryz.ntmps103
  go_wp2_with fail
  refine (sums_spec k1 n1 t1 k2 n2 t2 false false (by simp [hf]) (by simp) _ ht1 ht2).mono ?_
  rintro e w1 ⟨rfl, hb1⟩
  obtain ⟨⟨a1, b1, c1, d1⟩, ⟨x1, y1, z1, s1⟩, ⟨p1, q1, r1, s2⟩, ff⟩ := three3 hb1
  obtain ⟨f0, f1, f2⟩ := ff
  have hx := chainA (chainAA hb1)
  go_wp2
  exact bodyPost_ret (v := .tuple #[.agg #[.int .i64 0, .int .i64 0, .string ⟨#[]⟩], .int .i64 3]) (by simp [results, Tryz.results103, go_sem, p1, q1, r1]) rfl ⟨rfl, by go_grown⟩

set_option maxHeartbeats 400000 in
theorem times_spec_b (k1 n1 : Int) (t1 : ByteArray) (k2 n2 : Int) (t2 : ByteArray) (w : World) (ht1 : t1.size ≤ maxLen) (ht2 : t2.size ≤ maxLen) (hf : (rightB k1 n1 t1 && rightB k2 n2 t2) = true) (hz : (k1 == 0 || k2 == 0) = true) :
    Calls Tryz.prog 103 #[.agg #[.int .i64 k1, .int .i64 n1, .string t1], .agg #[.int .i64 k2, .int .i64 n2, .string t2]] w fun e w' => e = .returned (.tuple #[.agg #[.int .i64 (resR mulO k1 n1 t1 k2 n2 t2).1, .int .i64 (resR mulO k1 n1 t1 k2 n2 t2).2.1, .string ⟨#[]⟩], .int .i64 (resR mulO k1 n1 t1 k2 n2 t2).2.2]) ∧ Below w.heap.size w w' := by
  rw [show resR mulO k1 n1 t1 k2 n2 t2 = (0, 0, 0) from by simp [resR, opR, hf, right_known k1 n1 t1 k2 n2 t2 hf, hz]]
  go_enter Tryz.func103, Tryz.ntmps103
  go_wp2_with fail
  refine (sums_spec k1 n1 t1 k2 n2 t2 true true (by simp [hf]) (by simp [hz]) _ ht1 ht2).mono ?_
  rintro e w1 ⟨rfl, hb1⟩
  obtain ⟨⟨a1, b1, c1, d1⟩, ⟨x1, y1, z1, s1⟩, ⟨p1, q1, r1, s2⟩, ff⟩ := three3 hb1
  obtain ⟨f0, f1, f2⟩ := ff
  have hx := chainA (chainAA hb1)
  go_wp2
  exact bodyPost_ret (v := .tuple #[.agg #[.int .i64 0, .int .i64 0, .string ⟨#[]⟩], .int .i64 0]) (by simp [results, Tryz.results103, go_sem, p1, q1, r1]) rfl ⟨rfl, by go_grown⟩

set_option maxHeartbeats 400000 in
theorem times_spec_y (k1 n1 : Int) (t1 : ByteArray) (k2 n2 : Int) (t2 : ByteArray) (w : World) (ht1 : t1.size ≤ maxLen) (ht2 : t2.size ≤ maxLen) (hf : (rightB k1 n1 t1 && rightB k2 n2 t2) = true) (hz : (k1 == 0 || k2 == 0) = false) (hb : numB (wrap64 (n1 * n2)) = true) :
    Calls Tryz.prog 103 #[.agg #[.int .i64 k1, .int .i64 n1, .string t1], .agg #[.int .i64 k2, .int .i64 n2, .string t2]] w fun e w' => e = .returned (.tuple #[.agg #[.int .i64 (resR mulO k1 n1 t1 k2 n2 t2).1, .int .i64 (resR mulO k1 n1 t1 k2 n2 t2).2.1, .string ⟨#[]⟩], .int .i64 (resR mulO k1 n1 t1 k2 n2 t2).2.2]) ∧ Below w.heap.size w w' := by
  rw [show resR mulO k1 n1 t1 k2 n2 t2 = (1, wrap64 (n1 * n2), 0) from by simp [resR, opR, hf, right_known k1 n1 t1 k2 n2 t2 hf, hz, mulO, hb]]
  go_enter Tryz.func103, Tryz.ntmps103
  go_wp2_with fail
  refine (sums_spec k1 n1 t1 k2 n2 t2 true false (by simp [hf]) (by simp [hz]) _ ht1 ht2).mono ?_
  rintro e w1 ⟨rfl, hb1⟩
  obtain ⟨⟨a1, b1, c1, d1⟩, ⟨x1, y1, z1, s1⟩, ⟨p1, q1, r1, s2⟩, ff⟩ := three3 hb1
  go_wp2_with fail
  refine (cell_spec_yes _ hb _).mono ?_
  rintro e w2 ⟨rfl, hb2⟩
  obtain ⟨f0, f1, f2⟩ := frozen3 hb2 s2 ff
  obtain ⟨p2, q2, r2, s3⟩ := later3 hb2 ⟨p1, q1, r1, s2⟩
  have hx := chain (chainA (chainAA hb1)) hb2
  go_wp2
  exact bodyPost_ret (v := .tuple #[.agg #[.int .i64 1, .int .i64 (wrap64 (n1 * n2)), .string ⟨#[]⟩], .int .i64 0]) (by simp [results, Tryz.results103, go_sem, p2, q2, r2]) rfl ⟨rfl, by go_grown⟩

set_option maxHeartbeats 400000 in
theorem times_spec_n (k1 n1 : Int) (t1 : ByteArray) (k2 n2 : Int) (t2 : ByteArray) (w : World) (ht1 : t1.size ≤ maxLen) (ht2 : t2.size ≤ maxLen) (hf : (rightB k1 n1 t1 && rightB k2 n2 t2) = true) (hz : (k1 == 0 || k2 == 0) = false) (hb : numB (wrap64 (n1 * n2)) = false) :
    Calls Tryz.prog 103 #[.agg #[.int .i64 k1, .int .i64 n1, .string t1], .agg #[.int .i64 k2, .int .i64 n2, .string t2]] w fun e w' => e = .returned (.tuple #[.agg #[.int .i64 (resR mulO k1 n1 t1 k2 n2 t2).1, .int .i64 (resR mulO k1 n1 t1 k2 n2 t2).2.1, .string ⟨#[]⟩], .int .i64 (resR mulO k1 n1 t1 k2 n2 t2).2.2]) ∧ Below w.heap.size w w' := by
  rw [show resR mulO k1 n1 t1 k2 n2 t2 = (0, 0, 1) from by simp [resR, opR, hf, right_known k1 n1 t1 k2 n2 t2 hf, hz, mulO, hb]]
  go_enter Tryz.func103, Tryz.ntmps103
  go_wp2_with fail
  refine (sums_spec k1 n1 t1 k2 n2 t2 true false (by simp [hf]) (by simp [hz]) _ ht1 ht2).mono ?_
  rintro e w1 ⟨rfl, hb1⟩
  obtain ⟨⟨a1, b1, c1, d1⟩, ⟨x1, y1, z1, s1⟩, ⟨p1, q1, r1, s2⟩, ff⟩ := three3 hb1
  go_wp2_with fail
  refine (cell_spec_no _ hb _).mono ?_
  rintro e w2 ⟨rfl, hb2⟩
  obtain ⟨f0, f1, f2⟩ := frozen3 hb2 s2 ff
  obtain ⟨p2, q2, r2, s3⟩ := later3 hb2 ⟨p1, q1, r1, s2⟩
  have hx := chain (chainA (chainAA hb1)) hb2
  go_wp2
  exact bodyPost_ret (v := .tuple #[.agg #[.int .i64 0, .int .i64 0, .string ⟨#[]⟩], .int .i64 1]) (by simp [results, Tryz.results103, go_sem, p2, q2, r2]) rfl ⟨rfl, by go_grown⟩

theorem times_spec (k1 n1 : Int) (t1 : ByteArray) (k2 n2 : Int) (t2 : ByteArray) (w : World) (ht1 : t1.size ≤ maxLen) (ht2 : t2.size ≤ maxLen) :
    Calls Tryz.prog 103 #[.agg #[.int .i64 k1, .int .i64 n1, .string t1], .agg #[.int .i64 k2, .int .i64 n2, .string t2]] w fun e w' => e = .returned (.tuple #[.agg #[.int .i64 (resR mulO k1 n1 t1 k2 n2 t2).1, .int .i64 (resR mulO k1 n1 t1 k2 n2 t2).2.1, .string ⟨#[]⟩], .int .i64 (resR mulO k1 n1 t1 k2 n2 t2).2.2]) ∧ Below w.heap.size w w' := by
  cases hf : (rightB k1 n1 t1 && rightB k2 n2 t2)
  · exact times_spec_a k1 n1 t1 k2 n2 t2 w ht1 ht2 hf
  cases hz : (k1 == 0 || k2 == 0)
  · cases hb : numB (wrap64 (n1 * n2))
    · exact times_spec_n k1 n1 t1 k2 n2 t2 w ht1 ht2 hf hz hb
    · exact times_spec_y k1 n1 t1 k2 n2 t2 w ht1 ht2 hf hz hb
  · exact times_spec_b k1 n1 t1 k2 n2 t2 w ht1 ht2 hf hz

set_option maxHeartbeats 400000 in
theorem by_spec_a (k1 n1 : Int) (t1 : ByteArray) (k2 n2 : Int) (t2 : ByteArray) (w : World) (ht1 : t1.size ≤ maxLen) (ht2 : t2.size ≤ maxLen) (hf : (rightB k1 n1 t1 && rightB k2 n2 t2) = false) :
    Calls Tryz.prog 104 #[.agg #[.int .i64 k1, .int .i64 n1, .string t1], .agg #[.int .i64 k2, .int .i64 n2, .string t2]] w fun e w' => e = .returned (.tuple #[.agg #[.int .i64 (resR divO k1 n1 t1 k2 n2 t2).1, .int .i64 (resR divO k1 n1 t1 k2 n2 t2).2.1, .string ⟨#[]⟩], .int .i64 (resR divO k1 n1 t1 k2 n2 t2).2.2]) ∧ Below w.heap.size w w' := by
  rw [show resR divO k1 n1 t1 k2 n2 t2 = (0, 0, 3) from by simp [resR, opR, hf]]
  go_enter Tryz.func104, Tryz.ntmps104
  go_wp2_with fail
  refine (sums_spec k1 n1 t1 k2 n2 t2 false false (by simp [hf]) (by simp) _ ht1 ht2).mono ?_
  rintro e w1 ⟨rfl, hb1⟩
  obtain ⟨⟨a1, b1, c1, d1⟩, ⟨x1, y1, z1, s1⟩, ⟨p1, q1, r1, s2⟩, ff⟩ := three3 hb1
  obtain ⟨f0, f1, f2⟩ := ff
  have hx := chainA (chainAA hb1)
  go_wp2
  exact bodyPost_ret (v := .tuple #[.agg #[.int .i64 0, .int .i64 0, .string ⟨#[]⟩], .int .i64 3]) (by simp [results, Tryz.results104, go_sem, p1, q1, r1]) rfl ⟨rfl, by go_grown⟩

set_option maxHeartbeats 400000 in
theorem by_spec_b (k1 n1 : Int) (t1 : ByteArray) (k2 n2 : Int) (t2 : ByteArray) (w : World) (ht1 : t1.size ≤ maxLen) (ht2 : t2.size ≤ maxLen) (hf : (rightB k1 n1 t1 && rightB k2 n2 t2) = true) (hz : (k1 == 0 || k2 == 0) = true) :
    Calls Tryz.prog 104 #[.agg #[.int .i64 k1, .int .i64 n1, .string t1], .agg #[.int .i64 k2, .int .i64 n2, .string t2]] w fun e w' => e = .returned (.tuple #[.agg #[.int .i64 (resR divO k1 n1 t1 k2 n2 t2).1, .int .i64 (resR divO k1 n1 t1 k2 n2 t2).2.1, .string ⟨#[]⟩], .int .i64 (resR divO k1 n1 t1 k2 n2 t2).2.2]) ∧ Below w.heap.size w w' := by
  rw [show resR divO k1 n1 t1 k2 n2 t2 = (0, 0, 0) from by simp [resR, opR, hf, right_known k1 n1 t1 k2 n2 t2 hf, hz]]
  go_enter Tryz.func104, Tryz.ntmps104
  go_wp2_with fail
  refine (sums_spec k1 n1 t1 k2 n2 t2 true true (by simp [hf]) (by simp [hz]) _ ht1 ht2).mono ?_
  rintro e w1 ⟨rfl, hb1⟩
  obtain ⟨⟨a1, b1, c1, d1⟩, ⟨x1, y1, z1, s1⟩, ⟨p1, q1, r1, s2⟩, ff⟩ := three3 hb1
  obtain ⟨f0, f1, f2⟩ := ff
  have hx := chainA (chainAA hb1)
  go_wp2
  exact bodyPost_ret (v := .tuple #[.agg #[.int .i64 0, .int .i64 0, .string ⟨#[]⟩], .int .i64 0]) (by simp [results, Tryz.results104, go_sem, p1, q1, r1]) rfl ⟨rfl, by go_grown⟩

set_option maxHeartbeats 400000 in
theorem by_spec_z (k1 n1 : Int) (t1 : ByteArray) (k2 n2 : Int) (t2 : ByteArray) (w : World) (ht1 : t1.size ≤ maxLen) (ht2 : t2.size ≤ maxLen) (hf : (rightB k1 n1 t1 && rightB k2 n2 t2) = true) (hz : (k1 == 0 || k2 == 0) = false) (hn : n2 = 0) :
    Calls Tryz.prog 104 #[.agg #[.int .i64 k1, .int .i64 n1, .string t1], .agg #[.int .i64 k2, .int .i64 n2, .string t2]] w fun e w' => e = .returned (.tuple #[.agg #[.int .i64 (resR divO k1 n1 t1 k2 n2 t2).1, .int .i64 (resR divO k1 n1 t1 k2 n2 t2).2.1, .string ⟨#[]⟩], .int .i64 (resR divO k1 n1 t1 k2 n2 t2).2.2]) ∧ Below w.heap.size w w' := by
  subst hn
  rw [show resR divO k1 n1 t1 k2 0 t2 = (0, 0, 2) from by simp [resR, opR, hf, right_known k1 n1 t1 k2 0 t2 hf, hz, divO]]
  go_enter Tryz.func104, Tryz.ntmps104
  go_wp2_with fail
  refine (sums_spec k1 n1 t1 k2 0 t2 true false (by simp [hf]) (by simp [hz]) _ ht1 ht2).mono ?_
  rintro e w1 ⟨rfl, hb1⟩
  obtain ⟨⟨a1, b1, c1, d1⟩, ⟨x1, y1, z1, s1⟩, ⟨p1, q1, r1, s2⟩, ff⟩ := three3 hb1
  obtain ⟨f0, f1, f2⟩ := ff
  have hx := chainA (chainAA hb1)
  go_wp2
  exact bodyPost_ret (v := .tuple #[.agg #[.int .i64 0, .int .i64 0, .string ⟨#[]⟩], .int .i64 2]) (by simp [results, Tryz.results104, go_sem, p1, q1, r1]) rfl ⟨rfl, by go_grown⟩

set_option maxHeartbeats 400000 in
theorem by_spec_y (k1 n1 : Int) (t1 : ByteArray) (k2 n2 : Int) (t2 : ByteArray) (w : World) (ht1 : t1.size ≤ maxLen) (ht2 : t2.size ≤ maxLen) (hf : (rightB k1 n1 t1 && rightB k2 n2 t2) = true) (hz : (k1 == 0 || k2 == 0) = false) (hn : n2 ≠ 0) (hb : numB (wrap64 (n1.tdiv n2)) = true) :
    Calls Tryz.prog 104 #[.agg #[.int .i64 k1, .int .i64 n1, .string t1], .agg #[.int .i64 k2, .int .i64 n2, .string t2]] w fun e w' => e = .returned (.tuple #[.agg #[.int .i64 (resR divO k1 n1 t1 k2 n2 t2).1, .int .i64 (resR divO k1 n1 t1 k2 n2 t2).2.1, .string ⟨#[]⟩], .int .i64 (resR divO k1 n1 t1 k2 n2 t2).2.2]) ∧ Below w.heap.size w w' := by
  rw [show resR divO k1 n1 t1 k2 n2 t2 = (1, wrap64 (n1.tdiv n2), 0) from by simp [resR, opR, hf, right_known k1 n1 t1 k2 n2 t2 hf, hz, divO, hn, hb]]
  go_enter Tryz.func104, Tryz.ntmps104
  go_wp2_with fail
  refine (sums_spec k1 n1 t1 k2 n2 t2 true false (by simp [hf]) (by simp [hz]) _ ht1 ht2).mono ?_
  rintro e w1 ⟨rfl, hb1⟩
  obtain ⟨⟨a1, b1, c1, d1⟩, ⟨x1, y1, z1, s1⟩, ⟨p1, q1, r1, s2⟩, ff⟩ := three3 hb1
  go_wp2_with fail
  refine (cell_spec_yes _ hb _).mono ?_
  rintro e w2 ⟨rfl, hb2⟩
  obtain ⟨f0, f1, f2⟩ := frozen3 hb2 s2 ff
  obtain ⟨p2, q2, r2, s3⟩ := later3 hb2 ⟨p1, q1, r1, s2⟩
  have hx := chain (chainA (chainAA hb1)) hb2
  go_wp2
  exact bodyPost_ret (v := .tuple #[.agg #[.int .i64 1, .int .i64 (wrap64 (n1.tdiv n2)), .string ⟨#[]⟩], .int .i64 0]) (by simp [results, Tryz.results104, go_sem, p2, q2, r2]) rfl ⟨rfl, by go_grown⟩

set_option maxHeartbeats 400000 in
theorem by_spec_n (k1 n1 : Int) (t1 : ByteArray) (k2 n2 : Int) (t2 : ByteArray) (w : World) (ht1 : t1.size ≤ maxLen) (ht2 : t2.size ≤ maxLen) (hf : (rightB k1 n1 t1 && rightB k2 n2 t2) = true) (hz : (k1 == 0 || k2 == 0) = false) (hn : n2 ≠ 0) (hb : numB (wrap64 (n1.tdiv n2)) = false) :
    Calls Tryz.prog 104 #[.agg #[.int .i64 k1, .int .i64 n1, .string t1], .agg #[.int .i64 k2, .int .i64 n2, .string t2]] w fun e w' => e = .returned (.tuple #[.agg #[.int .i64 (resR divO k1 n1 t1 k2 n2 t2).1, .int .i64 (resR divO k1 n1 t1 k2 n2 t2).2.1, .string ⟨#[]⟩], .int .i64 (resR divO k1 n1 t1 k2 n2 t2).2.2]) ∧ Below w.heap.size w w' := by
  rw [show resR divO k1 n1 t1 k2 n2 t2 = (0, 0, 1) from by simp [resR, opR, hf, right_known k1 n1 t1 k2 n2 t2 hf, hz, divO, hn, hb]]
  go_enter Tryz.func104, Tryz.ntmps104
  go_wp2_with fail
  refine (sums_spec k1 n1 t1 k2 n2 t2 true false (by simp [hf]) (by simp [hz]) _ ht1 ht2).mono ?_
  rintro e w1 ⟨rfl, hb1⟩
  obtain ⟨⟨a1, b1, c1, d1⟩, ⟨x1, y1, z1, s1⟩, ⟨p1, q1, r1, s2⟩, ff⟩ := three3 hb1
  go_wp2_with fail
  refine (cell_spec_no _ hb _).mono ?_
  rintro e w2 ⟨rfl, hb2⟩
  obtain ⟨f0, f1, f2⟩ := frozen3 hb2 s2 ff
  obtain ⟨p2, q2, r2, s3⟩ := later3 hb2 ⟨p1, q1, r1, s2⟩
  have hx := chain (chainA (chainAA hb1)) hb2
  go_wp2
  exact bodyPost_ret (v := .tuple #[.agg #[.int .i64 0, .int .i64 0, .string ⟨#[]⟩], .int .i64 1]) (by simp [results, Tryz.results104, go_sem, p2, q2, r2]) rfl ⟨rfl, by go_grown⟩

theorem by_spec (k1 n1 : Int) (t1 : ByteArray) (k2 n2 : Int) (t2 : ByteArray) (w : World) (ht1 : t1.size ≤ maxLen) (ht2 : t2.size ≤ maxLen) :
    Calls Tryz.prog 104 #[.agg #[.int .i64 k1, .int .i64 n1, .string t1], .agg #[.int .i64 k2, .int .i64 n2, .string t2]] w fun e w' => e = .returned (.tuple #[.agg #[.int .i64 (resR divO k1 n1 t1 k2 n2 t2).1, .int .i64 (resR divO k1 n1 t1 k2 n2 t2).2.1, .string ⟨#[]⟩], .int .i64 (resR divO k1 n1 t1 k2 n2 t2).2.2]) ∧ Below w.heap.size w w' := by
  cases hf : (rightB k1 n1 t1 && rightB k2 n2 t2)
  · exact by_spec_a k1 n1 t1 k2 n2 t2 w ht1 ht2 hf
  cases hz : (k1 == 0 || k2 == 0)
  · by_cases hn : n2 = 0
    · exact by_spec_z k1 n1 t1 k2 n2 t2 w ht1 ht2 hf hz hn
    cases hb : numB (wrap64 (n1.tdiv n2))
    · exact by_spec_n k1 n1 t1 k2 n2 t2 w ht1 ht2 hf hz hn hb
    · exact by_spec_y k1 n1 t1 k2 n2 t2 w ht1 ht2 hf hz hn hb
  · exact by_spec_b k1 n1 t1 k2 n2 t2 w ht1 ht2 hf hz

end Go.Proofs.YthgbjnchhaoceaaGreatDoor
