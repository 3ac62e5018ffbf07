/-
  A part of the proof: Three2, HeapMath, Order, Cmp, Cmp2.
-/
import Derived.Test.YthgbjnchhaoceaaGreatDoorPart5
import Derived.WalkKit
import Derived.Sort.Walk0

/-
  The contracts of the program's Both, Either, Not, IsNone and Holds: what comes of right answers, and what else.
-/
namespace Go.Proofs.YthgbjnchhaoceaaGreatDoor
open Go.ChangeShapes Go.WideShapes Go.ChangeAt Go.RowKit
attribute [local go_sem ↓] Go.wp_at_zero Go.wp_at_succ

theorem rank_in (k n : Int) : 0 ≤ rankI k n ∧ rankI k n ≤ 2 := by
  unfold rankI
  split
  · omega
  · split <;> omega

set_option maxHeartbeats 400000 in
theorem answered0 (g : Nat) (hent : ∀ (xs : Array Value) (w : World), (callFunc g xs).run Tryz.prog w = .ok (.enter g xs) w) (z : Int) (k n : Int) (t : ByteArray) (x : Int) (rt : Bool) (hr : threeB k n t = rt) (hx : (if rt = true then rankI k n else 0) = x)
    (hg : ∀ w, rt = true → Calls Tryz.prog g #[.int .i64 x] w fun e w' => e = .returned (.int .i64 z) ∧ w' = w) (w : World) (ht : t.size ≤ maxLen) :
    Calls Tryz.prog 159 #[.func (.func g) #[] #[], .agg #[.int .i64 k, .int .i64 n, .string t]] w fun e w' => e = .returned (.tuple #[.agg #[.int .i64 (resT rt z).1, .int .i64 (resT rt z).2.1, .string ⟨#[]⟩], .int .i64 (resT rt z).2.2]) ∧ Below w.heap.size w w' := by
  have A : Hid (∀ w, Calls Tryz.prog 41 #[.agg #[.int .i64 k, .int .i64 n, .string t]] w fun e w' => e = .returned (.tuple #[.int .i64 x, .bool rt]) ∧ Below w.heap.size w w') := fun w => answer_impl k n t x rt hr hx w ht
  clear hr hx
  cases rt
  · clear hg
    simp only [show resT false z = (0, 0, 3) from rfl]
    go_enter Tryz.func159, Tryz.ntmps159
    go_wp2_with fail
    refine (A.out _).mono ?_
    rintro e w1 ⟨rfl, hb1⟩
    obtain ⟨⟨a1, b1, c1, d1⟩, ⟨x1, y1, z1, s1⟩, f0, f1, f2⟩ := two3 hb1
    have hx := chainAA hb1
    have hxs := hx.size
    go_wp2
    exact bodyPost_ret (v := .tuple #[.agg #[.int .i64 0, .int .i64 0, .string ⟨#[]⟩], .int .i64 3]) (by simp [results, Tryz.results159, go_sem, x1, y1, z1]) rfl ⟨rfl, by go_grown⟩
  · have G : Hid (∀ w, Calls Tryz.prog g #[.int .i64 x] w fun e w' => e = .returned (.int .i64 z) ∧ w' = w) := fun w => hg w rfl
    clear hg
    simp only [show resT true z = (rkK z, rkN z, 0) from rfl]
    go_enter Tryz.func159, Tryz.ntmps159
    go_wp2_with fail
    refine (A.out _).mono ?_
    rintro e w1 ⟨rfl, hb1⟩
    obtain ⟨⟨a1, b1, c1, d1⟩, ⟨x1, y1, z1, s1⟩, ff⟩ := two3 hb1
    go_wp2_with fail
    refine (G.out _).mono ?_
    rintro e w' ⟨rfl, rfl⟩
    go_wp2_with fail
    refine (acell_impl _ _).mono ?_
    rintro e w2 ⟨rfl, hb2⟩
    obtain ⟨f0, f1, f2⟩ := frozen3 hb2 s1 ff
    obtain ⟨x2, y2, z2, s2⟩ := later3 hb2 ⟨x1, y1, z1, s1⟩
    have hx := chain (chainAA hb1) hb2
    have hxs := hx.size
    go_wp2
    exact bodyPost_ret (v := .tuple #[.agg #[.int .i64 (rkK z), .int .i64 (rkN z), .string ⟨#[]⟩], .int .i64 0]) (by simp [results, Tryz.results159, go_sem, x2, y2, z2]) rfl ⟨rfl, by go_grown⟩

set_option maxHeartbeats 400000 in
theorem answered1 (g : Nat) (hent : ∀ (xs : Array Value) (w : World), (callFunc g xs).run Tryz.prog w = .ok (.enter g xs) w) (y : Int) (z : Int) (k n : Int) (t : ByteArray) (x : Int) (rt : Bool) (hr : threeB k n t = rt) (hx : (if rt = true then rankI k n else 0) = x)
    (hg : ∀ w, rt = true → Calls Tryz.prog g #[.int .i64 y, .int .i64 x] w fun e w' => e = .returned (.int .i64 z) ∧ w' = w) (w : World) (ht : t.size ≤ maxLen) :
    Calls Tryz.prog 159 #[.func (.func g) #[.int .i64 y] #[], .agg #[.int .i64 k, .int .i64 n, .string t]] w fun e w' => e = .returned (.tuple #[.agg #[.int .i64 (resT rt z).1, .int .i64 (resT rt z).2.1, .string ⟨#[]⟩], .int .i64 (resT rt z).2.2]) ∧ Below w.heap.size w w' := by
  have A : Hid (∀ w, Calls Tryz.prog 41 #[.agg #[.int .i64 k, .int .i64 n, .string t]] w fun e w' => e = .returned (.tuple #[.int .i64 x, .bool rt]) ∧ Below w.heap.size w w') := fun w => answer_impl k n t x rt hr hx w ht
  clear hr hx
  cases rt
  · clear hg
    simp only [show resT false z = (0, 0, 3) from rfl]
    go_enter Tryz.func159, Tryz.ntmps159
    go_wp2_with fail
    refine (A.out _).mono ?_
    rintro e w1 ⟨rfl, hb1⟩
    obtain ⟨⟨a1, b1, c1, d1⟩, ⟨x1, y1, z1, s1⟩, f0, f1, f2⟩ := two3 hb1
    have hx := chainAA hb1
    have hxs := hx.size
    go_wp2
    exact bodyPost_ret (v := .tuple #[.agg #[.int .i64 0, .int .i64 0, .string ⟨#[]⟩], .int .i64 3]) (by simp [results, Tryz.results159, go_sem, x1, y1, z1]) rfl ⟨rfl, by go_grown⟩
  · have G : Hid (∀ w, Calls Tryz.prog g #[.int .i64 y, .int .i64 x] w fun e w' => e = .returned (.int .i64 z) ∧ w' = w) := fun w => hg w rfl
    clear hg
    simp only [show resT true z = (rkK z, rkN z, 0) from rfl]
    go_enter Tryz.func159, Tryz.ntmps159
    go_wp2_with fail
    refine (A.out _).mono ?_
    rintro e w1 ⟨rfl, hb1⟩
    obtain ⟨⟨a1, b1, c1, d1⟩, ⟨x1, y1, z1, s1⟩, ff⟩ := two3 hb1
    go_wp2_with fail
    refine (G.out _).mono ?_
    rintro e w' ⟨rfl, rfl⟩
    go_wp2_with fail
    refine (acell_impl _ _).mono ?_
    rintro e w2 ⟨rfl, hb2⟩
    obtain ⟨f0, f1, f2⟩ := frozen3 hb2 s1 ff
    obtain ⟨x2, y2, z2, s2⟩ := later3 hb2 ⟨x1, y1, z1, s1⟩
    have hx := chain (chainAA hb1) hb2
    have hxs := hx.size
    go_wp2
    exact bodyPost_ret (v := .tuple #[.agg #[.int .i64 (rkK z), .int .i64 (rkN z), .string ⟨#[]⟩], .int .i64 0]) (by simp [results, Tryz.results159, go_sem, x2, y2, z2]) rfl ⟨rfl, by go_grown⟩


theorem enters_turned : ∀ (xs : Array Value) (w : World), (callFunc 162 xs).run Tryz.prog w = .ok (.enter 162 xs) w := fun xs w => by kernel_rfl

set_option maxHeartbeats 400000 in
theorem not_impl (k n : Int) (t : ByteArray) (w : World) (ht : t.size ≤ maxLen) :
    Calls Tryz.prog 133 #[.agg #[.int .i64 k, .int .i64 n, .string t]] w fun e w' => e = .returned (.tuple #[.agg #[.int .i64 (notR k n t).1, .int .i64 (notR k n t).2.1, .string ⟨#[]⟩], .int .i64 (notR k n t).2.2]) ∧ Below w.heap.size w w' := by
  have H : Hid (∀ w, Calls Tryz.prog 159 #[.func (.func 162) #[] #[], .agg #[.int .i64 k, .int .i64 n, .string t]] w fun e w' => e = .returned (.tuple #[.agg #[.int .i64 (notR k n t).1, .int .i64 (notR k n t).2.1, .string ⟨#[]⟩], .int .i64 (notR k n t).2.2]) ∧ Below w.heap.size w w') := fun w =>
    answered0 _ enters_turned (2 - rankI k n) k n t _ _ rfl rfl (fun w h => by rw [if_pos h]; exact turned_m _ (rank_in k n).1 (rank_in k n).2 w) w ht
  generalize notR k n t = R at H ⊢
  go_enter Tryz.func133, Tryz.ntmps133
  go_wp2_with fail
  refine (H.out _).mono ?_
  rintro e w1 ⟨rfl, hb1⟩
  obtain ⟨⟨a1, b1, c1, d1⟩, ⟨x1, y1, z1, s1⟩, f0, f1, f2⟩ := two3 hb1
  have hx := chainAA hb1
  have hxs := hx.size
  go_wp2
  exact bodyPost_ret (v := .tuple #[.agg #[.int .i64 R.1, .int .i64 R.2.1, .string ⟨#[]⟩], .int .i64 R.2.2]) (by simp [results, Tryz.results133, go_sem, x1, y1, z1]) rfl ⟨rfl, by go_grown⟩


theorem enters_both : ∀ (xs : Array Value) (w : World), (callFunc 160 xs).run Tryz.prog w = .ok (.enter 160 xs) w := fun xs w => by kernel_rfl

set_option maxHeartbeats 400000 in
theorem both_impl (k1 n1 : Int) (t1 : ByteArray) (k2 n2 : Int) (t2 : ByteArray) (w : World) (ht1 : t1.size ≤ maxLen) (ht2 : t2.size ≤ maxLen) :
    Calls Tryz.prog 131 #[.agg #[.int .i64 k1, .int .i64 n1, .string t1], .agg #[.int .i64 k2, .int .i64 n2, .string t2]] w fun e w' => e = .returned (.tuple #[.agg #[.int .i64 (bothR k1 n1 t1 k2 n2 t2).1, .int .i64 (bothR k1 n1 t1 k2 n2 t2).2.1, .string ⟨#[]⟩], .int .i64 (bothR k1 n1 t1 k2 n2 t2).2.2]) ∧ Below w.heap.size w w' := by
  have hmf : ∀ (fn : Fn) (first cap : Array Value) (w : World), (Instr.makeFunc fn first cap).run Tryz.prog w = .ok (.func fn first cap) w := fun _ _ _ _ => rfl
  cases h1 : threeB k1 n1 t1
  · simp only [show bothR k1 n1 t1 k2 n2 t2 = (0, 0, 3) from by simp [bothR, h1, resT]]
    go_enter Tryz.func131, Tryz.ntmps131
    go_wp2_with fail
    refine (answer_impl _ _ _ 0 false h1 rfl _ ht1).mono ?_
    rintro e w1 ⟨rfl, hb1⟩
    obtain ⟨⟨a1, b1, c1, d1⟩, ⟨x1, y1, z1, s1⟩, ⟨p1, q1, r1, s2⟩, f0, f1, f2⟩ := three3 hb1
    have hx := chainA (chainAA hb1)
    have hxs := hx.size
    go_wp2
    exact bodyPost_ret (v := .tuple #[.agg #[.int .i64 0, .int .i64 0, .string ⟨#[]⟩], .int .i64 3]) (by simp [results, Tryz.results131, go_sem, p1, q1, r1]) rfl ⟨rfl, by go_grown⟩
  · have H : Hid (∀ w, Calls Tryz.prog 159 #[.func (.func 160) #[.int .i64 (rankI k1 n1)] #[], .agg #[.int .i64 k2, .int .i64 n2, .string t2]] w fun e w' => e = .returned (.tuple #[.agg #[.int .i64 (bothR k1 n1 t1 k2 n2 t2).1, .int .i64 (bothR k1 n1 t1 k2 n2 t2).2.1, .string ⟨#[]⟩], .int .i64 (bothR k1 n1 t1 k2 n2 t2).2.2]) ∧ Below w.heap.size w w') := fun w => by
      have := answered1 _ enters_both (rankI k1 n1) (min (rankI k1 n1) (rankI k2 n2)) k2 n2 t2 _ _ rfl rfl (fun w h => by rw [if_pos h]; exact both_m _ _ w) w ht2
      unfold bothR
      rw [h1]
      exact this
    generalize bothR k1 n1 t1 k2 n2 t2 = R at H ⊢
    go_enter Tryz.func131, Tryz.ntmps131
    go_wp2_with fail
    refine (answer_impl _ _ _ (rankI k1 n1) true h1 (if_pos rfl) _ ht1).mono ?_
    rintro e w1 ⟨rfl, hb1⟩
    obtain ⟨⟨a1, b1, c1, d1⟩, ⟨x1, y1, z1, s1⟩, ⟨p1, q1, r1, s2⟩, ff⟩ := three3 hb1
    go_wp2_with fail
    refine (H.out _).mono ?_
    rintro e w2 ⟨rfl, hb2⟩
    obtain ⟨f0, f1, f2⟩ := frozen3 hb2 s2 ff
    obtain ⟨p2, q2, r2, s3⟩ := later3 hb2 ⟨p1, q1, r1, s2⟩
    have hx := chain (chainA (chainAA hb1)) hb2
    have hxs := hx.size
    go_wp2
    exact bodyPost_ret (v := .tuple #[.agg #[.int .i64 R.1, .int .i64 R.2.1, .string ⟨#[]⟩], .int .i64 R.2.2]) (by simp [results, Tryz.results131, go_sem, p2, q2, r2]) rfl ⟨rfl, by go_grown⟩


theorem enters_either : ∀ (xs : Array Value) (w : World), (callFunc 161 xs).run Tryz.prog w = .ok (.enter 161 xs) w := fun xs w => by kernel_rfl

set_option maxHeartbeats 400000 in
theorem either_impl (k1 n1 : Int) (t1 : ByteArray) (k2 n2 : Int) (t2 : ByteArray) (w : World) (ht1 : t1.size ≤ maxLen) (ht2 : t2.size ≤ maxLen) :
    Calls Tryz.prog 132 #[.agg #[.int .i64 k1, .int .i64 n1, .string t1], .agg #[.int .i64 k2, .int .i64 n2, .string t2]] w fun e w' => e = .returned (.tuple #[.agg #[.int .i64 (eitherR k1 n1 t1 k2 n2 t2).1, .int .i64 (eitherR k1 n1 t1 k2 n2 t2).2.1, .string ⟨#[]⟩], .int .i64 (eitherR k1 n1 t1 k2 n2 t2).2.2]) ∧ Below w.heap.size w w' := by
  have hmf : ∀ (fn : Fn) (first cap : Array Value) (w : World), (Instr.makeFunc fn first cap).run Tryz.prog w = .ok (.func fn first cap) w := fun _ _ _ _ => rfl
  cases h1 : threeB k1 n1 t1
  · simp only [show eitherR k1 n1 t1 k2 n2 t2 = (0, 0, 3) from by simp [eitherR, h1, resT]]
    go_enter Tryz.func132, Tryz.ntmps132
    go_wp2_with fail
    refine (answer_impl _ _ _ 0 false h1 rfl _ ht1).mono ?_
    rintro e w1 ⟨rfl, hb1⟩
    obtain ⟨⟨a1, b1, c1, d1⟩, ⟨x1, y1, z1, s1⟩, ⟨p1, q1, r1, s2⟩, f0, f1, f2⟩ := three3 hb1
    have hx := chainA (chainAA hb1)
    have hxs := hx.size
    go_wp2
    exact bodyPost_ret (v := .tuple #[.agg #[.int .i64 0, .int .i64 0, .string ⟨#[]⟩], .int .i64 3]) (by simp [results, Tryz.results132, go_sem, p1, q1, r1]) rfl ⟨rfl, by go_grown⟩
  · have H : Hid (∀ w, Calls Tryz.prog 159 #[.func (.func 161) #[.int .i64 (rankI k1 n1)] #[], .agg #[.int .i64 k2, .int .i64 n2, .string t2]] w fun e w' => e = .returned (.tuple #[.agg #[.int .i64 (eitherR k1 n1 t1 k2 n2 t2).1, .int .i64 (eitherR k1 n1 t1 k2 n2 t2).2.1, .string ⟨#[]⟩], .int .i64 (eitherR k1 n1 t1 k2 n2 t2).2.2]) ∧ Below w.heap.size w w') := fun w => by
      have := answered1 _ enters_either (rankI k1 n1) (max (rankI k1 n1) (rankI k2 n2)) k2 n2 t2 _ _ rfl rfl (fun w h => by rw [if_pos h]; exact either_m _ _ w) w ht2
      unfold eitherR
      rw [h1]
      exact this
    generalize eitherR k1 n1 t1 k2 n2 t2 = R at H ⊢
    go_enter Tryz.func132, Tryz.ntmps132
    go_wp2_with fail
    refine (answer_impl _ _ _ (rankI k1 n1) true h1 (if_pos rfl) _ ht1).mono ?_
    rintro e w1 ⟨rfl, hb1⟩
    obtain ⟨⟨a1, b1, c1, d1⟩, ⟨x1, y1, z1, s1⟩, ⟨p1, q1, r1, s2⟩, ff⟩ := three3 hb1
    go_wp2_with fail
    refine (H.out _).mono ?_
    rintro e w2 ⟨rfl, hb2⟩
    obtain ⟨f0, f1, f2⟩ := frozen3 hb2 s2 ff
    obtain ⟨p2, q2, r2, s3⟩ := later3 hb2 ⟨p1, q1, r1, s2⟩
    have hx := chain (chainA (chainAA hb1)) hb2
    have hxs := hx.size
    go_wp2
    exact bodyPost_ret (v := .tuple #[.agg #[.int .i64 R.1, .int .i64 R.2.1, .string ⟨#[]⟩], .int .i64 R.2.2]) (by simp [results, Tryz.results132, go_sem, p2, q2, r2]) rfl ⟨rfl, by go_grown⟩


set_option maxHeartbeats 400000 in
theorem none_impl (k n : Int) (t : ByteArray) (w : World) (ht : t.size ≤ maxLen) :
    Calls Tryz.prog 134 #[.agg #[.int .i64 k, .int .i64 n, .string t]] w fun e w' => e = .returned (.tuple #[.agg #[.int .i64 (noneR k n t).1, .int .i64 (noneR k n t).2.1, .string ⟨#[]⟩], .int .i64 (noneR k n t).2.2]) ∧ Below w.heap.size w w' := by
  cases h : okB k n t
  · simp only [show noneR k n t = (0, 0, 3) from by simp [noneR, h]]
    go_enter Tryz.func134, Tryz.ntmps134
    go_wp2_with fail
    refine (ok_implb _ _ _ _ h _ ht).mono ?_
    rintro e w1 ⟨rfl, hb1⟩
    obtain ⟨⟨a1, b1, c1, d1⟩, ⟨x1, y1, z1, s1⟩, f0, f1, f2⟩ := two3 hb1
    have hx := chainAA hb1
    have hxs := hx.size
    go_wp2
    exact bodyPost_ret (v := .tuple #[.agg #[.int .i64 0, .int .i64 0, .string ⟨#[]⟩], .int .i64 3]) (by simp [results, Tryz.results134, go_sem, x1, y1, z1]) rfl ⟨rfl, by go_grown⟩
  · have hR : noneR k n t = (3, if k = 0 then 1 else 0, 0) := by simp [noneR, h]
    generalize hm : (if k = 0 then (1 : Int) else 0) = m at hR
    simp only [hR]
    go_enter Tryz.func134, Tryz.ntmps134
    go_wp2_with fail
    refine (ok_implb _ _ _ _ h _ ht).mono ?_
    rintro e w1 ⟨rfl, hb1⟩
    obtain ⟨⟨a1, b1, c1, d1⟩, ⟨x1, y1, z1, s1⟩, ff⟩ := two3 hb1
    go_wp2_with fail
    refine (truth_implb _ m (by rw [← hm]; simp) _).mono ?_
    rintro e w2 ⟨rfl, hb2⟩
    obtain ⟨f0, f1, f2⟩ := frozen3 hb2 s1 ff
    obtain ⟨x2, y2, z2, s2⟩ := later3 hb2 ⟨x1, y1, z1, s1⟩
    have hx := chain (chainAA hb1) hb2
    have hxs := hx.size
    go_wp2
    exact bodyPost_ret (v := .tuple #[.agg #[.int .i64 3, .int .i64 m, .string ⟨#[]⟩], .int .i64 0]) (by simp [results, Tryz.results134, go_sem, x2, y2, z2]) rfl ⟨rfl, by go_grown⟩

set_option maxHeartbeats 400000 in
theorem holds_impl (k n : Int) (t : ByteArray) (w : World) :
    Calls Tryz.prog 42 #[.agg #[.int .i64 k, .int .i64 n, .string t]] w fun e w' => e = .returned (.bool (sameB k n t 3 1 ⟨#[]⟩)) ∧ Below w.heap.size w w' := by
  have hq := run_eql
  go_enter Tryz.func42, Tryz.ntmps42
  go_wp2_with fail
  first | go_region_with (go_at_call 78; refine (truth_implb true 1 rfl _).mono ?_; rintro e w1 ⟨rfl, hb1⟩; obtain ⟨a1, b1, c1, d1⟩ := box3 (undrew hb1)) | fail
  all_goals go_wp2
  all_goals go_ret
  all_goals exact ⟨rfl, chainA (undrew hb1)⟩

end Go.Proofs.YthgbjnchhaoceaaGreatDoor

/-
  Lists in heap order, without any program: what moves up or down one step keeps all but one place right, the first one is the least.
-/
namespace Go.Proofs.YthgbjnchhaoceaaGreatDoor

/-- A strict order in which of two one is less, or they are one. -/
structure Strict (lt : Nat → Nat → Bool) (n : Nat) : Prop where
  irr : ∀ a, lt a a = false
  tri : ∀ a b, a < n → b < n → lt a b = false → lt b a = false → a = b
  trans : ∀ a b c, lt a b = true → lt b c = true → lt a c = true

theorem Strict.asym {lt : Nat → Nat → Bool} {n : Nat} (S : Strict lt n) {a b : Nat} (h : lt a b = true) : lt b a = false := by
  cases hb : lt b a with
  | false => rfl
  | true => have := S.trans a b a h hb; rw [S.irr] at this; cases this
/-- What is not less, twice. -/
theorem Strict.neg {lt : Nat → Nat → Bool} {n : Nat} (S : Strict lt n) {a b c : Nat} (ha : a < n) (hb : b < n) (h1 : lt a b = false) (h2 : lt b c = false) : lt a c = false := by
  cases hc : lt a c with
  | false => rfl
  | true =>
    cases hba : lt b a with
    | true => have := S.trans b a c hba hc; rw [h2] at this; cases this
    | false => have e := S.tri a b ha hb h1 hba; subst e; rw [h2] at hc; cases hc

/-- The first n are in heap order. -/
def Heap (lt : Nat → Nat → Bool) (s : List Nat) (n : Nat) : Prop := ∀ i, 0 < i → i < n → lt (s.getD i 0) (s.getD ((i - 1) / 2) 0) = false
/-- So are they but for place j, which may be too low. -/
def UpAt (lt : Nat → Nat → Bool) (s : List Nat) (n j : Nat) : Prop :=
  (∀ i, 0 < i → i < n → i ≠ j → lt (s.getD i 0) (s.getD ((i - 1) / 2) 0) = false) ∧
  (∀ i, 0 < i → i < n → (i - 1) / 2 = j → 0 < j → lt (s.getD i 0) (s.getD ((j - 1) / 2) 0) = false)
/-- So are they but for place j, which may be too high. -/
def DownAt (lt : Nat → Nat → Bool) (s : List Nat) (n j : Nat) : Prop :=
  (∀ i, 0 < i → i < n → (i - 1) / 2 ≠ j → lt (s.getD i 0) (s.getD ((i - 1) / 2) 0) = false) ∧
  (∀ i, 0 < i → i < n → (i - 1) / 2 = j → 0 < j → lt (s.getD i 0) (s.getD ((j - 1) / 2) 0) = false)

/-- Two change places. -/
def swap {α : Type} (d : α) (s : List α) (i j : Nat) : List α := (s.set i (s.getD j d)).set j (s.getD i d)
theorem swap_length {α : Type} (d : α) (s : List α) (i j : Nat) : (swap d s i j).length = s.length := by simp [swap]
theorem swap_getD {α : Type} (d : α) (s : List α) (i j k : Nat) (hi : i < s.length) (hj : j < s.length) : (swap d s i j).getD k d = if k = j then s.getD i d else if k = i then s.getD j d else s.getD k d := by
  unfold swap
  simp only [List.getD_eq_getElem?_getD, List.getElem?_set, List.length_set]
  by_cases h1 : j = k
  · subst h1; simp [hj]
  · by_cases h2 : i = k
    · subst h2; simp [h1, hi, Ne.symm h1]
    · simp [h1, h2, Ne.symm h1, Ne.symm h2]
theorem swap_perm {α : Type} (d : α) (s : List α) (i j : Nat) (hi : i < s.length) (hj : j < s.length) : (swap d s i j).Perm s := by
  have := List.set_set_perm («as» := s) hi hj
  simpa [swap, List.getD, List.getElem?_eq_getElem hi, List.getElem?_eq_getElem hj] using this

theorem mem_lt {s : List Nat} {N i : Nat} (h : ∀ x ∈ s, x < N) (hi : i < s.length) : s.getD i 0 < N := by
  have : s.getD i 0 ∈ s := by simp [List.getD, List.getElem?_eq_getElem hi]
  exact h _ this

theorem UpAt.start {lt : Nat → Nat → Bool} {s : List Nat} {n : Nat} (h : Heap lt s n) : UpAt lt s (n + 1) n :=
  ⟨fun i h0 hi hne => h i h0 (by omega), fun i h0 hi hp hj => by omega⟩
theorem UpAt.done0 {lt : Nat → Nat → Bool} {s : List Nat} {n : Nat} (h : UpAt lt s n 0) : Heap lt s n := fun i h0 hi => h.1 i h0 hi (by omega)
theorem UpAt.done {lt : Nat → Nat → Bool} {s : List Nat} {n j : Nat} (h : UpAt lt s n j) (hj : lt (s.getD j 0) (s.getD ((j - 1) / 2) 0) = false) : Heap lt s n := by
  intro i h0 hi
  by_cases e : i = j
  · subst e; exact hj
  · exact h.1 i h0 hi e
theorem UpAt.step {lt : Nat → Nat → Bool} {s : List Nat} {n j N : Nat} (S : Strict lt N) (hs : ∀ x ∈ s, x < N) (hn : n ≤ s.length) (hjn : j < n) (h0 : 0 < j) (h : UpAt lt s n j) (hj : lt (s.getD j 0) (s.getD ((j - 1) / 2) 0) = true) :
    UpAt lt (swap 0 s ((j - 1) / 2) j) n ((j - 1) / 2) := by
  obtain ⟨p, hp⟩ : ∃ p, (j - 1) / 2 = p := ⟨_, rfl⟩
  rw [hp] at hj ⊢
  have hpj : p < j := by omega
  have hpl : p < s.length := by omega
  have hjl : j < s.length := by omega
  obtain ⟨A, B⟩ := h
  refine ⟨fun i i0 hi hne => ?_, fun i i0 hi hpar hp0 => ?_⟩
  · rw [swap_getD _ _ _ _ _ hpl hjl, swap_getD _ _ _ _ _ hpl hjl]
    by_cases e1 : i = j
    · subst e1
      rw [if_pos rfl, hp, if_neg (by omega), if_pos rfl]
      exact S.asym hj
    · rw [if_neg e1, if_neg hne]
      have A1 := A i i0 hi e1
      by_cases e2 : (i - 1) / 2 = j
      · rw [if_pos e2]
        have := B i i0 hi e2 h0
        rwa [hp] at this
      · rw [if_neg e2]
        by_cases e3 : (i - 1) / 2 = p
        · rw [if_pos e3]
          rw [e3] at A1
          cases hc : lt (s.getD i 0) (s.getD j 0) with
          | false => rfl
          | true => have := S.trans _ _ _ hc hj; rw [A1] at this; cases this
        · rw [if_neg e3]; exact A1
  · have App := A p hp0 (by omega) (by omega)
    rw [swap_getD _ _ _ _ _ hpl hjl, swap_getD _ _ _ _ _ hpl hjl, if_neg (by omega : ¬ (p - 1) / 2 = j), if_neg (by omega : ¬ (p - 1) / 2 = p)]
    by_cases e1 : i = j
    · rw [if_pos e1]; exact App
    · rw [if_neg e1, if_neg (by omega)]
      have A1 := A i i0 hi e1
      rw [hpar] at A1
      exact S.neg (mem_lt hs (by omega)) (mem_lt hs (by omega)) A1 App

theorem DownAt.start {lt : Nat → Nat → Bool} {s s' : List Nat} {n : Nat} (h : Heap lt s (n + 1)) (hs : ∀ i, 0 < i → i < n → s'.getD i 0 = s.getD i 0) : DownAt lt s' n 0 := by
  refine ⟨fun i h0 hi hne => ?_, fun i h0 hi hp hj => by omega⟩
  rw [hs i h0 hi, hs _ (by omega) (by omega)]
  exact h i h0 (by omega)
theorem DownAt.done {lt : Nat → Nat → Bool} {s : List Nat} {n j : Nat} (h : DownAt lt s n j) (h1 : 2 * j + 1 < n → lt (s.getD (2 * j + 1) 0) (s.getD j 0) = false) (h2 : 2 * j + 2 < n → lt (s.getD (2 * j + 2) 0) (s.getD j 0) = false) : Heap lt s n := by
  intro i h0 hi
  by_cases e : (i - 1) / 2 = j
  · rcases (show i = 2 * j + 1 ∨ i = 2 * j + 2 by omega) with rfl | rfl
    · rw [e]; exact h1 hi
    · rw [e]; exact h2 hi
  · exact h.1 i h0 hi e
/-- The lesser one c of those below j goes up. -/
theorem DownAt.step {lt : Nat → Nat → Bool} {s : List Nat} {n j c N : Nat} (S : Strict lt N) (hn : n ≤ s.length) (hc : c < n) (hcj : c = 2 * j + 1 ∨ c = 2 * j + 2) (h : DownAt lt s n j)
    (hl : lt (s.getD c 0) (s.getD j 0) = true) (hleast : ∀ d, d = 2 * j + 1 ∨ d = 2 * j + 2 → d < n → lt (s.getD d 0) (s.getD c 0) = false) :
    DownAt lt (swap 0 s j c) n c := by
  have hjl : j < s.length := by omega
  have hcl : c < s.length := by omega
  obtain ⟨A, B⟩ := h
  refine ⟨fun i i0 hi hne => ?_, fun i i0 hi hpar hp0 => ?_⟩
  · rw [swap_getD _ _ _ _ _ hjl hcl, swap_getD _ _ _ _ _ hjl hcl, if_neg hne]
    by_cases e1 : i = c
    · rw [if_pos e1, if_pos (by omega)]
      exact S.asym hl
    · rw [if_neg e1]
      by_cases e2 : i = j
      · rw [if_pos e2, if_neg (by omega)]
        have := B c (by omega) hc (by omega) (by omega)
        rwa [e2]
      · rw [if_neg e2]
        by_cases e3 : (i - 1) / 2 = j
        · rw [if_pos e3]; exact hleast i (by omega) hi
        · rw [if_neg e3]; exact A i i0 hi e3
  · have Ai := A i i0 hi (by omega)
    rw [swap_getD _ _ _ _ _ hjl hcl, swap_getD _ _ _ _ _ hjl hcl, if_neg (by omega), if_neg (by omega), if_neg (by omega), if_pos (by omega)]
    rw [hpar] at Ai; exact Ai

/-- Of a heap the first one is the least. -/
theorem Heap.least {lt : Nat → Nat → Bool} {s : List Nat} {n N : Nat} (S : Strict lt N) (hs : ∀ x ∈ s, x < N) (hn : n ≤ s.length) (h : Heap lt s n) : ∀ k i, i ≤ k → i < n → lt (s.getD i 0) (s.getD 0 0) = false := by
  intro k
  induction k with
  | zero => intro i hi hin; have : i = 0 := by omega
            subst this; exact S.irr _
  | succ k ih =>
    intro i hi hin
    by_cases e : i = 0
    · subst e; exact S.irr _
    · exact S.neg (mem_lt hs (by omega)) (mem_lt hs (by omega)) (h i (by omega) hin) (ih _ (by omega) (by omega))

/-- In order, and all there: there is but one such list. -/
theorem one_order {lt : Nat → Nat → Bool} {N : Nat} (S : Strict lt N) {a b : List Nat} (ha : a.Perm (List.range N)) (hb : b.Perm (List.range N)) (pa : a.Pairwise (fun x y => lt y x = false)) (pb : b.Pairwise (fun x y => lt y x = false)) : a = b := by
  refine List.Perm.eq_of_pairwise (le := fun x y => lt y x = false) ?_ pa pb (ha.trans hb.symm)
  intro x y hx hy h1 h2
  have hx' : x < N := by simpa using (ha.mem_iff.1 hx)
  have hy' : y < N := by simpa using (hb.mem_iff.1 hy)
  exact S.tri x y hx' hy' h2 h1

end Go.Proofs.YthgbjnchhaoceaaGreatDoor

/-
  The order of cells: of two that are unlike just one is less; what is less than less is less; three answers of one comparison.
-/
namespace Go.Proofs.YthgbjnchhaoceaaGreatDoor

/-- Held against each other: below 0, 0, or above. -/
def cmpI (x y : Int) : Int := if x < y then -1 else if y < x then 1 else 0
def cmpS (s u : ByteArray) : Int := if Op.bytesLess s.toList u.toList = true then -1 else if Op.bytesLess u.toList s.toList = true then 1 else 0
/-- The first that is not 0. -/
def or3 (a b c : Int) : Int := if a ≠ 0 then a else if b ≠ 0 then b else c
def cmpC (k1 n1 : Int) (t1 : ByteArray) (k2 n2 : Int) (t2 : ByteArray) : Int := or3 (cmpI k1 k2) (cmpI n1 n2) (cmpS t1 t2)

theorem bl_irr (s : ByteArray) : Op.bytesLess s.toList s.toList = false := by
  rw [bytesLess_eq]; simp
theorem bl_asym {s u : ByteArray} (h : Op.bytesLess s.toList u.toList = true) : Op.bytesLess u.toList s.toList = false := by
  rw [bytesLess_eq] at h ⊢
  simp only [decide_eq_true_eq, decide_eq_false_iff_not] at h ⊢
  exact List.lt_asymm h
theorem bl_trans {s u v : ByteArray} (h : Op.bytesLess s.toList u.toList = true) (k : Op.bytesLess u.toList v.toList = true) : Op.bytesLess s.toList v.toList = true := by
  rw [bytesLess_eq] at h k ⊢
  simp only [decide_eq_true_eq] at h k ⊢
  exact List.lt_trans h k
theorem bl_tri {s u : ByteArray} (h : Op.bytesLess s.toList u.toList = false) (k : Op.bytesLess u.toList s.toList = false) : s = u := by
  rw [bytesLess_eq] at h k
  simp only [decide_eq_false_iff_not] at h k
  exact bytes_eq (List.le_antisymm k h)

theorem cmpI_neg (x y : Int) : cmpI y x = - cmpI x y := by
  unfold cmpI
  by_cases h1 : x < y
  · rw [if_neg (by omega), if_pos h1, if_pos h1]; rfl
  · by_cases h2 : y < x
    · rw [if_pos h2, if_neg h1, if_pos h2]
    · rw [if_neg h2, if_neg h1, if_neg h1, if_neg h2]; rfl
theorem cmpS_neg (s u : ByteArray) : cmpS u s = - cmpS s u := by
  unfold cmpS
  cases h1 : Op.bytesLess s.toList u.toList
  · cases h2 : Op.bytesLess u.toList s.toList <;> simp
  · simp [bl_asym h1]
theorem cmpC_neg (k1 n1 : Int) (t1 : ByteArray) (k2 n2 : Int) (t2 : ByteArray) : cmpC k2 n2 t2 k1 n1 t1 = - cmpC k1 n1 t1 k2 n2 t2 := by
  unfold cmpC or3
  rw [cmpI_neg k1 k2, cmpI_neg n1 n2, cmpS_neg t1 t2]
  by_cases h1 : cmpI k1 k2 = 0 <;> by_cases h2 : cmpI n1 n2 = 0 <;> simp [h1, h2]
theorem cmpI_bound (x y : Int) : -1 ≤ cmpI x y ∧ cmpI x y ≤ 1 := by
  unfold cmpI; split
  · omega
  · split <;> omega
theorem cmpS_bound (x y : ByteArray) : -1 ≤ cmpS x y ∧ cmpS x y ≤ 1 := by
  unfold cmpS; split
  · omega
  · split <;> omega
theorem cmpC_bound (k1 n1 : Int) (t1 : ByteArray) (k2 n2 : Int) (t2 : ByteArray) : -1 ≤ cmpC k1 n1 t1 k2 n2 t2 ∧ cmpC k1 n1 t1 k2 n2 t2 ≤ 1 := by
  unfold cmpC or3
  split
  · exact cmpI_bound _ _
  · split
    · exact cmpI_bound _ _
    · exact cmpS_bound _ _
theorem cmpI_lt (x y : Int) : cmpI x y < 0 ↔ x < y := by
  unfold cmpI; split
  · omega
  · split <;> omega
theorem cmpI_zero (x y : Int) : cmpI x y = 0 ↔ x = y := by
  unfold cmpI; split
  · omega
  · split <;> omega
theorem cmpS_lt (s u : ByteArray) : cmpS s u < 0 ↔ Op.bytesLess s.toList u.toList = true := by
  unfold cmpS; split
  · rename_i h; simp [h]
  · rename_i h; split <;> simp [h]
theorem cmpS_zero (s u : ByteArray) : cmpS s u = 0 ↔ s = u := by
  unfold cmpS
  cases h1 : Op.bytesLess s.toList u.toList
  · cases h2 : Op.bytesLess u.toList s.toList
    · simp [bl_tri h1 h2]
    · simp; intro e; rw [e, bl_irr] at h2; cases h2
  · simp; intro e; rw [e, bl_irr] at h1; cases h1

theorem less_cmp (k1 n1 : Int) (t1 : ByteArray) (k2 n2 : Int) (t2 : ByteArray) : lessB k1 n1 t1 k2 n2 t2 = decide (cmpC k1 n1 t1 k2 n2 t2 < 0) := by
  unfold lessB cmpC or3
  by_cases h1 : k1 = k2
  · have e1 : ¬ cmpI k1 k2 ≠ 0 := fun e => e ((cmpI_zero k1 k2).2 h1)
    rw [if_neg (by simp [h1]), if_neg e1]
    by_cases h2 : n1 = n2
    · have e2 : ¬ cmpI n1 n2 ≠ 0 := fun e => e ((cmpI_zero n1 n2).2 h2)
      rw [if_neg (by simp [h2]), if_neg e2]
      have := cmpS_lt t1 t2
      cases h : Op.bytesLess t1.toList t2.toList <;> rw [h] at this <;> simp at this <;> simp [this]
    · have e2 : cmpI n1 n2 ≠ 0 := fun e => h2 ((cmpI_zero n1 n2).1 e)
      rw [if_pos (by simp [h2]), if_pos e2, decide_eq_decide.2 (cmpI_lt n1 n2)]
  · have e1 : cmpI k1 k2 ≠ 0 := fun e => h1 ((cmpI_zero k1 k2).1 e)
    rw [if_pos (by simp [h1]), if_pos e1, decide_eq_decide.2 (cmpI_lt k1 k2)]
theorem cmpC_zero (k1 n1 : Int) (t1 : ByteArray) (k2 n2 : Int) (t2 : ByteArray) : cmpC k1 n1 t1 k2 n2 t2 = 0 ↔ k1 = k2 ∧ n1 = n2 ∧ t1 = t2 := by
  unfold cmpC or3
  by_cases h1 : cmpI k1 k2 = 0
  · have e1 := (cmpI_zero k1 k2).1 h1
    rw [if_neg (Decidable.not_not.2 h1)]
    by_cases h2 : cmpI n1 n2 = 0
    · have e2 := (cmpI_zero n1 n2).1 h2
      rw [if_neg (Decidable.not_not.2 h2), cmpS_zero]
      exact ⟨fun h => ⟨e1, e2, h⟩, fun h => h.2.2⟩
    · have e2 : ¬ n1 = n2 := fun e => h2 ((cmpI_zero n1 n2).2 e)
      rw [if_pos h2]
      exact ⟨fun h => absurd h h2, fun h => absurd h.2.1 e2⟩
  · have e1 : ¬ k1 = k2 := fun e => h1 ((cmpI_zero k1 k2).2 e)
    rw [if_pos h1]
    exact ⟨fun h => absurd h h1, fun h => absurd h.1 e1⟩

abbrev CT3 := Int × Int × ByteArray
/-- The same of two cells. -/
def lessC (x y : CT3) : Bool := lessB x.1 x.2.1 x.2.2 y.1 y.2.1 y.2.2
theorem lessC_irr (x : CT3) : lessC x x = false := by
  unfold lessC; rw [less_cmp, (cmpC_zero _ _ _ _ _ _).2 ⟨rfl, rfl, rfl⟩]; rfl
theorem lessC_tri {x y : CT3} (h : lessC x y = false) (k : lessC y x = false) : x = y := by
  obtain ⟨a, b, c⟩ := x
  obtain ⟨d, e, f⟩ := y
  unfold lessC at h k
  rw [less_cmp] at h k
  rw [cmpC_neg a b c d e f] at k
  simp only [decide_eq_false_iff_not] at h k
  obtain ⟨rfl, rfl, rfl⟩ := (cmpC_zero a b c d e f).1 (by omega)
  rfl
theorem lessC_trans {x y z : CT3} (h : lessC x y = true) (k : lessC y z = true) : lessC x z = true := by
  obtain ⟨a, b, c⟩ := x
  obtain ⟨d, e, f⟩ := y
  obtain ⟨g, i, j⟩ := z
  unfold lessC lessB at *
  dsimp only at *
  by_cases h1 : a = d
  · subst h1
    by_cases k1 : a = g
    · subst k1
      simp only [bne_self_eq_false, Bool.false_eq_true, if_false] at h k ⊢
      by_cases h2 : b = e
      · subst h2
        by_cases k2 : b = i
        · subst k2
          simp only [bne_self_eq_false, Bool.false_eq_true, if_false] at h k ⊢
          exact bl_trans h k
        · simp [k2] at k ⊢; exact k
      · by_cases k2 : e = i
        · subst k2; simp [h2] at h ⊢; exact h
        · simp [h2] at h
          simp [k2] at k
          simp [show ¬ b = i by omega]; omega
    · simp [k1] at k ⊢; exact k
  · by_cases k1 : d = g
    · subst k1; simp [h1] at h ⊢; exact h
    · simp [h1] at h
      simp [k1] at k
      simp [show ¬ a = g by omega]; omega
theorem lessC_asym {x y : CT3} (h : lessC x y = true) : lessC y x = false := by
  cases k : lessC y x with
  | false => rfl
  | true => have := lessC_trans h k; rw [lessC_irr] at this; cases this

/-- By a cell of each, up or down, then by place. -/
def placeLt (key : Nat → CT3) (down : Bool) (i j : Nat) : Bool :=
  if lessC (key i) (key j) = true then !down else if lessC (key j) (key i) = true then down else decide (i < j)
theorem placeLt_strict (key : Nat → CT3) (down : Bool) (n : Nat) : Strict (placeLt key down) n where
  irr a := by simp [placeLt, lessC_irr]
  tri a b _ _ h k := by
    unfold placeLt at h k
    cases h1 : lessC (key a) (key b)
    · cases h2 : lessC (key b) (key a)
      · simp [h1, h2] at h k; omega
      · rw [h1] at h k; rw [h2] at h k; cases down <;> simp at h k
    · have h2 := lessC_asym h1
      rw [h1] at h k; rw [h2] at h k; cases down <;> simp at h k
  trans a b c h k := by
    unfold placeLt at *
    cases h1 : lessC (key a) (key b)
    · cases h2 : lessC (key b) (key a)
      · have e := lessC_tri h1 h2
        rw [h1, h2] at h
        rw [e]
        cases h3 : lessC (key b) (key c)
        · cases h4 : lessC (key c) (key b)
          · simp [h3, h4] at h k ⊢; omega
          · simp [h3, h4] at h k ⊢; exact k
        · simp [h3] at k ⊢; exact k
      · rw [h1, h2] at h
        simp at h
        subst h
        cases h3 : lessC (key b) (key c)
        · cases h4 : lessC (key c) (key b)
          · have e := lessC_tri h3 h4
            rw [← e]; simp [h1, h2]
          · have := lessC_trans h4 h2
            simp [this, lessC_asym this]
        · simp [h3] at k
    · rw [h1] at h
      simp at h
      subst h
      cases h3 : lessC (key b) (key c)
      · cases h4 : lessC (key c) (key b)
        · have e := lessC_tri h3 h4
          rw [← e]; simp [h1]
        · simp [h3, h4] at k
      · have := lessC_trans h1 h3
        simp [this]

end Go.Proofs.YthgbjnchhaoceaaGreatDoor

/-
  The contracts of the library's comparisons that the program's order of cells is made of, and of that order.
-/
namespace Go.Proofs.YthgbjnchhaoceaaGreatDoor
open Go.ChangeShapes Go.WideShapes Go.ChangeAt Go.RowKit
attribute [local go_sem ↓] Go.wp_at_zero Go.wp_at_succ
attribute [local simp] World.cell?_alloc_past World.cell?_alloc_at World.frozen?_alloc_at cell_far cell_off cell_here World.frozen?_alloc_past

theorem nan_i (x : Int) (w : World) : Calls Tryz.prog 187 #[.int .i64 x] w fun e w' => e = .returned (.bool false) ∧ w = w' := by
  go_enter Tryz.func187, Tryz.ntmps187
  go_wp2
  go_ret
  exact ⟨by simp, rfl⟩

theorem nan_s (x : ByteArray) (w : World) : Calls Tryz.prog 150 #[.string x] w fun e w' => e = .returned (.bool false) ∧ w = w' := by
  go_enter Tryz.func150, Tryz.ntmps150
  go_wp2
  go_ret
  exact ⟨by simp, rfl⟩

set_option maxHeartbeats 1000000 in
theorem compare_i (x y : Int) (w : World) : Calls Tryz.prog 178 #[.int .i64 x, .int .i64 y] w fun e w' => e = .returned (.int .i64 (cmpI x y)) ∧ w = w' := by
  by_cases h1 : x < y
  · rw [show cmpI x y = -1 from if_pos h1]
    go_enter Tryz.func178, Tryz.ntmps178
    go_wp2_with (go_at_call 187; refine (nan_i _ _).mono ?_; rintro e w' ⟨rfl, rfl⟩)
    go_ret
    exact ⟨rfl, rfl⟩
  by_cases h2 : y < x
  · rw [show cmpI x y = 1 from by rw [cmpI, if_neg h1, if_pos h2]]
    go_enter Tryz.func178, Tryz.ntmps178
    go_wp2_with (go_at_call 187; refine (nan_i _ _).mono ?_; rintro e w' ⟨rfl, rfl⟩)
    go_ret
    exact ⟨rfl, rfl⟩
  rw [show cmpI x y = 0 from by rw [cmpI, if_neg h1, if_neg h2]]
  go_enter Tryz.func178, Tryz.ntmps178
  go_wp2_with (go_at_call 187; refine (nan_i _ _).mono ?_; rintro e w' ⟨rfl, rfl⟩)
  go_ret
  exact ⟨rfl, rfl⟩

theorem gtr_bl (x y : ByteArray) : (!(Op.bytesLess x.toList y.toList || x.toList == y.toList)) = Op.bytesLess y.toList x.toList := by
  cases h1 : Op.bytesLess x.toList y.toList
  · by_cases h2 : x.toList = y.toList
    · rw [bytes_eq h2, bl_irr]; simp
    · cases h3 : Op.bytesLess y.toList x.toList
      · exact absurd (congrArg _ (bl_tri h1 h3)) h2
      · simp [h2]
  · rw [bl_asym h1]; rfl
theorem run_gtr (x y : ByteArray) (w : World) : (binOp .gtr 9 (.string x) (.string y)).run Tryz.prog w = .ok (.bool (Op.bytesLess y.toList x.toList)) w := by
  rw [← gtr_bl]; kernel_rfl

set_option maxHeartbeats 1000000 in
theorem compare_s (x y : ByteArray) (w : World) : Calls Tryz.prog 179 #[.string x, .string y] w fun e w' => e = .returned (.int .i64 (cmpS x y)) ∧ w = w' := by
  have hq : ∀ w, (binOp .gtr 9 (.string x) (.string y)).run Tryz.prog w = .ok (.bool (Op.bytesLess y.toList x.toList)) w := fun w => run_gtr x y w
  cases h1 : Op.bytesLess x.toList y.toList
  · cases h2 : Op.bytesLess y.toList x.toList
    · rw [show cmpS x y = 0 from by simp [cmpS, h1, h2]]
      rw [h2] at hq
      go_enter Tryz.func179, Tryz.ntmps179
      go_wp2_with (go_at_call 150; refine (nan_s _ _).mono ?_; rintro e w' ⟨rfl, rfl⟩)
      go_ret
      exact ⟨rfl, rfl⟩
    · rw [show cmpS x y = 1 from by simp [cmpS, h1, h2]]
      rw [h2] at hq
      go_enter Tryz.func179, Tryz.ntmps179
      go_wp2_with (go_at_call 150; refine (nan_s _ _).mono ?_; rintro e w' ⟨rfl, rfl⟩)
      go_ret
      exact ⟨rfl, rfl⟩
  · rw [show cmpS x y = -1 from by simp [cmpS, h1]]
    go_enter Tryz.func179, Tryz.ntmps179
    go_wp2_with (go_at_call 150; refine (nan_s _ _).mono ?_; rintro e w' ⟨rfl, rfl⟩)
    go_ret
    exact ⟨rfl, rfl⟩

/-- The first of a list that is not 0. -/
def orL : List Int → Int
  | [] => 0
  | z :: l => if z ≠ 0 then z else orL l

set_option maxHeartbeats 1000000 in
theorem or_cmp (b o cap : Nat) (zs : List Int) (w : World) (h : ∀ j (hj : j < zs.length), w.cell? ⟨b, o + j, none⟩ = some (.int .i64 zs[j])) (hm : zs.length ≤ 1000) :
    Calls Tryz.prog 177 #[.slice (some ⟨b, o, none⟩) zs.length cap] w fun e w' => e = .returned (.int .i64 (orL zs)) ∧ w = w' := by
  have hH : Hid (∀ j (hj : j < zs.length), w.cell? ⟨b, o + j, none⟩ = some (.int .i64 zs[j])) := h
  clear h
  go_enter Tryz.func177, Tryz.ntmps177
  go_wp2
  go_loopw [8] (fun i wr => ∃ k : Nat, k ≤ zs.length ∧ i = .int .i64 k ∧ orL zs = orL (zs.drop k) ∧ w = wr) (fun i _ => zs.length - (intOf i).toNat)
  case atStart => exact ⟨0, Nat.zero_le _, rfl, rfl, rfl⟩
  case round =>
    obtain ⟨k, hk, rfl, hor, rfl⟩ := hrel
    by_cases hlt : k < zs.length
    · have c0 := hH.out k hlt
      rw [List.drop_eq_getElem_cons hlt] at hor
      have hi0 : (0 : Int) ≤ (k : Int) := by omega
      have hi1 : (k : Int) < (zs.length : Int) := by omega
      generalize zs[k] = z at c0 hor
      by_cases hz : z = 0
      · subst hz
        rw [show orL (0 :: zs.drop (k + 1)) = orL (zs.drop (k + 1)) from rfl] at hor
        go_wp2
        go_roundw
        case rel => exact ⟨k + 1, by omega, by go_num, hor, by trivial⟩
        case measure => simp [intOf]; omega
      · rw [show orL (z :: zs.drop (k + 1)) = z from if_pos hz] at hor
        go_wp2
        go_ret
        exact ⟨ret_int hor.symm, rfl⟩
    · rw [List.drop_of_length_le (by omega)] at hor
      go_wp2
      go_ret
      exact ⟨ret_int hor.symm, rfl⟩

end Go.Proofs.YthgbjnchhaoceaaGreatDoor

/-
  The contract of the program's order of cells.
-/
namespace Go.Proofs.YthgbjnchhaoceaaGreatDoor
open Go.ChangeShapes Go.WideShapes Go.ChangeAt Go.RowKit
attribute [local go_sem ↓] Go.wp_at_zero Go.wp_at_succ
attribute [local simp] World.cell?_alloc_past World.cell?_alloc_at World.frozen?_alloc_at cell_far cell_off cell_here World.frozen?_alloc_past

theorem or3_orL (a b c : Int) : orL [a, b, c] = or3 a b c := by
  unfold orL or3; split
  · rfl
  · unfold orL; split
    · rfl
    · unfold orL; split
      · rfl
      · rename_i h; rw [orL]; omega

set_option maxHeartbeats 2000000 in
theorem compare_cells (k1 n1 : Int) (t1 : ByteArray) (k2 n2 : Int) (t2 : ByteArray) (w : World) :
    Calls Tryz.prog 168 #[.agg #[.int .i64 k1, .int .i64 n1, .string t1], .agg #[.int .i64 k2, .int .i64 n2, .string t2]] w fun e w' => e = .returned (.int .i64 (cmpC k1 n1 t1 k2 n2 t2)) ∧ Below w.heap.size w w' := by
  have H1 : Hid (∀ w, Calls Tryz.prog 178 #[.int .i64 k1, .int .i64 k2] w fun e w' => e = .returned (.int .i64 (cmpI k1 k2)) ∧ w = w') := fun w => compare_i _ _ w
  have H2 : Hid (∀ w, Calls Tryz.prog 178 #[.int .i64 n1, .int .i64 n2] w fun e w' => e = .returned (.int .i64 (cmpI n1 n2)) ∧ w = w') := fun w => compare_i _ _ w
  have H3 : Hid (∀ w, Calls Tryz.prog 179 #[.string t1, .string t2] w fun e w' => e = .returned (.int .i64 (cmpS t1 t2)) ∧ w = w') := fun w => compare_s _ _ w
  unfold cmpC
  generalize cmpI k1 k2 = x at H1 ⊢
  generalize cmpI n1 n2 = y at H2 ⊢
  generalize cmpS t1 t2 = z at H3 ⊢
  rw [← or3_orL]
  go_enter Tryz.func168, Tryz.ntmps168
  go_wp2_with fail
  refine wp_region_held_drew (S := (fun w' => w'.cell? ⟨w.heap.size, 0, none⟩ = some (.int .i64 k1) ∧ w'.cell? ⟨w.heap.size, 1, none⟩ = some (.int .i64 n1) ∧ w'.cell? ⟨w.heap.size, 2, none⟩ = some (.string t1) ∧ w'.cell? ⟨w.heap.size + 1, 0, none⟩ = some (.int .i64 k2) ∧ w'.cell? ⟨w.heap.size + 1, 1, none⟩ = some (.int .i64 n2) ∧ w'.cell? ⟨w.heap.size + 1, 2, none⟩ = some (.string t2))) (by kernel_rfl) ?_ (fun hHeld => ?_)
  · (((try dsimp only); (repeat' apply And.intro) <;> first | (go_keep; done) | (simp (disch := first | omega | (simp <;> omega) | fail) [*]; done) | fail))
  refine wpAnyH_take (i := 0) (by simp only [List.getElem?_toArray, List.getElem?_cons_zero]; rfl) (by kernel_rfl) (by kernel_rfl) (by kernel_rfl) (by intro _ _ _ h; exact h) (Or.inl ⟨by rfl, fun w hSw => by (dsimp only at hSw; go_simp; (try with_reducible rfl))⟩) (by assumption) ?_
  simp only [Act.put, List.setIfInBounds_toArray, List.set_cons_zero, List.set_cons_succ]
  refine wpAnyH_take (i := 1) (by simp only [List.getElem?_toArray, List.getElem?_cons_zero, List.getElem?_cons_succ]; rfl) (by kernel_rfl) (by kernel_rfl) (by kernel_rfl) (by intro _ _ _ h; exact h) (Or.inl ⟨by rfl, fun w hSw => by (dsimp only at hSw; go_simp; (try with_reducible rfl))⟩) (by assumption) ?_
  simp only [Act.put, List.setIfInBounds_toArray, List.set_cons_zero, List.set_cons_succ]
  refine wpAnyH_take (i := 2) (by simp only [List.getElem?_toArray, List.getElem?_cons_zero, List.getElem?_cons_succ]; rfl) (by kernel_rfl) (by kernel_rfl) (by kernel_rfl) (by intro _ _ _ h; exact h) (Or.inl ⟨by rfl, fun w hSw => by (dsimp only at hSw; go_simp; (try with_reducible rfl))⟩) (by assumption) ?_
  simp only [Act.put, List.setIfInBounds_toArray, List.set_cons_zero, List.set_cons_succ]
  refine wpAnyH_take (i := 3) (by simp only [List.getElem?_toArray, List.getElem?_cons_zero, List.getElem?_cons_succ]; rfl) (by kernel_rfl) (by kernel_rfl) (by kernel_rfl) (by intro _ _ _ h; exact h) (Or.inl ⟨by rfl, fun w hSw => by (dsimp only at hSw; go_simp; (try with_reducible rfl))⟩) (by assumption) ?_
  simp only [Act.put, List.setIfInBounds_toArray, List.set_cons_zero, List.set_cons_succ]
  refine wpAnyH_take (i := 5) (by simp only [List.getElem?_toArray, List.getElem?_cons_zero, List.getElem?_cons_succ]; rfl) (by kernel_rfl) (by kernel_rfl) (by kernel_rfl) (by intro _ _ _ h; exact h) (Or.inl ⟨by rfl, fun w hSw => by (dsimp only at hSw; go_simp; (try with_reducible rfl))⟩) (by assumption) ?_
  simp only [Act.put, List.setIfInBounds_toArray, List.set_cons_zero, List.set_cons_succ]
  refine wpAnyH_take (i := 6) (by simp only [List.getElem?_toArray, List.getElem?_cons_zero, List.getElem?_cons_succ]; rfl) (by kernel_rfl) (by kernel_rfl) (by kernel_rfl) (by intro _ _ _ h; exact h) (Or.inl ⟨by rfl, fun w hSw => by (dsimp only at hSw; go_simp; (try with_reducible rfl))⟩) (by assumption) ?_
  simp only [Act.put, List.setIfInBounds_toArray, List.set_cons_zero, List.set_cons_succ]
  refine wpAnyH_take (i := 7) (by simp only [List.getElem?_toArray, List.getElem?_cons_zero, List.getElem?_cons_succ]; rfl) (by kernel_rfl) (by kernel_rfl) (by kernel_rfl) (by intro _ _ _ h; exact h) (Or.inl ⟨by rfl, fun w hSw => by (dsimp only at hSw; go_simp; (try with_reducible rfl))⟩) (by assumption) ?_
  simp only [Act.put, List.setIfInBounds_toArray, List.set_cons_zero, List.set_cons_succ]
  refine wpAnyH_take (i := 8) (by simp only [List.getElem?_toArray, List.getElem?_cons_zero, List.getElem?_cons_succ]; rfl) (by kernel_rfl) (by kernel_rfl) (by kernel_rfl) (by intro _ _ _ h; exact h) (Or.inl ⟨by rfl, fun w hSw => by (dsimp only at hSw; go_simp; (try with_reducible rfl))⟩) (by assumption) ?_
  simp only [Act.put, List.setIfInBounds_toArray, List.set_cons_zero, List.set_cons_succ]
  refine wpAnyH_take (i := 10) (by simp only [List.getElem?_toArray, List.getElem?_cons_zero, List.getElem?_cons_succ]; rfl) (by kernel_rfl) (by kernel_rfl) (by kernel_rfl) (by intro _ _ _ h; exact h) (Or.inl ⟨by rfl, fun w hSw => by (dsimp only at hSw; go_simp; (try with_reducible rfl))⟩) (by assumption) ?_
  simp only [Act.put, List.setIfInBounds_toArray, List.set_cons_zero, List.set_cons_succ]
  refine wpAnyH_take (i := 11) (by simp only [List.getElem?_toArray, List.getElem?_cons_zero, List.getElem?_cons_succ]; rfl) (by kernel_rfl) (by kernel_rfl) (by kernel_rfl) (by intro _ _ _ h; exact h) (Or.inl ⟨by rfl, fun w hSw => by (dsimp only at hSw; go_simp; (try with_reducible rfl))⟩) (by assumption) ?_
  simp only [Act.put, List.setIfInBounds_toArray, List.set_cons_zero, List.set_cons_succ]
  refine wpAnyH_take (i := 12) (by simp only [List.getElem?_toArray, List.getElem?_cons_zero, List.getElem?_cons_succ]; rfl) (by kernel_rfl) (by kernel_rfl) (by kernel_rfl) (by intro _ _ _ h; exact h) (Or.inl ⟨by rfl, fun w hSw => by (dsimp only at hSw; go_simp; (try with_reducible rfl))⟩) (by assumption) ?_
  simp only [Act.put, List.setIfInBounds_toArray, List.set_cons_zero, List.set_cons_succ]
  refine wpAnyH_take (i := 13) (by simp only [List.getElem?_toArray, List.getElem?_cons_zero, List.getElem?_cons_succ]; rfl) (by kernel_rfl) (by kernel_rfl) (by kernel_rfl) (by intro _ _ _ h; exact h) (Or.inl ⟨by rfl, fun w hSw => by (dsimp only at hSw; go_simp; (try with_reducible rfl))⟩) (by assumption) ?_
  simp only [Act.put, List.setIfInBounds_toArray, List.set_cons_zero, List.set_cons_succ]
  refine wpAnyH_ready (rs := [4]) (by kernel_rfl) (by simp) ?_
  refine AllReadyH.cons (by simp only [List.getElem?_toArray, List.getElem?_cons_zero, List.getElem?_cons_succ]; rfl) ?_ AllReadyH.nil
  intro K hK
  go_simp
  refine (H1.out _).mono ?_
  rintro e w' ⟨rfl, rfl⟩
  go_wp2_with fail
  refine hK.out _ _ ?_ (fun hHeld => ?_)
  · (((try dsimp only); (repeat' apply And.intro) <;> first | (go_keep; done) | (simp (disch := first | omega | (simp <;> omega) | fail) [*]; done) | fail))
  clear hK K
  try simp only [Act.put, List.setIfInBounds_toArray, List.set_cons_zero, List.set_cons_succ]
  refine wpAnyH_ready (rs := [9]) (by kernel_rfl) (by simp) ?_
  refine AllReadyH.cons (by simp only [List.getElem?_toArray, List.getElem?_cons_zero, List.getElem?_cons_succ]; rfl) ?_ AllReadyH.nil
  intro K hK
  go_simp
  refine (H2.out _).mono ?_
  rintro e w' ⟨rfl, rfl⟩
  go_wp2_with fail
  refine hK.out _ _ ?_ (fun hHeld => ?_)
  · (((try dsimp only); (repeat' apply And.intro) <;> first | (go_keep; done) | (simp (disch := first | omega | (simp <;> omega) | fail) [*]; done) | fail))
  clear hK K
  try simp only [Act.put, List.setIfInBounds_toArray, List.set_cons_zero, List.set_cons_succ]
  refine wpAnyH_ready (rs := [14]) (by kernel_rfl) (by simp) ?_
  refine AllReadyH.cons (by simp only [List.getElem?_toArray, List.getElem?_cons_zero, List.getElem?_cons_succ]; rfl) ?_ AllReadyH.nil
  intro K hK
  go_simp
  refine (H3.out _).mono ?_
  rintro e w' ⟨rfl, rfl⟩
  go_wp2_with fail
  refine hK.out _ _ ?_ (fun hHeld => ?_)
  · (((try dsimp only); (repeat' apply And.intro) <;> first | (go_keep; done) | (simp (disch := first | omega | (simp <;> omega) | fail) [*]; done) | fail))
  clear hK K
  try simp only [Act.put, List.setIfInBounds_toArray, List.set_cons_zero, List.set_cons_succ]
  refine wpAnyH_ready (rs := [15]) (by kernel_rfl) (by simp) ?_
  refine AllReadyH.cons (by simp only [List.getElem?_toArray, List.getElem?_cons_zero, List.getElem?_cons_succ]; rfl) ?_ AllReadyH.nil
  intro K hK
  go_simp
  refine hK.out _ _ ?_ (fun hHeld => ?_)
  · (((try dsimp only); (repeat' apply And.intro) <;> first | (go_keep; done) | (simp (disch := first | omega | (simp <;> omega) | fail) [*]; done) | fail))
  clear hK K
  try simp only [Act.put, List.setIfInBounds_toArray, List.set_cons_zero, List.set_cons_succ]
  refine wpAnyH_ready (rs := [16]) (by kernel_rfl) (by simp) ?_
  refine AllReadyH.cons (by simp only [List.getElem?_toArray, List.getElem?_cons_zero, List.getElem?_cons_succ]; rfl) ?_ AllReadyH.nil
  intro K hK
  go_simp
  refine (or_cmp _ _ _ [x, y, z] _ ?_ (by simp)).mono ?_
  · intro j hj
    match j, hj with
    | 0, _ => simp
    | 1, _ => simp
    | 2, _ => simp
  rintro e w' ⟨rfl, rfl⟩
  go_wp2_with fail
  refine hK.out _ _ ?_ (fun hHeld => ?_)
  · (((try dsimp only); (repeat' apply And.intro) <;> first | (go_keep; done) | (simp (disch := first | omega | (simp <;> omega) | fail) [*]; done) | fail))
  clear hK K
  try simp only [Act.put, List.setIfInBounds_toArray, List.set_cons_zero, List.set_cons_succ]
  refine wpAnyH_take (i := 17) (by simp only [List.getElem?_toArray, List.getElem?_cons_zero, List.getElem?_cons_succ]; rfl) (by kernel_rfl) (by kernel_rfl) (by kernel_rfl) (by intro _ _ _ h; exact h) (Or.inl ⟨by rfl, fun w hSw => by (dsimp only at hSw; go_simp; (try with_reducible rfl))⟩) (by assumption) ?_
  simp only [Act.put, List.setIfInBounds_toArray, List.set_cons_zero, List.set_cons_succ]
  refine wpAnyH_done (by kernel_rfl) ?_ _
  go_wp2_with fail
  go_ret
  exact ⟨rfl, by go_grown⟩

theorem compare_cellsb (k1 n1 : Int) (t1 : ByteArray) (k2 n2 : Int) (t2 : ByteArray) (c : Int) (hc : cmpC k1 n1 t1 k2 n2 t2 = c) (w : World) :
    Calls Tryz.prog 168 #[.agg #[.int .i64 k1, .int .i64 n1, .string t1], .agg #[.int .i64 k2, .int .i64 n2, .string t2]] w fun e w' => e = .returned (.int .i64 c) ∧ Below w.heap.size w w' := by
  subst hc; exact compare_cells k1 n1 t1 k2 n2 t2 w

theorem cless_impl (k1 n1 : Int) (t1 : ByteArray) (k2 n2 : Int) (t2 : ByteArray) (w : World) :
    Calls Tryz.prog 158 #[.agg #[.int .i64 k1, .int .i64 n1, .string t1], .agg #[.int .i64 k2, .int .i64 n2, .string t2]] w fun e w' => e = .returned (.bool (lessB k1 n1 t1 k2 n2 t2)) ∧ Below w.heap.size w w' := by
  rw [less_cmp]
  obtain ⟨c, hc⟩ : ∃ c, cmpC k1 n1 t1 k2 n2 t2 = c := ⟨_, rfl⟩
  rw [hc]
  go_enter Tryz.func158, Tryz.ntmps158
  go_wp2_with fail
  refine (compare_cellsb _ _ _ _ _ _ c hc _).mono ?_
  rintro e w1 ⟨rfl, hb1⟩
  have hx := chainAA hb1
  go_wp2
  go_ret
  exact ⟨rfl, hx⟩

theorem cless_implb (k1 n1 : Int) (t1 : ByteArray) (k2 n2 : Int) (t2 : ByteArray) (b : Bool) (hb : lessB k1 n1 t1 k2 n2 t2 = b) (w : World) :
    Calls Tryz.prog 158 #[.agg #[.int .i64 k1, .int .i64 n1, .string t1], .agg #[.int .i64 k2, .int .i64 n2, .string t2]] w fun e w' => e = .returned (.bool b) ∧ Below w.heap.size w w' := by
  subst hb; exact cless_impl k1 n1 t1 k2 n2 t2 w

end Go.Proofs.YthgbjnchhaoceaaGreatDoor
