/-
  The contracts of the program's Both, Either, Not, IsNone and Holds: what comes of right answers, and what else.
-/
import Derived.Test.YtgablbdphflokaaThree1
namespace Go.Proofs.Ytgablbdphflokaa
open Go.ChangeShapes Go.WideShapes Go.ChangeAt Go.RowKit
attribute [local go_sem ↓] Go.wp_at_zero Go.wp_at_succ

theorem rank_in (k n : Int) : 0 ≤ rankI k n ∧ rankI k n ≤ 2 := by
  unfold rankI
  split
  · omega
  · split <;> omega

set_option maxHeartbeats 400000 in
theorem answered0 (g : Nat) (hent : ∀ (xs : Array Value) (w : World), (callFunc g xs).run Try.prog w = .ok (.enter g xs) w) (z : Int) (k n : Int) (t : ByteArray) (x : Int) (rt : Bool) (hr : threeB k n t = rt) (hx : (if rt = true then rankI k n else 0) = x)
    (hg : ∀ w, rt = true → Calls Try.prog g #[.int .i64 x] w fun e w' => e = .returned (.int .i64 z) ∧ w' = w) (w : World) (ht : t.size ≤ maxLen) :
    Calls Try.prog 62 #[.func (.func g) #[] #[], .agg #[.int .i64 k, .int .i64 n, .string t]] w fun e w' => e = .returned (.tuple #[.agg #[.int .i64 (resT rt z).1, .int .i64 (resT rt z).2.1, .string ⟨#[]⟩], .int .i64 (resT rt z).2.2]) ∧ Below w.heap.size w w' := by
  have A : Hid (∀ w, Calls Try.prog 61 #[.agg #[.int .i64 k, .int .i64 n, .string t]] w fun e w' => e = .returned (.tuple #[.int .i64 x, .bool rt]) ∧ Below w.heap.size w w') := fun w => answer_impl k n t x rt hr hx w ht
  clear hr hx
  cases rt
  · clear hg
    simp only [show resT false z = (0, 0, 3) from rfl]
    go_enter Try.func62, Try.ntmps62
    go_wp2_with fail
    refine (A.out _).mono ?_
    rintro e w1 ⟨rfl, hb1⟩
    obtain ⟨⟨a1, b1, c1, d1⟩, ⟨x1, y1, z1, s1⟩, f0, f1, f2⟩ := two3 hb1
    have hx := chainAA hb1
    have hxs := hx.size
    go_wp2
    exact bodyPost_ret (v := .tuple #[.agg #[.int .i64 0, .int .i64 0, .string ⟨#[]⟩], .int .i64 3]) (by simp [results, Try.results62, go_sem, x1, y1, z1]) rfl ⟨rfl, by go_grown⟩
  · have G : Hid (∀ w, Calls Try.prog g #[.int .i64 x] w fun e w' => e = .returned (.int .i64 z) ∧ w' = w) := fun w => hg w rfl
    clear hg
    simp only [show resT true z = (rkK z, rkN z, 0) from rfl]
    go_enter Try.func62, Try.ntmps62
    go_wp2_with fail
    refine (A.out _).mono ?_
    rintro e w1 ⟨rfl, hb1⟩
    obtain ⟨⟨a1, b1, c1, d1⟩, ⟨x1, y1, z1, s1⟩, ff⟩ := two3 hb1
    go_wp2_with fail
    refine (G.out _).mono ?_
    rintro e w' ⟨rfl, rfl⟩
    go_wp2_with fail
    refine (acell_impl _ _).mono ?_
    rintro e w2 ⟨rfl, hb2⟩
    obtain ⟨f0, f1, f2⟩ := frozen3 hb2 s1 ff
    obtain ⟨x2, y2, z2, s2⟩ := later3 hb2 ⟨x1, y1, z1, s1⟩
    have hx := chain (chainAA hb1) hb2
    have hxs := hx.size
    go_wp2
    exact bodyPost_ret (v := .tuple #[.agg #[.int .i64 (rkK z), .int .i64 (rkN z), .string ⟨#[]⟩], .int .i64 0]) (by simp [results, Try.results62, go_sem, x2, y2, z2]) rfl ⟨rfl, by go_grown⟩

set_option maxHeartbeats 400000 in
theorem answered1 (g : Nat) (hent : ∀ (xs : Array Value) (w : World), (callFunc g xs).run Try.prog w = .ok (.enter g xs) w) (y : Int) (z : Int) (k n : Int) (t : ByteArray) (x : Int) (rt : Bool) (hr : threeB k n t = rt) (hx : (if rt = true then rankI k n else 0) = x)
    (hg : ∀ w, rt = true → Calls Try.prog g #[.int .i64 y, .int .i64 x] w fun e w' => e = .returned (.int .i64 z) ∧ w' = w) (w : World) (ht : t.size ≤ maxLen) :
    Calls Try.prog 62 #[.func (.func g) #[.int .i64 y] #[], .agg #[.int .i64 k, .int .i64 n, .string t]] w fun e w' => e = .returned (.tuple #[.agg #[.int .i64 (resT rt z).1, .int .i64 (resT rt z).2.1, .string ⟨#[]⟩], .int .i64 (resT rt z).2.2]) ∧ Below w.heap.size w w' := by
  have A : Hid (∀ w, Calls Try.prog 61 #[.agg #[.int .i64 k, .int .i64 n, .string t]] w fun e w' => e = .returned (.tuple #[.int .i64 x, .bool rt]) ∧ Below w.heap.size w w') := fun w => answer_impl k n t x rt hr hx w ht
  clear hr hx
  cases rt
  · clear hg
    simp only [show resT false z = (0, 0, 3) from rfl]
    go_enter Try.func62, Try.ntmps62
    go_wp2_with fail
    refine (A.out _).mono ?_
    rintro e w1 ⟨rfl, hb1⟩
    obtain ⟨⟨a1, b1, c1, d1⟩, ⟨x1, y1, z1, s1⟩, f0, f1, f2⟩ := two3 hb1
    have hx := chainAA hb1
    have hxs := hx.size
    go_wp2
    exact bodyPost_ret (v := .tuple #[.agg #[.int .i64 0, .int .i64 0, .string ⟨#[]⟩], .int .i64 3]) (by simp [results, Try.results62, go_sem, x1, y1, z1]) rfl ⟨rfl, by go_grown⟩
  · have G : Hid (∀ w, Calls Try.prog g #[.int .i64 y, .int .i64 x] w fun e w' => e = .returned (.int .i64 z) ∧ w' = w) := fun w => hg w rfl
    clear hg
    simp only [show resT true z = (rkK z, rkN z, 0) from rfl]
    go_enter Try.func62, Try.ntmps62
    go_wp2_with fail
    refine (A.out _).mono ?_
    rintro e w1 ⟨rfl, hb1⟩
    obtain ⟨⟨a1, b1, c1, d1⟩, ⟨x1, y1, z1, s1⟩, ff⟩ := two3 hb1
    go_wp2_with fail
    refine (G.out _).mono ?_
    rintro e w' ⟨rfl, rfl⟩
    go_wp2_with fail
    refine (acell_impl _ _).mono ?_
    rintro e w2 ⟨rfl, hb2⟩
    obtain ⟨f0, f1, f2⟩ := frozen3 hb2 s1 ff
    obtain ⟨x2, y2, z2, s2⟩ := later3 hb2 ⟨x1, y1, z1, s1⟩
    have hx := chain (chainAA hb1) hb2
    have hxs := hx.size
    go_wp2
    exact bodyPost_ret (v := .tuple #[.agg #[.int .i64 (rkK z), .int .i64 (rkN z), .string ⟨#[]⟩], .int .i64 0]) (by simp [results, Try.results62, go_sem, x2, y2, z2]) rfl ⟨rfl, by go_grown⟩

/-- What Not comes to: kind, number, fault. -/
def notR (k n : Int) (t : ByteArray) : Int × Int × Int := resT (threeB k n t) (2 - rankI k n)

theorem enters_turned : ∀ (xs : Array Value) (w : World), (callFunc 65 xs).run Try.prog w = .ok (.enter 65 xs) w := fun xs w => by kernel_rfl

set_option maxHeartbeats 400000 in
theorem not_impl (k n : Int) (t : ByteArray) (w : World) (ht : t.size ≤ maxLen) :
    Calls Try.prog 22 #[.agg #[.int .i64 k, .int .i64 n, .string t]] w fun e w' => e = .returned (.tuple #[.agg #[.int .i64 (notR k n t).1, .int .i64 (notR k n t).2.1, .string ⟨#[]⟩], .int .i64 (notR k n t).2.2]) ∧ Below w.heap.size w w' := by
  have H : Hid (∀ w, Calls Try.prog 62 #[.func (.func 65) #[] #[], .agg #[.int .i64 k, .int .i64 n, .string t]] w fun e w' => e = .returned (.tuple #[.agg #[.int .i64 (notR k n t).1, .int .i64 (notR k n t).2.1, .string ⟨#[]⟩], .int .i64 (notR k n t).2.2]) ∧ Below w.heap.size w w') := fun w =>
    answered0 _ enters_turned (2 - rankI k n) k n t _ _ rfl rfl (fun w h => by rw [if_pos h]; exact turned_m _ (rank_in k n).1 (rank_in k n).2 w) w ht
  generalize notR k n t = R at H ⊢
  go_enter Try.func22, Try.ntmps22
  go_wp2_with fail
  refine (H.out _).mono ?_
  rintro e w1 ⟨rfl, hb1⟩
  obtain ⟨⟨a1, b1, c1, d1⟩, ⟨x1, y1, z1, s1⟩, f0, f1, f2⟩ := two3 hb1
  have hx := chainAA hb1
  have hxs := hx.size
  go_wp2
  exact bodyPost_ret (v := .tuple #[.agg #[.int .i64 R.1, .int .i64 R.2.1, .string ⟨#[]⟩], .int .i64 R.2.2]) (by simp [results, Try.results22, go_sem, x1, y1, z1]) rfl ⟨rfl, by go_grown⟩

/-- What Both comes to: kind, number, fault. -/
def bothR (k1 n1 : Int) (t1 : ByteArray) (k2 n2 : Int) (t2 : ByteArray) : Int × Int × Int := resT (threeB k1 n1 t1 && threeB k2 n2 t2) (min (rankI k1 n1) (rankI k2 n2))

theorem enters_both : ∀ (xs : Array Value) (w : World), (callFunc 63 xs).run Try.prog w = .ok (.enter 63 xs) w := fun xs w => by kernel_rfl

set_option maxHeartbeats 400000 in
theorem both_impl (k1 n1 : Int) (t1 : ByteArray) (k2 n2 : Int) (t2 : ByteArray) (w : World) (ht1 : t1.size ≤ maxLen) (ht2 : t2.size ≤ maxLen) :
    Calls Try.prog 20 #[.agg #[.int .i64 k1, .int .i64 n1, .string t1], .agg #[.int .i64 k2, .int .i64 n2, .string t2]] w fun e w' => e = .returned (.tuple #[.agg #[.int .i64 (bothR k1 n1 t1 k2 n2 t2).1, .int .i64 (bothR k1 n1 t1 k2 n2 t2).2.1, .string ⟨#[]⟩], .int .i64 (bothR k1 n1 t1 k2 n2 t2).2.2]) ∧ Below w.heap.size w w' := by
  have hmf : ∀ (fn : Fn) (first cap : Array Value) (w : World), (Instr.makeFunc fn first cap).run Try.prog w = .ok (.func fn first cap) w := fun _ _ _ _ => rfl
  cases h1 : threeB k1 n1 t1
  · simp only [show bothR k1 n1 t1 k2 n2 t2 = (0, 0, 3) from by simp [bothR, h1, resT]]
    go_enter Try.func20, Try.ntmps20
    go_wp2_with fail
    refine (answer_impl _ _ _ 0 false h1 rfl _ ht1).mono ?_
    rintro e w1 ⟨rfl, hb1⟩
    obtain ⟨⟨a1, b1, c1, d1⟩, ⟨x1, y1, z1, s1⟩, ⟨p1, q1, r1, s2⟩, f0, f1, f2⟩ := three3 hb1
    have hx := chainA (chainAA hb1)
    have hxs := hx.size
    go_wp2
    exact bodyPost_ret (v := .tuple #[.agg #[.int .i64 0, .int .i64 0, .string ⟨#[]⟩], .int .i64 3]) (by simp [results, Try.results20, go_sem, p1, q1, r1]) rfl ⟨rfl, by go_grown⟩
  · have H : Hid (∀ w, Calls Try.prog 62 #[.func (.func 63) #[.int .i64 (rankI k1 n1)] #[], .agg #[.int .i64 k2, .int .i64 n2, .string t2]] w fun e w' => e = .returned (.tuple #[.agg #[.int .i64 (bothR k1 n1 t1 k2 n2 t2).1, .int .i64 (bothR k1 n1 t1 k2 n2 t2).2.1, .string ⟨#[]⟩], .int .i64 (bothR k1 n1 t1 k2 n2 t2).2.2]) ∧ Below w.heap.size w w') := fun w => by
      have := answered1 _ enters_both (rankI k1 n1) (min (rankI k1 n1) (rankI k2 n2)) k2 n2 t2 _ _ rfl rfl (fun w h => by rw [if_pos h]; exact both_m _ _ w) w ht2
      unfold bothR
      rw [h1]
      exact this
    generalize bothR k1 n1 t1 k2 n2 t2 = R at H ⊢
    go_enter Try.func20, Try.ntmps20
    go_wp2_with fail
    refine (answer_impl _ _ _ (rankI k1 n1) true h1 (if_pos rfl) _ ht1).mono ?_
    rintro e w1 ⟨rfl, hb1⟩
    obtain ⟨⟨a1, b1, c1, d1⟩, ⟨x1, y1, z1, s1⟩, ⟨p1, q1, r1, s2⟩, ff⟩ := three3 hb1
    go_wp2_with fail
    refine (H.out _).mono ?_
    rintro e w2 ⟨rfl, hb2⟩
    obtain ⟨f0, f1, f2⟩ := frozen3 hb2 s2 ff
    obtain ⟨p2, q2, r2, s3⟩ := later3 hb2 ⟨p1, q1, r1, s2⟩
    have hx := chain (chainA (chainAA hb1)) hb2
    have hxs := hx.size
    go_wp2
    exact bodyPost_ret (v := .tuple #[.agg #[.int .i64 R.1, .int .i64 R.2.1, .string ⟨#[]⟩], .int .i64 R.2.2]) (by simp [results, Try.results20, go_sem, p2, q2, r2]) rfl ⟨rfl, by go_grown⟩

/-- What Either comes to: kind, number, fault. -/
def eitherR (k1 n1 : Int) (t1 : ByteArray) (k2 n2 : Int) (t2 : ByteArray) : Int × Int × Int := resT (threeB k1 n1 t1 && threeB k2 n2 t2) (max (rankI k1 n1) (rankI k2 n2))

theorem enters_either : ∀ (xs : Array Value) (w : World), (callFunc 64 xs).run Try.prog w = .ok (.enter 64 xs) w := fun xs w => by kernel_rfl

set_option maxHeartbeats 400000 in
theorem either_impl (k1 n1 : Int) (t1 : ByteArray) (k2 n2 : Int) (t2 : ByteArray) (w : World) (ht1 : t1.size ≤ maxLen) (ht2 : t2.size ≤ maxLen) :
    Calls Try.prog 21 #[.agg #[.int .i64 k1, .int .i64 n1, .string t1], .agg #[.int .i64 k2, .int .i64 n2, .string t2]] w fun e w' => e = .returned (.tuple #[.agg #[.int .i64 (eitherR k1 n1 t1 k2 n2 t2).1, .int .i64 (eitherR k1 n1 t1 k2 n2 t2).2.1, .string ⟨#[]⟩], .int .i64 (eitherR k1 n1 t1 k2 n2 t2).2.2]) ∧ Below w.heap.size w w' := by
  have hmf : ∀ (fn : Fn) (first cap : Array Value) (w : World), (Instr.makeFunc fn first cap).run Try.prog w = .ok (.func fn first cap) w := fun _ _ _ _ => rfl
  cases h1 : threeB k1 n1 t1
  · simp only [show eitherR k1 n1 t1 k2 n2 t2 = (0, 0, 3) from by simp [eitherR, h1, resT]]
    go_enter Try.func21, Try.ntmps21
    go_wp2_with fail
    refine (answer_impl _ _ _ 0 false h1 rfl _ ht1).mono ?_
    rintro e w1 ⟨rfl, hb1⟩
    obtain ⟨⟨a1, b1, c1, d1⟩, ⟨x1, y1, z1, s1⟩, ⟨p1, q1, r1, s2⟩, f0, f1, f2⟩ := three3 hb1
    have hx := chainA (chainAA hb1)
    have hxs := hx.size
    go_wp2
    exact bodyPost_ret (v := .tuple #[.agg #[.int .i64 0, .int .i64 0, .string ⟨#[]⟩], .int .i64 3]) (by simp [results, Try.results21, go_sem, p1, q1, r1]) rfl ⟨rfl, by go_grown⟩
  · have H : Hid (∀ w, Calls Try.prog 62 #[.func (.func 64) #[.int .i64 (rankI k1 n1)] #[], .agg #[.int .i64 k2, .int .i64 n2, .string t2]] w fun e w' => e = .returned (.tuple #[.agg #[.int .i64 (eitherR k1 n1 t1 k2 n2 t2).1, .int .i64 (eitherR k1 n1 t1 k2 n2 t2).2.1, .string ⟨#[]⟩], .int .i64 (eitherR k1 n1 t1 k2 n2 t2).2.2]) ∧ Below w.heap.size w w') := fun w => by
      have := answered1 _ enters_either (rankI k1 n1) (max (rankI k1 n1) (rankI k2 n2)) k2 n2 t2 _ _ rfl rfl (fun w h => by rw [if_pos h]; exact either_m _ _ w) w ht2
      unfold eitherR
      rw [h1]
      exact this
    generalize eitherR k1 n1 t1 k2 n2 t2 = R at H ⊢
    go_enter Try.func21, Try.ntmps21
    go_wp2_with fail
    refine (answer_impl _ _ _ (rankI k1 n1) true h1 (if_pos rfl) _ ht1).mono ?_
    rintro e w1 ⟨rfl, hb1⟩
    obtain ⟨⟨a1, b1, c1, d1⟩, ⟨x1, y1, z1, s1⟩, ⟨p1, q1, r1, s2⟩, ff⟩ := three3 hb1
    go_wp2_with fail
    refine (H.out _).mono ?_
    rintro e w2 ⟨rfl, hb2⟩
    obtain ⟨f0, f1, f2⟩ := frozen3 hb2 s2 ff
    obtain ⟨p2, q2, r2, s3⟩ := later3 hb2 ⟨p1, q1, r1, s2⟩
    have hx := chain (chainA (chainAA hb1)) hb2
    have hxs := hx.size
    go_wp2
    exact bodyPost_ret (v := .tuple #[.agg #[.int .i64 R.1, .int .i64 R.2.1, .string ⟨#[]⟩], .int .i64 R.2.2]) (by simp [results, Try.results21, go_sem, p2, q2, r2]) rfl ⟨rfl, by go_grown⟩

/-- What IsNone comes to: kind, number, fault. -/
def noneR (k n : Int) (t : ByteArray) : Int × Int × Int := if okB k n t = true then (3, if k = 0 then 1 else 0, 0) else (0, 0, 3)

set_option maxHeartbeats 400000 in
theorem none_impl (k n : Int) (t : ByteArray) (w : World) (ht : t.size ≤ maxLen) :
    Calls Try.prog 24 #[.agg #[.int .i64 k, .int .i64 n, .string t]] w fun e w' => e = .returned (.tuple #[.agg #[.int .i64 (noneR k n t).1, .int .i64 (noneR k n t).2.1, .string ⟨#[]⟩], .int .i64 (noneR k n t).2.2]) ∧ Below w.heap.size w w' := by
  cases h : okB k n t
  · simp only [show noneR k n t = (0, 0, 3) from by simp [noneR, h]]
    go_enter Try.func24, Try.ntmps24
    go_wp2_with fail
    refine (ok_implb _ _ _ _ h _ ht).mono ?_
    rintro e w1 ⟨rfl, hb1⟩
    obtain ⟨⟨a1, b1, c1, d1⟩, ⟨x1, y1, z1, s1⟩, f0, f1, f2⟩ := two3 hb1
    have hx := chainAA hb1
    have hxs := hx.size
    go_wp2
    exact bodyPost_ret (v := .tuple #[.agg #[.int .i64 0, .int .i64 0, .string ⟨#[]⟩], .int .i64 3]) (by simp [results, Try.results24, go_sem, x1, y1, z1]) rfl ⟨rfl, by go_grown⟩
  · have hR : noneR k n t = (3, if k = 0 then 1 else 0, 0) := by simp [noneR, h]
    generalize hm : (if k = 0 then (1 : Int) else 0) = m at hR
    simp only [hR]
    go_enter Try.func24, Try.ntmps24
    go_wp2_with fail
    refine (ok_implb _ _ _ _ h _ ht).mono ?_
    rintro e w1 ⟨rfl, hb1⟩
    obtain ⟨⟨a1, b1, c1, d1⟩, ⟨x1, y1, z1, s1⟩, ff⟩ := two3 hb1
    go_wp2_with fail
    refine (truth_implb _ m (by rw [← hm]; simp) _).mono ?_
    rintro e w2 ⟨rfl, hb2⟩
    obtain ⟨f0, f1, f2⟩ := frozen3 hb2 s1 ff
    obtain ⟨x2, y2, z2, s2⟩ := later3 hb2 ⟨x1, y1, z1, s1⟩
    have hx := chain (chainAA hb1) hb2
    have hxs := hx.size
    go_wp2
    exact bodyPost_ret (v := .tuple #[.agg #[.int .i64 3, .int .i64 m, .string ⟨#[]⟩], .int .i64 0]) (by simp [results, Try.results24, go_sem, x2, y2, z2]) rfl ⟨rfl, by go_grown⟩

set_option maxHeartbeats 400000 in
theorem holds_impl (k n : Int) (t : ByteArray) (w : World) :
    Calls Try.prog 29 #[.agg #[.int .i64 k, .int .i64 n, .string t]] w fun e w' => e = .returned (.bool (sameB k n t 3 1 ⟨#[]⟩)) ∧ Below w.heap.size w w' := by
  have hq := run_eql
  go_enter Try.func29, Try.ntmps29
  go_wp2_with fail
  first | go_region_with (go_at_call 67; refine (truth_implb true 1 rfl _).mono ?_; rintro e w1 ⟨rfl, hb1⟩; obtain ⟨a1, b1, c1, d1⟩ := box3 (undrew hb1)) | fail
  all_goals go_wp2
  all_goals go_ret
  all_goals exact ⟨rfl, chainA (undrew hb1)⟩

end Go.Proofs.Ytgablbdphflokaa
