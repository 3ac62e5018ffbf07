/-
  The contracts of the model's SameAs and Below.
-/
import Derived.Test.YtgeipficjfaocaaRank1
namespace Go.Proofs.Ytgeipficjfaocaa
open Go.ChangeShapes Go.WideShapes Go.ChangeAt Go.RowKit
attribute [local go_sem ↓] Go.wp_at_zero Go.wp_at_succ

/-- Are both right, and is one none? -/
def nonesB (k1 n1 : Int) (t1 : ByteArray) (k2 n2 : Int) (t2 : ByteArray) : Bool := (okB k1 n1 t1 && okB k2 n2 t2) && (k1 == 0 || k2 == 0)
/-- Are both right, and of one kind, or is one none? -/
def likeB (k1 n1 : Int) (t1 : ByteArray) (k2 n2 : Int) (t2 : ByteArray) : Bool := (okB k1 n1 t1 && okB k2 n2 t2) && ((k1 == 0 || k2 == 0) || k1 == k2)
/-- What comes of two cells that are held against each other: kind, number, fault. -/
def heldR (like none yes : Bool) : Int × Int × Int := if like = false then (0, 0, 3) else if none = true then (0, 0, 0) else (3, if yes = true then 1 else 0, 0)

set_option maxHeartbeats 2000000 in
theorem like_spec (k1 n1 : Int) (t1 : ByteArray) (k2 n2 : Int) (t2 : ByteArray) (w : World) (ht1 : t1.size ≤ maxLen) (ht2 : t2.size ≤ maxLen) :
    Calls Try.prog 77 #[.agg #[.int .i64 k1, .int .i64 n1, .string t1], .agg #[.int .i64 k2, .int .i64 n2, .string t2]] w fun e w' => e = .returned (.tuple #[.bool (likeB k1 n1 t1 k2 n2 t2), .bool (nonesB k1 n1 t1 k2 n2 t2)]) ∧ Below w.heap.size w w' := by
  unfold likeB nonesB
  cases h1 : okB k1 n1 t1
  · go_enter Try.func77, Try.ntmps77
    go_wp2_with fail
    refine (ok_specb _ _ _ _ h1 _ ht1).mono ?_
    rintro e w1 ⟨rfl, hb1⟩
    obtain ⟨⟨a1, b1, c1, d1⟩, ⟨x1, y1, z1, s1⟩, ff⟩ := two3 hb1
    have hx := chainAA hb1
    go_wp2
    go_ret2
    exact ⟨rfl, hx⟩
  cases h2 : okB k2 n2 t2
  · go_enter Try.func77, Try.ntmps77
    go_wp2_with fail
    refine (ok_specb _ _ _ _ h1 _ ht1).mono ?_
    rintro e w1 ⟨rfl, hb1⟩
    obtain ⟨⟨a1, b1, c1, d1⟩, ⟨x1, y1, z1, s1⟩, ff⟩ := two3 hb1
    go_wp2_with fail
    refine (ok_specb _ _ _ _ h2 _ ht2).mono ?_
    rintro e w2 ⟨rfl, hb2⟩
    have hx := chain (chainAA hb1) hb2
    go_wp2
    go_ret2
    exact ⟨rfl, hx⟩
  cases g1 : (k1 == 0) <;> cases g2 : (k2 == 0) <;> cases g3 : (k1 == k2)
  all_goals
    go_enter Try.func77, Try.ntmps77
    go_wp2_with fail
    refine (ok_specb _ _ _ _ h1 _ ht1).mono ?_
    rintro e w1 ⟨rfl, hb1⟩
    obtain ⟨⟨a1, b1, c1, d1⟩, ⟨x1, y1, z1, s1⟩, ff⟩ := two3 hb1
    go_wp2_with fail
    refine (ok_specb _ _ _ _ h2 _ ht2).mono ?_
    rintro e w2 ⟨rfl, hb2⟩
    obtain ⟨a2, b2, c2, d2⟩ := later3 hb2 ⟨a1, b1, c1, d1⟩
    obtain ⟨x2, y2, z2, s2⟩ := later3 hb2 ⟨x1, y1, z1, s1⟩
    have hx := chain (chainAA hb1) hb2
    go_wp2
    go_ret2
    exact ⟨rfl, hx⟩

/-- What SameAs comes to: kind, number, fault. -/
def sameR (k1 n1 : Int) (t1 : ByteArray) (k2 n2 : Int) (t2 : ByteArray) : Int × Int × Int := heldR (likeB k1 n1 t1 k2 n2 t2) (nonesB k1 n1 t1 k2 n2 t2) (sameB k1 n1 t1 k2 n2 t2)

set_option maxHeartbeats 1000000 in
theorem same_spec (k1 n1 : Int) (t1 : ByteArray) (k2 n2 : Int) (t2 : ByteArray) (w : World) (ht1 : t1.size ≤ maxLen) (ht2 : t2.size ≤ maxLen) :
    Calls Try.prog 36 #[.agg #[.int .i64 k1, .int .i64 n1, .string t1], .agg #[.int .i64 k2, .int .i64 n2, .string t2]] w fun e w' => e = .returned (.tuple #[.agg #[.int .i64 (sameR k1 n1 t1 k2 n2 t2).1, .int .i64 (sameR k1 n1 t1 k2 n2 t2).2.1, .string ⟨#[]⟩], .int .i64 (sameR k1 n1 t1 k2 n2 t2).2.2]) ∧ Below w.heap.size w w' := by
  have H : Hid (∀ w, Calls Try.prog 77 #[.agg #[.int .i64 k1, .int .i64 n1, .string t1], .agg #[.int .i64 k2, .int .i64 n2, .string t2]] w fun e w' => e = .returned (.tuple #[.bool (likeB k1 n1 t1 k2 n2 t2), .bool (nonesB k1 n1 t1 k2 n2 t2)]) ∧ Below w.heap.size w w') := fun w => like_spec k1 n1 t1 k2 n2 t2 w ht1 ht2
  unfold sameR
  obtain ⟨yes, hy⟩ : ∃ b, sameB k1 n1 t1 k2 n2 t2 = b := ⟨_, rfl⟩
  rw [hy]
  have hq : ∀ w, (binOp .eql 25 (.agg #[.int .i64 k1, .int .i64 n1, .string t1]) (.agg #[.int .i64 k2, .int .i64 n2, .string t2])).run Try.prog w = .ok (.bool yes) w := fun w => by rw [run_eql, hy]
  generalize likeB k1 n1 t1 k2 n2 t2 = li at H ⊢
  generalize nonesB k1 n1 t1 k2 n2 t2 = no at H ⊢
  cases li
  · go_enter Try.func36, Try.ntmps36
    go_wp2_with fail
    refine (H.out _).mono ?_
    rintro e w1 ⟨rfl, hb1⟩
    obtain ⟨⟨a1, b1, c1, d1⟩, ⟨x1, y1, z1, s1⟩, ⟨p1, q1, r1, s2⟩, f0, f1, f2⟩ := three3 hb1
    have hx := chainA (chainAA hb1)
    have hxs := hx.size
    go_wp2
    exact bodyPost_ret (v := .tuple #[.agg #[.int .i64 0, .int .i64 0, .string ⟨#[]⟩], .int .i64 3]) (by simp [results, Try.results36, go_sem, p1, q1, r1]) rfl ⟨rfl, by go_grown⟩
  cases no
  · obtain ⟨m, hm⟩ : ∃ m : Int, (if yes = true then 1 else 0) = m := ⟨_, rfl⟩
    simp only [show heldR true false yes = (3, m, 0) from by simp [heldR, hm]]
    go_enter Try.func36, Try.ntmps36
    go_wp2_with fail
    refine (H.out _).mono ?_
    rintro e w1 ⟨rfl, hb1⟩
    obtain ⟨⟨a1, b1, c1, d1⟩, ⟨x1, y1, z1, s1⟩, ⟨p1, q1, r1, s2⟩, ff⟩ := three3 hb1
    have hx := chainA (chainAA hb1)
    clear hb1
    go_wp2_with fail
    refine (truth_specb _ m hm _).mono ?_
    rintro e w6 ⟨rfl, hb6⟩
    obtain ⟨f0, f1, f2⟩ := frozen3 hb6 s2 ff
    obtain ⟨p4, q4, r4, s7⟩ := later3 hb6 ⟨p1, q1, r1, s2⟩
    replace hx := chain hx hb6
    have hxs := hx.size
    go_wp2
    exact bodyPost_ret (v := .tuple #[.agg #[.int .i64 3, .int .i64 m, .string ⟨#[]⟩], .int .i64 0]) (by simp [results, Try.results36, go_sem, p4, q4, r4]) rfl ⟨rfl, by go_grown⟩
  · go_enter Try.func36, Try.ntmps36
    go_wp2_with fail
    refine (H.out _).mono ?_
    rintro e w1 ⟨rfl, hb1⟩
    obtain ⟨⟨a1, b1, c1, d1⟩, ⟨x1, y1, z1, s1⟩, ⟨p1, q1, r1, s2⟩, f0, f1, f2⟩ := three3 hb1
    have hx := chainA (chainAA hb1)
    have hxs := hx.size
    go_wp2
    exact bodyPost_ret (v := .tuple #[.agg #[.int .i64 0, .int .i64 0, .string ⟨#[]⟩], .int .i64 0]) (by simp [results, Try.results36, go_sem, p1, q1, r1]) rfl ⟨rfl, by go_grown⟩

/-- What Below comes to: kind, number, fault. -/
def belowR (k1 n1 : Int) (t1 : ByteArray) (k2 n2 : Int) (t2 : ByteArray) : Int × Int × Int := heldR (likeB k1 n1 t1 k2 n2 t2) (nonesB k1 n1 t1 k2 n2 t2) (lessB k1 n1 t1 k2 n2 t2)

set_option maxHeartbeats 1000000 in
theorem below_spec (k1 n1 : Int) (t1 : ByteArray) (k2 n2 : Int) (t2 : ByteArray) (w : World) (ht1 : t1.size ≤ maxLen) (ht2 : t2.size ≤ maxLen) :
    Calls Try.prog 41 #[.agg #[.int .i64 k1, .int .i64 n1, .string t1], .agg #[.int .i64 k2, .int .i64 n2, .string t2]] w fun e w' => e = .returned (.tuple #[.agg #[.int .i64 (belowR k1 n1 t1 k2 n2 t2).1, .int .i64 (belowR k1 n1 t1 k2 n2 t2).2.1, .string ⟨#[]⟩], .int .i64 (belowR k1 n1 t1 k2 n2 t2).2.2]) ∧ Below w.heap.size w w' := by
  have H : Hid (∀ w, Calls Try.prog 77 #[.agg #[.int .i64 k1, .int .i64 n1, .string t1], .agg #[.int .i64 k2, .int .i64 n2, .string t2]] w fun e w' => e = .returned (.tuple #[.bool (likeB k1 n1 t1 k2 n2 t2), .bool (nonesB k1 n1 t1 k2 n2 t2)]) ∧ Below w.heap.size w w') := fun w => like_spec k1 n1 t1 k2 n2 t2 w ht1 ht2
  unfold belowR
  obtain ⟨yes, hy⟩ : ∃ b, lessB k1 n1 t1 k2 n2 t2 = b := ⟨_, rfl⟩
  rw [hy]
  generalize likeB k1 n1 t1 k2 n2 t2 = li at H ⊢
  generalize nonesB k1 n1 t1 k2 n2 t2 = no at H ⊢
  cases li
  · go_enter Try.func41, Try.ntmps41
    go_wp2_with fail
    refine (H.out _).mono ?_
    rintro e w1 ⟨rfl, hb1⟩
    obtain ⟨⟨a1, b1, c1, d1⟩, ⟨x1, y1, z1, s1⟩, ⟨p1, q1, r1, s2⟩, f0, f1, f2⟩ := three3 hb1
    have hx := chainA (chainAA hb1)
    have hxs := hx.size
    go_wp2
    exact bodyPost_ret (v := .tuple #[.agg #[.int .i64 0, .int .i64 0, .string ⟨#[]⟩], .int .i64 3]) (by simp [results, Try.results41, go_sem, p1, q1, r1]) rfl ⟨rfl, by go_grown⟩
  cases no
  · obtain ⟨m, hm⟩ : ∃ m : Int, (if yes = true then 1 else 0) = m := ⟨_, rfl⟩
    simp only [show heldR true false yes = (3, m, 0) from by simp [heldR, hm]]
    go_enter Try.func41, Try.ntmps41
    go_wp2_with fail
    refine (H.out _).mono ?_
    rintro e w1 ⟨rfl, hb1⟩
    obtain ⟨⟨a1, b1, c1, d1⟩, ⟨x1, y1, z1, s1⟩, ⟨p1, q1, r1, s2⟩, ff⟩ := three3 hb1
    have hx := chainA (chainAA hb1)
    clear hb1
    go_wp2_with fail
    refine (cless_specb _ _ _ _ _ _ _ hy _).mono ?_
    rintro e w5 ⟨rfl, hb5⟩
    replace ff := frozen3 hb5 s2 ff
    obtain ⟨p1, q1, r1, s2⟩ := later3 hb5 ⟨p1, q1, r1, s2⟩
    replace hx := chain hx hb5
    clear hb5
    go_wp2_with fail
    refine (truth_specb _ m hm _).mono ?_
    rintro e w6 ⟨rfl, hb6⟩
    obtain ⟨f0, f1, f2⟩ := frozen3 hb6 s2 ff
    obtain ⟨p4, q4, r4, s7⟩ := later3 hb6 ⟨p1, q1, r1, s2⟩
    replace hx := chain hx hb6
    have hxs := hx.size
    go_wp2
    exact bodyPost_ret (v := .tuple #[.agg #[.int .i64 3, .int .i64 m, .string ⟨#[]⟩], .int .i64 0]) (by simp [results, Try.results41, go_sem, p4, q4, r4]) rfl ⟨rfl, by go_grown⟩
  · go_enter Try.func41, Try.ntmps41
    go_wp2_with fail
    refine (H.out _).mono ?_
    rintro e w1 ⟨rfl, hb1⟩
    obtain ⟨⟨a1, b1, c1, d1⟩, ⟨x1, y1, z1, s1⟩, ⟨p1, q1, r1, s2⟩, f0, f1, f2⟩ := three3 hb1
    have hx := chainA (chainAA hb1)
    have hxs := hx.size
    go_wp2
    exact bodyPost_ret (v := .tuple #[.agg #[.int .i64 0, .int .i64 0, .string ⟨#[]⟩], .int .i64 0]) (by simp [results, Try.results41, go_sem, p1, q1, r1]) rfl ⟨rfl, by go_grown⟩

end Go.Proofs.Ytgeipficjfaocaa
