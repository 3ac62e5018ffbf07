/-
  What the law FnLess asks of cells, by letters: two draws of two cells, what is answered of two cells, and the order's own facts.
-/
import Derived.Test.YtgablbdphflokaaRankI
import Derived.Test.YtgablbdphflokaaRowLess
import Derived.Test.YtgablbdphflokaaRowDraw2
import Derived.Test.YtgablbdphflokaaThreeFacts
import Derived.Test.YtgablbdphflokaaLaw1
namespace Go.Proofs.Ytgablbdphflokaa
open Go.ChangeShapes Go.WideShapes Go.ChangeAt Go.RowKit
attribute [local go_sem ↓] Go.wp_at_zero Go.wp_at_succ

set_option maxHeartbeats 1000000 in
theorem cless_draw {w : World} {a : Option Addr} {len cap : Nat} (hlen : len ≤ 4096) (row : Code0 w a len) :
    Calls Try.prog 31 #[.slice a len cap] w fun e w' => ∃ (k1 n1 : Int) (t1 : ByteArray) (k2 n2 : Int) (t2 : ByteArray), e = .returned (.tuple #[.agg #[.int .i64 k1, .int .i64 n1, .string t1], .agg #[.int .i64 k2, .int .i64 n2, .string t2]]) ∧ t1.size ≤ maxLen ∧ t2.size ≤ maxLen ∧ Below w.heap.size w w' := by
  have hR : Hid (Code0 w a len) := row
  clear row
  have HR2 : Hid (Has3 ((w.alloc (.cells #[.int .i64 0, .int .i64 0, .string ⟨#[]⟩] 25)).alloc (.cells #[.int .i64 0, .int .i64 0, .string ⟨#[]⟩] 25)) w.heap.size (.int .i64 0) (.int .i64 0) (.string ⟨#[]⟩)) := (Has3.new w _ _ _ _).alloc _
  have HR3 : Hid (Has3 ((w.alloc (.cells #[.int .i64 0, .int .i64 0, .string ⟨#[]⟩] 25)).alloc (.cells #[.int .i64 0, .int .i64 0, .string ⟨#[]⟩] 25)) (w.heap.size + 1) (.int .i64 0) (.int .i64 0) (.string ⟨#[]⟩)) := by
    have := Has3.new (w.alloc (.cells #[.int .i64 0, .int .i64 0, .string ⟨#[]⟩] 25)) (.int .i64 0) (.int .i64 0) (.string ⟨#[]⟩) 25
    simp only [World.size_alloc] at this
    exact this
  go_enter Try.func31, Try.ntmps31
  go_wp2_with fail
  refine (plus_draw hlen ((hR.out.alloc _).alloc _)).mono ?_
  rintro e w1 ⟨k1, n1, t1, k2, n2, t2, rfl, ht1, ht2, hb1⟩
  have hs1 : w.heap.size + 1 < w1.heap.size := by have := hb1.size; simp at this; omega
  obtain ⟨⟨p0, p1, p2, p3⟩, p4, p5, p6⟩ := Has3.keep HR2.out (Keep.ofBelow (c := w1.heap.size) hb1) (by omega)
  obtain ⟨⟨q0, q1, q2, q3⟩, q4, q5, q6⟩ := Has3.keep HR3.out (Keep.ofBelow (c := w1.heap.size) hb1) (by omega)
  have hx := chainAA hb1
  have hxs := hx.size
  clear hb1 HR2 HR3
  go_wp2
  exact bodyPost_ret (v := .tuple #[.agg #[.int .i64 k1, .int .i64 n1, .string t1], .agg #[.int .i64 k2, .int .i64 n2, .string t2]]) (by simp [results, Try.results31, go_sem, p0, p1, p2, q0, q1, q2]) rfl ⟨k1, n1, t1, k2, n2, t2, rfl, ht1, ht2, by go_grown⟩

set_option maxHeartbeats 1000000 in
theorem sameas_draw {w : World} {a : Option Addr} {len cap : Nat} (hlen : len ≤ 4096) (row : Code0 w a len) :
    Calls Try.prog 32 #[.slice a len cap] w fun e w' => ∃ (k1 n1 : Int) (t1 : ByteArray) (k2 n2 : Int) (t2 : ByteArray), e = .returned (.tuple #[.agg #[.int .i64 k1, .int .i64 n1, .string t1], .agg #[.int .i64 k2, .int .i64 n2, .string t2]]) ∧ t1.size ≤ maxLen ∧ t2.size ≤ maxLen ∧ Below w.heap.size w w' := by
  have hR : Hid (Code0 w a len) := row
  clear row
  have HR2 : Hid (Has3 ((w.alloc (.cells #[.int .i64 0, .int .i64 0, .string ⟨#[]⟩] 25)).alloc (.cells #[.int .i64 0, .int .i64 0, .string ⟨#[]⟩] 25)) w.heap.size (.int .i64 0) (.int .i64 0) (.string ⟨#[]⟩)) := (Has3.new w _ _ _ _).alloc _
  have HR3 : Hid (Has3 ((w.alloc (.cells #[.int .i64 0, .int .i64 0, .string ⟨#[]⟩] 25)).alloc (.cells #[.int .i64 0, .int .i64 0, .string ⟨#[]⟩] 25)) (w.heap.size + 1) (.int .i64 0) (.int .i64 0) (.string ⟨#[]⟩)) := by
    have := Has3.new (w.alloc (.cells #[.int .i64 0, .int .i64 0, .string ⟨#[]⟩] 25)) (.int .i64 0) (.int .i64 0) (.string ⟨#[]⟩) 25
    simp only [World.size_alloc] at this
    exact this
  go_enter Try.func32, Try.ntmps32
  go_wp2_with fail
  refine (plus_draw hlen ((hR.out.alloc _).alloc _)).mono ?_
  rintro e w1 ⟨k1, n1, t1, k2, n2, t2, rfl, ht1, ht2, hb1⟩
  have hs1 : w.heap.size + 1 < w1.heap.size := by have := hb1.size; simp at this; omega
  obtain ⟨⟨p0, p1, p2, p3⟩, p4, p5, p6⟩ := Has3.keep HR2.out (Keep.ofBelow (c := w1.heap.size) hb1) (by omega)
  obtain ⟨⟨q0, q1, q2, q3⟩, q4, q5, q6⟩ := Has3.keep HR3.out (Keep.ofBelow (c := w1.heap.size) hb1) (by omega)
  have hx := chainAA hb1
  have hxs := hx.size
  clear hb1 HR2 HR3
  go_wp2
  exact bodyPost_ret (v := .tuple #[.agg #[.int .i64 k1, .int .i64 n1, .string t1], .agg #[.int .i64 k2, .int .i64 n2, .string t2]]) (by simp [results, Try.results32, go_sem, p0, p1, p2, q0, q1, q2]) rfl ⟨k1, n1, t1, k2, n2, t2, rfl, ht1, ht2, by go_grown⟩

theorem same_impl' (k1 n1 : Int) (t1 : ByteArray) (k2 n2 : Int) (t2 : ByteArray) (x y z : Int) (hR : Hid (sameR k1 n1 t1 k2 n2 t2 = (x, y, z))) (w : World) (ht1 : t1.size ≤ maxLen) (ht2 : t2.size ≤ maxLen) :
    Calls Try.prog 33 #[.agg #[.int .i64 k1, .int .i64 n1, .string t1], .agg #[.int .i64 k2, .int .i64 n2, .string t2]] w fun e w' => e = .returned (.tuple #[.agg #[.int .i64 x, .int .i64 y, .string ⟨#[]⟩], .int .i64 z]) ∧ Below w.heap.size w w' := by
  have h := same_impl k1 n1 t1 k2 n2 t2 w ht1 ht2
  rw [hR.out] at h; exact h
theorem same_spec' (k1 n1 : Int) (t1 : ByteArray) (k2 n2 : Int) (t2 : ByteArray) (x y z : Int) (hR : Hid (sameR k1 n1 t1 k2 n2 t2 = (x, y, z))) (w : World) (ht1 : t1.size ≤ maxLen) (ht2 : t2.size ≤ maxLen) :
    Calls Try.prog 36 #[.agg #[.int .i64 k1, .int .i64 n1, .string t1], .agg #[.int .i64 k2, .int .i64 n2, .string t2]] w fun e w' => e = .returned (.tuple #[.agg #[.int .i64 x, .int .i64 y, .string ⟨#[]⟩], .int .i64 z]) ∧ Below w.heap.size w w' := by
  have h := same_spec k1 n1 t1 k2 n2 t2 w ht1 ht2
  rw [hR.out] at h; exact h
theorem below_impl' (k1 n1 : Int) (t1 : ByteArray) (k2 n2 : Int) (t2 : ByteArray) (x y z : Int) (hR : Hid (belowR k1 n1 t1 k2 n2 t2 = (x, y, z))) (w : World) (ht1 : t1.size ≤ maxLen) (ht2 : t2.size ≤ maxLen) :
    Calls Try.prog 34 #[.agg #[.int .i64 k1, .int .i64 n1, .string t1], .agg #[.int .i64 k2, .int .i64 n2, .string t2]] w fun e w' => e = .returned (.tuple #[.agg #[.int .i64 x, .int .i64 y, .string ⟨#[]⟩], .int .i64 z]) ∧ Below w.heap.size w w' := by
  have h := below_impl k1 n1 t1 k2 n2 t2 w ht1 ht2
  rw [hR.out] at h; exact h
theorem below_spec' (k1 n1 : Int) (t1 : ByteArray) (k2 n2 : Int) (t2 : ByteArray) (x y z : Int) (hR : Hid (belowR k1 n1 t1 k2 n2 t2 = (x, y, z))) (w : World) (ht1 : t1.size ≤ maxLen) (ht2 : t2.size ≤ maxLen) :
    Calls Try.prog 41 #[.agg #[.int .i64 k1, .int .i64 n1, .string t1], .agg #[.int .i64 k2, .int .i64 n2, .string t2]] w fun e w' => e = .returned (.tuple #[.agg #[.int .i64 x, .int .i64 y, .string ⟨#[]⟩], .int .i64 z]) ∧ Below w.heap.size w w' := by
  have h := below_spec k1 n1 t1 k2 n2 t2 w ht1 ht2
  rw [hR.out] at h; exact h
theorem rless_implb (a b : Option Addr) (ca cb : Nat) (l m : List CT) (r : Bool) (hr : decide (rowCmp l m < 0) = r) (w : World) (hl : RowAt w a l) (hm : RowAt w b m) (hll : l.length ≤ 1000) :
    Calls Try.prog 39 #[.slice a l.length ca, .slice b m.length cb] w fun e w' => e = .returned (.bool r) ∧ Below w.heap.size w w' := by
  subst hr; exact rless_impl a b ca cb l m w hl hm (by unfold maxLen; omega)
theorem rless_specb (a b : Option Addr) (ca cb : Nat) (l m : List CT) (r : Bool) (hr : decide (rowCmp l m < 0) = r) (w : World) (hl : RowAt w a l) (hm : RowAt w b m) (hll : l.length ≤ 1000) :
    Calls Try.prog 40 #[.slice a l.length ca, .slice b m.length cb] w fun e w' => e = .returned (.bool r) ∧ Below w.heap.size w w' := by
  subst hr; exact rless_spec a b ca cb l m w hl hm (by unfold maxLen; omega)

/-- Of two cells: the one is less, or the other, or they are one. -/
theorem less_three (k1 n1 : Int) (t1 : ByteArray) (k2 n2 : Int) (t2 : ByteArray) :
    (lessB k1 n1 t1 k2 n2 t2 = false ∧ lessB k2 n2 t2 k1 n1 t1 = false ∧ sameB k1 n1 t1 k2 n2 t2 = true) ∨ (lessB k1 n1 t1 k2 n2 t2 = false ∧ lessB k2 n2 t2 k1 n1 t1 = true ∧ sameB k1 n1 t1 k2 n2 t2 = false) ∨ (lessB k1 n1 t1 k2 n2 t2 = true ∧ lessB k2 n2 t2 k1 n1 t1 = false ∧ sameB k1 n1 t1 k2 n2 t2 = false) := by
  rw [less_cmp, less_cmp, cmpC_neg k1 n1 t1 k2 n2 t2]
  have hz := cmpC_zero k1 n1 t1 k2 n2 t2
  have hs := sameB_eq (a := k1) (b := n1) (s := t1) (c := k2) (d := n2) (u := t2)
  by_cases h : cmpC k1 n1 t1 k2 n2 t2 = 0
  · left
    refine ⟨by simp [h], by simp [h], hs.2 (hz.1 h)⟩
  · have hs' : sameB k1 n1 t1 k2 n2 t2 = false := by
      cases e : sameB k1 n1 t1 k2 n2 t2 with
      | false => rfl
      | true => exact absurd (hz.2 (hs.1 e)) h
    by_cases h2 : cmpC k1 n1 t1 k2 n2 t2 < 0
    · right; right; exact ⟨by simp [h2], by simp; omega, hs'⟩
    · right; left; exact ⟨by simp; omega, by simp; omega, hs'⟩
theorem rows_two (l m : List CT) (h : decide (rowCmp l m < 0) = true) : decide (rowCmp m l < 0) = false := by
  simp only [decide_eq_true_eq, decide_eq_false_iff_not] at h ⊢
  rw [rowCmp_neg l m]; omega
theorem rows_self (l : List CT) : decide (rowCmp l l < 0) = false := by rw [rowCmp_self]; rfl

/-- What is said of two cells: of the wrong kind, of one that is none, or whether they are one, whether the one is less, whether the other is. -/
theorem held_three (k1 n1 : Int) (t1 : ByteArray) (k2 n2 : Int) (t2 : ByteArray) :
    (sameR k1 n1 t1 k2 n2 t2 = (0, 0, 3) ∧ belowR k1 n1 t1 k2 n2 t2 = (0, 0, 3)) ∨ (sameR k1 n1 t1 k2 n2 t2 = (0, 0, 0) ∧ belowR k1 n1 t1 k2 n2 t2 = (0, 0, 0)) ∨
    (sameR k1 n1 t1 k2 n2 t2 = (3, if sameB k1 n1 t1 k2 n2 t2 = true then 1 else 0, 0) ∧ belowR k1 n1 t1 k2 n2 t2 = (3, if lessB k1 n1 t1 k2 n2 t2 = true then 1 else 0, 0) ∧ belowR k2 n2 t2 k1 n1 t1 = (3, if lessB k2 n2 t2 k1 n1 t1 = true then 1 else 0, 0)) := by
  have hsym1 : likeB k2 n2 t2 k1 n1 t1 = likeB k1 n1 t1 k2 n2 t2 := by
    unfold likeB; rw [Bool.and_comm (okB k2 n2 t2), Bool.or_comm (k2 == 0), show (k2 == k1) = (k1 == k2) from by rw [Bool.beq_comm]]
  have hsym2 : nonesB k2 n2 t2 k1 n1 t1 = nonesB k1 n1 t1 k2 n2 t2 := by
    unfold nonesB; rw [Bool.and_comm (okB k2 n2 t2), Bool.or_comm (k2 == 0)]
  unfold sameR belowR heldR
  rw [hsym1, hsym2]
  cases likeB k1 n1 t1 k2 n2 t2
  · left; exact ⟨rfl, rfl⟩
  · cases nonesB k1 n1 t1 k2 n2 t2
    · right; right; exact ⟨rfl, rfl, rfl⟩
    · right; left; exact ⟨rfl, rfl⟩

end Go.Proofs.Ytgablbdphflokaa
