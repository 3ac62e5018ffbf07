/-
  The contracts of the program's questions for a token, and of what one piece is read as.
-/
import Derived.Test.YthgbjnchhaoceaaDoorPieceMath
import Derived.Test.YthgbjnchhaoceaaDoorBox5
import Derived.Test.YthgbjnchhaoceaaDoorTokS
import Derived.Test.YthgbjnchhaoceaaDoorTabI1
import Derived.Test.YthgbjnchhaoceaaDoorReadI
namespace Go.Proofs.YthgbjnchhaoceaaDoor
open Go.ChangeShapes Go.WideShapes Go.ChangeAt Go.RowKit
attribute [local go_sem ↓] Go.wp_at_zero Go.wp_at_succ
attribute [local simp] World.cell?_alloc_past World.cell?_alloc_at World.frozen?_alloc_at cell_far cell_off cell_here World.frozen?_alloc_past

/-- A name that is no other word: a name that is neither read as a cell nor a sign. -/
theorem nameK_free (s : ByteArray) : nameK s = (nameB s && (!(readB s).isSome && !signB s)) := by
  cases hn : nameB s with
  | false => unfold nameK; rw [hn]; rfl
  | true =>
    have hn2 := hn
    unfold nameB at hn2
    simp only [Bool.and_eq_true, decide_eq_true_eq] at hn2
    obtain ⟨_, h2, _⟩ := hn2
    have hO : inB signO s = false := by
      cases hq : inB signO s with
      | false => rfl
      | true =>
        exfalso
        have hm := inB_iff.1 hq
        have hall := List.all_eq_true.1 h2
        simp only [signO, List.mem_cons, List.not_mem_nil, or_false] at hm
        rcases hm with rfl | rfl | rfl | rfl | rfl | rfl | rfl | rfl <;> exact absurd (hall _ (List.mem_cons_self ..)) (by decide)
    have hR : (readB s).isSome = !(decide (s.data.toList ≠ wNone) && (decide (s.data.toList ≠ wYes) && decide (s.data.toList ≠ wNo))) := by
      cases hq : readB s with
      | none =>
        unfold readB at hq
        by_cases e1 : s.data.toList = wNone
        · rw [if_pos e1] at hq; cases hq
        by_cases e2 : s.data.toList = wYes
        · rw [if_neg e1, if_pos e2] at hq; cases hq
        by_cases e3 : s.data.toList = wNo
        · rw [if_neg e1, if_neg e2, if_pos e3] at hq; cases hq
        rw [decide_eq_true e1, decide_eq_true e2, decide_eq_true e3]; rfl
      | some d =>
        have es : (⟨s.data.toList.toArray⟩ : ByteArray) = s := rfl
        rw [← es] at hq
        rcases readB_head hq with q | q | q | ⟨b, x, q, hb⟩
        · simp [q]
        · simp [q]
        · simp [q]
        · exfalso
          have hl : letB b = true := List.all_eq_true.1 h2 b (by rw [q]; simp)
          rcases hb with hb | rfl | rfl
          · rw [letB_dig hb] at hl; cases hl
          · exact absurd hl (by decide)
          · exact absurd hl (by decide)
    unfold nameK signB
    rw [hn, hO, hR, Bool.or_false, Bool.not_not]
    cases inB signW s <;> cases (decide (s.data.toList ≠ wNone) && (decide (s.data.toList ≠ wYes) && decide (s.data.toList ≠ wNo))) <;> rfl
theorem readR_b {s : ByteArray} {k n : Int} {t : ByteArray} {b : Bool} (h : readR s = (k, n, t, b)) : (readB s).isSome = b ∧ (b = true → readB s = some (k, n, t)) := by
  unfold readR at h
  cases hq : readB s with
  | none =>
    rw [hq] at h
    injection h with _ h; injection h with _ h; injection h with _ h
    subst h
    exact ⟨rfl, fun h => by cases h⟩
  | some d =>
    obtain ⟨k', n', t'⟩ := d
    rw [hq] at h
    injection h with h1 h; injection h with h2 h; injection h with h3 h
    subst h1 h2 h3 h
    exact ⟨rfl, fun _ => rfl⟩

theorem not_lit {s : ByteArray} {l : List UInt8} (h : s ≠ ⟨l.toArray⟩) : (s.toList == l) = false := by
  rw [Lib.toList_data, beq_eq_false_iff_ne]
  exact fun e => h (bytes_ext e)
set_option maxRecDepth 100000 in
set_option maxHeartbeats 4000000 in
theorem sign_impl (s : ByteArray) (b : Bool) (hb : signB s = b) (w : World) :
    Calls Tryd.prog 50 #[.string s] w fun e w' => e = .returned (.bool b) ∧ w' = w := by
  cases b with
  | true =>
    unfold signB at hb
    rw [Bool.or_eq_true] at hb
    rcases hb with hs | hs
    · have hm := inB_iff.1 hs
      simp only [signW, List.mem_cons, List.not_mem_nil, or_false] at hm
      clear hs
      rcases hm with rfl | rfl | rfl | rfl
      all_goals
        go_enter Tryd.func50, Tryd.ntmps50
        go_wp2
        go_ret
        exact ⟨rfl, rfl⟩
    · have hm := inB_iff.1 hs
      simp only [signO, List.mem_cons, List.not_mem_nil, or_false] at hm
      clear hs
      rcases hm with rfl | rfl | rfl | rfl | rfl | rfl | rfl | rfl
      all_goals
        go_enter Tryd.func50, Tryd.ntmps50
        go_wp2
        go_ret
        exact ⟨rfl, rfl⟩
  | false =>
    unfold signB at hb
    rw [Bool.or_eq_false_iff, inB_no, inB_no] at hb
    obtain ⟨h1, h2⟩ := hb
    simp only [signW, signO, List.mem_cons, List.not_mem_nil, or_false, not_or] at h1 h2
    obtain ⟨a1, a2, a3, a4⟩ := h1
    obtain ⟨b1, b2, b3, b4, b5, b6, b7, b8⟩ := h2
    have q1 := not_lit (l := [97, 110, 100]) a1
    have q2 := not_lit (l := [111, 114]) a2
    have q3 := not_lit (l := [110, 111, 116]) a3
    have q4 := not_lit (l := [108, 97, 99, 107, 115]) a4
    have r1 := not_lit (l := [43]) b1
    have r2 := not_lit (l := [45]) b2
    have r3 := not_lit (l := [42]) b3
    have r4 := not_lit (l := [47]) b4
    have r5 := not_lit (l := [61]) b5
    have r6 := not_lit (l := [60]) b6
    have r7 := not_lit (l := [40]) b7
    have r8 := not_lit (l := [41]) b8
    clear a1 a2 a3 a4 b1 b2 b3 b4 b5 b6 b7 b8
    go_enter Tryd.func50, Tryd.ntmps50
    go_wp2
    go_ret
    exact ⟨rfl, rfl⟩
set_option maxHeartbeats 1000000 in
theorem free_impl (s : ByteArray) (hs : s.size ≤ 1048576) (w : World) (hp : PowAt w) (he : ErrAt w) (b : Bool) (hb : nameK s = b) :
    Calls Tryd.prog 37 #[.string s] w fun e w' => e = .returned (.bool b) ∧ Below w.heap.size w w' := by
  have HB : Hid (nameK s = b) := hb
  have HP : Hid (PowAt w) := hp
  have HE : Hid (ErrAt w) := he
  clear hb hp he
  have hsM : s.size ≤ maxLen := by unfold maxLen; omega
  obtain ⟨k, n, t, c, hR⟩ : ∃ k n t c, readR s = (k, n, t, c) := ⟨_, _, _, _, rfl⟩
  have HR : Hid (readR s = (k, n, t, c)) := hR
  obtain ⟨q, hq⟩ : ∃ x, nameB s = x := ⟨_, rfl⟩
  obtain ⟨g, hg⟩ : ∃ x, signB s = x := ⟨_, rfl⟩
  have HQ : Hid (nameB s = q) := hq
  have HG : Hid (signB s = g) := hg
  have HX : Hid ((q && (!c && !g)) = b) := by
    have : (q && (!c && !g)) = b := by rw [← HB.out, nameK_free, hq, hg, (readR_b hR).1]
    exact this
  clear hR hq hg HB
  go_enter Tryd.func37, Tryd.ntmps37
  go_wp2_with fail
  refine (readcell_impl s hs _ HP.out HE.out k n t c HR.out).mono ?_
  rintro e w1 ⟨rfl, hb1⟩
  go_wp2_with fail
  refine (name_impl s _ hsM q HQ.out).mono ?_
  rintro e w2 ⟨rfl, rfl⟩
  cases q
  · obtain rfl : false = b := HX.out
    go_wp2
    go_ret
    exact ⟨rfl, hb1.alloc hb1.size _⟩
  rcases Bool.eq_false_or_eq_true c with rfl | rfl
  · obtain rfl : false = b := HX.out
    go_wp2
    go_ret
    exact ⟨rfl, hb1.alloc hb1.size _⟩
  go_wp2_with fail
  refine (sign_impl s g HG.out _).mono ?_
  rintro e w3 ⟨rfl, rfl⟩
  cases g
  · obtain rfl : true = b := HX.out
    go_wp2
    go_ret
    exact ⟨rfl, hb1.alloc hb1.size _⟩
  · obtain rfl : false = b := HX.out
    go_wp2
    go_ret
    exact ⟨rfl, hb1.alloc hb1.size _⟩
end Go.Proofs.YthgbjnchhaoceaaDoor
