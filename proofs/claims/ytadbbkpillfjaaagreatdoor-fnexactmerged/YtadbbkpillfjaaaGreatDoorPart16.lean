/-
  A part of the proof: TokI, YardMath, SumI, SumI2, MayI.
-/
import Derived.Test.YtadbbkpillfjaaaGreatDoorPart4
import Derived.Test.YtadbbkpillfjaaaGreatDoorPart13
import Derived.Test.YtadbbkpillfjaaaGreatDoorPart12
import Derived.Test.YtadbbkpillfjaaaGreatDoorPart15

/-
  The contracts of the program's questions for a token, and of what one piece is read as.
-/
namespace Go.Proofs.YtadbbkpillfjaaaGreatDoor
open Go.ChangeShapes Go.WideShapes Go.ChangeAt Go.RowKit
attribute [local go_sem ↓] Go.wp_at_zero Go.wp_at_succ
attribute [local simp] World.cell?_alloc_past World.cell?_alloc_at World.frozen?_alloc_at cell_far cell_off cell_here World.frozen?_alloc_past

/-- A name that is no other word: a name that is neither read as a cell nor a sign. -/
theorem nameK_free (s : ByteArray) : nameK s = (nameB s && (!(readB s).isSome && !signB s)) := by
  cases hn : nameB s with
  | false => unfold nameK; rw [hn]; rfl
  | true =>
    have hn2 := hn
    unfold nameB at hn2
    simp only [Bool.and_eq_true, decide_eq_true_eq] at hn2
    obtain ⟨_, h2, _⟩ := hn2
    have hO : inB signO s = false := by
      cases hq : inB signO s with
      | false => rfl
      | true =>
        exfalso
        have hm := inB_iff.1 hq
        have hall := List.all_eq_true.1 h2
        simp only [signO, List.mem_cons, List.not_mem_nil, or_false] at hm
        rcases hm with rfl | rfl | rfl | rfl | rfl | rfl | rfl | rfl <;> exact absurd (hall _ (List.mem_cons_self ..)) (by decide)
    have hR : (readB s).isSome = !(decide (s.data.toList ≠ wNone) && (decide (s.data.toList ≠ wYes) && decide (s.data.toList ≠ wNo))) := by
      cases hq : readB s with
      | none =>
        unfold readB at hq
        by_cases e1 : s.data.toList = wNone
        · rw [if_pos e1] at hq; cases hq
        by_cases e2 : s.data.toList = wYes
        · rw [if_neg e1, if_pos e2] at hq; cases hq
        by_cases e3 : s.data.toList = wNo
        · rw [if_neg e1, if_neg e2, if_pos e3] at hq; cases hq
        rw [decide_eq_true e1, decide_eq_true e2, decide_eq_true e3]; rfl
      | some d =>
        have es : (⟨s.data.toList.toArray⟩ : ByteArray) = s := rfl
        rw [← es] at hq
        rcases readB_head hq with q | q | q | ⟨b, x, q, hb⟩
        · simp [q]
        · simp [q]
        · simp [q]
        · exfalso
          have hl : letB b = true := List.all_eq_true.1 h2 b (by rw [q]; simp)
          rcases hb with hb | rfl | rfl
          · rw [letB_dig hb] at hl; cases hl
          · exact absurd hl (by decide)
          · exact absurd hl (by decide)
    unfold nameK signB
    rw [hn, hO, hR, Bool.or_false, Bool.not_not]
    cases inB signW s <;> cases (decide (s.data.toList ≠ wNone) && (decide (s.data.toList ≠ wYes) && decide (s.data.toList ≠ wNo))) <;> rfl
theorem readR_b {s : ByteArray} {k n : Int} {t : ByteArray} {b : Bool} (h : readR s = (k, n, t, b)) : (readB s).isSome = b ∧ (b = true → readB s = some (k, n, t)) := by
  unfold readR at h
  cases hq : readB s with
  | none =>
    rw [hq] at h
    injection h with _ h; injection h with _ h; injection h with _ h
    subst h
    exact ⟨rfl, fun h => by cases h⟩
  | some d =>
    obtain ⟨k', n', t'⟩ := d
    rw [hq] at h
    injection h with h1 h; injection h with h2 h; injection h with h3 h
    subst h1 h2 h3 h
    exact ⟨rfl, fun _ => rfl⟩

theorem not_lit {s : ByteArray} {l : List UInt8} (h : s ≠ ⟨l.toArray⟩) : (s.toList == l) = false := by
  rw [Lib.toList_data, beq_eq_false_iff_ne]
  exact fun e => h (bytes_ext e)
set_option maxRecDepth 100000 in
set_option maxHeartbeats 4000000 in
theorem sign_impl (s : ByteArray) (b : Bool) (hb : signB s = b) (w : World) :
    Calls Tryz.prog 92 #[.string s] w fun e w' => e = .returned (.bool b) ∧ w' = w := by
  cases b with
  | true =>
    unfold signB at hb
    rw [Bool.or_eq_true] at hb
    rcases hb with hs | hs
    · have hm := inB_iff.1 hs
      simp only [signW, List.mem_cons, List.not_mem_nil, or_false] at hm
      clear hs
      rcases hm with rfl | rfl | rfl | rfl
      all_goals
        go_enter Tryz.func92, Tryz.ntmps92
        go_wp2
        go_ret
        exact ⟨rfl, rfl⟩
    · have hm := inB_iff.1 hs
      simp only [signO, List.mem_cons, List.not_mem_nil, or_false] at hm
      clear hs
      rcases hm with rfl | rfl | rfl | rfl | rfl | rfl | rfl | rfl
      all_goals
        go_enter Tryz.func92, Tryz.ntmps92
        go_wp2
        go_ret
        exact ⟨rfl, rfl⟩
  | false =>
    unfold signB at hb
    rw [Bool.or_eq_false_iff, inB_no, inB_no] at hb
    obtain ⟨h1, h2⟩ := hb
    simp only [signW, signO, List.mem_cons, List.not_mem_nil, or_false, not_or] at h1 h2
    obtain ⟨a1, a2, a3, a4⟩ := h1
    obtain ⟨b1, b2, b3, b4, b5, b6, b7, b8⟩ := h2
    have q1 := not_lit (l := [97, 110, 100]) a1
    have q2 := not_lit (l := [111, 114]) a2
    have q3 := not_lit (l := [110, 111, 116]) a3
    have q4 := not_lit (l := [108, 97, 99, 107, 115]) a4
    have r1 := not_lit (l := [43]) b1
    have r2 := not_lit (l := [45]) b2
    have r3 := not_lit (l := [42]) b3
    have r4 := not_lit (l := [47]) b4
    have r5 := not_lit (l := [61]) b5
    have r6 := not_lit (l := [60]) b6
    have r7 := not_lit (l := [40]) b7
    have r8 := not_lit (l := [41]) b8
    clear a1 a2 a3 a4 b1 b2 b3 b4 b5 b6 b7 b8
    go_enter Tryz.func92, Tryz.ntmps92
    go_wp2
    go_ret
    exact ⟨rfl, rfl⟩
set_option maxHeartbeats 1000000 in
theorem free_impl (s : ByteArray) (hs : s.size ≤ 1048576) (w : World) (hp : PowAt w) (he : ErrAt w) (b : Bool) (hb : nameK s = b) :
    Calls Tryz.prog 82 #[.string s] w fun e w' => e = .returned (.bool b) ∧ Below w.heap.size w w' := by
  have HB : Hid (nameK s = b) := hb
  have HP : Hid (PowAt w) := hp
  have HE : Hid (ErrAt w) := he
  clear hb hp he
  have hsM : s.size ≤ maxLen := by unfold maxLen; omega
  obtain ⟨k, n, t, c, hR⟩ : ∃ k n t c, readR s = (k, n, t, c) := ⟨_, _, _, _, rfl⟩
  have HR : Hid (readR s = (k, n, t, c)) := hR
  obtain ⟨q, hq⟩ : ∃ x, nameB s = x := ⟨_, rfl⟩
  obtain ⟨g, hg⟩ : ∃ x, signB s = x := ⟨_, rfl⟩
  have HQ : Hid (nameB s = q) := hq
  have HG : Hid (signB s = g) := hg
  have HX : Hid ((q && (!c && !g)) = b) := by
    have : (q && (!c && !g)) = b := by rw [← HB.out, nameK_free, hq, hg, (readR_b hR).1]
    exact this
  clear hR hq hg HB
  go_enter Tryz.func82, Tryz.ntmps82
  go_wp2_with fail
  refine (readcell_impl s hs _ HP.out HE.out k n t c HR.out).mono ?_
  rintro e w1 ⟨rfl, hb1⟩
  go_wp2_with fail
  refine (name_impl s _ hsM q HQ.out).mono ?_
  rintro e w2 ⟨rfl, rfl⟩
  cases q
  · obtain rfl : false = b := HX.out
    go_wp2
    go_ret
    exact ⟨rfl, hb1.alloc hb1.size _⟩
  rcases Bool.eq_false_or_eq_true c with rfl | rfl
  · obtain rfl : false = b := HX.out
    go_wp2
    go_ret
    exact ⟨rfl, hb1.alloc hb1.size _⟩
  go_wp2_with fail
  refine (sign_impl s g HG.out _).mono ?_
  rintro e w3 ⟨rfl, rfl⟩
  cases g
  · obtain rfl : true = b := HX.out
    go_wp2
    go_ret
    exact ⟨rfl, hb1.alloc hb1.size _⟩
  · obtain rfl : false = b := HX.out
    go_wp2
    go_ret
    exact ⟨rfl, hb1.alloc hb1.size _⟩
end Go.Proofs.YtadbbkpillfjaaaGreatDoor

/-
  The program's reader of sums without any program: signs that wait, and that it answers what the levels read.
-/
namespace Go.Proofs.YtadbbkpillfjaaaGreatDoor

/-- How much a sign binds. -/
def bindK (k : Int) : Nat :=
  if k = 12 then 7 else if k = 5 ∨ k = 6 then 6 else if k = 3 ∨ k = 4 then 5 else if k = 7 ∨ k = 8 then 4 else if k = 11 then 3 else if k = 9 then 2 else if k = 10 then 1 else 0
/-- A sign between two that binds more than that stands next. -/
def OpNext (lev : Nat) (r : List TT) : Prop := ∃ k r1, (3 ≤ k ∧ k ≤ 10) ∧ r = sgnT k :: r1 ∧ lev < bindK k
theorem OpNext.mono {lev lev' : Nat} {r : List TT} (h : OpNext lev' r) (hl : lev ≤ lev') : OpNext lev r := by
  obtain ⟨k, r1, h1, h2, h3⟩ := h
  exact ⟨k, r1, h1, h2, by omega⟩
end Go.Proofs.YtadbbkpillfjaaaGreatDoor

/-
  The contracts of the program's questions for an item and for a sum.
-/
namespace Go.Proofs.YtadbbkpillfjaaaGreatDoor
open Go.ChangeShapes Go.WideShapes Go.ChangeAt Go.RowKit
attribute [local go_sem ↓] Go.wp_at_zero Go.wp_at_succ
attribute [local simp] World.cell?_alloc_past World.cell?_alloc_at World.frozen?_alloc_at cell_far cell_off cell_here World.frozen?_alloc_past

/-- How many the program makes one of. -/
def needsP (k : Int) : Nat := if 3 ≤ k ∧ k ≤ 10 then 2 else if k = 11 ∨ k = 12 then 1 else 0
theorem needsP_ok {x : TI} (h : itemB x = true) : needsP x.1 = needsI x.1 := by
  have hk : 1 ≤ x.1 ∧ x.1 ≤ 12 := by
    by_cases h1 : x.1 = 1
    · omega
    by_cases h2 : x.1 = 2
    · omega
    have := item_op h h1 h2
    omega
  unfold needsP needsI
  (repeat' split) <;> omega
theorem needsP_le (k : Int) : needsP k ≤ 2 := by unfold needsP; (repeat' split) <;> omega
theorem neq_k {k : Int} {j : Int} (h : k ≠ j) : (k == j) = false := by simpa using h
set_option maxHeartbeats 2000000 in
theorem needs_impl (k : Int) (n : Nat) (hn : needsP k = n) (w : World) :
    Calls Tryz.prog 85 #[.int .i64 k] w fun e w' => e = .returned (.int .i64 (n : Int)) ∧ w' = w := by
  by_cases h1 : 3 ≤ k ∧ k ≤ 10
  · have e : n = 2 := by rw [← hn]; unfold needsP; rw [if_pos h1]
    subst e
    have h2 : k = 3 ∨ k = 4 ∨ k = 5 ∨ k = 6 ∨ k = 7 ∨ k = 8 ∨ k = 9 ∨ k = 10 := by omega
    clear hn h1
    rcases h2 with rfl | rfl | rfl | rfl | rfl | rfl | rfl | rfl
    all_goals
      go_enter Tryz.func85, Tryz.ntmps85
      go_wp2
      go_ret
      exact ⟨rfl, rfl⟩
  by_cases h2 : k = 11 ∨ k = 12
  · have e : n = 1 := by rw [← hn]; unfold needsP; rw [if_neg h1, if_pos h2]
    subst e
    clear hn h1
    rcases h2 with rfl | rfl
    all_goals
      go_enter Tryz.func85, Tryz.ntmps85
      go_wp2
      go_ret
      exact ⟨rfl, rfl⟩
  have e : n = 0 := by rw [← hn]; unfold needsP; rw [if_neg h1, if_neg h2]
  subst e
  have q3 : (k == 3) = false := neq_k (by omega)
  have q4 : (k == 4) = false := neq_k (by omega)
  have q5 : (k == 5) = false := neq_k (by omega)
  have q6 : (k == 6) = false := neq_k (by omega)
  have q7 : (k == 7) = false := neq_k (by omega)
  have q8 : (k == 8) = false := neq_k (by omega)
  have q9 : (k == 9) = false := neq_k (by omega)
  have q10 : (k == 10) = false := neq_k (by omega)
  have q11 : (k == 11) = false := neq_k (by omega)
  have q12 : (k == 12) = false := neq_k (by omega)
  clear hn h1 h2
  go_enter Tryz.func85, Tryz.ntmps85
  go_wp2
  go_ret
  exact ⟨rfl, rfl⟩
set_option maxHeartbeats 2000000 in
theorem item_impl (x : TI) (w : World) (h1 : x.2.2.size ≤ 1048576) (h2 : x.2.1.2.2.size ≤ maxLen) (hp : PowAt w) (he : ErrAt w) (b : Bool) (hb : itemB x = b) :
    Calls Tryz.prog 86 #[.agg #[.int .i64 x.1, .int .i64 x.2.1.1, .int .i64 x.2.1.2.1, .string x.2.1.2.2, .string x.2.2]] w fun e w' => e = .returned (.bool b) ∧ Below w.heap.size w w' := by
  obtain ⟨k, ⟨ck, cn, ct⟩, s⟩ := x
  dsimp only at h1 h2 ⊢
  have HP : Hid (PowAt w) := hp
  have HE : Hid (ErrAt w) := he
  clear hp he
  have hA : Below w.heap.size w (w.alloc (.cells #[.int .i64 k, .int .i64 ck, .int .i64 cn, .string ct, .string s] 56)) := (Below.refl _ _).alloc (Nat.le_refl _) _
  unfold itemB at hb
  dsimp only at hb
  by_cases k1 : k = 1
  · subst k1
    rw [if_pos rfl] at hb
    obtain ⟨b1, e1⟩ : ∃ x, okC (ck, cn, ct) = x := ⟨_, rfl⟩
    obtain ⟨b2, e2⟩ : ∃ x, decide (s = ⟨#[]⟩) = x := ⟨_, rfl⟩
    rw [e1, e2] at hb
    have E1 : Hid (okB ck cn ct = b1) := e1
    have HBB : Hid ((b1 && b2) = b) := hb
    cases b2
    · have hq := not_lit (l := []) (of_decide_eq_false e2)
      obtain rfl : false = b := by rw [← HBB.out, Bool.and_false]
      clear e1 e2 hb
      have hq2 : s.toList.isEmpty = false := by
        cases hs : s.toList with
        | nil => rw [hs] at hq; exact absurd hq (by decide)
        | cons _ _ => rfl
      go_enter Tryz.func86, Tryz.ntmps86
      go_wp2
      go_ret
      exact ⟨rfl, hA⟩
    · obtain rfl : s = ⟨#[]⟩ := of_decide_eq_true e2
      obtain rfl : b1 = b := by rw [← HBB.out, Bool.and_true]
      clear e1 e2 hb
      go_enter Tryz.func86, Tryz.ntmps86
      go_wp2_with fail
      refine (ok_implb ck cn ct b1 E1.out _ h2).mono ?_
      rintro e w1 ⟨rfl, hb1⟩
      have hx := chain hA hb1
      go_wp2
      go_ret
      exact ⟨rfl, hx⟩
  rw [if_neg k1] at hb
  by_cases k2 : k = 2
  · subst k2
    rw [if_pos rfl] at hb
    obtain ⟨b1, e1⟩ : ∃ x, nameK s = x := ⟨_, rfl⟩
    obtain ⟨b2, e2⟩ : ∃ x, decide ((ck, cn, ct) = zeroC) = x := ⟨_, rfl⟩
    rw [e1, e2] at hb
    have hz := zeroC_same (ck, cn, ct) b2 e2
    dsimp only at hz
    have hq := fun w' => run_eql ck cn ct 0 0 ⟨#[]⟩ w'
    rw [hz] at hq
    have E1 : Hid (nameK s = b1) := e1
    have HBB : Hid ((b1 && b2) = b) := hb
    clear e1 e2 hz hb
    cases b2
    · obtain rfl : false = b := by rw [← HBB.out, Bool.and_false]
      go_enter Tryz.func86, Tryz.ntmps86
      go_wp2
      go_ret
      exact ⟨rfl, hA⟩
    · obtain rfl : b1 = b := by rw [← HBB.out, Bool.and_true]
      go_enter Tryz.func86, Tryz.ntmps86
      go_wp2_with fail
      refine (free_impl s h1 _ (HP.out.below hA) (HE.out.below hA) b1 E1.out).mono ?_
      rintro e w1 ⟨rfl, hb1⟩
      have hx := chain hA hb1
      go_wp2
      go_ret
      exact ⟨rfl, hx⟩
  rw [if_neg k2] at hb
  have hq := fun w' => run_eqlI k ck cn ct s w'
  obtain ⟨b2, e2⟩ : ∃ x, ((ck == 0 && cn == 0) && (ct.toList == [] && s.toList == [])) = x := ⟨_, rfl⟩
  rw [e2] at hq
  have e3 : decide (((k, (ck, cn, ct), s) : TI) = opI k) = b2 := by
    rw [← e2]
    have g1 := zero_txt ct _ rfl
    have g2 := zero_txt s _ rfl
    rw [g1, g2, Bool.eq_iff_iff, decide_eq_true_eq]
    unfold opI zeroC
    simp [and_assoc]
  rw [e3] at hb
  clear e2 e3
  have q1 : (k == 1) = false := neq_k k1
  have q2 : (k == 2) = false := neq_k k2
  obtain ⟨n, hn⟩ : ∃ n, needsP k = n := ⟨_, rfl⟩
  have HN : Hid (needsP k = n) := hn
  by_cases h3 : 3 ≤ k ∧ k ≤ 12
  · rw [decide_eq_true h3.1, decide_eq_true h3.2] at hb
    obtain rfl : b2 = b := by simpa using hb
    have hn0 : (0 : Int) < (n : Int) := by
      rw [← hn]; unfold needsP; (repeat' split) <;> omega
    clear hb hn
    go_enter Tryz.func86, Tryz.ntmps86
    go_wp2_with fail
    refine (needs_impl k n HN.out _).mono ?_
    rintro e w1 ⟨rfl, rfl⟩
    go_wp2
    go_ret
    exact ⟨rfl, hA⟩
  · have hbf : b = false := by
      rw [← hb]
      by_cases h4 : 3 ≤ k
      · rw [decide_eq_false (fun h5 => h3 ⟨h4, h5⟩)]; simp
      · rw [decide_eq_false h4]; simp
    subst hbf
    have hn0 : n = 0 := by
      rw [← hn]; unfold needsP; (repeat' split) <;> omega
    subst hn0
    clear hb hn
    go_enter Tryz.func86, Tryz.ntmps86
    go_wp2_with fail
    refine (needs_impl k 0 HN.out _).mono ?_
    rintro e w1 ⟨rfl, rfl⟩
    go_wp2
    go_ret
    exact ⟨rfl, hA⟩
end Go.Proofs.YtadbbkpillfjaaaGreatDoor

/-
  The contract of the program's SumOk.
-/
namespace Go.Proofs.YtadbbkpillfjaaaGreatDoor
open Go.ChangeShapes Go.WideShapes Go.ChangeAt Go.RowKit
attribute [local go_sem ↓] Go.wp_at_zero Go.wp_at_succ
attribute [local simp] World.cell?_alloc_past World.cell?_alloc_at World.frozen?_alloc_at cell_far cell_off cell_here World.frozen?_alloc_past

/-- The texts of the items are not too long to be told. -/
def FitI (l : List TI) : Prop := ∀ x ∈ l, x.2.1.2.2.size ≤ maxLen ∧ x.2.2.size ≤ 1048576
set_option maxRecDepth 100000 in
set_option maxHeartbeats 4000000 in
theorem sum_impl (a : Option Addr) (cap : Nat) (l : List TI) (n : Nat) (hnl : l.length = n) (w : World) (hrow : ItmAt w a l) (hfit : FitI l) (hm : n ≤ maxLen) (hp : PowAt w) (he : ErrAt w) (b : Bool) (hb : sumB l = b) :
    Calls Tryz.prog 78 #[.slice a n cap] w fun e w' => e = .returned (.bool b) ∧ Below w.heap.size w w' := by
  have HR : Hid (ItmAt w a l) := hrow
  have HF : Hid (FitI l) := hfit
  have HB : Hid (sumB l = b) := hb
  have HP : Hid (PowAt w) := hp
  have HE : Hid (ErrAt w) := he
  have HL : Hid (l.length = n) := hnl
  clear hrow hfit hb hp he hnl
  unfold maxLen at hm
  by_cases h40 : 40 < n
  · have hi : (40 : Int) < (n : Int) := by omega
    have e : b = false := by
      rw [← HB.out]; unfold sumB
      rw [HL.out, decide_eq_false (p := n ≤ 40) (by omega), Bool.and_false]
    subst e
    go_enter Tryz.func78, Tryz.ntmps78
    go_wp2
    go_ret
    exact ⟨rfl, Below.refl _ _⟩
  have hi : ¬ (40 : Int) < (n : Int) := by omega
  go_enter Tryz.func78, Tryz.ntmps78
  go_wp2
  go_loopw [3, 12] (fun nv kk wr => ∃ k c : Nat, k ≤ n ∧ kk = .int .i64 k ∧ nv = .int .i64 c ∧ c ≤ k ∧ Hid (heapN (l.take k) 0 = some c) ∧ Below w.heap.size w wr) (fun _ kk _ => n - (intOf kk).toNat)
  case atStart => exact ⟨0, 0, Nat.zero_le _, rfl, rfl, Nat.le_refl _, rfl, Below.refl _ _⟩
  case round =>
    obtain ⟨k, c, hk, rfl, rfl, hck, hhp, hbw⟩ := hrel
    by_cases hlt : k < n
    · have hlk : k < l.length := by rw [HL.out]; exact hlt
      obtain ⟨g, o, rfl, hgw, c0, c1, c2, c3, c4⟩ := HR.out.below hbw k hlk
      have hi0 : (0 : Int) ≤ (k : Int) := by omega
      have hi1 : (k : Int) < (n : Int) := by omega
      obtain ⟨hf1, hf2⟩ := HF.out _ (List.getElem_mem hlk)
      have hst := heap_step l k hlk c hhp.out
      have HNO : Hid (heapN (l.take (k + 1)) 0 = none → b = false) := by
        have : heapN (l.take (k + 1)) 0 = none → b = false := fun h => by rw [← HB.out]; exact heap_no l (k + 1) h
        exact this
      obtain ⟨r, hr⟩ : ∃ r, itemB l[k] = r := ⟨_, rfl⟩
      obtain ⟨d, hd⟩ : ∃ d, needsP l[k].1 = d := ⟨_, rfl⟩
      have hdd : r = true → needsI l[k].1 = d := fun e => by rw [← hd, needsP_ok (hr.trans e)]
      have HST : Hid (heapN (l.take (k + 1)) 0 = if r = true ∧ d ≤ c then some (c + 1 - d) else none) := by
        have : heapN (l.take (k + 1)) 0 = if r = true ∧ d ≤ c then some (c + 1 - d) else none := by
          rw [hst, hr]
          cases r with
          | false => simp
          | true => rw [hdd rfl]
        exact this
      have HRR : Hid (itemB l[k] = r) := hr
      have HD : Hid (needsP l[k].1 = d) := hd
      have hd2 : d ≤ 2 := by rw [← hd]; exact needsP_le _
      clear hst hr hd hdd
      generalize l[k] = x at c0 c1 c2 c3 c4 hf1 hf2 HRR HD
      go_wp2_with fail
      refine (needs_impl x.1 d HD.out _).mono ?_
      rintro e w1 ⟨rfl, rfl⟩
      have hxA : Below w.heap.size w (wr.alloc (.cells #[.int .i64 x.1, .int .i64 x.2.1.1, .int .i64 x.2.1.2.1, .string x.2.1.2.2, .string x.2.2] 56)) := hbw.alloc hbw.size _
      clear c0 c1 c2 c3 c4
      go_wp2_with fail
      refine (item_impl x _ hf2 hf1 (HP.out.below hxA) (HE.out.below hxA) r HRR.out).mono ?_
      rintro e w2 ⟨rfl, hb2⟩
      have hx2 := chain hxA hb2
      clear hxA hb2
      cases r
      · obtain rfl : b = false := HNO.out (by rw [HST.out, if_neg (by simp)])
        go_wp2
        go_ret
        exact ⟨rfl, hx2⟩
      by_cases hcd : d ≤ c
      · have h1 : ¬ (c : Int) < (d : Int) := by omega
        have HS2 : Hid (heapN (l.take (k + 1)) 0 = some (c + 1 - d)) := by
          have : heapN (l.take (k + 1)) 0 = some (c + 1 - d) := by rw [HST.out]; simp [hcd]
          exact this
        have hz : ((c + 1 - d : Nat) : Int) = (c : Int) + (1 - (d : Int)) := by omega
        go_wp2
        go_roundw
        case rel => exact ⟨k + 1, c + 1 - d, by omega, by go_num, by rw [hz], by omega, HS2, hx2⟩
        case measure => simp [intOf]; omega
      · have h1 : (c : Int) < (d : Int) := by omega
        obtain rfl : b = false := HNO.out (by rw [HST.out, if_neg (fun h => hcd h.2)])
        go_wp2
        go_ret
        exact ⟨rfl, hx2⟩
    · have hkl : k = n := by omega
      subst hkl
      have hi1 : ¬ (k : Int) < (k : Int) := by omega
      have hh := hhp.out
      rw [List.take_of_length_le (by rw [HL.out]; exact Nat.le_refl _)] at hh
      have HBB : Hid (decide (c = 1) = b) := by
        have : decide (c = 1) = b := by
          rw [← HB.out]; unfold sumB; rw [hh, HL.out, decide_eq_true (p := k ≤ 40) (by omega)]; simp
        exact this
      clear hh
      by_cases e1 : c = 1
      · subst e1
        go_wp2
        go_ret
        exact ⟨ret_bool (by rw [← HBB.out]; simp), hbw⟩
      · have e2 : ¬ (c : Int) = 1 := by omega
        have e3 : ((c : Int) == 1) = false := by simpa using e2
        go_wp2
        go_ret
        exact ⟨ret_bool (by rw [← HBB.out]; simp [e1]), hbw⟩
end Go.Proofs.YtadbbkpillfjaaaGreatDoor

/-
  The contract of the program's MayFail.
-/
namespace Go.Proofs.YtadbbkpillfjaaaGreatDoor
open Go.ChangeShapes Go.WideShapes Go.ChangeAt Go.RowKit
attribute [local go_sem ↓] Go.wp_at_zero Go.wp_at_succ
attribute [local simp] World.cell?_alloc_past World.cell?_alloc_at World.frozen?_alloc_at cell_far cell_off cell_here World.frozen?_alloc_past

theorem may_specb (a : Option Addr) (cap : Nat) (l : List TI) (n : Nat) (hn : l.length = n) (w : World) (hrow : ItmAt w a l) (hfit : FitItm l) (hm : n ≤ maxLen) (b : Bool) (hb : mayR l = b) :
    Calls Tryz.prog 44 #[.slice a n cap] w fun e w' => e = .returned (.bool b) ∧ Below w.heap.size w w' := by
  subst hb; exact may_spec a cap l n hn w hrow hfit hm
/-- An item that may fail, as the program asks. -/
def faultP (x : TI) : Bool := decide (0 < needsP x.1) && decide (x.1 ≠ 12)
theorem fault_safe {x : TI} (h : itemB x = true) : faultP x = !safeI x := by
  have hk : 1 ≤ x.1 ∧ x.1 ≤ 12 := by
    by_cases h1 : x.1 = 1
    · omega
    by_cases h2 : x.1 = 2
    · omega
    have := item_op h h1 h2
    omega
  obtain ⟨k, y⟩ := x
  dsimp only at hk
  have h2 : k = 1 ∨ k = 2 ∨ k = 3 ∨ k = 4 ∨ k = 5 ∨ k = 6 ∨ k = 7 ∨ k = 8 ∨ k = 9 ∨ k = 10 ∨ k = 11 ∨ k = 12 := by omega
  clear h hk
  rcases h2 with rfl | rfl | rfl | rfl | rfl | rfl | rfl | rfl | rfl | rfl | rfl | rfl <;> simp [faultP, safeI, needsP]
theorem heap_all : ∀ (l : List TI) (n m : Nat), heapN l n = some m → ∀ x ∈ l, itemB x = true
  | [], _, _, _, x, hx => by simp at hx
  | y :: l, n, m, h, x, hx => by
    unfold heapN at h
    split at h
    · rename_i hc
      rcases List.mem_cons.1 hx with rfl | hx
      · exact hc.1
      · exact heap_all l _ m h x hx
    · cases h
theorem may_fault (l : List TI) : mayR l = (!sumB l || l.any faultP) := by
  unfold mayR
  cases hs : sumB l with
  | false => simp
  | true =>
    have h1 : heapN l 0 = some 1 := by
      unfold sumB at hs
      simp only [Bool.and_eq_true, decide_eq_true_eq] at hs
      exact hs.1
    have ha := heap_all l 0 1 h1
    have : l.any faultP = l.any (fun x => !safeI x) := by
      rw [Bool.eq_iff_iff, List.any_eq_true, List.any_eq_true]
      exact ⟨fun ⟨x, hx, hy⟩ => ⟨x, hx, by rw [← fault_safe (ha x hx)]; exact hy⟩, fun ⟨x, hx, hy⟩ => ⟨x, hx, by rw [fault_safe (ha x hx)]; exact hy⟩⟩
    rw [this]
    simp [List.all_eq_not_any_not]
set_option maxHeartbeats 1000000 in
theorem fault_impl (x : TI) (b : Bool) (hb : faultP x = b) (w : World) :
    Calls Tryz.prog 80 #[.agg #[.int .i64 x.1, .int .i64 x.2.1.1, .int .i64 x.2.1.2.1, .string x.2.1.2.2, .string x.2.2]] w fun e w' => e = .returned (.bool b) ∧ Below w.heap.size w w' := by
  obtain ⟨k, ⟨ck, cn, ct⟩, s⟩ := x
  dsimp only at hb ⊢
  have hA : Below w.heap.size w (w.alloc (.cells #[.int .i64 k, .int .i64 ck, .int .i64 cn, .string ct, .string s] 56)) := (Below.refl _ _).alloc (Nat.le_refl _) _
  obtain ⟨n, hn⟩ : ∃ n, needsP k = n := ⟨_, rfl⟩
  have HN : Hid (needsP k = n) := hn
  have HB : Hid ((decide (0 < n) && decide (k ≠ 12)) = b) := by
    have : (decide (0 < n) && decide (k ≠ 12)) = b := by rw [← hb, ← hn]; rfl
    exact this
  clear hb hn
  by_cases h0 : n = 0
  · subst h0
    obtain rfl : false = b := HB.out
    go_enter Tryz.func80, Tryz.ntmps80
    go_wp2_with fail
    refine (needs_impl k 0 HN.out _).mono ?_
    rintro e w1 ⟨rfl, rfl⟩
    go_wp2
    go_ret
    exact ⟨rfl, hA⟩
  have hn0 : (0 : Int) < (n : Int) := by omega
  by_cases h12 : k = 12
  · subst h12
    obtain rfl : false = b := by rw [← HB.out]; simp
    go_enter Tryz.func80, Tryz.ntmps80
    go_wp2_with fail
    refine (needs_impl 12 n HN.out _).mono ?_
    rintro e w1 ⟨rfl, rfl⟩
    go_wp2
    go_ret
    exact ⟨rfl, hA⟩
  · obtain rfl : true = b := by
      rw [← HB.out]; simp [h12]; omega
    have q12 : (k != 12) = true := by simp [h12]
    go_enter Tryz.func80, Tryz.ntmps80
    go_wp2_with fail
    refine (needs_impl k n HN.out _).mono ?_
    rintro e w1 ⟨rfl, rfl⟩
    go_wp2
    go_ret
    exact ⟨rfl, hA⟩
set_option maxRecDepth 100000 in
set_option maxHeartbeats 2000000 in
theorem index_impl (a : Option Addr) (cap : Nat) (l : List TI) (n : Nat) (hnl : l.length = n) (w : World) (hrow : ItmAt w a l) (hm : n ≤ maxLen) :
    Calls Tryz.prog 87 #[.slice a n cap, .func (.func 80) #[] #[]] w fun e w' => ∃ r : Int, e = .returned (.int .i64 r) ∧ decide (0 ≤ r) = l.any faultP ∧ Below w.heap.size w w' := by
  have HR : Hid (ItmAt w a l) := hrow
  have HL : Hid (l.length = n) := hnl
  clear hrow hnl
  unfold maxLen at hm
  go_enter Tryz.func87, Tryz.ntmps87
  go_wp2
  go_loopw [8] (fun kk wr => ∃ k : Nat, k ≤ n ∧ kk = .int .i64 k ∧ Hid ((l.take k).any faultP = false) ∧ Below w.heap.size w wr) (fun kk _ => n - (intOf kk).toNat)
  case atStart => exact ⟨0, Nat.zero_le _, rfl, rfl, Below.refl _ _⟩
  case round =>
    obtain ⟨k, hk, rfl, hall, hbw⟩ := hrel
    by_cases hlt : k < n
    · have hlk : k < l.length := by rw [HL.out]; exact hlt
      obtain ⟨g, o, rfl, hgw, c0, c1, c2, c3, c4⟩ := HR.out.below hbw k hlk
      have hi0 : (0 : Int) ≤ (k : Int) := by omega
      have hi1 : (k : Int) < (n : Int) := by omega
      obtain ⟨r, hr⟩ : ∃ r, faultP l[k] = r := ⟨_, rfl⟩
      have hsn : (l.take (k + 1)).any faultP = r := by
        rw [List.take_succ_eq_append_getElem hlk, List.any_append, hall.out, ← hr]; simp
      have HS : Hid ((l.take (k + 1)).any faultP = r) := hsn
      have HY : Hid (r = true → l.any faultP = true) := by
        have : r = true → l.any faultP = true := fun e => List.any_eq_true.2 ⟨l[k], List.getElem_mem hlk, hr.trans e⟩
        exact this
      have HRR : Hid (faultP l[k] = r) := hr
      clear hr hsn hall
      generalize l[k] = x at c0 c1 c2 c3 c4 HRR
      go_wp2_with fail
      refine (fault_impl x r HRR.out _).mono ?_
      rintro e w1 ⟨rfl, hb1⟩
      have hx1 := chain hbw hb1
      clear c0 c1 c2 c3 c4 hb1
      cases r
      · go_wp2
        go_roundw
        case rel => exact ⟨k + 1, by omega, by go_num, HS, hx1⟩
        case measure => simp [intOf]; omega
      · have fin : Hid (l.any faultP = true) := HY.out rfl
        go_wp2
        go_ret
        exact ⟨_, rfl, by rw [fin.out]; exact decide_eq_true hi0, hx1⟩
    · have hkl : k = n := by omega
      subst hkl
      have hi1 : ¬ (k : Int) < (k : Int) := by omega
      have fin : Hid (l.any faultP = false) := by
        have : l.any faultP = false := by
          have := hall.out
          rwa [List.take_of_length_le (by rw [HL.out]; exact Nat.le_refl _)] at this
        exact this
      clear hall
      go_wp2
      go_ret
      exact ⟨_, rfl, by rw [fin.out]; decide, hbw⟩
set_option maxHeartbeats 1000000 in
theorem contains_impl (a : Option Addr) (cap : Nat) (l : List TI) (n : Nat) (hnl : l.length = n) (w : World) (hrow : ItmAt w a l) (hm : n ≤ maxLen) (b : Bool) (hb : l.any faultP = b) :
    Calls Tryz.prog 79 #[.slice a n cap, .func (.func 80) #[] #[]] w fun e w' => e = .returned (.bool b) ∧ Below w.heap.size w w' := by
  have HR : Hid (ItmAt w a l) := hrow
  have HL : Hid (l.length = n) := hnl
  have HB : Hid (l.any faultP = b) := hb
  clear hrow hnl hb
  go_enter Tryz.func79, Tryz.ntmps79
  go_wp2_with fail
  refine (index_impl a cap l n HL.out _ HR.out hm).mono ?_
  rintro e w1 ⟨r, rfl, hr, hb1⟩
  rw [HB.out] at hr
  cases b
  · have h0 : ¬ (0 : Int) ≤ r := of_decide_eq_false hr
    clear hr
    go_wp2
    go_ret
    exact ⟨ret_bool (decide_eq_false (Int.not_le.2 h0)), hb1⟩
  · have h0 : (0 : Int) ≤ r := of_decide_eq_true hr
    clear hr
    go_wp2
    go_ret
    exact ⟨rfl, hb1⟩
set_option maxHeartbeats 1000000 in
theorem may_impl (a : Option Addr) (cap : Nat) (l : List TI) (n : Nat) (hnl : l.length = n) (w : World) (hrow : ItmAt w a l) (hfit : FitI l) (hm : n ≤ maxLen) (hp : PowAt w) (he : ErrAt w) (b : Bool) (hb : mayR l = b) :
    Calls Tryz.prog 63 #[.slice a n cap] w fun e w' => e = .returned (.bool b) ∧ Below w.heap.size w w' := by
  have HR : Hid (ItmAt w a l) := hrow
  have HF : Hid (FitI l) := hfit
  have HP : Hid (PowAt w) := hp
  have HE : Hid (ErrAt w) := he
  have HL : Hid (l.length = n) := hnl
  obtain ⟨s, hs⟩ : ∃ s, sumB l = s := ⟨_, rfl⟩
  obtain ⟨f, hf⟩ : ∃ f, l.any faultP = f := ⟨_, rfl⟩
  have HS : Hid (sumB l = s) := hs
  have HFP : Hid (l.any faultP = f) := hf
  have HB : Hid ((!s || f) = b) := by
    have : (!s || f) = b := by rw [← hb, may_fault, hs, hf]
    exact this
  clear hrow hfit hp he hnl hb hs hf
  go_enter Tryz.func63, Tryz.ntmps63
  go_wp2_with fail
  refine (sum_impl a cap l n HL.out _ HR.out HF.out hm HP.out HE.out s HS.out).mono ?_
  rintro e w1 ⟨rfl, hb1⟩
  cases s
  · obtain rfl : true = b := HB.out
    go_wp2
    go_ret
    exact ⟨rfl, hb1⟩
  · obtain rfl : f = b := HB.out
    go_wp2_with fail
    refine (contains_impl a cap l n HL.out _ (HR.out.below hb1) hm f HFP.out).mono ?_
    rintro e w2 ⟨rfl, hb2⟩
    have hx2 := chain hb1 hb2
    go_wp2
    go_ret
    exact ⟨rfl, hx2⟩
end Go.Proofs.YtadbbkpillfjaaaGreatDoor
