/-
  A part of the proof: TokI, YardMath, SumI, SumI2, Until.
-/
import Derived.Test.YtpggjgilklpncaaGreatDoorPart4
import Derived.Test.YtpggjgilklpncaaGreatDoorPart12
import Derived.Test.YtpggjgilklpncaaGreatDoorPart13
import Derived.Test.YtpggjgilklpncaaGreatDoorPart6
import Derived.Deep.RegionHeld3

/-
  The contracts of the program's questions for a token, and of what one piece is read as.
-/
namespace Go.Proofs.YtpggjgilklpncaaGreatDoor
open Go.ChangeShapes Go.WideShapes Go.ChangeAt Go.RowKit
attribute [local go_sem ↓] Go.wp_at_zero Go.wp_at_succ
attribute [local simp] World.cell?_alloc_past World.cell?_alloc_at World.frozen?_alloc_at cell_far cell_off cell_here World.frozen?_alloc_past

/-- A name that is no other word: a name that is neither read as a cell nor a sign. -/
theorem nameK_free (s : ByteArray) : nameK s = (nameB s && (!(readB s).isSome && !signB s)) := by
  cases hn : nameB s with
  | false => unfold nameK; rw [hn]; rfl
  | true =>
    have hn2 := hn
    unfold nameB at hn2
    simp only [Bool.and_eq_true, decide_eq_true_eq] at hn2
    obtain ⟨_, h2, _⟩ := hn2
    have hO : inB signO s = false := by
      cases hq : inB signO s with
      | false => rfl
      | true =>
        exfalso
        have hm := inB_iff.1 hq
        have hall := List.all_eq_true.1 h2
        simp only [signO, List.mem_cons, List.not_mem_nil, or_false] at hm
        rcases hm with rfl | rfl | rfl | rfl | rfl | rfl | rfl | rfl <;> exact absurd (hall _ (List.mem_cons_self ..)) (by decide)
    have hR : (readB s).isSome = !(decide (s.data.toList ≠ wNone) && (decide (s.data.toList ≠ wYes) && decide (s.data.toList ≠ wNo))) := by
      cases hq : readB s with
      | none =>
        unfold readB at hq
        by_cases e1 : s.data.toList = wNone
        · rw [if_pos e1] at hq; cases hq
        by_cases e2 : s.data.toList = wYes
        · rw [if_neg e1, if_pos e2] at hq; cases hq
        by_cases e3 : s.data.toList = wNo
        · rw [if_neg e1, if_neg e2, if_pos e3] at hq; cases hq
        rw [decide_eq_true e1, decide_eq_true e2, decide_eq_true e3]; rfl
      | some d =>
        have es : (⟨s.data.toList.toArray⟩ : ByteArray) = s := rfl
        rw [← es] at hq
        rcases readB_head hq with q | q | q | ⟨b, x, q, hb⟩
        · simp [q]
        · simp [q]
        · simp [q]
        · exfalso
          have hl : letB b = true := List.all_eq_true.1 h2 b (by rw [q]; simp)
          rcases hb with hb | rfl | rfl
          · rw [letB_dig hb] at hl; cases hl
          · exact absurd hl (by decide)
          · exact absurd hl (by decide)
    unfold nameK signB
    rw [hn, hO, hR, Bool.or_false, Bool.not_not]
    cases inB signW s <;> cases (decide (s.data.toList ≠ wNone) && (decide (s.data.toList ≠ wYes) && decide (s.data.toList ≠ wNo))) <;> rfl
theorem readR_b {s : ByteArray} {k n : Int} {t : ByteArray} {b : Bool} (h : readR s = (k, n, t, b)) : (readB s).isSome = b ∧ (b = true → readB s = some (k, n, t)) := by
  unfold readR at h
  cases hq : readB s with
  | none =>
    rw [hq] at h
    injection h with _ h; injection h with _ h; injection h with _ h
    subst h
    exact ⟨rfl, fun h => by cases h⟩
  | some d =>
    obtain ⟨k', n', t'⟩ := d
    rw [hq] at h
    injection h with h1 h; injection h with h2 h; injection h with h3 h
    subst h1 h2 h3 h
    exact ⟨rfl, fun _ => rfl⟩

theorem not_lit {s : ByteArray} {l : List UInt8} (h : s ≠ ⟨l.toArray⟩) : (s.toList == l) = false := by
  rw [Lib.toList_data, beq_eq_false_iff_ne]
  exact fun e => h (bytes_ext e)
set_option maxRecDepth 100000 in
set_option maxHeartbeats 4000000 in
theorem sign_impl (s : ByteArray) (b : Bool) (hb : signB s = b) (w : World) :
    Calls Tryz.prog 58 #[.string s] w fun e w' => e = .returned (.bool b) ∧ w' = w := by
  cases b with
  | true =>
    unfold signB at hb
    rw [Bool.or_eq_true] at hb
    rcases hb with hs | hs
    · have hm := inB_iff.1 hs
      simp only [signW, List.mem_cons, List.not_mem_nil, or_false] at hm
      clear hs
      rcases hm with rfl | rfl | rfl | rfl
      all_goals
        go_enter Tryz.func58, Tryz.ntmps58
        go_wp2
        go_ret
        exact ⟨rfl, rfl⟩
    · have hm := inB_iff.1 hs
      simp only [signO, List.mem_cons, List.not_mem_nil, or_false] at hm
      clear hs
      rcases hm with rfl | rfl | rfl | rfl | rfl | rfl | rfl | rfl
      all_goals
        go_enter Tryz.func58, Tryz.ntmps58
        go_wp2
        go_ret
        exact ⟨rfl, rfl⟩
  | false =>
    unfold signB at hb
    rw [Bool.or_eq_false_iff, inB_no, inB_no] at hb
    obtain ⟨h1, h2⟩ := hb
    simp only [signW, signO, List.mem_cons, List.not_mem_nil, or_false, not_or] at h1 h2
    obtain ⟨a1, a2, a3, a4⟩ := h1
    obtain ⟨b1, b2, b3, b4, b5, b6, b7, b8⟩ := h2
    have q1 := not_lit (l := [97, 110, 100]) a1
    have q2 := not_lit (l := [111, 114]) a2
    have q3 := not_lit (l := [110, 111, 116]) a3
    have q4 := not_lit (l := [108, 97, 99, 107, 115]) a4
    have r1 := not_lit (l := [43]) b1
    have r2 := not_lit (l := [45]) b2
    have r3 := not_lit (l := [42]) b3
    have r4 := not_lit (l := [47]) b4
    have r5 := not_lit (l := [61]) b5
    have r6 := not_lit (l := [60]) b6
    have r7 := not_lit (l := [40]) b7
    have r8 := not_lit (l := [41]) b8
    clear a1 a2 a3 a4 b1 b2 b3 b4 b5 b6 b7 b8
    go_enter Tryz.func58, Tryz.ntmps58
    go_wp2
    go_ret
    exact ⟨rfl, rfl⟩
set_option maxHeartbeats 1000000 in
theorem free_impl (s : ByteArray) (hs : s.size ≤ 1048576) (w : World) (hp : PowAt w) (he : ErrAt w) (b : Bool) (hb : nameK s = b) :
    Calls Tryz.prog 50 #[.string s] w fun e w' => e = .returned (.bool b) ∧ Below w.heap.size w w' := by
  have HB : Hid (nameK s = b) := hb
  have HP : Hid (PowAt w) := hp
  have HE : Hid (ErrAt w) := he
  clear hb hp he
  have hsM : s.size ≤ maxLen := by unfold maxLen; omega
  obtain ⟨k, n, t, c, hR⟩ : ∃ k n t c, readR s = (k, n, t, c) := ⟨_, _, _, _, rfl⟩
  have HR : Hid (readR s = (k, n, t, c)) := hR
  obtain ⟨q, hq⟩ : ∃ x, nameB s = x := ⟨_, rfl⟩
  obtain ⟨g, hg⟩ : ∃ x, signB s = x := ⟨_, rfl⟩
  have HQ : Hid (nameB s = q) := hq
  have HG : Hid (signB s = g) := hg
  have HX : Hid ((q && (!c && !g)) = b) := by
    have : (q && (!c && !g)) = b := by rw [← HB.out, nameK_free, hq, hg, (readR_b hR).1]
    exact this
  clear hR hq hg HB
  go_enter Tryz.func50, Tryz.ntmps50
  go_wp2_with fail
  refine (readcell_impl s hs _ HP.out HE.out k n t c HR.out).mono ?_
  rintro e w1 ⟨rfl, hb1⟩
  go_wp2_with fail
  refine (name_impl s _ hsM q HQ.out).mono ?_
  rintro e w2 ⟨rfl, rfl⟩
  cases q
  · obtain rfl : false = b := HX.out
    go_wp2
    go_ret
    exact ⟨rfl, hb1.alloc hb1.size _⟩
  rcases Bool.eq_false_or_eq_true c with rfl | rfl
  · obtain rfl : false = b := HX.out
    go_wp2
    go_ret
    exact ⟨rfl, hb1.alloc hb1.size _⟩
  go_wp2_with fail
  refine (sign_impl s g HG.out _).mono ?_
  rintro e w3 ⟨rfl, rfl⟩
  cases g
  · obtain rfl : true = b := HX.out
    go_wp2
    go_ret
    exact ⟨rfl, hb1.alloc hb1.size _⟩
  · obtain rfl : false = b := HX.out
    go_wp2
    go_ret
    exact ⟨rfl, hb1.alloc hb1.size _⟩
end Go.Proofs.YtpggjgilklpncaaGreatDoor

/-
  The program's reader of sums without any program: signs that wait, and that it answers what the levels read.
-/
namespace Go.Proofs.YtpggjgilklpncaaGreatDoor

/-- How much a sign binds. -/
def bindK (k : Int) : Nat :=
  if k = 12 then 7 else if k = 5 ∨ k = 6 then 6 else if k = 3 ∨ k = 4 then 5 else if k = 7 ∨ k = 8 then 4 else if k = 11 then 3 else if k = 9 then 2 else if k = 10 then 1 else 0
/-- A sign between two that binds more than that stands next. -/
def OpNext (lev : Nat) (r : List TT) : Prop := ∃ k r1, (3 ≤ k ∧ k ≤ 10) ∧ r = sgnT k :: r1 ∧ lev < bindK k
theorem OpNext.mono {lev lev' : Nat} {r : List TT} (h : OpNext lev' r) (hl : lev ≤ lev') : OpNext lev r := by
  obtain ⟨k, r1, h1, h2, h3⟩ := h
  exact ⟨k, r1, h1, h2, by omega⟩
end Go.Proofs.YtpggjgilklpncaaGreatDoor

/-
  The contracts of the program's questions for an item and for a sum.
-/
namespace Go.Proofs.YtpggjgilklpncaaGreatDoor
open Go.ChangeShapes Go.WideShapes Go.ChangeAt Go.RowKit
attribute [local go_sem ↓] Go.wp_at_zero Go.wp_at_succ
attribute [local simp] World.cell?_alloc_past World.cell?_alloc_at World.frozen?_alloc_at cell_far cell_off cell_here World.frozen?_alloc_past

/-- How many the program makes one of. -/
def needsP (k : Int) : Nat := if 3 ≤ k ∧ k ≤ 10 then 2 else if k = 11 ∨ k = 12 then 1 else 0
theorem needsP_ok {x : TI} (h : itemB x = true) : needsP x.1 = needsI x.1 := by
  have hk : 1 ≤ x.1 ∧ x.1 ≤ 12 := by
    by_cases h1 : x.1 = 1
    · omega
    by_cases h2 : x.1 = 2
    · omega
    have := item_op h h1 h2
    omega
  unfold needsP needsI
  (repeat' split) <;> omega
theorem needsP_le (k : Int) : needsP k ≤ 2 := by unfold needsP; (repeat' split) <;> omega
theorem neq_k {k : Int} {j : Int} (h : k ≠ j) : (k == j) = false := by simpa using h
set_option maxHeartbeats 2000000 in
theorem needs_impl (k : Int) (n : Nat) (hn : needsP k = n) (w : World) :
    Calls Tryz.prog 60 #[.int .i64 k] w fun e w' => e = .returned (.int .i64 (n : Int)) ∧ w' = w := by
  by_cases h1 : 3 ≤ k ∧ k ≤ 10
  · have e : n = 2 := by rw [← hn]; unfold needsP; rw [if_pos h1]
    subst e
    have h2 : k = 3 ∨ k = 4 ∨ k = 5 ∨ k = 6 ∨ k = 7 ∨ k = 8 ∨ k = 9 ∨ k = 10 := by omega
    clear hn h1
    rcases h2 with rfl | rfl | rfl | rfl | rfl | rfl | rfl | rfl
    all_goals
      go_enter Tryz.func60, Tryz.ntmps60
      go_wp2
      go_ret
      exact ⟨rfl, rfl⟩
  by_cases h2 : k = 11 ∨ k = 12
  · have e : n = 1 := by rw [← hn]; unfold needsP; rw [if_neg h1, if_pos h2]
    subst e
    clear hn h1
    rcases h2 with rfl | rfl
    all_goals
      go_enter Tryz.func60, Tryz.ntmps60
      go_wp2
      go_ret
      exact ⟨rfl, rfl⟩
  have e : n = 0 := by rw [← hn]; unfold needsP; rw [if_neg h1, if_neg h2]
  subst e
  have q3 : (k == 3) = false := neq_k (by omega)
  have q4 : (k == 4) = false := neq_k (by omega)
  have q5 : (k == 5) = false := neq_k (by omega)
  have q6 : (k == 6) = false := neq_k (by omega)
  have q7 : (k == 7) = false := neq_k (by omega)
  have q8 : (k == 8) = false := neq_k (by omega)
  have q9 : (k == 9) = false := neq_k (by omega)
  have q10 : (k == 10) = false := neq_k (by omega)
  have q11 : (k == 11) = false := neq_k (by omega)
  have q12 : (k == 12) = false := neq_k (by omega)
  clear hn h1 h2
  go_enter Tryz.func60, Tryz.ntmps60
  go_wp2
  go_ret
  exact ⟨rfl, rfl⟩
set_option maxHeartbeats 2000000 in
theorem item_impl (x : TI) (w : World) (h1 : x.2.2.size ≤ 1048576) (h2 : x.2.1.2.2.size ≤ maxLen) (hp : PowAt w) (he : ErrAt w) (b : Bool) (hb : itemB x = b) :
    Calls Tryz.prog 61 #[.agg #[.int .i64 x.1, .int .i64 x.2.1.1, .int .i64 x.2.1.2.1, .string x.2.1.2.2, .string x.2.2]] w fun e w' => e = .returned (.bool b) ∧ Below w.heap.size w w' := by
  obtain ⟨k, ⟨ck, cn, ct⟩, s⟩ := x
  dsimp only at h1 h2 ⊢
  have HP : Hid (PowAt w) := hp
  have HE : Hid (ErrAt w) := he
  clear hp he
  have hA : Below w.heap.size w (w.alloc (.cells #[.int .i64 k, .int .i64 ck, .int .i64 cn, .string ct, .string s] 58)) := (Below.refl _ _).alloc (Nat.le_refl _) _
  unfold itemB at hb
  dsimp only at hb
  by_cases k1 : k = 1
  · subst k1
    rw [if_pos rfl] at hb
    obtain ⟨b1, e1⟩ : ∃ x, okC (ck, cn, ct) = x := ⟨_, rfl⟩
    obtain ⟨b2, e2⟩ : ∃ x, decide (s = ⟨#[]⟩) = x := ⟨_, rfl⟩
    rw [e1, e2] at hb
    have E1 : Hid (okB ck cn ct = b1) := e1
    have HBB : Hid ((b1 && b2) = b) := hb
    cases b2
    · have hq := not_lit (l := []) (of_decide_eq_false e2)
      obtain rfl : false = b := by rw [← HBB.out, Bool.and_false]
      clear e1 e2 hb
      have hq2 : s.toList.isEmpty = false := by
        cases hs : s.toList with
        | nil => rw [hs] at hq; exact absurd hq (by decide)
        | cons _ _ => rfl
      go_enter Tryz.func61, Tryz.ntmps61
      go_wp2
      go_ret
      exact ⟨rfl, hA⟩
    · obtain rfl : s = ⟨#[]⟩ := of_decide_eq_true e2
      obtain rfl : b1 = b := by rw [← HBB.out, Bool.and_true]
      clear e1 e2 hb
      go_enter Tryz.func61, Tryz.ntmps61
      go_wp2_with fail
      refine (ok_implb ck cn ct b1 E1.out _ h2).mono ?_
      rintro e w1 ⟨rfl, hb1⟩
      have hx := chain hA hb1
      go_wp2
      go_ret
      exact ⟨rfl, hx⟩
  rw [if_neg k1] at hb
  by_cases k2 : k = 2
  · subst k2
    rw [if_pos rfl] at hb
    obtain ⟨b1, e1⟩ : ∃ x, nameK s = x := ⟨_, rfl⟩
    obtain ⟨b2, e2⟩ : ∃ x, decide ((ck, cn, ct) = zeroC) = x := ⟨_, rfl⟩
    rw [e1, e2] at hb
    have hz := zeroC_same (ck, cn, ct) b2 e2
    dsimp only at hz
    have hq := fun w' => run_eql ck cn ct 0 0 ⟨#[]⟩ w'
    rw [hz] at hq
    have E1 : Hid (nameK s = b1) := e1
    have HBB : Hid ((b1 && b2) = b) := hb
    clear e1 e2 hz hb
    cases b2
    · obtain rfl : false = b := by rw [← HBB.out, Bool.and_false]
      go_enter Tryz.func61, Tryz.ntmps61
      go_wp2
      go_ret
      exact ⟨rfl, hA⟩
    · obtain rfl : b1 = b := by rw [← HBB.out, Bool.and_true]
      go_enter Tryz.func61, Tryz.ntmps61
      go_wp2_with fail
      refine (free_impl s h1 _ (HP.out.below hA) (HE.out.below hA) b1 E1.out).mono ?_
      rintro e w1 ⟨rfl, hb1⟩
      have hx := chain hA hb1
      go_wp2
      go_ret
      exact ⟨rfl, hx⟩
  rw [if_neg k2] at hb
  have hq := fun w' => run_eqlI k ck cn ct s w'
  obtain ⟨b2, e2⟩ : ∃ x, ((ck == 0 && cn == 0) && (ct.toList == [] && s.toList == [])) = x := ⟨_, rfl⟩
  rw [e2] at hq
  have e3 : decide (((k, (ck, cn, ct), s) : TI) = opI k) = b2 := by
    rw [← e2]
    have g1 := zero_txt ct _ rfl
    have g2 := zero_txt s _ rfl
    rw [g1, g2, Bool.eq_iff_iff, decide_eq_true_eq]
    unfold opI zeroC
    simp [and_assoc]
  rw [e3] at hb
  clear e2 e3
  have q1 : (k == 1) = false := neq_k k1
  have q2 : (k == 2) = false := neq_k k2
  obtain ⟨n, hn⟩ : ∃ n, needsP k = n := ⟨_, rfl⟩
  have HN : Hid (needsP k = n) := hn
  by_cases h3 : 3 ≤ k ∧ k ≤ 12
  · rw [decide_eq_true h3.1, decide_eq_true h3.2] at hb
    obtain rfl : b2 = b := by simpa using hb
    have hn0 : (0 : Int) < (n : Int) := by
      rw [← hn]; unfold needsP; (repeat' split) <;> omega
    clear hb hn
    go_enter Tryz.func61, Tryz.ntmps61
    go_wp2_with fail
    refine (needs_impl k n HN.out _).mono ?_
    rintro e w1 ⟨rfl, rfl⟩
    go_wp2
    go_ret
    exact ⟨rfl, hA⟩
  · have hbf : b = false := by
      rw [← hb]
      by_cases h4 : 3 ≤ k
      · rw [decide_eq_false (fun h5 => h3 ⟨h4, h5⟩)]; simp
      · rw [decide_eq_false h4]; simp
    subst hbf
    have hn0 : n = 0 := by
      rw [← hn]; unfold needsP; (repeat' split) <;> omega
    subst hn0
    clear hb hn
    go_enter Tryz.func61, Tryz.ntmps61
    go_wp2_with fail
    refine (needs_impl k 0 HN.out _).mono ?_
    rintro e w1 ⟨rfl, rfl⟩
    go_wp2
    go_ret
    exact ⟨rfl, hA⟩
end Go.Proofs.YtpggjgilklpncaaGreatDoor

/-
  The contract of the program's SumOk.
-/
namespace Go.Proofs.YtpggjgilklpncaaGreatDoor
open Go.ChangeShapes Go.WideShapes Go.ChangeAt Go.RowKit
attribute [local go_sem ↓] Go.wp_at_zero Go.wp_at_succ
attribute [local simp] World.cell?_alloc_past World.cell?_alloc_at World.frozen?_alloc_at cell_far cell_off cell_here World.frozen?_alloc_past

/-- The texts of the items are not too long to be told. -/
def FitI (l : List TI) : Prop := ∀ x ∈ l, x.2.1.2.2.size ≤ maxLen ∧ x.2.2.size ≤ 1048576
set_option maxRecDepth 100000 in
set_option maxHeartbeats 4000000 in
theorem sum_impl (a : Option Addr) (cap : Nat) (l : List TI) (n : Nat) (hnl : l.length = n) (w : World) (hrow : ItmAt w a l) (hfit : FitI l) (hm : n ≤ maxLen) (hp : PowAt w) (he : ErrAt w) (b : Bool) (hb : sumB l = b) :
    Calls Tryz.prog 53 #[.slice a n cap] w fun e w' => e = .returned (.bool b) ∧ Below w.heap.size w w' := by
  have HR : Hid (ItmAt w a l) := hrow
  have HF : Hid (FitI l) := hfit
  have HB : Hid (sumB l = b) := hb
  have HP : Hid (PowAt w) := hp
  have HE : Hid (ErrAt w) := he
  have HL : Hid (l.length = n) := hnl
  clear hrow hfit hb hp he hnl
  unfold maxLen at hm
  by_cases h40 : 40 < n
  · have hi : (40 : Int) < (n : Int) := by omega
    have e : b = false := by
      rw [← HB.out]; unfold sumB
      rw [HL.out, decide_eq_false (p := n ≤ 40) (by omega), Bool.and_false]
    subst e
    go_enter Tryz.func53, Tryz.ntmps53
    go_wp2
    go_ret
    exact ⟨rfl, Below.refl _ _⟩
  have hi : ¬ (40 : Int) < (n : Int) := by omega
  go_enter Tryz.func53, Tryz.ntmps53
  go_wp2
  go_loopw [3, 12] (fun nv kk wr => ∃ k c : Nat, k ≤ n ∧ kk = .int .i64 k ∧ nv = .int .i64 c ∧ c ≤ k ∧ Hid (heapN (l.take k) 0 = some c) ∧ Below w.heap.size w wr) (fun _ kk _ => n - (intOf kk).toNat)
  case atStart => exact ⟨0, 0, Nat.zero_le _, rfl, rfl, Nat.le_refl _, rfl, Below.refl _ _⟩
  case round =>
    obtain ⟨k, c, hk, rfl, rfl, hck, hhp, hbw⟩ := hrel
    by_cases hlt : k < n
    · have hlk : k < l.length := by rw [HL.out]; exact hlt
      obtain ⟨g, o, rfl, hgw, c0, c1, c2, c3, c4⟩ := HR.out.below hbw k hlk
      have hi0 : (0 : Int) ≤ (k : Int) := by omega
      have hi1 : (k : Int) < (n : Int) := by omega
      obtain ⟨hf1, hf2⟩ := HF.out _ (List.getElem_mem hlk)
      have hst := heap_step l k hlk c hhp.out
      have HNO : Hid (heapN (l.take (k + 1)) 0 = none → b = false) := by
        have : heapN (l.take (k + 1)) 0 = none → b = false := fun h => by rw [← HB.out]; exact heap_no l (k + 1) h
        exact this
      obtain ⟨r, hr⟩ : ∃ r, itemB l[k] = r := ⟨_, rfl⟩
      obtain ⟨d, hd⟩ : ∃ d, needsP l[k].1 = d := ⟨_, rfl⟩
      have hdd : r = true → needsI l[k].1 = d := fun e => by rw [← hd, needsP_ok (hr.trans e)]
      have HST : Hid (heapN (l.take (k + 1)) 0 = if r = true ∧ d ≤ c then some (c + 1 - d) else none) := by
        have : heapN (l.take (k + 1)) 0 = if r = true ∧ d ≤ c then some (c + 1 - d) else none := by
          rw [hst, hr]
          cases r with
          | false => simp
          | true => rw [hdd rfl]
        exact this
      have HRR : Hid (itemB l[k] = r) := hr
      have HD : Hid (needsP l[k].1 = d) := hd
      have hd2 : d ≤ 2 := by rw [← hd]; exact needsP_le _
      clear hst hr hd hdd
      generalize l[k] = x at c0 c1 c2 c3 c4 hf1 hf2 HRR HD
      go_wp2_with fail
      refine (needs_impl x.1 d HD.out _).mono ?_
      rintro e w1 ⟨rfl, rfl⟩
      have hxA : Below w.heap.size w (wr.alloc (.cells #[.int .i64 x.1, .int .i64 x.2.1.1, .int .i64 x.2.1.2.1, .string x.2.1.2.2, .string x.2.2] 58)) := hbw.alloc hbw.size _
      clear c0 c1 c2 c3 c4
      go_wp2_with fail
      refine (item_impl x _ hf2 hf1 (HP.out.below hxA) (HE.out.below hxA) r HRR.out).mono ?_
      rintro e w2 ⟨rfl, hb2⟩
      have hx2 := chain hxA hb2
      clear hxA hb2
      cases r
      · obtain rfl : b = false := HNO.out (by rw [HST.out, if_neg (by simp)])
        go_wp2
        go_ret
        exact ⟨rfl, hx2⟩
      by_cases hcd : d ≤ c
      · have h1 : ¬ (c : Int) < (d : Int) := by omega
        have HS2 : Hid (heapN (l.take (k + 1)) 0 = some (c + 1 - d)) := by
          have : heapN (l.take (k + 1)) 0 = some (c + 1 - d) := by rw [HST.out]; simp [hcd]
          exact this
        have hz : ((c + 1 - d : Nat) : Int) = (c : Int) + (1 - (d : Int)) := by omega
        go_wp2
        go_roundw
        case rel => exact ⟨k + 1, c + 1 - d, by omega, by go_num, by rw [hz], by omega, HS2, hx2⟩
        case measure => simp [intOf]; omega
      · have h1 : (c : Int) < (d : Int) := by omega
        obtain rfl : b = false := HNO.out (by rw [HST.out, if_neg (fun h => hcd h.2)])
        go_wp2
        go_ret
        exact ⟨rfl, hx2⟩
    · have hkl : k = n := by omega
      subst hkl
      have hi1 : ¬ (k : Int) < (k : Int) := by omega
      have hh := hhp.out
      rw [List.take_of_length_le (by rw [HL.out]; exact Nat.le_refl _)] at hh
      have HBB : Hid (decide (c = 1) = b) := by
        have : decide (c = 1) = b := by
          rw [← HB.out]; unfold sumB; rw [hh, HL.out, decide_eq_true (p := k ≤ 40) (by omega)]; simp
        exact this
      clear hh
      by_cases e1 : c = 1
      · subst e1
        go_wp2
        go_ret
        exact ⟨ret_bool (by rw [← HBB.out]; simp), hbw⟩
      · have e2 : ¬ (c : Int) = 1 := by omega
        have e3 : ((c : Int) == 1) = false := by simpa using e2
        go_wp2
        go_ret
        exact ⟨ret_bool (by rw [← HBB.out]; simp [e1]), hbw⟩
end Go.Proofs.YtpggjgilklpncaaGreatDoor

/-
  A region that draws its order and whose last operation writes what the others read: a condition on the world that holds until that one comes up.
-/
namespace Go.Proofs.YtpggjgilklpncaaGreatDoor

section
variable {P : Program} {ops : Array Oper} {Q : Exit → Act → World → Prop} {md : Region.Mode} {S : World → Prop} {z : Nat}

/-- Whatever order is picked: behind each operation but z the condition S holds. -/
def wpAnyU (P : Program) (md : Region.Mode) (ops : Array Oper) (Q : Exit → Act → World → Prop) (S : World → Prop) (z : Nat) : Nat → Array Bool → Act → World → Prop
  | 0, listed, a, w => Region.ready md ops listed = [] ∧ Q .normal a w
  | n + 1, listed, a, w => (Region.ready md ops listed = [] → Q .normal a w) ∧ ∀ i ∈ Region.ready md ops listed, wpOp P ops Q i (fun a' w' => (i = z ∨ S w') ∧ wpAnyU P md ops Q S z n (listed.setIfInBounds i true) a' w') a w

theorem wpAnyU.any : ∀ {n : Nat} {listed : Array Bool} {a : Act} {w : World}, wpAnyU P md ops Q S z n listed a w → wpAny P md ops Q n listed a w
  | 0, _, _, _, h => h
  | _ + 1, _, _, _, h => ⟨h.1, fun i hi => wpOp_mono (fun _ _ h' => wpAnyU.any h'.2) (h.2 i hi)⟩

/-- Does z wait for i? -/
def waits (md : Region.Mode) (ops : Array Oper) (z i : Nat) : Bool := match ops[z]? with
  | some o => o.after.any (fun e => Region.binds md e && e.on == i)
  | none => false
theorem waits_some {i : Nat} {o : Oper} (h : waits md ops z i = true) (ho : ops[z]? = some o) : ∃ e ∈ o.after, Region.binds md e = true ∧ e.on = i := by
  unfold waits at h
  rw [ho] at h
  obtain ⟨k, hk, he⟩ := Array.any_eq_true.1 h
  simp only [Bool.and_eq_true, beq_iff_eq] at he
  exact ⟨o.after[k], Array.getElem_mem hk, he.1, he.2⟩

theorem wpAnyU_first {i : Nat} {oi : Oper} {v : Value} (hi : ops[i]? = some oi) (hz : waits md ops z i = true) (hsel : ∀ (j : Nat) (o : Oper) cs b, ops[j]? = some o → o.op ≠ .select cs b)
    (hQ : ∀ c a w, Q (.panic c) (a.put oi.dst v) w → Q (.panic c) a w) : ∀ (n : Nat) (listed : Array Bool) (a : Act) (w : World),
      (∀ j oj, ops[j]? = some oj → j ≠ i → listed.getD j true = false → (∀ e ∈ oj.after, Region.binds md e = true → e.on ≠ i) → oi.apart ops oj = true) →
      i ∈ Region.ready md ops listed → YieldsIf P ops S oi v a → S w →
      wpAnyU P md ops Q S z n (listed.setIfInBounds i true) (a.put oi.dst v) w → wpAnyU P md ops Q S z (n + 1) listed a w
  | 0, listed, a, w, _, hr, hy, hS, H => ⟨fun h => (by rw [h] at hr; cases hr), fun j hj => by
      by_cases e : j = i
      · subst e; exact hy.wpOp hi hS ⟨.inr hS, H⟩
      · have := ready_mono hj e
        rw [H.1] at this
        cases this⟩
  | n + 1, listed, a, w, hfree, hr, hy, hS, H => ⟨fun h => (by rw [h] at hr; cases hr), fun j hj => by
      by_cases e : j = i
      · subst e; exact hy.wpOp hi hS ⟨.inr hS, H⟩
      · have h1 := H.2 j (ready_mono hj e)
        obtain ⟨hun, oj, hoj, hall⟩ := mem_ready.1 hj
        have hnot : ∀ x ∈ oj.after, Region.binds md x = true → x.on ≠ i := by
          intro x hx hb heq
          have k1 := hall x hx hb
          have k0 := (mem_ready.1 hr).1
          rw [heq] at k1
          rcases Nat.lt_or_ge i listed.size with h' | h'
          · simp [h'] at k0 k1; rw [k0] at k1; cases k1
          · simp [Array.getElem?_eq_none h'] at k1
        have hjz : j ≠ z := by
          intro ez
          subst ez
          obtain ⟨x, hx, hb, heq⟩ := waits_some hz hoj
          exact hnot x hx hb heq
        have h2 := wpOp_putIf hoj (hfree j oj hoj e hun hnot) (fun cs b => hsel i oi cs b hi) (fun cs b => hsel j oj cs b hoj) hQ hy h1
        refine wpOp_mono (fun a' w' h3 => ?_) h2
        have hSw : S w' := by rcases h3.2.1 with h4 | h4; exact absurd h4 hjz; exact h4
        refine ⟨.inr hSw, wpAnyU_first hi hz hsel hQ n (listed.setIfInBounds j true) a' w' ?_ (ready_mono hr (Ne.symm e)) h3.1 hSw ?_⟩
        · intro k ok hk hki hku hno
          refine hfree k ok hk hki ?_ hno
          by_cases hjk : j = k
          · subst hjk; exact hun
          · rw [getD_set_ne true hjk] at hku; exact hku
        · rw [Array.setIfInBounds_comm _ _ e]; exact h3.2.2⟩
theorem wpAnyU_take {i : Nat} {oi : Oper} {v : Value} {n : Nat} {listed : Array Bool} {a : Act} {w : World} (hi : ops[i]? = some oi) (hz : waits md ops z i = true)
    (hs : Region.noSelect ops = true) (hf : Region.free md ops listed i = true) (hr : (Region.ready md ops listed).contains i = true)
    (hQ : ∀ c a w, Q (.panic c) (a.put oi.dst v) w → Q (.panic c) a w) (hy : YieldsIf P ops S oi v a) (hS : S w)
    (h : wpAnyU P md ops Q S z n (listed.setIfInBounds i true) (a.put oi.dst v) w) : wpAnyU P md ops Q S z (n + 1) listed a w :=
  wpAnyU_first hi hz (Region.noSelect_spec hs) hQ n listed a w (Region.free_spec hi hf) (by simpa using hr) hy hS h
/-- The one that is ready is carried out; behind it S is shown anew. -/
theorem wpAnyU_one {i : Nat} {o : Oper} {n : Nat} {listed : Array Bool} {a : Act} {w : World} (hr : Region.ready md ops listed = [i]) (ho : ops[i]? = some o)
    (h : ∀ K' : Act → World → Prop, Shut (∀ a w, S w → (S w → wpAnyU P md ops Q S z n (listed.setIfInBounds i true) a w) → K' a w) → if Region.wanted o (yielded ops a.tmps) = true then Oper.wp P o a w K' Q else K' (a.put o.dst undef) w) :
    wpAnyU P md ops Q S z (n + 1) listed a w :=
  ⟨fun h0 => (by rw [hr] at h0; cases h0), fun j hj => by
    rw [hr] at hj
    obtain rfl : j = i := by simpa using hj
    exact wpOp_step ho (fun K' hK => h K' (fun a w hS hW => hK a w ⟨.inr hS, hW hS⟩))⟩
/-- The last one is carried out: S is asked no more. -/
theorem wpAnyU_last {o : Oper} {n : Nat} {listed : Array Bool} {a : Act} {w : World} (hr : Region.ready md ops listed = [z]) (ho : ops[z]? = some o)
    (h : ∀ K' : Act → World → Prop, Shut (∀ a w, wpAnyU P md ops Q S z n (listed.setIfInBounds z true) a w → K' a w) → if Region.wanted o (yielded ops a.tmps) = true then Oper.wp P o a w K' Q else K' (a.put o.dst undef) w) :
    wpAnyU P md ops Q S z (n + 1) listed a w :=
  ⟨fun h0 => (by rw [hr] at h0; cases h0), fun j hj => by
    rw [hr] at hj
    obtain rfl : j = z := by simpa using hj
    exact wpOp_step ho (fun K' hK => h K' (fun a w hW => hK a w ⟨.inl rfl, hW⟩))⟩
theorem wp_region_until {id : Nat} {a : Act} {w : World} (hm : P.follows .mixedOrders = true) (hS : S w.drew)
    (h : S w.drew → wpAnyU P .any ops Q S z ops.size (Array.replicate ops.size false) a w.drew) : (Code.region id ops true).wp P Q a w :=
  wp_region_any hm (h hS).any
theorem wpAnyU_done {listed : Array Bool} {a : Act} {w : World} (hr : Region.ready md ops listed = []) (h : Q .normal a w) : ∀ n, wpAnyU P md ops Q S z n listed a w
  | 0 => ⟨hr, h⟩
  | _ + 1 => ⟨fun _ => h, by rw [hr]; simp⟩
end
end Go.Proofs.YtpggjgilklpncaaGreatDoor
