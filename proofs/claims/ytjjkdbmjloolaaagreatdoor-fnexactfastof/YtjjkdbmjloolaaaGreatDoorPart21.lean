/-
  A part of the proof: TokI, YardMath, SumI.
-/
import Derived.Test.YtjjkdbmjloolaaaGreatDoorPart1
import Derived.Test.YtjjkdbmjloolaaaGreatDoorPart6
import Derived.Test.YtjjkdbmjloolaaaGreatDoorPart5
import Derived.Test.YtjjkdbmjloolaaaGreatDoorPart7
import Derived.Test.YtjjkdbmjloolaaaGreatDoorPart17
import Derived.Test.YtjjkdbmjloolaaaGreatDoorPart20
import Derived.Test.YtjjkdbmjloolaaaGreatDoorPart9
import Derived.Test.YtjjkdbmjloolaaaGreatDoorPart8

namespace Go.Proofs.YtjjkdbmjloolaaaGreatDoor
open Go.ChangeShapes Go.WideShapes Go.ChangeAt Go.RowKit
attribute [local go_sem ↓] Go.wp_at_zero Go.wp_at_succ
attribute [local simp] World.cell?_alloc_past World.cell?_alloc_at World.frozen?_alloc_at cell_far cell_off cell_here World.frozen?_alloc_past
theorem nameK_free (s : ByteArray) : nameK s = (nameB s && (!(readB s).isSome && !signB s)) := by
 cases hn : nameB s with
 | false => unfold nameK; rw [hn]; rfl
 | true =>
  have hn2 := hn
  unfold nameB at hn2
  simp only [Bool.and_eq_true, decide_eq_true_eq] at hn2
  obtain ⟨_, h2, _⟩ := hn2
  have hO : inB signO s = false := by
   cases hq : inB signO s with
   | false => rfl
   | true =>
    exfalso
    have hm := inB_iff.1 hq
    have hall := List.all_eq_true.1 h2
    simp only [signO, List.mem_cons, List.not_mem_nil, or_false] at hm
    rcases hm with rfl | rfl | rfl | rfl | rfl | rfl | rfl | rfl <;> exact absurd (hall _ (List.mem_cons_self ..)) (by decide)
  have hR : (readB s).isSome = !(decide (s.data.toList ≠ wNone) && (decide (s.data.toList ≠ wYes) && decide (s.data.toList ≠ wNo))) := by
   cases hq : readB s with
   | none =>
    unfold readB at hq
    by_cases e1 : s.data.toList = wNone
    · rw [if_pos e1] at hq; cases hq
    by_cases e2 : s.data.toList = wYes
    · rw [if_neg e1, if_pos e2] at hq; cases hq
    by_cases e3 : s.data.toList = wNo
    · rw [if_neg e1, if_neg e2, if_pos e3] at hq; cases hq
    rw [decide_eq_true e1, decide_eq_true e2, decide_eq_true e3]; rfl
   | some d =>
    have es : (⟨s.data.toList.toArray⟩ : ByteArray) = s := rfl
    rw [← es] at hq
    rcases readB_head hq with q | q | q | ⟨b, x, q, hb⟩
    · simp [q]
    · simp [q]
    · simp [q]
    · exfalso
     have hl : letB b = true := List.all_eq_true.1 h2 b (by rw [q]; simp)
     rcases hb with hb | rfl | rfl
     · rw [letB_dig hb] at hl; cases hl
     · exact absurd hl (by decide)
     · exact absurd hl (by decide)
  unfold nameK signB
  rw [hn, hO, hR, Bool.or_false, Bool.not_not]
  cases inB signW s <;> cases (decide (s.data.toList ≠ wNone) && (decide (s.data.toList ≠ wYes) && decide (s.data.toList ≠ wNo))) <;> rfl
theorem readR_b {s : ByteArray} {k n : Int} {t : ByteArray} {b : Bool} (h : readR s = (k, n, t, b)) : (readB s).isSome = b ∧ (b = true → readB s = some (k, n, t)) := by
 unfold readR at h
 cases hq : readB s with
 | none =>
  rw [hq] at h
  injection h with _ h; injection h with _ h; injection h with _ h
  subst h
  exact ⟨rfl, fun h => by cases h⟩
 | some d =>
  obtain ⟨k', n', t'⟩ := d
  rw [hq] at h
  injection h with h1 h; injection h with h2 h; injection h with h3 h
  subst h1 h2 h3 h
  exact ⟨rfl, fun _ => rfl⟩
theorem not_lit {s : ByteArray} {l : List UInt8} (h : s ≠ ⟨l.toArray⟩) : (s.toList == l) = false := by
 rw [Lib.toList_data, beq_eq_false_iff_ne]
 exact fun e => h (bytes_ext e)
set_option maxRecDepth 100000 in
set_option maxHeartbeats 4000000 in
theorem sign_impl (s : ByteArray) (b : Bool) (hb : signB s = b) (w : World) :
  Calls Tryz.prog 140 #[.string s] w fun e w' => e = .returned (.bool b) ∧ w' = w := by
 cases b with
 | true =>
  unfold signB at hb
  rw [Bool.or_eq_true] at hb
  rcases hb with hs | hs
  · have hm := inB_iff.1 hs
   simp only [signW, List.mem_cons, List.not_mem_nil, or_false] at hm
   clear hs
   rcases hm with rfl | rfl | rfl | rfl
   all_goals
    go_enter Tryz.func140, Tryz.ntmps140
    go_wp2
    go_ret
    exact ⟨rfl, rfl⟩
  · have hm := inB_iff.1 hs
   simp only [signO, List.mem_cons, List.not_mem_nil, or_false] at hm
   clear hs
   rcases hm with rfl | rfl | rfl | rfl | rfl | rfl | rfl | rfl
   all_goals
    go_enter Tryz.func140, Tryz.ntmps140
    go_wp2
    go_ret
    exact ⟨rfl, rfl⟩
 | false =>
  unfold signB at hb
  rw [Bool.or_eq_false_iff, inB_no, inB_no] at hb
  obtain ⟨h1, h2⟩ := hb
  simp only [signW, signO, List.mem_cons, List.not_mem_nil, or_false, not_or] at h1 h2
  obtain ⟨a1, a2, a3, a4⟩ := h1
  obtain ⟨b1, b2, b3, b4, b5, b6, b7, b8⟩ := h2
  have q1 := not_lit (l := [97, 110, 100]) a1
  have q2 := not_lit (l := [111, 114]) a2
  have q3 := not_lit (l := [110, 111, 116]) a3
  have q4 := not_lit (l := [108, 97, 99, 107, 115]) a4
  have r1 := not_lit (l := [43]) b1
  have r2 := not_lit (l := [45]) b2
  have r3 := not_lit (l := [42]) b3
  have r4 := not_lit (l := [47]) b4
  have r5 := not_lit (l := [61]) b5
  have r6 := not_lit (l := [60]) b6
  have r7 := not_lit (l := [40]) b7
  have r8 := not_lit (l := [41]) b8
  clear a1 a2 a3 a4 b1 b2 b3 b4 b5 b6 b7 b8
  go_enter Tryz.func140, Tryz.ntmps140
  go_wp2
  go_ret
  exact ⟨rfl, rfl⟩
set_option maxHeartbeats 1000000 in
theorem free_impl (s : ByteArray) (hs : s.size ≤ 1048576) (w : World) (hp : PowAt w) (he : ErrAt w) (b : Bool) (hb : nameK s = b) :
  Calls Tryz.prog 125 #[.string s] w fun e w' => e = .returned (.bool b) ∧ Below w.heap.size w w' := by
 have HB := hid hb
 have HP := hid hp
 have HE := hid he
 clear hb hp he
 have hsM : s.size ≤ maxLen := by unfold maxLen; omega
 obtain ⟨k, n, t, c, hR⟩ : ∃ k n t c, readR s = (k, n, t, c) := ⟨_, _, _, _, rfl⟩
 have HR := hid hR
 obtain ⟨q, hq⟩ : ∃ x, nameB s = x := ⟨_, rfl⟩
 obtain ⟨g, hg⟩ : ∃ x, signB s = x := ⟨_, rfl⟩
 have HQ := hid hq
 have HG := hid hg
 have HX : Hid ((q && (!c && !g)) = b) := by
  have : (q && (!c && !g)) = b := by rw [← HB.out, nameK_free, hq, hg, (readR_b hR).1]
  exact this
 clear hR hq hg HB
 go_enter Tryz.func125, Tryz.ntmps125
 go_wp2_with fail
 refine (readcell_impl s hs _ HP.out HE.out k n t c HR.out).mono ?_
 rintro e w1 ⟨rfl, hb1⟩
 go_wp2_with fail
 refine (name_impl s _ hsM q HQ.out).mono ?_
 rintro e w2 ⟨rfl, rfl⟩
 cases q
 · obtain rfl : false = b := HX.out
  go_wp2
  go_ret
  exact ⟨rfl, hb1.alloc hb1.size _⟩
 rcases Bool.eq_false_or_eq_true c with rfl | rfl
 · obtain rfl : false = b := HX.out
  go_wp2
  go_ret
  exact ⟨rfl, hb1.alloc hb1.size _⟩
 go_wp2_with fail
 refine (sign_impl s g HG.out _).mono ?_
 rintro e w3 ⟨rfl, rfl⟩
 cases g
 · obtain rfl : true = b := HX.out
  go_wp2
  go_ret
  exact ⟨rfl, hb1.alloc hb1.size _⟩
 · obtain rfl : false = b := HX.out
  go_wp2
  go_ret
  exact ⟨rfl, hb1.alloc hb1.size _⟩
end Go.Proofs.YtjjkdbmjloolaaaGreatDoor
namespace Go.Proofs.YtjjkdbmjloolaaaGreatDoor
def bindK (k : Int) : Nat :=
 if k = 12 then 7 else if k = 5 ∨ k = 6 then 6 else if k = 3 ∨ k = 4 then 5 else if k = 7 ∨ k = 8 then 4 else if k = 11 then 3 else if k = 9 then 2 else if k = 10 then 1 else 0
def OpNext (lev : Nat) (r : List TT) : Prop := ∃ k r1, (3 ≤ k ∧ k ≤ 10) ∧ r = sgnT k :: r1 ∧ lev < bindK k
theorem OpNext.mono {lev lev' : Nat} {r : List TT} (h : OpNext lev' r) (hl : lev ≤ lev') : OpNext lev r := by
 obtain ⟨k, r1, h1, h2, h3⟩ := h
 exact ⟨k, r1, h1, h2, by omega⟩
end Go.Proofs.YtjjkdbmjloolaaaGreatDoor
namespace Go.Proofs.YtjjkdbmjloolaaaGreatDoor
open Go.ChangeShapes Go.WideShapes Go.ChangeAt Go.RowKit
attribute [local go_sem ↓] Go.wp_at_zero Go.wp_at_succ
attribute [local simp] World.cell?_alloc_past World.cell?_alloc_at World.frozen?_alloc_at cell_far cell_off cell_here World.frozen?_alloc_past
def needsP (k : Int) : Nat := if 3 ≤ k ∧ k ≤ 10 then 2 else if k = 11 ∨ k = 12 then 1 else 0
theorem needsP_ok {x : TI} (h : itemB x = true) : needsP x.1 = needsI x.1 := by
 have hk : 1 ≤ x.1 ∧ x.1 ≤ 12 := by
  by_cases h1 : x.1 = 1
  · omega
  by_cases h2 : x.1 = 2
  · omega
  have := item_op h h1 h2
  omega
 unfold needsP needsI
 (repeat' split) <;> omega
theorem needsP_le (k : Int) : needsP k ≤ 2 := by unfold needsP; (repeat' split) <;> omega
theorem neq_k {k : Int} {j : Int} (h : k ≠ j) : (k == j) = false := by simpa using h
set_option maxHeartbeats 2000000 in
theorem needs_impl (k : Int) (n : Nat) (hn : needsP k = n) (w : World) :
  Calls Tryz.prog 86 #[.int .i64 k] w fun e w' => e = .returned (.int .i64 (n : Int)) ∧ w' = w := by
 by_cases h1 : 3 ≤ k ∧ k ≤ 10
 · have e : n = 2 := by rw [← hn]; unfold needsP; rw [if_pos h1]
  subst e
  have h2 : k = 3 ∨ k = 4 ∨ k = 5 ∨ k = 6 ∨ k = 7 ∨ k = 8 ∨ k = 9 ∨ k = 10 := by omega
  clear hn h1
  rcases h2 with rfl | rfl | rfl | rfl | rfl | rfl | rfl | rfl
  all_goals
   go_enter Tryz.func86, Tryz.ntmps86
   go_wp2
   go_ret
   exact ⟨rfl, rfl⟩
 by_cases h2 : k = 11 ∨ k = 12
 · have e : n = 1 := by rw [← hn]; unfold needsP; rw [if_neg h1, if_pos h2]
  subst e
  clear hn h1
  rcases h2 with rfl | rfl
  all_goals
   go_enter Tryz.func86, Tryz.ntmps86
   go_wp2
   go_ret
   exact ⟨rfl, rfl⟩
 have e : n = 0 := by rw [← hn]; unfold needsP; rw [if_neg h1, if_neg h2]
 subst e
 have q3 : (k == 3) = false := neq_k (by omega)
 have q4 : (k == 4) = false := neq_k (by omega)
 have q5 : (k == 5) = false := neq_k (by omega)
 have q6 : (k == 6) = false := neq_k (by omega)
 have q7 : (k == 7) = false := neq_k (by omega)
 have q8 : (k == 8) = false := neq_k (by omega)
 have q9 : (k == 9) = false := neq_k (by omega)
 have q10 : (k == 10) = false := neq_k (by omega)
 have q11 : (k == 11) = false := neq_k (by omega)
 have q12 : (k == 12) = false := neq_k (by omega)
 clear hn h1 h2
 go_enter Tryz.func86, Tryz.ntmps86
 go_wp2
 go_ret
 exact ⟨rfl, rfl⟩
set_option maxHeartbeats 2000000 in
theorem item_impl (x : TI) (w : World) (h1 : x.2.2.size ≤ 1048576) (h2 : x.2.1.2.2.size ≤ maxLen) (hp : PowAt w) (he : ErrAt w) (b : Bool) (hb : itemB x = b) :
  Calls Tryz.prog 126 #[.agg #[.int .i64 x.1, .int .i64 x.2.1.1, .int .i64 x.2.1.2.1, .string x.2.1.2.2, .string x.2.2]] w fun e w' => e = .returned (.bool b) ∧ Below w.heap.size w w' := by
 obtain ⟨k, ⟨ck, cn, ct⟩, s⟩ := x
 dsimp only at h1 h2 ⊢
 have HP := hid hp
 have HE := hid he
 clear hp he
 have hA : Below w.heap.size w (w.alloc (.cells #[.int .i64 k, .int .i64 ck, .int .i64 cn, .string ct, .string s] 97)) := (Below.refl _ _).alloc (Nat.le_refl _) _
 unfold itemB at hb
 dsimp only at hb
 by_cases k1 : k = 1
 · subst k1
  rw [if_pos rfl] at hb
  obtain ⟨b1, e1⟩ : ∃ x, okC (ck, cn, ct) = x := ⟨_, rfl⟩
  obtain ⟨b2, e2⟩ : ∃ x, decide (s = ⟨#[]⟩) = x := ⟨_, rfl⟩
  rw [e1, e2] at hb
  have E1 := hid e1
  have HBB := hid hb
  cases b2
  · have hq := not_lit (l := []) (of_decide_eq_false e2)
   obtain rfl : false = b := by rw [← HBB.out, Bool.and_false]
   clear e1 e2 hb
   have hq2 : s.toList.isEmpty = false := by
    cases hs : s.toList with
    | nil => rw [hs] at hq; exact absurd hq (by decide)
    | cons _ _ => rfl
   go_enter Tryz.func126, Tryz.ntmps126
   go_wp2
   go_ret
   exact ⟨rfl, hA⟩
  · obtain rfl : s = ⟨#[]⟩ := of_decide_eq_true e2
   obtain rfl : b1 = b := by rw [← HBB.out, Bool.and_true]
   clear e1 e2 hb
   go_enter Tryz.func126, Tryz.ntmps126
   go_wp2_with fail
   refine (ok_implb ck cn ct b1 E1.out _ h2).mono ?_
   rintro e w1 ⟨rfl, hb1⟩
   have hx := chain hA hb1
   go_wp2
   go_ret
   exact ⟨rfl, hx⟩
 rw [if_neg k1] at hb
 by_cases k2 : k = 2
 · subst k2
  rw [if_pos rfl] at hb
  obtain ⟨b1, e1⟩ : ∃ x, nameK s = x := ⟨_, rfl⟩
  obtain ⟨b2, e2⟩ : ∃ x, decide ((ck, cn, ct) = zeroC) = x := ⟨_, rfl⟩
  rw [e1, e2] at hb
  have hz := zeroC_same (ck, cn, ct) b2 e2
  dsimp only at hz
  have hq := fun w' => run_eql ck cn ct 0 0 ⟨#[]⟩ w'
  rw [hz] at hq
  have E1 := hid e1
  have HBB := hid hb
  clear e1 e2 hz hb
  cases b2
  · obtain rfl : false = b := by rw [← HBB.out, Bool.and_false]
   go_enter Tryz.func126, Tryz.ntmps126
   go_wp2
   go_ret
   exact ⟨rfl, hA⟩
  · obtain rfl : b1 = b := by rw [← HBB.out, Bool.and_true]
   go_enter Tryz.func126, Tryz.ntmps126
   go_wp2_with fail
   refine (free_impl s h1 _ (HP.out.below hA) (HE.out.below hA) b1 E1.out).mono ?_
   rintro e w1 ⟨rfl, hb1⟩
   have hx := chain hA hb1
   go_wp2
   go_ret
   exact ⟨rfl, hx⟩
 rw [if_neg k2] at hb
 have hq := fun w' => run_eqlI k ck cn ct s w'
 obtain ⟨b2, e2⟩ : ∃ x, ((ck == 0 && cn == 0) && (ct.toList == [] && s.toList == [])) = x := ⟨_, rfl⟩
 rw [e2] at hq
 have e3 : decide (((k, (ck, cn, ct), s) : TI) = opI k) = b2 := by
  rw [← e2]
  have g1 := zero_txt ct _ rfl
  have g2 := zero_txt s _ rfl
  rw [g1, g2, Bool.eq_iff_iff, decide_eq_true_eq]
  unfold opI zeroC
  simp [and_assoc]
 rw [e3] at hb
 clear e2 e3
 have q1 : (k == 1) = false := neq_k k1
 have q2 : (k == 2) = false := neq_k k2
 obtain ⟨n, hn⟩ : ∃ n, needsP k = n := ⟨_, rfl⟩
 have HN := hid hn
 by_cases h3 : 3 ≤ k ∧ k ≤ 12
 · rw [decide_eq_true h3.1, decide_eq_true h3.2] at hb
  obtain rfl : b2 = b := by simpa using hb
  have hn0 : (0 : Int) < (n : Int) := by
   rw [← hn]; unfold needsP; (repeat' split) <;> omega
  clear hb hn
  go_enter Tryz.func126, Tryz.ntmps126
  go_wp2_with fail
  refine (needs_impl k n HN.out _).mono ?_
  rintro e w1 ⟨rfl, rfl⟩
  go_wp2
  go_ret
  exact ⟨rfl, hA⟩
 · have hbf : b = false := by
   rw [← hb]
   by_cases h4 : 3 ≤ k
   · rw [decide_eq_false (fun h5 => h3 ⟨h4, h5⟩)]; simp
   · rw [decide_eq_false h4]; simp
  subst hbf
  have hn0 : n = 0 := by
   rw [← hn]; unfold needsP; (repeat' split) <;> omega
  subst hn0
  clear hb hn
  go_enter Tryz.func126, Tryz.ntmps126
  go_wp2_with fail
  refine (needs_impl k 0 HN.out _).mono ?_
  rintro e w1 ⟨rfl, rfl⟩
  go_wp2
  go_ret
  exact ⟨rfl, hA⟩
end Go.Proofs.YtjjkdbmjloolaaaGreatDoor
