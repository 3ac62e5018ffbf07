/-
  A part of the proof: TokI, Leap, PieceI.
-/
import Derived.Test.YtgiknjlifocioaaGreatDoorPart5
import Derived.Test.YtgiknjlifocioaaGreatDoorPart6
import Derived.Test.YtgiknjlifocioaaGreatDoorPart7
import Derived.WalkMore
import Derived.ScopeJumps
import Derived.Test.YtgiknjlifocioaaGreatDoorPart1

/-
  The contracts of the program's questions for a token, and of what one piece is read as.
-/
namespace Go.Proofs.YtgiknjlifocioaaGreatDoor
open Go.ChangeShapes Go.WideShapes Go.ChangeAt Go.RowKit
attribute [local go_sem ↓] Go.wp_at_zero Go.wp_at_succ
attribute [local simp] World.cell?_alloc_past World.cell?_alloc_at World.frozen?_alloc_at cell_far cell_off cell_here World.frozen?_alloc_past

/-- A name that is no other word: a name that is neither read as a cell nor a sign. -/
theorem nameK_free (s : ByteArray) : nameK s = (nameB s && (!(readB s).isSome && !signB s)) := by
  cases hn : nameB s with
  | false => unfold nameK; rw [hn]; rfl
  | true =>
    have hn2 := hn
    unfold nameB at hn2
    simp only [Bool.and_eq_true, decide_eq_true_eq] at hn2
    obtain ⟨_, h2, _⟩ := hn2
    have hO : inB signO s = false := by
      cases hq : inB signO s with
      | false => rfl
      | true =>
        exfalso
        have hm := inB_iff.1 hq
        have hall := List.all_eq_true.1 h2
        simp only [signO, List.mem_cons, List.not_mem_nil, or_false] at hm
        rcases hm with rfl | rfl | rfl | rfl | rfl | rfl | rfl | rfl <;> exact absurd (hall _ (List.mem_cons_self ..)) (by decide)
    have hR : (readB s).isSome = !(decide (s.data.toList ≠ wNone) && (decide (s.data.toList ≠ wYes) && decide (s.data.toList ≠ wNo))) := by
      cases hq : readB s with
      | none =>
        unfold readB at hq
        by_cases e1 : s.data.toList = wNone
        · rw [if_pos e1] at hq; cases hq
        by_cases e2 : s.data.toList = wYes
        · rw [if_neg e1, if_pos e2] at hq; cases hq
        by_cases e3 : s.data.toList = wNo
        · rw [if_neg e1, if_neg e2, if_pos e3] at hq; cases hq
        rw [decide_eq_true e1, decide_eq_true e2, decide_eq_true e3]; rfl
      | some d =>
        have es : (⟨s.data.toList.toArray⟩ : ByteArray) = s := rfl
        rw [← es] at hq
        rcases readB_head hq with q | q | q | ⟨b, x, q, hb⟩
        · simp [q]
        · simp [q]
        · simp [q]
        · exfalso
          have hl : letB b = true := List.all_eq_true.1 h2 b (by rw [q]; simp)
          rcases hb with hb | rfl | rfl
          · rw [letB_dig hb] at hl; cases hl
          · exact absurd hl (by decide)
          · exact absurd hl (by decide)
    unfold nameK signB
    rw [hn, hO, hR, Bool.or_false, Bool.not_not]
    cases inB signW s <;> cases (decide (s.data.toList ≠ wNone) && (decide (s.data.toList ≠ wYes) && decide (s.data.toList ≠ wNo))) <;> rfl
theorem readR_b {s : ByteArray} {k n : Int} {t : ByteArray} {b : Bool} (h : readR s = (k, n, t, b)) : (readB s).isSome = b ∧ (b = true → readB s = some (k, n, t)) := by
  unfold readR at h
  cases hq : readB s with
  | none =>
    rw [hq] at h
    injection h with _ h; injection h with _ h; injection h with _ h
    subst h
    exact ⟨rfl, fun h => by cases h⟩
  | some d =>
    obtain ⟨k', n', t'⟩ := d
    rw [hq] at h
    injection h with h1 h; injection h with h2 h; injection h with h3 h
    subst h1 h2 h3 h
    exact ⟨rfl, fun _ => rfl⟩

theorem not_lit {s : ByteArray} {l : List UInt8} (h : s ≠ ⟨l.toArray⟩) : (s.toList == l) = false := by
  rw [Lib.toList_data, beq_eq_false_iff_ne]
  exact fun e => h (bytes_ext e)
set_option maxRecDepth 100000 in
set_option maxHeartbeats 4000000 in
theorem sign_impl (s : ByteArray) (b : Bool) (hb : signB s = b) (w : World) :
    Calls Tryz.prog 28 #[.string s] w fun e w' => e = .returned (.bool b) ∧ w' = w := by
  cases b with
  | true =>
    unfold signB at hb
    rw [Bool.or_eq_true] at hb
    rcases hb with hs | hs
    · have hm := inB_iff.1 hs
      simp only [signW, List.mem_cons, List.not_mem_nil, or_false] at hm
      clear hs
      rcases hm with rfl | rfl | rfl | rfl
      all_goals
        go_enter Tryz.func28, Tryz.ntmps28
        go_wp2
        go_ret
        exact ⟨rfl, rfl⟩
    · have hm := inB_iff.1 hs
      simp only [signO, List.mem_cons, List.not_mem_nil, or_false] at hm
      clear hs
      rcases hm with rfl | rfl | rfl | rfl | rfl | rfl | rfl | rfl
      all_goals
        go_enter Tryz.func28, Tryz.ntmps28
        go_wp2
        go_ret
        exact ⟨rfl, rfl⟩
  | false =>
    unfold signB at hb
    rw [Bool.or_eq_false_iff, inB_no, inB_no] at hb
    obtain ⟨h1, h2⟩ := hb
    simp only [signW, signO, List.mem_cons, List.not_mem_nil, or_false, not_or] at h1 h2
    obtain ⟨a1, a2, a3, a4⟩ := h1
    obtain ⟨b1, b2, b3, b4, b5, b6, b7, b8⟩ := h2
    have q1 := not_lit (l := [97, 110, 100]) a1
    have q2 := not_lit (l := [111, 114]) a2
    have q3 := not_lit (l := [110, 111, 116]) a3
    have q4 := not_lit (l := [108, 97, 99, 107, 115]) a4
    have r1 := not_lit (l := [43]) b1
    have r2 := not_lit (l := [45]) b2
    have r3 := not_lit (l := [42]) b3
    have r4 := not_lit (l := [47]) b4
    have r5 := not_lit (l := [61]) b5
    have r6 := not_lit (l := [60]) b6
    have r7 := not_lit (l := [40]) b7
    have r8 := not_lit (l := [41]) b8
    clear a1 a2 a3 a4 b1 b2 b3 b4 b5 b6 b7 b8
    go_enter Tryz.func28, Tryz.ntmps28
    go_wp2
    go_ret
    exact ⟨rfl, rfl⟩
set_option maxHeartbeats 1000000 in
theorem free_impl (s : ByteArray) (hs : s.size ≤ 1048576) (w : World) (hp : PowAt w) (he : ErrAt w) (b : Bool) (hb : nameK s = b) :
    Calls Tryz.prog 26 #[.string s] w fun e w' => e = .returned (.bool b) ∧ Below w.heap.size w w' := by
  have HB : Hid (nameK s = b) := hb
  have HP : Hid (PowAt w) := hp
  have HE : Hid (ErrAt w) := he
  clear hb hp he
  have hsM : s.size ≤ maxLen := by unfold maxLen; omega
  obtain ⟨k, n, t, c, hR⟩ : ∃ k n t c, readR s = (k, n, t, c) := ⟨_, _, _, _, rfl⟩
  have HR : Hid (readR s = (k, n, t, c)) := hR
  obtain ⟨q, hq⟩ : ∃ x, nameB s = x := ⟨_, rfl⟩
  obtain ⟨g, hg⟩ : ∃ x, signB s = x := ⟨_, rfl⟩
  have HQ : Hid (nameB s = q) := hq
  have HG : Hid (signB s = g) := hg
  have HX : Hid ((q && (!c && !g)) = b) := by
    have : (q && (!c && !g)) = b := by rw [← HB.out, nameK_free, hq, hg, (readR_b hR).1]
    exact this
  clear hR hq hg HB
  go_enter Tryz.func26, Tryz.ntmps26
  go_wp2_with fail
  refine (readcell_impl s hs _ HP.out HE.out k n t c HR.out).mono ?_
  rintro e w1 ⟨rfl, hb1⟩
  go_wp2_with fail
  refine (name_impl s _ hsM q HQ.out).mono ?_
  rintro e w2 ⟨rfl, rfl⟩
  cases q
  · obtain rfl : false = b := HX.out
    go_wp2
    go_ret
    exact ⟨rfl, hb1.alloc hb1.size _⟩
  rcases Bool.eq_false_or_eq_true c with rfl | rfl
  · obtain rfl : false = b := HX.out
    go_wp2
    go_ret
    exact ⟨rfl, hb1.alloc hb1.size _⟩
  go_wp2_with fail
  refine (sign_impl s g HG.out _).mono ?_
  rintro e w3 ⟨rfl, rfl⟩
  cases g
  · obtain rfl : true = b := HX.out
    go_wp2
    go_ret
    exact ⟨rfl, hb1.alloc hb1.size _⟩
  · obtain rfl : false = b := HX.out
    go_wp2
    go_ret
    exact ⟨rfl, hb1.alloc hb1.size _⟩
set_option maxHeartbeats 2000000 in
theorem tok_impl (t : TT) (w : World) (h1 : t.2.1.size ≤ 1048576) (h2 : t.2.2.2.2.size ≤ maxLen) (hp : PowAt w) (he : ErrAt w) (b : Bool) (hb : tokB t = b) :
    Calls Tryz.prog 13 #[.agg #[.int .i64 t.1, .string t.2.1, .int .i64 t.2.2.1, .int .i64 t.2.2.2.1, .string t.2.2.2.2]] w fun e w' => e = .returned (.bool b) ∧ Below w.heap.size w w' := by
  obtain ⟨k, s, ck, cn, ct⟩ := t
  dsimp only at h1 h2 ⊢
  have HP : Hid (PowAt w) := hp
  have HE : Hid (ErrAt w) := he
  clear hp he
  have hA : Below w.heap.size w (w.alloc (.cells #[.int .i64 k, .string s, .int .i64 ck, .int .i64 cn, .string ct] 33)) := (Below.refl _ _).alloc (Nat.le_refl _) _
  by_cases k1 : k = 1
  · subst k1
    rw [tokB_1] at hb
    obtain ⟨b1, e1⟩ : ∃ x, nameK s = x := ⟨_, rfl⟩
    obtain ⟨b2, e2⟩ : ∃ x, decide ((ck, cn, ct) = zeroC) = x := ⟨_, rfl⟩
    rw [e1, e2] at hb
    have hz := zeroC_same (ck, cn, ct) b2 e2
    dsimp only at hz
    have hq := fun w' => run_eql ck cn ct 0 0 ⟨#[]⟩ w'
    rw [hz] at hq
    have E1 : Hid (nameK s = b1) := e1
    have HBB : Hid ((b1 && b2) = b) := hb
    clear e1 e2 hz hb
    cases b2
    · obtain rfl : false = b := by rw [← HBB.out, Bool.and_false]
      go_enter Tryz.func13, Tryz.ntmps13
      go_wp2
      go_ret
      exact ⟨rfl, hA⟩
    · obtain rfl : b1 = b := by rw [← HBB.out, Bool.and_true]
      go_enter Tryz.func13, Tryz.ntmps13
      go_wp2_with fail
      refine (free_impl s h1 _ (HP.out.below hA) (HE.out.below hA) b1 E1.out).mono ?_
      rintro e w1 ⟨rfl, hb1⟩
      have hx := chain hA hb1
      go_wp2
      go_ret
      exact ⟨rfl, hx⟩
  by_cases k2 : k = 2
  · subst k2
    rw [tokB_2] at hb
    obtain ⟨b1, e1⟩ : ∃ x, okC (ck, cn, ct) = x := ⟨_, rfl⟩
    obtain ⟨b2, e2⟩ : ∃ x, decide (s = ⟨#[]⟩) = x := ⟨_, rfl⟩
    rw [e1, e2] at hb
    have E1 : Hid (okB ck cn ct = b1) := e1
    have HBB : Hid ((b1 && b2) = b) := hb
    cases b2
    · have hq := not_lit (l := []) (of_decide_eq_false e2)
      obtain rfl : false = b := by rw [← HBB.out, Bool.and_false]
      clear e1 e2 hb
      have hq2 : s.toList.isEmpty = false := by
        cases hs : s.toList with
        | nil => rw [hs] at hq; exact absurd hq (by decide)
        | cons _ _ => rfl
      go_enter Tryz.func13, Tryz.ntmps13
      go_wp2
      go_ret
      exact ⟨rfl, hA⟩
    · obtain rfl : s = ⟨#[]⟩ := of_decide_eq_true e2
      obtain rfl : b1 = b := by rw [← HBB.out, Bool.and_true]
      clear e1 e2 hb
      go_enter Tryz.func13, Tryz.ntmps13
      go_wp2_with fail
      refine (ok_implb ck cn ct b1 E1.out _ h2).mono ?_
      rintro e w1 ⟨rfl, hb1⟩
      have hx := chain hA hb1
      go_wp2
      go_ret
      exact ⟨rfl, hx⟩
  by_cases k3 : k = 3
  · subst k3
    rw [tokB_3] at hb
    obtain ⟨b1, e1⟩ : ∃ x, signB s = x := ⟨_, rfl⟩
    obtain ⟨b2, e2⟩ : ∃ x, decide ((ck, cn, ct) = zeroC) = x := ⟨_, rfl⟩
    rw [e1, e2] at hb
    have hz := zeroC_same (ck, cn, ct) b2 e2
    dsimp only at hz
    have hq := fun w' => run_eql ck cn ct 0 0 ⟨#[]⟩ w'
    rw [hz] at hq
    have E1 : Hid (signB s = b1) := e1
    have HBB : Hid ((b1 && b2) = b) := hb
    clear e1 e2 hz hb
    cases b2
    · obtain rfl : false = b := by rw [← HBB.out, Bool.and_false]
      go_enter Tryz.func13, Tryz.ntmps13
      go_wp2
      go_ret
      exact ⟨rfl, hA⟩
    · obtain rfl : b1 = b := by rw [← HBB.out, Bool.and_true]
      go_enter Tryz.func13, Tryz.ntmps13
      go_wp2_with fail
      refine (sign_impl s b1 E1.out _).mono ?_
      rintro e w1 ⟨rfl, rfl⟩
      go_wp2
      go_ret
      exact ⟨rfl, hA⟩
  · have hbf : b = false := by
      rw [← hb]; unfold tokB; dsimp only; rw [if_neg k1, if_neg k2, if_neg k3]
    subst hbf
    clear hb
    go_enter Tryz.func13, Tryz.ntmps13
    go_wp2
    go_ret
    exact ⟨rfl, hA⟩
end Go.Proofs.YtgiknjlifocioaaGreatDoor

/-
  A scope of code with several labels, to which the run may leap from anywhere inside: what holds at each label, with a number that falls at every leap.
-/
namespace Go.Proofs.YtgiknjlifocioaaGreatDoor

/-- Leaps to a label end in J of that label; every other way out as Q has it. -/
def leaps (J : Nat → Act → World → Prop) (Q : Exit → Act → World → Prop) (e : Exit) (a : Act) (w : World) : Prop :=
  match e with
  | .goto l => J l a w
  | e => Q e a w
theorem leaps_goto {J : Nat → Act → World → Prop} {Q : Exit → Act → World → Prop} {l : Nat} {a : Act} {w : World} (h : J l a w) : leaps J Q (.goto l) a w := h
theorem leaps_ret {J : Nat → Act → World → Prop} {Q : Exit → Act → World → Prop} {a : Act} {w : World} : leaps J Q .ret a w = Q .ret a w := rfl

theorem wp_scope_leaps {P : Program} {a : Act} {w : World} {Q : Exit → Act → World → Prop} {c : Code} (J : Nat → Nat → Act → World → Prop)
    (first : c.wp P (leaps (fun l a w => ∃ n, J n l a w) Q) a w)
    (pass : ∀ n l a w, J n l a w → ∃ rest, findLabel c l = some rest ∧ rest.wp P (leaps (fun l' a' w' => ∃ m, m < n ∧ J m l' a' w') Q) a w) : (Code.scope c).wp P Q a w := by
  intro b k cs
  have land : ∀ n l a w, J n l a w → ∃ rest e a' w', findLabel c l = some rest ∧ Q e a' w' ∧ Arrives P (lone (b.at a (.code rest :: .inScope c :: k)) cs w) b k cs e a' w' := by
    intro n
    induction n using Nat.strongRecOn with
    | _ n ih =>
      intro l a w hJ
      obtain ⟨rest, hf, hw⟩ := pass n l a w hJ
      obtain ⟨e, a₁, w₁, hq, harr⟩ := hw b (.inScope c :: k) cs
      cases e with
      | goto l' =>
        obtain ⟨m, hm, hJ'⟩ := hq
        obtain ⟨rest', e₂, a₂, w₂, hf', hq₂, harr₂⟩ := ih m hm l' a₁ w₁ hJ'
        exact ⟨rest, e₂, a₂, w₂, hf, hq₂, .of_steps (harr _ (by simp [gotoIn, hf'])) harr₂⟩
      | normal => exact ⟨rest, .normal, a₁, w₁, hf, hq, Steps.trans harr (.one step_inScope)⟩
      | exit id => exact ⟨rest, .exit id, a₁, w₁, hf, hq, fun k' hk => harr k' (by simp [exitTo, hk])⟩
      | ret => exact ⟨rest, _, a₁, w₁, hf, hq, harr⟩
      | panic ch => exact ⟨rest, _, a₁, w₁, hf, hq, harr⟩
      | outgrown => exact ⟨rest, _, a₁, w₁, hf, hq, harr⟩
  obtain ⟨e, a₁, w₁, hq, harr⟩ := first b (.inScope c :: k) cs
  cases e with
  | goto l =>
    obtain ⟨n, hJ⟩ := hq
    obtain ⟨rest, e₂, a₂, w₂, hf, hq₂, harr₂⟩ := land n l a₁ w₁ hJ
    exact ⟨e₂, a₂, w₂, hq₂, .of_steps (.head step_scope (harr _ (by simp [gotoIn, hf]))) harr₂⟩
  | normal => exact ⟨.normal, a₁, w₁, hq, .head step_scope (Steps.trans harr (.one step_inScope))⟩
  | exit id => exact ⟨.exit id, a₁, w₁, hq, fun k' hk => .head step_scope (harr k' (by simp [exitTo, hk]))⟩
  | ret => exact ⟨_, a₁, w₁, hq, .of_steps (.one step_scope) harr⟩
  | panic ch => exact ⟨_, a₁, w₁, hq, .of_steps (.one step_scope) harr⟩
  | outgrown => exact ⟨_, a₁, w₁, hq, .of_steps (.one step_scope) harr⟩
end Go.Proofs.YtgiknjlifocioaaGreatDoor

/-
  The contracts of the program's cutting of a text: the bytes told apart, and the place behind the longest piece.
-/
namespace Go.Proofs.YtgiknjlifocioaaGreatDoor
open Go.ChangeShapes Go.WideShapes Go.ChangeAt Go.RowKit
attribute [local go_sem ↓] Go.wp_at_zero Go.wp_at_succ

/-- The byte that stands there; 0 behind the end. -/
def byteN (s : ByteArray) (k : Nat) : Nat := if h : k < s.size then (s[k]'h).toNat else 0
def letN (x : Nat) : Bool := decide (97 ≤ x) && decide (x ≤ 122)
def digN (x : Nat) : Bool := decide (48 ≤ x) && decide (x ≤ 57)
def firN (x : Nat) : Bool := decide (49 ≤ x) && decide (x ≤ 57)
theorem byte_cases (s : ByteArray) (k x : Nat) (h : byteN s k = x) : (∃ c : UInt8, c.toNat = x ∧ s.data.toList.drop k = c :: s.data.toList.drop (k + 1) ∧ k < s.size) ∨ (x = 0 ∧ s.data.toList.drop k = [] ∧ s.size ≤ k) := by
  unfold byteN at h
  split at h
  · rename_i hk
    refine .inl ⟨s[k], h, ?_, hk⟩
    rw [List.drop_eq_getElem_cons (by simpa using hk)]; rfl
  · rename_i hk
    exact .inr ⟨h.symm, List.drop_eq_nil_of_le (by rw [← Lib.size_eq]; omega), by omega⟩
theorem byteN_lt (s : ByteArray) (k x : Nat) (h : byteN s k = x) : x < 256 := by
  rcases byte_cases s k x h with ⟨c, rfl, _⟩ | ⟨rfl, _⟩
  · exact c.toNat_lt
  · omega
theorem letB_N {c : UInt8} : letB c = letN c.toNat := rfl
theorem isDig_N {c : UInt8} : isDig c = digN c.toNat := rfl
theorem firstD_N {c : UInt8} : firstD c = firN c.toNat := by
  unfold firstD isDig firN
  rw [Bool.eq_iff_iff]
  simp only [Bool.and_eq_true, decide_eq_true_eq]
  omega
theorem run_yes {s : ByteArray} {k x : Nat} (h : byteN s k = x) (hx : letN x = true) : k < s.size ∧ runL (s.data.toList.drop k) = runL (s.data.toList.drop (k + 1)) + 1 := by
  rcases byte_cases s k x h with ⟨c, rfl, e, hk⟩ | ⟨rfl, _⟩
  · refine ⟨hk, ?_⟩
    rw [e]
    unfold runL
    rw [List.takeWhile_cons_of_pos (by rw [letB_N]; exact hx)]
    rfl
  · cases hx
theorem run_no {s : ByteArray} {k x : Nat} (h : byteN s k = x) (hx : letN x = false) : runL (s.data.toList.drop k) = 0 := by
  rcases byte_cases s k x h with ⟨c, rfl, e, hk⟩ | ⟨rfl, e, _⟩
  · rw [e]; exact runL_no (by rw [letB_N]; exact hx)
  · rw [e]; rfl
theorem blank_yes {s : ByteArray} {k x : Nat} (h : byteN s k = x) (hx : x = 32) : k < s.size ∧ blankL (s.data.toList.drop k) = blankL (s.data.toList.drop (k + 1)) + 1 := by
  rcases byte_cases s k x h with ⟨c, hc, e, hk⟩ | ⟨hc, _⟩
  · refine ⟨hk, ?_⟩
    rw [e]
    unfold blankL
    rw [List.takeWhile_cons_of_pos (by simp; omega)]
    rfl
  · omega
theorem blank_no {s : ByteArray} {k x : Nat} (h : byteN s k = x) (hx : ¬ x = 32) : blankL (s.data.toList.drop k) = 0 := by
  rcases byte_cases s k x h with ⟨c, hc, e, hk⟩ | ⟨rfl, e, _⟩
  · rw [e]
    unfold blankL
    rw [List.takeWhile_cons_of_neg (by simp; omega)]
    rfl
  · rw [e]; rfl
theorem num_yes {s : ByteArray} {k x v : Nat} (h : byteN s k = x) (hx : digN x = true) (hv : v * 10 + (x - 48) ≤ 1000000000) : k < s.size ∧ numL v (s.data.toList.drop k) = numL (v * 10 + (x - 48)) (s.data.toList.drop (k + 1)) + 1 := by
  rcases byte_cases s k x h with ⟨c, rfl, e, hk⟩ | ⟨rfl, _⟩
  · refine ⟨hk, ?_⟩
    rw [e, numL, if_pos ⟨by rw [isDig_N]; exact hx, hv⟩]
  · cases hx
theorem num_no {s : ByteArray} {k x v : Nat} (h : byteN s k = x) (hx : digN x = false ∨ 1000000000 < v * 10 + (x - 48)) : numL v (s.data.toList.drop k) = 0 := by
  rcases byte_cases s k x h with ⟨c, rfl, e, hk⟩ | ⟨rfl, e, _⟩
  · rw [e, numL, if_neg]
    rintro ⟨h1, h2⟩
    rcases hx with hx | hx
    · rw [isDig_N, hx] at h1; cases h1
    · omega
  · rw [e]; rfl
/-- How far a text in ' goes on. -/
def quoteL (l : List UInt8) : Nat := if (l.drop (runL l)).head? = some 39 then runL l + 1 else runL l
theorem quote_more {s : ByteArray} {k x : Nat} (h : byteN s k = x) (hx : letN x = true) : k < s.size ∧ quoteL (s.data.toList.drop k) = quoteL (s.data.toList.drop (k + 1)) + 1 := by
  obtain ⟨hk, e⟩ := run_yes h hx
  refine ⟨hk, ?_⟩
  unfold quoteL
  rw [e, List.drop_drop, List.drop_drop]
  rw [show k + (runL (s.data.toList.drop (k + 1)) + 1) = k + 1 + runL (s.data.toList.drop (k + 1)) by omega]
  split <;> rfl
theorem quote_end {s : ByteArray} {k x : Nat} (h : byteN s k = x) (hx : letN x = false) (h39 : x = 39) : quoteL (s.data.toList.drop k) = 1 := by
  unfold quoteL
  rw [run_no h hx, List.drop_zero]
  rcases byte_cases s k x h with ⟨c, hc, e, hk⟩ | ⟨hc, _⟩
  · rw [e, if_pos]
    rw [List.head?_cons, byteIs (hc.trans h39) (by decide)]; rfl
  · omega
theorem quote_no {s : ByteArray} {k x : Nat} (h : byteN s k = x) (hx : letN x = false) (h39 : ¬ x = 39) : quoteL (s.data.toList.drop k) = 0 := by
  unfold quoteL
  rw [run_no h hx, List.drop_zero]
  rcases byte_cases s k x h with ⟨c, hc, e, hk⟩ | ⟨rfl, e, _⟩
  · rw [e, if_neg]
    rw [List.head?_cons]
    intro e2
    injection e2 with e2
    rw [e2] at hc
    exact h39 (by rw [← hc]; rfl)
  · rw [e]; rfl
theorem minus_yes {s : ByteArray} {k x : Nat} (h : byteN s k = x) (hx : firN x = true) : k < s.size ∧ minusL (s.data.toList.drop k) = numL (x - 48) (s.data.toList.drop (k + 1)) + 2 := by
  rcases byte_cases s k x h with ⟨c, rfl, e, hk⟩ | ⟨rfl, _⟩
  · refine ⟨hk, ?_⟩
    rw [e, minusL_yes (by rw [firstD_N]; exact hx)]
  · cases hx
theorem minus_no {s : ByteArray} {k x : Nat} (h : byteN s k = x) (hx : firN x = false) : minusL (s.data.toList.drop k) = 1 := by
  refine minusL_no ?_
  rintro ⟨d, r, e, hd⟩
  rcases byte_cases s k x h with ⟨c, rfl, e2, hk⟩ | ⟨rfl, e2, _⟩
  · rw [e2] at e
    injection e with e _
    rw [← e, firstD_N, hx] at hd; cases hd
  · rw [e2] at e; cases e
/-- What begins where, by the byte there. -/
theorem piece_at {s : ByteArray} {k x : Nat} (hk : k < s.size) (h : byteN s k = x) :
    pieceL (s.data.toList.drop k) = if x = 32 then blankL (s.data.toList.drop (k + 1)) + 1 else if letN x = true then runL (s.data.toList.drop (k + 1)) + 1 else if x = 39 then quoteL (s.data.toList.drop (k + 1)) + 1 else if x = 45 then minusL (s.data.toList.drop (k + 1)) else if firN x = true then numL (x - 48) (s.data.toList.drop (k + 1)) + 1 else 1 := by
  rcases byte_cases s k x h with ⟨c, rfl, e, _⟩ | ⟨_, _, h'⟩
  · rw [e, pieceL_cons]
    unfold pieceC quoteL
    rw [← letB_N, ← firstD_N]
    congr 3
    split <;> rfl
  · omega

theorem byteat_impl (s : ByteArray) (k : Nat) (x : Nat) (hx : byteN s k = x) (w : World) (i : Int) (hi : i = (k : Int)) :
    Calls Tryz.prog 60 #[.string s, .int .i64 i] w fun e w' => e = .returned (.int .u8 (x : Int)) ∧ w' = w := by
  subst hi
  unfold byteN at hx
  by_cases hk : k < s.size
  · rw [dif_pos hk] at hx
    subst hx
    have hi1 : (k : Int) < (s.size : Int) := by omega
    have hi2 : ¬ (s.size : Int) ≤ (k : Int) := by omega
    have hi0 : (0 : Int) ≤ (k : Int) := by omega
    go_enter Tryz.func60, Tryz.ntmps60
    go_wp2
    go_ret
    exact ⟨rfl, rfl⟩
  · rw [dif_neg hk] at hx
    subst hx
    have hi2 : (s.size : Int) ≤ (k : Int) := by omega
    go_enter Tryz.func60, Tryz.ntmps60
    go_wp2
    go_ret
    exact ⟨rfl, rfl⟩
theorem isletter_impl (x : Nat) (b : Bool) (hb : letN x = b) (w : World) :
    Calls Tryz.prog 58 #[.int .u8 (x : Int)] w fun e w' => e = .returned (.bool b) ∧ w' = w := by
  go_enter Tryz.func58, Tryz.ntmps58
  go_wp2
  all_goals go_ret
  all_goals exact ⟨ret_bool (by rw [← hb]; rw [Bool.eq_iff_iff]; unfold letN; simp <;> omega), rfl⟩
theorem isdigit_impl (x : Nat) (b : Bool) (hb : digN x = b) (w : World) :
    Calls Tryz.prog 62 #[.int .u8 (x : Int)] w fun e w' => e = .returned (.bool b) ∧ w' = w := by
  go_enter Tryz.func62, Tryz.ntmps62
  go_wp2
  all_goals go_ret
  all_goals exact ⟨ret_bool (by rw [← hb]; rw [Bool.eq_iff_iff]; unfold digN; simp <;> omega), rfl⟩
theorem isfirst_impl (x : Nat) (b : Bool) (hb : firN x = b) (w : World) :
    Calls Tryz.prog 59 #[.int .u8 (x : Int)] w fun e w' => e = .returned (.bool b) ∧ w' = w := by
  obtain ⟨d, hd⟩ : ∃ d, digN x = d := ⟨_, rfl⟩
  have HD : Hid (digN x = d) := hd
  have HB : Hid (firN x = b) := hb
  clear hd hb
  go_enter Tryz.func59, Tryz.ntmps59
  go_wp2_with fail
  refine (isdigit_impl x d HD.out _).mono ?_
  rintro e w1 ⟨rfl, rfl⟩
  have h1 := HD.out
  have h2 := HB.out
  cases d
  · have hf : b = false := by
      rw [← h2]; unfold firN; unfold digN at h1
      rw [Bool.eq_false_iff] at h1 ⊢
      simp only [ne_eq, Bool.and_eq_true, decide_eq_true_eq] at h1 ⊢
      omega
    subst hf
    clear h1 h2
    go_wp2
    go_ret
    exact ⟨rfl, rfl⟩
  · clear h1 h2
    go_wp2
    go_ret
    refine ⟨ret_bool ?_, rfl⟩
    have h1 := HD.out
    rw [← HB.out]
    unfold firN
    unfold digN at h1
    simp only [Bool.and_eq_true, decide_eq_true_eq] at h1
    rw [Bool.eq_iff_iff]
    simp
    omega
theorem withdigit_impl (v x : Nat) (hx : 48 ≤ x) (hx2 : x ≤ 57) (hv : v ≤ 1000000000) (w : World) :
    Calls Tryz.prog 61 #[.int .i64 (v : Int), .int .u8 (x : Int)] w fun e w' => e = .returned (.int .i64 ((v * 10 + (x - 48) : Nat) : Int)) ∧ w' = w := by
  go_enter Tryz.func61, Tryz.ntmps61
  go_wp2
  go_ret
  exact ⟨ret_int (by omega), rfl⟩
/-- The frame at a label. -/
def FrAt (s : ByteArray) (i j : Int) (a : Act) : Prop := ∃ u1 u2 u3 u4 u7 u8 u9 u10 u11 u12 u13 u14 u15 u16 u17 u18 u19 u20 u21 u22 u23 u24 u25 u26 u27 u28 u29 u30 u31 u32 u33 u34 u35 u36 u37 u38 u39 u40 u41 u42 u43 u44 u45 u46 u47 u48 u49 u50 u51 u52 u53 u54 u55 u56 u57 u58 u59 u60 u61 u62 u63 u64 u65 u66 u67 u68 u69 u70 u71 u72 u73 u74 u75 u76 u77 u78 u79 u80 u81 : Value, a = { tmps := #[.string s, u1, u2, u3, u4, .int .i64 i, .int .i64 j, u7, u8, u9, u10, u11, u12, u13, u14, u15, u16, u17, u18, u19, u20, u21, u22, u23, u24, u25, u26, u27, u28, u29, u30, u31, u32, u33, u34, u35, u36, u37, u38, u39, u40, u41, u42, u43, u44, u45, u46, u47, u48, u49, u50, u51, u52, u53, u54, u55, u56, u57, u58, u59, u60, u61, u62, u63, u64, u65, u66, u67, u68, u69, u70, u71, u72, u73, u74, u75, u76, u77, u78, u79, u80, u81], defers := [] }
/-- What holds at each label; n falls at every leap. -/
def LabAt (s : ByteArray) (r n l k v : Nat) : Prop :=
  (l = 0 ∧ k < s.size ∧ r = k + 1 + blankL (s.data.toList.drop (k + 1)) ∧ n = s.size - k) ∨
  (l = 1 ∧ k < s.size ∧ r = k + 1 + runL (s.data.toList.drop (k + 1)) ∧ n = s.size - k) ∨
  (l = 2 ∧ k < s.size ∧ r = k + 1 + quoteL (s.data.toList.drop (k + 1)) ∧ n = s.size - k) ∨
  (l = 3 ∧ k < s.size ∧ v = 0 ∧ r = k + minusL (s.data.toList.drop (k + 1)) ∧ n = s.size - k) ∨
  (l = 4 ∧ k < s.size ∧ digN (byteN s k) = true ∧ v * 10 + (byteN s k - 48) ≤ 1000000000 ∧ r = k + 1 + numL (v * 10 + (byteN s k - 48)) (s.data.toList.drop (k + 1)) ∧ n = s.size - k) ∨
  (l = 5 ∧ k < s.size + 1 ∧ r = k + 1 ∧ n = 0)
def PieceJ (s : ByteArray) (r : Nat) (w : World) (n l : Nat) (a : Act) (w' : World) : Prop := w' = w ∧ ∃ i j, FrAt s i j a ∧ ∃ k v : Nat, i = (k : Int) ∧ j = (v : Int) ∧ Hid (LabAt s r n l k v)
def PieceIs (s : ByteArray) (r k0 x : Nat) : Prop := r = k0 + (if x = 32 then blankL (s.data.toList.drop (k0 + 1)) + 1 else if letN x = true then runL (s.data.toList.drop (k0 + 1)) + 1 else if x = 39 then quoteL (s.data.toList.drop (k0 + 1)) + 1 else if x = 45 then minusL (s.data.toList.drop (k0 + 1)) else if firN x = true then numL (x - 48) (s.data.toList.drop (k0 + 1)) + 1 else 1)
set_option maxRecDepth 100000 in
set_option maxHeartbeats 4000000 in
theorem pieceend_impl (s : ByteArray) (hs : s.size ≤ 2000) (k0 : Nat) (hk : k0 < s.size) (r : Nat) (hr : k0 + pieceL (s.data.toList.drop k0) = r) (w : World) :
    Calls Tryz.prog 38 #[.string s, .int .i64 (k0 : Int)] w fun e w' => e = .returned (.int .i64 (r : Int)) ∧ w' = w := by
  have HR : Hid (k0 + pieceL (s.data.toList.drop k0) = r) := hr
  clear hr
  go_enter Tryz.func38, Tryz.ntmps38
  go_wp2
  refine wp_scope_leaps (PieceJ s r w) ?_ ?_
  · have hi0 : (0 : Int) ≤ (k0 : Int) := by omega
    have hi1 : (k0 : Int) < (s.size : Int) := by omega
    obtain ⟨x, hx⟩ : ∃ x, (s[k0]'hk).toNat = x := ⟨_, rfl⟩
    have hX : byteN s k0 = x := by unfold byteN; rw [dif_pos hk, hx]
    have HX : Hid (byteN s k0 = x) := hX
    have HP : Hid (PieceIs s r k0 x) := by
      have : PieceIs s r k0 x := by
        unfold PieceIs
        rw [← piece_at hk hX]
        exact HR.out.symm
      exact this
    clear hX
    by_cases h32 : x = 32
    · subst h32
      have hh := HP.out
      unfold PieceIs at hh
      rw [if_pos rfl] at hh
      go_wp2_with fail
      go_step3
      show ∃ n, PieceJ s r _ n 0 _ _
      exact ⟨s.size - k0, rfl, _, _, ⟨_, _, _, _, _, _, _, _, _, _, _, _, _, _, _, _, _, _, _, _, _, _, _, _, _, _, _, _, _, _, _, _, _, _, _, _, _, _, _, _, _, _, _, _, _, _, _, _, _, _, _, _, _, _, _, _, _, _, _, _, _, _, _, _, _, _, _, _, _, _, _, _, _, _, _, _, _, _, _, rfl⟩, k0, 0, rfl, rfl, .inl ⟨rfl, hk, by omega, rfl⟩⟩
    have g32 : ((x : Int) == 32) = false := by simpa using (show ¬ (x : Int) = 32 by omega)
    obtain ⟨bl, hbl⟩ : ∃ b, letN x = b := ⟨_, rfl⟩
    have HBL : Hid (letN x = bl) := hbl
    clear hbl
    go_wp2_with fail
    refine (isletter_impl x bl HBL.out _).mono ?_
    rintro e w1 ⟨rfl, rfl⟩
    rcases Bool.eq_false_or_eq_true bl with rfl | rfl
    · have hh := HP.out
      unfold PieceIs at hh
      rw [if_neg h32, if_pos HBL.out] at hh
      go_wp2_with fail
      go_step3
      show ∃ n, PieceJ s r _ n 1 _ _
      exact ⟨s.size - k0, rfl, _, _, ⟨_, _, _, _, _, _, _, _, _, _, _, _, _, _, _, _, _, _, _, _, _, _, _, _, _, _, _, _, _, _, _, _, _, _, _, _, _, _, _, _, _, _, _, _, _, _, _, _, _, _, _, _, _, _, _, _, _, _, _, _, _, _, _, _, _, _, _, _, _, _, _, _, _, _, _, _, _, _, _, rfl⟩, k0, 0, rfl, rfl, .inr (.inl ⟨rfl, hk, by omega, rfl⟩)⟩
    by_cases h39 : x = 39
    · subst h39
      have hh := HP.out
      unfold PieceIs at hh
      rw [if_neg h32, if_neg (by rw [HBL.out]; decide), if_pos rfl] at hh
      go_wp2_with fail
      go_step3
      show ∃ n, PieceJ s r _ n 2 _ _
      exact ⟨s.size - k0, rfl, _, _, ⟨_, _, _, _, _, _, _, _, _, _, _, _, _, _, _, _, _, _, _, _, _, _, _, _, _, _, _, _, _, _, _, _, _, _, _, _, _, _, _, _, _, _, _, _, _, _, _, _, _, _, _, _, _, _, _, _, _, _, _, _, _, _, _, _, _, _, _, _, _, _, _, _, _, _, _, _, _, _, _, rfl⟩, k0, 0, rfl, rfl, .inr (.inr (.inl ⟨rfl, hk, by omega, rfl⟩))⟩
    have g39 : ((x : Int) == 39) = false := by simpa using (show ¬ (x : Int) = 39 by omega)
    by_cases h45 : x = 45
    · subst h45
      have hh := HP.out
      unfold PieceIs at hh
      rw [if_neg h32, if_neg (by rw [HBL.out]; decide), if_neg h39, if_pos rfl] at hh
      go_wp2_with fail
      go_step3
      show ∃ n, PieceJ s r _ n 3 _ _
      exact ⟨s.size - k0, rfl, _, _, ⟨_, _, _, _, _, _, _, _, _, _, _, _, _, _, _, _, _, _, _, _, _, _, _, _, _, _, _, _, _, _, _, _, _, _, _, _, _, _, _, _, _, _, _, _, _, _, _, _, _, _, _, _, _, _, _, _, _, _, _, _, _, _, _, _, _, _, _, _, _, _, _, _, _, _, _, _, _, _, _, rfl⟩, k0, 0, rfl, rfl, .inr (.inr (.inr (.inl ⟨rfl, hk, rfl, hh, rfl⟩)))⟩
    have g45 : ((x : Int) == 45) = false := by simpa using (show ¬ (x : Int) = 45 by omega)
    obtain ⟨bf, hbf⟩ : ∃ b, firN x = b := ⟨_, rfl⟩
    have HBF : Hid (firN x = bf) := hbf
    clear hbf
    go_wp2_with fail
    refine (isfirst_impl x bf HBF.out _).mono ?_
    rintro e w2 ⟨rfl, rfl⟩
    have hh := HP.out
    unfold PieceIs at hh
    rw [if_neg h32, if_neg (by rw [HBL.out]; decide), if_neg h39, if_neg h45] at hh
    cases bf
    · rw [if_neg (by rw [HBF.out]; decide)] at hh
      go_wp2_with fail
      go_step3
      show ∃ n, PieceJ s r _ n 5 _ _
      exact ⟨0, rfl, _, _, ⟨_, _, _, _, _, _, _, _, _, _, _, _, _, _, _, _, _, _, _, _, _, _, _, _, _, _, _, _, _, _, _, _, _, _, _, _, _, _, _, _, _, _, _, _, _, _, _, _, _, _, _, _, _, _, _, _, _, _, _, _, _, _, _, _, _, _, _, _, _, _, _, _, _, _, _, _, _, _, _, rfl⟩, k0, 0, rfl, rfl, .inr (.inr (.inr (.inr (.inr ⟨rfl, by omega, by omega, rfl⟩))))⟩
    · rw [if_pos HBF.out] at hh
      have hd := HBF.out
      unfold firN at hd
      simp only [Bool.and_eq_true, decide_eq_true_eq] at hd
      go_wp2_with fail
      go_step3
      show ∃ n, PieceJ s r _ n 4 _ _
      exact ⟨s.size - k0, rfl, _, _, ⟨_, _, _, _, _, _, _, _, _, _, _, _, _, _, _, _, _, _, _, _, _, _, _, _, _, _, _, _, _, _, _, _, _, _, _, _, _, _, _, _, _, _, _, _, _, _, _, _, _, _, _, _, _, _, _, _, _, _, _, _, _, _, _, _, _, _, _, _, _, _, _, _, _, _, _, _, _, _, _, rfl⟩, k0, 0, rfl, rfl, .inr (.inr (.inr (.inr (.inl ⟨rfl, hk, by rw [HX.out]; unfold digN; simp only [Bool.and_eq_true, decide_eq_true_eq]; omega, by rw [HX.out]; omega, by rw [HX.out, show 0 * 10 + (x - 48) = x - 48 by omega]; omega, rfl⟩))))⟩
  · rintro n l a w' ⟨rfl, i, j, ⟨u1, u2, u3, u4, u7, u8, u9, u10, u11, u12, u13, u14, u15, u16, u17, u18, u19, u20, u21, u22, u23, u24, u25, u26, u27, u28, u29, u30, u31, u32, u33, u34, u35, u36, u37, u38, u39, u40, u41, u42, u43, u44, u45, u46, u47, u48, u49, u50, u51, u52, u53, u54, u55, u56, u57, u58, u59, u60, u61, u62, u63, u64, u65, u66, u67, u68, u69, u70, u71, u72, u73, u74, u75, u76, u77, u78, u79, u80, u81, rfl⟩, k, v, rfl, rfl, hL⟩
    rcases hL.out with ⟨rfl, h1, h2, h3⟩ | ⟨rfl, h1, h2, h3⟩ | ⟨rfl, h1, h2, h3⟩ | ⟨rfl, h1, h2, h3, h4⟩ | ⟨rfl, h1, h2, h3, h4, h5⟩ | ⟨rfl, h1, h2, h3⟩
    · refine ⟨_, rfl, ?_⟩
      clear hL
      obtain ⟨x, hx⟩ : ∃ x, byteN s (k + 1) = x := ⟨_, rfl⟩
      have HX : Hid (byteN s (k + 1) = x) := hx
      clear hx
      go_wp2_with fail
      refine (byteat_impl s (k + 1) x HX.out _ _ (by omega)).mono ?_
      rintro e w1 ⟨rfl, rfl⟩
      by_cases h32 : x = 32
      · subst h32
        obtain ⟨b1, b2⟩ := blank_yes HX.out rfl
        go_wp2_with fail
        go_step3
        show ∃ m, m < n ∧ PieceJ s r _ m 0 _ _
        exact ⟨s.size - (k + 1), by omega, rfl, _, _, ⟨_, _, _, _, _, _, _, _, _, _, _, _, _, _, _, _, _, _, _, _, _, _, _, _, _, _, _, _, _, _, _, _, _, _, _, _, _, _, _, _, _, _, _, _, _, _, _, _, _, _, _, _, _, _, _, _, _, _, _, _, _, _, _, _, _, _, _, _, _, _, _, _, _, _, _, _, _, _, _, rfl⟩, k + 1, v, by omega, rfl, .inl ⟨rfl, b1, by omega, rfl⟩⟩
      · have g32 : ((x : Int) == 32) = false := by simpa using (show ¬ (x : Int) = 32 by omega)
        have b2 := blank_no HX.out h32
        go_wp2_with fail
        rw [leaps_ret]
        go_ret
        exact ⟨ret_int (by omega), rfl⟩
    · refine ⟨_, rfl, ?_⟩
      clear hL
      obtain ⟨x, hx⟩ : ∃ x, byteN s (k + 1) = x := ⟨_, rfl⟩
      have HX : Hid (byteN s (k + 1) = x) := hx
      obtain ⟨bl, hbl⟩ : ∃ b, letN x = b := ⟨_, rfl⟩
      have HBL : Hid (letN x = bl) := hbl
      clear hx hbl
      go_wp2_with fail
      refine (byteat_impl s (k + 1) x HX.out _ _ (by omega)).mono ?_
      rintro e w1 ⟨rfl, rfl⟩
      go_wp2_with fail
      refine (isletter_impl x bl HBL.out _).mono ?_
      rintro e w2 ⟨rfl, rfl⟩
      rcases Bool.eq_false_or_eq_true bl with rfl | rfl
      · obtain ⟨b1, b2⟩ := run_yes HX.out HBL.out
        go_wp2_with fail
        go_step3
        show ∃ m, m < n ∧ PieceJ s r _ m 1 _ _
        exact ⟨s.size - (k + 1), by omega, rfl, _, _, ⟨_, _, _, _, _, _, _, _, _, _, _, _, _, _, _, _, _, _, _, _, _, _, _, _, _, _, _, _, _, _, _, _, _, _, _, _, _, _, _, _, _, _, _, _, _, _, _, _, _, _, _, _, _, _, _, _, _, _, _, _, _, _, _, _, _, _, _, _, _, _, _, _, _, _, _, _, _, _, _, rfl⟩, k + 1, v, by omega, rfl, .inr (.inl ⟨rfl, b1, by omega, rfl⟩)⟩
      · have b2 := run_no HX.out HBL.out
        go_wp2_with fail
        rw [leaps_ret]
        go_ret
        exact ⟨ret_int (by omega), rfl⟩
    · refine ⟨_, rfl, ?_⟩
      clear hL
      obtain ⟨x, hx⟩ : ∃ x, byteN s (k + 1) = x := ⟨_, rfl⟩
      have HX : Hid (byteN s (k + 1) = x) := hx
      obtain ⟨bl, hbl⟩ : ∃ b, letN x = b := ⟨_, rfl⟩
      have HBL : Hid (letN x = bl) := hbl
      clear hx hbl
      go_wp2_with fail
      refine (byteat_impl s (k + 1) x HX.out _ _ (by omega)).mono ?_
      rintro e w1 ⟨rfl, rfl⟩
      go_wp2_with fail
      refine (isletter_impl x bl HBL.out _).mono ?_
      rintro e w2 ⟨rfl, rfl⟩
      rcases Bool.eq_false_or_eq_true bl with rfl | rfl
      · obtain ⟨b1, b2⟩ := quote_more HX.out HBL.out
        go_wp2_with fail
        go_step3
        show ∃ m, m < n ∧ PieceJ s r _ m 2 _ _
        exact ⟨s.size - (k + 1), by omega, rfl, _, _, ⟨_, _, _, _, _, _, _, _, _, _, _, _, _, _, _, _, _, _, _, _, _, _, _, _, _, _, _, _, _, _, _, _, _, _, _, _, _, _, _, _, _, _, _, _, _, _, _, _, _, _, _, _, _, _, _, _, _, _, _, _, _, _, _, _, _, _, _, _, _, _, _, _, _, _, _, _, _, _, _, rfl⟩, k + 1, v, by omega, rfl, .inr (.inr (.inl ⟨rfl, b1, by omega, rfl⟩))⟩
      · go_wp2_with fail
        refine (byteat_impl s (k + 1) x HX.out _ _ (by omega)).mono ?_
        rintro e w3 ⟨rfl, rfl⟩
        by_cases h39 : x = 39
        · subst h39
          have b2 := quote_end HX.out HBL.out rfl
          go_wp2_with fail
          go_step3
          show ∃ m, m < n ∧ PieceJ s r _ m 5 _ _
          exact ⟨0, by omega, rfl, _, _, ⟨_, _, _, _, _, _, _, _, _, _, _, _, _, _, _, _, _, _, _, _, _, _, _, _, _, _, _, _, _, _, _, _, _, _, _, _, _, _, _, _, _, _, _, _, _, _, _, _, _, _, _, _, _, _, _, _, _, _, _, _, _, _, _, _, _, _, _, _, _, _, _, _, _, _, _, _, _, _, _, rfl⟩, k + 1, v, by omega, rfl, .inr (.inr (.inr (.inr (.inr ⟨rfl, by omega, by omega, rfl⟩))))⟩
        · have g39 : ((x : Int) == 39) = false := by simpa using (show ¬ (x : Int) = 39 by omega)
          have b2 := quote_no HX.out HBL.out h39
          go_wp2_with fail
          rw [leaps_ret]
          go_ret
          exact ⟨ret_int (by omega), rfl⟩
    · refine ⟨_, rfl, ?_⟩
      clear hL
      subst h2
      obtain ⟨x, hx⟩ : ∃ x, byteN s (k + 1) = x := ⟨_, rfl⟩
      have HX : Hid (byteN s (k + 1) = x) := hx
      obtain ⟨bl, hbl⟩ : ∃ b, firN x = b := ⟨_, rfl⟩
      have HBL : Hid (firN x = bl) := hbl
      clear hx hbl
      go_wp2_with fail
      refine (byteat_impl s (k + 1) x HX.out _ _ (by omega)).mono ?_
      rintro e w1 ⟨rfl, rfl⟩
      go_wp2_with fail
      refine (isfirst_impl x bl HBL.out _).mono ?_
      rintro e w2 ⟨rfl, rfl⟩
      cases bl
      · have b2 := minus_no HX.out HBL.out
        go_wp2_with fail
        go_step3
        show ∃ m, m < n ∧ PieceJ s r _ m 5 _ _
        exact ⟨0, by omega, rfl, _, _, ⟨_, _, _, _, _, _, _, _, _, _, _, _, _, _, _, _, _, _, _, _, _, _, _, _, _, _, _, _, _, _, _, _, _, _, _, _, _, _, _, _, _, _, _, _, _, _, _, _, _, _, _, _, _, _, _, _, _, _, _, _, _, _, _, _, _, _, _, _, _, _, _, _, _, _, _, _, _, _, _, rfl⟩, k, 0, rfl, rfl, .inr (.inr (.inr (.inr (.inr ⟨rfl, by omega, by omega, rfl⟩))))⟩
      · obtain ⟨hkd, b2⟩ := minus_yes HX.out HBL.out
        have hget : (s[k + 1]'hkd).toNat = x := by
          have := HX.out
          unfold byteN at this
          rw [dif_pos hkd] at this
          exact this
        have hd := HBL.out
        unfold firN at hd
        simp only [Bool.and_eq_true, decide_eq_true_eq] at hd
        obtain ⟨hd0, hd2⟩ := hd
        have hd1 : 48 ≤ x := by omega
        obtain ⟨m, hm⟩ : ∃ m, 0 * 10 + (x - 48) = m := ⟨_, rfl⟩
        have hm2 : m ≤ 1000000000 := by omega
        have h9 : r = k + 1 + 1 + numL m (s.data.toList.drop (k + 1 + 1)) := by
          rw [show m = x - 48 by omega]; omega
        have hi1 : (k : Int) + 1 < (s.size : Int) := by omega
        go_wp2_with fail
        go_step3
        go_wp2_with fail
        refine (withdigit_impl 0 x hd1 hd2 (by omega) _).mono ?_
        rw [hm]
        rintro e w3 ⟨rfl, rfl⟩
        obtain ⟨y, hy⟩ : ∃ y, byteN s ((k + 1) + 1) = y := ⟨_, rfl⟩
        have HY : Hid (byteN s ((k + 1) + 1) = y) := hy
        obtain ⟨bd, hbd⟩ : ∃ b, digN y = b := ⟨_, rfl⟩
        have HBD : Hid (digN y = bd) := hbd
        clear hy hbd hget
        go_wp2_with fail
        refine (byteat_impl s ((k + 1) + 1) y HY.out _ _ (by omega)).mono ?_
        rintro e w4 ⟨rfl, rfl⟩
        go_wp2_with fail
        refine (isdigit_impl y bd HBD.out _).mono ?_
        rintro e w5 ⟨rfl, rfl⟩
        cases bd
        · have b2 := num_no (v := m) HY.out (.inl HBD.out)
          go_wp2_with fail
          rw [leaps_ret]
          go_ret
          exact ⟨ret_int (by omega), rfl⟩
        have hdy := HBD.out
        unfold digN at hdy
        simp only [Bool.and_eq_true, decide_eq_true_eq] at hdy
        obtain ⟨hy1, hy2⟩ := hdy
        go_wp2_with fail
        refine (withdigit_impl m y hy1 hy2 hm2 _).mono ?_
        rintro e w6 ⟨rfl, rfl⟩
        obtain ⟨q, hq⟩ : ∃ q, m * 10 + (y - 48) = q := ⟨_, rfl⟩
        rw [hq]
        obtain ⟨bn, hbn⟩ : ∃ b, numB (q : Int) = b := ⟨_, rfl⟩
        have HBN : Hid (numB (q : Int) = bn) := hbn
        have HQ : Hid (m * 10 + (y - 48) = q) := hq
        clear hbn hq
        go_wp2_with fail
        refine (numberFits_impl (q : Int) _).mono ?_
        rw [HBN.out]
        rintro e w7 ⟨rfl, rfl⟩
        cases bn
        · have hnb := HBN.out
          have hqq := HQ.out
          have b2 := num_no (v := m) HY.out (.inr (by
            rw [hqq]
            rw [Bool.eq_false_iff, ne_eq, numB_iff] at hnb
            omega))
          go_wp2_with fail
          rw [leaps_ret]
          go_ret
          exact ⟨ret_int (by omega), rfl⟩
        · have hnb := numB_iff.1 HBN.out
          have hqq := HQ.out
          obtain ⟨b1, b2⟩ := num_yes (v := m) HY.out HBD.out (by omega)
          rw [hqq] at b2
          go_wp2_with fail
          go_step3
          show ∃ m, m < n ∧ PieceJ s r _ m 4 _ _
          exact ⟨s.size - ((k + 1) + 1), by omega, rfl, _, _, ⟨_, _, _, _, _, _, _, _, _, _, _, _, _, _, _, _, _, _, _, _, _, _, _, _, _, _, _, _, _, _, _, _, _, _, _, _, _, _, _, _, _, _, _, _, _, _, _, _, _, _, _, _, _, _, _, _, _, _, _, _, _, _, _, _, _, _, _, _, _, _, _, _, _, _, _, _, _, _, _, rfl⟩, (k + 1) + 1, m, by omega, rfl, .inr (.inr (.inr (.inr (.inl ⟨rfl, b1, by rw [HY.out]; exact HBD.out, by rw [HY.out]; omega, by rw [HY.out, hqq]; omega, rfl⟩))))⟩
    · refine ⟨_, rfl, ?_⟩
      clear hL
      obtain ⟨x, hx⟩ : ∃ x, byteN s k = x := ⟨_, rfl⟩
      have HX : Hid (byteN s k = x) := hx
      rw [hx] at h2 h3 h4
      have hget : (s[k]'h1).toNat = x := by
        unfold byteN at hx
        rw [dif_pos h1] at hx
        exact hx
      clear hx
      unfold digN at h2
      simp only [Bool.and_eq_true, decide_eq_true_eq] at h2
      obtain ⟨hd1, hd2⟩ := h2
      obtain ⟨m, hm⟩ : ∃ m, v * 10 + (x - 48) = m := ⟨_, rfl⟩
      rw [hm] at h3 h4
      have hm2 : m ≤ 1000000000 := h3
      have h9 : r = k + 1 + numL m (s.data.toList.drop (k + 1)) := h4
      have hi1 : (k : Int) < (s.size : Int) := by omega
      have hi0 : (0 : Int) ≤ (k : Int) := by omega
      go_wp2_with fail
      refine (withdigit_impl v x hd1 hd2 (by omega) _).mono ?_
      rw [hm]
      rintro e w3 ⟨rfl, rfl⟩
      obtain ⟨y, hy⟩ : ∃ y, byteN s (k + 1) = y := ⟨_, rfl⟩
      have HY : Hid (byteN s (k + 1) = y) := hy
      obtain ⟨bd, hbd⟩ : ∃ b, digN y = b := ⟨_, rfl⟩
      have HBD : Hid (digN y = bd) := hbd
      clear hy hbd hget
      go_wp2_with fail
      refine (byteat_impl s (k + 1) y HY.out _ _ (by omega)).mono ?_
      rintro e w4 ⟨rfl, rfl⟩
      go_wp2_with fail
      refine (isdigit_impl y bd HBD.out _).mono ?_
      rintro e w5 ⟨rfl, rfl⟩
      cases bd
      · have b2 := num_no (v := m) HY.out (.inl HBD.out)
        go_wp2_with fail
        rw [leaps_ret]
        go_ret
        exact ⟨ret_int (by omega), rfl⟩
      have hdy := HBD.out
      unfold digN at hdy
      simp only [Bool.and_eq_true, decide_eq_true_eq] at hdy
      obtain ⟨hy1, hy2⟩ := hdy
      go_wp2_with fail
      refine (withdigit_impl m y hy1 hy2 hm2 _).mono ?_
      rintro e w6 ⟨rfl, rfl⟩
      obtain ⟨q, hq⟩ : ∃ q, m * 10 + (y - 48) = q := ⟨_, rfl⟩
      rw [hq]
      obtain ⟨bn, hbn⟩ : ∃ b, numB (q : Int) = b := ⟨_, rfl⟩
      have HBN : Hid (numB (q : Int) = bn) := hbn
      have HQ : Hid (m * 10 + (y - 48) = q) := hq
      clear hbn hq
      go_wp2_with fail
      refine (numberFits_impl (q : Int) _).mono ?_
      rw [HBN.out]
      rintro e w7 ⟨rfl, rfl⟩
      cases bn
      · have hnb := HBN.out
        have hqq := HQ.out
        have b2 := num_no (v := m) HY.out (.inr (by
          rw [hqq]
          rw [Bool.eq_false_iff, ne_eq, numB_iff] at hnb
          omega))
        go_wp2_with fail
        rw [leaps_ret]
        go_ret
        exact ⟨ret_int (by omega), rfl⟩
      · have hnb := numB_iff.1 HBN.out
        have hqq := HQ.out
        obtain ⟨b1, b2⟩ := num_yes (v := m) HY.out HBD.out (by omega)
        rw [hqq] at b2
        go_wp2_with fail
        go_step3
        show ∃ m, m < n ∧ PieceJ s r _ m 4 _ _
        exact ⟨s.size - (k + 1), by omega, rfl, _, _, ⟨_, _, _, _, _, _, _, _, _, _, _, _, _, _, _, _, _, _, _, _, _, _, _, _, _, _, _, _, _, _, _, _, _, _, _, _, _, _, _, _, _, _, _, _, _, _, _, _, _, _, _, _, _, _, _, _, _, _, _, _, _, _, _, _, _, _, _, _, _, _, _, _, _, _, _, _, _, _, _, rfl⟩, k + 1, m, by omega, rfl, .inr (.inr (.inr (.inr (.inl ⟨rfl, b1, by rw [HY.out]; exact HBD.out, by rw [HY.out]; omega, by rw [HY.out, hqq]; omega, rfl⟩))))⟩
    · refine ⟨_, rfl, ?_⟩
      clear hL
      go_wp2_with fail
      rw [leaps_ret]
      go_ret
      exact ⟨ret_int (by omega), rfl⟩
end Go.Proofs.YtgiknjlifocioaaGreatDoor
