/-
  The contracts of the model's questions for a token: a sign, a name that is no other word, a right token.
-/
import Derived.Test.YtfokdblojlmnlalDoorTok1
namespace Go.Proofs.YtfokdblojlmnlalDoor
open Go.ChangeShapes Go.WideShapes Go.ChangeAt Go.RowKit
attribute [local go_sem ↓] Go.wp_at_zero Go.wp_at_succ
attribute [local simp] World.cell?_alloc_past World.cell?_alloc_at World.frozen?_alloc_at cell_far cell_off cell_here World.frozen?_alloc_past

theorem signs_spec (w : World) :
    Calls Tryd.prog 51 #[] w fun e w' => ∃ g, e = .returned (.slice (some ⟨g, 0, none⟩) 4 4) ∧ StrsAt w' (some ⟨g, 0, none⟩) signW ∧ Below w.heap.size w w' := by
  go_enter Tryd.func51, Tryd.ntmps51
  go_wp2
  go_ret
  refine ⟨w.heap.size, rfl, ?_, (Below.refl _ _).alloc (Nat.le_refl _) _⟩
  intro j hj
  simp only [signW, List.length_cons, List.length_nil] at hj
  refine ⟨w.heap.size, 0, rfl, by simp, ?_⟩
  match j, hj with
  | 0, _ => simp [signW]
  | 1, _ => simp [signW]
  | 2, _ => simp [signW]
  | 3, _ => simp [signW]
theorem at_specT (n : Nat) (a : Option Addr) (cap : Nat) (l : List ByteArray) (hn : l.length = n) (s : ByteArray) (w : World) (hrow : StrsAt w a l) (hm : n ≤ maxLen) :
    Calls Tryd.prog 50 #[.slice a n cap, .string s] w fun e w' => ∃ r, e = .returned (.int .i64 r) ∧ AtIs l s r ∧ Below w.heap.size w w' := by
  subst hn; exact at_spec a cap l s w hrow hm
set_option maxHeartbeats 1000000 in
theorem sign_spec (s : ByteArray) (w : World) (b : Bool) (hb : signB s = b) :
    Calls Tryd.prog 28 #[.string s] w fun e w' => e = .returned (.bool b) ∧ Below w.heap.size w w' := by
  have HB : Hid (signB s = b) := hb
  clear hb
  go_enter Tryd.func28, Tryd.ntmps28
  go_wp2_with fail
  refine (signs_spec w).mono ?_
  rintro e w1 ⟨g, rfl, hst, hb1⟩
  go_wp2_with fail
  refine (at_specT 4 _ _ signW rfl s _ hst (by unfold maxLen; omega)).mono ?_
  rintro e w2 ⟨r, rfl, hat, hb2⟩
  have hx := chain hb1 hb2
  have hrr := hat.neg
  by_cases hr : 0 ≤ r
  · have hin : inB signW s = true := inB_iff.2 (hrr.1 hr)
    obtain rfl : b = true := by rw [← HB.out]; unfold signB; rw [hin, Bool.true_or]
    clear hat hst hrr
    go_wp2
    go_ret
    exact ⟨rfl, hx⟩
  · have hin : inB signW s = false := inB_no.2 (fun h => hr (hrr.2 h))
    have HB2 : Hid (inB signO s = b) := by
      have : inB signO s = b := by rw [← HB.out]; unfold signB; rw [hin, Bool.false_or]
      exact this
    have hr' : r < 0 := by omega
    clear hat hst hrr hin HB
    go_wp2_with fail
    obtain ⟨V, hV⟩ : ∃ V, V = (w2.alloc (.cells #[.string ⟨#[43]⟩, .string ⟨#[45]⟩, .string ⟨#[42]⟩, .string ⟨#[47]⟩, .string ⟨#[61]⟩, .string ⟨#[60]⟩, .string ⟨#[40]⟩, .string ⟨#[41]⟩] 9)) := ⟨_, rfl⟩
    rw [← hV]
    have hA : Below w2.heap.size w2 V := by rw [hV]; exact (Below.refl _ _).alloc (Nat.le_refl _) _
    have hso : StrsAt V (some ⟨w2.heap.size, 0, none⟩) signO := by
      intro j hj
      simp only [signO, List.length_cons, List.length_nil] at hj
      refine ⟨w2.heap.size, 0, rfl, by rw [hV]; simp, ?_⟩
      rw [hV]
      match j, hj with
      | 0, _ => simp [signO]
      | 1, _ => simp [signO]
      | 2, _ => simp [signO]
      | 3, _ => simp [signO]
      | 4, _ => simp [signO]
      | 5, _ => simp [signO]
      | 6, _ => simp [signO]
      | 7, _ => simp [signO]
    clear hV
    refine (at_specT 8 _ _ signO rfl s _ hso (by unfold maxLen; omega)).mono ?_
    rintro e w3 ⟨r3, rfl, hat3, hb3⟩
    have hx3 := chain (chain hx hA) hb3
    have hrr3 := hat3.neg
    cases b
    · have h3 : ¬ 0 ≤ r3 := fun h => inB_no.1 HB2.out (hrr3.1 h)
      have h3' : r3 < 0 := by omega
      clear hat3 hrr3
      go_wp2
      go_ret
      exact ⟨ret_bool (by rw [decide_eq_false (by omega), decide_eq_false (by omega)]; rfl), hx3⟩
    · have h3 : 0 ≤ r3 := hrr3.2 (inB_iff.1 HB2.out)
      clear hat3 hrr3
      go_wp2
      go_ret
      exact ⟨rfl, hx3⟩
theorem word_lit (s : ByteArray) (l : List UInt8) (b : Bool) (h : decide (s.data.toList ≠ l) = b) : (s.toList == l) = !b := by
  rw [Lib.toList_data, ← h]
  by_cases e : s.data.toList = l
  · rw [e]; simp
  · rw [decide_eq_true e]; simpa using e
set_option maxHeartbeats 1000000 in
theorem namek_spec (s : ByteArray) (w : World) (hs : s.size ≤ maxLen) (b : Bool) (hb : nameK s = b) :
    Calls Tryd.prog 26 #[.string s] w fun e w' => e = .returned (.bool b) ∧ Below w.heap.size w w' := by
  have HB : Hid (nameK s = b) := hb
  clear hb
  obtain ⟨n1, hn1⟩ : ∃ x, nameB s = x := ⟨_, rfl⟩
  have HN1 : Hid (nameB s = n1) := hn1
  go_enter Tryd.func26, Tryd.ntmps26
  go_wp2_with fail
  refine (name_spec s w hs n1 hn1).mono ?_
  rintro e w1 ⟨rfl, rfl⟩
  cases n1
  · obtain rfl : b = false := by rw [← HB.out]; unfold nameK; rw [hn1, Bool.false_and]
    clear hn1
    go_wp2
    go_ret
    exact ⟨rfl, Below.refl _ _⟩
  clear hn1
  go_wp2_with fail
  refine (signs_spec w1).mono ?_
  rintro e w2 ⟨g, rfl, hst, hb2⟩
  go_wp2_with fail
  refine (at_specT 4 _ _ signW rfl s _ hst (by unfold maxLen; omega)).mono ?_
  rintro e w3 ⟨r, rfl, hat, hb3⟩
  have hx := chain hb2 hb3
  have hrr := hat.neg
  by_cases hr : 0 ≤ r
  · have hin : inB signW s = true := inB_iff.2 (hrr.1 hr)
    obtain rfl : b = false := by rw [← HB.out]; unfold nameK; rw [HN1.out, hin]; rfl
    have hr' : ¬ r < 0 := by omega
    clear hat hst hrr
    go_wp2
    go_ret
    exact ⟨rfl, hx⟩
  · have hin : inB signW s = false := inB_no.2 (fun h => hr (hrr.2 h))
    have HB2 : Hid ((decide (s.data.toList ≠ wNone) && (decide (s.data.toList ≠ wYes) && decide (s.data.toList ≠ wNo))) = b) := by
      have : (decide (s.data.toList ≠ wNone) && (decide (s.data.toList ≠ wYes) && decide (s.data.toList ≠ wNo))) = b := by
        rw [← HB.out]; unfold nameK; rw [HN1.out, hin]; rfl
      exact this
    have hr' : r < 0 := by omega
    obtain ⟨b1, h1⟩ : ∃ x, decide (s.data.toList ≠ wNone) = x := ⟨_, rfl⟩
    obtain ⟨b2, h2⟩ : ∃ x, decide (s.data.toList ≠ wYes) = x := ⟨_, rfl⟩
    obtain ⟨b3, h3⟩ : ∃ x, decide (s.data.toList ≠ wNo) = x := ⟨_, rfl⟩
    have e1 := word_lit s wNone b1 h1
    have e2 := word_lit s wYes b2 h2
    have e3 := word_lit s wNo b3 h3
    have HBB : Hid ((b1 && (b2 && b3)) = b) := by
      have : (b1 && (b2 && b3)) = b := by rw [← HB2.out, h1, h2, h3]
      exact this
    unfold wNone at e1
    unfold wYes at e2
    unfold wNo at e3
    clear hat hst hrr hin HB HB2 h1 h2 h3
    cases b1
    · obtain rfl : false = b := HBB.out
      go_wp2
      go_ret
      exact ⟨rfl, hx⟩
    cases b2
    · obtain rfl : false = b := HBB.out
      go_wp2
      go_ret
      exact ⟨rfl, hx⟩
    cases b3
    · obtain rfl : false = b := HBB.out
      go_wp2
      go_ret
      exact ⟨rfl, hx⟩
    · obtain rfl : true = b := HBB.out
      go_wp2
      go_ret
      exact ⟨rfl, hx⟩
theorem zeroC_same (c : CK) (b : Bool) (h : decide (c = zeroC) = b) : sameB c.1 c.2.1 c.2.2 0 0 ⟨#[]⟩ = b := by
  rw [← h]
  rw [Bool.eq_iff_iff, sameB_eq, decide_eq_true_eq]
  obtain ⟨x, y, z⟩ := c
  unfold zeroC
  simp
set_option maxHeartbeats 2000000 in
theorem tok_spec (t : TT) (w : World) (h1 : t.2.1.size ≤ maxLen) (h2 : t.2.2.2.2.size ≤ maxLen) (b : Bool) (hb : tokB t = b) :
    Calls Tryd.prog 8 #[.agg #[.int .i64 t.1, .string t.2.1, .int .i64 t.2.2.1, .int .i64 t.2.2.2.1, .string t.2.2.2.2]] w fun e w' => e = .returned (.bool b) ∧ Below w.heap.size w w' := by
  obtain ⟨k, s, ck, cn, ct⟩ := t
  dsimp only at h1 h2 ⊢
  have hA : Below w.heap.size w (w.alloc (.cells #[.int .i64 k, .string s, .int .i64 ck, .int .i64 cn, .string ct] 30)) := (Below.refl _ _).alloc (Nat.le_refl _) _
  by_cases k1 : k = 1
  · subst k1
    rw [tokB_1] at hb
    obtain ⟨b1, e1⟩ : ∃ x, nameK s = x := ⟨_, rfl⟩
    obtain ⟨b2, e2⟩ : ∃ x, decide ((ck, cn, ct) = zeroC) = x := ⟨_, rfl⟩
    rw [e1, e2] at hb
    have hz := zeroC_same (ck, cn, ct) b2 e2
    dsimp only at hz
    have hq := fun w' => run_eql ck cn ct 0 0 ⟨#[]⟩ w'
    rw [hz] at hq
    have E1 : Hid (nameK s = b1) := e1
    clear e1 e2 hz
    cases b1
    · obtain rfl : false = b := hb
      go_enter Tryd.func8, Tryd.ntmps8
      go_wp2_with fail
      refine (namek_spec s _ h1 false E1.out).mono ?_
      rintro e w1 ⟨rfl, hb1⟩
      have hx := chain hA hb1
      go_wp2
      go_ret
      exact ⟨rfl, hx⟩
    · obtain rfl : b2 = b := hb
      go_enter Tryd.func8, Tryd.ntmps8
      go_wp2_with fail
      refine (namek_spec s _ h1 true E1.out).mono ?_
      rintro e w1 ⟨rfl, hb1⟩
      have hx := chain hA hb1
      obtain ⟨hc, hf⟩ := bcell hb1
      have c2 : w1.cell? ⟨w.heap.size, 2, none⟩ = some (.int .i64 ck) := by rw [hc _ _ (by simp)]; simp
      have c3 : w1.cell? ⟨w.heap.size, 3, none⟩ = some (.int .i64 cn) := by rw [hc _ _ (by simp)]; simp
      have c4 : w1.cell? ⟨w.heap.size, 4, none⟩ = some (.string ct) := by rw [hc _ _ (by simp)]; simp
      clear hc hf
      go_wp2
      go_ret
      exact ⟨rfl, hx⟩
  by_cases k2 : k = 2
  · subst k2
    rw [tokB_2] at hb
    obtain ⟨b1, e1⟩ : ∃ x, okC (ck, cn, ct) = x := ⟨_, rfl⟩
    obtain ⟨b2, e2⟩ : ∃ x, decide (s = ⟨#[]⟩) = x := ⟨_, rfl⟩
    rw [e1, e2] at hb
    have hq : (s.toList == []) = b2 := by
      rw [← e2]
      by_cases e : s = ⟨#[]⟩
      · rw [decide_eq_true e, e]; simp [Lib.toList_data]
      · rw [decide_eq_false e]
        have := txt_other e
        rw [show (⟨#[]⟩ : ByteArray).toList = [] from by rw [Lib.toList_data]] at this
        exact this
    have E1 : Hid (okB ck cn ct = b1) := e1
    clear e1 e2
    cases b1
    · obtain rfl : false = b := hb
      go_enter Tryd.func8, Tryd.ntmps8
      go_wp2_with fail
      refine (ok_specb ck cn ct false E1.out _ h2).mono ?_
      rintro e w1 ⟨rfl, hb1⟩
      have hx := chain hA hb1
      go_wp2
      go_ret
      exact ⟨rfl, hx⟩
    · obtain rfl : b2 = b := hb
      go_enter Tryd.func8, Tryd.ntmps8
      go_wp2_with fail
      refine (ok_specb ck cn ct true E1.out _ h2).mono ?_
      rintro e w1 ⟨rfl, hb1⟩
      have hx := chain hA hb1
      obtain ⟨hc, hf⟩ := bcell hb1
      have c1 : w1.cell? ⟨w.heap.size, 1, none⟩ = some (.string s) := by rw [hc _ _ (by simp)]; simp
      clear hc hf
      go_wp2
      go_ret
      exact ⟨rfl, hx⟩
  by_cases k3 : k = 3
  · subst k3
    rw [tokB_3] at hb
    obtain ⟨b1, e1⟩ : ∃ x, signB s = x := ⟨_, rfl⟩
    obtain ⟨b2, e2⟩ : ∃ x, decide ((ck, cn, ct) = zeroC) = x := ⟨_, rfl⟩
    rw [e1, e2] at hb
    have hz := zeroC_same (ck, cn, ct) b2 e2
    dsimp only at hz
    have hq := fun w' => run_eql ck cn ct 0 0 ⟨#[]⟩ w'
    rw [hz] at hq
    have E1 : Hid (signB s = b1) := e1
    clear e1 e2 hz
    cases b1
    · obtain rfl : false = b := hb
      go_enter Tryd.func8, Tryd.ntmps8
      go_wp2_with fail
      refine (sign_spec s _ false E1.out).mono ?_
      rintro e w1 ⟨rfl, hb1⟩
      have hx := chain hA hb1
      go_wp2
      go_ret
      exact ⟨rfl, hx⟩
    · obtain rfl : b2 = b := hb
      go_enter Tryd.func8, Tryd.ntmps8
      go_wp2_with fail
      refine (sign_spec s _ true E1.out).mono ?_
      rintro e w1 ⟨rfl, hb1⟩
      have hx := chain hA hb1
      obtain ⟨hc, hf⟩ := bcell hb1
      have c2 : w1.cell? ⟨w.heap.size, 2, none⟩ = some (.int .i64 ck) := by rw [hc _ _ (by simp)]; simp
      have c3 : w1.cell? ⟨w.heap.size, 3, none⟩ = some (.int .i64 cn) := by rw [hc _ _ (by simp)]; simp
      have c4 : w1.cell? ⟨w.heap.size, 4, none⟩ = some (.string ct) := by rw [hc _ _ (by simp)]; simp
      clear hc hf
      go_wp2
      go_ret
      exact ⟨rfl, hx⟩
  · have hbf : b = false := by
      rw [← hb]; unfold tokB; dsimp only; rw [if_neg k1, if_neg k2, if_neg k3]
    subst hbf
    clear hb
    go_enter Tryd.func8, Tryd.ntmps8
    go_wp2
    go_ret
    exact ⟨rfl, hA⟩
end Go.Proofs.YtfokdblojlmnlalDoor
