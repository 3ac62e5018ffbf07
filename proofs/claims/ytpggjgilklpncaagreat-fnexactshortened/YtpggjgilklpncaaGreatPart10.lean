/-
  A part of the proof: TabI1, TabI2, ShI3, Rank2.
-/
import Derived.Test.YtpggjgilklpncaaGreatPart4
import Derived.Test.YtpggjgilklpncaaGreatPart5
import Derived.Test.YtpggjgilklpncaaGreatPart6

/-
  The contracts of the program's questions on names: whether a text is one, whether all of a list are, whether no two are alike.
-/
namespace Go.Proofs.YtpggjgilklpncaaGreat
open Go.ChangeShapes Go.WideShapes Go.ChangeAt Go.RowKit
attribute [local go_sem ↓] Go.wp_at_zero Go.wp_at_succ
attribute [local simp] World.cell?_alloc_past World.cell?_alloc_at World.frozen?_alloc_at cell_far cell_off cell_here World.frozen?_alloc_past

theorem nameB_short {s : ByteArray} (h : ¬ (1 : Int) ≤ (s.size : Int)) : nameB s = false := by
  have : s = ⟨#[]⟩ := by
    apply ByteArray.ext
    apply Array.eq_empty_of_size_eq_zero
    have : s.size = 0 := by omega
    exact this
  rw [this]; rfl
theorem nameB_long {s : ByteArray} (h : ¬ (s.size : Int) ≤ 6) : nameB s = false := by
  unfold nameB
  rw [decide_eq_false h, Bool.and_false, Bool.and_false]
theorem nameB_mid {s : ByteArray} (h : (1 : Int) ≤ (s.size : Int)) (h6 : (s.size : Int) ≤ 6) : nameB s = (lets s.data.toList && decide ((s.size : Int) ≤ 12)) := by
  unfold nameB
  rw [decide_eq_true h6, decide_eq_true (by omega : (s.size : Int) ≤ 12), decide_eq_true, Bool.true_and]
  intro e
  rw [e] at h
  exact absurd h (by decide)

theorem name_impl (s : ByteArray) (w : World) (hs : s.size ≤ maxLen) (b : Bool) (hb : nameB s = b) :
    Calls Tryz.prog 51 #[.string s] w fun e w' => e = .returned (.bool b) ∧ w' = w := by
  have hm := hs
  unfold maxLen at hm
  by_cases h1 : (1 : Int) ≤ (s.size : Int)
  · by_cases h6 : (s.size : Int) ≤ 6
    · rw [nameB_mid h1 h6] at hb
      have HB : Hid ((lets s.data.toList && decide ((s.size : Int) ≤ 12)) = b) := hb
      clear hb
      go_enter Tryz.func51, Tryz.ntmps51
      go_wp2_with fail
      refine (textFits_impl s _ hs).mono ?_
      rintro e w' ⟨rfl, rfl⟩
      rw [HB.out]
      go_wp2
      go_ret
      exact ⟨rfl, rfl⟩
    · rw [nameB_long h6] at hb
      subst hb
      go_enter Tryz.func51, Tryz.ntmps51
      go_wp2
      go_ret
      exact ⟨rfl, rfl⟩
  · rw [nameB_short h1] at hb
    subst hb
    go_enter Tryz.func51, Tryz.ntmps51
    go_wp2
    go_ret
    exact ⟨rfl, rfl⟩

set_option maxHeartbeats 2000000 in
theorem every_names (a : Option Addr) (cap : Nat) (l : List ByteArray) (w : World) (hrow : StrsAt w a l) (hfit : FitS l) (hm : l.length ≤ maxLen) (b : Bool) (hb : l.all nameB = b) :
    Calls Tryz.prog 69 #[.agg #[.slice a l.length cap], .func (.func 51) #[] #[]] w fun e w' => e = .returned (.bool b) ∧ Below w.heap.size w w' := by
  have HR : Hid (StrsAt w a l) := hrow
  have HF : Hid (FitS l) := hfit
  have HB : Hid (l.all nameB = b) := hb
  clear hrow hfit hb
  unfold maxLen at hm
  go_enter Tryz.func69, Tryz.ntmps69
  have hA : Below w.heap.size w (w.alloc (.cells #[.slice a l.length cap] 103)) := (Below.refl _ _).alloc (Nat.le_refl _) _
  go_wp2
  go_loopw [10] (fun kk wr => ∃ k : Nat, k ≤ l.length ∧ kk = .int .i64 k ∧ Hid ((l.take k).all nameB = true) ∧ Below w.heap.size w wr) (fun kk _ => l.length - (intOf kk).toNat)
  case atStart => exact ⟨0, Nat.zero_le _, rfl, rfl, hA⟩
  case round =>
    obtain ⟨k, hk, rfl, hall, hbw⟩ := hrel
    by_cases hlt : k < l.length
    · obtain ⟨g, o, rfl, hgw, c0⟩ := HR.out.below hbw k hlt
      have hi0 : (0 : Int) ≤ (k : Int) := by omega
      have hi1 : (k : Int) < (l.length : Int) := by omega
      have hft := HF.out k hlt
      have HS : Hid ((l.take (k + 1)).all nameB = nameB l[k]) := by
        have : (l.take (k + 1)).all nameB = nameB l[k] := by
          rw [List.take_succ_eq_append_getElem hlt, List.all_append, hall.out, Bool.true_and, List.all_cons, List.all_nil, Bool.and_true]
        exact this
      have hno : Hid (nameB l[k] = false → b = false) := by
        have : nameB l[k] = false → b = false := by
          intro e
          rw [← HB.out, Bool.eq_false_iff]
          intro h
          rw [List.all_eq_true.1 h _ (List.getElem_mem hlt)] at e
          cases e
        exact this
      obtain ⟨r, hr⟩ : ∃ r, nameB l[k] = r := ⟨_, rfl⟩
      generalize l[k] = x at c0 hft HS hr hno
      have HRR : Hid (nameB x = r) := hr
      clear hr
      go_wp2_with fail
      refine (name_impl x _ hft r HRR.out).mono ?_
      rintro e wA ⟨rfl, rfl⟩
      cases r
      · have e := hno.out HRR.out
        subst e
        go_wp2
        go_ret
        exact ⟨rfl, hbw⟩
      · go_wp2
        go_roundw
        case rel => exact ⟨k + 1, by omega, by go_num, by rw [HS.out]; exact HRR.out, hbw⟩
        case measure => simp [intOf]; omega
    · have hkl : k = l.length := by omega
      subst hkl
      have hnn : ¬ (l.length : Int) < (l.length : Int) := by omega
      have e : b = true := by
        rw [← HB.out]
        have := hall.out
        rw [List.take_length] at this
        exact this
      subst e
      go_wp2
      go_ret
      exact ⟨rfl, hbw⟩

set_option maxHeartbeats 1000000 in
theorem index_str (n : Nat) (a : Option Addr) (cap : Nat) (l : List ByteArray) (hn : l.length = n) (s : ByteArray) (w : World) (hrow : StrsAt w a l) (hm : n ≤ maxLen) :
    Calls Tryz.prog 84 #[.slice a n cap, .string s] w fun e w' => ∃ r, e = .returned (.int .i64 r) ∧ AtIs l s r ∧ Below w.heap.size w w' := by
  subst hn
  have HR : Hid (StrsAt w a l) := hrow
  clear hrow
  unfold maxLen at hm
  go_enter Tryz.func84, Tryz.ntmps84
  go_wp2
  go_loopw [8] (fun kk wr => ∃ k : Nat, k ≤ l.length ∧ kk = .int .i64 k ∧ Hid (∀ j (hj : j < l.length), j < k → l[j] ≠ s) ∧ Below w.heap.size w wr) (fun kk _ => l.length - (intOf kk).toNat)
  case atStart => exact ⟨0, Nat.zero_le _, rfl, fun j _ h => by omega, Below.refl _ _⟩
  case round =>
    obtain ⟨k, hk, rfl, hall, hbw⟩ := hrel
    by_cases hlt : k < l.length
    · obtain ⟨g, o, rfl, hgw, c0⟩ := HR.out.below hbw k hlt
      have hi0 : (0 : Int) ≤ (k : Int) := by omega
      have hi1 : (k : Int) < (l.length : Int) := by omega
      by_cases e : l[k] = s
      · have fin : Hid (AtIs l s (k : Int)) := Or.inr ⟨k, hlt, rfl, e, hall.out⟩
        have hq := txt_same e.symm
        clear e
        generalize l[k] = x at c0 hq
        go_wp2
        go_ret
        exact ⟨_, rfl, fin.out, hbw⟩
      · have hall2 : Hid (∀ j (hj : j < l.length), j < k + 1 → l[j] ≠ s) := by
          have : ∀ j (hj : j < l.length), j < k + 1 → l[j] ≠ s := by
            intro j hj hjk
            by_cases ej : j = k
            · subst ej; exact e
            · exact hall.out j hj (by omega)
          exact this
        have hq := txt_other (Ne.symm e)
        clear e
        generalize l[k] = x at c0 hq
        go_wp2
        go_roundw
        case rel => exact ⟨k + 1, by omega, by go_num, hall2, hbw⟩
        case measure => simp [intOf]; omega
    · have fin : Hid (AtIs l s (-1)) := Or.inl ⟨rfl, fun hmem => by
        obtain ⟨j, hj, e⟩ := List.getElem_of_mem hmem
        exact hall.out j hj (by omega) e⟩
      have hkl : k = l.length := by omega
      subst hkl
      have hnn : ¬ (l.length : Int) < (l.length : Int) := by omega
      go_wp2
      go_ret
      exact ⟨_, rfl, fin.out, hbw⟩

theorem contains_str (n : Nat) (a : Option Addr) (cap : Nat) (l : List ByteArray) (hn : l.length = n) (s : ByteArray) (w : World) (hrow : StrsAt w a l) (hm : n ≤ maxLen) (b : Bool) (hb : inB l s = b) :
    Calls Tryz.prog 78 #[.slice a n cap, .string s] w fun e w' => e = .returned (.bool b) ∧ Below w.heap.size w w' := by
  have HI : Hid (Calls Tryz.prog 84 #[.slice a n cap, .string s] w fun e w' => ∃ r, e = .returned (.int .i64 r) ∧ AtIs l s r ∧ Below w.heap.size w w') := index_str n a cap l hn s w hrow hm
  have HB : Hid (inB l s = b) := hb
  clear hrow hn hb
  go_enter Tryz.func78, Tryz.ntmps78
  go_wp2_with fail
  refine HI.out.mono ?_
  rintro e w1 ⟨r, rfl, hat, hb1⟩
  have HAT : Hid (AtIs l s r) := hat
  clear hat HI
  by_cases hr : 0 ≤ r
  · have e : b = true := by rw [← HB.out]; exact inB_iff.2 (HAT.out.neg.1 hr)
    subst e
    go_wp2
    go_ret
    exact ⟨by first | rfl | simp, hb1⟩
  · have e : b = false := by rw [← HB.out]; exact inB_no.2 (fun h => hr (HAT.out.neg.2 h))
    subst e
    go_wp2
    go_ret
    exact ⟨by first | rfl | (simp; done) | (simp; omega), hb1⟩

theorem nodup_snoc (l : List ByteArray) (k : Nat) (h : k < l.length) (h0 : (l.take k).Nodup) : (l.take (k + 1)).Nodup ↔ inB (l.take k) l[k] = false := by
  rw [List.take_succ_eq_append_getElem h, List.nodup_append, inB_no]
  constructor
  · rintro ⟨_, _, h4⟩ hm
    exact h4 _ hm _ (List.mem_singleton.2 rfl) rfl
  · intro hn
    exact ⟨h0, by simp, fun x hx y hy e => hn (by rw [List.mem_singleton] at hy; rw [← hy, ← e]; exact hx)⟩

set_option maxHeartbeats 2000000 in
theorem differ_impl (n : Nat) (a : Option Addr) (cap : Nat) (l : List ByteArray) (hn : l.length = n) (w : World) (hrow : StrsAt w a l) (hm : n ≤ maxLen) (hcap : n ≤ cap) (b : Bool) (hb : decide l.Nodup = b) :
    Calls Tryz.prog 70 #[.slice a n cap] w fun e w' => e = .returned (.bool b) ∧ Below w.heap.size w w' := by
  have HR : Hid (StrsAt w a l) := hrow
  have HB : Hid (decide l.Nodup = b) := hb
  have HN : Hid (l.length = n) := hn
  clear hrow hb hn
  unfold maxLen at hm
  go_enter Tryz.func70, Tryz.ntmps70
  go_wp2
  go_loopw [7] (fun kk wr => ∃ k : Nat, k ≤ n ∧ kk = .int .i64 k ∧ Hid ((l.take k).Nodup) ∧ Below w.heap.size w wr) (fun kk _ => n - (intOf kk).toNat)
  case atStart => exact ⟨0, Nat.zero_le _, rfl, List.nodup_nil, Below.refl _ _⟩
  case round =>
    obtain ⟨k, hk, rfl, hall, hbw⟩ := hrel
    by_cases hlt : k < n
    · have hlt' : k < l.length := by rw [HN.out]; exact hlt
      have HW : Hid (StrsAt wr a l) := HR.out.below hbw
      obtain ⟨g, o, rfl, hgw, c0⟩ := HW.out k hlt'
      have hi0 : (0 : Int) ≤ (k : Int) := by omega
      have hi1 : (k : Int) < (n : Int) := by omega
      have hkc : (k : Int) ≤ (cap : Int) := by omega
      have HS : Hid ((l.take (k + 1)).Nodup ↔ inB (l.take k) l[k] = false) := nodup_snoc l k hlt' hall.out
      have hno : Hid (inB (l.take k) l[k] = true → b = false) := by
        have : inB (l.take k) l[k] = true → b = false := by
          intro e
          rw [← HB.out, decide_eq_false_iff_not]
          intro h
          have := (nodup_snoc l k hlt' hall.out).1 (h.sublist (List.take_sublist _ _))
          rw [this] at e; cases e
        exact this
      have HT : Hid ((l.take k).length = k) := by
        have : (l.take k).length = k := by rw [List.length_take]; omega
        exact this
      obtain ⟨r, hr⟩ : ∃ r, inB (l.take k) l[k] = r := ⟨_, rfl⟩
      generalize l[k] = x at c0 HS hr hno
      have HRR : Hid (inB (l.take k) x = r) := hr
      clear hr
      go_wp2_with fail
      refine (contains_str k _ _ (l.take k) HT.out x _ (HW.out.take k) (by unfold maxLen; omega) r HRR.out).mono ?_
      rintro e wA ⟨rfl, hbA⟩
      cases r
      · go_wp2
        go_roundw
        case rel => exact ⟨k + 1, by omega, by go_num, HS.out.2 HRR.out, chain hbw hbA⟩
        case measure => simp [intOf]; omega
      · have e := hno.out HRR.out
        subst e
        go_wp2
        go_ret
        exact ⟨rfl, chain hbw hbA⟩
    · have hkl : k = n := by omega
      subst hkl
      have hnn : ¬ (k : Int) < (k : Int) := by omega
      have e : b = true := by
        rw [← HB.out, decide_eq_true_eq]
        have := hall.out
        rw [← HN.out, List.take_length] at this
        exact this
      subst e
      go_wp2
      go_ret
      exact ⟨rfl, hbw⟩

set_option maxRecDepth 100000 in
set_option maxHeartbeats 2000000 in
theorem columns_impl (n : Nat) (a : Option Addr) (cap : Nat) (l : List ByteArray) (hn : l.length = n) (w : World) (hrow : StrsAt w a l) (hfit : FitS l) (hm : n ≤ maxLen) (hcap : n ≤ cap) (b : Bool) (hb : namesB l 1 6 = b) :
    Calls Tryz.prog 52 #[.slice a n cap] w fun e w' => e = .returned (.bool b) ∧ Below w.heap.size w w' := by
  have hmm := hm
  unfold maxLen at hmm
  unfold namesB namesD at hb
  rw [hn] at hb
  by_cases h1 : (n : Int) < 1
  · have e : b = false := by rw [← hb, decide_eq_false (by omega : ¬ (1 : Int) ≤ (n : Int)), Bool.false_and, Bool.and_false]
    subst e
    clear hb hrow hfit hn
    go_enter Tryz.func52, Tryz.ntmps52
    go_wp2
    go_ret
    exact ⟨rfl, Below.refl _ _⟩
  by_cases h6 : (6 : Int) < (n : Int)
  · have e : b = false := by rw [← hb, decide_eq_false (by omega : ¬ (n : Int) ≤ 6), Bool.and_false, Bool.and_false]
    subst e
    clear hb hrow hfit hn
    go_enter Tryz.func52, Tryz.ntmps52
    go_wp2
    go_ret
    exact ⟨rfl, Below.refl _ _⟩
  rw [decide_eq_true (by omega : (1 : Int) ≤ (n : Int)), decide_eq_true (by omega : (n : Int) ≤ 6), Bool.and_self, Bool.and_true] at hb
  obtain ⟨q, hq⟩ : ∃ q, l.all nameB = q := ⟨_, rfl⟩
  obtain ⟨d, hd⟩ : ∃ d, decide l.Nodup = d := ⟨_, rfl⟩
  rw [hq, hd] at hb
  have E : Hid (∀ w', Below w.heap.size w w' → Calls Tryz.prog 69 #[.agg #[.slice a n cap], .func (.func 51) #[] #[]] w' fun e w'' => e = .returned (.bool q) ∧ Below w'.heap.size w' w'') := by
    have : ∀ w', Below w.heap.size w w' → Calls Tryz.prog 69 #[.agg #[.slice a n cap], .func (.func 51) #[] #[]] w' fun e w'' => e = .returned (.bool q) ∧ Below w'.heap.size w' w'' := by
      subst hn
      exact fun w' hw => every_names a cap l w' (hrow.below hw) hfit hm q hq
    exact this
  have D : Hid (∀ w', Below w.heap.size w w' → Calls Tryz.prog 70 #[.slice a n cap] w' fun e w'' => e = .returned (.bool d) ∧ Below w'.heap.size w' w'') := by
    have : ∀ w', Below w.heap.size w w' → Calls Tryz.prog 70 #[.slice a n cap] w' fun e w'' => e = .returned (.bool d) ∧ Below w'.heap.size w' w'' :=
      fun w' hw => differ_impl n a cap l hn w' (hrow.below hw) hm hcap d hd
    exact this
  clear hrow hfit hn hq hd
  cases q
  · have e : b = false := by rw [← hb]; rfl
    subst e
    clear hb
    go_enter Tryz.func52, Tryz.ntmps52
    go_wp2_with fail
    refine (E.out _ (Below.refl _ _)).mono ?_
    rintro e w1 ⟨rfl, hb1⟩
    go_wp2
    go_ret
    exact ⟨rfl, hb1⟩
  · have e : d = b := by rw [← hb]; exact (Bool.true_and d).symm
    subst e
    clear hb
    go_enter Tryz.func52, Tryz.ntmps52
    go_wp2_with fail
    refine (E.out _ (Below.refl _ _)).mono ?_
    rintro e w1 ⟨rfl, hb1⟩
    go_wp2_with fail
    refine (D.out _ hb1).mono ?_
    rintro e w2 ⟨rfl, hb2⟩
    go_wp2
    go_ret
    exact ⟨rfl, chain hb1 hb2⟩

end Go.Proofs.YtpggjgilklpncaaGreat

/-
  The contracts of the program's questions whether a row fits, and whether a table is right.
-/
namespace Go.Proofs.YtpggjgilklpncaaGreat
open Go.ChangeShapes Go.WideShapes Go.ChangeAt Go.RowKit
attribute [local go_sem ↓] Go.wp_at_zero Go.wp_at_succ
attribute [local simp] World.cell?_alloc_past World.cell?_alloc_at World.frozen?_alloc_at cell_far cell_off cell_here World.frozen?_alloc_past

set_option maxHeartbeats 2000000 in
theorem every_cells (a : Option Addr) (cap : Nat) (l : List CT) (w : World) (hrow : RowAt w a l) (hfit : Fit l) (hm : l.length ≤ maxLen) (b : Bool) (hb : l.all okC = b) :
    Calls Tryz.prog 71 #[.agg #[.slice a l.length cap], .func (.func 72) #[] #[]] w fun e w' => e = .returned (.bool b) ∧ Below w.heap.size w w' := by
  have HR : Hid (RowAt w a l) := hrow
  have HF : Hid (Fit l) := hfit
  have HB : Hid (l.all okC = b) := hb
  clear hrow hfit hb
  unfold maxLen at hm
  go_enter Tryz.func71, Tryz.ntmps71
  have hA : Below w.heap.size w (w.alloc (.cells #[.slice a l.length cap] 106)) := (Below.refl _ _).alloc (Nat.le_refl _) _
  go_wp2
  go_loopw [10] (fun kk wr => ∃ k : Nat, k ≤ l.length ∧ kk = .int .i64 k ∧ Hid ((l.take k).all okC = true) ∧ Below w.heap.size w wr) (fun kk _ => l.length - (intOf kk).toNat)
  case atStart => exact ⟨0, Nat.zero_le _, rfl, rfl, hA⟩
  case round =>
    obtain ⟨k, hk, rfl, hall, hbw⟩ := hrel
    by_cases hlt : k < l.length
    · obtain ⟨g, o, rfl, hgw, c0, c1, c2⟩ := HR.out.below hbw k hlt
      have hi0 : (0 : Int) ≤ (k : Int) := by omega
      have hi1 : (k : Int) < (l.length : Int) := by omega
      have hft := HF.out k hlt
      have HS : Hid ((l.take (k + 1)).all okC = okC l[k]) := by
        have : (l.take (k + 1)).all okC = okC l[k] := by
          rw [List.take_succ_eq_append_getElem hlt, List.all_append, hall.out, Bool.true_and, List.all_cons, List.all_nil, Bool.and_true]
        exact this
      have hno : Hid (okC l[k] = false → b = false) := by
        have : okC l[k] = false → b = false := by
          intro e
          rw [← HB.out, Bool.eq_false_iff]
          intro h
          rw [List.all_eq_true.1 h _ (List.getElem_mem hlt)] at e
          cases e
        exact this
      obtain ⟨r, hr⟩ : ∃ r, okC l[k] = r := ⟨_, rfl⟩
      generalize l[k] = x at c0 c1 c2 hft HS hr hno
      obtain ⟨x0, x1, x2⟩ := x
      dsimp only at c0 c1 c2 hft
      have HRR : Hid (okC (x0, x1, x2) = r) := hr
      have HRB : Hid (okB x0 x1 x2 = r) := hr
      clear hr
      go_wp2_with fail
      refine (ok_implb x0 x1 x2 r HRB.out _ hft).mono ?_
      rintro e wA ⟨rfl, hbA⟩
      have hxA := chain hbw (chainA hbA)
      clear hbA
      cases r
      · have e := hno.out HRR.out
        subst e
        go_wp2
        go_ret
        exact ⟨rfl, hxA⟩
      · go_wp2
        go_roundw
        case rel => exact ⟨k + 1, by omega, by go_num, by rw [HS.out]; exact HRR.out, hxA⟩
        case measure => simp [intOf]; omega
    · have hkl : k = l.length := by omega
      subst hkl
      have hnn : ¬ (l.length : Int) < (l.length : Int) := by omega
      have e : b = true := by
        rw [← HB.out]
        have := hall.out
        rw [List.take_length] at this
        exact this
      subst e
      go_wp2
      go_ret
      exact ⟨rfl, hbw⟩

theorem rowfits_impl (n : Nat) (a : Option Addr) (cap : Nat) (l : List CT) (hn : l.length = n) (w : World) (hrow : RowAt w a l) (hfit : Fit l) (hm : n ≤ maxLen) (nc : Nat) (b : Bool) (hb : rowOk nc l = b) :
    Calls Tryz.prog 56 #[.slice a n cap, .int .i64 nc] w fun e w' => e = .returned (.bool b) ∧ Below w.heap.size w w' := by
  have hmm := hm
  unfold maxLen at hmm
  unfold rowOk at hb
  rw [hn] at hb
  by_cases he : n = nc
  · rw [decide_eq_true he, Bool.true_and] at hb
    have E : Hid (Calls Tryz.prog 71 #[.agg #[.slice a n cap], .func (.func 72) #[] #[]] w fun e w' => e = .returned (.bool b) ∧ Below w.heap.size w w') := by
      have : Calls Tryz.prog 71 #[.agg #[.slice a n cap], .func (.func 72) #[] #[]] w fun e w' => e = .returned (.bool b) ∧ Below w.heap.size w w' := by
        subst hn; exact every_cells a cap l w hrow hfit hm b hb
      exact this
    subst he
    clear hrow hfit hn hb
    go_enter Tryz.func56, Tryz.ntmps56
    go_wp2_with fail
    refine E.out.mono ?_
    rintro e w1 ⟨rfl, hb1⟩
    go_wp2
    go_ret
    exact ⟨rfl, hb1⟩
  · rw [decide_eq_false he, Bool.false_and] at hb
    subst hb
    have hne : ((n : Int) == (nc : Int)) = false := by rw [beq_eq_false_iff_ne]; omega
    have hne2 : ¬ (n : Int) = (nc : Int) := by omega
    clear hrow hfit hn
    go_enter Tryz.func56, Tryz.ntmps56
    go_wp2
    go_ret
    exact ⟨rfl, Below.refl _ _⟩

set_option maxHeartbeats 2000000 in
theorem every_rows (g : Nat) (hent : ∀ (xs : Array Value) (w : World), (callFunc g xs).run Tryz.prog w = .ok (.enter g xs) w) (ad : Addr) (p : List CT → Bool) (nr : Nat) (a : Option Addr) (cap : Nat) (L : List (List CT)) (hn : L.length = nr) (w : World) (hrow : RowsAt w a L) (hm : nr ≤ maxLen)
    (hg : ∀ k (hk : k < L.length) w' ai ci, Below w.heap.size w w' → RowAt w' ai L[k] → Calls Tryz.prog g #[.slice ai L[k].length ci, .pointer (some ad)] w' fun e w'' => e = .returned (.bool (p L[k])) ∧ Below w'.heap.size w' w'') (b : Bool) (hb : L.all p = b) :
    Calls Tryz.prog 54 #[.agg #[.slice a nr cap], .func (.func g) #[] #[.pointer (some ad)]] w fun e w' => e = .returned (.bool b) ∧ Below w.heap.size w w' := by
  have HR : Hid (RowsAt w a L) := hrow
  have HG : Hid (∀ k (hk : k < L.length) w' ai ci, Below w.heap.size w w' → RowAt w' ai L[k] → Calls Tryz.prog g #[.slice ai L[k].length ci, .pointer (some ad)] w' fun e w'' => e = .returned (.bool (p L[k])) ∧ Below w'.heap.size w' w'') := hg
  have HB : Hid (L.all p = b) := hb
  have HN : Hid (L.length = nr) := hn
  clear hrow hb hg hn
  unfold maxLen at hm
  go_enter Tryz.func54, Tryz.ntmps54
  have hA : Below w.heap.size w (w.alloc (.cells #[.slice a nr cap] 83)) := (Below.refl _ _).alloc (Nat.le_refl _) _
  go_wp2
  go_loopw [10] (fun kk wr => ∃ k : Nat, k ≤ nr ∧ kk = .int .i64 k ∧ Hid ((L.take k).all p = true) ∧ Below w.heap.size w wr) (fun kk _ => nr - (intOf kk).toNat)
  case atStart => exact ⟨0, Nat.zero_le _, rfl, rfl, hA⟩
  case round =>
    obtain ⟨k, hk, rfl, hall, hbw⟩ := hrel
    by_cases hlt : k < nr
    · have hlt' : k < L.length := by rw [HN.out]; exact hlt
      obtain ⟨g1, o, ai, ci, rfl, hgw, c0, hrow, hfit, hlen, _⟩ := HR.out.below hbw k hlt'
      have hi0 : (0 : Int) ≤ (k : Int) := by omega
      have hi1 : (k : Int) < (nr : Int) := by omega
      have HS : Hid ((L.take (k + 1)).all p = p L[k]) := by
        have : (L.take (k + 1)).all p = p L[k] := by
          rw [List.take_succ_eq_append_getElem hlt', List.all_append, hall.out, Bool.true_and, List.all_cons, List.all_nil, Bool.and_true]
        exact this
      have hno : Hid (p L[k] = false → b = false) := by
        have : p L[k] = false → b = false := by
          intro e
          rw [← HB.out, Bool.eq_false_iff]
          intro h
          rw [List.all_eq_true.1 h _ (List.getElem_mem hlt')] at e
          cases e
        exact this
      have HC : Hid (Calls Tryz.prog g #[.slice ai L[k].length ci, .pointer (some ad)] wr fun e w'' => e = .returned (.bool (p L[k])) ∧ Below wr.heap.size wr w'') := HG.out k hlt' wr ai ci hbw hrow
      clear hrow hfit
      obtain ⟨r, hr⟩ : ∃ r, p L[k] = r := ⟨_, rfl⟩
      rw [hr] at HS hno HC
      clear hr
      obtain ⟨n, hnn⟩ : ∃ n, L[k].length = n := ⟨_, rfl⟩
      rw [hnn] at c0 hlen HC
      clear hnn
      go_wp2_with fail
      refine HC.out.mono ?_
      rintro e wA ⟨rfl, hbA⟩
      have hxA := chain hbw hbA
      clear hbA HC
      cases r
      · have e := hno.out (by trivial)
        subst e
        go_wp2
        go_ret
        exact ⟨rfl, hxA⟩
      · go_wp2
        go_roundw
        case rel => exact ⟨k + 1, by omega, by go_num, HS, hxA⟩
        case measure => simp [intOf]; omega
    · have hkl : k = nr := by omega
      subst hkl
      have hnn : ¬ (k : Int) < (k : Int) := by omega
      have e : b = true := by
        rw [← HB.out]
        have := hall.out
        rw [← HN.out, List.take_length] at this
        exact this
      subst e
      go_wp2
      go_ret
      exact ⟨rfl, hbw⟩

theorem ent_tab1 : ∀ (xs : Array Value) (w : World), (callFunc 55 xs).run Tryz.prog w = .ok (.enter 55 xs) w := fun xs w => by kernel_rfl

theorem tab1_impl (n : Nat) (ai : Option Addr) (ci : Nat) (l : List CT) (hn : l.length = n) (w : World) (hrow : RowAt w ai l) (hfit : Fit l) (hm : n ≤ maxLen) (B : Nat) (ca : Option Addr) (nc cc : Nat) (hB : w.cell? ⟨B, 1, none⟩ = some (.slice ca nc cc)) (b : Bool) (hb : rowOk nc l = b) :
    Calls Tryz.prog 55 #[.slice ai n ci, .pointer (some ⟨B, 0, none⟩)] w fun e w' => e = .returned (.bool b) ∧ Below w.heap.size w w' := by
  have E : Hid (Calls Tryz.prog 56 #[.slice ai n ci, .int .i64 nc] w fun e w' => e = .returned (.bool b) ∧ Below w.heap.size w w') := rowfits_impl n ai ci l hn w hrow hfit hm nc b hb
  clear hrow hfit hn hb
  go_enter Tryz.func55, Tryz.ntmps55
  go_wp2_with fail
  refine E.out.mono ?_
  rintro e w1 ⟨rfl, hb1⟩
  go_wp2
  go_ret
  exact ⟨rfl, hb1⟩

theorem rowsof_impl (nm : ByteArray) (ca : Option Addr) (nc cc : Nat) (ra : Option Addr) (nr cr : Nat) (w : World) :
    Calls Tryz.prog 53 #[.agg #[.string nm, .slice ca nc cc, .slice ra nr cr]] w fun e w' => e = .returned (.agg #[.slice ra nr cr]) ∧ Below w.heap.size w w' := by
  go_enter Tryz.func53, Tryz.ntmps53
  go_wp2
  exact bodyPost_ret (v := .agg #[.slice ra nr cr]) (by simp [results, Tryz.results53, go_sem]) rfl ⟨rfl, ((Below.refl _ _).alloc (Nat.le_refl _) _).alloc (by simp) _⟩

set_option maxRecDepth 100000 in
set_option maxHeartbeats 4000000 in
theorem table_impl (ca : Option Addr) (cc : Nat) (ra : Option Addr) (cr : Nat) (t : TB) (nc nr : Nat) (hnc : t.2.1.length = nc) (hnr : t.2.2.length = nr) (w : World) (ht : TabAt w ca cc ra t) (b : Bool) (hb : tableB t = b) :
    Calls Tryz.prog 34 #[.agg #[.string t.1, .slice ca nc cc, .slice ra nr cr]] w fun e w' => e = .returned (.bool b) ∧ Below w.heap.size w w' := by
  obtain ⟨nm, C, L⟩ := t
  dsimp only at hnc hnr ⊢
  have HT : Hid (TabAt w ca cc ra (nm, C, L)) := ht
  have HNC : Hid (C.length = nc) := hnc
  have HNR : Hid (L.length = nr) := hnr
  have hncM : nc ≤ maxLen := by rw [← hnc]; exact ht.len
  have hnrM : nr ≤ maxLen := by rw [← hnr]; exact ht.lenR
  have hcap : nc ≤ cc := by rw [← hnc]; exact ht.cap
  have hnm : nm.size ≤ maxLen := ht.name
  obtain ⟨b1, h1⟩ : ∃ x, nameB nm = x := ⟨_, rfl⟩
  obtain ⟨b2, h2⟩ : ∃ x, namesB C 1 6 = x := ⟨_, rfl⟩
  have HB1 : Hid (nameB nm = b1) := h1
  have HB2 : Hid (namesB C 1 6 = b2) := h2
  have hb' : ((b1 && (b2 && decide (nr ≤ 60))) && L.all (rowOk nc)) = b := by rw [← hb, ← h1, ← h2, ← hnc, ← hnr]; rfl
  clear ht hb h1 h2 hnc hnr
  have hm1 := hncM
  have hm2 := hnrM
  unfold maxLen at hm1 hm2
  have HTA : Hid (TabAt (w.alloc (.cells #[.string nm, .slice ca nc cc, .slice ra nr cr] 40)) ca cc ra (nm, C, L)) := HT.out.below ((Below.refl _ _).alloc (Nat.le_refl _) _)
  cases b1
  · rw [Bool.false_and, Bool.false_and] at hb'
    subst hb'
    go_enter Tryz.func34, Tryz.ntmps34
    go_wp2_with fail
    refine (name_impl nm _ hnm false HB1.out).mono ?_
    rintro e w' ⟨rfl, rfl⟩
    go_wp2
    go_ret
    exact ⟨rfl, (Below.refl _ _).alloc (Nat.le_refl _) _⟩
  rw [Bool.true_and] at hb'
  go_enter Tryz.func34, Tryz.ntmps34
  go_wp2_with fail
  refine (name_impl nm _ hnm true HB1.out).mono ?_
  rintro e w' ⟨rfl, rfl⟩
  go_wp2_with fail
  refine (columns_impl nc ca cc C HNC.out _ HTA.out.cols HTA.out.fit hncM hcap b2 HB2.out).mono ?_
  rintro e w1 ⟨rfl, hbx⟩
  obtain ⟨p0, p1, p2, p3⟩ := box3 hbx
  have hx1 : Below w.heap.size w w1 := chainA hbx
  have H1 : Hid (TabAt w1 ca cc ra (nm, C, L)) := HTA.out.below hbx
  clear hbx HTA HT
  cases b2
  · rw [Bool.false_and, Bool.false_and] at hb'
    subst hb'
    go_wp2
    go_ret
    exact ⟨rfl, hx1⟩
  rw [Bool.true_and] at hb'
  by_cases h60 : (60 : Int) < (nr : Int)
  · rw [decide_eq_false (by omega), Bool.false_and] at hb'
    subst hb'
    go_wp2
    go_ret
    exact ⟨rfl, hx1⟩
  rw [decide_eq_true (by omega), Bool.true_and] at hb'
  have HB : Hid (L.all (rowOk nc) = b) := hb'
  clear hb'
  have E : Hid (∀ w', Below w1.heap.size w1 w' → Calls Tryz.prog 54 #[.agg #[.slice ra nr cr], .func (.func 55) #[] #[.pointer (some ⟨w.heap.size, 0, none⟩)]] w' fun e w'' => e = .returned (.bool b) ∧ Below w'.heap.size w' w'') := by
    have : ∀ w', Below w1.heap.size w1 w' → Calls Tryz.prog 54 #[.agg #[.slice ra nr cr], .func (.func 55) #[] #[.pointer (some ⟨w.heap.size, 0, none⟩)]] w' fun e w'' => e = .returned (.bool b) ∧ Below w'.heap.size w' w'' := by
      intro w' hw
      refine every_rows 55 ent_tab1 ⟨w.heap.size, 0, none⟩ (rowOk nc) nr ra cr L HNR.out w' (H1.out.rows.below hw) hnrM ?_ b HB.out
      intro k hk w2 ai ci hw2 hra
      obtain ⟨_, _, _, _, _, _, _, _, hfit, hlen, _⟩ := H1.out.rows k hk
      exact tab1_impl _ ai ci L[k] rfl w2 hra hfit hlen w.heap.size ca nc cc (by rw [(chain hw hw2).cell (p := ⟨w.heap.size, 1, none⟩) p3]; exact p1) _ rfl
    exact this
  go_wp2_with fail
  refine (rowsof_impl _ _ _ _ _ _ _ _).mono ?_
  rintro e w2 ⟨rfl, hb2⟩
  go_wp2_with fail
  refine (E.out _ hb2).mono ?_
  rintro e w3 ⟨rfl, hb3⟩
  go_wp2
  go_ret
  exact ⟨rfl, chain hx1 (chain hb2 hb3)⟩

end Go.Proofs.YtpggjgilklpncaaGreat

/-
  The contract of the program's question whether all tables of a list are right.
-/
namespace Go.Proofs.YtpggjgilklpncaaGreat
open Go.ChangeShapes Go.WideShapes Go.ChangeAt Go.RowKit
attribute [local go_sem ↓] Go.wp_at_zero Go.wp_at_succ
attribute [local simp] World.cell?_alloc_past World.cell?_alloc_at World.frozen?_alloc_at cell_far cell_off cell_here World.frozen?_alloc_past

set_option maxHeartbeats 2000000 in
theorem every_tables (a : Option Addr) (cap : Nat) (T : List TB) (n : Nat) (hn : T.length = n) (w : World) (hrow : TabsAt w a T) (hm : n ≤ maxLen) (b : Bool) (hb : T.all tableB = b) :
    Calls Tryz.prog 48 #[.agg #[.slice a n cap], .func (.func 34) #[] #[]] w fun e w' => e = .returned (.bool b) ∧ Below w.heap.size w w' := by
  have HR : Hid (TabsAt w a T) := hrow
  have HN : Hid (T.length = n) := hn
  have HB : Hid (T.all tableB = b) := hb
  clear hrow hn hb
  unfold maxLen at hm
  go_enter Tryz.func48, Tryz.ntmps48
  have hA : Below w.heap.size w (w.alloc (.cells #[.slice a n cap] 74)) := (Below.refl _ _).alloc (Nat.le_refl _) _
  go_wp2
  go_loopw [10] (fun kk wr => ∃ k : Nat, k ≤ n ∧ kk = .int .i64 k ∧ Hid ((T.take k).all tableB = true) ∧ Below w.heap.size w wr) (fun kk _ => n - (intOf kk).toNat)
  case atStart => exact ⟨0, Nat.zero_le _, rfl, rfl, hA⟩
  case round =>
    obtain ⟨k, hk, rfl, hall, hbw⟩ := hrel
    by_cases hlt : k < n
    · have hlt' : Hid (k < T.length) := by have := HN.out; exact show k < T.length by omega
      obtain ⟨g, o, ca, cc, ra, cr, rfl, hgw, c0, c1, c2, hta⟩ := HR.out.below hbw k hlt'.out
      have hi0 : (0 : Int) ≤ (k : Int) := by omega
      have hi1 : (k : Int) < (n : Int) := by omega
      have HTA : Hid (TabAt wr ca cc ra (T[k]'hlt'.out)) := hta
      have HS : Hid ((T.take (k + 1)).all tableB = tableB (T[k]'hlt'.out)) := by
        have : (T.take (k + 1)).all tableB = tableB (T[k]'hlt'.out) := by
          rw [List.take_succ_eq_append_getElem hlt'.out, List.all_append, hall.out, Bool.true_and, List.all_cons, List.all_nil, Bool.and_true]
        exact this
      have hno : Hid (tableB (T[k]'hlt'.out) = false → b = false) := by
        have : tableB (T[k]'hlt'.out) = false → b = false := by
          intro e
          rw [← HB.out, Bool.eq_false_iff]
          intro h
          rw [List.all_eq_true.1 h _ (List.getElem_mem hlt'.out)] at e
          cases e
        exact this
      clear hta
      obtain ⟨r, hr⟩ : ∃ r, tableB (T[k]'hlt'.out) = r := ⟨_, rfl⟩
      generalize (T[k]'hlt'.out) = t at c0 c1 c2 HTA HS hr hno
      have HRR : Hid (tableB t = r) := hr
      obtain ⟨nc, hnc⟩ : ∃ m, t.2.1.length = m := ⟨_, rfl⟩
      obtain ⟨nr, hnr⟩ : ∃ m, t.2.2.length = m := ⟨_, rfl⟩
      rw [hnc] at c1
      rw [hnr] at c2
      have HNC : Hid (t.2.1.length = nc) := hnc
      have HNR : Hid (t.2.2.length = nr) := hnr
      clear hnc hnr hr
      obtain ⟨nm, hnm⟩ : ∃ s, t.1 = s := ⟨_, rfl⟩
      rw [hnm] at c0
      have HNM : Hid (t.1 = nm) := hnm
      clear hnm
      go_wp2_with fail
      rw [← HNM.out]
      refine (table_impl ca cc ra cr t nc nr HNC.out HNR.out _ (HTA.out.below ((Below.refl _ _).alloc (Nat.le_refl _) _)) r HRR.out).mono ?_
      rintro e wA ⟨rfl, hbA⟩
      have hxA := chain hbw (chainA hbA)
      clear hbA
      cases r
      · have e := hno.out HRR.out
        subst e
        go_wp2
        go_ret
        exact ⟨rfl, hxA⟩
      · go_wp2
        go_roundw
        case rel => exact ⟨k + 1, by omega, by go_num, by rw [HS.out]; exact HRR.out, hxA⟩
        case measure => simp [intOf]; omega
    · have hkl : k = n := by omega
      subst hkl
      have hnn : ¬ (k : Int) < (k : Int) := by omega
      have e : b = true := by
        rw [← HB.out]
        have := hall.out
        rw [← HN.out, List.take_length] at this
        exact this
      subst e
      go_wp2
      go_ret
      exact ⟨rfl, hbw⟩

end Go.Proofs.YtpggjgilklpncaaGreat

/-
  The contracts of the model's SameAs and Below.
-/
namespace Go.Proofs.YtpggjgilklpncaaGreat
open Go.ChangeShapes Go.WideShapes Go.ChangeAt Go.RowKit
attribute [local go_sem ↓] Go.wp_at_zero Go.wp_at_succ

end Go.Proofs.YtpggjgilklpncaaGreat
