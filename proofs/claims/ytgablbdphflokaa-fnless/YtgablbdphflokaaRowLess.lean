/-
  The contracts of the order of rows, of the program and of its model.
-/
import Derived.Test.YtgablbdphflokaaCmp2
import Derived.Test.YtgablbdphflokaaLists1
namespace Go.Proofs.Ytgablbdphflokaa
open Go.ChangeShapes Go.WideShapes Go.ChangeAt Go.RowKit
attribute [local go_sem ↓] Go.wp_at_zero Go.wp_at_succ

/-- Rows held against each other: below 0, 0, or above. -/
def rowCmp : List CT → List CT → Int
  | [], [] => 0
  | [], _ :: _ => -1
  | _ :: _, [] => 1
  | x :: l, y :: m => if cmpC x.1 x.2.1 x.2.2 y.1 y.2.1 y.2.2 ≠ 0 then cmpC x.1 x.2.1 x.2.2 y.1 y.2.1 y.2.2 else rowCmp l m
theorem rowCmp_nil_right (x : CT) (l : List CT) : rowCmp (x :: l) [] = 1 := rfl
theorem rowCmp_nil (m : List CT) : rowCmp [] m = if 0 < m.length then -1 else 0 := by cases m <;> rfl
theorem rowCmp_neg (l m : List CT) : rowCmp m l = - rowCmp l m := by
  induction l generalizing m with
  | nil => cases m <;> rfl
  | cons x l ih =>
    cases m with
    | nil => rfl
    | cons y m =>
      simp only [rowCmp]
      rw [cmpC_neg x.1 x.2.1 x.2.2 y.1 y.2.1 y.2.2, ih m]
      by_cases h : cmpC x.1 x.2.1 x.2.2 y.1 y.2.1 y.2.2 = 0
      · simp [h]
      · simp [h]
theorem rowCmp_self (l : List CT) : rowCmp l l = 0 := by
  have := rowCmp_neg l l; omega

theorem ent_cmp : ∀ (xs : Array Value) (w : World), (callFunc 78 xs).run Try.prog w = .ok (.enter 78 xs) w := fun xs w => by kernel_rfl

set_option maxHeartbeats 2000000 in
theorem compare_func (a b : Option Addr) (ca cb : Nat) (l m : List CT) (w : World) (hl : RowAt w a l) (hm : RowAt w b m) (hll : l.length ≤ maxLen) :
    Calls Try.prog 79 #[.slice a l.length ca, .slice b m.length cb, .func (.func 78) #[] #[]] w fun e w' => e = .returned (.int .i64 (rowCmp l m)) ∧ Below w.heap.size w w' := by
  have hent := ent_cmp
  have hA : Hid (RowAt w a l) := hl
  have hB : Hid (RowAt w b m) := hm
  clear hl hm
  unfold maxLen at hll
  go_enter Try.func79, Try.ntmps79
  go_wp2
  go_loopw [13] (fun i wr => ∃ k : Nat, k ≤ l.length ∧ k ≤ m.length ∧ i = .int .i64 k ∧ rowCmp l m = rowCmp (l.drop k) (m.drop k) ∧ Below w.heap.size w wr) (fun i _ => l.length - (intOf i).toNat)
  case atStart => exact ⟨0, Nat.zero_le _, Nat.zero_le _, rfl, rfl, Below.refl _ _⟩
  case round =>
    obtain ⟨k, hk, hkm, rfl, hor, hx⟩ := hrel
    by_cases hlt : k < l.length
    · obtain ⟨b1, o1, rfl, hbw, c0, c1, c2⟩ := hA.out.below hx k hlt
      have hi0 : (0 : Int) ≤ (k : Int) := by omega
      have hi1 : (k : Int) < (l.length : Int) := by omega
      have hxs := hx.size
      rw [List.drop_eq_getElem_cons hlt] at hor
      generalize l[k] = x at c0 c1 c2 hor
      by_cases hltm : k < m.length
      · obtain ⟨b2, o2, rfl, hbw2, d0, d1, d2⟩ := hB.out.below hx k hltm
        have hi2 : (k : Int) < (m.length : Int) := by omega
        rw [List.drop_eq_getElem_cons hltm] at hor
        generalize m[k] = y at d0 d1 d2 hor
        obtain ⟨c, hc⟩ : ∃ c, cmpC x.1 x.2.1 x.2.2 y.1 y.2.1 y.2.2 = c := ⟨_, rfl⟩
        simp only [rowCmp, hc] at hor
        go_wp2_with fail
        refine (compare_cellsb _ _ _ _ _ _ c hc _).mono ?_
        rintro e w1 ⟨rfl, hb1⟩
        have hx1 := chain hx (chainAA hb1)
        by_cases hz : c = 0
        · subst hz
          rw [if_neg (by simp)] at hor
          go_wp2
          go_roundw
          case rel => exact ⟨k + 1, by omega, by omega, by go_num, hor, hx1⟩
          case measure => simp [intOf]; omega
        · rw [if_pos hz] at hor
          go_wp2
          go_ret
          exact ⟨ret_int (by first | exact hor.symm | rfl), hx1⟩
      · have hi2 : ¬ (k : Int) < (m.length : Int) := by omega
        rw [List.drop_of_length_le (show m.length ≤ k by omega), rowCmp_nil_right] at hor
        go_wp2
        go_ret
        exact ⟨ret_int (by first | exact hor.symm | rfl), by go_grown⟩
    · have hkl : k = l.length := by omega
      subst hkl
      rw [List.drop_of_length_le (Nat.le_refl _), rowCmp_nil, List.length_drop] at hor
      by_cases hltm : l.length < m.length
      · rw [if_pos (by omega)] at hor
        have hi2 : (l.length : Int) < (m.length : Int) := by omega
        go_wp2
        go_ret
        exact ⟨ret_int (by first | exact hor.symm | rfl), hx⟩
      · rw [if_neg (by omega)] at hor
        have hi2 : ¬ (l.length : Int) < (m.length : Int) := by omega
        go_wp2
        go_ret
        exact ⟨ret_int (by first | exact hor.symm | rfl), hx⟩

set_option maxHeartbeats 1000000 in
theorem rless_impl (a b : Option Addr) (ca cb : Nat) (l m : List CT) (w : World) (hl : RowAt w a l) (hm : RowAt w b m) (hll : l.length ≤ maxLen) :
    Calls Try.prog 39 #[.slice a l.length ca, .slice b m.length cb] w fun e w' => e = .returned (.bool (decide (rowCmp l m < 0))) ∧ Below w.heap.size w w' := by
  have H : Hid (∀ w', Below w.heap.size w w' → Calls Try.prog 79 #[.slice a l.length ca, .slice b m.length cb, .func (.func 78) #[] #[]] w' fun e w'' => e = .returned (.int .i64 (rowCmp l m)) ∧ Below w'.heap.size w' w'') := fun w' hb => compare_func a b ca cb l m w' (hl.below hb) (hm.below hb) hll
  clear hl hm hll
  generalize rowCmp l m = c at H ⊢
  go_enter Try.func39, Try.ntmps39
  go_wp2_with fail
  refine (H.out _ (Below.refl _ _)).mono ?_
  rintro e w1 ⟨rfl, hb1⟩
  go_wp2
  go_ret
  exact ⟨rfl, hb1⟩

set_option maxHeartbeats 2000000 in
theorem rless_spec (a b : Option Addr) (ca cb : Nat) (l m : List CT) (w : World) (hl : RowAt w a l) (hm : RowAt w b m) (hll : l.length ≤ maxLen) :
    Calls Try.prog 40 #[.slice a l.length ca, .slice b m.length cb] w fun e w' => e = .returned (.bool (decide (rowCmp l m < 0))) ∧ Below w.heap.size w w' := by
  have hA : Hid (RowAt w a l) := hl
  have hB : Hid (RowAt w b m) := hm
  clear hl hm
  unfold maxLen at hll
  go_enter Try.func40, Try.ntmps40
  go_wp2
  go_loopw [5] (fun i wr => ∃ k : Nat, k ≤ l.length ∧ k ≤ m.length ∧ i = .int .i64 k ∧ rowCmp l m = rowCmp (l.drop k) (m.drop k) ∧ Below w.heap.size w wr) (fun i _ => l.length - (intOf i).toNat)
  case atStart => exact ⟨0, Nat.zero_le _, Nat.zero_le _, rfl, rfl, Below.refl _ _⟩
  case round =>
    obtain ⟨k, hk, hkm, rfl, hor, hx⟩ := hrel
    by_cases hlt : k < l.length
    · obtain ⟨b1, o1, rfl, hbw, c0, c1, c2⟩ := hA.out.below hx k hlt
      have hi0 : (0 : Int) ≤ (k : Int) := by omega
      have hi1 : (k : Int) < (l.length : Int) := by omega
      rw [List.drop_eq_getElem_cons hlt] at hor
      generalize l[k] = x at c0 c1 c2 hor
      by_cases hltm : k < m.length
      · obtain ⟨b2, o2, rfl, hbw2, d0, d1, d2⟩ := hB.out.below hx k hltm
        have hi2 : (k : Int) < (m.length : Int) := by omega
        rw [List.drop_eq_getElem_cons hltm] at hor
        generalize m[k] = y at d0 d1 d2 hor
        obtain ⟨x0, x1, x2⟩ := x
        obtain ⟨y0, y1, y2⟩ := y
        dsimp only at c0 c1 c2 d0 d1 d2 hor
        obtain ⟨same, hs⟩ : ∃ s, sameB x0 x1 x2 y0 y1 y2 = s := ⟨_, rfl⟩
        have hq : ∀ w, (binOp .neq 25 (.agg #[.int .i64 x0, .int .i64 x1, .string x2]) (.agg #[.int .i64 y0, .int .i64 y1, .string y2])).run Try.prog w = .ok (.bool !same) w := fun w => by rw [run_neq, hs]
        have hz : cmpC x0 x1 x2 y0 y1 y2 = 0 ↔ same = true := by rw [cmpC_zero, ← hs, sameB_eq]
        cases same
        · rw [show rowCmp ((x0, x1, x2) :: l.drop (k + 1)) ((y0, y1, y2) :: m.drop (k + 1)) = cmpC x0 x1 x2 y0 y1 y2 from if_pos (by rw [Ne, hz]; simp)] at hor
          have hle : decide (rowCmp l m < 0) = lessB x0 x1 x2 y0 y1 y2 := by rw [hor, less_cmp]
          obtain ⟨le, hl⟩ : ∃ c, lessB x0 x1 x2 y0 y1 y2 = c := ⟨_, rfl⟩
          go_wp2_with fail
          go_quiet (fail)
          go_wp2_with fail
          refine wp_region_held_drew (S := (fun w' => w'.cell? ⟨b1, o1 + k * 3, none⟩ = some (.int .i64 x0) ∧ w'.cell? ⟨b1, o1 + k * 3 + 1, none⟩ = some (.int .i64 x1) ∧ w'.cell? ⟨b1, o1 + k * 3 + 2, none⟩ = some (.string x2) ∧ w'.cell? ⟨b2, o2 + k * 3, none⟩ = some (.int .i64 y0) ∧ w'.cell? ⟨b2, o2 + k * 3 + 1, none⟩ = some (.int .i64 y1) ∧ w'.cell? ⟨b2, o2 + k * 3 + 2, none⟩ = some (.string y2))) (by kernel_rfl) ?_ (fun hHeld => ?_)
          · (((try dsimp only); (repeat' apply And.intro) <;> first | (go_keep; done) | (simp (disch := first | omega | (simp <;> omega) | fail) [*]; done) | fail))
          refine wpAnyH_take (i := 0) (by simp only [List.getElem?_toArray, List.getElem?_cons_zero]; rfl) (by kernel_rfl) (by kernel_rfl) (by kernel_rfl) (by intro _ _ _ h; exact h) (Or.inl ⟨by rfl, fun w hSw => by (dsimp only at hSw; go_simp; (try with_reducible rfl))⟩) (by assumption) ?_
          simp only [Act.put, List.setIfInBounds_toArray, List.set_cons_zero, List.set_cons_succ]
          refine wpAnyH_take (i := 1) (by simp only [List.getElem?_toArray, List.getElem?_cons_zero, List.getElem?_cons_succ]; rfl) (by kernel_rfl) (by kernel_rfl) (by kernel_rfl) (by intro _ _ _ h; exact h) (Or.inl ⟨by rfl, fun w hSw => by (dsimp only at hSw; go_simp; (try with_reducible rfl))⟩) (by assumption) ?_
          simp only [Act.put, List.setIfInBounds_toArray, List.set_cons_zero, List.set_cons_succ]
          refine wpAnyH_take (i := 2) (by simp only [List.getElem?_toArray, List.getElem?_cons_zero, List.getElem?_cons_succ]; rfl) (by kernel_rfl) (by kernel_rfl) (by kernel_rfl) (by intro _ _ _ h; exact h) (Or.inl ⟨by rfl, fun w hSw => by (dsimp only at hSw; go_simp; (try with_reducible rfl))⟩) (by assumption) ?_
          simp only [Act.put, List.setIfInBounds_toArray, List.set_cons_zero, List.set_cons_succ]
          refine wpAnyH_take (i := 3) (by simp only [List.getElem?_toArray, List.getElem?_cons_zero, List.getElem?_cons_succ]; rfl) (by kernel_rfl) (by kernel_rfl) (by kernel_rfl) (by intro _ _ _ h; exact h) (Or.inl ⟨by rfl, fun w hSw => by (dsimp only at hSw; go_simp; (try with_reducible rfl))⟩) (by assumption) ?_
          simp only [Act.put, List.setIfInBounds_toArray, List.set_cons_zero, List.set_cons_succ]
          refine wpAnyH_take (i := 4) (by simp only [List.getElem?_toArray, List.getElem?_cons_zero, List.getElem?_cons_succ]; rfl) (by kernel_rfl) (by kernel_rfl) (by kernel_rfl) (by intro _ _ _ h; exact h) (Or.inl ⟨by rfl, fun w hSw => by (dsimp only at hSw; go_simp; (try with_reducible rfl))⟩) (by assumption) ?_
          simp only [Act.put, List.setIfInBounds_toArray, List.set_cons_zero, List.set_cons_succ]
          refine wpAnyH_take (i := 5) (by simp only [List.getElem?_toArray, List.getElem?_cons_zero, List.getElem?_cons_succ]; rfl) (by kernel_rfl) (by kernel_rfl) (by kernel_rfl) (by intro _ _ _ h; exact h) (Or.inl ⟨by rfl, fun w hSw => by (dsimp only at hSw; go_simp; (try with_reducible rfl))⟩) (by assumption) ?_
          simp only [Act.put, List.setIfInBounds_toArray, List.set_cons_zero, List.set_cons_succ]
          refine wpAnyH_take (i := 6) (by simp only [List.getElem?_toArray, List.getElem?_cons_zero, List.getElem?_cons_succ]; rfl) (by kernel_rfl) (by kernel_rfl) (by kernel_rfl) (by intro _ _ _ h; exact h) (Or.inl ⟨by rfl, fun w hSw => by (dsimp only at hSw; go_simp; (try with_reducible rfl))⟩) (by assumption) ?_
          simp only [Act.put, List.setIfInBounds_toArray, List.set_cons_zero, List.set_cons_succ]
          refine wpAnyH_take (i := 7) (by simp only [List.getElem?_toArray, List.getElem?_cons_zero, List.getElem?_cons_succ]; rfl) (by kernel_rfl) (by kernel_rfl) (by kernel_rfl) (by intro _ _ _ h; exact h) (Or.inl ⟨by rfl, fun w hSw => by (dsimp only at hSw; go_simp; (try with_reducible rfl))⟩) (by assumption) ?_
          simp only [Act.put, List.setIfInBounds_toArray, List.set_cons_zero, List.set_cons_succ]
          refine wpAnyH_ready (rs := [8]) (by kernel_rfl) (by simp) ?_
          refine AllReadyH.cons (by simp only [List.getElem?_toArray, List.getElem?_cons_zero, List.getElem?_cons_succ]; rfl) ?_ AllReadyH.nil
          intro K hK
          go_simp
          refine (cless_specb _ _ _ _ _ _ le hl _).mono ?_
          rintro e w1 ⟨rfl, hb1⟩
          obtain ⟨hcA, hfA⟩ := bcell hb1
          go_wp2_with fail
          refine hK.out _ _ ?_ (fun hHeld => ?_)
          · (((try dsimp only); (repeat' apply And.intro) <;> first | (go_keep; done) | (simp (disch := first | omega | (simp <;> omega) | fail) [*]; done) | fail))
          clear hK K
          try simp only [Act.put, List.setIfInBounds_toArray, List.set_cons_zero, List.set_cons_succ]
          refine wpAnyH_take (i := 9) (by simp only [List.getElem?_toArray, List.getElem?_cons_zero, List.getElem?_cons_succ]; rfl) (by kernel_rfl) (by kernel_rfl) (by kernel_rfl) (by intro _ _ _ h; exact h) (Or.inl ⟨by rfl, fun w hSw => by (dsimp only at hSw; go_simp; (try with_reducible rfl))⟩) (by assumption) ?_
          simp only [Act.put, List.setIfInBounds_toArray, List.set_cons_zero, List.set_cons_succ]
          refine wpAnyH_done (by kernel_rfl) ?_ _
          go_wp2_with fail
          go_ret
          exact ⟨ret_bool (by rw [hle, hl]), chain (belowN hx _) hb1⟩
        · rw [show rowCmp ((x0, x1, x2) :: l.drop (k + 1)) ((y0, y1, y2) :: m.drop (k + 1)) = rowCmp (l.drop (k + 1)) (m.drop (k + 1)) from if_neg (by rw [Decidable.not_not, hz])] at hor
          go_wp2_with fail
          go_quiet (fail)
          go_wp2
          go_roundw
          case rel => exact ⟨k + 1, by omega, by omega, by go_num, hor, belowN hx _⟩
          case measure => simp [intOf]; omega
      · have hi2 : ¬ (k : Int) < (m.length : Int) := by omega
        rw [List.drop_of_length_le (show m.length ≤ k by omega), rowCmp_nil_right] at hor
        have hO : Hid (rowCmp l m = 1) := hor
        clear hor
        have hi3 : ¬ (l.length : Int) < (m.length : Int) := by omega
        go_wp2
        go_ret
        exact ⟨ret_bool (by rw [hO.out]; rfl), hx⟩
    · have hkl : k = l.length := by omega
      subst hkl
      rw [List.drop_of_length_le (Nat.le_refl _), rowCmp_nil, List.length_drop] at hor
      have hO : Hid (rowCmp l m = if 0 < m.length - l.length then -1 else 0) := hor
      clear hor
      have hi2 : ¬ (l.length : Int) < (l.length : Int) := by omega
      go_wp2
      go_ret
      refine ⟨ret_bool ?_, hx⟩
      rw [hO.out]
      by_cases hltm : l.length < m.length
      · rw [if_pos (by omega)]; simp [hltm]
      · rw [if_neg (by omega)]; simp; omega

end Go.Proofs.Ytgablbdphflokaa
