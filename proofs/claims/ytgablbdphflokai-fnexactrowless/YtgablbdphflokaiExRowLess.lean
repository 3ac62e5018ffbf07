/-
  Proved: at every two rows of cells the program's RowLess answers as its model does, it writes into neither, and the law's arguments read afterwards as before; no condition.
-/
import Derived.Test.YtgablbdphflokaiRowLess
import Derived.Test.YtgablbdphflokaiLists3
import Derived.Test.YtgablbdphflokaiOpen1
import Derived.Lib.SmallJoins
namespace Go.Proofs.Ytgablbdphflokai
open Go.ChangeShapes Go.WideShapes Go.ChangeAt Go.RowKit Go.Joins
attribute [local go_sem ↓] Go.wp_at_zero Go.wp_at_succ

namespace exRowLess

theorem own : ownKnob Try.prog.godebug = none := by kernel_rfl
theorem laidOut : laidOutB Try.prog = true := by kernel_rfl

set_option maxHeartbeats 2000000 in
theorem walk (a b : Option Addr) (ca cb : Nat) (l m : List CT) (w : World) (hA : RowAt w a l) (hB : RowAt w b m) (fA : Fit l) (fB : Fit m) (hl : l.length ≤ maxLen) (hm : m.length ≤ maxLen) :
    Calls Try.prog 5 #[.slice a l.length ca, .slice b m.length cb] w fun e w' => e = .returned (.bool true) ∧ Below w.heap.size w w' := by
  have S1 : Hid (∀ w', Below w.heap.size w w' → ∀ left : Int, 0 ≤ left → left ≤ 1048576 → Calls Try.prog 14 #[.slice a l.length ca, .int .i64 left] w' fun e w'' => e = .returned (.int .i64 (leftOf l left)) ∧ Below w'.heap.size w' w'') := fun w' hb left h0 h1 => szs_laws a ca l left w' (hA.below hb) fA hl h0 h1
  have S2 : Hid (∀ w', Below w.heap.size w w' → ∀ left : Int, 0 ≤ left → left ≤ 1048576 → Calls Try.prog 14 #[.slice b m.length cb, .int .i64 left] w' fun e w'' => e = .returned (.int .i64 (leftOf m left)) ∧ Below w'.heap.size w' w'') := fun w' hb left h0 h1 => szs_laws b cb m left w' (hB.below hb) fB hm h0 h1
  have RA : Hid (RowAt w a l) := hA
  have RB : Hid (RowAt w b m) := hB
  clear hA hB fA fB hl hm
  obtain ⟨x, hx1⟩ : ∃ x, leftOf l 1048576 = x := ⟨_, rfl⟩
  obtain ⟨y, hy1⟩ : ∃ y, leftOf m x = y := ⟨_, rfl⟩
  by_cases hx0 : x < 0
  · go_enter Try.func5, Try.ntmps5
    go_wp2_with fail
    refine (S1.out _ (Below.refl _ _) _ (by omega) (by omega)).mono ?_
    rw [hx1]
    rintro e w1 ⟨rfl, hb1⟩
    go_wp2
    go_ret
    exact ⟨rfl, hb1⟩
  have hll : l.length ≤ 1048576 ∧ x ≤ 1048576 := by
    unfold leftOf at hx1
    split at hx1 <;> omega
  have hx0' : 0 ≤ x := by omega
  by_cases hy0 : y < 0
  · go_enter Try.func5, Try.ntmps5
    go_wp2_with fail
    refine (S1.out _ (Below.refl _ _) _ (by omega) (by omega)).mono ?_
    rw [hx1]
    rintro e w1 ⟨rfl, hb1⟩
    go_wp2_with fail
    refine (S2.out _ hb1 _ (by omega) (by omega)).mono ?_
    rw [hy1]
    rintro e w2 ⟨rfl, hb2⟩
    go_wp2
    go_ret
    exact ⟨rfl, chain hb1 hb2⟩
  have hml : m.length ≤ 1048576 := by
    unfold leftOf at hy1
    split at hy1 <;> omega
  have hy0' : 0 ≤ y := by omega
  have hlM : l.length ≤ maxLen := by unfold maxLen; omega
  have hmM : m.length ≤ maxLen := by unfold maxLen; omega
  obtain ⟨r, hr⟩ : ∃ r, decide (rowCmp l m < 0) = r := ⟨_, rfl⟩
  go_enter Try.func5, Try.ntmps5
  go_wp2_with fail
  refine (S1.out _ (Below.refl _ _) _ (by omega) (by omega)).mono ?_
  rw [hx1]
  rintro e w1 ⟨rfl, hb1⟩
  go_wp2_with fail
  refine (S2.out _ hb1 _ (by omega) (by omega)).mono ?_
  rw [hy1]
  rintro e w2 ⟨rfl, hb2⟩
  have hx := chain hb1 hb2
  clear hb1 hb2
  go_wp2_with fail
  refine (tos_laws _ _ _ _ (RA.out.below hx) hll.1).mono ?_
  rintro e w3 ⟨rfl, o3, hb3⟩
  replace hx := chain hx hb3
  have o3 : Hid (RowAt w3 _ l) := own_row o3
  go_wp2_with fail
  refine (tos_laws _ _ _ _ (RB.out.below hx) hml).mono ?_
  rintro e w4 ⟨rfl, o4, hb4⟩
  replace hx := chain hx hb4
  have o4 : Hid (RowAt w4 _ m) := own_row o4
  have o3 : Hid (RowAt w4 _ l) := o3.out.below hb4
  go_wp2_with fail
  refine (rless_spec _ _ _ _ _ _ _ o3.out o4.out hlM).mono ?_
  rw [hr]
  rintro e w5 ⟨rfl, hb5⟩
  replace hx := chain hx hb5
  clear o3 o4 hb3 hb4 hb5
  go_wp2_with fail
  refine (tos_laws _ _ _ _ (RA.out.below hx) hll.1).mono ?_
  rintro e w6 ⟨rfl, o6, hb6⟩
  replace hx := chain hx hb6
  have o6 : Hid (RowAt w6 _ l) := own_row o6
  go_wp2_with fail
  refine (tos_laws _ _ _ _ (RB.out.below hx) hml).mono ?_
  rintro e w7 ⟨rfl, o7, hb7⟩
  replace hx := chain hx hb7
  have o7 : Hid (RowAt w7 _ m) := own_row o7
  have o6 : Hid (RowAt w7 _ l) := o6.out.below hb7
  go_wp2_with fail
  refine (rless_impl _ _ _ _ _ _ _ o6.out o7.out hlM).mono ?_
  rw [hr]
  rintro e w8 ⟨rfl, hb8⟩
  replace hx := chain hx hb8
  have o6 : Hid (RowAt w8 _ l) := o6.out.below hb8
  have o7 : Hid (RowAt w8 _ m) := o7.out.below hb8
  clear hb6 hb7 hb8
  go_wp2_with fail
  refine (tos_laws _ _ _ _ (RA.out.below hx) hll.1).mono ?_
  rintro e w9 ⟨rfl, o9, hb9⟩
  replace hx := chain hx hb9
  have o9 : Hid (RowAt w9 _ l) := own_row o9
  have o6 : Hid (RowAt w9 _ l) := o6.out.below hb9
  have o7 : Hid (RowAt w9 _ m) := o7.out.below hb9
  go_wp2_with fail
  refine (eqs_laws _ _ _ _ _ _ o6.out o9.out hlM).mono ?_
  rintro e w10 ⟨rfl, hb10⟩
  replace hx := chain hx hb10
  have o7 : Hid (RowAt w10 _ m) := o7.out.below hb10
  go_wp2_with fail
  refine (tos_laws _ _ _ _ (RB.out.below hx) hml).mono ?_
  rintro e w11 ⟨rfl, o11, hb11⟩
  replace hx := chain hx hb11
  have o11 : Hid (RowAt w11 _ m) := own_row o11
  have o7 : Hid (RowAt w11 _ m) := o7.out.below hb11
  go_wp2_with fail
  refine (eqs_laws _ _ _ _ _ _ o7.out o11.out hmM).mono ?_
  rintro e w12 ⟨rfl, hb12⟩
  go_wp2
  go_ret
  exact ⟨rfl, chain hx hb12⟩

theorem cells3 : Try.prog.cellsOf 23 = 3 := by kernel_rfl

set_option maxRecDepth 100000 in
theorem lifted (os : Os) (started : os.Started) (H : Type) (enc : TypeId × Value → H) :
    ReturnsInHanded {} Try.checked os 5 .any (Rows.fnExactRowLessSpec.pre6 enc Try.prog Try.f5 Rows.fnExactRowLessRow.domain false) (Rows.fnExactRowLessSpec.post enc Try.prog Try.f5 false true false false) := by
  refine returnsInHanded_of_change (C := Try.checked) own started (by kernel_rfl) Try.func5
    (ChangeSpec.witness6 (enc := enc) (C := Try.checked) false ⟨#[], #[.slice none 0 0, .slice none 0 0], []⟩ 8 (by kernel_rfl) (by kernel_rfl) (by kernel_rfl) (by kernel_rfl)) ?_
  intro W base args ds gs before hval0 hW hcnd _
  have hval : ∀ (j : Nat) t v, Try.f5.params[j]? = some t → args[j]? = some v → Value.okWide Try.prog W .any base t v := hval0
  have hW' := hW
  obtain ⟨p, q, hA0, hV, rfl, hfz, hnd⟩ := hW
  have hA : DataW.TrodAll enc Try.prog W 0 (fun _ => true) true Try.f5.params.toList args.toList ds p := hA0
  rw [Try.params5] at hA hval
  obtain ⟨v0, v1, d0, d1, p0, p1, rfl, rfl, rfl, h0, h1⟩ := trodAll_two hA
  obtain ⟨rfl, rfl⟩ := trodVars_none hV
  obtain ⟨a0, len0, cap0, rfl⟩ := okWide_slice Try.underlying31 (hval 0 31 v0 rfl rfl)
  obtain ⟨a1, len1, cap1, rfl⟩ := okWide_slice Try.underlying31 (hval 1 31 v1 rfl rfl)
  have k0 := h0
  have k1 := h1
  have lt0 : ∀ x ∈ p0, x.block < W.heap.size := by obtain ⟨m, hm⟩ := k0; exact DataW.trod_lt m _ _ _ hm
  have lt1 : ∀ x ∈ p1, x.block < W.heap.size := by obtain ⟨m, hm⟩ := k1; exact DataW.trod_lt m _ _ _ hm
  obtain ⟨m0, hm0⟩ := h0
  obtain ⟨m1, hm1⟩ := h1
  obtain ⟨l, rfl, rA, fA, lA, nA⟩ := open_cells Try.underlying31 Try.underlying23 cells3 rfl rfl rfl (by kernel_rfl) (by kernel_rfl) (by kernel_rfl) Try.underlying2 Try.underlying2 Try.underlying9 hm0
  obtain ⟨l2, rfl, rB, fB, lB, nB⟩ := open_cells Try.underlying31 Try.underlying23 cells3 rfl rfl rfl (by kernel_rfl) (by kernel_rfl) (by kernel_rfl) Try.underlying2 Try.underlying2 Try.underlying9 hm1
  clear hA0 hval0
  refine (walk a0 a1 cap0 cap1 l l2 W rA rB fA fB lA lB).mono fun e W' ⟨he, bel⟩ => ?_
  subst he
  exact ⟨_, rfl, _, _, _, [], _, [], hW', trodAll_mk1 (shut_bool Try.underlying4 _), trodAll_mk2 (Below.trod laidOut (by kernel_rfl) (of_decide_eq_true (by kernel_rfl)) k0 bel lt0) (Below.trod laidOut (by kernel_rfl) (of_decide_eq_true (by kernel_rfl)) k1 bel lt1), rfl, bel.frame _, fun h => by cases h⟩

theorem over : Rows.fnExactRowLessRow.holds Try.pinned (OpenSpec.ofChange Rows.fnExactRowLessSpec) :=
  OpenClaim.holds_of_wide 5 Try.f5 rfl rfl rfl rfl rfl rfl rfl ⟨rfl, rfl, rfl, rfl, rfl⟩ rfl rfl rfl rfl rfl (by kernel_rfl) Try.func5 (by kernel_rfl)
    (of_decide_eq_true (by kernel_rfl)) (by unfold Func.isWrapper; first | (rw [if_pos (by decide +kernel)]; kernel_rfl) | (rw [if_neg (by decide +kernel)]; exact ⟨rfl, rfl⟩))
    (fun os started H enc _ => lifted os started H enc)

end exRowLess

theorem fnExactRowLess_holds : Rows.FnExactRowLessSaid := exRowLess.over

end Go.Proofs.Ytgablbdphflokai
