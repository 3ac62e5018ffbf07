/-
  Proved: at every list of tables the program's BaseOk answers as its model does; it writes into no argument; the law's argument reads afterwards as before; no condition.
-/
import Derived.Test.YteamdmcgkpeelakPart10
import Derived.Test.YteamdmcgkpeelakPart6
import Derived.Lib.SmallJoins
namespace Go.Proofs.Yteamdmcgkpeelak
open Go.ChangeShapes Go.WideShapes Go.ChangeAt Go.RowKit Go.Joins
attribute [local go_sem ↓] Go.wp_at_zero Go.wp_at_succ

namespace exBaseOk

theorem own : ownKnob Try.prog.godebug = none := by kernel_rfl
theorem laidOut : laidOutB Try.prog = true := by kernel_rfl

set_option maxRecDepth 100000 in
set_option maxHeartbeats 4000000 in
theorem walk (a : Option Addr) (cap : Nat) (T : List TB) (n : Nat) (hn : T.length = n) (w : World) (ht : TabsAt w a T) (hm : n ≤ maxLen) :
    Calls Try.prog 5 #[.slice a n cap] w fun e w' => e = .returned (.bool true) ∧ Below w.heap.size w w' := by
  have HT : Hid (TabsAt w a T) := ht
  have HN : Hid (T.length = n) := hn
  obtain ⟨x, hx1⟩ : ∃ x, leftTS T 1048576 = x := ⟨_, rfl⟩
  have HX1 : Hid (leftTS T 1048576 = x) := hx1
  clear ht hn
  by_cases hx0 : x < 0
  · clear hx1
    go_enter Try.func5, Try.ntmps5
    go_wp2_with fail
    refine (sztabs_laws a cap T n HN.out 1048576 _ HT.out hm (by omega) (by omega)).mono ?_
    rw [HX1.out]
    rintro e w1 ⟨rfl, hb1⟩
    go_wp2
    go_ret
    exact ⟨rfl, hb1⟩
  have hx0' : 0 ≤ x := by omega
  have hq := leftTS_fits (T := T) (x := 1048576) (by omega) (by rw [hx1]; exact hx0')
  have hnm : n ≤ 1048576 := by rw [← HN.out]; exact hq.1
  have Z : Hid (∀ w', Below w.heap.size w w' → Calls Try.prog 20 #[.slice a n cap] w' fun e w'' => ∃ g, e = .returned (.slice (some ⟨g, 0, none⟩) n n) ∧ TabsAt w'' (some ⟨g, 0, none⟩) T ∧ Below w'.heap.size w' w'') := totabs_lies a cap T n HN.out w HT.out hq
  obtain ⟨b, hb⟩ : ∃ b, baseB T = b := ⟨_, rfl⟩
  have HB : Hid (baseB T = b) := hb
  clear hb hq hx1
  go_enter Try.func5, Try.ntmps5
  go_wp2_with fail
  refine (sztabs_laws a cap T n HN.out 1048576 _ HT.out hm (by omega) (by omega)).mono ?_
  rw [HX1.out]
  rintro e w1 ⟨rfl, hx⟩
  go_wp2_with fail
  refine (Z.out _ hx).mono ?_
  rintro e w2 ⟨g1, rfl, T1, hb2⟩
  replace hx := chain hx hb2
  clear hb2
  go_wp2_with fail
  refine (base_spec _ _ T n HN.out _ T1 hm b HB.out).mono ?_
  rintro e w3 ⟨rfl, hb3⟩
  replace hx := chain hx hb3
  clear hb3 T1
  go_wp2_with fail
  refine (Z.out _ hx).mono ?_
  rintro e w4 ⟨g2, rfl, T2, hb4⟩
  replace hx := chain hx hb4
  clear hb4
  go_wp2_with fail
  refine (baseok_impl _ _ T n HN.out _ T2 hnm b HB.out).mono ?_
  rintro e w5 ⟨rfl, hb5⟩
  have HT5 : Hid (TabsAt w5 (some ⟨g2, 0, none⟩) T) := T2.below hb5
  replace hx := chain hx hb5
  clear hb5 T2
  have hbb : (b == b) = true := by simp
  go_wp2_with fail
  refine (Z.out _ hx).mono ?_
  rintro e w6 ⟨g3, rfl, T3, hb6⟩
  have HT6 : Hid (TabsAt w6 (some ⟨g2, 0, none⟩) T) := HT5.out.below hb6
  replace hx := chain hx hb6
  clear hb6 HT5
  go_wp2_with fail
  refine (eqtabs_laws _ _ _ _ T n HN.out _ HT6.out T3 hm).mono ?_
  rintro e w7 ⟨rfl, hb7⟩
  replace hx := chain hx hb7
  clear hb7 HT6 T3
  go_wp2
  go_ret
  exact ⟨rfl, hx⟩

set_option maxRecDepth 100000 in
theorem lifted (os : Os) (started : os.Started) (H : Type) (enc : TypeId × Value → H) :
    ReturnsInHanded {} Try.checked os 5 .any (Rows.fnExactBaseOkSpec.pre6 enc Try.prog Try.f5 Rows.fnExactBaseOkRow.domain false) (Rows.fnExactBaseOkSpec.post enc Try.prog Try.f5 false true false false) := by
  refine returnsInHanded_of_change (C := Try.checked) own started (by kernel_rfl) Try.func5
    (ChangeSpec.witness6 (enc := enc) (C := Try.checked) false ⟨#[], #[.slice none 0 0], []⟩ 8 (by kernel_rfl) (by kernel_rfl) (by kernel_rfl) (by kernel_rfl)) ?_
  intro W base args ds gs before hval0 hW hcnd _
  have hval : ∀ (j : Nat) t v, Try.f5.params[j]? = some t → args[j]? = some v → Value.okWide Try.prog W .any base t v := hval0
  have hW' := hW
  obtain ⟨p, q, hA0, hV, rfl, hfz, hnd⟩ := hW
  have hA : DataW.TrodAll enc Try.prog W 0 (fun _ => true) true Try.f5.params.toList args.toList ds p := hA0
  rw [Try.params5] at hA hval
  obtain ⟨v0, d0, rfl, rfl, h0⟩ := trodAll_one hA
  obtain ⟨rfl, rfl⟩ := trodVars_none hV
  have k0 := h0
  have lt0 : ∀ x ∈ p, x.block < W.heap.size := by obtain ⟨m, hm⟩ := k0; exact DataW.trod_lt m _ _ _ hm
  obtain ⟨a0, n0, c0, rfl⟩ := okWide_slice Try.underlying39 (hval 0 39 v0 rfl rfl)
  obtain ⟨m0, hm0⟩ := h0
  obtain ⟨T0, hl0, hT0, hM0, hC0, hN0⟩ := open_tabs hm0
  clear hA0 hval0
  refine (walk a0 c0 T0 n0 hl0 W hT0 hM0).mono fun e W' ⟨he, bel⟩ => ?_
  subst he
  exact ⟨_, rfl, _, _, _, [], _, [], hW', trodAll_mk1 (shut_bool Try.underlying4 _), trodAll_mk1 (Below.trod laidOut (by kernel_rfl) (of_decide_eq_true (by kernel_rfl)) k0 bel lt0), rfl, bel.frame _, fun h => by cases h⟩

theorem over : Rows.fnExactBaseOkRow.holds Try.pinned (OpenSpec.ofChange Rows.fnExactBaseOkSpec) :=
  OpenClaim.holds_of_wide 5 Try.f5 rfl rfl rfl rfl rfl rfl rfl ⟨rfl, rfl, rfl, rfl, rfl⟩ rfl rfl rfl rfl rfl (by kernel_rfl) Try.func5 (by kernel_rfl)
    (of_decide_eq_true (by kernel_rfl)) (by unfold Func.isWrapper; first | (rw [if_pos (by decide +kernel)]; kernel_rfl) | (rw [if_neg (by decide +kernel)]; exact ⟨rfl, rfl⟩))
    (fun os started H enc _ => lifted os started H enc)

end exBaseOk

theorem fnExactBaseOk_holds : Rows.FnExactBaseOkSaid := exBaseOk.over

end Go.Proofs.Yteamdmcgkpeelak
