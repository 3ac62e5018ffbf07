/-
  Proved: at every list of tables the program's ShowBase answers as its model does, it writes into nothing that it is given, and the law's argument reads afterwards as before; the listed variables of the library (the table of powers of ten and two tables of bits) are as their own initialisers lay them.
-/
import Derived.Test.YteamdmcgkpeelalGreatDoorPart12
import Derived.Test.YteamdmcgkpeelalGreatDoorPart10
import Derived.Test.YteamdmcgkpeelalGreatDoorPart13
import Derived.Test.YteamdmcgkpeelalGreatDoorTie
import Derived.Test.YteamdmcgkpeelalGreatDoorCards
import Derived.Lib.SmallJoins
import Derived.SevenTiedAt
namespace Go.Proofs.YteamdmcgkpeelalGreatDoor
open Go.ChangeShapes Go.WideShapes Go.ChangeAt Go.RowKit Go.Joins
attribute [local go_sem ↓] Go.wp_at_zero Go.wp_at_succ

namespace exShowBase

theorem own : ownKnob Tryz.prog.godebug = none := by kernel_rfl

set_option maxRecDepth 100000 in
set_option maxHeartbeats 4000000 in
theorem walk (a : Option Addr) (cap : Nat) (T : List TB) (n : Nat) (hn : T.length = n) (w : World) (ht : TabsAt w a T) (hm : n ≤ maxLen) (hp : PowAt w) :
    Calls Tryz.prog 3 #[.slice a n cap] w fun e w' => e = .returned (.bool true) ∧ Below w.heap.size w w' := by
  have HT : Hid (TabsAt w a T) := ht
  have HN : Hid (T.length = n) := hn
  have HP : Hid (PowAt w) := hp
  obtain ⟨x, hx1⟩ : ∃ x, leftTS T 1048576 = x := ⟨_, rfl⟩
  have HX1 : Hid (leftTS T 1048576 = x) := hx1
  clear ht hn hp
  by_cases hx0 : x < 0
  · clear hx1
    go_enter Tryz.func3, Tryz.ntmps3
    go_wp2_with fail
    refine (sztabs_laws a cap T n HN.out 1048576 _ HT.out hm (by omega) (by omega)).mono ?_
    rw [HX1.out]
    rintro e w1 ⟨rfl, hb1⟩
    go_wp2
    go_ret
    exact ⟨rfl, hb1⟩
  have hx0' : 0 ≤ x := by omega
  have hq := leftTS_fits (T := T) (x := 1048576) (by omega) (by rw [hx1]; exact hx0')
  have hnm : n ≤ 1048576 := by rw [← HN.out]; exact hq.1
  have Z : Hid (∀ w', Below w.heap.size w w' → Calls Tryz.prog 6 #[.slice a n cap] w' fun e w'' => ∃ g, e = .returned (.slice (some ⟨g, 0, none⟩) n n) ∧ TabsAt w'' (some ⟨g, 0, none⟩) T ∧ Below w'.heap.size w' w'') := totabs_lies a cap T n HN.out w HT.out hq
  obtain ⟨b, hb⟩ : ∃ b, showB T = b := ⟨_, rfl⟩
  have HB : Hid (showB T = b) := hb
  clear hb hq hx1
  go_enter Tryz.func3, Tryz.ntmps3
  go_wp2_with fail
  refine (sztabs_laws a cap T n HN.out 1048576 _ HT.out hm (by omega) (by omega)).mono ?_
  rw [HX1.out]
  rintro e w1 ⟨rfl, hx⟩
  go_wp2_with fail
  refine (Z.out _ hx).mono ?_
  rintro e w2 ⟨g1, rfl, T1, hb2⟩
  replace hx := chain hx hb2
  clear hb2
  go_wp2_with fail
  refine (showbase_spec _ _ T n HN.out _ T1 hnm b HB.out).mono ?_
  rintro e w3 ⟨rfl, hb3⟩
  replace hx := chain hx hb3
  clear hb3 T1
  go_wp2_with fail
  refine (Z.out _ hx).mono ?_
  rintro e w4 ⟨g2, rfl, T2, hb4⟩
  replace hx := chain hx hb4
  clear hb4
  go_wp2_with fail
  refine (showbase_impl _ _ T n HN.out _ T2 hnm (HP.out.below hx) b HB.out).mono ?_
  rintro e w5 ⟨rfl, hb5⟩
  have HT5 : Hid (TabsAt w5 (some ⟨g2, 0, none⟩) T) := T2.below hb5
  replace hx := chain hx hb5
  clear hb5 T2
  have hbb : (b.toList == b.toList) = true := by simp
  go_wp2_with fail
  refine (Z.out _ hx).mono ?_
  rintro e w6 ⟨g3, rfl, T3, hb6⟩
  have HT6 : Hid (TabsAt w6 (some ⟨g2, 0, none⟩) T) := HT5.out.below hb6
  replace hx := chain hx hb6
  clear hb6 HT5
  go_wp2_with fail
  refine (eqtabs_laws _ _ _ _ T n HN.out _ HT6.out T3 hm).mono ?_
  rintro e w7 ⟨rfl, hb7⟩
  replace hx := chain hx hb7
  clear hb7 HT6 T3
  go_wp2
  go_ret
  exact ⟨rfl, hx⟩

theorem laidOut : laidOutB Tryz.prog = true := by kernel_rfl

theorem pow_laid {W : World} (h : laidMetH Tryz.prog Rows.fnExactShowBaseRow.laid W) : PowAt W := by
  rw [MakeChecks.laidMetH_plain _ _ _ (by kernel_rfl)] at h
  have h2 : laidMet Tryz.prog (("internal/strconv.uint64pow10", Rows.laid_internal_strconv_uint64pow10) :: []) W := laidMet.tail (laidMet.tail h)
  exact pow_of h2

/-- The door's own heap meets the condition. -/
theorem door_met (os : Os) (args : Array Value) : laidMetH Tryz.prog Rows.fnExactShowBaseRow.laid ((World.doorLaid Tryz.prog 400 os).forCall (fun _ _ => 0) ⟨#[], args, []⟩).memory :=
  laidMetH_of_parts3 (fuel := 8) (laidMet_of_run' 8 (by kernel_rfl) (by kernel_rfl)) (by kernel_rfl) (by kernel_rfl)

set_option maxRecDepth 100000 in
theorem lifted (os : Os) (started : os.Started) (H : Type) (enc : TypeId × Value → H) :
    ReturnsInHanded {} Tryz.checked os 3 .any (fun w args => (Rows.fnExactShowBaseSpec.pre enc Tryz.prog Tryz.f3 [] false w args ∧ laidMetH Tryz.prog Rows.fnExactShowBaseRow.laid w) ∧ sizedMet enc Tryz.prog Tryz.f3 (OpenSpec.ofChange Rows.fnExactShowBaseSpec) false w args)
      (Rows.fnExactShowBaseSpec.post enc Tryz.prog Tryz.f3 false true false false) := by
  refine returnsInHanded_of_change_and (C := Tryz.checked) (X := fun w _ => laidMetH Tryz.prog Rows.fnExactShowBaseRow.laid w) (fun _ _ _ hh h => h.of_heap hh) own started (by kernel_rfl) Tryz.func3
    (ChangeSpec.witness_shaped (enc := enc) (C := Tryz.checked) (os := os) (X := fun w _ => laidMetH Tryz.prog Rows.fnExactShowBaseRow.laid w) false (World.doorLaid Tryz.prog 400 os) #[.slice none 0 0] 8 rfl (World.shaped_of_RefB (by kernel_rfl) (by kernel_rfl)) (by kernel_rfl) (by kernel_rfl) (by kernel_rfl) (door_met os _)) ?_
  intro W base args ds gs before hval0 hW _ _ hL _
  have hval : ∀ (j : Nat) t v, Tryz.f3.params[j]? = some t → args[j]? = some v → Value.okWide Tryz.prog W .any base t v := hval0
  have hW' := hW
  obtain ⟨p, q, hA0, hV, rfl, hfz, hnd⟩ := hW
  have hA : DataW.TrodAll enc Tryz.prog W 0 (fun _ => true) true Tryz.f3.params.toList args.toList ds p := hA0
  rw [Tryz.params3] at hA hval
  obtain ⟨v0, d0, rfl, rfl, h0⟩ := trodAll_one hA
  obtain ⟨rfl, rfl⟩ := trodVars_none hV
  obtain ⟨a0, len0, cap0, rfl⟩ := okWide_slice Tryz.underlying22 (hval 0 22 v0 rfl rfl)
  have k0 := h0
  have lt0 : ∀ x ∈ p, x.block < W.heap.size := by obtain ⟨m, hm⟩ := k0; exact DataW.trod_lt m _ _ _ hm
  obtain ⟨m0, hm0⟩ := h0
  obtain ⟨T0, hl0, hT0, hM0, hC0, hN0⟩ := open_tabs hm0
  clear hA0 hval0
  refine (walk a0 cap0 T0 len0 hl0 W hT0 hM0 (pow_laid hL)).mono fun e W' ⟨he, bel⟩ => ?_
  subst he
  exact ⟨_, rfl, _, _, _, [], _, [], hW', trodAll_mk1 (shut_bool Tryz.underlying4 _), trodAll_mk1 (Below.trod laidOut (by kernel_rfl) (of_decide_eq_true (by kernel_rfl)) k0 bel lt0), rfl, bel.frame _, fun h => by cases h⟩

theorem over : Rows.fnExactShowBaseRow.holds Tryz.pinned (OpenSpec.ofChange Rows.fnExactShowBaseSpec) :=
  OpenClaim.holds_of_wide 3 Tryz.f3 rfl rfl rfl rfl rfl rfl rfl ⟨rfl, rfl, rfl, rfl, rfl⟩ rfl rfl rfl rfl rfl (by kernel_rfl) Tryz.func3 (by kernel_rfl)
    (of_decide_eq_true (by kernel_rfl)) (by unfold Func.isWrapper; first | (rw [if_pos (by decide +kernel)]; kernel_rfl) | (rw [if_neg (by decide +kernel)]; exact ⟨rfl, rfl⟩))
    (fun os started H enc _ => lifted os started H enc)

end exShowBase

theorem fnExactShowBase_card : Rows.FnExactShowBaseCardSaid :=
  Claim7.holds_tied_plain_at .later [] [.data, .data, .data] true Rows.fnExactShowBaseCard.stood.harness true
    exShowBase.over (fun _ h => by cases h) (by kernel_rfl) (fun _ h => by cases h) fnExactShowBase_row_tie rfl ⟨rfl, rfl⟩ (by kernel_rfl) rfl
    (fun f fn hf hfn => by
      obtain rfl : f = 3 := Option.some.inj ((show Tryz.prog.funcNamed Rows.fnExactShowBaseRow.func = some 3 by kernel_rfl).symm.trans hf) |>.symm
      obtain rfl : fn = Tryz.f3 := (Option.some.inj (Tryz.func3.symm.trans hfn)).symm
      exact ⟨by kernel_rfl, fun j t ht => by
        rw [Tryz.params3] at ht
        have h3 : t = 22 := by
          rcases j with _ | j
          · simpa using ht.symm
          · simp at ht
        subst h3
        exact (show Tryz.prog.wantsStandIn 22 = false by kernel_rfl)⟩)
    (by kernel_rfl)

end Go.Proofs.YteamdmcgkpeelalGreatDoor
