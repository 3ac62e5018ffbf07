/-
  Proved: at every list of items the program's DepthOf answers as its model does, it writes into nothing that it is given, and the law's argument reads afterwards as before; the listed variables (the table of powers of ten, two tables of bits, two errors) start as the program's text lays them, to which the card ties them; no other condition.
-/
import Derived.Test.YthgbjnchhaoceaaDoorDepI
import Derived.Test.YthgbjnchhaoceaaDoorDepS
import Derived.Test.YthgbjnchhaoceaaDoorOpen5
import Derived.Test.YthgbjnchhaoceaaDoorLaid
import Derived.Test.YthgbjnchhaoceaaDoorTie
import Derived.Test.YthgbjnchhaoceaaDoorCards
import Derived.Lib.SmallJoins
import Derived.SevenTiedAt
namespace Go.Proofs.YthgbjnchhaoceaaDoor
open Go.ChangeShapes Go.WideShapes Go.ChangeAt Go.RowKit Go.Joins

namespace exDepthOf

theorem own : ownKnob Tryd.prog.godebug = none := by kernel_rfl

set_option maxRecDepth 100000 in
set_option maxHeartbeats 2000000 in
theorem walk (a : Option Addr) (cap : Nat) (l : List TI) (n : Nat) (hn : l.length = n) (w : World) (hrow : ItmAt w a l) (hfit : FitItm l) (hm : n ≤ maxLen) (hp : PowAt w) (he : ErrAt w) :
    Calls Tryd.prog 4 #[.slice a n cap] w fun e w' => e = .returned (.bool true) ∧ Below w.heap.size w w' := by
  have HP : Hid (PowAt w) := hp
  have HE : Hid (ErrAt w) := he
  have HK : Hid (ItmAt w a l) := hrow
  have HF : Hid (FitItm l) := hfit
  have HN : Hid (l.length = n) := hn
  obtain ⟨r, hr⟩ : ∃ r : Int, leftOfItm l 1048576 = r := ⟨_, rfl⟩
  have HRR : Hid (leftOfItm l 1048576 = r) := hr
  obtain ⟨y, hy⟩ : ∃ y, depthR l = y := ⟨_, rfl⟩
  have HY : Hid (depthR l = y) := hy
  clear hp he hrow hfit hn hr hy
  by_cases hr0 : r < 0
  · go_enter Tryd.func4, Tryd.ntmps4
    go_wp2_with fail
    refine (szI n a cap l HN.out _ HK.out HF.out hm r HRR.out).mono ?_
    rintro e w1 ⟨rfl, hb1⟩
    go_wp2
    go_ret
    exact ⟨rfl, hb1⟩
  have hle : (l.length : Int) + (weightItm l : Int) ≤ 1048576 := by
    have := HRR.out
    unfold leftOfItm at this
    split at this <;> omega
  have hnm : n ≤ 1048576 := by rw [← HN.out]; omega
  have HFI : Hid (FitI l) := by
    have : FitI l := by
      intro x hx
      have := oneI_le hx
      unfold oneItm at this
      unfold maxLen
      omega
    exact this
  clear hle
  go_enter Tryd.func4, Tryd.ntmps4
  go_wp2_with fail
  refine (szI n a cap l HN.out _ HK.out HF.out hm r HRR.out).mono ?_
  rintro e w1 ⟨rfl, hb1⟩
  go_wp2_with fail
  refine (tosI n a cap l HN.out _ (HK.out.below hb1) hnm).mono ?_
  rintro e w2 ⟨g2, rfl, T2, _, _, hb2⟩
  have hx2 := chain hb1 hb2
  go_wp2_with fail
  refine (depth_spec _ _ l n HN.out _ T2 HF.out hm y HY.out).mono ?_
  rintro e w3 ⟨rfl, hb3⟩
  have hx3 := chain hx2 hb3
  clear T2 hb2 hb3 hx2
  go_wp2_with fail
  refine (tosI n a cap l HN.out _ (HK.out.below hx3) hnm).mono ?_
  rintro e w4 ⟨g4, rfl, T4, _, _, hb4⟩
  have hx4 := chain hx3 hb4
  have T4h : Hid (ItmAt w4 (some ⟨g4, 0, none⟩) l) := T4
  clear T4 hb4 hx3
  go_wp2_with fail
  refine (depth_impl _ _ l n HN.out _ T4h.out HFI.out hm (HP.out.below hx4) (HE.out.below hx4) y HY.out).mono ?_
  rintro e w5 ⟨rfl, hb5⟩
  have hx5 := chain hx4 hb5
  have T5 : Hid (ItmAt w5 (some ⟨g4, 0, none⟩) l) := T4h.out.below hb5
  clear T4h hb5 hx4
  go_wp2_with fail
  refine (tosI n a cap l HN.out _ (HK.out.below hx5) hnm).mono ?_
  rintro e w6 ⟨g6, rfl, T6, _, _, hb6⟩
  have hx6 := chain hx5 hb6
  have T56 : Hid (ItmAt w6 (some ⟨g4, 0, none⟩) l) := T5.out.below hb6
  have T6h : Hid (ItmAt w6 (some ⟨g6, 0, none⟩) l) := T6
  clear T5 T6 hb6 hx5
  go_wp2_with fail
  refine (eqsI n _ _ _ _ l HN.out _ T56.out T6h.out hm).mono ?_
  rintro e w7 ⟨rfl, hb7⟩
  have hx7 := chain hx6 hb7
  go_wp2
  go_ret
  exact ⟨rfl, hx7⟩

theorem laidOut : laidOutB Tryd.prog = true := by kernel_rfl

theorem var_laid {W : World} (h : laidMetH Tryd.prog Rows.fnExactDepthOfRow.laid W) : PowAt W ∧ ErrAt W := by
  rw [MakeChecks.laidMetH_plain _ _ _ (by kernel_rfl)] at h
  have h2 : laidMet Tryd.prog (("internal/strconv.uint64pow10", Rows.laid_internal_strconv_uint64pow10) :: ("strconv.ErrRange", Rows.laid_strconv_ErrRange) :: ("strconv.ErrSyntax", Rows.laid_strconv_ErrSyntax) :: []) W := laidMet.tail (laidMet.tail h)
  exact ⟨pow_of h2, err_of h2.tail⟩

/-- The door's own heap meets the condition. -/
theorem door_met (os : Os) (args : Array Value) : laidMetH Tryd.prog Rows.fnExactDepthOfRow.laid ((World.doorLaid Tryd.prog 400 os).forCall (fun _ _ => 0) ⟨#[], args, []⟩).memory :=
  laidMetH_of_parts3 (fuel := 8) (laidMet_of_run' 8 (by kernel_rfl) (by kernel_rfl)) (by kernel_rfl) (by kernel_rfl)

set_option maxRecDepth 100000 in
theorem lifted (os : Os) (started : os.Started) (H : Type) (enc : TypeId × Value → H) :
    ReturnsInHanded {} Tryd.checked os 4 .any (fun w args => (Rows.fnExactDepthOfSpec.pre enc Tryd.prog Tryd.f4 [] false w args ∧ laidMetH Tryd.prog Rows.fnExactDepthOfRow.laid w) ∧ sizedMet enc Tryd.prog Tryd.f4 (OpenSpec.ofChange Rows.fnExactDepthOfSpec) false w args)
      (Rows.fnExactDepthOfSpec.post enc Tryd.prog Tryd.f4 false true false false) := by
  refine returnsInHanded_of_change_and (C := Tryd.checked) (X := fun w _ => laidMetH Tryd.prog Rows.fnExactDepthOfRow.laid w) (fun _ _ _ hh h => h.of_heap hh) own started (by kernel_rfl) Tryd.func4
    (ChangeSpec.witness_shaped (enc := enc) (C := Tryd.checked) (os := os) (X := fun w _ => laidMetH Tryd.prog Rows.fnExactDepthOfRow.laid w) false (World.doorLaid Tryd.prog 400 os) #[.slice none 0 0] 8 rfl (World.shaped_of_RefB (by kernel_rfl) (by kernel_rfl)) (by kernel_rfl) (by kernel_rfl) (by kernel_rfl) (door_met os _)) ?_
  intro W base args ds gs before hval0 hW _ _ hL _
  have hval : ∀ (j : Nat) t v, Tryd.f4.params[j]? = some t → args[j]? = some v → Value.okWide Tryd.prog W .any base t v := hval0
  have hW' := hW
  obtain ⟨p, q, hA0, hV, rfl, hfz, hnd⟩ := hW
  have hA : DataW.TrodAll enc Tryd.prog W 0 (fun _ => true) true Tryd.f4.params.toList args.toList ds p := hA0
  rw [Tryd.params4] at hA hval
  obtain ⟨v0, d0, rfl, rfl, h0⟩ := trodAll_one hA
  obtain ⟨rfl, rfl⟩ := trodVars_none hV
  have k0 := h0
  have lt0 : ∀ x ∈ p, x.block < W.heap.size := by obtain ⟨m, hm⟩ := k0; exact DataW.trod_lt m _ _ _ hm
  obtain ⟨a0, n0, c0, rfl⟩ := okWide_slice Tryd.underlying32 (hval 0 32 v0 rfl rfl)
  obtain ⟨m0, hm0⟩ := h0
  obtain ⟨l0, hl0, hK0, hF0, hM0, hN0⟩ := open_itms Tryd.underlying32 Tryd.underlying46 Tryd.underlying44 (by kernel_rfl) rfl rfl rfl rfl rfl rfl (by kernel_rfl) (by kernel_rfl) (by kernel_rfl) (by kernel_rfl) (by kernel_rfl) (by kernel_rfl) Tryd.underlying2 Tryd.underlying9 Tryd.underlying2 Tryd.underlying2 Tryd.underlying9 hm0
  clear hA0 hval0
  obtain ⟨hp, he⟩ := var_laid hL
  refine (walk a0 c0 l0 n0 hl0 W hK0 hF0 hM0 hp he).mono fun e W' ⟨he, bel⟩ => ?_
  subst he
  exact ⟨_, rfl, _, _, _, [], _, [], hW', trodAll_mk1 (shut_bool Tryd.underlying4 _), trodAll_mk1 (Below.trod laidOut (by kernel_rfl) (of_decide_eq_true (by kernel_rfl)) k0 bel lt0), rfl, bel.frame _, fun h => by cases h⟩

theorem over : Rows.fnExactDepthOfRow.holds Tryd.pinned (OpenSpec.ofChange Rows.fnExactDepthOfSpec) :=
  OpenClaim.holds_of_wide 4 Tryd.f4 rfl rfl rfl rfl rfl rfl rfl ⟨rfl, rfl, rfl, rfl, rfl⟩ rfl rfl rfl rfl rfl (by kernel_rfl) Tryd.func4 (by kernel_rfl)
    (of_decide_eq_true (by kernel_rfl)) (by unfold Func.isWrapper; first | (rw [if_pos (by decide +kernel)]; kernel_rfl) | (rw [if_neg (by decide +kernel)]; exact ⟨rfl, rfl⟩))
    (fun os started H enc _ => lifted os started H enc)

end exDepthOf

theorem fnExactDepthOf_card : Rows.FnExactDepthOfCardSaid :=
  Claim7.holds_tied_plain_at .later [] [.data, .data, .data, .sentinel, .sentinel] true Rows.fnExactDepthOfCard.stood.harness true
    exDepthOf.over (fun _ h => by cases h) (by kernel_rfl) (fun _ h => by cases h) fnExactDepthOf_row_tie rfl ⟨rfl, rfl⟩ (by kernel_rfl) rfl
    (fun f fn hf hfn => by
      obtain rfl : f = 4 := Option.some.inj ((show Tryd.prog.funcNamed Rows.fnExactDepthOfRow.func = some 4 by kernel_rfl).symm.trans hf) |>.symm
      obtain rfl : fn = Tryd.f4 := (Option.some.inj (Tryd.func4.symm.trans hfn)).symm
      exact ⟨by kernel_rfl, fun j t ht => by
        rw [Tryd.params4] at ht
        have h3 : t = 32 := by
          rcases j with _ | j
          · simpa using ht.symm
          · simp at ht
        subst h3
        exact (show Tryd.prog.wantsStandIn 32 = false by kernel_rfl)⟩)
    (by kernel_rfl)

end Go.Proofs.YthgbjnchhaoceaaDoor
