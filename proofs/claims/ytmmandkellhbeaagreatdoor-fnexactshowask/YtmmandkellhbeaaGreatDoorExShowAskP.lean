/-
  Proved: at every list of sieves the program's ShowAsk answers as its model does, it writes into nothing that it is given, and the law's argument reads afterwards as before; the listed variables (the table of powers of ten, two tables of bits, two errors, the program's own table of signs) start as the program's text lays them, to which the card ties them; no other condition.
-/
import Derived.Test.YtmmandkellhbeaaGreatDoorPart22
import Derived.Test.YtmmandkellhbeaaGreatDoorTie
import Derived.Test.YtmmandkellhbeaaGreatDoorCards
import Derived.Lib.SmallJoins
import Derived.SevenTiedAt
namespace Go.Proofs.YtmmandkellhbeaaGreatDoor
open Go.ChangeShapes Go.WideShapes Go.ChangeAt Go.RowKit Go.Joins

namespace exShowAsk

theorem own : ownKnob Tryz.prog.godebug = none := by kernel_rfl

set_option maxRecDepth 100000 in
set_option maxHeartbeats 2000000 in
theorem walk (a : Option Addr) (cap : Nat) (T : List SV) (n : Nat) (hn : T.length = n) (w : World) (ht : SivsAt w a T) (hm : n ≤ maxLen) (hp : PowAt w) (he : ErrAt w) (hs : SgnAt w) :
    Calls Tryz.prog 5 #[.slice a n cap] w fun e w' => e = .returned (.bool true) ∧ Below w.heap.size w w' := by
  have HT : Hid (SivsAt w a T) := ht
  have HN : Hid (T.length = n) := hn
  have HP : Hid (PowAt w) := hp
  have HE : Hid (ErrAt w) := he
  have HG : Hid (SgnAt w) := hs
  obtain ⟨x, hx1⟩ : ∃ x, leftVS T 1048576 = x := ⟨_, rfl⟩
  have HX1 : Hid (leftVS T 1048576 = x) := hx1
  clear ht hn hp he hs
  by_cases hx0 : x < 0
  · clear hx1
    go_enter Tryz.func5, Tryz.ntmps5
    go_wp2_with fail
    refine (szsivs_laws a cap T n HN.out 1048576 _ HT.out hm (by omega) (by omega)).mono ?_
    rw [HX1.out]
    rintro e w1 ⟨rfl, hb1⟩
    go_wp2
    go_ret
    exact ⟨rfl, hb1⟩
  have hx0' : 0 ≤ x := by omega
  have hq := leftVS_fits (T := T) (x := 1048576) (by omega) (by rw [hx1]; exact hx0')
  have HM : Hid (∀ i (hi : i < T.length), MildV T[i]) := hq.2
  have Z : Hid (∀ w', Below w.heap.size w w' → Calls Tryz.prog 14 #[.slice a n cap] w' fun e w'' => ∃ g, e = .returned (.slice (some ⟨g, 0, none⟩) n n) ∧ SivsAt w'' (some ⟨g, 0, none⟩) T ∧ Below w'.heap.size w' w'') := tosivs_lies a cap T n HN.out w HT.out hq
  obtain ⟨y, hy⟩ : ∃ y, askT T = y := ⟨_, rfl⟩
  have HY : Hid (askT T = y) := hy
  have hyy : (y.toList == y.toList) = true := by simp
  clear hy hq hx1
  go_enter Tryz.func5, Tryz.ntmps5
  go_wp2_with fail
  refine (szsivs_laws a cap T n HN.out 1048576 _ HT.out hm (by omega) (by omega)).mono ?_
  rw [HX1.out]
  rintro e w1 ⟨rfl, hx⟩
  go_wp2_with fail
  refine (Z.out _ hx).mono ?_
  rintro e w2 ⟨g1, rfl, T1, hb2⟩
  replace hx := chain hx hb2
  clear hb2
  go_wp2_with fail
  refine (showask_spec _ _ T n HN.out _ T1 hm y HY.out).mono ?_
  rintro e w3 ⟨rfl, hb3⟩
  replace hx := chain hx hb3
  clear hb3 T1
  go_wp2_with fail
  refine (Z.out _ hx).mono ?_
  rintro e w4 ⟨g2, rfl, T2, hb4⟩
  replace hx := chain hx hb4
  clear hb4
  go_wp2_with fail
  refine (showask_impl _ _ T n HN.out _ T2 HM.out hm (HP.out.below hx) (HE.out.below hx) (HG.out.below hx) y HY.out).mono ?_
  rintro e w5 ⟨rfl, hb5⟩
  have HT5 : Hid (SivsAt w5 (some ⟨g2, 0, none⟩) T) := T2.below hb5
  replace hx := chain hx hb5
  clear hb5 T2
  go_wp2_with fail
  refine (Z.out _ hx).mono ?_
  rintro e w6 ⟨g3, rfl, T3, hb6⟩
  have HT6 : Hid (SivsAt w6 (some ⟨g2, 0, none⟩) T) := HT5.out.below hb6
  replace hx := chain hx hb6
  clear hb6 HT5
  go_wp2_with fail
  refine (eqsivs_laws _ _ _ _ T n HN.out _ HT6.out T3 hm).mono ?_
  rintro e w7 ⟨rfl, hb7⟩
  replace hx := chain hx hb7
  clear hb7 HT6 T3
  go_wp2
  go_ret
  exact ⟨rfl, hx⟩

theorem laidOut : laidOutB Tryz.prog = true := by kernel_rfl

theorem var_laid {W : World} (h : laidMetH Tryz.prog Rows.fnExactShowAskRow.laid W) : PowAt W ∧ ErrAt W ∧ SgnAt W := by
  rw [MakeChecks.laidMetH_plain _ _ _ (by kernel_rfl)] at h
  have h2 : laidMet Tryz.prog (("internal/strconv.uint64pow10", Rows.laid_internal_strconv_uint64pow10) :: ("strconv.ErrRange", Rows.laid_strconv_ErrRange) :: ("strconv.ErrSyntax", Rows.laid_strconv_ErrSyntax) :: ("loop.example/g00536/impl.itemSigns", Rows.laid_loop_example_g00536_impl_itemSigns) :: []) W := laidMet.tail (laidMet.tail h)
  exact ⟨pow_of h2, err_of h2.tail, sgn_of h2.tail.tail.tail⟩

/-- The door's own heap meets the condition. -/
theorem door_met (os : Os) (args : Array Value) : laidMetH Tryz.prog Rows.fnExactShowAskRow.laid ((World.doorLaid Tryz.prog 400 os).forCall (fun _ _ => 0) ⟨#[], args, []⟩).memory :=
  laidMetH_of_parts3 (fuel := 8) (laidMet_of_run' 8 (by kernel_rfl) (by kernel_rfl)) (by kernel_rfl) (by kernel_rfl)

set_option maxRecDepth 100000 in
theorem lifted (os : Os) (started : os.Started) (H : Type) (enc : TypeId × Value → H) :
    ReturnsInHanded {} Tryz.checked os 5 .any (fun w args => (Rows.fnExactShowAskSpec.pre enc Tryz.prog Tryz.f5 [] false w args ∧ laidMetH Tryz.prog Rows.fnExactShowAskRow.laid w) ∧ sizedMet enc Tryz.prog Tryz.f5 (OpenSpec.ofChange Rows.fnExactShowAskSpec) false w args)
      (Rows.fnExactShowAskSpec.post enc Tryz.prog Tryz.f5 false true false false) := by
  refine returnsInHanded_of_change_and (C := Tryz.checked) (X := fun w _ => laidMetH Tryz.prog Rows.fnExactShowAskRow.laid w) (fun _ _ _ hh h => h.of_heap hh) own started (by kernel_rfl) Tryz.func5
    (ChangeSpec.witness_shaped (enc := enc) (C := Tryz.checked) (os := os) (X := fun w _ => laidMetH Tryz.prog Rows.fnExactShowAskRow.laid w) false (World.doorLaid Tryz.prog 400 os) #[.slice none 0 0] 8 rfl (World.shaped_of_RefB (by kernel_rfl) (by kernel_rfl)) (by kernel_rfl) (by kernel_rfl) (by kernel_rfl) (door_met os _)) ?_
  intro W base args ds gs before hval0 hW _ _ hL _
  have hval : ∀ (j : Nat) t v, Tryz.f5.params[j]? = some t → args[j]? = some v → Value.okWide Tryz.prog W .any base t v := hval0
  have hW' := hW
  obtain ⟨p, q, hA0, hV, rfl, hfz, hnd⟩ := hW
  have hA : DataW.TrodAll enc Tryz.prog W 0 (fun _ => true) true Tryz.f5.params.toList args.toList ds p := hA0
  rw [Tryz.params5] at hA hval
  obtain ⟨v0, d0, rfl, rfl, h0⟩ := trodAll_one hA
  have hV2 := hV
  obtain ⟨_, _, _, _, g1, _, rfl, _⟩ := trodVars_one hV
  have k0 := h0
  have lt0 : ∀ x ∈ p, x.block < W.heap.size := by obtain ⟨m, hm⟩ := k0; exact DataW.trod_lt m _ _ _ hm
  obtain ⟨a0, n0, c0, rfl⟩ := okWide_slice Tryz.underlying34 (hval 0 34 v0 rfl rfl)
  obtain ⟨m0, hm0⟩ := h0
  obtain ⟨T0, hl0, hT0, hM0, hC0, hN0⟩ := open_sieves hm0
  clear hA0 hval0
  obtain ⟨hp, he, hs⟩ := var_laid hL
  refine (walk a0 c0 T0 n0 hl0 W hT0 hM0 hp he hs).mono fun e W' ⟨he, bel⟩ => ?_
  subst he
  exact ⟨_, rfl, _, _, _, [], _, _, hW', trodAll_mk1 (shut_bool Tryz.underlying4 _), trodAll_mk1 (Below.trod laidOut (by kernel_rfl) (of_decide_eq_true (by kernel_rfl)) k0 bel lt0), Below.trodVars laidOut bel (by kernel_rfl) hV2, bel.frame _, fun h => by cases h⟩

theorem over : Rows.fnExactShowAskRow.holds Tryz.pinned (OpenSpec.ofChange Rows.fnExactShowAskSpec) :=
  OpenClaim.holds_of_wide 5 Tryz.f5 rfl rfl rfl rfl rfl rfl rfl ⟨rfl, rfl, rfl, rfl, rfl⟩ rfl rfl rfl rfl rfl (by kernel_rfl) Tryz.func5 (by kernel_rfl)
    (of_decide_eq_true (by kernel_rfl)) (by unfold Func.isWrapper; first | (rw [if_pos (by decide +kernel)]; kernel_rfl) | (rw [if_neg (by decide +kernel)]; exact ⟨rfl, rfl⟩))
    (fun os started H enc _ => lifted os started H enc)

end exShowAsk

theorem fnExactShowAsk_card : Rows.FnExactShowAskCardSaid :=
  Claim7.holds_tied_plain_at .later [] [.data, .data, .data, .sentinel, .sentinel, .data] true Rows.fnExactShowAskCard.stood.harness true
    exShowAsk.over (fun _ h => by cases h) (by kernel_rfl) (fun _ h => by cases h) fnExactShowAsk_row_tie rfl ⟨rfl, rfl⟩ (by kernel_rfl) rfl
    (fun f fn hf hfn => by
      obtain rfl : f = 5 := Option.some.inj ((show Tryz.prog.funcNamed Rows.fnExactShowAskRow.func = some 5 by kernel_rfl).symm.trans hf) |>.symm
      obtain rfl : fn = Tryz.f5 := (Option.some.inj (Tryz.func5.symm.trans hfn)).symm
      exact ⟨by kernel_rfl, fun j t ht => by
        rw [Tryz.params5] at ht
        have h3 : t = 34 := by
          rcases j with _ | j
          · simpa using ht.symm
          · simp at ht
        subst h3
        exact (show Tryz.prog.wantsStandIn 34 = false by kernel_rfl)⟩)
    (by kernel_rfl)

end Go.Proofs.YtmmandkellhbeaaGreatDoor
