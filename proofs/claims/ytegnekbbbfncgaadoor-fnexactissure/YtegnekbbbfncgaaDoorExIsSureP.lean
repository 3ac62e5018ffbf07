/-
  Proved: at every list of items the program's IsSure answers as its model does, it writes into nothing that it is given, and the law's argument reads afterwards as before; the listed variables (the table of powers of ten, two tables of bits, two errors) start as the program's text lays them, to which the card ties them; no other condition.
-/
import Derived.Test.YtegnekbbbfncgaaDoorRows
import Derived.Test.YtegnekbbbfncgaaDoorPart8
import Derived.Test.YtegnekbbbfncgaaDoorTie
import Derived.Test.YtegnekbbbfncgaaDoorCards
import Derived.Lib.SmallJoins
import Derived.SevenTiedAt
namespace Go.Proofs.YtegnekbbbfncgaaDoor
open Go.ChangeShapes Go.WideShapes Go.ChangeAt Go.RowKit Go.Joins

namespace exIsSure

theorem own : ownKnob Tryd.prog.godebug = none := by kernel_rfl

set_option maxRecDepth 100000 in
set_option maxHeartbeats 2000000 in
theorem walk (a : Option Addr) (cap : Nat) (l : List TI) (n : Nat) (hn : l.length = n) (w : World) (hrow : ItmAt w a l) (hfit : FitItm l) (hm : n ≤ maxLen) (hp : PowAt w) (he : ErrAt w) :
    Calls Tryd.prog 3 #[.slice a n cap] w fun e w' => e = .returned (.bool true) ∧ Below w.heap.size w w' := by
  have HP : Hid (PowAt w) := hp
  have HE : Hid (ErrAt w) := he
  have HK : Hid (ItmAt w a l) := hrow
  have HF : Hid (FitItm l) := hfit
  have HN : Hid (l.length = n) := hn
  obtain ⟨r, hr⟩ : ∃ r : Int, leftOfItm l 1048576 = r := ⟨_, rfl⟩
  have HRR : Hid (leftOfItm l 1048576 = r) := hr
  obtain ⟨y, hy⟩ : ∃ y, sureR l = y := ⟨_, rfl⟩
  have HY : Hid (sureR l = y) := hy
  clear hp he hrow hfit hn hr hy
  by_cases hr0 : r < 0
  · go_enter Tryd.func3, Tryd.ntmps3
    go_wp2_with fail
    refine (szI n a cap l HN.out _ HK.out HF.out hm r HRR.out).mono ?_
    rintro e w1 ⟨rfl, hb1⟩
    go_wp2
    go_ret
    exact ⟨rfl, hb1⟩
  have hle : (l.length : Int) + (weightItm l : Int) ≤ 1048576 := by
    have := HRR.out
    unfold leftOfItm at this
    split at this <;> omega
  have hnm : n ≤ 1048576 := by rw [← HN.out]; omega
  have HFI : Hid (FitI l) := by
    have : FitI l := by
      intro x hx
      have := oneI_le hx
      unfold oneItm at this
      unfold maxLen
      omega
    exact this
  have hbn : ∀ (x : Bool) (wz : World), (binOp .neq 4 (.bool x) (.bool x)).run Tryd.prog wz = .ok (.bool false) wz := fun x wz => by cases x <;> kernel_rfl
  clear hle
  go_enter Tryd.func3, Tryd.ntmps3
  go_wp2_with fail
  refine (szI n a cap l HN.out _ HK.out HF.out hm r HRR.out).mono ?_
  rintro e w1 ⟨rfl, hb1⟩
  go_wp2_with fail
  refine (tosI n a cap l HN.out _ (HK.out.below hb1) hnm).mono ?_
  rintro e w2 ⟨g2, rfl, T2, _, _, hb2⟩
  have hx2 := chain hb1 hb2
  go_wp2_with fail
  refine (sure_spec _ _ l n HN.out _ T2 HF.out hm y HY.out).mono ?_
  rintro e w3 ⟨rfl, hb3⟩
  have hx3 := chain hx2 hb3
  clear T2 hb2 hb3 hx2
  go_wp2_with fail
  refine (tosI n a cap l HN.out _ (HK.out.below hx3) hnm).mono ?_
  rintro e w4 ⟨g4, rfl, T4, _, _, hb4⟩
  have hx4 := chain hx3 hb4
  have T4h : Hid (ItmAt w4 (some ⟨g4, 0, none⟩) l) := T4
  clear T4 hb4 hx3
  go_wp2_with fail
  refine (sure_impl _ _ l n HN.out _ T4h.out HFI.out hm (HP.out.below hx4) (HE.out.below hx4) y HY.out).mono ?_
  rintro e w5 ⟨rfl, hb5⟩
  have hx5 := chain hx4 hb5
  have T5 : Hid (ItmAt w5 (some ⟨g4, 0, none⟩) l) := T4h.out.below hb5
  clear T4h hb5 hx4
  go_wp2_with fail
  refine (tosI n a cap l HN.out _ (HK.out.below hx5) hnm).mono ?_
  rintro e w6 ⟨g6, rfl, T6, _, _, hb6⟩
  have hx6 := chain hx5 hb6
  have T56 : Hid (ItmAt w6 (some ⟨g4, 0, none⟩) l) := T5.out.below hb6
  have T6h : Hid (ItmAt w6 (some ⟨g6, 0, none⟩) l) := T6
  clear T5 T6 hb6 hx5
  go_wp2_with fail
  refine (eqsI n _ _ _ _ l HN.out _ T56.out T6h.out hm).mono ?_
  rintro e w7 ⟨rfl, hb7⟩
  have hx7 := chain hx6 hb7
  go_wp2
  go_ret
  exact ⟨rfl, hx7⟩

theorem laidOut : laidOutB Tryd.prog = true := by kernel_rfl

theorem var_laid {W : World} (h : laidMetH Tryd.prog Rows.fnExactIsSureRow.laid W) : PowAt W ∧ ErrAt W := by
  rw [MakeChecks.laidMetH_plain _ _ _ (by kernel_rfl)] at h
  have h2 : laidMet Tryd.prog (("internal/strconv.uint64pow10", Rows.laid_internal_strconv_uint64pow10) :: ("strconv.ErrRange", Rows.laid_strconv_ErrRange) :: ("strconv.ErrSyntax", Rows.laid_strconv_ErrSyntax) :: []) W := laidMet.tail (laidMet.tail h)
  exact ⟨pow_of h2, err_of h2.tail⟩

/-- The door's own heap meets the condition. -/
theorem door_met (os : Os) (args : Array Value) : laidMetH Tryd.prog Rows.fnExactIsSureRow.laid ((World.doorLaid Tryd.prog 400 os).forCall (fun _ _ => 0) ⟨#[], args, []⟩).memory :=
  laidMetH_of_parts3 (fuel := 8) (laidMet_of_run' 8 (by kernel_rfl) (by kernel_rfl)) (by kernel_rfl) (by kernel_rfl)

set_option maxRecDepth 100000 in
theorem lifted (os : Os) (started : os.Started) (H : Type) (enc : TypeId × Value → H) :
    ReturnsInHanded {} Tryd.checked os 3 .any (fun w args => (Rows.fnExactIsSureSpec.pre enc Tryd.prog Tryd.f3 [] false w args ∧ laidMetH Tryd.prog Rows.fnExactIsSureRow.laid w) ∧ sizedMet enc Tryd.prog Tryd.f3 (OpenSpec.ofChange Rows.fnExactIsSureSpec) false w args)
      (Rows.fnExactIsSureSpec.post enc Tryd.prog Tryd.f3 false true false false) := by
  refine returnsInHanded_of_change_and (C := Tryd.checked) (X := fun w _ => laidMetH Tryd.prog Rows.fnExactIsSureRow.laid w) (fun _ _ _ hh h => h.of_heap hh) own started (by kernel_rfl) Tryd.func3
    (ChangeSpec.witness_shaped (enc := enc) (C := Tryd.checked) (os := os) (X := fun w _ => laidMetH Tryd.prog Rows.fnExactIsSureRow.laid w) false (World.doorLaid Tryd.prog 400 os) #[.slice none 0 0] 8 rfl (World.shaped_of_RefB (by kernel_rfl) (by kernel_rfl)) (by kernel_rfl) (by kernel_rfl) (by kernel_rfl) (door_met os _)) ?_
  intro W base args ds gs before hval0 hW _ _ hL _
  have hval : ∀ (j : Nat) t v, Tryd.f3.params[j]? = some t → args[j]? = some v → Value.okWide Tryd.prog W .any base t v := hval0
  have hW' := hW
  obtain ⟨p, q, hA0, hV, rfl, hfz, hnd⟩ := hW
  have hA : DataW.TrodAll enc Tryd.prog W 0 (fun _ => true) true Tryd.f3.params.toList args.toList ds p := hA0
  rw [Tryd.params3] at hA hval
  obtain ⟨v0, d0, rfl, rfl, h0⟩ := trodAll_one hA
  obtain ⟨rfl, rfl⟩ := trodVars_none hV
  have k0 := h0
  have lt0 : ∀ x ∈ p, x.block < W.heap.size := by obtain ⟨m, hm⟩ := k0; exact DataW.trod_lt m _ _ _ hm
  obtain ⟨a0, n0, c0, rfl⟩ := okWide_slice Tryd.underlying22 (hval 0 22 v0 rfl rfl)
  obtain ⟨m0, hm0⟩ := h0
  obtain ⟨l0, hl0, hK0, hF0, hM0, hN0⟩ := open_itms Tryd.underlying22 Tryd.underlying33 Tryd.underlying31 (by kernel_rfl) rfl rfl rfl rfl rfl rfl (by kernel_rfl) (by kernel_rfl) (by kernel_rfl) (by kernel_rfl) (by kernel_rfl) (by kernel_rfl) Tryd.underlying2 Tryd.underlying9 Tryd.underlying2 Tryd.underlying2 Tryd.underlying9 hm0
  clear hA0 hval0
  obtain ⟨hp, he⟩ := var_laid hL
  refine (walk a0 c0 l0 n0 hl0 W hK0 hF0 hM0 hp he).mono fun e W' ⟨he, bel⟩ => ?_
  subst he
  exact ⟨_, rfl, _, _, _, [], _, [], hW', trodAll_mk1 (shut_bool Tryd.underlying4 _), trodAll_mk1 (Below.trod laidOut (by kernel_rfl) (of_decide_eq_true (by kernel_rfl)) k0 bel lt0), rfl, bel.frame _, fun h => by cases h⟩

theorem fact0 {a b : Bool} (h : a = true) (h2 : b = true) : (a && b) = true := by rw [h, h2]; rfl
theorem fact1 : (Rows.fnExactIsSureRow.wf (OpenSpec.ofChange Rows.fnExactIsSureSpec)) = true := by kernel_rfl
theorem fact2 : (laidOutB Tryd.prog) = true := by kernel_rfl
theorem fact3 : (mapsRowed Tryd.prog) = true := by kernel_rfl
theorem fact4 : (Tryd.f3.params.all (Tryd.prog.readableRec ·)) = true := by kernel_rfl
theorem fact5 : (namedTie Tryd.prog Rows.fnExactIsSureRow.named Rows.fnExactIsSureSpec.vars) = true := by kernel_rfl
theorem fact6 : ((Rows.fnExactIsSureRow.stops == [])) = true := by kernel_rfl
theorem fact7 : ((Tryd.prog.stops == [])) = true := by kernel_rfl
theorem fact8 : ((Rows.fnExactIsSureRow.knobs == [])) = true := by kernel_rfl
theorem fact9 : ((Tryd.prog.stopKnobs == [])) = true := by kernel_rfl
theorem fact10 : ((Rows.fnExactIsSureRow.inPlace == Tryd.prog.inPlace 3)) = true := by kernel_rfl
theorem fact11 : ((Rows.fnExactIsSureRow.unfollowed == Tryd.prog.unfollowed 3)) = true := by kernel_rfl
theorem fact12 : ((Rows.fnExactIsSureRow.recurses == Tryd.prog.recurses 3)) = true := by kernel_rfl
theorem fact13 : ((Rows.fnExactIsSureRow.named == Tryd.prog.varsNamed 3)) = true := by kernel_rfl
theorem fact14 : ((Rows.fnExactIsSureRow.maps == (Tryd.f3.params.toList ++ Rows.fnExactIsSureSpec.plain.varTypes Tryd.prog).any (Tryd.prog.mapsRec ·))) = true := by kernel_rfl
theorem fact15 : ((Rows.fnExactIsSureRow.ifaces == (Tryd.f3.params.toList ++ Rows.fnExactIsSureSpec.plain.varTypes Tryd.prog).any (Tryd.prog.ifacesRec ·))) = true := by kernel_rfl
theorem fact16 : ((Rows.fnExactIsSureRow.mapsOut == Tryd.prog.mapsAmong Tryd.f3.resultTypes.toList)) = true := by kernel_rfl
theorem fact17 : ((Rows.fnExactIsSureRow.loops == (Tryd.f3.params.toList ++ Rows.fnExactIsSureSpec.plain.varTypes Tryd.prog).any (Tryd.prog.loopsFrom ·))) = true := by kernel_rfl
theorem fact18 : ((Rows.fnExactIsSureRow.wideKeys == (Tryd.f3.params.toList ++ Rows.fnExactIsSureSpec.plain.varTypes Tryd.prog ++ Tryd.f3.resultTypes.toList).any (Tryd.prog.wideKeysFrom ·))) = true := by kernel_rfl
theorem fact19 : (Rows.fnExactIsSureSpec.vars.all (Tryd.prog.varReadable ·)) = true := by kernel_rfl
theorem fact20 : (Tryd.f3.resultTypes.all (fun t => Tryd.prog.readableRec t && decide (t < Tryd.prog.types.size))) = true := by kernel_rfl
theorem fact21 : ((Rows.fnExactIsSureRow.ifacesOut == Tryd.f3.resultTypes.toList.any (Tryd.prog.ifacesRec ·))) = true := by kernel_rfl
theorem fact22 : ((Rows.fnExactIsSureRow.loopsOut == Tryd.f3.resultTypes.toList.any (Tryd.prog.loopsFrom ·))) = true := by kernel_rfl
theorem fact23 : ((Rows.fnExactIsSureRow.plainKeys == Tryd.prog.plainKeys)) = true := by kernel_rfl
theorem fact24 : (Rows.fnExactIsSureRow.shortTexts.isNone) = true := by kernel_rfl
theorem fact25 : (Tryd.prog.stopsHeard) = true := by kernel_rfl
theorem fact26 : (Tryd.prog.mayEnter) = true := by kernel_rfl
theorem fact27 : ((Rows.fnExactIsSureRow.lifted == Tryd.prog.liftsFinal)) = true := by kernel_rfl
theorem fact28 : ((Tryd.prog.make == some Rows.fnExactIsSureRow.make)) = true := by kernel_rfl
theorem fact30 : ((Rows.fnExactIsSureRow.pinned == Rows.fnExactIsSureRow.pinnedBy)) = true := by kernel_rfl
theorem fact31 : ((Rows.fnExactIsSureRow.veiled == (Tryd.f3.params.toList ++ Rows.fnExactIsSureSpec.plain.varTypes Tryd.prog ++ Tryd.f3.resultTypes.toList).any (Tryd.prog.veiledRec ·))) = true := by kernel_rfl
theorem fact32 : (Rows.fnExactIsSureRow.veiledFits Tryd.prog Tryd.f3.params.toList (Tryd.f3.params.toList ++ Rows.fnExactIsSureSpec.plain.varTypes Tryd.prog ++ Tryd.f3.resultTypes.toList)) = true := by kernel_rfl
set_option maxRecDepth 100000 in
theorem closed : joinedFacts Tryd.prog 3 Tryd.f3 Rows.fnExactIsSureSpec Rows.fnExactIsSureRow = true := by
  unfold joinedFacts
  exact (fact0 (fact0 (fact0 (fact0 (fact0 (fact0 (fact0 (fact0 (fact0 (fact0 (fact0 (fact0 (fact0 (fact0 (fact0 (fact0 (fact0 (fact0 (fact0 (fact0 (fact0 (fact0 (fact0 (fact0 (fact0 (fact0 (fact0 (fact0 (fact0 (fact0 (fact0 fact1 fact2) fact3) fact4) fact5) fact6) fact7) fact8) fact9) fact10) fact11) fact12) fact13) fact14) fact15) fact16) fact17) fact18) fact19) fact20) fact21) fact22) fact23) fact24) fact25) fact26) fact27) fact28) (by kernel_rfl)) fact30) fact31) fact32)
theorem named : Tryd.prog.funcNamed Rows.fnExactIsSureRow.func = some 3 := by kernel_rfl
theorem instOf : Tryd.f3.isInstance Tryd.prog Rows.fnExactIsSureRow.origin Rows.fnExactIsSureRow.targs := of_decide_eq_true (by kernel_rfl)
theorem wrapOf : Tryd.f3.isWrapper Tryd.prog Rows.fnExactIsSureRow.wrapper Rows.fnExactIsSureRow.mainSum := by unfold Func.isWrapper; first | (rw [if_pos (by decide +kernel)]; kernel_rfl) | (rw [if_neg (by decide +kernel)]; exact ⟨rfl, rfl⟩)
theorem over : Rows.fnExactIsSureRow.holds Tryd.pinned (OpenSpec.ofChange Rows.fnExactIsSureSpec) :=
  OpenClaim.holds_of_wide 3 Tryd.f3 rfl rfl rfl rfl rfl rfl rfl ⟨rfl, rfl, rfl, rfl, rfl⟩ rfl rfl rfl rfl rfl named Tryd.func3 closed
    instOf wrapOf
    (fun os started H enc _ => lifted os started H enc)

end exIsSure

theorem fnExactIsSure_wf : Rows.fnExactIsSureRow.wfByText (OpenSpec.ofChange Rows.fnExactIsSureSpec) = true := by kernel_rfl
theorem fnExactIsSure_main : Tryd.prog.mainIs = some (Rows.fnExactIsSureCard.stood.harness.1, Rows.fnExactIsSureCard.stood.harness.2.toList) := by kernel_rfl
theorem fnExactIsSure_looks : true = Tryd.prog.looks [] := by kernel_rfl
theorem fnExactIsSure_want0 : Tryd.prog.wantsStandIn 22 = false := by kernel_rfl
theorem fnExactIsSure_goes : false = Rows.fnExactIsSureRow.goesBy Tryd.prog := by kernel_rfl
theorem fnExactIsSure_card : Rows.FnExactIsSureCardSaid :=
  Claim7.holds_tied_plain_at .later [] [.data, .data, .data, .sentinel, .sentinel] true Rows.fnExactIsSureCard.stood.harness true
    exIsSure.over (fun _ h => by cases h) fnExactIsSure_wf (fun _ h => by cases h) fnExactIsSure_row_tie rfl ⟨rfl, rfl⟩ fnExactIsSure_main rfl
    (fun f fn hf hfn => by
      obtain rfl : f = 3 := Option.some.inj (exIsSure.named.symm.trans hf) |>.symm
      obtain rfl : fn = Tryd.f3 := (Option.some.inj (Tryd.func3.symm.trans hfn)).symm
      exact ⟨fnExactIsSure_looks, fun j t ht => by
        rw [Tryd.params3] at ht
        have h3 : t = 22 := by
          rcases j with _ | j
          · simpa using ht.symm
          · simp at ht
        subst h3
        exact fnExactIsSure_want0⟩)
    fnExactIsSure_goes

end Go.Proofs.YtegnekbbbfncgaaDoor
