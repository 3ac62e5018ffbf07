/-
  Proved: at every list of sieves the program's Flows answers as its model does, it writes into nothing that it is given, and the law's argument reads afterwards as before; the listed variables (the table of powers of ten, two tables of bits, two errors) start as the program's text lays them, to which the card ties them; no other condition.
-/
import Derived.Test.YtpggjgilklpncaaGreatDoorRows
import Derived.Test.YtpggjgilklpncaaGreatDoorPart17
import Derived.Test.YtpggjgilklpncaaGreatDoorTie
import Derived.Test.YtpggjgilklpncaaGreatDoorCards
import Derived.Lib.SmallJoins
import Derived.SevenTiedAt
namespace Go.Proofs.YtpggjgilklpncaaGreatDoor
open Go.ChangeShapes Go.WideShapes Go.ChangeAt Go.RowKit Go.Joins

namespace exFlows

theorem own : ownKnob Tryz.prog.godebug = none := by kernel_rfl

set_option maxRecDepth 100000 in
set_option maxHeartbeats 2000000 in
theorem walk (a : Option Addr) (cap : Nat) (T : List SV) (n : Nat) (hn : T.length = n) (w : World) (ht : SivsAt w a T) (hm : n ≤ maxLen) (hp : PowAt w) (he : ErrAt w) :
    Calls Tryz.prog 3 #[.slice a n cap] w fun e w' => e = .returned (.bool true) ∧ Below w.heap.size w w' := by
  have HT : Hid (SivsAt w a T) := ht
  have HN : Hid (T.length = n) := hn
  have HP : Hid (PowAt w) := hp
  have HE : Hid (ErrAt w) := he
  obtain ⟨x, hx1⟩ : ∃ x, leftVS T 1048576 = x := ⟨_, rfl⟩
  have HX1 : Hid (leftVS T 1048576 = x) := hx1
  clear ht hn hp he
  by_cases hx0 : x < 0
  · clear hx1
    go_enter Tryz.func3, Tryz.ntmps3
    go_wp2_with fail
    refine (szsivs_laws a cap T n HN.out 1048576 _ HT.out hm (by omega) (by omega)).mono ?_
    rw [HX1.out]
    rintro e w1 ⟨rfl, hb1⟩
    go_wp2
    go_ret
    exact ⟨rfl, hb1⟩
  have hx0' : 0 ≤ x := by omega
  have hq := leftVS_fits (T := T) (x := 1048576) (by omega) (by rw [hx1]; exact hx0')
  have HM : Hid (∀ i (hi : i < T.length), MildV T[i]) := hq.2
  have Z : Hid (∀ w', Below w.heap.size w w' → Calls Tryz.prog 6 #[.slice a n cap] w' fun e w'' => ∃ g, e = .returned (.slice (some ⟨g, 0, none⟩) n n) ∧ SivsAt w'' (some ⟨g, 0, none⟩) T ∧ Below w'.heap.size w' w'') := tosivs_lies a cap T n HN.out w HT.out hq
  obtain ⟨b, hb⟩ : ∃ b, flowB T = b := ⟨_, rfl⟩
  have HB : Hid (flowB T = b) := hb
  have hbn : ∀ (x : Bool) (wz : World), (binOp .neq 4 (.bool x) (.bool x)).run Tryz.prog wz = .ok (.bool false) wz := fun x wz => by cases x <;> kernel_rfl
  clear hb hq hx1
  go_enter Tryz.func3, Tryz.ntmps3
  go_wp2_with fail
  refine (szsivs_laws a cap T n HN.out 1048576 _ HT.out hm (by omega) (by omega)).mono ?_
  rw [HX1.out]
  rintro e w1 ⟨rfl, hx⟩
  go_wp2_with fail
  refine (Z.out _ hx).mono ?_
  rintro e w2 ⟨g1, rfl, T1, hb2⟩
  replace hx := chain hx hb2
  clear hb2
  go_wp2_with fail
  refine (flows_spec _ _ T n HN.out _ T1 hm b HB.out).mono ?_
  rintro e w3 ⟨rfl, hb3⟩
  replace hx := chain hx hb3
  clear hb3 T1
  go_wp2_with fail
  refine (Z.out _ hx).mono ?_
  rintro e w4 ⟨g2, rfl, T2, hb4⟩
  replace hx := chain hx hb4
  clear hb4
  go_wp2_with fail
  refine (flows_impl _ T n HN.out _ T2 HM.out hm (HP.out.below hx) (HE.out.below hx) b HB.out).mono ?_
  rintro e w5 ⟨rfl, hb5⟩
  have HT5 : Hid (SivsAt w5 (some ⟨g2, 0, none⟩) T) := T2.below hb5
  replace hx := chain hx hb5
  clear hb5 T2
  go_wp2_with fail
  refine (Z.out _ hx).mono ?_
  rintro e w6 ⟨g3, rfl, T3, hb6⟩
  have HT6 : Hid (SivsAt w6 (some ⟨g2, 0, none⟩) T) := HT5.out.below hb6
  replace hx := chain hx hb6
  clear hb6 HT5
  go_wp2_with fail
  refine (eqsivs_laws _ _ _ _ T n HN.out _ HT6.out T3 hm).mono ?_
  rintro e w7 ⟨rfl, hb7⟩
  replace hx := chain hx hb7
  clear hb7 HT6 T3
  go_wp2
  go_ret
  exact ⟨rfl, hx⟩

theorem laidOut : laidOutB Tryz.prog = true := by kernel_rfl

theorem var_laid {W : World} (h : laidMetH Tryz.prog Rows.fnExactFlowsRow.laid W) : PowAt W ∧ ErrAt W := by
  rw [MakeChecks.laidMetH_plain _ _ _ (by kernel_rfl)] at h
  have h2 : laidMet Tryz.prog (("internal/strconv.uint64pow10", Rows.laid_internal_strconv_uint64pow10) :: ("strconv.ErrRange", Rows.laid_strconv_ErrRange) :: ("strconv.ErrSyntax", Rows.laid_strconv_ErrSyntax) :: []) W := laidMet.tail (laidMet.tail h)
  exact ⟨pow_of h2, err_of h2.tail⟩

/-- The door's own heap meets the condition. -/
theorem door_met (os : Os) (args : Array Value) : laidMetH Tryz.prog Rows.fnExactFlowsRow.laid ((World.doorLaid Tryz.prog 400 os).forCall (fun _ _ => 0) ⟨#[], args, []⟩).memory :=
  laidMetH_of_parts3 (fuel := 8) (laidMet_of_run' 8 (by kernel_rfl) (by kernel_rfl)) (by kernel_rfl) (by kernel_rfl)

set_option maxRecDepth 100000 in
theorem lifted (os : Os) (started : os.Started) (H : Type) (enc : TypeId × Value → H) :
    ReturnsInHanded {} Tryz.checked os 3 .any (fun w args => (Rows.fnExactFlowsSpec.pre enc Tryz.prog Tryz.f3 [] false w args ∧ laidMetH Tryz.prog Rows.fnExactFlowsRow.laid w) ∧ sizedMet enc Tryz.prog Tryz.f3 (OpenSpec.ofChange Rows.fnExactFlowsSpec) false w args)
      (Rows.fnExactFlowsSpec.post enc Tryz.prog Tryz.f3 false true false false) := by
  refine returnsInHanded_of_change_and (C := Tryz.checked) (X := fun w _ => laidMetH Tryz.prog Rows.fnExactFlowsRow.laid w) (fun _ _ _ hh h => h.of_heap hh) own started (by kernel_rfl) Tryz.func3
    (ChangeSpec.witness_shaped (enc := enc) (C := Tryz.checked) (os := os) (X := fun w _ => laidMetH Tryz.prog Rows.fnExactFlowsRow.laid w) false (World.doorLaid Tryz.prog 400 os) #[.slice none 0 0] 8 rfl (World.shaped_of_RefB (by kernel_rfl) (by kernel_rfl)) (by kernel_rfl) (by kernel_rfl) (by kernel_rfl) (door_met os _)) ?_
  intro W base args ds gs before hval0 hW _ _ hL _
  have hval : ∀ (j : Nat) t v, Tryz.f3.params[j]? = some t → args[j]? = some v → Value.okWide Tryz.prog W .any base t v := hval0
  have hW' := hW
  obtain ⟨p, q, hA0, hV, rfl, hfz, hnd⟩ := hW
  have hA : DataW.TrodAll enc Tryz.prog W 0 (fun _ => true) true Tryz.f3.params.toList args.toList ds p := hA0
  rw [Tryz.params3] at hA hval
  obtain ⟨v0, d0, rfl, rfl, h0⟩ := trodAll_one hA
  obtain ⟨rfl, rfl⟩ := trodVars_none hV
  have k0 := h0
  have lt0 : ∀ x ∈ p, x.block < W.heap.size := by obtain ⟨m, hm⟩ := k0; exact DataW.trod_lt m _ _ _ hm
  obtain ⟨a0, n0, c0, rfl⟩ := okWide_slice Tryz.underlying22 (hval 0 22 v0 rfl rfl)
  obtain ⟨m0, hm0⟩ := h0
  obtain ⟨T0, hl0, hT0, hM0, hC0, hN0⟩ := open_sieves hm0
  clear hA0 hval0
  obtain ⟨hp, he⟩ := var_laid hL
  refine (walk a0 c0 T0 n0 hl0 W hT0 hM0 hp he).mono fun e W' ⟨he, bel⟩ => ?_
  subst he
  exact ⟨_, rfl, _, _, _, [], _, [], hW', trodAll_mk1 (shut_bool Tryz.underlying4 _), trodAll_mk1 (Below.trod laidOut (by kernel_rfl) (of_decide_eq_true (by kernel_rfl)) k0 bel lt0), rfl, bel.frame _, fun h => by cases h⟩

theorem fact0 {a b : Bool} (h : a = true) (h2 : b = true) : (a && b) = true := by rw [h, h2]; rfl
theorem fact1 : (Rows.fnExactFlowsRow.wf (OpenSpec.ofChange Rows.fnExactFlowsSpec)) = true := by kernel_rfl
theorem fact2 : (laidOutB Tryz.prog) = true := by kernel_rfl
theorem fact3 : (mapsRowed Tryz.prog) = true := by kernel_rfl
theorem fact4 : (Tryz.f3.params.all (Tryz.prog.readableRec ·)) = true := by kernel_rfl
theorem fact5 : (namedTie Tryz.prog Rows.fnExactFlowsRow.named Rows.fnExactFlowsSpec.vars) = true := by kernel_rfl
theorem fact6 : ((Rows.fnExactFlowsRow.stops == [])) = true := by kernel_rfl
theorem fact7 : ((Tryz.prog.stops == [])) = true := by kernel_rfl
theorem fact8 : ((Rows.fnExactFlowsRow.knobs == [])) = true := by kernel_rfl
theorem fact9 : ((Tryz.prog.stopKnobs == [])) = true := by kernel_rfl
theorem fact10 : ((Rows.fnExactFlowsRow.inPlace == Tryz.prog.inPlace 3)) = true := by kernel_rfl
theorem fact11 : ((Rows.fnExactFlowsRow.unfollowed == Tryz.prog.unfollowed 3)) = true := by kernel_rfl
theorem fact12 : ((Rows.fnExactFlowsRow.recurses == Tryz.prog.recurses 3)) = true := by kernel_rfl
theorem fact13 : ((Rows.fnExactFlowsRow.named == Tryz.prog.varsNamed 3)) = true := by kernel_rfl
theorem fact14 : ((Rows.fnExactFlowsRow.maps == (Tryz.f3.params.toList ++ Rows.fnExactFlowsSpec.plain.varTypes Tryz.prog).any (Tryz.prog.mapsRec ·))) = true := by kernel_rfl
theorem fact15 : ((Rows.fnExactFlowsRow.ifaces == (Tryz.f3.params.toList ++ Rows.fnExactFlowsSpec.plain.varTypes Tryz.prog).any (Tryz.prog.ifacesRec ·))) = true := by kernel_rfl
theorem fact16 : ((Rows.fnExactFlowsRow.mapsOut == Tryz.prog.mapsAmong Tryz.f3.resultTypes.toList)) = true := by kernel_rfl
theorem fact17 : ((Rows.fnExactFlowsRow.loops == (Tryz.f3.params.toList ++ Rows.fnExactFlowsSpec.plain.varTypes Tryz.prog).any (Tryz.prog.loopsFrom ·))) = true := by kernel_rfl
theorem fact18 : ((Rows.fnExactFlowsRow.wideKeys == (Tryz.f3.params.toList ++ Rows.fnExactFlowsSpec.plain.varTypes Tryz.prog ++ Tryz.f3.resultTypes.toList).any (Tryz.prog.wideKeysFrom ·))) = true := by kernel_rfl
theorem fact19 : (Rows.fnExactFlowsSpec.vars.all (Tryz.prog.varReadable ·)) = true := by kernel_rfl
theorem fact20 : (Tryz.f3.resultTypes.all (fun t => Tryz.prog.readableRec t && decide (t < Tryz.prog.types.size))) = true := by kernel_rfl
theorem fact21 : ((Rows.fnExactFlowsRow.ifacesOut == Tryz.f3.resultTypes.toList.any (Tryz.prog.ifacesRec ·))) = true := by kernel_rfl
theorem fact22 : ((Rows.fnExactFlowsRow.loopsOut == Tryz.f3.resultTypes.toList.any (Tryz.prog.loopsFrom ·))) = true := by kernel_rfl
theorem fact23 : ((Rows.fnExactFlowsRow.plainKeys == Tryz.prog.plainKeys)) = true := by kernel_rfl
theorem fact24 : (Rows.fnExactFlowsRow.shortTexts.isNone) = true := by kernel_rfl
theorem fact25 : (Tryz.prog.stopsHeard) = true := by kernel_rfl
theorem fact26 : (Tryz.prog.mayEnter) = true := by kernel_rfl
theorem fact27 : ((Rows.fnExactFlowsRow.lifted == Tryz.prog.liftsFinal)) = true := by kernel_rfl
theorem fact28 : ((Tryz.prog.make == some Rows.fnExactFlowsRow.make)) = true := by kernel_rfl
theorem fact30 : ((Rows.fnExactFlowsRow.pinned == Rows.fnExactFlowsRow.pinnedBy)) = true := by kernel_rfl
theorem fact31 : ((Rows.fnExactFlowsRow.veiled == (Tryz.f3.params.toList ++ Rows.fnExactFlowsSpec.plain.varTypes Tryz.prog ++ Tryz.f3.resultTypes.toList).any (Tryz.prog.veiledRec ·))) = true := by kernel_rfl
theorem fact32 : (Rows.fnExactFlowsRow.veiledFits Tryz.prog Tryz.f3.params.toList (Tryz.f3.params.toList ++ Rows.fnExactFlowsSpec.plain.varTypes Tryz.prog ++ Tryz.f3.resultTypes.toList)) = true := by kernel_rfl
set_option maxRecDepth 100000 in
theorem closed : joinedFacts Tryz.prog 3 Tryz.f3 Rows.fnExactFlowsSpec Rows.fnExactFlowsRow = true := by
  unfold joinedFacts
  exact (fact0 (fact0 (fact0 (fact0 (fact0 (fact0 (fact0 (fact0 (fact0 (fact0 (fact0 (fact0 (fact0 (fact0 (fact0 (fact0 (fact0 (fact0 (fact0 (fact0 (fact0 (fact0 (fact0 (fact0 (fact0 (fact0 (fact0 (fact0 (fact0 (fact0 (fact0 fact1 fact2) fact3) fact4) fact5) fact6) fact7) fact8) fact9) fact10) fact11) fact12) fact13) fact14) fact15) fact16) fact17) fact18) fact19) fact20) fact21) fact22) fact23) fact24) fact25) fact26) fact27) fact28) (by kernel_rfl)) fact30) fact31) fact32)
theorem named : Tryz.prog.funcNamed Rows.fnExactFlowsRow.func = some 3 := by kernel_rfl
theorem instOf : Tryz.f3.isInstance Tryz.prog Rows.fnExactFlowsRow.origin Rows.fnExactFlowsRow.targs := of_decide_eq_true (by kernel_rfl)
theorem wrapOf : Tryz.f3.isWrapper Tryz.prog Rows.fnExactFlowsRow.wrapper Rows.fnExactFlowsRow.mainSum := by unfold Func.isWrapper; first | (rw [if_pos (by decide +kernel)]; kernel_rfl) | (rw [if_neg (by decide +kernel)]; exact ⟨rfl, rfl⟩)
theorem over : Rows.fnExactFlowsRow.holds Tryz.pinned (OpenSpec.ofChange Rows.fnExactFlowsSpec) :=
  OpenClaim.holds_of_wide 3 Tryz.f3 rfl rfl rfl rfl rfl rfl rfl ⟨rfl, rfl, rfl, rfl, rfl⟩ rfl rfl rfl rfl rfl named Tryz.func3 closed
    instOf wrapOf
    (fun os started H enc _ => lifted os started H enc)

end exFlows

theorem fnExactFlows_wf : Rows.fnExactFlowsRow.wfByText (OpenSpec.ofChange Rows.fnExactFlowsSpec) = true := by kernel_rfl
theorem fnExactFlows_main : Tryz.prog.mainIs = some (Rows.fnExactFlowsCard.stood.harness.1, Rows.fnExactFlowsCard.stood.harness.2.toList) := by kernel_rfl
theorem fnExactFlows_looks : true = Tryz.prog.looks [] := by kernel_rfl
theorem fnExactFlows_want0 : Tryz.prog.wantsStandIn 22 = false := by kernel_rfl
theorem fnExactFlows_goes : false = Rows.fnExactFlowsRow.goesBy Tryz.prog := by kernel_rfl
theorem fnExactFlows_card : Rows.FnExactFlowsCardSaid :=
  Claim7.holds_tied_plain_at .later [] [.data, .data, .data, .sentinel, .sentinel] true Rows.fnExactFlowsCard.stood.harness true
    exFlows.over (fun _ h => by cases h) fnExactFlows_wf (fun _ h => by cases h) fnExactFlows_row_tie rfl ⟨rfl, rfl⟩ fnExactFlows_main rfl
    (fun f fn hf hfn => by
      obtain rfl : f = 3 := Option.some.inj (exFlows.named.symm.trans hf) |>.symm
      obtain rfl : fn = Tryz.f3 := (Option.some.inj (Tryz.func3.symm.trans hfn)).symm
      exact ⟨fnExactFlows_looks, fun j t ht => by
        rw [Tryz.params3] at ht
        have h3 : t = 22 := by
          rcases j with _ | j
          · simpa using ht.symm
          · simp at ht
        subst h3
        exact fnExactFlows_want0⟩)
    fnExactFlows_goes

end Go.Proofs.YtpggjgilklpncaaGreatDoor
