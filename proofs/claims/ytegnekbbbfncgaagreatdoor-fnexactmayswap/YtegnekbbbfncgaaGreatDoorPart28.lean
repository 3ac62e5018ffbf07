/-
  A part of the proof: ExMaySwapO.
-/
import Derived.Test.YtegnekbbbfncgaaGreatDoorPart27

/-
  The row of the law of MaySwap.
-/
namespace Go.Proofs.YtegnekbbbfncgaaGreatDoor
open Go.ChangeShapes Go.WideShapes Go.ChangeAt Go.RowKit Go.Joins

namespace exMaySwap

theorem fact0 {a b : Bool} (h : a = true) (h2 : b = true) : (a && b) = true := by rw [h, h2]; rfl
theorem fact1 : (Rows.fnExactMaySwapRow.wf (OpenSpec.ofChange Rows.fnExactMaySwapSpec)) = true := by kernel_rfl
theorem fact2 : (laidOutB Tryz.prog) = true := by kernel_rfl
theorem fact3 : (mapsRowed Tryz.prog) = true := by kernel_rfl
theorem fact4 : (Tryz.f5.params.all (Tryz.prog.readableRec ·)) = true := by kernel_rfl
theorem fact5 : (namedTie Tryz.prog Rows.fnExactMaySwapRow.named Rows.fnExactMaySwapSpec.vars) = true := by kernel_rfl
theorem fact6 : ((Rows.fnExactMaySwapRow.stops == [])) = true := by kernel_rfl
theorem fact7 : ((Tryz.prog.stops == [])) = true := by kernel_rfl
theorem fact8 : ((Rows.fnExactMaySwapRow.knobs == [])) = true := by kernel_rfl
theorem fact9 : ((Tryz.prog.stopKnobs == [])) = true := by kernel_rfl
theorem fact10 : ((Rows.fnExactMaySwapRow.inPlace == Tryz.prog.inPlace 5)) = true := by kernel_rfl
theorem fact11 : ((Rows.fnExactMaySwapRow.unfollowed == Tryz.prog.unfollowed 5)) = true := by kernel_rfl
theorem fact12 : ((Rows.fnExactMaySwapRow.recurses == Tryz.prog.recurses 5)) = true := by kernel_rfl
theorem fact13 : ((Rows.fnExactMaySwapRow.named == Tryz.prog.varsNamed 5)) = true := by kernel_rfl
theorem fact14 : ((Rows.fnExactMaySwapRow.maps == (Tryz.f5.params.toList ++ Rows.fnExactMaySwapSpec.plain.varTypes Tryz.prog).any (Tryz.prog.mapsRec ·))) = true := by kernel_rfl
theorem fact15 : ((Rows.fnExactMaySwapRow.ifaces == (Tryz.f5.params.toList ++ Rows.fnExactMaySwapSpec.plain.varTypes Tryz.prog).any (Tryz.prog.ifacesRec ·))) = true := by kernel_rfl
theorem fact16 : ((Rows.fnExactMaySwapRow.mapsOut == Tryz.prog.mapsAmong Tryz.f5.resultTypes.toList)) = true := by kernel_rfl
theorem fact17 : ((Rows.fnExactMaySwapRow.loops == (Tryz.f5.params.toList ++ Rows.fnExactMaySwapSpec.plain.varTypes Tryz.prog).any (Tryz.prog.loopsFrom ·))) = true := by kernel_rfl
theorem fact18 : ((Rows.fnExactMaySwapRow.wideKeys == (Tryz.f5.params.toList ++ Rows.fnExactMaySwapSpec.plain.varTypes Tryz.prog ++ Tryz.f5.resultTypes.toList).any (Tryz.prog.wideKeysFrom ·))) = true := by kernel_rfl
theorem fact19 : (Rows.fnExactMaySwapSpec.vars.all (Tryz.prog.varReadable ·)) = true := by kernel_rfl
theorem fact20 : (Tryz.f5.resultTypes.all (fun t => Tryz.prog.readableRec t && decide (t < Tryz.prog.types.size))) = true := by kernel_rfl
theorem fact21 : ((Rows.fnExactMaySwapRow.ifacesOut == Tryz.f5.resultTypes.toList.any (Tryz.prog.ifacesRec ·))) = true := by kernel_rfl
theorem fact22 : ((Rows.fnExactMaySwapRow.loopsOut == Tryz.f5.resultTypes.toList.any (Tryz.prog.loopsFrom ·))) = true := by kernel_rfl
theorem fact23 : ((Rows.fnExactMaySwapRow.plainKeys == Tryz.prog.plainKeys)) = true := by kernel_rfl
theorem fact24 : (Rows.fnExactMaySwapRow.shortTexts.isNone) = true := by kernel_rfl
theorem fact25 : (Tryz.prog.stopsHeard) = true := by kernel_rfl
theorem fact26 : (Tryz.prog.mayEnter) = true := by kernel_rfl
theorem fact27 : ((Rows.fnExactMaySwapRow.lifted == Tryz.prog.liftsFinal)) = true := by kernel_rfl
theorem fact28 : ((Tryz.prog.make == some Rows.fnExactMaySwapRow.make)) = true := by kernel_rfl
theorem fact30 : ((Rows.fnExactMaySwapRow.pinned == Rows.fnExactMaySwapRow.pinnedBy)) = true := by kernel_rfl
theorem fact31 : ((Rows.fnExactMaySwapRow.veiled == (Tryz.f5.params.toList ++ Rows.fnExactMaySwapSpec.plain.varTypes Tryz.prog ++ Tryz.f5.resultTypes.toList).any (Tryz.prog.veiledRec ·))) = true := by kernel_rfl
theorem fact32 : (Rows.fnExactMaySwapRow.veiledFits Tryz.prog Tryz.f5.params.toList (Tryz.f5.params.toList ++ Rows.fnExactMaySwapSpec.plain.varTypes Tryz.prog ++ Tryz.f5.resultTypes.toList)) = true := by kernel_rfl
set_option maxRecDepth 100000 in
theorem closed : joinedFacts Tryz.prog 5 Tryz.f5 Rows.fnExactMaySwapSpec Rows.fnExactMaySwapRow = true := by
  unfold joinedFacts
  exact (fact0 (fact0 (fact0 (fact0 (fact0 (fact0 (fact0 (fact0 (fact0 (fact0 (fact0 (fact0 (fact0 (fact0 (fact0 (fact0 (fact0 (fact0 (fact0 (fact0 (fact0 (fact0 (fact0 (fact0 (fact0 (fact0 (fact0 (fact0 (fact0 (fact0 (fact0 fact1 fact2) fact3) fact4) fact5) fact6) fact7) fact8) fact9) fact10) fact11) fact12) fact13) fact14) fact15) fact16) fact17) fact18) fact19) fact20) fact21) fact22) fact23) fact24) fact25) fact26) fact27) fact28) (by kernel_rfl)) fact30) fact31) fact32)
theorem named : Tryz.prog.funcNamed Rows.fnExactMaySwapRow.func = some 5 := by kernel_rfl
theorem instOf : Tryz.f5.isInstance Tryz.prog Rows.fnExactMaySwapRow.origin Rows.fnExactMaySwapRow.targs := of_decide_eq_true (by kernel_rfl)
theorem wrapOf : Tryz.f5.isWrapper Tryz.prog Rows.fnExactMaySwapRow.wrapper Rows.fnExactMaySwapRow.mainSum := by unfold Func.isWrapper; first | (rw [if_pos (by decide +kernel)]; kernel_rfl) | (rw [if_neg (by decide +kernel)]; exact ⟨rfl, rfl⟩)
theorem over : Rows.fnExactMaySwapRow.holds Tryz.pinned (OpenSpec.ofChange Rows.fnExactMaySwapSpec) :=
  OpenClaim.holds_of_wide 5 Tryz.f5 rfl rfl rfl rfl rfl rfl rfl ⟨rfl, rfl, rfl, rfl, rfl⟩ rfl rfl rfl rfl rfl named Tryz.func5 closed
    instOf wrapOf
    (fun os started H enc _ => lifted os started H enc)

end exMaySwap
end Go.Proofs.YtegnekbbbfncgaaGreatDoor
