/-
  A part of the proof: ExFastOfO.
-/
import Derived.Test.YtjjkdbmjloolaaaGreatDoorPart49

namespace Go.Proofs.YtjjkdbmjloolaaaGreatDoor
open Go.ChangeShapes Go.WideShapes Go.ChangeAt Go.RowKit Go.Joins
namespace exFastOf
theorem fact0 {a b : Bool} (h : a = true) (h2 : b = true) : (a && b) = true := by rw [h, h2]; rfl
theorem fact1 : (Rows.fnExactFastOfRow.wf (OpenSpec.ofChange Rows.fnExactFastOfSpec)) = true := by kernel_rfl
theorem fact2 : (laidOutB Tryz.prog) = true := by kernel_rfl
theorem fact3 : (mapsRowed Tryz.prog) = true := by kernel_rfl
theorem fact4 : (Tryz.f3.params.all (Tryz.prog.readableRec ·)) = true := by kernel_rfl
theorem fact5 : (namedTie Tryz.prog Rows.fnExactFastOfRow.named Rows.fnExactFastOfSpec.vars) = true := by kernel_rfl
theorem fact6 : ((Rows.fnExactFastOfRow.stops == [])) = true := by kernel_rfl
theorem fact7 : ((Tryz.prog.stops == [])) = true := by kernel_rfl
theorem fact8 : ((Rows.fnExactFastOfRow.knobs == [])) = true := by kernel_rfl
theorem fact9 : ((Tryz.prog.stopKnobs == [])) = true := by kernel_rfl
theorem fact10 : ((Rows.fnExactFastOfRow.inPlace == Tryz.prog.inPlace 3)) = true := by kernel_rfl
theorem fact11 : ((Rows.fnExactFastOfRow.unfollowed == Tryz.prog.unfollowed 3)) = true := by kernel_rfl
theorem fact12 : ((Rows.fnExactFastOfRow.recurses == Tryz.prog.recurses 3)) = true := by kernel_rfl
theorem fact13 : ((Rows.fnExactFastOfRow.named == Tryz.prog.varsNamed 3)) = true := by kernel_rfl
theorem fact14 : ((Rows.fnExactFastOfRow.maps == (Tryz.f3.params.toList ++ Rows.fnExactFastOfSpec.plain.varTypes Tryz.prog).any (Tryz.prog.mapsRec ·))) = true := by kernel_rfl
theorem fact15 : ((Rows.fnExactFastOfRow.ifaces == (Tryz.f3.params.toList ++ Rows.fnExactFastOfSpec.plain.varTypes Tryz.prog).any (Tryz.prog.ifacesRec ·))) = true := by kernel_rfl
theorem fact16 : ((Rows.fnExactFastOfRow.mapsOut == Tryz.prog.mapsAmong Tryz.f3.resultTypes.toList)) = true := by kernel_rfl
theorem fact17 : ((Rows.fnExactFastOfRow.loops == (Tryz.f3.params.toList ++ Rows.fnExactFastOfSpec.plain.varTypes Tryz.prog).any (Tryz.prog.loopsFrom ·))) = true := by kernel_rfl
theorem fact18 : ((Rows.fnExactFastOfRow.wideKeys == (Tryz.f3.params.toList ++ Rows.fnExactFastOfSpec.plain.varTypes Tryz.prog ++ Tryz.f3.resultTypes.toList).any (Tryz.prog.wideKeysFrom ·))) = true := by kernel_rfl
theorem fact19 : (Rows.fnExactFastOfSpec.vars.all (Tryz.prog.varReadable ·)) = true := by kernel_rfl
theorem fact20 : (Tryz.f3.resultTypes.all (fun t => Tryz.prog.readableRec t && decide (t < Tryz.prog.types.size))) = true := by kernel_rfl
theorem fact21 : ((Rows.fnExactFastOfRow.ifacesOut == Tryz.f3.resultTypes.toList.any (Tryz.prog.ifacesRec ·))) = true := by kernel_rfl
theorem fact22 : ((Rows.fnExactFastOfRow.loopsOut == Tryz.f3.resultTypes.toList.any (Tryz.prog.loopsFrom ·))) = true := by kernel_rfl
theorem fact23 : ((Rows.fnExactFastOfRow.plainKeys == Tryz.prog.plainKeys)) = true := by kernel_rfl
theorem fact24 : (Rows.fnExactFastOfRow.shortTexts.isNone) = true := by kernel_rfl
theorem fact25 : (Tryz.prog.stopsHeard) = true := by kernel_rfl
theorem fact26 : (Tryz.prog.mayEnter) = true := by kernel_rfl
theorem fact27 : ((Rows.fnExactFastOfRow.lifted == Tryz.prog.liftsFinal)) = true := by kernel_rfl
theorem fact28 : ((Tryz.prog.make == some Rows.fnExactFastOfRow.make)) = true := by kernel_rfl
theorem fact30 : ((Rows.fnExactFastOfRow.pinned == Rows.fnExactFastOfRow.pinnedBy)) = true := by kernel_rfl
theorem fact31 : ((Rows.fnExactFastOfRow.veiled == (Tryz.f3.params.toList ++ Rows.fnExactFastOfSpec.plain.varTypes Tryz.prog ++ Tryz.f3.resultTypes.toList).any (Tryz.prog.veiledRec ·))) = true := by kernel_rfl
theorem fact32 : (Rows.fnExactFastOfRow.veiledFits Tryz.prog Tryz.f3.params.toList (Tryz.f3.params.toList ++ Rows.fnExactFastOfSpec.plain.varTypes Tryz.prog ++ Tryz.f3.resultTypes.toList)) = true := by kernel_rfl
set_option maxRecDepth 100000 in
theorem closed : joinedFacts Tryz.prog 3 Tryz.f3 Rows.fnExactFastOfSpec Rows.fnExactFastOfRow = true := by
 unfold joinedFacts
 exact (fact0 (fact0 (fact0 (fact0 (fact0 (fact0 (fact0 (fact0 (fact0 (fact0 (fact0 (fact0 (fact0 (fact0 (fact0 (fact0 (fact0 (fact0 (fact0 (fact0 (fact0 (fact0 (fact0 (fact0 (fact0 (fact0 (fact0 (fact0 (fact0 (fact0 (fact0 fact1 fact2) fact3) fact4) fact5) fact6) fact7) fact8) fact9) fact10) fact11) fact12) fact13) fact14) fact15) fact16) fact17) fact18) fact19) fact20) fact21) fact22) fact23) fact24) fact25) fact26) fact27) fact28) (by kernel_rfl)) fact30) fact31) fact32)
theorem named : Tryz.prog.funcNamed Rows.fnExactFastOfRow.func = some 3 := by kernel_rfl
theorem instOf : Tryz.f3.isInstance Tryz.prog Rows.fnExactFastOfRow.origin Rows.fnExactFastOfRow.targs := of_decide_eq_true (by kernel_rfl)
theorem wrapOf : Tryz.f3.isWrapper Tryz.prog Rows.fnExactFastOfRow.wrapper Rows.fnExactFastOfRow.mainSum := by unfold Func.isWrapper; first | (rw [if_pos (by decide +kernel)]; kernel_rfl) | (rw [if_neg (by decide +kernel)]; exact ⟨rfl, rfl⟩)
theorem over : Rows.fnExactFastOfRow.holds Tryz.pinned (OpenSpec.ofChange Rows.fnExactFastOfSpec) :=
 OpenClaim.holds_of_wide 3 Tryz.f3 rfl rfl rfl rfl rfl rfl rfl ⟨rfl, rfl, rfl, rfl, rfl⟩ rfl rfl rfl rfl rfl named Tryz.func3 closed
  instOf wrapOf
  (fun os started H enc _ => lifted os started H enc)
end exFastOf
end Go.Proofs.YtjjkdbmjloolaaaGreatDoor
