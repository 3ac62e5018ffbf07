/-
  Proved: at every list of sieves the program's Merged answers as its model does, field by field; it writes into no argument and keeps nothing of one; its answer owns its memory, behind another call too; the law's arguments read afterwards as before; the listed variables (tables of bits, the table of powers of ten, two errors of the library) start as the program's text lays them, to which the card ties them; no other condition.
-/
import Derived.Test.YtadbbkpillfjaaaGreatDoorRows
import Derived.Test.YtadbbkpillfjaaaGreatDoorPart39
namespace Go.Proofs.YtadbbkpillfjaaaGreatDoor
open Go.ChangeShapes Go.WideShapes Go.ChangeAt Go.RowKit Go.Joins

theorem fnExactMerged_wf : Rows.fnExactMergedRow.wfByText (OpenSpec.ofChange Rows.fnExactMergedSpec) = true := by kernel_rfl
theorem fnExactMerged_main : Tryz.prog.mainIs = some (Rows.fnExactMergedCard.stood.harness.1, Rows.fnExactMergedCard.stood.harness.2.toList) := by kernel_rfl
theorem fnExactMerged_looks : true = Tryz.prog.looks [] := by kernel_rfl
theorem fnExactMerged_want0 : Tryz.prog.wantsStandIn 22 = false := by kernel_rfl
theorem fnExactMerged_goes : false = Rows.fnExactMergedRow.goesBy Tryz.prog := by kernel_rfl
theorem fnExactMerged_card : Rows.FnExactMergedCardSaid :=
  Claim7.holds_tied_plain_at .later [] [.data, .data, .data, .sentinel, .sentinel] true Rows.fnExactMergedCard.stood.harness true
    exMerged.over (fun _ h => by cases h) fnExactMerged_wf (fun _ h => by cases h) fnExactMerged_row_tie rfl ⟨rfl, rfl⟩ fnExactMerged_main rfl
    (fun f fn hf hfn => by
      obtain rfl : f = 3 := Option.some.inj (exMerged.named.symm.trans hf) |>.symm
      obtain rfl : fn = Tryz.f3 := (Option.some.inj (Tryz.func3.symm.trans hfn)).symm
      exact ⟨fnExactMerged_looks, fun j t ht => by
        rw [Tryz.params3] at ht
        have h3 : t = 22 := by
          rcases j with _ | j
          · simpa using ht.symm
          · simp at ht
        subst h3
        exact fnExactMerged_want0⟩)
    fnExactMerged_goes

end Go.Proofs.YtadbbkpillfjaaaGreatDoor
