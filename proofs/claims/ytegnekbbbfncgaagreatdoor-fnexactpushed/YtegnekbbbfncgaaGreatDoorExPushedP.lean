/-
  Proved: at every list of sieves the program's Pushed answers as its model does, field by field; it writes into no argument and keeps nothing of one; its answer owns its memory, behind another call too; the law's arguments read afterwards as before; the listed variables (tables of bits and of powers of ten, errors' own handle, errors of the library and of the program) start as the program's text lays them, to which the card ties them; no other condition.
-/
import Derived.Test.YtegnekbbbfncgaaGreatDoorRows
import Derived.Test.YtegnekbbbfncgaaGreatDoorPart40
namespace Go.Proofs.YtegnekbbbfncgaaGreatDoor
open Go.ChangeShapes Go.WideShapes Go.ChangeAt Go.RowKit Go.Joins

theorem fnExactPushed_wf : Rows.fnExactPushedRow.wfByText (OpenSpec.ofChange Rows.fnExactPushedSpec) = true := by kernel_rfl
theorem fnExactPushed_main : Tryz.prog.mainIs = some (Rows.fnExactPushedCard.stood.harness.1, Rows.fnExactPushedCard.stood.harness.2.toList) := by kernel_rfl
theorem fnExactPushed_looks : true = Tryz.prog.looks [] := by kernel_rfl
theorem fnExactPushed_want0 : Tryz.prog.wantsStandIn 54 = false := by kernel_rfl
theorem fnExactPushed_goes : false = Rows.fnExactPushedRow.goesBy Tryz.prog := by kernel_rfl
theorem fnExactPushed_card : Rows.FnExactPushedCardSaid :=
  Claim7.holds_tied_plain_at .later [] [.data, .data, .data, .sentinel, .sentinel, .sentinel] true Rows.fnExactPushedCard.stood.harness true
    exPushed.over (fun _ h => by cases h) fnExactPushed_wf (fun _ h => by cases h) fnExactPushed_row_tie rfl ⟨rfl, rfl⟩ fnExactPushed_main rfl
    (fun f fn hf hfn => by
      obtain rfl : f = 6 := Option.some.inj (exPushed.named.symm.trans hf) |>.symm
      obtain rfl : fn = Tryz.f6 := (Option.some.inj (Tryz.func6.symm.trans hfn)).symm
      exact ⟨fnExactPushed_looks, fun j t ht => by
        rw [Tryz.params6] at ht
        have h3 : t = 54 := by
          rcases j with _ | j
          · simpa using ht.symm
          · simp at ht
        subst h3
        exact fnExactPushed_want0⟩)
    fnExactPushed_goes

end Go.Proofs.YtegnekbbbfncgaaGreatDoor
