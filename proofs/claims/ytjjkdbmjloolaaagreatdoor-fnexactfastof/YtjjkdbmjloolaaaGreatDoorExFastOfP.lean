/-
  Proved: at every list of columns and every list of sieves the program's FastOf answers as its model does; it writes into no argument and keeps nothing of one; its answer owns its memory, behind another call too; the law's arguments read afterwards as before; the listed variables (tables of bits and of powers of ten, errors' own handle, two errors of the library and five of the program) start as the program's text lays them, to which the card ties them; no other condition.
-/
import Derived.Test.YtjjkdbmjloolaaaGreatDoorRows
import Derived.Test.YtjjkdbmjloolaaaGreatDoorPart50
namespace Go.Proofs.YtjjkdbmjloolaaaGreatDoor
open Go.ChangeShapes Go.WideShapes Go.ChangeAt Go.RowKit Go.Joins

theorem fnExactFastOf_wf : Rows.fnExactFastOfRow.wfByText (OpenSpec.ofChange Rows.fnExactFastOfSpec) = true := by kernel_rfl
theorem fnExactFastOf_main : Tryz.prog.mainIs = some (Rows.fnExactFastOfCard.stood.harness.1, Rows.fnExactFastOfCard.stood.harness.2.toList) := by kernel_rfl
theorem fnExactFastOf_looks : true = Tryz.prog.looks [] := by kernel_rfl
theorem fnExactFastOf_want0 : Tryz.prog.wantsStandIn 23 = false := by kernel_rfl
theorem fnExactFastOf_want1 : Tryz.prog.wantsStandIn 22 = false := by kernel_rfl
theorem fnExactFastOf_goes : false = Rows.fnExactFastOfRow.goesBy Tryz.prog := by kernel_rfl
theorem fnExactFastOf_card : Rows.FnExactFastOfCardSaid :=
  Claim7.holds_tied_plain_at .later [] [.data, .data, .data, .handle, .sentinel, .sentinel, .sentinel, .sentinel, .sentinel, .sentinel, .sentinel] true Rows.fnExactFastOfCard.stood.harness true
    exFastOf.over (fun _ h => by cases h) fnExactFastOf_wf (fun _ h => by cases h) fnExactFastOf_row_tie rfl ⟨rfl, rfl⟩ fnExactFastOf_main rfl
    (fun f fn hf hfn => by
      obtain rfl : f = 3 := Option.some.inj (exFastOf.named.symm.trans hf) |>.symm
      obtain rfl : fn = Tryz.f3 := (Option.some.inj (Tryz.func3.symm.trans hfn)).symm
      exact ⟨fnExactFastOf_looks, fun j t ht => by
        rw [Tryz.params3] at ht
        have h3 : t = 22 ∨ t = 23 := by
          rcases j with _ | _ | j
          · exact .inl (by simpa using ht.symm)
          · exact .inr (by simpa using ht.symm)
          · simp at ht
        rcases h3 with rfl | rfl
        · exact fnExactFastOf_want1
        · exact fnExactFastOf_want0⟩)
    fnExactFastOf_goes

end Go.Proofs.YtjjkdbmjloolaaaGreatDoor
