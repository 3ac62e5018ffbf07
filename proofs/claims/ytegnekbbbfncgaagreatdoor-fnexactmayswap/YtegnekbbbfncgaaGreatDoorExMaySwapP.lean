/-
  Proved: at every two sieves the program's MaySwap answers as its model does; it writes into no argument; the law's arguments read afterwards as before; the listed variables (tables of bits and of powers of ten, errors' own handle, errors of the library and of the program) start as the program's text lays them, to which the card ties them; no other condition.
-/
import Derived.Test.YtegnekbbbfncgaaGreatDoorRows
import Derived.Test.YtegnekbbbfncgaaGreatDoorPart28
namespace Go.Proofs.YtegnekbbbfncgaaGreatDoor
open Go.ChangeShapes Go.WideShapes Go.ChangeAt Go.RowKit Go.Joins

theorem fnExactMaySwap_wf : Rows.fnExactMaySwapRow.wfByText (OpenSpec.ofChange Rows.fnExactMaySwapSpec) = true := by kernel_rfl
theorem fnExactMaySwap_main : Tryz.prog.mainIs = some (Rows.fnExactMaySwapCard.stood.harness.1, Rows.fnExactMaySwapCard.stood.harness.2.toList) := by kernel_rfl
theorem fnExactMaySwap_looks : true = Tryz.prog.looks [] := by kernel_rfl
theorem fnExactMaySwap_want0 : Tryz.prog.wantsStandIn 26 = false := by kernel_rfl
theorem fnExactMaySwap_goes : false = Rows.fnExactMaySwapRow.goesBy Tryz.prog := by kernel_rfl
theorem fnExactMaySwap_card : Rows.FnExactMaySwapCardSaid :=
  Claim7.holds_tied_plain_at .later [] [.data, .data, .data, .sentinel, .sentinel, .sentinel] true Rows.fnExactMaySwapCard.stood.harness true
    exMaySwap.over (fun _ h => by cases h) fnExactMaySwap_wf (fun _ h => by cases h) fnExactMaySwap_row_tie rfl ⟨rfl, rfl⟩ fnExactMaySwap_main rfl
    (fun f fn hf hfn => by
      obtain rfl : f = 5 := Option.some.inj (exMaySwap.named.symm.trans hf) |>.symm
      obtain rfl : fn = Tryz.f5 := (Option.some.inj (Tryz.func5.symm.trans hfn)).symm
      exact ⟨fnExactMaySwap_looks, fun j t ht => by
        rw [Tryz.params5] at ht
        have h3 : t = 26 ∨ t = 26 := by
          rcases j with _ | _ | j
          · exact .inl (by simpa using ht.symm)
          · exact .inr (by simpa using ht.symm)
          · simp at ht
        rcases h3 with rfl | rfl
        · exact fnExactMaySwap_want0
        · exact fnExactMaySwap_want0⟩)
    fnExactMaySwap_goes

end Go.Proofs.YtegnekbbbfncgaaGreatDoor
