/-
  Proved: at every row of cells the program's RowText answers as its model does, it writes into nothing that it is given, and the law's argument reads afterwards as before; the listed variables of the library (the table of powers of ten and two tables of bits) start as the program's text lays them, to which the card ties them; no other condition.
-/
import Derived.Test.YtgeipficjfaocajDoorRowI
import Derived.Test.YtgeipficjfaocajDoorLists3
import Derived.Test.YtgeipficjfaocajDoorOpen1
import Derived.Test.YtgeipficjfaocajDoorLaid
import Derived.Test.YtgeipficjfaocajDoorTie
import Derived.Test.YtgeipficjfaocajDoorCards
import Derived.Lib.SmallJoins
import Derived.SevenTiedAt
namespace Go.Proofs.YtgeipficjfaocajDoor
open Go.ChangeShapes Go.WideShapes Go.ChangeAt Go.RowKit Go.Joins
open Go.ChangeMaps (open_string shut_string)

namespace exRowText

theorem own : ownKnob Tryd.prog.godebug = none := by kernel_rfl

set_option maxHeartbeats 2000000 in
theorem walk (a : Option Addr) (ca : Nat) (l : List CT) (w : World) (hA : RowAt w a l) (fA : Fit l) (hl : l.length ≤ maxLen) (hp : PowAt w) :
    Calls Tryd.prog 3 #[.slice a l.length ca] w fun e w' => e = .returned (.bool true) ∧ Below w.heap.size w w' := by
  have S1 : Hid (∀ w', Below w.heap.size w w' → ∀ left : Int, 0 ≤ left → left ≤ 1048576 → Calls Tryd.prog 5 #[.slice a l.length ca, .int .i64 left] w' fun e w'' => e = .returned (.int .i64 (leftOf l left)) ∧ Below w'.heap.size w' w'') := fun w' hb left h0 h1 => szs_laws a ca l left w' (hA.below hb) fA hl h0 h1
  have RA : Hid (RowAt w a l) := hA
  have FA : Hid (Fit l) := fA
  have HP : Hid (PowAt w) := hp
  clear hA fA hl hp
  obtain ⟨x, hx1⟩ : ∃ x, leftOf l 1048576 = x := ⟨_, rfl⟩
  by_cases hx0 : x < 0
  · go_enter Tryd.func3, Tryd.ntmps3
    go_wp2_with fail
    refine (S1.out _ (Below.refl _ _) _ (by omega) (by omega)).mono ?_
    rw [hx1]
    rintro e w1 ⟨rfl, hb1⟩
    go_wp2
    go_ret
    exact ⟨rfl, hb1⟩
  have hll : l.length ≤ 1048576 := by
    unfold leftOf at hx1
    split at hx1 <;> omega
  have hx0' : 0 ≤ x := by omega
  have hlM : l.length ≤ maxLen := by unfold maxLen; omega
  obtain ⟨y, hy⟩ : ∃ y, rowT l = y := ⟨_, rfl⟩
  have HY : Hid (rowT l = y) := hy
  clear hy
  have hyy : (y.toList == y.toList) = true := by simp
  go_enter Tryd.func3, Tryd.ntmps3
  go_wp2_with fail
  refine (S1.out _ (Below.refl _ _) _ (by omega) (by omega)).mono ?_
  rw [hx1]
  rintro e w1 ⟨rfl, hx⟩
  go_wp2_with fail
  refine (tos_laws _ _ _ _ (RA.out.below hx) hll).mono ?_
  rintro e w3 ⟨rfl, o3, hb3⟩
  replace hx := chain hx hb3
  have o3 : Hid (RowAt w3 _ l) := own_row o3
  go_wp2_with fail
  refine (rowtext_spec _ _ l _ o3.out FA.out hll y HY.out).mono ?_
  rintro e w5 ⟨rfl, hb5⟩
  replace hx := chain hx hb5
  clear o3 hb3 hb5
  go_wp2_with fail
  refine (tos_laws _ _ _ _ (RA.out.below hx) hll).mono ?_
  rintro e w6 ⟨rfl, o6, hb6⟩
  replace hx := chain hx hb6
  have o6 : Hid (RowAt w6 _ l) := own_row o6
  go_wp2_with fail
  refine (rowtext_impl _ _ l _ o6.out FA.out hll (HP.out.below hx) y HY.out).mono ?_
  rintro e w8 ⟨rfl, hb8⟩
  replace hx := chain hx hb8
  have o6 : Hid (RowAt w8 _ l) := o6.out.below hb8
  clear hb6 hb8
  go_wp2_with fail
  refine (tos_laws _ _ _ _ (RA.out.below hx) hll).mono ?_
  rintro e w9 ⟨rfl, o9, hb9⟩
  replace hx := chain hx hb9
  have o9 : Hid (RowAt w9 _ l) := own_row o9
  have o6 : Hid (RowAt w9 _ l) := o6.out.below hb9
  go_wp2_with fail
  refine (eqs_laws _ _ _ _ _ _ o6.out o9.out hlM).mono ?_
  rintro e w10 ⟨rfl, hb10⟩
  go_wp2
  go_ret
  exact ⟨rfl, chain hx hb10⟩

theorem laidOut : laidOutB Tryd.prog = true := by kernel_rfl
theorem cells3 : Tryd.prog.cellsOf 35 = 3 := by kernel_rfl

theorem pow_laid {W : World} (h : laidMetH Tryd.prog Rows.fnExactRowTextRow.laid W) : PowAt W := by
  rw [MakeChecks.laidMetH_plain _ _ _ (by kernel_rfl)] at h
  have h2 : laidMet Tryd.prog (("internal/strconv.uint64pow10", Rows.laid_internal_strconv_uint64pow10) :: []) W := laidMet.tail (laidMet.tail h)
  exact pow_of h2

/-- The door's own heap meets the condition. -/
theorem door_met (os : Os) (args : Array Value) : laidMetH Tryd.prog Rows.fnExactRowTextRow.laid ((World.doorLaid Tryd.prog 400 os).forCall (fun _ _ => 0) ⟨#[], args, []⟩).memory :=
  laidMetH_of_parts3 (fuel := 8) (laidMet_of_run' 8 (by kernel_rfl) (by kernel_rfl)) (by kernel_rfl) (by kernel_rfl)

set_option maxRecDepth 100000 in
theorem lifted (os : Os) (started : os.Started) (H : Type) (enc : TypeId × Value → H) :
    ReturnsInHanded {} Tryd.checked os 3 .any (fun w args => (Rows.fnExactRowTextSpec.pre enc Tryd.prog Tryd.f3 [] false w args ∧ laidMetH Tryd.prog Rows.fnExactRowTextRow.laid w) ∧ sizedMet enc Tryd.prog Tryd.f3 (OpenSpec.ofChange Rows.fnExactRowTextSpec) false w args)
      (Rows.fnExactRowTextSpec.post enc Tryd.prog Tryd.f3 false true false false) := by
  refine returnsInHanded_of_change_and (C := Tryd.checked) (X := fun w _ => laidMetH Tryd.prog Rows.fnExactRowTextRow.laid w) (fun _ _ _ hh h => h.of_heap hh) own started (by kernel_rfl) Tryd.func3
    (ChangeSpec.witness_shaped (enc := enc) (C := Tryd.checked) (os := os) (X := fun w _ => laidMetH Tryd.prog Rows.fnExactRowTextRow.laid w) false (World.doorLaid Tryd.prog 400 os) #[.slice none 0 0] 8 rfl (World.shaped_of_RefB (by kernel_rfl) (by kernel_rfl)) (by kernel_rfl) (by kernel_rfl) (by kernel_rfl) (door_met os _)) ?_
  intro W base args ds gs before hval0 hW _ _ hL _
  have hval : ∀ (j : Nat) t v, Tryd.f3.params[j]? = some t → args[j]? = some v → Value.okWide Tryd.prog W .any base t v := hval0
  have hW' := hW
  obtain ⟨p, q, hA0, hV, rfl, hfz, hnd⟩ := hW
  have hA : DataW.TrodAll enc Tryd.prog W 0 (fun _ => true) true Tryd.f3.params.toList args.toList ds p := hA0
  rw [Tryd.params3] at hA hval
  obtain ⟨v0, d0, rfl, rfl, h0⟩ := trodAll_one hA
  obtain ⟨rfl, rfl⟩ := trodVars_none hV
  obtain ⟨a0, len0, cap0, rfl⟩ := okWide_slice Tryd.underlying22 (hval 0 22 v0 rfl rfl)
  have k0 := h0
  have lt0 : ∀ x ∈ p, x.block < W.heap.size := by obtain ⟨m, hm⟩ := k0; exact DataW.trod_lt m _ _ _ hm
  obtain ⟨m0, hm0⟩ := h0
  obtain ⟨l, rfl, rA, fA, lA, nA⟩ := open_cells Tryd.underlying22 Tryd.underlying35 cells3 rfl rfl rfl (by kernel_rfl) (by kernel_rfl) (by kernel_rfl) Tryd.underlying2 Tryd.underlying2 Tryd.underlying9 hm0
  clear hA0 hval0
  refine (walk a0 cap0 l W rA fA lA (pow_laid hL)).mono fun e W' ⟨he, bel⟩ => ?_
  subst he
  exact ⟨_, rfl, _, _, _, [], _, [], hW', trodAll_mk1 (shut_bool Tryd.underlying4 _), trodAll_mk1 (Below.trod laidOut (by kernel_rfl) (of_decide_eq_true (by kernel_rfl)) k0 bel lt0), rfl, bel.frame _, fun h => by cases h⟩

theorem over : Rows.fnExactRowTextRow.holds Tryd.pinned (OpenSpec.ofChange Rows.fnExactRowTextSpec) :=
  OpenClaim.holds_of_wide 3 Tryd.f3 rfl rfl rfl rfl rfl rfl rfl ⟨rfl, rfl, rfl, rfl, rfl⟩ rfl rfl rfl rfl rfl (by kernel_rfl) Tryd.func3 (by kernel_rfl)
    (of_decide_eq_true (by kernel_rfl)) (by unfold Func.isWrapper; first | (rw [if_pos (by decide +kernel)]; kernel_rfl) | (rw [if_neg (by decide +kernel)]; exact ⟨rfl, rfl⟩))
    (fun os started H enc _ => lifted os started H enc)

end exRowText

theorem fnExactRowText_card : Rows.FnExactRowTextCardSaid :=
  Claim7.holds_tied_plain_at .later [] [.data, .data, .data] true Rows.fnExactRowTextCard.stood.harness true
    exRowText.over (fun _ h => by cases h) (by kernel_rfl) (fun _ h => by cases h) fnExactRowText_row_tie rfl ⟨rfl, rfl⟩ (by kernel_rfl) rfl
    (fun f fn hf hfn => by
      obtain rfl : f = 3 := Option.some.inj ((show Tryd.prog.funcNamed Rows.fnExactRowTextRow.func = some 3 by kernel_rfl).symm.trans hf) |>.symm
      obtain rfl : fn = Tryd.f3 := (Option.some.inj (Tryd.func3.symm.trans hfn)).symm
      exact ⟨by kernel_rfl, fun j t ht => by
        rw [Tryd.params3] at ht
        have h3 : t = 22 := by
          rcases j with _ | j
          · simpa using ht.symm
          · simp at ht
        subst h3
        exact (show Tryd.prog.wantsStandIn 22 = false by kernel_rfl)⟩)
    (by kernel_rfl)

end Go.Proofs.YtgeipficjfaocajDoor
