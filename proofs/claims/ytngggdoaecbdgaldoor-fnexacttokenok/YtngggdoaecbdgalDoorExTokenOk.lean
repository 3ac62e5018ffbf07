/-
  Proved: at every token the program's TokenOk answers as its model does, and the law's argument reads afterwards as before; the listed variables of the library (the table of powers of ten, two tables of bits, two errors) start as the program's text lays them, to which the card ties them; no other condition.
-/
import Derived.Test.YtngggdoaecbdgalDoorTokI
import Derived.Test.YtngggdoaecbdgalDoorTokS
import Derived.Test.YtngggdoaecbdgalDoorOpen4
import Derived.Test.YtngggdoaecbdgalDoorLaid
import Derived.Test.YtngggdoaecbdgalDoorTie
import Derived.Test.YtngggdoaecbdgalDoorCards
import Derived.Lib.SmallJoins
import Derived.SevenTiedAt
namespace Go.Proofs.YtngggdoaecbdgalDoor
open Go.ChangeShapes Go.WideShapes Go.ChangeAt Go.RowKit Go.Joins

namespace exTokenOk

theorem own : ownKnob Tryd.prog.godebug = none := by kernel_rfl

set_option maxHeartbeats 1000000 in
theorem walk (t : TT) (w : World) (h1 : t.2.1.size ≤ maxLen) (h2 : t.2.2.2.2.size ≤ maxLen) (hp : PowAt w) (he : ErrAt w) :
    Calls Tryd.prog 3 #[.agg #[.int .i64 t.1, .string t.2.1, .int .i64 t.2.2.1, .int .i64 t.2.2.2.1, .string t.2.2.2.2]] w fun e w' => e = .returned (.bool true) ∧ Below w.heap.size w w' := by
  have HP : Hid (PowAt w) := hp
  have HE : Hid (ErrAt w) := he
  clear hp he
  obtain ⟨r, hr⟩ : ∃ r : Int, (if (1048576 : Int) < (oneTok t : Int) then -1 else 1048576 - (oneTok t : Int)) = r := ⟨_, rfl⟩
  have HRR : Hid ((if (1048576 : Int) < (oneTok t : Int) then -1 else 1048576 - (oneTok t : Int)) = r) := hr
  obtain ⟨b, hb⟩ : ∃ b, tokB t = b := ⟨_, rfl⟩
  have HB : Hid (tokB t = b) := hb
  have hbn : ∀ (x : Bool) (wz : World), (binOp .neq 4 (.bool x) (.bool x)).run Tryd.prog wz = .ok (.bool false) wz := fun x wz => by cases x <;> kernel_rfl
  clear hr hb
  obtain ⟨k, s, ck, cn, ct⟩ := t
  dsimp only at h1 h2 ⊢
  by_cases hr0 : r < 0
  · go_enter Tryd.func3, Tryd.ntmps3
    go_wp2_with fail
    refine (szTok_one (k, s, ck, cn, ct) 1048576 _ h1 h2 (by omega) (by omega)).mono ?_
    rw [HRR.out]
    rintro e w1 ⟨rfl, hb1⟩
    have hx := chainA hb1
    go_wp2
    go_ret
    exact ⟨rfl, hx⟩
  have hle : s.size ≤ 1048576 := by
    have := HRR.out
    unfold oneTok at this
    dsimp only at this
    split at this <;> omega
  go_enter Tryd.func3, Tryd.ntmps3
  go_wp2_with fail
  refine (szTok_one (k, s, ck, cn, ct) 1048576 _ h1 h2 (by omega) (by omega)).mono ?_
  rw [HRR.out]
  rintro e w1 ⟨rfl, hb1⟩
  have hx1 := chainA hb1
  obtain ⟨d0, d1, d2, d3, d4, dB⟩ := box5 hb1
  clear hb1
  go_wp2_with fail
  refine (toTok_one (k, s, ck, cn, ct) _).mono ?_
  rintro e w2 ⟨rfl, hb2⟩
  have hx2 := chain hx1 hb2
  obtain ⟨e0, e1, e2, e3, e4, eB⟩ := later5 hb2 ⟨d0, d1, d2, d3, d4, dB⟩
  clear hb2 hx1 d0 d1 d2 d3 d4 dB
  dsimp only
  go_wp2_with fail
  refine (tok_spec (k, s, ck, cn, ct) _ h1 h2 b HB.out).mono ?_
  rintro e w3 ⟨rfl, hb3⟩
  have hx3 := chain hx2 hb3
  obtain ⟨d0, d1, d2, d3, d4, dB⟩ := later5 hb3 ⟨e0, e1, e2, e3, e4, eB⟩
  clear hb3 hx2 e0 e1 e2 e3 e4 eB
  go_wp2_with fail
  refine (toTok_one (k, s, ck, cn, ct) _).mono ?_
  rintro e w4 ⟨rfl, hb4⟩
  have hx4 := chain hx3 hb4
  clear hb4 hx3 d0 d1 d2 d3 d4 dB
  dsimp only
  go_wp2_with fail
  refine (tok_impl (k, s, ck, cn, ct) _ hle h2 (HP.out.below hx4) (HE.out.below hx4) b HB.out).mono ?_
  rintro e w5 ⟨rfl, hb5⟩
  have hx5 := chain hx4 hb5
  cases b
  all_goals
    go_wp2
    go_ret
    exact ⟨rfl, hx5⟩

theorem laidOut : laidOutB Tryd.prog = true := by kernel_rfl

theorem var_laid {W : World} (h : laidMetH Tryd.prog Rows.fnExactTokenOkRow.laid W) : PowAt W ∧ ErrAt W := by
  rw [MakeChecks.laidMetH_plain _ _ _ (by kernel_rfl)] at h
  have h2 : laidMet Tryd.prog (("internal/strconv.uint64pow10", Rows.laid_internal_strconv_uint64pow10) :: ("strconv.ErrRange", Rows.laid_strconv_ErrRange) :: ("strconv.ErrSyntax", Rows.laid_strconv_ErrSyntax) :: []) W := laidMet.tail (laidMet.tail h)
  exact ⟨pow_of h2, err_of h2.tail⟩

/-- The door's own heap meets the condition. -/
theorem door_met (os : Os) (args : Array Value) : laidMetH Tryd.prog Rows.fnExactTokenOkRow.laid ((World.doorLaid Tryd.prog 400 os).forCall (fun _ _ => 0) ⟨#[], args, []⟩).memory :=
  laidMetH_of_parts3 (fuel := 8) (laidMet_of_run' 8 (by kernel_rfl) (by kernel_rfl)) (by kernel_rfl) (by kernel_rfl)

set_option maxRecDepth 100000 in
theorem lifted (os : Os) (started : os.Started) (H : Type) (enc : TypeId × Value → H) :
    ReturnsInHanded {} Tryd.checked os 3 .any (fun w args => (Rows.fnExactTokenOkSpec.pre enc Tryd.prog Tryd.f3 [] false w args ∧ laidMetH Tryd.prog Rows.fnExactTokenOkRow.laid w) ∧ sizedMet enc Tryd.prog Tryd.f3 (OpenSpec.ofChange Rows.fnExactTokenOkSpec) false w args)
      (Rows.fnExactTokenOkSpec.post enc Tryd.prog Tryd.f3 false true false false) := by
  refine returnsInHanded_of_change_and (C := Tryd.checked) (X := fun w _ => laidMetH Tryd.prog Rows.fnExactTokenOkRow.laid w) (fun _ _ _ hh h => h.of_heap hh) own started (by kernel_rfl) Tryd.func3
    (ChangeSpec.witness_shaped (enc := enc) (C := Tryd.checked) (os := os) (X := fun w _ => laidMetH Tryd.prog Rows.fnExactTokenOkRow.laid w) false (World.doorLaid Tryd.prog 400 os) #[.agg #[.int .i64 0, .string ⟨#[]⟩, .int .i64 0, .int .i64 0, .string ⟨#[]⟩]] 8 rfl (World.shaped_of_RefB (by kernel_rfl) (by kernel_rfl)) (by kernel_rfl) (by kernel_rfl) (by kernel_rfl) (door_met os _)) ?_
  intro W base args ds gs before hval0 hW _ _ hL _
  have hval : ∀ (j : Nat) t v, Tryd.f3.params[j]? = some t → args[j]? = some v → Value.okWide Tryd.prog W .any base t v := hval0
  have hW' := hW
  obtain ⟨p, q, hA0, hV, rfl, hfz, hnd⟩ := hW
  have hA : DataW.TrodAll enc Tryd.prog W 0 (fun _ => true) true Tryd.f3.params.toList args.toList ds p := hA0
  rw [Tryd.params3] at hA hval
  obtain ⟨v0, d0, rfl, rfl, h0⟩ := trodAll_one hA
  obtain ⟨rfl, rfl⟩ := trodVars_none hV
  have k0 := h0
  have lt0 : ∀ x ∈ p, x.block < W.heap.size := by obtain ⟨m, hm⟩ := k0; exact DataW.trod_lt m _ _ _ hm
  obtain ⟨t0, rfl, hsa0, hsb0⟩ := open_tok (hval 0 25 v0 rfl rfl) h0
  clear hA0 hval0
  obtain ⟨hp, he⟩ := var_laid hL
  refine (walk t0 W hsa0 hsb0 hp he).mono fun e W' ⟨he, bel⟩ => ?_
  subst he
  exact ⟨_, rfl, _, _, _, [], _, [], hW', trodAll_mk1 (shut_bool Tryd.underlying4 _), trodAll_mk1 (Below.trod laidOut (by kernel_rfl) (of_decide_eq_true (by kernel_rfl)) k0 bel lt0), rfl, bel.frame _, fun h => by cases h⟩

theorem over : Rows.fnExactTokenOkRow.holds Tryd.pinned (OpenSpec.ofChange Rows.fnExactTokenOkSpec) :=
  OpenClaim.holds_of_wide 3 Tryd.f3 rfl rfl rfl rfl rfl rfl rfl ⟨rfl, rfl, rfl, rfl, rfl⟩ rfl rfl rfl rfl rfl (by kernel_rfl) Tryd.func3 (by kernel_rfl)
    (of_decide_eq_true (by kernel_rfl)) (by unfold Func.isWrapper; first | (rw [if_pos (by decide +kernel)]; kernel_rfl) | (rw [if_neg (by decide +kernel)]; exact ⟨rfl, rfl⟩))
    (fun os started H enc _ => lifted os started H enc)

end exTokenOk

theorem fnExactTokenOk_card : Rows.FnExactTokenOkCardSaid :=
  Claim7.holds_tied_plain_at .later [] [.data, .data, .data, .sentinel, .sentinel] true Rows.fnExactTokenOkCard.stood.harness true
    exTokenOk.over (fun _ h => by cases h) (by kernel_rfl) (fun _ h => by cases h) fnExactTokenOk_row_tie rfl ⟨rfl, rfl⟩ (by kernel_rfl) rfl
    (fun f fn hf hfn => by
      obtain rfl : f = 3 := Option.some.inj ((show Tryd.prog.funcNamed Rows.fnExactTokenOkRow.func = some 3 by kernel_rfl).symm.trans hf) |>.symm
      obtain rfl : fn = Tryd.f3 := (Option.some.inj (Tryd.func3.symm.trans hfn)).symm
      exact ⟨by kernel_rfl, fun j t ht => by
        rw [Tryd.params3] at ht
        have h3 : t = 25 := by
          rcases j with _ | j
          · simpa using ht.symm
          · simp at ht
        subst h3
        exact (show Tryd.prog.wantsStandIn 25 = false by kernel_rfl)⟩)
    (by kernel_rfl)

end Go.Proofs.YtngggdoaecbdgalDoor
