/-
  Proved: at every argument of quick steps and every width the program's FastOk answers as its model does, it writes into nothing that it is given, and the law's arguments read afterwards as before; no condition.
-/
import Derived.Test.YtmhamgcjmehnnaaDoorRows
import Derived.Test.YtmhamgcjmehnnaaDoorFastOkS
import Derived.Test.YtmhamgcjmehnnaaDoorFastOkI
import Derived.Test.YtmhamgcjmehnnaaDoorFastF
import Derived.Test.YtmhamgcjmehnnaaDoorOpenFa
import Derived.Test.YtmhamgcjmehnnaaDoorLaidOp
import Derived.Test.YtmhamgcjmehnnaaDoorTie
import Derived.Test.YtmhamgcjmehnnaaDoorCards
import Derived.Lib.SmallJoins
import Derived.SevenTiedAt
namespace Go.Proofs.YtmhamgcjmehnnaaDoor
open Go.ChangeShapes Go.WideShapes Go.ChangeAt Go.RowKit Go.Joins
attribute [local go_sem ↓] Go.wp_at_zero Go.wp_at_succ
attribute [local simp] World.cell?_alloc_past World.cell?_alloc_at World.frozen?_alloc_at cell_far cell_off cell_here World.frozen?_alloc_past

namespace exFastOk

theorem own : ownKnob Tryd.prog.godebug = none := by kernel_rfl
set_option maxRecDepth 100000 in
set_option maxHeartbeats 4000000 in
theorem walk (oa : Option Addr) (oc : Nat) (O : List FO) (n : Nat) (hn : O.length = n) (ua : Option Addr) (uc : Nat) (U : List FU) (m : Nat) (hm : U.length = m) (width : Int) (w : World) (hs : OpwAt w) (hO : FoAt w oa O) (hU : FuAt w ua U) (hn1 : n ≤ maxLen) (hm1 : m ≤ maxLen) :
    Calls Tryd.prog 3 #[.agg #[.slice oa n oc, .slice ua m uc], .int .i64 width] w fun e w' => e = .returned (.bool true) ∧ Below w.heap.size w w' := by
  have HN := hid hn
  have HSS := hid hs
  clear hs
  have HM := hid hm
  obtain ⟨x, hx1⟩ : ∃ x, leftFast n m 1048576 = x := ⟨_, rfl⟩
  have HX1 := hid hx1
  obtain ⟨W0, hW0⟩ : ∃ W, W = w.alloc (.cells #[.slice oa n oc, .slice ua m uc] 25) := ⟨_, rfl⟩
  have HWE := hid hW0.symm
  have hA : Below w.heap.size w W0 := by rw [hW0]; exact (Below.refl _ _).alloc (Nat.le_refl _) _
  have HB0 := hid (p := W0.heap[w.heap.size]? = some (.cells #[.slice oa n oc, .slice ua m uc] 25)) (by rw [hW0]; exact _root_.Go.heap_alloc_new w _)
  have P0 := Kept.refl w.heap.size W0
  have HO := hid (hO.below hA)
  have HU := hid (hU.below hA)
  clear hO hU hn hm hW0
  by_cases hx0 : x < 0
  · clear hx1
    go_enter Tryd.func3, Tryd.ntmps3
    go_wp2_with fail
    rw [HWE.out]
    refine (szfast_laws oa oc n ua uc m 1048576 _ hn1 hm1 (by omega) (by omega)).mono ?_
    rw [HX1.out]
    rintro e w1 ⟨rfl, hb1⟩
    go_wp2
    go_ret
    exact ⟨rfl, chain hA hb1⟩
  have hx0' : 0 ≤ x := by omega
  have hq : n ≤ 1048576 ∧ m ≤ 1048576 := by
    unfold leftFast at hx1
    split at hx1
    · omega
    split at hx1
    · omega
    omega
  have Z := hid (p := ∀ w', Below W0.heap.size W0 w' → Calls Tryd.prog 6 #[.agg #[.slice oa n oc, .slice ua m uc]] w' fun e w'' => ∃ g g2, e = .returned (.agg #[.slice (some ⟨g, 0, none⟩) n n, .slice (some ⟨g2, 0, none⟩) m m]) ∧ FoAt w'' (some ⟨g, 0, none⟩) O ∧ FuAt w'' (some ⟨g2, 0, none⟩) U ∧ Below w'.heap.size w' w'') (fun w' hw => tofast_laws oa oc O ua uc U n m HN.out HM.out w' (HO.out.below hw) (HU.out.below hw) hq.1 hq.2)
  obtain ⟨b, hb⟩ : ∃ b, fastB O U width = b := ⟨_, rfl⟩
  have HB := hid hb
  have hbn : ∀ (x : Bool) (wz : World), (binOp .neq 4 (.bool x) (.bool x)).run Tryd.prog wz = .ok (.bool false) wz := fun x wz => by cases x <;> kernel_rfl
  clear hb hx1
  go_enter Tryd.func3, Tryd.ntmps3
  go_wp2_with fail
  rw [HWE.out]
  refine (szfast_laws oa oc n ua uc m 1048576 _ hn1 hm1 (by omega) (by omega)).mono ?_
  rw [HX1.out]
  rintro e w1 ⟨rfl, hx⟩
  obtain ⟨p0, p1⟩ := cells2 ((P0.below hx).box (Nat.le_refl _) HB0.out)
  go_wp2_with fail
  refine (Z.out _ hx).mono ?_
  rintro e w2 ⟨g1, g2, rfl, O1, U1, hb2⟩
  replace hx := chain hx hb2
  clear hb2 p0 p1
  go_wp2_with fail
  refine (fastok_spec _ _ O n HN.out _ _ U m HM.out width _ O1 U1 hn1 hm1 b HB.out).mono ?_
  rintro e w3 ⟨rfl, hb3⟩
  replace hx := chain hx hb3
  obtain ⟨p0, p1⟩ := cells2 ((P0.below hx).box (Nat.le_refl _) HB0.out)
  clear hb3 O1 U1
  go_wp2_with fail
  refine (Z.out _ hx).mono ?_
  rintro e w4 ⟨g3, g4, rfl, O2, U2, hb4⟩
  replace hx := chain hx hb4
  have HO2 := hid O2
  have HU2 := hid U2
  clear hb4 O2 U2 p0 p1
  go_wp2_with fail
  obtain ⟨W5, hW5⟩ : ∃ W, W = w4.alloc (.cells #[.slice (some ⟨g3, 0, none⟩) n n, .slice (some ⟨g4, 0, none⟩) m m] 31) := ⟨_, rfl⟩
  obtain ⟨bx, hbx⟩ : ∃ z, z = w4.heap.size := ⟨_, rfl⟩
  have hA5 : Below w4.heap.size w4 W5 := by rw [hW5]; exact (Below.refl _ _).alloc (Nat.le_refl _) _
  have HX5 := hid (p := W5.heap[bx]? = some (.cells #[.slice (some ⟨g3, 0, none⟩) n n, .slice (some ⟨g4, 0, none⟩) m m] 31)) (by rw [hW5, hbx]; exact _root_.Go.heap_alloc_new w4 _)
  have P5 := Kept.refl 0 W5
  rw [← hW5, ← hbx]
  replace hx := chain hx hA5
  refine (fastok_impl _ _ O n HN.out _ _ U m HM.out width _ ((HSS.out.below hA).below hx) (HO2.out.below hA5) (HU2.out.below hA5) hn1 hm1 b HB.out).mono ?_
  rintro e w6 ⟨rfl, hb6⟩
  have P6 := P5.below hb6
  have HO6 := hid ((HO2.out.below hA5).below hb6)
  have HU6 := hid ((HU2.out.below hA5).below hb6)
  replace hx := chain hx hb6
  obtain ⟨p0, p1⟩ := cells2 ((P0.below hx).box (Nat.le_refl _) HB0.out)
  obtain ⟨q0, q1⟩ := cells2 (P6.box (Nat.zero_le _) HX5.out)
  clear hb6 hA5 hW5 hbx P5 HO2 HU2
  go_wp2_with fail
  refine wp_region_held_drew (S := (fun w' => (w'.cell? ⟨w.heap.size, 0, none⟩ = some (.slice oa n oc) ∧ w'.cell? ⟨w.heap.size, 1, none⟩ = some (.slice ua m uc)) ∧ (w'.cell? ⟨bx, 0, none⟩ = some (.slice (some ⟨g3, 0, none⟩) n n) ∧ w'.cell? ⟨bx, 1, none⟩ = some (.slice (some ⟨g4, 0, none⟩) m m)))) (by kernel_rfl) ⟨⟨p0, p1⟩, q0, q1⟩ (fun hHeld => ?_)
  refine tkH 0 ?_
  simp only [Act.put, ptT, ptZ, ptS]
  refine tkH 1 ?_
  simp only [Act.put, ptT, ptZ, ptS]
  refine oneH 2 ?_
  intro K hK
  go_simp
  refine (Z.out _ hx.drew).mono ?_
  rintro e w7 ⟨g5, g6, rfl, O7, U7, hb7'⟩
  have hb7 := undrew hb7'
  have P7 := P6.below hb7
  have HO7 := hid (HO6.out.below hb7)
  have HU7 := hid (HU6.out.below hb7)
  have HO8 := hid O7
  have HU8 := hid U7
  replace hx := chain hx hb7
  clear p0 p1 q0 q1 hHeld hb7 hb7' O7 U7
  obtain ⟨p0, p1⟩ := cells2 ((P0.below hx).box (Nat.le_refl _) HB0.out)
  obtain ⟨q0, q1⟩ := cells2 (P7.box (Nat.zero_le _) HX5.out)
  go_wp2_with fail
  refine hK.out _ _ ⟨⟨p0, p1⟩, q0, q1⟩ (fun hHeld => ?_)
  clear hK K
  try simp only [Act.put, ptT, ptZ, ptS]
  refine oneH 3 ?_
  intro K hK
  go_simp
  refine (eqfast_laws _ _ _ _ _ _ _ _ O U n m HN.out HM.out _ HO7.out HU7.out HO8.out HU8.out hn1 hm1).mono ?_
  rintro e w8 ⟨rfl, hb8⟩
  have P8 := P7.below hb8
  replace hx := chain hx hb8
  clear p0 p1 q0 q1 hHeld hb8
  obtain ⟨p0, p1⟩ := cells2 ((P0.below hx).box (Nat.le_refl _) HB0.out)
  obtain ⟨q0, q1⟩ := cells2 (P8.box (Nat.zero_le _) HX5.out)
  go_wp2_with fail
  refine hK.out _ _ ⟨⟨p0, p1⟩, q0, q1⟩ (fun hHeld => ?_)
  clear hK K
  try simp only [Act.put, ptT, ptZ, ptS]
  refine tkH 4 ?_
  simp only [Act.put, ptT, ptZ, ptS]
  refine wpAnyH_done (by kernel_rfl) ?_ _
  clear p0 p1 q0 q1 hHeld
  have hxx := chain hA hx
  go_wp2
  go_ret
  exact ⟨rfl, hxx⟩

theorem laidOut : laidOutB Tryd.prog = true := by kernel_rfl

theorem var_laid {W : World} (h : laidMetH Tryd.prog Rows.fnExactFastOkRow.laid W) : OpwAt W := by
  rw [MakeChecks.laidMetH_plain _ _ _ (by kernel_rfl)] at h
  exact opw_of h

/-- The door's own heap meets the condition. -/
theorem door_met (os : Os) (args : Array Value) : laidMetH Tryd.prog Rows.fnExactFastOkRow.laid ((World.doorLaid Tryd.prog 400 os).forCall (fun _ _ => 0) ⟨#[], args, []⟩).memory :=
  laidMetH_of_parts3 (fuel := 8) (laidMet_of_run' 8 (by kernel_rfl) (by kernel_rfl)) (by kernel_rfl) (by kernel_rfl)

set_option maxRecDepth 100000 in
theorem lifted (os : Os) (started : os.Started) (H : Type) (enc : TypeId × Value → H) :
    ReturnsInHanded {} Tryd.checked os 3 .any (fun w args => (Rows.fnExactFastOkSpec.pre enc Tryd.prog Tryd.f3 [] false w args ∧ laidMetH Tryd.prog Rows.fnExactFastOkRow.laid w) ∧ sizedMet enc Tryd.prog Tryd.f3 (OpenSpec.ofChange Rows.fnExactFastOkSpec) false w args)
      (Rows.fnExactFastOkSpec.post enc Tryd.prog Tryd.f3 false true false false) := by
  refine returnsInHanded_of_change_and (C := Tryd.checked) (X := fun w _ => laidMetH Tryd.prog Rows.fnExactFastOkRow.laid w) (fun _ _ _ hh h => h.of_heap hh) own started (by kernel_rfl) Tryd.func3
    (ChangeSpec.witness_shaped (enc := enc) (C := Tryd.checked) (os := os) (X := fun w _ => laidMetH Tryd.prog Rows.fnExactFastOkRow.laid w) false (World.doorLaid Tryd.prog 400 os) #[.agg #[.slice none 0 0, .slice none 0 0], .int .i64 0] 8 rfl (World.shaped_of_RefB (by kernel_rfl) (by kernel_rfl)) (by kernel_rfl) (by kernel_rfl) (by kernel_rfl) (door_met os _)) ?_
  intro W base args ds gs before hval0 hW _ _ hL _
  have hval : ∀ (j : Nat) t v, Tryd.f3.params[j]? = some t → args[j]? = some v → Value.okWide Tryd.prog W .any base t v := hval0
  have hW' := hW
  obtain ⟨p, q, hA0, hV, rfl, hfz, hnd⟩ := hW
  have hA : DataW.TrodAll enc Tryd.prog W 0 (fun _ => true) true Tryd.f3.params.toList args.toList ds p := hA0
  rw [Tryd.params3] at hA hval
  obtain ⟨v0, v1, d0, d1, p0, p1, rfl, rfl, rfl, h0, h1⟩ := trodAll_two hA
  have hV2 := hV
  obtain ⟨_, _, _, _, g1, _, rfl, _⟩ := trodVars_one hV
  have k0 := h0
  have lt0 : ∀ x ∈ p0, x.block < W.heap.size := by obtain ⟨m, hm⟩ := k0; exact DataW.trod_lt m _ _ _ hm
  obtain ⟨O0, U0, n0, m0, oa0, oc0, ua0, uc0, rfl, hn0, hm0, hO0, hU0, hM0, hN0⟩ := open_fast (hval 0 25 v0 rfl rfl) h0
  have k1 := h1
  have lt1 : ∀ x ∈ p1, x.block < W.heap.size := by obtain ⟨m, hm⟩ := k1; exact DataW.trod_lt m _ _ _ hm
  obtain ⟨z1, rfl⟩ := okWide_int Tryd.underlying2 (hval 1 2 v1 rfl rfl)
  clear hA0 hval0
  have hs := var_laid hL
  refine (walk oa0 oc0 O0 n0 hn0 ua0 uc0 U0 m0 hm0 z1 W hs hO0 hU0 hM0 hN0).mono fun e W' ⟨he, bel⟩ => ?_
  subst he
  exact ⟨_, rfl, _, _, _, [], _, _, hW', trodAll_mk1 (shut_bool Tryd.underlying4 _), trodAll_mk2 (Below.trod laidOut (by kernel_rfl) (of_decide_eq_true (by kernel_rfl)) k0 bel lt0) (Below.trod laidOut (by kernel_rfl) (of_decide_eq_true (by kernel_rfl)) k1 bel lt1), Below.trodVars laidOut bel (by kernel_rfl) hV2, bel.frame _, fun h => by cases h⟩

theorem fact0 {a b : Bool} (h : a = true) (h2 : b = true) : (a && b) = true := by rw [h, h2]; rfl
theorem fact1 : (Rows.fnExactFastOkRow.wf (OpenSpec.ofChange Rows.fnExactFastOkSpec)) = true := by kernel_rfl
theorem fact2 : (laidOutB Tryd.prog) = true := by kernel_rfl
theorem fact3 : (mapsRowed Tryd.prog) = true := by kernel_rfl
theorem fact4 : (Tryd.f3.params.all (Tryd.prog.readableRec ·)) = true := by kernel_rfl
theorem fact5 : (namedTie Tryd.prog Rows.fnExactFastOkRow.named Rows.fnExactFastOkSpec.vars) = true := by kernel_rfl
theorem fact6 : ((Rows.fnExactFastOkRow.stops == [])) = true := by kernel_rfl
theorem fact7 : ((Tryd.prog.stops == [])) = true := by kernel_rfl
theorem fact8 : ((Rows.fnExactFastOkRow.knobs == [])) = true := by kernel_rfl
theorem fact9 : ((Tryd.prog.stopKnobs == [])) = true := by kernel_rfl
theorem fact10 : ((Rows.fnExactFastOkRow.inPlace == Tryd.prog.inPlace 3)) = true := by kernel_rfl
theorem fact11 : ((Rows.fnExactFastOkRow.unfollowed == Tryd.prog.unfollowed 3)) = true := by kernel_rfl
theorem fact12 : ((Rows.fnExactFastOkRow.recurses == Tryd.prog.recurses 3)) = true := by kernel_rfl
theorem fact13 : ((Rows.fnExactFastOkRow.named == Tryd.prog.varsNamed 3)) = true := by kernel_rfl
theorem fact14 : ((Rows.fnExactFastOkRow.maps == (Tryd.f3.params.toList ++ Rows.fnExactFastOkSpec.plain.varTypes Tryd.prog).any (Tryd.prog.mapsRec ·))) = true := by kernel_rfl
theorem fact15 : ((Rows.fnExactFastOkRow.ifaces == (Tryd.f3.params.toList ++ Rows.fnExactFastOkSpec.plain.varTypes Tryd.prog).any (Tryd.prog.ifacesRec ·))) = true := by kernel_rfl
theorem fact16 : ((Rows.fnExactFastOkRow.mapsOut == Tryd.prog.mapsAmong Tryd.f3.resultTypes.toList)) = true := by kernel_rfl
theorem fact17 : ((Rows.fnExactFastOkRow.loops == (Tryd.f3.params.toList ++ Rows.fnExactFastOkSpec.plain.varTypes Tryd.prog).any (Tryd.prog.loopsFrom ·))) = true := by kernel_rfl
theorem fact18 : ((Rows.fnExactFastOkRow.wideKeys == (Tryd.f3.params.toList ++ Rows.fnExactFastOkSpec.plain.varTypes Tryd.prog ++ Tryd.f3.resultTypes.toList).any (Tryd.prog.wideKeysFrom ·))) = true := by kernel_rfl
theorem fact19 : (Rows.fnExactFastOkSpec.vars.all (Tryd.prog.varReadable ·)) = true := by kernel_rfl
theorem fact20 : (Tryd.f3.resultTypes.all (fun t => Tryd.prog.readableRec t && decide (t < Tryd.prog.types.size))) = true := by kernel_rfl
theorem fact21 : ((Rows.fnExactFastOkRow.ifacesOut == Tryd.f3.resultTypes.toList.any (Tryd.prog.ifacesRec ·))) = true := by kernel_rfl
theorem fact22 : ((Rows.fnExactFastOkRow.loopsOut == Tryd.f3.resultTypes.toList.any (Tryd.prog.loopsFrom ·))) = true := by kernel_rfl
theorem fact23 : ((Rows.fnExactFastOkRow.plainKeys == Tryd.prog.plainKeys)) = true := by kernel_rfl
theorem fact24 : (Rows.fnExactFastOkRow.shortTexts.isNone) = true := by kernel_rfl
theorem fact25 : (Tryd.prog.stopsHeard) = true := by kernel_rfl
theorem fact26 : (Tryd.prog.mayEnter) = true := by kernel_rfl
theorem fact27 : ((Rows.fnExactFastOkRow.lifted == Tryd.prog.liftsFinal)) = true := by kernel_rfl
theorem fact28 : ((Tryd.prog.make == some Rows.fnExactFastOkRow.make)) = true := by kernel_rfl
theorem fact30 : ((Rows.fnExactFastOkRow.pinned == Rows.fnExactFastOkRow.pinnedBy)) = true := by kernel_rfl
theorem fact31 : ((Rows.fnExactFastOkRow.veiled == (Tryd.f3.params.toList ++ Rows.fnExactFastOkSpec.plain.varTypes Tryd.prog ++ Tryd.f3.resultTypes.toList).any (Tryd.prog.veiledRec ·))) = true := by kernel_rfl
theorem fact32 : (Rows.fnExactFastOkRow.veiledFits Tryd.prog Tryd.f3.params.toList (Tryd.f3.params.toList ++ Rows.fnExactFastOkSpec.plain.varTypes Tryd.prog ++ Tryd.f3.resultTypes.toList)) = true := by kernel_rfl
set_option maxRecDepth 100000 in
theorem closed : joinedFacts Tryd.prog 3 Tryd.f3 Rows.fnExactFastOkSpec Rows.fnExactFastOkRow = true := by
  unfold joinedFacts
  exact (fact0 (fact0 (fact0 (fact0 (fact0 (fact0 (fact0 (fact0 (fact0 (fact0 (fact0 (fact0 (fact0 (fact0 (fact0 (fact0 (fact0 (fact0 (fact0 (fact0 (fact0 (fact0 (fact0 (fact0 (fact0 (fact0 (fact0 (fact0 (fact0 (fact0 (fact0 fact1 fact2) fact3) fact4) fact5) fact6) fact7) fact8) fact9) fact10) fact11) fact12) fact13) fact14) fact15) fact16) fact17) fact18) fact19) fact20) fact21) fact22) fact23) fact24) fact25) fact26) fact27) fact28) (by kernel_rfl)) fact30) fact31) fact32)
theorem named : Tryd.prog.funcNamed Rows.fnExactFastOkRow.func = some 3 := by kernel_rfl
theorem instOf : Tryd.f3.isInstance Tryd.prog Rows.fnExactFastOkRow.origin Rows.fnExactFastOkRow.targs := of_decide_eq_true (by kernel_rfl)
theorem wrapOf : Tryd.f3.isWrapper Tryd.prog Rows.fnExactFastOkRow.wrapper Rows.fnExactFastOkRow.mainSum := by unfold Func.isWrapper; first | (rw [if_pos (by decide +kernel)]; kernel_rfl) | (rw [if_neg (by decide +kernel)]; exact ⟨rfl, rfl⟩)
theorem over : Rows.fnExactFastOkRow.holds Tryd.pinned (OpenSpec.ofChange Rows.fnExactFastOkSpec) :=
  OpenClaim.holds_of_wide 3 Tryd.f3 rfl rfl rfl rfl rfl rfl rfl ⟨rfl, rfl, rfl, rfl, rfl⟩ rfl rfl rfl rfl rfl named Tryd.func3 closed
    instOf wrapOf
    (fun os started H enc _ => lifted os started H enc)

end exFastOk

theorem fnExactFastOk_wf : Rows.fnExactFastOkRow.wfByText (OpenSpec.ofChange Rows.fnExactFastOkSpec) = true := by kernel_rfl
theorem fnExactFastOk_main : Tryd.prog.mainIs = some (Rows.fnExactFastOkCard.stood.harness.1, Rows.fnExactFastOkCard.stood.harness.2.toList) := by kernel_rfl
theorem fnExactFastOk_looks : false = Tryd.prog.looks [] := by kernel_rfl
theorem fnExactFastOk_want0 : Tryd.prog.wantsStandIn 2 = false := by kernel_rfl
theorem fnExactFastOk_want1 : Tryd.prog.wantsStandIn 25 = false := by kernel_rfl
theorem fnExactFastOk_goes : false = Rows.fnExactFastOkRow.goesBy Tryd.prog := by kernel_rfl
theorem fnExactFastOk_card : Rows.FnExactFastOkCardSaid :=
  Claim7.holds_tied_plain_at .later [] [.data] true Rows.fnExactFastOkCard.stood.harness false
    exFastOk.over (fun _ h => by cases h) fnExactFastOk_wf (fun _ h => by cases h) fnExactFastOk_row_tie rfl ⟨rfl, rfl⟩ fnExactFastOk_main rfl
    (fun f fn hf hfn => by
      obtain rfl : f = 3 := Option.some.inj (exFastOk.named.symm.trans hf) |>.symm
      obtain rfl : fn = Tryd.f3 := (Option.some.inj (Tryd.func3.symm.trans hfn)).symm
      exact ⟨fnExactFastOk_looks, fun j t ht => by
        rw [Tryd.params3] at ht
        have h3 : t = 25 ∨ t = 2 := by
          rcases j with _ | _ | j
          · exact .inl (by simpa using ht.symm)
          · exact .inr (by simpa using ht.symm)
          · simp at ht
        rcases h3 with rfl | rfl
        · exact fnExactFastOk_want1
        · exact fnExactFastOk_want0⟩)
    fnExactFastOk_goes

end Go.Proofs.YtmhamgcjmehnnaaDoor
