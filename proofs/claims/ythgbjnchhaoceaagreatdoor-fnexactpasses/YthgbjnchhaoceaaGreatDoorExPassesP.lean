/-
  Proved: at every list of items, every list of texts and every row of cells the program's Passes answers as its model does, it writes into nothing that it is given, and the law's arguments read afterwards as before; the listed variables of the library (the table of powers of ten, two tables of bits, two errors) start as the program's text lays them, to which the card ties them; no other condition.
-/
import Derived.Test.YthgbjnchhaoceaaGreatDoorPart17
import Derived.Test.YthgbjnchhaoceaaGreatDoorPart8
import Derived.Test.YthgbjnchhaoceaaGreatDoorTie
import Derived.Test.YthgbjnchhaoceaaGreatDoorCards
import Derived.Lib.SmallJoins
import Derived.SevenTiedAt
namespace Go.Proofs.YthgbjnchhaoceaaGreatDoor
open Go.ChangeShapes Go.WideShapes Go.ChangeAt Go.RowKit Go.Joins

namespace exPasses

theorem own : ownKnob Tryz.prog.godebug = none := by kernel_rfl
theorem szS (n : Nat) (a : Option Addr) (cap : Nat) (l : List ByteArray) (hn : l.length = n) (left : Int) (w : World) (hrow : StrsAt w a l) (hfit : FitS l) (hm : n ≤ maxLen) (h0 : 0 ≤ left) (h1 : left ≤ 1048576) (r : Int) (hr : leftOfS l left = r) :
    Calls Tryz.prog 26 #[.slice a n cap, .int .i64 left] w fun e w' => e = .returned (.int .i64 r) ∧ Below w.heap.size w w' := by
  subst hn hr; exact szstr_laws a cap l left w hrow hfit hm h0 h1
theorem szC (n : Nat) (a : Option Addr) (cap : Nat) (l : List CT) (hn : l.length = n) (left : Int) (w : World) (hrow : RowAt w a l) (hfit : Fit l) (hm : n ≤ maxLen) (h0 : 0 ≤ left) (h1 : left ≤ 1048576) (r : Int) (hr : leftOf l left = r) :
    Calls Tryz.prog 27 #[.slice a n cap, .int .i64 left] w fun e w' => e = .returned (.int .i64 r) ∧ Below w.heap.size w w' := by
  subst hn hr; exact szs_laws a cap l left w hrow hfit hm h0 h1
theorem toS (n : Nat) (a : Option Addr) (cap : Nat) (l : List ByteArray) (hn : l.length = n) (w : World) (hrow : StrsAt w a l) (hm : n ≤ 1048576) :
    Calls Tryz.prog 29 #[.slice a n cap] w fun e w' => ∃ g, e = .returned (.slice (some ⟨g, 0, none⟩) n n) ∧ StrsAt w' (some ⟨g, 0, none⟩) l ∧ Below w.heap.size w w' := by
  subst hn
  refine (tostr_laws a cap l w hrow hm).mono ?_
  rintro e w' ⟨rfl, h, hb⟩
  exact ⟨_, rfl, own_strs h, hb⟩
theorem toC (n : Nat) (a : Option Addr) (cap : Nat) (l : List CT) (hn : l.length = n) (w : World) (hrow : RowAt w a l) (hm : n ≤ 1048576) :
    Calls Tryz.prog 30 #[.slice a n cap] w fun e w' => ∃ g, e = .returned (.slice (some ⟨g, 0, none⟩) n n) ∧ RowAt w' (some ⟨g, 0, none⟩) l ∧ Below w.heap.size w w' := by
  subst hn
  refine (tos_laws a cap l w hrow hm).mono ?_
  rintro e w' ⟨rfl, h, hb⟩
  exact ⟨_, rfl, own_row h, hb⟩
theorem eqS (n : Nat) (a b : Option Addr) (ca cb : Nat) (l : List ByteArray) (hn : l.length = n) (w : World) (ha : StrsAt w a l) (hb : StrsAt w b l) (hm : n ≤ maxLen) :
    Calls Tryz.prog 33 #[.slice a n ca, .slice b n cb] w fun e w' => e = .returned (.bool true) ∧ Below w.heap.size w w' := by
  subst hn; exact eqstr_laws a b ca cb l w ha hb hm
theorem eqC (n : Nat) (a b : Option Addr) (ca cb : Nat) (l : List CT) (hn : l.length = n) (w : World) (ha : RowAt w a l) (hb : RowAt w b l) (hm : n ≤ maxLen) :
    Calls Tryz.prog 34 #[.slice a n ca, .slice b n cb] w fun e w' => e = .returned (.bool true) ∧ Below w.heap.size w w' := by
  subst hn; exact eqs_laws a b ca cb l w ha hb hm

set_option maxRecDepth 100000 in
set_option maxHeartbeats 4000000 in
theorem walk (a : Option Addr) (cap : Nat) (l : List TI) (n : Nat) (hn : l.length = n) (ca : Option Addr) (cc : Nat) (C : List ByteArray) (m : Nat) (hm : C.length = m) (ra : Option Addr) (rc : Nat) (R : List CT) (q : Nat) (hq : R.length = q) (w : World) (hrow : ItmAt w a l) (hfit : FitItm l) (hnl : n ≤ maxLen) (hC : StrsAt w ca C) (hCf : FitS C) (hml : m ≤ maxLen) (hR : RowAt w ra R) (hRf : Fit R) (hql : q ≤ maxLen) (hp : PowAt w) (he : ErrAt w) :
    Calls Tryz.prog 5 #[.slice a n cap, .slice ca m cc, .slice ra q rc] w fun e w' => e = .returned (.bool true) ∧ Below w.heap.size w w' := by
  have HP : Hid (PowAt w) := hp
  have HE : Hid (ErrAt w) := he
  have HK : Hid (ItmAt w a l) := hrow
  have HF : Hid (FitItm l) := hfit
  have HN : Hid (l.length = n) := hn
  have HC : Hid (StrsAt w ca C) := hC
  have HCF : Hid (FitS C) := hCf
  have HM : Hid (C.length = m) := hm
  have HR : Hid (RowAt w ra R) := hR
  have HRF : Hid (Fit R) := hRf
  have HQ : Hid (R.length = q) := hq
  obtain ⟨r0, hr0⟩ : ∃ r : Int, leftOfItm l 1048576 = r := ⟨_, rfl⟩
  have HR0 : Hid (leftOfItm l 1048576 = r0) := hr0
  obtain ⟨r1, hr1⟩ : ∃ r : Int, leftOfS C r0 = r := ⟨_, rfl⟩
  have HR1 : Hid (leftOfS C r0 = r1) := hr1
  obtain ⟨r2, hr2⟩ : ∃ r : Int, leftOf R r1 = r := ⟨_, rfl⟩
  have HR2 : Hid (leftOf R r1 = r2) := hr2
  obtain ⟨⟨y1, y4⟩, hy⟩ : ∃ y, passR C R l = y := ⟨_, rfl⟩
  have HY : Hid (passR C R l = (y1, y4)) := hy
  clear hp he hrow hfit hn hC hCf hm hR hRf hq hy
  by_cases h0 : r0 < 0
  · clear hr0 hr1 hr2
    go_enter Tryz.func5, Tryz.ntmps5
    go_wp2_with fail
    refine (szI n a cap l HN.out _ HK.out HF.out hnl r0 HR0.out).mono ?_
    rintro e w1 ⟨rfl, hb1⟩
    go_wp2
    go_ret
    exact ⟨rfl, hb1⟩
  have hle : (l.length : Int) + (weightItm l : Int) ≤ 1048576 ∧ r0 ≤ 1048576 := by
    unfold leftOfItm at hr0
    split at hr0 <;> omega
  have hnm : n ≤ 1048576 := by rw [← HN.out]; omega
  have h0' : 0 ≤ r0 := by omega
  have h01 : r0 ≤ 1048576 := hle.2
  have HFI : Hid (FitI l) := by
    have : FitI l := by
      intro x hx
      have := oneI_le hx
      unfold oneItm at this
      unfold maxLen
      omega
    exact this
  by_cases h1 : r1 < 0
  · clear hr0 hr1 hr2 hle
    go_enter Tryz.func5, Tryz.ntmps5
    go_wp2_with fail
    refine (szI n a cap l HN.out _ HK.out HF.out hnl r0 HR0.out).mono ?_
    rintro e w1 ⟨rfl, hb1⟩
    go_wp2_with fail
    refine (szS m ca cc C HM.out r0 _ (HC.out.below hb1) HCF.out hml h0' h01 r1 HR1.out).mono ?_
    rintro e w2 ⟨rfl, hb2⟩
    have hx2 := chain hb1 hb2
    go_wp2
    go_ret
    exact ⟨rfl, hx2⟩
  have hmm : m ≤ 1048576 ∧ r1 ≤ 1048576 := by
    rw [← HM.out]
    unfold leftOfS at hr1
    split at hr1 <;> omega
  have h1' : 0 ≤ r1 := by omega
  have h11 : r1 ≤ 1048576 := hmm.2
  have hm1 : m ≤ 1048576 := hmm.1
  by_cases h2 : r2 < 0
  · clear hr0 hr1 hr2 hle hmm
    go_enter Tryz.func5, Tryz.ntmps5
    go_wp2_with fail
    refine (szI n a cap l HN.out _ HK.out HF.out hnl r0 HR0.out).mono ?_
    rintro e w1 ⟨rfl, hb1⟩
    go_wp2_with fail
    refine (szS m ca cc C HM.out r0 _ (HC.out.below hb1) HCF.out hml h0' h01 r1 HR1.out).mono ?_
    rintro e w2 ⟨rfl, hb2⟩
    have hx2 := chain hb1 hb2
    go_wp2_with fail
    refine (szC q ra rc R HQ.out r1 _ (HR.out.below hx2) HRF.out hql h1' h11 r2 HR2.out).mono ?_
    rintro e w3 ⟨rfl, hb3⟩
    have hx3 := chain hx2 hb3
    go_wp2
    go_ret
    exact ⟨rfl, hx3⟩
  have hq1 : q ≤ 1048576 := by
    rw [← HQ.out]
    unfold leftOf at hr2
    split at hr2 <;> omega
  have hbn : ∀ (wz : World), (binOp .neq 4 (.bool y1) (.bool y1)).run Tryz.prog wz = .ok (.bool false) wz := fun wz => by cases y1 <;> kernel_rfl
  clear hr0 hr1 hr2 hle hmm
  go_enter Tryz.func5, Tryz.ntmps5
  go_wp2_with fail
  refine (szI n a cap l HN.out _ HK.out HF.out hnl r0 HR0.out).mono ?_
  rintro e w1 ⟨rfl, hb1⟩
  go_wp2_with fail
  refine (szS m ca cc C HM.out r0 _ (HC.out.below hb1) HCF.out hml h0' h01 r1 HR1.out).mono ?_
  rintro e w2 ⟨rfl, hb2⟩
  have hx2 := chain hb1 hb2
  clear hb1 hb2
  go_wp2_with fail
  refine (szC q ra rc R HQ.out r1 _ (HR.out.below hx2) HRF.out hql h1' h11 r2 HR2.out).mono ?_
  rintro e w3 ⟨rfl, hb3⟩
  have hx3 := chain hx2 hb3
  clear hx2 hb3
  go_wp2_with fail
  refine (tosI n a cap l HN.out _ (HK.out.below hx3) hnm).mono ?_
  rintro e w4 ⟨g4, rfl, T4, _, _, hb4⟩
  have I4 : Hid (ItmAt w4 (some ⟨g4, 0, none⟩) l) := T4
  have hx4 := chain hx3 hb4
  clear hx3 hb4 T4
  go_wp2_with fail
  refine (toS m ca cc C HM.out _ (HC.out.below hx4) hm1).mono ?_
  rintro e w5 ⟨g5, rfl, T5, hb5⟩
  have S5 : Hid (StrsAt w5 (some ⟨g5, 0, none⟩) C) := T5
  have I5 : Hid (ItmAt w5 (some ⟨g4, 0, none⟩) l) := I4.out.below hb5
  have hx5 := chain hx4 hb5
  clear hx4 hb5 T5 I4
  go_wp2_with fail
  refine (toC q ra rc R HQ.out _ (HR.out.below hx5) hq1).mono ?_
  rintro e w6 ⟨g6, rfl, T6, hb6⟩
  have R6 : Hid (RowAt w6 (some ⟨g6, 0, none⟩) R) := T6
  have S6 : Hid (StrsAt w6 (some ⟨g5, 0, none⟩) C) := S5.out.below hb6
  have I6 : Hid (ItmAt w6 (some ⟨g4, 0, none⟩) l) := I5.out.below hb6
  have hx6 := chain hx5 hb6
  clear hx5 hb6 T6 I5 S5
  go_wp2_with fail
  refine (passes_spec _ _ l n HN.out _ _ C m HM.out _ _ R q HQ.out _ I6.out HF.out hnl S6.out hml R6.out HRF.out hql _ HY.out).mono ?_
  rintro e w7 ⟨rfl, hb7⟩
  have hx7 := chain hx6 hb7
  clear hx6 hb7 I6 S6 R6
  go_wp2_with fail
  refine (tosI n a cap l HN.out _ (HK.out.below hx7) hnm).mono ?_
  rintro e w8 ⟨g8, rfl, T8, _, _, hb8⟩
  have I8 : Hid (ItmAt w8 (some ⟨g8, 0, none⟩) l) := T8
  have hx8 := chain hx7 hb8
  clear hx7 hb8 T8
  go_wp2_with fail
  refine (toS m ca cc C HM.out _ (HC.out.below hx8) hm1).mono ?_
  rintro e w9 ⟨g9, rfl, T9, hb9⟩
  have S9 : Hid (StrsAt w9 (some ⟨g9, 0, none⟩) C) := T9
  have I9 : Hid (ItmAt w9 (some ⟨g8, 0, none⟩) l) := I8.out.below hb9
  have hx9 := chain hx8 hb9
  clear hx8 hb9 T9 I8
  go_wp2_with fail
  refine (toC q ra rc R HQ.out _ (HR.out.below hx9) hq1).mono ?_
  rintro e w10 ⟨g10, rfl, T10, hb10⟩
  have R10 : Hid (RowAt w10 (some ⟨g10, 0, none⟩) R) := T10
  have S10 : Hid (StrsAt w10 (some ⟨g9, 0, none⟩) C) := S9.out.below hb10
  have I10 : Hid (ItmAt w10 (some ⟨g8, 0, none⟩) l) := I9.out.below hb10
  have hx10 := chain hx9 hb10
  clear hx9 hb10 T10 I9 S9
  go_wp2_with fail
  refine (passes_impl _ _ l n HN.out _ _ C m HM.out _ _ R q HQ.out _ I10.out HFI.out HF.out hnl S10.out hml R10.out HRF.out hql (HP.out.below hx10) (HE.out.below hx10) _ HY.out).mono ?_
  rintro e w11 ⟨rfl, hb11⟩
  have R11 : Hid (RowAt w11 (some ⟨g10, 0, none⟩) R) := R10.out.below hb11
  have S11 : Hid (StrsAt w11 (some ⟨g9, 0, none⟩) C) := S10.out.below hb11
  have I11 : Hid (ItmAt w11 (some ⟨g8, 0, none⟩) l) := I10.out.below hb11
  have hx11 := chain hx10 hb11
  clear hx10 hb11 R10 S10 I10
  go_wp2_with fail
  refine (tosI n a cap l HN.out _ (HK.out.below hx11) hnm).mono ?_
  rintro e w13 ⟨g13, rfl, T13, _, _, hb13⟩
  have J13 : Hid (ItmAt w13 (some ⟨g13, 0, none⟩) l) := T13
  have R13 : Hid (RowAt w13 (some ⟨g10, 0, none⟩) R) := R11.out.below hb13
  have S13 : Hid (StrsAt w13 (some ⟨g9, 0, none⟩) C) := S11.out.below hb13
  have I13 : Hid (ItmAt w13 (some ⟨g8, 0, none⟩) l) := I11.out.below hb13
  have hx13 := chain hx11 hb13
  clear hx11 hb13 T13 R11 S11 I11
  go_wp2_with fail
  refine (eqsI n _ _ _ _ l HN.out _ I13.out J13.out hnl).mono ?_
  rintro e w14 ⟨rfl, hb14⟩
  have R14 : Hid (RowAt w14 (some ⟨g10, 0, none⟩) R) := R13.out.below hb14
  have S14 : Hid (StrsAt w14 (some ⟨g9, 0, none⟩) C) := S13.out.below hb14
  have hx14 := chain hx13 hb14
  clear hx13 hb14 R13 S13 I13 J13
  go_wp2_with fail
  refine (toS m ca cc C HM.out _ (HC.out.below hx14) hm1).mono ?_
  rintro e w15 ⟨g15, rfl, T15, hb15⟩
  have J15 : Hid (StrsAt w15 (some ⟨g15, 0, none⟩) C) := T15
  have R15 : Hid (RowAt w15 (some ⟨g10, 0, none⟩) R) := R14.out.below hb15
  have S15 : Hid (StrsAt w15 (some ⟨g9, 0, none⟩) C) := S14.out.below hb15
  have hx15 := chain hx14 hb15
  clear hx14 hb15 T15 R14 S14
  go_wp2_with fail
  refine (eqS m _ _ _ _ C HM.out _ S15.out J15.out hml).mono ?_
  rintro e w16 ⟨rfl, hb16⟩
  have R16 : Hid (RowAt w16 (some ⟨g10, 0, none⟩) R) := R15.out.below hb16
  have hx16 := chain hx15 hb16
  clear hx15 hb16 R15 S15 J15
  go_wp2_with fail
  refine (toC q ra rc R HQ.out _ (HR.out.below hx16) hq1).mono ?_
  rintro e w17 ⟨g17, rfl, T17, hb17⟩
  have J17 : Hid (RowAt w17 (some ⟨g17, 0, none⟩) R) := T17
  have R17 : Hid (RowAt w17 (some ⟨g10, 0, none⟩) R) := R16.out.below hb17
  have hx17 := chain hx16 hb17
  clear hx16 hb17 T17 R16
  go_wp2_with fail
  refine (eqC q _ _ _ _ R HQ.out _ R17.out J17.out hql).mono ?_
  rintro e w18 ⟨rfl, hb18⟩
  have hx18 := chain hx17 hb18
  go_wp2
  go_ret
  exact ⟨rfl, hx18⟩

theorem laidOut : laidOutB Tryz.prog = true := by kernel_rfl

theorem var_laid {W : World} (h : laidMetH Tryz.prog Rows.fnExactPassesRow.laid W) : PowAt W ∧ ErrAt W := by
  rw [MakeChecks.laidMetH_plain _ _ _ (by kernel_rfl)] at h
  have h2 : laidMet Tryz.prog (("internal/strconv.uint64pow10", Rows.laid_internal_strconv_uint64pow10) :: ("strconv.ErrRange", Rows.laid_strconv_ErrRange) :: ("strconv.ErrSyntax", Rows.laid_strconv_ErrSyntax) :: []) W := laidMet.tail (laidMet.tail h)
  exact ⟨pow_of h2, err_of h2.tail⟩

/-- The door's own heap meets the condition. -/
theorem door_met (os : Os) (args : Array Value) : laidMetH Tryz.prog Rows.fnExactPassesRow.laid ((World.doorLaid Tryz.prog 400 os).forCall (fun _ _ => 0) ⟨#[], args, []⟩).memory :=
  laidMetH_of_parts3 (fuel := 8) (laidMet_of_run' 8 (by kernel_rfl) (by kernel_rfl)) (by kernel_rfl) (by kernel_rfl)

set_option maxRecDepth 100000 in
theorem lifted (os : Os) (started : os.Started) (H : Type) (enc : TypeId × Value → H) :
    ReturnsInHanded {} Tryz.checked os 5 .any (fun w args => (Rows.fnExactPassesSpec.pre enc Tryz.prog Tryz.f5 [] false w args ∧ laidMetH Tryz.prog Rows.fnExactPassesRow.laid w) ∧ sizedMet enc Tryz.prog Tryz.f5 (OpenSpec.ofChange Rows.fnExactPassesSpec) false w args)
      (Rows.fnExactPassesSpec.post enc Tryz.prog Tryz.f5 false true false false) := by
  refine returnsInHanded_of_change_and (C := Tryz.checked) (X := fun w _ => laidMetH Tryz.prog Rows.fnExactPassesRow.laid w) (fun _ _ _ hh h => h.of_heap hh) own started (by kernel_rfl) Tryz.func5
    (ChangeSpec.witness_shaped (enc := enc) (C := Tryz.checked) (os := os) (X := fun w _ => laidMetH Tryz.prog Rows.fnExactPassesRow.laid w) false (World.doorLaid Tryz.prog 400 os) #[.slice none 0 0, .slice none 0 0, .slice none 0 0] 8 rfl (World.shaped_of_RefB (by kernel_rfl) (by kernel_rfl)) (by kernel_rfl) (by kernel_rfl) (by kernel_rfl) (door_met os _)) ?_
  intro W base args ds gs before hval0 hW _ _ hL _
  have hval : ∀ (j : Nat) t v, Tryz.f5.params[j]? = some t → args[j]? = some v → Value.okWide Tryz.prog W .any base t v := hval0
  have hW' := hW
  obtain ⟨p, q, hA0, hV, rfl, hfz, hnd⟩ := hW
  have hA : DataW.TrodAll enc Tryz.prog W 0 (fun _ => true) true Tryz.f5.params.toList args.toList ds p := hA0
  rw [Tryz.params5] at hA hval
  obtain ⟨v0, v1, v2, d0, d1, d2, p0, p1, p2, rfl, rfl, rfl, h0, h1, h2⟩ := trodAll_three hA
  obtain ⟨rfl, rfl⟩ := trodVars_none hV
  have k0 := h0
  have lt0 : ∀ x ∈ p0, x.block < W.heap.size := by obtain ⟨m, hm⟩ := k0; exact DataW.trod_lt m _ _ _ hm
  obtain ⟨a0, n0, c0, rfl⟩ := okWide_slice Tryz.underlying43 (hval 0 43 v0 rfl rfl)
  obtain ⟨m0, hm0⟩ := h0
  obtain ⟨l0, hl0, hK0, hF0, hM0, hN0⟩ := open_itms Tryz.underlying43 Tryz.underlying81 Tryz.underlying79 (by kernel_rfl) rfl rfl rfl rfl rfl rfl (by kernel_rfl) (by kernel_rfl) (by kernel_rfl) (by kernel_rfl) (by kernel_rfl) (by kernel_rfl) Tryz.underlying2 Tryz.underlying9 Tryz.underlying2 Tryz.underlying2 Tryz.underlying9 hm0
  have k1 := h1
  have lt1 : ∀ x ∈ p1, x.block < W.heap.size := by obtain ⟨m, hm⟩ := k1; exact DataW.trod_lt m _ _ _ hm
  obtain ⟨a1, n1, c1, rfl⟩ := okWide_slice Tryz.underlying25 (hval 1 25 v1 rfl rfl)
  obtain ⟨m1, hm1⟩ := h1
  obtain ⟨l1, hl1, hS1, hF1, hM1, hC1, hN1⟩ := open_strs Tryz.underlying25 Tryz.underlying9 (by kernel_rfl) hm1
  have k2 := h2
  have lt2 : ∀ x ∈ p2, x.block < W.heap.size := by obtain ⟨m, hm⟩ := k2; exact DataW.trod_lt m _ _ _ hm
  obtain ⟨a2, n2, c2, rfl⟩ := okWide_slice Tryz.underlying44 (hval 2 44 v2 rfl rfl)
  obtain ⟨m2, hm2⟩ := h2
  obtain ⟨l2, hl2, hR2, hF2, hM2, hN2⟩ := open_cells Tryz.underlying44 Tryz.underlying79 (by kernel_rfl) rfl rfl rfl (by kernel_rfl) (by kernel_rfl) (by kernel_rfl) Tryz.underlying2 Tryz.underlying2 Tryz.underlying9 hm2
  clear hA0 hval0
  obtain ⟨hp, he⟩ := var_laid hL
  refine (walk a0 c0 l0 n0 hl0 a1 c1 l1 n1 hl1 a2 c2 l2 n2 hl2 W hK0 hF0 hM0 hS1 hF1 hM1 hR2 hF2 hM2 hp he).mono fun e W' ⟨he, bel⟩ => ?_
  subst he
  exact ⟨_, rfl, _, _, _, [], _, [], hW', trodAll_mk1 (shut_bool Tryz.underlying4 _), trodAll_mk3 (Below.trod laidOut (by kernel_rfl) (of_decide_eq_true (by kernel_rfl)) k0 bel lt0) (Below.trod laidOut (by kernel_rfl) (of_decide_eq_true (by kernel_rfl)) k1 bel lt1) (Below.trod laidOut (by kernel_rfl) (of_decide_eq_true (by kernel_rfl)) k2 bel lt2), rfl, bel.frame _, fun h => by cases h⟩

theorem over : Rows.fnExactPassesRow.holds Tryz.pinned (OpenSpec.ofChange Rows.fnExactPassesSpec) :=
  OpenClaim.holds_of_wide 5 Tryz.f5 rfl rfl rfl rfl rfl rfl rfl ⟨rfl, rfl, rfl, rfl, rfl⟩ rfl rfl rfl rfl rfl (by kernel_rfl) Tryz.func5 (by kernel_rfl)
    (of_decide_eq_true (by kernel_rfl)) (by unfold Func.isWrapper; first | (rw [if_pos (by decide +kernel)]; kernel_rfl) | (rw [if_neg (by decide +kernel)]; exact ⟨rfl, rfl⟩))
    (fun os started H enc _ => lifted os started H enc)

end exPasses

theorem fnExactPasses_card : Rows.FnExactPassesCardSaid :=
  Claim7.holds_tied_plain_at .later [] [.data, .data, .data, .sentinel, .sentinel] true Rows.fnExactPassesCard.stood.harness true
    exPasses.over (fun _ h => by cases h) (by kernel_rfl) (fun _ h => by cases h) fnExactPasses_row_tie rfl ⟨rfl, rfl⟩ (by kernel_rfl) rfl
    (fun f fn hf hfn => by
      obtain rfl : f = 5 := Option.some.inj ((show Tryz.prog.funcNamed Rows.fnExactPassesRow.func = some 5 by kernel_rfl).symm.trans hf) |>.symm
      obtain rfl : fn = Tryz.f5 := (Option.some.inj (Tryz.func5.symm.trans hfn)).symm
      exact ⟨by kernel_rfl, fun j t ht => by
        rw [Tryz.params5] at ht
        have h3 : t = 43 ∨ t = 25 ∨ t = 44 := by
          rcases j with _ | _ | _ | j
          · exact .inl (by simpa using ht.symm)
          · exact .inr (.inl (by simpa using ht.symm))
          · exact .inr (.inr (by simpa using ht.symm))
          · simp at ht
        rcases h3 with rfl | rfl | rfl
        · exact (show Tryz.prog.wantsStandIn 43 = false by kernel_rfl)
        · exact (show Tryz.prog.wantsStandIn 25 = false by kernel_rfl)
        · exact (show Tryz.prog.wantsStandIn 44 = false by kernel_rfl)⟩)
    (by kernel_rfl)

end Go.Proofs.YthgbjnchhaoceaaGreatDoor
