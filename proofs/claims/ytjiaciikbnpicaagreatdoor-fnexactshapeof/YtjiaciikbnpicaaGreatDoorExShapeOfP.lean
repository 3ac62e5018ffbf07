/-
  Proved: at every list of tables and every list of sieves the program's ShapeOf answers as its model does; it writes into no argument and keeps nothing of one; its answer owns its memory, behind another call too; the law's arguments read afterwards as before; the listed variables (tables of bits and of powers of ten, errors' own handle, two errors of the library and five of the program) start as the program's text lays them, to which the card ties them; no other condition.
-/
import Derived.Test.YtjiaciikbnpicaaGreatDoorPart44
import Derived.Test.YtjiaciikbnpicaaGreatDoorPart38
import Derived.Test.YtjiaciikbnpicaaGreatDoorPart39
import Derived.Test.YtjiaciikbnpicaaGreatDoorTie
import Derived.Test.YtjiaciikbnpicaaGreatDoorCards
import Derived.Lib.SmallJoins
import Derived.SevenTiedAt
namespace Go.Proofs.YtjiaciikbnpicaaGreatDoor
open Go.ChangeShapes Go.WideShapes Go.ChangeAt Go.RowKit Go.Joins

namespace exShapeOf

theorem own : ownKnob Tryz.prog.godebug = none := by kernel_rfl

set_option maxRecDepth 100000 in
set_option maxHeartbeats 8000000 in
theorem walk (a : Option Addr) (cap : Nat) (T : List TB) (n : Nat) (hn : T.length = n) (b : Option Addr) (capb : Nat) (L : List SV) (m : Nat) (hm : L.length = m) (w : World) (ht : TabsAt w a T) (hl : SivsAt w b L) (hnM : n ≤ maxLen) (hmM : m ≤ maxLen) (A : Sen) (hS : SenAt w A) :
    Calls Tryz.prog 4 #[.slice a n cap, .slice b m capb] w fun e w' => e = .returned (.bool true) ∧ Below w.heap.size w w' := by
  have HT : Hid (TabsAt w a T) := ht
  have HL : Hid (SivsAt w b L) := hl
  have HN : Hid (T.length = n) := hn
  have HM : Hid (L.length = m) := hm
  have HS : Hid (SenAt w A) := hS
  obtain ⟨x, hx1⟩ : ∃ x, leftTS T 1048576 = x := ⟨_, rfl⟩
  have HX1 : Hid (leftTS T 1048576 = x) := hx1
  clear ht hl hn hm hS
  by_cases hx0 : x < 0
  · clear hx1
    go_enter Tryz.func4, Tryz.ntmps4
    go_wp2_with fail
    refine (sztabs_laws a cap T n HN.out 1048576 _ HT.out hnM (by omega) (by omega)).mono ?_
    rw [HX1.out]
    rintro e w1 ⟨rfl, hb1⟩
    go_wp2
    go_ret
    exact ⟨rfl, hb1⟩
  have hx0' : 0 ≤ x := by omega
  have hxm : x ≤ 1048576 := leftTS_le (by omega) hx1 hx0'
  obtain ⟨y, hy1⟩ : ∃ y, leftVS L x = y := ⟨_, rfl⟩
  have HY1 : Hid (leftVS L x = y) := hy1
  by_cases hy0 : y < 0
  · clear hx1 hy1
    go_enter Tryz.func4, Tryz.ntmps4
    go_wp2_with fail
    refine (sztabs_laws a cap T n HN.out 1048576 _ HT.out hnM (by omega) (by omega)).mono ?_
    rw [HX1.out]
    rintro e w1 ⟨rfl, hb1⟩
    go_wp2_with fail
    refine (szsivs_laws b capb L m HM.out x _ (HL.out.below hb1) hmM hx0' hxm).mono ?_
    rw [HY1.out]
    rintro e w2 ⟨rfl, hb2⟩
    go_wp2
    go_ret
    exact ⟨rfl, chain hb1 hb2⟩
  have hy0' : 0 ≤ y := by omega
  have hq := leftTS_fits (T := T) (x := 1048576) (by omega) (by rw [hx1]; exact hx0')
  have hnm : n ≤ 1048576 := by rw [← HN.out]; exact hq.1
  have hoff := offT_leftTS (T := T) (x := 1048576) (by omega) (by rw [hx1]; exact hx0')
  have hqV := leftVS_fits (T := L) (x := x) hxm (by rw [hy1]; exact hy0')
  have hmm : m ≤ 1048576 := by rw [← HM.out]; exact hqV.1
  have hofV := offV_leftVS (T := L) (x := x) hxm (by rw [hy1]; exact hy0')
  have HSM : Hid (∀ t, t ∈ T → Small t) := by
    have : ∀ t, t ∈ T → Small t := fun t ht => by
      obtain ⟨i, hi, rfl⟩ := List.getElem_of_mem ht
      exact hq.2 i hi
    exact this
  have HMI : Hid (∀ i (hi : i < L.length), MildV L[i]) := hqV.2
  have Z : Hid (∀ w', Below w.heap.size w w' → Calls Tryz.prog 18 #[.slice a n cap] w' fun e w'' => ∃ g Q, e = .returned (.slice (some ⟨g, 0, none⟩) n n) ∧ OutTs w'' w'.heap.size (some ⟨g, 0, none⟩) T Q ∧ Below w'.heap.size w' w'') := by
    have : ∀ w', Below w.heap.size w w' → Calls Tryz.prog 18 #[.slice a n cap] w' fun e w'' => ∃ g Q, e = .returned (.slice (some ⟨g, 0, none⟩) n n) ∧ OutTs w'' w'.heap.size (some ⟨g, 0, none⟩) T Q ∧ Below w'.heap.size w' w'' :=
      fun w' hw => totabs_out a cap T n HN.out w' (HT.out.below hw) hnm hq.2
    exact this
  have Y : Hid (∀ w', Below w.heap.size w w' → Calls Tryz.prog 19 #[.slice b m capb] w' fun e w'' => ∃ g Q, e = .returned (.slice (some ⟨g, 0, none⟩) m m) ∧ OutVs w'' w'.heap.size (some ⟨g, 0, none⟩) L Q ∧ Below w'.heap.size w' w'') := by
    have : ∀ w', Below w.heap.size w w' → Calls Tryz.prog 19 #[.slice b m capb] w' fun e w'' => ∃ g Q, e = .returned (.slice (some ⟨g, 0, none⟩) m m) ∧ OutVs w'' w'.heap.size (some ⟨g, 0, none⟩) L Q ∧ Below w'.heap.size w' w'' :=
      fun w' hw => tosivs_out b capb L m HM.out w' (HL.out.below hw) hmm hqV.2
    exact this
  obtain ⟨D, k0, hD⟩ : ∃ D k0, shapeR T L = (D, k0) := ⟨_, _, rfl⟩
  have HD : Hid (shapeR T L = (D, k0)) := hD
  have hD6 : D.length ≤ 6 := by
    by_cases hk : k0 = 0
    · subst hk; exact shapeR_len T L D hD
    · rw [shapeR_none T L D k0 hD hk]; simp
  obtain ⟨nD, hnD⟩ : ∃ k, D.length = k := ⟨_, rfl⟩
  have HND : Hid (D.length = nD) := hnD
  have hnD6 : nD ≤ 6 := by omega
  have hnDM : nD ≤ maxLen := by unfold maxLen; omega
  obtain ⟨rX, hrX⟩ : ∃ rX, 1 + offT T T.length = rX := ⟨_, rfl⟩
  have HRX : Hid (1 + offT T T.length = rX) := hrX
  obtain ⟨rY, hrY⟩ : ∃ rY, rX + offV L L.length = rY := ⟨_, rfl⟩
  have HRY : Hid (rX + offV L L.length = rY) := hrY
  have hrX1 : rX ≤ 1099511627776 := by omega
  have hrX0 : 0 < rX := by omega
  have hrY1 : rY ≤ 1099511627776 := by omega
  have hrY0 : ¬ (rY : Int) < 0 := by omega
  obtain ⟨rD, hrD⟩ : ∃ rD, 1 + nD = rD := ⟨_, rfl⟩
  have HRD : Hid (1 + nD = rD) := hrD
  have hrD0 : ¬ (rD : Int) < 0 := by omega
  have hrDD : ((rD : Int) == (rD : Int)) = true := by simp
  have hkk : (k0 == k0) = true := by simp
  clear hD hD6 hnD hrX hrY hrD hoff hofV hx1 hy1 hq hqV
  go_enter Tryz.func4, Tryz.ntmps4
  go_wp2_with fail
  refine (sztabs_laws a cap T n HN.out 1048576 _ HT.out hnM (by omega) (by omega)).mono ?_
  rw [HX1.out]
  rintro e w1 ⟨rfl, hx⟩
  go_wp2_with fail
  refine (szsivs_laws b capb L m HM.out x _ (HL.out.below hx) hmM hx0' hxm).mono ?_
  rw [HY1.out]
  rintro e w2 ⟨rfl, hb⟩
  replace hx := chain hx hb
  clear hb
  go_wp2_with fail
  refine (Z.out _ hx).mono ?_
  rintro e w3 ⟨g3, Q3, rfl, O3, hb⟩
  have HO3 : Hid (TabsAt w3 (some ⟨g3, 0, none⟩) T) := O3.lies
  replace hx := chain hx hb
  clear hb O3
  go_wp2_with fail
  refine (Y.out _ hx).mono ?_
  rintro e w4 ⟨g4, Q4, rfl, O4, hb⟩
  have HO4 : Hid (SivsAt w4 (some ⟨g4, 0, none⟩) L) := O4.lies
  have HO3' : Hid (TabsAt w4 (some ⟨g3, 0, none⟩) T) := HO3.out.below hb
  replace hx := chain hx hb
  clear hb O4 HO3
  go_wp2_with fail
  refine (shapeof_spec _ n n T HN.out _ m L m HM.out w4 HO3'.out HO4.out hnM hmM D k0 HD.out).mono ?_
  intro e w5 hO
  obtain ⟨gS, nS, cS, rfl, oS, hb⟩ := hO.own
  obtain rfl : nD = nS := HND.out.symm.trans oS.1
  have S5 : Hid (Own w5 w4.heap.size gS nD cS D) := oS
  have hgS : gS < w5.heap.size := (oS.2.lt gS rfl).2
  replace hx := chain hx hb
  have hw5 := hx.size
  clear hb oS hO HO4 HO3'
  go_wp2_with fail
  refine (Z.out _ hx).mono ?_
  rintro e w6 ⟨gX, QX, rfl, OX, hb⟩
  have X6 : Hid (OutTs w6 w5.heap.size (some ⟨gX, 0, none⟩) T QX) := OX
  have S6 : Hid (Own w6 w4.heap.size gS nD cS D) := S5.out.below hb
  have HXlt : Hid (∀ b, tabsBlks (some ⟨gX, 0, none⟩) T QX b → b < w6.heap.size) := OX.blks_lt
  have hw6 := hb.size
  replace hx := chain hx hb
  clear hb OX S5
  go_wp2_with fail
  refine (Y.out _ hx).mono ?_
  rintro e w7 ⟨gY, QY, rfl, OY, hb⟩
  have Y7 : Hid (OutVs w7 w6.heap.size (some ⟨gY, 0, none⟩) L QY) := OY
  have X7 : Hid (OutTs w7 w5.heap.size (some ⟨gX, 0, none⟩) T QX) := X6.out.below hb
  have S7 : Hid (Own w7 w4.heap.size gS nD cS D) := S6.out.below hb
  have HYlt : Hid (∀ b, sivsBlks (some ⟨gY, 0, none⟩) L QY b → b < w7.heap.size) := OY.blks_lt
  have hw7 := hb.size
  replace hx := chain hx hb
  clear hb OY X6 S6
  go_wp2_with fail
  refine (shapeof_impl _ n n T HN.out hnm HSM.out _ m L m HM.out w7 X7.out.lies Y7.out.lies HMI.out hmM (Nat.le_refl _) A (HS.out.below hx) D k0 HD.out).mono ?_
  intro e w8 hO
  obtain ⟨gG, nG, cG, rfl, oG, hb⟩ := hO.own
  obtain rfl : nD = nG := HND.out.symm.trans oG.1
  have G8 : Hid (Own w8 w7.heap.size gG nD cG D) := oG
  have X8 : Hid (OutTs w8 w5.heap.size (some ⟨gX, 0, none⟩) T QX) := X7.out.below hb
  have Y8 : Hid (OutVs w8 w6.heap.size (some ⟨gY, 0, none⟩) L QY) := Y7.out.below hb
  have S8 : Hid (Own w8 w4.heap.size gS nD cS D) := S7.out.below hb
  have hgG : w7.heap.size ≤ gG := oG.lo
  replace hx := chain hx hb
  clear hb oG hO X7 Y7 S7
  go_wp2_with fail
  refine (eqstrN nD _ _ _ _ D HND.out w8 G8.out.strs S8.out.strs hnDM).mono ?_
  rintro e w9 ⟨rfl, hb⟩
  have X9 : Hid (OutTs w9 w5.heap.size (some ⟨gX, 0, none⟩) T QX) := X8.out.below hb
  have Y9 : Hid (OutVs w9 w6.heap.size (some ⟨gY, 0, none⟩) L QY) := Y8.out.below hb
  have S9 : Hid (Own w9 w4.heap.size gS nD cS D) := S8.out.below hb
  have G9 : Hid (Own w9 w7.heap.size gG nD cG D) := G8.out.below hb
  replace hx := chain hx hb
  clear hb X8 Y8 S8 G8
  go_wp2_with fail
  refine (Z.out _ hx).mono ?_
  rintro e w10 ⟨g10, Q10, rfl, O10, hb⟩
  have X10 : Hid (OutTs w10 w5.heap.size (some ⟨gX, 0, none⟩) T QX) := X9.out.below hb
  have Y10 : Hid (OutVs w10 w6.heap.size (some ⟨gY, 0, none⟩) L QY) := Y9.out.below hb
  have S10 : Hid (Own w10 w4.heap.size gS nD cS D) := S9.out.below hb
  have G10 : Hid (Own w10 w7.heap.size gG nD cG D) := G9.out.below hb
  replace hx := chain hx hb
  clear hb X9 Y9 S9 G9
  go_wp2_with fail
  refine (eqtabs_laws _ _ _ _ T n HN.out _ X10.out.lies O10.lies hnM).mono ?_
  rintro e w11 ⟨rfl, hb⟩
  clear O10
  have X11 : Hid (OutTs w11 w5.heap.size (some ⟨gX, 0, none⟩) T QX) := X10.out.below hb
  have Y11 : Hid (OutVs w11 w6.heap.size (some ⟨gY, 0, none⟩) L QY) := Y10.out.below hb
  have S11 : Hid (Own w11 w4.heap.size gS nD cS D) := S10.out.below hb
  have G11 : Hid (Own w11 w7.heap.size gG nD cG D) := G10.out.below hb
  replace hx := chain hx hb
  clear hb X10 Y10 S10 G10
  go_wp2_with fail
  refine (Y.out _ hx).mono ?_
  rintro e w12 ⟨g12, Q12, rfl, O12, hb⟩
  have X12 : Hid (OutTs w12 w5.heap.size (some ⟨gX, 0, none⟩) T QX) := X11.out.below hb
  have Y12 : Hid (OutVs w12 w6.heap.size (some ⟨gY, 0, none⟩) L QY) := Y11.out.below hb
  have S12 : Hid (Own w12 w4.heap.size gS nD cS D) := S11.out.below hb
  have G12 : Hid (Own w12 w7.heap.size gG nD cG D) := G11.out.below hb
  replace hx := chain hx hb
  clear hb X11 Y11 S11 G11
  go_wp2_with fail
  refine (eqsivs_laws _ _ _ _ L m HM.out _ Y12.out.lies O12.lies hmM).mono ?_
  rintro e w13 ⟨rfl, hb⟩
  clear O12
  have X13 : Hid (OutTs w13 w5.heap.size (some ⟨gX, 0, none⟩) T QX) := X12.out.below hb
  have Y13 : Hid (OutVs w13 w6.heap.size (some ⟨gY, 0, none⟩) L QY) := Y12.out.below hb
  have S13 : Hid (Own w13 w4.heap.size gS nD cS D) := S12.out.below hb
  have G13 : Hid (Own w13 w7.heap.size gG nD cG D) := G12.out.below hb
  replace hx := chain hx hb
  clear hb X12 Y12 S12 G12
  go_wp2_with fail
  refine (marktabs_laws _ _ T n HN.out QX w5.heap.size 1 rX HRX.out _ X13.out (by omega) hrX1 hnM).mono ?_
  rintro e w14 ⟨rfl, _, K14⟩
  have hw13 := hx.size
  have Y14 : Hid (OutVs w14 w6.heap.size (some ⟨gY, 0, none⟩) L QY) := Y13.out.keepFar K14 HXlt.out
  have G14 : Hid (Own w14 w7.heap.size gG nD cG D) := G13.out.keepS K14 (fun b hb => by have := HXlt.out b hb; omega)
  have S14 : Hid (Own w14 w4.heap.size gS nD cS D) := S13.out.keepLo K14 hgS (fun b hb => X13.out.blks_lo b hb)
  replace hx := KeepS.belowP hx K14 (by omega) (fun b hb => Nat.le_trans hw5 (X13.out.blks_lo b hb))
  clear K14 X13 Y13 G13 S13
  go_wp2_with fail
  refine (marksivs_laws _ _ L m HM.out QY w6.heap.size rX rY HRY.out _ Y14.out hrX0 hrY1 hmM).mono ?_
  rintro e w15 ⟨rfl, _, K15⟩
  have hw14 := hx.size
  have G15 : Hid (Own w15 w7.heap.size gG nD cG D) := G14.out.keepS K15 (fun b hb => HYlt.out b hb)
  have S15 : Hid (Own w15 w4.heap.size gS nD cS D) := S14.out.keepLo K15 (Nat.lt_of_lt_of_le hgS hw6) (fun b hb => Y14.out.blks_lo b hb)
  replace hx := KeepS.belowP hx K15 (by omega) (fun b hb => by have := Y14.out.blks_lo b hb; omega)
  clear K15 Y14 G14 S14
  go_wp2_with fail
  refine (eqstrN nD _ _ _ _ D HND.out w15 G15.out.strs S15.out.strs hnDM).mono ?_
  rintro e w16 ⟨rfl, hb⟩
  have S16 : Hid (Own w16 w4.heap.size gS nD cS D) := S15.out.below hb
  have G16 : Hid (Own w16 w7.heap.size gG nD cG D) := G15.out.below hb
  replace hx := chain hx hb
  clear hb S15 G15
  go_wp2_with fail
  refine (markstrV nD _ _ D HND.out 1 rD 1 rfl HRD.out w16 G16.out.strs G16.out.free (by omega) (by omega)).mono ?_
  rintro e w17 ⟨rfl, M17, K17⟩
  have hw16 := hx.size
  have HM17 : Hid (StrsAt w17 (some ⟨gG, 0, none⟩) (marksS 1 nD)) := M17
  have S17 : Hid (Own w17 w4.heap.size gS nD cS D) := S16.out.keepLo K17 (B := w7.heap.size) (by omega) (fun b hb => by obtain ⟨_, o, e⟩ := hb; cases e; exact hgG)
  replace hx := KeepS.belowP hx K17 (by omega) (fun b hb => by obtain ⟨_, o, e⟩ := hb; cases e; omega)
  clear K17 M17 G16 S16
  go_wp2_with fail
  refine (heldstrD nD _ _ 1 rD 1 rfl HRD.out w17 HM17.out (by omega) (by omega)).mono ?_
  rintro e w18 ⟨rfl, hb⟩
  have HM18 : Hid (StrsAt w18 (some ⟨gG, 0, none⟩) (marksS 1 nD)) := HM17.out.below hb
  have S18 : Hid (Own w18 w4.heap.size gS nD cS D) := S17.out.below hb
  replace hx := chain hx hb
  clear hb S17
  go_wp2_with fail
  refine (Z.out _ hx).mono ?_
  rintro e w19 ⟨g19, Q19, rfl, O19, hb⟩
  have HM19 : Hid (StrsAt w19 (some ⟨gG, 0, none⟩) (marksS 1 nD)) := HM18.out.below hb
  have HO19 : Hid (TabsAt w19 (some ⟨g19, 0, none⟩) T) := O19.lies
  have S19 : Hid (Own w19 w4.heap.size gS nD cS D) := S18.out.below hb
  replace hx := chain hx hb
  clear hb S18
  clear O19 HM18
  go_wp2_with fail
  refine (Y.out _ hx).mono ?_
  rintro e w20 ⟨g20, Q20, rfl, O20, hb⟩
  have HM20 : Hid (StrsAt w20 (some ⟨gG, 0, none⟩) (marksS 1 nD)) := HM19.out.below hb
  have HO20 : Hid (SivsAt w20 (some ⟨g20, 0, none⟩) L) := O20.lies
  have HO19' : Hid (TabsAt w20 (some ⟨g19, 0, none⟩) T) := HO19.out.below hb
  have S20 : Hid (Own w20 w4.heap.size gS nD cS D) := S19.out.below hb
  replace hx := chain hx hb
  clear hb S19
  clear O20 HM19 HO19
  go_wp2_with fail
  refine (shapeof_impl _ n n T HN.out hnm HSM.out _ m L m HM.out w20 HO19'.out HO20.out HMI.out hmM (Nat.le_refl _) A (HS.out.below hx) D k0 HD.out).mono ?_
  intro e w21 hO
  obtain ⟨gH, nH, cH, rfl, oH, hb⟩ := hO.own
  obtain rfl : nD = nH := HND.out.symm.trans oH.1
  have H21 : Hid (Own w21 w20.heap.size gH nD cH D) := oH
  have HM21 : Hid (StrsAt w21 (some ⟨gG, 0, none⟩) (marksS 1 nD)) := HM20.out.below hb
  have S21 : Hid (Own w21 w4.heap.size gS nD cS D) := S20.out.below hb
  replace hx := chain hx hb
  clear hb S20
  clear oH hO HM20 HO19' HO20
  go_wp2_with fail
  refine (eqstrN nD _ _ _ _ D HND.out w21 H21.out.strs S21.out.strs hnDM).mono ?_
  rintro e w22 ⟨rfl, hb⟩
  have HM22 : Hid (StrsAt w22 (some ⟨gG, 0, none⟩) (marksS 1 nD)) := HM21.out.below hb
  replace hx := chain hx hb
  clear hb HM21 H21 S21
  go_wp2_with fail
  refine (heldstrD nD _ _ 1 rD 1 rfl HRD.out w22 HM22.out (by omega) (by omega)).mono ?_
  rintro e w23 ⟨rfl, hb⟩
  replace hx := chain hx hb
  clear hb HM22
  go_wp2
  go_ret
  exact ⟨rfl, hx⟩

theorem laidOut : laidOutB Tryz.prog = true := by kernel_rfl

theorem var_laid {W : World} (h : laidMetH Tryz.prog Rows.fnExactShapeOfRow.laid W) : ∃ A, SenAt W A := sen_of h

/-- The door's own heap meets the condition. -/
theorem door_met (os : Os) (args : Array Value) : laidMetH Tryz.prog Rows.fnExactShapeOfRow.laid ((World.doorLaid Tryz.prog 400 os).forCall (fun _ _ => 0) ⟨#[], args, []⟩).memory :=
  laidMetH_of_parts3 (fuel := 8) (laidMet_of_run' 8 (by kernel_rfl) (by kernel_rfl)) (by kernel_rfl) (by kernel_rfl)

set_option maxRecDepth 100000 in
theorem lifted (os : Os) (started : os.Started) (H : Type) (enc : TypeId × Value → H) :
    ReturnsInHanded {} Tryz.checked os 4 .any (fun w args => (Rows.fnExactShapeOfSpec.pre enc Tryz.prog Tryz.f4 [] false w args ∧ laidMetH Tryz.prog Rows.fnExactShapeOfRow.laid w) ∧ sizedMet enc Tryz.prog Tryz.f4 (OpenSpec.ofChange Rows.fnExactShapeOfSpec) false w args)
      (Rows.fnExactShapeOfSpec.post enc Tryz.prog Tryz.f4 false true false false) := by
  refine returnsInHanded_of_change_and (C := Tryz.checked) (X := fun w _ => laidMetH Tryz.prog Rows.fnExactShapeOfRow.laid w) (fun _ _ _ hh h => h.of_heap hh) own started (by kernel_rfl) Tryz.func4
    (ChangeSpec.witness_shaped (enc := enc) (C := Tryz.checked) (os := os) (X := fun w _ => laidMetH Tryz.prog Rows.fnExactShapeOfRow.laid w) false (World.doorLaid Tryz.prog 400 os) #[.slice none 0 0, .slice none 0 0] 8 rfl (World.shaped_of_RefB (by kernel_rfl) (by kernel_rfl)) (by kernel_rfl) (by kernel_rfl) (by kernel_rfl) (door_met os _)) ?_
  intro W base args ds gs before hval0 hW _ _ hL _
  have hval : ∀ (j : Nat) t v, Tryz.f4.params[j]? = some t → args[j]? = some v → Value.okWide Tryz.prog W .any base t v := hval0
  have hW' := hW
  obtain ⟨p, q, hA0, hV, rfl, hfz, hnd⟩ := hW
  have hA : DataW.TrodAll enc Tryz.prog W 0 (fun _ => true) true Tryz.f4.params.toList args.toList ds p := hA0
  rw [Tryz.params4] at hA hval
  obtain ⟨v0, v1, d0, d1, p0, p1, rfl, rfl, rfl, h0, h1⟩ := trodAll_two hA
  have hV2 := hV
  obtain ⟨_, _, _, _, _, rfl⟩ := trodVars_five hV
  have k0 := h0
  have lt0 : ∀ x ∈ p0, x.block < W.heap.size := by obtain ⟨m, hm⟩ := k0; exact DataW.trod_lt m _ _ _ hm
  obtain ⟨a0, n0, c0, rfl⟩ := okWide_slice Tryz.underlying44 (hval 0 44 v0 rfl rfl)
  obtain ⟨m0, hm0⟩ := h0
  obtain ⟨T0, hl0, hT0, hM0, hC0, hN0⟩ := open_tabs hm0
  have k1 := h1
  have lt1 : ∀ x ∈ p1, x.block < W.heap.size := by obtain ⟨m, hm⟩ := k1; exact DataW.trod_lt m _ _ _ hm
  obtain ⟨a1, n1, c1, rfl⟩ := okWide_slice Tryz.underlying45 (hval 1 45 v1 rfl rfl)
  obtain ⟨m1, hm1⟩ := h1
  obtain ⟨T1, hl1, hT1, hM1, hC1, hN1⟩ := open_sieves hm1
  clear hA0 hval0
  obtain ⟨A, hS⟩ := var_laid hL
  refine (walk a0 c0 T0 n0 hl0 a1 c1 T1 n1 hl1 W hT0 hT1 hM0 hM1 A hS).mono fun e W' ⟨he, bel⟩ => ?_
  subst he
  exact ⟨_, rfl, _, _, _, [], _, _, hW', trodAll_mk1 (shut_bool Tryz.underlying4 _), trodAll_mk2 (Below.trod laidOut (by kernel_rfl) (of_decide_eq_true (by kernel_rfl)) k0 bel lt0) (Below.trod laidOut (by kernel_rfl) (of_decide_eq_true (by kernel_rfl)) k1 bel lt1), Below.trodVars laidOut bel (by kernel_rfl) hV2, bel.frame _, fun h => by cases h⟩

theorem over : Rows.fnExactShapeOfRow.holds Tryz.pinned (OpenSpec.ofChange Rows.fnExactShapeOfSpec) :=
  OpenClaim.holds_of_wide 4 Tryz.f4 rfl rfl rfl rfl rfl rfl rfl ⟨rfl, rfl, rfl, rfl, rfl⟩ rfl rfl rfl rfl rfl (by kernel_rfl) Tryz.func4 (by kernel_rfl)
    (of_decide_eq_true (by kernel_rfl)) (by unfold Func.isWrapper; first | (rw [if_pos (by decide +kernel)]; kernel_rfl) | (rw [if_neg (by decide +kernel)]; exact ⟨rfl, rfl⟩))
    (fun os started H enc _ => lifted os started H enc)

end exShapeOf

theorem fnExactShapeOf_card : Rows.FnExactShapeOfCardSaid :=
  Claim7.holds_tied_plain_at .later [] [.data, .data, .data, .handle, .sentinel, .sentinel, .sentinel, .sentinel, .sentinel, .sentinel, .sentinel] true Rows.fnExactShapeOfCard.stood.harness true
    exShapeOf.over (fun _ h => by cases h) (by kernel_rfl) (fun _ h => by cases h) fnExactShapeOf_row_tie rfl ⟨rfl, rfl⟩ (by kernel_rfl) rfl
    (fun f fn hf hfn => by
      obtain rfl : f = 4 := Option.some.inj ((show Tryz.prog.funcNamed Rows.fnExactShapeOfRow.func = some 4 by kernel_rfl).symm.trans hf) |>.symm
      obtain rfl : fn = Tryz.f4 := (Option.some.inj (Tryz.func4.symm.trans hfn)).symm
      exact ⟨by kernel_rfl, fun j t ht => by
        rw [Tryz.params4] at ht
        have h3 : t = 44 ∨ t = 45 := by
          rcases j with _ | _ | j
          · exact .inl (by simpa using ht.symm)
          · exact .inr (by simpa using ht.symm)
          · simp at ht
        rcases h3 with rfl | rfl
        · exact (show Tryz.prog.wantsStandIn 44 = false by kernel_rfl)
        · exact (show Tryz.prog.wantsStandIn 45 = false by kernel_rfl)⟩)
    (by kernel_rfl)

end Go.Proofs.YtjiaciikbnpicaaGreatDoor
