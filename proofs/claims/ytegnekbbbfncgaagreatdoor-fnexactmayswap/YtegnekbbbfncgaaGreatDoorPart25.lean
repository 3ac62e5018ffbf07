/-
  A part of the proof: SwapWalk.
-/
import Derived.Test.YtegnekbbbfncgaaGreatDoorPart23
import Derived.Test.YtegnekbbbfncgaaGreatDoorPart24
import Derived.Deep.RegionHeld3

/-
  The walk of the law of MaySwap.
-/
namespace Go.Proofs.YtegnekbbbfncgaaGreatDoor
open Go.ChangeShapes Go.WideShapes Go.ChangeAt Go.RowKit

namespace exMaySwap

set_option maxRecDepth 100000 in
set_option maxHeartbeats 8000000 in
theorem walk (kd : Int) (nm : ByteArray) (na : Option Addr) (nn nc : Nat) (N : List ByteArray) (hnn : N.length = nn) (sa : Option Addr) (sn sc : Nat) (S : List TI) (hsn : S.length = sn) (dn : Bool) (ct sk : Int) (kt : Int) (mt : ByteArray) (ma : Option Addr) (mn mc : Nat) (M : List ByteArray) (hmn : M.length = mn) (ra : Option Addr) (rn rc : Nat) (R : List TI) (hrn : R.length = rn) (dt : Bool) (tt st : Int) (w : World) (hv : SivAt w na nc sa ⟨kd, nm, N, S, dn, ct, sk⟩) (hu : SivAt w ma mc ra ⟨kt, mt, M, R, dt, tt, st⟩) (hp : PowAt w) (he : ErrAt w) (hcol : ColAt w) :
    Calls Tryz.prog 5 #[.agg #[.int .i64 kd, .string nm, .slice na nn nc, .slice sa sn sc, .bool dn, .int .i64 ct, .int .i64 sk], .agg #[.int .i64 kt, .string mt, .slice ma mn mc, .slice ra rn rc, .bool dt, .int .i64 tt, .int .i64 st]] w fun e w' => e = .returned (.bool true) ∧ Below w.heap.size w w' := by
  have HV : Hid (SivAt w na nc sa ⟨kd, nm, N, S, dn, ct, sk⟩) := hv
  have HU : Hid (SivAt w ma mc ra ⟨kt, mt, M, R, dt, tt, st⟩) := hu
  have HNN : Hid (N.length = nn) := hnn
  have HSN : Hid (S.length = sn) := hsn
  have HMN : Hid (M.length = mn) := hmn
  have HRN : Hid (R.length = rn) := hrn
  have HP : Hid (PowAt w) := hp
  have HE : Hid (ErrAt w) := he
  have HCL : Hid (ColAt w) := hcol
  obtain ⟨E0, hE0, hA, hBS, hBT⟩ := two_boxes w (.cells #[.int .i64 kd, .string nm, .slice na nn nc, .slice sa sn sc, .bool dn, .int .i64 ct, .int .i64 sk] 26) (.cells #[.int .i64 kt, .string mt, .slice ma mn mc, .slice ra rn rc, .bool dt, .int .i64 tt, .int .i64 st] 26)
  have HBS : Hid (E0.heap[w.heap.size]? = some (.cells #[.int .i64 kd, .string nm, .slice na nn nc, .slice sa sn sc, .bool dn, .int .i64 ct, .int .i64 sk] 26)) := hBS
  have HBT : Hid (E0.heap[w.heap.size + 1]? = some (.cells #[.int .i64 kt, .string mt, .slice ma mn mc, .slice ra rn rc, .bool dt, .int .i64 tt, .int .i64 st] 26)) := hBT
  have HE0 : Hid (((w.alloc (.cells #[.int .i64 kd, .string nm, .slice na nn nc, .slice sa sn sc, .bool dn, .int .i64 ct, .int .i64 sk] 26)).alloc (.cells #[.int .i64 kt, .string mt, .slice ma mn mc, .slice ra rn rc, .bool dt, .int .i64 tt, .int .i64 st] 26)) = E0) := hE0
  have P0 := Kept.refl w.heap.size E0
  have hbn : ∀ (x : Bool) (wz : World), (binOp .neq 4 (.bool x) (.bool x)).run Tryz.prog wz = .ok (.bool false) wz := fun x wz => by cases x <;> kernel_rfl
  obtain ⟨y, hy1⟩ : ∃ y, leftV ⟨kd, nm, N, S, dn, ct, sk⟩ 1048576 = y := ⟨_, rfl⟩
  have SZ1 : Hid (∀ w', Below w.heap.size w w' → Calls Tryz.prog 10 #[.agg #[.int .i64 kd, .string nm, .slice na nn nc, .slice sa sn sc, .bool dn, .int .i64 ct, .int .i64 sk], .int .i64 1048576] w' fun e w'' => e = .returned (.int .i64 y) ∧ Below w'.heap.size w' w'') := by
    have : ∀ w', Below w.heap.size w w' → Calls Tryz.prog 10 #[.agg #[.int .i64 kd, .string nm, .slice na nn nc, .slice sa sn sc, .bool dn, .int .i64 ct, .int .i64 sk], .int .i64 1048576] w' fun e w'' => e = .returned (.int .i64 y) ∧ Below w'.heap.size w' w'' := fun w' hw => by
      rw [← hy1]
      exact szsiv_laws na nc sa sc ⟨kd, nm, N, S, dn, ct, sk⟩ nn sn HNN.out HSN.out w' (HV.out.below hw) 1048576 (by omega) (by omega)
    exact this
  clear hv hu hnn hsn hmn hrn hp he hcol hE0 hBS hBT
  by_cases hy0 : y < 0
  · clear hy1
    go_enter Tryz.func5, Tryz.ntmps5
    obtain ⟨p0, p1, p2, p3, p4, p5, p6⟩ := cells7 HBS.out
    rw [← HE0.out] at p0 p1 p2 p3 p4 p5 p6
    go_wp2_with fail
    rw [HE0.out]
    clear p0 p1 p2 p3 p4 p5 p6
    refine (SZ1.out _ hA).mono ?_
    rintro e w1 ⟨rfl, hb⟩
    have P1 := P0.below hb
    have hx := chain hA hb
    clear hb
    go_wp2
    go_ret
    exact ⟨rfl, hx⟩
  have hy0' : 0 ≤ y := by omega
  have hym : y ≤ 1048576 := by have := leftV_le ⟨kd, nm, N, S, dn, ct, sk⟩ 1048576 (by omega); omega
  obtain ⟨z, hz1⟩ : ∃ z, leftV ⟨kt, mt, M, R, dt, tt, st⟩ y = z := ⟨_, rfl⟩
  have SZ2 : Hid (∀ w', Below w.heap.size w w' → Calls Tryz.prog 10 #[.agg #[.int .i64 kt, .string mt, .slice ma mn mc, .slice ra rn rc, .bool dt, .int .i64 tt, .int .i64 st], .int .i64 y] w' fun e w'' => e = .returned (.int .i64 z) ∧ Below w'.heap.size w' w'') := by
    have : ∀ w', Below w.heap.size w w' → Calls Tryz.prog 10 #[.agg #[.int .i64 kt, .string mt, .slice ma mn mc, .slice ra rn rc, .bool dt, .int .i64 tt, .int .i64 st], .int .i64 y] w' fun e w'' => e = .returned (.int .i64 z) ∧ Below w'.heap.size w' w'' := fun w' hw => by
      rw [← hz1]
      exact szsiv_laws ma mc ra rc ⟨kt, mt, M, R, dt, tt, st⟩ mn rn HMN.out HRN.out w' (HU.out.below hw) y hy0' hym
    exact this
  by_cases hz0 : z < 0
  · clear hy1 hz1
    go_enter Tryz.func5, Tryz.ntmps5
    obtain ⟨p0, p1, p2, p3, p4, p5, p6⟩ := cells7 HBS.out
    rw [← HE0.out] at p0 p1 p2 p3 p4 p5 p6
    go_wp2_with fail
    rw [HE0.out]
    clear p0 p1 p2 p3 p4 p5 p6
    refine (SZ1.out _ hA).mono ?_
    rintro e w1 ⟨rfl, hb⟩
    have P1 := P0.below hb
    have hx := chain hA hb
    clear hb
    obtain ⟨t0, t1, t2, t3, t4, t5, t6⟩ := cells7 (P1.box (by omega) HBT.out)
    go_wp2_with fail
    refine (SZ2.out _ hx).mono ?_
    rintro e w2 ⟨rfl, hb⟩
    have P2 := P1.below hb
    replace hx := chain hx hb
    clear hb t0 t1 t2 t3 t4 t5 t6
    go_wp2
    go_ret
    exact ⟨rfl, hx⟩
  have hz0' : 0 ≤ z := by omega
  have HMS : Hid (MildV ⟨kd, nm, N, S, dn, ct, sk⟩) := leftV_fit (left := 1048576) (by omega) (by rw [hy1]; omega)
  have HMT : Hid (MildV ⟨kt, mt, M, R, dt, tt, st⟩) := leftV_fit (left := y) hym (by rw [hz1]; omega)
  have TS : Hid (∀ w', Below w.heap.size w w' → Calls Tryz.prog 15 #[.agg #[.int .i64 kd, .string nm, .slice na nn nc, .slice sa sn sc, .bool dn, .int .i64 ct, .int .i64 sk]] w' fun e w'' => ∃ g g2, e = .returned (.agg #[.int .i64 kd, .string nm, .slice (some ⟨g, 0, none⟩) nn nn, .slice (some ⟨g2, 0, none⟩) sn sn, .bool dn, .int .i64 ct, .int .i64 sk]) ∧ SivAt w'' (some ⟨g, 0, none⟩) nn (some ⟨g2, 0, none⟩) ⟨kd, nm, N, S, dn, ct, sk⟩ ∧ Below w'.heap.size w' w'') := by
    have : ∀ w', Below w.heap.size w w' → Calls Tryz.prog 15 #[.agg #[.int .i64 kd, .string nm, .slice na nn nc, .slice sa sn sc, .bool dn, .int .i64 ct, .int .i64 sk]] w' fun e w'' => ∃ g g2, e = .returned (.agg #[.int .i64 kd, .string nm, .slice (some ⟨g, 0, none⟩) nn nn, .slice (some ⟨g2, 0, none⟩) sn sn, .bool dn, .int .i64 ct, .int .i64 sk]) ∧ SivAt w'' (some ⟨g, 0, none⟩) nn (some ⟨g2, 0, none⟩) ⟨kd, nm, N, S, dn, ct, sk⟩ ∧ Below w'.heap.size w' w'' := fun w' hw => by
      refine (tosiv_laws na nc sa sc ⟨kd, nm, N, S, dn, ct, sk⟩ nn sn HNN.out HSN.out w' (HV.out.below hw) (by rw [← HNN.out]; exact HMS.out.2.1) (by rw [← HSN.out]; exact HMS.out.2.2.2.1)).mono ?_
      rintro e w'' ⟨g, g2, rfl, hnew, hb⟩
      have hl := hnew.out HV.out.fitN HV.out.name HV.out.lenN HV.out.fitI HV.out.lenI
      have e1 := HNN.out
      have e2 := HSN.out
      dsimp only at hl
      rw [e1, e2] at hl
      exact ⟨g, g2, rfl, hl.siv, hb⟩
    exact this
  have TT : Hid (∀ w', Below w.heap.size w w' → Calls Tryz.prog 15 #[.agg #[.int .i64 kt, .string mt, .slice ma mn mc, .slice ra rn rc, .bool dt, .int .i64 tt, .int .i64 st]] w' fun e w'' => ∃ g g2, e = .returned (.agg #[.int .i64 kt, .string mt, .slice (some ⟨g, 0, none⟩) mn mn, .slice (some ⟨g2, 0, none⟩) rn rn, .bool dt, .int .i64 tt, .int .i64 st]) ∧ SivAt w'' (some ⟨g, 0, none⟩) mn (some ⟨g2, 0, none⟩) ⟨kt, mt, M, R, dt, tt, st⟩ ∧ Below w'.heap.size w' w'') := by
    have : ∀ w', Below w.heap.size w w' → Calls Tryz.prog 15 #[.agg #[.int .i64 kt, .string mt, .slice ma mn mc, .slice ra rn rc, .bool dt, .int .i64 tt, .int .i64 st]] w' fun e w'' => ∃ g g2, e = .returned (.agg #[.int .i64 kt, .string mt, .slice (some ⟨g, 0, none⟩) mn mn, .slice (some ⟨g2, 0, none⟩) rn rn, .bool dt, .int .i64 tt, .int .i64 st]) ∧ SivAt w'' (some ⟨g, 0, none⟩) mn (some ⟨g2, 0, none⟩) ⟨kt, mt, M, R, dt, tt, st⟩ ∧ Below w'.heap.size w' w'' := fun w' hw => by
      refine (tosiv_laws ma mc ra rc ⟨kt, mt, M, R, dt, tt, st⟩ mn rn HMN.out HRN.out w' (HU.out.below hw) (by rw [← HMN.out]; exact HMT.out.2.1) (by rw [← HRN.out]; exact HMT.out.2.2.2.1)).mono ?_
      rintro e w'' ⟨g, g2, rfl, hnew, hb⟩
      have hl := hnew.out HU.out.fitN HU.out.name HU.out.lenN HU.out.fitI HU.out.lenI
      have e1 := HMN.out
      have e2 := HRN.out
      dsimp only at hl
      rw [e1, e2] at hl
      exact ⟨g, g2, rfl, hl.siv, hb⟩
    exact this
  obtain ⟨b, hb0⟩ : ∃ b, swapR ⟨kd, nm, N, S, dn, ct, sk⟩ ⟨kt, mt, M, R, dt, tt, st⟩ = b := ⟨_, rfl⟩
  have HB : Hid (swapR ⟨kd, nm, N, S, dn, ct, sk⟩ ⟨kt, mt, M, R, dt, tt, st⟩ = b) := hb0
  clear hy1 hz1 hb0
  go_enter Tryz.func5, Tryz.ntmps5
  obtain ⟨p0, p1, p2, p3, p4, p5, p6⟩ := cells7 HBS.out
  rw [← HE0.out] at p0 p1 p2 p3 p4 p5 p6
  go_wp2_with fail
  rw [HE0.out]
  clear p0 p1 p2 p3 p4 p5 p6
  refine (SZ1.out _ hA).mono ?_
  rintro e w1 ⟨rfl, hb⟩
  have P1 := P0.below hb
  have hx := chain hA hb
  clear hb
  obtain ⟨t0, t1, t2, t3, t4, t5, t6⟩ := cells7 (P1.box (by omega) HBT.out)
  go_wp2_with fail
  refine (SZ2.out _ hx).mono ?_
  rintro e w2 ⟨rfl, hb⟩
  have P2 := P1.below hb
  replace hx := chain hx hb
  clear hb t0 t1 t2 t3 t4 t5 t6
  obtain ⟨p0, p1, p2, p3, p4, p5, p6⟩ := cells7 (P2.box (Nat.le_refl _) HBS.out)
  obtain ⟨t0, t1, t2, t3, t4, t5, t6⟩ := cells7 (P2.box (by omega) HBT.out)
  have HFIRST : Hid True := trivial
  go_wp2_with fail
  go_region_held3 (fun w' => w'.cell? ⟨w.heap.size, 0, none⟩ = some (.int .i64 kd) ∧ w'.cell? ⟨w.heap.size, 1, none⟩ = some (.string nm) ∧ w'.cell? ⟨w.heap.size, 2, none⟩ = some (.slice na nn nc) ∧ w'.cell? ⟨w.heap.size, 3, none⟩ = some (.slice sa sn sc) ∧ w'.cell? ⟨w.heap.size, 4, none⟩ = some (.bool dn) ∧ w'.cell? ⟨w.heap.size, 5, none⟩ = some (.int .i64 ct) ∧ w'.cell? ⟨w.heap.size, 6, none⟩ = some (.int .i64 sk) ∧ w'.cell? ⟨w.heap.size + 1, 0, none⟩ = some (.int .i64 kt) ∧ w'.cell? ⟨w.heap.size + 1, 1, none⟩ = some (.string mt) ∧ w'.cell? ⟨w.heap.size + 1, 2, none⟩ = some (.slice ma mn mc) ∧ w'.cell? ⟨w.heap.size + 1, 3, none⟩ = some (.slice ra rn rc) ∧ w'.cell? ⟨w.heap.size + 1, 4, none⟩ = some (.bool dt) ∧ w'.cell? ⟨w.heap.size + 1, 5, none⟩ = some (.int .i64 tt) ∧ w'.cell? ⟨w.heap.size + 1, 6, none⟩ = some (.int .i64 st))
    (((try dsimp only); (repeat' apply And.intro) <;> first | (go_keep; done) | (simp (disch := first | omega | (simp <;> omega) | fail) [*]; done) | fail))
    (first
      | (go_at_call 15
         have hfirst := HFIRST
         refine (TS.out _ (by first | exact hx | exact hx.drew | exact hx.drew.drew)).mono ?_
         rintro e w3 ⟨g3, h3, rfl, O3, hb⟩
         have hb3 : Below w2.heap.size w2 w3 := (by first | exact hb | exact undrew hb)
         have HO3 : Hid (SivAt w3 (some ⟨g3, 0, none⟩) nn (some ⟨h3, 0, none⟩) ⟨kd, nm, N, S, dn, ct, sk⟩) := O3
         have P3 := P2.below hb3
         obtain ⟨p0, p1, p2, p3, p4, p5, p6⟩ := cells7 (P3.box (Nat.le_refl _) HBS.out)
         obtain ⟨t0, t1, t2, t3, t4, t5, t6⟩ := cells7 (P3.box (by omega) HBT.out)
         replace hx := chain hx hb3
         clear hb O3 HFIRST hfirst)
      | (go_at_call 15
         refine (TT.out _ (by first | exact hx | exact hx.drew | exact hx.drew.drew)).mono ?_
         rintro e w4 ⟨g4, h4, rfl, O4, hb⟩
         have hb4 : Below w3.heap.size w3 w4 := (by first | exact hb | exact undrew hb)
         have HO4 : Hid (SivAt w4 (some ⟨g4, 0, none⟩) mn (some ⟨h4, 0, none⟩) ⟨kt, mt, M, R, dt, tt, st⟩) := O4
         have HO3' : Hid (SivAt w4 (some ⟨g3, 0, none⟩) nn (some ⟨h3, 0, none⟩) ⟨kd, nm, N, S, dn, ct, sk⟩) := HO3.out.below hb4
         have P4 := P3.below hb4
         obtain ⟨p0, p1, p2, p3, p4, p5, p6⟩ := cells7 (P4.box (Nat.le_refl _) HBS.out)
         obtain ⟨t0, t1, t2, t3, t4, t5, t6⟩ := cells7 (P4.box (by omega) HBT.out)
         replace hx := chain hx hb4
         clear hb O4 HO3)
      | (go_at_call 33
         refine (swap_spec kd nm _ nn nn N HNN.out _ sn sn S HSN.out dn ct sk kt mt _ mn mn M HMN.out _ rn rn R HRN.out dt tt st _ (by first | exact HO3'.out | exact HO3'.out.below (Below.refl _ _).drew) (by first | exact HO4.out | exact HO4.out.below (Below.refl _ _).drew) b HB.out).mono ?_
         rintro e w5 ⟨rfl, hb⟩
         have hb5 : Below w4.heap.size w4 w5 := (by first | exact hb | exact undrew hb)
         have P5 := P4.below hb5
         obtain ⟨p0, p1, p2, p3, p4, p5, p6⟩ := cells7 (P5.box (Nat.le_refl _) HBS.out)
         obtain ⟨t0, t1, t2, t3, t4, t5, t6⟩ := cells7 (P5.box (by omega) HBT.out)
         replace hx := chain hx hb5
         clear hb HO3' HO4))
  clear hb3 hb4 hb5 p0 p1 p2 p3 p4 p5 p6 t0 t1 t2 t3 t4 t5 t6
  obtain ⟨p0, p1, p2, p3, p4, p5, p6⟩ := cells7 (P5.box (Nat.le_refl _) HBS.out)
  go_wp2_with fail
  refine (TS.out _ hx).mono ?_
  rintro e w6 ⟨gV, gW, rfl, O6, hb⟩
  have X6 : Hid (SivAt w6 (some ⟨gV, 0, none⟩) nn (some ⟨gW, 0, none⟩) ⟨kd, nm, N, S, dn, ct, sk⟩) := O6
  have P6 := P5.below hb
  replace hx := chain hx hb
  clear hb O6 p0 p1 p2 p3 p4 p5 p6
  obtain ⟨V6, hV6⟩ : ∃ V6, V6 = w6.alloc (.cells #[.int .i64 kd, .string nm, .slice (some ⟨gV, 0, none⟩) nn nn, .slice (some ⟨gW, 0, none⟩) sn sn, .bool dn, .int .i64 ct, .int .i64 sk] 43) := ⟨_, rfl⟩
  have bV6 : Below w6.heap.size w6 V6 := by rw [hV6]; exact (Below.refl _ _).alloc (Nat.le_refl _) _
  have BV6 : Hid (V6.heap[w6.heap.size]? = some (.cells #[.int .i64 kd, .string nm, .slice (some ⟨gV, 0, none⟩) nn nn, .slice (some ⟨gW, 0, none⟩) sn sn, .bool dn, .int .i64 ct, .int .i64 sk] 43)) := by
    have h : V6.heap[w6.heap.size]? = some (.cells #[.int .i64 kd, .string nm, .slice (some ⟨gV, 0, none⟩) nn nn, .slice (some ⟨gW, 0, none⟩) sn sn, .bool dn, .int .i64 ct, .int .i64 sk] 43) := by rw [hV6]; exact _root_.Go.heap_alloc_new w6 _
    exact h
  have X6b : Hid (SivAt V6 (some ⟨gV, 0, none⟩) nn (some ⟨gW, 0, none⟩) ⟨kd, nm, N, S, dn, ct, sk⟩) := X6.out.below bV6
  have P6b := P6.below bV6
  have Q6 := Kept.refl w6.heap.size V6
  replace hx := chain hx bV6
  obtain ⟨t0, t1, t2, t3, t4, t5, t6⟩ := cells7 (P6b.box (by omega) HBT.out)
  rw [hV6] at t0 t1 t2 t3 t4 t5 t6
  clear bV6 X6
  go_wp2_with fail
  rw [← hV6]
  clear hV6 t0 t1 t2 t3 t4 t5 t6
  refine (TT.out _ hx).mono ?_
  rintro e w7 ⟨gT, gR, rfl, O7, hb⟩
  have Y7 : Hid (SivAt w7 (some ⟨gT, 0, none⟩) mn (some ⟨gR, 0, none⟩) ⟨kt, mt, M, R, dt, tt, st⟩) := O7
  have X7 : Hid (SivAt w7 (some ⟨gV, 0, none⟩) nn (some ⟨gW, 0, none⟩) ⟨kd, nm, N, S, dn, ct, sk⟩) := X6b.out.below hb
  have P7 := P6b.below hb
  have Q7 := Q6.below hb
  replace hx := chain hx hb
  clear hb O7 X6b P6 P6b Q6
  obtain ⟨V7, hV7⟩ : ∃ V7, V7 = w7.alloc (.cells #[.int .i64 kt, .string mt, .slice (some ⟨gT, 0, none⟩) mn mn, .slice (some ⟨gR, 0, none⟩) rn rn, .bool dt, .int .i64 tt, .int .i64 st] 43) := ⟨_, rfl⟩
  have bV7 : Below w7.heap.size w7 V7 := by rw [hV7]; exact (Below.refl _ _).alloc (Nat.le_refl _) _
  have BV7 : Hid (V7.heap[w7.heap.size]? = some (.cells #[.int .i64 kt, .string mt, .slice (some ⟨gT, 0, none⟩) mn mn, .slice (some ⟨gR, 0, none⟩) rn rn, .bool dt, .int .i64 tt, .int .i64 st] 43)) := by
    have h : V7.heap[w7.heap.size]? = some (.cells #[.int .i64 kt, .string mt, .slice (some ⟨gT, 0, none⟩) mn mn, .slice (some ⟨gR, 0, none⟩) rn rn, .bool dt, .int .i64 tt, .int .i64 st] 43) := by rw [hV7]; exact _root_.Go.heap_alloc_new w7 _
    exact h
  have X7b : Hid (SivAt V7 (some ⟨gV, 0, none⟩) nn (some ⟨gW, 0, none⟩) ⟨kd, nm, N, S, dn, ct, sk⟩) := X7.out.below bV7
  have Y7b : Hid (SivAt V7 (some ⟨gT, 0, none⟩) mn (some ⟨gR, 0, none⟩) ⟨kt, mt, M, R, dt, tt, st⟩) := Y7.out.below bV7
  have P7b := P7.below bV7
  have Q7b := Q7.below bV7
  have J7 := Kept.refl w7.heap.size V7
  replace hx := chain hx bV7
  obtain ⟨r0, r1, r2, r3, r4, r5, r6⟩ := cells7 (Q7b.box (Nat.le_refl _) BV6.out)
  obtain ⟨j0, j1, j2, j3, j4, j5, j6⟩ := cells7 (J7.box (Nat.le_refl _) BV7.out)
  rw [hV7] at r0 r1 r2 r3 r4 r5 r6 j0 j1 j2 j3 j4 j5 j6
  clear bV7 X7 Y7 P7 Q7
  go_wp2_with fail
  rw [← hV7]
  clear hV7 r0 r1 r2 r3 r4 r5 r6 j0 j1 j2 j3 j4 j5 j6
  refine (swap_impl kd nm _ nn nn N HNN.out _ sn sn S HSN.out dn ct sk kt mt _ mn mn M HMN.out _ rn rn R HRN.out dt tt st _ X7b.out Y7b.out HMS.out HMT.out (HP.out.below hx) (HE.out.below hx) (HCL.out.below hx) b HB.out).mono ?_
  rintro e w8 ⟨rfl, hb⟩
  have X8 : Hid (SivAt w8 (some ⟨gV, 0, none⟩) nn (some ⟨gW, 0, none⟩) ⟨kd, nm, N, S, dn, ct, sk⟩) := X7b.out.below hb
  have Y8 : Hid (SivAt w8 (some ⟨gT, 0, none⟩) mn (some ⟨gR, 0, none⟩) ⟨kt, mt, M, R, dt, tt, st⟩) := Y7b.out.below hb
  have P8 := P7b.below hb
  have Q8 := Q7b.below hb
  have J8 := J7.below hb
  replace hx := chain hx hb
  clear hb X7b Y7b P7b Q7b J7
  obtain ⟨p0, p1, p2, p3, p4, p5, p6⟩ := cells7 (P8.box (Nat.le_refl _) HBS.out)
  obtain ⟨r0, r1, r2, r3, r4, r5, r6⟩ := cells7 (Q8.box (Nat.le_refl _) BV6.out)
  go_wp2_with fail
  go_region_held3 (fun w' => w'.cell? ⟨w.heap.size, 0, none⟩ = some (.int .i64 kd) ∧ w'.cell? ⟨w.heap.size, 1, none⟩ = some (.string nm) ∧ w'.cell? ⟨w.heap.size, 2, none⟩ = some (.slice na nn nc) ∧ w'.cell? ⟨w.heap.size, 3, none⟩ = some (.slice sa sn sc) ∧ w'.cell? ⟨w.heap.size, 4, none⟩ = some (.bool dn) ∧ w'.cell? ⟨w.heap.size, 5, none⟩ = some (.int .i64 ct) ∧ w'.cell? ⟨w.heap.size, 6, none⟩ = some (.int .i64 sk) ∧ w'.cell? ⟨w6.heap.size, 0, none⟩ = some (.int .i64 kd) ∧ w'.cell? ⟨w6.heap.size, 1, none⟩ = some (.string nm) ∧ w'.cell? ⟨w6.heap.size, 2, none⟩ = some (.slice (some ⟨gV, 0, none⟩) nn nn) ∧ w'.cell? ⟨w6.heap.size, 3, none⟩ = some (.slice (some ⟨gW, 0, none⟩) sn sn) ∧ w'.cell? ⟨w6.heap.size, 4, none⟩ = some (.bool dn) ∧ w'.cell? ⟨w6.heap.size, 5, none⟩ = some (.int .i64 ct) ∧ w'.cell? ⟨w6.heap.size, 6, none⟩ = some (.int .i64 sk))
    (((try dsimp only); (repeat' apply And.intro) <;> first | (go_keep; done) | (simp (disch := first | omega | (simp <;> omega) | fail) [*]; done) | fail))
    (first
      | (go_at_call 15
         refine (TS.out _ (by first | exact hx | exact hx.drew | exact hx.drew.drew)).mono ?_
         rintro e w9 ⟨ga, gb, rfl, Oa, hb⟩
         have hb9 : Below w8.heap.size w8 w9 := (by first | exact hb | exact undrew hb)
         obtain ⟨p0, p1, p2, p3, p4, p5, p6⟩ := cells7 ((P8.below hb9).box (Nat.le_refl _) HBS.out)
         obtain ⟨r0, r1, r2, r3, r4, r5, r6⟩ := cells7 ((Q8.below hb9).box (Nat.le_refl _) BV6.out)
         have HOa : Hid (SivAt w9 (some ⟨ga, 0, none⟩) nn (some ⟨gb, 0, none⟩) ⟨kd, nm, N, S, dn, ct, sk⟩) := Oa
         have XX : Hid (SivAt w9 (some ⟨gV, 0, none⟩) nn (some ⟨gW, 0, none⟩) ⟨kd, nm, N, S, dn, ct, sk⟩) := X8.out.below hb9
         have hx9 := chain hx hb9
         clear hb Oa)
      | (go_at_call 21
         refine (eqsiv_laws _ _ _ sn _ _ _ sn ⟨kd, nm, N, S, dn, ct, sk⟩ nn sn HNN.out HSN.out _ (by first | exact XX.out | exact XX.out.below (Below.refl _ _).drew) (by first | exact HOa.out | exact HOa.out.below (Below.refl _ _).drew)).mono ?_
         rintro e w10 ⟨rfl, hb⟩
         have hb10 : Below w9.heap.size w9 w10 := (by first | exact hb | exact undrew hb)
         obtain ⟨p0, p1, p2, p3, p4, p5, p6⟩ := cells7 (((P8.below hb9).below hb10).box (Nat.le_refl _) HBS.out)
         obtain ⟨r0, r1, r2, r3, r4, r5, r6⟩ := cells7 (((Q8.below hb9).below hb10).box (Nat.le_refl _) BV6.out)
         clear hb HOa XX))
  have hb : Below w8.heap.size w8 w10 := chain hb9 hb10
  clear hb9 hb10 hx9 p0 p1 p2 p3 p4 p5 p6 r0 r1 r2 r3 r4 r5 r6
  have Y10 : Hid (SivAt w10 (some ⟨gT, 0, none⟩) mn (some ⟨gR, 0, none⟩) ⟨kt, mt, M, R, dt, tt, st⟩) := Y8.out.below hb
  have P10 := P8.below hb
  have J10 := J8.below hb
  replace hx := chain hx hb
  clear hb X8 Y8 P8 Q8 J8
  obtain ⟨t0, t1, t2, t3, t4, t5, t6⟩ := cells7 (P10.box (by omega) HBT.out)
  obtain ⟨j0, j1, j2, j3, j4, j5, j6⟩ := cells7 (J10.box (Nat.le_refl _) BV7.out)
  go_wp2_with fail
  go_region_held3 (fun w' => w'.cell? ⟨w.heap.size + 1, 0, none⟩ = some (.int .i64 kt) ∧ w'.cell? ⟨w.heap.size + 1, 1, none⟩ = some (.string mt) ∧ w'.cell? ⟨w.heap.size + 1, 2, none⟩ = some (.slice ma mn mc) ∧ w'.cell? ⟨w.heap.size + 1, 3, none⟩ = some (.slice ra rn rc) ∧ w'.cell? ⟨w.heap.size + 1, 4, none⟩ = some (.bool dt) ∧ w'.cell? ⟨w.heap.size + 1, 5, none⟩ = some (.int .i64 tt) ∧ w'.cell? ⟨w.heap.size + 1, 6, none⟩ = some (.int .i64 st) ∧ w'.cell? ⟨w7.heap.size, 0, none⟩ = some (.int .i64 kt) ∧ w'.cell? ⟨w7.heap.size, 1, none⟩ = some (.string mt) ∧ w'.cell? ⟨w7.heap.size, 2, none⟩ = some (.slice (some ⟨gT, 0, none⟩) mn mn) ∧ w'.cell? ⟨w7.heap.size, 3, none⟩ = some (.slice (some ⟨gR, 0, none⟩) rn rn) ∧ w'.cell? ⟨w7.heap.size, 4, none⟩ = some (.bool dt) ∧ w'.cell? ⟨w7.heap.size, 5, none⟩ = some (.int .i64 tt) ∧ w'.cell? ⟨w7.heap.size, 6, none⟩ = some (.int .i64 st))
    (((try dsimp only); (repeat' apply And.intro) <;> first | (go_keep; done) | (simp (disch := first | omega | (simp <;> omega) | fail) [*]; done) | fail))
    (first
      | (go_at_call 15
         refine (TT.out _ (by first | exact hx | exact hx.drew | exact hx.drew.drew)).mono ?_
         rintro e w11 ⟨ga, gb, rfl, Oa, hb⟩
         have hb11 : Below w10.heap.size w10 w11 := (by first | exact hb | exact undrew hb)
         obtain ⟨t0, t1, t2, t3, t4, t5, t6⟩ := cells7 ((P10.below hb11).box (by omega) HBT.out)
         obtain ⟨j0, j1, j2, j3, j4, j5, j6⟩ := cells7 ((J10.below hb11).box (Nat.le_refl _) BV7.out)
         have HOa : Hid (SivAt w11 (some ⟨ga, 0, none⟩) mn (some ⟨gb, 0, none⟩) ⟨kt, mt, M, R, dt, tt, st⟩) := Oa
         have XX : Hid (SivAt w11 (some ⟨gT, 0, none⟩) mn (some ⟨gR, 0, none⟩) ⟨kt, mt, M, R, dt, tt, st⟩) := Y10.out.below hb11
         have hx11 := chain hx hb11
         clear hb Oa)
      | (go_at_call 21
         refine (eqsiv_laws _ _ _ rn _ _ _ rn ⟨kt, mt, M, R, dt, tt, st⟩ mn rn HMN.out HRN.out _ (by first | exact XX.out | exact XX.out.below (Below.refl _ _).drew) (by first | exact HOa.out | exact HOa.out.below (Below.refl _ _).drew)).mono ?_
         rintro e w12 ⟨rfl, hb⟩
         have hb12 : Below w11.heap.size w11 w12 := (by first | exact hb | exact undrew hb)
         obtain ⟨t0, t1, t2, t3, t4, t5, t6⟩ := cells7 (((P10.below hb11).below hb12).box (by omega) HBT.out)
         obtain ⟨j0, j1, j2, j3, j4, j5, j6⟩ := cells7 (((J10.below hb11).below hb12).box (Nat.le_refl _) BV7.out)
         clear hb HOa XX))
  have hb : Below w10.heap.size w10 w12 := chain hb11 hb12
  clear hb11 hb12 hx11 t0 t1 t2 t3 t4 t5 t6 j0 j1 j2 j3 j4 j5 j6
  replace hx := chain hx hb
  clear hb
  go_wp2
  go_ret
  exact ⟨rfl, hx⟩

end exMaySwap
end Go.Proofs.YtegnekbbbfncgaaGreatDoor
