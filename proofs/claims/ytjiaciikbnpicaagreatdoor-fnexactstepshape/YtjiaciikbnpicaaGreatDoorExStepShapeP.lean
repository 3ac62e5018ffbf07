/-
  Proved: at every list of tables, every list of columns and every sieve the program's StepShape answers as its model does; it writes into no argument and keeps nothing of one; its answer owns its memory, behind another call too; the law's arguments read afterwards as before; the listed variables (tables of bits and of powers of ten, errors' own handle, two errors of the library and five of the program) start as the program's text lays them, to which the card ties them; no other condition.
-/
import Derived.Test.YtjiaciikbnpicaaGreatDoorPart44
import Derived.Test.YtjiaciikbnpicaaGreatDoorPart38
import Derived.Test.YtjiaciikbnpicaaGreatDoorPart39
import Derived.Test.YtjiaciikbnpicaaGreatDoorTie
import Derived.Test.YtjiaciikbnpicaaGreatDoorCards
import Derived.Lib.SmallJoins
import Derived.SevenTiedAt
import Derived.Deep.RegionHeld3
namespace Go.Proofs.YtjiaciikbnpicaaGreatDoor
open Go.ChangeShapes Go.WideShapes Go.ChangeAt Go.RowKit Go.Joins

/-- Seven cells of a block. -/
def Box7 (w : World) (B : Nat) (a b c d e f g : Value) : Prop := w.cell? ⟨B, 0, none⟩ = some (a) ∧ w.cell? ⟨B, 1, none⟩ = some (b) ∧ w.cell? ⟨B, 2, none⟩ = some (c) ∧ w.cell? ⟨B, 3, none⟩ = some (d) ∧ w.cell? ⟨B, 4, none⟩ = some (e) ∧ w.cell? ⟨B, 5, none⟩ = some (f) ∧ w.cell? ⟨B, 6, none⟩ = some (g) ∧ B < w.heap.size
theorem Box7.below {w w' : World} {B : Nat} {a b c d e f g : Value} (h : Box7 w B a b c d e f g) (hb : Below w.heap.size w w') : Box7 w' B a b c d e f g := later7 hb h
theorem Box7.keepS {P : Nat → Prop} {w w' : World} {B : Nat} {a b c d e f g : Value} (h : Box7 w B a b c d e f g) (hk : KeepS P w w') (hP : ¬ P B) : Box7 w' B a b c d e f g := by
  obtain ⟨h0, h1, h2, h3, h4, h5, h6, hl⟩ := h
  have key : ∀ o, w'.cell? ⟨B, o, none⟩ = w.cell? ⟨B, o, none⟩ := fun o => hk.cell hl hP
  unfold Box7
  simp only [key]
  exact ⟨h0, h1, h2, h3, h4, h5, h6, Nat.lt_of_lt_of_le hl hk.size⟩

namespace exStepShape

theorem own : ownKnob Tryz.prog.godebug = none := by kernel_rfl

set_option maxRecDepth 100000 in
set_option maxHeartbeats 16000000 in
theorem walk (a : Option Addr) (cap : Nat) (T : List TB) (n : Nat) (hn : T.length = n) (c : Option Addr) (cn cc : Nat) (C : List ByteArray) (hcn : C.length = cn) (kd : Int) (nm : ByteArray) (na : Option Addr) (nn nc : Nat) (N : List ByteArray) (hnn : N.length = nn) (sa : Option Addr) (sn sc : Nat) (S : List TI) (hsn : S.length = sn) (dn : Bool) (ct sk : Int) (w : World) (ht : TabsAt w a T) (hnM : n ≤ maxLen) (hc : StrsAt w c C) (hcF : FitS C) (hcM : cn ≤ maxLen) (hv : SivAt w na nc sa ⟨kd, nm, N, S, dn, ct, sk⟩) (A : Sen) (hS : SenAt w A) :
    Calls Tryz.prog 5 #[.slice a n cap, .slice c cn cc, .agg #[.int .i64 kd, .string nm, .slice na nn nc, .slice sa sn sc, .bool dn, .int .i64 ct, .int .i64 sk]] w fun e w' => e = .returned (.bool true) ∧ Below w.heap.size w w' := by
  have HT : Hid (TabsAt w a T) := ht
  have HC : Hid (StrsAt w c C) := hc
  have HCF : Hid (FitS C) := hcF
  have HV : Hid (SivAt w na nc sa ⟨kd, nm, N, S, dn, ct, sk⟩) := hv
  have HN : Hid (T.length = n) := hn
  have HCN : Hid (C.length = cn) := hcn
  have HNN : Hid (N.length = nn) := hnn
  have HSN : Hid (S.length = sn) := hsn
  have HS : Hid (SenAt w A) := hS
  have hA : Below w.heap.size w (w.alloc (.cells #[.int .i64 kd, .string nm, .slice na nn nc, .slice sa sn sc, .bool dn, .int .i64 ct, .int .i64 sk] 58)) := (Below.refl _ _).alloc (Nat.le_refl _) _
  have P0 : Hid (∀ w1, Below (w.alloc (.cells #[.int .i64 kd, .string nm, .slice na nn nc, .slice sa sn sc, .bool dn, .int .i64 ct, .int .i64 sk] 58)).heap.size (w.alloc (.cells #[.int .i64 kd, .string nm, .slice na nn nc, .slice sa sn sc, .bool dn, .int .i64 ct, .int .i64 sk] 58)) w1 → Box7 w1 w.heap.size (.int .i64 kd) (.string nm) (.slice na nn nc) (.slice sa sn sc) (.bool dn) (.int .i64 ct) (.int .i64 sk)) := fun w1 h => box7 h
  obtain ⟨x, hx1⟩ : ∃ x, leftTS T 1048576 = x := ⟨_, rfl⟩
  have HX1 : Hid (leftTS T 1048576 = x) := hx1
  clear ht hc hcF hv hn hcn hnn hsn hS
  have SZT : Hid (∀ w', Below w.heap.size w w' → Calls Tryz.prog 16 #[.slice a n cap, .int .i64 1048576] w' fun e w'' => e = .returned (.int .i64 x) ∧ Below w'.heap.size w' w'') := by
    have : ∀ w', Below w.heap.size w w' → Calls Tryz.prog 16 #[.slice a n cap, .int .i64 1048576] w' fun e w'' => e = .returned (.int .i64 x) ∧ Below w'.heap.size w' w'' := fun w' hw => by
      rw [← hx1]
      exact sztabs_laws a cap T n HN.out 1048576 w' (HT.out.below hw) hnM (by omega) (by omega)
    exact this
  by_cases hx0 : x < 0
  · clear hx1
    go_enter Tryz.func5, Tryz.ntmps5
    go_wp2_with fail
    refine (SZT.out _ hA).mono ?_
    rintro e w1 ⟨rfl, hb1⟩
    go_wp2
    go_ret
    exact ⟨rfl, chain hA hb1⟩
  have hx0' : 0 ≤ x := by omega
  have hxm : x ≤ 1048576 := leftTS_le (by omega) hx1 hx0'
  obtain ⟨y, hy1⟩ : ∃ y, leftOfS C x = y := ⟨_, rfl⟩
  have SZS : Hid (∀ w', Below w.heap.size w w' → Calls Tryz.prog 27 #[.slice c cn cc, .int .i64 x] w' fun e w'' => e = .returned (.int .i64 y) ∧ Below w'.heap.size w' w'') := by
    have : ∀ w', Below w.heap.size w w' → Calls Tryz.prog 27 #[.slice c cn cc, .int .i64 x] w' fun e w'' => e = .returned (.int .i64 y) ∧ Below w'.heap.size w' w'' := fun w' hw => by
      rw [← hy1]
      exact szstrN cn c cc C HCN.out x w' (HC.out.below hw) HCF.out hcM hx0' hxm
    exact this
  by_cases hy0 : y < 0
  · clear hx1 hy1
    go_enter Tryz.func5, Tryz.ntmps5
    go_wp2_with fail
    refine (SZT.out _ hA).mono ?_
    rintro e w1 ⟨rfl, hb1⟩
    go_wp2_with fail
    refine (SZS.out _ (chain hA hb1)).mono ?_
    rintro e w2 ⟨rfl, hb2⟩
    go_wp2
    go_ret
    exact ⟨rfl, chain (chain hA hb1) hb2⟩
  have hy0' : 0 ≤ y := by omega
  have hcl : y ≤ x ∧ (C.length : Int) ≤ x := by
    unfold leftOfS at hy1
    split at hy1
    · omega
    · omega
  have hym : y ≤ 1048576 := by omega
  have hcl1 : cn ≤ 1048576 := by have := HCN.out; omega
  obtain ⟨z, hz1⟩ : ∃ z, leftV ⟨kd, nm, N, S, dn, ct, sk⟩ y = z := ⟨_, rfl⟩
  have SZV : Hid (∀ w', Below w.heap.size w w' → Calls Tryz.prog 28 #[.agg #[.int .i64 kd, .string nm, .slice na nn nc, .slice sa sn sc, .bool dn, .int .i64 ct, .int .i64 sk], .int .i64 y] w' fun e w'' => e = .returned (.int .i64 z) ∧ Below w'.heap.size w' w'') := by
    have : ∀ w', Below w.heap.size w w' → Calls Tryz.prog 28 #[.agg #[.int .i64 kd, .string nm, .slice na nn nc, .slice sa sn sc, .bool dn, .int .i64 ct, .int .i64 sk], .int .i64 y] w' fun e w'' => e = .returned (.int .i64 z) ∧ Below w'.heap.size w' w'' := fun w' hw => by
      rw [← hz1]
      exact szsiv_laws na nc sa sc ⟨kd, nm, N, S, dn, ct, sk⟩ nn sn HNN.out HSN.out w' (HV.out.below hw) y hy0' hym
    exact this
  by_cases hz0 : z < 0
  · clear hx1 hy1 hz1 hcl
    go_enter Tryz.func5, Tryz.ntmps5
    go_wp2_with fail
    refine (SZT.out _ hA).mono ?_
    rintro e w1 ⟨rfl, hb1⟩
    go_wp2_with fail
    refine (SZS.out _ (chain hA hb1)).mono ?_
    rintro e w2 ⟨rfl, hb2⟩
    obtain ⟨p0, p1, p2, p3, p4, p5, p6, plt⟩ := P0.out _ (chain hb1 hb2)
    go_wp2_with fail
    refine (SZV.out _ (chain (chain hA hb1) hb2)).mono ?_
    rintro e w3 ⟨rfl, hb3⟩
    go_wp2
    go_ret
    exact ⟨rfl, chain (chain (chain hA hb1) hb2) hb3⟩
  have hz0' : 0 ≤ z := by omega
  have hq := leftTS_fits (T := T) (x := 1048576) (by omega) (by rw [hx1]; exact hx0')
  have hnm : n ≤ 1048576 := by rw [← HN.out]; exact hq.1
  have hoff := offT_leftTS (T := T) (x := 1048576) (by omega) (by rw [hx1]; exact hx0')
  have HSM : Hid (∀ t, t ∈ T → Small t) := by
    have : ∀ t, t ∈ T → Small t := fun t ht => by
      obtain ⟨i, hi, rfl⟩ := List.getElem_of_mem ht
      exact hq.2 i hi
    exact this
  have HMI : Hid (MildV ⟨kd, nm, N, S, dn, ct, sk⟩) := leftV_fit (left := y) hym (by rw [hz1]; omega)
  have hn1 : nn ≤ 1048576 := by rw [← HNN.out]; exact HMI.out.2.1
  have hs1 : sn ≤ 1048576 := by rw [← HSN.out]; exact HMI.out.2.2.2.1
  have hsM : sn ≤ maxLen := by unfold maxLen; omega
  have Z : Hid (∀ w', Below w.heap.size w w' → Calls Tryz.prog 18 #[.slice a n cap] w' fun e w'' => ∃ g Q, e = .returned (.slice (some ⟨g, 0, none⟩) n n) ∧ OutTs w'' w'.heap.size (some ⟨g, 0, none⟩) T Q ∧ Below w'.heap.size w' w'') := by
    have : ∀ w', Below w.heap.size w w' → Calls Tryz.prog 18 #[.slice a n cap] w' fun e w'' => ∃ g Q, e = .returned (.slice (some ⟨g, 0, none⟩) n n) ∧ OutTs w'' w'.heap.size (some ⟨g, 0, none⟩) T Q ∧ Below w'.heap.size w' w'' :=
      fun w' hw => totabs_out a cap T n HN.out w' (HT.out.below hw) hnm hq.2
    exact this
  have U : Hid (∀ w', Below w.heap.size w w' → Calls Tryz.prog 29 #[.slice c cn cc] w' fun e w'' => ∃ g, e = .returned (.slice (some ⟨g, 0, none⟩) cn cn) ∧ Own w'' w'.heap.size g cn cn C ∧ Below w'.heap.size w' w'') := by
    have : ∀ w', Below w.heap.size w w' → Calls Tryz.prog 29 #[.slice c cn cc] w' fun e w'' => ∃ g, e = .returned (.slice (some ⟨g, 0, none⟩) cn cn) ∧ Own w'' w'.heap.size g cn cn C ∧ Below w'.heap.size w' w'' := fun w' hw => by
      refine (tostrN cn c cc C HCN.out w' w'.heap.size rfl (HC.out.below hw) hcl1).mono ?_
      rintro e w'' ⟨rfl, ho, hb⟩
      rw [HCN.out] at ho
      exact ⟨_, rfl, ⟨HCN.out, ho⟩, hb⟩
    exact this
  have V : Hid (∀ w', Below w.heap.size w w' → Calls Tryz.prog 30 #[.agg #[.int .i64 kd, .string nm, .slice na nn nc, .slice sa sn sc, .bool dn, .int .i64 ct, .int .i64 sk]] w' fun e w'' => ∃ g g2, e = .returned (.agg #[.int .i64 kd, .string nm, .slice (some ⟨g, 0, none⟩) nn nn, .slice (some ⟨g2, 0, none⟩) sn sn, .bool dn, .int .i64 ct, .int .i64 sk]) ∧ OutV w'' w'.heap.size ⟨some ⟨g, 0, none⟩, nn, some ⟨g2, 0, none⟩, sn⟩ ⟨kd, nm, N, S, dn, ct, sk⟩ ∧ Below w'.heap.size w' w'') := by
    have : ∀ w', Below w.heap.size w w' → Calls Tryz.prog 30 #[.agg #[.int .i64 kd, .string nm, .slice na nn nc, .slice sa sn sc, .bool dn, .int .i64 ct, .int .i64 sk]] w' fun e w'' => ∃ g g2, e = .returned (.agg #[.int .i64 kd, .string nm, .slice (some ⟨g, 0, none⟩) nn nn, .slice (some ⟨g2, 0, none⟩) sn sn, .bool dn, .int .i64 ct, .int .i64 sk]) ∧ OutV w'' w'.heap.size ⟨some ⟨g, 0, none⟩, nn, some ⟨g2, 0, none⟩, sn⟩ ⟨kd, nm, N, S, dn, ct, sk⟩ ∧ Below w'.heap.size w' w'' := fun w' hw => by
      refine (tosiv_laws na nc sa sc ⟨kd, nm, N, S, dn, ct, sk⟩ nn sn HNN.out HSN.out w' (HV.out.below hw) hn1 hs1).mono ?_
      rintro e w'' ⟨g, g2, rfl, hnew, hb⟩
      have hl := hnew.out HV.out.fitN HV.out.name HV.out.lenN HV.out.fitI HV.out.lenI
      have e1 : N.length = nn := HNN.out
      have e2 : S.length = sn := HSN.out
      dsimp only at hl
      rw [e1, e2] at hl
      exact ⟨g, g2, rfl, hl, hb⟩
    exact this
  obtain ⟨D, k0, hD⟩ : ∃ D k0, stepShapeR T C ⟨kd, nm, N, S, dn, ct, sk⟩ = (D, k0) := ⟨_, _, rfl⟩
  have HD : Hid (stepShapeR T C ⟨kd, nm, N, S, dn, ct, sk⟩ = (D, k0)) := hD
  have hD6 : D.length ≤ 6 := by
    unfold stepShapeR at hD
    split at hD
    · rename_i h
      simp only [Bool.and_eq_true] at h
      by_cases hk : k0 = 0
      · subst hk; exact (cols_six (stepC_ok h.1.1.1 h.1.1.2 h.1.2 hD)).1
      · have := stepC_none T C ⟨kd, nm, N, S, dn, ct, sk⟩ (by rw [hD]; exact hk)
        rw [hD] at this
        have h0 : D = [] := this
        rw [h0]; simp
    · have h0 : ([] : List ByteArray) = D := congrArg Prod.fst hD
      rw [← h0]; simp
  obtain ⟨nD, hnD⟩ : ∃ k, D.length = k := ⟨_, rfl⟩
  have HND : Hid (D.length = nD) := hnD
  have hnD6 : nD ≤ 6 := by omega
  have hnDM : nD ≤ maxLen := by unfold maxLen; omega
  obtain ⟨rX, hrX⟩ : ∃ rX, 1 + offT T T.length = rX := ⟨_, rfl⟩
  have HRX : Hid (1 + offT T T.length = rX) := hrX
  obtain ⟨rU, hrU⟩ : ∃ rU, rX + cn = rU := ⟨_, rfl⟩
  have HRU : Hid (rX + cn = rU) := hrU
  obtain ⟨rY, hrY⟩ : ∃ rY, rU + nn + 5 * sn = rY := ⟨_, rfl⟩
  have HRY : Hid (rU + nn + 5 * sn = rY) := hrY
  have hrX1 : rX ≤ 1099511627776 := by omega
  have hrX0 : 0 < rX := by omega
  have hrU1 : rX + cn ≤ 1099511627776 := by omega
  have hrU0 : 0 < rU := by omega
  have hrY1 : rY ≤ 1099511627776 := by omega
  have hrY0 : ¬ (rY : Int) < 0 := by omega
  obtain ⟨rD, hrD⟩ : ∃ rD, 1 + nD = rD := ⟨_, rfl⟩
  have HRD : Hid (1 + nD = rD) := hrD
  have hrD0 : ¬ (rD : Int) < 0 := by omega
  have hrDD : ((rD : Int) == (rD : Int)) = true := by simp
  have hkk : (k0 == k0) = true := by simp
  clear hD hD6 hnD hrX hrU hrY hrD hoff hx1 hy1 hz1 hq hcl
  go_enter Tryz.func5, Tryz.ntmps5
  go_wp2_with fail
  refine (SZT.out _ hA).mono ?_
  rintro e w1 ⟨rfl, hb1⟩
  go_wp2_with fail
  refine (SZS.out _ (chain hA hb1)).mono ?_
  rintro e w2 ⟨rfl, hb2⟩
  have hx := chain (chain hA hb1) hb2
  obtain ⟨p0, p1, p2, p3, p4, p5, p6, plt⟩ := P0.out _ (chain hb1 hb2)
  clear hA hb1 hb2 P0 SZT SZS
  go_wp2_with fail
  refine (SZV.out _ hx).mono ?_
  rintro e w3 ⟨rfl, hb⟩
  obtain ⟨p0, p1, p2, p3, p4, p5, p6, plt⟩ := later7 hb ⟨p0, p1, p2, p3, p4, p5, p6, plt⟩
  replace hx := chain hx hb
  clear hb SZV
  go_wp2_with fail
  go_region_held3 (fun w' => w'.cell? ⟨w.heap.size, 0, none⟩ = some (.int .i64 kd) ∧ w'.cell? ⟨w.heap.size, 1, none⟩ = some (.string nm) ∧ w'.cell? ⟨w.heap.size, 2, none⟩ = some (.slice na nn nc) ∧ w'.cell? ⟨w.heap.size, 3, none⟩ = some (.slice sa sn sc) ∧ w'.cell? ⟨w.heap.size, 4, none⟩ = some (.bool dn) ∧ w'.cell? ⟨w.heap.size, 5, none⟩ = some (.int .i64 ct) ∧ w'.cell? ⟨w.heap.size, 6, none⟩ = some (.int .i64 sk))
    (((try dsimp only); (repeat' apply And.intro) <;> first | (go_keep; done) | (simp (disch := first | omega | (simp <;> omega) | fail) [*]; done) | fail))
    (first
      | (go_at_call 18
         refine (Z.out _ (by first | exact hx | exact hx.drew | exact hx.drew.drew)).mono ?_
         rintro e w4 ⟨g3, Q3, rfl, O3, hb⟩
         have HO3 : Hid (TabsAt w4 (some ⟨g3, 0, none⟩) T) := O3.lies
         have hb4 : Below w3.heap.size w3 w4 := (by first | exact hb | exact undrew hb)
         have q4 := later7 hb4 ⟨p0, p1, p2, p3, p4, p5, p6, plt⟩
         obtain ⟨p0, p1, p2, p3, p4, p5, p6, plt⟩ := q4
         replace hx := chain hx hb4
         clear hb O3)
      | (go_at_call 29
         refine (U.out _ (by first | exact hx | exact hx.drew | exact hx.drew.drew)).mono ?_
         rintro e w5 ⟨g4, rfl, O4, hb⟩
         have hb5 : Below w4.heap.size w4 w5 := (by first | exact hb | exact undrew hb)
         have HO4 : Hid (StrsAt w5 (some ⟨g4, 0, none⟩) C) := O4.strs
         have HO3' : Hid (TabsAt w5 (some ⟨g3, 0, none⟩) T) := HO3.out.below hb5
         have q5 := later7 hb5 ⟨p0, p1, p2, p3, p4, p5, p6, plt⟩
         obtain ⟨p0, p1, p2, p3, p4, p5, p6, plt⟩ := q5
         replace hx := chain hx hb5
         clear hb O4 HO3)
      | (go_at_call 30
         refine (V.out _ (by first | exact hx | exact hx.drew | exact hx.drew.drew)).mono ?_
         rintro e w6 ⟨g5, g6, rfl, O5, hb⟩
         have hb6 : Below w5.heap.size w5 w6 := (by first | exact hb | exact undrew hb)
         have HO5 : Hid (SivAt w6 (some ⟨g5, 0, none⟩) nn (some ⟨g6, 0, none⟩) ⟨kd, nm, N, S, dn, ct, sk⟩) := O5.siv
         have HO4' : Hid (StrsAt w6 (some ⟨g4, 0, none⟩) C) := HO4.out.below hb6
         have HO3'' : Hid (TabsAt w6 (some ⟨g3, 0, none⟩) T) := HO3'.out.below hb6
         have q6 := later7 hb6 ⟨p0, p1, p2, p3, p4, p5, p6, plt⟩
         obtain ⟨p0, p1, p2, p3, p4, p5, p6, plt⟩ := q6
         replace hx := chain hx hb6
         clear hb O5 HO4 HO3')
      | (go_at_call 13
         refine (stepshape_spec _ n n T HN.out _ cn cn C HCN.out kd nm _ nn nn N HNN.out _ sn sn S HSN.out dn ct sk _ (by first | exact HO3''.out | exact HO3''.out.below (Below.refl _ _).drew) (by first | exact HO4'.out | exact HO4'.out.below (Below.refl _ _).drew) (fun h => by cases h) (by first | exact HO5.out | exact HO5.out.below (Below.refl _ _).drew) HCF.out hcM (Nat.le_refl _) hnM D k0 HD.out).mono ?_
         intro e w7 hO
         obtain ⟨gS, nS, cS, rfl, oS, hb⟩ := hO.own
         have hb7 : Below w6.heap.size w6 w7 := (by first | exact hb | exact undrew hb)
         obtain rfl : nD = nS := HND.out.symm.trans oS.1
         have hgS : gS < w7.heap.size := (oS.2.lt gS rfl).2
         have S7 : Hid (∃ q, Own w7 q gS nD cS D) := ⟨_, oS⟩
         have q7 := later7 hb7 ⟨p0, p1, p2, p3, p4, p5, p6, plt⟩
         obtain ⟨p0, p1, p2, p3, p4, p5, p6, plt⟩ := q7
         replace hx := chain hx hb7
         clear hb oS hO HO5 HO4' HO3''))
  obtain ⟨baseS, S7o⟩ := S7.out
  have S7' : Hid (Own w7 baseS gS nD cS D) := S7o
  have P7 : Hid (Box7 w7 w.heap.size (.int .i64 kd) (.string nm) (.slice na nn nc) (.slice sa sn sc) (.bool dn) (.int .i64 ct) (.int .i64 sk)) := ⟨p0, p1, p2, p3, p4, p5, p6, plt⟩
  have hw7 := hx.size
  have hpw7 : w.heap.size < w7.heap.size := plt
  clear S7 S7o p0 p1 p2 p3 p4 p5 p6 plt
  go_wp2_with fail
  refine (Z.out _ hx).mono ?_
  rintro e w8 ⟨gX, QX, rfl, OX, hb⟩
  have X8 : Hid (OutTs w8 w7.heap.size (some ⟨gX, 0, none⟩) T QX) := OX
  have HXlt : Hid (∀ b, tabsBlks (some ⟨gX, 0, none⟩) T QX b → b < w8.heap.size) := OX.blks_lt
  have hw8 := hb.size
  clear OX
  have S8' : Hid (Own w8 baseS gS nD cS D) := S7'.out.below hb
  have P8 : Hid (Box7 w8 w.heap.size (.int .i64 kd) (.string nm) (.slice na nn nc) (.slice sa sn sc) (.bool dn) (.int .i64 ct) (.int .i64 sk)) := P7.out.below hb
  replace hx := chain hx hb
  clear hb S7' P7
  go_wp2_with fail
  refine (U.out _ hx).mono ?_
  rintro e w9 ⟨gU, rfl, OU, hb⟩
  have U9 : Hid (Own w9 w8.heap.size gU cn cn C) := OU
  have hgU : w8.heap.size ≤ gU ∧ gU < w9.heap.size := OU.2.lt gU rfl
  have hw9 := hb.size
  clear OU
  have X9 : Hid (OutTs w9 w7.heap.size (some ⟨gX, 0, none⟩) T QX) := X8.out.below hb
  have S9' : Hid (Own w9 baseS gS nD cS D) := S8'.out.below hb
  have P9 : Hid (Box7 w9 w.heap.size (.int .i64 kd) (.string nm) (.slice na nn nc) (.slice sa sn sc) (.bool dn) (.int .i64 ct) (.int .i64 sk)) := P8.out.below hb
  replace hx := chain hx hb
  clear hb X8 S8' P8
  obtain ⟨p0, p1, p2, p3, p4, p5, p6, plt⟩ := P9.out
  go_wp2_with fail
  refine (V.out _ hx).mono ?_
  rintro e w10 ⟨gV, gW, rfl, OV, hb⟩
  have V10 : Hid (OutV w10 w9.heap.size ⟨some ⟨gV, 0, none⟩, nn, some ⟨gW, 0, none⟩, sn⟩ ⟨kd, nm, N, S, dn, ct, sk⟩) := OV
  have HVlt : Hid (∀ b, VAd.blks ⟨some ⟨gV, 0, none⟩, nn, some ⟨gW, 0, none⟩, sn⟩ ⟨kd, nm, N, S, dn, ct, sk⟩ b → b < w10.heap.size) := OV.lt
  have hw10 := hb.size
  clear OV p0 p1 p2 p3 p4 p5 p6 plt
  have X10 : Hid (OutTs w10 w7.heap.size (some ⟨gX, 0, none⟩) T QX) := X9.out.below hb
  have U10 : Hid (Own w10 w8.heap.size gU cn cn C) := U9.out.below hb
  have S10' : Hid (Own w10 baseS gS nD cS D) := S9'.out.below hb
  have P10 : Hid (Box7 w10 w.heap.size (.int .i64 kd) (.string nm) (.slice na nn nc) (.slice sa sn sc) (.bool dn) (.int .i64 ct) (.int .i64 sk)) := P9.out.below hb
  replace hx := chain hx hb
  clear hb X9 U9 S9' P9
  obtain ⟨w11, hw11⟩ : ∃ w11, (w10.alloc (.cells #[.int .i64 kd, .string nm, .slice (some ⟨gV, 0, none⟩) nn nn, .slice (some ⟨gW, 0, none⟩) sn sn, .bool dn, .int .i64 ct, .int .i64 sk] 33)) = w11 := ⟨_, rfl⟩
  have hb : Below w10.heap.size w10 w11 := by rw [← hw11]; exact (Below.refl _ _).alloc (Nat.le_refl _) _
  have R11 : Hid (Box7 w11 w10.heap.size (.int .i64 kd) (.string nm) (.slice (some ⟨gV, 0, none⟩) nn nn) (.slice (some ⟨gW, 0, none⟩) sn sn) (.bool dn) (.int .i64 ct) (.int .i64 sk)) := by
    have : Box7 w11 w10.heap.size (.int .i64 kd) (.string nm) (.slice (some ⟨gV, 0, none⟩) nn nn) (.slice (some ⟨gW, 0, none⟩) sn sn) (.bool dn) (.int .i64 ct) (.int .i64 sk) := by rw [← hw11]; exact box7 (Below.refl _ _)
    exact this
  have hs11 : w11.heap.size = w10.heap.size + 1 := by rw [← hw11]; simp
  have hs11' : w10.heap.size < w11.heap.size := by omega
  clear hs11
  have HX11 : Hid ((w10.alloc (.cells #[.int .i64 kd, .string nm, .slice (some ⟨gV, 0, none⟩) nn nn, .slice (some ⟨gW, 0, none⟩) sn sn, .bool dn, .int .i64 ct, .int .i64 sk] 33)) = w11) := hw11
  clear hw11
  have X11 : Hid (OutTs w11 w7.heap.size (some ⟨gX, 0, none⟩) T QX) := X10.out.below hb
  have U11 : Hid (Own w11 w8.heap.size gU cn cn C) := U10.out.below hb
  have V11 : Hid (OutV w11 w9.heap.size ⟨some ⟨gV, 0, none⟩, nn, some ⟨gW, 0, none⟩, sn⟩ ⟨kd, nm, N, S, dn, ct, sk⟩) := V10.out.below hb
  have S11' : Hid (Own w11 baseS gS nD cS D) := S10'.out.below hb
  have P11 : Hid (Box7 w11 w.heap.size (.int .i64 kd) (.string nm) (.slice na nn nc) (.slice sa sn sc) (.bool dn) (.int .i64 ct) (.int .i64 sk)) := P10.out.below hb
  replace hx := chain hx hb
  clear hb X10 U10 V10 S10' P10
  go_wp2_with fail
  rw [HX11.out]
  refine (stepshape_impl _ n n T HN.out hnm HSM.out _ cn cn C HCN.out kd nm _ nn nn N HNN.out _ sn sn S HSN.out dn ct sk w11 X11.out.lies U11.out.strs (fun h => by cases h) (Nat.le_refl _) V11.out.siv HMI.out HCF.out hcM A (HS.out.below hx) D k0 HD.out).mono ?_
  intro e w12 hO
  obtain ⟨gG, nG, cG, rfl, oG, hb⟩ := hO.own
  obtain rfl : nD = nG := HND.out.symm.trans oG.1
  have G12 : Hid (Own w12 w11.heap.size gG nD cG D) := oG
  have hgG : w11.heap.size ≤ gG := oG.lo
  clear oG hO HX11
  have X12 : Hid (OutTs w12 w7.heap.size (some ⟨gX, 0, none⟩) T QX) := X11.out.below hb
  have U12 : Hid (Own w12 w8.heap.size gU cn cn C) := U11.out.below hb
  have V12 : Hid (OutV w12 w9.heap.size ⟨some ⟨gV, 0, none⟩, nn, some ⟨gW, 0, none⟩, sn⟩ ⟨kd, nm, N, S, dn, ct, sk⟩) := V11.out.below hb
  have S12' : Hid (Own w12 baseS gS nD cS D) := S11'.out.below hb
  have P12 : Hid (Box7 w12 w.heap.size (.int .i64 kd) (.string nm) (.slice na nn nc) (.slice sa sn sc) (.bool dn) (.int .i64 ct) (.int .i64 sk)) := P11.out.below hb
  have R12 : Hid (Box7 w12 w10.heap.size (.int .i64 kd) (.string nm) (.slice (some ⟨gV, 0, none⟩) nn nn) (.slice (some ⟨gW, 0, none⟩) sn sn) (.bool dn) (.int .i64 ct) (.int .i64 sk)) := R11.out.below hb
  replace hx := chain hx hb
  clear hb X11 U11 V11 S11' P11 R11
  go_wp2_with fail
  refine (eqstrN nD _ _ _ _ D HND.out w12 G12.out.strs S12'.out.strs hnDM).mono ?_
  rintro e w13 ⟨rfl, hb⟩
  have X13 : Hid (OutTs w13 w7.heap.size (some ⟨gX, 0, none⟩) T QX) := X12.out.below hb
  have U13 : Hid (Own w13 w8.heap.size gU cn cn C) := U12.out.below hb
  have V13 : Hid (OutV w13 w9.heap.size ⟨some ⟨gV, 0, none⟩, nn, some ⟨gW, 0, none⟩, sn⟩ ⟨kd, nm, N, S, dn, ct, sk⟩) := V12.out.below hb
  have S13' : Hid (Own w13 baseS gS nD cS D) := S12'.out.below hb
  have P13 : Hid (Box7 w13 w.heap.size (.int .i64 kd) (.string nm) (.slice na nn nc) (.slice sa sn sc) (.bool dn) (.int .i64 ct) (.int .i64 sk)) := P12.out.below hb
  have R13 : Hid (Box7 w13 w10.heap.size (.int .i64 kd) (.string nm) (.slice (some ⟨gV, 0, none⟩) nn nn) (.slice (some ⟨gW, 0, none⟩) sn sn) (.bool dn) (.int .i64 ct) (.int .i64 sk)) := R12.out.below hb
  have G13 : Hid (Own w13 w11.heap.size gG nD cG D) := G12.out.below hb
  replace hx := chain hx hb
  clear hb X12 U12 V12 S12' P12 R12 G12
  go_wp2_with fail
  refine (Z.out _ hx).mono ?_
  rintro e w14 ⟨g14, Q14, rfl, O14, hb⟩
  have X14 : Hid (OutTs w14 w7.heap.size (some ⟨gX, 0, none⟩) T QX) := X13.out.below hb
  have U14 : Hid (Own w14 w8.heap.size gU cn cn C) := U13.out.below hb
  have V14 : Hid (OutV w14 w9.heap.size ⟨some ⟨gV, 0, none⟩, nn, some ⟨gW, 0, none⟩, sn⟩ ⟨kd, nm, N, S, dn, ct, sk⟩) := V13.out.below hb
  have S14' : Hid (Own w14 baseS gS nD cS D) := S13'.out.below hb
  have P14 : Hid (Box7 w14 w.heap.size (.int .i64 kd) (.string nm) (.slice na nn nc) (.slice sa sn sc) (.bool dn) (.int .i64 ct) (.int .i64 sk)) := P13.out.below hb
  have R14 : Hid (Box7 w14 w10.heap.size (.int .i64 kd) (.string nm) (.slice (some ⟨gV, 0, none⟩) nn nn) (.slice (some ⟨gW, 0, none⟩) sn sn) (.bool dn) (.int .i64 ct) (.int .i64 sk)) := R13.out.below hb
  have G14 : Hid (Own w14 w11.heap.size gG nD cG D) := G13.out.below hb
  replace hx := chain hx hb
  clear hb X13 U13 V13 S13' P13 R13 G13
  go_wp2_with fail
  refine (eqtabs_laws _ _ _ _ T n HN.out _ X14.out.lies O14.lies hnM).mono ?_
  rintro e w15 ⟨rfl, hb⟩
  clear O14
  have X15 : Hid (OutTs w15 w7.heap.size (some ⟨gX, 0, none⟩) T QX) := X14.out.below hb
  have U15 : Hid (Own w15 w8.heap.size gU cn cn C) := U14.out.below hb
  have V15 : Hid (OutV w15 w9.heap.size ⟨some ⟨gV, 0, none⟩, nn, some ⟨gW, 0, none⟩, sn⟩ ⟨kd, nm, N, S, dn, ct, sk⟩) := V14.out.below hb
  have S15' : Hid (Own w15 baseS gS nD cS D) := S14'.out.below hb
  have P15 : Hid (Box7 w15 w.heap.size (.int .i64 kd) (.string nm) (.slice na nn nc) (.slice sa sn sc) (.bool dn) (.int .i64 ct) (.int .i64 sk)) := P14.out.below hb
  have R15 : Hid (Box7 w15 w10.heap.size (.int .i64 kd) (.string nm) (.slice (some ⟨gV, 0, none⟩) nn nn) (.slice (some ⟨gW, 0, none⟩) sn sn) (.bool dn) (.int .i64 ct) (.int .i64 sk)) := R14.out.below hb
  have G15 : Hid (Own w15 w11.heap.size gG nD cG D) := G14.out.below hb
  replace hx := chain hx hb
  clear hb X14 U14 V14 S14' P14 R14 G14
  go_wp2_with fail
  refine (U.out _ hx).mono ?_
  rintro e w16 ⟨g16, rfl, O16, hb⟩
  have X16 : Hid (OutTs w16 w7.heap.size (some ⟨gX, 0, none⟩) T QX) := X15.out.below hb
  have U16 : Hid (Own w16 w8.heap.size gU cn cn C) := U15.out.below hb
  have V16 : Hid (OutV w16 w9.heap.size ⟨some ⟨gV, 0, none⟩, nn, some ⟨gW, 0, none⟩, sn⟩ ⟨kd, nm, N, S, dn, ct, sk⟩) := V15.out.below hb
  have S16' : Hid (Own w16 baseS gS nD cS D) := S15'.out.below hb
  have P16 : Hid (Box7 w16 w.heap.size (.int .i64 kd) (.string nm) (.slice na nn nc) (.slice sa sn sc) (.bool dn) (.int .i64 ct) (.int .i64 sk)) := P15.out.below hb
  have R16 : Hid (Box7 w16 w10.heap.size (.int .i64 kd) (.string nm) (.slice (some ⟨gV, 0, none⟩) nn nn) (.slice (some ⟨gW, 0, none⟩) sn sn) (.bool dn) (.int .i64 ct) (.int .i64 sk)) := R15.out.below hb
  have G16 : Hid (Own w16 w11.heap.size gG nD cG D) := G15.out.below hb
  replace hx := chain hx hb
  clear hb X15 U15 V15 S15' P15 R15 G15
  go_wp2_with fail
  refine (eqstrN cn _ _ _ _ C HCN.out w16 U16.out.strs O16.strs hcM).mono ?_
  rintro e w17 ⟨rfl, hb⟩
  clear O16
  have X17 : Hid (OutTs w17 w7.heap.size (some ⟨gX, 0, none⟩) T QX) := X16.out.below hb
  have U17 : Hid (Own w17 w8.heap.size gU cn cn C) := U16.out.below hb
  have V17 : Hid (OutV w17 w9.heap.size ⟨some ⟨gV, 0, none⟩, nn, some ⟨gW, 0, none⟩, sn⟩ ⟨kd, nm, N, S, dn, ct, sk⟩) := V16.out.below hb
  have S17' : Hid (Own w17 baseS gS nD cS D) := S16'.out.below hb
  have P17 : Hid (Box7 w17 w.heap.size (.int .i64 kd) (.string nm) (.slice na nn nc) (.slice sa sn sc) (.bool dn) (.int .i64 ct) (.int .i64 sk)) := P16.out.below hb
  have R17 : Hid (Box7 w17 w10.heap.size (.int .i64 kd) (.string nm) (.slice (some ⟨gV, 0, none⟩) nn nn) (.slice (some ⟨gW, 0, none⟩) sn sn) (.bool dn) (.int .i64 ct) (.int .i64 sk)) := R16.out.below hb
  have G17 : Hid (Own w17 w11.heap.size gG nD cG D) := G16.out.below hb
  replace hx := chain hx hb
  clear hb X16 U16 V16 S16' P16 R16 G16
  obtain ⟨p0, p1, p2, p3, p4, p5, p6, plt⟩ := P17.out
  obtain ⟨r0, r1, r2, r3, r4, r5, r6, rlt⟩ := R17.out
  go_wp2_with fail
  go_region_held3 (fun w' => w'.cell? ⟨w.heap.size, 0, none⟩ = some (.int .i64 kd) ∧ w'.cell? ⟨w.heap.size, 1, none⟩ = some (.string nm) ∧ w'.cell? ⟨w.heap.size, 2, none⟩ = some (.slice na nn nc) ∧ w'.cell? ⟨w.heap.size, 3, none⟩ = some (.slice sa sn sc) ∧ w'.cell? ⟨w.heap.size, 4, none⟩ = some (.bool dn) ∧ w'.cell? ⟨w.heap.size, 5, none⟩ = some (.int .i64 ct) ∧ w'.cell? ⟨w.heap.size, 6, none⟩ = some (.int .i64 sk) ∧ w'.cell? ⟨w10.heap.size, 0, none⟩ = some (.int .i64 kd) ∧ w'.cell? ⟨w10.heap.size, 1, none⟩ = some (.string nm) ∧ w'.cell? ⟨w10.heap.size, 2, none⟩ = some (.slice (some ⟨gV, 0, none⟩) nn nn) ∧ w'.cell? ⟨w10.heap.size, 3, none⟩ = some (.slice (some ⟨gW, 0, none⟩) sn sn) ∧ w'.cell? ⟨w10.heap.size, 4, none⟩ = some (.bool dn) ∧ w'.cell? ⟨w10.heap.size, 5, none⟩ = some (.int .i64 ct) ∧ w'.cell? ⟨w10.heap.size, 6, none⟩ = some (.int .i64 sk))
    (((try dsimp only); (repeat' apply And.intro) <;> first | (go_keep; done) | (simp (disch := first | omega | (simp <;> omega) | fail) [*]; done) | fail))
    (first
      | (go_at_call 30
         refine (V.out _ (by first | exact hx | exact hx.drew | exact hx.drew.drew)).mono ?_
         rintro e w18 ⟨g18, g18', rfl, O18, hb⟩
         have hb18 : Below w17.heap.size w17 w18 := (by first | exact hb | exact undrew hb)
         have q18 := later7 hb18 ⟨p0, p1, p2, p3, p4, p5, p6, plt⟩
         obtain ⟨p0, p1, p2, p3, p4, p5, p6, plt⟩ := q18
         have t18 := later7 hb18 ⟨r0, r1, r2, r3, r4, r5, r6, rlt⟩
         obtain ⟨r0, r1, r2, r3, r4, r5, r6, rlt⟩ := t18
         have HO18 : Hid (SivAt w18 (some ⟨g18, 0, none⟩) nn (some ⟨g18', 0, none⟩) ⟨kd, nm, N, S, dn, ct, sk⟩) := O18.siv
         have V18 : Hid (OutV w18 w9.heap.size ⟨some ⟨gV, 0, none⟩, nn, some ⟨gW, 0, none⟩, sn⟩ ⟨kd, nm, N, S, dn, ct, sk⟩) := V17.out.below hb18
         replace hx := chain hx hb18
         clear hb O18)
      | (go_at_call 31
         refine (eqsiv_laws _ _ _ sn _ _ _ sn ⟨kd, nm, N, S, dn, ct, sk⟩ nn sn HNN.out HSN.out _ (by first | exact V18.out.siv | exact V18.out.siv.below (Below.refl _ _).drew) (by first | exact HO18.out | exact HO18.out.below (Below.refl _ _).drew)).mono ?_
         rintro e w19 ⟨rfl, hb⟩
         have hb19 : Below w18.heap.size w18 w19 := (by first | exact hb | exact undrew hb)
         have q19 := later7 hb19 ⟨p0, p1, p2, p3, p4, p5, p6, plt⟩
         obtain ⟨p0, p1, p2, p3, p4, p5, p6, plt⟩ := q19
         have t19 := later7 hb19 ⟨r0, r1, r2, r3, r4, r5, r6, rlt⟩
         obtain ⟨r0, r1, r2, r3, r4, r5, r6, rlt⟩ := t19
         replace hx := chain hx hb19
         clear hb HO18 V18))
  have hb : Below w17.heap.size w17 w19 := chain hb18 hb19
  clear p0 p1 p2 p3 p4 p5 p6 plt r0 r1 r2 r3 r4 r5 r6 rlt
  have hx19 := hx
  have X19 : Hid (OutTs w19 w7.heap.size (some ⟨gX, 0, none⟩) T QX) := X17.out.below hb
  have U19 : Hid (Own w19 w8.heap.size gU cn cn C) := U17.out.below hb
  have V19 : Hid (OutV w19 w9.heap.size ⟨some ⟨gV, 0, none⟩, nn, some ⟨gW, 0, none⟩, sn⟩ ⟨kd, nm, N, S, dn, ct, sk⟩) := V17.out.below hb
  have S19' : Hid (Own w19 baseS gS nD cS D) := S17'.out.below hb
  have P19 : Hid (Box7 w19 w.heap.size (.int .i64 kd) (.string nm) (.slice na nn nc) (.slice sa sn sc) (.bool dn) (.int .i64 ct) (.int .i64 sk)) := P17.out.below hb
  have R19 : Hid (Box7 w19 w10.heap.size (.int .i64 kd) (.string nm) (.slice (some ⟨gV, 0, none⟩) nn nn) (.slice (some ⟨gW, 0, none⟩) sn sn) (.bool dn) (.int .i64 ct) (.int .i64 sk)) := R17.out.below hb
  have G19 : Hid (Own w19 w11.heap.size gG nD cG D) := G17.out.below hb
  clear hb hb18 hb19 hx19 X17 U17 V17 S17' P17 R17 G17
  go_wp2_with fail
  refine (marktabs_laws _ _ T n HN.out QX w7.heap.size 1 rX HRX.out _ X19.out (by omega) hrX1 hnM).mono ?_
  rintro e w20 ⟨rfl, _, K⟩
  have hw19 := hx.size
  have U20 : Hid (Own w20 w8.heap.size gU cn cn C) := U19.out.keepS K (fun b hb => HXlt.out b hb)
  have V20 : Hid (OutV w20 w9.heap.size ⟨some ⟨gV, 0, none⟩, nn, some ⟨gW, 0, none⟩, sn⟩ ⟨kd, nm, N, S, dn, ct, sk⟩) := V19.out.keepS K (fun b hb hp => by have := V19.out.lo b hb; have := HXlt.out b hp; omega)
  have G20 : Hid (Own w20 w11.heap.size gG nD cG D) := G19.out.keepS K (fun b hb => by have := HXlt.out b hb; omega)
  have S20' : Hid (Own w20 baseS gS nD cS D) := S19'.out.keepLo K hgS (fun b hb => X19.out.blks_lo b hb)
  have P20 : Hid (Box7 w20 w.heap.size (.int .i64 kd) (.string nm) (.slice na nn nc) (.slice sa sn sc) (.bool dn) (.int .i64 ct) (.int .i64 sk)) := P19.out.keepS K (fun hp => by have := X19.out.blks_lo _ hp; omega)
  have R20 : Hid (Box7 w20 w10.heap.size (.int .i64 kd) (.string nm) (.slice (some ⟨gV, 0, none⟩) nn nn) (.slice (some ⟨gW, 0, none⟩) sn sn) (.bool dn) (.int .i64 ct) (.int .i64 sk)) := R19.out.keepS K (fun hp => by have := HXlt.out _ hp; omega)
  replace hx := KeepS.belowP hx K (by omega) (fun b hb => Nat.le_trans hw7 (X19.out.blks_lo b hb))
  clear K X19 U19 V19 G19 S19' P19 R19
  go_wp2_with fail
  refine (markstrV cn _ _ C HCN.out rX rU _ rfl HRU.out w20 U20.out.strs U20.out.free hrX0 hrU1).mono ?_
  rintro e w21 ⟨rfl, _, K⟩
  have hw20 := hx.size
  have V21 : Hid (OutV w21 w9.heap.size ⟨some ⟨gV, 0, none⟩, nn, some ⟨gW, 0, none⟩, sn⟩ ⟨kd, nm, N, S, dn, ct, sk⟩) := V20.out.keepS K (fun b hb hp => by obtain ⟨_, o, e⟩ := hp; cases e; have := V20.out.lo gU hb; omega)
  have G21 : Hid (Own w21 w11.heap.size gG nD cG D) := G20.out.keepS K (fun b hb => by obtain ⟨_, o, e⟩ := hb; cases e; omega)
  have S21' : Hid (Own w21 baseS gS nD cS D) := S20'.out.keepLo K (B := w8.heap.size) (by omega) (fun b hb => by obtain ⟨_, o, e⟩ := hb; cases e; omega)
  have P21 : Hid (Box7 w21 w.heap.size (.int .i64 kd) (.string nm) (.slice na nn nc) (.slice sa sn sc) (.bool dn) (.int .i64 ct) (.int .i64 sk)) := P20.out.keepS K (fun hp => by obtain ⟨_, o, e⟩ := hp; cases e; omega)
  have R21 : Hid (Box7 w21 w10.heap.size (.int .i64 kd) (.string nm) (.slice (some ⟨gV, 0, none⟩) nn nn) (.slice (some ⟨gW, 0, none⟩) sn sn) (.bool dn) (.int .i64 ct) (.int .i64 sk)) := R20.out.keepS K (fun hp => by obtain ⟨_, o, e⟩ := hp; cases e; omega)
  replace hx := KeepS.belowP hx K (by omega) (fun b hb => by obtain ⟨_, o, e⟩ := hb; cases e; omega)
  clear K U20 V20 G20 S20' P20 R20
  obtain ⟨r0, r1, r2, r3, r4, r5, r6, rlt⟩ := R21.out
  go_wp2_with fail
  refine (marksiv_laws kd nm _ nn nn N HNN.out _ sn sn S HSN.out dn ct sk w9.heap.size rU rY HRY.out w21 V21.out hrU0 hrY1).mono ?_
  rintro e w22 ⟨rfl, K⟩
  have hw21 := hx.size
  have G22 : Hid (Own w22 w11.heap.size gG nD cG D) := G21.out.keepS K (fun b hb => by have := HVlt.out b hb; omega)
  have S22' : Hid (Own w22 baseS gS nD cS D) := S21'.out.keepLo K (B := w9.heap.size) (by omega) (fun b hb => V21.out.lo b hb)
  have P22 : Hid (Box7 w22 w.heap.size (.int .i64 kd) (.string nm) (.slice na nn nc) (.slice sa sn sc) (.bool dn) (.int .i64 ct) (.int .i64 sk)) := P21.out.keepS K (fun hp => by have := V21.out.lo _ hp; omega)
  replace hx := KeepS.belowP hx K (by omega) (fun b hb => by have := V21.out.lo b hb; omega)
  clear K V21 G21 S21' P21 R21 r0 r1 r2 r3 r4 r5 r6 rlt
  go_wp2_with fail
  refine (eqstrN nD _ _ _ _ D HND.out w22 G22.out.strs S22'.out.strs hnDM).mono ?_
  rintro e w23 ⟨rfl, hb⟩
  have S23' : Hid (Own w23 baseS gS nD cS D) := S22'.out.below hb
  have P23 : Hid (Box7 w23 w.heap.size (.int .i64 kd) (.string nm) (.slice na nn nc) (.slice sa sn sc) (.bool dn) (.int .i64 ct) (.int .i64 sk)) := P22.out.below hb
  have G23 : Hid (Own w23 w11.heap.size gG nD cG D) := G22.out.below hb
  replace hx := chain hx hb
  clear hb S22' P22 G22
  go_wp2_with fail
  refine (markstrV nD _ _ D HND.out 1 rD 1 rfl HRD.out w23 G23.out.strs G23.out.free (by omega) (by omega)).mono ?_
  rintro e w24 ⟨rfl, M, K⟩
  have hw23 := hx.size
  have M24 : Hid (StrsAt w24 (some ⟨gG, 0, none⟩) (marksS 1 nD)) := M
  have S24' : Hid (Own w24 baseS gS nD cS D) := S23'.out.keepLo K (B := w11.heap.size) (by omega) (fun b hb => by obtain ⟨_, o, e⟩ := hb; cases e; exact hgG)
  have P24 : Hid (Box7 w24 w.heap.size (.int .i64 kd) (.string nm) (.slice na nn nc) (.slice sa sn sc) (.bool dn) (.int .i64 ct) (.int .i64 sk)) := P23.out.keepS K (fun hp => by obtain ⟨_, o, e⟩ := hp; cases e; omega)
  replace hx := KeepS.belowP hx K (by omega) (fun b hb => by obtain ⟨_, o, e⟩ := hb; cases e; omega)
  clear K M G23 S23' P23
  go_wp2_with fail
  refine (heldstrD nD _ _ 1 rD 1 rfl HRD.out w24 M24.out (by omega) (by omega)).mono ?_
  rintro e w25 ⟨rfl, hb⟩
  have S25' : Hid (Own w25 baseS gS nD cS D) := S24'.out.below hb
  have P25 : Hid (Box7 w25 w.heap.size (.int .i64 kd) (.string nm) (.slice na nn nc) (.slice sa sn sc) (.bool dn) (.int .i64 ct) (.int .i64 sk)) := P24.out.below hb
  have M25 : Hid (StrsAt w25 (some ⟨gG, 0, none⟩) (marksS 1 nD)) := M24.out.below hb
  replace hx := chain hx hb
  clear hb S24' P24 M24
  obtain ⟨p0, p1, p2, p3, p4, p5, p6, plt⟩ := P25.out
  go_wp2_with fail
  go_region_held3 (fun w' => w'.cell? ⟨w.heap.size, 0, none⟩ = some (.int .i64 kd) ∧ w'.cell? ⟨w.heap.size, 1, none⟩ = some (.string nm) ∧ w'.cell? ⟨w.heap.size, 2, none⟩ = some (.slice na nn nc) ∧ w'.cell? ⟨w.heap.size, 3, none⟩ = some (.slice sa sn sc) ∧ w'.cell? ⟨w.heap.size, 4, none⟩ = some (.bool dn) ∧ w'.cell? ⟨w.heap.size, 5, none⟩ = some (.int .i64 ct) ∧ w'.cell? ⟨w.heap.size, 6, none⟩ = some (.int .i64 sk))
    (((try dsimp only); (repeat' apply And.intro) <;> first | (go_keep; done) | (simp (disch := first | omega | (simp <;> omega) | fail) [*]; done) | fail))
    (first
      | (go_at_call 18
         refine (Z.out _ (by first | exact hx | exact hx.drew | exact hx.drew.drew)).mono ?_
         rintro e w26 ⟨g3, Q3, rfl, O3, hb⟩
         have HO3 : Hid (TabsAt w26 (some ⟨g3, 0, none⟩) T) := O3.lies
         have hb26 : Below w25.heap.size w25 w26 := (by first | exact hb | exact undrew hb)
         have q4 := later7 hb26 ⟨p0, p1, p2, p3, p4, p5, p6, plt⟩
         obtain ⟨p0, p1, p2, p3, p4, p5, p6, plt⟩ := q4
         replace hx := chain hx hb26
         clear hb O3)
      | (go_at_call 29
         refine (U.out _ (by first | exact hx | exact hx.drew | exact hx.drew.drew)).mono ?_
         rintro e w27 ⟨g4, rfl, O4, hb⟩
         have hb27 : Below w26.heap.size w26 w27 := (by first | exact hb | exact undrew hb)
         have HO4 : Hid (StrsAt w27 (some ⟨g4, 0, none⟩) C) := O4.strs
         have HO3' : Hid (TabsAt w27 (some ⟨g3, 0, none⟩) T) := HO3.out.below hb27
         have q5 := later7 hb27 ⟨p0, p1, p2, p3, p4, p5, p6, plt⟩
         obtain ⟨p0, p1, p2, p3, p4, p5, p6, plt⟩ := q5
         replace hx := chain hx hb27
         clear hb O4 HO3)
      | (go_at_call 30
         refine (V.out _ (by first | exact hx | exact hx.drew | exact hx.drew.drew)).mono ?_
         rintro e w28 ⟨g5, g6, rfl, O5, hb⟩
         have hb28 : Below w27.heap.size w27 w28 := (by first | exact hb | exact undrew hb)
         have HO5 : Hid (SivAt w28 (some ⟨g5, 0, none⟩) nn (some ⟨g6, 0, none⟩) ⟨kd, nm, N, S, dn, ct, sk⟩) := O5.siv
         have HO4' : Hid (StrsAt w28 (some ⟨g4, 0, none⟩) C) := HO4.out.below hb28
         have HO3'' : Hid (TabsAt w28 (some ⟨g3, 0, none⟩) T) := HO3'.out.below hb28
         have q6 := later7 hb28 ⟨p0, p1, p2, p3, p4, p5, p6, plt⟩
         obtain ⟨p0, p1, p2, p3, p4, p5, p6, plt⟩ := q6
         replace hx := chain hx hb28
         clear hb O5 HO4 HO3')
      | (go_at_call 10
         refine (stepshape_impl _ n n T HN.out hnm HSM.out _ cn cn C HCN.out kd nm _ nn nn N HNN.out _ sn sn S HSN.out dn ct sk _ (by first | exact HO3''.out | exact HO3''.out.below (Below.refl _ _).drew) (by first | exact HO4'.out | exact HO4'.out.below (Below.refl _ _).drew) (fun h => by cases h) (Nat.le_refl _) (by first | exact HO5.out | exact HO5.out.below (Below.refl _ _).drew) HMI.out HCF.out hcM A (HS.out.below (by first | exact hx | exact hx.drew | exact hx.drew.drew)) D k0 HD.out).mono ?_
         intro e w29 hO
         obtain ⟨gH, nH, cH, rfl, oH, hb⟩ := hO.own
         have hb29 : Below w28.heap.size w28 w29 := (by first | exact hb | exact undrew hb)
         obtain rfl : nD = nH := HND.out.symm.trans oH.1
         have HH29 : Hid (StrsAt w29 (some ⟨gH, 0, none⟩) D) := oH.strs
         have q7 := later7 hb29 ⟨p0, p1, p2, p3, p4, p5, p6, plt⟩
         obtain ⟨p0, p1, p2, p3, p4, p5, p6, plt⟩ := q7
         replace hx := chain hx hb29
         clear hb oH hO HO5 HO4' HO3''))
  have hb : Below w25.heap.size w25 w29 := chain (chain (chain hb26 hb27) hb28) hb29
  have S29' : Hid (Own w29 baseS gS nD cS D) := S25'.out.below hb
  have M29 : Hid (StrsAt w29 (some ⟨gG, 0, none⟩) (marksS 1 nD)) := M25.out.below hb
  clear hb hb26 hb27 hb28 hb29 p0 p1 p2 p3 p4 p5 p6 plt S25' M25 P25
  go_wp2_with fail
  refine (eqstrN nD _ _ _ _ D HND.out w29 HH29.out S29'.out.strs hnDM).mono ?_
  rintro e w30 ⟨rfl, hb⟩
  have M30 : Hid (StrsAt w30 (some ⟨gG, 0, none⟩) (marksS 1 nD)) := M29.out.below hb
  replace hx := chain hx hb
  clear hb M29
  go_wp2_with fail
  refine (heldstrD nD _ _ 1 rD 1 rfl HRD.out w30 M30.out (by omega) (by omega)).mono ?_
  rintro e w31 ⟨rfl, hb⟩
  replace hx := chain hx hb
  clear hb M30
  go_wp2
  go_ret
  exact ⟨rfl, hx⟩

theorem laidOut : laidOutB Tryz.prog = true := by kernel_rfl

theorem var_laid {W : World} (h : laidMetH Tryz.prog Rows.fnExactStepShapeRow.laid W) : ∃ A, SenAt W A := sen_of h

/-- The door's own heap meets the condition. -/
theorem door_met (os : Os) (args : Array Value) : laidMetH Tryz.prog Rows.fnExactStepShapeRow.laid ((World.doorLaid Tryz.prog 400 os).forCall (fun _ _ => 0) ⟨#[], args, []⟩).memory :=
  laidMetH_of_parts3 (fuel := 8) (laidMet_of_run' 8 (by kernel_rfl) (by kernel_rfl)) (by kernel_rfl) (by kernel_rfl)

set_option maxRecDepth 100000 in
theorem lifted (os : Os) (started : os.Started) (H : Type) (enc : TypeId × Value → H) :
    ReturnsInHanded {} Tryz.checked os 5 .any (fun w args => (Rows.fnExactStepShapeSpec.pre enc Tryz.prog Tryz.f5 [] false w args ∧ laidMetH Tryz.prog Rows.fnExactStepShapeRow.laid w) ∧ sizedMet enc Tryz.prog Tryz.f5 (OpenSpec.ofChange Rows.fnExactStepShapeSpec) false w args)
      (Rows.fnExactStepShapeSpec.post enc Tryz.prog Tryz.f5 false true false false) := by
  refine returnsInHanded_of_change_and (C := Tryz.checked) (X := fun w _ => laidMetH Tryz.prog Rows.fnExactStepShapeRow.laid w) (fun _ _ _ hh h => h.of_heap hh) own started (by kernel_rfl) Tryz.func5
    (ChangeSpec.witness_shaped (enc := enc) (C := Tryz.checked) (os := os) (X := fun w _ => laidMetH Tryz.prog Rows.fnExactStepShapeRow.laid w) false (World.doorLaid Tryz.prog 400 os) #[.slice none 0 0, .slice none 0 0, .agg #[.int .i64 0, .string ⟨#[]⟩, .slice none 0 0, .slice none 0 0, .bool false, .int .i64 0, .int .i64 0]] 8 rfl (World.shaped_of_RefB (by kernel_rfl) (by kernel_rfl)) (by kernel_rfl) (by kernel_rfl) (by kernel_rfl) (door_met os _)) ?_
  intro W base args ds gs before hval0 hW _ _ hL _
  have hval : ∀ (j : Nat) t v, Tryz.f5.params[j]? = some t → args[j]? = some v → Value.okWide Tryz.prog W .any base t v := hval0
  have hW' := hW
  obtain ⟨p, q, hA0, hV, rfl, hfz, hnd⟩ := hW
  have hA : DataW.TrodAll enc Tryz.prog W 0 (fun _ => true) true Tryz.f5.params.toList args.toList ds p := hA0
  rw [Tryz.params5] at hA hval
  obtain ⟨v0, v1, v2, d0, d1, d2, p0, p1, p2, rfl, rfl, rfl, h0, h1, h2⟩ := trodAll_three hA
  have hV2 := hV
  obtain ⟨_, _, _, _, _, rfl⟩ := trodVars_five hV
  have k0 := h0
  have lt0 : ∀ x ∈ p0, x.block < W.heap.size := by obtain ⟨m, hm⟩ := k0; exact DataW.trod_lt m _ _ _ hm
  obtain ⟨a0, n0, c0, rfl⟩ := okWide_slice Tryz.underlying44 (hval 0 44 v0 rfl rfl)
  obtain ⟨m0, hm0⟩ := h0
  obtain ⟨T0, hl0, hT0, hM0, hC0, hN0⟩ := open_tabs hm0
  have k1 := h1
  have lt1 : ∀ x ∈ p1, x.block < W.heap.size := by obtain ⟨m, hm⟩ := k1; exact DataW.trod_lt m _ _ _ hm
  obtain ⟨a1, n1, c1, rfl⟩ := okWide_slice Tryz.underlying28 (hval 1 28 v1 rfl rfl)
  obtain ⟨m1, hm1⟩ := h1
  obtain ⟨l1, hl1, hS1, hF1, hM1, hC1, hN1⟩ := open_strs Tryz.underlying28 Tryz.underlying9 (by kernel_rfl) hm1
  have k2 := h2
  have lt2 : ∀ x ∈ p2, x.block < W.heap.size := by obtain ⟨m, hm⟩ := k2; exact DataW.trod_lt m _ _ _ hm
  obtain ⟨t2, nn2, sn2, na2, nc2, sa2, sc2, rfl, hnn2, hsn2, hT2⟩ := open_sieve (hval 2 58 v2 rfl rfl) h2
  clear hA0 hval0
  obtain ⟨A, hS⟩ := var_laid hL
  refine (walk a0 c0 T0 n0 hl0 a1 n1 c1 l1 hl1 t2.kind t2.name na2 nn2 nc2 t2.names hnn2 sa2 sn2 sc2 t2.sum hsn2 t2.down t2.count t2.skip W hT0 hM0 hS1 hF1 hM1 hT2 A hS).mono fun e W' ⟨he, bel⟩ => ?_
  subst he
  exact ⟨_, rfl, _, _, _, [], _, _, hW', trodAll_mk1 (shut_bool Tryz.underlying4 _), trodAll_mk3 (Below.trod laidOut (by kernel_rfl) (of_decide_eq_true (by kernel_rfl)) k0 bel lt0) (Below.trod laidOut (by kernel_rfl) (of_decide_eq_true (by kernel_rfl)) k1 bel lt1) (Below.trod laidOut (by kernel_rfl) (of_decide_eq_true (by kernel_rfl)) k2 bel lt2), Below.trodVars laidOut bel (by kernel_rfl) hV2, bel.frame _, fun h => by cases h⟩

theorem over : Rows.fnExactStepShapeRow.holds Tryz.pinned (OpenSpec.ofChange Rows.fnExactStepShapeSpec) :=
  OpenClaim.holds_of_wide 5 Tryz.f5 rfl rfl rfl rfl rfl rfl rfl ⟨rfl, rfl, rfl, rfl, rfl⟩ rfl rfl rfl rfl rfl (by kernel_rfl) Tryz.func5 (by kernel_rfl)
    (of_decide_eq_true (by kernel_rfl)) (by unfold Func.isWrapper; first | (rw [if_pos (by decide +kernel)]; kernel_rfl) | (rw [if_neg (by decide +kernel)]; exact ⟨rfl, rfl⟩))
    (fun os started H enc _ => lifted os started H enc)

end exStepShape

theorem fnExactStepShape_card : Rows.FnExactStepShapeCardSaid :=
  Claim7.holds_tied_plain_at .later [] [.data, .data, .data, .handle, .sentinel, .sentinel, .sentinel, .sentinel, .sentinel, .sentinel, .sentinel] true Rows.fnExactStepShapeCard.stood.harness true
    exStepShape.over (fun _ h => by cases h) (by kernel_rfl) (fun _ h => by cases h) fnExactStepShape_row_tie rfl ⟨rfl, rfl⟩ (by kernel_rfl) rfl
    (fun f fn hf hfn => by
      obtain rfl : f = 5 := Option.some.inj ((show Tryz.prog.funcNamed Rows.fnExactStepShapeRow.func = some 5 by kernel_rfl).symm.trans hf) |>.symm
      obtain rfl : fn = Tryz.f5 := (Option.some.inj (Tryz.func5.symm.trans hfn)).symm
      exact ⟨by kernel_rfl, fun j t ht => by
        rw [Tryz.params5] at ht
        have h3 : t = 44 ∨ t = 28 ∨ t = 58 := by
          rcases j with _ | _ | _ | j
          · exact .inl (by simpa using ht.symm)
          · exact .inr (.inl (by simpa using ht.symm))
          · exact .inr (.inr (by simpa using ht.symm))
          · simp at ht
        rcases h3 with rfl | rfl | rfl
        · exact (show Tryz.prog.wantsStandIn 44 = false by kernel_rfl)
        · exact (show Tryz.prog.wantsStandIn 28 = false by kernel_rfl)
        · exact (show Tryz.prog.wantsStandIn 58 = false by kernel_rfl)⟩)
    (by kernel_rfl)

end Go.Proofs.YtjiaciikbnpicaaGreatDoor
