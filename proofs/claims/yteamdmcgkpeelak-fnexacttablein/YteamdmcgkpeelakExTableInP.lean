/-
  Proved: at every list of tables and every name the program's TableIn answers as its model does; it writes into no argument and keeps nothing of one; its answer owns its memory, behind another call too; the law's arguments read afterwards as before; no condition.
-/
import Derived.Test.YteamdmcgkpeelakPart13
import Derived.Test.YteamdmcgkpeelakPart14
import Derived.Lib.SmallJoins
namespace Go.Proofs.Yteamdmcgkpeelak
open Go.ChangeShapes Go.WideShapes Go.ChangeAt Go.RowKit Go.Joins
attribute [local go_sem ↓] Go.wp_at_zero Go.wp_at_succ
attribute [local simp] World.cell?_alloc_past World.cell?_alloc_at World.frozen?_alloc_at cell_far cell_off cell_here World.frozen?_alloc_past

theorem markN_in {T : List TB} {s : ByteArray} {t : TB} {b : Bool} (h : InR T s t b) (ho : offT T T.length ≤ 4194304) : markN t 1 ≤ 4194305 := by
  rcases h with ⟨_, rfl, _⟩ | ⟨_, k, hk, rfl, _⟩
  · unfold markN zeroT offs
    simp
  · have h1 := offT_step T k hk
    have h2 := offT_le T (k + 1)
    unfold tabN at h1
    unfold markN
    omega

namespace exTableIn

theorem own : ownKnob Try.prog.godebug = none := by kernel_rfl
theorem laidOut : laidOutB Try.prog = true := by kernel_rfl

set_option maxRecDepth 100000 in
set_option maxHeartbeats 8000000 in
theorem walk (a : Option Addr) (cap : Nat) (T : List TB) (n : Nat) (hn : T.length = n) (s : ByteArray) (hs : s.size ≤ maxLen) (w : World) (ht : TabsAt w a T) (hm : n ≤ maxLen) :
    Calls Try.prog 6 #[.slice a n cap, .string s] w fun e w' => e = .returned (.bool true) ∧ Below w.heap.size w w' := by
  have HT : Hid (TabsAt w a T) := ht
  have HN : Hid (T.length = n) := hn
  obtain ⟨x, hx1⟩ : ∃ x, leftTS T 1048576 = x := ⟨_, rfl⟩
  have HX1 : Hid (leftTS T 1048576 = x) := hx1
  have hsM := hs
  unfold maxLen at hsM
  clear ht hn
  by_cases hbig : (1048576 : Int) < (s.size : Int)
  · clear hx1
    go_enter Try.func6, Try.ntmps6
    go_wp2
    go_ret
    exact ⟨rfl, Below.refl _ _⟩
  by_cases hx0 : x < 0
  · clear hx1
    go_enter Try.func6, Try.ntmps6
    go_wp2_with fail
    refine (sztabs_laws a cap T n HN.out 1048576 _ HT.out hm (by omega) (by omega)).mono ?_
    rw [HX1.out]
    rintro e w1 ⟨rfl, hb1⟩
    go_wp2
    go_ret
    exact ⟨rfl, hb1⟩
  have hx0' : 0 ≤ x := by omega
  have hq := leftTS_fits (T := T) (x := 1048576) (by omega) (by rw [hx1]; exact hx0')
  have hnm : n ≤ 1048576 := by rw [← HN.out]; exact hq.1
  have hoff := offT_leftTS (T := T) (x := 1048576) (by omega) (by rw [hx1]; exact hx0')
  have HSML : Hid (∀ t, t ∈ T → Small t) := by
    have : ∀ t, t ∈ T → Small t := fun t ht => by
      obtain ⟨i, hi, e⟩ := List.getElem_of_mem ht
      rw [← e]; exact hq.2 i hi
    exact this
  have Z : Hid (∀ w', Below w.heap.size w w' → Calls Try.prog 20 #[.slice a n cap] w' fun e w'' => ∃ g Q, e = .returned (.slice (some ⟨g, 0, none⟩) n n) ∧ OutTs w'' w'.heap.size (some ⟨g, 0, none⟩) T Q ∧ Below w'.heap.size w' w'') := by
    have : ∀ w', Below w.heap.size w w' → Calls Try.prog 20 #[.slice a n cap] w' fun e w'' => ∃ g Q, e = .returned (.slice (some ⟨g, 0, none⟩) n n) ∧ OutTs w'' w'.heap.size (some ⟨g, 0, none⟩) T Q ∧ Below w'.heap.size w' w'' :=
      fun w' hw => totabs_out a cap T n HN.out w' (HT.out.below hw) hnm hq.2
    exact this
  obtain ⟨t, b, hI⟩ := inR_some T s
  have HI : Hid (InR T s t b) := hI
  have hmN := markN_in hI hoff
  obtain ⟨mc, hmc⟩ : ∃ m, t.2.1.length = m := ⟨_, rfl⟩
  obtain ⟨mr, hmr⟩ : ∃ m, t.2.2.length = m := ⟨_, rfl⟩
  have HMC : Hid (t.2.1.length = mc) := hmc
  have HMR : Hid (t.2.2.length = mr) := hmr
  obtain ⟨tn, htn⟩ : ∃ s, t.1 = s := ⟨_, rfl⟩
  have HTN : Hid (t.1 = tn) := htn
  obtain ⟨rT, hrT⟩ : ∃ r, markN t 1 = r := ⟨_, rfl⟩
  have HRT : Hid (markN t 1 = rT) := hrT
  have hrT2 : rT ≤ 1099511627776 := by omega
  have hrT0 : ¬ (rT : Int) < 0 := by omega
  have hrTT : ((rT : Int) == (rT : Int)) = true := by simp
  obtain ⟨rX, hrX⟩ : ∃ rX, 1 + offT T T.length = rX := ⟨_, rfl⟩
  have HRX : Hid (1 + offT T T.length = rX) := hrX
  have hrX1 : rX ≤ 1099511627776 := by omega
  have hrX0 : ¬ (rX : Int) < 0 := by omega
  have hbb : (b == b) = true := by simp
  have PS : Hid (∀ w' g, TabsAt w' (some ⟨g, 0, none⟩) T → Calls Try.prog 23 #[.slice (some ⟨g, 0, none⟩) n n, .string s] w' fun e w'' => ∃ ca cc ra cr, e = .returned (.tuple #[.agg #[.string tn, .slice ca mc cc, .slice ra mr cr], .bool b]) ∧ TabAt w'' ca cc ra t ∧ Below w'.heap.size w' w'') := by
    have : ∀ w' g, TabsAt w' (some ⟨g, 0, none⟩) T → Calls Try.prog 23 #[.slice (some ⟨g, 0, none⟩) n n, .string s] w' fun e w'' => ∃ ca cc ra cr, e = .returned (.tuple #[.agg #[.string tn, .slice ca mc cc, .slice ra mr cr], .bool b]) ∧ TabAt w'' ca cc ra t ∧ Below w'.heap.size w' w'' := by
      intro w' g hO
      refine (tablein_spec _ _ T n HN.out w' hO hnm HSML.out s t b HI.out).mono ?_
      rintro e w'' ⟨nc, nr, ca, cc, ra, cr, rfl, h1, h2, ho, hb⟩
      exact ⟨ca, cc, ra, cr, by rw [← h1, ← h2, hmc, hmr, htn], ho, hb⟩
    exact this
  have PI : Hid (∀ w' g, TabsAt w' (some ⟨g, 0, none⟩) T → Calls Try.prog 24 #[.slice (some ⟨g, 0, none⟩) n n, .string s] w' fun e w'' => ∃ ca cc ra cr A C, e = .returned (.tuple #[.agg #[.string tn, .slice ca mc cc, .slice ra mr cr], .bool b]) ∧ OutTab w'' w'.heap.size ca cc ra t A C ∧ Below w'.heap.size w' w'') := by
    have : ∀ w' g, TabsAt w' (some ⟨g, 0, none⟩) T → Calls Try.prog 24 #[.slice (some ⟨g, 0, none⟩) n n, .string s] w' fun e w'' => ∃ ca cc ra cr A C, e = .returned (.tuple #[.agg #[.string tn, .slice ca mc cc, .slice ra mr cr], .bool b]) ∧ OutTab w'' w'.heap.size ca cc ra t A C ∧ Below w'.heap.size w' w'' := by
      intro w' g hO
      refine (tablein_impl _ _ T n HN.out w' hO hnm HSML.out s hs t b HI.out).mono ?_
      rintro e w'' ⟨nc, nr, ca, cc, ra, cr, A, C, rfl, h1, h2, ho, hb⟩
      exact ⟨ca, cc, ra, cr, A, C, by rw [← h1, ← h2, hmc, hmr, htn], ho, hb⟩
    exact this
  have QE : Hid (∀ w' c1 k1 r1 e1 c2 k2 r2 e2, TabAt w' c1 k1 r1 t → TabAt w' c2 k2 r2 t → Calls Try.prog 12 #[.agg #[.string tn, .slice c1 mc k1, .slice r1 mr e1], .agg #[.string tn, .slice c2 mc k2, .slice r2 mr e2]] w' fun e w'' => e = .returned (.bool true) ∧ Below w'.heap.size w' w'') := by
    have : ∀ w' c1 k1 r1 e1 c2 k2 r2 e2, TabAt w' c1 k1 r1 t → TabAt w' c2 k2 r2 t → Calls Try.prog 12 #[.agg #[.string tn, .slice c1 mc k1, .slice r1 mr e1], .agg #[.string tn, .slice c2 mc k2, .slice r2 mr e2]] w' fun e w'' => e = .returned (.bool true) ∧ Below w'.heap.size w' w'' := by
      intro w' c1 k1 r1 e1 c2 k2 r2 e2 h1 h2
      have := eqtab_laws c1 k1 r1 e1 c2 k2 r2 e2 t mc mr HMC.out HMR.out w' h1 h2
      rw [htn] at this
      exact this
    exact this
  have QM : Hid (∀ w' base ca cc ra cr A C, OutTab w' base ca cc ra t A C → Calls Try.prog 13 #[.agg #[.string tn, .slice ca mc cc, .slice ra mr cr], .int .i64 1] w' fun e w'' => e = .returned (.int .i64 (rT : Int)) ∧ MarkedT w'' ca ra t A C 1 ∧ (∃ wa, Below w'.heap.size w' wa ∧ KeepS (fun b => inBlk ca t.2.1.length b ∨ rowBlks t.2.2 A b) wa w'')) := by
    have : ∀ w' base ca cc ra cr A C, OutTab w' base ca cc ra t A C → Calls Try.prog 13 #[.agg #[.string tn, .slice ca mc cc, .slice ra mr cr], .int .i64 1] w' fun e w'' => e = .returned (.int .i64 (rT : Int)) ∧ MarkedT w'' ca ra t A C 1 ∧ (∃ wa, Below w'.heap.size w' wa ∧ KeepS (fun b => inBlk ca t.2.1.length b ∨ rowBlks t.2.2 A b) wa w'') := by
      intro w' base ca cc ra cr A C h
      have := marktab_laws ca cc ra cr t mc mr HMC.out HMR.out A C base 1 rT HRT.out w' h (by omega) hrT2
      rw [htn] at this
      exact this
    exact this
  have QH : Hid (∀ w' ca cc ra cr A C, MarkedT w' ca ra t A C 1 → mr ≤ maxLen → Calls Try.prog 26 #[.agg #[.string tn, .slice ca mc cc, .slice ra mr cr], .int .i64 1] w' fun e w'' => e = .returned (.int .i64 (rT : Int)) ∧ Below w'.heap.size w' w'') := by
    have : ∀ w' ca cc ra cr A C, MarkedT w' ca ra t A C 1 → mr ≤ maxLen → Calls Try.prog 26 #[.agg #[.string tn, .slice ca mc cc, .slice ra mr cr], .int .i64 1] w' fun e w'' => e = .returned (.int .i64 (rT : Int)) ∧ Below w'.heap.size w' w'' := by
      intro w' ca cc ra cr A C h hl
      have := heldtab_laws ca cc ra cr t mc mr HMC.out HMR.out A C 1 rT HRT.out w' h (by omega) hrT2 hl
      rw [htn] at this
      exact this
    exact this
  clear hI hmN hmc hmr htn hrT hrX hoff hx1 hq
  go_enter Try.func6, Try.ntmps6
  go_wp2_with fail
  refine (sztabs_laws a cap T n HN.out 1048576 _ HT.out hm (by omega) (by omega)).mono ?_
  rw [HX1.out]
  rintro e w1 ⟨rfl, hx⟩
  go_wp2_with fail
  refine (Z.out _ hx).mono ?_
  rintro e w2 ⟨g1, Q1, rfl, O1, hb2⟩
  replace hx := chain hx hb2
  clear hb2
  go_wp2_with fail
  refine (PS.out _ _ O1.lies).mono ?_
  rintro e w3 ⟨caS, ccS, raS, crS, rfl, TS, hb3⟩
  replace hx := chain hx hb3
  have TS3 : Hid (TabAt w3 caS ccS raS t) := TS
  clear hb3 O1 TS PS
  go_wp2_with fail
  obtain ⟨V3, hV3⟩ : ∃ V, V = (w3.alloc (.cells #[.string tn, .slice caS mc ccS, .slice raS mr crS] 31)) := ⟨_, rfl⟩
  rw [← hV3]
  have hA3 : Below w3.heap.size w3 V3 := by rw [hV3]; exact (Below.refl _ _).alloc (Nat.le_refl _) _
  have bW : Hid (Box V3 w3.heap.size (.string tn) (.slice caS mc ccS) (.slice raS mr crS)) := by
    have : Box V3 w3.heap.size (.string tn) (.slice caS mc ccS) (.slice raS mr crS) := by subst hV3; exact box3 (Below.refl _ _)
    exact this
  have TSV : Hid (TabAt V3 caS ccS raS t) := TS3.out.below hA3
  have hxV : Below w.heap.size w V3 := chain hx hA3
  have HXV : Hid (Below w.heap.size w V3) := hxV
  clear hV3 hA3 TS3 hx
  refine (Z.out _ hxV).mono ?_
  rintro e w4 ⟨gX, QX, rfl, OX, hb4⟩
  have HOX4 : Hid (OutTs w4 V3.heap.size (some ⟨gX, 0, none⟩) T QX) := OX
  have hS : Below V3.heap.size V3 w4 := hb4
  have HXlt : Hid (∀ b, tabsBlks (some ⟨gX, 0, none⟩) T QX b → b < w4.heap.size) := HOX4.out.blks_lt
  clear hb4 OX hxV
  go_wp2_with fail
  refine (PI.out _ _ HOX4.out.lies).mono ?_
  rintro e w5 ⟨caG, ccG, raG, crG, AG, CG, rfl, OG, hb5⟩
  have hlenG : mr ≤ maxLen := by rw [← HMR.out]; exact OG.lenR
  have HOG5 : Hid (OutTab w5 w4.heap.size caG ccG raG t AG CG) := OG
  have HOX5 : Hid (OutTs w5 V3.heap.size (some ⟨gX, 0, none⟩) T QX) := HOX4.out.below hb5
  have hblkG : Hid (∀ b, tabBlks caG raG t AG b → w4.heap.size ≤ b ∧ b < w5.heap.size) := by
    have : ∀ b, tabBlks caG raG t AG b → w4.heap.size ≤ b ∧ b < w5.heap.size := fun b hb => ⟨OG.lo b hb, OG.lt b hb⟩
    exact this
  have hS5 : Below V3.heap.size V3 w5 := chain hS hb5
  have h34 : V3.heap.size ≤ w4.heap.size := hS.size
  have h45 : w4.heap.size ≤ w5.heap.size := hb5.size
  clear hb5 OG HOX4 hS
  obtain ⟨s0, s1, s2, s3⟩ := bW.out.below hS5
  go_wp2_with fail
  obtain ⟨V5, hV5⟩ : ∃ V, V = (w5.alloc (.cells #[.string tn, .slice caG mc ccG, .slice raG mr crG] 31)) := ⟨_, rfl⟩
  rw [← hV5]
  have hA5 : Below w5.heap.size w5 V5 := by rw [hV5]; exact (Below.refl _ _).alloc (Nat.le_refl _) _
  have bG : Hid (Box V5 w5.heap.size (.string tn) (.slice caG mc ccG) (.slice raG mr crG)) := by
    have : Box V5 w5.heap.size (.string tn) (.slice caG mc ccG) (.slice raG mr crG) := by subst hV5; exact box3 (Below.refl _ _)
    exact this
  have hSV5 : Below V3.heap.size V3 V5 := chain hS5 hA5
  have HOG5' : Hid (OutTab V5 w4.heap.size caG ccG raG t AG CG) := HOG5.out.below hA5
  have HOX5' : Hid (OutTs V5 V3.heap.size (some ⟨gX, 0, none⟩) T QX) := HOX5.out.below hA5
  clear hV5 hA5 HOG5 HOX5 hS5 s0 s1 s2 s3
  refine (QE.out _ _ _ _ _ _ _ _ _ HOG5'.out.tab (TSV.out.below hSV5)).mono ?_
  rintro e w6 ⟨rfl, hb6⟩
  have bG6 : Hid (Box w6 w5.heap.size (.string tn) (.slice caG mc ccG) (.slice raG mr crG)) := bG.out.below hb6
  have HOG6 : Hid (OutTab w6 w4.heap.size caG ccG raG t AG CG) := HOG5'.out.below hb6
  have HOX6 : Hid (OutTs w6 V3.heap.size (some ⟨gX, 0, none⟩) T QX) := HOX5'.out.below hb6
  have hS6 : Below V3.heap.size V3 w6 := chain hSV5 hb6
  clear hb6 HOG5' HOX5' hSV5 bG
  go_wp2_with fail
  refine (Z.out _ (chain HXV.out hS6)).mono ?_
  rintro e w7 ⟨g7, Q7, rfl, O7, hb7⟩
  have bG7 : Hid (Box w7 w5.heap.size (.string tn) (.slice caG mc ccG) (.slice raG mr crG)) := bG6.out.below hb7
  have HOG7 : Hid (OutTab w7 w4.heap.size caG ccG raG t AG CG) := HOG6.out.below hb7
  have HOX7 : Hid (OutTs w7 V3.heap.size (some ⟨gX, 0, none⟩) T QX) := HOX6.out.below hb7
  have hS7 : Below V3.heap.size V3 w7 := chain hS6 hb7
  clear hb7 HOG6 HOX6 hS6 bG6
  go_wp2_with fail
  refine (eqtabs_laws _ _ _ _ T n HN.out _ HOX7.out.lies O7.lies hm).mono ?_
  rintro e w8 ⟨rfl, hb8⟩
  have bG8 : Hid (Box w8 w5.heap.size (.string tn) (.slice caG mc ccG) (.slice raG mr crG)) := bG7.out.below hb8
  have HOG8 : Hid (OutTab w8 w4.heap.size caG ccG raG t AG CG) := HOG7.out.below hb8
  have HOX8 : Hid (OutTs w8 V3.heap.size (some ⟨gX, 0, none⟩) T QX) := HOX7.out.below hb8
  have hS8 : Below V3.heap.size V3 w8 := chain hS7 hb8
  clear hb8 HOG7 HOX7 O7 hS7 bG7
  go_wp2_with fail
  refine (marktabs_laws _ _ T n HN.out QX V3.heap.size 1 rX HRX.out _ HOX8.out (by omega) hrX1 hm).mono ?_
  rintro e w9 ⟨rfl, _, K9⟩
  have hs8 : V3.heap.size ≤ w8.heap.size := hS8.size
  have HOG9 : Hid (OutTab w9 w4.heap.size caG ccG raG t AG CG) := HOG8.out.keepS K9 (fun b hb hp => by have := hblkG.out b hb; have := HXlt.out b hp; omega)
  have bG9 : Hid (Box w9 w5.heap.size (.string tn) (.slice caG mc ccG) (.slice raG mr crG)) := bG8.out.keepS K9 (fun hp => by have := HXlt.out _ hp; omega)
  have hS9 : Below V3.heap.size V3 w9 := KeepS.belowP hS8 K9 hs8 (fun b hb => HOX8.out.blks_lo b hb)
  clear K9 HOX8 HOG8 hS8 hs8 HXlt bG8
  obtain ⟨s0, s1, s2, s3⟩ := bW.out.below hS9
  obtain ⟨q0, q1, q2, q3⟩ := bG9.out
  go_wp2_with fail
  refine (QE.out _ _ _ _ _ _ _ _ _ HOG9.out.tab (TSV.out.below hS9)).mono ?_
  rintro e w10 ⟨rfl, hb10⟩
  have bG10 : Hid (Box w10 w5.heap.size (.string tn) (.slice caG mc ccG) (.slice raG mr crG)) := bG9.out.below hb10
  have HOG10 : Hid (OutTab w10 w4.heap.size caG ccG raG t AG CG) := HOG9.out.below hb10
  have hS10 : Below V3.heap.size V3 w10 := chain hS9 hb10
  clear hb10 HOG9 hS9 bG9 s0 s1 s2 s3 q0 q1 q2 q3
  obtain ⟨q0, q1, q2, q3⟩ := bG10.out
  go_wp2_with fail
  refine (QM.out _ _ _ _ _ _ _ _ HOG10.out).mono ?_
  rintro e w11 ⟨rfl, M11, wa, hba, K11⟩
  have MG11 : Hid (MarkedT w11 caG raG t AG CG 1) := M11
  have nP : ∀ b, w5.heap.size ≤ b ∨ b < w4.heap.size → ¬ (inBlk caG t.2.1.length b ∨ rowBlks t.2.2 AG b) := by
    rintro b hb (h | h)
    · have := hblkG.out b (.inl h); omega
    · have := hblkG.out b (.inr (.inl h)); omega
  have bG11 : Hid (Box w11 w5.heap.size (.string tn) (.slice caG mc ccG) (.slice raG mr crG)) := (bG10.out.below hba).keepS K11 (nP _ (.inl (Nat.le_refl _)))
  have hS11 : Below V3.heap.size V3 w11 := KeepS.belowP (chain hS10 hba) K11 (by have := hS10.size; have := hba.size; omega) (fun b hb => by
    by_cases h : b < w4.heap.size
    · exact absurd hb (nP b (.inr h))
    · omega)
  clear M11 hba K11 HOG10 hS10 bG10 nP q0 q1 q2 q3
  obtain ⟨q0, q1, q2, q3⟩ := bG11.out
  go_wp2_with fail
  refine (QH.out _ _ _ _ _ _ _ MG11.out hlenG).mono ?_
  rintro e w12 ⟨rfl, hb12⟩
  have MG12 : Hid (MarkedT w12 caG raG t AG CG 1) := MG11.out.below hb12
  have bG12 : Hid (Box w12 w5.heap.size (.string tn) (.slice caG mc ccG) (.slice raG mr crG)) := bG11.out.below hb12
  have hS12 : Below V3.heap.size V3 w12 := chain hS11 hb12
  clear hb12 MG11 hS11 bG11 q0 q1 q2 q3
  go_wp2_with fail
  refine (Z.out _ (chain HXV.out hS12)).mono ?_
  rintro e w13 ⟨g13, Q13, rfl, O13, hb13⟩
  have MG13 : Hid (MarkedT w13 caG raG t AG CG 1) := MG12.out.below hb13
  have bG13 : Hid (Box w13 w5.heap.size (.string tn) (.slice caG mc ccG) (.slice raG mr crG)) := bG12.out.below hb13
  have hS13 : Below V3.heap.size V3 w13 := chain hS12 hb13
  clear hb13 MG12 hS12 bG12
  go_wp2_with fail
  refine (PI.out _ _ O13.lies).mono ?_
  rintro e w14 ⟨caH, ccH, raH, crH, AH, CH, rfl, OH, hb14⟩
  have TH14 : Hid (TabAt w14 caH ccH raH t) := OH.tab
  have MG14 : Hid (MarkedT w14 caG raG t AG CG 1) := MG13.out.below hb14
  have bG14 : Hid (Box w14 w5.heap.size (.string tn) (.slice caG mc ccG) (.slice raG mr crG)) := bG13.out.below hb14
  have hS14 : Below V3.heap.size V3 w14 := chain hS13 hb14
  clear hb14 MG13 hS13 bG13 OH O13
  obtain ⟨s0, s1, s2, s3⟩ := bW.out.below hS14
  go_wp2_with fail
  obtain ⟨V14, hV14⟩ : ∃ V, V = (w14.alloc (.cells #[.string tn, .slice caH mc ccH, .slice raH mr crH] 31)) := ⟨_, rfl⟩
  rw [← hV14]
  have hA14 : Below w14.heap.size w14 V14 := by rw [hV14]; exact (Below.refl _ _).alloc (Nat.le_refl _) _
  clear hV14
  refine (QE.out _ _ _ _ _ _ _ _ _ (TH14.out.below hA14) (TSV.out.below (chain hS14 hA14))).mono ?_
  rintro e w15 ⟨rfl, hb15'⟩
  have hb15 : Below w14.heap.size w14 w15 := chain hA14 hb15'
  have MG15 : Hid (MarkedT w15 caG raG t AG CG 1) := MG14.out.below hb15
  have bG15 : Hid (Box w15 w5.heap.size (.string tn) (.slice caG mc ccG) (.slice raG mr crG)) := bG14.out.below hb15
  have hS15 : Below V3.heap.size V3 w15 := chain hS14 hb15
  clear hb15 hb15' hA14 MG14 hS14 bG14 TH14 s0 s1 s2 s3
  obtain ⟨q0, q1, q2, q3⟩ := bG15.out
  go_wp2_with fail
  refine (QH.out _ _ _ _ _ _ _ MG15.out hlenG).mono ?_
  rintro e w16 ⟨rfl, hb16⟩
  have hx16 := chain HXV.out (chain hS15 hb16)
  clear hb16 MG15 hS15 bG15 q0 q1 q2 q3
  go_wp2
  go_ret
  exact ⟨rfl, hx16⟩

set_option maxRecDepth 100000 in
theorem lifted (os : Os) (started : os.Started) (H : Type) (enc : TypeId × Value → H) :
    ReturnsInHanded {} Try.checked os 6 .any (Rows.fnExactTableInSpec.pre6 enc Try.prog Try.f6 Rows.fnExactTableInRow.domain false) (Rows.fnExactTableInSpec.post enc Try.prog Try.f6 false true false false) := by
  refine returnsInHanded_of_change (C := Try.checked) own started (by kernel_rfl) Try.func6
    (ChangeSpec.witness6 (enc := enc) (C := Try.checked) false ⟨#[], #[.slice none 0 0, .string ⟨#[]⟩], []⟩ 8 (by kernel_rfl) (by kernel_rfl) (by kernel_rfl) (by kernel_rfl)) ?_
  intro W base args ds gs before hval0 hW hcnd _
  have hval : ∀ (j : Nat) t v, Try.f6.params[j]? = some t → args[j]? = some v → Value.okWide Try.prog W .any base t v := hval0
  have hW' := hW
  obtain ⟨p, q, hA0, hV, rfl, hfz, hnd⟩ := hW
  have hA : DataW.TrodAll enc Try.prog W 0 (fun _ => true) true Try.f6.params.toList args.toList ds p := hA0
  rw [Try.params6] at hA hval
  obtain ⟨v0, v1, d0, d1, p0, p1, rfl, rfl, rfl, h0, h1⟩ := trodAll_two hA
  obtain ⟨rfl, rfl⟩ := trodVars_none hV
  have k0 := h0
  have lt0 : ∀ x ∈ p0, x.block < W.heap.size := by obtain ⟨m, hm⟩ := k0; exact DataW.trod_lt m _ _ _ hm
  obtain ⟨a0, n0, c0, rfl⟩ := okWide_slice Try.underlying39 (hval 0 39 v0 rfl rfl)
  obtain ⟨m0, hm0⟩ := h0
  obtain ⟨T0, hl0, hT0, hM0, hC0, hN0⟩ := open_tabs hm0
  have k1 := h1
  have lt1 : ∀ x ∈ p1, x.block < W.heap.size := by obtain ⟨m, hm⟩ := k1; exact DataW.trod_lt m _ _ _ hm
  obtain ⟨s1, rfl, _, _, hs1⟩ := Go.ChangeMaps.open_string Try.underlying9 (hval 1 9 v1 rfl rfl) h1
  clear hA0 hval0
  refine (walk a0 c0 T0 n0 hl0 s1 hs1 W hT0 hM0).mono fun e W' ⟨he, bel⟩ => ?_
  subst he
  exact ⟨_, rfl, _, _, _, [], _, [], hW', trodAll_mk1 (shut_bool Try.underlying4 _), trodAll_mk2 (Below.trod laidOut (by kernel_rfl) (of_decide_eq_true (by kernel_rfl)) k0 bel lt0) (Below.trod laidOut (by kernel_rfl) (of_decide_eq_true (by kernel_rfl)) k1 bel lt1), rfl, bel.frame _, fun h => by cases h⟩

theorem over : Rows.fnExactTableInRow.holds Try.pinned (OpenSpec.ofChange Rows.fnExactTableInSpec) :=
  OpenClaim.holds_of_wide 6 Try.f6 rfl rfl rfl rfl rfl rfl rfl ⟨rfl, rfl, rfl, rfl, rfl⟩ rfl rfl rfl rfl rfl (by kernel_rfl) Try.func6 (by kernel_rfl)
    (of_decide_eq_true (by kernel_rfl)) (by unfold Func.isWrapper; first | (rw [if_pos (by decide +kernel)]; kernel_rfl) | (rw [if_neg (by decide +kernel)]; exact ⟨rfl, rfl⟩))
    (fun os started H enc _ => lifted os started H enc)

end exTableIn

theorem fnExactTableIn_holds : Rows.FnExactTableInSaid := exTableIn.over

end Go.Proofs.Yteamdmcgkpeelak
