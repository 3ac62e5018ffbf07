/-
  Proved: at every list of tables, every name and every list of columns the program's Made answers as its model does; it writes into no argument and keeps nothing of one; its answer owns its memory, behind another call too; the law's arguments read afterwards as before; no condition.
-/
import Derived.Test.YteamdmcgkpeelakGreatPart13
import Derived.Test.YteamdmcgkpeelakGreatPart14
import Derived.Test.YteamdmcgkpeelakGreatPart9
import Derived.Test.YteamdmcgkpeelakGreatPart15
import Derived.Lib.SmallJoins
namespace Go.Proofs.YteamdmcgkpeelakGreat
open Go.ChangeShapes Go.WideShapes Go.ChangeAt Go.RowKit Go.Joins
attribute [local go_sem ↓] Go.wp_at_zero Go.wp_at_succ

theorem StrsFree.below {w w' : World} {a : Option Addr} {l : List ByteArray} (h : StrsAt w a l ∧ FreeS w a l.length) (hb : Below w.heap.size w w') : StrsAt w' a l ∧ FreeS w' a l.length :=
  ⟨h.1.below hb, h.2.keepS h.1 (KeepS.ofBelow (P := fun _ => False) hb) (fun _ _ h => h)⟩
theorem eqstrM (l : List ByteArray) (n : Nat) (hn : l.length = n) (a b : Option Addr) (ca cb : Nat) (w : World) (ha : StrsAt w a l) (hb : StrsAt w b l) (hm : n ≤ maxLen) :
    Calls Tryz.prog 12 #[.slice a n ca, .slice b n cb] w fun e w' => e = .returned (.bool true) ∧ Below w.heap.size w w' := by
  subst hn; exact eqstr_laws a b ca cb l w ha hb hm
theorem leftTs_le {T : List TB} {x : Int} (h : 0 ≤ leftTs T x) : leftTs T x ≤ x := by
  induction T generalizing x with
  | nil => exact Int.le_refl _
  | cons t T ih =>
    unfold leftTs at h ⊢
    split at h
    · omega
    rename_i hn
    rw [if_neg hn]
    have := ih h
    have := leftT_le t x (by omega)
    omega
theorem leftTS_le {T : List TB} {x : Int} (h : 0 ≤ leftTS T x) : leftTS T x ≤ x := by
  unfold leftTS at h ⊢
  split at h
  · omega
  rename_i hn
  rw [if_neg hn]
  have := leftTs_le h
  omega

namespace exMade

theorem own : ownKnob Tryz.prog.godebug = none := by kernel_rfl
theorem laidOut : laidOutB Tryz.prog = true := by kernel_rfl

set_option maxRecDepth 100000 in
set_option maxHeartbeats 8000000 in
theorem walk (a : Option Addr) (cap : Nat) (T : List TB) (n : Nat) (hn : T.length = n) (s : ByteArray) (hs : s.size ≤ maxLen) (ca : Option Addr) (cc : Nat) (C : List ByteArray) (nc : Nat) (hnc : C.length = nc) (w : World) (ht : TabsAt w a T) (hm : n ≤ maxLen) (hC : StrsAt w ca C) (hF : FitS C) (hcM : nc ≤ maxLen) :
    Calls Tryz.prog 3 #[.slice a n cap, .string s, .slice ca nc cc] w fun e w' => e = .returned (.bool true) ∧ Below w.heap.size w w' := by
  have HT : Hid (TabsAt w a T) := ht
  have HN : Hid (T.length = n) := hn
  have HNC : Hid (C.length = nc) := hnc
  have HC : Hid (StrsAt w ca C) := hC
  have HF : Hid (FitS C) := hF
  obtain ⟨x, hx1⟩ : ∃ x, leftTS T 1048576 = x := ⟨_, rfl⟩
  have HX1 : Hid (leftTS T 1048576 = x) := hx1
  have hsM := hs
  unfold maxLen at hsM
  clear ht hn hnc hC hF
  by_cases hbig : (1048576 : Int) < (s.size : Int)
  · clear hx1
    go_enter Tryz.func3, Tryz.ntmps3
    go_wp2
    go_ret
    exact ⟨rfl, Below.refl _ _⟩
  by_cases hx0 : x < 0
  · clear hx1
    go_enter Tryz.func3, Tryz.ntmps3
    go_wp2_with fail
    refine (sztabs_laws a cap T n HN.out 1048576 _ HT.out hm (by omega) (by omega)).mono ?_
    rw [HX1.out]
    rintro e w1 ⟨rfl, hb1⟩
    go_wp2
    go_ret
    exact ⟨rfl, hb1⟩
  have hx0' : 0 ≤ x := by omega
  have hxle : x ≤ 1048576 := by rw [← hx1]; exact leftTS_le (by rw [hx1]; exact hx0')
  have SZ : Hid (∀ w', Below w.heap.size w w' → Calls Tryz.prog 6 #[.slice ca nc cc, .int .i64 x] w' fun e w'' => e = .returned (.int .i64 (leftOfS C x)) ∧ Below w'.heap.size w' w'') := by
    have : ∀ w', Below w.heap.size w w' → Calls Tryz.prog 6 #[.slice ca nc cc, .int .i64 x] w' fun e w'' => e = .returned (.int .i64 (leftOfS C x)) ∧ Below w'.heap.size w' w'' := by
      intro w' hw
      have := szstr_laws ca cc C x w' (HC.out.below hw) HF.out (by rw [HNC.out]; exact hcM) hx0' hxle
      rw [HNC.out] at this
      exact this
    exact this
  obtain ⟨y, hy1⟩ : ∃ y, leftOfS C x = y := ⟨_, rfl⟩
  have HY1 : Hid (leftOfS C x = y) := hy1
  by_cases hy0 : y < 0
  · clear hx1 hy1
    go_enter Tryz.func3, Tryz.ntmps3
    go_wp2_with fail
    refine (sztabs_laws a cap T n HN.out 1048576 _ HT.out hm (by omega) (by omega)).mono ?_
    rw [HX1.out]
    rintro e w1 ⟨rfl, hb1⟩
    go_wp2_with fail
    refine (SZ.out _ hb1).mono ?_
    rw [HY1.out]
    rintro e w1' ⟨rfl, hb1'⟩
    go_wp2
    go_ret
    exact ⟨rfl, chain hb1 hb1'⟩
  have hy0' : 0 ≤ y := by omega
  have hncS : nc ≤ 1048576 := by
    have h := hy1
    unfold leftOfS at h
    rw [HNC.out] at h
    split at h <;> omega
  clear hy1
  have ZS : Hid (∀ w', Below w.heap.size w w' → Calls Tryz.prog 9 #[.slice ca nc cc] w' fun e w'' => ∃ g, e = .returned (.slice (some ⟨g, 0, none⟩) nc nc) ∧ w'.heap.size ≤ g ∧ g < w''.heap.size ∧ StrsAt w'' (some ⟨g, 0, none⟩) C ∧ FreeS w'' (some ⟨g, 0, none⟩) C.length ∧ Below w'.heap.size w' w'') := by
    have : ∀ w', Below w.heap.size w w' → Calls Tryz.prog 9 #[.slice ca nc cc] w' fun e w'' => ∃ g, e = .returned (.slice (some ⟨g, 0, none⟩) nc nc) ∧ w'.heap.size ≤ g ∧ g < w''.heap.size ∧ StrsAt w'' (some ⟨g, 0, none⟩) C ∧ FreeS w'' (some ⟨g, 0, none⟩) C.length ∧ Below w'.heap.size w' w'' := by
      intro w' hw
      have h := tostr_laws ca cc C w' (HC.out.below hw) (by rw [HNC.out]; exact hncS)
      rw [HNC.out] at h
      refine h.mono ?_
      rintro e w'' ⟨rfl, ho, hb⟩
      have ho' := ho
      rw [← HNC.out] at ho
      exact ⟨w'.heap.size, rfl, Nat.le_refl _, (ho'.lt _ rfl).2, own_strs ho, own_freeS ho, hb⟩
    exact this
  have hq := leftTS_fits (T := T) (x := 1048576) (by omega) (by rw [hx1]; exact hx0')
  have hnm : n ≤ 1048576 := by rw [← HN.out]; exact hq.1
  have hoff := offT_leftTS (T := T) (x := 1048576) (by omega) (by rw [hx1]; exact hx0')
  have Z : Hid (∀ w', Below w.heap.size w w' → Calls Tryz.prog 8 #[.slice a n cap] w' fun e w'' => ∃ g Q, e = .returned (.slice (some ⟨g, 0, none⟩) n n) ∧ OutTs w'' w'.heap.size (some ⟨g, 0, none⟩) T Q ∧ Below w'.heap.size w' w'') := by
    have : ∀ w', Below w.heap.size w w' → Calls Tryz.prog 8 #[.slice a n cap] w' fun e w'' => ∃ g Q, e = .returned (.slice (some ⟨g, 0, none⟩) n n) ∧ OutTs w'' w'.heap.size (some ⟨g, 0, none⟩) T Q ∧ Below w'.heap.size w' w'' :=
      fun w' hw => totabs_out a cap T n HN.out w' (HT.out.below hw) hnm hq.2
    exact this
  obtain ⟨V, r, hVr⟩ : ∃ V r, madeR T (s, C, []) = (V, r) := ⟨_, _, rfl⟩
  have HV : Hid (madeR T (s, C, []) = (V, r)) := hVr
  obtain ⟨hgood, hV5⟩ := made_good hVr
  have hoV := offT_small hgood hV5
  obtain ⟨k, hk⟩ : ∃ k, V.length = k := ⟨_, rfl⟩
  have HK : Hid (V.length = k) := hk
  have hkM : k ≤ maxLen := by unfold maxLen; omega
  have HLR : Hid (∀ i (_ : i < V.length), V[i].2.2.length ≤ maxLen) := by
    have : ∀ i (_ : i < V.length), V[i].2.2.length ≤ maxLen := fun i hi => by
      have := (tableB_small (hgood _ (List.getElem_mem hi))).2.1
      unfold maxLen; omega
    exact this
  obtain ⟨rX, hrX⟩ : ∃ rX, 1 + offT T T.length = rX := ⟨_, rfl⟩
  have HRX : Hid (1 + offT T T.length = rX) := hrX
  have hrX1 : rX ≤ 1099511627776 := by omega
  obtain ⟨rXC, hrXC⟩ : ∃ rXC, rX + nc = rXC := ⟨_, rfl⟩
  have HRXC : Hid (rX + nc = rXC) := hrXC
  have hrX0 : ¬ (rXC : Int) < 0 := by omega
  have hrXp : 0 < rX := by omega
  have hrXm : rX + nc ≤ 1099511627776 := by omega
  obtain ⟨rV, hrV⟩ : ∃ rV, 1 + offT V V.length = rV := ⟨_, rfl⟩
  have HRV : Hid (1 + offT V V.length = rV) := hrV
  have hrV1 : rV ≤ 1099511627776 := by omega
  have hrV0 : ¬ (rV : Int) < 0 := by omega
  have hrVV : ((rV : Int) == (rV : Int)) = true := by simp
  have hrr : (r == r) = true := by simp
  clear hVr hgood hV5 hoV hk hrX hrV hoff hx1 hq hrXC
  go_enter Tryz.func3, Tryz.ntmps3
  go_wp2_with fail
  refine (sztabs_laws a cap T n HN.out 1048576 _ HT.out hm (by omega) (by omega)).mono ?_
  rw [HX1.out]
  rintro e w1 ⟨rfl, hx⟩
  go_wp2_with fail
  refine (SZ.out _ hx).mono ?_
  rw [HY1.out]
  rintro e w1b ⟨rfl, hb1b⟩
  replace hx := chain hx hb1b
  clear hb1b
  go_wp2_with fail
  refine (Z.out _ hx).mono ?_
  rintro e w2a ⟨g1, Q1, rfl, O1a, hb2⟩
  replace hx := chain hx hb2
  clear hb2
  go_wp2_with fail
  refine (ZS.out _ hx).mono ?_
  rintro e w2 ⟨gc1, rfl, _, _, S1, _, hb2⟩
  have O1 := O1a.below hb2
  replace hx := chain hx hb2
  clear hb2 O1a
  go_wp2_with fail
  refine (made_spec _ _ T n HN.out s hs _ _ C nc HNC.out _ O1.lies S1 HF.out hncS (fun e => by cases e) hnm V r HV.out).mono ?_
  rintro e w3 ⟨aS, k', cS, hk', rfl, TS, hb3⟩
  obtain rfl : k = k' := HK.out.symm.trans hk'
  have HTS : Hid (TabsAt w3 aS V) := TS
  replace hx := chain hx hb3
  have hws3 : w.heap.size ≤ w3.heap.size := hx.size
  clear hb3 O1 TS hk' S1
  go_wp2_with fail
  refine (Z.out _ hx).mono ?_
  rintro e w4a ⟨gX, QX, rfl, OX, hb4⟩
  have HXlta : Hid (∀ b, tabsBlks (some ⟨gX, 0, none⟩) T QX b → b < w4a.heap.size) := OX.blks_lt
  replace hx := chain hx hb4
  have hSa : Below w3.heap.size w3 w4a := hb4
  clear hb4
  go_wp2_with fail
  refine (ZS.out _ hx).mono ?_
  rintro e w4 ⟨gC, rfl, hgC1, hgC2, SC4, FC4, hb4⟩
  have HOX4 : Hid (OutTs w4 w3.heap.size (some ⟨gX, 0, none⟩) T QX) := OX.below hb4
  have HSC4 : Hid (StrsAt w4 (some ⟨gC, 0, none⟩) C ∧ FreeS w4 (some ⟨gC, 0, none⟩) C.length) := ⟨SC4, FC4⟩
  replace hx := chain hx hb4
  have hS : Below w3.heap.size w3 w4 := chain hSa hb4
  have hs34a : w3.heap.size ≤ w4a.heap.size := hSa.size
  have hs44 : w4a.heap.size ≤ w4.heap.size := hb4.size
  clear hb4 OX SC4 FC4 hSa
  go_wp2_with fail
  refine (made_impl _ _ T n HN.out s hs _ _ C nc HNC.out _ HOX4.out.lies HSC4.out.1 HF.out (by rw [HNC.out]; exact hcM) (by rw [HNC.out]; exact Nat.le_refl _) (fun e => by cases e) hnm V r HV.out).mono ?_
  rintro e w5 ⟨aG, k', cG, QG, hk', rfl, OG, hb5, _⟩
  obtain rfl : k = k' := HK.out.symm.trans hk'
  have HOG5 : Hid (OutTs w5 w4.heap.size aG V QG) := OG
  have HOX5 : Hid (OutTs w5 w3.heap.size (some ⟨gX, 0, none⟩) T QX) := HOX4.out.below hb5
  have HXlt : Hid (∀ b, tabsBlks (some ⟨gX, 0, none⟩) T QX b → b < w4.heap.size) := by
    have : ∀ b, tabsBlks (some ⟨gX, 0, none⟩) T QX b → b < w4.heap.size := fun b hb => by have := HXlta.out b hb; omega
    exact this
  have HSC5 : Hid (StrsAt w5 (some ⟨gC, 0, none⟩) C ∧ FreeS w5 (some ⟨gC, 0, none⟩) C.length) := StrsFree.below HSC4.out hb5
  replace hx := chain hx hb5
  have hS5 : Below w3.heap.size w3 w5 := chain hS hb5
  have hs34 : w3.heap.size ≤ w4.heap.size := hS.size
  clear hb5 OG hk' HOX4 hS HSC4
  go_wp2_with fail
  refine (eqtabs_laws _ _ _ _ V k HK.out _ HOG5.out.lies (HTS.out.below hS5) hkM).mono ?_
  rintro e w6 ⟨rfl, hb6⟩
  have HOG6 : Hid (OutTs w6 w4.heap.size aG V QG) := HOG5.out.below hb6
  have HOX6 : Hid (OutTs w6 w3.heap.size (some ⟨gX, 0, none⟩) T QX) := HOX5.out.below hb6
  have HSC6 : Hid (StrsAt w6 (some ⟨gC, 0, none⟩) C ∧ FreeS w6 (some ⟨gC, 0, none⟩) C.length) := StrsFree.below HSC5.out hb6
  clear HSC5
  replace hx := chain hx hb6
  have hS6 : Below w3.heap.size w3 w6 := chain hS5 hb6
  clear hb6 HOG5 HOX5 hS5
  go_wp2_with fail
  refine (Z.out _ hx).mono ?_
  rintro e w7 ⟨g7, Q7, rfl, O7, hb7⟩
  have HOG7 : Hid (OutTs w7 w4.heap.size aG V QG) := HOG6.out.below hb7
  have HOX7 : Hid (OutTs w7 w3.heap.size (some ⟨gX, 0, none⟩) T QX) := HOX6.out.below hb7
  have HSC7 : Hid (StrsAt w7 (some ⟨gC, 0, none⟩) C ∧ FreeS w7 (some ⟨gC, 0, none⟩) C.length) := StrsFree.below HSC6.out hb7
  clear HSC6
  replace hx := chain hx hb7
  have hS7 : Below w3.heap.size w3 w7 := chain hS6 hb7
  clear hb7 HOG6 HOX6 hS6
  go_wp2_with fail
  refine (eqtabs_laws _ _ _ _ T n HN.out _ HOX7.out.lies O7.lies hm).mono ?_
  rintro e w8 ⟨rfl, hb8⟩
  have HOG8 : Hid (OutTs w8 w4.heap.size aG V QG) := HOG7.out.below hb8
  have HOX8 : Hid (OutTs w8 w3.heap.size (some ⟨gX, 0, none⟩) T QX) := HOX7.out.below hb8
  have HSC8 : Hid (StrsAt w8 (some ⟨gC, 0, none⟩) C ∧ FreeS w8 (some ⟨gC, 0, none⟩) C.length) := StrsFree.below HSC7.out hb8
  clear HSC7
  replace hx := chain hx hb8
  have hS8 : Below w3.heap.size w3 w8 := chain hS7 hb8
  clear hb8 HOG7 HOX7 O7 hS7
  go_wp2_with fail
  refine (ZS.out _ hx).mono ?_
  rintro e w8a ⟨gc8, rfl, _, _, S8, _, hb8a⟩
  have HOG8a : Hid (OutTs w8a w4.heap.size aG V QG) := HOG8.out.below hb8a
  have HOX8a : Hid (OutTs w8a w3.heap.size (some ⟨gX, 0, none⟩) T QX) := HOX8.out.below hb8a
  have HSC8a : Hid (StrsAt w8a (some ⟨gC, 0, none⟩) C ∧ FreeS w8a (some ⟨gC, 0, none⟩) C.length) := StrsFree.below HSC8.out hb8a
  replace hx := chain hx hb8a
  have hS8a : Below w3.heap.size w3 w8a := chain hS8 hb8a
  clear hb8a HOG8 HOX8 hS8 HSC8
  go_wp2_with fail
  refine (eqstrM C nc HNC.out _ _ _ _ _ HSC8a.out.1 S8 hcM).mono ?_
  rintro e w8b ⟨rfl, hb8b⟩
  have HOG8 : Hid (OutTs w8b w4.heap.size aG V QG) := HOG8a.out.below hb8b
  have HOX8 : Hid (OutTs w8b w3.heap.size (some ⟨gX, 0, none⟩) T QX) := HOX8a.out.below hb8b
  have HSC8 : Hid (StrsAt w8b (some ⟨gC, 0, none⟩) C ∧ FreeS w8b (some ⟨gC, 0, none⟩) C.length) := StrsFree.below HSC8a.out hb8b
  replace hx := chain hx hb8b
  have hS8 : Below w3.heap.size w3 w8b := chain hS8a hb8b
  clear hb8b HOG8a HOX8a hS8a HSC8a S8
  go_wp2_with fail
  refine (marktabs_laws _ _ T n HN.out QX w3.heap.size 1 rX HRX.out _ HOX8.out (by omega) hrX1 hm).mono ?_
  rintro e w9 ⟨rfl, _, K9⟩
  have hs8 : w3.heap.size ≤ w8b.heap.size := hS8.size
  have HOG9 : Hid (OutTs w9 w4.heap.size aG V QG) := HOG8.out.keepFar K9 HXlt.out
  have hx9 : Below w.heap.size w w9 := KeepS.belowP hx K9 (by omega) (fun b hb => Nat.le_trans hws3 (HOX8.out.blks_lo b hb))
  have hS9 : Below w3.heap.size w3 w9 := KeepS.belowP hS8 K9 hs8 (fun b hb => HOX8.out.blks_lo b hb)
  have HSC9 : Hid (StrsAt w9 (some ⟨gC, 0, none⟩) C ∧ FreeS w9 (some ⟨gC, 0, none⟩) C.length) := by
    have hP : ∀ b, inBlk (some ⟨gC, 0, none⟩) C.length b → ¬ tabsBlks (some ⟨gX, 0, none⟩) T QX b := by
      rintro b ⟨_, o, e⟩ hb
      cases e
      have := HXlta.out gC hb
      omega
    have : StrsAt w9 (some ⟨gC, 0, none⟩) C ∧ FreeS w9 (some ⟨gC, 0, none⟩) C.length := ⟨HSC8.out.1.keepS K9 hP, HSC8.out.2.keepS HSC8.out.1 K9 hP⟩
    exact this
  clear K9 HOX8 HOG8 hx hS8 hs8 HXlt HSC8 HXlta
  go_wp2_with fail
  refine (markstrI nc _ _ C HNC.out rX rXC _ (by first | rfl | omega) HRXC.out _ HSC9.out.1 HSC9.out.2 (by omega) (by omega)).mono ?_
  rintro e w9b ⟨rfl, _, K9b⟩
  have hPb : ∀ b, inBlk (some ⟨gC, 0, none⟩) nc b → b = gC := by
    rintro b ⟨_, o, e⟩
    cases e; rfl
  have HOG9b : Hid (OutTs w9b w4.heap.size aG V QG) := HOG9.out.keepFar K9b (fun b hb => by have := hPb b hb; omega)
  have hs9 := hx9.size
  have hs9S := hS9.size
  have hx9b : Below w.heap.size w w9b := KeepS.belowP hx9 K9b hs9 (fun b hb => by have := hPb b hb; omega)
  have hS9b : Below w3.heap.size w3 w9b := KeepS.belowP hS9 K9b hs9S (fun b hb => by have := hPb b hb; omega)
  clear K9b hPb HOG9 hx9 hS9 HSC9 hs9 hs9S
  go_wp2_with fail
  refine (eqtabs_laws _ _ _ _ V k HK.out _ HOG9b.out.lies (HTS.out.below hS9b) hkM).mono ?_
  rintro e w10 ⟨rfl, hb10⟩
  have HOG10 : Hid (OutTs w10 w4.heap.size aG V QG) := HOG9b.out.below hb10
  have hx10 := chain hx9b hb10
  have hS10 : Below w3.heap.size w3 w10 := chain hS9b hb10
  clear hb10 HOG9b hx9b hS9b
  go_wp2_with fail
  refine (marktabs_laws _ _ V k HK.out QG w4.heap.size 1 rV HRV.out _ HOG10.out (by omega) hrV1 hkM).mono ?_
  rintro e w11 ⟨rfl, M11, K11⟩
  have HM11 : Hid (MTs w11 w4.heap.size aG V QG 1 V.length) := M11
  have hs10 : w3.heap.size ≤ w10.heap.size := hS10.size
  have hx11 : Below w.heap.size w w11 := KeepS.belowP hx10 K11 (by omega) (fun b hb => by have := HOG10.out.blks_lo b hb; omega)
  have hS11 : Below w3.heap.size w3 w11 := KeepS.belowP hS10 K11 hs10 (fun b hb => by have := HOG10.out.blks_lo b hb; omega)
  clear K11 M11 HOG10 hx10 hS10 hs10
  go_wp2_with fail
  refine (heldtabs_laws _ _ V k HK.out QG w4.heap.size 1 rV HRV.out _ HM11.out HLR.out (by omega) hrV1 hkM).mono ?_
  rintro e w12 ⟨rfl, hb12⟩
  have HM12 : Hid (MTs w12 w4.heap.size aG V QG 1 V.length) := HM11.out.below hb12
  have hx12 := chain hx11 hb12
  have hS12 : Below w3.heap.size w3 w12 := chain hS11 hb12
  clear hb12 HM11 hx11 hS11
  go_wp2_with fail
  refine (Z.out _ hx12).mono ?_
  rintro e w13a ⟨g13, Q13, rfl, O13a, hb13⟩
  have HM13a : Hid (MTs w13a w4.heap.size aG V QG 1 V.length) := HM12.out.below hb13
  have hx13a := chain hx12 hb13
  have hS13a : Below w3.heap.size w3 w13a := chain hS12 hb13
  clear hb13 HM12 hx12 hS12
  go_wp2_with fail
  refine (ZS.out _ hx13a).mono ?_
  rintro e w13 ⟨gc13, rfl, _, _, S13, _, hb13⟩
  have O13 := O13a.below hb13
  have HM13 : Hid (MTs w13 w4.heap.size aG V QG 1 V.length) := HM13a.out.below hb13
  have hx13 := chain hx13a hb13
  have hS13 : Below w3.heap.size w3 w13 := chain hS13a hb13
  clear hb13 HM13a hx13a hS13a O13a
  go_wp2_with fail
  refine (made_impl _ _ T n HN.out s hs _ _ C nc HNC.out _ O13.lies S13 HF.out (by rw [HNC.out]; exact hcM) (by rw [HNC.out]; exact Nat.le_refl _) (fun e => by cases e) hnm V r HV.out).mono ?_
  rintro e w14 ⟨aH, k', cH, QH, hk', rfl, OH, hb14, _⟩
  obtain rfl : k = k' := HK.out.symm.trans hk'
  have HOH : Hid (TabsAt w14 aH V) := OH.lies
  have HM14 : Hid (MTs w14 w4.heap.size aG V QG 1 V.length) := HM13.out.below hb14
  have hx14 := chain hx13 hb14
  have hS14 : Below w3.heap.size w3 w14 := chain hS13 hb14
  clear hb14 HM13 hx13 hS13 OH O13 hk' S13
  go_wp2_with fail
  refine (eqtabs_laws _ _ _ _ V k HK.out _ HOH.out (HTS.out.below hS14) hkM).mono ?_
  rintro e w15 ⟨rfl, hb15⟩
  have HM15 : Hid (MTs w15 w4.heap.size aG V QG 1 V.length) := HM14.out.below hb15
  have hx15 := chain hx14 hb15
  clear hb15 HM14 hx14 hS14 HOH
  go_wp2_with fail
  refine (heldtabs_laws _ _ V k HK.out QG w4.heap.size 1 rV HRV.out _ HM15.out HLR.out (by omega) hrV1 hkM).mono ?_
  rintro e w16 ⟨rfl, hb16⟩
  have hx16 := chain hx15 hb16
  clear hb16 HM15 hx15
  go_wp2
  go_ret
  exact ⟨rfl, hx16⟩

set_option maxRecDepth 100000 in
theorem lifted (os : Os) (started : os.Started) (H : Type) (enc : TypeId × Value → H) :
    ReturnsInHanded {} Tryz.checked os 3 .any (Rows.fnExactMadeSpec.pre6 enc Tryz.prog Tryz.f3 Rows.fnExactMadeRow.domain false) (Rows.fnExactMadeSpec.post enc Tryz.prog Tryz.f3 false true false false) := by
  refine returnsInHanded_of_change (C := Tryz.checked) own started (by kernel_rfl) Tryz.func3
    (ChangeSpec.witness6 (enc := enc) (C := Tryz.checked) false ⟨#[], #[.slice none 0 0, .string ⟨#[]⟩, .slice none 0 0], []⟩ 8 (by kernel_rfl) (by kernel_rfl) (by kernel_rfl) (by kernel_rfl)) ?_
  intro W base args ds gs before hval0 hW hcnd _
  have hval : ∀ (j : Nat) t v, Tryz.f3.params[j]? = some t → args[j]? = some v → Value.okWide Tryz.prog W .any base t v := hval0
  have hW' := hW
  obtain ⟨p, q, hA0, hV, rfl, hfz, hnd⟩ := hW
  have hA : DataW.TrodAll enc Tryz.prog W 0 (fun _ => true) true Tryz.f3.params.toList args.toList ds p := hA0
  rw [Tryz.params3] at hA hval
  obtain ⟨v0, v1, v2, d0, d1, d2, p0, p1, p2, rfl, rfl, rfl, h0, h1, h2⟩ := trodAll_three hA
  obtain ⟨rfl, rfl⟩ := trodVars_none hV
  have k0 := h0
  have lt0 : ∀ x ∈ p0, x.block < W.heap.size := by obtain ⟨m, hm⟩ := k0; exact DataW.trod_lt m _ _ _ hm
  obtain ⟨a0, n0, c0, rfl⟩ := okWide_slice Tryz.underlying22 (hval 0 22 v0 rfl rfl)
  obtain ⟨m0, hm0⟩ := h0
  obtain ⟨T0, hl0, hT0, hM0, hC0, hN0⟩ := open_tabs hm0
  have k1 := h1
  have lt1 : ∀ x ∈ p1, x.block < W.heap.size := by obtain ⟨m, hm⟩ := k1; exact DataW.trod_lt m _ _ _ hm
  obtain ⟨s1, rfl, _, _, hs1⟩ := Go.ChangeMaps.open_string Tryz.underlying9 (hval 1 9 v1 rfl rfl) h1
  have k2 := h2
  have lt2 : ∀ x ∈ p2, x.block < W.heap.size := by obtain ⟨m, hm⟩ := k2; exact DataW.trod_lt m _ _ _ hm
  obtain ⟨a2, n2, c2, rfl⟩ := okWide_slice Tryz.underlying23 (hval 2 23 v2 rfl rfl)
  obtain ⟨m2, hm2⟩ := h2
  obtain ⟨l2, hl2, hS2, hF2, hM2, hC2, hN2⟩ := open_strs Tryz.underlying23 Tryz.underlying9 (by kernel_rfl) hm2
  clear hA0 hval0
  refine (walk a0 c0 T0 n0 hl0 s1 hs1 a2 c2 l2 n2 hl2 W hT0 hM0 hS2 hF2 hM2).mono fun e W' ⟨he, bel⟩ => ?_
  subst he
  exact ⟨_, rfl, _, _, _, [], _, [], hW', trodAll_mk1 (shut_bool Tryz.underlying4 _), trodAll_mk3 (Below.trod laidOut (by kernel_rfl) (of_decide_eq_true (by kernel_rfl)) k0 bel lt0) (Below.trod laidOut (by kernel_rfl) (of_decide_eq_true (by kernel_rfl)) k1 bel lt1) (Below.trod laidOut (by kernel_rfl) (of_decide_eq_true (by kernel_rfl)) k2 bel lt2), rfl, bel.frame _, fun h => by cases h⟩

theorem over : Rows.fnExactMadeRow.holds Tryz.pinned (OpenSpec.ofChange Rows.fnExactMadeSpec) :=
  OpenClaim.holds_of_wide 3 Tryz.f3 rfl rfl rfl rfl rfl rfl rfl ⟨rfl, rfl, rfl, rfl, rfl⟩ rfl rfl rfl rfl rfl (by kernel_rfl) Tryz.func3 (by kernel_rfl)
    (of_decide_eq_true (by kernel_rfl)) (by unfold Func.isWrapper; first | (rw [if_pos (by decide +kernel)]; kernel_rfl) | (rw [if_neg (by decide +kernel)]; exact ⟨rfl, rfl⟩))
    (fun os started H enc _ => lifted os started H enc)

end exMade

theorem fnExactMade_holds : Rows.FnExactMadeSaid := exMade.over

end Go.Proofs.YteamdmcgkpeelakGreat
