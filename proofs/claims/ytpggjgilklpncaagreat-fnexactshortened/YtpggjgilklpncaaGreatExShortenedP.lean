/-
  Proved: at every list of tables, every name and every number the program's Shortened answers as its model does; it writes into no argument and keeps nothing of one; its answer owns its memory, behind another call too; the law's arguments read afterwards as before; no condition.
-/
import Derived.Test.YtpggjgilklpncaaGreatRows
import Derived.Test.YtpggjgilklpncaaGreatPart19
import Derived.Test.YtpggjgilklpncaaGreatPart20
import Derived.Test.YtpggjgilklpncaaGreatPart21
import Derived.Test.YtpggjgilklpncaaGreatPart22
import Derived.Lib.SmallJoins
namespace Go.Proofs.YtpggjgilklpncaaGreat
open Go.ChangeShapes Go.WideShapes Go.ChangeAt Go.RowKit Go.Joins
attribute [local go_sem ↓] Go.wp_at_zero Go.wp_at_succ

theorem short_specV (a : Option Addr) (cap : Nat) (T : List TB) (n : Nat) (hn : T.length = n) (s : ByteArray) (m : Int) (w : World) (hrow : TabsAt w a T) (hm : n ≤ 1048576) (V : List TB) (hV : shortR T s m = V) :
    Calls Tryz.prog 5 #[.slice a n cap, .string s, .int .i64 m] w (ShortAt w V) := by
  rw [← hV]
  exact short_spec a cap T n hn s m w hrow hm
theorem short_implV (a : Option Addr) (cap : Nat) (T : List TB) (n : Nat) (hn : T.length = n) (s : ByteArray) (m : Int) (w : World) (hrow : TabsAt w a T) (hm : n ≤ 1048576) (hsm : ∀ t, t ∈ T → Small t) (hsz : s.size ≤ maxLen) (V : List TB) (hV : shortR T s m = V) :
    Calls Tryz.prog 7 #[.slice a n cap, .string s, .int .i64 m] w (ShortOut w V) := by
  rw [← hV]
  exact short_impl a cap T n hn s m w hrow hm hsm hsz
namespace exShortened

theorem own : ownKnob Tryz.prog.godebug = none := by kernel_rfl
theorem laidOut : laidOutB Tryz.prog = true := by kernel_rfl

set_option maxRecDepth 100000 in
set_option maxHeartbeats 8000000 in
theorem walk (a : Option Addr) (cap : Nat) (T : List TB) (n : Nat) (hn : T.length = n) (s : ByteArray) (hs : s.size ≤ maxLen) (m : Int) (w : World) (ht : TabsAt w a T) (hm : n ≤ maxLen) :
    Calls Tryz.prog 3 #[.slice a n cap, .string s, .int .i64 m] w fun e w' => e = .returned (.bool true) ∧ Below w.heap.size w w' := by
  have HT : Hid (TabsAt w a T) := ht
  have HN : Hid (T.length = n) := hn
  obtain ⟨x, hx1⟩ : ∃ x, leftTS T 1048576 = x := ⟨_, rfl⟩
  have HX1 : Hid (leftTS T 1048576 = x) := hx1
  have hsM := hs
  unfold maxLen at hsM
  clear ht hn
  by_cases hbig : (1048576 : Int) < (s.size : Int)
  · clear hx1
    go_enter Tryz.func3, Tryz.ntmps3
    go_wp2
    go_ret
    exact ⟨rfl, Below.refl _ _⟩
  by_cases hx0 : x < 0
  · clear hx1
    go_enter Tryz.func3, Tryz.ntmps3
    go_wp2_with fail
    refine (sztabs_laws a cap T n HN.out 1048576 _ HT.out hm (by omega) (by omega)).mono ?_
    rw [HX1.out]
    rintro e w1 ⟨rfl, hb1⟩
    go_wp2
    go_ret
    exact ⟨rfl, hb1⟩
  have hx0' : 0 ≤ x := by omega
  have hq := leftTS_fits (T := T) (x := 1048576) (by omega) (by rw [hx1]; exact hx0')
  have hnm : n ≤ 1048576 := by rw [← HN.out]; exact hq.1
  have hoff := offT_leftTS (T := T) (x := 1048576) (by omega) (by rw [hx1]; exact hx0')
  have HSM : Hid (∀ t, t ∈ T → Small t) := by
    have h : ∀ t, t ∈ T → Small t := fun t ht => by
      obtain ⟨i, hi, rfl⟩ := List.getElem_of_mem ht
      exact hq.2 i hi
    exact h
  have Z : Hid (∀ w', Below w.heap.size w w' → Calls Tryz.prog 6 #[.slice a n cap] w' fun e w'' => ∃ g Q, e = .returned (.slice (some ⟨g, 0, none⟩) n n) ∧ OutTs w'' w'.heap.size (some ⟨g, 0, none⟩) T Q ∧ Below w'.heap.size w' w'') := by
    have : ∀ w', Below w.heap.size w w' → Calls Tryz.prog 6 #[.slice a n cap] w' fun e w'' => ∃ g Q, e = .returned (.slice (some ⟨g, 0, none⟩) n n) ∧ OutTs w'' w'.heap.size (some ⟨g, 0, none⟩) T Q ∧ Below w'.heap.size w' w'' :=
      fun w' hw => totabs_out a cap T n HN.out w' (HT.out.below hw) hnm hq.2
    exact this
  obtain ⟨V, hVr⟩ : ∃ V, shortR T s m = V := ⟨_, rfl⟩
  have HV : Hid (shortR T s m = V) := hVr
  obtain ⟨hgood, hV5⟩ := short_good (T := T) (s := s) (m := m)
  rw [hVr] at hgood hV5
  have hoV := offT_small hgood hV5
  obtain ⟨k, hk⟩ : ∃ k, V.length = k := ⟨_, rfl⟩
  have HK : Hid (V.length = k) := hk
  have hkM : k ≤ maxLen := by unfold maxLen; omega
  have HLR : Hid (∀ i (_ : i < V.length), V[i].2.2.length ≤ maxLen) := by
    have : ∀ i (_ : i < V.length), V[i].2.2.length ≤ maxLen := fun i hi => by
      have := (tableB_small (hgood _ (List.getElem_mem hi))).2.1
      unfold maxLen; omega
    exact this
  obtain ⟨rX, hrX⟩ : ∃ rX, 1 + offT T T.length = rX := ⟨_, rfl⟩
  have HRX : Hid (1 + offT T T.length = rX) := hrX
  have hrX1 : rX ≤ 1099511627776 := by omega
  have hrX0 : ¬ (rX : Int) < 0 := by omega
  obtain ⟨rV, hrV⟩ : ∃ rV, 1 + offT V V.length = rV := ⟨_, rfl⟩
  have HRV : Hid (1 + offT V V.length = rV) := hrV
  have hrV1 : rV ≤ 1099511627776 := by omega
  have hrV0 : ¬ (rV : Int) < 0 := by omega
  have hrVV : ((rV : Int) == (rV : Int)) = true := by simp
  clear hVr hgood hV5 hoV hk hrX hrV hoff hx1 hq
  go_enter Tryz.func3, Tryz.ntmps3
  go_wp2_with fail
  refine (sztabs_laws a cap T n HN.out 1048576 _ HT.out hm (by omega) (by omega)).mono ?_
  rw [HX1.out]
  rintro e w1 ⟨rfl, hx⟩
  go_wp2_with fail
  refine (Z.out _ hx).mono ?_
  rintro e w2 ⟨g1, Q1, rfl, O1, hb2⟩
  replace hx := chain hx hb2
  clear hb2
  go_wp2_with fail
  refine (short_specV _ _ T n HN.out s m _ O1.lies hnm V HV.out).mono ?_
  rintro e w3 ⟨aS, k', cS, hk', rfl, TS, hb3⟩
  obtain rfl : k = k' := HK.out.symm.trans hk'
  have HTS : Hid (TabsAt w3 aS V) := TS
  replace hx := chain hx hb3
  have hws3 : w.heap.size ≤ w3.heap.size := hx.size
  clear hb3 O1 TS hk'
  go_wp2_with fail
  refine (Z.out _ hx).mono ?_
  rintro e w4 ⟨gX, QX, rfl, OX, hb4⟩
  have HOX4 : Hid (OutTs w4 w3.heap.size (some ⟨gX, 0, none⟩) T QX) := OX
  replace hx := chain hx hb4
  have hS : Below w3.heap.size w3 w4 := hb4
  clear hb4 OX
  go_wp2_with fail
  refine (short_implV _ _ T n HN.out s m _ HOX4.out.lies hnm HSM.out hs V HV.out).mono ?_
  rintro e w5 ⟨aG, k', cG, QG, hk', rfl, OG, hb5, _⟩
  obtain rfl : k = k' := HK.out.symm.trans hk'
  have HOG5 : Hid (OutTs w5 w4.heap.size aG V QG) := OG
  have HOX5 : Hid (OutTs w5 w3.heap.size (some ⟨gX, 0, none⟩) T QX) := HOX4.out.below hb5
  have HXlt : Hid (∀ b, tabsBlks (some ⟨gX, 0, none⟩) T QX b → b < w4.heap.size) := HOX4.out.blks_lt
  replace hx := chain hx hb5
  have hS5 : Below w3.heap.size w3 w5 := chain hS hb5
  have hs34 : w3.heap.size ≤ w4.heap.size := hS.size
  clear hb5 OG hk' HOX4 hS
  go_wp2_with fail
  refine (eqtabs_laws _ _ _ _ V k HK.out _ HOG5.out.lies (HTS.out.below hS5) hkM).mono ?_
  rintro e w6 ⟨rfl, hb6⟩
  have HOG6 : Hid (OutTs w6 w4.heap.size aG V QG) := HOG5.out.below hb6
  have HOX6 : Hid (OutTs w6 w3.heap.size (some ⟨gX, 0, none⟩) T QX) := HOX5.out.below hb6
  replace hx := chain hx hb6
  have hS6 : Below w3.heap.size w3 w6 := chain hS5 hb6
  clear hb6 HOG5 HOX5 hS5
  go_wp2_with fail
  refine (Z.out _ hx).mono ?_
  rintro e w7 ⟨g7, Q7, rfl, O7, hb7⟩
  have HOG7 : Hid (OutTs w7 w4.heap.size aG V QG) := HOG6.out.below hb7
  have HOX7 : Hid (OutTs w7 w3.heap.size (some ⟨gX, 0, none⟩) T QX) := HOX6.out.below hb7
  replace hx := chain hx hb7
  have hS7 : Below w3.heap.size w3 w7 := chain hS6 hb7
  clear hb7 HOG6 HOX6 hS6
  go_wp2_with fail
  refine (eqtabs_laws _ _ _ _ T n HN.out _ HOX7.out.lies O7.lies hm).mono ?_
  rintro e w8 ⟨rfl, hb8⟩
  have HOG8 : Hid (OutTs w8 w4.heap.size aG V QG) := HOG7.out.below hb8
  have HOX8 : Hid (OutTs w8 w3.heap.size (some ⟨gX, 0, none⟩) T QX) := HOX7.out.below hb8
  replace hx := chain hx hb8
  have hS8 : Below w3.heap.size w3 w8 := chain hS7 hb8
  clear hb8 HOG7 HOX7 O7 hS7
  go_wp2_with fail
  refine (marktabs_laws _ _ T n HN.out QX w3.heap.size 1 rX HRX.out _ HOX8.out (by omega) hrX1 hm).mono ?_
  rintro e w9 ⟨rfl, _, K9⟩
  have hs8 : w3.heap.size ≤ w8.heap.size := hS8.size
  have HOG9 : Hid (OutTs w9 w4.heap.size aG V QG) := HOG8.out.keepFar K9 HXlt.out
  have hx9 : Below w.heap.size w w9 := KeepS.belowP hx K9 (by omega) (fun b hb => Nat.le_trans hws3 (HOX8.out.blks_lo b hb))
  have hS9 : Below w3.heap.size w3 w9 := KeepS.belowP hS8 K9 hs8 (fun b hb => HOX8.out.blks_lo b hb)
  clear K9 HOX8 HOG8 hx hS8 hs8 HXlt
  go_wp2_with fail
  refine (eqtabs_laws _ _ _ _ V k HK.out _ HOG9.out.lies (HTS.out.below hS9) hkM).mono ?_
  rintro e w10 ⟨rfl, hb10⟩
  have HOG10 : Hid (OutTs w10 w4.heap.size aG V QG) := HOG9.out.below hb10
  have hx10 := chain hx9 hb10
  have hS10 : Below w3.heap.size w3 w10 := chain hS9 hb10
  clear hb10 HOG9 hx9 hS9
  go_wp2_with fail
  refine (marktabs_laws _ _ V k HK.out QG w4.heap.size 1 rV HRV.out _ HOG10.out (by omega) hrV1 hkM).mono ?_
  rintro e w11 ⟨rfl, M11, K11⟩
  have HM11 : Hid (MTs w11 w4.heap.size aG V QG 1 V.length) := M11
  have hs10 : w3.heap.size ≤ w10.heap.size := hS10.size
  have hx11 : Below w.heap.size w w11 := KeepS.belowP hx10 K11 (by omega) (fun b hb => by have := HOG10.out.blks_lo b hb; omega)
  have hS11 : Below w3.heap.size w3 w11 := KeepS.belowP hS10 K11 hs10 (fun b hb => by have := HOG10.out.blks_lo b hb; omega)
  clear K11 M11 HOG10 hx10 hS10 hs10
  go_wp2_with fail
  refine (heldtabs_laws _ _ V k HK.out QG w4.heap.size 1 rV HRV.out _ HM11.out HLR.out (by omega) hrV1 hkM).mono ?_
  rintro e w12 ⟨rfl, hb12⟩
  have HM12 : Hid (MTs w12 w4.heap.size aG V QG 1 V.length) := HM11.out.below hb12
  have hx12 := chain hx11 hb12
  have hS12 : Below w3.heap.size w3 w12 := chain hS11 hb12
  clear hb12 HM11 hx11 hS11
  go_wp2_with fail
  refine (Z.out _ hx12).mono ?_
  rintro e w13 ⟨g13, Q13, rfl, O13, hb13⟩
  have HM13 : Hid (MTs w13 w4.heap.size aG V QG 1 V.length) := HM12.out.below hb13
  have hx13 := chain hx12 hb13
  have hS13 : Below w3.heap.size w3 w13 := chain hS12 hb13
  clear hb13 HM12 hx12 hS12
  go_wp2_with fail
  refine (short_implV _ _ T n HN.out s m _ O13.lies hnm HSM.out hs V HV.out).mono ?_
  rintro e w14 ⟨aH, k', cH, QH, hk', rfl, OH, hb14, _⟩
  obtain rfl : k = k' := HK.out.symm.trans hk'
  have HOH : Hid (TabsAt w14 aH V) := OH.lies
  have HM14 : Hid (MTs w14 w4.heap.size aG V QG 1 V.length) := HM13.out.below hb14
  have hx14 := chain hx13 hb14
  have hS14 : Below w3.heap.size w3 w14 := chain hS13 hb14
  clear hb14 HM13 hx13 hS13 OH O13 hk'
  go_wp2_with fail
  refine (eqtabs_laws _ _ _ _ V k HK.out _ HOH.out (HTS.out.below hS14) hkM).mono ?_
  rintro e w15 ⟨rfl, hb15⟩
  have HM15 : Hid (MTs w15 w4.heap.size aG V QG 1 V.length) := HM14.out.below hb15
  have hx15 := chain hx14 hb15
  clear hb15 HM14 hx14 hS14 HOH
  go_wp2_with fail
  refine (heldtabs_laws _ _ V k HK.out QG w4.heap.size 1 rV HRV.out _ HM15.out HLR.out (by omega) hrV1 hkM).mono ?_
  rintro e w16 ⟨rfl, hb16⟩
  have hx16 := chain hx15 hb16
  clear hb16 HM15 hx15
  go_wp2
  go_ret
  exact ⟨rfl, hx16⟩

set_option maxRecDepth 100000 in
theorem lifted (os : Os) (started : os.Started) (H : Type) (enc : TypeId × Value → H) :
    ReturnsInHanded {} Tryz.checked os 3 .any (Rows.fnExactShortenedSpec.pre6 enc Tryz.prog Tryz.f3 Rows.fnExactShortenedRow.domain false) (Rows.fnExactShortenedSpec.post enc Tryz.prog Tryz.f3 false true false false) := by
  refine returnsInHanded_of_change (C := Tryz.checked) own started (by kernel_rfl) Tryz.func3
    (ChangeSpec.witness6 (enc := enc) (C := Tryz.checked) false ⟨#[], #[.slice none 0 0, .string ⟨#[]⟩, .int .i64 0], []⟩ 8 (by kernel_rfl) (by kernel_rfl) (by kernel_rfl) (by kernel_rfl)) ?_
  intro W base args ds gs before hval0 hW hcnd _
  have hval : ∀ (j : Nat) t v, Tryz.f3.params[j]? = some t → args[j]? = some v → Value.okWide Tryz.prog W .any base t v := hval0
  have hW' := hW
  obtain ⟨p, q, hA0, hV, rfl, hfz, hnd⟩ := hW
  have hA : DataW.TrodAll enc Tryz.prog W 0 (fun _ => true) true Tryz.f3.params.toList args.toList ds p := hA0
  rw [Tryz.params3] at hA hval
  obtain ⟨v0, v1, v2, d0, d1, d2, p0, p1, p2, rfl, rfl, rfl, h0, h1, h2⟩ := trodAll_three hA
  obtain ⟨rfl, rfl⟩ := trodVars_none hV
  have k0 := h0
  have lt0 : ∀ x ∈ p0, x.block < W.heap.size := by obtain ⟨m, hm⟩ := k0; exact DataW.trod_lt m _ _ _ hm
  obtain ⟨a0, n0, c0, rfl⟩ := okWide_slice Tryz.underlying22 (hval 0 22 v0 rfl rfl)
  obtain ⟨m0, hm0⟩ := h0
  obtain ⟨T0, hl0, hT0, hM0, hC0, hN0⟩ := open_tabs hm0
  have k1 := h1
  have lt1 : ∀ x ∈ p1, x.block < W.heap.size := by obtain ⟨m, hm⟩ := k1; exact DataW.trod_lt m _ _ _ hm
  obtain ⟨s1, rfl, _, _, hs1⟩ := Go.ChangeMaps.open_string Tryz.underlying9 (hval 1 9 v1 rfl rfl) h1
  have k2 := h2
  have lt2 : ∀ x ∈ p2, x.block < W.heap.size := by obtain ⟨m, hm⟩ := k2; exact DataW.trod_lt m _ _ _ hm
  obtain ⟨z2, rfl⟩ := okWide_int Tryz.underlying2 (hval 2 2 v2 rfl rfl)
  clear hA0 hval0
  refine (walk a0 c0 T0 n0 hl0 s1 hs1 z2 W hT0 hM0).mono fun e W' ⟨he, bel⟩ => ?_
  subst he
  exact ⟨_, rfl, _, _, _, [], _, [], hW', trodAll_mk1 (shut_bool Tryz.underlying4 _), trodAll_mk3 (Below.trod laidOut (by kernel_rfl) (of_decide_eq_true (by kernel_rfl)) k0 bel lt0) (Below.trod laidOut (by kernel_rfl) (of_decide_eq_true (by kernel_rfl)) k1 bel lt1) (Below.trod laidOut (by kernel_rfl) (of_decide_eq_true (by kernel_rfl)) k2 bel lt2), rfl, bel.frame _, fun h => by cases h⟩

theorem fact0 {a b : Bool} (h : a = true) (h2 : b = true) : (a && b) = true := by rw [h, h2]; rfl
theorem fact1 : (Rows.fnExactShortenedRow.wf (OpenSpec.ofChange Rows.fnExactShortenedSpec)) = true := by kernel_rfl
theorem fact2 : (laidOutB Tryz.prog) = true := by kernel_rfl
theorem fact3 : (mapsRowed Tryz.prog) = true := by kernel_rfl
theorem fact4 : (Tryz.f3.params.all (Tryz.prog.readableRec ·)) = true := by kernel_rfl
theorem fact5 : (namedTie Tryz.prog Rows.fnExactShortenedRow.named Rows.fnExactShortenedSpec.vars) = true := by kernel_rfl
theorem fact6 : ((Rows.fnExactShortenedRow.stops == [])) = true := by kernel_rfl
theorem fact7 : ((Tryz.prog.stops == [])) = true := by kernel_rfl
theorem fact8 : ((Rows.fnExactShortenedRow.knobs == [])) = true := by kernel_rfl
theorem fact9 : ((Tryz.prog.stopKnobs == [])) = true := by kernel_rfl
theorem fact10 : ((Rows.fnExactShortenedRow.inPlace == Tryz.prog.inPlace 3)) = true := by kernel_rfl
theorem fact11 : ((Rows.fnExactShortenedRow.unfollowed == Tryz.prog.unfollowed 3)) = true := by kernel_rfl
theorem fact12 : ((Rows.fnExactShortenedRow.recurses == Tryz.prog.recurses 3)) = true := by kernel_rfl
theorem fact13 : ((Rows.fnExactShortenedRow.named == Tryz.prog.varsNamed 3)) = true := by kernel_rfl
theorem fact14 : ((Rows.fnExactShortenedRow.maps == (Tryz.f3.params.toList ++ Rows.fnExactShortenedSpec.plain.varTypes Tryz.prog).any (Tryz.prog.mapsRec ·))) = true := by kernel_rfl
theorem fact15 : ((Rows.fnExactShortenedRow.ifaces == (Tryz.f3.params.toList ++ Rows.fnExactShortenedSpec.plain.varTypes Tryz.prog).any (Tryz.prog.ifacesRec ·))) = true := by kernel_rfl
theorem fact16 : ((Rows.fnExactShortenedRow.mapsOut == Tryz.prog.mapsAmong Tryz.f3.resultTypes.toList)) = true := by kernel_rfl
theorem fact17 : ((Rows.fnExactShortenedRow.loops == (Tryz.f3.params.toList ++ Rows.fnExactShortenedSpec.plain.varTypes Tryz.prog).any (Tryz.prog.loopsFrom ·))) = true := by kernel_rfl
theorem fact18 : ((Rows.fnExactShortenedRow.wideKeys == (Tryz.f3.params.toList ++ Rows.fnExactShortenedSpec.plain.varTypes Tryz.prog ++ Tryz.f3.resultTypes.toList).any (Tryz.prog.wideKeysFrom ·))) = true := by kernel_rfl
theorem fact19 : (Rows.fnExactShortenedSpec.vars.all (Tryz.prog.varReadable ·)) = true := by kernel_rfl
theorem fact20 : (Tryz.f3.resultTypes.all (fun t => Tryz.prog.readableRec t && decide (t < Tryz.prog.types.size))) = true := by kernel_rfl
theorem fact21 : ((Rows.fnExactShortenedRow.ifacesOut == Tryz.f3.resultTypes.toList.any (Tryz.prog.ifacesRec ·))) = true := by kernel_rfl
theorem fact22 : ((Rows.fnExactShortenedRow.loopsOut == Tryz.f3.resultTypes.toList.any (Tryz.prog.loopsFrom ·))) = true := by kernel_rfl
theorem fact23 : ((Rows.fnExactShortenedRow.plainKeys == Tryz.prog.plainKeys)) = true := by kernel_rfl
theorem fact24 : (Rows.fnExactShortenedRow.shortTexts.isNone) = true := by kernel_rfl
theorem fact25 : (Tryz.prog.stopsHeard) = true := by kernel_rfl
theorem fact26 : (Tryz.prog.mayEnter) = true := by kernel_rfl
theorem fact27 : ((Rows.fnExactShortenedRow.lifted == Tryz.prog.liftsFinal)) = true := by kernel_rfl
theorem fact28 : ((Tryz.prog.make == some Rows.fnExactShortenedRow.make)) = true := by kernel_rfl
theorem fact30 : ((Rows.fnExactShortenedRow.pinned == Rows.fnExactShortenedRow.pinnedBy)) = true := by kernel_rfl
theorem fact31 : ((Rows.fnExactShortenedRow.veiled == (Tryz.f3.params.toList ++ Rows.fnExactShortenedSpec.plain.varTypes Tryz.prog ++ Tryz.f3.resultTypes.toList).any (Tryz.prog.veiledRec ·))) = true := by kernel_rfl
theorem fact32 : (Rows.fnExactShortenedRow.veiledFits Tryz.prog Tryz.f3.params.toList (Tryz.f3.params.toList ++ Rows.fnExactShortenedSpec.plain.varTypes Tryz.prog ++ Tryz.f3.resultTypes.toList)) = true := by kernel_rfl
set_option maxRecDepth 100000 in
theorem closed : joinedFacts Tryz.prog 3 Tryz.f3 Rows.fnExactShortenedSpec Rows.fnExactShortenedRow = true := by
  unfold joinedFacts
  exact (fact0 (fact0 (fact0 (fact0 (fact0 (fact0 (fact0 (fact0 (fact0 (fact0 (fact0 (fact0 (fact0 (fact0 (fact0 (fact0 (fact0 (fact0 (fact0 (fact0 (fact0 (fact0 (fact0 (fact0 (fact0 (fact0 (fact0 (fact0 (fact0 (fact0 (fact0 fact1 fact2) fact3) fact4) fact5) fact6) fact7) fact8) fact9) fact10) fact11) fact12) fact13) fact14) fact15) fact16) fact17) fact18) fact19) fact20) fact21) fact22) fact23) fact24) fact25) fact26) fact27) fact28) (by kernel_rfl)) fact30) fact31) fact32)
theorem named : Tryz.prog.funcNamed Rows.fnExactShortenedRow.func = some 3 := by kernel_rfl
theorem instOf : Tryz.f3.isInstance Tryz.prog Rows.fnExactShortenedRow.origin Rows.fnExactShortenedRow.targs := of_decide_eq_true (by kernel_rfl)
theorem wrapOf : Tryz.f3.isWrapper Tryz.prog Rows.fnExactShortenedRow.wrapper Rows.fnExactShortenedRow.mainSum := by unfold Func.isWrapper; first | (rw [if_pos (by decide +kernel)]; kernel_rfl) | (rw [if_neg (by decide +kernel)]; exact ⟨rfl, rfl⟩)
theorem over : Rows.fnExactShortenedRow.holds Tryz.pinned (OpenSpec.ofChange Rows.fnExactShortenedSpec) :=
  OpenClaim.holds_of_wide 3 Tryz.f3 rfl rfl rfl rfl rfl rfl rfl ⟨rfl, rfl, rfl, rfl, rfl⟩ rfl rfl rfl rfl rfl named Tryz.func3 closed
    instOf wrapOf
    (fun os started H enc _ => lifted os started H enc)

end exShortened

theorem fnExactShortened_holds : Rows.FnExactShortenedSaid := exShortened.over

end Go.Proofs.YtpggjgilklpncaaGreat
