/-
  A part of the proof: BaseWalk, Laid.
-/
import Derived.Test.YteamdmcgkpeelabGreatDoorPart17
import Derived.Test.YteamdmcgkpeelabGreatDoorPart18
import Derived.Test.YteamdmcgkpeelabGreatDoorPart19
import Derived.Test.YteamdmcgkpeelabGreatDoorPart20
import Derived.Test.YteamdmcgkpeelabGreatDoorPart21
import Derived.Deep.DeepCutAuto
import Derived.LaidMore
import Derived.Stop.LaidErr
import Derived.Lib.LaidTab
import Derived.Stop.Joined
import Derived.ProofKit
import Derived.LaidLaws

/-
  The walk of the law FnBases.
-/
namespace Go.Proofs.YteamdmcgkpeelabGreatDoor
open Go.ChangeShapes Go.WideShapes Go.ChangeAt Go.RowKit
attribute [local go_sem ↓] Go.wp_at_zero Go.wp_at_succ
attribute [local simp] World.cell?_alloc_past World.cell?_alloc_at World.frozen?_alloc_at cell_far cell_off cell_here World.frozen?_alloc_past

/-- What lies there along the walk. -/
structure Lay (w0 w : World) (a : Option Addr) (len : Nat) (Ls : List (Option Addr × List TB)) : Prop where
  code : Code0 w a len
  pow : PowAt w
  bel : Below w0.heap.size w0 w
  tabs : ∀ p, p ∈ Ls → TabsAt w p.1 p.2
theorem Lay.next {w0 w w' : World} {a : Option Addr} {len : Nat} {Ls : List (Option Addr × List TB)} (h : Lay w0 w a len Ls) (hb : Below w.heap.size w w') : Lay w0 w' a len Ls :=
  ⟨h.code.below hb, h.pow.below hb, chain h.bel hb, fun p hp => (h.tabs p hp).below hb⟩
theorem Lay.add {w0 w : World} {a b : Option Addr} {len : Nat} {T : List TB} {Ls : List (Option Addr × List TB)} (h : Lay w0 w a len Ls) (ht : TabsAt w b T) : Lay w0 w a len ((b, T) :: Ls) :=
  ⟨h.code, h.pow, h.bel, fun p hp => (List.mem_cons.1 hp).elim (fun e => by subst e; exact ht) (h.tabs p)⟩

/-- And the columns, and the table that was drawn. -/
structure Full (w0 w : World) (a : Option Addr) (len : Nat) (Ls : List (Option Addr × List TB)) (ca : Option Addr) (C : List ByteArray) (ta : Option Addr) (tcc : Nat) (tra : Option Addr) (tcr : Nat) (t : TB) (bk : Nat) (x y z : Value) : Prop where
  lay : Lay w0 w a len Ls
  str : StrsAt w ca C
  tab : DTab w ta tcc tra tcr t
  box : Box w bk x y z
theorem Full.next {w0 w w' : World} {a : Option Addr} {len : Nat} {Ls : List (Option Addr × List TB)} {ca : Option Addr} {C : List ByteArray} {ta : Option Addr} {tcc : Nat} {tra : Option Addr} {tcr : Nat} {t : TB} {bk : Nat} {x y z : Value} (h : Hid (Full w0 w a len Ls ca C ta tcc tra tcr t bk x y z)) (hb : Below w.heap.size w w') : Hid (Full w0 w' a len Ls ca C ta tcc tra tcr t bk x y z) :=
  show Full w0 w' a len Ls ca C ta tcc tra tcr t bk x y z from ⟨h.out.lay.next hb, h.out.str.below hb, h.out.tab.below hb, h.out.box.below hb⟩

namespace baseLaw

set_option maxRecDepth 100000 in
set_option maxHeartbeats 16000000 in
theorem walk {w : World} {a : Option Addr} {len cap : Nat} (row : Code0 w a len) (hpow : PowAt w) :
    Calls Tryz.prog 3 #[.slice a len cap] w fun e w' => e = .returned (.bool true) ∧ Below w.heap.size w w' := by
  by_cases hl : 4096 < (len : Int)
  · go_enter Tryz.func3, Tryz.ntmps3
    go_wp2_with fail
    refine (big_laws a len cap w).mono ?_
    rintro e w1 ⟨rfl, rfl⟩
    rw [decide_eq_true hl]
    go_wp2
    go_ret
    exact ⟨rfl, Below.refl _ _⟩
  have hlen : len ≤ 4096 := by omega
  have H0 : Hid (Lay w w a len []) := ⟨row, hpow, Below.refl _ _, fun p hp => by cases hp⟩
  clear row hpow
  go_enter Tryz.func3, Tryz.ntmps3
  go_wp2_with fail
  refine (big_laws a len cap w).mono ?_
  rintro e w0 ⟨rfl, rfl⟩
  rw [decide_eq_false (by omega : ¬ (4096 : Int) < (len : Int))]
  go_wp2_with fail
  refine (made_draw hlen H0.out.code).mono ?_
  rintro e w1 ⟨aB, n, cB, B, nm, C, nc, ca, cc, rfl, hCn, hnc5, hnm7, hStr, hFit, hncc, hnil, hDB, hb1⟩
  have H1 : Hid (Lay w w1 a len [(aB, B)]) := (H0.out.next hb1).add hDB.tabs
  have S1 : Hid (StrsAt w1 ca C) := hStr
  have HCN : Hid (C.length = nc) := hCn
  have HFC : Hid (FitS C) := hFit
  have HB : Hid (B.length = n) := hDB.len
  have hn6 : n ≤ 6 := hDB.six
  have hnmM : nm.size ≤ maxLen := by unfold maxLen; omega
  obtain ⟨X, made, hX⟩ : ∃ X b, madeR B (nm, C, []) = (X, b) := ⟨_, _, rfl⟩
  have HX : Hid (madeR B (nm, C, []) = (X, made)) := hX
  clear hCn hStr hFit hDB hb1 hX H0
  go_wp2_with fail
  refine (made_impl aB _ B n HB.out nm hnmM ca cc C nc HCN.out w1 (H1.out.tabs (aB, B) (by simp)) S1.out HFC.out (by rw [HCN.out]; unfold maxLen; omega) (by rw [HCN.out]; exact hncc) hnil (by omega) X made HX.out).mono ?_
  rintro e w2 ⟨aX, nX, cX, QX, hXn, rfl, hOX, hb2, hcX⟩
  have H2 : Hid (Lay w w2 a len [(aX, X), (aB, B)]) := (H1.out.next hb2).add hOX.lies
  have S2 : Hid (StrsAt w2 ca C) := S1.out.below hb2
  have HXN : Hid (X.length = nX) := hXn
  clear hXn hOX hb2 H1 S1
  go_wp2_with fail
  refine (dropped_draw hlen H2.out.code).mono ?_
  rintro e w3 ⟨aG, nG, cG, G, gone, rfl, hg7, hDG, hb3⟩
  have H3 : Hid (Lay w w3 a len [(aG, G), (aX, X), (aB, B)]) := (H2.out.next hb3).add hDG.tabs
  have S3 : Hid (StrsAt w3 ca C) := S2.out.below hb3
  have HG : Hid (G.length = nG) := hDG.len
  have hnG6 : nG ≤ 6 := hDG.six
  have hgM : gone.size ≤ maxLen := by unfold maxLen; omega
  obtain ⟨Y, drp, hY⟩ : ∃ X b, droppedR G gone = (X, b) := ⟨_, _, rfl⟩
  have HY : Hid (droppedR G gone = (Y, drp)) := hY
  clear hDG hb3 hY H2 S2
  go_wp2_with fail
  refine (dropped_impl aG _ G nG HG.out gone hgM w3 (H3.out.tabs (aG, G) (by simp)) (by omega) Y drp HY.out).mono ?_
  rintro e w4 ⟨aY, nY, cY, QY, hYn, rfl, hOY, hb4, hcY⟩
  have H4 : Hid (Lay w w4 a len [(aY, Y), (aG, G), (aX, X), (aB, B)]) := (H3.out.next hb4).add hOY.lies
  have S4 : Hid (StrsAt w4 ca C) := S3.out.below hb4
  have HYN : Hid (Y.length = nY) := hYn
  clear hYn hOY hb4 H3 S3
  go_wp2_with fail
  refine (replaced_draw hlen H4.out.code).mono ?_
  rintro e w5 ⟨aR, nR, cR, R, t, tc, tr, ta, tcc, tra, tcr, rfl, htc, htr, hDT, ht7, hDR, hb5⟩
  have H5 : Hid (Lay w w5 a len [(aR, R), (aY, Y), (aG, G), (aX, X), (aB, B)]) := (H4.out.next hb5).add hDR.tabs
  have S5 : Hid (StrsAt w5 ca C) := S4.out.below hb5
  have T5 : Hid (DTab w5 ta tcc tra tcr t) := hDT
  have HR : Hid (R.length = nR) := hDR.len
  have hnR6 : nR ≤ 6 := hDR.six
  have HTC : Hid (t.2.1.length = tc) := htc
  have HTR : Hid (t.2.2.length = tr) := htr
  obtain ⟨tn, htn⟩ : ∃ s, t.1 = s := ⟨_, rfl⟩
  have HTN : Hid (t.1 = tn) := htn
  have htM : tn.size ≤ maxLen := by rw [← htn]; unfold maxLen; omega
  obtain ⟨Z, put, hZ⟩ : ∃ X b, replacedR R t = (X, b) := ⟨_, _, rfl⟩
  have HZ : Hid (replacedR R t = (Z, put)) := hZ
  rw [htn]
  clear hDR hb5 hZ H4 S4 htc htr hDT ht7 htn
  go_wp2_with fail
  obtain ⟨V5, hV5⟩ : ∃ V, V = (w5.alloc (.cells #[.string tn, .slice ta tc tcc, .slice tra tr tcr] 35)) := ⟨_, rfl⟩
  rw [← hV5]
  have hA5 : Below w5.heap.size w5 V5 := by rw [hV5]; exact (Below.refl _ _).alloc (Nat.le_refl _) _
  have b5 : Hid (Box V5 w5.heap.size (.string tn) (.slice ta tc tcc) (.slice tra tr tcr)) := by
    have : Box V5 w5.heap.size (.string tn) (.slice ta tc tcc) (.slice tra tr tcr) := by subst hV5; exact box3 (Below.refl _ _)
    exact this
  have H5' : Hid (Lay w V5 a len [(aR, R), (aY, Y), (aG, G), (aX, X), (aB, B)]) := H5.out.next hA5
  have S5' : Hid (StrsAt V5 ca C) := S5.out.below hA5
  have T5' : Hid (DTab V5 ta tcc tra tcr t) := T5.out.below hA5
  clear hA5 hV5 H5 S5 T5
  have E6 := replaced_impl aR cR R nR HR.out ta tcc tra tcr t tc tr HTC.out HTR.out V5 (H5'.out.tabs (aR, R) (by simp)) T5'.out.tab (by omega) Z put HZ.out
  rw [HTN.out] at E6
  refine E6.mono ?_
  clear E6
  rintro e w6 ⟨aZ, nZ, cZ, QZ, hZn, rfl, hOZ, hb6, hcZ⟩
  have H6 : Hid (Lay w w6 a len [(aZ, Z), (aR, R), (aY, Y), (aG, G), (aX, X), (aB, B)]) := (H5'.out.next hb6).add hOZ.lies
  have S6 : Hid (StrsAt w6 ca C) := S5'.out.below hb6
  have T6 : Hid (DTab w6 ta tcc tra tcr t) := T5'.out.below hb6
  have b6 : Hid (Box w6 w5.heap.size (.string tn) (.slice ta tc tcc) (.slice tra tr tcr)) := b5.out.below hb6
  have HZN : Hid (Z.length = nZ) := hZn
  clear hZn hOZ hb6 H5' S5' T5' b5
  go_wp2_with fail
  refine (showbase_draw hlen H6.out.code).mono ?_
  rintro e w7 ⟨aS, nS, cS, SS, rfl, hDS, hb7⟩
  have H7 : Hid (Lay w w7 a len [(aS, SS), (aZ, Z), (aR, R), (aY, Y), (aG, G), (aX, X), (aB, B)]) := (H6.out.next hb7).add hDS.tabs
  have S7 : Hid (StrsAt w7 ca C) := S6.out.below hb7
  have T7 : Hid (DTab w7 ta tcc tra tcr t) := T6.out.below hb7
  have b7 : Hid (Box w7 w5.heap.size (.string tn) (.slice ta tc tcc) (.slice tra tr tcr)) := b6.out.below hb7
  have HSN : Hid (SS.length = nS) := hDS.len
  have hnS6 : nS ≤ 6 := hDS.six
  clear hDS hb7 H6 S6 T6 b6
  go_wp2_with fail
  refine (made_spec aB _ B n HB.out nm hnmM ca cc C nc HCN.out w7 (H7.out.tabs (aB, B) (by simp)) S7.out HFC.out (by omega) hnil (by omega) X made HX.out).mono ?_
  rintro e w8 ⟨aU, nU, cU, hUn, rfl, hTU, hb8⟩
  obtain rfl : nU = nX := by rw [← hUn]; exact HXN.out
  have H8 : Hid (Lay w w8 a len [(aS, SS), (aZ, Z), (aR, R), (aY, Y), (aG, G), (aX, X), (aB, B)]) := H7.out.next hb8
  have S8 : Hid (StrsAt w8 ca C) := S7.out.below hb8
  have T8 : Hid (DTab w8 ta tcc tra tcr t) := T7.out.below hb8
  have b8 : Hid (Box w8 w5.heap.size (.string tn) (.slice ta tc tcc) (.slice tra tr tcr)) := b7.out.below hb8
  have U8 : Hid (TabsAt w8 aU X) := hTU
  have hnXM7 : nU ≤ 7 := by
    have h1 := HX.out
    have h2 := HXN.out
    have h3 := HB.out
    unfold madeR at h1
    split at h1
    · split at h1
      · simp only [Prod.mk.injEq] at h1; rw [← h1.1, insT_length] at h2; omega
      · simp only [Prod.mk.injEq] at h1; rw [← h1.1] at h2; omega
    · simp only [Prod.mk.injEq] at h1; rw [← h1.1] at h2; simp at h2; omega
  have hnXM : nU ≤ maxLen := by unfold maxLen; omega
  have F8 : Hid (Full w w8 a len [(aS, SS), (aZ, Z), (aR, R), (aY, Y), (aG, G), (aX, X), (aB, B)] ca C ta tcc tra tcr t w5.heap.size (.string tn) (.slice ta tc tcc) (.slice tra tr tcr)) := by
    have : Full w w8 a len [(aS, SS), (aZ, Z), (aR, R), (aY, Y), (aG, G), (aX, X), (aB, B)] ca C ta tcc tra tcr t w5.heap.size (.string tn) (.slice ta tc tcc) (.slice tra tr tcr) := ⟨H8.out, S8.out, T8.out, b8.out⟩
    exact this
  clear hUn hTU hb8 H7 S7 T7 b7 H8 S8 T8 b8
  obtain ⟨bb, hbb⟩ : ∃ b, baseB B = b := ⟨_, rfl⟩
  have HBB : Hid (baseB B = bb) := hbb
  obtain ⟨y, hy⟩ : ∃ y, showB SS = y := ⟨_, rfl⟩
  have HYS : Hid (showB SS = y) := hy
  have hyy : (y.toList == y.toList) = true := by simp
  have hnYM7 : nY ≤ 6 := by
    have h1 := HY.out
    have h2 := HYN.out
    have h3 := HG.out
    unfold droppedR at h1
    split at h1
    · simp only [Prod.mk.injEq] at h1
      have : (dropT G gone).length ≤ G.length := List.length_filter_le _ _
      rw [h1.1] at this; omega
    · simp only [Prod.mk.injEq] at h1; rw [← h1.1] at h2; simp at h2; omega
  have hnZM7 : nZ ≤ 6 := by
    have h1 := HZ.out
    have h2 := HZN.out
    have h3 := HR.out
    unfold replacedR at h1
    split at h1
    · split at h1
      · simp only [Prod.mk.injEq] at h1; rw [← h1.1, replT_length] at h2; omega
      · simp only [Prod.mk.injEq] at h1; rw [← h1.1] at h2; omega
    · simp only [Prod.mk.injEq] at h1; rw [← h1.1] at h2; simp at h2; omega
  have hnYM : nY ≤ maxLen := by unfold maxLen; omega
  have hnZM : nZ ≤ maxLen := by unfold maxLen; omega
  have hnM : n ≤ maxLen := by unfold maxLen; omega
  clear hbb hy
  go_wp2_with fail
  refine (likebase aX aU cX cU X nU HXN.out w8 (F8.out.lay.tabs (aX, X) (by simp)) U8.out hnXM).mono ?_
  rintro e w9 ⟨rfl, hb9⟩
  have F9 := Full.next F8 hb9
  clear hb9 F8 U8
  go_wp2_with fail
  refine (baseok_impl aB _ B n HB.out w9 (F9.out.lay.tabs (aB, B) (by simp)) (by omega) bb HBB.out).mono ?_
  rintro e wA ⟨rfl, hbA⟩
  have FA := Full.next F9 hbA
  clear hbA F9
  go_wp2_with fail
  refine (base_spec aB _ B n HB.out wA (FA.out.lay.tabs (aB, B) (by simp)) hnM bb HBB.out).mono ?_
  rintro e wB ⟨rfl, hbB⟩
  have FB := Full.next FA hbB
  clear hbB FA
  go_wp2_with fail
  refine (showbase_impl aS _ SS nS HSN.out wB (FB.out.lay.tabs (aS, SS) (by simp)) (by omega) FB.out.lay.pow y HYS.out).mono ?_
  rintro e wC ⟨rfl, hbC⟩
  have FC := Full.next FB hbC
  clear hbC FB
  go_wp2_with fail
  refine (showbase_spec aS _ SS nS HSN.out wC (FC.out.lay.tabs (aS, SS) (by simp)) (by omega) y HYS.out).mono ?_
  rintro e wD ⟨rfl, hbD⟩
  have FD := Full.next FC hbD
  clear hbD FC
  go_wp2_with fail
  refine (dropped_spec aG _ G nG HG.out gone wD (FD.out.lay.tabs (aG, G) (by simp)) (by omega) Y drp HY.out).mono ?_
  rintro e wE ⟨aU2, nU2, cU2, hUn, rfl, hTU, hbE⟩
  obtain rfl : nU2 = nY := by rw [← hUn]; exact HYN.out
  have FE := Full.next FD hbE
  have UE : Hid (TabsAt wE aU2 Y) := hTU
  clear hbE FD hTU hUn
  go_wp2_with fail
  refine (likebase aY aU2 cY cU2 Y nU2 HYN.out wE (FE.out.lay.tabs (aY, Y) (by simp)) UE.out hnYM).mono ?_
  rintro e wF ⟨rfl, hbF⟩
  have FF := Full.next FE hbF
  clear hbF FE UE
  obtain ⟨p0, p1, p2, p3⟩ := FF.out.box
  go_wp2_with fail
  have E6 := replaced_spec aR cR R nR HR.out ta tcc tra tcr t tc tr HTC.out HTR.out wF (FF.out.lay.tabs (aR, R) (by simp)) FF.out.tab.tab (by omega) Z put HZ.out
  rw [HTN.out] at E6
  refine E6.mono ?_
  clear E6 p0 p1 p2 p3
  rintro e wG ⟨aU3, nU3, cU3, hUn, rfl, hTU, hbG⟩
  obtain rfl : nU3 = nZ := by rw [← hUn]; exact HZN.out
  have FG := Full.next FF hbG
  have UG : Hid (TabsAt wG aU3 Z) := hTU
  clear hbG FF hTU hUn
  go_wp2_with fail
  refine (likebase aZ aU3 cZ cU3 Z nU3 HZN.out wG (FG.out.lay.tabs (aZ, Z) (by simp)) UG.out hnZM).mono ?_
  rintro e wH ⟨rfl, hbH⟩
  have FH := Full.next FG hbH
  clear hbH FG UG
  have JD : Hid (drp = true → baseB Y = true ∧ gone ∉ namesT Y ∧ (nU2 : Int) = (nG : Int) - 1) := by
    have : drp = true → baseB Y = true ∧ gone ∉ namesT Y ∧ (nU2 : Int) = (nG : Int) - 1 := fun e => by
      subst e
      obtain ⟨h1, h2, h3⟩ := dropped_facts HY.out
      refine ⟨h1, h2, ?_⟩
      have := HYN.out; have := HG.out; omega
    exact this
  have JP : Hid (put = true → baseB Z = true ∧ t ∈ Z ∧ nU3 = nR) := by
    have : put = true → baseB Z = true ∧ t ∈ Z ∧ nU3 = nR := fun e => by
      subst e
      obtain ⟨h1, h2, h3⟩ := replaced_facts HZ.out
      refine ⟨h1, h3, ?_⟩
      have := HZN.out; have := HR.out; omega
    exact this
  have JN : Hid (made = false → (bb = false ∧ nU = 0) ∨ (bb = true ∧ X = B ∧ nU = n)) := by
    have : made = false → (bb = false ∧ nU = 0) ∨ (bb = true ∧ X = B ∧ nU = n) := fun e => by
      subst e
      rcases made_no HX.out with ⟨h1, h2⟩ | ⟨h1, h2⟩
      · exact .inl ⟨by rw [← HBB.out]; exact h1, by rw [← HXN.out, h2]; rfl⟩
      · exact .inr ⟨by rw [← HBB.out]; exact h1, h2, by rw [← HXN.out, h2]; exact HB.out⟩
    exact this
  have JM : Hid (made = true → baseB X = true ∧ (∀ u, u ∈ B → u ∈ X) ∧ (nm, C, []) ∈ X ∧ droppedR X nm = (B, true)) := by
    have : made = true → baseB X = true ∧ (∀ u, u ∈ B → u ∈ X) ∧ (nm, C, []) ∈ X ∧ droppedR X nm = (B, true) := fun e => by
      subst e
      obtain ⟨h1, h2, h3, h4, _⟩ := made_facts HX.out
      exact ⟨h1, h2, h3, h4⟩
    exact this
  clear HX HY HZ
  cases drp
  focus
    obtain ⟨wJ, hJ⟩ : ∃ x, x = wH := ⟨_, rfl⟩
    subst hJ
    have FJ := FH
    clear FH JD
  rotate_left
  focus
    obtain ⟨hbY, hgY, hql⟩ := JD.out rfl
    have HBY : Hid (baseB Y = true) := hbY
    have HGY : Hid (gone ∉ namesT Y) := hgY
    clear hbY hgY
    go_wp2_with fail
    refine (tablein_lacks aY _ Y nU2 HYN.out wH (FH.out.lay.tabs (aY, Y) (by simp)) (by omega) HBY.out gone HGY.out hgM).mono ?_
    rintro e wI ⟨ia, ic, ira, icr, rfl, hbI⟩
    have FI := Full.next FH hbI
    clear hbI FH
    have FI' := Full.next FI ((Below.refl _ _).alloc (Nat.le_refl _) (.cells #[.string ⟨#[]⟩, .slice ia 0 ic, .slice ira 0 icr] 35))
    go_wp2_with fail
    refine (baseok_impl aY _ Y nU2 HYN.out _ (FI'.out.lay.tabs (aY, Y) (by simp)) (by omega) true HBY.out).mono ?_
    rintro e wJ ⟨rfl, hbJ⟩
    have FJ := Full.next FI' hbJ
    clear hbJ FI FI' HGY HBY JD
  all_goals
    cases put
    focus
      obtain ⟨wL, hJ⟩ : ∃ x, x = wJ := ⟨_, rfl⟩
      subst hJ
      have FL := FJ
      clear FJ JP
    rotate_left
    focus
      obtain ⟨hbZ, htZ, hzr⟩ := JP.out rfl
      have HBZ : Hid (baseB Z = true) := hbZ
      have HTZ : Hid (t ∈ Z) := htZ
      have HZR : Hid (nU3 = nR) := hzr
      clear hbZ htZ hzr
      obtain ⟨p0, p1, p2, p3⟩ := FJ.out.box
      go_wp2_with fail
      refine (tablein_has aZ cZ Z nU3 HZN.out wJ (FJ.out.lay.tabs (aZ, Z) (by simp)) (by omega) HBZ.out t HTZ.out tn HTN.out.symm htM).mono ?_
      rintro e wK ⟨uc, ur, ua, ucc, ura, ucr, rfl, huc, hur, hTA, hbK⟩
      rw [HTN.out]
      obtain rfl : tc = uc := by rw [← huc]; exact HTC.out.symm
      obtain rfl : tr = ur := by rw [← hur]; exact HTR.out.symm
      have FK := Full.next FJ hbK
      have UK : Hid (TabAt wK ua ucc ura t) := hTA
      clear hbK hTA FJ huc hur p0 p1 p2 p3
      obtain ⟨p0, p1, p2, p3⟩ := FK.out.box
      go_wp2_with fail
      obtain ⟨VK, hVK⟩ : ∃ V, V = (wK.alloc (.cells #[.string tn, .slice ua tc ucc, .slice ura tr ucr] 35)) := ⟨_, rfl⟩
      rw [← hVK]
      have hAK : Below wK.heap.size wK VK := by rw [hVK]; exact (Below.refl _ _).alloc (Nat.le_refl _) _
      have FK2 := Full.next FK hAK
      have EK := liketab ua ucc ura ucr ta tcc tra tcr t tc tr HTC.out HTR.out VK (UK.out.below hAK) FK2.out.tab.tab
      rw [HTN.out] at EK
      refine EK.mono ?_
      clear EK UK FK p0 p1 p2 p3 hVK hAK
      rintro e wM ⟨rfl, hbM⟩
      have FM := Full.next FK2 hbM
      clear hbM FK2
      go_wp2_with fail
      refine (baseok_impl aZ _ Z nU3 HZN.out wM (FM.out.lay.tabs (aZ, Z) (by simp)) (by omega) true HBZ.out).mono ?_
      rintro e wL ⟨rfl, hbL⟩
      have FL := Full.next FM hbL
      obtain rfl := HZR.out
      clear hbL FM HBZ HTZ HZR JP
  all_goals
    cases made
    focus
      clear JM
      rcases JN.out rfl with ⟨hbb, hnu⟩ | ⟨hbb, hXB, hnu⟩
      · subst hbb
        subst hnu
        clear JN
        go_wp2_with fail
        refine (base_spec aB _ B n HB.out wL (FL.out.lay.tabs (aB, B) (by simp)) hnM false HBB.out).mono ?_
        rintro e wM ⟨rfl, hbM⟩
        have FM := Full.next FL hbM
        clear hbM FL
        go_wp2
        go_ret
        exact ⟨rfl, FM.out.lay.bel⟩
      · subst hbb
        subst hXB
        subst hnu
        clear JN
        go_wp2_with fail
        refine (base_spec aB _ X nU HB.out wL (FL.out.lay.tabs (aB, X) (by simp)) hnM true HBB.out).mono ?_
        rintro e wM ⟨rfl, hbM⟩
        have FM := Full.next FL hbM
        clear hbM FL
        go_wp2_with fail
        refine (likebase aX aB cX _ X nU HB.out wM (FM.out.lay.tabs (aX, X) (by simp)) (FM.out.lay.tabs (aB, X) (by simp)) hnM).mono ?_
        rintro e wN ⟨rfl, hbN⟩
        have FN := Full.next FM hbN
        clear hbN FM
        go_wp2
        go_ret
        exact ⟨rfl, FN.out.lay.bel⟩
  all_goals
    obtain ⟨hbX, hBX, hnmX, hdX⟩ := JM.out rfl
    have HBX : Hid (baseB X = true) := hbX
    have HSUB : Hid (∀ u, u ∈ B → u ∈ X) := hBX
    have HNMX : Hid ((nm, C, []) ∈ X) := hnmX
    have HDX : Hid (droppedR X nm = (B, true)) := hdX
    clear hbX hBX hnmX hdX JM JN
    go_wp2_with fail
    go_loopw [27] (fun kk wr => ∃ k : Nat, k ≤ n ∧ kk = .int .i64 k ∧ Hid (Full w wr a len [(aS, SS), (aZ, Z), (aR, R), (aY, Y), (aG, G), (aX, X), (aB, B)] ca C ta tcc tra tcr t w5.heap.size (.string tn) (.slice ta tc tcc) (.slice tra tr tcr))) (fun kk _ => n - (intOf kk).toNat)
    case atStart => exact ⟨0, Nat.zero_le _, rfl, FL⟩
    case round =>
      obtain ⟨k, hk, rfl, FR⟩ := hrel
      by_cases hlt : k < n
      · have hlt' : Hid (k < B.length) := by have := HB.out; exact show k < B.length by omega
        obtain ⟨g, o, va, vc, vra, vcr, haB, hgw, c0, c1, c2, hta⟩ := FR.out.lay.tabs (aB, B) (by simp) k hlt'.out
        dsimp only at haB
        subst haB
        have hi0 : (0 : Int) ≤ (k : Int) := by omega
        have hi1 : (k : Int) < (n : Int) := by omega
        obtain ⟨v, hv⟩ : ∃ v, (B[k]'hlt'.out) = v := ⟨_, rfl⟩
        have HVX : Hid (v ∈ X) := by
          have : v ∈ X := by rw [← hv]; exact HSUB.out _ (List.getElem_mem hlt'.out)
          exact this
        dsimp only at c0 c1 c2 hta
        rw [hv] at c0 c1 c2 hta
        clear hv
        obtain ⟨vn, hvn⟩ : ∃ z, v.1 = z := ⟨_, rfl⟩
        obtain ⟨vnc, hvc⟩ : ∃ z, v.2.1.length = z := ⟨_, rfl⟩
        obtain ⟨vnr, hvr⟩ : ∃ z, v.2.2.length = z := ⟨_, rfl⟩
        have hvM : vn.size ≤ maxLen := by rw [← hvn]; exact hta.name
        rw [hvn] at c0
        rw [hvc] at c1
        rw [hvr] at c2
        have HVN : Hid (v.1 = vn) := hvn
        have HVC : Hid (v.2.1.length = vnc) := hvc
        have HVR : Hid (v.2.2.length = vnr) := hvr
        have HVT : Hid (TabAt wr va vc vra v) := hta
        clear hvn hvc hvr hta
        go_wp2_with fail
        refine (tablein_has aX cX X nU HXN.out wr (FR.out.lay.tabs (aX, X) (by simp)) (by omega) HBX.out v HVX.out vn HVN.out.symm hvM).mono ?_
        rintro e wP ⟨uc, ur, ua, ucc, ura, ucr, rfl, huc, hur, hTA, hbP⟩
        rw [HVN.out]
        obtain rfl : vnc = uc := by rw [← huc]; exact HVC.out.symm
        obtain rfl : vnr = ur := by rw [← hur]; exact HVR.out.symm
        have FP := Full.next FR hbP
        have UP : Hid (TabAt wP ua ucc ura v) := hTA
        have VP : Hid (TabAt wP va vc vra v) := HVT.out.below hbP
        rw [← hbP.cell (p := ⟨g, _, none⟩) hgw] at c0 c1 c2
        have hgP : g < wP.heap.size := Nat.lt_of_lt_of_le hgw hbP.size
        clear hbP hTA FR huc hur HVT hgw
        go_wp2_with fail
        obtain ⟨VQ, hVQ⟩ : ∃ V, V = (wP.alloc (.cells #[.string vn, .slice ua vnc ucc, .slice ura vnr ucr] 35)) := ⟨_, rfl⟩
        rw [← hVQ]
        have hAQ : Below wP.heap.size wP VQ := by rw [hVQ]; exact (Below.refl _ _).alloc (Nat.le_refl _) _
        have bQ : Hid (Box VQ wP.heap.size (.string vn) (.slice ua vnc ucc) (.slice ura vnr ucr)) := by
          have : Box VQ wP.heap.size (.string vn) (.slice ua vnc ucc) (.slice ura vnr ucr) := by subst hVQ; exact box3 (Below.refl _ _)
          exact this
        have FQ := Full.next FP hAQ
        rw [← hAQ.cell (p := ⟨g, _, none⟩) hgP] at c0 c1 c2
        have hgQ : g < VQ.heap.size := Nat.lt_of_lt_of_le hgP hAQ.size
        have UQ : Hid (TabAt VQ ua ucc ura v) := UP.out.below hAQ
        have VVQ : Hid (TabAt VQ va vc vra v) := VP.out.below hAQ
        clear hVQ hAQ FP UP VP hgP
        obtain ⟨q0, q1, q2, q3⟩ := bQ.out
        refine wp_region_held_drew (S := (fun w' => (w'.cell? ⟨wP.heap.size, 0, none⟩ = some (.string vn) ∧ w'.cell? ⟨wP.heap.size, 1, none⟩ = some (.slice ua vnc ucc) ∧ w'.cell? ⟨wP.heap.size, 2, none⟩ = some (.slice ura vnr ucr)) ∧ (w'.cell? ⟨g, o + k * 3, none⟩ = some (.string vn) ∧ w'.cell? ⟨g, o + k * 3 + 1, none⟩ = some (.slice va vnc vc) ∧ w'.cell? ⟨g, o + k * 3 + 2, none⟩ = some (.slice vra vnr vcr)))) (by kernel_rfl) ?_ (fun hHeld => ?_)
        · exact ⟨⟨q0, q1, q2⟩, ⟨c0, c1, c2⟩⟩
        refine wpAnyH_take (i := 0) (by simp only [List.getElem?_toArray, List.getElem?_cons_zero]; rfl) (by kernel_rfl) (by kernel_rfl) (by kernel_rfl) (by intro _ _ _ h; exact h) (Or.inl ⟨by rfl, fun w hSw => by (dsimp only at hSw; go_simp; (try with_reducible rfl))⟩) (by assumption) ?_
        simp only [Act.put, List.setIfInBounds_toArray, List.set_cons_zero, List.set_cons_succ]
        refine wpAnyH_take (i := 1) (by simp only [List.getElem?_toArray, List.getElem?_cons_zero, List.getElem?_cons_succ]; rfl) (by kernel_rfl) (by kernel_rfl) (by kernel_rfl) (by intro _ _ _ h; exact h) (Or.inl ⟨by rfl, fun w hSw => by (dsimp only at hSw; go_simp; (try with_reducible rfl))⟩) (by assumption) ?_
        simp only [Act.put, List.setIfInBounds_toArray, List.set_cons_zero, List.set_cons_succ]
        refine wpAnyH_take (i := 2) (by simp only [List.getElem?_toArray, List.getElem?_cons_zero, List.getElem?_cons_succ]; rfl) (by kernel_rfl) (by kernel_rfl) (by kernel_rfl) (by intro _ _ _ h; exact h) (Or.inl ⟨by rfl, fun w hSw => by (dsimp only at hSw; go_simp; (try with_reducible rfl))⟩) (by assumption) ?_
        simp only [Act.put, List.setIfInBounds_toArray, List.set_cons_zero, List.set_cons_succ]
        refine wpAnyH_take (i := 3) (by simp only [List.getElem?_toArray, List.getElem?_cons_zero, List.getElem?_cons_succ]; rfl) (by kernel_rfl) (by kernel_rfl) (by kernel_rfl) (by intro _ _ _ h; exact h) (Or.inl ⟨by rfl, fun w hSw => by (dsimp only at hSw; go_simp; (try with_reducible rfl))⟩) (by assumption) ?_
        simp only [Act.put, List.setIfInBounds_toArray, List.set_cons_zero, List.set_cons_succ]
        refine wpAnyH_take (i := 4) (by simp only [List.getElem?_toArray, List.getElem?_cons_zero, List.getElem?_cons_succ]; rfl) (by kernel_rfl) (by kernel_rfl) (by kernel_rfl) (by intro _ _ _ h; exact h) (Or.inl ⟨by rfl, fun w hSw => by (dsimp only at hSw; go_simp; (try with_reducible rfl))⟩) (by assumption) ?_
        simp only [Act.put, List.setIfInBounds_toArray, List.set_cons_zero, List.set_cons_succ]
        refine wpAnyH_take (i := 5) (by simp only [List.getElem?_toArray, List.getElem?_cons_zero, List.getElem?_cons_succ]; rfl) (by kernel_rfl) (by kernel_rfl) (by kernel_rfl) (by intro _ _ _ h; exact h) (Or.inl ⟨by rfl, fun w hSw => by (dsimp only at hSw; go_simp; (try with_reducible rfl))⟩) (by assumption) ?_
        simp only [Act.put, List.setIfInBounds_toArray, List.set_cons_zero, List.set_cons_succ]
        refine wpAnyH_take (i := 6) (by simp only [List.getElem?_toArray, List.getElem?_cons_zero, List.getElem?_cons_succ]; rfl) (by kernel_rfl) (by kernel_rfl) (by kernel_rfl) (by intro _ _ _ h; exact h) (Or.inl ⟨by rfl, fun w hSw => by (dsimp only at hSw; go_simp; (try with_reducible rfl))⟩) (by assumption) ?_
        simp only [Act.put, List.setIfInBounds_toArray, List.set_cons_zero, List.set_cons_succ]
        refine wpAnyH_take (i := 7) (by simp only [List.getElem?_toArray, List.getElem?_cons_zero, List.getElem?_cons_succ]; rfl) (by kernel_rfl) (by kernel_rfl) (by kernel_rfl) (by intro _ _ _ h; exact h) (Or.inl ⟨by rfl, fun w hSw => by (dsimp only at hSw; go_simp; (try with_reducible rfl))⟩) (by assumption) ?_
        simp only [Act.put, List.setIfInBounds_toArray, List.set_cons_zero, List.set_cons_succ]
        refine wpAnyH_ready (rs := [8]) (by kernel_rfl) (by simp) ?_
        refine AllReadyH.cons (by simp only [List.getElem?_toArray, List.getElem?_cons_zero, List.getElem?_cons_succ]; rfl) ?_ AllReadyH.nil
        intro K hK
        go_simp
        have EQ := liketab ua ucc ura ucr va vc vra vcr v vnc vnr HVC.out HVR.out VQ.drew (UQ.out.below (Below.refl _ _).drew) (VVQ.out.below (Below.refl _ _).drew)
        rw [HVN.out] at EQ
        refine EQ.mono ?_
        clear EQ UQ VVQ
        rintro e wR ⟨rfl, hbR'⟩
        have hbR : Below VQ.heap.size VQ wR := undrew hbR'
        have FR := Full.next FQ hbR
        have bR := bQ.out.below hbR
        obtain ⟨r0, r1, r2, r3⟩ := bR
        rw [← hbR.cell (p := ⟨g, _, none⟩) hgQ] at c0 c1 c2
        clear hbR hbR' FQ q0 q1 q2 q3 hgQ bQ
        go_wp2_with fail
        refine hK.out _ _ ⟨⟨r0, r1, r2⟩, ⟨c0, c1, c2⟩⟩ (fun hHeld => ?_)
        clear hK K
        try simp only [Act.put, List.setIfInBounds_toArray, List.set_cons_zero, List.set_cons_succ]
        refine wpAnyH_take (i := 9) (by simp only [List.getElem?_toArray, List.getElem?_cons_zero, List.getElem?_cons_succ]; rfl) (by kernel_rfl) (by kernel_rfl) (by kernel_rfl) (by intro _ _ _ h; exact h) (Or.inl ⟨by rfl, fun w hSw => by (dsimp only at hSw; go_simp; (try with_reducible rfl))⟩) (by assumption) ?_
        simp only [Act.put, List.setIfInBounds_toArray, List.set_cons_zero, List.set_cons_succ]
        refine wpAnyH_take (i := 10) (by simp only [List.getElem?_toArray, List.getElem?_cons_zero, List.getElem?_cons_succ]; rfl) (by kernel_rfl) (by kernel_rfl) (by kernel_rfl) (by intro _ _ _ h; exact h) (Or.inl ⟨by rfl, fun w hSw => by (dsimp only at hSw; go_simp; (try with_reducible rfl))⟩) (by assumption) ?_
        simp only [Act.put, List.setIfInBounds_toArray, List.set_cons_zero, List.set_cons_succ]
        refine wpAnyH_done (by kernel_rfl) ?_ _
        clear r0 r1 r2 r3 c0 c1 c2
        go_wp2
        go_roundw
        case rel => exact ⟨k + 1, by omega, by go_num, FR⟩
        case measure => simp [intOf]; omega
      · have hkl : k = n := by omega
        subst hkl
        have hnn : ¬ (k : Int) < (k : Int) := by omega
        go_wp2_with fail
        refine (tablein_has aX cX X nU HXN.out wr (FR.out.lay.tabs (aX, X) (by simp)) (by omega) HBX.out (nm, C, []) HNMX.out nm rfl hnmM).mono ?_
        rintro e wP ⟨uc, ur, ua, ucc, ura, ucr, rfl, huc, hur, hTA, hbP⟩
        dsimp only at huc hur ⊢
        obtain rfl : nc = uc := by rw [← huc]; exact HCN.out.symm
        obtain rfl : 0 = ur := hur
        have UP : Hid (StrsAt wP ua C) := hTA.cols
        have FP := Full.next FR hbP
        clear hbP hTA FR huc
        go_wp2_with fail
        obtain ⟨VQ, hVQ⟩ : ∃ V, V = (wP.alloc (.cells #[.string nm, .slice ua nc ucc, .slice ura 0 ucr] 35)) := ⟨_, rfl⟩
        rw [← hVQ]
        have hAQ : Below wP.heap.size wP VQ := by rw [hVQ]; exact (Below.refl _ _).alloc (Nat.le_refl _) _
        have bQ : Hid (Box VQ wP.heap.size (.string nm) (.slice ua nc ucc) (.slice ura 0 ucr)) := by
          have : Box VQ wP.heap.size (.string nm) (.slice ua nc ucc) (.slice ura 0 ucr) := by subst hVQ; exact box3 (Below.refl _ _)
          exact this
        have FQ := Full.next FP hAQ
        have UQ : Hid (StrsAt VQ ua C) := UP.out.below hAQ
        clear hVQ hAQ FP UP
        refine (dropped_impl aX _ X nU HXN.out nm hnmM VQ (FQ.out.lay.tabs (aX, X) (by simp)) (by omega) B true HDX.out).mono ?_
        rintro e wR ⟨aK, nK, cK, QK, hKn, rfl, hOK, hbR, hcK⟩
        obtain rfl : k = nK := by rw [← hKn]; exact HB.out.symm
        have TK : Hid (TabsAt wR aK B) := hOK.lies
        have bR : Hid (Box wR wP.heap.size (.string nm) (.slice ua nc ucc) (.slice ura 0 ucr)) := bQ.out.below hbR
        have FS := Full.next FQ hbR
        have UR : Hid (StrsAt wR ua C) := UQ.out.below hbR
        clear hbR hOK hKn FQ UQ bQ hcK
        obtain ⟨r0, r1, r2, r3⟩ := bR.out
        go_wp2_with fail
        refine (liketextsN nc ua ca ucc cc C HCN.out wR UR.out FS.out.str (by unfold maxLen; omega)).mono ?_
        rintro e wS ⟨rfl, hbS⟩
        have FT := Full.next FS hbS
        have TS : Hid (TabsAt wS aK B) := TK.out.below hbS
        have bS : Hid (Box wS wP.heap.size (.string nm) (.slice ua nc ucc) (.slice ura 0 ucr)) := bR.out.below hbS
        clear hbS r0 r1 r2 r3 FS TK bR UR
        obtain ⟨r0, r1, r2, r3⟩ := bS.out
        go_wp2_with fail
        refine (baseok_impl aX _ X nU HXN.out wS (FT.out.lay.tabs (aX, X) (by simp)) (by omega) true HBX.out).mono ?_
        rintro e wT ⟨rfl, hbT⟩
        have FU := Full.next FT hbT
        have TT : Hid (TabsAt wT aK B) := TS.out.below hbT
        clear hbT r0 r1 r2 r3 FT TS bS
        go_wp2_with fail
        refine (likebase aK aB cK _ B k HB.out wT TT.out (FU.out.lay.tabs (aB, B) (by simp)) hnM).mono ?_
        rintro e wU ⟨rfl, hbU⟩
        have FV := Full.next FU hbU
        clear hbU FU TT
        go_wp2
        go_ret
        exact ⟨rfl, FV.out.lay.bel⟩
end baseLaw
end Go.Proofs.YteamdmcgkpeelabGreatDoor

/-
  From the row's condition on the listed variables to what the walks ask of them.
-/
namespace Go.Proofs.YteamdmcgkpeelabGreatDoor
open Go.ChangeShapes Go.WideShapes Go.ChangeAt Go.RowKit

theorem gPow : (Tryz.prog.globalNamed "internal/strconv.uint64pow10").bind (fun g => (Tryz.prog.globals[g]?).map (·.type)) = some 182 := by kernel_rfl
theorem pow_data : (Rows.laid_internal_strconv_uint64pow10 : DataW Unit) = Lib.tabData .u64 Lib.pow10Tab := by kernel_rfl
theorem pow_of {W : World} {rest : List (String × DataW Unit)} (h : laidMet Tryz.prog (("internal/strconv.uint64pow10", Rows.laid_internal_strconv_uint64pow10) :: rest) W) : PowAt W := by
  rw [pow_data] at h
  obtain ⟨g, hg, ht⟩ := Option.bind_eq_some_iff.1 gPow
  exact Lib.tabIs_of_head hg ht Tryz.underlying182 Tryz.underlying161 (by kernel_rfl) (by kernel_rfl) h

end Go.Proofs.YteamdmcgkpeelabGreatDoor
