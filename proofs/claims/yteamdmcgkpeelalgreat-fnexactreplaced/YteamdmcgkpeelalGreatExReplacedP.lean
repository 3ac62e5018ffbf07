/-
  Proved: at every list of tables and every table the program's Replaced answers as its model does; it writes into no argument and keeps nothing of one; its answer owns its memory, behind another call too; the law's arguments read afterwards as before; no condition.
-/
import Derived.Test.YteamdmcgkpeelalGreatPart13
import Derived.Test.YteamdmcgkpeelalGreatPart14
import Derived.Lib.SmallJoins
namespace Go.Proofs.YteamdmcgkpeelalGreat
open Go.ChangeShapes Go.WideShapes Go.ChangeAt Go.RowKit Go.Joins
attribute [local go_sem ↓] Go.wp_at_zero Go.wp_at_succ
attribute [local simp] World.cell?_alloc_past World.cell?_alloc_at World.frozen?_alloc_at cell_far cell_off cell_here World.frozen?_alloc_past

theorem leftTs_leR {T : List TB} {x : Int} (h : 0 ≤ leftTs T x) : leftTs T x ≤ x := by
  induction T generalizing x with
  | nil => exact Int.le_refl _
  | cons t T ih =>
    unfold leftTs at h ⊢
    split at h
    · omega
    rename_i hn
    rw [if_neg hn]
    have := ih h
    have := leftT_le t x (by omega)
    omega
theorem leftTS_leR {T : List TB} {x : Int} (h : 0 ≤ leftTS T x) : leftTS T x ≤ x := by
  unfold leftTS at h ⊢
  split at h
  · omega
  rename_i hn
  rw [if_neg hn]
  have := leftTs_leR h
  omega

namespace exReplaced

theorem own : ownKnob Tryz.prog.godebug = none := by kernel_rfl
theorem laidOut : laidOutB Tryz.prog = true := by kernel_rfl

set_option maxRecDepth 100000 in
set_option maxHeartbeats 8000000 in
theorem walk (a : Option Addr) (cap : Nat) (T : List TB) (n : Nat) (hn : T.length = n) (ca : Option Addr) (cc : Nat) (ra : Option Addr) (cr : Nat) (t : TB) (nc nr : Nat) (hnc : t.2.1.length = nc) (hnr : t.2.2.length = nr) (w : World) (ht : TabsAt w a T) (htt : TabAt w ca cc ra t) (hm : n ≤ maxLen) :
    Calls Tryz.prog 3 #[.slice a n cap, .agg #[.string t.1, .slice ca nc cc, .slice ra nr cr]] w fun e w' => e = .returned (.bool true) ∧ Below w.heap.size w w' := by
  have HN : Hid (T.length = n) := hn
  have HNC : Hid (t.2.1.length = nc) := hnc
  have HNR : Hid (t.2.2.length = nr) := hnr
  obtain ⟨x, hx1⟩ : ∃ x, leftTS T 1048576 = x := ⟨_, rfl⟩
  have HX1 : Hid (leftTS T 1048576 = x) := hx1
  obtain ⟨W0, hW0⟩ : ∃ W, W = (w.alloc (.cells #[.string t.1, .slice ca nc cc, .slice ra nr cr] 26)) := ⟨_, rfl⟩
  have HWE : Hid (w.alloc (.cells #[.string t.1, .slice ca nc cc, .slice ra nr cr] 26) = W0) := hW0.symm
  have hA : Below w.heap.size w W0 := by rw [hW0]; exact (Below.refl _ _).alloc (Nat.le_refl _) _
  have HB0 : Hid (Box W0 w.heap.size (.string t.1) (.slice ca nc cc) (.slice ra nr cr)) := by
    have : Box W0 w.heap.size (.string t.1) (.slice ca nc cc) (.slice ra nr cr) := by subst hW0; exact box3 (Below.refl _ _)
    exact this
  have HT : Hid (TabsAt W0 a T) := ht.below hA
  have HTT : Hid (TabAt W0 ca cc ra t) := htt.below hA
  have hwW : w.heap.size < W0.heap.size := HB0.out.2.2.2
  clear ht hn hnc hnr htt hW0
  by_cases hx0 : x < 0
  · clear hx1
    go_enter Tryz.func3, Tryz.ntmps3
    go_wp2_with fail
    rw [HWE.out]
    refine (sztabs_laws a cap T n HN.out 1048576 _ HT.out hm (by omega) (by omega)).mono ?_
    rw [HX1.out]
    rintro e w1 ⟨rfl, hb1⟩
    go_wp2
    go_ret
    exact ⟨rfl, chain hA hb1⟩
  have hx0' : 0 ≤ x := by omega
  have hxle : x ≤ 1048576 := by rw [← hx1]; exact leftTS_leR (by rw [hx1]; exact hx0')
  obtain ⟨y, hy1⟩ : ∃ y, leftT t x = y := ⟨_, rfl⟩
  have HY1 : Hid (leftT t x = y) := hy1
  by_cases hy0 : y < 0
  · clear hx1 hy1
    go_enter Tryz.func3, Tryz.ntmps3
    go_wp2_with fail
    rw [HWE.out]
    refine (sztabs_laws a cap T n HN.out 1048576 _ HT.out hm (by omega) (by omega)).mono ?_
    rw [HX1.out]
    rintro e w1 ⟨rfl, hb1⟩
    obtain ⟨p0, p1, p2, p3⟩ := HB0.out.below hb1
    go_wp2_with fail
    refine (sztab_laws ca cc ra cr t nc nr HNC.out HNR.out _ (HTT.out.below hb1) x hx0' hxle).mono ?_
    rw [HY1.out]
    rintro e w2 ⟨rfl, hb2⟩
    go_wp2
    go_ret
    exact ⟨rfl, chain hA (chain hb1 hb2)⟩
  have hy0' : 0 ≤ y := by omega
  have hq := leftTS_fits (T := T) (x := 1048576) (by omega) (by rw [hx1]; exact hx0')
  have hnm : n ≤ 1048576 := by rw [← HN.out]; exact hq.1
  have hoff := offT_leftTS (T := T) (x := 1048576) (by omega) (by rw [hx1]; exact hx0')
  have hqt := leftT_fit (t := t) (left := x) hxle (by rw [hy1]; exact hy0')
  have hto := tabN_left (t := t) (x := x) (by rw [hy1]; exact hy0')
  rw [hy1] at hto
  have Z : Hid (∀ w', Below W0.heap.size W0 w' → Calls Tryz.prog 7 #[.slice a n cap] w' fun e w'' => ∃ g Q, e = .returned (.slice (some ⟨g, 0, none⟩) n n) ∧ OutTs w'' w'.heap.size (some ⟨g, 0, none⟩) T Q ∧ Below w'.heap.size w' w'') := by
    have : ∀ w', Below W0.heap.size W0 w' → Calls Tryz.prog 7 #[.slice a n cap] w' fun e w'' => ∃ g Q, e = .returned (.slice (some ⟨g, 0, none⟩) n n) ∧ OutTs w'' w'.heap.size (some ⟨g, 0, none⟩) T Q ∧ Below w'.heap.size w' w'' :=
      fun w' hw => totabs_out a cap T n HN.out w' (HT.out.below hw) hnm hq.2
    exact this
  have ZT : Hid (∀ w', Below W0.heap.size W0 w' → Calls Tryz.prog 8 #[.agg #[.string t.1, .slice ca nc cc, .slice ra nr cr]] w' fun e w'' => ∃ g g2 A C, e = .returned (.agg #[.string t.1, .slice (some ⟨g, 0, none⟩) nc nc, .slice (some ⟨g2, 0, none⟩) nr nr]) ∧ OutTab w'' w'.heap.size (some ⟨g, 0, none⟩) nc (some ⟨g2, 0, none⟩) t A C ∧ Below w'.heap.size w' w'') := by
    have : ∀ w', Below W0.heap.size W0 w' → Calls Tryz.prog 8 #[.agg #[.string t.1, .slice ca nc cc, .slice ra nr cr]] w' fun e w'' => ∃ g g2 A C, e = .returned (.agg #[.string t.1, .slice (some ⟨g, 0, none⟩) nc nc, .slice (some ⟨g2, 0, none⟩) nr nr]) ∧ OutTab w'' w'.heap.size (some ⟨g, 0, none⟩) nc (some ⟨g2, 0, none⟩) t A C ∧ Below w'.heap.size w' w'' := by
      intro w' hw
      have ht := HTT.out.below hw
      refine (totab_laws ca cc ra cr t nc nr HNC.out HNR.out w' ht (by rw [← HNC.out]; exact hqt.2.1) (by rw [← HNR.out]; exact hqt.2.2.1) hqt.2.2.2).mono ?_
      rintro e w'' ⟨g, g2, rfl, hN, hb⟩
      obtain ⟨A, C, hO⟩ := hN.out ht.fit ht.name ht.len ht.lenR (fun i hi => by obtain ⟨_, _, _, _, _, _, _, _, h, _⟩ := ht.rows i hi; exact h) (fun i hi => by obtain ⟨_, _, _, _, _, _, _, _, _, h, _⟩ := ht.rows i hi; exact h)
      rw [HNC.out] at hO
      exact ⟨g, g2, A, C, rfl, hO, hb⟩
    exact this
  obtain ⟨V, r, hVr⟩ : ∃ V r, replacedR T t = (V, r) := ⟨_, _, rfl⟩
  have HV : Hid (replacedR T t = (V, r)) := hVr
  obtain ⟨hgood, hV5⟩ := replaced_good hVr
  have hoV := offT_small hgood hV5
  obtain ⟨k, hk⟩ : ∃ k, V.length = k := ⟨_, rfl⟩
  have HK : Hid (V.length = k) := hk
  have hkM : k ≤ maxLen := by unfold maxLen; omega
  have HLR : Hid (∀ i (_ : i < V.length), V[i].2.2.length ≤ maxLen) := by
    have : ∀ i (_ : i < V.length), V[i].2.2.length ≤ maxLen := fun i hi => by
      have := (tableB_small (hgood _ (List.getElem_mem hi))).2.1
      unfold maxLen; omega
    exact this
  obtain ⟨rX, hrX⟩ : ∃ rX, 1 + offT T T.length = rX := ⟨_, rfl⟩
  have HRX : Hid (1 + offT T T.length = rX) := hrX
  have hrX1 : rX ≤ 1099511627776 := by omega
  obtain ⟨rXT, hrXT⟩ : ∃ q, markN t rX = q := ⟨_, rfl⟩
  have HRXT : Hid (markN t rX = rXT) := hrXT
  have hrXT1 : rXT ≤ 1099511627776 := by
    have : markN t rX + 1 = rX + tabN t := by unfold markN tabN; omega
    omega
  have hrX0 : ¬ (rXT : Int) < 0 := by omega
  have hrXp : 0 < rX := by omega
  obtain ⟨rV, hrV⟩ : ∃ rV, 1 + offT V V.length = rV := ⟨_, rfl⟩
  have HRV : Hid (1 + offT V V.length = rV) := hrV
  have hrV1 : rV ≤ 1099511627776 := by omega
  have hrV0 : ¬ (rV : Int) < 0 := by omega
  have hrVV : ((rV : Int) == (rV : Int)) = true := by simp
  have hrr : (r == r) = true := by simp
  clear hVr hgood hV5 hoV hk hrX hrV hoff hx1 hq hqt hto hy1 hrXT
  go_enter Tryz.func3, Tryz.ntmps3
  go_wp2_with fail
  rw [HWE.out]
  refine (sztabs_laws a cap T n HN.out 1048576 _ HT.out hm (by omega) (by omega)).mono ?_
  rw [HX1.out]
  rintro e w1 ⟨rfl, hx⟩
  obtain ⟨p0, p1, p2, p3⟩ := HB0.out.below hx
  go_wp2_with fail
  refine (sztab_laws ca cc ra cr t nc nr HNC.out HNR.out _ (HTT.out.below hx) x hx0' hxle).mono ?_
  rw [HY1.out]
  rintro e w1b ⟨rfl, hb1b⟩
  replace hx := chain hx hb1b
  clear hb1b p0 p1 p2 p3
  obtain ⟨p0, p1, p2, p3⟩ := HB0.out.below hx
  go_wp2_with fail
  refine wp_region_held_drew (S := (fun w' => w'.cell? ⟨w.heap.size, 0, none⟩ = some (.string t.1) ∧ w'.cell? ⟨w.heap.size, 1, none⟩ = some (.slice ca nc cc) ∧ w'.cell? ⟨w.heap.size, 2, none⟩ = some (.slice ra nr cr))) (by kernel_rfl) ?_ (fun hHeld => ?_)
  · exact ⟨p0, p1, p2⟩
  refine wpAnyH_take (i := 0) (by simp only [List.getElem?_toArray, List.getElem?_cons_zero]; rfl) (by kernel_rfl) (by kernel_rfl) (by kernel_rfl) (by intro _ _ _ h; exact h) (Or.inl ⟨by rfl, fun w hSw => by (dsimp only at hSw; go_simp; (try with_reducible rfl))⟩) (by assumption) ?_
  simp only [Act.put, List.setIfInBounds_toArray, List.set_cons_zero, List.set_cons_succ]
  refine wpAnyH_take (i := 2) (by simp only [List.getElem?_toArray, List.getElem?_cons_zero, List.getElem?_cons_succ]; rfl) (by kernel_rfl) (by kernel_rfl) (by kernel_rfl) (by intro _ _ _ h; exact h) (Or.inl ⟨by rfl, fun w hSw => by (dsimp only at hSw; go_simp; (try with_reducible rfl))⟩) (by assumption) ?_
  simp only [Act.put, List.setIfInBounds_toArray, List.set_cons_zero, List.set_cons_succ]
  refine wpAnyH_ready (rs := [1]) (by kernel_rfl) (by simp) ?_
  refine AllReadyH.cons (by simp only [List.getElem?_toArray, List.getElem?_cons_zero, List.getElem?_cons_succ]; rfl) ?_ AllReadyH.nil
  intro K hK
  go_simp
  refine (Z.out _ hx.drew).mono ?_
  rintro e w2a ⟨g1, Q1, rfl, O1, hb2⟩
  have hx2a : Below W0.heap.size W0 w2a := hx.trans ((undrew hb2).mono hx.size)
  clear p0 p1 p2 p3 hb2
  obtain ⟨p0, p1, p2, p3⟩ := HB0.out.below hx2a
  go_wp2_with fail
  refine hK.out _ _ ⟨p0, p1, p2⟩ (fun hHeld => ?_)
  clear hK K
  try simp only [Act.put, List.setIfInBounds_toArray, List.set_cons_zero, List.set_cons_succ]
  refine wpAnyH_ready (rs := [3]) (by kernel_rfl) (by simp) ?_
  refine AllReadyH.cons (by simp only [List.getElem?_toArray, List.getElem?_cons_zero, List.getElem?_cons_succ]; rfl) ?_ AllReadyH.nil
  intro K hK
  go_simp
  refine (ZT.out _ hx2a).mono ?_
  rintro e w2 ⟨gt1, gt2, A1, C1, rfl, OT1, hb2⟩
  have hx2 : Below W0.heap.size W0 w2 := chain hx2a hb2
  have HO1 : Hid (TabsAt w2 (some ⟨g1, 0, none⟩) T) := (O1.below hb2).lies
  have HOT1 : Hid (TabAt w2 (some ⟨gt1, 0, none⟩) nc (some ⟨gt2, 0, none⟩) t) := OT1.tab
  clear p0 p1 p2 p3 hb2 O1 OT1
  obtain ⟨p0, p1, p2, p3⟩ := HB0.out.below hx2
  go_wp2_with fail
  refine hK.out _ _ ⟨p0, p1, p2⟩ (fun hHeld => ?_)
  clear hK K
  try simp only [Act.put, List.setIfInBounds_toArray, List.set_cons_zero, List.set_cons_succ]
  refine wpAnyH_ready (rs := [4]) (by kernel_rfl) (by simp) ?_
  refine AllReadyH.cons (by simp only [List.getElem?_toArray, List.getElem?_cons_zero, List.getElem?_cons_succ]; rfl) ?_ AllReadyH.nil
  intro K hK
  go_simp
  refine (replaced_spec _ _ T n HN.out _ _ _ _ t nc nr HNC.out HNR.out _ HO1.out HOT1.out hnm V r HV.out).mono ?_
  rintro e w3 ⟨aS, k', cS, hk', rfl, TS, hb3⟩
  obtain rfl : k = k' := HK.out.symm.trans hk'
  have HTS : Hid (TabsAt w3 aS V) := TS
  replace hx := chain hx2 hb3
  have hws3 : W0.heap.size ≤ w3.heap.size := hx.size
  clear hb3 TS hk' HO1 HOT1 hx2 hx2a p0 p1 p2 p3
  obtain ⟨p0, p1, p2, p3⟩ := HB0.out.below hx
  go_wp2_with fail
  refine hK.out _ _ ⟨p0, p1, p2⟩ (fun hHeld => ?_)
  clear hK K
  try simp only [Act.put, List.setIfInBounds_toArray, List.set_cons_zero, List.set_cons_succ]
  refine wpAnyH_take (i := 5) (by simp only [List.getElem?_toArray, List.getElem?_cons_zero, List.getElem?_cons_succ]; rfl) (by kernel_rfl) (by kernel_rfl) (by kernel_rfl) (by intro _ _ _ h; exact h) (Or.inl ⟨by rfl, fun w hSw => by (dsimp only at hSw; go_simp; (try with_reducible rfl))⟩) (by assumption) ?_
  simp only [Act.put, List.setIfInBounds_toArray, List.set_cons_zero, List.set_cons_succ]
  refine wpAnyH_take (i := 6) (by simp only [List.getElem?_toArray, List.getElem?_cons_zero, List.getElem?_cons_succ]; rfl) (by kernel_rfl) (by kernel_rfl) (by kernel_rfl) (by intro _ _ _ h; exact h) (Or.inl ⟨by rfl, fun w hSw => by (dsimp only at hSw; go_simp; (try with_reducible rfl))⟩) (by assumption) ?_
  simp only [Act.put, List.setIfInBounds_toArray, List.set_cons_zero, List.set_cons_succ]
  refine wpAnyH_take (i := 7) (by simp only [List.getElem?_toArray, List.getElem?_cons_zero, List.getElem?_cons_succ]; rfl) (by kernel_rfl) (by kernel_rfl) (by kernel_rfl) (by intro _ _ _ h; exact h) (Or.inl ⟨by rfl, fun w hSw => by (dsimp only at hSw; go_simp; (try with_reducible rfl))⟩) (by assumption) ?_
  simp only [Act.put, List.setIfInBounds_toArray, List.set_cons_zero, List.set_cons_succ]
  refine wpAnyH_take (i := 8) (by simp only [List.getElem?_toArray, List.getElem?_cons_zero, List.getElem?_cons_succ]; rfl) (by kernel_rfl) (by kernel_rfl) (by kernel_rfl) (by intro _ _ _ h; exact h) (Or.inl ⟨by rfl, fun w hSw => by (dsimp only at hSw; go_simp; (try with_reducible rfl))⟩) (by assumption) ?_
  simp only [Act.put, List.setIfInBounds_toArray, List.set_cons_zero, List.set_cons_succ]
  refine wpAnyH_take (i := 9) (by simp only [List.getElem?_toArray, List.getElem?_cons_zero, List.getElem?_cons_succ]; rfl) (by kernel_rfl) (by kernel_rfl) (by kernel_rfl) (by intro _ _ _ h; exact h) (Or.inl ⟨by rfl, fun w hSw => by (dsimp only at hSw; go_simp; (try with_reducible rfl))⟩) (by assumption) ?_
  simp only [Act.put, List.setIfInBounds_toArray, List.set_cons_zero, List.set_cons_succ]
  refine wpAnyH_done (by kernel_rfl) ?_ _
  clear p0 p1 p2 p3
  go_wp2_with fail
  refine (Z.out _ hx).mono ?_
  rintro e w4a ⟨gX, QX, rfl, OX, hb4⟩
  have HXlta : Hid (∀ b, tabsBlks (some ⟨gX, 0, none⟩) T QX b → b < w4a.heap.size) := OX.blks_lt
  have HOX4a : Hid (OutTs w4a w3.heap.size (some ⟨gX, 0, none⟩) T QX) := OX
  replace hx := chain hx hb4
  have hS4a : Below w3.heap.size w3 w4a := hb4
  clear hb4 OX
  obtain ⟨p0, p1, p2, p3⟩ := HB0.out.below hx
  go_wp2_with fail
  refine (ZT.out _ hx).mono ?_
  rintro e w4b ⟨gY, gY2, AY, CY, rfl, OY, hb4⟩
  obtain ⟨w4, hw4⟩ : ∃ W, W = (w4b.alloc (.cells #[.string t.1, .slice (some ⟨gY, 0, none⟩) nc nc, .slice (some ⟨gY2, 0, none⟩) nr nr] 35)) := ⟨_, rfl⟩
  have HW4 : Hid (w4b.alloc (.cells #[.string t.1, .slice (some ⟨gY, 0, none⟩) nc nc, .slice (some ⟨gY2, 0, none⟩) nr nr] 35) = w4) := hw4.symm
  have hA4 : Below w4b.heap.size w4b w4 := by rw [hw4]; exact (Below.refl _ _).alloc (Nat.le_refl _) _
  have HBX4 : Hid (Box w4 w4b.heap.size (.string t.1) (.slice (some ⟨gY, 0, none⟩) nc nc) (.slice (some ⟨gY2, 0, none⟩) nr nr)) := by
    have : Box w4 w4b.heap.size (.string t.1) (.slice (some ⟨gY, 0, none⟩) nc nc) (.slice (some ⟨gY2, 0, none⟩) nr nr) := by subst hw4; exact box3 (Below.refl _ _)
    exact this
  have hb44 : Below w4a.heap.size w4a w4 := chain hb4 hA4
  have HOX4 : Hid (OutTs w4 w3.heap.size (some ⟨gX, 0, none⟩) T QX) := HOX4a.out.below hb44
  have HOY4 : Hid (OutTab w4 w4a.heap.size (some ⟨gY, 0, none⟩) nc (some ⟨gY2, 0, none⟩) t AY CY) := OY.below hA4
  have HYlt : Hid (∀ b, tabBlks (some ⟨gY, 0, none⟩) (some ⟨gY2, 0, none⟩) t AY b → b < w4b.heap.size) := OY.lt
  replace hx := chain hx hb44
  have hS : Below w3.heap.size w3 w4 := chain hS4a hb44
  have hs3a : w3.heap.size ≤ w4a.heap.size := hS4a.size
  have hsab : w4a.heap.size ≤ w4b.heap.size := hb4.size
  have hsb4 : w4b.heap.size < w4.heap.size := HBX4.out.2.2.2
  clear hb4 OY hw4 hA4 hb44 HOX4a hS4a p0 p1 p2 p3
  obtain ⟨p0, p1, p2, p3⟩ := HBX4.out
  go_wp2_with fail
  rw [HW4.out]
  refine (replaced_impl _ _ T n HN.out _ _ _ _ t nc nr HNC.out HNR.out _ HOX4.out.lies HOY4.out.tab hnm V r HV.out).mono ?_
  rintro e w5 ⟨aG, k', cG, QG, hk', rfl, OG, hb5, _⟩
  obtain rfl : k = k' := HK.out.symm.trans hk'
  have HOG5 : Hid (OutTs w5 w4.heap.size aG V QG) := OG
  have HOX5 : Hid (OutTs w5 w3.heap.size (some ⟨gX, 0, none⟩) T QX) := HOX4.out.below hb5
  have HOY5 : Hid (OutTab w5 w4a.heap.size (some ⟨gY, 0, none⟩) nc (some ⟨gY2, 0, none⟩) t AY CY) := HOY4.out.below hb5
  have HBX5 : Hid (Box w5 w4b.heap.size (.string t.1) (.slice (some ⟨gY, 0, none⟩) nc nc) (.slice (some ⟨gY2, 0, none⟩) nr nr)) := HBX4.out.below hb5
  replace hx := chain hx hb5
  have hS5 : Below w3.heap.size w3 w5 := chain hS hb5
  clear hb5 OG hk' HOX4 hS HOY4 HBX4 HW4 p0 p1 p2 p3
  go_wp2_with fail
  refine (eqtabs_laws _ _ _ _ V k HK.out _ HOG5.out.lies (HTS.out.below hS5) hkM).mono ?_
  rintro e w6 ⟨rfl, hb6⟩
  have HOG6 : Hid (OutTs w6 w4.heap.size aG V QG) := HOG5.out.below hb6
  have HOX6 : Hid (OutTs w6 w3.heap.size (some ⟨gX, 0, none⟩) T QX) := HOX5.out.below hb6
  have HOY6 : Hid (OutTab w6 w4a.heap.size (some ⟨gY, 0, none⟩) nc (some ⟨gY2, 0, none⟩) t AY CY) := HOY5.out.below hb6
  have HBX6 : Hid (Box w6 w4b.heap.size (.string t.1) (.slice (some ⟨gY, 0, none⟩) nc nc) (.slice (some ⟨gY2, 0, none⟩) nr nr)) := HBX5.out.below hb6
  replace hx := chain hx hb6
  have hS6 : Below w3.heap.size w3 w6 := chain hS5 hb6
  clear hb6 HOG5 HOX5 HOY5 HBX5 hS5
  go_wp2_with fail
  refine (Z.out _ hx).mono ?_
  rintro e w7 ⟨g7, Q7, rfl, O7, hb7⟩
  have HOG7 : Hid (OutTs w7 w4.heap.size aG V QG) := HOG6.out.below hb7
  have HOX7 : Hid (OutTs w7 w3.heap.size (some ⟨gX, 0, none⟩) T QX) := HOX6.out.below hb7
  have HOY7 : Hid (OutTab w7 w4a.heap.size (some ⟨gY, 0, none⟩) nc (some ⟨gY2, 0, none⟩) t AY CY) := HOY6.out.below hb7
  have HBX7 : Hid (Box w7 w4b.heap.size (.string t.1) (.slice (some ⟨gY, 0, none⟩) nc nc) (.slice (some ⟨gY2, 0, none⟩) nr nr)) := HBX6.out.below hb7
  replace hx := chain hx hb7
  have hS7 : Below w3.heap.size w3 w7 := chain hS6 hb7
  clear hb7 HOG6 HOX6 HOY6 HBX6 hS6
  go_wp2_with fail
  refine (eqtabs_laws _ _ _ _ T n HN.out _ HOX7.out.lies O7.lies hm).mono ?_
  rintro e w8 ⟨rfl, hb8⟩
  have HOG8 : Hid (OutTs w8 w4.heap.size aG V QG) := HOG7.out.below hb8
  have HOX8 : Hid (OutTs w8 w3.heap.size (some ⟨gX, 0, none⟩) T QX) := HOX7.out.below hb8
  have HOY8 : Hid (OutTab w8 w4a.heap.size (some ⟨gY, 0, none⟩) nc (some ⟨gY2, 0, none⟩) t AY CY) := HOY7.out.below hb8
  have HBX8 : Hid (Box w8 w4b.heap.size (.string t.1) (.slice (some ⟨gY, 0, none⟩) nc nc) (.slice (some ⟨gY2, 0, none⟩) nr nr)) := HBX7.out.below hb8
  replace hx := chain hx hb8
  have hS8 : Below w3.heap.size w3 w8 := chain hS7 hb8
  clear hb8 HOG7 HOX7 HOY7 HBX7 hS7
  clear O7
  obtain ⟨p0, p1, p2, p3⟩ := HB0.out.below hx
  obtain ⟨q0, q1, q2, q3⟩ := HBX8.out
  go_wp2_with fail
  refine wp_region_held_drew (S := (fun w' => w'.cell? ⟨w.heap.size, 0, none⟩ = some (.string t.1) ∧ w'.cell? ⟨w.heap.size, 1, none⟩ = some (.slice ca nc cc) ∧ w'.cell? ⟨w.heap.size, 2, none⟩ = some (.slice ra nr cr) ∧ w'.cell? ⟨w4b.heap.size, 0, none⟩ = some (.string t.1) ∧ w'.cell? ⟨w4b.heap.size, 1, none⟩ = some (.slice (some ⟨gY, 0, none⟩) nc nc) ∧ w'.cell? ⟨w4b.heap.size, 2, none⟩ = some (.slice (some ⟨gY2, 0, none⟩) nr nr))) (by kernel_rfl) ?_ (fun hHeld => ?_)
  · exact ⟨p0, p1, p2, q0, q1, q2⟩
  refine wpAnyH_take (i := 0) (by simp only [List.getElem?_toArray, List.getElem?_cons_zero]; rfl) (by kernel_rfl) (by kernel_rfl) (by kernel_rfl) (by intro _ _ _ h; exact h) (Or.inl ⟨by rfl, fun w hSw => by (dsimp only at hSw; go_simp; (try with_reducible rfl))⟩) (by assumption) ?_
  simp only [Act.put, List.setIfInBounds_toArray, List.set_cons_zero, List.set_cons_succ]
  refine wpAnyH_take (i := 1) (by simp only [List.getElem?_toArray, List.getElem?_cons_zero, List.getElem?_cons_succ]; rfl) (by kernel_rfl) (by kernel_rfl) (by kernel_rfl) (by intro _ _ _ h; exact h) (Or.inl ⟨by rfl, fun w hSw => by (dsimp only at hSw; go_simp; (try with_reducible rfl))⟩) (by assumption) ?_
  simp only [Act.put, List.setIfInBounds_toArray, List.set_cons_zero, List.set_cons_succ]
  refine wpAnyH_ready (rs := [2]) (by kernel_rfl) (by simp) ?_
  refine AllReadyH.cons (by simp only [List.getElem?_toArray, List.getElem?_cons_zero, List.getElem?_cons_succ]; rfl) ?_ AllReadyH.nil
  intro K hK
  go_simp
  refine (ZT.out _ hx.drew).mono ?_
  rintro e w8a ⟨gt8, gt8b, A8, C8, rfl, OT8, hb8a'⟩
  have hb8a : Below w8.heap.size w8 w8a := undrew hb8a'
  clear hb8a' p0 p1 p2 p3 q0 q1 q2 q3
  have HOG8a : Hid (OutTs w8a w4.heap.size aG V QG) := HOG8.out.below hb8a
  have HOX8a : Hid (OutTs w8a w3.heap.size (some ⟨gX, 0, none⟩) T QX) := HOX8.out.below hb8a
  have HOY8a : Hid (OutTab w8a w4a.heap.size (some ⟨gY, 0, none⟩) nc (some ⟨gY2, 0, none⟩) t AY CY) := HOY8.out.below hb8a
  have HBX8a : Hid (Box w8a w4b.heap.size (.string t.1) (.slice (some ⟨gY, 0, none⟩) nc nc) (.slice (some ⟨gY2, 0, none⟩) nr nr)) := HBX8.out.below hb8a
  replace hx := chain hx hb8a
  have hS8a : Below w3.heap.size w3 w8a := chain hS8 hb8a
  clear hb8a HOG8 HOX8 HOY8 HBX8 hS8
  obtain ⟨p0, p1, p2, p3⟩ := HB0.out.below hx
  obtain ⟨q0, q1, q2, q3⟩ := HBX8a.out
  go_wp2_with fail
  refine hK.out _ _ ⟨p0, p1, p2, q0, q1, q2⟩ (fun hHeld => ?_)
  clear hK K
  try simp only [Act.put, List.setIfInBounds_toArray, List.set_cons_zero, List.set_cons_succ]
  refine wpAnyH_ready (rs := [3]) (by kernel_rfl) (by simp) ?_
  refine AllReadyH.cons (by simp only [List.getElem?_toArray, List.getElem?_cons_zero, List.getElem?_cons_succ]; rfl) ?_ AllReadyH.nil
  intro K hK
  go_simp
  refine (eqtab_laws _ _ _ _ _ _ _ _ t nc nr HNC.out HNR.out _ HOY8a.out.tab OT8.tab).mono ?_
  rintro e w8b ⟨rfl, hb8b⟩
  clear p0 p1 p2 p3 q0 q1 q2 q3 OT8
  have HOG8b : Hid (OutTs w8b w4.heap.size aG V QG) := HOG8a.out.below hb8b
  have HOX8b : Hid (OutTs w8b w3.heap.size (some ⟨gX, 0, none⟩) T QX) := HOX8a.out.below hb8b
  have HOY8b : Hid (OutTab w8b w4a.heap.size (some ⟨gY, 0, none⟩) nc (some ⟨gY2, 0, none⟩) t AY CY) := HOY8a.out.below hb8b
  have HBX8b : Hid (Box w8b w4b.heap.size (.string t.1) (.slice (some ⟨gY, 0, none⟩) nc nc) (.slice (some ⟨gY2, 0, none⟩) nr nr)) := HBX8a.out.below hb8b
  replace hx := chain hx hb8b
  have hS8b : Below w3.heap.size w3 w8b := chain hS8a hb8b
  clear hb8b HOG8a HOX8a HOY8a HBX8a hS8a
  obtain ⟨p0, p1, p2, p3⟩ := HB0.out.below hx
  obtain ⟨q0, q1, q2, q3⟩ := HBX8b.out
  go_wp2_with fail
  refine hK.out _ _ ⟨p0, p1, p2, q0, q1, q2⟩ (fun hHeld => ?_)
  clear hK K
  try simp only [Act.put, List.setIfInBounds_toArray, List.set_cons_zero, List.set_cons_succ]
  refine wpAnyH_take (i := 4) (by simp only [List.getElem?_toArray, List.getElem?_cons_zero, List.getElem?_cons_succ]; rfl) (by kernel_rfl) (by kernel_rfl) (by kernel_rfl) (by intro _ _ _ h; exact h) (Or.inl ⟨by rfl, fun w hSw => by (dsimp only at hSw; go_simp; (try with_reducible rfl))⟩) (by assumption) ?_
  simp only [Act.put, List.setIfInBounds_toArray, List.set_cons_zero, List.set_cons_succ]
  refine wpAnyH_done (by kernel_rfl) ?_ _
  clear p0 p1 p2 p3 q0 q1 q2 q3
  go_wp2_with fail
  refine (marktabs_laws _ _ T n HN.out QX w3.heap.size 1 rX HRX.out _ HOX8b.out (by omega) hrX1 hm).mono ?_
  rintro e w9 ⟨rfl, _, K9⟩
  have hs8 : w3.heap.size ≤ w8b.heap.size := hS8b.size
  have HOG9 : Hid (OutTs w9 w4.heap.size aG V QG) := HOG8b.out.keepFar K9 (fun b hb => by have := HXlta.out b hb; omega)
  have HOY9 : Hid (OutTab w9 w4a.heap.size (some ⟨gY, 0, none⟩) nc (some ⟨gY2, 0, none⟩) t AY CY) := by
    have : OutTab w9 w4a.heap.size (some ⟨gY, 0, none⟩) nc (some ⟨gY2, 0, none⟩) t AY CY := HOY8b.out.keepS K9 (fun b hb hb2 => by have := HXlta.out b hb2; have := HOY8b.out.lo b hb; omega)
    exact this
  have HBX9 : Hid (Box w9 w4b.heap.size (.string t.1) (.slice (some ⟨gY, 0, none⟩) nc nc) (.slice (some ⟨gY2, 0, none⟩) nr nr)) := by
    have : Box w9 w4b.heap.size (.string t.1) (.slice (some ⟨gY, 0, none⟩) nc nc) (.slice (some ⟨gY2, 0, none⟩) nr nr) := HBX8b.out.keepS K9 (fun hb => by have := HXlta.out _ hb; omega)
    exact this
  have hx9 : Below W0.heap.size W0 w9 := KeepS.belowP hx K9 (by omega) (fun b hb => Nat.le_trans hws3 (HOX8b.out.blks_lo b hb))
  have hS9 : Below w3.heap.size w3 w9 := KeepS.belowP hS8b K9 hs8 (fun b hb => HOX8b.out.blks_lo b hb)
  clear K9 HOX8b HOG8b hx hS8b hs8 HXlta HOY8b HBX8b
  obtain ⟨q0, q1, q2, q3⟩ := HBX9.out
  go_wp2_with fail
  refine (marktab_laws _ _ _ _ t nc nr HNC.out HNR.out AY CY w4a.heap.size rX rXT HRXT.out _ HOY9.out hrXp hrXT1).mono ?_
  rintro e w9b ⟨rfl, _, wa, hba, K9b⟩
  have hPb : ∀ b, (inBlk (some ⟨gY, 0, none⟩) t.2.1.length b ∨ rowBlks t.2.2 AY b) → w4a.heap.size ≤ b ∧ b < w4b.heap.size := by
    intro b hb
    have hb' : tabBlks (some ⟨gY, 0, none⟩) (some ⟨gY2, 0, none⟩) t AY b := by
      rcases hb with hb | hb
      · exact .inl hb
      · exact .inr (.inl hb)
    exact ⟨HOY9.out.lo b hb', HYlt.out b hb'⟩
  have hs9 := hx9.size
  have hs9S := hS9.size
  have hsa := hba.size
  have HOG9b : Hid (OutTs w9b w4.heap.size aG V QG) := (HOG9.out.below hba).keepFar K9b (fun b hb => by have := hPb b hb; omega)
  have hx9b : Below W0.heap.size W0 w9b := KeepS.belowP (chain hx9 hba) K9b (by omega) (fun b hb => by have := hPb b hb; omega)
  have hS9b : Below w3.heap.size w3 w9b := KeepS.belowP (chain hS9 hba) K9b (by omega) (fun b hb => by have := hPb b hb; omega)
  clear K9b hPb HOG9 hx9 hS9 hs9 hs9S hsa hba HOY9 HBX9 q0 q1 q2 q3 HYlt
  go_wp2_with fail
  refine (eqtabs_laws _ _ _ _ V k HK.out _ HOG9b.out.lies (HTS.out.below hS9b) hkM).mono ?_
  rintro e w10 ⟨rfl, hb10⟩
  have HOG10 : Hid (OutTs w10 w4.heap.size aG V QG) := HOG9b.out.below hb10
  have hx10 := chain hx9b hb10
  have hS10 : Below w3.heap.size w3 w10 := chain hS9b hb10
  clear hb10 HOG9b hx9b hS9b
  go_wp2_with fail
  refine (marktabs_laws _ _ V k HK.out QG w4.heap.size 1 rV HRV.out _ HOG10.out (by omega) hrV1 hkM).mono ?_
  rintro e w11 ⟨rfl, M11, K11⟩
  have HM11 : Hid (MTs w11 w4.heap.size aG V QG 1 V.length) := M11
  have hs10 : w3.heap.size ≤ w10.heap.size := hS10.size
  have hx11 : Below W0.heap.size W0 w11 := KeepS.belowP hx10 K11 (by omega) (fun b hb => by have := HOG10.out.blks_lo b hb; omega)
  have hS11 : Below w3.heap.size w3 w11 := KeepS.belowP hS10 K11 hs10 (fun b hb => by have := HOG10.out.blks_lo b hb; omega)
  clear K11 M11 HOG10 hx10 hS10 hs10
  go_wp2_with fail
  refine (heldtabs_laws _ _ V k HK.out QG w4.heap.size 1 rV HRV.out _ HM11.out HLR.out (by omega) hrV1 hkM).mono ?_
  rintro e w12 ⟨rfl, hb12⟩
  have HM12 : Hid (MTs w12 w4.heap.size aG V QG 1 V.length) := HM11.out.below hb12
  have hx12 := chain hx11 hb12
  have hS12 : Below w3.heap.size w3 w12 := chain hS11 hb12
  clear hb12 HM11 hx11 hS11
  obtain ⟨p0, p1, p2, p3⟩ := HB0.out.below hx12
  go_wp2_with fail
  refine wp_region_held_drew (S := (fun w' => w'.cell? ⟨w.heap.size, 0, none⟩ = some (.string t.1) ∧ w'.cell? ⟨w.heap.size, 1, none⟩ = some (.slice ca nc cc) ∧ w'.cell? ⟨w.heap.size, 2, none⟩ = some (.slice ra nr cr))) (by kernel_rfl) ?_ (fun hHeld => ?_)
  · exact ⟨p0, p1, p2⟩
  refine wpAnyH_take (i := 0) (by simp only [List.getElem?_toArray, List.getElem?_cons_zero]; rfl) (by kernel_rfl) (by kernel_rfl) (by kernel_rfl) (by intro _ _ _ h; exact h) (Or.inl ⟨by rfl, fun w hSw => by (dsimp only at hSw; go_simp; (try with_reducible rfl))⟩) (by assumption) ?_
  simp only [Act.put, List.setIfInBounds_toArray, List.set_cons_zero, List.set_cons_succ]
  refine wpAnyH_take (i := 2) (by simp only [List.getElem?_toArray, List.getElem?_cons_zero, List.getElem?_cons_succ]; rfl) (by kernel_rfl) (by kernel_rfl) (by kernel_rfl) (by intro _ _ _ h; exact h) (Or.inl ⟨by rfl, fun w hSw => by (dsimp only at hSw; go_simp; (try with_reducible rfl))⟩) (by assumption) ?_
  simp only [Act.put, List.setIfInBounds_toArray, List.set_cons_zero, List.set_cons_succ]
  refine wpAnyH_ready (rs := [1]) (by kernel_rfl) (by simp) ?_
  refine AllReadyH.cons (by simp only [List.getElem?_toArray, List.getElem?_cons_zero, List.getElem?_cons_succ]; rfl) ?_ AllReadyH.nil
  intro K hK
  go_simp
  refine (Z.out _ hx12.drew).mono ?_
  rintro e w13a ⟨g13, Q13, rfl, O13, hb13'⟩
  have hb13 : Below w12.heap.size w12 w13a := undrew hb13'
  have HM13a : Hid (MTs w13a w4.heap.size aG V QG 1 V.length) := HM12.out.below hb13
  have hx13a := chain hx12 hb13
  have hS13a : Below w3.heap.size w3 w13a := chain hS12 hb13
  clear p0 p1 p2 p3 hb13 hb13' HM12 hx12 hS12
  obtain ⟨p0, p1, p2, p3⟩ := HB0.out.below hx13a
  go_wp2_with fail
  refine hK.out _ _ ⟨p0, p1, p2⟩ (fun hHeld => ?_)
  clear hK K
  try simp only [Act.put, List.setIfInBounds_toArray, List.set_cons_zero, List.set_cons_succ]
  refine wpAnyH_ready (rs := [3]) (by kernel_rfl) (by simp) ?_
  refine AllReadyH.cons (by simp only [List.getElem?_toArray, List.getElem?_cons_zero, List.getElem?_cons_succ]; rfl) ?_ AllReadyH.nil
  intro K hK
  go_simp
  refine (ZT.out _ hx13a).mono ?_
  rintro e w13 ⟨gt13, gt13b, A13, C13, rfl, OT13, hb13⟩
  have HM13 : Hid (MTs w13 w4.heap.size aG V QG 1 V.length) := HM13a.out.below hb13
  have hx13 := chain hx13a hb13
  have hS13 : Below w3.heap.size w3 w13 := chain hS13a hb13
  have HO13 : Hid (TabsAt w13 (some ⟨g13, 0, none⟩) T) := (O13.below hb13).lies
  have HOT13 : Hid (TabAt w13 (some ⟨gt13, 0, none⟩) nc (some ⟨gt13b, 0, none⟩) t) := OT13.tab
  clear p0 p1 p2 p3 hb13 HM13a hx13a hS13a O13 OT13
  obtain ⟨p0, p1, p2, p3⟩ := HB0.out.below hx13
  go_wp2_with fail
  refine hK.out _ _ ⟨p0, p1, p2⟩ (fun hHeld => ?_)
  clear hK K
  try simp only [Act.put, List.setIfInBounds_toArray, List.set_cons_zero, List.set_cons_succ]
  refine wpAnyH_ready (rs := [4]) (by kernel_rfl) (by simp) ?_
  refine AllReadyH.cons (by simp only [List.getElem?_toArray, List.getElem?_cons_zero, List.getElem?_cons_succ]; rfl) ?_ AllReadyH.nil
  intro K hK
  go_simp
  refine (replaced_impl _ _ T n HN.out _ _ _ _ t nc nr HNC.out HNR.out _ HO13.out HOT13.out hnm V r HV.out).mono ?_
  rintro e w14 ⟨aH, k', cH, QH, hk', rfl, OH, hb14, _⟩
  obtain rfl : k = k' := HK.out.symm.trans hk'
  have HOH : Hid (TabsAt w14 aH V) := OH.lies
  have HM14 : Hid (MTs w14 w4.heap.size aG V QG 1 V.length) := HM13.out.below hb14
  have hx14 := chain hx13 hb14
  have hS14 : Below w3.heap.size w3 w14 := chain hS13 hb14
  clear hb14 HM13 hx13 hS13 OH HO13 HOT13 hk' p0 p1 p2 p3
  obtain ⟨p0, p1, p2, p3⟩ := HB0.out.below hx14
  go_wp2_with fail
  refine hK.out _ _ ⟨p0, p1, p2⟩ (fun hHeld => ?_)
  clear hK K
  try simp only [Act.put, List.setIfInBounds_toArray, List.set_cons_zero, List.set_cons_succ]
  refine wpAnyH_take (i := 5) (by simp only [List.getElem?_toArray, List.getElem?_cons_zero, List.getElem?_cons_succ]; rfl) (by kernel_rfl) (by kernel_rfl) (by kernel_rfl) (by intro _ _ _ h; exact h) (Or.inl ⟨by rfl, fun w hSw => by (dsimp only at hSw; go_simp; (try with_reducible rfl))⟩) (by assumption) ?_
  simp only [Act.put, List.setIfInBounds_toArray, List.set_cons_zero, List.set_cons_succ]
  refine wpAnyH_take (i := 6) (by simp only [List.getElem?_toArray, List.getElem?_cons_zero, List.getElem?_cons_succ]; rfl) (by kernel_rfl) (by kernel_rfl) (by kernel_rfl) (by intro _ _ _ h; exact h) (Or.inl ⟨by rfl, fun w hSw => by (dsimp only at hSw; go_simp; (try with_reducible rfl))⟩) (by assumption) ?_
  simp only [Act.put, List.setIfInBounds_toArray, List.set_cons_zero, List.set_cons_succ]
  refine wpAnyH_take (i := 7) (by simp only [List.getElem?_toArray, List.getElem?_cons_zero, List.getElem?_cons_succ]; rfl) (by kernel_rfl) (by kernel_rfl) (by kernel_rfl) (by intro _ _ _ h; exact h) (Or.inl ⟨by rfl, fun w hSw => by (dsimp only at hSw; go_simp; (try with_reducible rfl))⟩) (by assumption) ?_
  simp only [Act.put, List.setIfInBounds_toArray, List.set_cons_zero, List.set_cons_succ]
  refine wpAnyH_take (i := 8) (by simp only [List.getElem?_toArray, List.getElem?_cons_zero, List.getElem?_cons_succ]; rfl) (by kernel_rfl) (by kernel_rfl) (by kernel_rfl) (by intro _ _ _ h; exact h) (Or.inl ⟨by rfl, fun w hSw => by (dsimp only at hSw; go_simp; (try with_reducible rfl))⟩) (by assumption) ?_
  simp only [Act.put, List.setIfInBounds_toArray, List.set_cons_zero, List.set_cons_succ]
  refine wpAnyH_take (i := 9) (by simp only [List.getElem?_toArray, List.getElem?_cons_zero, List.getElem?_cons_succ]; rfl) (by kernel_rfl) (by kernel_rfl) (by kernel_rfl) (by intro _ _ _ h; exact h) (Or.inl ⟨by rfl, fun w hSw => by (dsimp only at hSw; go_simp; (try with_reducible rfl))⟩) (by assumption) ?_
  simp only [Act.put, List.setIfInBounds_toArray, List.set_cons_zero, List.set_cons_succ]
  refine wpAnyH_done (by kernel_rfl) ?_ _
  clear p0 p1 p2 p3
  go_wp2_with fail
  refine (eqtabs_laws _ _ _ _ V k HK.out _ HOH.out (HTS.out.below hS14) hkM).mono ?_
  rintro e w15 ⟨rfl, hb15⟩
  have HM15 : Hid (MTs w15 w4.heap.size aG V QG 1 V.length) := HM14.out.below hb15
  have hx15 := chain hx14 hb15
  clear hb15 HM14 hx14 hS14 HOH
  go_wp2_with fail
  refine (heldtabs_laws _ _ V k HK.out QG w4.heap.size 1 rV HRV.out _ HM15.out HLR.out (by omega) hrV1 hkM).mono ?_
  rintro e w16 ⟨rfl, hb16⟩
  have hx16 := chain hA (chain hx15 hb16)
  clear hb16 HM15 hx15
  go_wp2
  go_ret
  exact ⟨rfl, hx16⟩

set_option maxRecDepth 100000 in
theorem lifted (os : Os) (started : os.Started) (H : Type) (enc : TypeId × Value → H) :
    ReturnsInHanded {} Tryz.checked os 3 .any (Rows.fnExactReplacedSpec.pre6 enc Tryz.prog Tryz.f3 Rows.fnExactReplacedRow.domain false) (Rows.fnExactReplacedSpec.post enc Tryz.prog Tryz.f3 false true false false) := by
  refine returnsInHanded_of_change (C := Tryz.checked) own started (by kernel_rfl) Tryz.func3
    (ChangeSpec.witness6 (enc := enc) (C := Tryz.checked) false ⟨#[], #[.slice none 0 0, .agg #[.string ⟨#[]⟩, .slice none 0 0, .slice none 0 0]], []⟩ 8 (by kernel_rfl) (by kernel_rfl) (by kernel_rfl) (by kernel_rfl)) ?_
  intro W base args ds gs before hval0 hW hcnd _
  have hval : ∀ (j : Nat) t v, Tryz.f3.params[j]? = some t → args[j]? = some v → Value.okWide Tryz.prog W .any base t v := hval0
  have hW' := hW
  obtain ⟨p, q, hA0, hV, rfl, hfz, hnd⟩ := hW
  have hA : DataW.TrodAll enc Tryz.prog W 0 (fun _ => true) true Tryz.f3.params.toList args.toList ds p := hA0
  rw [Tryz.params3] at hA hval
  obtain ⟨v0, v1, d0, d1, p0, p1, rfl, rfl, rfl, h0, h1⟩ := trodAll_two hA
  obtain ⟨rfl, rfl⟩ := trodVars_none hV
  have k0 := h0
  have lt0 : ∀ x ∈ p0, x.block < W.heap.size := by obtain ⟨m, hm⟩ := k0; exact DataW.trod_lt m _ _ _ hm
  obtain ⟨a0, n0, c0, rfl⟩ := okWide_slice Tryz.underlying22 (hval 0 22 v0 rfl rfl)
  obtain ⟨m0, hm0⟩ := h0
  obtain ⟨T0, hl0, hT0, hM0, hC0, hN0⟩ := open_tabs hm0
  have k1 := h1
  have lt1 : ∀ x ∈ p1, x.block < W.heap.size := by obtain ⟨m, hm⟩ := k1; exact DataW.trod_lt m _ _ _ hm
  obtain ⟨t1, nc1, nr1, ca1, cc1, ra1, cr1, rfl, hnc1, hnr1, hT1⟩ := open_table (hval 1 26 v1 rfl rfl) h1
  clear hA0 hval0
  refine (walk a0 c0 T0 n0 hl0 ca1 cc1 ra1 cr1 t1 nc1 nr1 hnc1 hnr1 W hT0 hT1 hM0).mono fun e W' ⟨he, bel⟩ => ?_
  subst he
  exact ⟨_, rfl, _, _, _, [], _, [], hW', trodAll_mk1 (shut_bool Tryz.underlying4 _), trodAll_mk2 (Below.trod laidOut (by kernel_rfl) (of_decide_eq_true (by kernel_rfl)) k0 bel lt0) (Below.trod laidOut (by kernel_rfl) (of_decide_eq_true (by kernel_rfl)) k1 bel lt1), rfl, bel.frame _, fun h => by cases h⟩

theorem over : Rows.fnExactReplacedRow.holds Tryz.pinned (OpenSpec.ofChange Rows.fnExactReplacedSpec) :=
  OpenClaim.holds_of_wide 3 Tryz.f3 rfl rfl rfl rfl rfl rfl rfl ⟨rfl, rfl, rfl, rfl, rfl⟩ rfl rfl rfl rfl rfl (by kernel_rfl) Tryz.func3 (by kernel_rfl)
    (of_decide_eq_true (by kernel_rfl)) (by unfold Func.isWrapper; first | (rw [if_pos (by decide +kernel)]; kernel_rfl) | (rw [if_neg (by decide +kernel)]; exact ⟨rfl, rfl⟩))
    (fun os started H enc _ => lifted os started H enc)

end exReplaced

theorem fnExactReplaced_holds : Rows.FnExactReplacedSaid := exReplaced.over

end Go.Proofs.YteamdmcgkpeelalGreat
