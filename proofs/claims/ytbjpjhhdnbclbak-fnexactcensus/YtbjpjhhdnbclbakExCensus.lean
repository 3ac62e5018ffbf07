/-
  Proved: at every table and column the program's Census answers as its model does; it writes into no argument and keeps nothing of one; its answer owns its memory, behind another call too; the law's arguments read afterwards as before; no condition.
-/
import Derived.Test.YtbjpjhhdnbclbakTabI3
import Derived.Test.YtbjpjhhdnbclbakOutTab
import Derived.Test.YtbjpjhhdnbclbakInts1
import Derived.Test.YtbjpjhhdnbclbakOpen2
import Derived.Lib.SmallJoins
namespace Go.Proofs.Ytbjpjhhdnbclbak
open Go.ChangeShapes Go.WideShapes Go.ChangeAt Go.RowKit Go.Joins
attribute [local go_sem ↓] Go.wp_at_zero Go.wp_at_succ
attribute [local simp] World.cell?_alloc_past World.cell?_alloc_at World.frozen?_alloc_at cell_far cell_off cell_here World.frozen?_alloc_past

theorem offs_total (L : List (List CT)) : offs L L.length ≤ total L := by
  unfold offs total
  rw [List.take_length]
  induction L with
  | nil => simp
  | cons y L ih => simp only [List.map_cons, List.sum_cons]; omega
theorem markN_le {t : TB} (h : 0 ≤ leftT t 1048576) : markN t 1 ≤ 10485760 := by
  have h1 := h
  unfold leftT at h1
  split at h1
  · omega
  split at h1
  · omega
  split at h1
  · omega
  rename_i a b c
  have e1 : leftOfS t.2.1 (1048576 - t.1.size) = 1048576 - t.1.size - t.2.1.length - weightS t.2.1 := by
    unfold leftOfS at b ⊢
    split at b
    · omega
    · rw [if_neg (by assumption)]
  rw [e1] at c
  have e2 : ((t.2.2.length : Int) + total t.2.2 ≤ 1048576 - t.1.size - t.2.1.length - weightS t.2.1) := by
    unfold leftOfs at c
    split at c
    · omega
    · omega
  have := offs_total t.2.2
  unfold markN
  omega
/-- Numbers in memory of their own. -/
structure OutInts (w : World) (base g c : Nat) (l : List Int) : Prop where
  at_ : IntsAt w (some ⟨g, 0, none⟩) l
  free : FreeI w (some ⟨g, 0, none⟩) l.length
  lo : base ≤ g
  lt : g < w.heap.size
theorem OutInts.below {w w' : World} {base g c : Nat} {l : List Int} (h : OutInts w base g c l) (hb : Below w.heap.size w w') : OutInts w' base g c l :=
  ⟨h.at_.below hb, h.free.keepS h.at_ (KeepS.ofBelow (P := fun _ => False) hb) (fun _ _ h => h), h.lo, Nat.lt_of_lt_of_le h.lt hb.size⟩
theorem OutInts.keepS {w w' : World} {P : Nat → Prop} {base g c : Nat} {l : List Int} (h : OutInts w base g c l) (hk : KeepS P w w') (hP : ¬ P g) : OutInts w' base g c l := by
  have hq : ∀ b, inBlk (some ⟨g, 0, none⟩) l.length b → ¬ P b := by
    rintro b ⟨_, o, e⟩
    cases e; exact hP
  exact ⟨h.at_.keepS hk hq, h.free.keepS h.at_ hk hq, h.lo, Nat.lt_of_lt_of_le h.lt hk.size⟩
theorem own_out {w : World} {base g c : Nat} {e : TypeId} {l : List Int} (h : w.ownsRow base e 1 (.slice (some ⟨g, 0, none⟩) l.length c) l.length (intsV l)) : OutInts w base g c l :=
  ⟨own_ints h, own_freeI h, (h.lt _ rfl).1, (h.lt _ rfl).2⟩

namespace exCensus

theorem own : ownKnob Try.prog.godebug = none := by kernel_rfl
theorem laidOut : laidOutB Try.prog = true := by kernel_rfl

set_option maxRecDepth 100000 in
set_option maxHeartbeats 4000000 in
theorem walk (ca : Option Addr) (cc : Nat) (ra : Option Addr) (cr : Nat) (t : TB) (nc nr : Nat) (hnc : t.2.1.length = nc) (hnr : t.2.2.length = nr) (col : Int) (w : World) (ht : TabAt w ca cc ra t) :
    Calls Try.prog 3 #[.agg #[.string t.1, .slice ca nc cc, .slice ra nr cr], .int .i64 col] w fun e w' => e = .returned (.bool true) ∧ Below w.heap.size w w' := by
  have HT : Hid (TabAt w ca cc ra t) := ht
  have HNC : Hid (t.2.1.length = nc) := hnc
  have HNR : Hid (t.2.2.length = nr) := hnr
  obtain ⟨B, hB⟩ : ∃ W, W = (w.alloc (.cells #[.string t.1, .slice ca nc cc, .slice ra nr cr] 25)) := ⟨_, rfl⟩
  have hA : Below w.heap.size w B := by rw [hB]; exact (Below.refl _ _).alloc (Nat.le_refl _) _
  have S1 : Hid (Calls Try.prog 5 #[.agg #[.string t.1, .slice ca nc cc, .slice ra nr cr], .int .i64 1048576] B fun e w'' => e = .returned (.int .i64 (leftT t 1048576)) ∧ Below B.heap.size B w'') := sztab_laws ca cc ra cr t nc nr hnc hnr B (ht.below hA) 1048576 (by omega) (by omega)
  obtain ⟨x, hx1⟩ : ∃ x, leftT t 1048576 = x := ⟨_, rfl⟩
  clear ht hnc hnr
  by_cases hx0 : x < 0
  · go_enter Try.func3, Try.ntmps3
    go_wp2_with fail
    rw [← hB]
    refine S1.out.mono ?_
    rw [hx1]
    rintro e w1 ⟨rfl, hb1⟩
    go_wp2
    go_ret
    exact ⟨rfl, chain hA hb1⟩
  have hx0' : 0 ≤ x := by omega
  have hleft : 0 ≤ leftT t 1048576 := by rw [hx1]; exact hx0'
  have Z : Hid (∀ w', Below w.heap.size w w' → Calls Try.prog 7 #[.agg #[.string t.1, .slice ca nc cc, .slice ra nr cr]] w' fun e w'' => ∃ g g2 A C, e = .returned (.agg #[.string t.1, .slice (some ⟨g, 0, none⟩) nc nc, .slice (some ⟨g2, 0, none⟩) nr nr]) ∧ OutTab w'' w'.heap.size (some ⟨g, 0, none⟩) nc (some ⟨g2, 0, none⟩) t A C ∧ Below w'.heap.size w' w'') :=
    fun w' hw => totab_out ca cc ra cr t nc nr HNC.out HNR.out w' (HT.out.below hw) hleft
  obtain ⟨rk, hrk⟩ : ∃ r, markN t 1 = r := ⟨_, rfl⟩
  have hrk2 : rk ≤ 10485760 := by rw [← hrk]; exact markN_le hleft
  have HRK : Hid (markN t 1 = rk) := hrk
  obtain ⟨l, hl⟩ : ∃ l, censusR t col = l := ⟨_, rfl⟩
  have HL : Hid (censusR t col = l) := hl
  have hl4 : l.length ≤ 4 := by
    rcases censusR_form t col with h | ⟨a, b, c, d, h⟩ <;> rw [← hl, h] <;> simp
  obtain ⟨n, hn⟩ : ∃ n, l.length = n := ⟨_, rfl⟩
  rw [hn] at hl4
  have HN : Hid (l.length = n) := hn
  have hnM : n ≤ maxLen := by unfold maxLen; omega
  clear hl hrk hleft
  have CS : Hid (∀ w' g g2, TabAt w' (some ⟨g, 0, none⟩) nc (some ⟨g2, 0, none⟩) t → Calls Try.prog 6 #[.agg #[.string t.1, .slice (some ⟨g, 0, none⟩) nc nc, .slice (some ⟨g2, 0, none⟩) nr nr], .int .i64 col] w' fun e w'' => ∃ g c, e = .returned (.slice (some ⟨g, 0, none⟩) n c) ∧ OutInts w'' w'.heap.size g c l ∧ Below w'.heap.size w' w'') := by
    have : ∀ w' g g2, TabAt w' (some ⟨g, 0, none⟩) nc (some ⟨g2, 0, none⟩) t → Calls Try.prog 6 #[.agg #[.string t.1, .slice (some ⟨g, 0, none⟩) nc nc, .slice (some ⟨g2, 0, none⟩) nr nr], .int .i64 col] w' fun e w'' => ∃ g c, e = .returned (.slice (some ⟨g, 0, none⟩) n c) ∧ OutInts w'' w'.heap.size g c l ∧ Below w'.heap.size w' w'' := by
      intro w' g g2 hO
      refine (census_spec _ _ _ _ t nc nr HNC.out HNR.out w' hO col l HL.out).mono ?_
      rintro e w'' ⟨g, c, rfl, ho, hb⟩
      exact ⟨g, c, by rw [hn], own_out ho, hb⟩
    exact this
  have CI : Hid (∀ w' g g2, TabAt w' (some ⟨g, 0, none⟩) nc (some ⟨g2, 0, none⟩) t → Calls Try.prog 8 #[.agg #[.string t.1, .slice (some ⟨g, 0, none⟩) nc nc, .slice (some ⟨g2, 0, none⟩) nr nr], .int .i64 col] w' fun e w'' => ∃ g c, e = .returned (.slice (some ⟨g, 0, none⟩) n c) ∧ OutInts w'' w'.heap.size g c l ∧ Below w'.heap.size w' w'') := by
    have : ∀ w' g g2, TabAt w' (some ⟨g, 0, none⟩) nc (some ⟨g2, 0, none⟩) t → Calls Try.prog 8 #[.agg #[.string t.1, .slice (some ⟨g, 0, none⟩) nc nc, .slice (some ⟨g2, 0, none⟩) nr nr], .int .i64 col] w' fun e w'' => ∃ g c, e = .returned (.slice (some ⟨g, 0, none⟩) n c) ∧ OutInts w'' w'.heap.size g c l ∧ Below w'.heap.size w' w'' := by
      intro w' g g2 hO
      refine (census_impl _ _ _ _ t nc nr HNC.out HNR.out w' hO col l HL.out).mono ?_
      rintro e w'' ⟨g, c, rfl, ho, hb⟩
      exact ⟨g, c, by rw [hn], own_out ho, hb⟩
    exact this
  clear hn
  go_enter Try.func3, Try.ntmps3
  go_wp2_with fail
  rw [← hB]
  refine S1.out.mono ?_
  rw [hx1]
  rintro e w1 ⟨rfl, hb1⟩
  have hp : w1.cell? ⟨w.heap.size, 0, none⟩ = some (.string t.1) ∧ w1.cell? ⟨w.heap.size, 1, none⟩ = some (.slice ca nc cc) ∧ w1.cell? ⟨w.heap.size, 2, none⟩ = some (.slice ra nr cr) ∧ w.heap.size < w1.heap.size := by
    subst hB; exact box3 hb1
  obtain ⟨p0, p1, p2, p3⟩ := hp
  have hx : Below w.heap.size w w1 := chain hA hb1
  clear hb1 S1 hB hA
  go_wp2_with fail
  refine (Z.out _ hx).mono ?_
  rintro e w2 ⟨g1, g2, A1, C1, rfl, T1, hb2⟩
  obtain ⟨p0, p1, p2, p3⟩ := later3 hb2 ⟨p0, p1, p2, p3⟩
  replace hx := chain hx hb2
  clear hb2
  go_wp2_with fail
  refine (CS.out _ _ _ T1.tab).mono ?_
  rintro e w3 ⟨gS, cS, rfl, IS, hb3⟩
  obtain ⟨p0, p1, p2, p3⟩ := later3 hb3 ⟨p0, p1, p2, p3⟩
  replace hx := chain hx hb3
  have HS : Hid (OutInts w3 w2.heap.size gS cS l) := IS
  have hgS := IS.lt
  clear hb3 T1 IS
  go_wp2_with fail
  refine (Z.out _ hx).mono ?_
  rintro e w4 ⟨g3, g4, A, C, rfl, T2, hb4⟩
  obtain ⟨p0, p1, p2, p3⟩ := later3 hb4 ⟨p0, p1, p2, p3⟩
  have h34 := hb4.size
  have hw3 := hx.size
  replace hx := chain hx hb4
  have HX : Hid (OutTab w4 w3.heap.size (some ⟨g3, 0, none⟩) nc (some ⟨g4, 0, none⟩) t A C) := T2
  have HS4 : Hid (OutInts w4 w2.heap.size gS cS l) := HS.out.below hb4
  clear hb4 T2 HS
  go_wp2_with fail
  obtain ⟨V, hV⟩ : ∃ V, V = (w4.alloc (.cells #[.string t.1, .slice (some ⟨g3, 0, none⟩) nc nc, .slice (some ⟨g4, 0, none⟩) nr nr] 31)) := ⟨_, rfl⟩
  have hAV : Below w4.heap.size w4 V := by rw [hV]; exact (Below.refl _ _).alloc (Nat.le_refl _) _
  have hVs : V.heap.size = w4.heap.size + 1 := by rw [hV]; simp
  rw [← hV]
  refine (CI.out _ _ _ (HX.out.below hAV).tab).mono ?_
  rintro e w5 ⟨gG, cG, rfl, IG, hb5⟩
  have hq : w5.cell? ⟨w4.heap.size, 0, none⟩ = some (.string t.1) ∧ w5.cell? ⟨w4.heap.size, 1, none⟩ = some (.slice (some ⟨g3, 0, none⟩) nc nc) ∧ w5.cell? ⟨w4.heap.size, 2, none⟩ = some (.slice (some ⟨g4, 0, none⟩) nr nr) ∧ w4.heap.size < w5.heap.size := by
    subst hV; exact box3 hb5
  obtain ⟨q0, q1, q2, q3⟩ := hq
  have h45 : Below w4.heap.size w4 w5 := chain hAV hb5
  obtain ⟨p0, p1, p2, p3⟩ := later3 h45 ⟨p0, p1, p2, p3⟩
  have HX5 : Hid (OutTab w5 w3.heap.size (some ⟨g3, 0, none⟩) nc (some ⟨g4, 0, none⟩) t A C) := HX.out.below h45
  have HS5 : Hid (OutInts w5 w2.heap.size gS cS l) := HS4.out.below h45
  have hlo := IG.lo
  have HG5 : Hid (OutInts w5 w4.heap.size gG cG l) := ⟨IG.at_, IG.free, by omega, IG.lt⟩
  have hgG : w4.heap.size < gG := by omega
  replace hx := chain hx h45
  have hblk : Hid (∀ b, tabBlks (some ⟨g3, 0, none⟩) (some ⟨g4, 0, none⟩) t A b → w3.heap.size ≤ b ∧ b < w4.heap.size) := by
    have : ∀ b, tabBlks (some ⟨g3, 0, none⟩) (some ⟨g4, 0, none⟩) t A b → w3.heap.size ≤ b ∧ b < w4.heap.size := fun b hb => ⟨HX.out.lo b hb, HX.out.lt b hb⟩
    exact this
  clear hb5 h45 HX hAV hV hVs IG hlo HS4
  go_wp2_with fail
  refine (eqint_laws n _ _ _ _ l HN.out _ HG5.out.at_ HS5.out.at_ hnM).mono ?_
  rintro e w6 ⟨rfl, hb6⟩
  obtain ⟨p0, p1, p2, p3⟩ := later3 hb6 ⟨p0, p1, p2, p3⟩
  obtain ⟨q0, q1, q2, q3⟩ := later3 hb6 ⟨q0, q1, q2, q3⟩
  have HX6 : Hid (OutTab w6 w3.heap.size (some ⟨g3, 0, none⟩) nc (some ⟨g4, 0, none⟩) t A C) := HX5.out.below hb6
  have HS6 : Hid (OutInts w6 w2.heap.size gS cS l) := HS5.out.below hb6
  have HG6 : Hid (OutInts w6 w4.heap.size gG cG l) := HG5.out.below hb6
  replace hx := chain hx hb6
  clear hb6 HX5 HS5 HG5
  go_wp2_with fail
  refine wp_region_held_drew (S := (fun w' => w'.cell? ⟨w.heap.size, 0, none⟩ = some (.string t.1) ∧ w'.cell? ⟨w.heap.size, 1, none⟩ = some (.slice ca nc cc) ∧ w'.cell? ⟨w.heap.size, 2, none⟩ = some (.slice ra nr cr) ∧ w'.cell? ⟨w4.heap.size, 0, none⟩ = some (.string t.1) ∧ w'.cell? ⟨w4.heap.size, 1, none⟩ = some (.slice (some ⟨g3, 0, none⟩) nc nc) ∧ w'.cell? ⟨w4.heap.size, 2, none⟩ = some (.slice (some ⟨g4, 0, none⟩) nr nr))) (by kernel_rfl) ?_ (fun hHeld => ?_)
  · (((try dsimp only); (repeat' apply And.intro) <;> first | (go_keep; done) | (simp (disch := first | omega | (simp <;> omega) | fail) [*]; done) | fail))
  refine wpAnyH_take (i := 0) (by simp only [List.getElem?_toArray, List.getElem?_cons_zero]; rfl) (by kernel_rfl) (by kernel_rfl) (by kernel_rfl) (by intro _ _ _ h; exact h) (Or.inl ⟨by rfl, fun w hSw => by (dsimp only at hSw; go_simp; (try with_reducible rfl))⟩) (by assumption) ?_
  simp only [Act.put, List.setIfInBounds_toArray, List.set_cons_zero, List.set_cons_succ]
  refine wpAnyH_take (i := 1) (by simp only [List.getElem?_toArray, List.getElem?_cons_zero, List.getElem?_cons_succ]; rfl) (by kernel_rfl) (by kernel_rfl) (by kernel_rfl) (by intro _ _ _ h; exact h) (Or.inl ⟨by rfl, fun w hSw => by (dsimp only at hSw; go_simp; (try with_reducible rfl))⟩) (by assumption) ?_
  simp only [Act.put, List.setIfInBounds_toArray, List.set_cons_zero, List.set_cons_succ]
  refine wpAnyH_ready (rs := [2]) (by kernel_rfl) (by simp) ?_
  refine AllReadyH.cons (by simp only [List.getElem?_toArray, List.getElem?_cons_zero, List.getElem?_cons_succ]; rfl) ?_ AllReadyH.nil
  intro K hK
  go_simp
  refine (Z.out _ hx.drew).mono ?_
  rintro e w7 ⟨g5, g6, A7, C7, rfl, T3, hb7⟩
  obtain ⟨hca, hfa⟩ := bcell hb7
  have hza := hb7.size
  try simp at hza
  have hx7 : Below w6.heap.size w6 w7 := undrew hb7
  have HX7 : Hid (OutTab w7 w3.heap.size (some ⟨g3, 0, none⟩) nc (some ⟨g4, 0, none⟩) t A C) := HX6.out.below hx7
  have HS7 : Hid (OutInts w7 w2.heap.size gS cS l) := HS6.out.below hx7
  have HG7 : Hid (OutInts w7 w4.heap.size gG cG l) := HG6.out.below hx7
  have T7 : Hid (TabAt w7 (some ⟨g5, 0, none⟩) nc (some ⟨g6, 0, none⟩) t) := T3.tab
  replace hx := chain hx hx7
  clear T3 HX6 HS6 HG6
  go_wp2_with fail
  refine hK.out _ _ ?_ (fun hHeld => ?_)
  · (((try dsimp only); (repeat' apply And.intro) <;> first | (go_keep; done) | (simp (disch := first | omega | (simp <;> omega) | fail) [*]; done) | fail))
  clear hK K hb7 hca hfa
  try simp only [Act.put, List.setIfInBounds_toArray, List.set_cons_zero, List.set_cons_succ]
  refine wpAnyH_ready (rs := [3]) (by kernel_rfl) (by simp) ?_
  refine AllReadyH.cons (by simp only [List.getElem?_toArray, List.getElem?_cons_zero, List.getElem?_cons_succ]; rfl) ?_ AllReadyH.nil
  intro K hK
  go_simp
  refine (eqtab_laws _ _ _ _ _ _ _ _ t nc nr HNC.out HNR.out _ HX7.out.tab T7.out).mono ?_
  rintro e w8 ⟨rfl, hb8⟩
  obtain ⟨hca, hfa⟩ := bcell hb8
  have hza8 := hb8.size
  replace hx := chain hx hb8
  have y1 : w.heap.size < w7.heap.size := by omega
  have y2 : w4.heap.size < w7.heap.size := by omega
  obtain ⟨p0, p1, p2, p3⟩ := later3 hx7 ⟨p0, p1, p2, p3⟩
  obtain ⟨q0, q1, q2, q3⟩ := later3 hx7 ⟨q0, q1, q2, q3⟩
  have HX8 : Hid (OutTab w8 w3.heap.size (some ⟨g3, 0, none⟩) nc (some ⟨g4, 0, none⟩) t A C) := HX7.out.below hb8
  have HS8 : Hid (OutInts w8 w2.heap.size gS cS l) := HS7.out.below hb8
  have HG8 : Hid (OutInts w8 w4.heap.size gG cG l) := HG7.out.below hb8
  go_wp2_with fail
  refine hK.out _ _ ?_ (fun hHeld => ?_)
  · (((try dsimp only); (repeat' apply And.intro) <;> first | (go_keep; done) | (simp (disch := first | omega | (simp <;> omega) | fail) [*]; done) | fail))
  clear hK K
  try simp only [Act.put, List.setIfInBounds_toArray, List.set_cons_zero, List.set_cons_succ]
  refine wpAnyH_take (i := 4) (by simp only [List.getElem?_toArray, List.getElem?_cons_zero, List.getElem?_cons_succ]; rfl) (by kernel_rfl) (by kernel_rfl) (by kernel_rfl) (by intro _ _ _ h; exact h) (Or.inl ⟨by rfl, fun w hSw => by (dsimp only at hSw; go_simp; (try with_reducible rfl))⟩) (by assumption) ?_
  simp only [Act.put, List.setIfInBounds_toArray, List.set_cons_zero, List.set_cons_succ]
  refine wpAnyH_done (by kernel_rfl) ?_ _
  obtain ⟨p0, p1, p2, p3⟩ := later3 hb8 ⟨p0, p1, p2, p3⟩
  obtain ⟨q0, q1, q2, q3⟩ := later3 hb8 ⟨q0, q1, q2, q3⟩
  clear hb8 HX7 HS7 HG7 T7 hca hfa hx7 hHeld
  have hrk0 : (0 : Int) ≤ (rk : Int) := by omega
  go_wp2_with fail
  refine (marktab_laws _ _ _ _ t nc nr HNC.out HNR.out A C w3.heap.size 1 rk HRK.out _ HX8.out (by omega) (by omega)).mono ?_
  rintro e w9 ⟨rfl, _, wa, hba, K9⟩
  have hsa := hba.size
  have hs9 := K9.size
  have nP : ∀ b, b < w3.heap.size ∨ w4.heap.size ≤ b → ¬ (inBlk (some ⟨g3, 0, none⟩) t.2.1.length b ∨ rowBlks t.2.2 A b) := by
    rintro b hb (h | h)
    · have := hblk.out b (.inl h); omega
    · have := hblk.out b (.inr (.inl h)); omega
  obtain ⟨p0, p1, p2, p3⟩ := later3 hba ⟨p0, p1, p2, p3⟩
  have pn := nP w.heap.size (by omega)
  have p0' : w9.cell? ⟨w.heap.size, 0, none⟩ = some (.string t.1) := by rw [K9.cell p3 pn]; exact p0
  have p1' : w9.cell? ⟨w.heap.size, 1, none⟩ = some (.slice ca nc cc) := by rw [K9.cell p3 pn]; exact p1
  have p2' : w9.cell? ⟨w.heap.size, 2, none⟩ = some (.slice ra nr cr) := by rw [K9.cell p3 pn]; exact p2
  have HS9 : Hid (OutInts w9 w2.heap.size gS cS l) := (HS8.out.below hba).keepS K9 (nP gS (by omega))
  have HG9 : Hid (OutInts w9 w4.heap.size gG cG l) := (HG8.out.below hba).keepS K9 (nP gG (by omega))
  have hx9 : Below w.heap.size w w9 := (chain hx hba).trans (K9.below (fun b hb => by
    by_cases h : b < w3.heap.size
    · exact absurd hb (nP b (.inl h))
    · omega) (by omega))
  have p3' : w.heap.size < w9.heap.size := by omega
  clear p0 p1 p2 p3 q0 q1 q2 q3 pn nP K9 hba HX8 HS8 HG8
  go_wp2_with fail
  refine (eqint_laws n _ _ _ _ l HN.out _ HG9.out.at_ HS9.out.at_ hnM).mono ?_
  rintro e w10 ⟨rfl, hb10⟩
  obtain ⟨p0, p1, p2, p3⟩ := later3 hb10 ⟨p0', p1', p2', p3'⟩
  have HS10 : Hid (OutInts w10 w2.heap.size gS cS l) := HS9.out.below hb10
  have HG10 : Hid (OutInts w10 w4.heap.size gG cG l) := HG9.out.below hb10
  replace hx := chain hx9 hb10
  have hs10 := hb10.size
  clear hb10 hx9 HS9 HG9 p0' p1' p2' p3'
  go_wp2_with fail
  refine (markint_laws n _ _ l HN.out 1 _ HG10.out.at_ HG10.out.free (by omega)).mono ?_
  rintro e w11 ⟨rfl, M11, K11⟩
  have hs11 := K11.size
  have nP : ∀ b, b ≤ w4.heap.size → ¬ inBlk (some ⟨gG, 0, none⟩) n b := by
    rintro b hb ⟨_, o, e⟩
    cases e; omega
  have p0' : w11.cell? ⟨w.heap.size, 0, none⟩ = some (.string t.1) := by rw [K11.cell p3 (nP _ (by omega))]; exact p0
  have p1' : w11.cell? ⟨w.heap.size, 1, none⟩ = some (.slice ca nc cc) := by rw [K11.cell p3 (nP _ (by omega))]; exact p1
  have p2' : w11.cell? ⟨w.heap.size, 2, none⟩ = some (.slice ra nr cr) := by rw [K11.cell p3 (nP _ (by omega))]; exact p2
  have HS11 : Hid (OutInts w11 w2.heap.size gS cS l) := HS10.out.keepS K11 (nP gS (by omega))
  have HM11 : Hid (IntsAt w11 (some ⟨gG, 0, none⟩) (marksI 1 n)) := M11
  have hx11 : Below w.heap.size w w11 := hx.trans (K11.below (fun b hb => by
    by_cases h : b ≤ w4.heap.size
    · exact absurd hb (nP b h)
    · omega) (by omega))
  have p3' : w.heap.size < w11.heap.size := by omega
  clear p0 p1 p2 p3 nP K11 HS10 HG10 M11
  go_wp2_with fail
  refine (heldint_laws _ _ n 1 _ HM11.out (by omega)).mono ?_
  rintro e w12 ⟨rfl, hb12⟩
  obtain ⟨p0, p1, p2, p3⟩ := later3 hb12 ⟨p0', p1', p2', p3'⟩
  have HS12 : Hid (OutInts w12 w2.heap.size gS cS l) := HS11.out.below hb12
  have HM12 : Hid (IntsAt w12 (some ⟨gG, 0, none⟩) (marksI 1 n)) := HM11.out.below hb12
  replace hx := chain hx11 hb12
  clear hb12 hx11 HS11 HM11 p0' p1' p2' p3'
  go_wp2_with fail
  refine (Z.out _ hx).mono ?_
  rintro e w13 ⟨g7, g8, A13, C13, rfl, T13, hb13⟩
  have HS13 : Hid (OutInts w13 w2.heap.size gS cS l) := HS12.out.below hb13
  have HM13 : Hid (IntsAt w13 (some ⟨gG, 0, none⟩) (marksI 1 n)) := HM12.out.below hb13
  replace hx := chain hx hb13
  clear hb13 HS12 HM12
  go_wp2_with fail
  refine (CI.out _ _ _ T13.tab).mono ?_
  rintro e w14 ⟨gH, cH, rfl, IH, hb14⟩
  have HS14 : Hid (OutInts w14 w2.heap.size gS cS l) := HS13.out.below hb14
  have HM14 : Hid (IntsAt w14 (some ⟨gG, 0, none⟩) (marksI 1 n)) := HM13.out.below hb14
  replace hx := chain hx hb14
  clear hb14 HS13 HM13 T13
  go_wp2_with fail
  refine (eqint_laws n _ _ _ _ l HN.out _ IH.at_ HS14.out.at_ hnM).mono ?_
  rintro e w15 ⟨rfl, hb15⟩
  have HM15 : Hid (IntsAt w15 (some ⟨gG, 0, none⟩) (marksI 1 n)) := HM14.out.below hb15
  replace hx := chain hx hb15
  clear hb15 HS14 HM14 IH
  go_wp2_with fail
  refine (heldint_laws _ _ n 1 _ HM15.out (by omega)).mono ?_
  rintro e w16 ⟨rfl, hb16⟩
  replace hx := chain hx hb16
  clear hb16 HM15
  go_wp2
  go_ret
  exact ⟨rfl, hx⟩

set_option maxRecDepth 100000 in
theorem lifted (os : Os) (started : os.Started) (H : Type) (enc : TypeId × Value → H) :
    ReturnsInHanded {} Try.checked os 3 .any (Rows.fnExactCensusSpec.pre6 enc Try.prog Try.f3 Rows.fnExactCensusRow.domain false) (Rows.fnExactCensusSpec.post enc Try.prog Try.f3 false true false false) := by
  refine returnsInHanded_of_change (C := Try.checked) own started (by kernel_rfl) Try.func3
    (ChangeSpec.witness6 (enc := enc) (C := Try.checked) false ⟨#[], #[.agg #[.string ⟨#[]⟩, .slice none 0 0, .slice none 0 0], .int .i64 0], []⟩ 8 (by kernel_rfl) (by kernel_rfl) (by kernel_rfl) (by kernel_rfl)) ?_
  intro W base args ds gs before hval0 hW hcnd _
  have hval : ∀ (j : Nat) t v, Try.f3.params[j]? = some t → args[j]? = some v → Value.okWide Try.prog W .any base t v := hval0
  have hW' := hW
  obtain ⟨p, q, hA0, hV, rfl, hfz, hnd⟩ := hW
  have hA : DataW.TrodAll enc Try.prog W 0 (fun _ => true) true Try.f3.params.toList args.toList ds p := hA0
  rw [Try.params3] at hA hval
  obtain ⟨v0, v1, d0, d1, p0, p1, rfl, rfl, rfl, h0, h1⟩ := trodAll_two hA
  obtain ⟨rfl, rfl⟩ := trodVars_none hV
  have k0 := h0
  have lt0 : ∀ x ∈ p0, x.block < W.heap.size := by obtain ⟨m, hm⟩ := k0; exact DataW.trod_lt m _ _ _ hm
  obtain ⟨t0, nc0, nr0, ca0, cc0, ra0, cr0, rfl, hnc0, hnr0, hT0⟩ := open_table (hval 0 25 v0 rfl rfl) h0
  have k1 := h1
  have lt1 : ∀ x ∈ p1, x.block < W.heap.size := by obtain ⟨m, hm⟩ := k1; exact DataW.trod_lt m _ _ _ hm
  obtain ⟨z1, rfl⟩ := okWide_int Try.underlying2 (hval 1 2 v1 rfl rfl)
  clear hA0 hval0
  refine (walk ca0 cc0 ra0 cr0 t0 nc0 nr0 hnc0 hnr0 z1 W hT0).mono fun e W' ⟨he, bel⟩ => ?_
  subst he
  exact ⟨_, rfl, _, _, _, [], _, [], hW', trodAll_mk1 (shut_bool Try.underlying4 _), trodAll_mk2 (Below.trod laidOut (by kernel_rfl) (of_decide_eq_true (by kernel_rfl)) k0 bel lt0) (Below.trod laidOut (by kernel_rfl) (of_decide_eq_true (by kernel_rfl)) k1 bel lt1), rfl, bel.frame _, fun h => by cases h⟩

theorem over : Rows.fnExactCensusRow.holds Try.pinned (OpenSpec.ofChange Rows.fnExactCensusSpec) :=
  OpenClaim.holds_of_wide 3 Try.f3 rfl rfl rfl rfl rfl rfl rfl ⟨rfl, rfl, rfl, rfl, rfl⟩ rfl rfl rfl rfl rfl (by kernel_rfl) Try.func3 (by kernel_rfl)
    (of_decide_eq_true (by kernel_rfl)) (by unfold Func.isWrapper; first | (rw [if_pos (by decide +kernel)]; kernel_rfl) | (rw [if_neg (by decide +kernel)]; exact ⟨rfl, rfl⟩))
    (fun os started H enc _ => lifted os started H enc)

end exCensus

theorem fnExactCensus_holds : Rows.FnExactCensusSaid := exCensus.over

end Go.Proofs.Ytbjpjhhdnbclbak
