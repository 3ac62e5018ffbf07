/-
  Proved: at every table and column the program's AllNumbers answers as its model does; it writes into no argument; the law's arguments read afterwards as before; no condition.
-/
import Derived.Test.YtbjpjhhdnbclbakTabI3
import Derived.Test.YtbjpjhhdnbclbakTab3
import Derived.Test.YtbjpjhhdnbclbakOpen2
import Derived.Lib.SmallJoins
namespace Go.Proofs.Ytbjpjhhdnbclbak
open Go.ChangeShapes Go.WideShapes Go.ChangeAt Go.RowKit Go.Joins
attribute [local go_sem ↓] Go.wp_at_zero Go.wp_at_succ
attribute [local simp] World.cell?_alloc_past World.cell?_alloc_at World.frozen?_alloc_at cell_far cell_off cell_here World.frozen?_alloc_past

namespace exAllNumbers

theorem own : ownKnob Try.prog.godebug = none := by kernel_rfl
theorem laidOut : laidOutB Try.prog = true := by kernel_rfl

set_option maxRecDepth 100000 in
set_option maxHeartbeats 4000000 in
theorem walk (ca : Option Addr) (cc : Nat) (ra : Option Addr) (cr : Nat) (t : TB) (nc nr : Nat) (hnc : t.2.1.length = nc) (hnr : t.2.2.length = nr) (col : Int) (w : World) (ht : TabAt w ca cc ra t) :
    Calls Try.prog 4 #[.agg #[.string t.1, .slice ca nc cc, .slice ra nr cr], .int .i64 col] w fun e w' => e = .returned (.bool true) ∧ Below w.heap.size w w' := by
  have HT : Hid (TabAt w ca cc ra t) := ht
  have HNC : Hid (t.2.1.length = nc) := hnc
  have HNR : Hid (t.2.2.length = nr) := hnr
  obtain ⟨B, hB⟩ : ∃ W, W = (w.alloc (.cells #[.string t.1, .slice ca nc cc, .slice ra nr cr] 25)) := ⟨_, rfl⟩
  have hA : Below w.heap.size w B := by rw [hB]; exact (Below.refl _ _).alloc (Nat.le_refl _) _
  have S1 : Hid (Calls Try.prog 5 #[.agg #[.string t.1, .slice ca nc cc, .slice ra nr cr], .int .i64 1048576] B fun e w'' => e = .returned (.int .i64 (leftT t 1048576)) ∧ Below B.heap.size B w'') := sztab_laws ca cc ra cr t nc nr hnc hnr B (ht.below hA) 1048576 (by omega) (by omega)
  obtain ⟨x, hx1⟩ : ∃ x, leftT t 1048576 = x := ⟨_, rfl⟩
  clear ht hnc hnr
  by_cases hx0 : x < 0
  · go_enter Try.func4, Try.ntmps4
    go_wp2_with fail
    rw [← hB]
    refine S1.out.mono ?_
    rw [hx1]
    rintro e w1 ⟨rfl, hb1⟩
    go_wp2
    go_ret
    exact ⟨rfl, chain hA hb1⟩
  have hx0' : 0 ≤ x := by omega
  obtain ⟨hq0, hq1, hq2, hq3⟩ := leftT_fit (t := t) (left := 1048576) (by omega) (by rw [hx1]; exact hx0')
  have hFit : Hid (∀ i (hi : i < t.2.2.length), Fit t.2.2[i]) := by
    have h0 : ∀ i (hi : i < t.2.2.length), Fit t.2.2[i] := fun i hi => by
      obtain ⟨_, _, _, _, _, _, _, _, h, _⟩ := HT.out.rows i hi; exact h
    exact h0
  have hLen : Hid (∀ i (hi : i < t.2.2.length), t.2.2[i].length ≤ maxLen) := by
    have h0 : ∀ i (hi : i < t.2.2.length), t.2.2[i].length ≤ maxLen := fun i hi => by
      obtain ⟨_, _, _, _, _, _, _, _, _, h, _⟩ := HT.out.rows i hi; exact h
    exact h0
  have HMS : Hid (∀ i (hi : i < t.2.2.length), t.2.2[i].length ≤ 1048576) := hq3
  have hcl : nc ≤ 1048576 := by rw [← HNC.out]; exact hq1
  have hrl : nr ≤ 1048576 := by rw [← HNR.out]; exact hq2
  have Z : Hid (∀ w', Below w.heap.size w w' → Calls Try.prog 7 #[.agg #[.string t.1, .slice ca nc cc, .slice ra nr cr]] w' fun e w'' => ∃ g g2, e = .returned (.agg #[.string t.1, .slice (some ⟨g, 0, none⟩) nc nc, .slice (some ⟨g2, 0, none⟩) nr nr]) ∧ TabAt w'' (some ⟨g, 0, none⟩) nc (some ⟨g2, 0, none⟩) t ∧ Below w'.heap.size w' w'') := by
    have : ∀ w', Below w.heap.size w w' → Calls Try.prog 7 #[.agg #[.string t.1, .slice ca nc cc, .slice ra nr cr]] w' fun e w'' => ∃ g g2, e = .returned (.agg #[.string t.1, .slice (some ⟨g, 0, none⟩) nc nc, .slice (some ⟨g2, 0, none⟩) nr nr]) ∧ TabAt w'' (some ⟨g, 0, none⟩) nc (some ⟨g2, 0, none⟩) t ∧ Below w'.heap.size w' w'' := by
      intro w' hw
      refine (totab_laws ca cc ra cr t nc nr HNC.out HNR.out w' (HT.out.below hw) hcl hrl HMS.out).mono ?_
      rintro e w'' ⟨g, g2, rfl, hN, hb⟩
      refine ⟨g, g2, rfl, ?_, hb⟩
      have := hN.lies HT.out.fit HT.out.name HT.out.len HT.out.lenR hFit.out hLen.out
      rw [HNC.out] at this
      exact this
    exact this
  obtain ⟨b, hb⟩ : ∃ b, allNum t col = b := ⟨_, rfl⟩
  have HB : Hid (allNum t col = b) := hb
  clear hb hq0 hq1 hq2 hq3
  go_enter Try.func4, Try.ntmps4
  go_wp2_with fail
  rw [← hB]
  refine S1.out.mono ?_
  rw [hx1]
  rintro e w1 ⟨rfl, hb1⟩
  have hp : w1.cell? ⟨w.heap.size, 0, none⟩ = some (.string t.1) ∧ w1.cell? ⟨w.heap.size, 1, none⟩ = some (.slice ca nc cc) ∧ w1.cell? ⟨w.heap.size, 2, none⟩ = some (.slice ra nr cr) ∧ w.heap.size < w1.heap.size := by
    subst hB; exact box3 hb1
  obtain ⟨p0, p1, p2, p3⟩ := hp
  have hx : Below w.heap.size w w1 := chain hA hb1
  clear hb1 S1
  go_wp2_with fail
  refine (Z.out _ hx).mono ?_
  rintro e w2 ⟨g1, g2, rfl, T1, hb2⟩
  obtain ⟨p0, p1, p2, p3⟩ := later3 hb2 ⟨p0, p1, p2, p3⟩
  replace hx := chain hx hb2
  clear hb2
  go_wp2_with fail
  refine (allnum_spec _ _ _ _ t nc nr HNC.out HNR.out _ T1 col b HB.out).mono ?_
  rintro e w3 ⟨rfl, hb3⟩
  obtain ⟨p0, p1, p2, p3⟩ := later3 hb3 ⟨p0, p1, p2, p3⟩
  replace hx := chain hx hb3
  clear hb3 T1
  go_wp2_with fail
  refine (Z.out _ hx).mono ?_
  rintro e w4 ⟨g3, g4, rfl, T2, hb4⟩
  obtain ⟨p0, p1, p2, p3⟩ := later3 hb4 ⟨p0, p1, p2, p3⟩
  replace hx := chain hx hb4
  have HX : Hid (TabAt w4 (some ⟨g3, 0, none⟩) nc (some ⟨g4, 0, none⟩) t) := T2
  clear hb4 T2
  go_wp2_with fail
  obtain ⟨V, hV⟩ : ∃ V, V = (w4.alloc (.cells #[.string t.1, .slice (some ⟨g3, 0, none⟩) nc nc, .slice (some ⟨g4, 0, none⟩) nr nr] 31)) := ⟨_, rfl⟩
  have hAV : Below w4.heap.size w4 V := by rw [hV]; exact (Below.refl _ _).alloc (Nat.le_refl _) _
  rw [← hV]
  refine (allnum_impl _ _ _ _ t nc nr HNC.out HNR.out _ (HX.out.below hAV) col b HB.out).mono ?_
  rintro e w5 ⟨rfl, hb5⟩
  have hq : w5.cell? ⟨w4.heap.size, 0, none⟩ = some (.string t.1) ∧ w5.cell? ⟨w4.heap.size, 1, none⟩ = some (.slice (some ⟨g3, 0, none⟩) nc nc) ∧ w5.cell? ⟨w4.heap.size, 2, none⟩ = some (.slice (some ⟨g4, 0, none⟩) nr nr) ∧ w4.heap.size < w5.heap.size := by
    subst hV; exact box3 hb5
  obtain ⟨q0, q1, q2, q3⟩ := hq
  have h45 : Below w4.heap.size w4 w5 := chain hAV hb5
  obtain ⟨p0, p1, p2, p3⟩ := later3 h45 ⟨p0, p1, p2, p3⟩
  have HX5 : Hid (TabAt w5 (some ⟨g3, 0, none⟩) nc (some ⟨g4, 0, none⟩) t) := HX.out.below h45
  replace hx := chain hx h45
  clear hb5 h45 HX hAV hV V
  have hbb : (b == b) = true := by simp
  go_wp2_with fail
  refine wp_region_held_drew (S := (fun w' => w'.cell? ⟨w.heap.size, 0, none⟩ = some (.string t.1) ∧ w'.cell? ⟨w.heap.size, 1, none⟩ = some (.slice ca nc cc) ∧ w'.cell? ⟨w.heap.size, 2, none⟩ = some (.slice ra nr cr) ∧ w'.cell? ⟨w4.heap.size, 0, none⟩ = some (.string t.1) ∧ w'.cell? ⟨w4.heap.size, 1, none⟩ = some (.slice (some ⟨g3, 0, none⟩) nc nc) ∧ w'.cell? ⟨w4.heap.size, 2, none⟩ = some (.slice (some ⟨g4, 0, none⟩) nr nr))) (by kernel_rfl) ?_ (fun hHeld => ?_)
  · (((try dsimp only); (repeat' apply And.intro) <;> first | (go_keep; done) | (simp (disch := first | omega | (simp <;> omega) | fail) [*]; done) | fail))
  refine wpAnyH_take (i := 0) (by simp only [List.getElem?_toArray, List.getElem?_cons_zero]; rfl) (by kernel_rfl) (by kernel_rfl) (by kernel_rfl) (by intro _ _ _ h; exact h) (Or.inl ⟨by rfl, fun w hSw => by (dsimp only at hSw; go_simp; (try with_reducible rfl))⟩) (by assumption) ?_
  simp only [Act.put, List.setIfInBounds_toArray, List.set_cons_zero, List.set_cons_succ]
  refine wpAnyH_take (i := 1) (by simp only [List.getElem?_toArray, List.getElem?_cons_zero, List.getElem?_cons_succ]; rfl) (by kernel_rfl) (by kernel_rfl) (by kernel_rfl) (by intro _ _ _ h; exact h) (Or.inl ⟨by rfl, fun w hSw => by (dsimp only at hSw; go_simp; (try with_reducible rfl))⟩) (by assumption) ?_
  simp only [Act.put, List.setIfInBounds_toArray, List.set_cons_zero, List.set_cons_succ]
  refine wpAnyH_ready (rs := [2]) (by kernel_rfl) (by simp) ?_
  refine AllReadyH.cons (by simp only [List.getElem?_toArray, List.getElem?_cons_zero, List.getElem?_cons_succ]; rfl) ?_ AllReadyH.nil
  intro K hK
  go_simp
  refine (Z.out _ hx.drew).mono ?_
  rintro e w6 ⟨g5, g6, rfl, T3, hb6⟩
  obtain ⟨hca, hfa⟩ := bcell hb6
  have hza := hb6.size
  try simp at hza
  have hx6 : Below w5.heap.size w5 w6 := undrew hb6
  have HX6 : Hid (TabAt w6 (some ⟨g3, 0, none⟩) nc (some ⟨g4, 0, none⟩) t) := HX5.out.below hx6
  replace hx := chain hx hx6
  go_wp2_with fail
  refine hK.out _ _ ?_ (fun hHeld => ?_)
  · (((try dsimp only); (repeat' apply And.intro) <;> first | (go_keep; done) | (simp (disch := first | omega | (simp <;> omega) | fail) [*]; done) | fail))
  clear hK K hb6 hca hfa HX5
  try simp only [Act.put, List.setIfInBounds_toArray, List.set_cons_zero, List.set_cons_succ]
  refine wpAnyH_ready (rs := [3]) (by kernel_rfl) (by simp) ?_
  refine AllReadyH.cons (by simp only [List.getElem?_toArray, List.getElem?_cons_zero, List.getElem?_cons_succ]; rfl) ?_ AllReadyH.nil
  intro K hK
  go_simp
  refine (eqtab_laws _ _ _ _ _ _ _ _ t nc nr HNC.out HNR.out _ HX6.out T3).mono ?_
  rintro e w7 ⟨rfl, hb7⟩
  obtain ⟨hca, hfa⟩ := bcell hb7
  have hza7 := hb7.size
  replace hx := chain hx hb7
  have y1 : w.heap.size < w6.heap.size := by omega
  have y2 : w4.heap.size < w6.heap.size := by omega
  obtain ⟨p0, p1, p2, p3⟩ := later3 hx6 ⟨p0, p1, p2, p3⟩
  obtain ⟨q0, q1, q2, q3⟩ := later3 hx6 ⟨q0, q1, q2, q3⟩
  go_wp2_with fail
  refine hK.out _ _ ?_ (fun hHeld => ?_)
  · (((try dsimp only); (repeat' apply And.intro) <;> first | (go_keep; done) | (simp (disch := first | omega | (simp <;> omega) | fail) [*]; done) | fail))
  clear hK K
  try simp only [Act.put, List.setIfInBounds_toArray, List.set_cons_zero, List.set_cons_succ]
  refine wpAnyH_take (i := 4) (by simp only [List.getElem?_toArray, List.getElem?_cons_zero, List.getElem?_cons_succ]; rfl) (by kernel_rfl) (by kernel_rfl) (by kernel_rfl) (by intro _ _ _ h; exact h) (Or.inl ⟨by rfl, fun w hSw => by (dsimp only at hSw; go_simp; (try with_reducible rfl))⟩) (by assumption) ?_
  simp only [Act.put, List.setIfInBounds_toArray, List.set_cons_zero, List.set_cons_succ]
  refine wpAnyH_done (by kernel_rfl) ?_ _
  clear hb7 T3 HX6
  go_wp2
  go_ret
  exact ⟨rfl, hx⟩

set_option maxRecDepth 100000 in
theorem lifted (os : Os) (started : os.Started) (H : Type) (enc : TypeId × Value → H) :
    ReturnsInHanded {} Try.checked os 4 .any (Rows.fnExactAllNumbersSpec.pre6 enc Try.prog Try.f4 Rows.fnExactAllNumbersRow.domain false) (Rows.fnExactAllNumbersSpec.post enc Try.prog Try.f4 false true false false) := by
  refine returnsInHanded_of_change (C := Try.checked) own started (by kernel_rfl) Try.func4
    (ChangeSpec.witness6 (enc := enc) (C := Try.checked) false ⟨#[], #[.agg #[.string ⟨#[]⟩, .slice none 0 0, .slice none 0 0], .int .i64 0], []⟩ 8 (by kernel_rfl) (by kernel_rfl) (by kernel_rfl) (by kernel_rfl)) ?_
  intro W base args ds gs before hval0 hW hcnd _
  have hval : ∀ (j : Nat) t v, Try.f4.params[j]? = some t → args[j]? = some v → Value.okWide Try.prog W .any base t v := hval0
  have hW' := hW
  obtain ⟨p, q, hA0, hV, rfl, hfz, hnd⟩ := hW
  have hA : DataW.TrodAll enc Try.prog W 0 (fun _ => true) true Try.f4.params.toList args.toList ds p := hA0
  rw [Try.params4] at hA hval
  obtain ⟨v0, v1, d0, d1, p0, p1, rfl, rfl, rfl, h0, h1⟩ := trodAll_two hA
  obtain ⟨rfl, rfl⟩ := trodVars_none hV
  have k0 := h0
  have lt0 : ∀ x ∈ p0, x.block < W.heap.size := by obtain ⟨m, hm⟩ := k0; exact DataW.trod_lt m _ _ _ hm
  obtain ⟨t0, nc0, nr0, ca0, cc0, ra0, cr0, rfl, hnc0, hnr0, hT0⟩ := open_table (hval 0 25 v0 rfl rfl) h0
  have k1 := h1
  have lt1 : ∀ x ∈ p1, x.block < W.heap.size := by obtain ⟨m, hm⟩ := k1; exact DataW.trod_lt m _ _ _ hm
  obtain ⟨z1, rfl⟩ := okWide_int Try.underlying2 (hval 1 2 v1 rfl rfl)
  clear hA0 hval0
  refine (walk ca0 cc0 ra0 cr0 t0 nc0 nr0 hnc0 hnr0 z1 W hT0).mono fun e W' ⟨he, bel⟩ => ?_
  subst he
  exact ⟨_, rfl, _, _, _, [], _, [], hW', trodAll_mk1 (shut_bool Try.underlying4 _), trodAll_mk2 (Below.trod laidOut (by kernel_rfl) (of_decide_eq_true (by kernel_rfl)) k0 bel lt0) (Below.trod laidOut (by kernel_rfl) (of_decide_eq_true (by kernel_rfl)) k1 bel lt1), rfl, bel.frame _, fun h => by cases h⟩

theorem over : Rows.fnExactAllNumbersRow.holds Try.pinned (OpenSpec.ofChange Rows.fnExactAllNumbersSpec) :=
  OpenClaim.holds_of_wide 4 Try.f4 rfl rfl rfl rfl rfl rfl rfl ⟨rfl, rfl, rfl, rfl, rfl⟩ rfl rfl rfl rfl rfl (by kernel_rfl) Try.func4 (by kernel_rfl)
    (of_decide_eq_true (by kernel_rfl)) (by unfold Func.isWrapper; first | (rw [if_pos (by decide +kernel)]; kernel_rfl) | (rw [if_neg (by decide +kernel)]; exact ⟨rfl, rfl⟩))
    (fun os started H enc _ => lifted os started H enc)

end exAllNumbers

theorem fnExactAllNumbers_holds : Rows.FnExactAllNumbersSaid := exAllNumbers.over

end Go.Proofs.Ytbjpjhhdnbclbak
