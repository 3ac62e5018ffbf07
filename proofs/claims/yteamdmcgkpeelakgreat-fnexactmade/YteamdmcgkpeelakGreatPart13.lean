/-
  A part of the proof: ShI6, SpB1, SpB2.
-/
import Derived.Test.YteamdmcgkpeelakGreatPart12
import Derived.Test.YteamdmcgkpeelakGreatPart11
import Derived.Test.YteamdmcgkpeelakGreatPart6

/-
  The contracts of the program's Made, Dropped and Replaced.
-/
namespace Go.Proofs.YteamdmcgkpeelakGreat
open Go.ChangeShapes Go.WideShapes Go.ChangeAt Go.RowKit Go.Maps
attribute [local go_sem ↓] Go.wp_at_zero Go.wp_at_succ
attribute [local simp] World.cell?_alloc_past World.cell?_alloc_at World.frozen?_alloc_at cell_far cell_off cell_here World.frozen?_alloc_past

/-- A list of tables in memory of its own, and a truth. -/
def PairOut (w : World) (V : List TB) (b : Bool) (e : Ending) (w' : World) : Prop := ∃ a n cap Q, V.length = n ∧ e = .returned (.tuple #[.slice a n cap, .bool b]) ∧ OutTs w' w.heap.size a V Q ∧ Below w.heap.size w w' ∧ n ≤ cap
theorem OutU.lower {w : World} {base base' : Nat} {a : Option Addr} {T : List TB} {Q : Nat → TAd} {m : Nat} (h : OutU w base a T Q m) (hb : base' ≤ base) : OutU w base' a T Q m :=
  ⟨h.heads, fun i hi hm => (h.tabs i hi hm).lower hb, h.apart, h.head, fun g o h0 e => Nat.le_trans hb (h.lo g o h0 e)⟩

set_option maxRecDepth 100000 in
set_option maxHeartbeats 4000000 in
theorem dropped_impl (a : Option Addr) (cap : Nat) (T : List TB) (n : Nat) (hn : T.length = n) (s : ByteArray) (hs : s.size ≤ maxLen) (w : World) (hrow : TabsAt w a T) (hm : n ≤ 1048576) (V : List TB) (r : Bool) (hV : droppedR T s = (V, r)) :
    Calls Tryz.prog 17 #[.slice a n cap, .string s] w (PairOut w V r) := by
  obtain ⟨b, hb⟩ : ∃ b, baseB T = b := ⟨_, rfl⟩
  obtain ⟨U, hU⟩ : ∃ U, (if b then T else []) = U := ⟨_, rfl⟩
  have E : Hid (Calls Tryz.prog 25 #[.slice a n cap] w fun e w' => e = .returned (.tuple #[.map (some w.heap.size), .bool b]) ∧ ShelfT w w' w.heap.size n U ∧ Below w.heap.size w w') := by
    have := shelf_impl a cap T n hn w hrow hm b hb
    rw [hU] at this
    exact this
  have hUV : V = dropT U s ∧ r = decide (s ∈ namesT U) ∧ risesN (namesT U) = true ∧ (∀ t, t ∈ U → Small t) ∧ U.length ≤ 5 := by
    unfold droppedR at hV
    rw [hb] at hV
    cases b
    · simp at hV hU
      subst hU
      exact ⟨by first | (rw [hV.1]; rfl) | (rw [← hV.1]; rfl), by first | (rw [hV.2]; simp [namesT]; done) | (rw [← hV.2]; simp [namesT]; done), rfl, fun t ht => (by cases ht), Nat.zero_le _⟩
    · simp at hV hU
      subst hU
      obtain ⟨p1, p2, p3⟩ := baseB_parts hb
      exact ⟨hV.1.symm, by rw [← hV.2], p2, fun t ht => tableB_small (p1 t ht), p3⟩
  obtain ⟨eV, er, hri, hsm, h5⟩ := hUV
  have HEV : Hid (V = dropT U s) := eV
  have HER : Hid (decide (s ∈ namesT U) = r) := er.symm
  have HRI : Hid (risesN (namesT U) = true) := hri
  have HSM : Hid (∀ t, t ∈ U → Small t) := hsm
  have hl : (dropT U s).length ≤ 5 := Nat.le_trans (List.length_filter_le _ _) h5
  obtain ⟨k, hk⟩ : ∃ k, V.length = k := ⟨_, rfl⟩
  have hk5 : k ≤ 5 := by rw [← hk, eV]; exact hl
  have HK : Hid (V.length = k) := hk
  clear hrow hn hb hU hV eV er hri hsm h5 hl hk
  go_enter Tryz.func17, Tryz.ntmps17
  go_wp2_with fail
  refine E.out.mono ?_
  rintro e w1 ⟨rfl, hS1, hb1⟩
  go_wp2_with fail
  refine (has_impl w w.heap.size n U _ hS1 s hs r HER.out).mono ?_
  rintro e w2 ⟨rfl, hb2⟩
  have hS2 := hS1.below hb2
  have hx2 := chain hb1 hb2
  obtain ⟨_, f, ⟨D, hown, hSay⟩, hH⟩ := hS2
  have HD : Hid (∀ w', w'.ownsMap Tryz.prog 9 tokR w.heap.size n (D.del (keyL s)) → ShelfT w w' w.heap.size n (dropT U s)) := by
    have : ∀ w', w'.ownsMap Tryz.prog 9 tokR w.heap.size n (D.del (keyL s)) → ShelfT w w' w.heap.size n (dropT U s) := fun w' h => ShelfT.cut hSay hH h
    exact this
  have HOWN : Hid (w2.ownsMap Tryz.prog 9 tokR w.heap.size n D) := hown
  clear hSay hH hown hS1 hb1 hb2
  go_wp2_with (at_delete; refine wpList_delete_own _ rfl _ _ 50 9 rfl 44 str_keyed Tryz.underlying50 tokR w.heap.size n D rfl HOWN.out _ _ rfl (keyOf_txt s hs) ?_)
  intro w3 hown3 hturn3
  have hS3 := HD.out w3 hown3
  have hx3 : Below w.heap.size w w3 := below_turned hx2 hturn3 (Nat.le_refl _)
  clear hown3 hturn3 HD HOWN hx2
  go_wp2_with fail
  refine (listed_impl w w.heap.size n (dropT U s) V (by rw [HEV.out]) (by rw [HEV.out]; exact dropT_rises HRI.out) k HK.out (by omega) (fun t ht => HSM.out t (by rw [HEV.out] at ht; exact (List.mem_filter.1 ht).1)) _ hS3 hx3).mono ?_
  rintro e w4 ⟨a4, cap4, Q, rfl, hO, hb4, hcap⟩
  have FIN : Hid (PairOut w V r (.returned (.tuple #[.slice a4 k cap4, .bool r])) w4) := ⟨a4, k, cap4, Q, HK.out, rfl, hO.lower hx3.size, chain hx3 hb4, hcap⟩
  clear hO hb4 hS3
  go_wp2
  exact bodyPost_ret (v := .tuple #[.slice a4 k cap4, .bool r]) (by simp [results, Tryz.results17, go_sem]) rfl FIN.out

set_option maxRecDepth 100000 in
set_option maxHeartbeats 4000000 in
theorem made_impl (a : Option Addr) (cap : Nat) (T : List TB) (n : Nat) (hn : T.length = n) (nm : ByteArray) (hnmL : nm.size ≤ maxLen) (ca : Option Addr) (cc : Nat) (C : List ByteArray) (nc : Nat) (hnc : C.length = nc) (w : World) (hrow : TabsAt w a T) (hC : StrsAt w ca C) (hF : FitS C) (hcm : C.length ≤ maxLen) (hcap : C.length ≤ cc) (hnil : ca = none → cc = 0) (hm : n ≤ 1048576) (V : List TB) (r : Bool) (hV : madeR T (nm, C, []) = (V, r)) :
    Calls Tryz.prog 10 #[.slice a n cap, .string nm, .slice ca nc cc] w (PairOut w V r) := by
  obtain ⟨b, hb⟩ : ∃ b, baseB T = b := ⟨_, rfl⟩
  obtain ⟨U, hU⟩ : ∃ U, (if b then T else []) = U := ⟨_, rfl⟩
  obtain ⟨t, ht0⟩ : ∃ t : TB, t = (nm, C, []) := ⟨_, rfl⟩
  have hta : TabAt w ca cc none t := by rw [ht0]; exact ⟨hC, hF, hcm, hcap, hnil, fun i hi => by simp at hi, by unfold maxLen; simp, hnmL⟩
  have E : Hid (Calls Tryz.prog 25 #[.slice a n cap] w fun e w' => e = .returned (.tuple #[.map (some w.heap.size), .bool b]) ∧ ShelfT w w' w.heap.size n U ∧ Below w.heap.size w w') := by
    have := shelf_impl a cap T n hn w hrow hm b hb
    rw [hU] at this
    exact this
  obtain ⟨h, hh⟩ : ∃ h, decide (nm ∈ namesT U) = h := ⟨_, rfl⟩
  obtain ⟨c, hc⟩ : ∃ c, tableB t = c := ⟨_, rfl⟩
  have hUV : (V, r) = (if b && (!h && (decide (U.length ≠ 5) && c)) then (insT U t, true) else (U, false)) ∧ risesN (namesT U) = true ∧ (∀ t, t ∈ U → Small t) ∧ U.length ≤ 5 := by
    unfold madeR at hV
    rw [hb, ← ht0, hc] at hV
    cases b
    · simp at hU
      subst hU
      rw [if_neg (by simp)] at hV
      exact ⟨by rw [← hV]; rfl, rfl, fun t ht => (by cases ht), Nat.zero_le _⟩
    · simp at hU
      subst hU
      obtain ⟨p1, p2, p3⟩ := baseB_parts hb
      rw [if_pos rfl, show t.1 = nm by rw [ht0]] at hV
      refine ⟨?_, p2, fun t ht => tableB_small (p1 t ht), p3⟩
      rw [← hV, ← hh]
      cases c <;> by_cases hx : nm ∈ namesT T <;> by_cases hy : T.length = 5 <;> simp [hx, hy]
  obtain ⟨eV, hri, hsm, h5⟩ := hUV
  have HC : Hid (tableB t = c) := hc
  have HT : Hid (TabAt w ca cc none t) := hta
  have HNM : Hid (t.1 = nm) := by rw [ht0]; exact rfl
  have HNC : Hid (t.2.1.length = nc) := by rw [ht0]; exact hnc
  have HNR : Hid (t.2.2.length = 0) := by rw [ht0]; exact rfl
  have HRI : Hid (risesN (namesT U) = true) := hri
  have HSM : Hid (∀ t, t ∈ U → Small t) := hsm
  have HHH : Hid (decide (nm ∈ namesT U) = h) := hh
  obtain ⟨u, hu⟩ : ∃ u, U.length = u := ⟨_, rfl⟩
  rw [hu] at h5 eV
  have HU : Hid ((namesT U).length = u) := by
    have : (namesT U).length = u := by rw [namesT_length]; exact hu
    exact this
  have HU2 : Hid (U.length = u) := hu
  clear hrow hn hb hU hV hri hsm hta hnc hc hh ht0 hC hF hcm hcap hnil hu
  have TAIL : Hid (∀ (w1 : World) (m : Nat) (U' V' : List TB), V'.Perm U' → ShelfT w w1 w.heap.size m U' → Below w.heap.size w w1 → risesN (namesT V') = true → V'.length ≤ 5 → (∀ t, t ∈ V' → Small t) → Calls Tryz.prog 28 #[.map (some w.heap.size)] w1 fun e w2 => ∃ a4 k cap4 Q, V'.length = k ∧ e = .returned (.slice a4 k cap4) ∧ OutTs w2 w.heap.size a4 V' Q ∧ Below w.heap.size w w2 ∧ k ≤ cap4) := by
    have : ∀ (w1 : World) (m : Nat) (U' V' : List TB), V'.Perm U' → ShelfT w w1 w.heap.size m U' → Below w.heap.size w w1 → risesN (namesT V') = true → V'.length ≤ 5 → (∀ t, t ∈ V' → Small t) → Calls Tryz.prog 28 #[.map (some w.heap.size)] w1 fun e w2 => ∃ a4 k cap4 Q, V'.length = k ∧ e = .returned (.slice a4 k cap4) ∧ OutTs w2 w.heap.size a4 V' Q ∧ Below w.heap.size w w2 ∧ k ≤ cap4 := by
      intro w1 m U' V' hp hS hx hri hl hsm
      refine (listed_impl w w.heap.size m U' V' hp hri _ rfl (by omega) hsm w1 hS hx).mono ?_
      rintro e w4 ⟨a4, cap4, Q, rfl, hO, hb4, hcap⟩
      exact ⟨a4, _, cap4, Q, rfl, rfl, hO.lower hx.size, chain hx hb4, hcap⟩
    exact this
  go_enter Tryz.func10, Tryz.ntmps10
  go_wp2_with fail
  refine E.out.mono ?_
  rintro e w1 ⟨rfl, hS1, hb1⟩
  have hA1 : Below w1.heap.size w1 (w1.alloc (.cells #[.string nm, .slice ca nc cc, .slice none 0 0] 44)) := (Below.refl _ _).alloc (Nat.le_refl _) _
  obtain ⟨W, hW⟩ : ∃ W, W = w1.alloc (.cells #[.string nm, .slice ca nc cc, .slice none 0 0] 44) := ⟨_, rfl⟩
  have HWE : Hid (w1.alloc (.cells #[.string nm, .slice ca nc cc, .slice none 0 0] 44) = W) := hW.symm
  rw [← hW] at hA1
  have hp : W.cell? ⟨w1.heap.size, 0, none⟩ = some (.string nm) ∧ W.cell? ⟨w1.heap.size, 1, none⟩ = some (.slice ca nc cc) ∧ W.cell? ⟨w1.heap.size, 2, none⟩ = some (.slice none 0 0) ∧ w1.heap.size < W.heap.size := by
    subst hW; exact ⟨by simp, by simp, by simp, by simp⟩
  have hSW := hS1.below hA1
  have hxW := chain hb1 hA1
  clear hW hS1
  cases b
  · rw [Bool.false_and, if_neg (by simp)] at eV
    obtain ⟨rfl, rfl⟩ : V = U ∧ r = false := by simpa using eV
    go_wp2_with fail
    rw [HWE.out]
    refine (TAIL.out _ n V V (List.Perm.refl _) hSW hxW HRI.out (by rw [HU2.out]; exact h5) HSM.out).mono ?_
    rintro e w4 ⟨a4, k, cap4, Q, hk, rfl, hO, hb4, hcap⟩
    have FIN : Hid (PairOut w V false (.returned (.tuple #[.slice a4 k cap4, .bool false])) w4) := ⟨a4, k, cap4, Q, hk, rfl, hO, hb4, hcap⟩
    clear hO hb4 hSW hk
    go_wp2
    exact bodyPost_ret (v := .tuple #[.slice a4 k cap4, .bool false]) (by simp [results, Tryz.results10, go_sem]) rfl FIN.out
  rw [Bool.true_and] at eV
  go_wp2_with fail
  rw [HWE.out]
  refine (has_impl w w.heap.size n U _ hSW nm hnmL h HHH.out).mono ?_
  rintro e w2 ⟨rfl, hb2⟩
  have hS2 := hSW.below hb2
  have hx2 := chain hxW hb2
  obtain ⟨p0, p1, p2, p3⟩ := later3 hb2 hp
  clear hSW hb2 hxW hp hA1 hb1 HWE
  cases h
  case true =>
    rw [if_neg (by simp)] at eV
    obtain ⟨rfl, rfl⟩ : V = U ∧ r = false := by simpa using eV
    go_wp2_with fail
    refine (TAIL.out _ n V V (List.Perm.refl _) hS2 hx2 HRI.out (by rw [HU2.out]; exact h5) HSM.out).mono ?_
    rintro e w4 ⟨a4, k, cap4, Q, hk, rfl, hO, hb4, hcap⟩
    have FIN : Hid (PairOut w V false (.returned (.tuple #[.slice a4 k cap4, .bool false])) w4) := ⟨a4, k, cap4, Q, hk, rfl, hO, hb4, hcap⟩
    clear hO hb4 hS2 hk
    go_wp2
    exact bodyPost_ret (v := .tuple #[.slice a4 k cap4, .bool false]) (by simp [results, Tryz.results10, go_sem]) rfl FIN.out
  rw [Bool.not_false, Bool.true_and] at eV
  have hlen : ∀ ty, (Builtin.len_ #[50] ty #[.map (some w.heap.size)]).run Tryz.prog w2 = .ok (.int .i64 u) w2 := by
    obtain ⟨_, f, hSh, _⟩ := hS2
    intro ty
    rw [hSh.len ty, HU.out]
  by_cases hu5 : u = 5
  · subst hu5
    rw [if_neg (by simp)] at eV
    obtain ⟨rfl, rfl⟩ : V = U ∧ r = false := by simpa using eV
    go_wp2_with fail
    refine (TAIL.out _ n V V (List.Perm.refl _) hS2 hx2 HRI.out (by rw [HU2.out]; exact h5) HSM.out).mono ?_
    rintro e w4 ⟨a4, k, cap4, Q, hk, rfl, hO, hb4, hcap⟩
    have FIN : Hid (PairOut w V false (.returned (.tuple #[.slice a4 k cap4, .bool false])) w4) := ⟨a4, k, cap4, Q, hk, rfl, hO, hb4, hcap⟩
    clear hO hb4 hS2 hk hlen
    go_wp2
    exact bodyPost_ret (v := .tuple #[.slice a4 k cap4, .bool false]) (by simp [results, Tryz.results10, go_sem]) rfl FIN.out
  rw [decide_eq_true hu5, Bool.true_and] at eV
  have hu5' : ¬ (u : Int) = 5 := by omega
  have hu5b : ((u : Int) == 5) = false := by rw [beq_eq_false_iff_ne]; exact hu5'
  go_wp2_with fail
  rw [← HNM.out]
  refine (table_impl ca cc none 0 t nc 0 HNC.out HNR.out _ (HT.out.below hx2) c HC.out).mono ?_
  rintro e w3 ⟨rfl, hb3⟩
  rw [HNM.out]
  have hS3 := hS2.below hb3
  have hx3 := chain hx2 hb3
  obtain ⟨p0, p1, p2, p3⟩ := later3 hb3 ⟨p0, p1, p2, p3⟩
  clear hS2 hb3 hx2 hlen
  cases c
  · rw [if_neg (by simp)] at eV
    obtain ⟨rfl, rfl⟩ : V = U ∧ r = false := by simpa using eV
    go_wp2_with fail
    refine (TAIL.out _ n V V (List.Perm.refl _) hS3 hx3 HRI.out (by rw [HU2.out]; exact h5) HSM.out).mono ?_
    rintro e w4 ⟨a4, k, cap4, Q, hk, rfl, hO, hb4, hcap⟩
    have FIN : Hid (PairOut w V false (.returned (.tuple #[.slice a4 k cap4, .bool false])) w4) := ⟨a4, k, cap4, Q, hk, rfl, hO, hb4, hcap⟩
    clear hO hb4 hS3 hk
    go_wp2
    exact bodyPost_ret (v := .tuple #[.slice a4 k cap4, .bool false]) (by simp [results, Tryz.results10, go_sem]) rfl FIN.out
  rw [if_pos rfl] at eV
  obtain ⟨eV1, rfl⟩ : V = insT U t ∧ r = true := by simpa using eV
  have hmem : t.1 ∉ namesT U := by rw [HNM.out]; exact of_decide_eq_false HHH.out
  have HMEM : Hid (t.1 ∉ namesT U) := hmem
  obtain ⟨_, f, ⟨D, hown, hSay⟩, hH⟩ := hS3
  have HD : Hid (∀ w', w'.ownsMap Tryz.prog 9 tokR w.heap.size (n + 1) (D.put (keyL nm) (.held (.agg #[.string nm, .slice ca nc cc, .slice none 0 0]))) → ShelfT w w' w.heap.size (n + 1) (U ++ [t])) := by
    have : ∀ w', w'.ownsMap Tryz.prog 9 tokR w.heap.size (n + 1) (D.put (keyL nm) (.held (.agg #[.string nm, .slice ca nc cc, .slice none 0 0]))) → ShelfT w w' w.heap.size (n + 1) (U ++ [t]) := fun w' h =>
      ShelfT.added (ca := ca) (cc := cc) (ra := none) (cr := 0) hown hSay hH hmem HT.out (by rw [HNM.out, HNC.out, HNR.out]; exact h)
    exact this
  have HOWN : Hid (w3.ownsMap Tryz.prog 9 tokR w.heap.size n D) := hown
  clear hSay hH hown hmem
  go_wp2_with (at_mapUpdate; refine wpList_mapUpdate_in _ rfl _ _ _ 50 rfl 9 44 str_keyed Tryz.underlying50 tokR w.heap.size n D rfl HOWN.out (by unfold maxLen; omega) _ _ _ rfl rfl (keyOf_txt nm hnmL) _ [] rfl ?_)
  intro w4 hown4 hturn4
  have hS4 := HD.out w4 hown4
  have hx4 : Below w.heap.size w w4 := below_turned hx3 hturn4 (Nat.le_refl _)
  clear hown4 hturn4 HD HOWN hx3 p0 p1 p2 p3
  go_wp2_with fail
  refine (TAIL.out _ (n + 1) (U ++ [t]) (insT U t) (insT_perm U t) hS4 hx4 (insT_rises HRI.out HMEM.out) (by rw [insT_length, HU2.out]; omega) (fun x hx => by
    rcases List.mem_append.1 ((insT_perm U t).mem_iff.1 hx) with hx | hx
    · exact HSM.out x hx
    · rw [List.mem_singleton] at hx; subst hx; exact tableB_small HC.out)).mono ?_
  rintro e w5 ⟨a4, k, cap4, Q, hk, rfl, hO, hb4, hcap⟩
  have FIN : Hid (PairOut w V true (.returned (.tuple #[.slice a4 k cap4, .bool true])) w5) := ⟨a4, k, cap4, Q, by rw [eV1]; exact hk, rfl, by rw [eV1]; exact hO, hb4, hcap⟩
  clear hO hb4 hS4 hk
  go_wp2
  exact bodyPost_ret (v := .tuple #[.slice a4 k cap4, .bool true]) (by simp [results, Tryz.results10, go_sem]) rfl FIN.out

end Go.Proofs.YteamdmcgkpeelakGreat

/-
  The contract of the model's copy of a list of tables, and rows of tables' heads that are put one behind the other.
-/
namespace Go.Proofs.YteamdmcgkpeelakGreat
open Go.ChangeShapes Go.WideShapes Go.ChangeAt Go.RowKit
attribute [local go_sem ↓] Go.wp_at_zero Go.wp_at_succ
attribute [local simp] World.cell?_alloc_past World.cell?_alloc_at World.frozen?_alloc_at cell_far cell_off cell_here World.frozen?_alloc_past

theorem infoTS : (Tryz.prog.info? 44).map (fun i => (i.zero, i.size, i.bytes)) = some (some (.agg #[.string ⟨#[]⟩, .slice none 0 0, .slice none 0 0]), 3, 64) := by kernel_rfl
/-- Tables that can be copied. -/
def SmallS (t : TB) : Prop := t.2.1.length ≤ 1048576 ∧ t.2.2.length ≤ 1048576 ∧ ∀ i (h : i < t.2.2.length), t.2.2[i].length ≤ 1048576
theorem own_emptyT (w : World) (B : Nat) (hB : B ≤ w.heap.size) : (w.alloc (.cells #[] 44)).ownsRow B 44 3 (.slice (some ⟨w.heap.size, 0, none⟩) 0 0) 0 [] :=
  ⟨rfl, .inr ⟨w.heap.size, 0, #[], rfl, hB, by show (w.heap.push _)[w.heap.size]? = _; simp, Nat.le_refl _, by unfold maxLen; omega, rfl, rfl⟩⟩
/-- A copy: a list of tables in memory of its own, not nil. -/
def CopyOut (w : World) (n : Nat) (V : List TB) (e : Ending) (w' : World) : Prop := ∃ g cap Q, e = .returned (.slice (some ⟨g, 0, none⟩) n cap) ∧ w'.ownsRow w.heap.size 44 3 (.slice (some ⟨g, 0, none⟩) n cap) n (tabsV V Q n) ∧ OutTs w' w.heap.size (some ⟨g, 0, none⟩) V Q ∧ Below w.heap.size w w' ∧ n ≤ cap

set_option maxRecDepth 100000 in
set_option maxHeartbeats 4000000 in
theorem l6copy_spec (a : Option Addr) (cap : Nat) (T : List TB) (n : Nat) (hn : T.length = n) (w : World) (hrow : TabsAt w a T) (hm : n ≤ 1048576) (hsm : ∀ t, t ∈ T → SmallS t) :
    Calls Tryz.prog 21 #[.slice a n cap] w (CopyOut w n T) := by
  obtain ⟨i0, hti, hz0, hz1, hz2⟩ := info_parts infoTS
  have HR : Hid (TabsAt w a T) := hrow
  have HN : Hid (T.length = n) := hn
  have HSM : Hid (∀ t, t ∈ T → SmallS t) := hsm
  have own0 : Hid (∃ Q, OwnTs (w.alloc (.cells #[] 44)) w.heap.size (.slice (some ⟨w.heap.size, 0, none⟩) 0 0) T Q 0) := ⟨fun _ => ⟨none, 0, none, 0, fun _ => none, fun _ => 0⟩, OwnTs.start _ (own_emptyT w _ (Nat.le_refl _))⟩
  have hb0 : Below w.heap.size w (w.alloc (.cells #[] 44)) := (Below.refl _ _).alloc (Nat.le_refl _) _
  clear hrow hn hsm
  go_enter Tryz.func21, Tryz.ntmps21
  go_wp2
  go_loopw [3, 4] (fun v kk wr => ∃ k : Nat, k ≤ n ∧ kk = .int .i64 k ∧ Hid (∃ Q, OwnTs wr w.heap.size v T Q k) ∧ Below w.heap.size w wr ∧ v ≠ .slice none 0 0) (fun _ kk _ => n - (intOf kk).toNat)
  case atStart => exact ⟨0, Nat.zero_le _, rfl, own0, hb0, by simp⟩
  case round =>
    obtain ⟨k, hk, rfl, hOw, hbw, hvn⟩ := hrel
    by_cases hlt : k < n
    · have hlt' : Hid (k < T.length) := by have := HN.out; exact show k < T.length by omega
      obtain ⟨g, o, ca, cc, ra, cr, rfl, hgw, c0, c1, c2, hta⟩ := HR.out.below hbw k hlt'.out
      have hi0 : (0 : Int) ≤ (k : Int) := by omega
      have hi1 : (k : Int) < (n : Int) := by omega
      obtain ⟨Q, hO⟩ := hOw.out
      have HO : Hid (OwnTs wr w.heap.size _ T Q k) := hO
      have HSS : Hid (SmallS (T[k]'hlt'.out)) := HSM.out _ (List.getElem_mem hlt'.out)
      have HTA : Hid (TabAt wr ca cc ra (T[k]'hlt'.out)) := hta
      obtain ⟨t, ht⟩ : ∃ t, (T[k]'hlt'.out) = t := ⟨_, rfl⟩
      rw [ht] at c0 c1 c2 HTA HSS
      have HVK : Hid ((T[k]'hlt'.out) = t) := ht
      clear hO hOw hta ht
      obtain ⟨nc, hnc⟩ : ∃ z, t.2.1.length = z := ⟨_, rfl⟩
      obtain ⟨nr, hnr⟩ : ∃ z, t.2.2.length = z := ⟨_, rfl⟩
      obtain ⟨nm, hnm⟩ : ∃ z, t.1 = z := ⟨_, rfl⟩
      rw [hnm] at c0
      rw [hnc] at c1
      rw [hnr] at c2
      have HNC : Hid (t.2.1.length = nc) := hnc
      have HNR : Hid (t.2.2.length = nr) := hnr
      have HNM : Hid (t.1 = nm) := hnm
      clear hnc hnr hnm
      have hncS : nc ≤ 1048576 := by rw [← HNC.out]; exact HSS.out.1
      have hnrS : nr ≤ 1048576 := by rw [← HNR.out]; exact HSS.out.2.1
      go_wp2_with fail
      rw [← HNM.out]
      refine (copy_spec ca cc ra cr t nc nr HNC.out HNR.out _ HTA.out hncS hnrS HSS.out.2.2).mono ?_
      rintro e w3 ⟨g1, c1', g2, c2', G, D, rfl, _, hc1, hown, hrows, hb3⟩
      rw [HNM.out]
      have hq : Hid (OutT w3 wr.heap.size ⟨some ⟨g1, 0, none⟩, c1', some ⟨g2, 0, none⟩, c2', fun i => some ⟨G i, 0, none⟩, D⟩ (T[k]'hlt'.out)) := by
        have : OutT w3 wr.heap.size ⟨some ⟨g1, 0, none⟩, c1', some ⟨g2, 0, none⟩, c2', fun i => some ⟨G i, 0, none⟩, D⟩ (T[k]'hlt'.out) := by
          rw [HVK.out]
          have ht := HTA.out
          refine out_of_own (by decide) (by decide) hown (by rw [HNR.out]; exact hrows) (by rw [HNC.out]; exact hc1) ht.fit ht.name ht.len ht.lenR (fun i hi => ?_) (fun i hi => ?_)
          · obtain ⟨_, _, _, _, _, _, _, _, h, _⟩ := ht.rows i hi; exact h
          · obtain ⟨_, _, _, _, _, _, _, _, _, h, _⟩ := ht.rows i hi; exact h
        exact this
      have O3 := own_below HO.out.own hb3
      have HB3 : Hid (Below wr.heap.size wr w3) := hb3
      have hs3w : w.heap.size ≤ w3.heap.size := by have := hbw.size; have := hb3.size; omega
      clear hown hrows hb3 c0 c1 c2 HTA
      go_wp2_with (at_builtin; refine wpList_append_own_at _ rfl _ _ 26 rfl w.heap.size 44 i0 (.agg #[.string ⟨#[]⟩, .slice none 0 0, .slice none 0 0]) 3 64 Tryz.underlying26 hti hz0 hz1 hz2 rfl (by decide) _ _ _ rfl (O3.alloc _) ⟨w3.heap.size, 0, none⟩ 1 1 [.string nm, .slice (some ⟨g1, 0, none⟩) nc c1', .slice (some ⟨g2, 0, none⟩) nr c2'] rfl rfl ?c1 ?c2 ?c3 ?c4 ?c5 ?_)
      case c1 =>
        intro j u hj
        match j, hj with
        | 0, hj => simp at hj; subst hj; simp [Addr.add]
        | 1, hj => simp at hj; subst hj; simp [Addr.add]
        | 2, hj => simp at hj; subst hj; simp [Addr.add]
      case c2 => intro u hu; simp at hu; rcases hu with rfl | rfl | rfl <;> rfl
      case c3 => unfold maxLen; omega
      case c4 => omega
      case c5 => simp; omega
      intro v' w4 own4 hgrow hnn hloc
      have hx4 : Below w.heap.size w w4 := by
        refine ((hbw.trans (HB3.out.mono hbw.size)).alloc hs3w _).grown hgrow (by simp; omega) ?_
        intro j hj
        exact (O3.lt j hj).1
      have hsa : (w3.alloc (.cells #[.string nm, .slice (some ⟨g1, 0, none⟩) nc c1', .slice (some ⟨g2, 0, none⟩) nr c2'] 44)).heap.size = w3.heap.size + 1 := by simp
      have OW4 : Hid (∃ Q, OwnTs w4 w.heap.size v' T Q (k + 1)) := by
        refine ⟨_, OwnTs.snoc HO.out hlt'.out hbw.size HB3.out hq.out ?_ hgrow (by first | exact hloc | (rw [hsa]; exact hloc))⟩
        unfold headV
        rw [HVK.out, HNM.out, HNC.out, HNR.out]
        exact own4
      have hvn4 : v' ≠ .slice none 0 0 := by first | exact hnn | exact fun e => hvn (hnn.1 e).1
      clear own4 hgrow hnn hloc O3 HO hq HB3 hsa
      go_wp2
      go_roundw
      case rel => exact ⟨k + 1, by omega, by go_num, OW4, hx4, hvn4⟩
      case measure => simp [intOf]; omega
    · have hkl : k = n := by omega
      subst hkl
      have hnn : ¬ (k : Int) < (k : Int) := by omega
      obtain ⟨Q, hO⟩ := hOw.out
      obtain ⟨a', cap', hv, hout, hcap⟩ := hO.out HN.out
      have hown := hO.own
      rcases hown.2 with ⟨e, _⟩ | ⟨g, c, cur, e, _⟩
      · exact absurd e hvn
      rw [e] at hv
      injection hv with e1 e2 e3
      subst e1 e3 e
      have FIN : Hid (CopyOut w k T (.returned (.slice (some ⟨g, 0, none⟩) k c)) wr) := ⟨g, c, Q, rfl, hown, hout, hbw, hcap⟩
      clear hO hout hOw hown
      go_wp2
      go_ret
      exact FIN.out
end Go.Proofs.YteamdmcgkpeelakGreat

/-
  Rows of tables' heads, put one behind the other; and the contract of the model's Dropped.
-/
namespace Go.Proofs.YteamdmcgkpeelakGreat
open Go.ChangeShapes Go.WideShapes Go.ChangeAt Go.RowKit
attribute [local go_sem ↓] Go.wp_at_zero Go.wp_at_succ
attribute [local simp] World.cell?_alloc_past World.cell?_alloc_at World.frozen?_alloc_at cell_far cell_off cell_here World.frozen?_alloc_past

/-- The heads of tables with where their lists lie. -/
def hvP (P : List (TB × TAd)) : List Value := P.flatMap (fun p => headV p.1 p.2)
theorem hvP_append (P R : List (TB × TAd)) : hvP (P ++ R) = hvP P ++ hvP R := by simp [hvP]
theorem hvP_length (P : List (TB × TAd)) : (hvP P).length = P.length * 3 := by
  induction P with
  | nil => rfl
  | cons p P ih => rw [show p :: P = [p] ++ P from rfl, hvP_append, List.length_append, ih]; simp [hvP, headV]; omega
def pairsT (T : List TB) (Q : Nat → TAd) (n : Nat) : List (TB × TAd) := (List.range n).map (fun i => (T.getD i zeroTB, Q i))
theorem pairsT_length (T : List TB) (Q : Nat → TAd) (n : Nat) : (pairsT T Q n).length = n := by simp [pairsT]
theorem hvP_pairs (T : List TB) (Q : Nat → TAd) (n : Nat) : hvP (pairsT T Q n) = tabsV T Q n := by
  induction n with
  | zero => rfl
  | succ n ih =>
    rw [pairsT, List.range_succ, List.map_append, hvP_append]
    rw [show hvP ((List.range n).map (fun i => (T.getD i zeroTB, Q i))) = tabsV T Q n from ih, tabsV]
    simp [hvP]
theorem pairsT_fst (T : List TB) (Q : Nat → TAd) : (pairsT T Q T.length).map Prod.fst = T := by
  refine List.ext_getElem (by simp [pairsT]) fun i h1 h2 => ?_
  simp only [pairsT, List.getElem_map, List.getElem_range]
  exact getD_tb h2
theorem hvP_at {P : List (TB × TAd)} {i : Nat} (h : i < P.length) (j : Nat) (hj : j < 3) : (hvP P)[i * 3 + j]? = (headV P[i].1 P[i].2)[j]? := by
  have e : P = P.take i ++ P[i] :: P.drop (i + 1) := by rw [← List.drop_eq_getElem_cons (by assumption), List.take_append_drop]
  have e2 : hvP P = hvP (P.take i) ++ (headV P[i].1 P[i].2 ++ hvP (P.drop (i + 1))) := by
    conv => lhs; rw [e, hvP_append, show P[i] :: P.drop (i + 1) = [P[i]] ++ P.drop (i + 1) from rfl, hvP_append]
    congr 2
    try simp [hvP]
  have hl : (hvP (P.take i)).length = i * 3 := by rw [hvP_length, List.length_take, Nat.min_eq_left (by omega)]
  rw [e2, List.getElem?_append_right (by omega), hl, show i * 3 + j - i * 3 = j by omega, List.getElem?_append_left (by simp [headV]; omega)]
theorem hvP_one {P : List (TB × TAd)} {u : Value} (hu : u ∈ hvP P) : u.oneCell' = true := by
  unfold hvP at hu
  obtain ⟨p, _, hp⟩ := List.mem_flatMap.1 hu
  unfold headV at hp
  simp at hp
  rcases hp with rfl | rfl | rfl <;> rfl
theorem hvP_take (P : List (TB × TAd)) (k j : Nat) (u : Value) (h : (hvP (P.take k))[j]? = some u) : (hvP P)[j]? = some u := by
  conv => lhs; rw [← List.take_append_drop k P, hvP_append]
  rw [List.getElem?_append_left (List.getElem?_eq_some_iff.1 h).1]; exact h
theorem hvP_drop (P : List (TB × TAd)) (k j : Nat) (hk : k ≤ P.length) (u : Value) (h : (hvP (P.drop k))[j]? = some u) : (hvP P)[k * 3 + j]? = some u := by
  conv => lhs; rw [← List.take_append_drop k P, hvP_append]
  have hl : (hvP (P.take k)).length = k * 3 := by rw [hvP_length, List.length_take, Nat.min_eq_left hk]
  rw [List.getElem?_append_right (by omega), hl, show k * 3 + j - k * 3 = j by omega]; exact h
theorem addr_add (g o q : Nat) : ((⟨g, o, none⟩ : Addr).add q) = ⟨g, o + q, none⟩ := by
  unfold Addr.add
  by_cases hq : q = 0 <;> simp [hq]
theorem row_tabs {w : World} {base n : Nat} {v : Value} {P : List (TB × TAd)} (h : w.ownsRow base 44 3 v n (hvP P)) (hn : P.length = n) (ht : ∀ p, p ∈ P → TabAt w p.2.ca p.2.cc p.2.ra p.1) : ∃ a cap, v = .slice a n cap ∧ TabsAt w a (P.map Prod.fst) ∧ n ≤ cap := by
  subst hn
  rcases h.2 with ⟨e, h0⟩ | ⟨g, cap, cur, e, hbg, hg, hc, _⟩
  · have hV : P = [] := List.eq_nil_of_length_eq_zero h0
    subst hV
    exact ⟨none, 0, e, fun i hi => by simp at hi, Nat.le_refl _⟩
  · subst e
    refine ⟨some ⟨g, 0, none⟩, cap, rfl, fun i hi => ?_, hc⟩
    have hi' : i < P.length := by simpa using hi
    have cel : ∀ j, j < 3 → w.cell? ⟨g, i * 3 + j, none⟩ = (headV P[i].1 P[i].2)[j]? := by
      intro j hj
      rw [h.cellAt _ (by omega), hvP_at hi' j hj]
    have hf : (P.map Prod.fst)[i] = P[i].1 := by simp
    rw [hf]
    refine ⟨g, 0, P[i].2.ca, P[i].2.cc, P[i].2.ra, P[i].2.cr, rfl, (h.lt g rfl).2, ?_, ?_, ?_, ht _ (List.getElem_mem hi')⟩
    · rw [Nat.zero_add]; exact cel 0 (by omega)
    · rw [Nat.zero_add]; exact cel 1 (by omega)
    · rw [Nat.zero_add]; exact cel 2 (by omega)
/-- Heads put behind heads, in a row of one's own. -/
theorem app_tabs {B : Nat} {w : World} {o : Oper} {a : Act} {K : Act → World → Prop} {Q : Exit → Act → World → Prop} (s x : Operand)
    (ho : o.op = .call { callee := .builtin .append, args := #[s, x], argTypes := #[26, 26] })
    (hB : B ≤ w.heap.size) (v : Value) (n : Nat) (P1 : List (TB × TAd)) (hs : a.eval s = v) (own : w.ownsRow B 44 3 v n (hvP P1))
    (ad : Addr) (m k : Nat) (P2 : List (TB × TAd)) (hx : a.eval x = .slice (some ad) m k) (hm : P2.length = m) (hcells : ∀ j u, (hvP P2)[j]? = some u → w.cell? (ad.add j) = some u)
    (hsz : n + m ≤ 4096)
    (h : ∀ v' w', w'.ownsRow B 44 3 v' (n + m) (hvP (P1 ++ P2)) → Below B w w' → (v' = .slice none 0 0 → v = .slice none 0 0) → K (a.put o.dst v') w') : o.wp Tryz.prog a w K Q := by
  obtain ⟨i0, hi, hz0, hz1, hz2⟩ := info_parts infoTS
  refine wp_append_own w s x 26 ho B 44 i0 (.agg #[.string ⟨#[]⟩, .slice none 0 0, .slice none 0 0]) 3 64 Tryz.underlying26 hi hz0 hz1 hz2 rfl (by decide) v n (hvP P1) hs own ad m k (hvP P2) hx (by rw [hvP_length, hm]) hcells (fun u hu => hvP_one hu) (by unfold maxLen; omega) (by omega) hB ?_
  intro v' w' own' hg hnn
  refine h v' w' ?_ ((Below.refl B w).grown hg hB (fun q hq => (own.lt q hq).1)) (fun e => (hnn.1 e).1)
  rw [hvP_append]
  exact own'
theorem src_take {w w' : World} {base g n c : Nat} {P : List (TB × TAd)} (h : w.ownsRow base 44 3 (.slice (some ⟨g, 0, none⟩) n c) n (hvP P)) (hb : Below w.heap.size w w') (k : Nat) : ∀ j u, (hvP (P.take k))[j]? = some u → w'.cell? ((⟨g, 0, none⟩ : Addr).add j) = some u := by
  intro j u hu
  have h1 := hvP_take P k j u hu
  have hj : j < n * 3 := by have := (List.getElem?_eq_some_iff.1 h1).1; have := h.1; omega
  rw [addr_add, Nat.zero_add, hb.cell (p := ⟨g, j, none⟩) (h.lt g rfl).2, h.cellAt j hj]; exact h1
theorem src_drop {w w' : World} {base g n c : Nat} {P : List (TB × TAd)} (h : w.ownsRow base 44 3 (.slice (some ⟨g, 0, none⟩) n c) n (hvP P)) (hb : Below w.heap.size w w') (k : Nat) (hk : k ≤ P.length) : ∀ j u, (hvP (P.drop k))[j]? = some u → w'.cell? ((⟨g, k * 3, none⟩ : Addr).add j) = some u := by
  intro j u hu
  have h1 := hvP_drop P k j hk u hu
  have hj : k * 3 + j < n * 3 := by have := (List.getElem?_eq_some_iff.1 h1).1; have := h.1; omega
  rw [addr_add, hb.cell (p := ⟨g, _, none⟩) (h.lt g rfl).2, h.cellAt _ hj]; exact h1
/-- A list of tables that lies there, and a truth. -/
def PairAt (w : World) (V : List TB) (b : Bool) (e : Ending) (w' : World) : Prop := ∃ a n cap, V.length = n ∧ e = .returned (.tuple #[.slice a n cap, .bool b]) ∧ TabsAt w' a V ∧ Below w.heap.size w w'
theorem small_s {t : TB} (h : tableB t = true) : SmallS t := tableB_small h

theorem dropT_at {T : List TB} {s : ByteArray} (hr : risesN (namesT T) = true) {k : Nat} (hk : k < T.length) (he : T[k].1 = s) : dropT T s = T.take k ++ T.drop (k + 1) := by
  have hp := (rises_pair T).1 hr
  have e : T = T.take k ++ T[k] :: T.drop (k + 1) := by rw [← List.drop_eq_getElem_cons (by assumption), List.take_append_drop]
  rw [e] at hp
  obtain ⟨_, h2, h3⟩ := List.pairwise_append.1 hp
  obtain ⟨h4, _⟩ := List.pairwise_cons.1 h2
  unfold dropT
  conv => lhs; rw [e]
  rw [List.filter_append, List.filter_cons, if_neg (by simp [he])]
  congr 1
  · rw [List.filter_eq_self]
    intro u hu
    have hlt := h3 u hu T[k] List.mem_cons_self
    simp only [decide_eq_true_eq]
    intro e2
    unfold ltN at hlt
    rw [e2, he, bl_irr] at hlt
    cases hlt
  · rw [List.filter_eq_self]
    intro u hu
    have hlt := h4 u hu
    simp only [decide_eq_true_eq]
    intro e2
    unfold ltN at hlt
    rw [e2, he, bl_irr] at hlt
    cases hlt
set_option maxRecDepth 100000 in
set_option maxHeartbeats 4000000 in
theorem dropped_spec (a : Option Addr) (cap : Nat) (T : List TB) (n : Nat) (hn : T.length = n) (s : ByteArray) (w : World) (hrow : TabsAt w a T) (hm : n ≤ 1048576) (V : List TB) (r : Bool) (hV : droppedR T s = (V, r)) :
    Calls Tryz.prog 16 #[.slice a n cap, .string s] w (PairAt w V r) := by
  obtain ⟨b, hb⟩ : ∃ b, baseB T = b := ⟨_, rfl⟩
  have HR : Hid (TabsAt w a T) := hrow
  have HN : Hid (T.length = n) := hn
  have HB : Hid (baseB T = b) := hb
  have hmL : n ≤ maxLen := by unfold maxLen; omega
  unfold droppedR at hV
  rw [hb] at hV
  clear hrow hn
  cases b
  · rw [if_neg (by simp)] at hV
    obtain ⟨rfl, rfl⟩ : [] = V ∧ false = r := by simpa using hV
    clear hV hb
    go_enter Tryz.func16, Tryz.ntmps16
    go_wp2_with fail
    refine (base_spec a cap T n HN.out _ HR.out hmL false HB.out).mono ?_
    rintro e w1 ⟨rfl, hb1⟩
    have FIN : Hid (PairAt w [] false (.returned (.tuple #[.slice (some ⟨w1.heap.size, 0, none⟩) 0 0, .bool false])) (w1.alloc (.cells #[] 44))) := ⟨_, 0, 0, rfl, rfl, fun i hi => by simp at hi, hb1.alloc hb1.size _⟩
    go_wp2
    exact bodyPost_ret (v := .tuple #[.slice (some ⟨w1.heap.size, 0, none⟩) 0 0, .bool false]) (by simp [results, Tryz.results16, go_sem]) rfl FIN.out
  rw [if_pos rfl] at hV
  obtain ⟨p1, p2, p3⟩ := baseB_parts hb
  have HSM : Hid (∀ t, t ∈ T → SmallS t) := by
    have : ∀ t, t ∈ T → SmallS t := fun t ht => small_s (p1 t ht)
    exact this
  have HRI : Hid (risesN (namesT T) = true) := p2
  have hn5 : n ≤ 5 := by rw [← HN.out]; exact p3
  have HV : Hid (dropT T s = V ∧ decide (s ∈ namesT T) = r) := by
    have : dropT T s = V ∧ decide (s ∈ namesT T) = r := by simpa using hV
    exact this
  clear hV hb p1 p2 p3
  go_enter Tryz.func16, Tryz.ntmps16
  go_wp2_with fail
  refine (base_spec a cap T n HN.out _ HR.out hmL true HB.out).mono ?_
  rintro e w1 ⟨rfl, hb1⟩
  go_wp2_with fail
  refine (find_spec a cap T n HN.out s _ (HR.out.below hb1) hmL).mono ?_
  rintro e w2 ⟨z, rfl, hz, hb2⟩
  have hx2 := chain hb1 hb2
  clear hb1 hb2
  rcases hz with ⟨rfl, hno⟩ | ⟨k, hk, rfl, hke, _⟩
  · have hVT : T = V ∧ r = false := by
      obtain ⟨e1, e2⟩ := HV.out
      rw [decide_eq_false hno] at e2
      refine ⟨?_, e2.symm⟩
      rw [← e1]
      unfold dropT
      symm
      rw [List.filter_eq_self]
      intro u hu
      simp only [decide_eq_true_eq]
      intro e; exact hno (by rw [← e]; exact List.mem_map_of_mem hu)
    obtain ⟨rfl, rfl⟩ := hVT
    clear hno HV
    go_wp2_with fail
    refine (l6copy_spec a cap T n HN.out _ (HR.out.below hx2) hm HSM.out).mono ?_
    rintro e w3 ⟨g, c3, Q, rfl, _, hout, hb3, _⟩
    have FIN : Hid (PairAt w T false (.returned (.tuple #[.slice (some ⟨g, 0, none⟩) n c3, .bool false])) w3) := ⟨_, n, c3, HN.out, rfl, hout.lies, chain hx2 hb3⟩
    clear hout hb3
    go_wp2
    exact bodyPost_ret (v := .tuple #[.slice (some ⟨g, 0, none⟩) n c3, .bool false]) (by simp [results, Tryz.results16, go_sem]) rfl FIN.out
  rw [namesT_length] at hk
  rw [namesT_at T k hk] at hke
  have hkn : k < n := by rw [← HN.out]; exact hk
  have hVT : V = T.take k ++ T.drop (k + 1) ∧ r = true := by
    obtain ⟨e1, e2⟩ := HV.out
    rw [decide_eq_true (by rw [← hke]; exact List.mem_map_of_mem (List.getElem_mem hk))] at e2
    exact ⟨by rw [← e1]; exact dropT_at HRI.out hk hke, e2.symm⟩
  obtain ⟨hVT, rfl⟩ := hVT
  have HVT : Hid (V = T.take k ++ T.drop (k + 1)) := hVT
  clear hk hke HV hVT
  have hk0 : ¬ (k : Int) < 0 := by omega
  go_wp2_with fail
  refine (l6copy_spec a cap T n HN.out _ (HR.out.below hx2) hm HSM.out).mono ?_
  rintro e w3 ⟨g, c3, Q, rfl, hown, hout, hb3, hc3⟩
  have hx3 := chain hx2 hb3
  obtain ⟨P, hP⟩ : ∃ P, pairsT T Q n = P := ⟨_, rfl⟩
  have HOW : Hid (w3.ownsRow w2.heap.size 44 3 (.slice (some ⟨g, 0, none⟩) n c3) n (hvP P)) := by
    have : w3.ownsRow w2.heap.size 44 3 (.slice (some ⟨g, 0, none⟩) n c3) n (hvP P) := by rw [← hP, hvP_pairs]; exact hown
    exact this
  have HPL : Hid (P.length = n) := by
    have : P.length = n := by rw [← hP, pairsT_length]
    exact this
  have HPF : Hid (P.map Prod.fst = T) := by
    have : P.map Prod.fst = T := by rw [← hP, ← HN.out]; exact pairsT_fst T Q
    exact this
  have HPT : Hid (∀ p, p ∈ P → TabAt w3 p.2.ca p.2.cc p.2.ra p.1) := by
    have : ∀ p, p ∈ P → TabAt w3 p.2.ca p.2.cc p.2.ra p.1 := by
      intro p hp
      rw [← hP] at hp
      obtain ⟨i, hi, rfl⟩ := List.mem_map.1 hp
      have hi' : i < T.length := by rw [HN.out]; exact List.mem_range.1 hi
      dsimp only
      rw [getD_tb hi']
      exact (hout.tabs i hi' hi').tab
    exact this
  have hgw : g < w3.heap.size := (hown.lt g rfl).2
  clear hown hout hb3 hP hx2
  have z1 : (k : Int) ≤ (c3 : Int) := by omega
  have z2 : (k : Int) + 1 ≤ (n : Int) := by omega
  have z3 : IntKind.i64.wrap ((k : Int) + 1) = (k : Int) + 1 := by rw [IntKind.wrap_i64]; omega
  have z4 : 0 ≤ (k : Int) + 1 := by omega
  have z5 : ((k : Int) + 1).toNat = k + 1 := by omega
  have z6 : (0 : Int) ≤ (k : Int) := by omega
  have z7 : (n : Int) ≤ (c3 : Int) := by omega
  by_cases hcap : c3 = k + 1
  · subst hcap
    have z8 : (k : Int) ≤ (k : Int) + 1 := by omega
    have hnk : n = k + 1 := by omega
    have hnz : n - (k + 1) = 0 := by omega
    go_wp2_with fail
    refine wp_region_any (by kernel_rfl) (show wpAny _ _ _ _ _ _ _ w3.drew from ?_)
    refine wpAny_take (i := 1) (by simp only [List.getElem?_toArray, List.getElem?_cons_zero, List.getElem?_cons_succ]; rfl) (by kernel_rfl) (by kernel_rfl) (by kernel_rfl) (by intro _ _ _ h; exact h) (Or.inl ⟨by rfl, fun w => by (go_simp; (try with_reducible rfl))⟩) ?_
    simp only [Act.put, List.setIfInBounds_toArray, List.set_cons_zero, List.set_cons_succ]
    refine wpAny_take (i := 2) (by simp only [List.getElem?_toArray, List.getElem?_cons_zero, List.getElem?_cons_succ]; rfl) (by kernel_rfl) (by kernel_rfl) (by kernel_rfl) (by intro _ _ _ h; exact h) (Or.inl ⟨by rfl, fun w => by (go_simp; (try with_reducible rfl))⟩) ?_
    simp only [Act.put, List.setIfInBounds_toArray, List.set_cons_zero, List.set_cons_succ]
    refine wpAny_take (i := 3) (by simp only [List.getElem?_toArray, List.getElem?_cons_zero, List.getElem?_cons_succ]; rfl) (by kernel_rfl) (by kernel_rfl) (by kernel_rfl) (by intro _ _ _ h; exact h) (Or.inl ⟨by rfl, fun w => by (go_simp; (try with_reducible rfl))⟩) ?_
    simp only [Act.put, List.setIfInBounds_toArray, List.set_cons_zero, List.set_cons_succ]
    refine wpAny_take (i := 5) (by simp only [List.getElem?_toArray, List.getElem?_cons_zero, List.getElem?_cons_succ]; rfl) (by kernel_rfl) (by kernel_rfl) (by kernel_rfl) (by intro _ _ _ h; exact h) (Or.inl ⟨by rfl, fun w => by (go_simp; (try with_reducible rfl))⟩) ?_
    simp only [Act.put, List.setIfInBounds_toArray, List.set_cons_zero, List.set_cons_succ]
    refine wpAny_take (i := 6) (by simp only [List.getElem?_toArray, List.getElem?_cons_zero, List.getElem?_cons_succ]; rfl) (by kernel_rfl) (by kernel_rfl) (by kernel_rfl) (by intro _ _ _ h; exact h) (Or.inl ⟨by rfl, fun w => by (go_simp; (try with_reducible rfl))⟩) ?_
    simp only [Act.put, List.setIfInBounds_toArray, List.set_cons_zero, List.set_cons_succ]
    refine wpAny_take (i := 7) (by simp only [List.getElem?_toArray, List.getElem?_cons_zero, List.getElem?_cons_succ]; rfl) (by kernel_rfl) (by kernel_rfl) (by kernel_rfl) (by intro _ _ _ h; exact h) (Or.inl ⟨by rfl, fun w => by (go_simp; (try with_reducible rfl))⟩) ?_
    simp only [Act.put, List.setIfInBounds_toArray, List.set_cons_zero, List.set_cons_succ]
    refine wpAny_take (i := 8) (by simp only [List.getElem?_toArray, List.getElem?_cons_zero, List.getElem?_cons_succ]; rfl) (by kernel_rfl) (by kernel_rfl) (by kernel_rfl) (by intro _ _ _ h; exact h) (Or.inl ⟨by rfl, fun w => by (go_simp; (try with_reducible rfl))⟩) ?_
    simp only [Act.put, List.setIfInBounds_toArray, List.set_cons_zero, List.set_cons_succ]
    refine wpAny_ready (rs := [0]) (by kernel_rfl) (by simp) ?_
    refine AllReady.cons (by simp only [List.getElem?_toArray, List.getElem?_cons_zero]; rfl) ?_ AllReady.nil
    intro K hK
    go_simp
    refine hK _ _ ?_
    clear hK K
    try simp only [Act.put, List.setIfInBounds_toArray, List.set_cons_zero, List.set_cons_succ]
    refine wpAny_ready (rs := [4]) (by kernel_rfl) (by simp) ?_
    refine AllReady.cons (by simp only [List.getElem?_toArray, List.getElem?_cons_zero, List.getElem?_cons_succ]; rfl) ?_ AllReady.nil
    intro K hK
    rw [if_pos (by rfl)]
    have hbE : Below w3.heap.size w3 (w3.drew.alloc (.cells #[] 44)) := ((Below.refl _ _).drew).alloc (Nat.le_refl _) _
    refine app_tabs (B := w3.heap.size) _ _ rfl (by simp) (.slice (some ⟨w3.heap.size, 0, none⟩) 0 0) 0 [] rfl (own_emptyT w3.drew w3.heap.size (Nat.le_refl _)) ⟨g, 0, none⟩ k _ (P.take k) rfl (by rw [List.length_take, HPL.out]; omega) (src_take HOW.out hbE k) (by omega) ?_
    intro v1 wA ownA hbA0 _
    have hbA : Below w3.heap.size w3 wA := hbE.trans hbA0
    clear hbE hbA0
    rw [Nat.zero_add, List.nil_append] at ownA
    refine hK _ _ ?_
    clear hK K
    try simp only [Act.put, List.setIfInBounds_toArray, List.set_cons_zero, List.set_cons_succ]
    refine wpAny_ready (rs := [9]) (by kernel_rfl) (by simp) ?_
    refine AllReady.cons (by simp only [List.getElem?_toArray, List.getElem?_cons_zero, List.getElem?_cons_succ]; rfl) ?_ AllReady.nil
    intro K hK
    rw [if_pos (by rfl)]
    refine app_tabs (B := w3.heap.size) _ _ rfl hbA.size v1 k (P.take k) rfl ownA ⟨g, 0, none⟩ _ _ (P.drop (k + 1)) rfl (by rw [List.length_drop, HPL.out]; first | done | omega | (simp; done) | (simp; omega)) (fun j u hu => by rw [List.drop_of_length_le (by rw [HPL.out]; omega)] at hu; simp [hvP] at hu) (by omega) ?_
    intro v2 wB ownB hbB0 _
    have hbB : Below w3.heap.size w3 wB := hbA.trans hbB0
    obtain ⟨a5, c5, hv2, hT5, _⟩ := row_tabs ownB (by rw [List.length_append, List.length_take, List.length_drop, HPL.out]; omega) (fun p hp => (HPT.out p (by rcases List.mem_append.1 hp with hp | hp; exact List.mem_of_mem_take hp; exact List.mem_of_mem_drop hp)).below hbB)
    subst hv2
    have FIN : Hid (PairAt w V true (.returned (.tuple #[.slice a5 (k + (n - (k + 1))) c5, .bool true])) wB) := by
      refine ⟨a5, _, c5, ?_, rfl, ?_, chain hx3 hbB⟩
      · rw [HVT.out, List.length_append, List.length_take, List.length_drop, HN.out]; omega
      · rw [HVT.out, ← HPF.out, ← List.map_take, ← List.map_drop, ← List.map_append]; exact hT5
    clear ownA ownB hbA hbB0 hbB hT5
    refine hK _ _ ?_
    clear hK K
    try simp only [Act.put, List.setIfInBounds_toArray, List.set_cons_zero, List.set_cons_succ]
    refine wpAny_take (i := 10) (by simp only [List.getElem?_toArray, List.getElem?_cons_zero, List.getElem?_cons_succ]; rfl) (by kernel_rfl) (by kernel_rfl) (by kernel_rfl) (by intro _ _ _ h; exact h) (Or.inl ⟨by rfl, fun w => by (go_simp; (try with_reducible rfl))⟩) ?_
    simp only [Act.put, List.setIfInBounds_toArray, List.set_cons_zero, List.set_cons_succ]
    refine wpAny_take (i := 11) (by simp only [List.getElem?_toArray, List.getElem?_cons_zero, List.getElem?_cons_succ]; rfl) (by kernel_rfl) (by kernel_rfl) (by kernel_rfl) (by intro _ _ _ h; exact h) (Or.inl ⟨by rfl, fun w => by (go_simp; (try with_reducible rfl))⟩) ?_
    simp only [Act.put, List.setIfInBounds_toArray, List.set_cons_zero, List.set_cons_succ]
    refine wpAny_done (by kernel_rfl) ?_ _
    go_wp2
    exact bodyPost_ret (v := .tuple #[.slice a5 (k + (n - (k + 1))) c5, .bool true]) (by simp [results, Tryz.results16, go_sem, hnz]) rfl FIN.out
  · have z8 : (k : Int) + 1 ≤ (c3 : Int) := by omega
    go_wp2_with fail
    refine wp_region_any (by kernel_rfl) (show wpAny _ _ _ _ _ _ _ w3.drew from ?_)
    refine wpAny_take (i := 1) (by simp only [List.getElem?_toArray, List.getElem?_cons_zero, List.getElem?_cons_succ]; rfl) (by kernel_rfl) (by kernel_rfl) (by kernel_rfl) (by intro _ _ _ h; exact h) (Or.inl ⟨by rfl, fun w => by (go_simp; (try with_reducible rfl))⟩) ?_
    simp only [Act.put, List.setIfInBounds_toArray, List.set_cons_zero, List.set_cons_succ]
    refine wpAny_take (i := 2) (by simp only [List.getElem?_toArray, List.getElem?_cons_zero, List.getElem?_cons_succ]; rfl) (by kernel_rfl) (by kernel_rfl) (by kernel_rfl) (by intro _ _ _ h; exact h) (Or.inl ⟨by rfl, fun w => by (go_simp; (try with_reducible rfl))⟩) ?_
    simp only [Act.put, List.setIfInBounds_toArray, List.set_cons_zero, List.set_cons_succ]
    refine wpAny_take (i := 3) (by simp only [List.getElem?_toArray, List.getElem?_cons_zero, List.getElem?_cons_succ]; rfl) (by kernel_rfl) (by kernel_rfl) (by kernel_rfl) (by intro _ _ _ h; exact h) (Or.inl ⟨by rfl, fun w => by (go_simp; (try with_reducible rfl))⟩) ?_
    simp only [Act.put, List.setIfInBounds_toArray, List.set_cons_zero, List.set_cons_succ]
    refine wpAny_take (i := 5) (by simp only [List.getElem?_toArray, List.getElem?_cons_zero, List.getElem?_cons_succ]; rfl) (by kernel_rfl) (by kernel_rfl) (by kernel_rfl) (by intro _ _ _ h; exact h) (Or.inl ⟨by rfl, fun w => by (go_simp; (try with_reducible rfl))⟩) ?_
    simp only [Act.put, List.setIfInBounds_toArray, List.set_cons_zero, List.set_cons_succ]
    refine wpAny_take (i := 6) (by simp only [List.getElem?_toArray, List.getElem?_cons_zero, List.getElem?_cons_succ]; rfl) (by kernel_rfl) (by kernel_rfl) (by kernel_rfl) (by intro _ _ _ h; exact h) (Or.inl ⟨by rfl, fun w => by (go_simp; (try with_reducible rfl))⟩) ?_
    simp only [Act.put, List.setIfInBounds_toArray, List.set_cons_zero, List.set_cons_succ]
    refine wpAny_take (i := 7) (by simp only [List.getElem?_toArray, List.getElem?_cons_zero, List.getElem?_cons_succ]; rfl) (by kernel_rfl) (by kernel_rfl) (by kernel_rfl) (by intro _ _ _ h; exact h) (Or.inl ⟨by rfl, fun w => by (go_simp; (try with_reducible rfl))⟩) ?_
    simp only [Act.put, List.setIfInBounds_toArray, List.set_cons_zero, List.set_cons_succ]
    refine wpAny_take (i := 8) (by simp only [List.getElem?_toArray, List.getElem?_cons_zero, List.getElem?_cons_succ]; rfl) (by kernel_rfl) (by kernel_rfl) (by kernel_rfl) (by intro _ _ _ h; exact h) (Or.inl ⟨by rfl, fun w => by (go_simp; (try with_reducible rfl))⟩) ?_
    simp only [Act.put, List.setIfInBounds_toArray, List.set_cons_zero, List.set_cons_succ]
    refine wpAny_ready (rs := [0]) (by kernel_rfl) (by simp) ?_
    refine AllReady.cons (by simp only [List.getElem?_toArray, List.getElem?_cons_zero]; rfl) ?_ AllReady.nil
    intro K hK
    go_simp
    refine hK _ _ ?_
    clear hK K
    try simp only [Act.put, List.setIfInBounds_toArray, List.set_cons_zero, List.set_cons_succ]
    refine wpAny_ready (rs := [4]) (by kernel_rfl) (by simp) ?_
    refine AllReady.cons (by simp only [List.getElem?_toArray, List.getElem?_cons_zero, List.getElem?_cons_succ]; rfl) ?_ AllReady.nil
    intro K hK
    rw [if_pos (by rfl)]
    have hbE : Below w3.heap.size w3 (w3.drew.alloc (.cells #[] 44)) := ((Below.refl _ _).drew).alloc (Nat.le_refl _) _
    refine app_tabs (B := w3.heap.size) _ _ rfl (by simp) (.slice (some ⟨w3.heap.size, 0, none⟩) 0 0) 0 [] rfl (own_emptyT w3.drew w3.heap.size (Nat.le_refl _)) ⟨g, 0, none⟩ k _ (P.take k) rfl (by rw [List.length_take, HPL.out]; omega) (src_take HOW.out hbE k) (by omega) ?_
    intro v1 wA ownA hbA0 _
    have hbA : Below w3.heap.size w3 wA := hbE.trans hbA0
    clear hbE hbA0
    rw [Nat.zero_add, List.nil_append] at ownA
    refine hK _ _ ?_
    clear hK K
    try simp only [Act.put, List.setIfInBounds_toArray, List.set_cons_zero, List.set_cons_succ]
    refine wpAny_ready (rs := [9]) (by kernel_rfl) (by simp) ?_
    refine AllReady.cons (by simp only [List.getElem?_toArray, List.getElem?_cons_zero, List.getElem?_cons_succ]; rfl) ?_ AllReady.nil
    intro K hK
    rw [if_pos (by rfl)]
    refine app_tabs (B := w3.heap.size) _ _ rfl hbA.size v1 k (P.take k) rfl ownA ⟨g, (k + 1) * 3, none⟩ _ _ (P.drop (k + 1)) rfl (by rw [List.length_drop, HPL.out]; first | done | omega | (simp; done) | (simp; omega)) (src_drop HOW.out hbA (k + 1) (by rw [HPL.out]; omega)) (by omega) ?_
    intro v2 wB ownB hbB0 _
    have hbB : Below w3.heap.size w3 wB := hbA.trans hbB0
    obtain ⟨a5, c5, hv2, hT5, _⟩ := row_tabs ownB (by rw [List.length_append, List.length_take, List.length_drop, HPL.out]; omega) (fun p hp => (HPT.out p (by rcases List.mem_append.1 hp with hp | hp; exact List.mem_of_mem_take hp; exact List.mem_of_mem_drop hp)).below hbB)
    subst hv2
    have FIN : Hid (PairAt w V true (.returned (.tuple #[.slice a5 (k + (n - (k + 1))) c5, .bool true])) wB) := by
      refine ⟨a5, _, c5, ?_, rfl, ?_, chain hx3 hbB⟩
      · rw [HVT.out, List.length_append, List.length_take, List.length_drop, HN.out]; omega
      · rw [HVT.out, ← HPF.out, ← List.map_take, ← List.map_drop, ← List.map_append]; exact hT5
    clear ownA ownB hbA hbB0 hbB hT5
    refine hK _ _ ?_
    clear hK K
    try simp only [Act.put, List.setIfInBounds_toArray, List.set_cons_zero, List.set_cons_succ]
    refine wpAny_take (i := 10) (by simp only [List.getElem?_toArray, List.getElem?_cons_zero, List.getElem?_cons_succ]; rfl) (by kernel_rfl) (by kernel_rfl) (by kernel_rfl) (by intro _ _ _ h; exact h) (Or.inl ⟨by rfl, fun w => by (go_simp; (try with_reducible rfl))⟩) ?_
    simp only [Act.put, List.setIfInBounds_toArray, List.set_cons_zero, List.set_cons_succ]
    refine wpAny_take (i := 11) (by simp only [List.getElem?_toArray, List.getElem?_cons_zero, List.getElem?_cons_succ]; rfl) (by kernel_rfl) (by kernel_rfl) (by kernel_rfl) (by intro _ _ _ h; exact h) (Or.inl ⟨by rfl, fun w => by (go_simp; (try with_reducible rfl))⟩) ?_
    simp only [Act.put, List.setIfInBounds_toArray, List.set_cons_zero, List.set_cons_succ]
    refine wpAny_done (by kernel_rfl) ?_ _
    go_wp2
    exact bodyPost_ret (v := .tuple #[.slice a5 (k + (n - (k + 1))) c5, .bool true]) (by simp [results, Tryz.results16, go_sem]) rfl FIN.out
end Go.Proofs.YteamdmcgkpeelakGreat
