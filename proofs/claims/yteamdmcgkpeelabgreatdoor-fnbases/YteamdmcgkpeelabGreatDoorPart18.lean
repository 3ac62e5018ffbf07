/-
  A part of the proof: ShI6, TabInI, TabIn, SpB3.
-/
import Derived.Test.YteamdmcgkpeelabGreatDoorPart15
import Derived.Test.YteamdmcgkpeelabGreatDoorPart5
import Derived.Test.YteamdmcgkpeelabGreatDoorPart7
import Derived.Test.YteamdmcgkpeelabGreatDoorPart17
import Derived.Test.YteamdmcgkpeelabGreatDoorPart16

/-
  The contracts of the program's Made, Dropped and Replaced.
-/
namespace Go.Proofs.YteamdmcgkpeelabGreatDoor
open Go.ChangeShapes Go.WideShapes Go.ChangeAt Go.RowKit Go.Maps
attribute [local go_sem ↓] Go.wp_at_zero Go.wp_at_succ
attribute [local simp] World.cell?_alloc_past World.cell?_alloc_at World.frozen?_alloc_at cell_far cell_off cell_here World.frozen?_alloc_past

/-- A list of tables in memory of its own, and a truth. -/
def PairOut (w : World) (V : List TB) (b : Bool) (e : Ending) (w' : World) : Prop := ∃ a n cap Q, V.length = n ∧ e = .returned (.tuple #[.slice a n cap, .bool b]) ∧ OutTs w' w.heap.size a V Q ∧ Below w.heap.size w w' ∧ n ≤ cap
theorem OutU.lower {w : World} {base base' : Nat} {a : Option Addr} {T : List TB} {Q : Nat → TAd} {m : Nat} (h : OutU w base a T Q m) (hb : base' ≤ base) : OutU w base' a T Q m :=
  ⟨h.heads, fun i hi hm => (h.tabs i hi hm).lower hb, h.apart, h.head, fun g o h0 e => Nat.le_trans hb (h.lo g o h0 e)⟩

set_option maxRecDepth 100000 in
set_option maxHeartbeats 4000000 in
theorem dropped_impl (a : Option Addr) (cap : Nat) (T : List TB) (n : Nat) (hn : T.length = n) (s : ByteArray) (hs : s.size ≤ maxLen) (w : World) (hrow : TabsAt w a T) (hm : n ≤ 1048576) (V : List TB) (r : Bool) (hV : droppedR T s = (V, r)) :
    Calls Tryz.prog 8 #[.slice a n cap, .string s] w (PairOut w V r) := by
  obtain ⟨b, hb⟩ : ∃ b, baseB T = b := ⟨_, rfl⟩
  obtain ⟨U, hU⟩ : ∃ U, (if b then T else []) = U := ⟨_, rfl⟩
  have E : Hid (Calls Tryz.prog 27 #[.slice a n cap] w fun e w' => e = .returned (.tuple #[.map (some w.heap.size), .bool b]) ∧ ShelfT w w' w.heap.size n U ∧ Below w.heap.size w w') := by
    have := shelf_impl a cap T n hn w hrow hm b hb
    rw [hU] at this
    exact this
  have hUV : V = dropT U s ∧ r = decide (s ∈ namesT U) ∧ risesN (namesT U) = true ∧ (∀ t, t ∈ U → Small t) ∧ U.length ≤ 5 := by
    unfold droppedR at hV
    rw [hb] at hV
    cases b
    · simp at hV hU
      subst hU
      exact ⟨by first | (rw [hV.1]; rfl) | (rw [← hV.1]; rfl), by first | (rw [hV.2]; simp [namesT]; done) | (rw [← hV.2]; simp [namesT]; done), rfl, fun t ht => (by cases ht), Nat.zero_le _⟩
    · simp at hV hU
      subst hU
      obtain ⟨p1, p2, p3⟩ := baseB_parts hb
      exact ⟨hV.1.symm, by rw [← hV.2], p2, fun t ht => tableB_small (p1 t ht), p3⟩
  obtain ⟨eV, er, hri, hsm, h5⟩ := hUV
  have HEV : Hid (V = dropT U s) := eV
  have HER : Hid (decide (s ∈ namesT U) = r) := er.symm
  have HRI : Hid (risesN (namesT U) = true) := hri
  have HSM : Hid (∀ t, t ∈ U → Small t) := hsm
  have hl : (dropT U s).length ≤ 5 := Nat.le_trans (List.length_filter_le _ _) h5
  obtain ⟨k, hk⟩ : ∃ k, V.length = k := ⟨_, rfl⟩
  have hk5 : k ≤ 5 := by rw [← hk, eV]; exact hl
  have HK : Hid (V.length = k) := hk
  clear hrow hn hb hU hV eV er hri hsm h5 hl hk
  go_enter Tryz.func8, Tryz.ntmps8
  go_wp2_with fail
  refine E.out.mono ?_
  rintro e w1 ⟨rfl, hS1, hb1⟩
  go_wp2_with fail
  refine (has_impl w w.heap.size n U _ hS1 s hs r HER.out).mono ?_
  rintro e w2 ⟨rfl, hb2⟩
  have hS2 := hS1.below hb2
  have hx2 := chain hb1 hb2
  obtain ⟨_, f, ⟨D, hown, hSay⟩, hH⟩ := hS2
  have HD : Hid (∀ w', w'.ownsMap Tryz.prog 9 tokR w.heap.size n (D.del (keyL s)) → ShelfT w w' w.heap.size n (dropT U s)) := by
    have : ∀ w', w'.ownsMap Tryz.prog 9 tokR w.heap.size n (D.del (keyL s)) → ShelfT w w' w.heap.size n (dropT U s) := fun w' h => ShelfT.cut hSay hH h
    exact this
  have HOWN : Hid (w2.ownsMap Tryz.prog 9 tokR w.heap.size n D) := hown
  clear hSay hH hown hS1 hb1 hb2
  go_wp2_with (at_delete; refine wpList_delete_own _ rfl _ _ 53 9 rfl 35 str_keyed Tryz.underlying53 tokR w.heap.size n D rfl HOWN.out _ _ rfl (keyOf_txt s hs) ?_)
  intro w3 hown3 hturn3
  have hS3 := HD.out w3 hown3
  have hx3 : Below w.heap.size w w3 := below_turned hx2 hturn3 (Nat.le_refl _)
  clear hown3 hturn3 HD HOWN hx2
  go_wp2_with fail
  refine (listed_impl w w.heap.size n (dropT U s) V (by rw [HEV.out]) (by rw [HEV.out]; exact dropT_rises HRI.out) k HK.out (by omega) (fun t ht => HSM.out t (by rw [HEV.out] at ht; exact (List.mem_filter.1 ht).1)) _ hS3 hx3).mono ?_
  rintro e w4 ⟨a4, cap4, Q, rfl, hO, hb4, hcap⟩
  have FIN : Hid (PairOut w V r (.returned (.tuple #[.slice a4 k cap4, .bool r])) w4) := ⟨a4, k, cap4, Q, HK.out, rfl, hO.lower hx3.size, chain hx3 hb4, hcap⟩
  clear hO hb4 hS3
  go_wp2
  exact bodyPost_ret (v := .tuple #[.slice a4 k cap4, .bool r]) (by simp [results, Tryz.results8, go_sem]) rfl FIN.out

set_option maxRecDepth 100000 in
set_option maxHeartbeats 4000000 in
theorem made_impl (a : Option Addr) (cap : Nat) (T : List TB) (n : Nat) (hn : T.length = n) (nm : ByteArray) (hnmL : nm.size ≤ maxLen) (ca : Option Addr) (cc : Nat) (C : List ByteArray) (nc : Nat) (hnc : C.length = nc) (w : World) (hrow : TabsAt w a T) (hC : StrsAt w ca C) (hF : FitS C) (hcm : C.length ≤ maxLen) (hcap : C.length ≤ cc) (hnil : ca = none → cc = 0) (hm : n ≤ 1048576) (V : List TB) (r : Bool) (hV : madeR T (nm, C, []) = (V, r)) :
    Calls Tryz.prog 6 #[.slice a n cap, .string nm, .slice ca nc cc] w (PairOut w V r) := by
  obtain ⟨b, hb⟩ : ∃ b, baseB T = b := ⟨_, rfl⟩
  obtain ⟨U, hU⟩ : ∃ U, (if b then T else []) = U := ⟨_, rfl⟩
  obtain ⟨t, ht0⟩ : ∃ t : TB, t = (nm, C, []) := ⟨_, rfl⟩
  have hta : TabAt w ca cc none t := by rw [ht0]; exact ⟨hC, hF, hcm, hcap, hnil, fun i hi => by simp at hi, by unfold maxLen; simp, hnmL⟩
  have E : Hid (Calls Tryz.prog 27 #[.slice a n cap] w fun e w' => e = .returned (.tuple #[.map (some w.heap.size), .bool b]) ∧ ShelfT w w' w.heap.size n U ∧ Below w.heap.size w w') := by
    have := shelf_impl a cap T n hn w hrow hm b hb
    rw [hU] at this
    exact this
  obtain ⟨h, hh⟩ : ∃ h, decide (nm ∈ namesT U) = h := ⟨_, rfl⟩
  obtain ⟨c, hc⟩ : ∃ c, tableB t = c := ⟨_, rfl⟩
  have hUV : (V, r) = (if b && (!h && (decide (U.length ≠ 5) && c)) then (insT U t, true) else (U, false)) ∧ risesN (namesT U) = true ∧ (∀ t, t ∈ U → Small t) ∧ U.length ≤ 5 := by
    unfold madeR at hV
    rw [hb, ← ht0, hc] at hV
    cases b
    · simp at hU
      subst hU
      rw [if_neg (by simp)] at hV
      exact ⟨by rw [← hV]; rfl, rfl, fun t ht => (by cases ht), Nat.zero_le _⟩
    · simp at hU
      subst hU
      obtain ⟨p1, p2, p3⟩ := baseB_parts hb
      rw [if_pos rfl, show t.1 = nm by rw [ht0]] at hV
      refine ⟨?_, p2, fun t ht => tableB_small (p1 t ht), p3⟩
      rw [← hV, ← hh]
      cases c <;> by_cases hx : nm ∈ namesT T <;> by_cases hy : T.length = 5 <;> simp [hx, hy]
  obtain ⟨eV, hri, hsm, h5⟩ := hUV
  have HC : Hid (tableB t = c) := hc
  have HT : Hid (TabAt w ca cc none t) := hta
  have HNM : Hid (t.1 = nm) := by rw [ht0]; exact rfl
  have HNC : Hid (t.2.1.length = nc) := by rw [ht0]; exact hnc
  have HNR : Hid (t.2.2.length = 0) := by rw [ht0]; exact rfl
  have HRI : Hid (risesN (namesT U) = true) := hri
  have HSM : Hid (∀ t, t ∈ U → Small t) := hsm
  have HHH : Hid (decide (nm ∈ namesT U) = h) := hh
  obtain ⟨u, hu⟩ : ∃ u, U.length = u := ⟨_, rfl⟩
  rw [hu] at h5 eV
  have HU : Hid ((namesT U).length = u) := by
    have : (namesT U).length = u := by rw [namesT_length]; exact hu
    exact this
  have HU2 : Hid (U.length = u) := hu
  clear hrow hn hb hU hV hri hsm hta hnc hc hh ht0 hC hF hcm hcap hnil hu
  have TAIL : Hid (∀ (w1 : World) (m : Nat) (U' V' : List TB), V'.Perm U' → ShelfT w w1 w.heap.size m U' → Below w.heap.size w w1 → risesN (namesT V') = true → V'.length ≤ 5 → (∀ t, t ∈ V' → Small t) → Calls Tryz.prog 30 #[.map (some w.heap.size)] w1 fun e w2 => ∃ a4 k cap4 Q, V'.length = k ∧ e = .returned (.slice a4 k cap4) ∧ OutTs w2 w.heap.size a4 V' Q ∧ Below w.heap.size w w2 ∧ k ≤ cap4) := by
    have : ∀ (w1 : World) (m : Nat) (U' V' : List TB), V'.Perm U' → ShelfT w w1 w.heap.size m U' → Below w.heap.size w w1 → risesN (namesT V') = true → V'.length ≤ 5 → (∀ t, t ∈ V' → Small t) → Calls Tryz.prog 30 #[.map (some w.heap.size)] w1 fun e w2 => ∃ a4 k cap4 Q, V'.length = k ∧ e = .returned (.slice a4 k cap4) ∧ OutTs w2 w.heap.size a4 V' Q ∧ Below w.heap.size w w2 ∧ k ≤ cap4 := by
      intro w1 m U' V' hp hS hx hri hl hsm
      refine (listed_impl w w.heap.size m U' V' hp hri _ rfl (by omega) hsm w1 hS hx).mono ?_
      rintro e w4 ⟨a4, cap4, Q, rfl, hO, hb4, hcap⟩
      exact ⟨a4, _, cap4, Q, rfl, rfl, hO.lower hx.size, chain hx hb4, hcap⟩
    exact this
  go_enter Tryz.func6, Tryz.ntmps6
  go_wp2_with fail
  refine E.out.mono ?_
  rintro e w1 ⟨rfl, hS1, hb1⟩
  have hA1 : Below w1.heap.size w1 (w1.alloc (.cells #[.string nm, .slice ca nc cc, .slice none 0 0] 35)) := (Below.refl _ _).alloc (Nat.le_refl _) _
  obtain ⟨W, hW⟩ : ∃ W, W = w1.alloc (.cells #[.string nm, .slice ca nc cc, .slice none 0 0] 35) := ⟨_, rfl⟩
  have HWE : Hid (w1.alloc (.cells #[.string nm, .slice ca nc cc, .slice none 0 0] 35) = W) := hW.symm
  rw [← hW] at hA1
  have hp : W.cell? ⟨w1.heap.size, 0, none⟩ = some (.string nm) ∧ W.cell? ⟨w1.heap.size, 1, none⟩ = some (.slice ca nc cc) ∧ W.cell? ⟨w1.heap.size, 2, none⟩ = some (.slice none 0 0) ∧ w1.heap.size < W.heap.size := by
    subst hW; exact ⟨by simp, by simp, by simp, by simp⟩
  have hSW := hS1.below hA1
  have hxW := chain hb1 hA1
  clear hW hS1
  cases b
  · rw [Bool.false_and, if_neg (by simp)] at eV
    obtain ⟨rfl, rfl⟩ : V = U ∧ r = false := by simpa using eV
    go_wp2_with fail
    rw [HWE.out]
    refine (TAIL.out _ n V V (List.Perm.refl _) hSW hxW HRI.out (by rw [HU2.out]; exact h5) HSM.out).mono ?_
    rintro e w4 ⟨a4, k, cap4, Q, hk, rfl, hO, hb4, hcap⟩
    have FIN : Hid (PairOut w V false (.returned (.tuple #[.slice a4 k cap4, .bool false])) w4) := ⟨a4, k, cap4, Q, hk, rfl, hO, hb4, hcap⟩
    clear hO hb4 hSW hk
    go_wp2
    exact bodyPost_ret (v := .tuple #[.slice a4 k cap4, .bool false]) (by simp [results, Tryz.results6, go_sem]) rfl FIN.out
  rw [Bool.true_and] at eV
  go_wp2_with fail
  rw [HWE.out]
  refine (has_impl w w.heap.size n U _ hSW nm hnmL h HHH.out).mono ?_
  rintro e w2 ⟨rfl, hb2⟩
  have hS2 := hSW.below hb2
  have hx2 := chain hxW hb2
  obtain ⟨p0, p1, p2, p3⟩ := later3 hb2 hp
  clear hSW hb2 hxW hp hA1 hb1 HWE
  cases h
  case true =>
    rw [if_neg (by simp)] at eV
    obtain ⟨rfl, rfl⟩ : V = U ∧ r = false := by simpa using eV
    go_wp2_with fail
    refine (TAIL.out _ n V V (List.Perm.refl _) hS2 hx2 HRI.out (by rw [HU2.out]; exact h5) HSM.out).mono ?_
    rintro e w4 ⟨a4, k, cap4, Q, hk, rfl, hO, hb4, hcap⟩
    have FIN : Hid (PairOut w V false (.returned (.tuple #[.slice a4 k cap4, .bool false])) w4) := ⟨a4, k, cap4, Q, hk, rfl, hO, hb4, hcap⟩
    clear hO hb4 hS2 hk
    go_wp2
    exact bodyPost_ret (v := .tuple #[.slice a4 k cap4, .bool false]) (by simp [results, Tryz.results6, go_sem]) rfl FIN.out
  rw [Bool.not_false, Bool.true_and] at eV
  have hlen : ∀ ty, (Builtin.len_ #[53] ty #[.map (some w.heap.size)]).run Tryz.prog w2 = .ok (.int .i64 u) w2 := by
    obtain ⟨_, f, hSh, _⟩ := hS2
    intro ty
    rw [hSh.len ty, HU.out]
  by_cases hu5 : u = 5
  · subst hu5
    rw [if_neg (by simp)] at eV
    obtain ⟨rfl, rfl⟩ : V = U ∧ r = false := by simpa using eV
    go_wp2_with fail
    refine (TAIL.out _ n V V (List.Perm.refl _) hS2 hx2 HRI.out (by rw [HU2.out]; exact h5) HSM.out).mono ?_
    rintro e w4 ⟨a4, k, cap4, Q, hk, rfl, hO, hb4, hcap⟩
    have FIN : Hid (PairOut w V false (.returned (.tuple #[.slice a4 k cap4, .bool false])) w4) := ⟨a4, k, cap4, Q, hk, rfl, hO, hb4, hcap⟩
    clear hO hb4 hS2 hk hlen
    go_wp2
    exact bodyPost_ret (v := .tuple #[.slice a4 k cap4, .bool false]) (by simp [results, Tryz.results6, go_sem]) rfl FIN.out
  rw [decide_eq_true hu5, Bool.true_and] at eV
  have hu5' : ¬ (u : Int) = 5 := by omega
  have hu5b : ((u : Int) == 5) = false := by rw [beq_eq_false_iff_ne]; exact hu5'
  go_wp2_with fail
  rw [← HNM.out]
  refine (table_impl ca cc none 0 t nc 0 HNC.out HNR.out _ (HT.out.below hx2) c HC.out).mono ?_
  rintro e w3 ⟨rfl, hb3⟩
  rw [HNM.out]
  have hS3 := hS2.below hb3
  have hx3 := chain hx2 hb3
  obtain ⟨p0, p1, p2, p3⟩ := later3 hb3 ⟨p0, p1, p2, p3⟩
  clear hS2 hb3 hx2 hlen
  cases c
  · rw [if_neg (by simp)] at eV
    obtain ⟨rfl, rfl⟩ : V = U ∧ r = false := by simpa using eV
    go_wp2_with fail
    refine (TAIL.out _ n V V (List.Perm.refl _) hS3 hx3 HRI.out (by rw [HU2.out]; exact h5) HSM.out).mono ?_
    rintro e w4 ⟨a4, k, cap4, Q, hk, rfl, hO, hb4, hcap⟩
    have FIN : Hid (PairOut w V false (.returned (.tuple #[.slice a4 k cap4, .bool false])) w4) := ⟨a4, k, cap4, Q, hk, rfl, hO, hb4, hcap⟩
    clear hO hb4 hS3 hk
    go_wp2
    exact bodyPost_ret (v := .tuple #[.slice a4 k cap4, .bool false]) (by simp [results, Tryz.results6, go_sem]) rfl FIN.out
  rw [if_pos rfl] at eV
  obtain ⟨eV1, rfl⟩ : V = insT U t ∧ r = true := by simpa using eV
  have hmem : t.1 ∉ namesT U := by rw [HNM.out]; exact of_decide_eq_false HHH.out
  have HMEM : Hid (t.1 ∉ namesT U) := hmem
  obtain ⟨_, f, ⟨D, hown, hSay⟩, hH⟩ := hS3
  have HD : Hid (∀ w', w'.ownsMap Tryz.prog 9 tokR w.heap.size (n + 1) (D.put (keyL nm) (.held (.agg #[.string nm, .slice ca nc cc, .slice none 0 0]))) → ShelfT w w' w.heap.size (n + 1) (U ++ [t])) := by
    have : ∀ w', w'.ownsMap Tryz.prog 9 tokR w.heap.size (n + 1) (D.put (keyL nm) (.held (.agg #[.string nm, .slice ca nc cc, .slice none 0 0]))) → ShelfT w w' w.heap.size (n + 1) (U ++ [t]) := fun w' h =>
      ShelfT.added (ca := ca) (cc := cc) (ra := none) (cr := 0) hown hSay hH hmem HT.out (by rw [HNM.out, HNC.out, HNR.out]; exact h)
    exact this
  have HOWN : Hid (w3.ownsMap Tryz.prog 9 tokR w.heap.size n D) := hown
  clear hSay hH hown hmem
  go_wp2_with (at_mapUpdate; refine wpList_mapUpdate_in _ rfl _ _ _ 53 rfl 9 35 str_keyed Tryz.underlying53 tokR w.heap.size n D rfl HOWN.out (by unfold maxLen; omega) _ _ _ rfl rfl (keyOf_txt nm hnmL) _ [] rfl ?_)
  intro w4 hown4 hturn4
  have hS4 := HD.out w4 hown4
  have hx4 : Below w.heap.size w w4 := below_turned hx3 hturn4 (Nat.le_refl _)
  clear hown4 hturn4 HD HOWN hx3 p0 p1 p2 p3
  go_wp2_with fail
  refine (TAIL.out _ (n + 1) (U ++ [t]) (insT U t) (insT_perm U t) hS4 hx4 (insT_rises HRI.out HMEM.out) (by rw [insT_length, HU2.out]; omega) (fun x hx => by
    rcases List.mem_append.1 ((insT_perm U t).mem_iff.1 hx) with hx | hx
    · exact HSM.out x hx
    · rw [List.mem_singleton] at hx; subst hx; exact tableB_small HC.out)).mono ?_
  rintro e w5 ⟨a4, k, cap4, Q, hk, rfl, hO, hb4, hcap⟩
  have FIN : Hid (PairOut w V true (.returned (.tuple #[.slice a4 k cap4, .bool true])) w5) := ⟨a4, k, cap4, Q, by rw [eV1]; exact hk, rfl, by rw [eV1]; exact hO, hb4, hcap⟩
  clear hO hb4 hS4 hk
  go_wp2
  exact bodyPost_ret (v := .tuple #[.slice a4 k cap4, .bool true]) (by simp [results, Tryz.results6, go_sem]) rfl FIN.out

set_option maxRecDepth 100000 in
set_option maxHeartbeats 4000000 in
theorem replaced_impl (a : Option Addr) (cap : Nat) (T : List TB) (n : Nat) (hn : T.length = n) (ca : Option Addr) (cc : Nat) (ra : Option Addr) (cr : Nat) (t : TB) (nc nr : Nat) (hnc : t.2.1.length = nc) (hnr : t.2.2.length = nr) (w : World) (hrow : TabsAt w a T) (ht : TabAt w ca cc ra t) (hm : n ≤ 1048576) (V : List TB) (r : Bool) (hV : replacedR T t = (V, r)) :
    Calls Tryz.prog 10 #[.slice a n cap, .agg #[.string t.1, .slice ca nc cc, .slice ra nr cr]] w (PairOut w V r) := by
  obtain ⟨b, hb⟩ : ∃ b, baseB T = b := ⟨_, rfl⟩
  obtain ⟨U, hU⟩ : ∃ U, (if b then T else []) = U := ⟨_, rfl⟩
  obtain ⟨nm, hnm⟩ : ∃ s, t.1 = s := ⟨_, rfl⟩
  have hnmL : nm.size ≤ maxLen := by rw [← hnm]; exact ht.name
  have hA : Below w.heap.size w (w.alloc (.cells #[.string nm, .slice ca nc cc, .slice ra nr cr] 35)) := (Below.refl _ _).alloc (Nat.le_refl _) _
  have hsA : (w.alloc (.cells #[.string nm, .slice ca nc cc, .slice ra nr cr] 35)).heap.size = w.heap.size + 1 := by simp
  have E : Hid (Calls Tryz.prog 27 #[.slice a n cap] (w.alloc (.cells #[.string nm, .slice ca nc cc, .slice ra nr cr] 35)) fun e w' => e = .returned (.tuple #[.map (some (w.heap.size + 1)), .bool b]) ∧ ShelfT (w.alloc (.cells #[.string nm, .slice ca nc cc, .slice ra nr cr] 35)) w' (w.heap.size + 1) n U ∧ Below (w.heap.size + 1) (w.alloc (.cells #[.string nm, .slice ca nc cc, .slice ra nr cr] 35)) w') := by
    have := shelf_impl a cap T n hn _ (hrow.below hA) hm b hb
    rw [hU, hsA] at this
    exact this
  obtain ⟨h, hh⟩ : ∃ h, decide (nm ∈ namesT U) = h := ⟨_, rfl⟩
  obtain ⟨c, hc⟩ : ∃ c, tableB t = c := ⟨_, rfl⟩
  have hUV : (V, r) = (if h && c then (replT U t, true) else (U, false)) ∧ risesN (namesT U) = true ∧ (∀ t, t ∈ U → Small t) ∧ U.length ≤ 5 := by
    unfold replacedR at hV
    rw [hb] at hV
    cases b
    · simp at hU
      subst hU
      have : h = false := by rw [← hh]; simp [namesT]
      subst this
      rw [if_neg (by simp)] at hV
      exact ⟨by rw [← hV]; rfl, rfl, fun t ht => (by cases ht), Nat.zero_le _⟩
    · simp at hU
      subst hU
      obtain ⟨p1, p2, p3⟩ := baseB_parts hb
      rw [if_pos rfl, hnm, hc] at hV
      refine ⟨?_, p2, fun t ht => tableB_small (p1 t ht), p3⟩
      rw [← hV, ← hh]
      cases c <;> by_cases hx : nm ∈ namesT T <;> simp [hx]
  obtain ⟨eV, hri, hsm, h5⟩ := hUV
  have HC : Hid (tableB t = c) := hc
  have HT : Hid (TabAt w ca cc ra t) := ht
  have HNM : Hid (t.1 = nm) := hnm
  have HNC : Hid (t.2.1.length = nc) := hnc
  have HNR : Hid (t.2.2.length = nr) := hnr
  have HRI : Hid (risesN (namesT U) = true) := hri
  have HSM : Hid (∀ t, t ∈ U → Small t) := hsm
  have HHH : Hid (decide (nm ∈ namesT U) = h) := hh
  clear hrow hn hb hU hV hri hsm ht hnc hnr hc hh
  rw [hnm]
  clear hnm
  -- what both ways come to
  have TAIL : Hid (∀ (w1 : World) (m : Nat) (U' : List TB), ShelfT (w.alloc (.cells #[.string nm, .slice ca nc cc, .slice ra nr cr] 35)) w1 (w.heap.size + 1) m U' → Below w.heap.size w w1 → Below (w.heap.size + 1) (w.alloc (.cells #[.string nm, .slice ca nc cc, .slice ra nr cr] 35)) w1 → risesN (namesT U') = true → U'.length ≤ 5 → (∀ t, t ∈ U' → Small t) → Calls Tryz.prog 30 #[.map (some (w.heap.size + 1))] w1 fun e w2 => ∃ a4 k cap4 Q, U'.length = k ∧ e = .returned (.slice a4 k cap4) ∧ OutTs w2 w.heap.size a4 U' Q ∧ Below w.heap.size w w2 ∧ k ≤ cap4) := by
    have : ∀ (w1 : World) (m : Nat) (U' : List TB), ShelfT (w.alloc (.cells #[.string nm, .slice ca nc cc, .slice ra nr cr] 35)) w1 (w.heap.size + 1) m U' → Below w.heap.size w w1 → Below (w.heap.size + 1) (w.alloc (.cells #[.string nm, .slice ca nc cc, .slice ra nr cr] 35)) w1 → risesN (namesT U') = true → U'.length ≤ 5 → (∀ t, t ∈ U' → Small t) → Calls Tryz.prog 30 #[.map (some (w.heap.size + 1))] w1 fun e w2 => ∃ a4 k cap4 Q, U'.length = k ∧ e = .returned (.slice a4 k cap4) ∧ OutTs w2 w.heap.size a4 U' Q ∧ Below w.heap.size w w2 ∧ k ≤ cap4 := by
      intro w1 m U' hS hx hx2 hri hl hsm
      refine (listed_impl (w.alloc (.cells #[.string nm, .slice ca nc cc, .slice ra nr cr] 35)) (w.heap.size + 1) m U' U' (List.Perm.refl _) hri _ rfl (by omega) hsm w1 hS (by rw [hsA]; exact hx2)).mono ?_
      rintro e w4 ⟨a4, cap4, Q, rfl, hO, hb4, hcap⟩
      exact ⟨a4, _, cap4, Q, rfl, rfl, hO.lower hx.size, chain hx hb4, hcap⟩
    exact this
  go_enter Tryz.func10, Tryz.ntmps10
  go_wp2_with fail
  refine E.out.mono ?_
  rintro e w1 ⟨rfl, hS1, hb1⟩
  obtain ⟨p0, p1, p2, p3⟩ := box3 (w := w) (w1 := w1) (T := 35) (a := .string nm) (b := .slice ca nc cc) (c := .slice ra nr cr) (by rw [hsA]; exact hb1)
  have hx1 : Below w.heap.size w w1 := hA.trans (hb1.mono (by omega))
  go_wp2_with fail
  refine (has_impl _ (w.heap.size + 1) n U _ hS1 nm hnmL h HHH.out).mono ?_
  rintro e w2 ⟨rfl, hb2⟩
  have hS2 := hS1.below hb2
  have hx2 := chain hx1 hb2
  have hy2 : Below (w.heap.size + 1) (w.alloc (.cells #[.string nm, .slice ca nc cc, .slice ra nr cr] 35)) w2 := hb1.trans (hb2.mono (by omega))
  obtain ⟨p0, p1, p2, p3⟩ := later3 hb2 ⟨p0, p1, p2, p3⟩
  clear hS1 hb1 hb2 hx1
  cases h
  · rw [Bool.false_and, if_neg (by simp)] at eV
    obtain ⟨rfl, rfl⟩ : V = U ∧ r = false := by simpa using eV
    go_wp2_with fail
    refine (TAIL.out _ n V hS2 hx2 hy2 HRI.out h5 HSM.out).mono ?_
    rintro e w4 ⟨a4, k, cap4, Q, hk, rfl, hO, hb4, hcap⟩
    have FIN : Hid (PairOut w V false (.returned (.tuple #[.slice a4 k cap4, .bool false])) w4) := ⟨a4, k, cap4, Q, hk, rfl, hO, hb4, hcap⟩
    clear hO hb4 hS2 hk
    go_wp2
    exact bodyPost_ret (v := .tuple #[.slice a4 k cap4, .bool false]) (by simp [results, Tryz.results10, go_sem]) rfl FIN.out
  rw [Bool.true_and] at eV
  go_wp2_with fail
  rw [← HNM.out]
  refine (table_impl ca cc ra cr t nc nr HNC.out HNR.out _ (HT.out.below hx2) c HC.out).mono ?_
  rintro e w3 ⟨rfl, hb3⟩
  rw [HNM.out]
  have hS3 := hS2.below hb3
  have hx3 := chain hx2 hb3
  have hy3 : Below (w.heap.size + 1) (w.alloc (.cells #[.string nm, .slice ca nc cc, .slice ra nr cr] 35)) w3 := hy2.trans (hb3.mono (by omega))
  obtain ⟨p0, p1, p2, p3⟩ := later3 hb3 ⟨p0, p1, p2, p3⟩
  clear hS2 hb3 hx2 hy2
  cases c
  · rw [if_neg (by simp)] at eV
    obtain ⟨rfl, rfl⟩ : V = U ∧ r = false := by simpa using eV
    go_wp2_with fail
    refine (TAIL.out _ n V hS3 hx3 hy3 HRI.out h5 HSM.out).mono ?_
    rintro e w4 ⟨a4, k, cap4, Q, hk, rfl, hO, hb4, hcap⟩
    have FIN : Hid (PairOut w V false (.returned (.tuple #[.slice a4 k cap4, .bool false])) w4) := ⟨a4, k, cap4, Q, hk, rfl, hO, hb4, hcap⟩
    clear hO hb4 hS3 hk
    go_wp2
    exact bodyPost_ret (v := .tuple #[.slice a4 k cap4, .bool false]) (by simp [results, Tryz.results10, go_sem]) rfl FIN.out
  rw [if_pos rfl] at eV
  obtain ⟨eV1, rfl⟩ : V = replT U t ∧ r = true := by simpa using eV
  have hmem : t.1 ∈ namesT U := by rw [HNM.out]; exact of_decide_eq_true HHH.out
  obtain ⟨_, f, ⟨D, hown, hSay⟩, hH⟩ := hS3
  have HD : Hid (∀ w', w'.ownsMap Tryz.prog 9 tokR (w.heap.size + 1) (n + 1) (D.put (keyL nm) (.held (.agg #[.string nm, .slice ca nc cc, .slice ra nr cr]))) → ShelfT (w.alloc (.cells #[.string nm, .slice ca nc cc, .slice ra nr cr] 35)) w' (w.heap.size + 1) (n + 1) (replT U t)) := by
    have : ∀ w', w'.ownsMap Tryz.prog 9 tokR (w.heap.size + 1) (n + 1) (D.put (keyL nm) (.held (.agg #[.string nm, .slice ca nc cc, .slice ra nr cr]))) → ShelfT (w.alloc (.cells #[.string nm, .slice ca nc cc, .slice ra nr cr] 35)) w' (w.heap.size + 1) (n + 1) (replT U t) := fun w' h =>
      ShelfT.swapped (ca := ca) (cc := cc) (ra := ra) (cr := cr) hown hSay hH hmem (HT.out.below hA) (by rw [HNM.out, HNC.out, HNR.out]; exact h)
    exact this
  have HOWN : Hid (w3.ownsMap Tryz.prog 9 tokR (w.heap.size + 1) n D) := hown
  clear hSay hH hown hmem
  go_wp2_with (at_mapUpdate; refine wpList_mapUpdate_in _ rfl _ _ _ 53 rfl 9 35 str_keyed Tryz.underlying53 tokR (w.heap.size + 1) n D rfl HOWN.out (by unfold maxLen; omega) _ _ _ rfl rfl (keyOf_txt nm hnmL) _ [] rfl ?_)
  intro w4 hown4 hturn4
  have hS4 := HD.out w4 hown4
  have hx4 : Below w.heap.size w w4 := below_turned hx3 hturn4 (by omega)
  have hy4 : Below (w.heap.size + 1) (w.alloc (.cells #[.string nm, .slice ca nc cc, .slice ra nr cr] 35)) w4 := below_turned hy3 hturn4 (Nat.le_refl _)
  clear hown4 hturn4 HD HOWN hx3 hy3 p0 p1 p2 p3
  go_wp2_with fail
  refine (TAIL.out _ (n + 1) (replT U t) hS4 hx4 hy4 (by rw [replT_names]; exact HRI.out) (by rw [replT_length]; exact h5) (fun u hu => by
    unfold replT at hu
    obtain ⟨x, hx, e⟩ := List.mem_map.1 hu
    split at e
    · subst e; exact tableB_small HC.out
    · subst e; exact HSM.out x hx)).mono ?_
  rintro e w5 ⟨a4, k, cap4, Q, hk, rfl, hO, hb4, hcap⟩
  have FIN : Hid (PairOut w V true (.returned (.tuple #[.slice a4 k cap4, .bool true])) w5) := ⟨a4, k, cap4, Q, by rw [eV1]; exact hk, rfl, by rw [eV1]; exact hO, hb4, hcap⟩
  clear hO hb4 hS4 hk
  go_wp2
  exact bodyPost_ret (v := .tuple #[.slice a4 k cap4, .bool true]) (by simp [results, Tryz.results10, go_sem]) rfl FIN.out

end Go.Proofs.YteamdmcgkpeelabGreatDoor

/-
  TableIn: which table it is, and the contract of the program's.
-/
namespace Go.Proofs.YteamdmcgkpeelabGreatDoor
open Go.ChangeShapes Go.WideShapes Go.ChangeAt Go.RowKit Go.Maps
attribute [local go_sem ↓] Go.wp_at_zero Go.wp_at_succ
attribute [local simp] World.cell?_alloc_past World.cell?_alloc_at World.frozen?_alloc_at cell_far cell_off cell_here World.frozen?_alloc_past

/-- The first table of that name and true, or the zero one and false. -/
def InR (T : List TB) (s : ByteArray) (t : TB) (b : Bool) : Prop :=
  (b = false ∧ t = zeroT ∧ s ∉ namesT T) ∨ (b = true ∧ ∃ k, ∃ h : k < T.length, T[k] = t ∧ t.1 = s ∧ ∀ j (hj : j < T.length), j < k → T[j].1 ≠ s)
theorem inR_some (T : List TB) (s : ByteArray) : ∃ t b, InR T s t b := by
  by_cases h : s ∈ namesT T
  · rw [← List.take_length (l := T)] at h
    obtain ⟨j, hj, _, e, hf⟩ := first_name h
    exact ⟨T[j], true, .inr ⟨rfl, j, hj, rfl, e, fun i hi hij => by rw [← e]; exact hf i hi hij⟩⟩
  · exact ⟨zeroT, false, .inl ⟨rfl, rfl, h⟩⟩
/-- What TableIn answers: that table in memory of its own. -/
def InOut (w : World) (t : TB) (b : Bool) (e : Ending) (w' : World) : Prop :=
  ∃ nc nr ca cc ra cr A C, e = .returned (.tuple #[.agg #[.string t.1, .slice ca nc cc, .slice ra nr cr], .bool b]) ∧ t.2.1.length = nc ∧ t.2.2.length = nr ∧ OutTab w' w.heap.size ca cc ra t A C ∧ Below w.heap.size w w'

set_option maxRecDepth 100000 in
set_option maxHeartbeats 4000000 in
theorem tablein_impl (a : Option Addr) (cap : Nat) (T : List TB) (n : Nat) (hn : T.length = n) (w : World) (hrow : TabsAt w a T) (hm : n ≤ 1048576) (hsm : ∀ t, t ∈ T → Small t) (s : ByteArray) (hsz : s.size ≤ maxLen) (u : TB) (b : Bool) (hu : InR T s u b) :
    Calls Tryz.prog 20 #[.slice a n cap, .string s] w (InOut w u b) := by
  have E : Hid (Calls Tryz.prog 43 #[.slice a n cap] (w.alloc (.cells #[.string ⟨#[]⟩, .slice none 0 0, .slice none 0 0] 35)) fun e w' => e = .returned (.map (some (w.heap.size + 1))) ∧ ShInv (w.alloc (.cells #[.string ⟨#[]⟩, .slice none 0 0, .slice none 0 0] 35)) w' (w.heap.size + 1) T n ∧ Below (w.alloc (.cells #[.string ⟨#[]⟩, .slice none 0 0, .slice none 0 0] 35)).heap.size (w.alloc (.cells #[.string ⟨#[]⟩, .slice none 0 0, .slice none 0 0] 35)) w') := by
    have := shelved_impl a cap T n hn (w.alloc (.cells #[.string ⟨#[]⟩, .slice none 0 0, .slice none 0 0] 35)) (hrow.below ((Below.refl _ _).alloc (Nat.le_refl _) _)) hm
    unfold Hid
    simpa using this
  have hkn : T.take n = T := by rw [← hn, List.take_length]
  have HMEM : Hid (decide (s ∈ ksOf (namesT (T.take n))) = b) := by
    have : decide (s ∈ ksOf (namesT (T.take n))) = b := by
      rw [hkn]
      rcases hu with ⟨rfl, _, h⟩ | ⟨rfl, k, hk, e1, e2, _⟩
      · exact decide_eq_false (by rw [mem_ksOf]; exact h)
      · exact decide_eq_true (by rw [mem_ksOf, ← e2, ← e1]; exact List.mem_map_of_mem (List.getElem_mem hk))
    exact this
  have HN : Hid (T.length = n) := hn
  have HU : Hid (InR T s u b) := hu
  have HSM : Hid (∀ t, t ∈ T → Small t) := hsm
  clear hrow hn hu hkn hsm
  go_enter Tryz.func20, Tryz.ntmps20
  go_wp2_with fail
  refine E.out.mono ?_
  rintro e w1 ⟨rfl, hS1, hb1⟩
  have R1 : Hid (TBox w1 w.heap.size (.string ⟨#[]⟩) (.slice none 0 0) (.slice none 0 0)) := (TBox.new w _ _ _).below hb1
  have X1 : Hid (Below (w.alloc (.cells #[.string ⟨#[]⟩, .slice none 0 0, .slice none 0 0] 35)).heap.size (w.alloc (.cells #[.string ⟨#[]⟩, .slice none 0 0, .slice none 0 0] 35)) w1) := hb1
  obtain ⟨f, hSh, hHo⟩ := hS1
  have HSh1 : Hid (ShelfAt w1 (w.heap.size + 1) n (ksOf (namesT (T.take n))) f) := hSh
  have HHo : Hid (∀ j (hj : j < T.length), j < n → (∀ i (hi : i < T.length), i < j → T[i].1 ≠ T[j].1) → HoldsT (w.alloc (.cells #[.string ⟨#[]⟩, .slice none 0 0, .slice none 0 0] 35)) f T[j]) := hHo
  clear hb1 hSh hHo E
  go_wp2_with fail
  refine (has_at _ n _ f _ HSh1.out (ShInv.tables HHo.out) s hsz b HMEM.out).mono ?_
  rintro e w2 ⟨rfl, hb2⟩
  have R2 : Hid (TBox w2 w.heap.size (.string ⟨#[]⟩) (.slice none 0 0) (.slice none 0 0)) := R1.out.below hb2
  have X2 := chain X1.out hb2
  have HSh2 : Hid (ShelfAt w2 (w.heap.size + 1) n (ksOf (namesT (T.take n))) f) := HSh1.out.below hb2
  have XX : Hid (Below w.heap.size w w2) := chainA X2
  clear HSh1 hb2 X1 R1
  cases b
  · obtain rfl : u = zeroT := by
      rcases HU.out with ⟨_, h, _⟩ | ⟨h, _⟩
      · exact h
      · cases h
    obtain ⟨r0, r1, r2⟩ := R2.out.cells
    obtain ⟨f0, f1, f2⟩ := R2.out.free
    have fin : Hid (∀ x y z, InOut w zeroT false (.returned (.tuple #[.agg #[.string ⟨#[]⟩, .slice none 0 0, .slice none 0 0], .bool false])) (((w2.setCell ⟨w.heap.size, 0, none⟩ x).setCell ⟨w.heap.size, 1, none⟩ y).setCell ⟨w.heap.size, 2, none⟩ z)) := by
      have : ∀ x y z, InOut w zeroT false (.returned (.tuple #[.agg #[.string ⟨#[]⟩, .slice none 0 0, .slice none 0 0], .bool false])) (((w2.setCell ⟨w.heap.size, 0, none⟩ x).setCell ⟨w.heap.size, 1, none⟩ y).setCell ⟨w.heap.size, 2, none⟩ z) := fun x y z =>
        ⟨0, 0, none, 0, none, 0, _, _, rfl, rfl, rfl, out_zero _ _, ((XX.out.setCell (p := ⟨w.heap.size, 0, none⟩) (Nat.le_refl _) _).setCell (p := ⟨w.heap.size, 1, none⟩) (Nat.le_refl _) _).setCell (p := ⟨w.heap.size, 2, none⟩) (Nat.le_refl _) _⟩
      exact this
    clear X2 R2 HSh2 HMEM
    go_wp2_with fail
    exact bodyPost_ret (v := .tuple #[.agg #[.string ⟨#[]⟩, .slice none 0 0, .slice none 0 0], .bool false]) (by simp [results, Tryz.results20, go_sem, r0, r1, r2]) rfl (fin.out _ _ _)
  have hrun := (HSh2.out.found s hsz (of_decide_eq_true HMEM.out)).1
  obtain ⟨k, hk, ek, es, hfk⟩ : ∃ k, ∃ h : k < T.length, T[k] = u ∧ u.1 = s ∧ ∀ j (hj : j < T.length), j < k → T[j].1 ≠ s := by
    rcases HU.out with ⟨h, _⟩ | ⟨_, h⟩
    · cases h
    · exact h
  obtain ⟨ca, cc, ra, cr, ef, hta⟩ := HHo.out k hk (by have := HN.out; omega) (fun i hi hik => by rw [ek, es]; exact hfk i hi hik)
  have HSU : Hid (Small u) := by
    have : Small u := by rw [← ek]; exact HSM.out _ (List.getElem_mem hk)
    exact this
  rw [ek] at ef hta
  obtain ⟨nc, hnc⟩ : ∃ z, u.2.1.length = z := ⟨_, rfl⟩
  obtain ⟨nr, hnr⟩ : ∃ z, u.2.2.length = z := ⟨_, rfl⟩
  have HNC : Hid (u.2.1.length = nc) := hnc
  have HNR : Hid (u.2.2.length = nr) := hnr
  have HS : Hid (s = u.1) := es.symm
  rw [es] at ef
  rw [ef] at hrun
  rw [HNC.out, HNR.out] at hrun
  have HTA : Hid (TabAt w2 ca cc ra u) := hta.below X2
  clear hta ef X2 hnc hnr hk ek es hfk HSh2 HHo HU HMEM
  go_wp2_with fail
  rw [HS.out]
  refine (copied_table ca cc ra cr u nc nr HNC.out HNR.out w2 HTA.out (by rw [← HNC.out]; exact HSU.out.1) (by rw [← HNR.out]; exact HSU.out.2.1) HSU.out.2.2).mono ?_
  rintro e w3 ⟨g, c, g2, c2, A, D, rfl, hO, hb3, hc2⟩
  have R3 : Hid (TBox w3 w.heap.size (.string ⟨#[]⟩) (.slice none 0 0) (.slice none 0 0)) := R2.out.below hb3
  obtain ⟨r0, r1, r2⟩ := R3.out.cells
  obtain ⟨f0, f1, f2⟩ := R3.out.free
  have fin : Hid (∀ x y z, InOut w u true (.returned (.tuple #[.agg #[.string u.1, .slice (some ⟨g, 0, none⟩) nc c, .slice (some ⟨g2, 0, none⟩) nr c2], .bool true])) (((w3.setCell ⟨w.heap.size, 0, none⟩ x).setCell ⟨w.heap.size, 1, none⟩ y).setCell ⟨w.heap.size, 2, none⟩ z)) := by
    have hlt : w.heap.size < w2.heap.size := R2.out.lt
    have hbb : Below w.heap.size w w3 := chain XX.out hb3
    have : ∀ x y z, InOut w u true (.returned (.tuple #[.agg #[.string u.1, .slice (some ⟨g, 0, none⟩) nc c, .slice (some ⟨g2, 0, none⟩) nr c2], .bool true])) (((w3.setCell ⟨w.heap.size, 0, none⟩ x).setCell ⟨w.heap.size, 1, none⟩ y).setCell ⟨w.heap.size, 2, none⟩ z) := fun x y z =>
      ⟨nc, nr, _, _, _, _, _, _, rfl, HNC.out, HNR.out, OutT.lower (q := ⟨_, _, _, c2, _, _⟩) (hO.set3 w.heap.size hlt 0 1 2 x y z) (Nat.le_of_lt hlt), ((hbb.setCell (p := ⟨w.heap.size, 0, none⟩) (Nat.le_refl _) _).setCell (p := ⟨w.heap.size, 1, none⟩) (Nat.le_refl _) _).setCell (p := ⟨w.heap.size, 2, none⟩) (Nat.le_refl _) _⟩
    exact this
  clear hO hb3 R2 R3 XX HTA
  go_wp2_with fail
  exact bodyPost_ret (v := .tuple #[.agg #[.string u.1, .slice (some ⟨g, 0, none⟩) nc c, .slice (some ⟨g2, 0, none⟩) nr c2], .bool true]) (by simp [results, Tryz.results20, go_sem, r0, r1, r2]) rfl (fin.out _ _ _)
end Go.Proofs.YteamdmcgkpeelabGreatDoor

/-
  The contract of the program's TableIn at a base.
-/
namespace Go.Proofs.YteamdmcgkpeelabGreatDoor
open Go.ChangeShapes Go.WideShapes Go.ChangeAt Go.RowKit Go.Maps

/-- The table, and true. -/
def TabInOut (w : World) (u : TB) (e : Ending) (w' : World) : Prop :=
  ∃ nc nr ca cc ra cr, e = .returned (.tuple #[.agg #[.string u.1, .slice ca nc cc, .slice ra nr cr], .bool true]) ∧ u.2.1.length = nc ∧ u.2.2.length = nr ∧ TabAt w' ca cc ra u ∧ Below w.heap.size w w'
/-- The zero Table, and false. -/
def TabInNo (w : World) (e : Ending) (w' : World) : Prop :=
  ∃ ca cc ra cr, e = .returned (.tuple #[.agg #[.string ⟨#[]⟩, .slice ca 0 cc, .slice ra 0 cr], .bool false]) ∧ Below w.heap.size w w'

theorem tablein_has (a : Option Addr) (cap : Nat) (T : List TB) (n : Nat) (hn : T.length = n) (w : World) (hrow : TabsAt w a T) (hm : n ≤ 1048576) (hb : baseB T = true) (u : TB) (hu : u ∈ T) (s : ByteArray) (hs : s = u.1) (hsz : s.size ≤ maxLen) :
    Calls Tryz.prog 20 #[.slice a n cap, .string s] w (TabInOut w u) := by
  obtain ⟨h1, h2, _⟩ := baseB_parts hb
  have hnd := rises_nodup h2
  obtain ⟨k, hk, ek⟩ := List.getElem_of_mem hu
  refine (tablein_impl a cap T n hn w hrow hm (fun t ht => tableB_small (h1 t ht)) s hsz u true (.inr ⟨rfl, k, hk, ek, hs.symm, fun j hj hjk => ?_⟩)).mono ?_
  · rw [hs, ← ek]
    exact nodup_first hnd k hk j hj hjk
  · rintro e w' ⟨nc, nr, ca, cc, ra, cr, A, C, rfl, e1, e2, ho, hb⟩
    exact ⟨nc, nr, ca, cc, ra, cr, rfl, e1, e2, ho.tab, hb⟩
theorem tablein_lacks (a : Option Addr) (cap : Nat) (T : List TB) (n : Nat) (hn : T.length = n) (w : World) (hrow : TabsAt w a T) (hm : n ≤ 1048576) (hb : baseB T = true) (s : ByteArray) (hs : s ∉ namesT T) (hsz : s.size ≤ maxLen) :
    Calls Tryz.prog 20 #[.slice a n cap, .string s] w (TabInNo w) := by
  obtain ⟨h1, h2, _⟩ := baseB_parts hb
  refine (tablein_impl a cap T n hn w hrow hm (fun t ht => tableB_small (h1 t ht)) s hsz zeroT false (.inl ⟨rfl, rfl, hs⟩)).mono ?_
  rintro e w' ⟨nc, nr, ca, cc, ra, cr, A, C, rfl, e1, e2, ho, hb⟩
  obtain rfl : 0 = nc := e1
  obtain rfl : 0 = nr := e2
  exact ⟨ca, cc, ra, cr, rfl, hb⟩
end Go.Proofs.YteamdmcgkpeelabGreatDoor

/-
  The contract of the model's Replaced.
-/
namespace Go.Proofs.YteamdmcgkpeelabGreatDoor
open Go.ChangeShapes Go.WideShapes Go.ChangeAt Go.RowKit
attribute [local go_sem ↓] Go.wp_at_zero Go.wp_at_succ
attribute [local simp] World.cell?_alloc_past World.cell?_alloc_at World.frozen?_alloc_at cell_far cell_off cell_here World.frozen?_alloc_past

theorem replT_at {T : List TB} {t : TB} (hr : risesN (namesT T) = true) {k : Nat} (hk : k < T.length) (he : T[k].1 = t.1) : replT T t = T.set k t := by
  refine List.ext_getElem (by simp [replT]) fun i h1 h2 => ?_
  have hi : i < T.length := by simpa [replT] using h1
  have hg : (replT T t)[i] = if T[i].1 = t.1 then t else T[i] := by simp [replT]
  rw [hg, List.getElem_set]
  by_cases e : k = i
  · subst e
    rw [if_pos he, if_pos rfl]
  · rw [if_neg e, if_neg]
    intro e2
    have hp := List.pairwise_iff_getElem.1 ((rises_pair T).1 hr)
    rcases Nat.lt_or_gt_of_ne e with h | h
    · have := hp k i hk hi h
      unfold ltN at this
      rw [e2, he, bl_irr] at this
      cases this
    · have := hp i k hi hk h
      unfold ltN at this
      rw [e2, he, bl_irr] at this
      cases this
theorem set_tabs {w w5 W : World} {base n c k : Nat} {g : Nat} {T : List TB} {Q : Nat → TAd} {q : TAd} {t : TB} (hk : k < T.length) (hown : w.ownsRow base 35 3 (.slice (some ⟨g, 0, none⟩) n c) n (tabsV T Q n)) (hout : OutTs w base (some ⟨g, 0, none⟩) T Q) (hb : Below w.heap.size w w5) (hq : OutT w5 w.heap.size q t)
    (hW : W = ((w5.setCell ⟨g, k * 3, none⟩ (.string t.1)).setCell ⟨g, k * 3 + 1, none⟩ (.slice q.ca t.2.1.length q.cc)).setCell ⟨g, k * 3 + 2, none⟩ (.slice q.ra t.2.2.length q.cr)) : TabsAt W (some ⟨g, 0, none⟩) (T.set k t) := by
  have hgw : g < w.heap.size := (hown.lt g rfl).2
  have hgw5 : g < w5.heap.size := Nat.lt_of_lt_of_le hgw hb.size
  have K : KeepS (fun b => b = g) w5 W := by
    rw [hW]
    exact (((KeepS.refl (fun b => b = g) w5).setCell (p := ⟨g, k * 3, none⟩) rfl _).setCell (p := ⟨g, k * 3 + 1, none⟩) rfl _).setCell (p := ⟨g, k * 3 + 2, none⟩) rfl _
  have hgW : g < W.heap.size := Nat.lt_of_lt_of_le hgw5 K.size
  have there : ∀ i (hi : i < T.length), w5.cell? ⟨g, i * 3, none⟩ = some (.string T[i].1) ∧ w5.cell? ⟨g, i * 3 + 1, none⟩ = some (.slice (Q i).ca T[i].2.1.length (Q i).cc) ∧ w5.cell? ⟨g, i * 3 + 2, none⟩ = some (.slice (Q i).ra T[i].2.2.length (Q i).cr) := by
    intro i hi
    obtain ⟨g', o', e, _, c0, c1, c2, _⟩ := hout.heads i hi hi
    cases e
    rw [Nat.zero_add] at c0 c1 c2
    exact ⟨by rw [hb.cell (p := ⟨g, _, none⟩) hgw]; exact c0, by rw [hb.cell (p := ⟨g, _, none⟩) hgw]; exact c1, by rw [hb.cell (p := ⟨g, _, none⟩) hgw]; exact c2⟩
  obtain ⟨e0, e1, e2⟩ := there k hk
  have off : ∀ p, p ≠ k * 3 → p ≠ k * 3 + 1 → p ≠ k * 3 + 2 → W.cell? ⟨g, p, none⟩ = w5.cell? ⟨g, p, none⟩ := by
    intro p h0 h1 h2
    rw [hW, cell_off _ _ _ _ _ h2, cell_off _ _ _ _ _ h1, cell_off _ _ _ _ _ h0]
  have a0 : W.cell? ⟨g, k * 3, none⟩ = some (.string t.1) := by
    rw [hW, cell_off _ _ _ _ _ (by omega), cell_off _ _ _ _ _ (by omega), cell_here _ _ _ _ (by rw [e0]; rfl)]
  have a1 : W.cell? ⟨g, k * 3 + 1, none⟩ = some (.slice q.ca t.2.1.length q.cc) := by
    rw [hW, cell_off _ _ _ _ _ (by omega), cell_here _ _ _ _ (by rw [cell_off _ _ _ _ _ (by omega), e1]; rfl)]
  have a2 : W.cell? ⟨g, k * 3 + 2, none⟩ = some (.slice q.ra t.2.2.length q.cr) := by
    rw [hW, cell_here _ _ _ _ (by rw [cell_off _ _ _ _ _ (by omega), cell_off _ _ _ _ _ (by omega), e2]; rfl)]
  intro i hi
  have hi' : i < T.length := by simpa using hi
  by_cases e : k = i
  · subst e
    rw [List.getElem_set, if_pos rfl]
    refine ⟨g, 0, q.ca, q.cc, q.ra, q.cr, rfl, hgW, by rw [Nat.zero_add]; exact a0, by rw [Nat.zero_add]; exact a1, by rw [Nat.zero_add]; exact a2, ?_⟩
    exact (OutTab.keepS hq K (fun b hb' e => by have := hq.lo b hb'; omega)).tab
  · rw [List.getElem_set, if_neg e]
    obtain ⟨d0, d1, d2⟩ := there i hi'
    refine ⟨g, 0, (Q i).ca, (Q i).cc, (Q i).ra, (Q i).cr, rfl, hgW, ?_, ?_, ?_, ?_⟩
    · rw [Nat.zero_add, off _ (by omega) (by omega) (by omega)]; exact d0
    · rw [Nat.zero_add, off _ (by omega) (by omega) (by omega)]; exact d1
    · rw [Nat.zero_add, off _ (by omega) (by omega) (by omega)]; exact d2
    · exact (OutTab.keepS ((hout.tabs i hi' hi').below hb) K (fun b hb' e => hout.head i hi' g 0 hi' rfl (by rw [← e]; exact hb'))).tab

set_option maxRecDepth 100000 in
set_option maxHeartbeats 4000000 in
theorem replaced_spec (a : Option Addr) (cap : Nat) (T : List TB) (n : Nat) (hn : T.length = n) (ca : Option Addr) (cc : Nat) (ra : Option Addr) (cr : Nat) (t : TB) (nc nr : Nat) (hnc : t.2.1.length = nc) (hnr : t.2.2.length = nr) (w : World) (hrow : TabsAt w a T) (ht : TabAt w ca cc ra t) (hm : n ≤ 1048576) (V : List TB) (r : Bool) (hV : replacedR T t = (V, r)) :
    Calls Tryz.prog 19 #[.slice a n cap, .agg #[.string t.1, .slice ca nc cc, .slice ra nr cr]] w (PairAt w V r) := by
  obtain ⟨b, hb⟩ : ∃ b, baseB T = b := ⟨_, rfl⟩
  obtain ⟨nm, hnm⟩ : ∃ s, t.1 = s := ⟨_, rfl⟩
  have HNM : Hid (t.1 = nm) := hnm
  have HT : Hid (TabAt w ca cc ra t) := ht
  have HNC : Hid (t.2.1.length = nc) := hnc
  have HNR : Hid (t.2.2.length = nr) := hnr
  have HR : Hid (TabsAt w a T) := hrow
  have HN : Hid (T.length = n) := hn
  have HB : Hid (baseB T = b) := hb
  have hmL : n ≤ maxLen := by unfold maxLen; omega
  have hA : Below w.heap.size w (w.alloc (.cells #[.string nm, .slice ca nc cc, .slice ra nr cr] 35)) := (Below.refl _ _).alloc (Nat.le_refl _) _
  unfold replacedR at hV
  rw [hb] at hV
  rw [hnm]
  clear hrow hn ht hnc hnr hnm
  cases b
  · rw [if_neg (by simp)] at hV
    obtain ⟨rfl, rfl⟩ : [] = V ∧ false = r := by simpa using hV
    clear hV hb
    go_enter Tryz.func19, Tryz.ntmps19
    go_wp2_with fail
    refine (base_spec a cap T n HN.out _ (HR.out.below hA) hmL false HB.out).mono ?_
    rintro e w1 ⟨rfl, hb1⟩
    have hx1 := chain hA hb1
    have FIN : Hid (PairAt w [] false (.returned (.tuple #[.slice (some ⟨w1.heap.size, 0, none⟩) 0 0, .bool false])) (w1.alloc (.cells #[] 35))) := ⟨_, 0, 0, rfl, rfl, fun i hi => by simp at hi, hx1.alloc hx1.size _⟩
    go_wp2
    exact bodyPost_ret (v := .tuple #[.slice (some ⟨w1.heap.size, 0, none⟩) 0 0, .bool false]) (by simp [results, Tryz.results19, go_sem]) rfl FIN.out
  rw [if_pos rfl] at hV
  obtain ⟨p1, p2, p3⟩ := baseB_parts hb
  have HSM : Hid (∀ t, t ∈ T → SmallS t) := by
    have : ∀ t, t ∈ T → SmallS t := fun t ht => small_s (p1 t ht)
    exact this
  have HRI : Hid (risesN (namesT T) = true) := p2
  have hn5 : n ≤ 5 := by rw [← HN.out]; exact p3
  obtain ⟨c, hc⟩ : ∃ c, tableB t = c := ⟨_, rfl⟩
  have HC : Hid (tableB t = c) := hc
  have HV : Hid ((if t.1 ∈ namesT T ∧ c = true then (replT T t, true) else (T, false)) = (V, r)) := by rw [hc] at hV; exact hV
  clear hV hb p1 p2 p3 hc
  go_enter Tryz.func19, Tryz.ntmps19
  go_wp2_with fail
  refine (base_spec a cap T n HN.out _ (HR.out.below hA) hmL true HB.out).mono ?_
  rintro e w1 ⟨rfl, hb1⟩
  have q1 := box3 hb1
  have hx1 := chain hA hb1
  obtain ⟨q0, q01, q02, q03⟩ := q1
  clear hb1
  go_wp2_with fail
  refine (find_spec a cap T n HN.out nm _ (HR.out.below hx1) hmL).mono ?_
  rintro e w2 ⟨z, rfl, hz, hb2⟩
  have hx2 := chain hx1 hb2
  obtain ⟨q0, q01, q02, q03⟩ := later3 hb2 ⟨q0, q01, q02, q03⟩
  clear hb2 hx1
  rcases hz with ⟨rfl, hno⟩ | ⟨k, hk, rfl, hke, _⟩
  · have hVT : T = V ∧ r = false := by
      have e := HV.out
      rw [if_neg (by rw [HNM.out]; exact fun h => hno h.1)] at e
      simpa [eq_comm] using e
    obtain ⟨rfl, rfl⟩ := hVT
    clear hno HV
    go_wp2_with fail
    refine (l6copy_spec a cap T n HN.out _ (HR.out.below hx2) hm HSM.out).mono ?_
    rintro e w3 ⟨g, c3, Q, rfl, _, hout, hb3, _⟩
    have FIN : Hid (PairAt w T false (.returned (.tuple #[.slice (some ⟨g, 0, none⟩) n c3, .bool false])) w3) := ⟨_, n, c3, HN.out, rfl, hout.lies, chain hx2 hb3⟩
    obtain ⟨q0, q01, q02, q03⟩ := later3 hb3 ⟨q0, q01, q02, q03⟩
    clear hout hb3
    go_wp2
    exact bodyPost_ret (v := .tuple #[.slice (some ⟨g, 0, none⟩) n c3, .bool false]) (by simp [results, Tryz.results19, go_sem]) rfl FIN.out
  rw [namesT_length] at hk
  rw [namesT_at T k hk] at hke
  have hkn : k < n := by rw [← HN.out]; exact hk
  have HKE : Hid (∃ hk : k < T.length, T[k].1 = nm) := ⟨hk, hke⟩
  have hk0 : ¬ (k : Int) < 0 := by omega
  clear hk hke
  go_wp2_with fail
  refine (l6copy_spec a cap T n HN.out _ (HR.out.below hx2) hm HSM.out).mono ?_
  rintro e w3 ⟨g, c3, Q, rfl, hown, hout, hb3, hc3⟩
  have hx3 := chain hx2 hb3
  have hxw2 : Hid (w.heap.size ≤ w2.heap.size) := hx2.size
  obtain ⟨q0, q01, q02, q03⟩ := later3 hb3 ⟨q0, q01, q02, q03⟩
  have HOWN : Hid (w3.ownsRow w2.heap.size 35 3 (.slice (some ⟨g, 0, none⟩) n c3) n (tabsV T Q n)) := hown
  have HOUT : Hid (OutTs w3 w2.heap.size (some ⟨g, 0, none⟩) T Q) := hout
  clear hown hout hb3 hx2
  go_wp2_with fail
  rw [← HNM.out]
  refine (table_spec ca cc ra cr t nc nr HNC.out HNR.out _ (HT.out.below hx3) c HC.out).mono ?_
  rintro e w4 ⟨rfl, hb4⟩
  rw [HNM.out]
  have hx4 := chain hx3 hb4
  have HB4 : Hid (Below w3.heap.size w3 w4) := hb4
  obtain ⟨q0, q01, q02, q03⟩ := later3 hb4 ⟨q0, q01, q02, q03⟩
  clear hx3 hb4
  cases c
  · have hVT : T = V ∧ r = false := by
      have e := HV.out
      rw [if_neg (by simp)] at e
      simpa [eq_comm] using e
    obtain ⟨rfl, rfl⟩ := hVT
    have FIN : Hid (PairAt w T false (.returned (.tuple #[.slice (some ⟨g, 0, none⟩) n c3, .bool false])) w4) := ⟨_, n, c3, HN.out, rfl, (HOUT.out.below HB4.out).lies, hx4⟩
    clear HV
    go_wp2
    exact bodyPost_ret (v := .tuple #[.slice (some ⟨g, 0, none⟩) n c3, .bool false]) (by simp [results, Tryz.results19, go_sem]) rfl FIN.out
  have hVT : V = T.set k t ∧ r = true := by
    have e := HV.out
    obtain ⟨hk, hke⟩ := HKE.out
    rw [if_pos ⟨by rw [HNM.out, ← hke]; exact List.mem_map_of_mem (List.getElem_mem hk), rfl⟩, replT_at HRI.out hk (by rw [hke, HNM.out])] at e
    simpa [eq_comm] using e
  obtain ⟨hVT, rfl⟩ := hVT
  have HVT : Hid (V = T.set k t) := hVT
  have hss := small_s HC.out
  have HSS : Hid (SmallS t) := hss
  have hncS : nc ≤ 1048576 := by rw [← HNC.out]; exact hss.1
  have hnrS : nr ≤ 1048576 := by rw [← HNR.out]; exact hss.2.1
  clear hVT HV hss
  go_wp2_with fail
  rw [← HNM.out]
  refine (copy_spec ca cc ra cr t nc nr HNC.out HNR.out _ (HT.out.below hx4) hncS hnrS HSS.out.2.2).mono ?_
  rintro e w5 ⟨g1, c1', g2, c2', G, D, rfl, _, hc1, hown5, hrows5, hb5⟩
  rw [HNM.out]
  have hx5 := chain hx4 hb5
  have h35 : Below w3.heap.size w3 w5 := chain HB4.out hb5
  have hq : OutT w5 w3.heap.size ⟨some ⟨g1, 0, none⟩, c1', some ⟨g2, 0, none⟩, c2', fun i => some ⟨G i, 0, none⟩, D⟩ t := by
    have ht := HT.out
    refine OutT.lower (base := w4.heap.size) (out_of_own (by decide) (by decide) hown5 (by rw [HNR.out]; exact hrows5) (by rw [HNC.out]; exact hc1) ht.fit ht.name ht.len ht.lenR (fun i hi => ?_) (fun i hi => ?_)) HB4.out.size
    · obtain ⟨_, _, _, _, _, _, _, _, h, _⟩ := ht.rows i hi; exact h
    · obtain ⟨_, _, _, _, _, _, _, _, _, h, _⟩ := ht.rows i hi; exact h
  obtain ⟨hkT, _⟩ := HKE.out
  have hset := set_tabs (k := k) hkT HOWN.out HOUT.out h35 hq rfl
  dsimp only at hset
  rw [HNM.out, HNC.out, HNR.out] at hset
  have FIN : Hid (PairAt w V true (.returned (.tuple #[.slice (some ⟨g, 0, none⟩) n c3, .bool true])) (((w5.setCell ⟨g, k * 3, none⟩ (.string nm)).setCell ⟨g, k * 3 + 1, none⟩ (.slice (some ⟨g1, 0, none⟩) nc c1')).setCell ⟨g, k * 3 + 2, none⟩ (.slice (some ⟨g2, 0, none⟩) nr c2'))) := by
    have hlo : w.heap.size ≤ g := Nat.le_trans hxw2.out (HOWN.out.lt g rfl).1
    refine ⟨_, n, c3, by rw [HVT.out, List.length_set]; exact HN.out, rfl, by rw [HVT.out]; exact hset, ((hx5.setCell hlo _).setCell hlo _).setCell hlo _⟩
  have hg5 : g < w3.heap.size := (HOWN.out.lt g rfl).2
  obtain ⟨g', o', e, _, d0, d1, d2, _⟩ := HOUT.out.heads k hkT hkT
  cases e
  rw [Nat.zero_add] at d0 d1 d2
  rw [← h35.cell (p := ⟨g, _, none⟩) hg5] at d0 d1 d2
  have f0 : w5.frozen? ⟨g, k * 3, none⟩ = false := by rw [h35.frozen (p := ⟨g, _, none⟩) hg5]; exact HOWN.out.frozenAt _
  have f1 : w5.frozen? ⟨g, k * 3 + 1, none⟩ = false := by rw [h35.frozen (p := ⟨g, _, none⟩) hg5]; exact HOWN.out.frozenAt _
  have f2 : w5.frozen? ⟨g, k * 3 + 2, none⟩ = false := by rw [h35.frozen (p := ⟨g, _, none⟩) hg5]; exact HOWN.out.frozenAt _
  generalize T[k].1 = s0 at d0
  generalize T[k].2.1.length = n0 at d1
  generalize T[k].2.2.length = n1 at d2
  have hi0 : (0 : Int) ≤ (k : Int) := by omega
  have hi1 : (k : Int) < (n : Int) := by omega
  clear hset hq hown5 hrows5 hb5 h35
  go_wp2
  exact bodyPost_ret (v := .tuple #[.slice (some ⟨g, 0, none⟩) n c3, .bool true]) (by simp [results, Tryz.results19, go_sem]) rfl FIN.out
end Go.Proofs.YteamdmcgkpeelabGreatDoor
