/-
  A part of the proof: ShI6, SpB1, SpB2, SpB3.
-/
import Derived.Test.YteamdmcgkpeelalGreatPart12
import Derived.Test.YteamdmcgkpeelalGreatPart11
import Derived.Test.YteamdmcgkpeelalGreatPart6

/-
  The contracts of the program's Made, Dropped and Replaced.
-/
namespace Go.Proofs.YteamdmcgkpeelalGreat
open Go.ChangeShapes Go.WideShapes Go.ChangeAt Go.RowKit Go.Maps
attribute [local go_sem ↓] Go.wp_at_zero Go.wp_at_succ
attribute [local simp] World.cell?_alloc_past World.cell?_alloc_at World.frozen?_alloc_at cell_far cell_off cell_here World.frozen?_alloc_past

/-- A list of tables in memory of its own, and a truth. -/
def PairOut (w : World) (V : List TB) (b : Bool) (e : Ending) (w' : World) : Prop := ∃ a n cap Q, V.length = n ∧ e = .returned (.tuple #[.slice a n cap, .bool b]) ∧ OutTs w' w.heap.size a V Q ∧ Below w.heap.size w w' ∧ n ≤ cap
theorem OutU.lower {w : World} {base base' : Nat} {a : Option Addr} {T : List TB} {Q : Nat → TAd} {m : Nat} (h : OutU w base a T Q m) (hb : base' ≤ base) : OutU w base' a T Q m :=
  ⟨h.heads, fun i hi hm => (h.tabs i hi hm).lower hb, h.apart, h.head, fun g o h0 e => Nat.le_trans hb (h.lo g o h0 e)⟩

set_option maxRecDepth 100000 in
set_option maxHeartbeats 4000000 in
theorem replaced_impl (a : Option Addr) (cap : Nat) (T : List TB) (n : Nat) (hn : T.length = n) (ca : Option Addr) (cc : Nat) (ra : Option Addr) (cr : Nat) (t : TB) (nc nr : Nat) (hnc : t.2.1.length = nc) (hnr : t.2.2.length = nr) (w : World) (hrow : TabsAt w a T) (ht : TabAt w ca cc ra t) (hm : n ≤ 1048576) (V : List TB) (r : Bool) (hV : replacedR T t = (V, r)) :
    Calls Tryz.prog 9 #[.slice a n cap, .agg #[.string t.1, .slice ca nc cc, .slice ra nr cr]] w (PairOut w V r) := by
  obtain ⟨b, hb⟩ : ∃ b, baseB T = b := ⟨_, rfl⟩
  obtain ⟨U, hU⟩ : ∃ U, (if b then T else []) = U := ⟨_, rfl⟩
  obtain ⟨nm, hnm⟩ : ∃ s, t.1 = s := ⟨_, rfl⟩
  have hnmL : nm.size ≤ maxLen := by rw [← hnm]; exact ht.name
  have hA : Below w.heap.size w (w.alloc (.cells #[.string nm, .slice ca nc cc, .slice ra nr cr] 35)) := (Below.refl _ _).alloc (Nat.le_refl _) _
  have hsA : (w.alloc (.cells #[.string nm, .slice ca nc cc, .slice ra nr cr] 35)).heap.size = w.heap.size + 1 := by simp
  have E : Hid (Calls Tryz.prog 24 #[.slice a n cap] (w.alloc (.cells #[.string nm, .slice ca nc cc, .slice ra nr cr] 35)) fun e w' => e = .returned (.tuple #[.map (some (w.heap.size + 1)), .bool b]) ∧ ShelfT (w.alloc (.cells #[.string nm, .slice ca nc cc, .slice ra nr cr] 35)) w' (w.heap.size + 1) n U ∧ Below (w.heap.size + 1) (w.alloc (.cells #[.string nm, .slice ca nc cc, .slice ra nr cr] 35)) w') := by
    have := shelf_impl a cap T n hn _ (hrow.below hA) hm b hb
    rw [hU, hsA] at this
    exact this
  obtain ⟨h, hh⟩ : ∃ h, decide (nm ∈ namesT U) = h := ⟨_, rfl⟩
  obtain ⟨c, hc⟩ : ∃ c, tableB t = c := ⟨_, rfl⟩
  have hUV : (V, r) = (if h && c then (replT U t, true) else (U, false)) ∧ risesN (namesT U) = true ∧ (∀ t, t ∈ U → Small t) ∧ U.length ≤ 5 := by
    unfold replacedR at hV
    rw [hb] at hV
    cases b
    · simp at hU
      subst hU
      have : h = false := by rw [← hh]; simp [namesT]
      subst this
      rw [if_neg (by simp)] at hV
      exact ⟨by rw [← hV]; rfl, rfl, fun t ht => (by cases ht), Nat.zero_le _⟩
    · simp at hU
      subst hU
      obtain ⟨p1, p2, p3⟩ := baseB_parts hb
      rw [if_pos rfl, hnm, hc] at hV
      refine ⟨?_, p2, fun t ht => tableB_small (p1 t ht), p3⟩
      rw [← hV, ← hh]
      cases c <;> by_cases hx : nm ∈ namesT T <;> simp [hx]
  obtain ⟨eV, hri, hsm, h5⟩ := hUV
  have HC : Hid (tableB t = c) := hc
  have HT : Hid (TabAt w ca cc ra t) := ht
  have HNM : Hid (t.1 = nm) := hnm
  have HNC : Hid (t.2.1.length = nc) := hnc
  have HNR : Hid (t.2.2.length = nr) := hnr
  have HRI : Hid (risesN (namesT U) = true) := hri
  have HSM : Hid (∀ t, t ∈ U → Small t) := hsm
  have HHH : Hid (decide (nm ∈ namesT U) = h) := hh
  clear hrow hn hb hU hV hri hsm ht hnc hnr hc hh
  rw [hnm]
  clear hnm
  -- what both ways come to
  have TAIL : Hid (∀ (w1 : World) (m : Nat) (U' : List TB), ShelfT (w.alloc (.cells #[.string nm, .slice ca nc cc, .slice ra nr cr] 35)) w1 (w.heap.size + 1) m U' → Below w.heap.size w w1 → Below (w.heap.size + 1) (w.alloc (.cells #[.string nm, .slice ca nc cc, .slice ra nr cr] 35)) w1 → risesN (namesT U') = true → U'.length ≤ 5 → (∀ t, t ∈ U' → Small t) → Calls Tryz.prog 27 #[.map (some (w.heap.size + 1))] w1 fun e w2 => ∃ a4 k cap4 Q, U'.length = k ∧ e = .returned (.slice a4 k cap4) ∧ OutTs w2 w.heap.size a4 U' Q ∧ Below w.heap.size w w2 ∧ k ≤ cap4) := by
    have : ∀ (w1 : World) (m : Nat) (U' : List TB), ShelfT (w.alloc (.cells #[.string nm, .slice ca nc cc, .slice ra nr cr] 35)) w1 (w.heap.size + 1) m U' → Below w.heap.size w w1 → Below (w.heap.size + 1) (w.alloc (.cells #[.string nm, .slice ca nc cc, .slice ra nr cr] 35)) w1 → risesN (namesT U') = true → U'.length ≤ 5 → (∀ t, t ∈ U' → Small t) → Calls Tryz.prog 27 #[.map (some (w.heap.size + 1))] w1 fun e w2 => ∃ a4 k cap4 Q, U'.length = k ∧ e = .returned (.slice a4 k cap4) ∧ OutTs w2 w.heap.size a4 U' Q ∧ Below w.heap.size w w2 ∧ k ≤ cap4 := by
      intro w1 m U' hS hx hx2 hri hl hsm
      refine (listed_impl (w.alloc (.cells #[.string nm, .slice ca nc cc, .slice ra nr cr] 35)) (w.heap.size + 1) m U' U' (List.Perm.refl _) hri _ rfl (by omega) hsm w1 hS (by rw [hsA]; exact hx2)).mono ?_
      rintro e w4 ⟨a4, cap4, Q, rfl, hO, hb4, hcap⟩
      exact ⟨a4, _, cap4, Q, rfl, rfl, hO.lower hx.size, chain hx hb4, hcap⟩
    exact this
  go_enter Tryz.func9, Tryz.ntmps9
  go_wp2_with fail
  refine E.out.mono ?_
  rintro e w1 ⟨rfl, hS1, hb1⟩
  obtain ⟨p0, p1, p2, p3⟩ := box3 (w := w) (w1 := w1) (T := 35) (a := .string nm) (b := .slice ca nc cc) (c := .slice ra nr cr) (by rw [hsA]; exact hb1)
  have hx1 : Below w.heap.size w w1 := hA.trans (hb1.mono (by omega))
  go_wp2_with fail
  refine (has_impl _ (w.heap.size + 1) n U _ hS1 nm hnmL h HHH.out).mono ?_
  rintro e w2 ⟨rfl, hb2⟩
  have hS2 := hS1.below hb2
  have hx2 := chain hx1 hb2
  have hy2 : Below (w.heap.size + 1) (w.alloc (.cells #[.string nm, .slice ca nc cc, .slice ra nr cr] 35)) w2 := hb1.trans (hb2.mono (by omega))
  obtain ⟨p0, p1, p2, p3⟩ := later3 hb2 ⟨p0, p1, p2, p3⟩
  clear hS1 hb1 hb2 hx1
  cases h
  · rw [Bool.false_and, if_neg (by simp)] at eV
    obtain ⟨rfl, rfl⟩ : V = U ∧ r = false := by simpa using eV
    go_wp2_with fail
    refine (TAIL.out _ n V hS2 hx2 hy2 HRI.out h5 HSM.out).mono ?_
    rintro e w4 ⟨a4, k, cap4, Q, hk, rfl, hO, hb4, hcap⟩
    have FIN : Hid (PairOut w V false (.returned (.tuple #[.slice a4 k cap4, .bool false])) w4) := ⟨a4, k, cap4, Q, hk, rfl, hO, hb4, hcap⟩
    clear hO hb4 hS2 hk
    go_wp2
    exact bodyPost_ret (v := .tuple #[.slice a4 k cap4, .bool false]) (by simp [results, Tryz.results9, go_sem]) rfl FIN.out
  rw [Bool.true_and] at eV
  go_wp2_with fail
  rw [← HNM.out]
  refine (table_impl ca cc ra cr t nc nr HNC.out HNR.out _ (HT.out.below hx2) c HC.out).mono ?_
  rintro e w3 ⟨rfl, hb3⟩
  rw [HNM.out]
  have hS3 := hS2.below hb3
  have hx3 := chain hx2 hb3
  have hy3 : Below (w.heap.size + 1) (w.alloc (.cells #[.string nm, .slice ca nc cc, .slice ra nr cr] 35)) w3 := hy2.trans (hb3.mono (by omega))
  obtain ⟨p0, p1, p2, p3⟩ := later3 hb3 ⟨p0, p1, p2, p3⟩
  clear hS2 hb3 hx2 hy2
  cases c
  · rw [if_neg (by simp)] at eV
    obtain ⟨rfl, rfl⟩ : V = U ∧ r = false := by simpa using eV
    go_wp2_with fail
    refine (TAIL.out _ n V hS3 hx3 hy3 HRI.out h5 HSM.out).mono ?_
    rintro e w4 ⟨a4, k, cap4, Q, hk, rfl, hO, hb4, hcap⟩
    have FIN : Hid (PairOut w V false (.returned (.tuple #[.slice a4 k cap4, .bool false])) w4) := ⟨a4, k, cap4, Q, hk, rfl, hO, hb4, hcap⟩
    clear hO hb4 hS3 hk
    go_wp2
    exact bodyPost_ret (v := .tuple #[.slice a4 k cap4, .bool false]) (by simp [results, Tryz.results9, go_sem]) rfl FIN.out
  rw [if_pos rfl] at eV
  obtain ⟨eV1, rfl⟩ : V = replT U t ∧ r = true := by simpa using eV
  have hmem : t.1 ∈ namesT U := by rw [HNM.out]; exact of_decide_eq_true HHH.out
  obtain ⟨_, f, ⟨D, hown, hSay⟩, hH⟩ := hS3
  have HD : Hid (∀ w', w'.ownsMap Tryz.prog 9 tokR (w.heap.size + 1) (n + 1) (D.put (keyL nm) (.held (.agg #[.string nm, .slice ca nc cc, .slice ra nr cr]))) → ShelfT (w.alloc (.cells #[.string nm, .slice ca nc cc, .slice ra nr cr] 35)) w' (w.heap.size + 1) (n + 1) (replT U t)) := by
    have : ∀ w', w'.ownsMap Tryz.prog 9 tokR (w.heap.size + 1) (n + 1) (D.put (keyL nm) (.held (.agg #[.string nm, .slice ca nc cc, .slice ra nr cr]))) → ShelfT (w.alloc (.cells #[.string nm, .slice ca nc cc, .slice ra nr cr] 35)) w' (w.heap.size + 1) (n + 1) (replT U t) := fun w' h =>
      ShelfT.swapped (ca := ca) (cc := cc) (ra := ra) (cr := cr) hown hSay hH hmem (HT.out.below hA) (by rw [HNM.out, HNC.out, HNR.out]; exact h)
    exact this
  have HOWN : Hid (w3.ownsMap Tryz.prog 9 tokR (w.heap.size + 1) n D) := hown
  clear hSay hH hown hmem
  go_wp2_with (at_mapUpdate; refine wpList_mapUpdate_in _ rfl _ _ _ 52 rfl 9 35 str_keyed Tryz.underlying52 tokR (w.heap.size + 1) n D rfl HOWN.out (by unfold maxLen; omega) _ _ _ rfl rfl (keyOf_txt nm hnmL) _ [] rfl ?_)
  intro w4 hown4 hturn4
  have hS4 := HD.out w4 hown4
  have hx4 : Below w.heap.size w w4 := below_turned hx3 hturn4 (by omega)
  have hy4 : Below (w.heap.size + 1) (w.alloc (.cells #[.string nm, .slice ca nc cc, .slice ra nr cr] 35)) w4 := below_turned hy3 hturn4 (Nat.le_refl _)
  clear hown4 hturn4 HD HOWN hx3 hy3 p0 p1 p2 p3
  go_wp2_with fail
  refine (TAIL.out _ (n + 1) (replT U t) hS4 hx4 hy4 (by rw [replT_names]; exact HRI.out) (by rw [replT_length]; exact h5) (fun u hu => by
    unfold replT at hu
    obtain ⟨x, hx, e⟩ := List.mem_map.1 hu
    split at e
    · subst e; exact tableB_small HC.out
    · subst e; exact HSM.out x hx)).mono ?_
  rintro e w5 ⟨a4, k, cap4, Q, hk, rfl, hO, hb4, hcap⟩
  have FIN : Hid (PairOut w V true (.returned (.tuple #[.slice a4 k cap4, .bool true])) w5) := ⟨a4, k, cap4, Q, by rw [eV1]; exact hk, rfl, by rw [eV1]; exact hO, hb4, hcap⟩
  clear hO hb4 hS4 hk
  go_wp2
  exact bodyPost_ret (v := .tuple #[.slice a4 k cap4, .bool true]) (by simp [results, Tryz.results9, go_sem]) rfl FIN.out

end Go.Proofs.YteamdmcgkpeelalGreat

/-
  The contract of the model's copy of a list of tables, and rows of tables' heads that are put one behind the other.
-/
namespace Go.Proofs.YteamdmcgkpeelalGreat
open Go.ChangeShapes Go.WideShapes Go.ChangeAt Go.RowKit
attribute [local go_sem ↓] Go.wp_at_zero Go.wp_at_succ
attribute [local simp] World.cell?_alloc_past World.cell?_alloc_at World.frozen?_alloc_at cell_far cell_off cell_here World.frozen?_alloc_past

theorem infoTS : (Tryz.prog.info? 35).map (fun i => (i.zero, i.size, i.bytes)) = some (some (.agg #[.string ⟨#[]⟩, .slice none 0 0, .slice none 0 0]), 3, 64) := by kernel_rfl
/-- Tables that can be copied. -/
def SmallS (t : TB) : Prop := t.2.1.length ≤ 1048576 ∧ t.2.2.length ≤ 1048576 ∧ ∀ i (h : i < t.2.2.length), t.2.2[i].length ≤ 1048576
theorem own_emptyT (w : World) (B : Nat) (hB : B ≤ w.heap.size) : (w.alloc (.cells #[] 35)).ownsRow B 35 3 (.slice (some ⟨w.heap.size, 0, none⟩) 0 0) 0 [] :=
  ⟨rfl, .inr ⟨w.heap.size, 0, #[], rfl, hB, by show (w.heap.push _)[w.heap.size]? = _; simp, Nat.le_refl _, by unfold maxLen; omega, rfl, rfl⟩⟩
/-- A copy: a list of tables in memory of its own, not nil. -/
def CopyOut (w : World) (n : Nat) (V : List TB) (e : Ending) (w' : World) : Prop := ∃ g cap Q, e = .returned (.slice (some ⟨g, 0, none⟩) n cap) ∧ w'.ownsRow w.heap.size 35 3 (.slice (some ⟨g, 0, none⟩) n cap) n (tabsV V Q n) ∧ OutTs w' w.heap.size (some ⟨g, 0, none⟩) V Q ∧ Below w.heap.size w w' ∧ n ≤ cap

set_option maxRecDepth 100000 in
set_option maxHeartbeats 4000000 in
theorem l6copy_spec (a : Option Addr) (cap : Nat) (T : List TB) (n : Nat) (hn : T.length = n) (w : World) (hrow : TabsAt w a T) (hm : n ≤ 1048576) (hsm : ∀ t, t ∈ T → SmallS t) :
    Calls Tryz.prog 19 #[.slice a n cap] w (CopyOut w n T) := by
  obtain ⟨i0, hti, hz0, hz1, hz2⟩ := info_parts infoTS
  have HR : Hid (TabsAt w a T) := hrow
  have HN : Hid (T.length = n) := hn
  have HSM : Hid (∀ t, t ∈ T → SmallS t) := hsm
  have own0 : Hid (∃ Q, OwnTs (w.alloc (.cells #[] 35)) w.heap.size (.slice (some ⟨w.heap.size, 0, none⟩) 0 0) T Q 0) := ⟨fun _ => ⟨none, 0, none, 0, fun _ => none, fun _ => 0⟩, OwnTs.start _ (own_emptyT w _ (Nat.le_refl _))⟩
  have hb0 : Below w.heap.size w (w.alloc (.cells #[] 35)) := (Below.refl _ _).alloc (Nat.le_refl _) _
  clear hrow hn hsm
  go_enter Tryz.func19, Tryz.ntmps19
  go_wp2
  go_loopw [3, 4] (fun v kk wr => ∃ k : Nat, k ≤ n ∧ kk = .int .i64 k ∧ Hid (∃ Q, OwnTs wr w.heap.size v T Q k) ∧ Below w.heap.size w wr ∧ v ≠ .slice none 0 0) (fun _ kk _ => n - (intOf kk).toNat)
  case atStart => exact ⟨0, Nat.zero_le _, rfl, own0, hb0, by simp⟩
  case round =>
    obtain ⟨k, hk, rfl, hOw, hbw, hvn⟩ := hrel
    by_cases hlt : k < n
    · have hlt' : Hid (k < T.length) := by have := HN.out; exact show k < T.length by omega
      obtain ⟨g, o, ca, cc, ra, cr, rfl, hgw, c0, c1, c2, hta⟩ := HR.out.below hbw k hlt'.out
      have hi0 : (0 : Int) ≤ (k : Int) := by omega
      have hi1 : (k : Int) < (n : Int) := by omega
      obtain ⟨Q, hO⟩ := hOw.out
      have HO : Hid (OwnTs wr w.heap.size _ T Q k) := hO
      have HSS : Hid (SmallS (T[k]'hlt'.out)) := HSM.out _ (List.getElem_mem hlt'.out)
      have HTA : Hid (TabAt wr ca cc ra (T[k]'hlt'.out)) := hta
      obtain ⟨t, ht⟩ : ∃ t, (T[k]'hlt'.out) = t := ⟨_, rfl⟩
      rw [ht] at c0 c1 c2 HTA HSS
      have HVK : Hid ((T[k]'hlt'.out) = t) := ht
      clear hO hOw hta ht
      obtain ⟨nc, hnc⟩ : ∃ z, t.2.1.length = z := ⟨_, rfl⟩
      obtain ⟨nr, hnr⟩ : ∃ z, t.2.2.length = z := ⟨_, rfl⟩
      obtain ⟨nm, hnm⟩ : ∃ z, t.1 = z := ⟨_, rfl⟩
      rw [hnm] at c0
      rw [hnc] at c1
      rw [hnr] at c2
      have HNC : Hid (t.2.1.length = nc) := hnc
      have HNR : Hid (t.2.2.length = nr) := hnr
      have HNM : Hid (t.1 = nm) := hnm
      clear hnc hnr hnm
      have hncS : nc ≤ 1048576 := by rw [← HNC.out]; exact HSS.out.1
      have hnrS : nr ≤ 1048576 := by rw [← HNR.out]; exact HSS.out.2.1
      go_wp2_with fail
      rw [← HNM.out]
      refine (copy_spec ca cc ra cr t nc nr HNC.out HNR.out _ HTA.out hncS hnrS HSS.out.2.2).mono ?_
      rintro e w3 ⟨g1, c1', g2, c2', G, D, rfl, _, hc1, hown, hrows, hb3⟩
      rw [HNM.out]
      have hq : Hid (OutT w3 wr.heap.size ⟨some ⟨g1, 0, none⟩, c1', some ⟨g2, 0, none⟩, c2', fun i => some ⟨G i, 0, none⟩, D⟩ (T[k]'hlt'.out)) := by
        have : OutT w3 wr.heap.size ⟨some ⟨g1, 0, none⟩, c1', some ⟨g2, 0, none⟩, c2', fun i => some ⟨G i, 0, none⟩, D⟩ (T[k]'hlt'.out) := by
          rw [HVK.out]
          have ht := HTA.out
          refine out_of_own (by decide) (by decide) hown (by rw [HNR.out]; exact hrows) (by rw [HNC.out]; exact hc1) ht.fit ht.name ht.len ht.lenR (fun i hi => ?_) (fun i hi => ?_)
          · obtain ⟨_, _, _, _, _, _, _, _, h, _⟩ := ht.rows i hi; exact h
          · obtain ⟨_, _, _, _, _, _, _, _, _, h, _⟩ := ht.rows i hi; exact h
        exact this
      have O3 := own_below HO.out.own hb3
      have HB3 : Hid (Below wr.heap.size wr w3) := hb3
      have hs3w : w.heap.size ≤ w3.heap.size := by have := hbw.size; have := hb3.size; omega
      clear hown hrows hb3 c0 c1 c2 HTA
      go_wp2_with (at_builtin; refine wpList_append_own_at _ rfl _ _ 29 rfl w.heap.size 35 i0 (.agg #[.string ⟨#[]⟩, .slice none 0 0, .slice none 0 0]) 3 64 Tryz.underlying29 hti hz0 hz1 hz2 rfl (by decide) _ _ _ rfl (O3.alloc _) ⟨w3.heap.size, 0, none⟩ 1 1 [.string nm, .slice (some ⟨g1, 0, none⟩) nc c1', .slice (some ⟨g2, 0, none⟩) nr c2'] rfl rfl ?c1 ?c2 ?c3 ?c4 ?c5 ?_)
      case c1 =>
        intro j u hj
        match j, hj with
        | 0, hj => simp at hj; subst hj; simp [Addr.add]
        | 1, hj => simp at hj; subst hj; simp [Addr.add]
        | 2, hj => simp at hj; subst hj; simp [Addr.add]
      case c2 => intro u hu; simp at hu; rcases hu with rfl | rfl | rfl <;> rfl
      case c3 => unfold maxLen; omega
      case c4 => omega
      case c5 => simp; omega
      intro v' w4 own4 hgrow hnn hloc
      have hx4 : Below w.heap.size w w4 := by
        refine ((hbw.trans (HB3.out.mono hbw.size)).alloc hs3w _).grown hgrow (by simp; omega) ?_
        intro j hj
        exact (O3.lt j hj).1
      have hsa : (w3.alloc (.cells #[.string nm, .slice (some ⟨g1, 0, none⟩) nc c1', .slice (some ⟨g2, 0, none⟩) nr c2'] 35)).heap.size = w3.heap.size + 1 := by simp
      have OW4 : Hid (∃ Q, OwnTs w4 w.heap.size v' T Q (k + 1)) := by
        refine ⟨_, OwnTs.snoc HO.out hlt'.out hbw.size HB3.out hq.out ?_ hgrow (by first | exact hloc | (rw [hsa]; exact hloc))⟩
        unfold headV
        rw [HVK.out, HNM.out, HNC.out, HNR.out]
        exact own4
      have hvn4 : v' ≠ .slice none 0 0 := by first | exact hnn | exact fun e => hvn (hnn.1 e).1
      clear own4 hgrow hnn hloc O3 HO hq HB3 hsa
      go_wp2
      go_roundw
      case rel => exact ⟨k + 1, by omega, by go_num, OW4, hx4, hvn4⟩
      case measure => simp [intOf]; omega
    · have hkl : k = n := by omega
      subst hkl
      have hnn : ¬ (k : Int) < (k : Int) := by omega
      obtain ⟨Q, hO⟩ := hOw.out
      obtain ⟨a', cap', hv, hout, hcap⟩ := hO.out HN.out
      have hown := hO.own
      rcases hown.2 with ⟨e, _⟩ | ⟨g, c, cur, e, _⟩
      · exact absurd e hvn
      rw [e] at hv
      injection hv with e1 e2 e3
      subst e1 e3 e
      have FIN : Hid (CopyOut w k T (.returned (.slice (some ⟨g, 0, none⟩) k c)) wr) := ⟨g, c, Q, rfl, hown, hout, hbw, hcap⟩
      clear hO hout hOw hown
      go_wp2
      go_ret
      exact FIN.out
end Go.Proofs.YteamdmcgkpeelalGreat

/-
  Rows of tables' heads, put one behind the other; and the contract of the model's Dropped.
-/
namespace Go.Proofs.YteamdmcgkpeelalGreat
open Go.ChangeShapes Go.WideShapes Go.ChangeAt Go.RowKit
attribute [local go_sem ↓] Go.wp_at_zero Go.wp_at_succ
attribute [local simp] World.cell?_alloc_past World.cell?_alloc_at World.frozen?_alloc_at cell_far cell_off cell_here World.frozen?_alloc_past

/-- The heads of tables with where their lists lie. -/
def hvP (P : List (TB × TAd)) : List Value := P.flatMap (fun p => headV p.1 p.2)
theorem hvP_append (P R : List (TB × TAd)) : hvP (P ++ R) = hvP P ++ hvP R := by simp [hvP]
theorem hvP_length (P : List (TB × TAd)) : (hvP P).length = P.length * 3 := by
  induction P with
  | nil => rfl
  | cons p P ih => rw [show p :: P = [p] ++ P from rfl, hvP_append, List.length_append, ih]; simp [hvP, headV]; omega
def pairsT (T : List TB) (Q : Nat → TAd) (n : Nat) : List (TB × TAd) := (List.range n).map (fun i => (T.getD i zeroTB, Q i))
theorem pairsT_length (T : List TB) (Q : Nat → TAd) (n : Nat) : (pairsT T Q n).length = n := by simp [pairsT]
theorem hvP_pairs (T : List TB) (Q : Nat → TAd) (n : Nat) : hvP (pairsT T Q n) = tabsV T Q n := by
  induction n with
  | zero => rfl
  | succ n ih =>
    rw [pairsT, List.range_succ, List.map_append, hvP_append]
    rw [show hvP ((List.range n).map (fun i => (T.getD i zeroTB, Q i))) = tabsV T Q n from ih, tabsV]
    simp [hvP]
theorem pairsT_fst (T : List TB) (Q : Nat → TAd) : (pairsT T Q T.length).map Prod.fst = T := by
  refine List.ext_getElem (by simp [pairsT]) fun i h1 h2 => ?_
  simp only [pairsT, List.getElem_map, List.getElem_range]
  exact getD_tb h2
theorem hvP_at {P : List (TB × TAd)} {i : Nat} (h : i < P.length) (j : Nat) (hj : j < 3) : (hvP P)[i * 3 + j]? = (headV P[i].1 P[i].2)[j]? := by
  have e : P = P.take i ++ P[i] :: P.drop (i + 1) := by rw [← List.drop_eq_getElem_cons (by assumption), List.take_append_drop]
  have e2 : hvP P = hvP (P.take i) ++ (headV P[i].1 P[i].2 ++ hvP (P.drop (i + 1))) := by
    conv => lhs; rw [e, hvP_append, show P[i] :: P.drop (i + 1) = [P[i]] ++ P.drop (i + 1) from rfl, hvP_append]
    congr 2
    try simp [hvP]
  have hl : (hvP (P.take i)).length = i * 3 := by rw [hvP_length, List.length_take, Nat.min_eq_left (by omega)]
  rw [e2, List.getElem?_append_right (by omega), hl, show i * 3 + j - i * 3 = j by omega, List.getElem?_append_left (by simp [headV]; omega)]
theorem hvP_one {P : List (TB × TAd)} {u : Value} (hu : u ∈ hvP P) : u.oneCell' = true := by
  unfold hvP at hu
  obtain ⟨p, _, hp⟩ := List.mem_flatMap.1 hu
  unfold headV at hp
  simp at hp
  rcases hp with rfl | rfl | rfl <;> rfl
theorem hvP_take (P : List (TB × TAd)) (k j : Nat) (u : Value) (h : (hvP (P.take k))[j]? = some u) : (hvP P)[j]? = some u := by
  conv => lhs; rw [← List.take_append_drop k P, hvP_append]
  rw [List.getElem?_append_left (List.getElem?_eq_some_iff.1 h).1]; exact h
theorem hvP_drop (P : List (TB × TAd)) (k j : Nat) (hk : k ≤ P.length) (u : Value) (h : (hvP (P.drop k))[j]? = some u) : (hvP P)[k * 3 + j]? = some u := by
  conv => lhs; rw [← List.take_append_drop k P, hvP_append]
  have hl : (hvP (P.take k)).length = k * 3 := by rw [hvP_length, List.length_take, Nat.min_eq_left hk]
  rw [List.getElem?_append_right (by omega), hl, show k * 3 + j - k * 3 = j by omega]; exact h
theorem addr_add (g o q : Nat) : ((⟨g, o, none⟩ : Addr).add q) = ⟨g, o + q, none⟩ := by
  unfold Addr.add
  by_cases hq : q = 0 <;> simp [hq]
theorem row_tabs {w : World} {base n : Nat} {v : Value} {P : List (TB × TAd)} (h : w.ownsRow base 35 3 v n (hvP P)) (hn : P.length = n) (ht : ∀ p, p ∈ P → TabAt w p.2.ca p.2.cc p.2.ra p.1) : ∃ a cap, v = .slice a n cap ∧ TabsAt w a (P.map Prod.fst) ∧ n ≤ cap := by
  subst hn
  rcases h.2 with ⟨e, h0⟩ | ⟨g, cap, cur, e, hbg, hg, hc, _⟩
  · have hV : P = [] := List.eq_nil_of_length_eq_zero h0
    subst hV
    exact ⟨none, 0, e, fun i hi => by simp at hi, Nat.le_refl _⟩
  · subst e
    refine ⟨some ⟨g, 0, none⟩, cap, rfl, fun i hi => ?_, hc⟩
    have hi' : i < P.length := by simpa using hi
    have cel : ∀ j, j < 3 → w.cell? ⟨g, i * 3 + j, none⟩ = (headV P[i].1 P[i].2)[j]? := by
      intro j hj
      rw [h.cellAt _ (by omega), hvP_at hi' j hj]
    have hf : (P.map Prod.fst)[i] = P[i].1 := by simp
    rw [hf]
    refine ⟨g, 0, P[i].2.ca, P[i].2.cc, P[i].2.ra, P[i].2.cr, rfl, (h.lt g rfl).2, ?_, ?_, ?_, ht _ (List.getElem_mem hi')⟩
    · rw [Nat.zero_add]; exact cel 0 (by omega)
    · rw [Nat.zero_add]; exact cel 1 (by omega)
    · rw [Nat.zero_add]; exact cel 2 (by omega)
/-- Heads put behind heads, in a row of one's own. -/
theorem app_tabs {B : Nat} {w : World} {o : Oper} {a : Act} {K : Act → World → Prop} {Q : Exit → Act → World → Prop} (s x : Operand)
    (ho : o.op = .call { callee := .builtin .append, args := #[s, x], argTypes := #[29, 29] })
    (hB : B ≤ w.heap.size) (v : Value) (n : Nat) (P1 : List (TB × TAd)) (hs : a.eval s = v) (own : w.ownsRow B 35 3 v n (hvP P1))
    (ad : Addr) (m k : Nat) (P2 : List (TB × TAd)) (hx : a.eval x = .slice (some ad) m k) (hm : P2.length = m) (hcells : ∀ j u, (hvP P2)[j]? = some u → w.cell? (ad.add j) = some u)
    (hsz : n + m ≤ 4096)
    (h : ∀ v' w', w'.ownsRow B 35 3 v' (n + m) (hvP (P1 ++ P2)) → Below B w w' → (v' = .slice none 0 0 → v = .slice none 0 0) → K (a.put o.dst v') w') : o.wp Tryz.prog a w K Q := by
  obtain ⟨i0, hi, hz0, hz1, hz2⟩ := info_parts infoTS
  refine wp_append_own w s x 29 ho B 35 i0 (.agg #[.string ⟨#[]⟩, .slice none 0 0, .slice none 0 0]) 3 64 Tryz.underlying29 hi hz0 hz1 hz2 rfl (by decide) v n (hvP P1) hs own ad m k (hvP P2) hx (by rw [hvP_length, hm]) hcells (fun u hu => hvP_one hu) (by unfold maxLen; omega) (by omega) hB ?_
  intro v' w' own' hg hnn
  refine h v' w' ?_ ((Below.refl B w).grown hg hB (fun q hq => (own.lt q hq).1)) (fun e => (hnn.1 e).1)
  rw [hvP_append]
  exact own'
theorem src_take {w w' : World} {base g n c : Nat} {P : List (TB × TAd)} (h : w.ownsRow base 35 3 (.slice (some ⟨g, 0, none⟩) n c) n (hvP P)) (hb : Below w.heap.size w w') (k : Nat) : ∀ j u, (hvP (P.take k))[j]? = some u → w'.cell? ((⟨g, 0, none⟩ : Addr).add j) = some u := by
  intro j u hu
  have h1 := hvP_take P k j u hu
  have hj : j < n * 3 := by have := (List.getElem?_eq_some_iff.1 h1).1; have := h.1; omega
  rw [addr_add, Nat.zero_add, hb.cell (p := ⟨g, j, none⟩) (h.lt g rfl).2, h.cellAt j hj]; exact h1
theorem src_drop {w w' : World} {base g n c : Nat} {P : List (TB × TAd)} (h : w.ownsRow base 35 3 (.slice (some ⟨g, 0, none⟩) n c) n (hvP P)) (hb : Below w.heap.size w w') (k : Nat) (hk : k ≤ P.length) : ∀ j u, (hvP (P.drop k))[j]? = some u → w'.cell? ((⟨g, k * 3, none⟩ : Addr).add j) = some u := by
  intro j u hu
  have h1 := hvP_drop P k j hk u hu
  have hj : k * 3 + j < n * 3 := by have := (List.getElem?_eq_some_iff.1 h1).1; have := h.1; omega
  rw [addr_add, hb.cell (p := ⟨g, _, none⟩) (h.lt g rfl).2, h.cellAt _ hj]; exact h1
/-- A list of tables that lies there, and a truth. -/
def PairAt (w : World) (V : List TB) (b : Bool) (e : Ending) (w' : World) : Prop := ∃ a n cap, V.length = n ∧ e = .returned (.tuple #[.slice a n cap, .bool b]) ∧ TabsAt w' a V ∧ Below w.heap.size w w'
theorem small_s {t : TB} (h : tableB t = true) : SmallS t := tableB_small h

end Go.Proofs.YteamdmcgkpeelalGreat

/-
  The contract of the model's Replaced.
-/
namespace Go.Proofs.YteamdmcgkpeelalGreat
open Go.ChangeShapes Go.WideShapes Go.ChangeAt Go.RowKit
attribute [local go_sem ↓] Go.wp_at_zero Go.wp_at_succ
attribute [local simp] World.cell?_alloc_past World.cell?_alloc_at World.frozen?_alloc_at cell_far cell_off cell_here World.frozen?_alloc_past

theorem replT_at {T : List TB} {t : TB} (hr : risesN (namesT T) = true) {k : Nat} (hk : k < T.length) (he : T[k].1 = t.1) : replT T t = T.set k t := by
  refine List.ext_getElem (by simp [replT]) fun i h1 h2 => ?_
  have hi : i < T.length := by simpa [replT] using h1
  have hg : (replT T t)[i] = if T[i].1 = t.1 then t else T[i] := by simp [replT]
  rw [hg, List.getElem_set]
  by_cases e : k = i
  · subst e
    rw [if_pos he, if_pos rfl]
  · rw [if_neg e, if_neg]
    intro e2
    have hp := List.pairwise_iff_getElem.1 ((rises_pair T).1 hr)
    rcases Nat.lt_or_gt_of_ne e with h | h
    · have := hp k i hk hi h
      unfold ltN at this
      rw [e2, he, bl_irr] at this
      cases this
    · have := hp i k hi hk h
      unfold ltN at this
      rw [e2, he, bl_irr] at this
      cases this
theorem set_tabs {w w5 W : World} {base n c k : Nat} {g : Nat} {T : List TB} {Q : Nat → TAd} {q : TAd} {t : TB} (hk : k < T.length) (hown : w.ownsRow base 35 3 (.slice (some ⟨g, 0, none⟩) n c) n (tabsV T Q n)) (hout : OutTs w base (some ⟨g, 0, none⟩) T Q) (hb : Below w.heap.size w w5) (hq : OutT w5 w.heap.size q t)
    (hW : W = ((w5.setCell ⟨g, k * 3, none⟩ (.string t.1)).setCell ⟨g, k * 3 + 1, none⟩ (.slice q.ca t.2.1.length q.cc)).setCell ⟨g, k * 3 + 2, none⟩ (.slice q.ra t.2.2.length q.cr)) : TabsAt W (some ⟨g, 0, none⟩) (T.set k t) := by
  have hgw : g < w.heap.size := (hown.lt g rfl).2
  have hgw5 : g < w5.heap.size := Nat.lt_of_lt_of_le hgw hb.size
  have K : KeepS (fun b => b = g) w5 W := by
    rw [hW]
    exact (((KeepS.refl (fun b => b = g) w5).setCell (p := ⟨g, k * 3, none⟩) rfl _).setCell (p := ⟨g, k * 3 + 1, none⟩) rfl _).setCell (p := ⟨g, k * 3 + 2, none⟩) rfl _
  have hgW : g < W.heap.size := Nat.lt_of_lt_of_le hgw5 K.size
  have there : ∀ i (hi : i < T.length), w5.cell? ⟨g, i * 3, none⟩ = some (.string T[i].1) ∧ w5.cell? ⟨g, i * 3 + 1, none⟩ = some (.slice (Q i).ca T[i].2.1.length (Q i).cc) ∧ w5.cell? ⟨g, i * 3 + 2, none⟩ = some (.slice (Q i).ra T[i].2.2.length (Q i).cr) := by
    intro i hi
    obtain ⟨g', o', e, _, c0, c1, c2, _⟩ := hout.heads i hi hi
    cases e
    rw [Nat.zero_add] at c0 c1 c2
    exact ⟨by rw [hb.cell (p := ⟨g, _, none⟩) hgw]; exact c0, by rw [hb.cell (p := ⟨g, _, none⟩) hgw]; exact c1, by rw [hb.cell (p := ⟨g, _, none⟩) hgw]; exact c2⟩
  obtain ⟨e0, e1, e2⟩ := there k hk
  have off : ∀ p, p ≠ k * 3 → p ≠ k * 3 + 1 → p ≠ k * 3 + 2 → W.cell? ⟨g, p, none⟩ = w5.cell? ⟨g, p, none⟩ := by
    intro p h0 h1 h2
    rw [hW, cell_off _ _ _ _ _ h2, cell_off _ _ _ _ _ h1, cell_off _ _ _ _ _ h0]
  have a0 : W.cell? ⟨g, k * 3, none⟩ = some (.string t.1) := by
    rw [hW, cell_off _ _ _ _ _ (by omega), cell_off _ _ _ _ _ (by omega), cell_here _ _ _ _ (by rw [e0]; rfl)]
  have a1 : W.cell? ⟨g, k * 3 + 1, none⟩ = some (.slice q.ca t.2.1.length q.cc) := by
    rw [hW, cell_off _ _ _ _ _ (by omega), cell_here _ _ _ _ (by rw [cell_off _ _ _ _ _ (by omega), e1]; rfl)]
  have a2 : W.cell? ⟨g, k * 3 + 2, none⟩ = some (.slice q.ra t.2.2.length q.cr) := by
    rw [hW, cell_here _ _ _ _ (by rw [cell_off _ _ _ _ _ (by omega), cell_off _ _ _ _ _ (by omega), e2]; rfl)]
  intro i hi
  have hi' : i < T.length := by simpa using hi
  by_cases e : k = i
  · subst e
    rw [List.getElem_set, if_pos rfl]
    refine ⟨g, 0, q.ca, q.cc, q.ra, q.cr, rfl, hgW, by rw [Nat.zero_add]; exact a0, by rw [Nat.zero_add]; exact a1, by rw [Nat.zero_add]; exact a2, ?_⟩
    exact (OutTab.keepS hq K (fun b hb' e => by have := hq.lo b hb'; omega)).tab
  · rw [List.getElem_set, if_neg e]
    obtain ⟨d0, d1, d2⟩ := there i hi'
    refine ⟨g, 0, (Q i).ca, (Q i).cc, (Q i).ra, (Q i).cr, rfl, hgW, ?_, ?_, ?_, ?_⟩
    · rw [Nat.zero_add, off _ (by omega) (by omega) (by omega)]; exact d0
    · rw [Nat.zero_add, off _ (by omega) (by omega) (by omega)]; exact d1
    · rw [Nat.zero_add, off _ (by omega) (by omega) (by omega)]; exact d2
    · exact (OutTab.keepS ((hout.tabs i hi' hi').below hb) K (fun b hb' e => hout.head i hi' g 0 hi' rfl (by rw [← e]; exact hb'))).tab

set_option maxRecDepth 100000 in
set_option maxHeartbeats 4000000 in
theorem replaced_spec (a : Option Addr) (cap : Nat) (T : List TB) (n : Nat) (hn : T.length = n) (ca : Option Addr) (cc : Nat) (ra : Option Addr) (cr : Nat) (t : TB) (nc nr : Nat) (hnc : t.2.1.length = nc) (hnr : t.2.2.length = nr) (w : World) (hrow : TabsAt w a T) (ht : TabAt w ca cc ra t) (hm : n ≤ 1048576) (V : List TB) (r : Bool) (hV : replacedR T t = (V, r)) :
    Calls Tryz.prog 6 #[.slice a n cap, .agg #[.string t.1, .slice ca nc cc, .slice ra nr cr]] w (PairAt w V r) := by
  obtain ⟨b, hb⟩ : ∃ b, baseB T = b := ⟨_, rfl⟩
  obtain ⟨nm, hnm⟩ : ∃ s, t.1 = s := ⟨_, rfl⟩
  have HNM : Hid (t.1 = nm) := hnm
  have HT : Hid (TabAt w ca cc ra t) := ht
  have HNC : Hid (t.2.1.length = nc) := hnc
  have HNR : Hid (t.2.2.length = nr) := hnr
  have HR : Hid (TabsAt w a T) := hrow
  have HN : Hid (T.length = n) := hn
  have HB : Hid (baseB T = b) := hb
  have hmL : n ≤ maxLen := by unfold maxLen; omega
  have hA : Below w.heap.size w (w.alloc (.cells #[.string nm, .slice ca nc cc, .slice ra nr cr] 35)) := (Below.refl _ _).alloc (Nat.le_refl _) _
  unfold replacedR at hV
  rw [hb] at hV
  rw [hnm]
  clear hrow hn ht hnc hnr hnm
  cases b
  · rw [if_neg (by simp)] at hV
    obtain ⟨rfl, rfl⟩ : [] = V ∧ false = r := by simpa using hV
    clear hV hb
    go_enter Tryz.func6, Tryz.ntmps6
    go_wp2_with fail
    refine (base_spec a cap T n HN.out _ (HR.out.below hA) hmL false HB.out).mono ?_
    rintro e w1 ⟨rfl, hb1⟩
    have hx1 := chain hA hb1
    have FIN : Hid (PairAt w [] false (.returned (.tuple #[.slice (some ⟨w1.heap.size, 0, none⟩) 0 0, .bool false])) (w1.alloc (.cells #[] 35))) := ⟨_, 0, 0, rfl, rfl, fun i hi => by simp at hi, hx1.alloc hx1.size _⟩
    go_wp2
    exact bodyPost_ret (v := .tuple #[.slice (some ⟨w1.heap.size, 0, none⟩) 0 0, .bool false]) (by simp [results, Tryz.results6, go_sem]) rfl FIN.out
  rw [if_pos rfl] at hV
  obtain ⟨p1, p2, p3⟩ := baseB_parts hb
  have HSM : Hid (∀ t, t ∈ T → SmallS t) := by
    have : ∀ t, t ∈ T → SmallS t := fun t ht => small_s (p1 t ht)
    exact this
  have HRI : Hid (risesN (namesT T) = true) := p2
  have hn5 : n ≤ 5 := by rw [← HN.out]; exact p3
  obtain ⟨c, hc⟩ : ∃ c, tableB t = c := ⟨_, rfl⟩
  have HC : Hid (tableB t = c) := hc
  have HV : Hid ((if t.1 ∈ namesT T ∧ c = true then (replT T t, true) else (T, false)) = (V, r)) := by rw [hc] at hV; exact hV
  clear hV hb p1 p2 p3 hc
  go_enter Tryz.func6, Tryz.ntmps6
  go_wp2_with fail
  refine (base_spec a cap T n HN.out _ (HR.out.below hA) hmL true HB.out).mono ?_
  rintro e w1 ⟨rfl, hb1⟩
  have q1 := box3 hb1
  have hx1 := chain hA hb1
  obtain ⟨q0, q01, q02, q03⟩ := q1
  clear hb1
  go_wp2_with fail
  refine (find_spec a cap T n HN.out nm _ (HR.out.below hx1) hmL).mono ?_
  rintro e w2 ⟨z, rfl, hz, hb2⟩
  have hx2 := chain hx1 hb2
  obtain ⟨q0, q01, q02, q03⟩ := later3 hb2 ⟨q0, q01, q02, q03⟩
  clear hb2 hx1
  rcases hz with ⟨rfl, hno⟩ | ⟨k, hk, rfl, hke, _⟩
  · have hVT : T = V ∧ r = false := by
      have e := HV.out
      rw [if_neg (by rw [HNM.out]; exact fun h => hno h.1)] at e
      simpa [eq_comm] using e
    obtain ⟨rfl, rfl⟩ := hVT
    clear hno HV
    go_wp2_with fail
    refine (l6copy_spec a cap T n HN.out _ (HR.out.below hx2) hm HSM.out).mono ?_
    rintro e w3 ⟨g, c3, Q, rfl, _, hout, hb3, _⟩
    have FIN : Hid (PairAt w T false (.returned (.tuple #[.slice (some ⟨g, 0, none⟩) n c3, .bool false])) w3) := ⟨_, n, c3, HN.out, rfl, hout.lies, chain hx2 hb3⟩
    obtain ⟨q0, q01, q02, q03⟩ := later3 hb3 ⟨q0, q01, q02, q03⟩
    clear hout hb3
    go_wp2
    exact bodyPost_ret (v := .tuple #[.slice (some ⟨g, 0, none⟩) n c3, .bool false]) (by simp [results, Tryz.results6, go_sem]) rfl FIN.out
  rw [namesT_length] at hk
  rw [namesT_at T k hk] at hke
  have hkn : k < n := by rw [← HN.out]; exact hk
  have HKE : Hid (∃ hk : k < T.length, T[k].1 = nm) := ⟨hk, hke⟩
  have hk0 : ¬ (k : Int) < 0 := by omega
  clear hk hke
  go_wp2_with fail
  refine (l6copy_spec a cap T n HN.out _ (HR.out.below hx2) hm HSM.out).mono ?_
  rintro e w3 ⟨g, c3, Q, rfl, hown, hout, hb3, hc3⟩
  have hx3 := chain hx2 hb3
  have hxw2 : Hid (w.heap.size ≤ w2.heap.size) := hx2.size
  obtain ⟨q0, q01, q02, q03⟩ := later3 hb3 ⟨q0, q01, q02, q03⟩
  have HOWN : Hid (w3.ownsRow w2.heap.size 35 3 (.slice (some ⟨g, 0, none⟩) n c3) n (tabsV T Q n)) := hown
  have HOUT : Hid (OutTs w3 w2.heap.size (some ⟨g, 0, none⟩) T Q) := hout
  clear hown hout hb3 hx2
  go_wp2_with fail
  rw [← HNM.out]
  refine (table_spec ca cc ra cr t nc nr HNC.out HNR.out _ (HT.out.below hx3) c HC.out).mono ?_
  rintro e w4 ⟨rfl, hb4⟩
  rw [HNM.out]
  have hx4 := chain hx3 hb4
  have HB4 : Hid (Below w3.heap.size w3 w4) := hb4
  obtain ⟨q0, q01, q02, q03⟩ := later3 hb4 ⟨q0, q01, q02, q03⟩
  clear hx3 hb4
  cases c
  · have hVT : T = V ∧ r = false := by
      have e := HV.out
      rw [if_neg (by simp)] at e
      simpa [eq_comm] using e
    obtain ⟨rfl, rfl⟩ := hVT
    have FIN : Hid (PairAt w T false (.returned (.tuple #[.slice (some ⟨g, 0, none⟩) n c3, .bool false])) w4) := ⟨_, n, c3, HN.out, rfl, (HOUT.out.below HB4.out).lies, hx4⟩
    clear HV
    go_wp2
    exact bodyPost_ret (v := .tuple #[.slice (some ⟨g, 0, none⟩) n c3, .bool false]) (by simp [results, Tryz.results6, go_sem]) rfl FIN.out
  have hVT : V = T.set k t ∧ r = true := by
    have e := HV.out
    obtain ⟨hk, hke⟩ := HKE.out
    rw [if_pos ⟨by rw [HNM.out, ← hke]; exact List.mem_map_of_mem (List.getElem_mem hk), rfl⟩, replT_at HRI.out hk (by rw [hke, HNM.out])] at e
    simpa [eq_comm] using e
  obtain ⟨hVT, rfl⟩ := hVT
  have HVT : Hid (V = T.set k t) := hVT
  have hss := small_s HC.out
  have HSS : Hid (SmallS t) := hss
  have hncS : nc ≤ 1048576 := by rw [← HNC.out]; exact hss.1
  have hnrS : nr ≤ 1048576 := by rw [← HNR.out]; exact hss.2.1
  clear hVT HV hss
  go_wp2_with fail
  rw [← HNM.out]
  refine (copy_spec ca cc ra cr t nc nr HNC.out HNR.out _ (HT.out.below hx4) hncS hnrS HSS.out.2.2).mono ?_
  rintro e w5 ⟨g1, c1', g2, c2', G, D, rfl, _, hc1, hown5, hrows5, hb5⟩
  rw [HNM.out]
  have hx5 := chain hx4 hb5
  have h35 : Below w3.heap.size w3 w5 := chain HB4.out hb5
  have hq : OutT w5 w3.heap.size ⟨some ⟨g1, 0, none⟩, c1', some ⟨g2, 0, none⟩, c2', fun i => some ⟨G i, 0, none⟩, D⟩ t := by
    have ht := HT.out
    refine OutT.lower (base := w4.heap.size) (out_of_own (by decide) (by decide) hown5 (by rw [HNR.out]; exact hrows5) (by rw [HNC.out]; exact hc1) ht.fit ht.name ht.len ht.lenR (fun i hi => ?_) (fun i hi => ?_)) HB4.out.size
    · obtain ⟨_, _, _, _, _, _, _, _, h, _⟩ := ht.rows i hi; exact h
    · obtain ⟨_, _, _, _, _, _, _, _, _, h, _⟩ := ht.rows i hi; exact h
  obtain ⟨hkT, _⟩ := HKE.out
  have hset := set_tabs (k := k) hkT HOWN.out HOUT.out h35 hq rfl
  dsimp only at hset
  rw [HNM.out, HNC.out, HNR.out] at hset
  have FIN : Hid (PairAt w V true (.returned (.tuple #[.slice (some ⟨g, 0, none⟩) n c3, .bool true])) (((w5.setCell ⟨g, k * 3, none⟩ (.string nm)).setCell ⟨g, k * 3 + 1, none⟩ (.slice (some ⟨g1, 0, none⟩) nc c1')).setCell ⟨g, k * 3 + 2, none⟩ (.slice (some ⟨g2, 0, none⟩) nr c2'))) := by
    have hlo : w.heap.size ≤ g := Nat.le_trans hxw2.out (HOWN.out.lt g rfl).1
    refine ⟨_, n, c3, by rw [HVT.out, List.length_set]; exact HN.out, rfl, by rw [HVT.out]; exact hset, ((hx5.setCell hlo _).setCell hlo _).setCell hlo _⟩
  have hg5 : g < w3.heap.size := (HOWN.out.lt g rfl).2
  obtain ⟨g', o', e, _, d0, d1, d2, _⟩ := HOUT.out.heads k hkT hkT
  cases e
  rw [Nat.zero_add] at d0 d1 d2
  rw [← h35.cell (p := ⟨g, _, none⟩) hg5] at d0 d1 d2
  have f0 : w5.frozen? ⟨g, k * 3, none⟩ = false := by rw [h35.frozen (p := ⟨g, _, none⟩) hg5]; exact HOWN.out.frozenAt _
  have f1 : w5.frozen? ⟨g, k * 3 + 1, none⟩ = false := by rw [h35.frozen (p := ⟨g, _, none⟩) hg5]; exact HOWN.out.frozenAt _
  have f2 : w5.frozen? ⟨g, k * 3 + 2, none⟩ = false := by rw [h35.frozen (p := ⟨g, _, none⟩) hg5]; exact HOWN.out.frozenAt _
  generalize T[k].1 = s0 at d0
  generalize T[k].2.1.length = n0 at d1
  generalize T[k].2.2.length = n1 at d2
  have hi0 : (0 : Int) ≤ (k : Int) := by omega
  have hi1 : (k : Int) < (n : Int) := by omega
  clear hset hq hown5 hrows5 hb5 h35
  go_wp2
  exact bodyPost_ret (v := .tuple #[.slice (some ⟨g, 0, none⟩) n c3, .bool true]) (by simp [results, Tryz.results6, go_sem]) rfl FIN.out
end Go.Proofs.YteamdmcgkpeelalGreat
