/-
  A part of the proof: ShI6, ShortI.
-/
import Derived.Test.YtpggjgilklpncaaGreatPart18
import Derived.Test.YtpggjgilklpncaaGreatPart19
import Derived.Deep.RegionHeld3

/-
  The contracts of the program's Made, Dropped and Replaced.
-/
namespace Go.Proofs.YtpggjgilklpncaaGreat
open Go.ChangeShapes Go.WideShapes Go.ChangeAt Go.RowKit Go.Maps
attribute [local go_sem ↓] Go.wp_at_zero Go.wp_at_succ
attribute [local simp] World.cell?_alloc_past World.cell?_alloc_at World.frozen?_alloc_at cell_far cell_off cell_here World.frozen?_alloc_past

/-- A list of tables in memory of its own, and a truth. -/
def PairOut (w : World) (V : List TB) (b : Bool) (e : Ending) (w' : World) : Prop := ∃ a n cap Q, V.length = n ∧ e = .returned (.tuple #[.slice a n cap, .bool b]) ∧ OutTs w' w.heap.size a V Q ∧ Below w.heap.size w w' ∧ n ≤ cap
theorem OutU.lower {w : World} {base base' : Nat} {a : Option Addr} {T : List TB} {Q : Nat → TAd} {m : Nat} (h : OutU w base a T Q m) (hb : base' ≤ base) : OutU w base' a T Q m :=
  ⟨h.heads, fun i hi hm => (h.tabs i hi hm).lower hb, h.apart, h.head, fun g o h0 e => Nat.le_trans hb (h.lo g o h0 e)⟩

set_option maxRecDepth 100000 in
set_option maxHeartbeats 4000000 in
theorem replaced_impl (a : Option Addr) (cap : Nat) (T : List TB) (n : Nat) (hn : T.length = n) (ca : Option Addr) (cc : Nat) (ra : Option Addr) (cr : Nat) (t : TB) (nc nr : Nat) (hnc : t.2.1.length = nc) (hnr : t.2.2.length = nr) (w : World) (hrow : TabsAt w a T) (ht : TabAt w ca cc ra t) (hm : n ≤ 1048576) (V : List TB) (r : Bool) (hV : replacedR T t = (V, r)) :
    Calls Tryz.prog 17 #[.slice a n cap, .agg #[.string t.1, .slice ca nc cc, .slice ra nr cr]] w (PairOut w V r) := by
  obtain ⟨b, hb⟩ : ∃ b, baseB T = b := ⟨_, rfl⟩
  obtain ⟨U, hU⟩ : ∃ U, (if b then T else []) = U := ⟨_, rfl⟩
  obtain ⟨nm, hnm⟩ : ∃ s, t.1 = s := ⟨_, rfl⟩
  have hnmL : nm.size ≤ maxLen := by rw [← hnm]; exact ht.name
  have hA : Below w.heap.size w (w.alloc (.cells #[.string nm, .slice ca nc cc, .slice ra nr cr] 40)) := (Below.refl _ _).alloc (Nat.le_refl _) _
  have hsA : (w.alloc (.cells #[.string nm, .slice ca nc cc, .slice ra nr cr] 40)).heap.size = w.heap.size + 1 := by simp
  have E : Hid (Calls Tryz.prog 33 #[.slice a n cap] (w.alloc (.cells #[.string nm, .slice ca nc cc, .slice ra nr cr] 40)) fun e w' => e = .returned (.tuple #[.map (some (w.heap.size + 1)), .bool b]) ∧ ShelfT (w.alloc (.cells #[.string nm, .slice ca nc cc, .slice ra nr cr] 40)) w' (w.heap.size + 1) n U ∧ Below (w.heap.size + 1) (w.alloc (.cells #[.string nm, .slice ca nc cc, .slice ra nr cr] 40)) w') := by
    have := shelf_impl a cap T n hn _ (hrow.below hA) hm b hb
    rw [hU, hsA] at this
    exact this
  obtain ⟨h, hh⟩ : ∃ h, decide (nm ∈ namesT U) = h := ⟨_, rfl⟩
  obtain ⟨c, hc⟩ : ∃ c, tableB t = c := ⟨_, rfl⟩
  have hUV : (V, r) = (if h && c then (replT U t, true) else (U, false)) ∧ risesN (namesT U) = true ∧ (∀ t, t ∈ U → Small t) ∧ U.length ≤ 5 := by
    unfold replacedR at hV
    rw [hb] at hV
    cases b
    · simp at hU
      subst hU
      have : h = false := by rw [← hh]; simp [namesT]
      subst this
      rw [if_neg (by simp)] at hV
      exact ⟨by rw [← hV]; rfl, rfl, fun t ht => (by cases ht), Nat.zero_le _⟩
    · simp at hU
      subst hU
      obtain ⟨p1, p2, p3⟩ := baseB_parts hb
      rw [if_pos rfl, hnm, hc] at hV
      refine ⟨?_, p2, fun t ht => tableB_small (p1 t ht), p3⟩
      rw [← hV, ← hh]
      cases c <;> by_cases hx : nm ∈ namesT T <;> simp [hx]
  obtain ⟨eV, hri, hsm, h5⟩ := hUV
  have HC : Hid (tableB t = c) := hc
  have HT : Hid (TabAt w ca cc ra t) := ht
  have HNM : Hid (t.1 = nm) := hnm
  have HNC : Hid (t.2.1.length = nc) := hnc
  have HNR : Hid (t.2.2.length = nr) := hnr
  have HRI : Hid (risesN (namesT U) = true) := hri
  have HSM : Hid (∀ t, t ∈ U → Small t) := hsm
  have HHH : Hid (decide (nm ∈ namesT U) = h) := hh
  clear hrow hn hb hU hV hri hsm ht hnc hnr hc hh
  rw [hnm]
  clear hnm
  -- what both ways come to
  have TAIL : Hid (∀ (w1 : World) (m : Nat) (U' : List TB), ShelfT (w.alloc (.cells #[.string nm, .slice ca nc cc, .slice ra nr cr] 40)) w1 (w.heap.size + 1) m U' → Below w.heap.size w w1 → Below (w.heap.size + 1) (w.alloc (.cells #[.string nm, .slice ca nc cc, .slice ra nr cr] 40)) w1 → risesN (namesT U') = true → U'.length ≤ 5 → (∀ t, t ∈ U' → Small t) → Calls Tryz.prog 35 #[.map (some (w.heap.size + 1))] w1 fun e w2 => ∃ a4 k cap4 Q, U'.length = k ∧ e = .returned (.slice a4 k cap4) ∧ OutTs w2 w.heap.size a4 U' Q ∧ Below w.heap.size w w2 ∧ k ≤ cap4) := by
    have : ∀ (w1 : World) (m : Nat) (U' : List TB), ShelfT (w.alloc (.cells #[.string nm, .slice ca nc cc, .slice ra nr cr] 40)) w1 (w.heap.size + 1) m U' → Below w.heap.size w w1 → Below (w.heap.size + 1) (w.alloc (.cells #[.string nm, .slice ca nc cc, .slice ra nr cr] 40)) w1 → risesN (namesT U') = true → U'.length ≤ 5 → (∀ t, t ∈ U' → Small t) → Calls Tryz.prog 35 #[.map (some (w.heap.size + 1))] w1 fun e w2 => ∃ a4 k cap4 Q, U'.length = k ∧ e = .returned (.slice a4 k cap4) ∧ OutTs w2 w.heap.size a4 U' Q ∧ Below w.heap.size w w2 ∧ k ≤ cap4 := by
      intro w1 m U' hS hx hx2 hri hl hsm
      refine (listed_impl (w.alloc (.cells #[.string nm, .slice ca nc cc, .slice ra nr cr] 40)) (w.heap.size + 1) m U' U' (List.Perm.refl _) hri _ rfl (by omega) hsm w1 hS (by rw [hsA]; exact hx2)).mono ?_
      rintro e w4 ⟨a4, cap4, Q, rfl, hO, hb4, hcap⟩
      exact ⟨a4, _, cap4, Q, rfl, rfl, hO.lower hx.size, chain hx hb4, hcap⟩
    exact this
  go_enter Tryz.func17, Tryz.ntmps17
  go_wp2_with fail
  refine E.out.mono ?_
  rintro e w1 ⟨rfl, hS1, hb1⟩
  obtain ⟨p0, p1, p2, p3⟩ := box3 (w := w) (w1 := w1) (T := 40) (a := .string nm) (b := .slice ca nc cc) (c := .slice ra nr cr) (by rw [hsA]; exact hb1)
  have hx1 : Below w.heap.size w w1 := hA.trans (hb1.mono (by omega))
  go_wp2_with fail
  refine (has_impl _ (w.heap.size + 1) n U _ hS1 nm hnmL h HHH.out).mono ?_
  rintro e w2 ⟨rfl, hb2⟩
  have hS2 := hS1.below hb2
  have hx2 := chain hx1 hb2
  have hy2 : Below (w.heap.size + 1) (w.alloc (.cells #[.string nm, .slice ca nc cc, .slice ra nr cr] 40)) w2 := hb1.trans (hb2.mono (by omega))
  obtain ⟨p0, p1, p2, p3⟩ := later3 hb2 ⟨p0, p1, p2, p3⟩
  clear hS1 hb1 hb2 hx1
  cases h
  · rw [Bool.false_and, if_neg (by simp)] at eV
    obtain ⟨rfl, rfl⟩ : V = U ∧ r = false := by simpa using eV
    go_wp2_with fail
    refine (TAIL.out _ n V hS2 hx2 hy2 HRI.out h5 HSM.out).mono ?_
    rintro e w4 ⟨a4, k, cap4, Q, hk, rfl, hO, hb4, hcap⟩
    have FIN : Hid (PairOut w V false (.returned (.tuple #[.slice a4 k cap4, .bool false])) w4) := ⟨a4, k, cap4, Q, hk, rfl, hO, hb4, hcap⟩
    clear hO hb4 hS2 hk
    go_wp2
    exact bodyPost_ret (v := .tuple #[.slice a4 k cap4, .bool false]) (by simp [results, Tryz.results17, go_sem]) rfl FIN.out
  rw [Bool.true_and] at eV
  go_wp2_with fail
  rw [← HNM.out]
  refine (table_impl ca cc ra cr t nc nr HNC.out HNR.out _ (HT.out.below hx2) c HC.out).mono ?_
  rintro e w3 ⟨rfl, hb3⟩
  rw [HNM.out]
  have hS3 := hS2.below hb3
  have hx3 := chain hx2 hb3
  have hy3 : Below (w.heap.size + 1) (w.alloc (.cells #[.string nm, .slice ca nc cc, .slice ra nr cr] 40)) w3 := hy2.trans (hb3.mono (by omega))
  obtain ⟨p0, p1, p2, p3⟩ := later3 hb3 ⟨p0, p1, p2, p3⟩
  clear hS2 hb3 hx2 hy2
  cases c
  · rw [if_neg (by simp)] at eV
    obtain ⟨rfl, rfl⟩ : V = U ∧ r = false := by simpa using eV
    go_wp2_with fail
    refine (TAIL.out _ n V hS3 hx3 hy3 HRI.out h5 HSM.out).mono ?_
    rintro e w4 ⟨a4, k, cap4, Q, hk, rfl, hO, hb4, hcap⟩
    have FIN : Hid (PairOut w V false (.returned (.tuple #[.slice a4 k cap4, .bool false])) w4) := ⟨a4, k, cap4, Q, hk, rfl, hO, hb4, hcap⟩
    clear hO hb4 hS3 hk
    go_wp2
    exact bodyPost_ret (v := .tuple #[.slice a4 k cap4, .bool false]) (by simp [results, Tryz.results17, go_sem]) rfl FIN.out
  rw [if_pos rfl] at eV
  obtain ⟨eV1, rfl⟩ : V = replT U t ∧ r = true := by simpa using eV
  have hmem : t.1 ∈ namesT U := by rw [HNM.out]; exact of_decide_eq_true HHH.out
  obtain ⟨_, f, ⟨D, hown, hSay⟩, hH⟩ := hS3
  have HD : Hid (∀ w', w'.ownsMap Tryz.prog 9 tokR (w.heap.size + 1) (n + 1) (D.put (keyL nm) (.held (.agg #[.string nm, .slice ca nc cc, .slice ra nr cr]))) → ShelfT (w.alloc (.cells #[.string nm, .slice ca nc cc, .slice ra nr cr] 40)) w' (w.heap.size + 1) (n + 1) (replT U t)) := by
    have : ∀ w', w'.ownsMap Tryz.prog 9 tokR (w.heap.size + 1) (n + 1) (D.put (keyL nm) (.held (.agg #[.string nm, .slice ca nc cc, .slice ra nr cr]))) → ShelfT (w.alloc (.cells #[.string nm, .slice ca nc cc, .slice ra nr cr] 40)) w' (w.heap.size + 1) (n + 1) (replT U t) := fun w' h =>
      ShelfT.swapped (ca := ca) (cc := cc) (ra := ra) (cr := cr) hown hSay hH hmem (HT.out.below hA) (by rw [HNM.out, HNC.out, HNR.out]; exact h)
    exact this
  have HOWN : Hid (w3.ownsMap Tryz.prog 9 tokR (w.heap.size + 1) n D) := hown
  clear hSay hH hown hmem
  go_wp2_with (at_mapUpdate; refine wpList_mapUpdate_in _ rfl _ _ _ 56 rfl 9 40 str_keyed Tryz.underlying56 tokR (w.heap.size + 1) n D rfl HOWN.out (by unfold maxLen; omega) _ _ _ rfl rfl (keyOf_txt nm hnmL) _ [] rfl ?_)
  intro w4 hown4 hturn4
  have hS4 := HD.out w4 hown4
  have hx4 : Below w.heap.size w w4 := below_turned hx3 hturn4 (by omega)
  have hy4 : Below (w.heap.size + 1) (w.alloc (.cells #[.string nm, .slice ca nc cc, .slice ra nr cr] 40)) w4 := below_turned hy3 hturn4 (Nat.le_refl _)
  clear hown4 hturn4 HD HOWN hx3 hy3 p0 p1 p2 p3
  go_wp2_with fail
  refine (TAIL.out _ (n + 1) (replT U t) hS4 hx4 hy4 (by rw [replT_names]; exact HRI.out) (by rw [replT_length]; exact h5) (fun u hu => by
    unfold replT at hu
    obtain ⟨x, hx, e⟩ := List.mem_map.1 hu
    split at e
    · subst e; exact tableB_small HC.out
    · subst e; exact HSM.out x hx)).mono ?_
  rintro e w5 ⟨a4, k, cap4, Q, hk, rfl, hO, hb4, hcap⟩
  have FIN : Hid (PairOut w V true (.returned (.tuple #[.slice a4 k cap4, .bool true])) w5) := ⟨a4, k, cap4, Q, by rw [eV1]; exact hk, rfl, by rw [eV1]; exact hO, hb4, hcap⟩
  clear hO hb4 hS4 hk
  go_wp2
  exact bodyPost_ret (v := .tuple #[.slice a4 k cap4, .bool true]) (by simp [results, Tryz.results17, go_sem]) rfl FIN.out

end Go.Proofs.YtpggjgilklpncaaGreat

/-
  The program's Shortened.
-/
namespace Go.Proofs.YtpggjgilklpncaaGreat
open Go.ChangeShapes Go.WideShapes Go.ChangeAt Go.RowKit
attribute [local go_sem ↓] Go.wp_at_zero Go.wp_at_succ
attribute [local simp] World.cell?_alloc_past World.cell?_alloc_at World.frozen?_alloc_at cell_far cell_off cell_here World.frozen?_alloc_past

def ShortOut (w : World) (V : List TB) (e : Ending) (w' : World) : Prop := ∃ a n cap Q, V.length = n ∧ e = .returned (.slice a n cap) ∧ OutTs w' w.heap.size a V Q ∧ Below w.heap.size w w' ∧ n ≤ cap
set_option maxRecDepth 100000 in
set_option maxHeartbeats 4000000 in
theorem short_impl (a : Option Addr) (cap : Nat) (T : List TB) (n : Nat) (hn : T.length = n) (s : ByteArray) (m : Int) (w : World) (hrow : TabsAt w a T) (hm : n ≤ 1048576) (hsm : ∀ t, t ∈ T → Small t) (hsz : s.size ≤ maxLen) :
    Calls Tryz.prog 7 #[.slice a n cap, .string s, .int .i64 m] w (ShortOut w (shortR T s m)) := by
  have HR : Hid (TabsAt w a T) := hrow
  have HN : Hid (T.length = n) := hn
  have HSM : Hid (∀ t, t ∈ T → Small t) := hsm
  clear hrow hn hsm
  by_cases hm0 : m < 0
  · obtain ⟨V, hV⟩ : ∃ V, shortR T s m = V := ⟨_, rfl⟩
    obtain rfl : [] = V := by rw [← hV]; unfold shortR; rw [if_neg (by rintro ⟨_, h⟩; omega)]
    rw [hV]
    clear hV
    go_enter Tryz.func7, Tryz.ntmps7
    have FIN : Hid (ShortOut w [] (.returned (.slice (some ⟨w.heap.size, 0, none⟩) 0 0)) (w.alloc (.cells #[] 40))) := ⟨_, 0, 0, fun _ => ⟨none, 0, none, 0, fun _ => none, fun _ => 0⟩, rfl, rfl, ⟨fun i hi => by simp at hi, fun i hi => by simp at hi, fun i j hi => by simp at hi, fun i hi => by simp at hi, fun g o h => by simp at h⟩, (Below.refl _ _).alloc (Nat.le_refl _) _, Nat.le_refl _⟩
    go_wp2
    go_ret
    exact FIN.out
  have hm1 : 0 ≤ m := by omega
  obtain ⟨u, b, hu⟩ := inR_some T s
  have HU : Hid (InR T s u b) := hu
  obtain ⟨r, hr⟩ := short_repl hm1 hu
  obtain ⟨V, hV⟩ : ∃ V, shortR T s m = V := ⟨_, rfl⟩
  rw [hV] at hr ⊢
  have HRP : Hid (replacedR T (cutT m.toNat u) = (V, r)) := hr
  clear hu hr hV
  go_enter Tryz.func7, Tryz.ntmps7
  go_wp2_with fail
  refine (tableinC_impl a cap T n HN.out _ HR.out hm HSM.out s hsz u b HU.out).mono ?_
  rintro e w1 ⟨nc, nr, ca, cc, ra, cr, A, C, rfl, hnc, hnr, hO, hx, hcr, hra⟩
  have HNC : Hid (u.2.1.length = nc) := hnc
  have HNR : Hid (u.2.2.length = nr) := hnr
  have HO : Hid (TabAt w1 ca cc ra u) := hO.tab
  obtain ⟨nm, hnm⟩ : ∃ z, u.1 = z := ⟨_, rfl⟩
  have HNM : Hid (u.1 = nm) := hnm
  have hnrM : nr ≤ maxLen := by rw [← hnr]; exact hO.tab.lenR
  unfold maxLen at hnrM
  rw [hnm]
  obtain ⟨mm, hmm⟩ : ∃ z : Nat, min m (nr : Int) = (z : Int) := ⟨(min m (nr : Int)).toNat, by omega⟩
  have hmr : mm ≤ nr := by omega
  have hmc : (mm : Int) ≤ (cr : Int) := by omega
  have HCT : Hid (cutT m.toNat u = cutT mm u) := by
    have h : cutT m.toNat u = cutT mm u := by
      by_cases e : m ≤ (nr : Int)
      · rw [show m.toNat = mm by omega]
      · rw [cut_all (by rw [hnr]; omega), cut_all (by rw [hnr]; omega)]
    exact h
  have CR : Hid (∀ w', Below w1.heap.size w1 w' → Calls Tryz.prog 17 #[.slice a n cap, .agg #[.string nm, .slice ca nc cc, .slice ra mm cr]] w' (PairOut w' V r)) := by
    have h : ∀ w', Below w1.heap.size w1 w' → Calls Tryz.prog 17 #[.slice a n cap, .agg #[.string nm, .slice ca nc cc, .slice ra mm cr]] w' (PairOut w' V r) := by
      intro w' hb
      have h := replaced_impl a cap T n HN.out ca cc ra cr (cutT mm u) nc mm hnc (by show (u.2.2.take mm).length = mm; rw [List.length_take, hnr]; omega) w' (HR.out.below (chain hx hb)) ((HO.out.below hb).cut mm) hm V r (by rw [← HCT.out]; exact HRP.out)
      rw [show (cutT mm u).1 = nm from hnm] at h
      exact h
    exact h
  clear hnc hnr hO hnm HRP
  go_wp2_with fail
  have hA : Below w1.heap.size w1 (w1.alloc (.cells #[.string nm, .slice ca nc cc, .slice ra mm cr] 40)) := (Below.refl _ _).alloc (Nat.le_refl _) _
  refine (CR.out _ hA).mono ?_
  rintro e w2 ⟨a2, n2, c2, Q, hk, rfl, hO2, hb2, hc2⟩
  have FIN : Hid (ShortOut w V (.returned (.slice a2 n2 c2)) w2) := ⟨a2, n2, c2, Q, hk, rfl, OutU.lower hO2 (by have := hx.size; simp; omega), chain hx (chain hA hb2), hc2⟩
  clear hO2 hb2 hk hA
  go_wp2
  go_ret
  exact FIN.out
end Go.Proofs.YtpggjgilklpncaaGreat
