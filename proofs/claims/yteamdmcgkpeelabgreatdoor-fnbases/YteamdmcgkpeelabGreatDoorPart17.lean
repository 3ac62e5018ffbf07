/-
  A part of the proof: DrB2, Like, Ints1, TabLike, BaseLike, BaseFacts.
-/
import Derived.Test.YteamdmcgkpeelabGreatDoorPart16
import Derived.Test.YteamdmcgkpeelabGreatDoorPart3
import Derived.Test.YteamdmcgkpeelabGreatDoorPart5
import Derived.Test.YteamdmcgkpeelabGreatDoorPart4
import Derived.Test.YteamdmcgkpeelabGreatDoorPart10

/-
  The contracts of the model's draws for the functions on bases.
-/
namespace Go.Proofs.YteamdmcgkpeelabGreatDoor
open Go.ChangeShapes Go.WideShapes Go.ChangeAt Go.RowKit
attribute [local go_sem ↓] Go.wp_at_zero Go.wp_at_succ
attribute [local simp] World.cell?_alloc_past World.cell?_alloc_at World.frozen?_alloc_at cell_far cell_off cell_here World.frozen?_alloc_past

/-- A drawn list of tables, as a law needs it. -/
structure DLs (w : World) (av : Option Addr) (n : Nat) (T : List TB) : Prop where
  len : T.length = n
  six : n ≤ 6
  tabs : TabsAt w av T
  small : ∀ t, t ∈ T → SmallD t
theorem DL.dls {w : World} {base : Nat} {av : Option Addr} {T : List TB} {n : Nat} (h : DL w base av T) (hn : T.length = n) : DLs w av n T := ⟨hn, by rw [← hn]; exact h.small.1, h.tabs, h.small.2⟩
theorem DLs.below {w w' : World} {av : Option Addr} {T : List TB} {n : Nat} (h : DLs w av n T) (hb : Below w.heap.size w w') : DLs w' av n T := ⟨h.len, h.six, h.tabs.below hb, h.small⟩
def DrawnOne (w : World) (e : Ending) (w' : World) : Prop := ∃ av n cv T, e = .returned (.slice av n cv) ∧ DLs w' av n T ∧ Below w.heap.size w w'
def DrawnName (w : World) (e : Ending) (w' : World) : Prop := ∃ av n cv T s, e = .returned (.tuple #[.slice av n cv, .string s]) ∧ s.size ≤ 7 ∧ DLs w' av n T ∧ Below w.heap.size w w'
def DrawnTab (w : World) (e : Ending) (w' : World) : Prop := ∃ av n cv T t nc nr ca cc ra cr, e = .returned (.tuple #[.slice av n cv, .agg #[.string t.1, .slice ca nc cc, .slice ra nr cr]]) ∧ t.2.1.length = nc ∧ t.2.2.length = nr ∧ DTab w' ca cc ra cr t ∧ t.1.size ≤ 7 ∧ DLs w' av n T ∧ Below w.heap.size w w'
def DrawnCols (w : World) (e : Ending) (w' : World) : Prop := ∃ av n cv T s C nc ca cc, e = .returned (.tuple #[.slice av n cv, .string s, .slice ca nc cc]) ∧ C.length = nc ∧ nc ≤ 5 ∧ s.size ≤ 7 ∧ StrsAt w' ca C ∧ FitS C ∧ nc ≤ cc ∧ (ca = none → cc = 0) ∧ DLs w' av n T ∧ Below w.heap.size w w'
theorem baseok_draw {w : World} {a : Option Addr} {len cap : Nat} (hlen : len ≤ 4096)
    (row : ∀ j, j < len → ∃ (rb ro : Nat) (v : Int), a = some ⟨rb, ro, none⟩ ∧ rb < w.heap.size ∧ w.cell? ⟨rb, ro + j, none⟩ = some (.int .u8 v) ∧ 0 ≤ v ∧ v ≤ 255) :
    Calls Tryz.prog 32 #[.slice a len cap] w (DrawnOne w) := by
  have hR : Hid (∀ j, j < len → ∃ (rb ro : Nat) (v : Int), a = some ⟨rb, ro, none⟩ ∧ rb < w.heap.size ∧ w.cell? ⟨rb, ro + j, none⟩ = some (.int .u8 v) ∧ 0 ≤ v ∧ v ≤ 255) := row
  clear row
  go_enter Tryz.func32, Tryz.ntmps32
  go_wp2_with fail
  refine (new_draw hlen hR.out).mono ?_
  rintro e w1 ⟨c, rfl, hcs, hc1', hb1⟩
  have B1 : Hid (Below w.heap.size w w1) := hb1
  have C1 : Hid (Cur w1 c a len cap) := hc1'
  have hc1w : c < w1.heap.size := hc1'.lt
  clear hR hb1 hc1'
  go_wp2_with fail
  refine (baseany_draw C1.out).mono ?_
  rintro e w2 ⟨av, n, cv, T, rfl, hTn, hDL, hc2', hk2⟩
  have K2 : Hid (Keep c w1 w2) := hk2
  have C2 : Hid (Cur w2 c a len cap) := hc2'
  have D2 : Hid (DL w2 w1.heap.size av T) := hDL
  have HT : Hid (T.length = n) := hTn
  have hs12 := hk2.size
  clear hTn hDL hc2' hk2 C1
  have FIN : Hid (DrawnOne w (.returned (.slice av n cv)) w2) := ⟨av, n, cv, T, rfl, D2.out.dls HT.out, B1.out.trans (K2.out.below hcs B1.out.size)⟩
  go_wp2
  go_ret
  exact FIN.out
theorem showbase_draw {w : World} {a : Option Addr} {len cap : Nat} (hlen : len ≤ 4096)
    (row : ∀ j, j < len → ∃ (rb ro : Nat) (v : Int), a = some ⟨rb, ro, none⟩ ∧ rb < w.heap.size ∧ w.cell? ⟨rb, ro + j, none⟩ = some (.int .u8 v) ∧ 0 ≤ v ∧ v ≤ 255) :
    Calls Tryz.prog 11 #[.slice a len cap] w (DrawnOne w) := by
  go_enter Tryz.func11, Tryz.ntmps11
  go_wp2_with fail
  refine (baseok_draw hlen row).mono ?_
  rintro e w1 ⟨av, n, cv, T, rfl, h1, h2⟩
  have FIN : Hid (DrawnOne w (.returned (.slice av n cv)) w1) := ⟨av, n, cv, T, rfl, h1, h2⟩
  clear row h1 h2
  go_wp2
  go_ret
  exact FIN.out
set_option maxHeartbeats 2000000 in
theorem tablein_draw {w : World} {a : Option Addr} {len cap : Nat} (hlen : len ≤ 4096)
    (row : ∀ j, j < len → ∃ (rb ro : Nat) (v : Int), a = some ⟨rb, ro, none⟩ ∧ rb < w.heap.size ∧ w.cell? ⟨rb, ro + j, none⟩ = some (.int .u8 v) ∧ 0 ≤ v ∧ v ≤ 255) :
    Calls Tryz.prog 31 #[.slice a len cap] w (DrawnName w) := by
  have hR : Hid (∀ j, j < len → ∃ (rb ro : Nat) (v : Int), a = some ⟨rb, ro, none⟩ ∧ rb < w.heap.size ∧ w.cell? ⟨rb, ro + j, none⟩ = some (.int .u8 v) ∧ 0 ≤ v ∧ v ≤ 255) := row
  clear row
  go_enter Tryz.func31, Tryz.ntmps31
  go_wp2_with fail
  refine (new_draw hlen hR.out).mono ?_
  rintro e w1 ⟨c, rfl, hcs, hc1', hb1⟩
  have B1 : Hid (Below w.heap.size w w1) := hb1
  have C1 : Hid (Cur w1 c a len cap) := hc1'
  have hc1w : c < w1.heap.size := hc1'.lt
  clear hR hb1 hc1'
  go_wp2_with fail
  refine (baseany_draw C1.out).mono ?_
  rintro e w2 ⟨av, n, cv, T, rfl, hTn, hDL, hc2', hk2⟩
  have K2 : Hid (Keep c w1 w2) := hk2
  have C2 : Hid (Cur w2 c a len cap) := hc2'
  have D2 : Hid (DL w2 w1.heap.size av T) := hDL
  have HT : Hid (T.length = n) := hTn
  have hs12 := hk2.size
  clear hTn hDL hc2' hk2 C1
  go_wp2_with fail
  refine (name_draw C2.out).mono ?_
  rintro e w3 ⟨s, rfl, hs7, hc3', hk3⟩
  have FIN : Hid (DrawnName w (.returned (.tuple #[.slice av n cv, .string s])) w3) := ⟨av, n, cv, T, s, rfl, hs7, (D2.out.keep hk3 hc1w).dls HT.out, B1.out.trans ((K2.out.trans hk3).below hcs B1.out.size)⟩
  clear hc3' hk3 D2 C2 K2 B1
  go_wp2_with fail
  exact bodyPost_ret (v := .tuple #[.slice av n cv, .string s]) (by simp [results, Tryz.results31, go_sem]) rfl FIN.out
theorem dropped_draw {w : World} {a : Option Addr} {len cap : Nat} (hlen : len ≤ 4096)
    (row : ∀ j, j < len → ∃ (rb ro : Nat) (v : Int), a = some ⟨rb, ro, none⟩ ∧ rb < w.heap.size ∧ w.cell? ⟨rb, ro + j, none⟩ = some (.int .u8 v) ∧ 0 ≤ v ∧ v ≤ 255) :
    Calls Tryz.prog 7 #[.slice a len cap] w (DrawnName w) := by
  go_enter Tryz.func7, Tryz.ntmps7
  go_wp2_with fail
  refine (tablein_draw hlen row).mono ?_
  rintro e w1 ⟨av, n, cv, T, s, rfl, h1, h2, h3⟩
  have FIN : Hid (DrawnName w (.returned (.tuple #[.slice av n cv, .string s])) w1) := ⟨av, n, cv, T, s, rfl, h1, h2, h3⟩
  clear row h1 h2 h3
  go_wp2_with fail
  exact bodyPost_ret (v := .tuple #[.slice av n cv, .string s]) (by simp [results, Tryz.results7, go_sem]) rfl FIN.out
set_option maxHeartbeats 2000000 in
theorem replaced_draw {w : World} {a : Option Addr} {len cap : Nat} (hlen : len ≤ 4096)
    (row : ∀ j, j < len → ∃ (rb ro : Nat) (v : Int), a = some ⟨rb, ro, none⟩ ∧ rb < w.heap.size ∧ w.cell? ⟨rb, ro + j, none⟩ = some (.int .u8 v) ∧ 0 ≤ v ∧ v ≤ 255) :
    Calls Tryz.prog 9 #[.slice a len cap] w (DrawnTab w) := by
  have hR : Hid (∀ j, j < len → ∃ (rb ro : Nat) (v : Int), a = some ⟨rb, ro, none⟩ ∧ rb < w.heap.size ∧ w.cell? ⟨rb, ro + j, none⟩ = some (.int .u8 v) ∧ 0 ≤ v ∧ v ≤ 255) := row
  clear row
  go_enter Tryz.func9, Tryz.ntmps9
  go_wp2_with fail
  have hR0 : Hid (∀ j, j < len → ∃ (rb ro : Nat) (v : Int), a = some ⟨rb, ro, none⟩ ∧ rb < (w.alloc (.cells #[.string ⟨#[]⟩, .slice none 0 0, .slice none 0 0] 35)).heap.size ∧ (w.alloc (.cells #[.string ⟨#[]⟩, .slice none 0 0, .slice none 0 0] 35)).cell? ⟨rb, ro + j, none⟩ = some (.int .u8 v) ∧ 0 ≤ v ∧ v ≤ 255) := by
    have : ∀ j, j < len → ∃ (rb ro : Nat) (v : Int), a = some ⟨rb, ro, none⟩ ∧ rb < (w.alloc (.cells #[.string ⟨#[]⟩, .slice none 0 0, .slice none 0 0] 35)).heap.size ∧ (w.alloc (.cells #[.string ⟨#[]⟩, .slice none 0 0, .slice none 0 0] 35)).cell? ⟨rb, ro + j, none⟩ = some (.int .u8 v) ∧ 0 ≤ v ∧ v ≤ 255 := fun j hj => by
      obtain ⟨rb, ro, v, h1, h2, h3, h4⟩ := hR.out j hj
      exact ⟨rb, ro, v, h1, by simp; omega, by rw [World.cell?_alloc_past _ _ _ h2]; exact h3, h4⟩
    exact this
  refine (new_draw hlen hR0.out).mono ?_
  rintro e w1 ⟨c, rfl, hcs, hc1', hb1⟩
  have R1 : Hid (TBox w1 w.heap.size (.string ⟨#[]⟩) (.slice none 0 0) (.slice none 0 0)) := (TBox.new w _ _ _).below hb1
  have B1 : Hid (Below w.heap.size w w1) := chainA hb1
  have hcw : w.heap.size < c := by simp at hcs; omega
  have C1 : Hid (Cur w1 c a len cap) := hc1'
  have hc1w : c < w1.heap.size := hc1'.lt
  clear hR hR0 hb1 hc1' hcs
  go_wp2_with fail
  refine (baseany_draw C1.out).mono ?_
  rintro e w2 ⟨av, n, cv, T, rfl, hTn, hDL, hc2', hk2⟩
  have K2 : Hid (Keep c w1 w2) := hk2
  have C2 : Hid (Cur w2 c a len cap) := hc2'
  have D2 : Hid (DL w2 w1.heap.size av T) := hDL
  have HT : Hid (T.length = n) := hTn
  have hs12 := hk2.size
  clear hTn hDL hc2' hk2 C1
  go_wp2_with fail
  refine (tabany_draw C2.out).mono ?_
  rintro e w3 ⟨nm, vc, vr, C, L, rfl, hnm, hSz, hOc, ⟨G, D, hOr⟩, hc3', hk3⟩
  obtain ⟨ca, cc, rfl⟩ := own_sliceL hOc
  obtain ⟨ra, cr, rfl⟩ := own_sliceL hOr.outer
  have R3 : Hid (TBox w3 w.heap.size (.string ⟨#[]⟩) (.slice none 0 0) (.slice none 0 0)) := R1.out.keep (K2.out.trans hk3) (by omega)
  obtain ⟨r0, r1, r2⟩ := R3.out.cells
  obtain ⟨f0, f1, f2⟩ := R3.out.free
  have fin : Hid (∀ x y z, DrawnTab w (.returned (.tuple #[.slice av n cv, .agg #[.string nm, .slice ca C.length cc, .slice ra L.length cr]])) (((w3.setCell ⟨w.heap.size, 0, none⟩ x).setCell ⟨w.heap.size, 1, none⟩ y).setCell ⟨w.heap.size, 2, none⟩ z)) := by
    have hbb : Below w.heap.size w w3 := B1.out.trans ((K2.out.trans hk3).below (by omega) (by omega))
    have hkR : ∀ x y z, Keep w.heap.size w3 (((w3.setCell ⟨w.heap.size, 0, none⟩ x).setCell ⟨w.heap.size, 1, none⟩ y).setCell ⟨w.heap.size, 2, none⟩ z) := fun x y z => (((Keep.refl w.heap.size w3).setCell (p := ⟨w.heap.size, 0, none⟩) (Or.inl rfl) _).setCell (p := ⟨w.heap.size, 1, none⟩) (Or.inl rfl) _).setCell (p := ⟨w.heap.size, 2, none⟩) (Or.inl rfl) _
    have : ∀ x y z, DrawnTab w (.returned (.tuple #[.slice av n cv, .agg #[.string nm, .slice ca C.length cc, .slice ra L.length cr]])) (((w3.setCell ⟨w.heap.size, 0, none⟩ x).setCell ⟨w.heap.size, 1, none⟩ y).setCell ⟨w.heap.size, 2, none⟩ z) := fun x y z =>
      ⟨av, n, cv, T, (nm, C, L), C.length, L.length, ca, cc, ra, cr, rfl, rfl, rfl, dtab_of hnm hSz (own_keep hOc (hkR x y z) (by omega)) (hOr.keep (hkR x y z) (by omega)), hnm, ((D2.out.keep hk3 hc1w).keep (hkR x y z) (by omega)).dls HT.out, ((hbb.setCell (p := ⟨w.heap.size, 0, none⟩) (Nat.le_refl _) _).setCell (p := ⟨w.heap.size, 1, none⟩) (Nat.le_refl _) _).setCell (p := ⟨w.heap.size, 2, none⟩) (Nat.le_refl _) _⟩
    exact this
  clear hc3' hk3 D2 C2 K2 B1 hSz hOc hOr hnm R1 R3
  go_wp2_with fail
  exact bodyPost_ret (v := .tuple #[.slice av n cv, .agg #[.string nm, .slice ca C.length cc, .slice ra L.length cr]]) (by simp [results, Tryz.results9, go_sem, r0, r1, r2]) rfl (fin.out _ _ _)
set_option maxRecDepth 100000 in
set_option maxHeartbeats 4000000 in
theorem made_draw {w : World} {a : Option Addr} {len cap : Nat} (hlen : len ≤ 4096)
    (row : ∀ j, j < len → ∃ (rb ro : Nat) (v : Int), a = some ⟨rb, ro, none⟩ ∧ rb < w.heap.size ∧ w.cell? ⟨rb, ro + j, none⟩ = some (.int .u8 v) ∧ 0 ≤ v ∧ v ≤ 255) :
    Calls Tryz.prog 5 #[.slice a len cap] w (DrawnCols w) := by
  have hR : Hid (∀ j, j < len → ∃ (rb ro : Nat) (v : Int), a = some ⟨rb, ro, none⟩ ∧ rb < w.heap.size ∧ w.cell? ⟨rb, ro + j, none⟩ = some (.int .u8 v) ∧ 0 ≤ v ∧ v ≤ 255) := row
  clear row
  go_enter Tryz.func5, Tryz.ntmps5
  go_wp2_with fail
  refine (new_draw hlen hR.out).mono ?_
  rintro e w1 ⟨c, rfl, hcs, hc1', hb1⟩
  have B1 : Hid (Below w.heap.size w w1) := hb1
  have C1 : Hid (Cur w1 c a len cap) := hc1'
  have hc1w : c < w1.heap.size := hc1'.lt
  clear hR hb1 hc1'
  go_wp2_with fail
  refine (baseany_draw C1.out).mono ?_
  rintro e w2 ⟨av, n, cv, T, rfl, hTn, hDL, hc2', hk2⟩
  have K2 : Hid (Keep c w1 w2) := hk2
  have C2 : Hid (Cur w2 c a len cap) := hc2'
  have D2 : Hid (DL w2 w1.heap.size av T) := hDL
  have HT : Hid (T.length = n) := hTn
  have hs12 := hk2.size
  clear hTn hDL hc2' hk2 C1
  go_wp2_with fail
  refine (tabany_draw C2.out).mono ?_
  rintro e w3 ⟨nm, vc, vr, C, L, rfl, hnm, hSz, hOc, ⟨G, D, hOr⟩, hc3', hk3⟩
  obtain ⟨ca, cc, rfl⟩ := own_sliceL hOc
  obtain ⟨ra, cr, rfl⟩ := own_sliceL hOr.outer
  have K3 : Hid (Keep c w1 w3) := K2.out.trans hk3
  have C3 : Hid (Cur w3 c a len cap) := hc3'
  have D3 : Hid (DL w3 w1.heap.size av T) := D2.out.keep hk3 hc1w
  have OC3 : Hid (w3.ownsRow w1.heap.size 9 1 (.slice ca C.length cc) C.length (strV C)) := own_base hOc hs12
  have HF : Hid (FitS C ∧ C.length ≤ 5 ∧ nm.size ≤ 7) := ⟨hSz.cf, hSz.cl, hnm⟩
  have hs13 := K3.out.size
  clear hc3' hk3 hSz hOc hOr hnm K2 C2 D2
  go_wp2_with fail
  refine (once_draw (C3.out.alloc _) 2 (by omega) (by omega)).mono ?_
  rintro e w4 ⟨b4, rfl, hc4', hk4⟩
  have T4 : Hid (TBox w4 w3.heap.size (.string nm) (.slice ca C.length cc) (.slice ra L.length cr)) := (TBox.new w3 _ _ _).keep hk4 (by omega)
  have K4 : Hid (Keep c w1 w4) := (K3.out.alloc _).trans hk4
  have kk4 : Keep c w3 w4 := ((Keep.refl c w3).alloc _).trans hk4
  have D4 : Hid (DL w4 w1.heap.size av T) := D3.out.keep kk4 hc1w
  have OC4 : Hid (w4.ownsRow w1.heap.size 9 1 (.slice ca C.length cc) C.length (strV C)) := own_keep OC3.out kk4 hc1w
  have hb4 : Hid (Below w3.heap.size w4 w4) := Below.refl _ _
  have KK4 : Hid (Keep c w3 w4) := kk4
  clear hc4' hk4 C3 K3 kk4
  obtain ⟨b0, b1, b2⟩ := T4.out.cells
  obtain ⟨f0, f1, f2⟩ := T4.out.free
  have fin : Hid (∀ w5 s, Below w3.heap.size w4 w5 → DL w5 w1.heap.size av T → w5.ownsRow w1.heap.size 9 1 (.slice ca C.length cc) C.length (strV C) → s.size ≤ 7 → DrawnCols w (.returned (.tuple #[.slice av n cv, .string s, .slice ca C.length cc])) w5) := by
    have : ∀ w5 s, Below w3.heap.size w4 w5 → DL w5 w1.heap.size av T → w5.ownsRow w1.heap.size 9 1 (.slice ca C.length cc) C.length (strV C) → s.size ≤ 7 → DrawnCols w (.returned (.tuple #[.slice av n cv, .string s, .slice ca C.length cc])) w5 := fun w5 s hb hd ho hs => by
      obtain ⟨o1, o2, o3⟩ := own_strsV ho
      exact ⟨av, n, cv, T, s, C, C.length, ca, cc, rfl, rfl, HF.out.2.1, hs, o1, HF.out.1, o2, o3, hd.dls HT.out, (B1.out.trans (K4.out.below hcs B1.out.size)).trans (hb.mono (by have := B1.out.size; omega))⟩
    exact this
  cases b4
  · have hbX : Below w3.heap.size w4 w4 := Below.refl _ _
    have hdX := D4.out
    have hoX := OC4.out
    have hsX := HF.out.2.2
    clear D4 OC4 K4 D3 OC3 KK4
    have FIN : Hid (∀ nq, DrawnCols w (.returned (.tuple #[.slice av n cv, .string nm, .slice ca C.length cc])) (w4.drewN nq)) := by
      have : ∀ nq, DrawnCols w (.returned (.tuple #[.slice av n cv, .string nm, .slice ca C.length cc])) (w4.drewN nq) := fun nq => fin.out _ _ (belowN hbX nq) (hdX.below (belowN (Below.refl _ _) nq)) (own_below hoX (belowN (Below.refl _ _) nq)) hsX
      exact this
    clear fin hbX hdX hoX hsX
    go_wp2_with fail
    go_quiet (fail)
    go_wp2_with fail
    exact bodyPost_ret (v := .tuple #[.slice av n cv, .string nm, .slice ca C.length cc]) (by simp [results, Tryz.results5, go_sem]) rfl (FIN.out _)
  · have hkR : Keep c w3 (w4.setCell ⟨w3.heap.size, 0, none⟩ (.string ⟨#[118]⟩)) := KK4.out.setCell (p := ⟨w3.heap.size, 0, none⟩) (Or.inr (Nat.le_refl _)) _
    have hbX : Below w3.heap.size w4 (w4.setCell ⟨w3.heap.size, 0, none⟩ (.string ⟨#[118]⟩)) := (Below.refl _ _).setCell (p := ⟨w3.heap.size, 0, none⟩) (Nat.le_refl _) _
    have T5 := T4.out.set0 (.string ⟨#[118]⟩)
    obtain ⟨x0, x1, x2⟩ := T5.cells
    have hdX : DL (w4.setCell ⟨w3.heap.size, 0, none⟩ (.string ⟨#[118]⟩)) w1.heap.size av T := D3.out.keep hkR hc1w
    have hoX : (w4.setCell ⟨w3.heap.size, 0, none⟩ (.string ⟨#[118]⟩)).ownsRow w1.heap.size 9 1 (.slice ca C.length cc) C.length (strV C) := own_keep OC3.out hkR hc1w
    have hsX : (⟨#[118]⟩ : ByteArray).size ≤ 7 := by decide
    clear D4 OC4 K4 hkR T5 D3 OC3 KK4
    have FIN : Hid (∀ nq, DrawnCols w (.returned (.tuple #[.slice av n cv, .string ⟨#[118]⟩, .slice ca C.length cc])) ((w4.setCell ⟨w3.heap.size, 0, none⟩ (.string ⟨#[118]⟩)).drewN nq)) := by
      have : ∀ nq, DrawnCols w (.returned (.tuple #[.slice av n cv, .string ⟨#[118]⟩, .slice ca C.length cc])) ((w4.setCell ⟨w3.heap.size, 0, none⟩ (.string ⟨#[118]⟩)).drewN nq) := fun nq => fin.out _ _ (belowN hbX nq) (hdX.below (belowN (Below.refl _ _) nq)) (own_below hoX (belowN (Below.refl _ _) nq)) hsX
      exact this
    clear fin hbX hdX hoX hsX
    go_wp2_with fail
    go_quiet (fail)
    go_wp2_with fail
    exact bodyPost_ret (v := .tuple #[.slice av n cv, .string ⟨#[118]⟩, .slice ca C.length cc]) (by simp [results, Tryz.results5, go_sem]) rfl (FIN.out _)
end Go.Proofs.YteamdmcgkpeelabGreatDoor

/-
  The contracts of the law's helpers that hold rows against each other: of two that are one they answer true.
-/
namespace Go.Proofs.YteamdmcgkpeelabGreatDoor
open Go.ChangeShapes Go.WideShapes Go.ChangeAt Go.RowKit
attribute [local go_sem ↓] Go.wp_at_zero Go.wp_at_succ
attribute [local simp] World.cell?_alloc_past World.cell?_alloc_at World.frozen?_alloc_at cell_far cell_off cell_here World.frozen?_alloc_past

theorem neq_one (a b : Int) (s : ByteArray) (w : World) :
    (binOp .neq 78 (.agg #[.int .i64 a, .int .i64 b, .string s]) (.agg #[.int .i64 a, .int .i64 b, .string s])).run Tryz.prog w = .ok (.bool false) w := by
  rw [run_neq, sameB_refl]; rfl

set_option maxHeartbeats 1000000 in
theorem like_row (a b : Option Addr) (ca cb : Nat) (l : List CT) (w : World) (ha : RowAt w a l) (hb : RowAt w b l) (hm : l.length ≤ maxLen) :
    Calls Tryz.prog 70 #[.slice a l.length ca, .slice b l.length cb] w fun e w' => e = .returned (.bool true) ∧ Below w.heap.size w w' := by
  have hA : Hid (RowAt w a l) := ha
  have hB : Hid (RowAt w b l) := hb
  clear ha hb
  have hq := neq_one
  unfold maxLen at hm
  go_enter Tryz.func70, Tryz.ntmps70
  go_wp2
  go_loopw [5] (fun i wr => ∃ k : Nat, k ≤ l.length ∧ i = .int .i64 k ∧ Below w.heap.size w wr) (fun i _ => l.length - (intOf i).toNat)
  case atStart => exact ⟨0, Nat.zero_le _, rfl, Below.refl _ _⟩
  case round =>
    obtain ⟨k, hk, rfl, hx⟩ := hrel
    by_cases hlt : k < l.length
    · obtain ⟨b1, o1, rfl, hbw, c0, c1, c2⟩ := hA.out.below hx k hlt
      obtain ⟨b2, o2, rfl, hbw2, d0, d1, d2⟩ := hB.out.below hx k hlt
      have hi0 : (0 : Int) ≤ (k : Int) := by omega
      have hi1 : (k : Int) < (l.length : Int) := by omega
      generalize l[k] = x at c0 c1 c2 d0 d1 d2
      go_wp2_with fail
      go_quiet (fail)
      go_wp2
      go_roundw
      case rel => exact ⟨k + 1, by omega, by go_num, belowN hx _⟩
      case measure => simp [intOf]; omega
    · have hnn : ¬ (k : Int) < (l.length : Int) := by omega
      go_wp2
      go_ret
      exact ⟨rfl, hx⟩

set_option maxHeartbeats 2000000 in
theorem like_rows (a b : Option Addr) (ca cb : Nat) (L : List (List CT)) (w : World) (ha : RowsAt w a L) (hb : RowsAt w b L) (hm : L.length ≤ maxLen) :
    Calls Tryz.prog 45 #[.slice a L.length ca, .slice b L.length cb] w fun e w' => e = .returned (.bool true) ∧ Below w.heap.size w w' := by
  have hA : Hid (RowsAt w a L) := ha
  have hB : Hid (RowsAt w b L) := hb
  clear ha hb
  unfold maxLen at hm
  go_enter Tryz.func45, Tryz.ntmps45
  go_wp2
  go_loopw [5] (fun i wr => ∃ k : Nat, k ≤ L.length ∧ i = .int .i64 k ∧ Below w.heap.size w wr) (fun i _ => L.length - (intOf i).toNat)
  case atStart => exact ⟨0, Nat.zero_le _, rfl, Below.refl _ _⟩
  case round =>
    obtain ⟨k, hk, rfl, hx⟩ := hrel
    by_cases hlt : k < L.length
    · obtain ⟨b1, o1, a1, n1, rfl, hbw, c0, r1, _, hl1, _⟩ := hA.out.below hx k hlt
      obtain ⟨b2, o2, a2, n2, rfl, hbw2, d0, r2, _, _, _⟩ := hB.out.below hx k hlt
      have hi0 : (0 : Int) ≤ (k : Int) := by omega
      have hi1 : (k : Int) < (L.length : Int) := by omega
      have R1 : Hid (RowAt wr a1 L[k] ∧ RowAt wr a2 L[k]) := ⟨r1, r2⟩
      have HL : Hid (L[k].length ≤ maxLen) := hl1
      clear r1 r2 hl1
      generalize L[k] = x at c0 d0 R1 HL
      go_wp2_with fail
      refine wp_region_held_drew (S := (fun w' => w'.cell? ⟨b1, o1 + k, none⟩ = some (.slice a1 x.length n1) ∧ w'.cell? ⟨b2, o2 + k, none⟩ = some (.slice a2 x.length n2))) (by kernel_rfl) ?_ (fun hHeld => ?_)
      · (((try dsimp only); (repeat' apply And.intro) <;> first | (go_keep; done) | (simp (disch := first | omega | (simp <;> omega) | fail) [*]; done) | fail))
      refine wpAnyH_take (i := 0) (by simp only [List.getElem?_toArray, List.getElem?_cons_zero]; rfl) (by kernel_rfl) (by kernel_rfl) (by kernel_rfl) (by intro _ _ _ h; exact h) (Or.inl ⟨by rfl, fun w hSw => by (dsimp only at hSw; go_simp; (try with_reducible rfl))⟩) (by assumption) ?_
      simp only [Act.put, List.setIfInBounds_toArray, List.set_cons_zero, List.set_cons_succ]
      refine wpAnyH_take (i := 1) (by simp only [List.getElem?_toArray, List.getElem?_cons_zero, List.getElem?_cons_succ]; rfl) (by kernel_rfl) (by kernel_rfl) (by kernel_rfl) (by intro _ _ _ h; exact h) (Or.inl ⟨by rfl, fun w hSw => by (dsimp only at hSw; go_simp; (try with_reducible rfl))⟩) (by assumption) ?_
      simp only [Act.put, List.setIfInBounds_toArray, List.set_cons_zero, List.set_cons_succ]
      refine wpAnyH_take (i := 2) (by simp only [List.getElem?_toArray, List.getElem?_cons_zero, List.getElem?_cons_succ]; rfl) (by kernel_rfl) (by kernel_rfl) (by kernel_rfl) (by intro _ _ _ h; exact h) (Or.inl ⟨by rfl, fun w hSw => by (dsimp only at hSw; go_simp; (try with_reducible rfl))⟩) (by assumption) ?_
      simp only [Act.put, List.setIfInBounds_toArray, List.set_cons_zero, List.set_cons_succ]
      refine wpAnyH_take (i := 3) (by simp only [List.getElem?_toArray, List.getElem?_cons_zero, List.getElem?_cons_succ]; rfl) (by kernel_rfl) (by kernel_rfl) (by kernel_rfl) (by intro _ _ _ h; exact h) (Or.inl ⟨by rfl, fun w hSw => by (dsimp only at hSw; go_simp; (try with_reducible rfl))⟩) (by assumption) ?_
      simp only [Act.put, List.setIfInBounds_toArray, List.set_cons_zero, List.set_cons_succ]
      refine wpAnyH_take (i := 4) (by simp only [List.getElem?_toArray, List.getElem?_cons_zero, List.getElem?_cons_succ]; rfl) (by kernel_rfl) (by kernel_rfl) (by kernel_rfl) (by intro _ _ _ h; exact h) (Or.inl ⟨by rfl, fun w hSw => by (dsimp only at hSw; go_simp; (try with_reducible rfl))⟩) (by assumption) ?_
      simp only [Act.put, List.setIfInBounds_toArray, List.set_cons_zero, List.set_cons_succ]
      refine wpAnyH_take (i := 5) (by simp only [List.getElem?_toArray, List.getElem?_cons_zero, List.getElem?_cons_succ]; rfl) (by kernel_rfl) (by kernel_rfl) (by kernel_rfl) (by intro _ _ _ h; exact h) (Or.inl ⟨by rfl, fun w hSw => by (dsimp only at hSw; go_simp; (try with_reducible rfl))⟩) (by assumption) ?_
      simp only [Act.put, List.setIfInBounds_toArray, List.set_cons_zero, List.set_cons_succ]
      refine wpAnyH_take (i := 6) (by simp only [List.getElem?_toArray, List.getElem?_cons_zero, List.getElem?_cons_succ]; rfl) (by kernel_rfl) (by kernel_rfl) (by kernel_rfl) (by intro _ _ _ h; exact h) (Or.inl ⟨by rfl, fun w hSw => by (dsimp only at hSw; go_simp; (try with_reducible rfl))⟩) (by assumption) ?_
      simp only [Act.put, List.setIfInBounds_toArray, List.set_cons_zero, List.set_cons_succ]
      refine wpAnyH_take (i := 7) (by simp only [List.getElem?_toArray, List.getElem?_cons_zero, List.getElem?_cons_succ]; rfl) (by kernel_rfl) (by kernel_rfl) (by kernel_rfl) (by intro _ _ _ h; exact h) (Or.inl ⟨by rfl, fun w hSw => by (dsimp only at hSw; go_simp; (try with_reducible rfl))⟩) (by assumption) ?_
      simp only [Act.put, List.setIfInBounds_toArray, List.set_cons_zero, List.set_cons_succ]
      refine wpAnyH_ready (rs := [8]) (by kernel_rfl) (by simp) ?_
      refine AllReadyH.cons (by simp only [List.getElem?_toArray, List.getElem?_cons_zero, List.getElem?_cons_succ]; rfl) ?_ AllReadyH.nil
      intro K hK
      go_simp
      refine (like_row _ _ _ _ x _ (R1.out.1.below ((Below.refl _ _).drew)) (R1.out.2.below ((Below.refl _ _).drew)) HL.out).mono ?_
      rintro e w1 ⟨rfl, hb1⟩
      obtain ⟨hcA, hfA⟩ := bcell hb1
      go_wp2_with fail
      refine hK.out _ _ ?_ (fun hHeld => ?_)
      · (((try dsimp only); (repeat' apply And.intro) <;> first | (go_keep; done) | (simp (disch := first | omega | (simp <;> omega) | fail) [*]; done) | fail))
      clear hK K
      try simp only [Act.put, List.setIfInBounds_toArray, List.set_cons_zero, List.set_cons_succ]
      refine wpAnyH_take (i := 9) (by simp only [List.getElem?_toArray, List.getElem?_cons_zero, List.getElem?_cons_succ]; rfl) (by kernel_rfl) (by kernel_rfl) (by kernel_rfl) (by intro _ _ _ h; exact h) (Or.inl ⟨by rfl, fun w hSw => by (dsimp only at hSw; go_simp; (try with_reducible rfl))⟩) (by assumption) ?_
      simp only [Act.put, List.setIfInBounds_toArray, List.set_cons_zero, List.set_cons_succ]
      refine wpAnyH_done (by kernel_rfl) ?_ _
      go_wp2
      go_roundw
      case rel => exact ⟨k + 1, by omega, by go_num, chain hx (undrew hb1)⟩
      case measure => simp [intOf]; omega
    · have hnn : ¬ (k : Int) < (L.length : Int) := by omega
      go_wp2
      go_ret
      exact ⟨rfl, hx⟩

end Go.Proofs.YteamdmcgkpeelabGreatDoor

/-
  Lists of numbers: how one lies in memory, and the contracts of the law's helpers that hold two against each other, mark one, and look whether the marks are still there.
-/
namespace Go.Proofs.YteamdmcgkpeelabGreatDoor
open Go.ChangeShapes Go.WideShapes Go.ChangeAt Go.RowKit
attribute [local go_sem ↓] Go.wp_at_zero Go.wp_at_succ

/-- The numbers of a slice lie where it says. -/
def IntsAt (w : World) (a : Option Addr) (l : List Int) : Prop :=
  ∀ j (h : j < l.length), ∃ b o, a = some ⟨b, o, none⟩ ∧ b < w.heap.size ∧ w.cell? ⟨b, o + j, none⟩ = some (.int .i64 l[j])
theorem IntsAt.below {w w' : World} {a : Option Addr} {l : List Int} (h : IntsAt w a l) (hb : Below w.heap.size w w') : IntsAt w' a l := by
  intro j hj
  obtain ⟨b, o, ha, hlt, h0⟩ := h j hj
  exact ⟨b, o, ha, Nat.lt_of_lt_of_le hlt hb.size, by rw [hb.cell (p := ⟨b, _, none⟩) hlt]; exact h0⟩
theorem IntsAt.keepS {P : Nat → Prop} {w w' : World} {a : Option Addr} {l : List Int} (h : IntsAt w a l) (hk : KeepS P w w') (hP : ∀ b, inBlk a l.length b → ¬ P b) : IntsAt w' a l := by
  intro j hj
  obtain ⟨b, o, ha, hlt, h0⟩ := h j hj
  exact ⟨b, o, ha, Nat.lt_of_lt_of_le hlt hk.size, by rw [hk.cell hlt (hP b ⟨by omega, o, ha⟩)]; exact h0⟩
def FreeI (w : World) (a : Option Addr) (n : Nat) : Prop := ∀ b o, a = some ⟨b, o, none⟩ → ∀ j, j < n → w.frozen? ⟨b, o + j, none⟩ = false
theorem FreeI.keepS {P : Nat → Prop} {w w' : World} {a : Option Addr} {l : List Int} (hf : FreeI w a l.length) (h : IntsAt w a l) (hk : KeepS P w w') (hP : ∀ b, inBlk a l.length b → ¬ P b) : FreeI w' a l.length := by
  intro b o ha j hj
  obtain ⟨b', o', ha', hlt, _⟩ := h j hj
  rw [ha] at ha'
  cases ha'
  rw [hk.frozen hlt (hP b ⟨by omega, o, ha⟩)]
  exact hf b o ha j hj
theorem IntsAt.upd {w w' : World} {b o : Nat} {l : List Int} {i : Nat} {x : Int} (h : IntsAt w (some ⟨b, o, none⟩) l) (hs : w.heap.size ≤ w'.heap.size)
    (hfar : ∀ q, q ≠ o + i → w'.cell? ⟨b, q, none⟩ = w.cell? ⟨b, q, none⟩) (h0 : w'.cell? ⟨b, o + i, none⟩ = some (.int .i64 x)) : IntsAt w' (some ⟨b, o, none⟩) (l.set i x) := by
  intro j hj
  have hj' : j < l.length := by simpa using hj
  obtain ⟨b', o', e, hlt, c0⟩ := h j hj'
  cases e
  refine ⟨b, o, rfl, Nat.lt_of_lt_of_le hlt hs, ?_⟩
  by_cases hij : i = j
  · subst hij
    rw [List.getElem_set_self]; exact h0
  · rw [List.getElem_set_ne hij, hfar _ (by omega)]; exact c0
theorem FreeI.upd {w w' : World} {a : Option Addr} {n : Nat} (h : FreeI w a n) (hf : ∀ b o q, a = some ⟨b, o, none⟩ → w'.frozen? ⟨b, q, none⟩ = w.frozen? ⟨b, q, none⟩) : FreeI w' a n :=
  fun b o e j hj => by rw [hf b o _ e]; exact h b o e j hj
/-- The marks of a list of n numbers. -/
def marksI (k n : Nat) : List Int := (List.range n).map fun i => ((k + i : Nat) : Int)
theorem marksI_length (k n : Nat) : (marksI k n).length = n := by simp [marksI]
theorem marksI_at (k n i : Nat) (h : i < (marksI k n).length) : (marksI k n)[i] = ((k + i : Nat) : Int) := by simp [marksI]
theorem marksI_step (k : Nat) (l : List Int) (i : Nat) (h : i < l.length) : (marksI k i ++ l.drop i).set i ((k + i : Nat) : Int) = marksI k (i + 1) ++ l.drop (i + 1) := by
  rw [List.set_append_right _ _ (by rw [marksI_length]; omega), marksI_length, Nat.sub_self]
  have e : l.drop i = l[i] :: l.drop (i + 1) := List.drop_eq_getElem_cons h
  rw [e, List.set_cons_zero]
  simp [marksI, List.range_succ]
theorem own_ints {w : World} {base g c : Nat} {e : TypeId} {l : List Int} (h : w.ownsRow base e 1 (.slice (some ⟨g, 0, none⟩) l.length c) l.length (l.map (Value.int .i64))) : IntsAt w (some ⟨g, 0, none⟩) l := by
  have hlt : g < w.heap.size := (h.lt g rfl).2
  intro j hj
  refine ⟨g, 0, rfl, hlt, ?_⟩
  rw [Nat.zero_add, h.cellAt _ (by omega), List.getElem?_map, List.getElem?_eq_getElem hj]; rfl
theorem own_freeI {w : World} {base g n c : Nat} {e : TypeId} {xs : List Value} (h : w.ownsRow base e 1 (.slice (some ⟨g, 0, none⟩) n c) n xs) : FreeI w (some ⟨g, 0, none⟩) n := by
  intro b o e j hj
  cases e
  rw [Nat.zero_add]
  exact h.frozenAt j

end Go.Proofs.YteamdmcgkpeelabGreatDoor

/-
  The contracts of the law's helpers that hold two tables, or two lists, that are one against each other.
-/
namespace Go.Proofs.YteamdmcgkpeelabGreatDoor
open Go.ChangeShapes Go.WideShapes Go.ChangeAt Go.RowKit
attribute [local go_sem ↓] Go.wp_at_zero Go.wp_at_succ
attribute [local simp] World.cell?_alloc_past World.cell?_alloc_at World.frozen?_alloc_at cell_far cell_off cell_here World.frozen?_alloc_past

set_option maxHeartbeats 1000000 in
theorem liketexts (a b : Option Addr) (ca cb : Nat) (l : List ByteArray) (w : World) (ha : StrsAt w a l) (hb : StrsAt w b l) (hm : l.length ≤ maxLen) :
    Calls Tryz.prog 22 #[.slice a l.length ca, .slice b l.length cb] w fun e w' => e = .returned (.bool true) ∧ Below w.heap.size w w' := by
  have hA : Hid (StrsAt w a l) := ha
  have hB : Hid (StrsAt w b l) := hb
  clear ha hb
  unfold maxLen at hm
  go_enter Tryz.func22, Tryz.ntmps22
  go_wp2
  go_loopw [5] (fun i wr => ∃ k : Nat, k ≤ l.length ∧ i = .int .i64 k ∧ Below w.heap.size w wr) (fun i _ => l.length - (intOf i).toNat)
  case atStart => exact ⟨0, Nat.zero_le _, rfl, Below.refl _ _⟩
  case round =>
    obtain ⟨k, hk, rfl, hx⟩ := hrel
    by_cases hlt : k < l.length
    · obtain ⟨b1, o1, rfl, hbw, c0⟩ := hA.out.below hx k hlt
      obtain ⟨b2, o2, rfl, hbw2, d0⟩ := hB.out.below hx k hlt
      have hi0 : (0 : Int) ≤ (k : Int) := by omega
      have hi1 : (k : Int) < (l.length : Int) := by omega
      generalize l[k] = x at c0 d0
      have hxx : (x.toList == x.toList) = true := by simp
      go_wp2_with fail
      go_quiet (fail)
      go_wp2
      go_roundw
      case rel => exact ⟨k + 1, by omega, by go_num, belowN hx _⟩
      case measure => simp [intOf]; omega
    · go_wp2
      go_ret
      exact ⟨rfl, hx⟩

theorem liketextsN (n : Nat) (a b : Option Addr) (ca cb : Nat) (l : List ByteArray) (hn : l.length = n) (w : World) (ha : StrsAt w a l) (hb : StrsAt w b l) (hm : n ≤ maxLen) :
    Calls Tryz.prog 22 #[.slice a n ca, .slice b n cb] w fun e w' => e = .returned (.bool true) ∧ Below w.heap.size w w' := by
  subst hn; exact liketexts a b ca cb l w ha hb hm
theorem likerowsN (n : Nat) (a b : Option Addr) (ca cb : Nat) (L : List (List CT)) (hn : L.length = n) (w : World) (ha : RowsAt w a L) (hb : RowsAt w b L) (hm : n ≤ maxLen) :
    Calls Tryz.prog 45 #[.slice a n ca, .slice b n cb] w fun e w' => e = .returned (.bool true) ∧ Below w.heap.size w w' := by
  subst hn; exact like_rows a b ca cb L w ha hb hm

set_option maxRecDepth 100000 in
set_option maxHeartbeats 2000000 in
theorem liketab (ca : Option Addr) (cc : Nat) (ra : Option Addr) (cr : Nat) (da : Option Addr) (dc : Nat) (sa : Option Addr) (sc : Nat) (t : TB) (nc nr : Nat) (hnc : t.2.1.length = nc) (hnr : t.2.2.length = nr) (w : World) (ht : TabAt w ca cc ra t) (hu : TabAt w da dc sa t) :
    Calls Tryz.prog 21 #[.agg #[.string t.1, .slice ca nc cc, .slice ra nr cr], .agg #[.string t.1, .slice da nc dc, .slice sa nr sc]] w fun e w' => e = .returned (.bool true) ∧ Below w.heap.size w w' := by
  obtain ⟨nm, C, L⟩ := t
  dsimp only at hnc hnr ⊢
  have HT : Hid (TabAt w ca cc ra (nm, C, L)) := ht
  have HU : Hid (TabAt w da dc sa (nm, C, L)) := hu
  have HNC : Hid (C.length = nc) := hnc
  have HNR : Hid (L.length = nr) := hnr
  have hncM : nc ≤ maxLen := by rw [← hnc]; exact ht.len
  have hnrM : nr ≤ maxLen := by rw [← hnr]; exact ht.lenR
  have hxx : (nm.toList == nm.toList) = true := by simp
  clear ht hu hnc hnr
  go_enter Tryz.func21, Tryz.ntmps21
  have hA : Below w.heap.size w ((w.alloc (.cells #[.string nm, .slice ca nc cc, .slice ra nr cr] 35)).alloc (.cells #[.string nm, .slice da nc dc, .slice sa nr sc] 35)) := ((Below.refl _ _).alloc (Nat.le_refl _) _).alloc (by simp) _
  go_wp2_with fail
  refine (liketextsN nc ca da cc dc C HNC.out _ (HT.out.below hA).cols (HU.out.below hA).cols hncM).mono ?_
  rintro e w1 ⟨rfl, hb1⟩
  obtain ⟨⟨p0, p1, p2, p3⟩, q0, q1, q2, q3⟩ := two3 hb1
  have hx1 := chain hA hb1
  have H1 : Hid (TabAt w1 ca cc ra (nm, C, L)) := HT.out.below hx1
  have H2 : Hid (TabAt w1 da dc sa (nm, C, L)) := HU.out.below hx1
  clear hb1 HT HU hA
  go_wp2_with fail
  refine (likerowsN nr ra sa cr sc L HNR.out _ H1.out.rows H2.out.rows hnrM).mono ?_
  rintro e w2 ⟨rfl, hb2⟩
  go_wp2
  go_ret
  exact ⟨rfl, chain hx1 hb2⟩

end Go.Proofs.YteamdmcgkpeelabGreatDoor

/-
  The laws' comparison of two lists of tables that are one.
-/
namespace Go.Proofs.YteamdmcgkpeelabGreatDoor
open Go.ChangeShapes Go.WideShapes Go.ChangeAt Go.RowKit
attribute [local go_sem ↓] Go.wp_at_zero Go.wp_at_succ
attribute [local simp] World.cell?_alloc_past World.cell?_alloc_at World.frozen?_alloc_at cell_far cell_off cell_here World.frozen?_alloc_past

set_option maxRecDepth 100000 in
set_option maxHeartbeats 4000000 in
theorem likebase (a b : Option Addr) (ca cb : Nat) (T : List TB) (n : Nat) (hn : T.length = n) (w : World) (ha : TabsAt w a T) (hb : TabsAt w b T) (hm : n ≤ maxLen) :
    Calls Tryz.prog 13 #[.slice a n ca, .slice b n cb] w fun e w' => e = .returned (.bool true) ∧ Below w.heap.size w w' := by
  have hA : Hid (TabsAt w a T) := ha
  have hB : Hid (TabsAt w b T) := hb
  have hN : Hid (T.length = n) := hn
  clear ha hb hn
  unfold maxLen at hm
  go_enter Tryz.func13, Tryz.ntmps13
  go_wp2
  go_loopw [5] (fun i wr => ∃ k : Nat, k ≤ n ∧ i = .int .i64 k ∧ Below w.heap.size w wr) (fun i _ => n - (intOf i).toNat)
  case atStart => exact ⟨0, Nat.zero_le _, rfl, Below.refl _ _⟩
  case round =>
    obtain ⟨k, hk, rfl, hx⟩ := hrel
    by_cases hlt : k < n
    · obtain ⟨b1, o1, ca1, cc1, ra1, cr1, rfl, hbw, c0, c1, c2, hta⟩ := hA.out.below hx k (by rw [hN.out]; exact hlt)
      obtain ⟨b2, o2, ca2, cc2, ra2, cr2, rfl, hbw2, d0, d1, d2, htb⟩ := hB.out.below hx k (by rw [hN.out]; exact hlt)
      have hi0 : (0 : Int) ≤ (k : Int) := by omega
      have hi1 : (k : Int) < (n : Int) := by omega
      have HA : Hid (TabAt wr ca1 cc1 ra1 (T[k]'(by rw [hN.out]; exact hlt))) := hta
      have HB : Hid (TabAt wr ca2 cc2 ra2 (T[k]'(by rw [hN.out]; exact hlt))) := htb
      clear hta htb
      generalize (T[k]'(by rw [hN.out]; exact hlt)) = t at c0 c1 c2 d0 d1 d2 HA HB
      obtain ⟨nc, hnc⟩ : ∃ m, t.2.1.length = m := ⟨_, rfl⟩
      obtain ⟨nr, hnr⟩ : ∃ m, t.2.2.length = m := ⟨_, rfl⟩
      rw [hnc] at c1 d1
      rw [hnr] at c2 d2
      have HNC : Hid (t.2.1.length = nc) := hnc
      have HNR : Hid (t.2.2.length = nr) := hnr
      clear hnc hnr
      go_wp2_with fail
      go_region_held3 (fun w' => w'.cell? ⟨b1, o1 + k * 3, none⟩ = some (.string t.1) ∧ w'.cell? ⟨b1, o1 + k * 3 + 1, none⟩ = some (.slice ca1 nc cc1) ∧ w'.cell? ⟨b1, o1 + k * 3 + 2, none⟩ = some (.slice ra1 nr cr1) ∧
          w'.cell? ⟨b2, o2 + k * 3, none⟩ = some (.string t.1) ∧ w'.cell? ⟨b2, o2 + k * 3 + 1, none⟩ = some (.slice ca2 nc cc2) ∧ w'.cell? ⟨b2, o2 + k * 3 + 2, none⟩ = some (.slice ra2 nr cr2))
        (((try dsimp only); (repeat' apply And.intro) <;> first | (go_keep; done) | (simp (disch := first | omega | (simp <;> omega) | fail) [*]; done) | fail))
        ((go_at_call 21; refine (liketab ca1 cc1 ra1 cr1 ca2 cc2 ra2 cr2 t nc nr HNC.out HNR.out _ (HA.out.below (Below.refl _ _).drew) (HB.out.below (Below.refl _ _).drew)).mono ?_; rintro e w1 ⟨rfl, hb1⟩; obtain ⟨hc, hf⟩ := bcell hb1))
      all_goals
        go_wp2
        go_roundw
        case rel => exact ⟨k + 1, by omega, by go_num, chain hx (undrew hb1)⟩
        case measure => simp [intOf]; omega
    · go_wp2
      go_ret
      exact ⟨rfl, hx⟩

end Go.Proofs.YteamdmcgkpeelabGreatDoor

/-
  What stands of a base behind Made, Dropped and Replaced, without any program.
-/
namespace Go.Proofs.YteamdmcgkpeelabGreatDoor
open Go.ChangeShapes Go.WideShapes Go.ChangeAt Go.RowKit Go.Maps

theorem dropped_facts {T V : List TB} {s : ByteArray} (h : droppedR T s = (V, true)) : baseB V = true ∧ s ∉ namesT V ∧ V.length + 1 = T.length := by
  unfold droppedR at h
  split at h
  · rename_i hb
    simp only [Prod.mk.injEq, decide_eq_true_eq] at h
    obtain ⟨rfl, hm⟩ := h
    obtain ⟨h1, h2, h3⟩ := baseB_parts hb
    obtain ⟨k, hk, e⟩ := List.mem_iff_getElem.1 hm
    have hk' : k < T.length := by rw [namesT_length] at hk; exact hk
    rw [namesT_at T k hk'] at e
    have hl : (dropT T s).length + 1 = T.length := by
      rw [dropT_at h2 hk' e]; simp; omega
    refine ⟨baseB_of (fun t ht => h1 t (List.mem_filter.1 ht).1) (dropT_rises h2) (by omega), fun hm' => ?_, hl⟩
    obtain ⟨u, hu, e'⟩ := List.mem_map.1 hm'
    have := (List.mem_filter.1 hu).2
    simp only [decide_eq_true_eq] at this
    exact this e'
  · simp at h
theorem replaced_facts {T V : List TB} {t : TB} (h : replacedR T t = (V, true)) : baseB V = true ∧ V.length = T.length ∧ t ∈ V := by
  unfold replacedR at h
  split at h
  · rename_i hb
    split at h
    · rename_i hc
      simp only [Prod.mk.injEq, and_true] at h
      subst h
      obtain ⟨h1, h2, h3⟩ := baseB_parts hb
      refine ⟨baseB_of (fun u hu => ?_) (by rw [replT_names]; exact h2) (by rw [replT_length]; exact h3), replT_length _ _, ?_⟩
      · obtain ⟨x, hx, e⟩ := List.mem_map.1 hu
        split at e
        · subst e; exact hc.2
        · subst e; exact h1 _ hx
      · obtain ⟨x, hx, e⟩ := List.mem_map.1 hc.1
        exact List.mem_map.2 ⟨x, hx, if_pos e⟩
    · simp at h
  · simp at h
theorem made_no {T V : List TB} {t : TB} (h : madeR T t = (V, false)) : (baseB T = false ∧ V = []) ∨ (baseB T = true ∧ V = T) := by
  unfold madeR at h
  split at h
  · rename_i hb
    split at h
    · simp at h
    · simp at h; exact .inr ⟨hb, h.symm⟩
  · rename_i hb
    simp at h; exact .inl ⟨by simpa using hb, h⟩
theorem dropT_all {L : List TB} {s : ByteArray} (h : s ∉ namesT L) : L.filter (fun u => decide (u.1 ≠ s)) = L := by
  refine List.filter_eq_self.2 fun u hu => ?_
  simp only [decide_eq_true_eq]
  exact fun e => h (List.mem_map.2 ⟨u, hu, e⟩)
theorem dropT_ins {T : List TB} {t : TB} (h : t.1 ∉ namesT T) : dropT (insT T t) t.1 = T := by
  have hT := dropT_all h
  have e : T.takeWhile (fun u => Op.bytesLess u.1.toList t.1.toList) ++ T.dropWhile (fun u => Op.bytesLess u.1.toList t.1.toList) = T := List.takeWhile_append_dropWhile
  unfold dropT insT
  rw [List.filter_append, List.filter_cons_of_neg (by simp), ← List.filter_append, e]
  exact hT
theorem made_facts {T V : List TB} {t : TB} (h : madeR T t = (V, true)) : baseB V = true ∧ (∀ u, u ∈ T → u ∈ V) ∧ t ∈ V ∧ droppedR V t.1 = (T, true) ∧ V.length = T.length + 1 ∧ baseB T = true := by
  unfold madeR at h
  split at h
  · rename_i hb
    split at h
    · rename_i hc
      simp only [Prod.mk.injEq, and_true] at h
      subst h
      obtain ⟨h1, h2, h3⟩ := baseB_parts hb
      have hp := insT_perm T t
      have hbV : baseB (insT T t) = true := by
        refine baseB_of (fun u hu => ?_) (insT_rises h2 hc.1) (by rw [insT_length]; have := hc.2.1; omega)
        rcases List.mem_append.1 (hp.mem_iff.1 hu) with hu | hu
        · exact h1 u hu
        · rw [List.mem_singleton] at hu; subst hu; exact hc.2.2
      have hm : t ∈ insT T t := hp.mem_iff.2 (by simp)
      refine ⟨hbV, fun u hu => hp.mem_iff.2 (by simp [hu]), hm, ?_, insT_length _ _, hb⟩
      unfold droppedR
      have hmn : t.1 ∈ namesT (insT T t) := List.mem_map.2 ⟨t, hm, rfl⟩
      rw [if_pos hbV, dropT_ins hc.1, decide_eq_true hmn]
    · simp at h
  · simp at h
end Go.Proofs.YteamdmcgkpeelabGreatDoor
