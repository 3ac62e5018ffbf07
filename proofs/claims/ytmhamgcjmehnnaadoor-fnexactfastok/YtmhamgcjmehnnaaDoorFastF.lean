/-
  Quick steps, with what comes out of them: measured, taken over and compared by the laws' helpers.
-/
import Derived.Test.YtmhamgcjmehnnaaDoorFastL
import Derived.Test.YtmhamgcjmehnnaaDoorKept
namespace Go.Proofs.YtmhamgcjmehnnaaDoor
open Go.ChangeShapes Go.WideShapes Go.ChangeAt Go.RowKit
attribute [local go_sem ↓] Go.wp_at_zero Go.wp_at_succ
attribute [local simp] World.cell?_alloc_past World.cell?_alloc_at World.frozen?_alloc_at cell_far cell_off cell_here World.frozen?_alloc_past

/-- What is left of a measure behind quick steps; -1 where it does not last. -/
def leftFast (n m : Nat) (left : Int) : Int := if left < (n : Int) then -1 else if left - n < (m : Int) then -1 else left - n - m
theorem szfast_laws (a : Option Addr) (ca n : Nat) (b : Option Addr) (cb m : Nat) (left : Int) (w : World) (hn : n ≤ maxLen) (hm : m ≤ maxLen) (h0 : 0 ≤ left) (h1 : left ≤ 1048576) :
    Calls Tryd.prog 4 #[.agg #[.slice a n ca, .slice b m cb], .int .i64 left] w fun e w' => e = .returned (.int .i64 (leftFast n m left)) ∧ Below w.heap.size w w' := by
  have hA : Below w.heap.size w (w.alloc (.cells #[.slice a n ca, .slice b m cb] 25)) := (Below.refl _ _).alloc (Nat.le_refl _) _
  unfold leftFast
  by_cases h : left < (n : Int)
  · rw [if_pos h]
    go_enter Tryd.func4, Tryd.ntmps4
    go_wp2_with fail
    refine (szsFo a ca n left _ hn h0 h1).mono ?_
    rw [if_pos h]
    rintro e w1 ⟨rfl, rfl⟩
    go_wp2
    go_ret
    exact ⟨rfl, hA⟩
  rw [if_neg h]
  by_cases h2 : left - n < (m : Int)
  · rw [if_pos h2]
    have hp : ¬ left - (n : Int) < 0 := by omega
    go_enter Tryd.func4, Tryd.ntmps4
    go_wp2_with fail
    refine (szsFo a ca n left _ hn h0 h1).mono ?_
    rw [if_neg (by omega)]
    rintro e w1 ⟨rfl, rfl⟩
    go_wp2_with fail
    refine (szsFu b cb m (left - n) _ hm (by omega) (by omega)).mono ?_
    rw [if_pos h2]
    rintro e w1 ⟨rfl, rfl⟩
    go_wp2
    go_ret
    exact ⟨rfl, hA⟩
  · rw [if_neg h2]
    have hp : ¬ left - (n : Int) < 0 := by omega
    have hp2 : ¬ left - (n : Int) - (m : Int) < 0 := by omega
    go_enter Tryd.func4, Tryd.ntmps4
    go_wp2_with fail
    refine (szsFo a ca n left _ hn h0 h1).mono ?_
    rw [if_neg (by omega)]
    rintro e w1 ⟨rfl, rfl⟩
    go_wp2_with fail
    refine (szsFu b cb m (left - n) _ hm (by omega) (by omega)).mono ?_
    rw [if_neg (by omega)]
    rintro e w1 ⟨rfl, rfl⟩
    go_wp2
    go_ret
    exact ⟨rfl, hA⟩
set_option maxHeartbeats 1000000 in
theorem tofast_laws (a : Option Addr) (ca : Nat) (O : List FO) (b : Option Addr) (cb : Nat) (U : List FU) (n m : Nat) (hn : O.length = n) (hm : U.length = m) (w : World) (ha : FoAt w a O) (hb : FuAt w b U) (hn1 : n ≤ 1048576) (hm1 : m ≤ 1048576) :
    Calls Tryd.prog 6 #[.agg #[.slice a n ca, .slice b m cb]] w fun e w' => ∃ g g2, e = .returned (.agg #[.slice (some ⟨g, 0, none⟩) n n, .slice (some ⟨g2, 0, none⟩) m m]) ∧ FoAt w' (some ⟨g, 0, none⟩) O ∧ FuAt w' (some ⟨g2, 0, none⟩) U ∧ Below w.heap.size w w' := by
  subst hn hm
  have HA := hid ha
  have HB := hid hb
  obtain ⟨E0, hE0, hA, hBS, hBT, hBR, hsz⟩ := three_boxes w (.cells #[.slice a O.length ca, .slice b U.length cb] 25) (.cells #[.slice none 0 0, .slice none 0 0] 31) (.cells #[.slice none 0 0, .slice none 0 0] 31)
  have HBS := hid hBS
  have HBT := hid hBT
  have HBR := hid hBR
  have HE0 := hid hE0
  have FZ := hid (p := ∀ o, E0.frozen? ⟨w.heap.size + 1, o, none⟩ = false ∧ E0.frozen? ⟨w.heap.size + 1 + 1, o, none⟩ = false) (by intro o; rw [← hE0]; constructor <;> simp)
  clear ha hb hE0 hBS hBT hBR
  go_enter Tryd.func6, Tryd.ntmps6
  go_wp2_with fail
  rw [HE0.out]
  refine (tosFo a ca O _ (HA.out.below hA) hn1).mono ?_
  rintro e w1 ⟨g, rfl, hg0, hg1, hO, hb1⟩
  have P1 := (Kept.refl w.heap.size E0).below hb1
  have hx1 := chain hA hb1
  have fz : ∀ o, w1.frozen? ⟨w.heap.size + 1, o, none⟩ = false ∧ w1.frozen? ⟨w.heap.size + 1 + 1, o, none⟩ = false := fun o => ⟨((bcell hb1).2 _ _ (by omega)).trans (FZ.out o).1, ((bcell hb1).2 _ _ (by omega)).trans (FZ.out o).2⟩
  have hs1 := hb1.size
  obtain ⟨p0, p1⟩ := cells2 (P1.box (Nat.le_refl _) HBS.out)
  obtain ⟨q0, q1⟩ := cells2 (P1.box (by omega) HBT.out)
  obtain ⟨r0, r1⟩ := cells2 (P1.box (by omega) HBR.out)
  have f0 := (fz 0).2
  obtain ⟨W2, hW2⟩ : ∃ W, W = w1.setCell ⟨w.heap.size + 1 + 1, 0, none⟩ (.slice (some ⟨g, 0, none⟩) O.length O.length) := ⟨_, rfl⟩
  have HW2 := hid hW2.symm
  have K2 : KeepS (fun b => b = w.heap.size + 1 + 1) w1 W2 := by rw [hW2]; exact (KeepS.refl (fun b => b = w.heap.size + 1 + 1) w1).setCell (p := ⟨w.heap.size + 1 + 1, 0, none⟩) rfl _
  have HO2 := hid (hO.keepS K2 (fun b o e => by cases e; omega))
  have hx2 : Below w.heap.size w W2 := by rw [hW2]; exact hx1.setCell (p := ⟨w.heap.size + 1 + 1, 0, none⟩) (by show w.heap.size ≤ w.heap.size + 1 + 1; omega) _
  have hs2 : W2.heap.size = w1.heap.size := by rw [hW2]; simp
  have r0' : W2.cell? ⟨w.heap.size + 1 + 1, 0, none⟩ = some (.slice (some ⟨g, 0, none⟩) O.length O.length) := by rw [hW2]; simp [r0]
  have r1' : W2.cell? ⟨w.heap.size + 1 + 1, 1, none⟩ = some (.slice none 0 0) := by rw [hW2]; simp [r1]
  have q0' : W2.cell? ⟨w.heap.size + 1, 0, none⟩ = some (.slice none 0 0) := by rw [hW2]; simp [q0]
  have q1' : W2.cell? ⟨w.heap.size + 1, 1, none⟩ = some (.slice none 0 0) := by rw [hW2]; simp [q1]
  have fz2 : ∀ o, W2.frozen? ⟨w.heap.size + 1, o, none⟩ = false ∧ W2.frozen? ⟨w.heap.size + 1 + 1, o, none⟩ = false := by intro o; rw [hW2]; constructor <;> simp [fz]
  clear hO hW2 K2
  go_wp2_with fail
  rw [HW2.out]
  refine (tosFu b cb U _ (HB.out.below hx2) hm1).mono ?_
  rintro e w3 ⟨g2, rfl, hg2, hg3, hU, hb3⟩
  obtain ⟨hc, hf⟩ := bcell hb3
  have r0 := (hc (w.heap.size + 1 + 1) 0 (by omega)).trans r0'
  have r1 := (hc (w.heap.size + 1 + 1) 1 (by omega)).trans r1'
  have q0 := (hc (w.heap.size + 1) 0 (by omega)).trans q0'
  have q1 := (hc (w.heap.size + 1) 1 (by omega)).trans q1'
  have f1 : w3.frozen? ⟨w.heap.size + 1 + 1, 1, none⟩ = false := (hf (w.heap.size + 1 + 1) 1 (by omega)).trans (fz2 1).2
  have f2 : w3.frozen? ⟨w.heap.size + 1, 0, none⟩ = false := (hf (w.heap.size + 1) 0 (by omega)).trans (fz2 0).1
  have f3 : w3.frozen? ⟨w.heap.size + 1, 1, none⟩ = false := (hf (w.heap.size + 1) 1 (by omega)).trans (fz2 1).1
  have HO3 := hid (HO2.out.below hb3)
  have HU3 := hid hU
  have hx3 := chain hx2 hb3
  have KF := (((KeepS.refl (fun b => b = w.heap.size + 1 ∨ b = w.heap.size + 1 + 1) w3).setCell (p := ⟨w.heap.size + 1 + 1, 1, none⟩) (.inr rfl) (.slice (some ⟨g2, 0, none⟩) U.length U.length)).setCell (p := ⟨w.heap.size + 1, 0, none⟩) (.inl rfl) (.slice (some ⟨g, 0, none⟩) O.length O.length)).setCell (p := ⟨w.heap.size + 1, 1, none⟩) (.inl rfl) (.slice (some ⟨g2, 0, none⟩) U.length U.length)
  have FIN := hid (p := FoAt (((w3.setCell ⟨w.heap.size + 1 + 1, 1, none⟩ (.slice (some ⟨g2, 0, none⟩) U.length U.length)).setCell ⟨w.heap.size + 1, 0, none⟩ (.slice (some ⟨g, 0, none⟩) O.length O.length)).setCell ⟨w.heap.size + 1, 1, none⟩ (.slice (some ⟨g2, 0, none⟩) U.length U.length)) (some ⟨g, 0, none⟩) O ∧ FuAt (((w3.setCell ⟨w.heap.size + 1 + 1, 1, none⟩ (.slice (some ⟨g2, 0, none⟩) U.length U.length)).setCell ⟨w.heap.size + 1, 0, none⟩ (.slice (some ⟨g, 0, none⟩) O.length O.length)).setCell ⟨w.heap.size + 1, 1, none⟩ (.slice (some ⟨g2, 0, none⟩) U.length U.length)) (some ⟨g2, 0, none⟩) U ∧ Below w.heap.size w (((w3.setCell ⟨w.heap.size + 1 + 1, 1, none⟩ (.slice (some ⟨g2, 0, none⟩) U.length U.length)).setCell ⟨w.heap.size + 1, 0, none⟩ (.slice (some ⟨g, 0, none⟩) O.length O.length)).setCell ⟨w.heap.size + 1, 1, none⟩ (.slice (some ⟨g2, 0, none⟩) U.length U.length))) ⟨HO3.out.keepS KF (fun b o e => by cases e; omega), HU3.out.keepS KF (fun b o e => by cases e; omega), ((hx3.setCell (p := ⟨w.heap.size + 1 + 1, 1, none⟩) (by show w.heap.size ≤ w.heap.size + 1 + 1; omega) _).setCell (p := ⟨w.heap.size + 1, 0, none⟩) (by show w.heap.size ≤ w.heap.size + 1; omega) _).setCell (p := ⟨w.heap.size + 1, 1, none⟩) (by show w.heap.size ≤ w.heap.size + 1; omega) _⟩
  clear hc hf hU hb3 r0' r1' q0' q1' fz fz2 hs2 hs1 KF
  go_wp2
  exact bodyPost_ret (v := .agg #[.slice (some ⟨g, 0, none⟩) O.length O.length, .slice (some ⟨g2, 0, none⟩) U.length U.length]) (by simp [results, Tryd.results6, go_sem, q0, q1]) rfl ⟨g, g2, rfl, FIN.out⟩
theorem eqfast_laws (a b a2 b2 : Option Addr) (ca cb c2 d2 : Nat) (O : List FO) (U : List FU) (n m : Nat) (hn : O.length = n) (hm : U.length = m) (w : World) (ha : FoAt w a O) (hb : FuAt w b U) (ha2 : FoAt w a2 O) (hb2 : FuAt w b2 U) (hn1 : n ≤ maxLen) (hm1 : m ≤ maxLen) :
    Calls Tryd.prog 8 #[.agg #[.slice a n ca, .slice b m cb], .agg #[.slice a2 n c2, .slice b2 m d2]] w fun e w' => e = .returned (.bool true) ∧ Below w.heap.size w w' := by
  subst hn hm
  have HA := hid ha
  have HB := hid hb
  have HA2 := hid ha2
  have HB2 := hid hb2
  clear ha hb ha2 hb2
  go_enter Tryd.func8, Tryd.ntmps8
  have hA : Below w.heap.size w ((w.alloc (.cells #[.slice a O.length ca, .slice b U.length cb] 31)).alloc (.cells #[.slice a2 O.length c2, .slice b2 U.length d2] 31)) := ((Below.refl _ _).alloc (Nat.le_refl _) _).alloc (by simp) _
  go_wp2_with fail
  refine (eqsFo a a2 ca c2 O _ (HA.out.below hA) (HA2.out.below hA) hn1).mono ?_
  rintro e w1 ⟨rfl, hb1⟩
  have hx := chain hA hb1
  obtain ⟨hc, hf⟩ := bcell hb1
  have c1 : w1.cell? ⟨w.heap.size, 1, none⟩ = some (.slice b U.length cb) := by rw [hc _ _ (by simp; omega)]; simp
  have d1 : w1.cell? ⟨w.heap.size + 1, 1, none⟩ = some (.slice b2 U.length d2) := by rw [hc _ _ (by simp)]; simp
  clear hc hf hb1
  go_wp2_with fail
  refine (eqsFu b b2 cb d2 U _ (HB.out.below hx) (HB2.out.below hx) hm1).mono ?_
  rintro e w2 ⟨rfl, hb2⟩
  have hx2 := chain hx hb2
  clear hb2 c1 d1
  go_wp2
  go_ret
  exact ⟨rfl, hx2⟩
end Go.Proofs.YtmhamgcjmehnnaaDoor
