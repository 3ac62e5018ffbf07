/-
  The contract of the model's AllNumbers.
-/
import Derived.Test.YtbjpjhhdnbclbakTab4
namespace Go.Proofs.Ytbjpjhhdnbclbak
open Go.ChangeShapes Go.WideShapes Go.ChangeAt Go.RowKit
attribute [local go_sem ↓] Go.wp_at_zero Go.wp_at_succ
attribute [local simp] World.cell?_alloc_past World.cell?_alloc_at World.frozen?_alloc_at cell_far cell_off cell_here World.frozen?_alloc_past

/-- Are all cells of a column numbers? -/
def allNum (t : TB) (col : Int) : Bool := decide (0 < t.2.2.length) && decide ((censusR t col)[1]? = some (t.2.2.length : Int))
theorem censusR_form (t : TB) (col : Int) : censusR t col = [] ∨ ∃ a b c d, censusR t col = [a, b, c, d] := by
  unfold censusR
  split
  · exact .inr ⟨_, _, _, _, rfl⟩
  · exact .inl rfl

set_option maxRecDepth 100000 in
set_option maxHeartbeats 4000000 in
theorem allnum_spec (ca : Option Addr) (cc : Nat) (ra : Option Addr) (cr : Nat) (t : TB) (nc nr : Nat) (hnc : t.2.1.length = nc) (hnr : t.2.2.length = nr) (w : World) (ht : TabAt w ca cc ra t) (col : Int) (b : Bool) (hb : allNum t col = b) :
    Calls Try.prog 14 #[.agg #[.string t.1, .slice ca nc cc, .slice ra nr cr], .int .i64 col] w fun e w' => e = .returned (.bool b) ∧ Below w.heap.size w w' := by
  obtain ⟨nm, C, L⟩ := t
  dsimp only at hnc hnr ⊢
  have HT : Hid (TabAt w ca cc ra (nm, C, L)) := ht
  have HNC : Hid (C.length = nc) := hnc
  have HNR : Hid (L.length = nr) := hnr
  have hnrM : nr ≤ maxLen := by rw [← hnr]; exact ht.lenR
  unfold maxLen at hnrM
  have hA : Below w.heap.size w (w.alloc (.cells #[.string nm, .slice ca nc cc, .slice ra nr cr] 31)) := (Below.refl _ _).alloc (Nat.le_refl _) _
  have hb' : (decide (0 < nr) && decide ((censusR (nm, C, L) col)[1]? = some (nr : Int))) = b := by rw [← hb, ← hnr]; rfl
  clear ht hnc hnr hb
  rcases censusR_form (nm, C, L) col with hl | ⟨x0, x1, x2, x3, hl⟩
  · have HL : Hid (censusR (nm, C, L) col = []) := hl
    have e : b = false := by rw [← hb', hl]; simp
    subst e
    clear hl hb'
    go_enter Try.func14, Try.ntmps14
    go_wp2_with fail
    refine (census_spec ca cc ra cr (nm, C, L) nc nr HNC.out HNR.out _ (HT.out.below hA) col [] HL.out).mono ?_
    rintro e w1 ⟨g, c, rfl, own1, hb1⟩
    obtain ⟨p0, p1, p2, p3⟩ := box3 hb1
    have hx1 := chainA hb1
    clear hb1 own1
    go_wp2_with fail
    go_quiet (fail)
    go_wp2
    go_ret
    exact ⟨rfl, belowN hx1 _⟩
  · have HL : Hid (censusR (nm, C, L) col = [x0, x1, x2, x3]) := hl
    have hb2 : (decide (0 < nr) && decide (x1 = (nr : Int))) = b := by rw [← hb', hl]; simp
    clear hl hb'
    go_enter Try.func14, Try.ntmps14
    go_wp2_with fail
    refine (census_spec ca cc ra cr (nm, C, L) nc nr HNC.out HNR.out _ (HT.out.below hA) col _ HL.out).mono ?_
    rintro e w1 ⟨g, c, rfl, own1, hb1⟩
    obtain ⟨p0, p1, p2, p3⟩ := box3 hb1
    have hx1 := chainA hb1
    have m1 : w1.cell? ⟨g, 1, none⟩ = some (.int .i64 x1) := (own1.cellAt 1 (by simp)).trans rfl
    have hg := (own1.lt _ rfl).2
    clear hb1 own1
    by_cases hr0 : 0 < nr
    · have hr1 : (0 : Int) < (nr : Int) := by omega
      rw [decide_eq_true hr0, Bool.true_and] at hb2
      by_cases he : x1 = (nr : Int)
      · rw [decide_eq_true he] at hb2
        subst hb2 he
        go_wp2_with fail
        go_quiet (fail)
        go_wp2
        go_ret
        exact ⟨rfl, belowN hx1 _⟩
      · rw [decide_eq_false he] at hb2
        subst hb2
        have he2 : (x1 == (nr : Int)) = false := by rw [beq_eq_false_iff_ne]; exact he
        go_wp2_with fail
        go_quiet (fail)
        go_wp2
        go_ret
        exact ⟨rfl, belowN hx1 _⟩
    · obtain rfl : nr = 0 := by omega
      have e : b = false := by rw [← hb2]; rfl
      subst e
      clear hb2
      go_wp2_with fail
      go_quiet (fail)
      go_wp2
      go_ret
      exact ⟨rfl, belowN hx1 _⟩

end Go.Proofs.Ytbjpjhhdnbclbak
