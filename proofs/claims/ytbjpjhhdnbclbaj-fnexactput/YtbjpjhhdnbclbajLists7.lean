/-
  The contract of the law's helper that looks whether the marks of a list of cells are still there.
-/
import Derived.Test.YtbjpjhhdnbclbajLists6
namespace Go.Proofs.Ytbjpjhhdnbclbaj
open Go.ChangeShapes Go.WideShapes Go.ChangeAt Go.RowKit
attribute [local go_sem ↓] Go.wp_at_zero Go.wp_at_succ

set_option maxHeartbeats 2000000 in
theorem held_laws (a : Option Addr) (cap n : Nat) (k : Nat) (w : World) (hrow : RowAt w a (marks k n)) (h0 : 0 < k) (h1 : k + 3 * n ≤ 1099511627776) :
    Calls Try.prog 36 #[.slice a n cap, .int .i64 k] w fun e w' => e = .returned (.int .i64 ((k + 3 * n : Nat) : Int)) ∧ Below w.heap.size w w' := by
  have hR : Hid (RowAt w a (marks k n)) := hrow
  clear hrow
  go_enter Try.func36, Try.ntmps36
  go_wp2
  go_loopw [1, 5] (fun s i wr => ∃ m : Nat, m ≤ n ∧ i = .int .i64 m ∧ s = .int .i64 ((k + 3 * m : Nat) : Int) ∧ Below w.heap.size w wr)
    (fun _ i _ => n - (intOf i).toNat)
  case atStart => exact ⟨0, Nat.zero_le _, rfl, by simp, Below.refl _ _⟩
  case round =>
    obtain ⟨m, hm, rfl, rfl, hx⟩ := hrel
    by_cases hlt : m < n
    · have hl2 : m < (marks k n).length := by rw [marks_length]; exact hlt
      obtain ⟨b, o, rfl, hbw, c0, c1, c2⟩ := hR.out.below hx m hl2
      rw [marks_at] at c0 c1 c2
      have d0 : wr.cell? ⟨b, o + m * 3, none⟩ = some (.int .i64 ((k : Int) + 3 * (m : Int))) := by rw [c0]; simp [mark1]
      have d1 : wr.cell? ⟨b, o + m * 3 + 1, none⟩ = some (.int .i64 ((k : Int) + 3 * (m : Int) + 1)) := by rw [c1]; simp [mark1]
      have d2 : wr.cell? ⟨b, o + m * 3 + 2, none⟩ = some (.string (mt (k + 3 * m + 2))) := by rw [c2]; simp [mark1]
      clear c0 c1 c2
      generalize hT : mt (k + 3 * m + 2) = T at d2
      have hi0 : (0 : Int) ≤ (m : Int) := by omega
      have hi1 : (m : Int) < (n : Int) := by omega
      go_wp2_with fail
      go_region_held3 (fun w' => w'.cell? ⟨b, o + m * 3 + 2, none⟩ = some (.string T))
        (((try dsimp only); first | (go_keep; done) | (simp (disch := first | omega | (simp <;> omega) | fail) [*]; done) | fail))
        ((go_at_call 55; refine (text_lawsN (k + 3 * m + 2) _ (by omega) _ (by omega) (by omega)).mono ?_; rw [hT]; rintro e w1 ⟨rfl, hb1⟩; obtain ⟨hc, hf⟩ := bcell hb1))
      all_goals
        go_wp2
        go_roundw
        case rel => exact ⟨m + 1, by omega, by go_num, by go_num, chain hx (undrew hb1)⟩
        case measure => simp [intOf]; omega
    · have hkl : m = n := by omega
      subst hkl
      go_wp2
      go_ret
      exact ⟨rfl, hx⟩

end Go.Proofs.Ytbjpjhhdnbclbaj
