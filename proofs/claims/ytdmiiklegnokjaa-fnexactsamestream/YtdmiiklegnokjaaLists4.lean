/-
  Lists of lists of cells: how they lie in memory, and the contracts of the law's helpers that measure them and hold two of them against each other.
-/
import Derived.Test.YtdmiiklegnokjaaLists3
namespace Go.Proofs.Ytdmiiklegnokjaa
open Go.ChangeShapes Go.WideShapes Go.ChangeAt Go.RowKit
attribute [local go_sem ↓] Go.wp_at_zero Go.wp_at_succ

/-- The lists of a slice of slices lie where it says. -/
def RowsAt (w : World) (a : Option Addr) (L : List (List CT)) : Prop :=
  ∀ i (h : i < L.length), ∃ b o ai ci, a = some ⟨b, o, none⟩ ∧ b < w.heap.size ∧ w.cell? ⟨b, o + i, none⟩ = some (.slice ai L[i].length ci) ∧ RowAt w ai L[i] ∧ Fit L[i] ∧ L[i].length ≤ maxLen ∧ (ai = none → ci = 0)
theorem RowsAt.below {w w' : World} {a : Option Addr} {L : List (List CT)} (h : RowsAt w a L) (hb : Below w.heap.size w w') : RowsAt w' a L := by
  intro i hi
  obtain ⟨b, o, ai, ci, ha, hlt, h0, h1, h2⟩ := h i hi
  refine ⟨b, o, ai, ci, ha, Nat.lt_of_lt_of_le hlt hb.size, ?_, h1.below hb, h2⟩
  rw [hb.cell (p := ⟨b, _, none⟩) hlt]; exact h0
/-- How much a list of lists takes of a measure. -/
def total (L : List (List CT)) : Nat := (L.map fun l => l.length + weight l).sum
theorem total_take (L : List (List CT)) (k : Nat) (h : k < L.length) : total (L.take (k + 1)) = total (L.take k) + ((L[k]).length + weight L[k]) := by
  unfold total
  rw [List.take_succ_eq_append_getElem h, List.map_append, List.sum_append]; simp
theorem total_le (L : List (List CT)) (k : Nat) : total (L.take k) ≤ total L := by
  unfold total
  conv => rhs; rw [← List.take_append_drop k L, List.map_append, List.sum_append]
  omega

/-- What is left of a measure behind a list of lists; -1 where it does not last. -/
def leftOfs (L : List (List CT)) (left : Int) : Int := if left < (L.length : Int) + (total L : Int) then -1 else left - L.length - total L

set_option maxHeartbeats 1000000 in
theorem szss_laws (a : Option Addr) (cap : Nat) (L : List (List CT)) (left : Int) (w : World) (hrow : RowsAt w a L) (hm : L.length ≤ maxLen) (h0 : 0 ≤ left) (h1 : left ≤ 1048576) :
    Calls Try.prog 9 #[.slice a L.length cap, .int .i64 left] w fun e w' => e = .returned (.int .i64 (leftOfs L left)) ∧ Below w.heap.size w w' := by
  have hR : Hid (RowsAt w a L) := hrow
  clear hrow
  by_cases hlen : left < (L.length : Int)
  · have hneg : left - (L.length : Int) < 0 := by omega
    rw [show leftOfs L left = -1 from if_pos (by omega)]
    unfold maxLen at hm
    go_enter Try.func9, Try.ntmps9
    go_wp2
    go_ret
    exact ⟨rfl, Below.refl _ _⟩
  have hneg : 0 ≤ left - (L.length : Int) := by omega
  go_enter Try.func9, Try.ntmps9
  go_wp2
  go_loopw [1, 5] (fun s i wr => ∃ k : Nat, k ≤ L.length ∧ i = .int .i64 k ∧ s = .int .i64 (left - L.length - total (L.take k)) ∧ 0 ≤ left - L.length - total (L.take k) ∧ Below w.heap.size w wr)
    (fun _ i _ => L.length - (intOf i).toNat)
  case atStart => exact ⟨0, Nat.zero_le _, rfl, by simp [total], by simp [total]; omega, Below.refl _ _⟩
  case round =>
    obtain ⟨k, hk, rfl, rfl, hpos, hb⟩ := hrel
    by_cases hlt : k < L.length
    · obtain ⟨b, o, ai, ci, rfl, hbw, c0, hra, hft, hml, _⟩ := hR.out.below hb k hlt
      have hi0 : (0 : Int) ≤ (k : Int) := by omega
      have hi1 : (k : Int) < (L.length : Int) := by omega
      have hwt := total_take L k hlt
      have hwl := total_le L (k + 1)
      have hRA : Hid (RowAt wr ai L[k]) := hra
      have hFT : Hid (Fit L[k]) := hft
      clear hra hft
      generalize L[k] = x at c0 hwt hRA hFT hml
      generalize total (L.take k) = W at *
      by_cases hs : left - (L.length : Int) - (W : Int) < (x.length : Int) + (weight x : Int)
      · have e : leftOf x (left - (L.length : Int) - (W : Int)) = -1 := if_pos hs
        go_wp2_with fail
        refine (szs_laws _ _ _ _ _ hRA.out hFT.out hml (by omega) (by omega)).mono ?_
        rw [e]
        rintro e w1 ⟨rfl, hb1⟩
        go_wp2
        go_ret
        exact ⟨ret_int (by rw [leftOfs, if_pos (by omega)]), chain hb hb1⟩
      · have e : leftOf x (left - (L.length : Int) - (W : Int)) = left - (L.length : Int) - (W : Int) - x.length - weight x := if_neg hs
        have hp2 : 0 ≤ left - (L.length : Int) - (W : Int) - x.length - weight x := by omega
        go_wp2_with fail
        refine (szs_laws _ _ _ _ _ hRA.out hFT.out hml (by omega) (by omega)).mono ?_
        rw [e]
        rintro e w1 ⟨rfl, hb1⟩
        go_wp2
        go_roundw
        case rel => exact ⟨k + 1, by omega, by go_num, by rw [hwt]; congr 1; omega, by rw [hwt]; omega, chain hb hb1⟩
        case measure => simp [intOf]; omega
    · have hkl : k = L.length := by omega
      subst hkl
      rw [List.take_length] at hpos ⊢
      go_wp2
      go_ret
      exact ⟨ret_int (by rw [leftOfs, if_neg (by omega)]), hb⟩

set_option maxHeartbeats 1000000 in
theorem eqss_laws (a b : Option Addr) (ca cb : Nat) (L : List (List CT)) (w : World) (ha : RowsAt w a L) (hb : RowsAt w b L) (hm : L.length ≤ maxLen) :
    Calls Try.prog 15 #[.slice a L.length ca, .slice b L.length cb] w fun e w' => e = .returned (.bool true) ∧ Below w.heap.size w w' := by
  have hA : Hid (RowsAt w a L) := ha
  have hB : Hid (RowsAt w b L) := hb
  clear ha hb
  unfold maxLen at hm
  go_enter Try.func15, Try.ntmps15
  go_wp2
  go_loopw [5] (fun i wr => ∃ k : Nat, k ≤ L.length ∧ i = .int .i64 k ∧ Below w.heap.size w wr) (fun i _ => L.length - (intOf i).toNat)
  case atStart => exact ⟨0, Nat.zero_le _, rfl, Below.refl _ _⟩
  case round =>
    obtain ⟨k, hk, rfl, hx⟩ := hrel
    by_cases hlt : k < L.length
    · obtain ⟨b1, o1, a1, i1, rfl, hbw, c0, hra, hft, hml, _⟩ := hA.out.below hx k hlt
      obtain ⟨b2, o2, a2, i2, rfl, hbw2, d0, hrb, _, _⟩ := hB.out.below hx k hlt
      have hi0 : (0 : Int) ≤ (k : Int) := by omega
      have hi1 : (k : Int) < (L.length : Int) := by omega
      have hRA : Hid (RowAt wr a1 L[k]) := hra
      have hRB : Hid (RowAt wr a2 L[k]) := hrb
      clear hra hrb hft
      generalize L[k] = x at c0 d0 hRA hRB hml
      go_wp2_with fail
      go_region_held3 (fun w' => w'.cell? ⟨b1, o1 + k, none⟩ = some (.slice a1 x.length i1) ∧ w'.cell? ⟨b2, o2 + k, none⟩ = some (.slice a2 x.length i2))
        (((try dsimp only); (repeat' apply And.intro) <;> first | (go_keep; done) | (simp (disch := first | omega | (simp <;> omega) | fail) [*]; done) | fail))
        ((go_at_call 18; refine (eqs_laws _ _ _ _ _ _ (hRA.out.below (Below.refl _ _).drew) (hRB.out.below (Below.refl _ _).drew) hml).mono ?_; rintro e w1 ⟨rfl, hb1⟩; obtain ⟨hc, hf⟩ := bcell hb1))
      all_goals
        go_wp2
        go_roundw
        case rel => exact ⟨k + 1, by omega, by go_num, chain hx (undrew hb1)⟩
        case measure => simp [intOf]; omega
    · go_wp2
      go_ret
      exact ⟨rfl, hx⟩

end Go.Proofs.Ytdmiiklegnokjaa
