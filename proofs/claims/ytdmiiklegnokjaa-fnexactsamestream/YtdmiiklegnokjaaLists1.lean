/-
  Lists of cells: how a slice of cells lies in memory, and the contract of the law's helper that measures one.
-/
import Derived.Test.YtdmiiklegnokjaaBase
namespace Go.Proofs.Ytdmiiklegnokjaa
open Go.ChangeShapes Go.WideShapes Go.ChangeAt Go.RowKit
attribute [local go_sem ↓] Go.wp_at_zero Go.wp_at_succ

/-- A cell: kind, number, text. -/
abbrev CT := Int × Int × ByteArray
/-- The cells of a slice lie where it says. -/
def RowAt (w : World) (a : Option Addr) (l : List CT) : Prop :=
  ∀ j (h : j < l.length), ∃ b o, a = some ⟨b, o, none⟩ ∧ b < w.heap.size ∧ w.cell? ⟨b, o + j * 3, none⟩ = some (.int .i64 l[j].1) ∧ w.cell? ⟨b, o + j * 3 + 1, none⟩ = some (.int .i64 l[j].2.1) ∧ w.cell? ⟨b, o + j * 3 + 2, none⟩ = some (.string l[j].2.2)
theorem RowAt.below {w w' : World} {a : Option Addr} {l : List CT} (h : RowAt w a l) (hb : Below w.heap.size w w') : RowAt w' a l := by
  intro j hj
  obtain ⟨b, o, ha, hlt, h0, h1, h2⟩ := h j hj
  refine ⟨b, o, ha, Nat.lt_of_lt_of_le hlt hb.size, ?_, ?_, ?_⟩
  · rw [hb.cell (p := ⟨b, _, none⟩) hlt]; exact h0
  · rw [hb.cell (p := ⟨b, _, none⟩) hlt]; exact h1
  · rw [hb.cell (p := ⟨b, _, none⟩) hlt]; exact h2
/-- No text is longer than a text can be. -/
def Fit (l : List CT) : Prop := ∀ j (h : j < l.length), (l[j]).2.2.size ≤ maxLen
/-- How many bytes the texts of a list have. -/
def weight (l : List CT) : Nat := (l.map (·.2.2.size)).sum
theorem weight_take (l : List CT) (k : Nat) (h : k < l.length) : weight (l.take (k + 1)) = weight (l.take k) + (l[k]).2.2.size := by
  unfold weight
  rw [List.take_succ_eq_append_getElem h, List.map_append, List.sum_append]; simp
theorem weight_le (l : List CT) (k : Nat) : weight (l.take k) ≤ weight l := by
  unfold weight
  conv => rhs; rw [← List.take_append_drop k l, List.map_append, List.sum_append]
  omega

/-- What is left of a measure behind a list; -1 where it does not last. -/
def leftOf (l : List CT) (left : Int) : Int := if left < (l.length : Int) + (weight l : Int) then -1 else left - l.length - weight l

set_option maxHeartbeats 1000000 in
theorem szs_laws (a : Option Addr) (cap : Nat) (l : List CT) (left : Int) (w : World) (hrow : RowAt w a l) (hfit : Fit l) (hm : l.length ≤ maxLen) (h0 : 0 ≤ left) (h1 : left ≤ 1048576) :
    Calls Try.prog 16 #[.slice a l.length cap, .int .i64 left] w fun e w' => e = .returned (.int .i64 (leftOf l left)) ∧ Below w.heap.size w w' := by
  have hR : Hid (RowAt w a l) := hrow
  have hF : Hid (Fit l) := hfit
  clear hrow hfit
  by_cases hlen : left < (l.length : Int)
  · have hneg : left - (l.length : Int) < 0 := by omega
    rw [show leftOf l left = -1 from if_pos (by omega)]
    unfold maxLen at hm
    go_enter Try.func16, Try.ntmps16
    go_wp2
    go_ret
    exact ⟨rfl, Below.refl _ _⟩
  have hneg : 0 ≤ left - (l.length : Int) := by omega
  go_enter Try.func16, Try.ntmps16
  go_wp2
  go_loopw [1, 5] (fun s i wr => ∃ k : Nat, k ≤ l.length ∧ i = .int .i64 k ∧ s = .int .i64 (left - l.length - weight (l.take k)) ∧ 0 ≤ left - l.length - weight (l.take k) ∧ Below w.heap.size w wr)
    (fun _ i _ => l.length - (intOf i).toNat)
  case atStart => exact ⟨0, Nat.zero_le _, rfl, by simp [weight], by simp [weight]; omega, Below.refl _ _⟩
  case round =>
    obtain ⟨k, hk, rfl, rfl, hpos, hb⟩ := hrel
    by_cases hlt : k < l.length
    · obtain ⟨b, o, rfl, hbw, c0, c1, c2⟩ := hR.out.below hb k hlt
      have hi0 : (0 : Int) ≤ (k : Int) := by omega
      have hi1 : (k : Int) < (l.length : Int) := by omega
      have hwt := weight_take l k hlt
      have hft := hF.out k hlt
      generalize l[k] = x at c0 c1 c2 hwt hft
      generalize weight (l.take k) = W at *
      by_cases hs : left - (l.length : Int) - (W : Int) < (x.2.2.size : Int)
      · go_wp2_with fail
        refine (sz_laws _ _ _ _ _ hft (by omega) (by omega)).mono ?_
        rw [if_pos (by omega)]
        rintro e w1 ⟨rfl, hb1⟩
        go_wp2
        go_ret
        have hwl := weight_le l (k + 1)
        exact ⟨ret_int (by rw [leftOf, if_pos (by omega)]), chain hb hb1⟩
      · have hp2 : 0 ≤ left - (l.length : Int) - (W : Int) - (x.2.2.size : Int) := by omega
        go_wp2_with fail
        refine (sz_laws _ _ _ _ _ hft (by omega) (by omega)).mono ?_
        rw [if_neg (by omega)]
        rintro e w1 ⟨rfl, hb1⟩
        go_wp2
        go_roundw
        case rel => exact ⟨k + 1, by omega, by go_num, by rw [hwt]; congr 1; omega, by rw [hwt]; omega, chain hb hb1⟩
        case measure => simp [intOf]; omega
    · have hkl : k = l.length := by omega
      subst hkl
      rw [List.take_length] at hpos ⊢
      go_wp2
      go_ret
      exact ⟨ret_int (by rw [leftOf, if_neg (by omega)]), hb⟩

end Go.Proofs.Ytdmiiklegnokjaa
