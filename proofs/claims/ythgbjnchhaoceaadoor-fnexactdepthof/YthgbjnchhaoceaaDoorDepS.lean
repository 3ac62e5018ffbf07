/-
  The contract of the model's DepthOf.
-/
import Derived.Test.YthgbjnchhaoceaaDoorDepMath
import Derived.Test.YthgbjnchhaoceaaDoorSumS
namespace Go.Proofs.YthgbjnchhaoceaaDoor
open Go.ChangeShapes Go.WideShapes Go.ChangeAt Go.RowKit
attribute [local go_sem ↓] Go.wp_at_zero Go.wp_at_succ
attribute [local simp] World.cell?_alloc_past World.cell?_alloc_at World.frozen?_alloc_at cell_far cell_off cell_here World.frozen?_alloc_past

theorem max_spec (a b : Nat) (r : Nat) (hr : max a b = r) (w : World) :
    Calls Tryd.prog 19 #[.int .i64 (a : Int), .int .i64 (b : Int)] w fun e w' => e = .returned (.int .i64 (r : Int)) ∧ w' = w := by
  by_cases h : (b : Int) < (a : Int)
  · obtain rfl : a = r := by omega
    clear hr
    go_enter Tryd.func19, Tryd.ntmps19
    go_wp2
    go_ret
    exact ⟨rfl, rfl⟩
  · obtain rfl : b = r := by omega
    clear hr
    go_enter Tryd.func19, Tryd.ntmps19
    go_wp2
    go_ret
    exact ⟨rfl, rfl⟩
set_option maxRecDepth 100000 in
set_option maxHeartbeats 2000000 in
theorem depth_spec (a : Option Addr) (cap : Nat) (l : List TI) (n : Nat) (hnl : l.length = n) (w : World) (hrow : ItmAt w a l) (hfit : FitItm l) (hm : n ≤ maxLen) (d : Nat) (hd : depthR l = d) :
    Calls Tryd.prog 9 #[.slice a n cap] w fun e w' => e = .returned (.int .i64 (d : Int)) ∧ Below w.heap.size w w' := by
  have HR : Hid (ItmAt w a l) := hrow
  have HF : Hid (FitItm l) := hfit
  have HL : Hid (l.length = n) := hnl
  obtain ⟨b, hb⟩ : ∃ b, sumB l = b := ⟨_, rfl⟩
  have HB : Hid (sumB l = b) := hb
  have HD : Hid (depthR l = d) := hd
  clear hrow hfit hnl hd hb
  cases b
  · obtain rfl : 0 = d := by
      rw [← HD.out]; unfold depthR; rw [if_neg (by rw [HB.out]; decide)]
    go_enter Tryd.func9, Tryd.ntmps9
    go_wp2_with fail
    refine (sum_spec _ _ l n HL.out _ HR.out HF.out hm false HB.out).mono ?_
    rintro e w1 ⟨rfl, hb1⟩
    go_wp2
    go_ret
    exact ⟨rfl, hb1⟩
  have hn40 : n ≤ 40 := by
    have := (sum_heap HB.out).2
    rw [HL.out] at this
    exact this
  have HDD : Hid (depF l 0 0 = d) := by
    have : depF l 0 0 = d := by rw [← HD.out]; unfold depthR; rw [if_pos HB.out]
    exact this
  clear HD
  go_enter Tryd.func9, Tryd.ntmps9
  go_wp2_with fail
  refine (sum_spec _ _ l n HL.out _ HR.out HF.out hm true HB.out).mono ?_
  rintro e w1 ⟨rfl, hb1⟩
  go_wp2
  go_loopw [3, 4, 5] (fun nv mv iv wr => ∃ k c x : Nat, k ≤ n ∧ iv = .int .i64 k ∧ nv = .int .i64 c ∧ mv = .int .i64 x ∧ c ≤ k ∧ x ≤ 40 ∧ Hid (highF (l.take k) 0 = c ∧ depF (l.take k) 0 0 = x) ∧ Below w.heap.size w wr) (fun _ _ iv _ => n - (intOf iv).toNat)
  case atStart => exact ⟨0, 0, 0, Nat.zero_le _, rfl, rfl, rfl, Nat.le_refl _, by omega, ⟨rfl, rfl⟩, hb1⟩
  case round =>
    obtain ⟨k, c, x, hk, rfl, rfl, rfl, hck, hx40, hh, hbw⟩ := hrel
    by_cases hlt : k < n
    · have hlk : k < l.length := by rw [HL.out]; exact hlt
      obtain ⟨g, o, rfl, hgw, c0, c1, c2, c3, c4⟩ := HR.out.below hbw k hlk
      have hi0 : (0 : Int) ≤ (k : Int) := by omega
      have hi1 : (k : Int) < (n : Int) := by omega
      obtain ⟨hit, hne⟩ := sum_needs HB.out hlk
      rw [hh.out.1] at hne
      have hst := highF_snoc hlk 0
      have hsd := depF_snoc hlk 0 0
      rw [hh.out.1] at hst hsd
      rw [hh.out.2] at hsd
      have hds : depF (l.take (k + 1)) 0 0 ≤ 40 := by
        have := depF_le (l.take (k + 1)) 0 0
        rw [List.length_take] at this
        have := HL.out
        omega
      obtain ⟨nd, hnd⟩ : ∃ d, needsI l[k].1 = d := ⟨_, rfl⟩
      have HN : Hid (needsI l[k].1 = nd) := hnd
      rw [hnd] at hne hst hsd
      rw [hsd] at hds
      obtain ⟨c', hc'⟩ : ∃ c', c + 1 - nd = c' := ⟨_, rfl⟩
      obtain ⟨x', hx'⟩ : ∃ x', max x c' = x' := ⟨_, rfl⟩
      rw [hc', hx'] at hds
      have HH : Hid (highF (l.take (k + 1)) 0 = c' ∧ depF (l.take (k + 1)) 0 0 = x') := by
        have : highF (l.take (k + 1)) 0 = c' ∧ depF (l.take (k + 1)) 0 0 = x' := ⟨by rw [hst, hc'], by rw [hsd, hc', hx']⟩
        exact this
      have HX : Hid (max x c' = x') := hx'
      have hz : (c : Int) + 1 - (nd : Int) = (c' : Int) := by omega
      have hc41 : c' ≤ k + 1 := by omega
      clear hst hsd hnd hit hx' hh hc' c1 c2 c3 c4
      generalize l[k] = y at c0 HN
      go_wp2_with fail
      refine (needs_spec y.1 nd HN.out _).mono ?_
      rintro e w2 ⟨rfl, rfl⟩
      go_wp2_with fail
      refine (max_spec x c' x' HX.out _).mono ?_
      rintro e w3 ⟨rfl, rfl⟩
      go_wp2
      go_roundw
      case rel => exact ⟨k + 1, c', x', by omega, by go_num, rfl, rfl, hc41, hds, HH, hbw⟩
      case measure => simp [intOf]; omega
    · have hkl : k = n := by omega
      subst hkl
      have hi1 : ¬ (k : Int) < (k : Int) := by omega
      have hh2 := hh.out.2
      rw [List.take_of_length_le (by rw [HL.out]; exact Nat.le_refl _), HDD.out] at hh2
      subst hh2
      clear hh HDD
      go_wp2
      go_ret
      exact ⟨rfl, hbw⟩
end Go.Proofs.YthgbjnchhaoceaaDoor
