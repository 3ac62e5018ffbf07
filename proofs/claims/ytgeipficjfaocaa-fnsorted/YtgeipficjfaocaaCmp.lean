/-
  The contracts of the library's comparisons that the program's order of cells is made of, and of that order.
-/
import Derived.Test.YtgeipficjfaocaaOrder
namespace Go.Proofs.Ytgeipficjfaocaa
open Go.ChangeShapes Go.WideShapes Go.ChangeAt Go.RowKit
attribute [local go_sem ↓] Go.wp_at_zero Go.wp_at_succ
attribute [local simp] World.cell?_alloc_past World.cell?_alloc_at World.frozen?_alloc_at cell_far cell_off cell_here World.frozen?_alloc_past

theorem nan_i (x : Int) (w : World) : Calls Try.prog 103 #[.int .i64 x] w fun e w' => e = .returned (.bool false) ∧ w = w' := by
  go_enter Try.func103, Try.ntmps103
  go_wp2
  go_ret
  exact ⟨by simp, rfl⟩

theorem nan_s (x : ByteArray) (w : World) : Calls Try.prog 104 #[.string x] w fun e w' => e = .returned (.bool false) ∧ w = w' := by
  go_enter Try.func104, Try.ntmps104
  go_wp2
  go_ret
  exact ⟨by simp, rfl⟩

set_option maxHeartbeats 1000000 in
theorem compare_i (x y : Int) (w : World) : Calls Try.prog 99 #[.int .i64 x, .int .i64 y] w fun e w' => e = .returned (.int .i64 (cmpI x y)) ∧ w = w' := by
  by_cases h1 : x < y
  · rw [show cmpI x y = -1 from if_pos h1]
    go_enter Try.func99, Try.ntmps99
    go_wp2_with (go_at_call 103; refine (nan_i _ _).mono ?_; rintro e w' ⟨rfl, rfl⟩)
    go_ret
    exact ⟨rfl, rfl⟩
  by_cases h2 : y < x
  · rw [show cmpI x y = 1 from by rw [cmpI, if_neg h1, if_pos h2]]
    go_enter Try.func99, Try.ntmps99
    go_wp2_with (go_at_call 103; refine (nan_i _ _).mono ?_; rintro e w' ⟨rfl, rfl⟩)
    go_ret
    exact ⟨rfl, rfl⟩
  rw [show cmpI x y = 0 from by rw [cmpI, if_neg h1, if_neg h2]]
  go_enter Try.func99, Try.ntmps99
  go_wp2_with (go_at_call 103; refine (nan_i _ _).mono ?_; rintro e w' ⟨rfl, rfl⟩)
  go_ret
  exact ⟨rfl, rfl⟩

theorem gtr_bl (x y : ByteArray) : (!(Op.bytesLess x.toList y.toList || x.toList == y.toList)) = Op.bytesLess y.toList x.toList := by
  cases h1 : Op.bytesLess x.toList y.toList
  · by_cases h2 : x.toList = y.toList
    · rw [bytes_eq h2, bl_irr]; simp
    · cases h3 : Op.bytesLess y.toList x.toList
      · exact absurd (congrArg _ (bl_tri h1 h3)) h2
      · simp [h2]
  · rw [bl_asym h1]; rfl
theorem run_gtr (x y : ByteArray) (w : World) : (binOp .gtr 9 (.string x) (.string y)).run Try.prog w = .ok (.bool (Op.bytesLess y.toList x.toList)) w := by
  rw [← gtr_bl]; kernel_rfl

set_option maxHeartbeats 1000000 in
theorem compare_s (x y : ByteArray) (w : World) : Calls Try.prog 100 #[.string x, .string y] w fun e w' => e = .returned (.int .i64 (cmpS x y)) ∧ w = w' := by
  have hq : ∀ w, (binOp .gtr 9 (.string x) (.string y)).run Try.prog w = .ok (.bool (Op.bytesLess y.toList x.toList)) w := fun w => run_gtr x y w
  cases h1 : Op.bytesLess x.toList y.toList
  · cases h2 : Op.bytesLess y.toList x.toList
    · rw [show cmpS x y = 0 from by simp [cmpS, h1, h2]]
      rw [h2] at hq
      go_enter Try.func100, Try.ntmps100
      go_wp2_with (go_at_call 104; refine (nan_s _ _).mono ?_; rintro e w' ⟨rfl, rfl⟩)
      go_ret
      exact ⟨rfl, rfl⟩
    · rw [show cmpS x y = 1 from by simp [cmpS, h1, h2]]
      rw [h2] at hq
      go_enter Try.func100, Try.ntmps100
      go_wp2_with (go_at_call 104; refine (nan_s _ _).mono ?_; rintro e w' ⟨rfl, rfl⟩)
      go_ret
      exact ⟨rfl, rfl⟩
  · rw [show cmpS x y = -1 from by simp [cmpS, h1]]
    go_enter Try.func100, Try.ntmps100
    go_wp2_with (go_at_call 104; refine (nan_s _ _).mono ?_; rintro e w' ⟨rfl, rfl⟩)
    go_ret
    exact ⟨rfl, rfl⟩

/-- The first of a list that is not 0. -/
def orL : List Int → Int
  | [] => 0
  | z :: l => if z ≠ 0 then z else orL l

set_option maxHeartbeats 1000000 in
theorem or_cmp (b o cap : Nat) (zs : List Int) (w : World) (h : ∀ j (hj : j < zs.length), w.cell? ⟨b, o + j, none⟩ = some (.int .i64 zs[j])) (hm : zs.length ≤ 1000) :
    Calls Try.prog 98 #[.slice (some ⟨b, o, none⟩) zs.length cap] w fun e w' => e = .returned (.int .i64 (orL zs)) ∧ w = w' := by
  have hH : Hid (∀ j (hj : j < zs.length), w.cell? ⟨b, o + j, none⟩ = some (.int .i64 zs[j])) := h
  clear h
  go_enter Try.func98, Try.ntmps98
  go_wp2
  go_loopw [8] (fun i wr => ∃ k : Nat, k ≤ zs.length ∧ i = .int .i64 k ∧ orL zs = orL (zs.drop k) ∧ w = wr) (fun i _ => zs.length - (intOf i).toNat)
  case atStart => exact ⟨0, Nat.zero_le _, rfl, rfl, rfl⟩
  case round =>
    obtain ⟨k, hk, rfl, hor, rfl⟩ := hrel
    by_cases hlt : k < zs.length
    · have c0 := hH.out k hlt
      rw [List.drop_eq_getElem_cons hlt] at hor
      have hi0 : (0 : Int) ≤ (k : Int) := by omega
      have hi1 : (k : Int) < (zs.length : Int) := by omega
      generalize zs[k] = z at c0 hor
      by_cases hz : z = 0
      · subst hz
        rw [show orL (0 :: zs.drop (k + 1)) = orL (zs.drop (k + 1)) from rfl] at hor
        go_wp2
        go_roundw
        case rel => exact ⟨k + 1, by omega, by go_num, hor, by trivial⟩
        case measure => simp [intOf]; omega
      · rw [show orL (z :: zs.drop (k + 1)) = z from if_pos hz] at hor
        go_wp2
        go_ret
        exact ⟨ret_int hor.symm, rfl⟩
    · rw [List.drop_of_length_le (by omega)] at hor
      go_wp2
      go_ret
      exact ⟨ret_int hor.symm, rfl⟩

end Go.Proofs.Ytgeipficjfaocaa
