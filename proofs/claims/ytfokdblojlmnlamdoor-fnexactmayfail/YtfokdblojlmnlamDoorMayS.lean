/-
  The contract of the model's MayFail.
-/
import Derived.Test.YtfokdblojlmnlamDoorSumS
namespace Go.Proofs.YtfokdblojlmnlamDoor
open Go.ChangeShapes Go.WideShapes Go.ChangeAt Go.RowKit
attribute [local go_sem ↓] Go.wp_at_zero Go.wp_at_succ
attribute [local simp] World.cell?_alloc_past World.cell?_alloc_at World.frozen?_alloc_at cell_far cell_off cell_here World.frozen?_alloc_past

/-- An item that cannot fail. -/
def safeI (x : TI) : Bool := decide (x.1 = 1) || decide (x.1 = 2) || decide (x.1 = 12)
/-- What MayFail answers. -/
def mayR (l : List TI) : Bool := !(l.all safeI && sumB l)
theorem safe_snoc (l : List TI) (k : Nat) (h : k < l.length) : (l.take (k + 1)).all safeI = ((l.take k).all safeI && safeI l[k]) := by
  rw [List.take_succ_eq_append_getElem h, List.all_append]; simp
set_option maxRecDepth 100000 in
set_option maxHeartbeats 4000000 in
theorem may_spec (a : Option Addr) (cap : Nat) (l : List TI) (n : Nat) (hn : l.length = n) (w : World) (hrow : ItmAt w a l) (hfit : FitItm l) (hm : n ≤ maxLen) :
    Calls Tryd.prog 10 #[.slice a n cap] w fun e w' => e = .returned (.bool (mayR l)) ∧ Below w.heap.size w w' := by
  have HN : Hid (l.length = n) := hn
  have HR : Hid (ItmAt w a l) := hrow
  have HF : Hid (FitItm l) := hfit
  have HM : Hid (n ≤ maxLen) := hm
  clear hrow hfit hn
  unfold maxLen at hm
  go_enter Tryd.func10, Tryd.ntmps10
  go_wp2
  go_loopw [3] (fun i wr => ∃ k : Nat, k ≤ n ∧ i = .int .i64 k ∧ Hid ((l.take k).all safeI = true) ∧ wr = w) (fun i _ => n - (intOf i).toNat)
  case atStart => exact ⟨0, Nat.zero_le _, rfl, rfl, rfl⟩
  case round =>
    obtain ⟨k, hkn, rfl, hall, hwr⟩ := hrel
    replace hwr := hwr.symm
    subst hwr
    by_cases hlt : k < n
    · have hlk : k < l.length := by rw [HN.out]; exact hlt
      have hi1 : (k : Int) < (n : Int) := by omega
      have hi0 : (0 : Int) ≤ (k : Int) := by omega
      obtain ⟨g, o, rfl, hgw, c0, c1, c2, c3, c4⟩ := HR.out k hlk
      have hsn := safe_snoc l k hlk
      rw [hall.out, Bool.true_and] at hsn
      have HSn : Hid ((l.take (k + 1)).all safeI = safeI l[k]) := hsn
      have HNo : Hid (safeI l[k] = false → mayR l = true) := by
        have : safeI l[k] = false → mayR l = true := fun h => by
          have h2 : l.all safeI = false := by
            rw [Bool.eq_false_iff]
            intro h3
            have := List.all_eq_true.1 h3 _ (List.getElem_mem hlk)
            rw [h] at this
            cases this
          unfold mayR
          rw [h2]
          rfl
        exact this
      clear hsn c1 c2 c3 c4 hall
      generalize l[k] = x at c0 HSn HNo
      obtain ⟨kd, y⟩ := x
      simp only at c0
      by_cases h1 : kd = 1
      · subst h1
        have HS : Hid ((l.take (k + 1)).all safeI = true) := HSn.out
        clear HNo HSn
        go_wp2
        go_roundw
        case rel => exact ⟨k + 1, by omega, by go_num, HS, by first | rfl | trivial⟩
        case measure => simp [intOf]; omega
      · by_cases h2 : kd = 2
        · subst h2
          have HS : Hid ((l.take (k + 1)).all safeI = true) := HSn.out
          clear HNo HSn h1
          go_wp2
          go_roundw
          case rel => exact ⟨k + 1, by omega, by go_num, HS, by first | rfl | trivial⟩
          case measure => simp [intOf]; omega
        · by_cases h3 : kd = 12
          · subst h3
            have HS : Hid ((l.take (k + 1)).all safeI = true) := HSn.out
            clear HNo HSn h1 h2
            go_wp2
            go_roundw
            case rel => exact ⟨k + 1, by omega, by go_num, HS, by first | rfl | trivial⟩
            case measure => simp [intOf]; omega
          · have fin : Hid (mayR l = true) := HNo.out (by unfold safeI; simp [h1, h2, h3])
            have q1 : (kd != 1) = true := by simp [h1]
            have q2 : (kd != 2) = true := by simp [h2]
            have q3 : (kd != 12) = true := by simp [h3]
            clear HNo HSn
            go_wp2
            go_ret
            exact ⟨by simp [fin.out], Below.refl _ _⟩
    · have hi1 : ¬ (k : Int) < (n : Int) := by omega
      obtain ⟨b, hb⟩ : ∃ b, sumB l = b := ⟨_, rfl⟩
      have HB : Hid (sumB l = b) := hb
      have fin : Hid (mayR l = !b) := by
        have ht : l.take k = l := List.take_of_length_le (by rw [HN.out]; omega)
        have h1 := hall.out
        rw [ht] at h1
        have : mayR l = !b := by unfold mayR; rw [h1, hb, Bool.true_and]
        exact this
      clear hall hb
      go_wp2_with fail
      refine (sum_spec _ _ l n HN.out _ HR.out HF.out HM.out b HB.out).mono ?_
      rintro e w1 ⟨rfl, hb1⟩
      go_wp2
      go_ret
      exact ⟨by simp [fin.out], hb1⟩
end Go.Proofs.YtfokdblojlmnlamDoor
