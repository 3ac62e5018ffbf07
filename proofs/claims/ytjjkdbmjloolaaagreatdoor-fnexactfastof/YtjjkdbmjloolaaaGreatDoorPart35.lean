/-
  A part of the proof: Walk9, Three2, Three3, Three4, RkS.
-/
import Derived.Test.YtjjkdbmjloolaaaGreatDoorPart11
import Derived.Test.YtjjkdbmjloolaaaGreatDoorPart1
import Derived.Test.YtjjkdbmjloolaaaGreatDoorPart8
import Derived.Test.YtjjkdbmjloolaaaGreatDoorPart5

namespace Go.Proofs.YtjjkdbmjloolaaaGreatDoor
open Go.ChangeShapes Go.WideShapes Go.ChangeAt Go.RowKit
end Go.Proofs.YtjjkdbmjloolaaaGreatDoor
namespace Go.Proofs.YtjjkdbmjloolaaaGreatDoor
open Go.ChangeShapes Go.WideShapes Go.ChangeAt Go.RowKit
attribute [local go_sem ↓] Go.wp_at_zero Go.wp_at_succ
end Go.Proofs.YtjjkdbmjloolaaaGreatDoor
namespace Go.Proofs.YtjjkdbmjloolaaaGreatDoor
open Go.ChangeShapes Go.WideShapes Go.ChangeAt Go.RowKit
attribute [local go_sem ↓] Go.wp_at_zero Go.wp_at_succ
attribute [local simp] World.cell?_alloc_past World.cell?_alloc_at World.frozen?_alloc_at cell_far cell_off cell_here World.frozen?_alloc_past
theorem hasC_take (C : List ByteArray) (l : List TI) (k : Nat) (h : k < l.length) : hasC C (l.take (k + 1)) = (hasC C (l.take k) && (!(decide (l[k].1 = 2)) || C.any (fun c => decide (c = l[k].2.2)))) := by
 unfold hasC
 rw [List.take_succ_eq_append_getElem h, List.all_append]
 simp
theorem any_mem {C : List ByteArray} {s : ByteArray} : C.any (fun c => decide (c = s)) = true ↔ s ∈ C := by
 rw [List.any_eq_true]
 constructor
 · rintro ⟨c, hc, e⟩
  rw [decide_eq_true_eq] at e
  subst e
  exact hc
 · intro h
  exact ⟨s, h, by simp⟩
set_option maxRecDepth 100000 in
set_option maxHeartbeats 2000000 in
theorem l9has_spec (a : Option Addr) (cap : Nat) (l : List TI) (n : Nat) (hn : l.length = n) (ca : Option Addr) (cc : Nat) (C : List ByteArray) (m : Nat) (hm : C.length = m) (w : World) (hrow : ItmAt w a l) (hfit : FitItm l) (hl : n ≤ maxLen) (hC : StrsAt w ca C) (hml : m ≤ maxLen) (b : Bool) (hb : hasC C l = b) :
  Calls Tryz.prog 70 #[.slice a n cap, .slice ca m cc] w fun e w' => e = .returned (.bool b) ∧ Below w.heap.size w w' := by
 have HN := hid hn
 have HM := hid hm
 have HR := hid hrow
 have HF := hid hfit
 have HC := hid hC
 have HL := hid hml
 have HB := hid hb
 clear hrow hfit hn hm hC hml hb
 unfold maxLen at hl
 go_enter Tryz.func70, Tryz.ntmps70
 go_wp2
 go_loopw [5] (fun i wr => ∃ k : Nat, k ≤ n ∧ i = .int .i64 k ∧ Hid (hasC C (l.take k) = true) ∧ Below w.heap.size w wr) (fun i _ => n - (intOf i).toNat)
 case atStart => exact ⟨0, Nat.zero_le _, rfl, rfl, Below.refl _ _⟩
 case round =>
  obtain ⟨k, hkn, rfl, hall, hbw⟩ := hrel
  by_cases hlt : k < n
  · have hlk : k < l.length := by rw [HN.out]; exact hlt
   have hi1 : (k : Int) < (n : Int) := by omega
   have hi0 : (0 : Int) ≤ (k : Int) := by omega
   obtain ⟨g, o, rfl, hgw, c0, c1, c2, c3, c4⟩ := HR.out.below hbw k hlk
   have hCw := HC.out.below hbw
   have HCw := hid hCw
   have hsn := hasC_take C l k hlk
   rw [hall.out, Bool.true_and] at hsn
   have HSn := hid hsn
   have HNo : Hid ((!(decide (l[k].1 = 2)) || C.any (fun c => decide (c = l[k].2.2))) = false → b = false) := by
    have : (!(decide (l[k].1 = 2)) || C.any (fun c => decide (c = l[k].2.2))) = false → b = false := fun h => by
     rw [← HB.out, Bool.eq_false_iff]
     intro h3
     have := List.all_eq_true.1 h3 _ (List.getElem_mem hlk)
     rw [h] at this
     cases this
    exact this
   clear hsn c1 c2 c3 hall hCw
   generalize l[k] = x at c0 c4 HSn HNo
   obtain ⟨kd, y, s⟩ := x
   dsimp only at c0 c4
   by_cases h1 : kd = 2
   · subst h1
    go_wp2_with fail
    refine (at_specN m _ _ C HM.out s _ HCw.out HL.out).mono ?_
    rintro e w1 ⟨r, rfl, hr, hb1⟩
    have hbx := chain hbw hb1
    by_cases hr0 : 0 ≤ r
    · have HS : Hid (hasC C (l.take (k + 1)) = true) := by
      have h2 := HSn.out
      rw [any_mem.2 (hr.neg.1 hr0), Bool.or_true] at h2
      exact h2
     have hr1 : ¬ r < 0 := by omega
     clear HNo HSn hr hr0 hb1
     go_wp2
     go_roundw
     case rel => exact ⟨k + 1, by omega, by go_num, HS, hbx⟩
     case measure => simp [intOf]; omega
    · have hf : b = false := HNo.out (by
      have : ¬ s ∈ C := fun h => hr0 (hr.neg.2 h)
      have h2 : C.any (fun c => decide (c = s)) = false := by
       rw [Bool.eq_false_iff]
       exact fun h => this (any_mem.1 h)
      rw [h2]
      rfl)
     subst hf
     have hr1 : r < 0 := by omega
     clear HNo HSn hr hr0 hb1
     go_wp2
     go_ret
     exact ⟨rfl, hbx⟩
   · have HS : Hid (hasC C (l.take (k + 1)) = true) := by
     have h2 := HSn.out
     dsimp only at h2
     rw [show decide (kd = 2) = false by simp [h1]] at h2
     exact h2
    clear HNo HSn
    go_wp2
    go_roundw
    case rel => exact ⟨k + 1, by omega, by go_num, HS, hbw⟩
    case measure => simp [intOf]; omega
  · have hi1 : ¬ (k : Int) < (n : Int) := by omega
   have hf : b = true := by
    have ht : l.take k = l := List.take_of_length_le (by rw [HN.out]; omega)
    have h1 := hall.out
    rw [ht, HB.out] at h1
    exact h1
   subst hf
   clear hall
   go_wp2
   go_ret
   exact ⟨rfl, hbw⟩
end Go.Proofs.YtjjkdbmjloolaaaGreatDoor
