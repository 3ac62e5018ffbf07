/-
  The contract of the program's SumOk.
-/
import Derived.Test.YthgbjnchhaoceaaDoorSumI
namespace Go.Proofs.YthgbjnchhaoceaaDoor
open Go.ChangeShapes Go.WideShapes Go.ChangeAt Go.RowKit
attribute [local go_sem ↓] Go.wp_at_zero Go.wp_at_succ
attribute [local simp] World.cell?_alloc_past World.cell?_alloc_at World.frozen?_alloc_at cell_far cell_off cell_here World.frozen?_alloc_past

/-- The texts of the items are not too long to be told. -/
def FitI (l : List TI) : Prop := ∀ x ∈ l, x.2.1.2.2.size ≤ maxLen ∧ x.2.2.size ≤ 1048576
set_option maxRecDepth 100000 in
set_option maxHeartbeats 4000000 in
theorem sum_impl (a : Option Addr) (cap : Nat) (l : List TI) (n : Nat) (hnl : l.length = n) (w : World) (hrow : ItmAt w a l) (hfit : FitI l) (hm : n ≤ maxLen) (hp : PowAt w) (he : ErrAt w) (b : Bool) (hb : sumB l = b) :
    Calls Tryd.prog 14 #[.slice a n cap] w fun e w' => e = .returned (.bool b) ∧ Below w.heap.size w w' := by
  have HR : Hid (ItmAt w a l) := hrow
  have HF : Hid (FitI l) := hfit
  have HB : Hid (sumB l = b) := hb
  have HP : Hid (PowAt w) := hp
  have HE : Hid (ErrAt w) := he
  have HL : Hid (l.length = n) := hnl
  clear hrow hfit hb hp he hnl
  unfold maxLen at hm
  by_cases h40 : 40 < n
  · have hi : (40 : Int) < (n : Int) := by omega
    have e : b = false := by
      rw [← HB.out]; unfold sumB
      rw [HL.out, decide_eq_false (p := n ≤ 40) (by omega), Bool.and_false]
    subst e
    go_enter Tryd.func14, Tryd.ntmps14
    go_wp2
    go_ret
    exact ⟨rfl, Below.refl _ _⟩
  have hi : ¬ (40 : Int) < (n : Int) := by omega
  go_enter Tryd.func14, Tryd.ntmps14
  go_wp2
  go_loopw [3, 12] (fun nv kk wr => ∃ k c : Nat, k ≤ n ∧ kk = .int .i64 k ∧ nv = .int .i64 c ∧ c ≤ k ∧ Hid (heapN (l.take k) 0 = some c) ∧ Below w.heap.size w wr) (fun _ kk _ => n - (intOf kk).toNat)
  case atStart => exact ⟨0, 0, Nat.zero_le _, rfl, rfl, Nat.le_refl _, rfl, Below.refl _ _⟩
  case round =>
    obtain ⟨k, c, hk, rfl, rfl, hck, hhp, hbw⟩ := hrel
    by_cases hlt : k < n
    · have hlk : k < l.length := by rw [HL.out]; exact hlt
      obtain ⟨g, o, rfl, hgw, c0, c1, c2, c3, c4⟩ := HR.out.below hbw k hlk
      have hi0 : (0 : Int) ≤ (k : Int) := by omega
      have hi1 : (k : Int) < (n : Int) := by omega
      obtain ⟨hf1, hf2⟩ := HF.out _ (List.getElem_mem hlk)
      have hst := heap_step l k hlk c hhp.out
      have HNO : Hid (heapN (l.take (k + 1)) 0 = none → b = false) := by
        have : heapN (l.take (k + 1)) 0 = none → b = false := fun h => by rw [← HB.out]; exact heap_no l (k + 1) h
        exact this
      obtain ⟨r, hr⟩ : ∃ r, itemB l[k] = r := ⟨_, rfl⟩
      obtain ⟨d, hd⟩ : ∃ d, needsP l[k].1 = d := ⟨_, rfl⟩
      have hdd : r = true → needsI l[k].1 = d := fun e => by rw [← hd, needsP_ok (hr.trans e)]
      have HST : Hid (heapN (l.take (k + 1)) 0 = if r = true ∧ d ≤ c then some (c + 1 - d) else none) := by
        have : heapN (l.take (k + 1)) 0 = if r = true ∧ d ≤ c then some (c + 1 - d) else none := by
          rw [hst, hr]
          cases r with
          | false => simp
          | true => rw [hdd rfl]
        exact this
      have HRR : Hid (itemB l[k] = r) := hr
      have HD : Hid (needsP l[k].1 = d) := hd
      have hd2 : d ≤ 2 := by rw [← hd]; exact needsP_le _
      clear hst hr hd hdd
      generalize l[k] = x at c0 c1 c2 c3 c4 hf1 hf2 HRR HD
      go_wp2_with fail
      refine (needs_impl x.1 d HD.out _).mono ?_
      rintro e w1 ⟨rfl, rfl⟩
      have hxA : Below w.heap.size w (wr.alloc (.cells #[.int .i64 x.1, .int .i64 x.2.1.1, .int .i64 x.2.1.2.1, .string x.2.1.2.2, .string x.2.2] 31)) := hbw.alloc hbw.size _
      clear c0 c1 c2 c3 c4
      go_wp2_with fail
      refine (item_impl x _ hf2 hf1 (HP.out.below hxA) (HE.out.below hxA) r HRR.out).mono ?_
      rintro e w2 ⟨rfl, hb2⟩
      have hx2 := chain hxA hb2
      clear hxA hb2
      cases r
      · obtain rfl : b = false := HNO.out (by rw [HST.out, if_neg (by simp)])
        go_wp2
        go_ret
        exact ⟨rfl, hx2⟩
      by_cases hcd : d ≤ c
      · have h1 : ¬ (c : Int) < (d : Int) := by omega
        have HS2 : Hid (heapN (l.take (k + 1)) 0 = some (c + 1 - d)) := by
          have : heapN (l.take (k + 1)) 0 = some (c + 1 - d) := by rw [HST.out]; simp [hcd]
          exact this
        have hz : ((c + 1 - d : Nat) : Int) = (c : Int) + (1 - (d : Int)) := by omega
        go_wp2
        go_roundw
        case rel => exact ⟨k + 1, c + 1 - d, by omega, by go_num, by rw [hz], by omega, HS2, hx2⟩
        case measure => simp [intOf]; omega
      · have h1 : (c : Int) < (d : Int) := by omega
        obtain rfl : b = false := HNO.out (by rw [HST.out, if_neg (fun h => hcd h.2)])
        go_wp2
        go_ret
        exact ⟨rfl, hx2⟩
    · have hkl : k = n := by omega
      subst hkl
      have hi1 : ¬ (k : Int) < (k : Int) := by omega
      have hh := hhp.out
      rw [List.take_of_length_le (by rw [HL.out]; exact Nat.le_refl _)] at hh
      have HBB : Hid (decide (c = 1) = b) := by
        have : decide (c = 1) = b := by
          rw [← HB.out]; unfold sumB; rw [hh, HL.out, decide_eq_true (p := k ≤ 40) (by omega)]; simp
        exact this
      clear hh
      by_cases e1 : c = 1
      · subst e1
        go_wp2
        go_ret
        exact ⟨ret_bool (by rw [← HBB.out]; simp), hbw⟩
      · have e2 : ¬ (c : Int) = 1 := by omega
        have e3 : ((c : Int) == 1) = false := by simpa using e2
        go_wp2
        go_ret
        exact ⟨ret_bool (by rw [← HBB.out]; simp [e1]), hbw⟩
end Go.Proofs.YthgbjnchhaoceaaDoor
