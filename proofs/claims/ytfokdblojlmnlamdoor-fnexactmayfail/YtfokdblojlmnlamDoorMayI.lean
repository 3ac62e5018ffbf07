/-
  The contract of the program's MayFail.
-/
import Derived.Test.YtfokdblojlmnlamDoorSumI2
import Derived.Test.YtfokdblojlmnlamDoorMayS
namespace Go.Proofs.YtfokdblojlmnlamDoor
open Go.ChangeShapes Go.WideShapes Go.ChangeAt Go.RowKit
attribute [local go_sem ↓] Go.wp_at_zero Go.wp_at_succ
attribute [local simp] World.cell?_alloc_past World.cell?_alloc_at World.frozen?_alloc_at cell_far cell_off cell_here World.frozen?_alloc_past

theorem may_specb (a : Option Addr) (cap : Nat) (l : List TI) (n : Nat) (hn : l.length = n) (w : World) (hrow : ItmAt w a l) (hfit : FitItm l) (hm : n ≤ maxLen) (b : Bool) (hb : mayR l = b) :
    Calls Tryd.prog 10 #[.slice a n cap] w fun e w' => e = .returned (.bool b) ∧ Below w.heap.size w w' := by
  subst hb; exact may_spec a cap l n hn w hrow hfit hm
/-- An item that may fail, as the program asks. -/
def faultP (x : TI) : Bool := decide (0 < needsP x.1) && decide (x.1 ≠ 12)
theorem fault_safe {x : TI} (h : itemB x = true) : faultP x = !safeI x := by
  have hk : 1 ≤ x.1 ∧ x.1 ≤ 12 := by
    by_cases h1 : x.1 = 1
    · omega
    by_cases h2 : x.1 = 2
    · omega
    have := item_op h h1 h2
    omega
  obtain ⟨k, y⟩ := x
  dsimp only at hk
  have h2 : k = 1 ∨ k = 2 ∨ k = 3 ∨ k = 4 ∨ k = 5 ∨ k = 6 ∨ k = 7 ∨ k = 8 ∨ k = 9 ∨ k = 10 ∨ k = 11 ∨ k = 12 := by omega
  clear h hk
  rcases h2 with rfl | rfl | rfl | rfl | rfl | rfl | rfl | rfl | rfl | rfl | rfl | rfl <;> simp [faultP, safeI, needsP]
theorem heap_all : ∀ (l : List TI) (n m : Nat), heapN l n = some m → ∀ x ∈ l, itemB x = true
  | [], _, _, _, x, hx => by simp at hx
  | y :: l, n, m, h, x, hx => by
    unfold heapN at h
    split at h
    · rename_i hc
      rcases List.mem_cons.1 hx with rfl | hx
      · exact hc.1
      · exact heap_all l _ m h x hx
    · cases h
theorem may_fault (l : List TI) : mayR l = (!sumB l || l.any faultP) := by
  unfold mayR
  cases hs : sumB l with
  | false => simp
  | true =>
    have h1 : heapN l 0 = some 1 := by
      unfold sumB at hs
      simp only [Bool.and_eq_true, decide_eq_true_eq] at hs
      exact hs.1
    have ha := heap_all l 0 1 h1
    have : l.any faultP = l.any (fun x => !safeI x) := by
      rw [Bool.eq_iff_iff, List.any_eq_true, List.any_eq_true]
      exact ⟨fun ⟨x, hx, hy⟩ => ⟨x, hx, by rw [← fault_safe (ha x hx)]; exact hy⟩, fun ⟨x, hx, hy⟩ => ⟨x, hx, by rw [fault_safe (ha x hx)]; exact hy⟩⟩
    rw [this]
    simp [List.all_eq_not_any_not]
set_option maxHeartbeats 1000000 in
theorem fault_impl (x : TI) (b : Bool) (hb : faultP x = b) (w : World) :
    Calls Tryd.prog 21 #[.agg #[.int .i64 x.1, .int .i64 x.2.1.1, .int .i64 x.2.1.2.1, .string x.2.1.2.2, .string x.2.2]] w fun e w' => e = .returned (.bool b) ∧ Below w.heap.size w w' := by
  obtain ⟨k, ⟨ck, cn, ct⟩, s⟩ := x
  dsimp only at hb ⊢
  have hA : Below w.heap.size w (w.alloc (.cells #[.int .i64 k, .int .i64 ck, .int .i64 cn, .string ct, .string s] 37)) := (Below.refl _ _).alloc (Nat.le_refl _) _
  obtain ⟨n, hn⟩ : ∃ n, needsP k = n := ⟨_, rfl⟩
  have HN : Hid (needsP k = n) := hn
  have HB : Hid ((decide (0 < n) && decide (k ≠ 12)) = b) := by
    have : (decide (0 < n) && decide (k ≠ 12)) = b := by rw [← hb, ← hn]; rfl
    exact this
  clear hb hn
  by_cases h0 : n = 0
  · subst h0
    obtain rfl : false = b := HB.out
    go_enter Tryd.func21, Tryd.ntmps21
    go_wp2_with fail
    refine (needs_impl k 0 HN.out _).mono ?_
    rintro e w1 ⟨rfl, rfl⟩
    go_wp2
    go_ret
    exact ⟨rfl, hA⟩
  have hn0 : (0 : Int) < (n : Int) := by omega
  by_cases h12 : k = 12
  · subst h12
    obtain rfl : false = b := by rw [← HB.out]; simp
    go_enter Tryd.func21, Tryd.ntmps21
    go_wp2_with fail
    refine (needs_impl 12 n HN.out _).mono ?_
    rintro e w1 ⟨rfl, rfl⟩
    go_wp2
    go_ret
    exact ⟨rfl, hA⟩
  · obtain rfl : true = b := by
      rw [← HB.out]; simp [h12]; omega
    have q12 : (k != 12) = true := by simp [h12]
    go_enter Tryd.func21, Tryd.ntmps21
    go_wp2_with fail
    refine (needs_impl k n HN.out _).mono ?_
    rintro e w1 ⟨rfl, rfl⟩
    go_wp2
    go_ret
    exact ⟨rfl, hA⟩
set_option maxRecDepth 100000 in
set_option maxHeartbeats 2000000 in
theorem index_impl (a : Option Addr) (cap : Nat) (l : List TI) (n : Nat) (hnl : l.length = n) (w : World) (hrow : ItmAt w a l) (hm : n ≤ maxLen) :
    Calls Tryd.prog 33 #[.slice a n cap, .func (.func 21) #[] #[]] w fun e w' => ∃ r : Int, e = .returned (.int .i64 r) ∧ decide (0 ≤ r) = l.any faultP ∧ Below w.heap.size w w' := by
  have HR : Hid (ItmAt w a l) := hrow
  have HL : Hid (l.length = n) := hnl
  clear hrow hnl
  unfold maxLen at hm
  go_enter Tryd.func33, Tryd.ntmps33
  go_wp2
  go_loopw [8] (fun kk wr => ∃ k : Nat, k ≤ n ∧ kk = .int .i64 k ∧ Hid ((l.take k).any faultP = false) ∧ Below w.heap.size w wr) (fun kk _ => n - (intOf kk).toNat)
  case atStart => exact ⟨0, Nat.zero_le _, rfl, rfl, Below.refl _ _⟩
  case round =>
    obtain ⟨k, hk, rfl, hall, hbw⟩ := hrel
    by_cases hlt : k < n
    · have hlk : k < l.length := by rw [HL.out]; exact hlt
      obtain ⟨g, o, rfl, hgw, c0, c1, c2, c3, c4⟩ := HR.out.below hbw k hlk
      have hi0 : (0 : Int) ≤ (k : Int) := by omega
      have hi1 : (k : Int) < (n : Int) := by omega
      obtain ⟨r, hr⟩ : ∃ r, faultP l[k] = r := ⟨_, rfl⟩
      have hsn : (l.take (k + 1)).any faultP = r := by
        rw [List.take_succ_eq_append_getElem hlk, List.any_append, hall.out, ← hr]; simp
      have HS : Hid ((l.take (k + 1)).any faultP = r) := hsn
      have HY : Hid (r = true → l.any faultP = true) := by
        have : r = true → l.any faultP = true := fun e => List.any_eq_true.2 ⟨l[k], List.getElem_mem hlk, hr.trans e⟩
        exact this
      have HRR : Hid (faultP l[k] = r) := hr
      clear hr hsn hall
      generalize l[k] = x at c0 c1 c2 c3 c4 HRR
      go_wp2_with fail
      refine (fault_impl x r HRR.out _).mono ?_
      rintro e w1 ⟨rfl, hb1⟩
      have hx1 := chain hbw hb1
      clear c0 c1 c2 c3 c4 hb1
      cases r
      · go_wp2
        go_roundw
        case rel => exact ⟨k + 1, by omega, by go_num, HS, hx1⟩
        case measure => simp [intOf]; omega
      · have fin : Hid (l.any faultP = true) := HY.out rfl
        go_wp2
        go_ret
        exact ⟨_, rfl, by rw [fin.out]; exact decide_eq_true hi0, hx1⟩
    · have hkl : k = n := by omega
      subst hkl
      have hi1 : ¬ (k : Int) < (k : Int) := by omega
      have fin : Hid (l.any faultP = false) := by
        have : l.any faultP = false := by
          have := hall.out
          rwa [List.take_of_length_le (by rw [HL.out]; exact Nat.le_refl _)] at this
        exact this
      clear hall
      go_wp2
      go_ret
      exact ⟨_, rfl, by rw [fin.out]; decide, hbw⟩
set_option maxHeartbeats 1000000 in
theorem contains_impl (a : Option Addr) (cap : Nat) (l : List TI) (n : Nat) (hnl : l.length = n) (w : World) (hrow : ItmAt w a l) (hm : n ≤ maxLen) (b : Bool) (hb : l.any faultP = b) :
    Calls Tryd.prog 20 #[.slice a n cap, .func (.func 21) #[] #[]] w fun e w' => e = .returned (.bool b) ∧ Below w.heap.size w w' := by
  have HR : Hid (ItmAt w a l) := hrow
  have HL : Hid (l.length = n) := hnl
  have HB : Hid (l.any faultP = b) := hb
  clear hrow hnl hb
  go_enter Tryd.func20, Tryd.ntmps20
  go_wp2_with fail
  refine (index_impl a cap l n HL.out _ HR.out hm).mono ?_
  rintro e w1 ⟨r, rfl, hr, hb1⟩
  rw [HB.out] at hr
  cases b
  · have h0 : ¬ (0 : Int) ≤ r := of_decide_eq_false hr
    clear hr
    go_wp2
    go_ret
    exact ⟨ret_bool (decide_eq_false (Int.not_le.2 h0)), hb1⟩
  · have h0 : (0 : Int) ≤ r := of_decide_eq_true hr
    clear hr
    go_wp2
    go_ret
    exact ⟨rfl, hb1⟩
set_option maxHeartbeats 1000000 in
theorem may_impl (a : Option Addr) (cap : Nat) (l : List TI) (n : Nat) (hnl : l.length = n) (w : World) (hrow : ItmAt w a l) (hfit : FitI l) (hm : n ≤ maxLen) (hp : PowAt w) (he : ErrAt w) (b : Bool) (hb : mayR l = b) :
    Calls Tryd.prog 11 #[.slice a n cap] w fun e w' => e = .returned (.bool b) ∧ Below w.heap.size w w' := by
  have HR : Hid (ItmAt w a l) := hrow
  have HF : Hid (FitI l) := hfit
  have HP : Hid (PowAt w) := hp
  have HE : Hid (ErrAt w) := he
  have HL : Hid (l.length = n) := hnl
  obtain ⟨s, hs⟩ : ∃ s, sumB l = s := ⟨_, rfl⟩
  obtain ⟨f, hf⟩ : ∃ f, l.any faultP = f := ⟨_, rfl⟩
  have HS : Hid (sumB l = s) := hs
  have HFP : Hid (l.any faultP = f) := hf
  have HB : Hid ((!s || f) = b) := by
    have : (!s || f) = b := by rw [← hb, may_fault, hs, hf]
    exact this
  clear hrow hfit hp he hnl hb hs hf
  go_enter Tryd.func11, Tryd.ntmps11
  go_wp2_with fail
  refine (sum_impl a cap l n HL.out _ HR.out HF.out hm HP.out HE.out s HS.out).mono ?_
  rintro e w1 ⟨rfl, hb1⟩
  cases s
  · obtain rfl : true = b := HB.out
    go_wp2
    go_ret
    exact ⟨rfl, hb1⟩
  · obtain rfl : f = b := HB.out
    go_wp2_with fail
    refine (contains_impl a cap l n HL.out _ (HR.out.below hb1) hm f HFP.out).mono ?_
    rintro e w2 ⟨rfl, hb2⟩
    have hx2 := chain hb1 hb2
    go_wp2
    go_ret
    exact ⟨rfl, hx2⟩
end Go.Proofs.YtfokdblojlmnlamDoor
