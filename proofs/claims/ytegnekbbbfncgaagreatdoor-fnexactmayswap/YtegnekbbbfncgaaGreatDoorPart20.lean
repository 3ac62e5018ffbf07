/-
  A part of the proof: MayS, MayI, Sure, Kept.
-/
import Derived.Test.YtegnekbbbfncgaaGreatDoorPart9
import Derived.Test.YtegnekbbbfncgaaGreatDoorPart11
import Derived.Test.YtegnekbbbfncgaaGreatDoorPart15
import Derived.Test.YtegnekbbbfncgaaGreatDoorPart5

/-
  The contract of the model's MayFail.
-/
namespace Go.Proofs.YtegnekbbbfncgaaGreatDoor
open Go.ChangeShapes Go.WideShapes Go.ChangeAt Go.RowKit
attribute [local go_sem ↓] Go.wp_at_zero Go.wp_at_succ
attribute [local simp] World.cell?_alloc_past World.cell?_alloc_at World.frozen?_alloc_at cell_far cell_off cell_here World.frozen?_alloc_past

/-- An item that cannot fail. -/
def safeI (x : TI) : Bool := decide (x.1 = 1) || decide (x.1 = 2) || decide (x.1 = 12)
/-- What MayFail answers. -/
def mayR (l : List TI) : Bool := !(l.all safeI && sumB l)
theorem safe_snoc (l : List TI) (k : Nat) (h : k < l.length) : (l.take (k + 1)).all safeI = ((l.take k).all safeI && safeI l[k]) := by
  rw [List.take_succ_eq_append_getElem h, List.all_append]; simp
set_option maxRecDepth 100000 in
set_option maxHeartbeats 4000000 in
theorem may_spec (a : Option Addr) (cap : Nat) (l : List TI) (n : Nat) (hn : l.length = n) (w : World) (hrow : ItmAt w a l) (hfit : FitItm l) (hm : n ≤ maxLen) :
    Calls Tryz.prog 64 #[.slice a n cap] w fun e w' => e = .returned (.bool (mayR l)) ∧ Below w.heap.size w w' := by
  have HN : Hid (l.length = n) := hn
  have HR : Hid (ItmAt w a l) := hrow
  have HF : Hid (FitItm l) := hfit
  have HM : Hid (n ≤ maxLen) := hm
  clear hrow hfit hn
  unfold maxLen at hm
  go_enter Tryz.func64, Tryz.ntmps64
  go_wp2
  go_loopw [3] (fun i wr => ∃ k : Nat, k ≤ n ∧ i = .int .i64 k ∧ Hid ((l.take k).all safeI = true) ∧ wr = w) (fun i _ => n - (intOf i).toNat)
  case atStart => exact ⟨0, Nat.zero_le _, rfl, rfl, rfl⟩
  case round =>
    obtain ⟨k, hkn, rfl, hall, hwr⟩ := hrel
    replace hwr := hwr.symm
    subst hwr
    by_cases hlt : k < n
    · have hlk : k < l.length := by rw [HN.out]; exact hlt
      have hi1 : (k : Int) < (n : Int) := by omega
      have hi0 : (0 : Int) ≤ (k : Int) := by omega
      obtain ⟨g, o, rfl, hgw, c0, c1, c2, c3, c4⟩ := HR.out k hlk
      have hsn := safe_snoc l k hlk
      rw [hall.out, Bool.true_and] at hsn
      have HSn : Hid ((l.take (k + 1)).all safeI = safeI l[k]) := hsn
      have HNo : Hid (safeI l[k] = false → mayR l = true) := by
        have : safeI l[k] = false → mayR l = true := fun h => by
          have h2 : l.all safeI = false := by
            rw [Bool.eq_false_iff]
            intro h3
            have := List.all_eq_true.1 h3 _ (List.getElem_mem hlk)
            rw [h] at this
            cases this
          unfold mayR
          rw [h2]
          rfl
        exact this
      clear hsn c1 c2 c3 c4 hall
      generalize l[k] = x at c0 HSn HNo
      obtain ⟨kd, y⟩ := x
      simp only at c0
      by_cases h1 : kd = 1
      · subst h1
        have HS : Hid ((l.take (k + 1)).all safeI = true) := HSn.out
        clear HNo HSn
        go_wp2
        go_roundw
        case rel => exact ⟨k + 1, by omega, by go_num, HS, by first | rfl | trivial⟩
        case measure => simp [intOf]; omega
      · by_cases h2 : kd = 2
        · subst h2
          have HS : Hid ((l.take (k + 1)).all safeI = true) := HSn.out
          clear HNo HSn h1
          go_wp2
          go_roundw
          case rel => exact ⟨k + 1, by omega, by go_num, HS, by first | rfl | trivial⟩
          case measure => simp [intOf]; omega
        · by_cases h3 : kd = 12
          · subst h3
            have HS : Hid ((l.take (k + 1)).all safeI = true) := HSn.out
            clear HNo HSn h1 h2
            go_wp2
            go_roundw
            case rel => exact ⟨k + 1, by omega, by go_num, HS, by first | rfl | trivial⟩
            case measure => simp [intOf]; omega
          · have fin : Hid (mayR l = true) := HNo.out (by unfold safeI; simp [h1, h2, h3])
            have q1 : (kd != 1) = true := by simp [h1]
            have q2 : (kd != 2) = true := by simp [h2]
            have q3 : (kd != 12) = true := by simp [h3]
            clear HNo HSn
            go_wp2
            go_ret
            exact ⟨by simp [fin.out], Below.refl _ _⟩
    · have hi1 : ¬ (k : Int) < (n : Int) := by omega
      obtain ⟨b, hb⟩ : ∃ b, sumB l = b := ⟨_, rfl⟩
      have HB : Hid (sumB l = b) := hb
      have fin : Hid (mayR l = !b) := by
        have ht : l.take k = l := List.take_of_length_le (by rw [HN.out]; omega)
        have h1 := hall.out
        rw [ht] at h1
        have : mayR l = !b := by unfold mayR; rw [h1, hb, Bool.true_and]
        exact this
      clear hall hb
      go_wp2_with fail
      refine (sum_spec _ _ l n HN.out _ HR.out HF.out HM.out b HB.out).mono ?_
      rintro e w1 ⟨rfl, hb1⟩
      go_wp2
      go_ret
      exact ⟨by simp [fin.out], hb1⟩
end Go.Proofs.YtegnekbbbfncgaaGreatDoor

/-
  The contract of the program's MayFail.
-/
namespace Go.Proofs.YtegnekbbbfncgaaGreatDoor
open Go.ChangeShapes Go.WideShapes Go.ChangeAt Go.RowKit
attribute [local go_sem ↓] Go.wp_at_zero Go.wp_at_succ
attribute [local simp] World.cell?_alloc_past World.cell?_alloc_at World.frozen?_alloc_at cell_far cell_off cell_here World.frozen?_alloc_past

theorem may_specb (a : Option Addr) (cap : Nat) (l : List TI) (n : Nat) (hn : l.length = n) (w : World) (hrow : ItmAt w a l) (hfit : FitItm l) (hm : n ≤ maxLen) (b : Bool) (hb : mayR l = b) :
    Calls Tryz.prog 64 #[.slice a n cap] w fun e w' => e = .returned (.bool b) ∧ Below w.heap.size w w' := by
  subst hb; exact may_spec a cap l n hn w hrow hfit hm
/-- An item that may fail, as the program asks. -/
def faultP (x : TI) : Bool := decide (0 < needsP x.1) && decide (x.1 ≠ 12)
theorem fault_safe {x : TI} (h : itemB x = true) : faultP x = !safeI x := by
  have hk : 1 ≤ x.1 ∧ x.1 ≤ 12 := by
    by_cases h1 : x.1 = 1
    · omega
    by_cases h2 : x.1 = 2
    · omega
    have := item_op h h1 h2
    omega
  obtain ⟨k, y⟩ := x
  dsimp only at hk
  have h2 : k = 1 ∨ k = 2 ∨ k = 3 ∨ k = 4 ∨ k = 5 ∨ k = 6 ∨ k = 7 ∨ k = 8 ∨ k = 9 ∨ k = 10 ∨ k = 11 ∨ k = 12 := by omega
  clear h hk
  rcases h2 with rfl | rfl | rfl | rfl | rfl | rfl | rfl | rfl | rfl | rfl | rfl | rfl <;> simp [faultP, safeI, needsP]
theorem heap_all : ∀ (l : List TI) (n m : Nat), heapN l n = some m → ∀ x ∈ l, itemB x = true
  | [], _, _, _, x, hx => by simp at hx
  | y :: l, n, m, h, x, hx => by
    unfold heapN at h
    split at h
    · rename_i hc
      rcases List.mem_cons.1 hx with rfl | hx
      · exact hc.1
      · exact heap_all l _ m h x hx
    · cases h
theorem may_fault (l : List TI) : mayR l = (!sumB l || l.any faultP) := by
  unfold mayR
  cases hs : sumB l with
  | false => simp
  | true =>
    have h1 : heapN l 0 = some 1 := by
      unfold sumB at hs
      simp only [Bool.and_eq_true, decide_eq_true_eq] at hs
      exact hs.1
    have ha := heap_all l 0 1 h1
    have : l.any faultP = l.any (fun x => !safeI x) := by
      rw [Bool.eq_iff_iff, List.any_eq_true, List.any_eq_true]
      exact ⟨fun ⟨x, hx, hy⟩ => ⟨x, hx, by rw [← fault_safe (ha x hx)]; exact hy⟩, fun ⟨x, hx, hy⟩ => ⟨x, hx, by rw [fault_safe (ha x hx)]; exact hy⟩⟩
    rw [this]
    simp [List.all_eq_not_any_not]
set_option maxHeartbeats 1000000 in
theorem fault_impl (x : TI) (b : Bool) (hb : faultP x = b) (w : World) :
    Calls Tryz.prog 137 #[.agg #[.int .i64 x.1, .int .i64 x.2.1.1, .int .i64 x.2.1.2.1, .string x.2.1.2.2, .string x.2.2]] w fun e w' => e = .returned (.bool b) ∧ Below w.heap.size w w' := by
  obtain ⟨k, ⟨ck, cn, ct⟩, s⟩ := x
  dsimp only at hb ⊢
  have hA : Below w.heap.size w (w.alloc (.cells #[.int .i64 k, .int .i64 ck, .int .i64 cn, .string ct, .string s] 124)) := (Below.refl _ _).alloc (Nat.le_refl _) _
  obtain ⟨n, hn⟩ : ∃ n, needsP k = n := ⟨_, rfl⟩
  have HN : Hid (needsP k = n) := hn
  have HB : Hid ((decide (0 < n) && decide (k ≠ 12)) = b) := by
    have : (decide (0 < n) && decide (k ≠ 12)) = b := by rw [← hb, ← hn]; rfl
    exact this
  clear hb hn
  by_cases h0 : n = 0
  · subst h0
    obtain rfl : false = b := HB.out
    go_enter Tryz.func137, Tryz.ntmps137
    go_wp2_with fail
    refine (needs_impl k 0 HN.out _).mono ?_
    rintro e w1 ⟨rfl, rfl⟩
    go_wp2
    go_ret
    exact ⟨rfl, hA⟩
  have hn0 : (0 : Int) < (n : Int) := by omega
  by_cases h12 : k = 12
  · subst h12
    obtain rfl : false = b := by rw [← HB.out]; simp
    go_enter Tryz.func137, Tryz.ntmps137
    go_wp2_with fail
    refine (needs_impl 12 n HN.out _).mono ?_
    rintro e w1 ⟨rfl, rfl⟩
    go_wp2
    go_ret
    exact ⟨rfl, hA⟩
  · obtain rfl : true = b := by
      rw [← HB.out]; simp [h12]; omega
    have q12 : (k != 12) = true := by simp [h12]
    go_enter Tryz.func137, Tryz.ntmps137
    go_wp2_with fail
    refine (needs_impl k n HN.out _).mono ?_
    rintro e w1 ⟨rfl, rfl⟩
    go_wp2
    go_ret
    exact ⟨rfl, hA⟩
set_option maxRecDepth 100000 in
set_option maxHeartbeats 2000000 in
theorem index_impl (a : Option Addr) (cap : Nat) (l : List TI) (n : Nat) (hnl : l.length = n) (w : World) (hrow : ItmAt w a l) (hm : n ≤ maxLen) :
    Calls Tryz.prog 203 #[.slice a n cap, .func (.func 137) #[] #[]] w fun e w' => ∃ r : Int, e = .returned (.int .i64 r) ∧ decide (0 ≤ r) = l.any faultP ∧ Below w.heap.size w w' := by
  have HR : Hid (ItmAt w a l) := hrow
  have HL : Hid (l.length = n) := hnl
  clear hrow hnl
  unfold maxLen at hm
  go_enter Tryz.func203, Tryz.ntmps203
  go_wp2
  go_loopw [8] (fun kk wr => ∃ k : Nat, k ≤ n ∧ kk = .int .i64 k ∧ Hid ((l.take k).any faultP = false) ∧ Below w.heap.size w wr) (fun kk _ => n - (intOf kk).toNat)
  case atStart => exact ⟨0, Nat.zero_le _, rfl, rfl, Below.refl _ _⟩
  case round =>
    obtain ⟨k, hk, rfl, hall, hbw⟩ := hrel
    by_cases hlt : k < n
    · have hlk : k < l.length := by rw [HL.out]; exact hlt
      obtain ⟨g, o, rfl, hgw, c0, c1, c2, c3, c4⟩ := HR.out.below hbw k hlk
      have hi0 : (0 : Int) ≤ (k : Int) := by omega
      have hi1 : (k : Int) < (n : Int) := by omega
      obtain ⟨r, hr⟩ : ∃ r, faultP l[k] = r := ⟨_, rfl⟩
      have hsn : (l.take (k + 1)).any faultP = r := by
        rw [List.take_succ_eq_append_getElem hlk, List.any_append, hall.out, ← hr]; simp
      have HS : Hid ((l.take (k + 1)).any faultP = r) := hsn
      have HY : Hid (r = true → l.any faultP = true) := by
        have : r = true → l.any faultP = true := fun e => List.any_eq_true.2 ⟨l[k], List.getElem_mem hlk, hr.trans e⟩
        exact this
      have HRR : Hid (faultP l[k] = r) := hr
      clear hr hsn hall
      generalize l[k] = x at c0 c1 c2 c3 c4 HRR
      go_wp2_with fail
      refine (fault_impl x r HRR.out _).mono ?_
      rintro e w1 ⟨rfl, hb1⟩
      have hx1 := chain hbw hb1
      clear c0 c1 c2 c3 c4 hb1
      cases r
      · go_wp2
        go_roundw
        case rel => exact ⟨k + 1, by omega, by go_num, HS, hx1⟩
        case measure => simp [intOf]; omega
      · have fin : Hid (l.any faultP = true) := HY.out rfl
        go_wp2
        go_ret
        exact ⟨_, rfl, by rw [fin.out]; exact decide_eq_true hi0, hx1⟩
    · have hkl : k = n := by omega
      subst hkl
      have hi1 : ¬ (k : Int) < (k : Int) := by omega
      have fin : Hid (l.any faultP = false) := by
        have : l.any faultP = false := by
          have := hall.out
          rwa [List.take_of_length_le (by rw [HL.out]; exact Nat.le_refl _)] at this
        exact this
      clear hall
      go_wp2
      go_ret
      exact ⟨_, rfl, by rw [fin.out]; decide, hbw⟩
set_option maxHeartbeats 1000000 in
theorem contains_impl (a : Option Addr) (cap : Nat) (l : List TI) (n : Nat) (hnl : l.length = n) (w : World) (hrow : ItmAt w a l) (hm : n ≤ maxLen) (b : Bool) (hb : l.any faultP = b) :
    Calls Tryz.prog 136 #[.slice a n cap, .func (.func 137) #[] #[]] w fun e w' => e = .returned (.bool b) ∧ Below w.heap.size w w' := by
  have HR : Hid (ItmAt w a l) := hrow
  have HL : Hid (l.length = n) := hnl
  have HB : Hid (l.any faultP = b) := hb
  clear hrow hnl hb
  go_enter Tryz.func136, Tryz.ntmps136
  go_wp2_with fail
  refine (index_impl a cap l n HL.out _ HR.out hm).mono ?_
  rintro e w1 ⟨r, rfl, hr, hb1⟩
  rw [HB.out] at hr
  cases b
  · have h0 : ¬ (0 : Int) ≤ r := of_decide_eq_false hr
    clear hr
    go_wp2
    go_ret
    exact ⟨ret_bool (decide_eq_false (Int.not_le.2 h0)), hb1⟩
  · have h0 : (0 : Int) ≤ r := of_decide_eq_true hr
    clear hr
    go_wp2
    go_ret
    exact ⟨rfl, hb1⟩
set_option maxHeartbeats 1000000 in
theorem may_impl (a : Option Addr) (cap : Nat) (l : List TI) (n : Nat) (hnl : l.length = n) (w : World) (hrow : ItmAt w a l) (hfit : FitI l) (hm : n ≤ maxLen) (hp : PowAt w) (he : ErrAt w) (b : Bool) (hb : mayR l = b) :
    Calls Tryz.prog 71 #[.slice a n cap] w fun e w' => e = .returned (.bool b) ∧ Below w.heap.size w w' := by
  have HR : Hid (ItmAt w a l) := hrow
  have HF : Hid (FitI l) := hfit
  have HP : Hid (PowAt w) := hp
  have HE : Hid (ErrAt w) := he
  have HL : Hid (l.length = n) := hnl
  obtain ⟨s, hs⟩ : ∃ s, sumB l = s := ⟨_, rfl⟩
  obtain ⟨f, hf⟩ : ∃ f, l.any faultP = f := ⟨_, rfl⟩
  have HS : Hid (sumB l = s) := hs
  have HFP : Hid (l.any faultP = f) := hf
  have HB : Hid ((!s || f) = b) := by
    have : (!s || f) = b := by rw [← hb, may_fault, hs, hf]
    exact this
  clear hrow hfit hp he hnl hb hs hf
  go_enter Tryz.func71, Tryz.ntmps71
  go_wp2_with fail
  refine (sum_impl a cap l n HL.out _ HR.out HF.out hm HP.out HE.out s HS.out).mono ?_
  rintro e w1 ⟨rfl, hb1⟩
  cases s
  · obtain rfl : true = b := HB.out
    go_wp2
    go_ret
    exact ⟨rfl, hb1⟩
  · obtain rfl : f = b := HB.out
    go_wp2_with fail
    refine (contains_impl a cap l n HL.out _ (HR.out.below hb1) hm f HFP.out).mono ?_
    rintro e w2 ⟨rfl, hb2⟩
    have hx2 := chain hb1 hb2
    go_wp2
    go_ret
    exact ⟨rfl, hx2⟩
end Go.Proofs.YtegnekbbbfncgaaGreatDoor

/-
  IsSure, of the model and of the program.
-/
namespace Go.Proofs.YtegnekbbbfncgaaGreatDoor
open Go.ChangeShapes Go.WideShapes Go.ChangeAt Go.RowKit
attribute [local go_sem ↓] Go.wp_at_zero Go.wp_at_succ
attribute [local simp] World.cell?_alloc_past World.cell?_alloc_at World.frozen?_alloc_at cell_far cell_off cell_here World.frozen?_alloc_past

/-- Is this, as the last item of a sum that may not fail, one that answers true, false or nothing? -/
def lastB (x : TI) : Bool := decide (x.1 = 12) || (decide (x.1 = 1) && threeB x.2.1.1 x.2.1.2.1 x.2.1.2.2)
/-- What IsSure answers. -/
def sureR (l : List TI) : Bool := !mayR l && (match l.getLast? with | some x => lastB x | none => false)
theorem may_pos {l : List TI} (h : mayR l = false) : 0 < l.length := by
  cases l with
  | nil => exact absurd (show mayR [] = true from rfl) (by rw [h]; simp)
  | cons x l => simp
theorem sure_may {l : List TI} (h : mayR l = true) : sureR l = false := by unfold sureR; rw [h]; rfl
theorem sure_at {l : List TI} {k : Nat} (hk : l.length = k + 1) (h : mayR l = false) : sureR l = lastB (l[k]'(by omega)) := by
  unfold sureR
  have e : l.getLast? = some (l[k]'(by omega)) := by
    rw [List.getLast?_eq_getElem?]
    have e2 : l.length - 1 = k := by omega
    rw [e2]
    exact List.getElem?_eq_getElem _
  rw [h, e]
  rfl
set_option maxHeartbeats 1000000 in
theorem sure_spec (a : Option Addr) (cap : Nat) (l : List TI) (n : Nat) (hn : l.length = n) (w : World) (hrow : ItmAt w a l) (hfit : FitItm l) (hm : n ≤ maxLen) (b : Bool) (hb : sureR l = b) :
    Calls Tryz.prog 68 #[.slice a n cap] w fun e w' => e = .returned (.bool b) ∧ Below w.heap.size w w' := by
  have HN : Hid (l.length = n) := hn
  have HR : Hid (ItmAt w a l) := hrow
  have HF : Hid (FitItm l) := hfit
  have HB : Hid (sureR l = b) := hb
  obtain ⟨y, hy⟩ : ∃ y, mayR l = y := ⟨_, rfl⟩
  have HY : Hid (mayR l = y) := hy
  clear hrow hfit hb hy
  go_enter Tryz.func68, Tryz.ntmps68
  go_wp2_with fail
  refine (may_specb a cap l n HN.out _ HR.out HF.out hm y HY.out).mono ?_
  rintro e w1 ⟨rfl, hb1⟩
  cases y
  · obtain ⟨k, rfl⟩ : ∃ k, n = k + 1 := ⟨n - 1, by have := may_pos HY.out; omega⟩
    have hk : k < l.length := by omega
    obtain ⟨g, o, rfl, hgw, c0, c1, c2, c3, c4⟩ := HR.out.below hb1 k hk
    have hL : lastB l[k] = b := (sure_at hn HY.out).symm.trans HB.out
    have hft := (HF.out k hk).1
    clear hn HB HY
    generalize l[k] = x at c0 c1 c2 c3 c4 hL hft
    obtain ⟨kd, ⟨ck, cn, ct⟩, nm⟩ := x
    simp only at c0 c1 c2 c3 c4 hft
    have hj : ((k + 1 : Nat) : Int) - 1 = (k : Int) := by omega
    have hi0 : (0 : Int) ≤ (k : Int) := by omega
    have hi1 : (k : Int) < ((k + 1 : Nat) : Int) := by omega
    unfold maxLen at hm
    obtain ⟨r, hr⟩ : ∃ r, threeB ck cn ct = r := ⟨_, rfl⟩
    have HRr : Hid (threeB ck cn ct = r) := hr
    by_cases h12 : kd = 12
    · subst h12
      obtain rfl : true = b := by rw [← hL]; rfl
      clear hL hr
      go_wp2
      go_ret
      exact ⟨rfl, chain hb1 ((Below.refl _ _).alloc (Nat.le_refl _) _)⟩
    · by_cases h1 : kd = 1
      · subst h1
        have HL : Hid (r = b) := by rw [← hL]; simp [lastB, hr]; exact ⟨⟩
        clear hL hr
        go_wp2_with fail
        refine (three_specb ck cn ct r HRr.out _ hft).mono ?_
        rintro e w2 ⟨rfl, hb2⟩
        have hx := chain (chain hb1 ((Below.refl _ _).alloc (Nat.le_refl _) _)) hb2
        obtain rfl := HL.out
        go_wp2
        go_ret
        exact ⟨rfl, hx⟩
      · obtain rfl : false = b := by rw [← hL]; simp [lastB, h12, h1]
        clear hL hr
        have hf12 : (kd == 12) = false := by simp [h12]
        go_wp2
        go_ret
        exact ⟨rfl, chain hb1 ((Below.refl _ _).alloc (Nat.le_refl _) _)⟩
  · obtain rfl : false = b := (sure_may HY.out).symm.trans HB.out
    go_wp2
    go_ret
    exact ⟨rfl, hb1⟩
set_option maxHeartbeats 1000000 in
theorem isanswer_impl (kd ck cn : Int) (ct nm : ByteArray) (w : World) (hct : ct.size ≤ maxLen) (b : Bool) (hb : lastB (kd, (ck, cn, ct), nm) = b) :
    Calls Tryz.prog 140 #[.agg #[.int .i64 kd, .int .i64 ck, .int .i64 cn, .string ct, .string nm]] w fun e w' => e = .returned (.bool b) ∧ Below w.heap.size w w' := by
  obtain ⟨r, hr⟩ : ∃ r, threeB ck cn ct = r := ⟨_, rfl⟩
  have HRr : Hid (threeB ck cn ct = r) := hr
  obtain ⟨x, hx⟩ : ∃ x, (if r = true then rankI ck cn else 0) = x := ⟨_, rfl⟩
  have HX : Hid ((if r = true then rankI ck cn else 0) = x) := hx
  clear hx
  by_cases h12 : kd = 12
  · subst h12
    obtain rfl : true = b := by rw [← hb]; rfl
    clear hb hr
    go_enter Tryz.func140, Tryz.ntmps140
    go_wp2
    go_ret
    exact ⟨rfl, (Below.refl _ _).alloc (Nat.le_refl _) _⟩
  · by_cases h1 : kd = 1
    · subst h1
      have HL : Hid (r = b) := by rw [← hb]; simp [lastB, hr]; exact ⟨⟩
      clear hb hr
      go_enter Tryz.func140, Tryz.ntmps140
      go_wp2_with fail
      refine (answer_impl ck cn ct x r HRr.out HX.out _ hct).mono ?_
      rintro e w2 ⟨rfl, hb2⟩
      obtain rfl := HL.out
      go_wp2
      go_ret
      exact ⟨rfl, chainA hb2⟩
    · obtain rfl : false = b := by rw [← hb]; simp [lastB, h12, h1]
      clear hb hr
      go_enter Tryz.func140, Tryz.ntmps140
      go_wp2
      go_ret
      exact ⟨rfl, (Below.refl _ _).alloc (Nat.le_refl _) _⟩
set_option maxHeartbeats 1000000 in
theorem sure_impl (a : Option Addr) (cap : Nat) (l : List TI) (n : Nat) (hn : l.length = n) (w : World) (hrow : ItmAt w a l) (hfit : FitI l) (hm : n ≤ maxLen) (hp : PowAt w) (he : ErrAt w) (b : Bool) (hb : sureR l = b) :
    Calls Tryz.prog 74 #[.slice a n cap] w fun e w' => e = .returned (.bool b) ∧ Below w.heap.size w w' := by
  have HN : Hid (l.length = n) := hn
  have HR : Hid (ItmAt w a l) := hrow
  have HF : Hid (FitI l) := hfit
  have HB : Hid (sureR l = b) := hb
  have HP : Hid (PowAt w) := hp
  have HE : Hid (ErrAt w) := he
  obtain ⟨y, hy⟩ : ∃ y, mayR l = y := ⟨_, rfl⟩
  have HY : Hid (mayR l = y) := hy
  clear hrow hfit hb hy hp he
  go_enter Tryz.func74, Tryz.ntmps74
  go_wp2_with fail
  refine (may_impl a cap l n HN.out _ HR.out HF.out hm HP.out HE.out y HY.out).mono ?_
  rintro e w1 ⟨rfl, hb1⟩
  cases y
  · obtain ⟨k, rfl⟩ : ∃ k, n = k + 1 := ⟨n - 1, by have := may_pos HY.out; omega⟩
    have hk : k < l.length := by omega
    obtain ⟨g, o, rfl, hgw, c0, c1, c2, c3, c4⟩ := HR.out.below hb1 k hk
    have hL : lastB l[k] = b := (sure_at hn HY.out).symm.trans HB.out
    have hft : l[k].2.1.2.2.size ≤ maxLen := (HF.out _ (List.getElem_mem hk)).1
    clear hn HB HY
    generalize l[k] = x at c0 c1 c2 c3 c4 hL hft
    obtain ⟨kd, ⟨ck, cn, ct⟩, nm⟩ := x
    simp only at c0 c1 c2 c3 c4 hft
    have HL : Hid (lastB (kd, (ck, cn, ct), nm) = b) := hL
    have hj : ((k + 1 : Nat) : Int) - 1 = (k : Int) := by omega
    have hi0 : (0 : Int) ≤ (k : Int) := by omega
    have hi1 : (k : Int) < ((k + 1 : Nat) : Int) := by omega
    unfold maxLen at hm
    clear hL
    go_wp2_with fail
    refine (isanswer_impl kd ck cn ct nm _ hft b HL.out).mono ?_
    rintro e w2 ⟨rfl, hb2⟩
    have hx := chain hb1 hb2
    go_wp2
    go_ret
    exact ⟨rfl, hx⟩
  · obtain rfl : false = b := (sure_may HY.out).symm.trans HB.out
    go_wp2
    go_ret
    exact ⟨rfl, hb1⟩
end Go.Proofs.YtegnekbbbfncgaaGreatDoor

/-
  Blocks that are as they were from a world on (Kept); the cells of a box.
-/
namespace Go.Proofs.YtegnekbbbfncgaaGreatDoor
open Go.ChangeShapes Go.WideShapes Go.ChangeAt Go.RowKit

/-- Blocks from lo up that V had are as they were. -/
structure Kept (lo : Nat) (V W : World) : Prop where
  size : V.heap.size ≤ W.heap.size
  same : ∀ g, lo ≤ g → g < V.heap.size → W.heap[g]? = V.heap[g]?
theorem Kept.refl (lo : Nat) (V : World) : Kept lo V V := ⟨Nat.le_refl _, fun _ _ _ => rfl⟩
theorem Kept.below {lo : Nat} {V W W' : World} (h : Kept lo V W) (hb : Below W.heap.size W W') : Kept lo V W' :=
  ⟨Nat.le_trans h.size hb.size, fun g h1 h2 => (hb.block g (Nat.lt_of_lt_of_le h2 h.size)).trans (h.same g h1 h2)⟩
theorem Kept.keepS {lo : Nat} {V W W' : World} {P : Nat → Prop} (h : Kept lo V W) (hk : KeepS P W W') (hP : ∀ b, P b → lo ≤ b → V.heap.size ≤ b) : Kept lo V W' :=
  ⟨Nat.le_trans h.size hk.size, fun g h1 h2 => (hk.block g (Nat.lt_of_lt_of_le h2 h.size) (fun hp => by have := hP g hp h1; omega)).trans (h.same g h1 h2)⟩
theorem Kept.box {lo B : Nat} {V W : World} {x : Obj} (h : Kept lo V W) (hlo : lo ≤ B) (hB : V.heap[B]? = some x) : W.heap[B]? = some x := by
  have hlt : B < V.heap.size := by
    by_cases hl : B < V.heap.size
    · exact hl
    · rw [Array.getElem?_eq_none (by omega)] at hB; cases hB
  exact (h.same B hlo hlt).trans hB
theorem cells7 {w : World} {B : Nat} {a b c d e f g : Value} {T : TypeId} (h : w.heap[B]? = some (.cells #[a, b, c, d, e, f, g] T)) : w.cell? ⟨B, 0, none⟩ = some (a) ∧ w.cell? ⟨B, 1, none⟩ = some (b) ∧ w.cell? ⟨B, 2, none⟩ = some (c) ∧ w.cell? ⟨B, 3, none⟩ = some (d) ∧ w.cell? ⟨B, 4, none⟩ = some (e) ∧ w.cell? ⟨B, 5, none⟩ = some (f) ∧ w.cell? ⟨B, 6, none⟩ = some (g) :=
  ⟨cell_of_row _ _ _ _ _ _ h, cell_of_row _ _ _ _ _ _ h, cell_of_row _ _ _ _ _ _ h, cell_of_row _ _ _ _ _ _ h, cell_of_row _ _ _ _ _ _ h, cell_of_row _ _ _ _ _ _ h, cell_of_row _ _ _ _ _ _ h⟩
end Go.Proofs.YtegnekbbbfncgaaGreatDoor
