/-
  A part of the proof: SvS2, AskMath, SvS3, ShpS2.
-/
import Derived.Test.YtegnekbbbfncgaaGreatDoorPart16
import Derived.Test.YtegnekbbbfncgaaGreatDoorPart12
import Derived.Test.YtegnekbbbfncgaaGreatDoorPart15

/-
  The contract of the model's SieveOk.
-/
namespace Go.Proofs.YtegnekbbbfncgaaGreatDoor
open Go.ChangeShapes Go.WideShapes Go.ChangeAt Go.RowKit
attribute [local go_sem ↓] Go.wp_at_zero Go.wp_at_succ
attribute [local simp] World.cell?_alloc_past World.cell?_alloc_at World.frozen?_alloc_at cell_far cell_off cell_here World.frozen?_alloc_past

theorem l1in_spec (x lo hi : Int) (b : Bool) (hb : (decide (lo ≤ x) && decide (x ≤ hi)) = b) (w : World) :
    Calls Tryz.prog 127 #[.int .i64 x, .int .i64 lo, .int .i64 hi] w fun e w' => e = .returned (.bool b) ∧ w' = w := by
  subst hb
  by_cases h1 : lo ≤ x
  · by_cases h2 : x ≤ hi
    · go_enter Tryz.func127, Tryz.ntmps127
      go_wp2
      go_ret
      exact ⟨ret_bool (by simp [h1, h2]), rfl⟩
    · go_enter Tryz.func127, Tryz.ntmps127
      go_wp2
      go_ret
      exact ⟨ret_bool (by rw [decide_eq_false (show ¬ x ≤ hi by omega)]), rfl⟩
  · go_enter Tryz.func127, Tryz.ntmps127
    go_wp2
    go_ret
    exact ⟨ret_bool (by rw [decide_eq_false (show ¬ lo ≤ x by omega), Bool.false_and]), rfl⟩
set_option maxRecDepth 100000 in
set_option maxHeartbeats 4000000 in
theorem sieve_spec (k : Int) (nm : ByteArray) (na : Option Addr) (nn nc : Nat) (ns : List ByteArray) (hnn : ns.length = nn) (sa : Option Addr) (sn sc : Nat) (sm : List TI) (hsn : sm.length = sn) (dn : Bool) (ct sk : Int) (w : World) (hnm : nm.size ≤ maxLen) (hN : StrsAt w na ns) (hNf : FitS ns) (hnM : nn ≤ maxLen) (hnc : nn ≤ nc) (hS : ItmAt w sa sm) (hSf : FitItm sm) (hsm : sn ≤ maxLen) (b : Bool) (hb : sieveB ⟨k, nm, ns, sm, dn, ct, sk⟩ = b) :
    Calls Tryz.prog 63 #[.agg #[.int .i64 k, .string nm, .slice na nn nc, .slice sa sn sc, .bool dn, .int .i64 ct, .int .i64 sk]] w fun e w' => e = .returned (.bool b) ∧ Below w.heap.size w w' := by
  have hbA : ∀ o, Below w.heap.size w (w.alloc o) := fun o => (Below.refl _ _).alloc (Nat.le_refl _) o
  obtain ⟨r, hr⟩ : ∃ r, bareB ⟨k, nm, ns, sm, dn, ct, sk⟩ = r := ⟨_, rfl⟩
  have HB : Hid (1 ≤ k ∧ k ≤ 10 → ∀ w', Below w.heap.size w w' → Calls Tryz.prog 125 #[.agg #[.int .i64 k, .string nm, .slice na nn nc, .slice sa sn sc, .bool dn, .int .i64 ct, .int .i64 sk]] w' fun e w'' => e = .returned (.bool r) ∧ Below w'.heap.size w' w'') :=
    fun hk w' hw => bare_spec k hk nm na nn nc ns hnn sa sn sc sm hsn dn ct sk w' hnm (hS.below hw) hSf hsm r hr
  have HNM : Hid (∀ (lo hi : Int) (w' : World), Below w.heap.size w w' → Calls Tryz.prog 126 #[.slice na nn nc, .int .i64 lo, .int .i64 hi] w' fun e w'' => e = .returned (.bool (names10 ns lo hi)) ∧ Below w'.heap.size w' w'') :=
    fun lo hi w' hw => names10_spec nn na nc ns hnn lo hi w' (hN.below hw) hNf hnM hnc _ rfl
  have HV : Hid ((if k = 4 then r && names10 ns 1 6 else if k = 7 then r && names10 ns 0 4 else if k = 9 then r && (in1000 ct && in1000 sk) else (decide (1 ≤ k) && decide (k ≤ 10)) && r) = b) := by
    have : (if k = 4 then r && names10 ns 1 6 else if k = 7 then r && names10 ns 0 4 else if k = 9 then r && (in1000 ct && in1000 sk) else (decide (1 ≤ k) && decide (k ≤ 10)) && r) = b := by
      rw [← hb, ← hr]; rfl
    exact this
  clear hb hr hnn hsn hnm hN hNf hnM hnc hS hSf hsm
  by_cases h4 : k = 4
  · subst h4
    obtain ⟨q, hq⟩ : ∃ q, names10 ns 1 6 = q := ⟨_, rfl⟩
    obtain rfl : (r && q) = b := by have := HV.out; rw [if_pos rfl, hq] at this; exact this
    have HQ : Hid (names10 ns 1 6 = q) := hq
    clear HV hq
    go_enter Tryz.func63, Tryz.ntmps63
    go_wp2_with fail
    refine (HB.out (by omega) _ (hbA _)).mono ?_
    rintro e w1 ⟨rfl, hb1⟩
    have hx1 := chain (hbA _) hb1
    cases r
    · go_wp2
      go_ret
      exact ⟨rfl, hx1⟩
    have p2 : w1.cell? ⟨w.heap.size, 2, none⟩ = some (.slice na nn nc) := by rw [hb1.cell (p := ⟨w.heap.size, 2, none⟩) (by simp)]; simp
    go_wp2_with fail
    refine (HNM.out 1 6 _ hx1).mono ?_
    rw [HQ.out]
    rintro e w2 ⟨rfl, hb2⟩
    have hx2 := chain hx1 hb2
    go_wp2
    go_ret
    exact ⟨rfl, hx2⟩
  by_cases h7 : k = 7
  · subst h7
    obtain ⟨q, hq⟩ : ∃ q, names10 ns 0 4 = q := ⟨_, rfl⟩
    obtain rfl : (r && q) = b := by have := HV.out; rw [if_neg (by decide), if_pos rfl, hq] at this; exact this
    have HQ : Hid (names10 ns 0 4 = q) := hq
    clear HV hq h4
    go_enter Tryz.func63, Tryz.ntmps63
    go_wp2_with fail
    refine (HB.out (by omega) _ (hbA _)).mono ?_
    rintro e w1 ⟨rfl, hb1⟩
    have hx1 := chain (hbA _) hb1
    cases r
    · go_wp2
      go_ret
      exact ⟨rfl, hx1⟩
    have p2 : w1.cell? ⟨w.heap.size, 2, none⟩ = some (.slice na nn nc) := by rw [hb1.cell (p := ⟨w.heap.size, 2, none⟩) (by simp)]; simp
    go_wp2_with fail
    refine (HNM.out 0 4 _ hx1).mono ?_
    rw [HQ.out]
    rintro e w2 ⟨rfl, hb2⟩
    have hx2 := chain hx1 hb2
    go_wp2
    go_ret
    exact ⟨rfl, hx2⟩
  by_cases h9 : k = 9
  · subst h9
    obtain ⟨q1, hq1⟩ : ∃ q, in1000 ct = q := ⟨_, rfl⟩
    obtain ⟨q2, hq2⟩ : ∃ q, in1000 sk = q := ⟨_, rfl⟩
    obtain rfl : (r && (q1 && q2)) = b := by have := HV.out; rw [if_neg (by decide), if_neg (by decide), if_pos rfl, hq1, hq2] at this; exact this
    have HQ1 : Hid (in1000 ct = q1) := hq1
    have HQ2 : Hid (in1000 sk = q2) := hq2
    clear HV hq1 hq2 h4 h7
    go_enter Tryz.func63, Tryz.ntmps63
    go_wp2_with fail
    refine (HB.out (by omega) _ (hbA _)).mono ?_
    rintro e w1 ⟨rfl, hb1⟩
    have hx1 := chain (hbA _) hb1
    cases r
    · go_wp2
      go_ret
      exact ⟨rfl, hx1⟩
    have p5 : w1.cell? ⟨w.heap.size, 5, none⟩ = some (.int .i64 ct) := by rw [hb1.cell (p := ⟨w.heap.size, 5, none⟩) (by simp)]; simp
    have p6 : w1.cell? ⟨w.heap.size, 6, none⟩ = some (.int .i64 sk) := by rw [hb1.cell (p := ⟨w.heap.size, 6, none⟩) (by simp)]; simp
    go_wp2_with fail
    refine (l1in_spec ct 0 1000 q1 HQ1.out _).mono ?_
    rintro e w2 ⟨rfl, hw2⟩
    obtain rfl : w1 = w2 := hw2.symm
    cases q1
    · go_wp2
      go_ret
      exact ⟨rfl, hx1⟩
    go_wp2_with fail
    refine (l1in_spec sk 0 1000 q2 HQ2.out _).mono ?_
    rintro e w2 ⟨rfl, hw2⟩
    obtain rfl : w1 = w2 := hw2.symm
    go_wp2
    go_ret
    exact ⟨rfl, hx1⟩
  have g4 : (k == 4) = false := by simpa using h4
  have g7 : (k == 7) = false := by simpa using h7
  have g9 : (k == 9) = false := by simpa using h9
  obtain ⟨q, hq⟩ : ∃ q, (decide (1 ≤ k) && decide (k ≤ 10)) = q := ⟨_, rfl⟩
  obtain rfl : (q && r) = b := by have := HV.out; rw [if_neg h4, if_neg h7, if_neg h9, hq] at this; exact this
  have HQ : Hid ((decide (1 ≤ k) && decide (k ≤ 10)) = q) := hq
  clear HV hq h4 h7 h9
  go_enter Tryz.func63, Tryz.ntmps63
  go_wp2_with fail
  refine (l1in_spec k 1 10 q HQ.out _).mono ?_
  rintro e w1 ⟨rfl, hw1⟩
  replace hw1 := hw1.symm
  subst hw1
  cases q
  · go_wp2
    go_ret
    exact ⟨rfl, hbA _⟩
  have hk : 1 ≤ k ∧ k ≤ 10 := by
    have := HQ.out
    rw [Bool.and_eq_true, decide_eq_true_eq, decide_eq_true_eq] at this
    exact this
  go_wp2_with fail
  refine (HB.out hk _ (hbA _)).mono ?_
  rintro e w2 ⟨rfl, hb2⟩
  have hx2 := chain (hbA _) hb2
  go_wp2
  go_ret
  exact ⟨rfl, hx2⟩
end Go.Proofs.YtegnekbbbfncgaaGreatDoor

/-
  Questions without any program: sieve by sieve.
-/
namespace Go.Proofs.YtegnekbbbfncgaaGreatDoor

end Go.Proofs.YtegnekbbbfncgaaGreatDoor

/-
  The contract of the model's AskOk.
-/
namespace Go.Proofs.YtegnekbbbfncgaaGreatDoor
open Go.ChangeShapes Go.WideShapes Go.ChangeAt Go.RowKit
attribute [local go_sem ↓] Go.wp_at_zero Go.wp_at_succ
attribute [local simp] World.cell?_alloc_past World.cell?_alloc_at World.frozen?_alloc_at cell_far cell_off cell_here World.frozen?_alloc_past

end Go.Proofs.YtegnekbbbfncgaaGreatDoor

/-
  The contracts of the model's StepShape and ShapeOf.
-/
namespace Go.Proofs.YtegnekbbbfncgaaGreatDoor
open Go.ChangeShapes Go.WideShapes Go.ChangeAt Go.RowKit
attribute [local go_sem ↓] Go.wp_at_zero Go.wp_at_succ
attribute [local simp] World.cell?_alloc_past World.cell?_alloc_at World.frozen?_alloc_at cell_far cell_off cell_here World.frozen?_alloc_past

end Go.Proofs.YtegnekbbbfncgaaGreatDoor
