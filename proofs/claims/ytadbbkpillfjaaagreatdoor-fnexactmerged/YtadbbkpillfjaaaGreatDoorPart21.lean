/-
  A part of the proof: SvS2, AskMath, SvS3, ShpS2.
-/
import Derived.Test.YtadbbkpillfjaaaGreatDoorPart20
import Derived.Test.YtadbbkpillfjaaaGreatDoorPart4
import Derived.Test.YtadbbkpillfjaaaGreatDoorPart8
import Derived.Test.YtadbbkpillfjaaaGreatDoorPart19

/-
  The contract of the model's SieveOk.
-/
namespace Go.Proofs.YtadbbkpillfjaaaGreatDoor
open Go.ChangeShapes Go.WideShapes Go.ChangeAt Go.RowKit
attribute [local go_sem ↓] Go.wp_at_zero Go.wp_at_succ
attribute [local simp] World.cell?_alloc_past World.cell?_alloc_at World.frozen?_alloc_at cell_far cell_off cell_here World.frozen?_alloc_past

theorem l1in_spec (x lo hi : Int) (b : Bool) (hb : (decide (lo ≤ x) && decide (x ≤ hi)) = b) (w : World) :
    Calls Tryz.prog 27 #[.int .i64 x, .int .i64 lo, .int .i64 hi] w fun e w' => e = .returned (.bool b) ∧ w' = w := by
  subst hb
  by_cases h1 : lo ≤ x
  · by_cases h2 : x ≤ hi
    · go_enter Tryz.func27, Tryz.ntmps27
      go_wp2
      go_ret
      exact ⟨ret_bool (by simp [h1, h2]), rfl⟩
    · go_enter Tryz.func27, Tryz.ntmps27
      go_wp2
      go_ret
      exact ⟨ret_bool (by rw [decide_eq_false (show ¬ x ≤ hi by omega)]), rfl⟩
  · go_enter Tryz.func27, Tryz.ntmps27
    go_wp2
    go_ret
    exact ⟨ret_bool (by rw [decide_eq_false (show ¬ lo ≤ x by omega), Bool.false_and]), rfl⟩
set_option maxRecDepth 100000 in
set_option maxHeartbeats 4000000 in
theorem sieve_spec (k : Int) (nm : ByteArray) (na : Option Addr) (nn nc : Nat) (ns : List ByteArray) (hnn : ns.length = nn) (sa : Option Addr) (sn sc : Nat) (sm : List TI) (hsn : sm.length = sn) (dn : Bool) (ct sk : Int) (w : World) (hnm : nm.size ≤ maxLen) (hN : StrsAt w na ns) (hNf : FitS ns) (hnM : nn ≤ maxLen) (hnc : nn ≤ nc) (hS : ItmAt w sa sm) (hSf : FitItm sm) (hsm : sn ≤ maxLen) (b : Bool) (hb : sieveB ⟨k, nm, ns, sm, dn, ct, sk⟩ = b) :
    Calls Tryz.prog 26 #[.agg #[.int .i64 k, .string nm, .slice na nn nc, .slice sa sn sc, .bool dn, .int .i64 ct, .int .i64 sk]] w fun e w' => e = .returned (.bool b) ∧ Below w.heap.size w w' := by
  have hbA : ∀ o, Below w.heap.size w (w.alloc o) := fun o => (Below.refl _ _).alloc (Nat.le_refl _) o
  obtain ⟨r, hr⟩ : ∃ r, bareB ⟨k, nm, ns, sm, dn, ct, sk⟩ = r := ⟨_, rfl⟩
  have HB : Hid (1 ≤ k ∧ k ≤ 10 → ∀ w', Below w.heap.size w w' → Calls Tryz.prog 41 #[.agg #[.int .i64 k, .string nm, .slice na nn nc, .slice sa sn sc, .bool dn, .int .i64 ct, .int .i64 sk]] w' fun e w'' => e = .returned (.bool r) ∧ Below w'.heap.size w' w'') :=
    fun hk w' hw => bare_spec k hk nm na nn nc ns hnn sa sn sc sm hsn dn ct sk w' hnm (hS.below hw) hSf hsm r hr
  have HNM : Hid (∀ (lo hi : Int) (w' : World), Below w.heap.size w w' → Calls Tryz.prog 42 #[.slice na nn nc, .int .i64 lo, .int .i64 hi] w' fun e w'' => e = .returned (.bool (names10 ns lo hi)) ∧ Below w'.heap.size w' w'') :=
    fun lo hi w' hw => names10_spec nn na nc ns hnn lo hi w' (hN.below hw) hNf hnM hnc _ rfl
  have HV : Hid ((if k = 4 then r && names10 ns 1 6 else if k = 7 then r && names10 ns 0 4 else if k = 9 then r && (in1000 ct && in1000 sk) else (decide (1 ≤ k) && decide (k ≤ 10)) && r) = b) := by
    have : (if k = 4 then r && names10 ns 1 6 else if k = 7 then r && names10 ns 0 4 else if k = 9 then r && (in1000 ct && in1000 sk) else (decide (1 ≤ k) && decide (k ≤ 10)) && r) = b := by
      rw [← hb, ← hr]; rfl
    exact this
  clear hb hr hnn hsn hnm hN hNf hnM hnc hS hSf hsm
  by_cases h4 : k = 4
  · subst h4
    obtain ⟨q, hq⟩ : ∃ q, names10 ns 1 6 = q := ⟨_, rfl⟩
    obtain rfl : (r && q) = b := by have := HV.out; rw [if_pos rfl, hq] at this; exact this
    have HQ : Hid (names10 ns 1 6 = q) := hq
    clear HV hq
    go_enter Tryz.func26, Tryz.ntmps26
    go_wp2_with fail
    refine (HB.out (by omega) _ (hbA _)).mono ?_
    rintro e w1 ⟨rfl, hb1⟩
    have hx1 := chain (hbA _) hb1
    cases r
    · go_wp2
      go_ret
      exact ⟨rfl, hx1⟩
    have p2 : w1.cell? ⟨w.heap.size, 2, none⟩ = some (.slice na nn nc) := by rw [hb1.cell (p := ⟨w.heap.size, 2, none⟩) (by simp)]; simp
    go_wp2_with fail
    refine (HNM.out 1 6 _ hx1).mono ?_
    rw [HQ.out]
    rintro e w2 ⟨rfl, hb2⟩
    have hx2 := chain hx1 hb2
    go_wp2
    go_ret
    exact ⟨rfl, hx2⟩
  by_cases h7 : k = 7
  · subst h7
    obtain ⟨q, hq⟩ : ∃ q, names10 ns 0 4 = q := ⟨_, rfl⟩
    obtain rfl : (r && q) = b := by have := HV.out; rw [if_neg (by decide), if_pos rfl, hq] at this; exact this
    have HQ : Hid (names10 ns 0 4 = q) := hq
    clear HV hq h4
    go_enter Tryz.func26, Tryz.ntmps26
    go_wp2_with fail
    refine (HB.out (by omega) _ (hbA _)).mono ?_
    rintro e w1 ⟨rfl, hb1⟩
    have hx1 := chain (hbA _) hb1
    cases r
    · go_wp2
      go_ret
      exact ⟨rfl, hx1⟩
    have p2 : w1.cell? ⟨w.heap.size, 2, none⟩ = some (.slice na nn nc) := by rw [hb1.cell (p := ⟨w.heap.size, 2, none⟩) (by simp)]; simp
    go_wp2_with fail
    refine (HNM.out 0 4 _ hx1).mono ?_
    rw [HQ.out]
    rintro e w2 ⟨rfl, hb2⟩
    have hx2 := chain hx1 hb2
    go_wp2
    go_ret
    exact ⟨rfl, hx2⟩
  by_cases h9 : k = 9
  · subst h9
    obtain ⟨q1, hq1⟩ : ∃ q, in1000 ct = q := ⟨_, rfl⟩
    obtain ⟨q2, hq2⟩ : ∃ q, in1000 sk = q := ⟨_, rfl⟩
    obtain rfl : (r && (q1 && q2)) = b := by have := HV.out; rw [if_neg (by decide), if_neg (by decide), if_pos rfl, hq1, hq2] at this; exact this
    have HQ1 : Hid (in1000 ct = q1) := hq1
    have HQ2 : Hid (in1000 sk = q2) := hq2
    clear HV hq1 hq2 h4 h7
    go_enter Tryz.func26, Tryz.ntmps26
    go_wp2_with fail
    refine (HB.out (by omega) _ (hbA _)).mono ?_
    rintro e w1 ⟨rfl, hb1⟩
    have hx1 := chain (hbA _) hb1
    cases r
    · go_wp2
      go_ret
      exact ⟨rfl, hx1⟩
    have p5 : w1.cell? ⟨w.heap.size, 5, none⟩ = some (.int .i64 ct) := by rw [hb1.cell (p := ⟨w.heap.size, 5, none⟩) (by simp)]; simp
    have p6 : w1.cell? ⟨w.heap.size, 6, none⟩ = some (.int .i64 sk) := by rw [hb1.cell (p := ⟨w.heap.size, 6, none⟩) (by simp)]; simp
    go_wp2_with fail
    refine (l1in_spec ct 0 1000 q1 HQ1.out _).mono ?_
    rintro e w2 ⟨rfl, hw2⟩
    obtain rfl : w1 = w2 := hw2.symm
    cases q1
    · go_wp2
      go_ret
      exact ⟨rfl, hx1⟩
    go_wp2_with fail
    refine (l1in_spec sk 0 1000 q2 HQ2.out _).mono ?_
    rintro e w2 ⟨rfl, hw2⟩
    obtain rfl : w1 = w2 := hw2.symm
    go_wp2
    go_ret
    exact ⟨rfl, hx1⟩
  have g4 : (k == 4) = false := by simpa using h4
  have g7 : (k == 7) = false := by simpa using h7
  have g9 : (k == 9) = false := by simpa using h9
  obtain ⟨q, hq⟩ : ∃ q, (decide (1 ≤ k) && decide (k ≤ 10)) = q := ⟨_, rfl⟩
  obtain rfl : (q && r) = b := by have := HV.out; rw [if_neg h4, if_neg h7, if_neg h9, hq] at this; exact this
  have HQ : Hid ((decide (1 ≤ k) && decide (k ≤ 10)) = q) := hq
  clear HV hq h4 h7 h9
  go_enter Tryz.func26, Tryz.ntmps26
  go_wp2_with fail
  refine (l1in_spec k 1 10 q HQ.out _).mono ?_
  rintro e w1 ⟨rfl, hw1⟩
  replace hw1 := hw1.symm
  subst hw1
  cases q
  · go_wp2
    go_ret
    exact ⟨rfl, hbA _⟩
  have hk : 1 ≤ k ∧ k ≤ 10 := by
    have := HQ.out
    rw [Bool.and_eq_true, decide_eq_true_eq, decide_eq_true_eq] at this
    exact this
  go_wp2_with fail
  refine (HB.out hk _ (hbA _)).mono ?_
  rintro e w2 ⟨rfl, hb2⟩
  have hx2 := chain (hbA _) hb2
  go_wp2
  go_ret
  exact ⟨rfl, hx2⟩
end Go.Proofs.YtadbbkpillfjaaaGreatDoor

/-
  Questions without any program: sieve by sieve.
-/
namespace Go.Proofs.YtadbbkpillfjaaaGreatDoor

/-- Is it right at this place? -/
def goodS (i : Nat) (s : SV) : Bool := sieveB s && ((s.kind == 1) == decide (i = 0))
def goodL : Nat → List SV → Bool
  | _, [] => true
  | i, x :: l => goodS i x && goodL (i + 1) l
theorem goodL_succ (l : List SV) (i : Nat) : goodL (i + 1) l = (l.all sieveB && l.all (fun y => y.kind != 1)) := by
  induction l generalizing i with
  | nil => rfl
  | cons x l ih =>
    unfold goodL goodS
    rw [ih, List.all_cons, List.all_cons, decide_eq_false (by omega : ¬ i + 1 = 0)]
    have : (x.kind != 1) = !(x.kind == 1) := rfl
    rw [this]
    cases sieveB x <;> cases (x.kind == 1) <;> cases (l.all sieveB) <;> simp
theorem goodL_step (T : List SV) (k : Nat) (h : k < T.length) : goodL k (T.drop k) = (goodS k T[k] && goodL (k + 1) (T.drop (k + 1))) := by
  rw [List.drop_eq_getElem_cons h]; rfl
theorem goodL_end (T : List SV) (k : Nat) (h : T.length ≤ k) : goodL k (T.drop k) = true := by
  rw [List.drop_of_length_le h]; rfl
theorem ask_good (T : List SV) : askB T = (goodL 0 T && (decide ((1 : Int) ≤ (T.length : Int)) && decide ((T.length : Int) ≤ 8))) := by
  cases T with
  | nil => rfl
  | cons x l =>
    unfold askB goodL goodS
    rw [goodL_succ, show firstB (x :: l) = (x.kind == 1 && l.all (fun y => y.kind != 1)) from rfl, List.all_cons, decide_eq_true (show (1 : Int) ≤ ((x :: l).length : Int) by rw [List.length_cons]; omega), Bool.true_and]
    have e : decide (((x :: l).length : Int) ≤ 8) = decide ((x :: l).length ≤ 8) := by
      by_cases h : (x :: l).length ≤ 8
      · rw [decide_eq_true h, decide_eq_true (show ((x :: l).length : Int) ≤ 8 by omega)]
      · rw [decide_eq_false h, decide_eq_false (show ¬ ((x :: l).length : Int) ≤ 8 by omega)]
    rw [e, decide_eq_true (show 0 = 0 from rfl)]
    generalize decide ((x :: l).length ≤ 8) = q
    generalize (x.kind == 1) = a
    generalize l.all (fun y => y.kind != 1) = d
    generalize l.all sieveB = c
    generalize sieveB x = s
    cases q <;> cases a <;> cases c <;> cases d <;> cases s <;> rfl
end Go.Proofs.YtadbbkpillfjaaaGreatDoor

/-
  The contract of the model's AskOk.
-/
namespace Go.Proofs.YtadbbkpillfjaaaGreatDoor
open Go.ChangeShapes Go.WideShapes Go.ChangeAt Go.RowKit
attribute [local go_sem ↓] Go.wp_at_zero Go.wp_at_succ
attribute [local simp] World.cell?_alloc_past World.cell?_alloc_at World.frozen?_alloc_at cell_far cell_off cell_here World.frozen?_alloc_past

set_option maxRecDepth 100000 in
set_option maxHeartbeats 4000000 in
theorem ask_spec (a : Option Addr) (cap : Nat) (T : List SV) (n : Nat) (hn : T.length = n) (w : World) (hrow : SivsAt w a T) (hm : n ≤ maxLen) (b : Bool) (hb : askB T = b) :
    Calls Tryz.prog 12 #[.slice a n cap] w fun e w' => e = .returned (.bool b) ∧ Below w.heap.size w w' := by
  have HR : Hid (SivsAt w a T) := hrow
  have HN : Hid (T.length = n) := hn
  obtain ⟨q, hq⟩ : ∃ q, (decide ((1 : Int) ≤ (n : Int)) && decide ((n : Int) ≤ 8)) = q := ⟨_, rfl⟩
  have HQ : Hid ((decide ((1 : Int) ≤ (n : Int)) && decide ((n : Int) ≤ 8)) = q) := hq
  have HG : Hid ((goodL 0 (T.drop 0) && q) = b) := by
    have : (goodL 0 (T.drop 0) && q) = b := by rw [← hb, ask_good, hn, hq]; rfl
    exact this
  clear hrow hn hb hq
  have hm6 := hm
  unfold maxLen at hm6
  go_enter Tryz.func12, Tryz.ntmps12
  go_wp2
  go_loopw [3] (fun iv wr => ∃ k : Nat, k ≤ n ∧ iv = .int .i64 k ∧ Hid ((goodL k (T.drop k) && q) = b) ∧ Below w.heap.size w wr) (fun iv _ => n - (intOf iv).toNat)
  case atStart => exact ⟨0, Nat.zero_le _, rfl, HG, Below.refl _ _⟩
  case round =>
    obtain ⟨k, hk, rfl, hg, hbw⟩ := hrel
    by_cases hlt : k < n
    · have hlk : k < T.length := by rw [HN.out]; exact hlt
      obtain ⟨g, o, na, nc, sa, sc, rfl, hgw, ⟨c0, c1, c2, c3, c4, c5, c6⟩, ht⟩ := HR.out.below hbw k hlk
      have hi0 : (0 : Int) ≤ (k : Int) := by omega
      have hi1 : (k : Int) < (n : Int) := by omega
      have HST : Hid ((goodS k T[k] && goodL (k + 1) (T.drop (k + 1)) && q) = b) := by
        have := hg.out
        rw [goodL_step T k hlk] at this
        exact this
      generalize T[k] = s at c0 c1 c2 c3 c4 c5 c6 ht HST
      obtain ⟨kd, nm, N, S, dn, ct, sk⟩ := s
      dsimp only at c0 c1 c2 c3 c4 c5 c6
      obtain ⟨nn, hnn⟩ : ∃ m, N.length = m := ⟨_, rfl⟩
      obtain ⟨sn, hsn⟩ : ∃ m, S.length = m := ⟨_, rfl⟩
      rw [hnn] at c2
      rw [hsn] at c3
      obtain ⟨r, hr⟩ : ∃ r, sieveB ⟨kd, nm, N, S, dn, ct, sk⟩ = r := ⟨_, rfl⟩
      have C : Hid (Calls Tryz.prog 26 #[.agg #[.int .i64 kd, .string nm, .slice na nn nc, .slice sa sn sc, .bool dn, .int .i64 ct, .int .i64 sk]] wr fun e w' => e = .returned (.bool r) ∧ Below wr.heap.size wr w') :=
        sieve_spec kd nm na nn nc N hnn sa sn sc S hsn dn ct sk wr ht.name ht.names ht.fitN (by rw [← hnn]; exact ht.lenN) (by rw [← hnn]; exact ht.capN) ht.sum ht.fitI (by rw [← hsn]; exact ht.lenI) r hr
      have HV : Hid (((r && ((kd == 1) == decide (k = 0))) && goodL (k + 1) (T.drop (k + 1)) && q) = b) := by
        have := HST.out
        unfold goodS at this
        rw [hr] at this
        exact this
      clear HST hr ht hnn hsn hlk hg
      go_wp2_with fail
      refine C.out.mono ?_
      rintro e w1 ⟨rfl, hb1⟩
      have hx1 := chain hbw hb1
      have d0 : w1.cell? ⟨g, o + k * 7, none⟩ = some (.int .i64 kd) := by rw [hb1.cell (p := ⟨g, o + k * 7, none⟩) hgw]; exact c0
      have hgw1 : g < w1.heap.size := Nat.lt_of_lt_of_le hgw hb1.size
      clear c0 c1 c2 c3 c4 c5 c6 hb1 C
      cases r
      · obtain rfl : b = false := by rw [← HV.out]; simp
        go_wp2
        go_ret
        exact ⟨rfl, hx1⟩
      by_cases hk1 : kd = 1
      · subst hk1
        by_cases hk0 : k = 0
        · have hz : ((k : Int) == 0) = true := by simp; omega
          have HV2 : Hid ((goodL (k + 1) (T.drop (k + 1)) && q) = b) := by
            have h := HV.out
            rw [decide_eq_true hk0] at h
            have h2 : (goodL (k + 1) (T.drop (k + 1)) && q) = b := by simpa using h
            exact h2
          clear HV hk0
          go_wp2
          go_roundw
          case rel => exact ⟨k + 1, by omega, by go_num, HV2, hx1⟩
          case measure => simp [intOf]; omega
        · have hz : ((k : Int) == 0) = false := by simp; omega
          obtain rfl : b = false := by
            rw [← HV.out, decide_eq_false hk0]; rfl
          clear HV hk0
          go_wp2
          go_ret
          exact ⟨rfl, hx1⟩
      · have hz1 : (kd == 1) = false := by simpa using hk1
        by_cases hk0 : k = 0
        · have hz : ((k : Int) == 0) = true := by simp; omega
          obtain rfl : b = false := by
            rw [← HV.out, hz1, decide_eq_true hk0]; rfl
          clear HV hk0
          go_wp2
          go_ret
          exact ⟨rfl, hx1⟩
        · have hz : ((k : Int) == 0) = false := by simp; omega
          have HV2 : Hid ((goodL (k + 1) (T.drop (k + 1)) && q) = b) := by
            have h := HV.out
            rw [hz1, decide_eq_false hk0] at h
            have h2 : (goodL (k + 1) (T.drop (k + 1)) && q) = b := by simpa using h
            exact h2
          clear HV hk0
          go_wp2
          go_roundw
          case rel => exact ⟨k + 1, by omega, by go_num, HV2, hx1⟩
          case measure => simp [intOf]; omega
    · have hkl : k = n := by omega
      subst hkl
      have hi1 : ¬ (k : Int) < (k : Int) := by omega
      obtain rfl : q = b := by
        have := hg.out
        rw [goodL_end T k (by rw [HN.out]; exact Nat.le_refl _), Bool.true_and] at this
        exact this
      clear hg
      go_wp2_with fail
      refine (l1in_spec (k : Int) 1 8 q HQ.out _).mono ?_
      rintro e w1 ⟨rfl, hw1⟩
      obtain rfl : wr = w1 := hw1.symm
      go_wp2
      go_ret
      exact ⟨rfl, hbw⟩
end Go.Proofs.YtadbbkpillfjaaaGreatDoor

/-
  The contracts of the model's StepShape and ShapeOf.
-/
namespace Go.Proofs.YtadbbkpillfjaaaGreatDoor
open Go.ChangeShapes Go.WideShapes Go.ChangeAt Go.RowKit
attribute [local go_sem ↓] Go.wp_at_zero Go.wp_at_succ
attribute [local simp] World.cell?_alloc_past World.cell?_alloc_at World.frozen?_alloc_at cell_far cell_off cell_here World.frozen?_alloc_past

end Go.Proofs.YtadbbkpillfjaaaGreatDoor
