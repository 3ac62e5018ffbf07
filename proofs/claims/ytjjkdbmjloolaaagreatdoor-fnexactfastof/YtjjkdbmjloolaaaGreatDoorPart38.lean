/-
  A part of the proof: SvS2, AskMath, SvS3, ShpS2.
-/
import Derived.Test.YtjjkdbmjloolaaaGreatDoorPart1
import Derived.Test.YtjjkdbmjloolaaaGreatDoorPart37
import Derived.Test.YtjjkdbmjloolaaaGreatDoorPart9
import Derived.Test.YtjjkdbmjloolaaaGreatDoorPart33
import Derived.Test.YtjjkdbmjloolaaaGreatDoorPart36

namespace Go.Proofs.YtjjkdbmjloolaaaGreatDoor
open Go.ChangeShapes Go.WideShapes Go.ChangeAt Go.RowKit
attribute [local go_sem ↓] Go.wp_at_zero Go.wp_at_succ
attribute [local simp] World.cell?_alloc_past World.cell?_alloc_at World.frozen?_alloc_at cell_far cell_off cell_here World.frozen?_alloc_past
theorem l1in_spec (x lo hi : Int) (b : Bool) (hb : (decide (lo ≤ x) && decide (x ≤ hi)) = b) (w : World) :
  Calls Tryz.prog 35 #[.int .i64 x, .int .i64 lo, .int .i64 hi] w fun e w' => e = .returned (.bool b) ∧ w' = w := by
 subst hb
 by_cases h1 : lo ≤ x
 · by_cases h2 : x ≤ hi
  · go_enter Tryz.func35, Tryz.ntmps35
   go_wp2
   go_ret
   exact ⟨ret_bool (by simp [h1, h2]), rfl⟩
  · go_enter Tryz.func35, Tryz.ntmps35
   go_wp2
   go_ret
   exact ⟨ret_bool (by rw [decide_eq_false (show ¬ x ≤ hi by omega)]), rfl⟩
 · go_enter Tryz.func35, Tryz.ntmps35
  go_wp2
  go_ret
  exact ⟨ret_bool (by rw [decide_eq_false (show ¬ lo ≤ x by omega), Bool.false_and]), rfl⟩
set_option maxRecDepth 100000 in
set_option maxHeartbeats 4000000 in
theorem sieve_spec (k : Int) (nm : ByteArray) (na : Option Addr) (nn nc : Nat) (ns : List ByteArray) (hnn : ns.length = nn) (sa : Option Addr) (sn sc : Nat) (sm : List TI) (hsn : sm.length = sn) (dn : Bool) (ct sk : Int) (w : World) (hnm : nm.size ≤ maxLen) (hN : StrsAt w na ns) (hNf : FitS ns) (hnM : nn ≤ maxLen) (hnc : nn ≤ nc) (hS : ItmAt w sa sm) (hSf : FitItm sm) (hsm : sn ≤ maxLen) (b : Bool) (hb : sieveB ⟨k, nm, ns, sm, dn, ct, sk⟩ = b) :
  Calls Tryz.prog 53 #[.agg #[.int .i64 k, .string nm, .slice na nn nc, .slice sa sn sc, .bool dn, .int .i64 ct, .int .i64 sk]] w fun e w' => e = .returned (.bool b) ∧ Below w.heap.size w w' := by
 have hbA : ∀ o, Below w.heap.size w (w.alloc o) := fun o => (Below.refl _ _).alloc (Nat.le_refl _) o
 obtain ⟨r, hr⟩ : ∃ r, bareB ⟨k, nm, ns, sm, dn, ct, sk⟩ = r := ⟨_, rfl⟩
 have HB : Hid (1 ≤ k ∧ k ≤ 10 → ∀ w', Below w.heap.size w w' → Calls Tryz.prog 68 #[.agg #[.int .i64 k, .string nm, .slice na nn nc, .slice sa sn sc, .bool dn, .int .i64 ct, .int .i64 sk]] w' fun e w'' => e = .returned (.bool r) ∧ Below w'.heap.size w' w'') :=
  fun hk w' hw => bare_spec k hk nm na nn nc ns hnn sa sn sc sm hsn dn ct sk w' hnm (hS.below hw) hSf hsm r hr
 have HNM : Hid (∀ (lo hi : Int) (w' : World), Below w.heap.size w w' → Calls Tryz.prog 69 #[.slice na nn nc, .int .i64 lo, .int .i64 hi] w' fun e w'' => e = .returned (.bool (names10 ns lo hi)) ∧ Below w'.heap.size w' w'') :=
  fun lo hi w' hw => names10_spec nn na nc ns hnn lo hi w' (hN.below hw) hNf hnM hnc _ rfl
 have HV : Hid ((if k = 4 then r && names10 ns 1 6 else if k = 7 then r && names10 ns 0 4 else if k = 9 then r && (in1000 ct && in1000 sk) else (decide (1 ≤ k) && decide (k ≤ 10)) && r) = b) := by
  have : (if k = 4 then r && names10 ns 1 6 else if k = 7 then r && names10 ns 0 4 else if k = 9 then r && (in1000 ct && in1000 sk) else (decide (1 ≤ k) && decide (k ≤ 10)) && r) = b := by
   rw [← hb, ← hr]; rfl
  exact this
 clear hb hr hnn hsn hnm hN hNf hnM hnc hS hSf hsm
 by_cases h4 : k = 4
 · subst h4
  obtain ⟨q, hq⟩ : ∃ q, names10 ns 1 6 = q := ⟨_, rfl⟩
  obtain rfl : (r && q) = b := by have := HV.out; rw [if_pos rfl, hq] at this; exact this
  have HQ := hid hq
  clear HV hq
  go_enter Tryz.func53, Tryz.ntmps53
  go_wp2_with fail
  refine (HB.out (by omega) _ (hbA _)).mono ?_
  rintro e w1 ⟨rfl, hb1⟩
  have hx1 := chain (hbA _) hb1
  cases r
  · go_wp2
   go_ret
   exact ⟨rfl, hx1⟩
  have p2 : w1.cell? ⟨w.heap.size, 2, none⟩ = some (.slice na nn nc) := by rw [hb1.cell (p := ⟨w.heap.size, 2, none⟩) (by simp)]; simp
  go_wp2_with fail
  refine (HNM.out 1 6 _ hx1).mono ?_
  rw [HQ.out]
  rintro e w2 ⟨rfl, hb2⟩
  have hx2 := chain hx1 hb2
  go_wp2
  go_ret
  exact ⟨rfl, hx2⟩
 by_cases h7 : k = 7
 · subst h7
  obtain ⟨q, hq⟩ : ∃ q, names10 ns 0 4 = q := ⟨_, rfl⟩
  obtain rfl : (r && q) = b := by have := HV.out; rw [if_neg (by decide), if_pos rfl, hq] at this; exact this
  have HQ := hid hq
  clear HV hq h4
  go_enter Tryz.func53, Tryz.ntmps53
  go_wp2_with fail
  refine (HB.out (by omega) _ (hbA _)).mono ?_
  rintro e w1 ⟨rfl, hb1⟩
  have hx1 := chain (hbA _) hb1
  cases r
  · go_wp2
   go_ret
   exact ⟨rfl, hx1⟩
  have p2 : w1.cell? ⟨w.heap.size, 2, none⟩ = some (.slice na nn nc) := by rw [hb1.cell (p := ⟨w.heap.size, 2, none⟩) (by simp)]; simp
  go_wp2_with fail
  refine (HNM.out 0 4 _ hx1).mono ?_
  rw [HQ.out]
  rintro e w2 ⟨rfl, hb2⟩
  have hx2 := chain hx1 hb2
  go_wp2
  go_ret
  exact ⟨rfl, hx2⟩
 by_cases h9 : k = 9
 · subst h9
  obtain ⟨q1, hq1⟩ : ∃ q, in1000 ct = q := ⟨_, rfl⟩
  obtain ⟨q2, hq2⟩ : ∃ q, in1000 sk = q := ⟨_, rfl⟩
  obtain rfl : (r && (q1 && q2)) = b := by have := HV.out; rw [if_neg (by decide), if_neg (by decide), if_pos rfl, hq1, hq2] at this; exact this
  have HQ1 := hid hq1
  have HQ2 := hid hq2
  clear HV hq1 hq2 h4 h7
  go_enter Tryz.func53, Tryz.ntmps53
  go_wp2_with fail
  refine (HB.out (by omega) _ (hbA _)).mono ?_
  rintro e w1 ⟨rfl, hb1⟩
  have hx1 := chain (hbA _) hb1
  cases r
  · go_wp2
   go_ret
   exact ⟨rfl, hx1⟩
  have p5 : w1.cell? ⟨w.heap.size, 5, none⟩ = some (.int .i64 ct) := by rw [hb1.cell (p := ⟨w.heap.size, 5, none⟩) (by simp)]; simp
  have p6 : w1.cell? ⟨w.heap.size, 6, none⟩ = some (.int .i64 sk) := by rw [hb1.cell (p := ⟨w.heap.size, 6, none⟩) (by simp)]; simp
  go_wp2_with fail
  refine (l1in_spec ct 0 1000 q1 HQ1.out _).mono ?_
  rintro e w2 ⟨rfl, hw2⟩
  obtain rfl : w1 = w2 := hw2.symm
  cases q1
  · go_wp2
   go_ret
   exact ⟨rfl, hx1⟩
  go_wp2_with fail
  refine (l1in_spec sk 0 1000 q2 HQ2.out _).mono ?_
  rintro e w2 ⟨rfl, hw2⟩
  obtain rfl : w1 = w2 := hw2.symm
  go_wp2
  go_ret
  exact ⟨rfl, hx1⟩
 have g4 : (k == 4) = false := by simpa using h4
 have g7 : (k == 7) = false := by simpa using h7
 have g9 : (k == 9) = false := by simpa using h9
 obtain ⟨q, hq⟩ : ∃ q, (decide (1 ≤ k) && decide (k ≤ 10)) = q := ⟨_, rfl⟩
 obtain rfl : (q && r) = b := by have := HV.out; rw [if_neg h4, if_neg h7, if_neg h9, hq] at this; exact this
 have HQ := hid hq
 clear HV hq h4 h7 h9
 go_enter Tryz.func53, Tryz.ntmps53
 go_wp2_with fail
 refine (l1in_spec k 1 10 q HQ.out _).mono ?_
 rintro e w1 ⟨rfl, hw1⟩
 replace hw1 := hw1.symm
 subst hw1
 cases q
 · go_wp2
  go_ret
  exact ⟨rfl, hbA _⟩
 have hk : 1 ≤ k ∧ k ≤ 10 := by
  have := HQ.out
  rw [Bool.and_eq_true, decide_eq_true_eq, decide_eq_true_eq] at this
  exact this
 go_wp2_with fail
 refine (HB.out hk _ (hbA _)).mono ?_
 rintro e w2 ⟨rfl, hb2⟩
 have hx2 := chain (hbA _) hb2
 go_wp2
 go_ret
 exact ⟨rfl, hx2⟩
end Go.Proofs.YtjjkdbmjloolaaaGreatDoor
namespace Go.Proofs.YtjjkdbmjloolaaaGreatDoor
end Go.Proofs.YtjjkdbmjloolaaaGreatDoor
namespace Go.Proofs.YtjjkdbmjloolaaaGreatDoor
open Go.ChangeShapes Go.WideShapes Go.ChangeAt Go.RowKit
attribute [local go_sem ↓] Go.wp_at_zero Go.wp_at_succ
attribute [local simp] World.cell?_alloc_past World.cell?_alloc_at World.frozen?_alloc_at cell_far cell_off cell_here World.frozen?_alloc_past
theorem bad_out {w w1 : World} (k : Int) (hx : Below w.heap.size w w1) : ShpOut w [] k (.returned (.tuple #[.slice (some ⟨w1.heap.size, 0, none⟩) 0 0, .int .i64 k])) (w1.alloc (.cells #[] 9)) :=
 ⟨w1.heap.size, 0, 0, rfl, rfl, Nat.le_refl _, own_lowS (own_nilS w1) hx.size, hx.alloc hx.size _⟩
theorem step_spec (ba : Option Addr) (bn bc : Nat) (T : List TB) (hbn : T.length = bn) (ca : Option Addr) (cn cc : Nat) (C : List ByteArray) (hcn : C.length = cn) (kd : Int) (nm : ByteArray) (na : Option Addr) (nn nc : Nat) (N : List ByteArray) (hnn : N.length = nn) (sa : Option Addr) (sn sc : Nat) (S : List TI) (hsn : S.length = sn) (dn : Bool) (ct sk : Int) (w : World) (hT : TabsAt w ba T) (hC : StrsAt w ca C) (hnil : ca = none → cc = 0) (hV : SivAt w na nc sa ⟨kd, nm, N, S, dn, ct, sk⟩) (hb : baseB T = true) (hc : namesB C 1 6 = true) (hok : sieveB ⟨kd, nm, N, S, dn, ct, sk⟩ = true) (hk1 : kd ≠ 1) (D : List ByteArray) (k0 : Int) (hD : stepC T C ⟨kd, nm, N, S, dn, ct, sk⟩ = (D, k0)) :
  Calls Tryz.prog 54 #[.slice ba bn bc, .slice ca cn cc, .agg #[.int .i64 kd, .string nm, .slice na nn nc, .slice sa sn sc, .bool dn, .int .i64 ct, .int .i64 sk]] w (ShpOut w D k0) := by
 rcases sieve_kind hok with e | e | e | e | e | e | e | e | e | e <;> (dsimp only at e; subst e)
 · exact absurd rfl hk1
 · exact step_2 ba bn bc T hbn ca cn cc C hcn nm na nn nc N hnn sa sn sc S hsn dn ct sk w hT hC hnil hV hb hc hok D k0 hD
 · exact step_3 ba bn bc T hbn ca cn cc C hcn nm na nn nc N hnn sa sn sc S hsn dn ct sk w hT hC hnil hV hb hc hok D k0 hD
 · exact step_4 ba bn bc T hbn ca cn cc C hcn nm na nn nc N hnn sa sn sc S hsn dn ct sk w hT hC hnil hV hb hc hok D k0 hD
 · exact step_5 ba bn bc T hbn ca cn cc C hcn nm na nn nc N hnn sa sn sc S hsn dn ct sk w hT hC hnil hV hb hc hok D k0 hD
 · exact step_6 ba bn bc T hbn ca cn cc C hcn nm na nn nc N hnn sa sn sc S hsn dn ct sk w hT hC hnil hV hb hc hok D k0 hD
 · exact step_7 ba bn bc T hbn ca cn cc C hcn nm na nn nc N hnn sa sn sc S hsn dn ct sk w hT hC hnil hV hb hc hok D k0 hD
 · exact step_8 ba bn bc T hbn ca cn cc C hcn nm na nn nc N hnn sa sn sc S hsn dn ct sk w hT hC hnil hV hb hc hok D k0 hD
 · exact step_9 ba bn bc T hbn ca cn cc C hcn nm na nn nc N hnn sa sn sc S hsn dn ct sk w hT hC hnil hV hb hc hok D k0 hD
 · exact step_10 ba bn bc T hbn ca cn cc C hcn nm na nn nc N hnn sa sn sc S hsn dn ct sk w hT hC hnil hV hb hc hok D k0 hD
set_option maxRecDepth 100000 in
set_option maxHeartbeats 4000000 in
theorem stepshape_spec (ba : Option Addr) (bn bc : Nat) (T : List TB) (hbn : T.length = bn) (ca : Option Addr) (cn cc : Nat) (C : List ByteArray) (hcn : C.length = cn) (kd : Int) (nm : ByteArray) (na : Option Addr) (nn nc : Nat) (N : List ByteArray) (hnn : N.length = nn) (sa : Option Addr) (sn sc : Nat) (S : List TI) (hsn : S.length = sn) (dn : Bool) (ct sk : Int) (w : World) (hT : TabsAt w ba T) (hC : StrsAt w ca C) (hnil : ca = none → cc = 0) (hV : SivAt w na nc sa ⟨kd, nm, N, S, dn, ct, sk⟩) (hcF : FitS C) (hcM : cn ≤ maxLen) (hcC : cn ≤ cc) (hbM : bn ≤ maxLen) (D : List ByteArray) (k0 : Int) (hD : stepShapeR T C ⟨kd, nm, N, S, dn, ct, sk⟩ = (D, k0)) :
  Calls Tryz.prog 36 #[.slice ba bn bc, .slice ca cn cc, .agg #[.int .i64 kd, .string nm, .slice na nn nc, .slice sa sn sc, .bool dn, .int .i64 ct, .int .i64 sk]] w (ShpOut w D k0) := by
 obtain ⟨b1, hb1⟩ : ∃ b, baseB T = b := ⟨_, rfl⟩
 obtain ⟨b2, hb2⟩ : ∃ b, namesB C 1 6 = b := ⟨_, rfl⟩
 obtain ⟨b3, hb3⟩ : ∃ b, sieveB ⟨kd, nm, N, S, dn, ct, sk⟩ = b := ⟨_, rfl⟩
 have CB : Hid (∀ w', Below w.heap.size w w' → Calls Tryz.prog 52 #[.slice ba bn bc] w' fun e w'' => e = .returned (.bool b1) ∧ Below w'.heap.size w' w'') := fun w' hw => base_spec ba bc T bn hbn w' (hT.below hw) hbM b1 hb1
 have CN : Hid (∀ w', Below w.heap.size w w' → Calls Tryz.prog 34 #[.slice ca cn cc, .int .i64 1, .int .i64 6] w' fun e w'' => e = .returned (.bool b2) ∧ Below w'.heap.size w' w'') := fun w' hw => l5_specN cn ca cc C hcn 1 6 w' (hC.below hw) hcF hcM hcC b2 hb2
 have CS : Hid (∀ w', Below w.heap.size w w' → Calls Tryz.prog 53 #[.agg #[.int .i64 kd, .string nm, .slice na nn nc, .slice sa sn sc, .bool dn, .int .i64 ct, .int .i64 sk]] w' fun e w'' => e = .returned (.bool b3) ∧ Below w'.heap.size w' w'') := fun w' hw => sieve_spec kd nm na nn nc N hnn sa sn sc S hsn dn ct sk w' hV.name (hV.names.below hw) hV.fitN (by rw [← hnn]; exact hV.lenN) (by rw [← hnn]; exact hV.capN) (hV.sum.below hw) hV.fitI (by rw [← hsn]; exact hV.lenI) b3 hb3
 have CL := hid (p := b1 = true → b2 = true → b3 = true → kd ≠ 1 → ∀ w', Below w.heap.size w w' → Calls Tryz.prog 54 #[.slice ba bn bc, .slice ca cn cc, .agg #[.int .i64 kd, .string nm, .slice na nn nc, .slice sa sn sc, .bool dn, .int .i64 ct, .int .i64 sk]] w' (ShpOut w' D k0)) (by
   intro e1 e2 e3 e4 w' hw
   subst e1 e2 e3
   have hD2 := hD
   unfold stepShapeR at hD2
   rw [if_pos ⟨by rw [hb1, hb2, hb3]; rfl, e4⟩] at hD2
   exact step_spec ba bn bc T hbn ca cn cc C hcn kd nm na nn nc N hnn sa sn sc S hsn dn ct sk w' (hT.below hw) (hC.below hw) hnil (hV.below hw) hb1 hb2 hb3 e4 D k0 hD2)
 have BAD := hid (p := ¬ (b1 = true ∧ b2 = true ∧ b3 = true ∧ kd ≠ 1) → D = [] ∧ k0 = 5) (by
   intro hn
   have hD2 := hD
   unfold stepShapeR at hD2
   rw [if_neg (by
    rintro ⟨h1, h2⟩
    rw [hb1, hb2, hb3] at h1
    simp only [Bool.and_eq_true] at h1
    exact hn ⟨h1.1.1, h1.1.2, h1.2, h2⟩)] at hD2
   injection hD2 with e1 e2
   exact ⟨e1.symm, e2.symm⟩)
 have hA : ∀ o, Below w.heap.size w (w.alloc o) := fun o => (Below.refl _ _).alloc (Nat.le_refl _) o
 clear hb1 hb2 hb3 hT hC hV hbn hcn hnn hsn hD hcF hnil
 go_enter Tryz.func36, Tryz.ntmps36
 go_wp2_with fail
 refine (CB.out _ (hA _)).mono ?_
 rintro e w1 ⟨rfl, hb1⟩
 obtain ⟨p0, p1, p2, p3, p4, p5, p6, hsz⟩ := box7 hb1
 have hx1 := chainA hb1
 clear hb1
 cases b1
 · obtain ⟨rfl, rfl⟩ := BAD.out (by simp)
  have fin := bad_out 5 hx1
  clear BAD
  go_wp2
  go_ret2
  exact fin
 go_wp2_with fail
 refine (CN.out _ hx1).mono ?_
 rintro e w2 ⟨rfl, hb2⟩
 obtain ⟨q0, q1, q2, q3, q4, q5, q6, hsz2⟩ := later7 hb2 ⟨p0, p1, p2, p3, p4, p5, p6, hsz⟩
 have hx2 := chain hx1 hb2
 clear p0 p1 p2 p3 p4 p5 p6 hsz hb2
 cases b2
 · obtain ⟨rfl, rfl⟩ := BAD.out (by simp)
  have fin := bad_out 5 hx2
  clear BAD
  go_wp2
  go_ret2
  exact fin
 go_wp2_with fail
 refine (CS.out _ hx2).mono ?_
 rintro e w3 ⟨rfl, hb3⟩
 obtain ⟨r0, r1, r2, r3, r4, r5, r6, hsz3⟩ := later7 hb3 ⟨q0, q1, q2, q3, q4, q5, q6, hsz2⟩
 have hx3 := chain hx2 hb3
 clear q0 q1 q2 q3 q4 q5 q6 hsz2 hb3
 cases b3
 · obtain ⟨rfl, rfl⟩ := BAD.out (by simp)
  have fin := bad_out 5 hx3
  clear BAD
  go_wp2
  go_ret2
  exact fin
 by_cases hk1 : kd = 1
 · have hk : (kd == 1) = true := by simp [hk1]
  obtain ⟨rfl, rfl⟩ := BAD.out (by simp [hk1])
  have fin := bad_out 5 hx3
  clear BAD hk1
  go_wp2
  go_ret2
  exact fin
 have hk : (kd == 1) = false := by simp [hk1]
 have C : Hid (∀ w', Below w.heap.size w w' → Calls Tryz.prog 54 #[.slice ba bn bc, .slice ca cn cc, .agg #[.int .i64 kd, .string nm, .slice na nn nc, .slice sa sn sc, .bool dn, .int .i64 ct, .int .i64 sk]] w' (ShpOut w' D k0)) := CL.out (by simp) (by simp) (by simp) hk1
 clear hk1 BAD CL
 go_wp2_with fail
 refine (C.out _ hx3).mono ?_
 rintro e w4 ⟨g, n, c, hn, rfl, hnc, ho, hb4⟩
 have fin : Hid (ShpOut w D k0 (.returned (.tuple #[.slice (some ⟨g, 0, none⟩) n c, .int .i64 k0])) w4) := ⟨g, n, c, hn, rfl, hnc, own_lowS ho hx3.size, chain hx3 hb4⟩
 clear hn hnc ho hb4
 go_wp2
 go_ret2
 exact fin.out
end Go.Proofs.YtjjkdbmjloolaaaGreatDoor
