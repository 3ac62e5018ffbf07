/-
  A part of the proof: RkI2, Rank3, TextS, ShowMathS.
-/
import Derived.Test.YthgbjnchhaoceaaGreatDoorPart7
import Derived.Test.YthgbjnchhaoceaaGreatDoorPart10
import Derived.Test.YthgbjnchhaoceaaGreatDoorPart12
import Derived.WalkLawsBesides
import Derived.Deep.RegionHeld3
import Derived.Test.YthgbjnchhaoceaaGreatDoorPart5
import Derived.Test.YthgbjnchhaoceaaGreatDoorPart1
import Derived.Laws.AppendOwnNone
import Derived.Test.YthgbjnchhaoceaaGreatDoorPart9
import Derived.Test.YthgbjnchhaoceaaGreatDoorPart4

/-
  The contracts of the program's namesStand, unfailing and itemCell.
-/
namespace Go.Proofs.YthgbjnchhaoceaaGreatDoor
open Go.ChangeShapes Go.WideShapes Go.ChangeAt Go.RowKit
attribute [local go_sem ↓] Go.wp_at_zero Go.wp_at_succ
attribute [local simp] World.cell?_alloc_past World.cell?_alloc_at World.frozen?_alloc_at cell_far cell_off cell_here World.frozen?_alloc_past

/-- The panic that reckoning gives up with. -/
def gaveUp (f : Int) : List PanicEntry := [{ v := .iface 64 (.agg #[.int .i64 f]), recovered := false }]
set_option maxRecDepth 100000 in
set_option maxHeartbeats 2000000 in
theorem stand_impl (a : Option Addr) (cap : Nat) (l : List TI) (n : Nat) (hn : l.length = n) (ca : Option Addr) (cc : Nat) (C : List ByteArray) (m : Nat) (hm : C.length = m) (w : World) (hrow : ItmAt w a l) (hfit : FitItm l) (hl : n ≤ maxLen) (hC : StrsAt w ca C) (hml : m ≤ maxLen) (b : Bool) (hb : hasC C l = b) :
    Calls Tryz.prog 72 #[.slice a n cap, .slice ca m cc] w fun e w' => e = .returned (.bool b) ∧ Below w.heap.size w w' := by
  have HN : Hid (l.length = n) := hn
  have HM : Hid (C.length = m) := hm
  have HR : Hid (ItmAt w a l) := hrow
  have HF : Hid (FitItm l) := hfit
  have HC : Hid (StrsAt w ca C) := hC
  have HL : Hid (m ≤ maxLen) := hml
  have HB : Hid (hasC C l = b) := hb
  clear hrow hfit hn hm hC hml hb
  unfold maxLen at hl
  go_enter Tryz.func72, Tryz.ntmps72
  go_wp2
  go_loopw [9] (fun i wr => ∃ k : Nat, k ≤ n ∧ i = .int .i64 k ∧ Hid (hasC C (l.take k) = true) ∧ Below w.heap.size w wr) (fun i _ => n - (intOf i).toNat)
  case atStart => exact ⟨0, Nat.zero_le _, rfl, rfl, Below.refl _ _⟩
  case round =>
    obtain ⟨k, hkn, rfl, hall, hbw⟩ := hrel
    by_cases hlt : k < n
    · have hlk : k < l.length := by rw [HN.out]; exact hlt
      have hi1 : (k : Int) < (n : Int) := by omega
      have hi0 : (0 : Int) ≤ (k : Int) := by omega
      obtain ⟨g, o, rfl, hgw, c0, c1, c2, c3, c4⟩ := HR.out.below hbw k hlk
      have hCw := HC.out.below hbw
      have HCw : Hid (StrsAt wr ca C) := hCw
      have hsn := hasC_take C l k hlk
      rw [hall.out, Bool.true_and] at hsn
      have HSn : Hid (hasC C (l.take (k + 1)) = (!(decide (l[k].1 = 2)) || C.any (fun c => decide (c = l[k].2.2)))) := hsn
      have HNo : Hid ((!(decide (l[k].1 = 2)) || C.any (fun c => decide (c = l[k].2.2))) = false → b = false) := by
        have : (!(decide (l[k].1 = 2)) || C.any (fun c => decide (c = l[k].2.2))) = false → b = false := fun h => by
          rw [← HB.out, Bool.eq_false_iff]
          intro h3
          have := List.all_eq_true.1 h3 _ (List.getElem_mem hlk)
          rw [h] at this
          cases this
        exact this
      clear hsn hall hCw
      generalize l[k] = x at c0 c1 c2 c3 c4 HSn HNo
      obtain ⟨kd, y, s⟩ := x
      dsimp only at c0 c1 c2 c3 c4
      have hxA : Below w.heap.size w (wr.alloc (.cells #[.int .i64 kd, .int .i64 y.1, .int .i64 y.2.1, .string y.2.2, .string s] 69)) := hbw.alloc hbw.size _
      have HCx : Hid (StrsAt (wr.alloc (.cells #[.int .i64 kd, .int .i64 y.1, .int .i64 y.2.1, .string y.2.2, .string s] 69)) ca C) := HC.out.below hxA
      by_cases h1 : kd = 2
      · subst h1
        go_wp2_with fail
        refine (columnof_impl m _ _ C HM.out s _ HCx.out HL.out).mono ?_
        rintro e w1 ⟨r, rfl, hr, hb1⟩
        have hbx := chain hxA hb1
        by_cases hr0 : 0 ≤ r
        · have HS : Hid (hasC C (l.take (k + 1)) = true) := by
            have h2 := HSn.out
            rw [any_mem.2 (hr.neg.1 hr0), Bool.or_true] at h2
            exact h2
          have hr1 : ¬ r < 0 := by omega
          clear HNo HSn hr hr0 hb1
          go_wp2
          go_roundw
          case rel => exact ⟨k + 1, by omega, by go_num, HS, hbx⟩
          case measure => simp [intOf]; omega
        · have hf : b = false := HNo.out (by
            have : ¬ s ∈ C := fun h => hr0 (hr.neg.2 h)
            have h2 : C.any (fun c => decide (c = s)) = false := by
              rw [Bool.eq_false_iff]
              exact fun h => this (any_mem.1 h)
            rw [h2]
            rfl)
          subst hf
          have hr1 : r < 0 := by omega
          clear HNo HSn hr hr0 hb1
          go_wp2
          go_ret
          exact ⟨rfl, hbx⟩
      · have HS : Hid (hasC C (l.take (k + 1)) = true) := by
          have h2 := HSn.out
          dsimp only at h2
          rw [show decide (kd = 2) = false by simp [h1]] at h2
          exact h2
        have h1' : (kd == 2) = false := by simpa using h1
        clear HNo HSn
        go_wp2
        go_roundw
        case rel => exact ⟨k + 1, by omega, by go_num, HS, hxA⟩
        case measure => simp [intOf]; omega
    · have hi1 : ¬ (k : Int) < (n : Int) := by omega
      have hf : b = true := by
        have ht : l.take k = l := List.take_of_length_le (by rw [HN.out]; omega)
        have h1 := hall.out
        rw [ht, HB.out] at h1
        exact h1
      subst hf
      clear hall
      go_wp2
      go_ret
      exact ⟨rfl, hbw⟩

theorem unfail_ok (x y : Int) (t : ByteArray) (w : World) :
    Calls Tryz.prog 94 #[.agg #[.int .i64 x, .int .i64 y, .string t], .int .i64 0] w fun e w' => e = .returned (.agg #[.int .i64 x, .int .i64 y, .string t]) ∧ Below w.heap.size w w' := by
  go_enter Tryz.func94, Tryz.ntmps94
  go_wp2
  exact bodyPost_ret (v := .agg #[.int .i64 x, .int .i64 y, .string t]) (by simp [results, Tryz.results94, go_sem]) rfl ⟨rfl, by go_grown⟩
theorem unfail_no (x y : Int) (t : ByteArray) (f : Int) (hf : f ≠ 0) (w : World) :
    Calls Tryz.prog 94 #[.agg #[.int .i64 x, .int .i64 y, .string t], .int .i64 f] w fun e w' => e = .panicked (gaveUp f) ∧ Below w.heap.size w w' := by
  have hf' : (f != 0) = true := by simp [hf]
  go_enter Tryz.func94, Tryz.ntmps94
  go_wp2
  exact ⟨rfl, rfl, by go_grown⟩
/-- How a piece of reckoning ends: with a cell, or giving up. -/
def OutC (r1 r2 : Int) (t : ByteArray) (f : Int) (e : Ending) : Prop := (f = 0 ∧ e = .returned (.agg #[.int .i64 r1, .int .i64 r2, .string t])) ∨ (f ≠ 0 ∧ e = .panicked (gaveUp f))
set_option maxHeartbeats 1000000 in
theorem icell_cell (k x y : Int) (t s : ByteArray) (hk : k ≠ 2) (pa : Option Addr) (pc : Nat) (va vb : Value) (w : World) :
    Calls Tryz.prog 75 #[.agg #[.int .i64 k, .int .i64 x, .int .i64 y, .string t, .string s], .slice pa 0 pc, va, vb] w fun e w' => e = .returned (.agg #[.int .i64 x, .int .i64 y, .string t]) ∧ Below w.heap.size w w' := by
  have h2 : (k == 2) = false := by simpa using hk
  go_enter Tryz.func75, Tryz.ntmps75
  go_wp2
  exact bodyPost_ret (v := .agg #[.int .i64 x, .int .i64 y, .string t]) (by simp [results, Tryz.results75, go_sem]) rfl ⟨rfl, by go_grown⟩
set_option maxHeartbeats 1000000 in
theorem icell_col (x y : Int) (t s : ByteArray) (pa : Option Addr) (pc : Nat) (ca : Option Addr) (cc : Nat) (C : List ByteArray) (m : Nat) (hm : C.length = m) (ra : Option Addr) (rc : Nat) (R : List CT) (hRm : R.length = m) (w : World) (hC : StrsAt w ca C) (hml : m ≤ maxLen) (hR : RowAt w ra R) (hs : s ∈ C) (r : CK) (hr : colR C R s = r) :
    Calls Tryz.prog 75 #[.agg #[.int .i64 2, .int .i64 x, .int .i64 y, .string t, .string s], .slice pa 0 pc, .slice ca m cc, .slice ra m rc] w fun e w' => e = .returned (.agg #[.int .i64 r.1, .int .i64 r.2.1, .string r.2.2]) ∧ Below w.heap.size w w' := by
  have HM : Hid (C.length = m) := hm
  have HRM : Hid (R.length = m) := hRm
  have HL : Hid (m ≤ maxLen) := hml
  have HS : Hid (s ∈ C) := hs
  have HV : Hid (colR C R s = r) := hr
  have HR : Hid (RowAt w ra R) := hR
  have hA : Below w.heap.size w ((w.alloc (.cells #[.int .i64 2, .int .i64 x, .int .i64 y, .string t, .string s] 69)).alloc (.cells #[.int .i64 0, .int .i64 0, .string ⟨#[]⟩] 30)) := by go_grown
  have HC : Hid (StrsAt ((w.alloc (.cells #[.int .i64 2, .int .i64 x, .int .i64 y, .string t, .string s] 69)).alloc (.cells #[.int .i64 0, .int .i64 0, .string ⟨#[]⟩] 30)) ca C) := hC.below hA
  have hm6 := hml
  unfold maxLen at hm6
  clear hm hRm hml hs hr hC hR
  obtain ⟨r1, r2, r3⟩ := r
  dsimp only
  go_enter Tryz.func75, Tryz.ntmps75
  go_wp2_with fail
  refine (columnof_impl m _ _ C HM.out s _ HC.out HL.out).mono ?_
  rintro e w1 ⟨ri, rfl, hri, hb1⟩
  rcases hri with ⟨_, hno⟩ | ⟨j, hj, rfl, hjs, hjf⟩
  · exact absurd HS.out hno
  have hjm : j < m := by rw [← HM.out]; exact hj
  have hjR : j < R.length := by rw [HRM.out]; exact hjm
  have hcol := colR_at C R s j hj hjR hjs hjf
  rw [HV.out] at hcol
  have hx1 := chain hA hb1
  obtain ⟨gr, or, rfl, hgr, d0, d1, d2⟩ := HR.out.below hx1 j hjR
  rw [hcol] at d0 d1 d2
  dsimp only at d0 d1 d2
  have hj0 : (0 : Int) ≤ (j : Int) := by omega
  have hj1 : (j : Int) < (m : Int) := by omega
  obtain ⟨⟨p0, p1, p2, p3⟩, f0, f1, f2⟩ : ((w1.cell? ⟨w.heap.size + 1, 0, none⟩ = some (.int .i64 0) ∧ w1.cell? ⟨w.heap.size + 1, 1, none⟩ = some (.int .i64 0) ∧ w1.cell? ⟨w.heap.size + 1, 2, none⟩ = some (.string ⟨#[]⟩) ∧ w.heap.size + 1 < w1.heap.size) ∧ w1.frozen? ⟨w.heap.size + 1, 0, none⟩ = false ∧ w1.frozen? ⟨w.heap.size + 1, 1, none⟩ = false ∧ w1.frozen? ⟨w.heap.size + 1, 2, none⟩ = false) := by
    have hl : w.heap.size + 1 < ((w.alloc (.cells #[.int .i64 2, .int .i64 x, .int .i64 y, .string t, .string s] 69)).alloc (.cells #[.int .i64 0, .int .i64 0, .string ⟨#[]⟩] 30)).heap.size := by simp
    refine ⟨⟨?_, ?_, ?_, ?_⟩, ?_, ?_, ?_⟩
    · rw [hb1.cell (p := ⟨w.heap.size + 1, 0, none⟩) hl]; simp
    · rw [hb1.cell (p := ⟨w.heap.size + 1, 1, none⟩) hl]; simp
    · rw [hb1.cell (p := ⟨w.heap.size + 1, 2, none⟩) hl]; simp
    · have := hb1.size; omega
    · rw [hb1.frozen (p := ⟨w.heap.size + 1, 0, none⟩) hl]; simp
    · rw [hb1.frozen (p := ⟨w.heap.size + 1, 1, none⟩) hl]; simp
    · rw [hb1.frozen (p := ⟨w.heap.size + 1, 2, none⟩) hl]; simp
  clear hcol hjs hjf hb1
  go_wp2
  exact bodyPost_ret (v := .agg #[.int .i64 r1, .int .i64 r2, .string r3]) (by simp [results, Tryz.results75, go_sem, p0, p1, p2]) rfl ⟨rfl, by go_grown⟩
set_option maxRecDepth 100000 in
set_option maxHeartbeats 2000000 in
theorem icell_one (k x y : Int) (t s : ByteArray) (hk : k = 11 ∨ k = 12) (gp op pc : Nat) (fa fb : Value) (ua ub : Int) (ut : ByteArray) (hut : ut.size ≤ maxLen) (w : World) (hg : gp < w.heap.size) (c0 : w.cell? ⟨gp, op, none⟩ = some (.int .i64 ua)) (c1 : w.cell? ⟨gp, op + 1, none⟩ = some (.int .i64 ub)) (c2 : w.cell? ⟨gp, op + 2, none⟩ = some (.string ut)) (r1 r2 r3 : Int) (hr : oneR k (ua, ub, ut) = (r1, r2, r3)) :
    Calls Tryz.prog 75 #[.agg #[.int .i64 k, .int .i64 x, .int .i64 y, .string t, .string s], .slice (some ⟨gp, op, none⟩) 1 pc, fa, fb] w fun e w' => OutC r1 r2 ⟨#[]⟩ r3 e ∧ Below w.heap.size w w' := by
  have HK : Hid (k = 11 ∨ k = 12) := hk
  have HR : Hid (oneR k (ua, ub, ut) = (r1, r2, r3)) := hr
  have HT : Hid (ut.size ≤ maxLen) := hut
  obtain ⟨V, hV⟩ : ∃ V, V = ((w.alloc (.cells #[.int .i64 k, .int .i64 x, .int .i64 y, .string t, .string s] 69)).alloc (.cells #[.int .i64 0, .int .i64 0, .string ⟨#[]⟩] 30)) := ⟨_, rfl⟩
  have hbV : Below w.heap.size w V := by rw [hV]; go_grown
  obtain ⟨B, hB⟩ : ∃ B, w.heap.size = B := ⟨_, rfl⟩
  have e0 : V.cell? ⟨B, 0, none⟩ = some (.int .i64 k) := by rw [hV, ← hB]; simp
  have b0 : V.cell? ⟨B + 1, 0, none⟩ = some (.int .i64 0) := by rw [hV, ← hB]; simp
  have b1 : V.cell? ⟨B + 1, 1, none⟩ = some (.int .i64 0) := by rw [hV, ← hB]; simp
  have b2 : V.cell? ⟨B + 1, 2, none⟩ = some (.string ⟨#[]⟩) := by rw [hV, ← hB]; simp
  have z0 : V.frozen? ⟨B + 1, 0, none⟩ = false := by rw [hV, ← hB]; simp
  have z1 : V.frozen? ⟨B + 1, 1, none⟩ = false := by rw [hV, ← hB]; simp
  have z2 : V.frozen? ⟨B + 1, 2, none⟩ = false := by rw [hV, ← hB]; simp
  have hVs : B + 1 < V.heap.size := by rw [hV, ← hB]; simp
  have g0 : V.cell? ⟨gp, op, none⟩ = some (.int .i64 ua) := by rw [hbV.cell (p := ⟨gp, op, none⟩) hg]; exact c0
  have g1 : V.cell? ⟨gp, op + 1, none⟩ = some (.int .i64 ub) := by rw [hbV.cell (p := ⟨gp, op + 1, none⟩) hg]; exact c1
  have g2 : V.cell? ⟨gp, op + 2, none⟩ = some (.string ut) := by rw [hbV.cell (p := ⟨gp, op + 2, none⟩) hg]; exact c2
  clear hk hr hut c0 c1 c2
  go_enter Tryz.func75, Tryz.ntmps75
  go_wp2_with fail
  rw [← hV]
  rw [hB] at hg hbV
  have hgV : gp < V.heap.size := by omega
  clear hV
  refine wp_region_held_drew (S := (fun w' => w'.cell? ⟨B, 0, none⟩ = some (.int .i64 k) ∧ w'.cell? ⟨gp, op, none⟩ = some (.int .i64 ua) ∧ w'.cell? ⟨gp, op + 1, none⟩ = some (.int .i64 ub) ∧ w'.cell? ⟨gp, op + 2, none⟩ = some (.string ut))) (by kernel_rfl) ?_ (fun hHeld => ?_)
  · (((try dsimp only); (repeat' apply And.intro) <;> first | (go_keep; done) | (simp (disch := first | omega | (simp <;> omega) | fail) [*]; done) | fail))
  refine wpAnyH_take (i := 0) (by simp only [List.getElem?_toArray, List.getElem?_cons_zero]; rfl) (by kernel_rfl) (by kernel_rfl) (by kernel_rfl) (by intro _ _ _ h; exact h) (Or.inl ⟨by rfl, fun w hSw => by (dsimp only at hSw; go_simp; (try with_reducible rfl))⟩) (by assumption) ?_
  simp only [Act.put, List.setIfInBounds_toArray, List.set_cons_zero, List.set_cons_succ]
  refine wpAnyH_take (i := 1) (by simp only [List.getElem?_toArray, List.getElem?_cons_zero, List.getElem?_cons_succ]; rfl) (by kernel_rfl) (by kernel_rfl) (by kernel_rfl) (by intro _ _ _ h; exact h) (Or.inl ⟨by rfl, fun w hSw => by (dsimp only at hSw; go_simp; (try with_reducible rfl))⟩) (by assumption) ?_
  simp only [Act.put, List.setIfInBounds_toArray, List.set_cons_zero, List.set_cons_succ]
  refine wpAnyH_take (i := 2) (by simp only [List.getElem?_toArray, List.getElem?_cons_zero, List.getElem?_cons_succ]; rfl) (by kernel_rfl) (by kernel_rfl) (by kernel_rfl) (by intro _ _ _ h; exact h) (Or.inl ⟨by rfl, fun w hSw => by (dsimp only at hSw; go_simp; (try with_reducible rfl))⟩) (by assumption) ?_
  simp only [Act.put, List.setIfInBounds_toArray, List.set_cons_zero, List.set_cons_succ]
  refine wpAnyH_take (i := 3) (by simp only [List.getElem?_toArray, List.getElem?_cons_zero, List.getElem?_cons_succ]; rfl) (by kernel_rfl) (by kernel_rfl) (by kernel_rfl) (by intro _ _ _ h; exact h) (Or.inl ⟨by rfl, fun w hSw => by (dsimp only at hSw; go_simp; (try with_reducible rfl))⟩) (by assumption) ?_
  simp only [Act.put, List.setIfInBounds_toArray, List.set_cons_zero, List.set_cons_succ]
  refine wpAnyH_take (i := 4) (by simp only [List.getElem?_toArray, List.getElem?_cons_zero, List.getElem?_cons_succ]; rfl) (by kernel_rfl) (by kernel_rfl) (by kernel_rfl) (by intro _ _ _ h; exact h) (Or.inl ⟨by rfl, fun w hSw => by (dsimp only at hSw; go_simp; (try with_reducible rfl))⟩) (by assumption) ?_
  simp only [Act.put, List.setIfInBounds_toArray, List.set_cons_zero, List.set_cons_succ]
  refine wpAnyH_ready (rs := [5]) (by kernel_rfl) (by simp) ?_
  refine AllReadyH.cons (by simp only [List.getElem?_toArray, List.getElem?_cons_zero, List.getElem?_cons_succ]; rfl) ?_ AllReadyH.nil
  intro K hK
  go_simp
  refine (ahead_impl k HK.out (ua, ub, ut) (r1, r2, r3) HR.out _ HT.out).mono ?_
  rintro e w3 ⟨rfl, hb3⟩
  have hb3' := undrew hb3
  have hx3 := chain (hB ▸ hbV) hb3'
  have j0 : w3.cell? ⟨B, 0, none⟩ = some (.int .i64 k) := by rw [hb3'.cell (p := ⟨B, 0, none⟩) (by show B < V.heap.size; omega)]; exact e0
  have l0 : w3.cell? ⟨gp, op, none⟩ = some (.int .i64 ua) := by rw [hb3'.cell (p := ⟨gp, op, none⟩) hgV]; exact g0
  have l1 : w3.cell? ⟨gp, op + 1, none⟩ = some (.int .i64 ub) := by rw [hb3'.cell (p := ⟨gp, op + 1, none⟩) hgV]; exact g1
  have l2 : w3.cell? ⟨gp, op + 2, none⟩ = some (.string ut) := by rw [hb3'.cell (p := ⟨gp, op + 2, none⟩) hgV]; exact g2
  have i0 : w3.cell? ⟨B + 1, 0, none⟩ = some (.int .i64 0) := by rw [hb3'.cell (p := ⟨B + 1, 0, none⟩) hVs]; exact b0
  have y0 : w3.frozen? ⟨B + 1, 0, none⟩ = false := by rw [hb3'.frozen (p := ⟨B + 1, 0, none⟩) hVs]; exact z0
  have i1 : w3.cell? ⟨B + 1, 1, none⟩ = some (.int .i64 0) := by rw [hb3'.cell (p := ⟨B + 1, 1, none⟩) hVs]; exact b1
  have y1 : w3.frozen? ⟨B + 1, 1, none⟩ = false := by rw [hb3'.frozen (p := ⟨B + 1, 1, none⟩) hVs]; exact z1
  have i2 : w3.cell? ⟨B + 1, 2, none⟩ = some (.string ⟨#[]⟩) := by rw [hb3'.cell (p := ⟨B + 1, 2, none⟩) hVs]; exact b2
  have y2 : w3.frozen? ⟨B + 1, 2, none⟩ = false := by rw [hb3'.frozen (p := ⟨B + 1, 2, none⟩) hVs]; exact z2
  have hs3 : B + 1 < w3.heap.size := by have := hb3'.size; omega
  have hg3 : gp < w3.heap.size := by have := hb3'.size; omega
  clear hb3 hb3' e0 b0 b1 b2 z0 z1 z2 g0 g1 g2 hVs hgV hbV
  go_wp2_with fail
  refine hK.out _ _ ?_ (fun hHeld => ?_)
  · (((try dsimp only); (repeat' apply And.intro) <;> first | (go_keep; done) | (simp (disch := first | omega | (simp <;> omega) | fail) [*]; done) | fail))
  clear hK K
  try simp only [Act.put, List.setIfInBounds_toArray, List.set_cons_zero, List.set_cons_succ]
  refine wpAnyH_take (i := 6) (by simp only [List.getElem?_toArray, List.getElem?_cons_zero, List.getElem?_cons_succ]; rfl) (by kernel_rfl) (by kernel_rfl) (by kernel_rfl) (by intro _ _ _ h; exact h) (Or.inl ⟨by rfl, fun w hSw => by (dsimp only at hSw; go_simp; (try with_reducible rfl))⟩) (by assumption) ?_
  simp only [Act.put, List.setIfInBounds_toArray, List.set_cons_zero, List.set_cons_succ]
  refine wpAnyH_take (i := 7) (by simp only [List.getElem?_toArray, List.getElem?_cons_zero, List.getElem?_cons_succ]; rfl) (by kernel_rfl) (by kernel_rfl) (by kernel_rfl) (by intro _ _ _ h; exact h) (Or.inl ⟨by rfl, fun w hSw => by (dsimp only at hSw; go_simp; (try with_reducible rfl))⟩) (by assumption) ?_
  simp only [Act.put, List.setIfInBounds_toArray, List.set_cons_zero, List.set_cons_succ]
  refine wpAnyH_ready (rs := [8]) (by kernel_rfl) (by simp) ?_
  refine AllReadyH.cons (by simp only [List.getElem?_toArray, List.getElem?_cons_zero, List.getElem?_cons_succ]; rfl) ?_ AllReadyH.nil
  intro K hK
  go_simp
  by_cases hr3 : r3 = 0
  · subst hr3
    refine (unfail_ok r1 r2 ⟨#[]⟩ _).mono ?_
    rintro e w4 ⟨rfl, hb4⟩
    have hx4 := chain hx3 hb4
    have nj0 : w4.cell? ⟨B, 0, none⟩ = some (.int .i64 k) := by rw [hb4.cell (p := ⟨B, 0, none⟩) (by show B < w3.heap.size; omega)]; exact j0
    have nl0 : w4.cell? ⟨gp, op, none⟩ = some (.int .i64 ua) := by rw [hb4.cell (p := ⟨gp, op, none⟩) hg3]; exact l0
    have nl1 : w4.cell? ⟨gp, op + 1, none⟩ = some (.int .i64 ub) := by rw [hb4.cell (p := ⟨gp, op + 1, none⟩) hg3]; exact l1
    have nl2 : w4.cell? ⟨gp, op + 2, none⟩ = some (.string ut) := by rw [hb4.cell (p := ⟨gp, op + 2, none⟩) hg3]; exact l2
    have ni0 : w4.cell? ⟨B + 1, 0, none⟩ = some (.int .i64 0) := by rw [hb4.cell (p := ⟨B + 1, 0, none⟩) hs3]; exact i0
    have ny0 : w4.frozen? ⟨B + 1, 0, none⟩ = false := by rw [hb4.frozen (p := ⟨B + 1, 0, none⟩) hs3]; exact y0
    have ni1 : w4.cell? ⟨B + 1, 1, none⟩ = some (.int .i64 0) := by rw [hb4.cell (p := ⟨B + 1, 1, none⟩) hs3]; exact i1
    have ny1 : w4.frozen? ⟨B + 1, 1, none⟩ = false := by rw [hb4.frozen (p := ⟨B + 1, 1, none⟩) hs3]; exact y1
    have ni2 : w4.cell? ⟨B + 1, 2, none⟩ = some (.string ⟨#[]⟩) := by rw [hb4.cell (p := ⟨B + 1, 2, none⟩) hs3]; exact i2
    have ny2 : w4.frozen? ⟨B + 1, 2, none⟩ = false := by rw [hb4.frozen (p := ⟨B + 1, 2, none⟩) hs3]; exact y2
    clear hb4 j0 l0 l1 l2 i0 i1 i2 y0 y1 y2 hx3
    go_wp2_with fail
    refine hK.out _ _ ?_ (fun hHeld => ?_)
    · (((try dsimp only); (repeat' apply And.intro) <;> first | (go_keep; done) | (simp (disch := first | omega | (simp <;> omega) | fail) [*]; done) | fail))
    clear hK K
    try simp only [Act.put, List.setIfInBounds_toArray, List.set_cons_zero, List.set_cons_succ]
    refine wpAnyH_ready (rs := [9]) (by kernel_rfl) (by simp) ?_
    refine AllReadyH.cons (by simp only [List.getElem?_toArray, List.getElem?_cons_zero, List.getElem?_cons_succ]; rfl) ?_ AllReadyH.nil
    intro K hK
    go_simp
    refine hK.out _ _ ?_ (fun hHeld => ?_)
    · (((try dsimp only); (repeat' apply And.intro) <;> first | (go_keep; done) | (simp (disch := first | omega | (simp <;> omega) | fail) [*]; done) | fail))
    clear hK K
    try simp only [Act.put, List.setIfInBounds_toArray, List.set_cons_zero, List.set_cons_succ]
    refine wpAnyH_done (by kernel_rfl) ?_ _
    go_wp2
    have hw : w.heap.size ≤ B + 1 := by omega
    exact bodyPost_ret (v := .agg #[.int .i64 r1, .int .i64 r2, .string ⟨#[]⟩]) (by simp [results, Tryz.results75, go_sem, ni0, ni1, ni2]) rfl ⟨.inl ⟨rfl, rfl⟩, ((hx4.setCell hw _).setCell hw _).setCell hw _⟩
  · refine (unfail_no r1 r2 ⟨#[]⟩ r3 hr3 _).mono ?_
    rintro e w4 ⟨rfl, hb4⟩
    have hx4 := chain hx3 hb4
    go_wp2
    exact ⟨rfl, .inr ⟨hr3, rfl⟩, hx4⟩
set_option maxRecDepth 100000 in
set_option maxHeartbeats 2000000 in
theorem icell_two (k x y : Int) (t s : ByteArray) (hk : 3 ≤ k ∧ k ≤ 10) (gp op pc : Nat) (fa fb : Value) (ua ub : Int) (ut : ByteArray) (hut : ut.size ≤ maxLen) (va vb : Int) (vt : ByteArray) (hvt : vt.size ≤ maxLen) (w : World) (hg : gp < w.heap.size) (c0 : w.cell? ⟨gp, op, none⟩ = some (.int .i64 ua)) (c1 : w.cell? ⟨gp, op + 1, none⟩ = some (.int .i64 ub)) (c2 : w.cell? ⟨gp, op + 2, none⟩ = some (.string ut)) (c3 : w.cell? ⟨gp, op + 3, none⟩ = some (.int .i64 va)) (c4 : w.cell? ⟨gp, op + 4, none⟩ = some (.int .i64 vb)) (c5 : w.cell? ⟨gp, op + 5, none⟩ = some (.string vt)) (r1 r2 r3 : Int) (hr : twoR k (ua, ub, ut) (va, vb, vt) = (r1, r2, r3)) :
    Calls Tryz.prog 75 #[.agg #[.int .i64 k, .int .i64 x, .int .i64 y, .string t, .string s], .slice (some ⟨gp, op, none⟩) 2 pc, fa, fb] w fun e w' => OutC r1 r2 ⟨#[]⟩ r3 e ∧ Below w.heap.size w w' := by
  have HK : Hid (3 ≤ k ∧ k ≤ 10) := hk
  have HR : Hid (twoR k (ua, ub, ut) (va, vb, vt) = (r1, r2, r3)) := hr
  have HT : Hid (ut.size ≤ maxLen) := hut
  have HT2 : Hid (vt.size ≤ maxLen) := hvt
  obtain ⟨V, hV⟩ : ∃ V, V = ((w.alloc (.cells #[.int .i64 k, .int .i64 x, .int .i64 y, .string t, .string s] 69)).alloc (.cells #[.int .i64 0, .int .i64 0, .string ⟨#[]⟩] 30)) := ⟨_, rfl⟩
  have hbV : Below w.heap.size w V := by rw [hV]; go_grown
  obtain ⟨B, hB⟩ : ∃ B, w.heap.size = B := ⟨_, rfl⟩
  have e0 : V.cell? ⟨B, 0, none⟩ = some (.int .i64 k) := by rw [hV, ← hB]; simp
  have b0 : V.cell? ⟨B + 1, 0, none⟩ = some (.int .i64 0) := by rw [hV, ← hB]; simp
  have b1 : V.cell? ⟨B + 1, 1, none⟩ = some (.int .i64 0) := by rw [hV, ← hB]; simp
  have b2 : V.cell? ⟨B + 1, 2, none⟩ = some (.string ⟨#[]⟩) := by rw [hV, ← hB]; simp
  have z0 : V.frozen? ⟨B + 1, 0, none⟩ = false := by rw [hV, ← hB]; simp
  have z1 : V.frozen? ⟨B + 1, 1, none⟩ = false := by rw [hV, ← hB]; simp
  have z2 : V.frozen? ⟨B + 1, 2, none⟩ = false := by rw [hV, ← hB]; simp
  have hVs : B + 1 < V.heap.size := by rw [hV, ← hB]; simp
  have g0 : V.cell? ⟨gp, op, none⟩ = some (.int .i64 ua) := by rw [hbV.cell (p := ⟨gp, op, none⟩) hg]; exact c0
  have g1 : V.cell? ⟨gp, op + 1, none⟩ = some (.int .i64 ub) := by rw [hbV.cell (p := ⟨gp, op + 1, none⟩) hg]; exact c1
  have g2 : V.cell? ⟨gp, op + 2, none⟩ = some (.string ut) := by rw [hbV.cell (p := ⟨gp, op + 2, none⟩) hg]; exact c2
  have g3 : V.cell? ⟨gp, op + 3, none⟩ = some (.int .i64 va) := by rw [hbV.cell (p := ⟨gp, op + 3, none⟩) hg]; exact c3
  have g4 : V.cell? ⟨gp, op + 4, none⟩ = some (.int .i64 vb) := by rw [hbV.cell (p := ⟨gp, op + 4, none⟩) hg]; exact c4
  have g5 : V.cell? ⟨gp, op + 5, none⟩ = some (.string vt) := by rw [hbV.cell (p := ⟨gp, op + 5, none⟩) hg]; exact c5
  clear hk hr hut c0 c1 c2 c3 c4 c5 hvt
  go_enter Tryz.func75, Tryz.ntmps75
  go_wp2_with fail
  rw [← hV]
  rw [hB] at hg hbV
  have hgV : gp < V.heap.size := by omega
  clear hV
  refine wp_region_held_drew (S := (fun w' => w'.cell? ⟨B, 0, none⟩ = some (.int .i64 k) ∧ w'.cell? ⟨gp, op, none⟩ = some (.int .i64 ua) ∧ w'.cell? ⟨gp, op + 1, none⟩ = some (.int .i64 ub) ∧ w'.cell? ⟨gp, op + 2, none⟩ = some (.string ut) ∧ w'.cell? ⟨gp, op + 3, none⟩ = some (.int .i64 va) ∧ w'.cell? ⟨gp, op + 4, none⟩ = some (.int .i64 vb) ∧ w'.cell? ⟨gp, op + 5, none⟩ = some (.string vt))) (by kernel_rfl) ?_ (fun hHeld => ?_)
  · (((try dsimp only); (repeat' apply And.intro) <;> first | (go_keep; done) | (simp (disch := first | omega | (simp <;> omega) | fail) [*]; done) | fail))
  refine wpAnyH_take (i := 0) (by simp only [List.getElem?_toArray, List.getElem?_cons_zero]; rfl) (by kernel_rfl) (by kernel_rfl) (by kernel_rfl) (by intro _ _ _ h; exact h) (Or.inl ⟨by rfl, fun w hSw => by (dsimp only at hSw; go_simp; (try with_reducible rfl))⟩) (by assumption) ?_
  simp only [Act.put, List.setIfInBounds_toArray, List.set_cons_zero, List.set_cons_succ]
  refine wpAnyH_take (i := 1) (by simp only [List.getElem?_toArray, List.getElem?_cons_zero, List.getElem?_cons_succ]; rfl) (by kernel_rfl) (by kernel_rfl) (by kernel_rfl) (by intro _ _ _ h; exact h) (Or.inl ⟨by rfl, fun w hSw => by (dsimp only at hSw; go_simp; (try with_reducible rfl))⟩) (by assumption) ?_
  simp only [Act.put, List.setIfInBounds_toArray, List.set_cons_zero, List.set_cons_succ]
  refine wpAnyH_take (i := 2) (by simp only [List.getElem?_toArray, List.getElem?_cons_zero, List.getElem?_cons_succ]; rfl) (by kernel_rfl) (by kernel_rfl) (by kernel_rfl) (by intro _ _ _ h; exact h) (Or.inl ⟨by rfl, fun w hSw => by (dsimp only at hSw; go_simp; (try with_reducible rfl))⟩) (by assumption) ?_
  simp only [Act.put, List.setIfInBounds_toArray, List.set_cons_zero, List.set_cons_succ]
  refine wpAnyH_take (i := 3) (by simp only [List.getElem?_toArray, List.getElem?_cons_zero, List.getElem?_cons_succ]; rfl) (by kernel_rfl) (by kernel_rfl) (by kernel_rfl) (by intro _ _ _ h; exact h) (Or.inl ⟨by rfl, fun w hSw => by (dsimp only at hSw; go_simp; (try with_reducible rfl))⟩) (by assumption) ?_
  simp only [Act.put, List.setIfInBounds_toArray, List.set_cons_zero, List.set_cons_succ]
  refine wpAnyH_take (i := 4) (by simp only [List.getElem?_toArray, List.getElem?_cons_zero, List.getElem?_cons_succ]; rfl) (by kernel_rfl) (by kernel_rfl) (by kernel_rfl) (by intro _ _ _ h; exact h) (Or.inl ⟨by rfl, fun w hSw => by (dsimp only at hSw; go_simp; (try with_reducible rfl))⟩) (by assumption) ?_
  simp only [Act.put, List.setIfInBounds_toArray, List.set_cons_zero, List.set_cons_succ]
  refine wpAnyH_take (i := 5) (by simp only [List.getElem?_toArray, List.getElem?_cons_zero, List.getElem?_cons_succ]; rfl) (by kernel_rfl) (by kernel_rfl) (by kernel_rfl) (by intro _ _ _ h; exact h) (Or.inl ⟨by rfl, fun w hSw => by (dsimp only at hSw; go_simp; (try with_reducible rfl))⟩) (by assumption) ?_
  simp only [Act.put, List.setIfInBounds_toArray, List.set_cons_zero, List.set_cons_succ]
  refine wpAnyH_take (i := 6) (by simp only [List.getElem?_toArray, List.getElem?_cons_zero, List.getElem?_cons_succ]; rfl) (by kernel_rfl) (by kernel_rfl) (by kernel_rfl) (by intro _ _ _ h; exact h) (Or.inl ⟨by rfl, fun w hSw => by (dsimp only at hSw; go_simp; (try with_reducible rfl))⟩) (by assumption) ?_
  simp only [Act.put, List.setIfInBounds_toArray, List.set_cons_zero, List.set_cons_succ]
  refine wpAnyH_take (i := 7) (by simp only [List.getElem?_toArray, List.getElem?_cons_zero, List.getElem?_cons_succ]; rfl) (by kernel_rfl) (by kernel_rfl) (by kernel_rfl) (by intro _ _ _ h; exact h) (Or.inl ⟨by rfl, fun w hSw => by (dsimp only at hSw; go_simp; (try with_reducible rfl))⟩) (by assumption) ?_
  simp only [Act.put, List.setIfInBounds_toArray, List.set_cons_zero, List.set_cons_succ]
  refine wpAnyH_ready (rs := [8]) (by kernel_rfl) (by simp) ?_
  refine AllReadyH.cons (by simp only [List.getElem?_toArray, List.getElem?_cons_zero, List.getElem?_cons_succ]; rfl) ?_ AllReadyH.nil
  intro K hK
  go_simp
  refine (pair_impl k HK.out (ua, ub, ut) (va, vb, vt) (r1, r2, r3) HR.out _ HT.out HT2.out).mono ?_
  rintro e w3 ⟨rfl, hb3⟩
  have hb3' := undrew hb3
  have hx3 := chain (hB ▸ hbV) hb3'
  have j0 : w3.cell? ⟨B, 0, none⟩ = some (.int .i64 k) := by rw [hb3'.cell (p := ⟨B, 0, none⟩) (by show B < V.heap.size; omega)]; exact e0
  have l0 : w3.cell? ⟨gp, op, none⟩ = some (.int .i64 ua) := by rw [hb3'.cell (p := ⟨gp, op, none⟩) hgV]; exact g0
  have l1 : w3.cell? ⟨gp, op + 1, none⟩ = some (.int .i64 ub) := by rw [hb3'.cell (p := ⟨gp, op + 1, none⟩) hgV]; exact g1
  have l2 : w3.cell? ⟨gp, op + 2, none⟩ = some (.string ut) := by rw [hb3'.cell (p := ⟨gp, op + 2, none⟩) hgV]; exact g2
  have l3 : w3.cell? ⟨gp, op + 3, none⟩ = some (.int .i64 va) := by rw [hb3'.cell (p := ⟨gp, op + 3, none⟩) hgV]; exact g3
  have l4 : w3.cell? ⟨gp, op + 4, none⟩ = some (.int .i64 vb) := by rw [hb3'.cell (p := ⟨gp, op + 4, none⟩) hgV]; exact g4
  have l5 : w3.cell? ⟨gp, op + 5, none⟩ = some (.string vt) := by rw [hb3'.cell (p := ⟨gp, op + 5, none⟩) hgV]; exact g5
  have i0 : w3.cell? ⟨B + 1, 0, none⟩ = some (.int .i64 0) := by rw [hb3'.cell (p := ⟨B + 1, 0, none⟩) hVs]; exact b0
  have y0 : w3.frozen? ⟨B + 1, 0, none⟩ = false := by rw [hb3'.frozen (p := ⟨B + 1, 0, none⟩) hVs]; exact z0
  have i1 : w3.cell? ⟨B + 1, 1, none⟩ = some (.int .i64 0) := by rw [hb3'.cell (p := ⟨B + 1, 1, none⟩) hVs]; exact b1
  have y1 : w3.frozen? ⟨B + 1, 1, none⟩ = false := by rw [hb3'.frozen (p := ⟨B + 1, 1, none⟩) hVs]; exact z1
  have i2 : w3.cell? ⟨B + 1, 2, none⟩ = some (.string ⟨#[]⟩) := by rw [hb3'.cell (p := ⟨B + 1, 2, none⟩) hVs]; exact b2
  have y2 : w3.frozen? ⟨B + 1, 2, none⟩ = false := by rw [hb3'.frozen (p := ⟨B + 1, 2, none⟩) hVs]; exact z2
  have hs3 : B + 1 < w3.heap.size := by have := hb3'.size; omega
  have hg3 : gp < w3.heap.size := by have := hb3'.size; omega
  clear hb3 hb3' e0 b0 b1 b2 z0 z1 z2 g0 g1 g2 g3 g4 g5 hVs hgV hbV
  go_wp2_with fail
  refine hK.out _ _ ?_ (fun hHeld => ?_)
  · (((try dsimp only); (repeat' apply And.intro) <;> first | (go_keep; done) | (simp (disch := first | omega | (simp <;> omega) | fail) [*]; done) | fail))
  clear hK K
  try simp only [Act.put, List.setIfInBounds_toArray, List.set_cons_zero, List.set_cons_succ]
  refine wpAnyH_take (i := 9) (by simp only [List.getElem?_toArray, List.getElem?_cons_zero, List.getElem?_cons_succ]; rfl) (by kernel_rfl) (by kernel_rfl) (by kernel_rfl) (by intro _ _ _ h; exact h) (Or.inl ⟨by rfl, fun w hSw => by (dsimp only at hSw; go_simp; (try with_reducible rfl))⟩) (by assumption) ?_
  simp only [Act.put, List.setIfInBounds_toArray, List.set_cons_zero, List.set_cons_succ]
  refine wpAnyH_take (i := 10) (by simp only [List.getElem?_toArray, List.getElem?_cons_zero, List.getElem?_cons_succ]; rfl) (by kernel_rfl) (by kernel_rfl) (by kernel_rfl) (by intro _ _ _ h; exact h) (Or.inl ⟨by rfl, fun w hSw => by (dsimp only at hSw; go_simp; (try with_reducible rfl))⟩) (by assumption) ?_
  simp only [Act.put, List.setIfInBounds_toArray, List.set_cons_zero, List.set_cons_succ]
  refine wpAnyH_ready (rs := [11]) (by kernel_rfl) (by simp) ?_
  refine AllReadyH.cons (by simp only [List.getElem?_toArray, List.getElem?_cons_zero, List.getElem?_cons_succ]; rfl) ?_ AllReadyH.nil
  intro K hK
  go_simp
  by_cases hr3 : r3 = 0
  · subst hr3
    refine (unfail_ok r1 r2 ⟨#[]⟩ _).mono ?_
    rintro e w4 ⟨rfl, hb4⟩
    have hx4 := chain hx3 hb4
    have nj0 : w4.cell? ⟨B, 0, none⟩ = some (.int .i64 k) := by rw [hb4.cell (p := ⟨B, 0, none⟩) (by show B < w3.heap.size; omega)]; exact j0
    have nl0 : w4.cell? ⟨gp, op, none⟩ = some (.int .i64 ua) := by rw [hb4.cell (p := ⟨gp, op, none⟩) hg3]; exact l0
    have nl1 : w4.cell? ⟨gp, op + 1, none⟩ = some (.int .i64 ub) := by rw [hb4.cell (p := ⟨gp, op + 1, none⟩) hg3]; exact l1
    have nl2 : w4.cell? ⟨gp, op + 2, none⟩ = some (.string ut) := by rw [hb4.cell (p := ⟨gp, op + 2, none⟩) hg3]; exact l2
    have nl3 : w4.cell? ⟨gp, op + 3, none⟩ = some (.int .i64 va) := by rw [hb4.cell (p := ⟨gp, op + 3, none⟩) hg3]; exact l3
    have nl4 : w4.cell? ⟨gp, op + 4, none⟩ = some (.int .i64 vb) := by rw [hb4.cell (p := ⟨gp, op + 4, none⟩) hg3]; exact l4
    have nl5 : w4.cell? ⟨gp, op + 5, none⟩ = some (.string vt) := by rw [hb4.cell (p := ⟨gp, op + 5, none⟩) hg3]; exact l5
    have ni0 : w4.cell? ⟨B + 1, 0, none⟩ = some (.int .i64 0) := by rw [hb4.cell (p := ⟨B + 1, 0, none⟩) hs3]; exact i0
    have ny0 : w4.frozen? ⟨B + 1, 0, none⟩ = false := by rw [hb4.frozen (p := ⟨B + 1, 0, none⟩) hs3]; exact y0
    have ni1 : w4.cell? ⟨B + 1, 1, none⟩ = some (.int .i64 0) := by rw [hb4.cell (p := ⟨B + 1, 1, none⟩) hs3]; exact i1
    have ny1 : w4.frozen? ⟨B + 1, 1, none⟩ = false := by rw [hb4.frozen (p := ⟨B + 1, 1, none⟩) hs3]; exact y1
    have ni2 : w4.cell? ⟨B + 1, 2, none⟩ = some (.string ⟨#[]⟩) := by rw [hb4.cell (p := ⟨B + 1, 2, none⟩) hs3]; exact i2
    have ny2 : w4.frozen? ⟨B + 1, 2, none⟩ = false := by rw [hb4.frozen (p := ⟨B + 1, 2, none⟩) hs3]; exact y2
    clear hb4 j0 l0 l1 l2 l3 l4 l5 i0 i1 i2 y0 y1 y2 hx3
    go_wp2_with fail
    refine hK.out _ _ ?_ (fun hHeld => ?_)
    · (((try dsimp only); (repeat' apply And.intro) <;> first | (go_keep; done) | (simp (disch := first | omega | (simp <;> omega) | fail) [*]; done) | fail))
    clear hK K
    try simp only [Act.put, List.setIfInBounds_toArray, List.set_cons_zero, List.set_cons_succ]
    refine wpAnyH_ready (rs := [12]) (by kernel_rfl) (by simp) ?_
    refine AllReadyH.cons (by simp only [List.getElem?_toArray, List.getElem?_cons_zero, List.getElem?_cons_succ]; rfl) ?_ AllReadyH.nil
    intro K hK
    go_simp
    refine hK.out _ _ ?_ (fun hHeld => ?_)
    · (((try dsimp only); (repeat' apply And.intro) <;> first | (go_keep; done) | (simp (disch := first | omega | (simp <;> omega) | fail) [*]; done) | fail))
    clear hK K
    try simp only [Act.put, List.setIfInBounds_toArray, List.set_cons_zero, List.set_cons_succ]
    refine wpAnyH_done (by kernel_rfl) ?_ _
    go_wp2
    have hw : w.heap.size ≤ B + 1 := by omega
    exact bodyPost_ret (v := .agg #[.int .i64 r1, .int .i64 r2, .string ⟨#[]⟩]) (by simp [results, Tryz.results75, go_sem, ni0, ni1, ni2]) rfl ⟨.inl ⟨rfl, rfl⟩, ((hx4.setCell hw _).setCell hw _).setCell hw _⟩
  · refine (unfail_no r1 r2 ⟨#[]⟩ r3 hr3 _).mono ?_
    rintro e w4 ⟨rfl, hb4⟩
    have hx4 := chain hx3 hb4
    go_wp2
    exact ⟨rfl, .inr ⟨hr3, rfl⟩, hx4⟩
end Go.Proofs.YthgbjnchhaoceaaGreatDoor

/-
  The contract of the model's helper that takes a row over: new memory.
-/
namespace Go.Proofs.YthgbjnchhaoceaaGreatDoor
open Go.ChangeShapes Go.WideShapes Go.ChangeAt Go.RowKit
attribute [local go_sem ↓] Go.wp_at_zero Go.wp_at_succ

/-- The cells of a row, one behind the other, lie there. -/
theorem flat_cells {w : World} {ad : Addr} {l : List CT} (h : RowAt w (some ad) l) (j : Nat) (u : Value) (hj : (flat l)[j]? = some u) : w.cell? (ad.add j) = some u := by
  have hlt : j < l.length * 3 := by
    have := (List.getElem?_eq_some_iff.1 hj).1
    rwa [flat_length] at this
  obtain ⟨b, o, e, _, c0, c1, c2⟩ := h (j / 3) (by omega)
  cases e
  obtain ⟨f0, f1, f2⟩ := flat_at l (j / 3) (by omega)
  have hadd : ∀ q, ((⟨b, o, none⟩ : Addr).add q) = ⟨b, o + q, none⟩ := by
    intro q
    unfold Addr.add
    by_cases hq : q = 0 <;> simp [hq]
  rw [hadd]
  rcases (show j = j / 3 * 3 ∨ j = j / 3 * 3 + 1 ∨ j = j / 3 * 3 + 2 by omega) with e | e | e
  · rw [e] at hj ⊢
    rw [f0] at hj
    rw [← hj]; exact c0
  · rw [e] at hj
    rw [f1] at hj
    rw [e, ← hj, ← Nat.add_assoc]; exact c1
  · rw [e] at hj
    rw [f2] at hj
    rw [e, ← hj, ← Nat.add_assoc]; exact c2

theorem flat_one (l : List CT) : ∀ u ∈ flat l, u.oneCell' = true := by
  induction l with
  | nil => intro u hu; cases hu
  | cons x l ih =>
    intro u hu
    simp only [flat, List.mem_cons] at hu
    rcases hu with rfl | rfl | rfl | hu
    · rfl
    · rfl
    · rfl
    · exact ih u hu

end Go.Proofs.YthgbjnchhaoceaaGreatDoor

/-
  The contract of the model's TextOf.
-/
namespace Go.Proofs.YthgbjnchhaoceaaGreatDoor
open Go.ChangeShapes Go.WideShapes Go.ChangeAt Go.RowKit
attribute [local go_sem ↓] Go.wp_at_zero Go.wp_at_succ
attribute [local simp] World.cell?_alloc_past World.cell?_alloc_at World.frozen?_alloc_at cell_far cell_off cell_here World.frozen?_alloc_past

theorem tokT_len {t : TT} (ht : tokB t = true) : (tokT t).length ≤ 14 := by
  rcases tokB_kind ht with ⟨s, rfl, hn⟩ | ⟨c, rfl, hc⟩ | ⟨s, rfl, hs⟩
  · unfold nameK nameB at hn
    simp only [Bool.and_eq_true, Bool.not_eq_true', decide_eq_true_eq] at hn
    obtain ⟨⟨h1, h2, h3⟩, _⟩ := hn
    rw [tokT_1, ← Lib.size_eq]
    omega
  · rw [tokT_2]
    obtain ⟨k, n, x⟩ := c
    exact l4T_len hc
  · rw [tokT_3]
    unfold signB at hs
    rw [Bool.or_eq_true] at hs
    rcases hs with hs | hs
    · have hm := inB_iff.1 hs
      simp only [signW, List.mem_cons, List.not_mem_nil, or_false] at hm
      rcases hm with rfl | rfl | rfl | rfl <;> decide
    · have hm := inB_iff.1 hs
      simp only [signO, List.mem_cons, List.not_mem_nil, or_false] at hm
      rcases hm with rfl | rfl | rfl | rfl | rfl | rfl | rfl | rfl <;> decide
def textsK (l : List TT) : List ByteArray := l.map fun t => ⟨(tokT t).toArray⟩
theorem textsK_snoc (l : List TT) (k : Nat) (h : k < l.length) : textsK (l.take (k + 1)) = textsK (l.take k) ++ [⟨(tokT l[k]).toArray⟩] := by
  unfold textsK; rw [List.take_succ_eq_append_getElem h, List.map_append]; rfl
theorem rawT_textsK (l : List TT) : rawT (textsK l) = l.map tokT := by
  unfold rawT textsK; rw [List.map_map]; rfl
theorem toksT_texts {l : List TT} (h : l.all tokB = true) : toksT l = ⟨(Lib.join (rawT (textsK l)) [32]).toArray⟩ := by
  unfold toksT; rw [if_pos h, rawT_textsK]
theorem textsK_14 {l : List TT} (h : l.all tokB = true) : ∀ x ∈ textsK l, x.size ≤ 14 := by
  intro x hx
  unfold textsK at hx
  obtain ⟨c, hc, rfl⟩ := List.mem_map.1 hx
  rw [Lib.size_eq, bytes_mk]
  exact tokT_len (List.all_eq_true.1 h c hc)
theorem textsK_length (l : List TT) : (textsK l).length = l.length := by unfold textsK; rw [List.length_map]
theorem allK_snoc (l : List TT) (k : Nat) (h : k < l.length) : (l.take (k + 1)).all tokB = ((l.take k).all tokB && tokB l[k]) := by
  rw [List.take_succ_eq_append_getElem h, List.all_append]; simp
end Go.Proofs.YthgbjnchhaoceaaGreatDoor

/-
  The text of a sum without any program: a pile of texts, item by item, and the text of its tree.
-/
namespace Go.Proofs.YthgbjnchhaoceaaGreatDoor

def bytesOf (l : List UInt8) : ByteArray := ⟨l.toArray⟩
/-- The text of one alone. -/
def leafX (x : TI) : ByteArray := bytesOf (tokT (tkOf x))
def oneX (k : Int) (s : ByteArray) : ByteArray := bytesOf (40 :: ((sgn k).data.toList ++ 32 :: (s.data.toList ++ [41])))
def twoX (k : Int) (s u : ByteArray) : ByteArray := bytesOf (40 :: (s.data.toList ++ 32 :: ((sgn k).data.toList ++ 32 :: (u.data.toList ++ [41]))))
/-- One item more: the pile of texts, the last one at the end. -/
def showStep (P : List ByteArray) (x : TI) : List ByteArray :=
  if needsI x.1 = 0 then P ++ [leafX x]
  else if needsI x.1 = 1 then P.set (P.length - 1) (oneX x.1 (P.getD (P.length - 1) ⟨#[]⟩))
  else (P.set (P.length - 2) (twoX x.1 (P.getD (P.length - 2) ⟨#[]⟩) (P.getD (P.length - 1) ⟨#[]⟩))).take (P.length - 1)
def showP (l : List TI) (P : List ByteArray) : List ByteArray := l.foldl showStep P
theorem showP_nil (P : List ByteArray) : showP [] P = P := rfl
theorem showP_append (l m : List TI) (P : List ByteArray) : showP (l ++ m) P = showP m (showP l P) := List.foldl_append
theorem showP_one (x : TI) (P : List ByteArray) : showP [x] P = showStep P x := rfl
theorem needs_012 (k : Int) : needsI k = 0 ∨ needsI k = 1 ∨ needsI k = 2 := by
  unfold needsI
  split
  · exact .inl rfl
  · split
    · exact .inr (.inl rfl)
    · exact .inr (.inr rfl)
theorem showStep_len (P : List ByteArray) (x : TI) (h : needsI x.1 ≤ P.length) : (showStep P x).length = P.length + 1 - needsI x.1 := by
  unfold showStep
  rcases needs_012 x.1 with e | e | e
  · rw [if_pos e, e, List.length_append]; rfl
  · rw [if_neg (by omega), if_pos e, List.length_set, e]; omega
  · rw [if_neg (by omega), if_neg (by omega), List.length_take, List.length_set, e]
    omega
theorem showP_len : ∀ (l : List TI) (P : List ByteArray) (m : Nat), heapN l P.length = some m → (showP l P).length = m
  | [], P, m, h => by simp only [heapN, Option.some.injEq] at h; exact h
  | x :: l, P, m, h => by
    unfold heapN at h
    split at h
    · rename_i hc
      show (showP l (showStep P x)).length = m
      exact showP_len l _ m (by rw [showStep_len P x hc.2]; exact h)
    · cases h
theorem heapN_le : ∀ (l : List TI) (n m : Nat), heapN l n = some m → m ≤ n + l.length
  | [], n, m, h => by simp only [heapN, Option.some.injEq] at h; simp; omega
  | x :: l, n, m, h => by
    unfold heapN at h
    split at h
    · have := heapN_le l _ m h
      simp only [List.length_cons]
      omega
    · cases h
/-- A sum's pile on the way. -/
theorem heapN_take {l : List TI} {m : Nat} (h : heapN l 0 = some m) (k : Nat) (hk : k < l.length) : ∃ p, heapN (l.take k) 0 = some p ∧ itemB l[k] = true ∧ needsI l[k].1 ≤ p := by
  have e : l = l.take k ++ (l[k] :: l.drop (k + 1)) := by
    rw [← List.drop_eq_getElem_cons hk, List.take_append_drop]
  rw [e, heapN_append] at h
  cases hp : heapN (l.take k) 0 with
  | none => rw [hp] at h; cases h
  | some p =>
    rw [hp] at h
    simp only [Option.bind_some] at h
    unfold heapN at h
    split at h
    · rename_i hc
      exact ⟨p, rfl, hc.1, hc.2⟩
    · cases h
theorem needs_op1 {k : Int} (h : k = 11 ∨ k = 12) : needsI k = 1 := by rcases h with rfl | rfl <;> rfl
theorem needs_op2 {k : Int} (h : 3 ≤ k ∧ k ≤ 10) : needsI k = 2 := by unfold needsI; rw [if_neg (by omega), if_neg (by omega)]
theorem needs_leaf {k : Int} (h : k = 1 ∨ k = 2) : needsI k = 0 := by rcases h with rfl | rfl <;> rfl
/-- The pile of a tree is its text. -/
theorem showP_tree {t : Tr} (h : t.ok) : ∀ P, showP t.post P = P ++ [bytesOf t.text] := by
  induction t with
  | leaf x =>
    intro P
    simp only [Tr.post, Tr.text]
    rw [showP_one]
    unfold showStep
    rw [if_pos (needs_leaf h.2)]
    rfl
  | one k t ih =>
    intro P
    simp only [Tr.post, Tr.text]
    rw [showP_append, ih h.2, showP_one]
    unfold showStep
    rw [show (opI k).1 = k from rfl, needs_op1 h.1, if_neg (by decide), if_pos rfl]
    simp only [List.length_append, List.length_singleton, Nat.add_sub_cancel]
    rw [List.set_append_right _ _ (Nat.le_refl _), Nat.sub_self]
    simp [List.getD, oneX, bytesOf]
  | two k a b iha ihb =>
    intro P
    simp only [Tr.post, Tr.text]
    rw [showP_append, iha h.2.1, showP_append, ihb h.2.2, showP_one]
    unfold showStep
    rw [show (opI k).1 = k from rfl, needs_op2 h.1, if_neg (by decide), if_neg (by decide)]
    have e1 : (P ++ [bytesOf a.text] ++ [bytesOf b.text]).length = P.length + 2 := by simp
    rw [e1, show P.length + 2 - 2 = P.length by omega, show P.length + 2 - 1 = P.length + 1 by omega]
    have g1 : (P ++ [bytesOf a.text] ++ [bytesOf b.text]).getD P.length ⟨#[]⟩ = bytesOf a.text := by simp [List.getD]
    have g2 : (P ++ [bytesOf a.text] ++ [bytesOf b.text]).getD (P.length + 1) ⟨#[]⟩ = bytesOf b.text := by simp [List.getD]
    rw [g1, g2, List.append_assoc, List.set_append_right _ _ (Nat.le_refl _), Nat.sub_self]
    rw [List.take_append, show P.length + 1 - P.length = 1 by omega, List.take_of_length_le (by omega)]
    rfl
/-- All bytes of a pile. -/
def sizesP (P : List ByteArray) : Nat := (P.map ByteArray.size).sum
theorem bytesOf_size (l : List UInt8) : (bytesOf l).size = l.length := rfl
theorem sizesP_append (P R : List ByteArray) : sizesP (P ++ R) = sizesP P + sizesP R := by unfold sizesP; rw [List.map_append, List.sum_append]
theorem sizesP_one (u : ByteArray) : sizesP [u] = u.size := by simp [sizesP]
theorem sizesP_get (P : List ByteArray) (m : Nat) (h : m < P.length) : P[m].size ≤ sizesP P := by
  have e : P = P.take m ++ (P[m] :: P.drop (m + 1)) := by rw [← List.drop_eq_getElem_cons h, List.take_append_drop]
  have h2 : sizesP P = sizesP (P.take m) + (sizesP [P[m]] + sizesP (P.drop (m + 1))) := by
    conv => lhs; rw [e]
    rw [sizesP_append, ← sizesP_append [P[m]]]; rfl
  rw [sizesP_one] at h2
  omega
theorem sgn_size (k : Int) : (sgn k).size ≤ 5 := by
  unfold sgn
  repeat' split
  all_goals decide
theorem snoc_of {P : List ByteArray} {m : Nat} (h : P.length = m + 1) : ∃ R u, P = R ++ [u] ∧ R.length = m := by
  rcases List.eq_nil_or_concat P with rfl | ⟨R, u, e⟩
  · simp at h
  · rw [List.concat_eq_append] at e
    subst e
    exact ⟨R, u, rfl, by simpa using h⟩
theorem showStep_one {R : List ByteArray} {u : ByteArray} {x : TI} (h : needsI x.1 = 1) : showStep (R ++ [u]) x = R ++ [oneX x.1 u] := by
  unfold showStep
  rw [h, if_neg (by decide), if_pos rfl]
  simp only [List.length_append, List.length_singleton, Nat.add_sub_cancel]
  rw [List.set_append_right _ _ (Nat.le_refl _), Nat.sub_self]
  simp [List.getD]
theorem showStep_two {R : List ByteArray} {u v : ByteArray} {x : TI} (h : needsI x.1 = 2) : showStep (R ++ [u] ++ [v]) x = R ++ [twoX x.1 u v] := by
  unfold showStep
  rw [h, if_neg (by decide), if_neg (by decide)]
  have e1 : (R ++ [u] ++ [v]).length = R.length + 2 := by simp
  rw [e1, show R.length + 2 - 2 = R.length by omega, show R.length + 2 - 1 = R.length + 1 by omega]
  have g1 : (R ++ [u] ++ [v]).getD R.length ⟨#[]⟩ = u := by simp [List.getD]
  have g2 : (R ++ [u] ++ [v]).getD (R.length + 1) ⟨#[]⟩ = v := by simp [List.getD]
  rw [g1, g2, List.append_assoc, List.set_append_right _ _ (Nat.le_refl _), Nat.sub_self]
  rw [List.take_append, show R.length + 1 - R.length = 1 by omega, List.take_of_length_le (by omega)]
  rfl
theorem leafX_size {x : TI} (h : itemB x = true) (h0 : needsI x.1 = 0) : (x.1 = 1 ∨ x.1 = 2) ∧ (leafX x).size ≤ 14 := by
  have hx : x.1 = 1 ∨ x.1 = 2 := by
    by_cases h1 : x.1 = 1
    · exact .inl h1
    by_cases h2 : x.1 = 2
    · exact .inr h2
    have := item_op h h1 h2
    unfold needsI at h0
    rw [if_neg (by omega)] at h0
    split at h0 <;> cases h0
  exact ⟨hx, tokT_len (tkOf_ok h hx)⟩
theorem showStep_size {P : List ByteArray} {x : TI} (h : itemB x = true) (hn : needsI x.1 ≤ P.length) : sizesP (showStep P x) ≤ sizesP P + 14 := by
  rcases needs_012 x.1 with e | e | e
  · unfold showStep
    rw [if_pos e, sizesP_append, sizesP_one]
    have := (leafX_size h e).2
    omega
  · obtain ⟨m, hm⟩ : ∃ m, P.length = m + 1 := ⟨P.length - 1, by omega⟩
    obtain ⟨R, u, rfl, _⟩ := snoc_of hm
    rw [showStep_one e, sizesP_append, sizesP_one, sizesP_append, sizesP_one]
    have := sgn_size x.1
    rw [Lib.size_eq] at this
    unfold oneX
    rw [bytesOf_size]
    simp only [List.length_cons, List.length_append, List.length_nil]
    rw [← Lib.size_eq u]
    omega
  · obtain ⟨m, hm⟩ : ∃ m, P.length = m + 1 + 1 := ⟨P.length - 2, by omega⟩
    obtain ⟨R, v, rfl, hR⟩ := snoc_of hm
    obtain ⟨R, u, rfl, _⟩ := snoc_of hR
    rw [showStep_two e, sizesP_append, sizesP_one, sizesP_append, sizesP_append, sizesP_one, sizesP_one]
    have := sgn_size x.1
    rw [Lib.size_eq] at this
    unfold twoX
    rw [bytesOf_size]
    simp only [List.length_cons, List.length_append, List.length_nil]
    rw [← Lib.size_eq u, ← Lib.size_eq v]
    omega
/-- The text of a sum; empty where it is none. -/
def sumT (l : List TI) : ByteArray := if sumB l = true then (showP l []).headD ⟨#[]⟩ else ⟨#[]⟩
theorem sumT_tree {t : Tr} (h : t.ok) (hs : sumB t.post = true) : sumT t.post = bytesOf t.text := by
  unfold sumT
  rw [if_pos hs, showP_tree h []]
  rfl
end Go.Proofs.YthgbjnchhaoceaaGreatDoor
