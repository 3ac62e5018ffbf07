/-
  A part of the proof: FlowI, Tab1, Open2, OpenV, Laid.
-/
import Derived.Test.YtpggjgilklpncaaGreatDoorPart11
import Derived.Test.YtpggjgilklpncaaGreatDoorPart16
import Derived.Deep.RegionHeld3
import Derived.Test.YtpggjgilklpncaaGreatDoorPart6
import Derived.Test.YtpggjgilklpncaaGreatDoorPart8
import Derived.Lib.SmallJoins
import Derived.Test.YtpggjgilklpncaaGreatDoorPart10
import Derived.Test.YtpggjgilklpncaaGreatDoorRows
import Derived.Test.YtpggjgilklpncaaGreatDoorPart12
import Derived.LaidMore
import Derived.Stop.LaidErr
import Derived.Lib.LaidTab
import Derived.Stop.Joined
import Derived.ProofKit
import Derived.LaidLaws

/-
  The program's Flows.
-/
namespace Go.Proofs.YtpggjgilklpncaaGreatDoor
open Go.ChangeShapes Go.WideShapes Go.ChangeAt Go.RowKit
attribute [local go_sem ↓] Go.wp_at_zero Go.wp_at_succ
attribute [local simp] World.cell?_alloc_past World.cell?_alloc_at World.frozen?_alloc_at cell_far cell_off cell_here World.frozen?_alloc_past

set_option maxRecDepth 100000 in
set_option maxHeartbeats 1000000 in
theorem dams_impl (kd : Int) (nm : ByteArray) (na : Option Addr) (nn nc : Nat) (N : List ByteArray) (sa : Option Addr) (sn sc : Nat) (S : List TI) (dn : Bool) (ct sk : Int) (nm0 : ByteArray) (w : World) (b : Bool) (hb : damB nm0 ⟨kd, nm, N, S, dn, ct, sk⟩ = b) :
    Calls Tryz.prog 15 #[.agg #[.int .i64 kd, .string nm, .slice na nn nc, .slice sa sn sc, .bool dn, .int .i64 ct, .int .i64 sk], .string nm0] w fun e w' => e = .returned (.bool b) ∧ Below w.heap.size w w' := by
  unfold damB at hb
  dsimp only at hb
  have HQ : Hid ((decide (kd = 7) || (decide (kd = 8) || ((decide (kd = 5) || decide (kd = 6)) && decide (nm = nm0)))) = b) := hb
  have hA : Below w.heap.size w (w.alloc (.cells #[.int .i64 kd, .string nm, .slice na nn nc, .slice sa sn sc, .bool dn, .int .i64 ct, .int .i64 sk] 36)) := (Below.refl _ _).alloc (Nat.le_refl _) _
  clear hb
  go_enter Tryz.func15, Tryz.ntmps15
  by_cases k7 : kd = 7
  · subst k7
    obtain rfl : true = b := by rw [← HQ.out]; simp
    go_wp2
    go_ret
    exact ⟨rfl, hA⟩
  by_cases k8 : kd = 8
  · subst k8
    obtain rfl : true = b := by rw [← HQ.out]; simp
    go_wp2
    go_ret
    exact ⟨rfl, hA⟩
  by_cases hnm : nm = nm0
  · subst hnm
    by_cases k5 : kd = 5
    · subst k5
      obtain rfl : true = b := by rw [← HQ.out]; simp
      go_wp2
      go_ret
      exact ⟨by first | rfl | simp, hA⟩
    by_cases k6 : kd = 6
    · subst k6
      obtain rfl : true = b := by rw [← HQ.out]; simp
      go_wp2
      go_ret
      exact ⟨by first | rfl | simp, hA⟩
    obtain rfl : false = b := by rw [← HQ.out]; simp [k7, k8, k5, k6]
    go_wp2
    go_ret
    exact ⟨rfl, hA⟩
  · have en : (nm.toList == nm0.toList) = false := txt_other hnm
    obtain rfl : false = b := by rw [← HQ.out]; simp [k7, k8, hnm]
    by_cases k5 : kd = 5
    · subst k5
      go_wp2
      go_ret
      exact ⟨by first | rfl | simp [en], hA⟩
    by_cases k6 : kd = 6
    · subst k6
      go_wp2
      go_ret
      exact ⟨by first | rfl | simp [en], hA⟩
    go_wp2
    go_ret
    exact ⟨rfl, hA⟩
theorem closflow_impl (kd : Int) (nm : ByteArray) (na : Option Addr) (nn nc : Nat) (N : List ByteArray) (sa : Option Addr) (sn sc : Nat) (S : List TI) (dn : Bool) (ct sk : Int) (B g o n cap : Nat) (nm0 : ByteArray) (w : World) (hB : w.cell? ⟨B, 0, none⟩ = some (.slice (some ⟨g, o, none⟩) n cap)) (hn : 0 < n) (h1 : w.cell? ⟨g, o + 1, none⟩ = some (.string nm0)) (b : Bool) (hb : damB nm0 ⟨kd, nm, N, S, dn, ct, sk⟩ = b) :
    Calls Tryz.prog 14 #[.agg #[.int .i64 kd, .string nm, .slice na nn nc, .slice sa sn sc, .bool dn, .int .i64 ct, .int .i64 sk], .pointer (some ⟨B, 0, none⟩)] w fun e w' => e = .returned (.bool b) ∧ Below w.heap.size w w' := by
  have HQ : Hid (damB nm0 ⟨kd, nm, N, S, dn, ct, sk⟩ = b) := hb
  clear hb
  have hi : (0 : Int) < (n : Int) := by omega
  have hBl : B < w.heap.size := World.block_lt_of_cell? w _ hB
  have hgl : g < w.heap.size := World.block_lt_of_cell? w _ h1
  obtain ⟨V, hV⟩ : ∃ V, V = w.alloc (.cells #[.int .i64 kd, .string nm, .slice na nn nc, .slice sa sn sc, .bool dn, .int .i64 ct, .int .i64 sk] 36) := ⟨_, rfl⟩
  have hA : Below w.heap.size w V := by rw [hV]; exact (Below.refl _ _).alloc (Nat.le_refl _) _
  have HP : Hid (V.heap[w.heap.size]? = some (.cells #[.int .i64 kd, .string nm, .slice na nn nc, .slice sa sn sc, .bool dn, .int .i64 ct, .int .i64 sk] 36)) := by rw [hV]; exact _root_.Go.heap_alloc_new w _
  have HV : Hid (w.alloc (.cells #[.int .i64 kd, .string nm, .slice na nn nc, .slice sa sn sc, .bool dn, .int .i64 ct, .int .i64 sk] 36) = V) := hV.symm
  have b0 := (hA.cell (p := ⟨B, 0, none⟩) hBl).trans hB
  have d1 := (hA.cell (p := ⟨g, o + 1, none⟩) hgl).trans h1
  have hV0 : w.heap.size < V.heap.size := by rw [hV]; simp
  have hBV : B < V.heap.size := by omega
  have hgV : g < V.heap.size := by omega
  obtain ⟨p0, p1, p2, p3, p4, p5, p6⟩ := cells7 HP.out
  clear hV hB h1
  go_enter Tryz.func14, Tryz.ntmps14
  go_wp2_with fail
  rw [HV.out]
  refine wp_region_held_drew (S := (fun w' => w'.cell? ⟨w.heap.size, 0, none⟩ = some (.int .i64 kd) ∧ w'.cell? ⟨w.heap.size, 1, none⟩ = some (.string nm) ∧ w'.cell? ⟨w.heap.size, 2, none⟩ = some (.slice na nn nc) ∧ w'.cell? ⟨w.heap.size, 3, none⟩ = some (.slice sa sn sc) ∧ w'.cell? ⟨w.heap.size, 4, none⟩ = some (.bool dn) ∧ w'.cell? ⟨w.heap.size, 5, none⟩ = some (.int .i64 ct) ∧ w'.cell? ⟨w.heap.size, 6, none⟩ = some (.int .i64 sk) ∧ w'.cell? ⟨B, 0, none⟩ = some (.slice (some ⟨g, o, none⟩) n cap) ∧ w'.cell? ⟨g, o + 1, none⟩ = some (.string nm0))) (by kernel_rfl) ⟨p0, p1, p2, p3, p4, p5, p6, b0, d1⟩ (fun hHeld => ?_)
  refine wpAnyH_take (i := 0) (by simp only [List.getElem?_toArray, List.getElem?_cons_zero]; rfl) (by kernel_rfl) (by kernel_rfl) (by kernel_rfl) (by intro _ _ _ h; exact h) (Or.inl ⟨by rfl, fun w hSw => by (dsimp only at hSw; go_simp; (try with_reducible rfl))⟩) (by assumption) ?_
  simp only [Act.put, List.setIfInBounds_toArray, List.set_cons_zero, List.set_cons_succ]
  refine wpAnyH_take (i := 1) (by simp only [List.getElem?_toArray, List.getElem?_cons_zero, List.getElem?_cons_succ]; rfl) (by kernel_rfl) (by kernel_rfl) (by kernel_rfl) (by intro _ _ _ h; exact h) (Or.inl ⟨by rfl, fun w hSw => by (dsimp only at hSw; go_simp; (try with_reducible rfl))⟩) (by assumption) ?_
  simp only [Act.put, List.setIfInBounds_toArray, List.set_cons_zero, List.set_cons_succ]
  refine wpAnyH_take (i := 2) (by simp only [List.getElem?_toArray, List.getElem?_cons_zero, List.getElem?_cons_succ]; rfl) (by kernel_rfl) (by kernel_rfl) (by kernel_rfl) (by intro _ _ _ h; exact h) (Or.inl ⟨by rfl, fun w hSw => by (dsimp only at hSw; go_simp; (try with_reducible rfl))⟩) (by assumption) ?_
  simp only [Act.put, List.setIfInBounds_toArray, List.set_cons_zero, List.set_cons_succ]
  refine wpAnyH_take (i := 3) (by simp only [List.getElem?_toArray, List.getElem?_cons_zero, List.getElem?_cons_succ]; rfl) (by kernel_rfl) (by kernel_rfl) (by kernel_rfl) (by intro _ _ _ h; exact h) (Or.inl ⟨by rfl, fun w hSw => by (dsimp only at hSw; go_simp; (try with_reducible rfl))⟩) (by assumption) ?_
  simp only [Act.put, List.setIfInBounds_toArray, List.set_cons_zero, List.set_cons_succ]
  refine wpAnyH_take (i := 4) (by simp only [List.getElem?_toArray, List.getElem?_cons_zero, List.getElem?_cons_succ]; rfl) (by kernel_rfl) (by kernel_rfl) (by kernel_rfl) (by intro _ _ _ h; exact h) (Or.inl ⟨by rfl, fun w hSw => by (dsimp only at hSw; go_simp; (try with_reducible rfl))⟩) (by assumption) ?_
  simp only [Act.put, List.setIfInBounds_toArray, List.set_cons_zero, List.set_cons_succ]
  refine wpAnyH_ready (rs := [5]) (by kernel_rfl) (by simp) ?_
  refine AllReadyH.cons (by simp only [List.getElem?_toArray, List.getElem?_cons_zero, List.getElem?_cons_succ]; rfl) ?_ AllReadyH.nil
  intro K hK
  go_simp
  refine (dams_impl kd nm na nn nc N sa sn sc S dn ct sk nm0 _ b HQ.out).mono ?_
  rintro e w1 ⟨rfl, hb1⟩
  replace hb1 := undrew hb1
  have hx := chain hA hb1
  have key : ∀ b o, b < V.heap.size → w1.cell? ⟨b, o, none⟩ = V.cell? ⟨b, o, none⟩ := (bcell hb1).1
  have p0 := (key _ 0 hV0).trans p0
  have p1 := (key _ 1 hV0).trans p1
  have p2 := (key _ 2 hV0).trans p2
  have p3 := (key _ 3 hV0).trans p3
  have p4 := (key _ 4 hV0).trans p4
  have p5 := (key _ 5 hV0).trans p5
  have p6 := (key _ 6 hV0).trans p6
  have b0 := (key _ _ hBV).trans b0
  have d1 := (key _ _ hgV).trans d1
  clear key hHeld hb1
  refine hK.out _ _ ⟨p0, p1, p2, p3, p4, p5, p6, b0, d1⟩ (fun hHeld => ?_)
  clear hK K
  try simp only [Act.put, List.setIfInBounds_toArray, List.set_cons_zero, List.set_cons_succ]
  refine wpAnyH_take (i := 6) (by simp only [List.getElem?_toArray, List.getElem?_cons_zero, List.getElem?_cons_succ]; rfl) (by kernel_rfl) (by kernel_rfl) (by kernel_rfl) (by intro _ _ _ h; exact h) (Or.inl ⟨by rfl, fun w hSw => by (dsimp only at hSw; go_simp; (try with_reducible rfl))⟩) (by assumption) ?_
  simp only [Act.put, List.setIfInBounds_toArray, List.set_cons_zero, List.set_cons_succ]
  refine wpAnyH_done (by kernel_rfl) ?_ _
  clear hHeld
  go_wp2
  go_ret
  exact ⟨rfl, hx⟩
set_option maxRecDepth 100000 in
set_option maxHeartbeats 2000000 in
theorem indexflow_impl (a : Option Addr) (cc : Nat) (L : List SV) (m : Nat) (hL : L.length = m) (B g o n cap : Nat) (nm0 : ByteArray) (w : World) (hrow : SivsAt w a L) (hB : w.cell? ⟨B, 0, none⟩ = some (.slice (some ⟨g, o, none⟩) n cap)) (hn : 0 < n) (h1 : w.cell? ⟨g, o + 1, none⟩ = some (.string nm0)) (hm : m ≤ maxLen) :
    Calls Tryz.prog 24 #[.slice a m cc, .func (.func 14) #[] #[.pointer (some ⟨B, 0, none⟩)]] w fun e w' => ∃ r : Int, e = .returned (.int .i64 r) ∧ decide (0 ≤ r) = L.any (damB nm0) ∧ Below w.heap.size w w' := by
  have HR : Hid (SivsAt w a L) := hrow
  have HL : Hid (L.length = m) := hL
  have HB : Hid (w.cell? ⟨B, 0, none⟩ = some (.slice (some ⟨g, o, none⟩) n cap)) := hB
  have H1 : Hid (w.cell? ⟨g, o + 1, none⟩ = some (.string nm0)) := h1
  clear hrow hL hB h1
  unfold maxLen at hm
  go_enter Tryz.func24, Tryz.ntmps24
  go_wp2
  go_loopw [8] (fun kk wr => ∃ k : Nat, k ≤ m ∧ kk = .int .i64 k ∧ Hid ((L.take k).any (damB nm0) = false) ∧ Below w.heap.size w wr) (fun kk _ => m - (intOf kk).toNat)
  case atStart => exact ⟨0, Nat.zero_le _, rfl, rfl, Below.refl _ _⟩
  case round =>
    obtain ⟨k, hk, rfl, hall, hbw⟩ := hrel
    by_cases hlt : k < m
    · have hlk : k < L.length := by rw [HL.out]; exact hlt
      obtain ⟨g', o', na, nc, sa, sc, rfl, hgw, ⟨c0, c1, c2, c3, c4, c5, c6⟩, _⟩ := HR.out.below hbw k hlk
      have hi0 : (0 : Int) ≤ (k : Int) := by omega
      have hi1 : (k : Int) < (m : Int) := by omega
      obtain ⟨r, hr⟩ : ∃ r, damB nm0 L[k] = r := ⟨_, rfl⟩
      have HS : Hid ((L.take (k + 1)).any (damB nm0) = r) := by
        have h : (L.take (k + 1)).any (damB nm0) = r := by
          rw [List.take_succ_eq_append_getElem hlk, List.any_append, hall.out, ← hr]; simp
        exact h
      have HY : Hid (r = true → L.any (damB nm0) = true) := by
        have : r = true → L.any (damB nm0) = true := fun e => List.any_eq_true.2 ⟨L[k], List.getElem_mem hlk, hr.trans e⟩
        exact this
      have HRR : Hid (damB nm0 L[k] = r) := hr
      clear hr hall
      generalize L[k] = x at c0 c1 c2 c3 c4 c5 c6 HRR
      obtain ⟨kd, nm, N, S, dn, ct, sk⟩ := x
      dsimp only at c0 c1 c2 c3 c4 c5 c6
      obtain ⟨nn, hnn⟩ : ∃ z, N.length = z := ⟨_, rfl⟩
      obtain ⟨sn, hsn⟩ : ∃ z, S.length = z := ⟨_, rfl⟩
      rw [hnn] at c2
      rw [hsn] at c3
      clear hnn hsn
      go_wp2_with fail
      refine (closflow_impl kd nm na nn nc N sa sn sc S dn ct sk B g o n cap nm0 _ ((hbw.cell (p := ⟨B, 0, none⟩) (World.block_lt_of_cell? w _ HB.out)).trans HB.out) hn ((hbw.cell (p := ⟨g, o + 1, none⟩) (World.block_lt_of_cell? w _ H1.out)).trans H1.out) r HRR.out).mono ?_
      rintro e w1 ⟨rfl, hb1⟩
      have hx1 := chain hbw hb1
      clear c0 c1 c2 c3 c4 c5 c6 hb1
      cases r
      · go_wp2
        go_roundw
        case rel => exact ⟨k + 1, by omega, by go_num, HS, hx1⟩
        case measure => simp [intOf]; omega
      · have fin : Hid (L.any (damB nm0) = true) := HY.out rfl
        go_wp2
        go_ret
        exact ⟨_, rfl, by rw [fin.out]; exact decide_eq_true hi0, hx1⟩
    · have hkl : k = m := by omega
      subst hkl
      have hi1 : ¬ (k : Int) < (k : Int) := by omega
      have fin : Hid (L.any (damB nm0) = false) := by
        have : L.any (damB nm0) = false := by
          have := hall.out
          rwa [List.take_of_length_le (by rw [HL.out]; exact Nat.le_refl _)] at this
        exact this
      clear hall
      go_wp2
      go_ret
      exact ⟨_, rfl, by rw [fin.out]; decide, hbw⟩
set_option maxHeartbeats 1000000 in
theorem containsflow_impl (a : Option Addr) (cc : Nat) (L : List SV) (m : Nat) (hL : L.length = m) (B g o n cap : Nat) (nm0 : ByteArray) (w : World) (hrow : SivsAt w a L) (hB : w.cell? ⟨B, 0, none⟩ = some (.slice (some ⟨g, o, none⟩) n cap)) (hn : 0 < n) (h1 : w.cell? ⟨g, o + 1, none⟩ = some (.string nm0)) (hm : m ≤ maxLen) (r : Bool) (hr : L.any (damB nm0) = r) :
    Calls Tryz.prog 13 #[.slice a m cc, .func (.func 14) #[] #[.pointer (some ⟨B, 0, none⟩)]] w fun e w' => e = .returned (.bool r) ∧ Below w.heap.size w w' := by
  have HI : Hid (Calls Tryz.prog 24 #[.slice a m cc, .func (.func 14) #[] #[.pointer (some ⟨B, 0, none⟩)]] w fun e w' => ∃ r : Int, e = .returned (.int .i64 r) ∧ decide (0 ≤ r) = L.any (damB nm0) ∧ Below w.heap.size w w') := indexflow_impl a cc L m hL B g o n cap nm0 w hrow hB hn h1 hm
  have HR : Hid (L.any (damB nm0) = r) := hr
  clear hrow hB h1 hL hr hm
  go_enter Tryz.func13, Tryz.ntmps13
  go_wp2_with fail
  refine HI.out.mono ?_
  rintro e w1 ⟨k, rfl, hk, hb1⟩
  rw [HR.out] at hk
  cases r
  · have hk0 : ¬ (0 : Int) ≤ k := of_decide_eq_false hk
    clear hk
    go_wp2
    go_ret
    exact ⟨by first | rfl | (simp; omega), hb1⟩
  · have hk0 : (0 : Int) ≤ k := of_decide_eq_true hk
    clear hk
    go_wp2
    go_ret
    exact ⟨by first | rfl | (simp; omega), hb1⟩
theorem sivs_tail {w : World} {g o : Nat} {T : List SV} (h : SivsAt w (some ⟨g, o, none⟩) T) : SivsAt w (some ⟨g, o + 7, none⟩) (T.drop 1) := by
  intro i hi
  rw [List.length_drop] at hi
  obtain ⟨b, o', na, nc, sa, sc, e, hl, ⟨c0, c1, c2, c3, c4, c5, c6⟩, hs⟩ := h (i + 1) (by omega)
  cases e
  have hf : (T.drop 1)[i]'(by rw [List.length_drop]; omega) = T[i + 1]'(by omega) := by rw [List.getElem_drop]; congr 1; omega
  rw [hf]
  rw [show o + (i + 1) * 7 = o + 7 + i * 7 by omega] at c0 c1 c2 c3 c4 c5 c6
  exact ⟨g, o + 7, na, nc, sa, sc, rfl, hl, ⟨c0, c1, c2, c3, c4, c5, c6⟩, hs⟩
set_option maxRecDepth 100000 in
set_option maxHeartbeats 2000000 in
theorem flows_impl (g : Nat) (T : List SV) (n : Nat) (hn : T.length = n) (w : World) (hrow : SivsAt w (some ⟨g, 0, none⟩) T) (hmild : ∀ i (hi : i < T.length), MildV T[i]) (hm : n ≤ maxLen) (hp : PowAt w) (he : ErrAt w) (b : Bool) (hb : flowB T = b) :
    Calls Tryz.prog 7 #[.slice (some ⟨g, 0, none⟩) n n] w fun e w' => e = .returned (.bool b) ∧ Below w.heap.size w w' := by
  have HR : Hid (SivsAt w (some ⟨g, 0, none⟩) T) := hrow
  have HN : Hid (T.length = n) := hn
  have HMS : Hid (∀ i (hi : i < T.length), MildV T[i]) := hmild
  have HP : Hid (PowAt w) := hp
  have HE : Hid (ErrAt w) := he
  obtain ⟨q, hq⟩ : ∃ q, askB T = q := ⟨_, rfl⟩
  have HQ : Hid (askB T = q) := hq
  obtain ⟨r, hr⟩ : ∃ r, (T.drop 1).any (damB (fromN T)) = r := ⟨_, rfl⟩
  have HRR : Hid ((T.drop 1).any (damB (fromN T)) = r) := hr
  have HB : Hid ((q && !r) = b) := by
    have h : (q && !r) = b := by rw [← hb]; unfold flowB; rw [hq, hr]
    exact h
  obtain ⟨V, hV⟩ : ∃ V, V = w.alloc (.cells #[.slice (some ⟨g, 0, none⟩) n n] 25) := ⟨_, rfl⟩
  have hA : Below w.heap.size w V := by rw [hV]; exact (Below.refl _ _).alloc (Nat.le_refl _) _
  have hB0 : V.cell? ⟨w.heap.size, 0, none⟩ = some (.slice (some ⟨g, 0, none⟩) n n) := by rw [hV]; simp
  have HV : Hid (w.alloc (.cells #[.slice (some ⟨g, 0, none⟩) n n] 25) = V) := hV.symm
  have hV0 : w.heap.size < V.heap.size := by rw [hV]; simp
  clear hrow hn hmild hp he hb hq hr hV
  go_enter Tryz.func7, Tryz.ntmps7
  go_wp2_with fail
  rw [HV.out]
  refine (ask_impl _ _ T n HN.out _ (HR.out.below hA) HMS.out hm (HP.out.below hA) (HE.out.below hA) q HQ.out).mono ?_
  rintro e w1 ⟨rfl, hb1⟩
  have hx := chain hA hb1
  have hB1 : w1.cell? ⟨w.heap.size, 0, none⟩ = some (.slice (some ⟨g, 0, none⟩) n n) := (hb1.cell (p := ⟨w.heap.size, 0, none⟩) hV0).trans hB0
  clear hB0 hb1
  cases q
  · obtain rfl : false = b := by rw [← HB.out]; rfl
    go_wp2
    go_ret
    exact ⟨rfl, hx⟩
  obtain ⟨s, l, rfl⟩ : ∃ s l, T = s :: l := by
    cases T with
    | nil => exact absurd HQ.out (by decide)
    | cons s l => exact ⟨s, l, rfl⟩
  have HR1 := HR.out.below hx
  obtain ⟨g', o', na, nc, sa, sc, e, _, ⟨_, d1, _⟩, _⟩ := HR1 0 (by simp)
  cases e
  have hn0 : 0 < n := by rw [← HN.out]; simp
  have h1n : (1 : Int) ≤ (n : Int) := by omega
  have HT1 : Hid (SivsAt w1 (if n = 1 then some ⟨g, 0, none⟩ else some ⟨g, 7, none⟩) l) := by
    have h : SivsAt w1 (if n = 1 then some ⟨g, 0, none⟩ else some ⟨g, 7, none⟩) l := by
      by_cases e1 : n = 1
      · have hl : l = [] := by have := HN.out; simp at this; exact List.eq_nil_of_length_eq_zero (by omega)
        subst hl
        intro i hi
        simp at hi
      · rw [if_neg e1]
        exact sivs_tail HR1
    exact h
  have HL1 : Hid (l.length = n - 1) := by have := HN.out; exact show l.length = n - 1 by simp at this; omega
  have HD1 : Hid (w1.cell? ⟨g, 0 + 1, none⟩ = some (.string s.name)) := by
    have h : w1.cell? ⟨g, 0 + 1, none⟩ = some (.string s.name) := by simpa using d1
    exact h
  have HB1 : Hid (w1.cell? ⟨w.heap.size, 0, none⟩ = some (.slice (some ⟨g, 0, none⟩) n n)) := hB1
  obtain ⟨ad, had⟩ : ∃ z, (if n = 1 then some (⟨g, 0, none⟩ : Addr) else some ⟨g, 7, none⟩) = z := ⟨_, rfl⟩
  rw [had] at HT1
  clear d1
  go_wp2_with fail
  refine (containsflow_impl _ _ l (n - 1) HL1.out w.heap.size g 0 n n s.name _ HT1.out HB1.out hn0 HD1.out (by omega) r HRR.out).mono ?_
  rintro e w2 ⟨rfl, hb2⟩
  replace hx := chain hx hb2
  clear hb2 hB1
  cases r
  · obtain rfl : true = b := by rw [← HB.out]; rfl
    go_wp2
    go_ret
    exact ⟨rfl, hx⟩
  · obtain rfl : false = b := by rw [← HB.out]; rfl
    go_wp2
    go_ret
    exact ⟨rfl, hx⟩
end Go.Proofs.YtpggjgilklpncaaGreatDoor

/-
  Tables: how a table lies in memory, what a right one is, without any program, and the contract of the model's TableOk.
-/
namespace Go.Proofs.YtpggjgilklpncaaGreatDoor
open Go.ChangeShapes Go.WideShapes Go.ChangeAt Go.RowKit
attribute [local go_sem ↓] Go.wp_at_zero Go.wp_at_succ
attribute [local simp] World.cell?_alloc_past World.cell?_alloc_at World.frozen?_alloc_at cell_far cell_off cell_here World.frozen?_alloc_past

/-- A table: its name, its columns, its rows. -/
abbrev TB := ByteArray × List ByteArray × List (List CT)
/-- The columns and rows of a table lie where it says. -/
structure TabAt (w : World) (ca : Option Addr) (cc : Nat) (ra : Option Addr) (t : TB) : Prop where
  cols : StrsAt w ca t.2.1
  fit : FitS t.2.1
  len : t.2.1.length ≤ maxLen
  cap : t.2.1.length ≤ cc
  nilC : ca = none → cc = 0
  rows : RowsAt w ra t.2.2
  lenR : t.2.2.length ≤ maxLen
  name : t.1.size ≤ maxLen
theorem TabAt.below {w w' : World} {ca : Option Addr} {cc : Nat} {ra : Option Addr} {t : TB} (h : TabAt w ca cc ra t) (hb : Below w.heap.size w w') : TabAt w' ca cc ra t :=
  ⟨h.cols.below hb, h.fit, h.len, h.cap, h.nilC, h.rows.below hb, h.lenR, h.name⟩

end Go.Proofs.YtpggjgilklpncaaGreatDoor

/-
  A law's argument that is a slice of texts, or a table, opened: which one it is, and where it lies.
-/
namespace Go.Proofs.YtpggjgilklpncaaGreatDoor
open Go.ChangeShapes Go.WideShapes Go.ChangeAt Go.RowKit Go.Deep Go.Joins

theorem open_strs {H : Type} {enc : TypeId × Value → H} {P : Program} {w : World} {base : Nat} {spare : Nat → Bool} {held : Bool} {t e : TypeId} {fuel : Nat} {a : Option Addr} {len cap : Nat} {x : DataW H × List MemPlace}
    (ht : P.underlying t = some (.slice e)) (he : P.underlying e = some .string) (ce : P.cellsOf e = 1)
    (h : DataW.trod enc P w base spare held fuel t [.slice a len cap] = some x) :
    ∃ l : List ByteArray, l.length = len ∧ StrsAt w a l ∧ FitS l ∧ len ≤ maxLen ∧ len ≤ cap ∧ (a = none → cap = 0) := by
  rcases open_slice ht h with ⟨h0, _⟩ | ⟨ad, len', cap', m, n, D, Pl, hcs, hb, hl, hm, hmm, _, hx⟩
  · simp at h0
    obtain ⟨rfl, rfl, rfl⟩ := h0
    exact ⟨[], rfl, fun j hj => by simp at hj, fun j hj => by simp at hj, by unfold maxLen; omega, Nat.le_refl _, fun _ => rfl⟩
  simp at hcs
  obtain ⟨rfl, rfl, rfl⟩ := hcs
  have hlm : len ≤ m := by rw [hmm]; split <;> omega
  have each : ∀ i, i < len → ∃ q : ByteArray, w.cell? (ad.add i) = some (.string q) ∧ q.size ≤ maxLen := by
    intro i hi
    obtain ⟨cs', h1, h2⟩ := hx i (by omega)
    rw [ce, Nat.mul_one] at h1
    obtain ⟨_, hlen, hcell⟩ := World.cells?_some h1
    match cs', hlen with
    | [v], _ =>
      have e0 := hcell 0 (by omega)
      rw [add_add] at e0
      obtain ⟨s0, es, _, hs⟩ := DataW.trod_string he h2
      simp at es
      subst es
      exact ⟨s0, by simpa using e0, hs⟩
  obtain ⟨q, hq⟩ := choose_lt each
  have spot : 0 < len → ad.spot = none := by
    intro h0
    obtain ⟨e0, _⟩ := hq 0 h0
    simpa [Addr.add] using World.cell?_spot e0
  refine ⟨(List.range len).map q, by simp, ?_, ?_, by omega, by omega, fun h => by cases h⟩
  · intro j hj
    have hj' : j < len := by simpa using hj
    obtain ⟨b, o, sp⟩ := ad
    have hsp := spot (by omega)
    simp at hsp
    subst hsp
    obtain ⟨e0, _⟩ := hq j hj'
    have hadd : ((⟨b, o, none⟩ : Addr).add j) = ⟨b, o + j, none⟩ := by
      unfold Addr.add
      by_cases hq : j = 0 <;> simp [hq]
    rw [hadd] at e0
    refine ⟨b, o, rfl, World.block_lt_of_cell? w _ e0, ?_⟩
    simpa using e0
  · intro j hj
    have hj' : j < len := by simpa using hj
    simpa using (hq j hj').2

end Go.Proofs.YtpggjgilklpncaaGreatDoor

/-
  A law's argument that is a sieve, or a slice of sieves, opened: which they are, and where they lie.
-/
namespace Go.Proofs.YtpggjgilklpncaaGreatDoor
open Go.ChangeShapes Go.WideShapes Go.ChangeAt Go.RowKit Go.Deep Go.Joins

theorem cellsSiv : Tryz.prog.cellsOf 33 = 7 := by kernel_rfl
set_option maxRecDepth 100000 in
theorem open_sieves {H : Type} {enc : TypeId × Value → H} {w : World} {base : Nat} {spare : Nat → Bool} {held : Bool} {fuel : Nat} {a : Option Addr} {len cap : Nat} {x : DataW H × List MemPlace}
    (h : DataW.trod enc Tryz.prog w base spare held fuel 22 [.slice a len cap] = some x) :
    ∃ T : List SV, T.length = len ∧ SivsAt w a T ∧ len ≤ maxLen ∧ len ≤ cap ∧ (a = none → cap = 0) := by
  rcases open_slice Tryz.underlying22 h with ⟨h0, _⟩ | ⟨ad, len', cap', m, n, D, Pl, hcs, hb, hl, hm, hmm, _, hx⟩
  · simp at h0
    obtain ⟨rfl, rfl, rfl⟩ := h0
    exact ⟨[], rfl, fun j hj => by simp at hj, by unfold maxLen; omega, Nat.le_refl _, fun _ => rfl⟩
  simp at hcs
  obtain ⟨rfl, rfl, rfl⟩ := hcs
  have hlm : len ≤ m := by rw [hmm]; split <;> omega
  have each : ∀ i, i < len → ∃ q : SV, ∃ na nc sa sc, (w.cell? (ad.add (i * 7)) = some (.int .i64 q.kind) ∧ w.cell? (ad.add (i * 7 + 1)) = some (.string q.name) ∧ w.cell? (ad.add (i * 7 + 2)) = some (.slice na q.names.length nc) ∧ w.cell? (ad.add (i * 7 + 3)) = some (.slice sa q.sum.length sc) ∧ w.cell? (ad.add (i * 7 + 4)) = some (.bool q.down) ∧ w.cell? (ad.add (i * 7 + 5)) = some (.int .i64 q.count) ∧ w.cell? (ad.add (i * 7 + 6)) = some (.int .i64 q.skip)) ∧ SivAt w na nc sa q := by
    intro i hi
    obtain ⟨cs', h1, h2⟩ := hx i (by omega)
    rw [cellsSiv] at h1
    obtain ⟨_, hlen, hcell⟩ := World.cells?_some h1
    obtain ⟨xs, k, hk, hxy, _, hxl, hf⟩ := DataW.trod_struct Tryz.underlying33 h2
    match xs, hxl, cs', hlen with
    | [y0, y1, y2, y3, y4, y5, y6], _, [w0, w1, w2, w3, w4, w5, w6], _ =>
      have q0 := hf 0 _ rfl
      have q1 := hf 1 _ rfl
      have q2 := hf 2 _ rfl
      have q3 := hf 3 _ rfl
      have q4 := hf 4 _ rfl
      have q5 := hf 5 _ rfl
      have q6 := hf 6 _ rfl
      have k0 : Tryz.prog.cellsOf 2 = 1 := by kernel_rfl
      have k1 : Tryz.prog.cellsOf 9 = 1 := by kernel_rfl
      have k2 : Tryz.prog.cellsOf 30 = 1 := by kernel_rfl
      have k3 : Tryz.prog.cellsOf 31 = 1 := by kernel_rfl
      have k4 : Tryz.prog.cellsOf 4 = 1 := by kernel_rfl
      simp [k0, k1, k2, k3, k4] at q0 q1 q2 q3 q4 q5 q6
      clear k0 k1 k2 k3 k4
      have e0 := hcell 0 (by omega)
      have e1 := hcell 1 (by omega)
      have e2 := hcell 2 (by omega)
      have e3 := hcell 3 (by omega)
      have e4 := hcell 4 (by omega)
      have e5 := hcell 5 (by omega)
      have e6 := hcell 6 (by omega)
      rw [add_add] at e0 e1 e2 e3 e4 e5 e6
      obtain ⟨k0, ek0, _, _⟩ := DataW.trod_int Tryz.underlying2 q0
      obtain ⟨nm, enm, _, hnm⟩ := DataW.trod_string Tryz.underlying9 q1
      obtain ⟨dn, edn, _⟩ := DataW.trod_bool Tryz.underlying4 q4
      obtain ⟨ct, ect, _, _⟩ := DataW.trod_int Tryz.underlying2 q5
      obtain ⟨sk, esk, _, _⟩ := DataW.trod_int Tryz.underlying2 q6
      simp at ek0 enm edn ect esk
      subst ek0 enm edn ect esk
      obtain ⟨na, nn, nc, rfl⟩ : ∃ ai li ci, w2 = .slice ai li ci := by
        rcases open_slice Tryz.underlying30 q2 with ⟨hv, _⟩ | ⟨a', l', c', _, _, _, _, hv, _⟩
        · simp at hv; exact ⟨_, _, _, hv⟩
        · simp at hv; exact ⟨_, _, _, hv⟩
      obtain ⟨sa, sn, sc, rfl⟩ : ∃ ai li ci, w3 = .slice ai li ci := by
        rcases open_slice Tryz.underlying31 q3 with ⟨hv, _⟩ | ⟨a', l', c', _, _, _, _, hv, _⟩
        · simp at hv; exact ⟨_, _, _, hv⟩
        · simp at hv; exact ⟨_, _, _, hv⟩
      obtain ⟨N, hN, hs, hft, hlc, hcap, hnil⟩ := open_strs Tryz.underlying30 Tryz.underlying9 (by kernel_rfl) q2
      obtain ⟨S, hS, hK, hF, hM, _⟩ := open_itms Tryz.underlying31 Tryz.underlying54 Tryz.underlying52 (by kernel_rfl) rfl rfl rfl rfl rfl rfl (by kernel_rfl) (by kernel_rfl) (by kernel_rfl) (by kernel_rfl) (by kernel_rfl) (by kernel_rfl) Tryz.underlying2 Tryz.underlying9 Tryz.underlying2 Tryz.underlying2 Tryz.underlying9 q3
      subst hN hS
      exact ⟨⟨k0, nm, N, S, dn, ct, sk⟩, na, nc, sa, sc, ⟨by simpa using e0, by simpa using e1, by simpa using e2, by simpa using e3, by simpa using e4, by simpa using e5, by simpa using e6⟩, hs, hft, hlc, hcap, hnil, hK, hF, hM, hnm⟩
  haveI : Inhabited SV := ⟨⟨0, ⟨#[]⟩, [], [], false, 0, 0⟩⟩
  obtain ⟨q, hq⟩ := choose_lt each
  have spot : 0 < len → ad.spot = none := by
    intro h0
    obtain ⟨_, _, _, _, ⟨e0, _⟩, _⟩ := hq 0 h0
    simpa [Addr.add] using World.cell?_spot e0
  refine ⟨(List.range len).map q, by simp, ?_, by omega, by omega, fun h => by cases h⟩
  intro j hj
  have hj' : j < len := by simpa using hj
  obtain ⟨b, o, sp⟩ := ad
  have hsp := spot (by omega)
  simp at hsp
  subst hsp
  obtain ⟨na, nc, sa, sc, ⟨e0, e1, e2, e3, e4, e5, e6⟩, ht⟩ := hq j hj'
  have hadd : ∀ q, ((⟨b, o, none⟩ : Addr).add q) = ⟨b, o + q, none⟩ := by
    intro q
    unfold Addr.add
    by_cases hq : q = 0 <;> simp [hq]
  rw [hadd] at e0 e1 e2 e3 e4 e5 e6
  have hg : ((List.range len).map q)[j] = q j := by simp
  rw [hg]
  exact ⟨b, o, na, nc, sa, sc, rfl, World.block_lt_of_cell? w _ e0, ⟨e0, e1, e2, e3, e4, e5, e6⟩, ht⟩
end Go.Proofs.YtpggjgilklpncaaGreatDoor

/-
  From the row's condition on the listed variables to what the walks ask of them.
-/
namespace Go.Proofs.YtpggjgilklpncaaGreatDoor
open Go.ChangeShapes Go.WideShapes Go.ChangeAt Go.RowKit

theorem gPow : (Tryz.prog.globalNamed "internal/strconv.uint64pow10").bind (fun g => (Tryz.prog.globals[g]?).map (·.type)) = some 149 := by kernel_rfl
theorem pow_data : (Rows.laid_internal_strconv_uint64pow10 : DataW Unit) = Lib.tabData .u64 Lib.pow10Tab := by kernel_rfl
theorem pow_of {W : World} {rest : List (String × DataW Unit)} (h : laidMet Tryz.prog (("internal/strconv.uint64pow10", Rows.laid_internal_strconv_uint64pow10) :: rest) W) : PowAt W := by
  rw [pow_data] at h
  obtain ⟨g, hg, ht⟩ := Option.bind_eq_some_iff.1 gPow
  exact Lib.tabIs_of_head hg ht Tryz.underlying149 Tryz.underlying116 (by kernel_rfl) (by kernel_rfl) h

theorem star_name : "*" ++ "errors.errorString" = "*errors.errorString" := by decide
theorem row_err (u : TypeId) (h : Tryz.prog.typeName? 3 u = some "*errors.errorString") : u = 144 :=
  typeName_ptr_named (nm := "errors.errorString") (by rw [star_name]; kernel_rfl) (by kernel_rfl) (by decide) u (by rw [star_name]; exact h)
theorem gRange : (Tryz.prog.globalNamed "strconv.ErrRange").bind (fun g => (Tryz.prog.globals[g]?).map (·.type)) = some 100 := by kernel_rfl
theorem gSyntax : (Tryz.prog.globalNamed "strconv.ErrSyntax").bind (fun g => (Tryz.prog.globals[g]?).map (·.type)) = some 100 := by kernel_rfl
theorem err_of {W : World} {rest : List (String × DataW Unit)} (h : laidMet Tryz.prog (("strconv.ErrRange", Rows.laid_strconv_ErrRange) :: ("strconv.ErrSyntax", Rows.laid_strconv_ErrSyntax) :: rest) W) : ErrAt W := by
  obtain ⟨g, hg, ht⟩ := Option.bind_eq_some_iff.1 gRange
  obtain ⟨g2, hg2, ht2⟩ := Option.bind_eq_some_iff.1 gSyntax
  have h2 := h.tail
  unfold Rows.laid_strconv_ErrRange at h
  unfold Rows.laid_strconv_ErrSyntax at h2
  obtain ⟨a, s, hv, _⟩ := laid_sentinel h hg ht Tryz.underlying100 row_err Tryz.underlying144 Tryz.underlying146 rfl rfl Tryz.underlying9 (by kernel_rfl) (by kernel_rfl)
  obtain ⟨a2, s2, hv2, _⟩ := laid_sentinel h2 hg2 ht2 Tryz.underlying100 row_err Tryz.underlying144 Tryz.underlying146 rfl rfl Tryz.underlying9 (by kernel_rfl) (by kernel_rfl)
  exact ⟨⟨_, _, hv2⟩, ⟨_, _, hv⟩⟩

end Go.Proofs.YtpggjgilklpncaaGreatDoor
