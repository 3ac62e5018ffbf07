/-
  A part of the proof: RkI6, RkS3, RkS4, Open1, Open5, Open2, Laid.
-/
import Derived.Test.YthgbjnchhaoceaaGreatDoorPart16
import Derived.Test.YthgbjnchhaoceaaGreatDoorPart14
import Derived.Test.YthgbjnchhaoceaaGreatDoorPart3
import Derived.Test.YthgbjnchhaoceaaGreatDoorPart15
import Derived.Deep.SlicePairs
import Derived.Test.YthgbjnchhaoceaaGreatDoorPart9
import Derived.Lib.SmallJoins
import Derived.Test.YthgbjnchhaoceaaGreatDoorPart10
import Derived.LaidMore
import Derived.Stop.LaidErr
import Derived.Lib.LaidTab
import Derived.Stop.Joined
import Derived.ProofKit
import Derived.LaidLaws

/-
  The contracts of the program's Reckon and Passes.
-/
namespace Go.Proofs.YthgbjnchhaoceaaGreatDoor
open Go.ChangeShapes Go.WideShapes Go.ChangeAt Go.RowKit
attribute [local go_sem ↓] Go.wp_at_zero Go.wp_at_succ
attribute [local simp] World.cell?_alloc_past World.cell?_alloc_at World.frozen?_alloc_at cell_far cell_off cell_here World.frozen?_alloc_past

theorem ok_short {x y : Int} {t : ByteArray} (h : okB x y t = true) : t.size ≤ maxLen := by
  unfold okB at h
  unfold maxLen
  (repeat' split at h) <;> first
    | (simp only [Bool.and_eq_true] at h; have := empty_bytes h.2; subst this; show (0 : Nat) ≤ _; omega)
    | (simp only [Bool.and_eq_true, decide_eq_true_eq] at h; omega)
    | cases h
theorem ent_reckon : ∀ (xs : Array Value) (w : World), (callFunc 38 xs).run Tryz.prog w = .ok (.enter 38 xs) w := fun _ _ => by kernel_rfl
set_option maxRecDepth 100000 in
set_option maxHeartbeats 2000000 in
theorem reckon1_impl (a : Option Addr) (cap : Nat) (l : List TI) (n : Nat) (hn : l.length = n) (ca : Option Addr) (cc : Nat) (C : List ByteArray) (m : Nat) (hm : C.length = m) (ra : Option Addr) (rc : Nat) (R : List CT) (q : Nat) (hq : R.length = q) (B0 B1 B2 B3 : Nat) (w : World) (hB : B3 < w.heap.size)
    (h0 : w.cell? ⟨B0, 0, none⟩ = some (.slice a n cap)) (h1 : w.cell? ⟨B1, 0, none⟩ = some (.slice ca m cc)) (h2 : w.cell? ⟨B2, 0, none⟩ = some (.slice ra q rc))
    (k0 : w.cell? ⟨B3, 0, none⟩ = some (.int .i64 0)) (k1 : w.cell? ⟨B3, 1, none⟩ = some (.int .i64 0)) (k2 : w.cell? ⟨B3, 2, none⟩ = some (.string ⟨#[]⟩))
    (f0 : w.frozen? ⟨B3, 0, none⟩ = false) (f1 : w.frozen? ⟨B3, 1, none⟩ = false) (f2 : w.frozen? ⟨B3, 2, none⟩ = false)
    (hrow : ItmAt w a l) (hfit : FitI l) (hfit2 : FitItm l) (hnl : n ≤ maxLen) (hC : StrsAt w ca C) (hml : m ≤ maxLen) (hR : RowAt w ra R) (hRf : Fit R) (hql : q ≤ maxLen) (hp : PowAt w) (he : ErrAt w) (r : CK × Int) (hr : reckR C R l = r) :
    Calls Tryz.prog 38 #[.pointer (some ⟨B0, 0, none⟩), .pointer (some ⟨B1, 0, none⟩), .pointer (some ⟨B2, 0, none⟩), .pointer (some ⟨B3, 0, none⟩)] w fun e w2 => ((r.2 = 0 ∧ e = .returned (.tuple #[])) ∨ (r.2 ≠ 0 ∧ e = .panicked (gaveUp r.2))) ∧ Keep B3 w w2 ∧ w2.cell? ⟨B3, 0, none⟩ = some (.int .i64 r.1.1) ∧ w2.cell? ⟨B3, 1, none⟩ = some (.int .i64 r.1.2.1) ∧ w2.cell? ⟨B3, 2, none⟩ = some (.string r.1.2.2) := by
  have HC : Hid (Calls Tryz.prog 39 #[.slice a n cap, .slice ca m cc, .slice ra q rc] w fun e w' => OutC r.1.1 r.1.2.1 r.1.2.2 r.2 e ∧ Below w.heap.size w w') := comes_impl a cap l n hn ca cc C m hm ra rc R q hq w hrow hfit hfit2 hnl hC hml hR hRf hql hp he r hr
  have HZ : Hid (r.2 ≠ 0 → r.1 = zeroC) := by
    have : r.2 ≠ 0 → r.1 = zeroC := fun h => by rw [← hr] at h ⊢; exact reck_zero h
    exact this
  clear hn hm hq hrow hfit hfit2 hnl hC hml hR hRf hql hp he hr
  obtain ⟨⟨r1, r2, r3⟩, f⟩ := r
  dsimp only at HZ ⊢
  go_enter Tryz.func38, Tryz.ntmps38
  go_wp2_with fail
  refine HC.out.mono ?_
  rintro e w1 ⟨hO, hb1⟩
  have s0 := (hb1.cell (p := ⟨B3, 0, none⟩) hB).trans k0
  have s1 := (hb1.cell (p := ⟨B3, 1, none⟩) hB).trans k1
  have s2 := (hb1.cell (p := ⟨B3, 2, none⟩) hB).trans k2
  have t0 := (hb1.frozen (p := ⟨B3, 0, none⟩) hB).trans f0
  have t1 := (hb1.frozen (p := ⟨B3, 1, none⟩) hB).trans f1
  have t2 := (hb1.frozen (p := ⟨B3, 2, none⟩) hB).trans f2
  have hk : Keep B3 w w1 := Keep.ofBelow hb1
  clear k0 k1 k2 f0 f1 f2 hb1
  rcases hO with ⟨rfl, rfl⟩ | ⟨hf, rfl⟩
  · go_wp2
    exact ⟨rfl, .tuple #[], by simp [results, Tryz.results38], rfl, ((hk.setCell (.inl rfl) _).setCell (.inl rfl) _).setCell (.inl rfl) _, by simp [s0], by simp [s1], by simp [s2]⟩
  · obtain ⟨rfl, rfl, rfl⟩ : r1 = 0 ∧ r2 = 0 ∧ r3 = ⟨#[]⟩ := by
      have := HZ.out hf
      unfold zeroC at this
      simp only [Prod.mk.injEq] at this
      exact this
    go_wp2
    exact ⟨rfl, .inr ⟨hf, rfl⟩, hk, s0, s1, s2⟩
set_option maxRecDepth 100000 in
set_option maxHeartbeats 4000000 in
theorem reckon_impl (a : Option Addr) (cap : Nat) (l : List TI) (n : Nat) (hn : l.length = n) (ca : Option Addr) (cc : Nat) (C : List ByteArray) (m : Nat) (hm : C.length = m) (ra : Option Addr) (rc : Nat) (R : List CT) (q : Nat) (hq : R.length = q) (w : World) (hrow : ItmAt w a l) (hfit : FitI l) (hfit2 : FitItm l) (hnl : n ≤ maxLen) (hC : StrsAt w ca C) (hml : m ≤ maxLen) (hR : RowAt w ra R) (hRf : Fit R) (hql : q ≤ maxLen) (hp : PowAt w) (he : ErrAt w) (r : CK × Int) (hr : reckR C R l = r) :
    Calls Tryz.prog 8 #[.slice a n cap, .slice ca m cc, .slice ra q rc] w fun e w' => e = .returned (.tuple #[.agg #[.int .i64 r.1.1, .int .i64 r.1.2.1, .string r.1.2.2], .int .i64 r.2]) ∧ Below w.heap.size w w' := by
  have hmf : ∀ (fn : Fn) (first cap : Array Value) (w : World), (Instr.makeFunc fn first cap).run Tryz.prog w = .ok (.func fn first cap) w := fun _ _ _ _ => rfl
  obtain ⟨V, hV⟩ : ∃ V, V = ((((w.alloc (.cells #[.slice a n cap] 24)).alloc (.cells #[.slice ca m cc] 25)).alloc (.cells #[.slice ra q rc] 26)).alloc (.cells #[.int .i64 0, .int .i64 0, .string ⟨#[]⟩] 30)).alloc (.cells #[.int .i64 0, .int .i64 0, .string ⟨#[]⟩] 30) := ⟨_, rfl⟩
  obtain ⟨B0, hB0⟩ : ∃ B, w.heap.size = B := ⟨_, rfl⟩
  obtain ⟨B1, hB1⟩ : ∃ B, w.heap.size + 1 = B := ⟨_, rfl⟩
  obtain ⟨B2, hB2⟩ : ∃ B, w.heap.size + 1 + 1 = B := ⟨_, rfl⟩
  obtain ⟨B3, hB3⟩ : ∃ B, w.heap.size + 1 + 1 + 1 = B := ⟨_, rfl⟩
  obtain ⟨B4, hB4⟩ : ∃ B, w.heap.size + 1 + 1 + 1 + 1 = B := ⟨_, rfl⟩
  have hbV : Below w.heap.size w V := by rw [hV]; go_grown
  have hVs : B4 < V.heap.size := by rw [hV, ← hB4]; simp
  have v0 : V.cell? ⟨B0, 0, none⟩ = some (.slice a n cap) := by
    have hbA : Below (w.alloc (.cells #[.slice a n cap] 24)).heap.size (w.alloc (.cells #[.slice a n cap] 24)) V := by rw [hV]; go_grown
    rw [hbA.cell (p := ⟨B0, 0, none⟩) (by show B0 < _; simp; omega), ← hB0]
    simp
  have v1 : V.cell? ⟨B1, 0, none⟩ = some (.slice ca m cc) := by rw [hV, ← hB1]; simp
  have v2 : V.cell? ⟨B2, 0, none⟩ = some (.slice ra q rc) := by rw [hV, ← hB2]; simp
  have z0 : V.cell? ⟨B3, 0, none⟩ = some (.int .i64 0) := by rw [hV, ← hB3]; simp
  have z1 : V.cell? ⟨B3, 1, none⟩ = some (.int .i64 0) := by rw [hV, ← hB3]; simp
  have z2 : V.cell? ⟨B3, 2, none⟩ = some (.string ⟨#[]⟩) := by rw [hV, ← hB3]; simp
  have y0 : V.frozen? ⟨B3, 0, none⟩ = false := by rw [hV, ← hB3]; simp
  have y1 : V.frozen? ⟨B3, 1, none⟩ = false := by rw [hV, ← hB3]; simp
  have y2 : V.frozen? ⟨B3, 2, none⟩ = false := by rw [hV, ← hB3]; simp
  have k0 : V.cell? ⟨B4, 0, none⟩ = some (.int .i64 0) := by rw [hV, ← hB4]; simp
  have k1 : V.cell? ⟨B4, 1, none⟩ = some (.int .i64 0) := by rw [hV, ← hB4]; simp
  have k2 : V.cell? ⟨B4, 2, none⟩ = some (.string ⟨#[]⟩) := by rw [hV, ← hB4]; simp
  have f0 : V.frozen? ⟨B4, 0, none⟩ = false := by rw [hV, ← hB4]; simp
  have f1 : V.frozen? ⟨B4, 1, none⟩ = false := by rw [hV, ← hB4]; simp
  have f2 : V.frozen? ⟨B4, 2, none⟩ = false := by rw [hV, ← hB4]; simp
  obtain ⟨V1, hV1⟩ : ∃ V1, V1 = V.alloc (.cells #[.int .i64 0] 2) := ⟨_, rfl⟩
  have hb1 : Below V.heap.size V V1 := by rw [hV1]; exact (Below.refl _ _).alloc (Nat.le_refl _) _
  have hs1 : V.heap.size < V1.heap.size := by rw [hV1]; simp
  have u0 : V1.cell? ⟨V.heap.size, 0, none⟩ = some (.int .i64 0) := by rw [hV1]; simp
  have u1 : V1.frozen? ⟨V.heap.size, 0, none⟩ = false := by rw [hV1]; simp
  have hx1 := chain hbV hb1
  have lt0 : B0 < V.heap.size := by omega
  have lt1 : B1 < V.heap.size := by omega
  have lt2 : B2 < V.heap.size := by omega
  have lt3 : B3 < V.heap.size := by omega
  have HCL : Hid (Calls Tryz.prog 38 #[.pointer (some ⟨B0, 0, none⟩), .pointer (some ⟨B1, 0, none⟩), .pointer (some ⟨B2, 0, none⟩), .pointer (some ⟨B4, 0, none⟩)] (V.alloc (.cells #[.int .i64 0] 2)) fun e w2 => ((r.2 = 0 ∧ e = .returned (.tuple #[])) ∨ (r.2 ≠ 0 ∧ e = .panicked (gaveUp r.2))) ∧ Keep B4 V1 w2 ∧ w2.cell? ⟨B4, 0, none⟩ = some (.int .i64 r.1.1) ∧ w2.cell? ⟨B4, 1, none⟩ = some (.int .i64 r.1.2.1) ∧ w2.cell? ⟨B4, 2, none⟩ = some (.string r.1.2.2)) := by
    rw [← hV1]
    exact reckon1_impl a cap l n hn ca cc C m hm ra rc R q hq B0 B1 B2 B4 V1 (by omega)
      ((hb1.cell (p := ⟨B0, 0, none⟩) lt0).trans v0) ((hb1.cell (p := ⟨B1, 0, none⟩) lt1).trans v1) ((hb1.cell (p := ⟨B2, 0, none⟩) lt2).trans v2)
      ((hb1.cell (p := ⟨B4, 0, none⟩) hVs).trans k0) ((hb1.cell (p := ⟨B4, 1, none⟩) hVs).trans k1) ((hb1.cell (p := ⟨B4, 2, none⟩) hVs).trans k2)
      ((hb1.frozen (p := ⟨B4, 0, none⟩) hVs).trans f0) ((hb1.frozen (p := ⟨B4, 1, none⟩) hVs).trans f1) ((hb1.frozen (p := ⟨B4, 2, none⟩) hVs).trans f2)
      (hrow.below hx1) hfit hfit2 hnl (hC.below hx1) hml (hR.below hx1) hRf hql (hp.below hx1) (he.below hx1) r hr
  have HF : Hid (Calls Tryz.prog 37 #[.func (.func 38) #[] #[.pointer (some ⟨B0, 0, none⟩), .pointer (some ⟨B1, 0, none⟩), .pointer (some ⟨B2, 0, none⟩), .pointer (some ⟨B4, 0, none⟩)]] V fun e w' => e = .returned (.int .i64 r.2) ∧ Below w.heap.size w w' ∧ (w'.cell? ⟨B4, 0, none⟩ = some (.int .i64 r.1.1) ∧ w'.cell? ⟨B4, 1, none⟩ = some (.int .i64 r.1.2.1) ∧ w'.cell? ⟨B4, 2, none⟩ = some (.string r.1.2.2)) ∧ (w'.cell? ⟨B3, 0, none⟩ = some (.int .i64 0) ∧ w'.cell? ⟨B3, 1, none⟩ = some (.int .i64 0) ∧ w'.cell? ⟨B3, 2, none⟩ = some (.string ⟨#[]⟩)) ∧ w'.frozen? ⟨B3, 0, none⟩ = false ∧ w'.frozen? ⟨B3, 1, none⟩ = false ∧ w'.frozen? ⟨B3, 2, none⟩ = false) := by
    refine (faultof_impl 38 ent_reckon _ V r.2 (fun w2 => Keep B4 V1 w2 ∧ w2.cell? ⟨B4, 0, none⟩ = some (.int .i64 r.1.1) ∧ w2.cell? ⟨B4, 1, none⟩ = some (.int .i64 r.1.2.1) ∧ w2.cell? ⟨B4, 2, none⟩ = some (.string r.1.2.2)) HCL.out ?_).mono ?_
    · rintro w2 ⟨hk, _⟩
      exact ⟨Nat.lt_of_lt_of_le hs1 hk.size, (hk.cell hs1 (by omega)).trans u0, (hk.frozen hs1 (by omega)).trans u1⟩
    · rintro e w' ⟨rfl, w2, W, ⟨hk, q0, q1, q2⟩, hbW, rfl⟩
      have hs2 := hk.size
      have l4 : B4 < w2.heap.size := by omega
      have l3 : B3 < w2.heap.size := by omega
      have hne : V.heap.size ≠ B4 := by omega
      have hne3 : V.heap.size ≠ B3 := by omega
      have hbx : Below w.heap.size w W := chain (hx1.trans (hk.below (by omega) hx1.size)) hbW
      have c3 : ∀ j, W.cell? ⟨B3, j, none⟩ = V.cell? ⟨B3, j, none⟩ := fun j => by
        rw [hbW.cell (p := ⟨B3, j, none⟩) l3, hk.cell (by omega) (by omega), hb1.cell (p := ⟨B3, j, none⟩) lt3]
      have d3 : ∀ j, W.frozen? ⟨B3, j, none⟩ = V.frozen? ⟨B3, j, none⟩ := fun j => by
        rw [hbW.frozen (p := ⟨B3, j, none⟩) l3, hk.frozen (by omega) (by omega), hb1.frozen (p := ⟨B3, j, none⟩) lt3]
      refine ⟨rfl, hbx.setCell (by show w.heap.size ≤ V.heap.size; exact hbV.size) _, ⟨?_, ?_, ?_⟩, ⟨?_, ?_, ?_⟩, ?_, ?_, ?_⟩
      · rw [cell_far _ _ _ _ _ _ (by omega), hbW.cell (p := ⟨B4, 0, none⟩) l4]; exact q0
      · rw [cell_far _ _ _ _ _ _ (by omega), hbW.cell (p := ⟨B4, 1, none⟩) l4]; exact q1
      · rw [cell_far _ _ _ _ _ _ (by omega), hbW.cell (p := ⟨B4, 2, none⟩) l4]; exact q2
      · rw [cell_far _ _ _ _ _ _ (by omega), c3]; exact z0
      · rw [cell_far _ _ _ _ _ _ (by omega), c3]; exact z1
      · rw [cell_far _ _ _ _ _ _ (by omega), c3]; exact z2
      · simpa [d3] using y0
      · simpa [d3] using y1
      · simpa [d3] using y2
  have hwB3 : w.heap.size ≤ B3 := by omega
  clear HCL hrow hfit hfit2 hnl hC hml hR hRf hql hp he hr hn hm hq v0 v1 v2 z0 z1 z2 y0 y1 y2 k0 k1 k2 f0 f1 f2 u0 u1 hs1 hb1 hx1 hV1 lt0 lt1 lt2 lt3
  obtain ⟨⟨r1, r2, r3⟩, f⟩ := r
  dsimp only at HF ⊢
  have HB0 : Hid (w.heap.size = B0) := hB0
  have HB1 : Hid (w.heap.size + 1 = B1) := hB1
  have HB2 : Hid (w.heap.size + 1 + 1 = B2) := hB2
  have HB3 : Hid (w.heap.size + 1 + 1 + 1 = B3) := hB3
  have HB4 : Hid (w.heap.size + 1 + 1 + 1 + 1 = B4) := hB4
  clear hB0 hB1 hB2 hB3 hB4
  go_enter Tryz.func8, Tryz.ntmps8
  go_wp2_with fail
  rw [← hV, HB4.out, HB3.out, HB2.out, HB1.out, HB0.out]
  refine HF.out.mono ?_
  rintro e U ⟨rfl, hbU, ⟨q0, q1, q2⟩, ⟨s0, s1, s2⟩, t0, t1, t2⟩
  go_wp2
  exact bodyPost_ret (v := .tuple #[.agg #[.int .i64 r1, .int .i64 r2, .string r3], .int .i64 f]) (by simp [results, Tryz.results8, go_sem, s0, s1, s2]) rfl ⟨rfl, ((hbU.setCell hwB3 _).setCell hwB3 _).setCell hwB3 _⟩
theorem ent_passes : ∀ (xs : Array Value) (w : World), (callFunc 40 xs).run Tryz.prog w = .ok (.enter 40 xs) w := fun _ _ => by kernel_rfl
set_option maxRecDepth 100000 in
set_option maxHeartbeats 2000000 in
theorem passes1_impl (a : Option Addr) (cap : Nat) (l : List TI) (n : Nat) (hn : l.length = n) (ca : Option Addr) (cc : Nat) (C : List ByteArray) (m : Nat) (hm : C.length = m) (ra : Option Addr) (rc : Nat) (R : List CT) (q : Nat) (hq : R.length = q) (B0 B1 B2 B3 : Nat) (w : World) (hB : B3 < w.heap.size)
    (h0 : w.cell? ⟨B0, 0, none⟩ = some (.slice a n cap)) (h1 : w.cell? ⟨B1, 0, none⟩ = some (.slice ca m cc)) (h2 : w.cell? ⟨B2, 0, none⟩ = some (.slice ra q rc))
    (k0 : w.cell? ⟨B3, 0, none⟩ = some (.bool false)) (f0 : w.frozen? ⟨B3, 0, none⟩ = false)
    (hrow : ItmAt w a l) (hfit : FitI l) (hfit2 : FitItm l) (hnl : n ≤ maxLen) (hC : StrsAt w ca C) (hml : m ≤ maxLen) (hR : RowAt w ra R) (hRf : Fit R) (hql : q ≤ maxLen) (hp : PowAt w) (he : ErrAt w) (r : Bool × Int) (hr : passR C R l = r) :
    Calls Tryz.prog 40 #[.pointer (some ⟨B0, 0, none⟩), .pointer (some ⟨B1, 0, none⟩), .pointer (some ⟨B2, 0, none⟩), .pointer (some ⟨B3, 0, none⟩)] w fun e w2 => ((r.2 = 0 ∧ e = .returned (.tuple #[])) ∨ (r.2 ≠ 0 ∧ e = .panicked (gaveUp r.2))) ∧ Keep B3 w w2 ∧ w2.cell? ⟨B3, 0, none⟩ = some (.bool r.1) := by
  obtain ⟨⟨⟨x, y, t⟩, f⟩, hV⟩ : ∃ v, reckR C R l = v := ⟨_, rfl⟩
  have HC : Hid (Calls Tryz.prog 39 #[.slice a n cap, .slice ca m cc, .slice ra q rc] w fun e w' => OutC x y t f e ∧ Below w.heap.size w w') := comes_impl a cap l n hn ca cc C m hm ra rc R q hq w hrow hfit hfit2 hnl hC hml hR hRf hql hp he _ hV
  have HOK : Hid (okB x y t = true) := by
    have := reck_ok C R l
    rw [hV] at this
    exact this
  have htl : t.size ≤ maxLen := ok_short HOK.out
  have HT : Hid (t.size ≤ maxLen) := htl
  have HV : Hid ((if f ≠ 0 then (false, f) else if x ≠ 3 ∧ x ≠ 0 then (false, 3) else (sameB x y t 3 1 ⟨#[]⟩, (0 : Int))) = r) := by
    have : (if f ≠ 0 then (false, f) else if x ≠ 3 ∧ x ≠ 0 then (false, 3) else (sameB x y t 3 1 ⟨#[]⟩, (0 : Int))) = r := by
      rw [← hr]
      unfold passR
      rw [hV]
    exact this
  clear hn hm hq hrow hfit hfit2 hnl hC hml hR hRf hql hp he hr hV htl
  go_enter Tryz.func40, Tryz.ntmps40
  go_wp2_with fail
  refine HC.out.mono ?_
  rintro e w1 ⟨hO, hb1⟩
  have s0 := (hb1.cell (p := ⟨B3, 0, none⟩) hB).trans k0
  have t0 := (hb1.frozen (p := ⟨B3, 0, none⟩) hB).trans f0
  have hk : Keep B3 w w1 := Keep.ofBelow hb1
  have hB1' : B3 < w1.heap.size := Nat.lt_of_lt_of_le hB hb1.size
  clear k0 f0 hb1
  rcases hO with ⟨rfl, rfl⟩ | ⟨hf, rfl⟩
  · by_cases hk3 : x = 3 ∨ x = 0
    · have H3 : Hid (threeB x y t = true) := by
        have : threeB x y t = true := by unfold threeB; rw [HOK.out]; rcases hk3 with h | h <;> simp [h]
        exact this
      obtain ⟨b, hb⟩ : ∃ b, sameB x y t 3 1 ⟨#[]⟩ = b := ⟨_, rfl⟩
      have HB : Hid (sameB x y t 3 1 ⟨#[]⟩ = b) := hb
      obtain rfl : (b, (0 : Int)) = r := by
        have := HV.out
        rw [if_neg (by simp), if_neg (by omega), hb] at this
        exact this
      clear HV hb hk3
      go_wp2_with fail
      refine (answer_impl x y t (rankI x y) true H3.out (by simp) _ HT.out).mono ?_
      rintro e w2 ⟨rfl, hb2⟩
      have hb12 : Below w1.heap.size w1 w2 := chain ((Below.refl w1.heap.size w1).alloc (Nat.le_refl _) _) hb2
      have hl2 : w1.heap.size < (w1.alloc (.cells #[.int .i64 x, .int .i64 y, .string t] 30)).heap.size := by simp
      have d0 : w2.cell? ⟨w1.heap.size, 0, none⟩ = some (.int .i64 x) := by rw [hb2.cell (p := ⟨w1.heap.size, 0, none⟩) hl2]; simp
      have d1 : w2.cell? ⟨w1.heap.size, 1, none⟩ = some (.int .i64 y) := by rw [hb2.cell (p := ⟨w1.heap.size, 1, none⟩) hl2]; simp
      have d2 : w2.cell? ⟨w1.heap.size, 2, none⟩ = some (.string t) := by rw [hb2.cell (p := ⟨w1.heap.size, 2, none⟩) hl2]; simp
      have s2 := (hb12.cell (p := ⟨B3, 0, none⟩) hB1').trans s0
      have t2 := (hb12.frozen (p := ⟨B3, 0, none⟩) hB1').trans t0
      have hk2 : Keep B3 w w2 := hk.trans (Keep.ofBelow hb12)
      have hB2' : B3 < w2.heap.size := Nat.lt_of_lt_of_le hB1' hb12.size
      clear hb12 hb2 s0 t0 hk hl2
      go_wp2_with fail
      refine (holds_implb x y t b HB.out _).mono ?_
      rintro e w3 ⟨rfl, hb3⟩
      have s3 := (hb3.cell (p := ⟨B3, 0, none⟩) hB2').trans s2
      have t3 := (hb3.frozen (p := ⟨B3, 0, none⟩) hB2').trans t2
      have hk3 : Keep B3 w w3 := hk2.trans (Keep.ofBelow hb3)
      clear d0 d1 d2 s2 t2 hk2 hb3
      go_wp2
      exact ⟨rfl, .tuple #[], by simp [results, Tryz.results40], by first | exact rfl | exact .inl ⟨rfl, rfl⟩, hk3.setCell (.inl rfl) _, by simp [s3]⟩
    · have H3 : Hid (threeB x y t = false) := by
        have : threeB x y t = false := by
          unfold threeB; rw [HOK.out]
          have h1 : (x == 3) = false := by simp; omega
          have h2 : (x == 0) = false := by simp; omega
          rw [h1, h2]; rfl
        exact this
      obtain rfl : (false, (3 : Int)) = r := by
        have := HV.out
        rw [if_neg (by simp), if_pos (by omega)] at this
        exact this
      clear HV hk3
      go_wp2_with fail
      refine (answer_impl x y t 0 false H3.out (by simp) _ HT.out).mono ?_
      rintro e w2 ⟨rfl, hb2⟩
      have hb12 : Below w1.heap.size w1 w2 := chain ((Below.refl w1.heap.size w1).alloc (Nat.le_refl _) _) hb2
      have hl2 : w1.heap.size < (w1.alloc (.cells #[.int .i64 x, .int .i64 y, .string t] 30)).heap.size := by simp
      have d0 : w2.cell? ⟨w1.heap.size, 0, none⟩ = some (.int .i64 x) := by rw [hb2.cell (p := ⟨w1.heap.size, 0, none⟩) hl2]; simp
      have d1 : w2.cell? ⟨w1.heap.size, 1, none⟩ = some (.int .i64 y) := by rw [hb2.cell (p := ⟨w1.heap.size, 1, none⟩) hl2]; simp
      have d2 : w2.cell? ⟨w1.heap.size, 2, none⟩ = some (.string t) := by rw [hb2.cell (p := ⟨w1.heap.size, 2, none⟩) hl2]; simp
      have s2 := (hb12.cell (p := ⟨B3, 0, none⟩) hB1').trans s0
      have t2 := (hb12.frozen (p := ⟨B3, 0, none⟩) hB1').trans t0
      have hk2 : Keep B3 w w2 := hk.trans (Keep.ofBelow hb12)
      have hB2' : B3 < w2.heap.size := Nat.lt_of_lt_of_le hB1' hb12.size
      clear hb12 hb2 s0 t0 hk hl2
      go_wp2
      exact ⟨rfl, by first | exact rfl | exact .inr ⟨by decide, rfl⟩, hk2, s2⟩
  · obtain rfl : (false, f) = r := by
      have := HV.out
      rw [if_pos hf] at this
      exact this
    go_wp2
    exact ⟨rfl, by first | exact rfl | exact .inr ⟨hf, rfl⟩, hk, s0⟩
set_option maxRecDepth 100000 in
set_option maxHeartbeats 4000000 in
theorem passes_impl (a : Option Addr) (cap : Nat) (l : List TI) (n : Nat) (hn : l.length = n) (ca : Option Addr) (cc : Nat) (C : List ByteArray) (m : Nat) (hm : C.length = m) (ra : Option Addr) (rc : Nat) (R : List CT) (q : Nat) (hq : R.length = q) (w : World) (hrow : ItmAt w a l) (hfit : FitI l) (hfit2 : FitItm l) (hnl : n ≤ maxLen) (hC : StrsAt w ca C) (hml : m ≤ maxLen) (hR : RowAt w ra R) (hRf : Fit R) (hql : q ≤ maxLen) (hp : PowAt w) (he : ErrAt w) (r : Bool × Int) (hr : passR C R l = r) :
    Calls Tryz.prog 9 #[.slice a n cap, .slice ca m cc, .slice ra q rc] w fun e w' => e = .returned (.tuple #[.bool r.1, .int .i64 r.2]) ∧ Below w.heap.size w w' := by
  have hmf : ∀ (fn : Fn) (first cap : Array Value) (w : World), (Instr.makeFunc fn first cap).run Tryz.prog w = .ok (.func fn first cap) w := fun _ _ _ _ => rfl
  obtain ⟨V, hV⟩ : ∃ V, V = (((w.alloc (.cells #[.slice a n cap] 24)).alloc (.cells #[.slice ca m cc] 25)).alloc (.cells #[.slice ra q rc] 26)).alloc (.cells #[.bool false] 4) := ⟨_, rfl⟩
  obtain ⟨B0, hB0⟩ : ∃ B, w.heap.size = B := ⟨_, rfl⟩
  obtain ⟨B1, hB1⟩ : ∃ B, w.heap.size + 1 = B := ⟨_, rfl⟩
  obtain ⟨B2, hB2⟩ : ∃ B, w.heap.size + 1 + 1 = B := ⟨_, rfl⟩
  obtain ⟨B4, hB4⟩ : ∃ B, w.heap.size + 1 + 1 + 1 = B := ⟨_, rfl⟩
  have hbV : Below w.heap.size w V := by rw [hV]; go_grown
  have hVs : B4 < V.heap.size := by rw [hV, ← hB4]; simp
  have v0 : V.cell? ⟨B0, 0, none⟩ = some (.slice a n cap) := by
    have hbA : Below (w.alloc (.cells #[.slice a n cap] 24)).heap.size (w.alloc (.cells #[.slice a n cap] 24)) V := by rw [hV]; go_grown
    rw [hbA.cell (p := ⟨B0, 0, none⟩) (by show B0 < _; simp; omega), ← hB0]
    simp
  have v1 : V.cell? ⟨B1, 0, none⟩ = some (.slice ca m cc) := by rw [hV, ← hB1]; simp
  have v2 : V.cell? ⟨B2, 0, none⟩ = some (.slice ra q rc) := by rw [hV, ← hB2]; simp
  have k0 : V.cell? ⟨B4, 0, none⟩ = some (.bool false) := by rw [hV, ← hB4]; simp
  have f0 : V.frozen? ⟨B4, 0, none⟩ = false := by rw [hV, ← hB4]; simp
  obtain ⟨V1, hV1⟩ : ∃ V1, V1 = V.alloc (.cells #[.int .i64 0] 2) := ⟨_, rfl⟩
  have hb1 : Below V.heap.size V V1 := by rw [hV1]; exact (Below.refl _ _).alloc (Nat.le_refl _) _
  have hs1 : V.heap.size < V1.heap.size := by rw [hV1]; simp
  have u0 : V1.cell? ⟨V.heap.size, 0, none⟩ = some (.int .i64 0) := by rw [hV1]; simp
  have u1 : V1.frozen? ⟨V.heap.size, 0, none⟩ = false := by rw [hV1]; simp
  have hx1 := chain hbV hb1
  have lt0 : B0 < V.heap.size := by omega
  have lt1 : B1 < V.heap.size := by omega
  have lt2 : B2 < V.heap.size := by omega
  have HCL : Hid (Calls Tryz.prog 40 #[.pointer (some ⟨B0, 0, none⟩), .pointer (some ⟨B1, 0, none⟩), .pointer (some ⟨B2, 0, none⟩), .pointer (some ⟨B4, 0, none⟩)] (V.alloc (.cells #[.int .i64 0] 2)) fun e w2 => ((r.2 = 0 ∧ e = .returned (.tuple #[])) ∨ (r.2 ≠ 0 ∧ e = .panicked (gaveUp r.2))) ∧ Keep B4 V1 w2 ∧ w2.cell? ⟨B4, 0, none⟩ = some (.bool r.1)) := by
    rw [← hV1]
    exact passes1_impl a cap l n hn ca cc C m hm ra rc R q hq B0 B1 B2 B4 V1 (by omega)
      ((hb1.cell (p := ⟨B0, 0, none⟩) lt0).trans v0) ((hb1.cell (p := ⟨B1, 0, none⟩) lt1).trans v1) ((hb1.cell (p := ⟨B2, 0, none⟩) lt2).trans v2)
      ((hb1.cell (p := ⟨B4, 0, none⟩) hVs).trans k0) ((hb1.frozen (p := ⟨B4, 0, none⟩) hVs).trans f0)
      (hrow.below hx1) hfit hfit2 hnl (hC.below hx1) hml (hR.below hx1) hRf hql (hp.below hx1) (he.below hx1) r hr
  have HF : Hid (Calls Tryz.prog 37 #[.func (.func 40) #[] #[.pointer (some ⟨B0, 0, none⟩), .pointer (some ⟨B1, 0, none⟩), .pointer (some ⟨B2, 0, none⟩), .pointer (some ⟨B4, 0, none⟩)]] V fun e w' => e = .returned (.int .i64 r.2) ∧ Below w.heap.size w w' ∧ w'.cell? ⟨B4, 0, none⟩ = some (.bool r.1)) := by
    refine (faultof_impl 40 ent_passes _ V r.2 (fun w2 => Keep B4 V1 w2 ∧ w2.cell? ⟨B4, 0, none⟩ = some (.bool r.1)) HCL.out ?_).mono ?_
    · rintro w2 ⟨hk, _⟩
      exact ⟨Nat.lt_of_lt_of_le hs1 hk.size, (hk.cell hs1 (by omega)).trans u0, (hk.frozen hs1 (by omega)).trans u1⟩
    · rintro e w' ⟨rfl, w2, W, ⟨hk, q0⟩, hbW, rfl⟩
      have hs2 := hk.size
      have l4 : B4 < w2.heap.size := by omega
      have hne : V.heap.size ≠ B4 := by omega
      have hbx : Below w.heap.size w W := chain (hx1.trans (hk.below (by omega) hx1.size)) hbW
      refine ⟨rfl, hbx.setCell (by show w.heap.size ≤ V.heap.size; exact hbV.size) _, ?_⟩
      rw [cell_far _ _ _ _ _ _ (by omega), hbW.cell (p := ⟨B4, 0, none⟩) l4]; exact q0
  clear HCL hrow hfit hfit2 hnl hC hml hR hRf hql hp he hr hn hm hq v0 v1 v2 k0 f0 u0 u1 hs1 hb1 hx1 hV1 lt0 lt1 lt2
  obtain ⟨r1, f⟩ := r
  dsimp only at HF ⊢
  have HB0 : Hid (w.heap.size = B0) := hB0
  have HB1 : Hid (w.heap.size + 1 = B1) := hB1
  have HB2 : Hid (w.heap.size + 1 + 1 = B2) := hB2
  have HB4 : Hid (w.heap.size + 1 + 1 + 1 = B4) := hB4
  clear hB0 hB1 hB2 hB4
  go_enter Tryz.func9, Tryz.ntmps9
  go_wp2_with fail
  rw [← hV, HB4.out, HB2.out, HB1.out, HB0.out]
  refine HF.out.mono ?_
  rintro e U ⟨rfl, hbU, q0⟩
  go_wp2
  go_ret2
  exact ⟨rfl, hbU⟩
end Go.Proofs.YthgbjnchhaoceaaGreatDoor

/-
  The contract of the model's Reckon.
-/
namespace Go.Proofs.YthgbjnchhaoceaaGreatDoor
open Go.ChangeShapes Go.WideShapes Go.ChangeAt Go.RowKit
attribute [local go_sem ↓] Go.wp_at_zero Go.wp_at_succ
attribute [local simp] World.cell?_alloc_past World.cell?_alloc_at World.frozen?_alloc_at cell_far cell_off cell_here World.frozen?_alloc_past

theorem cells_spec9 (n : Nat) (a : Option Addr) (cap : Nat) (l : List CT) (hn : l.length = n) (w : World) (hrow : RowAt w a l) (hfit : Fit l) (hm : n ≤ maxLen) (b : Bool) (hb : l.all okC = b) :
    Calls Tryz.prog 45 #[.slice a n cap] w fun e w' => e = .returned (.bool b) ∧ Below w.heap.size w w' := by
  subst hn; exact cells_spec a cap l w hrow hfit hm b hb
set_option maxRecDepth 100000 in
set_option maxHeartbeats 8000000 in
theorem reckon_spec (a : Option Addr) (cap : Nat) (l : List TI) (n : Nat) (hn : l.length = n) (ca : Option Addr) (cc : Nat) (C : List ByteArray) (m : Nat) (hm : C.length = m) (ra : Option Addr) (rc : Nat) (R : List CT) (q : Nat) (hq : R.length = q) (w : World) (hrow : ItmAt w a l) (hfit : FitItm l) (hnl : n ≤ maxLen) (hC : StrsAt w ca C) (hml : m ≤ maxLen) (hR : RowAt w ra R) (hRf : Fit R) (hql : q ≤ maxLen) (r : CK × Int) (hr : reckR C R l = r) :
    Calls Tryz.prog 12 #[.slice a n cap, .slice ca m cc, .slice ra q rc] w fun e w' => e = .returned (.tuple #[.agg #[.int .i64 r.1.1, .int .i64 r.1.2.1, .string r.1.2.2], .int .i64 r.2]) ∧ Below w.heap.size w w' := by
  have HN : Hid (l.length = n) := hn
  have HM : Hid (C.length = m) := hm
  have HQ : Hid (R.length = q) := hq
  have HF : Hid (FitItm l) := hfit
  have HNL : Hid (n ≤ maxLen) := hnl
  have HML : Hid (m ≤ maxLen) := hml
  have HQL : Hid (q ≤ maxLen) := hql
  have HWF : Hid (Fit R) := hRf
  obtain ⟨W, hWd⟩ : ∃ W, W = w.alloc (.cells #[.int .i64 0, .int .i64 0, .string ⟨#[]⟩] 30) := ⟨_, rfl⟩
  have hWl : w.heap.size < W.heap.size := by rw [hWd]; simp
  have hWb : Below w.heap.size w W := by rw [hWd]; exact (Below.refl _ _).alloc (Nat.le_refl _) _
  have HZ : Hid ((W.cell? ⟨w.heap.size, 0, none⟩ = some (.int .i64 0) ∧ W.cell? ⟨w.heap.size, 1, none⟩ = some (.int .i64 0) ∧ W.cell? ⟨w.heap.size, 2, none⟩ = some (.string ⟨#[]⟩)) ∧ W.frozen? ⟨w.heap.size, 0, none⟩ = false ∧ W.frozen? ⟨w.heap.size, 1, none⟩ = false ∧ W.frozen? ⟨w.heap.size, 2, none⟩ = false) := by
    have : (W.cell? ⟨w.heap.size, 0, none⟩ = some (.int .i64 0) ∧ W.cell? ⟨w.heap.size, 1, none⟩ = some (.int .i64 0) ∧ W.cell? ⟨w.heap.size, 2, none⟩ = some (.string ⟨#[]⟩)) ∧ W.frozen? ⟨w.heap.size, 0, none⟩ = false ∧ W.frozen? ⟨w.heap.size, 1, none⟩ = false ∧ W.frozen? ⟨w.heap.size, 2, none⟩ = false := by
      rw [hWd]; simp
    exact this
  have HI : Hid (ItmAt W a l) := hrow.below hWb
  have HC : Hid (StrsAt W ca C) := hC.below hWb
  have HW : Hid (RowAt W ra R) := hR.below hWb
  have hn6 := hnl
  have hm6 := hml
  have hq6 := hql
  unfold maxLen at hn6 hm6 hq6
  obtain ⟨b1, h1⟩ : ∃ x, sumB l = x := ⟨_, rfl⟩
  obtain ⟨b2, h2⟩ : ∃ x, hasC C l = x := ⟨_, rfl⟩
  obtain ⟨b4, h4⟩ : ∃ x, R.all okC = x := ⟨_, rfl⟩
  have H1 : Hid (sumB l = b1) := h1
  have H2 : Hid (hasC C l = b2) := h2
  have H4 : Hid (R.all okC = b4) := h4
  have HV : Hid ((if b1 = true ∧ b2 = true ∧ q = m ∧ b4 = true then sumV C R l else (zeroC, 3)) = r) := by
    have : (if b1 = true ∧ b2 = true ∧ q = m ∧ b4 = true then sumV C R l else (zeroC, 3)) = r := by
      rw [← hr]
      unfold reckR
      rw [h1, h2, h4, hq, hm]
    exact this
  clear hrow hfit hC hR hRf hr h1 h2 h4 hnl hml hql hn hm hq
  cases b1
  · obtain rfl : (zeroC, 3) = r := by have := HV.out; rw [if_neg (by simp)] at this; exact this
    clear HV
    go_enter Tryz.func12, Tryz.ntmps12
    go_wp2_with fail
    rw [← hWd]
    clear hWd
    refine (sum_spec _ _ l n HN.out _ HI.out HF.out HNL.out false H1.out).mono ?_
    rintro e w1 ⟨rfl, hb1⟩
    obtain ⟨⟨Z0, Z1, Z2⟩, F0, F1, F2⟩ := HZ.out
    have hxw := chain hWb hb1
    have s0 := (hb1.cell (p := ⟨w.heap.size, 0, none⟩) hWl).trans Z0
    have t0 := (hb1.frozen (p := ⟨w.heap.size, 0, none⟩) hWl).trans F0
    have s1 := (hb1.cell (p := ⟨w.heap.size, 1, none⟩) hWl).trans Z1
    have t1 := (hb1.frozen (p := ⟨w.heap.size, 1, none⟩) hWl).trans F1
    have s2 := (hb1.cell (p := ⟨w.heap.size, 2, none⟩) hWl).trans Z2
    have t2 := (hb1.frozen (p := ⟨w.heap.size, 2, none⟩) hWl).trans F2
    clear Z0 Z1 Z2 F0 F1 F2
    go_wp2
    exact bodyPost_ret (v := .tuple #[.agg #[.int .i64 0, .int .i64 0, .string ⟨#[]⟩], .int .i64 3]) (by simp [results, Tryz.results12, go_sem, s0, s1, s2]) rfl ⟨rfl, ((hxw.setCell (Nat.le_refl _) _).setCell (Nat.le_refl _) _).setCell (Nat.le_refl _) _⟩
  go_enter Tryz.func12, Tryz.ntmps12
  go_wp2_with fail
  rw [← hWd]
  clear hWd
  refine (sum_spec _ _ l n HN.out _ HI.out HF.out HNL.out true H1.out).mono ?_
  rintro e w1 ⟨rfl, hb1⟩
  go_wp2_with fail
  refine (l9has_spec _ _ l n HN.out _ _ C m HM.out _ (HI.out.below hb1) HF.out HNL.out (HC.out.below hb1) HML.out b2 H2.out).mono ?_
  rintro e w2 ⟨rfl, hb2⟩
  have hc2 := chain hb1 hb2
  cases b2
  · obtain rfl : (zeroC, 3) = r := by have := HV.out; rw [if_neg (by simp)] at this; exact this
    clear HV
    obtain ⟨⟨Z0, Z1, Z2⟩, F0, F1, F2⟩ := HZ.out
    have hxw := chain hWb hc2
    have s0 := (hc2.cell (p := ⟨w.heap.size, 0, none⟩) hWl).trans Z0
    have t0 := (hc2.frozen (p := ⟨w.heap.size, 0, none⟩) hWl).trans F0
    have s1 := (hc2.cell (p := ⟨w.heap.size, 1, none⟩) hWl).trans Z1
    have t1 := (hc2.frozen (p := ⟨w.heap.size, 1, none⟩) hWl).trans F1
    have s2 := (hc2.cell (p := ⟨w.heap.size, 2, none⟩) hWl).trans Z2
    have t2 := (hc2.frozen (p := ⟨w.heap.size, 2, none⟩) hWl).trans F2
    clear Z0 Z1 Z2 F0 F1 F2
    go_wp2
    exact bodyPost_ret (v := .tuple #[.agg #[.int .i64 0, .int .i64 0, .string ⟨#[]⟩], .int .i64 3]) (by simp [results, Tryz.results12, go_sem, s0, s1, s2]) rfl ⟨rfl, ((hxw.setCell (Nat.le_refl _) _).setCell (Nat.le_refl _) _).setCell (Nat.le_refl _) _⟩
  by_cases hqm : q = m
  · subst hqm
    go_wp2_with fail
    refine (cells_spec9 q _ _ R HQ.out _ (HW.out.below hc2) HWF.out HQL.out b4 H4.out).mono ?_
    rintro e w3 ⟨rfl, hb3⟩
    have hc3 := chain hc2 hb3
    cases b4
    · obtain rfl : (zeroC, 3) = r := by have := HV.out; rw [if_neg (by simp)] at this; exact this
      clear HV
      obtain ⟨⟨Z0, Z1, Z2⟩, F0, F1, F2⟩ := HZ.out
      have hxw := chain hWb hc3
      have s0 := (hc3.cell (p := ⟨w.heap.size, 0, none⟩) hWl).trans Z0
      have t0 := (hc3.frozen (p := ⟨w.heap.size, 0, none⟩) hWl).trans F0
      have s1 := (hc3.cell (p := ⟨w.heap.size, 1, none⟩) hWl).trans Z1
      have t1 := (hc3.frozen (p := ⟨w.heap.size, 1, none⟩) hWl).trans F1
      have s2 := (hc3.cell (p := ⟨w.heap.size, 2, none⟩) hWl).trans Z2
      have t2 := (hc3.frozen (p := ⟨w.heap.size, 2, none⟩) hWl).trans F2
      clear Z0 Z1 Z2 F0 F1 F2
      go_wp2
      exact bodyPost_ret (v := .tuple #[.agg #[.int .i64 0, .int .i64 0, .string ⟨#[]⟩], .int .i64 3]) (by simp [results, Tryz.results12, go_sem, s0, s1, s2]) rfl ⟨rfl, ((hxw.setCell (Nat.le_refl _) _).setCell (Nat.le_refl _) _).setCell (Nat.le_refl _) _⟩
    · have hv : sumV C R l = r := by have := HV.out; rw [if_pos (by simp)] at this; exact this
      have HSV : Hid (sumV C R l = r) := hv
      clear HV hv
      go_wp2_with fail
      refine (l9reckon_spec _ _ l n HN.out _ _ C q HM.out _ _ R HQ.out _ (HI.out.below hc3) HF.out (HC.out.below hc3) HML.out (HW.out.below hc3) HWF.out H1.out H2.out r HSV.out).mono ?_
      rintro e w4 ⟨rfl, hb4⟩
      have hc4 := chain hc3 hb4
      obtain ⟨⟨ra1, rb1, rt1⟩, rf⟩ := r
      dsimp only
      obtain ⟨⟨Z0, Z1, Z2⟩, F0, F1, F2⟩ := HZ.out
      have hxw := chain hWb hc4
      have s0 := (hc4.cell (p := ⟨w.heap.size, 0, none⟩) hWl).trans Z0
      have t0 := (hc4.frozen (p := ⟨w.heap.size, 0, none⟩) hWl).trans F0
      have s1 := (hc4.cell (p := ⟨w.heap.size, 1, none⟩) hWl).trans Z1
      have t1 := (hc4.frozen (p := ⟨w.heap.size, 1, none⟩) hWl).trans F1
      have s2 := (hc4.cell (p := ⟨w.heap.size, 2, none⟩) hWl).trans Z2
      have t2 := (hc4.frozen (p := ⟨w.heap.size, 2, none⟩) hWl).trans F2
      clear Z0 Z1 Z2 F0 F1 F2
      go_wp2
      exact bodyPost_ret (v := .tuple #[.agg #[.int .i64 ra1, .int .i64 rb1, .string rt1], .int .i64 rf]) (by simp [results, Tryz.results12, go_sem, s0, s1, s2]) rfl ⟨rfl, ((hxw.setCell (Nat.le_refl _) _).setCell (Nat.le_refl _) _).setCell (Nat.le_refl _) _⟩
  · obtain rfl : (zeroC, 3) = r := by have := HV.out; rw [if_neg (by simp [hqm])] at this; exact this
    clear HV
    have hne : ((q : Int) != (m : Int)) = true := by simp; omega
    obtain ⟨⟨Z0, Z1, Z2⟩, F0, F1, F2⟩ := HZ.out
    have hxw := chain hWb hc2
    have s0 := (hc2.cell (p := ⟨w.heap.size, 0, none⟩) hWl).trans Z0
    have t0 := (hc2.frozen (p := ⟨w.heap.size, 0, none⟩) hWl).trans F0
    have s1 := (hc2.cell (p := ⟨w.heap.size, 1, none⟩) hWl).trans Z1
    have t1 := (hc2.frozen (p := ⟨w.heap.size, 1, none⟩) hWl).trans F1
    have s2 := (hc2.cell (p := ⟨w.heap.size, 2, none⟩) hWl).trans Z2
    have t2 := (hc2.frozen (p := ⟨w.heap.size, 2, none⟩) hWl).trans F2
    clear Z0 Z1 Z2 F0 F1 F2
    go_wp2
    exact bodyPost_ret (v := .tuple #[.agg #[.int .i64 0, .int .i64 0, .string ⟨#[]⟩], .int .i64 3]) (by simp [results, Tryz.results12, go_sem, s0, s1, s2]) rfl ⟨rfl, ((hxw.setCell (Nat.le_refl _) _).setCell (Nat.le_refl _) _).setCell (Nat.le_refl _) _⟩
end Go.Proofs.YthgbjnchhaoceaaGreatDoor

/-
  The contract of the model's Passes.
-/
namespace Go.Proofs.YthgbjnchhaoceaaGreatDoor
open Go.ChangeShapes Go.WideShapes Go.ChangeAt Go.RowKit
attribute [local go_sem ↓] Go.wp_at_zero Go.wp_at_succ
attribute [local simp] World.cell?_alloc_past World.cell?_alloc_at World.frozen?_alloc_at cell_far cell_off cell_here World.frozen?_alloc_past

set_option maxRecDepth 100000 in
set_option maxHeartbeats 4000000 in
theorem passes_spec (a : Option Addr) (cap : Nat) (l : List TI) (n : Nat) (hn : l.length = n) (ca : Option Addr) (cc : Nat) (C : List ByteArray) (m : Nat) (hm : C.length = m) (ra : Option Addr) (rc : Nat) (R : List CT) (q : Nat) (hq : R.length = q) (w : World) (hrow : ItmAt w a l) (hfit : FitItm l) (hnl : n ≤ maxLen) (hC : StrsAt w ca C) (hml : m ≤ maxLen) (hR : RowAt w ra R) (hRf : Fit R) (hql : q ≤ maxLen) (r : Bool × Int) (hr : passR C R l = r) :
    Calls Tryz.prog 18 #[.slice a n cap, .slice ca m cc, .slice ra q rc] w fun e w' => e = .returned (.tuple #[.bool r.1, .int .i64 r.2]) ∧ Below w.heap.size w w' := by
  obtain ⟨⟨⟨x, y, t⟩, f⟩, hV⟩ : ∃ v, reckR C R l = v := ⟨_, rfl⟩
  have HC : Hid (∀ w', Below w.heap.size w w' → Calls Tryz.prog 12 #[.slice a n cap, .slice ca m cc, .slice ra q rc] w' fun e w'' => e = .returned (.tuple #[.agg #[.int .i64 x, .int .i64 y, .string t], .int .i64 f]) ∧ Below w'.heap.size w' w'') :=
    fun w' hb => reckon_spec a cap l n hn ca cc C m hm ra rc R q hq w' (hrow.below hb) hfit hnl (hC.below hb) hml (hR.below hb) hRf hql _ hV
  have HV : Hid ((if f ≠ 0 then (false, f) else if x ≠ 3 ∧ x ≠ 0 then (false, 3) else (sameB x y t 3 1 ⟨#[]⟩, (0 : Int))) = r) := by
    have : (if f ≠ 0 then (false, f) else if x ≠ 3 ∧ x ≠ 0 then (false, 3) else (sameB x y t 3 1 ⟨#[]⟩, (0 : Int))) = r := by
      rw [← hr]
      unfold passR
      rw [hV]
    exact this
  clear hrow hfit hC hR hRf hr hnl hml hql hn hm hq hV
  by_cases hf : f = 0
  · subst hf
    by_cases hk : x = 3 ∨ x = 0
    · obtain ⟨b, hb⟩ : ∃ b, sameB x y t 3 1 ⟨#[]⟩ = b := ⟨_, rfl⟩
      have HB : Hid (sameB x y t 3 1 ⟨#[]⟩ = b) := hb
      obtain rfl : (b, (0 : Int)) = r := by
        have := HV.out
        rw [if_neg (by simp), if_neg (by omega), hb] at this
        exact this
      clear HV hb
      rcases hk with rfl | rfl
      · go_enter Tryz.func18, Tryz.ntmps18
        go_wp2_with fail
        refine (HC.out _ (Below.refl _ _)).mono ?_
        rintro e w1 ⟨rfl, hb1⟩
        go_wp2_with fail
        refine (holds_specb 3 y t b HB.out _).mono ?_
        rintro e w2 ⟨rfl, hb2⟩
        have hx := chain (hb1.alloc hb1.size _) hb2
        go_wp2
        go_ret2
        exact ⟨rfl, hx⟩
      · go_enter Tryz.func18, Tryz.ntmps18
        go_wp2_with fail
        refine (HC.out _ (Below.refl _ _)).mono ?_
        rintro e w1 ⟨rfl, hb1⟩
        go_wp2_with fail
        refine (holds_specb 0 y t b HB.out _).mono ?_
        rintro e w2 ⟨rfl, hb2⟩
        have hx := chain (hb1.alloc hb1.size _) hb2
        go_wp2
        go_ret2
        exact ⟨rfl, hx⟩
    · obtain rfl : (false, (3 : Int)) = r := by
        have := HV.out
        rw [if_neg (by simp), if_pos (by omega)] at this
        exact this
      have h3 : (x != 3) = true := by simp; omega
      have h0 : (x != 0) = true := by simp; omega
      clear HV hk
      go_enter Tryz.func18, Tryz.ntmps18
      go_wp2_with fail
      refine (HC.out _ (Below.refl _ _)).mono ?_
      rintro e w1 ⟨rfl, hb1⟩
      have hx := hb1.alloc hb1.size (.cells #[.int .i64 x, .int .i64 y, .string t] 30)
      go_wp2
      go_ret2
      exact ⟨rfl, hx⟩
  · obtain rfl : (false, f) = r := by
      have := HV.out
      rw [if_pos hf] at this
      exact this
    have h0 : (f != 0) = true := by simp [hf]
    clear HV
    go_enter Tryz.func18, Tryz.ntmps18
    go_wp2_with fail
    refine (HC.out _ (Below.refl _ _)).mono ?_
    rintro e w1 ⟨rfl, hb1⟩
    have hx := hb1.alloc hb1.size (.cells #[.int .i64 x, .int .i64 y, .string t] 30)
    go_wp2
    go_ret2
    exact ⟨rfl, hx⟩
end Go.Proofs.YthgbjnchhaoceaaGreatDoor

/-
  A law's argument that is a slice of cells, opened: which list of cells it is, and where they lie.
-/
namespace Go.Proofs.YthgbjnchhaoceaaGreatDoor
open Go.ChangeShapes Go.WideShapes Go.ChangeAt Go.RowKit Go.Deep

theorem open_cells {H : Type} {enc : TypeId × Value → H} {P : Program} {w : World} {base : Nat} {spare : Nat → Bool} {held : Bool} {t e : TypeId} {f0 f1 f2 : Field} {fuel : Nat} {a : Option Addr} {len cap : Nat} {x : DataW H × List MemPlace}
    (ht : P.underlying t = some (.slice e)) (he : P.underlying e = some (.struct #[f0, f1, f2])) (ce : P.cellsOf e = 3) (o0 : f0.offset = 0) (o1 : f1.offset = 1) (o2 : f2.offset = 2)
    (c0 : P.cellsOf f0.type = 1) (c1 : P.cellsOf f1.type = 1) (c2 : P.cellsOf f2.type = 1) (u0 : P.underlying f0.type = some (.int .i64)) (u1 : P.underlying f1.type = some (.int .i64)) (u2 : P.underlying f2.type = some .string)
    (h : DataW.trod enc P w base spare held fuel t [.slice a len cap] = some x) :
    ∃ l : List CT, l.length = len ∧ RowAt w a l ∧ Fit l ∧ len ≤ maxLen ∧ (a = none → cap = 0) := by
  rcases open_slice ht h with ⟨h0, _⟩ | ⟨ad, len', cap', m, n, D, Pl, hcs, hb, hl, hm, hmm, _, hx⟩
  · simp at h0
    obtain ⟨rfl, rfl, rfl⟩ := h0
    exact ⟨[], rfl, fun j hj => by simp at hj, fun j hj => by simp at hj, by unfold maxLen; omega, fun _ => rfl⟩
  simp at hcs
  obtain ⟨rfl, rfl, rfl⟩ := hcs
  have hlm : len ≤ m := by rw [hmm]; split <;> omega
  have each : ∀ i, i < len → ∃ q : CT, w.cell? (ad.add (i * 3)) = some (.int .i64 q.1) ∧ w.cell? (ad.add (i * 3 + 1)) = some (.int .i64 q.2.1) ∧ w.cell? (ad.add (i * 3 + 2)) = some (.string q.2.2) ∧ q.2.2.size ≤ maxLen := by
    intro i hi
    obtain ⟨cs', h1, h2⟩ := hx i (by omega)
    rw [ce] at h1
    obtain ⟨_, hlen, hcell⟩ := World.cells?_some h1
    obtain ⟨xs, k, hk, hxy, _, hxl, hf⟩ := DataW.trod_struct he h2
    match xs, hxl, cs', hlen with
    | [y0, y1, y2], _, [v0, v1, v2], _ =>
      have g0 := hf 0 f0 rfl
      have g1 := hf 1 f1 rfl
      have g2 := hf 2 f2 rfl
      simp [o0, o1, o2, c0, c1, c2] at g0 g1 g2
      have e0 := hcell 0 (by omega)
      have e1 := hcell 1 (by omega)
      have e2 := hcell 2 (by omega)
      rw [add_add] at e0 e1 e2
      obtain ⟨k0, ek, _, _⟩ := DataW.trod_int u0 g0
      obtain ⟨n0, en, _, _⟩ := DataW.trod_int u1 g1
      obtain ⟨s0, es, _, hs⟩ := DataW.trod_string u2 g2
      simp at ek en es
      subst ek en es
      exact ⟨(k0, n0, s0), by simpa using e0, by simpa using e1, by simpa using e2, hs⟩
  obtain ⟨q, hq⟩ := choose_lt each
  have spot : 0 < len → ad.spot = none := by
    intro h0
    obtain ⟨e0, _⟩ := hq 0 h0
    simpa [Addr.add] using World.cell?_spot e0
  refine ⟨(List.range len).map q, by simp, ?_, ?_, by omega, fun h => by cases h⟩
  · intro j hj
    have hj' : j < len := by simpa using hj
    obtain ⟨b, o, sp⟩ := ad
    have hsp := spot (by omega)
    simp at hsp
    subst hsp
    obtain ⟨e0, e1, e2, _⟩ := hq j hj'
    have hadd : ∀ q, ((⟨b, o, none⟩ : Addr).add q) = ⟨b, o + q, none⟩ := by
      intro q
      unfold Addr.add
      by_cases hq : q = 0 <;> simp [hq]
    rw [hadd] at e0 e1 e2
    refine ⟨b, o, rfl, World.block_lt_of_cell? w _ e0, ?_, ?_, ?_⟩
    · simpa using e0
    · simpa [Nat.add_assoc] using e1
    · simpa [Nat.add_assoc] using e2
  · intro j hj
    have hj' : j < len := by simpa using hj
    simpa using (hq j hj').2.2.2

theorem open_rows {H : Type} {enc : TypeId × Value → H} {P : Program} {w : World} {base : Nat} {spare : Nat → Bool} {held : Bool} {tt t e : TypeId} {f0 f1 f2 : Field} {fuel : Nat} {a : Option Addr} {len cap : Nat} {x : DataW H × List MemPlace}
    (htt : P.underlying tt = some (.slice t)) (ct : P.cellsOf t = 1) (ht : P.underlying t = some (.slice e)) (he : P.underlying e = some (.struct #[f0, f1, f2])) (ce : P.cellsOf e = 3) (o0 : f0.offset = 0) (o1 : f1.offset = 1) (o2 : f2.offset = 2)
    (c0 : P.cellsOf f0.type = 1) (c1 : P.cellsOf f1.type = 1) (c2 : P.cellsOf f2.type = 1) (u0 : P.underlying f0.type = some (.int .i64)) (u1 : P.underlying f1.type = some (.int .i64)) (u2 : P.underlying f2.type = some .string)
    (h : DataW.trod enc P w base spare held fuel tt [.slice a len cap] = some x) :
    ∃ L : List (List CT), L.length = len ∧ RowsAt w a L ∧ len ≤ maxLen ∧ (a = none → cap = 0) := by
  rcases open_slice htt h with ⟨h0, _⟩ | ⟨ad, len', cap', m, n, D, Pl, hcs, hb, hl, hm, hmm, _, hx⟩
  · simp at h0
    obtain ⟨rfl, rfl, rfl⟩ := h0
    exact ⟨[], rfl, fun j hj => by simp at hj, by unfold maxLen; omega, fun _ => rfl⟩
  simp at hcs
  obtain ⟨rfl, rfl, rfl⟩ := hcs
  have hlm : len ≤ m := by rw [hmm]; split <;> omega
  have each : ∀ i, i < len → ∃ l : List CT, ∃ ai ci, w.cell? (ad.add i) = some (.slice ai l.length ci) ∧ RowAt w ai l ∧ Fit l ∧ l.length ≤ maxLen ∧ (ai = none → ci = 0) := by
    intro i hi
    obtain ⟨cs', h1, h2⟩ := hx i (by omega)
    rw [ct, Nat.mul_one] at h1
    obtain ⟨_, hlen, hcell⟩ := World.cells?_some h1
    match cs', hlen with
    | [v], _ =>
      have e0 := hcell 0 (by omega)
      rw [add_add] at e0
      have e1 : w.cell? (ad.add i) = some v := by simpa using e0
      obtain ⟨ai, li, ci, rfl⟩ : ∃ ai li ci, v = .slice ai li ci := by
        rcases open_slice ht h2 with ⟨hv, _⟩ | ⟨a', l', c', _, _, _, _, hv, _⟩
        · simp at hv; exact ⟨_, _, _, hv⟩
        · simp at hv; exact ⟨_, _, _, hv⟩
      obtain ⟨l, hll, hr, hf, hml, hn⟩ := open_cells ht he ce o0 o1 o2 c0 c1 c2 u0 u1 u2 h2
      subst hll
      exact ⟨l, ai, ci, e1, hr, hf, hml, hn⟩
  obtain ⟨q, hq⟩ := choose_lt each
  have spot : 0 < len → ad.spot = none := by
    intro h0
    obtain ⟨ai, ci, e0, _⟩ := hq 0 h0
    simpa [Addr.add] using World.cell?_spot e0
  refine ⟨(List.range len).map q, by simp, ?_, by omega, fun h => by cases h⟩
  intro j hj
  have hj' : j < len := by simpa using hj
  obtain ⟨b, o, sp⟩ := ad
  have hsp := spot (by omega)
  simp at hsp
  subst hsp
  obtain ⟨ai, ci, e0, hr, hf, hml, hn⟩ := hq j hj'
  have hadd : ((⟨b, o, none⟩ : Addr).add j) = ⟨b, o + j, none⟩ := by
    unfold Addr.add
    by_cases hq : j = 0 <;> simp [hq]
  rw [hadd] at e0
  have hg : ((List.range len).map q)[j] = q j := by simp
  rw [hg]
  exact ⟨b, o, ai, ci, rfl, World.block_lt_of_cell? w _ e0, e0, hr, hf, hml, hn⟩

end Go.Proofs.YthgbjnchhaoceaaGreatDoor

/-
  A law's argument that is a slice of items, opened; what the laws ask of lists of items, with their lengths as letters.
-/
namespace Go.Proofs.YthgbjnchhaoceaaGreatDoor
open Go.ChangeShapes Go.WideShapes Go.ChangeAt Go.RowKit Go.Deep

theorem open_itms {H : Type} {enc : TypeId × Value → H} {P : Program} {w : World} {base : Nat} {spare : Nat → Bool} {held : Bool} {t e : TypeId} {f0 f1 f2 g0 g1 g2 : Field} {fuel : Nat} {a : Option Addr} {len cap : Nat} {x : DataW H × List MemPlace}
    (ht : P.underlying t = some (.slice e)) (he : P.underlying e = some (.struct #[f0, f1, f2])) (hce : P.underlying f1.type = some (.struct #[g0, g1, g2])) (kk : P.cellsOf e = 5)
    (o0 : f0.offset = 0) (o1 : f1.offset = 1) (o2 : f2.offset = 4) (p0 : g0.offset = 0) (p1 : g1.offset = 1) (p2 : g2.offset = 2)
    (c0 : P.cellsOf f0.type = 1) (c1 : P.cellsOf f1.type = 3) (c2 : P.cellsOf f2.type = 1) (d0 : P.cellsOf g0.type = 1) (d1 : P.cellsOf g1.type = 1) (d2 : P.cellsOf g2.type = 1)
    (u0 : P.underlying f0.type = some (.int .i64)) (u1 : P.underlying f2.type = some .string) (v0 : P.underlying g0.type = some (.int .i64)) (v1 : P.underlying g1.type = some (.int .i64)) (v2 : P.underlying g2.type = some .string)
    (h : DataW.trod enc P w base spare held fuel t [.slice a len cap] = some x) :
    ∃ l : List TI, l.length = len ∧ ItmAt w a l ∧ FitItm l ∧ len ≤ maxLen ∧ (a = none → cap = 0) := by
  rcases open_slice ht h with ⟨h0, _⟩ | ⟨ad, len', cap', m, n, D, Pl, hcs, hb, hl, hm, hmm, _, hx⟩
  · simp at h0
    obtain ⟨rfl, rfl, rfl⟩ := h0
    exact ⟨[], rfl, fun j hj => by simp at hj, fun j hj => by simp at hj, by unfold maxLen; omega, fun _ => rfl⟩
  simp at hcs
  obtain ⟨rfl, rfl, rfl⟩ := hcs
  have hlm : len ≤ m := by rw [hmm]; split <;> omega
  have each : ∀ i, i < len → ∃ q : TI, w.cell? (ad.add (i * 5)) = some (.int .i64 q.1) ∧ w.cell? (ad.add (i * 5 + 1)) = some (.int .i64 q.2.1.1) ∧ w.cell? (ad.add (i * 5 + 2)) = some (.int .i64 q.2.1.2.1) ∧ w.cell? (ad.add (i * 5 + 3)) = some (.string q.2.1.2.2) ∧ w.cell? (ad.add (i * 5 + 4)) = some (.string q.2.2) ∧ q.2.1.2.2.size ≤ maxLen ∧ q.2.2.size ≤ maxLen := by
    intro i hi
    obtain ⟨cs', h1, h2⟩ := hx i (by omega)
    rw [kk] at h1
    obtain ⟨_, hlen, hcell⟩ := World.cells?_some h1
    obtain ⟨xs, k, hk, hxy, _, hxl, hf⟩ := DataW.trod_struct he h2
    match xs, hxl, cs', hlen with
    | [y0, y1, y2], _, [w0, w1, w2, w3, w4], _ =>
      have q0 := hf 0 f0 rfl
      have q1 := hf 1 f1 rfl
      have q2 := hf 2 f2 rfl
      simp [o0, o1, o2, c0, c1, c2] at q0 q1 q2
      obtain ⟨ys, k2, hk2, hyy, _, hyl, hg⟩ := DataW.trod_struct hce q1
      match ys, hyl with
      | [z0, z1, z2], _ =>
        have r0 := hg 0 g0 rfl
        have r1 := hg 1 g1 rfl
        have r2 := hg 2 g2 rfl
        simp [p0, p1, p2, d0, d1, d2] at r0 r1 r2
        have e0 := hcell 0 (by omega)
        have e1 := hcell 1 (by omega)
        have e2 := hcell 2 (by omega)
        have e3 := hcell 3 (by omega)
        have e4 := hcell 4 (by omega)
        rw [add_add] at e0 e1 e2 e3 e4
        obtain ⟨k0, ek, _, _⟩ := DataW.trod_int u0 q0
        obtain ⟨s0, es, _, hs⟩ := DataW.trod_string u1 q2
        obtain ⟨k1, ek1, _, _⟩ := DataW.trod_int v0 r0
        obtain ⟨n1, en1, _, _⟩ := DataW.trod_int v1 r1
        obtain ⟨s1, es1, _, hs1⟩ := DataW.trod_string v2 r2
        simp at ek es ek1 en1 es1
        subst ek es ek1 en1 es1
        exact ⟨(k0, (k1, n1, s1), s0), by simpa using e0, by simpa using e1, by simpa using e2, by simpa using e3, by simpa using e4, hs1, hs⟩
  obtain ⟨q, hq⟩ := choose_lt each
  have spot : 0 < len → ad.spot = none := by
    intro h0
    obtain ⟨e0, _⟩ := hq 0 h0
    simpa [Addr.add] using World.cell?_spot e0
  refine ⟨(List.range len).map q, by simp, ?_, ?_, by omega, fun h => by cases h⟩
  · intro j hj
    have hj' : j < len := by simpa using hj
    obtain ⟨b, o, sp⟩ := ad
    have hsp := spot (by omega)
    simp at hsp
    subst hsp
    obtain ⟨e0, e1, e2, e3, e4, _⟩ := hq j hj'
    have hadd : ∀ q, ((⟨b, o, none⟩ : Addr).add q) = ⟨b, o + q, none⟩ := by
      intro q
      unfold Addr.add
      by_cases hq : q = 0 <;> simp [hq]
    rw [hadd] at e0 e1 e2 e3 e4
    refine ⟨b, o, rfl, World.block_lt_of_cell? w _ e0, ?_, ?_, ?_, ?_, ?_⟩
    · simpa using e0
    · simpa [Nat.add_assoc] using e1
    · simpa [Nat.add_assoc] using e2
    · simpa [Nat.add_assoc] using e3
    · simpa [Nat.add_assoc] using e4
  · intro j hj
    have hj' : j < len := by simpa using hj
    simpa using (hq j hj').2.2.2.2.2
theorem szI (n : Nat) (a : Option Addr) (cap : Nat) (l : List TI) (hn : l.length = n) (w : World) (hrow : ItmAt w a l) (hfit : FitItm l) (hm : n ≤ maxLen) (r : Int) (hr : leftOfItm l 1048576 = r) :
    Calls Tryz.prog 25 #[.slice a n cap, .int .i64 1048576] w fun e w' => e = .returned (.int .i64 r) ∧ Below w.heap.size w w' := by
  subst hn hr; exact szsItm a cap l 1048576 w hrow hfit hm (by omega) (by omega)
theorem tosI (n : Nat) (a : Option Addr) (cap : Nat) (l : List TI) (hn : l.length = n) (w : World) (hrow : ItmAt w a l) (hm : n ≤ 1048576) :
    Calls Tryz.prog 28 #[.slice a n cap] w fun e w' => ∃ g, e = .returned (.slice (some ⟨g, 0, none⟩) n n) ∧ ItmAt w' (some ⟨g, 0, none⟩) l ∧ w.heap.size ≤ g ∧ (∀ j, j < n * 5 → w'.frozen? ⟨g, 0 + j, none⟩ = false) ∧ Below w.heap.size w w' := by
  subst hn
  refine (tosItm a cap l w hrow hm).mono ?_
  rintro e w' ⟨rfl, hO, hb⟩
  refine ⟨_, rfl, ownItm hO, (hO.lt _ rfl).1, fun j _ => ?_, hb⟩
  rw [Nat.zero_add]; exact hO.frozenAt j
theorem eqsI (n : Nat) (a b : Option Addr) (ca cb : Nat) (l : List TI) (hn : l.length = n) (w : World) (ha : ItmAt w a l) (hb : ItmAt w b l) (hm : n ≤ maxLen) :
    Calls Tryz.prog 32 #[.slice a n ca, .slice b n cb] w fun e w' => e = .returned (.bool true) ∧ Below w.heap.size w w' := by
  subst hn; exact eqsItm a b ca cb l w ha hb hm
theorem oneI_le {l : List TI} {x : TI} (h : x ∈ l) : oneItm x ≤ weightItm l := by
  unfold weightItm
  obtain ⟨j, hj, rfl⟩ := List.mem_iff_getElem.1 h
  have h1 := weightItm_take l j hj
  have h2 := weightItm_le l (j + 1)
  unfold weightItm at h1 h2
  omega
end Go.Proofs.YthgbjnchhaoceaaGreatDoor

/-
  A law's argument that is a slice of texts, or a table, opened: which one it is, and where it lies.
-/
namespace Go.Proofs.YthgbjnchhaoceaaGreatDoor
open Go.ChangeShapes Go.WideShapes Go.ChangeAt Go.RowKit Go.Deep Go.Joins

theorem open_strs {H : Type} {enc : TypeId × Value → H} {P : Program} {w : World} {base : Nat} {spare : Nat → Bool} {held : Bool} {t e : TypeId} {fuel : Nat} {a : Option Addr} {len cap : Nat} {x : DataW H × List MemPlace}
    (ht : P.underlying t = some (.slice e)) (he : P.underlying e = some .string) (ce : P.cellsOf e = 1)
    (h : DataW.trod enc P w base spare held fuel t [.slice a len cap] = some x) :
    ∃ l : List ByteArray, l.length = len ∧ StrsAt w a l ∧ FitS l ∧ len ≤ maxLen ∧ len ≤ cap ∧ (a = none → cap = 0) := by
  rcases open_slice ht h with ⟨h0, _⟩ | ⟨ad, len', cap', m, n, D, Pl, hcs, hb, hl, hm, hmm, _, hx⟩
  · simp at h0
    obtain ⟨rfl, rfl, rfl⟩ := h0
    exact ⟨[], rfl, fun j hj => by simp at hj, fun j hj => by simp at hj, by unfold maxLen; omega, Nat.le_refl _, fun _ => rfl⟩
  simp at hcs
  obtain ⟨rfl, rfl, rfl⟩ := hcs
  have hlm : len ≤ m := by rw [hmm]; split <;> omega
  have each : ∀ i, i < len → ∃ q : ByteArray, w.cell? (ad.add i) = some (.string q) ∧ q.size ≤ maxLen := by
    intro i hi
    obtain ⟨cs', h1, h2⟩ := hx i (by omega)
    rw [ce, Nat.mul_one] at h1
    obtain ⟨_, hlen, hcell⟩ := World.cells?_some h1
    match cs', hlen with
    | [v], _ =>
      have e0 := hcell 0 (by omega)
      rw [add_add] at e0
      obtain ⟨s0, es, _, hs⟩ := DataW.trod_string he h2
      simp at es
      subst es
      exact ⟨s0, by simpa using e0, hs⟩
  obtain ⟨q, hq⟩ := choose_lt each
  have spot : 0 < len → ad.spot = none := by
    intro h0
    obtain ⟨e0, _⟩ := hq 0 h0
    simpa [Addr.add] using World.cell?_spot e0
  refine ⟨(List.range len).map q, by simp, ?_, ?_, by omega, by omega, fun h => by cases h⟩
  · intro j hj
    have hj' : j < len := by simpa using hj
    obtain ⟨b, o, sp⟩ := ad
    have hsp := spot (by omega)
    simp at hsp
    subst hsp
    obtain ⟨e0, _⟩ := hq j hj'
    have hadd : ((⟨b, o, none⟩ : Addr).add j) = ⟨b, o + j, none⟩ := by
      unfold Addr.add
      by_cases hq : j = 0 <;> simp [hq]
    rw [hadd] at e0
    refine ⟨b, o, rfl, World.block_lt_of_cell? w _ e0, ?_⟩
    simpa using e0
  · intro j hj
    have hj' : j < len := by simpa using hj
    simpa using (hq j hj').2

end Go.Proofs.YthgbjnchhaoceaaGreatDoor

/-
  From the row's condition on the listed variables to what the walks ask of them.
-/
namespace Go.Proofs.YthgbjnchhaoceaaGreatDoor
open Go.ChangeShapes Go.WideShapes Go.ChangeAt Go.RowKit

theorem gPow : (Tryz.prog.globalNamed "internal/strconv.uint64pow10").bind (fun g => (Tryz.prog.globals[g]?).map (·.type)) = some 215 := by kernel_rfl
theorem pow_data : (Rows.laid_internal_strconv_uint64pow10 : DataW Unit) = Lib.tabData .u64 Lib.pow10Tab := by kernel_rfl
theorem pow_of {W : World} {rest : List (String × DataW Unit)} (h : laidMet Tryz.prog (("internal/strconv.uint64pow10", Rows.laid_internal_strconv_uint64pow10) :: rest) W) : PowAt W := by
  rw [pow_data] at h
  obtain ⟨g, hg, ht⟩ := Option.bind_eq_some_iff.1 gPow
  exact Lib.tabIs_of_head hg ht Tryz.underlying215 Tryz.underlying142 (by kernel_rfl) (by kernel_rfl) h

theorem star_name : "*" ++ "errors.errorString" = "*errors.errorString" := by decide
theorem row_err (u : TypeId) (h : Tryz.prog.typeName? 3 u = some "*errors.errorString") : u = 210 :=
  typeName_ptr_named (nm := "errors.errorString") (by rw [star_name]; kernel_rfl) (by kernel_rfl) (by decide) u (by rw [star_name]; exact h)
theorem gRange : (Tryz.prog.globalNamed "strconv.ErrRange").bind (fun g => (Tryz.prog.globals[g]?).map (·.type)) = some 174 := by kernel_rfl
theorem gSyntax : (Tryz.prog.globalNamed "strconv.ErrSyntax").bind (fun g => (Tryz.prog.globals[g]?).map (·.type)) = some 174 := by kernel_rfl
theorem err_of {W : World} {rest : List (String × DataW Unit)} (h : laidMet Tryz.prog (("strconv.ErrRange", Rows.laid_strconv_ErrRange) :: ("strconv.ErrSyntax", Rows.laid_strconv_ErrSyntax) :: rest) W) : ErrAt W := by
  obtain ⟨g, hg, ht⟩ := Option.bind_eq_some_iff.1 gRange
  obtain ⟨g2, hg2, ht2⟩ := Option.bind_eq_some_iff.1 gSyntax
  have h2 := h.tail
  unfold Rows.laid_strconv_ErrRange at h
  unfold Rows.laid_strconv_ErrSyntax at h2
  obtain ⟨a, s, hv, _⟩ := laid_sentinel h hg ht Tryz.underlying174 row_err Tryz.underlying210 Tryz.underlying212 rfl rfl Tryz.underlying9 (by kernel_rfl) (by kernel_rfl)
  obtain ⟨a2, s2, hv2, _⟩ := laid_sentinel h2 hg2 ht2 Tryz.underlying174 row_err Tryz.underlying210 Tryz.underlying212 rfl rfl Tryz.underlying9 (by kernel_rfl) (by kernel_rfl)
  exact ⟨⟨_, _, hv2⟩, ⟨_, _, hv⟩⟩

end Go.Proofs.YthgbjnchhaoceaaGreatDoor
