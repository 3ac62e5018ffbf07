/-
  A part of the proof: TokensI, NextS.
-/
import Derived.Test.YtgiknjlifocioaaGreatDoorPart8
import Derived.Test.YtgiknjlifocioaaGreatDoorPart7
import Derived.Deep.CutBlock
import Derived.Deep.DeepCutAuto

/-
  The contracts of what the program reads one piece as, and a text.
-/
namespace Go.Proofs.YtgiknjlifocioaaGreatDoor
open Go.ChangeShapes Go.WideShapes Go.ChangeAt Go.RowKit
attribute [local go_sem ↓] Go.wp_at_zero Go.wp_at_succ
attribute [local simp] World.cell?_alloc_past World.cell?_alloc_at World.frozen?_alloc_at cell_far cell_off cell_here World.frozen?_alloc_past

/-- What a piece is read as, with an answer where it is none. -/
def wordR (p : ByteArray) : TT × Bool := match wordT p with
  | some t => (t, true)
  | none => ((1, p, zeroC), false)
theorem wordR_cell {p : ByteArray} {k n : Int} {t : ByteArray} (h : readB p = some (k, n, t)) : wordR p = ((2, ⟨#[]⟩, k, n, t), true) := by unfold wordR; rw [wordT_cell h]
theorem wordR_sign {p : ByteArray} (h : readB p = none) (hs : signB p = true) : wordR p = ((3, p, zeroC), true) := by unfold wordR; rw [wordT_sign h hs]
theorem wordR_name {p : ByteArray} (h : readB p = none) (hs : signB p = false) : wordR p = ((1, p, zeroC), tokB (1, p, zeroC)) := by
  rw [tokB_1, decide_eq_true rfl, Bool.and_true]
  unfold wordR wordT
  rw [h]
  simp only []
  rw [if_neg (by rw [hs]; decide)]
  cases nameK p <;> rfl
theorem some_none {p : ByteArray} (h : (readB p).isSome = false) : readB p = none := by
  cases hr : readB p with
  | none => rfl
  | some c => rw [hr] at h; cases h

theorem box5F {w w1 : World} {a b c d e : Value} {T : TypeId} (h : Below (w.alloc (.cells #[a, b, c, d, e] T)).heap.size (w.alloc (.cells #[a, b, c, d, e] T)) w1) : ∀ o, o < 5 → w1.frozen? ⟨w.heap.size, o, none⟩ = false := by
  intro o ho
  rw [h.frozen (p := ⟨w.heap.size, o, none⟩) (by simp)]
  simp [go_sem]
/-- Five cells that were written, behind a new block. -/
theorem out5 {w : World} {b : Nat} {a0 a1 a2 a3 a4 : Value} (v0 v1 v2 v3 v4 : Value) (h : w.cell? ⟨b, 0, none⟩ = some a0 ∧ w.cell? ⟨b, 1, none⟩ = some a1 ∧ w.cell? ⟨b, 2, none⟩ = some a2 ∧ w.cell? ⟨b, 3, none⟩ = some a3 ∧ w.cell? ⟨b, 4, none⟩ = some a4 ∧ b < w.heap.size) :
    ∀ Z, Z = (((((w.setCell ⟨b, 0, none⟩ v0).setCell ⟨b, 1, none⟩ v1).setCell ⟨b, 2, none⟩ v2).setCell ⟨b, 3, none⟩ v3).setCell ⟨b, 4, none⟩ v4) → Z.cell? ⟨b, 0, none⟩ = some v0 ∧ Z.cell? ⟨b, 1, none⟩ = some v1 ∧ Z.cell? ⟨b, 2, none⟩ = some v2 ∧ Z.cell? ⟨b, 3, none⟩ = some v3 ∧ Z.cell? ⟨b, 4, none⟩ = some v4 ∧ b < Z.heap.size := by
  rintro Z rfl
  obtain ⟨h0, h1, h2, h3, h4, hb⟩ := h
  obtain ⟨f0, f1, f2, f3, f4⟩ := five v0 v1 v2 v3 v4 h0 h1 h2 h3 h4
  exact ⟨f0, f1, f2, f3, f4, by simpa using hb⟩

set_option maxRecDepth 100000 in
set_option maxHeartbeats 4000000 in
theorem tokenof_cell (p : ByteArray) (hs : p.size ≤ 1048576) (w : World) (hp : PowAt w) (he : ErrAt w) (k n : Int) (x : ByteArray) (hC : readR p = (k, n, x, true)) :
    Calls Tryz.prog 39 #[.string p] w fun e w' => e = .returned (.tuple #[.agg #[.int .i64 2, .string ⟨#[]⟩, .int .i64 k, .int .i64 n, .string x], .bool true]) ∧ Below w.heap.size w w' := by
  have HP : Hid (PowAt w) := hp
  have HE : Hid (ErrAt w) := he
  have HC : Hid (readR p = (k, n, x, true)) := hC
  have HA : Below w.heap.size w (w.alloc (.cells #[.int .i64 0, .string ⟨#[]⟩, .int .i64 0, .int .i64 0, .string ⟨#[]⟩] 33)) := (Below.refl _ _).alloc (Nat.le_refl _) _
  clear hp he hC
  go_enter Tryz.func39, Tryz.ntmps39
  go_wp2_with fail
  refine (readcell_impl p hs _ (HP.out.below HA) (HE.out.below HA) k n x true HC.out).mono ?_
  rintro e w1 ⟨rfl, hb1⟩
  obtain ⟨d0, d1, d2, d3, d4, dB⟩ := box5 hb1
  have hf := box5F hb1
  have f0 := hf 0 (by omega)
  have f1 := hf 1 (by omega)
  have f2 := hf 2 (by omega)
  have f3 := hf 3 (by omega)
  have f4 := hf 4 (by omega)
  have hx := chainA hb1
  clear hf
  go_wp2_with fail
  generalize hZ : (((((w1.setCell ⟨w.heap.size, 0, none⟩ _).setCell ⟨w.heap.size, 1, none⟩ _).setCell ⟨w.heap.size, 2, none⟩ _).setCell ⟨w.heap.size, 3, none⟩ _).setCell ⟨w.heap.size, 4, none⟩ _) = Z
  obtain ⟨y0, y1, y2, y3, y4, yB⟩ := out5 _ _ _ _ _ ⟨d0, d1, d2, d3, d4, dB⟩ Z hZ.symm
  have hbZ : Below w.heap.size w Z := by rw [← hZ]; exact ((((hx.setCell (Nat.le_refl _) _).setCell (Nat.le_refl _) _).setCell (Nat.le_refl _) _).setCell (Nat.le_refl _) _).setCell (Nat.le_refl _) _
  have hbA : Below Z.heap.size Z (Z.alloc (.cells #[.int .i64 k, .int .i64 n, .string x] 31)) := (Below.refl _ _).alloc (Nat.le_refl _) _
  obtain ⟨z0, z1, z2, z3, z4, _⟩ := later5 hbA ⟨y0, y1, y2, y3, y4, yB⟩
  have hbY := chain hbZ hbA
  generalize Z.alloc (.cells #[.int .i64 k, .int .i64 n, .string x] 31) = Y at z0 z1 z2 z3 z4 hbY ⊢
  refine bodyPost_ret (by simp [results, Tryz.results39, go_sem, z0, z1, z2, z3, z4]; try rfl) rfl ?_
  exact ⟨rfl, hbY⟩
set_option maxRecDepth 100000 in
set_option maxHeartbeats 4000000 in
theorem tokenof_sign (p : ByteArray) (hs : p.size ≤ 1048576) (w : World) (hp : PowAt w) (he : ErrAt w) (k n : Int) (x : ByteArray) (hC : readR p = (k, n, x, false)) (hg : signB p = true) :
    Calls Tryz.prog 39 #[.string p] w fun e w' => e = .returned (.tuple #[.agg #[.int .i64 3, .string p, .int .i64 0, .int .i64 0, .string ⟨#[]⟩], .bool true]) ∧ Below w.heap.size w w' := by
  have HG : Hid (signB p = true) := hg
  clear hg
  have HP : Hid (PowAt w) := hp
  have HE : Hid (ErrAt w) := he
  have HC : Hid (readR p = (k, n, x, false)) := hC
  have HA : Below w.heap.size w (w.alloc (.cells #[.int .i64 0, .string ⟨#[]⟩, .int .i64 0, .int .i64 0, .string ⟨#[]⟩] 33)) := (Below.refl _ _).alloc (Nat.le_refl _) _
  clear hp he hC
  go_enter Tryz.func39, Tryz.ntmps39
  go_wp2_with fail
  refine (readcell_impl p hs _ (HP.out.below HA) (HE.out.below HA) k n x false HC.out).mono ?_
  rintro e w1 ⟨rfl, hb1⟩
  obtain ⟨d0, d1, d2, d3, d4, dB⟩ := box5 hb1
  have hf := box5F hb1
  have f0 := hf 0 (by omega)
  have f1 := hf 1 (by omega)
  have f2 := hf 2 (by omega)
  have f3 := hf 3 (by omega)
  have f4 := hf 4 (by omega)
  have hx := chainA hb1
  clear hf
  go_wp2_with fail
  refine (sign_impl p true HG.out _).mono ?_
  rintro e w2 ⟨rfl, hw2⟩
  have hbV : Below w1.heap.size w1 w2 := by rw [hw2]; exact (Below.refl _ _).alloc (Nat.le_refl _) _
  obtain ⟨e0, e1, e2, e3, e4, eB⟩ := later5 hbV ⟨d0, d1, d2, d3, d4, dB⟩
  have g0 : w2.frozen? ⟨w.heap.size, 0, none⟩ = false := by rw [hbV.frozen (p := ⟨w.heap.size, 0, none⟩) dB]; exact f0
  have g1 : w2.frozen? ⟨w.heap.size, 1, none⟩ = false := by rw [hbV.frozen (p := ⟨w.heap.size, 1, none⟩) dB]; exact f1
  have g2 : w2.frozen? ⟨w.heap.size, 2, none⟩ = false := by rw [hbV.frozen (p := ⟨w.heap.size, 2, none⟩) dB]; exact f2
  have g3 : w2.frozen? ⟨w.heap.size, 3, none⟩ = false := by rw [hbV.frozen (p := ⟨w.heap.size, 3, none⟩) dB]; exact f3
  have g4 : w2.frozen? ⟨w.heap.size, 4, none⟩ = false := by rw [hbV.frozen (p := ⟨w.heap.size, 4, none⟩) dB]; exact f4
  have hxV := chain hx hbV
  obtain ⟨B, hB⟩ : ∃ B, w.heap.size = B := ⟨_, rfl⟩
  have HBB : Hid (w.heap.size = B) := hB
  rw [hB] at e0 e1 e2 e3 e4 eB g0 g1 g2 g3 g4 ⊢
  clear hB d0 d1 d2 d3 d4 f0 f1 f2 f3 f4 hw2 hbV hb1 HA
  go_wp2_with fail
  generalize hZ : (((((w2.setCell ⟨B, 0, none⟩ _).setCell ⟨B, 1, none⟩ _).setCell ⟨B, 2, none⟩ _).setCell ⟨B, 3, none⟩ _).setCell ⟨B, 4, none⟩ _) = Z
  obtain ⟨y0, y1, y2, y3, y4, yB⟩ := out5 _ _ _ _ _ ⟨e0, e1, e2, e3, e4, eB⟩ Z hZ.symm
  have hw : w.heap.size ≤ B := by rw [HBB.out]; exact Nat.le_refl _
  have hbZ : Below w.heap.size w Z := by rw [← hZ]; exact ((((hxV.setCell hw _).setCell hw _).setCell hw _).setCell hw _).setCell hw _
  refine bodyPost_ret (by simp [results, Tryz.results39, go_sem, y0, y1, y2, y3, y4]; try rfl) rfl ?_
  exact ⟨rfl, hbZ⟩
set_option maxRecDepth 100000 in
set_option maxHeartbeats 4000000 in
theorem tokenof_name (p : ByteArray) (hs : p.size ≤ 1048576) (w : World) (hp : PowAt w) (he : ErrAt w) (k n : Int) (x : ByteArray) (hC : readR p = (k, n, x, false)) (hg : signB p = false) (b : Bool) (hb : tokB (1, p, zeroC) = b) :
    Calls Tryz.prog 39 #[.string p] w fun e w' => e = .returned (.tuple #[.agg #[.int .i64 1, .string p, .int .i64 0, .int .i64 0, .string ⟨#[]⟩], .bool b]) ∧ Below w.heap.size w w' := by
  have HG : Hid (signB p = false) := hg
  have HT : Hid (tokB (1, p, zeroC) = b) := hb
  clear hg hb
  have HP : Hid (PowAt w) := hp
  have HE : Hid (ErrAt w) := he
  have HC : Hid (readR p = (k, n, x, false)) := hC
  have HA : Below w.heap.size w (w.alloc (.cells #[.int .i64 0, .string ⟨#[]⟩, .int .i64 0, .int .i64 0, .string ⟨#[]⟩] 33)) := (Below.refl _ _).alloc (Nat.le_refl _) _
  clear hp he hC
  go_enter Tryz.func39, Tryz.ntmps39
  go_wp2_with fail
  refine (readcell_impl p hs _ (HP.out.below HA) (HE.out.below HA) k n x false HC.out).mono ?_
  rintro e w1 ⟨rfl, hb1⟩
  obtain ⟨d0, d1, d2, d3, d4, dB⟩ := box5 hb1
  have hf := box5F hb1
  have f0 := hf 0 (by omega)
  have f1 := hf 1 (by omega)
  have f2 := hf 2 (by omega)
  have f3 := hf 3 (by omega)
  have f4 := hf 4 (by omega)
  have hx := chainA hb1
  clear hf
  go_wp2_with fail
  refine (sign_impl p false HG.out _).mono ?_
  rintro e w2 ⟨rfl, rfl⟩
  go_wp2_with fail
  obtain ⟨V, hV⟩ : ∃ V, V = ((w1.alloc (.cells #[.int .i64 k, .int .i64 n, .string x] 31)).alloc (.cells #[.int .i64 1, .string p, .int .i64 0, .int .i64 0, .string ⟨#[]⟩] 33)) := ⟨_, rfl⟩
  rw [← hV]
  have hbV : Below w1.heap.size w1 V := by rw [hV]; exact ((Below.refl _ _).alloc (Nat.le_refl _) _).alloc (by simp) _
  have hT5 := box5 (w := w1.alloc (.cells #[.int .i64 k, .int .i64 n, .string x] 31)) (w1 := V) (a := .int .i64 1) (b := .string p) (c := .int .i64 0) (d := .int .i64 0) (e := .string ⟨#[]⟩) (T := 33) (by rw [hV]; exact Below.refl _ _)
  rw [show (w1.alloc (.cells #[.int .i64 k, .int .i64 n, .string x] 31)).heap.size = w1.heap.size + 1 by simp] at hT5
  obtain ⟨t0, t1, t2, t3, t4, tB⟩ := hT5
  obtain ⟨e0, e1, e2, e3, e4, eB⟩ := later5 hbV ⟨d0, d1, d2, d3, d4, dB⟩
  have g0 : V.frozen? ⟨w.heap.size, 0, none⟩ = false := by rw [hbV.frozen (p := ⟨w.heap.size, 0, none⟩) dB]; exact f0
  have g1 : V.frozen? ⟨w.heap.size, 1, none⟩ = false := by rw [hbV.frozen (p := ⟨w.heap.size, 1, none⟩) dB]; exact f1
  have g2 : V.frozen? ⟨w.heap.size, 2, none⟩ = false := by rw [hbV.frozen (p := ⟨w.heap.size, 2, none⟩) dB]; exact f2
  have g3 : V.frozen? ⟨w.heap.size, 3, none⟩ = false := by rw [hbV.frozen (p := ⟨w.heap.size, 3, none⟩) dB]; exact f3
  have g4 : V.frozen? ⟨w.heap.size, 4, none⟩ = false := by rw [hbV.frozen (p := ⟨w.heap.size, 4, none⟩) dB]; exact f4
  have hxV := chain hx hbV
  clear d0 d1 d2 d3 d4 f0 f1 f2 f3 f4 hV hbV hb1 HG HC
  obtain ⟨B, hB⟩ : ∃ B, w.heap.size = B := ⟨_, rfl⟩
  obtain ⟨C, hC⟩ : ∃ C, w1.heap.size + 1 = C := ⟨_, rfl⟩
  have hBC : B ≠ C := by omega
  have HBB : Hid (w.heap.size = B) := hB
  rw [hB] at e0 e1 e2 e3 e4 eB g0 g1 g2 g3 g4 ⊢
  rw [hC] at t0 t1 t2 t3 t4 tB ⊢
  clear hB hC
  refine wp_region_held_drew (S := (fun w' => w'.cell? ⟨C, 0, none⟩ = some (.int .i64 1) ∧ w'.cell? ⟨C, 1, none⟩ = some (.string p) ∧ w'.cell? ⟨C, 2, none⟩ = some (.int .i64 0) ∧ w'.cell? ⟨C, 3, none⟩ = some (.int .i64 0) ∧ w'.cell? ⟨C, 4, none⟩ = some (.string ⟨#[]⟩))) (by kernel_rfl) ?_ (fun hHeld => ?_)
  · (((try dsimp only); (repeat' apply And.intro) <;> first | (go_keep; done) | (simp (disch := first | omega | (simp <;> omega) | fail) [*]; done) | fail))
  refine wpAnyH_take (i := 0) (by simp only [List.getElem?_toArray, List.getElem?_cons_zero]; rfl) (by kernel_rfl) (by kernel_rfl) (by kernel_rfl) (by intro _ _ _ h; exact h) (Or.inl ⟨by rfl, fun w hSw => by (dsimp only at hSw; go_simp; (try with_reducible rfl))⟩) (by assumption) ?_
  simp only [Act.put, List.setIfInBounds_toArray, List.set_cons_zero, List.set_cons_succ]
  refine wpAnyH_take (i := 1) (by simp only [List.getElem?_toArray, List.getElem?_cons_zero, List.getElem?_cons_succ]; rfl) (by kernel_rfl) (by kernel_rfl) (by kernel_rfl) (by intro _ _ _ h; exact h) (Or.inl ⟨by rfl, fun w hSw => by (dsimp only at hSw; go_simp; (try with_reducible rfl))⟩) (by assumption) ?_
  simp only [Act.put, List.setIfInBounds_toArray, List.set_cons_zero, List.set_cons_succ]
  refine wpAnyH_ready (rs := [2]) (by kernel_rfl) (by simp) ?_
  refine AllReadyH.cons (by simp only [List.getElem?_toArray, List.getElem?_cons_zero, List.getElem?_cons_succ]; rfl) ?_ AllReadyH.nil
  intro K hK
  go_simp
  refine (tok_impl (1, p, zeroC) _ hs (Nat.zero_le _) (HP.out.below (hxV.trans (by rw [HBB.out]; exact (Below.refl _ _).drew))) (HE.out.below (hxV.trans (by rw [HBB.out]; exact (Below.refl _ _).drew))) b HT.out).mono ?_
  rintro e wA ⟨rfl, hbA⟩
  have hbA' := undrew hbA
  obtain ⟨s0, s1, s2, s3, s4, sB⟩ := later5 hbA' ⟨t0, t1, t2, t3, t4, tB⟩
  obtain ⟨r0, r1, r2, r3, r4, rB⟩ := later5 hbA' ⟨e0, e1, e2, e3, e4, eB⟩
  have i0 : wA.frozen? ⟨B, 0, none⟩ = false := by rw [hbA'.frozen (p := ⟨B, 0, none⟩) eB]; exact g0
  have i1 : wA.frozen? ⟨B, 1, none⟩ = false := by rw [hbA'.frozen (p := ⟨B, 1, none⟩) eB]; exact g1
  have i2 : wA.frozen? ⟨B, 2, none⟩ = false := by rw [hbA'.frozen (p := ⟨B, 2, none⟩) eB]; exact g2
  have i3 : wA.frozen? ⟨B, 3, none⟩ = false := by rw [hbA'.frozen (p := ⟨B, 3, none⟩) eB]; exact g3
  have i4 : wA.frozen? ⟨B, 4, none⟩ = false := by rw [hbA'.frozen (p := ⟨B, 4, none⟩) eB]; exact g4
  have hxA := chain hxV hbA'
  clear t0 t1 t2 t3 t4 e0 e1 e2 e3 e4 g0 g1 g2 g3 g4 hbA hbA' hxV
  go_wp2_with fail
  refine hK.out _ _ ?_ (fun hHeld => ?_)
  · (((try dsimp only); (repeat' apply And.intro) <;> first | (go_keep; done) | (simp (disch := first | omega | (simp <;> omega) | fail) [*]; done) | fail))
  clear hK K
  try simp only [Act.put, List.setIfInBounds_toArray, List.set_cons_zero, List.set_cons_succ]
  refine wpAnyH_ready (rs := [3]) (by kernel_rfl) (by simp) ?_
  refine AllReadyH.cons (by simp only [List.getElem?_toArray, List.getElem?_cons_zero, List.getElem?_cons_succ]; rfl) ?_ AllReadyH.nil
  intro K hK
  go_simp
  refine hK.out _ _ ?_ (fun hHeld => ?_)
  · (((try dsimp only); (repeat' apply And.intro) <;> first | (go_keep; done) | (simp (disch := first | omega | (simp <;> omega) | fail) [*]; done) | fail))
  clear hK K
  try simp only [Act.put, List.setIfInBounds_toArray, List.set_cons_zero, List.set_cons_succ]
  refine wpAnyH_take (i := 4) (by simp only [List.getElem?_toArray, List.getElem?_cons_zero, List.getElem?_cons_succ]; rfl) (by kernel_rfl) (by kernel_rfl) (by kernel_rfl) (by intro _ _ _ h; exact h) (Or.inl ⟨by rfl, fun w hSw => by (dsimp only at hSw; go_simp; (try with_reducible rfl))⟩) (by assumption) ?_
  simp only [Act.put, List.setIfInBounds_toArray, List.set_cons_zero, List.set_cons_succ]
  refine wpAnyH_done (by kernel_rfl) ?_ _
  go_wp2_with fail
  generalize hZ : (((((wA.setCell ⟨B, 0, none⟩ _).setCell ⟨B, 1, none⟩ _).setCell ⟨B, 2, none⟩ _).setCell ⟨B, 3, none⟩ _).setCell ⟨B, 4, none⟩ _) = Z
  obtain ⟨y0, y1, y2, y3, y4, yB⟩ := out5 _ _ _ _ _ ⟨r0, r1, r2, r3, r4, rB⟩ Z hZ.symm
  have hw : w.heap.size ≤ B := by rw [HBB.out]; exact Nat.le_refl _
  have hbZ : Below w.heap.size w Z := by rw [← hZ]; exact ((((hxA.setCell hw _).setCell hw _).setCell hw _).setCell hw _).setCell hw _
  refine bodyPost_ret (by simp [results, Tryz.results39, go_sem, y0, y1, y2, y3, y4]; try rfl) rfl ?_
  exact ⟨rfl, hbZ⟩
theorem tokenof_impl (p : ByteArray) (hs : p.size ≤ 1048576) (w : World) (hp : PowAt w) (he : ErrAt w) (t : TT) (b : Bool) (hR : wordR p = (t, b)) :
    Calls Tryz.prog 39 #[.string p] w fun e w' => e = .returned (.tuple #[.agg #[.int .i64 t.1, .string t.2.1, .int .i64 t.2.2.1, .int .i64 t.2.2.2.1, .string t.2.2.2.2], .bool b]) ∧ Below w.heap.size w w' := by
  obtain ⟨k, n, x, c, hC⟩ : ∃ k n x c, readR p = (k, n, x, c) := ⟨_, _, _, _, rfl⟩
  obtain ⟨hC1, hC2⟩ := readR_b hC
  cases c
  · have hnone := some_none hC1
    cases hg : signB p
    · rw [wordR_name hnone hg] at hR
      injection hR with e1 e2
      subst e1
      exact tokenof_name p hs w hp he k n x hC hg b e2
    · rw [wordR_sign hnone hg] at hR
      injection hR with e1 e2
      subst e1 e2
      exact tokenof_sign p hs w hp he k n x hC hg
  · rw [wordR_cell (hC2 rfl)] at hR
    injection hR with e1 e2
    subst e1 e2
    exact tokenof_cell p hs w hp he k n x hC
theorem infoTok5 : (Tryz.prog.info? 33).map (fun i => (i.zero, i.size, i.bytes)) = some (some (.agg #[.int .i64 0, .string ⟨#[]⟩, .int .i64 0, .int .i64 0, .string ⟨#[]⟩]), 5, 56) := by kernel_rfl
/-- What a text is read as. -/
def toksR (s : ByteArray) : List TT × Bool := match toksB s with
  | some l => (l, true)
  | none => ([], false)
theorem toksF_len : ∀ {n : Nat} {l : List UInt8} {ts : List TT}, toksF n l = some ts → ts.length ≤ l.length
  | _, [], ts, h => by
    simp only [toksF, Option.some.injEq] at h
    subst h; simp
  | 0, c :: l, ts, h => by simp [toksF] at h
  | n + 1, c :: l, ts, h => by
    unfold toksF at h
    split at h
    · have := toksF_len h; simp; omega
    · cases hn : nextT (c :: l) with
      | none => rw [hn] at h; cases h
      | some p =>
        obtain ⟨t, e⟩ := p
        rw [hn] at h
        simp only [] at h
        cases hr : toksF n ((c :: l).drop e) with
        | none => rw [hr] at h; cases h
        | some us =>
          rw [hr] at h
          simp only [Option.map_some, Option.some.injEq] at h
          subst h
          obtain ⟨_, he, hel, _⟩ := nextT_ok (by simp) hn
          have := toksF_len hr
          rw [List.length_drop] at this
          simp at this hel ⊢; omega
theorem toksR_len (s : ByteArray) (l : List TT) (b : Bool) (h : toksR s = (l, b)) : l.length ≤ 2000 := by
  unfold toksR at h
  cases hb : toksB s with
  | none => rw [hb] at h; injection h with e _; subst e; simp
  | some ts =>
    rw [hb] at h
    injection h with e _
    subst e
    unfold toksB at hb
    split at hb
    · have := toksF_len hb
      rw [← Lib.size_eq] at this
      omega
    · cases hb

theorem tokB_fits {x : TT} (h : tokB x = true) : x.2.1.size ≤ 12 ∧ x.2.2.2.2.size ≤ 12 := by
  rcases tokB_kind h with ⟨s, rfl, hn⟩ | ⟨⟨k, n, t⟩, rfl, hc⟩ | ⟨s, rfl, hs⟩
  · unfold nameK nameB at hn
    simp only [Bool.and_eq_true, Bool.not_eq_true', decide_eq_true_eq] at hn
    obtain ⟨⟨_, _, h3⟩, _⟩ := hn
    exact ⟨show s.size ≤ 12 by omega, Nat.zero_le _⟩
  · refine ⟨Nat.zero_le _, ?_⟩
    have ho : okB k n t = true := hc
    show t.size ≤ 12
    rcases okB_kind ho with rfl | rfl | rfl | rfl
    · rw [(okB_0 ho).2]; exact Nat.zero_le _
    · rw [(okB_1 ho).2]; exact Nat.zero_le _
    · have := (okB_2 ho).2
      unfold textB at this
      rw [Bool.and_eq_true, decide_eq_true_eq] at this
      omega
    · rw [(okB_3 ho).2]; exact Nat.zero_le _
  · have h14 : (tokT (3, s, zeroC)).length ≤ 5 := by
      rw [tokT_3]
      unfold signB at hs
      rw [Bool.or_eq_true] at hs
      rcases hs with hs | hs
      · have hm := inB_iff.1 hs
        simp only [signW, List.mem_cons, List.not_mem_nil, or_false] at hm
        rcases hm with rfl | rfl | rfl | rfl <;> decide
      · have hm := inB_iff.1 hs
        simp only [signO, List.mem_cons, List.not_mem_nil, or_false] at hm
        rcases hm with rfl | rfl | rfl | rfl | rfl | rfl | rfl | rfl <;> decide
    rw [tokT_3, ← Lib.size_eq] at h14
    exact ⟨show s.size ≤ 12 by omega, Nat.zero_le _⟩
theorem toksR_all {s : ByteArray} {l : List TT} {b : Bool} (h : toksR s = (l, b)) : l.all tokB = true := by
  unfold toksR at h
  cases hb : toksB s with
  | none => rw [hb] at h; injection h with e _; subst e; rfl
  | some ts => rw [hb] at h; injection h with e _; subst e; exact toksB_ok hb
theorem toksR_size {s : ByteArray} {l : List TT} {b : Bool} (h : toksR s = (l, b)) : l.length ≤ s.size := by
  unfold toksR at h
  cases hb : toksB s with
  | none => rw [hb] at h; injection h with e _; subst e; exact Nat.zero_le _
  | some ts =>
    rw [hb] at h
    injection h with e _
    subst e
    unfold toksB at hb
    split at hb
    · have := toksF_len hb
      rw [← Lib.size_eq] at this
      exact this
    · cases hb
/-- An answer: a list of tokens that owns its memory. -/
def AnsTok (w : World) (B : Nat) (v : Value) (l : List TT) : Prop := w.ownsRow B 33 5 v l.length (flatTok l) ∧ v ≠ .slice none 0 0
theorem ansTok_none (w : World) (B : Nat) (h : B ≤ w.heap.size) : AnsTok (w.alloc (.cells #[] 33)) B (.slice (some ⟨w.heap.size, 0, none⟩) 0 0) [] :=
  ⟨⟨rfl, .inr ⟨w.heap.size, 0, #[], rfl, h, by show (w.heap.push _)[w.heap.size]? = _; simp, Nat.le_refl _, by unfold maxLen; omega, rfl, rfl⟩⟩, by simp⟩
theorem flatTok_snoc (l : List TT) (x : TT) : flatTok (l ++ [x]) = flatTok l ++ [.int .i64 x.1, .string x.2.1, .int .i64 x.2.2.1, .int .i64 x.2.2.2.1, .string x.2.2.2.2] := by rw [flatTok_append]; rfl
/-- What is left to be read, behind what was. -/
def Rest (s : ByteArray) (k : Nat) (out : List TT) : Prop := toksL s.data.toList = (toksL (s.data.toList.drop k)).map (out ++ ·)
theorem Rest.start (s : ByteArray) : Rest s 0 [] := by
  unfold Rest
  rw [List.drop_zero]
  cases toksL s.data.toList <;> rfl
theorem Rest.done {s : ByteArray} {k : Nat} {out : List TT} (h : Rest s k out) (hk : s.size ≤ k) (hs : s.size ≤ 2000) : toksR s = (out, true) := by
  unfold Rest at h
  rw [List.drop_eq_nil_of_le (by rw [← Lib.size_eq]; exact hk), toksL_nil] at h
  unfold toksR
  rw [toksB_L hs, h]
  simp
/-- The cells of a new block behind another one. -/
theorem cells5 (w : World) (a b c d e a' b' c' d' e' : Value) : ∀ (j : Nat) u, [a', b', c', d', e'][j]? = some u → ((w.alloc (.cells #[a, b, c, d, e] 33)).alloc (.cells #[a', b', c', d', e'] 33)).cell? ((⟨w.heap.size + 1, 0, none⟩ : Addr).add j) = some u := by
  intro j u hj
  match j, hj with
  | 0, hj => simp at hj; subst hj; simp [Addr.add, go_sem]
  | 1, hj => simp at hj; subst hj; simp [Addr.add, go_sem]
  | 2, hj => simp at hj; subst hj; simp [Addr.add, go_sem]
  | 3, hj => simp at hj; subst hj; simp [Addr.add, go_sem]
  | 4, hj => simp at hj; subst hj; simp [Addr.add, go_sem]
/-- One piece. -/
theorem piece_list (s : ByteArray) (k r : Nat) (hr : k + pieceL (s.data.toList.drop k) = r) : (s.extract k r).data.toList = (s.data.toList.drop k).take (pieceL (s.data.toList.drop k)) := by
  rw [Lib.extract_data]
  congr 1
  omega
theorem piece_facts (s : ByteArray) (k r : Nat) (hk : k < s.size) (hr : k + pieceL (s.data.toList.drop k) = r) : k < r ∧ r ≤ s.size ∧ (s.extract k r).size = r - k ∧ ∃ c l, s.data.toList.drop k = c :: l ∧ (s.extract k r).extract 0 1 = ⟨#[c]⟩ := by
  have hl := piece_list s k r hr
  have e : s.data.toList.drop k = s[k] :: s.data.toList.drop (k + 1) := by rw [List.drop_eq_getElem_cons (by simpa using hk)]; rfl
  rw [e] at hr hl
  have h1 := pieceL_pos s[k] (s.data.toList.drop (k + 1))
  have h2 := pieceL_le s[k] (s.data.toList.drop (k + 1))
  have hlen : (s[k] :: s.data.toList.drop (k + 1)).length = s.size - k := by rw [← e, List.length_drop, ← Lib.size_eq]
  rw [hlen] at h2
  refine ⟨by omega, by omega, ?_, s[k], _, e, ?_⟩
  · rw [Lib.size_eq, hl, List.length_take, hlen]; omega
  · refine bytes_ext ?_
    rw [Lib.extract_data, hl]
    obtain ⟨m, hm⟩ : ∃ m, pieceL (s[k] :: s.data.toList.drop (k + 1)) = m + 1 := ⟨_, (Nat.succ_pred_eq_of_pos h1).symm⟩
    rw [hm, List.take_succ_cons]
    simp
theorem Rest.blank {s : ByteArray} {k r : Nat} {out : List TT} (h : Rest s k out) (hr : k + pieceL (s.data.toList.drop k) = r) {c : UInt8} {l : List UInt8} (e : s.data.toList.drop k = c :: l) (hc : c.toNat = 32) : Rest s r out := by
  unfold Rest at h ⊢
  rw [h, e, toksL_piece, if_pos hc, ← e, List.drop_drop, hr]
theorem Rest.word {s : ByteArray} {k r : Nat} {out : List TT} (h : Rest s k out) (hr : k + pieceL (s.data.toList.drop k) = r) {c : UInt8} {l : List UInt8} (e : s.data.toList.drop k = c :: l) (hc : ¬ c.toNat = 32) {t : TT} (ht : wordR (s.extract k r) = (t, true)) : Rest s r (out ++ [t]) := by
  unfold Rest at h ⊢
  have hl := piece_list s k r hr
  rw [e] at hl
  have hw : wordT ⟨((c :: l).take (pieceL (c :: l))).toArray⟩ = some t := by
    rw [← hl]
    unfold wordR at ht
    show wordT (s.extract k r) = some t
    cases hq : wordT (s.extract k r) with
    | none => rw [hq] at ht; injection ht with _ h2; cases h2
    | some u => rw [hq] at ht; injection ht with h1 _; rw [h1]
  rw [h, e, toksL_piece, if_neg hc, hw]
  simp only []
  rw [← e, List.drop_drop, hr, Option.map_map]
  congr 1
  funext x
  simp
theorem Rest.stop {s : ByteArray} {k r : Nat} {out : List TT} (h : Rest s k out) (hs : s.size ≤ 2000) (hr : k + pieceL (s.data.toList.drop k) = r) {c : UInt8} {l : List UInt8} (e : s.data.toList.drop k = c :: l) (hc : ¬ c.toNat = 32) {t : TT} (ht : wordR (s.extract k r) = (t, false)) : toksR s = ([], false) := by
  unfold Rest at h
  have hl := piece_list s k r hr
  rw [e] at hl
  have hw : wordT ⟨((c :: l).take (pieceL (c :: l))).toArray⟩ = none := by
    rw [← hl]
    unfold wordR at ht
    show wordT (s.extract k r) = none
    cases hq : wordT (s.extract k r) with
    | none => rfl
    | some u => rw [hq] at ht; injection ht with _ h2; cases h2
  rw [e, toksL_piece, if_neg hc, hw] at h
  unfold toksR
  rw [toksB_L hs, h]
  rfl
set_option maxRecDepth 100000 in
set_option maxHeartbeats 4000000 in
theorem tokensin_impl (s : ByteArray) (w : World) (hp : PowAt w) (he : ErrAt w) (l : List TT) (b : Bool) (hR : toksR s = (l, b)) (hs2 : s.size ≤ 2000) :
    Calls Tryz.prog 22 #[.string s] w fun e w' => ∃ v, e = .returned (.tuple #[v, .bool b]) ∧ AnsTok w' w.heap.size v l ∧ Below w.heap.size w w' := by
  obtain ⟨i0, hti, hz0, hz1, hz2⟩ := info_parts infoTok5
  have own0 : Hid (AnsTok (w.alloc (.cells #[] 33)) w.heap.size (.slice (some ⟨w.heap.size, 0, none⟩) 0 0) []) := ansTok_none w _ (Nat.le_refl _)
  have hb0 : Below w.heap.size w (w.alloc (.cells #[] 33)) := (Below.refl _ _).alloc (Nat.le_refl _) _
  have HR : Hid (toksR s = (l, b)) := hR
  have HP : Hid (PowAt w) := hp
  have HE : Hid (ErrAt w) := he
  clear hR hp he
  go_enter Tryz.func22, Tryz.ntmps22
  go_wp2
  go_loopw [4, 5] (fun v kk wr => ∃ (k : Nat) (out : List TT), k ≤ s.size ∧ kk = .int .i64 k ∧ Hid (Rest s k out) ∧ Hid (AnsTok wr w.heap.size v out) ∧ out.length ≤ k ∧ Below w.heap.size w wr) (fun _ kk _ => s.size - (intOf kk).toNat)
  case atStart => exact ⟨0, [], Nat.zero_le _, rfl, Rest.start s, own0, Nat.le_refl _, hb0⟩
  case round =>
    obtain ⟨k, out, hk, rfl, hRd, hO, hol, hb⟩ := hrel
    by_cases hlt : k < s.size
    · have hi0 : (0 : Int) ≤ (k : Int) := by omega
      have hi1 : (k : Int) < (s.size : Int) := by omega
      obtain ⟨r, hr⟩ : ∃ r, k + pieceL (s.data.toList.drop k) = r := ⟨_, rfl⟩
      obtain ⟨hkr, hrs, hsz, c, rest, hc, hq⟩ := piece_facts s k r hlt hr
      have HRr : Hid (k + pieceL (s.data.toList.drop k) = r) := hr
      have HCr : Hid (s.data.toList.drop k = c :: rest) := hc
      obtain ⟨p, hpe⟩ : ∃ p, s.extract k r = p := ⟨_, rfl⟩
      have HPE : Hid (s.extract k r = p) := hpe
      rw [hpe] at hsz hq
      clear hr hc
      have hj0 : (k : Int) ≤ (r : Int) := by omega
      have hj1 : (r : Int) ≤ (s.size : Int) := by omega
      have hp1 : (1 : Int) ≤ (p.size : Int) := by omega
      go_wp2_with fail
      refine (pieceend_impl s hs2 k hlt r HRr.out _).mono ?_
      rintro e w1 ⟨rfl, rfl⟩
      by_cases h32 : c.toNat = 32
      · have hc32 : c = 32 := byteIs h32 (by decide)
        subst hc32
        have hRd2 : Hid (Rest s r out) := hRd.out.blank HRr.out HCr.out rfl
        go_wp2_with fail
        go_roundw
        case rel => exact ⟨r, out, hrs, rfl, hRd2, hO, by omega, hb⟩
        case measure => simp [intOf]; omega
      have hq32 : ((⟨#[c]⟩ : ByteArray).toList == [32]) = false := by
        rw [Lib.toList_data, beq_eq_false_iff_ne]
        intro e
        injection e with e _
        exact h32 (by rw [e]; rfl)
      obtain ⟨t, bt, hw⟩ : ∃ t b, wordR p = (t, b) := ⟨_, _, rfl⟩
      have HW : Hid (wordR p = (t, bt)) := hw
      have hno : Hid (bt = false → l = [] ∧ b = false) := by
        have : bt = false → l = [] ∧ b = false := by
          intro e
          subst e
          rw [← HPE.out] at hw
          have hf := HR.out
          rw [hRd.out.stop hs2 HRr.out HCr.out h32 hw] at hf
          injection hf with e1 e2
          exact ⟨e1.symm, e2.symm⟩
        exact this
      have hyes : Hid (bt = true → Rest s r (out ++ [t])) := by
        have : bt = true → Rest s r (out ++ [t]) := by
          intro e
          subst e
          rw [← HPE.out] at hw
          exact hRd.out.word HRr.out HCr.out h32 hw
        exact this
      have hpm : p.size ≤ 1048576 := by omega
      clear hw
      generalize (⟨#[c]⟩ : ByteArray) = q at hq hq32
      go_wp2_with fail
      refine (tokenof_impl p hpm _ (HP.out.below hb) (HE.out.below hb) t bt HW.out).mono ?_
      rintro e w2 ⟨rfl, hb2⟩
      have hbx2 := chain hb hb2
      have O1 := own_below hO.out.1 hb2
      have hvn := hO.out.2
      obtain ⟨tk, ts, ck, cn, ct⟩ := t
      dsimp only
      cases bt
      · obtain ⟨rfl, rfl⟩ := hno.out rfl
        clear O1 hO
        have hA : Hid (AnsTok ((w2.alloc (.cells #[.int .i64 tk, .string ts, .int .i64 ck, .int .i64 cn, .string ct] 33)).alloc (.cells #[] 33)) w.heap.size (.slice (some ⟨w2.heap.size + 1, 0, none⟩) 0 0) []) := by
          have := ansTok_none (w2.alloc (.cells #[.int .i64 tk, .string ts, .int .i64 ck, .int .i64 cn, .string ct] 33)) w.heap.size (by have := hbx2.size; simp; omega)
          have e : (w2.alloc (.cells #[.int .i64 tk, .string ts, .int .i64 ck, .int .i64 cn, .string ct] 33)).heap.size = w2.heap.size + 1 := by simp
          rw [e] at this
          exact this
        have hbe : Below w.heap.size w ((w2.alloc (.cells #[.int .i64 tk, .string ts, .int .i64 ck, .int .i64 cn, .string ct] 33)).alloc (.cells #[] 33)) := (hbx2.alloc hbx2.size _).alloc (by have := hbx2.size; simp; omega) _
        go_wp2
        go_ret2
        exact ⟨_, rfl, hA.out, hbe⟩
      · have O2 := (O1.alloc (.cells #[.int .i64 tk, .string ts, .int .i64 ck, .int .i64 cn, .string ct] 33))
        clear O1 hO
        go_wp2_with (at_builtin; refine wpList_append_own _ rfl _ _ 24 rfl w.heap.size 33 i0 (.agg #[.int .i64 0, .string ⟨#[]⟩, .int .i64 0, .int .i64 0, .string ⟨#[]⟩]) 5 56 Tryz.underlying24 hti hz0 hz1 hz2 rfl (by decide) _ _ _ rfl (O2.alloc _) ⟨w2.heap.size + 1, 0, none⟩ 1 1 [.int .i64 tk, .string ts, .int .i64 ck, .int .i64 cn, .string ct] rfl rfl (cells5 w2 _ _ _ _ _ _ _ _ _ _) ?c2 ?c3 ?c4 ?c5 ?_)
        case c2 => exact ⟨rfl, rfl, rfl, rfl, rfl⟩
        case c3 => unfold maxLen; omega
        case c4 => omega
        case c5 => have := hbx2.size; simp; omega
        intro v' w3 own3 hgrow hnn
        have hx2 : Below w.heap.size w w3 := by
          have hbA := hbx2.alloc hbx2.size (.cells #[.int .i64 tk, .string ts, .int .i64 ck, .int .i64 cn, .string ct] 33)
          refine (hbA.alloc hbA.size _).grown hgrow (by have := hbA.size; simp at this ⊢; omega) ?_
          intro kk hkk
          exact (O2.lt kk hkk).1
        have hvn2 : v' ≠ .slice none 0 0 := by first | exact hnn | exact fun e => hvn (hnn.1 e).1
        have SS : Hid (AnsTok w3 w.heap.size v' (out ++ [(tk, ts, ck, cn, ct)])) := by
          refine ⟨?_, hvn2⟩
          rw [flatTok_snoc, List.length_append]
          exact own3
        clear own3 hgrow hnn O2
        go_wp2
        go_roundw
        case rel => exact ⟨r, _, hrs, rfl, hyes.out (by trivial), SS, by rw [List.length_append, List.length_singleton]; omega, hx2⟩
        case measure => simp [intOf]; omega
    · have hkl : s.size ≤ k := by omega
      have hi1 : ¬ (k : Int) < (s.size : Int) := by omega
      have hf := HR.out
      rw [hRd.out.done hkl hs2] at hf
      injection hf with e1 e2
      subst e1 e2
      go_wp2
      go_ret2
      exact ⟨_, rfl, hO.out, hb⟩
set_option maxRecDepth 100000 in
set_option maxHeartbeats 2000000 in
theorem tokensof_impl (s : ByteArray) (w : World) (hp : PowAt w) (he : ErrAt w) (l : List TT) (b : Bool) (hR : toksR s = (l, b)) (hm : s.size ≤ 1048576) :
    Calls Tryz.prog 8 #[.string s] w fun e w' => ∃ v, e = .returned (.tuple #[v, .bool b]) ∧ AnsTok w' w.heap.size v l ∧ Below w.heap.size w w' := by
  obtain ⟨i0, hti, hz0, hz1, hz2⟩ := info_parts infoTok5
  have own0 : Hid (AnsTok (w.alloc (.cells #[] 33)) w.heap.size (.slice (some ⟨w.heap.size, 0, none⟩) 0 0) []) := ansTok_none w _ (Nat.le_refl _)
  have hb0 : Below w.heap.size w (w.alloc (.cells #[] 33)) := (Below.refl _ _).alloc (Nat.le_refl _) _
  have HR : Hid (toksR s = (l, b)) := hR
  have HP : Hid (PowAt w) := hp
  have HE : Hid (ErrAt w) := he
  clear hR hp he
  by_cases hs : (2000 : Int) < (s.size : Int)
  · have hf := HR.out
    unfold toksR at hf
    rw [toksB_long (by omega)] at hf
    injection hf with e1 e2
    subst e1 e2
    go_enter Tryz.func8, Tryz.ntmps8
    go_wp2
    go_ret2
    exact ⟨_, rfl, own0.out, hb0⟩
  have hs2 : s.size ≤ 2000 := by omega
  go_enter Tryz.func8, Tryz.ntmps8
  go_wp2_with fail
  refine (tokensin_impl s _ HP.out HE.out l b HR.out hs2).mono ?_
  rintro e w1 ⟨v, rfl, hv, hb1⟩
  go_wp2
  go_ret2
  exact ⟨v, rfl, hv, hb1⟩
end Go.Proofs.YtgiknjlifocioaaGreatDoor

/-
  The contracts of the model's reading of tokens.
-/
namespace Go.Proofs.YtgiknjlifocioaaGreatDoor
open Go.ChangeShapes Go.WideShapes Go.ChangeAt Go.RowKit
attribute [local go_sem ↓] Go.wp_at_zero Go.wp_at_succ
attribute [local simp] World.cell?_alloc_past World.cell?_alloc_at World.frozen?_alloc_at cell_far cell_off cell_here World.frozen?_alloc_past

theorem far_spec (s : ByteArray) (hs : s.size ≤ 2000) (k : Nat) (hk : k < s.size) (w : World) :
    Calls Tryz.prog 41 #[.string s, .int .i64 (k : Int)] w fun e w' => e = .returned (.int .i64 ((k + min 14 (s.size - k) : Nat) : Int)) ∧ w' = w := by
  by_cases h : s.size - k > 14
  · have h1 : (14 : Int) < (s.size : Int) - (k : Int) := by omega
    go_enter Tryz.func41, Tryz.ntmps41
    go_wp2
    go_ret
    exact ⟨ret_int (by omega), rfl⟩
  · have h1 : ¬ (14 : Int) < (s.size : Int) - (k : Int) := by omega
    go_enter Tryz.func41, Tryz.ntmps41
    go_wp2
    go_ret
    exact ⟨ret_int (by omega), rfl⟩
def zeroTok : TT := (0, ⟨#[]⟩, zeroC)
/-- The token that begins there, and the place behind it. -/
def nextR (s : ByteArray) (k : Nat) : TT × Nat := match nextT (s.data.toList.drop k) with
  | some (t, e) => (t, k + e)
  | none => (zeroTok, k)
/-- The block of an answer that is a token: still zero, and open. -/
def Tok5 (w : World) (B : Nat) : Prop :=
  w.cell? ⟨B, 0, none⟩ = some (.int .i64 0) ∧ w.cell? ⟨B, 1, none⟩ = some (.string ⟨#[]⟩) ∧ w.cell? ⟨B, 2, none⟩ = some (.int .i64 0) ∧ w.cell? ⟨B, 3, none⟩ = some (.int .i64 0) ∧ w.cell? ⟨B, 4, none⟩ = some (.string ⟨#[]⟩) ∧ B < w.heap.size ∧
  w.frozen? ⟨B, 0, none⟩ = false ∧ w.frozen? ⟨B, 1, none⟩ = false ∧ w.frozen? ⟨B, 2, none⟩ = false ∧ w.frozen? ⟨B, 3, none⟩ = false ∧ w.frozen? ⟨B, 4, none⟩ = false
theorem Tok5.below {w w' : World} {B : Nat} (h : Tok5 w B) (hb : Below w.heap.size w w') : Tok5 w' B := by
  obtain ⟨h0, h1, h2, h3, h4, hB, f0, f1, f2, f3, f4⟩ := h
  have key : ∀ o, w'.cell? ⟨B, o, none⟩ = w.cell? ⟨B, o, none⟩ := fun o => hb.cell (p := ⟨B, o, none⟩) hB
  have fro : ∀ o, w'.frozen? ⟨B, o, none⟩ = w.frozen? ⟨B, o, none⟩ := fun o => hb.frozen (p := ⟨B, o, none⟩) hB
  have hs := hb.size
  exact ⟨(key _).trans h0, (key _).trans h1, (key _).trans h2, (key _).trans h3, (key _).trans h4, by omega, (fro _).trans f0, (fro _).trans f1, (fro _).trans f2, (fro _).trans f3, (fro _).trans f4⟩
theorem Tok5.new (w : World) : Tok5 (w.alloc (.cells #[.int .i64 0, .string ⟨#[]⟩, .int .i64 0, .int .i64 0, .string ⟨#[]⟩] 33)) w.heap.size := by
  obtain ⟨h0, h1, h2, h3, h4, hB⟩ := box5 (w := w) (Below.refl (w.alloc (.cells #[.int .i64 0, .string ⟨#[]⟩, .int .i64 0, .int .i64 0, .string ⟨#[]⟩] 33)).heap.size (w.alloc (.cells #[.int .i64 0, .string ⟨#[]⟩, .int .i64 0, .int .i64 0, .string ⟨#[]⟩] 33)))
  have hf := box5F (w := w) (Below.refl (w.alloc (.cells #[.int .i64 0, .string ⟨#[]⟩, .int .i64 0, .int .i64 0, .string ⟨#[]⟩] 33)).heap.size (w.alloc (.cells #[.int .i64 0, .string ⟨#[]⟩, .int .i64 0, .int .i64 0, .string ⟨#[]⟩] 33)))
  exact ⟨h0, h1, h2, h3, h4, hB, hf 0 (by omega), hf 1 (by omega), hf 2 (by omega), hf 3 (by omega), hf 4 (by omega)⟩
theorem nextR_word {s : ByteArray} {k e : Nat} (h0 : 0 < runL (s.data.toList.drop k)) (he : k + runL (s.data.toList.drop k) = e) : nextR s k = if (wordR (s.extract k e)).2 = true then ((wordR (s.extract k e)).1, e) else (zeroTok, k) := by
  have hp : (⟨((s.data.toList.drop k).take (runL (s.data.toList.drop k))).toArray⟩ : ByteArray) = s.extract k e := by
    refine bytes_ext ?_
    rw [Lib.extract_data, show e - k = runL (s.data.toList.drop k) by omega]
  unfold nextR nextT
  rw [if_pos h0, hp]
  unfold wordR
  cases wordT (s.extract k e) with
  | none => simp
  | some t => simp [he]
/-- What is read where no letter stands, of at most n bytes. -/
def lngR (s : ByteArray) (k n : Nat) : TT × Nat := match longC (s.data.toList.drop k) n with
  | some (c, e) => ((2, ⟨#[]⟩, c), k + e)
  | none => if signB (s.extract k (k + 1)) = true then ((3, s.extract k (k + 1), zeroC), k + 1) else (zeroTok, k)
theorem ext_take (s : ByteArray) (k n : Nat) : (⟨((s.data.toList.drop k).take n).toArray⟩ : ByteArray) = s.extract k (k + n) := by
  refine bytes_ext ?_
  rw [Lib.extract_data, show k + n - k = n by omega]
theorem nextR_long {s : ByteArray} {k : Nat} (h0 : runL (s.data.toList.drop k) = 0) : nextR s k = lngR s k (min 14 (s.size - k)) := by
  have hl : (s.data.toList.drop k).length = s.size - k := by rw [List.length_drop, ← Lib.size_eq]
  unfold nextR nextT lngR
  rw [if_neg (by omega), hl, ext_take]
  cases longC (s.data.toList.drop k) (min 14 (s.size - k)) with
  | some x => rfl
  | none =>
    simp only []
    cases signB (s.extract k (k + 1)) <;> rfl
theorem lngR_yes {s : ByteArray} {k e : Nat} {c : CK} (h : k < e) (hr : readB (s.extract k e) = some c) : lngR s k (e - k) = ((2, ⟨#[]⟩, c), e) := by
  obtain ⟨n, rfl⟩ : ∃ n, e = k + (n + 1) := ⟨e - k - 1, by omega⟩
  unfold lngR
  rw [show k + (n + 1) - k = n + 1 by omega]
  unfold longC
  rw [ext_take, hr]
theorem lngR_no {s : ByteArray} {k e : Nat} (h : k < e) (hr : readB (s.extract k e) = none) : lngR s k (e - k) = lngR s k (e - 1 - k) := by
  obtain ⟨n, rfl⟩ : ∃ n, e = k + (n + 1) := ⟨e - k - 1, by omega⟩
  unfold lngR
  rw [show k + (n + 1) - k = n + 1 by omega, show k + (n + 1) - 1 - k = n by omega]
  conv => lhs; unfold longC
  rw [ext_take, hr]
theorem lngR_zero {s : ByteArray} {k : Nat} : lngR s k 0 = if signB (s.extract k (k + 1)) = true then ((3, s.extract k (k + 1), zeroC), k + 1) else (zeroTok, k) := by
  unfold lngR longC; rfl
theorem byte_run {s : ByteArray} {j : Nat} (hj : j < s.size) (h1 : 97 ≤ (s[j]'hj).toNat) (h2 : (s[j]'hj).toNat ≤ 122) : runL (s.data.toList.drop j) = runL (s.data.toList.drop (j + 1)) + 1 :=
  (run_yes (k := j) (x := (s[j]'hj).toNat) (by unfold byteN; rw [dif_pos hj]) (by unfold letN; simp only [Bool.and_eq_true, decide_eq_true_eq]; exact ⟨h1, h2⟩)).2
theorem byte_stop {s : ByteArray} {j : Nat} (hj : j < s.size) (h : ¬ (97 ≤ (s[j]'hj).toNat ∧ (s[j]'hj).toNat ≤ 122)) : runL (s.data.toList.drop j) = 0 :=
  run_no (k := j) (x := (s[j]'hj).toNat) (by unfold byteN; rw [dif_pos hj]) (by unfold letN; rw [Bool.eq_false_iff]; simp only [ne_eq, Bool.and_eq_true, decide_eq_true_eq]; exact h)
theorem end_stop {s : ByteArray} {j : Nat} (hj : s.size ≤ j) : runL (s.data.toList.drop j) = 0 := by
  rw [List.drop_eq_nil_of_le (by rw [← Lib.size_eq]; exact hj)]; rfl
set_option maxRecDepth 100000 in
set_option maxHeartbeats 4000000 in
theorem next_spec (s : ByteArray) (hs : s.size ≤ 2000) (k : Nat) (hk : k < s.size) (t : TT) (r : Nat) (hR : nextR s k = (t, r)) (w : World) :
    Calls Tryz.prog 23 #[.string s, .int .i64 (k : Int)] w fun e w' => e = .returned (.tuple #[.agg #[.int .i64 t.1, .string t.2.1, .int .i64 t.2.2.1, .int .i64 t.2.2.2.1, .string t.2.2.2.2], .int .i64 (r : Int)]) ∧ Below w.heap.size w w' := by
  have HR : Hid (nextR s k = (t, r)) := hR
  clear hR
  go_enter Tryz.func23, Tryz.ntmps23
  go_upto_block 0 with fail
  obtain ⟨V, hV⟩ : ∃ V, V = w.alloc (.cells #[.int .i64 0, .string ⟨#[]⟩, .int .i64 0, .int .i64 0, .string ⟨#[]⟩] 33) := ⟨_, rfl⟩
  rw [← hV]
  have hxV : Below w.heap.size w V := by rw [hV]; exact (Below.refl _ _).alloc (Nat.le_refl _) _
  have hT : Tok5 V w.heap.size := by rw [hV]; exact Tok5.new w
  obtain ⟨B, hB⟩ : ∃ B, w.heap.size = B := ⟨_, rfl⟩
  have hw : w.heap.size ≤ B := by omega
  rw [hB] at hT ⊢
  have HT : Hid (Tok5 V B) := hT
  clear hT hV hB
  obtain ⟨m, hm⟩ : ∃ m, runL (s.data.toList.drop k) = m := ⟨_, rfl⟩
  have HM : Hid (runL (s.data.toList.drop k) = m) := hm
  have hml : k + m ≤ s.size := by
    have := runL_le (s.data.toList.drop k)
    rw [List.length_drop, ← Lib.size_eq, hm] at this
    omega
  clear hm
  go_cut [6] (fun s6 wc => s6 = .int .i64 ((k + m : Nat) : Int) ∧ wc = V)
  case first =>
    go_wp2_with fail
    go_loopw [6] (fun i wr => ∃ j : Nat, k ≤ j ∧ j ≤ s.size ∧ i = .int .i64 j ∧ Hid (k + m = j + runL (s.data.toList.drop j)) ∧ wr = V) (fun i _ => s.size - (intOf i).toNat)
    case atStart => exact ⟨k, Nat.le_refl _, by omega, rfl, by have := HM.out; exact (show k + m = k + runL (s.data.toList.drop k) by omega), rfl⟩
    case round =>
      obtain ⟨j, hj0, hj1, rfl, hrun, hwr⟩ := hrel
      subst hwr
      by_cases hlt : j < s.size
      · have hi0 : (0 : Int) ≤ (j : Int) := by omega
        have hi1 : (j : Int) < (s.size : Int) := by omega
        by_cases h1 : (s[j]'hlt).toNat < 97
        · have hfin : Hid ((j : Int) = ((k + m : Nat) : Int)) := by
            have h3 := byte_stop hlt (fun h => by omega)
            have h4 := hrun.out
            exact (show (j : Int) = ((k + m : Nat) : Int) by omega)
          go_wp2
          go_meet
          exact ⟨by rw [hfin.out], rfl⟩
        by_cases h2 : 122 < (s[j]'hlt).toNat
        · have hfin : Hid ((j : Int) = ((k + m : Nat) : Int)) := by
            have h3 := byte_stop hlt (fun h => by omega)
            have h4 := hrun.out
            exact (show (j : Int) = ((k + m : Nat) : Int) by omega)
          go_wp2
          go_meet
          exact ⟨by rw [hfin.out], rfl⟩
        have hrun2 : Hid (k + m = (j + 1) + runL (s.data.toList.drop (j + 1))) := by
          have h3 := byte_run hlt (by omega) (by omega)
          have h4 := hrun.out
          exact (show k + m = (j + 1) + runL (s.data.toList.drop (j + 1)) by omega)
        go_wp2
        go_roundw
        case rel => exact ⟨j + 1, by omega, by omega, by go_num, hrun2, by first | rfl | trivial⟩
        case measure => simp [intOf]; omega
      · have hi1 : ¬ (j : Int) < (s.size : Int) := by omega
        have hfin : Hid ((j : Int) = ((k + m : Nat) : Int)) := by
          have h3 := end_stop (s := s) (j := j) (by omega)
          have h4 := hrun.out
          exact (show (j : Int) = ((k + m : Nat) : Int) by omega)
        go_wp2
        go_meet
        exact ⟨by rw [hfin.out], rfl⟩
  case rest =>
    obtain ⟨rfl, hwc⟩ := hcut
    subst hwc
    by_cases hm0 : m = 0
    · subst hm0
      have hk0 : ((k + 0 : Nat) : Int) = (k : Int) := rfl
      rw [hk0]
      clear hk0
      have hN := nextR_long (s := s) (k := k) HM.out
      obtain ⟨f, hf⟩ : ∃ f, k + min 14 (s.size - k) = f := ⟨_, rfl⟩
      have hf1 : k < f := by omega
      have hf2 : f ≤ s.size := by omega
      rw [show min 14 (s.size - k) = f - k by omega, HR.out] at hN
      have HN : Hid (lngR s k (f - k) = (t, r)) := hN.symm
      clear hN
      go_wp2_with fail
      refine (far_spec s hs k hk _).mono ?_
      rw [hf]
      rintro e0 w1 ⟨rfl, rfl⟩
      clear hf
      go_wp2_with fail
      go_loopw [6] (fun i wr => ∃ e : Nat, k ≤ e ∧ e ≤ s.size ∧ i = .int .i64 e ∧ Hid (lngR s k (e - k) = (t, r)) ∧ Hid (Tok5 wr B) ∧ Below w.heap.size w wr) (fun i _ => (intOf i).toNat)
      case atStart => exact ⟨f, by omega, hf2, rfl, HN, HT, hxV⟩
      case round =>
        obtain ⟨e, hj2, hje, rfl, hL, hT5, hxw⟩ := hrel
        have hi0 : (0 : Int) ≤ (k : Int) := by omega
        have hj1 : (e : Int) ≤ (s.size : Int) := by omega
        by_cases hke : k < e
        · have hj0 : (k : Int) < (e : Int) := by omega
          obtain ⟨p, hpe⟩ : ∃ p, s.extract k e = p := ⟨_, rfl⟩
          have hpz : p.size = e - k := by rw [← hpe, Lib.size_eq, Lib.extract_data, List.length_take, List.length_drop, ← Lib.size_eq]; omega
          have hpm : p.size ≤ 1048576 := by omega
          obtain ⟨ck, cn, ct, c, hC⟩ : ∃ a b d c, readR p = (a, b, d, c) := ⟨_, _, _, _, rfl⟩
          obtain ⟨hC1, hC2⟩ := readR_b hC
          have HC : Hid (readR p = (ck, cn, ct, c)) := hC
          have HYes : Hid (c = true → lngR s k (e - k) = ((2, ⟨#[]⟩, ck, cn, ct), e)) := by
            have : c = true → lngR s k (e - k) = ((2, ⟨#[]⟩, ck, cn, ct), e) := fun h => lngR_yes hke (by rw [hpe]; exact hC2 h)
            exact this
          have HNo : Hid (c = false → lngR s k (e - 1 - k) = (t, r)) := by
            have : c = false → lngR s k (e - 1 - k) = (t, r) := fun h => by
              rw [← lngR_no hke (by rw [hpe]; exact some_none (hC1.trans h))]
              exact hL.out
            exact this
          clear hC hC1 hC2 hpz
          go_wp2_with fail
          refine (readcell_spec p hpm _ ck cn ct c HC.out).mono ?_
          rintro e0 w2 ⟨rfl, hb2⟩
          have hx2 := chain hxw hb2
          have T2 : Hid (Tok5 w2 B) := hT5.out.below hb2
          clear hb2
          cases c
          · have T3 : Hid (Tok5 (w2.alloc (.cells #[.int .i64 ck, .int .i64 cn, .string ct] 31)) B) := T2.out.below ((Below.refl _ _).alloc (Nat.le_refl _) _)
            have hx3 := hx2.alloc hx2.size (.cells #[.int .i64 ck, .int .i64 cn, .string ct] 31)
            go_wp2_with fail
            go_roundw
            case rel => exact ⟨e - 1, by omega, by omega, by congr 1; omega, HNo.out (by trivial), T3, hx3⟩
            case measure => simp [intOf]; omega
          · have hh := hL.out
            rw [HYes.out (by trivial)] at hh
            injection hh with e1 e2
            subst e1 e2
            go_upto_region 19 with fail
            obtain ⟨V2, hV2⟩ : ∃ V2, V2 = w2.alloc (.cells #[.int .i64 ck, .int .i64 cn, .string ct] 31) := ⟨_, rfl⟩
            rw [← hV2]
            have hbV : Below w2.heap.size w2 V2 := by rw [hV2]; exact (Below.refl _ _).alloc (Nat.le_refl _) _
            obtain ⟨b0, b1, b2, _⟩ := box3 (w := w2) (w1 := V2) (a := .int .i64 ck) (b := .int .i64 cn) (c := .string ct) (T := 31) (by rw [hV2]; exact Below.refl _ _)
            have hxV2 := chain hx2 hbV
            have TV2 : Hid (Tok5 V2 B) := T2.out.below hbV
            clear hV2 hbV
            obtain ⟨a0, a1, a2, a3, a4, aB, a5, a6, a7, a8, a9⟩ := TV2.out
            go_wp2_with fail
            generalize hZ : (((((V2.setCell ⟨B, 0, none⟩ _).setCell ⟨B, 1, none⟩ _).setCell ⟨B, 2, none⟩ _).setCell ⟨B, 3, none⟩ _).setCell ⟨B, 4, none⟩ _) = Z
            obtain ⟨y0, y1, y2, y3, y4, yB⟩ := out5 _ _ _ _ _ ⟨a0, a1, a2, a3, a4, aB⟩ Z hZ.symm
            have hbZ : Below w.heap.size w Z := by rw [← hZ]; exact ((((hxV2.setCell hw _).setCell hw _).setCell hw _).setCell hw _).setCell hw _
            refine bodyPost_ret (by simp [results, Tryz.results23, go_sem, y0, y1, y2, y3, y4]; try rfl) rfl ?_
            exact ⟨rfl, hbZ⟩

        · have hee : e = k := by omega
          subst hee
          have hj0 : ¬ (e : Int) < (e : Int) := by omega
          have hn1 : (e : Int) + 1 ≤ (s.size : Int) := by omega
          have hn2 : (e : Int) ≤ (e : Int) + 1 := by omega
          have hL2 := hL.out
          rw [Nat.sub_self, lngR_zero] at hL2
          obtain ⟨q, hq⟩ : ∃ q, s.extract e (e + 1) = q := ⟨_, rfl⟩
          rw [hq] at hL2
          obtain ⟨g, hg⟩ : ∃ g, signB q = g := ⟨_, rfl⟩
          rw [hg] at hL2
          have HG : Hid (signB q = g) := hg
          have HL2 : Hid ((if g = true then ((3, q, zeroC), e + 1) else (zeroTok, e)) = (t, r)) := hL2
          clear hg hL2 hL
          go_wp2_with fail
          refine (sign_spec q _ g HG.out).mono ?_
          rintro e0 w2 ⟨rfl, hb2⟩
          have hx2 := chain hxw hb2
          have T2 : Hid (Tok5 w2 B) := hT5.out.below hb2
          clear hb2
          cases g
          · have hh := HL2.out
            rw [if_neg (by decide)] at hh
            injection hh with e1 e2
            subst e1 e2
            obtain ⟨a0, a1, a2, a3, a4, aB, a5, a6, a7, a8, a9⟩ := T2.out
            go_wp2_with fail
            generalize hZ : (((((w2.setCell ⟨B, 0, none⟩ _).setCell ⟨B, 1, none⟩ _).setCell ⟨B, 2, none⟩ _).setCell ⟨B, 3, none⟩ _).setCell ⟨B, 4, none⟩ _) = Z
            obtain ⟨y0, y1, y2, y3, y4, yB⟩ := out5 _ _ _ _ _ ⟨a0, a1, a2, a3, a4, aB⟩ Z hZ.symm
            have hbZ : Below w.heap.size w Z := by rw [← hZ]; exact ((((hx2.setCell hw _).setCell hw _).setCell hw _).setCell hw _).setCell hw _
            refine bodyPost_ret (by simp [results, Tryz.results23, go_sem, y0, y1, y2, y3, y4]; try rfl) rfl ?_
            exact ⟨rfl, hbZ⟩

          · have hh := HL2.out
            rw [if_pos rfl] at hh
            injection hh with e1 e2
            subst e1 e2
            obtain ⟨a0, a1, a2, a3, a4, aB, a5, a6, a7, a8, a9⟩ := T2.out
            go_wp2_with fail
            generalize hZ : (((((w2.setCell ⟨B, 0, none⟩ _).setCell ⟨B, 1, none⟩ _).setCell ⟨B, 2, none⟩ _).setCell ⟨B, 3, none⟩ _).setCell ⟨B, 4, none⟩ _) = Z
            obtain ⟨y0, y1, y2, y3, y4, yB⟩ := out5 _ _ _ _ _ ⟨a0, a1, a2, a3, a4, aB⟩ Z hZ.symm
            have hbZ : Below w.heap.size w Z := by rw [← hZ]; exact ((((hx2.setCell hw _).setCell hw _).setCell hw _).setCell hw _).setCell hw _
            refine bodyPost_ret (by simp [results, Tryz.results23, go_sem, y0, y1, y2, y3, y4]; try rfl) rfl ?_
            exact ⟨rfl, hbZ⟩
    · have hpos : 0 < m := by omega
      obtain ⟨e, he⟩ : ∃ e, k + m = e := ⟨_, rfl⟩
      have hN := nextR_word (s := s) (k := k) (e := e) (by rw [HM.out]; exact hpos) (by rw [HM.out]; exact he)
      obtain ⟨p, hpe⟩ : ∃ p, s.extract k e = p := ⟨_, rfl⟩
      rw [hpe] at hN
      rw [he]
      have hpz : p.size = e - k := by rw [← hpe, Lib.size_eq, Lib.extract_data, List.length_take, List.length_drop, ← Lib.size_eq]; omega
      have hpm : p.size ≤ 1048576 := by omega
      have hpM : p.size ≤ maxLen := by unfold maxLen; omega
      have hi0 : (0 : Int) ≤ (k : Int) := by omega
      have hj0 : (k : Int) < (e : Int) := by omega
      have hj2 : (k : Int) ≤ (e : Int) := by omega
      have hj1 : (e : Int) ≤ (s.size : Int) := by omega
      obtain ⟨ck, cn, ct, c, hC⟩ : ∃ a b d c, readR p = (a, b, d, c) := ⟨_, _, _, _, rfl⟩
      obtain ⟨hC1, hC2⟩ := readR_b hC
      have HC : Hid (readR p = (ck, cn, ct, c)) := hC
      obtain ⟨g, hg⟩ : ∃ g, signB p = g := ⟨_, rfl⟩
      have HG : Hid (signB p = g) := hg
      obtain ⟨q, hq⟩ : ∃ q, nameK p = q := ⟨_, rfl⟩
      have HQ : Hid (nameK p = q) := hq
      have HN : Hid (nextR s k = if (wordR p).2 = true then ((wordR p).1, e) else (zeroTok, k)) := hN
      have HC1 : Hid ((readB p).isSome = c) := hC1
      have HC2 : Hid (c = true → readB p = some (ck, cn, ct)) := hC2
      clear hC hg hq hN hC1 hC2 hpz he
      go_wp2_with fail
      refine (readcell_spec p hpm _ ck cn ct c HC.out).mono ?_
      rintro e0 w1 ⟨rfl, hb1⟩
      have hx1 := chain hxV hb1
      have T1 : Hid (Tok5 w1 B) := HT.out.below hb1
      clear hb1
      cases c
      · have hnone := some_none HC1.out
        have HNO : Hid (readB p = none) := hnone
        clear hnone
        go_wp2_with fail
        refine (sign_spec p _ g HG.out).mono ?_
        rintro e0 w2 ⟨rfl, hb2⟩
        have hx2 := chain (hx1.alloc hx1.size _) hb2
        have T2 : Hid (Tok5 w2 B) := (T1.out.below ((Below.refl _ _).alloc (Nat.le_refl _) _)).below hb2
        clear hb2
        cases g
        · go_wp2_with fail
          refine (namek_spec p _ hpM q HQ.out).mono ?_
          rintro e0 w3 ⟨rfl, hb3⟩
          have hx3 := chain hx2 hb3
          have T3 : Hid (Tok5 w3 B) := T2.out.below hb3
          clear hb3
          have htk : tokB (1, p, zeroC) = q := by rw [tokB_1, HQ.out, decide_eq_true rfl, Bool.and_true]
          have hwn : Hid (wordR p = ((1, p, zeroC), q)) := by
            have := wordR_name HNO.out HG.out
            rw [htk] at this
            exact this
          clear htk
          cases q
          · have hh := HR.out
            rw [HN.out, hwn.out, if_neg (fun h => by cases h)] at hh
            injection hh with e1 e2
            subst e1 e2
            obtain ⟨a0, a1, a2, a3, a4, aB, a5, a6, a7, a8, a9⟩ := T3.out
            go_wp2_with fail
            generalize hZ : (((((w3.setCell ⟨B, 0, none⟩ _).setCell ⟨B, 1, none⟩ _).setCell ⟨B, 2, none⟩ _).setCell ⟨B, 3, none⟩ _).setCell ⟨B, 4, none⟩ _) = Z
            obtain ⟨y0, y1, y2, y3, y4, yB⟩ := out5 _ _ _ _ _ ⟨a0, a1, a2, a3, a4, aB⟩ Z hZ.symm
            have hbZ : Below w.heap.size w Z := by rw [← hZ]; exact ((((hx3.setCell hw _).setCell hw _).setCell hw _).setCell hw _).setCell hw _
            refine bodyPost_ret (by simp [results, Tryz.results23, go_sem, y0, y1, y2, y3, y4]; try rfl) rfl ?_
            exact ⟨rfl, hbZ⟩

          · have hh := HR.out
            rw [HN.out, hwn.out, if_pos rfl] at hh
            injection hh with e1 e2
            subst e1 e2
            obtain ⟨a0, a1, a2, a3, a4, aB, a5, a6, a7, a8, a9⟩ := T3.out
            go_wp2_with fail
            generalize hZ : (((((w3.setCell ⟨B, 0, none⟩ _).setCell ⟨B, 1, none⟩ _).setCell ⟨B, 2, none⟩ _).setCell ⟨B, 3, none⟩ _).setCell ⟨B, 4, none⟩ _) = Z
            obtain ⟨y0, y1, y2, y3, y4, yB⟩ := out5 _ _ _ _ _ ⟨a0, a1, a2, a3, a4, aB⟩ Z hZ.symm
            have hbZ : Below w.heap.size w Z := by rw [← hZ]; exact ((((hx3.setCell hw _).setCell hw _).setCell hw _).setCell hw _).setCell hw _
            refine bodyPost_ret (by simp [results, Tryz.results23, go_sem, y0, y1, y2, y3, y4]; try rfl) rfl ?_
            exact ⟨rfl, hbZ⟩

        · have hh := HR.out
          rw [HN.out, wordR_sign HNO.out HG.out, if_pos rfl] at hh
          injection hh with e1 e2
          subst e1 e2
          obtain ⟨a0, a1, a2, a3, a4, aB, a5, a6, a7, a8, a9⟩ := T2.out
          go_wp2_with fail
          generalize hZ : (((((w2.setCell ⟨B, 0, none⟩ _).setCell ⟨B, 1, none⟩ _).setCell ⟨B, 2, none⟩ _).setCell ⟨B, 3, none⟩ _).setCell ⟨B, 4, none⟩ _) = Z
          obtain ⟨y0, y1, y2, y3, y4, yB⟩ := out5 _ _ _ _ _ ⟨a0, a1, a2, a3, a4, aB⟩ Z hZ.symm
          have hbZ : Below w.heap.size w Z := by rw [← hZ]; exact ((((hx2.setCell hw _).setCell hw _).setCell hw _).setCell hw _).setCell hw _
          refine bodyPost_ret (by simp [results, Tryz.results23, go_sem, y0, y1, y2, y3, y4]; try rfl) rfl ?_
          exact ⟨rfl, hbZ⟩

      · have hh := HR.out
        rw [HN.out, wordR_cell (HC2.out rfl), if_pos rfl] at hh
        injection hh with e1 e2
        subst e1 e2
        go_upto_region 8 with fail
        obtain ⟨V2, hV2⟩ : ∃ V2, V2 = w1.alloc (.cells #[.int .i64 ck, .int .i64 cn, .string ct] 31) := ⟨_, rfl⟩
        rw [← hV2]
        have hbV : Below w1.heap.size w1 V2 := by rw [hV2]; exact (Below.refl _ _).alloc (Nat.le_refl _) _
        obtain ⟨b0, b1, b2, _⟩ := box3 (w := w1) (w1 := V2) (a := .int .i64 ck) (b := .int .i64 cn) (c := .string ct) (T := 31) (by rw [hV2]; exact Below.refl _ _)
        have hxV2 := chain hx1 hbV
        have TV2 : Hid (Tok5 V2 B) := T1.out.below hbV
        clear hV2 hbV
        obtain ⟨a0, a1, a2, a3, a4, aB, a5, a6, a7, a8, a9⟩ := TV2.out
        go_wp2_with fail
        generalize hZ : (((((V2.setCell ⟨B, 0, none⟩ _).setCell ⟨B, 1, none⟩ _).setCell ⟨B, 2, none⟩ _).setCell ⟨B, 3, none⟩ _).setCell ⟨B, 4, none⟩ _) = Z
        obtain ⟨y0, y1, y2, y3, y4, yB⟩ := out5 _ _ _ _ _ ⟨a0, a1, a2, a3, a4, aB⟩ Z hZ.symm
        have hbZ : Below w.heap.size w Z := by rw [← hZ]; exact ((((hxV2.setCell hw _).setCell hw _).setCell hw _).setCell hw _).setCell hw _
        refine bodyPost_ret (by simp [results, Tryz.results23, go_sem, y0, y1, y2, y3, y4]; try rfl) rfl ?_
        exact ⟨rfl, hbZ⟩
end Go.Proofs.YtgiknjlifocioaaGreatDoor
