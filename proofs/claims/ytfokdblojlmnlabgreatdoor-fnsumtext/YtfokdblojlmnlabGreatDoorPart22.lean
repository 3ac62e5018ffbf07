/-
  A part of the proof: TwoS.
-/
import Derived.Test.YtfokdblojlmnlabGreatDoorPart21

/-
  The contract of the model's question for a sign of a level.
-/
namespace Go.Proofs.YtfokdblojlmnlabGreatDoor
open Go.ChangeShapes Go.WideShapes Go.ChangeAt Go.RowKit
attribute [local go_sem ↓] Go.wp_at_zero Go.wp_at_succ
attribute [local simp] World.cell?_alloc_past World.cell?_alloc_at World.frozen?_alloc_at cell_far cell_off cell_here World.frozen?_alloc_past

/-- What the answer of l8Two says. -/
def TwoOut (toks : List TT) (lev k : Nat) (kd : Int) (k' : Nat) : Prop := (kd = 0 ∧ k' = k ∧ twoT lev (toks.drop k) = none) ∨ (3 ≤ kd ∧ kd ≤ 10 ∧ k' = k + 1 ∧ twoT lev (toks.drop k) = some (kd, toks.drop (k + 1)))
/-- Kinds lie there. -/
def KindsAt (w : World) (B : Nat) (ks : List Int) : Prop := B < w.heap.size ∧ ∀ j (h : j < ks.length), w.cell? ⟨B, j, none⟩ = some (.int .i64 ks[j])
theorem KindsAt.below {w w' : World} {B : Nat} {ks : List Int} (h : KindsAt w B ks) (hb : Below w.heap.size w w') : KindsAt w' B ks :=
  ⟨Nat.lt_of_lt_of_le h.1 hb.size, fun j hj => by rw [hb.cell (p := ⟨B, j, none⟩) h.1]; exact h.2 j hj⟩
theorem KindsAt.keep {w w' : World} {B R : Nat} {ks : List Int} (h : KindsAt w B ks) (hk : Keep R w w') (hB : B ≠ R) : KindsAt w' B ks :=
  ⟨Nat.lt_of_lt_of_le h.1 hk.size, fun j hj => by rw [hk.cell h.1 hB]; exact h.2 j hj⟩
theorem twoK_yes {r r1 : List TT} {kd : Int} {ks : List Int} (h : seesT (sgn kd) r = some r1) : twoK r (kd :: ks) = some (kd, r1) := by unfold twoK; rw [h]
theorem twoK_no {r : List TT} {kd : Int} {ks : List Int} (h : seesT (sgn kd) r = none) : twoK r (kd :: ks) = twoK r ks := by
  conv => lhs; unfold twoK
  rw [h]
theorem kinds_310 (lev : Nat) : ∀ kd ∈ kindsL lev, 3 ≤ kd ∧ kd ≤ 10 := by
  intro kd h
  unfold kindsL at h
  repeat' split at h
  all_goals simp at h
  all_goals omega
/-- What comes of l8Two. -/
def TwoPost (w0 : World) (R : Nat) (a : Option Addr) (n c : Nat) (toks : List TT) (lev k : Nat) (vo : Value) (out : List TI) (bad : Bool) (e : Ending) (w' : World) : Prop := ∃ kd k', e = .returned (.int .i64 kd) ∧ TwoOut toks lev k kd k' ∧ Rd w0 w' R a n c toks k' vo out bad
def TwoRel (w0 : World) (R B : Nat) (a : Option Addr) (n c : Nat) (toks : List TT) (lev k : Nat) (vo : Value) (out : List TI) (bad : Bool) (ks : List Int) (i : Value) (wr : World) : Prop :=
  ∃ j : Nat, j ≤ ks.length ∧ i = .int .i64 j ∧ Hid (twoK (toks.drop k) (ks.drop j) = twoT lev (toks.drop k)) ∧ Hid (Rd w0 wr R a n c toks k vo out bad) ∧ Hid (KindsAt wr B ks)
set_option maxRecDepth 100000 in
set_option maxHeartbeats 8000000 in
theorem two_spec {w0 w : World} {R : Nat} {a : Option Addr} {n c : Nat} {toks : List TT} {k : Nat} {vo : Value} {out : List TI} {bad : Bool} (h : Rd w0 w R a n c toks k vo out bad) (hm : n ≤ 1048576) (lev : Nat) (hl : lev = 0 ∨ lev = 1 ∨ lev = 3 ∨ lev = 4 ∨ lev = 5) :
    Calls Tryz.prog 146 #[.pointer (some ⟨R, 0, none⟩), .int .i64 (lev : Int)] w fun e w' => TwoPost w0 R a n c toks lev k vo out bad e w' := by
  have H : Hid (Rd w0 w R a n c toks k vo out bad) := h
  have hRw := h.box.lt
  clear h
  obtain ⟨V, hV⟩ : ∃ V, V = (((((((w.alloc (.cells #[.int .i64 10] 2)).alloc (.cells #[.int .i64 9] 2)).alloc (.cells #[] 2)).alloc (.cells #[.int .i64 7, .int .i64 8] 2)).alloc (.cells #[.int .i64 3, .int .i64 4] 2)).alloc (.cells #[.int .i64 5, .int .i64 6] 2)).alloc (.cells #[.slice (some ⟨w.heap.size, 0, none⟩) 1 1, .slice (some ⟨w.heap.size + 1, 0, none⟩) 1 1, .slice (some ⟨w.heap.size + 1 + 1, 0, none⟩) 0 0, .slice (some ⟨w.heap.size + 1 + 1 + 1, 0, none⟩) 2 2, .slice (some ⟨w.heap.size + 1 + 1 + 1 + 1, 0, none⟩) 2 2, .slice (some ⟨w.heap.size + 1 + 1 + 1 + 1 + 1, 0, none⟩) 2 2] 107)) := ⟨_, rfl⟩
  have hbV : Below w.heap.size w V := by rw [hV]; exact (((((((Below.refl _ _).alloc (Nat.le_refl _) _).alloc (by simp) _).alloc (by simp; omega) _).alloc (by simp; omega) _).alloc (by simp; omega) _).alloc (by simp; omega) _).alloc (by simp; omega) _
  have HVd : Hid (V = (((((((w.alloc (.cells #[.int .i64 10] 2)).alloc (.cells #[.int .i64 9] 2)).alloc (.cells #[] 2)).alloc (.cells #[.int .i64 7, .int .i64 8] 2)).alloc (.cells #[.int .i64 3, .int .i64 4] 2)).alloc (.cells #[.int .i64 5, .int .i64 6] 2)).alloc (.cells #[.slice (some ⟨w.heap.size, 0, none⟩) 1 1, .slice (some ⟨w.heap.size + 1, 0, none⟩) 1 1, .slice (some ⟨w.heap.size + 1 + 1, 0, none⟩) 0 0, .slice (some ⟨w.heap.size + 1 + 1 + 1, 0, none⟩) 2 2, .slice (some ⟨w.heap.size + 1 + 1 + 1 + 1, 0, none⟩) 2 2, .slice (some ⟨w.heap.size + 1 + 1 + 1 + 1 + 1, 0, none⟩) 2 2] 107))) := hV
  rcases hl with rfl | rfl | rfl | rfl | rfl
  · have hK : Hid (KindsAt V (w.heap.size) [10]) := by
      have : KindsAt V (w.heap.size) [10] := by
        have hb1 : Below (w.alloc (.cells #[.int .i64 10] 2)).heap.size (w.alloc (.cells #[.int .i64 10] 2)) V := by rw [hV]; exact ((((((Below.refl _ _).alloc (Nat.le_refl _) _).alloc (by simp) _).alloc (by simp) _).alloc (by simp) _).alloc (by simp) _).alloc (by simp) _
        refine ⟨by have := hb1.size; simp at this; omega, fun j hj => ?_⟩
        match j, hj with
        | 0, _ => rw [hb1.cell (p := ⟨w.heap.size, 0, none⟩) (by simp)]; simp
      exact this
    change Calls Tryz.prog 146 #[.pointer (some ⟨R, 0, none⟩), .int .i64 0] w _
    go_enter Tryz.func146, Tryz.ntmps146
    go_wp2_with fail
    rw [← hV]
    obtain ⟨B, hB⟩ : ∃ B, w.heap.size = B := ⟨_, rfl⟩
    have hBR : B ≠ R := by omega
    rw [hB] at hK ⊢
    clear hV HVd hB
    have H1 : Hid (Rd w0 V R a n c toks k vo out bad) := H.out.below hbV
    clear H
    go_loopw [6] (fun i wr => TwoRel w0 R B a n c toks 0 k vo out bad [10] i wr) (fun i _ => 1 - (intOf i).toNat)
    case atStart => exact ⟨0, Nat.zero_le _, rfl, rfl, H1, hK⟩
    case round =>
      obtain ⟨j, hj, rfl, hT, HR, KK⟩ := hrel
      simp only [List.length_cons, List.length_nil] at hj
      clear H1 hK
      by_cases hlt : j < 1
      · have hlt' : j < ([10] : List Int).length := hlt
        have hkc := KK.out.2 j hlt'
        have hmem := kinds_310 0 (([10] : List Int)[j]'hlt') (List.getElem_mem hlt')
        have hdr : ([10] : List Int).drop j = (([10] : List Int)[j]'hlt') :: ([10] : List Int).drop (j + 1) := List.drop_eq_getElem_cons hlt'
        have hT2 := hT.out
        rw [hdr] at hT2
        generalize (([10] : List Int)[j]'hlt') = kd at hkc hmem hT2
        have HT2 : Hid (twoK (toks.drop k) (kd :: ([10] : List Int).drop (j + 1)) = twoT 0 (toks.drop k)) := hT2
        obtain ⟨hk3, hk10⟩ := hmem
        obtain ⟨q, hq⟩ : ∃ q : Nat, kd - 3 = (q : Int) := ⟨(kd - 3).toNat, by omega⟩
        have hq0 : (0 : Int) ≤ (q : Int) := by omega
        have hq9 : (q : Int) < 10 := by omega
        have hwq : IntKind.i64.wrap (q : Int) = (q : Int) := by rw [IntKind.wrap_i64]; omega
        have hi0 : (0 : Int) ≤ (j : Int) := by omega
        have hi1 : (j : Int) < 1 := by omega
        have hBl := KK.out.1
        clear hdr hT2 hT
        go_wp2_with fail
        refine wp_region_held_drew (S := (fun w' => w'.cell? ⟨B, j, none⟩ = some (.int .i64 kd))) (by kernel_rfl) ?_ (fun hHeld => ?_)
        · (((try dsimp only); (repeat' apply And.intro) <;> first | (go_keep; done) | (simp (disch := first | omega | (simp <;> omega) | fail) [*]; done) | fail))
        refine wpAnyH_take (i := 0) (by simp only [List.getElem?_toArray, List.getElem?_cons_zero]; rfl) (by kernel_rfl) (by kernel_rfl) (by kernel_rfl) (by intro _ _ _ h; exact h) (Or.inl ⟨by rfl, fun w hSw => by (dsimp only at hSw; go_simp; (try with_reducible rfl))⟩) (by assumption) ?_
        simp only [Act.put, List.setIfInBounds_toArray, List.set_cons_zero, List.set_cons_succ]
        refine wpAnyH_take (i := 2) (by simp only [List.getElem?_toArray, List.getElem?_cons_zero, List.getElem?_cons_succ]; rfl) (by kernel_rfl) (by kernel_rfl) (by kernel_rfl) (by intro _ _ _ h; exact h) (Or.inl ⟨by rfl, fun w hSw => by (dsimp only at hSw; go_simp; (try with_reducible rfl))⟩) (by assumption) ?_
        simp only [Act.put, List.setIfInBounds_toArray, List.set_cons_zero, List.set_cons_succ]
        refine wpAnyH_take (i := 3) (by simp only [List.getElem?_toArray, List.getElem?_cons_zero, List.getElem?_cons_succ]; rfl) (by kernel_rfl) (by kernel_rfl) (by kernel_rfl) (by intro _ _ _ h; exact h) (Or.inl ⟨by rfl, fun w hSw => by (dsimp only at hSw; go_simp; (try with_reducible rfl))⟩) (by assumption) ?_
        simp only [Act.put, List.setIfInBounds_toArray, List.set_cons_zero, List.set_cons_succ]
        refine wpAnyH_take (i := 4) (by simp only [List.getElem?_toArray, List.getElem?_cons_zero, List.getElem?_cons_succ]; rfl) (by kernel_rfl) (by kernel_rfl) (by kernel_rfl) (by intro _ _ _ h; exact h) (Or.inl ⟨by rfl, fun w hSw => by (dsimp only at hSw; go_simp; (try with_reducible rfl))⟩) (by assumption) ?_
        simp only [Act.put, List.setIfInBounds_toArray, List.set_cons_zero, List.set_cons_succ]
        refine wpAnyH_take (i := 5) (by simp only [List.getElem?_toArray, List.getElem?_cons_zero, List.getElem?_cons_succ]; rfl) (by kernel_rfl) (by kernel_rfl) (by kernel_rfl) (by intro _ _ _ h; exact h) (Or.inl ⟨by rfl, fun w hSw => by (dsimp only at hSw; go_simp; (try with_reducible rfl))⟩) (by assumption) ?_
        simp only [Act.put, List.setIfInBounds_toArray, List.set_cons_zero, List.set_cons_succ]
        refine wpAnyH_take (i := 6) (by simp only [List.getElem?_toArray, List.getElem?_cons_zero, List.getElem?_cons_succ]; rfl) (by kernel_rfl) (by kernel_rfl) (by kernel_rfl) (by intro _ _ _ h; exact h) (Or.inl ⟨by rfl, fun w hSw => by (dsimp only at hSw; go_simp; (try with_reducible rfl))⟩) (by assumption) ?_
        simp only [Act.put, List.setIfInBounds_toArray, List.set_cons_zero, List.set_cons_succ]
        refine wpAnyH_ready (rs := [1]) (by kernel_rfl) (by simp) ?_
        refine AllReadyH.cons (by simp only [List.getElem?_toArray, List.getElem?_cons_zero, List.getElem?_cons_succ]; rfl) ?_ AllReadyH.nil
        intro K hK
        go_simp
        refine (signs8_spec _).mono ?_
        rintro e w3 ⟨gs, rfl, hsg, hgs, hb3⟩
        have hb3' := undrew hb3
        have hsj : w3.cell? ⟨gs, q, none⟩ = some (.string (sgn kd)) := by
          have := hsg kd (by omega) (by omega)
          rw [hq] at this
          exact this
        have i1 : w3.cell? ⟨B, j, none⟩ = some (.int .i64 kd) := by rw [hb3'.cell (p := ⟨B, j, none⟩) hBl]; exact hkc
        have R3 : Hid (Rd w0 w3 R a n c toks k vo out bad) := HR.out.below hb3'
        have K3 : Hid (KindsAt w3 B [10]) := KK.out.below hb3'
        have hBl3 : B < w3.heap.size := K3.out.1
        clear hsg hb3 hb3' hkc HR KK
        go_wp2_with fail
        refine hK.out _ _ ?_ (fun hHeld => ?_)
        · (((try dsimp only); (repeat' apply And.intro) <;> first | (go_keep; done) | (simp (disch := first | omega | (simp <;> omega) | fail) [*]; done) | fail))
        clear hK K
        try simp only [Act.put, List.setIfInBounds_toArray, List.set_cons_zero, List.set_cons_succ]
        refine wpAnyH_take (i := 7) (by simp only [List.getElem?_toArray, List.getElem?_cons_zero, List.getElem?_cons_succ]; rfl) (by kernel_rfl) (by kernel_rfl) (by kernel_rfl) (by intro _ _ _ h; exact h) (Or.inl ⟨by rfl, fun w hSw => by (dsimp only at hSw; go_simp; (try with_reducible rfl))⟩) (by assumption) ?_
        simp only [Act.put, List.setIfInBounds_toArray, List.set_cons_zero, List.set_cons_succ]
        refine wpAnyH_ready (rs := [8]) (by kernel_rfl) (by simp) ?_
        refine AllReadyH.cons (by simp only [List.getElem?_toArray, List.getElem?_cons_zero, List.getElem?_cons_succ]; rfl) ?_ AllReadyH.nil
        intro K hK
        go_simp
        refine hK.out _ _ ?_ (fun hHeld => ?_)
        · (((try dsimp only); (repeat' apply And.intro) <;> first | (go_keep; done) | (simp (disch := first | omega | (simp <;> omega) | fail) [*]; done) | fail))
        clear hK K
        try simp only [Act.put, List.setIfInBounds_toArray, List.set_cons_zero, List.set_cons_succ]
        refine wpAnyH_ready (rs := [9]) (by kernel_rfl) (by simp) ?_
        refine AllReadyH.cons (by simp only [List.getElem?_toArray, List.getElem?_cons_zero, List.getElem?_cons_succ]; rfl) ?_ AllReadyH.nil
        intro K hK
        go_simp
        refine (sees_spec R3.out hm (sgn kd)).mono ?_
        rintro e w4 ⟨b, k', rfl, hR4, hyes, hno, hk4⟩
        have i2 : w4.cell? ⟨B, j, none⟩ = some (.int .i64 kd) := by rw [hk4.cell hBl3 hBR]; exact i1
        have R4 : Hid (Rd w0 w4 R a n c toks k' vo out bad) := hR4
        have K4 : Hid (KindsAt w4 B [10]) := K3.out.keep hk4 hBR
        clear hR4 hk4 K3 R3 hsj i1
        go_wp2_with fail
        refine hK.out _ _ ?_ (fun hHeld => ?_)
        · (((try dsimp only); (repeat' apply And.intro) <;> first | (go_keep; done) | (simp (disch := first | omega | (simp <;> omega) | fail) [*]; done) | fail))
        clear hK K
        try simp only [Act.put, List.setIfInBounds_toArray, List.set_cons_zero, List.set_cons_succ]
        refine wpAnyH_done (by kernel_rfl) ?_ _
        cases b
        · obtain ⟨hkk, hsee⟩ := hno rfl
          rw [hkk] at R4
          have HT3 : Hid (twoK (toks.drop k) (([10] : List Int).drop (j + 1)) = twoT 0 (toks.drop k)) := (twoK_no hsee).symm.trans HT2.out
          clear hyes hno hsee HT2 hkk
          go_wp2
          go_roundw
          case rel => exact ⟨j + 1, by simp only [List.length_cons, List.length_nil]; omega, by go_num, HT3, R4, K4⟩
          case measure => simp [intOf]; omega
        · obtain ⟨hkk, hsee⟩ := hyes rfl
          rw [hkk] at R4
          have fin : Hid (TwoOut toks 0 k kd (k + 1)) := .inr ⟨hk3, hk10, rfl, HT2.out.symm.trans (twoK_yes hsee)⟩
          clear hyes hno hsee HT2 hkk
          go_wp2
          go_ret
          exact ⟨kd, k + 1, rfl, fin.out, R4.out⟩
      · have hi1 : ¬ (j : Int) < 1 := by omega
        have hjm : j = 1 := by omega
        have fin : Hid (TwoOut toks 0 k 0 k) := by
          subst hjm
          exact .inl ⟨rfl, rfl, hT.out.symm⟩
        clear hjm
        go_wp2
        go_ret
        exact ⟨0, k, rfl, fin.out, HR.out⟩
  · have hK : Hid (KindsAt V (w.heap.size + 1) [9]) := by
      have : KindsAt V (w.heap.size + 1) [9] := by
        rw [hV]
        refine ⟨by simp <;> omega, fun j hj => ?_⟩
        match j, hj with
        | 0, _ => simp
      exact this
    change Calls Tryz.prog 146 #[.pointer (some ⟨R, 0, none⟩), .int .i64 1] w _
    go_enter Tryz.func146, Tryz.ntmps146
    go_wp2_with fail
    rw [← hV]
    obtain ⟨B, hB⟩ : ∃ B, w.heap.size + 1 = B := ⟨_, rfl⟩
    have hBR : B ≠ R := by omega
    rw [hB] at hK ⊢
    clear hV HVd hB
    have H1 : Hid (Rd w0 V R a n c toks k vo out bad) := H.out.below hbV
    clear H
    go_loopw [6] (fun i wr => TwoRel w0 R B a n c toks 1 k vo out bad [9] i wr) (fun i _ => 1 - (intOf i).toNat)
    case atStart => exact ⟨0, Nat.zero_le _, rfl, rfl, H1, hK⟩
    case round =>
      obtain ⟨j, hj, rfl, hT, HR, KK⟩ := hrel
      simp only [List.length_cons, List.length_nil] at hj
      clear H1 hK
      by_cases hlt : j < 1
      · have hlt' : j < ([9] : List Int).length := hlt
        have hkc := KK.out.2 j hlt'
        have hmem := kinds_310 1 (([9] : List Int)[j]'hlt') (List.getElem_mem hlt')
        have hdr : ([9] : List Int).drop j = (([9] : List Int)[j]'hlt') :: ([9] : List Int).drop (j + 1) := List.drop_eq_getElem_cons hlt'
        have hT2 := hT.out
        rw [hdr] at hT2
        generalize (([9] : List Int)[j]'hlt') = kd at hkc hmem hT2
        have HT2 : Hid (twoK (toks.drop k) (kd :: ([9] : List Int).drop (j + 1)) = twoT 1 (toks.drop k)) := hT2
        obtain ⟨hk3, hk10⟩ := hmem
        obtain ⟨q, hq⟩ : ∃ q : Nat, kd - 3 = (q : Int) := ⟨(kd - 3).toNat, by omega⟩
        have hq0 : (0 : Int) ≤ (q : Int) := by omega
        have hq9 : (q : Int) < 10 := by omega
        have hwq : IntKind.i64.wrap (q : Int) = (q : Int) := by rw [IntKind.wrap_i64]; omega
        have hi0 : (0 : Int) ≤ (j : Int) := by omega
        have hi1 : (j : Int) < 1 := by omega
        have hBl := KK.out.1
        clear hdr hT2 hT
        go_wp2_with fail
        refine wp_region_held_drew (S := (fun w' => w'.cell? ⟨B, j, none⟩ = some (.int .i64 kd))) (by kernel_rfl) ?_ (fun hHeld => ?_)
        · (((try dsimp only); (repeat' apply And.intro) <;> first | (go_keep; done) | (simp (disch := first | omega | (simp <;> omega) | fail) [*]; done) | fail))
        refine wpAnyH_take (i := 0) (by simp only [List.getElem?_toArray, List.getElem?_cons_zero]; rfl) (by kernel_rfl) (by kernel_rfl) (by kernel_rfl) (by intro _ _ _ h; exact h) (Or.inl ⟨by rfl, fun w hSw => by (dsimp only at hSw; go_simp; (try with_reducible rfl))⟩) (by assumption) ?_
        simp only [Act.put, List.setIfInBounds_toArray, List.set_cons_zero, List.set_cons_succ]
        refine wpAnyH_take (i := 2) (by simp only [List.getElem?_toArray, List.getElem?_cons_zero, List.getElem?_cons_succ]; rfl) (by kernel_rfl) (by kernel_rfl) (by kernel_rfl) (by intro _ _ _ h; exact h) (Or.inl ⟨by rfl, fun w hSw => by (dsimp only at hSw; go_simp; (try with_reducible rfl))⟩) (by assumption) ?_
        simp only [Act.put, List.setIfInBounds_toArray, List.set_cons_zero, List.set_cons_succ]
        refine wpAnyH_take (i := 3) (by simp only [List.getElem?_toArray, List.getElem?_cons_zero, List.getElem?_cons_succ]; rfl) (by kernel_rfl) (by kernel_rfl) (by kernel_rfl) (by intro _ _ _ h; exact h) (Or.inl ⟨by rfl, fun w hSw => by (dsimp only at hSw; go_simp; (try with_reducible rfl))⟩) (by assumption) ?_
        simp only [Act.put, List.setIfInBounds_toArray, List.set_cons_zero, List.set_cons_succ]
        refine wpAnyH_take (i := 4) (by simp only [List.getElem?_toArray, List.getElem?_cons_zero, List.getElem?_cons_succ]; rfl) (by kernel_rfl) (by kernel_rfl) (by kernel_rfl) (by intro _ _ _ h; exact h) (Or.inl ⟨by rfl, fun w hSw => by (dsimp only at hSw; go_simp; (try with_reducible rfl))⟩) (by assumption) ?_
        simp only [Act.put, List.setIfInBounds_toArray, List.set_cons_zero, List.set_cons_succ]
        refine wpAnyH_take (i := 5) (by simp only [List.getElem?_toArray, List.getElem?_cons_zero, List.getElem?_cons_succ]; rfl) (by kernel_rfl) (by kernel_rfl) (by kernel_rfl) (by intro _ _ _ h; exact h) (Or.inl ⟨by rfl, fun w hSw => by (dsimp only at hSw; go_simp; (try with_reducible rfl))⟩) (by assumption) ?_
        simp only [Act.put, List.setIfInBounds_toArray, List.set_cons_zero, List.set_cons_succ]
        refine wpAnyH_take (i := 6) (by simp only [List.getElem?_toArray, List.getElem?_cons_zero, List.getElem?_cons_succ]; rfl) (by kernel_rfl) (by kernel_rfl) (by kernel_rfl) (by intro _ _ _ h; exact h) (Or.inl ⟨by rfl, fun w hSw => by (dsimp only at hSw; go_simp; (try with_reducible rfl))⟩) (by assumption) ?_
        simp only [Act.put, List.setIfInBounds_toArray, List.set_cons_zero, List.set_cons_succ]
        refine wpAnyH_ready (rs := [1]) (by kernel_rfl) (by simp) ?_
        refine AllReadyH.cons (by simp only [List.getElem?_toArray, List.getElem?_cons_zero, List.getElem?_cons_succ]; rfl) ?_ AllReadyH.nil
        intro K hK
        go_simp
        refine (signs8_spec _).mono ?_
        rintro e w3 ⟨gs, rfl, hsg, hgs, hb3⟩
        have hb3' := undrew hb3
        have hsj : w3.cell? ⟨gs, q, none⟩ = some (.string (sgn kd)) := by
          have := hsg kd (by omega) (by omega)
          rw [hq] at this
          exact this
        have i1 : w3.cell? ⟨B, j, none⟩ = some (.int .i64 kd) := by rw [hb3'.cell (p := ⟨B, j, none⟩) hBl]; exact hkc
        have R3 : Hid (Rd w0 w3 R a n c toks k vo out bad) := HR.out.below hb3'
        have K3 : Hid (KindsAt w3 B [9]) := KK.out.below hb3'
        have hBl3 : B < w3.heap.size := K3.out.1
        clear hsg hb3 hb3' hkc HR KK
        go_wp2_with fail
        refine hK.out _ _ ?_ (fun hHeld => ?_)
        · (((try dsimp only); (repeat' apply And.intro) <;> first | (go_keep; done) | (simp (disch := first | omega | (simp <;> omega) | fail) [*]; done) | fail))
        clear hK K
        try simp only [Act.put, List.setIfInBounds_toArray, List.set_cons_zero, List.set_cons_succ]
        refine wpAnyH_take (i := 7) (by simp only [List.getElem?_toArray, List.getElem?_cons_zero, List.getElem?_cons_succ]; rfl) (by kernel_rfl) (by kernel_rfl) (by kernel_rfl) (by intro _ _ _ h; exact h) (Or.inl ⟨by rfl, fun w hSw => by (dsimp only at hSw; go_simp; (try with_reducible rfl))⟩) (by assumption) ?_
        simp only [Act.put, List.setIfInBounds_toArray, List.set_cons_zero, List.set_cons_succ]
        refine wpAnyH_ready (rs := [8]) (by kernel_rfl) (by simp) ?_
        refine AllReadyH.cons (by simp only [List.getElem?_toArray, List.getElem?_cons_zero, List.getElem?_cons_succ]; rfl) ?_ AllReadyH.nil
        intro K hK
        go_simp
        refine hK.out _ _ ?_ (fun hHeld => ?_)
        · (((try dsimp only); (repeat' apply And.intro) <;> first | (go_keep; done) | (simp (disch := first | omega | (simp <;> omega) | fail) [*]; done) | fail))
        clear hK K
        try simp only [Act.put, List.setIfInBounds_toArray, List.set_cons_zero, List.set_cons_succ]
        refine wpAnyH_ready (rs := [9]) (by kernel_rfl) (by simp) ?_
        refine AllReadyH.cons (by simp only [List.getElem?_toArray, List.getElem?_cons_zero, List.getElem?_cons_succ]; rfl) ?_ AllReadyH.nil
        intro K hK
        go_simp
        refine (sees_spec R3.out hm (sgn kd)).mono ?_
        rintro e w4 ⟨b, k', rfl, hR4, hyes, hno, hk4⟩
        have i2 : w4.cell? ⟨B, j, none⟩ = some (.int .i64 kd) := by rw [hk4.cell hBl3 hBR]; exact i1
        have R4 : Hid (Rd w0 w4 R a n c toks k' vo out bad) := hR4
        have K4 : Hid (KindsAt w4 B [9]) := K3.out.keep hk4 hBR
        clear hR4 hk4 K3 R3 hsj i1
        go_wp2_with fail
        refine hK.out _ _ ?_ (fun hHeld => ?_)
        · (((try dsimp only); (repeat' apply And.intro) <;> first | (go_keep; done) | (simp (disch := first | omega | (simp <;> omega) | fail) [*]; done) | fail))
        clear hK K
        try simp only [Act.put, List.setIfInBounds_toArray, List.set_cons_zero, List.set_cons_succ]
        refine wpAnyH_done (by kernel_rfl) ?_ _
        cases b
        · obtain ⟨hkk, hsee⟩ := hno rfl
          rw [hkk] at R4
          have HT3 : Hid (twoK (toks.drop k) (([9] : List Int).drop (j + 1)) = twoT 1 (toks.drop k)) := (twoK_no hsee).symm.trans HT2.out
          clear hyes hno hsee HT2 hkk
          go_wp2
          go_roundw
          case rel => exact ⟨j + 1, by simp only [List.length_cons, List.length_nil]; omega, by go_num, HT3, R4, K4⟩
          case measure => simp [intOf]; omega
        · obtain ⟨hkk, hsee⟩ := hyes rfl
          rw [hkk] at R4
          have fin : Hid (TwoOut toks 1 k kd (k + 1)) := .inr ⟨hk3, hk10, rfl, HT2.out.symm.trans (twoK_yes hsee)⟩
          clear hyes hno hsee HT2 hkk
          go_wp2
          go_ret
          exact ⟨kd, k + 1, rfl, fin.out, R4.out⟩
      · have hi1 : ¬ (j : Int) < 1 := by omega
        have hjm : j = 1 := by omega
        have fin : Hid (TwoOut toks 1 k 0 k) := by
          subst hjm
          exact .inl ⟨rfl, rfl, hT.out.symm⟩
        clear hjm
        go_wp2
        go_ret
        exact ⟨0, k, rfl, fin.out, HR.out⟩
  · have hK : Hid (KindsAt V (w.heap.size + 1 + 1 + 1) [7, 8]) := by
      have : KindsAt V (w.heap.size + 1 + 1 + 1) [7, 8] := by
        rw [hV]
        refine ⟨by simp <;> omega, fun j hj => ?_⟩
        match j, hj with
        | 0, _ => simp
        | 1, _ => simp
      exact this
    change Calls Tryz.prog 146 #[.pointer (some ⟨R, 0, none⟩), .int .i64 3] w _
    go_enter Tryz.func146, Tryz.ntmps146
    go_wp2_with fail
    rw [← hV]
    obtain ⟨B, hB⟩ : ∃ B, w.heap.size + 1 + 1 + 1 = B := ⟨_, rfl⟩
    have hBR : B ≠ R := by omega
    rw [hB] at hK ⊢
    clear hV HVd hB
    have H1 : Hid (Rd w0 V R a n c toks k vo out bad) := H.out.below hbV
    clear H
    go_loopw [6] (fun i wr => TwoRel w0 R B a n c toks 3 k vo out bad [7, 8] i wr) (fun i _ => 2 - (intOf i).toNat)
    case atStart => exact ⟨0, Nat.zero_le _, rfl, rfl, H1, hK⟩
    case round =>
      obtain ⟨j, hj, rfl, hT, HR, KK⟩ := hrel
      simp only [List.length_cons, List.length_nil] at hj
      clear H1 hK
      by_cases hlt : j < 2
      · have hlt' : j < ([7, 8] : List Int).length := hlt
        have hkc := KK.out.2 j hlt'
        have hmem := kinds_310 3 (([7, 8] : List Int)[j]'hlt') (List.getElem_mem hlt')
        have hdr : ([7, 8] : List Int).drop j = (([7, 8] : List Int)[j]'hlt') :: ([7, 8] : List Int).drop (j + 1) := List.drop_eq_getElem_cons hlt'
        have hT2 := hT.out
        rw [hdr] at hT2
        generalize (([7, 8] : List Int)[j]'hlt') = kd at hkc hmem hT2
        have HT2 : Hid (twoK (toks.drop k) (kd :: ([7, 8] : List Int).drop (j + 1)) = twoT 3 (toks.drop k)) := hT2
        obtain ⟨hk3, hk10⟩ := hmem
        obtain ⟨q, hq⟩ : ∃ q : Nat, kd - 3 = (q : Int) := ⟨(kd - 3).toNat, by omega⟩
        have hq0 : (0 : Int) ≤ (q : Int) := by omega
        have hq9 : (q : Int) < 10 := by omega
        have hwq : IntKind.i64.wrap (q : Int) = (q : Int) := by rw [IntKind.wrap_i64]; omega
        have hi0 : (0 : Int) ≤ (j : Int) := by omega
        have hi1 : (j : Int) < 2 := by omega
        have hBl := KK.out.1
        clear hdr hT2 hT
        go_wp2_with fail
        refine wp_region_held_drew (S := (fun w' => w'.cell? ⟨B, j, none⟩ = some (.int .i64 kd))) (by kernel_rfl) ?_ (fun hHeld => ?_)
        · (((try dsimp only); (repeat' apply And.intro) <;> first | (go_keep; done) | (simp (disch := first | omega | (simp <;> omega) | fail) [*]; done) | fail))
        refine wpAnyH_take (i := 0) (by simp only [List.getElem?_toArray, List.getElem?_cons_zero]; rfl) (by kernel_rfl) (by kernel_rfl) (by kernel_rfl) (by intro _ _ _ h; exact h) (Or.inl ⟨by rfl, fun w hSw => by (dsimp only at hSw; go_simp; (try with_reducible rfl))⟩) (by assumption) ?_
        simp only [Act.put, List.setIfInBounds_toArray, List.set_cons_zero, List.set_cons_succ]
        refine wpAnyH_take (i := 2) (by simp only [List.getElem?_toArray, List.getElem?_cons_zero, List.getElem?_cons_succ]; rfl) (by kernel_rfl) (by kernel_rfl) (by kernel_rfl) (by intro _ _ _ h; exact h) (Or.inl ⟨by rfl, fun w hSw => by (dsimp only at hSw; go_simp; (try with_reducible rfl))⟩) (by assumption) ?_
        simp only [Act.put, List.setIfInBounds_toArray, List.set_cons_zero, List.set_cons_succ]
        refine wpAnyH_take (i := 3) (by simp only [List.getElem?_toArray, List.getElem?_cons_zero, List.getElem?_cons_succ]; rfl) (by kernel_rfl) (by kernel_rfl) (by kernel_rfl) (by intro _ _ _ h; exact h) (Or.inl ⟨by rfl, fun w hSw => by (dsimp only at hSw; go_simp; (try with_reducible rfl))⟩) (by assumption) ?_
        simp only [Act.put, List.setIfInBounds_toArray, List.set_cons_zero, List.set_cons_succ]
        refine wpAnyH_take (i := 4) (by simp only [List.getElem?_toArray, List.getElem?_cons_zero, List.getElem?_cons_succ]; rfl) (by kernel_rfl) (by kernel_rfl) (by kernel_rfl) (by intro _ _ _ h; exact h) (Or.inl ⟨by rfl, fun w hSw => by (dsimp only at hSw; go_simp; (try with_reducible rfl))⟩) (by assumption) ?_
        simp only [Act.put, List.setIfInBounds_toArray, List.set_cons_zero, List.set_cons_succ]
        refine wpAnyH_take (i := 5) (by simp only [List.getElem?_toArray, List.getElem?_cons_zero, List.getElem?_cons_succ]; rfl) (by kernel_rfl) (by kernel_rfl) (by kernel_rfl) (by intro _ _ _ h; exact h) (Or.inl ⟨by rfl, fun w hSw => by (dsimp only at hSw; go_simp; (try with_reducible rfl))⟩) (by assumption) ?_
        simp only [Act.put, List.setIfInBounds_toArray, List.set_cons_zero, List.set_cons_succ]
        refine wpAnyH_take (i := 6) (by simp only [List.getElem?_toArray, List.getElem?_cons_zero, List.getElem?_cons_succ]; rfl) (by kernel_rfl) (by kernel_rfl) (by kernel_rfl) (by intro _ _ _ h; exact h) (Or.inl ⟨by rfl, fun w hSw => by (dsimp only at hSw; go_simp; (try with_reducible rfl))⟩) (by assumption) ?_
        simp only [Act.put, List.setIfInBounds_toArray, List.set_cons_zero, List.set_cons_succ]
        refine wpAnyH_ready (rs := [1]) (by kernel_rfl) (by simp) ?_
        refine AllReadyH.cons (by simp only [List.getElem?_toArray, List.getElem?_cons_zero, List.getElem?_cons_succ]; rfl) ?_ AllReadyH.nil
        intro K hK
        go_simp
        refine (signs8_spec _).mono ?_
        rintro e w3 ⟨gs, rfl, hsg, hgs, hb3⟩
        have hb3' := undrew hb3
        have hsj : w3.cell? ⟨gs, q, none⟩ = some (.string (sgn kd)) := by
          have := hsg kd (by omega) (by omega)
          rw [hq] at this
          exact this
        have i1 : w3.cell? ⟨B, j, none⟩ = some (.int .i64 kd) := by rw [hb3'.cell (p := ⟨B, j, none⟩) hBl]; exact hkc
        have R3 : Hid (Rd w0 w3 R a n c toks k vo out bad) := HR.out.below hb3'
        have K3 : Hid (KindsAt w3 B [7, 8]) := KK.out.below hb3'
        have hBl3 : B < w3.heap.size := K3.out.1
        clear hsg hb3 hb3' hkc HR KK
        go_wp2_with fail
        refine hK.out _ _ ?_ (fun hHeld => ?_)
        · (((try dsimp only); (repeat' apply And.intro) <;> first | (go_keep; done) | (simp (disch := first | omega | (simp <;> omega) | fail) [*]; done) | fail))
        clear hK K
        try simp only [Act.put, List.setIfInBounds_toArray, List.set_cons_zero, List.set_cons_succ]
        refine wpAnyH_take (i := 7) (by simp only [List.getElem?_toArray, List.getElem?_cons_zero, List.getElem?_cons_succ]; rfl) (by kernel_rfl) (by kernel_rfl) (by kernel_rfl) (by intro _ _ _ h; exact h) (Or.inl ⟨by rfl, fun w hSw => by (dsimp only at hSw; go_simp; (try with_reducible rfl))⟩) (by assumption) ?_
        simp only [Act.put, List.setIfInBounds_toArray, List.set_cons_zero, List.set_cons_succ]
        refine wpAnyH_ready (rs := [8]) (by kernel_rfl) (by simp) ?_
        refine AllReadyH.cons (by simp only [List.getElem?_toArray, List.getElem?_cons_zero, List.getElem?_cons_succ]; rfl) ?_ AllReadyH.nil
        intro K hK
        go_simp
        refine hK.out _ _ ?_ (fun hHeld => ?_)
        · (((try dsimp only); (repeat' apply And.intro) <;> first | (go_keep; done) | (simp (disch := first | omega | (simp <;> omega) | fail) [*]; done) | fail))
        clear hK K
        try simp only [Act.put, List.setIfInBounds_toArray, List.set_cons_zero, List.set_cons_succ]
        refine wpAnyH_ready (rs := [9]) (by kernel_rfl) (by simp) ?_
        refine AllReadyH.cons (by simp only [List.getElem?_toArray, List.getElem?_cons_zero, List.getElem?_cons_succ]; rfl) ?_ AllReadyH.nil
        intro K hK
        go_simp
        refine (sees_spec R3.out hm (sgn kd)).mono ?_
        rintro e w4 ⟨b, k', rfl, hR4, hyes, hno, hk4⟩
        have i2 : w4.cell? ⟨B, j, none⟩ = some (.int .i64 kd) := by rw [hk4.cell hBl3 hBR]; exact i1
        have R4 : Hid (Rd w0 w4 R a n c toks k' vo out bad) := hR4
        have K4 : Hid (KindsAt w4 B [7, 8]) := K3.out.keep hk4 hBR
        clear hR4 hk4 K3 R3 hsj i1
        go_wp2_with fail
        refine hK.out _ _ ?_ (fun hHeld => ?_)
        · (((try dsimp only); (repeat' apply And.intro) <;> first | (go_keep; done) | (simp (disch := first | omega | (simp <;> omega) | fail) [*]; done) | fail))
        clear hK K
        try simp only [Act.put, List.setIfInBounds_toArray, List.set_cons_zero, List.set_cons_succ]
        refine wpAnyH_done (by kernel_rfl) ?_ _
        cases b
        · obtain ⟨hkk, hsee⟩ := hno rfl
          rw [hkk] at R4
          have HT3 : Hid (twoK (toks.drop k) (([7, 8] : List Int).drop (j + 1)) = twoT 3 (toks.drop k)) := (twoK_no hsee).symm.trans HT2.out
          clear hyes hno hsee HT2 hkk
          go_wp2
          go_roundw
          case rel => exact ⟨j + 1, by simp only [List.length_cons, List.length_nil]; omega, by go_num, HT3, R4, K4⟩
          case measure => simp [intOf]; omega
        · obtain ⟨hkk, hsee⟩ := hyes rfl
          rw [hkk] at R4
          have fin : Hid (TwoOut toks 3 k kd (k + 1)) := .inr ⟨hk3, hk10, rfl, HT2.out.symm.trans (twoK_yes hsee)⟩
          clear hyes hno hsee HT2 hkk
          go_wp2
          go_ret
          exact ⟨kd, k + 1, rfl, fin.out, R4.out⟩
      · have hi1 : ¬ (j : Int) < 2 := by omega
        have hjm : j = 2 := by omega
        have fin : Hid (TwoOut toks 3 k 0 k) := by
          subst hjm
          exact .inl ⟨rfl, rfl, hT.out.symm⟩
        clear hjm
        go_wp2
        go_ret
        exact ⟨0, k, rfl, fin.out, HR.out⟩
  · have hK : Hid (KindsAt V (w.heap.size + 1 + 1 + 1 + 1) [3, 4]) := by
      have : KindsAt V (w.heap.size + 1 + 1 + 1 + 1) [3, 4] := by
        rw [hV]
        refine ⟨by simp <;> omega, fun j hj => ?_⟩
        match j, hj with
        | 0, _ => simp
        | 1, _ => simp
      exact this
    change Calls Tryz.prog 146 #[.pointer (some ⟨R, 0, none⟩), .int .i64 4] w _
    go_enter Tryz.func146, Tryz.ntmps146
    go_wp2_with fail
    rw [← hV]
    obtain ⟨B, hB⟩ : ∃ B, w.heap.size + 1 + 1 + 1 + 1 = B := ⟨_, rfl⟩
    have hBR : B ≠ R := by omega
    rw [hB] at hK ⊢
    clear hV HVd hB
    have H1 : Hid (Rd w0 V R a n c toks k vo out bad) := H.out.below hbV
    clear H
    go_loopw [6] (fun i wr => TwoRel w0 R B a n c toks 4 k vo out bad [3, 4] i wr) (fun i _ => 2 - (intOf i).toNat)
    case atStart => exact ⟨0, Nat.zero_le _, rfl, rfl, H1, hK⟩
    case round =>
      obtain ⟨j, hj, rfl, hT, HR, KK⟩ := hrel
      simp only [List.length_cons, List.length_nil] at hj
      clear H1 hK
      by_cases hlt : j < 2
      · have hlt' : j < ([3, 4] : List Int).length := hlt
        have hkc := KK.out.2 j hlt'
        have hmem := kinds_310 4 (([3, 4] : List Int)[j]'hlt') (List.getElem_mem hlt')
        have hdr : ([3, 4] : List Int).drop j = (([3, 4] : List Int)[j]'hlt') :: ([3, 4] : List Int).drop (j + 1) := List.drop_eq_getElem_cons hlt'
        have hT2 := hT.out
        rw [hdr] at hT2
        generalize (([3, 4] : List Int)[j]'hlt') = kd at hkc hmem hT2
        have HT2 : Hid (twoK (toks.drop k) (kd :: ([3, 4] : List Int).drop (j + 1)) = twoT 4 (toks.drop k)) := hT2
        obtain ⟨hk3, hk10⟩ := hmem
        obtain ⟨q, hq⟩ : ∃ q : Nat, kd - 3 = (q : Int) := ⟨(kd - 3).toNat, by omega⟩
        have hq0 : (0 : Int) ≤ (q : Int) := by omega
        have hq9 : (q : Int) < 10 := by omega
        have hwq : IntKind.i64.wrap (q : Int) = (q : Int) := by rw [IntKind.wrap_i64]; omega
        have hi0 : (0 : Int) ≤ (j : Int) := by omega
        have hi1 : (j : Int) < 2 := by omega
        have hBl := KK.out.1
        clear hdr hT2 hT
        go_wp2_with fail
        refine wp_region_held_drew (S := (fun w' => w'.cell? ⟨B, j, none⟩ = some (.int .i64 kd))) (by kernel_rfl) ?_ (fun hHeld => ?_)
        · (((try dsimp only); (repeat' apply And.intro) <;> first | (go_keep; done) | (simp (disch := first | omega | (simp <;> omega) | fail) [*]; done) | fail))
        refine wpAnyH_take (i := 0) (by simp only [List.getElem?_toArray, List.getElem?_cons_zero]; rfl) (by kernel_rfl) (by kernel_rfl) (by kernel_rfl) (by intro _ _ _ h; exact h) (Or.inl ⟨by rfl, fun w hSw => by (dsimp only at hSw; go_simp; (try with_reducible rfl))⟩) (by assumption) ?_
        simp only [Act.put, List.setIfInBounds_toArray, List.set_cons_zero, List.set_cons_succ]
        refine wpAnyH_take (i := 2) (by simp only [List.getElem?_toArray, List.getElem?_cons_zero, List.getElem?_cons_succ]; rfl) (by kernel_rfl) (by kernel_rfl) (by kernel_rfl) (by intro _ _ _ h; exact h) (Or.inl ⟨by rfl, fun w hSw => by (dsimp only at hSw; go_simp; (try with_reducible rfl))⟩) (by assumption) ?_
        simp only [Act.put, List.setIfInBounds_toArray, List.set_cons_zero, List.set_cons_succ]
        refine wpAnyH_take (i := 3) (by simp only [List.getElem?_toArray, List.getElem?_cons_zero, List.getElem?_cons_succ]; rfl) (by kernel_rfl) (by kernel_rfl) (by kernel_rfl) (by intro _ _ _ h; exact h) (Or.inl ⟨by rfl, fun w hSw => by (dsimp only at hSw; go_simp; (try with_reducible rfl))⟩) (by assumption) ?_
        simp only [Act.put, List.setIfInBounds_toArray, List.set_cons_zero, List.set_cons_succ]
        refine wpAnyH_take (i := 4) (by simp only [List.getElem?_toArray, List.getElem?_cons_zero, List.getElem?_cons_succ]; rfl) (by kernel_rfl) (by kernel_rfl) (by kernel_rfl) (by intro _ _ _ h; exact h) (Or.inl ⟨by rfl, fun w hSw => by (dsimp only at hSw; go_simp; (try with_reducible rfl))⟩) (by assumption) ?_
        simp only [Act.put, List.setIfInBounds_toArray, List.set_cons_zero, List.set_cons_succ]
        refine wpAnyH_take (i := 5) (by simp only [List.getElem?_toArray, List.getElem?_cons_zero, List.getElem?_cons_succ]; rfl) (by kernel_rfl) (by kernel_rfl) (by kernel_rfl) (by intro _ _ _ h; exact h) (Or.inl ⟨by rfl, fun w hSw => by (dsimp only at hSw; go_simp; (try with_reducible rfl))⟩) (by assumption) ?_
        simp only [Act.put, List.setIfInBounds_toArray, List.set_cons_zero, List.set_cons_succ]
        refine wpAnyH_take (i := 6) (by simp only [List.getElem?_toArray, List.getElem?_cons_zero, List.getElem?_cons_succ]; rfl) (by kernel_rfl) (by kernel_rfl) (by kernel_rfl) (by intro _ _ _ h; exact h) (Or.inl ⟨by rfl, fun w hSw => by (dsimp only at hSw; go_simp; (try with_reducible rfl))⟩) (by assumption) ?_
        simp only [Act.put, List.setIfInBounds_toArray, List.set_cons_zero, List.set_cons_succ]
        refine wpAnyH_ready (rs := [1]) (by kernel_rfl) (by simp) ?_
        refine AllReadyH.cons (by simp only [List.getElem?_toArray, List.getElem?_cons_zero, List.getElem?_cons_succ]; rfl) ?_ AllReadyH.nil
        intro K hK
        go_simp
        refine (signs8_spec _).mono ?_
        rintro e w3 ⟨gs, rfl, hsg, hgs, hb3⟩
        have hb3' := undrew hb3
        have hsj : w3.cell? ⟨gs, q, none⟩ = some (.string (sgn kd)) := by
          have := hsg kd (by omega) (by omega)
          rw [hq] at this
          exact this
        have i1 : w3.cell? ⟨B, j, none⟩ = some (.int .i64 kd) := by rw [hb3'.cell (p := ⟨B, j, none⟩) hBl]; exact hkc
        have R3 : Hid (Rd w0 w3 R a n c toks k vo out bad) := HR.out.below hb3'
        have K3 : Hid (KindsAt w3 B [3, 4]) := KK.out.below hb3'
        have hBl3 : B < w3.heap.size := K3.out.1
        clear hsg hb3 hb3' hkc HR KK
        go_wp2_with fail
        refine hK.out _ _ ?_ (fun hHeld => ?_)
        · (((try dsimp only); (repeat' apply And.intro) <;> first | (go_keep; done) | (simp (disch := first | omega | (simp <;> omega) | fail) [*]; done) | fail))
        clear hK K
        try simp only [Act.put, List.setIfInBounds_toArray, List.set_cons_zero, List.set_cons_succ]
        refine wpAnyH_take (i := 7) (by simp only [List.getElem?_toArray, List.getElem?_cons_zero, List.getElem?_cons_succ]; rfl) (by kernel_rfl) (by kernel_rfl) (by kernel_rfl) (by intro _ _ _ h; exact h) (Or.inl ⟨by rfl, fun w hSw => by (dsimp only at hSw; go_simp; (try with_reducible rfl))⟩) (by assumption) ?_
        simp only [Act.put, List.setIfInBounds_toArray, List.set_cons_zero, List.set_cons_succ]
        refine wpAnyH_ready (rs := [8]) (by kernel_rfl) (by simp) ?_
        refine AllReadyH.cons (by simp only [List.getElem?_toArray, List.getElem?_cons_zero, List.getElem?_cons_succ]; rfl) ?_ AllReadyH.nil
        intro K hK
        go_simp
        refine hK.out _ _ ?_ (fun hHeld => ?_)
        · (((try dsimp only); (repeat' apply And.intro) <;> first | (go_keep; done) | (simp (disch := first | omega | (simp <;> omega) | fail) [*]; done) | fail))
        clear hK K
        try simp only [Act.put, List.setIfInBounds_toArray, List.set_cons_zero, List.set_cons_succ]
        refine wpAnyH_ready (rs := [9]) (by kernel_rfl) (by simp) ?_
        refine AllReadyH.cons (by simp only [List.getElem?_toArray, List.getElem?_cons_zero, List.getElem?_cons_succ]; rfl) ?_ AllReadyH.nil
        intro K hK
        go_simp
        refine (sees_spec R3.out hm (sgn kd)).mono ?_
        rintro e w4 ⟨b, k', rfl, hR4, hyes, hno, hk4⟩
        have i2 : w4.cell? ⟨B, j, none⟩ = some (.int .i64 kd) := by rw [hk4.cell hBl3 hBR]; exact i1
        have R4 : Hid (Rd w0 w4 R a n c toks k' vo out bad) := hR4
        have K4 : Hid (KindsAt w4 B [3, 4]) := K3.out.keep hk4 hBR
        clear hR4 hk4 K3 R3 hsj i1
        go_wp2_with fail
        refine hK.out _ _ ?_ (fun hHeld => ?_)
        · (((try dsimp only); (repeat' apply And.intro) <;> first | (go_keep; done) | (simp (disch := first | omega | (simp <;> omega) | fail) [*]; done) | fail))
        clear hK K
        try simp only [Act.put, List.setIfInBounds_toArray, List.set_cons_zero, List.set_cons_succ]
        refine wpAnyH_done (by kernel_rfl) ?_ _
        cases b
        · obtain ⟨hkk, hsee⟩ := hno rfl
          rw [hkk] at R4
          have HT3 : Hid (twoK (toks.drop k) (([3, 4] : List Int).drop (j + 1)) = twoT 4 (toks.drop k)) := (twoK_no hsee).symm.trans HT2.out
          clear hyes hno hsee HT2 hkk
          go_wp2
          go_roundw
          case rel => exact ⟨j + 1, by simp only [List.length_cons, List.length_nil]; omega, by go_num, HT3, R4, K4⟩
          case measure => simp [intOf]; omega
        · obtain ⟨hkk, hsee⟩ := hyes rfl
          rw [hkk] at R4
          have fin : Hid (TwoOut toks 4 k kd (k + 1)) := .inr ⟨hk3, hk10, rfl, HT2.out.symm.trans (twoK_yes hsee)⟩
          clear hyes hno hsee HT2 hkk
          go_wp2
          go_ret
          exact ⟨kd, k + 1, rfl, fin.out, R4.out⟩
      · have hi1 : ¬ (j : Int) < 2 := by omega
        have hjm : j = 2 := by omega
        have fin : Hid (TwoOut toks 4 k 0 k) := by
          subst hjm
          exact .inl ⟨rfl, rfl, hT.out.symm⟩
        clear hjm
        go_wp2
        go_ret
        exact ⟨0, k, rfl, fin.out, HR.out⟩
  · have hK : Hid (KindsAt V (w.heap.size + 1 + 1 + 1 + 1 + 1) [5, 6]) := by
      have : KindsAt V (w.heap.size + 1 + 1 + 1 + 1 + 1) [5, 6] := by
        rw [hV]
        refine ⟨by simp <;> omega, fun j hj => ?_⟩
        match j, hj with
        | 0, _ => simp
        | 1, _ => simp
      exact this
    change Calls Tryz.prog 146 #[.pointer (some ⟨R, 0, none⟩), .int .i64 5] w _
    go_enter Tryz.func146, Tryz.ntmps146
    go_wp2_with fail
    rw [← hV]
    obtain ⟨B, hB⟩ : ∃ B, w.heap.size + 1 + 1 + 1 + 1 + 1 = B := ⟨_, rfl⟩
    have hBR : B ≠ R := by omega
    rw [hB] at hK ⊢
    clear hV HVd hB
    have H1 : Hid (Rd w0 V R a n c toks k vo out bad) := H.out.below hbV
    clear H
    go_loopw [6] (fun i wr => TwoRel w0 R B a n c toks 5 k vo out bad [5, 6] i wr) (fun i _ => 2 - (intOf i).toNat)
    case atStart => exact ⟨0, Nat.zero_le _, rfl, rfl, H1, hK⟩
    case round =>
      obtain ⟨j, hj, rfl, hT, HR, KK⟩ := hrel
      simp only [List.length_cons, List.length_nil] at hj
      clear H1 hK
      by_cases hlt : j < 2
      · have hlt' : j < ([5, 6] : List Int).length := hlt
        have hkc := KK.out.2 j hlt'
        have hmem := kinds_310 5 (([5, 6] : List Int)[j]'hlt') (List.getElem_mem hlt')
        have hdr : ([5, 6] : List Int).drop j = (([5, 6] : List Int)[j]'hlt') :: ([5, 6] : List Int).drop (j + 1) := List.drop_eq_getElem_cons hlt'
        have hT2 := hT.out
        rw [hdr] at hT2
        generalize (([5, 6] : List Int)[j]'hlt') = kd at hkc hmem hT2
        have HT2 : Hid (twoK (toks.drop k) (kd :: ([5, 6] : List Int).drop (j + 1)) = twoT 5 (toks.drop k)) := hT2
        obtain ⟨hk3, hk10⟩ := hmem
        obtain ⟨q, hq⟩ : ∃ q : Nat, kd - 3 = (q : Int) := ⟨(kd - 3).toNat, by omega⟩
        have hq0 : (0 : Int) ≤ (q : Int) := by omega
        have hq9 : (q : Int) < 10 := by omega
        have hwq : IntKind.i64.wrap (q : Int) = (q : Int) := by rw [IntKind.wrap_i64]; omega
        have hi0 : (0 : Int) ≤ (j : Int) := by omega
        have hi1 : (j : Int) < 2 := by omega
        have hBl := KK.out.1
        clear hdr hT2 hT
        go_wp2_with fail
        refine wp_region_held_drew (S := (fun w' => w'.cell? ⟨B, j, none⟩ = some (.int .i64 kd))) (by kernel_rfl) ?_ (fun hHeld => ?_)
        · (((try dsimp only); (repeat' apply And.intro) <;> first | (go_keep; done) | (simp (disch := first | omega | (simp <;> omega) | fail) [*]; done) | fail))
        refine wpAnyH_take (i := 0) (by simp only [List.getElem?_toArray, List.getElem?_cons_zero]; rfl) (by kernel_rfl) (by kernel_rfl) (by kernel_rfl) (by intro _ _ _ h; exact h) (Or.inl ⟨by rfl, fun w hSw => by (dsimp only at hSw; go_simp; (try with_reducible rfl))⟩) (by assumption) ?_
        simp only [Act.put, List.setIfInBounds_toArray, List.set_cons_zero, List.set_cons_succ]
        refine wpAnyH_take (i := 2) (by simp only [List.getElem?_toArray, List.getElem?_cons_zero, List.getElem?_cons_succ]; rfl) (by kernel_rfl) (by kernel_rfl) (by kernel_rfl) (by intro _ _ _ h; exact h) (Or.inl ⟨by rfl, fun w hSw => by (dsimp only at hSw; go_simp; (try with_reducible rfl))⟩) (by assumption) ?_
        simp only [Act.put, List.setIfInBounds_toArray, List.set_cons_zero, List.set_cons_succ]
        refine wpAnyH_take (i := 3) (by simp only [List.getElem?_toArray, List.getElem?_cons_zero, List.getElem?_cons_succ]; rfl) (by kernel_rfl) (by kernel_rfl) (by kernel_rfl) (by intro _ _ _ h; exact h) (Or.inl ⟨by rfl, fun w hSw => by (dsimp only at hSw; go_simp; (try with_reducible rfl))⟩) (by assumption) ?_
        simp only [Act.put, List.setIfInBounds_toArray, List.set_cons_zero, List.set_cons_succ]
        refine wpAnyH_take (i := 4) (by simp only [List.getElem?_toArray, List.getElem?_cons_zero, List.getElem?_cons_succ]; rfl) (by kernel_rfl) (by kernel_rfl) (by kernel_rfl) (by intro _ _ _ h; exact h) (Or.inl ⟨by rfl, fun w hSw => by (dsimp only at hSw; go_simp; (try with_reducible rfl))⟩) (by assumption) ?_
        simp only [Act.put, List.setIfInBounds_toArray, List.set_cons_zero, List.set_cons_succ]
        refine wpAnyH_take (i := 5) (by simp only [List.getElem?_toArray, List.getElem?_cons_zero, List.getElem?_cons_succ]; rfl) (by kernel_rfl) (by kernel_rfl) (by kernel_rfl) (by intro _ _ _ h; exact h) (Or.inl ⟨by rfl, fun w hSw => by (dsimp only at hSw; go_simp; (try with_reducible rfl))⟩) (by assumption) ?_
        simp only [Act.put, List.setIfInBounds_toArray, List.set_cons_zero, List.set_cons_succ]
        refine wpAnyH_take (i := 6) (by simp only [List.getElem?_toArray, List.getElem?_cons_zero, List.getElem?_cons_succ]; rfl) (by kernel_rfl) (by kernel_rfl) (by kernel_rfl) (by intro _ _ _ h; exact h) (Or.inl ⟨by rfl, fun w hSw => by (dsimp only at hSw; go_simp; (try with_reducible rfl))⟩) (by assumption) ?_
        simp only [Act.put, List.setIfInBounds_toArray, List.set_cons_zero, List.set_cons_succ]
        refine wpAnyH_ready (rs := [1]) (by kernel_rfl) (by simp) ?_
        refine AllReadyH.cons (by simp only [List.getElem?_toArray, List.getElem?_cons_zero, List.getElem?_cons_succ]; rfl) ?_ AllReadyH.nil
        intro K hK
        go_simp
        refine (signs8_spec _).mono ?_
        rintro e w3 ⟨gs, rfl, hsg, hgs, hb3⟩
        have hb3' := undrew hb3
        have hsj : w3.cell? ⟨gs, q, none⟩ = some (.string (sgn kd)) := by
          have := hsg kd (by omega) (by omega)
          rw [hq] at this
          exact this
        have i1 : w3.cell? ⟨B, j, none⟩ = some (.int .i64 kd) := by rw [hb3'.cell (p := ⟨B, j, none⟩) hBl]; exact hkc
        have R3 : Hid (Rd w0 w3 R a n c toks k vo out bad) := HR.out.below hb3'
        have K3 : Hid (KindsAt w3 B [5, 6]) := KK.out.below hb3'
        have hBl3 : B < w3.heap.size := K3.out.1
        clear hsg hb3 hb3' hkc HR KK
        go_wp2_with fail
        refine hK.out _ _ ?_ (fun hHeld => ?_)
        · (((try dsimp only); (repeat' apply And.intro) <;> first | (go_keep; done) | (simp (disch := first | omega | (simp <;> omega) | fail) [*]; done) | fail))
        clear hK K
        try simp only [Act.put, List.setIfInBounds_toArray, List.set_cons_zero, List.set_cons_succ]
        refine wpAnyH_take (i := 7) (by simp only [List.getElem?_toArray, List.getElem?_cons_zero, List.getElem?_cons_succ]; rfl) (by kernel_rfl) (by kernel_rfl) (by kernel_rfl) (by intro _ _ _ h; exact h) (Or.inl ⟨by rfl, fun w hSw => by (dsimp only at hSw; go_simp; (try with_reducible rfl))⟩) (by assumption) ?_
        simp only [Act.put, List.setIfInBounds_toArray, List.set_cons_zero, List.set_cons_succ]
        refine wpAnyH_ready (rs := [8]) (by kernel_rfl) (by simp) ?_
        refine AllReadyH.cons (by simp only [List.getElem?_toArray, List.getElem?_cons_zero, List.getElem?_cons_succ]; rfl) ?_ AllReadyH.nil
        intro K hK
        go_simp
        refine hK.out _ _ ?_ (fun hHeld => ?_)
        · (((try dsimp only); (repeat' apply And.intro) <;> first | (go_keep; done) | (simp (disch := first | omega | (simp <;> omega) | fail) [*]; done) | fail))
        clear hK K
        try simp only [Act.put, List.setIfInBounds_toArray, List.set_cons_zero, List.set_cons_succ]
        refine wpAnyH_ready (rs := [9]) (by kernel_rfl) (by simp) ?_
        refine AllReadyH.cons (by simp only [List.getElem?_toArray, List.getElem?_cons_zero, List.getElem?_cons_succ]; rfl) ?_ AllReadyH.nil
        intro K hK
        go_simp
        refine (sees_spec R3.out hm (sgn kd)).mono ?_
        rintro e w4 ⟨b, k', rfl, hR4, hyes, hno, hk4⟩
        have i2 : w4.cell? ⟨B, j, none⟩ = some (.int .i64 kd) := by rw [hk4.cell hBl3 hBR]; exact i1
        have R4 : Hid (Rd w0 w4 R a n c toks k' vo out bad) := hR4
        have K4 : Hid (KindsAt w4 B [5, 6]) := K3.out.keep hk4 hBR
        clear hR4 hk4 K3 R3 hsj i1
        go_wp2_with fail
        refine hK.out _ _ ?_ (fun hHeld => ?_)
        · (((try dsimp only); (repeat' apply And.intro) <;> first | (go_keep; done) | (simp (disch := first | omega | (simp <;> omega) | fail) [*]; done) | fail))
        clear hK K
        try simp only [Act.put, List.setIfInBounds_toArray, List.set_cons_zero, List.set_cons_succ]
        refine wpAnyH_done (by kernel_rfl) ?_ _
        cases b
        · obtain ⟨hkk, hsee⟩ := hno rfl
          rw [hkk] at R4
          have HT3 : Hid (twoK (toks.drop k) (([5, 6] : List Int).drop (j + 1)) = twoT 5 (toks.drop k)) := (twoK_no hsee).symm.trans HT2.out
          clear hyes hno hsee HT2 hkk
          go_wp2
          go_roundw
          case rel => exact ⟨j + 1, by simp only [List.length_cons, List.length_nil]; omega, by go_num, HT3, R4, K4⟩
          case measure => simp [intOf]; omega
        · obtain ⟨hkk, hsee⟩ := hyes rfl
          rw [hkk] at R4
          have fin : Hid (TwoOut toks 5 k kd (k + 1)) := .inr ⟨hk3, hk10, rfl, HT2.out.symm.trans (twoK_yes hsee)⟩
          clear hyes hno hsee HT2 hkk
          go_wp2
          go_ret
          exact ⟨kd, k + 1, rfl, fin.out, R4.out⟩
      · have hi1 : ¬ (j : Int) < 2 := by omega
        have hjm : j = 2 := by omega
        have fin : Hid (TwoOut toks 5 k 0 k) := by
          subst hjm
          exact .inl ⟨rfl, rfl, hT.out.symm⟩
        clear hjm
        go_wp2
        go_ret
        exact ⟨0, k, rfl, fin.out, HR.out⟩
end Go.Proofs.YtfokdblojlmnlabGreatDoor
