/-
  A part of the proof: AswI.
-/
import Derived.Test.YtadbbkpillfjaaaGreatDoorPart27
import Derived.Test.YtadbbkpillfjaaaGreatDoorPart17
import Derived.Test.YtadbbkpillfjaaaGreatDoorPart33
import Derived.Deep.RegionHeld3

/-
  The program's asOneWhere: two wheres made one.
-/
namespace Go.Proofs.YtadbbkpillfjaaaGreatDoor
open Go.ChangeShapes Go.WideShapes Go.ChangeAt Go.RowKit
attribute [local go_sem ↓] Go.wp_at_zero Go.wp_at_succ
attribute [local simp] World.cell?_alloc_past World.cell?_alloc_at World.frozen?_alloc_at cell_far cell_off cell_here World.frozen?_alloc_past

theorem undrewL {w W : World} (h : Below w.heap.size w W) : Below w.drew.heap.size w.drew W.drew := ⟨h.1, h.2, h.3, h.4, h.5⟩
set_option maxHeartbeats 2000000 in
theorem aswhere_impl (kd : Int) (nm : ByteArray) (na : Option Addr) (nn nc : Nat) (sa : Option Addr) (sn sc : Nat) (S : List TI) (hsn : S.length = sn) (dn : Bool) (ct sk : Int) (kt : Int) (mt : ByteArray) (ma : Option Addr) (mn mc : Nat) (ra : Option Addr) (rn rc : Nat) (R : List TI) (hrn : R.length = rn) (dt : Bool) (tt st : Int) (w : World) (hS : ItmAt w sa S) (hR : ItmAt w ra R) (hfs : FitI S) (hfr : FitI R) (hns : sa = none → sc = 0) (hnr : ra = none → rc = 0) (hs40 : sn ≤ 40) (hr40 : rn ≤ 40) (hp : PowAt w) (he : ErrAt w) (z : Bool) (hz : (sureR S && (sureR R && decide (sn + rn < 40))) = z) :
    Calls Tryz.prog 36 #[.agg #[.int .i64 kd, .string nm, .slice na nn nc, .slice sa sn sc, .bool dn, .int .i64 ct, .int .i64 sk], .agg #[.int .i64 kt, .string mt, .slice ma mn mc, .slice ra rn rc, .bool dt, .int .i64 tt, .int .i64 st]] w fun e w' => ∃ g k, RuleOut w w' e [(⟨2, ⟨#[]⟩, [], S ++ R ++ [opI 9], false, 0, 0⟩, ⟨none, 0, some ⟨g, 0, none⟩, k⟩)] z ∧ ItmAt w' (some ⟨g, 0, none⟩) (S ++ R ++ [opI 9]) := by
  obtain ⟨C, hC⟩ : ∃ C, S ++ R ++ [opI 9] = C := ⟨_, rfl⟩
  have HCE : Hid (S ++ R ++ [opI 9] = C) := hC
  obtain ⟨z1, hz1⟩ : ∃ x, sureR S = x := ⟨_, rfl⟩
  obtain ⟨z2, hz2⟩ : ∃ x, sureR R = x := ⟨_, rfl⟩
  have HZ1 : Hid (sureR S = z1) := hz1
  have HZ2 : Hid (sureR R = z2) := hz2
  rw [hC]
  clear hz1 hz2 hC
  obtain ⟨E0, hE0, hA, hBS, hBT⟩ := two_boxes w (.cells #[.int .i64 kd, .string nm, .slice na nn nc, .slice sa sn sc, .bool dn, .int .i64 ct, .int .i64 sk] 38) (.cells #[.int .i64 kt, .string mt, .slice ma mn mc, .slice ra rn rc, .bool dt, .int .i64 tt, .int .i64 st] 38)
  have HBS : Hid (E0.heap[w.heap.size]? = some (.cells #[.int .i64 kd, .string nm, .slice na nn nc, .slice sa sn sc, .bool dn, .int .i64 ct, .int .i64 sk] 38)) := hBS
  have HBT : Hid (E0.heap[w.heap.size + 1]? = some (.cells #[.int .i64 kt, .string mt, .slice ma mn mc, .slice ra rn rc, .bool dt, .int .i64 tt, .int .i64 st] 38)) := hBT
  have HE0 : Hid (((w.alloc (.cells #[.int .i64 kd, .string nm, .slice na nn nc, .slice sa sn sc, .bool dn, .int .i64 ct, .int .i64 sk] 38)).alloc (.cells #[.int .i64 kt, .string mt, .slice ma mn mc, .slice ra rn rc, .bool dt, .int .i64 tt, .int .i64 st] 38)) = E0) := hE0
  have P0 := Kept.refl w.heap.size E0
  have HS : Hid (ItmAt w sa S) := hS
  have HR : Hid (ItmAt w ra R) := hR
  have HSN : Hid (S.length = sn) := hsn
  have HRN : Hid (R.length = rn) := hrn
  have HFS : Hid (FitI S) := hfs
  have HFR : Hid (FitI R) := hfr
  have HP : Hid (PowAt w) := hp
  have HE : Hid (ErrAt w) := he
  have HZ : Hid ((sureR S && (sureR R && decide (sn + rn < 40))) = z) := hz
  clear hE0 hBS hBT hS hR hsn hrn hfs hfr hp he hz
  go_enter Tryz.func36, Tryz.ntmps36
  obtain ⟨p0, p1, p2, p3, p4, p5, p6⟩ := cells7 HBS.out
  obtain ⟨t0, t1, t2, t3, t4, t5, t6⟩ := cells7 HBT.out
  rw [← HE0.out] at p0 p1 p2 p3 p4 p5 p6 t0 t1 t2 t3 t4 t5 t6
  go_wp2_with fail
  rw [HE0.out]
  clear p0 p1 p2 p3 p4 p5 p6 t0 t1 t2 t3 t4 t5 t6
  have h0 : E0.heap.size = w.heap.size + 1 + 1 := by rw [← HE0.out]; simp
  obtain ⟨E2, hE2⟩ : ∃ E2, E2 = (E0.alloc (.cells #[.int .i64 9, .int .i64 0, .int .i64 0, .string ⟨#[]⟩, .string ⟨#[]⟩] 56)).alloc (.cells #[.slice sa sn sc, .slice ra rn rc, .slice (some ⟨w.heap.size + 1 + 1, 0, none⟩) 1 1] 36) := ⟨_, rfl⟩
  obtain ⟨F0, hF0, hFA, hFI, hFL⟩ := two_boxes E0 (.cells #[.int .i64 9, .int .i64 0, .int .i64 0, .string ⟨#[]⟩, .string ⟨#[]⟩] 56) (.cells #[.slice sa sn sc, .slice ra rn rc, .slice (some ⟨w.heap.size + 1 + 1, 0, none⟩) 1 1] 36)
  obtain rfl : E2 = F0 := hE2.trans hF0
  rw [h0] at hFI hFL
  have c : ∀ (j : Nat), E2.cell? ⟨w.heap.size + 1 + 1 + 1, j, none⟩ = (#[Value.slice sa sn sc, .slice ra rn rc, .slice (some ⟨w.heap.size + 1 + 1, 0, none⟩) 1 1] : Array Value)[j]? := fun j => by
    unfold World.cell?
    rw [hFL]
    rfl
  have hO : ItmAt E2 (some ⟨w.heap.size + 1 + 1, 0, none⟩) [opI 9] := by
    intro i hi
    have hi0 : i = 0 := by simp at hi; omega
    subst hi0
    have c' : ∀ (j : Nat), E2.cell? ⟨w.heap.size + 1 + 1, j, none⟩ = (#[Value.int .i64 9, .int .i64 0, .int .i64 0, .string ⟨#[]⟩, .string ⟨#[]⟩] : Array Value)[j]? := fun j => by
      unfold World.cell?
      rw [hFI]
      rfl
    exact ⟨w.heap.size + 1 + 1, 0, rfl, by rw [hE2]; simp [h0], c' 0, c' 1, c' 2, c' 3, c' 4⟩
  have HBE : Hid (Below w.heap.size w E2) := chain hA hFA
  have P2 : Kept w.heap.size E0 E2 := P0.below hFA
  have HCC : Hid (Calls Tryz.prog 51 #[.slice (some ⟨w.heap.size + 1 + 1 + 1, 0, none⟩) 3 3] E2 fun e w' => ∃ g k, e = .returned (.slice (some ⟨g, 0, none⟩) (sn + rn + 1) k) ∧ E2.heap.size ≤ g ∧ w'.ownsRow E2.heap.size 56 5 (.slice (some ⟨g, 0, none⟩) (sn + rn + 1) k) (sn + rn + 1) (flatItm (S ++ R ++ [opI 9])) ∧ Below E2.heap.size E2 w') := by
    have h := concatM_impl (w.heap.size + 1 + 1 + 1) 3 sa sn sc S ra rn rc R (some ⟨w.heap.size + 1 + 1, 0, none⟩) 1 1 [opI 9] HSN.out HRN.out rfl E2 (by rw [hE2]; simp [h0]) (c 0) (c 1) (c 2) (HS.out.below HBE.out) (HR.out.below HBE.out) hO hns hnr (fun h => by cases h) (by omega) (by omega)
    exact h
  rw [← hE2]
  clear hE2 hF0 hFA hFI hFL c hO HE0 hA h0 P0
  refine HCC.out.mono ?_
  rintro e w3 ⟨g, k, rfl, hgl, own, hb3⟩
  have P3 := P2.below hb3
  have hx := chain HBE.out hb3
  obtain ⟨nS, hnS⟩ : ∃ z, sn + rn + 1 = z := ⟨_, rfl⟩
  rw [hnS] at own ⊢
  have OW : Hid (w3.ownsRow E2.heap.size 56 5 (.slice (some ⟨g, 0, none⟩) nS k) nS (flatItm (S ++ R ++ [opI 9]))) := own
  rw [HCE.out] at OW
  have HCL : Hid (C.length = nS) := by
    have h : C.length = nS := by rw [← HCE.out, ← hnS, List.length_append, List.length_append, HSN.out, HRN.out]; rfl
    exact h
  have OI : Hid (ItmAt w3 (some ⟨g, 0, none⟩) C) := by
    have h := OW.out
    rw [← HCL.out] at h
    obtain ⟨a', c', e, hi⟩ := own_itm h
    injection e with e
    rw [e]
    exact hi
  clear own HCC hb3 P2
  obtain ⟨p0, p1, p2, p3, p4, p5, p6⟩ := cells7 (P3.box (Nat.le_refl _) HBS.out)
  obtain ⟨t0, t1, t2, t3, t4, t5, t6⟩ := cells7 (P3.box (by omega) HBT.out)
  go_wp2_with fail
  obtain ⟨E3, hE3⟩ : ∃ E3, E3 = w3.alloc (.cells #[.int .i64 2, .string ⟨#[]⟩, .slice none 0 0, .slice (some ⟨g, 0, none⟩) nS k, .bool false, .int .i64 0, .int .i64 0] 38) := ⟨_, rfl⟩
  obtain ⟨bo, hbo⟩ : ∃ z, z = w3.heap.size := ⟨_, rfl⟩
  have HBO : Hid (E3.heap[bo]? = some (.cells #[.int .i64 2, .string ⟨#[]⟩, .slice none 0 0, .slice (some ⟨g, 0, none⟩) nS k, .bool false, .int .i64 0, .int .i64 0] 38)) := by
    have h : E3.heap[bo]? = some (.cells #[.int .i64 2, .string ⟨#[]⟩, .slice none 0 0, .slice (some ⟨g, 0, none⟩) nS k, .bool false, .int .i64 0, .int .i64 0] 38) := by rw [hE3, hbo]; exact _root_.Go.heap_alloc_new _ _
    exact h
  have B3 : Below w3.heap.size w3 E3 := by rw [hE3]; exact (Below.refl _ _).alloc (Nat.le_refl _) _
  have P0 := P3.below B3
  have Q0 := Kept.refl 0 E3
  have HY : Hid (Below w3.heap.size w3 E3.drew) := B3.drew
  rw [← hE3, ← hbo]
  clear hE3 hbo p0 p1 p2 p3 p4 p5 p6 t0 t1 t2 t3 t4 t5 t6 B3 P3 HBE
  have C1 : Hid (∀ w', Below w.heap.size w w' → Calls Tryz.prog 52 #[.slice sa sn sc] w' fun e w'' => e = .returned (.bool z1) ∧ Below w'.heap.size w' w'') := fun w' hw => sure_impl sa sc S sn HSN.out w' (HS.out.below hw) HFS.out (by unfold maxLen; omega) (HP.out.below hw) (HE.out.below hw) z1 HZ1.out
  have C2 : Hid (∀ w', Below w.heap.size w w' → Calls Tryz.prog 52 #[.slice ra rn rc] w' fun e w'' => e = .returned (.bool z2) ∧ Below w'.heap.size w' w'') := fun w' hw => sure_impl ra rc R rn HRN.out w' (HR.out.below hw) HFR.out (by unfold maxLen; omega) (HP.out.below hw) (HE.out.below hw) z2 HZ2.out
  have pS := (cells7 (P0.box (Nat.le_refl _) HBS.out)).2.2.2.1
  have pT := (cells7 (P0.box (by omega) HBT.out)).2.2.2.1
  obtain ⟨q0, q1, q2, q3, q4, q5, q6⟩ := cells7 (Q0.box (Nat.zero_le _) HBO.out)
  have HZ' : Hid ((z1 && (z2 && decide (sn + rn < 40))) = z) := by rw [← HZ1.out, ← HZ2.out]; exact HZ.out
  clear HZ1 HZ2 HZ HS HR HSN HRN HFS HFR HP HE
  cases z1
  · obtain rfl : false = z := by rw [← HZ'.out]; simp
    refine wp_region_held_drew (S := (fun w' => w'.cell? ⟨w.heap.size, 3, none⟩ = some (.slice sa sn sc) ∧ w'.cell? ⟨w.heap.size + 1, 3, none⟩ = some (.slice ra rn rc) ∧ w'.cell? ⟨bo, 0, none⟩ = some (.int .i64 2) ∧ w'.cell? ⟨bo, 1, none⟩ = some (.string ⟨#[]⟩) ∧ w'.cell? ⟨bo, 2, none⟩ = some (.slice none 0 0) ∧ w'.cell? ⟨bo, 3, none⟩ = some (.slice (some ⟨g, 0, none⟩) nS k) ∧ w'.cell? ⟨bo, 4, none⟩ = some (.bool false) ∧ w'.cell? ⟨bo, 5, none⟩ = some (.int .i64 0) ∧ w'.cell? ⟨bo, 6, none⟩ = some (.int .i64 0))) (by kernel_rfl) ?_ (fun hHeld => ?_)
    · (((try dsimp only); (repeat' apply And.intro) <;> first | (go_keep; done) | (simp (disch := first | omega | (simp <;> omega) | fail) [*]; done) | fail))
    refine wpAnyH_take (i := 0) (by simp only [List.getElem?_toArray, List.getElem?_cons_zero]; rfl) (by kernel_rfl) (by kernel_rfl) (by kernel_rfl) (by intro _ _ _ h; exact h) (Or.inl ⟨by rfl, fun w hSw => by (dsimp only at hSw; go_simp; (try with_reducible rfl))⟩) (by assumption) ?_
    simp only [Act.put, List.setIfInBounds_toArray, List.set_cons_zero, List.set_cons_succ]
    refine wpAnyH_take (i := 2) (by simp only [List.getElem?_toArray, List.getElem?_cons_zero, List.getElem?_cons_succ]; rfl) (by kernel_rfl) (by kernel_rfl) (by kernel_rfl) (by intro _ _ _ h; exact h) (Or.inl ⟨by rfl, fun w hSw => by (dsimp only at hSw; go_simp; (try with_reducible rfl))⟩) (by assumption) ?_
    simp only [Act.put, List.setIfInBounds_toArray, List.set_cons_zero, List.set_cons_succ]
    refine wpAnyH_take (i := 3) (by simp only [List.getElem?_toArray, List.getElem?_cons_zero, List.getElem?_cons_succ]; rfl) (by kernel_rfl) (by kernel_rfl) (by kernel_rfl) (by intro _ _ _ h; exact h) (Or.inl ⟨by rfl, fun w hSw => by (dsimp only at hSw; go_simp; (try with_reducible rfl))⟩) (by assumption) ?_
    simp only [Act.put, List.setIfInBounds_toArray, List.set_cons_zero, List.set_cons_succ]
    refine wpAnyH_ready (rs := [1, 4]) (by kernel_rfl) (by simp) ?_
    refine AllReadyH.cons (by simp only [List.getElem?_toArray, List.getElem?_cons_zero, List.getElem?_cons_succ]; rfl) ?_ (AllReadyH.cons (by simp only [List.getElem?_toArray, List.getElem?_cons_zero, List.getElem?_cons_succ]; rfl) ?_ AllReadyH.nil)
    · intro K hK
      go_simp
      obtain ⟨V1, hV⟩ : ∃ V, V = E3.alloc (.cells #[.int .i64 2, .string ⟨#[]⟩, .slice none 0 0, .slice (some ⟨g, 0, none⟩) nS k, .bool false, .int .i64 0, .int .i64 0] 38) := ⟨_, rfl⟩
      obtain ⟨g2, hg⟩ : ∃ z, z = E3.heap.size := ⟨_, rfl⟩
      have hVB : Below E3.heap.size E3 V1 := by rw [hV]; exact (Below.refl _ _).alloc (Nat.le_refl _) _
      have HG : Hid (g2 < V1.heap.size ∧ ∀ (j : Nat) u, (hvS [((⟨2, ⟨#[]⟩, [], C, false, 0, 0⟩ : SV), (⟨none, 0, some ⟨g, 0, none⟩, k⟩ : HAd))])[j]? = some u → V1.cell? ⟨g2, j, none⟩ = some u) := by
        have h : g2 < V1.heap.size ∧ ∀ (j : Nat) u, (hvS [((⟨2, ⟨#[]⟩, [], C, false, 0, 0⟩ : SV), (⟨none, 0, some ⟨g, 0, none⟩, k⟩ : HAd))])[j]? = some u → V1.cell? ⟨g2, j, none⟩ = some u := by rw [hV, hg]; exact ⟨by simp, cells_alloc E3 _ _ _ (by simp [hvS, headSv, HCL.out])⟩
        exact h
      rw [← hV, ← hg]
      have P1 := P0.below hVB
      have Q1 := Q0.below hVB
      replace HY : Hid (Below w3.heap.size w3 V1.drew) := chain HY.out (undrewL hVB)
      clear hV hg
      clear pS pT q0 q1 q2 q3 q4 q5 q6 hHeld
      have pS := (cells7 (P1.box (Nat.le_refl _) HBS.out)).2.2.2.1
      have pT := (cells7 (P1.box (by omega) HBT.out)).2.2.2.1
      obtain ⟨q0, q1, q2, q3, q4, q5, q6⟩ := cells7 (Q1.box (Nat.zero_le _) HBO.out)
      clear hVB
      refine hK.out _ _ ?_ (fun hHeld => ?_)
      · (((try dsimp only); (repeat' apply And.intro) <;> first | assumption | (simp (disch := first | omega | (simp <;> omega) | fail) [*]; done) | fail))
      clear hK K
      try simp only [Act.put, List.setIfInBounds_toArray, List.set_cons_zero, List.set_cons_succ]
      refine wpAnyH_ready (rs := [4]) (by kernel_rfl) (by simp) ?_
      refine AllReadyH.cons (by simp only [List.getElem?_toArray, List.getElem?_cons_zero, List.getElem?_cons_succ]; rfl) ?_ AllReadyH.nil
      intro K hK
      go_simp
      refine (C1.out _ (chain hx HY.out)).mono ?_
      rintro e W2 ⟨rfl, hb⟩
      replace HY : Hid (Below w3.heap.size w3 W2) := chain HY.out hb
      replace hb := undrew hb
      have P2 := P1.below hb
      have Q2 := Q1.below hb
      clear pS pT q0 q1 q2 q3 q4 q5 q6 hHeld
      replace HG : Hid (g2 < W2.heap.size ∧ ∀ (j : Nat) u, (hvS [((⟨2, ⟨#[]⟩, [], C, false, 0, 0⟩ : SV), (⟨none, 0, some ⟨g, 0, none⟩, k⟩ : HAd))])[j]? = some u → W2.cell? ⟨g2, j, none⟩ = some u) := ⟨Nat.lt_of_lt_of_le HG.out.1 hb.size, fun j u hj => (hb.cell (p := ⟨g2, j, none⟩) HG.out.1).trans (HG.out.2 j u hj)⟩
      have pS := (cells7 (P2.box (Nat.le_refl _) HBS.out)).2.2.2.1
      have pT := (cells7 (P2.box (by omega) HBT.out)).2.2.2.1
      obtain ⟨q0, q1, q2, q3, q4, q5, q6⟩ := cells7 (Q2.box (Nat.zero_le _) HBO.out)
      clear hb
      go_wp2_with fail
      refine hK.out _ _ ?_ (fun hHeld => ?_)
      · (((try dsimp only); (repeat' apply And.intro) <;> first | assumption | (simp (disch := first | omega | (simp <;> omega) | fail) [*]; done) | fail))
      clear hK K
      try simp only [Act.put, List.setIfInBounds_toArray, List.set_cons_zero, List.set_cons_succ]
      refine wpAnyH_take (i := 5) (by simp only [List.getElem?_toArray, List.getElem?_cons_zero, List.getElem?_cons_succ]; rfl) (by kernel_rfl) (by kernel_rfl) (by kernel_rfl) (by intro _ _ _ h; exact h) (Or.inl ⟨by rfl, fun w hSw => by (dsimp only at hSw; go_simp; (try with_reducible rfl))⟩) (by assumption) ?_
      simp only [Act.put, List.setIfInBounds_toArray, List.set_cons_zero, List.set_cons_succ]
      refine wpAnyH_take (i := 6) (v := undef) (by simp only [List.getElem?_toArray, List.getElem?_cons_zero, List.getElem?_cons_succ]; rfl) (by kernel_rfl) (by kernel_rfl) (by kernel_rfl) (by intro _ _ _ h; exact h) (Or.inr ⟨by rfl, rfl⟩) (by assumption) ?_
      simp only [Act.put, List.setIfInBounds_toArray, List.set_cons_zero, List.set_cons_succ]
      refine wpAnyH_take (i := 7) (v := undef) (by simp only [List.getElem?_toArray, List.getElem?_cons_zero, List.getElem?_cons_succ]; rfl) (by kernel_rfl) (by kernel_rfl) (by kernel_rfl) (by intro _ _ _ h; exact h) (Or.inr ⟨by rfl, rfl⟩) (by assumption) ?_
      simp only [Act.put, List.setIfInBounds_toArray, List.set_cons_zero, List.set_cons_succ]
      refine wpAnyH_take (i := 8) (v := undef) (by simp only [List.getElem?_toArray, List.getElem?_cons_zero, List.getElem?_cons_succ]; rfl) (by kernel_rfl) (by kernel_rfl) (by kernel_rfl) (by intro _ _ _ h; exact h) (Or.inr ⟨by rfl, rfl⟩) (by assumption) ?_
      simp only [Act.put, List.setIfInBounds_toArray, List.set_cons_zero, List.set_cons_succ]
      refine wpAnyH_take (i := 9) (by simp only [List.getElem?_toArray, List.getElem?_cons_zero, List.getElem?_cons_succ]; rfl) (by kernel_rfl) (by kernel_rfl) (by kernel_rfl) (by intro _ _ _ h; exact h) (Or.inl ⟨by rfl, fun w hSw => by (dsimp only at hSw; go_simp; (try with_reducible rfl))⟩) (by assumption) ?_
      simp only [Act.put, List.setIfInBounds_toArray, List.set_cons_zero, List.set_cons_succ]
      refine wpAnyH_take (i := 10) (by simp only [List.getElem?_toArray, List.getElem?_cons_zero, List.getElem?_cons_succ]; rfl) (by kernel_rfl) (by kernel_rfl) (by kernel_rfl) (by intro _ _ _ h; exact h) (Or.inl ⟨by rfl, fun w hSw => by (dsimp only at hSw; go_simp; (try with_reducible rfl))⟩) (by assumption) ?_
      simp only [Act.put, List.setIfInBounds_toArray, List.set_cons_zero, List.set_cons_succ]
      refine wpAnyH_take (i := 11) (v := undef) (by simp only [List.getElem?_toArray, List.getElem?_cons_zero, List.getElem?_cons_succ]; rfl) (by kernel_rfl) (by kernel_rfl) (by kernel_rfl) (by intro _ _ _ h; exact h) (Or.inr ⟨by rfl, rfl⟩) (by assumption) ?_
      simp only [Act.put, List.setIfInBounds_toArray, List.set_cons_zero, List.set_cons_succ]
      refine wpAnyH_take (i := 12) (v := undef) (by simp only [List.getElem?_toArray, List.getElem?_cons_zero, List.getElem?_cons_succ]; rfl) (by kernel_rfl) (by kernel_rfl) (by kernel_rfl) (by intro _ _ _ h; exact h) (Or.inr ⟨by rfl, rfl⟩) (by assumption) ?_
      simp only [Act.put, List.setIfInBounds_toArray, List.set_cons_zero, List.set_cons_succ]
      refine wpAnyH_take (i := 13) (v := undef) (by simp only [List.getElem?_toArray, List.getElem?_cons_zero, List.getElem?_cons_succ]; rfl) (by kernel_rfl) (by kernel_rfl) (by kernel_rfl) (by intro _ _ _ h; exact h) (Or.inr ⟨by rfl, rfl⟩) (by assumption) ?_
      simp only [Act.put, List.setIfInBounds_toArray, List.set_cons_zero, List.set_cons_succ]
      refine wpAnyH_take (i := 14) (by simp only [List.getElem?_toArray, List.getElem?_cons_zero, List.getElem?_cons_succ]; rfl) (by kernel_rfl) (by kernel_rfl) (by kernel_rfl) (by intro _ _ _ h; exact h) (Or.inl ⟨by rfl, fun w hSw => by (dsimp only at hSw; go_simp; (try with_reducible rfl))⟩) (by assumption) ?_
      simp only [Act.put, List.setIfInBounds_toArray, List.set_cons_zero, List.set_cons_succ]
      refine wpAnyH_take (i := 15) (by simp only [List.getElem?_toArray, List.getElem?_cons_zero, List.getElem?_cons_succ]; rfl) (by kernel_rfl) (by kernel_rfl) (by kernel_rfl) (by intro _ _ _ h; exact h) (Or.inl ⟨by rfl, fun w hSw => by (dsimp only at hSw; go_simp; (try with_reducible rfl))⟩) (by assumption) ?_
      simp only [Act.put, List.setIfInBounds_toArray, List.set_cons_zero, List.set_cons_succ]
      refine wpAnyH_take (i := 16) (by simp only [List.getElem?_toArray, List.getElem?_cons_zero, List.getElem?_cons_succ]; rfl) (by kernel_rfl) (by kernel_rfl) (by kernel_rfl) (by intro _ _ _ h; exact h) (Or.inl ⟨by rfl, fun w hSw => by (dsimp only at hSw; go_simp; (try with_reducible rfl))⟩) (by assumption) ?_
      simp only [Act.put, List.setIfInBounds_toArray, List.set_cons_zero, List.set_cons_succ]
      refine wpAnyH_done (by kernel_rfl) ?_ _
      clear pS pT q0 q1 q2 q3 q4 q5 q6 hHeld
      go_wp2
      go_ret2
      exact ⟨g, k, ⟨⟨g2, 1, 1, rfl, rfl, HG.out.1, HG.out.2⟩, chain hx HY.out⟩, OI.out.below HY.out⟩
    · intro K hK
      go_simp
      refine (C1.out _ (chain hx HY.out)).mono ?_
      rintro e W3 ⟨rfl, hb⟩
      replace HY : Hid (Below w3.heap.size w3 W3) := chain HY.out hb
      replace hb := undrew hb
      have P3 := P0.below hb
      have Q3 := Q0.below hb
      clear pS pT q0 q1 q2 q3 q4 q5 q6 hHeld
      have pS := (cells7 (P3.box (Nat.le_refl _) HBS.out)).2.2.2.1
      have pT := (cells7 (P3.box (by omega) HBT.out)).2.2.2.1
      obtain ⟨q0, q1, q2, q3, q4, q5, q6⟩ := cells7 (Q3.box (Nat.zero_le _) HBO.out)
      clear hb
      go_wp2_with fail
      refine hK.out _ _ ?_ (fun hHeld => ?_)
      · (((try dsimp only); (repeat' apply And.intro) <;> first | assumption | (simp (disch := first | omega | (simp <;> omega) | fail) [*]; done) | fail))
      clear hK K
      try simp only [Act.put, List.setIfInBounds_toArray, List.set_cons_zero, List.set_cons_succ]
      refine wpAnyH_take (i := 5) (by simp only [List.getElem?_toArray, List.getElem?_cons_zero, List.getElem?_cons_succ]; rfl) (by kernel_rfl) (by kernel_rfl) (by kernel_rfl) (by intro _ _ _ h; exact h) (Or.inl ⟨by rfl, fun w hSw => by (dsimp only at hSw; go_simp; (try with_reducible rfl))⟩) (by assumption) ?_
      simp only [Act.put, List.setIfInBounds_toArray, List.set_cons_zero, List.set_cons_succ]
      refine wpAnyH_take (i := 6) (v := undef) (by simp only [List.getElem?_toArray, List.getElem?_cons_zero, List.getElem?_cons_succ]; rfl) (by kernel_rfl) (by kernel_rfl) (by kernel_rfl) (by intro _ _ _ h; exact h) (Or.inr ⟨by rfl, rfl⟩) (by assumption) ?_
      simp only [Act.put, List.setIfInBounds_toArray, List.set_cons_zero, List.set_cons_succ]
      refine wpAnyH_take (i := 7) (v := undef) (by simp only [List.getElem?_toArray, List.getElem?_cons_zero, List.getElem?_cons_succ]; rfl) (by kernel_rfl) (by kernel_rfl) (by kernel_rfl) (by intro _ _ _ h; exact h) (Or.inr ⟨by rfl, rfl⟩) (by assumption) ?_
      simp only [Act.put, List.setIfInBounds_toArray, List.set_cons_zero, List.set_cons_succ]
      refine wpAnyH_take (i := 8) (v := undef) (by simp only [List.getElem?_toArray, List.getElem?_cons_zero, List.getElem?_cons_succ]; rfl) (by kernel_rfl) (by kernel_rfl) (by kernel_rfl) (by intro _ _ _ h; exact h) (Or.inr ⟨by rfl, rfl⟩) (by assumption) ?_
      simp only [Act.put, List.setIfInBounds_toArray, List.set_cons_zero, List.set_cons_succ]
      refine wpAnyH_take (i := 9) (by simp only [List.getElem?_toArray, List.getElem?_cons_zero, List.getElem?_cons_succ]; rfl) (by kernel_rfl) (by kernel_rfl) (by kernel_rfl) (by intro _ _ _ h; exact h) (Or.inl ⟨by rfl, fun w hSw => by (dsimp only at hSw; go_simp; (try with_reducible rfl))⟩) (by assumption) ?_
      simp only [Act.put, List.setIfInBounds_toArray, List.set_cons_zero, List.set_cons_succ]
      refine wpAnyH_take (i := 10) (by simp only [List.getElem?_toArray, List.getElem?_cons_zero, List.getElem?_cons_succ]; rfl) (by kernel_rfl) (by kernel_rfl) (by kernel_rfl) (by intro _ _ _ h; exact h) (Or.inl ⟨by rfl, fun w hSw => by (dsimp only at hSw; go_simp; (try with_reducible rfl))⟩) (by assumption) ?_
      simp only [Act.put, List.setIfInBounds_toArray, List.set_cons_zero, List.set_cons_succ]
      refine wpAnyH_take (i := 11) (v := undef) (by simp only [List.getElem?_toArray, List.getElem?_cons_zero, List.getElem?_cons_succ]; rfl) (by kernel_rfl) (by kernel_rfl) (by kernel_rfl) (by intro _ _ _ h; exact h) (Or.inr ⟨by rfl, rfl⟩) (by assumption) ?_
      simp only [Act.put, List.setIfInBounds_toArray, List.set_cons_zero, List.set_cons_succ]
      refine wpAnyH_take (i := 12) (v := undef) (by simp only [List.getElem?_toArray, List.getElem?_cons_zero, List.getElem?_cons_succ]; rfl) (by kernel_rfl) (by kernel_rfl) (by kernel_rfl) (by intro _ _ _ h; exact h) (Or.inr ⟨by rfl, rfl⟩) (by assumption) ?_
      simp only [Act.put, List.setIfInBounds_toArray, List.set_cons_zero, List.set_cons_succ]
      refine wpAnyH_take (i := 13) (v := undef) (by simp only [List.getElem?_toArray, List.getElem?_cons_zero, List.getElem?_cons_succ]; rfl) (by kernel_rfl) (by kernel_rfl) (by kernel_rfl) (by intro _ _ _ h; exact h) (Or.inr ⟨by rfl, rfl⟩) (by assumption) ?_
      simp only [Act.put, List.setIfInBounds_toArray, List.set_cons_zero, List.set_cons_succ]
      refine wpAnyH_take (i := 14) (by simp only [List.getElem?_toArray, List.getElem?_cons_zero, List.getElem?_cons_succ]; rfl) (by kernel_rfl) (by kernel_rfl) (by kernel_rfl) (by intro _ _ _ h; exact h) (Or.inl ⟨by rfl, fun w hSw => by (dsimp only at hSw; go_simp; (try with_reducible rfl))⟩) (by assumption) ?_
      simp only [Act.put, List.setIfInBounds_toArray, List.set_cons_zero, List.set_cons_succ]
      refine wpAnyH_ready (rs := [1]) (by kernel_rfl) (by simp) ?_
      refine AllReadyH.cons (by simp only [List.getElem?_toArray, List.getElem?_cons_zero, List.getElem?_cons_succ]; rfl) ?_ AllReadyH.nil
      intro K hK
      go_simp
      obtain ⟨V4, hV⟩ : ∃ V, V = W3.alloc (.cells #[.int .i64 2, .string ⟨#[]⟩, .slice none 0 0, .slice (some ⟨g, 0, none⟩) nS k, .bool false, .int .i64 0, .int .i64 0] 38) := ⟨_, rfl⟩
      obtain ⟨g2, hg⟩ : ∃ z, z = W3.heap.size := ⟨_, rfl⟩
      have hVB : Below W3.heap.size W3 V4 := by rw [hV]; exact (Below.refl _ _).alloc (Nat.le_refl _) _
      have HG : Hid (g2 < V4.heap.size ∧ ∀ (j : Nat) u, (hvS [((⟨2, ⟨#[]⟩, [], C, false, 0, 0⟩ : SV), (⟨none, 0, some ⟨g, 0, none⟩, k⟩ : HAd))])[j]? = some u → V4.cell? ⟨g2, j, none⟩ = some u) := by
        have h : g2 < V4.heap.size ∧ ∀ (j : Nat) u, (hvS [((⟨2, ⟨#[]⟩, [], C, false, 0, 0⟩ : SV), (⟨none, 0, some ⟨g, 0, none⟩, k⟩ : HAd))])[j]? = some u → V4.cell? ⟨g2, j, none⟩ = some u := by rw [hV, hg]; exact ⟨by simp, cells_alloc W3 _ _ _ (by simp [hvS, headSv, HCL.out])⟩
        exact h
      rw [← hV, ← hg]
      have P4 := P3.below hVB
      have Q4 := Q3.below hVB
      replace HY : Hid (Below w3.heap.size w3 V4) := chain HY.out hVB
      clear hV hg
      clear pS pT q0 q1 q2 q3 q4 q5 q6 hHeld
      have pS := (cells7 (P4.box (Nat.le_refl _) HBS.out)).2.2.2.1
      have pT := (cells7 (P4.box (by omega) HBT.out)).2.2.2.1
      obtain ⟨q0, q1, q2, q3, q4, q5, q6⟩ := cells7 (Q4.box (Nat.zero_le _) HBO.out)
      clear hVB
      refine hK.out _ _ ?_ (fun hHeld => ?_)
      · (((try dsimp only); (repeat' apply And.intro) <;> first | assumption | (simp (disch := first | omega | (simp <;> omega) | fail) [*]; done) | fail))
      clear hK K
      try simp only [Act.put, List.setIfInBounds_toArray, List.set_cons_zero, List.set_cons_succ]
      refine wpAnyH_take (i := 15) (by simp only [List.getElem?_toArray, List.getElem?_cons_zero, List.getElem?_cons_succ]; rfl) (by kernel_rfl) (by kernel_rfl) (by kernel_rfl) (by intro _ _ _ h; exact h) (Or.inl ⟨by rfl, fun w hSw => by (dsimp only at hSw; go_simp; (try with_reducible rfl))⟩) (by assumption) ?_
      simp only [Act.put, List.setIfInBounds_toArray, List.set_cons_zero, List.set_cons_succ]
      refine wpAnyH_take (i := 16) (by simp only [List.getElem?_toArray, List.getElem?_cons_zero, List.getElem?_cons_succ]; rfl) (by kernel_rfl) (by kernel_rfl) (by kernel_rfl) (by intro _ _ _ h; exact h) (Or.inl ⟨by rfl, fun w hSw => by (dsimp only at hSw; go_simp; (try with_reducible rfl))⟩) (by assumption) ?_
      simp only [Act.put, List.setIfInBounds_toArray, List.set_cons_zero, List.set_cons_succ]
      refine wpAnyH_done (by kernel_rfl) ?_ _
      clear pS pT q0 q1 q2 q3 q4 q5 q6 hHeld
      go_wp2
      go_ret2
      exact ⟨g, k, ⟨⟨g2, 1, 1, rfl, rfl, HG.out.1, HG.out.2⟩, chain hx HY.out⟩, OI.out.below HY.out⟩
  cases z2
  · obtain rfl : false = z := by rw [← HZ'.out]; simp
    refine wp_region_held_drew (S := (fun w' => w'.cell? ⟨w.heap.size, 3, none⟩ = some (.slice sa sn sc) ∧ w'.cell? ⟨w.heap.size + 1, 3, none⟩ = some (.slice ra rn rc) ∧ w'.cell? ⟨bo, 0, none⟩ = some (.int .i64 2) ∧ w'.cell? ⟨bo, 1, none⟩ = some (.string ⟨#[]⟩) ∧ w'.cell? ⟨bo, 2, none⟩ = some (.slice none 0 0) ∧ w'.cell? ⟨bo, 3, none⟩ = some (.slice (some ⟨g, 0, none⟩) nS k) ∧ w'.cell? ⟨bo, 4, none⟩ = some (.bool false) ∧ w'.cell? ⟨bo, 5, none⟩ = some (.int .i64 0) ∧ w'.cell? ⟨bo, 6, none⟩ = some (.int .i64 0))) (by kernel_rfl) ?_ (fun hHeld => ?_)
    · (((try dsimp only); (repeat' apply And.intro) <;> first | (go_keep; done) | (simp (disch := first | omega | (simp <;> omega) | fail) [*]; done) | fail))
    refine wpAnyH_take (i := 0) (by simp only [List.getElem?_toArray, List.getElem?_cons_zero]; rfl) (by kernel_rfl) (by kernel_rfl) (by kernel_rfl) (by intro _ _ _ h; exact h) (Or.inl ⟨by rfl, fun w hSw => by (dsimp only at hSw; go_simp; (try with_reducible rfl))⟩) (by assumption) ?_
    simp only [Act.put, List.setIfInBounds_toArray, List.set_cons_zero, List.set_cons_succ]
    refine wpAnyH_take (i := 2) (by simp only [List.getElem?_toArray, List.getElem?_cons_zero, List.getElem?_cons_succ]; rfl) (by kernel_rfl) (by kernel_rfl) (by kernel_rfl) (by intro _ _ _ h; exact h) (Or.inl ⟨by rfl, fun w hSw => by (dsimp only at hSw; go_simp; (try with_reducible rfl))⟩) (by assumption) ?_
    simp only [Act.put, List.setIfInBounds_toArray, List.set_cons_zero, List.set_cons_succ]
    refine wpAnyH_take (i := 3) (by simp only [List.getElem?_toArray, List.getElem?_cons_zero, List.getElem?_cons_succ]; rfl) (by kernel_rfl) (by kernel_rfl) (by kernel_rfl) (by intro _ _ _ h; exact h) (Or.inl ⟨by rfl, fun w hSw => by (dsimp only at hSw; go_simp; (try with_reducible rfl))⟩) (by assumption) ?_
    simp only [Act.put, List.setIfInBounds_toArray, List.set_cons_zero, List.set_cons_succ]
    refine wpAnyH_ready (rs := [1, 4]) (by kernel_rfl) (by simp) ?_
    refine AllReadyH.cons (by simp only [List.getElem?_toArray, List.getElem?_cons_zero, List.getElem?_cons_succ]; rfl) ?_ (AllReadyH.cons (by simp only [List.getElem?_toArray, List.getElem?_cons_zero, List.getElem?_cons_succ]; rfl) ?_ AllReadyH.nil)
    · intro K hK
      go_simp
      obtain ⟨V5, hV⟩ : ∃ V, V = E3.alloc (.cells #[.int .i64 2, .string ⟨#[]⟩, .slice none 0 0, .slice (some ⟨g, 0, none⟩) nS k, .bool false, .int .i64 0, .int .i64 0] 38) := ⟨_, rfl⟩
      obtain ⟨g2, hg⟩ : ∃ z, z = E3.heap.size := ⟨_, rfl⟩
      have hVB : Below E3.heap.size E3 V5 := by rw [hV]; exact (Below.refl _ _).alloc (Nat.le_refl _) _
      have HG : Hid (g2 < V5.heap.size ∧ ∀ (j : Nat) u, (hvS [((⟨2, ⟨#[]⟩, [], C, false, 0, 0⟩ : SV), (⟨none, 0, some ⟨g, 0, none⟩, k⟩ : HAd))])[j]? = some u → V5.cell? ⟨g2, j, none⟩ = some u) := by
        have h : g2 < V5.heap.size ∧ ∀ (j : Nat) u, (hvS [((⟨2, ⟨#[]⟩, [], C, false, 0, 0⟩ : SV), (⟨none, 0, some ⟨g, 0, none⟩, k⟩ : HAd))])[j]? = some u → V5.cell? ⟨g2, j, none⟩ = some u := by rw [hV, hg]; exact ⟨by simp, cells_alloc E3 _ _ _ (by simp [hvS, headSv, HCL.out])⟩
        exact h
      rw [← hV, ← hg]
      have P5 := P0.below hVB
      have Q5 := Q0.below hVB
      replace HY : Hid (Below w3.heap.size w3 V5.drew) := chain HY.out (undrewL hVB)
      clear hV hg
      clear pS pT q0 q1 q2 q3 q4 q5 q6 hHeld
      have pS := (cells7 (P5.box (Nat.le_refl _) HBS.out)).2.2.2.1
      have pT := (cells7 (P5.box (by omega) HBT.out)).2.2.2.1
      obtain ⟨q0, q1, q2, q3, q4, q5, q6⟩ := cells7 (Q5.box (Nat.zero_le _) HBO.out)
      clear hVB
      refine hK.out _ _ ?_ (fun hHeld => ?_)
      · (((try dsimp only); (repeat' apply And.intro) <;> first | assumption | (simp (disch := first | omega | (simp <;> omega) | fail) [*]; done) | fail))
      clear hK K
      try simp only [Act.put, List.setIfInBounds_toArray, List.set_cons_zero, List.set_cons_succ]
      refine wpAnyH_ready (rs := [4]) (by kernel_rfl) (by simp) ?_
      refine AllReadyH.cons (by simp only [List.getElem?_toArray, List.getElem?_cons_zero, List.getElem?_cons_succ]; rfl) ?_ AllReadyH.nil
      intro K hK
      go_simp
      refine (C1.out _ (chain hx HY.out)).mono ?_
      rintro e W6 ⟨rfl, hb⟩
      replace HY : Hid (Below w3.heap.size w3 W6) := chain HY.out hb
      replace hb := undrew hb
      have P6 := P5.below hb
      have Q6 := Q5.below hb
      clear pS pT q0 q1 q2 q3 q4 q5 q6 hHeld
      replace HG : Hid (g2 < W6.heap.size ∧ ∀ (j : Nat) u, (hvS [((⟨2, ⟨#[]⟩, [], C, false, 0, 0⟩ : SV), (⟨none, 0, some ⟨g, 0, none⟩, k⟩ : HAd))])[j]? = some u → W6.cell? ⟨g2, j, none⟩ = some u) := ⟨Nat.lt_of_lt_of_le HG.out.1 hb.size, fun j u hj => (hb.cell (p := ⟨g2, j, none⟩) HG.out.1).trans (HG.out.2 j u hj)⟩
      have pS := (cells7 (P6.box (Nat.le_refl _) HBS.out)).2.2.2.1
      have pT := (cells7 (P6.box (by omega) HBT.out)).2.2.2.1
      obtain ⟨q0, q1, q2, q3, q4, q5, q6⟩ := cells7 (Q6.box (Nat.zero_le _) HBO.out)
      clear hb
      go_wp2_with fail
      refine hK.out _ _ ?_ (fun hHeld => ?_)
      · (((try dsimp only); (repeat' apply And.intro) <;> first | assumption | (simp (disch := first | omega | (simp <;> omega) | fail) [*]; done) | fail))
      clear hK K
      try simp only [Act.put, List.setIfInBounds_toArray, List.set_cons_zero, List.set_cons_succ]
      refine wpAnyH_take (i := 5) (by simp only [List.getElem?_toArray, List.getElem?_cons_zero, List.getElem?_cons_succ]; rfl) (by kernel_rfl) (by kernel_rfl) (by kernel_rfl) (by intro _ _ _ h; exact h) (Or.inl ⟨by rfl, fun w hSw => by (dsimp only at hSw; go_simp; (try with_reducible rfl))⟩) (by assumption) ?_
      simp only [Act.put, List.setIfInBounds_toArray, List.set_cons_zero, List.set_cons_succ]
      refine wpAnyH_take (i := 6) (by simp only [List.getElem?_toArray, List.getElem?_cons_zero, List.getElem?_cons_succ]; rfl) (by kernel_rfl) (by kernel_rfl) (by kernel_rfl) (by intro _ _ _ h; exact h) (Or.inl ⟨by rfl, fun w hSw => by (dsimp only at hSw; go_simp; (try with_reducible rfl))⟩) (by assumption) ?_
      simp only [Act.put, List.setIfInBounds_toArray, List.set_cons_zero, List.set_cons_succ]
      refine wpAnyH_take (i := 7) (by simp only [List.getElem?_toArray, List.getElem?_cons_zero, List.getElem?_cons_succ]; rfl) (by kernel_rfl) (by kernel_rfl) (by kernel_rfl) (by intro _ _ _ h; exact h) (Or.inl ⟨by rfl, fun w hSw => by (dsimp only at hSw; go_simp; (try with_reducible rfl))⟩) (by assumption) ?_
      simp only [Act.put, List.setIfInBounds_toArray, List.set_cons_zero, List.set_cons_succ]
      refine wpAnyH_ready (rs := [8]) (by kernel_rfl) (by simp) ?_
      refine AllReadyH.cons (by simp only [List.getElem?_toArray, List.getElem?_cons_zero, List.getElem?_cons_succ]; rfl) ?_ AllReadyH.nil
      intro K hK
      go_simp
      refine (C2.out _ (chain hx HY.out)).mono ?_
      rintro e W7 ⟨rfl, hb⟩
      replace HY : Hid (Below w3.heap.size w3 W7) := chain HY.out hb
      have P7 := P6.below hb
      have Q7 := Q6.below hb
      clear pS pT q0 q1 q2 q3 q4 q5 q6 hHeld
      replace HG : Hid (g2 < W7.heap.size ∧ ∀ (j : Nat) u, (hvS [((⟨2, ⟨#[]⟩, [], C, false, 0, 0⟩ : SV), (⟨none, 0, some ⟨g, 0, none⟩, k⟩ : HAd))])[j]? = some u → W7.cell? ⟨g2, j, none⟩ = some u) := ⟨Nat.lt_of_lt_of_le HG.out.1 hb.size, fun j u hj => (hb.cell (p := ⟨g2, j, none⟩) HG.out.1).trans (HG.out.2 j u hj)⟩
      have pS := (cells7 (P7.box (Nat.le_refl _) HBS.out)).2.2.2.1
      have pT := (cells7 (P7.box (by omega) HBT.out)).2.2.2.1
      obtain ⟨q0, q1, q2, q3, q4, q5, q6⟩ := cells7 (Q7.box (Nat.zero_le _) HBO.out)
      clear hb
      go_wp2_with fail
      refine hK.out _ _ ?_ (fun hHeld => ?_)
      · (((try dsimp only); (repeat' apply And.intro) <;> first | assumption | (simp (disch := first | omega | (simp <;> omega) | fail) [*]; done) | fail))
      clear hK K
      try simp only [Act.put, List.setIfInBounds_toArray, List.set_cons_zero, List.set_cons_succ]
      refine wpAnyH_take (i := 9) (by simp only [List.getElem?_toArray, List.getElem?_cons_zero, List.getElem?_cons_succ]; rfl) (by kernel_rfl) (by kernel_rfl) (by kernel_rfl) (by intro _ _ _ h; exact h) (Or.inl ⟨by rfl, fun w hSw => by (dsimp only at hSw; go_simp; (try with_reducible rfl))⟩) (by assumption) ?_
      simp only [Act.put, List.setIfInBounds_toArray, List.set_cons_zero, List.set_cons_succ]
      refine wpAnyH_take (i := 10) (by simp only [List.getElem?_toArray, List.getElem?_cons_zero, List.getElem?_cons_succ]; rfl) (by kernel_rfl) (by kernel_rfl) (by kernel_rfl) (by intro _ _ _ h; exact h) (Or.inl ⟨by rfl, fun w hSw => by (dsimp only at hSw; go_simp; (try with_reducible rfl))⟩) (by assumption) ?_
      simp only [Act.put, List.setIfInBounds_toArray, List.set_cons_zero, List.set_cons_succ]
      refine wpAnyH_take (i := 11) (v := undef) (by simp only [List.getElem?_toArray, List.getElem?_cons_zero, List.getElem?_cons_succ]; rfl) (by kernel_rfl) (by kernel_rfl) (by kernel_rfl) (by intro _ _ _ h; exact h) (Or.inr ⟨by rfl, rfl⟩) (by assumption) ?_
      simp only [Act.put, List.setIfInBounds_toArray, List.set_cons_zero, List.set_cons_succ]
      refine wpAnyH_take (i := 12) (v := undef) (by simp only [List.getElem?_toArray, List.getElem?_cons_zero, List.getElem?_cons_succ]; rfl) (by kernel_rfl) (by kernel_rfl) (by kernel_rfl) (by intro _ _ _ h; exact h) (Or.inr ⟨by rfl, rfl⟩) (by assumption) ?_
      simp only [Act.put, List.setIfInBounds_toArray, List.set_cons_zero, List.set_cons_succ]
      refine wpAnyH_take (i := 13) (v := undef) (by simp only [List.getElem?_toArray, List.getElem?_cons_zero, List.getElem?_cons_succ]; rfl) (by kernel_rfl) (by kernel_rfl) (by kernel_rfl) (by intro _ _ _ h; exact h) (Or.inr ⟨by rfl, rfl⟩) (by assumption) ?_
      simp only [Act.put, List.setIfInBounds_toArray, List.set_cons_zero, List.set_cons_succ]
      refine wpAnyH_take (i := 14) (by simp only [List.getElem?_toArray, List.getElem?_cons_zero, List.getElem?_cons_succ]; rfl) (by kernel_rfl) (by kernel_rfl) (by kernel_rfl) (by intro _ _ _ h; exact h) (Or.inl ⟨by rfl, fun w hSw => by (dsimp only at hSw; go_simp; (try with_reducible rfl))⟩) (by assumption) ?_
      simp only [Act.put, List.setIfInBounds_toArray, List.set_cons_zero, List.set_cons_succ]
      refine wpAnyH_take (i := 15) (by simp only [List.getElem?_toArray, List.getElem?_cons_zero, List.getElem?_cons_succ]; rfl) (by kernel_rfl) (by kernel_rfl) (by kernel_rfl) (by intro _ _ _ h; exact h) (Or.inl ⟨by rfl, fun w hSw => by (dsimp only at hSw; go_simp; (try with_reducible rfl))⟩) (by assumption) ?_
      simp only [Act.put, List.setIfInBounds_toArray, List.set_cons_zero, List.set_cons_succ]
      refine wpAnyH_take (i := 16) (by simp only [List.getElem?_toArray, List.getElem?_cons_zero, List.getElem?_cons_succ]; rfl) (by kernel_rfl) (by kernel_rfl) (by kernel_rfl) (by intro _ _ _ h; exact h) (Or.inl ⟨by rfl, fun w hSw => by (dsimp only at hSw; go_simp; (try with_reducible rfl))⟩) (by assumption) ?_
      simp only [Act.put, List.setIfInBounds_toArray, List.set_cons_zero, List.set_cons_succ]
      refine wpAnyH_done (by kernel_rfl) ?_ _
      clear pS pT q0 q1 q2 q3 q4 q5 q6 hHeld
      go_wp2
      go_ret2
      exact ⟨g, k, ⟨⟨g2, 1, 1, rfl, rfl, HG.out.1, HG.out.2⟩, chain hx HY.out⟩, OI.out.below HY.out⟩
    · intro K hK
      go_simp
      refine (C1.out _ (chain hx HY.out)).mono ?_
      rintro e W8 ⟨rfl, hb⟩
      replace HY : Hid (Below w3.heap.size w3 W8) := chain HY.out hb
      replace hb := undrew hb
      have P8 := P0.below hb
      have Q8 := Q0.below hb
      clear pS pT q0 q1 q2 q3 q4 q5 q6 hHeld
      have pS := (cells7 (P8.box (Nat.le_refl _) HBS.out)).2.2.2.1
      have pT := (cells7 (P8.box (by omega) HBT.out)).2.2.2.1
      obtain ⟨q0, q1, q2, q3, q4, q5, q6⟩ := cells7 (Q8.box (Nat.zero_le _) HBO.out)
      clear hb
      go_wp2_with fail
      refine hK.out _ _ ?_ (fun hHeld => ?_)
      · (((try dsimp only); (repeat' apply And.intro) <;> first | assumption | (simp (disch := first | omega | (simp <;> omega) | fail) [*]; done) | fail))
      clear hK K
      try simp only [Act.put, List.setIfInBounds_toArray, List.set_cons_zero, List.set_cons_succ]
      refine wpAnyH_take (i := 5) (by simp only [List.getElem?_toArray, List.getElem?_cons_zero, List.getElem?_cons_succ]; rfl) (by kernel_rfl) (by kernel_rfl) (by kernel_rfl) (by intro _ _ _ h; exact h) (Or.inl ⟨by rfl, fun w hSw => by (dsimp only at hSw; go_simp; (try with_reducible rfl))⟩) (by assumption) ?_
      simp only [Act.put, List.setIfInBounds_toArray, List.set_cons_zero, List.set_cons_succ]
      refine wpAnyH_take (i := 6) (by simp only [List.getElem?_toArray, List.getElem?_cons_zero, List.getElem?_cons_succ]; rfl) (by kernel_rfl) (by kernel_rfl) (by kernel_rfl) (by intro _ _ _ h; exact h) (Or.inl ⟨by rfl, fun w hSw => by (dsimp only at hSw; go_simp; (try with_reducible rfl))⟩) (by assumption) ?_
      simp only [Act.put, List.setIfInBounds_toArray, List.set_cons_zero, List.set_cons_succ]
      refine wpAnyH_take (i := 7) (by simp only [List.getElem?_toArray, List.getElem?_cons_zero, List.getElem?_cons_succ]; rfl) (by kernel_rfl) (by kernel_rfl) (by kernel_rfl) (by intro _ _ _ h; exact h) (Or.inl ⟨by rfl, fun w hSw => by (dsimp only at hSw; go_simp; (try with_reducible rfl))⟩) (by assumption) ?_
      simp only [Act.put, List.setIfInBounds_toArray, List.set_cons_zero, List.set_cons_succ]
      refine wpAnyH_ready (rs := [1, 8]) (by kernel_rfl) (by simp) ?_
      refine AllReadyH.cons (by simp only [List.getElem?_toArray, List.getElem?_cons_zero, List.getElem?_cons_succ]; rfl) ?_ (AllReadyH.cons (by simp only [List.getElem?_toArray, List.getElem?_cons_zero, List.getElem?_cons_succ]; rfl) ?_ AllReadyH.nil)
      · intro K hK
        go_simp
        obtain ⟨V9, hV⟩ : ∃ V, V = W8.alloc (.cells #[.int .i64 2, .string ⟨#[]⟩, .slice none 0 0, .slice (some ⟨g, 0, none⟩) nS k, .bool false, .int .i64 0, .int .i64 0] 38) := ⟨_, rfl⟩
        obtain ⟨g2, hg⟩ : ∃ z, z = W8.heap.size := ⟨_, rfl⟩
        have hVB : Below W8.heap.size W8 V9 := by rw [hV]; exact (Below.refl _ _).alloc (Nat.le_refl _) _
        have HG : Hid (g2 < V9.heap.size ∧ ∀ (j : Nat) u, (hvS [((⟨2, ⟨#[]⟩, [], C, false, 0, 0⟩ : SV), (⟨none, 0, some ⟨g, 0, none⟩, k⟩ : HAd))])[j]? = some u → V9.cell? ⟨g2, j, none⟩ = some u) := by
          have h : g2 < V9.heap.size ∧ ∀ (j : Nat) u, (hvS [((⟨2, ⟨#[]⟩, [], C, false, 0, 0⟩ : SV), (⟨none, 0, some ⟨g, 0, none⟩, k⟩ : HAd))])[j]? = some u → V9.cell? ⟨g2, j, none⟩ = some u := by rw [hV, hg]; exact ⟨by simp, cells_alloc W8 _ _ _ (by simp [hvS, headSv, HCL.out])⟩
          exact h
        rw [← hV, ← hg]
        have P9 := P8.below hVB
        have Q9 := Q8.below hVB
        replace HY : Hid (Below w3.heap.size w3 V9) := chain HY.out hVB
        clear hV hg
        clear pS pT q0 q1 q2 q3 q4 q5 q6 hHeld
        have pS := (cells7 (P9.box (Nat.le_refl _) HBS.out)).2.2.2.1
        have pT := (cells7 (P9.box (by omega) HBT.out)).2.2.2.1
        obtain ⟨q0, q1, q2, q3, q4, q5, q6⟩ := cells7 (Q9.box (Nat.zero_le _) HBO.out)
        clear hVB
        refine hK.out _ _ ?_ (fun hHeld => ?_)
        · (((try dsimp only); (repeat' apply And.intro) <;> first | assumption | (simp (disch := first | omega | (simp <;> omega) | fail) [*]; done) | fail))
        clear hK K
        try simp only [Act.put, List.setIfInBounds_toArray, List.set_cons_zero, List.set_cons_succ]
        refine wpAnyH_ready (rs := [8]) (by kernel_rfl) (by simp) ?_
        refine AllReadyH.cons (by simp only [List.getElem?_toArray, List.getElem?_cons_zero, List.getElem?_cons_succ]; rfl) ?_ AllReadyH.nil
        intro K hK
        go_simp
        refine (C2.out _ (chain hx HY.out)).mono ?_
        rintro e W10 ⟨rfl, hb⟩
        replace HY : Hid (Below w3.heap.size w3 W10) := chain HY.out hb
        have P10 := P9.below hb
        have Q10 := Q9.below hb
        clear pS pT q0 q1 q2 q3 q4 q5 q6 hHeld
        replace HG : Hid (g2 < W10.heap.size ∧ ∀ (j : Nat) u, (hvS [((⟨2, ⟨#[]⟩, [], C, false, 0, 0⟩ : SV), (⟨none, 0, some ⟨g, 0, none⟩, k⟩ : HAd))])[j]? = some u → W10.cell? ⟨g2, j, none⟩ = some u) := ⟨Nat.lt_of_lt_of_le HG.out.1 hb.size, fun j u hj => (hb.cell (p := ⟨g2, j, none⟩) HG.out.1).trans (HG.out.2 j u hj)⟩
        have pS := (cells7 (P10.box (Nat.le_refl _) HBS.out)).2.2.2.1
        have pT := (cells7 (P10.box (by omega) HBT.out)).2.2.2.1
        obtain ⟨q0, q1, q2, q3, q4, q5, q6⟩ := cells7 (Q10.box (Nat.zero_le _) HBO.out)
        clear hb
        go_wp2_with fail
        refine hK.out _ _ ?_ (fun hHeld => ?_)
        · (((try dsimp only); (repeat' apply And.intro) <;> first | assumption | (simp (disch := first | omega | (simp <;> omega) | fail) [*]; done) | fail))
        clear hK K
        try simp only [Act.put, List.setIfInBounds_toArray, List.set_cons_zero, List.set_cons_succ]
        refine wpAnyH_take (i := 9) (by simp only [List.getElem?_toArray, List.getElem?_cons_zero, List.getElem?_cons_succ]; rfl) (by kernel_rfl) (by kernel_rfl) (by kernel_rfl) (by intro _ _ _ h; exact h) (Or.inl ⟨by rfl, fun w hSw => by (dsimp only at hSw; go_simp; (try with_reducible rfl))⟩) (by assumption) ?_
        simp only [Act.put, List.setIfInBounds_toArray, List.set_cons_zero, List.set_cons_succ]
        refine wpAnyH_take (i := 10) (by simp only [List.getElem?_toArray, List.getElem?_cons_zero, List.getElem?_cons_succ]; rfl) (by kernel_rfl) (by kernel_rfl) (by kernel_rfl) (by intro _ _ _ h; exact h) (Or.inl ⟨by rfl, fun w hSw => by (dsimp only at hSw; go_simp; (try with_reducible rfl))⟩) (by assumption) ?_
        simp only [Act.put, List.setIfInBounds_toArray, List.set_cons_zero, List.set_cons_succ]
        refine wpAnyH_take (i := 11) (v := undef) (by simp only [List.getElem?_toArray, List.getElem?_cons_zero, List.getElem?_cons_succ]; rfl) (by kernel_rfl) (by kernel_rfl) (by kernel_rfl) (by intro _ _ _ h; exact h) (Or.inr ⟨by rfl, rfl⟩) (by assumption) ?_
        simp only [Act.put, List.setIfInBounds_toArray, List.set_cons_zero, List.set_cons_succ]
        refine wpAnyH_take (i := 12) (v := undef) (by simp only [List.getElem?_toArray, List.getElem?_cons_zero, List.getElem?_cons_succ]; rfl) (by kernel_rfl) (by kernel_rfl) (by kernel_rfl) (by intro _ _ _ h; exact h) (Or.inr ⟨by rfl, rfl⟩) (by assumption) ?_
        simp only [Act.put, List.setIfInBounds_toArray, List.set_cons_zero, List.set_cons_succ]
        refine wpAnyH_take (i := 13) (v := undef) (by simp only [List.getElem?_toArray, List.getElem?_cons_zero, List.getElem?_cons_succ]; rfl) (by kernel_rfl) (by kernel_rfl) (by kernel_rfl) (by intro _ _ _ h; exact h) (Or.inr ⟨by rfl, rfl⟩) (by assumption) ?_
        simp only [Act.put, List.setIfInBounds_toArray, List.set_cons_zero, List.set_cons_succ]
        refine wpAnyH_take (i := 14) (by simp only [List.getElem?_toArray, List.getElem?_cons_zero, List.getElem?_cons_succ]; rfl) (by kernel_rfl) (by kernel_rfl) (by kernel_rfl) (by intro _ _ _ h; exact h) (Or.inl ⟨by rfl, fun w hSw => by (dsimp only at hSw; go_simp; (try with_reducible rfl))⟩) (by assumption) ?_
        simp only [Act.put, List.setIfInBounds_toArray, List.set_cons_zero, List.set_cons_succ]
        refine wpAnyH_take (i := 15) (by simp only [List.getElem?_toArray, List.getElem?_cons_zero, List.getElem?_cons_succ]; rfl) (by kernel_rfl) (by kernel_rfl) (by kernel_rfl) (by intro _ _ _ h; exact h) (Or.inl ⟨by rfl, fun w hSw => by (dsimp only at hSw; go_simp; (try with_reducible rfl))⟩) (by assumption) ?_
        simp only [Act.put, List.setIfInBounds_toArray, List.set_cons_zero, List.set_cons_succ]
        refine wpAnyH_take (i := 16) (by simp only [List.getElem?_toArray, List.getElem?_cons_zero, List.getElem?_cons_succ]; rfl) (by kernel_rfl) (by kernel_rfl) (by kernel_rfl) (by intro _ _ _ h; exact h) (Or.inl ⟨by rfl, fun w hSw => by (dsimp only at hSw; go_simp; (try with_reducible rfl))⟩) (by assumption) ?_
        simp only [Act.put, List.setIfInBounds_toArray, List.set_cons_zero, List.set_cons_succ]
        refine wpAnyH_done (by kernel_rfl) ?_ _
        clear pS pT q0 q1 q2 q3 q4 q5 q6 hHeld
        go_wp2
        go_ret2
        exact ⟨g, k, ⟨⟨g2, 1, 1, rfl, rfl, HG.out.1, HG.out.2⟩, chain hx HY.out⟩, OI.out.below HY.out⟩
      · intro K hK
        go_simp
        refine (C2.out _ (chain hx HY.out)).mono ?_
        rintro e W11 ⟨rfl, hb⟩
        replace HY : Hid (Below w3.heap.size w3 W11) := chain HY.out hb
        have P11 := P8.below hb
        have Q11 := Q8.below hb
        clear pS pT q0 q1 q2 q3 q4 q5 q6 hHeld
        have pS := (cells7 (P11.box (Nat.le_refl _) HBS.out)).2.2.2.1
        have pT := (cells7 (P11.box (by omega) HBT.out)).2.2.2.1
        obtain ⟨q0, q1, q2, q3, q4, q5, q6⟩ := cells7 (Q11.box (Nat.zero_le _) HBO.out)
        clear hb
        go_wp2_with fail
        refine hK.out _ _ ?_ (fun hHeld => ?_)
        · (((try dsimp only); (repeat' apply And.intro) <;> first | assumption | (simp (disch := first | omega | (simp <;> omega) | fail) [*]; done) | fail))
        clear hK K
        try simp only [Act.put, List.setIfInBounds_toArray, List.set_cons_zero, List.set_cons_succ]
        refine wpAnyH_take (i := 9) (by simp only [List.getElem?_toArray, List.getElem?_cons_zero, List.getElem?_cons_succ]; rfl) (by kernel_rfl) (by kernel_rfl) (by kernel_rfl) (by intro _ _ _ h; exact h) (Or.inl ⟨by rfl, fun w hSw => by (dsimp only at hSw; go_simp; (try with_reducible rfl))⟩) (by assumption) ?_
        simp only [Act.put, List.setIfInBounds_toArray, List.set_cons_zero, List.set_cons_succ]
        refine wpAnyH_take (i := 10) (by simp only [List.getElem?_toArray, List.getElem?_cons_zero, List.getElem?_cons_succ]; rfl) (by kernel_rfl) (by kernel_rfl) (by kernel_rfl) (by intro _ _ _ h; exact h) (Or.inl ⟨by rfl, fun w hSw => by (dsimp only at hSw; go_simp; (try with_reducible rfl))⟩) (by assumption) ?_
        simp only [Act.put, List.setIfInBounds_toArray, List.set_cons_zero, List.set_cons_succ]
        refine wpAnyH_take (i := 11) (v := undef) (by simp only [List.getElem?_toArray, List.getElem?_cons_zero, List.getElem?_cons_succ]; rfl) (by kernel_rfl) (by kernel_rfl) (by kernel_rfl) (by intro _ _ _ h; exact h) (Or.inr ⟨by rfl, rfl⟩) (by assumption) ?_
        simp only [Act.put, List.setIfInBounds_toArray, List.set_cons_zero, List.set_cons_succ]
        refine wpAnyH_take (i := 12) (v := undef) (by simp only [List.getElem?_toArray, List.getElem?_cons_zero, List.getElem?_cons_succ]; rfl) (by kernel_rfl) (by kernel_rfl) (by kernel_rfl) (by intro _ _ _ h; exact h) (Or.inr ⟨by rfl, rfl⟩) (by assumption) ?_
        simp only [Act.put, List.setIfInBounds_toArray, List.set_cons_zero, List.set_cons_succ]
        refine wpAnyH_take (i := 13) (v := undef) (by simp only [List.getElem?_toArray, List.getElem?_cons_zero, List.getElem?_cons_succ]; rfl) (by kernel_rfl) (by kernel_rfl) (by kernel_rfl) (by intro _ _ _ h; exact h) (Or.inr ⟨by rfl, rfl⟩) (by assumption) ?_
        simp only [Act.put, List.setIfInBounds_toArray, List.set_cons_zero, List.set_cons_succ]
        refine wpAnyH_take (i := 14) (by simp only [List.getElem?_toArray, List.getElem?_cons_zero, List.getElem?_cons_succ]; rfl) (by kernel_rfl) (by kernel_rfl) (by kernel_rfl) (by intro _ _ _ h; exact h) (Or.inl ⟨by rfl, fun w hSw => by (dsimp only at hSw; go_simp; (try with_reducible rfl))⟩) (by assumption) ?_
        simp only [Act.put, List.setIfInBounds_toArray, List.set_cons_zero, List.set_cons_succ]
        refine wpAnyH_ready (rs := [1]) (by kernel_rfl) (by simp) ?_
        refine AllReadyH.cons (by simp only [List.getElem?_toArray, List.getElem?_cons_zero, List.getElem?_cons_succ]; rfl) ?_ AllReadyH.nil
        intro K hK
        go_simp
        obtain ⟨V12, hV⟩ : ∃ V, V = W11.alloc (.cells #[.int .i64 2, .string ⟨#[]⟩, .slice none 0 0, .slice (some ⟨g, 0, none⟩) nS k, .bool false, .int .i64 0, .int .i64 0] 38) := ⟨_, rfl⟩
        obtain ⟨g2, hg⟩ : ∃ z, z = W11.heap.size := ⟨_, rfl⟩
        have hVB : Below W11.heap.size W11 V12 := by rw [hV]; exact (Below.refl _ _).alloc (Nat.le_refl _) _
        have HG : Hid (g2 < V12.heap.size ∧ ∀ (j : Nat) u, (hvS [((⟨2, ⟨#[]⟩, [], C, false, 0, 0⟩ : SV), (⟨none, 0, some ⟨g, 0, none⟩, k⟩ : HAd))])[j]? = some u → V12.cell? ⟨g2, j, none⟩ = some u) := by
          have h : g2 < V12.heap.size ∧ ∀ (j : Nat) u, (hvS [((⟨2, ⟨#[]⟩, [], C, false, 0, 0⟩ : SV), (⟨none, 0, some ⟨g, 0, none⟩, k⟩ : HAd))])[j]? = some u → V12.cell? ⟨g2, j, none⟩ = some u := by rw [hV, hg]; exact ⟨by simp, cells_alloc W11 _ _ _ (by simp [hvS, headSv, HCL.out])⟩
          exact h
        rw [← hV, ← hg]
        have P12 := P11.below hVB
        have Q12 := Q11.below hVB
        replace HY : Hid (Below w3.heap.size w3 V12) := chain HY.out hVB
        clear hV hg
        clear pS pT q0 q1 q2 q3 q4 q5 q6 hHeld
        have pS := (cells7 (P12.box (Nat.le_refl _) HBS.out)).2.2.2.1
        have pT := (cells7 (P12.box (by omega) HBT.out)).2.2.2.1
        obtain ⟨q0, q1, q2, q3, q4, q5, q6⟩ := cells7 (Q12.box (Nat.zero_le _) HBO.out)
        clear hVB
        refine hK.out _ _ ?_ (fun hHeld => ?_)
        · (((try dsimp only); (repeat' apply And.intro) <;> first | assumption | (simp (disch := first | omega | (simp <;> omega) | fail) [*]; done) | fail))
        clear hK K
        try simp only [Act.put, List.setIfInBounds_toArray, List.set_cons_zero, List.set_cons_succ]
        refine wpAnyH_take (i := 15) (by simp only [List.getElem?_toArray, List.getElem?_cons_zero, List.getElem?_cons_succ]; rfl) (by kernel_rfl) (by kernel_rfl) (by kernel_rfl) (by intro _ _ _ h; exact h) (Or.inl ⟨by rfl, fun w hSw => by (dsimp only at hSw; go_simp; (try with_reducible rfl))⟩) (by assumption) ?_
        simp only [Act.put, List.setIfInBounds_toArray, List.set_cons_zero, List.set_cons_succ]
        refine wpAnyH_take (i := 16) (by simp only [List.getElem?_toArray, List.getElem?_cons_zero, List.getElem?_cons_succ]; rfl) (by kernel_rfl) (by kernel_rfl) (by kernel_rfl) (by intro _ _ _ h; exact h) (Or.inl ⟨by rfl, fun w hSw => by (dsimp only at hSw; go_simp; (try with_reducible rfl))⟩) (by assumption) ?_
        simp only [Act.put, List.setIfInBounds_toArray, List.set_cons_zero, List.set_cons_succ]
        refine wpAnyH_done (by kernel_rfl) ?_ _
        clear pS pT q0 q1 q2 q3 q4 q5 q6 hHeld
        go_wp2
        go_ret2
        exact ⟨g, k, ⟨⟨g2, 1, 1, rfl, rfl, HG.out.1, HG.out.2⟩, chain hx HY.out⟩, OI.out.below HY.out⟩
  obtain rfl : decide ((nS : Int) ≤ 40) = z := by
    rw [← HZ'.out]
    simp only [Bool.true_and]
    exact decide_eq_decide.2 (by omega)
  refine wp_region_held_drew (S := (fun w' => w'.cell? ⟨w.heap.size, 3, none⟩ = some (.slice sa sn sc) ∧ w'.cell? ⟨w.heap.size + 1, 3, none⟩ = some (.slice ra rn rc) ∧ w'.cell? ⟨bo, 0, none⟩ = some (.int .i64 2) ∧ w'.cell? ⟨bo, 1, none⟩ = some (.string ⟨#[]⟩) ∧ w'.cell? ⟨bo, 2, none⟩ = some (.slice none 0 0) ∧ w'.cell? ⟨bo, 3, none⟩ = some (.slice (some ⟨g, 0, none⟩) nS k) ∧ w'.cell? ⟨bo, 4, none⟩ = some (.bool false) ∧ w'.cell? ⟨bo, 5, none⟩ = some (.int .i64 0) ∧ w'.cell? ⟨bo, 6, none⟩ = some (.int .i64 0))) (by kernel_rfl) ?_ (fun hHeld => ?_)
  · (((try dsimp only); (repeat' apply And.intro) <;> first | (go_keep; done) | (simp (disch := first | omega | (simp <;> omega) | fail) [*]; done) | fail))
  refine wpAnyH_take (i := 0) (by simp only [List.getElem?_toArray, List.getElem?_cons_zero]; rfl) (by kernel_rfl) (by kernel_rfl) (by kernel_rfl) (by intro _ _ _ h; exact h) (Or.inl ⟨by rfl, fun w hSw => by (dsimp only at hSw; go_simp; (try with_reducible rfl))⟩) (by assumption) ?_
  simp only [Act.put, List.setIfInBounds_toArray, List.set_cons_zero, List.set_cons_succ]
  refine wpAnyH_take (i := 2) (by simp only [List.getElem?_toArray, List.getElem?_cons_zero, List.getElem?_cons_succ]; rfl) (by kernel_rfl) (by kernel_rfl) (by kernel_rfl) (by intro _ _ _ h; exact h) (Or.inl ⟨by rfl, fun w hSw => by (dsimp only at hSw; go_simp; (try with_reducible rfl))⟩) (by assumption) ?_
  simp only [Act.put, List.setIfInBounds_toArray, List.set_cons_zero, List.set_cons_succ]
  refine wpAnyH_take (i := 3) (by simp only [List.getElem?_toArray, List.getElem?_cons_zero, List.getElem?_cons_succ]; rfl) (by kernel_rfl) (by kernel_rfl) (by kernel_rfl) (by intro _ _ _ h; exact h) (Or.inl ⟨by rfl, fun w hSw => by (dsimp only at hSw; go_simp; (try with_reducible rfl))⟩) (by assumption) ?_
  simp only [Act.put, List.setIfInBounds_toArray, List.set_cons_zero, List.set_cons_succ]
  refine wpAnyH_ready (rs := [1, 4]) (by kernel_rfl) (by simp) ?_
  refine AllReadyH.cons (by simp only [List.getElem?_toArray, List.getElem?_cons_zero, List.getElem?_cons_succ]; rfl) ?_ (AllReadyH.cons (by simp only [List.getElem?_toArray, List.getElem?_cons_zero, List.getElem?_cons_succ]; rfl) ?_ AllReadyH.nil)
  · intro K hK
    go_simp
    obtain ⟨V13, hV⟩ : ∃ V, V = E3.alloc (.cells #[.int .i64 2, .string ⟨#[]⟩, .slice none 0 0, .slice (some ⟨g, 0, none⟩) nS k, .bool false, .int .i64 0, .int .i64 0] 38) := ⟨_, rfl⟩
    obtain ⟨g2, hg⟩ : ∃ z, z = E3.heap.size := ⟨_, rfl⟩
    have hVB : Below E3.heap.size E3 V13 := by rw [hV]; exact (Below.refl _ _).alloc (Nat.le_refl _) _
    have HG : Hid (g2 < V13.heap.size ∧ ∀ (j : Nat) u, (hvS [((⟨2, ⟨#[]⟩, [], C, false, 0, 0⟩ : SV), (⟨none, 0, some ⟨g, 0, none⟩, k⟩ : HAd))])[j]? = some u → V13.cell? ⟨g2, j, none⟩ = some u) := by
      have h : g2 < V13.heap.size ∧ ∀ (j : Nat) u, (hvS [((⟨2, ⟨#[]⟩, [], C, false, 0, 0⟩ : SV), (⟨none, 0, some ⟨g, 0, none⟩, k⟩ : HAd))])[j]? = some u → V13.cell? ⟨g2, j, none⟩ = some u := by rw [hV, hg]; exact ⟨by simp, cells_alloc E3 _ _ _ (by simp [hvS, headSv, HCL.out])⟩
      exact h
    rw [← hV, ← hg]
    have P13 := P0.below hVB
    have Q13 := Q0.below hVB
    replace HY : Hid (Below w3.heap.size w3 V13.drew) := chain HY.out (undrewL hVB)
    clear hV hg
    clear pS pT q0 q1 q2 q3 q4 q5 q6 hHeld
    have pS := (cells7 (P13.box (Nat.le_refl _) HBS.out)).2.2.2.1
    have pT := (cells7 (P13.box (by omega) HBT.out)).2.2.2.1
    obtain ⟨q0, q1, q2, q3, q4, q5, q6⟩ := cells7 (Q13.box (Nat.zero_le _) HBO.out)
    clear hVB
    refine hK.out _ _ ?_ (fun hHeld => ?_)
    · (((try dsimp only); (repeat' apply And.intro) <;> first | assumption | (simp (disch := first | omega | (simp <;> omega) | fail) [*]; done) | fail))
    clear hK K
    try simp only [Act.put, List.setIfInBounds_toArray, List.set_cons_zero, List.set_cons_succ]
    refine wpAnyH_ready (rs := [4]) (by kernel_rfl) (by simp) ?_
    refine AllReadyH.cons (by simp only [List.getElem?_toArray, List.getElem?_cons_zero, List.getElem?_cons_succ]; rfl) ?_ AllReadyH.nil
    intro K hK
    go_simp
    refine (C1.out _ (chain hx HY.out)).mono ?_
    rintro e W14 ⟨rfl, hb⟩
    replace HY : Hid (Below w3.heap.size w3 W14) := chain HY.out hb
    replace hb := undrew hb
    have P14 := P13.below hb
    have Q14 := Q13.below hb
    clear pS pT q0 q1 q2 q3 q4 q5 q6 hHeld
    replace HG : Hid (g2 < W14.heap.size ∧ ∀ (j : Nat) u, (hvS [((⟨2, ⟨#[]⟩, [], C, false, 0, 0⟩ : SV), (⟨none, 0, some ⟨g, 0, none⟩, k⟩ : HAd))])[j]? = some u → W14.cell? ⟨g2, j, none⟩ = some u) := ⟨Nat.lt_of_lt_of_le HG.out.1 hb.size, fun j u hj => (hb.cell (p := ⟨g2, j, none⟩) HG.out.1).trans (HG.out.2 j u hj)⟩
    have pS := (cells7 (P14.box (Nat.le_refl _) HBS.out)).2.2.2.1
    have pT := (cells7 (P14.box (by omega) HBT.out)).2.2.2.1
    obtain ⟨q0, q1, q2, q3, q4, q5, q6⟩ := cells7 (Q14.box (Nat.zero_le _) HBO.out)
    clear hb
    go_wp2_with fail
    refine hK.out _ _ ?_ (fun hHeld => ?_)
    · (((try dsimp only); (repeat' apply And.intro) <;> first | assumption | (simp (disch := first | omega | (simp <;> omega) | fail) [*]; done) | fail))
    clear hK K
    try simp only [Act.put, List.setIfInBounds_toArray, List.set_cons_zero, List.set_cons_succ]
    refine wpAnyH_take (i := 5) (by simp only [List.getElem?_toArray, List.getElem?_cons_zero, List.getElem?_cons_succ]; rfl) (by kernel_rfl) (by kernel_rfl) (by kernel_rfl) (by intro _ _ _ h; exact h) (Or.inl ⟨by rfl, fun w hSw => by (dsimp only at hSw; go_simp; (try with_reducible rfl))⟩) (by assumption) ?_
    simp only [Act.put, List.setIfInBounds_toArray, List.set_cons_zero, List.set_cons_succ]
    refine wpAnyH_take (i := 6) (by simp only [List.getElem?_toArray, List.getElem?_cons_zero, List.getElem?_cons_succ]; rfl) (by kernel_rfl) (by kernel_rfl) (by kernel_rfl) (by intro _ _ _ h; exact h) (Or.inl ⟨by rfl, fun w hSw => by (dsimp only at hSw; go_simp; (try with_reducible rfl))⟩) (by assumption) ?_
    simp only [Act.put, List.setIfInBounds_toArray, List.set_cons_zero, List.set_cons_succ]
    refine wpAnyH_take (i := 7) (by simp only [List.getElem?_toArray, List.getElem?_cons_zero, List.getElem?_cons_succ]; rfl) (by kernel_rfl) (by kernel_rfl) (by kernel_rfl) (by intro _ _ _ h; exact h) (Or.inl ⟨by rfl, fun w hSw => by (dsimp only at hSw; go_simp; (try with_reducible rfl))⟩) (by assumption) ?_
    simp only [Act.put, List.setIfInBounds_toArray, List.set_cons_zero, List.set_cons_succ]
    refine wpAnyH_ready (rs := [8]) (by kernel_rfl) (by simp) ?_
    refine AllReadyH.cons (by simp only [List.getElem?_toArray, List.getElem?_cons_zero, List.getElem?_cons_succ]; rfl) ?_ AllReadyH.nil
    intro K hK
    go_simp
    refine (C2.out _ (chain hx HY.out)).mono ?_
    rintro e W15 ⟨rfl, hb⟩
    replace HY : Hid (Below w3.heap.size w3 W15) := chain HY.out hb
    have P15 := P14.below hb
    have Q15 := Q14.below hb
    clear pS pT q0 q1 q2 q3 q4 q5 q6 hHeld
    replace HG : Hid (g2 < W15.heap.size ∧ ∀ (j : Nat) u, (hvS [((⟨2, ⟨#[]⟩, [], C, false, 0, 0⟩ : SV), (⟨none, 0, some ⟨g, 0, none⟩, k⟩ : HAd))])[j]? = some u → W15.cell? ⟨g2, j, none⟩ = some u) := ⟨Nat.lt_of_lt_of_le HG.out.1 hb.size, fun j u hj => (hb.cell (p := ⟨g2, j, none⟩) HG.out.1).trans (HG.out.2 j u hj)⟩
    have pS := (cells7 (P15.box (Nat.le_refl _) HBS.out)).2.2.2.1
    have pT := (cells7 (P15.box (by omega) HBT.out)).2.2.2.1
    obtain ⟨q0, q1, q2, q3, q4, q5, q6⟩ := cells7 (Q15.box (Nat.zero_le _) HBO.out)
    clear hb
    go_wp2_with fail
    refine hK.out _ _ ?_ (fun hHeld => ?_)
    · (((try dsimp only); (repeat' apply And.intro) <;> first | assumption | (simp (disch := first | omega | (simp <;> omega) | fail) [*]; done) | fail))
    clear hK K
    try simp only [Act.put, List.setIfInBounds_toArray, List.set_cons_zero, List.set_cons_succ]
    refine wpAnyH_take (i := 9) (by simp only [List.getElem?_toArray, List.getElem?_cons_zero, List.getElem?_cons_succ]; rfl) (by kernel_rfl) (by kernel_rfl) (by kernel_rfl) (by intro _ _ _ h; exact h) (Or.inl ⟨by rfl, fun w hSw => by (dsimp only at hSw; go_simp; (try with_reducible rfl))⟩) (by assumption) ?_
    simp only [Act.put, List.setIfInBounds_toArray, List.set_cons_zero, List.set_cons_succ]
    refine wpAnyH_take (i := 10) (by simp only [List.getElem?_toArray, List.getElem?_cons_zero, List.getElem?_cons_succ]; rfl) (by kernel_rfl) (by kernel_rfl) (by kernel_rfl) (by intro _ _ _ h; exact h) (Or.inl ⟨by rfl, fun w hSw => by (dsimp only at hSw; go_simp; (try with_reducible rfl))⟩) (by assumption) ?_
    simp only [Act.put, List.setIfInBounds_toArray, List.set_cons_zero, List.set_cons_succ]
    refine wpAnyH_take (i := 11) (by simp only [List.getElem?_toArray, List.getElem?_cons_zero, List.getElem?_cons_succ]; rfl) (by kernel_rfl) (by kernel_rfl) (by kernel_rfl) (by intro _ _ _ h; exact h) (Or.inl ⟨by rfl, fun w hSw => by (dsimp only at hSw; go_simp; (try with_reducible rfl))⟩) (by assumption) ?_
    simp only [Act.put, List.setIfInBounds_toArray, List.set_cons_zero, List.set_cons_succ]
    refine wpAnyH_take (i := 12) (by simp only [List.getElem?_toArray, List.getElem?_cons_zero, List.getElem?_cons_succ]; rfl) (by kernel_rfl) (by kernel_rfl) (by kernel_rfl) (by intro _ _ _ h; exact h) (Or.inl ⟨by rfl, fun w hSw => by (dsimp only at hSw; go_simp; (try with_reducible rfl))⟩) (by assumption) ?_
    simp only [Act.put, List.setIfInBounds_toArray, List.set_cons_zero, List.set_cons_succ]
    refine wpAnyH_take (i := 13) (by simp only [List.getElem?_toArray, List.getElem?_cons_zero, List.getElem?_cons_succ]; rfl) (by kernel_rfl) (by kernel_rfl) (by kernel_rfl) (by intro _ _ _ h; exact h) (Or.inl ⟨by rfl, fun w hSw => by (dsimp only at hSw; go_simp; (try with_reducible rfl))⟩) (by assumption) ?_
    simp only [Act.put, List.setIfInBounds_toArray, List.set_cons_zero, List.set_cons_succ]
    refine wpAnyH_take (i := 14) (by simp only [List.getElem?_toArray, List.getElem?_cons_zero, List.getElem?_cons_succ]; rfl) (by kernel_rfl) (by kernel_rfl) (by kernel_rfl) (by intro _ _ _ h; exact h) (Or.inl ⟨by rfl, fun w hSw => by (dsimp only at hSw; go_simp; (try with_reducible rfl))⟩) (by assumption) ?_
    simp only [Act.put, List.setIfInBounds_toArray, List.set_cons_zero, List.set_cons_succ]
    refine wpAnyH_take (i := 15) (by simp only [List.getElem?_toArray, List.getElem?_cons_zero, List.getElem?_cons_succ]; rfl) (by kernel_rfl) (by kernel_rfl) (by kernel_rfl) (by intro _ _ _ h; exact h) (Or.inl ⟨by rfl, fun w hSw => by (dsimp only at hSw; go_simp; (try with_reducible rfl))⟩) (by assumption) ?_
    simp only [Act.put, List.setIfInBounds_toArray, List.set_cons_zero, List.set_cons_succ]
    refine wpAnyH_take (i := 16) (by simp only [List.getElem?_toArray, List.getElem?_cons_zero, List.getElem?_cons_succ]; rfl) (by kernel_rfl) (by kernel_rfl) (by kernel_rfl) (by intro _ _ _ h; exact h) (Or.inl ⟨by rfl, fun w hSw => by (dsimp only at hSw; go_simp; (try with_reducible rfl))⟩) (by assumption) ?_
    simp only [Act.put, List.setIfInBounds_toArray, List.set_cons_zero, List.set_cons_succ]
    refine wpAnyH_done (by kernel_rfl) ?_ _
    clear pS pT q0 q1 q2 q3 q4 q5 q6 hHeld
    go_wp2
    go_ret2
    exact ⟨g, k, ⟨⟨g2, 1, 1, rfl, rfl, HG.out.1, HG.out.2⟩, chain hx HY.out⟩, OI.out.below HY.out⟩
  · intro K hK
    go_simp
    refine (C1.out _ (chain hx HY.out)).mono ?_
    rintro e W16 ⟨rfl, hb⟩
    replace HY : Hid (Below w3.heap.size w3 W16) := chain HY.out hb
    replace hb := undrew hb
    have P16 := P0.below hb
    have Q16 := Q0.below hb
    clear pS pT q0 q1 q2 q3 q4 q5 q6 hHeld
    have pS := (cells7 (P16.box (Nat.le_refl _) HBS.out)).2.2.2.1
    have pT := (cells7 (P16.box (by omega) HBT.out)).2.2.2.1
    obtain ⟨q0, q1, q2, q3, q4, q5, q6⟩ := cells7 (Q16.box (Nat.zero_le _) HBO.out)
    clear hb
    go_wp2_with fail
    refine hK.out _ _ ?_ (fun hHeld => ?_)
    · (((try dsimp only); (repeat' apply And.intro) <;> first | assumption | (simp (disch := first | omega | (simp <;> omega) | fail) [*]; done) | fail))
    clear hK K
    try simp only [Act.put, List.setIfInBounds_toArray, List.set_cons_zero, List.set_cons_succ]
    refine wpAnyH_take (i := 5) (by simp only [List.getElem?_toArray, List.getElem?_cons_zero, List.getElem?_cons_succ]; rfl) (by kernel_rfl) (by kernel_rfl) (by kernel_rfl) (by intro _ _ _ h; exact h) (Or.inl ⟨by rfl, fun w hSw => by (dsimp only at hSw; go_simp; (try with_reducible rfl))⟩) (by assumption) ?_
    simp only [Act.put, List.setIfInBounds_toArray, List.set_cons_zero, List.set_cons_succ]
    refine wpAnyH_take (i := 6) (by simp only [List.getElem?_toArray, List.getElem?_cons_zero, List.getElem?_cons_succ]; rfl) (by kernel_rfl) (by kernel_rfl) (by kernel_rfl) (by intro _ _ _ h; exact h) (Or.inl ⟨by rfl, fun w hSw => by (dsimp only at hSw; go_simp; (try with_reducible rfl))⟩) (by assumption) ?_
    simp only [Act.put, List.setIfInBounds_toArray, List.set_cons_zero, List.set_cons_succ]
    refine wpAnyH_take (i := 7) (by simp only [List.getElem?_toArray, List.getElem?_cons_zero, List.getElem?_cons_succ]; rfl) (by kernel_rfl) (by kernel_rfl) (by kernel_rfl) (by intro _ _ _ h; exact h) (Or.inl ⟨by rfl, fun w hSw => by (dsimp only at hSw; go_simp; (try with_reducible rfl))⟩) (by assumption) ?_
    simp only [Act.put, List.setIfInBounds_toArray, List.set_cons_zero, List.set_cons_succ]
    refine wpAnyH_ready (rs := [1, 8]) (by kernel_rfl) (by simp) ?_
    refine AllReadyH.cons (by simp only [List.getElem?_toArray, List.getElem?_cons_zero, List.getElem?_cons_succ]; rfl) ?_ (AllReadyH.cons (by simp only [List.getElem?_toArray, List.getElem?_cons_zero, List.getElem?_cons_succ]; rfl) ?_ AllReadyH.nil)
    · intro K hK
      go_simp
      obtain ⟨V17, hV⟩ : ∃ V, V = W16.alloc (.cells #[.int .i64 2, .string ⟨#[]⟩, .slice none 0 0, .slice (some ⟨g, 0, none⟩) nS k, .bool false, .int .i64 0, .int .i64 0] 38) := ⟨_, rfl⟩
      obtain ⟨g2, hg⟩ : ∃ z, z = W16.heap.size := ⟨_, rfl⟩
      have hVB : Below W16.heap.size W16 V17 := by rw [hV]; exact (Below.refl _ _).alloc (Nat.le_refl _) _
      have HG : Hid (g2 < V17.heap.size ∧ ∀ (j : Nat) u, (hvS [((⟨2, ⟨#[]⟩, [], C, false, 0, 0⟩ : SV), (⟨none, 0, some ⟨g, 0, none⟩, k⟩ : HAd))])[j]? = some u → V17.cell? ⟨g2, j, none⟩ = some u) := by
        have h : g2 < V17.heap.size ∧ ∀ (j : Nat) u, (hvS [((⟨2, ⟨#[]⟩, [], C, false, 0, 0⟩ : SV), (⟨none, 0, some ⟨g, 0, none⟩, k⟩ : HAd))])[j]? = some u → V17.cell? ⟨g2, j, none⟩ = some u := by rw [hV, hg]; exact ⟨by simp, cells_alloc W16 _ _ _ (by simp [hvS, headSv, HCL.out])⟩
        exact h
      rw [← hV, ← hg]
      have P17 := P16.below hVB
      have Q17 := Q16.below hVB
      replace HY : Hid (Below w3.heap.size w3 V17) := chain HY.out hVB
      clear hV hg
      clear pS pT q0 q1 q2 q3 q4 q5 q6 hHeld
      have pS := (cells7 (P17.box (Nat.le_refl _) HBS.out)).2.2.2.1
      have pT := (cells7 (P17.box (by omega) HBT.out)).2.2.2.1
      obtain ⟨q0, q1, q2, q3, q4, q5, q6⟩ := cells7 (Q17.box (Nat.zero_le _) HBO.out)
      clear hVB
      refine hK.out _ _ ?_ (fun hHeld => ?_)
      · (((try dsimp only); (repeat' apply And.intro) <;> first | assumption | (simp (disch := first | omega | (simp <;> omega) | fail) [*]; done) | fail))
      clear hK K
      try simp only [Act.put, List.setIfInBounds_toArray, List.set_cons_zero, List.set_cons_succ]
      refine wpAnyH_ready (rs := [8]) (by kernel_rfl) (by simp) ?_
      refine AllReadyH.cons (by simp only [List.getElem?_toArray, List.getElem?_cons_zero, List.getElem?_cons_succ]; rfl) ?_ AllReadyH.nil
      intro K hK
      go_simp
      refine (C2.out _ (chain hx HY.out)).mono ?_
      rintro e W18 ⟨rfl, hb⟩
      replace HY : Hid (Below w3.heap.size w3 W18) := chain HY.out hb
      have P18 := P17.below hb
      have Q18 := Q17.below hb
      clear pS pT q0 q1 q2 q3 q4 q5 q6 hHeld
      replace HG : Hid (g2 < W18.heap.size ∧ ∀ (j : Nat) u, (hvS [((⟨2, ⟨#[]⟩, [], C, false, 0, 0⟩ : SV), (⟨none, 0, some ⟨g, 0, none⟩, k⟩ : HAd))])[j]? = some u → W18.cell? ⟨g2, j, none⟩ = some u) := ⟨Nat.lt_of_lt_of_le HG.out.1 hb.size, fun j u hj => (hb.cell (p := ⟨g2, j, none⟩) HG.out.1).trans (HG.out.2 j u hj)⟩
      have pS := (cells7 (P18.box (Nat.le_refl _) HBS.out)).2.2.2.1
      have pT := (cells7 (P18.box (by omega) HBT.out)).2.2.2.1
      obtain ⟨q0, q1, q2, q3, q4, q5, q6⟩ := cells7 (Q18.box (Nat.zero_le _) HBO.out)
      clear hb
      go_wp2_with fail
      refine hK.out _ _ ?_ (fun hHeld => ?_)
      · (((try dsimp only); (repeat' apply And.intro) <;> first | assumption | (simp (disch := first | omega | (simp <;> omega) | fail) [*]; done) | fail))
      clear hK K
      try simp only [Act.put, List.setIfInBounds_toArray, List.set_cons_zero, List.set_cons_succ]
      refine wpAnyH_take (i := 9) (by simp only [List.getElem?_toArray, List.getElem?_cons_zero, List.getElem?_cons_succ]; rfl) (by kernel_rfl) (by kernel_rfl) (by kernel_rfl) (by intro _ _ _ h; exact h) (Or.inl ⟨by rfl, fun w hSw => by (dsimp only at hSw; go_simp; (try with_reducible rfl))⟩) (by assumption) ?_
      simp only [Act.put, List.setIfInBounds_toArray, List.set_cons_zero, List.set_cons_succ]
      refine wpAnyH_take (i := 10) (by simp only [List.getElem?_toArray, List.getElem?_cons_zero, List.getElem?_cons_succ]; rfl) (by kernel_rfl) (by kernel_rfl) (by kernel_rfl) (by intro _ _ _ h; exact h) (Or.inl ⟨by rfl, fun w hSw => by (dsimp only at hSw; go_simp; (try with_reducible rfl))⟩) (by assumption) ?_
      simp only [Act.put, List.setIfInBounds_toArray, List.set_cons_zero, List.set_cons_succ]
      refine wpAnyH_take (i := 11) (by simp only [List.getElem?_toArray, List.getElem?_cons_zero, List.getElem?_cons_succ]; rfl) (by kernel_rfl) (by kernel_rfl) (by kernel_rfl) (by intro _ _ _ h; exact h) (Or.inl ⟨by rfl, fun w hSw => by (dsimp only at hSw; go_simp; (try with_reducible rfl))⟩) (by assumption) ?_
      simp only [Act.put, List.setIfInBounds_toArray, List.set_cons_zero, List.set_cons_succ]
      refine wpAnyH_take (i := 12) (by simp only [List.getElem?_toArray, List.getElem?_cons_zero, List.getElem?_cons_succ]; rfl) (by kernel_rfl) (by kernel_rfl) (by kernel_rfl) (by intro _ _ _ h; exact h) (Or.inl ⟨by rfl, fun w hSw => by (dsimp only at hSw; go_simp; (try with_reducible rfl))⟩) (by assumption) ?_
      simp only [Act.put, List.setIfInBounds_toArray, List.set_cons_zero, List.set_cons_succ]
      refine wpAnyH_take (i := 13) (by simp only [List.getElem?_toArray, List.getElem?_cons_zero, List.getElem?_cons_succ]; rfl) (by kernel_rfl) (by kernel_rfl) (by kernel_rfl) (by intro _ _ _ h; exact h) (Or.inl ⟨by rfl, fun w hSw => by (dsimp only at hSw; go_simp; (try with_reducible rfl))⟩) (by assumption) ?_
      simp only [Act.put, List.setIfInBounds_toArray, List.set_cons_zero, List.set_cons_succ]
      refine wpAnyH_take (i := 14) (by simp only [List.getElem?_toArray, List.getElem?_cons_zero, List.getElem?_cons_succ]; rfl) (by kernel_rfl) (by kernel_rfl) (by kernel_rfl) (by intro _ _ _ h; exact h) (Or.inl ⟨by rfl, fun w hSw => by (dsimp only at hSw; go_simp; (try with_reducible rfl))⟩) (by assumption) ?_
      simp only [Act.put, List.setIfInBounds_toArray, List.set_cons_zero, List.set_cons_succ]
      refine wpAnyH_take (i := 15) (by simp only [List.getElem?_toArray, List.getElem?_cons_zero, List.getElem?_cons_succ]; rfl) (by kernel_rfl) (by kernel_rfl) (by kernel_rfl) (by intro _ _ _ h; exact h) (Or.inl ⟨by rfl, fun w hSw => by (dsimp only at hSw; go_simp; (try with_reducible rfl))⟩) (by assumption) ?_
      simp only [Act.put, List.setIfInBounds_toArray, List.set_cons_zero, List.set_cons_succ]
      refine wpAnyH_take (i := 16) (by simp only [List.getElem?_toArray, List.getElem?_cons_zero, List.getElem?_cons_succ]; rfl) (by kernel_rfl) (by kernel_rfl) (by kernel_rfl) (by intro _ _ _ h; exact h) (Or.inl ⟨by rfl, fun w hSw => by (dsimp only at hSw; go_simp; (try with_reducible rfl))⟩) (by assumption) ?_
      simp only [Act.put, List.setIfInBounds_toArray, List.set_cons_zero, List.set_cons_succ]
      refine wpAnyH_done (by kernel_rfl) ?_ _
      clear pS pT q0 q1 q2 q3 q4 q5 q6 hHeld
      go_wp2
      go_ret2
      exact ⟨g, k, ⟨⟨g2, 1, 1, rfl, rfl, HG.out.1, HG.out.2⟩, chain hx HY.out⟩, OI.out.below HY.out⟩
    · intro K hK
      go_simp
      refine (C2.out _ (chain hx HY.out)).mono ?_
      rintro e W19 ⟨rfl, hb⟩
      replace HY : Hid (Below w3.heap.size w3 W19) := chain HY.out hb
      have P19 := P16.below hb
      have Q19 := Q16.below hb
      clear pS pT q0 q1 q2 q3 q4 q5 q6 hHeld
      have pS := (cells7 (P19.box (Nat.le_refl _) HBS.out)).2.2.2.1
      have pT := (cells7 (P19.box (by omega) HBT.out)).2.2.2.1
      obtain ⟨q0, q1, q2, q3, q4, q5, q6⟩ := cells7 (Q19.box (Nat.zero_le _) HBO.out)
      clear hb
      go_wp2_with fail
      refine hK.out _ _ ?_ (fun hHeld => ?_)
      · (((try dsimp only); (repeat' apply And.intro) <;> first | assumption | (simp (disch := first | omega | (simp <;> omega) | fail) [*]; done) | fail))
      clear hK K
      try simp only [Act.put, List.setIfInBounds_toArray, List.set_cons_zero, List.set_cons_succ]
      refine wpAnyH_take (i := 9) (by simp only [List.getElem?_toArray, List.getElem?_cons_zero, List.getElem?_cons_succ]; rfl) (by kernel_rfl) (by kernel_rfl) (by kernel_rfl) (by intro _ _ _ h; exact h) (Or.inl ⟨by rfl, fun w hSw => by (dsimp only at hSw; go_simp; (try with_reducible rfl))⟩) (by assumption) ?_
      simp only [Act.put, List.setIfInBounds_toArray, List.set_cons_zero, List.set_cons_succ]
      refine wpAnyH_take (i := 10) (by simp only [List.getElem?_toArray, List.getElem?_cons_zero, List.getElem?_cons_succ]; rfl) (by kernel_rfl) (by kernel_rfl) (by kernel_rfl) (by intro _ _ _ h; exact h) (Or.inl ⟨by rfl, fun w hSw => by (dsimp only at hSw; go_simp; (try with_reducible rfl))⟩) (by assumption) ?_
      simp only [Act.put, List.setIfInBounds_toArray, List.set_cons_zero, List.set_cons_succ]
      refine wpAnyH_take (i := 11) (by simp only [List.getElem?_toArray, List.getElem?_cons_zero, List.getElem?_cons_succ]; rfl) (by kernel_rfl) (by kernel_rfl) (by kernel_rfl) (by intro _ _ _ h; exact h) (Or.inl ⟨by rfl, fun w hSw => by (dsimp only at hSw; go_simp; (try with_reducible rfl))⟩) (by assumption) ?_
      simp only [Act.put, List.setIfInBounds_toArray, List.set_cons_zero, List.set_cons_succ]
      refine wpAnyH_take (i := 12) (by simp only [List.getElem?_toArray, List.getElem?_cons_zero, List.getElem?_cons_succ]; rfl) (by kernel_rfl) (by kernel_rfl) (by kernel_rfl) (by intro _ _ _ h; exact h) (Or.inl ⟨by rfl, fun w hSw => by (dsimp only at hSw; go_simp; (try with_reducible rfl))⟩) (by assumption) ?_
      simp only [Act.put, List.setIfInBounds_toArray, List.set_cons_zero, List.set_cons_succ]
      refine wpAnyH_take (i := 13) (by simp only [List.getElem?_toArray, List.getElem?_cons_zero, List.getElem?_cons_succ]; rfl) (by kernel_rfl) (by kernel_rfl) (by kernel_rfl) (by intro _ _ _ h; exact h) (Or.inl ⟨by rfl, fun w hSw => by (dsimp only at hSw; go_simp; (try with_reducible rfl))⟩) (by assumption) ?_
      simp only [Act.put, List.setIfInBounds_toArray, List.set_cons_zero, List.set_cons_succ]
      refine wpAnyH_take (i := 14) (by simp only [List.getElem?_toArray, List.getElem?_cons_zero, List.getElem?_cons_succ]; rfl) (by kernel_rfl) (by kernel_rfl) (by kernel_rfl) (by intro _ _ _ h; exact h) (Or.inl ⟨by rfl, fun w hSw => by (dsimp only at hSw; go_simp; (try with_reducible rfl))⟩) (by assumption) ?_
      simp only [Act.put, List.setIfInBounds_toArray, List.set_cons_zero, List.set_cons_succ]
      refine wpAnyH_ready (rs := [1]) (by kernel_rfl) (by simp) ?_
      refine AllReadyH.cons (by simp only [List.getElem?_toArray, List.getElem?_cons_zero, List.getElem?_cons_succ]; rfl) ?_ AllReadyH.nil
      intro K hK
      go_simp
      obtain ⟨V20, hV⟩ : ∃ V, V = W19.alloc (.cells #[.int .i64 2, .string ⟨#[]⟩, .slice none 0 0, .slice (some ⟨g, 0, none⟩) nS k, .bool false, .int .i64 0, .int .i64 0] 38) := ⟨_, rfl⟩
      obtain ⟨g2, hg⟩ : ∃ z, z = W19.heap.size := ⟨_, rfl⟩
      have hVB : Below W19.heap.size W19 V20 := by rw [hV]; exact (Below.refl _ _).alloc (Nat.le_refl _) _
      have HG : Hid (g2 < V20.heap.size ∧ ∀ (j : Nat) u, (hvS [((⟨2, ⟨#[]⟩, [], C, false, 0, 0⟩ : SV), (⟨none, 0, some ⟨g, 0, none⟩, k⟩ : HAd))])[j]? = some u → V20.cell? ⟨g2, j, none⟩ = some u) := by
        have h : g2 < V20.heap.size ∧ ∀ (j : Nat) u, (hvS [((⟨2, ⟨#[]⟩, [], C, false, 0, 0⟩ : SV), (⟨none, 0, some ⟨g, 0, none⟩, k⟩ : HAd))])[j]? = some u → V20.cell? ⟨g2, j, none⟩ = some u := by rw [hV, hg]; exact ⟨by simp, cells_alloc W19 _ _ _ (by simp [hvS, headSv, HCL.out])⟩
        exact h
      rw [← hV, ← hg]
      have P20 := P19.below hVB
      have Q20 := Q19.below hVB
      replace HY : Hid (Below w3.heap.size w3 V20) := chain HY.out hVB
      clear hV hg
      clear pS pT q0 q1 q2 q3 q4 q5 q6 hHeld
      have pS := (cells7 (P20.box (Nat.le_refl _) HBS.out)).2.2.2.1
      have pT := (cells7 (P20.box (by omega) HBT.out)).2.2.2.1
      obtain ⟨q0, q1, q2, q3, q4, q5, q6⟩ := cells7 (Q20.box (Nat.zero_le _) HBO.out)
      clear hVB
      refine hK.out _ _ ?_ (fun hHeld => ?_)
      · (((try dsimp only); (repeat' apply And.intro) <;> first | assumption | (simp (disch := first | omega | (simp <;> omega) | fail) [*]; done) | fail))
      clear hK K
      try simp only [Act.put, List.setIfInBounds_toArray, List.set_cons_zero, List.set_cons_succ]
      refine wpAnyH_take (i := 15) (by simp only [List.getElem?_toArray, List.getElem?_cons_zero, List.getElem?_cons_succ]; rfl) (by kernel_rfl) (by kernel_rfl) (by kernel_rfl) (by intro _ _ _ h; exact h) (Or.inl ⟨by rfl, fun w hSw => by (dsimp only at hSw; go_simp; (try with_reducible rfl))⟩) (by assumption) ?_
      simp only [Act.put, List.setIfInBounds_toArray, List.set_cons_zero, List.set_cons_succ]
      refine wpAnyH_take (i := 16) (by simp only [List.getElem?_toArray, List.getElem?_cons_zero, List.getElem?_cons_succ]; rfl) (by kernel_rfl) (by kernel_rfl) (by kernel_rfl) (by intro _ _ _ h; exact h) (Or.inl ⟨by rfl, fun w hSw => by (dsimp only at hSw; go_simp; (try with_reducible rfl))⟩) (by assumption) ?_
      simp only [Act.put, List.setIfInBounds_toArray, List.set_cons_zero, List.set_cons_succ]
      refine wpAnyH_done (by kernel_rfl) ?_ _
      clear pS pT q0 q1 q2 q3 q4 q5 q6 hHeld
      go_wp2
      go_ret2
      exact ⟨g, k, ⟨⟨g2, 1, 1, rfl, rfl, HG.out.1, HG.out.2⟩, chain hx HY.out⟩, OI.out.below HY.out⟩
end Go.Proofs.YtadbbkpillfjaaaGreatDoor
