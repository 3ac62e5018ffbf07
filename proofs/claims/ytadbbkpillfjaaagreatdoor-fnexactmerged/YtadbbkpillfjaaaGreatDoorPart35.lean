/-
  A part of the proof: AsoI, AsoneI.
-/
import Derived.Test.YtadbbkpillfjaaaGreatDoorPart27
import Derived.Deep.RegionHeld3
import Derived.Test.YtadbbkpillfjaaaGreatDoorPart34
import Derived.Test.YtadbbkpillfjaaaGreatDoorPart30
import Derived.Test.YtadbbkpillfjaaaGreatDoorPart28

/-
  The program's asOneLimit: two limits made one.
-/
namespace Go.Proofs.YtadbbkpillfjaaaGreatDoor
open Go.ChangeShapes Go.WideShapes Go.ChangeAt Go.RowKit
attribute [local go_sem ↓] Go.wp_at_zero Go.wp_at_succ
attribute [local simp] World.cell?_alloc_past World.cell?_alloc_at World.frozen?_alloc_at cell_far cell_off cell_here World.frozen?_alloc_past

set_option maxHeartbeats 2000000 in
theorem aslimit_impl (kd : Int) (nm : ByteArray) (na : Option Addr) (nn nc : Nat) (sa : Option Addr) (sn sc : Nat) (dn : Bool) (ct sk : Int) (kt : Int) (mt : ByteArray) (ma : Option Addr) (mn mc : Nat) (ra : Option Addr) (rn rc : Nat) (dt : Bool) (tt st : Int) (w : World) (h1 : (0 ≤ ct ∧ ct ≤ 1000) ∧ 0 ≤ sk ∧ sk ≤ 1000) (h2 : (0 ≤ tt ∧ tt ≤ 1000) ∧ 0 ≤ st ∧ st ≤ 1000) (z : Bool) (hz : (decide (sk + st ≤ 1000) && decide (st < ct)) = z) :
    Calls Tryz.prog 37 #[.agg #[.int .i64 kd, .string nm, .slice na nn nc, .slice sa sn sc, .bool dn, .int .i64 ct, .int .i64 sk], .agg #[.int .i64 kt, .string mt, .slice ma mn mc, .slice ra rn rc, .bool dt, .int .i64 tt, .int .i64 st]] w fun e w' => RuleOut w w' e [(⟨9, ⟨#[]⟩, [], [], false, min tt (ct - st), sk + st⟩, ⟨none, 0, none, 0⟩)] z := by
  have e1 : IntKind.i64.wrap (ct - st) = ct - st := by rw [IntKind.wrap_i64]; omega
  have e2 : IntKind.i64.wrap (sk + st) = sk + st := by rw [IntKind.wrap_i64]; omega
  obtain ⟨E0, hE0, hA, hBS, hBT⟩ := two_boxes w (.cells #[.int .i64 kd, .string nm, .slice na nn nc, .slice sa sn sc, .bool dn, .int .i64 ct, .int .i64 sk] 38) (.cells #[.int .i64 kt, .string mt, .slice ma mn mc, .slice ra rn rc, .bool dt, .int .i64 tt, .int .i64 st] 38)
  have HBS : Hid (E0.heap[w.heap.size]? = some (.cells #[.int .i64 kd, .string nm, .slice na nn nc, .slice sa sn sc, .bool dn, .int .i64 ct, .int .i64 sk] 38)) := hBS
  have HBT : Hid (E0.heap[w.heap.size + 1]? = some (.cells #[.int .i64 kt, .string mt, .slice ma mn mc, .slice ra rn rc, .bool dt, .int .i64 tt, .int .i64 st] 38)) := hBT
  have HE0 : Hid (((w.alloc (.cells #[.int .i64 kd, .string nm, .slice na nn nc, .slice sa sn sc, .bool dn, .int .i64 ct, .int .i64 sk] 38)).alloc (.cells #[.int .i64 kt, .string mt, .slice ma mn mc, .slice ra rn rc, .bool dt, .int .i64 tt, .int .i64 st] 38)) = E0) := hE0
  have P0 := Kept.refl w.heap.size E0
  have HZ : Hid ((decide (sk + st ≤ 1000) && decide (st < ct)) = z) := hz
  clear hz hE0 hBS hBT
  go_enter Tryz.func37, Tryz.ntmps37
  obtain ⟨p0, p1, p2, p3, p4, p5, p6⟩ := cells7 HBS.out
  obtain ⟨t0, t1, t2, t3, t4, t5, t6⟩ := cells7 HBT.out
  rw [← HE0.out] at p0 p1 p2 p3 p4 p5 p6 t0 t1 t2 t3 t4 t5 t6
  go_wp2_with fail
  rw [HE0.out]
  clear p0 p1 p2 p3 p4 p5 p6 t0 t1 t2 t3 t4 t5 t6
  obtain ⟨E1, hE1⟩ : ∃ E1, E1 = E0.alloc (.cells #[.int .i64 9, .string ⟨#[]⟩, .slice none 0 0, .slice none 0 0, .bool false, .int .i64 (min tt (ct - st)), .int .i64 (sk + st)] 38) := ⟨_, rfl⟩
  have HBO : Hid (E1.heap[w.heap.size + 1 + 1]? = some (.cells #[.int .i64 9, .string ⟨#[]⟩, .slice none 0 0, .slice none 0 0, .bool false, .int .i64 (min tt (ct - st)), .int .i64 (sk + st)] 38)) := by
    have h0 : E0.heap.size = w.heap.size + 1 + 1 := by rw [← HE0.out]; simp
    have h : E1.heap[w.heap.size + 1 + 1]? = some (.cells #[.int .i64 9, .string ⟨#[]⟩, .slice none 0 0, .slice none 0 0, .bool false, .int .i64 (min tt (ct - st)), .int .i64 (sk + st)] 38) := by rw [hE1, ← h0]; exact _root_.Go.heap_alloc_new _ _
    exact h
  have HA1 : Hid (Below w.heap.size w E1) := by
    have h : Below w.heap.size w E1 := by rw [hE1]; exact hA.alloc hA.size _
    exact h
  rw [← hE1]
  clear hE1 HE0 HBS HBT P0 hA
  obtain ⟨p0, p1, p2, p3, p4, p5, p6⟩ := cells7 HBO.out
  by_cases hlt : st < ct
  · have hgt : 0 < ct - st := by omega
    obtain rfl : decide (sk + st ≤ 1000) = z := by rw [← HZ.out]; simp [hlt]
    clear HZ
    refine wp_region_held_drew (S := (fun w' => w'.cell? ⟨w.heap.size + 1 + 1, 0, none⟩ = some (.int .i64 9) ∧ w'.cell? ⟨w.heap.size + 1 + 1, 1, none⟩ = some (.string ⟨#[]⟩) ∧ w'.cell? ⟨w.heap.size + 1 + 1, 2, none⟩ = some (.slice none 0 0) ∧ w'.cell? ⟨w.heap.size + 1 + 1, 3, none⟩ = some (.slice none 0 0) ∧ w'.cell? ⟨w.heap.size + 1 + 1, 4, none⟩ = some (.bool false) ∧ w'.cell? ⟨w.heap.size + 1 + 1, 5, none⟩ = some (.int .i64 (min tt (ct - st))) ∧ w'.cell? ⟨w.heap.size + 1 + 1, 6, none⟩ = some (.int .i64 (sk + st)))) (by kernel_rfl) ?_ (fun hHeld => ?_)
    · (((try dsimp only); (repeat' apply And.intro) <;> first | (go_keep; done) | (simp (disch := first | omega | (simp <;> omega) | fail) [*]; done) | fail))
    refine wpAnyH_take (i := 0) (by simp only [List.getElem?_toArray, List.getElem?_cons_zero]; rfl) (by kernel_rfl) (by kernel_rfl) (by kernel_rfl) (by intro _ _ _ h; exact h) (Or.inl ⟨by rfl, fun w hSw => by (dsimp only at hSw; go_simp; (try with_reducible rfl))⟩) (by assumption) ?_
    simp only [Act.put, List.setIfInBounds_toArray, List.set_cons_zero, List.set_cons_succ]
    refine wpAnyH_take (i := 2) (by simp only [List.getElem?_toArray, List.getElem?_cons_zero, List.getElem?_cons_succ]; rfl) (by kernel_rfl) (by kernel_rfl) (by kernel_rfl) (by intro _ _ _ h; exact h) (Or.inl ⟨by rfl, fun w hSw => by (dsimp only at hSw; go_simp; (try with_reducible rfl))⟩) (by assumption) ?_
    simp only [Act.put, List.setIfInBounds_toArray, List.set_cons_zero, List.set_cons_succ]
    refine wpAnyH_take (i := 3) (by simp only [List.getElem?_toArray, List.getElem?_cons_zero, List.getElem?_cons_succ]; rfl) (by kernel_rfl) (by kernel_rfl) (by kernel_rfl) (by intro _ _ _ h; exact h) (Or.inl ⟨by rfl, fun w hSw => by (dsimp only at hSw; go_simp; (try with_reducible rfl))⟩) (by assumption) ?_
    simp only [Act.put, List.setIfInBounds_toArray, List.set_cons_zero, List.set_cons_succ]
    refine wpAnyH_take (i := 4) (by simp only [List.getElem?_toArray, List.getElem?_cons_zero, List.getElem?_cons_succ]; rfl) (by kernel_rfl) (by kernel_rfl) (by kernel_rfl) (by intro _ _ _ h; exact h) (Or.inl ⟨by rfl, fun w hSw => by (dsimp only at hSw; go_simp; (try with_reducible rfl))⟩) (by assumption) ?_
    simp only [Act.put, List.setIfInBounds_toArray, List.set_cons_zero, List.set_cons_succ]
    refine wpAnyH_take (i := 5) (by simp only [List.getElem?_toArray, List.getElem?_cons_zero, List.getElem?_cons_succ]; rfl) (by kernel_rfl) (by kernel_rfl) (by kernel_rfl) (by intro _ _ _ h; exact h) (Or.inl ⟨by rfl, fun w hSw => by (dsimp only at hSw; go_simp; (try with_reducible rfl))⟩) (by assumption) ?_
    simp only [Act.put, List.setIfInBounds_toArray, List.set_cons_zero, List.set_cons_succ]
    refine wpAnyH_take (i := 6) (by simp only [List.getElem?_toArray, List.getElem?_cons_zero, List.getElem?_cons_succ]; rfl) (by kernel_rfl) (by kernel_rfl) (by kernel_rfl) (by intro _ _ _ h; exact h) (Or.inl ⟨by rfl, fun w hSw => by (dsimp only at hSw; go_simp; (try with_reducible rfl))⟩) (by assumption) ?_
    simp only [Act.put, List.setIfInBounds_toArray, List.set_cons_zero, List.set_cons_succ]
    refine wpAnyH_take (i := 7) (by simp only [List.getElem?_toArray, List.getElem?_cons_zero, List.getElem?_cons_succ]; rfl) (by kernel_rfl) (by kernel_rfl) (by kernel_rfl) (by intro _ _ _ h; exact h) (Or.inl ⟨by rfl, fun w hSw => by (dsimp only at hSw; go_simp; (try with_reducible rfl))⟩) (by assumption) ?_
    simp only [Act.put, List.setIfInBounds_toArray, List.set_cons_zero, List.set_cons_succ]
    refine wpAnyH_take (i := 8) (by simp only [List.getElem?_toArray, List.getElem?_cons_zero, List.getElem?_cons_succ]; rfl) (by kernel_rfl) (by kernel_rfl) (by kernel_rfl) (by intro _ _ _ h; exact h) (Or.inl ⟨by rfl, fun w hSw => by (dsimp only at hSw; go_simp; (try with_reducible rfl))⟩) (by assumption) ?_
    simp only [Act.put, List.setIfInBounds_toArray, List.set_cons_zero, List.set_cons_succ]
    refine wpAnyH_ready (rs := [1]) (by kernel_rfl) (by simp) ?_
    refine AllReadyH.cons (by simp only [List.getElem?_toArray, List.getElem?_cons_zero, List.getElem?_cons_succ]; rfl) ?_ AllReadyH.nil
    intro K hK
    go_simp
    obtain ⟨V, hV⟩ : ∃ V, V = E1.alloc (.cells #[.int .i64 9, .string ⟨#[]⟩, .slice none 0 0, .slice none 0 0, .bool false, .int .i64 (min tt (ct - st)), .int .i64 (sk + st)] 38) := ⟨_, rfl⟩
    obtain ⟨g, hg⟩ : ∃ z, z = E1.heap.size := ⟨_, rfl⟩
    have hVB : Below E1.heap.size E1 V := by rw [hV]; exact (Below.refl _ _).alloc (Nat.le_refl _) _
    have hC : ∀ (j : Nat) u, (hvS [((⟨9, ⟨#[]⟩, [], [], false, min tt (ct - st), sk + st⟩ : SV), (⟨none, 0, none, 0⟩ : HAd))])[j]? = some u → V.cell? ⟨g, j, none⟩ = some u := by rw [hV, hg]; exact cells_alloc E1 _ _ _ (by simp [hvS, headSv])
    have hgl : g < V.heap.size := by rw [hV, hg]; simp
    have HF : Hid (RuleOut w V.drew (.returned (.tuple #[.slice (some ⟨g, 0, none⟩) 1 1, .bool (decide (sk + st ≤ 1000))])) [((⟨9, ⟨#[]⟩, [], [], false, min tt (ct - st), sk + st⟩ : SV), (⟨none, 0, none, 0⟩ : HAd))] (decide (sk + st ≤ 1000))) := by
      have h : RuleOut w V.drew (.returned (.tuple #[.slice (some ⟨g, 0, none⟩) 1 1, .bool (decide (sk + st ≤ 1000))])) [((⟨9, ⟨#[]⟩, [], [], false, min tt (ct - st), sk + st⟩ : SV), (⟨none, 0, none, 0⟩ : HAd))] (decide (sk + st ≤ 1000)) := ⟨⟨g, 1, 1, rfl, rfl, hgl, hC⟩, (chain HA1.out hVB).drew⟩
      exact h
    rw [← hV, ← hg]
    obtain ⟨q0, q1, q2, q3, q4, q5, q6⟩ := cells7 (((Kept.refl 0 E1).below hVB).box (Nat.zero_le _) HBO.out)
    clear p0 p1 p2 p3 p4 p5 p6 hHeld hV hg hVB hC hgl
    refine hK.out _ _ ?_ (fun hHeld => ?_)
    · (((try dsimp only); (repeat' apply And.intro) <;> first | assumption | (simp (disch := first | omega | (simp <;> omega) | fail) [*]; done) | fail))
    clear hK K
    try simp only [Act.put, List.setIfInBounds_toArray, List.set_cons_zero, List.set_cons_succ]
    refine wpAnyH_take (i := 9) (by simp only [List.getElem?_toArray, List.getElem?_cons_zero, List.getElem?_cons_succ]; rfl) (by kernel_rfl) (by kernel_rfl) (by kernel_rfl) (by intro _ _ _ h; exact h) (Or.inl ⟨by rfl, fun w hSw => by (dsimp only at hSw; go_simp; (try with_reducible rfl))⟩) (by assumption) ?_
    simp only [Act.put, List.setIfInBounds_toArray, List.set_cons_zero, List.set_cons_succ]
    refine wpAnyH_take (i := 10) (by simp only [List.getElem?_toArray, List.getElem?_cons_zero, List.getElem?_cons_succ]; rfl) (by kernel_rfl) (by kernel_rfl) (by kernel_rfl) (by intro _ _ _ h; exact h) (Or.inl ⟨by rfl, fun w hSw => by (dsimp only at hSw; go_simp; (try with_reducible rfl))⟩) (by assumption) ?_
    simp only [Act.put, List.setIfInBounds_toArray, List.set_cons_zero, List.set_cons_succ]
    refine wpAnyH_done (by kernel_rfl) ?_ _
    clear hHeld q0 q1 q2 q3 q4 q5 q6
    go_wp2
    go_ret2
    exact HF.out
  · have hgt : ¬ 0 < ct - st := by omega
    obtain rfl : false = z := by rw [← HZ.out]; simp [hlt]
    clear HZ
    refine wp_region_held_drew (S := (fun w' => w'.cell? ⟨w.heap.size + 1 + 1, 0, none⟩ = some (.int .i64 9) ∧ w'.cell? ⟨w.heap.size + 1 + 1, 1, none⟩ = some (.string ⟨#[]⟩) ∧ w'.cell? ⟨w.heap.size + 1 + 1, 2, none⟩ = some (.slice none 0 0) ∧ w'.cell? ⟨w.heap.size + 1 + 1, 3, none⟩ = some (.slice none 0 0) ∧ w'.cell? ⟨w.heap.size + 1 + 1, 4, none⟩ = some (.bool false) ∧ w'.cell? ⟨w.heap.size + 1 + 1, 5, none⟩ = some (.int .i64 (min tt (ct - st))) ∧ w'.cell? ⟨w.heap.size + 1 + 1, 6, none⟩ = some (.int .i64 (sk + st)))) (by kernel_rfl) ?_ (fun hHeld => ?_)
    · (((try dsimp only); (repeat' apply And.intro) <;> first | (go_keep; done) | (simp (disch := first | omega | (simp <;> omega) | fail) [*]; done) | fail))
    refine wpAnyH_take (i := 0) (by simp only [List.getElem?_toArray, List.getElem?_cons_zero]; rfl) (by kernel_rfl) (by kernel_rfl) (by kernel_rfl) (by intro _ _ _ h; exact h) (Or.inl ⟨by rfl, fun w hSw => by (dsimp only at hSw; go_simp; (try with_reducible rfl))⟩) (by assumption) ?_
    simp only [Act.put, List.setIfInBounds_toArray, List.set_cons_zero, List.set_cons_succ]
    refine wpAnyH_take (i := 2) (by simp only [List.getElem?_toArray, List.getElem?_cons_zero, List.getElem?_cons_succ]; rfl) (by kernel_rfl) (by kernel_rfl) (by kernel_rfl) (by intro _ _ _ h; exact h) (Or.inl ⟨by rfl, fun w hSw => by (dsimp only at hSw; go_simp; (try with_reducible rfl))⟩) (by assumption) ?_
    simp only [Act.put, List.setIfInBounds_toArray, List.set_cons_zero, List.set_cons_succ]
    refine wpAnyH_take (i := 3) (by simp only [List.getElem?_toArray, List.getElem?_cons_zero, List.getElem?_cons_succ]; rfl) (by kernel_rfl) (by kernel_rfl) (by kernel_rfl) (by intro _ _ _ h; exact h) (Or.inl ⟨by rfl, fun w hSw => by (dsimp only at hSw; go_simp; (try with_reducible rfl))⟩) (by assumption) ?_
    simp only [Act.put, List.setIfInBounds_toArray, List.set_cons_zero, List.set_cons_succ]
    refine wpAnyH_take (i := 4) (by simp only [List.getElem?_toArray, List.getElem?_cons_zero, List.getElem?_cons_succ]; rfl) (by kernel_rfl) (by kernel_rfl) (by kernel_rfl) (by intro _ _ _ h; exact h) (Or.inl ⟨by rfl, fun w hSw => by (dsimp only at hSw; go_simp; (try with_reducible rfl))⟩) (by assumption) ?_
    simp only [Act.put, List.setIfInBounds_toArray, List.set_cons_zero, List.set_cons_succ]
    refine wpAnyH_take (i := 5) (v := undef) (by simp only [List.getElem?_toArray, List.getElem?_cons_zero, List.getElem?_cons_succ]; rfl) (by kernel_rfl) (by kernel_rfl) (by kernel_rfl) (by intro _ _ _ h; exact h) (Or.inr ⟨by rfl, rfl⟩) (by assumption) ?_
    simp only [Act.put, List.setIfInBounds_toArray, List.set_cons_zero, List.set_cons_succ]
    refine wpAnyH_take (i := 6) (v := undef) (by simp only [List.getElem?_toArray, List.getElem?_cons_zero, List.getElem?_cons_succ]; rfl) (by kernel_rfl) (by kernel_rfl) (by kernel_rfl) (by intro _ _ _ h; exact h) (Or.inr ⟨by rfl, rfl⟩) (by assumption) ?_
    simp only [Act.put, List.setIfInBounds_toArray, List.set_cons_zero, List.set_cons_succ]
    refine wpAnyH_take (i := 7) (v := undef) (by simp only [List.getElem?_toArray, List.getElem?_cons_zero, List.getElem?_cons_succ]; rfl) (by kernel_rfl) (by kernel_rfl) (by kernel_rfl) (by intro _ _ _ h; exact h) (Or.inr ⟨by rfl, rfl⟩) (by assumption) ?_
    simp only [Act.put, List.setIfInBounds_toArray, List.set_cons_zero, List.set_cons_succ]
    refine wpAnyH_take (i := 8) (by simp only [List.getElem?_toArray, List.getElem?_cons_zero, List.getElem?_cons_succ]; rfl) (by kernel_rfl) (by kernel_rfl) (by kernel_rfl) (by intro _ _ _ h; exact h) (Or.inl ⟨by rfl, fun w hSw => by (dsimp only at hSw; go_simp; (try with_reducible rfl))⟩) (by assumption) ?_
    simp only [Act.put, List.setIfInBounds_toArray, List.set_cons_zero, List.set_cons_succ]
    refine wpAnyH_ready (rs := [1]) (by kernel_rfl) (by simp) ?_
    refine AllReadyH.cons (by simp only [List.getElem?_toArray, List.getElem?_cons_zero, List.getElem?_cons_succ]; rfl) ?_ AllReadyH.nil
    intro K hK
    go_simp
    obtain ⟨V, hV⟩ : ∃ V, V = E1.alloc (.cells #[.int .i64 9, .string ⟨#[]⟩, .slice none 0 0, .slice none 0 0, .bool false, .int .i64 (min tt (ct - st)), .int .i64 (sk + st)] 38) := ⟨_, rfl⟩
    obtain ⟨g, hg⟩ : ∃ z, z = E1.heap.size := ⟨_, rfl⟩
    have hVB : Below E1.heap.size E1 V := by rw [hV]; exact (Below.refl _ _).alloc (Nat.le_refl _) _
    have hC : ∀ (j : Nat) u, (hvS [((⟨9, ⟨#[]⟩, [], [], false, min tt (ct - st), sk + st⟩ : SV), (⟨none, 0, none, 0⟩ : HAd))])[j]? = some u → V.cell? ⟨g, j, none⟩ = some u := by rw [hV, hg]; exact cells_alloc E1 _ _ _ (by simp [hvS, headSv])
    have hgl : g < V.heap.size := by rw [hV, hg]; simp
    have HF : Hid (RuleOut w V.drew (.returned (.tuple #[.slice (some ⟨g, 0, none⟩) 1 1, .bool false])) [((⟨9, ⟨#[]⟩, [], [], false, min tt (ct - st), sk + st⟩ : SV), (⟨none, 0, none, 0⟩ : HAd))] false) := by
      have h : RuleOut w V.drew (.returned (.tuple #[.slice (some ⟨g, 0, none⟩) 1 1, .bool false])) [((⟨9, ⟨#[]⟩, [], [], false, min tt (ct - st), sk + st⟩ : SV), (⟨none, 0, none, 0⟩ : HAd))] false := ⟨⟨g, 1, 1, rfl, rfl, hgl, hC⟩, (chain HA1.out hVB).drew⟩
      exact h
    rw [← hV, ← hg]
    obtain ⟨q0, q1, q2, q3, q4, q5, q6⟩ := cells7 (((Kept.refl 0 E1).below hVB).box (Nat.zero_le _) HBO.out)
    clear p0 p1 p2 p3 p4 p5 p6 hHeld hV hg hVB hC hgl
    refine hK.out _ _ ?_ (fun hHeld => ?_)
    · (((try dsimp only); (repeat' apply And.intro) <;> first | assumption | (simp (disch := first | omega | (simp <;> omega) | fail) [*]; done) | fail))
    clear hK K
    try simp only [Act.put, List.setIfInBounds_toArray, List.set_cons_zero, List.set_cons_succ]
    refine wpAnyH_take (i := 9) (by simp only [List.getElem?_toArray, List.getElem?_cons_zero, List.getElem?_cons_succ]; rfl) (by kernel_rfl) (by kernel_rfl) (by kernel_rfl) (by intro _ _ _ h; exact h) (Or.inl ⟨by rfl, fun w hSw => by (dsimp only at hSw; go_simp; (try with_reducible rfl))⟩) (by assumption) ?_
    simp only [Act.put, List.setIfInBounds_toArray, List.set_cons_zero, List.set_cons_succ]
    refine wpAnyH_take (i := 10) (by simp only [List.getElem?_toArray, List.getElem?_cons_zero, List.getElem?_cons_succ]; rfl) (by kernel_rfl) (by kernel_rfl) (by kernel_rfl) (by intro _ _ _ h; exact h) (Or.inl ⟨by rfl, fun w hSw => by (dsimp only at hSw; go_simp; (try with_reducible rfl))⟩) (by assumption) ?_
    simp only [Act.put, List.setIfInBounds_toArray, List.set_cons_zero, List.set_cons_succ]
    refine wpAnyH_done (by kernel_rfl) ?_ _
    clear hHeld q0 q1 q2 q3 q4 q5 q6
    go_wp2
    go_ret2
    exact HF.out
end Go.Proofs.YtadbbkpillfjaaaGreatDoor

/-
  The program's asOne, as a rule.
-/
namespace Go.Proofs.YtadbbkpillfjaaaGreatDoor
open Go.ChangeShapes Go.WideShapes Go.ChangeAt Go.RowKit
attribute [local go_sem ↓] Go.wp_at_zero Go.wp_at_succ
attribute [local simp] World.cell?_alloc_past World.cell?_alloc_at World.frozen?_alloc_at cell_far cell_off cell_here World.frozen?_alloc_past

theorem aswhere_ans (w : World) (hp : PowAt w) (he : ErrAt w) (p q : SV × HAd) (h1 : HeadOk w OkM p) (h2 : HeadOk w OkM q) (hk : p.1.kind = 2) (hk2 : q.1.kind = 2) :
    Calls Tryz.prog 36 #[.agg (headSv p.1 p.2).toArray, .agg (headSv q.1 q.2).toArray] w (RuleAns w OkM mergeR p q) := by
  obtain ⟨⟨kd, nm, N, S, dn, ct, sk⟩, ⟨na, nc, sa, sc⟩⟩ := p
  obtain ⟨⟨kt, mt, M, R, dt, tt, st⟩, ⟨ma, mc, ra, rc⟩⟩ := q
  dsimp only at hk hk2
  subst hk hk2
  refine (aswhere_impl 2 nm na _ nc sa _ sc S rfl dn ct sk 2 mt ma _ mc ra _ rc R rfl dt tt st w h1.siv.sum h2.siv.sum h1.ok.1 h2.ok.1 h1.nilI h2.nilI (h1.ok.2.2.1 rfl) (h2.ok.2.2.1 rfl) hp he _ rfl).mono ?_
  rintro e w2 ⟨g1, k1, ⟨⟨g, n, c, hn, rfl, hg, hc⟩, hb⟩, hI⟩
  refine ⟨_, _, rfl, hb, fun hz => ?_, fun hz => ?_⟩
  · unfold mergeR
    rw [if_neg, if_neg]
    · simp
    · intro h
      have h2 : (sureR S && (sureR R && decide (S.length + R.length < 40))) = true := by simpa using h
      exact Bool.noConfusion (h2.symm.trans hz)
  · have hm : mergeR ⟨2, nm, N, S, dn, ct, sk⟩ ⟨2, mt, M, R, dt, tt, st⟩ = some [⟨2, ⟨#[]⟩, [], S ++ R ++ [opI 9], false, 0, 0⟩] := by
      unfold mergeR
      rw [if_pos]
      simpa using hz
    have hok := merge_ok h1.ok h2.ok hm _ (List.mem_cons_self ..)
    refine ⟨g, n, c, _, rfl, hn.symm, by rw [hn]; exact Nat.succ_pos _, by rw [hn]; exact Nat.le_succ _, hg, hc, ?_, hm⟩
    intro x hx
    rcases List.mem_cons.1 hx with rfl | hx
    · refine ⟨⟨fun i hi => by simp at hi, fun i hi => by simp at hi, by simp, by simp, fun _ => rfl, hI, ?_, ?_, Nat.zero_le _⟩, (fun h => by cases h), hok⟩
      · refine fit_appItm (fit_appItm h1.siv.fitI h2.siv.fitI) (fun i hi => ?_)
        have hi0 : i = 0 := by simp at hi; omega
        subst hi0
        exact ⟨Nat.zero_le _, Nat.zero_le _⟩
      · have h := hok.2.2.1 rfl
        dsimp only at h ⊢
        unfold maxLen
        omega
    · cases hx
theorem aslimit_ans (w : World) (p q : SV × HAd) (h1 : HeadOk w OkM p) (h2 : HeadOk w OkM q) (hk : p.1.kind = 9) (hk2 : q.1.kind = 9) :
    Calls Tryz.prog 37 #[.agg (headSv p.1 p.2).toArray, .agg (headSv q.1 q.2).toArray] w (RuleAns w OkM mergeR p q) := by
  obtain ⟨⟨kd, nm, N, S, dn, ct, sk⟩, ⟨na, nc, sa, sc⟩⟩ := p
  obtain ⟨⟨kt, mt, M, R, dt, tt, st⟩, ⟨ma, mc, ra, rc⟩⟩ := q
  dsimp only at hk hk2
  subst hk hk2
  refine (aslimit_impl 9 nm na _ nc sa _ sc dn ct sk 9 mt ma _ mc ra _ rc dt tt st w (h1.ok.2.2.2 rfl) (h2.ok.2.2.2 rfl) _ rfl).mono ?_
  rintro e w2 ⟨⟨g, n, c, hn, rfl, hg, hc⟩, hb⟩
  refine ⟨_, _, rfl, hb, fun hz => ?_, fun hz => ?_⟩
  · unfold mergeR
    rw [if_neg, if_neg]
    · intro h
      have h2 : (decide (sk + st ≤ 1000) && decide (st < ct)) = true := by simpa using h
      exact Bool.noConfusion (h2.symm.trans hz)
    · simp
  · have hm : mergeR ⟨9, nm, N, S, dn, ct, sk⟩ ⟨9, mt, M, R, dt, tt, st⟩ = some [⟨9, ⟨#[]⟩, [], [], false, min tt (ct - st), sk + st⟩] := by
      unfold mergeR
      rw [if_neg (by simp), if_pos]
      simpa using hz
    have hok := merge_ok h1.ok h2.ok hm _ (List.mem_cons_self ..)
    refine ⟨g, n, c, _, rfl, hn.symm, by rw [hn]; exact Nat.succ_pos _, by rw [hn]; exact Nat.le_succ _, hg, hc, ?_, hm⟩
    intro x hx
    rcases List.mem_cons.1 hx with rfl | hx
    · exact ⟨⟨fun i hi => by simp at hi, fun i hi => by simp at hi, by simp, by simp, fun _ => rfl, fun i hi => by simp at hi, fun i hi => by simp at hi, by simp, Nat.zero_le _⟩, (fun _ => rfl), hok⟩
    · cases hx
set_option maxHeartbeats 2000000 in
theorem asone_rule (w : World) (hp : PowAt w) (he : ErrAt w) : RuleHv w 17 OkM mergeR := by
  intro w' hw p q h1 h2
  have HW : Hid (∀ w'', Below w'.heap.size w' w'' → p.1.kind = 2 → q.1.kind = 2 → Calls Tryz.prog 36 #[.agg (headSv p.1 p.2).toArray, .agg (headSv q.1 q.2).toArray] w'' (RuleAns w'' OkM mergeR p q)) := by
    have h : ∀ w'', Below w'.heap.size w' w'' → p.1.kind = 2 → q.1.kind = 2 → Calls Tryz.prog 36 #[.agg (headSv p.1 p.2).toArray, .agg (headSv q.1 q.2).toArray] w'' (RuleAns w'' OkM mergeR p q) := fun w'' hw2 k1 k2 => aswhere_ans w'' ((hp.below hw).below hw2) ((he.below hw).below hw2) p q (h1.below hw2) (h2.below hw2) k1 k2
    exact h
  have HL : Hid (∀ w'', Below w'.heap.size w' w'' → p.1.kind = 9 → q.1.kind = 9 → Calls Tryz.prog 37 #[.agg (headSv p.1 p.2).toArray, .agg (headSv q.1 q.2).toArray] w'' (RuleAns w'' OkM mergeR p q)) := by
    have h : ∀ w'', Below w'.heap.size w' w'' → p.1.kind = 9 → q.1.kind = 9 → Calls Tryz.prog 37 #[.agg (headSv p.1 p.2).toArray, .agg (headSv q.1 q.2).toArray] w'' (RuleAns w'' OkM mergeR p q) := fun w'' hw2 k1 k2 => aslimit_ans w'' p q (h1.below hw2) (h2.below hw2) k1 k2
    exact h
  clear h1 h2 hp he hw
  have HM : Hid (¬ (p.1.kind = 2 ∧ q.1.kind = 2) → ¬ (p.1.kind = 9 ∧ q.1.kind = 9) → mergeR p.1 q.1 = none) := by
    have h : ¬ (p.1.kind = 2 ∧ q.1.kind = 2) → ¬ (p.1.kind = 9 ∧ q.1.kind = 9) → mergeR p.1 q.1 = none := by
      intro a b
      unfold mergeR
      rw [if_neg, if_neg]
      · intro h
        simp only [Bool.and_eq_true, decide_eq_true_eq] at h
        exact b ⟨h.1, h.2.1⟩
      · intro h
        simp only [Bool.and_eq_true, decide_eq_true_eq] at h
        exact a ⟨h.1, h.2.1⟩
    exact h
  have ANS : Hid (∀ e w1 w'', Below w'.heap.size w' w1 → RuleAns w1 OkM mergeR p q e w'' → RuleAns w' OkM mergeR p q e w'') := by
    have h : ∀ e w1 w'', Below w'.heap.size w' w1 → RuleAns w1 OkM mergeR p q e w'' → RuleAns w' OkM mergeR p q e w'' := by
      rintro e w1 w'' hb ⟨v, b, h1, h2, h3, h4⟩
      exact ⟨v, b, h1, chain hb h2, h3, h4⟩
    exact h
  obtain ⟨⟨kd, nm, N, S, dn, ct, sk⟩, ⟨na, nc, sa, sc⟩⟩ := p
  obtain ⟨⟨kt, mt, M, R, dt, tt, st⟩, ⟨ma, mc, ra, rc⟩⟩ := q
  obtain ⟨nn, hnn⟩ : ∃ z, N.length = z := ⟨_, rfl⟩
  obtain ⟨sn, hsn⟩ : ∃ z, S.length = z := ⟨_, rfl⟩
  obtain ⟨mn, hmn⟩ : ∃ z, M.length = z := ⟨_, rfl⟩
  obtain ⟨rn, hrn⟩ : ∃ z, R.length = z := ⟨_, rfl⟩
  simp only [headSv, hnn, hsn, hmn, hrn] at HW HL HM ⊢
  clear hnn hsn hmn hrn
  obtain ⟨E0, hE0, hA, hBS, hBT⟩ := two_boxes w' (.cells #[.int .i64 kd, .string nm, .slice na nn nc, .slice sa sn sc, .bool dn, .int .i64 ct, .int .i64 sk] 38) (.cells #[.int .i64 kt, .string mt, .slice ma mn mc, .slice ra rn rc, .bool dt, .int .i64 tt, .int .i64 st] 38)
  have HBS : Hid (E0.heap[w'.heap.size]? = some (.cells #[.int .i64 kd, .string nm, .slice na nn nc, .slice sa sn sc, .bool dn, .int .i64 ct, .int .i64 sk] 38)) := hBS
  have HBT : Hid (E0.heap[w'.heap.size + 1]? = some (.cells #[.int .i64 kt, .string mt, .slice ma mn mc, .slice ra rn rc, .bool dt, .int .i64 tt, .int .i64 st] 38)) := hBT
  have HE0 : Hid (((w'.alloc (.cells #[.int .i64 kd, .string nm, .slice na nn nc, .slice sa sn sc, .bool dn, .int .i64 ct, .int .i64 sk] 38)).alloc (.cells #[.int .i64 kt, .string mt, .slice ma mn mc, .slice ra rn rc, .bool dt, .int .i64 tt, .int .i64 st] 38)) = E0) := hE0
  clear hE0 hBS hBT
  go_enter Tryz.func17, Tryz.ntmps17
  obtain ⟨p0, p1, p2, p3, p4, p5, p6⟩ := cells7 HBS.out
  obtain ⟨t0, t1, t2, t3, t4, t5, t6⟩ := cells7 HBT.out
  rw [← HE0.out] at p0 p1 p2 p3 p4 p5 p6 t0 t1 t2 t3 t4 t5 t6
  by_cases k2 : kd = 2 ∧ kt = 2
  · obtain ⟨rfl, rfl⟩ := k2
    go_wp2_with fail
    rw [HE0.out]
    clear p0 p1 p2 p3 p4 p5 p6 t0 t1 t2 t3 t4 t5 t6
    refine (HW.out _ hA (by simp) (by simp)).mono ?_
    rintro e w3 h
    obtain ⟨v, b, rfl, hr⟩ := ANS.out e E0 w3 hA h
    have HRR : Hid _ := hr
    clear h hr
    go_wp2
    go_ret2
    exact ⟨v, b, rfl, HRR.out⟩
  by_cases k9 : kd = 9 ∧ kt = 9
  · obtain ⟨rfl, rfl⟩ := k9
    go_wp2_with fail
    rw [HE0.out]
    clear p0 p1 p2 p3 p4 p5 p6 t0 t1 t2 t3 t4 t5 t6
    refine (HL.out _ hA (by simp) (by simp)).mono ?_
    rintro e w3 h
    obtain ⟨v, b, rfl, hr⟩ := ANS.out e E0 w3 hA h
    have HRR : Hid _ := hr
    clear h hr
    go_wp2
    go_ret2
    exact ⟨v, b, rfl, HRR.out⟩
  have HMM : Hid (mergeR ⟨kd, nm, N, S, dn, ct, sk⟩ ⟨kt, mt, M, R, dt, tt, st⟩ = none) := HM.out k2 k9
  clear HM HW HL ANS
  by_cases a2 : kd = 2
  · subst a2
    have b2 : ¬ kt = 2 := fun h => k2 ⟨rfl, h⟩
    clear k2 k9
    go_wp2_with fail
    rw [HE0.out]
    go_ret2
    exact ⟨_, _, rfl, hA, fun _ => HMM.out, fun h => by cases h⟩
  by_cases a9 : kd = 9
  · subst a9
    have b9 : ¬ kt = 9 := fun h => k9 ⟨rfl, h⟩
    clear k2 k9
    go_wp2_with fail
    rw [HE0.out]
    go_ret2
    exact ⟨_, _, rfl, hA, fun _ => HMM.out, fun h => by cases h⟩
  · clear k2 k9
    go_wp2_with fail
    rw [HE0.out]
    go_ret2
    exact ⟨_, _, rfl, hA, fun _ => HMM.out, fun h => by cases h⟩
theorem ent_asone (xs : Array Value) (w : World) : (callFunc 17 xs).run Tryz.prog w = .ok (.enter 17 xs) w := by
  go_simp
theorem merged_impl (a : Option Addr) (cap : Nat) (P : List (SV × HAd)) (n : Nat) (hn : P.length = n) (hcap : n ≤ cap) (hnil : a = none → cap = 0) (w : World) (hrow : HeadsIn w a P) (hok : askB (P.map Prod.fst) = true → ∀ p ∈ P, OkM p.1) (hmild : ∀ p ∈ P, MildV p.1) (hcm : cap ≤ maxLen) (hp : PowAt w) (he : ErrAt w) :
    Calls Tryz.prog 7 #[.slice a n cap] w fun e w' => ∃ g m K Q, e = .returned (.slice (some ⟨g, 0, none⟩) m m) ∧ K.length = m ∧ PushAns mergeR (P.map Prod.fst) K ∧ OutVs w' w.heap.size (some ⟨g, 0, none⟩) K Q ∧ Below w.heap.size w w' := by
  have H : Hid (Calls Tryz.prog 16 #[.slice a n cap, .func (.func 17) #[] #[]] w fun e w' => ∃ g m K Q, e = .returned (.slice (some ⟨g, 0, none⟩) m m) ∧ K.length = m ∧ PushAns mergeR (P.map Prod.fst) K ∧ OutVs w' w.heap.size (some ⟨g, 0, none⟩) K Q ∧ Below w.heap.size w w') :=
    rewritten_impl 17 ent_asone OkM (fun _ h => h.2.1) mergeR List.length (fun L L' _ h => by rw [List.length_map, List.length_map]; have := merge_less h; omega) a cap P n hn hcap hnil w hrow hok hmild hcm hp he (asone_rule w hp he)
  clear hrow hok hmild hcm hp he hn hcap hnil
  go_enter Tryz.func7, Tryz.ntmps7
  go_wp2_with fail
  refine H.out.mono ?_
  rintro e w1 ⟨g, m, K, Q, rfl, h⟩
  have FIN : Hid (∃ g' m' K' Q', Ending.returned (.slice (some ⟨g, 0, none⟩) m m) = .returned (.slice (some ⟨g', 0, none⟩) m' m') ∧ K'.length = m' ∧ PushAns mergeR (P.map Prod.fst) K' ∧ OutVs w1 w.heap.size (some ⟨g', 0, none⟩) K' Q' ∧ Below w.heap.size w w1) := ⟨g, m, K, Q, rfl, h⟩
  clear h
  go_wp2
  go_ret
  exact FIN.out
end Go.Proofs.YtadbbkpillfjaaaGreatDoor
