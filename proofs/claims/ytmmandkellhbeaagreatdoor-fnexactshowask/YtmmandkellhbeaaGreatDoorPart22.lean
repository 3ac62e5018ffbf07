/-
  A part of the proof: AskS, Tab1, Open2, OpenV, Laid, LaidSg.
-/
import Derived.Test.YtmmandkellhbeaaGreatDoorPart9
import Derived.Test.YtmmandkellhbeaaGreatDoorPart20
import Derived.Test.YtmmandkellhbeaaGreatDoorPart21
import Derived.Test.YtmmandkellhbeaaGreatDoorPart7
import Derived.Test.YtmmandkellhbeaaGreatDoorPart8
import Derived.Lib.SmallJoins
import Derived.Test.YtmmandkellhbeaaGreatDoorPart10
import Derived.LaidMore
import Derived.Stop.LaidErr
import Derived.Lib.LaidTab
import Derived.Stop.Joined
import Derived.ProofKit
import Derived.LaidLaws
import Derived.Test.YtmmandkellhbeaaGreatDoorPart13
import Derived.OpenVars
import Derived.ChangeVars

/-
  The contracts of the model's text of a sieve and of a question.
-/
namespace Go.Proofs.YtmmandkellhbeaaGreatDoor
open Go.ChangeShapes Go.WideShapes Go.ChangeAt Go.RowKit
attribute [local go_sem ↓] Go.wp_at_zero Go.wp_at_succ
attribute [local simp] World.cell?_alloc_past World.cell?_alloc_at World.frozen?_alloc_at cell_far cell_off cell_here World.frozen?_alloc_past

theorem own_oneV (w : World) (s : ByteArray) : (w.alloc (.cells #[.string s] 9)).ownsRow w.heap.size 9 1 (.slice (some ⟨w.heap.size, 0, none⟩) 1 1) 1 [.string s] :=
  ⟨rfl, .inr ⟨w.heap.size, 1, #[.string s], rfl, Nat.le_refl _, by show (w.heap.push _)[w.heap.size]? = _; simp, Nat.le_refl _, by unfold maxLen; omega, rfl, rfl⟩⟩
set_option maxRecDepth 100000 in
set_option maxHeartbeats 2000000 in
theorem show_4 (nm : ByteArray) (na : Option Addr) (nn nc : Nat) (sa : Option Addr) (sn sc : Nat) (dn : Bool) (ct sk : Int) (N : List ByteArray) (hnn : N.length = nn) (w : World) (hN : StrsAt w na N) (hnil : na = none → nc = 0) (hcap : nn ≤ nc) (h6 : nn ≤ 6) (hsm : ∀ x ∈ N, x.size ≤ 6) (y : ByteArray) (hy : (⟨(Lib.join (rawT (wordT8 4 :: N)) [32]).toArray⟩ : ByteArray) = y) :
    Calls Tryz.prog 34 #[.agg #[.int .i64 4, .string nm, .slice na nn nc, .slice sa sn sc, .bool dn, .int .i64 ct, .int .i64 sk]] w fun e w' => e = .returned (.string y) ∧ Below w.heap.size w w' := by
  obtain ⟨i0, hti, hz0, hz1, hz2⟩ := info_parts infoStr
  have HNN : Hid (N.length = nn) := hnn
  have HN : Hid (StrsAt w na N) := hN
  have HY : Hid ((⟨(Lib.join (rawT (wordT8 4 :: N)) [32]).toArray⟩ : ByteArray) = y) := hy
  have HSM : Hid (∀ x ∈ N, x.size ≤ 6) := hsm
  clear hnn hN hy hsm
  have hwr : IntKind.i64.wrap 3 = 3 := by decide
  go_enter Tryz.func34, Tryz.ntmps34
  go_wp2_with fail
  refine wp_region_held_drew (S := (fun w' => w'.cell? ⟨w.heap.size, 0, none⟩ = some (.int .i64 4))) (by kernel_rfl) ?_ (fun hHeld => ?_)
  · (((try dsimp only); (repeat' apply And.intro) <;> first | (go_keep; done) | (simp (disch := first | omega | (simp <;> omega) | fail) [*]; done) | fail))
  refine wpAnyH_take (i := 1) (by simp only [List.getElem?_toArray, List.getElem?_cons_zero, List.getElem?_cons_succ]; rfl) (by kernel_rfl) (by kernel_rfl) (by kernel_rfl) (by intro _ _ _ h; exact h) (Or.inl ⟨by rfl, fun w hSw => by (dsimp only at hSw; go_simp; (try with_reducible rfl))⟩) (by assumption) ?_
  simp only [Act.put, List.setIfInBounds_toArray, List.set_cons_zero, List.set_cons_succ]
  refine wpAnyH_take (i := 2) (by simp only [List.getElem?_toArray, List.getElem?_cons_zero, List.getElem?_cons_succ]; rfl) (by kernel_rfl) (by kernel_rfl) (by kernel_rfl) (by intro _ _ _ h; exact h) (Or.inl ⟨by rfl, fun w hSw => by (dsimp only at hSw; go_simp; (try with_reducible rfl))⟩) (by assumption) ?_
  simp only [Act.put, List.setIfInBounds_toArray, List.set_cons_zero, List.set_cons_succ]
  refine wpAnyH_take (i := 3) (by simp only [List.getElem?_toArray, List.getElem?_cons_zero, List.getElem?_cons_succ]; rfl) (by kernel_rfl) (by kernel_rfl) (by kernel_rfl) (by intro _ _ _ h; exact h) (Or.inl ⟨by rfl, fun w hSw => by (dsimp only at hSw; go_simp; (try with_reducible rfl))⟩) (by assumption) ?_
  simp only [Act.put, List.setIfInBounds_toArray, List.set_cons_zero, List.set_cons_succ]
  refine wpAnyH_ready (rs := [0]) (by kernel_rfl) (by simp) ?_
  refine AllReadyH.cons (by simp only [List.getElem?_toArray, List.getElem?_cons_zero]; rfl) ?_ AllReadyH.nil
  intro K hK
  go_simp
  refine (words10_spec _).mono ?_
  rintro e w1 ⟨g, rfl, hc, hg, hb1⟩
  replace hb1 := undrew hb1
  obtain ⟨p0, p1, p2, p3, p4, p5, p6, hsz⟩ := box7 hb1
  have hx := chainA hb1
  have c := hc 4 (by decide) (by decide)
  change w1.cell? ⟨g, 3, none⟩ = _ at c
  have hu := wordT8_size 4
  generalize wordT8 4 = u at c hu HY
  clear hc hb1
  go_wp2_with fail
  refine hK.out _ _ ?_ (fun hHeld => ?_)
  · (((try dsimp only); (repeat' apply And.intro) <;> first | (go_keep; done) | (simp (disch := first | omega | (simp <;> omega) | fail) [*]; done) | fail))
  clear hK K
  try simp only [Act.put, List.setIfInBounds_toArray, List.set_cons_zero, List.set_cons_succ]
  refine wpAnyH_take (i := 4) (by simp only [List.getElem?_toArray, List.getElem?_cons_zero, List.getElem?_cons_succ]; rfl) (by kernel_rfl) (by kernel_rfl) (by kernel_rfl) (by intro _ _ _ h; exact h) (Or.inl ⟨by rfl, fun w hSw => by (dsimp only at hSw; go_simp; (try with_reducible rfl))⟩) (by assumption) ?_
  simp only [Act.put, List.setIfInBounds_toArray, List.set_cons_zero, List.set_cons_succ]
  refine wpAnyH_ready (rs := [5]) (by kernel_rfl) (by simp) ?_
  refine AllReadyH.cons (by simp only [List.getElem?_toArray, List.getElem?_cons_zero, List.getElem?_cons_succ]; rfl) ?_ AllReadyH.nil
  intro K hK
  go_simp
  refine hK.out _ _ ?_ (fun hHeld => ?_)
  · (((try dsimp only); (repeat' apply And.intro) <;> first | (go_keep; done) | (simp (disch := first | omega | (simp <;> omega) | fail) [*]; done) | fail))
  clear hK K
  try simp only [Act.put, List.setIfInBounds_toArray, List.set_cons_zero, List.set_cons_succ]
  refine wpAnyH_take (i := 6) (by simp only [List.getElem?_toArray, List.getElem?_cons_zero, List.getElem?_cons_succ]; rfl) (by kernel_rfl) (by kernel_rfl) (by kernel_rfl) (by intro _ _ _ h; exact h) (Or.inl ⟨by rfl, fun w hSw => by (dsimp only at hSw; go_simp; (try with_reducible rfl))⟩) (by assumption) ?_
  simp only [Act.put, List.setIfInBounds_toArray, List.set_cons_zero, List.set_cons_succ]
  refine wpAnyH_done (by kernel_rfl) ?_ _
  clear hHeld
  cases na with
  | none =>
    obtain rfl : nc = 0 := hnil rfl
    obtain rfl : nn = 0 := by omega
    obtain rfl : N = [] := List.length_eq_zero_iff.1 HNN.out
    have O0 : Hid ((w1.alloc (.cells #[.string u] 9)).ownsRow w1.heap.size 9 1 (.slice (some ⟨w1.heap.size, 0, none⟩) 1 1) 1 [.string u]) := own_oneV w1 u
    have hst : StrsAt (w1.alloc (.cells #[.string u] 9)) (some ⟨w1.heap.size, 0, none⟩) [u] := by
      intro j hj
      have hj0 : j = 0 := by simp at hj; omega
      subst hj0
      exact ⟨w1.heap.size, 0, rfl, by simp, by simp⟩
    have HST : Hid (StrsAt (w1.alloc (.cells #[.string u] 9)) (some ⟨w1.heap.size, 0, none⟩) [u]) := hst
    clear hst
    go_wp2_with (at_builtin; refine wpList_append_own_none rfl _ _ 22 rfl w1.heap.size 9 i0 1 Tryz.underlying22 hti (.slice (some ⟨w1.heap.size, 0, none⟩) 1 1) 1 [.string u] rfl O0.out rfl ?_)
    have hx2 : Below w.heap.size w (w1.alloc (.cells #[.string u] 9)) := hx.alloc hx.size _
    obtain ⟨W2, hW2⟩ : ∃ W, W = w1.alloc (.cells #[.string u] 9) := ⟨_, rfl⟩
    rw [← hW2] at HST hx2 ⊢
    clear hW2 O0
    go_wp2_with fail
    refine (words_any 1 w1.heap.size 0 1 [u] rfl ⟨#[32]⟩ (by decide) _ HST.out (by omega) (by intro x hx; rw [List.mem_singleton] at hx; subst hx; omega) y HY.out).mono ?_
    rintro e w3 ⟨rfl, hw3⟩
    obtain rfl : W2 = w3 := hw3.symm
    go_wp2
    go_ret
    exact ⟨rfl, hx2⟩
  | some ad =>
    have O0 : Hid ((w1.alloc (.cells #[.string u] 9)).ownsRow w1.heap.size 9 1 (.slice (some ⟨w1.heap.size, 0, none⟩) 1 1) 1 [.string u]) := own_oneV w1 u
    have hA : Below w.heap.size w (w1.alloc (.cells #[.string u] 9)) := hx.alloc hx.size _
    have HC0 : Hid (∀ (j : Nat) v, (strV N)[j]? = some v → (w1.alloc (.cells #[.string u] 9)).cell? (ad.add j) = some v) := strs_cells (HN.out.below hA)
    go_wp2_with (at_builtin; refine wpList_append_own _ rfl _ _ 22 rfl w1.heap.size 9 i0 (.string ⟨#[]⟩) 1 16 Tryz.underlying22 hti hz0 hz1 hz2 rfl (by decide) (.slice (some ⟨w1.heap.size, 0, none⟩) 1 1) 1 [.string u] rfl O0.out ad nn nc (strV N) rfl (by rw [strV_length, HNN.out, Nat.mul_one]) HC0.out (one_strs N) (by unfold maxLen; omega) (by omega) (by simp) ?_)
    intro v1 W2 own1 hgrow1 hnn1
    have hvn : v1 ≠ .slice none 0 0 := by first | exact hnn1 | exact fun e => by simp at e hnn1
    have hx2 : Below w.heap.size w W2 := by
      have h1 := hx.size
      exact hA.grown hgrow1 (by simp; omega) (fun kk hkk => Nat.le_trans h1 (O0.out.lt kk hkk).1)
    have O1 : Hid (W2.ownsRow w1.heap.size 9 1 v1 (1 + nn) (strV (u :: N))) := own1
    clear own1 hgrow1 hnn1 O0 HC0 hA
    obtain ⟨g1, c1, rfl, hc1⟩ := own_formV O1.out hvn
    have HST : Hid (StrsAt W2 (some ⟨g1, 0, none⟩) (u :: N)) := by
      have h : StrsAt W2 (some ⟨g1, 0, none⟩) (u :: N) := by
        intro j hj
        refine ⟨g1, 0, rfl, (O1.out.lt g1 rfl).2, ?_⟩
        rw [Nat.zero_add, O1.out.cellAt j (by rw [List.length_cons, HNN.out] at hj; omega)]
        unfold strV
        rw [List.getElem?_map, List.getElem?_eq_getElem hj]; rfl
      exact h
    obtain ⟨m, hm⟩ : ∃ m, 1 + nn = m := ⟨_, rfl⟩
    have HM : Hid (1 + nn = m) := hm
    rw [hm]
    have hm7 : m ≤ 7 := by omega
    have HLM : Hid ((u :: N).length = m) := by
      have h : (u :: N).length = m := by rw [List.length_cons, HNN.out, ← hm, Nat.add_comm]
      exact h
    clear hm hvn O1
    go_wp2_with fail
    refine (words_any m g1 0 c1 (u :: N) HLM.out ⟨#[32]⟩ (by decide) _ HST.out (by omega) (by intro x hx; rcases List.mem_cons.1 hx with rfl | hx; (omega); (have := HSM.out x hx; omega)) y HY.out).mono ?_
    rintro e w3 ⟨rfl, hw3⟩
    obtain rfl : W2 = w3 := hw3.symm
    go_wp2
    go_ret
    exact ⟨rfl, hx2⟩
set_option maxRecDepth 100000 in
set_option maxHeartbeats 2000000 in
theorem show_7 (nm : ByteArray) (na : Option Addr) (nn nc : Nat) (sa : Option Addr) (sn sc : Nat) (dn : Bool) (ct sk : Int) (N : List ByteArray) (hnn : N.length = nn) (w : World) (hN : StrsAt w na N) (hnil : na = none → nc = 0) (hcap : nn ≤ nc) (h6 : nn ≤ 6) (hsm : ∀ x ∈ N, x.size ≤ 6) (y : ByteArray) (hy : (⟨(Lib.join (rawT (wordT8 7 :: N)) [32]).toArray⟩ : ByteArray) = y) :
    Calls Tryz.prog 34 #[.agg #[.int .i64 7, .string nm, .slice na nn nc, .slice sa sn sc, .bool dn, .int .i64 ct, .int .i64 sk]] w fun e w' => e = .returned (.string y) ∧ Below w.heap.size w w' := by
  obtain ⟨i0, hti, hz0, hz1, hz2⟩ := info_parts infoStr
  have HNN : Hid (N.length = nn) := hnn
  have HN : Hid (StrsAt w na N) := hN
  have HY : Hid ((⟨(Lib.join (rawT (wordT8 7 :: N)) [32]).toArray⟩ : ByteArray) = y) := hy
  have HSM : Hid (∀ x ∈ N, x.size ≤ 6) := hsm
  clear hnn hN hy hsm
  have hwr : IntKind.i64.wrap 6 = 6 := by decide
  go_enter Tryz.func34, Tryz.ntmps34
  go_wp2_with fail
  refine wp_region_held_drew (S := (fun w' => w'.cell? ⟨w.heap.size, 0, none⟩ = some (.int .i64 7))) (by kernel_rfl) ?_ (fun hHeld => ?_)
  · (((try dsimp only); (repeat' apply And.intro) <;> first | (go_keep; done) | (simp (disch := first | omega | (simp <;> omega) | fail) [*]; done) | fail))
  refine wpAnyH_take (i := 1) (by simp only [List.getElem?_toArray, List.getElem?_cons_zero, List.getElem?_cons_succ]; rfl) (by kernel_rfl) (by kernel_rfl) (by kernel_rfl) (by intro _ _ _ h; exact h) (Or.inl ⟨by rfl, fun w hSw => by (dsimp only at hSw; go_simp; (try with_reducible rfl))⟩) (by assumption) ?_
  simp only [Act.put, List.setIfInBounds_toArray, List.set_cons_zero, List.set_cons_succ]
  refine wpAnyH_take (i := 2) (by simp only [List.getElem?_toArray, List.getElem?_cons_zero, List.getElem?_cons_succ]; rfl) (by kernel_rfl) (by kernel_rfl) (by kernel_rfl) (by intro _ _ _ h; exact h) (Or.inl ⟨by rfl, fun w hSw => by (dsimp only at hSw; go_simp; (try with_reducible rfl))⟩) (by assumption) ?_
  simp only [Act.put, List.setIfInBounds_toArray, List.set_cons_zero, List.set_cons_succ]
  refine wpAnyH_take (i := 3) (by simp only [List.getElem?_toArray, List.getElem?_cons_zero, List.getElem?_cons_succ]; rfl) (by kernel_rfl) (by kernel_rfl) (by kernel_rfl) (by intro _ _ _ h; exact h) (Or.inl ⟨by rfl, fun w hSw => by (dsimp only at hSw; go_simp; (try with_reducible rfl))⟩) (by assumption) ?_
  simp only [Act.put, List.setIfInBounds_toArray, List.set_cons_zero, List.set_cons_succ]
  refine wpAnyH_ready (rs := [0]) (by kernel_rfl) (by simp) ?_
  refine AllReadyH.cons (by simp only [List.getElem?_toArray, List.getElem?_cons_zero]; rfl) ?_ AllReadyH.nil
  intro K hK
  go_simp
  refine (words10_spec _).mono ?_
  rintro e w1 ⟨g, rfl, hc, hg, hb1⟩
  replace hb1 := undrew hb1
  obtain ⟨p0, p1, p2, p3, p4, p5, p6, hsz⟩ := box7 hb1
  have hx := chainA hb1
  have c := hc 7 (by decide) (by decide)
  change w1.cell? ⟨g, 6, none⟩ = _ at c
  have hu := wordT8_size 7
  generalize wordT8 7 = u at c hu HY
  clear hc hb1
  go_wp2_with fail
  refine hK.out _ _ ?_ (fun hHeld => ?_)
  · (((try dsimp only); (repeat' apply And.intro) <;> first | (go_keep; done) | (simp (disch := first | omega | (simp <;> omega) | fail) [*]; done) | fail))
  clear hK K
  try simp only [Act.put, List.setIfInBounds_toArray, List.set_cons_zero, List.set_cons_succ]
  refine wpAnyH_take (i := 4) (by simp only [List.getElem?_toArray, List.getElem?_cons_zero, List.getElem?_cons_succ]; rfl) (by kernel_rfl) (by kernel_rfl) (by kernel_rfl) (by intro _ _ _ h; exact h) (Or.inl ⟨by rfl, fun w hSw => by (dsimp only at hSw; go_simp; (try with_reducible rfl))⟩) (by assumption) ?_
  simp only [Act.put, List.setIfInBounds_toArray, List.set_cons_zero, List.set_cons_succ]
  refine wpAnyH_ready (rs := [5]) (by kernel_rfl) (by simp) ?_
  refine AllReadyH.cons (by simp only [List.getElem?_toArray, List.getElem?_cons_zero, List.getElem?_cons_succ]; rfl) ?_ AllReadyH.nil
  intro K hK
  go_simp
  refine hK.out _ _ ?_ (fun hHeld => ?_)
  · (((try dsimp only); (repeat' apply And.intro) <;> first | (go_keep; done) | (simp (disch := first | omega | (simp <;> omega) | fail) [*]; done) | fail))
  clear hK K
  try simp only [Act.put, List.setIfInBounds_toArray, List.set_cons_zero, List.set_cons_succ]
  refine wpAnyH_take (i := 6) (by simp only [List.getElem?_toArray, List.getElem?_cons_zero, List.getElem?_cons_succ]; rfl) (by kernel_rfl) (by kernel_rfl) (by kernel_rfl) (by intro _ _ _ h; exact h) (Or.inl ⟨by rfl, fun w hSw => by (dsimp only at hSw; go_simp; (try with_reducible rfl))⟩) (by assumption) ?_
  simp only [Act.put, List.setIfInBounds_toArray, List.set_cons_zero, List.set_cons_succ]
  refine wpAnyH_done (by kernel_rfl) ?_ _
  clear hHeld
  cases na with
  | none =>
    obtain rfl : nc = 0 := hnil rfl
    obtain rfl : nn = 0 := by omega
    obtain rfl : N = [] := List.length_eq_zero_iff.1 HNN.out
    have O0 : Hid ((w1.alloc (.cells #[.string u] 9)).ownsRow w1.heap.size 9 1 (.slice (some ⟨w1.heap.size, 0, none⟩) 1 1) 1 [.string u]) := own_oneV w1 u
    have hst : StrsAt (w1.alloc (.cells #[.string u] 9)) (some ⟨w1.heap.size, 0, none⟩) [u] := by
      intro j hj
      have hj0 : j = 0 := by simp at hj; omega
      subst hj0
      exact ⟨w1.heap.size, 0, rfl, by simp, by simp⟩
    have HST : Hid (StrsAt (w1.alloc (.cells #[.string u] 9)) (some ⟨w1.heap.size, 0, none⟩) [u]) := hst
    clear hst
    go_wp2_with (at_builtin; refine wpList_append_own_none rfl _ _ 22 rfl w1.heap.size 9 i0 1 Tryz.underlying22 hti (.slice (some ⟨w1.heap.size, 0, none⟩) 1 1) 1 [.string u] rfl O0.out rfl ?_)
    have hx2 : Below w.heap.size w (w1.alloc (.cells #[.string u] 9)) := hx.alloc hx.size _
    obtain ⟨W2, hW2⟩ : ∃ W, W = w1.alloc (.cells #[.string u] 9) := ⟨_, rfl⟩
    rw [← hW2] at HST hx2 ⊢
    clear hW2 O0
    go_wp2_with fail
    refine (words_any 1 w1.heap.size 0 1 [u] rfl ⟨#[32]⟩ (by decide) _ HST.out (by omega) (by intro x hx; rw [List.mem_singleton] at hx; subst hx; omega) y HY.out).mono ?_
    rintro e w3 ⟨rfl, hw3⟩
    obtain rfl : W2 = w3 := hw3.symm
    go_wp2
    go_ret
    exact ⟨rfl, hx2⟩
  | some ad =>
    have O0 : Hid ((w1.alloc (.cells #[.string u] 9)).ownsRow w1.heap.size 9 1 (.slice (some ⟨w1.heap.size, 0, none⟩) 1 1) 1 [.string u]) := own_oneV w1 u
    have hA : Below w.heap.size w (w1.alloc (.cells #[.string u] 9)) := hx.alloc hx.size _
    have HC0 : Hid (∀ (j : Nat) v, (strV N)[j]? = some v → (w1.alloc (.cells #[.string u] 9)).cell? (ad.add j) = some v) := strs_cells (HN.out.below hA)
    go_wp2_with (at_builtin; refine wpList_append_own _ rfl _ _ 22 rfl w1.heap.size 9 i0 (.string ⟨#[]⟩) 1 16 Tryz.underlying22 hti hz0 hz1 hz2 rfl (by decide) (.slice (some ⟨w1.heap.size, 0, none⟩) 1 1) 1 [.string u] rfl O0.out ad nn nc (strV N) rfl (by rw [strV_length, HNN.out, Nat.mul_one]) HC0.out (one_strs N) (by unfold maxLen; omega) (by omega) (by simp) ?_)
    intro v1 W2 own1 hgrow1 hnn1
    have hvn : v1 ≠ .slice none 0 0 := by first | exact hnn1 | exact fun e => by simp at e hnn1
    have hx2 : Below w.heap.size w W2 := by
      have h1 := hx.size
      exact hA.grown hgrow1 (by simp; omega) (fun kk hkk => Nat.le_trans h1 (O0.out.lt kk hkk).1)
    have O1 : Hid (W2.ownsRow w1.heap.size 9 1 v1 (1 + nn) (strV (u :: N))) := own1
    clear own1 hgrow1 hnn1 O0 HC0 hA
    obtain ⟨g1, c1, rfl, hc1⟩ := own_formV O1.out hvn
    have HST : Hid (StrsAt W2 (some ⟨g1, 0, none⟩) (u :: N)) := by
      have h : StrsAt W2 (some ⟨g1, 0, none⟩) (u :: N) := by
        intro j hj
        refine ⟨g1, 0, rfl, (O1.out.lt g1 rfl).2, ?_⟩
        rw [Nat.zero_add, O1.out.cellAt j (by rw [List.length_cons, HNN.out] at hj; omega)]
        unfold strV
        rw [List.getElem?_map, List.getElem?_eq_getElem hj]; rfl
      exact h
    obtain ⟨m, hm⟩ : ∃ m, 1 + nn = m := ⟨_, rfl⟩
    have HM : Hid (1 + nn = m) := hm
    rw [hm]
    have hm7 : m ≤ 7 := by omega
    have HLM : Hid ((u :: N).length = m) := by
      have h : (u :: N).length = m := by rw [List.length_cons, HNN.out, ← hm, Nat.add_comm]
      exact h
    clear hm hvn O1
    go_wp2_with fail
    refine (words_any m g1 0 c1 (u :: N) HLM.out ⟨#[32]⟩ (by decide) _ HST.out (by omega) (by intro x hx; rcases List.mem_cons.1 hx with rfl | hx; (omega); (have := HSM.out x hx; omega)) y HY.out).mono ?_
    rintro e w3 ⟨rfl, hw3⟩
    obtain rfl : W2 = w3 := hw3.symm
    go_wp2
    go_ret
    exact ⟨rfl, hx2⟩
theorem sieve_parts {k : Int} {nm : ByteArray} {N : List ByteArray} {S : List TI} {dn : Bool} {ct sk : Int} (h : sieveB ⟨k, nm, N, S, dn, ct, sk⟩ = true) :
    (nameS k = true → nameK nm = true) ∧ (sumS k = true → sumB S = true) ∧ (listS k = true → N.all nameK = true) ∧ (k = 9 → in1000 ct = true ∧ in1000 sk = true) := by
  rcases sieve_kind h with e | e | e | e | e | e | e | e | e | e <;> (dsimp only at e; subst e; simp [sieveB, bareB, nameS, sumS, listS, names10] at h ⊢)
  all_goals first | (exact h.2.2.2) | (exact h.2.2) | (exact h.2) | (exact ⟨h.2.2.2.1, h.2.2.2.2⟩) | (simp_all)
theorem bytes_of {x y : ByteArray} (h : x.data.toList = y.data.toList) : x = y := bytes_ext h
theorem show_spec (kd : Int) (nm : ByteArray) (na : Option Addr) (nn nc : Nat) (N : List ByteArray) (hnn : N.length = nn) (sa : Option Addr) (sn sc : Nat) (S : List TI) (hsn : S.length = sn) (dn : Bool) (ct sk : Int) (w : World) (ht : SivAt w na nc sa ⟨kd, nm, N, S, dn, ct, sk⟩) (hok : sieveB ⟨kd, nm, N, S, dn, ct, sk⟩ = true) (z : ByteArray) (hz : showB8 ⟨kd, nm, N, S, dn, ct, sk⟩ = z) :
    Calls Tryz.prog 34 #[.agg #[.int .i64 kd, .string nm, .slice na nn nc, .slice sa sn sc, .bool dn, .int .i64 ct, .int .i64 sk]] w fun e w' => e = .returned (.string z) ∧ Below w.heap.size w w' := by
  obtain ⟨h1, h2, h3, h4⟩ := sieve_parts hok
  have hn6 : nn ≤ 6 := by rw [← hnn]; exact sieve_names_len hok
  have hcap : nn ≤ nc := by rw [← hnn]; exact ht.capN
  rcases sieve_kind hok with e | e | e | e | e | e | e | e | e | e <;> (dsimp only at e; subst e)
  · exact show_1 nm na nn nc sa sn sc dn ct sk w (name_len (h1 rfl)) z (by rw [← hz]; refine bytes_of ?_; simp [showB8, showS, wordT8])
  · exact show_2 nm na nn nc sa sn sc dn ct sk S hsn w ht.sum ht.fitI (h2 rfl) _ rfl z (by rw [← hz]; refine bytes_of ?_; simp [showB8, showS, wordT8, sumL])
  · exact show_3 nm na nn nc sa sn sc dn ct sk S hsn w ht.sum ht.fitI (h2 rfl) _ rfl (name_len (h1 rfl)) z (by rw [← hz]; refine bytes_of ?_; simp [showB8, showS, wordT8, sumL])
  · exact show_4 nm na nn nc sa sn sc dn ct sk N hnn w ht.names ht.nilN hcap hn6 (fun x hx => name_len (List.all_eq_true.1 (h3 rfl) x hx)) z (by rw [← hz]; refine bytes_of ?_; simp [showB8, showS, wordT8, rawT])
  · exact show_5 nm na nn nc sa sn sc dn ct sk S hsn w ht.sum ht.fitI (h2 rfl) _ rfl (name_len (h1 rfl)) z (by rw [← hz]; refine bytes_of ?_; simp [showB8, showS, wordT8, sumL])
  · exact show_6 nm na nn nc sa sn sc dn ct sk S hsn w ht.sum ht.fitI (h2 rfl) _ rfl (name_len (h1 rfl)) z (by rw [← hz]; refine bytes_of ?_; simp [showB8, showS, wordT8, sumL])
  · exact show_7 nm na nn nc sa sn sc dn ct sk N hnn w ht.names ht.nilN hcap hn6 (fun x hx => name_len (List.all_eq_true.1 (h3 rfl) x hx)) z (by rw [← hz]; refine bytes_of ?_; simp [showB8, showS, wordT8, rawT])
  · cases dn
    · exact show_8f nm na nn nc sa sn sc ct sk w (name_len (h1 rfl)) z (by rw [← hz]; refine bytes_of ?_; simp [showB8, showS, wordT8])
    · exact show_8t nm na nn nc sa sn sc ct sk w (name_len (h1 rfl)) z (by rw [← hz]; refine bytes_of ?_; simp [showB8, showS, wordT8])
  · exact show_9 nm na nn nc sa sn sc dn ct sk w (h4 rfl).1 (h4 rfl).2 z (by rw [← hz]; refine bytes_of ?_; simp [showB8, showS, wordT8, numT])
  · exact show_10 nm na nn nc sa sn sc dn ct sk w z (by rw [← hz]; refine bytes_of ?_; simp [showB8, showS, wordT8])
set_option maxRecDepth 100000 in
set_option maxHeartbeats 4000000 in
theorem showask_spec (a : Option Addr) (cap : Nat) (T : List SV) (n : Nat) (hn : T.length = n) (w : World) (hrow : SivsAt w a T) (hm : n ≤ maxLen) (y : ByteArray) (hy : askT T = y) :
    Calls Tryz.prog 17 #[.slice a n cap] w fun e w' => e = .returned (.string y) ∧ Below w.heap.size w w' := by
  obtain ⟨i0, hti, hz0, hz1, hz2⟩ := info_parts infoStr
  have HR : Hid (SivsAt w a T) := hrow
  have HN : Hid (T.length = n) := hn
  obtain ⟨b, hb⟩ : ∃ b, askB T = b := ⟨_, rfl⟩
  have HB : Hid (askB T = b) := hb
  have HY : Hid (askT T = y) := hy
  clear hrow hn hb hy
  cases b
  · obtain rfl : y = ⟨#[]⟩ := by rw [← HY.out]; unfold askT; rw [HB.out]; rfl
    go_enter Tryz.func17, Tryz.ntmps17
    go_wp2_with fail
    refine (ask_spec a cap T n HN.out _ HR.out hm false HB.out).mono ?_
    rintro e w1 ⟨rfl, hb1⟩
    go_wp2
    go_ret
    exact ⟨rfl, hb1⟩
  obtain ⟨hall, hn1, hn8⟩ := ask_all HB.out
  rw [HN.out] at hn1 hn8
  have HAL : Hid (∀ i (hi : i < T.length), sieveB T[i] = true) := hall
  have HJ : Hid ((⟨(Lib.join (rawT (textsV T)) [32, 124, 32]).toArray⟩ : ByteArray) = y) := by
    have h : (⟨(Lib.join (rawT (textsV T)) [32, 124, 32]).toArray⟩ : ByteArray) = y := by rw [← HY.out, askT_yes HB.out]
    exact h
  have HSZ : Hid (∀ x ∈ textsV T, x.size ≤ 1000) := by
    have h : ∀ x ∈ textsV T, x.size ≤ 1000 := by
      intro x hx
      unfold textsV at hx
      obtain ⟨s, hs, rfl⟩ := List.mem_map.1 hx
      obtain ⟨i, hi, rfl⟩ := List.mem_iff_getElem.1 hs
      have := showS_len _ (hall i hi)
      rw [Lib.size_eq]
      show (showS T[i]).length ≤ 1000
      omega
    exact h
  clear hall HY
  go_enter Tryz.func17, Tryz.ntmps17
  go_wp2_with fail
  refine (ask_spec a cap T n HN.out _ HR.out hm true HB.out).mono ?_
  rintro e w1 ⟨rfl, hb1⟩
  go_wp2
  have own0 : Hid ((w1.alloc (.cells #[] 9)).ownsRow w1.heap.size 9 1 (.slice (some ⟨w1.heap.size, 0, none⟩) 0 0) 0 (strV (textsV (T.take 0)))) :=
    ⟨rfl, .inr ⟨w1.heap.size, 0, #[], rfl, Nat.le_refl _, by show (w1.heap.push _)[w1.heap.size]? = _; simp, Nat.le_refl _, by unfold maxLen; omega, rfl, rfl⟩⟩
  have hbs0 : Below w.heap.size w (w1.alloc (.cells #[] 9)) := hb1.alloc hb1.size _
  have HW1 : Hid (w.heap.size ≤ w1.heap.size) := hb1.size
  clear hb1
  go_loopw [3, 4] (fun v kk wr => ∃ k : Nat, k ≤ n ∧ kk = .int .i64 k ∧ Hid (wr.ownsRow w1.heap.size 9 1 v k (strV (textsV (T.take k)))) ∧ Below w.heap.size w wr ∧ w1.heap.size ≤ wr.heap.size ∧ v ≠ .slice none 0 0) (fun _ kk _ => n - (intOf kk).toNat)
  case atStart => exact ⟨0, Nat.zero_le _, rfl, own0, hbs0, Nat.le_of_lt (own0.out.lt _ rfl).2, by simp⟩
  case round =>
    obtain ⟨k, hk, rfl, hO, hbw, hsz, hvn⟩ := hrel
    by_cases hlt : k < n
    · have hlk : k < T.length := by rw [HN.out]; exact hlt
      obtain ⟨g, o, na, nc, sa, sc, rfl, hgw, ⟨c0, c1, c2, c3, c4, c5, c6⟩, ht⟩ := HR.out.below hbw k hlk
      have hi0 : (0 : Int) ≤ (k : Int) := by omega
      have hi1 : (k : Int) < (n : Int) := by omega
      have hok := HAL.out k hlk
      have hst := textsV_take T k hlk
      generalize T[k] = s at c0 c1 c2 c3 c4 c5 c6 ht hok hst
      obtain ⟨kd, nm, N, S, dn, ct, sk⟩ := s
      dsimp only at c0 c1 c2 c3 c4 c5 c6
      obtain ⟨nn, hnn⟩ : ∃ m, N.length = m := ⟨_, rfl⟩
      obtain ⟨sn, hsn⟩ : ∃ m, S.length = m := ⟨_, rfl⟩
      rw [hnn] at c2
      rw [hsn] at c3
      obtain ⟨z, hz⟩ : ∃ z, showB8 ⟨kd, nm, N, S, dn, ct, sk⟩ = z := ⟨_, rfl⟩
      rw [hz] at hst
      have HST : Hid (textsV (T.take (k + 1)) = textsV (T.take k) ++ [z]) := hst
      have C : Hid (∀ w', Below wr.heap.size wr w' → Calls Tryz.prog 34 #[.agg #[.int .i64 kd, .string nm, .slice na nn nc, .slice sa sn sc, .bool dn, .int .i64 ct, .int .i64 sk]] w' fun e w'' => e = .returned (.string z) ∧ Below w'.heap.size w' w'') :=
        fun w' hw => show_spec kd nm na nn nc N hnn sa sn sc S hsn dn ct sk w' (ht.below hw) hok z hz
      have HLN : Hid ((textsV (T.take k)).length = k) := by
        have h : (textsV (T.take k)).length = k := by rw [textsV_len, List.length_take]; omega
        exact h
      clear hst hz ht hok hnn hsn hlk
      go_wp2_with fail
      refine (C.out _ (Below.refl _ _)).mono ?_
      rintro e w3 ⟨rfl, hx3⟩
      have O3 : Hid (w3.ownsRow w1.heap.size 9 1 u3 k (strV (textsV (T.take k)))) := own_below hO.out hx3
      have hs3 : w1.heap.size ≤ w3.heap.size := Nat.le_trans hsz hx3.size
      have hbx3 : Below w.heap.size w w3 := chain hbw hx3
      clear hx3 hO c0 c1 c2 c3 c4 c5 c6
      go_wp2_with (at_builtin; refine wpList_append_own _ rfl _ _ 22 rfl w1.heap.size 9 i0 (.string ⟨#[]⟩) 1 16 Tryz.underlying22 hti hz0 hz1 hz2 rfl (by decide) u3 k (strV (textsV (T.take k))) rfl (O3.out.alloc _) ⟨w3.heap.size, 0, none⟩ 1 1 [.string z] rfl rfl (one_cells w3 z) (by intro u hu; simp at hu; subst hu; rfl) (by unfold maxLen; omega) (by omega) (by simp; omega) ?_)
      intro v' w4 own4 hgrow4 hnn4
      have hvn4 : v' ≠ .slice none 0 0 := by first | exact hnn4 | exact fun e => hvn (hnn4.1 e).1
      have hx4 : Below w.heap.size w w4 := by
        have hw1 := HW1.out
        exact (hbx3.alloc hbx3.size _).grown hgrow4 (by have := hbx3.size; simp; omega) (fun kk hkk => Nat.le_trans hw1 (O3.out.lt kk hkk).1)
      have O4 : Hid (w4.ownsRow w1.heap.size 9 1 v' (k + 1) (strV (textsV (T.take (k + 1))))) := by
        have h : w4.ownsRow w1.heap.size 9 1 v' (k + 1) (strV (textsV (T.take (k + 1)))) := by
          rw [HST.out, show strV (textsV (T.take k) ++ [z]) = strV (textsV (T.take k)) ++ [.string z] from List.map_append]
          exact own4
        exact h
      have hs4 : w1.heap.size ≤ w4.heap.size := by
        obtain ⟨g4, c4, e4, _⟩ := own_formV O4.out hvn4
        subst e4
        have := O4.out.lt g4 rfl
        omega
      clear own4 hgrow4 hnn4 O3 hbx3 hs3
      go_wp2
      go_roundw
      case rel => exact ⟨k + 1, by omega, by go_num, O4, hx4, hs4, hvn4⟩
      case measure => simp [intOf]; omega
    · have hkl : k = n := by omega
      subst hkl
      have hi1 : ¬ (k : Int) < (k : Int) := by omega
      have HTK : Hid (T.take k = T) := List.take_of_length_le (by rw [HN.out]; exact Nat.le_refl _)
      obtain ⟨gp, cp, hvp, hcp⟩ := own_formV hO.out hvn
      subst hvp
      have HST : Hid (StrsAt wr (some ⟨gp, 0, none⟩) (textsV T)) := by
        have h := hO.out
        rw [HTK.out] at h
        have h2 : StrsAt wr (some ⟨gp, 0, none⟩) (textsV T) := by
          intro j hj
          refine ⟨gp, 0, rfl, (h.lt gp rfl).2, ?_⟩
          rw [Nat.zero_add, h.cellAt j (by rw [textsV_len, HN.out] at hj; omega)]
          unfold strV
          rw [List.getElem?_map, List.getElem?_eq_getElem hj]; rfl
        exact h2
      clear hO hvn HTK
      go_wp2_with fail
      refine (words_any k gp 0 cp (textsV T) (by rw [textsV_len]; exact HN.out) ⟨#[32, 124, 32]⟩ (by decide) _ HST.out (by omega) HSZ.out y HJ.out).mono ?_
      rintro e w3 ⟨rfl, hw3⟩
      obtain rfl : wr = w3 := hw3.symm
      go_wp2
      go_ret
      exact ⟨rfl, hbw⟩
end Go.Proofs.YtmmandkellhbeaaGreatDoor

/-
  Tables: how a table lies in memory, what a right one is, without any program, and the contract of the model's TableOk.
-/
namespace Go.Proofs.YtmmandkellhbeaaGreatDoor
open Go.ChangeShapes Go.WideShapes Go.ChangeAt Go.RowKit
attribute [local go_sem ↓] Go.wp_at_zero Go.wp_at_succ
attribute [local simp] World.cell?_alloc_past World.cell?_alloc_at World.frozen?_alloc_at cell_far cell_off cell_here World.frozen?_alloc_past

/-- A table: its name, its columns, its rows. -/
abbrev TB := ByteArray × List ByteArray × List (List CT)
/-- The columns and rows of a table lie where it says. -/
structure TabAt (w : World) (ca : Option Addr) (cc : Nat) (ra : Option Addr) (t : TB) : Prop where
  cols : StrsAt w ca t.2.1
  fit : FitS t.2.1
  len : t.2.1.length ≤ maxLen
  cap : t.2.1.length ≤ cc
  nilC : ca = none → cc = 0
  rows : RowsAt w ra t.2.2
  lenR : t.2.2.length ≤ maxLen
  name : t.1.size ≤ maxLen
theorem TabAt.below {w w' : World} {ca : Option Addr} {cc : Nat} {ra : Option Addr} {t : TB} (h : TabAt w ca cc ra t) (hb : Below w.heap.size w w') : TabAt w' ca cc ra t :=
  ⟨h.cols.below hb, h.fit, h.len, h.cap, h.nilC, h.rows.below hb, h.lenR, h.name⟩

def rowOk (n : Nat) (r : List CT) : Bool := decide (r.length = n) && r.all okC
/-- Is it a right table? -/
def tableB (t : TB) : Bool := (nameB t.1 && (namesB t.2.1 1 6 && decide (t.2.2.length ≤ 60))) && t.2.2.all (rowOk t.2.1.length)

end Go.Proofs.YtmmandkellhbeaaGreatDoor

/-
  A law's argument that is a slice of texts, or a table, opened: which one it is, and where it lies.
-/
namespace Go.Proofs.YtmmandkellhbeaaGreatDoor
open Go.ChangeShapes Go.WideShapes Go.ChangeAt Go.RowKit Go.Deep Go.Joins

theorem open_strs {H : Type} {enc : TypeId × Value → H} {P : Program} {w : World} {base : Nat} {spare : Nat → Bool} {held : Bool} {t e : TypeId} {fuel : Nat} {a : Option Addr} {len cap : Nat} {x : DataW H × List MemPlace}
    (ht : P.underlying t = some (.slice e)) (he : P.underlying e = some .string) (ce : P.cellsOf e = 1)
    (h : DataW.trod enc P w base spare held fuel t [.slice a len cap] = some x) :
    ∃ l : List ByteArray, l.length = len ∧ StrsAt w a l ∧ FitS l ∧ len ≤ maxLen ∧ len ≤ cap ∧ (a = none → cap = 0) := by
  rcases open_slice ht h with ⟨h0, _⟩ | ⟨ad, len', cap', m, n, D, Pl, hcs, hb, hl, hm, hmm, _, hx⟩
  · simp at h0
    obtain ⟨rfl, rfl, rfl⟩ := h0
    exact ⟨[], rfl, fun j hj => by simp at hj, fun j hj => by simp at hj, by unfold maxLen; omega, Nat.le_refl _, fun _ => rfl⟩
  simp at hcs
  obtain ⟨rfl, rfl, rfl⟩ := hcs
  have hlm : len ≤ m := by rw [hmm]; split <;> omega
  have each : ∀ i, i < len → ∃ q : ByteArray, w.cell? (ad.add i) = some (.string q) ∧ q.size ≤ maxLen := by
    intro i hi
    obtain ⟨cs', h1, h2⟩ := hx i (by omega)
    rw [ce, Nat.mul_one] at h1
    obtain ⟨_, hlen, hcell⟩ := World.cells?_some h1
    match cs', hlen with
    | [v], _ =>
      have e0 := hcell 0 (by omega)
      rw [add_add] at e0
      obtain ⟨s0, es, _, hs⟩ := DataW.trod_string he h2
      simp at es
      subst es
      exact ⟨s0, by simpa using e0, hs⟩
  obtain ⟨q, hq⟩ := choose_lt each
  have spot : 0 < len → ad.spot = none := by
    intro h0
    obtain ⟨e0, _⟩ := hq 0 h0
    simpa [Addr.add] using World.cell?_spot e0
  refine ⟨(List.range len).map q, by simp, ?_, ?_, by omega, by omega, fun h => by cases h⟩
  · intro j hj
    have hj' : j < len := by simpa using hj
    obtain ⟨b, o, sp⟩ := ad
    have hsp := spot (by omega)
    simp at hsp
    subst hsp
    obtain ⟨e0, _⟩ := hq j hj'
    have hadd : ((⟨b, o, none⟩ : Addr).add j) = ⟨b, o + j, none⟩ := by
      unfold Addr.add
      by_cases hq : j = 0 <;> simp [hq]
    rw [hadd] at e0
    refine ⟨b, o, rfl, World.block_lt_of_cell? w _ e0, ?_⟩
    simpa using e0
  · intro j hj
    have hj' : j < len := by simpa using hj
    simpa using (hq j hj').2

end Go.Proofs.YtmmandkellhbeaaGreatDoor

/-
  A law's argument that is a sieve, or a slice of sieves, opened: which they are, and where they lie.
-/
namespace Go.Proofs.YtmmandkellhbeaaGreatDoor
open Go.ChangeShapes Go.WideShapes Go.ChangeAt Go.RowKit Go.Deep Go.Joins

theorem cellsSiv : Tryz.prog.cellsOf 25 = 7 := by kernel_rfl
theorem array7 {cs : Array Value} (h : cs.size = 7) : ∃ a b c d e f g, cs = #[a, b, c, d, e, f, g] := by
  obtain ⟨l⟩ := cs
  match l, h with
  | [a, b, c, d, e, f, g], _ => exact ⟨a, b, c, d, e, f, g, rfl⟩
set_option maxRecDepth 100000 in
theorem open_sieve {H : Type} {enc : TypeId × Value → H} {w : World} {r : _root_.Go.Reach} {b0 base : Nat} {spare : Nat → Bool} {held : Bool} {v : Value} {d : DataW H} {p : List MemPlace}
    (hv : Value.okWide Tryz.prog w r b0 25 v) (h : DataW.Trod enc Tryz.prog w base spare held 25 v d p) :
    ∃ (q : SV) (nn sn : Nat) (na : Option Addr) (nc : Nat) (sa : Option Addr) (sc : Nat), v = .agg #[.int .i64 q.kind, .string q.name, .slice na nn nc, .slice sa sn sc, .bool q.down, .int .i64 q.count, .int .i64 q.skip] ∧ q.names.length = nn ∧ q.sum.length = sn ∧ SivAt w na nc sa q := by
  have he := Tryz.underlying25
  obtain ⟨cs, rfl, hsz⟩ := okWide_struct he hv
  obtain ⟨w0, w1, w2, w3, w4, w5, w6, rfl⟩ := array7 (hsz.trans (by kernel_rfl))
  obtain ⟨fuel, hf⟩ := h
  obtain ⟨xs, k, hk, hxy, _, hxl, hf⟩ := DataW.trod_struct he hf
  match xs, hxl with
  | [y0, y1, y2, y3, y4, y5, y6], _ =>
      have q0 := hf 0 _ rfl
      have q1 := hf 1 _ rfl
      have q2 := hf 2 _ rfl
      have q3 := hf 3 _ rfl
      have q4 := hf 4 _ rfl
      have q5 := hf 5 _ rfl
      have q6 := hf 6 _ rfl
      have k0 : Tryz.prog.cellsOf 2 = 1 := by kernel_rfl
      have k1 : Tryz.prog.cellsOf 9 = 1 := by kernel_rfl
      have k2 : Tryz.prog.cellsOf 22 = 1 := by kernel_rfl
      have k3 : Tryz.prog.cellsOf 23 = 1 := by kernel_rfl
      have k4 : Tryz.prog.cellsOf 4 = 1 := by kernel_rfl
      simp [Value.cells, k0, k1, k2, k3, k4] at q0 q1 q2 q3 q4 q5 q6
      clear k0 k1 k2 k3 k4
      obtain ⟨k0, ek0, _, _⟩ := DataW.trod_int Tryz.underlying2 q0
      obtain ⟨nm, enm, _, hnm⟩ := DataW.trod_string Tryz.underlying9 q1
      obtain ⟨dn, edn, _⟩ := DataW.trod_bool Tryz.underlying4 q4
      obtain ⟨ct, ect, _, _⟩ := DataW.trod_int Tryz.underlying2 q5
      obtain ⟨sk, esk, _, _⟩ := DataW.trod_int Tryz.underlying2 q6
      simp at ek0 enm edn ect esk
      subst ek0 enm edn ect esk
      obtain ⟨na, nn, nc, rfl⟩ : ∃ ai li ci, w2 = .slice ai li ci := by
        rcases open_slice Tryz.underlying22 q2 with ⟨hv, _⟩ | ⟨a', l', c', _, _, _, _, hv, _⟩
        · simp at hv; exact ⟨_, _, _, hv⟩
        · simp at hv; exact ⟨_, _, _, hv⟩
      obtain ⟨sa, sn, sc, rfl⟩ : ∃ ai li ci, w3 = .slice ai li ci := by
        rcases open_slice Tryz.underlying23 q3 with ⟨hv, _⟩ | ⟨a', l', c', _, _, _, _, hv, _⟩
        · simp at hv; exact ⟨_, _, _, hv⟩
        · simp at hv; exact ⟨_, _, _, hv⟩
      obtain ⟨N, hN, hs, hft, hlc, hcap, hnil⟩ := open_strs Tryz.underlying22 Tryz.underlying9 (by kernel_rfl) q2
      obtain ⟨S, hS, hK, hF, hM, _⟩ := open_itms Tryz.underlying23 Tryz.underlying75 Tryz.underlying73 (by kernel_rfl) rfl rfl rfl rfl rfl rfl (by kernel_rfl) (by kernel_rfl) (by kernel_rfl) (by kernel_rfl) (by kernel_rfl) (by kernel_rfl) Tryz.underlying2 Tryz.underlying9 Tryz.underlying2 Tryz.underlying2 Tryz.underlying9 q3
      subst hN hS
      exact ⟨⟨k0, nm, N, S, dn, ct, sk⟩, _, _, na, nc, sa, sc, rfl, rfl, rfl, hs, hft, hlc, hcap, hnil, hK, hF, hM, hnm⟩
set_option maxRecDepth 100000 in
theorem open_sieves {H : Type} {enc : TypeId × Value → H} {w : World} {base : Nat} {spare : Nat → Bool} {held : Bool} {fuel : Nat} {a : Option Addr} {len cap : Nat} {x : DataW H × List MemPlace}
    (h : DataW.trod enc Tryz.prog w base spare held fuel 34 [.slice a len cap] = some x) :
    ∃ T : List SV, T.length = len ∧ SivsAt w a T ∧ len ≤ maxLen ∧ len ≤ cap ∧ (a = none → cap = 0) := by
  rcases open_slice Tryz.underlying34 h with ⟨h0, _⟩ | ⟨ad, len', cap', m, n, D, Pl, hcs, hb, hl, hm, hmm, _, hx⟩
  · simp at h0
    obtain ⟨rfl, rfl, rfl⟩ := h0
    exact ⟨[], rfl, fun j hj => by simp at hj, by unfold maxLen; omega, Nat.le_refl _, fun _ => rfl⟩
  simp at hcs
  obtain ⟨rfl, rfl, rfl⟩ := hcs
  have hlm : len ≤ m := by rw [hmm]; split <;> omega
  have each : ∀ i, i < len → ∃ q : SV, ∃ na nc sa sc, (w.cell? (ad.add (i * 7)) = some (.int .i64 q.kind) ∧ w.cell? (ad.add (i * 7 + 1)) = some (.string q.name) ∧ w.cell? (ad.add (i * 7 + 2)) = some (.slice na q.names.length nc) ∧ w.cell? (ad.add (i * 7 + 3)) = some (.slice sa q.sum.length sc) ∧ w.cell? (ad.add (i * 7 + 4)) = some (.bool q.down) ∧ w.cell? (ad.add (i * 7 + 5)) = some (.int .i64 q.count) ∧ w.cell? (ad.add (i * 7 + 6)) = some (.int .i64 q.skip)) ∧ SivAt w na nc sa q := by
    intro i hi
    obtain ⟨cs', h1, h2⟩ := hx i (by omega)
    rw [cellsSiv] at h1
    obtain ⟨_, hlen, hcell⟩ := World.cells?_some h1
    obtain ⟨xs, k, hk, hxy, _, hxl, hf⟩ := DataW.trod_struct Tryz.underlying25 h2
    match xs, hxl, cs', hlen with
    | [y0, y1, y2, y3, y4, y5, y6], _, [w0, w1, w2, w3, w4, w5, w6], _ =>
      have q0 := hf 0 _ rfl
      have q1 := hf 1 _ rfl
      have q2 := hf 2 _ rfl
      have q3 := hf 3 _ rfl
      have q4 := hf 4 _ rfl
      have q5 := hf 5 _ rfl
      have q6 := hf 6 _ rfl
      have k0 : Tryz.prog.cellsOf 2 = 1 := by kernel_rfl
      have k1 : Tryz.prog.cellsOf 9 = 1 := by kernel_rfl
      have k2 : Tryz.prog.cellsOf 22 = 1 := by kernel_rfl
      have k3 : Tryz.prog.cellsOf 23 = 1 := by kernel_rfl
      have k4 : Tryz.prog.cellsOf 4 = 1 := by kernel_rfl
      simp [k0, k1, k2, k3, k4] at q0 q1 q2 q3 q4 q5 q6
      clear k0 k1 k2 k3 k4
      have e0 := hcell 0 (by omega)
      have e1 := hcell 1 (by omega)
      have e2 := hcell 2 (by omega)
      have e3 := hcell 3 (by omega)
      have e4 := hcell 4 (by omega)
      have e5 := hcell 5 (by omega)
      have e6 := hcell 6 (by omega)
      rw [add_add] at e0 e1 e2 e3 e4 e5 e6
      obtain ⟨k0, ek0, _, _⟩ := DataW.trod_int Tryz.underlying2 q0
      obtain ⟨nm, enm, _, hnm⟩ := DataW.trod_string Tryz.underlying9 q1
      obtain ⟨dn, edn, _⟩ := DataW.trod_bool Tryz.underlying4 q4
      obtain ⟨ct, ect, _, _⟩ := DataW.trod_int Tryz.underlying2 q5
      obtain ⟨sk, esk, _, _⟩ := DataW.trod_int Tryz.underlying2 q6
      simp at ek0 enm edn ect esk
      subst ek0 enm edn ect esk
      obtain ⟨na, nn, nc, rfl⟩ : ∃ ai li ci, w2 = .slice ai li ci := by
        rcases open_slice Tryz.underlying22 q2 with ⟨hv, _⟩ | ⟨a', l', c', _, _, _, _, hv, _⟩
        · simp at hv; exact ⟨_, _, _, hv⟩
        · simp at hv; exact ⟨_, _, _, hv⟩
      obtain ⟨sa, sn, sc, rfl⟩ : ∃ ai li ci, w3 = .slice ai li ci := by
        rcases open_slice Tryz.underlying23 q3 with ⟨hv, _⟩ | ⟨a', l', c', _, _, _, _, hv, _⟩
        · simp at hv; exact ⟨_, _, _, hv⟩
        · simp at hv; exact ⟨_, _, _, hv⟩
      obtain ⟨N, hN, hs, hft, hlc, hcap, hnil⟩ := open_strs Tryz.underlying22 Tryz.underlying9 (by kernel_rfl) q2
      obtain ⟨S, hS, hK, hF, hM, _⟩ := open_itms Tryz.underlying23 Tryz.underlying75 Tryz.underlying73 (by kernel_rfl) rfl rfl rfl rfl rfl rfl (by kernel_rfl) (by kernel_rfl) (by kernel_rfl) (by kernel_rfl) (by kernel_rfl) (by kernel_rfl) Tryz.underlying2 Tryz.underlying9 Tryz.underlying2 Tryz.underlying2 Tryz.underlying9 q3
      subst hN hS
      exact ⟨⟨k0, nm, N, S, dn, ct, sk⟩, na, nc, sa, sc, ⟨by simpa using e0, by simpa using e1, by simpa using e2, by simpa using e3, by simpa using e4, by simpa using e5, by simpa using e6⟩, hs, hft, hlc, hcap, hnil, hK, hF, hM, hnm⟩
  haveI : Inhabited SV := ⟨⟨0, ⟨#[]⟩, [], [], false, 0, 0⟩⟩
  obtain ⟨q, hq⟩ := choose_lt each
  have spot : 0 < len → ad.spot = none := by
    intro h0
    obtain ⟨_, _, _, _, ⟨e0, _⟩, _⟩ := hq 0 h0
    simpa [Addr.add] using World.cell?_spot e0
  refine ⟨(List.range len).map q, by simp, ?_, by omega, by omega, fun h => by cases h⟩
  intro j hj
  have hj' : j < len := by simpa using hj
  obtain ⟨b, o, sp⟩ := ad
  have hsp := spot (by omega)
  simp at hsp
  subst hsp
  obtain ⟨na, nc, sa, sc, ⟨e0, e1, e2, e3, e4, e5, e6⟩, ht⟩ := hq j hj'
  have hadd : ∀ q, ((⟨b, o, none⟩ : Addr).add q) = ⟨b, o + q, none⟩ := by
    intro q
    unfold Addr.add
    by_cases hq : q = 0 <;> simp [hq]
  rw [hadd] at e0 e1 e2 e3 e4 e5 e6
  have hg : ((List.range len).map q)[j] = q j := by simp
  rw [hg]
  exact ⟨b, o, na, nc, sa, sc, rfl, World.block_lt_of_cell? w _ e0, ⟨e0, e1, e2, e3, e4, e5, e6⟩, ht⟩
end Go.Proofs.YtmmandkellhbeaaGreatDoor

/-
  From the row's condition on the listed variables to what the walks ask of them.
-/
namespace Go.Proofs.YtmmandkellhbeaaGreatDoor
open Go.ChangeShapes Go.WideShapes Go.ChangeAt Go.RowKit

theorem gPow : (Tryz.prog.globalNamed "internal/strconv.uint64pow10").bind (fun g => (Tryz.prog.globals[g]?).map (·.type)) = some 173 := by kernel_rfl
theorem pow_data : (Rows.laid_internal_strconv_uint64pow10 : DataW Unit) = Lib.tabData .u64 Lib.pow10Tab := by kernel_rfl
theorem pow_of {W : World} {rest : List (String × DataW Unit)} (h : laidMet Tryz.prog (("internal/strconv.uint64pow10", Rows.laid_internal_strconv_uint64pow10) :: rest) W) : PowAt W := by
  rw [pow_data] at h
  obtain ⟨g, hg, ht⟩ := Option.bind_eq_some_iff.1 gPow
  exact Lib.tabIs_of_head hg ht Tryz.underlying173 Tryz.underlying144 (by kernel_rfl) (by kernel_rfl) h

theorem star_name : "*" ++ "errors.errorString" = "*errors.errorString" := by decide
theorem row_err (u : TypeId) (h : Tryz.prog.typeName? 3 u = some "*errors.errorString") : u = 229 :=
  typeName_ptr_named (nm := "errors.errorString") (by rw [star_name]; kernel_rfl) (by kernel_rfl) (by decide) u (by rw [star_name]; exact h)
theorem gRange : (Tryz.prog.globalNamed "strconv.ErrRange").bind (fun g => (Tryz.prog.globals[g]?).map (·.type)) = some 126 := by kernel_rfl
theorem gSyntax : (Tryz.prog.globalNamed "strconv.ErrSyntax").bind (fun g => (Tryz.prog.globals[g]?).map (·.type)) = some 126 := by kernel_rfl
theorem err_of {W : World} {rest : List (String × DataW Unit)} (h : laidMet Tryz.prog (("strconv.ErrRange", Rows.laid_strconv_ErrRange) :: ("strconv.ErrSyntax", Rows.laid_strconv_ErrSyntax) :: rest) W) : ErrAt W := by
  obtain ⟨g, hg, ht⟩ := Option.bind_eq_some_iff.1 gRange
  obtain ⟨g2, hg2, ht2⟩ := Option.bind_eq_some_iff.1 gSyntax
  have h2 := h.tail
  unfold Rows.laid_strconv_ErrRange at h
  unfold Rows.laid_strconv_ErrSyntax at h2
  obtain ⟨a, s, hv, _⟩ := laid_sentinel h hg ht Tryz.underlying126 row_err Tryz.underlying229 Tryz.underlying231 rfl rfl Tryz.underlying9 (by kernel_rfl) (by kernel_rfl)
  obtain ⟨a2, s2, hv2, _⟩ := laid_sentinel h2 hg2 ht2 Tryz.underlying126 row_err Tryz.underlying229 Tryz.underlying231 rfl rfl Tryz.underlying9 (by kernel_rfl) (by kernel_rfl)
  exact ⟨⟨_, _, hv2⟩, ⟨_, _, hv⟩⟩

end Go.Proofs.YtmmandkellhbeaaGreatDoor

/-
  From the row's condition on the program's own table of signs to what the walks ask of it.
-/
namespace Go.Proofs.YtmmandkellhbeaaGreatDoor
open Go.ChangeShapes Go.WideShapes Go.ChangeAt Go.RowKit

def strData {H : Type} (ss : List ByteArray) : DataW H := .agg (ss.map fun s => .lit (.string s.data.toList))
theorem cells_of_strs {H : Type} {enc : TypeId × Value → H} {P : Program} {w : World} {base : Nat} {sp : Nat → Bool} {held : Bool} {fuel : Nat} {t e : TypeId} {n : Nat} {cs : List Value} {ss : List ByteArray} {p : List MemPlace}
    (ht : P.underlying t = some (.array n e)) (he : P.underlying e = some .string) (hce : P.cellsOf e = 1) (hct : P.cellsOf t = n)
    (h : DataW.trod enc P w base sp held fuel t cs = some (strData ss, p)) : cs = ss.map Value.string := by
  cases fuel with
  | zero => simp [DataW.trod] at h
  | succ fuel =>
    simp only [DataW.trod, ht, hce, hct, Nat.mul_one] at h
    split at h
    · rename_i hl
      obtain ⟨xs, hm, hx⟩ := Option.map_eq_some_iff.1 h
      have hxs : xs.map (·.1) = ss.map fun s => (DataW.lit (.string s.data.toList) : DataW H) := by
        have := congrArg Prod.fst hx
        simpa [strData] using this
      have hxl : xs.length = n := by simpa using Lib.mapM_length hm
      have hzl : ss.length = n := by
        have := congrArg List.length hxs
        simp at this
        omega
      apply List.ext_getElem?
      intro i
      by_cases hi : i < n
      · obtain ⟨b, hb, hf⟩ := Lib.mapM_at hm i i (by simp [hi])
        obtain ⟨z, hc, rfl, _⟩ := DataW.trod_string he hf
        have h1 : cs[i]? = some (.string z) := by
          have := congrArg (·[0]?) hc
          simpa [List.getElem?_take, List.getElem?_drop] using this
        have h2 : (xs.map (·.1))[i]? = some (DataW.lit (.string z.data.toList) : DataW H) := by simp [hb]
        rw [hxs] at h2
        simp only [List.getElem?_map, Option.map_eq_some_iff, DataW.lit.injEq, Lit.string.injEq] at h2
        obtain ⟨z', hz', e2⟩ := h2
        have e3 : z' = z := bytes_ext e2
        subst e3
        simp [h1, hz']
      · rw [List.getElem?_eq_none (by omega), List.getElem?_eq_none (by simp; omega)]
    · cases h
theorem gSgnT : (Tryz.prog.globals[0]?).map (·.type) = some 168 := by kernel_rfl
theorem sgn_data : (Rows.laid_loop_example_g00536_impl_itemSigns : DataW Unit) = strData ((List.range 13).map sgn0) := by kernel_rfl
theorem sgn_of {W : World} {rest : List (String × DataW Unit)} (h : laidMet Tryz.prog (("loop.example/g00536/impl.itemSigns", Rows.laid_loop_example_g00536_impl_itemSigns) :: rest) W) : SgnAt W := by
  rw [sgn_data] at h
  obtain ⟨ps, ⟨g', t', cs, fuel, p, q, hg', ht', hvar, hd, _, _⟩, _⟩ := h
  obtain rfl := Option.some.inj (gSgn.symm.trans hg')
  obtain rfl := Option.some.inj (gSgnT.symm.trans ht')
  have hc := cells_of_strs Tryz.underlying168 Tryz.underlying9 (by kernel_rfl) (by kernel_rfl) hd
  unfold SgnAt
  rw [hvar]
  congr 1
  have : cs = (cs.toList).toArray := by simp
  rw [this, hc]
  unfold sgnArr
  rw [List.map_map]
  rfl
end Go.Proofs.YtmmandkellhbeaaGreatDoor
