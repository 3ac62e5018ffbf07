/-
  The contracts of the library's heap over the program's rows: the way down.
-/
import Derived.Test.YtgeipficjfaocaaHeapI3
namespace Go.Proofs.Ytgeipficjfaocaa
open Go.ChangeShapes Go.WideShapes Go.ChangeAt Go.RowKit
attribute [local go_sem ↓] Go.wp_at_zero Go.wp_at_succ
attribute [local simp] World.cell?_alloc_past World.cell?_alloc_at World.frozen?_alloc_at cell_far cell_off cell_here World.frozen?_alloc_past

theorem waits_lessI {w : World} {base H : Nat} {V : Value} {n t : Nat} {R : Nat → Value} {key : Nat → CT} {A : Nat → Nat × Nat} {N K : Nat → Nat} {s : List Nat} {down : Bool} (h : Waits w base H V n t R key A N K s down) (i k : Nat) (hi : i < s.length) (hk : k < s.length) (hsm : s.length ≤ 1048576) (b : Bool) (hb : placeLt key down (s.getD i 0) (s.getD k 0) = b) (x y : Int) (hx : x = (i : Int)) (hy : y = (k : Int)) :
    Calls Try.prog 121 #[.pointer (some ⟨H, 0, none⟩), .int .i64 x, .int .i64 y] w fun e w' => e = .returned (.bool b) ∧ Below w.heap.size w w' := by
  subst hx hy; exact waits_less h i k hi hk hsm b hb
theorem waits_swapI {w : World} {base H g c : Nat} {n t : Nat} {R : Nat → Value} {key : Nat → CT} {A : Nat → Nat × Nat} {N K : Nat → Nat} {s : List Nat} {down : Bool} (h : Waits w base H (.slice (some ⟨g, 0, none⟩) s.length c) n t R key A N K s down) (hg : base ≤ g) (i k : Nat) (hi : i < s.length) (hk : k < s.length) (x y : Int) (hx : x = (i : Int)) (hy : y = (k : Int)) :
    Calls Try.prog 124 #[.pointer (some ⟨H, 0, none⟩), .int .i64 x, .int .i64 y] w fun e w' => (∃ v, e = .returned v) ∧ Waits w' base H (.slice (some ⟨g, 0, none⟩) s.length c) n t R key A N K (swap 0 s i k) down ∧ KeepS (fun b => b = g) w w' := by
  subst hx hy; exact waits_swap h hg i k hi hk

set_option maxRecDepth 100000 in
set_option maxHeartbeats 2000000 in
theorem heap_down {w : World} {base H g c : Nat} {n t : Nat} {R : Nat → Value} {key : Nat → CT} {A : Nat → Nat × Nat} {N K : Nat → Nat} {s : List Nat} {down : Bool} (h : Waits w base H (.slice (some ⟨g, 0, none⟩) s.length c) n t R key A N K s down) (hg : base ≤ g) (hsm : s.length ≤ 1048576) (nn : Nat) (hnn : nn < s.length) (hu : DownAt (placeLt key down) s nn 0) :
    Calls Try.prog 102 #[.iface 78 (.pointer (some ⟨H, 0, none⟩)), .int .i64 0, .int .i64 nn] w fun e w' => (∃ v, e = .returned v) ∧ ∃ s', s'.Perm s ∧ (∀ x, nn ≤ x → s'.getD x 0 = s.getD x 0) ∧ Waits w' base H (.slice (some ⟨g, 0, none⟩) s.length c) n t R key A N K s' down ∧ Heap (placeLt key down) s' nn ∧ KeepS (fun b => b = g) w w' := by
  have ST := placeLt_strict key down n
  have HW : Hid (Waits w base H (.slice (some ⟨g, 0, none⟩) s.length c) n t R key A N K s down ∧ DownAt (placeLt key down) s nn 0) := ⟨h, hu⟩
  clear h hu
  go_enter Try.func102, Try.ntmps102
  go_wp2_with fail
  go_loopw [7] (fun iv wr => ∃ i : Nat, i ≤ nn ∧ iv = .int .i64 i ∧ Hid (∃ s' : List Nat, s'.Perm s ∧ (∀ x, nn ≤ x → s'.getD x 0 = s.getD x 0) ∧ Waits wr base H (.slice (some ⟨g, 0, none⟩) s.length c) n t R key A N K s' down ∧ DownAt (placeLt key down) s' nn i ∧ KeepS (fun b => b = g) w wr)) (fun iv _ => nn - (intOf iv).toNat)
  case atStart => exact ⟨0, Nat.zero_le _, rfl, s, List.Perm.refl _, fun _ _ => rfl, HW.out.1, HW.out.2, KeepS.refl _ _⟩
  case round =>
    obtain ⟨i, hi, rfl, hP⟩ := hrel
    obtain ⟨j1, hj1⟩ : ∃ j1 : Nat, j1 = 2 * i + 1 := ⟨_, rfl⟩
    have e0 : (0 : Int) ≤ 2 * (i : Int) + 1 := by omega
    have e3 : (i : Int) ≤ 1048576 := by omega
    by_cases hlt : j1 < nn
    · have hlt' : 2 * (i : Int) + 1 < (nn : Int) := by omega
      obtain ⟨s', h1, hx1, h2, h3, h4⟩ := hP.out
      have hl : s'.length = s.length := h1.length_eq
      have HH : Hid (Waits wr base H (.slice (some ⟨g, 0, none⟩) s.length c) n t R key A N K s' down) := h2
      have h3' : Hid (DownAt (placeLt key down) s' nn i) := h3
      clear hP h2 h3
      obtain ⟨j2, hj2⟩ : ∃ j2 : Nat, j2 = j1 + 1 := ⟨_, rfl⟩
      by_cases hlt2 : j2 < nn
      · have hlt2' : 2 * (i : Int) + 1 + 1 < (nn : Int) := by omega
        obtain ⟨r2, hr2⟩ : ∃ r, placeLt key down (s'.getD j2 0) (s'.getD j1 0) = r := ⟨_, rfl⟩
        go_wp2_with fail
        refine (waits_lessI HH.out j2 j1 (by omega) (by omega) (by omega) r2 hr2 _ _ (by omega) (by omega)).mono ?_
        rintro e w1 ⟨rfl, hb1⟩
        have H1 : Hid (Waits w1 base H (.slice (some ⟨g, 0, none⟩) s.length c) n t R key A N K s' down) := HH.out.below hb1
        have K1 := h4.trans (KeepS.ofBelow hb1)
        clear HH hb1 h4
        cases r2
        · skip
          have hleast : ∀ d, d = 2 * i + 1 ∨ d = 2 * i + 2 → d < nn → placeLt key down (s'.getD d 0) (s'.getD j1 0) = false := by
            intro d hd hdn
            rcases hd with e | e
            · rw [show d = j1 by omega]; exact ST.irr _
            · rw [show d = j2 by omega]; exact hr2
          have hci : j1 = 2 * i + 1 ∨ j1 = 2 * i + 2 := by omega
          have hcn : j1 < nn := by omega
          obtain ⟨r, hr⟩ : ∃ r, placeLt key down (s'.getD j1 0) (s'.getD i 0) = r := ⟨_, rfl⟩
          go_wp2_with fail
          refine (waits_lessI H1.out j1 i (by omega) (by omega) (by omega) r hr _ _ (by omega) (by omega)).mono ?_
          rintro e w2 ⟨rfl, hb2⟩
          have H2 : Hid (Waits w2 base H (.slice (some ⟨g, 0, none⟩) s'.length c) n t R key A N K s' down) := by
            have := H1.out.below hb2
            rw [← hl] at this; exact this
          have K2 := K1.trans (KeepS.ofBelow hb2)
          clear hb2 H1
          cases r
          · have hfin : Hid (∃ s' : List Nat, s'.Perm s ∧ (∀ x, nn ≤ x → s'.getD x 0 = s.getD x 0) ∧ Waits w2 base H (.slice (some ⟨g, 0, none⟩) s.length c) n t R key A N K s' down ∧ Heap (placeLt key down) s' nn ∧ KeepS (fun b => b = g) w w2) := by
              refine ⟨s', h1, hx1, by rw [← hl]; exact H2.out, h3'.out.done (fun hd => ?_) (fun hd => ?_), K2⟩
              · exact ST.neg (mem_lt H2.out.all (by omega)) (mem_lt H2.out.all (by omega)) (hleast _ (.inl rfl) hd) hr
              · exact ST.neg (mem_lt H2.out.all (by omega)) (mem_lt H2.out.all (by omega)) (hleast _ (.inr rfl) hd) hr
            clear H2 h3' hleast
            go_wp2
            go_ret
            exact ⟨⟨_, rfl⟩, hfin.out⟩
          · go_wp2_with fail
            refine (waits_swapI H2.out hg i j1 (by omega) (by omega) _ _ (by omega) (by omega)).mono ?_
            rintro e w3 ⟨⟨v, rfl⟩, hw3, hk3⟩
            have step := DownAt.step ST (by omega) hcn hci h3'.out hr hleast
            have hfin : Hid (∃ s' : List Nat, s'.Perm s ∧ (∀ x, nn ≤ x → s'.getD x 0 = s.getD x 0) ∧ Waits w3 base H (.slice (some ⟨g, 0, none⟩) s.length c) n t R key A N K s' down ∧ DownAt (placeLt key down) s' nn j1 ∧ KeepS (fun b => b = g) w w3) := by
              refine ⟨_, (swap_perm 0 s' i j1 (by omega) (by omega)).trans h1, fun x hx => ?_, by rw [← hl]; exact hw3, step, K2.trans hk3⟩
              rw [swap_getD _ _ _ _ _ (by omega) (by omega), if_neg (by omega), if_neg (by omega)]; exact hx1 x hx
            clear H2 h3' hw3 hk3 step hleast
            go_wp2
            go_roundw
            case rel => exact ⟨j1, by omega, congrArg (Value.int .i64) (by omega), hfin⟩
            case measure => simp [intOf]; omega
        · skip
          have hleast : ∀ d, d = 2 * i + 1 ∨ d = 2 * i + 2 → d < nn → placeLt key down (s'.getD d 0) (s'.getD j2 0) = false := by
            intro d hd hdn
            rcases hd with e | e
            · rw [show d = j1 by omega]; exact ST.asym hr2
            · rw [show d = j2 by omega]; exact ST.irr _
          have hci : j2 = 2 * i + 1 ∨ j2 = 2 * i + 2 := by omega
          have hcn : j2 < nn := by omega
          obtain ⟨r, hr⟩ : ∃ r, placeLt key down (s'.getD j2 0) (s'.getD i 0) = r := ⟨_, rfl⟩
          go_wp2_with fail
          refine (waits_lessI H1.out j2 i (by omega) (by omega) (by omega) r hr _ _ (by omega) (by omega)).mono ?_
          rintro e w2 ⟨rfl, hb2⟩
          have H2 : Hid (Waits w2 base H (.slice (some ⟨g, 0, none⟩) s'.length c) n t R key A N K s' down) := by
            have := H1.out.below hb2
            rw [← hl] at this; exact this
          have K2 := K1.trans (KeepS.ofBelow hb2)
          clear hb2 H1
          cases r
          · have hfin : Hid (∃ s' : List Nat, s'.Perm s ∧ (∀ x, nn ≤ x → s'.getD x 0 = s.getD x 0) ∧ Waits w2 base H (.slice (some ⟨g, 0, none⟩) s.length c) n t R key A N K s' down ∧ Heap (placeLt key down) s' nn ∧ KeepS (fun b => b = g) w w2) := by
              refine ⟨s', h1, hx1, by rw [← hl]; exact H2.out, h3'.out.done (fun hd => ?_) (fun hd => ?_), K2⟩
              · exact ST.neg (mem_lt H2.out.all (by omega)) (mem_lt H2.out.all (by omega)) (hleast _ (.inl rfl) hd) hr
              · exact ST.neg (mem_lt H2.out.all (by omega)) (mem_lt H2.out.all (by omega)) (hleast _ (.inr rfl) hd) hr
            clear H2 h3' hleast
            go_wp2
            go_ret
            exact ⟨⟨_, rfl⟩, hfin.out⟩
          · go_wp2_with fail
            refine (waits_swapI H2.out hg i j2 (by omega) (by omega) _ _ (by omega) (by omega)).mono ?_
            rintro e w3 ⟨⟨v, rfl⟩, hw3, hk3⟩
            have step := DownAt.step ST (by omega) hcn hci h3'.out hr hleast
            have hfin : Hid (∃ s' : List Nat, s'.Perm s ∧ (∀ x, nn ≤ x → s'.getD x 0 = s.getD x 0) ∧ Waits w3 base H (.slice (some ⟨g, 0, none⟩) s.length c) n t R key A N K s' down ∧ DownAt (placeLt key down) s' nn j2 ∧ KeepS (fun b => b = g) w w3) := by
              refine ⟨_, (swap_perm 0 s' i j2 (by omega) (by omega)).trans h1, fun x hx => ?_, by rw [← hl]; exact hw3, step, K2.trans hk3⟩
              rw [swap_getD _ _ _ _ _ (by omega) (by omega), if_neg (by omega), if_neg (by omega)]; exact hx1 x hx
            clear H2 h3' hw3 hk3 step hleast
            go_wp2
            go_roundw
            case rel => exact ⟨j2, by omega, congrArg (Value.int .i64) (by omega), hfin⟩
            case measure => simp [intOf]; omega
      · have hlt2' : ¬ 2 * (i : Int) + 1 + 1 < (nn : Int) := by omega
        have H1 : Hid (Waits wr base H (.slice (some ⟨g, 0, none⟩) s.length c) n t R key A N K s' down) := HH.out
        have K1 := h4
        clear HH h4
        have hleast : ∀ d, d = 2 * i + 1 ∨ d = 2 * i + 2 → d < nn → placeLt key down (s'.getD d 0) (s'.getD j1 0) = false := by
          intro d hd hdn
          rcases hd with e | e
          · rw [show d = j1 by omega]; exact ST.irr _
          · omega
        have hci : j1 = 2 * i + 1 ∨ j1 = 2 * i + 2 := by omega
        have hcn : j1 < nn := by omega
        obtain ⟨r, hr⟩ : ∃ r, placeLt key down (s'.getD j1 0) (s'.getD i 0) = r := ⟨_, rfl⟩
        go_wp2_with fail
        refine (waits_lessI H1.out j1 i (by omega) (by omega) (by omega) r hr _ _ (by omega) (by omega)).mono ?_
        rintro e w2 ⟨rfl, hb2⟩
        have H2 : Hid (Waits w2 base H (.slice (some ⟨g, 0, none⟩) s'.length c) n t R key A N K s' down) := by
          have := H1.out.below hb2
          rw [← hl] at this; exact this
        have K2 := K1.trans (KeepS.ofBelow hb2)
        clear hb2 H1
        cases r
        · have hfin : Hid (∃ s' : List Nat, s'.Perm s ∧ (∀ x, nn ≤ x → s'.getD x 0 = s.getD x 0) ∧ Waits w2 base H (.slice (some ⟨g, 0, none⟩) s.length c) n t R key A N K s' down ∧ Heap (placeLt key down) s' nn ∧ KeepS (fun b => b = g) w w2) := by
            refine ⟨s', h1, hx1, by rw [← hl]; exact H2.out, h3'.out.done (fun hd => ?_) (fun hd => ?_), K2⟩
            · exact ST.neg (mem_lt H2.out.all (by omega)) (mem_lt H2.out.all (by omega)) (hleast _ (.inl rfl) hd) hr
            · exact ST.neg (mem_lt H2.out.all (by omega)) (mem_lt H2.out.all (by omega)) (hleast _ (.inr rfl) hd) hr
          clear H2 h3' hleast
          go_wp2
          go_ret
          exact ⟨⟨_, rfl⟩, hfin.out⟩
        · go_wp2_with fail
          refine (waits_swapI H2.out hg i j1 (by omega) (by omega) _ _ (by omega) (by omega)).mono ?_
          rintro e w3 ⟨⟨v, rfl⟩, hw3, hk3⟩
          have step := DownAt.step ST (by omega) hcn hci h3'.out hr hleast
          have hfin : Hid (∃ s' : List Nat, s'.Perm s ∧ (∀ x, nn ≤ x → s'.getD x 0 = s.getD x 0) ∧ Waits w3 base H (.slice (some ⟨g, 0, none⟩) s.length c) n t R key A N K s' down ∧ DownAt (placeLt key down) s' nn j1 ∧ KeepS (fun b => b = g) w w3) := by
            refine ⟨_, (swap_perm 0 s' i j1 (by omega) (by omega)).trans h1, fun x hx => ?_, by rw [← hl]; exact hw3, step, K2.trans hk3⟩
            rw [swap_getD _ _ _ _ _ (by omega) (by omega), if_neg (by omega), if_neg (by omega)]; exact hx1 x hx
          clear H2 h3' hw3 hk3 step hleast
          go_wp2
          go_roundw
          case rel => exact ⟨j1, by omega, congrArg (Value.int .i64) (by omega), hfin⟩
          case measure => simp [intOf]; omega
    · have hlt' : ¬ 2 * (i : Int) + 1 < (nn : Int) := by omega
      have hfin : Hid (∃ s' : List Nat, s'.Perm s ∧ (∀ x, nn ≤ x → s'.getD x 0 = s.getD x 0) ∧ Waits wr base H (.slice (some ⟨g, 0, none⟩) s.length c) n t R key A N K s' down ∧ Heap (placeLt key down) s' nn ∧ KeepS (fun b => b = g) w wr) := by
        obtain ⟨s', h1, hx1, h2, h3, h4⟩ := hP.out
        exact ⟨s', h1, hx1, h2, h3.done (fun hd => by omega) (fun hd => by omega), h4⟩
      clear hP
      go_wp2
      go_ret
      exact ⟨⟨_, rfl⟩, hfin.out⟩

end Go.Proofs.Ytgeipficjfaocaa
