/-
  A part of the proof: RkI3, RkI4, ThreeFacts.
-/
import Derived.Test.YthgbjnchhaoceaaGreatDoorPart15
import Derived.Test.YthgbjnchhaoceaaGreatDoorPart14
import Derived.Test.YthgbjnchhaoceaaGreatDoorPart13
import Derived.Defers
import Derived.Recover
import Derived.WalkLawsBesides
import Derived.Test.YthgbjnchhaoceaaGreatDoorPart8

/-
  The contract of the program's comesTo.
-/
namespace Go.Proofs.YthgbjnchhaoceaaGreatDoor
open Go.ChangeShapes Go.WideShapes Go.ChangeAt Go.RowKit
attribute [local go_sem ↓] Go.wp_at_zero Go.wp_at_succ
attribute [local simp] World.cell?_alloc_past World.cell?_alloc_at World.frozen?_alloc_at cell_far cell_off cell_here World.frozen?_alloc_past

theorem own_low {w : World} {base base' k n : Nat} {e : TypeId} {v : Value} {xs : List Value} (h : w.ownsRow base e k v n xs) (hb : base' ≤ base) : w.ownsRow base' e k v n xs := by
  refine ⟨h.1, ?_⟩
  rcases h.2 with h' | ⟨g, c, cur, h', hbg, hr⟩
  · exact .inl h'
  · exact .inr ⟨g, c, cur, h', Nat.le_trans hb hbg, hr⟩
set_option maxRecDepth 100000 in
set_option maxHeartbeats 8000000 in
theorem comes_impl (a : Option Addr) (cap : Nat) (l : List TI) (n : Nat) (hn : l.length = n) (ca : Option Addr) (cc : Nat) (C : List ByteArray) (m : Nat) (hm : C.length = m) (ra : Option Addr) (rc : Nat) (R : List CT) (q : Nat) (hq : R.length = q) (w : World) (hrow : ItmAt w a l) (hfit : FitI l) (hfit2 : FitItm l) (hnl : n ≤ maxLen) (hC : StrsAt w ca C) (hml : m ≤ maxLen) (hR : RowAt w ra R) (hRf : Fit R) (hql : q ≤ maxLen) (hp : PowAt w) (he : ErrAt w) (r : CK × Int) (hr : reckR C R l = r) :
    Calls Tryz.prog 39 #[.slice a n cap, .slice ca m cc, .slice ra q rc] w fun e w' => OutC r.1.1 r.1.2.1 r.1.2.2 r.2 e ∧ Below w.heap.size w w' := by
  obtain ⟨i0, hti, hz0, hz1, hz2⟩ := info_parts infoC9
  have HN : Hid (l.length = n) := hn
  have HM : Hid (C.length = m) := hm
  have HQ : Hid (R.length = q) := hq
  have HF : Hid (FitI l) := hfit
  have HF2 : Hid (FitItm l) := hfit2
  have HNL : Hid (n ≤ maxLen) := hnl
  have HML : Hid (m ≤ maxLen) := hml
  have HQL : Hid (q ≤ maxLen) := hql
  have HWF : Hid (Fit R) := hRf
  obtain ⟨W, hWd⟩ : ∃ W, W = w.alloc (.cells #[.int .i64 0, .int .i64 0, .string ⟨#[]⟩] 30) := ⟨_, rfl⟩
  have hWl : w.heap.size < W.heap.size := by rw [hWd]; simp
  have hWb : Below w.heap.size w W := by rw [hWd]; exact (Below.refl _ _).alloc (Nat.le_refl _) _
  have HZ : Hid ((W.cell? ⟨w.heap.size, 0, none⟩ = some (.int .i64 0) ∧ W.cell? ⟨w.heap.size, 1, none⟩ = some (.int .i64 0) ∧ W.cell? ⟨w.heap.size, 2, none⟩ = some (.string ⟨#[]⟩)) ∧ W.frozen? ⟨w.heap.size, 0, none⟩ = false ∧ W.frozen? ⟨w.heap.size, 1, none⟩ = false ∧ W.frozen? ⟨w.heap.size, 2, none⟩ = false) := by
    have : (W.cell? ⟨w.heap.size, 0, none⟩ = some (.int .i64 0) ∧ W.cell? ⟨w.heap.size, 1, none⟩ = some (.int .i64 0) ∧ W.cell? ⟨w.heap.size, 2, none⟩ = some (.string ⟨#[]⟩)) ∧ W.frozen? ⟨w.heap.size, 0, none⟩ = false ∧ W.frozen? ⟨w.heap.size, 1, none⟩ = false ∧ W.frozen? ⟨w.heap.size, 2, none⟩ = false := by
      rw [hWd]; simp
    exact this
  have HI : Hid (ItmAt W a l) := hrow.below hWb
  have HC : Hid (StrsAt W ca C) := hC.below hWb
  have HW : Hid (RowAt W ra R) := hR.below hWb
  have HP : Hid (PowAt W) := hp.below hWb
  have HE : Hid (ErrAt W) := he.below hWb
  have hn6 := hnl
  have hm6 := hml
  have hq6 := hql
  unfold maxLen at hn6 hm6 hq6
  obtain ⟨b1, h1⟩ : ∃ x, sumB l = x := ⟨_, rfl⟩
  obtain ⟨b2, h2⟩ : ∃ x, hasC C l = x := ⟨_, rfl⟩
  obtain ⟨b3, h3⟩ : ∃ x, rowOk m R = x := ⟨_, rfl⟩
  have H1 : Hid (sumB l = b1) := h1
  have H2 : Hid (hasC C l = b2) := h2
  have H3 : Hid (rowOk m R = b3) := h3
  have HV : Hid ((if b1 = true ∧ b2 = true ∧ b3 = true then sumV C R l else (zeroC, 3)) = r) := by
    have : (if b1 = true ∧ b2 = true ∧ b3 = true then sumV C R l else (zeroC, 3)) = r := by
      rw [← hr]
      unfold reckR
      have e : (b1 = true ∧ b2 = true ∧ b3 = true) ↔ (sumB l = true ∧ hasC C l = true ∧ R.length = C.length ∧ R.all okC = true) := by
        rw [h1, h2, ← h3]
        unfold rowOk
        rw [Bool.and_eq_true, decide_eq_true_eq, hm]
      by_cases hc : b1 = true ∧ b2 = true ∧ b3 = true
      · rw [if_pos hc, if_pos (e.1 hc)]
      · rw [if_neg hc, if_neg (fun h => hc (e.2 h))]
    exact this
  clear hrow hfit hfit2 hC hR hRf hr h1 h2 h3 hnl hml hql hn hm hq hp he
  cases b1
  · obtain rfl : (zeroC, 3) = r := by have := HV.out; rw [if_neg (by simp)] at this; exact this
    clear HV
    go_enter Tryz.func39, Tryz.ntmps39
    go_wp2_with fail
    rw [← hWd]
    clear hWd
    refine (sum_impl _ _ l n HN.out _ HI.out HF.out HNL.out HP.out HE.out false H1.out).mono ?_
    rintro e w1 ⟨rfl, hb1⟩
    have hx := chain hWb hb1
    go_wp2
    exact ⟨rfl, .inr ⟨by decide, rfl⟩, hx⟩
  go_enter Tryz.func39, Tryz.ntmps39
  go_wp2_with fail
  rw [← hWd]
  clear hWd
  refine (sum_impl _ _ l n HN.out _ HI.out HF.out HNL.out HP.out HE.out true H1.out).mono ?_
  rintro e w1 ⟨rfl, hb1⟩
  go_wp2_with fail
  refine (stand_impl _ _ l n HN.out _ _ C m HM.out _ (HI.out.below hb1) HF2.out HNL.out (HC.out.below hb1) HML.out b2 H2.out).mono ?_
  rintro e w2 ⟨rfl, hb2⟩
  have hc2 := chain hb1 hb2
  cases b2
  · obtain rfl : (zeroC, 3) = r := by have := HV.out; rw [if_neg (by simp)] at this; exact this
    clear HV
    have hx := chain hWb hc2
    go_wp2
    exact ⟨rfl, .inr ⟨by decide, rfl⟩, hx⟩
  go_wp2_with fail
  refine (rowfits_impl q _ _ R HQ.out _ (HW.out.below hc2) HWF.out HQL.out m b3 H3.out).mono ?_
  rintro e w3 ⟨rfl, hb3⟩
  have hc3 := chain hc2 hb3
  clear hb1 hb2 hb3 hc2
  cases b3
  · obtain rfl : (zeroC, 3) = r := by have := HV.out; rw [if_neg (by simp)] at this; exact this
    clear HV
    have hx := chain hWb hc3
    go_wp2
    exact ⟨rfl, .inr ⟨by decide, rfl⟩, hx⟩
  have HSV : Hid (sumV C R l = r) := by
    have : sumV C R l = r := by have := HV.out; rw [if_pos (by simp)] at this; exact this
    exact this
  obtain ⟨hqm, hokR⟩ : q = m ∧ R.all okC = true := by
    have := H3.out
    unfold rowOk at this
    rw [Bool.and_eq_true, decide_eq_true_eq, HQ.out] at this
    exact this
  subst hqm
  have HS : Hid (heapN l 0 = some 1 ∧ l.length ≤ 40) := sum_heap H1.out
  have hn40 : n ≤ 40 := by rw [← HN.out]; exact HS.out.2
  clear HV
  have hsz3 := hc3.size
  go_wp2_with (at_make; refine wpList_make_own _ rfl _ _ 26 rfl w3.heap.size 30 i0 (.agg #[.int .i64 0, .int .i64 0, .string ⟨#[]⟩]) 3 Tryz.underlying26 hti hz0 hz1 .i64 .i64 _ n rfl rfl rfl (by rw [hz2]; omega) (by unfold maxLen; omega) (Nat.le_refl _) ?_)
  intro w4 hown hgrow
  have hc4 : Below W.heap.size W w4 := hc3.grown hgrow hsz3 (by intro k h; cases h)
  have own0 : Hid (w4.ownsRow W.heap.size 30 3 (.slice (some ⟨w3.heap.size, 0, none⟩) 0 n) ([] : List CT).length (flat [])) := own_low hown (by omega)
  clear hown hgrow
  go_wp2
  go_loopw [7, 35] (fun v kk wr => ∃ (k : Nat) (P : List CT), k ≤ n ∧ kk = .int .i64 k ∧ Hid (runR C R (l.take k) [] = (P, 0)) ∧ Hid (Fit P) ∧ Hid (wr.ownsRow W.heap.size 30 3 v P.length (flat P)) ∧ v ≠ .slice none 0 0 ∧ Below W.heap.size W wr) (fun _ kk _ => n - (intOf kk).toNat)
  case atStart => exact ⟨0, [], Nat.zero_le _, rfl, rfl, (by intro j hj; exact absurd hj (by simp)), own0, by simp, hc4⟩
  case round =>
    obtain ⟨k, P, hkn, rfl, hRun, hFP, hO, hvn, hb⟩ := hrel
    have hbw := chain hWb hb
    by_cases hlt : k < n
    · have hlk : k < l.length := by rw [HN.out]; exact hlt
      obtain ⟨g, o, rfl, hgw, c0, c1, c2, c3, c4⟩ := HI.out.below hb k hlk
      have hi0 : (0 : Int) ≤ (k : Int) := by omega
      have hi1 : (k : Int) < (n : Int) := by omega
      have hxf := (HF.out _ (List.getElem_mem hlk)).1
      obtain ⟨p', hp', hit, hnd⟩ := heapN_take HS.out.1 k hlk
      have hpl := runR_len (l.take k) [] P p' hRun.out hp'
      rw [← hpl] at hnd hp'
      clear hpl p'
      have HSn := runR_snoc hlk hRun.out
      have hHas : l[k].1 = 2 → l[k].2.2 ∈ C := fun e => by
        have := List.all_eq_true.1 H2.out _ (List.getElem_mem hlk)
        rw [Bool.or_eq_true] at this
        rcases this with h | h
        · simp [e] at h
        · exact any_mem.1 h
      have hp40 : P.length ≤ 40 := by
        have h1 := heapN_le (l.take k) 0 P.length hp'
        rw [List.length_take] at h1
        omega
      rcases hO.out.2 with ⟨h', _⟩ | ⟨gp, cp, cur, h', hbg, _, hcp, hcpM, _⟩
      · exact absurd h' hvn
      subst h'
      obtain ⟨p, hpp⟩ : ∃ p, P.length = p := ⟨_, rfl⟩
      have HPL : Hid (P.length = p) := hpp
      obtain ⟨nd, hndd⟩ : ∃ q, needsI l[k].1 = q := ⟨_, rfl⟩
      rw [hndd, hpp] at hnd
      obtain ⟨cc3, f, hst, hcs, hcall⟩ := icell_step l[k] hit hxf C R q HM.out HQ.out HML.out HWF.out hHas P hFP.out p nd hpp hndd hnd
      have HNP : Hid (needsP l[k].1 = nd) := by
        have : needsP l[k].1 = nd := by rw [needsP_ok hit, hndd]
        exact this
      rw [hst] at HSn
      dsimp only at HSn
      obtain ⟨m', hm'⟩ : ∃ m', p - nd = m' := ⟨_, rfl⟩
      rw [hm'] at HSn hcall
      rw [hpp] at hp40 hcp hO ⊢
      have hgw2 : gp < wr.heap.size := (hO.out.lt gp rfl).2
      clear hit hp' hpp hndd hHas hst
      generalize l[k] = x at c0 c1 c2 c3 c4 hcall HNP
      obtain ⟨xk, ⟨xa, xb, xc⟩, xs⟩ := x
      obtain ⟨r1, r2, r3⟩ := cc3
      dsimp only at c0 c1 c2 c3 c4 hcall HNP hcs
      have HCALL : Hid (∀ (w' : World) (gp : Nat) (pa : Option Addr) (pc : Nat) (ca : Option Addr) (cc : Nat) (ra : Option Addr) (rc : Nat), (0 < nd → pa = some ⟨gp, m' * 3, none⟩) → RowAt w' (some ⟨gp, 0, none⟩) P → StrsAt w' ca C → RowAt w' ra R →
          Calls Tryz.prog 75 #[.agg #[.int .i64 xk, .int .i64 xa, .int .i64 xb, .string xc, .string xs], .slice pa nd pc, .slice ca q cc, .slice ra q rc] w' fun e w'' => OutC r1 r2 r3 f e ∧ Below w'.heap.size w' w'') := hcall
      have HSN : Hid (runR C R (l.take (k + 1)) [] = if f = 0 then (P.take m' ++ [(r1, r2, r3)], 0) else ([], f)) := HSn
      have HFt : Hid (Fit (P.take m' ++ [(r1, r2, r3)])) := fit_snoc9 hFP.out m' _ hcs
      have HNDP : Hid (nd ≤ p) := hnd
      have hmle : m' ≤ p := by omega
      have hsub : (p : Int) - (nd : Int) = (m' : Int) := by omega
      have hm0 : (0 : Int) ≤ (m' : Int) := by omega
      have hmp : (m' : Int) ≤ (p : Int) := by omega
      have hmc : (m' : Int) ≤ (cp : Int) := by omega
      have hpc : (p : Int) ≤ (cp : Int) := by omega
      have hmc2 : m' ≤ cp := by omega
      have hwr : IntKind.i64.wrap (m' : Int) = (m' : Int) := by rw [IntKind.wrap_i64]; omega
      obtain ⟨V, hV⟩ : ∃ V, V = wr.alloc (.cells #[.int .i64 xk, .int .i64 xa, .int .i64 xb, .string xc, .string xs] 69) := ⟨_, rfl⟩
      have hbV : Below wr.heap.size wr V := by rw [hV]; exact (Below.refl _ _).alloc (Nat.le_refl _) _
      obtain ⟨XB, hXB⟩ : ∃ XB, wr.heap.size = XB := ⟨_, rfl⟩
      have e0 : V.cell? ⟨XB, 0, none⟩ = some (.int .i64 xk) := by rw [hV, ← hXB]; simp
      have e1 : V.cell? ⟨XB, 1, none⟩ = some (.int .i64 xa) := by rw [hV, ← hXB]; simp
      have e2 : V.cell? ⟨XB, 2, none⟩ = some (.int .i64 xb) := by rw [hV, ← hXB]; simp
      have e3 : V.cell? ⟨XB, 3, none⟩ = some (.string xc) := by rw [hV, ← hXB]; simp
      have e4 : V.cell? ⟨XB, 4, none⟩ = some (.string xs) := by rw [hV, ← hXB]; simp
      have hVs : XB < V.heap.size := by rw [hV, ← hXB]; simp
      have O2 : Hid (V.ownsRow W.heap.size 30 3 (.slice (some ⟨gp, 0, none⟩) p cp) p (flat P)) := own_below hO.out hbV
      have hxV := chain hb hbV
      have hWXB : W.heap.size ≤ XB := by rw [← hXB]; exact hb.size
      have hgX0 : gp ≠ XB := by omega
      have hgV : gp < V.heap.size := by omega
      clear hRun HSn hcall hnd hm'
      go_wp2_with fail
      refine (needs_impl xk nd HNP.out _).mono ?_
      rintro e w2 ⟨rfl, rfl⟩
      rw [← hV]
      try rw [hXB] at *
      clear hV hbV c0 c1 c2 c3 c4 hb hbw hO hXB
      go_wp2_with fail
      refine wp_region_held_drew (S := (fun w' => w'.cell? ⟨XB, 0, none⟩ = some (.int .i64 xk) ∧ w'.cell? ⟨XB, 1, none⟩ = some (.int .i64 xa) ∧ w'.cell? ⟨XB, 2, none⟩ = some (.int .i64 xb) ∧ w'.cell? ⟨XB, 3, none⟩ = some (.string xc) ∧ w'.cell? ⟨XB, 4, none⟩ = some (.string xs))) (by kernel_rfl) ?_ (fun hHeld => ?_)
      · (((try dsimp only); (repeat' apply And.intro) <;> first | (go_keep; done) | (simp (disch := first | omega | (simp <;> omega) | fail) [*]; done) | fail))
      refine wpAnyH_take (i := 0) (by simp only [List.getElem?_toArray, List.getElem?_cons_zero]; rfl) (by kernel_rfl) (by kernel_rfl) (by kernel_rfl) (by intro _ _ _ h; exact h) (Or.inl ⟨by rfl, fun w hSw => by (dsimp only at hSw; go_simp; (try with_reducible rfl))⟩) (by assumption) ?_
      simp only [Act.put, List.setIfInBounds_toArray, List.set_cons_zero, List.set_cons_succ]
      refine wpAnyH_take (i := 1) (by simp only [List.getElem?_toArray, List.getElem?_cons_zero, List.getElem?_cons_succ]; rfl) (by kernel_rfl) (by kernel_rfl) (by kernel_rfl) (by intro _ _ _ h; exact h) (Or.inl ⟨by rfl, fun w hSw => by (dsimp only at hSw; go_simp; (try with_reducible rfl))⟩) (by assumption) ?_
      simp only [Act.put, List.setIfInBounds_toArray, List.set_cons_zero, List.set_cons_succ]
      refine wpAnyH_take (i := 2) (by simp only [List.getElem?_toArray, List.getElem?_cons_zero, List.getElem?_cons_succ]; rfl) (by kernel_rfl) (by kernel_rfl) (by kernel_rfl) (by intro _ _ _ h; exact h) (Or.inl ⟨by rfl, fun w hSw => by (dsimp only at hSw; go_simp; (try with_reducible rfl))⟩) (by assumption) ?_
      simp only [Act.put, List.setIfInBounds_toArray, List.set_cons_zero, List.set_cons_succ]
      refine wpAnyH_take (i := 3) (by simp only [List.getElem?_toArray, List.getElem?_cons_zero, List.getElem?_cons_succ]; rfl) (by kernel_rfl) (by kernel_rfl) (by kernel_rfl) (by intro _ _ _ h; exact h) (Or.inl ⟨by rfl, fun w hSw => by (dsimp only at hSw; go_simp; (try with_reducible rfl))⟩) (by assumption) ?_
      simp only [Act.put, List.setIfInBounds_toArray, List.set_cons_zero, List.set_cons_succ]
      refine wpAnyH_take (i := 4) (by simp only [List.getElem?_toArray, List.getElem?_cons_zero, List.getElem?_cons_succ]; rfl) (by kernel_rfl) (by kernel_rfl) (by kernel_rfl) (by intro _ _ _ h; exact h) (Or.inl ⟨by rfl, fun w hSw => by (dsimp only at hSw; go_simp; (try with_reducible rfl))⟩) (by assumption) ?_
      simp only [Act.put, List.setIfInBounds_toArray, List.set_cons_zero, List.set_cons_succ]
      refine wpAnyH_take (i := 5) (by simp only [List.getElem?_toArray, List.getElem?_cons_zero, List.getElem?_cons_succ]; rfl) (by kernel_rfl) (by kernel_rfl) (by kernel_rfl) (by intro _ _ _ h; exact h) (Or.inl ⟨by rfl, fun w hSw => by (dsimp only at hSw; go_simp; (try with_reducible rfl))⟩) (by assumption) ?_
      simp only [Act.put, List.setIfInBounds_toArray, List.set_cons_zero, List.set_cons_succ]
      obtain ⟨pa, hpa⟩ : ∃ pa : Option Addr, (if cp = m' then some ⟨gp, 0, none⟩ else some ⟨gp, m' * 3, none⟩) = pa := ⟨_, rfl⟩
      have HPA : Hid (0 < nd → pa = some ⟨gp, m' * 3, none⟩) := by
        have : 0 < nd → pa = some ⟨gp, m' * 3, none⟩ := fun h => by rw [← hpa, if_neg (by omega)]
        exact this
      have hpm : p - m' = nd := by omega
      have HLN : Hid ((P.take m').length = m') := by
        have : (P.take m').length = m' := by rw [List.length_take, HPL.out]; exact Nat.min_eq_left hmle
        exact this
      have HFault : Hid (f ≠ 0 → r = (zeroC, f)) := by
        have : f ≠ 0 → r = (zeroC, f) := fun hf => by
          have := HSN.out
          rw [if_neg hf] at this
          rw [← HSV.out]
          exact runR_fault this hf
        exact this
      have HFinI : Hid (f = 0 → runR C R (l.take (k + 1)) [] = (P.take m' ++ [(r1, r2, r3)], 0)) := by
        have : f = 0 → runR C R (l.take (k + 1)) [] = (P.take m' ++ [(r1, r2, r3)], 0) := fun hf => by
          have := HSN.out
          rw [if_pos hf] at this
          exact this
        exact this
      have HRowP : Hid (∀ w', Below V.heap.size V w' → RowAt w' (some ⟨gp, 0, none⟩) P) := by
        have : ∀ w', Below V.heap.size V w' → RowAt w' (some ⟨gp, 0, none⟩) P := fun w' hb => own_row (cap := cp) (base := W.heap.size) (e := 30) (by rw [HPL.out]; exact own_below O2.out hb)
        exact this
      have HColP : Hid (∀ w', Below V.heap.size V w' → StrsAt w' ca C) := by
        have : ∀ w', Below V.heap.size V w' → StrsAt w' ca C := fun w' hb => HC.out.below (chain hxV hb)
        exact this
      have HRwP : Hid (∀ w', Below V.heap.size V w' → RowAt w' ra R) := by
        have : ∀ w', Below V.heap.size V w' → RowAt w' ra R := fun w' hb => HW.out.below (chain hxV hb)
        exact this
      refine wpAnyH_ready (rs := [6, 7]) (by kernel_rfl) (by simp) ?_
      refine AllReadyH.cons (by simp only [List.getElem?_toArray, List.getElem?_cons_zero, List.getElem?_cons_succ]; rfl) ?_ (AllReadyH.cons (by simp only [List.getElem?_toArray, List.getElem?_cons_zero, List.getElem?_cons_succ]; rfl) ?_ AllReadyH.nil)
      · intro K hK
        go_simp
        have hd : Below V.heap.size V V.drew := (Below.refl _ _).drew
        refine (HCALL.out V.drew gp pa (cp - m') ca cc ra rc HPA.out (HRowP.out _ hd) (HColP.out _ hd) (HRwP.out _ hd)).mono ?_
        rintro e w5 ⟨hOut, hb5⟩
        have hb5' := undrew hb5
        have hx5 := chain hxV hb5'
        have l0 : w5.cell? ⟨XB, 0, none⟩ = some (.int .i64 xk) := by rw [hb5'.cell (p := ⟨XB, 0, none⟩) hVs]; exact e0
        have l1 : w5.cell? ⟨XB, 1, none⟩ = some (.int .i64 xa) := by rw [hb5'.cell (p := ⟨XB, 1, none⟩) hVs]; exact e1
        have l2 : w5.cell? ⟨XB, 2, none⟩ = some (.int .i64 xb) := by rw [hb5'.cell (p := ⟨XB, 2, none⟩) hVs]; exact e2
        have l3 : w5.cell? ⟨XB, 3, none⟩ = some (.string xc) := by rw [hb5'.cell (p := ⟨XB, 3, none⟩) hVs]; exact e3
        have l4 : w5.cell? ⟨XB, 4, none⟩ = some (.string xs) := by rw [hb5'.cell (p := ⟨XB, 4, none⟩) hVs]; exact e4
        have hs5 : XB < w5.heap.size := by have := hb5'.size; omega
        have hg5 : gp < w5.heap.size := by have := hb5'.size; omega
        have O5 : Hid (w5.ownsRow W.heap.size 30 3 (.slice (some ⟨gp, 0, none⟩) p cp) p (flat P)) := own_below O2.out hb5'
        clear hb5 hb5' e0 e1 e2 e3 e4 O2 HRowP HColP HRwP hd
        rcases hOut with ⟨hf, rfl⟩ | ⟨hf, rfl⟩
        · subst hf
          have HFin : Hid (runR C R (l.take (k + 1)) [] = (P.take m' ++ [(r1, r2, r3)], 0)) := HFinI.out rfl
          go_wp2_with fail
          refine hK.out _ _ ?_ (fun hHeld => ?_)
          · (((try dsimp only); (repeat' apply And.intro) <;> first | (go_keep; done) | (simp (disch := first | omega | (simp <;> omega) | fail) [*]; done) | fail))
          clear hK K
          try simp only [Act.put, List.setIfInBounds_toArray, List.set_cons_zero, List.set_cons_succ]
          refine wpAnyH_ready (rs := [7]) (by kernel_rfl) (by simp) ?_
          refine AllReadyH.cons (by simp only [List.getElem?_toArray, List.getElem?_cons_zero, List.getElem?_cons_succ]; rfl) ?_ AllReadyH.nil
          intro K hK
          go_simp
          refine hK.out _ _ ?_ (fun hHeld => ?_)
          · (((try dsimp only); (repeat' apply And.intro) <;> first | (go_keep; done) | (simp (disch := first | omega | (simp <;> omega) | fail) [*]; done) | fail))
          clear hK K
          try simp only [Act.put, List.setIfInBounds_toArray, List.set_cons_zero, List.set_cons_succ]
          refine wpAnyH_ready (rs := [8]) (by kernel_rfl) (by simp) ?_
          refine AllReadyH.cons (by simp only [List.getElem?_toArray, List.getElem?_cons_zero, List.getElem?_cons_succ]; rfl) ?_ AllReadyH.nil
          intro K hK
          go_simp
          refine hK.out _ _ ?_ (fun hHeld => ?_)
          · (((try dsimp only); (repeat' apply And.intro) <;> first | (go_keep; done) | (simp (disch := first | omega | (simp <;> omega) | fail) [*]; done) | fail))
          clear hK K
          try simp only [Act.put, List.setIfInBounds_toArray, List.set_cons_zero, List.set_cons_succ]
          refine wpAnyH_done (by kernel_rfl) ?_ _
          obtain ⟨X, hX⟩ : ∃ X, X = w5.alloc (.cells #[.int .i64 r1, .int .i64 r2, .string r3] 30) := ⟨_, rfl⟩
          obtain ⟨CB, hCB⟩ : ∃ CB, w5.heap.size = CB := ⟨_, rfl⟩
          have n0 : X.cell? ⟨CB, 0, none⟩ = some (.int .i64 r1) := by rw [hX, ← hCB]; simp
          have n1 : X.cell? ⟨CB, 1, none⟩ = some (.int .i64 r2) := by rw [hX, ← hCB]; simp
          have n2 : X.cell? ⟨CB, 2, none⟩ = some (.string r3) := by rw [hX, ← hCB]; simp
          have OX : Hid (X.ownsRow W.heap.size 30 3 (.slice (some ⟨gp, 0, none⟩) m' cp) m' (flat (P.take m'))) := by
            rw [hX]
            exact own_shrink9 (O5.out.alloc _) m' hmle
          have hxX : Below W.heap.size W X := by rw [hX]; exact hx5.alloc hx5.size _
          have hgC : gp ≠ CB := by omega
          have hCX : CB < X.heap.size := by rw [hX, ← hCB]; simp
          rw [← hX]
          try rw [hCB]
          clear hX hCB O5 hx5 l0 l1 l2 l3 l4 hHeld
          go_wp2_with fail
          refine wp_region_held_drew (S := (fun w' => w'.cell? ⟨CB, 0, none⟩ = some (.int .i64 r1) ∧ w'.cell? ⟨CB, 1, none⟩ = some (.int .i64 r2) ∧ w'.cell? ⟨CB, 2, none⟩ = some (.string r3))) (by kernel_rfl) ?_ (fun hHeld => ?_)
          · (((try dsimp only); (repeat' apply And.intro) <;> first | (go_keep; done) | (simp (disch := first | omega | (simp <;> omega) | fail) [*]; done) | fail))
          refine wpAnyH_take (i := 0) (by simp only [List.getElem?_toArray, List.getElem?_cons_zero]; rfl) (by kernel_rfl) (by kernel_rfl) (by kernel_rfl) (by intro _ _ _ h; exact h) (Or.inl ⟨by rfl, fun w hSw => by (dsimp only at hSw; go_simp; (try with_reducible rfl))⟩) (by assumption) ?_
          simp only [Act.put, List.setIfInBounds_toArray, List.set_cons_zero, List.set_cons_succ]
          refine wpAnyH_take (i := 1) (by simp only [List.getElem?_toArray, List.getElem?_cons_zero, List.getElem?_cons_succ]; rfl) (by kernel_rfl) (by kernel_rfl) (by kernel_rfl) (by intro _ _ _ h; exact h) (Or.inl ⟨by rfl, fun w hSw => by (dsimp only at hSw; go_simp; (try with_reducible rfl))⟩) (by assumption) ?_
          simp only [Act.put, List.setIfInBounds_toArray, List.set_cons_zero, List.set_cons_succ]
          refine wpAnyH_take (i := 2) (by simp only [List.getElem?_toArray, List.getElem?_cons_zero, List.getElem?_cons_succ]; rfl) (by kernel_rfl) (by kernel_rfl) (by kernel_rfl) (by intro _ _ _ h; exact h) (Or.inl ⟨by rfl, fun w hSw => by (dsimp only at hSw; go_simp; (try with_reducible rfl))⟩) (by assumption) ?_
          simp only [Act.put, List.setIfInBounds_toArray, List.set_cons_zero, List.set_cons_succ]
          refine wpAnyH_take (i := 3) (by simp only [List.getElem?_toArray, List.getElem?_cons_zero, List.getElem?_cons_succ]; rfl) (by kernel_rfl) (by kernel_rfl) (by kernel_rfl) (by intro _ _ _ h; exact h) (Or.inl ⟨by rfl, fun w hSw => by (dsimp only at hSw; go_simp; (try with_reducible rfl))⟩) (by assumption) ?_
          simp only [Act.put, List.setIfInBounds_toArray, List.set_cons_zero, List.set_cons_succ]
          refine wpAnyH_ready (rs := [4]) (by kernel_rfl) (by simp) ?_
          refine AllReadyH.cons (by simp only [List.getElem?_toArray, List.getElem?_cons_zero, List.getElem?_cons_succ]; rfl) ?_ AllReadyH.nil
          intro K hK
          go_simp
          refine hK.out _ _ ?_ (fun hHeld => ?_)
          · (((try dsimp only); (repeat' apply And.intro) <;> first | (go_keep; done) | (simp (disch := first | omega | (simp <;> omega) | fail) [*]; done) | fail))
          clear hK K
          try simp only [Act.put, List.setIfInBounds_toArray, List.set_cons_zero, List.set_cons_succ]
          have hxY : Below W.heap.size W (X.alloc (.cells #[.int .i64 r1, .int .i64 r2, .string r3] 30)).drew := (hxX.alloc hxX.size _).drew
          have hsY := hxY.size
          have OY : Hid ((X.alloc (.cells #[.int .i64 r1, .int .i64 r2, .string r3] 30)).drew.ownsRow W.heap.size 30 3 (.slice (some ⟨gp, 0, none⟩) m' cp) m' (flat (P.take m'))) := own_below (OX.out.alloc _) ((Below.refl _ _).drew)
          refine wpAnyH_ready (rs := [5]) (by kernel_rfl) (by simp) ?_
          refine AllReadyH.cons (by simp only [List.getElem?_toArray, List.getElem?_cons_zero, List.getElem?_cons_succ]; rfl) ?_ AllReadyH.nil
          intro K hK
          rw [if_pos (by rfl)]
          refine wp_append_own _ _ _ 26 rfl W.heap.size 30 i0 (.agg #[.int .i64 0, .int .i64 0, .string ⟨#[]⟩]) 3 32 Tryz.underlying26 hti hz0 hz1 hz2 rfl (by decide) (.slice (some ⟨gp, 0, none⟩) m' cp) m' (flat (P.take m')) rfl OY.out ⟨X.heap.size, 0, none⟩ 1 1 [.int .i64 r1, .int .i64 r2, .string r3] rfl rfl (cells3n X _ _ _ _) (by intro u hu; simp at hu; rcases hu with rfl | rfl | rfl <;> rfl) (by unfold maxLen; omega) (by omega) hsY ?_
          intro v' W9 own9 hgrow hnn
          have hx9 : Below W.heap.size W W9 := hxY.grown hgrow hsY (fun kk hkk => (OY.out.lt kk hkk).1)
          have hvn2 : v' ≠ .slice none 0 0 := by first | exact hnn | exact fun e => by have := (hnn.1 e).1; cases this
          have SS : Hid (W9.ownsRow W.heap.size 30 3 v' (P.take m' ++ [(r1, r2, r3)]).length (flat (P.take m' ++ [(r1, r2, r3)]))) := by
            rw [flat_snoc9, List.length_append, HLN.out]
            exact own9
          have hk9 : ∀ j, W9.cell? ⟨CB, j, none⟩ = (X.alloc (.cells #[.int .i64 r1, .int .i64 r2, .string r3] 30)).drew.cell? ⟨CB, j, none⟩ := fun j => World.cell?_of_block (a := ⟨CB, j, none⟩) (hgrow.block CB (by simp [World.drew]; omega) (by show some CB ≠ some gp; simp only [ne_eq, Option.some.injEq]; omega))
          have m0 : W9.cell? ⟨CB, 0, none⟩ = some (.int .i64 r1) := by rw [hk9]; exact hHeld.1
          have m1 : W9.cell? ⟨CB, 1, none⟩ = some (.int .i64 r2) := by rw [hk9]; exact hHeld.2.1
          have m2 : W9.cell? ⟨CB, 2, none⟩ = some (.string r3) := by rw [hk9]; exact hHeld.2.2
          refine hK.out _ _ ⟨m0, m1, m2⟩ (fun hHeld => ?_)
          clear hK K own9 hgrow hnn OY OX hk9 n0 n1 n2
          try simp only [Act.put, List.setIfInBounds_toArray, List.set_cons_zero, List.set_cons_succ]
          refine wpAnyH_take (i := 6) (by simp only [List.getElem?_toArray, List.getElem?_cons_zero, List.getElem?_cons_succ]; rfl) (by kernel_rfl) (by kernel_rfl) (by kernel_rfl) (by intro _ _ _ h; exact h) (Or.inl ⟨by rfl, fun w hSw => by (dsimp only at hSw; go_simp; (try with_reducible rfl))⟩) (by assumption) ?_
          simp only [Act.put, List.setIfInBounds_toArray, List.set_cons_zero, List.set_cons_succ]
          refine wpAnyH_done (by kernel_rfl) ?_ _
          go_wp2
          go_roundw
          case rel => exact ⟨k + 1, _, by omega, by go_num, HFin, HFt, SS, hvn2, hx9⟩
          case measure => simp [intOf]; omega
        · obtain rfl : r = (zeroC, f) := HFault.out hf
          have hxw := chain hWb hx5
          go_wp2
          exact ⟨rfl, .inr ⟨hf, rfl⟩, hxw⟩
      · intro K hK
        go_simp
        refine hK.out _ _ ?_ (fun hHeld => ?_)
        · (((try dsimp only); (repeat' apply And.intro) <;> first | (go_keep; done) | (simp (disch := first | omega | (simp <;> omega) | fail) [*]; done) | fail))
        clear hK K
        try simp only [Act.put, List.setIfInBounds_toArray, List.set_cons_zero, List.set_cons_succ]
        obtain ⟨V2, hV2⟩ : ∃ V2, V2 = (V.alloc (.cells #[.int .i64 0, .int .i64 0, .string ⟨#[]⟩] 30)).drew := ⟨_, rfl⟩
        obtain ⟨CB, hCB⟩ : ∃ CB, V.heap.size = CB := ⟨_, rfl⟩
        have hd : Below V.heap.size V V2 := by rw [hV2]; exact ((Below.refl _ _).alloc (Nat.le_refl _) _).drew
        have b0 : V2.cell? ⟨CB, 0, none⟩ = some (.int .i64 0) := by rw [hV2, ← hCB]; simp
        have b1 : V2.cell? ⟨CB, 1, none⟩ = some (.int .i64 0) := by rw [hV2, ← hCB]; simp
        have b2 : V2.cell? ⟨CB, 2, none⟩ = some (.string ⟨#[]⟩) := by rw [hV2, ← hCB]; simp
        have z0 : V2.frozen? ⟨CB, 0, none⟩ = false := by rw [hV2, ← hCB]; simp
        have z1 : V2.frozen? ⟨CB, 1, none⟩ = false := by rw [hV2, ← hCB]; simp
        have z2 : V2.frozen? ⟨CB, 2, none⟩ = false := by rw [hV2, ← hCB]; simp
        have hCV : CB < V2.heap.size := by rw [hV2, ← hCB]; simp [World.drew]
        have hXV : XB < V2.heap.size := by have := hd.size; omega
        have hCBX : XB < CB := by omega
        have f0 : V2.cell? ⟨XB, 0, none⟩ = some (.int .i64 xk) := by rw [hd.cell (p := ⟨XB, 0, none⟩) hVs]; exact e0
        have f1 : V2.cell? ⟨XB, 1, none⟩ = some (.int .i64 xa) := by rw [hd.cell (p := ⟨XB, 1, none⟩) hVs]; exact e1
        have f2 : V2.cell? ⟨XB, 2, none⟩ = some (.int .i64 xb) := by rw [hd.cell (p := ⟨XB, 2, none⟩) hVs]; exact e2
        have f3 : V2.cell? ⟨XB, 3, none⟩ = some (.string xc) := by rw [hd.cell (p := ⟨XB, 3, none⟩) hVs]; exact e3
        have f4 : V2.cell? ⟨XB, 4, none⟩ = some (.string xs) := by rw [hd.cell (p := ⟨XB, 4, none⟩) hVs]; exact e4
        have hgCB : gp < CB := by omega
        rw [← hV2]
        try rw [hCB]
        have HCD : Hid (V.heap.size = CB) := hCB
        clear hV2 hCB
        refine wpAnyH_ready (rs := [6]) (by kernel_rfl) (by simp) ?_
        refine AllReadyH.cons (by simp only [List.getElem?_toArray, List.getElem?_cons_zero, List.getElem?_cons_succ]; rfl) ?_ AllReadyH.nil
        intro K hK
        go_simp
        refine (HCALL.out V2 gp pa (cp - m') ca cc ra rc HPA.out (HRowP.out _ hd) (HColP.out _ hd) (HRwP.out _ hd)).mono ?_
        rintro e w5 ⟨hOut, hb5⟩
        have hdx := chain hd hb5
        have hx5 := chain hxV hdx
        have l0 : w5.cell? ⟨XB, 0, none⟩ = some (.int .i64 xk) := by rw [hb5.cell (p := ⟨XB, 0, none⟩) hXV]; exact f0
        have l1 : w5.cell? ⟨XB, 1, none⟩ = some (.int .i64 xa) := by rw [hb5.cell (p := ⟨XB, 1, none⟩) hXV]; exact f1
        have l2 : w5.cell? ⟨XB, 2, none⟩ = some (.int .i64 xb) := by rw [hb5.cell (p := ⟨XB, 2, none⟩) hXV]; exact f2
        have l3 : w5.cell? ⟨XB, 3, none⟩ = some (.string xc) := by rw [hb5.cell (p := ⟨XB, 3, none⟩) hXV]; exact f3
        have l4 : w5.cell? ⟨XB, 4, none⟩ = some (.string xs) := by rw [hb5.cell (p := ⟨XB, 4, none⟩) hXV]; exact f4
        have i0' : w5.cell? ⟨CB, 0, none⟩ = some (.int .i64 0) := by rw [hb5.cell (p := ⟨CB, 0, none⟩) hCV]; exact b0
        have i1' : w5.cell? ⟨CB, 1, none⟩ = some (.int .i64 0) := by rw [hb5.cell (p := ⟨CB, 1, none⟩) hCV]; exact b1
        have i2' : w5.cell? ⟨CB, 2, none⟩ = some (.string ⟨#[]⟩) := by rw [hb5.cell (p := ⟨CB, 2, none⟩) hCV]; exact b2
        have y0 : w5.frozen? ⟨CB, 0, none⟩ = false := by rw [hb5.frozen (p := ⟨CB, 0, none⟩) hCV]; exact z0
        have y1 : w5.frozen? ⟨CB, 1, none⟩ = false := by rw [hb5.frozen (p := ⟨CB, 1, none⟩) hCV]; exact z1
        have y2 : w5.frozen? ⟨CB, 2, none⟩ = false := by rw [hb5.frozen (p := ⟨CB, 2, none⟩) hCV]; exact z2
        have hC5 : CB < w5.heap.size := by have := hb5.size; omega
        have O5 : Hid (w5.ownsRow W.heap.size 30 3 (.slice (some ⟨gp, 0, none⟩) p cp) p (flat P)) := own_below O2.out hdx
        have hWC : W.heap.size ≤ CB := by omega
        have hgC : gp ≠ CB := by omega
        clear hb5 hdx e0 e1 e2 e3 e4 f0 f1 f2 f3 f4 O2 HRowP HColP HRwP hd b0 b1 b2 z0 z1 z2 hHeld HCD
        rcases hOut with ⟨hf, rfl⟩ | ⟨hf, rfl⟩
        · subst hf
          have HFin : Hid (runR C R (l.take (k + 1)) [] = (P.take m' ++ [(r1, r2, r3)], 0)) := HFinI.out rfl
          go_wp2_with fail
          refine hK.out _ _ ?_ (fun hHeld => ?_)
          · (((try dsimp only); (repeat' apply And.intro) <;> first | (go_keep; done) | (simp (disch := first | omega | (simp <;> omega) | fail) [*]; done) | fail))
          clear hK K
          try simp only [Act.put, List.setIfInBounds_toArray, List.set_cons_zero, List.set_cons_succ]
          refine wpAnyH_ready (rs := [8]) (by kernel_rfl) (by simp) ?_
          refine AllReadyH.cons (by simp only [List.getElem?_toArray, List.getElem?_cons_zero, List.getElem?_cons_succ]; rfl) ?_ AllReadyH.nil
          intro K hK
          go_simp
          refine hK.out _ _ ?_ (fun hHeld => ?_)
          · (((try dsimp only); (repeat' apply And.intro) <;> first | (go_keep; done) | (simp (disch := first | omega | (simp <;> omega) | fail) [*]; done) | fail))
          clear hK K
          try simp only [Act.put, List.setIfInBounds_toArray, List.set_cons_zero, List.set_cons_succ]
          refine wpAnyH_done (by kernel_rfl) ?_ _
          obtain ⟨X, hX⟩ : ∃ X, X = ((w5.setCell ⟨CB, 0, none⟩ (.int .i64 r1)).setCell ⟨CB, 1, none⟩ (.int .i64 r2)).setCell ⟨CB, 2, none⟩ (.string r3) := ⟨_, rfl⟩
          have n0 : X.cell? ⟨CB, 0, none⟩ = some (.int .i64 r1) := by rw [hX]; simp [i0']
          have n1 : X.cell? ⟨CB, 1, none⟩ = some (.int .i64 r2) := by rw [hX]; simp [i1']
          have n2 : X.cell? ⟨CB, 2, none⟩ = some (.string r3) := by rw [hX]; simp [i2']
          have OX : Hid (X.ownsRow W.heap.size 30 3 (.slice (some ⟨gp, 0, none⟩) m' cp) m' (flat (P.take m'))) := by
            rw [hX]
            exact own_shrink9 (own_far9 (own_far9 (own_far9 O5.out _ _ _ hgC) _ _ _ hgC) _ _ _ hgC) m' hmle
          have hxX : Below W.heap.size W X := by rw [hX]; exact ((hx5.setCell hWC _).setCell hWC _).setCell hWC _
          have hCX : CB < X.heap.size := by rw [hX]; simpa using hC5
          rw [← hX]
          clear hX O5 hx5 l0 l1 l2 l3 l4 i0' i1' i2' y0 y1 y2 hHeld
          go_wp2_with fail
          refine wp_region_held_drew (S := (fun w' => w'.cell? ⟨CB, 0, none⟩ = some (.int .i64 r1) ∧ w'.cell? ⟨CB, 1, none⟩ = some (.int .i64 r2) ∧ w'.cell? ⟨CB, 2, none⟩ = some (.string r3))) (by kernel_rfl) ?_ (fun hHeld => ?_)
          · (((try dsimp only); (repeat' apply And.intro) <;> first | (go_keep; done) | (simp (disch := first | omega | (simp <;> omega) | fail) [*]; done) | fail))
          refine wpAnyH_take (i := 0) (by simp only [List.getElem?_toArray, List.getElem?_cons_zero]; rfl) (by kernel_rfl) (by kernel_rfl) (by kernel_rfl) (by intro _ _ _ h; exact h) (Or.inl ⟨by rfl, fun w hSw => by (dsimp only at hSw; go_simp; (try with_reducible rfl))⟩) (by assumption) ?_
          simp only [Act.put, List.setIfInBounds_toArray, List.set_cons_zero, List.set_cons_succ]
          refine wpAnyH_take (i := 1) (by simp only [List.getElem?_toArray, List.getElem?_cons_zero, List.getElem?_cons_succ]; rfl) (by kernel_rfl) (by kernel_rfl) (by kernel_rfl) (by intro _ _ _ h; exact h) (Or.inl ⟨by rfl, fun w hSw => by (dsimp only at hSw; go_simp; (try with_reducible rfl))⟩) (by assumption) ?_
          simp only [Act.put, List.setIfInBounds_toArray, List.set_cons_zero, List.set_cons_succ]
          refine wpAnyH_take (i := 2) (by simp only [List.getElem?_toArray, List.getElem?_cons_zero, List.getElem?_cons_succ]; rfl) (by kernel_rfl) (by kernel_rfl) (by kernel_rfl) (by intro _ _ _ h; exact h) (Or.inl ⟨by rfl, fun w hSw => by (dsimp only at hSw; go_simp; (try with_reducible rfl))⟩) (by assumption) ?_
          simp only [Act.put, List.setIfInBounds_toArray, List.set_cons_zero, List.set_cons_succ]
          refine wpAnyH_take (i := 3) (by simp only [List.getElem?_toArray, List.getElem?_cons_zero, List.getElem?_cons_succ]; rfl) (by kernel_rfl) (by kernel_rfl) (by kernel_rfl) (by intro _ _ _ h; exact h) (Or.inl ⟨by rfl, fun w hSw => by (dsimp only at hSw; go_simp; (try with_reducible rfl))⟩) (by assumption) ?_
          simp only [Act.put, List.setIfInBounds_toArray, List.set_cons_zero, List.set_cons_succ]
          refine wpAnyH_ready (rs := [4]) (by kernel_rfl) (by simp) ?_
          refine AllReadyH.cons (by simp only [List.getElem?_toArray, List.getElem?_cons_zero, List.getElem?_cons_succ]; rfl) ?_ AllReadyH.nil
          intro K hK
          go_simp
          refine hK.out _ _ ?_ (fun hHeld => ?_)
          · (((try dsimp only); (repeat' apply And.intro) <;> first | (go_keep; done) | (simp (disch := first | omega | (simp <;> omega) | fail) [*]; done) | fail))
          clear hK K
          try simp only [Act.put, List.setIfInBounds_toArray, List.set_cons_zero, List.set_cons_succ]
          have hxY : Below W.heap.size W (X.alloc (.cells #[.int .i64 r1, .int .i64 r2, .string r3] 30)).drew := (hxX.alloc hxX.size _).drew
          have hsY := hxY.size
          have OY : Hid ((X.alloc (.cells #[.int .i64 r1, .int .i64 r2, .string r3] 30)).drew.ownsRow W.heap.size 30 3 (.slice (some ⟨gp, 0, none⟩) m' cp) m' (flat (P.take m'))) := own_below (OX.out.alloc _) ((Below.refl _ _).drew)
          refine wpAnyH_ready (rs := [5]) (by kernel_rfl) (by simp) ?_
          refine AllReadyH.cons (by simp only [List.getElem?_toArray, List.getElem?_cons_zero, List.getElem?_cons_succ]; rfl) ?_ AllReadyH.nil
          intro K hK
          rw [if_pos (by rfl)]
          refine wp_append_own _ _ _ 26 rfl W.heap.size 30 i0 (.agg #[.int .i64 0, .int .i64 0, .string ⟨#[]⟩]) 3 32 Tryz.underlying26 hti hz0 hz1 hz2 rfl (by decide) (.slice (some ⟨gp, 0, none⟩) m' cp) m' (flat (P.take m')) rfl OY.out ⟨X.heap.size, 0, none⟩ 1 1 [.int .i64 r1, .int .i64 r2, .string r3] rfl rfl (cells3n X _ _ _ _) (by intro u hu; simp at hu; rcases hu with rfl | rfl | rfl <;> rfl) (by unfold maxLen; omega) (by omega) hsY ?_
          intro v' W9 own9 hgrow hnn
          have hx9 : Below W.heap.size W W9 := hxY.grown hgrow hsY (fun kk hkk => (OY.out.lt kk hkk).1)
          have hvn2 : v' ≠ .slice none 0 0 := by first | exact hnn | exact fun e => by have := (hnn.1 e).1; cases this
          have SS : Hid (W9.ownsRow W.heap.size 30 3 v' (P.take m' ++ [(r1, r2, r3)]).length (flat (P.take m' ++ [(r1, r2, r3)]))) := by
            rw [flat_snoc9, List.length_append, HLN.out]
            exact own9
          have hk9 : ∀ j, W9.cell? ⟨CB, j, none⟩ = (X.alloc (.cells #[.int .i64 r1, .int .i64 r2, .string r3] 30)).drew.cell? ⟨CB, j, none⟩ := fun j => World.cell?_of_block (a := ⟨CB, j, none⟩) (hgrow.block CB (by simp [World.drew]; omega) (by show some CB ≠ some gp; simp only [ne_eq, Option.some.injEq]; omega))
          have m0 : W9.cell? ⟨CB, 0, none⟩ = some (.int .i64 r1) := by rw [hk9]; exact hHeld.1
          have m1 : W9.cell? ⟨CB, 1, none⟩ = some (.int .i64 r2) := by rw [hk9]; exact hHeld.2.1
          have m2 : W9.cell? ⟨CB, 2, none⟩ = some (.string r3) := by rw [hk9]; exact hHeld.2.2
          refine hK.out _ _ ⟨m0, m1, m2⟩ (fun hHeld => ?_)
          clear hK K own9 hgrow hnn OY OX hk9 n0 n1 n2
          try simp only [Act.put, List.setIfInBounds_toArray, List.set_cons_zero, List.set_cons_succ]
          refine wpAnyH_take (i := 6) (by simp only [List.getElem?_toArray, List.getElem?_cons_zero, List.getElem?_cons_succ]; rfl) (by kernel_rfl) (by kernel_rfl) (by kernel_rfl) (by intro _ _ _ h; exact h) (Or.inl ⟨by rfl, fun w hSw => by (dsimp only at hSw; go_simp; (try with_reducible rfl))⟩) (by assumption) ?_
          simp only [Act.put, List.setIfInBounds_toArray, List.set_cons_zero, List.set_cons_succ]
          refine wpAnyH_done (by kernel_rfl) ?_ _
          go_wp2
          go_roundw
          case rel => exact ⟨k + 1, _, by omega, by go_num, HFin, HFt, SS, hvn2, hx9⟩
          case measure => simp [intOf]; omega
        · obtain rfl : r = (zeroC, f) := HFault.out hf
          have hxw := chain hWb hx5
          go_wp2
          exact ⟨rfl, .inr ⟨hf, rfl⟩, hxw⟩
    · have hi1 : ¬ (k : Int) < (n : Int) := by omega
      have ht : l.take k = l := List.take_of_length_le (by rw [HN.out]; omega)
      have hrun := hRun.out
      rw [ht] at hrun
      have hpl := runR_len l [] P 1 hrun HS.out.1
      obtain ⟨c, hc⟩ : ∃ c, P = [c] := by
        match P, hpl with
        | [c], _ => exact ⟨c, rfl⟩
      have hfin : r = (c, 0) := by
        rw [← HSV.out]
        unfold sumV
        rw [hrun, hc]
        rfl
      subst hfin
      subst hc
      rcases hO.out.2 with ⟨h', _⟩ | ⟨gp, cp, cur, h', hbg, _, hcp, _⟩
      · exact absurd h' hvn
      subst h'
      have hgw2 : gp < wr.heap.size := (hO.out.lt gp rfl).2
      have hrow2 : RowAt wr (some ⟨gp, 0, none⟩) [c] := own_row (cap := cp) hO.out
      obtain ⟨_, _, hh1, _, g0, g1, g2⟩ := hrow2 0 (by simp)
      simp only [Option.some.injEq, Addr.mk.injEq, and_true] at hh1
      obtain ⟨rfl, rfl⟩ := hh1
      simp only [Nat.zero_add, Nat.zero_mul, List.getElem_cons_zero] at g0 g1 g2
      obtain ⟨xa, xb, xc⟩ := c
      dsimp only at g0 g1 g2
      obtain ⟨⟨Z0, Z1, Z2⟩, F0, F1, F2⟩ := HZ.out
      have hxw := chain hWb hb
      have s0 := (hb.cell (p := ⟨w.heap.size, 0, none⟩) (by show w.heap.size < W.heap.size; omega)).trans Z0
      have t0 := (hb.frozen (p := ⟨w.heap.size, 0, none⟩) (by show w.heap.size < W.heap.size; omega)).trans F0
      have s1 := (hb.cell (p := ⟨w.heap.size, 1, none⟩) (by show w.heap.size < W.heap.size; omega)).trans Z1
      have t1 := (hb.frozen (p := ⟨w.heap.size, 1, none⟩) (by show w.heap.size < W.heap.size; omega)).trans F1
      have s2 := (hb.cell (p := ⟨w.heap.size, 2, none⟩) (by show w.heap.size < W.heap.size; omega)).trans Z2
      have t2 := (hb.frozen (p := ⟨w.heap.size, 2, none⟩) (by show w.heap.size < W.heap.size; omega)).trans F2
      clear Z0 Z1 Z2 F0 F1 F2
      have hgne : gp ≠ w.heap.size := by omega
      clear hrun hRun hO hrow2 hFP
      show Code.wp _ _ _ _ _
      simp only [List.length_cons, List.length_nil, Nat.zero_add]
      go_wp2
      exact bodyPost_ret (v := .agg #[.int .i64 xa, .int .i64 xb, .string xc]) (by simp [results, Tryz.results39, go_sem, s0, s1, s2]) rfl ⟨.inl ⟨rfl, rfl⟩, ((hxw.setCell (Nat.le_refl _) _).setCell (Nat.le_refl _) _).setCell (Nat.le_refl _) _⟩
end Go.Proofs.YthgbjnchhaoceaaGreatDoor

/-
  The contracts of the program's faultIn and faultOf: what gives up is made a fault at the face.
-/
namespace Go.Proofs.YthgbjnchhaoceaaGreatDoor
open Go.ChangeShapes Go.WideShapes Go.ChangeAt Go.RowKit
attribute [local go_sem ↓] Go.wp_at_zero Go.wp_at_succ
attribute [local simp] World.cell?_alloc_past World.cell?_alloc_at World.frozen?_alloc_at cell_far cell_off cell_here World.frozen?_alloc_past

set_option maxRecDepth 100000 in
set_option maxHeartbeats 1000000 in
theorem faultin_impl (f : Int) (w : World) :
    Calls Tryz.prog 71 #[.iface 64 (.agg #[.int .i64 f])] w fun e w' => e = .returned (.int .i64 f) ∧ Below w.heap.size w w' := by
  have hta : ∀ w : World, (Instr.typeAssert (.iface 64 (.agg #[.int .i64 f])) 20 64 true).run Tryz.prog w = .ok (.tuple #[.agg #[.int .i64 f], .bool true]) w := fun _ => by kernel_rfl
  go_enter Tryz.func71, Tryz.ntmps71
  go_wp2
  go_ret
  exact ⟨rfl, by go_grown⟩
set_option maxRecDepth 100000 in
theorem catch_up (p : Addr) (x f : Int) (older : List PanicEntry) (w : World) (hp : p.block < w.heap.size) (hc : w.cell? p = some (.int .i64 x)) (hz : w.frozen? p = false) :
    CallsD Tryz.prog 70 #[.pointer (some p)] (.panicking ({ v := .iface 64 (.agg #[.int .i64 f]), recovered := false } :: older)) w fun e u' w' =>
      e = .returned (.tuple #[]) ∧ u' = .panicking ({ v := .iface 64 (.agg #[.int .i64 f]), recovered := true } :: older) ∧ ∃ W, Below w.heap.size w W ∧ w' = W.setCell p (.int .i64 f) := by
  refine callsD_of_wpS Tryz.func70 rfl fun c₀ cs hu => ?_
  apply wpS_seq
  apply wpS_region
  simp [wpOpsS, go_sem, recoverD, hu, Tryz.ntmps70, Exit.thenS]
  refine wpS_of_wp ?_
  change Code.wp _ _ _ { tmps := #[.pointer (some p), .iface 64 (.agg #[.int .i64 f]), .iface 64 (.agg #[.int .i64 f]), undef, undef, undef, undef], defers := [] } w
  have hne : ∀ w : World, (binOp .neq 20 (.iface 64 (.agg #[.int .i64 f])) .nilIface).run Tryz.prog w = .ok (.bool true) w := fun _ => by kernel_rfl
  go_wp2_with fail
  refine (faultin_impl f _).mono ?_
  rintro e w1 ⟨rfl, hb1⟩
  have hc1 : w1.cell? p = some (.int .i64 x) := by rw [hb1.cell hp]; exact hc
  have hz1 : w1.frozen? p = false := by rw [hb1.frozen hp]; exact hz
  go_wp2
  refine ⟨rfl, _, rfl, .tuple #[], by simp [results, Tryz.results70], rfl, rfl, w1, hb1, rfl⟩
set_option maxRecDepth 100000 in
theorem catch_none (p : Addr) (w : World) :
    CallsD Tryz.prog 70 #[.pointer (some p)] .returning w fun e u' w' => e = .returned (.tuple #[]) ∧ u' = .returning ∧ w' = w := by
  refine callsD_of_wpS Tryz.func70 rfl fun c₀ cs hu => ?_
  apply wpS_seq
  apply wpS_region
  simp [wpOpsS, go_sem, recoverD, hu, Tryz.ntmps70, Exit.thenS]
  refine wpS_of_wp ?_
  change Code.wp _ _ _ { tmps := #[.pointer (some p), .nilIface, .nilIface, undef, undef, undef, undef], defers := [] } w
  go_wp2
  exact ⟨rfl, .returning, by rw [← hu], .tuple #[], by simp [results, Tryz.results70], rfl, rfl, rfl⟩
set_option maxRecDepth 100000 in
set_option maxHeartbeats 1000000 in
theorem faultof_impl (g : Nat) (hent : ∀ (xs : Array Value) (w : World), (callFunc g xs).run Tryz.prog w = .ok (.enter g xs) w) (cv : Array Value) (w : World) (f : Int) (K : World → Prop)
    (hcall : Calls Tryz.prog g cv (w.alloc (.cells #[.int .i64 0] 2)) fun e w2 => ((f = 0 ∧ e = .returned (.tuple #[])) ∨ (f ≠ 0 ∧ e = .panicked (gaveUp f))) ∧ K w2)
    (hK : ∀ w2, K w2 → w.heap.size < w2.heap.size ∧ w2.cell? ⟨w.heap.size, 0, none⟩ = some (.int .i64 0) ∧ w2.frozen? ⟨w.heap.size, 0, none⟩ = false) :
    Calls Tryz.prog 37 #[.func (.func g) #[] cv] w fun e w' => e = .returned (.int .i64 f) ∧ ∃ w2 W, K w2 ∧ Below w2.heap.size w2 W ∧ w' = W.setCell ⟨w.heap.size, 0, none⟩ (.int .i64 f) := by
  have HC : Hid (Calls Tryz.prog g cv (w.alloc (.cells #[.int .i64 0] 2)) fun e w2 => ((f = 0 ∧ e = .returned (.tuple #[])) ∨ (f ≠ 0 ∧ e = .panicked (gaveUp f))) ∧ K w2) := hcall
  have HK : Hid (∀ w2, K w2 → w.heap.size < w2.heap.size ∧ w2.cell? ⟨w.heap.size, 0, none⟩ = some (.int .i64 0) ∧ w2.frozen? ⟨w.heap.size, 0, none⟩ = false) := hK
  clear hcall hK
  have hmf : ∀ (fn : Fn) (first cap : Array Value) (w : World), (Instr.makeFunc fn first cap).run Tryz.prog w = .ok (.func fn first cap) w := fun _ _ _ _ => rfl
  go_enter_defers Tryz.func37, Tryz.ntmps37
  go_wp2_with fail
  refine HC.out.mono ?_
  rintro e w2 ⟨hE, hk2⟩
  obtain ⟨hl, hc, hz⟩ := HK.out w2 hk2
  have HKW : Hid (K w2) := hk2
  rcases hE with ⟨rfl, rfl⟩ | ⟨hf, rfl⟩
  · go_wp2
    refine leaves_cons (f := 70) (args := #[.pointer (some ⟨w.heap.size, 0, none⟩)]) (by simp) (by simp [go_sem]) ?_
    refine (catch_none ⟨w.heap.size, 0, none⟩ _).mono ?_
    rintro e u' w'' ⟨rfl, rfl, rfl⟩
    exact ⟨.int .i64 0, by simp [results, Tryz.results37, go_sem, hc], rfl, w2, w2, HKW.out, Below.refl _ _, rfl⟩
  · go_wp2
    refine leaves_cons (f := 70) (args := #[.pointer (some ⟨w.heap.size, 0, none⟩)]) (by simp) (by simp [go_sem]) ?_
    refine (catch_up ⟨w.heap.size, 0, none⟩ 0 f [] w2 hl hc hz).mono ?_
    rintro e u' w'' ⟨rfl, rfl, W, hb, rfl⟩
    have hcW : W.cell? ⟨w.heap.size, 0, none⟩ = some (.int .i64 0) := by rw [hb.cell (p := ⟨w.heap.size, 0, none⟩) hl]; exact hc
    exact ⟨.int .i64 f, by simp [results, Tryz.results37, go_sem, hcW], rfl, w2, W, HKW.out, hb, rfl⟩
end Go.Proofs.YthgbjnchhaoceaaGreatDoor

/-
  What comes of right answers, by their ranks; and the contracts of the program's and the model's functions with what comes named by letters.
-/
namespace Go.Proofs.YthgbjnchhaoceaaGreatDoor
open Go.ChangeShapes Go.WideShapes Go.ChangeAt Go.RowKit

theorem rk_of {k n : Int} {t : ByteArray} (h : threeB k n t = true) : ∃ x, (0 ≤ x ∧ x ≤ 2) ∧ k = rkK x ∧ n = rkN x ∧ t = ⟨#[]⟩ := by
  rcases three_cases h with ⟨rfl, rfl, rfl⟩ | ⟨rfl, rfl, rfl⟩ | ⟨rfl, rfl, rfl⟩
  · exact ⟨1, by omega, rfl, rfl, rfl⟩
  · exact ⟨0, by omega, rfl, rfl, rfl⟩
  · exact ⟨2, by omega, rfl, rfl, rfl⟩

theorem rk_right {x : Int} (h : 0 ≤ x ∧ x ≤ 2) : threeB (rkK x) (rkN x) ⟨#[]⟩ = true ∧ rankI (rkK x) (rkN x) = x := by
  rcases (show x = 0 ∨ x = 1 ∨ x = 2 by omega) with rfl | rfl | rfl
  all_goals exact ⟨by simp [threeB, okB, rkK, rkN], by simp [rankI, rkK, rkN]⟩

theorem both_rk {x y p : Int} (hx : 0 ≤ x ∧ x ≤ 2) (hy : 0 ≤ y ∧ y ≤ 2) (hp : min x y = p) : bothR (rkK x) (rkN x) ⟨#[]⟩ (rkK y) (rkN y) ⟨#[]⟩ = (rkK p, rkN p, 0) := by
  unfold bothR
  rw [(rk_right hx).1, (rk_right hy).1, (rk_right hx).2, (rk_right hy).2, hp]; rfl
theorem either_rk {x y p : Int} (hx : 0 ≤ x ∧ x ≤ 2) (hy : 0 ≤ y ∧ y ≤ 2) (hp : max x y = p) : eitherR (rkK x) (rkN x) ⟨#[]⟩ (rkK y) (rkN y) ⟨#[]⟩ = (rkK p, rkN p, 0) := by
  unfold eitherR
  rw [(rk_right hx).1, (rk_right hy).1, (rk_right hx).2, (rk_right hy).2, hp]; rfl
theorem not_rk {x p : Int} (hx : 0 ≤ x ∧ x ≤ 2) (hp : 2 - x = p) : notR (rkK x) (rkN x) ⟨#[]⟩ = (rkK p, rkN p, 0) := by
  unfold notR
  rw [(rk_right hx).1, (rk_right hx).2, hp]; rfl
theorem holds_rk {x : Int} (hx : 0 ≤ x ∧ x ≤ 2) : sameB (rkK x) (rkN x) ⟨#[]⟩ 3 1 ⟨#[]⟩ = decide (x = 2) := by
  rcases (show x = 0 ∨ x = 1 ∨ x = 2 by omega) with rfl | rfl | rfl <;> simp [sameB, rkK, rkN]

theorem both_wrong {k1 n1 : Int} {t1 : ByteArray} {k2 n2 : Int} {t2 : ByteArray} (h : (threeB k1 n1 t1 && threeB k2 n2 t2) = false) : bothR k1 n1 t1 k2 n2 t2 = (0, 0, 3) := by
  unfold bothR; rw [h]; rfl
theorem either_wrong {k1 n1 : Int} {t1 : ByteArray} {k2 n2 : Int} {t2 : ByteArray} (h : (threeB k1 n1 t1 && threeB k2 n2 t2) = false) : eitherR k1 n1 t1 k2 n2 t2 = (0, 0, 3) := by
  unfold eitherR; rw [h]; rfl
theorem none_ok {k n : Int} {t : ByteArray} (h : okB k n t = true) : noneR k n t = (3, (if k = 0 then 1 else 0), 0) := by unfold noneR; rw [h]; rfl
theorem none_wrong {k n : Int} {t : ByteArray} (h : okB k n t = false) : noneR k n t = (0, 0, 3) := by unfold noneR; rw [h]; rfl
theorem none_holds {k m : Int} (hm : (if k = 0 then 1 else 0) = m) : sameB 3 m ⟨#[]⟩ 3 1 ⟨#[]⟩ = (k == 0) := by
  subst hm
  by_cases h : k = 0 <;> simp [sameB, h]

theorem both_impl' (k1 n1 : Int) (t1 : ByteArray) (k2 n2 : Int) (t2 : ByteArray) (x y z : Int) (hR : Hid (bothR k1 n1 t1 k2 n2 t2 = (x, y, z))) (w : World) (ht1 : t1.size ≤ maxLen) (ht2 : t2.size ≤ maxLen) :
    Calls Tryz.prog 131 #[.agg #[.int .i64 k1, .int .i64 n1, .string t1], .agg #[.int .i64 k2, .int .i64 n2, .string t2]] w fun e w' => e = .returned (.tuple #[.agg #[.int .i64 x, .int .i64 y, .string ⟨#[]⟩], .int .i64 z]) ∧ Below w.heap.size w w' := by
  have h := both_impl k1 n1 t1 k2 n2 t2 w ht1 ht2
  rw [hR.out] at h; exact h
theorem both_spec' (k1 n1 : Int) (t1 : ByteArray) (k2 n2 : Int) (t2 : ByteArray) (x y z : Int) (hR : Hid (bothR k1 n1 t1 k2 n2 t2 = (x, y, z))) (w : World) (ht1 : t1.size ≤ maxLen) (ht2 : t2.size ≤ maxLen) :
    Calls Tryz.prog 107 #[.agg #[.int .i64 k1, .int .i64 n1, .string t1], .agg #[.int .i64 k2, .int .i64 n2, .string t2]] w fun e w' => e = .returned (.tuple #[.agg #[.int .i64 x, .int .i64 y, .string ⟨#[]⟩], .int .i64 z]) ∧ Below w.heap.size w w' := by
  have h := both_spec k1 n1 t1 k2 n2 t2 w ht1 ht2
  rw [hR.out] at h; exact h
theorem either_impl' (k1 n1 : Int) (t1 : ByteArray) (k2 n2 : Int) (t2 : ByteArray) (x y z : Int) (hR : Hid (eitherR k1 n1 t1 k2 n2 t2 = (x, y, z))) (w : World) (ht1 : t1.size ≤ maxLen) (ht2 : t2.size ≤ maxLen) :
    Calls Tryz.prog 132 #[.agg #[.int .i64 k1, .int .i64 n1, .string t1], .agg #[.int .i64 k2, .int .i64 n2, .string t2]] w fun e w' => e = .returned (.tuple #[.agg #[.int .i64 x, .int .i64 y, .string ⟨#[]⟩], .int .i64 z]) ∧ Below w.heap.size w w' := by
  have h := either_impl k1 n1 t1 k2 n2 t2 w ht1 ht2
  rw [hR.out] at h; exact h
theorem either_spec' (k1 n1 : Int) (t1 : ByteArray) (k2 n2 : Int) (t2 : ByteArray) (x y z : Int) (hR : Hid (eitherR k1 n1 t1 k2 n2 t2 = (x, y, z))) (w : World) (ht1 : t1.size ≤ maxLen) (ht2 : t2.size ≤ maxLen) :
    Calls Tryz.prog 108 #[.agg #[.int .i64 k1, .int .i64 n1, .string t1], .agg #[.int .i64 k2, .int .i64 n2, .string t2]] w fun e w' => e = .returned (.tuple #[.agg #[.int .i64 x, .int .i64 y, .string ⟨#[]⟩], .int .i64 z]) ∧ Below w.heap.size w w' := by
  have h := either_spec k1 n1 t1 k2 n2 t2 w ht1 ht2
  rw [hR.out] at h; exact h
theorem not_impl' (k n : Int) (t : ByteArray) (x y z : Int) (hR : Hid (notR k n t = (x, y, z))) (w : World) (ht : t.size ≤ maxLen) :
    Calls Tryz.prog 133 #[.agg #[.int .i64 k, .int .i64 n, .string t]] w fun e w' => e = .returned (.tuple #[.agg #[.int .i64 x, .int .i64 y, .string ⟨#[]⟩], .int .i64 z]) ∧ Below w.heap.size w w' := by
  have h := not_impl k n t w ht
  rw [hR.out] at h; exact h
theorem not_spec' (k n : Int) (t : ByteArray) (x y z : Int) (hR : Hid (notR k n t = (x, y, z))) (w : World) (ht : t.size ≤ maxLen) :
    Calls Tryz.prog 99 #[.agg #[.int .i64 k, .int .i64 n, .string t]] w fun e w' => e = .returned (.tuple #[.agg #[.int .i64 x, .int .i64 y, .string ⟨#[]⟩], .int .i64 z]) ∧ Below w.heap.size w w' := by
  have h := not_spec k n t w ht
  rw [hR.out] at h; exact h
theorem none_impl' (k n : Int) (t : ByteArray) (x y z : Int) (hR : Hid (noneR k n t = (x, y, z))) (w : World) (ht : t.size ≤ maxLen) :
    Calls Tryz.prog 134 #[.agg #[.int .i64 k, .int .i64 n, .string t]] w fun e w' => e = .returned (.tuple #[.agg #[.int .i64 x, .int .i64 y, .string ⟨#[]⟩], .int .i64 z]) ∧ Below w.heap.size w w' := by
  have h := none_impl k n t w ht
  rw [hR.out] at h; exact h
theorem none_spec' (k n : Int) (t : ByteArray) (x y z : Int) (hR : Hid (noneR k n t = (x, y, z))) (w : World) (ht : t.size ≤ maxLen) :
    Calls Tryz.prog 100 #[.agg #[.int .i64 k, .int .i64 n, .string t]] w fun e w' => e = .returned (.tuple #[.agg #[.int .i64 x, .int .i64 y, .string ⟨#[]⟩], .int .i64 z]) ∧ Below w.heap.size w w' := by
  have h := none_spec k n t w ht
  rw [hR.out] at h; exact h
theorem holds_implb (k n : Int) (t : ByteArray) (b : Bool) (hb : sameB k n t 3 1 ⟨#[]⟩ = b) (w : World) :
    Calls Tryz.prog 42 #[.agg #[.int .i64 k, .int .i64 n, .string t]] w fun e w' => e = .returned (.bool b) ∧ Below w.heap.size w w' := by
  subst hb; exact holds_impl k n t w

end Go.Proofs.YthgbjnchhaoceaaGreatDoor
