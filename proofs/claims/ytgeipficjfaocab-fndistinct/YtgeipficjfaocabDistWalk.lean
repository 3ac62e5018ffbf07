/-
  The walk of the law FnDistinct.
-/
import Derived.Test.YtgeipficjfaocabDistFacts
namespace Go.Proofs.Ytgeipficjfaocab
open Go.ChangeShapes Go.WideShapes Go.ChangeAt Go.RowKit
attribute [local go_sem ↓] Go.wp_at_zero Go.wp_at_succ
attribute [local simp] World.cell?_alloc_past World.cell?_alloc_at World.frozen?_alloc_at cell_far cell_off cell_here World.frozen?_alloc_past

theorem like_rowRN (n k : Nat) (a b : Option Addr) (ca cb : Nat) (l m : List CT) (hn : l.length = n) (hk : m.length = k) (w : World) (ha : RowAt w a l) (hb : RowAt w b m) (hl : n ≤ maxLen) (r : Bool) (hr : sameRow l m = r) :
    Calls Try.prog 9 #[.slice a n ca, .slice b k cb] w fun e w' => e = .returned (.bool r) ∧ Below w.heap.size w w' := by
  subst hn hk; exact like_rowR a b ca cb l m w ha hb hl r hr
theorem OwnRows.at_ {w : World} {base g c : Nat} {L : List (List CT)} {G C : Nat → Nat} (h : OwnRows w base (.slice (some ⟨g, 0, none⟩) L.length c) L G C) (i : Nat) (hi : i < L.length) (z : Nat) (hz : L[i].length = z) : w.cell? ⟨g, i, none⟩ = some (.slice (some ⟨G i, 0, none⟩) z (C i)) ∧ RowAt w (some ⟨G i, 0, none⟩) L[i] ∧ g < w.heap.size := by
  have hc := h.outer.cellAt i (by omega)
  rw [List.getElem?_map, List.getElem?_range hi] at hc
  have hin := h.inner i hi
  unfold headOf at hin
  have e : L.getD i [] = L[i] := getD_row L i hi
  rw [e] at hin
  have hc2 : w.cell? ⟨g, i, none⟩ = some (.slice (some ⟨G i, 0, none⟩) L[i].length (C i)) := by
    rw [hc]; unfold headOf; rw [Option.map_some, e]
  rw [hz] at hc2
  exact ⟨hc2, own_row hin, World.block_lt_of_cell? w _ hc2⟩

namespace distLaw

set_option maxRecDepth 100000 in
set_option maxHeartbeats 8000000 in
theorem walk {w : World} {a : Option Addr} {len cap : Nat} (row : Code0 w a len) :
    Calls Try.prog 3 #[.slice a len cap] w fun e w' => e = .returned (.bool true) ∧ Below w.heap.size w w' := by
  by_cases hl : 4096 < (len : Int)
  · clear row
    go_enter Try.func3, Try.ntmps3
    go_wp2_with (go_at_call 4; refine (big_laws _ _ _ _).mono ?_; rintro e w' ⟨rfl, rfl⟩)
    go_ret
    exact ⟨rfl, Below.refl _ _⟩
  have hC : Hid (Code0 w a len) := row
  clear row
  go_enter Try.func3, Try.ntmps3
  go_wp2_with fail
  refine (big_laws _ _ _ _).mono ?_
  rintro e w' ⟨rfl, rfl⟩
  go_wp2_with fail
  refine (distinct_draw (by omega) hC.out).mono ?_
  rintro e w1 ⟨v, L, G, C, base, rfl, hv, O1, D, hx⟩
  obtain ⟨gr, cr, rfl⟩ := own_slice O1.outer hv
  have hF0 : ∀ i (hi : i < L.length), Fit L[i] := fun i hi => (D.2 i hi).1
  have hM0 : ∀ i (hi : i < L.length), L[i].length ≤ maxLen := fun i hi => by have := (D.2 i hi).2; unfold maxLen; omega
  have hS0 : ∀ i (hi : i < L.length), L[i].length ≤ 1048576 := fun i hi => by have := (D.2 i hi).2; omega
  have hF : Hid (∀ i (hi : i < L.length), Fit L[i]) := hF0
  have hM : Hid (∀ i (hi : i < L.length), L[i].length ≤ maxLen) := hM0
  have hS : Hid (∀ i (hi : i < L.length), L[i].length ≤ 1048576) := hS0
  have hL7 : L.length ≤ 7 := D.1
  have hlM : L.length ≤ maxLen := by unfold maxLen; omega
  have hdl : (distR L).length ≤ L.length := distTo_len L L.length
  have hdM : (distR L).length ≤ maxLen := by unfold maxLen; omega
  have DF : Hid (∀ i (hi : i < (distR L).length), Fit (distR L)[i]) := distTo_each (P := fun l => Fit l) L L.length (Nat.le_refl _) hF0
  have DM : Hid (∀ i (hi : i < (distR L).length), (distR L)[i].length ≤ maxLen) := distTo_each (P := fun l => l.length ≤ maxLen) L L.length (Nat.le_refl _) hM0
  have DS : Hid (∀ i (hi : i < (distR L).length), (distR L)[i].length ≤ 1048576) := distTo_each (P := fun l => l.length ≤ 1048576) L L.length (Nat.le_refl _) hS0
  have R1 : Hid (RowsAt w1 (some ⟨gr, 0, none⟩) L) := O1.rowsAt hF0 hM0
  have OR1 : Hid (OwnRows w1 base (.slice (some ⟨gr, 0, none⟩) L.length cr) L G C) := O1
  clear hF0 hM0 hS0 O1 D hC hv
  go_wp2_with fail
  refine (distinct_impl _ _ L _ R1.out (by omega) hS.out).mono ?_
  rintro e w2 ⟨vx, GX, CX, rfl, OX0, hb2, hvx⟩
  obtain ⟨gx, cx, rfl⟩ := own_slice OX0.outer hvx
  have OX : Hid (OwnRows w2 w1.heap.size (.slice (some ⟨gx, 0, none⟩) (distR L).length cx) (distR L) GX CX) := OX0
  have RX2 : Hid (RowsAt w2 (some ⟨gx, 0, none⟩) (distR L)) := OX0.rowsAt DF.out DM.out
  have R2 : Hid (RowsAt w2 (some ⟨gr, 0, none⟩) L) := R1.out.below hb2
  have OR2 : Hid (OwnRows w2 base (.slice (some ⟨gr, 0, none⟩) L.length cr) L G C) := OR1.out.below hb2
  replace hx := chain hx hb2
  clear OX0 hb2 hvx R1 OR1
  go_wp2_with fail
  refine (distinct_spec _ _ L _ R2.out (by omega) hS.out).mono ?_
  rintro e w3 ⟨vs, GS, CS, rfl, OS0, hb3, hvs⟩
  obtain ⟨gs, cs, rfl⟩ := own_slice OS0.outer hvs
  have RS : Hid (RowsAt w3 (some ⟨gs, 0, none⟩) (distR L)) := OS0.rowsAt DF.out DM.out
  have RX3 : Hid (RowsAt w3 (some ⟨gx, 0, none⟩) (distR L)) := RX2.out.below hb3
  have OX3 : Hid (OwnRows w3 w1.heap.size (.slice (some ⟨gx, 0, none⟩) (distR L).length cx) (distR L) GX CX) := OX.out.below hb3
  have OR3 : Hid (OwnRows w3 base (.slice (some ⟨gr, 0, none⟩) L.length cr) L G C) := OR2.out.below hb3
  replace hx := chain hx hb3
  clear OS0 hb3 hvs R2 OR2 OX RX2
  go_wp2_with fail
  refine (like_rows _ _ _ _ (distR L) _ RX3.out RS.out hdM).mono ?_
  rintro e w4 ⟨rfl, hb4⟩
  have OX4 : Hid (OwnRows w4 w1.heap.size (.slice (some ⟨gx, 0, none⟩) (distR L).length cx) (distR L) GX CX) := OX3.out.below hb4
  have OR4 : Hid (OwnRows w4 base (.slice (some ⟨gr, 0, none⟩) L.length cr) L G C) := OR3.out.below hb4
  have RX4 : Hid (RowsAt w4 (some ⟨gx, 0, none⟩) (distR L)) := RX3.out.below hb4
  replace hx := chain hx hb4
  clear hb4 RS OX3 OR3 RX3
  go_wp2
  go_loopw [5, 6] (fun kk ii wr => ∃ i : Nat, i ≤ L.length ∧ ii = .int .i64 i ∧ kk = .int .i64 ((distTo L i).length : Nat) ∧ Below w4.heap.size w4 wr) (fun _ ii _ => L.length - (intOf ii).toNat)
  case atStart => exact ⟨0, Nat.zero_le _, rfl, rfl, Below.refl _ _⟩
  case round =>
    obtain ⟨i, hi, rfl, rfl, hb5⟩ := hrel
    by_cases hlt : i < L.length
    · have hi0 : (0 : Int) ≤ (i : Int) := by omega
      have hi1 : (i : Int) < (L.length : Int) := by omega
      obtain ⟨xi, hxi⟩ : ∃ x, L[i] = x := ⟨_, rfl⟩
      obtain ⟨zi, hzi⟩ : ∃ z, xi.length = z := ⟨_, rfl⟩
      have HZI : Hid (xi.length = zi) := hzi
      have HXI : Hid (L[i] = xi) := hxi
      have hziM : zi ≤ maxLen := by have := hM.out i hlt; rw [hxi] at this; omega
      clear hzi hxi
      go_wp2
      go_loopw [7, 8] (fun ff jj wr => ∃ j : Nat, j ≤ i ∧ jj = .int .i64 j ∧ ff = .bool (!hasR (L.take j) xi) ∧ Below w4.heap.size w4 wr) (fun _ jj _ => i - (intOf jj).toNat)
      case atStart => exact ⟨0, Nat.zero_le _, rfl, rfl, hb5⟩
      case round =>
        obtain ⟨j, hj, rfl, rfl, hb6⟩ := hrel
        by_cases hjl : j < i
        · have hj0 : (0 : Int) ≤ (j : Int) := by omega
          have hj1 : (j : Int) < (i : Int) := by omega
          have hj2 : (j : Int) < (L.length : Int) := by omega
          have hjL : j < L.length := by omega
          obtain ⟨xj, hxj⟩ : ∃ x, L[j] = x := ⟨_, rfl⟩
          obtain ⟨zj, hzj⟩ : ∃ z, xj.length = z := ⟨_, rfl⟩
          have HZJ : Hid (xj.length = zj) := hzj
          obtain ⟨h1, hri, hgr⟩ := (OR4.out.below hb6).at_ i hlt zi (by rw [HXI.out]; exact HZI.out)
          obtain ⟨h2, hrj, _⟩ := (OR4.out.below hb6).at_ j hjL zj (by rw [hxj]; exact hzj)
          rw [HXI.out] at hri
          rw [hxj] at hrj
          have RI : Hid (RowAt wr (some ⟨G i, 0, none⟩) xi) := hri
          have RJ : Hid (RowAt wr (some ⟨G j, 0, none⟩) xj) := hrj
          obtain ⟨q, hq⟩ : ∃ q, sameRow xi xj = q := ⟨_, rfl⟩
          have HQ : Hid (sameRow xi xj = q) := hq
          have hst : hasR (L.take (j + 1)) xi = (hasR (L.take j) xi || q) := by rw [hasR_snoc L j hjL, hxj, sameRow_comm, hq]
          have HST : Hid (hasR (L.take (j + 1)) xi = (hasR (L.take j) xi || q)) := hst
          clear hri hrj hq hst hxj hzj
          generalize hasR (L.take j) xi = f at HST ⊢
          cases f
          · go_wp2_with fail
            refine wp_region_held_drew (S := (fun w' => w'.cell? ⟨gr, i, none⟩ = some (.slice (some ⟨G i, 0, none⟩) zi (C i)) ∧ w'.cell? ⟨gr, j, none⟩ = some (.slice (some ⟨G j, 0, none⟩) zj (C j)))) (by kernel_rfl) ?_ (fun hHeld => ?_)
            · (((try dsimp only); (repeat' apply And.intro) <;> first | (go_keep; done) | (simp (disch := first | omega | (simp <;> omega) | fail) [*]; done) | fail))
            refine wpAnyH_take (i := 0) (by simp only [List.getElem?_toArray, List.getElem?_cons_zero]; rfl) (by kernel_rfl) (by kernel_rfl) (by kernel_rfl) (by intro _ _ _ h; exact h) (Or.inl ⟨by rfl, fun w hSw => by (dsimp only at hSw; go_simp; (try with_reducible rfl))⟩) (by assumption) ?_
            simp only [Act.put, List.setIfInBounds_toArray, List.set_cons_zero, List.set_cons_succ]
            refine wpAnyH_take (i := 1) (by simp only [List.getElem?_toArray, List.getElem?_cons_zero, List.getElem?_cons_succ]; rfl) (by kernel_rfl) (by kernel_rfl) (by kernel_rfl) (by intro _ _ _ h; exact h) (Or.inl ⟨by rfl, fun w hSw => by (dsimp only at hSw; go_simp; (try with_reducible rfl))⟩) (by assumption) ?_
            simp only [Act.put, List.setIfInBounds_toArray, List.set_cons_zero, List.set_cons_succ]
            refine wpAnyH_take (i := 2) (by simp only [List.getElem?_toArray, List.getElem?_cons_zero, List.getElem?_cons_succ]; rfl) (by kernel_rfl) (by kernel_rfl) (by kernel_rfl) (by intro _ _ _ h; exact h) (Or.inl ⟨by rfl, fun w hSw => by (dsimp only at hSw; go_simp; (try with_reducible rfl))⟩) (by assumption) ?_
            simp only [Act.put, List.setIfInBounds_toArray, List.set_cons_zero, List.set_cons_succ]
            refine wpAnyH_take (i := 3) (by simp only [List.getElem?_toArray, List.getElem?_cons_zero, List.getElem?_cons_succ]; rfl) (by kernel_rfl) (by kernel_rfl) (by kernel_rfl) (by intro _ _ _ h; exact h) (Or.inl ⟨by rfl, fun w hSw => by (dsimp only at hSw; go_simp; (try with_reducible rfl))⟩) (by assumption) ?_
            simp only [Act.put, List.setIfInBounds_toArray, List.set_cons_zero, List.set_cons_succ]
            refine wpAnyH_take (i := 4) (by simp only [List.getElem?_toArray, List.getElem?_cons_zero, List.getElem?_cons_succ]; rfl) (by kernel_rfl) (by kernel_rfl) (by kernel_rfl) (by intro _ _ _ h; exact h) (Or.inl ⟨by rfl, fun w hSw => by (dsimp only at hSw; go_simp; (try with_reducible rfl))⟩) (by assumption) ?_
            simp only [Act.put, List.setIfInBounds_toArray, List.set_cons_zero, List.set_cons_succ]
            refine wpAnyH_take (i := 5) (by simp only [List.getElem?_toArray, List.getElem?_cons_zero, List.getElem?_cons_succ]; rfl) (by kernel_rfl) (by kernel_rfl) (by kernel_rfl) (by intro _ _ _ h; exact h) (Or.inl ⟨by rfl, fun w hSw => by (dsimp only at hSw; go_simp; (try with_reducible rfl))⟩) (by assumption) ?_
            simp only [Act.put, List.setIfInBounds_toArray, List.set_cons_zero, List.set_cons_succ]
            refine wpAnyH_take (i := 6) (by simp only [List.getElem?_toArray, List.getElem?_cons_zero, List.getElem?_cons_succ]; rfl) (by kernel_rfl) (by kernel_rfl) (by kernel_rfl) (by intro _ _ _ h; exact h) (Or.inl ⟨by rfl, fun w hSw => by (dsimp only at hSw; go_simp; (try with_reducible rfl))⟩) (by assumption) ?_
            simp only [Act.put, List.setIfInBounds_toArray, List.set_cons_zero, List.set_cons_succ]
            refine wpAnyH_take (i := 7) (by simp only [List.getElem?_toArray, List.getElem?_cons_zero, List.getElem?_cons_succ]; rfl) (by kernel_rfl) (by kernel_rfl) (by kernel_rfl) (by intro _ _ _ h; exact h) (Or.inl ⟨by rfl, fun w hSw => by (dsimp only at hSw; go_simp; (try with_reducible rfl))⟩) (by assumption) ?_
            simp only [Act.put, List.setIfInBounds_toArray, List.set_cons_zero, List.set_cons_succ]
            refine wpAnyH_take (i := 8) (by simp only [List.getElem?_toArray, List.getElem?_cons_zero, List.getElem?_cons_succ]; rfl) (by kernel_rfl) (by kernel_rfl) (by kernel_rfl) (by intro _ _ _ h; exact h) (Or.inl ⟨by rfl, fun w hSw => by (dsimp only at hSw; go_simp; (try with_reducible rfl))⟩) (by assumption) ?_
            simp only [Act.put, List.setIfInBounds_toArray, List.set_cons_zero, List.set_cons_succ]
            refine wpAnyH_take (i := 9) (by simp only [List.getElem?_toArray, List.getElem?_cons_zero, List.getElem?_cons_succ]; rfl) (by kernel_rfl) (by kernel_rfl) (by kernel_rfl) (by intro _ _ _ h; exact h) (Or.inl ⟨by rfl, fun w hSw => by (dsimp only at hSw; go_simp; (try with_reducible rfl))⟩) (by assumption) ?_
            simp only [Act.put, List.setIfInBounds_toArray, List.set_cons_zero, List.set_cons_succ]
            refine wpAnyH_ready (rs := [10]) (by kernel_rfl) (by simp) ?_
            refine AllReadyH.cons (by simp only [List.getElem?_toArray, List.getElem?_cons_zero, List.getElem?_cons_succ]; rfl) ?_ AllReadyH.nil
            intro K hK
            go_simp
            refine (like_rowRN zi zj _ _ _ _ xi xj HZI.out HZJ.out _ (RI.out.below (Below.refl wr.heap.size wr).drew) (RJ.out.below (Below.refl wr.heap.size wr).drew) hziM q HQ.out).mono ?_
            rintro e wa ⟨rfl, hbA⟩
            obtain ⟨hca, hfa⟩ := bcell hbA
            have hza := hbA.size
            try simp at hza
            have hxa : Below wr.heap.size wr wa := undrew hbA
            have yg : gr < wa.heap.size := by omega
            go_wp2_with fail
            refine hK.out _ _ ?_ (fun hHeld => ?_)
            · (((try dsimp only); (repeat' apply And.intro) <;> first | (go_keep; done) | (simp (disch := first | omega | (simp <;> omega) | fail) [*]; done) | fail))
            clear hK K
            try simp only [Act.put, List.setIfInBounds_toArray, List.set_cons_zero, List.set_cons_succ]
            refine wpAnyH_take (i := 11) (by simp only [List.getElem?_toArray, List.getElem?_cons_zero, List.getElem?_cons_succ]; rfl) (by kernel_rfl) (by kernel_rfl) (by kernel_rfl) (by intro _ _ _ h; exact h) (Or.inl ⟨by rfl, fun w hSw => by (dsimp only at hSw; go_simp; (try with_reducible rfl))⟩) (by assumption) ?_
            simp only [Act.put, List.setIfInBounds_toArray, List.set_cons_zero, List.set_cons_succ]
            refine wpAnyH_take (i := 12) (by simp only [List.getElem?_toArray, List.getElem?_cons_zero, List.getElem?_cons_succ]; rfl) (by kernel_rfl) (by kernel_rfl) (by kernel_rfl) (by intro _ _ _ h; exact h) (Or.inl ⟨by rfl, fun w hSw => by (dsimp only at hSw; go_simp; (try with_reducible rfl))⟩) (by assumption) ?_
            simp only [Act.put, List.setIfInBounds_toArray, List.set_cons_zero, List.set_cons_succ]
            refine wpAnyH_take (i := 13) (by simp only [List.getElem?_toArray, List.getElem?_cons_zero, List.getElem?_cons_succ]; rfl) (by kernel_rfl) (by kernel_rfl) (by kernel_rfl) (by intro _ _ _ h; exact h) (Or.inl ⟨by rfl, fun w hSw => by (dsimp only at hSw; go_simp; (try with_reducible rfl))⟩) (by assumption) ?_
            simp only [Act.put, List.setIfInBounds_toArray, List.set_cons_zero, List.set_cons_succ]
            refine wpAnyH_done (by kernel_rfl) ?_ _
            go_wp2
            go_roundw
            case rel => exact ⟨j + 1, by omega, by go_num, by rw [HST.out]; rfl, hb6.trans (hxa.mono hb6.size)⟩
            case measure => simp [intOf]; omega
          · go_wp2_with fail
            refine wp_region_held_drew (S := (fun _ => True)) (by kernel_rfl) trivial (fun hHeld => ?_)
            refine wpAnyH_take (i := 0) (by simp only [List.getElem?_toArray, List.getElem?_cons_zero]; rfl) (by kernel_rfl) (by kernel_rfl) (by kernel_rfl) (by intro _ _ _ h; exact h) (Or.inl ⟨by rfl, fun w hSw => by (dsimp only at hSw; go_simp; (try with_reducible rfl))⟩) (by assumption) ?_
            simp only [Act.put, List.setIfInBounds_toArray, List.set_cons_zero, List.set_cons_succ]
            refine wpAnyH_take (i := 1) (by simp only [List.getElem?_toArray, List.getElem?_cons_zero, List.getElem?_cons_succ]; rfl) (by kernel_rfl) (by kernel_rfl) (by kernel_rfl) (by intro _ _ _ h; exact h) (Or.inl ⟨by rfl, fun w hSw => by (dsimp only at hSw; go_simp; (try with_reducible rfl))⟩) (by assumption) ?_
            simp only [Act.put, List.setIfInBounds_toArray, List.set_cons_zero, List.set_cons_succ]
            refine wpAnyH_take (i := 2) (v := undef) (by simp only [List.getElem?_toArray, List.getElem?_cons_zero, List.getElem?_cons_succ]; rfl) (by kernel_rfl) (by kernel_rfl) (by kernel_rfl) (by intro _ _ _ h; exact h) (Or.inr ⟨by rfl, rfl⟩) (by assumption) ?_
            simp only [Act.put, List.setIfInBounds_toArray, List.set_cons_zero, List.set_cons_succ]
            refine wpAnyH_take (i := 3) (v := undef) (by simp only [List.getElem?_toArray, List.getElem?_cons_zero, List.getElem?_cons_succ]; rfl) (by kernel_rfl) (by kernel_rfl) (by kernel_rfl) (by intro _ _ _ h; exact h) (Or.inr ⟨by rfl, rfl⟩) (by assumption) ?_
            simp only [Act.put, List.setIfInBounds_toArray, List.set_cons_zero, List.set_cons_succ]
            refine wpAnyH_take (i := 4) (v := undef) (by simp only [List.getElem?_toArray, List.getElem?_cons_zero, List.getElem?_cons_succ]; rfl) (by kernel_rfl) (by kernel_rfl) (by kernel_rfl) (by intro _ _ _ h; exact h) (Or.inr ⟨by rfl, rfl⟩) (by assumption) ?_
            simp only [Act.put, List.setIfInBounds_toArray, List.set_cons_zero, List.set_cons_succ]
            refine wpAnyH_take (i := 5) (v := undef) (by simp only [List.getElem?_toArray, List.getElem?_cons_zero, List.getElem?_cons_succ]; rfl) (by kernel_rfl) (by kernel_rfl) (by kernel_rfl) (by intro _ _ _ h; exact h) (Or.inr ⟨by rfl, rfl⟩) (by assumption) ?_
            simp only [Act.put, List.setIfInBounds_toArray, List.set_cons_zero, List.set_cons_succ]
            refine wpAnyH_take (i := 6) (v := undef) (by simp only [List.getElem?_toArray, List.getElem?_cons_zero, List.getElem?_cons_succ]; rfl) (by kernel_rfl) (by kernel_rfl) (by kernel_rfl) (by intro _ _ _ h; exact h) (Or.inr ⟨by rfl, rfl⟩) (by assumption) ?_
            simp only [Act.put, List.setIfInBounds_toArray, List.set_cons_zero, List.set_cons_succ]
            refine wpAnyH_take (i := 7) (v := undef) (by simp only [List.getElem?_toArray, List.getElem?_cons_zero, List.getElem?_cons_succ]; rfl) (by kernel_rfl) (by kernel_rfl) (by kernel_rfl) (by intro _ _ _ h; exact h) (Or.inr ⟨by rfl, rfl⟩) (by assumption) ?_
            simp only [Act.put, List.setIfInBounds_toArray, List.set_cons_zero, List.set_cons_succ]
            refine wpAnyH_take (i := 8) (v := undef) (by simp only [List.getElem?_toArray, List.getElem?_cons_zero, List.getElem?_cons_succ]; rfl) (by kernel_rfl) (by kernel_rfl) (by kernel_rfl) (by intro _ _ _ h; exact h) (Or.inr ⟨by rfl, rfl⟩) (by assumption) ?_
            simp only [Act.put, List.setIfInBounds_toArray, List.set_cons_zero, List.set_cons_succ]
            refine wpAnyH_take (i := 9) (v := undef) (by simp only [List.getElem?_toArray, List.getElem?_cons_zero, List.getElem?_cons_succ]; rfl) (by kernel_rfl) (by kernel_rfl) (by kernel_rfl) (by intro _ _ _ h; exact h) (Or.inr ⟨by rfl, rfl⟩) (by assumption) ?_
            simp only [Act.put, List.setIfInBounds_toArray, List.set_cons_zero, List.set_cons_succ]
            refine wpAnyH_take (i := 10) (v := undef) (by simp only [List.getElem?_toArray, List.getElem?_cons_zero, List.getElem?_cons_succ]; rfl) (by kernel_rfl) (by kernel_rfl) (by kernel_rfl) (by intro _ _ _ h; exact h) (Or.inr ⟨by rfl, rfl⟩) (by assumption) ?_
            simp only [Act.put, List.setIfInBounds_toArray, List.set_cons_zero, List.set_cons_succ]
            refine wpAnyH_take (i := 11) (v := undef) (by simp only [List.getElem?_toArray, List.getElem?_cons_zero, List.getElem?_cons_succ]; rfl) (by kernel_rfl) (by kernel_rfl) (by kernel_rfl) (by intro _ _ _ h; exact h) (Or.inr ⟨by rfl, rfl⟩) (by assumption) ?_
            simp only [Act.put, List.setIfInBounds_toArray, List.set_cons_zero, List.set_cons_succ]
            refine wpAnyH_take (i := 12) (by simp only [List.getElem?_toArray, List.getElem?_cons_zero, List.getElem?_cons_succ]; rfl) (by kernel_rfl) (by kernel_rfl) (by kernel_rfl) (by intro _ _ _ h; exact h) (Or.inl ⟨by rfl, fun w hSw => by (dsimp only at hSw; go_simp; (try with_reducible rfl))⟩) (by assumption) ?_
            simp only [Act.put, List.setIfInBounds_toArray, List.set_cons_zero, List.set_cons_succ]
            refine wpAnyH_take (i := 13) (by simp only [List.getElem?_toArray, List.getElem?_cons_zero, List.getElem?_cons_succ]; rfl) (by kernel_rfl) (by kernel_rfl) (by kernel_rfl) (by intro _ _ _ h; exact h) (Or.inl ⟨by rfl, fun w hSw => by (dsimp only at hSw; go_simp; (try with_reducible rfl))⟩) (by assumption) ?_
            simp only [Act.put, List.setIfInBounds_toArray, List.set_cons_zero, List.set_cons_succ]
            refine wpAnyH_done (by kernel_rfl) ?_ _
            go_wp2
            go_roundw
            case rel => exact ⟨j + 1, by omega, by go_num, by rw [HST.out]; rfl, hb6.trans ((Below.refl wr.heap.size wr).drew.mono hb6.size)⟩
            case measure => simp [intOf]; omega
        · have hje : j = i := by omega
          subst hje
          have hj1 : ¬ (j : Int) < (j : Int) := by omega
          have hstep := distTo_step L j hlt
          rw [HXI.out] at hstep
          obtain ⟨f, hf⟩ : ∃ f, hasR (L.take j) xi = f := ⟨_, rfl⟩
          rw [hf] at hstep ⊢
          cases f
          · obtain ⟨hk, hget⟩ := dist_first L j hlt (by rw [HXI.out]; exact hf)
            rw [HXI.out] at hget
            have HS : Hid ((distTo L (j + 1)).length = (distTo L j).length + 1) := by
              have : (distTo L (j + 1)).length = (distTo L j).length + 1 := by rw [hstep, if_neg (by decide), List.length_append]; rfl
              exact this
            have HG : Hid (∀ h : (distTo L j).length < (distR L).length, (distR L)[(distTo L j).length] = xi) := fun _ => hget
            clear hget hstep hf
            generalize (distTo L j).length = k at hk HS HG ⊢
            have hk0 : (0 : Int) ≤ (k : Int) := by omega
            have hk1 : (k : Int) < ((distR L).length : Int) := by omega
            have hk2 : ((k : Int) == ((distR L).length : Int)) = false := by rw [beq_eq_false_iff_ne]; omega
            obtain ⟨h1, hrx, hgx⟩ := (OX4.out.below hb6).at_ k hk zi (by rw [HG.out hk]; exact HZI.out)
            obtain ⟨h2, hri, hgr⟩ := (OR4.out.below hb6).at_ j hlt zi (by rw [HXI.out]; exact HZI.out)
            rw [HG.out hk] at hrx
            rw [HXI.out] at hri
            have RX : Hid (RowAt wr (some ⟨GX k, 0, none⟩) xi) := hrx
            have RI : Hid (RowAt wr (some ⟨G j, 0, none⟩) xi) := hri
            clear hrx hri
            go_wp2_with fail
            go_cut [60] (fun s60 wc => s60 = .bool false ∧ Below wr.heap.size wr wc)
            case first =>
              as_aux_lemma =>
                refine wp_region_held_drew (S := (fun w' => w'.cell? ⟨gx, k, none⟩ = some (.slice (some ⟨GX k, 0, none⟩) zi (CX k)) ∧ w'.cell? ⟨gr, j, none⟩ = some (.slice (some ⟨G j, 0, none⟩) zi (C j)))) (by kernel_rfl) ?_ (fun hHeld => ?_)
                · (((try dsimp only); (repeat' apply And.intro) <;> first | (go_keep; done) | (simp (disch := first | omega | (simp <;> omega) | fail) [*]; done) | fail))
                refine wpAnyH_take (i := 0) (by simp only [List.getElem?_toArray, List.getElem?_cons_zero]; rfl) (by kernel_rfl) (by kernel_rfl) (by kernel_rfl) (by intro _ _ _ h; exact h) (Or.inl ⟨by rfl, fun w hSw => by (dsimp only at hSw; go_simp; (try with_reducible rfl))⟩) (by assumption) ?_
                simp only [Act.put, List.setIfInBounds_toArray, List.set_cons_zero, List.set_cons_succ]
                refine wpAnyH_take (i := 1) (by simp only [List.getElem?_toArray, List.getElem?_cons_zero, List.getElem?_cons_succ]; rfl) (by kernel_rfl) (by kernel_rfl) (by kernel_rfl) (by intro _ _ _ h; exact h) (Or.inl ⟨by rfl, fun w hSw => by (dsimp only at hSw; go_simp; (try with_reducible rfl))⟩) (by assumption) ?_
                simp only [Act.put, List.setIfInBounds_toArray, List.set_cons_zero, List.set_cons_succ]
                refine wpAnyH_take (i := 2) (by simp only [List.getElem?_toArray, List.getElem?_cons_zero, List.getElem?_cons_succ]; rfl) (by kernel_rfl) (by kernel_rfl) (by kernel_rfl) (by intro _ _ _ h; exact h) (Or.inl ⟨by rfl, fun w hSw => by (dsimp only at hSw; go_simp; (try with_reducible rfl))⟩) (by assumption) ?_
                simp only [Act.put, List.setIfInBounds_toArray, List.set_cons_zero, List.set_cons_succ]
                refine wpAnyH_take (i := 3) (by simp only [List.getElem?_toArray, List.getElem?_cons_zero, List.getElem?_cons_succ]; rfl) (by kernel_rfl) (by kernel_rfl) (by kernel_rfl) (by intro _ _ _ h; exact h) (Or.inl ⟨by rfl, fun w hSw => by (dsimp only at hSw; go_simp; (try with_reducible rfl))⟩) (by assumption) ?_
                simp only [Act.put, List.setIfInBounds_toArray, List.set_cons_zero, List.set_cons_succ]
                refine wpAnyH_take (i := 4) (by simp only [List.getElem?_toArray, List.getElem?_cons_zero, List.getElem?_cons_succ]; rfl) (by kernel_rfl) (by kernel_rfl) (by kernel_rfl) (by intro _ _ _ h; exact h) (Or.inl ⟨by rfl, fun w hSw => by (dsimp only at hSw; go_simp; (try with_reducible rfl))⟩) (by assumption) ?_
                simp only [Act.put, List.setIfInBounds_toArray, List.set_cons_zero, List.set_cons_succ]
                refine wpAnyH_take (i := 5) (by simp only [List.getElem?_toArray, List.getElem?_cons_zero, List.getElem?_cons_succ]; rfl) (by kernel_rfl) (by kernel_rfl) (by kernel_rfl) (by intro _ _ _ h; exact h) (Or.inl ⟨by rfl, fun w hSw => by (dsimp only at hSw; go_simp; (try with_reducible rfl))⟩) (by assumption) ?_
                simp only [Act.put, List.setIfInBounds_toArray, List.set_cons_zero, List.set_cons_succ]
                refine wpAnyH_take (i := 6) (by simp only [List.getElem?_toArray, List.getElem?_cons_zero, List.getElem?_cons_succ]; rfl) (by kernel_rfl) (by kernel_rfl) (by kernel_rfl) (by intro _ _ _ h; exact h) (Or.inl ⟨by rfl, fun w hSw => by (dsimp only at hSw; go_simp; (try with_reducible rfl))⟩) (by assumption) ?_
                simp only [Act.put, List.setIfInBounds_toArray, List.set_cons_zero, List.set_cons_succ]
                refine wpAnyH_take (i := 7) (by simp only [List.getElem?_toArray, List.getElem?_cons_zero, List.getElem?_cons_succ]; rfl) (by kernel_rfl) (by kernel_rfl) (by kernel_rfl) (by intro _ _ _ h; exact h) (Or.inl ⟨by rfl, fun w hSw => by (dsimp only at hSw; go_simp; (try with_reducible rfl))⟩) (by assumption) ?_
                simp only [Act.put, List.setIfInBounds_toArray, List.set_cons_zero, List.set_cons_succ]
                refine wpAnyH_take (i := 8) (by simp only [List.getElem?_toArray, List.getElem?_cons_zero, List.getElem?_cons_succ]; rfl) (by kernel_rfl) (by kernel_rfl) (by kernel_rfl) (by intro _ _ _ h; exact h) (Or.inl ⟨by rfl, fun w hSw => by (dsimp only at hSw; go_simp; (try with_reducible rfl))⟩) (by assumption) ?_
                simp only [Act.put, List.setIfInBounds_toArray, List.set_cons_zero, List.set_cons_succ]
                refine wpAnyH_take (i := 9) (by simp only [List.getElem?_toArray, List.getElem?_cons_zero, List.getElem?_cons_succ]; rfl) (by kernel_rfl) (by kernel_rfl) (by kernel_rfl) (by intro _ _ _ h; exact h) (Or.inl ⟨by rfl, fun w hSw => by (dsimp only at hSw; go_simp; (try with_reducible rfl))⟩) (by assumption) ?_
                simp only [Act.put, List.setIfInBounds_toArray, List.set_cons_zero, List.set_cons_succ]
                refine wpAnyH_take (i := 10) (by simp only [List.getElem?_toArray, List.getElem?_cons_zero, List.getElem?_cons_succ]; rfl) (by kernel_rfl) (by kernel_rfl) (by kernel_rfl) (by intro _ _ _ h; exact h) (Or.inl ⟨by rfl, fun w hSw => by (dsimp only at hSw; go_simp; (try with_reducible rfl))⟩) (by assumption) ?_
                simp only [Act.put, List.setIfInBounds_toArray, List.set_cons_zero, List.set_cons_succ]
                refine wpAnyH_take (i := 11) (by simp only [List.getElem?_toArray, List.getElem?_cons_zero, List.getElem?_cons_succ]; rfl) (by kernel_rfl) (by kernel_rfl) (by kernel_rfl) (by intro _ _ _ h; exact h) (Or.inl ⟨by rfl, fun w hSw => by (dsimp only at hSw; go_simp; (try with_reducible rfl))⟩) (by assumption) ?_
                simp only [Act.put, List.setIfInBounds_toArray, List.set_cons_zero, List.set_cons_succ]
                refine wpAnyH_take (i := 12) (by simp only [List.getElem?_toArray, List.getElem?_cons_zero, List.getElem?_cons_succ]; rfl) (by kernel_rfl) (by kernel_rfl) (by kernel_rfl) (by intro _ _ _ h; exact h) (Or.inl ⟨by rfl, fun w hSw => by (dsimp only at hSw; go_simp; (try with_reducible rfl))⟩) (by assumption) ?_
                simp only [Act.put, List.setIfInBounds_toArray, List.set_cons_zero, List.set_cons_succ]
                refine wpAnyH_ready (rs := [13]) (by kernel_rfl) (by simp) ?_
                refine AllReadyH.cons (by simp only [List.getElem?_toArray, List.getElem?_cons_zero, List.getElem?_cons_succ]; rfl) ?_ AllReadyH.nil
                intro K hK
                go_simp
                refine (like_rowRN zi zi _ _ _ _ xi xi HZI.out HZI.out _ (RX.out.below (Below.refl wr.heap.size wr).drew) (RI.out.below (Below.refl wr.heap.size wr).drew) hziM true (sameRow_eq.2 rfl)).mono ?_
                rintro e wa ⟨rfl, hbA⟩
                obtain ⟨hca, hfa⟩ := bcell hbA
                have hza := hbA.size
                try simp at hza
                have hxa : Below wr.heap.size wr wa := undrew hbA
                have yg : gx < wa.heap.size := by omega
                have yr : gr < wa.heap.size := by omega
                go_wp2_with fail
                refine hK.out _ _ ?_ (fun hHeld => ?_)
                · (((try dsimp only); (repeat' apply And.intro) <;> first | (go_keep; done) | (simp (disch := first | omega | (simp <;> omega) | fail) [*]; done) | fail))
                clear hK K
                try simp only [Act.put, List.setIfInBounds_toArray, List.set_cons_zero, List.set_cons_succ]
                refine wpAnyH_take (i := 14) (by simp only [List.getElem?_toArray, List.getElem?_cons_zero, List.getElem?_cons_succ]; rfl) (by kernel_rfl) (by kernel_rfl) (by kernel_rfl) (by intro _ _ _ h; exact h) (Or.inl ⟨by rfl, fun w hSw => by (dsimp only at hSw; go_simp; (try with_reducible rfl))⟩) (by assumption) ?_
                simp only [Act.put, List.setIfInBounds_toArray, List.set_cons_zero, List.set_cons_succ]
                refine wpAnyH_take (i := 15) (by simp only [List.getElem?_toArray, List.getElem?_cons_zero, List.getElem?_cons_succ]; rfl) (by kernel_rfl) (by kernel_rfl) (by kernel_rfl) (by intro _ _ _ h; exact h) (Or.inl ⟨by rfl, fun w hSw => by (dsimp only at hSw; go_simp; (try with_reducible rfl))⟩) (by assumption) ?_
                simp only [Act.put, List.setIfInBounds_toArray, List.set_cons_zero, List.set_cons_succ]
                refine wpAnyH_done (by kernel_rfl) ?_ _
                go_wp2_with fail
                go_meet
                case rel => exact ⟨rfl, hxa⟩
            case rest =>
              obtain ⟨rfl, hb7⟩ := hcut
              go_wp2
              go_roundw
              case rel => exact ⟨j + 1, by omega, by go_num, by rw [HS.out]; go_num, hb6.trans (hb7.mono hb6.size)⟩
              case measure => simp [intOf]; omega
          · rw [if_pos rfl] at hstep
            have HS : Hid (distTo L (j + 1) = distTo L j) := hstep
            clear hstep hf
            go_wp2
            go_roundw
            case rel => exact ⟨j + 1, by omega, by go_num, by rw [HS.out], hb6⟩
            case measure => simp [intOf]; omega
    · have hil : i = L.length := by omega
      subst hil
      have hi1 : ¬ (L.length : Int) < (L.length : Int) := by omega
      rw [show distTo L L.length = distR L from rfl]
      have hsame : (((distR L).length : Int) == ((distR L).length : Int)) = true := by simp
      go_wp2_with fail
      refine (distinct_impl _ _ (distR L) _ (RX4.out.below hb5) (by omega) DS.out).mono ?_
      rintro e w6 ⟨vy, GY, CY, rfl, OY0, hb6, hvy⟩
      rw [dist_idem] at OY0
      obtain ⟨gy, cy, rfl⟩ := own_slice OY0.outer hvy
      have RY : Hid (RowsAt w6 (some ⟨gy, 0, none⟩) (distR L)) := OY0.rowsAt DF.out DM.out
      have hb46 : Below w4.heap.size w4 w6 := hb5.trans (hb6.mono hb5.size)
      clear OY0 hvy
      go_wp2_with fail
      refine (like_rows _ _ _ _ (distR L) _ RY.out (RX4.out.below hb46) hdM).mono ?_
      rintro e w7 ⟨rfl, hb7⟩
      go_wp2
      go_ret
      exact ⟨rfl, chain hx (hb46.trans (hb7.mono hb46.size))⟩

end distLaw

end Go.Proofs.Ytgeipficjfaocab
