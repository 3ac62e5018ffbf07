/-
  A part of the proof: CopySv, SwpI.
-/
import Derived.Test.YtadbbkpillfjaaaGreatDoorPart25
import Derived.Test.YtadbbkpillfjaaaGreatDoorPart10
import Derived.Deep.RegionHeld3
import Derived.Test.YtadbbkpillfjaaaGreatDoorPart23

/-
  The program's copiedSieves: a list of sieves in memory of its own.
-/
namespace Go.Proofs.YtadbbkpillfjaaaGreatDoor
open Go.ChangeShapes Go.WideShapes Go.ChangeAt Go.RowKit
attribute [local go_sem ↓] Go.wp_at_zero Go.wp_at_succ
attribute [local simp] World.cell?_alloc_past World.cell?_alloc_at World.frozen?_alloc_at cell_far cell_off cell_here World.frozen?_alloc_past

theorem set_same {α : Type} (xs : List α) (i : Nat) (x : α) (h : xs[i]? = some x) : xs.set i x = xs := by
  obtain ⟨hl, rfl⟩ := List.getElem?_eq_some_iff.1 h
  exact List.set_getElem_self hl
/-- The two lists of a head written over. -/
theorem hvS_two {M : List (SV × HAd)} {k : Nat} (hk : k < M.length) (q : HAd) : ((hvS M).set (k * 7 + 2) (.slice q.na M[k].1.names.length q.nc)).set (k * 7 + 3) (.slice q.sa M[k].1.sum.length q.sc) = hvS (M.set k (M[k].1, q)) := by
  have h0 := hvS_at hk 0 (by omega)
  have h1 := hvS_at hk 1 (by omega)
  have h4 := hvS_at hk 4 (by omega)
  have h5 := hvS_at hk 5 (by omega)
  have h6 := hvS_at hk 6 (by omega)
  rw [← hvS_set hk]
  unfold setH7
  rw [set_same (hvS M) (k * 7) _ h0, set_same (hvS M) (k * 7 + 1) _ h1]
  generalize hz : ((hvS M).set (k * 7 + 2) (.slice q.na M[k].1.names.length q.nc)).set (k * 7 + 3) (.slice q.sa M[k].1.sum.length q.sc) = z
  have g : ∀ j, 4 ≤ j → z[k * 7 + j]? = (hvS M)[k * 7 + j]? := by
    intro j hj
    rw [← hz, List.getElem?_set_ne (by omega), List.getElem?_set_ne (by omega)]
  rw [set_same z (k * 7 + 4) _ ((g 4 (by omega)).trans h4), set_same z (k * 7 + 5) _ ((g 5 (by omega)).trans h5), set_same z (k * 7 + 6) _ ((g 6 (by omega)).trans h6)]
/-- The first k sieves of the copy have lists of their own. -/
structure CpW (w wr : World) (g n : Nat) (P M : List (SV × HAd)) (Q : Nat → VAd) (k : Nat) : Prop where
  own : wr.ownsRow w.heap.size 38 7 (.slice (some ⟨g, 0, none⟩) n n) n (hvS M)
  len : M.length = n
  plen : P.length = n
  rest : ∀ i (h : i < M.length) (h2 : i < P.length), k ≤ i → M[i] = P[i]
  seen : ∀ i (h : i < M.length) (h2 : i < P.length), i < k → M[i] = (P[i].1, ⟨(Q i).na, (Q i).nc, (Q i).sa, (Q i).sc⟩)
  out : OutW wr w.heap.size (some ⟨g, 0, none⟩) (P.map Prod.fst) Q k
theorem CpW.step {w wr w3 : World} {g n g1 g2 : Nat} {P M : List (SV × HAd)} {Q : Nat → VAd} {k : Nat} (h : CpW w wr g n P M Q k) (_ : k < n) (hk' : k < P.length) (hb : Below wr.heap.size wr w3) (hbase : w.heap.size ≤ wr.heap.size) (hn : OutV w3 wr.heap.size ⟨some ⟨g1, 0, none⟩, P[k].1.names.length, some ⟨g2, 0, none⟩, P[k].1.sum.length⟩ P[k].1) :
    CpW w ((w3.setCell ⟨g, k * 7 + 2, none⟩ (.slice (some ⟨g1, 0, none⟩) P[k].1.names.length P[k].1.names.length)).setCell ⟨g, k * 7 + 3, none⟩ (.slice (some ⟨g2, 0, none⟩) P[k].1.sum.length P[k].1.sum.length)) g n P (M.set k (P[k].1, ⟨some ⟨g1, 0, none⟩, P[k].1.names.length, some ⟨g2, 0, none⟩, P[k].1.sum.length⟩)) (setV Q k ⟨some ⟨g1, 0, none⟩, P[k].1.names.length, some ⟨g2, 0, none⟩, P[k].1.sum.length⟩) (k + 1) := by
  have hl := h.len
  have hp := h.plen
  have hkM : k < M.length := by omega
  have hMk := h.rest k hkM hk' (Nat.le_refl _)
  have hgl := (h.own.lt g rfl).2
  have hs1 := hb.size
  have own3 := own_below h.own hb
  have own5 := ((own3.stored (k * 7 + 2) (.slice (some ⟨g1, 0, none⟩) P[k].1.names.length P[k].1.names.length)).1.stored (k * 7 + 3) (.slice (some ⟨g2, 0, none⟩) P[k].1.sum.length P[k].1.sum.length)).1
  have ht := hvS_two hkM ⟨some ⟨g1, 0, none⟩, P[k].1.names.length, some ⟨g2, 0, none⟩, P[k].1.sum.length⟩
  rw [hMk] at ht
  rw [ht] at own5
  have K : KeepS (fun b => b = g) w3 ((w3.setCell ⟨g, k * 7 + 2, none⟩ (.slice (some ⟨g1, 0, none⟩) P[k].1.names.length P[k].1.names.length)).setCell ⟨g, k * 7 + 3, none⟩ (.slice (some ⟨g2, 0, none⟩) P[k].1.sum.length P[k].1.sum.length)) :=
    ((KeepS.refl (fun b => b = g) w3).setCell (p := ⟨g, k * 7 + 2, none⟩) rfl _).setCell (p := ⟨g, k * 7 + 3, none⟩) rfl _
  have hT : k < (P.map Prod.fst).length := by rw [List.length_map]; exact hk'
  have hTk : (P.map Prod.fst)[k] = P[k].1 := by simp
  have seen' : ∀ i (h1 : i < (M.set k (P[k].1, (⟨some ⟨g1, 0, none⟩, P[k].1.names.length, some ⟨g2, 0, none⟩, P[k].1.sum.length⟩ : HAd))).length) (h2 : i < P.length), i < k + 1 → (M.set k (P[k].1, (⟨some ⟨g1, 0, none⟩, P[k].1.names.length, some ⟨g2, 0, none⟩, P[k].1.sum.length⟩ : HAd)))[i] = (P[i].1, ⟨(setV Q k ⟨some ⟨g1, 0, none⟩, P[k].1.names.length, some ⟨g2, 0, none⟩, P[k].1.sum.length⟩ i).na, (setV Q k ⟨some ⟨g1, 0, none⟩, P[k].1.names.length, some ⟨g2, 0, none⟩, P[k].1.sum.length⟩ i).nc, (setV Q k ⟨some ⟨g1, 0, none⟩, P[k].1.names.length, some ⟨g2, 0, none⟩, P[k].1.sum.length⟩ i).sa, (setV Q k ⟨some ⟨g1, 0, none⟩, P[k].1.names.length, some ⟨g2, 0, none⟩, P[k].1.sum.length⟩ i).sc⟩) := by
    intro i h1 h2 hi
    rw [List.getElem_set]
    by_cases e : k = i
    · subst e
      rw [if_pos rfl, setV_at]
    · rw [if_neg e, setV_old Q _ (Ne.symm e)]
      exact h.seen i (by simpa using h1) h2 (by omega)
  refine ⟨own5, by rw [List.length_set]; exact hl, hp, fun i h1 h2 hi => ?_, seen', ?_⟩
  · rw [List.getElem_set, if_neg (by omega)]
    exact h.rest i (by simpa using h1) h2 (by omega)
  · have hq : OutV w3 wr.heap.size ⟨some ⟨g1, 0, none⟩, P[k].1.names.length, some ⟨g2, 0, none⟩, P[k].1.sum.length⟩ (P.map Prod.fst)[k] := by rw [hTk]; exact hn
    refine OutW.snoc h.out hT (Nat.le_refl _) hbase (hq.keepS K (fun b hb2 e => by have := hq.lo b hb2; omega)) (fun i hi him => ((h.out.sivs i hi him).below hb).keepS K (fun b hb2 e => ?_)) ?_ (fun g' o e => by cases e; exact (h.own.lt g rfl).1) (fun g' o e => ?_)
    · subst e
      exact h.out.head i hi b 0 him rfl hb2
    · intro i hi him
      have hi' : i < P.length := by rw [List.length_map] at hi; exact hi
      have hiM : i < (M.set k (P[k].1, (⟨some ⟨g1, 0, none⟩, P[k].1.names.length, some ⟨g2, 0, none⟩, P[k].1.sum.length⟩ : HAd))).length := by rw [List.length_set]; omega
      have hs := seen' i hiM hi' him
      have cel : ∀ j, j < 7 → _ = _ := fun j hj => (own5.cellAt (i * 7 + j) (by omega)).trans (hvS_at hiM j hj)
      have hTi : (P.map Prod.fst)[i] = P[i].1 := by simp
      rw [hs] at cel
      rw [hTi]
      refine ⟨g, 0, rfl, Nat.lt_of_lt_of_le (Nat.lt_of_lt_of_le hgl hs1) K.size, ?_, fun j _ => own5.frozenAt _⟩
      unfold Cells7
      rw [Nat.zero_add]
      exact ⟨cel 0 (by omega), cel 1 (by omega), cel 2 (by omega), cel 3 (by omega), cel 4 (by omega), cel 5 (by omega), cel 6 (by omega)⟩
    · cases e
      refine ⟨fun i hi him hbk => h.out.head i hi g 0 him rfl hbk, fun hbk => ?_⟩
      have := hq.lo g hbk
      omega
set_option maxRecDepth 100000 in
set_option maxHeartbeats 4000000 in
theorem copiedsieves_impl (a : Option Addr) (cap : Nat) (P : List (SV × HAd)) (n : Nat) (hn : P.length = n) (w : World) (hrow : HeadsIn w a P) (hnil : a = none → cap = 0) (hm : n ≤ 4000) (hsm : ∀ p ∈ P, MildS p.1) :
    Calls Tryz.prog 35 #[.slice a n cap] w fun e w' => ∃ g Q, e = .returned (.slice (some ⟨g, 0, none⟩) n n) ∧ OutVs w' w.heap.size (some ⟨g, 0, none⟩) (P.map Prod.fst) Q ∧ Below w.heap.size w w' := by
  have HR : Hid (HeadsIn w a P) := hrow
  have HN : Hid (P.length = n) := hn
  have HSM : Hid (∀ p ∈ P, MildS p.1) := hsm
  clear hrow hn hsm
  go_enter Tryz.func35, Tryz.ntmps35
  go_wp2_with fail
  refine (copied_siv a cap P n HN.out _ HR.out hnil (by omega)).mono ?_
  rintro e w1 ⟨g, rfl, own1, hb1⟩
  have HC0 : Hid (∃ M Q, CpW w w1 g n P M Q 0) := ⟨P, fun _ => ⟨none, 0, none, 0⟩, own1, HN.out, HN.out, fun i h h2 _ => rfl, fun i _ _ h => by omega, ⟨fun i _ h => by omega, fun i _ h => by omega, fun i j _ _ b h => by omega, fun i _ g o h => by omega, fun g o h => by omega⟩⟩
  clear own1
  go_wp2
  go_loopw [10] (fun kk wr => ∃ k : Nat, k ≤ n ∧ kk = .int .i64 k ∧ Hid (∃ M Q, CpW w wr g n P M Q k) ∧ Below w.heap.size w wr) (fun kk _ => n - (intOf kk).toNat)
  case atStart => exact ⟨0, Nat.zero_le _, rfl, HC0, hb1⟩
  case round =>
    obtain ⟨k, hk, rfl, hC, hbw⟩ := hrel
    by_cases hlt : k < n
    · obtain ⟨M, Q, hW⟩ := hC.out
      have HW : Hid (CpW w wr g n P M Q k) := hW
      have hkP : Hid (k < P.length) := by have := HN.out; exact show k < P.length by omega
      have hkM : k < M.length := by have := hW.len; omega
      have hMk := hW.rest k hkM hkP.out (Nat.le_refl _)
      have hgw : g < wr.heap.size := (hW.own.lt g rfl).2
      have cel : ∀ j, j < 7 → wr.cell? ⟨g, k * 7 + j, none⟩ = (headSv (P[k]'hkP.out).1 (P[k]'hkP.out).2)[j]? := fun j hj => by
        rw [hW.own.cellAt (k * 7 + j) (by omega), hvS_at hkM j hj, hMk]
      have c0 := cel 0 (by omega)
      have c1 := cel 1 (by omega)
      have c2 := cel 2 (by omega)
      have c3 := cel 3 (by omega)
      have c4 := cel 4 (by omega)
      have c5 := cel 5 (by omega)
      have c6 := cel 6 (by omega)
      simp only [headSv, List.getElem?_cons_zero, List.getElem?_cons_succ, Nat.add_zero] at c0 c1 c2 c3 c4 c5 c6
      have HSIV : Hid (SivAt wr (P[k]'hkP.out).2.na (P[k]'hkP.out).2.nc (P[k]'hkP.out).2.sa (P[k]'hkP.out).1) := (HR.out.below hbw).siv _ (List.getElem_mem hkP.out)
      have HNIL : Hid ((P[k]'hkP.out).2.sa = none → (P[k]'hkP.out).2.sc = 0) := HR.out.nilI _ (List.getElem_mem hkP.out)
      have HMS : Hid (MildS (P[k]'hkP.out).1) := HSM.out _ (List.getElem_mem hkP.out)
      obtain ⟨x, hxq⟩ : ∃ x, (P[k]'hkP.out) = x := ⟨_, rfl⟩
      have HXQ : Hid ((P[k]'hkP.out) = x) := hxq
      rw [hxq] at c0 c1 c2 c3 c4 c5 c6 HSIV HNIL HMS
      clear cel hMk hxq hC
      obtain ⟨⟨kd, nm, N, S, dn, ct, sk⟩, ⟨na, nc, sa, sc⟩⟩ := x
      dsimp only at c0 c1 c2 c3 c4 c5 c6 HSIV HNIL HMS
      obtain ⟨nn, hnn⟩ : ∃ z, N.length = z := ⟨_, rfl⟩
      obtain ⟨sn, hsn⟩ : ∃ z, S.length = z := ⟨_, rfl⟩
      rw [hnn] at c2
      rw [hsn] at c3
      have HNN : Hid (N.length = nn) := hnn
      have HSN : Hid (S.length = sn) := hsn
      have hn1 : nn ≤ 1048576 := by rw [← hnn]; exact HMS.out.1
      have hs1 : sn ≤ 1048576 := by rw [← hsn]; exact HMS.out.2
      have hi0 : (0 : Int) ≤ (k : Int) := by omega
      have hi1 : (k : Int) < (n : Int) := by omega
      clear hnn hsn hW
      obtain ⟨V5, hV5⟩ : ∃ V5, V5 = wr.alloc (.cells #[.int .i64 kd, .string nm, .slice na nn nc, .slice sa sn sc, .bool dn, .int .i64 ct, .int .i64 sk] 38) := ⟨_, rfl⟩
      have b5 : Below wr.heap.size wr V5 := by rw [hV5]; exact (Below.refl _ _).alloc (Nat.le_refl _) _
      have z5 : V5.heap.size = wr.heap.size + 1 := by rw [hV5]; simp
      have p2 : V5.cell? ⟨wr.heap.size, 2, none⟩ = some (.slice na nn nc) := by rw [hV5]; simp
      have p3 : V5.cell? ⟨wr.heap.size, 3, none⟩ = some (.slice sa sn sc) := by rw [hV5]; simp
      have HV5 : Hid (wr.alloc (.cells #[.int .i64 kd, .string nm, .slice na nn nc, .slice sa sn sc, .bool dn, .int .i64 ct, .int .i64 sk] 38) = V5) := hV5.symm
      clear hV5
      go_wp2_with fail
      rw [HV5.out]
      clear c0 c1 c2 c3 c4 c5 c6
      refine wp_region_held_drew (S := (fun w' => w'.cell? ⟨wr.heap.size, 2, none⟩ = some (.slice na nn nc) ∧ w'.cell? ⟨wr.heap.size, 3, none⟩ = some (.slice sa sn sc))) (by kernel_rfl) ?_ (fun hHeld => ?_)
      · (((try dsimp only); (repeat' apply And.intro) <;> first | (go_keep; done) | (simp (disch := first | omega | (simp <;> omega) | fail) [*]; done) | fail))
      refine wpAnyH_take (i := 0) (by simp only [List.getElem?_toArray, List.getElem?_cons_zero]; rfl) (by kernel_rfl) (by kernel_rfl) (by kernel_rfl) (by intro _ _ _ h; exact h) (Or.inl ⟨by rfl, fun w hSw => by (dsimp only at hSw; go_simp; (try with_reducible rfl))⟩) (by assumption) ?_
      simp only [Act.put, List.setIfInBounds_toArray, List.set_cons_zero, List.set_cons_succ]
      refine wpAnyH_take (i := 1) (by simp only [List.getElem?_toArray, List.getElem?_cons_zero, List.getElem?_cons_succ]; rfl) (by kernel_rfl) (by kernel_rfl) (by kernel_rfl) (by intro _ _ _ h; exact h) (Or.inl ⟨by rfl, fun w hSw => by (dsimp only at hSw; go_simp; (try with_reducible rfl))⟩) (by assumption) ?_
      simp only [Act.put, List.setIfInBounds_toArray, List.set_cons_zero, List.set_cons_succ]
      refine wpAnyH_take (i := 2) (by simp only [List.getElem?_toArray, List.getElem?_cons_zero, List.getElem?_cons_succ]; rfl) (by kernel_rfl) (by kernel_rfl) (by kernel_rfl) (by intro _ _ _ h; exact h) (Or.inl ⟨by rfl, fun w hSw => by (dsimp only at hSw; go_simp; (try with_reducible rfl))⟩) (by assumption) ?_
      simp only [Act.put, List.setIfInBounds_toArray, List.set_cons_zero, List.set_cons_succ]
      refine wpAnyH_take (i := 3) (by simp only [List.getElem?_toArray, List.getElem?_cons_zero, List.getElem?_cons_succ]; rfl) (by kernel_rfl) (by kernel_rfl) (by kernel_rfl) (by intro _ _ _ h; exact h) (Or.inl ⟨by rfl, fun w hSw => by (dsimp only at hSw; go_simp; (try with_reducible rfl))⟩) (by assumption) ?_
      simp only [Act.put, List.setIfInBounds_toArray, List.set_cons_zero, List.set_cons_succ]
      refine wpAnyH_take (i := 4) (by simp only [List.getElem?_toArray, List.getElem?_cons_zero, List.getElem?_cons_succ]; rfl) (by kernel_rfl) (by kernel_rfl) (by kernel_rfl) (by intro _ _ _ h; exact h) (Or.inl ⟨by rfl, fun w hSw => by (dsimp only at hSw; go_simp; (try with_reducible rfl))⟩) (by assumption) ?_
      simp only [Act.put, List.setIfInBounds_toArray, List.set_cons_zero, List.set_cons_succ]
      refine wpAnyH_take (i := 5) (by simp only [List.getElem?_toArray, List.getElem?_cons_zero, List.getElem?_cons_succ]; rfl) (by kernel_rfl) (by kernel_rfl) (by kernel_rfl) (by intro _ _ _ h; exact h) (Or.inl ⟨by rfl, fun w hSw => by (dsimp only at hSw; go_simp; (try with_reducible rfl))⟩) (by assumption) ?_
      simp only [Act.put, List.setIfInBounds_toArray, List.set_cons_zero, List.set_cons_succ]
      refine wpAnyH_take (i := 7) (by simp only [List.getElem?_toArray, List.getElem?_cons_zero, List.getElem?_cons_succ]; rfl) (by kernel_rfl) (by kernel_rfl) (by kernel_rfl) (by intro _ _ _ h; exact h) (Or.inl ⟨by rfl, fun w hSw => by (dsimp only at hSw; go_simp; (try with_reducible rfl))⟩) (by assumption) ?_
      simp only [Act.put, List.setIfInBounds_toArray, List.set_cons_zero, List.set_cons_succ]
      refine wpAnyH_take (i := 8) (by simp only [List.getElem?_toArray, List.getElem?_cons_zero, List.getElem?_cons_succ]; rfl) (by kernel_rfl) (by kernel_rfl) (by kernel_rfl) (by intro _ _ _ h; exact h) (Or.inl ⟨by rfl, fun w hSw => by (dsimp only at hSw; go_simp; (try with_reducible rfl))⟩) (by assumption) ?_
      simp only [Act.put, List.setIfInBounds_toArray, List.set_cons_zero, List.set_cons_succ]
      refine wpAnyH_ready (rs := [6]) (by kernel_rfl) (by simp) ?_
      refine AllReadyH.cons (by simp only [List.getElem?_toArray, List.getElem?_cons_zero, List.getElem?_cons_succ]; rfl) ?_ AllReadyH.nil
      intro K hK
      go_simp
      refine (copied_str na nc N nn HNN.out _ (HSIV.out.names.below b5.drew) HSIV.out.nilN hn1).mono ?_
      rintro e wA ⟨g1, rfl, own1, hbA⟩
      replace hbA := undrew hbA
      have O1 : Hid (wA.ownsRow (wr.heap.size + 1) 9 1 (.slice (some ⟨g1, 0, none⟩) nn nn) nn (strV N)) := by
        have h : wA.ownsRow V5.drew.heap.size 9 1 (.slice (some ⟨g1, 0, none⟩) nn nn) nn (strV N) := own1
        rw [show V5.drew.heap.size = wr.heap.size + 1 from z5] at h
        exact h
      have q2 := (hbA.cell (p := ⟨wr.heap.size, 2, none⟩) (show wr.heap.size < V5.heap.size by omega)).trans p2
      have q3 := (hbA.cell (p := ⟨wr.heap.size, 3, none⟩) (show wr.heap.size < V5.heap.size by omega)).trans p3
      have zA := hbA.size
      have bA := b5.trans (hbA.mono b5.size)
      clear own1 hHeld p2 p3
      go_wp2_with fail
      refine hK.out _ _ ?_ (fun hHeld => ?_)
      · (((try dsimp only); (repeat' apply And.intro) <;> first | (go_keep; done) | (simp (disch := first | omega | (simp <;> omega) | fail) [*]; done) | fail))
      clear hK K
      try simp only [Act.put, List.setIfInBounds_toArray, List.set_cons_zero, List.set_cons_succ]
      refine wpAnyH_ready (rs := [9]) (by kernel_rfl) (by simp) ?_
      refine AllReadyH.cons (by simp only [List.getElem?_toArray, List.getElem?_cons_zero, List.getElem?_cons_succ]; rfl) ?_ AllReadyH.nil
      intro K hK
      go_simp
      refine (copied_itm sa sc S sn HSN.out _ (HSIV.out.sum.below bA) HNIL.out hs1).mono ?_
      rintro e wB ⟨g2, rfl, own2, hbB⟩
      have r2 := (hbB.cell (p := ⟨wr.heap.size, 2, none⟩) (show wr.heap.size < wA.heap.size by omega)).trans q2
      have r3 := (hbB.cell (p := ⟨wr.heap.size, 3, none⟩) (show wr.heap.size < wA.heap.size by omega)).trans q3
      have zB := hbB.size
      have bB := bA.trans (hbB.mono bA.size)
      have hg1 : wr.heap.size + 1 ≤ g1 ∧ g1 < wA.heap.size := O1.out.lt g1 rfl
      have hg2 : wA.heap.size ≤ g2 ∧ g2 < wB.heap.size := own2.lt g2 rfl
      have HOV : Hid (OutV wB wr.heap.size ⟨some ⟨g1, 0, none⟩, nn, some ⟨g2, 0, none⟩, sn⟩ ⟨kd, nm, N, S, dn, ct, sk⟩) := by
        have hN : N.length = nn := HNN.out
        have hS : S.length = sn := HSN.out
        have o1 := own_below O1.out hbB
        have i2 : ItmAt wB (some ⟨g2, 0, none⟩) S := by
          have h := own2
          rw [← hS] at h
          exact ownItm h
        have h : OutV wB wr.heap.size ⟨some ⟨g1, 0, none⟩, nn, some ⟨g2, 0, none⟩, sn⟩ ⟨kd, nm, N, S, dn, ct, sk⟩ := by
          refine ⟨⟨own_strs1 o1 hN, HSIV.out.fitN, HSIV.out.lenN, Nat.le_of_eq hN, (fun h => by cases h), i2, HSIV.out.fitI, HSIV.out.lenI, HSIV.out.name⟩, ?_, ?_, ?_, ?_⟩
          · show FreeS wB (some ⟨g1, 0, none⟩) N.length
            rw [hN]; exact own_freeS o1
          · show FreeItm wB (some ⟨g2, 0, none⟩) S.length
            rw [hS]; exact own_freeItm own2
          · rintro b ⟨_, o, e⟩ ⟨_, o', e'⟩
            cases e; cases e'; omega
          · rintro b (⟨_, o, e⟩ | ⟨_, o, e⟩) <;> (cases e; omega)
        exact h
      have hOB := own_below HW.out.own bB
      have l5 : (hvS M).length = n * 7 := hOB.1
      have s2 := (hOB.cellAt (k * 7 + 2) (by omega)).trans (List.getElem?_eq_getElem (by omega))
      have s3 := (hOB.cellAt (k * 7 + 3) (by omega)).trans (List.getElem?_eq_getElem (by omega))
      have f2 := hOB.frozenAt (k * 7 + 2)
      have f3 := hOB.frozenAt (k * 7 + 3)
      have hne : wr.heap.size ≠ g := by omega
      have HST : Hid (CpW w ((wB.setCell ⟨g, k * 7 + 2, none⟩ (.slice (some ⟨g1, 0, none⟩) nn nn)).setCell ⟨g, k * 7 + 3, none⟩ (.slice (some ⟨g2, 0, none⟩) sn sn)) g n P (M.set k ((P[k]'hkP.out).1, ⟨some ⟨g1, 0, none⟩, nn, some ⟨g2, 0, none⟩, sn⟩)) (setV Q k ⟨some ⟨g1, 0, none⟩, nn, some ⟨g2, 0, none⟩, sn⟩) (k + 1)) := by
        have e1 : (P[k]'hkP.out).1.names.length = nn := by rw [HXQ.out]; exact HNN.out
        have e2 : (P[k]'hkP.out).1.sum.length = sn := by rw [HXQ.out]; exact HSN.out
        have h := CpW.step (g1 := g1) (g2 := g2) HW.out hlt hkP.out bB hbw.size (by rw [e1, e2, HXQ.out]; exact HOV.out)
        rw [e1, e2] at h
        exact h
      have hgB : w.heap.size ≤ g := (HW.out.own.lt g rfl).1
      have HBL : Hid (Below w.heap.size w ((wB.setCell ⟨g, k * 7 + 2, none⟩ (.slice (some ⟨g1, 0, none⟩) nn nn)).setCell ⟨g, k * 7 + 3, none⟩ (.slice (some ⟨g2, 0, none⟩) sn sn))) :=
        (((hbw.trans (bB.mono hbw.size))).setCell (p := ⟨g, k * 7 + 2, none⟩) hgB _).setCell (p := ⟨g, k * 7 + 3, none⟩) hgB _
      clear own2 hHeld q2 q3 hOB
      go_wp2_with fail
      refine hK.out _ _ ?_ (fun hHeld => ?_)
      · (((try dsimp only); (repeat' apply And.intro) <;> first | (go_keep; done) | (simp (disch := first | omega | (simp <;> omega) | fail) [*]; done) | fail))
      clear hK K
      try simp only [Act.put, List.setIfInBounds_toArray, List.set_cons_zero, List.set_cons_succ]
      refine wpAnyH_take (i := 10) (by simp only [List.getElem?_toArray, List.getElem?_cons_zero, List.getElem?_cons_succ]; rfl) (by kernel_rfl) (by kernel_rfl) (by kernel_rfl) (by intro _ _ _ h; exact h) (Or.inl ⟨by rfl, fun w hSw => by (dsimp only at hSw; go_simp; (try with_reducible rfl))⟩) (by assumption) ?_
      simp only [Act.put, List.setIfInBounds_toArray, List.set_cons_zero, List.set_cons_succ]
      refine wpAnyH_take (i := 11) (by simp only [List.getElem?_toArray, List.getElem?_cons_zero, List.getElem?_cons_succ]; rfl) (by kernel_rfl) (by kernel_rfl) (by kernel_rfl) (by intro _ _ _ h; exact h) (Or.inl ⟨by rfl, fun w hSw => by (dsimp only at hSw; go_simp; (try with_reducible rfl))⟩) (by assumption) ?_
      simp only [Act.put, List.setIfInBounds_toArray, List.set_cons_zero, List.set_cons_succ]
      refine wpAnyH_ready (rs := [12]) (by kernel_rfl) (by simp) ?_
      refine AllReadyH.cons (by simp only [List.getElem?_toArray, List.getElem?_cons_zero, List.getElem?_cons_succ]; rfl) ?_ AllReadyH.nil
      intro K hK
      go_simp
      refine hK.out _ _ ?_ (fun hHeld => ?_)
      · (((try dsimp only); (repeat' apply And.intro) <;> first | (go_keep; done) | (simp (disch := first | omega | (simp <;> omega) | fail) [*]; done) | fail))
      clear hK K
      try simp only [Act.put, List.setIfInBounds_toArray, List.set_cons_zero, List.set_cons_succ]
      refine wpAnyH_take (i := 13) (by simp only [List.getElem?_toArray, List.getElem?_cons_zero, List.getElem?_cons_succ]; rfl) (by kernel_rfl) (by kernel_rfl) (by kernel_rfl) (by intro _ _ _ h; exact h) (Or.inl ⟨by rfl, fun w hSw => by (dsimp only at hSw; go_simp; (try with_reducible rfl))⟩) (by assumption) ?_
      simp only [Act.put, List.setIfInBounds_toArray, List.set_cons_zero, List.set_cons_succ]
      refine wpAnyH_take (i := 14) (by simp only [List.getElem?_toArray, List.getElem?_cons_zero, List.getElem?_cons_succ]; rfl) (by kernel_rfl) (by kernel_rfl) (by kernel_rfl) (by intro _ _ _ h; exact h) (Or.inl ⟨by rfl, fun w hSw => by (dsimp only at hSw; go_simp; (try with_reducible rfl))⟩) (by assumption) ?_
      simp only [Act.put, List.setIfInBounds_toArray, List.set_cons_zero, List.set_cons_succ]
      refine wpAnyH_ready (rs := [15]) (by kernel_rfl) (by simp) ?_
      refine AllReadyH.cons (by simp only [List.getElem?_toArray, List.getElem?_cons_zero, List.getElem?_cons_succ]; rfl) ?_ AllReadyH.nil
      intro K hK
      go_simp
      refine hK.out _ _ ?_ (fun hHeld => ?_)
      · (((try dsimp only); (repeat' apply And.intro) <;> first | (go_keep; done) | (simp (disch := first | omega | (simp <;> omega) | fail) [*]; done) | fail))
      clear hK K
      try simp only [Act.put, List.setIfInBounds_toArray, List.set_cons_zero, List.set_cons_succ]
      refine wpAnyH_done (by kernel_rfl) ?_ _
      clear hHeld
      go_wp2
      go_roundw
      case rel => exact ⟨k + 1, by omega, by go_num, ⟨_, _, HST.out⟩, HBL.out⟩
      case measure => simp [intOf]; omega
    · have hkn : k = n := by omega
      subst hkn
      have hnn : ¬ (k : Int) < (k : Int) := by omega
      obtain ⟨M, Q, hW⟩ := hC.out
      have HO : Hid (OutVs wr w.heap.size (some ⟨g, 0, none⟩) (P.map Prod.fst) Q) := by
        have h := hW.out
        have e : (P.map Prod.fst).length = k := by rw [List.length_map]; exact HN.out
        unfold OutVs
        rw [e]
        exact h
      clear hC hW
      go_wp2
      go_ret
      first | exact ⟨_, _, rfl, HO.out, hbw⟩ | exact ⟨_, rfl, ⟨_, HO.out⟩, hbw⟩
end Go.Proofs.YtadbbkpillfjaaaGreatDoor

/-
  The program's swapped: two sieves the other way round, and whether they may.
-/
namespace Go.Proofs.YtadbbkpillfjaaaGreatDoor
open Go.ChangeShapes Go.WideShapes Go.ChangeAt Go.RowKit
attribute [local go_sem ↓] Go.wp_at_zero Go.wp_at_succ
attribute [local simp] World.cell?_alloc_past World.cell?_alloc_at World.frozen?_alloc_at cell_far cell_off cell_here World.frozen?_alloc_past

/-- What a rule answers: a slice of heads in memory of its own, and whether it applies. -/
structure RuleOut (w w' : World) (e : Ending) (P : List (SV × HAd)) (b : Bool) : Prop where
  ends : ∃ g n c, n = P.length ∧ e = .returned (.tuple #[.slice (some ⟨g, 0, none⟩) n c, .bool b]) ∧ g < w'.heap.size ∧ ∀ j u, (hvS P)[j]? = some u → w'.cell? ⟨g, j, none⟩ = some u
  kept : Below w.heap.size w w'
theorem cells_alloc (w : World) (vs : Array Value) (t : Nat) (L : List Value) (hL : L = vs.toList) : ∀ (j : Nat) u, L[j]? = some u → (w.alloc (.cells vs t)).cell? ⟨w.heap.size, j, none⟩ = some u := by
  subst hL
  intro j u h
  exact (World.cell?_alloc_new w vs t j).trans (by simpa using h)
end Go.Proofs.YtadbbkpillfjaaaGreatDoor
