/-
  A part of the proof: SpC4.
-/
import Derived.Test.YtegnekbbbfncgaaGreatDoorPart29
import Derived.Deep.RegionHeld3

/-
  The model's Pushed.
-/
namespace Go.Proofs.YtegnekbbbfncgaaGreatDoor
open Go.ChangeShapes Go.WideShapes Go.ChangeAt Go.RowKit
attribute [local go_sem ↓] Go.wp_at_zero Go.wp_at_succ
attribute [local simp] World.cell?_alloc_past World.cell?_alloc_at World.frozen?_alloc_at cell_far cell_off cell_here World.frozen?_alloc_past

/-- What Pushed rewrites. -/
def pushR : Rule := fun s t => if (decide (s.kind ≠ 2) && swapR s t) = true then some [t, s] else none
theorem swap_kind {s t : SV} (h : swapR s t = true) : t.kind = 2 := by
  unfold swapR at h
  simp only [Bool.and_eq_true, decide_eq_true_eq] at h
  exact h.2.2.1
/-- What is answered: what comes of the rewriting, or nothing. -/
structure PushAns (r : Rule) (T K : List SV) : Prop where
  yes : askB T = true → Comes r T K
  no : askB T = false → K = []
def PushOut (r : Rule) (w : World) (T : List SV) (e : Ending) (w' : World) : Prop := ∃ g n c K, e = .returned (.slice (some ⟨g, 0, none⟩) n c) ∧ PushAns r T (K.map Prod.fst) ∧ RowV w' w.heap.size (.slice (some ⟨g, 0, none⟩) n c) K n ∧ Below w.heap.size w w'
theorem HeadsIn.sivs {w : World} {a : Option Addr} {P : List (SV × HAd)} (h : HeadsIn w a P) : SivsAt w a (P.map Prod.fst) := by
  intro i hi
  have hi' : i < P.length := by simpa using hi
  obtain ⟨b, o, e, hlt, c⟩ := h.at i hi'
  have hf : (P.map Prod.fst)[i] = P[i].1 := by simp
  rw [hf]
  exact ⟨b, o, P[i].2.na, P[i].2.nc, P[i].2.sa, P[i].2.sc, e, hlt, c, h.siv _ (List.getElem_mem hi')⟩
theorem ask_len {T : List SV} (h : askB T = true) : T.length ≤ 8 := by
  unfold askB at h
  simp only [Bool.and_eq_true, decide_eq_true_eq] at h
  exact h.2
/-- What stands while the pairs are looked at. -/
def PushW (r : Rule) (w wr : World) (g n c : Nat) (T : List SV) (k : Nat) : Prop :=
  ∃ Q, RowV wr w.heap.size (.slice (some ⟨g, 0, none⟩) n c) Q n ∧ (∀ K, Comes r (Q.map Prod.fst) K → Comes r T K) ∧ (∀ j (h : j + 1 < (Q.map Prod.fst).length), j < k → r ((Q.map Prod.fst)[j]'(by omega)) (Q.map Prod.fst)[j + 1] = none)
theorem PushW.done {r : Rule} {w wr : World} {g n c : Nat} {T : List SV} {k : Nat} (h : PushW r w wr g n c T k) (hk : n ≤ k + 1) (ha : askB T = true) (hb : Below w.heap.size w wr) : PushOut r w T (.returned (.slice (some ⟨g, 0, none⟩) n c)) wr := by
  obtain ⟨Q, hR, hC, hN⟩ := h
  refine ⟨g, n, c, Q, rfl, ⟨fun _ => hC _ (.done (rwStep_none fun j hj => hN j hj ?_)), fun h => by rw [ha] at h; cases h⟩, hR, hb⟩
  have := hR.len
  rw [List.length_map] at hj
  omega
theorem own_lowV {w : World} {base base' : Nat} {e : TypeId} {size : Nat} {v : Value} {n : Nat} {xs : List Value} (h : w.ownsRow base e size v n xs) (hb : base' ≤ base) : w.ownsRow base' e size v n xs := by
  obtain ⟨h1, h2⟩ := h
  refine ⟨h1, ?_⟩
  rcases h2 with h2 | ⟨g, cap, cur, e, h3, h4⟩
  · exact .inl h2
  · exact .inr ⟨g, cap, cur, e, Nat.le_trans hb h3, h4⟩
theorem PushW.next {r : Rule} {w W : World} {g n c : Nat} {T : List SV} {k : Nat} {Q : List (SV × HAd)} (hR : RowV W w.heap.size (.slice (some ⟨g, 0, none⟩) n c) Q n) (hC : ∀ K, Comes r (Q.map Prod.fst) K → Comes r T K) (hN : ∀ j (h : j + 1 < (Q.map Prod.fst).length), j < k → r ((Q.map Prod.fst)[j]'(by omega)) (Q.map Prod.fst)[j + 1] = none) (hk : k + 1 < Q.length) (h0 : r (Q[k]'(by omega)).1 Q[k + 1].1 = none) : PushW r w W g n c T (k + 1) := by
  refine ⟨Q, hR, hC, fun j hj hjk => ?_⟩
  by_cases e : j < k
  · exact hN j hj e
  · obtain rfl : j = k := by omega
    simpa using h0
/-- The first pair that is changed, changed. -/
theorem PushW.swap {w W : World} {g n c : Nat} {T : List SV} {k : Nat} {Q : List (SV × HAd)} {ob : Obj} (hR : RowV W w.heap.size (.slice (some ⟨g, 0, none⟩) n c) Q n) (hC : ∀ K, Comes pushR (Q.map Prod.fst) K → Comes pushR T K) (hN : ∀ j (h : j + 1 < (Q.map Prod.fst).length), j < k → pushR ((Q.map Prod.fst)[j]'(by omega)) (Q.map Prod.fst)[j + 1] = none) (hk : k + 1 < Q.length) (h2 : (Q[k]'(by omega)).1.kind ≠ 2) (h0 : swapR (Q[k]'(by omega)).1 Q[k + 1].1 = true) (V : World) (hV : V = (put7 (put7 W g (k * 7) Q[k + 1].1 Q[k + 1].2) g ((k + 1) * 7) (Q[k]'(by omega)).1 (Q[k]'(by omega)).2).alloc ob) :
    PushW pushR w V g n c T 0 ∧ invK (kindsAt V g n) + 1 = invN (Q.map Prod.fst) := by
  have hl := hR.len
  have hS := (hR.swap k hk (Below.refl _ _)).below (show Below _ _ V by rw [hV]; exact (Below.refl _ _).alloc (Nat.le_refl _) ob)
  have hp : pushR (Q[k]'(by omega)).1 Q[k + 1].1 = some [Q[k + 1].1, (Q[k]'(by omega)).1] := by
    unfold pushR
    rw [if_pos (by simp [h2, h0])]
  have hk' : k + 1 < (Q.map Prod.fst).length := by rw [List.length_map]; exact hk
  have em : (Q.take k ++ [Q[k + 1], Q[k]'(by omega)] ++ Q.drop (k + 2)).map Prod.fst = (Q.map Prod.fst).take k ++ [(Q.map Prod.fst)[k + 1], (Q.map Prod.fst)[k]'(by omega)] ++ (Q.map Prod.fst).drop (k + 2) := by
    simp only [List.map_append, List.map_take, List.map_drop, List.map_cons, List.map_nil, List.getElem_map]
  have hst : rwStep pushR (Q.map Prod.fst) = some ((Q.take k ++ [Q[k + 1], Q[k]'(by omega)] ++ Q.drop (k + 2)).map Prod.fst) := by
    rw [em]
    refine rwStep_at k hk' (fun j hj => hN j (by omega) hj) _ ?_
    simpa using hp
  refine ⟨⟨_, hS, fun K h => hC K (.step hst h), fun j _ h => by omega⟩, ?_⟩
  rw [hS.kinds, em]
  exact (inv_swap k hk' (by simpa using h2) (by simpa using swap_kind h0)).1
set_option maxRecDepth 100000 in
set_option maxHeartbeats 8000000 in
theorem pushed_spec (a : Option Addr) (cap : Nat) (P : List (SV × HAd)) (n : Nat) (hn : P.length = n) (w : World) (hrow : HeadsIn w a P) (hm : n ≤ maxLen) (hsm : ∀ p ∈ P, MildS p.1) :
    Calls Tryz.prog 35 #[.slice a n cap] w (PushOut pushR w (P.map Prod.fst)) := by
  obtain ⟨b, hb⟩ : ∃ b, askB (P.map Prod.fst) = b := ⟨_, rfl⟩
  have HR : Hid (HeadsIn w a P) := hrow
  have HN : Hid (P.length = n) := hn
  have HSM : Hid (∀ p ∈ P, MildS p.1) := hsm
  have HB : Hid (askB (P.map Prod.fst) = b) := hb
  have h8 : b = true → n ≤ 8 := fun h => by have := ask_len (hb.trans h); rw [List.length_map] at this; omega
  clear hrow hn hsm hb
  go_enter Tryz.func35, Tryz.ntmps35
  go_wp2_with fail
  refine (ask_spec a cap (P.map Prod.fst) n (by rw [List.length_map]; exact HN.out) _ HR.out.sivs hm b HB.out).mono ?_
  rintro e w1 ⟨rfl, hb1⟩
  cases b
  · have FIN : Hid (PushOut pushR w (P.map Prod.fst) (.returned (.slice (some ⟨w1.heap.size, 0, none⟩) 0 0)) (w1.alloc (.cells #[] 43))) :=
      ⟨w1.heap.size, 0, 0, [], rfl, ⟨fun h => absurd (HB.out.symm.trans h) (by simp), fun _ => rfl⟩, RowV.empty (own_emptySv w1 _ hb1.size), hb1.alloc hb1.size _⟩
    go_wp2
    go_ret
    exact FIN.out
  have hn8 := h8 rfl
  clear h8
  go_wp2_with fail
  refine (l13copy_spec a cap P n HN.out _ (HR.out.below hb1) (by omega) HSM.out).mono ?_
  rintro e w2 ⟨g, c, Q0, rfl, hmap, hrow0, hb2⟩
  have hx := chain hb1 hb2
  have HW2 : Hid (PushW pushR w w2 g n c (P.map Prod.fst) 0) := by
    have hr : RowV w2 w.heap.size (.slice (some ⟨g, 0, none⟩) n c) Q0 n := ⟨own_lowV hrow0.own hb1.size, hrow0.len, fun p hp => (hrow0.new p hp).lower hb1.size, hrow0.far, hrow0.nilI⟩
    exact ⟨Q0, hr, fun K h => by rw [hmap] at h; exact h, fun j _ h => by omega⟩
  clear hb1 hb2 hrow0 hmap
  go_wp2
  go_loopw [4] (fun kk wr => ∃ k : Nat, k ≤ n ∧ kk = .int .i64 k ∧ Hid (PushW pushR w wr g n c (P.map Prod.fst) k) ∧ Below w.heap.size w wr) (fun kk wr => invK (kindsAt wr g n) * (n + 1) + (n - (intOf kk).toNat))
  case atStart => exact ⟨0, Nat.zero_le _, rfl, HW2, hx⟩
  case round =>
    obtain ⟨k, hk, rfl, hW, hbw⟩ := hrel
    by_cases hlt : k + 1 < n
    · obtain ⟨Q, hR, hC, hNo⟩ := hW.out
      have hl := hR.len
      have hk0 : k < Q.length := by omega
      have hk1 : k + 1 < Q.length := by omega
      have HRW : Hid (RowV wr w.heap.size (.slice (some ⟨g, 0, none⟩) n c) Q n) := hR
      have HCM : Hid (∀ K, Comes pushR (Q.map Prod.fst) K → Comes pushR (P.map Prod.fst) K) := hC
      have HNO : Hid (∀ j (h : j + 1 < (Q.map Prod.fst).length), j < k → pushR ((Q.map Prod.fst)[j]'(by omega)) (Q.map Prod.fst)[j + 1] = none) := hNo
      obtain ⟨b1, o1, e1, hg, c0, c1, c2, c3, c4, c5, c6⟩ := hR.heads.at k hk0
      cases e1
      obtain ⟨b2, o2, e2, _, d0, d1, d2, d3, d4, d5, d6⟩ := hR.heads.at (k + 1) hk1
      cases e2
      rw [Nat.zero_add] at c0 c1 c2 c3 c4 c5 c6 d0 d1 d2 d3 d4 d5 d6
      have hi0 : (0 : Int) ≤ (k : Int) := by omega
      have hi1 : (k : Int) < (n : Int) := by omega
      have hi2 : (k : Int) + 1 < (n : Int) := by omega
      have hi3 : ((k : Int) + 1).toNat = k + 1 := by omega
      have hi4 : (0 : Int) ≤ (k : Int) + 1 := by omega
      have hi5 : IntKind.i64.wrap ((k : Int) + 1) = (k : Int) + 1 := by rw [IntKind.wrap_i64]; omega
      have HSV : Hid (SivAt wr Q[k].2.na Q[k].2.nc Q[k].2.sa Q[k].1) := (hR.new _ (List.getElem_mem hk0)).siv
      have HTV : Hid (SivAt wr Q[k + 1].2.na Q[k + 1].2.nc Q[k + 1].2.sa Q[k + 1].1) := (hR.new _ (List.getElem_mem hk1)).siv
      obtain ⟨x, hxq⟩ : ∃ x, Q[k] = x := ⟨_, rfl⟩
      obtain ⟨y, hyq⟩ : ∃ y, Q[k + 1] = y := ⟨_, rfl⟩
      have HXQ : Hid (Q[k] = x) := hxq
      have HYQ : Hid (Q[k + 1] = y) := hyq
      rw [hxq] at c0 c1 c2 c3 c4 c5 c6 HSV
      rw [hyq] at d0 d1 d2 d3 d4 d5 d6 HTV
      clear hR hC hNo hW hxq hyq
      obtain ⟨⟨kd, nm, N, S, dn, ct, sk⟩, ⟨na, nc, sa, sc⟩⟩ := x
      obtain ⟨⟨kt, mt, M, R, dt, tt, st⟩, ⟨ma, mc, ra, rc⟩⟩ := y
      dsimp only at c0 c1 c2 c3 c4 c5 c6 d0 d1 d2 d3 d4 d5 d6 HSV HTV
      obtain ⟨nn, hnn⟩ : ∃ z, N.length = z := ⟨_, rfl⟩
      obtain ⟨sn, hsn⟩ : ∃ z, S.length = z := ⟨_, rfl⟩
      obtain ⟨mn, hmn⟩ : ∃ z, M.length = z := ⟨_, rfl⟩
      obtain ⟨rn, hrn⟩ : ∃ z, R.length = z := ⟨_, rfl⟩
      rw [hnn] at c2
      rw [hsn] at c3
      rw [hmn] at d2
      rw [hrn] at d3
      have HNN : Hid (N.length = nn) := hnn
      have HSN : Hid (S.length = sn) := hsn
      have HMN : Hid (M.length = mn) := hmn
      have HRN : Hid (R.length = rn) := hrn
      clear hnn hsn hmn hrn
      obtain ⟨z, hz⟩ : ∃ z, swapR ⟨kd, nm, N, S, dn, ct, sk⟩ ⟨kt, mt, M, R, dt, tt, st⟩ = z := ⟨_, rfl⟩
      have HZ : Hid (swapR ⟨kd, nm, N, S, dn, ct, sk⟩ ⟨kt, mt, M, R, dt, tt, st⟩ = z) := hz
      clear hz
      by_cases h2 : kd = 2
      · subst h2
        go_wp2_with fail
        refine wp_region_held_drew (S := (fun w' => w'.cell? ⟨g, k * 7, none⟩ = some (.int .i64 2) ∧ w'.cell? ⟨g, k * 7 + 1, none⟩ = some (.string nm) ∧ w'.cell? ⟨g, k * 7 + 2, none⟩ = some (.slice na nn nc) ∧ w'.cell? ⟨g, k * 7 + 3, none⟩ = some (.slice sa sn sc) ∧ w'.cell? ⟨g, k * 7 + 4, none⟩ = some (.bool dn) ∧ w'.cell? ⟨g, k * 7 + 5, none⟩ = some (.int .i64 ct) ∧ w'.cell? ⟨g, k * 7 + 6, none⟩ = some (.int .i64 sk) ∧ w'.cell? ⟨g, (k + 1) * 7, none⟩ = some (.int .i64 kt) ∧ w'.cell? ⟨g, (k + 1) * 7 + 1, none⟩ = some (.string mt) ∧ w'.cell? ⟨g, (k + 1) * 7 + 2, none⟩ = some (.slice ma mn mc) ∧ w'.cell? ⟨g, (k + 1) * 7 + 3, none⟩ = some (.slice ra rn rc) ∧ w'.cell? ⟨g, (k + 1) * 7 + 4, none⟩ = some (.bool dt) ∧ w'.cell? ⟨g, (k + 1) * 7 + 5, none⟩ = some (.int .i64 tt) ∧ w'.cell? ⟨g, (k + 1) * 7 + 6, none⟩ = some (.int .i64 st))) (by kernel_rfl) ?_ (fun hHeld => ?_)
        · (((try dsimp only); (repeat' apply And.intro) <;> first | (go_keep; done) | (simp (disch := first | omega | (simp <;> omega) | fail) [*]; done) | fail))
        refine wpAnyH_take (i := 0) (by simp only [List.getElem?_toArray, List.getElem?_cons_zero]; rfl) (by kernel_rfl) (by kernel_rfl) (by kernel_rfl) (by intro _ _ _ h; exact h) (Or.inl ⟨by rfl, fun w hSw => by (dsimp only at hSw; go_simp; (try with_reducible rfl))⟩) (by assumption) ?_
        simp only [Act.put, List.setIfInBounds_toArray, List.set_cons_zero, List.set_cons_succ]
        refine wpAnyH_take (i := 1) (by simp only [List.getElem?_toArray, List.getElem?_cons_zero, List.getElem?_cons_succ]; rfl) (by kernel_rfl) (by kernel_rfl) (by kernel_rfl) (by intro _ _ _ h; exact h) (Or.inl ⟨by rfl, fun w hSw => by (dsimp only at hSw; go_simp; (try with_reducible rfl))⟩) (by assumption) ?_
        simp only [Act.put, List.setIfInBounds_toArray, List.set_cons_zero, List.set_cons_succ]
        refine wpAnyH_take (i := 2) (by simp only [List.getElem?_toArray, List.getElem?_cons_zero, List.getElem?_cons_succ]; rfl) (by kernel_rfl) (by kernel_rfl) (by kernel_rfl) (by intro _ _ _ h; exact h) (Or.inl ⟨by rfl, fun w hSw => by (dsimp only at hSw; go_simp; (try with_reducible rfl))⟩) (by assumption) ?_
        simp only [Act.put, List.setIfInBounds_toArray, List.set_cons_zero, List.set_cons_succ]
        refine wpAnyH_take (i := 3) (by simp only [List.getElem?_toArray, List.getElem?_cons_zero, List.getElem?_cons_succ]; rfl) (by kernel_rfl) (by kernel_rfl) (by kernel_rfl) (by intro _ _ _ h; exact h) (Or.inl ⟨by rfl, fun w hSw => by (dsimp only at hSw; go_simp; (try with_reducible rfl))⟩) (by assumption) ?_
        simp only [Act.put, List.setIfInBounds_toArray, List.set_cons_zero, List.set_cons_succ]
        refine wpAnyH_take (i := 4) (by simp only [List.getElem?_toArray, List.getElem?_cons_zero, List.getElem?_cons_succ]; rfl) (by kernel_rfl) (by kernel_rfl) (by kernel_rfl) (by intro _ _ _ h; exact h) (Or.inl ⟨by rfl, fun w hSw => by (dsimp only at hSw; go_simp; (try with_reducible rfl))⟩) (by assumption) ?_
        simp only [Act.put, List.setIfInBounds_toArray, List.set_cons_zero, List.set_cons_succ]
        refine wpAnyH_take (i := 5) (by simp only [List.getElem?_toArray, List.getElem?_cons_zero, List.getElem?_cons_succ]; rfl) (by kernel_rfl) (by kernel_rfl) (by kernel_rfl) (by intro _ _ _ h; exact h) (Or.inl ⟨by rfl, fun w hSw => by (dsimp only at hSw; go_simp; (try with_reducible rfl))⟩) (by assumption) ?_
        simp only [Act.put, List.setIfInBounds_toArray, List.set_cons_zero, List.set_cons_succ]
        refine wpAnyH_take (i := 6) (by simp only [List.getElem?_toArray, List.getElem?_cons_zero, List.getElem?_cons_succ]; rfl) (by kernel_rfl) (by kernel_rfl) (by kernel_rfl) (by intro _ _ _ h; exact h) (Or.inl ⟨by rfl, fun w hSw => by (dsimp only at hSw; go_simp; (try with_reducible rfl))⟩) (by assumption) ?_
        simp only [Act.put, List.setIfInBounds_toArray, List.set_cons_zero, List.set_cons_succ]
        refine wpAnyH_take (i := 7) (v := undef) (by simp only [List.getElem?_toArray, List.getElem?_cons_zero, List.getElem?_cons_succ]; rfl) (by kernel_rfl) (by kernel_rfl) (by kernel_rfl) (by intro _ _ _ h; exact h) (Or.inr ⟨by rfl, rfl⟩) (by assumption) ?_
        simp only [Act.put, List.setIfInBounds_toArray, List.set_cons_zero, List.set_cons_succ]
        refine wpAnyH_take (i := 8) (v := undef) (by simp only [List.getElem?_toArray, List.getElem?_cons_zero, List.getElem?_cons_succ]; rfl) (by kernel_rfl) (by kernel_rfl) (by kernel_rfl) (by intro _ _ _ h; exact h) (Or.inr ⟨by rfl, rfl⟩) (by assumption) ?_
        simp only [Act.put, List.setIfInBounds_toArray, List.set_cons_zero, List.set_cons_succ]
        refine wpAnyH_take (i := 9) (v := undef) (by simp only [List.getElem?_toArray, List.getElem?_cons_zero, List.getElem?_cons_succ]; rfl) (by kernel_rfl) (by kernel_rfl) (by kernel_rfl) (by intro _ _ _ h; exact h) (Or.inr ⟨by rfl, rfl⟩) (by assumption) ?_
        simp only [Act.put, List.setIfInBounds_toArray, List.set_cons_zero, List.set_cons_succ]
        refine wpAnyH_take (i := 10) (v := undef) (by simp only [List.getElem?_toArray, List.getElem?_cons_zero, List.getElem?_cons_succ]; rfl) (by kernel_rfl) (by kernel_rfl) (by kernel_rfl) (by intro _ _ _ h; exact h) (Or.inr ⟨by rfl, rfl⟩) (by assumption) ?_
        simp only [Act.put, List.setIfInBounds_toArray, List.set_cons_zero, List.set_cons_succ]
        refine wpAnyH_take (i := 11) (v := undef) (by simp only [List.getElem?_toArray, List.getElem?_cons_zero, List.getElem?_cons_succ]; rfl) (by kernel_rfl) (by kernel_rfl) (by kernel_rfl) (by intro _ _ _ h; exact h) (Or.inr ⟨by rfl, rfl⟩) (by assumption) ?_
        simp only [Act.put, List.setIfInBounds_toArray, List.set_cons_zero, List.set_cons_succ]
        refine wpAnyH_take (i := 12) (v := undef) (by simp only [List.getElem?_toArray, List.getElem?_cons_zero, List.getElem?_cons_succ]; rfl) (by kernel_rfl) (by kernel_rfl) (by kernel_rfl) (by intro _ _ _ h; exact h) (Or.inr ⟨by rfl, rfl⟩) (by assumption) ?_
        simp only [Act.put, List.setIfInBounds_toArray, List.set_cons_zero, List.set_cons_succ]
        refine wpAnyH_take (i := 13) (v := undef) (by simp only [List.getElem?_toArray, List.getElem?_cons_zero, List.getElem?_cons_succ]; rfl) (by kernel_rfl) (by kernel_rfl) (by kernel_rfl) (by intro _ _ _ h; exact h) (Or.inr ⟨by rfl, rfl⟩) (by assumption) ?_
        simp only [Act.put, List.setIfInBounds_toArray, List.set_cons_zero, List.set_cons_succ]
        refine wpAnyH_take (i := 14) (v := undef) (by simp only [List.getElem?_toArray, List.getElem?_cons_zero, List.getElem?_cons_succ]; rfl) (by kernel_rfl) (by kernel_rfl) (by kernel_rfl) (by intro _ _ _ h; exact h) (Or.inr ⟨by rfl, rfl⟩) (by assumption) ?_
        simp only [Act.put, List.setIfInBounds_toArray, List.set_cons_zero, List.set_cons_succ]
        refine wpAnyH_take (i := 15) (v := undef) (by simp only [List.getElem?_toArray, List.getElem?_cons_zero, List.getElem?_cons_succ]; rfl) (by kernel_rfl) (by kernel_rfl) (by kernel_rfl) (by intro _ _ _ h; exact h) (Or.inr ⟨by rfl, rfl⟩) (by assumption) ?_
        simp only [Act.put, List.setIfInBounds_toArray, List.set_cons_zero, List.set_cons_succ]
        refine wpAnyH_take (i := 16) (v := undef) (by simp only [List.getElem?_toArray, List.getElem?_cons_zero, List.getElem?_cons_succ]; rfl) (by kernel_rfl) (by kernel_rfl) (by kernel_rfl) (by intro _ _ _ h; exact h) (Or.inr ⟨by rfl, rfl⟩) (by assumption) ?_
        simp only [Act.put, List.setIfInBounds_toArray, List.set_cons_zero, List.set_cons_succ]
        refine wpAnyH_take (i := 17) (by simp only [List.getElem?_toArray, List.getElem?_cons_zero, List.getElem?_cons_succ]; rfl) (by kernel_rfl) (by kernel_rfl) (by kernel_rfl) (by intro _ _ _ h; exact h) (Or.inl ⟨by rfl, fun w hSw => by (dsimp only at hSw; go_simp; (try with_reducible rfl))⟩) (by assumption) ?_
        simp only [Act.put, List.setIfInBounds_toArray, List.set_cons_zero, List.set_cons_succ]
        refine wpAnyH_done (by kernel_rfl) ?_ _
        clear hHeld
        have hp : pushR (Q[k]'hk0).1 (Q[k + 1]'hk1).1 = none := by
          rw [HXQ.out]
          unfold pushR
          rw [if_neg (by simp)]
        have HRD := HRW.out.below ((Below.refl wr.heap.size wr).drew)
        have HNX : Hid (PushW pushR w wr.drew g n c (P.map Prod.fst) (k + 1)) := PushW.next HRD HCM.out HNO.out hk1 hp
        have hkk : invK (kindsAt wr.drew g n) = invK (kindsAt wr g n) := HRD.kinds.trans HRW.out.kinds.symm
        clear hp HRD
        go_wp2
        go_roundw
        case rel => exact ⟨k + 1, by omega, by go_num, HNX.out, hbw.drew⟩
        case measure => rw [hkk]; simp [intOf]; omega
      · have hne : (kd != 2) = true := by simp [h2]
        have hne2 : (!(kd == 2)) = true := by simp [h2]
        go_wp2_with fail
        refine wp_region_held_drew (S := (fun w' => w'.cell? ⟨g, k * 7, none⟩ = some (.int .i64 kd) ∧ w'.cell? ⟨g, k * 7 + 1, none⟩ = some (.string nm) ∧ w'.cell? ⟨g, k * 7 + 2, none⟩ = some (.slice na nn nc) ∧ w'.cell? ⟨g, k * 7 + 3, none⟩ = some (.slice sa sn sc) ∧ w'.cell? ⟨g, k * 7 + 4, none⟩ = some (.bool dn) ∧ w'.cell? ⟨g, k * 7 + 5, none⟩ = some (.int .i64 ct) ∧ w'.cell? ⟨g, k * 7 + 6, none⟩ = some (.int .i64 sk) ∧ w'.cell? ⟨g, (k + 1) * 7, none⟩ = some (.int .i64 kt) ∧ w'.cell? ⟨g, (k + 1) * 7 + 1, none⟩ = some (.string mt) ∧ w'.cell? ⟨g, (k + 1) * 7 + 2, none⟩ = some (.slice ma mn mc) ∧ w'.cell? ⟨g, (k + 1) * 7 + 3, none⟩ = some (.slice ra rn rc) ∧ w'.cell? ⟨g, (k + 1) * 7 + 4, none⟩ = some (.bool dt) ∧ w'.cell? ⟨g, (k + 1) * 7 + 5, none⟩ = some (.int .i64 tt) ∧ w'.cell? ⟨g, (k + 1) * 7 + 6, none⟩ = some (.int .i64 st))) (by kernel_rfl) ?_ (fun hHeld => ?_)
        · (((try dsimp only); (repeat' apply And.intro) <;> first | (go_keep; done) | (simp (disch := first | omega | (simp <;> omega) | fail) [*]; done) | fail))
        refine wpAnyH_take (i := 0) (by simp only [List.getElem?_toArray, List.getElem?_cons_zero]; rfl) (by kernel_rfl) (by kernel_rfl) (by kernel_rfl) (by intro _ _ _ h; exact h) (Or.inl ⟨by rfl, fun w hSw => by (dsimp only at hSw; go_simp; (try with_reducible rfl))⟩) (by assumption) ?_
        simp only [Act.put, List.setIfInBounds_toArray, List.set_cons_zero, List.set_cons_succ]
        refine wpAnyH_take (i := 1) (by simp only [List.getElem?_toArray, List.getElem?_cons_zero, List.getElem?_cons_succ]; rfl) (by kernel_rfl) (by kernel_rfl) (by kernel_rfl) (by intro _ _ _ h; exact h) (Or.inl ⟨by rfl, fun w hSw => by (dsimp only at hSw; go_simp; (try with_reducible rfl))⟩) (by assumption) ?_
        simp only [Act.put, List.setIfInBounds_toArray, List.set_cons_zero, List.set_cons_succ]
        refine wpAnyH_take (i := 2) (by simp only [List.getElem?_toArray, List.getElem?_cons_zero, List.getElem?_cons_succ]; rfl) (by kernel_rfl) (by kernel_rfl) (by kernel_rfl) (by intro _ _ _ h; exact h) (Or.inl ⟨by rfl, fun w hSw => by (dsimp only at hSw; go_simp; (try with_reducible rfl))⟩) (by assumption) ?_
        simp only [Act.put, List.setIfInBounds_toArray, List.set_cons_zero, List.set_cons_succ]
        refine wpAnyH_take (i := 3) (by simp only [List.getElem?_toArray, List.getElem?_cons_zero, List.getElem?_cons_succ]; rfl) (by kernel_rfl) (by kernel_rfl) (by kernel_rfl) (by intro _ _ _ h; exact h) (Or.inl ⟨by rfl, fun w hSw => by (dsimp only at hSw; go_simp; (try with_reducible rfl))⟩) (by assumption) ?_
        simp only [Act.put, List.setIfInBounds_toArray, List.set_cons_zero, List.set_cons_succ]
        refine wpAnyH_take (i := 4) (by simp only [List.getElem?_toArray, List.getElem?_cons_zero, List.getElem?_cons_succ]; rfl) (by kernel_rfl) (by kernel_rfl) (by kernel_rfl) (by intro _ _ _ h; exact h) (Or.inl ⟨by rfl, fun w hSw => by (dsimp only at hSw; go_simp; (try with_reducible rfl))⟩) (by assumption) ?_
        simp only [Act.put, List.setIfInBounds_toArray, List.set_cons_zero, List.set_cons_succ]
        refine wpAnyH_take (i := 5) (by simp only [List.getElem?_toArray, List.getElem?_cons_zero, List.getElem?_cons_succ]; rfl) (by kernel_rfl) (by kernel_rfl) (by kernel_rfl) (by intro _ _ _ h; exact h) (Or.inl ⟨by rfl, fun w hSw => by (dsimp only at hSw; go_simp; (try with_reducible rfl))⟩) (by assumption) ?_
        simp only [Act.put, List.setIfInBounds_toArray, List.set_cons_zero, List.set_cons_succ]
        refine wpAnyH_take (i := 6) (by simp only [List.getElem?_toArray, List.getElem?_cons_zero, List.getElem?_cons_succ]; rfl) (by kernel_rfl) (by kernel_rfl) (by kernel_rfl) (by intro _ _ _ h; exact h) (Or.inl ⟨by rfl, fun w hSw => by (dsimp only at hSw; go_simp; (try with_reducible rfl))⟩) (by assumption) ?_
        simp only [Act.put, List.setIfInBounds_toArray, List.set_cons_zero, List.set_cons_succ]
        refine wpAnyH_take (i := 7) (by simp only [List.getElem?_toArray, List.getElem?_cons_zero, List.getElem?_cons_succ]; rfl) (by kernel_rfl) (by kernel_rfl) (by kernel_rfl) (by intro _ _ _ h; exact h) (Or.inl ⟨by rfl, fun w hSw => by (dsimp only at hSw; go_simp; (try with_reducible rfl))⟩) (by assumption) ?_
        simp only [Act.put, List.setIfInBounds_toArray, List.set_cons_zero, List.set_cons_succ]
        refine wpAnyH_take (i := 8) (by simp only [List.getElem?_toArray, List.getElem?_cons_zero, List.getElem?_cons_succ]; rfl) (by kernel_rfl) (by kernel_rfl) (by kernel_rfl) (by intro _ _ _ h; exact h) (Or.inl ⟨by rfl, fun w hSw => by (dsimp only at hSw; go_simp; (try with_reducible rfl))⟩) (by assumption) ?_
        simp only [Act.put, List.setIfInBounds_toArray, List.set_cons_zero, List.set_cons_succ]
        refine wpAnyH_take (i := 9) (by simp only [List.getElem?_toArray, List.getElem?_cons_zero, List.getElem?_cons_succ]; rfl) (by kernel_rfl) (by kernel_rfl) (by kernel_rfl) (by intro _ _ _ h; exact h) (Or.inl ⟨by rfl, fun w hSw => by (dsimp only at hSw; go_simp; (try with_reducible rfl))⟩) (by assumption) ?_
        simp only [Act.put, List.setIfInBounds_toArray, List.set_cons_zero, List.set_cons_succ]
        refine wpAnyH_take (i := 10) (by simp only [List.getElem?_toArray, List.getElem?_cons_zero, List.getElem?_cons_succ]; rfl) (by kernel_rfl) (by kernel_rfl) (by kernel_rfl) (by intro _ _ _ h; exact h) (Or.inl ⟨by rfl, fun w hSw => by (dsimp only at hSw; go_simp; (try with_reducible rfl))⟩) (by assumption) ?_
        simp only [Act.put, List.setIfInBounds_toArray, List.set_cons_zero, List.set_cons_succ]
        refine wpAnyH_take (i := 11) (by simp only [List.getElem?_toArray, List.getElem?_cons_zero, List.getElem?_cons_succ]; rfl) (by kernel_rfl) (by kernel_rfl) (by kernel_rfl) (by intro _ _ _ h; exact h) (Or.inl ⟨by rfl, fun w hSw => by (dsimp only at hSw; go_simp; (try with_reducible rfl))⟩) (by assumption) ?_
        simp only [Act.put, List.setIfInBounds_toArray, List.set_cons_zero, List.set_cons_succ]
        refine wpAnyH_take (i := 12) (by simp only [List.getElem?_toArray, List.getElem?_cons_zero, List.getElem?_cons_succ]; rfl) (by kernel_rfl) (by kernel_rfl) (by kernel_rfl) (by intro _ _ _ h; exact h) (Or.inl ⟨by rfl, fun w hSw => by (dsimp only at hSw; go_simp; (try with_reducible rfl))⟩) (by assumption) ?_
        simp only [Act.put, List.setIfInBounds_toArray, List.set_cons_zero, List.set_cons_succ]
        refine wpAnyH_take (i := 13) (by simp only [List.getElem?_toArray, List.getElem?_cons_zero, List.getElem?_cons_succ]; rfl) (by kernel_rfl) (by kernel_rfl) (by kernel_rfl) (by intro _ _ _ h; exact h) (Or.inl ⟨by rfl, fun w hSw => by (dsimp only at hSw; go_simp; (try with_reducible rfl))⟩) (by assumption) ?_
        simp only [Act.put, List.setIfInBounds_toArray, List.set_cons_zero, List.set_cons_succ]
        refine wpAnyH_take (i := 14) (by simp only [List.getElem?_toArray, List.getElem?_cons_zero, List.getElem?_cons_succ]; rfl) (by kernel_rfl) (by kernel_rfl) (by kernel_rfl) (by intro _ _ _ h; exact h) (Or.inl ⟨by rfl, fun w hSw => by (dsimp only at hSw; go_simp; (try with_reducible rfl))⟩) (by assumption) ?_
        simp only [Act.put, List.setIfInBounds_toArray, List.set_cons_zero, List.set_cons_succ]
        refine wpAnyH_take (i := 15) (by simp only [List.getElem?_toArray, List.getElem?_cons_zero, List.getElem?_cons_succ]; rfl) (by kernel_rfl) (by kernel_rfl) (by kernel_rfl) (by intro _ _ _ h; exact h) (Or.inl ⟨by rfl, fun w hSw => by (dsimp only at hSw; go_simp; (try with_reducible rfl))⟩) (by assumption) ?_
        simp only [Act.put, List.setIfInBounds_toArray, List.set_cons_zero, List.set_cons_succ]
        refine wpAnyH_ready (rs := [16]) (by kernel_rfl) (by simp) ?_
        refine AllReadyH.cons (by simp only [List.getElem?_toArray, List.getElem?_cons_zero, List.getElem?_cons_succ]; rfl) ?_ AllReadyH.nil
        intro K hK
        go_simp
        refine (swap_spec kd nm na nn nc N HNN.out sa sn sc S HSN.out dn ct sk kt mt ma mn mc M HMN.out ra rn rc R HRN.out dt tt st _ (HSV.out.below ((Below.refl _ _).drew)) (HTV.out.below ((Below.refl _ _).drew)) z HZ.out).mono ?_
        rintro e w3 ⟨rfl, hb3⟩
        replace hb3 := undrew hb3
        have key : ∀ b o, b < wr.heap.size → w3.cell? ⟨b, o, none⟩ = wr.cell? ⟨b, o, none⟩ := (bcell hb3).1
        have c0 := (key _ _ hg).trans c0
        have c1 := (key _ _ hg).trans c1
        have c2 := (key _ _ hg).trans c2
        have c3 := (key _ _ hg).trans c3
        have c4 := (key _ _ hg).trans c4
        have c5 := (key _ _ hg).trans c5
        have c6 := (key _ _ hg).trans c6
        have d0 := (key _ _ hg).trans d0
        have d1 := (key _ _ hg).trans d1
        have d2 := (key _ _ hg).trans d2
        have d3 := (key _ _ hg).trans d3
        have d4 := (key _ _ hg).trans d4
        have d5 := (key _ _ hg).trans d5
        have d6 := (key _ _ hg).trans d6
        have hg3 : g < w3.heap.size := Nat.lt_of_lt_of_le hg hb3.size
        clear key hHeld
        go_wp2_with fail
        refine hK.out _ _ ?_ (fun hHeld => ?_)
        · (((try dsimp only); (repeat' apply And.intro) <;> first | (go_keep; done) | (simp (disch := first | omega | (simp <;> omega) | fail) [*]; done) | fail))
        clear hK K
        try simp only [Act.put, List.setIfInBounds_toArray, List.set_cons_zero, List.set_cons_succ]
        refine wpAnyH_take (i := 17) (by simp only [List.getElem?_toArray, List.getElem?_cons_zero, List.getElem?_cons_succ]; rfl) (by kernel_rfl) (by kernel_rfl) (by kernel_rfl) (by intro _ _ _ h; exact h) (Or.inl ⟨by rfl, fun w hSw => by (dsimp only at hSw; go_simp; (try with_reducible rfl))⟩) (by assumption) ?_
        simp only [Act.put, List.setIfInBounds_toArray, List.set_cons_zero, List.set_cons_succ]
        refine wpAnyH_done (by kernel_rfl) ?_ _
        clear hHeld
        cases z
        · have hp : pushR (Q[k]'hk0).1 (Q[k + 1]'hk1).1 = none := by
            rw [HXQ.out, HYQ.out]
            unfold pushR
            rw [if_neg (by rw [HZ.out]; simp)]
          have HR3 := HRW.out.below hb3
          have HNX : Hid (PushW pushR w w3 g n c (P.map Prod.fst) (k + 1)) := PushW.next HR3 HCM.out HNO.out hk1 hp
          have hkk : invK (kindsAt w3 g n) = invK (kindsAt wr g n) := HR3.kinds.trans HRW.out.kinds.symm
          clear hp HR3
          go_wp2
          go_roundw
          case rel => exact ⟨k + 1, by omega, by go_num, HNX.out, chain hbw hb3⟩
          case measure => rw [hkk]; simp [intOf]; omega
        · have HR3 : Hid (RowV w3 w.heap.size (.slice (some ⟨g, 0, none⟩) n c) Q n) := HRW.out.below hb3
          have fx0 := HR3.out.own.frozenAt (k * 7)
          have fx1 := HR3.out.own.frozenAt (k * 7 + 1)
          have fx2 := HR3.out.own.frozenAt (k * 7 + 2)
          have fx3 := HR3.out.own.frozenAt (k * 7 + 3)
          have fx4 := HR3.out.own.frozenAt (k * 7 + 4)
          have fx5 := HR3.out.own.frozenAt (k * 7 + 5)
          have fx6 := HR3.out.own.frozenAt (k * 7 + 6)
          have fy0 := HR3.out.own.frozenAt ((k + 1) * 7)
          have fy1 := HR3.out.own.frozenAt ((k + 1) * 7 + 1)
          have fy2 := HR3.out.own.frozenAt ((k + 1) * 7 + 2)
          have fy3 := HR3.out.own.frozenAt ((k + 1) * 7 + 3)
          have fy4 := HR3.out.own.frozenAt ((k + 1) * 7 + 4)
          have fy5 := HR3.out.own.frozenAt ((k + 1) * 7 + 5)
          have fy6 := HR3.out.own.frozenAt ((k + 1) * 7 + 6)
          have hgB : w.heap.size ≤ g := (HR3.out.own.lt g rfl).1
          have BLO : Hid (Below w.heap.size w ((put7 (put7 w3 g (k * 7) ⟨kt, mt, M, R, dt, tt, st⟩ ⟨ma, mc, ra, rc⟩) g ((k + 1) * 7) ⟨kd, nm, N, S, dn, ct, sk⟩ ⟨na, nc, sa, sc⟩).alloc (.cells #[.int .i64 kd, .string nm, .slice na nn nc, .slice sa sn sc, .bool dn, .int .i64 ct, .int .i64 sk] 43))) :=
            (put7_below (put7_below (chain hbw hb3) hgB _ _ _) hgB _ _ _).alloc (by have := HR3.out.own.lt g rfl; have := (put7_below (put7_below (chain hbw hb3) hgB (k * 7) ⟨kt, mt, M, R, dt, tt, st⟩ ⟨ma, mc, ra, rc⟩) hgB ((k + 1) * 7) ⟨kd, nm, N, S, dn, ct, sk⟩ ⟨na, nc, sa, sc⟩).size; have := hbw.size; have := hb3.size; simp [put7]; omega) _
          have KEY : Hid (PushW pushR w ((put7 (put7 w3 g (k * 7) ⟨kt, mt, M, R, dt, tt, st⟩ ⟨ma, mc, ra, rc⟩) g ((k + 1) * 7) ⟨kd, nm, N, S, dn, ct, sk⟩ ⟨na, nc, sa, sc⟩).alloc (.cells #[.int .i64 kd, .string nm, .slice na nn nc, .slice sa sn sc, .bool dn, .int .i64 ct, .int .i64 sk] 43)) g n c (P.map Prod.fst) 0 ∧ invK (kindsAt ((put7 (put7 w3 g (k * 7) ⟨kt, mt, M, R, dt, tt, st⟩ ⟨ma, mc, ra, rc⟩) g ((k + 1) * 7) ⟨kd, nm, N, S, dn, ct, sk⟩ ⟨na, nc, sa, sc⟩).alloc (.cells #[.int .i64 kd, .string nm, .slice na nn nc, .slice sa sn sc, .bool dn, .int .i64 ct, .int .i64 sk] 43)) g n) + 1 = invN (Q.map Prod.fst)) := by
            have h := PushW.swap (ob := .cells #[.int .i64 kd, .string nm, .slice na nn nc, .slice sa sn sc, .bool dn, .int .i64 ct, .int .i64 sk] 43) HR3.out HCM.out HNO.out hk1 (by rw [HXQ.out]; exact h2) (by rw [HXQ.out, HYQ.out]; exact HZ.out) _ rfl
            rw [HXQ.out, HYQ.out] at h
            exact h
          have HKD : Hid (invK (kindsAt wr g n) = invN (Q.map Prod.fst)) := HRW.out.kinds
          unfold put7 at BLO KEY
          rw [show N.length = nn from HNN.out, show S.length = sn from HSN.out, show M.length = mn from HMN.out, show R.length = rn from HRN.out] at BLO KEY
          clear HR3
          go_wp2
          go_roundw
          case rel => exact ⟨0, Nat.zero_le _, rfl, KEY.out.1, BLO.out⟩
          case measure =>
            have hm1 := KEY.out.2
            rw [HKD.out]
            generalize invK (kindsAt _ g n) = q at hm1 ⊢
            rw [← hm1]
            have e0 : (intOf (.int .i64 0)).toNat = 0 := rfl
            have e1 : (intOf (.int .i64 (k : Int))).toNat = k := by simp [intOf]
            simp only [e0, e1]
            rw [Nat.add_mul, Nat.one_mul]
            omega
    · have FIN : Hid (PushOut pushR w (P.map Prod.fst) (.returned (.slice (some ⟨g, 0, none⟩) n c)) wr) := hW.out.done (by omega) HB.out hbw
      have hi2 : ¬ ((k : Int) + 1 < (n : Int)) := by omega
      clear hW
      go_wp2
      go_ret
      exact FIN.out
end Go.Proofs.YtegnekbbbfncgaaGreatDoor
