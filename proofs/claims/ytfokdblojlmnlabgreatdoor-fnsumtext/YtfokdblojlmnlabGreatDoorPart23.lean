/-
  A part of the proof: LevS.
-/
import Derived.Test.YtfokdblojlmnlabGreatDoorPart22
import Derived.Test.YtfokdblojlmnlabGreatDoorPart15

/-
  The contracts of the model's reading of tokens, level by level.
-/
namespace Go.Proofs.YtfokdblojlmnlabGreatDoor
open Go.ChangeShapes Go.WideShapes Go.ChangeAt Go.RowKit
attribute [local go_sem ↓] Go.wp_at_zero Go.wp_at_succ
attribute [local simp] World.cell?_alloc_past World.cell?_alloc_at World.frozen?_alloc_at cell_far cell_off cell_here World.frozen?_alloc_past

/-- What is read, and what stands then. -/
def LevRes (toks : List TT) (out : List TI) (k' : Nat) (out' : List TI) (b' : Bool) : Option (List TI × List TT) → Prop
  | none => b' = true
  | some (o, r) => b' = false ∧ out' = out ++ o ∧ toks.drop k' = r
def LevPost (w0 : World) (R : Nat) (a : Option Addr) (n c : Nat) (toks : List TT) (k : Nat) (out : List TI) (res : Option (List TI × List TT)) (e : Ending) (w' : World) : Prop :=
  e = .returned (.tuple #[]) ∧ ∃ k' v' out' b', Rd w0 w' R a n c toks k' v' out' b' ∧ out'.length + k ≤ out.length + k' ∧ k ≤ k' ∧ LevRes toks out k' out' b' res
/-- The contract of l8Level, where less than M is to be read. -/
def LevHyp (w0 : World) (R : Nat) (a : Option Addr) (n c : Nat) (toks : List TT) (M : Nat) : Prop :=
  ∀ lev, lev ≤ 7 → ∀ w k vo out, Rd w0 w R a n c toks k vo out false → 10 * (n - k) + (7 - lev) < M →
    Calls Tryz.prog 88 #[.pointer (some ⟨R, 0, none⟩), .int .i64 (lev : Int)] w (LevPost w0 R a n c toks k out (levR lev (toks.drop k)))
theorem level_bad {w0 w : World} {R : Nat} {a : Option Addr} {n c : Nat} {toks : List TT} {k : Nat} {vo : Value} {out : List TI} (h : Rd w0 w R a n c toks k vo out true) (lev : Int) :
    Calls Tryz.prog 88 #[.pointer (some ⟨R, 0, none⟩), .int .i64 lev] w fun e w' => e = .returned (.tuple #[]) ∧ w' = w := by
  obtain ⟨r0, r1, r2, r3⟩ := h.box.cells
  clear h
  go_enter Tryz.func88, Tryz.ntmps88
  go_wp2_with fail
  exact bodyPost_ret (v := .tuple #[]) (by first | rfl | kernel_rfl) rfl ⟨rfl, rfl⟩
theorem Rd.push {w0 w w2 : World} {R : Nat} {a : Option Addr} {n c : Nat} {toks : List TT} {k : Nat} {vo : Value} {out : List TI} {bad : Bool} (h : Rd w0 w R a n c toks k vo out bad) (o : Obj) (x : TI) {v' : Value}
    (own2 : w2.ownsRow w0.heap.size 102 5 v' (out.length + 1) (flatItm out ++ [.int .i64 x.1, .int .i64 x.2.1.1, .int .i64 x.2.1.2.1, .string x.2.1.2.2, .string x.2.2])) (hgrow : (w.alloc o).grownBy w2 vo.ownBlock) (hs : out.length < k) :
    ∃ gv cv, v' = .slice (some ⟨gv, 0, none⟩) (out.length + 1) cv ∧ RBox w2 R (.slice a n c) k vo bad ∧ Rd w0 (w2.setCell ⟨R, 2, none⟩ v') R a n c toks k v' (out ++ [x]) bad := by
  have hbox2 : RBox w2 R (.slice a n c) k vo bad := by
    have hb1 : RBox (w.alloc o) R (.slice a n c) k vo bad := h.box.below ((Below.refl _ _).alloc (Nat.le_refl _) _)
    exact hb1.of (hgrow.block R hb1.lt (fun e => h.box.notOwn h.own e.symm))
  have hk2 : Below w0.heap.size w0 w2 := by
    refine (h.kept.alloc h.kept.size _).grown hgrow (by have := h.kept.size; simp; omega) ?_
    intro kk hkk
    exact (h.own.lt kk hkk).1
  have own3 : w2.ownsRow w0.heap.size 102 5 v' (out ++ [x]).length (flatItm (out ++ [x])) := by
    rw [flatItm_append, List.length_append]
    exact own2
  obtain ⟨gv, cv, hv⟩ : ∃ gv cv, v' = .slice (some ⟨gv, 0, none⟩) (out.length + 1) cv := by
    rcases own2.2 with ⟨h', h''⟩ | ⟨gv, cv, cur, h', _⟩
    · exfalso; simp at h''
    · exact ⟨gv, cv, h'⟩
  exact ⟨gv, cv, hv, hbox2, hbox2.set2 _, ownsRow_setCell_other own3 (hbox2.notOwn own3) _, hk2.setCell h.hR _, h.hR, h.row, h.hn, h.hk, by rw [List.length_append]; show out.length + 1 ≤ k; omega⟩
theorem drop_len {toks : List TT} {n : Nat} (hn : toks.length = n) (k : Nat) : (toks.drop k).length = n - k := by rw [List.length_drop, hn]
set_option maxRecDepth 100000 in
set_option maxHeartbeats 8000000 in
theorem one_spec {w0 w : World} {R : Nat} {a : Option Addr} {n c : Nat} {toks : List TT} {k : Nat} {vo : Value} {out : List TI} (h : Rd w0 w R a n c toks k vo out false) (hm : n ≤ 1048576) (hyp : LevHyp w0 R a n c toks (10 * (n - k))) :
    Calls Tryz.prog 149 #[.pointer (some ⟨R, 0, none⟩)] w (LevPost w0 R a n c toks k out (levR 7 (toks.drop k))) := by
  have H : Hid (Rd w0 w R a n c toks k vo out false) := h
  have HY : Hid (LevHyp w0 R a n c toks (10 * (n - k))) := hyp
  have hkn := h.hk
  have hln := h.hn
  clear h hyp
  go_enter Tryz.func149, Tryz.ntmps149
  go_wp2_with fail
  refine (sees_spec H.out hm ⟨#[40]⟩).mono ?_
  rintro e w1 ⟨b, k1, rfl, hR1, hyes, hno, hk1⟩
  have R1 : Hid (Rd w0 w1 R a n c toks k1 vo out false) := hR1
  clear hR1 hk1 H
  cases b
  · obtain ⟨hkk, hsee⟩ := hno rfl
    rw [hkk] at R1
    have HS : Hid (seesT ⟨#[40]⟩ (toks.drop k) = none) := hsee
    clear hyes hno hsee hkk
    obtain ⟨r0, r1, r2, r3⟩ := R1.out.box.cells
    obtain ⟨f1, f2, f3⟩ := R1.out.box.free
    by_cases hk : k < n
    · have hk' : k < toks.length := by omega
      obtain ⟨g, o, rfl, hgw, c0, c1, c2, c3, c4⟩ := (R1.out.row.below R1.out.kept) k hk'
      have hd := drop_at hk'
      have hi0 : (0 : Int) ≤ (k : Int) := by omega
      have hi1 : (k : Int) < (n : Int) := by omega
      have hne : ((k : Int) == (n : Int)) = false := by simpa using (show ¬ (k : Int) = (n : Int) by omega)
      generalize toks[k] = t at c0 c1 c2 c3 c4 hd
      obtain ⟨tk, ts, ta, tb, tc⟩ := t
      dsimp only at c0 c1 c2 c3 c4
      have HD : Hid (toks.drop k = (tk, ts, ta, tb, tc) :: toks.drop (k + 1)) := hd
      clear hd
      by_cases h3 : tk = 3
      · subst h3
        go_wp2_with fail
        go_quiet (fail)
        rename_i nq _
        have fin : Hid (LevPost w0 R (some ⟨g, o, none⟩) n c toks k out (levR 7 (toks.drop k)) (.returned (.tuple #[])) ((w1.drewN nq).setCell ⟨R, 3, none⟩ (.bool true))) := by
          refine ⟨rfl, k, vo, out, true, (R1.out.below (belowN (Below.refl _ _) nq)).wrong true, by omega, by omega, ?_⟩
          rw [levR_7, HS.out]
          simp only []
          rw [HD.out]
          simp only []
          rw [if_pos trivial]
          rfl
        clear R1
        go_wp2_with fail
        exact bodyPost_ret (v := .tuple #[]) (by first | rfl | kernel_rfl) rfl fin.out
      · have h33 : (tk == 3) = false := by simpa using h3
        have HLev : Hid (levR 7 (toks.drop k) = some ([itmOf (tk, ts, ta, tb, tc)], toks.drop (k + 1))) := by
          have : levR 7 (toks.drop k) = some ([itmOf (tk, ts, ta, tb, tc)], toks.drop (k + 1)) := by
            rw [levR_7, HS.out]
            simp only []
            rw [HD.out]
            simp only []
            rw [if_neg h3]
          exact this
        go_wp2_with fail
        go_quiet (fail)
        rename_i nq _
        obtain ⟨w2, hw2⟩ : ∃ w2, w2 = w1.drewN nq := ⟨_, rfl⟩
        have hb2 : Below w1.heap.size w1 w2 := by rw [hw2]; exact belowN (Below.refl _ _) nq
        have R2 : Hid (Rd w0 w2 R (some ⟨g, o, none⟩) n c toks k vo out false) := R1.out.below hb2
        rw [← hw2]
        have key : ∀ q, w2.cell? ⟨g, q, none⟩ = w1.cell? ⟨g, q, none⟩ := fun q => hb2.cell (p := ⟨g, q, none⟩) hgw
        rw [← key] at c0 c1 c2 c3 c4
        have hgw2 : g < w2.heap.size := Nat.lt_of_lt_of_le hgw hb2.size
        clear r0 r1 r2 r3 f1 f2 f3 hw2 hb2 key
        obtain ⟨r0, r1, r2, r3⟩ := R2.out.box.cells
        have hRw := R2.out.box.lt
        have hne1 : w2.heap.size ≠ R := by omega
        have hne2 : w2.heap.size ≠ g := by omega
        go_wp2_with fail
        refine wp_region_held_drew (S := (fun w' => w'.cell? ⟨R, 0, none⟩ = some (.slice (some ⟨g, o, none⟩) n c) ∧ w'.cell? ⟨R, 1, none⟩ = some (.int .i64 (k : Int)) ∧ w'.cell? ⟨g, o + k * 5, none⟩ = some (.int .i64 tk) ∧ w'.cell? ⟨g, o + k * 5 + 1, none⟩ = some (.string ts) ∧ w'.cell? ⟨g, o + k * 5 + 2, none⟩ = some (.int .i64 ta) ∧ w'.cell? ⟨g, o + k * 5 + 3, none⟩ = some (.int .i64 tb) ∧ w'.cell? ⟨g, o + k * 5 + 4, none⟩ = some (.string tc))) (by kernel_rfl) ?_ (fun hHeld => ?_)
        · (((try dsimp only); (repeat' apply And.intro) <;> first | (go_keep; done) | (simp (disch := first | omega | (simp <;> omega) | fail) [*]; done) | fail))
        refine wpAnyH_take (i := 0) (by simp only [List.getElem?_toArray, List.getElem?_cons_zero]; rfl) (by kernel_rfl) (by kernel_rfl) (by kernel_rfl) (by intro _ _ _ h; exact h) (Or.inl ⟨by rfl, fun w hSw => by (dsimp only at hSw; go_simp; (try with_reducible rfl))⟩) (by assumption) ?_
        simp only [Act.put, List.setIfInBounds_toArray, List.set_cons_zero, List.set_cons_succ]
        refine wpAnyH_take (i := 1) (by simp only [List.getElem?_toArray, List.getElem?_cons_zero, List.getElem?_cons_succ]; rfl) (by kernel_rfl) (by kernel_rfl) (by kernel_rfl) (by intro _ _ _ h; exact h) (Or.inl ⟨by rfl, fun w hSw => by (dsimp only at hSw; go_simp; (try with_reducible rfl))⟩) (by assumption) ?_
        simp only [Act.put, List.setIfInBounds_toArray, List.set_cons_zero, List.set_cons_succ]
        refine wpAnyH_take (i := 2) (by simp only [List.getElem?_toArray, List.getElem?_cons_zero, List.getElem?_cons_succ]; rfl) (by kernel_rfl) (by kernel_rfl) (by kernel_rfl) (by intro _ _ _ h; exact h) (Or.inl ⟨by rfl, fun w hSw => by (dsimp only at hSw; go_simp; (try with_reducible rfl))⟩) (by assumption) ?_
        simp only [Act.put, List.setIfInBounds_toArray, List.set_cons_zero, List.set_cons_succ]
        refine wpAnyH_take (i := 3) (by simp only [List.getElem?_toArray, List.getElem?_cons_zero, List.getElem?_cons_succ]; rfl) (by kernel_rfl) (by kernel_rfl) (by kernel_rfl) (by intro _ _ _ h; exact h) (Or.inl ⟨by rfl, fun w hSw => by (dsimp only at hSw; go_simp; (try with_reducible rfl))⟩) (by assumption) ?_
        simp only [Act.put, List.setIfInBounds_toArray, List.set_cons_zero, List.set_cons_succ]
        refine wpAnyH_take (i := 4) (by simp only [List.getElem?_toArray, List.getElem?_cons_zero, List.getElem?_cons_succ]; rfl) (by kernel_rfl) (by kernel_rfl) (by kernel_rfl) (by intro _ _ _ h; exact h) (Or.inl ⟨by rfl, fun w hSw => by (dsimp only at hSw; go_simp; (try with_reducible rfl))⟩) (by assumption) ?_
        simp only [Act.put, List.setIfInBounds_toArray, List.set_cons_zero, List.set_cons_succ]
        refine wpAnyH_take (i := 5) (by simp only [List.getElem?_toArray, List.getElem?_cons_zero, List.getElem?_cons_succ]; rfl) (by kernel_rfl) (by kernel_rfl) (by kernel_rfl) (by intro _ _ _ h; exact h) (Or.inl ⟨by rfl, fun w hSw => by (dsimp only at hSw; go_simp; (try with_reducible rfl))⟩) (by assumption) ?_
        simp only [Act.put, List.setIfInBounds_toArray, List.set_cons_zero, List.set_cons_succ]
        refine wpAnyH_take (i := 6) (by simp only [List.getElem?_toArray, List.getElem?_cons_zero, List.getElem?_cons_succ]; rfl) (by kernel_rfl) (by kernel_rfl) (by kernel_rfl) (by intro _ _ _ h; exact h) (Or.inl ⟨by rfl, fun w hSw => by (dsimp only at hSw; go_simp; (try with_reducible rfl))⟩) (by assumption) ?_
        simp only [Act.put, List.setIfInBounds_toArray, List.set_cons_zero, List.set_cons_succ]
        refine wpAnyH_take (i := 7) (by simp only [List.getElem?_toArray, List.getElem?_cons_zero, List.getElem?_cons_succ]; rfl) (by kernel_rfl) (by kernel_rfl) (by kernel_rfl) (by intro _ _ _ h; exact h) (Or.inl ⟨by rfl, fun w hSw => by (dsimp only at hSw; go_simp; (try with_reducible rfl))⟩) (by assumption) ?_
        simp only [Act.put, List.setIfInBounds_toArray, List.set_cons_zero, List.set_cons_succ]
        refine wpAnyH_take (i := 8) (by simp only [List.getElem?_toArray, List.getElem?_cons_zero, List.getElem?_cons_succ]; rfl) (by kernel_rfl) (by kernel_rfl) (by kernel_rfl) (by intro _ _ _ h; exact h) (Or.inl ⟨by rfl, fun w hSw => by (dsimp only at hSw; go_simp; (try with_reducible rfl))⟩) (by assumption) ?_
        simp only [Act.put, List.setIfInBounds_toArray, List.set_cons_zero, List.set_cons_succ]
        refine wpAnyH_take (i := 9) (by simp only [List.getElem?_toArray, List.getElem?_cons_zero, List.getElem?_cons_succ]; rfl) (by kernel_rfl) (by kernel_rfl) (by kernel_rfl) (by intro _ _ _ h; exact h) (Or.inl ⟨by rfl, fun w hSw => by (dsimp only at hSw; go_simp; (try with_reducible rfl))⟩) (by assumption) ?_
        simp only [Act.put, List.setIfInBounds_toArray, List.set_cons_zero, List.set_cons_succ]
        refine wpAnyH_ready (rs := [10]) (by kernel_rfl) (by simp) ?_
        refine AllReadyH.cons (by simp only [List.getElem?_toArray, List.getElem?_cons_zero, List.getElem?_cons_succ]; rfl) ?_ AllReadyH.nil
        intro K hK
        go_simp
        refine hK.out _ _ ?_ (fun hHeld => ?_)
        · (((try dsimp only); (repeat' apply And.intro) <;> first | (go_keep; done) | (simp (disch := first | omega | (simp <;> omega) | fail) [*]; done) | fail))
        clear hK K
        try simp only [Act.put, List.setIfInBounds_toArray, List.set_cons_zero, List.set_cons_succ]
        refine wpAnyH_ready (rs := [11]) (by kernel_rfl) (by simp) ?_
        refine AllReadyH.cons (by simp only [List.getElem?_toArray, List.getElem?_cons_zero, List.getElem?_cons_succ]; rfl) ?_ AllReadyH.nil
        intro K hK
        go_simp
        refine hK.out _ _ ?_ (fun hHeld => ?_)
        · (((try dsimp only); (repeat' apply And.intro) <;> first | (go_keep; done) | (simp (disch := first | omega | (simp <;> omega) | fail) [*]; done) | fail))
        clear hK K
        try simp only [Act.put, List.setIfInBounds_toArray, List.set_cons_zero, List.set_cons_succ]
        refine wpAnyH_done (by kernel_rfl) ?_ _
        obtain ⟨V, hV⟩ : ∃ V, V = (w2.alloc (.cells #[.int .i64 tk, .string ts, .int .i64 ta, .int .i64 tb, .string tc] 56)).drew := ⟨_, rfl⟩
        have hbV : Below w2.heap.size w2 V := by rw [hV]; exact ((Below.refl _ _).alloc (Nat.le_refl _) _).drew
        have hX5 := box5 (w := w2) (w1 := V) (a := .int .i64 tk) (b := .string ts) (c := .int .i64 ta) (d := .int .i64 tb) (e := .string tc) (T := 56) (by rw [hV]; exact (Below.refl _ _).drew)
        rw [← hV]
        have R3 : Hid (Rd w0 V R (some ⟨g, o, none⟩) n c toks k vo out false) := R2.out.below hbV
        obtain ⟨TB, hTB⟩ : ∃ TB, w2.heap.size = TB := ⟨_, rfl⟩
        rw [hTB] at hX5 hne1 ⊢
        obtain ⟨e0, e1, e2, e3, e4, eB⟩ := hX5
        clear hV hbV R2 r0 r1 r2 r3 c0 c1 c2 c3 c4 hHeld hTB
        obtain ⟨r0, r1, r2, r3⟩ := R3.out.box.cells
        obtain ⟨f1, f2, f3⟩ := R3.out.box.free
        obtain ⟨w4, hw4⟩ : ∃ w4, w4 = V.setCell ⟨R, 1, none⟩ (.int .i64 ((k : Int) + 1)) := ⟨_, rfl⟩
        have R4 : Hid (Rd w0 w4 R (some ⟨g, o, none⟩) n c toks (k + 1) vo out false) := by
          have := R3.out.at (k + 1) (by omega) (by have := R3.out.hout; omega)
          rw [hw4]
          exact this
        have hk4 : ∀ q, w4.cell? ⟨TB, q, none⟩ = V.cell? ⟨TB, q, none⟩ := fun q => by rw [hw4]; exact cell_far _ _ _ _ _ _ hne1
        have hs4 : w4.heap.size = V.heap.size := by rw [hw4]; simp
        have hok := R3.out.hout
        have hR4 := R4.out.box.lt
        have hT4 : TB < w4.heap.size := by omega
        clear hs4
        go_upto_region 7 with fail
        rw [← hw4]
        rw [← hk4] at e0 e1 e2 e3 e4
        clear hw4 hk4 r0 r1 r2 r3 f1 f2 f3 R3
        obtain ⟨r0, r1, r2, r3⟩ := R4.out.box.cells
        obtain ⟨f1, f2, f3⟩ := R4.out.box.free
        have hn4 : w4.heap.size ≠ R := by omega
        have hn5 : w4.heap.size ≠ TB := by omega
        obtain ⟨i0, hti, hz0, hz1, hz2⟩ := info_parts infoItm5
        by_cases h1 : tk = 1
        · subst h1
          have HIt : Hid ([(2, zeroC, ts)] = [itmOf (1, ts, ta, tb, tc)]) := rfl
          go_wp2_with fail
          refine wp_region_until (z := 12) (S := (fun w' => w'.cell? ⟨R, 2, none⟩ = some vo)) (by kernel_rfl) ?_ (fun hHeld => ?_)
          · (((try dsimp only); (repeat' apply And.intro) <;> first | (go_keep; done) | (simp (disch := first | omega | (simp <;> omega) | fail) [*]; done) | fail))
          refine wpAnyU_take (i := 0) (by simp only [List.getElem?_toArray, List.getElem?_cons_zero]; rfl) (by kernel_rfl) (by kernel_rfl) (by kernel_rfl) (by kernel_rfl) (by intro _ _ _ h; exact h) (Or.inl ⟨by rfl, fun w hSw => by (dsimp only at hSw; go_simp; (try with_reducible rfl))⟩) (by assumption) ?_
          simp only [Act.put, List.setIfInBounds_toArray, List.set_cons_zero, List.set_cons_succ]
          refine wpAnyU_take (i := 1) (by simp only [List.getElem?_toArray, List.getElem?_cons_zero, List.getElem?_cons_succ]; rfl) (by kernel_rfl) (by kernel_rfl) (by kernel_rfl) (by kernel_rfl) (by intro _ _ _ h; exact h) (Or.inl ⟨by rfl, fun w hSw => by (dsimp only at hSw; go_simp; (try with_reducible rfl))⟩) (by assumption) ?_
          simp only [Act.put, List.setIfInBounds_toArray, List.set_cons_zero, List.set_cons_succ]
          refine wpAnyU_take (i := 2) (by simp only [List.getElem?_toArray, List.getElem?_cons_zero, List.getElem?_cons_succ]; rfl) (by kernel_rfl) (by kernel_rfl) (by kernel_rfl) (by kernel_rfl) (by intro _ _ _ h; exact h) (Or.inl ⟨by rfl, fun w hSw => by (dsimp only at hSw; go_simp; (try with_reducible rfl))⟩) (by assumption) ?_
          simp only [Act.put, List.setIfInBounds_toArray, List.set_cons_zero, List.set_cons_succ]
          refine wpAnyU_take (i := 3) (by simp only [List.getElem?_toArray, List.getElem?_cons_zero, List.getElem?_cons_succ]; rfl) (by kernel_rfl) (by kernel_rfl) (by kernel_rfl) (by kernel_rfl) (by intro _ _ _ h; exact h) (Or.inl ⟨by rfl, fun w hSw => by (dsimp only at hSw; go_simp; (try with_reducible rfl))⟩) (by assumption) ?_
          simp only [Act.put, List.setIfInBounds_toArray, List.set_cons_zero, List.set_cons_succ]
          refine wpAnyU_take (i := 4) (by simp only [List.getElem?_toArray, List.getElem?_cons_zero, List.getElem?_cons_succ]; rfl) (by kernel_rfl) (by kernel_rfl) (by kernel_rfl) (by kernel_rfl) (by intro _ _ _ h; exact h) (Or.inl ⟨by rfl, fun w hSw => by (dsimp only at hSw; go_simp; (try with_reducible rfl))⟩) (by assumption) ?_
          simp only [Act.put, List.setIfInBounds_toArray, List.set_cons_zero, List.set_cons_succ]
          refine wpAnyU_take (i := 5) (by simp only [List.getElem?_toArray, List.getElem?_cons_zero, List.getElem?_cons_succ]; rfl) (by kernel_rfl) (by kernel_rfl) (by kernel_rfl) (by kernel_rfl) (by intro _ _ _ h; exact h) (Or.inl ⟨by rfl, fun w hSw => by (dsimp only at hSw; go_simp; (try with_reducible rfl))⟩) (by assumption) ?_
          simp only [Act.put, List.setIfInBounds_toArray, List.set_cons_zero, List.set_cons_succ]
          refine wpAnyU_one (i := 6) (by kernel_rfl) (by simp only [List.getElem?_toArray, List.getElem?_cons_zero, List.getElem?_cons_succ]; rfl) ?_
          intro K hK
          go_simp
          refine hK.out _ _ ?_ (fun hHeld => ?_)
          · (((try dsimp only); (repeat' apply And.intro) <;> first | (go_keep; done) | (simp (disch := first | omega | (simp <;> omega) | fail) [*]; done) | fail))
          clear hK K
          try simp only [Act.put, List.setIfInBounds_toArray, List.set_cons_zero, List.set_cons_succ]
          refine wpAnyU_take (i := 7) (by simp only [List.getElem?_toArray, List.getElem?_cons_zero, List.getElem?_cons_succ]; rfl) (by kernel_rfl) (by kernel_rfl) (by kernel_rfl) (by kernel_rfl) (by intro _ _ _ h; exact h) (Or.inl ⟨by rfl, fun w hSw => by (dsimp only at hSw; go_simp; (try with_reducible rfl))⟩) (by assumption) ?_
          simp only [Act.put, List.setIfInBounds_toArray, List.set_cons_zero, List.set_cons_succ]
          refine wpAnyU_one (i := 8) (by kernel_rfl) (by simp only [List.getElem?_toArray, List.getElem?_cons_zero, List.getElem?_cons_succ]; rfl) ?_
          intro K hK
          go_simp
          refine hK.out _ _ ?_ (fun hHeld => ?_)
          · (((try dsimp only); (repeat' apply And.intro) <;> first | (go_keep; done) | (simp (disch := first | omega | (simp <;> omega) | fail) [*]; done) | fail))
          clear hK K
          try simp only [Act.put, List.setIfInBounds_toArray, List.set_cons_zero, List.set_cons_succ]
          refine wpAnyU_one (i := 9) (by kernel_rfl) (by simp only [List.getElem?_toArray, List.getElem?_cons_zero, List.getElem?_cons_succ]; rfl) ?_
          intro K hK
          rw [if_pos (by rfl)]
          refine wp_append_own _ _ _ 60 rfl w0.heap.size 102 i0 (.agg #[.int .i64 0, .int .i64 0, .int .i64 0, .string ⟨#[]⟩, .string ⟨#[]⟩]) 5 56 Tryz.underlying60 hti hz0 hz1 hz2 rfl (by decide) vo out.length (flatItm out) rfl (R4.out.drew.own.alloc _) ⟨w4.heap.size, 0, none⟩ 1 1 [.int .i64 2, .int .i64 0, .int .i64 0, .string ⟨#[]⟩, .string ts] rfl rfl (cells5I w4.drew _ _ _ _ _) (by intro u hu; simp at hu; rcases hu with rfl | rfl | rfl | rfl | rfl <;> rfl) (by unfold maxLen; omega) (by omega) (by have := R4.out.kept.size; simp; omega) ?_
          intro v' w5 own5 hgrow hnn
          obtain ⟨gv, cv, hv', hbx, hfin⟩ := R4.out.drew.push _ (2, zeroC, ts) own5 hgrow (by omega)
          subst hv'
          obtain ⟨L, hL⟩ : ∃ L, out.length + 1 = L := ⟨_, rfl⟩
          rw [hL] at hfin
          have HFi : Hid (Rd w0 (w5.setCell ⟨R, 2, none⟩ (.slice (some ⟨gv, 0, none⟩) L cv)) R (some ⟨g, o, none⟩) n c toks (k + 1) (.slice (some ⟨gv, 0, none⟩) L cv) (out ++ [(2, zeroC, ts)]) false) := hfin
          have HPost : Hid (LevPost w0 R (some ⟨g, o, none⟩) n c toks k out (levR 7 (toks.drop k)) (.returned (.tuple #[])) (w5.setCell ⟨R, 2, none⟩ (.slice (some ⟨gv, 0, none⟩) L cv))) := by
            refine ⟨rfl, k + 1, _, _, false, HFi.out, by rw [List.length_append]; show out.length + 1 + k ≤ out.length + (k + 1); omega, by omega, ?_⟩
            rw [HLev.out]
            exact ⟨rfl, by rw [HIt.out], rfl⟩
          obtain ⟨s0, s1, s2, s3⟩ := hbx.cells
          obtain ⟨g1, g2, g3⟩ := hbx.free
          rw [hL]
          clear own5 hgrow hnn hbx hfin HFi hL
          refine hK.out _ _ ?_ (fun hHeld => ?_)
          · (((try dsimp only); (repeat' apply And.intro) <;> first | assumption | (simp (disch := first | omega | (simp <;> omega) | fail) [*]; done) | fail))
          clear hK K
          try simp only [Act.put, List.setIfInBounds_toArray, List.set_cons_zero, List.set_cons_succ]
          refine wpAnyU_one (i := 10) (by kernel_rfl) (by simp only [List.getElem?_toArray, List.getElem?_cons_zero, List.getElem?_cons_succ]; rfl) ?_
          intro K hK
          go_simp
          refine hK.out _ _ ?_ (fun hHeld => ?_)
          · (((try dsimp only); (repeat' apply And.intro) <;> first | (go_keep; done) | (simp (disch := first | omega | (simp <;> omega) | fail) [*]; done) | fail))
          clear hK K
          try simp only [Act.put, List.setIfInBounds_toArray, List.set_cons_zero, List.set_cons_succ]
          refine wpAnyU_take (i := 11) (by simp only [List.getElem?_toArray, List.getElem?_cons_zero, List.getElem?_cons_succ]; rfl) (by kernel_rfl) (by kernel_rfl) (by kernel_rfl) (by kernel_rfl) (by intro _ _ _ h; exact h) (Or.inl ⟨by rfl, fun w hSw => by (dsimp only at hSw; go_simp; (try with_reducible rfl))⟩) (by assumption) ?_
          simp only [Act.put, List.setIfInBounds_toArray, List.set_cons_zero, List.set_cons_succ]
          refine wpAnyU_last (by kernel_rfl) (by simp only [List.getElem?_toArray, List.getElem?_cons_zero, List.getElem?_cons_succ]; rfl) ?_
          intro K hK
          go_simp
          refine hK.out _ _ ?_
          clear hK K
          try simp only [Act.put, List.setIfInBounds_toArray, List.set_cons_zero, List.set_cons_succ]
          refine wpAnyU_done (by kernel_rfl) ?_ _
          go_wp2_with fail
          exact bodyPost_end (v := .tuple #[]) (by first | rfl | kernel_rfl) rfl HPost.out
        · have h11 : (tk == 1) = false := by simpa using h1
          have HIt : Hid ([(1, (ta, tb, tc), ⟨#[]⟩)] = [itmOf (tk, ts, ta, tb, tc)]) := by
            have : [(1, (ta, tb, tc), ⟨#[]⟩)] = [itmOf (tk, ts, ta, tb, tc)] := by unfold itmOf; rw [if_neg h1]
            exact this
          go_wp2_with fail
          refine wp_region_until (z := 12) (S := (fun w' => w'.cell? ⟨R, 2, none⟩ = some vo)) (by kernel_rfl) ?_ (fun hHeld => ?_)
          · (((try dsimp only); (repeat' apply And.intro) <;> first | (go_keep; done) | (simp (disch := first | omega | (simp <;> omega) | fail) [*]; done) | fail))
          refine wpAnyU_take (i := 0) (by simp only [List.getElem?_toArray, List.getElem?_cons_zero]; rfl) (by kernel_rfl) (by kernel_rfl) (by kernel_rfl) (by kernel_rfl) (by intro _ _ _ h; exact h) (Or.inl ⟨by rfl, fun w hSw => by (dsimp only at hSw; go_simp; (try with_reducible rfl))⟩) (by assumption) ?_
          simp only [Act.put, List.setIfInBounds_toArray, List.set_cons_zero, List.set_cons_succ]
          refine wpAnyU_take (i := 1) (by simp only [List.getElem?_toArray, List.getElem?_cons_zero, List.getElem?_cons_succ]; rfl) (by kernel_rfl) (by kernel_rfl) (by kernel_rfl) (by kernel_rfl) (by intro _ _ _ h; exact h) (Or.inl ⟨by rfl, fun w hSw => by (dsimp only at hSw; go_simp; (try with_reducible rfl))⟩) (by assumption) ?_
          simp only [Act.put, List.setIfInBounds_toArray, List.set_cons_zero, List.set_cons_succ]
          refine wpAnyU_take (i := 2) (by simp only [List.getElem?_toArray, List.getElem?_cons_zero, List.getElem?_cons_succ]; rfl) (by kernel_rfl) (by kernel_rfl) (by kernel_rfl) (by kernel_rfl) (by intro _ _ _ h; exact h) (Or.inl ⟨by rfl, fun w hSw => by (dsimp only at hSw; go_simp; (try with_reducible rfl))⟩) (by assumption) ?_
          simp only [Act.put, List.setIfInBounds_toArray, List.set_cons_zero, List.set_cons_succ]
          refine wpAnyU_take (i := 3) (by simp only [List.getElem?_toArray, List.getElem?_cons_zero, List.getElem?_cons_succ]; rfl) (by kernel_rfl) (by kernel_rfl) (by kernel_rfl) (by kernel_rfl) (by intro _ _ _ h; exact h) (Or.inl ⟨by rfl, fun w hSw => by (dsimp only at hSw; go_simp; (try with_reducible rfl))⟩) (by assumption) ?_
          simp only [Act.put, List.setIfInBounds_toArray, List.set_cons_zero, List.set_cons_succ]
          refine wpAnyU_take (i := 4) (by simp only [List.getElem?_toArray, List.getElem?_cons_zero, List.getElem?_cons_succ]; rfl) (by kernel_rfl) (by kernel_rfl) (by kernel_rfl) (by kernel_rfl) (by intro _ _ _ h; exact h) (Or.inl ⟨by rfl, fun w hSw => by (dsimp only at hSw; go_simp; (try with_reducible rfl))⟩) (by assumption) ?_
          simp only [Act.put, List.setIfInBounds_toArray, List.set_cons_zero, List.set_cons_succ]
          refine wpAnyU_take (i := 5) (by simp only [List.getElem?_toArray, List.getElem?_cons_zero, List.getElem?_cons_succ]; rfl) (by kernel_rfl) (by kernel_rfl) (by kernel_rfl) (by kernel_rfl) (by intro _ _ _ h; exact h) (Or.inl ⟨by rfl, fun w hSw => by (dsimp only at hSw; go_simp; (try with_reducible rfl))⟩) (by assumption) ?_
          simp only [Act.put, List.setIfInBounds_toArray, List.set_cons_zero, List.set_cons_succ]
          refine wpAnyU_one (i := 6) (by kernel_rfl) (by simp only [List.getElem?_toArray, List.getElem?_cons_zero, List.getElem?_cons_succ]; rfl) ?_
          intro K hK
          go_simp
          refine hK.out _ _ ?_ (fun hHeld => ?_)
          · (((try dsimp only); (repeat' apply And.intro) <;> first | (go_keep; done) | (simp (disch := first | omega | (simp <;> omega) | fail) [*]; done) | fail))
          clear hK K
          try simp only [Act.put, List.setIfInBounds_toArray, List.set_cons_zero, List.set_cons_succ]
          refine wpAnyU_take (i := 7) (by simp only [List.getElem?_toArray, List.getElem?_cons_zero, List.getElem?_cons_succ]; rfl) (by kernel_rfl) (by kernel_rfl) (by kernel_rfl) (by kernel_rfl) (by intro _ _ _ h; exact h) (Or.inl ⟨by rfl, fun w hSw => by (dsimp only at hSw; go_simp; (try with_reducible rfl))⟩) (by assumption) ?_
          simp only [Act.put, List.setIfInBounds_toArray, List.set_cons_zero, List.set_cons_succ]
          refine wpAnyU_one (i := 8) (by kernel_rfl) (by simp only [List.getElem?_toArray, List.getElem?_cons_zero, List.getElem?_cons_succ]; rfl) ?_
          intro K hK
          go_simp
          refine hK.out _ _ ?_ (fun hHeld => ?_)
          · (((try dsimp only); (repeat' apply And.intro) <;> first | (go_keep; done) | (simp (disch := first | omega | (simp <;> omega) | fail) [*]; done) | fail))
          clear hK K
          try simp only [Act.put, List.setIfInBounds_toArray, List.set_cons_zero, List.set_cons_succ]
          refine wpAnyU_one (i := 9) (by kernel_rfl) (by simp only [List.getElem?_toArray, List.getElem?_cons_zero, List.getElem?_cons_succ]; rfl) ?_
          intro K hK
          rw [if_pos (by rfl)]
          refine wp_append_own _ _ _ 60 rfl w0.heap.size 102 i0 (.agg #[.int .i64 0, .int .i64 0, .int .i64 0, .string ⟨#[]⟩, .string ⟨#[]⟩]) 5 56 Tryz.underlying60 hti hz0 hz1 hz2 rfl (by decide) vo out.length (flatItm out) rfl (R4.out.drew.own.alloc _) ⟨w4.heap.size, 0, none⟩ 1 1 [.int .i64 1, .int .i64 ta, .int .i64 tb, .string tc, .string ⟨#[]⟩] rfl rfl (cells5I w4.drew _ _ _ _ _) (by intro u hu; simp at hu; rcases hu with rfl | rfl | rfl | rfl | rfl <;> rfl) (by unfold maxLen; omega) (by omega) (by have := R4.out.kept.size; simp; omega) ?_
          intro v' w5 own5 hgrow hnn
          obtain ⟨gv, cv, hv', hbx, hfin⟩ := R4.out.drew.push _ (1, (ta, tb, tc), ⟨#[]⟩) own5 hgrow (by omega)
          subst hv'
          obtain ⟨L, hL⟩ : ∃ L, out.length + 1 = L := ⟨_, rfl⟩
          rw [hL] at hfin
          have HFi : Hid (Rd w0 (w5.setCell ⟨R, 2, none⟩ (.slice (some ⟨gv, 0, none⟩) L cv)) R (some ⟨g, o, none⟩) n c toks (k + 1) (.slice (some ⟨gv, 0, none⟩) L cv) (out ++ [(1, (ta, tb, tc), ⟨#[]⟩)]) false) := hfin
          have HPost : Hid (LevPost w0 R (some ⟨g, o, none⟩) n c toks k out (levR 7 (toks.drop k)) (.returned (.tuple #[])) (w5.setCell ⟨R, 2, none⟩ (.slice (some ⟨gv, 0, none⟩) L cv))) := by
            refine ⟨rfl, k + 1, _, _, false, HFi.out, by rw [List.length_append]; show out.length + 1 + k ≤ out.length + (k + 1); omega, by omega, ?_⟩
            rw [HLev.out]
            exact ⟨rfl, by rw [HIt.out], rfl⟩
          obtain ⟨s0, s1, s2, s3⟩ := hbx.cells
          obtain ⟨g1, g2, g3⟩ := hbx.free
          rw [hL]
          clear own5 hgrow hnn hbx hfin HFi hL
          refine hK.out _ _ ?_ (fun hHeld => ?_)
          · (((try dsimp only); (repeat' apply And.intro) <;> first | assumption | (simp (disch := first | omega | (simp <;> omega) | fail) [*]; done) | fail))
          clear hK K
          try simp only [Act.put, List.setIfInBounds_toArray, List.set_cons_zero, List.set_cons_succ]
          refine wpAnyU_one (i := 10) (by kernel_rfl) (by simp only [List.getElem?_toArray, List.getElem?_cons_zero, List.getElem?_cons_succ]; rfl) ?_
          intro K hK
          go_simp
          refine hK.out _ _ ?_ (fun hHeld => ?_)
          · (((try dsimp only); (repeat' apply And.intro) <;> first | (go_keep; done) | (simp (disch := first | omega | (simp <;> omega) | fail) [*]; done) | fail))
          clear hK K
          try simp only [Act.put, List.setIfInBounds_toArray, List.set_cons_zero, List.set_cons_succ]
          refine wpAnyU_take (i := 11) (by simp only [List.getElem?_toArray, List.getElem?_cons_zero, List.getElem?_cons_succ]; rfl) (by kernel_rfl) (by kernel_rfl) (by kernel_rfl) (by kernel_rfl) (by intro _ _ _ h; exact h) (Or.inl ⟨by rfl, fun w hSw => by (dsimp only at hSw; go_simp; (try with_reducible rfl))⟩) (by assumption) ?_
          simp only [Act.put, List.setIfInBounds_toArray, List.set_cons_zero, List.set_cons_succ]
          refine wpAnyU_last (by kernel_rfl) (by simp only [List.getElem?_toArray, List.getElem?_cons_zero, List.getElem?_cons_succ]; rfl) ?_
          intro K hK
          go_simp
          refine hK.out _ _ ?_
          clear hK K
          try simp only [Act.put, List.setIfInBounds_toArray, List.set_cons_zero, List.set_cons_succ]
          refine wpAnyU_done (by kernel_rfl) ?_ _
          go_wp2_with fail
          exact bodyPost_end (v := .tuple #[]) (by first | rfl | kernel_rfl) rfl HPost.out
    · have hkn' : k = n := by omega
      have hnil : toks.drop k = [] := List.drop_eq_nil_of_le (by omega)
      have HN : Hid (toks.drop k = []) := hnil
      have heq : ((k : Int) == (n : Int)) = true := by rw [hkn']; simp
      clear hnil hkn'
      go_wp2_with fail
      go_quiet (fail)
      rename_i nq _
      have fin : Hid (LevPost w0 R a n c toks k out (levR 7 (toks.drop k)) (.returned (.tuple #[])) ((w1.drewN nq).setCell ⟨R, 3, none⟩ (.bool true))) := by
        refine ⟨rfl, k, vo, out, true, (R1.out.below (belowN (Below.refl _ _) nq)).wrong true, by omega, by omega, ?_⟩
        rw [levR_7, HS.out]
        simp only []
        rw [HN.out]
        rfl
      clear R1
      go_wp2_with fail
      exact bodyPost_ret (v := .tuple #[]) (by first | rfl | kernel_rfl) rfl fin.out
  · obtain ⟨hkk, hsee⟩ := hyes rfl
    subst hkk
    have hk1n := R1.out.hk
    have HS : Hid (seesT ⟨#[40]⟩ (toks.drop k) = some (toks.drop (k + 1))) := hsee
    clear hyes hno hsee
    go_wp2_with fail
    refine (HY.out 0 (by omega) w1 (k + 1) vo out R1.out (by omega)).mono ?_
    rintro e w2 ⟨rfl, k2, v2, out2, b2, hR2, hsl, hk2, hres⟩
    have R2 : Hid (Rd w0 w2 R a n c toks k2 v2 out2 b2) := hR2
    have HRes : Hid (LevRes toks out k2 out2 b2 (levR 0 (toks.drop (k + 1)))) := hres
    obtain ⟨r0, r1, r2, r3⟩ := hR2.box.cells
    obtain ⟨f1, f2, f3⟩ := hR2.box.free
    clear hR2 hres R1
    cases b2
    · go_wp2_with fail
      refine (sees_spec R2.out hm ⟨#[41]⟩).mono ?_
      rintro e w3 ⟨b3, k3, rfl, hR3, hyes, hno, hk3⟩
      have R3 : Hid (Rd w0 w3 R a n c toks k3 v2 out2 false) := hR3
      obtain ⟨s0, s1, s2, s3⟩ := hR3.box.cells
      obtain ⟨g1, g2, g3⟩ := hR3.box.free
      clear hR3 hk3 r0 r1 r2 r3 f1 f2 f3
      have hf := HRes.out
      obtain ⟨o, r', hlv⟩ : ∃ o r', levR 0 (toks.drop (k + 1)) = some (o, r') := by
        cases hq : levR 0 (toks.drop (k + 1)) with
        | none => rw [hq] at hf; cases hf
        | some z => exact ⟨z.1, z.2, rfl⟩
      rw [hlv] at hf
      obtain ⟨_, ho2, hd2⟩ := hf
      cases b3
      · obtain ⟨hkk, hsee⟩ := hno rfl
        have fin : Hid (LevPost w0 R a n c toks k out (levR 7 (toks.drop k)) (.returned (.tuple #[])) (w3.setCell ⟨R, 3, none⟩ (.bool true))) := by
          refine ⟨rfl, k3, v2, out2, true, R3.out.wrong true, by omega, by omega, ?_⟩
          rw [levR_7, HS.out]
          simp only []
          rw [hlv]
          simp only []
          rw [← hd2, hsee]
          rfl
        clear hyes hno hsee HRes HS R3 R2
        go_wp2_with fail
        exact bodyPost_ret (v := .tuple #[]) (by first | rfl | kernel_rfl) rfl fin.out
      · obtain ⟨hkk, hsee⟩ := hyes rfl
        have fin : Hid (LevPost w0 R a n c toks k out (levR 7 (toks.drop k)) (.returned (.tuple #[])) (w3.setCell ⟨R, 3, none⟩ (.bool false))) := by
          refine ⟨rfl, k3, v2, out2, false, R3.out.wrong false, by omega, by omega, ?_⟩
          rw [levR_7, HS.out]
          simp only []
          rw [hlv]
          simp only []
          rw [← hd2, hsee]
          exact ⟨rfl, ho2, by rw [hkk]⟩
        clear hyes hno hsee HRes HS R3 R2
        go_wp2_with fail
        exact bodyPost_ret (v := .tuple #[]) (by first | rfl | kernel_rfl) rfl fin.out
    · have hf := HRes.out
      have hlv : levR 0 (toks.drop (k + 1)) = none := by
        cases hq : levR 0 (toks.drop (k + 1)) with
        | none => rfl
        | some z => rw [hq] at hf; obtain ⟨hb, _⟩ := hf; cases hb
      have fin : Hid (LevPost w0 R a n c toks k out (levR 7 (toks.drop k)) (.returned (.tuple #[])) (w2.setCell ⟨R, 3, none⟩ (.bool true))) := by
        refine ⟨rfl, k2, v2, out2, true, R2.out.wrong true, by omega, by omega, ?_⟩
        rw [levR_7, HS.out]
        simp only []
        rw [hlv]
        rfl
      clear hf HRes HS R2
      go_wp2_with fail
      exact bodyPost_ret (v := .tuple #[]) (by first | rfl | kernel_rfl) rfl fin.out
end Go.Proofs.YtfokdblojlmnlabGreatDoor
