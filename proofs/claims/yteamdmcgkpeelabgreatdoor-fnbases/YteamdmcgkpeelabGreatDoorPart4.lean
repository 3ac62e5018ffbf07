/-
  A part of the proof: Tab1, Rank1, Rank2, Rank3, Rank4, Tab6, Tab2, Lists5.
-/
import Derived.Test.YteamdmcgkpeelabGreatDoorPart3
import Derived.Test.YteamdmcgkpeelabGreatDoorPart1
import Derived.Laws.AppendOwnNone
import Derived.Laws.IdiomStrings
import Derived.Laws.Concat

/-
  Tables: how a table lies in memory, what a right one is, without any program, and the contract of the model's TableOk.
-/
namespace Go.Proofs.YteamdmcgkpeelabGreatDoor
open Go.ChangeShapes Go.WideShapes Go.ChangeAt Go.RowKit
attribute [local go_sem ↓] Go.wp_at_zero Go.wp_at_succ
attribute [local simp] World.cell?_alloc_past World.cell?_alloc_at World.frozen?_alloc_at cell_far cell_off cell_here World.frozen?_alloc_past

/-- A table: its name, its columns, its rows. -/
abbrev TB := ByteArray × List ByteArray × List (List CT)
/-- The columns and rows of a table lie where it says. -/
structure TabAt (w : World) (ca : Option Addr) (cc : Nat) (ra : Option Addr) (t : TB) : Prop where
  cols : StrsAt w ca t.2.1
  fit : FitS t.2.1
  len : t.2.1.length ≤ maxLen
  cap : t.2.1.length ≤ cc
  nilC : ca = none → cc = 0
  rows : RowsAt w ra t.2.2
  lenR : t.2.2.length ≤ maxLen
  name : t.1.size ≤ maxLen
theorem TabAt.below {w w' : World} {ca : Option Addr} {cc : Nat} {ra : Option Addr} {t : TB} (h : TabAt w ca cc ra t) (hb : Below w.heap.size w w') : TabAt w' ca cc ra t :=
  ⟨h.cols.below hb, h.fit, h.len, h.cap, h.nilC, h.rows.below hb, h.lenR, h.name⟩

def rowOk (n : Nat) (r : List CT) : Bool := decide (r.length = n) && r.all okC
/-- Is it a right table? -/
def tableB (t : TB) : Bool := (nameB t.1 && (namesB t.2.1 1 6 && decide (t.2.2.length ≤ 60))) && t.2.2.all (rowOk t.2.1.length)

theorem cells_specN (n : Nat) (a : Option Addr) (cap : Nat) (l : List CT) (hn : l.length = n) (w : World) (hrow : RowAt w a l) (hfit : Fit l) (hm : n ≤ maxLen) (b : Bool) (hb : l.all okC = b) :
    Calls Tryz.prog 62 #[.slice a n cap] w fun e w' => e = .returned (.bool b) ∧ Below w.heap.size w w' := by
  subst hn; exact cells_spec a cap l w hrow hfit hm b hb
theorem names_specN (n : Nat) (a : Option Addr) (cap : Nat) (l : List ByteArray) (hn : l.length = n) (least most : Int) (w : World) (hrow : StrsAt w a l) (hfit : FitS l) (hm : n ≤ maxLen) (hcap : n ≤ cap) (b : Bool) (hb : namesB l least most = b) :
    Calls Tryz.prog 61 #[.slice a n cap, .int .i64 least, .int .i64 most] w fun e w' => e = .returned (.bool b) ∧ Below w.heap.size w w' := by
  subst hn; exact names_spec a cap l least most w hrow hfit hm hcap b hb

set_option maxRecDepth 100000 in
set_option maxHeartbeats 4000000 in
theorem table_spec (ca : Option Addr) (cc : Nat) (ra : Option Addr) (cr : Nat) (t : TB) (nc nr : Nat) (hnc : t.2.1.length = nc) (hnr : t.2.2.length = nr) (w : World) (ht : TabAt w ca cc ra t) (b : Bool) (hb : tableB t = b) :
    Calls Tryz.prog 35 #[.agg #[.string t.1, .slice ca nc cc, .slice ra nr cr]] w fun e w' => e = .returned (.bool b) ∧ Below w.heap.size w w' := by
  obtain ⟨nm, C, L⟩ := t
  dsimp only at hnc hnr ⊢
  have HT : Hid (TabAt w ca cc ra (nm, C, L)) := ht
  have HNC : Hid (C.length = nc) := hnc
  have HNR : Hid (L.length = nr) := hnr
  have hncM : nc ≤ maxLen := by rw [← hnc]; exact ht.len
  have hnrM : nr ≤ maxLen := by rw [← hnr]; exact ht.lenR
  have hcap : nc ≤ cc := by rw [← hnc]; exact ht.cap
  have hnm : nm.size ≤ maxLen := ht.name
  obtain ⟨b1, h1⟩ : ∃ x, nameB nm = x := ⟨_, rfl⟩
  obtain ⟨b2, h2⟩ : ∃ x, namesB C 1 6 = x := ⟨_, rfl⟩
  have HB1 : Hid (nameB nm = b1) := h1
  have HB2 : Hid (namesB C 1 6 = b2) := h2
  have hb' : ((b1 && (b2 && decide (nr ≤ 60))) && L.all (rowOk nc)) = b := by rw [← hb, ← h1, ← h2, ← hnc, ← hnr]; rfl
  clear ht hb h1 h2 hnc hnr
  have hm1 := hncM
  have hm2 := hnrM
  unfold maxLen at hm1 hm2
  have HTA : Hid (TabAt (w.alloc (.cells #[.string nm, .slice ca nc cc, .slice ra nr cr] 35)) ca cc ra (nm, C, L)) := HT.out.below ((Below.refl _ _).alloc (Nat.le_refl _) _)
  cases b1
  · rw [Bool.false_and, Bool.false_and] at hb'
    subst hb'
    go_enter Tryz.func35, Tryz.ntmps35
    go_wp2_with fail
    refine (name_spec nm _ hnm false HB1.out).mono ?_
    rintro e w' ⟨rfl, rfl⟩
    go_wp2
    go_ret
    exact ⟨rfl, (Below.refl _ _).alloc (Nat.le_refl _) _⟩
  rw [Bool.true_and] at hb'
  go_enter Tryz.func35, Tryz.ntmps35
  go_wp2_with fail
  refine (name_spec nm _ hnm true HB1.out).mono ?_
  rintro e w' ⟨rfl, rfl⟩
  go_wp2_with fail
  refine (names_specN nc ca cc C HNC.out 1 6 _ HTA.out.cols HTA.out.fit hncM hcap b2 HB2.out).mono ?_
  rintro e w1 ⟨rfl, hbx⟩
  obtain ⟨p0, p1, p2, p3⟩ := box3 hbx
  have hx1 : Below w.heap.size w w1 := chainA hbx
  have H1 : Hid (TabAt w1 ca cc ra (nm, C, L)) := HTA.out.below hbx
  clear hbx HTA HT
  obtain ⟨B, hB⟩ : ∃ B, w.heap.size = B := ⟨_, rfl⟩
  rw [hB] at p0 p1 p2 p3 ⊢
  cases b2
  · rw [Bool.false_and, Bool.false_and] at hb'
    subst hb'
    go_wp2
    go_ret
    exact ⟨rfl, hB ▸ hx1⟩
  rw [Bool.true_and] at hb'
  by_cases h60 : (60 : Int) < (nr : Int)
  · rw [decide_eq_false (by omega), Bool.false_and] at hb'
    subst hb'
    go_wp2
    go_ret
    exact ⟨rfl, hB ▸ hx1⟩
  rw [decide_eq_true (by omega), Bool.true_and] at hb'
  have HB : Hid (L.all (rowOk nc) = b) := hb'
  clear hb'
  go_wp2_with fail
  go_loopw [3] (fun kk wr => ∃ k : Nat, k ≤ nr ∧ kk = .int .i64 k ∧ Hid ((L.take k).all (rowOk nc) = true) ∧ Below w1.heap.size w1 wr) (fun kk _ => nr - (intOf kk).toNat)
  case atStart => exact ⟨0, Nat.zero_le _, rfl, rfl, Below.refl _ _⟩
  case round =>
    obtain ⟨k, hk, rfl, hall, hbw⟩ := hrel
    obtain ⟨d0, d1, d2, d3⟩ := later3 hbw ⟨p0, p1, p2, p3⟩
    have hxr := chain hx1 hbw
    by_cases hlt : k < nr
    · have hlt' : k < L.length := by rw [HNR.out]; exact hlt
      obtain ⟨g, o, ai, ci, rfl, hgw, c0, hrow, hfit, hlen, _⟩ := (H1.out.below hbw).rows k hlt'
      have hi0 : (0 : Int) ≤ (k : Int) := by omega
      have hi1 : (k : Int) < (nr : Int) := by omega
      have hsn : (L.take (k + 1)).all (rowOk nc) = rowOk nc L[k] := by
        rw [List.take_succ_eq_append_getElem hlt', List.all_append, hall.out, Bool.true_and, List.all_cons, List.all_nil, Bool.and_true]
      have HS : Hid ((L.take (k + 1)).all (rowOk nc) = rowOk nc L[k]) := hsn
      have hno : Hid (rowOk nc L[k] = false → b = false) := by
        have : rowOk nc L[k] = false → b = false := by
          intro e
          rw [← HB.out, Bool.eq_false_iff]
          intro h
          rw [List.all_eq_true.1 h _ (List.getElem_mem hlt')] at e
          cases e
        exact this
      clear hsn
      generalize L[k] = l at c0 hrow hfit hlen HS hno
      obtain ⟨n, hn⟩ : ∃ n, l.length = n := ⟨_, rfl⟩
      rw [hn] at c0 hlen
      have HN : Hid (l.length = n) := hn
      have RW : Hid (RowAt wr ai l) := hrow
      have FT : Hid (Fit l) := hfit
      clear hn hrow hfit
      have hlm := hlen
      unfold maxLen at hlm
      by_cases e : n = nc
      · subst e
        obtain ⟨q, hq⟩ : ∃ q, l.all okC = q := ⟨_, rfl⟩
        have HQ : Hid (l.all okC = q) := hq
        have HO : Hid (rowOk n l = q) := by
          have : rowOk n l = q := by unfold rowOk; rw [decide_eq_true HN.out, Bool.true_and, hq]
          exact this
        clear hq
        go_wp2_with fail
        refine wp_region_held_drew (S := (fun w' => w'.cell? ⟨B, 1, none⟩ = some (.slice ca n cc) ∧ w'.cell? ⟨B, 2, none⟩ = some (.slice (some ⟨g, o, none⟩) nr cr) ∧ w'.cell? ⟨g, o + k, none⟩ = some (.slice ai n ci))) (by kernel_rfl) ?_ (fun hHeld => ?_)
        · (((try dsimp only); (repeat' apply And.intro) <;> first | (go_keep; done) | (simp (disch := first | omega | (simp <;> omega) | fail) [*]; done) | fail))
        refine wpAnyH_take (i := 0) (by simp only [List.getElem?_toArray, List.getElem?_cons_zero]; rfl) (by kernel_rfl) (by kernel_rfl) (by kernel_rfl) (by intro _ _ _ h; exact h) (Or.inl ⟨by rfl, fun w hSw => by (dsimp only at hSw; go_simp; (try with_reducible rfl))⟩) (by assumption) ?_
        simp only [Act.put, List.setIfInBounds_toArray, List.set_cons_zero, List.set_cons_succ]
        refine wpAnyH_take (i := 1) (by simp only [List.getElem?_toArray, List.getElem?_cons_zero, List.getElem?_cons_succ]; rfl) (by kernel_rfl) (by kernel_rfl) (by kernel_rfl) (by intro _ _ _ h; exact h) (Or.inl ⟨by rfl, fun w hSw => by (dsimp only at hSw; go_simp; (try with_reducible rfl))⟩) (by assumption) ?_
        simp only [Act.put, List.setIfInBounds_toArray, List.set_cons_zero, List.set_cons_succ]
        refine wpAnyH_take (i := 2) (by simp only [List.getElem?_toArray, List.getElem?_cons_zero, List.getElem?_cons_succ]; rfl) (by kernel_rfl) (by kernel_rfl) (by kernel_rfl) (by intro _ _ _ h; exact h) (Or.inl ⟨by rfl, fun w hSw => by (dsimp only at hSw; go_simp; (try with_reducible rfl))⟩) (by assumption) ?_
        simp only [Act.put, List.setIfInBounds_toArray, List.set_cons_zero, List.set_cons_succ]
        refine wpAnyH_take (i := 3) (by simp only [List.getElem?_toArray, List.getElem?_cons_zero, List.getElem?_cons_succ]; rfl) (by kernel_rfl) (by kernel_rfl) (by kernel_rfl) (by intro _ _ _ h; exact h) (Or.inl ⟨by rfl, fun w hSw => by (dsimp only at hSw; go_simp; (try with_reducible rfl))⟩) (by assumption) ?_
        simp only [Act.put, List.setIfInBounds_toArray, List.set_cons_zero, List.set_cons_succ]
        refine wpAnyH_take (i := 4) (by simp only [List.getElem?_toArray, List.getElem?_cons_zero, List.getElem?_cons_succ]; rfl) (by kernel_rfl) (by kernel_rfl) (by kernel_rfl) (by intro _ _ _ h; exact h) (Or.inl ⟨by rfl, fun w hSw => by (dsimp only at hSw; go_simp; (try with_reducible rfl))⟩) (by assumption) ?_
        simp only [Act.put, List.setIfInBounds_toArray, List.set_cons_zero, List.set_cons_succ]
        refine wpAnyH_take (i := 5) (by simp only [List.getElem?_toArray, List.getElem?_cons_zero, List.getElem?_cons_succ]; rfl) (by kernel_rfl) (by kernel_rfl) (by kernel_rfl) (by intro _ _ _ h; exact h) (Or.inl ⟨by rfl, fun w hSw => by (dsimp only at hSw; go_simp; (try with_reducible rfl))⟩) (by assumption) ?_
        simp only [Act.put, List.setIfInBounds_toArray, List.set_cons_zero, List.set_cons_succ]
        refine wpAnyH_take (i := 6) (by simp only [List.getElem?_toArray, List.getElem?_cons_zero, List.getElem?_cons_succ]; rfl) (by kernel_rfl) (by kernel_rfl) (by kernel_rfl) (by intro _ _ _ h; exact h) (Or.inl ⟨by rfl, fun w hSw => by (dsimp only at hSw; go_simp; (try with_reducible rfl))⟩) (by assumption) ?_
        simp only [Act.put, List.setIfInBounds_toArray, List.set_cons_zero, List.set_cons_succ]
        refine wpAnyH_take (i := 7) (by simp only [List.getElem?_toArray, List.getElem?_cons_zero, List.getElem?_cons_succ]; rfl) (by kernel_rfl) (by kernel_rfl) (by kernel_rfl) (by intro _ _ _ h; exact h) (Or.inl ⟨by rfl, fun w hSw => by (dsimp only at hSw; go_simp; (try with_reducible rfl))⟩) (by assumption) ?_
        simp only [Act.put, List.setIfInBounds_toArray, List.set_cons_zero, List.set_cons_succ]
        refine wpAnyH_take (i := 8) (by simp only [List.getElem?_toArray, List.getElem?_cons_zero, List.getElem?_cons_succ]; rfl) (by kernel_rfl) (by kernel_rfl) (by kernel_rfl) (by intro _ _ _ h; exact h) (Or.inl ⟨by rfl, fun w hSw => by (dsimp only at hSw; go_simp; (try with_reducible rfl))⟩) (by assumption) ?_
        simp only [Act.put, List.setIfInBounds_toArray, List.set_cons_zero, List.set_cons_succ]
        refine wpAnyH_take (i := 9) (by simp only [List.getElem?_toArray, List.getElem?_cons_zero, List.getElem?_cons_succ]; rfl) (by kernel_rfl) (by kernel_rfl) (by kernel_rfl) (by intro _ _ _ h; exact h) (Or.inl ⟨by rfl, fun w hSw => by (dsimp only at hSw; go_simp; (try with_reducible rfl))⟩) (by assumption) ?_
        simp only [Act.put, List.setIfInBounds_toArray, List.set_cons_zero, List.set_cons_succ]
        refine wpAnyH_take (i := 10) (by simp only [List.getElem?_toArray, List.getElem?_cons_zero, List.getElem?_cons_succ]; rfl) (by kernel_rfl) (by kernel_rfl) (by kernel_rfl) (by intro _ _ _ h; exact h) (Or.inl ⟨by rfl, fun w hSw => by (dsimp only at hSw; go_simp; (try with_reducible rfl))⟩) (by assumption) ?_
        simp only [Act.put, List.setIfInBounds_toArray, List.set_cons_zero, List.set_cons_succ]
        refine wpAnyH_take (i := 11) (by simp only [List.getElem?_toArray, List.getElem?_cons_zero, List.getElem?_cons_succ]; rfl) (by kernel_rfl) (by kernel_rfl) (by kernel_rfl) (by intro _ _ _ h; exact h) (Or.inl ⟨by rfl, fun w hSw => by (dsimp only at hSw; go_simp; (try with_reducible rfl))⟩) (by assumption) ?_
        simp only [Act.put, List.setIfInBounds_toArray, List.set_cons_zero, List.set_cons_succ]
        refine wpAnyH_take (i := 12) (by simp only [List.getElem?_toArray, List.getElem?_cons_zero, List.getElem?_cons_succ]; rfl) (by kernel_rfl) (by kernel_rfl) (by kernel_rfl) (by intro _ _ _ h; exact h) (Or.inl ⟨by rfl, fun w hSw => by (dsimp only at hSw; go_simp; (try with_reducible rfl))⟩) (by assumption) ?_
        simp only [Act.put, List.setIfInBounds_toArray, List.set_cons_zero, List.set_cons_succ]
        refine wpAnyH_take (i := 13) (by simp only [List.getElem?_toArray, List.getElem?_cons_zero, List.getElem?_cons_succ]; rfl) (by kernel_rfl) (by kernel_rfl) (by kernel_rfl) (by intro _ _ _ h; exact h) (Or.inl ⟨by rfl, fun w hSw => by (dsimp only at hSw; go_simp; (try with_reducible rfl))⟩) (by assumption) ?_
        simp only [Act.put, List.setIfInBounds_toArray, List.set_cons_zero, List.set_cons_succ]
        refine wpAnyH_take (i := 14) (by simp only [List.getElem?_toArray, List.getElem?_cons_zero, List.getElem?_cons_succ]; rfl) (by kernel_rfl) (by kernel_rfl) (by kernel_rfl) (by intro _ _ _ h; exact h) (Or.inl ⟨by rfl, fun w hSw => by (dsimp only at hSw; go_simp; (try with_reducible rfl))⟩) (by assumption) ?_
        simp only [Act.put, List.setIfInBounds_toArray, List.set_cons_zero, List.set_cons_succ]
        refine wpAnyH_take (i := 15) (by simp only [List.getElem?_toArray, List.getElem?_cons_zero, List.getElem?_cons_succ]; rfl) (by kernel_rfl) (by kernel_rfl) (by kernel_rfl) (by intro _ _ _ h; exact h) (Or.inl ⟨by rfl, fun w hSw => by (dsimp only at hSw; go_simp; (try with_reducible rfl))⟩) (by assumption) ?_
        simp only [Act.put, List.setIfInBounds_toArray, List.set_cons_zero, List.set_cons_succ]
        refine wpAnyH_ready (rs := [16]) (by kernel_rfl) (by simp) ?_
        refine AllReadyH.cons (by simp only [List.getElem?_toArray, List.getElem?_cons_zero, List.getElem?_cons_succ]; rfl) ?_ AllReadyH.nil
        intro K hK
        go_simp
        refine (cells_specN n _ _ l HN.out _ (RW.out.below (Below.refl wr.heap.size wr).drew) FT.out hlen q HQ.out).mono ?_
        rintro e wA ⟨rfl, hbA⟩
        obtain ⟨hca, hfa⟩ := bcell hbA
        have hza := hbA.size
        try simp at hza
        have hxA : Below w1.heap.size w1 wA := chain hbw (undrew hbA)
        have yA : g < wA.heap.size := by omega
        have yB : B < wA.heap.size := by omega
        go_wp2_with fail
        refine hK.out _ _ ?_ (fun hHeld => ?_)
        · (((try dsimp only); (repeat' apply And.intro) <;> first | (go_keep; done) | (simp (disch := first | omega | (simp <;> omega) | fail) [*]; done) | fail))
        clear hK K
        try simp only [Act.put, List.setIfInBounds_toArray, List.set_cons_zero, List.set_cons_succ]
        refine wpAnyH_take (i := 17) (by simp only [List.getElem?_toArray, List.getElem?_cons_zero, List.getElem?_cons_succ]; rfl) (by kernel_rfl) (by kernel_rfl) (by kernel_rfl) (by intro _ _ _ h; exact h) (Or.inl ⟨by rfl, fun w hSw => by (dsimp only at hSw; go_simp; (try with_reducible rfl))⟩) (by assumption) ?_
        simp only [Act.put, List.setIfInBounds_toArray, List.set_cons_zero, List.set_cons_succ]
        refine wpAnyH_take (i := 18) (by simp only [List.getElem?_toArray, List.getElem?_cons_zero, List.getElem?_cons_succ]; rfl) (by kernel_rfl) (by kernel_rfl) (by kernel_rfl) (by intro _ _ _ h; exact h) (Or.inl ⟨by rfl, fun w hSw => by (dsimp only at hSw; go_simp; (try with_reducible rfl))⟩) (by assumption) ?_
        simp only [Act.put, List.setIfInBounds_toArray, List.set_cons_zero, List.set_cons_succ]
        refine wpAnyH_done (by kernel_rfl) ?_ _
        have hxw := chain hx1 hxA
        clear hca hfa hbA
        cases q
        · have e := hno.out HO.out
          subst e
          go_wp2
          go_ret
          exact ⟨rfl, by first | exact hxw | (rw [hB] at hxw; exact hxw)⟩
        · go_wp2
          go_roundw
          case rel => exact ⟨k + 1, by omega, by go_num, by rw [HS.out]; exact HO.out, hxA⟩
          case measure => simp [intOf]; omega
      · have hne : ((n : Int) == (nc : Int)) = false := by rw [beq_eq_false_iff_ne]; omega
        have hnq : ((n : Int) != (nc : Int)) = true := by rw [bne, hne]; rfl
        clear hne
        have e2 := hno.out (by unfold rowOk; rw [decide_eq_false (by rw [HN.out]; exact e), Bool.false_and])
        subst e2
        go_wp2_with fail
        refine wp_region_held_drew (S := (fun w' => w'.cell? ⟨B, 1, none⟩ = some (.slice ca nc cc) ∧ w'.cell? ⟨B, 2, none⟩ = some (.slice (some ⟨g, o, none⟩) nr cr) ∧ w'.cell? ⟨g, o + k, none⟩ = some (.slice ai n ci))) (by kernel_rfl) ?_ (fun hHeld => ?_)
        · (((try dsimp only); (repeat' apply And.intro) <;> first | (go_keep; done) | (simp (disch := first | omega | (simp <;> omega) | fail) [*]; done) | fail))
        refine wpAnyH_take (i := 0) (by simp only [List.getElem?_toArray, List.getElem?_cons_zero]; rfl) (by kernel_rfl) (by kernel_rfl) (by kernel_rfl) (by intro _ _ _ h; exact h) (Or.inl ⟨by rfl, fun w hSw => by (dsimp only at hSw; go_simp; (try with_reducible rfl))⟩) (by assumption) ?_
        simp only [Act.put, List.setIfInBounds_toArray, List.set_cons_zero, List.set_cons_succ]
        refine wpAnyH_take (i := 1) (by simp only [List.getElem?_toArray, List.getElem?_cons_zero, List.getElem?_cons_succ]; rfl) (by kernel_rfl) (by kernel_rfl) (by kernel_rfl) (by intro _ _ _ h; exact h) (Or.inl ⟨by rfl, fun w hSw => by (dsimp only at hSw; go_simp; (try with_reducible rfl))⟩) (by assumption) ?_
        simp only [Act.put, List.setIfInBounds_toArray, List.set_cons_zero, List.set_cons_succ]
        refine wpAnyH_take (i := 2) (by simp only [List.getElem?_toArray, List.getElem?_cons_zero, List.getElem?_cons_succ]; rfl) (by kernel_rfl) (by kernel_rfl) (by kernel_rfl) (by intro _ _ _ h; exact h) (Or.inl ⟨by rfl, fun w hSw => by (dsimp only at hSw; go_simp; (try with_reducible rfl))⟩) (by assumption) ?_
        simp only [Act.put, List.setIfInBounds_toArray, List.set_cons_zero, List.set_cons_succ]
        refine wpAnyH_take (i := 3) (by simp only [List.getElem?_toArray, List.getElem?_cons_zero, List.getElem?_cons_succ]; rfl) (by kernel_rfl) (by kernel_rfl) (by kernel_rfl) (by intro _ _ _ h; exact h) (Or.inl ⟨by rfl, fun w hSw => by (dsimp only at hSw; go_simp; (try with_reducible rfl))⟩) (by assumption) ?_
        simp only [Act.put, List.setIfInBounds_toArray, List.set_cons_zero, List.set_cons_succ]
        refine wpAnyH_take (i := 4) (by simp only [List.getElem?_toArray, List.getElem?_cons_zero, List.getElem?_cons_succ]; rfl) (by kernel_rfl) (by kernel_rfl) (by kernel_rfl) (by intro _ _ _ h; exact h) (Or.inl ⟨by rfl, fun w hSw => by (dsimp only at hSw; go_simp; (try with_reducible rfl))⟩) (by assumption) ?_
        simp only [Act.put, List.setIfInBounds_toArray, List.set_cons_zero, List.set_cons_succ]
        refine wpAnyH_take (i := 5) (by simp only [List.getElem?_toArray, List.getElem?_cons_zero, List.getElem?_cons_succ]; rfl) (by kernel_rfl) (by kernel_rfl) (by kernel_rfl) (by intro _ _ _ h; exact h) (Or.inl ⟨by rfl, fun w hSw => by (dsimp only at hSw; go_simp; (try with_reducible rfl))⟩) (by assumption) ?_
        simp only [Act.put, List.setIfInBounds_toArray, List.set_cons_zero, List.set_cons_succ]
        refine wpAnyH_take (i := 6) (by simp only [List.getElem?_toArray, List.getElem?_cons_zero, List.getElem?_cons_succ]; rfl) (by kernel_rfl) (by kernel_rfl) (by kernel_rfl) (by intro _ _ _ h; exact h) (Or.inl ⟨by rfl, fun w hSw => by (dsimp only at hSw; go_simp; (try with_reducible rfl))⟩) (by assumption) ?_
        simp only [Act.put, List.setIfInBounds_toArray, List.set_cons_zero, List.set_cons_succ]
        refine wpAnyH_take (i := 7) (by simp only [List.getElem?_toArray, List.getElem?_cons_zero, List.getElem?_cons_succ]; rfl) (by kernel_rfl) (by kernel_rfl) (by kernel_rfl) (by intro _ _ _ h; exact h) (Or.inl ⟨by rfl, fun w hSw => by (dsimp only at hSw; go_simp; (try with_reducible rfl))⟩) (by assumption) ?_
        simp only [Act.put, List.setIfInBounds_toArray, List.set_cons_zero, List.set_cons_succ]
        refine wpAnyH_take (i := 8) (by simp only [List.getElem?_toArray, List.getElem?_cons_zero, List.getElem?_cons_succ]; rfl) (by kernel_rfl) (by kernel_rfl) (by kernel_rfl) (by intro _ _ _ h; exact h) (Or.inl ⟨by rfl, fun w hSw => by (dsimp only at hSw; go_simp; (try with_reducible rfl))⟩) (by assumption) ?_
        simp only [Act.put, List.setIfInBounds_toArray, List.set_cons_zero, List.set_cons_succ]
        refine wpAnyH_take (i := 9) (by simp only [List.getElem?_toArray, List.getElem?_cons_zero, List.getElem?_cons_succ]; rfl) (by kernel_rfl) (by kernel_rfl) (by kernel_rfl) (by intro _ _ _ h; exact h) (Or.inl ⟨by rfl, fun w hSw => by (dsimp only at hSw; go_simp; (try with_reducible rfl))⟩) (by assumption) ?_
        simp only [Act.put, List.setIfInBounds_toArray, List.set_cons_zero, List.set_cons_succ]
        refine wpAnyH_take (i := 10) (by simp only [List.getElem?_toArray, List.getElem?_cons_zero, List.getElem?_cons_succ]; rfl) (by kernel_rfl) (by kernel_rfl) (by kernel_rfl) (by intro _ _ _ h; exact h) (Or.inl ⟨by rfl, fun w hSw => by (dsimp only at hSw; go_simp; (try with_reducible rfl))⟩) (by assumption) ?_
        simp only [Act.put, List.setIfInBounds_toArray, List.set_cons_zero, List.set_cons_succ]
        try rw [hnq]
        refine wpAnyH_take (i := 11) (v := undef) (by simp only [List.getElem?_toArray, List.getElem?_cons_zero, List.getElem?_cons_succ]; rfl) (by kernel_rfl) (by kernel_rfl) (by kernel_rfl) (by intro _ _ _ h; exact h) (Or.inr ⟨by rfl, rfl⟩) (by assumption) ?_
        simp only [Act.put, List.setIfInBounds_toArray, List.set_cons_zero, List.set_cons_succ]
        refine wpAnyH_take (i := 12) (v := undef) (by simp only [List.getElem?_toArray, List.getElem?_cons_zero, List.getElem?_cons_succ]; rfl) (by kernel_rfl) (by kernel_rfl) (by kernel_rfl) (by intro _ _ _ h; exact h) (Or.inr ⟨by rfl, rfl⟩) (by assumption) ?_
        simp only [Act.put, List.setIfInBounds_toArray, List.set_cons_zero, List.set_cons_succ]
        refine wpAnyH_take (i := 13) (v := undef) (by simp only [List.getElem?_toArray, List.getElem?_cons_zero, List.getElem?_cons_succ]; rfl) (by kernel_rfl) (by kernel_rfl) (by kernel_rfl) (by intro _ _ _ h; exact h) (Or.inr ⟨by rfl, rfl⟩) (by assumption) ?_
        simp only [Act.put, List.setIfInBounds_toArray, List.set_cons_zero, List.set_cons_succ]
        refine wpAnyH_take (i := 14) (v := undef) (by simp only [List.getElem?_toArray, List.getElem?_cons_zero, List.getElem?_cons_succ]; rfl) (by kernel_rfl) (by kernel_rfl) (by kernel_rfl) (by intro _ _ _ h; exact h) (Or.inr ⟨by rfl, rfl⟩) (by assumption) ?_
        simp only [Act.put, List.setIfInBounds_toArray, List.set_cons_zero, List.set_cons_succ]
        refine wpAnyH_take (i := 15) (v := undef) (by simp only [List.getElem?_toArray, List.getElem?_cons_zero, List.getElem?_cons_succ]; rfl) (by kernel_rfl) (by kernel_rfl) (by kernel_rfl) (by intro _ _ _ h; exact h) (Or.inr ⟨by rfl, rfl⟩) (by assumption) ?_
        simp only [Act.put, List.setIfInBounds_toArray, List.set_cons_zero, List.set_cons_succ]
        refine wpAnyH_take (i := 16) (v := undef) (by simp only [List.getElem?_toArray, List.getElem?_cons_zero, List.getElem?_cons_succ]; rfl) (by kernel_rfl) (by kernel_rfl) (by kernel_rfl) (by intro _ _ _ h; exact h) (Or.inr ⟨by rfl, rfl⟩) (by assumption) ?_
        simp only [Act.put, List.setIfInBounds_toArray, List.set_cons_zero, List.set_cons_succ]
        refine wpAnyH_take (i := 17) (v := undef) (by simp only [List.getElem?_toArray, List.getElem?_cons_zero, List.getElem?_cons_succ]; rfl) (by kernel_rfl) (by kernel_rfl) (by kernel_rfl) (by intro _ _ _ h; exact h) (Or.inr ⟨by rfl, rfl⟩) (by assumption) ?_
        simp only [Act.put, List.setIfInBounds_toArray, List.set_cons_zero, List.set_cons_succ]
        refine wpAnyH_take (i := 18) (by simp only [List.getElem?_toArray, List.getElem?_cons_zero, List.getElem?_cons_succ]; rfl) (by kernel_rfl) (by kernel_rfl) (by kernel_rfl) (by intro _ _ _ h; exact h) (Or.inl ⟨by rfl, fun w hSw => by (dsimp only at hSw; go_simp; (try with_reducible rfl))⟩) (by assumption) ?_
        simp only [Act.put, List.setIfInBounds_toArray, List.set_cons_zero, List.set_cons_succ]
        refine wpAnyH_done (by kernel_rfl) ?_ _
        go_wp2
        go_ret
        exact ⟨rfl, by first | exact hxr.drew | (rw [hB] at hxr; exact hxr.drew)⟩
    · have hkl : k = nr := by omega
      subst hkl
      have e : b = true := by
        rw [← HB.out]
        have := hall.out
        rw [← HNR.out, List.take_length] at this
        exact this
      subst e
      go_wp2
      go_ret
      exact ⟨rfl, by first | exact hxr | (rw [hB] at hxr; exact hxr)⟩

end Go.Proofs.YteamdmcgkpeelabGreatDoor

/-
  The contracts of the model's order on cells.
-/
namespace Go.Proofs.YteamdmcgkpeelabGreatDoor
open Go.ChangeShapes Go.WideShapes Go.ChangeAt Go.RowKit
attribute [local go_sem ↓] Go.wp_at_zero Go.wp_at_succ

/-- Is the one cell less than the other? By kind, then by number, then by text. -/
def lessB (k1 n1 : Int) (t1 : ByteArray) (k2 n2 : Int) (t2 : ByteArray) : Bool :=
  if (k1 != k2) = true then decide (k1 < k2) else if (n1 != n2) = true then decide (n1 < n2) else Op.bytesLess t1.toList t2.toList

end Go.Proofs.YteamdmcgkpeelabGreatDoor

/-
  The contracts of the model's SameAs and Below.
-/
namespace Go.Proofs.YteamdmcgkpeelabGreatDoor
open Go.ChangeShapes Go.WideShapes Go.ChangeAt Go.RowKit
attribute [local go_sem ↓] Go.wp_at_zero Go.wp_at_succ

/-- Are both right, and is one none? -/
def nonesB (k1 n1 : Int) (t1 : ByteArray) (k2 n2 : Int) (t2 : ByteArray) : Bool := (okB k1 n1 t1 && okB k2 n2 t2) && (k1 == 0 || k2 == 0)
/-- Are both right, and of one kind, or is one none? -/
def likeB (k1 n1 : Int) (t1 : ByteArray) (k2 n2 : Int) (t2 : ByteArray) : Bool := (okB k1 n1 t1 && okB k2 n2 t2) && ((k1 == 0 || k2 == 0) || k1 == k2)
/-- What comes of two cells that are held against each other: kind, number, fault. -/
def heldR (like none yes : Bool) : Int × Int × Int := if like = false then (0, 0, 3) else if none = true then (0, 0, 0) else (3, if yes = true then 1 else 0, 0)

end Go.Proofs.YteamdmcgkpeelabGreatDoor

/-
  The contract of the model's helper that takes a row over: new memory.
-/
namespace Go.Proofs.YteamdmcgkpeelabGreatDoor
open Go.ChangeShapes Go.WideShapes Go.ChangeAt Go.RowKit
attribute [local go_sem ↓] Go.wp_at_zero Go.wp_at_succ

/-- The cells of a row, one behind the other, lie there. -/
theorem flat_cells {w : World} {ad : Addr} {l : List CT} (h : RowAt w (some ad) l) (j : Nat) (u : Value) (hj : (flat l)[j]? = some u) : w.cell? (ad.add j) = some u := by
  have hlt : j < l.length * 3 := by
    have := (List.getElem?_eq_some_iff.1 hj).1
    rwa [flat_length] at this
  obtain ⟨b, o, e, _, c0, c1, c2⟩ := h (j / 3) (by omega)
  cases e
  obtain ⟨f0, f1, f2⟩ := flat_at l (j / 3) (by omega)
  have hadd : ∀ q, ((⟨b, o, none⟩ : Addr).add q) = ⟨b, o + q, none⟩ := by
    intro q
    unfold Addr.add
    by_cases hq : q = 0 <;> simp [hq]
  rw [hadd]
  rcases (show j = j / 3 * 3 ∨ j = j / 3 * 3 + 1 ∨ j = j / 3 * 3 + 2 by omega) with e | e | e
  · rw [e] at hj ⊢
    rw [f0] at hj
    rw [← hj]; exact c0
  · rw [e] at hj
    rw [f1] at hj
    rw [e, ← hj, ← Nat.add_assoc]; exact c1
  · rw [e] at hj
    rw [f2] at hj
    rw [e, ← hj, ← Nat.add_assoc]; exact c2

theorem flat_one (l : List CT) : ∀ u ∈ flat l, u.oneCell' = true := by
  induction l with
  | nil => intro u hu; cases hu
  | cons x l ih =>
    intro u hu
    simp only [flat, List.mem_cons] at hu
    rcases hu with rfl | rfl | rfl | hu
    · rfl
    · rfl
    · rfl
    · exact ih u hu

theorem infoCell : (Tryz.prog.info? 78).map (fun i => (i.zero, i.size, i.bytes)) = some (some (.agg #[.int .i64 0, .int .i64 0, .string ⟨#[]⟩]), 3, 32) := by kernel_rfl

set_option maxRecDepth 100000 in
set_option maxHeartbeats 1000000 in
theorem row_spec (a : Option Addr) (cap : Nat) (l : List CT) (w : World) (hrow : RowAt w a l) (hnil : a = none → cap = 0) (hm : l.length ≤ 1048576) :
    Calls Tryz.prog 92 #[.slice a l.length cap] w fun e w' => ∃ g c, e = .returned (.slice (some ⟨g, 0, none⟩) l.length c) ∧ w.heap.size ≤ g ∧
      w'.ownsRow w.heap.size 78 3 (.slice (some ⟨g, 0, none⟩) l.length c) l.length (flat l) ∧ Below w.heap.size w w' := by
  obtain ⟨i0, hi, hz0, hz1, hz2⟩ := info_parts infoCell
  have hR : Hid (RowAt w a l) := hrow
  clear hrow
  have own0 : Hid ((w.alloc (.cells #[] 78)).ownsRow w.heap.size 78 3 (.slice (some ⟨w.heap.size, 0, none⟩) 0 0) 0 []) :=
    ⟨rfl, .inr ⟨w.heap.size, 0, #[], rfl, Nat.le_refl _, by show (w.heap.push _)[w.heap.size]? = _; simp, Nat.le_refl _, by unfold maxLen; omega, rfl, rfl⟩⟩
  have hb0 : Below w.heap.size w (w.alloc (.cells #[] 78)) := (Below.refl _ _).alloc (Nat.le_refl _) _
  cases a with
  | none =>
    have hl : l = [] := by
      cases l with
      | nil => rfl
      | cons x l => obtain ⟨b, o, e, _⟩ := hR.out 0 (by simp); cases e
    subst hl
    have hc := hnil rfl
    subst hc
    go_enter Tryz.func92, Tryz.ntmps92
    go_wp2_with (at_builtin; refine wpList_append_own_none rfl _ _ 67 rfl w.heap.size 78 i0 3 Tryz.underlying67 hi (.slice (some ⟨w.heap.size, 0, none⟩) 0 0) 0 [] rfl own0.out rfl ?_)
    go_ret
    exact ⟨w.heap.size, 0, rfl, Nat.le_refl _, own0.out, hb0⟩
  | some ad =>
    go_enter Tryz.func92, Tryz.ntmps92
    go_wp2_with (at_builtin; refine wpList_append_own _ rfl _ _ 67 rfl w.heap.size 78 i0 (.agg #[.int .i64 0, .int .i64 0, .string ⟨#[]⟩]) 3 32 Tryz.underlying67 hi hz0 hz1 hz2 rfl (by decide) (.slice (some ⟨w.heap.size, 0, none⟩) 0 0) 0 [] rfl own0.out ad l.length cap (flat l) rfl (flat_length l) ?c1 (flat_one l) ?c3 ?c4 ?c5 ?_)
    case c1 => intro j u hj; exact flat_cells (hR.out.below hb0) j u hj
    case c3 => unfold maxLen; omega
    case c4 => omega
    case c5 => simp
    intro v' w1 hown hgrow hnn
    have hx : Below w.heap.size w w1 := hb0.grown hgrow (by simp) (by intro k hk; simp [Value.ownBlock] at hk; omega)
    rcases hown.2 with ⟨h', _⟩ | ⟨g, c, cur, h', hbg, hr⟩
    · exact absurd h' hnn
    · subst h'
      go_wp2
      go_ret
      exact ⟨g, c, rfl, hbg, hown, hx⟩

end Go.Proofs.YteamdmcgkpeelabGreatDoor

/-
  The contract of the model's helper that takes rows over: new memory, a block for each row.
-/
namespace Go.Proofs.YteamdmcgkpeelabGreatDoor
open Go.ChangeShapes Go.WideShapes Go.ChangeAt Go.RowKit
attribute [local go_sem ↓] Go.wp_at_zero Go.wp_at_succ

/-- The head of the i-th row. -/
def headOf (G C : Nat → Nat) (L : List (List CT)) (i : Nat) : Value := .slice (some ⟨G i, 0, none⟩) (L.getD i []).length (C i)
/-- Rows that lie in memory of their own: the heads in one block, each row in another. -/
structure OwnRows (w : World) (base : Nat) (v : Value) (L : List (List CT)) (G C : Nat → Nat) : Prop where
  outer : w.ownsRow base 67 1 v L.length ((List.range L.length).map (headOf G C L))
  inner : ∀ i, i < L.length → w.ownsRow base 78 3 (headOf G C L i) (L.getD i []).length (flat (L.getD i []))
  apart : ∀ i j, i < L.length → j < L.length → i ≠ j → G i ≠ G j

theorem OwnRows.below {w w' : World} {base : Nat} {v : Value} {L : List (List CT)} {G C : Nat → Nat} (h : OwnRows w base v L G C) (hb : Below w.heap.size w w') : OwnRows w' base v L G C :=
  ⟨own_below h.outer hb, fun i hi => own_below (h.inner i hi) hb, h.apart⟩

/-- The block of a row is none of the heads'. -/
theorem own_other {w : World} {base b2 n m sz sz2 : Nat} {e e2 : TypeId} {v : Value} {g c : Nat} {xs ys : List Value} (h : w.ownsRow base e sz v n xs) (k : w.ownsRow b2 e2 sz2 (.slice (some ⟨g, 0, none⟩) m c) m ys) (he : e ≠ e2) : v.ownBlock ≠ some g := by
  rcases h.2 with ⟨rfl, _⟩ | ⟨g1, c1, cur, rfl, _, hg, _⟩
  · simp [Value.ownBlock]
  · rcases k.2 with ⟨h', _⟩ | ⟨g2, c2, cur2, h', _, hg2, _⟩
    · simp at h'
    · simp only [Value.slice.injEq, Option.some.injEq, Addr.mk.injEq, and_true, true_and] at h'
      obtain ⟨rfl, rfl⟩ := h'
      intro hh
      simp only [Value.ownBlock, Option.some.injEq] at hh
      subst hh
      rw [hg] at hg2
      simp at hg2
      exact he hg2.2

theorem own_base {w : World} {b1 b2 n sz : Nat} {e : TypeId} {v : Value} {xs : List Value} (h : w.ownsRow b1 e sz v n xs) (hle : b2 ≤ b1) : w.ownsRow b2 e sz v n xs := by
  refine ⟨h.1, ?_⟩
  rcases h.2 with h' | ⟨g, cap, cur, h', hbg, hr⟩
  · exact .inl h'
  · exact .inr ⟨g, cap, cur, h', Nat.le_trans hle hbg, hr⟩

/-- One row more: its head is appended. -/
theorem OwnRows.step {w w1 w2 : World} {base : Nat} {v v' : Value} {L : List (List CT)} {G C : Nat → Nat} {x : List CT} {g c : Nat} {o : Obj} (h : OwnRows w base v L G C) (hb : Below w.heap.size w w1) (hg : w.heap.size ≤ g)
    (own : w1.ownsRow base 78 3 (.slice (some ⟨g, 0, none⟩) x.length c) x.length (flat x))
    (own2 : w2.ownsRow base 67 1 v' (L.length + 1) ((List.range L.length).map (headOf G C L) ++ [.slice (some ⟨g, 0, none⟩) x.length c])) (hgr : (w1.alloc o).grownBy w2 v.ownBlock) :
    ∃ G' C', OwnRows w2 base v' (L ++ [x]) G' C' := by
  have h1 := h.below hb
  have hlt : ∀ i, i < L.length → G i < w.heap.size := by
    intro i hi
    rcases (h.inner i hi).2 with ⟨h', _⟩ | ⟨g2, c2, cur2, h', _, hg2, _⟩
    · simp [headOf] at h'
    · simp only [headOf, Value.slice.injEq, Option.some.injEq, Addr.mk.injEq, and_true, true_and] at h'
      obtain ⟨rfl, rfl⟩ := h'
      by_cases hl : G i < w.heap.size
      · exact hl
      · rw [Array.getElem?_eq_none (by omega)] at hg2; cases hg2
  have he : (67 : TypeId) ≠ 78 := by decide
  have hd : ∀ i, i < L.length → (L ++ [x]).getD i [] = L.getD i [] := by
    intro i hi
    simp [List.getD, List.getElem?_append_left hi]
  have hdl : (L ++ [x]).getD L.length [] = x := by simp [List.getD]
  refine ⟨fun i => if i = L.length then g else G i, fun i => if i = L.length then c else C i, ?_, ?_, ?_⟩
  · have e1 : (L ++ [x]).length = L.length + 1 := by simp
    rw [e1, List.range_succ, List.map_append]
    have e2 : (List.range L.length).map (headOf (fun i => if i = L.length then g else G i) (fun i => if i = L.length then c else C i) (L ++ [x])) = (List.range L.length).map (headOf G C L) := by
      refine List.map_congr_left fun i hi => ?_
      have hi' : i < L.length := by simpa using hi
      have hne : i ≠ L.length := by omega
      simp only [headOf, if_neg hne, hd i hi']
    have e3 : [L.length].map (headOf (fun i => if i = L.length then g else G i) (fun i => if i = L.length then c else C i) (L ++ [x])) = [.slice (some ⟨g, 0, none⟩) x.length c] := by
      simp only [List.map_cons, List.map_nil, headOf, if_true, hdl]
    rw [e2, e3]; exact own2
  · intro i hi
    by_cases hil : i = L.length
    · subst hil
      rw [hdl]
      have := own.alloc o
      have k := this.kept hgr (.inr (by simp only [Value.ownBlock]; exact (own_other (h1.outer.alloc o) this he).symm))
      simpa only [headOf, if_true, hdl] using k
    · have hi' : i < L.length := by simp at hi; omega
      rw [hd i hi']
      have := (h1.inner i hi').alloc o
      have k := this.kept hgr (.inr (by simp only [headOf, Value.ownBlock]; exact (own_other (h1.outer.alloc o) this he).symm))
      simpa only [headOf, if_neg hil, hd i hi'] using k
  · intro i j hi hj hij
    have hi2 : i < L.length + 1 := by simpa using hi
    have hj2 : j < L.length + 1 := by simpa using hj
    by_cases e1 : i = L.length
    · have e2 : j ≠ L.length := by omega
      have := hlt j (by omega)
      simp only [if_pos e1, if_neg e2]; omega
    · by_cases e2 : j = L.length
      · have := hlt i (by omega)
        simp only [if_neg e1, if_pos e2]; omega
      · simp only [if_neg e1, if_neg e2]; exact h.apart i j (by omega) (by omega) hij

theorem infoRow : (Tryz.prog.info? 67).map (fun i => (i.zero, i.size, i.bytes)) = some (some (.slice none 0 0), 1, 24) := by kernel_rfl

set_option maxRecDepth 100000 in
set_option maxHeartbeats 2000000 in
theorem rows_spec (a : Option Addr) (cap : Nat) (L : List (List CT)) (w : World) (hrow : RowsAt w a L) (hm : L.length ≤ 1048576) (hms : ∀ i (h : i < L.length), L[i].length ≤ 1048576) :
    Calls Tryz.prog 68 #[.slice a L.length cap] w fun e w' => ∃ v G C, e = .returned v ∧ OwnRows w' w.heap.size v L G C ∧ Below w.heap.size w w' ∧ v ≠ .slice none 0 0 := by
  obtain ⟨i0, hi, hz0, hz1, hz2⟩ := info_parts infoRow
  have hR : Hid (RowsAt w a L) := hrow
  have hMS : Hid (∀ i (h : i < L.length), L[i].length ≤ 1048576) := hms
  clear hrow hms
  have own0 : Hid (∃ G C, OwnRows (w.alloc (.cells #[] 67)) w.heap.size (.slice (some ⟨w.heap.size, 0, none⟩) 0 0) (L.take 0) G C) := by
    refine ⟨fun _ => 0, fun _ => 0, ⟨rfl, .inr ⟨w.heap.size, 0, #[], rfl, Nat.le_refl _, by show (w.heap.push _)[w.heap.size]? = _; simp, Nat.le_refl _, by unfold maxLen; omega, rfl, rfl⟩⟩, ?_, ?_⟩
    · intro i hi; simp at hi
    · intro i j hi; simp at hi
  have hb0 : Below w.heap.size w (w.alloc (.cells #[] 67)) := (Below.refl _ _).alloc (Nat.le_refl _) _
  go_enter Tryz.func68, Tryz.ntmps68
  go_wp2
  go_loopw [3, 4] (fun v i wr => ∃ m : Nat, m ≤ L.length ∧ i = .int .i64 m ∧ Hid (∃ G C, OwnRows wr w.heap.size v (L.take m) G C) ∧ Below w.heap.size w wr ∧ v ≠ .slice none 0 0)
    (fun _ i _ => L.length - (intOf i).toNat)
  case atStart => exact ⟨0, Nat.zero_le _, rfl, own0, hb0, by simp⟩
  case round =>
    obtain ⟨m, hmL, rfl, hO, hb, hvn⟩ := hrel
    by_cases hlt : m < L.length
    · obtain ⟨b, o, ai, ci, ha, hbw, c0, hra, _, _, hnil⟩ := hR.out.below hb m hlt
      have hi0 : (0 : Int) ≤ (m : Int) := by omega
      have hi1 : (m : Int) < (L.length : Int) := by omega
      have hRA : Hid (RowAt wr ai L[m]) := hra
      have hml := hMS.out m hlt
      have htk := List.take_succ_eq_append_getElem hlt
      clear hra
      generalize L[m] = x at c0 hRA hml htk
      subst ha
      obtain ⟨G, C, O⟩ := hO.out
      have hlen : (L.take m).length = m := by rw [List.length_take]; omega
      have hOO : Hid (OwnRows wr w.heap.size _ (L.take m) G C) := O
      clear O hO
      go_wp2_with fail
      refine (row_spec _ _ _ _ hRA.out hnil hml).mono ?_
      rintro e w1 ⟨g, c, rfl, hg, own, hb1⟩
      have O1 := hOO.out.below hb1
      have hx := chain hb hb1
      go_wp2_with (at_builtin; refine wpList_append_own _ rfl _ _ 33 rfl w.heap.size 67 i0 (.slice none 0 0) 1 24 Tryz.underlying33 hi hz0 hz1 hz2 rfl (by decide) _ _ _ rfl (O1.outer.alloc _) ⟨w1.heap.size, 0, none⟩ 1 1 [.slice (some ⟨g, 0, none⟩) x.length c] rfl rfl ?c1 ?c2 ?c3 ?c4 ?c5 ?_)
      case c1 =>
        intro j u hj
        match j, hj with
        | 0, hj => simp at hj; subst hj; simp [Addr.add]
      case c2 => intro u hu; simp at hu; subst hu; rfl
      case c3 => rw [hlen]; unfold maxLen; omega
      case c4 => rw [hlen]; omega
      case c5 => have := hx.size; simp; omega
      intro v' w2 own2 hgrow hnn
      have S := hOO.out.step hb1 hg (own_base own hb.size) (by rw [hlen]; exact own2) hgrow
      rw [← htk] at S
      have hx2 : Below w.heap.size w w2 := by
        refine (hx.alloc hx.size _).grown hgrow (by have := hx.size; simp; omega) ?_
        intro k hk
        rcases O1.outer.2 with ⟨h, _⟩ | ⟨g', c', cur, h, hbg, _⟩
        · rw [h] at hk; simp [Value.ownBlock] at hk
        · rw [h] at hk; simp [Value.ownBlock] at hk; omega
      have hvn2 : v' ≠ .slice none 0 0 := by first | exact hnn | exact fun e => hvn (hnn.1 e).1
      have SS : Hid (∃ G C, OwnRows w2 w.heap.size v' (L.take (m + 1)) G C) := S
      clear S own2 hgrow hnn own O1 hOO
      go_wp2
      go_roundw
      case rel => exact ⟨m + 1, by omega, by go_num, SS, hx2, hvn2⟩
      case measure => simp [intOf]; omega
    · have hkl : m = L.length := by omega
      subst hkl
      rw [List.take_length] at hO
      go_wp2
      go_ret
      obtain ⟨G, C, O⟩ := hO.out
      exact ⟨_, G, C, rfl, O, hb, hvn⟩

end Go.Proofs.YteamdmcgkpeelabGreatDoor

/-
  The contracts of the model's copies of a list of texts and of a table: all of it lies in new memory.
-/
namespace Go.Proofs.YteamdmcgkpeelabGreatDoor
open Go.ChangeShapes Go.WideShapes Go.ChangeAt Go.RowKit
attribute [local go_sem ↓] Go.wp_at_zero Go.wp_at_succ
attribute [local simp] World.cell?_alloc_past World.cell?_alloc_at World.frozen?_alloc_at cell_far cell_off cell_here World.frozen?_alloc_past

theorem strV_cells {w : World} {ad : Addr} {l : List ByteArray} (h : StrsAt w (some ad) l) : ∀ j u, (strV l)[j]? = some u → w.cell? (ad.add j) = some u := by
  intro j u hu
  have hj : j < l.length := by have := (List.getElem?_eq_some_iff.1 hu).1; rw [strV_length] at this; exact this
  unfold strV at hu
  rw [List.getElem?_map, List.getElem?_eq_getElem hj] at hu
  obtain ⟨b, o, e, _, c0⟩ := h j hj
  cases e
  have hadd : (⟨b, o, none⟩ : Addr).add j = ⟨b, o + j, none⟩ := by unfold Addr.add; split <;> simp_all
  rw [hadd, c0]
  simpa using hu
theorem infoTx : (Tryz.prog.info? 9).map (fun i => (i.zero, i.size, i.bytes)) = some (some (.string ⟨#[]⟩), 1, 16) := by kernel_rfl

set_option maxRecDepth 100000 in
set_option maxHeartbeats 1000000 in
theorem texts_spec (a : Option Addr) (cap : Nat) (l : List ByteArray) (n : Nat) (hn : l.length = n) (w : World) (hrow : StrsAt w a l) (hnil : a = none → cap = 0) (hm : n ≤ 1048576) :
    Calls Tryz.prog 33 #[.slice a n cap] w fun e w' => ∃ g c, e = .returned (.slice (some ⟨g, 0, none⟩) n c) ∧ w.heap.size ≤ g ∧ n ≤ c ∧
      w'.ownsRow w.heap.size 9 1 (.slice (some ⟨g, 0, none⟩) l.length c) l.length (strV l) ∧ Below w.heap.size w w' := by
  subst hn
  obtain ⟨i0, hi, hz0, hz1, hz2⟩ := info_parts infoTx
  have hR : Hid (StrsAt w a l) := hrow
  clear hrow
  have own0 : Hid ((w.alloc (.cells #[] 9)).ownsRow w.heap.size 9 1 (.slice (some ⟨w.heap.size, 0, none⟩) 0 0) 0 []) :=
    ⟨rfl, .inr ⟨w.heap.size, 0, #[], rfl, Nat.le_refl _, by show (w.heap.push _)[w.heap.size]? = _; simp, Nat.le_refl _, by unfold maxLen; omega, rfl, rfl⟩⟩
  have hb0 : Below w.heap.size w (w.alloc (.cells #[] 9)) := (Below.refl _ _).alloc (Nat.le_refl _) _
  cases a with
  | none =>
    have hl : l = [] := by
      cases l with
      | nil => rfl
      | cons x l => obtain ⟨b, o, e, _⟩ := hR.out 0 (by simp); cases e
    subst hl
    have hc := hnil rfl
    subst hc
    go_enter Tryz.func33, Tryz.ntmps33
    go_wp2_with (at_builtin; refine wpList_append_own_none rfl _ _ 25 rfl w.heap.size 9 i0 1 Tryz.underlying25 hi (.slice (some ⟨w.heap.size, 0, none⟩) 0 0) 0 [] rfl own0.out rfl ?_)
    go_ret
    refine ⟨w.heap.size, 0, rfl, ?_⟩
    first | exact ⟨Nat.le_refl _, Nat.le_refl _, own0.out, hb0⟩ | exact ⟨Nat.le_refl _, own0.out, hb0⟩ | exact ⟨own0.out, hb0⟩
  | some ad =>
    go_enter Tryz.func33, Tryz.ntmps33
    go_wp2_with (at_builtin; refine wpList_append_own _ rfl _ _ 25 rfl w.heap.size 9 i0 (.string ⟨#[]⟩) 1 16 Tryz.underlying25 hi hz0 hz1 hz2 rfl (by decide) (.slice (some ⟨w.heap.size, 0, none⟩) 0 0) 0 [] rfl own0.out ad l.length cap (strV l) rfl (by rw [strV_length]; omega) ?c1 ?c2 ?c3 ?c4 ?c5 ?_)
    case c1 => exact strV_cells (hR.out.below hb0)
    case c2 =>
      intro u hu
      obtain ⟨b, _, rfl⟩ := List.mem_map.1 hu
      rfl
    case c3 => unfold maxLen; omega
    case c4 => omega
    case c5 => simp
    intro v' w1 hown hgrow hnn
    have hx : Below w.heap.size w w1 := hb0.grown hgrow (by simp) (by intro k hk; simp [Value.ownBlock] at hk; omega)
    rcases hown.2 with ⟨h', _⟩ | ⟨g, c, cur, h', hbg, hg, hle, hr⟩
    · exact absurd h' hnn
    · subst h'
      go_wp2
      go_ret
      exact ⟨g, c, rfl, hbg, by omega, hown, hx⟩

theorem own_keepC {w w' : World} {c base base' : Nat} {e : TypeId} {size n : Nat} {v : Value} {xs : List Value} (h : w.ownsRow base e size v n xs) (hk : Keep c w w') (hc : c < base) (hb : base' ≤ base) : w'.ownsRow base' e size v n xs := by
  refine ⟨h.1, ?_⟩
  rcases h.2 with h' | ⟨g, cap, cur, h', hbg, hg, hr⟩
  · exact .inl h'
  · refine .inr ⟨g, cap, cur, h', by omega, ?_, hr⟩
    have hlt : g < w.heap.size := by
      by_cases hl : g < w.heap.size
      · exact hl
      · rw [Array.getElem?_eq_none (by omega)] at hg; cases hg
    rw [hk.block g hlt (by omega)]; exact hg
theorem OwnRows.keepC {w w' : World} {c base base' : Nat} {v : Value} {L : List (List CT)} {G C : Nat → Nat} (h : OwnRows w base v L G C) (hk : Keep c w w') (hc : c < base) (hb : base' ≤ base) : OwnRows w' base' v L G C :=
  ⟨own_keepC h.outer hk hc hb, fun i hi => own_keepC (h.inner i hi) hk hc hb, h.apart⟩

theorem rows_specN (a : Option Addr) (cap : Nat) (L : List (List CT)) (n : Nat) (hn : L.length = n) (w : World) (hrow : RowsAt w a L) (hm : n ≤ 1048576) (hms : ∀ i (h : i < L.length), L[i].length ≤ 1048576) :
    Calls Tryz.prog 68 #[.slice a n cap] w fun e w' => ∃ v G C, e = .returned v ∧ OwnRows w' w.heap.size v L G C ∧ Below w.heap.size w w' ∧ v ≠ .slice none 0 0 := by
  subst hn; exact rows_spec a cap L w hrow hm hms

set_option maxRecDepth 100000 in
set_option maxHeartbeats 4000000 in
theorem copy_spec (ca : Option Addr) (cc : Nat) (ra : Option Addr) (cr : Nat) (t : TB) (nc nr : Nat) (hnc : t.2.1.length = nc) (hnr : t.2.2.length = nr) (w : World) (ht : TabAt w ca cc ra t) (hc1 : nc ≤ 1048576) (hr1 : nr ≤ 1048576) (hms : ∀ i (h : i < t.2.2.length), t.2.2[i].length ≤ 1048576) :
    Calls Tryz.prog 42 #[.agg #[.string t.1, .slice ca nc cc, .slice ra nr cr]] w fun e w' => ∃ g c g2 c2 G D, e = .returned (.agg #[.string t.1, .slice (some ⟨g, 0, none⟩) nc c, .slice (some ⟨g2, 0, none⟩) nr c2]) ∧ w.heap.size ≤ g ∧ nc ≤ c ∧
      w'.ownsRow w.heap.size 9 1 (.slice (some ⟨g, 0, none⟩) t.2.1.length c) t.2.1.length (strV t.2.1) ∧ OwnRows w' w.heap.size (.slice (some ⟨g2, 0, none⟩) nr c2) t.2.2 G D ∧ Below w.heap.size w w' := by
  obtain ⟨nm, C, L⟩ := t
  dsimp only at hnc hnr hms ⊢
  have HT : Hid (TabAt w ca cc ra (nm, C, L)) := ht
  have HNC : Hid (C.length = nc) := hnc
  have HNR : Hid (L.length = nr) := hnr
  have HMS : Hid (∀ i (h : i < L.length), L[i].length ≤ 1048576) := hms
  clear ht hnc hnr hms
  go_enter Tryz.func42, Tryz.ntmps42
  go_wp2_with fail
  obtain ⟨W, hW⟩ : ∃ W, W = ((w.alloc (.cells #[.string nm, .slice ca nc cc, .slice ra nr cr] 35)).alloc (.cells #[.string ⟨#[]⟩, .slice none 0 0, .slice none 0 0] 35)) := ⟨_, rfl⟩
  have hA : Below w.heap.size w W := by rw [hW]; exact ((Below.refl _ _).alloc (Nat.le_refl _) _).alloc (by simp) _
  have hWs : W.heap.size = w.heap.size + 1 + 1 := by rw [hW]; simp
  have b0 : Hid (W.cell? ⟨w.heap.size, 0, none⟩ = some (.string nm) ∧ W.cell? ⟨w.heap.size, 1, none⟩ = some (.slice ca nc cc) ∧ W.cell? ⟨w.heap.size, 2, none⟩ = some (.slice ra nr cr)) := by
    have : W.cell? ⟨w.heap.size, 0, none⟩ = some (.string nm) ∧ W.cell? ⟨w.heap.size, 1, none⟩ = some (.slice ca nc cc) ∧ W.cell? ⟨w.heap.size, 2, none⟩ = some (.slice ra nr cr) := by
      rw [hW]; refine ⟨?_, ?_, ?_⟩ <;> simp
    exact this
  have d0 : Hid ((W.cell? ⟨w.heap.size + 1, 0, none⟩ = some (.string ⟨#[]⟩) ∧ W.cell? ⟨w.heap.size + 1, 1, none⟩ = some (.slice none 0 0) ∧ W.cell? ⟨w.heap.size + 1, 2, none⟩ = some (.slice none 0 0)) ∧ W.frozen? ⟨w.heap.size + 1, 0, none⟩ = false ∧ W.frozen? ⟨w.heap.size + 1, 1, none⟩ = false ∧ W.frozen? ⟨w.heap.size + 1, 2, none⟩ = false) := by
    have : (W.cell? ⟨w.heap.size + 1, 0, none⟩ = some (.string ⟨#[]⟩) ∧ W.cell? ⟨w.heap.size + 1, 1, none⟩ = some (.slice none 0 0) ∧ W.cell? ⟨w.heap.size + 1, 2, none⟩ = some (.slice none 0 0)) ∧ W.frozen? ⟨w.heap.size + 1, 0, none⟩ = false ∧ W.frozen? ⟨w.heap.size + 1, 1, none⟩ = false ∧ W.frozen? ⟨w.heap.size + 1, 2, none⟩ = false := by
      rw [hW]; refine ⟨⟨?_, ?_, ?_⟩, ?_, ?_, ?_⟩ <;> simp
    exact this
  rw [← hW]
  clear hW
  obtain ⟨p0, p1, p2⟩ := b0.out
  refine wp_region_held_drew (S := (fun w' => w'.cell? ⟨w.heap.size, 0, none⟩ = some (.string nm) ∧ w'.cell? ⟨w.heap.size, 1, none⟩ = some (.slice ca nc cc) ∧ w'.cell? ⟨w.heap.size, 2, none⟩ = some (.slice ra nr cr))) (by kernel_rfl) ?_ (fun hHeld => ?_)
  · (((try dsimp only); (repeat' apply And.intro) <;> first | (go_keep; done) | (simp (disch := first | omega | (simp <;> omega) | fail) [*]; done) | fail))
  refine wpAnyH_take (i := 0) (by simp only [List.getElem?_toArray, List.getElem?_cons_zero]; rfl) (by kernel_rfl) (by kernel_rfl) (by kernel_rfl) (by intro _ _ _ h; exact h) (Or.inl ⟨by rfl, fun w hSw => by (dsimp only at hSw; go_simp; (try with_reducible rfl))⟩) (by assumption) ?_
  simp only [Act.put, List.setIfInBounds_toArray, List.set_cons_zero, List.set_cons_succ]
  refine wpAnyH_take (i := 1) (by simp only [List.getElem?_toArray, List.getElem?_cons_zero, List.getElem?_cons_succ]; rfl) (by kernel_rfl) (by kernel_rfl) (by kernel_rfl) (by intro _ _ _ h; exact h) (Or.inl ⟨by rfl, fun w hSw => by (dsimp only at hSw; go_simp; (try with_reducible rfl))⟩) (by assumption) ?_
  simp only [Act.put, List.setIfInBounds_toArray, List.set_cons_zero, List.set_cons_succ]
  refine wpAnyH_take (i := 2) (by simp only [List.getElem?_toArray, List.getElem?_cons_zero, List.getElem?_cons_succ]; rfl) (by kernel_rfl) (by kernel_rfl) (by kernel_rfl) (by intro _ _ _ h; exact h) (Or.inl ⟨by rfl, fun w hSw => by (dsimp only at hSw; go_simp; (try with_reducible rfl))⟩) (by assumption) ?_
  simp only [Act.put, List.setIfInBounds_toArray, List.set_cons_zero, List.set_cons_succ]
  refine wpAnyH_take (i := 3) (by simp only [List.getElem?_toArray, List.getElem?_cons_zero, List.getElem?_cons_succ]; rfl) (by kernel_rfl) (by kernel_rfl) (by kernel_rfl) (by intro _ _ _ h; exact h) (Or.inl ⟨by rfl, fun w hSw => by (dsimp only at hSw; go_simp; (try with_reducible rfl))⟩) (by assumption) ?_
  simp only [Act.put, List.setIfInBounds_toArray, List.set_cons_zero, List.set_cons_succ]
  refine wpAnyH_take (i := 5) (by simp only [List.getElem?_toArray, List.getElem?_cons_zero, List.getElem?_cons_succ]; rfl) (by kernel_rfl) (by kernel_rfl) (by kernel_rfl) (by intro _ _ _ h; exact h) (Or.inl ⟨by rfl, fun w hSw => by (dsimp only at hSw; go_simp; (try with_reducible rfl))⟩) (by assumption) ?_
  simp only [Act.put, List.setIfInBounds_toArray, List.set_cons_zero, List.set_cons_succ]
  refine wpAnyH_take (i := 6) (by simp only [List.getElem?_toArray, List.getElem?_cons_zero, List.getElem?_cons_succ]; rfl) (by kernel_rfl) (by kernel_rfl) (by kernel_rfl) (by intro _ _ _ h; exact h) (Or.inl ⟨by rfl, fun w hSw => by (dsimp only at hSw; go_simp; (try with_reducible rfl))⟩) (by assumption) ?_
  simp only [Act.put, List.setIfInBounds_toArray, List.set_cons_zero, List.set_cons_succ]
  refine wpAnyH_ready (rs := [4]) (by kernel_rfl) (by simp) ?_
  refine AllReadyH.cons (by simp only [List.getElem?_toArray, List.getElem?_cons_zero, List.getElem?_cons_succ]; rfl) ?_ AllReadyH.nil
  intro K hK
  go_simp
  refine (texts_spec ca cc C nc HNC.out _ ((HT.out.below hA).cols.below (Below.refl W.heap.size W).drew) (HT.out.nilC) hc1).mono ?_
  rintro e wA ⟨g, c, rfl, hgl, hcl, own1, hbA⟩
  obtain ⟨hca, hfa⟩ := bcell hbA
  have hza := hbA.size
  try simp at hza
  have hxA : Below W.heap.size W wA := undrew hbA
  have yA : w.heap.size < wA.heap.size := by omega
  go_wp2_with fail
  refine hK.out _ _ ?_ (fun hHeld => ?_)
  · (((try dsimp only); (repeat' apply And.intro) <;> first | (go_keep; done) | (simp (disch := first | omega | (simp <;> omega) | fail) [*]; done) | fail))
  clear hK K
  try simp only [Act.put, List.setIfInBounds_toArray, List.set_cons_zero, List.set_cons_succ]
  refine wpAnyH_ready (rs := [7]) (by kernel_rfl) (by simp) ?_
  refine AllReadyH.cons (by simp only [List.getElem?_toArray, List.getElem?_cons_zero, List.getElem?_cons_succ]; rfl) ?_ AllReadyH.nil
  intro K hK
  go_simp
  refine (rows_specN ra cr L nr HNR.out _ ((HT.out.below hA).rows.below hxA) hr1 HMS.out).mono ?_
  rintro e wB ⟨vr, G, D, rfl, own2, hbB, hvr⟩
  obtain ⟨g2, c2, rfl⟩ : ∃ g2 c2, vr = .slice (some ⟨g2, 0, none⟩) nr c2 := by
    rcases own2.outer.2 with ⟨h', _⟩ | ⟨g2, c2, cur, h', _⟩
    · exact absurd h' hvr
    · exact ⟨g2, c2, by rw [h', HNR.out]⟩
  have hzB := hbB.size
  have hxB : Below W.heap.size W wB := chain hxA hbB
  have hzW := hxB.size
  have f1 : Hid (wB.ownsRow (w.heap.size + 1 + 1) 9 1 (.slice (some ⟨g, 0, none⟩) C.length c) C.length (strV C)) := by
    have := own_below own1 hbB
    rw [show W.drew.heap.size = w.heap.size + 1 + 1 from hWs] at this
    exact this
  have f2 : Hid (OwnRows wB (w.heap.size + 1 + 1) (.slice (some ⟨g2, 0, none⟩) nr c2) L G D) := by
    have : OwnRows wB (w.heap.size + 1 + 1) (.slice (some ⟨g2, 0, none⟩) nr c2) L G D := own2.keepC (Keep.refl 0 wB) (by omega) (by omega)
    exact this
  clear hca hfa
  obtain ⟨hca, hfa⟩ := bcell hxB
  obtain ⟨⟨q0, q1, q2⟩, e0, e1, e2⟩ := d0.out
  have t0 : wB.cell? ⟨w.heap.size + 1, 0, none⟩ = some (.string ⟨#[]⟩) := by rw [hca _ _ (by omega)]; exact q0
  have t1 : wB.cell? ⟨w.heap.size + 1, 1, none⟩ = some (.slice none 0 0) := by rw [hca _ _ (by omega)]; exact q1
  have t2 : wB.cell? ⟨w.heap.size + 1, 2, none⟩ = some (.slice none 0 0) := by rw [hca _ _ (by omega)]; exact q2
  have h0 : wB.frozen? ⟨w.heap.size + 1, 0, none⟩ = false := by rw [hfa _ _ (by omega)]; exact e0
  have h1 : wB.frozen? ⟨w.heap.size + 1, 1, none⟩ = false := by rw [hfa _ _ (by omega)]; exact e1
  have h2 : wB.frozen? ⟨w.heap.size + 1, 2, none⟩ = false := by rw [hfa _ _ (by omega)]; exact e2
  have yB : w.heap.size < wB.heap.size := by omega
  go_wp2_with fail
  refine hK.out _ _ ?_ (fun hHeld => ?_)
  · (((try dsimp only); (repeat' apply And.intro) <;> first | (go_keep; done) | (simp (disch := first | omega | (simp <;> omega) | fail) [*]; done) | fail))
  clear hK K
  try simp only [Act.put, List.setIfInBounds_toArray, List.set_cons_zero, List.set_cons_succ]
  refine wpAnyH_take (i := 8) (by simp only [List.getElem?_toArray, List.getElem?_cons_zero, List.getElem?_cons_succ]; rfl) (by kernel_rfl) (by kernel_rfl) (by kernel_rfl) (by intro _ _ _ h; exact h) (Or.inl ⟨by rfl, fun w hSw => by (dsimp only at hSw; go_simp; (try with_reducible rfl))⟩) (by assumption) ?_
  simp only [Act.put, List.setIfInBounds_toArray, List.set_cons_zero, List.set_cons_succ]
  refine wpAnyH_ready (rs := [9]) (by kernel_rfl) (by simp) ?_
  refine AllReadyH.cons (by simp only [List.getElem?_toArray, List.getElem?_cons_zero, List.getElem?_cons_succ]; rfl) ?_ AllReadyH.nil
  intro K hK
  go_simp
  refine hK.out _ _ ?_ (fun hHeld => ?_)
  · (((try dsimp only); (repeat' apply And.intro) <;> first | (go_keep; done) | (simp (disch := first | omega | (simp <;> omega) | fail) [*]; done) | fail))
  clear hK K
  try simp only [Act.put, List.setIfInBounds_toArray, List.set_cons_zero, List.set_cons_succ]
  refine wpAnyH_done (by kernel_rfl) ?_ _
  go_wp2_with fail
  have hxw : Below w.heap.size w wB := hA.trans (hxB.mono hA.size)
  refine bodyPost_ret (v := .agg #[.string nm, .slice (some ⟨g, 0, none⟩) nc c, .slice (some ⟨g2, 0, none⟩) nr c2]) (by simp [results, Tryz.results42, go_sem, t0, t1, t2]) rfl ⟨g, c, g2, c2, G, D, rfl, by have : W.heap.size ≤ g := hgl; omega, hcl, ?_, ?_, ?_⟩
  · refine own_keepC (c := w.heap.size + 1) f1.out ?_ (by omega) (by omega)
    exact (((Keep.refl (w.heap.size + 1) wB).setCell (p := ⟨w.heap.size + 1, 0, none⟩) (Or.inl rfl) _).setCell (p := ⟨w.heap.size + 1, 1, none⟩) (Or.inl rfl) _).setCell (p := ⟨w.heap.size + 1, 2, none⟩) (Or.inl rfl) _
  · refine f2.out.keepC (c := w.heap.size + 1) ?_ (by omega) (by omega)
    exact (((Keep.refl (w.heap.size + 1) wB).setCell (p := ⟨w.heap.size + 1, 0, none⟩) (Or.inl rfl) _).setCell (p := ⟨w.heap.size + 1, 1, none⟩) (Or.inl rfl) _).setCell (p := ⟨w.heap.size + 1, 2, none⟩) (Or.inl rfl) _
  · repeat (first | exact hxw | refine Below.setCell ?_ (by first | (simp; done) | (simp; omega)) _)

end Go.Proofs.YteamdmcgkpeelabGreatDoor

/-
  The contracts of the law's helpers on tables: the measure, and two that are one held against each other.
-/
namespace Go.Proofs.YteamdmcgkpeelabGreatDoor
open Go.ChangeShapes Go.WideShapes Go.ChangeAt Go.RowKit
attribute [local go_sem ↓] Go.wp_at_zero Go.wp_at_succ
attribute [local simp] World.cell?_alloc_past World.cell?_alloc_at World.frozen?_alloc_at cell_far cell_off cell_here World.frozen?_alloc_past

end Go.Proofs.YteamdmcgkpeelabGreatDoor

/-
  The text that the law's helper writes to mark a cell: what it is hangs on its number alone.
-/
namespace Go.Proofs.YteamdmcgkpeelabGreatDoor
open Go.ChangeShapes Go.WideShapes Go.ChangeAt Go.RowKit
attribute [local go_sem ↓] Go.wp_at_zero Go.wp_at_succ

/-- The last digit of k, as a byte. -/
def dig (k : Nat) : UInt8 := UInt8.ofNat (48 + k % 10)
theorem dig_nat (k : Nat) : (dig k).toNat = 48 + k % 10 := by unfold dig; rw [UInt8.toNat_ofNat']; omega
/-- The digits of k ahead of what is there. -/
def digs : Nat → Nat → ByteArray → ByteArray
  | 0, _, out => out
  | f + 1, k, out => if k = 0 then out else digs f (k / 10) (⟨#[dig k]⟩ ++ out)
/-- The text that marks k. -/
def mt (k : Nat) : ByteArray := ⟨#[109]⟩ ++ digs k k ⟨#[]⟩

theorem digs_step (m : Nat) (out : ByteArray) (h : 0 < m) : digs m m out = digs (m / 10) (m / 10) (⟨#[dig m]⟩ ++ out) := by
  have fuel : ∀ (k f g : Nat) (out : ByteArray), k ≤ f → k ≤ g → digs f k out = digs g k out := by
    intro k
    induction k using Nat.strongRecOn with
    | _ k ih =>
      intro f g out hf hg
      cases f with
      | zero =>
        have : k = 0 := by omega
        subst this
        cases g <;> simp [digs]
      | succ f =>
        cases g with
        | zero =>
          have : k = 0 := by omega
          subst this
          simp [digs]
        | succ g =>
          by_cases hk : k = 0
          · simp [digs, hk]
          · rw [digs, digs, if_neg hk, if_neg hk]
            exact ih (k / 10) (by omega) f g _ (by omega) (by omega)
  cases m with
  | zero => omega
  | succ m =>
    rw [digs, if_neg (by omega)]
    exact fuel _ _ _ _ (by omega) (by omega)

end Go.Proofs.YteamdmcgkpeelabGreatDoor
