/-
  A part of the proof: Tab1.
-/
import Derived.Test.YtjiaciikbnpicaaGreatDoorPart5
import Derived.Test.YtjiaciikbnpicaaGreatDoorPart6

/-
  Tables: how a table lies in memory, what a right one is, without any program, and the contract of the model's TableOk.
-/
namespace Go.Proofs.YtjiaciikbnpicaaGreatDoor
open Go.ChangeShapes Go.WideShapes Go.ChangeAt Go.RowKit
attribute [local go_sem ↓] Go.wp_at_zero Go.wp_at_succ
attribute [local simp] World.cell?_alloc_past World.cell?_alloc_at World.frozen?_alloc_at cell_far cell_off cell_here World.frozen?_alloc_past

/-- A table: its name, its columns, its rows. -/
abbrev TB := ByteArray × List ByteArray × List (List CT)
/-- The columns and rows of a table lie where it says. -/
structure TabAt (w : World) (ca : Option Addr) (cc : Nat) (ra : Option Addr) (t : TB) : Prop where
  cols : StrsAt w ca t.2.1
  fit : FitS t.2.1
  len : t.2.1.length ≤ maxLen
  cap : t.2.1.length ≤ cc
  nilC : ca = none → cc = 0
  rows : RowsAt w ra t.2.2
  lenR : t.2.2.length ≤ maxLen
  name : t.1.size ≤ maxLen
theorem TabAt.below {w w' : World} {ca : Option Addr} {cc : Nat} {ra : Option Addr} {t : TB} (h : TabAt w ca cc ra t) (hb : Below w.heap.size w w') : TabAt w' ca cc ra t :=
  ⟨h.cols.below hb, h.fit, h.len, h.cap, h.nilC, h.rows.below hb, h.lenR, h.name⟩

def rowOk (n : Nat) (r : List CT) : Bool := decide (r.length = n) && r.all okC
/-- Is it a right table? -/
def tableB (t : TB) : Bool := (nameB t.1 && (namesB t.2.1 1 6 && decide (t.2.2.length ≤ 60))) && t.2.2.all (rowOk t.2.1.length)

theorem cells_specN (n : Nat) (a : Option Addr) (cap : Nat) (l : List CT) (hn : l.length = n) (w : World) (hrow : RowAt w a l) (hfit : Fit l) (hm : n ≤ maxLen) (b : Bool) (hb : l.all okC = b) :
    Calls Tryz.prog 103 #[.slice a n cap] w fun e w' => e = .returned (.bool b) ∧ Below w.heap.size w w' := by
  subst hn; exact cells_spec a cap l w hrow hfit hm b hb
theorem names_specN (n : Nat) (a : Option Addr) (cap : Nat) (l : List ByteArray) (hn : l.length = n) (least most : Int) (w : World) (hrow : StrsAt w a l) (hfit : FitS l) (hm : n ≤ maxLen) (hcap : n ≤ cap) (b : Bool) (hb : namesB l least most = b) :
    Calls Tryz.prog 45 #[.slice a n cap, .int .i64 least, .int .i64 most] w fun e w' => e = .returned (.bool b) ∧ Below w.heap.size w w' := by
  subst hn; exact names_spec a cap l least most w hrow hfit hm hcap b hb

set_option maxRecDepth 100000 in
set_option maxHeartbeats 4000000 in
theorem table_spec (ca : Option Addr) (cc : Nat) (ra : Option Addr) (cr : Nat) (t : TB) (nc nr : Nat) (hnc : t.2.1.length = nc) (hnr : t.2.2.length = nr) (w : World) (ht : TabAt w ca cc ra t) (b : Bool) (hb : tableB t = b) :
    Calls Tryz.prog 68 #[.agg #[.string t.1, .slice ca nc cc, .slice ra nr cr]] w fun e w' => e = .returned (.bool b) ∧ Below w.heap.size w w' := by
  obtain ⟨nm, C, L⟩ := t
  dsimp only at hnc hnr ⊢
  have HT : Hid (TabAt w ca cc ra (nm, C, L)) := ht
  have HNC : Hid (C.length = nc) := hnc
  have HNR : Hid (L.length = nr) := hnr
  have hncM : nc ≤ maxLen := by rw [← hnc]; exact ht.len
  have hnrM : nr ≤ maxLen := by rw [← hnr]; exact ht.lenR
  have hcap : nc ≤ cc := by rw [← hnc]; exact ht.cap
  have hnm : nm.size ≤ maxLen := ht.name
  obtain ⟨b1, h1⟩ : ∃ x, nameB nm = x := ⟨_, rfl⟩
  obtain ⟨b2, h2⟩ : ∃ x, namesB C 1 6 = x := ⟨_, rfl⟩
  have HB1 : Hid (nameB nm = b1) := h1
  have HB2 : Hid (namesB C 1 6 = b2) := h2
  have hb' : ((b1 && (b2 && decide (nr ≤ 60))) && L.all (rowOk nc)) = b := by rw [← hb, ← h1, ← h2, ← hnc, ← hnr]; rfl
  clear ht hb h1 h2 hnc hnr
  have hm1 := hncM
  have hm2 := hnrM
  unfold maxLen at hm1 hm2
  have HTA : Hid (TabAt (w.alloc (.cells #[.string nm, .slice ca nc cc, .slice ra nr cr] 40)) ca cc ra (nm, C, L)) := HT.out.below ((Below.refl _ _).alloc (Nat.le_refl _) _)
  cases b1
  · rw [Bool.false_and, Bool.false_and] at hb'
    subst hb'
    go_enter Tryz.func68, Tryz.ntmps68
    go_wp2_with fail
    refine (name_spec nm _ hnm false HB1.out).mono ?_
    rintro e w' ⟨rfl, rfl⟩
    go_wp2
    go_ret
    exact ⟨rfl, (Below.refl _ _).alloc (Nat.le_refl _) _⟩
  rw [Bool.true_and] at hb'
  go_enter Tryz.func68, Tryz.ntmps68
  go_wp2_with fail
  refine (name_spec nm _ hnm true HB1.out).mono ?_
  rintro e w' ⟨rfl, rfl⟩
  go_wp2_with fail
  refine (names_specN nc ca cc C HNC.out 1 6 _ HTA.out.cols HTA.out.fit hncM hcap b2 HB2.out).mono ?_
  rintro e w1 ⟨rfl, hbx⟩
  obtain ⟨p0, p1, p2, p3⟩ := box3 hbx
  have hx1 : Below w.heap.size w w1 := chainA hbx
  have H1 : Hid (TabAt w1 ca cc ra (nm, C, L)) := HTA.out.below hbx
  clear hbx HTA HT
  obtain ⟨B, hB⟩ : ∃ B, w.heap.size = B := ⟨_, rfl⟩
  rw [hB] at p0 p1 p2 p3 ⊢
  cases b2
  · rw [Bool.false_and, Bool.false_and] at hb'
    subst hb'
    go_wp2
    go_ret
    exact ⟨rfl, hB ▸ hx1⟩
  rw [Bool.true_and] at hb'
  by_cases h60 : (60 : Int) < (nr : Int)
  · rw [decide_eq_false (by omega), Bool.false_and] at hb'
    subst hb'
    go_wp2
    go_ret
    exact ⟨rfl, hB ▸ hx1⟩
  rw [decide_eq_true (by omega), Bool.true_and] at hb'
  have HB : Hid (L.all (rowOk nc) = b) := hb'
  clear hb'
  go_wp2_with fail
  go_loopw [3] (fun kk wr => ∃ k : Nat, k ≤ nr ∧ kk = .int .i64 k ∧ Hid ((L.take k).all (rowOk nc) = true) ∧ Below w1.heap.size w1 wr) (fun kk _ => nr - (intOf kk).toNat)
  case atStart => exact ⟨0, Nat.zero_le _, rfl, rfl, Below.refl _ _⟩
  case round =>
    obtain ⟨k, hk, rfl, hall, hbw⟩ := hrel
    obtain ⟨d0, d1, d2, d3⟩ := later3 hbw ⟨p0, p1, p2, p3⟩
    have hxr := chain hx1 hbw
    by_cases hlt : k < nr
    · have hlt' : k < L.length := by rw [HNR.out]; exact hlt
      obtain ⟨g, o, ai, ci, rfl, hgw, c0, hrow, hfit, hlen, _⟩ := (H1.out.below hbw).rows k hlt'
      have hi0 : (0 : Int) ≤ (k : Int) := by omega
      have hi1 : (k : Int) < (nr : Int) := by omega
      have hsn : (L.take (k + 1)).all (rowOk nc) = rowOk nc L[k] := by
        rw [List.take_succ_eq_append_getElem hlt', List.all_append, hall.out, Bool.true_and, List.all_cons, List.all_nil, Bool.and_true]
      have HS : Hid ((L.take (k + 1)).all (rowOk nc) = rowOk nc L[k]) := hsn
      have hno : Hid (rowOk nc L[k] = false → b = false) := by
        have : rowOk nc L[k] = false → b = false := by
          intro e
          rw [← HB.out, Bool.eq_false_iff]
          intro h
          rw [List.all_eq_true.1 h _ (List.getElem_mem hlt')] at e
          cases e
        exact this
      clear hsn
      generalize L[k] = l at c0 hrow hfit hlen HS hno
      obtain ⟨n, hn⟩ : ∃ n, l.length = n := ⟨_, rfl⟩
      rw [hn] at c0 hlen
      have HN : Hid (l.length = n) := hn
      have RW : Hid (RowAt wr ai l) := hrow
      have FT : Hid (Fit l) := hfit
      clear hn hrow hfit
      have hlm := hlen
      unfold maxLen at hlm
      by_cases e : n = nc
      · subst e
        obtain ⟨q, hq⟩ : ∃ q, l.all okC = q := ⟨_, rfl⟩
        have HQ : Hid (l.all okC = q) := hq
        have HO : Hid (rowOk n l = q) := by
          have : rowOk n l = q := by unfold rowOk; rw [decide_eq_true HN.out, Bool.true_and, hq]
          exact this
        clear hq
        go_wp2_with fail
        refine wp_region_held_drew (S := (fun w' => w'.cell? ⟨B, 1, none⟩ = some (.slice ca n cc) ∧ w'.cell? ⟨B, 2, none⟩ = some (.slice (some ⟨g, o, none⟩) nr cr) ∧ w'.cell? ⟨g, o + k, none⟩ = some (.slice ai n ci))) (by kernel_rfl) ?_ (fun hHeld => ?_)
        · (((try dsimp only); (repeat' apply And.intro) <;> first | (go_keep; done) | (simp (disch := first | omega | (simp <;> omega) | fail) [*]; done) | fail))
        refine wpAnyH_take (i := 0) (by simp only [List.getElem?_toArray, List.getElem?_cons_zero]; rfl) (by kernel_rfl) (by kernel_rfl) (by kernel_rfl) (by intro _ _ _ h; exact h) (Or.inl ⟨by rfl, fun w hSw => by (dsimp only at hSw; go_simp; (try with_reducible rfl))⟩) (by assumption) ?_
        simp only [Act.put, List.setIfInBounds_toArray, List.set_cons_zero, List.set_cons_succ]
        refine wpAnyH_take (i := 1) (by simp only [List.getElem?_toArray, List.getElem?_cons_zero, List.getElem?_cons_succ]; rfl) (by kernel_rfl) (by kernel_rfl) (by kernel_rfl) (by intro _ _ _ h; exact h) (Or.inl ⟨by rfl, fun w hSw => by (dsimp only at hSw; go_simp; (try with_reducible rfl))⟩) (by assumption) ?_
        simp only [Act.put, List.setIfInBounds_toArray, List.set_cons_zero, List.set_cons_succ]
        refine wpAnyH_take (i := 2) (by simp only [List.getElem?_toArray, List.getElem?_cons_zero, List.getElem?_cons_succ]; rfl) (by kernel_rfl) (by kernel_rfl) (by kernel_rfl) (by intro _ _ _ h; exact h) (Or.inl ⟨by rfl, fun w hSw => by (dsimp only at hSw; go_simp; (try with_reducible rfl))⟩) (by assumption) ?_
        simp only [Act.put, List.setIfInBounds_toArray, List.set_cons_zero, List.set_cons_succ]
        refine wpAnyH_take (i := 3) (by simp only [List.getElem?_toArray, List.getElem?_cons_zero, List.getElem?_cons_succ]; rfl) (by kernel_rfl) (by kernel_rfl) (by kernel_rfl) (by intro _ _ _ h; exact h) (Or.inl ⟨by rfl, fun w hSw => by (dsimp only at hSw; go_simp; (try with_reducible rfl))⟩) (by assumption) ?_
        simp only [Act.put, List.setIfInBounds_toArray, List.set_cons_zero, List.set_cons_succ]
        refine wpAnyH_take (i := 4) (by simp only [List.getElem?_toArray, List.getElem?_cons_zero, List.getElem?_cons_succ]; rfl) (by kernel_rfl) (by kernel_rfl) (by kernel_rfl) (by intro _ _ _ h; exact h) (Or.inl ⟨by rfl, fun w hSw => by (dsimp only at hSw; go_simp; (try with_reducible rfl))⟩) (by assumption) ?_
        simp only [Act.put, List.setIfInBounds_toArray, List.set_cons_zero, List.set_cons_succ]
        refine wpAnyH_take (i := 5) (by simp only [List.getElem?_toArray, List.getElem?_cons_zero, List.getElem?_cons_succ]; rfl) (by kernel_rfl) (by kernel_rfl) (by kernel_rfl) (by intro _ _ _ h; exact h) (Or.inl ⟨by rfl, fun w hSw => by (dsimp only at hSw; go_simp; (try with_reducible rfl))⟩) (by assumption) ?_
        simp only [Act.put, List.setIfInBounds_toArray, List.set_cons_zero, List.set_cons_succ]
        refine wpAnyH_take (i := 6) (by simp only [List.getElem?_toArray, List.getElem?_cons_zero, List.getElem?_cons_succ]; rfl) (by kernel_rfl) (by kernel_rfl) (by kernel_rfl) (by intro _ _ _ h; exact h) (Or.inl ⟨by rfl, fun w hSw => by (dsimp only at hSw; go_simp; (try with_reducible rfl))⟩) (by assumption) ?_
        simp only [Act.put, List.setIfInBounds_toArray, List.set_cons_zero, List.set_cons_succ]
        refine wpAnyH_take (i := 7) (by simp only [List.getElem?_toArray, List.getElem?_cons_zero, List.getElem?_cons_succ]; rfl) (by kernel_rfl) (by kernel_rfl) (by kernel_rfl) (by intro _ _ _ h; exact h) (Or.inl ⟨by rfl, fun w hSw => by (dsimp only at hSw; go_simp; (try with_reducible rfl))⟩) (by assumption) ?_
        simp only [Act.put, List.setIfInBounds_toArray, List.set_cons_zero, List.set_cons_succ]
        refine wpAnyH_take (i := 8) (by simp only [List.getElem?_toArray, List.getElem?_cons_zero, List.getElem?_cons_succ]; rfl) (by kernel_rfl) (by kernel_rfl) (by kernel_rfl) (by intro _ _ _ h; exact h) (Or.inl ⟨by rfl, fun w hSw => by (dsimp only at hSw; go_simp; (try with_reducible rfl))⟩) (by assumption) ?_
        simp only [Act.put, List.setIfInBounds_toArray, List.set_cons_zero, List.set_cons_succ]
        refine wpAnyH_take (i := 9) (by simp only [List.getElem?_toArray, List.getElem?_cons_zero, List.getElem?_cons_succ]; rfl) (by kernel_rfl) (by kernel_rfl) (by kernel_rfl) (by intro _ _ _ h; exact h) (Or.inl ⟨by rfl, fun w hSw => by (dsimp only at hSw; go_simp; (try with_reducible rfl))⟩) (by assumption) ?_
        simp only [Act.put, List.setIfInBounds_toArray, List.set_cons_zero, List.set_cons_succ]
        refine wpAnyH_take (i := 10) (by simp only [List.getElem?_toArray, List.getElem?_cons_zero, List.getElem?_cons_succ]; rfl) (by kernel_rfl) (by kernel_rfl) (by kernel_rfl) (by intro _ _ _ h; exact h) (Or.inl ⟨by rfl, fun w hSw => by (dsimp only at hSw; go_simp; (try with_reducible rfl))⟩) (by assumption) ?_
        simp only [Act.put, List.setIfInBounds_toArray, List.set_cons_zero, List.set_cons_succ]
        refine wpAnyH_take (i := 11) (by simp only [List.getElem?_toArray, List.getElem?_cons_zero, List.getElem?_cons_succ]; rfl) (by kernel_rfl) (by kernel_rfl) (by kernel_rfl) (by intro _ _ _ h; exact h) (Or.inl ⟨by rfl, fun w hSw => by (dsimp only at hSw; go_simp; (try with_reducible rfl))⟩) (by assumption) ?_
        simp only [Act.put, List.setIfInBounds_toArray, List.set_cons_zero, List.set_cons_succ]
        refine wpAnyH_take (i := 12) (by simp only [List.getElem?_toArray, List.getElem?_cons_zero, List.getElem?_cons_succ]; rfl) (by kernel_rfl) (by kernel_rfl) (by kernel_rfl) (by intro _ _ _ h; exact h) (Or.inl ⟨by rfl, fun w hSw => by (dsimp only at hSw; go_simp; (try with_reducible rfl))⟩) (by assumption) ?_
        simp only [Act.put, List.setIfInBounds_toArray, List.set_cons_zero, List.set_cons_succ]
        refine wpAnyH_take (i := 13) (by simp only [List.getElem?_toArray, List.getElem?_cons_zero, List.getElem?_cons_succ]; rfl) (by kernel_rfl) (by kernel_rfl) (by kernel_rfl) (by intro _ _ _ h; exact h) (Or.inl ⟨by rfl, fun w hSw => by (dsimp only at hSw; go_simp; (try with_reducible rfl))⟩) (by assumption) ?_
        simp only [Act.put, List.setIfInBounds_toArray, List.set_cons_zero, List.set_cons_succ]
        refine wpAnyH_take (i := 14) (by simp only [List.getElem?_toArray, List.getElem?_cons_zero, List.getElem?_cons_succ]; rfl) (by kernel_rfl) (by kernel_rfl) (by kernel_rfl) (by intro _ _ _ h; exact h) (Or.inl ⟨by rfl, fun w hSw => by (dsimp only at hSw; go_simp; (try with_reducible rfl))⟩) (by assumption) ?_
        simp only [Act.put, List.setIfInBounds_toArray, List.set_cons_zero, List.set_cons_succ]
        refine wpAnyH_take (i := 15) (by simp only [List.getElem?_toArray, List.getElem?_cons_zero, List.getElem?_cons_succ]; rfl) (by kernel_rfl) (by kernel_rfl) (by kernel_rfl) (by intro _ _ _ h; exact h) (Or.inl ⟨by rfl, fun w hSw => by (dsimp only at hSw; go_simp; (try with_reducible rfl))⟩) (by assumption) ?_
        simp only [Act.put, List.setIfInBounds_toArray, List.set_cons_zero, List.set_cons_succ]
        refine wpAnyH_ready (rs := [16]) (by kernel_rfl) (by simp) ?_
        refine AllReadyH.cons (by simp only [List.getElem?_toArray, List.getElem?_cons_zero, List.getElem?_cons_succ]; rfl) ?_ AllReadyH.nil
        intro K hK
        go_simp
        refine (cells_specN n _ _ l HN.out _ (RW.out.below (Below.refl wr.heap.size wr).drew) FT.out hlen q HQ.out).mono ?_
        rintro e wA ⟨rfl, hbA⟩
        obtain ⟨hca, hfa⟩ := bcell hbA
        have hza := hbA.size
        try simp at hza
        have hxA : Below w1.heap.size w1 wA := chain hbw (undrew hbA)
        have yA : g < wA.heap.size := by omega
        have yB : B < wA.heap.size := by omega
        go_wp2_with fail
        refine hK.out _ _ ?_ (fun hHeld => ?_)
        · (((try dsimp only); (repeat' apply And.intro) <;> first | (go_keep; done) | (simp (disch := first | omega | (simp <;> omega) | fail) [*]; done) | fail))
        clear hK K
        try simp only [Act.put, List.setIfInBounds_toArray, List.set_cons_zero, List.set_cons_succ]
        refine wpAnyH_take (i := 17) (by simp only [List.getElem?_toArray, List.getElem?_cons_zero, List.getElem?_cons_succ]; rfl) (by kernel_rfl) (by kernel_rfl) (by kernel_rfl) (by intro _ _ _ h; exact h) (Or.inl ⟨by rfl, fun w hSw => by (dsimp only at hSw; go_simp; (try with_reducible rfl))⟩) (by assumption) ?_
        simp only [Act.put, List.setIfInBounds_toArray, List.set_cons_zero, List.set_cons_succ]
        refine wpAnyH_take (i := 18) (by simp only [List.getElem?_toArray, List.getElem?_cons_zero, List.getElem?_cons_succ]; rfl) (by kernel_rfl) (by kernel_rfl) (by kernel_rfl) (by intro _ _ _ h; exact h) (Or.inl ⟨by rfl, fun w hSw => by (dsimp only at hSw; go_simp; (try with_reducible rfl))⟩) (by assumption) ?_
        simp only [Act.put, List.setIfInBounds_toArray, List.set_cons_zero, List.set_cons_succ]
        refine wpAnyH_done (by kernel_rfl) ?_ _
        have hxw := chain hx1 hxA
        clear hca hfa hbA
        cases q
        · have e := hno.out HO.out
          subst e
          go_wp2
          go_ret
          exact ⟨rfl, by first | exact hxw | (rw [hB] at hxw; exact hxw)⟩
        · go_wp2
          go_roundw
          case rel => exact ⟨k + 1, by omega, by go_num, by rw [HS.out]; exact HO.out, hxA⟩
          case measure => simp [intOf]; omega
      · have hne : ((n : Int) == (nc : Int)) = false := by rw [beq_eq_false_iff_ne]; omega
        have hnq : ((n : Int) != (nc : Int)) = true := by rw [bne, hne]; rfl
        clear hne
        have e2 := hno.out (by unfold rowOk; rw [decide_eq_false (by rw [HN.out]; exact e), Bool.false_and])
        subst e2
        go_wp2_with fail
        refine wp_region_held_drew (S := (fun w' => w'.cell? ⟨B, 1, none⟩ = some (.slice ca nc cc) ∧ w'.cell? ⟨B, 2, none⟩ = some (.slice (some ⟨g, o, none⟩) nr cr) ∧ w'.cell? ⟨g, o + k, none⟩ = some (.slice ai n ci))) (by kernel_rfl) ?_ (fun hHeld => ?_)
        · (((try dsimp only); (repeat' apply And.intro) <;> first | (go_keep; done) | (simp (disch := first | omega | (simp <;> omega) | fail) [*]; done) | fail))
        refine wpAnyH_take (i := 0) (by simp only [List.getElem?_toArray, List.getElem?_cons_zero]; rfl) (by kernel_rfl) (by kernel_rfl) (by kernel_rfl) (by intro _ _ _ h; exact h) (Or.inl ⟨by rfl, fun w hSw => by (dsimp only at hSw; go_simp; (try with_reducible rfl))⟩) (by assumption) ?_
        simp only [Act.put, List.setIfInBounds_toArray, List.set_cons_zero, List.set_cons_succ]
        refine wpAnyH_take (i := 1) (by simp only [List.getElem?_toArray, List.getElem?_cons_zero, List.getElem?_cons_succ]; rfl) (by kernel_rfl) (by kernel_rfl) (by kernel_rfl) (by intro _ _ _ h; exact h) (Or.inl ⟨by rfl, fun w hSw => by (dsimp only at hSw; go_simp; (try with_reducible rfl))⟩) (by assumption) ?_
        simp only [Act.put, List.setIfInBounds_toArray, List.set_cons_zero, List.set_cons_succ]
        refine wpAnyH_take (i := 2) (by simp only [List.getElem?_toArray, List.getElem?_cons_zero, List.getElem?_cons_succ]; rfl) (by kernel_rfl) (by kernel_rfl) (by kernel_rfl) (by intro _ _ _ h; exact h) (Or.inl ⟨by rfl, fun w hSw => by (dsimp only at hSw; go_simp; (try with_reducible rfl))⟩) (by assumption) ?_
        simp only [Act.put, List.setIfInBounds_toArray, List.set_cons_zero, List.set_cons_succ]
        refine wpAnyH_take (i := 3) (by simp only [List.getElem?_toArray, List.getElem?_cons_zero, List.getElem?_cons_succ]; rfl) (by kernel_rfl) (by kernel_rfl) (by kernel_rfl) (by intro _ _ _ h; exact h) (Or.inl ⟨by rfl, fun w hSw => by (dsimp only at hSw; go_simp; (try with_reducible rfl))⟩) (by assumption) ?_
        simp only [Act.put, List.setIfInBounds_toArray, List.set_cons_zero, List.set_cons_succ]
        refine wpAnyH_take (i := 4) (by simp only [List.getElem?_toArray, List.getElem?_cons_zero, List.getElem?_cons_succ]; rfl) (by kernel_rfl) (by kernel_rfl) (by kernel_rfl) (by intro _ _ _ h; exact h) (Or.inl ⟨by rfl, fun w hSw => by (dsimp only at hSw; go_simp; (try with_reducible rfl))⟩) (by assumption) ?_
        simp only [Act.put, List.setIfInBounds_toArray, List.set_cons_zero, List.set_cons_succ]
        refine wpAnyH_take (i := 5) (by simp only [List.getElem?_toArray, List.getElem?_cons_zero, List.getElem?_cons_succ]; rfl) (by kernel_rfl) (by kernel_rfl) (by kernel_rfl) (by intro _ _ _ h; exact h) (Or.inl ⟨by rfl, fun w hSw => by (dsimp only at hSw; go_simp; (try with_reducible rfl))⟩) (by assumption) ?_
        simp only [Act.put, List.setIfInBounds_toArray, List.set_cons_zero, List.set_cons_succ]
        refine wpAnyH_take (i := 6) (by simp only [List.getElem?_toArray, List.getElem?_cons_zero, List.getElem?_cons_succ]; rfl) (by kernel_rfl) (by kernel_rfl) (by kernel_rfl) (by intro _ _ _ h; exact h) (Or.inl ⟨by rfl, fun w hSw => by (dsimp only at hSw; go_simp; (try with_reducible rfl))⟩) (by assumption) ?_
        simp only [Act.put, List.setIfInBounds_toArray, List.set_cons_zero, List.set_cons_succ]
        refine wpAnyH_take (i := 7) (by simp only [List.getElem?_toArray, List.getElem?_cons_zero, List.getElem?_cons_succ]; rfl) (by kernel_rfl) (by kernel_rfl) (by kernel_rfl) (by intro _ _ _ h; exact h) (Or.inl ⟨by rfl, fun w hSw => by (dsimp only at hSw; go_simp; (try with_reducible rfl))⟩) (by assumption) ?_
        simp only [Act.put, List.setIfInBounds_toArray, List.set_cons_zero, List.set_cons_succ]
        refine wpAnyH_take (i := 8) (by simp only [List.getElem?_toArray, List.getElem?_cons_zero, List.getElem?_cons_succ]; rfl) (by kernel_rfl) (by kernel_rfl) (by kernel_rfl) (by intro _ _ _ h; exact h) (Or.inl ⟨by rfl, fun w hSw => by (dsimp only at hSw; go_simp; (try with_reducible rfl))⟩) (by assumption) ?_
        simp only [Act.put, List.setIfInBounds_toArray, List.set_cons_zero, List.set_cons_succ]
        refine wpAnyH_take (i := 9) (by simp only [List.getElem?_toArray, List.getElem?_cons_zero, List.getElem?_cons_succ]; rfl) (by kernel_rfl) (by kernel_rfl) (by kernel_rfl) (by intro _ _ _ h; exact h) (Or.inl ⟨by rfl, fun w hSw => by (dsimp only at hSw; go_simp; (try with_reducible rfl))⟩) (by assumption) ?_
        simp only [Act.put, List.setIfInBounds_toArray, List.set_cons_zero, List.set_cons_succ]
        refine wpAnyH_take (i := 10) (by simp only [List.getElem?_toArray, List.getElem?_cons_zero, List.getElem?_cons_succ]; rfl) (by kernel_rfl) (by kernel_rfl) (by kernel_rfl) (by intro _ _ _ h; exact h) (Or.inl ⟨by rfl, fun w hSw => by (dsimp only at hSw; go_simp; (try with_reducible rfl))⟩) (by assumption) ?_
        simp only [Act.put, List.setIfInBounds_toArray, List.set_cons_zero, List.set_cons_succ]
        try rw [hnq]
        refine wpAnyH_take (i := 11) (v := undef) (by simp only [List.getElem?_toArray, List.getElem?_cons_zero, List.getElem?_cons_succ]; rfl) (by kernel_rfl) (by kernel_rfl) (by kernel_rfl) (by intro _ _ _ h; exact h) (Or.inr ⟨by rfl, rfl⟩) (by assumption) ?_
        simp only [Act.put, List.setIfInBounds_toArray, List.set_cons_zero, List.set_cons_succ]
        refine wpAnyH_take (i := 12) (v := undef) (by simp only [List.getElem?_toArray, List.getElem?_cons_zero, List.getElem?_cons_succ]; rfl) (by kernel_rfl) (by kernel_rfl) (by kernel_rfl) (by intro _ _ _ h; exact h) (Or.inr ⟨by rfl, rfl⟩) (by assumption) ?_
        simp only [Act.put, List.setIfInBounds_toArray, List.set_cons_zero, List.set_cons_succ]
        refine wpAnyH_take (i := 13) (v := undef) (by simp only [List.getElem?_toArray, List.getElem?_cons_zero, List.getElem?_cons_succ]; rfl) (by kernel_rfl) (by kernel_rfl) (by kernel_rfl) (by intro _ _ _ h; exact h) (Or.inr ⟨by rfl, rfl⟩) (by assumption) ?_
        simp only [Act.put, List.setIfInBounds_toArray, List.set_cons_zero, List.set_cons_succ]
        refine wpAnyH_take (i := 14) (v := undef) (by simp only [List.getElem?_toArray, List.getElem?_cons_zero, List.getElem?_cons_succ]; rfl) (by kernel_rfl) (by kernel_rfl) (by kernel_rfl) (by intro _ _ _ h; exact h) (Or.inr ⟨by rfl, rfl⟩) (by assumption) ?_
        simp only [Act.put, List.setIfInBounds_toArray, List.set_cons_zero, List.set_cons_succ]
        refine wpAnyH_take (i := 15) (v := undef) (by simp only [List.getElem?_toArray, List.getElem?_cons_zero, List.getElem?_cons_succ]; rfl) (by kernel_rfl) (by kernel_rfl) (by kernel_rfl) (by intro _ _ _ h; exact h) (Or.inr ⟨by rfl, rfl⟩) (by assumption) ?_
        simp only [Act.put, List.setIfInBounds_toArray, List.set_cons_zero, List.set_cons_succ]
        refine wpAnyH_take (i := 16) (v := undef) (by simp only [List.getElem?_toArray, List.getElem?_cons_zero, List.getElem?_cons_succ]; rfl) (by kernel_rfl) (by kernel_rfl) (by kernel_rfl) (by intro _ _ _ h; exact h) (Or.inr ⟨by rfl, rfl⟩) (by assumption) ?_
        simp only [Act.put, List.setIfInBounds_toArray, List.set_cons_zero, List.set_cons_succ]
        refine wpAnyH_take (i := 17) (v := undef) (by simp only [List.getElem?_toArray, List.getElem?_cons_zero, List.getElem?_cons_succ]; rfl) (by kernel_rfl) (by kernel_rfl) (by kernel_rfl) (by intro _ _ _ h; exact h) (Or.inr ⟨by rfl, rfl⟩) (by assumption) ?_
        simp only [Act.put, List.setIfInBounds_toArray, List.set_cons_zero, List.set_cons_succ]
        refine wpAnyH_take (i := 18) (by simp only [List.getElem?_toArray, List.getElem?_cons_zero, List.getElem?_cons_succ]; rfl) (by kernel_rfl) (by kernel_rfl) (by kernel_rfl) (by intro _ _ _ h; exact h) (Or.inl ⟨by rfl, fun w hSw => by (dsimp only at hSw; go_simp; (try with_reducible rfl))⟩) (by assumption) ?_
        simp only [Act.put, List.setIfInBounds_toArray, List.set_cons_zero, List.set_cons_succ]
        refine wpAnyH_done (by kernel_rfl) ?_ _
        go_wp2
        go_ret
        exact ⟨rfl, by first | exact hxr.drew | (rw [hB] at hxr; exact hxr.drew)⟩
    · have hkl : k = nr := by omega
      subst hkl
      have e : b = true := by
        rw [← HB.out]
        have := hall.out
        rw [← HNR.out, List.take_length] at this
        exact this
      subst e
      go_wp2
      go_ret
      exact ⟨rfl, by first | exact hxr | (rw [hB] at hxr; exact hxr)⟩

end Go.Proofs.YtjiaciikbnpicaaGreatDoor
