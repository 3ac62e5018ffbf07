/-
  A part of the proof: Tab5, TabI3, CopyI.
-/
import Derived.Test.YtbjpjhhdnbclbabPart11
import Derived.Test.YtbjpjhhdnbclbabPart7

/-
  The contract of the model's AllNumbers.
-/
namespace Go.Proofs.Ytbjpjhhdnbclbab
open Go.ChangeShapes Go.WideShapes Go.ChangeAt Go.RowKit
attribute [local go_sem ↓] Go.wp_at_zero Go.wp_at_succ
attribute [local simp] World.cell?_alloc_past World.cell?_alloc_at World.frozen?_alloc_at cell_far cell_off cell_here World.frozen?_alloc_past

/-- Are all cells of a column numbers? -/
def allNum (t : TB) (col : Int) : Bool := decide (0 < t.2.2.length) && decide ((censusR t col)[1]? = some (t.2.2.length : Int))
theorem censusR_form (t : TB) (col : Int) : censusR t col = [] ∨ ∃ a b c d, censusR t col = [a, b, c, d] := by
  unfold censusR
  split
  · exact .inr ⟨_, _, _, _, rfl⟩
  · exact .inl rfl

set_option maxRecDepth 100000 in
set_option maxHeartbeats 4000000 in
theorem allnum_spec (ca : Option Addr) (cc : Nat) (ra : Option Addr) (cr : Nat) (t : TB) (nc nr : Nat) (hnc : t.2.1.length = nc) (hnr : t.2.2.length = nr) (w : World) (ht : TabAt w ca cc ra t) (col : Int) (b : Bool) (hb : allNum t col = b) :
    Calls Try.prog 24 #[.agg #[.string t.1, .slice ca nc cc, .slice ra nr cr], .int .i64 col] w fun e w' => e = .returned (.bool b) ∧ Below w.heap.size w w' := by
  obtain ⟨nm, C, L⟩ := t
  dsimp only at hnc hnr ⊢
  have HT : Hid (TabAt w ca cc ra (nm, C, L)) := ht
  have HNC : Hid (C.length = nc) := hnc
  have HNR : Hid (L.length = nr) := hnr
  have hnrM : nr ≤ maxLen := by rw [← hnr]; exact ht.lenR
  unfold maxLen at hnrM
  have hA : Below w.heap.size w (w.alloc (.cells #[.string nm, .slice ca nc cc, .slice ra nr cr] 32)) := (Below.refl _ _).alloc (Nat.le_refl _) _
  have hb' : (decide (0 < nr) && decide ((censusR (nm, C, L) col)[1]? = some (nr : Int))) = b := by rw [← hb, ← hnr]; rfl
  clear ht hnc hnr hb
  rcases censusR_form (nm, C, L) col with hl | ⟨x0, x1, x2, x3, hl⟩
  · have HL : Hid (censusR (nm, C, L) col = []) := hl
    have e : b = false := by rw [← hb', hl]; simp
    subst e
    clear hl hb'
    go_enter Try.func24, Try.ntmps24
    go_wp2_with fail
    refine (census_spec ca cc ra cr (nm, C, L) nc nr HNC.out HNR.out _ (HT.out.below hA) col [] HL.out).mono ?_
    rintro e w1 ⟨g, c, rfl, own1, hb1⟩
    obtain ⟨p0, p1, p2, p3⟩ := box3 hb1
    have hx1 := chainA hb1
    clear hb1 own1
    go_wp2_with fail
    go_quiet (fail)
    go_wp2
    go_ret
    exact ⟨rfl, belowN hx1 _⟩
  · have HL : Hid (censusR (nm, C, L) col = [x0, x1, x2, x3]) := hl
    have hb2 : (decide (0 < nr) && decide (x1 = (nr : Int))) = b := by rw [← hb', hl]; simp
    clear hl hb'
    go_enter Try.func24, Try.ntmps24
    go_wp2_with fail
    refine (census_spec ca cc ra cr (nm, C, L) nc nr HNC.out HNR.out _ (HT.out.below hA) col _ HL.out).mono ?_
    rintro e w1 ⟨g, c, rfl, own1, hb1⟩
    obtain ⟨p0, p1, p2, p3⟩ := box3 hb1
    have hx1 := chainA hb1
    have m1 : w1.cell? ⟨g, 1, none⟩ = some (.int .i64 x1) := (own1.cellAt 1 (by simp)).trans rfl
    have hg := (own1.lt _ rfl).2
    clear hb1 own1
    by_cases hr0 : 0 < nr
    · have hr1 : (0 : Int) < (nr : Int) := by omega
      rw [decide_eq_true hr0, Bool.true_and] at hb2
      by_cases he : x1 = (nr : Int)
      · rw [decide_eq_true he] at hb2
        subst hb2 he
        go_wp2_with fail
        go_quiet (fail)
        go_wp2
        go_ret
        exact ⟨rfl, belowN hx1 _⟩
      · rw [decide_eq_false he] at hb2
        subst hb2
        have he2 : (x1 == (nr : Int)) = false := by rw [beq_eq_false_iff_ne]; exact he
        go_wp2_with fail
        go_quiet (fail)
        go_wp2
        go_ret
        exact ⟨rfl, belowN hx1 _⟩
    · obtain rfl : nr = 0 := by omega
      have e : b = false := by rw [← hb2]; rfl
      subst e
      clear hb2
      go_wp2_with fail
      go_quiet (fail)
      go_wp2
      go_ret
      exact ⟨rfl, belowN hx1 _⟩

end Go.Proofs.Ytbjpjhhdnbclbab

/-
  The contracts of the program's Census and AllNumbers.
-/
namespace Go.Proofs.Ytbjpjhhdnbclbab
open Go.ChangeShapes Go.WideShapes Go.ChangeAt Go.RowKit
attribute [local go_sem ↓] Go.wp_at_zero Go.wp_at_succ
attribute [local simp] World.cell?_alloc_past World.cell?_alloc_at World.frozen?_alloc_at cell_far cell_off cell_here World.frozen?_alloc_past

/-- Is the table right, with such a column? -/
def hasCol (t : TB) (col : Int) : Bool := tableB t && (decide (0 ≤ col) && decide (col < (t.2.1.length : Int)))
theorem censusR_has (t : TB) (col : Int) (h : hasCol t col = true) : censusR t col = cen t.2.2 col.toNat := by
  unfold hasCol at h
  rw [Bool.and_eq_true, Bool.and_eq_true, decide_eq_true_eq, decide_eq_true_eq] at h
  exact if_pos h
theorem censusR_no (t : TB) (col : Int) (h : hasCol t col = false) : censusR t col = [] := by
  refine if_neg fun hh => ?_
  unfold hasCol at h
  rw [hh.1, decide_eq_true hh.2.1, decide_eq_true hh.2.2] at h
  cases h

set_option maxRecDepth 100000 in
set_option maxHeartbeats 2000000 in
theorem hascol_impl (ca : Option Addr) (cc : Nat) (ra : Option Addr) (cr : Nat) (t : TB) (nc nr : Nat) (hnc : t.2.1.length = nc) (hnr : t.2.2.length = nr) (w : World) (ht : TabAt w ca cc ra t) (col : Int) (b : Bool) (hb : hasCol t col = b) :
    Calls Try.prog 41 #[.agg #[.string t.1, .slice ca nc cc, .slice ra nr cr], .int .i64 col] w fun e w' => e = .returned (.bool b) ∧ Below w.heap.size w w' := by
  obtain ⟨nm, C, L⟩ := t
  dsimp only at hnc hnr ⊢
  have HT : Hid (TabAt w ca cc ra (nm, C, L)) := ht
  have HNC : Hid (C.length = nc) := hnc
  have HNR : Hid (L.length = nr) := hnr
  have hncM : nc ≤ maxLen := by rw [← hnc]; exact ht.len
  unfold maxLen at hncM
  obtain ⟨q, hq⟩ : ∃ q, tableB (nm, C, L) = q := ⟨_, rfl⟩
  have HQ : Hid (tableB (nm, C, L) = q) := hq
  have hb' : (q && (decide (0 ≤ col) && decide (col < (nc : Int)))) = b := by rw [← hb, ← hq, ← hnc]; rfl
  have hA : Below w.heap.size w (w.alloc (.cells #[.string nm, .slice ca nc cc, .slice ra nr cr] 32)) := (Below.refl _ _).alloc (Nat.le_refl _) _
  clear ht hb hq hnc hnr
  go_enter Try.func41, Try.ntmps41
  go_wp2_with fail
  refine (table_impl ca cc ra cr (nm, C, L) nc nr HNC.out HNR.out _ (HT.out.below hA) q HQ.out).mono ?_
  rintro e w1 ⟨rfl, hb1⟩
  obtain ⟨p0, p1, p2, p3⟩ := box3 hb1
  have hx1 := chainA hb1
  clear hb1 hA
  cases q
  · rw [Bool.false_and] at hb'
    subst hb'
    go_wp2
    go_ret
    exact ⟨rfl, hx1⟩
  rw [Bool.true_and] at hb'
  by_cases hc0 : 0 ≤ col
  · rw [decide_eq_true hc0, Bool.true_and] at hb'
    by_cases hc1 : col < (nc : Int)
    · rw [decide_eq_true hc1] at hb'
      subst hb'
      go_wp2
      go_ret
      exact ⟨rfl, hx1⟩
    · rw [decide_eq_false hc1] at hb'
      subst hb'
      go_wp2
      go_ret
      exact ⟨ret_bool (decide_eq_false (by omega)), hx1⟩
  · rw [decide_eq_false hc0, Bool.false_and] at hb'
    subst hb'
    go_wp2
    go_ret
    exact ⟨rfl, hx1⟩

theorem infoI64i : (Try.prog.info? 2).map (fun i => (i.zero, i.size, i.bytes)) = some (some (.int .i64 0), 1, 8) := by kernel_rfl

set_option maxRecDepth 100000 in
set_option maxHeartbeats 4000000 in
theorem census_impl (ca : Option Addr) (cc : Nat) (ra : Option Addr) (cr : Nat) (t : TB) (nc nr : Nat) (hnc : t.2.1.length = nc) (hnr : t.2.2.length = nr) (w : World) (ht : TabAt w ca cc ra t) (col : Int) (l : List Int) (hl : censusR t col = l) :
    Calls Try.prog 14 #[.agg #[.string t.1, .slice ca nc cc, .slice ra nr cr], .int .i64 col] w fun e w' => ∃ g c, e = .returned (.slice (some ⟨g, 0, none⟩) l.length c) ∧ w'.ownsRow w.heap.size 2 1 (.slice (some ⟨g, 0, none⟩) l.length c) l.length (intsV l) ∧ Below w.heap.size w w' := by
  obtain ⟨i0, hi, hz0, hz1, hz2⟩ := info_parts infoI64i
  obtain ⟨nm, C, L⟩ := t
  dsimp only at hnc hnr ⊢
  have HT : Hid (TabAt w ca cc ra (nm, C, L)) := ht
  have HNC : Hid (C.length = nc) := hnc
  have HNR : Hid (L.length = nr) := hnr
  have HL : Hid (censusR (nm, C, L) col = l) := hl
  obtain ⟨b, hb⟩ : ∃ b, hasCol (nm, C, L) col = b := ⟨_, rfl⟩
  have HB : Hid (hasCol (nm, C, L) col = b) := hb
  have hA : Below w.heap.size w (w.alloc (.cells #[.string nm, .slice ca nc cc, .slice ra nr cr] 32)) := (Below.refl _ _).alloc (Nat.le_refl _) _
  clear ht hnc hnr hl hb
  cases b
  · have el : l = [] := by rw [← HL.out]; exact censusR_no _ _ HB.out
    subst el
    go_enter Try.func14, Try.ntmps14
    go_wp2_with fail
    refine (hascol_impl ca cc ra cr (nm, C, L) nc nr HNC.out HNR.out _ (HT.out.below hA) col false HB.out).mono ?_
    rintro e w1 ⟨rfl, hb1⟩
    have hx1 := chainA hb1
    have hs1 := hx1.size
    have fin : Hid ((w1.alloc (.cells #[] 2)).ownsRow w.heap.size 2 1 (.slice (some ⟨w1.heap.size, 0, none⟩) 0 0) 0 (intsV [])) :=
      (⟨rfl, .inr ⟨w1.heap.size, 0, #[], rfl, hs1, by show (w1.heap.push _)[w1.heap.size]? = _; simp, Nat.le_refl _, by unfold maxLen; omega, rfl, rfl⟩⟩ : (w1.alloc (.cells #[] 2)).ownsRow w.heap.size 2 1 (.slice (some ⟨w1.heap.size, 0, none⟩) 0 0) 0 (intsV []))
    have hxe : Below w.heap.size w (w1.alloc (.cells #[] 2)) := hx1.alloc hs1 _
    go_wp2
    go_ret
    exact ⟨_, _, rfl, fin.out, hxe⟩
  have el : l = cen L col.toNat := by rw [← HL.out]; exact censusR_has _ _ HB.out
  subst el
  have hh := HB.out
  unfold hasCol at hh
  rw [Bool.and_eq_true, Bool.and_eq_true, decide_eq_true_eq, decide_eq_true_eq] at hh
  obtain ⟨htb, hc0, hc1⟩ := hh
  obtain ⟨c, rfl⟩ := Int.eq_ofNat_of_zero_le hc0
  have hc2 : (c : Int) < (nc : Int) := by rw [← HNC.out]; exact hc1
  clear hc1
  rw [show ((c : Int)).toNat = c from rfl]
  have h60 := table_len htb
  have hrow : Hid (∀ i (hi : i < L.length), L[i].length = C.length ∧ L[i].all okC = true) := fun i hi => table_row htb i hi
  have hnr60 : nr ≤ 60 := by rw [← HNR.out]; exact h60
  clear h60 htb
  go_enter Try.func14, Try.ntmps14
  go_wp2_with fail
  refine (hascol_impl ca cc ra cr (nm, C, L) nc nr HNC.out HNR.out _ (HT.out.below hA) c true HB.out).mono ?_
  rintro e w1 ⟨rfl, hb1⟩
  obtain ⟨p0, p1, p2, p3⟩ := box3 hb1
  have hx1 := chainA hb1
  have H1 : Hid (TabAt w1 ca cc ra (nm, C, L)) := HT.out.below hx1
  have hs1 := hx1.size
  clear hb1 HT hA
  go_wp2_with (at_make; refine wpList_make_full _ rfl _ _ 39 rfl w.heap.size 2 i0 (.int .i64 0) 1 Try.underlying39 hi hz0 hz1 .i64 .i64 _ _ 4 rfl rfl rfl rfl ?b2 ?b3 (by omega) ?_)
  case b2 => rw [hz2]; omega
  case b3 => unfold maxLen; omega
  intro w2 hown hgrow
  have hb2 : Below w1.heap.size w1 w2 := (Below.refl _ _).grown hgrow (Nat.le_refl _) (by intro k h; cases h)
  have hmk : (madeCells #[Value.int .i64 0] 4).toList = intsV (cen (L.take 0) c) := by simp [madeCells, intsV, cen, cntK]; rfl
  rw [hmk] at hown
  have O2 : Hid (w2.ownsRow w.heap.size 2 1 (.slice (some ⟨w1.heap.size, 0, none⟩) 4 4) 4 (intsV (cen (L.take 0) c))) := hown
  obtain ⟨d0, d1, d2, d3⟩ := later3 hb2 ⟨p0, p1, p2, p3⟩
  clear hmk hown hgrow
  go_wp2
  go_loopw [17] (fun kk wr => ∃ k : Nat, k ≤ nr ∧ kk = .int .i64 k ∧ Hid (wr.ownsRow w.heap.size 2 1 (.slice (some ⟨w1.heap.size, 0, none⟩) 4 4) 4 (intsV (cen (L.take k) c))) ∧ Below w1.heap.size w1 wr) (fun kk _ => nr - (intOf kk).toNat)
  case atStart => exact ⟨0, Nat.zero_le _, rfl, O2, hb2⟩
  case round =>
    obtain ⟨k, hk, rfl, OK, hbw⟩ := hrel
    by_cases hlt : k < nr
    · have hlt' : k < L.length := by rw [HNR.out]; exact hlt
      obtain ⟨g, o, ai, ci, rfl, hgw, c0, hrk, _, _, _⟩ := (H1.out.below hbw).rows k hlt'
      have hlen : L[k].length = nc := (hrow.out k hlt').1.trans HNC.out
      have hcl : c < L[k].length := by omega
      obtain ⟨b, o', rfl, hbl, e0, z1, z2⟩ := hrk c hcl
      obtain ⟨q, hq4, hkq, hq⟩ := kind_of (hrow.out k hlt').2 c hcl
      rw [hq] at e0
      rw [hlen] at c0
      have hi0 : (0 : Int) ≤ (k : Int) := by omega
      have hi1 : (k : Int) < (nr : Int) := by omega
      have hst := cen_snoc L k hlt' c q hkq hq4
      have hcnt : cntK (L.take k) c (q : Int) ≤ 60 := by
        have := cntK_le (L.take k) c (q : Int)
        rw [List.length_take] at this
        omega
      have m0 : wr.cell? ⟨w1.heap.size, q, none⟩ = some (.int .i64 (cntK (L.take k) c (q : Int) : Int)) := (OK.out.cellAt q (by omega)).trans (cen_at _ _ q hq4)
      have mf := OK.out.frozenAt q
      have hm := (OK.out.lt _ rfl).2
      generalize cntK (L.take k) c (q : Int) = n at hst hcnt m0
      have hq0 : (0 : Int) ≤ (q : Int) := by omega
      have hq1 : (q : Int) < 4 := by omega
      clear z1 z2 hkq hq hrk hlen hcl
      go_wp2

      go_roundw
      case rel =>
        refine ⟨k + 1, by omega, by go_num, ?_, hbw.setCell (p := ⟨w1.heap.size, q, none⟩) (Nat.le_refl _) _⟩
        have r := OK.out.stored q (.int .i64 ((n : Int) + 1))
        rw [← hst] at r
        exact r.1
      case measure => simp [intOf]; omega
    · have hkl : k = nr := by omega
      subst hkl
      have hnn : ¬ (k : Int) < (k : Int) := by omega
      have fin : Hid (wr.ownsRow w.heap.size 2 1 (.slice (some ⟨w1.heap.size, 0, none⟩) 4 4) 4 (intsV (cen L c))) := by
        have := OK.out
        rw [← HNR.out, List.take_length] at this
        exact this
      clear OK
      go_wp2
      go_ret
      exact ⟨_, _, rfl, fin.out, hx1.trans (hbw.mono hs1)⟩

def isNum (c : Nat) (r : List CT) : Bool := decide (kindAt r c = 1)
theorem allNum_has (t : TB) (c : Nat) (h : hasCol t (c : Int) = true) : allNum t (c : Int) = (decide (0 < t.2.2.length) && t.2.2.all (isNum c)) := by
  unfold allNum
  rw [censusR_has t _ h]
  congr 1
  rw [Bool.eq_iff_iff, decide_eq_true_eq, List.all_eq_true]
  show (some (cntK t.2.2 c 1 : Int) = some (t.2.2.length : Int)) ↔ _
  unfold cntK
  rw [Option.some.injEq, Int.ofNat_inj, List.countP_eq_length]
  exact Iff.rfl
theorem allNum_no (t : TB) (col : Int) (h : hasCol t col = false) : allNum t col = false := by
  unfold allNum
  rw [censusR_no t _ h]
  simp
theorem kind_at {r : List CT} {c : Nat} (h : c < r.length) : kindAt r c = r[c].1 := by unfold kindAt; rw [List.getD_eq_getElem?_getD, List.getElem?_eq_getElem h]; rfl

theorem ent_all1 : ∀ (xs : Array Value) (w : World), (callFunc 54 xs).run Try.prog w = .ok (.enter 54 xs) w := fun xs w => by kernel_rfl

theorem all1_impl (n : Nat) (ai : Option Addr) (ci : Nat) (l : List CT) (hn : l.length = n) (w : World) (hrow : RowAt w ai l) (B c : Nat) (hc : c < n) (hB : w.cell? ⟨B, 0, none⟩ = some (.int .i64 (c : Int))) (b : Bool) (hb : isNum c l = b) :
    Calls Try.prog 54 #[.slice ai n ci, .pointer (some ⟨B, 0, none⟩)] w fun e w' => e = .returned (.bool b) ∧ Below w.heap.size w w' := by
  subst hn
  unfold isNum at hb
  rw [kind_at hc] at hb
  obtain ⟨g, o, rfl, hgw, c0, _, _⟩ := hrow c hc
  have hi0 : (0 : Int) ≤ (c : Int) := by omega
  have hi1 : (c : Int) < (l.length : Int) := by omega
  generalize l[c].1 = x at c0 hb
  have hbe : (x == 1) = b := by
    rw [← hb, Bool.eq_iff_iff, decide_eq_true_eq, beq_iff_eq]
  clear hrow hb
  go_enter Try.func54, Try.ntmps54
  go_wp2
  go_ret
  exact ⟨rfl, Below.refl _ _⟩

set_option maxRecDepth 100000 in
set_option maxHeartbeats 2000000 in
theorem allnum_impl (ca : Option Addr) (cc : Nat) (ra : Option Addr) (cr : Nat) (t : TB) (nc nr : Nat) (hnc : t.2.1.length = nc) (hnr : t.2.2.length = nr) (w : World) (ht : TabAt w ca cc ra t) (col : Int) (b : Bool) (hb : allNum t col = b) :
    Calls Try.prog 23 #[.agg #[.string t.1, .slice ca nc cc, .slice ra nr cr], .int .i64 col] w fun e w' => e = .returned (.bool b) ∧ Below w.heap.size w w' := by
  obtain ⟨nm, C, L⟩ := t
  dsimp only at hnc hnr ⊢
  have HT : Hid (TabAt w ca cc ra (nm, C, L)) := ht
  have HNC : Hid (C.length = nc) := hnc
  have HNR : Hid (L.length = nr) := hnr
  have hnrM : nr ≤ maxLen := by rw [← hnr]; exact ht.lenR
  have hnrm := hnrM
  unfold maxLen at hnrm
  obtain ⟨q, hq⟩ : ∃ q, hasCol (nm, C, L) col = q := ⟨_, rfl⟩
  have HQ : Hid (hasCol (nm, C, L) col = q) := hq
  have HB : Hid (allNum (nm, C, L) col = b) := hb
  obtain ⟨W, hW⟩ : ∃ W, W = ((w.alloc (.cells #[.string nm, .slice ca nc cc, .slice ra nr cr] 32)).alloc (.cells #[.int .i64 col] 2)) := ⟨_, rfl⟩
  have hA : Below w.heap.size w W := by rw [hW]; exact ((Below.refl _ _).alloc (Nat.le_refl _) _).alloc (by simp) _
  clear ht hb hq hnc hnr
  cases q
  · have e : b = false := by rw [← HB.out]; exact allNum_no _ _ HQ.out
    subst e
    go_enter Try.func23, Try.ntmps23
    go_wp2_with fail
    rw [← hW]
    refine (hascol_impl ca cc ra cr (nm, C, L) nc nr HNC.out HNR.out _ (HT.out.below hA) col false HQ.out).mono ?_
    rintro e w1 ⟨rfl, hb1⟩
    have hx1 := chain hA hb1
    clear hb1 hA hW
    go_wp2
    go_ret
    exact ⟨rfl, hx1⟩
  have hh := HQ.out
  unfold hasCol at hh
  rw [Bool.and_eq_true, Bool.and_eq_true, decide_eq_true_eq, decide_eq_true_eq] at hh
  obtain ⟨htb, hc0, hc1⟩ := hh
  obtain ⟨c, rfl⟩ := Int.eq_ofNat_of_zero_le hc0
  have hc2 : c < nc := by have : (c : Int) < (C.length : Int) := hc1; rw [HNC.out] at this; omega
  have hrow : Hid (∀ i (hi : i < L.length), L[i].length = C.length ∧ L[i].all okC = true) := fun i hi => table_row htb i hi
  clear hc1 htb
  have hb2 : (decide (0 < nr) && L.all (isNum c)) = b := by rw [← HB.out, allNum_has _ _ HQ.out, ← HNR.out]
  go_enter Try.func23, Try.ntmps23
  go_wp2_with fail
  rw [← hW]
  refine (hascol_impl ca cc ra cr (nm, C, L) nc nr HNC.out HNR.out _ (HT.out.below hA) c true HQ.out).mono ?_
  rintro e w1 ⟨rfl, hb1⟩
  have hs : W.heap.size = w.heap.size + 1 + 1 := by rw [hW]; simp
  have p0 : w1.cell? ⟨w.heap.size, 0, none⟩ = some (.string nm) := by rw [hb1.cell (p := ⟨w.heap.size, 0, none⟩) (by show w.heap.size < _; omega), hW]; simp
  have p1 : w1.cell? ⟨w.heap.size, 1, none⟩ = some (.slice ca nc cc) := by rw [hb1.cell (p := ⟨w.heap.size, 1, none⟩) (by show w.heap.size < _; omega), hW]; simp
  have p2 : w1.cell? ⟨w.heap.size, 2, none⟩ = some (.slice ra nr cr) := by rw [hb1.cell (p := ⟨w.heap.size, 2, none⟩) (by show w.heap.size < _; omega), hW]; simp
  have q0 : w1.cell? ⟨w.heap.size + 1, 0, none⟩ = some (.int .i64 (c : Int)) := by rw [hb1.cell (p := ⟨w.heap.size + 1, 0, none⟩) (by show w.heap.size + 1 < _; omega), hW]; simp
  have hlt1 : w.heap.size + 1 < w1.heap.size := by have := hb1.size; omega
  have hx1 := chain hA hb1
  have H1 : Hid (TabAt w1 ca cc ra (nm, C, L)) := HT.out.below hx1
  clear hb1 hA hW hs HT
  by_cases hr0 : nr = 0
  · subst hr0
    have e : b = false := by rw [← hb2]; rfl
    subst e
    clear hb2
    go_wp2
    go_ret
    exact ⟨rfl, hx1⟩
  have hr1 : ((nr : Int) == 0) = false := by rw [beq_eq_false_iff_ne]; omega
  have hr2 : ¬ (nr : Int) = 0 := by omega
  rw [decide_eq_true (by omega), Bool.true_and] at hb2
  have HB2 : Hid (L.all (isNum c) = b) := hb2
  clear hb2
  have E : Hid (∀ w', Below w1.heap.size w1 w' → Calls Try.prog 48 #[.agg #[.slice ra nr cr], .func (.func 54) #[] #[.pointer (some ⟨w.heap.size + 1, 0, none⟩)]] w' fun e w'' => e = .returned (.bool b) ∧ Below w'.heap.size w' w'') := by
    have : ∀ w', Below w1.heap.size w1 w' → Calls Try.prog 48 #[.agg #[.slice ra nr cr], .func (.func 54) #[] #[.pointer (some ⟨w.heap.size + 1, 0, none⟩)]] w' fun e w'' => e = .returned (.bool b) ∧ Below w'.heap.size w' w'' := by
      intro w' hw
      refine every_rows 54 ent_all1 ⟨w.heap.size + 1, 0, none⟩ (isNum c) nr ra cr L HNR.out w' (H1.out.rows.below hw) hnrM ?_ b HB2.out
      intro k hk w2 ai ci hw2 hra
      exact all1_impl _ ai ci L[k] rfl w2 hra (w.heap.size + 1) c (by rw [(hrow.out k hk).1, HNC.out]; exact hc2) (by rw [(chain hw hw2).cell (p := ⟨w.heap.size + 1, 0, none⟩) hlt1]; exact q0) _ rfl
    exact this
  go_wp2_with fail
  refine (rowsof_impl _ _ _ _ _ _ _ _).mono ?_
  rintro e w2 ⟨rfl, hb2⟩
  go_wp2_with fail
  refine (E.out _ hb2).mono ?_
  rintro e w3 ⟨rfl, hb3⟩
  go_wp2
  go_ret
  exact ⟨rfl, chain hx1 (chain hb2 hb3)⟩

end Go.Proofs.Ytbjpjhhdnbclbab

/-
  The contracts of the program's helpers that take rows over into new memory, and of the question whether each row has a place.
-/
namespace Go.Proofs.Ytbjpjhhdnbclbab
open Go.ChangeShapes Go.WideShapes Go.ChangeAt Go.RowKit
attribute [local go_sem ↓] Go.wp_at_zero Go.wp_at_succ

theorem infoCellI : (Try.prog.info? 49).map (fun i => (i.zero, i.size, i.bytes)) = some (some (.agg #[.int .i64 0, .int .i64 0, .string ⟨#[]⟩]), 3, 32) := by kernel_rfl
theorem infoRowI : (Try.prog.info? 29).map (fun i => (i.zero, i.size, i.bytes)) = some (some (.slice none 0 0), 1, 24) := by kernel_rfl

set_option maxRecDepth 100000 in
set_option maxHeartbeats 1000000 in
theorem copied_row (a : Option Addr) (cap : Nat) (l : List CT) (w : World) (hrow : RowAt w a l) (hnil : a = none → cap = 0) (hm : l.length ≤ 1048576) :
    Calls Try.prog 29 #[.slice a l.length cap] w fun e w' => ∃ g c, e = .returned (.slice (some ⟨g, 0, none⟩) l.length c) ∧ w.heap.size ≤ g ∧
      w'.ownsRow w.heap.size 49 3 (.slice (some ⟨g, 0, none⟩) l.length c) l.length (flat l) ∧ Below w.heap.size w w' := by
  obtain ⟨i0, hi, hz0, hz1, hz2⟩ := info_parts infoCellI
  have hR : Hid (RowAt w a l) := hrow
  clear hrow
  cases a with
  | none =>
    have hl : l = [] := by
      cases l with
      | nil => rfl
      | cons x l => obtain ⟨b, o, e, _⟩ := hR.out 0 (by simp); cases e
    subst hl
    have hc := hnil rfl
    subst hc
    go_enter Try.func29, Try.ntmps29
    go_wp2_with (at_make; refine wpList_make_own _ rfl _ _ 29 rfl w.heap.size 49 i0 (.agg #[.int .i64 0, .int .i64 0, .string ⟨#[]⟩]) 3 Try.underlying29 hi hz0 hz1 .i64 .i64 _ 0 rfl rfl rfl (by rw [hz2]; omega) (by unfold maxLen; omega) (Nat.le_refl _) ?_)
    intro w1 hown hgrow
    have hx : Below w.heap.size w w1 := (Below.refl _ _).grown hgrow (Nat.le_refl _) (by intro k h; cases h)
    have hO : Hid (w1.ownsRow w.heap.size 49 3 (.slice (some ⟨w.heap.size, 0, none⟩) 0 0) 0 []) := hown
    clear hown
    go_wp2_with (at_builtin; refine wpList_append_own_none rfl _ _ 29 rfl w.heap.size 49 i0 3 Try.underlying29 hi (.slice (some ⟨w.heap.size, 0, none⟩) 0 0) 0 [] rfl hO.out rfl ?_)
    go_wp2
    go_ret
    exact ⟨w.heap.size, 0, rfl, Nat.le_refl _, hO.out, hx⟩
  | some ad =>
    go_enter Try.func29, Try.ntmps29
    go_wp2_with (at_make; refine wpList_make_own _ rfl _ _ 29 rfl w.heap.size 49 i0 (.agg #[.int .i64 0, .int .i64 0, .string ⟨#[]⟩]) 3 Try.underlying29 hi hz0 hz1 .i64 .i64 _ l.length rfl rfl rfl (by rw [hz2]; omega) (by unfold maxLen; omega) (Nat.le_refl _) ?_)
    intro w1 hown hgrow
    have hb0 : Below w.heap.size w w1 := (Below.refl _ _).grown hgrow (Nat.le_refl _) (by intro k h; cases h)
    have hO : Hid (w1.ownsRow w.heap.size 49 3 (.slice (some ⟨w.heap.size, 0, none⟩) 0 l.length) 0 []) := hown
    clear hown hgrow
    go_wp2_with (at_builtin; refine wpList_append_own _ rfl _ _ 29 rfl w.heap.size 49 i0 (.agg #[.int .i64 0, .int .i64 0, .string ⟨#[]⟩]) 3 32 Try.underlying29 hi hz0 hz1 hz2 rfl (by decide) (.slice (some ⟨w.heap.size, 0, none⟩) 0 l.length) 0 [] rfl hO.out ad l.length cap (flat l) rfl (flat_length l) ?c1 (flat_one l) ?c3 ?c4 ?c5 ?_)
    case c1 => intro j u hj; exact flat_cells (hR.out.below hb0) j u hj
    case c3 => unfold maxLen; omega
    case c4 => omega
    case c5 => exact hb0.size
    intro v' w2 hown hgrow hnn
    have hx : Below w.heap.size w w2 := hb0.grown hgrow hb0.size (by intro k hk; simp [Value.ownBlock] at hk; omega)
    rcases hown.2 with ⟨h', _⟩ | ⟨g, c, cur, h', hbg, hr⟩
    · exact absurd h' hnn
    · subst h'
      go_wp2
      go_ret
      exact ⟨g, c, rfl, hbg, hown, hx⟩

set_option maxRecDepth 100000 in
set_option maxHeartbeats 2000000 in
theorem copied_rows (a : Option Addr) (cap : Nat) (L : List (List CT)) (w : World) (hrow : RowsAt w a L) (hm : L.length ≤ 1048576) (hms : ∀ i (h : i < L.length), L[i].length ≤ 1048576) :
    Calls Try.prog 64 #[.slice a L.length cap] w fun e w' => ∃ v G C, e = .returned v ∧ OwnRows w' w.heap.size v L G C ∧ Below w.heap.size w w' ∧ v ≠ .slice none 0 0 := by
  obtain ⟨i0, hi, hz0, hz1, hz2⟩ := info_parts infoRowI
  have hR : Hid (RowsAt w a L) := hrow
  have hMS : Hid (∀ i (h : i < L.length), L[i].length ≤ 1048576) := hms
  clear hrow hms
  go_enter Try.func64, Try.ntmps64
  go_wp2_with (at_make; refine wpList_make_own _ rfl _ _ 24 rfl w.heap.size 29 i0 (.slice none 0 0) 1 Try.underlying24 hi hz0 hz1 .i64 .i64 _ L.length rfl rfl rfl (by rw [hz2]; omega) (by unfold maxLen; omega) (Nat.le_refl _) ?_)
  intro w0 hown0 hgrow0
  have hb0 : Below w.heap.size w w0 := (Below.refl _ _).grown hgrow0 (Nat.le_refl _) (by intro k h; cases h)
  have own0 : Hid (∃ G C, OwnRows w0 w.heap.size (.slice (some ⟨w.heap.size, 0, none⟩) 0 L.length) (L.take 0) G C) := by
    refine ⟨fun _ => 0, fun _ => 0, hown0, ?_, ?_⟩
    · intro i hi; simp at hi
    · intro i j hi; simp at hi
  clear hown0 hgrow0
  go_wp2
  go_loopw [3, 11] (fun v i wr => ∃ m : Nat, m ≤ L.length ∧ i = .int .i64 m ∧ Hid (∃ G C, OwnRows wr w.heap.size v (L.take m) G C) ∧ Below w.heap.size w wr ∧ v ≠ .slice none 0 0)
    (fun _ i _ => L.length - (intOf i).toNat)
  case atStart => exact ⟨0, Nat.zero_le _, rfl, own0, hb0, by simp⟩
  case round =>
    obtain ⟨m, hmL, rfl, hO, hb, hvn⟩ := hrel
    by_cases hlt : m < L.length
    · obtain ⟨b, o, ai, ci, ha, hbw, c0, hra, _, _, hnil⟩ := hR.out.below hb m hlt
      have hi0 : (0 : Int) ≤ (m : Int) := by omega
      have hi1 : (m : Int) < (L.length : Int) := by omega
      have hRA : Hid (RowAt wr ai L[m]) := hra
      have hml := hMS.out m hlt
      have htk := List.take_succ_eq_append_getElem hlt
      clear hra
      generalize L[m] = x at c0 hRA hml htk
      subst ha
      obtain ⟨G, C, O⟩ := hO.out
      have hlen : (L.take m).length = m := by rw [List.length_take]; omega
      have hOO : Hid (OwnRows wr w.heap.size _ (L.take m) G C) := O
      clear O hO
      go_wp2_with fail
      refine (copied_row _ _ _ _ hRA.out hnil hml).mono ?_
      rintro e w1 ⟨g, c, rfl, hg, own, hb1⟩
      have O1 := hOO.out.below hb1
      have hx := chain hb hb1
      go_wp2_with (at_builtin; refine wpList_append_own _ rfl _ _ 24 rfl w.heap.size 29 i0 (.slice none 0 0) 1 24 Try.underlying24 hi hz0 hz1 hz2 rfl (by decide) _ _ _ rfl (O1.outer.alloc _) ⟨w1.heap.size, 0, none⟩ 1 1 [.slice (some ⟨g, 0, none⟩) x.length c] rfl rfl ?c1 ?c2 ?c3 ?c4 ?c5 ?_)
      case c1 =>
        intro j u hj
        match j, hj with
        | 0, hj => simp at hj; subst hj; simp [Addr.add]
      case c2 => intro u hu; simp at hu; subst hu; rfl
      case c3 => rw [hlen]; unfold maxLen; omega
      case c4 => rw [hlen]; omega
      case c5 => have := hx.size; simp; omega
      intro v' w2 own2 hgrow hnn
      have S := hOO.out.step hb1 hg (own_base own hb.size) (by rw [hlen]; exact own2) hgrow
      rw [← htk] at S
      have hx2 : Below w.heap.size w w2 := by
        refine (hx.alloc hx.size _).grown hgrow (by have := hx.size; simp; omega) ?_
        intro k hk
        rcases O1.outer.2 with ⟨h, _⟩ | ⟨g', c', cur, h, hbg, _⟩
        · rw [h] at hk; simp [Value.ownBlock] at hk
        · rw [h] at hk; simp [Value.ownBlock] at hk; omega
      have hvn2 : v' ≠ .slice none 0 0 := by first | exact hnn | exact fun e => hvn (hnn.1 e).1
      have SS : Hid (∃ G C, OwnRows w2 w.heap.size v' (L.take (m + 1)) G C) := S
      clear S own2 hgrow hnn own O1 hOO
      go_wp2
      go_roundw
      case rel => exact ⟨m + 1, by omega, by go_num, SS, hx2, hvn2⟩
      case measure => simp [intOf]; omega
    · have hkl : m = L.length := by omega
      subst hkl
      rw [List.take_length] at hO
      go_wp2
      go_ret
      obtain ⟨G, C, O⟩ := hO.out
      exact ⟨_, G, C, rfl, O, hb, hvn⟩

end Go.Proofs.Ytbjpjhhdnbclbab
