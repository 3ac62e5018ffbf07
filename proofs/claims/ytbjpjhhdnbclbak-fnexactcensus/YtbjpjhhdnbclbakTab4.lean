/-
  The contract of the model's Census: how many cells of a column are of each kind.
-/
import Derived.Test.YtbjpjhhdnbclbakTab2
namespace Go.Proofs.Ytbjpjhhdnbclbak
open Go.ChangeShapes Go.WideShapes Go.ChangeAt Go.RowKit
attribute [local go_sem ↓] Go.wp_at_zero Go.wp_at_succ
attribute [local simp] World.cell?_alloc_past World.cell?_alloc_at World.frozen?_alloc_at cell_far cell_off cell_here World.frozen?_alloc_past

/-- The kind of a row's cell in column c. -/
def kindAt (r : List CT) (c : Nat) : Int := (r.getD c (0, 0, ⟨#[]⟩)).1
def cntK (L : List (List CT)) (c : Nat) (q : Int) : Nat := L.countP fun r => decide (kindAt r c = q)
/-- How many of each kind. -/
def cen (L : List (List CT)) (c : Nat) : List Int := [(cntK L c 0 : Int), (cntK L c 1 : Int), (cntK L c 2 : Int), (cntK L c 3 : Int)]
def intsV (l : List Int) : List Value := l.map (Value.int .i64)
def censusR (t : TB) (col : Int) : List Int := if tableB t = true ∧ 0 ≤ col ∧ col < (t.2.1.length : Int) then cen t.2.2 col.toNat else []
theorem cntK_snoc (L : List (List CT)) (k : Nat) (h : k < L.length) (c : Nat) (q : Int) : cntK (L.take (k + 1)) c q = cntK (L.take k) c q + if kindAt L[k] c = q then 1 else 0 := by
  unfold cntK
  rw [List.take_succ_eq_append_getElem h, List.countP_append, List.countP_cons, List.countP_nil]
  simp
theorem cen_snoc (L : List (List CT)) (k : Nat) (h : k < L.length) (c : Nat) (q : Nat) (hq : kindAt L[k] c = (q : Int)) (h4 : q < 4) : intsV (cen (L.take (k + 1)) c) = (intsV (cen (L.take k) c)).set q (.int .i64 ((cntK (L.take k) c q : Int) + 1)) := by
  unfold cen
  rw [cntK_snoc L k h, cntK_snoc L k h, cntK_snoc L k h, cntK_snoc L k h, hq]
  rcases (by omega : q = 0 ∨ q = 1 ∨ q = 2 ∨ q = 3) with rfl | rfl | rfl | rfl <;> simp [intsV]
theorem cntK_le (L : List (List CT)) (c : Nat) (q : Int) : cntK L c q ≤ L.length := List.countP_le_length
theorem cen_at (L : List (List CT)) (c : Nat) (q : Nat) (h4 : q < 4) : (intsV (cen L c))[q]? = some (.int .i64 (cntK L c q : Int)) := by
  rcases (by omega : q = 0 ∨ q = 1 ∨ q = 2 ∨ q = 3) with rfl | rfl | rfl | rfl <;> rfl
theorem table_row {t : TB} (h : tableB t = true) (i : Nat) (hi : i < t.2.2.length) : t.2.2[i].length = t.2.1.length ∧ t.2.2[i].all okC = true := by
  unfold tableB at h
  rw [Bool.and_eq_true, List.all_eq_true] at h
  have := h.2 _ (List.getElem_mem hi)
  unfold rowOk at this
  rw [Bool.and_eq_true, decide_eq_true_eq] at this
  exact this
theorem table_len {t : TB} (h : tableB t = true) : t.2.2.length ≤ 60 := by
  unfold tableB at h
  rw [Bool.and_eq_true, Bool.and_eq_true, Bool.and_eq_true, decide_eq_true_eq] at h
  exact h.1.2.2
theorem kind_of {r : List CT} (h : r.all okC = true) (c : Nat) (hc : c < r.length) : ∃ q : Nat, q < 4 ∧ kindAt r c = (q : Int) ∧ r[c].1 = (q : Int) := by
  have := List.all_eq_true.1 h _ (List.getElem_mem hc)
  have hk := okB_kind this
  have e : kindAt r c = r[c].1 := by unfold kindAt; rw [List.getD_eq_getElem?_getD, List.getElem?_eq_getElem hc]; rfl
  rcases hk with h | h | h | h
  · exact ⟨0, by omega, by rw [e, h]; rfl, by rw [h]; rfl⟩
  · exact ⟨1, by omega, by rw [e, h]; rfl, by rw [h]; rfl⟩
  · exact ⟨2, by omega, by rw [e, h]; rfl, by rw [h]; rfl⟩
  · exact ⟨3, by omega, by rw [e, h]; rfl, by rw [h]; rfl⟩

theorem infoI64 : (Try.prog.info? 2).map (fun i => (i.zero, i.size, i.bytes)) = some (some (.int .i64 0), 1, 8) := by kernel_rfl

set_option maxRecDepth 100000 in
set_option maxHeartbeats 4000000 in
theorem census_spec (ca : Option Addr) (cc : Nat) (ra : Option Addr) (cr : Nat) (t : TB) (nc nr : Nat) (hnc : t.2.1.length = nc) (hnr : t.2.2.length = nr) (w : World) (ht : TabAt w ca cc ra t) (col : Int) (l : List Int) (hl : censusR t col = l) :
    Calls Try.prog 6 #[.agg #[.string t.1, .slice ca nc cc, .slice ra nr cr], .int .i64 col] w fun e w' => ∃ g c, e = .returned (.slice (some ⟨g, 0, none⟩) l.length c) ∧ w'.ownsRow w.heap.size 2 1 (.slice (some ⟨g, 0, none⟩) l.length c) l.length (intsV l) ∧ Below w.heap.size w w' := by
  obtain ⟨i0, hi, hz0, hz1, hz2⟩ := info_parts infoI64
  obtain ⟨nm, C, L⟩ := t
  dsimp only at hnc hnr ⊢
  have HT : Hid (TabAt w ca cc ra (nm, C, L)) := ht
  have HNC : Hid (C.length = nc) := hnc
  have HNR : Hid (L.length = nr) := hnr
  have HL : Hid (censusR (nm, C, L) col = l) := hl
  obtain ⟨b, hb⟩ : ∃ b, tableB (nm, C, L) = b := ⟨_, rfl⟩
  have HB : Hid (tableB (nm, C, L) = b) := hb
  have hA : Below w.heap.size w (w.alloc (.cells #[.string nm, .slice ca nc cc, .slice ra nr cr] 31)) := (Below.refl _ _).alloc (Nat.le_refl _) _
  have hncM : nc ≤ maxLen := by rw [← hnc]; exact ht.len
  unfold maxLen at hncM
  clear ht hnc hnr hl hb
  go_enter Try.func6, Try.ntmps6
  go_wp2_with fail
  refine (table_spec ca cc ra cr (nm, C, L) nc nr HNC.out HNR.out _ (HT.out.below hA) b HB.out).mono ?_
  rintro e w1 ⟨rfl, hb1⟩
  obtain ⟨p0, p1, p2, p3⟩ := box3 hb1
  have hx1 := chainA hb1
  have H1 : Hid (TabAt w1 ca cc ra (nm, C, L)) := HT.out.below hx1
  have hs1 := hx1.size
  clear hb1 HT hA
  by_cases hok : b = true ∧ 0 ≤ col ∧ col < (nc : Int)
  · obtain ⟨rfl, hc0, hc1⟩ := hok
    obtain ⟨c, rfl⟩ := Int.eq_ofNat_of_zero_le hc0
    have el : l = cen L c := by
      rw [← HL.out]; unfold censusR
      rw [if_pos ⟨HB.out, hc0, by show (c : Int) < (C.length : Int); rw [HNC.out]; exact hc1⟩]; rfl
    subst el
    have h60 := table_len HB.out
    have hrow : Hid (∀ i (hi : i < L.length), L[i].length = C.length ∧ L[i].all okC = true) := fun i hi => table_row HB.out i hi
    have hnr60 : nr ≤ 60 := by rw [← HNR.out]; exact h60
    clear h60
    have hge : ¬ ((nc : Int) ≤ (c : Int)) := by omega
    have hlt0 : ¬ ((c : Int) < 0) := by omega
    go_wp2_with (at_make; refine wpList_make_full _ rfl _ _ 27 rfl w.heap.size 2 i0 (.int .i64 0) 1 Try.underlying27 hi hz0 hz1 .i64 .i64 _ _ 4 rfl rfl rfl rfl ?b2 ?b3 (by omega) ?_)
    case b2 => rw [hz2]; omega
    case b3 => unfold maxLen; omega
    intro w2 hown hgrow
    have hb2 : Below w1.heap.size w1 w2 := (Below.refl _ _).grown hgrow (Nat.le_refl _) (by intro k h; cases h)
    have hmk : (madeCells #[Value.int .i64 0] 4).toList = intsV (cen (L.take 0) c) := by simp [madeCells, intsV, cen, cntK]; rfl
    rw [hmk] at hown
    have O2 : Hid (w2.ownsRow w.heap.size 2 1 (.slice (some ⟨w1.heap.size, 0, none⟩) 4 4) 4 (intsV (cen (L.take 0) c))) := hown
    clear hmk hown hgrow
    go_wp2
    go_loopw [6] (fun kk wr => ∃ k : Nat, k ≤ nr ∧ kk = .int .i64 k ∧ Hid (wr.ownsRow w.heap.size 2 1 (.slice (some ⟨w1.heap.size, 0, none⟩) 4 4) 4 (intsV (cen (L.take k) c))) ∧ Below w1.heap.size w1 wr) (fun kk _ => nr - (intOf kk).toNat)
    case atStart => exact ⟨0, Nat.zero_le _, rfl, O2, hb2⟩
    case round =>
      obtain ⟨k, hk, rfl, OK, hbw⟩ := hrel
      obtain ⟨d0, d1, d2, d3⟩ := later3 hbw ⟨p0, p1, p2, p3⟩
      by_cases hlt : k < nr
      · have hlt' : k < L.length := by rw [HNR.out]; exact hlt
        obtain ⟨g, o, ai, ci, rfl, hgw, c0, hrk, _, _, _⟩ := (H1.out.below hbw).rows k hlt'
        have hlen : L[k].length = nc := (hrow.out k hlt').1.trans HNC.out
        have hcl : c < L[k].length := by omega
        obtain ⟨b, o', rfl, hbl, e0, z1, z2⟩ := hrk c hcl
        obtain ⟨q, hq4, hkq, hq⟩ := kind_of (hrow.out k hlt').2 c hcl
        rw [hq] at e0
        rw [hlen] at c0
        have hi0 : (0 : Int) ≤ (k : Int) := by omega
        have hi1 : (k : Int) < (nr : Int) := by omega
        have hst := cen_snoc L k hlt' c q hkq hq4
        have hcnt : cntK (L.take k) c (q : Int) ≤ 60 := by
          have := cntK_le (L.take k) c (q : Int)
          rw [List.length_take] at this
          omega
        have m0 : wr.cell? ⟨w1.heap.size, q, none⟩ = some (.int .i64 (cntK (L.take k) c (q : Int) : Int)) := (OK.out.cellAt q (by omega)).trans (cen_at _ _ q hq4)
        have mf := OK.out.frozenAt q
        have hm := (OK.out.lt _ rfl).2
        generalize cntK (L.take k) c (q : Int) = n at hst hcnt m0
        have hq0 : (0 : Int) ≤ (q : Int) := by omega
        have hq1 : (q : Int) < 4 := by omega
        clear z1 z2 hkq hq hrk hlen hcl
        go_wp2
        go_roundw
        case rel =>
          refine ⟨k + 1, by omega, by go_num, ?_, hbw.setCell (p := ⟨w1.heap.size, q, none⟩) (Nat.le_refl _) _⟩
          have r := OK.out.stored q (.int .i64 ((n : Int) + 1))
          rw [← hst] at r
          exact r.1
        case measure => simp [intOf]; omega
      · have hkl : k = nr := by omega
        subst hkl
        have fin : Hid (wr.ownsRow w.heap.size 2 1 (.slice (some ⟨w1.heap.size, 0, none⟩) 4 4) 4 (intsV (cen L c))) := by
          have := OK.out
          rw [← HNR.out, List.take_length] at this
          exact this
        clear OK
        go_wp2
        go_ret
        exact ⟨_, _, rfl, fin.out, hx1.trans (hbw.mono hs1)⟩
  · have el : l = [] := by
      rw [← HL.out]; unfold censusR
      rw [if_neg (fun h => hok ⟨HB.out.symm.trans h.1, h.2.1, by have := h.2.2; rw [show (nm, C, L).2.1.length = nc from HNC.out] at this; exact this⟩)]
    subst el
    have fin : Hid ((w1.alloc (.cells #[] 2)).ownsRow w.heap.size 2 1 (.slice (some ⟨w1.heap.size, 0, none⟩) 0 0) 0 (intsV [])) :=
      (⟨rfl, .inr ⟨w1.heap.size, 0, #[], rfl, hs1, by show (w1.heap.push _)[w1.heap.size]? = _; simp, Nat.le_refl _, by unfold maxLen; omega, rfl, rfl⟩⟩ : (w1.alloc (.cells #[] 2)).ownsRow w.heap.size 2 1 (.slice (some ⟨w1.heap.size, 0, none⟩) 0 0) 0 (intsV []))
    have hxe : Below w.heap.size w (w1.alloc (.cells #[] 2)) := hx1.alloc hs1 _
    cases b
    · go_wp2
      go_ret
      exact ⟨_, _, rfl, fin.out, hxe⟩
    · by_cases hc0 : col < 0
      · go_wp2
        go_ret
        exact ⟨_, _, rfl, fin.out, hxe⟩
      · have hc1 : (nc : Int) ≤ col := by
          by_cases h : (nc : Int) ≤ col
          · exact h
          · exact absurd ⟨rfl, by omega, by omega⟩ hok
        clear hok
        go_wp2
        go_ret
        exact ⟨_, _, rfl, fin.out, hxe⟩

end Go.Proofs.Ytbjpjhhdnbclbak
