/-
  A part of the proof: TabWalk.
-/
import Derived.Test.YtbjpjhhdnbclbabPart10
import Derived.Test.YtbjpjhhdnbclbabPart11
import Derived.Test.YtbjpjhhdnbclbabPart12
import Derived.Test.YtbjpjhhdnbclbabPart13
import Derived.Test.YtbjpjhhdnbclbabPart14
import Derived.Deep.DeepCutAuto

/-
  The walk of the law FnTables.
-/
namespace Go.Proofs.Ytbjpjhhdnbclbab
open Go.ChangeShapes Go.WideShapes Go.ChangeAt Go.RowKit
attribute [local go_sem ↓] Go.wp_at_zero Go.wp_at_succ
attribute [local simp] World.cell?_alloc_past World.cell?_alloc_at World.frozen?_alloc_at cell_far cell_off cell_here World.frozen?_alloc_past

theorem at_get {l : List ByteArray} {s : ByteArray} {r : Int} (h : AtIs l s r) {j : Nat} (hj : r = (j : Int)) (hl : j < l.length) : l[j] = s := by
  rcases h with ⟨e, _⟩ | ⟨k, hk, e, h1, _⟩
  · omega
  · have : k = j := by omega
    subst this; exact h1
theorem cnt_sum (L : List (List CT)) (c : Nat) (h : ∀ i (hi : i < L.length), ∃ q : Nat, q < 4 ∧ kindAt L[i] c = (q : Int)) : cntK L c 0 + cntK L c 1 + cntK L c 2 + cntK L c 3 = L.length := by
  induction L with
  | nil => rfl
  | cons r L ih =>
    have h1 := ih (fun i hi => h (i + 1) (by simp; omega))
    obtain ⟨q, hq, e⟩ := h 0 (by simp)
    simp only [List.getElem_cons_zero] at e
    unfold cntK at h1 ⊢
    simp only [List.countP_cons, List.length_cons, e]
    rcases (by omega : q = 0 ∨ q = 1 ∨ q = 2 ∨ q = 3) with rfl | rfl | rfl | rfl <;> simp <;> omega
theorem census_sum (t : TB) (col : Int) (h4 : (censusR t col).length = 4) (h62 : t.2.2.length ≤ 62) : ∃ x0 x1 x2 x3 : Int, censusR t col = [x0, x1, x2, x3] ∧ x0 + x1 + x2 + x3 = (t.2.2.length : Int) ∧ 0 ≤ x0 ∧ 0 ≤ x1 ∧ 0 ≤ x2 ∧ 0 ≤ x3 ∧ x0 ≤ 62 ∧ x1 ≤ 62 ∧ x2 ≤ 62 ∧ x3 ≤ 62 := by
  cases hb : hasCol t col
  · rw [censusR_no t col hb] at h4; simp at h4
  · have hh := hb
    unfold hasCol at hh
    rw [Bool.and_eq_true, Bool.and_eq_true, decide_eq_true_eq, decide_eq_true_eq] at hh
    obtain ⟨htb, hc0, hc1⟩ := hh
    obtain ⟨c, rfl⟩ := Int.eq_ofNat_of_zero_le hc0
    have hs := cnt_sum t.2.2 c (fun i hi => by
      obtain ⟨q, h1, h2, _⟩ := kind_of (table_row htb i hi).2 c (by rw [(table_row htb i hi).1]; omega)
      exact ⟨q, h1, h2⟩)
    refine ⟨cntK t.2.2 c 0, cntK t.2.2 c 1, cntK t.2.2 c 2, cntK t.2.2 c 3, censusR_has t _ hb, ?_, ?_⟩
    · omega
    · omega

namespace tabLaw

set_option maxRecDepth 100000 in
set_option maxHeartbeats 8000000 in
theorem walk {w : World} {a : Option Addr} {len cap : Nat} (row : Code0 w a len) :
    Calls Try.prog 4 #[.slice a len cap] w fun e w' => e = .returned (.bool true) ∧ Below w.heap.size w w' := by
  by_cases hl : 4096 < (len : Int)
  · go_enter Try.func4, Try.ntmps4
    go_wp2_with fail
    refine (big_laws a len cap w).mono ?_
    rintro e w1 ⟨rfl, rfl⟩
    rw [decide_eq_true hl]
    go_wp2
    go_ret
    exact ⟨rfl, Below.refl _ _⟩
  have hlen : len ≤ 4096 := by omega
  have HR : Hid (Code0 w a len) := row
  clear row
  go_enter Try.func4, Try.ntmps4
  go_wp2_with fail
  refine (big_laws a len cap w).mono ?_
  rintro e w0 ⟨rfl, rfl⟩
  rw [decide_eq_false (by omega : ¬ (4096 : Int) < (len : Int))]
  go_wp2_with fail
  refine (put_draw hlen HR.out).mono ?_
  rintro e w1 ⟨t, nc, nr, ca, cc, ra, cr, v, rfl, hnc, hnr, hD, ⟨g, k, r, rfl, hRr, hFr, hrl⟩, hx⟩
  have D1 : Hid (DTab w1 ca cc ra cr t) := hD
  have R1 : Hid (RowAt w1 (some ⟨g, 0, none⟩) r) := hRr
  have FR : Hid (Fit r) := hFr
  have HNC : Hid (t.2.1.length = nc) := hnc
  have HNR : Hid (t.2.2.length = nr) := hnr
  obtain ⟨n, hn⟩ : ∃ n, r.length = n := ⟨_, rfl⟩
  have HN : Hid (r.length = n) := hn
  rw [hn] at hrl ⊢
  obtain ⟨T, b, hTb⟩ : ∃ T b, putR t r = (T, b) := ⟨_, _, rfl⟩
  have HP : Hid (putR t r = (T, b)) := hTb
  obtain ⟨mc, hmc⟩ : ∃ m, T.2.1.length = m := ⟨_, rfl⟩
  obtain ⟨mr, hmr⟩ : ∃ m, T.2.2.length = m := ⟨_, rfl⟩
  have HMC : Hid (T.2.1.length = mc) := hmc
  have HMR : Hid (T.2.2.length = mr) := hmr
  have hnc5 : nc ≤ 5 := by have := hD.cl; omega
  have hnr62 : nr ≤ 62 := by have := hD.rl; omega
  clear hD hRr hFr hnc hnr hn hTb
  go_wp2_with fail
  obtain ⟨V1, hV1⟩ : ∃ V, V = (w1.alloc (.cells #[.string t.1, .slice ca nc cc, .slice ra nr cr] 32)) := ⟨_, rfl⟩
  rw [← hV1]
  have hAV1 : Below w1.heap.size w1 V1 := by rw [hV1]; exact (Below.refl _ _).alloc (Nat.le_refl _) _
  have bT1 : Hid (Box V1 w1.heap.size (.string t.1) (.slice ca nc cc) (.slice ra nr cr)) := by
    have : Box V1 w1.heap.size (.string t.1) (.slice ca nc cc) (.slice ra nr cr) := by subst hV1; exact box3 (Below.refl _ _)
    exact this
  have DT1 : Hid (DTab V1 ca cc ra cr t) := D1.out.below hAV1
  have RT1 : Hid (RowAt V1 (some ⟨g, 0, none⟩) r) := R1.out.below hAV1
  replace hx := chain hx hAV1
  clear hV1 hAV1 D1 R1
  refine (put_impl ca cc ra cr t nc nr HNC.out HNR.out _ _ r n HN.out _ DT1.out.tab DT1.out.nilR RT1.out FR.out (fun e => by cases e) (by omega) T b HP.out).mono ?_
  rintro e w2 ⟨caX, ccX, raX, crX, AX, CX, rfl, OXo, hb2, hcapX⟩
  rw [hmr] at hcapX
  rw [hmc, hmr]
  have bT2 : Hid (Box w2 w1.heap.size (.string t.1) (.slice ca nc cc) (.slice ra nr cr)) := bT1.out.below hb2
  have DT2 : Hid (DTab w2 ca cc ra cr t) := DT1.out.below hb2
  have RT2 : Hid (RowAt w2 (some ⟨g, 0, none⟩) r) := RT1.out.below hb2
  clear bT1 DT1 RT1
  have OXa : Hid (TabAt w2 caX ccX raX T) := OXo.tab
  replace hx := chain hx hb2
  clear hb2 OXo
  go_wp2_with fail
  obtain ⟨V2, hV2⟩ : ∃ V, V = (w2.alloc (.cells #[.string T.1, .slice caX mc ccX, .slice raX mr crX] 32)) := ⟨_, rfl⟩
  rw [← hV2]
  have hAV2 : Below w2.heap.size w2 V2 := by rw [hV2]; exact (Below.refl _ _).alloc (Nat.le_refl _) _
  have bX3 : Hid (Box V2 w2.heap.size (.string T.1) (.slice caX mc ccX) (.slice raX mr crX)) := by
    have : Box V2 w2.heap.size (.string T.1) (.slice caX mc ccX) (.slice raX mr crX) := by subst hV2; exact box3 (Below.refl _ _)
    exact this
  have OX3 : Hid (TabAt V2 caX ccX raX T) := OXa.out.below hAV2
  have bT3 : Hid (Box V2 w1.heap.size (.string t.1) (.slice ca nc cc) (.slice ra nr cr)) := bT2.out.below hAV2
  have DT3 : Hid (DTab V2 ca cc ra cr t) := DT2.out.below hAV2
  have RT3 : Hid (RowAt V2 (some ⟨g, 0, none⟩) r) := RT2.out.below hAV2
  clear bT2 DT2 RT2
  replace hx := chain hx hAV2
  clear hV2 hAV2 OXa
  refine (census_draw hlen (HR.out.below hx)).mono ?_
  rintro e w3 ⟨Q, qc, qr, caQ, ccQ, raQ, crQ, v, rfl, hqc, hqr, hD, ⟨kq, rfl⟩, hb3⟩
  have DQa : Hid (DTab w3 caQ ccQ raQ crQ Q) := hD
  have HQC : Hid (Q.2.1.length = qc) := hqc
  have HQR : Hid (Q.2.2.length = qr) := hqr
  have hqr62 : qr ≤ 62 := by have := hD.rl; omega
  have bT4 : Hid (Box w3 w1.heap.size (.string t.1) (.slice ca nc cc) (.slice ra nr cr)) := bT3.out.below hb3
  have DT4 : Hid (DTab w3 ca cc ra cr t) := DT3.out.below hb3
  have RT4 : Hid (RowAt w3 (some ⟨g, 0, none⟩) r) := RT3.out.below hb3
  have bX4 : Hid (Box w3 w2.heap.size (.string T.1) (.slice caX mc ccX) (.slice raX mr crX)) := bX3.out.below hb3
  have OX4 : Hid (TabAt w3 caX ccX raX T) := OX3.out.below hb3
  clear bT3 DT3 RT3 bX3 OX3
  replace hx := chain hx hb3
  clear hb3 hD hqc hqr
  go_wp2_with fail
  obtain ⟨V3, hV3⟩ : ∃ V, V = (w3.alloc (.cells #[.string Q.1, .slice caQ qc ccQ, .slice raQ qr crQ] 32)) := ⟨_, rfl⟩
  rw [← hV3]
  have hAV3 : Below w3.heap.size w3 V3 := by rw [hV3]; exact (Below.refl _ _).alloc (Nat.le_refl _) _
  have bQ5 : Hid (Box V3 w3.heap.size (.string Q.1) (.slice caQ qc ccQ) (.slice raQ qr crQ)) := by
    have : Box V3 w3.heap.size (.string Q.1) (.slice caQ qc ccQ) (.slice raQ qr crQ) := by subst hV3; exact box3 (Below.refl _ _)
    exact this
  have DQ5 : Hid (DTab V3 caQ ccQ raQ crQ Q) := DQa.out.below hAV3
  have bT5 : Hid (Box V3 w1.heap.size (.string t.1) (.slice ca nc cc) (.slice ra nr cr)) := bT4.out.below hAV3
  have DT5 : Hid (DTab V3 ca cc ra cr t) := DT4.out.below hAV3
  have RT5 : Hid (RowAt V3 (some ⟨g, 0, none⟩) r) := RT4.out.below hAV3
  have bX5 : Hid (Box V3 w2.heap.size (.string T.1) (.slice caX mc ccX) (.slice raX mr crX)) := bX4.out.below hAV3
  have OX5 : Hid (TabAt V3 caX ccX raX T) := OX4.out.below hAV3
  clear bT4 DT4 RT4 bX4 OX4
  replace hx := chain hx hAV3
  clear hV3 hAV3 DQa
  obtain ⟨lc, hlc⟩ : ∃ l, censusR Q kq = l := ⟨_, rfl⟩
  have HLC : Hid (censusR Q kq = lc) := hlc
  obtain ⟨nl, hnl⟩ : ∃ n, lc.length = n := ⟨_, rfl⟩
  have HNL : Hid (lc.length = nl) := hnl
  have hnl4 : nl = 0 ∨ nl = 4 := by
    rcases censusR_form Q kq with h | ⟨x0, x1, x2, x3, h⟩ <;> rw [hlc] at h <;> rw [h] at hnl <;> simp at hnl <;> omega
  refine (census_impl caQ ccQ raQ crQ Q qc qr HQC.out HQR.out _ DQ5.out.tab kq lc HLC.out).mono ?_
  rintro e w4 ⟨gC, cC, rfl, ownC, hb4⟩
  have IC6 : Hid (IntsAt w4 (some ⟨gC, 0, none⟩) lc) := own_ints ownC
  rw [hnl]
  clear hlc hnl ownC
  have bT6 : Hid (Box w4 w1.heap.size (.string t.1) (.slice ca nc cc) (.slice ra nr cr)) := bT5.out.below hb4
  have DT6 : Hid (DTab w4 ca cc ra cr t) := DT5.out.below hb4
  have RT6 : Hid (RowAt w4 (some ⟨g, 0, none⟩) r) := RT5.out.below hb4
  have bX6 : Hid (Box w4 w2.heap.size (.string T.1) (.slice caX mc ccX) (.slice raX mr crX)) := bX5.out.below hb4
  have OX6 : Hid (TabAt w4 caX ccX raX T) := OX5.out.below hb4
  have bQ6 : Hid (Box w4 w3.heap.size (.string Q.1) (.slice caQ qc ccQ) (.slice raQ qr crQ)) := bQ5.out.below hb4
  have DQ6 : Hid (DTab w4 caQ ccQ raQ crQ Q) := DQ5.out.below hb4
  clear bT5 DT5 RT5 bX5 OX5 bQ5 DQ5
  replace hx := chain hx hb4
  clear hb4
  go_wp2_with fail
  refine (columnof_draw hlen (HR.out.below hx)).mono ?_
  rintro e w5 ⟨CN, avN, cvN, sN, rfl, hCN, hsN, hSN, hb5⟩
  have SN7 : Hid (StrsAt w5 avN CN) := hSN
  obtain ⟨nN, hnN⟩ : ∃ n, CN.length = n := ⟨_, rfl⟩
  have HNN : Hid (CN.length = nN) := hnN
  rw [hnN] at hCN ⊢
  clear hnN hSN
  have bT7 : Hid (Box w5 w1.heap.size (.string t.1) (.slice ca nc cc) (.slice ra nr cr)) := bT6.out.below hb5
  have DT7 : Hid (DTab w5 ca cc ra cr t) := DT6.out.below hb5
  have RT7 : Hid (RowAt w5 (some ⟨g, 0, none⟩) r) := RT6.out.below hb5
  have bX7 : Hid (Box w5 w2.heap.size (.string T.1) (.slice caX mc ccX) (.slice raX mr crX)) := bX6.out.below hb5
  have OX7 : Hid (TabAt w5 caX ccX raX T) := OX6.out.below hb5
  have bQ7 : Hid (Box w5 w3.heap.size (.string Q.1) (.slice caQ qc ccQ) (.slice raQ qr crQ)) := bQ6.out.below hb5
  have DQ7 : Hid (DTab w5 caQ ccQ raQ crQ Q) := DQ6.out.below hb5
  have IC7 : Hid (IntsAt w5 (some ⟨gC, 0, none⟩) lc) := IC6.out.below hb5
  clear bT6 DT6 RT6 bX6 OX6 bQ6 DQ6 IC6
  replace hx := chain hx hb5
  clear hb5
  go_wp2_with fail
  refine (columnof_impl nN avN cvN CN HNN.out sN _ SN7.out (by unfold maxLen; omega)).mono ?_
  rintro e w6 ⟨at6, rfl, hat, hb6⟩
  have HAT : Hid (AtIs CN sN at6) := hat
  have hatlt := hat.lt
  rw [HNN.out] at hatlt
  clear hat
  have bT8 : Hid (Box w6 w1.heap.size (.string t.1) (.slice ca nc cc) (.slice ra nr cr)) := bT7.out.below hb6
  have DT8 : Hid (DTab w6 ca cc ra cr t) := DT7.out.below hb6
  have RT8 : Hid (RowAt w6 (some ⟨g, 0, none⟩) r) := RT7.out.below hb6
  have bX8 : Hid (Box w6 w2.heap.size (.string T.1) (.slice caX mc ccX) (.slice raX mr crX)) := bX7.out.below hb6
  have OX8 : Hid (TabAt w6 caX ccX raX T) := OX7.out.below hb6
  have bQ8 : Hid (Box w6 w3.heap.size (.string Q.1) (.slice caQ qc ccQ) (.slice raQ qr crQ)) := bQ7.out.below hb6
  have DQ8 : Hid (DTab w6 caQ ccQ raQ crQ Q) := DQ7.out.below hb6
  have IC8 : Hid (IntsAt w6 (some ⟨gC, 0, none⟩) lc) := IC7.out.below hb6
  have SN8 : Hid (StrsAt w6 avN CN) := SN7.out.below hb6
  clear bT7 DT7 RT7 bX7 OX7 bQ7 DQ7 IC7 SN7
  replace hx := chain hx hb6
  clear hb6
  obtain ⟨p0, p1, p2, p3⟩ := bT8.out
  go_wp2_with fail
  refine (put_spec ca cc ra cr t nc nr HNC.out HNR.out _ _ r n HN.out _ DT8.out.tab RT8.out FR.out (fun e => by cases e) (by omega) T b HP.out).mono ?_
  rintro e w7 ⟨caY, ccY, raY, crY, AY, CY, rfl, OYo, hb7, _⟩
  rw [hmc, hmr]
  have OYa : Hid (TabAt w7 caY ccY raY T) := OYo.tab
  clear p0 p1 p2 p3 OYo
  have bT9 : Hid (Box w7 w1.heap.size (.string t.1) (.slice ca nc cc) (.slice ra nr cr)) := bT8.out.below hb7
  have DT9 : Hid (DTab w7 ca cc ra cr t) := DT8.out.below hb7
  have RT9 : Hid (RowAt w7 (some ⟨g, 0, none⟩) r) := RT8.out.below hb7
  have bX9 : Hid (Box w7 w2.heap.size (.string T.1) (.slice caX mc ccX) (.slice raX mr crX)) := bX8.out.below hb7
  have OX9 : Hid (TabAt w7 caX ccX raX T) := OX8.out.below hb7
  have bQ9 : Hid (Box w7 w3.heap.size (.string Q.1) (.slice caQ qc ccQ) (.slice raQ qr crQ)) := bQ8.out.below hb7
  have DQ9 : Hid (DTab w7 caQ ccQ raQ crQ Q) := DQ8.out.below hb7
  have IC9 : Hid (IntsAt w7 (some ⟨gC, 0, none⟩) lc) := IC8.out.below hb7
  have SN9 : Hid (StrsAt w7 avN CN) := SN8.out.below hb7
  clear bT8 DT8 RT8 bX8 OX8 bQ8 DQ8 IC8 SN8
  replace hx := chain hx hb7
  clear hb7
  have hbb : (b == b) = true := by simp
  obtain ⟨s0, s1, s2, s3⟩ := bX9.out
  obtain ⟨p0, p1, p2, p3⟩ := bT9.out
  obtain ⟨q0, q1, q2, q3⟩ := bQ9.out
  go_wp2_with fail
  obtain ⟨V7, hV7⟩ : ∃ V, V = (w7.alloc (.cells #[.string T.1, .slice caY mc ccY, .slice raY mr crY] 32)) := ⟨_, rfl⟩
  rw [← hV7]
  have hAV7 : Below w7.heap.size w7 V7 := by rw [hV7]; exact (Below.refl _ _).alloc (Nat.le_refl _) _
  have bY10 : Hid (Box V7 w7.heap.size (.string T.1) (.slice caY mc ccY) (.slice raY mr crY)) := by
    have : Box V7 w7.heap.size (.string T.1) (.slice caY mc ccY) (.slice raY mr crY) := by subst hV7; exact box3 (Below.refl _ _)
    exact this
  have OY10 : Hid (TabAt V7 caY ccY raY T) := OYa.out.below hAV7
  clear s0 s1 s2 s3 p0 p1 p2 p3 q0 q1 q2 q3
  have bT10 : Hid (Box V7 w1.heap.size (.string t.1) (.slice ca nc cc) (.slice ra nr cr)) := bT9.out.below hAV7
  have DT10 : Hid (DTab V7 ca cc ra cr t) := DT9.out.below hAV7
  have RT10 : Hid (RowAt V7 (some ⟨g, 0, none⟩) r) := RT9.out.below hAV7
  have bX10 : Hid (Box V7 w2.heap.size (.string T.1) (.slice caX mc ccX) (.slice raX mr crX)) := bX9.out.below hAV7
  have OX10 : Hid (TabAt V7 caX ccX raX T) := OX9.out.below hAV7
  have bQ10 : Hid (Box V7 w3.heap.size (.string Q.1) (.slice caQ qc ccQ) (.slice raQ qr crQ)) := bQ9.out.below hAV7
  have DQ10 : Hid (DTab V7 caQ ccQ raQ crQ Q) := DQ9.out.below hAV7
  have IC10 : Hid (IntsAt V7 (some ⟨gC, 0, none⟩) lc) := IC9.out.below hAV7
  have SN10 : Hid (StrsAt V7 avN CN) := SN9.out.below hAV7
  clear bT9 DT9 RT9 bX9 OX9 bQ9 DQ9 IC9 SN9
  replace hx := chain hx hAV7
  clear hV7 hAV7 OYa
  obtain ⟨tb, htb⟩ : ∃ x, tableB t = x := ⟨_, rfl⟩
  have HTB : Hid (tableB t = tb) := htb
  have htt : (tb == tb) = true := by simp
  obtain ⟨an, han⟩ : ∃ x, allNum Q kq = x := ⟨_, rfl⟩
  have HAN : Hid (allNum Q kq = an) := han
  have haa : (an == an) = true := by simp
  clear htb han
  obtain ⟨p0, p1, p2, p3⟩ := bT10.out
  obtain ⟨s0, s1, s2, s3⟩ := bX10.out
  obtain ⟨q0, q1, q2, q3⟩ := bQ10.out
  obtain ⟨y0, y1, y2, y3⟩ := bY10.out
  refine wp_region_held_drew (S := (fun w' => (w'.cell? ⟨w1.heap.size, 0, none⟩ = some (.string t.1) ∧ w'.cell? ⟨w1.heap.size, 1, none⟩ = some (.slice ca nc cc) ∧ w'.cell? ⟨w1.heap.size, 2, none⟩ = some (.slice ra nr cr)) ∧ (w'.cell? ⟨w2.heap.size, 0, none⟩ = some (.string T.1) ∧ w'.cell? ⟨w2.heap.size, 1, none⟩ = some (.slice caX mc ccX) ∧ w'.cell? ⟨w2.heap.size, 2, none⟩ = some (.slice raX mr crX)) ∧ (w'.cell? ⟨w3.heap.size, 0, none⟩ = some (.string Q.1) ∧ w'.cell? ⟨w3.heap.size, 1, none⟩ = some (.slice caQ qc ccQ) ∧ w'.cell? ⟨w3.heap.size, 2, none⟩ = some (.slice raQ qr crQ)) ∧ (w'.cell? ⟨w7.heap.size, 0, none⟩ = some (.string T.1) ∧ w'.cell? ⟨w7.heap.size, 1, none⟩ = some (.slice caY mc ccY) ∧ w'.cell? ⟨w7.heap.size, 2, none⟩ = some (.slice raY mr crY)))) (by kernel_rfl) ?_ (fun hHeld => ?_)
  · exact ⟨⟨p0, p1, p2⟩, ⟨s0, s1, s2⟩, ⟨q0, q1, q2⟩, ⟨y0, y1, y2⟩⟩
  refine wpAnyH_take (i := 0) (by simp only [List.getElem?_toArray, List.getElem?_cons_zero]; rfl) (by kernel_rfl) (by kernel_rfl) (by kernel_rfl) (by intro _ _ _ h; exact h) (Or.inl ⟨by rfl, fun w hSw => by (dsimp only at hSw; go_simp; (try with_reducible rfl))⟩) (by assumption) ?_
  simp only [Act.put, List.setIfInBounds_toArray, List.set_cons_zero, List.set_cons_succ]
  refine wpAnyH_take (i := 1) (by simp only [List.getElem?_toArray, List.getElem?_cons_zero, List.getElem?_cons_succ]; rfl) (by kernel_rfl) (by kernel_rfl) (by kernel_rfl) (by intro _ _ _ h; exact h) (Or.inl ⟨by rfl, fun w hSw => by (dsimp only at hSw; go_simp; (try with_reducible rfl))⟩) (by assumption) ?_
  simp only [Act.put, List.setIfInBounds_toArray, List.set_cons_zero, List.set_cons_succ]
  refine wpAnyH_take (i := 2) (by simp only [List.getElem?_toArray, List.getElem?_cons_zero, List.getElem?_cons_succ]; rfl) (by kernel_rfl) (by kernel_rfl) (by kernel_rfl) (by intro _ _ _ h; exact h) (Or.inl ⟨by rfl, fun w hSw => by (dsimp only at hSw; go_simp; (try with_reducible rfl))⟩) (by assumption) ?_
  simp only [Act.put, List.setIfInBounds_toArray, List.set_cons_zero, List.set_cons_succ]
  refine wpAnyH_take (i := 3) (by simp only [List.getElem?_toArray, List.getElem?_cons_zero, List.getElem?_cons_succ]; rfl) (by kernel_rfl) (by kernel_rfl) (by kernel_rfl) (by intro _ _ _ h; exact h) (Or.inl ⟨by rfl, fun w hSw => by (dsimp only at hSw; go_simp; (try with_reducible rfl))⟩) (by assumption) ?_
  simp only [Act.put, List.setIfInBounds_toArray, List.set_cons_zero, List.set_cons_succ]
  refine wpAnyH_take (i := 4) (by simp only [List.getElem?_toArray, List.getElem?_cons_zero, List.getElem?_cons_succ]; rfl) (by kernel_rfl) (by kernel_rfl) (by kernel_rfl) (by intro _ _ _ h; exact h) (Or.inl ⟨by rfl, fun w hSw => by (dsimp only at hSw; go_simp; (try with_reducible rfl))⟩) (by assumption) ?_
  simp only [Act.put, List.setIfInBounds_toArray, List.set_cons_zero, List.set_cons_succ]
  refine wpAnyH_take (i := 5) (by simp only [List.getElem?_toArray, List.getElem?_cons_zero, List.getElem?_cons_succ]; rfl) (by kernel_rfl) (by kernel_rfl) (by kernel_rfl) (by intro _ _ _ h; exact h) (Or.inl ⟨by rfl, fun w hSw => by (dsimp only at hSw; go_simp; (try with_reducible rfl))⟩) (by assumption) ?_
  simp only [Act.put, List.setIfInBounds_toArray, List.set_cons_zero, List.set_cons_succ]
  refine wpAnyH_ready (rs := [6]) (by kernel_rfl) (by simp) ?_
  refine AllReadyH.cons (by simp only [List.getElem?_toArray, List.getElem?_cons_zero, List.getElem?_cons_succ]; rfl) ?_ AllReadyH.nil
  intro K hK
  go_simp
  refine (liketab _ _ _ _ _ _ _ _ T mc mr HMC.out HMR.out _ (OX10.out.below (Below.refl _ _).drew) (OY10.out.below (Below.refl _ _).drew)).mono ?_
  rintro e w8 ⟨rfl, hb8'⟩
  have hb8 : Below V7.heap.size V7 w8 := undrew hb8'
  clear hb8'
  clear p0 p1 p2 p3 s0 s1 s2 s3 q0 q1 q2 q3 y0 y1 y2 y3
  have bT11 : Hid (Box w8 w1.heap.size (.string t.1) (.slice ca nc cc) (.slice ra nr cr)) := bT10.out.below hb8
  have DT11 : Hid (DTab w8 ca cc ra cr t) := DT10.out.below hb8
  have RT11 : Hid (RowAt w8 (some ⟨g, 0, none⟩) r) := RT10.out.below hb8
  have bX11 : Hid (Box w8 w2.heap.size (.string T.1) (.slice caX mc ccX) (.slice raX mr crX)) := bX10.out.below hb8
  have OX11 : Hid (TabAt w8 caX ccX raX T) := OX10.out.below hb8
  have bQ11 : Hid (Box w8 w3.heap.size (.string Q.1) (.slice caQ qc ccQ) (.slice raQ qr crQ)) := bQ10.out.below hb8
  have DQ11 : Hid (DTab w8 caQ ccQ raQ crQ Q) := DQ10.out.below hb8
  have IC11 : Hid (IntsAt w8 (some ⟨gC, 0, none⟩) lc) := IC10.out.below hb8
  have SN11 : Hid (StrsAt w8 avN CN) := SN10.out.below hb8
  have bY11 : Hid (Box w8 w7.heap.size (.string T.1) (.slice caY mc ccY) (.slice raY mr crY)) := bY10.out.below hb8
  have OY11 : Hid (TabAt w8 caY ccY raY T) := OY10.out.below hb8
  clear bT10 DT10 RT10 bX10 OX10 bQ10 DQ10 IC10 SN10 bY10 OY10
  replace hx := chain hx hb8
  clear hb8
  obtain ⟨p0, p1, p2, p3⟩ := bT11.out
  obtain ⟨s0, s1, s2, s3⟩ := bX11.out
  obtain ⟨q0, q1, q2, q3⟩ := bQ11.out
  obtain ⟨y0, y1, y2, y3⟩ := bY11.out
  go_wp2_with fail
  refine hK.out _ _ ⟨⟨p0, p1, p2⟩, ⟨s0, s1, s2⟩, ⟨q0, q1, q2⟩, ⟨y0, y1, y2⟩⟩ (fun hHeld => ?_)
  clear hK K
  try simp only [Act.put, List.setIfInBounds_toArray, List.set_cons_zero, List.set_cons_succ]
  refine wpAnyH_take (i := 7) (by simp only [List.getElem?_toArray, List.getElem?_cons_zero, List.getElem?_cons_succ]; rfl) (by kernel_rfl) (by kernel_rfl) (by kernel_rfl) (by intro _ _ _ h; exact h) (Or.inl ⟨by rfl, fun w hSw => by (dsimp only at hSw; go_simp; (try with_reducible rfl))⟩) (by assumption) ?_
  simp only [Act.put, List.setIfInBounds_toArray, List.set_cons_zero, List.set_cons_succ]
  refine wpAnyH_take (i := 8) (by simp only [List.getElem?_toArray, List.getElem?_cons_zero, List.getElem?_cons_succ]; rfl) (by kernel_rfl) (by kernel_rfl) (by kernel_rfl) (by intro _ _ _ h; exact h) (Or.inl ⟨by rfl, fun w hSw => by (dsimp only at hSw; go_simp; (try with_reducible rfl))⟩) (by assumption) ?_
  simp only [Act.put, List.setIfInBounds_toArray, List.set_cons_zero, List.set_cons_succ]
  refine wpAnyH_take (i := 9) (by simp only [List.getElem?_toArray, List.getElem?_cons_zero, List.getElem?_cons_succ]; rfl) (by kernel_rfl) (by kernel_rfl) (by kernel_rfl) (by intro _ _ _ h; exact h) (Or.inl ⟨by rfl, fun w hSw => by (dsimp only at hSw; go_simp; (try with_reducible rfl))⟩) (by assumption) ?_
  simp only [Act.put, List.setIfInBounds_toArray, List.set_cons_zero, List.set_cons_succ]
  refine wpAnyH_take (i := 10) (by simp only [List.getElem?_toArray, List.getElem?_cons_zero, List.getElem?_cons_succ]; rfl) (by kernel_rfl) (by kernel_rfl) (by kernel_rfl) (by intro _ _ _ h; exact h) (Or.inl ⟨by rfl, fun w hSw => by (dsimp only at hSw; go_simp; (try with_reducible rfl))⟩) (by assumption) ?_
  simp only [Act.put, List.setIfInBounds_toArray, List.set_cons_zero, List.set_cons_succ]
  refine wpAnyH_take (i := 12) (by simp only [List.getElem?_toArray, List.getElem?_cons_zero, List.getElem?_cons_succ]; rfl) (by kernel_rfl) (by kernel_rfl) (by kernel_rfl) (by intro _ _ _ h; exact h) (Or.inl ⟨by rfl, fun w hSw => by (dsimp only at hSw; go_simp; (try with_reducible rfl))⟩) (by assumption) ?_
  simp only [Act.put, List.setIfInBounds_toArray, List.set_cons_zero, List.set_cons_succ]
  refine wpAnyH_ready (rs := [11]) (by kernel_rfl) (by simp) ?_
  refine AllReadyH.cons (by simp only [List.getElem?_toArray, List.getElem?_cons_zero, List.getElem?_cons_succ]; rfl) ?_ AllReadyH.nil
  intro K hK
  go_simp
  refine (table_impl ca cc ra cr t nc nr HNC.out HNR.out _ DT11.out.tab tb HTB.out).mono ?_
  rintro e w9 ⟨rfl, hb9⟩
  clear p0 p1 p2 p3 s0 s1 s2 s3 q0 q1 q2 q3 y0 y1 y2 y3
  have bT12 : Hid (Box w9 w1.heap.size (.string t.1) (.slice ca nc cc) (.slice ra nr cr)) := bT11.out.below hb9
  have DT12 : Hid (DTab w9 ca cc ra cr t) := DT11.out.below hb9
  have RT12 : Hid (RowAt w9 (some ⟨g, 0, none⟩) r) := RT11.out.below hb9
  have bX12 : Hid (Box w9 w2.heap.size (.string T.1) (.slice caX mc ccX) (.slice raX mr crX)) := bX11.out.below hb9
  have OX12 : Hid (TabAt w9 caX ccX raX T) := OX11.out.below hb9
  have bQ12 : Hid (Box w9 w3.heap.size (.string Q.1) (.slice caQ qc ccQ) (.slice raQ qr crQ)) := bQ11.out.below hb9
  have DQ12 : Hid (DTab w9 caQ ccQ raQ crQ Q) := DQ11.out.below hb9
  have IC12 : Hid (IntsAt w9 (some ⟨gC, 0, none⟩) lc) := IC11.out.below hb9
  have SN12 : Hid (StrsAt w9 avN CN) := SN11.out.below hb9
  have bY12 : Hid (Box w9 w7.heap.size (.string T.1) (.slice caY mc ccY) (.slice raY mr crY)) := bY11.out.below hb9
  have OY12 : Hid (TabAt w9 caY ccY raY T) := OY11.out.below hb9
  clear bT11 DT11 RT11 bX11 OX11 bQ11 DQ11 IC11 SN11 bY11 OY11
  replace hx := chain hx hb9
  clear hb9
  obtain ⟨p0, p1, p2, p3⟩ := bT12.out
  obtain ⟨s0, s1, s2, s3⟩ := bX12.out
  obtain ⟨q0, q1, q2, q3⟩ := bQ12.out
  obtain ⟨y0, y1, y2, y3⟩ := bY12.out
  go_wp2_with fail
  refine hK.out _ _ ⟨⟨p0, p1, p2⟩, ⟨s0, s1, s2⟩, ⟨q0, q1, q2⟩, ⟨y0, y1, y2⟩⟩ (fun hHeld => ?_)
  clear hK K
  try simp only [Act.put, List.setIfInBounds_toArray, List.set_cons_zero, List.set_cons_succ]

  refine wpAnyH_ready (rs := [13]) (by kernel_rfl) (by simp) ?_
  refine AllReadyH.cons (by simp only [List.getElem?_toArray, List.getElem?_cons_zero, List.getElem?_cons_succ]; rfl) ?_ AllReadyH.nil
  intro K hK
  go_simp
  refine (table_spec ca cc ra cr t nc nr HNC.out HNR.out _ DT12.out.tab tb HTB.out).mono ?_
  rintro e w10 ⟨rfl, hb10⟩
  clear p0 p1 p2 p3 s0 s1 s2 s3 q0 q1 q2 q3 y0 y1 y2 y3
  have bT13 : Hid (Box w10 w1.heap.size (.string t.1) (.slice ca nc cc) (.slice ra nr cr)) := bT12.out.below hb10
  have DT13 : Hid (DTab w10 ca cc ra cr t) := DT12.out.below hb10
  have RT13 : Hid (RowAt w10 (some ⟨g, 0, none⟩) r) := RT12.out.below hb10
  have bX13 : Hid (Box w10 w2.heap.size (.string T.1) (.slice caX mc ccX) (.slice raX mr crX)) := bX12.out.below hb10
  have OX13 : Hid (TabAt w10 caX ccX raX T) := OX12.out.below hb10
  have bQ13 : Hid (Box w10 w3.heap.size (.string Q.1) (.slice caQ qc ccQ) (.slice raQ qr crQ)) := bQ12.out.below hb10
  have DQ13 : Hid (DTab w10 caQ ccQ raQ crQ Q) := DQ12.out.below hb10
  have IC13 : Hid (IntsAt w10 (some ⟨gC, 0, none⟩) lc) := IC12.out.below hb10
  have SN13 : Hid (StrsAt w10 avN CN) := SN12.out.below hb10
  have bY13 : Hid (Box w10 w7.heap.size (.string T.1) (.slice caY mc ccY) (.slice raY mr crY)) := bY12.out.below hb10
  have OY13 : Hid (TabAt w10 caY ccY raY T) := OY12.out.below hb10
  clear bT12 DT12 RT12 bX12 OX12 bQ12 DQ12 IC12 SN12 bY12 OY12
  replace hx := chain hx hb10
  clear hb10
  obtain ⟨p0, p1, p2, p3⟩ := bT13.out
  obtain ⟨s0, s1, s2, s3⟩ := bX13.out
  obtain ⟨q0, q1, q2, q3⟩ := bQ13.out
  obtain ⟨y0, y1, y2, y3⟩ := bY13.out
  go_wp2_with fail
  refine hK.out _ _ ⟨⟨p0, p1, p2⟩, ⟨s0, s1, s2⟩, ⟨q0, q1, q2⟩, ⟨y0, y1, y2⟩⟩ (fun hHeld => ?_)
  clear hK K
  try simp only [Act.put, List.setIfInBounds_toArray, List.set_cons_zero, List.set_cons_succ]
  refine wpAnyH_take (i := 14) (by simp only [List.getElem?_toArray, List.getElem?_cons_zero, List.getElem?_cons_succ]; rfl) (by kernel_rfl) (by kernel_rfl) (by kernel_rfl) (by intro _ _ _ h; exact h) (Or.inl ⟨by rfl, fun w hSw => by (dsimp only at hSw; go_simp; (try with_reducible rfl))⟩) (by assumption) ?_
  simp only [Act.put, List.setIfInBounds_toArray, List.set_cons_zero, List.set_cons_succ]
  refine wpAnyH_take (i := 15) (by simp only [List.getElem?_toArray, List.getElem?_cons_zero, List.getElem?_cons_succ]; rfl) (by kernel_rfl) (by kernel_rfl) (by kernel_rfl) (by intro _ _ _ h; exact h) (Or.inl ⟨by rfl, fun w hSw => by (dsimp only at hSw; go_simp; (try with_reducible rfl))⟩) (by assumption) ?_
  simp only [Act.put, List.setIfInBounds_toArray, List.set_cons_zero, List.set_cons_succ]
  refine wpAnyH_take (i := 16) (by simp only [List.getElem?_toArray, List.getElem?_cons_zero, List.getElem?_cons_succ]; rfl) (by kernel_rfl) (by kernel_rfl) (by kernel_rfl) (by intro _ _ _ h; exact h) (Or.inl ⟨by rfl, fun w hSw => by (dsimp only at hSw; go_simp; (try with_reducible rfl))⟩) (by assumption) ?_
  simp only [Act.put, List.setIfInBounds_toArray, List.set_cons_zero, List.set_cons_succ]
  refine wpAnyH_take (i := 17) (by simp only [List.getElem?_toArray, List.getElem?_cons_zero, List.getElem?_cons_succ]; rfl) (by kernel_rfl) (by kernel_rfl) (by kernel_rfl) (by intro _ _ _ h; exact h) (Or.inl ⟨by rfl, fun w hSw => by (dsimp only at hSw; go_simp; (try with_reducible rfl))⟩) (by assumption) ?_
  simp only [Act.put, List.setIfInBounds_toArray, List.set_cons_zero, List.set_cons_succ]
  refine wpAnyH_take (i := 18) (by simp only [List.getElem?_toArray, List.getElem?_cons_zero, List.getElem?_cons_succ]; rfl) (by kernel_rfl) (by kernel_rfl) (by kernel_rfl) (by intro _ _ _ h; exact h) (Or.inl ⟨by rfl, fun w hSw => by (dsimp only at hSw; go_simp; (try with_reducible rfl))⟩) (by assumption) ?_
  simp only [Act.put, List.setIfInBounds_toArray, List.set_cons_zero, List.set_cons_succ]
  refine wpAnyH_take (i := 19) (by simp only [List.getElem?_toArray, List.getElem?_cons_zero, List.getElem?_cons_succ]; rfl) (by kernel_rfl) (by kernel_rfl) (by kernel_rfl) (by intro _ _ _ h; exact h) (Or.inl ⟨by rfl, fun w hSw => by (dsimp only at hSw; go_simp; (try with_reducible rfl))⟩) (by assumption) ?_
  simp only [Act.put, List.setIfInBounds_toArray, List.set_cons_zero, List.set_cons_succ]
  refine wpAnyH_ready (rs := [20]) (by kernel_rfl) (by simp) ?_
  refine AllReadyH.cons (by simp only [List.getElem?_toArray, List.getElem?_cons_zero, List.getElem?_cons_succ]; rfl) ?_ AllReadyH.nil
  intro K hK
  go_simp
  refine (census_spec caQ ccQ raQ crQ Q qc qr HQC.out HQR.out _ DQ13.out.tab kq lc HLC.out).mono ?_
  rintro e w11 ⟨gD, cD, rfl, ownD, hb11⟩
  have ID : Hid (IntsAt w11 (some ⟨gD, 0, none⟩) lc) := own_ints ownD
  rw [HNL.out]
  clear ownD
  clear p0 p1 p2 p3 s0 s1 s2 s3 q0 q1 q2 q3 y0 y1 y2 y3
  have bT14 : Hid (Box w11 w1.heap.size (.string t.1) (.slice ca nc cc) (.slice ra nr cr)) := bT13.out.below hb11
  have DT14 : Hid (DTab w11 ca cc ra cr t) := DT13.out.below hb11
  have RT14 : Hid (RowAt w11 (some ⟨g, 0, none⟩) r) := RT13.out.below hb11
  have bX14 : Hid (Box w11 w2.heap.size (.string T.1) (.slice caX mc ccX) (.slice raX mr crX)) := bX13.out.below hb11
  have OX14 : Hid (TabAt w11 caX ccX raX T) := OX13.out.below hb11
  have bQ14 : Hid (Box w11 w3.heap.size (.string Q.1) (.slice caQ qc ccQ) (.slice raQ qr crQ)) := bQ13.out.below hb11
  have DQ14 : Hid (DTab w11 caQ ccQ raQ crQ Q) := DQ13.out.below hb11
  have IC14 : Hid (IntsAt w11 (some ⟨gC, 0, none⟩) lc) := IC13.out.below hb11
  have SN14 : Hid (StrsAt w11 avN CN) := SN13.out.below hb11
  have bY14 : Hid (Box w11 w7.heap.size (.string T.1) (.slice caY mc ccY) (.slice raY mr crY)) := bY13.out.below hb11
  have OY14 : Hid (TabAt w11 caY ccY raY T) := OY13.out.below hb11
  clear bT13 DT13 RT13 bX13 OX13 bQ13 DQ13 IC13 SN13 bY13 OY13
  replace hx := chain hx hb11
  clear hb11
  obtain ⟨p0, p1, p2, p3⟩ := bT14.out
  obtain ⟨s0, s1, s2, s3⟩ := bX14.out
  obtain ⟨q0, q1, q2, q3⟩ := bQ14.out
  obtain ⟨y0, y1, y2, y3⟩ := bY14.out
  go_wp2_with fail
  refine hK.out _ _ ⟨⟨p0, p1, p2⟩, ⟨s0, s1, s2⟩, ⟨q0, q1, q2⟩, ⟨y0, y1, y2⟩⟩ (fun hHeld => ?_)
  clear hK K
  try simp only [Act.put, List.setIfInBounds_toArray, List.set_cons_zero, List.set_cons_succ]

  refine wpAnyH_ready (rs := [21]) (by kernel_rfl) (by simp) ?_
  refine AllReadyH.cons (by simp only [List.getElem?_toArray, List.getElem?_cons_zero, List.getElem?_cons_succ]; rfl) ?_ AllReadyH.nil
  intro K hK
  go_simp
  refine (likeints nl _ _ _ _ lc HNL.out _ IC14.out ID.out (by unfold maxLen; omega)).mono ?_
  rintro e w12 ⟨rfl, hb12⟩
  clear ID
  clear p0 p1 p2 p3 s0 s1 s2 s3 q0 q1 q2 q3 y0 y1 y2 y3
  have bT15 : Hid (Box w12 w1.heap.size (.string t.1) (.slice ca nc cc) (.slice ra nr cr)) := bT14.out.below hb12
  have DT15 : Hid (DTab w12 ca cc ra cr t) := DT14.out.below hb12
  have RT15 : Hid (RowAt w12 (some ⟨g, 0, none⟩) r) := RT14.out.below hb12
  have bX15 : Hid (Box w12 w2.heap.size (.string T.1) (.slice caX mc ccX) (.slice raX mr crX)) := bX14.out.below hb12
  have OX15 : Hid (TabAt w12 caX ccX raX T) := OX14.out.below hb12
  have bQ15 : Hid (Box w12 w3.heap.size (.string Q.1) (.slice caQ qc ccQ) (.slice raQ qr crQ)) := bQ14.out.below hb12
  have DQ15 : Hid (DTab w12 caQ ccQ raQ crQ Q) := DQ14.out.below hb12
  have IC15 : Hid (IntsAt w12 (some ⟨gC, 0, none⟩) lc) := IC14.out.below hb12
  have SN15 : Hid (StrsAt w12 avN CN) := SN14.out.below hb12
  have bY15 : Hid (Box w12 w7.heap.size (.string T.1) (.slice caY mc ccY) (.slice raY mr crY)) := bY14.out.below hb12
  have OY15 : Hid (TabAt w12 caY ccY raY T) := OY14.out.below hb12
  clear bT14 DT14 RT14 bX14 OX14 bQ14 DQ14 IC14 SN14 bY14 OY14
  replace hx := chain hx hb12
  clear hb12
  obtain ⟨p0, p1, p2, p3⟩ := bT15.out
  obtain ⟨s0, s1, s2, s3⟩ := bX15.out
  obtain ⟨q0, q1, q2, q3⟩ := bQ15.out
  obtain ⟨y0, y1, y2, y3⟩ := bY15.out
  go_wp2_with fail
  refine hK.out _ _ ⟨⟨p0, p1, p2⟩, ⟨s0, s1, s2⟩, ⟨q0, q1, q2⟩, ⟨y0, y1, y2⟩⟩ (fun hHeld => ?_)
  clear hK K
  try simp only [Act.put, List.setIfInBounds_toArray, List.set_cons_zero, List.set_cons_succ]
  refine wpAnyH_take (i := 22) (by simp only [List.getElem?_toArray, List.getElem?_cons_zero, List.getElem?_cons_succ]; rfl) (by kernel_rfl) (by kernel_rfl) (by kernel_rfl) (by intro _ _ _ h; exact h) (Or.inl ⟨by rfl, fun w hSw => by (dsimp only at hSw; go_simp; (try with_reducible rfl))⟩) (by assumption) ?_
  simp only [Act.put, List.setIfInBounds_toArray, List.set_cons_zero, List.set_cons_succ]
  refine wpAnyH_take (i := 23) (by simp only [List.getElem?_toArray, List.getElem?_cons_zero, List.getElem?_cons_succ]; rfl) (by kernel_rfl) (by kernel_rfl) (by kernel_rfl) (by intro _ _ _ h; exact h) (Or.inl ⟨by rfl, fun w hSw => by (dsimp only at hSw; go_simp; (try with_reducible rfl))⟩) (by assumption) ?_
  simp only [Act.put, List.setIfInBounds_toArray, List.set_cons_zero, List.set_cons_succ]
  refine wpAnyH_take (i := 24) (by simp only [List.getElem?_toArray, List.getElem?_cons_zero, List.getElem?_cons_succ]; rfl) (by kernel_rfl) (by kernel_rfl) (by kernel_rfl) (by intro _ _ _ h; exact h) (Or.inl ⟨by rfl, fun w hSw => by (dsimp only at hSw; go_simp; (try with_reducible rfl))⟩) (by assumption) ?_
  simp only [Act.put, List.setIfInBounds_toArray, List.set_cons_zero, List.set_cons_succ]
  refine wpAnyH_take (i := 25) (by simp only [List.getElem?_toArray, List.getElem?_cons_zero, List.getElem?_cons_succ]; rfl) (by kernel_rfl) (by kernel_rfl) (by kernel_rfl) (by intro _ _ _ h; exact h) (Or.inl ⟨by rfl, fun w hSw => by (dsimp only at hSw; go_simp; (try with_reducible rfl))⟩) (by assumption) ?_
  simp only [Act.put, List.setIfInBounds_toArray, List.set_cons_zero, List.set_cons_succ]
  refine wpAnyH_take (i := 26) (by simp only [List.getElem?_toArray, List.getElem?_cons_zero, List.getElem?_cons_succ]; rfl) (by kernel_rfl) (by kernel_rfl) (by kernel_rfl) (by intro _ _ _ h; exact h) (Or.inl ⟨by rfl, fun w hSw => by (dsimp only at hSw; go_simp; (try with_reducible rfl))⟩) (by assumption) ?_
  simp only [Act.put, List.setIfInBounds_toArray, List.set_cons_zero, List.set_cons_succ]
  refine wpAnyH_take (i := 28) (by simp only [List.getElem?_toArray, List.getElem?_cons_zero, List.getElem?_cons_succ]; rfl) (by kernel_rfl) (by kernel_rfl) (by kernel_rfl) (by intro _ _ _ h; exact h) (Or.inl ⟨by rfl, fun w hSw => by (dsimp only at hSw; go_simp; (try with_reducible rfl))⟩) (by assumption) ?_
  simp only [Act.put, List.setIfInBounds_toArray, List.set_cons_zero, List.set_cons_succ]
  refine wpAnyH_take (i := 29) (by simp only [List.getElem?_toArray, List.getElem?_cons_zero, List.getElem?_cons_succ]; rfl) (by kernel_rfl) (by kernel_rfl) (by kernel_rfl) (by intro _ _ _ h; exact h) (Or.inl ⟨by rfl, fun w hSw => by (dsimp only at hSw; go_simp; (try with_reducible rfl))⟩) (by assumption) ?_
  simp only [Act.put, List.setIfInBounds_toArray, List.set_cons_zero, List.set_cons_succ]
  refine wpAnyH_ready (rs := [27]) (by kernel_rfl) (by simp) ?_
  refine AllReadyH.cons (by simp only [List.getElem?_toArray, List.getElem?_cons_zero, List.getElem?_cons_succ]; rfl) ?_ AllReadyH.nil
  intro K hK
  go_simp
  refine (allnum_impl caQ ccQ raQ crQ Q qc qr HQC.out HQR.out _ DQ15.out.tab kq an HAN.out).mono ?_
  rintro e w13 ⟨rfl, hb13⟩
  clear p0 p1 p2 p3 s0 s1 s2 s3 q0 q1 q2 q3 y0 y1 y2 y3
  have bT16 : Hid (Box w13 w1.heap.size (.string t.1) (.slice ca nc cc) (.slice ra nr cr)) := bT15.out.below hb13
  have DT16 : Hid (DTab w13 ca cc ra cr t) := DT15.out.below hb13
  have RT16 : Hid (RowAt w13 (some ⟨g, 0, none⟩) r) := RT15.out.below hb13
  have bX16 : Hid (Box w13 w2.heap.size (.string T.1) (.slice caX mc ccX) (.slice raX mr crX)) := bX15.out.below hb13
  have OX16 : Hid (TabAt w13 caX ccX raX T) := OX15.out.below hb13
  have bQ16 : Hid (Box w13 w3.heap.size (.string Q.1) (.slice caQ qc ccQ) (.slice raQ qr crQ)) := bQ15.out.below hb13
  have DQ16 : Hid (DTab w13 caQ ccQ raQ crQ Q) := DQ15.out.below hb13
  have IC16 : Hid (IntsAt w13 (some ⟨gC, 0, none⟩) lc) := IC15.out.below hb13
  have SN16 : Hid (StrsAt w13 avN CN) := SN15.out.below hb13
  have bY16 : Hid (Box w13 w7.heap.size (.string T.1) (.slice caY mc ccY) (.slice raY mr crY)) := bY15.out.below hb13
  have OY16 : Hid (TabAt w13 caY ccY raY T) := OY15.out.below hb13
  clear bT15 DT15 RT15 bX15 OX15 bQ15 DQ15 IC15 SN15 bY15 OY15
  replace hx := chain hx hb13
  clear hb13
  obtain ⟨p0, p1, p2, p3⟩ := bT16.out
  obtain ⟨s0, s1, s2, s3⟩ := bX16.out
  obtain ⟨q0, q1, q2, q3⟩ := bQ16.out
  obtain ⟨y0, y1, y2, y3⟩ := bY16.out
  go_wp2_with fail
  refine hK.out _ _ ⟨⟨p0, p1, p2⟩, ⟨s0, s1, s2⟩, ⟨q0, q1, q2⟩, ⟨y0, y1, y2⟩⟩ (fun hHeld => ?_)
  clear hK K
  try simp only [Act.put, List.setIfInBounds_toArray, List.set_cons_zero, List.set_cons_succ]

  refine wpAnyH_ready (rs := [30]) (by kernel_rfl) (by simp) ?_
  refine AllReadyH.cons (by simp only [List.getElem?_toArray, List.getElem?_cons_zero, List.getElem?_cons_succ]; rfl) ?_ AllReadyH.nil
  intro K hK
  go_simp
  refine (allnum_spec caQ ccQ raQ crQ Q qc qr HQC.out HQR.out _ DQ16.out.tab kq an HAN.out).mono ?_
  rintro e w14 ⟨rfl, hb14⟩
  clear p0 p1 p2 p3 s0 s1 s2 s3 q0 q1 q2 q3 y0 y1 y2 y3
  have bT17 : Hid (Box w14 w1.heap.size (.string t.1) (.slice ca nc cc) (.slice ra nr cr)) := bT16.out.below hb14
  have DT17 : Hid (DTab w14 ca cc ra cr t) := DT16.out.below hb14
  have RT17 : Hid (RowAt w14 (some ⟨g, 0, none⟩) r) := RT16.out.below hb14
  have bX17 : Hid (Box w14 w2.heap.size (.string T.1) (.slice caX mc ccX) (.slice raX mr crX)) := bX16.out.below hb14
  have OX17 : Hid (TabAt w14 caX ccX raX T) := OX16.out.below hb14
  have bQ17 : Hid (Box w14 w3.heap.size (.string Q.1) (.slice caQ qc ccQ) (.slice raQ qr crQ)) := bQ16.out.below hb14
  have DQ17 : Hid (DTab w14 caQ ccQ raQ crQ Q) := DQ16.out.below hb14
  have IC17 : Hid (IntsAt w14 (some ⟨gC, 0, none⟩) lc) := IC16.out.below hb14
  have SN17 : Hid (StrsAt w14 avN CN) := SN16.out.below hb14
  have bY17 : Hid (Box w14 w7.heap.size (.string T.1) (.slice caY mc ccY) (.slice raY mr crY)) := bY16.out.below hb14
  have OY17 : Hid (TabAt w14 caY ccY raY T) := OY16.out.below hb14
  clear bT16 DT16 RT16 bX16 OX16 bQ16 DQ16 IC16 SN16 bY16 OY16
  replace hx := chain hx hb14
  clear hb14
  obtain ⟨p0, p1, p2, p3⟩ := bT17.out
  obtain ⟨s0, s1, s2, s3⟩ := bX17.out
  obtain ⟨q0, q1, q2, q3⟩ := bQ17.out
  obtain ⟨y0, y1, y2, y3⟩ := bY17.out
  go_wp2_with fail
  refine hK.out _ _ ⟨⟨p0, p1, p2⟩, ⟨s0, s1, s2⟩, ⟨q0, q1, q2⟩, ⟨y0, y1, y2⟩⟩ (fun hHeld => ?_)
  clear hK K
  try simp only [Act.put, List.setIfInBounds_toArray, List.set_cons_zero, List.set_cons_succ]
  refine wpAnyH_take (i := 31) (by simp only [List.getElem?_toArray, List.getElem?_cons_zero, List.getElem?_cons_succ]; rfl) (by kernel_rfl) (by kernel_rfl) (by kernel_rfl) (by intro _ _ _ h; exact h) (Or.inl ⟨by rfl, fun w hSw => by (dsimp only at hSw; go_simp; (try with_reducible rfl))⟩) (by assumption) ?_
  simp only [Act.put, List.setIfInBounds_toArray, List.set_cons_zero, List.set_cons_succ]
  refine wpAnyH_take (i := 32) (by simp only [List.getElem?_toArray, List.getElem?_cons_zero, List.getElem?_cons_succ]; rfl) (by kernel_rfl) (by kernel_rfl) (by kernel_rfl) (by intro _ _ _ h; exact h) (Or.inl ⟨by rfl, fun w hSw => by (dsimp only at hSw; go_simp; (try with_reducible rfl))⟩) (by assumption) ?_
  simp only [Act.put, List.setIfInBounds_toArray, List.set_cons_zero, List.set_cons_succ]
  refine wpAnyH_take (i := 33) (by simp only [List.getElem?_toArray, List.getElem?_cons_zero, List.getElem?_cons_succ]; rfl) (by kernel_rfl) (by kernel_rfl) (by kernel_rfl) (by intro _ _ _ h; exact h) (Or.inl ⟨by rfl, fun w hSw => by (dsimp only at hSw; go_simp; (try with_reducible rfl))⟩) (by assumption) ?_
  simp only [Act.put, List.setIfInBounds_toArray, List.set_cons_zero, List.set_cons_succ]
  refine wpAnyH_take (i := 34) (by simp only [List.getElem?_toArray, List.getElem?_cons_zero, List.getElem?_cons_succ]; rfl) (by kernel_rfl) (by kernel_rfl) (by kernel_rfl) (by intro _ _ _ h; exact h) (Or.inl ⟨by rfl, fun w hSw => by (dsimp only at hSw; go_simp; (try with_reducible rfl))⟩) (by assumption) ?_
  simp only [Act.put, List.setIfInBounds_toArray, List.set_cons_zero, List.set_cons_succ]
  refine wpAnyH_take (i := 35) (by simp only [List.getElem?_toArray, List.getElem?_cons_zero, List.getElem?_cons_succ]; rfl) (by kernel_rfl) (by kernel_rfl) (by kernel_rfl) (by intro _ _ _ h; exact h) (Or.inl ⟨by rfl, fun w hSw => by (dsimp only at hSw; go_simp; (try with_reducible rfl))⟩) (by assumption) ?_
  simp only [Act.put, List.setIfInBounds_toArray, List.set_cons_zero, List.set_cons_succ]
  refine wpAnyH_take (i := 36) (by simp only [List.getElem?_toArray, List.getElem?_cons_zero, List.getElem?_cons_succ]; rfl) (by kernel_rfl) (by kernel_rfl) (by kernel_rfl) (by intro _ _ _ h; exact h) (Or.inl ⟨by rfl, fun w hSw => by (dsimp only at hSw; go_simp; (try with_reducible rfl))⟩) (by assumption) ?_
  simp only [Act.put, List.setIfInBounds_toArray, List.set_cons_zero, List.set_cons_succ]
  refine wpAnyH_ready (rs := [37]) (by kernel_rfl) (by simp) ?_
  refine AllReadyH.cons (by simp only [List.getElem?_toArray, List.getElem?_cons_zero, List.getElem?_cons_succ]; rfl) ?_ AllReadyH.nil
  intro K hK
  go_simp
  refine (columnof_spec nN avN cvN CN HNN.out sN _ SN17.out (by unfold maxLen; omega)).mono ?_
  rintro e w15 ⟨at15, rfl, hat, hb15⟩
  obtain rfl : at6 = at15 := HAT.out.one hat
  clear hat
  clear p0 p1 p2 p3 s0 s1 s2 s3 q0 q1 q2 q3 y0 y1 y2 y3
  have bT18 : Hid (Box w15 w1.heap.size (.string t.1) (.slice ca nc cc) (.slice ra nr cr)) := bT17.out.below hb15
  have DT18 : Hid (DTab w15 ca cc ra cr t) := DT17.out.below hb15
  have RT18 : Hid (RowAt w15 (some ⟨g, 0, none⟩) r) := RT17.out.below hb15
  have bX18 : Hid (Box w15 w2.heap.size (.string T.1) (.slice caX mc ccX) (.slice raX mr crX)) := bX17.out.below hb15
  have OX18 : Hid (TabAt w15 caX ccX raX T) := OX17.out.below hb15
  have bQ18 : Hid (Box w15 w3.heap.size (.string Q.1) (.slice caQ qc ccQ) (.slice raQ qr crQ)) := bQ17.out.below hb15
  have DQ18 : Hid (DTab w15 caQ ccQ raQ crQ Q) := DQ17.out.below hb15
  have IC18 : Hid (IntsAt w15 (some ⟨gC, 0, none⟩) lc) := IC17.out.below hb15
  have SN18 : Hid (StrsAt w15 avN CN) := SN17.out.below hb15
  have bY18 : Hid (Box w15 w7.heap.size (.string T.1) (.slice caY mc ccY) (.slice raY mr crY)) := bY17.out.below hb15
  have OY18 : Hid (TabAt w15 caY ccY raY T) := OY17.out.below hb15
  clear bT17 DT17 RT17 bX17 OX17 bQ17 DQ17 IC17 SN17 bY17 OY17
  replace hx := chain hx hb15
  clear hb15
  obtain ⟨p0, p1, p2, p3⟩ := bT18.out
  obtain ⟨s0, s1, s2, s3⟩ := bX18.out
  obtain ⟨q0, q1, q2, q3⟩ := bQ18.out
  obtain ⟨y0, y1, y2, y3⟩ := bY18.out
  go_wp2_with fail
  refine hK.out _ _ ⟨⟨p0, p1, p2⟩, ⟨s0, s1, s2⟩, ⟨q0, q1, q2⟩, ⟨y0, y1, y2⟩⟩ (fun hHeld => ?_)
  clear hK K
  try simp only [Act.put, List.setIfInBounds_toArray, List.set_cons_zero, List.set_cons_succ]
  refine wpAnyH_take (i := 38) (by simp only [List.getElem?_toArray, List.getElem?_cons_zero, List.getElem?_cons_succ]; rfl) (by kernel_rfl) (by kernel_rfl) (by kernel_rfl) (by intro _ _ _ h; exact h) (Or.inl ⟨by rfl, fun w hSw => by (dsimp only at hSw; go_simp; (try with_reducible rfl))⟩) (by assumption) ?_
  simp only [Act.put, List.setIfInBounds_toArray, List.set_cons_zero, List.set_cons_succ]
  refine wpAnyH_take (i := 39) (by simp only [List.getElem?_toArray, List.getElem?_cons_zero, List.getElem?_cons_succ]; rfl) (by kernel_rfl) (by kernel_rfl) (by kernel_rfl) (by intro _ _ _ h; exact h) (Or.inl ⟨by rfl, fun w hSw => by (dsimp only at hSw; go_simp; (try with_reducible rfl))⟩) (by assumption) ?_
  simp only [Act.put, List.setIfInBounds_toArray, List.set_cons_zero, List.set_cons_succ]
  refine wpAnyH_done (by kernel_rfl) ?_ _
  clear p0 p1 p2 p3 s0 s1 s2 s3 q0 q1 q2 q3 y0 y1 y2 y3
  go_wp2_with fail
  have hsum : Hid (nl = 4 → ∃ x0 x1 x2 x3 : Int, lc = [x0, x1, x2, x3] ∧ x0 + x1 + x2 + x3 = (qr : Int) ∧ 0 ≤ x0 ∧ 0 ≤ x1 ∧ 0 ≤ x2 ∧ 0 ≤ x3 ∧ x0 ≤ 62 ∧ x1 ≤ 62 ∧ x2 ≤ 62 ∧ x3 ≤ 62) := by
    have : nl = 4 → ∃ x0 x1 x2 x3 : Int, lc = [x0, x1, x2, x3] ∧ x0 + x1 + x2 + x3 = (qr : Int) ∧ 0 ≤ x0 ∧ 0 ≤ x1 ∧ 0 ≤ x2 ∧ 0 ≤ x3 ∧ x0 ≤ 62 ∧ x1 ≤ 62 ∧ x2 ≤ 62 ∧ x3 ≤ 62 := by
      intro h4
      have h1 := HNL.out
      rw [← HLC.out] at h1 ⊢
      rw [← HQR.out]
      exact census_sum Q kq (by rw [h1]; exact h4) (by rw [HQR.out]; exact hqr62)
    exact this
  go_cut [129] (fun s129 wc => s129 = .bool false ∧ Below w15.heap.size w15 wc)
  case first =>
    as_aux_lemma =>
      obtain ⟨q0, q1, q2, q3⟩ := bQ18.out
      rcases hnl4 with rfl | rfl
      · by_cases hat0 : 0 ≤ at6
        · obtain ⟨j, hj⟩ := Int.eq_ofNat_of_zero_le hat0
          have hjl : j < CN.length := by rw [HNN.out]; omega
          obtain ⟨gb, go, rfl, hgl, cN⟩ := SN18.out j hjl
          have hsn : CN[j] = sN := at_get HAT.out hj hjl
          rw [hsn] at cN
          subst hj
          have hjn : (j : Int) < (nN : Int) := by omega
          have hxx : (sN.toList == sN.toList) = true := by simp
          go_quiet (fail)
          go_wp2_with fail
          go_meet
          case rel => exact ⟨by first | rfl | simp, belowN (Below.refl _ _) _⟩
        · go_quiet (fail)
          go_wp2_with fail
          go_meet
          case rel => exact ⟨by first | rfl | simp, belowN (Below.refl _ _) _⟩
      · obtain ⟨x0, x1, x2, x3, rfl, hsm, z0, z1, z2, z3, z4, z5, z6, z7⟩ := hsum.out rfl
        obtain ⟨ga, gg, e1, hg1, i0⟩ := IC18.out 0 (by simp)
        obtain ⟨gb1, go1, e2, _, i1⟩ := IC18.out 1 (by simp)
        obtain ⟨gb2, go2, e3, _, i2⟩ := IC18.out 2 (by simp)
        obtain ⟨gb3, go3, e4, _, i3⟩ := IC18.out 3 (by simp)
        cases e1
        cases e2
        cases e3
        cases e4
        simp only [List.getElem_cons_zero, List.getElem_cons_succ, Nat.zero_add] at i0 i1 i2 i3
        have hsm2 : (x0 + x1 + x2 + x3 == (qr : Int)) = true := by rw [hsm]; simp
        have hsm3 : x0 + x1 + x2 + x3 = (qr : Int) := hsm
        by_cases hat0 : 0 ≤ at6
        · obtain ⟨j, hj⟩ := Int.eq_ofNat_of_zero_le hat0
          have hjl : j < CN.length := by rw [HNN.out]; omega
          obtain ⟨gb, go, rfl, hgl, cN⟩ := SN18.out j hjl
          have hsn : CN[j] = sN := at_get HAT.out hj hjl
          rw [hsn] at cN
          subst hj
          have hjn : (j : Int) < (nN : Int) := by omega
          have hxx : (sN.toList == sN.toList) = true := by simp
          go_quiet (fail)
          go_wp2_with fail
          go_meet
          case rel => exact ⟨by first | rfl | simp, belowN (Below.refl _ _) _⟩
        · go_quiet (fail)
          go_wp2_with fail
          go_meet
          case rel => exact ⟨by first | rfl | simp, belowN (Below.refl _ _) _⟩
  case rest =>
    obtain ⟨rfl, hb16⟩ := hcut
    have bT19 : Hid (Box wc w1.heap.size (.string t.1) (.slice ca nc cc) (.slice ra nr cr)) := bT18.out.below hb16
    have DT19 : Hid (DTab wc ca cc ra cr t) := DT18.out.below hb16
    have RT19 : Hid (RowAt wc (some ⟨g, 0, none⟩) r) := RT18.out.below hb16
    have bX19 : Hid (Box wc w2.heap.size (.string T.1) (.slice caX mc ccX) (.slice raX mr crX)) := bX18.out.below hb16
    have OX19 : Hid (TabAt wc caX ccX raX T) := OX18.out.below hb16
    clear bT18 DT18 RT18 bX18 OX18
    replace hx := chain hx hb16
    clear hb16 bQ18 DQ18 IC18 SN18 bY18 OY18 hsum
    obtain ⟨p0, p1, p2, p3⟩ := bT19.out
    obtain ⟨s0, s1, s2, s3⟩ := bX19.out
    cases b
    · have hPT := HP.out
      cases tb
      · have eT : T = zeroT := by
          unfold putR at hPT
          rw [HTB.out, if_neg (by simp)] at hPT
          exact (Prod.mk.inj hPT).1.symm
        subst eT
        obtain rfl : 0 = mc := HMC.out
        obtain rfl : 0 = mr := HMR.out
        go_wp2_with fail
        refine (table_spec ca cc ra cr t nc nr HNC.out HNR.out _ DT19.out.tab false HTB.out).mono ?_
        rintro e w20 ⟨rfl, hb20⟩
        obtain ⟨s0, s1, s2, s3⟩ := bX19.out.below hb20
        have OX20 : Hid (TabAt w20 caX ccX raX zeroT) := OX19.out.below hb20
        replace hx := chain hx hb20
        clear p0 p1 p2 p3
        go_wp2_with fail
        refine (liketab caX ccX raX crX none 0 none 0 zeroT 0 0 rfl rfl _ OX20.out (out_zero _ 0).tab).mono ?_
        rintro e w21 ⟨rfl, hb21⟩
        go_wp2
        go_ret
        exact ⟨rfl, chain hx hb21⟩
      · have eT : T = t := by
          unfold putR at hPT
          rw [HTB.out, if_pos rfl] at hPT
          split at hPT
          · exact absurd (Prod.mk.inj hPT).2 (by simp)
          · exact (Prod.mk.inj hPT).1.symm
        subst eT
        obtain rfl : nc = mc := HNC.out.symm.trans HMC.out
        obtain rfl : nr = mr := HNR.out.symm.trans HMR.out
        go_wp2_with fail
        refine (table_spec ca cc ra cr T nc nr HNC.out HNR.out _ DT19.out.tab true HTB.out).mono ?_
        rintro e w20 ⟨rfl, hb20⟩
        obtain ⟨p0, p1, p2, p3⟩ := bT19.out.below hb20
        obtain ⟨s0, s1, s2, s3⟩ := bX19.out.below hb20
        have OX20 : Hid (TabAt w20 caX ccX raX T) := OX19.out.below hb20
        have DT20 : Hid (DTab w20 ca cc ra cr T) := DT19.out.below hb20
        replace hx := chain hx hb20
        go_wp2_with fail
        refine (liketab caX ccX raX crX ca cc ra cr T nc nr HNC.out HNR.out _ OX20.out DT20.out.tab).mono ?_
        rintro e w21 ⟨rfl, hb21⟩
        go_wp2
        go_ret
        exact ⟨rfl, chain hx hb21⟩
    · have hPT := HP.out
      obtain ⟨htb1, eT, htb2⟩ : tableB t = true ∧ putT t r = T ∧ tableB (putT t r) = true := by
        unfold putR at hPT
        split at hPT
        · split at hPT
          · exact ⟨by assumption, (Prod.mk.inj hPT).1, by assumption⟩
          · exact absurd (Prod.mk.inj hPT).2 (by simp)
        · exact absurd (Prod.mk.inj hPT).2 (by simp)
      subst eT
      obtain rfl : nc = mc := HNC.out.symm.trans HMC.out
      have emr : nr + 1 = mr := by
        rw [← HMR.out, ← HNR.out]; show t.2.2.length + 1 = (t.2.2 ++ [r]).length; simp
      have HEM : Hid (nr + 1 = mr) := emr
      clear emr
      have HT1 : Hid (tableB t = true) := htb1
      have HT2 : Hid (tableB (putT t r) = true) := htb2
      have hrn : n = nc ∧ r.all okC = true := by
        have h1 := table_row htb2 t.2.2.length (by show _ < (t.2.2 ++ [r]).length; simp)
        have h2 : (putT t r).2.2[t.2.2.length]'(by show _ < (t.2.2 ++ [r]).length; simp) = r := by show (t.2.2 ++ [r])[t.2.2.length]'_ = r; simp
        rw [h2] at h1
        refine ⟨?_, h1.2⟩
        rw [← HN.out, h1.1]; exact HMC.out
      obtain ⟨hrn, hrok⟩ := hrn
      subst hrn
      have HRO : Hid (r.all okC = true) := hrok
      have hnr60 : nr ≤ 60 := by have := table_len htb1; rw [HNR.out] at this; exact this
      clear hPT htb1 htb2 hrok
      obtain ⟨wd, hwd⟩ : ∃ x, x = wc := ⟨_, rfl⟩
      subst hwd
      go_wp2_with fail
      go_loopw [15] (fun ii wz => ∃ i : Nat, i ≤ n ∧ ii = .int .i64 i ∧ Below wd.heap.size wd wz) (fun ii _ => n - (intOf ii).toNat)
      case atStart => exact ⟨0, Nat.zero_le _, rfl, Below.refl _ _⟩
      case round =>
        obtain ⟨i, hi, rfl, hbw⟩ := hrel
        clear p0 p1 p2 p3 s0 s1 s2 s3
        have bT20 : Hid (Box wr w1.heap.size (.string t.1) (.slice ca n cc) (.slice ra nr cr)) := bT19.out.below hbw
        have bX20 : Hid (Box wr w2.heap.size (.string (putT t r).1) (.slice caX n ccX) (.slice raX mr crX)) := bX19.out.below hbw
        have DT20 : Hid (DTab wr ca cc ra cr t) := DT19.out.below hbw
        have OX20 : Hid (TabAt wr caX ccX raX (putT t r)) := OX19.out.below hbw
        have RT20 : Hid (RowAt wr (some ⟨g, 0, none⟩) r) := RT19.out.below hbw
        have hxr : Below w.heap.size w wr := chain hx hbw
        obtain ⟨p0, p1, p2, p3⟩ := bT20.out
        obtain ⟨s0, s1, s2, s3⟩ := bX20.out
        by_cases hlt : i < n
        · have q5 : (i : Int) < (n : Int) := by omega
          obtain ⟨la, hla⟩ : ∃ l, censusR t (i : Int) = l := ⟨_, rfl⟩
          have hhas : hasCol t (i : Int) = true := by
            unfold hasCol
            rw [HT1.out, decide_eq_true (by omega), decide_eq_true (by rw [HNC.out]; omega)]; rfl
          have ela : cen t.2.2 i = la := by rw [← hla]; exact (censusR_has t _ hhas).symm
          have hhas2 : hasCol (putT t r) (i : Int) = true := by
            unfold hasCol
            rw [HT2.out, decide_eq_true (by omega), decide_eq_true (by rw [HMC.out]; omega)]; rfl
          have HLA : Hid (censusR t (i : Int) = la) := hla
          obtain ⟨q, hq4, hkq, hq⟩ := kind_of HRO.out i (by rw [HN.out]; exact hlt)
          have hsn : intsV (cen (t.2.2 ++ [r]) i) = (intsV (cen t.2.2 i)).set q (.int .i64 ((cntK t.2.2 i q : Int) + 1)) := by
            have h1 := cen_snoc (t.2.2 ++ [r]) t.2.2.length (by simp) i q (by simpa using hkq) hq4
            rw [List.take_of_length_le (by simp), List.take_left' rfl] at h1
            exact h1
          have HSN : Hid (intsV (cen (t.2.2 ++ [r]) i) = (intsV la).set q (.int .i64 ((cntK t.2.2 i q : Int) + 1))) := by rw [← ela]; exact hsn
          have HLB : Hid (censusR (putT t r) (i : Int) = cen (t.2.2 ++ [r]) i) := censusR_has (putT t r) _ hhas2
          have hcl : cntK t.2.2 i q ≤ 60 := by have := cntK_le t.2.2 i (q : Int); rw [HNR.out] at this; omega
          have hcat : Hid ((intsV la)[q]? = some (.int .i64 (cntK t.2.2 i q : Int))) := by rw [← ela]; exact cen_at _ _ q hq4
          have hlal : la.length = 4 := by rw [← ela]; rfl
          have HLL : Hid (la.length = 4) := hlal
          obtain ⟨gg, go, eg, hgl, c0, _, _⟩ := RT20.out i (by rw [HN.out]; exact hlt)
          cases eg
          rw [hq] at c0
          generalize cntK t.2.2 i (q : Int) = cn at HSN hcl hcat
          clear hla ela hsn hkq hq hhas hhas2 hlal
          go_wp2_with fail
          refine (census_spec ca cc ra cr t n nr HNC.out HNR.out _ DT20.out.tab i la HLA.out).mono ?_
          rintro e w20 ⟨gA, cA, rfl, ownA, hb20⟩
          rw [HLL.out]
          have OA20 : Hid (w20.ownsRow wr.heap.size 2 1 (.slice (some ⟨gA, 0, none⟩) la.length cA) la.length (intsV la)) := ownA
          obtain ⟨s0, s1, s2, s3⟩ := bX20.out.below hb20
          have OX21 : Hid (TabAt w20 caX ccX raX (putT t r)) := OX20.out.below hb20
          have c1 : w20.cell? ⟨g, 0 + i * 3, none⟩ = some (.int .i64 (q : Int)) := by rw [hb20.cell (p := ⟨g, 0 + i * 3, none⟩) hgl]; exact c0
          have hg20 : g < w20.heap.size := by have := hb20.size; omega
          have hbA := hb20
          clear ownA hb20 p0 p1 p2 p3 c0
          go_wp2_with fail
          refine (census_impl caX ccX raX crX (putT t r) n mr HMC.out HMR.out _ OX21.out i _ HLB.out).mono ?_
          rintro e w21 ⟨gB, cB, rfl, ownB, hb21⟩
          rw [show (cen (t.2.2 ++ [r]) i).length = 4 from rfl]
          have OB21 : Hid (w21.ownsRow w20.heap.size 2 1 (.slice (some ⟨gB, 0, none⟩) 4 cB) 4 (intsV (cen (t.2.2 ++ [r]) i))) := ownB
          have OA21 : Hid (w21.ownsRow wr.heap.size 2 1 (.slice (some ⟨gA, 0, none⟩) la.length cA) la.length (intsV la)) := own_below OA20.out hb21
          have hgA : gA < w20.heap.size := (OA20.out.lt _ rfl).2
          have hgA0 : wr.heap.size ≤ gA := (OA20.out.lt _ rfl).1
          have hgB : w20.heap.size ≤ gB := (OB21.out.lt _ rfl).1
          have c2 : w21.cell? ⟨g, 0 + i * 3, none⟩ = some (.int .i64 (q : Int)) := by rw [hb21.cell (p := ⟨g, 0 + i * 3, none⟩) hg20]; exact c1
          have m0 : w21.cell? ⟨gA, q, none⟩ = some (.int .i64 (cn : Int)) := (OA21.out.cellAt q (by rw [HLL.out]; omega)).trans hcat.out
          have mf := OA21.out.frozenAt q
          have hbAB : Below wr.heap.size wr w21 := hbA.trans (hb21.mono hbA.size)
          have hs20 := hbA.size
          have hs21 := hb21.size
          clear ownB hb21 OA20 OX21 c1 s0 s1 s2 s3 hbA
          have hq0 : (0 : Int) ≤ (q : Int) := by omega
          have hq1 : (q : Int) < 4 := by omega
          have hi0 : (0 : Int) ≤ (i : Int) := by omega
          have hne : gA ≠ g := by omega
          have cA0 : w21.cell? ⟨g, i * 3, none⟩ = some (.int .i64 (q : Int)) := by rw [Nat.zero_add] at c2; exact c2
          have hAl : gA < w21.heap.size := by omega
          have hwc : IntKind.i64.wrap ((cn : Int) + 1) = (cn : Int) + 1 := by rw [IntKind.wrap_i64]; omega
          go_wp2_with fail
          refine wp_region_held_drew (S := (fun w' => w'.cell? ⟨g, i * 3, none⟩ = some (.int .i64 (q : Int)))) (by kernel_rfl) ?_ (fun hHeld => ?_)
          · exact cA0
          refine wpAnyH_take (i := 0) (by simp only [List.getElem?_toArray, List.getElem?_cons_zero]; rfl) (by kernel_rfl) (by kernel_rfl) (by kernel_rfl) (by intro _ _ _ h; exact h) (Or.inl ⟨by rfl, fun w hSw => by (dsimp only at hSw; go_simp; (try with_reducible rfl))⟩) (by assumption) ?_
          simp only [Act.put, List.setIfInBounds_toArray, List.set_cons_zero, List.set_cons_succ]
          refine wpAnyH_take (i := 1) (by simp only [List.getElem?_toArray, List.getElem?_cons_zero, List.getElem?_cons_succ]; rfl) (by kernel_rfl) (by kernel_rfl) (by kernel_rfl) (by intro _ _ _ h; exact h) (Or.inl ⟨by rfl, fun w hSw => by (dsimp only at hSw; go_simp; (try with_reducible rfl))⟩) (by assumption) ?_
          simp only [Act.put, List.setIfInBounds_toArray, List.set_cons_zero, List.set_cons_succ]
          refine wpAnyH_take (i := 2) (by simp only [List.getElem?_toArray, List.getElem?_cons_zero, List.getElem?_cons_succ]; rfl) (by kernel_rfl) (by kernel_rfl) (by kernel_rfl) (by intro _ _ _ h; exact h) (Or.inl ⟨by rfl, fun w hSw => by (dsimp only at hSw; go_simp; (try with_reducible rfl))⟩) (by assumption) ?_
          simp only [Act.put, List.setIfInBounds_toArray, List.set_cons_zero, List.set_cons_succ]
          refine wpAnyH_take (i := 3) (by simp only [List.getElem?_toArray, List.getElem?_cons_zero, List.getElem?_cons_succ]; rfl) (by kernel_rfl) (by kernel_rfl) (by kernel_rfl) (by intro _ _ _ h; exact h) (Or.inl ⟨by rfl, fun w hSw => by (dsimp only at hSw; go_simp; (try with_reducible rfl))⟩) (by assumption) ?_
          simp only [Act.put, List.setIfInBounds_toArray, List.set_cons_zero, List.set_cons_succ]
          refine wpAnyH_take (i := 4) (by simp only [List.getElem?_toArray, List.getElem?_cons_zero, List.getElem?_cons_succ]; rfl) (by kernel_rfl) (by kernel_rfl) (by kernel_rfl) (by intro _ _ _ h; exact h) (Or.inl ⟨by rfl, fun w hSw => by (dsimp only at hSw; go_simp; (try with_reducible rfl))⟩) (by assumption) ?_
          simp only [Act.put, List.setIfInBounds_toArray, List.set_cons_zero, List.set_cons_succ]
          refine wpAnyH_take (i := 5) (by simp only [List.getElem?_toArray, List.getElem?_cons_zero, List.getElem?_cons_succ]; rfl) (by kernel_rfl) (by kernel_rfl) (by kernel_rfl) (by intro _ _ _ h; exact h) (Or.inl ⟨by rfl, fun w hSw => by (dsimp only at hSw; go_simp; (try with_reducible rfl))⟩) (by assumption) ?_
          simp only [Act.put, List.setIfInBounds_toArray, List.set_cons_zero, List.set_cons_succ]
          refine wpAnyH_take (i := 6) (by simp only [List.getElem?_toArray, List.getElem?_cons_zero, List.getElem?_cons_succ]; rfl) (by kernel_rfl) (by kernel_rfl) (by kernel_rfl) (by intro _ _ _ h; exact h) (Or.inl ⟨by rfl, fun w hSw => by (dsimp only at hSw; go_simp; (try with_reducible rfl))⟩) (by assumption) ?_
          simp only [Act.put, List.setIfInBounds_toArray, List.set_cons_zero, List.set_cons_succ]
          refine wpAnyH_take (i := 7) (by simp only [List.getElem?_toArray, List.getElem?_cons_zero, List.getElem?_cons_succ]; rfl) (by kernel_rfl) (by kernel_rfl) (by kernel_rfl) (by intro _ _ _ h; exact h) (Or.inl ⟨by rfl, fun w hSw => by (dsimp only at hSw; go_simp; (try with_reducible rfl))⟩) (by assumption) ?_
          simp only [Act.put, List.setIfInBounds_toArray, List.set_cons_zero, List.set_cons_succ]
          refine wpAnyH_take (i := 8) (by simp only [List.getElem?_toArray, List.getElem?_cons_zero, List.getElem?_cons_succ]; rfl) (by kernel_rfl) (by kernel_rfl) (by kernel_rfl) (by intro _ _ _ h; exact h) (Or.inl ⟨by rfl, fun w hSw => by (dsimp only at hSw; go_simp; (try with_reducible rfl))⟩) (by assumption) ?_
          simp only [Act.put, List.setIfInBounds_toArray, List.set_cons_zero, List.set_cons_succ]
          refine wpAnyH_take (i := 9) (by simp only [List.getElem?_toArray, List.getElem?_cons_zero, List.getElem?_cons_succ]; rfl) (by kernel_rfl) (by kernel_rfl) (by kernel_rfl) (by intro _ _ _ h; exact h) (Or.inl ⟨by rfl, fun w hSw => by (dsimp only at hSw; go_simp; (try with_reducible rfl))⟩) (by assumption) ?_
          simp only [Act.put, List.setIfInBounds_toArray, List.set_cons_zero, List.set_cons_succ]
          refine wpAnyH_take (i := 10) (by simp only [List.getElem?_toArray, List.getElem?_cons_zero, List.getElem?_cons_succ]; rfl) (by kernel_rfl) (by kernel_rfl) (by kernel_rfl) (by intro _ _ _ h; exact h) (Or.inl ⟨by rfl, fun w hSw => by (dsimp only at hSw; go_simp; (try with_reducible rfl))⟩) (by assumption) ?_
          simp only [Act.put, List.setIfInBounds_toArray, List.set_cons_zero, List.set_cons_succ]
          refine wpAnyH_take (i := 11) (by simp only [List.getElem?_toArray, List.getElem?_cons_zero, List.getElem?_cons_succ]; rfl) (by kernel_rfl) (by kernel_rfl) (by kernel_rfl) (by intro _ _ _ h; exact h) (Or.inl ⟨by rfl, fun w hSw => by (dsimp only at hSw; go_simp; (try with_reducible rfl))⟩) (by assumption) ?_
          simp only [Act.put, List.setIfInBounds_toArray, List.set_cons_zero, List.set_cons_succ]
          refine wpAnyH_take (i := 12) (by simp only [List.getElem?_toArray, List.getElem?_cons_zero, List.getElem?_cons_succ]; rfl) (by kernel_rfl) (by kernel_rfl) (by kernel_rfl) (by intro _ _ _ h; exact h) (Or.inl ⟨by rfl, fun w hSw => by (dsimp only at hSw; go_simp; (try with_reducible rfl))⟩) (by assumption) ?_
          simp only [Act.put, List.setIfInBounds_toArray, List.set_cons_zero, List.set_cons_succ]
          refine wpAnyH_ready (rs := [13]) (by kernel_rfl) (by simp) ?_
          refine AllReadyH.cons (by simp only [List.getElem?_toArray, List.getElem?_cons_zero, List.getElem?_cons_succ]; rfl) ?_ AllReadyH.nil
          intro K hK
          go_simp
          refine hK.out _ _ cA0 (fun hHeld => ?_)
          clear hK K
          try simp only [Act.put, List.setIfInBounds_toArray, List.set_cons_zero, List.set_cons_succ]
          refine wpAnyH_take (i := 14) (by simp only [List.getElem?_toArray, List.getElem?_cons_zero, List.getElem?_cons_succ]; rfl) (by kernel_rfl) (by kernel_rfl) (by kernel_rfl) (by intro _ _ _ h; exact h) (Or.inl ⟨by rfl, fun w hSw => by (dsimp only at hSw; go_simp; (try with_reducible rfl))⟩) (by assumption) ?_
          simp only [Act.put, List.setIfInBounds_toArray, List.set_cons_zero, List.set_cons_succ]
          refine wpAnyH_take (i := 15) (by simp only [List.getElem?_toArray, List.getElem?_cons_zero, List.getElem?_cons_succ]; rfl) (by kernel_rfl) (by kernel_rfl) (by kernel_rfl) (by intro _ _ _ h; exact h) (Or.inl ⟨by rfl, fun w hSw => by (dsimp only at hSw; go_simp; (try with_reducible rfl))⟩) (by assumption) ?_
          simp only [Act.put, List.setIfInBounds_toArray, List.set_cons_zero, List.set_cons_succ]
          refine wpAnyH_ready (rs := [16]) (by kernel_rfl) (by simp) ?_
          refine AllReadyH.cons (by simp only [List.getElem?_toArray, List.getElem?_cons_zero, List.getElem?_cons_succ]; rfl) ?_ AllReadyH.nil
          intro K hK
          go_simp
          refine hK.out _ _ ?_ (fun hHeld => ?_)
          · try dsimp only
            show (w21.setCell ⟨gA, q, none⟩ (.int .i64 ((cn : Int) + 1))).cell? ⟨g, i * 3, none⟩ = _
            rw [cell_far _ _ _ _ _ _ hne.symm]; exact cA0
          clear hK K
          try simp only [Act.put, List.setIfInBounds_toArray, List.set_cons_zero, List.set_cons_succ]
          refine wpAnyH_done (by kernel_rfl) ?_ _
          obtain ⟨w22, hw22⟩ : ∃ x, x = (w21.setCell ⟨gA, q, none⟩ (.int .i64 ((cn : Int) + 1))).drew := ⟨_, rfl⟩
          rw [← hw22]
          have IA : Hid (IntsAt w22 (some ⟨gA, 0, none⟩) (cen (t.2.2 ++ [r]) i)) := by
            have h1 := (OA21.out.stored q (.int .i64 ((cn : Int) + 1))).1
            rw [← HSN.out, HLL.out] at h1
            have : IntsAt w22 (some ⟨gA, 0, none⟩) (cen (t.2.2 ++ [r]) i) := by rw [hw22]; exact own_ints h1
            exact this
          have IB : Hid (IntsAt w22 (some ⟨gB, 0, none⟩) (cen (t.2.2 ++ [r]) i)) := by
            have h1 : IntsAt w21 (some ⟨gB, 0, none⟩) (cen (t.2.2 ++ [r]) i) := own_ints OB21.out
            have : IntsAt w22 (some ⟨gB, 0, none⟩) (cen (t.2.2 ++ [r]) i) := by
              rw [hw22]
              exact (h1.keepS (P := fun b => b = gA) ((KeepS.refl (fun b => b = gA) w21).setCell (p := ⟨gA, q, none⟩) rfl _) (by rintro b ⟨_, o, e⟩ hb; cases e; omega)).below (Below.refl _ _).drew
            exact this
          have hb22 : Below wr.heap.size wr w22 := by rw [hw22]; exact (hbAB.setCell (p := ⟨gA, q, none⟩) hgA0 _).drew
          clear hw22 OA21 OB21 m0 mf c2 cA0 hHeld
          go_wp2_with fail
          refine (likeints 4 _ _ _ _ (cen (t.2.2 ++ [r]) i) rfl _ IA.out IB.out (by unfold maxLen; omega)).mono ?_
          rintro e w23 ⟨rfl, hb23⟩
          have hbz : Below wd.heap.size wd w23 := hbw.trans ((hb22.trans (hb23.mono hb22.size)).mono hbw.size)
          go_wp2
          go_roundw
          case rel => exact ⟨i + 1, by omega, by go_num, hbz⟩
          case measure => simp [intOf]; omega
        · have hin : i = n := by omega
          subst hin
          have q5 : ¬ ((i : Int) < (i : Int)) := by omega
          have hRX : RowsAt wr raX (t.2.2 ++ [r]) := OX20.out.rows
          have hlX : t.2.2.length < (t.2.2 ++ [r]).length := by simp
          obtain ⟨gh, go, ah, ch, eh, hgh, c0, hrowh, _, _, _⟩ := hRX t.2.2.length hlX
          have erow : (t.2.2 ++ [r])[t.2.2.length]'hlX = r := by simp
          rw [erow, HN.out, HNR.out] at c0
          rw [erow] at hrowh
          have RH : Hid (RowAt wr ah r) := hrowh
          have RL : Hid (RowsAt wr raX t.2.2) := by
            have : RowsAt wr raX t.2.2 := fun j hj => by
              have hj2 : j < (t.2.2 ++ [r]).length := by simp; omega
              have := hRX j hj2
              have e2 : (t.2.2 ++ [r])[j]'hj2 = t.2.2[j] := List.getElem_append_left hj
              rw [e2] at this
              exact this
            exact this
          subst eh
          have hrc : (nr : Int) ≤ (crX : Int) := by have := HEM.out; omega
          have hn1 : (nr : Int) < (mr : Int) := by have := HEM.out; omega
          have hnr0 : (0 : Int) ≤ (nr : Int) := by omega
          have hwrap : IntKind.i64.wrap ((nr : Int) + 1) = (mr : Int) := by have := HEM.out; rw [IntKind.wrap_i64]; omega
          have heqn : ((mr : Int) == (mr : Int)) = true := by simp
          clear hRX hrowh
          go_wp2_with fail
          refine wp_region_held_drew (S := (fun w' => (w'.cell? ⟨w1.heap.size, 0, none⟩ = some (.string t.1) ∧ w'.cell? ⟨w1.heap.size, 1, none⟩ = some (.slice ca i cc) ∧ w'.cell? ⟨w1.heap.size, 2, none⟩ = some (.slice ra nr cr)) ∧ (w'.cell? ⟨w2.heap.size, 0, none⟩ = some (.string (putT t r).1) ∧ w'.cell? ⟨w2.heap.size, 1, none⟩ = some (.slice caX i ccX) ∧ w'.cell? ⟨w2.heap.size, 2, none⟩ = some (.slice (some ⟨gh, go, none⟩) mr crX)) ∧ w'.cell? ⟨gh, go + nr, none⟩ = some (.slice ah i ch))) (by kernel_rfl) ?_ (fun hHeld => ?_)
          · exact ⟨⟨p0, p1, p2⟩, ⟨s0, s1, s2⟩, c0⟩
          refine wpAnyH_take (i := 0) (by simp only [List.getElem?_toArray, List.getElem?_cons_zero]; rfl) (by kernel_rfl) (by kernel_rfl) (by kernel_rfl) (by intro _ _ _ h; exact h) (Or.inl ⟨by rfl, fun w hSw => by (dsimp only at hSw; go_simp; (try with_reducible rfl))⟩) (by assumption) ?_
          simp only [Act.put, List.setIfInBounds_toArray, List.set_cons_zero, List.set_cons_succ]
          refine wpAnyH_ready (rs := [1]) (by kernel_rfl) (by simp) ?_
          refine AllReadyH.cons (by simp only [List.getElem?_toArray, List.getElem?_cons_zero, List.getElem?_cons_succ]; rfl) ?_ AllReadyH.nil
          intro K hK
          go_simp
          refine (table_impl _ _ _ _ (putT t r) i mr HMC.out HMR.out _ (OX20.out.below (Below.refl _ _).drew) true HT2.out).mono ?_
          rintro e w20 ⟨rfl, hb20'⟩
          have hb20 : Below wr.heap.size wr w20 := undrew hb20'
          obtain ⟨p0, p1, p2, p3⟩ := bT20.out.below hb20
          obtain ⟨s0, s1, s2, s3⟩ := bX20.out.below hb20
          have c1 : w20.cell? ⟨gh, go + nr, none⟩ = some (.slice ah i ch) := by rw [hb20.cell (p := ⟨gh, go + nr, none⟩) hgh]; exact c0
          have hgh20 : gh < w20.heap.size := by have := hb20.size; omega
          have hx20 := chain hxr hb20
          clear hb20'
          go_wp2_with fail
          refine hK.out _ _ ⟨⟨p0, p1, p2⟩, ⟨s0, s1, s2⟩, c1⟩ (fun hHeld => ?_)
          clear hK K
          try simp only [Act.put, List.setIfInBounds_toArray, List.set_cons_zero, List.set_cons_succ]
          refine wpAnyH_take (i := 2) (by simp only [List.getElem?_toArray, List.getElem?_cons_zero, List.getElem?_cons_succ]; rfl) (by kernel_rfl) (by kernel_rfl) (by kernel_rfl) (by intro _ _ _ h; exact h) (Or.inl ⟨by rfl, fun w hSw => by (dsimp only at hSw; go_simp; (try with_reducible rfl))⟩) (by assumption) ?_
          simp only [Act.put, List.setIfInBounds_toArray, List.set_cons_zero, List.set_cons_succ]
          refine wpAnyH_take (i := 3) (by simp only [List.getElem?_toArray, List.getElem?_cons_zero, List.getElem?_cons_succ]; rfl) (by kernel_rfl) (by kernel_rfl) (by kernel_rfl) (by intro _ _ _ h; exact h) (Or.inl ⟨by rfl, fun w hSw => by (dsimp only at hSw; go_simp; (try with_reducible rfl))⟩) (by assumption) ?_
          simp only [Act.put, List.setIfInBounds_toArray, List.set_cons_zero, List.set_cons_succ]
          refine wpAnyH_take (i := 4) (by simp only [List.getElem?_toArray, List.getElem?_cons_zero, List.getElem?_cons_succ]; rfl) (by kernel_rfl) (by kernel_rfl) (by kernel_rfl) (by intro _ _ _ h; exact h) (Or.inl ⟨by rfl, fun w hSw => by (dsimp only at hSw; go_simp; (try with_reducible rfl))⟩) (by assumption) ?_
          simp only [Act.put, List.setIfInBounds_toArray, List.set_cons_zero, List.set_cons_succ]
          refine wpAnyH_take (i := 5) (by simp only [List.getElem?_toArray, List.getElem?_cons_zero, List.getElem?_cons_succ]; rfl) (by kernel_rfl) (by kernel_rfl) (by kernel_rfl) (by intro _ _ _ h; exact h) (Or.inl ⟨by rfl, fun w hSw => by (dsimp only at hSw; go_simp; (try with_reducible rfl))⟩) (by assumption) ?_
          simp only [Act.put, List.setIfInBounds_toArray, List.set_cons_zero, List.set_cons_succ]
          refine wpAnyH_take (i := 6) (by simp only [List.getElem?_toArray, List.getElem?_cons_zero, List.getElem?_cons_succ]; rfl) (by kernel_rfl) (by kernel_rfl) (by kernel_rfl) (by intro _ _ _ h; exact h) (Or.inl ⟨by rfl, fun w hSw => by (dsimp only at hSw; go_simp; (try with_reducible rfl))⟩) (by assumption) ?_
          simp only [Act.put, List.setIfInBounds_toArray, List.set_cons_zero, List.set_cons_succ]
          refine wpAnyH_take (i := 7) (by simp only [List.getElem?_toArray, List.getElem?_cons_zero, List.getElem?_cons_succ]; rfl) (by kernel_rfl) (by kernel_rfl) (by kernel_rfl) (by intro _ _ _ h; exact h) (Or.inl ⟨by rfl, fun w hSw => by (dsimp only at hSw; go_simp; (try with_reducible rfl))⟩) (by assumption) ?_
          simp only [Act.put, List.setIfInBounds_toArray, List.set_cons_zero, List.set_cons_succ]
          refine wpAnyH_take (i := 8) (by simp only [List.getElem?_toArray, List.getElem?_cons_zero, List.getElem?_cons_succ]; rfl) (by kernel_rfl) (by kernel_rfl) (by kernel_rfl) (by intro _ _ _ h; exact h) (Or.inl ⟨by rfl, fun w hSw => by (dsimp only at hSw; go_simp; (try with_reducible rfl))⟩) (by assumption) ?_
          simp only [Act.put, List.setIfInBounds_toArray, List.set_cons_zero, List.set_cons_succ]
          refine wpAnyH_take (i := 9) (by simp only [List.getElem?_toArray, List.getElem?_cons_zero, List.getElem?_cons_succ]; rfl) (by kernel_rfl) (by kernel_rfl) (by kernel_rfl) (by intro _ _ _ h; exact h) (Or.inl ⟨by rfl, fun w hSw => by (dsimp only at hSw; go_simp; (try with_reducible rfl))⟩) (by assumption) ?_
          simp only [Act.put, List.setIfInBounds_toArray, List.set_cons_zero, List.set_cons_succ]
          refine wpAnyH_take (i := 10) (by simp only [List.getElem?_toArray, List.getElem?_cons_zero, List.getElem?_cons_succ]; rfl) (by kernel_rfl) (by kernel_rfl) (by kernel_rfl) (by intro _ _ _ h; exact h) (Or.inl ⟨by rfl, fun w hSw => by (dsimp only at hSw; go_simp; (try with_reducible rfl))⟩) (by assumption) ?_
          simp only [Act.put, List.setIfInBounds_toArray, List.set_cons_zero, List.set_cons_succ]
          refine wpAnyH_take (i := 11) (by simp only [List.getElem?_toArray, List.getElem?_cons_zero, List.getElem?_cons_succ]; rfl) (by kernel_rfl) (by kernel_rfl) (by kernel_rfl) (by intro _ _ _ h; exact h) (Or.inl ⟨by rfl, fun w hSw => by (dsimp only at hSw; go_simp; (try with_reducible rfl))⟩) (by assumption) ?_
          simp only [Act.put, List.setIfInBounds_toArray, List.set_cons_zero, List.set_cons_succ]
          refine wpAnyH_take (i := 12) (by simp only [List.getElem?_toArray, List.getElem?_cons_zero, List.getElem?_cons_succ]; rfl) (by kernel_rfl) (by kernel_rfl) (by kernel_rfl) (by intro _ _ _ h; exact h) (Or.inl ⟨by rfl, fun w hSw => by (dsimp only at hSw; go_simp; (try with_reducible rfl))⟩) (by assumption) ?_
          simp only [Act.put, List.setIfInBounds_toArray, List.set_cons_zero, List.set_cons_succ]
          refine wpAnyH_take (i := 13) (by simp only [List.getElem?_toArray, List.getElem?_cons_zero, List.getElem?_cons_succ]; rfl) (by kernel_rfl) (by kernel_rfl) (by kernel_rfl) (by intro _ _ _ h; exact h) (Or.inl ⟨by rfl, fun w hSw => by (dsimp only at hSw; go_simp; (try with_reducible rfl))⟩) (by assumption) ?_
          simp only [Act.put, List.setIfInBounds_toArray, List.set_cons_zero, List.set_cons_succ]
          refine wpAnyH_take (i := 14) (by simp only [List.getElem?_toArray, List.getElem?_cons_zero, List.getElem?_cons_succ]; rfl) (by kernel_rfl) (by kernel_rfl) (by kernel_rfl) (by intro _ _ _ h; exact h) (Or.inl ⟨by rfl, fun w hSw => by (dsimp only at hSw; go_simp; (try with_reducible rfl))⟩) (by assumption) ?_
          simp only [Act.put, List.setIfInBounds_toArray, List.set_cons_zero, List.set_cons_succ]
          refine wpAnyH_take (i := 15) (by simp only [List.getElem?_toArray, List.getElem?_cons_zero, List.getElem?_cons_succ]; rfl) (by kernel_rfl) (by kernel_rfl) (by kernel_rfl) (by intro _ _ _ h; exact h) (Or.inl ⟨by rfl, fun w hSw => by (dsimp only at hSw; go_simp; (try with_reducible rfl))⟩) (by assumption) ?_
          simp only [Act.put, List.setIfInBounds_toArray, List.set_cons_zero, List.set_cons_succ]
          refine wpAnyH_take (i := 16) (by simp only [List.getElem?_toArray, List.getElem?_cons_zero, List.getElem?_cons_succ]; rfl) (by kernel_rfl) (by kernel_rfl) (by kernel_rfl) (by intro _ _ _ h; exact h) (Or.inl ⟨by rfl, fun w hSw => by (dsimp only at hSw; go_simp; (try with_reducible rfl))⟩) (by assumption) ?_
          simp only [Act.put, List.setIfInBounds_toArray, List.set_cons_zero, List.set_cons_succ]
          refine wpAnyH_ready (rs := [17]) (by kernel_rfl) (by simp) ?_
          refine AllReadyH.cons (by simp only [List.getElem?_toArray, List.getElem?_cons_zero, List.getElem?_cons_succ]; rfl) ?_ AllReadyH.nil
          intro K hK
          go_simp
          refine (likerowsN nr _ _ _ _ t.2.2 HNR.out _ (RL.out.below hb20) (DT20.out.below hb20).tab.rows (by unfold maxLen; omega)).mono ?_
          rintro e w21 ⟨rfl, hb21⟩
          have hb2 := hb20.trans (hb21.mono hb20.size)
          obtain ⟨p0, p1, p2, p3⟩ := bT20.out.below hb2
          obtain ⟨s0, s1, s2, s3⟩ := bX20.out.below hb2
          have c2 : w21.cell? ⟨gh, go + nr, none⟩ = some (.slice ah i ch) := by rw [hb21.cell (p := ⟨gh, go + nr, none⟩) hgh20]; exact c1
          have hx21 := chain hx20 hb21
          go_wp2_with fail
          refine hK.out _ _ ⟨⟨p0, p1, p2⟩, ⟨s0, s1, s2⟩, c2⟩ (fun hHeld => ?_)
          clear hK K
          try simp only [Act.put, List.setIfInBounds_toArray, List.set_cons_zero, List.set_cons_succ]
          refine wpAnyH_take (i := 18) (by simp only [List.getElem?_toArray, List.getElem?_cons_zero, List.getElem?_cons_succ]; rfl) (by kernel_rfl) (by kernel_rfl) (by kernel_rfl) (by intro _ _ _ h; exact h) (Or.inl ⟨by rfl, fun w hSw => by (dsimp only at hSw; go_simp; (try with_reducible rfl))⟩) (by assumption) ?_
          simp only [Act.put, List.setIfInBounds_toArray, List.set_cons_zero, List.set_cons_succ]
          refine wpAnyH_take (i := 19) (by simp only [List.getElem?_toArray, List.getElem?_cons_zero, List.getElem?_cons_succ]; rfl) (by kernel_rfl) (by kernel_rfl) (by kernel_rfl) (by intro _ _ _ h; exact h) (Or.inl ⟨by rfl, fun w hSw => by (dsimp only at hSw; go_simp; (try with_reducible rfl))⟩) (by assumption) ?_
          simp only [Act.put, List.setIfInBounds_toArray, List.set_cons_zero, List.set_cons_succ]
          refine wpAnyH_take (i := 20) (by simp only [List.getElem?_toArray, List.getElem?_cons_zero, List.getElem?_cons_succ]; rfl) (by kernel_rfl) (by kernel_rfl) (by kernel_rfl) (by intro _ _ _ h; exact h) (Or.inl ⟨by rfl, fun w hSw => by (dsimp only at hSw; go_simp; (try with_reducible rfl))⟩) (by assumption) ?_
          simp only [Act.put, List.setIfInBounds_toArray, List.set_cons_zero, List.set_cons_succ]
          refine wpAnyH_take (i := 21) (by simp only [List.getElem?_toArray, List.getElem?_cons_zero, List.getElem?_cons_succ]; rfl) (by kernel_rfl) (by kernel_rfl) (by kernel_rfl) (by intro _ _ _ h; exact h) (Or.inl ⟨by rfl, fun w hSw => by (dsimp only at hSw; go_simp; (try with_reducible rfl))⟩) (by assumption) ?_
          simp only [Act.put, List.setIfInBounds_toArray, List.set_cons_zero, List.set_cons_succ]
          refine wpAnyH_take (i := 22) (by simp only [List.getElem?_toArray, List.getElem?_cons_zero, List.getElem?_cons_succ]; rfl) (by kernel_rfl) (by kernel_rfl) (by kernel_rfl) (by intro _ _ _ h; exact h) (Or.inl ⟨by rfl, fun w hSw => by (dsimp only at hSw; go_simp; (try with_reducible rfl))⟩) (by assumption) ?_
          simp only [Act.put, List.setIfInBounds_toArray, List.set_cons_zero, List.set_cons_succ]
          refine wpAnyH_take (i := 23) (by simp only [List.getElem?_toArray, List.getElem?_cons_zero, List.getElem?_cons_succ]; rfl) (by kernel_rfl) (by kernel_rfl) (by kernel_rfl) (by intro _ _ _ h; exact h) (Or.inl ⟨by rfl, fun w hSw => by (dsimp only at hSw; go_simp; (try with_reducible rfl))⟩) (by assumption) ?_
          simp only [Act.put, List.setIfInBounds_toArray, List.set_cons_zero, List.set_cons_succ]
          refine wpAnyH_take (i := 24) (by simp only [List.getElem?_toArray, List.getElem?_cons_zero, List.getElem?_cons_succ]; rfl) (by kernel_rfl) (by kernel_rfl) (by kernel_rfl) (by intro _ _ _ h; exact h) (Or.inl ⟨by rfl, fun w hSw => by (dsimp only at hSw; go_simp; (try with_reducible rfl))⟩) (by assumption) ?_
          simp only [Act.put, List.setIfInBounds_toArray, List.set_cons_zero, List.set_cons_succ]
          refine wpAnyH_take (i := 25) (by simp only [List.getElem?_toArray, List.getElem?_cons_zero, List.getElem?_cons_succ]; rfl) (by kernel_rfl) (by kernel_rfl) (by kernel_rfl) (by intro _ _ _ h; exact h) (Or.inl ⟨by rfl, fun w hSw => by (dsimp only at hSw; go_simp; (try with_reducible rfl))⟩) (by assumption) ?_
          simp only [Act.put, List.setIfInBounds_toArray, List.set_cons_zero, List.set_cons_succ]
          have QR : Hid (Calls Try.prog 10 #[.slice ah i ch, .slice (some ⟨g, 0, none⟩) i k] w21 fun e w' => e = .returned (.bool true) ∧ Below w21.heap.size w21 w') := by
            have := like_row ah (some ⟨g, 0, none⟩) ch k r w21 (RH.out.below hb2) (RT20.out.below hb2) (by rw [HN.out]; unfold maxLen; omega)
            rw [HN.out] at this
            exact this
          refine wpAnyH_ready (rs := [26]) (by kernel_rfl) (by simp) ?_
          refine AllReadyH.cons (by simp only [List.getElem?_toArray, List.getElem?_cons_zero, List.getElem?_cons_succ]; rfl) ?_ AllReadyH.nil
          intro K hK
          go_simp
          refine QR.out.mono ?_
          rintro e w22 ⟨rfl, hb22⟩
          have hb3 := hb2.trans (hb22.mono hb2.size)
          obtain ⟨p0, p1, p2, p3⟩ := bT20.out.below hb3
          obtain ⟨s0, s1, s2, s3⟩ := bX20.out.below hb3
          have c3 : w22.cell? ⟨gh, go + nr, none⟩ = some (.slice ah i ch) := by rw [hb3.cell (p := ⟨gh, go + nr, none⟩) hgh]; exact c0
          have hx22 := chain hx21 hb22
          go_wp2_with fail
          refine hK.out _ _ ⟨⟨p0, p1, p2⟩, ⟨s0, s1, s2⟩, c3⟩ (fun hHeld => ?_)
          clear hK K
          try simp only [Act.put, List.setIfInBounds_toArray, List.set_cons_zero, List.set_cons_succ]
          refine wpAnyH_take (i := 27) (by simp only [List.getElem?_toArray, List.getElem?_cons_zero, List.getElem?_cons_succ]; rfl) (by kernel_rfl) (by kernel_rfl) (by kernel_rfl) (by intro _ _ _ h; exact h) (Or.inl ⟨by rfl, fun w hSw => by (dsimp only at hSw; go_simp; (try with_reducible rfl))⟩) (by assumption) ?_
          simp only [Act.put, List.setIfInBounds_toArray, List.set_cons_zero, List.set_cons_succ]
          refine wpAnyH_take (i := 28) (by simp only [List.getElem?_toArray, List.getElem?_cons_zero, List.getElem?_cons_succ]; rfl) (by kernel_rfl) (by kernel_rfl) (by kernel_rfl) (by intro _ _ _ h; exact h) (Or.inl ⟨by rfl, fun w hSw => by (dsimp only at hSw; go_simp; (try with_reducible rfl))⟩) (by assumption) ?_
          simp only [Act.put, List.setIfInBounds_toArray, List.set_cons_zero, List.set_cons_succ]
          refine wpAnyH_done (by kernel_rfl) ?_ _
          go_wp2
          go_ret
          exact ⟨rfl, hx22⟩

end tabLaw
end Go.Proofs.Ytbjpjhhdnbclbab
