/-
  A part of the proof: SumS, Tab1, Rank2, Rank3, Rank4, Tab6, TextS, ShowMathS, ShowSumS.
-/
import Derived.Test.YtjjkdbmjloolaaaGreatDoorPart1
import Derived.Test.YtjjkdbmjloolaaaGreatDoorPart7
import Derived.Test.YtjjkdbmjloolaaaGreatDoorPart5
import Derived.Test.YtjjkdbmjloolaaaGreatDoorPart2
import Derived.Laws.AppendOwnNone
import Derived.Test.YtjjkdbmjloolaaaGreatDoorPart6
import Derived.Test.YtjjkdbmjloolaaaGreatDoorPart3

namespace Go.Proofs.YtjjkdbmjloolaaaGreatDoor
open Go.ChangeShapes Go.WideShapes Go.ChangeAt Go.RowKit
attribute [local go_sem ↓] Go.wp_at_zero Go.wp_at_succ
attribute [local simp] World.cell?_alloc_past World.cell?_alloc_at World.frozen?_alloc_at cell_far cell_off cell_here World.frozen?_alloc_past
theorem needs_spec (k : Int) (n : Nat) (hn : needsI k = n) (w : World) :
  Calls Tryz.prog 72 #[.int .i64 k] w fun e w' => e = .returned (.int .i64 (n : Int)) ∧ w' = w := by
 unfold needsI at hn
 by_cases h1 : k ≤ 2
 · rw [if_pos h1] at hn
  subst hn
  go_enter Tryz.func72, Tryz.ntmps72
  go_wp2
  go_ret
  exact ⟨rfl, rfl⟩
 rw [if_neg h1] at hn
 by_cases h2 : 11 ≤ k
 · rw [if_pos h2] at hn
  subst hn
  go_enter Tryz.func72, Tryz.ntmps72
  go_wp2
  go_ret
  exact ⟨rfl, rfl⟩
 rw [if_neg h2] at hn
 subst hn
 go_enter Tryz.func72, Tryz.ntmps72
 go_wp2
 go_ret
 exact ⟨rfl, rfl⟩
theorem zero_txt (s : ByteArray) (b : Bool) (h : decide (s = ⟨#[]⟩) = b) : (s.toList == []) = b := by
 rw [← h]
 by_cases e : s = ⟨#[]⟩
 · rw [decide_eq_true e, e]; simp [Lib.toList_data]
 · rw [decide_eq_false e]
  have := txt_other e
  rw [show (⟨#[]⟩ : ByteArray).toList = [] from by rw [Lib.toList_data]] at this
  exact this
theorem run_eqlI (k ck cn : Int) (ct s : ByteArray) (w : World) :
  (binOp .eql 97 (.agg #[.int .i64 k, .int .i64 ck, .int .i64 cn, .string ct, .string s]) (.agg #[.int .i64 k, .int .i64 0, .int .i64 0, .string ⟨#[]⟩, .string ⟨#[]⟩])).run Tryz.prog w = .ok (.bool ((ck == 0 && cn == 0) && (ct.toList == [] && s.toList == []))) w := by
 by_cases h1 : ck = 0
 · by_cases h2 : cn = 0
  · subst h1 h2
   by_cases h3 : ct.toList = []
   · by_cases h4 : s.toList = []
    · go_simp
    · go_simp
   · go_simp
  · go_simp
 · go_simp
set_option maxHeartbeats 2000000 in
theorem item_spec (x : TI) (w : World) (h1 : x.2.2.size ≤ maxLen) (h2 : x.2.1.2.2.size ≤ maxLen) (b : Bool) (hb : itemB x = b) :
  Calls Tryz.prog 117 #[.agg #[.int .i64 x.1, .int .i64 x.2.1.1, .int .i64 x.2.1.2.1, .string x.2.1.2.2, .string x.2.2]] w fun e w' => e = .returned (.bool b) ∧ Below w.heap.size w w' := by
 obtain ⟨k, ⟨ck, cn, ct⟩, s⟩ := x
 dsimp only at h1 h2 ⊢
 have hA : Below w.heap.size w (w.alloc (.cells #[.int .i64 k, .int .i64 ck, .int .i64 cn, .string ct, .string s] 97)) := (Below.refl _ _).alloc (Nat.le_refl _) _
 unfold itemB at hb
 dsimp only at hb
 by_cases k1 : k = 1
 · subst k1
  rw [if_pos rfl] at hb
  obtain ⟨b1, e1⟩ : ∃ x, okC (ck, cn, ct) = x := ⟨_, rfl⟩
  obtain ⟨b2, e2⟩ : ∃ x, decide (s = ⟨#[]⟩) = x := ⟨_, rfl⟩
  rw [e1, e2] at hb
  have hq := zero_txt s b2 e2
  have E1 := hid e1
  clear e1 e2
  cases b1
  · obtain rfl : false = b := hb
   go_enter Tryz.func117, Tryz.ntmps117
   go_wp2_with fail
   refine (ok_specb ck cn ct false E1.out _ h2).mono ?_
   rintro e w1 ⟨rfl, hb1⟩
   have hx := chain hA hb1
   go_wp2
   go_ret
   exact ⟨rfl, hx⟩
  · obtain rfl : b2 = b := hb
   go_enter Tryz.func117, Tryz.ntmps117
   go_wp2_with fail
   refine (ok_specb ck cn ct true E1.out _ h2).mono ?_
   rintro e w1 ⟨rfl, hb1⟩
   have hx := chain hA hb1
   obtain ⟨hc, hf⟩ := bcell hb1
   have c1 : w1.cell? ⟨w.heap.size, 4, none⟩ = some (.string s) := by rw [hc _ _ (by simp)]; simp
   clear hc hf
   go_wp2
   go_ret
   exact ⟨rfl, hx⟩
 rw [if_neg k1] at hb
 by_cases k2 : k = 2
 · subst k2
  rw [if_pos rfl] at hb
  obtain ⟨b1, e1⟩ : ∃ x, nameK s = x := ⟨_, rfl⟩
  obtain ⟨b2, e2⟩ : ∃ x, decide ((ck, cn, ct) = zeroC) = x := ⟨_, rfl⟩
  rw [e1, e2] at hb
  have hz := zeroC_same (ck, cn, ct) b2 e2
  dsimp only at hz
  have hq := fun w' => run_eql ck cn ct 0 0 ⟨#[]⟩ w'
  rw [hz] at hq
  have E1 := hid e1
  clear e1 e2 hz
  cases b1
  · obtain rfl : false = b := hb
   go_enter Tryz.func117, Tryz.ntmps117
   go_wp2_with fail
   refine (namek_spec s _ h1 false E1.out).mono ?_
   rintro e w1 ⟨rfl, hb1⟩
   have hx := chain hA hb1
   go_wp2
   go_ret
   exact ⟨rfl, hx⟩
  · obtain rfl : b2 = b := hb
   go_enter Tryz.func117, Tryz.ntmps117
   go_wp2_with fail
   refine (namek_spec s _ h1 true E1.out).mono ?_
   rintro e w1 ⟨rfl, hb1⟩
   have hx := chain hA hb1
   obtain ⟨hc, hf⟩ := bcell hb1
   have c1 : w1.cell? ⟨w.heap.size, 1, none⟩ = some (.int .i64 ck) := by rw [hc _ _ (by simp)]; simp
   have c2 : w1.cell? ⟨w.heap.size, 2, none⟩ = some (.int .i64 cn) := by rw [hc _ _ (by simp)]; simp
   have c3 : w1.cell? ⟨w.heap.size, 3, none⟩ = some (.string ct) := by rw [hc _ _ (by simp)]; simp
   clear hc hf
   go_wp2
   go_ret
   exact ⟨rfl, hx⟩
 rw [if_neg k2] at hb
 have hq := fun w' => run_eqlI k ck cn ct s w'
 obtain ⟨b2, e2⟩ : ∃ x, ((ck == 0 && cn == 0) && (ct.toList == [] && s.toList == [])) = x := ⟨_, rfl⟩
 rw [e2] at hq
 have e3 : decide (((k, (ck, cn, ct), s) : TI) = opI k) = b2 := by
  rw [← e2]
  have g1 := zero_txt ct _ rfl
  have g2 := zero_txt s _ rfl
  rw [g1, g2, Bool.eq_iff_iff, decide_eq_true_eq]
  unfold opI zeroC
  simp [and_assoc]
 rw [e3] at hb
 clear e2 e3
 by_cases h3 : 3 ≤ k ∧ k ≤ 12
 · rw [decide_eq_true h3.1, decide_eq_true h3.2] at hb
  obtain rfl : b2 = b := by simpa using hb
  clear hb
  go_enter Tryz.func117, Tryz.ntmps117
  go_wp2_with fail
  refine (in_spec k 3 12 _).mono ?_
  rintro e w1 ⟨rfl, rfl⟩
  rw [decide_eq_true h3.1, decide_eq_true h3.2]
  go_wp2
  go_ret
  exact ⟨rfl, hA⟩
 · have hbf : b = false := by
   rw [← hb]
   by_cases h4 : 3 ≤ k
   · rw [decide_eq_false (fun h5 => h3 ⟨h4, h5⟩)]; simp
   · rw [decide_eq_false h4]; simp
  subst hbf
  clear hb
  have h5 : (decide (3 ≤ k) && decide (k ≤ 12)) = false := by
   by_cases h4 : 3 ≤ k
   · rw [decide_eq_false (fun h5 => h3 ⟨h4, h5⟩)]; simp
   · rw [decide_eq_false h4]; simp
  go_enter Tryz.func117, Tryz.ntmps117
  go_wp2_with fail
  refine (in_spec k 3 12 _).mono ?_
  rintro e w1 ⟨rfl, rfl⟩
  rw [h5]
  go_wp2
  go_ret
  exact ⟨rfl, hA⟩
theorem heap_step (l : List TI) (k : Nat) (h : k < l.length) (c : Nat) (hc : heapN (l.take k) 0 = some c) : heapN (l.take (k + 1)) 0 = if itemB l[k] = true ∧ needsI l[k].1 ≤ c then some (c + 1 - needsI l[k].1) else none := by
 rw [List.take_succ_eq_append_getElem h, heapN_append, hc]
 simp only [Option.bind_some, heapN]
theorem heap_no (l : List TI) (k : Nat) (h : heapN (l.take k) 0 = none) : sumB l = false := by
 unfold sumB
 have : heapN l 0 = none := by
  conv => lhs; rw [← List.take_append_drop k l]
  rw [heapN_append, h]; rfl
 rw [this]; simp
set_option maxRecDepth 100000 in
set_option maxHeartbeats 2000000 in
theorem sum_spec (a : Option Addr) (cap : Nat) (l : List TI) (n : Nat) (hn : l.length = n) (w : World) (hrow : ItmAt w a l) (hfit : FitItm l) (hm : n ≤ maxLen) (b : Bool) (hb : sumB l = b) :
  Calls Tryz.prog 92 #[.slice a n cap] w fun e w' => e = .returned (.bool b) ∧ Below w.heap.size w w' := by
 subst hn
 have HR := hid hrow
 have HF := hid hfit
 have HB := hid hb
 clear hrow hfit hb
 unfold maxLen at hm
 go_enter Tryz.func92, Tryz.ntmps92
 go_wp2
 go_loopw [3, 4] (fun nv kk wr => ∃ k c : Nat, k ≤ l.length ∧ kk = .int .i64 k ∧ nv = .int .i64 c ∧ c ≤ k ∧ Hid (heapN (l.take k) 0 = some c) ∧ Below w.heap.size w wr) (fun _ kk _ => l.length - (intOf kk).toNat)
 case atStart => exact ⟨0, 0, Nat.zero_le _, rfl, rfl, Nat.le_refl _, rfl, Below.refl _ _⟩
 case round =>
  obtain ⟨k, c, hk, rfl, rfl, hck, hhp, hbw⟩ := hrel
  by_cases hlt : k < l.length
  · obtain ⟨g, o, rfl, hgw, c0, c1, c2, c3, c4⟩ := HR.out.below hbw k hlt
   have hi0 : (0 : Int) ≤ (k : Int) := by omega
   have hi1 : (k : Int) < (l.length : Int) := by omega
   obtain ⟨hf1, hf2⟩ := HF.out k hlt
   have hst := heap_step l k hlt c hhp.out
   have HNO : Hid (heapN (l.take (k + 1)) 0 = none → b = false) := by
    have : heapN (l.take (k + 1)) 0 = none → b = false := fun h => by rw [← HB.out]; exact heap_no l (k + 1) h
    exact this
   obtain ⟨r, hr⟩ : ∃ r, itemB l[k] = r := ⟨_, rfl⟩
   obtain ⟨d, hd⟩ : ∃ d, needsI l[k].1 = d := ⟨_, rfl⟩
   rw [hr, hd] at hst
   have HST := hid hst
   have HRR := hid hr
   have HD := hid hd
   have hd2 : d ≤ 2 := by rw [← hd]; unfold needsI; (repeat' split) <;> omega
   clear hst hr hd
   generalize l[k] = x at c0 c1 c2 c3 c4 hf1 hf2 HRR HD
   go_wp2_with fail
   refine (item_spec x _ hf2 hf1 r HRR.out).mono ?_
   rintro e w1 ⟨rfl, hb1⟩
   have hx1 := chain hbw hb1
   cases r
   · obtain rfl : b = false := HNO.out (by rw [HST.out, if_neg (by simp)])
    clear c0 c1 c2 c3 c4
    go_wp2
    go_ret
    exact ⟨rfl, hx1⟩
   rw [← hb1.cell (p := ⟨g, _, none⟩) hgw] at c0 c1 c2 c3 c4
   clear hb1
   go_wp2_with fail
   refine (needs_spec x.1 d HD.out _).mono ?_
   rintro e w2 ⟨rfl, rfl⟩
   by_cases hcd : d ≤ c
   · have h1 : ¬ (c : Int) < (d : Int) := by omega
    have HS2 : Hid (heapN (l.take (k + 1)) 0 = some (c + 1 - d)) := by
     have : heapN (l.take (k + 1)) 0 = some (c + 1 - d) := by rw [HST.out]; simp [hcd]
     exact this
    have hz : ((c + 1 - d : Nat) : Int) = (c : Int) + 1 - (d : Int) := by omega
    go_wp2_with fail
    refine (needs_spec x.1 d HD.out _).mono ?_
    rintro e w3 ⟨rfl, rfl⟩
    clear c0 c1 c2 c3 c4
    go_wp2
    go_roundw
    case rel => exact ⟨k + 1, c + 1 - d, by omega, by go_num, by rw [hz], by omega, HS2, hx1⟩
    case measure => simp [intOf]; omega
   · have h1 : (c : Int) < (d : Int) := by omega
    obtain rfl : b = false := HNO.out (by rw [HST.out, if_neg (fun h => hcd h.2)])
    clear c0 c1 c2 c3 c4
    go_wp2
    go_ret
    exact ⟨rfl, hx1⟩
  · have hkl : k = l.length := by omega
   subst hkl
   have hi1 : ¬ (l.length : Int) < (l.length : Int) := by omega
   have hh := hhp.out
   rw [List.take_length] at hh
   have HBB : Hid ((decide (c = 1) && decide (l.length ≤ 40)) = b) := by
    have : (decide (c = 1) && decide (l.length ≤ 40)) = b := by
     rw [← HB.out]; unfold sumB; rw [hh]; simp
    exact this
   clear hh
   by_cases e1 : c = 1
   · subst e1
    go_wp2
    go_ret
    exact ⟨ret_bool (by rw [← HBB.out]; simp; omega), hbw⟩
   · have e2 : ¬ (c : Int) = 1 := by omega
    have e3 : ((c : Int) == 1) = false := by simpa using e2
    go_wp2
    go_ret
    exact ⟨ret_bool (by rw [← HBB.out]; simp [e1]), hbw⟩
abbrev TB := ByteArray × List ByteArray × List (List CT)
structure TabAt (w : World) (ca : Option Addr) (cc : Nat) (ra : Option Addr) (t : TB) : Prop where
 cols : StrsAt w ca t.2.1
 fit : FitS t.2.1
 len : t.2.1.length ≤ maxLen
 cap : t.2.1.length ≤ cc
 nilC : ca = none → cc = 0
 rows : RowsAt w ra t.2.2
 lenR : t.2.2.length ≤ maxLen
 name : t.1.size ≤ maxLen
theorem TabAt.below {w w' : World} {ca : Option Addr} {cc : Nat} {ra : Option Addr} {t : TB} (h : TabAt w ca cc ra t) (hb : Below w.heap.size w w') : TabAt w' ca cc ra t :=
 ⟨h.cols.below hb, h.fit, h.len, h.cap, h.nilC, h.rows.below hb, h.lenR, h.name⟩
def rowOk (n : Nat) (r : List CT) : Bool := decide (r.length = n) && r.all okC
def tableB (t : TB) : Bool := (nameB t.1 && (namesB t.2.1 1 6 && decide (t.2.2.length ≤ 60))) && t.2.2.all (rowOk t.2.1.length)
theorem cells_specN (n : Nat) (a : Option Addr) (cap : Nat) (l : List CT) (hn : l.length = n) (w : World) (hrow : RowAt w a l) (hfit : Fit l) (hm : n ≤ maxLen) (b : Bool) (hb : l.all okC = b) :
  Calls Tryz.prog 90 #[.slice a n cap] w fun e w' => e = .returned (.bool b) ∧ Below w.heap.size w w' := by
 subst hn; exact cells_spec a cap l w hrow hfit hm b hb
theorem names_specN (n : Nat) (a : Option Addr) (cap : Nat) (l : List ByteArray) (hn : l.length = n) (least most : Int) (w : World) (hrow : StrsAt w a l) (hfit : FitS l) (hm : n ≤ maxLen) (hcap : n ≤ cap) (b : Bool) (hb : namesB l least most = b) :
  Calls Tryz.prog 34 #[.slice a n cap, .int .i64 least, .int .i64 most] w fun e w' => e = .returned (.bool b) ∧ Below w.heap.size w w' := by
 subst hn; exact names_spec a cap l least most w hrow hfit hm hcap b hb
set_option maxRecDepth 100000 in
set_option maxHeartbeats 4000000 in
theorem table_spec (ca : Option Addr) (cc : Nat) (ra : Option Addr) (cr : Nat) (t : TB) (nc nr : Nat) (hnc : t.2.1.length = nc) (hnr : t.2.2.length = nr) (w : World) (ht : TabAt w ca cc ra t) (b : Bool) (hb : tableB t = b) :
  Calls Tryz.prog 67 #[.agg #[.string t.1, .slice ca nc cc, .slice ra nr cr]] w fun e w' => e = .returned (.bool b) ∧ Below w.heap.size w w' := by
 obtain ⟨nm, C, L⟩ := t
 dsimp only at hnc hnr ⊢
 have HT := hid ht
 have HNC := hid hnc
 have HNR := hid hnr
 have hncM : nc ≤ maxLen := by rw [← hnc]; exact ht.len
 have hnrM : nr ≤ maxLen := by rw [← hnr]; exact ht.lenR
 have hcap : nc ≤ cc := by rw [← hnc]; exact ht.cap
 have hnm : nm.size ≤ maxLen := ht.name
 obtain ⟨b1, h1⟩ : ∃ x, nameB nm = x := ⟨_, rfl⟩
 obtain ⟨b2, h2⟩ : ∃ x, namesB C 1 6 = x := ⟨_, rfl⟩
 have HB1 := hid h1
 have HB2 := hid h2
 have hb' : ((b1 && (b2 && decide (nr ≤ 60))) && L.all (rowOk nc)) = b := by rw [← hb, ← h1, ← h2, ← hnc, ← hnr]; rfl
 clear ht hb h1 h2 hnc hnr
 have hm1 := hncM
 have hm2 := hnrM
 unfold maxLen at hm1 hm2
 have HTA : Hid (TabAt (w.alloc (.cells #[.string nm, .slice ca nc cc, .slice ra nr cr] 117)) ca cc ra (nm, C, L)) := HT.out.below ((Below.refl _ _).alloc (Nat.le_refl _) _)
 cases b1
 · rw [Bool.false_and, Bool.false_and] at hb'
  subst hb'
  go_enter Tryz.func67, Tryz.ntmps67
  go_wp2_with fail
  refine (name_spec nm _ hnm false HB1.out).mono ?_
  rintro e w' ⟨rfl, rfl⟩
  go_wp2
  go_ret
  exact ⟨rfl, (Below.refl _ _).alloc (Nat.le_refl _) _⟩
 rw [Bool.true_and] at hb'
 go_enter Tryz.func67, Tryz.ntmps67
 go_wp2_with fail
 refine (name_spec nm _ hnm true HB1.out).mono ?_
 rintro e w' ⟨rfl, rfl⟩
 go_wp2_with fail
 refine (names_specN nc ca cc C HNC.out 1 6 _ HTA.out.cols HTA.out.fit hncM hcap b2 HB2.out).mono ?_
 rintro e w1 ⟨rfl, hbx⟩
 obtain ⟨p0, p1, p2, p3⟩ := box3 hbx
 have hx1 : Below w.heap.size w w1 := chainA hbx
 have H1 : Hid (TabAt w1 ca cc ra (nm, C, L)) := HTA.out.below hbx
 clear hbx HTA HT
 obtain ⟨B, hB⟩ : ∃ B, w.heap.size = B := ⟨_, rfl⟩
 rw [hB] at p0 p1 p2 p3 ⊢
 cases b2
 · rw [Bool.false_and, Bool.false_and] at hb'
  subst hb'
  go_wp2
  go_ret
  exact ⟨rfl, hB ▸ hx1⟩
 rw [Bool.true_and] at hb'
 by_cases h60 : (60 : Int) < (nr : Int)
 · rw [decide_eq_false (by omega), Bool.false_and] at hb'
  subst hb'
  go_wp2
  go_ret
  exact ⟨rfl, hB ▸ hx1⟩
 rw [decide_eq_true (by omega), Bool.true_and] at hb'
 have HB := hid hb'
 clear hb'
 go_wp2_with fail
 go_loopw [3] (fun kk wr => ∃ k : Nat, k ≤ nr ∧ kk = .int .i64 k ∧ Hid ((L.take k).all (rowOk nc) = true) ∧ Below w1.heap.size w1 wr) (fun kk _ => nr - (intOf kk).toNat)
 case atStart => exact ⟨0, Nat.zero_le _, rfl, rfl, Below.refl _ _⟩
 case round =>
  obtain ⟨k, hk, rfl, hall, hbw⟩ := hrel
  obtain ⟨d0, d1, d2, d3⟩ := later3 hbw ⟨p0, p1, p2, p3⟩
  have hxr := chain hx1 hbw
  by_cases hlt : k < nr
  · have hlt' : k < L.length := by rw [HNR.out]; exact hlt
   obtain ⟨g, o, ai, ci, rfl, hgw, c0, hrow, hfit, hlen, _⟩ := (H1.out.below hbw).rows k hlt'
   have hi0 : (0 : Int) ≤ (k : Int) := by omega
   have hi1 : (k : Int) < (nr : Int) := by omega
   have hsn : (L.take (k + 1)).all (rowOk nc) = rowOk nc L[k] := by
    rw [List.take_succ_eq_append_getElem hlt', List.all_append, hall.out, Bool.true_and, List.all_cons, List.all_nil, Bool.and_true]
   have HS := hid hsn
   have hno : Hid (rowOk nc L[k] = false → b = false) := by
    have : rowOk nc L[k] = false → b = false := by
     intro e
     rw [← HB.out, Bool.eq_false_iff]
     intro h
     rw [List.all_eq_true.1 h _ (List.getElem_mem hlt')] at e
     cases e
    exact this
   clear hsn
   generalize L[k] = l at c0 hrow hfit hlen HS hno
   obtain ⟨n, hn⟩ : ∃ n, l.length = n := ⟨_, rfl⟩
   rw [hn] at c0 hlen
   have HN := hid hn
   have RW := hid hrow
   have FT := hid hfit
   clear hn hrow hfit
   have hlm := hlen
   unfold maxLen at hlm
   by_cases e : n = nc
   · subst e
    obtain ⟨q, hq⟩ : ∃ q, l.all okC = q := ⟨_, rfl⟩
    have HQ := hid hq
    have HO : Hid (rowOk n l = q) := by
     have : rowOk n l = q := by unfold rowOk; rw [decide_eq_true HN.out, Bool.true_and, hq]
     exact this
    clear hq
    go_wp2_with fail
    refine wp_region_held_drew (S := (fun w' => w'.cell? ⟨B, 1, none⟩ = some (.slice ca n cc) ∧ w'.cell? ⟨B, 2, none⟩ = some (.slice (some ⟨g, o, none⟩) nr cr) ∧ w'.cell? ⟨g, o + k, none⟩ = some (.slice ai n ci))) (by kernel_rfl) ?_ (fun hHeld => ?_)
    · (((try dsimp only); (repeat' apply And.intro) <;> first | (go_keep; done) | (simp (disch := first | omega | (simp <;> omega) | fail) [*]; done) | fail))
    refine tkH 0 ?_
    simp only [Act.put, ptT, ptZ, ptS]
    refine tkH 1 ?_
    simp only [Act.put, ptT, ptZ, ptS]
    refine tkH 2 ?_
    simp only [Act.put, ptT, ptZ, ptS]
    refine tkH 3 ?_
    simp only [Act.put, ptT, ptZ, ptS]
    refine tkH 4 ?_
    simp only [Act.put, ptT, ptZ, ptS]
    refine tkH 5 ?_
    simp only [Act.put, ptT, ptZ, ptS]
    refine tkH 6 ?_
    simp only [Act.put, ptT, ptZ, ptS]
    refine tkH 7 ?_
    simp only [Act.put, ptT, ptZ, ptS]
    refine tkH 8 ?_
    simp only [Act.put, ptT, ptZ, ptS]
    refine tkH 9 ?_
    simp only [Act.put, ptT, ptZ, ptS]
    refine tkH 10 ?_
    simp only [Act.put, ptT, ptZ, ptS]
    refine tkH 11 ?_
    simp only [Act.put, ptT, ptZ, ptS]
    refine tkH 12 ?_
    simp only [Act.put, ptT, ptZ, ptS]
    refine tkH 13 ?_
    simp only [Act.put, ptT, ptZ, ptS]
    refine tkH 14 ?_
    simp only [Act.put, ptT, ptZ, ptS]
    refine tkH 15 ?_
    simp only [Act.put, ptT, ptZ, ptS]
    refine oneH 16 ?_
    intro K hK
    go_simp
    refine (cells_specN n _ _ l HN.out _ (RW.out.below (Below.refl wr.heap.size wr).drew) FT.out hlen q HQ.out).mono ?_
    rintro e wA ⟨rfl, hbA⟩
    obtain ⟨hca, hfa⟩ := bcell hbA
    have hza := hbA.size
    try simp at hza
    have hxA : Below w1.heap.size w1 wA := chain hbw (undrew hbA)
    have yA : g < wA.heap.size := by omega
    have yB : B < wA.heap.size := by omega
    go_wp2_with fail
    refine hK.out _ _ ?_ (fun hHeld => ?_)
    · (((try dsimp only); (repeat' apply And.intro) <;> first | (go_keep; done) | (simp (disch := first | omega | (simp <;> omega) | fail) [*]; done) | fail))
    clear hK K
    try simp only [Act.put, ptT, ptZ, ptS]
    refine tkH 17 ?_
    simp only [Act.put, ptT, ptZ, ptS]
    refine tkH 18 ?_
    simp only [Act.put, ptT, ptZ, ptS]
    refine wpAnyH_done (by kernel_rfl) ?_ _
    have hxw := chain hx1 hxA
    clear hca hfa hbA
    cases q
    · have e := hno.out HO.out
     subst e
     go_wp2
     go_ret
     exact ⟨rfl, by first | exact hxw | (rw [hB] at hxw; exact hxw)⟩
    · go_wp2
     go_roundw
     case rel => exact ⟨k + 1, by omega, by go_num, by rw [HS.out]; exact HO.out, hxA⟩
     case measure => simp [intOf]; omega
   · have hne : ((n : Int) == (nc : Int)) = false := by rw [beq_eq_false_iff_ne]; omega
    have hnq : ((n : Int) != (nc : Int)) = true := by rw [bne, hne]; rfl
    clear hne
    have e2 := hno.out (by unfold rowOk; rw [decide_eq_false (by rw [HN.out]; exact e), Bool.false_and])
    subst e2
    go_wp2_with fail
    refine wp_region_held_drew (S := (fun w' => w'.cell? ⟨B, 1, none⟩ = some (.slice ca nc cc) ∧ w'.cell? ⟨B, 2, none⟩ = some (.slice (some ⟨g, o, none⟩) nr cr) ∧ w'.cell? ⟨g, o + k, none⟩ = some (.slice ai n ci))) (by kernel_rfl) ?_ (fun hHeld => ?_)
    · (((try dsimp only); (repeat' apply And.intro) <;> first | (go_keep; done) | (simp (disch := first | omega | (simp <;> omega) | fail) [*]; done) | fail))
    refine tkH 0 ?_
    simp only [Act.put, ptT, ptZ, ptS]
    refine tkH 1 ?_
    simp only [Act.put, ptT, ptZ, ptS]
    refine tkH 2 ?_
    simp only [Act.put, ptT, ptZ, ptS]
    refine tkH 3 ?_
    simp only [Act.put, ptT, ptZ, ptS]
    refine tkH 4 ?_
    simp only [Act.put, ptT, ptZ, ptS]
    refine tkH 5 ?_
    simp only [Act.put, ptT, ptZ, ptS]
    refine tkH 6 ?_
    simp only [Act.put, ptT, ptZ, ptS]
    refine tkH 7 ?_
    simp only [Act.put, ptT, ptZ, ptS]
    refine tkH 8 ?_
    simp only [Act.put, ptT, ptZ, ptS]
    refine tkH 9 ?_
    simp only [Act.put, ptT, ptZ, ptS]
    refine tkH 10 ?_
    simp only [Act.put, ptT, ptZ, ptS]
    try rw [hnq]
    refine skH 11 ?_
    simp only [Act.put, ptT, ptZ, ptS]
    refine skH 12 ?_
    simp only [Act.put, ptT, ptZ, ptS]
    refine skH 13 ?_
    simp only [Act.put, ptT, ptZ, ptS]
    refine skH 14 ?_
    simp only [Act.put, ptT, ptZ, ptS]
    refine skH 15 ?_
    simp only [Act.put, ptT, ptZ, ptS]
    refine skH 16 ?_
    simp only [Act.put, ptT, ptZ, ptS]
    refine skH 17 ?_
    simp only [Act.put, ptT, ptZ, ptS]
    refine tkH 18 ?_
    simp only [Act.put, ptT, ptZ, ptS]
    refine wpAnyH_done (by kernel_rfl) ?_ _
    go_wp2
    go_ret
    exact ⟨rfl, by first | exact hxr.drew | (rw [hB] at hxr; exact hxr.drew)⟩
  · have hkl : k = nr := by omega
   subst hkl
   have e : b = true := by
    rw [← HB.out]
    have := hall.out
    rw [← HNR.out, List.take_length] at this
    exact this
   subst e
   go_wp2
   go_ret
   exact ⟨rfl, by first | exact hxr | (rw [hB] at hxr; exact hxr)⟩
end Go.Proofs.YtjjkdbmjloolaaaGreatDoor
namespace Go.Proofs.YtjjkdbmjloolaaaGreatDoor
open Go.ChangeShapes Go.WideShapes Go.ChangeAt Go.RowKit
attribute [local go_sem ↓] Go.wp_at_zero Go.wp_at_succ
theorem flat_cells {w : World} {ad : Addr} {l : List CT} (h : RowAt w (some ad) l) (j : Nat) (u : Value) (hj : (flat l)[j]? = some u) : w.cell? (ad.add j) = some u := by
 have hlt : j < l.length * 3 := by
  have := (List.getElem?_eq_some_iff.1 hj).1
  rwa [flat_length] at this
 obtain ⟨b, o, e, _, c0, c1, c2⟩ := h (j / 3) (by omega)
 cases e
 obtain ⟨f0, f1, f2⟩ := flat_at l (j / 3) (by omega)
 have hadd : ∀ q, ((⟨b, o, none⟩ : Addr).add q) = ⟨b, o + q, none⟩ := by
  intro q
  unfold Addr.add
  by_cases hq : q = 0 <;> simp [hq]
 rw [hadd]
 rcases (show j = j / 3 * 3 ∨ j = j / 3 * 3 + 1 ∨ j = j / 3 * 3 + 2 by omega) with e | e | e
 · rw [e] at hj ⊢
  rw [f0] at hj
  rw [← hj]; exact c0
 · rw [e] at hj
  rw [f1] at hj
  rw [e, ← hj, ← Nat.add_assoc]; exact c1
 · rw [e] at hj
  rw [f2] at hj
  rw [e, ← hj, ← Nat.add_assoc]; exact c2
theorem flat_one (l : List CT) : ∀ u ∈ flat l, u.oneCell' = true := by
 induction l with
 | nil => intro u hu; cases hu
 | cons x l ih =>
  intro u hu
  simp only [flat, List.mem_cons] at hu
  rcases hu with rfl | rfl | rfl | hu
  · rfl
  · rfl
  · rfl
  · exact ih u hu
def headOf (G C : Nat → Nat) (L : List (List CT)) (i : Nat) : Value := .slice (some ⟨G i, 0, none⟩) (L.getD i []).length (C i)
structure OwnRows (w : World) (base : Nat) (v : Value) (L : List (List CT)) (G C : Nat → Nat) : Prop where
 outer : w.ownsRow base 142 1 v L.length ((List.range L.length).map (headOf G C L))
 inner : ∀ i, i < L.length → w.ownsRow base 95 3 (headOf G C L i) (L.getD i []).length (flat (L.getD i []))
 apart : ∀ i j, i < L.length → j < L.length → i ≠ j → G i ≠ G j
theorem OwnRows.below {w w' : World} {base : Nat} {v : Value} {L : List (List CT)} {G C : Nat → Nat} (h : OwnRows w base v L G C) (hb : Below w.heap.size w w') : OwnRows w' base v L G C :=
 ⟨own_below h.outer hb, fun i hi => own_below (h.inner i hi) hb, h.apart⟩
theorem own_other {w : World} {base b2 n m sz sz2 : Nat} {e e2 : TypeId} {v : Value} {g c : Nat} {xs ys : List Value} (h : w.ownsRow base e sz v n xs) (k : w.ownsRow b2 e2 sz2 (.slice (some ⟨g, 0, none⟩) m c) m ys) (he : e ≠ e2) : v.ownBlock ≠ some g := by
 rcases h.2 with ⟨rfl, _⟩ | ⟨g1, c1, cur, rfl, _, hg, _⟩
 · simp [Value.ownBlock]
 · rcases k.2 with ⟨h', _⟩ | ⟨g2, c2, cur2, h', _, hg2, _⟩
  · simp at h'
  · simp only [Value.slice.injEq, Option.some.injEq, Addr.mk.injEq, and_true, true_and] at h'
   obtain ⟨rfl, rfl⟩ := h'
   intro hh
   simp only [Value.ownBlock, Option.some.injEq] at hh
   subst hh
   rw [hg] at hg2
   simp at hg2
   exact he hg2.2
theorem own_base {w : World} {b1 b2 n sz : Nat} {e : TypeId} {v : Value} {xs : List Value} (h : w.ownsRow b1 e sz v n xs) (hle : b2 ≤ b1) : w.ownsRow b2 e sz v n xs := by
 refine ⟨h.1, ?_⟩
 rcases h.2 with h' | ⟨g, cap, cur, h', hbg, hr⟩
 · exact .inl h'
 · exact .inr ⟨g, cap, cur, h', Nat.le_trans hle hbg, hr⟩
theorem OwnRows.step {w w1 w2 : World} {base : Nat} {v v' : Value} {L : List (List CT)} {G C : Nat → Nat} {x : List CT} {g c : Nat} {o : Obj} (h : OwnRows w base v L G C) (hb : Below w.heap.size w w1) (hg : w.heap.size ≤ g)
  (own : w1.ownsRow base 95 3 (.slice (some ⟨g, 0, none⟩) x.length c) x.length (flat x))
  (own2 : w2.ownsRow base 142 1 v' (L.length + 1) ((List.range L.length).map (headOf G C L) ++ [.slice (some ⟨g, 0, none⟩) x.length c])) (hgr : (w1.alloc o).grownBy w2 v.ownBlock) :
  ∃ G' C', OwnRows w2 base v' (L ++ [x]) G' C' := by
 have h1 := h.below hb
 have hlt : ∀ i, i < L.length → G i < w.heap.size := by
  intro i hi
  rcases (h.inner i hi).2 with ⟨h', _⟩ | ⟨g2, c2, cur2, h', _, hg2, _⟩
  · simp [headOf] at h'
  · simp only [headOf, Value.slice.injEq, Option.some.injEq, Addr.mk.injEq, and_true, true_and] at h'
   obtain ⟨rfl, rfl⟩ := h'
   by_cases hl : G i < w.heap.size
   · exact hl
   · rw [Array.getElem?_eq_none (by omega)] at hg2; cases hg2
 have he : (142 : TypeId) ≠ 95 := by decide
 have hd : ∀ i, i < L.length → (L ++ [x]).getD i [] = L.getD i [] := by
  intro i hi
  simp [List.getD, List.getElem?_append_left hi]
 have hdl : (L ++ [x]).getD L.length [] = x := by simp [List.getD]
 refine ⟨fun i => if i = L.length then g else G i, fun i => if i = L.length then c else C i, ?_, ?_, ?_⟩
 · have e1 : (L ++ [x]).length = L.length + 1 := by simp
  rw [e1, List.range_succ, List.map_append]
  have e2 : (List.range L.length).map (headOf (fun i => if i = L.length then g else G i) (fun i => if i = L.length then c else C i) (L ++ [x])) = (List.range L.length).map (headOf G C L) := by
   refine List.map_congr_left fun i hi => ?_
   have hi' : i < L.length := by simpa using hi
   have hne : i ≠ L.length := by omega
   simp only [headOf, if_neg hne, hd i hi']
  have e3 : [L.length].map (headOf (fun i => if i = L.length then g else G i) (fun i => if i = L.length then c else C i) (L ++ [x])) = [.slice (some ⟨g, 0, none⟩) x.length c] := by
   simp only [List.map_cons, List.map_nil, headOf, if_true, hdl]
  rw [e2, e3]; exact own2
 · intro i hi
  by_cases hil : i = L.length
  · subst hil
   rw [hdl]
   have := own.alloc o
   have k := this.kept hgr (.inr (by simp only [Value.ownBlock]; exact (own_other (h1.outer.alloc o) this he).symm))
   simpa only [headOf, if_true, hdl] using k
  · have hi' : i < L.length := by simp at hi; omega
   rw [hd i hi']
   have := (h1.inner i hi').alloc o
   have k := this.kept hgr (.inr (by simp only [headOf, Value.ownBlock]; exact (own_other (h1.outer.alloc o) this he).symm))
   simpa only [headOf, if_neg hil, hd i hi'] using k
 · intro i j hi hj hij
  have hi2 : i < L.length + 1 := by simpa using hi
  have hj2 : j < L.length + 1 := by simpa using hj
  by_cases e1 : i = L.length
  · have e2 : j ≠ L.length := by omega
   have := hlt j (by omega)
   simp only [if_pos e1, if_neg e2]; omega
  · by_cases e2 : j = L.length
   · have := hlt i (by omega)
    simp only [if_neg e1, if_pos e2]; omega
   · simp only [if_neg e1, if_neg e2]; exact h.apart i j (by omega) (by omega) hij
end Go.Proofs.YtjjkdbmjloolaaaGreatDoor
namespace Go.Proofs.YtjjkdbmjloolaaaGreatDoor
open Go.ChangeShapes Go.WideShapes Go.ChangeAt Go.RowKit
attribute [local go_sem ↓] Go.wp_at_zero Go.wp_at_succ
attribute [local simp] World.cell?_alloc_past World.cell?_alloc_at World.frozen?_alloc_at cell_far cell_off cell_here World.frozen?_alloc_past
theorem strV_cells {w : World} {ad : Addr} {l : List ByteArray} (h : StrsAt w (some ad) l) : ∀ j u, (strV l)[j]? = some u → w.cell? (ad.add j) = some u := by
 intro j u hu
 have hj : j < l.length := by have := (List.getElem?_eq_some_iff.1 hu).1; rw [strV_length] at this; exact this
 unfold strV at hu
 rw [List.getElem?_map, List.getElem?_eq_getElem hj] at hu
 obtain ⟨b, o, e, _, c0⟩ := h j hj
 cases e
 have hadd : (⟨b, o, none⟩ : Addr).add j = ⟨b, o + j, none⟩ := by unfold Addr.add; split <;> simp_all
 rw [hadd, c0]
 simpa using hu
theorem infoTx : (Tryz.prog.info? 9).map (fun i => (i.zero, i.size, i.bytes)) = some (some (.string ⟨#[]⟩), 1, 16) := by kernel_rfl
set_option maxRecDepth 100000 in
set_option maxHeartbeats 1000000 in
theorem texts_spec (a : Option Addr) (cap : Nat) (l : List ByteArray) (n : Nat) (hn : l.length = n) (w : World) (hrow : StrsAt w a l) (hnil : a = none → cap = 0) (hm : n ≤ 1048576) :
  Calls Tryz.prog 19 #[.slice a n cap] w fun e w' => ∃ g c, e = .returned (.slice (some ⟨g, 0, none⟩) n c) ∧ w.heap.size ≤ g ∧ n ≤ c ∧
   w'.ownsRow w.heap.size 9 1 (.slice (some ⟨g, 0, none⟩) l.length c) l.length (strV l) ∧ Below w.heap.size w w' := by
 subst hn
 obtain ⟨i0, hi, hz0, hz1, hz2⟩ := info_parts infoTx
 have hR := hid hrow
 clear hrow
 have own0 : Hid ((w.alloc (.cells #[] 9)).ownsRow w.heap.size 9 1 (.slice (some ⟨w.heap.size, 0, none⟩) 0 0) 0 []) :=
  ⟨rfl, .inr ⟨w.heap.size, 0, #[], rfl, Nat.le_refl _, by show (w.heap.push _)[w.heap.size]? = _; simp, Nat.le_refl _, by unfold maxLen; omega, rfl, rfl⟩⟩
 have hb0 : Below w.heap.size w (w.alloc (.cells #[] 9)) := (Below.refl _ _).alloc (Nat.le_refl _) _
 cases a with
 | none =>
  have hl : l = [] := by
   cases l with
   | nil => rfl
   | cons x l => obtain ⟨b, o, e, _⟩ := hR.out 0 (by simp); cases e
  subst hl
  have hc := hnil rfl
  subst hc
  go_enter Tryz.func19, Tryz.ntmps19
  go_wp2_with (at_builtin; refine wpList_append_own_none rfl _ _ 22 rfl w.heap.size 9 i0 1 Tryz.underlying22 hi (.slice (some ⟨w.heap.size, 0, none⟩) 0 0) 0 [] rfl own0.out rfl ?_)
  go_ret
  refine ⟨w.heap.size, 0, rfl, ?_⟩
  first | exact ⟨Nat.le_refl _, Nat.le_refl _, own0.out, hb0⟩ | exact ⟨Nat.le_refl _, own0.out, hb0⟩ | exact ⟨own0.out, hb0⟩
 | some ad =>
  go_enter Tryz.func19, Tryz.ntmps19
  go_wp2_with (at_builtin; refine wpList_append_own _ rfl _ _ 22 rfl w.heap.size 9 i0 (.string ⟨#[]⟩) 1 16 Tryz.underlying22 hi hz0 hz1 hz2 rfl (by decide) (.slice (some ⟨w.heap.size, 0, none⟩) 0 0) 0 [] rfl own0.out ad l.length cap (strV l) rfl (by rw [strV_length]; omega) ?c1 ?c2 ?c3 ?c4 ?c5 ?_)
  case c1 => exact strV_cells (hR.out.below hb0)
  case c2 =>
   intro u hu
   obtain ⟨b, _, rfl⟩ := List.mem_map.1 hu
   rfl
  case c3 => unfold maxLen; omega
  case c4 => omega
  case c5 => simp
  intro v' w1 hown hgrow hnn
  have hx : Below w.heap.size w w1 := hb0.grown hgrow (by simp) (by intro k hk; simp [Value.ownBlock] at hk; omega)
  rcases hown.2 with ⟨h', _⟩ | ⟨g, c, cur, h', hbg, hg, hle, hr⟩
  · exact absurd h' hnn
  · subst h'
   go_wp2
   go_ret
   exact ⟨g, c, rfl, hbg, by omega, hown, hx⟩
end Go.Proofs.YtjjkdbmjloolaaaGreatDoor
namespace Go.Proofs.YtjjkdbmjloolaaaGreatDoor
theorem heapN_le : ∀ (l : List TI) (n m : Nat), heapN l n = some m → m ≤ n + l.length
 | [], n, m, h => by simp only [heapN, Option.some.injEq] at h; simp; omega
 | x :: l, n, m, h => by
  unfold heapN at h
  split at h
  · have := heapN_le l _ m h
   simp only [List.length_cons]
   omega
  · cases h
end Go.Proofs.YtjjkdbmjloolaaaGreatDoor
namespace Go.Proofs.YtjjkdbmjloolaaaGreatDoor
open Go.ChangeShapes Go.WideShapes Go.ChangeAt Go.RowKit
attribute [local go_sem ↓] Go.wp_at_zero Go.wp_at_succ
attribute [local simp] World.cell?_alloc_past World.cell?_alloc_at World.frozen?_alloc_at cell_far cell_off cell_here World.frozen?_alloc_past
theorem cells1S (w : World) (x : Value) : ∀ j u, [x][j]? = some u → (w.alloc (.cells #[x] 9)).cell? ((⟨w.heap.size, 0, none⟩ : Addr).add j) = some u := by
 intro j u hj
 match j, hj with
 | 0, hj => simp at hj; subst hj; simp [Addr.add]
end Go.Proofs.YtjjkdbmjloolaaaGreatDoor
