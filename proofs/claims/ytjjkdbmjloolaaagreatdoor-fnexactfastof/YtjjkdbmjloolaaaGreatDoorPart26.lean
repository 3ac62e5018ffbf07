/-
  A part of the proof: TabI2, ShI3, Lists7, Lists8, Rank5, Lists9, TakenX, ShHas.
-/
import Derived.Test.YtjjkdbmjloolaaaGreatDoorPart1
import Derived.Test.YtjjkdbmjloolaaaGreatDoorPart17
import Derived.Test.YtjjkdbmjloolaaaGreatDoorPart8
import Derived.Test.YtjjkdbmjloolaaaGreatDoorPart10
import Derived.Test.YtjjkdbmjloolaaaGreatDoorPart2
import Derived.Test.YtjjkdbmjloolaaaGreatDoorPart24

namespace Go.Proofs.YtjjkdbmjloolaaaGreatDoor
open Go.ChangeShapes Go.WideShapes Go.ChangeAt Go.RowKit
attribute [local go_sem ↓] Go.wp_at_zero Go.wp_at_succ
attribute [local simp] World.cell?_alloc_past World.cell?_alloc_at World.frozen?_alloc_at cell_far cell_off cell_here World.frozen?_alloc_past
set_option maxHeartbeats 2000000 in
theorem every_cells (a : Option Addr) (cap : Nat) (l : List CT) (w : World) (hrow : RowAt w a l) (hfit : Fit l) (hm : l.length ≤ maxLen) (b : Bool) (hb : l.all okC = b) :
  Calls Tryz.prog 135 #[.agg #[.slice a l.length cap], .func (.func 136) #[] #[]] w fun e w' => e = .returned (.bool b) ∧ Below w.heap.size w w' := by
 have HR := hid hrow
 have HF := hid hfit
 have HB := hid hb
 clear hrow hfit hb
 unfold maxLen at hm
 go_enter Tryz.func135, Tryz.ntmps135
 have hA : Below w.heap.size w (w.alloc (.cells #[.slice a l.length cap] 190)) := (Below.refl _ _).alloc (Nat.le_refl _) _
 go_wp2
 go_loopw [10] (fun kk wr => ∃ k : Nat, k ≤ l.length ∧ kk = .int .i64 k ∧ Hid ((l.take k).all okC = true) ∧ Below w.heap.size w wr) (fun kk _ => l.length - (intOf kk).toNat)
 case atStart => exact ⟨0, Nat.zero_le _, rfl, rfl, hA⟩
 case round =>
  obtain ⟨k, hk, rfl, hall, hbw⟩ := hrel
  by_cases hlt : k < l.length
  · obtain ⟨g, o, rfl, hgw, c0, c1, c2⟩ := HR.out.below hbw k hlt
   have hi0 : (0 : Int) ≤ (k : Int) := by omega
   have hi1 : (k : Int) < (l.length : Int) := by omega
   have hft := HF.out k hlt
   have HS : Hid ((l.take (k + 1)).all okC = okC l[k]) := by
    have : (l.take (k + 1)).all okC = okC l[k] := by
     rw [List.take_succ_eq_append_getElem hlt, List.all_append, hall.out, Bool.true_and, List.all_cons, List.all_nil, Bool.and_true]
    exact this
   have hno : Hid (okC l[k] = false → b = false) := by
    have : okC l[k] = false → b = false := by
     intro e
     rw [← HB.out, Bool.eq_false_iff]
     intro h
     rw [List.all_eq_true.1 h _ (List.getElem_mem hlt)] at e
     cases e
    exact this
   obtain ⟨r, hr⟩ : ∃ r, okC l[k] = r := ⟨_, rfl⟩
   generalize l[k] = x at c0 c1 c2 hft HS hr hno
   obtain ⟨x0, x1, x2⟩ := x
   dsimp only at c0 c1 c2 hft
   have HRR := hid hr
   have HRB := hid hr
   clear hr
   go_wp2_with fail
   refine (ok_implb x0 x1 x2 r HRB.out _ hft).mono ?_
   rintro e wA ⟨rfl, hbA⟩
   have hxA := chain hbw (chainA hbA)
   clear hbA
   cases r
   · have e := hno.out HRR.out
    subst e
    go_wp2
    go_ret
    exact ⟨rfl, hxA⟩
   · go_wp2
    go_roundw
    case rel => exact ⟨k + 1, by omega, by go_num, by rw [HS.out]; exact HRR.out, hxA⟩
    case measure => simp [intOf]; omega
  · have hkl : k = l.length := by omega
   subst hkl
   have hnn : ¬ (l.length : Int) < (l.length : Int) := by omega
   have e : b = true := by
    rw [← HB.out]
    have := hall.out
    rw [List.take_length] at this
    exact this
   subst e
   go_wp2
   go_ret
   exact ⟨rfl, hbw⟩
theorem rowfits_impl (n : Nat) (a : Option Addr) (cap : Nat) (l : List CT) (hn : l.length = n) (w : World) (hrow : RowAt w a l) (hfit : Fit l) (hm : n ≤ maxLen) (nc : Nat) (b : Bool) (hb : rowOk nc l = b) :
  Calls Tryz.prog 122 #[.slice a n cap, .int .i64 nc] w fun e w' => e = .returned (.bool b) ∧ Below w.heap.size w w' := by
 have hmm := hm
 unfold maxLen at hmm
 unfold rowOk at hb
 rw [hn] at hb
 by_cases he : n = nc
 · rw [decide_eq_true he, Bool.true_and] at hb
  have E : Hid (Calls Tryz.prog 135 #[.agg #[.slice a n cap], .func (.func 136) #[] #[]] w fun e w' => e = .returned (.bool b) ∧ Below w.heap.size w w') := by
   have : Calls Tryz.prog 135 #[.agg #[.slice a n cap], .func (.func 136) #[] #[]] w fun e w' => e = .returned (.bool b) ∧ Below w.heap.size w w' := by
    subst hn; exact every_cells a cap l w hrow hfit hm b hb
   exact this
  subst he
  clear hrow hfit hn hb
  go_enter Tryz.func122, Tryz.ntmps122
  go_wp2_with fail
  refine E.out.mono ?_
  rintro e w1 ⟨rfl, hb1⟩
  go_wp2
  go_ret
  exact ⟨rfl, hb1⟩
 · rw [decide_eq_false he, Bool.false_and] at hb
  subst hb
  have hne : ((n : Int) == (nc : Int)) = false := by rw [beq_eq_false_iff_ne]; omega
  have hne2 : ¬ (n : Int) = (nc : Int) := by omega
  clear hrow hfit hn
  go_enter Tryz.func122, Tryz.ntmps122
  go_wp2
  go_ret
  exact ⟨rfl, Below.refl _ _⟩
set_option maxHeartbeats 2000000 in
theorem every_rows (g : Nat) (hent : ∀ (xs : Array Value) (w : World), (callFunc g xs).run Tryz.prog w = .ok (.enter g xs) w) (ad : Addr) (p : List CT → Bool) (nr : Nat) (a : Option Addr) (cap : Nat) (L : List (List CT)) (hn : L.length = nr) (w : World) (hrow : RowsAt w a L) (hm : nr ≤ maxLen)
  (hg : ∀ k (hk : k < L.length) w' ai ci, Below w.heap.size w w' → RowAt w' ai L[k] → Calls Tryz.prog g #[.slice ai L[k].length ci, .pointer (some ad)] w' fun e w'' => e = .returned (.bool (p L[k])) ∧ Below w'.heap.size w' w'') (b : Bool) (hb : L.all p = b) :
  Calls Tryz.prog 120 #[.agg #[.slice a nr cap], .func (.func g) #[] #[.pointer (some ad)]] w fun e w' => e = .returned (.bool b) ∧ Below w.heap.size w w' := by
 have HR := hid hrow
 have HG := hid hg
 have HB := hid hb
 have HN := hid hn
 clear hrow hb hg hn
 unfold maxLen at hm
 go_enter Tryz.func120, Tryz.ntmps120
 have hA : Below w.heap.size w (w.alloc (.cells #[.slice a nr cap] 168)) := (Below.refl _ _).alloc (Nat.le_refl _) _
 go_wp2
 go_loopw [10] (fun kk wr => ∃ k : Nat, k ≤ nr ∧ kk = .int .i64 k ∧ Hid ((L.take k).all p = true) ∧ Below w.heap.size w wr) (fun kk _ => nr - (intOf kk).toNat)
 case atStart => exact ⟨0, Nat.zero_le _, rfl, rfl, hA⟩
 case round =>
  obtain ⟨k, hk, rfl, hall, hbw⟩ := hrel
  by_cases hlt : k < nr
  · have hlt' : k < L.length := by rw [HN.out]; exact hlt
   obtain ⟨g1, o, ai, ci, rfl, hgw, c0, hrow, hfit, hlen, _⟩ := HR.out.below hbw k hlt'
   have hi0 : (0 : Int) ≤ (k : Int) := by omega
   have hi1 : (k : Int) < (nr : Int) := by omega
   have HS : Hid ((L.take (k + 1)).all p = p L[k]) := by
    have : (L.take (k + 1)).all p = p L[k] := by
     rw [List.take_succ_eq_append_getElem hlt', List.all_append, hall.out, Bool.true_and, List.all_cons, List.all_nil, Bool.and_true]
    exact this
   have hno : Hid (p L[k] = false → b = false) := by
    have : p L[k] = false → b = false := by
     intro e
     rw [← HB.out, Bool.eq_false_iff]
     intro h
     rw [List.all_eq_true.1 h _ (List.getElem_mem hlt')] at e
     cases e
    exact this
   have HC : Hid (Calls Tryz.prog g #[.slice ai L[k].length ci, .pointer (some ad)] wr fun e w'' => e = .returned (.bool (p L[k])) ∧ Below wr.heap.size wr w'') := HG.out k hlt' wr ai ci hbw hrow
   clear hrow hfit
   obtain ⟨r, hr⟩ : ∃ r, p L[k] = r := ⟨_, rfl⟩
   rw [hr] at HS hno HC
   clear hr
   obtain ⟨n, hnn⟩ : ∃ n, L[k].length = n := ⟨_, rfl⟩
   rw [hnn] at c0 hlen HC
   clear hnn
   go_wp2_with fail
   refine HC.out.mono ?_
   rintro e wA ⟨rfl, hbA⟩
   have hxA := chain hbw hbA
   clear hbA HC
   cases r
   · have e := hno.out (by trivial)
    subst e
    go_wp2
    go_ret
    exact ⟨rfl, hxA⟩
   · go_wp2
    go_roundw
    case rel => exact ⟨k + 1, by omega, by go_num, HS, hxA⟩
    case measure => simp [intOf]; omega
  · have hkl : k = nr := by omega
   subst hkl
   have hnn : ¬ (k : Int) < (k : Int) := by omega
   have e : b = true := by
    rw [← HB.out]
    have := hall.out
    rw [← HN.out, List.take_length] at this
    exact this
   subst e
   go_wp2
   go_ret
   exact ⟨rfl, hbw⟩
theorem ent_tab1 : ∀ (xs : Array Value) (w : World), (callFunc 121 xs).run Tryz.prog w = .ok (.enter 121 xs) w := fun xs w => by kernel_rfl
theorem tab1_impl (n : Nat) (ai : Option Addr) (ci : Nat) (l : List CT) (hn : l.length = n) (w : World) (hrow : RowAt w ai l) (hfit : Fit l) (hm : n ≤ maxLen) (B : Nat) (ca : Option Addr) (nc cc : Nat) (hB : w.cell? ⟨B, 1, none⟩ = some (.slice ca nc cc)) (b : Bool) (hb : rowOk nc l = b) :
  Calls Tryz.prog 121 #[.slice ai n ci, .pointer (some ⟨B, 0, none⟩)] w fun e w' => e = .returned (.bool b) ∧ Below w.heap.size w w' := by
 have E : Hid (Calls Tryz.prog 122 #[.slice ai n ci, .int .i64 nc] w fun e w' => e = .returned (.bool b) ∧ Below w.heap.size w w') := rowfits_impl n ai ci l hn w hrow hfit hm nc b hb
 clear hrow hfit hn hb
 go_enter Tryz.func121, Tryz.ntmps121
 go_wp2_with fail
 refine E.out.mono ?_
 rintro e w1 ⟨rfl, hb1⟩
 go_wp2
 go_ret
 exact ⟨rfl, hb1⟩
theorem rowsof_impl (nm : ByteArray) (ca : Option Addr) (nc cc : Nat) (ra : Option Addr) (nr cr : Nat) (w : World) :
  Calls Tryz.prog 119 #[.agg #[.string nm, .slice ca nc cc, .slice ra nr cr]] w fun e w' => e = .returned (.agg #[.slice ra nr cr]) ∧ Below w.heap.size w w' := by
 go_enter Tryz.func119, Tryz.ntmps119
 go_wp2
 exact bodyPost_ret (v := .agg #[.slice ra nr cr]) (by simp [results, Tryz.results119, go_sem]) rfl ⟨rfl, ((Below.refl _ _).alloc (Nat.le_refl _) _).alloc (by simp) _⟩
set_option maxRecDepth 100000 in
set_option maxHeartbeats 4000000 in
theorem table_impl (ca : Option Addr) (cc : Nat) (ra : Option Addr) (cr : Nat) (t : TB) (nc nr : Nat) (hnc : t.2.1.length = nc) (hnr : t.2.2.length = nr) (w : World) (ht : TabAt w ca cc ra t) (b : Bool) (hb : tableB t = b) :
  Calls Tryz.prog 95 #[.agg #[.string t.1, .slice ca nc cc, .slice ra nr cr]] w fun e w' => e = .returned (.bool b) ∧ Below w.heap.size w w' := by
 obtain ⟨nm, C, L⟩ := t
 dsimp only at hnc hnr ⊢
 have HT := hid ht
 have HNC := hid hnc
 have HNR := hid hnr
 have hncM : nc ≤ maxLen := by rw [← hnc]; exact ht.len
 have hnrM : nr ≤ maxLen := by rw [← hnr]; exact ht.lenR
 have hcap : nc ≤ cc := by rw [← hnc]; exact ht.cap
 have hnm : nm.size ≤ maxLen := ht.name
 obtain ⟨b1, h1⟩ : ∃ x, nameB nm = x := ⟨_, rfl⟩
 obtain ⟨b2, h2⟩ : ∃ x, namesB C 1 6 = x := ⟨_, rfl⟩
 have HB1 := hid h1
 have HB2 := hid h2
 have hb' : ((b1 && (b2 && decide (nr ≤ 60))) && L.all (rowOk nc)) = b := by rw [← hb, ← h1, ← h2, ← hnc, ← hnr]; rfl
 clear ht hb h1 h2 hnc hnr
 have hm1 := hncM
 have hm2 := hnrM
 unfold maxLen at hm1 hm2
 have HTA : Hid (TabAt (w.alloc (.cells #[.string nm, .slice ca nc cc, .slice ra nr cr] 117)) ca cc ra (nm, C, L)) := HT.out.below ((Below.refl _ _).alloc (Nat.le_refl _) _)
 cases b1
 · rw [Bool.false_and, Bool.false_and] at hb'
  subst hb'
  go_enter Tryz.func95, Tryz.ntmps95
  go_wp2_with fail
  refine (name_impl nm _ hnm false HB1.out).mono ?_
  rintro e w' ⟨rfl, rfl⟩
  go_wp2
  go_ret
  exact ⟨rfl, (Below.refl _ _).alloc (Nat.le_refl _) _⟩
 rw [Bool.true_and] at hb'
 go_enter Tryz.func95, Tryz.ntmps95
 go_wp2_with fail
 refine (name_impl nm _ hnm true HB1.out).mono ?_
 rintro e w' ⟨rfl, rfl⟩
 go_wp2_with fail
 refine (columns_impl nc ca cc C HNC.out _ HTA.out.cols HTA.out.fit hncM hcap b2 HB2.out).mono ?_
 rintro e w1 ⟨rfl, hbx⟩
 obtain ⟨p0, p1, p2, p3⟩ := box3 hbx
 have hx1 : Below w.heap.size w w1 := chainA hbx
 have H1 : Hid (TabAt w1 ca cc ra (nm, C, L)) := HTA.out.below hbx
 clear hbx HTA HT
 cases b2
 · rw [Bool.false_and, Bool.false_and] at hb'
  subst hb'
  go_wp2
  go_ret
  exact ⟨rfl, hx1⟩
 rw [Bool.true_and] at hb'
 by_cases h60 : (60 : Int) < (nr : Int)
 · rw [decide_eq_false (by omega), Bool.false_and] at hb'
  subst hb'
  go_wp2
  go_ret
  exact ⟨rfl, hx1⟩
 rw [decide_eq_true (by omega), Bool.true_and] at hb'
 have HB := hid hb'
 clear hb'
 have E : Hid (∀ w', Below w1.heap.size w1 w' → Calls Tryz.prog 120 #[.agg #[.slice ra nr cr], .func (.func 121) #[] #[.pointer (some ⟨w.heap.size, 0, none⟩)]] w' fun e w'' => e = .returned (.bool b) ∧ Below w'.heap.size w' w'') := by
  have : ∀ w', Below w1.heap.size w1 w' → Calls Tryz.prog 120 #[.agg #[.slice ra nr cr], .func (.func 121) #[] #[.pointer (some ⟨w.heap.size, 0, none⟩)]] w' fun e w'' => e = .returned (.bool b) ∧ Below w'.heap.size w' w'' := by
   intro w' hw
   refine every_rows 121 ent_tab1 ⟨w.heap.size, 0, none⟩ (rowOk nc) nr ra cr L HNR.out w' (H1.out.rows.below hw) hnrM ?_ b HB.out
   intro k hk w2 ai ci hw2 hra
   obtain ⟨_, _, _, _, _, _, _, _, hfit, hlen, _⟩ := H1.out.rows k hk
   exact tab1_impl _ ai ci L[k] rfl w2 hra hfit hlen w.heap.size ca nc cc (by rw [(chain hw hw2).cell (p := ⟨w.heap.size, 1, none⟩) p3]; exact p1) _ rfl
  exact this
 go_wp2_with fail
 refine (rowsof_impl _ _ _ _ _ _ _ _).mono ?_
 rintro e w2 ⟨rfl, hb2⟩
 go_wp2_with fail
 refine (E.out _ hb2).mono ?_
 rintro e w3 ⟨rfl, hb3⟩
 go_wp2
 go_ret
 exact ⟨rfl, chain hx1 (chain hb2 hb3)⟩
set_option maxHeartbeats 2000000 in
theorem every_tables (a : Option Addr) (cap : Nat) (T : List TB) (n : Nat) (hn : T.length = n) (w : World) (hrow : TabsAt w a T) (hm : n ≤ maxLen) (b : Bool) (hb : T.all tableB = b) :
  Calls Tryz.prog 94 #[.agg #[.slice a n cap], .func (.func 95) #[] #[]] w fun e w' => e = .returned (.bool b) ∧ Below w.heap.size w w' := by
 have HR := hid hrow
 have HN := hid hn
 have HB := hid hb
 clear hrow hn hb
 unfold maxLen at hm
 go_enter Tryz.func94, Tryz.ntmps94
 have hA : Below w.heap.size w (w.alloc (.cells #[.slice a n cap] 146)) := (Below.refl _ _).alloc (Nat.le_refl _) _
 go_wp2
 go_loopw [10] (fun kk wr => ∃ k : Nat, k ≤ n ∧ kk = .int .i64 k ∧ Hid ((T.take k).all tableB = true) ∧ Below w.heap.size w wr) (fun kk _ => n - (intOf kk).toNat)
 case atStart => exact ⟨0, Nat.zero_le _, rfl, rfl, hA⟩
 case round =>
  obtain ⟨k, hk, rfl, hall, hbw⟩ := hrel
  by_cases hlt : k < n
  · have hlt' : Hid (k < T.length) := by have := HN.out; exact show k < T.length by omega
   obtain ⟨g, o, ca, cc, ra, cr, rfl, hgw, c0, c1, c2, hta⟩ := HR.out.below hbw k hlt'.out
   have hi0 : (0 : Int) ≤ (k : Int) := by omega
   have hi1 : (k : Int) < (n : Int) := by omega
   have HTA := hid hta
   have HS : Hid ((T.take (k + 1)).all tableB = tableB (T[k]'hlt'.out)) := by
    have : (T.take (k + 1)).all tableB = tableB (T[k]'hlt'.out) := by
     rw [List.take_succ_eq_append_getElem hlt'.out, List.all_append, hall.out, Bool.true_and, List.all_cons, List.all_nil, Bool.and_true]
    exact this
   have hno : Hid (tableB (T[k]'hlt'.out) = false → b = false) := by
    have : tableB (T[k]'hlt'.out) = false → b = false := by
     intro e
     rw [← HB.out, Bool.eq_false_iff]
     intro h
     rw [List.all_eq_true.1 h _ (List.getElem_mem hlt'.out)] at e
     cases e
    exact this
   clear hta
   obtain ⟨r, hr⟩ : ∃ r, tableB (T[k]'hlt'.out) = r := ⟨_, rfl⟩
   generalize (T[k]'hlt'.out) = t at c0 c1 c2 HTA HS hr hno
   have HRR := hid hr
   obtain ⟨nc, hnc⟩ : ∃ m, t.2.1.length = m := ⟨_, rfl⟩
   obtain ⟨nr, hnr⟩ : ∃ m, t.2.2.length = m := ⟨_, rfl⟩
   rw [hnc] at c1
   rw [hnr] at c2
   have HNC := hid hnc
   have HNR := hid hnr
   clear hnc hnr hr
   obtain ⟨nm, hnm⟩ : ∃ s, t.1 = s := ⟨_, rfl⟩
   rw [hnm] at c0
   have HNM := hid hnm
   clear hnm
   go_wp2_with fail
   rw [← HNM.out]
   refine (table_impl ca cc ra cr t nc nr HNC.out HNR.out _ (HTA.out.below ((Below.refl _ _).alloc (Nat.le_refl _) _)) r HRR.out).mono ?_
   rintro e wA ⟨rfl, hbA⟩
   have hxA := chain hbw (chainA hbA)
   clear hbA
   cases r
   · have e := hno.out HRR.out
    subst e
    go_wp2
    go_ret
    exact ⟨rfl, hxA⟩
   · go_wp2
    go_roundw
    case rel => exact ⟨k + 1, by omega, by go_num, by rw [HS.out]; exact HRR.out, hxA⟩
    case measure => simp [intOf]; omega
  · have hkl : k = n := by omega
   subst hkl
   have hnn : ¬ (k : Int) < (k : Int) := by omega
   have e : b = true := by
    rw [← HB.out]
    have := hall.out
    rw [← HN.out, List.take_length] at this
    exact this
   subst e
   go_wp2
   go_ret
   exact ⟨rfl, hbw⟩
end Go.Proofs.YtjjkdbmjloolaaaGreatDoor
namespace Go.Proofs.YtjjkdbmjloolaaaGreatDoor
open Go.ChangeShapes Go.WideShapes Go.ChangeAt Go.RowKit
attribute [local go_sem ↓] Go.wp_at_zero Go.wp_at_succ
def offs (L : List (List CT)) (i : Nat) : Nat := ((L.take i).map List.length).sum
def HeadsAt (w : World) (a : Option Addr) (L : List (List CT)) (A : Nat → Option Addr) (C : Nat → Nat) : Prop :=
 ∀ i (h : i < L.length), ∃ b o, a = some ⟨b, o, none⟩ ∧ b < w.heap.size ∧ w.cell? ⟨b, o + i, none⟩ = some (.slice (A i) L[i].length (C i))
structure Apart (a : Option Addr) (L : List (List CT)) (A : Nat → Option Addr) : Prop where
 heads : ∀ i (h : i < L.length) b o, a = some ⟨b, o, none⟩ → ¬ inBlk (A i) L[i].length b
 rows : ∀ i j (hi : i < L.length) (hj : j < L.length) b, i ≠ j → inBlk (A i) L[i].length b → ¬ inBlk (A j) L[j].length b
theorem RowAt.keepS {P : Nat → Prop} {w w' : World} {a : Option Addr} {l : List CT} (h : RowAt w a l) (hk : KeepS P w w') (hP : ∀ b, inBlk a l.length b → ¬ P b) : RowAt w' a l := by
 intro j hj
 obtain ⟨b, o, ha, hlt, h0, h1, h2⟩ := h j hj
 have hn := hP b ⟨by omega, o, ha⟩
 exact ⟨b, o, ha, Nat.lt_of_lt_of_le hlt hk.size, by rw [hk.cell hlt hn]; exact h0, by rw [hk.cell hlt hn]; exact h1, by rw [hk.cell hlt hn]; exact h2⟩
theorem Free.keepS {P : Nat → Prop} {w w' : World} {a : Option Addr} {l : List CT} (hf : Free w a l.length) (h : RowAt w a l) (hk : KeepS P w w') (hP : ∀ b, inBlk a l.length b → ¬ P b) : Free w' a l.length := by
 intro b o ha j hj
 obtain ⟨b', o', ha', hlt, _⟩ := h 0 (by omega)
 rw [ha] at ha'
 cases ha'
 rw [hk.frozen hlt (hP b ⟨by omega, o, ha⟩)]
 exact hf b o ha j hj
theorem HeadsAt.keepS {P : Nat → Prop} {w w' : World} {a : Option Addr} {L : List (List CT)} {A : Nat → Option Addr} {C : Nat → Nat} (h : HeadsAt w a L A C) (hk : KeepS P w w') (hP : ∀ b o, a = some ⟨b, o, none⟩ → ¬ P b) : HeadsAt w' a L A C := by
 intro i hi
 obtain ⟨b, o, ha, hlt, h0⟩ := h i hi
 exact ⟨b, o, ha, Nat.lt_of_lt_of_le hlt hk.size, by rw [hk.cell hlt (hP b o ha)]; exact h0⟩
def Marked (w : World) (L : List (List CT)) (A : Nat → Option Addr) (k i : Nat) : Prop :=
 ∀ j (h : j < L.length), (j < i → RowAt w (A j) (marks (k + 3 * offs L j) L[j].length)) ∧ (i ≤ j → RowAt w (A j) L[j]) ∧ Free w (A j) L[j].length
def rowBlks (L : List (List CT)) (A : Nat → Option Addr) (b : Nat) : Prop := ∃ i, ∃ h : i < L.length, inBlk (A i) L[i].length b
theorem Marked.step {w w' : World} {a : Option Addr} {L : List (List CT)} {A : Nat → Option Addr} {k i : Nat} (hi : i < L.length) (h : Marked w L A k i) (ap : Apart a L A) (hk : KeepS (inBlk (A i) L[i].length) w w')
  (hr : RowAt w' (A i) (marks (k + 3 * offs L i) L[i].length)) (hf : Free w' (A i) L[i].length) : Marked w' L A k (i + 1) := by
 intro j hj
 by_cases hij : j = i
 · subst hij
  exact ⟨fun _ => hr, fun hle => by omega, hf⟩
 · obtain ⟨h1, h2, h3⟩ := h j hj
  have hP : ∀ b, inBlk (A j) L[j].length b → ¬ inBlk (A i) L[i].length b := fun b hb => ap.rows j i hj hi b hij hb
  refine ⟨fun hlt => ?_, fun hle => (h2 (by omega)).keepS hk hP, ?_⟩
  · exact (h1 (by omega)).keepS hk (by rw [marks_length]; exact hP)
  · by_cases hlt : j < i
   · have hm := h1 hlt
    have := Free.keepS (l := marks (k + 3 * offs L j) L[j].length) (by rw [marks_length]; exact h3) hm hk (by rw [marks_length]; exact hP)
    rwa [marks_length] at this
   · exact h3.keepS (h2 (by omega)) hk hP
end Go.Proofs.YtjjkdbmjloolaaaGreatDoor
namespace Go.Proofs.YtjjkdbmjloolaaaGreatDoor
open Go.ChangeShapes Go.WideShapes Go.ChangeAt Go.RowKit
theorem own_lt {w : World} {base g n c sz : Nat} {e : TypeId} {xs : List Value} (h : w.ownsRow base e sz (.slice (some ⟨g, 0, none⟩) n c) n xs) : g < w.heap.size := by
 rcases h.2 with ⟨h', _⟩ | ⟨g', cap', cur, h', _, hg, _⟩
 · simp at h'
 · simp only [Value.slice.injEq, Option.some.injEq, Addr.mk.injEq, and_true, true_and] at h'
  obtain ⟨rfl, rfl⟩ := h'
  by_cases hl : g < w.heap.size
  · exact hl
  · rw [Array.getElem?_eq_none (by omega)] at hg; cases hg
theorem getD_at {L : List (List CT)} {i : Nat} (h : i < L.length) : L.getD i [] = L[i] := by simp [List.getD, List.getElem?_eq_getElem h]
theorem OwnRows.head {w : World} {base : Nat} {v : Value} {L : List (List CT)} {G C : Nat → Nat} (h : OwnRows w base v L G C) (hn : v ≠ .slice none 0 0) : ∃ g c, v = .slice (some ⟨g, 0, none⟩) L.length c ∧ base ≤ g := by
 rcases h.outer.2 with ⟨h', _⟩ | ⟨g, c, cur, h', hb, _⟩
 · exact absurd h' hn
 · exact ⟨g, c, h', hb⟩
theorem OwnRows.heads {w : World} {base g c : Nat} {L : List (List CT)} {G C : Nat → Nat} (h : OwnRows w base (.slice (some ⟨g, 0, none⟩) L.length c) L G C) : HeadsAt w (some ⟨g, 0, none⟩) L (fun i => some ⟨G i, 0, none⟩) C := by
 intro i hi
 refine ⟨g, 0, rfl, own_lt h.outer, ?_⟩
 rw [show 0 + i = i by omega, h.outer.cellAt i (by omega)]
 rw [List.getElem?_map, List.getElem?_range hi]
 simp only [Option.map_some, headOf, getD_at hi]
theorem OwnRows.apartA {w : World} {base g c : Nat} {L : List (List CT)} {G C : Nat → Nat} (h : OwnRows w base (.slice (some ⟨g, 0, none⟩) L.length c) L G C) : Apart (some ⟨g, 0, none⟩) L (fun i => some ⟨G i, 0, none⟩) where
 heads i hi b o e := by
  cases e
  rintro ⟨_, o', e'⟩
  cases e'
  exact own_other h.outer (h.inner i hi) (by decide) rfl
 rows i j hi hj b hij := by
  rintro ⟨_, o1, e1⟩ ⟨_, o2, e2⟩
  cases e1
  simp only [Option.some.injEq, Addr.mk.injEq] at e2
  exact h.apart i j hi hj hij e2.1.symm
theorem OwnRows.unmarked {w : World} {base : Nat} {v : Value} {L : List (List CT)} {G C : Nat → Nat} (h : OwnRows w base v L G C) (k : Nat) : Marked w L (fun i => some ⟨G i, 0, none⟩) k 0 := by
 intro j hj
 have hin := h.inner j hj
 rw [headOf, getD_at hj] at hin
 refine ⟨fun hlt => by omega, fun _ => own_row hin, ?_⟩
 intro b o e q hq
 cases e
 exact hin.frozenAt _
end Go.Proofs.YtjjkdbmjloolaaaGreatDoor
namespace Go.Proofs.YtjjkdbmjloolaaaGreatDoor
open Go.ChangeShapes Go.WideShapes Go.ChangeAt Go.RowKit
attribute [local go_sem ↓] Go.wp_at_zero Go.wp_at_succ
structure Taken (w : World) (g : Nat) (L : List (List CT)) (G : Nat → Nat) (m : Nat) : Prop where
 lt : g < w.heap.size
 there : ∀ i, i < L.length → ∃ u, w.cell? ⟨g, i, none⟩ = some u
 free : ∀ i, i < L.length → w.frozen? ⟨g, i, none⟩ = false
 bounds : ∀ i, i < m → g < G i ∧ G i < w.heap.size
 rises : ∀ i j, i < j → j < m → G i < G j
 rows : ∀ i (h : i < L.length), i < m → w.cell? ⟨g, i, none⟩ = some (.slice (some ⟨G i, 0, none⟩) L[i].length L[i].length) ∧ RowAt w (some ⟨G i, 0, none⟩) L[i] ∧ Free w (some ⟨G i, 0, none⟩) L[i].length
theorem Taken.below {w w' : World} {g : Nat} {L : List (List CT)} {G : Nat → Nat} {m : Nat} (h : Taken w g L G m) (hb : Below w.heap.size w w') : Taken w' g L G m where
 lt := Nat.lt_of_lt_of_le h.lt hb.size
 there i hi := by obtain ⟨u, hu⟩ := h.there i hi; exact ⟨u, by rw [hb.cell (p := ⟨g, i, none⟩) h.lt]; exact hu⟩
 free i hi := by rw [hb.frozen (p := ⟨g, i, none⟩) h.lt]; exact h.free i hi
 bounds i hi := ⟨(h.bounds i hi).1, Nat.lt_of_lt_of_le (h.bounds i hi).2 hb.size⟩
 rises := h.rises
 rows i hi hm := by
  obtain ⟨h1, h2, h3⟩ := h.rows i hi hm
  refine ⟨by rw [hb.cell (p := ⟨g, i, none⟩) h.lt]; exact h1, h2.below hb, ?_⟩
  intro b o e j hj
  cases e
  rw [hb.frozen (p := ⟨G i, _, none⟩) (h.bounds i hm).2]; exact h3 _ _ rfl j hj
theorem Taken.step {w : World} {g : Nat} {L : List (List CT)} {G : Nat → Nat} {m B : Nat} (h : Taken w g L G m) (hm : m < L.length) (hB : B < w.heap.size) (hgB : g < B) (hup : ∀ i, i < m → G i < B)
  (hr : RowAt w (some ⟨B, 0, none⟩) L[m]) (hf : Free w (some ⟨B, 0, none⟩) L[m].length) :
  Taken (w.setCell ⟨g, m, none⟩ (.slice (some ⟨B, 0, none⟩) L[m].length L[m].length)) g L (fun i => if i = m then B else G i) (m + 1) where
 lt := by simpa using h.lt
 there i hi := by
  by_cases e : i = m
  · subst e
   obtain ⟨u, hu⟩ := h.there i hi
   exact ⟨_, cell_here _ _ _ _ (by rw [hu]; rfl)⟩
  · obtain ⟨u, hu⟩ := h.there i hi
   exact ⟨u, by rw [cell_off _ _ _ _ _ e]; exact hu⟩
 free i hi := by rw [World.frozen?_setCell]; exact h.free i hi
 bounds i hi := by
  by_cases e : i = m
  · simpa [e] using ⟨hgB, hB⟩
  · simpa [e] using h.bounds i (by omega)
 rises i j hij hj := by
  by_cases e : j = m
  · have ei : i ≠ m := by omega
   simpa [e, ei] using hup i (by omega)
  · have ei : i ≠ m := by omega
   simpa [e, ei] using h.rises i j hij (by omega)
 rows i hi hlt := by
  have far : ∀ b q, b ≠ g → (w.setCell ⟨g, m, none⟩ (.slice (some ⟨B, 0, none⟩) L[m].length L[m].length)).cell? ⟨b, q, none⟩ = w.cell? ⟨b, q, none⟩ := fun b q hb => cell_far _ _ _ _ _ _ hb
  have rowFar : ∀ b l, b ≠ g → RowAt w (some ⟨b, 0, none⟩) l → RowAt (w.setCell ⟨g, m, none⟩ (.slice (some ⟨B, 0, none⟩) L[m].length L[m].length)) (some ⟨b, 0, none⟩) l := by
   intro b l hb hr j hj
   obtain ⟨b', o', e, hlt, c0, c1, c2⟩ := hr j hj
   cases e
   exact ⟨b, 0, rfl, by simpa using hlt, by rw [far _ _ hb]; exact c0, by rw [far _ _ hb]; exact c1, by rw [far _ _ hb]; exact c2⟩
  have freeFar : ∀ b n, Free w (some ⟨b, 0, none⟩) n → Free (w.setCell ⟨g, m, none⟩ (.slice (some ⟨B, 0, none⟩) L[m].length L[m].length)) (some ⟨b, 0, none⟩) n := by
   intro b n hf b' o' e j hj
   rw [World.frozen?_setCell]; exact hf b' o' e j hj
  by_cases e : i = m
  · subst e
   obtain ⟨u, hu⟩ := h.there i hi
   simp only [if_true]
   exact ⟨cell_here _ _ _ _ (by rw [hu]; rfl), rowFar _ _ (by omega) hr, freeFar _ _ hf⟩
  · obtain ⟨h1, h2, h3⟩ := h.rows i hi (by omega)
   have hb := (h.bounds i (by omega)).1
   simp only [if_neg e]
   exact ⟨by rw [cell_off _ _ _ _ _ e]; exact h1, rowFar _ _ (by omega) h2, freeFar _ _ h3⟩
end Go.Proofs.YtjjkdbmjloolaaaGreatDoor
namespace Go.Proofs.YtjjkdbmjloolaaaGreatDoor
open Go.ChangeShapes Go.WideShapes Go.ChangeAt Go.RowKit
theorem Taken.heads {w : World} {g : Nat} {L : List (List CT)} {G : Nat → Nat} (h : Taken w g L G L.length) : HeadsAt w (some ⟨g, 0, none⟩) L (fun i => some ⟨G i, 0, none⟩) (fun i => (L.getD i []).length) := by
 intro i hi
 refine ⟨g, 0, rfl, h.lt, ?_⟩
 rw [show 0 + i = i by omega, (h.rows i hi hi).1]
 dsimp only; rw [getD_at hi]
theorem Taken.apartA {w : World} {g : Nat} {L : List (List CT)} {G : Nat → Nat} (h : Taken w g L G L.length) : Apart (some ⟨g, 0, none⟩) L (fun i => some ⟨G i, 0, none⟩) where
 heads i hi b o e := by
  cases e
  rintro ⟨_, o', e'⟩
  simp only [Option.some.injEq, Addr.mk.injEq] at e'
  have := (h.bounds i hi).1; omega
 rows i j hi hj b hij := by
  rintro ⟨_, o1, e1⟩ ⟨_, o2, e2⟩
  simp only [Option.some.injEq, Addr.mk.injEq] at e1 e2
  rcases Nat.lt_or_gt_of_ne hij with hl | hl
  · have := h.rises i j hl hj; omega
  · have := h.rises j i hl hi; omega
theorem Taken.unmarked {w : World} {g : Nat} {L : List (List CT)} {G : Nat → Nat} (h : Taken w g L G L.length) (k : Nat) : Marked w L (fun i => some ⟨G i, 0, none⟩) k 0 :=
 fun j hj => ⟨fun hlt => by omega, fun _ => (h.rows j hj hj).2.1, (h.rows j hj hj).2.2⟩
theorem Taken.blks {w : World} {g : Nat} {L : List (List CT)} {G : Nat → Nat} (h : Taken w g L G L.length) (b : Nat) (hb : rowBlks L (fun i => some ⟨G i, 0, none⟩) b) : g < b ∧ b < w.heap.size := by
 obtain ⟨i, hi, _, o, e⟩ := hb
 simp only [Option.some.injEq, Addr.mk.injEq] at e
 have := h.bounds i hi; omega
theorem own_keepS {w w' : World} {P : Nat → Prop} {base : Nat} {e : TypeId} {size n : Nat} {v : Value} {xs : List Value} (h : w.ownsRow base e size v n xs) (hk : KeepS P w w') (hP : ∀ b, P b → b < base) : w'.ownsRow base e size v n xs := by
 refine ⟨h.1, ?_⟩
 rcases h.2 with h' | ⟨g, cap, cur, h', hbg, hg, hr⟩
 · exact .inl h'
 · refine .inr ⟨g, cap, cur, h', hbg, ?_, hr⟩
  have hlt : g < w.heap.size := by
   by_cases hl : g < w.heap.size
   · exact hl
   · rw [Array.getElem?_eq_none (by omega)] at hg; cases hg
  rw [hk.block g hlt (fun hp => by have := hP g hp; omega)]; exact hg
theorem OwnRows.keepS {w w' : World} {P : Nat → Prop} {base : Nat} {v : Value} {L : List (List CT)} {G C : Nat → Nat} (h : OwnRows w base v L G C) (hk : KeepS P w w') (hP : ∀ b, P b → b < base) : OwnRows w' base v L G C :=
 ⟨own_keepS h.outer hk hP, fun i hi => own_keepS (h.inner i hi) hk hP, h.apart⟩
theorem HeadsAt.below {w w' : World} {a : Option Addr} {L : List (List CT)} {A : Nat → Option Addr} {C : Nat → Nat} (h : HeadsAt w a L A C) (hb : Below w.heap.size w w') : HeadsAt w' a L A C := by
 intro i hi
 obtain ⟨b, o, ha, hlt, h0⟩ := h i hi
 exact ⟨b, o, ha, Nat.lt_of_lt_of_le hlt hb.size, by rw [hb.cell (p := ⟨b, _, none⟩) hlt]; exact h0⟩
theorem Marked.below {w w' : World} {L : List (List CT)} {A : Nat → Option Addr} {k : Nat} (h : Marked w L A k L.length) (hb : Below w.heap.size w w') : Marked w' L A k L.length := by
 intro j hj
 obtain ⟨h1, _, h3⟩ := h j hj
 refine ⟨fun hlt => (h1 hlt).below hb, fun hle => by omega, ?_⟩
 intro b o e q hq
 have hlt : b < w.heap.size := by
  obtain ⟨b', o', e', hlt, _⟩ := h1 hj 0 (by rw [marks_length]; omega)
  rw [e] at e'
  simp only [Option.some.injEq, Addr.mk.injEq] at e'
  omega
 rw [hb.frozen (p := ⟨b, _, none⟩) hlt]; exact h3 b o e q hq
theorem OwnRows.blks {w : World} {base : Nat} {v : Value} {L : List (List CT)} {G C : Nat → Nat} (h : OwnRows w base v L G C) (b : Nat) (hb : rowBlks L (fun i => some ⟨G i, 0, none⟩) b) : base ≤ b := by
 obtain ⟨i, hi, _, o, e⟩ := hb
 simp only [Option.some.injEq, Addr.mk.injEq] at e
 rcases (h.inner i hi).2 with ⟨h', _⟩ | ⟨g2, c2, cur2, h', hle, _⟩
 · simp [headOf] at h'
 · simp only [headOf, Value.slice.injEq, Option.some.injEq, Addr.mk.injEq, and_true, true_and] at h'
  omega
end Go.Proofs.YtjjkdbmjloolaaaGreatDoor
namespace Go.Proofs.YtjjkdbmjloolaaaGreatDoor
open Go.ChangeShapes Go.WideShapes Go.ChangeAt Go.RowKit Go.Maps
attribute [local go_sem ↓] Go.wp_at_zero Go.wp_at_succ
theorem zeroTab (w : World) : (zeroValue 117).run Tryz.prog w = .ok (.agg #[.string ⟨#[]⟩, .slice none 0 0, .slice none 0 0]) w := by kernel_rfl
theorem ShelfAt.found {w : World} {B n : Nat} {ks : List ByteArray} {f : ByteArray → Value} (h : ShelfAt w B n ks f) (s : ByteArray) (hs : s.size ≤ maxLen) (hm : s ∈ ks) :
  (Instr.lookup 125 (.map (some B)) (.string s) false).run Tryz.prog w = .ok (f s) w ∧ (Instr.lookup 125 (.map (some B)) (.string s) true).run Tryz.prog w = .ok (.tuple #[f s, .bool true]) w := by
 obtain ⟨D, hown, S⟩ := h
 constructor
 · obtain ⟨v, ps, hrun, hv⟩ := hown.lookup str_keyed Tryz.underlying125 (zeroTab w) (zd := .held (.agg #[.string ⟨#[]⟩, .slice none 0 0, .slice none 0 0])) rfl (keyOf_txt s hs)
  rw [S.holds s hm] at hv
  simp only [tokR, Option.some.injEq, Prod.mk.injEq, DataW.held.injEq] at hv
  rw [← hv.1]; exact hrun
 · obtain ⟨v, ps, hrun, hv⟩ := hown.look_ok str_keyed Tryz.underlying125 (zeroTab w) (zd := .held (.agg #[.string ⟨#[]⟩, .slice none 0 0, .slice none 0 0])) rfl (keyOf_txt s hs)
  rw [S.holds s hm] at hv
  simp only [tokR, Option.some.injEq, Prod.mk.injEq, DataW.held.injEq] at hv
  rw [S.has s, decide_eq_true hm] at hrun
  rw [← hv.1]; exact hrun
theorem ShelfAt.lacks {w : World} {B n : Nat} {ks : List ByteArray} {f : ByteArray → Value} (h : ShelfAt w B n ks f) (s : ByteArray) (hs : s.size ≤ maxLen) (hm : s ∉ ks) :
  (Instr.lookup 125 (.map (some B)) (.string s) true).run Tryz.prog w = .ok (.tuple #[.agg #[.string ⟨#[]⟩, .slice none 0 0, .slice none 0 0], .bool false]) w := by
 obtain ⟨D, hown, S⟩ := h
 obtain ⟨v, ps, hrun, hv⟩ := hown.look_ok str_keyed Tryz.underlying125 (zeroTab w) (zd := .held (.agg #[.string ⟨#[]⟩, .slice none 0 0, .slice none 0 0])) rfl (keyOf_txt s hs)
 have hh := S.has s
 rw [decide_eq_false hm] at hh
 rw [atKey_of_not_has hh] at hv
 simp only [tokR, Option.some.injEq, Prod.mk.injEq, DataW.held.injEq] at hv
 rw [hh] at hrun
 rw [← hv.1]; exact hrun
theorem ShelfAt.len {w : World} {B n : Nat} {ks : List ByteArray} {f : ByteArray → Value} (h : ShelfAt w B n ks f) (ty : TypeId) : (Builtin.len_ #[125] ty #[.map (some B)]).run Tryz.prog w = .ok (.int .i64 ks.length) w := by
 obtain ⟨D, hown, S⟩ := h
 rw [hown.len Tryz.underlying125 ty, size_keys hown S]
theorem has_at (B n : Nat) (ks : List ByteArray) (f : ByteArray → Value) (w : World) (h : ShelfAt w B n ks f) (hf : ∀ s, s ∈ ks → ∃ ca nc cc ra nr cr, f s = .agg #[.string s, .slice ca nc cc, .slice ra nr cr]) (s : ByteArray) (hs : s.size ≤ maxLen) (b : Bool) (hb : decide (s ∈ ks) = b) :
  Calls Tryz.prog 118 #[.map (some B), .string s] w fun e w' => e = .returned (.bool b) ∧ Below w.heap.size w w' := by
 cases b
 · have hm : s ∉ ks := of_decide_eq_false hb
  have hrun := h.lacks s hs hm
  clear hb h hf hm
  go_enter Tryz.func118, Tryz.ntmps118
  go_wp2
  go_ret
  exact ⟨rfl, (Below.refl _ _).alloc (Nat.le_refl _) _⟩
 · have hm : s ∈ ks := of_decide_eq_true hb
  have hrun := (h.found s hs hm).2
  obtain ⟨ca, nc, cc, ra, nr, cr, ef⟩ := hf s hm
  rw [ef] at hrun
  clear hb h hf hm ef
  go_enter Tryz.func118, Tryz.ntmps118
  go_wp2
  go_ret
  exact ⟨rfl, (Below.refl _ _).alloc (Nat.le_refl _) _⟩
end Go.Proofs.YtjjkdbmjloolaaaGreatDoor
