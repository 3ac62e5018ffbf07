/-
  A part of the proof: TabI2, ShI3, Rank2, Rank3, Rank4, Lists5, Lists6, Lists7, Lists8, Rank5.
-/
import Derived.Test.YteamdmcgkpeelakGreatPart7
import Derived.Test.YteamdmcgkpeelakGreatPart4
import Derived.Test.YteamdmcgkpeelakGreatPart1
import Derived.Laws.AppendOwnNone
import Derived.Test.YteamdmcgkpeelakGreatPart3
import Derived.Laws.IdiomStrings
import Derived.Laws.Concat

/-
  The contracts of the program's questions whether a row fits, and whether a table is right.
-/
namespace Go.Proofs.YteamdmcgkpeelakGreat
open Go.ChangeShapes Go.WideShapes Go.ChangeAt Go.RowKit
attribute [local go_sem ↓] Go.wp_at_zero Go.wp_at_succ
attribute [local simp] World.cell?_alloc_past World.cell?_alloc_at World.frozen?_alloc_at cell_far cell_off cell_here World.frozen?_alloc_past

set_option maxHeartbeats 2000000 in
theorem every_cells (a : Option Addr) (cap : Nat) (l : List CT) (w : World) (hrow : RowAt w a l) (hfit : Fit l) (hm : l.length ≤ maxLen) (b : Bool) (hb : l.all okC = b) :
    Calls Tryz.prog 66 #[.agg #[.slice a l.length cap], .func (.func 67) #[] #[]] w fun e w' => e = .returned (.bool b) ∧ Below w.heap.size w w' := by
  have HR : Hid (RowAt w a l) := hrow
  have HF : Hid (Fit l) := hfit
  have HB : Hid (l.all okC = b) := hb
  clear hrow hfit hb
  unfold maxLen at hm
  go_enter Tryz.func66, Tryz.ntmps66
  have hA : Below w.heap.size w (w.alloc (.cells #[.slice a l.length cap] 101)) := (Below.refl _ _).alloc (Nat.le_refl _) _
  go_wp2
  go_loopw [10] (fun kk wr => ∃ k : Nat, k ≤ l.length ∧ kk = .int .i64 k ∧ Hid ((l.take k).all okC = true) ∧ Below w.heap.size w wr) (fun kk _ => l.length - (intOf kk).toNat)
  case atStart => exact ⟨0, Nat.zero_le _, rfl, rfl, hA⟩
  case round =>
    obtain ⟨k, hk, rfl, hall, hbw⟩ := hrel
    by_cases hlt : k < l.length
    · obtain ⟨g, o, rfl, hgw, c0, c1, c2⟩ := HR.out.below hbw k hlt
      have hi0 : (0 : Int) ≤ (k : Int) := by omega
      have hi1 : (k : Int) < (l.length : Int) := by omega
      have hft := HF.out k hlt
      have HS : Hid ((l.take (k + 1)).all okC = okC l[k]) := by
        have : (l.take (k + 1)).all okC = okC l[k] := by
          rw [List.take_succ_eq_append_getElem hlt, List.all_append, hall.out, Bool.true_and, List.all_cons, List.all_nil, Bool.and_true]
        exact this
      have hno : Hid (okC l[k] = false → b = false) := by
        have : okC l[k] = false → b = false := by
          intro e
          rw [← HB.out, Bool.eq_false_iff]
          intro h
          rw [List.all_eq_true.1 h _ (List.getElem_mem hlt)] at e
          cases e
        exact this
      obtain ⟨r, hr⟩ : ∃ r, okC l[k] = r := ⟨_, rfl⟩
      generalize l[k] = x at c0 c1 c2 hft HS hr hno
      obtain ⟨x0, x1, x2⟩ := x
      dsimp only at c0 c1 c2 hft
      have HRR : Hid (okC (x0, x1, x2) = r) := hr
      have HRB : Hid (okB x0 x1 x2 = r) := hr
      clear hr
      go_wp2_with fail
      refine (ok_implb x0 x1 x2 r HRB.out _ hft).mono ?_
      rintro e wA ⟨rfl, hbA⟩
      have hxA := chain hbw (chainA hbA)
      clear hbA
      cases r
      · have e := hno.out HRR.out
        subst e
        go_wp2
        go_ret
        exact ⟨rfl, hxA⟩
      · go_wp2
        go_roundw
        case rel => exact ⟨k + 1, by omega, by go_num, by rw [HS.out]; exact HRR.out, hxA⟩
        case measure => simp [intOf]; omega
    · have hkl : k = l.length := by omega
      subst hkl
      have hnn : ¬ (l.length : Int) < (l.length : Int) := by omega
      have e : b = true := by
        rw [← HB.out]
        have := hall.out
        rw [List.take_length] at this
        exact this
      subst e
      go_wp2
      go_ret
      exact ⟨rfl, hbw⟩

theorem rowfits_impl (n : Nat) (a : Option Addr) (cap : Nat) (l : List CT) (hn : l.length = n) (w : World) (hrow : RowAt w a l) (hfit : Fit l) (hm : n ≤ maxLen) (nc : Nat) (b : Bool) (hb : rowOk nc l = b) :
    Calls Tryz.prog 49 #[.slice a n cap, .int .i64 nc] w fun e w' => e = .returned (.bool b) ∧ Below w.heap.size w w' := by
  have hmm := hm
  unfold maxLen at hmm
  unfold rowOk at hb
  rw [hn] at hb
  by_cases he : n = nc
  · rw [decide_eq_true he, Bool.true_and] at hb
    have E : Hid (Calls Tryz.prog 66 #[.agg #[.slice a n cap], .func (.func 67) #[] #[]] w fun e w' => e = .returned (.bool b) ∧ Below w.heap.size w w') := by
      have : Calls Tryz.prog 66 #[.agg #[.slice a n cap], .func (.func 67) #[] #[]] w fun e w' => e = .returned (.bool b) ∧ Below w.heap.size w w' := by
        subst hn; exact every_cells a cap l w hrow hfit hm b hb
      exact this
    subst he
    clear hrow hfit hn hb
    go_enter Tryz.func49, Tryz.ntmps49
    go_wp2_with fail
    refine E.out.mono ?_
    rintro e w1 ⟨rfl, hb1⟩
    go_wp2
    go_ret
    exact ⟨rfl, hb1⟩
  · rw [decide_eq_false he, Bool.false_and] at hb
    subst hb
    have hne : ((n : Int) == (nc : Int)) = false := by rw [beq_eq_false_iff_ne]; omega
    have hne2 : ¬ (n : Int) = (nc : Int) := by omega
    clear hrow hfit hn
    go_enter Tryz.func49, Tryz.ntmps49
    go_wp2
    go_ret
    exact ⟨rfl, Below.refl _ _⟩

set_option maxHeartbeats 2000000 in
theorem every_rows (g : Nat) (hent : ∀ (xs : Array Value) (w : World), (callFunc g xs).run Tryz.prog w = .ok (.enter g xs) w) (ad : Addr) (p : List CT → Bool) (nr : Nat) (a : Option Addr) (cap : Nat) (L : List (List CT)) (hn : L.length = nr) (w : World) (hrow : RowsAt w a L) (hm : nr ≤ maxLen)
    (hg : ∀ k (hk : k < L.length) w' ai ci, Below w.heap.size w w' → RowAt w' ai L[k] → Calls Tryz.prog g #[.slice ai L[k].length ci, .pointer (some ad)] w' fun e w'' => e = .returned (.bool (p L[k])) ∧ Below w'.heap.size w' w'') (b : Bool) (hb : L.all p = b) :
    Calls Tryz.prog 47 #[.agg #[.slice a nr cap], .func (.func g) #[] #[.pointer (some ad)]] w fun e w' => e = .returned (.bool b) ∧ Below w.heap.size w w' := by
  have HR : Hid (RowsAt w a L) := hrow
  have HG : Hid (∀ k (hk : k < L.length) w' ai ci, Below w.heap.size w w' → RowAt w' ai L[k] → Calls Tryz.prog g #[.slice ai L[k].length ci, .pointer (some ad)] w' fun e w'' => e = .returned (.bool (p L[k])) ∧ Below w'.heap.size w' w'') := hg
  have HB : Hid (L.all p = b) := hb
  have HN : Hid (L.length = nr) := hn
  clear hrow hb hg hn
  unfold maxLen at hm
  go_enter Tryz.func47, Tryz.ntmps47
  have hA : Below w.heap.size w (w.alloc (.cells #[.slice a nr cap] 76)) := (Below.refl _ _).alloc (Nat.le_refl _) _
  go_wp2
  go_loopw [10] (fun kk wr => ∃ k : Nat, k ≤ nr ∧ kk = .int .i64 k ∧ Hid ((L.take k).all p = true) ∧ Below w.heap.size w wr) (fun kk _ => nr - (intOf kk).toNat)
  case atStart => exact ⟨0, Nat.zero_le _, rfl, rfl, hA⟩
  case round =>
    obtain ⟨k, hk, rfl, hall, hbw⟩ := hrel
    by_cases hlt : k < nr
    · have hlt' : k < L.length := by rw [HN.out]; exact hlt
      obtain ⟨g1, o, ai, ci, rfl, hgw, c0, hrow, hfit, hlen, _⟩ := HR.out.below hbw k hlt'
      have hi0 : (0 : Int) ≤ (k : Int) := by omega
      have hi1 : (k : Int) < (nr : Int) := by omega
      have HS : Hid ((L.take (k + 1)).all p = p L[k]) := by
        have : (L.take (k + 1)).all p = p L[k] := by
          rw [List.take_succ_eq_append_getElem hlt', List.all_append, hall.out, Bool.true_and, List.all_cons, List.all_nil, Bool.and_true]
        exact this
      have hno : Hid (p L[k] = false → b = false) := by
        have : p L[k] = false → b = false := by
          intro e
          rw [← HB.out, Bool.eq_false_iff]
          intro h
          rw [List.all_eq_true.1 h _ (List.getElem_mem hlt')] at e
          cases e
        exact this
      have HC : Hid (Calls Tryz.prog g #[.slice ai L[k].length ci, .pointer (some ad)] wr fun e w'' => e = .returned (.bool (p L[k])) ∧ Below wr.heap.size wr w'') := HG.out k hlt' wr ai ci hbw hrow
      clear hrow hfit
      obtain ⟨r, hr⟩ : ∃ r, p L[k] = r := ⟨_, rfl⟩
      rw [hr] at HS hno HC
      clear hr
      obtain ⟨n, hnn⟩ : ∃ n, L[k].length = n := ⟨_, rfl⟩
      rw [hnn] at c0 hlen HC
      clear hnn
      go_wp2_with fail
      refine HC.out.mono ?_
      rintro e wA ⟨rfl, hbA⟩
      have hxA := chain hbw hbA
      clear hbA HC
      cases r
      · have e := hno.out (by trivial)
        subst e
        go_wp2
        go_ret
        exact ⟨rfl, hxA⟩
      · go_wp2
        go_roundw
        case rel => exact ⟨k + 1, by omega, by go_num, HS, hxA⟩
        case measure => simp [intOf]; omega
    · have hkl : k = nr := by omega
      subst hkl
      have hnn : ¬ (k : Int) < (k : Int) := by omega
      have e : b = true := by
        rw [← HB.out]
        have := hall.out
        rw [← HN.out, List.take_length] at this
        exact this
      subst e
      go_wp2
      go_ret
      exact ⟨rfl, hbw⟩

theorem ent_tab1 : ∀ (xs : Array Value) (w : World), (callFunc 48 xs).run Tryz.prog w = .ok (.enter 48 xs) w := fun xs w => by kernel_rfl

theorem tab1_impl (n : Nat) (ai : Option Addr) (ci : Nat) (l : List CT) (hn : l.length = n) (w : World) (hrow : RowAt w ai l) (hfit : Fit l) (hm : n ≤ maxLen) (B : Nat) (ca : Option Addr) (nc cc : Nat) (hB : w.cell? ⟨B, 1, none⟩ = some (.slice ca nc cc)) (b : Bool) (hb : rowOk nc l = b) :
    Calls Tryz.prog 48 #[.slice ai n ci, .pointer (some ⟨B, 0, none⟩)] w fun e w' => e = .returned (.bool b) ∧ Below w.heap.size w w' := by
  have E : Hid (Calls Tryz.prog 49 #[.slice ai n ci, .int .i64 nc] w fun e w' => e = .returned (.bool b) ∧ Below w.heap.size w w') := rowfits_impl n ai ci l hn w hrow hfit hm nc b hb
  clear hrow hfit hn hb
  go_enter Tryz.func48, Tryz.ntmps48
  go_wp2_with fail
  refine E.out.mono ?_
  rintro e w1 ⟨rfl, hb1⟩
  go_wp2
  go_ret
  exact ⟨rfl, hb1⟩

theorem rowsof_impl (nm : ByteArray) (ca : Option Addr) (nc cc : Nat) (ra : Option Addr) (nr cr : Nat) (w : World) :
    Calls Tryz.prog 46 #[.agg #[.string nm, .slice ca nc cc, .slice ra nr cr]] w fun e w' => e = .returned (.agg #[.slice ra nr cr]) ∧ Below w.heap.size w w' := by
  go_enter Tryz.func46, Tryz.ntmps46
  go_wp2
  exact bodyPost_ret (v := .agg #[.slice ra nr cr]) (by simp [results, Tryz.results46, go_sem]) rfl ⟨rfl, ((Below.refl _ _).alloc (Nat.le_refl _) _).alloc (by simp) _⟩

set_option maxRecDepth 100000 in
set_option maxHeartbeats 4000000 in
theorem table_impl (ca : Option Addr) (cc : Nat) (ra : Option Addr) (cr : Nat) (t : TB) (nc nr : Nat) (hnc : t.2.1.length = nc) (hnr : t.2.2.length = nr) (w : World) (ht : TabAt w ca cc ra t) (b : Bool) (hb : tableB t = b) :
    Calls Tryz.prog 27 #[.agg #[.string t.1, .slice ca nc cc, .slice ra nr cr]] w fun e w' => e = .returned (.bool b) ∧ Below w.heap.size w w' := by
  obtain ⟨nm, C, L⟩ := t
  dsimp only at hnc hnr ⊢
  have HT : Hid (TabAt w ca cc ra (nm, C, L)) := ht
  have HNC : Hid (C.length = nc) := hnc
  have HNR : Hid (L.length = nr) := hnr
  have hncM : nc ≤ maxLen := by rw [← hnc]; exact ht.len
  have hnrM : nr ≤ maxLen := by rw [← hnr]; exact ht.lenR
  have hcap : nc ≤ cc := by rw [← hnc]; exact ht.cap
  have hnm : nm.size ≤ maxLen := ht.name
  obtain ⟨b1, h1⟩ : ∃ x, nameB nm = x := ⟨_, rfl⟩
  obtain ⟨b2, h2⟩ : ∃ x, namesB C 1 6 = x := ⟨_, rfl⟩
  have HB1 : Hid (nameB nm = b1) := h1
  have HB2 : Hid (namesB C 1 6 = b2) := h2
  have hb' : ((b1 && (b2 && decide (nr ≤ 60))) && L.all (rowOk nc)) = b := by rw [← hb, ← h1, ← h2, ← hnc, ← hnr]; rfl
  clear ht hb h1 h2 hnc hnr
  have hm1 := hncM
  have hm2 := hnrM
  unfold maxLen at hm1 hm2
  have HTA : Hid (TabAt (w.alloc (.cells #[.string nm, .slice ca nc cc, .slice ra nr cr] 44)) ca cc ra (nm, C, L)) := HT.out.below ((Below.refl _ _).alloc (Nat.le_refl _) _)
  cases b1
  · rw [Bool.false_and, Bool.false_and] at hb'
    subst hb'
    go_enter Tryz.func27, Tryz.ntmps27
    go_wp2_with fail
    refine (name_impl nm _ hnm false HB1.out).mono ?_
    rintro e w' ⟨rfl, rfl⟩
    go_wp2
    go_ret
    exact ⟨rfl, (Below.refl _ _).alloc (Nat.le_refl _) _⟩
  rw [Bool.true_and] at hb'
  go_enter Tryz.func27, Tryz.ntmps27
  go_wp2_with fail
  refine (name_impl nm _ hnm true HB1.out).mono ?_
  rintro e w' ⟨rfl, rfl⟩
  go_wp2_with fail
  refine (columns_impl nc ca cc C HNC.out _ HTA.out.cols HTA.out.fit hncM hcap b2 HB2.out).mono ?_
  rintro e w1 ⟨rfl, hbx⟩
  obtain ⟨p0, p1, p2, p3⟩ := box3 hbx
  have hx1 : Below w.heap.size w w1 := chainA hbx
  have H1 : Hid (TabAt w1 ca cc ra (nm, C, L)) := HTA.out.below hbx
  clear hbx HTA HT
  cases b2
  · rw [Bool.false_and, Bool.false_and] at hb'
    subst hb'
    go_wp2
    go_ret
    exact ⟨rfl, hx1⟩
  rw [Bool.true_and] at hb'
  by_cases h60 : (60 : Int) < (nr : Int)
  · rw [decide_eq_false (by omega), Bool.false_and] at hb'
    subst hb'
    go_wp2
    go_ret
    exact ⟨rfl, hx1⟩
  rw [decide_eq_true (by omega), Bool.true_and] at hb'
  have HB : Hid (L.all (rowOk nc) = b) := hb'
  clear hb'
  have E : Hid (∀ w', Below w1.heap.size w1 w' → Calls Tryz.prog 47 #[.agg #[.slice ra nr cr], .func (.func 48) #[] #[.pointer (some ⟨w.heap.size, 0, none⟩)]] w' fun e w'' => e = .returned (.bool b) ∧ Below w'.heap.size w' w'') := by
    have : ∀ w', Below w1.heap.size w1 w' → Calls Tryz.prog 47 #[.agg #[.slice ra nr cr], .func (.func 48) #[] #[.pointer (some ⟨w.heap.size, 0, none⟩)]] w' fun e w'' => e = .returned (.bool b) ∧ Below w'.heap.size w' w'' := by
      intro w' hw
      refine every_rows 48 ent_tab1 ⟨w.heap.size, 0, none⟩ (rowOk nc) nr ra cr L HNR.out w' (H1.out.rows.below hw) hnrM ?_ b HB.out
      intro k hk w2 ai ci hw2 hra
      obtain ⟨_, _, _, _, _, _, _, _, hfit, hlen, _⟩ := H1.out.rows k hk
      exact tab1_impl _ ai ci L[k] rfl w2 hra hfit hlen w.heap.size ca nc cc (by rw [(chain hw hw2).cell (p := ⟨w.heap.size, 1, none⟩) p3]; exact p1) _ rfl
    exact this
  go_wp2_with fail
  refine (rowsof_impl _ _ _ _ _ _ _ _).mono ?_
  rintro e w2 ⟨rfl, hb2⟩
  go_wp2_with fail
  refine (E.out _ hb2).mono ?_
  rintro e w3 ⟨rfl, hb3⟩
  go_wp2
  go_ret
  exact ⟨rfl, chain hx1 (chain hb2 hb3)⟩

end Go.Proofs.YteamdmcgkpeelakGreat

/-
  The contract of the program's question whether all tables of a list are right.
-/
namespace Go.Proofs.YteamdmcgkpeelakGreat
open Go.ChangeShapes Go.WideShapes Go.ChangeAt Go.RowKit
attribute [local go_sem ↓] Go.wp_at_zero Go.wp_at_succ
attribute [local simp] World.cell?_alloc_past World.cell?_alloc_at World.frozen?_alloc_at cell_far cell_off cell_here World.frozen?_alloc_past

set_option maxHeartbeats 2000000 in
theorem every_tables (a : Option Addr) (cap : Nat) (T : List TB) (n : Nat) (hn : T.length = n) (w : World) (hrow : TabsAt w a T) (hm : n ≤ maxLen) (b : Bool) (hb : T.all tableB = b) :
    Calls Tryz.prog 41 #[.agg #[.slice a n cap], .func (.func 27) #[] #[]] w fun e w' => e = .returned (.bool b) ∧ Below w.heap.size w w' := by
  have HR : Hid (TabsAt w a T) := hrow
  have HN : Hid (T.length = n) := hn
  have HB : Hid (T.all tableB = b) := hb
  clear hrow hn hb
  unfold maxLen at hm
  go_enter Tryz.func41, Tryz.ntmps41
  have hA : Below w.heap.size w (w.alloc (.cells #[.slice a n cap] 66)) := (Below.refl _ _).alloc (Nat.le_refl _) _
  go_wp2
  go_loopw [10] (fun kk wr => ∃ k : Nat, k ≤ n ∧ kk = .int .i64 k ∧ Hid ((T.take k).all tableB = true) ∧ Below w.heap.size w wr) (fun kk _ => n - (intOf kk).toNat)
  case atStart => exact ⟨0, Nat.zero_le _, rfl, rfl, hA⟩
  case round =>
    obtain ⟨k, hk, rfl, hall, hbw⟩ := hrel
    by_cases hlt : k < n
    · have hlt' : Hid (k < T.length) := by have := HN.out; exact show k < T.length by omega
      obtain ⟨g, o, ca, cc, ra, cr, rfl, hgw, c0, c1, c2, hta⟩ := HR.out.below hbw k hlt'.out
      have hi0 : (0 : Int) ≤ (k : Int) := by omega
      have hi1 : (k : Int) < (n : Int) := by omega
      have HTA : Hid (TabAt wr ca cc ra (T[k]'hlt'.out)) := hta
      have HS : Hid ((T.take (k + 1)).all tableB = tableB (T[k]'hlt'.out)) := by
        have : (T.take (k + 1)).all tableB = tableB (T[k]'hlt'.out) := by
          rw [List.take_succ_eq_append_getElem hlt'.out, List.all_append, hall.out, Bool.true_and, List.all_cons, List.all_nil, Bool.and_true]
        exact this
      have hno : Hid (tableB (T[k]'hlt'.out) = false → b = false) := by
        have : tableB (T[k]'hlt'.out) = false → b = false := by
          intro e
          rw [← HB.out, Bool.eq_false_iff]
          intro h
          rw [List.all_eq_true.1 h _ (List.getElem_mem hlt'.out)] at e
          cases e
        exact this
      clear hta
      obtain ⟨r, hr⟩ : ∃ r, tableB (T[k]'hlt'.out) = r := ⟨_, rfl⟩
      generalize (T[k]'hlt'.out) = t at c0 c1 c2 HTA HS hr hno
      have HRR : Hid (tableB t = r) := hr
      obtain ⟨nc, hnc⟩ : ∃ m, t.2.1.length = m := ⟨_, rfl⟩
      obtain ⟨nr, hnr⟩ : ∃ m, t.2.2.length = m := ⟨_, rfl⟩
      rw [hnc] at c1
      rw [hnr] at c2
      have HNC : Hid (t.2.1.length = nc) := hnc
      have HNR : Hid (t.2.2.length = nr) := hnr
      clear hnc hnr hr
      obtain ⟨nm, hnm⟩ : ∃ s, t.1 = s := ⟨_, rfl⟩
      rw [hnm] at c0
      have HNM : Hid (t.1 = nm) := hnm
      clear hnm
      go_wp2_with fail
      rw [← HNM.out]
      refine (table_impl ca cc ra cr t nc nr HNC.out HNR.out _ (HTA.out.below ((Below.refl _ _).alloc (Nat.le_refl _) _)) r HRR.out).mono ?_
      rintro e wA ⟨rfl, hbA⟩
      have hxA := chain hbw (chainA hbA)
      clear hbA
      cases r
      · have e := hno.out HRR.out
        subst e
        go_wp2
        go_ret
        exact ⟨rfl, hxA⟩
      · go_wp2
        go_roundw
        case rel => exact ⟨k + 1, by omega, by go_num, by rw [HS.out]; exact HRR.out, hxA⟩
        case measure => simp [intOf]; omega
    · have hkl : k = n := by omega
      subst hkl
      have hnn : ¬ (k : Int) < (k : Int) := by omega
      have e : b = true := by
        rw [← HB.out]
        have := hall.out
        rw [← HN.out, List.take_length] at this
        exact this
      subst e
      go_wp2
      go_ret
      exact ⟨rfl, hbw⟩

end Go.Proofs.YteamdmcgkpeelakGreat

/-
  The contracts of the model's SameAs and Below.
-/
namespace Go.Proofs.YteamdmcgkpeelakGreat
open Go.ChangeShapes Go.WideShapes Go.ChangeAt Go.RowKit
attribute [local go_sem ↓] Go.wp_at_zero Go.wp_at_succ

/-- Are both right, and is one none? -/
def nonesB (k1 n1 : Int) (t1 : ByteArray) (k2 n2 : Int) (t2 : ByteArray) : Bool := (okB k1 n1 t1 && okB k2 n2 t2) && (k1 == 0 || k2 == 0)
/-- Are both right, and of one kind, or is one none? -/
def likeB (k1 n1 : Int) (t1 : ByteArray) (k2 n2 : Int) (t2 : ByteArray) : Bool := (okB k1 n1 t1 && okB k2 n2 t2) && ((k1 == 0 || k2 == 0) || k1 == k2)
/-- What comes of two cells that are held against each other: kind, number, fault. -/
def heldR (like none yes : Bool) : Int × Int × Int := if like = false then (0, 0, 3) else if none = true then (0, 0, 0) else (3, if yes = true then 1 else 0, 0)

end Go.Proofs.YteamdmcgkpeelakGreat

/-
  The contract of the model's helper that takes a row over: new memory.
-/
namespace Go.Proofs.YteamdmcgkpeelakGreat
open Go.ChangeShapes Go.WideShapes Go.ChangeAt Go.RowKit
attribute [local go_sem ↓] Go.wp_at_zero Go.wp_at_succ

/-- The cells of a row, one behind the other, lie there. -/
theorem flat_cells {w : World} {ad : Addr} {l : List CT} (h : RowAt w (some ad) l) (j : Nat) (u : Value) (hj : (flat l)[j]? = some u) : w.cell? (ad.add j) = some u := by
  have hlt : j < l.length * 3 := by
    have := (List.getElem?_eq_some_iff.1 hj).1
    rwa [flat_length] at this
  obtain ⟨b, o, e, _, c0, c1, c2⟩ := h (j / 3) (by omega)
  cases e
  obtain ⟨f0, f1, f2⟩ := flat_at l (j / 3) (by omega)
  have hadd : ∀ q, ((⟨b, o, none⟩ : Addr).add q) = ⟨b, o + q, none⟩ := by
    intro q
    unfold Addr.add
    by_cases hq : q = 0 <;> simp [hq]
  rw [hadd]
  rcases (show j = j / 3 * 3 ∨ j = j / 3 * 3 + 1 ∨ j = j / 3 * 3 + 2 by omega) with e | e | e
  · rw [e] at hj ⊢
    rw [f0] at hj
    rw [← hj]; exact c0
  · rw [e] at hj
    rw [f1] at hj
    rw [e, ← hj, ← Nat.add_assoc]; exact c1
  · rw [e] at hj
    rw [f2] at hj
    rw [e, ← hj, ← Nat.add_assoc]; exact c2

theorem flat_one (l : List CT) : ∀ u ∈ flat l, u.oneCell' = true := by
  induction l with
  | nil => intro u hu; cases hu
  | cons x l ih =>
    intro u hu
    simp only [flat, List.mem_cons] at hu
    rcases hu with rfl | rfl | rfl | hu
    · rfl
    · rfl
    · rfl
    · exact ih u hu

theorem infoCell : (Tryz.prog.info? 91).map (fun i => (i.zero, i.size, i.bytes)) = some (some (.agg #[.int .i64 0, .int .i64 0, .string ⟨#[]⟩]), 3, 32) := by kernel_rfl

set_option maxRecDepth 100000 in
set_option maxHeartbeats 1000000 in
theorem row_spec (a : Option Addr) (cap : Nat) (l : List CT) (w : World) (hrow : RowAt w a l) (hnil : a = none → cap = 0) (hm : l.length ≤ 1048576) :
    Calls Tryz.prog 71 #[.slice a l.length cap] w fun e w' => ∃ g c, e = .returned (.slice (some ⟨g, 0, none⟩) l.length c) ∧ w.heap.size ≤ g ∧
      w'.ownsRow w.heap.size 91 3 (.slice (some ⟨g, 0, none⟩) l.length c) l.length (flat l) ∧ Below w.heap.size w w' := by
  obtain ⟨i0, hi, hz0, hz1, hz2⟩ := info_parts infoCell
  have hR : Hid (RowAt w a l) := hrow
  clear hrow
  have own0 : Hid ((w.alloc (.cells #[] 91)).ownsRow w.heap.size 91 3 (.slice (some ⟨w.heap.size, 0, none⟩) 0 0) 0 []) :=
    ⟨rfl, .inr ⟨w.heap.size, 0, #[], rfl, Nat.le_refl _, by show (w.heap.push _)[w.heap.size]? = _; simp, Nat.le_refl _, by unfold maxLen; omega, rfl, rfl⟩⟩
  have hb0 : Below w.heap.size w (w.alloc (.cells #[] 91)) := (Below.refl _ _).alloc (Nat.le_refl _) _
  cases a with
  | none =>
    have hl : l = [] := by
      cases l with
      | nil => rfl
      | cons x l => obtain ⟨b, o, e, _⟩ := hR.out 0 (by simp); cases e
    subst hl
    have hc := hnil rfl
    subst hc
    go_enter Tryz.func71, Tryz.ntmps71
    go_wp2_with (at_builtin; refine wpList_append_own_none rfl _ _ 61 rfl w.heap.size 91 i0 3 Tryz.underlying61 hi (.slice (some ⟨w.heap.size, 0, none⟩) 0 0) 0 [] rfl own0.out rfl ?_)
    go_ret
    exact ⟨w.heap.size, 0, rfl, Nat.le_refl _, own0.out, hb0⟩
  | some ad =>
    go_enter Tryz.func71, Tryz.ntmps71
    go_wp2_with (at_builtin; refine wpList_append_own _ rfl _ _ 61 rfl w.heap.size 91 i0 (.agg #[.int .i64 0, .int .i64 0, .string ⟨#[]⟩]) 3 32 Tryz.underlying61 hi hz0 hz1 hz2 rfl (by decide) (.slice (some ⟨w.heap.size, 0, none⟩) 0 0) 0 [] rfl own0.out ad l.length cap (flat l) rfl (flat_length l) ?c1 (flat_one l) ?c3 ?c4 ?c5 ?_)
    case c1 => intro j u hj; exact flat_cells (hR.out.below hb0) j u hj
    case c3 => unfold maxLen; omega
    case c4 => omega
    case c5 => simp
    intro v' w1 hown hgrow hnn
    have hx : Below w.heap.size w w1 := hb0.grown hgrow (by simp) (by intro k hk; simp [Value.ownBlock] at hk; omega)
    rcases hown.2 with ⟨h', _⟩ | ⟨g, c, cur, h', hbg, hr⟩
    · exact absurd h' hnn
    · subst h'
      go_wp2
      go_ret
      exact ⟨g, c, rfl, hbg, hown, hx⟩

end Go.Proofs.YteamdmcgkpeelakGreat

/-
  The contract of the model's helper that takes rows over: new memory, a block for each row.
-/
namespace Go.Proofs.YteamdmcgkpeelakGreat
open Go.ChangeShapes Go.WideShapes Go.ChangeAt Go.RowKit
attribute [local go_sem ↓] Go.wp_at_zero Go.wp_at_succ

/-- The head of the i-th row. -/
def headOf (G C : Nat → Nat) (L : List (List CT)) (i : Nat) : Value := .slice (some ⟨G i, 0, none⟩) (L.getD i []).length (C i)
/-- Rows that lie in memory of their own: the heads in one block, each row in another. -/
structure OwnRows (w : World) (base : Nat) (v : Value) (L : List (List CT)) (G C : Nat → Nat) : Prop where
  outer : w.ownsRow base 61 1 v L.length ((List.range L.length).map (headOf G C L))
  inner : ∀ i, i < L.length → w.ownsRow base 91 3 (headOf G C L i) (L.getD i []).length (flat (L.getD i []))
  apart : ∀ i j, i < L.length → j < L.length → i ≠ j → G i ≠ G j

theorem OwnRows.below {w w' : World} {base : Nat} {v : Value} {L : List (List CT)} {G C : Nat → Nat} (h : OwnRows w base v L G C) (hb : Below w.heap.size w w') : OwnRows w' base v L G C :=
  ⟨own_below h.outer hb, fun i hi => own_below (h.inner i hi) hb, h.apart⟩

/-- The block of a row is none of the heads'. -/
theorem own_other {w : World} {base b2 n m sz sz2 : Nat} {e e2 : TypeId} {v : Value} {g c : Nat} {xs ys : List Value} (h : w.ownsRow base e sz v n xs) (k : w.ownsRow b2 e2 sz2 (.slice (some ⟨g, 0, none⟩) m c) m ys) (he : e ≠ e2) : v.ownBlock ≠ some g := by
  rcases h.2 with ⟨rfl, _⟩ | ⟨g1, c1, cur, rfl, _, hg, _⟩
  · simp [Value.ownBlock]
  · rcases k.2 with ⟨h', _⟩ | ⟨g2, c2, cur2, h', _, hg2, _⟩
    · simp at h'
    · simp only [Value.slice.injEq, Option.some.injEq, Addr.mk.injEq, and_true, true_and] at h'
      obtain ⟨rfl, rfl⟩ := h'
      intro hh
      simp only [Value.ownBlock, Option.some.injEq] at hh
      subst hh
      rw [hg] at hg2
      simp at hg2
      exact he hg2.2

theorem own_base {w : World} {b1 b2 n sz : Nat} {e : TypeId} {v : Value} {xs : List Value} (h : w.ownsRow b1 e sz v n xs) (hle : b2 ≤ b1) : w.ownsRow b2 e sz v n xs := by
  refine ⟨h.1, ?_⟩
  rcases h.2 with h' | ⟨g, cap, cur, h', hbg, hr⟩
  · exact .inl h'
  · exact .inr ⟨g, cap, cur, h', Nat.le_trans hle hbg, hr⟩

/-- One row more: its head is appended. -/
theorem OwnRows.step {w w1 w2 : World} {base : Nat} {v v' : Value} {L : List (List CT)} {G C : Nat → Nat} {x : List CT} {g c : Nat} {o : Obj} (h : OwnRows w base v L G C) (hb : Below w.heap.size w w1) (hg : w.heap.size ≤ g)
    (own : w1.ownsRow base 91 3 (.slice (some ⟨g, 0, none⟩) x.length c) x.length (flat x))
    (own2 : w2.ownsRow base 61 1 v' (L.length + 1) ((List.range L.length).map (headOf G C L) ++ [.slice (some ⟨g, 0, none⟩) x.length c])) (hgr : (w1.alloc o).grownBy w2 v.ownBlock) :
    ∃ G' C', OwnRows w2 base v' (L ++ [x]) G' C' := by
  have h1 := h.below hb
  have hlt : ∀ i, i < L.length → G i < w.heap.size := by
    intro i hi
    rcases (h.inner i hi).2 with ⟨h', _⟩ | ⟨g2, c2, cur2, h', _, hg2, _⟩
    · simp [headOf] at h'
    · simp only [headOf, Value.slice.injEq, Option.some.injEq, Addr.mk.injEq, and_true, true_and] at h'
      obtain ⟨rfl, rfl⟩ := h'
      by_cases hl : G i < w.heap.size
      · exact hl
      · rw [Array.getElem?_eq_none (by omega)] at hg2; cases hg2
  have he : (61 : TypeId) ≠ 91 := by decide
  have hd : ∀ i, i < L.length → (L ++ [x]).getD i [] = L.getD i [] := by
    intro i hi
    simp [List.getD, List.getElem?_append_left hi]
  have hdl : (L ++ [x]).getD L.length [] = x := by simp [List.getD]
  refine ⟨fun i => if i = L.length then g else G i, fun i => if i = L.length then c else C i, ?_, ?_, ?_⟩
  · have e1 : (L ++ [x]).length = L.length + 1 := by simp
    rw [e1, List.range_succ, List.map_append]
    have e2 : (List.range L.length).map (headOf (fun i => if i = L.length then g else G i) (fun i => if i = L.length then c else C i) (L ++ [x])) = (List.range L.length).map (headOf G C L) := by
      refine List.map_congr_left fun i hi => ?_
      have hi' : i < L.length := by simpa using hi
      have hne : i ≠ L.length := by omega
      simp only [headOf, if_neg hne, hd i hi']
    have e3 : [L.length].map (headOf (fun i => if i = L.length then g else G i) (fun i => if i = L.length then c else C i) (L ++ [x])) = [.slice (some ⟨g, 0, none⟩) x.length c] := by
      simp only [List.map_cons, List.map_nil, headOf, if_true, hdl]
    rw [e2, e3]; exact own2
  · intro i hi
    by_cases hil : i = L.length
    · subst hil
      rw [hdl]
      have := own.alloc o
      have k := this.kept hgr (.inr (by simp only [Value.ownBlock]; exact (own_other (h1.outer.alloc o) this he).symm))
      simpa only [headOf, if_true, hdl] using k
    · have hi' : i < L.length := by simp at hi; omega
      rw [hd i hi']
      have := (h1.inner i hi').alloc o
      have k := this.kept hgr (.inr (by simp only [headOf, Value.ownBlock]; exact (own_other (h1.outer.alloc o) this he).symm))
      simpa only [headOf, if_neg hil, hd i hi'] using k
  · intro i j hi hj hij
    have hi2 : i < L.length + 1 := by simpa using hi
    have hj2 : j < L.length + 1 := by simpa using hj
    by_cases e1 : i = L.length
    · have e2 : j ≠ L.length := by omega
      have := hlt j (by omega)
      simp only [if_pos e1, if_neg e2]; omega
    · by_cases e2 : j = L.length
      · have := hlt i (by omega)
        simp only [if_neg e1, if_pos e2]; omega
      · simp only [if_neg e1, if_neg e2]; exact h.apart i j (by omega) (by omega) hij

theorem infoRow : (Tryz.prog.info? 61).map (fun i => (i.zero, i.size, i.bytes)) = some (some (.slice none 0 0), 1, 24) := by kernel_rfl

set_option maxRecDepth 100000 in
set_option maxHeartbeats 2000000 in
theorem rows_spec (a : Option Addr) (cap : Nat) (L : List (List CT)) (w : World) (hrow : RowsAt w a L) (hm : L.length ≤ 1048576) (hms : ∀ i (h : i < L.length), L[i].length ≤ 1048576) :
    Calls Tryz.prog 55 #[.slice a L.length cap] w fun e w' => ∃ v G C, e = .returned v ∧ OwnRows w' w.heap.size v L G C ∧ Below w.heap.size w w' ∧ v ≠ .slice none 0 0 := by
  obtain ⟨i0, hi, hz0, hz1, hz2⟩ := info_parts infoRow
  have hR : Hid (RowsAt w a L) := hrow
  have hMS : Hid (∀ i (h : i < L.length), L[i].length ≤ 1048576) := hms
  clear hrow hms
  have own0 : Hid (∃ G C, OwnRows (w.alloc (.cells #[] 61)) w.heap.size (.slice (some ⟨w.heap.size, 0, none⟩) 0 0) (L.take 0) G C) := by
    refine ⟨fun _ => 0, fun _ => 0, ⟨rfl, .inr ⟨w.heap.size, 0, #[], rfl, Nat.le_refl _, by show (w.heap.push _)[w.heap.size]? = _; simp, Nat.le_refl _, by unfold maxLen; omega, rfl, rfl⟩⟩, ?_, ?_⟩
    · intro i hi; simp at hi
    · intro i j hi; simp at hi
  have hb0 : Below w.heap.size w (w.alloc (.cells #[] 61)) := (Below.refl _ _).alloc (Nat.le_refl _) _
  go_enter Tryz.func55, Tryz.ntmps55
  go_wp2
  go_loopw [3, 4] (fun v i wr => ∃ m : Nat, m ≤ L.length ∧ i = .int .i64 m ∧ Hid (∃ G C, OwnRows wr w.heap.size v (L.take m) G C) ∧ Below w.heap.size w wr ∧ v ≠ .slice none 0 0)
    (fun _ i _ => L.length - (intOf i).toNat)
  case atStart => exact ⟨0, Nat.zero_le _, rfl, own0, hb0, by simp⟩
  case round =>
    obtain ⟨m, hmL, rfl, hO, hb, hvn⟩ := hrel
    by_cases hlt : m < L.length
    · obtain ⟨b, o, ai, ci, ha, hbw, c0, hra, _, _, hnil⟩ := hR.out.below hb m hlt
      have hi0 : (0 : Int) ≤ (m : Int) := by omega
      have hi1 : (m : Int) < (L.length : Int) := by omega
      have hRA : Hid (RowAt wr ai L[m]) := hra
      have hml := hMS.out m hlt
      have htk := List.take_succ_eq_append_getElem hlt
      clear hra
      generalize L[m] = x at c0 hRA hml htk
      subst ha
      obtain ⟨G, C, O⟩ := hO.out
      have hlen : (L.take m).length = m := by rw [List.length_take]; omega
      have hOO : Hid (OwnRows wr w.heap.size _ (L.take m) G C) := O
      clear O hO
      go_wp2_with fail
      refine (row_spec _ _ _ _ hRA.out hnil hml).mono ?_
      rintro e w1 ⟨g, c, rfl, hg, own, hb1⟩
      have O1 := hOO.out.below hb1
      have hx := chain hb hb1
      go_wp2_with (at_builtin; refine wpList_append_own _ rfl _ _ 42 rfl w.heap.size 61 i0 (.slice none 0 0) 1 24 Tryz.underlying42 hi hz0 hz1 hz2 rfl (by decide) _ _ _ rfl (O1.outer.alloc _) ⟨w1.heap.size, 0, none⟩ 1 1 [.slice (some ⟨g, 0, none⟩) x.length c] rfl rfl ?c1 ?c2 ?c3 ?c4 ?c5 ?_)
      case c1 =>
        intro j u hj
        match j, hj with
        | 0, hj => simp at hj; subst hj; simp [Addr.add]
      case c2 => intro u hu; simp at hu; subst hu; rfl
      case c3 => rw [hlen]; unfold maxLen; omega
      case c4 => rw [hlen]; omega
      case c5 => have := hx.size; simp; omega
      intro v' w2 own2 hgrow hnn
      have S := hOO.out.step hb1 hg (own_base own hb.size) (by rw [hlen]; exact own2) hgrow
      rw [← htk] at S
      have hx2 : Below w.heap.size w w2 := by
        refine (hx.alloc hx.size _).grown hgrow (by have := hx.size; simp; omega) ?_
        intro k hk
        rcases O1.outer.2 with ⟨h, _⟩ | ⟨g', c', cur, h, hbg, _⟩
        · rw [h] at hk; simp [Value.ownBlock] at hk
        · rw [h] at hk; simp [Value.ownBlock] at hk; omega
      have hvn2 : v' ≠ .slice none 0 0 := by first | exact hnn | exact fun e => hvn (hnn.1 e).1
      have SS : Hid (∃ G C, OwnRows w2 w.heap.size v' (L.take (m + 1)) G C) := S
      clear S own2 hgrow hnn own O1 hOO
      go_wp2
      go_roundw
      case rel => exact ⟨m + 1, by omega, by go_num, SS, hx2, hvn2⟩
      case measure => simp [intOf]; omega
    · have hkl : m = L.length := by omega
      subst hkl
      rw [List.take_length] at hO
      go_wp2
      go_ret
      obtain ⟨G, C, O⟩ := hO.out
      exact ⟨_, G, C, rfl, O, hb, hvn⟩

end Go.Proofs.YteamdmcgkpeelakGreat

/-
  The text that the law's helper writes to mark a cell: what it is hangs on its number alone.
-/
namespace Go.Proofs.YteamdmcgkpeelakGreat
open Go.ChangeShapes Go.WideShapes Go.ChangeAt Go.RowKit
attribute [local go_sem ↓] Go.wp_at_zero Go.wp_at_succ

/-- The last digit of k, as a byte. -/
def dig (k : Nat) : UInt8 := UInt8.ofNat (48 + k % 10)
theorem dig_nat (k : Nat) : (dig k).toNat = 48 + k % 10 := by unfold dig; rw [UInt8.toNat_ofNat']; omega
/-- The digits of k ahead of what is there. -/
def digs : Nat → Nat → ByteArray → ByteArray
  | 0, _, out => out
  | f + 1, k, out => if k = 0 then out else digs f (k / 10) (⟨#[dig k]⟩ ++ out)
/-- The text that marks k. -/
def mt (k : Nat) : ByteArray := ⟨#[109]⟩ ++ digs k k ⟨#[]⟩

theorem digs_step (m : Nat) (out : ByteArray) (h : 0 < m) : digs m m out = digs (m / 10) (m / 10) (⟨#[dig m]⟩ ++ out) := by
  have fuel : ∀ (k f g : Nat) (out : ByteArray), k ≤ f → k ≤ g → digs f k out = digs g k out := by
    intro k
    induction k using Nat.strongRecOn with
    | _ k ih =>
      intro f g out hf hg
      cases f with
      | zero =>
        have : k = 0 := by omega
        subst this
        cases g <;> simp [digs]
      | succ f =>
        cases g with
        | zero =>
          have : k = 0 := by omega
          subst this
          simp [digs]
        | succ g =>
          by_cases hk : k = 0
          · simp [digs, hk]
          · rw [digs, digs, if_neg hk, if_neg hk]
            exact ih (k / 10) (by omega) f g _ (by omega) (by omega)
  cases m with
  | zero => omega
  | succ m =>
    rw [digs, if_neg (by omega)]
    exact fuel _ _ _ _ (by omega) (by omega)

set_option maxRecDepth 100000 in
set_option maxHeartbeats 1000000 in
theorem text_laws (k : Nat) (w : World) (h0 : 0 < k) (h1 : k ≤ 1099511627776) :
    Calls Tryz.prog 30 #[.int .i64 k] w fun e w' => e = .returned (.string (mt k)) ∧ Below w.heap.size w w' := by
  go_enter Tryz.func30, Tryz.ntmps30
  go_wp2
  go_loopw [0, 3] (fun s o wr => ∃ (m : Nat) (out : ByteArray), s = .int .i64 m ∧ o = .string out ∧ m ≤ k ∧ out.size + m ≤ k ∧ digs m m out = digs k k ⟨#[]⟩ ∧ Below w.heap.size w wr)
    (fun s _ _ => (intOf s).toNat)
  case atStart => exact ⟨k, ⟨#[]⟩, rfl, rfl, Nat.le_refl _, by show 0 + k ≤ k; omega, rfl, Below.refl _ _⟩
  case round =>
    obtain ⟨m, out, rfl, rfl, hmk, hsz, hd, hb⟩ := hrel
    by_cases hm : 0 < m
    · have hcv : (convert 81 9 (.slice (some ⟨wr.heap.size, 0, none⟩) 1 1)).run Tryz.prog (wr.alloc (.cells #[.int .u8 (48 + (m : Int) % 10)] 5)) = .ok (.string ⟨#[dig m]⟩) (wr.alloc (.cells #[.int .u8 (48 + (m : Int) % 10)] 5)) := by
        refine run_convert_bytes_back _ _ _ 5 _ 1 [dig m] Tryz.underlying81 Tryz.underlying5 Tryz.underlying9 ?_
        intro j hj
        have hj0 : j = 0 := by simpa using hj
        subst hj0
        have hn := dig_nat m
        simp only [List.getElem_cons_zero, hn]
        simp [Addr.add, go_sem]
      have hadd : ∀ (x : UInt8) (w : World), (Op.stringOp .add ⟨#[x]⟩ out).run Tryz.prog w = .ok (.string (⟨#[x]⟩ ++ out)) w := fun x w => run_string_add_sum w _ _ (by show 1 + out.size ≤ 9223372036854775807; omega)
      have hbs := hb.size
      go_wp2
      go_roundw
      case rel =>
        refine ⟨m / 10, ⟨#[dig m]⟩ ++ out, by go_num, rfl, by omega, ?_, ?_, by go_grown⟩
        · rw [ByteArray.size_append]; show 1 + out.size + m / 10 ≤ k; omega
        · rw [← digs_step m out hm]; exact hd
      case measure => simp [intOf]; omega
    · have hm0 : m = 0 := by omega
      subst hm0
      have hadd : ∀ (w : World), (Op.stringOp .add ⟨#[109]⟩ out).run Tryz.prog w = .ok (.string (⟨#[109]⟩ ++ out)) w := fun w => run_string_add_sum w _ _ (by show 1 + out.size ≤ 9223372036854775807; omega)
      go_wp2
      go_ret
      refine ⟨?_, hb⟩
      rw [mt, ← hd]; rfl

theorem text_lawsN (k : Nat) (n : Int) (hn : n = (k : Int)) (w : World) (h0 : 0 < k) (h1 : k ≤ 1099511627776) :
    Calls Tryz.prog 30 #[.int .i64 n] w fun e w' => e = .returned (.string (mt k)) ∧ Below w.heap.size w w' := by
  subst hn; exact text_laws k w h0 h1

end Go.Proofs.YteamdmcgkpeelakGreat

/-
  The contracts of the law's helpers that mark the cells of a list, one number behind the other, and that look whether the marks are still there.
-/
namespace Go.Proofs.YteamdmcgkpeelakGreat
open Go.ChangeShapes Go.WideShapes Go.ChangeAt Go.RowKit
attribute [local go_sem ↓] Go.wp_at_zero Go.wp_at_succ

/-- The i-th mark from k on. -/
def mark1 (k i : Nat) : CT := (((k + 3 * i : Nat) : Int), ((k + 3 * i + 1 : Nat) : Int), mt (k + 3 * i + 2))
/-- The marks of a list of n cells. -/
def marks (k n : Nat) : List CT := (List.range n).map (mark1 k)
theorem marks_length (k n : Nat) : (marks k n).length = n := by simp [marks]
theorem marks_at (k n i : Nat) (h : i < (marks k n).length) : (marks k n)[i] = mark1 k i := by simp [marks]
theorem marks_step (k : Nat) (l : List CT) (i : Nat) (h : i < l.length) : (marks k i ++ l.drop i).set i (mark1 k i) = marks k (i + 1) ++ l.drop (i + 1) := by
  rw [List.set_append_right _ _ (by rw [marks_length]; omega), marks_length, Nat.sub_self]
  have e : l.drop i = l[i] :: l.drop (i + 1) := List.drop_eq_getElem_cons h
  rw [e, List.set_cons_zero]
  simp [marks, List.range_succ]

/-- The cells of a slice may be written. -/
def Free (w : World) (a : Option Addr) (n : Nat) : Prop := ∀ b o, a = some ⟨b, o, none⟩ → ∀ j, j < n * 3 → w.frozen? ⟨b, o + j, none⟩ = false
/-- The block in which a slice of n cells lies, where it has one. -/
def inBlk (a : Option Addr) (n b : Nat) : Prop := 0 < n ∧ ∃ o, a = some ⟨b, o, none⟩

theorem RowAt.upd {w w' : World} {b o : Nat} {l : List CT} {i : Nat} {x : CT} (h : RowAt w (some ⟨b, o, none⟩) l) (hs : w.heap.size ≤ w'.heap.size)
    (hfar : ∀ q, q ≠ o + i * 3 → q ≠ o + i * 3 + 1 → q ≠ o + i * 3 + 2 → w'.cell? ⟨b, q, none⟩ = w.cell? ⟨b, q, none⟩)
    (h0 : w'.cell? ⟨b, o + i * 3, none⟩ = some (.int .i64 x.1)) (h1 : w'.cell? ⟨b, o + i * 3 + 1, none⟩ = some (.int .i64 x.2.1)) (h2 : w'.cell? ⟨b, o + i * 3 + 2, none⟩ = some (.string x.2.2)) :
    RowAt w' (some ⟨b, o, none⟩) (l.set i x) := by
  intro j hj
  have hj' : j < l.length := by simpa using hj
  obtain ⟨b', o', e, hlt, c0, c1, c2⟩ := h j hj'
  cases e
  refine ⟨b, o, rfl, Nat.lt_of_lt_of_le hlt hs, ?_⟩
  by_cases hij : i = j
  · subst hij
    rw [List.getElem_set_self]
    exact ⟨h0, h1, h2⟩
  · rw [List.getElem_set_ne hij]
    refine ⟨?_, ?_, ?_⟩
    · rw [hfar _ (by omega) (by omega) (by omega)]; exact c0
    · rw [hfar _ (by omega) (by omega) (by omega)]; exact c1
    · rw [hfar _ (by omega) (by omega) (by omega)]; exact c2

theorem Free.upd {w w' : World} {a : Option Addr} {n : Nat} (h : Free w a n) (hf : ∀ b o q, a = some ⟨b, o, none⟩ → w'.frozen? ⟨b, q, none⟩ = w.frozen? ⟨b, q, none⟩) : Free w' a n :=
  fun b o e j hj => by rw [hf b o _ e]; exact h b o e j hj

set_option maxHeartbeats 2000000 in
theorem mark_laws (a : Option Addr) (cap : Nat) (l : List CT) (k : Nat) (w : World) (hrow : RowAt w a l) (hfree : Free w a l.length) (h0 : 0 < k) (h1 : k + 3 * l.length ≤ 1099511627776) :
    Calls Tryz.prog 52 #[.slice a l.length cap, .int .i64 k] w fun e w' => e = .returned (.int .i64 ((k + 3 * l.length : Nat) : Int)) ∧ RowAt w' a (marks k l.length) ∧ Free w' a l.length ∧ KeepS (inBlk a l.length) w w' := by
  have hR : Hid (RowAt w a l) := hrow
  have hF : Hid (Free w a l.length) := hfree
  clear hrow hfree
  go_enter Tryz.func52, Tryz.ntmps52
  go_wp2
  go_loopw [1, 5] (fun s i wr => ∃ m : Nat, m ≤ l.length ∧ i = .int .i64 m ∧ s = .int .i64 ((k + 3 * m : Nat) : Int) ∧ Hid (RowAt wr a (marks k m ++ l.drop m)) ∧ Hid (Free wr a l.length) ∧ KeepS (inBlk a l.length) w wr)
    (fun _ i _ => l.length - (intOf i).toNat)
  case atStart => exact ⟨0, Nat.zero_le _, rfl, by simp, by simpa [marks] using hR, hF, KeepS.refl _ _⟩
  case round =>
    obtain ⟨m, hm, rfl, rfl, hr, hf, hkp⟩ := hrel
    by_cases hlt : m < l.length
    · have hl2 : m < (marks k m ++ l.drop m).length := by rw [List.length_append, marks_length, List.length_drop]; omega
      obtain ⟨b, o, rfl, hbw, c0, c1, c2⟩ := hr.out m hl2
      generalize (marks k m ++ l.drop m)[m] = x at c0 c1 c2
      have hi0 : (0 : Int) ≤ (m : Int) := by omega
      have hi1 : (m : Int) < (l.length : Int) := by omega
      have f0 := hf.out b o rfl (m * 3) (by omega)
      have f1 := hf.out b o rfl (m * 3 + 1) (by omega)
      have f2 := hf.out b o rfl (m * 3 + 2) (by omega)
      rw [← Nat.add_assoc] at f1 f2
      go_wp2_with fail
      refine (text_lawsN (k + 3 * m + 2) _ (by omega) _ (by omega) (by omega)).mono ?_
      rintro e w2 ⟨rfl, hb2⟩
      have g2 : w2.cell? ⟨b, o + m * 3 + 2, none⟩ = some (.string x.2.2) := by
        rw [hb2.cell (p := ⟨b, o + m * 3 + 2, none⟩) (by simpa using hbw), cell_off _ _ _ _ _ (by omega), cell_off _ _ _ _ _ (by omega)]; exact c2
      have e2 : w2.frozen? ⟨b, o + m * 3 + 2, none⟩ = false := by
        rw [hb2.frozen (p := ⟨b, o + m * 3 + 2, none⟩) (by simpa using hbw)]; simpa using f2
      go_wp2
      go_roundw
      case rel =>
        have hsz : wr.heap.size ≤ w2.heap.size := by have := hb2.size; simpa using this
        refine ⟨m + 1, by omega, by go_num, by go_num, ?_, ?_, ?_⟩
        · show RowAt _ _ _
          rw [← marks_step k l m hlt]
          refine hr.out.upd (by simpa using hsz) ?_ ?_ ?_ ?_
          · intro q q0 q1 q2
            rw [cell_off _ _ _ _ _ q2, hb2.cell (p := ⟨b, q, none⟩) (by simpa using hbw), cell_off _ _ _ _ _ q1, cell_off _ _ _ _ _ q0]
          · rw [cell_off _ _ _ _ _ (by omega), hb2.cell (p := ⟨b, _, none⟩) (by simpa using hbw), cell_off _ _ _ _ _ (by omega), cell_here _ _ _ _ (by rw [c0]; rfl)]
            simp [mark1]
          · rw [cell_off _ _ _ _ _ (by omega), hb2.cell (p := ⟨b, _, none⟩) (by simpa using hbw), cell_here _ _ _ _ (by rw [cell_off _ _ _ _ _ (by omega), c1]; rfl)]
            simp [mark1]
          · rw [cell_here _ _ _ _ (by rw [g2]; rfl)]
            simp [mark1]
        · show Free _ _ _
          refine hf.out.upd ?_
          intro b' o' q e
          cases e
          rw [World.frozen?_setCell, hb2.frozen (p := ⟨b, q, none⟩) (by simpa using hbw), World.frozen?_setCell, World.frozen?_setCell]
        · have r := (hkp.setCell (p := ⟨b, o + m * 3, none⟩) ⟨by omega, o, rfl⟩ (.int .i64 ((k : Int) + 3 * (m : Int)))).setCell (p := ⟨b, o + m * 3 + 1, none⟩) ⟨by omega, o, rfl⟩ (.int .i64 ((k : Int) + 3 * (m : Int) + 1))
          exact (r.trans (KeepS.ofBelow hb2)).setCell (p := ⟨b, o + m * 3 + 2, none⟩) ⟨by omega, o, rfl⟩ _
      case measure => simp [intOf]; omega
    · have hkl : m = l.length := by omega
      subst hkl
      rw [List.drop_length, List.append_nil] at hr
      go_wp2
      go_ret
      exact ⟨rfl, hr.out, hf.out, hkp⟩

end Go.Proofs.YteamdmcgkpeelakGreat

/-
  The contract of the law's helper that looks whether the marks of a list of cells are still there.
-/
namespace Go.Proofs.YteamdmcgkpeelakGreat
open Go.ChangeShapes Go.WideShapes Go.ChangeAt Go.RowKit
attribute [local go_sem ↓] Go.wp_at_zero Go.wp_at_succ

set_option maxHeartbeats 2000000 in
theorem held_laws (a : Option Addr) (cap n : Nat) (k : Nat) (w : World) (hrow : RowAt w a (marks k n)) (h0 : 0 < k) (h1 : k + 3 * n ≤ 1099511627776) :
    Calls Tryz.prog 53 #[.slice a n cap, .int .i64 k] w fun e w' => e = .returned (.int .i64 ((k + 3 * n : Nat) : Int)) ∧ Below w.heap.size w w' := by
  have hR : Hid (RowAt w a (marks k n)) := hrow
  clear hrow
  go_enter Tryz.func53, Tryz.ntmps53
  go_wp2
  go_loopw [1, 5] (fun s i wr => ∃ m : Nat, m ≤ n ∧ i = .int .i64 m ∧ s = .int .i64 ((k + 3 * m : Nat) : Int) ∧ Below w.heap.size w wr)
    (fun _ i _ => n - (intOf i).toNat)
  case atStart => exact ⟨0, Nat.zero_le _, rfl, by simp, Below.refl _ _⟩
  case round =>
    obtain ⟨m, hm, rfl, rfl, hx⟩ := hrel
    by_cases hlt : m < n
    · have hl2 : m < (marks k n).length := by rw [marks_length]; exact hlt
      obtain ⟨b, o, rfl, hbw, c0, c1, c2⟩ := hR.out.below hx m hl2
      rw [marks_at] at c0 c1 c2
      have d0 : wr.cell? ⟨b, o + m * 3, none⟩ = some (.int .i64 ((k : Int) + 3 * (m : Int))) := by rw [c0]; simp [mark1]
      have d1 : wr.cell? ⟨b, o + m * 3 + 1, none⟩ = some (.int .i64 ((k : Int) + 3 * (m : Int) + 1)) := by rw [c1]; simp [mark1]
      have d2 : wr.cell? ⟨b, o + m * 3 + 2, none⟩ = some (.string (mt (k + 3 * m + 2))) := by rw [c2]; simp [mark1]
      clear c0 c1 c2
      generalize hT : mt (k + 3 * m + 2) = T at d2
      have hi0 : (0 : Int) ≤ (m : Int) := by omega
      have hi1 : (m : Int) < (n : Int) := by omega
      go_wp2_with fail
      go_region_held3 (fun w' => w'.cell? ⟨b, o + m * 3 + 2, none⟩ = some (.string T))
        (((try dsimp only); first | (go_keep; done) | (simp (disch := first | omega | (simp <;> omega) | fail) [*]; done) | fail))
        ((go_at_call 30; refine (text_lawsN (k + 3 * m + 2) _ (by omega) _ (by omega) (by omega)).mono ?_; rw [hT]; rintro e w1 ⟨rfl, hb1⟩; obtain ⟨hc, hf⟩ := bcell hb1))
      all_goals
        go_wp2
        go_roundw
        case rel => exact ⟨m + 1, by omega, by go_num, by go_num, chain hx (undrew hb1)⟩
        case measure => simp [intOf]; omega
    · have hkl : m = n := by omega
      subst hkl
      go_wp2
      go_ret
      exact ⟨rfl, hx⟩

end Go.Proofs.YteamdmcgkpeelakGreat

/-
  The contracts of the law's helpers that mark the cells of a list of lists, and that look whether the marks are still there.
-/
namespace Go.Proofs.YteamdmcgkpeelakGreat
open Go.ChangeShapes Go.WideShapes Go.ChangeAt Go.RowKit
attribute [local go_sem ↓] Go.wp_at_zero Go.wp_at_succ

/-- How many cells lie ahead of the i-th list. -/
def offs (L : List (List CT)) (i : Nat) : Nat := ((L.take i).map List.length).sum
theorem offs_step (L : List (List CT)) (i : Nat) (h : i < L.length) : offs L (i + 1) = offs L i + L[i].length := by
  unfold offs
  rw [List.take_succ_eq_append_getElem h, List.map_append, List.sum_append]; simp
theorem offs_le (L : List (List CT)) (i : Nat) : offs L i ≤ offs L L.length := by
  unfold offs
  rw [List.take_length]
  conv => rhs; rw [← List.take_append_drop i L, List.map_append, List.sum_append]
  omega

/-- The heads of the lists lie where the slice says. -/
def HeadsAt (w : World) (a : Option Addr) (L : List (List CT)) (A : Nat → Option Addr) (C : Nat → Nat) : Prop :=
  ∀ i (h : i < L.length), ∃ b o, a = some ⟨b, o, none⟩ ∧ b < w.heap.size ∧ w.cell? ⟨b, o + i, none⟩ = some (.slice (A i) L[i].length (C i))
/-- No two lists that have cells share a block, and none shares one with the heads. -/
structure Apart (a : Option Addr) (L : List (List CT)) (A : Nat → Option Addr) : Prop where
  heads : ∀ i (h : i < L.length) b o, a = some ⟨b, o, none⟩ → ¬ inBlk (A i) L[i].length b
  rows : ∀ i j (hi : i < L.length) (hj : j < L.length) b, i ≠ j → inBlk (A i) L[i].length b → ¬ inBlk (A j) L[j].length b

theorem RowAt.keepS {P : Nat → Prop} {w w' : World} {a : Option Addr} {l : List CT} (h : RowAt w a l) (hk : KeepS P w w') (hP : ∀ b, inBlk a l.length b → ¬ P b) : RowAt w' a l := by
  intro j hj
  obtain ⟨b, o, ha, hlt, h0, h1, h2⟩ := h j hj
  have hn := hP b ⟨by omega, o, ha⟩
  exact ⟨b, o, ha, Nat.lt_of_lt_of_le hlt hk.size, by rw [hk.cell hlt hn]; exact h0, by rw [hk.cell hlt hn]; exact h1, by rw [hk.cell hlt hn]; exact h2⟩
theorem Free.keepS {P : Nat → Prop} {w w' : World} {a : Option Addr} {l : List CT} (hf : Free w a l.length) (h : RowAt w a l) (hk : KeepS P w w') (hP : ∀ b, inBlk a l.length b → ¬ P b) : Free w' a l.length := by
  intro b o ha j hj
  obtain ⟨b', o', ha', hlt, _⟩ := h 0 (by omega)
  rw [ha] at ha'
  cases ha'
  rw [hk.frozen hlt (hP b ⟨by omega, o, ha⟩)]
  exact hf b o ha j hj
theorem HeadsAt.keepS {P : Nat → Prop} {w w' : World} {a : Option Addr} {L : List (List CT)} {A : Nat → Option Addr} {C : Nat → Nat} (h : HeadsAt w a L A C) (hk : KeepS P w w') (hP : ∀ b o, a = some ⟨b, o, none⟩ → ¬ P b) : HeadsAt w' a L A C := by
  intro i hi
  obtain ⟨b, o, ha, hlt, h0⟩ := h i hi
  exact ⟨b, o, ha, Nat.lt_of_lt_of_le hlt hk.size, by rw [hk.cell hlt (hP b o ha)]; exact h0⟩

/-- The lists are marked up to the i-th; the others are as they were. -/
def Marked (w : World) (L : List (List CT)) (A : Nat → Option Addr) (k i : Nat) : Prop :=
  ∀ j (h : j < L.length), (j < i → RowAt w (A j) (marks (k + 3 * offs L j) L[j].length)) ∧ (i ≤ j → RowAt w (A j) L[j]) ∧ Free w (A j) L[j].length
/-- The blocks of all lists. -/
def rowBlks (L : List (List CT)) (A : Nat → Option Addr) (b : Nat) : Prop := ∃ i, ∃ h : i < L.length, inBlk (A i) L[i].length b

theorem Marked.step {w w' : World} {a : Option Addr} {L : List (List CT)} {A : Nat → Option Addr} {k i : Nat} (hi : i < L.length) (h : Marked w L A k i) (ap : Apart a L A) (hk : KeepS (inBlk (A i) L[i].length) w w')
    (hr : RowAt w' (A i) (marks (k + 3 * offs L i) L[i].length)) (hf : Free w' (A i) L[i].length) : Marked w' L A k (i + 1) := by
  intro j hj
  by_cases hij : j = i
  · subst hij
    exact ⟨fun _ => hr, fun hle => by omega, hf⟩
  · obtain ⟨h1, h2, h3⟩ := h j hj
    have hP : ∀ b, inBlk (A j) L[j].length b → ¬ inBlk (A i) L[i].length b := fun b hb => ap.rows j i hj hi b hij hb
    refine ⟨fun hlt => ?_, fun hle => (h2 (by omega)).keepS hk hP, ?_⟩
    · exact (h1 (by omega)).keepS hk (by rw [marks_length]; exact hP)
    · by_cases hlt : j < i
      · have hm := h1 hlt
        have := Free.keepS (l := marks (k + 3 * offs L j) L[j].length) (by rw [marks_length]; exact h3) hm hk (by rw [marks_length]; exact hP)
        rwa [marks_length] at this
      · exact h3.keepS (h2 (by omega)) hk hP

set_option maxHeartbeats 2000000 in
theorem markss_laws (a : Option Addr) (cap : Nat) (L : List (List CT)) (A : Nat → Option Addr) (C : Nat → Nat) (k : Nat) (w : World) (hh : HeadsAt w a L A C) (hm : Marked w L A k 0) (ap : Apart a L A) (h0 : 0 < k) (h1 : k + 3 * offs L L.length ≤ 1099511627776) (hlen : L.length ≤ maxLen) :
    Calls Tryz.prog 31 #[.slice a L.length cap, .int .i64 k] w fun e w' => e = .returned (.int .i64 ((k + 3 * offs L L.length : Nat) : Int)) ∧ HeadsAt w' a L A C ∧ Marked w' L A k L.length ∧ KeepS (rowBlks L A) w w' := by
  have hH : Hid (HeadsAt w a L A C) := hh
  have hM : Hid (Marked w L A k 0) := hm
  have hA : Hid (Apart a L A) := ap
  clear hh hm ap
  unfold maxLen at hlen
  go_enter Tryz.func31, Tryz.ntmps31
  go_wp2
  go_loopw [1, 5] (fun s i wr => ∃ m : Nat, m ≤ L.length ∧ i = .int .i64 m ∧ s = .int .i64 ((k + 3 * offs L m : Nat) : Int) ∧ Hid (HeadsAt wr a L A C) ∧ Hid (Marked wr L A k m) ∧ KeepS (rowBlks L A) w wr)
    (fun _ i _ => L.length - (intOf i).toNat)
  case atStart => exact ⟨0, Nat.zero_le _, rfl, by simp [offs], hH, hM, KeepS.refl _ _⟩
  case round =>
    obtain ⟨m, hmL, rfl, rfl, hd, hmk, hkp⟩ := hrel
    by_cases hlt : m < L.length
    · obtain ⟨b, o, ha, hbw, c0⟩ := hd.out m hlt
      have hst := offs_step L m hlt
      have hle := offs_le L (m + 1)
      obtain ⟨_, hrow, hfree⟩ := hmk.out m hlt
      have hrow := hrow (Nat.le_refl _)
      have hRW : Hid (RowAt wr (A m) L[m]) := hrow
      have hFR : Hid (Free wr (A m) L[m].length) := hfree
      clear hrow hfree
      have hi0 : (0 : Int) ≤ (m : Int) := by omega
      have hi1 : (m : Int) < (L.length : Int) := by omega
      have FIN : Hid (∀ w1, RowAt w1 (A m) (marks (k + 3 * offs L m) L[m].length) → Free w1 (A m) L[m].length → KeepS (inBlk (A m) L[m].length) wr w1 → HeadsAt w1 a L A C ∧ Marked w1 L A k (m + 1) ∧ KeepS (rowBlks L A) w w1) := by
        intro w1 r f kp
        exact ⟨hd.out.keepS kp (fun b o e => hA.out.heads m hlt b o e), hmk.out.step hlt hA.out kp r f, hkp.trans (kp.mono fun b hb => ⟨m, hlt, hb⟩)⟩
      clear hmk hkp
      generalize L[m] = x at c0 hst hRW hFR FIN
      subst ha
      go_wp2_with fail
      refine (mark_laws _ _ _ (k + 3 * offs L m) _ hRW.out hFR.out (by omega) (by omega)).mono ?_
      rintro e w1 ⟨rfl, r, f, kp⟩
      obtain ⟨q1, q2, q3⟩ := FIN.out w1 r f kp
      clear r f kp FIN
      go_wp2
      go_roundw
      case rel => exact ⟨m + 1, by omega, by go_num, by rw [hst]; congr 1; omega, q1, q2, q3⟩
      case measure => simp [intOf]; omega
    · have hkl : m = L.length := by omega
      subst hkl
      go_wp2
      go_ret
      exact ⟨rfl, hd.out, hmk.out, hkp⟩

set_option maxHeartbeats 2000000 in
theorem heldss_laws (a : Option Addr) (cap : Nat) (L : List (List CT)) (A : Nat → Option Addr) (C : Nat → Nat) (k : Nat) (w : World) (hh : HeadsAt w a L A C) (hm : Marked w L A k L.length) (h0 : 0 < k) (h1 : k + 3 * offs L L.length ≤ 1099511627776) (hlen : L.length ≤ maxLen) :
    Calls Tryz.prog 33 #[.slice a L.length cap, .int .i64 k] w fun e w' => e = .returned (.int .i64 ((k + 3 * offs L L.length : Nat) : Int)) ∧ Below w.heap.size w w' := by
  have hH : Hid (HeadsAt w a L A C) := hh
  have hM : Hid (Marked w L A k L.length) := hm
  clear hh hm
  unfold maxLen at hlen
  go_enter Tryz.func33, Tryz.ntmps33
  go_wp2
  go_loopw [1, 5] (fun s i wr => ∃ m : Nat, m ≤ L.length ∧ i = .int .i64 m ∧ s = .int .i64 ((k + 3 * offs L m : Nat) : Int) ∧ Below w.heap.size w wr)
    (fun _ i _ => L.length - (intOf i).toNat)
  case atStart => exact ⟨0, Nat.zero_le _, rfl, by simp [offs], Below.refl _ _⟩
  case round =>
    obtain ⟨m, hmL, rfl, rfl, hx⟩ := hrel
    by_cases hlt : m < L.length
    · obtain ⟨b, o, ha, hbw, c0⟩ := hH.out m hlt
      have c0' : wr.cell? ⟨b, o + m, none⟩ = some (.slice (A m) L[m].length (C m)) := by rw [hx.cell (p := ⟨b, o + m, none⟩) hbw]; exact c0
      have hst := offs_step L m hlt
      have hle := offs_le L (m + 1)
      have hRW : Hid (RowAt wr (A m) (marks (k + 3 * offs L m) L[m].length)) := ((hM.out m hlt).1 hlt).below hx
      have hi0 : (0 : Int) ≤ (m : Int) := by omega
      have hi1 : (m : Int) < (L.length : Int) := by omega
      clear c0
      generalize L[m] = x at c0' hst hRW
      subst ha
      have hnn : ¬ ((k : Int) + 3 * ((offs L m + x.length : Nat) : Int)) < 0 := by omega
      go_wp2_with fail
      refine (held_laws _ _ _ (k + 3 * offs L m) _ hRW.out (by omega) (by omega)).mono ?_
      rw [show k + 3 * offs L m + 3 * x.length = k + 3 * offs L (m + 1) by rw [hst]; omega]
      rintro e w1 ⟨rfl, hb1⟩
      have hnn2 : ¬ (((k + 3 * offs L (m + 1) : Nat) : Int)) < 0 := by omega
      go_wp2
      go_roundw
      case rel => exact ⟨m + 1, by omega, by go_num, by go_num, chain hx hb1⟩
      case measure => simp [intOf]; omega
    · have hkl : m = L.length := by omega
      subst hkl
      go_wp2
      go_ret
      exact ⟨rfl, hx⟩

end Go.Proofs.YteamdmcgkpeelakGreat

/-
  Rows that lie in memory of their own may be marked: their heads lie there, no two share a block, and all may be written.
-/
namespace Go.Proofs.YteamdmcgkpeelakGreat
open Go.ChangeShapes Go.WideShapes Go.ChangeAt Go.RowKit

theorem own_lt {w : World} {base g n c sz : Nat} {e : TypeId} {xs : List Value} (h : w.ownsRow base e sz (.slice (some ⟨g, 0, none⟩) n c) n xs) : g < w.heap.size := by
  rcases h.2 with ⟨h', _⟩ | ⟨g', cap', cur, h', _, hg, _⟩
  · simp at h'
  · simp only [Value.slice.injEq, Option.some.injEq, Addr.mk.injEq, and_true, true_and] at h'
    obtain ⟨rfl, rfl⟩ := h'
    by_cases hl : g < w.heap.size
    · exact hl
    · rw [Array.getElem?_eq_none (by omega)] at hg; cases hg

theorem getD_at {L : List (List CT)} {i : Nat} (h : i < L.length) : L.getD i [] = L[i] := by simp [List.getD, List.getElem?_eq_getElem h]

/-- The heads lie in one block. -/
theorem OwnRows.head {w : World} {base : Nat} {v : Value} {L : List (List CT)} {G C : Nat → Nat} (h : OwnRows w base v L G C) (hn : v ≠ .slice none 0 0) : ∃ g c, v = .slice (some ⟨g, 0, none⟩) L.length c ∧ base ≤ g := by
  rcases h.outer.2 with ⟨h', _⟩ | ⟨g, c, cur, h', hb, _⟩
  · exact absurd h' hn
  · exact ⟨g, c, h', hb⟩

theorem OwnRows.heads {w : World} {base g c : Nat} {L : List (List CT)} {G C : Nat → Nat} (h : OwnRows w base (.slice (some ⟨g, 0, none⟩) L.length c) L G C) : HeadsAt w (some ⟨g, 0, none⟩) L (fun i => some ⟨G i, 0, none⟩) C := by
  intro i hi
  refine ⟨g, 0, rfl, own_lt h.outer, ?_⟩
  rw [show 0 + i = i by omega, h.outer.cellAt i (by omega)]
  rw [List.getElem?_map, List.getElem?_range hi]
  simp only [Option.map_some, headOf, getD_at hi]

theorem OwnRows.apartA {w : World} {base g c : Nat} {L : List (List CT)} {G C : Nat → Nat} (h : OwnRows w base (.slice (some ⟨g, 0, none⟩) L.length c) L G C) : Apart (some ⟨g, 0, none⟩) L (fun i => some ⟨G i, 0, none⟩) where
  heads i hi b o e := by
    cases e
    rintro ⟨_, o', e'⟩
    cases e'
    exact own_other h.outer (h.inner i hi) (by decide) rfl
  rows i j hi hj b hij := by
    rintro ⟨_, o1, e1⟩ ⟨_, o2, e2⟩
    cases e1
    simp only [Option.some.injEq, Addr.mk.injEq] at e2
    exact h.apart i j hi hj hij e2.1.symm

theorem OwnRows.unmarked {w : World} {base : Nat} {v : Value} {L : List (List CT)} {G C : Nat → Nat} (h : OwnRows w base v L G C) (k : Nat) : Marked w L (fun i => some ⟨G i, 0, none⟩) k 0 := by
  intro j hj
  have hin := h.inner j hj
  rw [headOf, getD_at hj] at hin
  refine ⟨fun hlt => by omega, fun _ => own_row hin, ?_⟩
  intro b o e q hq
  cases e
  exact hin.frozenAt _

theorem OwnRows.rowsAt {w : World} {base g c : Nat} {L : List (List CT)} {G C : Nat → Nat} (h : OwnRows w base (.slice (some ⟨g, 0, none⟩) L.length c) L G C) (hf : ∀ i (hi : i < L.length), Fit L[i]) (hm : ∀ i (hi : i < L.length), L[i].length ≤ maxLen) : RowsAt w (some ⟨g, 0, none⟩) L := by
  intro i hi
  obtain ⟨b, o, e, hlt, hc⟩ := h.heads i hi
  exact ⟨b, o, _, _, e, hlt, hc, (h.unmarked 1 i hi).2.1 (Nat.zero_le _), hf i hi, hm i hi, fun e => by cases e⟩

end Go.Proofs.YteamdmcgkpeelakGreat
