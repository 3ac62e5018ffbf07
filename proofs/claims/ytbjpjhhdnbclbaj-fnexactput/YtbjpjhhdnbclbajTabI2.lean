/-
  The contracts of the program's questions whether a row fits, and whether a table is right.
-/
import Derived.Test.YtbjpjhhdnbclbajTabI1
import Derived.Test.YtbjpjhhdnbclbajTab1
namespace Go.Proofs.Ytbjpjhhdnbclbaj
open Go.ChangeShapes Go.WideShapes Go.ChangeAt Go.RowKit
attribute [local go_sem ↓] Go.wp_at_zero Go.wp_at_succ
attribute [local simp] World.cell?_alloc_past World.cell?_alloc_at World.frozen?_alloc_at cell_far cell_off cell_here World.frozen?_alloc_past

set_option maxHeartbeats 2000000 in
theorem every_cells (a : Option Addr) (cap : Nat) (l : List CT) (w : World) (hrow : RowAt w a l) (hfit : Fit l) (hm : l.length ≤ maxLen) (b : Bool) (hb : l.all okC = b) :
    Calls Try.prog 67 #[.agg #[.slice a l.length cap], .func (.func 68) #[] #[]] w fun e w' => e = .returned (.bool b) ∧ Below w.heap.size w w' := by
  have HR : Hid (RowAt w a l) := hrow
  have HF : Hid (Fit l) := hfit
  have HB : Hid (l.all okC = b) := hb
  clear hrow hfit hb
  unfold maxLen at hm
  go_enter Try.func67, Try.ntmps67
  have hA : Below w.heap.size w (w.alloc (.cells #[.slice a l.length cap] 85)) := (Below.refl _ _).alloc (Nat.le_refl _) _
  go_wp2
  go_loopw [10] (fun kk wr => ∃ k : Nat, k ≤ l.length ∧ kk = .int .i64 k ∧ Hid ((l.take k).all okC = true) ∧ Below w.heap.size w wr) (fun kk _ => l.length - (intOf kk).toNat)
  case atStart => exact ⟨0, Nat.zero_le _, rfl, rfl, hA⟩
  case round =>
    obtain ⟨k, hk, rfl, hall, hbw⟩ := hrel
    by_cases hlt : k < l.length
    · obtain ⟨g, o, rfl, hgw, c0, c1, c2⟩ := HR.out.below hbw k hlt
      have hi0 : (0 : Int) ≤ (k : Int) := by omega
      have hi1 : (k : Int) < (l.length : Int) := by omega
      have hft := HF.out k hlt
      have HS : Hid ((l.take (k + 1)).all okC = okC l[k]) := by
        have : (l.take (k + 1)).all okC = okC l[k] := by
          rw [List.take_succ_eq_append_getElem hlt, List.all_append, hall.out, Bool.true_and, List.all_cons, List.all_nil, Bool.and_true]
        exact this
      have hno : Hid (okC l[k] = false → b = false) := by
        have : okC l[k] = false → b = false := by
          intro e
          rw [← HB.out, Bool.eq_false_iff]
          intro h
          rw [List.all_eq_true.1 h _ (List.getElem_mem hlt)] at e
          cases e
        exact this
      obtain ⟨r, hr⟩ : ∃ r, okC l[k] = r := ⟨_, rfl⟩
      generalize l[k] = x at c0 c1 c2 hft HS hr hno
      obtain ⟨x0, x1, x2⟩ := x
      dsimp only at c0 c1 c2 hft
      have HRR : Hid (okC (x0, x1, x2) = r) := hr
      have HRB : Hid (okB x0 x1 x2 = r) := hr
      clear hr
      go_wp2_with fail
      refine (ok_implb x0 x1 x2 r HRB.out _ hft).mono ?_
      rintro e wA ⟨rfl, hbA⟩
      have hxA := chain hbw (chainA hbA)
      clear hbA
      cases r
      · have e := hno.out HRR.out
        subst e
        go_wp2
        go_ret
        exact ⟨rfl, hxA⟩
      · go_wp2
        go_roundw
        case rel => exact ⟨k + 1, by omega, by go_num, by rw [HS.out]; exact HRR.out, hxA⟩
        case measure => simp [intOf]; omega
    · have hkl : k = l.length := by omega
      subst hkl
      have hnn : ¬ (l.length : Int) < (l.length : Int) := by omega
      have e : b = true := by
        rw [← HB.out]
        have := hall.out
        rw [List.take_length] at this
        exact this
      subst e
      go_wp2
      go_ret
      exact ⟨rfl, hbw⟩

theorem rowfits_impl (n : Nat) (a : Option Addr) (cap : Nat) (l : List CT) (hn : l.length = n) (w : World) (hrow : RowAt w a l) (hfit : Fit l) (hm : n ≤ maxLen) (nc : Nat) (b : Bool) (hb : rowOk nc l = b) :
    Calls Try.prog 45 #[.slice a n cap, .int .i64 nc] w fun e w' => e = .returned (.bool b) ∧ Below w.heap.size w w' := by
  have hmm := hm
  unfold maxLen at hmm
  unfold rowOk at hb
  rw [hn] at hb
  by_cases he : n = nc
  · rw [decide_eq_true he, Bool.true_and] at hb
    have E : Hid (Calls Try.prog 67 #[.agg #[.slice a n cap], .func (.func 68) #[] #[]] w fun e w' => e = .returned (.bool b) ∧ Below w.heap.size w w') := by
      have : Calls Try.prog 67 #[.agg #[.slice a n cap], .func (.func 68) #[] #[]] w fun e w' => e = .returned (.bool b) ∧ Below w.heap.size w w' := by
        subst hn; exact every_cells a cap l w hrow hfit hm b hb
      exact this
    subst he
    clear hrow hfit hn hb
    go_enter Try.func45, Try.ntmps45
    go_wp2_with fail
    refine E.out.mono ?_
    rintro e w1 ⟨rfl, hb1⟩
    go_wp2
    go_ret
    exact ⟨rfl, hb1⟩
  · rw [decide_eq_false he, Bool.false_and] at hb
    subst hb
    have hne : ((n : Int) == (nc : Int)) = false := by rw [beq_eq_false_iff_ne]; omega
    have hne2 : ¬ (n : Int) = (nc : Int) := by omega
    clear hrow hfit hn
    go_enter Try.func45, Try.ntmps45
    go_wp2
    go_ret
    exact ⟨rfl, Below.refl _ _⟩

set_option maxHeartbeats 2000000 in
theorem every_rows (g : Nat) (hent : ∀ (xs : Array Value) (w : World), (callFunc g xs).run Try.prog w = .ok (.enter g xs) w) (ad : Addr) (p : List CT → Bool) (nr : Nat) (a : Option Addr) (cap : Nat) (L : List (List CT)) (hn : L.length = nr) (w : World) (hrow : RowsAt w a L) (hm : nr ≤ maxLen)
    (hg : ∀ k (hk : k < L.length) w' ai ci, Below w.heap.size w w' → RowAt w' ai L[k] → Calls Try.prog g #[.slice ai L[k].length ci, .pointer (some ad)] w' fun e w'' => e = .returned (.bool (p L[k])) ∧ Below w'.heap.size w' w'') (b : Bool) (hb : L.all p = b) :
    Calls Try.prog 43 #[.agg #[.slice a nr cap], .func (.func g) #[] #[.pointer (some ad)]] w fun e w' => e = .returned (.bool b) ∧ Below w.heap.size w w' := by
  have HR : Hid (RowsAt w a L) := hrow
  have HG : Hid (∀ k (hk : k < L.length) w' ai ci, Below w.heap.size w w' → RowAt w' ai L[k] → Calls Try.prog g #[.slice ai L[k].length ci, .pointer (some ad)] w' fun e w'' => e = .returned (.bool (p L[k])) ∧ Below w'.heap.size w' w'') := hg
  have HB : Hid (L.all p = b) := hb
  have HN : Hid (L.length = nr) := hn
  clear hrow hb hg hn
  unfold maxLen at hm
  go_enter Try.func43, Try.ntmps43
  have hA : Below w.heap.size w (w.alloc (.cells #[.slice a nr cap] 63)) := (Below.refl _ _).alloc (Nat.le_refl _) _
  go_wp2
  go_loopw [10] (fun kk wr => ∃ k : Nat, k ≤ nr ∧ kk = .int .i64 k ∧ Hid ((L.take k).all p = true) ∧ Below w.heap.size w wr) (fun kk _ => nr - (intOf kk).toNat)
  case atStart => exact ⟨0, Nat.zero_le _, rfl, rfl, hA⟩
  case round =>
    obtain ⟨k, hk, rfl, hall, hbw⟩ := hrel
    by_cases hlt : k < nr
    · have hlt' : k < L.length := by rw [HN.out]; exact hlt
      obtain ⟨g1, o, ai, ci, rfl, hgw, c0, hrow, hfit, hlen, _⟩ := HR.out.below hbw k hlt'
      have hi0 : (0 : Int) ≤ (k : Int) := by omega
      have hi1 : (k : Int) < (nr : Int) := by omega
      have HS : Hid ((L.take (k + 1)).all p = p L[k]) := by
        have : (L.take (k + 1)).all p = p L[k] := by
          rw [List.take_succ_eq_append_getElem hlt', List.all_append, hall.out, Bool.true_and, List.all_cons, List.all_nil, Bool.and_true]
        exact this
      have hno : Hid (p L[k] = false → b = false) := by
        have : p L[k] = false → b = false := by
          intro e
          rw [← HB.out, Bool.eq_false_iff]
          intro h
          rw [List.all_eq_true.1 h _ (List.getElem_mem hlt')] at e
          cases e
        exact this
      have HC : Hid (Calls Try.prog g #[.slice ai L[k].length ci, .pointer (some ad)] wr fun e w'' => e = .returned (.bool (p L[k])) ∧ Below wr.heap.size wr w'') := HG.out k hlt' wr ai ci hbw hrow
      clear hrow hfit
      obtain ⟨r, hr⟩ : ∃ r, p L[k] = r := ⟨_, rfl⟩
      rw [hr] at HS hno HC
      clear hr
      obtain ⟨n, hnn⟩ : ∃ n, L[k].length = n := ⟨_, rfl⟩
      rw [hnn] at c0 hlen HC
      clear hnn
      go_wp2_with fail
      refine HC.out.mono ?_
      rintro e wA ⟨rfl, hbA⟩
      have hxA := chain hbw hbA
      clear hbA HC
      cases r
      · have e := hno.out (by trivial)
        subst e
        go_wp2
        go_ret
        exact ⟨rfl, hxA⟩
      · go_wp2
        go_roundw
        case rel => exact ⟨k + 1, by omega, by go_num, HS, hxA⟩
        case measure => simp [intOf]; omega
    · have hkl : k = nr := by omega
      subst hkl
      have hnn : ¬ (k : Int) < (k : Int) := by omega
      have e : b = true := by
        rw [← HB.out]
        have := hall.out
        rw [← HN.out, List.take_length] at this
        exact this
      subst e
      go_wp2
      go_ret
      exact ⟨rfl, hbw⟩

theorem ent_tab1 : ∀ (xs : Array Value) (w : World), (callFunc 44 xs).run Try.prog w = .ok (.enter 44 xs) w := fun xs w => by kernel_rfl

theorem tab1_impl (n : Nat) (ai : Option Addr) (ci : Nat) (l : List CT) (hn : l.length = n) (w : World) (hrow : RowAt w ai l) (hfit : Fit l) (hm : n ≤ maxLen) (B : Nat) (ca : Option Addr) (nc cc : Nat) (hB : w.cell? ⟨B, 1, none⟩ = some (.slice ca nc cc)) (b : Bool) (hb : rowOk nc l = b) :
    Calls Try.prog 44 #[.slice ai n ci, .pointer (some ⟨B, 0, none⟩)] w fun e w' => e = .returned (.bool b) ∧ Below w.heap.size w w' := by
  have E : Hid (Calls Try.prog 45 #[.slice ai n ci, .int .i64 nc] w fun e w' => e = .returned (.bool b) ∧ Below w.heap.size w w') := rowfits_impl n ai ci l hn w hrow hfit hm nc b hb
  clear hrow hfit hn hb
  go_enter Try.func44, Try.ntmps44
  go_wp2_with fail
  refine E.out.mono ?_
  rintro e w1 ⟨rfl, hb1⟩
  go_wp2
  go_ret
  exact ⟨rfl, hb1⟩

theorem rowsof_impl (nm : ByteArray) (ca : Option Addr) (nc cc : Nat) (ra : Option Addr) (nr cr : Nat) (w : World) :
    Calls Try.prog 42 #[.agg #[.string nm, .slice ca nc cc, .slice ra nr cr]] w fun e w' => e = .returned (.agg #[.slice ra nr cr]) ∧ Below w.heap.size w w' := by
  go_enter Try.func42, Try.ntmps42
  go_wp2
  exact bodyPost_ret (v := .agg #[.slice ra nr cr]) (by simp [results, Try.results42, go_sem]) rfl ⟨rfl, ((Below.refl _ _).alloc (Nat.le_refl _) _).alloc (by simp) _⟩

set_option maxRecDepth 100000 in
set_option maxHeartbeats 4000000 in
theorem table_impl (ca : Option Addr) (cc : Nat) (ra : Option Addr) (cr : Nat) (t : TB) (nc nr : Nat) (hnc : t.2.1.length = nc) (hnr : t.2.2.length = nr) (w : World) (ht : TabAt w ca cc ra t) (b : Bool) (hb : tableB t = b) :
    Calls Try.prog 17 #[.agg #[.string t.1, .slice ca nc cc, .slice ra nr cr]] w fun e w' => e = .returned (.bool b) ∧ Below w.heap.size w w' := by
  obtain ⟨nm, C, L⟩ := t
  dsimp only at hnc hnr ⊢
  have HT : Hid (TabAt w ca cc ra (nm, C, L)) := ht
  have HNC : Hid (C.length = nc) := hnc
  have HNR : Hid (L.length = nr) := hnr
  have hncM : nc ≤ maxLen := by rw [← hnc]; exact ht.len
  have hnrM : nr ≤ maxLen := by rw [← hnr]; exact ht.lenR
  have hcap : nc ≤ cc := by rw [← hnc]; exact ht.cap
  have hnm : nm.size ≤ maxLen := ht.name
  obtain ⟨b1, h1⟩ : ∃ x, nameB nm = x := ⟨_, rfl⟩
  obtain ⟨b2, h2⟩ : ∃ x, namesB C 1 6 = x := ⟨_, rfl⟩
  have HB1 : Hid (nameB nm = b1) := h1
  have HB2 : Hid (namesB C 1 6 = b2) := h2
  have hb' : ((b1 && (b2 && decide (nr ≤ 60))) && L.all (rowOk nc)) = b := by rw [← hb, ← h1, ← h2, ← hnc, ← hnr]; rfl
  clear ht hb h1 h2 hnc hnr
  have hm1 := hncM
  have hm2 := hnrM
  unfold maxLen at hm1 hm2
  have HTA : Hid (TabAt (w.alloc (.cells #[.string nm, .slice ca nc cc, .slice ra nr cr] 36)) ca cc ra (nm, C, L)) := HT.out.below ((Below.refl _ _).alloc (Nat.le_refl _) _)
  cases b1
  · rw [Bool.false_and, Bool.false_and] at hb'
    subst hb'
    go_enter Try.func17, Try.ntmps17
    go_wp2_with fail
    refine (name_impl nm _ hnm false HB1.out).mono ?_
    rintro e w' ⟨rfl, rfl⟩
    go_wp2
    go_ret
    exact ⟨rfl, (Below.refl _ _).alloc (Nat.le_refl _) _⟩
  rw [Bool.true_and] at hb'
  go_enter Try.func17, Try.ntmps17
  go_wp2_with fail
  refine (name_impl nm _ hnm true HB1.out).mono ?_
  rintro e w' ⟨rfl, rfl⟩
  go_wp2_with fail
  refine (columns_impl nc ca cc C HNC.out _ HTA.out.cols HTA.out.fit hncM hcap b2 HB2.out).mono ?_
  rintro e w1 ⟨rfl, hbx⟩
  obtain ⟨p0, p1, p2, p3⟩ := box3 hbx
  have hx1 : Below w.heap.size w w1 := chainA hbx
  have H1 : Hid (TabAt w1 ca cc ra (nm, C, L)) := HTA.out.below hbx
  clear hbx HTA HT
  cases b2
  · rw [Bool.false_and, Bool.false_and] at hb'
    subst hb'
    go_wp2
    go_ret
    exact ⟨rfl, hx1⟩
  rw [Bool.true_and] at hb'
  by_cases h60 : (60 : Int) < (nr : Int)
  · rw [decide_eq_false (by omega), Bool.false_and] at hb'
    subst hb'
    go_wp2
    go_ret
    exact ⟨rfl, hx1⟩
  rw [decide_eq_true (by omega), Bool.true_and] at hb'
  have HB : Hid (L.all (rowOk nc) = b) := hb'
  clear hb'
  have E : Hid (∀ w', Below w1.heap.size w1 w' → Calls Try.prog 43 #[.agg #[.slice ra nr cr], .func (.func 44) #[] #[.pointer (some ⟨w.heap.size, 0, none⟩)]] w' fun e w'' => e = .returned (.bool b) ∧ Below w'.heap.size w' w'') := by
    have : ∀ w', Below w1.heap.size w1 w' → Calls Try.prog 43 #[.agg #[.slice ra nr cr], .func (.func 44) #[] #[.pointer (some ⟨w.heap.size, 0, none⟩)]] w' fun e w'' => e = .returned (.bool b) ∧ Below w'.heap.size w' w'' := by
      intro w' hw
      refine every_rows 44 ent_tab1 ⟨w.heap.size, 0, none⟩ (rowOk nc) nr ra cr L HNR.out w' (H1.out.rows.below hw) hnrM ?_ b HB.out
      intro k hk w2 ai ci hw2 hra
      obtain ⟨_, _, _, _, _, _, _, _, hfit, hlen, _⟩ := H1.out.rows k hk
      exact tab1_impl _ ai ci L[k] rfl w2 hra hfit hlen w.heap.size ca nc cc (by rw [(chain hw hw2).cell (p := ⟨w.heap.size, 1, none⟩) p3]; exact p1) _ rfl
    exact this
  go_wp2_with fail
  refine (rowsof_impl _ _ _ _ _ _ _ _).mono ?_
  rintro e w2 ⟨rfl, hb2⟩
  go_wp2_with fail
  refine (E.out _ hb2).mono ?_
  rintro e w3 ⟨rfl, hb3⟩
  go_wp2
  go_ret
  exact ⟨rfl, chain hx1 (chain hb2 hb3)⟩

end Go.Proofs.Ytbjpjhhdnbclbaj
