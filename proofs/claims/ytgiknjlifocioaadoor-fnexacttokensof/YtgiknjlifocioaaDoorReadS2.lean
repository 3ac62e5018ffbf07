/-
  The contract of the model's reading of a cell.
-/
import Derived.Test.YtgiknjlifocioaaDoorReadS
import Derived.Laws.DeepStrings4
namespace Go.Proofs.YtgiknjlifocioaaDoor
open Go.ChangeShapes Go.WideShapes Go.ChangeAt Go.RowKit
attribute [local go_sem ↓] Go.wp_at_zero Go.wp_at_succ

set_option maxRecDepth 100000 in
theorem most_spec (s : ByteArray) (hs : s.size ≤ maxLen) (w : World) (a : Int) (b : Bool) (hR : mostR s.data.toList = (a, b)) :
    Calls Tryd.prog 21 #[.string s, .int .i64 10] w fun e w' => e = .returned (.tuple #[.int .i64 a, .bool b]) ∧ Below w.heap.size w w' := by
  rw [mostR_body] at hR
  by_cases hp : s.size = 0
  · have hs0 : s = ⟨#[]⟩ := bytes_ext (by rw [Lib.size_eq] at hp; exact List.length_eq_zero_iff.1 hp)
    subst hs0
    have hf : bodyR false 0 [] = (a, b) := hR
    rw [bodyR_len (.inl (by simp))] at hf
    injection hf with e1 e2
    subst e1 e2
    clear hR
    go_enter Tryd.func21, Tryd.ntmps21
    go_wp2
    go_ret2
    exact ⟨rfl, Below.refl _ _⟩
  · have hh := head_drop s 0 (by omega)
    rw [List.drop_zero] at hh
    by_cases h0 : (s[0]'(by omega)).toNat = 45
    · have e : decide (s.data.toList.head? = some 45) = true := by rw [hh, decide_eq_true_eq]; congr 1; exact (byte_eq (n := 45) (by decide)).2 h0
      rw [e, if_pos rfl, ← Lib.size_eq] at hR
      exact most_neg s hs (by omega) h0 w a b hR
    · have e : decide (s.data.toList.head? = some 45) = false := by
        rw [hh, decide_eq_false_iff_not]
        intro x
        injection x with x
        exact h0 (by rw [x]; rfl)
      rw [e, if_neg (by decide), ← Lib.size_eq] at hR
      exact most_pos s hs (by omega) h0 w a b (by rw [List.drop_zero]; exact hR)

/-- What a text is read as, as both answer it. -/
def readR (s : ByteArray) : Int × Int × ByteArray × Bool := match readB s with
  | some (k, n, t) => (k, n, t, true)
  | none => (0, 0, ⟨#[]⟩, false)
theorem readR_most {s : ByteArray} {a : Int} (h1 : ¬ s.data.toList = wNone) (h2 : ¬ s.data.toList = wYes) (h3 : ¬ s.data.toList = wNo) (hm : mostR s.data.toList = (a, true)) :
    readR s = if numB a = true then (1, a, ⟨#[]⟩, true) else (0, 0, ⟨#[]⟩, false) := by
  unfold readR readB
  rw [if_neg h1, if_neg h2, if_neg h3]
  unfold mostR at hm
  cases hr : readMost s.data.toList with
  | none => rw [hr] at hm; injection hm with _ e; cases e
  | some n =>
    rw [hr] at hm
    injection hm with e _
    subst e
    simp only []
    by_cases hn : numB n = true
    · rw [if_pos hn, if_pos hn]
    · rw [if_neg hn, if_neg hn]
theorem readR_text {s : ByteArray} {a : Int} (h1 : ¬ s.data.toList = wNone) (h2 : ¬ s.data.toList = wYes) (h3 : ¬ s.data.toList = wNo) (hm : mostR s.data.toList = (a, false)) :
    a = 0 ∧ readR s = if 1 < s.size ∧ s.data.toList.head? = some 39 ∧ s.data.toList.getLast? = some 39 then (if textB (inner s) = true then (2, 0, inner s, true) else (0, 0, ⟨#[]⟩, false)) else (0, 0, ⟨#[]⟩, false) := by
  unfold readR readB
  rw [if_neg h1, if_neg h2, if_neg h3]
  unfold mostR at hm
  cases hr : readMost s.data.toList with
  | some n => rw [hr] at hm; injection hm with _ e; cases e
  | none =>
    rw [hr] at hm
    injection hm with e _
    refine ⟨e.symm, ?_⟩
    simp only []
    by_cases hq : 1 < s.size ∧ s.data.toList.head? = some 39 ∧ s.data.toList.getLast? = some 39
    · rw [if_pos hq, if_pos hq]
      by_cases ht : textB (inner s) = true
      · rw [if_pos ht, if_pos ht]
      · rw [if_neg ht, if_neg ht]
    · rw [if_neg hq, if_neg hq]
theorem last_get (s : ByteArray) (h : 0 < s.size) : s.data.toList.getLast? = some (s[s.size - 1]'(by omega)) := by
  rw [List.getLast?_eq_getElem?, ← Lib.size_eq, List.getElem?_eq_getElem (by rw [← Lib.size_eq]; omega)]; rfl

/-- Two new blocks of three, in every later world, and that both may be written. -/
theorem two3F {w w1 : World} {a b c : Value} {T : TypeId} {x y z : Value} {U : TypeId}
    (hb : Below ((w.alloc (.cells #[a, b, c] T)).alloc (.cells #[x, y, z] U)).heap.size ((w.alloc (.cells #[a, b, c] T)).alloc (.cells #[x, y, z] U)) w1) :
    ((w1.cell? ⟨w.heap.size, 0, none⟩ = some a ∧ w1.cell? ⟨w.heap.size, 1, none⟩ = some b ∧ w1.cell? ⟨w.heap.size, 2, none⟩ = some c ∧ w.heap.size < w1.heap.size) ∧
    (w1.cell? ⟨w.heap.size + 1, 0, none⟩ = some x ∧ w1.cell? ⟨w.heap.size + 1, 1, none⟩ = some y ∧ w1.cell? ⟨w.heap.size + 1, 2, none⟩ = some z ∧ w.heap.size + 1 < w1.heap.size)) ∧
    ((w1.frozen? ⟨w.heap.size, 0, none⟩ = false ∧ w1.frozen? ⟨w.heap.size, 1, none⟩ = false ∧ w1.frozen? ⟨w.heap.size, 2, none⟩ = false) ∧
    (w1.frozen? ⟨w.heap.size + 1, 0, none⟩ = false ∧ w1.frozen? ⟨w.heap.size + 1, 1, none⟩ = false ∧ w1.frozen? ⟨w.heap.size + 1, 2, none⟩ = false)) := by
  obtain ⟨h1, h2, h3⟩ := two3 hb
  refine ⟨⟨h1, h2⟩, ⟨?_, ?_, ?_⟩, h3⟩
  · rw [hb.frozen (p := ⟨w.heap.size, 0, none⟩) (by simp; omega)]; simp [go_sem]
  · rw [hb.frozen (p := ⟨w.heap.size, 1, none⟩) (by simp; omega)]; simp [go_sem]
  · rw [hb.frozen (p := ⟨w.heap.size, 2, none⟩) (by simp; omega)]; simp [go_sem]

/-- Three cells of a block are written: they hold it, and what lies in another block stays. -/
theorem set3 {w W : World} {B : Nat} {x y z p q r : Value} (hW : W = ((w.setCell ⟨B, 0, none⟩ x).setCell ⟨B, 1, none⟩ y).setCell ⟨B, 2, none⟩ z) (h : w.cell? ⟨B, 0, none⟩ = some p ∧ w.cell? ⟨B, 1, none⟩ = some q ∧ w.cell? ⟨B, 2, none⟩ = some r) :
    (W.cell? ⟨B, 0, none⟩ = some x ∧ W.cell? ⟨B, 1, none⟩ = some y ∧ W.cell? ⟨B, 2, none⟩ = some z) ∧ W.heap.size = w.heap.size ∧ (∀ D o, D ≠ B → W.cell? ⟨D, o, none⟩ = w.cell? ⟨D, o, none⟩) ∧ (∀ D o, W.frozen? ⟨D, o, none⟩ = w.frozen? ⟨D, o, none⟩) := by
  obtain ⟨h0, h1, h2⟩ := h
  have c1 : ((w.setCell ⟨B, 0, none⟩ x).cell? ⟨B, 1, none⟩) = some q := by rw [cell_off _ _ _ _ _ (by decide)]; exact h1
  have c2 : (((w.setCell ⟨B, 0, none⟩ x).setCell ⟨B, 1, none⟩ y).cell? ⟨B, 2, none⟩) = some r := by rw [cell_off _ _ _ _ _ (by decide), cell_off _ _ _ _ _ (by decide)]; exact h2
  subst hW
  refine ⟨⟨?_, ?_, ?_⟩, by simp, ?_, ?_⟩
  · rw [cell_off _ _ _ _ _ (by decide), cell_off _ _ _ _ _ (by decide), cell_here _ _ _ _ (by rw [h0]; rfl)]
  · rw [cell_off _ _ _ _ _ (by decide), cell_here _ _ _ _ (by rw [c1]; rfl)]
  · rw [cell_here _ _ _ _ (by rw [c2]; rfl)]
  · intro D o hD
    rw [cell_far _ _ _ _ _ _ hD, cell_far _ _ _ _ _ _ hD, cell_far _ _ _ _ _ _ hD]
  · intro D o
    simp

set_option maxRecDepth 100000 in
set_option maxHeartbeats 4000000 in
theorem readcell_spec (s : ByteArray) (hs : s.size ≤ 1048576) (w : World) (k n : Int) (t : ByteArray) (b : Bool) (hR0 : readR s = (k, n, t, b)) :
    Calls Tryd.prog 13 #[.string s] w fun e w' => e = .returned (.tuple #[.agg #[.int .i64 k, .int .i64 n, .string t], .bool b]) ∧ Below w.heap.size w w' := by
  by_cases h1 : s.data.toList = wNone
  · have e : s = ⟨wNone.toArray⟩ := bytes_ext h1
    subst e
    have hf : (0, 0, ⟨#[]⟩, true) = (k, n, t, b) := hR0
    injection hf with e1 hf; injection hf with e2 hf; injection hf with e3 e4
    subst e1 e2 e3 e4
    clear hR0
    go_enter Tryd.func13, Tryd.ntmps13
    go_wp2
    go_returns
    exact ⟨rfl, by go_grown⟩
  by_cases h2 : s.data.toList = wYes
  · have e : s = ⟨wYes.toArray⟩ := bytes_ext h2
    subst e
    have hf : (3, 1, ⟨#[]⟩, true) = (k, n, t, b) := hR0
    injection hf with e1 hf; injection hf with e2 hf; injection hf with e3 e4
    subst e1 e2 e3 e4
    clear hR0
    go_enter Tryd.func13, Tryd.ntmps13
    go_wp2_with fail
    refine (truth_specb _ 1 rfl _).mono ?_
    rintro e w1 ⟨rfl, hb1⟩
    obtain ⟨⟨a1, b1, c1, d1⟩, f1, f2, f3⟩ := box3F hb1
    go_wp2
    generalize hZ : ((w1.setCell ⟨w.heap.size, 0, none⟩ _).setCell ⟨w.heap.size, 1, none⟩ _).setCell ⟨w.heap.size, 2, none⟩ _ = Z
    obtain ⟨⟨z1, z2, z3⟩, _, _, _⟩ := set3 hZ.symm ⟨a1, b1, c1⟩
    refine bodyPost_ret (by simp [results, Tryd.results13, go_sem, z1, z2, z3]; try rfl) rfl ?_
    exact ⟨rfl, by rw [← hZ]; exact (((chainA hb1).setCell (Nat.le_refl _) _).setCell (Nat.le_refl _) _).setCell (Nat.le_refl _) _⟩
  by_cases h3 : s.data.toList = wNo
  · have e : s = ⟨wNo.toArray⟩ := bytes_ext h3
    subst e
    have hf : (3, 0, ⟨#[]⟩, true) = (k, n, t, b) := hR0
    injection hf with e1 hf; injection hf with e2 hf; injection hf with e3 e4
    subst e1 e2 e3 e4
    clear hR0
    go_enter Tryd.func13, Tryd.ntmps13
    go_wp2_with fail
    refine (truth_specb _ 0 rfl _).mono ?_
    rintro e w1 ⟨rfl, hb1⟩
    obtain ⟨⟨a1, b1, c1, d1⟩, f1, f2, f3⟩ := box3F hb1
    go_wp2
    generalize hZ : ((w1.setCell ⟨w.heap.size, 0, none⟩ _).setCell ⟨w.heap.size, 1, none⟩ _).setCell ⟨w.heap.size, 2, none⟩ _ = Z
    obtain ⟨⟨z1, z2, z3⟩, _, _, _⟩ := set3 hZ.symm ⟨a1, b1, c1⟩
    refine bodyPost_ret (by simp [results, Tryd.results13, go_sem, z1, z2, z3]; try rfl) rfl ?_
    exact ⟨rfl, by rw [← hZ]; exact (((chainA hb1).setCell (Nat.le_refl _) _).setCell (Nat.le_refl _) _).setCell (Nat.le_refl _) _⟩
  have hR : Hid (readR s = (k, n, t, b)) := hR0
  clear hR0
  have q1 : (s.toList == [110, 111, 110, 101]) = false := by rw [Lib.toList_data]; exact beq_eq_false_iff_ne.2 h1
  have q2 : (s.toList == [121, 101, 115]) = false := by rw [Lib.toList_data]; exact beq_eq_false_iff_ne.2 h2
  have q3 : (s.toList == [110, 111]) = false := by rw [Lib.toList_data]; exact beq_eq_false_iff_ne.2 h3
  have hsM : s.size ≤ maxLen := by unfold maxLen; omega
  obtain ⟨a, bm, hm⟩ : ∃ a b, mostR s.data.toList = (a, b) := ⟨_, _, rfl⟩
  cases bm with
  | true =>
    have hf := hR.out
    rw [readR_most h1 h2 h3 hm] at hf
    clear h1 h2 h3 hR
    have hM : Hid (mostR s.data.toList = (a, true)) := hm
    clear hm
    cases hnb : numB a with
    | true =>
      rw [hnb, if_pos rfl] at hf
      injection hf with e1 hf; injection hf with e2 hf; injection hf with e3 e4
      subst e1 e2 e3 e4
      have hok : okB 1 a ⟨#[]⟩ = true := okB_1'.trans hnb
      go_enter Tryd.func13, Tryd.ntmps13
      go_wp2_with fail
      refine (most_spec s hsM _ _ _ hM.out).mono ?_
      rintro e w1 ⟨rfl, hb1⟩
      obtain ⟨⟨⟨a1, b1, c1, d1⟩, a2, b2, c2, d2⟩, ⟨f1, f2, f3⟩, g1, g2, g3⟩ := two3F hb1
      go_wp2_with fail
      generalize hW : ((w1.setCell ⟨w.heap.size + 1, 0, none⟩ _).setCell ⟨w.heap.size + 1, 1, none⟩ _).setCell ⟨w.heap.size + 1, 2, none⟩ _ = W
      obtain ⟨⟨e1, e2, e3⟩, e4, e5, e6⟩ := set3 hW.symm ⟨a2, b2, c2⟩
      have hbW : Below w.heap.size w W := by rw [← hW]; exact (((chainAA hb1).setCell (by simp) _).setCell (by simp) _).setCell (by simp) _
      refine (ok_specb _ _ _ _ hok _ (Nat.zero_le _)).mono ?_
      rintro e w2 ⟨rfl, hb2⟩
      obtain ⟨p1, p2, p3, p4⟩ := later3 hb2 ⟨e1, e2, e3, by omega⟩
      obtain ⟨r1, r2, r3, r4⟩ := later3 (B := w.heap.size) hb2 ⟨(e5 _ _ (by omega)).trans a1, (e5 _ _ (by omega)).trans b1, (e5 _ _ (by omega)).trans c1, by omega⟩
      obtain ⟨s1, s2, s3⟩ := frozen3 (B := w.heap.size) hb2 (by omega) ⟨(e6 _ _).trans f1, (e6 _ _).trans f2, (e6 _ _).trans f3⟩
      have hb3 := chain hbW hb2
      clear e1 e2 e3 e5 e6 a1 b1 c1 a2 b2 c2 f1 f2 f3 g1 g2 g3 hW hb2 hbW
      go_wp2
      generalize hZ : ((w2.setCell ⟨w.heap.size, 0, none⟩ _).setCell ⟨w.heap.size, 1, none⟩ _).setCell ⟨w.heap.size, 2, none⟩ _ = Z
      obtain ⟨⟨z1, z2, z3⟩, _, _, _⟩ := set3 hZ.symm ⟨r1, r2, r3⟩
      refine bodyPost_ret (by simp [results, Tryd.results13, go_sem, z1, z2, z3]; try rfl) rfl ?_
      exact ⟨rfl, by rw [← hZ]; exact ((hb3.setCell (Nat.le_refl _) _).setCell (Nat.le_refl _) _).setCell (Nat.le_refl _) _⟩
    | false =>
      rw [hnb, if_neg (by decide)] at hf
      injection hf with e1 hf; injection hf with e2 hf; injection hf with e3 e4
      subst e1 e2 e3 e4
      have hok : okB 1 a ⟨#[]⟩ = false := okB_1'.trans hnb
      go_enter Tryd.func13, Tryd.ntmps13
      go_wp2_with fail
      refine (most_spec s hsM _ _ _ hM.out).mono ?_
      rintro e w1 ⟨rfl, hb1⟩
      obtain ⟨⟨⟨a1, b1, c1, d1⟩, a2, b2, c2, d2⟩, ⟨f1, f2, f3⟩, g1, g2, g3⟩ := two3F hb1
      go_wp2_with fail
      generalize hW : ((w1.setCell ⟨w.heap.size + 1, 0, none⟩ _).setCell ⟨w.heap.size + 1, 1, none⟩ _).setCell ⟨w.heap.size + 1, 2, none⟩ _ = W
      obtain ⟨⟨e1, e2, e3⟩, e4, e5, e6⟩ := set3 hW.symm ⟨a2, b2, c2⟩
      have hbW : Below w.heap.size w W := by rw [← hW]; exact (((chainAA hb1).setCell (by simp) _).setCell (by simp) _).setCell (by simp) _
      refine (ok_specb _ _ _ _ hok _ (Nat.zero_le _)).mono ?_
      rintro e w2 ⟨rfl, hb2⟩
      obtain ⟨p1, p2, p3, p4⟩ := later3 hb2 ⟨e1, e2, e3, by omega⟩
      obtain ⟨r1, r2, r3, r4⟩ := later3 (B := w.heap.size) hb2 ⟨(e5 _ _ (by omega)).trans a1, (e5 _ _ (by omega)).trans b1, (e5 _ _ (by omega)).trans c1, by omega⟩
      obtain ⟨s1, s2, s3⟩ := frozen3 (B := w.heap.size) hb2 (by omega) ⟨(e6 _ _).trans f1, (e6 _ _).trans f2, (e6 _ _).trans f3⟩
      have hb3 := chain hbW hb2
      clear e1 e2 e3 e5 e6 a1 b1 c1 a2 b2 c2 f1 f2 f3 g1 g2 g3 hW hb2 hbW
      go_wp2
      generalize hZ : ((w2.setCell ⟨w.heap.size, 0, none⟩ _).setCell ⟨w.heap.size, 1, none⟩ _).setCell ⟨w.heap.size, 2, none⟩ _ = Z
      obtain ⟨⟨z1, z2, z3⟩, _, _, _⟩ := set3 hZ.symm ⟨r1, r2, r3⟩
      refine bodyPost_ret (by simp [results, Tryd.results13, go_sem, z1, z2, z3]; try rfl) rfl ?_
      exact ⟨rfl, by rw [← hZ]; exact ((hb3.setCell (Nat.le_refl _) _).setCell (Nat.le_refl _) _).setCell (Nat.le_refl _) _⟩
  | false =>
    obtain ⟨rfl, hf0⟩ := readR_text h1 h2 h3 hm
    have hf := hR.out
    rw [hf0] at hf
    clear h1 h2 h3 hR hf0
    have hM : Hid (mostR s.data.toList = (0, false)) := hm
    clear hm
    by_cases hq1 : 1 < s.size
    · have hl := last_get s (by omega)
      have hh := head_drop s 0 (by omega)
      rw [List.drop_zero] at hh
      have hq1' : (1 : Int) < (s.size : Int) := by omega
      have hw1 : wrap64 ((s.size : Int) - 1) = (s.size : Int) - 1 := by unfold wrap64; omega
      have hw2 : ((s.size : Int) - 1).toNat = s.size - 1 := by omega
      have hp1 : (0 : Int) < (s.size : Int) := by omega
      by_cases hq2 : (s[0]'(by omega)).toNat = 39
      · by_cases hq3 : (s[s.size - 1]'(by omega)).toNat = 39
        · rw [if_pos ⟨hq1, by rw [hh]; congr 1; exact (byte_eq (n := 39) (by decide)).2 hq2, by rw [hl]; congr 1; exact (byte_eq (n := 39) (by decide)).2 hq3⟩] at hf
          have hin : (inner s).size ≤ maxLen := by
            have : (inner s).size ≤ s.size := by unfold inner; rw [Lib.size_eq, Lib.extract_data, List.length_take, List.length_drop, ← Lib.size_eq]; omega
            omega
          have hex : s.extract 1 (s.size - 1) = inner s := rfl
          cases htb : textB (inner s) with
          | true =>
            rw [htb, if_pos rfl] at hf
            have hok : okB 2 0 (inner s) = true := okB_2'.trans htb
            generalize inner s = u at hf hok hin hex htb
            injection hf with e1 hf; injection hf with e2 hf; injection hf with e3 e4
            subst e1 e2 e3 e4
            go_enter Tryd.func13, Tryd.ntmps13
            go_wp2_with fail
            refine (most_spec s hsM _ _ _ hM.out).mono ?_
            rintro e w1 ⟨rfl, hb1⟩
            obtain ⟨⟨⟨a1, b1, c1, d1⟩, a2, b2, c2, d2⟩, ⟨f1, f2, f3⟩, g1, g2, g3⟩ := two3F hb1
            go_wp2_with fail
            generalize hW : ((w1.setCell ⟨w.heap.size + 1, 0, none⟩ _).setCell ⟨w.heap.size + 1, 1, none⟩ _).setCell ⟨w.heap.size + 1, 2, none⟩ _ = W
            obtain ⟨⟨e1, e2, e3⟩, e4, e5, e6⟩ := set3 hW.symm ⟨a2, b2, c2⟩
            have hbW : Below w.heap.size w W := by rw [← hW]; exact (((chainAA hb1).setCell (by simp) _).setCell (by simp) _).setCell (by simp) _
            refine (ok_specb _ _ _ _ hok _ hin).mono ?_
            rintro e w2 ⟨rfl, hb2⟩
            obtain ⟨p1, p2, p3, p4⟩ := later3 hb2 ⟨e1, e2, e3, by omega⟩
            obtain ⟨r1, r2, r3, r4⟩ := later3 (B := w.heap.size) hb2 ⟨(e5 _ _ (by omega)).trans a1, (e5 _ _ (by omega)).trans b1, (e5 _ _ (by omega)).trans c1, by omega⟩
            obtain ⟨s1, s2, s3⟩ := frozen3 (B := w.heap.size) hb2 (by omega) ⟨(e6 _ _).trans f1, (e6 _ _).trans f2, (e6 _ _).trans f3⟩
            have hb3 := chain hbW hb2
            clear e1 e2 e3 e5 e6 a1 b1 c1 a2 b2 c2 f1 f2 f3 g1 g2 g3 hW hb2 hbW
            go_wp2
            generalize hZ : ((w2.setCell ⟨w.heap.size, 0, none⟩ _).setCell ⟨w.heap.size, 1, none⟩ _).setCell ⟨w.heap.size, 2, none⟩ _ = Z
            obtain ⟨⟨z1, z2, z3⟩, _, _, _⟩ := set3 hZ.symm ⟨r1, r2, r3⟩
            refine bodyPost_ret (by simp [results, Tryd.results13, go_sem, z1, z2, z3]; try rfl) rfl ?_
            exact ⟨rfl, by rw [← hZ]; exact ((hb3.setCell (Nat.le_refl _) _).setCell (Nat.le_refl _) _).setCell (Nat.le_refl _) _⟩
          | false =>
            rw [htb, if_neg (by decide)] at hf
            have hok : okB 2 0 (inner s) = false := okB_2'.trans htb
            generalize inner s = u at hf hok hin hex htb
            injection hf with e1 hf; injection hf with e2 hf; injection hf with e3 e4
            subst e1 e2 e3 e4
            go_enter Tryd.func13, Tryd.ntmps13
            go_wp2_with fail
            refine (most_spec s hsM _ _ _ hM.out).mono ?_
            rintro e w1 ⟨rfl, hb1⟩
            obtain ⟨⟨⟨a1, b1, c1, d1⟩, a2, b2, c2, d2⟩, ⟨f1, f2, f3⟩, g1, g2, g3⟩ := two3F hb1
            go_wp2_with fail
            generalize hW : ((w1.setCell ⟨w.heap.size + 1, 0, none⟩ _).setCell ⟨w.heap.size + 1, 1, none⟩ _).setCell ⟨w.heap.size + 1, 2, none⟩ _ = W
            obtain ⟨⟨e1, e2, e3⟩, e4, e5, e6⟩ := set3 hW.symm ⟨a2, b2, c2⟩
            have hbW : Below w.heap.size w W := by rw [← hW]; exact (((chainAA hb1).setCell (by simp) _).setCell (by simp) _).setCell (by simp) _
            refine (ok_specb _ _ _ _ hok _ hin).mono ?_
            rintro e w2 ⟨rfl, hb2⟩
            obtain ⟨p1, p2, p3, p4⟩ := later3 hb2 ⟨e1, e2, e3, by omega⟩
            obtain ⟨r1, r2, r3, r4⟩ := later3 (B := w.heap.size) hb2 ⟨(e5 _ _ (by omega)).trans a1, (e5 _ _ (by omega)).trans b1, (e5 _ _ (by omega)).trans c1, by omega⟩
            obtain ⟨s1, s2, s3⟩ := frozen3 (B := w.heap.size) hb2 (by omega) ⟨(e6 _ _).trans f1, (e6 _ _).trans f2, (e6 _ _).trans f3⟩
            have hb3 := chain hbW hb2
            clear e1 e2 e3 e5 e6 a1 b1 c1 a2 b2 c2 f1 f2 f3 g1 g2 g3 hW hb2 hbW
            go_wp2
            generalize hZ : ((w2.setCell ⟨w.heap.size, 0, none⟩ _).setCell ⟨w.heap.size, 1, none⟩ _).setCell ⟨w.heap.size, 2, none⟩ _ = Z
            obtain ⟨⟨z1, z2, z3⟩, _, _, _⟩ := set3 hZ.symm ⟨r1, r2, r3⟩
            refine bodyPost_ret (by simp [results, Tryd.results13, go_sem, z1, z2, z3]; try rfl) rfl ?_
            exact ⟨rfl, by rw [← hZ]; exact ((hb3.setCell (Nat.le_refl _) _).setCell (Nat.le_refl _) _).setCell (Nat.le_refl _) _⟩
        · rw [if_neg (by rintro ⟨_, _, e⟩; rw [hl] at e; injection e with e; exact hq3 (by rw [e]; rfl))] at hf
          injection hf with e1 hf; injection hf with e2 hf; injection hf with e3 e4
          subst e1 e2 e3 e4
          go_enter Tryd.func13, Tryd.ntmps13
          go_wp2_with fail
          refine (most_spec s hsM _ _ _ hM.out).mono ?_
          rintro e w1 ⟨rfl, hb1⟩
          obtain ⟨⟨⟨a1, b1, c1, d1⟩, a2, b2, c2, d2⟩, ⟨f1, f2, f3⟩, g1, g2, g3⟩ := two3F hb1
          go_wp2
          generalize hZ : ((w1.setCell ⟨w.heap.size, 0, none⟩ _).setCell ⟨w.heap.size, 1, none⟩ _).setCell ⟨w.heap.size, 2, none⟩ _ = Z
          obtain ⟨⟨z1, z2, z3⟩, _, _, _⟩ := set3 hZ.symm ⟨a1, b1, c1⟩
          refine bodyPost_ret (by simp [results, Tryd.results13, go_sem, z1, z2, z3]; try rfl) rfl ?_
          exact ⟨rfl, by rw [← hZ]; exact (((chainAA hb1).setCell (Nat.le_refl _) _).setCell (Nat.le_refl _) _).setCell (Nat.le_refl _) _⟩
      · rw [if_neg (by rintro ⟨_, e, _⟩; rw [hh] at e; injection e with e; exact hq2 (by rw [e]; rfl))] at hf
        injection hf with e1 hf; injection hf with e2 hf; injection hf with e3 e4
        subst e1 e2 e3 e4
        go_enter Tryd.func13, Tryd.ntmps13
        go_wp2_with fail
        refine (most_spec s hsM _ _ _ hM.out).mono ?_
        rintro e w1 ⟨rfl, hb1⟩
        obtain ⟨⟨⟨a1, b1, c1, d1⟩, a2, b2, c2, d2⟩, ⟨f1, f2, f3⟩, g1, g2, g3⟩ := two3F hb1
        go_wp2
        generalize hZ : ((w1.setCell ⟨w.heap.size, 0, none⟩ _).setCell ⟨w.heap.size, 1, none⟩ _).setCell ⟨w.heap.size, 2, none⟩ _ = Z
        obtain ⟨⟨z1, z2, z3⟩, _, _, _⟩ := set3 hZ.symm ⟨a1, b1, c1⟩
        refine bodyPost_ret (by simp [results, Tryd.results13, go_sem, z1, z2, z3]; try rfl) rfl ?_
        exact ⟨rfl, by rw [← hZ]; exact (((chainAA hb1).setCell (Nat.le_refl _) _).setCell (Nat.le_refl _) _).setCell (Nat.le_refl _) _⟩
    · have hq1' : ¬ (1 : Int) < (s.size : Int) := by omega
      rw [if_neg (by rintro ⟨e, _⟩; exact hq1 e)] at hf
      injection hf with e1 hf; injection hf with e2 hf; injection hf with e3 e4
      subst e1 e2 e3 e4
      go_enter Tryd.func13, Tryd.ntmps13
      go_wp2_with fail
      refine (most_spec s hsM _ _ _ hM.out).mono ?_
      rintro e w1 ⟨rfl, hb1⟩
      obtain ⟨⟨⟨a1, b1, c1, d1⟩, a2, b2, c2, d2⟩, ⟨f1, f2, f3⟩, g1, g2, g3⟩ := two3F hb1
      go_wp2
      generalize hZ : ((w1.setCell ⟨w.heap.size, 0, none⟩ _).setCell ⟨w.heap.size, 1, none⟩ _).setCell ⟨w.heap.size, 2, none⟩ _ = Z
      obtain ⟨⟨z1, z2, z3⟩, _, _, _⟩ := set3 hZ.symm ⟨a1, b1, c1⟩
      refine bodyPost_ret (by simp [results, Tryd.results13, go_sem, z1, z2, z3]; try rfl) rfl ?_
      exact ⟨rfl, by rw [← hZ]; exact (((chainAA hb1).setCell (Nat.le_refl _) _).setCell (Nat.le_refl _) _).setCell (Nat.le_refl _) _⟩

end Go.Proofs.YtgiknjlifocioaaDoor
