/-
  Which steps are right, as the program asks it; what comes out, one by one.
-/
import Derived.Test.YtmhamgcjmehnnaaDoorFoI4
import Derived.Test.YtmhamgcjmehnnaaDoorFastF
import Derived.Test.YtmhamgcjmehnnaaDoorRegEq
import Derived.Test.YtmhamgcjmehnnaaDoorOpVar
import Derived.Test.YtmhamgcjmehnnaaDoorInts1
import Derived.Test.YtmhamgcjmehnnaaDoorKept
import Derived.Laws.Tables
import Derived.Laws.Rows
import Derived.Laws.CopyOwn
namespace Go.Proofs.YtmhamgcjmehnnaaDoor
open Go.ChangeShapes Go.WideShapes Go.ChangeAt Go.RowKit
attribute [local go_sem ↓] Go.wp_at_zero Go.wp_at_succ
attribute [local simp] World.cell?_alloc_past World.cell?_alloc_at World.frozen?_alloc_at cell_far cell_off cell_here World.frozen?_alloc_past

theorem reg_one (P : Int → Bool) (x : Int) : (regB x && P (x.toNat : Int)) = (inI x 0 29 && P x) := by
  unfold regB inI
  by_cases h : 0 ≤ x
  · rw [Int.toNat_of_nonneg h]
    by_cases h2 : x < 30
    · rw [decide_eq_true h2, decide_eq_true (show x ≤ 29 by omega)]
    · rw [decide_eq_false h2, decide_eq_false (show ¬ x ≤ 29 by omega)]
  · rw [decide_eq_false h]; simp
theorem has_one (P : Int → Bool) (x : Int) : hasB (fun k : Nat => P k) [x] = (inI x 0 29 && P x) := by
  rw [← reg_one P x]; simp [hasB]
theorem has_two (P : Int → Bool) (x y : Int) : hasB (fun k : Nat => P k) [x, y] = ((inI x 0 29 && P x) && (inI y 0 29 && P y)) := by
  rw [← reg_one P x, ← reg_one P y]
  unfold hasB
  simp only [List.all_cons, List.all_nil, Bool.and_true]
  cases regB x <;> cases regB y <;> simp
theorem room_one (P : Int → Bool) (x : Int) : roomB (fun k : Nat => P k) [x] = (inI x 0 29 && !P x) := by
  have h := reg_one P x
  unfold roomB
  simp only [List.all_cons, List.all_nil, Bool.and_true, List.isEmpty_cons, Bool.false_or]
  have h2 : regB x = inI x 0 29 := by
    unfold regB inI
    congr 1
    simp only [decide_eq_decide]; omega
  rw [h2] at h ⊢
  cases e : inI x 0 29
  · rfl
  · rw [e, Bool.true_and, Bool.true_and] at h
    rw [h]
/-- Is a step right: as the program asks it. -/
theorem op_eq (P : Int → Bool) (width : Int) (o : FO) : opB P width o = ((fitO width o && hasB (fun k : Nat => P k) (readsO o)) && roomB (fun k : Nat => P k) (writesO o)) := by
  obtain ⟨k, t, a, c⟩ := o
  unfold opB fitO readsO writesO ownO
  dsimp only
  by_cases h12 : k = 12
  · subst h12
    rw [if_pos rfl, if_neg (by omega), if_pos rfl, if_neg (by omega), if_neg (by omega), if_neg (by omega), if_pos (by omega), if_pos rfl, has_one]
    have e : decide ((12, (0 : Int), a, (0 : Int)) = ((12 : Int), t, a, c)) = (decide (t = 0) && decide (c = 0)) := by
      rw [Bool.eq_iff_iff]
      simp only [decide_eq_true_eq, Prod.mk.injEq, Bool.and_eq_true, true_and]
      exact ⟨fun ⟨h1, h2⟩ => ⟨h1.symm, h2.symm⟩, fun ⟨h1, h2⟩ => ⟨h1.symm, h2.symm⟩⟩
    rw [e]
    simp [roomB, Bool.and_assoc]
  rw [if_neg h12, if_neg h12, if_neg h12, room_one]
  by_cases h1 : k = 1
  · subst h1
    rw [if_pos rfl, if_pos (by omega), if_pos rfl, if_pos (by omega)]
    have e : decide ((1, t, a, (0 : Int)) = ((1 : Int), t, a, c)) = decide (c = 0) := by
      rw [Bool.eq_iff_iff]
      simp only [decide_eq_true_eq, Prod.mk.injEq, true_and]
      exact ⟨fun h => h.symm, fun h => h.symm⟩
    have e2 : inI a 0 (width - 1) = (decide (0 ≤ a) && decide (a < width)) := by
      unfold inI
      congr 1
      simp only [decide_eq_decide]; omega
    rw [e, e2]
    simp only [hasB, List.all_nil, Bool.and_true]
    cases inI t 0 29 <;> cases P t <;> cases decide (c = 0) <;> simp
  rw [if_neg h1]
  by_cases h2 : k = 2
  · subst h2
    rw [if_pos rfl, if_pos (by omega), if_neg (by omega), if_pos rfl, if_pos (by omega)]
    have e : decide ((2, t, a, (0 : Int)) = ((2 : Int), t, a, c)) = decide (c = 0) := by
      rw [Bool.eq_iff_iff]
      simp only [decide_eq_true_eq, Prod.mk.injEq, true_and]
      exact ⟨fun h => h.symm, fun h => h.symm⟩
    rw [e]
    unfold inI
    simp only [hasB, List.all_nil, Bool.and_true]
    cases (decide (0 ≤ t) && decide (t ≤ 29)) <;> cases P t <;> cases decide (c = 0) <;> simp
  rw [if_neg h2, if_neg h1, if_neg h2, if_neg (by omega : ¬(k = 1 ∨ k = 2))]
  by_cases h11 : k = 11
  · subst h11
    rw [if_pos rfl, if_pos (by omega), if_pos (by omega), has_one]
    have e : decide ((11, t, a, (0 : Int)) = ((11 : Int), t, a, c)) = decide (c = 0) := by
      rw [Bool.eq_iff_iff]
      simp only [decide_eq_true_eq, Prod.mk.injEq, true_and]
      exact ⟨fun h => h.symm, fun h => h.symm⟩
    rw [e]
    cases inI t 0 29 <;> cases P t <;> cases decide (c = 0) <;> simp
  rw [if_neg h11, if_neg (by omega : ¬(k = 1 ∨ k = 2 ∨ k = 11)), if_neg (by omega : ¬(k = 11 ∨ k = 12)), has_two]
  have e : inI k 3 10 = decide (1 ≤ k ∧ k ≤ 12) := by
    unfold inI
    rw [Bool.eq_iff_iff]
    simp only [Bool.and_eq_true, decide_eq_true_eq]
    omega
  rw [e, decide_eq_true (rfl : (k, t, a, c) = (k, t, a, c))]
  cases inI t 0 29 <;> cases P t <;> cases decide (1 ≤ k ∧ k ≤ 12) <;> simp [Bool.and_assoc]
theorem out_eq (P : Int → Bool) (width : Int) (u : FU) : outB P width u = fitU (fun k : Nat => P k) width u := by
  obtain ⟨k, t, a⟩ := u
  unfold outB fitU
  dsimp only
  rw [has_one]
  have e2 : inI k 0 (width - 1) = (decide (0 ≤ k) && decide (k < width)) := by
    unfold inI
    congr 1
    simp only [decide_eq_decide]; omega
  rw [e2]
  by_cases h : t = -1
  · subst h
    simp [inI]
  · simp [h]
theorem add_step {O : List FO} {k : Nat} (hk : k < O.length) : addP (fun r : Nat => hadB (O.take k) r) (writesO O[k]) = fun r : Nat => hadB (O.take (k + 1)) r := by
  funext r
  rw [had_step hk]
  unfold addP writesO
  by_cases h : O[k].1 = 12
  · rw [if_pos h]; simp [h]
  · rw [if_neg h]; simp [h]
theorem writes_regs {P : Int → Bool} {o : FO} (h : roomB (fun k : Nat => P k) (writesO o) = true) : (writesO o).all regB = true := by
  unfold roomB at h
  rw [Bool.or_eq_true] at h
  rcases h with h | h
  · rw [List.isEmpty_iff.1 h]; rfl
  · rw [Bool.and_eq_true] at h
    exact h.1
theorem reads_few (o : FO) : (readsO o).length ≤ maxLen := by
  unfold readsO
  unfold maxLen
  split
  · simp
  · split <;> simp
theorem writes_few (o : FO) : (writesO o).length ≤ maxLen := by
  unfold writesO maxLen
  split <;> simp
theorem outone_impl (HB WB : Nat) (p : Nat → Bool) (width : Int) (u : FU) (w : World) (hB : RBox w HB p) (hBl : HB < w.heap.size) (hW : w.cell? ⟨WB, 0, none⟩ = some (.int .i64 width)) (hWl : WB < w.heap.size) (b : Bool) (hb : fitU p width u = b) :
    Calls Tryd.prog 22 #[.agg #[.int .i64 u.1, .int .i64 u.2.1, .bool u.2.2], .pointer (some ⟨HB, 0, none⟩), .pointer (some ⟨WB, 0, none⟩)] w fun e w' => e = .returned (.bool b) ∧ Below w.heap.size w w' := by
  have HU := hid (fun wz => outfits_impl u p width wz b hb)
  have hX2 : infoSz (regL p).toArray := infoRg.trans (congrArg some (regL_size p).symm)
  obtain ⟨k, t, a⟩ := u
  unfold regV at HU
  obtain ⟨W0, hW0⟩ : ∃ W, w.alloc (.cells #[.int .i64 k, .int .i64 t, .bool a] 43) = W := ⟨_, rfl⟩
  have hA : Below w.heap.size w W0 := by rw [← hW0]; exact (Below.refl _ _).alloc (Nat.le_refl _) _
  have hB0 := hB.below hBl hA
  have hW1 := (hA.cell (p := ⟨WB, 0, none⟩) hWl).trans hW
  have c0 : W0.cell? ⟨w.heap.size, 0, none⟩ = some (.int .i64 k) ∧ W0.cell? ⟨w.heap.size, 1, none⟩ = some (.int .i64 t) ∧ W0.cell? ⟨w.heap.size, 2, none⟩ = some (.bool a) := cells3f (T := 43) (by rw [← hW0]; exact _root_.Go.heap_alloc_new w _)
  obtain ⟨c0, c1, c2⟩ := c0
  unfold RBox at hB0
  dsimp only at HU ⊢
  generalize (regL p).toArray = X at HU hX2 hB0
  have HX := hid hB0
  clear hB hB0 hb hW
  go_enter Tryd.func22, Tryd.ntmps22
  go_wp2_with (first
    | refine wpList_load_row rfl 47 _ rfl HB rfl 47 X (0, 0) _ HX.out Tryd.underlying47 rfl hX2 ?_
    | fail)
  refine (HU.out _).mono ?_
  rintro e w1 ⟨rfl, hb1⟩
  have hx1 := chain hA hb1
  clear hb1 hW0
  go_wp2
  go_ret
  exact ⟨rfl, hx1⟩
set_option maxHeartbeats 2000000 in
theorem every_outs (HB WB : Nat) (p : Nat → Bool) (width : Int) (a : Option Addr) (cap n : Nat) (l : List FU) (hn : l.length = n) (w : World) (hrow : FuAt w a l) (hm : n ≤ maxLen) (hB : RBox w HB p) (hBl : HB < w.heap.size) (hW : w.cell? ⟨WB, 0, none⟩ = some (.int .i64 width)) (hWl : WB < w.heap.size) (b : Bool) (hb : l.all (fitU p width) = b) :
    Calls Tryd.prog 21 #[.agg #[.slice a n cap], .func (.func 22) #[] #[.pointer (some ⟨HB, 0, none⟩), .pointer (some ⟨WB, 0, none⟩)]] w fun e w' => e = .returned (.bool b) ∧ Below w.heap.size w w' := by
  have HR := hid hrow
  have HX := hid hB
  have HW := hid hW
  have HB' := hid hb
  have HN := hid hn
  clear hrow hB hW hb hn
  unfold maxLen at hm
  go_enter Tryd.func21, Tryd.ntmps21
  have hA : Below w.heap.size w (w.alloc (.cells #[.slice a n cap] 54)) := (Below.refl _ _).alloc (Nat.le_refl _) _
  go_wp2
  go_loopw [10] (fun kk wr => ∃ k : Nat, k ≤ n ∧ kk = .int .i64 k ∧ Hid ((l.take k).all (fitU p width) = true) ∧ Below w.heap.size w wr) (fun kk _ => n - (intOf kk).toNat)
  case atStart => exact ⟨0, Nat.zero_le _, rfl, rfl, hA⟩
  case round =>
    obtain ⟨k, hk, rfl, hall, hbw⟩ := hrel
    by_cases hlt : k < n
    · have hlt' : k < l.length := by rw [HN.out]; exact hlt
      obtain ⟨g, o, rfl, hgw, c0, c1, c2⟩ := HR.out.below hbw k hlt'
      have hi0 : (0 : Int) ≤ (k : Int) := by omega
      have hi1 : (k : Int) < (n : Int) := by omega
      have HS : Hid ((l.take (k + 1)).all (fitU p width) = fitU p width l[k]) := by
        have : (l.take (k + 1)).all (fitU p width) = fitU p width l[k] := by
          rw [List.take_succ_eq_append_getElem hlt', List.all_append, hall.out, Bool.true_and, List.all_cons, List.all_nil, Bool.and_true]
        exact this
      have hno : Hid (fitU p width l[k] = false → b = false) := by
        have : fitU p width l[k] = false → b = false := by
          intro e
          rw [← HB'.out, Bool.eq_false_iff]
          intro h
          rw [List.all_eq_true.1 h _ (List.getElem_mem hlt')] at e
          cases e
        exact this
      obtain ⟨r, hr⟩ : ∃ r, fitU p width l[k] = r := ⟨_, rfl⟩
      generalize l[k]'hlt' = x at c0 c1 c2 HS hr hno
      have HC := hid (fun wz (hz : Below w.heap.size w wz) => outone_impl HB WB p width x wz (HX.out.below hBl hz) (Nat.lt_of_lt_of_le hBl hz.size) ((hz.cell (p := ⟨WB, 0, none⟩) hWl).trans HW.out) (Nat.lt_of_lt_of_le hWl hz.size) r hr)
      rw [hr] at HS hno
      clear hr hlt'
      obtain ⟨x0, x1, x2⟩ := x
      dsimp only at c0 c1 c2 HC
      go_wp2_with fail
      have hA2 := chain hbw ((Below.refl wr.heap.size wr).alloc (Nat.le_refl _) (.cells #[.int .i64 x0, .int .i64 x1, .bool x2] 43))
      refine (HC.out _ hA2).mono ?_
      rintro e wA ⟨rfl, hbA⟩
      have hxA := chain hA2 hbA
      clear hbA HC
      cases r
      · have e := hno.out (by trivial)
        subst e
        go_wp2
        go_ret
        exact ⟨rfl, hxA⟩
      · go_wp2
        go_roundw
        case rel => exact ⟨k + 1, by omega, by go_num, HS, hxA⟩
        case measure => simp [intOf]; omega
    · have hkl : k = n := by omega
      subst hkl
      have hnn : ¬ (k : Int) < (k : Int) := by omega
      have e : b = true := by
        rw [← HB'.out]
        have := hall.out
        rw [← HN.out, List.take_length] at this
        exact this
      subst e
      go_wp2
      go_ret
      exact ⟨rfl, hbw⟩
end Go.Proofs.YtmhamgcjmehnnaaDoor
