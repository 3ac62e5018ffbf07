/-
  The contract of the program's Distinct.
-/
import Derived.Test.YtgeipficjfaocabDistS
import Derived.Test.YtgeipficjfaocabCopyI
namespace Go.Proofs.Ytgeipficjfaocab
open Go.ChangeShapes Go.WideShapes Go.ChangeAt Go.RowKit
attribute [local go_sem ↓] Go.wp_at_zero Go.wp_at_succ

set_option maxRecDepth 100000 in
set_option maxHeartbeats 1000000 in
theorem equal_impl (a b : Option Addr) (ca cb : Nat) (l m : List CT) (w : World) (ha : RowAt w a l) (hb : RowAt w b m) (hl : l.length ≤ maxLen) (r : Bool) (hr : sameRow l m = r) :
    Calls Try.prog 21 #[.slice a l.length ca, .slice b m.length cb] w fun e w' => e = .returned (.bool r) ∧ Below w.heap.size w w' := by
  have HA : Hid (RowAt w a l) := ha
  have HB : Hid (RowAt w b m) := hb
  have HR : Hid (sameRow l m = r) := hr
  clear ha hb hr
  unfold maxLen at hl
  by_cases hlen : l.length = m.length
  · have hli : ((l.length : Int) == (m.length : Int)) = true := by rw [beq_iff_eq]; omega
    have HL : Hid (l.length = m.length) := hlen
    obtain ⟨n, hn⟩ : ∃ n, l.length = n := ⟨_, rfl⟩
    have hn2 : m.length = n := by omega
    have HN : Hid (l.length = n ∧ m.length = n) := ⟨hn, hn2⟩
    rw [hn, hn2]
    clear hlen hli hn2
    rw [hn] at hl
    clear hn
    go_enter Try.func21, Try.ntmps21
    go_wp2
    go_loopw [13] (fun kk wr => ∃ k : Nat, k ≤ n ∧ kk = .int .i64 k ∧ Hid (∀ j (h1 : j < l.length) (h2 : j < m.length), j < k → sameC l[j] m[j] = true) ∧ Below w.heap.size w wr) (fun kk _ => n - (intOf kk).toNat)
    case atStart => exact ⟨0, Nat.zero_le _, rfl, fun j _ _ h => by omega, Below.refl _ _⟩
    case round =>
      obtain ⟨k, hk, rfl, hall, hbw⟩ := hrel
      by_cases hlt : k < n
      · have h1 : k < l.length := by have := HN.out; omega
        have h2 : k < m.length := by have := HN.out; omega
        obtain ⟨g, o, rfl, hgw, c0, c1, c2⟩ := HA.out.below hbw k h1
        obtain ⟨g', o', rfl, hgw', d0, d1, d2⟩ := HB.out.below hbw k h2
        have hi0 : (0 : Int) ≤ (k : Int) := by omega
        have hi1 : (k : Int) < (n : Int) := by omega
        obtain ⟨q, hq⟩ : ∃ q, sameC l[k] m[k] = q := ⟨_, rfl⟩
        have hno : Hid (q = false → r = false) := by
          have : q = false → r = false := fun e => by rw [← HR.out]; exact sameRow_at k h1 h2 (by rw [hq, e])
          exact this
        have hyes : Hid (q = true → ∀ j (h1 : j < l.length) (h2 : j < m.length), j < k + 1 → sameC l[j] m[j] = true) := by
          have : q = true → ∀ j (h1 : j < l.length) (h2 : j < m.length), j < k + 1 → sameC l[j] m[j] = true := by
            intro e j hj1 hj2 hjk
            by_cases ej : j = k
            · subst ej; rw [hq, e]
            · exact hall.out j hj1 hj2 (by omega)
          exact this
        have hqr : ∀ wz, (binOp .neq 37 (.agg #[.int .i64 l[k].1, .int .i64 l[k].2.1, .string l[k].2.2]) (.agg #[.int .i64 m[k].1, .int .i64 m[k].2.1, .string m[k].2.2])).run Try.prog wz = .ok (.bool !q) wz := fun wz => by rw [run_neq, ← hq]; rfl
        clear hq
        generalize l[k] = x at c0 c1 c2 hqr
        generalize m[k] = y at d0 d1 d2 hqr
        cases q
        · have e := hno.out rfl
          subst e
          go_wp2_with fail
          go_quiet (fail)
          go_wp2
          go_ret
          exact ⟨rfl, belowN hbw _⟩
        · go_wp2_with fail
          go_quiet (fail)
          go_wp2
          go_roundw
          case rel => exact ⟨k + 1, by omega, by go_num, hyes.out (by trivial), belowN hbw _⟩
          case measure => simp [intOf]; omega
      · have hkl : k = n := by omega
        subst hkl
        have hi1 : ¬ (k : Int) < (k : Int) := by omega
        have e : r = true := by
          rw [← HR.out]
          exact sameRow_all HL.out fun j h1 h2 => hall.out j h1 h2 (by have := HN.out; omega)
        subst e
        go_wp2
        go_ret
        exact ⟨rfl, hbw⟩
  · have hli : ((l.length : Int) == (m.length : Int)) = false := by rw [beq_eq_false_iff_ne]; omega
    have hli2 : ¬ ((l.length : Int) = (m.length : Int)) := by omega
    have e : r = false := by rw [← HR.out]; exact sameRow_len hlen
    subst e
    go_enter Try.func21, Try.ntmps21
    go_wp2
    go_ret
    exact ⟨rfl, Below.refl _ _⟩


theorem clos_impl (a b : Option Addr) (ca cb B : Nat) (l m : List CT) (w : World) (ha : RowAt w a l) (hb : RowAt w b m) (hB : w.cell? ⟨B, 0, none⟩ = some (.slice b m.length cb)) (hl : l.length ≤ maxLen) (r : Bool) (hr : sameRow l m = r) :
    Calls Try.prog 20 #[.slice a l.length ca, .pointer (some ⟨B, 0, none⟩)] w fun e w' => e = .returned (.bool r) ∧ Below w.heap.size w w' := by
  have HA : Hid (RowAt w a l) := ha
  have HB : Hid (RowAt w b m) := hb
  have HR : Hid (sameRow l m = r) := hr
  have HM : Hid (l.length ≤ maxLen) := hl
  clear ha hb hr hl
  go_enter Try.func20, Try.ntmps20
  go_wp2_with fail
  refine (equal_impl _ _ _ _ l m _ HA.out HB.out HM.out r HR.out).mono ?_
  rintro e w1 ⟨rfl, hb1⟩
  go_wp2
  go_ret
  exact ⟨rfl, hb1⟩

set_option maxRecDepth 100000 in
set_option maxHeartbeats 1000000 in
theorem index_impl (a b : Option Addr) (ca cb B : Nat) (L : List (List CT)) (x : List CT) (w : World) (ha : RowsAt w a L) (hb : RowAt w b x) (hB : w.cell? ⟨B, 0, none⟩ = some (.slice b x.length cb)) (hl : L.length ≤ maxLen) (r : Bool) (hr : hasR L x = r) :
    Calls Try.prog 25 #[.slice a L.length ca, .func (.func 20) #[] #[.pointer (some ⟨B, 0, none⟩)]] w fun e w' => ∃ k : Int, e = .returned (.int .i64 k) ∧ (r = true → 0 ≤ k) ∧ (r = false → k = -1) ∧ Below w.heap.size w w' := by
  have HA : Hid (RowsAt w a L) := ha
  have HB : Hid (RowAt w b x) := hb
  have HR : Hid (hasR L x = r) := hr
  have HC : Hid (w.cell? ⟨B, 0, none⟩ = some (.slice b x.length cb)) := hB
  clear ha hb hr hB
  unfold maxLen at hl
  go_enter Try.func25, Try.ntmps25
  go_wp2
  go_loopw [8] (fun kk wr => ∃ k : Nat, k ≤ L.length ∧ kk = .int .i64 k ∧ Hid (∀ y ∈ L.take k, sameRow y x = false) ∧ Below w.heap.size w wr) (fun kk _ => L.length - (intOf kk).toNat)
  case atStart => exact ⟨0, Nat.zero_le _, rfl, fun y hy => by simp at hy, Below.refl _ _⟩
  case round =>
    obtain ⟨k, hk, rfl, hall, hbw⟩ := hrel
    by_cases hlt : k < L.length
    · obtain ⟨g, o, ai, ci, rfl, hgw, c0, hra, _, hml, _⟩ := HA.out.below hbw k hlt
      have hi0 : (0 : Int) ≤ (k : Int) := by omega
      have hi1 : (k : Int) < (L.length : Int) := by omega
      have RA : Hid (RowAt wr ai L[k]) := hra
      obtain ⟨q, hq⟩ : ∃ q, sameRow L[k] x = q := ⟨_, rfl⟩
      have HQ : Hid (sameRow L[k] x = q) := hq
      have hyes : Hid (q = true → r = true) := by
        have : q = true → r = true := by
          intro e
          rw [← HR.out]
          unfold hasR
          rw [List.any_eq_true]
          exact ⟨L[k], List.getElem_mem hlt, by rw [hq, e]⟩
        exact this
      have hno : Hid (q = false → ∀ y ∈ L.take (k + 1), sameRow y x = false) := by
        have : q = false → ∀ y ∈ L.take (k + 1), sameRow y x = false := by
          intro e y hy
          rw [List.take_succ_eq_append_getElem hlt] at hy
          rcases List.mem_append.1 hy with h | h
          · exact hall.out y h
          · rw [List.mem_singleton] at h; rw [h, hq, e]
        exact this
      clear hra hq
      generalize L[k] = y at c0 RA HQ hml
      go_wp2_with fail
      refine (clos_impl _ _ _ _ B y x _ RA.out (HB.out.below hbw) (by rw [hbw.cell (p := ⟨B, 0, none⟩) (World.block_lt_of_cell? w _ HC.out)]; exact HC.out) hml q HQ.out).mono ?_
      rintro e w1 ⟨rfl, hb1⟩
      clear c0
      cases q
      · go_wp2
        go_roundw
        case rel => exact ⟨k + 1, by omega, by go_num, hno.out (by trivial), chain hbw hb1⟩
        case measure => simp [intOf]; omega
      · have hrt := hyes.out rfl
        go_wp2
        go_ret
        exact ⟨(k : Int), rfl, fun _ => by omega, fun e => (by rw [hrt] at e; cases e), chain hbw hb1⟩
    · have hkl : k = L.length := by omega
      subst hkl
      have hi1 : ¬ (L.length : Int) < (L.length : Int) := by omega
      have e : r = false := by
        rw [← HR.out, Bool.eq_false_iff]
        intro h
        unfold hasR at h
        obtain ⟨y, hy, hs⟩ := List.any_eq_true.1 h
        have := hall.out y (by rw [List.take_length]; exact hy)
        rw [this] at hs; cases hs
      have HE : Hid (r = false) := e
      clear e
      go_wp2
      go_ret
      exact ⟨-1, rfl, fun e => (by have := HE.out; rw [e] at this; cases this), fun _ => rfl, hbw⟩


theorem contains_impl (a b : Option Addr) (ca cb B : Nat) (L : List (List CT)) (x : List CT) (w : World) (ha : RowsAt w a L) (hb : RowAt w b x) (hB : w.cell? ⟨B, 0, none⟩ = some (.slice b x.length cb)) (hl : L.length ≤ maxLen) (r : Bool) (hr : hasR L x = r) :
    Calls Try.prog 19 #[.slice a L.length ca, .func (.func 20) #[] #[.pointer (some ⟨B, 0, none⟩)]] w fun e w' => e = .returned (.bool r) ∧ Below w.heap.size w w' := by
  have HI : Hid (Calls Try.prog 25 #[.slice a L.length ca, .func (.func 20) #[] #[.pointer (some ⟨B, 0, none⟩)]] w fun e w' => ∃ k : Int, e = .returned (.int .i64 k) ∧ (r = true → 0 ≤ k) ∧ (r = false → k = -1) ∧ Below w.heap.size w w') := index_impl a b ca cb B L x w ha hb hB hl r hr
  clear ha hb hB hl hr
  cases r
  · go_enter Try.func19, Try.ntmps19
    go_wp2_with fail
    refine HI.out.mono ?_
    rintro e w1 ⟨k, rfl, _, hk, hb1⟩
    have hk' := hk (by trivial)
    subst hk'
    clear hk
    go_wp2
    go_ret
    exact ⟨rfl, hb1⟩
  · go_enter Try.func19, Try.ntmps19
    go_wp2_with fail
    refine HI.out.mono ?_
    rintro e w1 ⟨k, rfl, hk, _, hb1⟩
    have hk' := hk (by trivial)
    clear hk
    go_wp2
    go_ret
    exact ⟨by first | rfl | simp, hb1⟩

theorem has_impl (a b : Option Addr) (ca cb : Nat) (L : List (List CT)) (x : List CT) (w : World) (ha : RowsAt w a L) (hb : RowAt w b x) (hl : L.length ≤ maxLen) (r : Bool) (hr : hasR L x = r) :
    Calls Try.prog 12 #[.slice a L.length ca, .slice b x.length cb] w fun e w' => e = .returned (.bool r) ∧ Below w.heap.size w w' := by
  have HA : Hid (RowsAt w a L) := ha
  have HB : Hid (RowAt w b x) := hb
  have HR : Hid (hasR L x = r) := hr
  have HM : Hid (L.length ≤ maxLen) := hl
  clear ha hb hr hl
  have hbA : Below w.heap.size w (w.alloc (.cells #[.slice b x.length cb] 29)) := (Below.refl _ _).alloc (Nat.le_refl _) _
  go_enter Try.func12, Try.ntmps12
  go_wp2_with fail
  refine (contains_impl _ b _ cb _ L x _ (HA.out.below hbA) (HB.out.below hbA) (by simp [go_sem]) HM.out r HR.out).mono ?_
  rintro e w1 ⟨rfl, hb1⟩
  go_wp2
  go_ret
  exact ⟨rfl, chainA hb1⟩

set_option maxRecDepth 100000 in
set_option maxHeartbeats 4000000 in
theorem distinct_impl (a : Option Addr) (cap : Nat) (L : List (List CT)) (w : World) (hrow : RowsAt w a L) (hm : L.length ≤ 1048576) (hms : ∀ i (h : i < L.length), L[i].length ≤ 1048576) :
    Calls Try.prog 6 #[.slice a L.length cap] w fun e w' => ∃ v G C, e = .returned v ∧ OwnRows w' w.heap.size v (distR L) G C ∧ Below w.heap.size w w' ∧ v ≠ .slice none 0 0 := by
  obtain ⟨i0, hi, hz0, hz1, hz2⟩ := info_parts infoRowD
  have hF : Hid (∀ i (h : i < L.length), Fit L[i]) := by
    have : ∀ i (h : i < L.length), Fit L[i] := fun i h => by obtain ⟨_, _, _, _, _, _, _, _, h, _⟩ := hrow i h; exact h
    exact this
  have hR : Hid (RowsAt w a L) := hrow
  have hMS : Hid (∀ i (h : i < L.length), L[i].length ≤ 1048576) := hms
  clear hrow hms
  go_enter Try.func6, Try.ntmps6
  go_wp2_with (at_make; refine wpList_make_own _ rfl _ _ 24 rfl w.heap.size 29 i0 (.slice none 0 0) 1 Try.underlying24 hi hz0 hz1 .i64 .i64 _ L.length rfl rfl rfl (by rw [hz2]; omega) (by unfold maxLen; omega) (Nat.le_refl _) ?_)
  intro w0 hown0 hgrow0
  have hb0 : Below w.heap.size w w0 := (Below.refl _ _).grown hgrow0 (Nat.le_refl _) (by intro k h; cases h)
  have own0 : Hid (∃ G C, OwnRows w0 w.heap.size (.slice (some ⟨w.heap.size, 0, none⟩) 0 L.length) (distTo L 0) G C) := by
    refine ⟨fun _ => 0, fun _ => 0, hown0, ?_, ?_⟩
    · intro i hi; simp [distTo] at hi
    · intro i j hi; simp [distTo] at hi
  clear hown0 hgrow0
  go_wp2
  go_loopw [3, 11] (fun v i wr => ∃ m : Nat, m ≤ L.length ∧ i = .int .i64 m ∧ Hid (∃ G C, OwnRows wr w.heap.size v (distTo L m) G C) ∧ Below w.heap.size w wr ∧ v ≠ .slice none 0 0)
    (fun _ i _ => L.length - (intOf i).toNat)
  case atStart => exact ⟨0, Nat.zero_le _, rfl, own0, hb0, by simp⟩
  case round =>
    obtain ⟨m, hmL, rfl, hO, hb, hvn⟩ := hrel
    by_cases hlt : m < L.length
    · obtain ⟨b, o, ai, ci, ha, hbw, c0, hra, _, _, hnil⟩ := hR.out.below hb m hlt
      have hi0 : (0 : Int) ≤ (m : Int) := by omega
      have hi1 : (m : Int) < (L.length : Int) := by omega
      have hRA : Hid (RowAt wr ai L[m]) := hra
      have hml := hMS.out m hlt
      have hd : L.getD m [] = L[m] := by simp [List.getD, List.getElem?_eq_getElem hlt]
      obtain ⟨r, hr⟩ : ∃ r, hasR (distTo L m) L[m] = r := ⟨_, rfl⟩
      have hst : Hid (distTo L (m + 1) = if r = true then distTo L m else distTo L m ++ [L[m]]) := by
        have : distTo L (m + 1) = if r = true then distTo L m else distTo L m ++ [L[m]] := by rw [distTo, hd, hr]
        exact this
      have HH : Hid (hasR (distTo L m) L[m] = r) := hr
      have hdl := distTo_len L m
      have hdF := distTo_each (P := fun l => Fit l) L m hmL hF.out
      have hdM := distTo_each (P := fun l => l.length ≤ maxLen) L m hmL (fun i h => by have := hMS.out i h; unfold maxLen; omega)
      clear hra hd hr
      generalize L[m] = x at c0 hRA hml hst HH
      subst ha
      obtain ⟨G, C, O⟩ := hO.out
      obtain ⟨gv, cv, rfl⟩ := own_slice O.outer hvn
      have hOO : Hid (OwnRows wr w.heap.size (.slice (some ⟨gv, 0, none⟩) (distTo L m).length cv) (distTo L m) G C) := O
      have hRR : Hid (RowsAt wr (some ⟨gv, 0, none⟩) (distTo L m)) := O.rowsAt hdF hdM
      clear O hO hdF hdM
      generalize distTo L m = D at hOO hRR HH hst hdl hvn
      go_wp2_with fail
      refine (has_impl _ _ _ _ D x _ hRR.out hRA.out (by unfold maxLen; omega) r HH.out).mono ?_
      rintro e w1 ⟨rfl, hb1⟩
      have O1 := hOO.out.below hb1
      have hRA1 : Hid (RowAt w1 ai x) := hRA.out.below hb1
      have hcell : w1.cell? ⟨b, o + m, none⟩ = some (.slice ai x.length ci) := by rw [hb1.cell (p := ⟨b, _, none⟩) hbw]; exact c0
      have hx := chain hb hb1
      clear c0 hRR hRA
      cases r
      · have OO1 : Hid (OwnRows w1 w.heap.size (.slice (some ⟨gv, 0, none⟩) D.length cv) D G C) := O1
        rw [if_neg (by decide)] at hst
        clear O1 hOO hb1
        go_wp2_with fail
        refine (copied_row _ _ _ _ hRA1.out hnil hml).mono ?_
        rintro e w2 ⟨g, c, rfl, hg, own, hb2⟩
        have O2 := OO1.out.below hb2
        have hx2 := chain hx hb2
        clear hcell
        go_wp2_with (at_builtin; refine wpList_append_own _ rfl _ _ 24 rfl w.heap.size 29 i0 (.slice none 0 0) 1 24 Try.underlying24 hi hz0 hz1 hz2 rfl (by decide) _ _ _ rfl (O2.outer.alloc _) ⟨w2.heap.size, 0, none⟩ 1 1 [.slice (some ⟨g, 0, none⟩) x.length c] rfl rfl ?c1 ?c2 ?c3 ?c4 ?c5 ?_)
        case c1 =>
          intro j u hj
          match j, hj with
          | 0, hj => simp at hj; subst hj; simp [Addr.add]
        case c2 => intro u hu; simp at hu; subst hu; rfl
        case c3 => unfold maxLen; omega
        case c4 => omega
        case c5 => have := hx2.size; simp; omega
        intro v' w3 own3 hgrow hnn
        have S := OO1.out.step hb2 hg (own_base own hx.size) own3 hgrow
        rw [← hst.out] at S
        have hx3 : Below w.heap.size w w3 := by
          refine (hx2.alloc hx2.size _).grown hgrow (by have := hx2.size; simp; omega) ?_
          intro k hk
          exact (O2.outer.lt k hk).1
        have hvn2 : v' ≠ .slice none 0 0 := by first | exact hnn | exact fun e => hvn (hnn.1 e).1
        have SS : Hid (∃ G C, OwnRows w3 w.heap.size v' (distTo L (m + 1)) G C) := S
        clear S own3 hgrow hnn own O2 OO1
        go_wp2
        go_roundw
        case rel => exact ⟨m + 1, by omega, by go_num, SS, hx3, hvn2⟩
        case measure => simp [intOf]; omega
      · rw [if_pos rfl] at hst
        have SS : Hid (∃ G C, OwnRows w1 w.heap.size (.slice (some ⟨gv, 0, none⟩) D.length cv) (distTo L (m + 1)) G C) := by
          refine ⟨G, C, ?_⟩
          rw [hst.out]; exact O1
        clear O1 hOO hcell
        go_wp2
        go_roundw
        case rel => exact ⟨m + 1, by omega, by go_num, SS, hx, hvn⟩
        case measure => simp [intOf]; omega
    · have hkl : m = L.length := by omega
      subst hkl
      have hi1 : ¬ (L.length : Int) < (L.length : Int) := by omega
      go_wp2
      go_ret
      obtain ⟨G, C, O⟩ := hO.out
      first | exact ⟨_, G, C, rfl, O, hb, hvn⟩ | exact ⟨_, rfl, ⟨G, C, O⟩, hb, hvn⟩

end Go.Proofs.Ytgeipficjfaocab
