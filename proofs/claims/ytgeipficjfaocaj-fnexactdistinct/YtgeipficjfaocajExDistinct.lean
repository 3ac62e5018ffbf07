/-
  Proved: at every rows the program's Distinct answers as its model does; it writes into no argument and keeps nothing of one; its answer owns its memory, behind another call too; the law's argument reads afterwards as before; no condition.
-/
import Derived.Test.YtgeipficjfaocajDistI
import Derived.Test.YtgeipficjfaocajRank5
import Derived.Test.YtgeipficjfaocajLists9
import Derived.Test.YtgeipficjfaocajOpen1
import Derived.Lib.SmallJoins
namespace Go.Proofs.Ytgeipficjfaocaj
open Go.ChangeShapes Go.WideShapes Go.ChangeAt Go.RowKit Go.Joins
attribute [local go_sem ↓] Go.wp_at_zero Go.wp_at_succ

theorem Taken.heads {w : World} {g : Nat} {L : List (List CT)} {G : Nat → Nat} (h : Taken w g L G L.length) : HeadsAt w (some ⟨g, 0, none⟩) L (fun i => some ⟨G i, 0, none⟩) (fun i => (L.getD i []).length) := by
  intro i hi
  refine ⟨g, 0, rfl, h.lt, ?_⟩
  rw [show 0 + i = i by omega, (h.rows i hi hi).1]
  simp only [getD_get _ _ _ hi]
theorem Taken.apartA {w : World} {g : Nat} {L : List (List CT)} {G : Nat → Nat} (h : Taken w g L G L.length) : Apart (some ⟨g, 0, none⟩) L (fun i => some ⟨G i, 0, none⟩) where
  heads i hi b o e := by
    cases e
    rintro ⟨_, o', e'⟩
    simp only [Option.some.injEq, Addr.mk.injEq] at e'
    have := (h.bounds i hi).1; omega
  rows i j hi hj b hij := by
    rintro ⟨_, o1, e1⟩ ⟨_, o2, e2⟩
    simp only [Option.some.injEq, Addr.mk.injEq] at e1 e2
    rcases Nat.lt_or_gt_of_ne hij with hl | hl
    · have := h.rises i j hl hj; omega
    · have := h.rises j i hl hi; omega
theorem Taken.unmarked {w : World} {g : Nat} {L : List (List CT)} {G : Nat → Nat} (h : Taken w g L G L.length) (k : Nat) : Marked w L (fun i => some ⟨G i, 0, none⟩) k 0 :=
  fun j hj => ⟨fun hlt => by omega, fun _ => (h.rows j hj hj).2.1, (h.rows j hj hj).2.2⟩
theorem Taken.rowsAt {w : World} {g : Nat} {L : List (List CT)} {G : Nat → Nat} (h : Taken w g L G L.length) (hf : ∀ i (hi : i < L.length), Fit L[i]) (hm : ∀ i (hi : i < L.length), L[i].length ≤ maxLen) : RowsAt w (some ⟨g, 0, none⟩) L := by
  intro i hi
  obtain ⟨h1, h2, _⟩ := h.rows i hi hi
  exact ⟨g, 0, _, _, rfl, h.lt, by rw [show 0 + i = i by omega]; exact h1, h2, hf i hi, hm i hi, fun e => by cases e⟩
theorem Taken.blks {w : World} {g : Nat} {L : List (List CT)} {G : Nat → Nat} (h : Taken w g L G L.length) (b : Nat) (hb : rowBlks L (fun i => some ⟨G i, 0, none⟩) b) : g < b ∧ b < w.heap.size := by
  obtain ⟨i, hi, _, o, e⟩ := hb
  simp only [Option.some.injEq, Addr.mk.injEq] at e
  have := h.bounds i hi; omega

theorem own_keepS {w w' : World} {P : Nat → Prop} {base : Nat} {e : TypeId} {size n : Nat} {v : Value} {xs : List Value} (h : w.ownsRow base e size v n xs) (hk : KeepS P w w') (hP : ∀ b, P b → b < base) : w'.ownsRow base e size v n xs := by
  refine ⟨h.1, ?_⟩
  rcases h.2 with h' | ⟨g, cap, cur, h', hbg, hg, hr⟩
  · exact .inl h'
  · refine .inr ⟨g, cap, cur, h', hbg, ?_, hr⟩
    have hlt : g < w.heap.size := by
      by_cases hl : g < w.heap.size
      · exact hl
      · rw [Array.getElem?_eq_none (by omega)] at hg; cases hg
    rw [hk.block g hlt (fun hp => by have := hP g hp; omega)]; exact hg
theorem OwnRows.keepS {w w' : World} {P : Nat → Prop} {base : Nat} {v : Value} {L : List (List CT)} {G C : Nat → Nat} (h : OwnRows w base v L G C) (hk : KeepS P w w') (hP : ∀ b, P b → b < base) : OwnRows w' base v L G C :=
  ⟨own_keepS h.outer hk hP, fun i hi => own_keepS (h.inner i hi) hk hP, h.apart⟩

/-- The rows that are left, in memory of their own. -/
def LaidD (w : World) (base g c : Nat) (L : List (List CT)) : Prop := ∃ G C, OwnRows w base (.slice (some ⟨g, 0, none⟩) (distR L).length c) (distR L) G C
theorem LaidD.below {w w' : World} {base g c : Nat} {L : List (List CT)} (h : LaidD w base g c L) (hb : Below w.heap.size w w') : LaidD w' base g c L := by
  obtain ⟨G, C, O⟩ := h
  exact ⟨G, C, O.below hb⟩
theorem LaidD.rowsAt {w : World} {base g c : Nat} {L : List (List CT)} (h : LaidD w base g c L) (hf : ∀ i (hi : i < L.length), Fit L[i]) (hm : ∀ i (hi : i < L.length), L[i].length ≤ maxLen) : RowsAt w (some ⟨g, 0, none⟩) (distR L) := by
  obtain ⟨G, C, O⟩ := h
  exact O.rowsAt (distTo_each (P := fun l => Fit l) L L.length (Nat.le_refl _) hf) (distTo_each (P := fun l => l.length ≤ maxLen) L L.length (Nat.le_refl _) hm)
theorem offs_dist (L : List (List CT)) : offs (distR L) (distR L).length ≤ offs L L.length := by
  unfold offs
  rw [List.take_length]
  unfold distR
  have key : ∀ k, k ≤ L.length → ((distTo L k).map List.length).sum ≤ ((L.take k).map List.length).sum := by
    intro k
    induction k with
    | zero => intro _; simp [distTo]
    | succ k ih =>
      intro hk
      have hlt : k < L.length := by omega
      have hd : L.getD k [] = L[k] := by simp [List.getD, List.getElem?_eq_getElem hlt]
      have := ih (by omega)
      rw [distTo, List.take_succ_eq_append_getElem hlt, List.map_append, List.sum_append]
      split
      · omega
      · rw [List.map_append, List.sum_append, hd]
        simp only [List.map_cons, List.map_nil, List.sum_cons, List.sum_nil]
        omega
  have := key L.length (Nat.le_refl _)
  rwa [List.take_length] at this ⊢
theorem distinct_specD (a : Option Addr) (cap : Nat) (L : List (List CT)) (w : World) (hrow : RowsAt w a L) (hm : L.length ≤ 1048576) (hms : ∀ i (h : i < L.length), L[i].length ≤ 1048576) :
    Calls Try.prog 5 #[.slice a L.length cap] w fun e w' => ∃ g c, e = .returned (.slice (some ⟨g, 0, none⟩) (distR L).length c) ∧ LaidD w' w.heap.size g c L ∧ Below w.heap.size w w' := by
  refine (distinct_spec a cap L w hrow hm hms).mono ?_
  rintro e w' ⟨v, G, C, rfl, O, hb, hvn⟩
  obtain ⟨g, c, rfl⟩ := own_slice O.outer hvn
  exact ⟨g, c, rfl, ⟨G, C, O⟩, hb⟩
theorem distinct_implD (a : Option Addr) (cap : Nat) (L : List (List CT)) (w : World) (hrow : RowsAt w a L) (hm : L.length ≤ 1048576) (hms : ∀ i (h : i < L.length), L[i].length ≤ 1048576) :
    Calls Try.prog 7 #[.slice a L.length cap] w fun e w' => ∃ g c, e = .returned (.slice (some ⟨g, 0, none⟩) (distR L).length c) ∧ LaidD w' w.heap.size g c L ∧ Below w.heap.size w w' := by
  refine (distinct_impl a cap L w hrow hm hms).mono ?_
  rintro e w' ⟨v, G, C, rfl, O, hb, hvn⟩
  obtain ⟨g, c, rfl⟩ := own_slice O.outer hvn
  exact ⟨g, c, rfl, ⟨G, C, O⟩, hb⟩

theorem HeadsAt.below {w w' : World} {a : Option Addr} {L : List (List CT)} {A : Nat → Option Addr} {C : Nat → Nat} (h : HeadsAt w a L A C) (hb : Below w.heap.size w w') : HeadsAt w' a L A C := by
  intro i hi
  obtain ⟨b, o, ha, hlt, h0⟩ := h i hi
  exact ⟨b, o, ha, Nat.lt_of_lt_of_le hlt hb.size, by rw [hb.cell (p := ⟨b, _, none⟩) hlt]; exact h0⟩
theorem Marked.below {w w' : World} {L : List (List CT)} {A : Nat → Option Addr} {k : Nat} (h : Marked w L A k L.length) (hb : Below w.heap.size w w') : Marked w' L A k L.length := by
  intro j hj
  obtain ⟨h1, _, h3⟩ := h j hj
  refine ⟨fun hlt => (h1 hlt).below hb, fun hle => by omega, ?_⟩
  intro b o e q hq
  have hlt : b < w.heap.size := by
    obtain ⟨b', o', e', hlt, _⟩ := h1 hj 0 (by rw [marks_length]; omega)
    rw [e] at e'
    simp only [Option.some.injEq, Addr.mk.injEq] at e'
    omega
  rw [hb.frozen (p := ⟨b, _, none⟩) hlt]; exact h3 b o e q hq

/-- The blocks of rows in memory of their own. -/
theorem OwnRows.blks {w : World} {base : Nat} {v : Value} {L : List (List CT)} {G C : Nat → Nat} (h : OwnRows w base v L G C) (b : Nat) (hb : rowBlks L (fun i => some ⟨G i, 0, none⟩) b) : base ≤ b := by
  obtain ⟨i, hi, _, o, e⟩ := hb
  simp only [Option.some.injEq, Addr.mk.injEq] at e
  rcases (h.inner i hi).2 with ⟨h', _⟩ | ⟨g2, c2, cur2, h', hle, _⟩
  · simp [headOf] at h'
  · simp only [headOf, Value.slice.injEq, Option.some.injEq, Addr.mk.injEq, and_true, true_and] at h'
    omega

theorem eqssN (n : Nat) (a b : Option Addr) (ca cb : Nat) (L : List (List CT)) (hn : L.length = n) (w : World) (ha : RowsAt w a L) (hb : RowsAt w b L) (hm : n ≤ maxLen) :
    Calls Try.prog 8 #[.slice a n ca, .slice b n cb] w fun e w' => e = .returned (.bool true) ∧ Below w.heap.size w w' := by
  subst hn; exact eqss_laws a b ca cb L w ha hb hm
theorem markssN (n : Nat) (a : Option Addr) (cap : Nat) (L : List (List CT)) (hn : L.length = n) (A : Nat → Option Addr) (C : Nat → Nat) (r : Nat) (hr : 1 + 3 * offs L L.length = r) (w : World) (hh : HeadsAt w a L A C) (hm : Marked w L A 1 0) (ap : Apart a L A) (h1 : r ≤ 1099511627776) (hlen : n ≤ maxLen) :
    Calls Try.prog 9 #[.slice a n cap, .int .i64 1] w fun e w' => e = .returned (.int .i64 (r : Int)) ∧ HeadsAt w' a L A C ∧ Marked w' L A 1 L.length ∧ KeepS (rowBlks L A) w w' := by
  subst hn hr; exact markss_laws a cap L A C 1 w hh hm ap (by omega) h1 hlen
theorem heldssN (n : Nat) (a : Option Addr) (cap : Nat) (L : List (List CT)) (hn : L.length = n) (A : Nat → Option Addr) (C : Nat → Nat) (r : Nat) (hr : 1 + 3 * offs L L.length = r) (w : World) (hh : HeadsAt w a L A C) (hm : Marked w L A 1 L.length) (h1 : r ≤ 1099511627776) (hlen : n ≤ maxLen) :
    Calls Try.prog 10 #[.slice a n cap, .int .i64 1] w fun e w' => e = .returned (.int .i64 (r : Int)) ∧ Below w.heap.size w w' := by
  subst hn hr; exact heldss_laws a cap L A C 1 w hh hm (by omega) h1 hlen

namespace exDistinct

theorem own : ownKnob Try.prog.godebug = none := by kernel_rfl
theorem laidOut : laidOutB Try.prog = true := by kernel_rfl

set_option maxRecDepth 100000 in
set_option maxHeartbeats 4000000 in
theorem walk (a : Option Addr) (cap : Nat) (L : List (List CT)) (w : World) (hR : RowsAt w a L) (hm : L.length ≤ maxLen) :
    Calls Try.prog 3 #[.slice a L.length cap] w fun e w' => e = .returned (.bool true) ∧ Below w.heap.size w w' := by
  have S1 : Hid (Calls Try.prog 4 #[.slice a L.length cap, .int .i64 1048576] w fun e w'' => e = .returned (.int .i64 (leftOfs L 1048576)) ∧ Below w.heap.size w w'') := szss_laws a cap L 1048576 w hR hm (by omega) (by omega)
  have RA : Hid (RowsAt w a L) := hR
  have hFit : Hid (∀ i (hi : i < L.length), Fit L[i]) := by
    have h0 : ∀ i (hi : i < L.length), Fit L[i] := fun i hi => by
      obtain ⟨_, _, _, _, _, _, _, _, h, _⟩ := hR i hi; exact h
    exact h0
  have hLen : Hid (∀ i (hi : i < L.length), L[i].length ≤ maxLen) := by
    have h0 : ∀ i (hi : i < L.length), L[i].length ≤ maxLen := fun i hi => by
      obtain ⟨_, _, _, _, _, _, _, _, _, h, _⟩ := hR i hi; exact h
    exact h0
  clear hR
  obtain ⟨x, hx1⟩ : ∃ x, leftOfs L 1048576 = x := ⟨_, rfl⟩
  by_cases hx0 : x < 0
  · go_enter Try.func3, Try.ntmps3
    go_wp2_with fail
    refine S1.out.mono ?_
    rw [hx1]
    rintro e w1 ⟨rfl, hb1⟩
    go_wp2
    go_ret
    exact ⟨rfl, hb1⟩
  have hsz : L.length + total L ≤ 1048576 := by
    unfold leftOfs at hx1
    split at hx1 <;> omega
  have hx0' : 0 ≤ x := by omega
  have hlL : L.length ≤ 1048576 := by omega
  have hrow : ∀ i (hi : i < L.length), L[i].length ≤ total L ∧ L[i].length ≤ 1048576 := by
    intro i hi
    have h1 := total_take L i hi
    have h2 := total_le L (i + 1)
    omega
  have hMS : Hid (∀ i (h : i < L.length), L[i].length ≤ 1048576) := by
    have h0 : ∀ i (h : i < L.length), L[i].length ≤ 1048576 := fun i hi => (hrow i hi).2
    exact h0
  have hoff : offs L L.length ≤ total L := by
    unfold offs total
    rw [List.take_length]
    clear hrow hMS hsz hlL hx1 hLen hFit RA S1 hm
    induction L with
    | nil => simp
    | cons y L ih => simp only [List.map_cons, List.sum_cons]; omega
  clear hrow
  have hlM : L.length ≤ maxLen := hm
  have hdM : (distR L).length ≤ maxLen := Nat.le_trans (distTo_len L L.length) hm
  have Z : Hid (∀ w', Below w.heap.size w w' → Calls Try.prog 6 #[.slice a L.length cap] w' fun e w'' => e = .returned (.slice (some ⟨w'.heap.size, 0, none⟩) L.length L.length) ∧ (∃ G, Taken w'' w'.heap.size L G L.length) ∧ Below w'.heap.size w' w'') := fun w' hb => toss_laws a cap L w' (RA.out.below hb) hlL hMS.out
  go_enter Try.func3, Try.ntmps3
  go_wp2_with fail
  refine S1.out.mono ?_
  rw [hx1]
  rintro e w1 ⟨rfl, hb1⟩
  go_wp2_with fail
  refine (Z.out _ hb1).mono ?_
  rintro e w2 ⟨rfl, ⟨G1, T1⟩, hb2⟩
  have R1 : Hid (RowsAt w2 _ L) := T1.rowsAt hFit.out hLen.out
  replace hb1 := chain hb1 hb2
  clear T1 hb2
  go_wp2_with fail
  refine (distinct_specD _ _ L _ R1.out hlL hMS.out).mono ?_
  rintro e w3 ⟨gS, cS, rfl, laidS, hb3⟩
  have RS : Hid (RowsAt w3 (some ⟨gS, 0, none⟩) (distR L)) := laidS.rowsAt hFit.out hLen.out
  replace hb1 := chain hb1 hb3
  clear laidS hb3 R1
  go_wp2_with fail
  refine (Z.out _ hb1).mono ?_
  rintro e w4 ⟨rfl, ⟨GX, TX⟩, hb4⟩
  have HX : Hid (Taken w4 w3.heap.size L GX L.length) := TX
  have RX : Hid (RowsAt w4 (some ⟨w3.heap.size, 0, none⟩) L) := TX.rowsAt hFit.out hLen.out
  have hs3 : Below w3.heap.size w3 w4 := hb4
  clear TX hb4
  go_wp2_with fail
  refine (distinct_implD _ _ L _ RX.out hlL hMS.out).mono ?_
  rintro e w5 ⟨gG, cG, rfl, laidG, hb5⟩
  have LG : Hid (LaidD w5 w4.heap.size gG cG L) := laidG
  have RG : Hid (RowsAt w5 (some ⟨gG, 0, none⟩) (distR L)) := laidG.rowsAt hFit.out hLen.out
  have TX5 : Hid (Taken w5 w3.heap.size L GX L.length) := HX.out.below hb5
  have RX5 : Hid (RowsAt w5 (some ⟨w3.heap.size, 0, none⟩) L) := RX.out.below hb5
  have hs45 := hb5.size
  replace hs3 := chain hs3 hb5
  clear laidG hb5 RX
  go_wp2_with fail
  refine (eqssN (distR L).length _ _ _ _ (distR L) rfl _ RG.out (RS.out.below hs3) hdM).mono ?_
  rintro e w6 ⟨rfl, hb6⟩
  replace hs3 := chain hs3 hb6
  have hs6 := hb6.size
  have TX6 : Hid (Taken w6 w3.heap.size L GX L.length) := TX5.out.below hb6
  have RX6 : Hid (RowsAt w6 (some ⟨w3.heap.size, 0, none⟩) L) := RX5.out.below hb6
  have LG6 : Hid (LaidD w6 w4.heap.size gG cG L) := LG.out.below hb6
  have hbw6 : Below w.heap.size w w6 := hb1.trans (hs3.mono hb1.size)
  clear hb6 TX5 RX5 RG LG
  go_wp2_with fail
  refine (Z.out _ hbw6).mono ?_
  rintro e w7 ⟨rfl, ⟨GY, TY⟩, hb7⟩
  have RY : Hid (RowsAt w7 (some ⟨w6.heap.size, 0, none⟩) L) := TY.rowsAt hFit.out hLen.out
  have RX7 : Hid (RowsAt w7 (some ⟨w3.heap.size, 0, none⟩) L) := RX6.out.below hb7
  have TX7 : Hid (Taken w7 w3.heap.size L GX L.length) := TX6.out.below hb7
  have LG7 : Hid (LaidD w7 w4.heap.size gG cG L) := LG6.out.below hb7
  replace hs3 := chain hs3 hb7
  have hs7 := hb7.size
  clear hb7 TY TX6 RX6 LG6 hbw6
  go_wp2_with fail
  refine (eqssN L.length _ _ _ _ L rfl _ RX7.out RY.out hlM).mono ?_
  rintro e w8 ⟨rfl, hb8⟩
  have TX8 : Hid (Taken w8 w3.heap.size L GX L.length) := TX7.out.below hb8
  have LG8 : Hid (LaidD w8 w4.heap.size gG cG L) := LG7.out.below hb8
  replace hs3 := chain hs3 hb8
  have hs8 := hb8.size
  clear hb8 TX7 RX7 LG7 RY
  obtain ⟨r, hr⟩ : ∃ r, 1 + 3 * offs L L.length = r := ⟨_, rfl⟩
  have hr9 : r ≤ 1099511627776 := by omega
  have hr0 : (0 : Int) ≤ (r : Int) := by omega
  go_wp2_with fail
  refine (markssN L.length _ _ L rfl _ _ r hr _ TX8.out.heads (TX8.out.unmarked 1) TX8.out.apartA hr9 hlM).mono ?_
  rintro e w9 ⟨rfl, _, _, hk9⟩
  have hs9 : Below w3.heap.size w8 w9 := hk9.below (fun b hb => Nat.le_of_lt (TX8.out.blks b hb).1) hs3.size
  have LG9 : Hid (LaidD w9 w4.heap.size gG cG L) := by
    obtain ⟨G, C, O⟩ := LG8.out
    refine ⟨G, C, O.keepS hk9 (fun b hb => ?_)⟩
    obtain ⟨i, hi, _, o, e⟩ := hb
    simp only [Option.some.injEq, Addr.mk.injEq] at e
    have := (HX.out.bounds i hi).2
    omega
  replace hs3 := hs3.trans hs9
  have hs9' := hk9.size
  clear hk9 hs9 LG8 TX8
  have RG9 : Hid (RowsAt w9 (some ⟨gG, 0, none⟩) (distR L)) := LG9.out.rowsAt hFit.out hLen.out
  go_wp2_with fail
  refine (eqssN (distR L).length _ _ _ _ (distR L) rfl _ RG9.out (RS.out.below hs3) hdM).mono ?_
  rintro e w10 ⟨rfl, hb10⟩
  replace hs3 := chain hs3 hb10
  have hs10 := hb10.size
  have LG10 : Hid (LaidD w10 w4.heap.size gG cG L) := LG9.out.below hb10
  clear hb10 LG9 RG9
  obtain ⟨G, C, OG⟩ := LG10.out
  obtain ⟨rD, hr'⟩ : ∃ r, 1 + 3 * offs (distR L) (distR L).length = r := ⟨_, rfl⟩
  have hoD := offs_dist L
  have hrD9 : rD ≤ 1099511627776 := by omega
  have hrD0 : (0 : Int) ≤ (rD : Int) := by omega
  clear hoD
  have hd0 : HeadsAt w10 (some ⟨gG, 0, none⟩) (distR L) (fun i => some ⟨G i, 0, none⟩) C := OG.heads
  have mk0 := OG.unmarked 1
  have ap0 := OG.apartA
  have blk : ∀ b, rowBlks (distR L) (fun i => some ⟨G i, 0, none⟩) b → w4.heap.size ≤ b := fun b hb => OG.blks b hb
  have HD0 : Hid (HeadsAt w10 (some ⟨gG, 0, none⟩) (distR L) (fun i => some ⟨G i, 0, none⟩) C ∧ Marked w10 (distR L) (fun i => some ⟨G i, 0, none⟩) 1 0 ∧ Apart (some ⟨gG, 0, none⟩) (distR L) (fun i => some ⟨G i, 0, none⟩)) := ⟨hd0, mk0, ap0⟩
  have BLK : Hid (∀ b, rowBlks (distR L) (fun i => some ⟨G i, 0, none⟩) b → w4.heap.size ≤ b) := blk
  clear OG hd0 mk0 ap0 blk LG10
  go_wp2_with fail
  refine (markssN (distR L).length _ _ (distR L) rfl _ _ rD hr' _ HD0.out.1 HD0.out.2.1 HD0.out.2.2 hrD9 hdM).mono ?_
  rintro e w11 ⟨rfl, hd11, mk11, hk11⟩
  have hs34 : w3.heap.size ≤ w4.heap.size := Nat.le_of_lt HX.out.lt
  have hs11 : Below w3.heap.size w10 w11 := hk11.below (fun b hb => Nat.le_trans hs34 (BLK.out b hb)) hs3.size
  replace hs3 := hs3.trans hs11
  have HD11 : Hid (HeadsAt w11 (some ⟨gG, 0, none⟩) (distR L) (fun i => some ⟨G i, 0, none⟩) C ∧ Marked w11 (distR L) (fun i => some ⟨G i, 0, none⟩) 1 (distR L).length) := ⟨hd11, mk11⟩
  clear hd11 mk11 hk11 hs11 HD0
  go_wp2_with fail
  refine (heldssN (distR L).length _ _ (distR L) rfl _ _ rD hr' _ HD11.out.1 HD11.out.2 hrD9 hdM).mono ?_
  rintro e w12 ⟨rfl, hb12⟩
  replace hs3 := chain hs3 hb12
  have HD12 : Hid (HeadsAt w12 (some ⟨gG, 0, none⟩) (distR L) (fun i => some ⟨G i, 0, none⟩) C ∧ Marked w12 (distR L) (fun i => some ⟨G i, 0, none⟩) 1 (distR L).length) := ⟨HD11.out.1.below hb12, HD11.out.2.below hb12⟩
  have hbw12 : Below w.heap.size w w12 := hb1.trans (hs3.mono hb1.size)
  clear hb12 HD11
  go_wp2_with fail
  refine (Z.out _ hbw12).mono ?_
  rintro e w13 ⟨rfl, ⟨GZ, TZ⟩, hb13⟩
  have RZ : Hid (RowsAt w13 (some ⟨w12.heap.size, 0, none⟩) L) := TZ.rowsAt hFit.out hLen.out
  have HD13 : Hid (HeadsAt w13 (some ⟨gG, 0, none⟩) (distR L) (fun i => some ⟨G i, 0, none⟩) C ∧ Marked w13 (distR L) (fun i => some ⟨G i, 0, none⟩) 1 (distR L).length) := ⟨HD12.out.1.below hb13, HD12.out.2.below hb13⟩
  replace hs3 := chain hs3 hb13
  clear hb13 TZ HD12
  go_wp2_with fail
  refine (distinct_implD _ _ L _ RZ.out hlL hMS.out).mono ?_
  rintro e w14 ⟨gH, cH, rfl, laidH, hb14⟩
  have RH : Hid (RowsAt w14 (some ⟨gH, 0, none⟩) (distR L)) := laidH.rowsAt hFit.out hLen.out
  have HD14 : Hid (HeadsAt w14 (some ⟨gG, 0, none⟩) (distR L) (fun i => some ⟨G i, 0, none⟩) C ∧ Marked w14 (distR L) (fun i => some ⟨G i, 0, none⟩) 1 (distR L).length) := ⟨HD13.out.1.below hb14, HD13.out.2.below hb14⟩
  replace hs3 := chain hs3 hb14
  clear hb14 laidH HD13 RZ
  go_wp2_with fail
  refine (eqssN (distR L).length _ _ _ _ (distR L) rfl _ RH.out (RS.out.below hs3) hdM).mono ?_
  rintro e w15 ⟨rfl, hb15⟩
  have HD15 : Hid (HeadsAt w15 (some ⟨gG, 0, none⟩) (distR L) (fun i => some ⟨G i, 0, none⟩) C ∧ Marked w15 (distR L) (fun i => some ⟨G i, 0, none⟩) 1 (distR L).length) := ⟨HD14.out.1.below hb15, HD14.out.2.below hb15⟩
  replace hs3 := chain hs3 hb15
  clear hb15 HD14 RH
  go_wp2_with fail
  refine (heldssN (distR L).length _ _ (distR L) rfl _ _ rD hr' _ HD15.out.1 HD15.out.2 hrD9 hdM).mono ?_
  rintro e w16 ⟨rfl, hb16⟩
  replace hs3 := chain hs3 hb16
  have hbw16 : Below w.heap.size w w16 := hb1.trans (hs3.mono hb1.size)
  go_wp2
  go_ret
  exact ⟨rfl, hbw16⟩

theorem cells3 : Try.prog.cellsOf 41 = 3 := by kernel_rfl
theorem cells1 : Try.prog.cellsOf 31 = 1 := by kernel_rfl

set_option maxRecDepth 100000 in
theorem lifted (os : Os) (started : os.Started) (H : Type) (enc : TypeId × Value → H) :
    ReturnsInHanded {} Try.checked os 3 .any (Rows.fnExactDistinctSpec.pre6 enc Try.prog Try.f3 Rows.fnExactDistinctRow.domain false) (Rows.fnExactDistinctSpec.post enc Try.prog Try.f3 false true false false) := by
  refine returnsInHanded_of_change (C := Try.checked) own started (by kernel_rfl) Try.func3
    (ChangeSpec.witness6 (enc := enc) (C := Try.checked) false ⟨#[], #[.slice none 0 0], []⟩ 8 (by kernel_rfl) (by kernel_rfl) (by kernel_rfl) (by kernel_rfl)) ?_
  intro W base args ds gs before hval0 hW hcnd _
  have hval : ∀ (j : Nat) t v, Try.f3.params[j]? = some t → args[j]? = some v → Value.okWide Try.prog W .any base t v := hval0
  have hW' := hW
  obtain ⟨p, q, hA0, hV, rfl, hfz, hnd⟩ := hW
  have hA : DataW.TrodAll enc Try.prog W 0 (fun _ => true) true Try.f3.params.toList args.toList ds p := hA0
  rw [Try.params3] at hA hval
  obtain ⟨v0, d0, rfl, rfl, h0⟩ := trodAll_one hA
  obtain ⟨rfl, rfl⟩ := trodVars_none hV
  obtain ⟨a0, len0, cap0, rfl⟩ := okWide_slice Try.underlying22 (hval 0 22 v0 rfl rfl)
  have k0 := h0
  have lt0 : ∀ x ∈ p, x.block < W.heap.size := by obtain ⟨m, hm⟩ := k0; exact DataW.trod_lt m _ _ _ hm
  obtain ⟨m0, hm0⟩ := h0
  obtain ⟨L, rfl, rA, lA, nA⟩ := open_rows Try.underlying22 cells1 Try.underlying31 Try.underlying41 cells3 rfl rfl rfl (by kernel_rfl) (by kernel_rfl) (by kernel_rfl) Try.underlying2 Try.underlying2 Try.underlying9 hm0
  clear hA0 hval0
  refine (walk a0 cap0 L W rA lA).mono fun e W' ⟨he, bel⟩ => ?_
  subst he
  exact ⟨_, rfl, _, _, _, [], _, [], hW', trodAll_mk1 (shut_bool Try.underlying4 _), trodAll_mk1 (Below.trod laidOut (by kernel_rfl) (of_decide_eq_true (by kernel_rfl)) k0 bel lt0), rfl, bel.frame _, fun h => by cases h⟩

theorem over : Rows.fnExactDistinctRow.holds Try.pinned (OpenSpec.ofChange Rows.fnExactDistinctSpec) :=
  OpenClaim.holds_of_wide 3 Try.f3 rfl rfl rfl rfl rfl rfl rfl ⟨rfl, rfl, rfl, rfl, rfl⟩ rfl rfl rfl rfl rfl (by kernel_rfl) Try.func3 (by kernel_rfl)
    (of_decide_eq_true (by kernel_rfl)) (by unfold Func.isWrapper; first | (rw [if_pos (by decide +kernel)]; kernel_rfl) | (rw [if_neg (by decide +kernel)]; exact ⟨rfl, rfl⟩))
    (fun os started H enc _ => lifted os started H enc)

end exDistinct

theorem fnExactDistinct_holds : Rows.FnExactDistinctSaid := exDistinct.over

end Go.Proofs.Ytgeipficjfaocaj
