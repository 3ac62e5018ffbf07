/-
  Proved: at every rows, place and direction the program's Sorted answers as its model does; it writes into no argument and keeps nothing of one; its answer owns its memory, behind another call too; the law's arguments read afterwards as before; no condition.
-/
import Derived.Test.YtgablbdphflokaiSortedS2
import Derived.Test.YtgablbdphflokaiSortedI2
import Derived.Test.YtgablbdphflokaiRank5
import Derived.Test.YtgablbdphflokaiLists9
import Derived.Test.YtgablbdphflokaiOpen1
import Derived.Lib.SmallJoins
namespace Go.Proofs.Ytgablbdphflokai
open Go.ChangeShapes Go.WideShapes Go.ChangeAt Go.RowKit Go.Joins
attribute [local go_sem ↓] Go.wp_at_zero Go.wp_at_succ

theorem Taken.heads {w : World} {g : Nat} {L : List (List CT)} {G : Nat → Nat} (h : Taken w g L G L.length) : HeadsAt w (some ⟨g, 0, none⟩) L (fun i => some ⟨G i, 0, none⟩) (fun i => (L.getD i []).length) := by
  intro i hi
  refine ⟨g, 0, rfl, h.lt, ?_⟩
  rw [show 0 + i = i by omega, (h.rows i hi hi).1]
  simp only [getD_get _ _ _ hi]
theorem Taken.apartA {w : World} {g : Nat} {L : List (List CT)} {G : Nat → Nat} (h : Taken w g L G L.length) : Apart (some ⟨g, 0, none⟩) L (fun i => some ⟨G i, 0, none⟩) where
  heads i hi b o e := by
    cases e
    rintro ⟨_, o', e'⟩
    simp only [Option.some.injEq, Addr.mk.injEq] at e'
    have := (h.bounds i hi).1; omega
  rows i j hi hj b hij := by
    rintro ⟨_, o1, e1⟩ ⟨_, o2, e2⟩
    simp only [Option.some.injEq, Addr.mk.injEq] at e1 e2
    rcases Nat.lt_or_gt_of_ne hij with hl | hl
    · have := h.rises i j hl hj; omega
    · have := h.rises j i hl hi; omega
theorem Taken.unmarked {w : World} {g : Nat} {L : List (List CT)} {G : Nat → Nat} (h : Taken w g L G L.length) (k : Nat) : Marked w L (fun i => some ⟨G i, 0, none⟩) k 0 :=
  fun j hj => ⟨fun hlt => by omega, fun _ => (h.rows j hj hj).2.1, (h.rows j hj hj).2.2⟩
theorem Taken.rowsAt {w : World} {g : Nat} {L : List (List CT)} {G : Nat → Nat} (h : Taken w g L G L.length) (hf : ∀ i (hi : i < L.length), Fit L[i]) (hm : ∀ i (hi : i < L.length), L[i].length ≤ maxLen) : RowsAt w (some ⟨g, 0, none⟩) L := by
  intro i hi
  obtain ⟨h1, h2, _⟩ := h.rows i hi hi
  exact ⟨g, 0, _, _, rfl, h.lt, by rw [show 0 + i = i by omega]; exact h1, h2, hf i hi, hm i hi, fun e => by cases e⟩
theorem Taken.blks {w : World} {g : Nat} {L : List (List CT)} {G : Nat → Nat} (h : Taken w g L G L.length) (b : Nat) (hb : rowBlks L (fun i => some ⟨G i, 0, none⟩) b) : g < b ∧ b < w.heap.size := by
  obtain ⟨i, hi, _, o, e⟩ := hb
  simp only [Option.some.injEq, Addr.mk.injEq] at e
  have := h.bounds i hi; omega

/-- What holds of each row holds of each in another order. -/
theorem rowsOf_all {P : List CT → Prop} {L : List (List CT)} {p : List Nat} (hp : p.Perm (List.range L.length)) (h : ∀ i (hi : i < L.length), P L[i]) : ∀ i (hi : i < (rowsOf L p).length), P (rowsOf L p)[i] := by
  intro i hi
  have hi' : i < p.length := by simpa [rowsOf] using hi
  have hm : p[i] < L.length := by
    have : p[i] ∈ List.range L.length := hp.mem_iff.1 (List.getElem_mem hi')
    simpa using this
  have e : (rowsOf L p)[i] = L[p[i]] := by
    have := rowsOf_getD L p i hi'
    rw [getD_get _ _ _ hi, getD_get _ _ _ hi', getD_get _ _ _ hm] at this
    exact this
  rw [e]; exact h _ hm
theorem perm_sum {a b : List Nat} (h : a.Perm b) : a.sum = b.sum := by
  induction h with
  | nil => rfl
  | cons x _ ih => simp only [List.sum_cons, ih]
  | swap x y l => simp only [List.sum_cons]; omega
  | trans _ _ h1 h2 => rw [h1, h2]
theorem offs_perm {L : List (List CT)} {p : List Nat} (hp : p.Perm (List.range L.length)) : offs (rowsOf L p) (rowsOf L p).length = offs L L.length := by
  unfold offs
  rw [List.take_length, List.take_length]
  have h1 : (rowsOf L p).Perm L := by
    have := hp.map fun i => L.getD i []
    have e := rowsOf_range L
    unfold rowsOf at e ⊢
    rw [e] at this; exact this
  exact perm_sum (h1.map List.length)

theorem Laid.rowsAt {w : World} {base g c : Nat} {L : List (List CT)} {p : List Nat} (h : Laid w base g c L p) (hp : p.Perm (List.range L.length)) (hf : ∀ i (hi : i < L.length), Fit L[i]) (hm : ∀ i (hi : i < L.length), L[i].length ≤ maxLen) : RowsAt w (some ⟨g, 0, none⟩) (rowsOf L p) := by
  obtain ⟨G, C, O⟩ := h
  have hl : (rowsOf L p).length = L.length := by rw [rowsOf_length]; simpa using hp.length_eq
  rw [← hl] at O
  exact O.rowsAt (rowsOf_all (P := fun l => Fit l) hp hf) (rowsOf_all (P := fun l => l.length ≤ maxLen) hp hm)

theorem HeadsAt.below {w w' : World} {a : Option Addr} {L : List (List CT)} {A : Nat → Option Addr} {C : Nat → Nat} (h : HeadsAt w a L A C) (hb : Below w.heap.size w w') : HeadsAt w' a L A C := by
  intro i hi
  obtain ⟨b, o, ha, hlt, h0⟩ := h i hi
  exact ⟨b, o, ha, Nat.lt_of_lt_of_le hlt hb.size, by rw [hb.cell (p := ⟨b, _, none⟩) hlt]; exact h0⟩
theorem Marked.below {w w' : World} {L : List (List CT)} {A : Nat → Option Addr} {k : Nat} (h : Marked w L A k L.length) (hb : Below w.heap.size w w') : Marked w' L A k L.length := by
  intro j hj
  obtain ⟨h1, _, h3⟩ := h j hj
  refine ⟨fun hlt => (h1 hlt).below hb, fun hle => by omega, ?_⟩
  intro b o e q hq
  have hlt : b < w.heap.size := by
    obtain ⟨b', o', e', hlt, _⟩ := h1 hj 0 (by rw [marks_length]; omega)
    rw [e] at e'
    simp only [Option.some.injEq, Addr.mk.injEq] at e'
    omega
  rw [hb.frozen (p := ⟨b, _, none⟩) hlt]; exact h3 b o e q hq

/-- The blocks of rows in memory of their own. -/
theorem OwnRows.blks {w : World} {base : Nat} {v : Value} {L : List (List CT)} {G C : Nat → Nat} (h : OwnRows w base v L G C) (b : Nat) (hb : rowBlks L (fun i => some ⟨G i, 0, none⟩) b) : base ≤ b := by
  obtain ⟨i, hi, _, o, e⟩ := hb
  simp only [Option.some.injEq, Addr.mk.injEq] at e
  rcases (h.inner i hi).2 with ⟨h', _⟩ | ⟨g2, c2, cur2, h', hle, _⟩
  · simp [headOf] at h'
  · simp only [headOf, Value.slice.injEq, Option.some.injEq, Addr.mk.injEq, and_true, true_and] at h'
    omega

theorem eqssN (n : Nat) (a b : Option Addr) (ca cb : Nat) (L : List (List CT)) (hn : L.length = n) (w : World) (ha : RowsAt w a L) (hb : RowsAt w b L) (hm : n ≤ maxLen) :
    Calls Try.prog 23 #[.slice a n ca, .slice b n cb] w fun e w' => e = .returned (.bool true) ∧ Below w.heap.size w w' := by
  subst hn; exact eqss_laws a b ca cb L w ha hb hm
theorem markssN (n : Nat) (a : Option Addr) (cap : Nat) (L : List (List CT)) (hn : L.length = n) (A : Nat → Option Addr) (C : Nat → Nat) (r : Nat) (hr : 1 + 3 * offs L L.length = r) (w : World) (hh : HeadsAt w a L A C) (hm : Marked w L A 1 0) (ap : Apart a L A) (h1 : r ≤ 1099511627776) (hlen : n ≤ maxLen) :
    Calls Try.prog 24 #[.slice a n cap, .int .i64 1] w fun e w' => e = .returned (.int .i64 (r : Int)) ∧ HeadsAt w' a L A C ∧ Marked w' L A 1 L.length ∧ KeepS (rowBlks L A) w w' := by
  subst hn hr; exact markss_laws a cap L A C 1 w hh hm ap (by omega) h1 hlen
theorem heldssN (n : Nat) (a : Option Addr) (cap : Nat) (L : List (List CT)) (hn : L.length = n) (A : Nat → Option Addr) (C : Nat → Nat) (r : Nat) (hr : 1 + 3 * offs L L.length = r) (w : World) (hh : HeadsAt w a L A C) (hm : Marked w L A 1 L.length) (h1 : r ≤ 1099511627776) (hlen : n ≤ maxLen) :
    Calls Try.prog 25 #[.slice a n cap, .int .i64 1] w fun e w' => e = .returned (.int .i64 (r : Int)) ∧ Below w.heap.size w w' := by
  subst hn hr; exact heldss_laws a cap L A C 1 w hh hm (by omega) h1 hlen

namespace exSorted

theorem own : ownKnob Try.prog.godebug = none := by kernel_rfl
theorem laidOut : laidOutB Try.prog = true := by kernel_rfl

set_option maxRecDepth 100000 in
set_option maxHeartbeats 4000000 in
theorem walk (a : Option Addr) (cap : Nat) (L : List (List CT)) (at_ : Int) (down : Bool) (w : World) (hR : RowsAt w a L) (hm : L.length ≤ maxLen) :
    Calls Try.prog 6 #[.slice a L.length cap, .int .i64 at_, .bool down] w fun e w' => e = .returned (.bool true) ∧ Below w.heap.size w w' := by
  have S1 : Hid (Calls Try.prog 19 #[.slice a L.length cap, .int .i64 1048576] w fun e w'' => e = .returned (.int .i64 (leftOfs L 1048576)) ∧ Below w.heap.size w w'') := szss_laws a cap L 1048576 w hR hm (by omega) (by omega)
  have RA : Hid (RowsAt w a L) := hR
  have hFit : Hid (∀ i (hi : i < L.length), Fit L[i]) := by
    have h0 : ∀ i (hi : i < L.length), Fit L[i] := fun i hi => by
      obtain ⟨_, _, _, _, _, _, _, _, h, _⟩ := hR i hi; exact h
    exact h0
  have hLen : Hid (∀ i (hi : i < L.length), L[i].length ≤ maxLen) := by
    have h0 : ∀ i (hi : i < L.length), L[i].length ≤ maxLen := fun i hi => by
      obtain ⟨_, _, _, _, _, _, _, _, _, h, _⟩ := hR i hi; exact h
    exact h0
  clear hR
  obtain ⟨x, hx1⟩ : ∃ x, leftOfs L 1048576 = x := ⟨_, rfl⟩
  by_cases hx0 : x < 0
  · go_enter Try.func6, Try.ntmps6
    go_wp2_with fail
    refine S1.out.mono ?_
    rw [hx1]
    rintro e w1 ⟨rfl, hb1⟩
    go_wp2
    go_ret
    exact ⟨rfl, hb1⟩
  have hsz : L.length + total L ≤ 1048576 := by
    unfold leftOfs at hx1
    split at hx1 <;> omega
  have hx0' : 0 ≤ x := by omega
  have hlL : L.length ≤ 1048576 := by omega
  have hrow : ∀ i (hi : i < L.length), L[i].length ≤ total L ∧ L[i].length ≤ 1048576 := by
    intro i hi
    have h1 := total_take L i hi
    have h2 := total_le L (i + 1)
    omega
  have hMS : Hid (∀ i (h : i < L.length), L[i].length ≤ 1048576) := by
    have h0 : ∀ i (h : i < L.length), L[i].length ≤ 1048576 := fun i hi => (hrow i hi).2
    exact h0
  have hoff : offs L L.length ≤ total L := by
    unfold offs total
    rw [List.take_length]
    clear hrow hMS hsz hlL hx1 hLen hFit RA S1 hm
    induction L with
    | nil => simp
    | cons y L ih => simp only [List.map_cons, List.sum_cons]; omega
  clear hrow
  have hlM : L.length ≤ maxLen := hm
  have Z : Hid (∀ w', Below w.heap.size w w' → Calls Try.prog 21 #[.slice a L.length cap] w' fun e w'' => e = .returned (.slice (some ⟨w'.heap.size, 0, none⟩) L.length L.length) ∧ (∃ G, Taken w'' w'.heap.size L G L.length) ∧ Below w'.heap.size w' w'') := fun w' hb => toss_laws a cap L w' (RA.out.below hb) hlL hMS.out
  go_enter Try.func6, Try.ntmps6
  go_wp2_with fail
  refine S1.out.mono ?_
  rw [hx1]
  rintro e w1 ⟨rfl, hb1⟩
  go_wp2_with fail
  refine (Z.out _ hb1).mono ?_
  rintro e w2 ⟨rfl, ⟨G1, T1⟩, hb2⟩
  have R1 : Hid (RowsAt w2 _ L) := T1.rowsAt hFit.out hLen.out
  replace hb1 := chain hb1 hb2
  clear T1 hb2
  go_wp2_with fail
  refine (sorted_spec _ _ L at_ down _ R1.out hlL hMS.out).mono ?_
  rintro e w3 ⟨gS, cS, p, rfl, ord, laidS, hb3⟩
  have hper := ord.perm
  have hpl : (rowsOf L p).length = L.length := by rw [rowsOf_length]; simpa using hper.length_eq
  have RS : Hid (RowsAt w3 (some ⟨gS, 0, none⟩) (rowsOf L p)) := laidS.rowsAt hper hFit.out hLen.out
  have ORD : Hid (IsOrder L at_ down p) := ord
  replace hb1 := chain hb1 hb3
  clear laidS hb3 ord R1
  go_wp2_with fail
  refine (Z.out _ hb1).mono ?_
  rintro e w4 ⟨rfl, ⟨GX, TX⟩, hb4⟩
  have HX : Hid (Taken w4 w3.heap.size L GX L.length) := TX
  have RX : Hid (RowsAt w4 (some ⟨w3.heap.size, 0, none⟩) L) := TX.rowsAt hFit.out hLen.out
  have hs3 : Below w3.heap.size w3 w4 := hb4
  clear TX hb4
  go_wp2_with fail
  refine (sorted_impl _ _ L at_ down _ RX.out hlL hMS.out).mono ?_
  rintro e w5 ⟨gG, cG, p', rfl, ord', laidG, hb5⟩
  have hpp := ord'.one ORD.out
  subst hpp
  have LG : Hid (Laid w5 w4.heap.size gG cG L p') := laidG
  have RG : Hid (RowsAt w5 (some ⟨gG, 0, none⟩) (rowsOf L p')) := laidG.rowsAt hper hFit.out hLen.out
  have TX5 : Hid (Taken w5 w3.heap.size L GX L.length) := HX.out.below hb5
  have RX5 : Hid (RowsAt w5 (some ⟨w3.heap.size, 0, none⟩) L) := RX.out.below hb5
  have hs45 := hb5.size
  replace hs3 := chain hs3 hb5
  clear laidG hb5 ord' RX
  go_wp2_with fail
  refine (eqssN L.length _ _ _ _ (rowsOf L p') hpl _ RG.out (RS.out.below hs3) hlM).mono ?_
  rintro e w6 ⟨rfl, hb6⟩
  replace hs3 := chain hs3 hb6
  have hs6 := hb6.size
  have TX6 : Hid (Taken w6 w3.heap.size L GX L.length) := TX5.out.below hb6
  have RX6 : Hid (RowsAt w6 (some ⟨w3.heap.size, 0, none⟩) L) := RX5.out.below hb6
  have LG6 : Hid (Laid w6 w4.heap.size gG cG L p') := LG.out.below hb6
  have hbw6 : Below w.heap.size w w6 := hb1.trans (hs3.mono hb1.size)
  clear hb6 TX5 RX5 RG LG
  go_wp2_with fail
  refine (Z.out _ hbw6).mono ?_
  rintro e w7 ⟨rfl, ⟨GY, TY⟩, hb7⟩
  have RY : Hid (RowsAt w7 (some ⟨w6.heap.size, 0, none⟩) L) := TY.rowsAt hFit.out hLen.out
  have RX7 : Hid (RowsAt w7 (some ⟨w3.heap.size, 0, none⟩) L) := RX6.out.below hb7
  have TX7 : Hid (Taken w7 w3.heap.size L GX L.length) := TX6.out.below hb7
  have LG7 : Hid (Laid w7 w4.heap.size gG cG L p') := LG6.out.below hb7
  replace hs3 := chain hs3 hb7
  have hs7 := hb7.size
  clear hb7 TY TX6 RX6 LG6 hbw6
  go_wp2_with fail
  refine (eqssN L.length _ _ _ _ L rfl _ RX7.out RY.out hlM).mono ?_
  rintro e w8 ⟨rfl, hb8⟩
  have TX8 : Hid (Taken w8 w3.heap.size L GX L.length) := TX7.out.below hb8
  have LG8 : Hid (Laid w8 w4.heap.size gG cG L p') := LG7.out.below hb8
  replace hs3 := chain hs3 hb8
  have hs8 := hb8.size
  clear hb8 TX7 RX7 LG7 RY
  obtain ⟨r, hr⟩ : ∃ r, 1 + 3 * offs L L.length = r := ⟨_, rfl⟩
  have hr9 : r ≤ 1099511627776 := by omega
  have hr0 : (0 : Int) ≤ (r : Int) := by omega
  go_wp2_with fail
  refine (markssN L.length _ _ L rfl _ _ r hr _ TX8.out.heads (TX8.out.unmarked 1) TX8.out.apartA hr9 hlM).mono ?_
  rintro e w9 ⟨rfl, _, _, hk9⟩
  have hs9 : Below w3.heap.size w8 w9 := hk9.below (fun b hb => Nat.le_of_lt (TX8.out.blks b hb).1) hs3.size
  have LG9 : Hid (Laid w9 w4.heap.size gG cG L p') := by
    obtain ⟨G, C, O⟩ := LG8.out
    refine ⟨G, C, O.keepS hk9 (fun b hb => ?_)⟩
    obtain ⟨i, hi, _, o, e⟩ := hb
    simp only [Option.some.injEq, Addr.mk.injEq] at e
    have := (HX.out.bounds i hi).2
    omega
  replace hs3 := hs3.trans hs9
  have hs9' := hk9.size
  clear hk9 hs9 LG8 TX8
  have RG9 : Hid (RowsAt w9 (some ⟨gG, 0, none⟩) (rowsOf L p')) := LG9.out.rowsAt hper hFit.out hLen.out
  go_wp2_with fail
  refine (eqssN L.length _ _ _ _ (rowsOf L p') hpl _ RG9.out (RS.out.below hs3) hlM).mono ?_
  rintro e w10 ⟨rfl, hb10⟩
  replace hs3 := chain hs3 hb10
  have hs10 := hb10.size
  have LG10 : Hid (Laid w10 w4.heap.size gG cG L p') := LG9.out.below hb10
  clear hb10 LG9 RG9
  obtain ⟨G, C, OG⟩ := LG10.out
  rw [← hpl] at OG
  have hr' : 1 + 3 * offs (rowsOf L p') (rowsOf L p').length = r := by rw [offs_perm hper]; exact hr
  have hd0 : HeadsAt w10 (some ⟨gG, 0, none⟩) (rowsOf L p') (fun i => some ⟨G i, 0, none⟩) C := OG.heads
  have mk0 := OG.unmarked 1
  have ap0 := OG.apartA
  have blk : ∀ b, rowBlks (rowsOf L p') (fun i => some ⟨G i, 0, none⟩) b → w4.heap.size ≤ b := fun b hb => OG.blks b hb
  have HD0 : Hid (HeadsAt w10 (some ⟨gG, 0, none⟩) (rowsOf L p') (fun i => some ⟨G i, 0, none⟩) C ∧ Marked w10 (rowsOf L p') (fun i => some ⟨G i, 0, none⟩) 1 0 ∧ Apart (some ⟨gG, 0, none⟩) (rowsOf L p') (fun i => some ⟨G i, 0, none⟩)) := ⟨hd0, mk0, ap0⟩
  have BLK : Hid (∀ b, rowBlks (rowsOf L p') (fun i => some ⟨G i, 0, none⟩) b → w4.heap.size ≤ b) := blk
  clear OG hd0 mk0 ap0 blk LG10
  go_wp2_with fail
  refine (markssN L.length _ _ (rowsOf L p') hpl _ _ r hr' _ HD0.out.1 HD0.out.2.1 HD0.out.2.2 hr9 hlM).mono ?_
  rintro e w11 ⟨rfl, hd11, mk11, hk11⟩
  have hs34 : w3.heap.size ≤ w4.heap.size := Nat.le_of_lt HX.out.lt
  have hs11 : Below w3.heap.size w10 w11 := hk11.below (fun b hb => Nat.le_trans hs34 (BLK.out b hb)) hs3.size
  replace hs3 := hs3.trans hs11
  have HD11 : Hid (HeadsAt w11 (some ⟨gG, 0, none⟩) (rowsOf L p') (fun i => some ⟨G i, 0, none⟩) C ∧ Marked w11 (rowsOf L p') (fun i => some ⟨G i, 0, none⟩) 1 (rowsOf L p').length) := ⟨hd11, mk11⟩
  clear hd11 mk11 hk11 hs11 HD0
  go_wp2_with fail
  refine (heldssN L.length _ _ (rowsOf L p') hpl _ _ r hr' _ HD11.out.1 HD11.out.2 hr9 hlM).mono ?_
  rintro e w12 ⟨rfl, hb12⟩
  replace hs3 := chain hs3 hb12
  have HD12 : Hid (HeadsAt w12 (some ⟨gG, 0, none⟩) (rowsOf L p') (fun i => some ⟨G i, 0, none⟩) C ∧ Marked w12 (rowsOf L p') (fun i => some ⟨G i, 0, none⟩) 1 (rowsOf L p').length) := ⟨HD11.out.1.below hb12, HD11.out.2.below hb12⟩
  have hbw12 : Below w.heap.size w w12 := hb1.trans (hs3.mono hb1.size)
  clear hb12 HD11
  go_wp2_with fail
  refine (Z.out _ hbw12).mono ?_
  rintro e w13 ⟨rfl, ⟨GZ, TZ⟩, hb13⟩
  have RZ : Hid (RowsAt w13 (some ⟨w12.heap.size, 0, none⟩) L) := TZ.rowsAt hFit.out hLen.out
  have HD13 : Hid (HeadsAt w13 (some ⟨gG, 0, none⟩) (rowsOf L p') (fun i => some ⟨G i, 0, none⟩) C ∧ Marked w13 (rowsOf L p') (fun i => some ⟨G i, 0, none⟩) 1 (rowsOf L p').length) := ⟨HD12.out.1.below hb13, HD12.out.2.below hb13⟩
  replace hs3 := chain hs3 hb13
  clear hb13 TZ HD12
  go_wp2_with fail
  refine (sorted_impl _ _ L at_ down _ RZ.out hlL hMS.out).mono ?_
  rintro e w14 ⟨gH, cH, p2, rfl, ord2, laidH, hb14⟩
  have hpp2 := ord2.one ORD.out
  subst hpp2
  have RH : Hid (RowsAt w14 (some ⟨gH, 0, none⟩) (rowsOf L p2)) := laidH.rowsAt hper hFit.out hLen.out
  have HD14 : Hid (HeadsAt w14 (some ⟨gG, 0, none⟩) (rowsOf L p2) (fun i => some ⟨G i, 0, none⟩) C ∧ Marked w14 (rowsOf L p2) (fun i => some ⟨G i, 0, none⟩) 1 (rowsOf L p2).length) := ⟨HD13.out.1.below hb14, HD13.out.2.below hb14⟩
  replace hs3 := chain hs3 hb14
  clear hb14 laidH ord2 HD13 RZ
  go_wp2_with fail
  refine (eqssN L.length _ _ _ _ (rowsOf L p2) hpl _ RH.out (RS.out.below hs3) hlM).mono ?_
  rintro e w15 ⟨rfl, hb15⟩
  have HD15 : Hid (HeadsAt w15 (some ⟨gG, 0, none⟩) (rowsOf L p2) (fun i => some ⟨G i, 0, none⟩) C ∧ Marked w15 (rowsOf L p2) (fun i => some ⟨G i, 0, none⟩) 1 (rowsOf L p2).length) := ⟨HD14.out.1.below hb15, HD14.out.2.below hb15⟩
  replace hs3 := chain hs3 hb15
  clear hb15 HD14 RH
  go_wp2_with fail
  refine (heldssN L.length _ _ (rowsOf L p2) hpl _ _ r hr' _ HD15.out.1 HD15.out.2 hr9 hlM).mono ?_
  rintro e w16 ⟨rfl, hb16⟩
  replace hs3 := chain hs3 hb16
  have hbw16 : Below w.heap.size w w16 := hb1.trans (hs3.mono hb1.size)
  go_wp2
  go_ret
  exact ⟨rfl, hbw16⟩

theorem cells3 : Try.prog.cellsOf 23 = 3 := by kernel_rfl
theorem cells1 : Try.prog.cellsOf 31 = 1 := by kernel_rfl

set_option maxRecDepth 100000 in
theorem lifted (os : Os) (started : os.Started) (H : Type) (enc : TypeId × Value → H) :
    ReturnsInHanded {} Try.checked os 6 .any (Rows.fnExactSortedSpec.pre6 enc Try.prog Try.f6 Rows.fnExactSortedRow.domain false) (Rows.fnExactSortedSpec.post enc Try.prog Try.f6 false true false false) := by
  refine returnsInHanded_of_change (C := Try.checked) own started (by kernel_rfl) Try.func6
    (ChangeSpec.witness6 (enc := enc) (C := Try.checked) false ⟨#[], #[.slice none 0 0, .int .i64 0, .bool false], []⟩ 8 (by kernel_rfl) (by kernel_rfl) (by kernel_rfl) (by kernel_rfl)) ?_
  intro W base args ds gs before hval0 hW hcnd _
  have hval : ∀ (j : Nat) t v, Try.f6.params[j]? = some t → args[j]? = some v → Value.okWide Try.prog W .any base t v := hval0
  have hW' := hW
  obtain ⟨p, q, hA0, hV, rfl, hfz, hnd⟩ := hW
  have hA : DataW.TrodAll enc Try.prog W 0 (fun _ => true) true Try.f6.params.toList args.toList ds p := hA0
  rw [Try.params6] at hA hval
  obtain ⟨v0, v1, v2, d0, d1, d2, p0, p1, p2, rfl, rfl, rfl, h0, h1, h2⟩ := trodAll_three hA
  obtain ⟨rfl, rfl⟩ := trodVars_none hV
  obtain ⟨a0, len0, cap0, rfl⟩ := okWide_slice Try.underlying37 (hval 0 37 v0 rfl rfl)
  have k0 := h0
  have lt0 : ∀ x ∈ p0, x.block < W.heap.size := by obtain ⟨m, hm⟩ := k0; exact DataW.trod_lt m _ _ _ hm
  obtain ⟨m0, hm0⟩ := h0
  obtain ⟨L, rfl, rA, lA, nA⟩ := open_rows Try.underlying37 cells1 Try.underlying31 Try.underlying23 cells3 rfl rfl rfl (by kernel_rfl) (by kernel_rfl) (by kernel_rfl) Try.underlying2 Try.underlying2 Try.underlying9 hm0
  obtain ⟨n1, rfl⟩ := okWide_int Try.underlying2 (hval 1 2 v1 rfl rfl)
  obtain ⟨b2, rfl⟩ := okWide_bool Try.underlying4 (hval 2 4 v2 rfl rfl)
  have k1 := h1
  have lt1 : ∀ x ∈ p1, x.block < W.heap.size := by obtain ⟨m, hm⟩ := k1; exact DataW.trod_lt m _ _ _ hm
  have k2 := h2
  have lt2 : ∀ x ∈ p2, x.block < W.heap.size := by obtain ⟨m, hm⟩ := k2; exact DataW.trod_lt m _ _ _ hm
  clear hA0 hval0
  refine (walk a0 cap0 L n1 b2 W rA lA).mono fun e W' ⟨he, bel⟩ => ?_
  subst he
  exact ⟨_, rfl, _, _, _, [], _, [], hW', trodAll_mk1 (shut_bool Try.underlying4 _), trodAll_mk3 (Below.trod laidOut (by kernel_rfl) (of_decide_eq_true (by kernel_rfl)) k0 bel lt0) (Below.trod laidOut (by kernel_rfl) (of_decide_eq_true (by kernel_rfl)) k1 bel lt1) (Below.trod laidOut (by kernel_rfl) (of_decide_eq_true (by kernel_rfl)) k2 bel lt2), rfl, bel.frame _, fun h => by cases h⟩

theorem over : Rows.fnExactSortedRow.holds Try.pinned (OpenSpec.ofChange Rows.fnExactSortedSpec) :=
  OpenClaim.holds_of_wide 6 Try.f6 rfl rfl rfl rfl rfl rfl rfl ⟨rfl, rfl, rfl, rfl, rfl⟩ rfl rfl rfl rfl rfl (by kernel_rfl) Try.func6 (by kernel_rfl)
    (of_decide_eq_true (by kernel_rfl)) (by unfold Func.isWrapper; first | (rw [if_pos (by decide +kernel)]; kernel_rfl) | (rw [if_neg (by decide +kernel)]; exact ⟨rfl, rfl⟩))
    (fun os started H enc _ => lifted os started H enc)

end exSorted

theorem fnExactSorted_holds : Rows.FnExactSortedSaid := exSorted.over

end Go.Proofs.Ytgablbdphflokai
