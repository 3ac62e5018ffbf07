/-
  A part of the proof: TabsMark, TabsLaw.
-/
import Derived.Test.YtpggjgilklpncaaGreatPart15
import Derived.Test.YtpggjgilklpncaaGreatPart18

/-
  Lists of tables, marked: the contracts of the law's helpers that mark them, and that look whether the marks are still there.
-/
namespace Go.Proofs.YtpggjgilklpncaaGreat
open Go.ChangeShapes Go.WideShapes Go.ChangeAt Go.RowKit
attribute [local go_sem ↓] Go.wp_at_zero Go.wp_at_succ
attribute [local simp] World.cell?_alloc_past World.cell?_alloc_at World.frozen?_alloc_at cell_far cell_off cell_here World.frozen?_alloc_past

/-- How many marks a table takes, its name's among them. -/
def tabN (t : TB) : Nat := 1 + t.2.1.length + 3 * offs t.2.2 t.2.2.length
/-- How many lie ahead of the i-th table. -/
def offT (T : List TB) (i : Nat) : Nat := ((T.take i).map tabN).sum
theorem offT_step (T : List TB) (i : Nat) (h : i < T.length) : offT T (i + 1) = offT T i + tabN T[i] := by
  unfold offT
  rw [List.take_succ_eq_append_getElem h, List.map_append, List.sum_append]; simp
theorem offT_le (T : List TB) (i : Nat) : offT T i ≤ offT T T.length := by
  unfold offT
  rw [List.take_length]
  conv => rhs; rw [← List.take_append_drop i T, List.map_append, List.sum_append]
  omega
/-- The tables are marked up to the m-th; the others are as they were. -/
structure MTs (w : World) (base : Nat) (a : Option Addr) (T : List TB) (Q : Nat → TAd) (k m : Nat) : Prop where
  heads : ∀ i (_ : i < T.length), ∃ g o, a = some ⟨g, o, none⟩ ∧ g < w.heap.size ∧ (i < m → w.cell? ⟨g, o + i * 3, none⟩ = some (.string (mt (k + offT T i)))) ∧ (m ≤ i → w.cell? ⟨g, o + i * 3, none⟩ = some (.string T[i].1)) ∧ w.cell? ⟨g, o + i * 3 + 1, none⟩ = some (.slice (Q i).ca T[i].2.1.length (Q i).cc) ∧ w.cell? ⟨g, o + i * 3 + 2, none⟩ = some (.slice (Q i).ra T[i].2.2.length (Q i).cr) ∧ w.frozen? ⟨g, o + i * 3, none⟩ = false
  marked : ∀ i (_ : i < T.length), i < m → MarkedT w (Q i).ca (Q i).ra T[i] (Q i).A (Q i).C (k + offT T i + 1)
  rest : ∀ i (_ : i < T.length), m ≤ i → OutT w base (Q i) T[i]
theorem OutU.start {w : World} {base : Nat} {a : Option Addr} {T : List TB} {Q : Nat → TAd} (h : OutTs w base a T Q) (k : Nat) : MTs w base a T Q k 0 := by
  refine ⟨fun i hi => ?_, fun i _ h => by omega, fun i hi _ => h.tabs i hi hi⟩
  obtain ⟨g, o, ha, hlt, c0, c1, c2, f0⟩ := h.heads i hi hi
  exact ⟨g, o, ha, hlt, fun h => by omega, fun _ => c0, c1, c2, f0⟩
theorem MTs.keepS {P : Nat → Prop} {w w' : World} {base : Nat} {a : Option Addr} {T : List TB} {Q : Nat → TAd} {k : Nat} (h : MTs w base a T Q k T.length) (hk : KeepS P w w') (hP : ∀ b, tabsBlks a T Q b → ¬ P b) : MTs w' base a T Q k T.length := by
  refine ⟨fun i hi => ?_, fun i hi hm => (h.marked i hi hm).keepS hk (fun b hb => hP b (.inr ⟨i, hi, hb⟩)), fun i hi hm => by omega⟩
  obtain ⟨g, o, ha, hlt, c0, c0', c1, c2, f0⟩ := h.heads i hi
  have hn := hP g (.inl ⟨by omega, o, ha⟩)
  exact ⟨g, o, ha, Nat.lt_of_lt_of_le hlt hk.size, fun hm => by rw [hk.cell hlt hn]; exact c0 hm, fun hm => by omega, by rw [hk.cell hlt hn]; exact c1, by rw [hk.cell hlt hn]; exact c2, by rw [hk.frozen hlt hn]; exact f0⟩
theorem MTs.below {w w' : World} {base : Nat} {a : Option Addr} {T : List TB} {Q : Nat → TAd} {k : Nat} (h : MTs w base a T Q k T.length) (hb : Below w.heap.size w w') : MTs w' base a T Q k T.length :=
  h.keepS (KeepS.ofBelow (P := fun _ => False) hb) (fun _ _ h => h)
/-- One table more is marked. -/
theorem MTs.step {wr w1 w3 w4 : World} {base : Nat} {a : Option Addr} {T : List TB} {Q : Nat → TAd} {k m g o : Nat} (h : MTs wr base a T Q k m) (hm : m < T.length) (ha : a = some ⟨g, o, none⟩)
    (hap : ∀ i j (_ : i < T.length) (_ : j < T.length) b, i ≠ j → (Q i).blks T[i] b → ¬ (Q j).blks T[j] b) (hhd : ∀ i (_ : i < T.length), ¬ (Q i).blks T[i] g)
    (hb : Below wr.heap.size wr w1) (K1 : KeepS (inBlk (Q m).ca T[m].2.1.length) (w1.setCell ⟨g, o + m * 3, none⟩ (.string (mt (k + offT T m)))) w3) (S1 : StrsAt w3 (Q m).ca (marksS (k + offT T m + 1) T[m].2.1.length))
    (K2 : KeepS (rowBlks T[m].2.2 (Q m).A) w3 w4) (H2 : HeadsAt w4 (Q m).ra T[m].2.2 (Q m).A (Q m).C) (M2 : Marked w4 T[m].2.2 (Q m).A (k + offT T m + 1 + T[m].2.1.length) T[m].2.2.length) :
    MTs w4 base a T Q k (m + 1) ∧ KeepS (tabsBlks a T Q) wr w4 := by
  subst ha
  have hgm : ¬ (Q m).blks T[m] g := hhd m hm
  have hg1 : ¬ inBlk (Q m).ca T[m].2.1.length g := fun hb => hgm (.inl hb)
  have hg2 : ¬ rowBlks T[m].2.2 (Q m).A g := fun hb => hgm (.inr (.inl hb))
  have hgw : g < wr.heap.size := by obtain ⟨g', o', e, hlt, _⟩ := h.heads m hm; cases e; exact hlt
  have hgw1 : g < w1.heap.size := Nat.lt_of_lt_of_le hgw hb.size
  have K0 : KeepS (fun b => b = g) w1 (w1.setCell ⟨g, o + m * 3, none⟩ (.string (mt (k + offT T m)))) := (KeepS.refl (fun b => b = g) w1).setCell (p := ⟨g, o + m * 3, none⟩) rfl _
  have KK : KeepS (fun b => b = g ∨ inBlk (Q m).ca T[m].2.1.length b ∨ rowBlks T[m].2.2 (Q m).A b) wr w4 :=
    (((KeepS.ofBelow hb).trans (K0.mono fun b hb => .inl hb)).trans (K1.mono fun b hb => .inr (.inl hb))).trans (K2.mono fun b hb => .inr (.inr hb))
  have hgW : g < (w1.setCell ⟨g, o + m * 3, none⟩ (.string (mt (k + offT T m)))).heap.size := Nat.lt_of_lt_of_le hgw1 K0.size
  have hg3 : g < w3.heap.size := Nat.lt_of_lt_of_le hgW K1.size
  have cel : ∀ p, w4.cell? ⟨g, p, none⟩ = (w1.setCell ⟨g, o + m * 3, none⟩ (.string (mt (k + offT T m)))).cell? ⟨g, p, none⟩ := fun p => by
    rw [K2.cell hg3 hg2, K1.cell hgW hg1]
  have celo : ∀ p, p ≠ o + m * 3 → w4.cell? ⟨g, p, none⟩ = wr.cell? ⟨g, p, none⟩ := fun p hp => by
    rw [cel, cell_off _ _ _ _ _ hp, hb.cell (p := ⟨g, p, none⟩) hgw]
  have fro : ∀ p, w4.frozen? ⟨g, p, none⟩ = wr.frozen? ⟨g, p, none⟩ := fun p => by
    rw [K2.frozen hg3 hg2, K1.frozen hgW hg1, World.frozen?_setCell, hb.frozen (p := ⟨g, p, none⟩) hgw]
  have away : ∀ i (hi : i < T.length) b, i ≠ m → (Q i).blks T[i] b → ¬ (b = g ∨ inBlk (Q m).ca T[m].2.1.length b ∨ rowBlks T[m].2.2 (Q m).A b) := by
    intro i hi b hne hbi hb3
    rcases hb3 with rfl | hb3 | hb3
    · exact hhd i hi hbi
    · exact hap i m hi hm b hne hbi (.inl hb3)
    · exact hap i m hi hm b hne hbi (.inr (.inl hb3))
  have hO := h.rest m hm (Nat.le_refl _)
  refine ⟨⟨?_, ?_, ?_⟩, ?_⟩
  · intro i hi
    obtain ⟨g', o', e, hlt, d0, d0', d1, d2, f0⟩ := h.heads i hi
    cases e
    refine ⟨g, o, rfl, Nat.lt_of_lt_of_le hg3 K2.size, ?_, ?_, by rw [celo _ (by omega)]; exact d1, by rw [celo _ (by omega)]; exact d2, by rw [fro]; exact f0⟩
    · intro hlt
      by_cases ei : i = m
      · subst ei
        rw [cel, cell_here]
        rw [hb.cell (p := ⟨g, _, none⟩) hgw, d0' (Nat.le_refl _)]; rfl
      · rw [celo _ (by omega)]; exact d0 (by omega)
    · intro hle
      rw [celo _ (by omega)]; exact d0' (by omega)
  · intro i hi hlt
    by_cases ei : i = m
    · subst ei
      exact ⟨S1.keepS K2 (fun b hb hb2 => hO.colR b (by rw [marksS_length] at hb; exact hb) hb2), H2, M2⟩
    · exact (h.marked i hi (by omega)).keepS KK (fun b hb => away i hi b ei hb)
  · intro i hi hle
    exact OutTab.keepS (h.rest i hi (by omega)) KK (fun b hb => away i hi b (by omega) hb)
  · refine KK.mono fun b hb => ?_
    rcases hb with rfl | hb | hb
    · exact .inl ⟨by omega, o, rfl⟩
    · exact .inr ⟨m, hm, .inl hb⟩
    · exact .inr ⟨m, hm, .inr (.inl hb)⟩

theorem markstrI (n : Nat) (a : Option Addr) (cap : Nat) (l : List ByteArray) (hn : l.length = n) (k r : Nat) (z : Int) (hz : z = (k : Int)) (hr : k + n = r) (w : World) (hrow : StrsAt w a l) (hfree : FreeS w a l.length) (h0 : 0 < k) (h1 : k + n ≤ 1099511627776) :
    Calls Tryz.prog 20 #[.slice a n cap, .int .i64 z] w fun e w' => e = .returned (.int .i64 (r : Int)) ∧ StrsAt w' a (marksS k n) ∧ KeepS (inBlk a n) w w' := by
  subst hz hr hn
  refine (markstr_laws a cap l k w hrow hfree h0 h1).mono ?_
  rintro e w' ⟨he, h1, _, h3⟩
  exact ⟨he, h1, h3⟩
theorem markssI (n : Nat) (a : Option Addr) (cap : Nat) (L : List (List CT)) (hn : L.length = n) (A : Nat → Option Addr) (C : Nat → Nat) (k r : Nat) (hr : k + 3 * offs L L.length = r) (w : World) (hh : HeadsAt w a L A C) (hm : Marked w L A k 0) (ap : Apart a L A) (h0 : 0 < k) (h1 : r ≤ 1099511627776) (hlen : n ≤ maxLen) :
    Calls Tryz.prog 21 #[.slice a n cap, .int .i64 k] w fun e w' => e = .returned (.int .i64 (r : Int)) ∧ HeadsAt w' a L A C ∧ Marked w' L A k L.length ∧ KeepS (rowBlks L A) w w' := by
  subst hn hr; exact markss_laws a cap L A C k w hh hm ap h0 h1 hlen
theorem heldstrI (n : Nat) (a : Option Addr) (cap : Nat) (k r : Nat) (z : Int) (hz : z = (k : Int)) (hr : k + n = r) (w : World) (hrow : StrsAt w a (marksS k n)) (h0 : 0 < k) (h1 : k + n ≤ 1099511627776) :
    Calls Tryz.prog 22 #[.slice a n cap, .int .i64 z] w fun e w' => e = .returned (.int .i64 (r : Int)) ∧ Below w.heap.size w w' := by
  subst hz hr
  exact heldstr_laws a cap n k w hrow h0 h1
theorem heldssI (n : Nat) (a : Option Addr) (cap : Nat) (L : List (List CT)) (hn : L.length = n) (A : Nat → Option Addr) (C : Nat → Nat) (k r : Nat) (hr : k + 3 * offs L L.length = r) (w : World) (hh : HeadsAt w a L A C) (hm : Marked w L A k L.length) (h0 : 0 < k) (h1 : r ≤ 1099511627776) (hlen : n ≤ maxLen) :
    Calls Tryz.prog 23 #[.slice a n cap, .int .i64 k] w fun e w' => e = .returned (.int .i64 (r : Int)) ∧ Below w.heap.size w w' := by
  subst hn hr; exact heldss_laws a cap L A C k w hh hm h0 h1 hlen

set_option maxHeartbeats 4000000 in
theorem marktabs_laws (a : Option Addr) (cap : Nat) (T : List TB) (n : Nat) (hn : T.length = n) (Q : Nat → TAd) (base k r : Nat) (hr : k + offT T T.length = r) (w : World) (hO : OutTs w base a T Q) (h0 : 0 < k) (h1 : r ≤ 1099511627776) (hm : n ≤ maxLen) :
    Calls Tryz.prog 9 #[.slice a n cap, .int .i64 k] w fun e w' => e = .returned (.int .i64 (r : Int)) ∧ MTs w' base a T Q k T.length ∧ KeepS (tabsBlks a T Q) w w' := by
  have HN : Hid (T.length = n) := hn
  have HRR : Hid (k + offT T T.length = r) := hr
  have HM0 : Hid (MTs w base a T Q k 0) := hO.start k
  have HAP : Hid (∀ i j (_ : i < T.length) (_ : j < T.length) b, i ≠ j → (Q i).blks T[i] b → ¬ (Q j).blks T[j] b) := by
    have : ∀ i j (_ : i < T.length) (_ : j < T.length) b, i ≠ j → (Q i).blks T[i] b → ¬ (Q j).blks T[j] b := fun i j hi hj b => hO.apart i j hi hj b hi hj
    exact this
  have HHD : Hid (∀ i (_ : i < T.length) g o, a = some ⟨g, o, none⟩ → ¬ (Q i).blks T[i] g) := by
    have : ∀ i (_ : i < T.length) g o, a = some ⟨g, o, none⟩ → ¬ (Q i).blks T[i] g := fun i hi g o => hO.head i hi g o hi
    exact this
  clear hn hr hO
  unfold maxLen at hm
  go_enter Tryz.func9, Tryz.ntmps9
  go_wp2
  go_loopw [1, 5] (fun s i wr => ∃ m x : Nat, m ≤ n ∧ i = .int .i64 m ∧ s = .int .i64 x ∧ Hid (k + offT T m = x) ∧ Hid (MTs wr base a T Q k m) ∧ KeepS (tabsBlks a T Q) w wr)
    (fun _ i _ => n - (intOf i).toNat)
  case atStart => exact ⟨0, k, Nat.zero_le _, rfl, rfl, show k + offT T 0 = k by simp [offT], HM0, KeepS.refl _ _⟩
  case round =>
    obtain ⟨m, x, hmL, rfl, rfl, HX, hMT, hkp⟩ := hrel
    by_cases hlt : m < n
    · have hlt' : Hid (m < T.length) := by have := HN.out; exact show m < T.length by omega
      obtain ⟨g, o, ha, hgw, _, c0, c1, c2, f0⟩ := hMT.out.heads m hlt'.out
      replace c0 := c0 (Nat.le_refl _)
      have HOQ : Hid (OutT wr base (Q m) (T[m]'hlt'.out)) := hMT.out.rest m hlt'.out (Nat.le_refl _)
      have hst := offT_step T m hlt'.out
      have hle := offT_le T (m + 1)
      have hx0 : 0 < x := by have := HX.out; omega
      have hgb : Hid (¬ (Q m).blks (T[m]'hlt'.out) g) := HHD.out m hlt'.out g o ha
      have HST : Hid (∀ w1 w3 w4, Below wr.heap.size wr w1 → KeepS (inBlk (Q m).ca (T[m]'hlt'.out).2.1.length) (w1.setCell ⟨g, o + m * 3, none⟩ (.string (mt x))) w3 → StrsAt w3 (Q m).ca (marksS (x + 1) (T[m]'hlt'.out).2.1.length) → KeepS (rowBlks (T[m]'hlt'.out).2.2 (Q m).A) w3 w4 → HeadsAt w4 (Q m).ra (T[m]'hlt'.out).2.2 (Q m).A (Q m).C → Marked w4 (T[m]'hlt'.out).2.2 (Q m).A (x + 1 + (T[m]'hlt'.out).2.1.length) (T[m]'hlt'.out).2.2.length → MTs w4 base a T Q k (m + 1) ∧ KeepS (tabsBlks a T Q) wr w4) := by
        have e := HX.out
        have : ∀ w1 w3 w4, Below wr.heap.size wr w1 → KeepS (inBlk (Q m).ca (T[m]'hlt'.out).2.1.length) (w1.setCell ⟨g, o + m * 3, none⟩ (.string (mt x))) w3 → StrsAt w3 (Q m).ca (marksS (x + 1) (T[m]'hlt'.out).2.1.length) → KeepS (rowBlks (T[m]'hlt'.out).2.2 (Q m).A) w3 w4 → HeadsAt w4 (Q m).ra (T[m]'hlt'.out).2.2 (Q m).A (Q m).C → Marked w4 (T[m]'hlt'.out).2.2 (Q m).A (x + 1 + (T[m]'hlt'.out).2.1.length) (T[m]'hlt'.out).2.2.length → MTs w4 base a T Q k (m + 1) ∧ KeepS (tabsBlks a T Q) wr w4 := by
          intro w1 w3 w4 hb K1 S1 K2 H2 M2
          subst e
          exact MTs.step hMT.out hlt'.out ha HAP.out (fun i hi => HHD.out i hi g o ha) hb K1 S1 K2 H2 M2
        exact this
      obtain ⟨y, hy⟩ : ∃ y, x + 1 + (T[m]'hlt'.out).2.1.length + 3 * offs (T[m]'hlt'.out).2.2 (T[m]'hlt'.out).2.2.length = y := ⟨_, rfl⟩
      have hyr : y ≤ 1099511627776 ∧ Hid (k + offT T (m + 1) = y) := by
        have e := HX.out
        have e2 : k + offT T (m + 1) = y := by rw [hst]; unfold tabN; omega
        exact ⟨by have := HRR.out; omega, e2⟩
      obtain ⟨hy1, HY⟩ := hyr
      clear hst hle
      generalize (T[m]'hlt'.out) = t at c0 c1 c2 HOQ hgb HST hy
      subst ha
      obtain ⟨nc, hnc⟩ : ∃ z, t.2.1.length = z := ⟨_, rfl⟩
      obtain ⟨nr, hnr⟩ : ∃ z, t.2.2.length = z := ⟨_, rfl⟩
      rw [hnc] at c1
      rw [hnr] at c2
      have HNC : Hid (t.2.1.length = nc) := hnc
      have HNR : Hid (t.2.2.length = nr) := hnr
      have hnrM : nr ≤ maxLen := by rw [← hnr]; exact HOQ.out.lenR
      have HY2 : Hid (x + 1 + nc + 3 * offs t.2.2 t.2.2.length = y) := by rw [hnc] at hy; exact hy
      have hxn : x + 1 + nc ≤ 1099511627776 := by have := HY2.out; omega
      obtain ⟨q, hq⟩ : ∃ q, Q m = q := ⟨_, rfl⟩
      rw [hq] at c1 c2 HOQ hgb HST
      obtain ⟨ca, cc, ra, cr, A, C⟩ := q
      dsimp only at c1 c2 HST
      clear hnc hnr hy hq
      have hi0 : (0 : Int) ≤ (m : Int) := by omega
      have hi1 : (m : Int) < (n : Int) := by omega
      go_wp2_with fail
      refine (text_laws x _ hx0 (by omega)).mono ?_
      rintro e w1 ⟨rfl, hb1⟩
      have d0 : w1.cell? ⟨g, o + m * 3, none⟩ = some (.string t.1) := by rw [hb1.cell (p := ⟨g, _, none⟩) hgw]; exact c0
      have d1 : w1.cell? ⟨g, o + m * 3 + 1, none⟩ = some (.slice ca nc cc) := by rw [hb1.cell (p := ⟨g, _, none⟩) hgw]; exact c1
      have d2 : w1.cell? ⟨g, o + m * 3 + 2, none⟩ = some (.slice ra nr cr) := by rw [hb1.cell (p := ⟨g, _, none⟩) hgw]; exact c2
      have fd : w1.frozen? ⟨g, o + m * 3, none⟩ = false := by rw [hb1.frozen (p := ⟨g, _, none⟩) hgw]; exact f0
      have hgw1 : g < w1.heap.size := Nat.lt_of_lt_of_le hgw hb1.size
      have HB1 : Hid (Below wr.heap.size wr w1) := hb1
      obtain ⟨W, hW⟩ : ∃ W, W = w1.setCell ⟨g, o + m * 3, none⟩ (.string (mt x)) := ⟨_, rfl⟩
      have K0 : KeepS (fun b => b = g) w1 W := by rw [hW]; exact (KeepS.refl (fun b => b = g) w1).setCell (p := ⟨g, o + m * 3, none⟩) rfl _
      have OW : Hid (OutTab W base ca cc ra t A C) := by
        have h1 : OutTab w1 base ca cc ra t A C := OutTab.below HOQ.out hb1
        have : OutTab W base ca cc ra t A C := h1.keepS K0 (fun b hb e => hgb.out (by rw [← e]; exact hb))
        exact this
      have e1 : W.cell? ⟨g, o + m * 3 + 1, none⟩ = some (.slice ca nc cc) := by rw [hW, cell_off _ _ _ _ _ (by omega)]; exact d1
      have e2 : W.cell? ⟨g, o + m * 3 + 2, none⟩ = some (.slice ra nr cr) := by rw [hW, cell_off _ _ _ _ _ (by omega)]; exact d2
      have hgW : g < W.heap.size := Nat.lt_of_lt_of_le hgw1 K0.size
      clear c0 c1 c2 f0 hb1 K0
      obtain ⟨x2, hx2⟩ : ∃ x2, x + 1 + nc = x2 := ⟨_, rfl⟩
      have HX2 : Hid (x + 1 + nc = x2) := hx2
      have HY3 : Hid (x2 + 3 * offs t.2.2 t.2.2.length = y) := by
        have : x2 + 3 * offs t.2.2 t.2.2.length = y := by rw [← hx2]; exact HY2.out
        exact this
      have HSX : Hid (w1.setCell ⟨g, o + m * 3, none⟩ (.string (mt x)) = W) := hW.symm
      clear hx2 HY2
      go_wp2_with fail
      rw [HSX.out]
      refine (markstrI nc ca cc t.2.1 HNC.out (x + 1) x2 _ (by omega) HX2.out _ OW.out.cols OW.out.free (by omega) hxn).mono ?_
      rintro e w3 ⟨rfl, S1, K1⟩
      have e3 : w3.cell? ⟨g, o + m * 3 + 2, none⟩ = some (.slice ra nr cr) := by rw [K1.cell hgW (fun hb => hgb.out (.inl (by rw [HNC.out]; exact hb)))]; exact e2
      have HH : Hid (HeadsAt w3 ra t.2.2 A C) := OW.out.heads.keepN K1 (fun b o h0 e hb => OW.out.colH b (by rw [HNC.out]; exact hb) h0 o e)
      have HMK : Hid (∀ k, Marked w3 t.2.2 A k 0) := by
        have : ∀ k, Marked w3 t.2.2 A k 0 := fun k => (OW.out.un k).keep0 K1 (fun b hb hb2 => OW.out.colR b (by rw [HNC.out]; exact hb2) hb)
        exact this
      have HK1 : Hid (KeepS (inBlk ca nc) W w3) := K1
      have HS1 : Hid (StrsAt w3 ca (marksS (x + 1) nc)) := S1
      clear S1 K1 e1 e2 d0 d1 d2 fd
      go_wp2_with fail
      refine (markssI nr ra cr t.2.2 HNR.out A C x2 y HY3.out _ HH.out (HMK.out _) OW.out.ap (by have := HX2.out; omega) hy1 hnrM).mono ?_
      rintro e w4 ⟨rfl, H2, M2, K2⟩
      have FIN : Hid (MTs w4 base (some ⟨g, o, none⟩) T Q k (m + 1) ∧ KeepS (tabsBlks (some ⟨g, o, none⟩) T Q) w w4) := by
        have h := HST.out w1 w3 w4 HB1.out (by rw [HSX.out, HNC.out]; exact HK1.out) (by rw [HNC.out]; exact HS1.out) K2 H2 (by rw [HNC.out, HX2.out]; exact M2)
        have : MTs w4 base (some ⟨g, o, none⟩) T Q k (m + 1) ∧ KeepS (tabsBlks (some ⟨g, o, none⟩) T Q) w w4 := ⟨h.1, hkp.trans h.2⟩
        exact this
      clear H2 M2 K2 HH HMK HK1 HS1 HST e3
      go_wp2
      go_roundw
      case rel => exact ⟨m + 1, y, by omega, by go_num, rfl, HY, FIN.out.1, FIN.out.2⟩
      case measure => simp [intOf]; omega
    · have hkl : m = n := by omega
      subst hkl
      have hnn : ¬ (m : Int) < (m : Int) := by omega
      have e : x = r := by have := HX.out; have := HRR.out; have := HN.out; subst this; omega
      subst e
      go_wp2
      go_ret
      exact ⟨rfl, by rw [HN.out]; exact hMT.out, hkp⟩
set_option maxHeartbeats 4000000 in
theorem heldtabs_laws (a : Option Addr) (cap : Nat) (T : List TB) (n : Nat) (hn : T.length = n) (Q : Nat → TAd) (base k r : Nat) (hr : k + offT T T.length = r) (w : World) (hM : MTs w base a T Q k T.length) (hlr : ∀ i (_ : i < T.length), T[i].2.2.length ≤ maxLen) (h0 : 0 < k) (h1 : r ≤ 1099511627776) (hm : n ≤ maxLen) :
    Calls Tryz.prog 10 #[.slice a n cap, .int .i64 k] w fun e w' => e = .returned (.int .i64 (r : Int)) ∧ Below w.heap.size w w' := by
  have HN : Hid (T.length = n) := hn
  have HRR : Hid (k + offT T T.length = r) := hr
  have HM0 : Hid (MTs w base a T Q k T.length) := hM
  have HLR : Hid (∀ i (_ : i < T.length), T[i].2.2.length ≤ maxLen) := hlr
  clear hn hr hM hlr
  unfold maxLen at hm
  go_enter Tryz.func10, Tryz.ntmps10
  go_wp2
  go_loopw [1, 5] (fun s i wr => ∃ m x : Nat, m ≤ n ∧ i = .int .i64 m ∧ s = .int .i64 x ∧ Hid (k + offT T m = x) ∧ Below w.heap.size w wr)
    (fun _ i _ => n - (intOf i).toNat)
  case atStart => exact ⟨0, k, Nat.zero_le _, rfl, rfl, show k + offT T 0 = k by simp [offT], Below.refl _ _⟩
  case round =>
    obtain ⟨m, x, hmL, rfl, rfl, HX, hbw⟩ := hrel
    by_cases hlt : m < n
    · have hlt' : Hid (m < T.length) := by have := HN.out; exact show m < T.length by omega
      have HMR : Hid (MTs wr base a T Q k T.length) := HM0.out.below hbw
      obtain ⟨g, o, rfl, hgw, c0, _, c1, c2, _⟩ := HMR.out.heads m hlt'.out
      replace c0 := c0 hlt'.out
      have HMT : Hid (MarkedT wr (Q m).ca (Q m).ra (T[m]'hlt'.out) (Q m).A (Q m).C (k + offT T m + 1)) := HMR.out.marked m hlt'.out hlt'.out
      have hst := offT_step T m hlt'.out
      have hle := offT_le T (m + 1)
      have hx0 : 0 < x := by have := HX.out; omega
      have hlr := HLR.out m hlt'.out
      rw [HX.out] at c0 HMT
      obtain ⟨y, hy⟩ : ∃ y, x + 1 + (T[m]'hlt'.out).2.1.length + 3 * offs (T[m]'hlt'.out).2.2 (T[m]'hlt'.out).2.2.length = y := ⟨_, rfl⟩
      have hyr : y ≤ 1099511627776 ∧ Hid (k + offT T (m + 1) = y) := by
        have e := HX.out
        have e2 : k + offT T (m + 1) = y := by rw [hst]; unfold tabN; omega
        exact ⟨by have := HRR.out; omega, e2⟩
      obtain ⟨hy1, HY⟩ := hyr
      clear hst hle HMR
      generalize (T[m]'hlt'.out) = t at c1 c2 HMT hy hlr
      obtain ⟨nc, hnc⟩ : ∃ z, t.2.1.length = z := ⟨_, rfl⟩
      obtain ⟨nr, hnr⟩ : ∃ z, t.2.2.length = z := ⟨_, rfl⟩
      rw [hnc] at c1
      rw [hnr] at c2
      have HNC : Hid (t.2.1.length = nc) := hnc
      have HNR : Hid (t.2.2.length = nr) := hnr
      have hnrM : nr ≤ maxLen := by rw [← hnr]; exact hlr
      obtain ⟨x2, hx2⟩ : ∃ x2, x + 1 + nc = x2 := ⟨_, rfl⟩
      have HX2 : Hid (x + 1 + nc = x2) := hx2
      have HY3 : Hid (x2 + 3 * offs t.2.2 t.2.2.length = y) := by
        have : x2 + 3 * offs t.2.2 t.2.2.length = y := by rw [← hx2, ← hnc]; exact hy
        exact this
      have hxn : x + 1 + nc ≤ 1099511627776 := by have := HX2.out; have := HY3.out; omega
      have hk1 : ¬ ((x2 : Int) < 0) := by omega
      have hr1 : ¬ ((y : Int) < 0) := by omega
      obtain ⟨q, hq⟩ : ∃ q, Q m = q := ⟨_, rfl⟩
      rw [hq] at c1 c2 HMT
      obtain ⟨ca, cc, ra, cr, A, C⟩ := q
      dsimp only at c1 c2
      clear hnc hnr hy hq hx2
      have hi0 : (0 : Int) ≤ (m : Int) := by omega
      have hi1 : (m : Int) < (n : Int) := by omega
      obtain ⟨z, hz⟩ : ∃ z, mt x = z := ⟨_, rfl⟩
      rw [hz] at c0
      have HZ : Hid (mt x = z) := hz
      clear hz
      have hzz : (z.toList == z.toList) = true := by simp
      go_wp2_with fail
      refine wp_region_held_drew (S := (fun w' => w'.cell? ⟨g, o + m * 3, none⟩ = some (.string z))) (by kernel_rfl) ?_ (fun hHeld => ?_)
      · (((try dsimp only); (repeat' apply And.intro) <;> first | (go_keep; done) | (simp (disch := first | omega | (simp <;> omega) | fail) [*]; done) | fail))
      refine wpAnyH_take (i := 0) (by simp only [List.getElem?_toArray, List.getElem?_cons_zero]; rfl) (by kernel_rfl) (by kernel_rfl) (by kernel_rfl) (by intro _ _ _ h; exact h) (Or.inl ⟨by rfl, fun w hSw => by (dsimp only at hSw; go_simp; (try with_reducible rfl))⟩) (by assumption) ?_
      simp only [Act.put, List.setIfInBounds_toArray, List.set_cons_zero, List.set_cons_succ]
      refine wpAnyH_take (i := 1) (by simp only [List.getElem?_toArray, List.getElem?_cons_zero, List.getElem?_cons_succ]; rfl) (by kernel_rfl) (by kernel_rfl) (by kernel_rfl) (by intro _ _ _ h; exact h) (Or.inl ⟨by rfl, fun w hSw => by (dsimp only at hSw; go_simp; (try with_reducible rfl))⟩) (by assumption) ?_
      simp only [Act.put, List.setIfInBounds_toArray, List.set_cons_zero, List.set_cons_succ]
      refine wpAnyH_take (i := 2) (by simp only [List.getElem?_toArray, List.getElem?_cons_zero, List.getElem?_cons_succ]; rfl) (by kernel_rfl) (by kernel_rfl) (by kernel_rfl) (by intro _ _ _ h; exact h) (Or.inl ⟨by rfl, fun w hSw => by (dsimp only at hSw; go_simp; (try with_reducible rfl))⟩) (by assumption) ?_
      simp only [Act.put, List.setIfInBounds_toArray, List.set_cons_zero, List.set_cons_succ]
      refine wpAnyH_take (i := 3) (by simp only [List.getElem?_toArray, List.getElem?_cons_zero, List.getElem?_cons_succ]; rfl) (by kernel_rfl) (by kernel_rfl) (by kernel_rfl) (by intro _ _ _ h; exact h) (Or.inl ⟨by rfl, fun w hSw => by (dsimp only at hSw; go_simp; (try with_reducible rfl))⟩) (by assumption) ?_
      simp only [Act.put, List.setIfInBounds_toArray, List.set_cons_zero, List.set_cons_succ]
      refine wpAnyH_take (i := 4) (by simp only [List.getElem?_toArray, List.getElem?_cons_zero, List.getElem?_cons_succ]; rfl) (by kernel_rfl) (by kernel_rfl) (by kernel_rfl) (by intro _ _ _ h; exact h) (Or.inl ⟨by rfl, fun w hSw => by (dsimp only at hSw; go_simp; (try with_reducible rfl))⟩) (by assumption) ?_
      simp only [Act.put, List.setIfInBounds_toArray, List.set_cons_zero, List.set_cons_succ]
      refine wpAnyH_take (i := 5) (by simp only [List.getElem?_toArray, List.getElem?_cons_zero, List.getElem?_cons_succ]; rfl) (by kernel_rfl) (by kernel_rfl) (by kernel_rfl) (by intro _ _ _ h; exact h) (Or.inl ⟨by rfl, fun w hSw => by (dsimp only at hSw; go_simp; (try with_reducible rfl))⟩) (by assumption) ?_
      simp only [Act.put, List.setIfInBounds_toArray, List.set_cons_zero, List.set_cons_succ]
      refine wpAnyH_ready (rs := [6]) (by kernel_rfl) (by simp) ?_
      refine AllReadyH.cons (by simp only [List.getElem?_toArray, List.getElem?_cons_zero, List.getElem?_cons_succ]; rfl) ?_ AllReadyH.nil
      intro K hK
      go_simp
      refine (text_laws x _ hx0 (by omega)).mono ?_
      rw [HZ.out]
      rintro e w1 ⟨rfl, hb1⟩
      obtain ⟨hca, hfa⟩ := bcell hb1
      have hx1 : Below wr.heap.size wr w1 := undrew hb1
      have hza := hb1.size
      try simp at hza
      go_wp2_with fail
      refine hK.out _ _ ?_ (fun hHeld => ?_)
      · (((try dsimp only); (repeat' apply And.intro) <;> first | (go_keep; done) | (simp (disch := first | omega | (simp <;> omega) | fail) [*]; done) | fail))
      clear hK K hb1 hca hfa
      try simp only [Act.put, List.setIfInBounds_toArray, List.set_cons_zero, List.set_cons_succ]
      refine wpAnyH_take (i := 7) (by simp only [List.getElem?_toArray, List.getElem?_cons_zero, List.getElem?_cons_succ]; rfl) (by kernel_rfl) (by kernel_rfl) (by kernel_rfl) (by intro _ _ _ h; exact h) (Or.inl ⟨by rfl, fun w hSw => by (dsimp only at hSw; go_simp; (try with_reducible rfl))⟩) (by assumption) ?_
      simp only [Act.put, List.setIfInBounds_toArray, List.set_cons_zero, List.set_cons_succ]
      refine wpAnyH_done (by kernel_rfl) ?_ _
      have d1 : w1.cell? ⟨g, o + m * 3 + 1, none⟩ = some (.slice ca nc cc) := by rw [hx1.cell (p := ⟨g, _, none⟩) hgw]; exact c1
      have d2 : w1.cell? ⟨g, o + m * 3 + 2, none⟩ = some (.slice ra nr cr) := by rw [hx1.cell (p := ⟨g, _, none⟩) hgw]; exact c2
      have HM1 : Hid (MarkedT w1 ca ra t A C (x + 1)) := HMT.out.below hx1
      have hbw1 := chain hbw hx1
      have hgw1 : g < w1.heap.size := Nat.lt_of_lt_of_le hgw hx1.size
      clear c0 c1 c2 HMT hx1 hza
      go_wp2_with fail
      refine (heldstrI nc ca cc (x + 1) x2 _ (by omega) HX2.out _ (by have := HM1.out.cols; rw [HNC.out] at this; exact this) (by omega) hxn).mono ?_
      rintro e w2 ⟨rfl, hb2⟩
      have e2 : w2.cell? ⟨g, o + m * 3 + 2, none⟩ = some (.slice ra nr cr) := by rw [hb2.cell (p := ⟨g, _, none⟩) hgw1]; exact d2
      have HM2 : Hid (MarkedT w2 ca ra t A C (x + 1)) := HM1.out.below hb2
      have hbw2 := chain hbw1 hb2
      clear d1 d2 HM1 hb2
      go_wp2_with fail
      refine (heldssI nr ra cr t.2.2 HNR.out A C x2 y HY3.out _ HM2.out.heads (by have := HM2.out.rows; rw [HNC.out, HX2.out] at this; exact this) (by have := HX2.out; omega) hy1 hnrM).mono ?_
      rintro e w3 ⟨rfl, hb3⟩
      have hbw3 := chain hbw2 hb3
      clear HM2 hb3 e2
      go_wp2
      go_roundw
      case rel => exact ⟨m + 1, y, by omega, by go_num, rfl, HY, hbw3⟩
      case measure => simp [intOf]; omega
    · have hkl : m = n := by omega
      subst hkl
      have hnn : ¬ (m : Int) < (m : Int) := by omega
      have e : x = r := by have := HX.out; have := HRR.out; have := HN.out; subst this; omega
      subst e
      go_wp2
      go_ret
      exact ⟨rfl, hbw⟩
end Go.Proofs.YtpggjgilklpncaaGreat

/-
  What the laws of the base want: how many marks there are, and what stays where marks are put.
-/
namespace Go.Proofs.YtpggjgilklpncaaGreat
open Go.ChangeShapes Go.WideShapes Go.ChangeAt Go.RowKit

theorem sum_le {α : Type} (f : α → Nat) (c : Nat) (l : List α) (h : ∀ x, x ∈ l → f x ≤ c) : (l.map f).sum ≤ l.length * c := by
  induction l with
  | nil => simp
  | cons x l ih =>
    have h1 := h x (by simp)
    have h2 := ih (fun y hy => h y (by simp [hy]))
    rw [List.map_cons, List.sum_cons, List.length_cons, Nat.add_mul]
    omega
theorem tabN_small {t : TB} (h : tableB t = true) : tabN t ≤ 1087 := by
  unfold tableB namesB at h
  simp only [Bool.and_eq_true, decide_eq_true_eq] at h
  obtain ⟨⟨_, ⟨_, h2⟩, h3⟩, h4⟩ := h
  have hc : t.2.1.length ≤ 6 := by
    have := h2
    omega
  have ho : offs t.2.2 t.2.2.length ≤ t.2.2.length * 6 := by
    unfold offs
    rw [List.take_length]
    refine sum_le List.length 6 t.2.2 (fun r hr => ?_)
    have := List.all_eq_true.1 h4 _ hr
    unfold rowOk at this
    simp only [Bool.and_eq_true, decide_eq_true_eq] at this
    omega
  unfold tabN
  omega
theorem offT_small {V : List TB} (h : ∀ t, t ∈ V → tableB t = true) (h5 : V.length ≤ 5) : offT V V.length ≤ 5435 := by
  unfold offT
  rw [List.take_length]
  have := sum_le tabN 1087 V (fun t ht => tabN_small (h t ht))
  omega
theorem offsT2 (L : List (List CT)) : offs L L.length ≤ total L := by
  unfold offs total
  rw [List.take_length]
  induction L with
  | nil => simp
  | cons l L ih => simp only [List.map_cons, List.sum_cons]; omega
theorem tabN_left {t : TB} {x : Int} (h : 0 ≤ leftT t x) : (tabN t : Int) ≤ 1 + 3 * (x - leftT t x) := by
  unfold leftT at h ⊢
  by_cases h1 : x < (t.1.size : Int)
  · rw [if_pos h1] at h; omega
  rw [if_neg h1] at h ⊢
  by_cases h2 : leftOfS t.2.1 (x - t.1.size) < 0
  · rw [if_pos h2] at h; omega
  rw [if_neg h2] at h ⊢
  by_cases h3 : leftOfs t.2.2 (leftOfS t.2.1 (x - t.1.size)) < 0
  · rw [if_pos h3] at h; omega
  rw [if_neg h3] at h ⊢
  have ho := offsT2 t.2.2
  unfold leftOfs at h3 ⊢
  split at h3
  · omega
  rename_i h4
  rw [if_neg h4]
  unfold leftOfS at h2 h4 ⊢
  split at h2
  · omega
  rename_i h5
  rw [if_neg h5] at h4 ⊢
  unfold tabN
  omega
theorem offT_leftTs {T : List TB} {x : Int} (h : 0 ≤ leftTs T x) : (((T.map tabN).sum : Nat) : Int) ≤ T.length + 3 * (x - leftTs T x) := by
  induction T generalizing x with
  | nil => simp [leftTs]
  | cons t T ih =>
    unfold leftTs at h ⊢
    split at h
    · omega
    rename_i hn
    rw [if_neg hn]
    have h1 := tabN_left (t := t) (x := x) (by omega)
    have h2 := ih h
    rw [List.map_cons, List.sum_cons, List.length_cons]
    omega
theorem offT_leftTS {T : List TB} {x : Int} (h1 : x ≤ 1048576) (h : 0 ≤ leftTS T x) : offT T T.length ≤ 4194304 := by
  unfold leftTS at h
  split at h
  · omega
  rename_i hn
  have := offT_leftTs (T := T) (x := x - T.length) h
  unfold offT
  rw [List.take_length]
  omega
theorem KeepS.belowP {P : Nat → Prop} {B : Nat} {a w w' : World} (h : Below B a w) (hk : KeepS P w w') (hB : B ≤ w.heap.size) (hP : ∀ b, P b → B ≤ b) : Below B a w' :=
  h.trans ⟨hk.os, hk.tape, hk.output, hk.size, fun k hkB => hk.block k (by omega) (fun hp => by have := hP k hp; omega)⟩
/-- Tables that lie there stay where nothing below is written. -/
theorem TabsAt.far {B : Nat} {w w' : World} {a : Option Addr} {T : List TB} (h : TabsAt w a T) (hs : w.heap.size = B) (hb : Below B w w') : TabsAt w' a T := by
  subst hs; exact h.below hb
end Go.Proofs.YtpggjgilklpncaaGreat
