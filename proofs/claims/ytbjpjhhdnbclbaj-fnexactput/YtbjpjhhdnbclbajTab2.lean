/-
  The contracts of the law's helpers on tables: the measure, and two that are one held against each other.
-/
import Derived.Test.YtbjpjhhdnbclbajTab1
namespace Go.Proofs.Ytbjpjhhdnbclbaj
open Go.ChangeShapes Go.WideShapes Go.ChangeAt Go.RowKit
attribute [local go_sem ↓] Go.wp_at_zero Go.wp_at_succ
attribute [local simp] World.cell?_alloc_past World.cell?_alloc_at World.frozen?_alloc_at cell_far cell_off cell_here World.frozen?_alloc_past

/-- What is left of a measure behind a table; -1 where it does not last. -/
def leftT (t : TB) (left : Int) : Int :=
  if left < (t.1.size : Int) then -1 else
    if leftOfS t.2.1 (left - t.1.size) < 0 then -1 else
      if leftOfs t.2.2 (leftOfS t.2.1 (left - t.1.size)) < 0 then -1 else leftOfs t.2.2 (leftOfS t.2.1 (left - t.1.size))
theorem le_sum_mem {l : List Nat} {x : Nat} (h : x ∈ l) : x ≤ l.sum := by
  induction l with
  | nil => cases h
  | cons y l ih =>
    rw [List.sum_cons]
    rcases List.mem_cons.1 h with rfl | h
    · omega
    · have := ih h; omega
theorem leftT_fit {t : TB} {left : Int} (h1 : left ≤ 1048576) (h : 0 ≤ leftT t left) : t.1.size ≤ 1048576 ∧ t.2.1.length ≤ 1048576 ∧ t.2.2.length ≤ 1048576 ∧ ∀ i (hi : i < t.2.2.length), t.2.2[i].length ≤ 1048576 := by
  unfold leftT at h
  split at h
  · omega
  split at h
  · omega
  split at h
  · omega
  rename_i a b c
  have e1 : leftOfS t.2.1 (left - t.1.size) = left - t.1.size - t.2.1.length - weightS t.2.1 := by
    unfold leftOfS at b ⊢
    split at b
    · omega
    · rw [if_neg (by assumption)]
  rw [e1] at c
  have e2 : ((t.2.2.length : Int) + total t.2.2 ≤ left - t.1.size - t.2.1.length - weightS t.2.1) := by
    unfold leftOfs at c
    split at c
    · omega
    · omega
  refine ⟨by omega, by omega, by omega, ?_⟩
  intro i hi
  have : t.2.2[i].length ≤ total t.2.2 := by
    unfold total
    have hm : (t.2.2[i].length + weight t.2.2[i]) ∈ (t.2.2.map fun l => l.length + weight l) := List.mem_map.2 ⟨_, List.getElem_mem hi, rfl⟩
    have := le_sum_mem hm
    omega
  omega
theorem szstrN (n : Nat) (a : Option Addr) (cap : Nat) (l : List ByteArray) (hn : l.length = n) (left : Int) (w : World) (hrow : StrsAt w a l) (hfit : FitS l) (hm : n ≤ maxLen) (h0 : 0 ≤ left) (h1 : left ≤ 1048576) :
    Calls Try.prog 19 #[.slice a n cap, .int .i64 left] w fun e w' => e = .returned (.int .i64 (leftOfS l left)) ∧ Below w.heap.size w w' := by
  subst hn; exact szstr_laws a cap l left w hrow hfit hm h0 h1
theorem szssN (n : Nat) (a : Option Addr) (cap : Nat) (L : List (List CT)) (hn : L.length = n) (left : Int) (w : World) (hrow : RowsAt w a L) (hm : n ≤ maxLen) (h0 : 0 ≤ left) (h1 : left ≤ 1048576) :
    Calls Try.prog 7 #[.slice a n cap, .int .i64 left] w fun e w' => e = .returned (.int .i64 (leftOfs L left)) ∧ Below w.heap.size w w' := by
  subst hn; exact szss_laws a cap L left w hrow hm h0 h1

set_option maxHeartbeats 2000000 in
theorem sztab_laws (ca : Option Addr) (cc : Nat) (ra : Option Addr) (cr : Nat) (t : TB) (nc nr : Nat) (hnc : t.2.1.length = nc) (hnr : t.2.2.length = nr) (w : World) (ht : TabAt w ca cc ra t) (left : Int) (h0 : 0 ≤ left) (h1 : left ≤ 1048576) :
    Calls Try.prog 14 #[.agg #[.string t.1, .slice ca nc cc, .slice ra nr cr], .int .i64 left] w fun e w' => e = .returned (.int .i64 (leftT t left)) ∧ Below w.heap.size w w' := by
  obtain ⟨nm, C, L⟩ := t
  dsimp only at hnc hnr ⊢
  have HT : Hid (TabAt w ca cc ra (nm, C, L)) := ht
  have HNC : Hid (C.length = nc) := hnc
  have HNR : Hid (L.length = nr) := hnr
  have hncM : nc ≤ maxLen := by rw [← hnc]; exact ht.len
  have hnrM : nr ≤ maxLen := by rw [← hnr]; exact ht.lenR
  have hnm : nm.size ≤ maxLen := ht.name
  unfold maxLen at hnm
  clear ht hnc hnr
  have HTA : Hid (TabAt (w.alloc (.cells #[.string nm, .slice ca nc cc, .slice ra nr cr] 32)) ca cc ra (nm, C, L)) := HT.out.below ((Below.refl _ _).alloc (Nat.le_refl _) _)
  have hxa : Below w.heap.size w (w.alloc (.cells #[.string nm, .slice ca nc cc, .slice ra nr cr] 32)) := (Below.refl _ _).alloc (Nat.le_refl _) _
  obtain ⟨r, hr⟩ : ∃ r, leftT (nm, C, L) left = r := ⟨_, rfl⟩
  rw [hr]
  have HL : Hid (leftT (nm, C, L) left = r) := hr
  clear hr
  by_cases hs : left < (nm.size : Int)
  · have e : r = -1 := by rw [← HL.out]; exact if_pos hs
    subst e
    have hneg : left - (nm.size : Int) < 0 := by omega
    go_enter Try.func14, Try.ntmps14
    go_wp2
    go_ret
    exact ⟨rfl, hxa⟩
  have hpos : 0 ≤ left - (nm.size : Int) := by omega
  obtain ⟨x, hx⟩ : ∃ x, leftOfS C (left - nm.size) = x := ⟨_, rfl⟩
  have hxle : x ≤ 1048576 := by
    rw [← hx]; unfold leftOfS; split <;> omega
  have HX : Hid (leftOfS C (left - nm.size) = x) := hx
  obtain ⟨y, hy⟩ : ∃ y, leftOfs L x = y := ⟨_, rfl⟩
  have HYY : Hid (leftOfs L x = y) := hy
  have HE : Hid (r = if x < 0 then -1 else if y < 0 then -1 else y) := by
    have : r = if x < 0 then -1 else if y < 0 then -1 else y := by
      rw [← HL.out]
      unfold leftT
      rw [if_neg hs]
      dsimp only
      rw [hx, hy]
    exact this
  clear hx hy
  go_enter Try.func14, Try.ntmps14
  go_wp2_with fail
  refine (szstrN nc ca cc C HNC.out _ _ HTA.out.cols HTA.out.fit hncM hpos (by omega)).mono ?_
  rintro e w1 ⟨rfl, hb1⟩
  rw [HX.out]
  obtain ⟨p0, p1, p2, p3⟩ := box3 hb1
  have hx1 := chainA hb1
  have H1 : Hid (TabAt w1 ca cc ra (nm, C, L)) := HTA.out.below hb1
  clear hb1 HTA HT hxa
  by_cases hx0 : x < 0
  · have e : r = -1 := by rw [HE.out, if_pos hx0]
    subst e
    go_wp2
    go_ret
    exact ⟨rfl, hx1⟩
  have hx0' : 0 ≤ x := by omega
  have HE2 : Hid (r = if y < 0 then -1 else y) := by
    have : r = if y < 0 then -1 else y := by rw [HE.out, if_neg hx0]
    exact this
  clear hx0
  go_wp2_with fail
  refine (szssN nr ra cr L HNR.out x _ H1.out.rows hnrM hx0' hxle).mono ?_
  rintro e w2 ⟨rfl, hb2⟩
  rw [HYY.out]
  by_cases hy0 : y < 0
  · have e : r = -1 := by rw [HE2.out, if_pos hy0]
    subst e
    go_wp2
    go_ret
    exact ⟨rfl, chain hx1 hb2⟩
  · have e : r = y := by rw [HE2.out, if_neg hy0]
    subst e
    go_wp2
    go_ret
    exact ⟨rfl, chain hx1 hb2⟩

theorem eqstrN (n : Nat) (a b : Option Addr) (ca cb : Nat) (l : List ByteArray) (hn : l.length = n) (w : World) (ha : StrsAt w a l) (hb : StrsAt w b l) (hm : n ≤ maxLen) :
    Calls Try.prog 23 #[.slice a n ca, .slice b n cb] w fun e w' => e = .returned (.bool true) ∧ Below w.heap.size w w' := by
  subst hn; exact eqstr_laws a b ca cb l w ha hb hm
theorem eqssN (n : Nat) (a b : Option Addr) (ca cb : Nat) (L : List (List CT)) (hn : L.length = n) (w : World) (ha : RowsAt w a L) (hb : RowsAt w b L) (hm : n ≤ maxLen) :
    Calls Try.prog 11 #[.slice a n ca, .slice b n cb] w fun e w' => e = .returned (.bool true) ∧ Below w.heap.size w w' := by
  subst hn; exact eqss_laws a b ca cb L w ha hb hm

set_option maxHeartbeats 2000000 in
theorem eqtab_laws (ca : Option Addr) (cc : Nat) (ra : Option Addr) (cr : Nat) (da : Option Addr) (dc : Nat) (sa : Option Addr) (sc : Nat) (t : TB) (nc nr : Nat) (hnc : t.2.1.length = nc) (hnr : t.2.2.length = nr) (w : World) (ht : TabAt w ca cc ra t) (hu : TabAt w da dc sa t) :
    Calls Try.prog 18 #[.agg #[.string t.1, .slice ca nc cc, .slice ra nr cr], .agg #[.string t.1, .slice da nc dc, .slice sa nr sc]] w fun e w' => e = .returned (.bool true) ∧ Below w.heap.size w w' := by
  obtain ⟨nm, C, L⟩ := t
  dsimp only at hnc hnr ⊢
  have HT : Hid (TabAt w ca cc ra (nm, C, L)) := ht
  have HU : Hid (TabAt w da dc sa (nm, C, L)) := hu
  have HNC : Hid (C.length = nc) := hnc
  have HNR : Hid (L.length = nr) := hnr
  have hncM : nc ≤ maxLen := by rw [← hnc]; exact ht.len
  have hnrM : nr ≤ maxLen := by rw [← hnr]; exact ht.lenR
  have hxx : (nm.toList == nm.toList) = true := by simp
  clear ht hu hnc hnr
  have hA : Below w.heap.size w ((w.alloc (.cells #[.string nm, .slice ca nc cc, .slice ra nr cr] 36)).alloc (.cells #[.string nm, .slice da nc dc, .slice sa nr sc] 36)) := ((Below.refl _ _).alloc (Nat.le_refl _) _).alloc (by simp) _
  go_enter Try.func18, Try.ntmps18
  go_wp2_with fail
  refine (eqstrN nc ca da cc dc C HNC.out _ (HT.out.below hA).cols (HU.out.below hA).cols hncM).mono ?_
  rintro e w1 ⟨rfl, hb1⟩
  obtain ⟨⟨p0, p1, p2, p3⟩, q0, q1, q2, q3⟩ := two3 hb1
  have hx1 := chain hA hb1
  have H1 : Hid (TabAt w1 ca cc ra (nm, C, L)) := HT.out.below hx1
  have H2 : Hid (TabAt w1 da dc sa (nm, C, L)) := HU.out.below hx1
  clear hb1 HT HU hA
  go_wp2_with fail
  refine (eqssN nr ra sa cr sc L HNR.out _ H1.out.rows H2.out.rows hnrM).mono ?_
  rintro e w2 ⟨rfl, hb2⟩
  go_wp2
  go_ret
  exact ⟨rfl, chain hx1 hb2⟩

end Go.Proofs.Ytbjpjhhdnbclbaj
