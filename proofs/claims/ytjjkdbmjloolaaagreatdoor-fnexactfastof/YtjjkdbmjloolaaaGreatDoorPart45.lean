/-
  A part of the proof: SivMark.
-/
import Derived.Test.YtjjkdbmjloolaaaGreatDoorPart1
import Derived.Test.YtjjkdbmjloolaaaGreatDoorPart44

namespace Go.Proofs.YtjjkdbmjloolaaaGreatDoor
open Go.ChangeShapes Go.WideShapes Go.ChangeAt Go.RowKit
attribute [local go_sem ↓] Go.wp_at_zero Go.wp_at_succ
attribute [local simp] World.cell?_alloc_past World.cell?_alloc_at World.frozen?_alloc_at cell_far cell_off cell_here World.frozen?_alloc_past
def sivN (s : SV) : Nat := 5 + s.names.length + 5 * s.sum.length
def offV (T : List SV) (i : Nat) : Nat := ((T.take i).map sivN).sum
theorem offV_step (T : List SV) (i : Nat) (h : i < T.length) : offV T (i + 1) = offV T i + sivN T[i] := by
 unfold offV
 rw [List.take_succ_eq_append_getElem h, List.map_append, List.sum_append]; simp
theorem offV_le (T : List SV) (i : Nat) : offV T i ≤ offV T T.length := by
 unfold offV
 rw [List.take_length]
 conv => rhs; rw [← List.take_append_drop i T, List.map_append, List.sum_append]
 omega
def thirdB (x : Nat) : Bool := x % 3 == 0
theorem third_int (x : Nat) : ((x : Int) % 3 == 0) = thirdB x := by
 unfold thirdB
 rw [Bool.eq_iff_iff]
 simp only [beq_iff_eq]
 omega
def Marks7 (w : World) (g p : Nat) (s : SV) (q : VAd) (k : Nat) : Prop :=
 w.cell? ⟨g, p, none⟩ = some (.int .i64 (k : Int)) ∧ w.cell? ⟨g, p + 1, none⟩ = some (.string (mt (k + 1))) ∧ w.cell? ⟨g, p + 2, none⟩ = some (.slice q.na s.names.length q.nc) ∧ w.cell? ⟨g, p + 3, none⟩ = some (.slice q.sa s.sum.length q.sc) ∧ w.cell? ⟨g, p + 4, none⟩ = some (.bool (thirdB (k + 2 + s.names.length + 5 * s.sum.length))) ∧ w.cell? ⟨g, p + 5, none⟩ = some (.int .i64 ((k + 3 + s.names.length + 5 * s.sum.length : Nat) : Int)) ∧ w.cell? ⟨g, p + 6, none⟩ = some (.int .i64 ((k + 4 + s.names.length + 5 * s.sum.length : Nat) : Int))
theorem Marks7.same {w w' : World} {g p : Nat} {s : SV} {q : VAd} {k : Nat} (h : Marks7 w g p s q k) (hc : ∀ j, j < 7 → w'.cell? ⟨g, p + j, none⟩ = w.cell? ⟨g, p + j, none⟩) : Marks7 w' g p s q k := by
 obtain ⟨h0, h1, h2, h3, h4, h5, h6⟩ := h
 have c0 := hc 0 (by omega)
 rw [Nat.add_zero] at c0
 exact ⟨c0.trans h0, (hc 1 (by omega)).trans h1, (hc 2 (by omega)).trans h2, (hc 3 (by omega)).trans h3, (hc 4 (by omega)).trans h4, (hc 5 (by omega)).trans h5, (hc 6 (by omega)).trans h6⟩
def MarkedV (w : World) (q : VAd) (s : SV) (k : Nat) : Prop := StrsAt w q.na (marksS (k + 2) s.names.length) ∧ ItmAt w q.sa (marksItm (k + 2 + s.names.length) s.sum.length)
theorem MarkedV.keepS {P : Nat → Prop} {w w' : World} {q : VAd} {s : SV} {k : Nat} (h : MarkedV w q s k) (hk : KeepS P w w') (hP : ∀ b, q.blks s b → ¬ P b) : MarkedV w' q s k :=
 ⟨h.1.keepS hk (fun b hb => hP b (.inl (by rw [marksS_length] at hb; exact hb))), h.2.keepS hk (fun b hb => hP b (.inr (by rw [marksItm_length] at hb; exact hb)))⟩
structure MVs (w : World) (base : Nat) (a : Option Addr) (T : List SV) (Q : Nat → VAd) (k m : Nat) : Prop where
 heads : ∀ i (_ : i < T.length), ∃ g o, a = some ⟨g, o, none⟩ ∧ g < w.heap.size ∧ (i < m → Marks7 w g (o + i * 7) T[i] (Q i) (k + offV T i)) ∧ (m ≤ i → Cells7 w g (o + i * 7) T[i] (Q i)) ∧ ∀ j, j < 7 → w.frozen? ⟨g, o + i * 7 + j, none⟩ = false
 marked : ∀ i (_ : i < T.length), i < m → MarkedV w (Q i) T[i] (k + offV T i)
 rest : ∀ i (_ : i < T.length), m ≤ i → OutV w base (Q i) T[i]
theorem OutW.start {w : World} {base : Nat} {a : Option Addr} {T : List SV} {Q : Nat → VAd} (h : OutVs w base a T Q) (k : Nat) : MVs w base a T Q k 0 := by
 refine ⟨fun i hi => ?_, fun i _ h => by omega, fun i hi _ => h.sivs i hi hi⟩
 obtain ⟨g, o, ha, hlt, c, f⟩ := h.heads i hi hi
 exact ⟨g, o, ha, hlt, fun h => by omega, fun _ => c, f⟩
theorem MVs.keepS {P : Nat → Prop} {w w' : World} {base : Nat} {a : Option Addr} {T : List SV} {Q : Nat → VAd} {k : Nat} (h : MVs w base a T Q k T.length) (hk : KeepS P w w') (hP : ∀ b, sivsBlks a T Q b → ¬ P b) : MVs w' base a T Q k T.length := by
 refine ⟨fun i hi => ?_, fun i hi hm => (h.marked i hi hm).keepS hk (fun b hb => hP b (.inr ⟨i, hi, hb⟩)), fun i hi hm => by omega⟩
 obtain ⟨g, o, ha, hlt, c, c', f⟩ := h.heads i hi
 have hn := hP g (.inl ⟨by omega, o, ha⟩)
 exact ⟨g, o, ha, Nat.lt_of_lt_of_le hlt hk.size, fun hm => (c hm).same (fun j _ => hk.cell hlt hn), fun hm => by omega, fun j hj => by rw [hk.frozen hlt hn]; exact f j hj⟩
theorem MVs.below {w w' : World} {base : Nat} {a : Option Addr} {T : List SV} {Q : Nat → VAd} {k : Nat} (h : MVs w base a T Q k T.length) (hb : Below w.heap.size w w') : MVs w' base a T Q k T.length :=
 h.keepS (KeepS.ofBelow (P := fun _ => False) hb) (fun _ _ h => h)
theorem MVs.step {wr w1 w3 w4 : World} {base : Nat} {a : Option Addr} {T : List SV} {Q : Nat → VAd} {k m g o : Nat} (h : MVs wr base a T Q k m) (hm : m < T.length) (ha : a = some ⟨g, o, none⟩)
  (hap : ∀ i j (_ : i < T.length) (_ : j < T.length) b, i ≠ j → (Q i).blks T[i] b → ¬ (Q j).blks T[j] b) (hhd : ∀ i (_ : i < T.length), ¬ (Q i).blks T[i] g)
  (hb : Below wr.heap.size (wr.setCell ⟨g, o + m * 7, none⟩ (.int .i64 ((k + offV T m : Nat) : Int))) w1)
  (K1 : KeepS (inBlk (Q m).na T[m].names.length) (w1.setCell ⟨g, o + m * 7 + 1, none⟩ (.string (mt (k + offV T m + 1)))) w3) (S1 : StrsAt w3 (Q m).na (marksS (k + offV T m + 2) T[m].names.length))
  (K2 : KeepS (inBlk (Q m).sa T[m].sum.length) w3 w4) (S2 : ItmAt w4 (Q m).sa (marksItm (k + offV T m + 2 + T[m].names.length) T[m].sum.length)) (w5 : World)
  (h5 : w5 = ((w4.setCell ⟨g, o + m * 7 + 4, none⟩ (.bool (thirdB (k + offV T m + 2 + T[m].names.length + 5 * T[m].sum.length)))).setCell ⟨g, o + m * 7 + 5, none⟩ (.int .i64 ((k + offV T m + 3 + T[m].names.length + 5 * T[m].sum.length : Nat) : Int))).setCell ⟨g, o + m * 7 + 6, none⟩ (.int .i64 ((k + offV T m + 4 + T[m].names.length + 5 * T[m].sum.length : Nat) : Int))) :
  MVs w5 base a T Q k (m + 1) ∧ KeepS (sivsBlks a T Q) wr w5 := by
 subst ha
 have hgm : ¬ (Q m).blks T[m] g := hhd m hm
 have hg1 : ¬ inBlk (Q m).na T[m].names.length g := fun hb => hgm (.inl hb)
 have hg2 : ¬ inBlk (Q m).sa T[m].sum.length g := fun hb => hgm (.inr hb)
 have hgw : g < wr.heap.size := by obtain ⟨g', o', e, hlt, _⟩ := h.heads m hm; cases e; exact hlt
 have hA : KeepS (fun b => b = g) wr (wr.setCell ⟨g, o + m * 7, none⟩ (.int .i64 ((k + offV T m : Nat) : Int))) := (KeepS.refl (fun b => b = g) wr).setCell (p := ⟨g, o + m * 7, none⟩) rfl _
 have hbs : Below (wr.setCell ⟨g, o + m * 7, none⟩ (.int .i64 ((k + offV T m : Nat) : Int))).heap.size (wr.setCell ⟨g, o + m * 7, none⟩ (.int .i64 ((k + offV T m : Nat) : Int))) w1 := by
  rw [World.size_setCell]; exact hb
 have hgA : g < (wr.setCell ⟨g, o + m * 7, none⟩ (.int .i64 ((k + offV T m : Nat) : Int))).heap.size := by rw [World.size_setCell]; exact hgw
 have hgw1 : g < w1.heap.size := Nat.lt_of_lt_of_le hgA hbs.size
 have K0 : KeepS (fun b => b = g) w1 (w1.setCell ⟨g, o + m * 7 + 1, none⟩ (.string (mt (k + offV T m + 1)))) := (KeepS.refl (fun b => b = g) w1).setCell (p := ⟨g, o + m * 7 + 1, none⟩) rfl _
 have K5 : KeepS (fun b => b = g) w4 w5 := by
  rw [h5]
  exact (((KeepS.refl (fun b => b = g) w4).setCell (p := ⟨g, o + m * 7 + 4, none⟩) rfl _).setCell (p := ⟨g, o + m * 7 + 5, none⟩) rfl _).setCell (p := ⟨g, o + m * 7 + 6, none⟩) rfl _
 have KK : KeepS (fun b => b = g ∨ inBlk (Q m).na T[m].names.length b ∨ inBlk (Q m).sa T[m].sum.length b) wr w5 :=
  (((((hA.mono fun b hb => .inl hb).trans (KeepS.ofBelow hbs)).trans (K0.mono fun b hb => .inl hb)).trans (K1.mono fun b hb => .inr (.inl hb))).trans (K2.mono fun b hb => .inr (.inr hb))).trans (K5.mono fun b hb => .inl hb)
 have hgW : g < (w1.setCell ⟨g, o + m * 7 + 1, none⟩ (.string (mt (k + offV T m + 1)))).heap.size := Nat.lt_of_lt_of_le hgw1 K0.size
 have hg3 : g < w3.heap.size := Nat.lt_of_lt_of_le hgW K1.size
 have hg4 : g < w4.heap.size := Nat.lt_of_lt_of_le hg3 K2.size
 -- the cells of the heads' block
 have cel4 : ∀ p, w4.cell? ⟨g, p, none⟩ = (w1.setCell ⟨g, o + m * 7 + 1, none⟩ (.string (mt (k + offV T m + 1)))).cell? ⟨g, p, none⟩ := fun p => by
  rw [K2.cell hg3 hg2, K1.cell hgW hg1]
 have cel1 : ∀ p, w1.cell? ⟨g, p, none⟩ = (wr.setCell ⟨g, o + m * 7, none⟩ (.int .i64 ((k + offV T m : Nat) : Int))).cell? ⟨g, p, none⟩ := fun p => hbs.cell (p := ⟨g, p, none⟩) hgA
 have celo : ∀ p, p ≠ o + m * 7 → p ≠ o + m * 7 + 1 → p ≠ o + m * 7 + 4 → p ≠ o + m * 7 + 5 → p ≠ o + m * 7 + 6 → w5.cell? ⟨g, p, none⟩ = wr.cell? ⟨g, p, none⟩ := fun p n0 n1 n4 n5 n6 => by
  rw [h5, cell_off _ _ _ _ _ n6, cell_off _ _ _ _ _ n5, cell_off _ _ _ _ _ n4, cel4, cell_off _ _ _ _ _ n1, cel1, cell_off _ _ _ _ _ n0]
 have fro : ∀ p, w5.frozen? ⟨g, p, none⟩ = wr.frozen? ⟨g, p, none⟩ := fun p => by
  rw [h5, World.frozen?_setCell, World.frozen?_setCell, World.frozen?_setCell, K2.frozen hg3 hg2, K1.frozen hgW hg1, World.frozen?_setCell, hbs.frozen (p := ⟨g, p, none⟩) hgA, World.frozen?_setCell]
 have away : ∀ i (hi : i < T.length) b, i ≠ m → (Q i).blks T[i] b → ¬ (b = g ∨ inBlk (Q m).na T[m].names.length b ∨ inBlk (Q m).sa T[m].sum.length b) := by
  intro i hi b hne hbi hb3
  rcases hb3 with rfl | hb3 | hb3
  · exact hhd i hi hbi
  · exact hap i m hi hm b hne hbi (.inl hb3)
  · exact hap i m hi hm b hne hbi (.inr hb3)
 have hO := h.rest m hm (Nat.le_refl _)
 refine ⟨⟨?_, ?_, ?_⟩, ?_⟩
 · intro i hi
  obtain ⟨g', o', e, hlt, d, d', f⟩ := h.heads i hi
  cases e
  refine ⟨g, o, rfl, Nat.lt_of_lt_of_le hg4 K5.size, ?_, ?_, fun j hj => by rw [fro]; exact f j hj⟩
  · intro hlt
   by_cases ei : i = m
   · subst ei
    obtain ⟨c0, c1, c2, c3, c4, c5, c6⟩ := d' (Nat.le_refl _)
    have e0 : w1.cell? ⟨g, o + i * 7, none⟩ = some (.int .i64 ((k + offV T i : Nat) : Int)) := by
     rw [cel1, cell_here _ _ _ _ (by rw [c0]; rfl)]
    have e1 : w1.cell? ⟨g, o + i * 7 + 1, none⟩ = some (.string T[i].name) := by rw [cel1, cell_off _ _ _ _ _ (by omega)]; exact c1
    have g4 : w4.cell? ⟨g, o + i * 7 + 4, none⟩ = some (.bool T[i].down) := by rw [cel4, cell_off _ _ _ _ _ (by omega), cel1, cell_off _ _ _ _ _ (by omega)]; exact c4
    have g5 : w4.cell? ⟨g, o + i * 7 + 5, none⟩ = some (.int .i64 T[i].count) := by rw [cel4, cell_off _ _ _ _ _ (by omega), cel1, cell_off _ _ _ _ _ (by omega)]; exact c5
    have g6 : w4.cell? ⟨g, o + i * 7 + 6, none⟩ = some (.int .i64 T[i].skip) := by rw [cel4, cell_off _ _ _ _ _ (by omega), cel1, cell_off _ _ _ _ _ (by omega)]; exact c6
    refine ⟨?_, ?_, ?_, ?_, ?_, ?_, ?_⟩
    · rw [h5, cell_off _ _ _ _ _ (by omega), cell_off _ _ _ _ _ (by omega), cell_off _ _ _ _ _ (by omega), cel4, cell_off _ _ _ _ _ (by omega)]; exact e0
    · rw [h5, cell_off _ _ _ _ _ (by omega), cell_off _ _ _ _ _ (by omega), cell_off _ _ _ _ _ (by omega), cel4, cell_here _ _ _ _ (by rw [e1]; rfl)]
    · rw [celo _ (by omega) (by omega) (by omega) (by omega) (by omega)]; exact c2
    · rw [celo _ (by omega) (by omega) (by omega) (by omega) (by omega)]; exact c3
    · rw [h5, cell_off _ _ _ _ _ (by omega), cell_off _ _ _ _ _ (by omega), cell_here _ _ _ _ (by rw [g4]; rfl)]
    · rw [h5, cell_off _ _ _ _ _ (by omega), cell_here _ _ _ _ (by rw [cell_off _ _ _ _ _ (by omega), g5]; rfl)]
    · rw [h5, cell_here _ _ _ _ (by rw [cell_off _ _ _ _ _ (by omega), cell_off _ _ _ _ _ (by omega), g6]; rfl)]
   · exact (d (by omega)).same (fun j hj => celo _ (by omega) (by omega) (by omega) (by omega) (by omega))
  · intro hle
   exact (d' (by omega)).same (fun j hj => celo _ (by omega) (by omega) (by omega) (by omega) (by omega))
 · intro i hi hlt
  by_cases ei : i = m
  · subst ei
   refine MarkedV.keepS ⟨S1.keepS K2 (fun b hb hb2 => hO.ap b (by rw [marksS_length] at hb; exact hb) hb2), S2⟩ K5 (fun b hb e => hgm (by rw [← e]; exact hb))
  · exact (h.marked i hi (by omega)).keepS KK (fun b hb => away i hi b ei hb)
 · intro i hi hle
  exact (h.rest i hi (by omega)).keepS KK (fun b hb => away i hi b (by omega) hb)
 · refine KK.mono fun b hb => ?_
  rcases hb with rfl | hb | hb
  · exact .inl ⟨by omega, o, rfl⟩
  · exact .inr ⟨m, hm, .inl hb⟩
  · exact .inr ⟨m, hm, .inr hb⟩
theorem textI (k : Nat) (z : Int) (hz : z = (k : Int)) (w : World) (h0 : 0 < k) (h1 : k ≤ 1099511627776) : Calls Tryz.prog 27 #[.int .i64 z] w fun e w' => e = .returned (.string (mt k)) ∧ Below w.heap.size w w' := by
 subst hz; exact text_laws k w h0 h1
theorem markstrV (n : Nat) (a : Option Addr) (cap : Nat) (l : List ByteArray) (hn : l.length = n) (k r : Nat) (z : Int) (hz : z = (k : Int)) (hr : k + n = r) (w : World) (hrow : StrsAt w a l) (hfree : FreeS w a l.length) (h0 : 0 < k) (h1 : k + n ≤ 1099511627776) :
  Calls Tryz.prog 13 #[.slice a n cap, .int .i64 z] w fun e w' => e = .returned (.int .i64 (r : Int)) ∧ StrsAt w' a (marksS k n) ∧ KeepS (inBlk a n) w w' := by
 subst hz hr hn
 refine (markstr_laws a cap l k w hrow hfree h0 h1).mono ?_
 rintro e w' ⟨he, h1, _, h3⟩
 exact ⟨he, h1, h3⟩
theorem markitmV (n : Nat) (a : Option Addr) (cap : Nat) (l : List TI) (hn : l.length = n) (k r : Nat) (hr : k + 5 * n = r) (w : World) (hrow : ItmAt w a l) (hfree : FreeItm w a l.length) (h0 : 0 < k) (h1 : k + 5 * n ≤ 1099511627776) :
  Calls Tryz.prog 28 #[.slice a n cap, .int .i64 k] w fun e w' => e = .returned (.int .i64 (r : Int)) ∧ ItmAt w' a (marksItm k n) ∧ KeepS (inBlk a n) w w' := by
 subst hr hn
 refine (markItm_laws a cap l k w hrow hfree h0 h1).mono ?_
 rintro e w' ⟨he, h1, _, h3⟩
 exact ⟨he, h1, h3⟩
set_option maxRecDepth 100000 in
set_option maxHeartbeats 4000000 in
theorem marksivs_laws (a : Option Addr) (cap : Nat) (T : List SV) (n : Nat) (hn : T.length = n) (Q : Nat → VAd) (base k r : Nat) (hr : k + offV T T.length = r) (w : World) (hO : OutVs w base a T Q) (h0 : 0 < k) (h1 : r ≤ 1099511627776) (hm : n ≤ maxLen) :
  Calls Tryz.prog 14 #[.slice a n cap, .int .i64 k] w fun e w' => e = .returned (.int .i64 (r : Int)) ∧ MVs w' base a T Q k T.length ∧ KeepS (sivsBlks a T Q) w w' := by
 have HN := hid hn
 have HRR := hid hr
 have HM0 : Hid (MVs w base a T Q k 0) := hO.start k
 have HAP : Hid (∀ i j (_ : i < T.length) (_ : j < T.length) b, i ≠ j → (Q i).blks T[i] b → ¬ (Q j).blks T[j] b) := by
  have : ∀ i j (_ : i < T.length) (_ : j < T.length) b, i ≠ j → (Q i).blks T[i] b → ¬ (Q j).blks T[j] b := fun i j hi hj b => hO.apart i j hi hj b hi hj
  exact this
 have HHD : Hid (∀ i (_ : i < T.length) g o, a = some ⟨g, o, none⟩ → ¬ (Q i).blks T[i] g) := by
  have : ∀ i (_ : i < T.length) g o, a = some ⟨g, o, none⟩ → ¬ (Q i).blks T[i] g := fun i hi g o => hO.head i hi g o hi
  exact this
 clear hn hr hO
 unfold maxLen at hm
 go_enter Tryz.func14, Tryz.ntmps14
 go_wp2
 go_loopw [1, 5] (fun s i wr => ∃ m x : Nat, m ≤ n ∧ i = .int .i64 m ∧ s = .int .i64 x ∧ Hid (k + offV T m = x) ∧ Hid (MVs wr base a T Q k m) ∧ KeepS (sivsBlks a T Q) w wr)
  (fun _ i _ => n - (intOf i).toNat)
 case atStart => exact ⟨0, k, Nat.zero_le _, rfl, rfl, show k + offV T 0 = k by simp [offV], HM0, KeepS.refl _ _⟩
 case round =>
  obtain ⟨m, x, hmL, rfl, rfl, HX, hMT, hkp⟩ := hrel
  by_cases hlt : m < n
  · have hlt' : Hid (m < T.length) := by have := HN.out; exact show m < T.length by omega
   obtain ⟨g, o, ha, hgw, _, c, f⟩ := hMT.out.heads m hlt'.out
   replace c := c (Nat.le_refl _)
   have HOQ : Hid (OutV wr base (Q m) (T[m]'hlt'.out)) := hMT.out.rest m hlt'.out (Nat.le_refl _)
   have hst := offV_step T m hlt'.out
   have hle := offV_le T (m + 1)
   have hx0 : 0 < x := by have := HX.out; omega
   have hgb : Hid (¬ (Q m).blks (T[m]'hlt'.out) g) := HHD.out m hlt'.out g o ha
   obtain ⟨t, ht⟩ : ∃ t, (T[m]'hlt'.out) = t := ⟨_, rfl⟩
   obtain ⟨q, hq⟩ : ∃ q, Q m = q := ⟨_, rfl⟩
   have HST : Hid (∀ w1 w3 w4, Below wr.heap.size (wr.setCell ⟨g, o + m * 7, none⟩ (.int .i64 ((x : Nat) : Int))) w1 → KeepS (inBlk q.na t.names.length) (w1.setCell ⟨g, o + m * 7 + 1, none⟩ (.string (mt (x + 1)))) w3 → StrsAt w3 q.na (marksS (x + 2) t.names.length) → KeepS (inBlk q.sa t.sum.length) w3 w4 → ItmAt w4 q.sa (marksItm (x + 2 + t.names.length) t.sum.length) → ∀ w5, w5 = ((w4.setCell ⟨g, o + m * 7 + 4, none⟩ (.bool (thirdB (x + 2 + t.names.length + 5 * t.sum.length)))).setCell ⟨g, o + m * 7 + 5, none⟩ (.int .i64 ((x + 3 + t.names.length + 5 * t.sum.length : Nat) : Int))).setCell ⟨g, o + m * 7 + 6, none⟩ (.int .i64 ((x + 4 + t.names.length + 5 * t.sum.length : Nat) : Int)) → MVs w5 base a T Q k (m + 1) ∧ KeepS (sivsBlks a T Q) wr w5) := by
    have e := HX.out
    subst ht hq e
    exact fun w1 w3 w4 hb K1 S1 K2 S2 w5 h5 => MVs.step hMT.out hlt'.out ha HAP.out (fun i hi => HHD.out i hi g o ha) hb K1 S1 K2 S2 w5 h5
   rw [ht, hq] at c HOQ hgb
   rw [ht] at hst
   obtain ⟨kd, nm, N, S, dn, ct, sk⟩ := t
   obtain ⟨na, nc, sa, sc⟩ := q
   dsimp only at HST
   obtain ⟨c0, c1, c2, c3, c4, c5, c6⟩ := c
   dsimp only at c0 c1 c2 c3 c4 c5 c6
   obtain ⟨nn, hnn⟩ : ∃ z, N.length = z := ⟨_, rfl⟩
   obtain ⟨sn, hsn⟩ : ∃ z, S.length = z := ⟨_, rfl⟩
   rw [hnn] at c2
   rw [hsn] at c3
   have HNC := hid hnn
   have HSC := hid hsn
   obtain ⟨y, hy⟩ : ∃ y, x + 5 + nn + 5 * sn = y := ⟨_, rfl⟩
   have hyr : y ≤ 1099511627776 ∧ Hid (k + offV T (m + 1) = y) := by
    have e := HX.out
    have e2 : k + offV T (m + 1) = y := by rw [hst]; unfold sivN; dsimp only; rw [hnn, hsn]; omega
    exact ⟨by have := HRR.out; omega, e2⟩
   obtain ⟨hy1, HY⟩ := hyr
   have HST2 : Hid (∀ w1 w3 w4, Below wr.heap.size (wr.setCell ⟨g, o + m * 7, none⟩ (.int .i64 ((x : Nat) : Int))) w1 → KeepS (inBlk na nn) (w1.setCell ⟨g, o + m * 7 + 1, none⟩ (.string (mt (x + 1)))) w3 → StrsAt w3 na (marksS (x + 2) nn) → KeepS (inBlk sa sn) w3 w4 → ItmAt w4 sa (marksItm (x + 2 + nn) sn) → ∀ w5, w5 = ((w4.setCell ⟨g, o + m * 7 + 4, none⟩ (.bool (thirdB (x + 2 + nn + 5 * sn)))).setCell ⟨g, o + m * 7 + 5, none⟩ (.int .i64 ((x + 3 + nn + 5 * sn : Nat) : Int))).setCell ⟨g, o + m * 7 + 6, none⟩ (.int .i64 ((x + 4 + nn + 5 * sn : Nat) : Int)) → MVs w5 base a T Q k (m + 1) ∧ KeepS (sivsBlks a T Q) wr w5) := by
    have h := HST.out
    rw [hnn, hsn] at h
    exact h
   clear hst hle hnn hsn ht hq HST hMT
   subst ha
   have hi0 : (0 : Int) ≤ (m : Int) := by omega
   have hi1 : (m : Int) < (n : Int) := by omega
   have f0 := f 0 (by omega)
   rw [Nat.add_zero] at f0
   have f1 := f 1 (by omega)
   have f4 := f 4 (by omega)
   have f5 := f 5 (by omega)
   have f6 := f 6 (by omega)
   clear f
   go_wp2_with fail
   refine (textI (x + 1) _ (by omega) _ (by omega) (by omega)).mono ?_
   rintro e w1 ⟨rfl, hb1⟩
   have hgA : g < (wr.setCell ⟨g, o + m * 7, none⟩ (.int .i64 (x : Int))).heap.size := by rw [World.size_setCell]; exact hgw
   have cel : ∀ p, p ≠ o + m * 7 → w1.cell? ⟨g, p, none⟩ = wr.cell? ⟨g, p, none⟩ := fun p hp => (hb1.cell (p := ⟨g, p, none⟩) hgA).trans (cell_off _ _ _ _ _ hp)
   have fro : ∀ p, w1.frozen? ⟨g, p, none⟩ = wr.frozen? ⟨g, p, none⟩ := fun p => (hb1.frozen (p := ⟨g, p, none⟩) hgA).trans (World.frozen?_setCell ..)
   have d1 := (cel _ (by omega)).trans c1
   have d2 := (cel _ (by omega)).trans c2
   have d3 := (cel _ (by omega)).trans c3
   have d4 := (cel _ (by omega)).trans c4
   have d5 := (cel _ (by omega)).trans c5
   have d6 := (cel _ (by omega)).trans c6
   have e1 := (fro _).trans f1
   have e4 := (fro _).trans f4
   have e5 := (fro _).trans f5
   have e6 := (fro _).trans f6
   have hgw1 : g < w1.heap.size := Nat.lt_of_lt_of_le hgA hb1.size
   have HB1 : Hid (Below wr.heap.size (wr.setCell ⟨g, o + m * 7, none⟩ (.int .i64 (x : Int))) w1) := by
    have h := hb1
    rw [World.size_setCell] at h
    exact h
   have OQ1 : Hid (OutV w1 base ⟨na, nc, sa, sc⟩ ⟨kd, nm, N, S, dn, ct, sk⟩) := by
    have KA : KeepS (fun b => b = g) wr (wr.setCell ⟨g, o + m * 7, none⟩ (.int .i64 (x : Int))) := (KeepS.refl (fun b => b = g) wr).setCell (p := ⟨g, o + m * 7, none⟩) rfl _
    have h : OutV w1 base ⟨na, nc, sa, sc⟩ ⟨kd, nm, N, S, dn, ct, sk⟩ := (HOQ.out.keepS KA (fun b hb e => hgb.out (by rw [← e]; exact hb))).below hb1
    exact h
   clear hb1 cel fro c0 c1 c2 c3 c4 c5 c6 f0 f1 f4 f5 f6 HOQ hgA
   obtain ⟨W, hW⟩ : ∃ W, W = w1.setCell ⟨g, o + m * 7 + 1, none⟩ (.string (mt (x + 1))) := ⟨_, rfl⟩
   have K0 : KeepS (fun b => b = g) w1 W := by rw [hW]; exact (KeepS.refl (fun b => b = g) w1).setCell (p := ⟨g, o + m * 7 + 1, none⟩) rfl _
   have OQ2 := hid (p := OutV W base ⟨na, nc, sa, sc⟩ ⟨kd, nm, N, S, dn, ct, sk⟩) (OQ1.out.keepS K0 (fun b hb e => hgb.out (by rw [← e]; exact hb)))
   have g2 : W.cell? ⟨g, o + m * 7 + 2, none⟩ = some (.slice na nn nc) := by rw [hW, cell_off _ _ _ _ _ (by omega)]; exact d2
   have g3 : W.cell? ⟨g, o + m * 7 + 3, none⟩ = some (.slice sa sn sc) := by rw [hW, cell_off _ _ _ _ _ (by omega)]; exact d3
   have g4 : W.cell? ⟨g, o + m * 7 + 4, none⟩ = some (.bool dn) := by rw [hW, cell_off _ _ _ _ _ (by omega)]; exact d4
   have g5 : W.cell? ⟨g, o + m * 7 + 5, none⟩ = some (.int .i64 ct) := by rw [hW, cell_off _ _ _ _ _ (by omega)]; exact d5
   have g6 : W.cell? ⟨g, o + m * 7 + 6, none⟩ = some (.int .i64 sk) := by rw [hW, cell_off _ _ _ _ _ (by omega)]; exact d6
   have i4 : W.frozen? ⟨g, o + m * 7 + 4, none⟩ = false := by rw [hW, World.frozen?_setCell]; exact e4
   have i5 : W.frozen? ⟨g, o + m * 7 + 5, none⟩ = false := by rw [hW, World.frozen?_setCell]; exact e5
   have i6 : W.frozen? ⟨g, o + m * 7 + 6, none⟩ = false := by rw [hW, World.frozen?_setCell]; exact e6
   have hgW : g < W.heap.size := Nat.lt_of_lt_of_le hgw1 K0.size
   have HST3 : Hid (∀ w3 w4, KeepS (inBlk na nn) W w3 → StrsAt w3 na (marksS (x + 2) nn) → KeepS (inBlk sa sn) w3 w4 → ItmAt w4 sa (marksItm (x + 2 + nn) sn) → ∀ w5, w5 = ((w4.setCell ⟨g, o + m * 7 + 4, none⟩ (.bool (thirdB (x + 2 + nn + 5 * sn)))).setCell ⟨g, o + m * 7 + 5, none⟩ (.int .i64 ((x + 3 + nn + 5 * sn : Nat) : Int))).setCell ⟨g, o + m * 7 + 6, none⟩ (.int .i64 ((x + 4 + nn + 5 * sn : Nat) : Int)) → MVs w5 base (some ⟨g, o, none⟩) T Q k (m + 1) ∧ KeepS (sivsBlks (some ⟨g, o, none⟩) T Q) wr w5) := by
    have h := HST2.out w1
    rw [← hW] at h
    exact fun w3 w4 => h w3 w4 HB1.out
   clear HST2 OQ1 d3 d4 d5 d6 e4 e5 e6
   go_wp2_with fail
   rw [← hW]
   clear hW d1 d2 e1 HB1 K0
   have HNA := hid (p := ¬ inBlk na nn g) (fun hb => hgb.out (.inl (by rw [HNC.out]; exact hb)))
   have HSA := hid (p := ¬ inBlk sa sn g) (fun hb => hgb.out (.inr (by rw [HSC.out]; exact hb)))
   refine (markstrV nn na nc N HNC.out (x + 2) (x + 2 + nn) ((x : Int) + 1 + 1) (by omega) rfl _ OQ2.out.siv.names OQ2.out.freeN (by omega) (by omega)).mono ?_
   rintro e w3 ⟨rfl, S1, K1⟩
   have hg3 : g < w3.heap.size := Nat.lt_of_lt_of_le hgW K1.size
   have j3 := (K1.cell (o := o + m * 7 + 3) hgW HNA.out).trans g3
   have j4 := (K1.cell (o := o + m * 7 + 4) hgW HNA.out).trans g4
   have j5 := (K1.cell (o := o + m * 7 + 5) hgW HNA.out).trans g5
   have j6 := (K1.cell (o := o + m * 7 + 6) hgW HNA.out).trans g6
   have k4 := (K1.frozen (o := o + m * 7 + 4) hgW HNA.out).trans i4
   have k5 := (K1.frozen (o := o + m * 7 + 5) hgW HNA.out).trans i5
   have k6 := (K1.frozen (o := o + m * 7 + 6) hgW HNA.out).trans i6
   have OI : Hid (ItmAt w3 sa S ∧ FreeItm w3 sa S.length) := by
    have hap : ∀ b, inBlk sa S.length b → ¬ inBlk na nn b := fun b hb hb2 => OQ2.out.ap b (by dsimp only; rw [HNC.out]; exact hb2) hb
    have h1 : ItmAt w3 sa S := OQ2.out.siv.sum.keepS K1 hap
    have h2 : FreeItm w3 sa S.length := by
     intro b o' e j hj
     have hb : inBlk sa S.length b := ⟨by omega, o', e⟩
     rw [K1.frozen (OQ2.out.lt b (.inr hb)) (hap b hb)]
     exact OQ2.out.freeI b o' e j hj
    exact ⟨h1, h2⟩
   have HST4 : Hid (∀ w4, KeepS (inBlk sa sn) w3 w4 → ItmAt w4 sa (marksItm (x + 2 + nn) sn) → ∀ w5, w5 = ((w4.setCell ⟨g, o + m * 7 + 4, none⟩ (.bool (thirdB (x + 2 + nn + 5 * sn)))).setCell ⟨g, o + m * 7 + 5, none⟩ (.int .i64 ((x + 3 + nn + 5 * sn : Nat) : Int))).setCell ⟨g, o + m * 7 + 6, none⟩ (.int .i64 ((x + 4 + nn + 5 * sn : Nat) : Int)) → MVs w5 base (some ⟨g, o, none⟩) T Q k (m + 1) ∧ KeepS (sivsBlks (some ⟨g, o, none⟩) T Q) wr w5) := by
    have h := HST3.out w3
    exact fun w4 => h w4 K1 S1
   clear g2 g3 g4 g5 g6 i4 i5 i6 OQ2 K1 S1 HST3 hgW
   obtain ⟨x2, hx2⟩ : ∃ z, x + 2 + nn = z := ⟨_, rfl⟩
   have HX2 := hid hx2
   rw [hx2]
   have hxx : 0 < x2 ∧ x2 + 5 * sn ≤ 1099511627776 := by omega
   obtain ⟨hxx0, hxx1⟩ := hxx
   clear hx2
   go_wp2_with fail
   refine (markitmV sn sa sc S HSC.out x2 (x2 + 5 * sn) rfl _ OI.out.1 OI.out.2 hxx0 hxx1).mono ?_
   rintro e w4 ⟨rfl, S2, K2⟩
   have l4 := (K2.cell (o := o + m * 7 + 4) hg3 HSA.out).trans j4
   have l5 := (K2.cell (o := o + m * 7 + 5) hg3 HSA.out).trans j5
   have l6 := (K2.cell (o := o + m * 7 + 6) hg3 HSA.out).trans j6
   have m4 := (K2.frozen (o := o + m * 7 + 4) hg3 HSA.out).trans k4
   have m5 := (K2.frozen (o := o + m * 7 + 5) hg3 HSA.out).trans k5
   have m6 := (K2.frozen (o := o + m * 7 + 6) hg3 HSA.out).trans k6
   obtain ⟨x3, hx3⟩ : ∃ z, x2 + 5 * sn = z := ⟨_, rfl⟩
   rw [hx3] at hxx1 ⊢
   have hx3n : x3 + 3 ≤ 1099511627776 + 3 := by omega
   have HST5 : Hid (∀ w5, w5 = ((w4.setCell ⟨g, o + m * 7 + 4, none⟩ (.bool (thirdB x3))).setCell ⟨g, o + m * 7 + 5, none⟩ (.int .i64 ((x3 + 1 : Nat) : Int))).setCell ⟨g, o + m * 7 + 6, none⟩ (.int .i64 ((x3 + 2 : Nat) : Int)) → MVs w5 base (some ⟨g, o, none⟩) T Q k (m + 1) ∧ KeepS (sivsBlks (some ⟨g, o, none⟩) T Q) wr w5) := by
    have e2 := HX2.out
    have h := HST4.out w4 K2 (by rw [e2]; exact S2)
    rw [show x + 2 + nn + 5 * sn = x3 by omega, show x + 3 + nn + 5 * sn = x3 + 1 by omega, show x + 4 + nn + 5 * sn = x3 + 2 by omega] at h
    exact h
   have HY3 : Hid (x3 + 3 = y) := by
    have e2 := HX2.out
    have h : x3 + 3 = y := by omega
    exact h
   clear j3 j4 j5 j6 k4 k5 k6 K2 S2 HST4 hx3 HX2 hy OI hgb
   go_wp2
   go_roundw
   case rel =>
    have hh := HST5.out _ rfl
    rw [← third_int] at hh
    exact ⟨m + 1, y, by omega, by go_num, by rw [← HY3.out]; go_num, HY, hh.1, hkp.trans hh.2⟩
   case measure => simp [intOf]; omega
  · have hkl : m = n := by omega
   subst hkl
   have hnn : ¬ (m : Int) < (m : Int) := by omega
   have e : x = r := by have := HX.out; have := HRR.out; have := HN.out; subst this; omega
   subst e
   have hfin : Hid (MVs wr base a T Q k T.length) := by
    have h := hMT.out
    rw [← HN.out] at h
    exact h
   go_wp2
   go_ret
   exact ⟨rfl, hfin.out, hkp⟩
end Go.Proofs.YtjjkdbmjloolaaaGreatDoor
