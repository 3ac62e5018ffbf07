/-
  A part of the proof: Lists4, Lists5, Lists6, Lists7, Itm2, SumDraw2, DepMath, SumS, Box5, Names2.
-/
import Derived.Test.YthgbjnchhaoceaaDoorPart5
import Derived.Laws.IdiomStrings
import Derived.Laws.Concat
import Derived.Test.YthgbjnchhaoceaaDoorPart7
import Derived.Test.YthgbjnchhaoceaaDoorPart1
import Derived.Test.YthgbjnchhaoceaaDoorPart3

/-
  Lists of lists of cells: how they lie in memory, and the contracts of the law's helpers that measure them and hold two of them against each other.
-/
namespace Go.Proofs.YthgbjnchhaoceaaDoor
open Go.ChangeShapes Go.WideShapes Go.ChangeAt Go.RowKit
attribute [local go_sem ↓] Go.wp_at_zero Go.wp_at_succ

/-- The lists of a slice of slices lie where it says. -/
def RowsAt (w : World) (a : Option Addr) (L : List (List CT)) : Prop :=
  ∀ i (h : i < L.length), ∃ b o ai ci, a = some ⟨b, o, none⟩ ∧ b < w.heap.size ∧ w.cell? ⟨b, o + i, none⟩ = some (.slice ai L[i].length ci) ∧ RowAt w ai L[i] ∧ Fit L[i] ∧ L[i].length ≤ maxLen ∧ (ai = none → ci = 0)
theorem RowsAt.below {w w' : World} {a : Option Addr} {L : List (List CT)} (h : RowsAt w a L) (hb : Below w.heap.size w w') : RowsAt w' a L := by
  intro i hi
  obtain ⟨b, o, ai, ci, ha, hlt, h0, h1, h2⟩ := h i hi
  refine ⟨b, o, ai, ci, ha, Nat.lt_of_lt_of_le hlt hb.size, ?_, h1.below hb, h2⟩
  rw [hb.cell (p := ⟨b, _, none⟩) hlt]; exact h0
/-- How much a list of lists takes of a measure. -/
def total (L : List (List CT)) : Nat := (L.map fun l => l.length + weight l).sum
theorem total_take (L : List (List CT)) (k : Nat) (h : k < L.length) : total (L.take (k + 1)) = total (L.take k) + ((L[k]).length + weight L[k]) := by
  unfold total
  rw [List.take_succ_eq_append_getElem h, List.map_append, List.sum_append]; simp
theorem total_le (L : List (List CT)) (k : Nat) : total (L.take k) ≤ total L := by
  unfold total
  conv => rhs; rw [← List.take_append_drop k L, List.map_append, List.sum_append]
  omega

end Go.Proofs.YthgbjnchhaoceaaDoor

/-
  The text that the law's helper writes to mark a cell: what it is hangs on its number alone.
-/
namespace Go.Proofs.YthgbjnchhaoceaaDoor
open Go.ChangeShapes Go.WideShapes Go.ChangeAt Go.RowKit
attribute [local go_sem ↓] Go.wp_at_zero Go.wp_at_succ

/-- The last digit of k, as a byte. -/
def dig (k : Nat) : UInt8 := UInt8.ofNat (48 + k % 10)
theorem dig_nat (k : Nat) : (dig k).toNat = 48 + k % 10 := by unfold dig; rw [UInt8.toNat_ofNat']; omega
/-- The digits of k ahead of what is there. -/
def digs : Nat → Nat → ByteArray → ByteArray
  | 0, _, out => out
  | f + 1, k, out => if k = 0 then out else digs f (k / 10) (⟨#[dig k]⟩ ++ out)
/-- The text that marks k. -/
def mt (k : Nat) : ByteArray := ⟨#[109]⟩ ++ digs k k ⟨#[]⟩

theorem digs_step (m : Nat) (out : ByteArray) (h : 0 < m) : digs m m out = digs (m / 10) (m / 10) (⟨#[dig m]⟩ ++ out) := by
  have fuel : ∀ (k f g : Nat) (out : ByteArray), k ≤ f → k ≤ g → digs f k out = digs g k out := by
    intro k
    induction k using Nat.strongRecOn with
    | _ k ih =>
      intro f g out hf hg
      cases f with
      | zero =>
        have : k = 0 := by omega
        subst this
        cases g <;> simp [digs]
      | succ f =>
        cases g with
        | zero =>
          have : k = 0 := by omega
          subst this
          simp [digs]
        | succ g =>
          by_cases hk : k = 0
          · simp [digs, hk]
          · rw [digs, digs, if_neg hk, if_neg hk]
            exact ih (k / 10) (by omega) f g _ (by omega) (by omega)
  cases m with
  | zero => omega
  | succ m =>
    rw [digs, if_neg (by omega)]
    exact fuel _ _ _ _ (by omega) (by omega)

end Go.Proofs.YthgbjnchhaoceaaDoor

/-
  The contracts of the law's helpers that mark the cells of a list, one number behind the other, and that look whether the marks are still there.
-/
namespace Go.Proofs.YthgbjnchhaoceaaDoor
open Go.ChangeShapes Go.WideShapes Go.ChangeAt Go.RowKit
attribute [local go_sem ↓] Go.wp_at_zero Go.wp_at_succ

/-- The i-th mark from k on. -/
def mark1 (k i : Nat) : CT := (((k + 3 * i : Nat) : Int), ((k + 3 * i + 1 : Nat) : Int), mt (k + 3 * i + 2))
/-- The marks of a list of n cells. -/
def marks (k n : Nat) : List CT := (List.range n).map (mark1 k)
theorem marks_length (k n : Nat) : (marks k n).length = n := by simp [marks]
theorem marks_at (k n i : Nat) (h : i < (marks k n).length) : (marks k n)[i] = mark1 k i := by simp [marks]
theorem marks_step (k : Nat) (l : List CT) (i : Nat) (h : i < l.length) : (marks k i ++ l.drop i).set i (mark1 k i) = marks k (i + 1) ++ l.drop (i + 1) := by
  rw [List.set_append_right _ _ (by rw [marks_length]; omega), marks_length, Nat.sub_self]
  have e : l.drop i = l[i] :: l.drop (i + 1) := List.drop_eq_getElem_cons h
  rw [e, List.set_cons_zero]
  simp [marks, List.range_succ]

/-- The cells of a slice may be written. -/
def Free (w : World) (a : Option Addr) (n : Nat) : Prop := ∀ b o, a = some ⟨b, o, none⟩ → ∀ j, j < n * 3 → w.frozen? ⟨b, o + j, none⟩ = false
/-- The block in which a slice of n cells lies, where it has one. -/
def inBlk (a : Option Addr) (n b : Nat) : Prop := 0 < n ∧ ∃ o, a = some ⟨b, o, none⟩

theorem RowAt.upd {w w' : World} {b o : Nat} {l : List CT} {i : Nat} {x : CT} (h : RowAt w (some ⟨b, o, none⟩) l) (hs : w.heap.size ≤ w'.heap.size)
    (hfar : ∀ q, q ≠ o + i * 3 → q ≠ o + i * 3 + 1 → q ≠ o + i * 3 + 2 → w'.cell? ⟨b, q, none⟩ = w.cell? ⟨b, q, none⟩)
    (h0 : w'.cell? ⟨b, o + i * 3, none⟩ = some (.int .i64 x.1)) (h1 : w'.cell? ⟨b, o + i * 3 + 1, none⟩ = some (.int .i64 x.2.1)) (h2 : w'.cell? ⟨b, o + i * 3 + 2, none⟩ = some (.string x.2.2)) :
    RowAt w' (some ⟨b, o, none⟩) (l.set i x) := by
  intro j hj
  have hj' : j < l.length := by simpa using hj
  obtain ⟨b', o', e, hlt, c0, c1, c2⟩ := h j hj'
  cases e
  refine ⟨b, o, rfl, Nat.lt_of_lt_of_le hlt hs, ?_⟩
  by_cases hij : i = j
  · subst hij
    rw [List.getElem_set_self]
    exact ⟨h0, h1, h2⟩
  · rw [List.getElem_set_ne hij]
    refine ⟨?_, ?_, ?_⟩
    · rw [hfar _ (by omega) (by omega) (by omega)]; exact c0
    · rw [hfar _ (by omega) (by omega) (by omega)]; exact c1
    · rw [hfar _ (by omega) (by omega) (by omega)]; exact c2

theorem Free.upd {w w' : World} {a : Option Addr} {n : Nat} (h : Free w a n) (hf : ∀ b o q, a = some ⟨b, o, none⟩ → w'.frozen? ⟨b, q, none⟩ = w.frozen? ⟨b, q, none⟩) : Free w' a n :=
  fun b o e j hj => by rw [hf b o _ e]; exact h b o e j hj

end Go.Proofs.YthgbjnchhaoceaaDoor

/-
  The contract of the law's helper that looks whether the marks of a list of cells are still there.
-/
namespace Go.Proofs.YthgbjnchhaoceaaDoor
open Go.ChangeShapes Go.WideShapes Go.ChangeAt Go.RowKit
attribute [local go_sem ↓] Go.wp_at_zero Go.wp_at_succ

end Go.Proofs.YthgbjnchhaoceaaDoor

/-
  The contracts of the law's helpers that mark the Items of a list, one number behind the other, and that look whether the marks are still there.
-/
namespace Go.Proofs.YthgbjnchhaoceaaDoor
open Go.ChangeShapes Go.WideShapes Go.ChangeAt Go.RowKit
attribute [local go_sem ↓] Go.wp_at_zero Go.wp_at_succ

/-- The i-th mark from k on. -/
def mark1Itm (k i : Nat) : TI := (((k + 5 * i : Nat) : Int), (((k + 5 * i + 1 : Nat) : Int), ((k + 5 * i + 2 : Nat) : Int), mt (k + 5 * i + 3)), mt (k + 5 * i + 4))
def marksItm (k n : Nat) : List TI := (List.range n).map (mark1Itm k)
theorem marksItm_length (k n : Nat) : (marksItm k n).length = n := by simp [marksItm]
theorem marksItm_at (k n i : Nat) (h : i < (marksItm k n).length) : (marksItm k n)[i] = mark1Itm k i := by simp [marksItm]
theorem marksItm_step (k : Nat) (l : List TI) (i : Nat) (h : i < l.length) : (marksItm k i ++ l.drop i).set i (mark1Itm k i) = marksItm k (i + 1) ++ l.drop (i + 1) := by
  rw [List.set_append_right _ _ (by rw [marksItm_length]; omega), marksItm_length, Nat.sub_self]
  have e : l.drop i = l[i] :: l.drop (i + 1) := List.drop_eq_getElem_cons h
  rw [e, List.set_cons_zero]
  simp [marksItm, List.range_succ]
/-- The cells of a slice may be written. -/
def FreeItm (w : World) (a : Option Addr) (n : Nat) : Prop := ∀ b o, a = some ⟨b, o, none⟩ → ∀ j, j < n * 5 → w.frozen? ⟨b, o + j, none⟩ = false
theorem ItmAt.upd {w w' : World} {b o : Nat} {l : List TI} {i : Nat} {x : TI} (h : ItmAt w (some ⟨b, o, none⟩) l) (hs : w.heap.size ≤ w'.heap.size)
    (hfar : ∀ q, q ≠ o + i * 5 → q ≠ o + i * 5 + 1 → q ≠ o + i * 5 + 2 → q ≠ o + i * 5 + 3 → q ≠ o + i * 5 + 4 → w'.cell? ⟨b, q, none⟩ = w.cell? ⟨b, q, none⟩)
    (h0 : w'.cell? ⟨b, o + i * 5, none⟩ = some (.int .i64 x.1)) (h1 : w'.cell? ⟨b, o + i * 5 + 1, none⟩ = some (.int .i64 x.2.1.1)) (h2 : w'.cell? ⟨b, o + i * 5 + 2, none⟩ = some (.int .i64 x.2.1.2.1)) (h3 : w'.cell? ⟨b, o + i * 5 + 3, none⟩ = some (.string x.2.1.2.2)) (h4 : w'.cell? ⟨b, o + i * 5 + 4, none⟩ = some (.string x.2.2)) :
    ItmAt w' (some ⟨b, o, none⟩) (l.set i x) := by
  intro j hj
  have hj' : j < l.length := by simpa using hj
  obtain ⟨b', o', e, hlt, c0, c1, c2, c3, c4⟩ := h j hj'
  cases e
  refine ⟨b, o, rfl, Nat.lt_of_lt_of_le hlt hs, ?_⟩
  by_cases hij : i = j
  · subst hij
    rw [List.getElem_set_self]
    exact ⟨h0, h1, h2, h3, h4⟩
  · rw [List.getElem_set_ne hij]
    refine ⟨?_, ?_, ?_, ?_, ?_⟩
    · rw [hfar _ (by omega) (by omega) (by omega) (by omega) (by omega)]; exact c0
    · rw [hfar _ (by omega) (by omega) (by omega) (by omega) (by omega)]; exact c1
    · rw [hfar _ (by omega) (by omega) (by omega) (by omega) (by omega)]; exact c2
    · rw [hfar _ (by omega) (by omega) (by omega) (by omega) (by omega)]; exact c3
    · rw [hfar _ (by omega) (by omega) (by omega) (by omega) (by omega)]; exact c4
theorem FreeItm.upd {w w' : World} {a : Option Addr} {n : Nat} (h : FreeItm w a n) (hf : ∀ b o q, a = some ⟨b, o, none⟩ → w'.frozen? ⟨b, q, none⟩ = w.frozen? ⟨b, q, none⟩) : FreeItm w' a n :=
  fun b o e j hj => by rw [hf b o _ e]; exact h b o e j hj
theorem ItmAt.keepS {P : Nat → Prop} {w w' : World} {a : Option Addr} {l : List TI} (h : ItmAt w a l) (hk : KeepS P w w') (hP : ∀ b, inBlk a l.length b → ¬ P b) : ItmAt w' a l := by
  intro j hj
  obtain ⟨b, o, ha, hlt, c0, c1, c2, c3, c4⟩ := h j hj
  have hn := hP b ⟨by omega, o, ha⟩
  refine ⟨b, o, ha, Nat.lt_of_lt_of_le hlt hk.size, ?_, ?_, ?_, ?_, ?_⟩
  · rw [hk.cell hlt hn]; exact c0
  · rw [hk.cell hlt hn]; exact c1
  · rw [hk.cell hlt hn]; exact c2
  · rw [hk.cell hlt hn]; exact c3
  · rw [hk.cell hlt hn]; exact c4

end Go.Proofs.YthgbjnchhaoceaaDoor

/-
  The contracts of the model's draws of sums: any list of items.
-/
namespace Go.Proofs.YthgbjnchhaoceaaDoor
open Go.ChangeShapes Go.WideShapes Go.ChangeAt Go.RowKit
attribute [local go_sem ↓] Go.wp_at_zero Go.wp_at_succ
attribute [local simp] World.cell?_alloc_past World.cell?_alloc_at World.frozen?_alloc_at cell_far cell_off cell_here World.frozen?_alloc_past

/-- A list of items that lies from that place on. -/
def DrawnA (w : World) (B : Nat) (v : Value) (l : List TI) : Prop := ∃ g cap, v = .slice (some ⟨g, 0, none⟩) l.length cap ∧ B ≤ g ∧ ItmAt w (some ⟨g, 0, none⟩) l
theorem DrawnI.any {w : World} {B : Nat} {v : Value} {l : List TI} (h : DrawnI w B v l) : DrawnA w B v l := by
  obtain ⟨g, c, rfl⟩ := h.form
  exact ⟨g, c, rfl, (h.1.lt g rfl).1, ownItm h.1⟩
theorem ItmAt.set0 {w : World} {g : Nat} {l : List TI} {k : Nat} (h : ItmAt w (some ⟨g, 0, none⟩) l) (hk : k < l.length) (z : Int) : ItmAt (w.setCell ⟨g, k * 5, none⟩ (.int .i64 z)) (some ⟨g, 0, none⟩) (l.set k (z, l[k].2)) := by
  obtain ⟨b, o, e, hlt, c0, c1, c2, c3, c4⟩ := h k hk
  simp only [Option.some.injEq, Addr.mk.injEq, and_true] at e
  obtain ⟨rfl, rfl⟩ := e
  refine h.upd (i := k) (x := (z, l[k].2)) (by simp) (fun q h0 _ _ _ _ => cell_off _ _ _ _ _ (by omega)) ?_ ?_ ?_ ?_ ?_
  · rw [Nat.zero_add]; exact cell_here _ _ _ _ (by rw [Nat.zero_add] at c0; rw [c0]; rfl)
  · rw [cell_off _ _ _ _ _ (by omega)]; exact c1
  · rw [cell_off _ _ _ _ _ (by omega)]; exact c2
  · rw [cell_off _ _ _ _ _ (by omega)]; exact c3
  · rw [cell_off _ _ _ _ _ (by omega)]; exact c4
theorem own_sameB {w w' : World} {base g n cap : Nat} {e : TypeId} {size : Nat} {xs : List Value} (h : w.ownsRow base e size (.slice (some ⟨g, 0, none⟩) n cap) n xs) (hb : w'.heap[g]? = w.heap[g]?) : w'.ownsRow base e size (.slice (some ⟨g, 0, none⟩) n cap) n xs := by
  refine ⟨h.1, ?_⟩
  rcases h.2 with h' | ⟨g', cap', cur, h', hbg, hg, hr⟩
  · exact .inl h'
  · cases h'
    exact .inr ⟨g, cap, cur, rfl, hbg, by rw [hb]; exact hg, hr⟩
theorem addN (g o j : Nat) : (⟨g, o, none⟩ : Addr).add j = ⟨g, o + j, none⟩ := by
  unfold Addr.add
  by_cases hj0 : j = 0 <;> simp [hj0]
theorem row_at {w : World} {base g n cap : Nat} {l : List TI} (h : w.ownsRow base 31 5 (.slice (some ⟨g, 0, none⟩) n cap) n (flatItm l)) {j : Nat} {u : Value} (hj : (flatItm l)[j]? = some u) : w.cell? ⟨g, j, none⟩ = some u := by
  have hlt : j < (flatItm l).length := by
    by_cases hl : j < (flatItm l).length
    · exact hl
    · rw [List.getElem?_eq_none (by omega)] at hj; cases hj
  have hl := h.1
  rw [hl] at hlt
  rw [h.cellAt j hlt, hj]
theorem row_take {w : World} {base g n cap k : Nat} {l : List TI} (h : w.ownsRow base 31 5 (.slice (some ⟨g, 0, none⟩) n cap) n (flatItm l)) (_hk : k < l.length) : ∀ (j : Nat) u, (flatItm (l.take k))[j]? = some u → w.cell? ((⟨g, 0, none⟩ : Addr).add j) = some u := fun j u hj => by
  rw [addN, Nat.zero_add]
  refine row_at h ?_
  have e : flatItm l = flatItm (l.take k) ++ flatItm (l.drop k) := by rw [← flatItm_append, List.take_append_drop]
  have hlt : j < (flatItm (l.take k)).length := by
    by_cases hl : j < (flatItm (l.take k)).length
    · exact hl
    · rw [List.getElem?_eq_none (by omega)] at hj; cases hj
  rw [e, List.getElem?_append_left hlt]
  exact hj
theorem row_drop {w : World} {base g n cap k : Nat} {l : List TI} {ad : Addr} (h : w.ownsRow base 31 5 (.slice (some ⟨g, 0, none⟩) n cap) n (flatItm l)) (hk : k ≤ n) (hn : l.length = n) (had : k < n → ad = ⟨g, k * 5, none⟩) : ∀ (j : Nat) u, (flatItm (l.drop k))[j]? = some u → w.cell? (ad.add j) = some u := fun j u hj => by
  have hlt : j < (flatItm (l.drop k)).length := by
    by_cases hl : j < (flatItm (l.drop k)).length
    · exact hl
    · rw [List.getElem?_eq_none (by omega)] at hj; cases hj
  have hl := hlt
  rw [flatItm_length, List.length_drop, hn] at hl
  rw [had (by omega), addN]
  refine row_at h ?_
  have e : flatItm l = flatItm (l.take k) ++ flatItm (l.drop k) := by rw [← flatItm_append, List.take_append_drop]
  have e2 : (flatItm (l.take k)).length = k * 5 := by rw [flatItm_length, List.length_take, hn]; congr 1; omega
  rw [e, List.getElem?_append_right (by omega), e2, Nat.add_sub_cancel_left]
  exact hj
theorem names5 (w : World) : StrsAt (w.alloc (.cells #[.string ⟨#[97]⟩, .string ⟨#[98]⟩, .string ⟨#[99]⟩, .string ⟨#[100]⟩, .string ⟨#[120]⟩] 9)) (some ⟨w.heap.size, 0, none⟩) [⟨#[97]⟩, ⟨#[98]⟩, ⟨#[99]⟩, ⟨#[100]⟩, ⟨#[120]⟩] := by
  intro j hj
  have hj5 : j < 5 := hj
  refine ⟨w.heap.size, 0, rfl, by simp, ?_⟩
  have : j = 0 ∨ j = 1 ∨ j = 2 ∨ j = 3 ∨ j = 4 := by omega
  rcases this with rfl | rfl | rfl | rfl | rfl <;> simp [World.cell?_alloc_at]
set_option maxRecDepth 100000 in
set_option maxHeartbeats 2000000 in
theorem draw8 {w : World} {c : Nat} {a : Option Addr} {len cap : Nat} (h : Cur w c a len cap) :
    Calls Tryd.prog 25 #[.pointer (some ⟨c, 0, none⟩)] w (DrawnSum w c a len cap 15) := by
  have HC : Hid (Cur w c a len cap) := h
  have hcw := h.lt
  clear h
  go_enter Tryd.func25, Tryd.ntmps25
  go_wp2_with fail
  obtain ⟨V, hV⟩ : ∃ V, V = w.alloc (.cells #[.string ⟨#[97]⟩, .string ⟨#[98]⟩, .string ⟨#[99]⟩, .string ⟨#[100]⟩, .string ⟨#[120]⟩] 9) := ⟨_, rfl⟩
  have S1 : Hid (StrsAt V (some ⟨w.heap.size, 0, none⟩) [⟨#[97]⟩, ⟨#[98]⟩, ⟨#[99]⟩, ⟨#[100]⟩, ⟨#[120]⟩]) := by
    have : StrsAt V (some ⟨w.heap.size, 0, none⟩) [⟨#[97]⟩, ⟨#[98]⟩, ⟨#[99]⟩, ⟨#[100]⟩, ⟨#[120]⟩] := by rw [hV]; exact names5 w
    exact this
  have C1 : Hid (Cur V c a len cap) := by
    have : Cur V c a len cap := by rw [hV]; exact HC.out.alloc _
    exact this
  have hk1 : Keep c w V := by rw [hV]; exact (Keep.refl _ _).alloc _
  rw [← hV]
  obtain ⟨B, hB⟩ : ∃ B, w.heap.size = B := ⟨_, rfl⟩
  have hBc : B ≠ c := by omega
  simp only [hB] at S1 ⊢
  clear hV
  refine (once_draw C1.out 2 (by omega) (by omega)).mono ?_
  rintro e w2 ⟨b, rfl, hc2, hk2⟩
  have C2 : Hid (Cur w2 c a len cap) := hc2
  have hkW := hk1.trans hk2
  have hne : ∀ b o, (some ⟨B, 0, none⟩ : Option Addr) = some ⟨b, o, none⟩ → b ≠ c := fun b o e => by
    simp only [Option.some.injEq, Addr.mk.injEq, and_true] at e
    omega
  have S2 : Hid (StrsAt w2 (some ⟨B, 0, none⟩) [⟨#[97]⟩, ⟨#[98]⟩, ⟨#[99]⟩, ⟨#[100]⟩, ⟨#[120]⟩]) := strs_keepC S1.out hk2 hne
  have HNE : Hid (∀ b o, (some ⟨B, 0, none⟩ : Option Addr) = some ⟨b, o, none⟩ → b ≠ c) := hne
  clear hne S1 C1 hc2 hk2 hk1
  go_wp2_with fail
  refine (sum_draw 3 b w2 _ _ 5 5 rfl (by omega) (by omega) (by decide) S2.out HNE.out (by omega) (by omega) C2.out).mono ?_
  rintro e w3 ⟨v, l, rfl, hD, h1, h2, hF, hc3, hk3⟩
  have D3 : Hid (DrawnI w3 w.heap.size v l) := hD.mono hkW.size
  obtain ⟨g, cc, hv⟩ := D3.out.form
  subst hv
  have fin : Hid (DrawnSum w c a len cap 15 (.returned (.slice (some ⟨g, 0, none⟩) l.length cc)) w3) := ⟨_, l, rfl, D3.out, h1, h2, hF, hc3, hkW.trans hk3⟩
  clear D3 hD hF hc3 hk3 h1 h2
  go_wp2
  go_ret
  exact fin.out
theorem from13_draw {w : World} {c : Nat} {a : Option Addr} {len cap : Nat} (h : Cur w c a len cap) :
    Calls Tryd.prog 28 #[.pointer (some ⟨c, 0, none⟩), .int .i64 0, .int .i64 13] w fun e w' => ∃ x : Int, e = .returned (.int .i64 x) ∧ Cur w' c a len cap ∧ Keep c w w' := by
  have HC : Hid (Cur w c a len cap) := h
  clear h
  go_enter Tryd.func28, Tryd.ntmps28
  go_wp2_with fail
  refine (below_draw HC.out 14 (by omega) (by omega)).mono ?_
  rintro e w1 ⟨x, rfl, hx0, hx1, hc1, hk1⟩
  have C1 : Hid (Cur w1 c a len cap) := hc1
  go_wp2
  go_ret
  exact ⟨_, rfl, C1.out, hk1⟩
set_option maxRecDepth 100000 in
set_option maxHeartbeats 4000000 in
theorem any8 {w : World} {c : Nat} {a : Option Addr} {len cap : Nat} (h : Cur w c a len cap) :
    Calls Tryd.prog 17 #[.pointer (some ⟨c, 0, none⟩)] w fun e w' => ∃ v l, e = .returned v ∧ DrawnA w' w.heap.size v l ∧ l.length ≤ 16 ∧ FitD l ∧ Cur w' c a len cap ∧ Keep c w w' := by
  obtain ⟨i0, hti, hz0, hz1, hz2⟩ := info_parts infoItm5
  have HC : Hid (Cur w c a len cap) := h
  have hcw := h.lt
  clear h
  go_enter Tryd.func17, Tryd.ntmps17
  go_wp2_with fail
  refine (draw8 HC.out).mono ?_
  rintro e w1 ⟨v, l, rfl, hD, h1, h2, hF, hc1, hk1⟩
  obtain ⟨g, cp, hv⟩ := hD.form
  subst hv
  have D1 : Hid (DrawnI w1 w.heap.size (.slice (some ⟨g, 0, none⟩) l.length cp) l) := hD
  have C1 : Hid (Cur w1 c a len cap) := hc1
  have F1 : Hid (FitD l) := hF
  obtain ⟨n, hn⟩ : ∃ n, l.length = n := ⟨_, rfl⟩
  have HN : Hid (l.length = n) := hn
  rw [hn] at D1 h1 h2 ⊢
  clear hD hc1 hF hn
  go_wp2_with fail
  refine (once_draw C1.out 6 (by omega) (by omega)).mono ?_
  rintro e w2 ⟨b, rfl, hc2, hk2⟩
  have D2 : Hid (DrawnI w2 w.heap.size (.slice (some ⟨g, 0, none⟩) n cp) l) := D1.out.keep hk2 hcw
  have C2 : Hid (Cur w2 c a len cap) := hc2
  have hkW := hk1.trans hk2
  clear D1 C1 hc2 hk2 hk1
  cases b
  · go_wp2
    go_ret
    exact ⟨_, l, rfl, by have := D2.out; rw [← HN.out] at this ⊢; exact this.any, by rw [HN.out]; omega, F1.out, C2.out, hkW⟩
  go_wp2_with fail
  refine (below_draw C2.out (n : Int) (by omega) (by omega)).mono ?_
  rintro e w3 ⟨x, rfl, hx0, hx1, hc3, hk3⟩
  obtain ⟨k, rfl⟩ : ∃ k : Nat, x = (k : Int) := ⟨x.toNat, by omega⟩
  have D3 : Hid (DrawnI w3 w.heap.size (.slice (some ⟨g, 0, none⟩) n cp) l) := D2.out.keep hk3 hcw
  have C3 : Hid (Cur w3 c a len cap) := hc3
  have hkX := hkW.trans hk3
  clear D2 C2 hc3 hk3 hkW
  go_wp2_with fail
  refine (below_draw C3.out 3 (by omega) (by omega)).mono ?_
  rintro e w4 ⟨y, rfl, hy0, hy1, hc4, hk4⟩
  have D4 : Hid (DrawnI w4 w.heap.size (.slice (some ⟨g, 0, none⟩) n cp) l) := D3.out.keep hk4 hcw
  have C4 : Hid (Cur w4 c a len cap) := hc4
  have hkY := hkX.trans hk4
  clear D3 C3 hc4 hk4 hkX
  have hy : y = 0 ∨ y = 1 ∨ y = 2 := by omega
  rcases hy with rfl | rfl | rfl
  · go_wp2_with fail
    refine (from13_draw C4.out).mono ?_
    rintro e w5 ⟨z, rfl, hc5, hk5⟩
    have D5 : Hid (DrawnI w5 w.heap.size (.slice (some ⟨g, 0, none⟩) n cp) l) := D4.out.keep hk5 hcw
    have C5 : Hid (Cur w5 c a len cap) := hc5
    have hkZ := hkY.trans hk5
    clear D4 C4 hc5 hk5 hkY
    have hkl : k < l.length := by rw [HN.out]; omega
    have A5 : ItmAt w5 (some ⟨g, 0, none⟩) l := by
      have := D5.out
      rw [← HN.out] at this
      exact ownItm this.1
    have hgB := (D5.out.1.lt g rfl).1
    obtain ⟨gb, ob, eb, hglt, c0, c1, c2, c3, c4⟩ := A5 k hkl
    simp only [Option.some.injEq, Addr.mk.injEq, and_true] at eb
    obtain ⟨rfl, rfl⟩ := eb
    rw [Nat.zero_add] at c0
    have hfr : w5.frozen? ⟨g, k * 5, none⟩ = false := by
      have := D5.out.1
      rw [HN.out] at this
      exact this.frozenAt _
    have A6 : Hid (ItmAt (w5.setCell ⟨g, k * 5, none⟩ (.int .i64 z)) (some ⟨g, 0, none⟩) (l.set k (z, l[k].2))) := A5.set0 hkl z
    have F6 : Hid (FitD (l.set k (z, l[k].2))) := by
      have : FitD (l.set k (z, l[k].2)) := fun x hx => by
        rcases List.mem_or_eq_of_mem_set hx with hx | rfl
        · exact F1.out x hx
        · exact F1.out l[k] (List.getElem_mem hkl)
      exact this
    have L6 : Hid ((l.set k (z, l[k].2)).length = n) := by rw [List.length_set]; exact HN
    have C6 : Hid (Cur (w5.setCell ⟨g, k * 5, none⟩ (.int .i64 z)) c a len cap) := C5.out.setAbove (by omega) _
    have hk6 : Keep c w (w5.setCell ⟨g, k * 5, none⟩ (.int .i64 z)) := hkZ.setCell (p := ⟨g, k * 5, none⟩) (.inr hgB) _
    have hi0 : (0 : Int) ≤ (k : Int) := by omega
    obtain ⟨m, hm⟩ : ∃ m, l.set k (z, l[k].2) = m := ⟨_, rfl⟩
    rw [hm] at A6 F6 L6
    clear A5 c1 c2 c3 c4 D5 hm
    go_wp2
    go_ret
    exact ⟨_, m, rfl, ⟨g, cp, by rw [L6.out]; rfl, hgB, A6.out⟩, by rw [L6.out]; omega, F6.out, C6.out, hk6⟩
  · have hkl : k < l.length := by rw [HN.out]; omega
    have hi0 : (0 : Int) ≤ (k : Int) := by omega
    have hcpn : n ≤ cp := by
      rcases D4.out.1.2 with ⟨h', _⟩ | ⟨_, _, _, h', _, _, h3, _⟩
      · cases h'
      · cases h'; rw [← HN.out]; exact h3
    have hcpm : cp ≤ maxLen := by
      rcases D4.out.1.2 with ⟨h', _⟩ | ⟨_, _, _, h', _, _, _, h4, _⟩
      · cases h'
      · cases h'; exact h4
    unfold maxLen at hcpm
    have hi1 : (k : Int) ≤ (cp : Int) := by omega
    have hi2 : (k : Int) + 1 = ((k + 1 : Nat) : Int) := by omega
    obtain ⟨k1, hk1⟩ : ∃ k1, k + 1 = k1 := ⟨_, rfl⟩
    have hi3 : (k : Int) + 1 = (k1 : Int) := by omega
    have hi4 : (k1 : Int) ≤ (n : Int) := by omega
    have hi5 : (n : Int) ≤ (cp : Int) := by omega
    have hi6 : (0 : Int) ≤ (k1 : Int) := by omega
    have hwk : IntKind.i64.wrap (k1 : Int) = (k1 : Int) := by rw [IntKind.wrap_i64]; omega
    clear hi2
    go_wp2_with fail
    refine wp_region_held_drew (S := (fun _ => True)) (by kernel_rfl) trivial (fun hHeld => ?_)
    refine wpAnyH_take (i := 1) (by simp only [List.getElem?_toArray, List.getElem?_cons_zero, List.getElem?_cons_succ]; rfl) (by kernel_rfl) (by kernel_rfl) (by kernel_rfl) (by intro _ _ _ h; exact h) (Or.inl ⟨by rfl, fun w hSw => by (dsimp only at hSw; go_simp; (try with_reducible rfl))⟩) (by assumption) ?_
    simp only [Act.put, List.setIfInBounds_toArray, List.set_cons_zero, List.set_cons_succ]
    refine wpAnyH_take (i := 2) (by simp only [List.getElem?_toArray, List.getElem?_cons_zero, List.getElem?_cons_succ]; rfl) (by kernel_rfl) (by kernel_rfl) (by kernel_rfl) (by intro _ _ _ h; exact h) (Or.inl ⟨by rfl, fun w hSw => by (dsimp only at hSw; go_simp; (try with_reducible rfl))⟩) (by assumption) ?_
    simp only [Act.put, List.setIfInBounds_toArray, List.set_cons_zero, List.set_cons_succ]
    refine wpAnyH_take (i := 3) (by simp only [List.getElem?_toArray, List.getElem?_cons_zero, List.getElem?_cons_succ]; rfl) (by kernel_rfl) (by kernel_rfl) (by kernel_rfl) (by intro _ _ _ h; exact h) (Or.inl ⟨by rfl, fun w hSw => by (dsimp only at hSw; go_simp; (try with_reducible rfl))⟩) (by assumption) ?_
    simp only [Act.put, List.setIfInBounds_toArray, List.set_cons_zero, List.set_cons_succ]
    refine wpAnyH_take (i := 5) (by simp only [List.getElem?_toArray, List.getElem?_cons_zero, List.getElem?_cons_succ]; rfl) (by kernel_rfl) (by kernel_rfl) (by kernel_rfl) (by intro _ _ _ h; exact h) (Or.inl ⟨by rfl, fun w hSw => by (dsimp only at hSw; go_simp; (try with_reducible rfl))⟩) (by assumption) ?_
    simp only [Act.put, List.setIfInBounds_toArray, List.set_cons_zero, List.set_cons_succ]
    refine wpAnyH_take (i := 6) (by simp only [List.getElem?_toArray, List.getElem?_cons_zero, List.getElem?_cons_succ]; rfl) (by kernel_rfl) (by kernel_rfl) (by kernel_rfl) (by intro _ _ _ h; exact h) (Or.inl ⟨by rfl, fun w hSw => by (dsimp only at hSw; go_simp; (try with_reducible rfl))⟩) (by assumption) ?_
    simp only [Act.put, List.setIfInBounds_toArray, List.set_cons_zero, List.set_cons_succ]
    refine wpAnyH_take (i := 7) (by simp only [List.getElem?_toArray, List.getElem?_cons_zero, List.getElem?_cons_succ]; rfl) (by kernel_rfl) (by kernel_rfl) (by kernel_rfl) (by intro _ _ _ h; exact h) (Or.inl ⟨by rfl, fun w hSw => by (dsimp only at hSw; go_simp; (try with_reducible rfl))⟩) (by assumption) ?_
    simp only [Act.put, List.setIfInBounds_toArray, List.set_cons_zero, List.set_cons_succ]
    refine wpAnyH_take (i := 8) (by simp only [List.getElem?_toArray, List.getElem?_cons_zero, List.getElem?_cons_succ]; rfl) (by kernel_rfl) (by kernel_rfl) (by kernel_rfl) (by intro _ _ _ h; exact h) (Or.inl ⟨by rfl, fun w hSw => by (dsimp only at hSw; go_simp; (try with_reducible rfl))⟩) (by assumption) ?_
    simp only [Act.put, List.setIfInBounds_toArray, List.set_cons_zero, List.set_cons_succ]
    refine wpAnyH_ready (rs := [0]) (by kernel_rfl) (by simp) ?_
    refine AllReadyH.cons (by simp only [List.getElem?_toArray, List.getElem?_cons_zero]; rfl) ?_ AllReadyH.nil
    intro K hK
    go_simp
    obtain ⟨ad, had, hadr⟩ : ∃ ad : Addr, (if cp = k1 then some ⟨g, 0, none⟩ else some ⟨g, k1 * 5, none⟩) = some ad ∧ (k1 < n → ad = ⟨g, k1 * 5, none⟩) := by
      by_cases e : cp = k1
      · exact ⟨⟨g, 0, none⟩, by rw [if_pos e], fun h => by omega⟩
      · exact ⟨⟨g, k1 * 5, none⟩, by rw [if_neg e], fun _ => rfl⟩
    rw [had]
    obtain ⟨m, hm⟩ : ∃ m, n - k1 = m := ⟨_, rfl⟩
    obtain ⟨cc, hcc⟩ : ∃ cc, cp - k1 = cc := ⟨_, rfl⟩
    rw [hm, hcc]
    have HADR : Hid (k1 < n → ad = ⟨g, k1 * 5, none⟩) := hadr
    have hnkm : k1 + m = n := by omega
    obtain ⟨V0, hV0⟩ : ∃ V, V = (w4.alloc (.cells #[] 31)).drew := ⟨_, rfl⟩
    have hb0 : Below w4.heap.size w4 V0 := by rw [hV0]; exact ((Below.refl _ _).alloc (Nat.le_refl _) _).drew
    have hs4 := hkY.size
    have E0 : Hid (V0.ownsRow w.heap.size 31 5 (.slice (some ⟨w4.heap.size, 0, none⟩) 0 0) 0 []) := by
      have : V0.ownsRow w.heap.size 31 5 (.slice (some ⟨w4.heap.size, 0, none⟩) 0 0) 0 [] := by
        rw [hV0]
        exact ⟨rfl, .inr ⟨w4.heap.size, 0, #[], rfl, hs4, by show (w4.heap.push _)[w4.heap.size]? = _; simp, Nat.le_refl _, by unfold maxLen; omega, rfl, rfl⟩⟩
      exact this
    have O0 : Hid (V0.ownsRow w.heap.size 31 5 (.slice (some ⟨g, 0, none⟩) n cp) n (flatItm l)) := by
      have := D4.out.1; rw [HN.out] at this; exact own_below this hb0
    have hgw := (D4.out.1.lt g rfl)
    have C0 : Hid (Cur V0 c a len cap) := C4.out.below hb0
    have hk0 : Keep c w V0 := hkY.trans (Keep.ofBelow hb0)
    have hsV : w4.heap.size < V0.heap.size := by rw [hV0]; simp [World.drew]
    rw [← hV0]
    obtain ⟨B0, hB0⟩ : ∃ B, w4.heap.size = B := ⟨_, rfl⟩
    rw [hB0] at E0 hgw hsV ⊢
    clear hV0 hb0 D4 C4 hkY had hadr hm hcc hB0 hs4
    have hsz0 := hk0.size
    refine hK.out _ _ trivial (fun hHeld => ?_)
    clear hK K
    try simp only [Act.put, List.setIfInBounds_toArray, List.set_cons_zero, List.set_cons_succ]
    refine wpAnyH_ready (rs := [4]) (by kernel_rfl) (by simp) ?_
    refine AllReadyH.cons (by simp only [List.getElem?_toArray, List.getElem?_cons_zero, List.getElem?_cons_succ]; rfl) ?_ AllReadyH.nil
    intro K hK
    rw [if_pos (by rfl)]
    refine wp_append_own _ _ _ 24 rfl w.heap.size 31 i0 (.agg #[.int .i64 0, .int .i64 0, .int .i64 0, .string ⟨#[]⟩, .string ⟨#[]⟩]) 5 56 Tryd.underlying24 hti hz0 hz1 hz2 rfl (by decide) (.slice (some ⟨B0, 0, none⟩) 0 0) 0 [] rfl E0.out ⟨g, 0, none⟩ k cp (flatItm (l.take k)) rfl (by rw [flatItm_length, List.length_take]; omega) (row_take O0.out hkl) flat_oneI (by unfold maxLen; omega) (by omega) hsz0 ?_
    intro v1 W1 own1 hgrow1 hnn1
    have O1 : Hid (W1.ownsRow w.heap.size 31 5 v1 k (flatItm (l.take k))) := by
      have := own1; rw [Nat.zero_add, List.nil_append] at this; exact this
    have N1 : Hid (v1 ≠ .slice none 0 0) := by
      have : v1 ≠ .slice none 0 0 := fun e => by
        have := (hnn1.1 e).1
        cases this
      exact this
    have hb1 : Below w.heap.size V0 W1 := (Below.refl _ _).grown hgrow1 hsz0 (fun kk hkk => (E0.out.lt kk hkk).1)
    have P1 : Hid (W1.ownsRow w.heap.size 31 5 (.slice (some ⟨g, 0, none⟩) n cp) n (flatItm l)) := own_sameB O0.out (hgrow1.block g (by omega) (by
      show some g ≠ some B0
      simp only [ne_eq, Option.some.injEq]
      omega))
    have C1 : Hid (Cur W1 c a len cap) := C0.out.far hb1 hcw
    have hk1' : Keep c w W1 := hk0.far hb1 (Nat.le_refl _)
    obtain ⟨g1, c1, hv1⟩ : ∃ g1 c1, v1 = .slice (some ⟨g1, 0, none⟩) k c1 := by
      rcases O1.out.2 with ⟨h', _⟩ | ⟨g1, c1, _, h', _⟩
      · exact absurd h' N1.out
      · exact ⟨g1, c1, h'⟩
    subst hv1
    have hsz1 := hk1'.size
    clear own1 hgrow1 hnn1 hb1 E0 O0 C0 hk0 N1 hgw hsV
    refine hK.out _ _ trivial (fun hHeld => ?_)
    clear hK K
    try simp only [Act.put, List.setIfInBounds_toArray, List.set_cons_zero, List.set_cons_succ]
    refine wpAnyH_ready (rs := [9]) (by kernel_rfl) (by simp) ?_
    refine AllReadyH.cons (by simp only [List.getElem?_toArray, List.getElem?_cons_zero, List.getElem?_cons_succ]; rfl) ?_ AllReadyH.nil
    intro K hK
    rw [if_pos (by rfl)]
    refine wp_append_own _ _ _ 24 rfl w.heap.size 31 i0 (.agg #[.int .i64 0, .int .i64 0, .int .i64 0, .string ⟨#[]⟩, .string ⟨#[]⟩]) 5 56 Tryd.underlying24 hti hz0 hz1 hz2 rfl (by decide) (.slice (some ⟨g1, 0, none⟩) k c1) k (flatItm (l.take k)) rfl O1.out ad m cc (flatItm (l.drop k1)) rfl (by rw [flatItm_length, List.length_drop, HN.out]; omega) (row_drop P1.out (by omega) HN.out HADR.out) flat_oneI (by unfold maxLen; omega) (by omega) hsz1 ?_
    intro v2 W2 own2 hgrow2 hnn2
    have D2 : Hid (DrawnI W2 w.heap.size v2 (l.take k ++ l.drop k1)) := by
      have : DrawnI W2 w.heap.size v2 (l.take k ++ l.drop k1) := by
        refine ⟨?_, fun e => ?_⟩
        · rw [List.length_append, List.length_take, List.length_drop, HN.out, flatItm_append, show min k n + (n - k1) = k + m by omega]
          exact own2
        · have := (hnn2.1 e).1
          cases this
      exact this
    have hb2 : Below w.heap.size W1 W2 := (Below.refl _ _).grown hgrow2 hsz1 (fun kk hkk => (O1.out.lt kk hkk).1)
    have C2 : Hid (Cur W2 c a len cap) := C1.out.far hb2 hcw
    have hk2' : Keep c w W2 := hk1'.far hb2 (Nat.le_refl _)
    have F2 : Hid (FitD (l.take k ++ l.drop k1)) := FitD.app (fun x hx => F1.out x (List.mem_of_mem_take hx)) (fun x hx => F1.out x (List.mem_of_mem_drop hx))
    have L2 : Hid ((l.take k ++ l.drop k1).length ≤ 16) := by
      have : (l.take k ++ l.drop k1).length ≤ 16 := by rw [List.length_append, List.length_take, List.length_drop, HN.out]; omega
      exact this
    obtain ⟨lq, hlq⟩ : ∃ lq, l.take k ++ l.drop k1 = lq := ⟨_, rfl⟩
    rw [hlq] at D2 F2 L2
    clear hlq
    obtain ⟨g2, c2, hv2⟩ := D2.out.form
    subst hv2
    obtain ⟨nq, hnq⟩ : ∃ n, lq.length = n := ⟨_, rfl⟩
    have fin : Hid (DrawnA W2 w.heap.size (.slice (some ⟨g2, 0, none⟩) nq c2) lq) := by rw [← hnq]; exact D2.out.any
    rw [hnq]
    clear D2 hnq
    clear own2 hgrow2 hnn2 hb2 O1 P1 C1 hk1'
    refine hK.out _ _ trivial (fun hHeld => ?_)
    clear hK K
    try simp only [Act.put, List.setIfInBounds_toArray, List.set_cons_zero, List.set_cons_succ]
    refine wpAnyH_take (i := 10) (by simp only [List.getElem?_toArray, List.getElem?_cons_zero, List.getElem?_cons_succ]; rfl) (by kernel_rfl) (by kernel_rfl) (by kernel_rfl) (by intro _ _ _ h; exact h) (Or.inl ⟨by rfl, fun w hSw => by (dsimp only at hSw; go_simp; (try with_reducible rfl))⟩) (by assumption) ?_
    simp only [Act.put, List.setIfInBounds_toArray, List.set_cons_zero, List.set_cons_succ]
    refine wpAnyH_done (by kernel_rfl) ?_ _
    go_wp2
    go_ret
    exact ⟨_, _, rfl, fin.out, L2.out, F2.out, C2.out, hk2'⟩
  · go_wp2_with fail
    refine (any_draw C4.out).mono ?_
    rintro e w5 ⟨ck, cn, ct, rfl, hct, hc5, hk5⟩
    have D5 : Hid (DrawnI w5 w.heap.size (.slice (some ⟨g, 0, none⟩) n cp) l) := D4.out.keep hk5 hcw
    have C5 : Hid (Cur w5 c a len cap) := hc5
    have hkZ := hkY.trans hk5
    clear D4 C4 hc5 hk5 hkY
    have O5 : Hid (w5.ownsRow w.heap.size 31 5 (.slice (some ⟨g, 0, none⟩) n cp) n (flatItm l)) := by
      have := D5.out.1; rw [HN.out] at this; exact this
    have hszq := hkZ.size
    clear D5
    go_wp2_with (at_builtin; refine wpList_append_own _ rfl _ _ 24 rfl w.heap.size 31 i0 (.agg #[.int .i64 0, .int .i64 0, .int .i64 0, .string ⟨#[]⟩, .string ⟨#[]⟩]) 5 56 Tryd.underlying24 hti hz0 hz1 hz2 rfl (by decide) _ _ _ rfl (O5.out.alloc _) ⟨w5.heap.size, 0, none⟩ 1 1 [.int .i64 1, .int .i64 ck, .int .i64 cn, .string ct, .string ⟨#[]⟩] rfl rfl (cells5I w5 _ _ _ _ _) (by intro u hu; simp at hu; rcases hu with rfl | rfl | rfl | rfl | rfl <;> rfl) (by unfold maxLen; omega) (by omega) (by simp; omega) ?_)
    intro v9 w9 own9 hgrow9 hnn9
    have D9 : Hid (DrawnI w9 w.heap.size v9 (l ++ [(1, (ck, cn, ct), ⟨#[]⟩)])) := DrawnI.app (m := [(1, (ck, cn, ct), ⟨#[]⟩)]) own9 (by rw [HN.out]; rfl) (by omega)
    have hb9 : Below w.heap.size (w5.alloc (.cells #[.int .i64 1, .int .i64 ck, .int .i64 cn, .string ct, .string ⟨#[]⟩] 31)) w9 := (Below.refl _ _).grown hgrow9 (by simp; omega) (fun kk hkk => (O5.out.lt kk hkk).1)
    have C9 : Hid (Cur w9 c a len cap) := (C5.out.alloc _).far hb9 hcw
    have hk9 : Keep c w w9 := (hkZ.alloc _).far hb9 (Nat.le_refl _)
    have F9 : Hid (FitD (l ++ [((1, (ck, cn, ct), ⟨#[]⟩) : TI)])) := FitD.app F1.out (fun x hx => by
      rw [List.mem_singleton] at hx
      subst hx
      exact ⟨hct, Nat.zero_le _⟩)
    have L9 : Hid ((l ++ [((1, (ck, cn, ct), ⟨#[]⟩) : TI)]).length ≤ 16) := by
      have : (l ++ [((1, (ck, cn, ct), ⟨#[]⟩) : TI)]).length ≤ 16 := by rw [List.length_append, HN.out]; simp; omega
      exact this
    obtain ⟨g9, c9, hv9⟩ := D9.out.form
    subst hv9
    clear own9 hgrow9 hnn9 hb9 O5
    go_wp2
    go_ret
    exact ⟨_, _, rfl, D9.out.any, L9.out, F9.out, C9.out, hk9⟩
set_option maxHeartbeats 1000000 in
theorem sumok_draw {w : World} {a : Option Addr} {len cap : Nat} (hlen : len ≤ 4096)
    (row : ∀ j, j < len → ∃ (rb ro : Nat) (v : Int), a = some ⟨rb, ro, none⟩ ∧ rb < w.heap.size ∧ w.cell? ⟨rb, ro + j, none⟩ = some (.int .u8 v) ∧ 0 ≤ v ∧ v ≤ 255) :
    Calls Tryd.prog 8 #[.slice a len cap] w fun e w' => ∃ g n cc l, e = .returned (.slice (some ⟨g, 0, none⟩) n cc) ∧ l.length = n ∧ ItmAt w' (some ⟨g, 0, none⟩) l ∧ n ≤ 16 ∧ FitD l ∧ Below w.heap.size w w' := by
  have hR : Hid (∀ j, j < len → ∃ (rb ro : Nat) (v : Int), a = some ⟨rb, ro, none⟩ ∧ rb < w.heap.size ∧ w.cell? ⟨rb, ro + j, none⟩ = some (.int .u8 v) ∧ 0 ≤ v ∧ v ≤ 255) := row
  clear row
  go_enter Tryd.func8, Tryd.ntmps8
  go_wp2_with fail
  refine (new_draw hlen hR.out).mono ?_
  rintro e w1 ⟨c, rfl, hcs, hc1, hb1⟩
  have C1 : Hid (Cur w1 c a len cap) := hc1
  clear hc1
  go_wp2_with fail
  refine (any8 C1.out).mono ?_
  rintro e w2 ⟨v, l, rfl, ⟨g, cc, rfl, _, hA⟩, hl, hF, _, hk2⟩
  have hx2 : Below w.heap.size w w2 := hb1.trans (hk2.below hcs hb1.size)
  have A2 : Hid (ItmAt w2 (some ⟨g, 0, none⟩) l) := hA
  obtain ⟨n, hn⟩ : ∃ n, l.length = n := ⟨_, rfl⟩
  rw [hn] at hl ⊢
  have HN : Hid (l.length = n) := hn
  clear hA hn
  go_wp2
  go_ret
  exact ⟨g, n, cc, l, rfl, HN.out, A2.out, hl, hF, hx2⟩
end Go.Proofs.YthgbjnchhaoceaaDoor

/-
  The depth of a sum without any program: the most that lie there at once.
-/
namespace Go.Proofs.YthgbjnchhaoceaaDoor

/-- The most that lie there at once, from n that lie there, where a was the most up to now. -/
def depF : List TI → Nat → Nat → Nat
  | [], _, a => a
  | x :: l, n, a => depF l (n + 1 - needsI x.1) (max a (n + 1 - needsI x.1))
/-- How many lie there at the end. -/
def highF : List TI → Nat → Nat
  | [], n => n
  | x :: l, n => highF l (n + 1 - needsI x.1)
/-- What DepthOf answers. -/
def depthR (l : List TI) : Nat := if sumB l = true then depF l 0 0 else 0
theorem depF_append : ∀ (l m : List TI) (n a : Nat), depF (l ++ m) n a = depF m (highF l n) (depF l n a)
  | [], _, _, _ => rfl
  | x :: l, m, n, a => depF_append l m (n + 1 - needsI x.1) (max a (n + 1 - needsI x.1))
theorem highF_append : ∀ (l m : List TI) (n : Nat), highF (l ++ m) n = highF m (highF l n)
  | [], _, _ => rfl
  | x :: l, m, n => highF_append l m (n + 1 - needsI x.1)
theorem heap_high : ∀ (l : List TI) (n h : Nat), heapN l n = some h → highF l n = h
  | [], n, h, e => by
    have e' : some n = some h := e
    cases e'; rfl
  | x :: l, n, h, e => by
    unfold heapN at e
    split at e
    · exact heap_high l _ h e
    · cases e
theorem depF_max : ∀ (l : List TI) (n a : Nat), depF l n a = max a (depF l n 0)
  | [], _, a => by show a = max a 0; omega
  | x :: l, n, a => by
    show depF l (n + 1 - needsI x.1) (max a (n + 1 - needsI x.1)) = max a (depF l (n + 1 - needsI x.1) (max 0 (n + 1 - needsI x.1)))
    rw [depF_max l _ (max a _), depF_max l _ (max 0 _)]
    omega
theorem depF_shift : ∀ (l : List TI) (n a h k : Nat), heapN l n = some h → depF l (n + k) (a + k) = depF l n a + k
  | [], _, _, _, _, _ => rfl
  | x :: l, n, a, h, k, e => by
    unfold heapN at e
    split at e
    · rename_i hc
      show depF l (n + k + 1 - needsI x.1) (max (a + k) (n + k + 1 - needsI x.1)) = depF l (n + 1 - needsI x.1) (max a (n + 1 - needsI x.1)) + k
      have h1 : n + k + 1 - needsI x.1 = (n + 1 - needsI x.1) + k := by have := hc.2; omega
      have h2 : max (a + k) ((n + 1 - needsI x.1) + k) = max a (n + 1 - needsI x.1) + k := by omega
      rw [h1, h2]
      exact depF_shift l _ _ h k e
    · cases e
theorem depF_high : ∀ (l : List TI) (n a : Nat), n ≤ a → highF l n ≤ depF l n a
  | [], _, _, h => h
  | x :: l, n, a, _ => depF_high l _ _ (by omega)
theorem sum_heap {l : List TI} (h : sumB l = true) : heapN l 0 = some 1 ∧ l.length ≤ 40 := by
  unfold sumB at h
  simpa using h
theorem depth_pos {l : List TI} (h : sumB l = true) : 1 ≤ depthR l := by
  unfold depthR
  rw [if_pos h]
  have := depF_high l 0 0 (Nat.le_refl _)
  rw [heap_high l 0 1 (sum_heap h).1] at this
  exact this
theorem depF_le : ∀ (l : List TI) (n a : Nat), depF l n a ≤ max a (n + l.length)
  | [], _, _ => by show _ ≤ max _ _; unfold depF; omega
  | x :: l, n, a => by
    have := depF_le l (n + 1 - needsI x.1) (max a (n + 1 - needsI x.1))
    show depF l (n + 1 - needsI x.1) (max a (n + 1 - needsI x.1)) ≤ _
    simp only [List.length_cons]
    omega
theorem depth_le {l : List TI} : depthR l ≤ 40 := by
  unfold depthR
  split
  · rename_i h
    have := depF_le l 0 0
    have := (sum_heap h).2
    omega
  · omega
/-- Two sums side by side are a sum. -/
theorem both_sum {l m : List TI} (hl : sumB l = true) (hm : sumB m = true) (h : l.length + m.length < 40) : sumB (l ++ m ++ [opI 3]) = true := by
  obtain ⟨t, ht, rfl⟩ := sum_tree hl
  obtain ⟨u, hu, rfl⟩ := sum_tree hm
  unfold sumB
  rw [heapN_append, heapN_append, tree_sum ht 0]
  show (decide (((heapN u.post 1).bind (heapN [opI 3])) = some 1) && _) = true
  rw [tree_sum hu 1]
  simp only [List.length_append, List.length_cons, List.length_nil]
  rw [decide_eq_true (p := _ ≤ 40) (by omega), Bool.and_true]
  rfl
theorem not_sum {l : List TI} (hl : sumB l = true) (h : l.length < 40) : sumB (l ++ [opI 11]) = true := by
  unfold sumB
  rw [heapN_append, (sum_heap hl).1]
  simp only [List.length_append, List.length_cons, List.length_nil]
  rw [decide_eq_true (p := _ ≤ 40) (by omega), Bool.and_true]
  rfl
/-- The depth of two sums side by side. -/
theorem depth_both {l m : List TI} (hl : sumB l = true) (hm : sumB m = true) (h : l.length + m.length < 40) : depthR (l ++ m ++ [opI 3]) = max (depthR l) (depthR m + 1) := by
  have hp := depth_pos hl
  have h1 := both_sum hl hm h
  unfold depthR at hp ⊢
  rw [if_pos h1, if_pos hl, if_pos hm]
  rw [if_pos hl] at hp
  obtain ⟨hl1, _⟩ := sum_heap hl
  obtain ⟨hm1, _⟩ := sum_heap hm
  rw [depF_append, depF_append, highF_append, heap_high l 0 1 hl1]
  have hs := depF_shift m 0 0 1 1 hm1
  rw [Nat.zero_add] at hs
  have e1 := depF_max m 1 (depF l 0 0)
  have e2 := depF_max m 1 1
  rw [e1]
  have h2 : highF m 1 = 2 := by
    obtain ⟨u, hu, rfl⟩ := sum_tree hm
    exact heap_high _ _ _ (tree_sum hu 1)
  rw [h2]
  show max (max (depF l 0 0) (depF m 1 0)) (2 + 1 - 2) = _
  omega
theorem depth_not {l : List TI} (hl : sumB l = true) (h : l.length < 40) : depthR (l ++ [opI 11]) = depthR l := by
  have hp := depth_pos hl
  have h1 := not_sum hl h
  unfold depthR at hp ⊢
  rw [if_pos h1, if_pos hl]
  rw [if_pos hl] at hp
  rw [depF_append, heap_high l 0 1 (sum_heap hl).1]
  show max (depF l 0 0) (1 + 1 - 1) = _
  omega
theorem depF_snoc {l : List TI} {k : Nat} (h : k < l.length) (n a : Nat) : depF (l.take (k + 1)) n a = max (depF (l.take k) n a) (highF (l.take k) n + 1 - needsI l[k].1) := by
  rw [List.take_succ_eq_append_getElem h, depF_append]
  rfl
theorem highF_snoc {l : List TI} {k : Nat} (h : k < l.length) (n : Nat) : highF (l.take (k + 1)) n = highF (l.take k) n + 1 - needsI l[k].1 := by
  rw [List.take_succ_eq_append_getElem h, highF_append]
  rfl
/-- In a sum each item finds what it needs. -/
theorem sum_needs {l : List TI} (h : sumB l = true) {k : Nat} (hk : k < l.length) : itemB l[k] = true ∧ needsI l[k].1 ≤ highF (l.take k) 0 := by
  have h1 := (sum_heap h).1
  have e : l = l.take k ++ (l[k] :: l.drop (k + 1)) := by
    rw [← List.drop_eq_getElem_cons hk, List.take_append_drop]
  rw [e, heapN_append] at h1
  cases ht : heapN (l.take k) 0 with
  | none => rw [ht] at h1; cases h1
  | some c =>
    rw [ht] at h1
    have h2 : heapN (l[k] :: l.drop (k + 1)) c = some 1 := h1
    unfold heapN at h2
    split at h2
    · rename_i hc
      rw [heap_high _ _ _ ht]
      exact hc
    · cases h2
end Go.Proofs.YthgbjnchhaoceaaDoor

/-
  The contracts of the model's questions for an item and for a sum.
-/
namespace Go.Proofs.YthgbjnchhaoceaaDoor
open Go.ChangeShapes Go.WideShapes Go.ChangeAt Go.RowKit
attribute [local go_sem ↓] Go.wp_at_zero Go.wp_at_succ
attribute [local simp] World.cell?_alloc_past World.cell?_alloc_at World.frozen?_alloc_at cell_far cell_off cell_here World.frozen?_alloc_past

theorem needs_spec (k : Int) (n : Nat) (hn : needsI k = n) (w : World) :
    Calls Tryd.prog 18 #[.int .i64 k] w fun e w' => e = .returned (.int .i64 (n : Int)) ∧ w' = w := by
  unfold needsI at hn
  by_cases h1 : k ≤ 2
  · rw [if_pos h1] at hn
    subst hn
    go_enter Tryd.func18, Tryd.ntmps18
    go_wp2
    go_ret
    exact ⟨rfl, rfl⟩
  rw [if_neg h1] at hn
  by_cases h2 : 11 ≤ k
  · rw [if_pos h2] at hn
    subst hn
    go_enter Tryd.func18, Tryd.ntmps18
    go_wp2
    go_ret
    exact ⟨rfl, rfl⟩
  rw [if_neg h2] at hn
  subst hn
  go_enter Tryd.func18, Tryd.ntmps18
  go_wp2
  go_ret
  exact ⟨rfl, rfl⟩
theorem zero_txt (s : ByteArray) (b : Bool) (h : decide (s = ⟨#[]⟩) = b) : (s.toList == []) = b := by
  rw [← h]
  by_cases e : s = ⟨#[]⟩
  · rw [decide_eq_true e, e]; simp [Lib.toList_data]
  · rw [decide_eq_false e]
    have := txt_other e
    rw [show (⟨#[]⟩ : ByteArray).toList = [] from by rw [Lib.toList_data]] at this
    exact this
theorem run_eqlI (k ck cn : Int) (ct s : ByteArray) (w : World) :
    (binOp .eql 31 (.agg #[.int .i64 k, .int .i64 ck, .int .i64 cn, .string ct, .string s]) (.agg #[.int .i64 k, .int .i64 0, .int .i64 0, .string ⟨#[]⟩, .string ⟨#[]⟩])).run Tryd.prog w = .ok (.bool ((ck == 0 && cn == 0) && (ct.toList == [] && s.toList == []))) w := by
  by_cases h1 : ck = 0
  · by_cases h2 : cn = 0
    · subst h1 h2
      by_cases h3 : ct.toList = []
      · by_cases h4 : s.toList = []
        · go_simp
        · go_simp
      · go_simp
    · go_simp
  · go_simp
set_option maxHeartbeats 2000000 in
theorem item_spec (x : TI) (w : World) (h1 : x.2.2.size ≤ maxLen) (h2 : x.2.1.2.2.size ≤ maxLen) (b : Bool) (hb : itemB x = b) :
    Calls Tryd.prog 20 #[.agg #[.int .i64 x.1, .int .i64 x.2.1.1, .int .i64 x.2.1.2.1, .string x.2.1.2.2, .string x.2.2]] w fun e w' => e = .returned (.bool b) ∧ Below w.heap.size w w' := by
  obtain ⟨k, ⟨ck, cn, ct⟩, s⟩ := x
  dsimp only at h1 h2 ⊢
  have hA : Below w.heap.size w (w.alloc (.cells #[.int .i64 k, .int .i64 ck, .int .i64 cn, .string ct, .string s] 31)) := (Below.refl _ _).alloc (Nat.le_refl _) _
  unfold itemB at hb
  dsimp only at hb
  by_cases k1 : k = 1
  · subst k1
    rw [if_pos rfl] at hb
    obtain ⟨b1, e1⟩ : ∃ x, okC (ck, cn, ct) = x := ⟨_, rfl⟩
    obtain ⟨b2, e2⟩ : ∃ x, decide (s = ⟨#[]⟩) = x := ⟨_, rfl⟩
    rw [e1, e2] at hb
    have hq := zero_txt s b2 e2
    have E1 : Hid (okB ck cn ct = b1) := e1
    clear e1 e2
    cases b1
    · obtain rfl : false = b := hb
      go_enter Tryd.func20, Tryd.ntmps20
      go_wp2_with fail
      refine (ok_specb ck cn ct false E1.out _ h2).mono ?_
      rintro e w1 ⟨rfl, hb1⟩
      have hx := chain hA hb1
      go_wp2
      go_ret
      exact ⟨rfl, hx⟩
    · obtain rfl : b2 = b := hb
      go_enter Tryd.func20, Tryd.ntmps20
      go_wp2_with fail
      refine (ok_specb ck cn ct true E1.out _ h2).mono ?_
      rintro e w1 ⟨rfl, hb1⟩
      have hx := chain hA hb1
      obtain ⟨hc, hf⟩ := bcell hb1
      have c1 : w1.cell? ⟨w.heap.size, 4, none⟩ = some (.string s) := by rw [hc _ _ (by simp)]; simp
      clear hc hf
      go_wp2
      go_ret
      exact ⟨rfl, hx⟩
  rw [if_neg k1] at hb
  by_cases k2 : k = 2
  · subst k2
    rw [if_pos rfl] at hb
    obtain ⟨b1, e1⟩ : ∃ x, nameK s = x := ⟨_, rfl⟩
    obtain ⟨b2, e2⟩ : ∃ x, decide ((ck, cn, ct) = zeroC) = x := ⟨_, rfl⟩
    rw [e1, e2] at hb
    have hz := zeroC_same (ck, cn, ct) b2 e2
    dsimp only at hz
    have hq := fun w' => run_eql ck cn ct 0 0 ⟨#[]⟩ w'
    rw [hz] at hq
    have E1 : Hid (nameK s = b1) := e1
    clear e1 e2 hz
    cases b1
    · obtain rfl : false = b := hb
      go_enter Tryd.func20, Tryd.ntmps20
      go_wp2_with fail
      refine (namek_spec s _ h1 false E1.out).mono ?_
      rintro e w1 ⟨rfl, hb1⟩
      have hx := chain hA hb1
      go_wp2
      go_ret
      exact ⟨rfl, hx⟩
    · obtain rfl : b2 = b := hb
      go_enter Tryd.func20, Tryd.ntmps20
      go_wp2_with fail
      refine (namek_spec s _ h1 true E1.out).mono ?_
      rintro e w1 ⟨rfl, hb1⟩
      have hx := chain hA hb1
      obtain ⟨hc, hf⟩ := bcell hb1
      have c1 : w1.cell? ⟨w.heap.size, 1, none⟩ = some (.int .i64 ck) := by rw [hc _ _ (by simp)]; simp
      have c2 : w1.cell? ⟨w.heap.size, 2, none⟩ = some (.int .i64 cn) := by rw [hc _ _ (by simp)]; simp
      have c3 : w1.cell? ⟨w.heap.size, 3, none⟩ = some (.string ct) := by rw [hc _ _ (by simp)]; simp
      clear hc hf
      go_wp2
      go_ret
      exact ⟨rfl, hx⟩
  rw [if_neg k2] at hb
  have hq := fun w' => run_eqlI k ck cn ct s w'
  obtain ⟨b2, e2⟩ : ∃ x, ((ck == 0 && cn == 0) && (ct.toList == [] && s.toList == [])) = x := ⟨_, rfl⟩
  rw [e2] at hq
  have e3 : decide (((k, (ck, cn, ct), s) : TI) = opI k) = b2 := by
    rw [← e2]
    have g1 := zero_txt ct _ rfl
    have g2 := zero_txt s _ rfl
    rw [g1, g2, Bool.eq_iff_iff, decide_eq_true_eq]
    unfold opI zeroC
    simp [and_assoc]
  rw [e3] at hb
  clear e2 e3
  by_cases h3 : 3 ≤ k ∧ k ≤ 12
  · rw [decide_eq_true h3.1, decide_eq_true h3.2] at hb
    obtain rfl : b2 = b := by simpa using hb
    clear hb
    go_enter Tryd.func20, Tryd.ntmps20
    go_wp2_with fail
    refine (in_spec k 3 12 _).mono ?_
    rintro e w1 ⟨rfl, rfl⟩
    rw [decide_eq_true h3.1, decide_eq_true h3.2]
    go_wp2
    go_ret
    exact ⟨rfl, hA⟩
  · have hbf : b = false := by
      rw [← hb]
      by_cases h4 : 3 ≤ k
      · rw [decide_eq_false (fun h5 => h3 ⟨h4, h5⟩)]; simp
      · rw [decide_eq_false h4]; simp
    subst hbf
    clear hb
    have h5 : (decide (3 ≤ k) && decide (k ≤ 12)) = false := by
      by_cases h4 : 3 ≤ k
      · rw [decide_eq_false (fun h5 => h3 ⟨h4, h5⟩)]; simp
      · rw [decide_eq_false h4]; simp
    go_enter Tryd.func20, Tryd.ntmps20
    go_wp2_with fail
    refine (in_spec k 3 12 _).mono ?_
    rintro e w1 ⟨rfl, rfl⟩
    rw [h5]
    go_wp2
    go_ret
    exact ⟨rfl, hA⟩
theorem heap_step (l : List TI) (k : Nat) (h : k < l.length) (c : Nat) (hc : heapN (l.take k) 0 = some c) : heapN (l.take (k + 1)) 0 = if itemB l[k] = true ∧ needsI l[k].1 ≤ c then some (c + 1 - needsI l[k].1) else none := by
  rw [List.take_succ_eq_append_getElem h, heapN_append, hc]
  simp only [Option.bind_some, heapN]
theorem heap_no (l : List TI) (k : Nat) (h : heapN (l.take k) 0 = none) : sumB l = false := by
  unfold sumB
  have : heapN l 0 = none := by
    conv => lhs; rw [← List.take_append_drop k l]
    rw [heapN_append, h]; rfl
  rw [this]; simp
set_option maxRecDepth 100000 in
set_option maxHeartbeats 2000000 in
theorem sum_spec (a : Option Addr) (cap : Nat) (l : List TI) (n : Nat) (hn : l.length = n) (w : World) (hrow : ItmAt w a l) (hfit : FitItm l) (hm : n ≤ maxLen) (b : Bool) (hb : sumB l = b) :
    Calls Tryd.prog 10 #[.slice a n cap] w fun e w' => e = .returned (.bool b) ∧ Below w.heap.size w w' := by
  subst hn
  have HR : Hid (ItmAt w a l) := hrow
  have HF : Hid (FitItm l) := hfit
  have HB : Hid (sumB l = b) := hb
  clear hrow hfit hb
  unfold maxLen at hm
  go_enter Tryd.func10, Tryd.ntmps10
  go_wp2
  go_loopw [3, 4] (fun nv kk wr => ∃ k c : Nat, k ≤ l.length ∧ kk = .int .i64 k ∧ nv = .int .i64 c ∧ c ≤ k ∧ Hid (heapN (l.take k) 0 = some c) ∧ Below w.heap.size w wr) (fun _ kk _ => l.length - (intOf kk).toNat)
  case atStart => exact ⟨0, 0, Nat.zero_le _, rfl, rfl, Nat.le_refl _, rfl, Below.refl _ _⟩
  case round =>
    obtain ⟨k, c, hk, rfl, rfl, hck, hhp, hbw⟩ := hrel
    by_cases hlt : k < l.length
    · obtain ⟨g, o, rfl, hgw, c0, c1, c2, c3, c4⟩ := HR.out.below hbw k hlt
      have hi0 : (0 : Int) ≤ (k : Int) := by omega
      have hi1 : (k : Int) < (l.length : Int) := by omega
      obtain ⟨hf1, hf2⟩ := HF.out k hlt
      have hst := heap_step l k hlt c hhp.out
      have HNO : Hid (heapN (l.take (k + 1)) 0 = none → b = false) := by
        have : heapN (l.take (k + 1)) 0 = none → b = false := fun h => by rw [← HB.out]; exact heap_no l (k + 1) h
        exact this
      obtain ⟨r, hr⟩ : ∃ r, itemB l[k] = r := ⟨_, rfl⟩
      obtain ⟨d, hd⟩ : ∃ d, needsI l[k].1 = d := ⟨_, rfl⟩
      rw [hr, hd] at hst
      have HST : Hid (heapN (l.take (k + 1)) 0 = if r = true ∧ d ≤ c then some (c + 1 - d) else none) := hst
      have HRR : Hid (itemB l[k] = r) := hr
      have HD : Hid (needsI l[k].1 = d) := hd
      have hd2 : d ≤ 2 := by rw [← hd]; unfold needsI; (repeat' split) <;> omega
      clear hst hr hd
      generalize l[k] = x at c0 c1 c2 c3 c4 hf1 hf2 HRR HD
      go_wp2_with fail
      refine (item_spec x _ hf2 hf1 r HRR.out).mono ?_
      rintro e w1 ⟨rfl, hb1⟩
      have hx1 := chain hbw hb1
      cases r
      · obtain rfl : b = false := HNO.out (by rw [HST.out, if_neg (by simp)])
        clear c0 c1 c2 c3 c4
        go_wp2
        go_ret
        exact ⟨rfl, hx1⟩
      rw [← hb1.cell (p := ⟨g, _, none⟩) hgw] at c0 c1 c2 c3 c4
      clear hb1
      go_wp2_with fail
      refine (needs_spec x.1 d HD.out _).mono ?_
      rintro e w2 ⟨rfl, rfl⟩
      by_cases hcd : d ≤ c
      · have h1 : ¬ (c : Int) < (d : Int) := by omega
        have HS2 : Hid (heapN (l.take (k + 1)) 0 = some (c + 1 - d)) := by
          have : heapN (l.take (k + 1)) 0 = some (c + 1 - d) := by rw [HST.out]; simp [hcd]
          exact this
        have hz : ((c + 1 - d : Nat) : Int) = (c : Int) + 1 - (d : Int) := by omega
        go_wp2_with fail
        refine (needs_spec x.1 d HD.out _).mono ?_
        rintro e w3 ⟨rfl, rfl⟩
        clear c0 c1 c2 c3 c4
        go_wp2
        go_roundw
        case rel => exact ⟨k + 1, c + 1 - d, by omega, by go_num, by rw [hz], by omega, HS2, hx1⟩
        case measure => simp [intOf]; omega
      · have h1 : (c : Int) < (d : Int) := by omega
        obtain rfl : b = false := HNO.out (by rw [HST.out, if_neg (fun h => hcd h.2)])
        clear c0 c1 c2 c3 c4
        go_wp2
        go_ret
        exact ⟨rfl, hx1⟩
    · have hkl : k = l.length := by omega
      subst hkl
      have hi1 : ¬ (l.length : Int) < (l.length : Int) := by omega
      have hh := hhp.out
      rw [List.take_length] at hh
      have HBB : Hid ((decide (c = 1) && decide (l.length ≤ 40)) = b) := by
        have : (decide (c = 1) && decide (l.length ≤ 40)) = b := by
          rw [← HB.out]; unfold sumB; rw [hh]; simp
        exact this
      clear hh
      by_cases e1 : c = 1
      · subst e1
        go_wp2
        go_ret
        exact ⟨ret_bool (by rw [← HBB.out]; simp; omega), hbw⟩
      · have e2 : ¬ (c : Int) = 1 := by omega
        have e3 : ((c : Int) == 1) = false := by simpa using e2
        go_wp2
        go_ret
        exact ⟨ret_bool (by rw [← HBB.out]; simp [e1]), hbw⟩
end Go.Proofs.YthgbjnchhaoceaaDoor

/-
  A block of five cells that was laid, behind what came later.
-/
namespace Go.Proofs.YthgbjnchhaoceaaDoor
open Go.ChangeShapes Go.WideShapes Go.ChangeAt Go.RowKit

theorem box5 {w w1 : World} {a b c d e : Value} {T : TypeId} (h : Below (w.alloc (.cells #[a, b, c, d, e] T)).heap.size (w.alloc (.cells #[a, b, c, d, e] T)) w1) :
    w1.cell? ⟨w.heap.size, 0, none⟩ = some a ∧ w1.cell? ⟨w.heap.size, 1, none⟩ = some b ∧ w1.cell? ⟨w.heap.size, 2, none⟩ = some c ∧ w1.cell? ⟨w.heap.size, 3, none⟩ = some d ∧ w1.cell? ⟨w.heap.size, 4, none⟩ = some e ∧ w.heap.size < w1.heap.size := by
  have hs := h.size
  have key : ∀ o, w1.cell? ⟨w.heap.size, o, none⟩ = (w.alloc (.cells #[a, b, c, d, e] T)).cell? ⟨w.heap.size, o, none⟩ := fun o => h.cell (p := ⟨w.heap.size, o, none⟩) (by simp)
  simp only [key]
  refine ⟨?_, ?_, ?_, ?_, ?_, by simp at hs; omega⟩ <;> simp [World.cell?_alloc_at]

theorem later5 {w w' : World} {B : Nat} {a b c d e : Value} (hb : Below w.heap.size w w') (h : w.cell? ⟨B, 0, none⟩ = some a ∧ w.cell? ⟨B, 1, none⟩ = some b ∧ w.cell? ⟨B, 2, none⟩ = some c ∧ w.cell? ⟨B, 3, none⟩ = some d ∧ w.cell? ⟨B, 4, none⟩ = some e ∧ B < w.heap.size) :
    w'.cell? ⟨B, 0, none⟩ = some a ∧ w'.cell? ⟨B, 1, none⟩ = some b ∧ w'.cell? ⟨B, 2, none⟩ = some c ∧ w'.cell? ⟨B, 3, none⟩ = some d ∧ w'.cell? ⟨B, 4, none⟩ = some e ∧ B < w'.heap.size := by
  obtain ⟨h0, h1, h2, h3, h4, hB⟩ := h
  have key : ∀ o, w'.cell? ⟨B, o, none⟩ = w.cell? ⟨B, o, none⟩ := fun o => hb.cell (p := ⟨B, o, none⟩) hB
  have hs := hb.size
  exact ⟨(key _).trans h0, (key _).trans h1, (key _).trans h2, (key _).trans h3, (key _).trans h4, by omega⟩

end Go.Proofs.YthgbjnchhaoceaaDoor

/-
  The contract of the model's question whether texts are names, no two alike, and not too many.
-/
namespace Go.Proofs.YthgbjnchhaoceaaDoor
open Go.ChangeShapes Go.WideShapes Go.ChangeAt Go.RowKit
attribute [local go_sem ↓] Go.wp_at_zero Go.wp_at_succ
attribute [local simp] World.cell?_alloc_past World.cell?_alloc_at World.frozen?_alloc_at cell_far cell_off cell_here World.frozen?_alloc_past

theorem StrsAt.take {w : World} {a : Option Addr} {l : List ByteArray} (h : StrsAt w a l) (k : Nat) : StrsAt w a (l.take k) := by
  intro j hj
  have hj' : j < l.length := by rw [List.length_take] at hj; omega
  rw [List.getElem_take]
  exact h j hj'
theorem at_specN (n : Nat) (a : Option Addr) (cap : Nat) (l : List ByteArray) (hn : l.length = n) (s : ByteArray) (w : World) (hrow : StrsAt w a l) (hm : n ≤ maxLen) :
    Calls Tryd.prog 44 #[.slice a n cap, .string s] w fun e w' => ∃ r, e = .returned (.int .i64 r) ∧ AtIs l s r ∧ Below w.heap.size w w' := by
  subst hn; exact at_spec a cap l s w hrow hm

end Go.Proofs.YthgbjnchhaoceaaDoor
