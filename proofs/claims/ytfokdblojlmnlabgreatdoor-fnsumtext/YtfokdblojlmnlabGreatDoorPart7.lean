/-
  A part of the proof: Lists4, Lists5, Lists6, Lists7, Itm2, SumDraw2.
-/
import Derived.Test.YtfokdblojlmnlabGreatDoorPart5
import Derived.Laws.IdiomStrings
import Derived.Laws.Concat
import Derived.Test.YtfokdblojlmnlabGreatDoorPart6

/-
  Lists of lists of cells: how they lie in memory, and the contracts of the law's helpers that measure them and hold two of them against each other.
-/
namespace Go.Proofs.YtfokdblojlmnlabGreatDoor
open Go.ChangeShapes Go.WideShapes Go.ChangeAt Go.RowKit
attribute [local go_sem ↓] Go.wp_at_zero Go.wp_at_succ

/-- The lists of a slice of slices lie where it says. -/
def RowsAt (w : World) (a : Option Addr) (L : List (List CT)) : Prop :=
  ∀ i (h : i < L.length), ∃ b o ai ci, a = some ⟨b, o, none⟩ ∧ b < w.heap.size ∧ w.cell? ⟨b, o + i, none⟩ = some (.slice ai L[i].length ci) ∧ RowAt w ai L[i] ∧ Fit L[i] ∧ L[i].length ≤ maxLen ∧ (ai = none → ci = 0)
theorem RowsAt.below {w w' : World} {a : Option Addr} {L : List (List CT)} (h : RowsAt w a L) (hb : Below w.heap.size w w') : RowsAt w' a L := by
  intro i hi
  obtain ⟨b, o, ai, ci, ha, hlt, h0, h1, h2⟩ := h i hi
  refine ⟨b, o, ai, ci, ha, Nat.lt_of_lt_of_le hlt hb.size, ?_, h1.below hb, h2⟩
  rw [hb.cell (p := ⟨b, _, none⟩) hlt]; exact h0
/-- How much a list of lists takes of a measure. -/
def total (L : List (List CT)) : Nat := (L.map fun l => l.length + weight l).sum
theorem total_take (L : List (List CT)) (k : Nat) (h : k < L.length) : total (L.take (k + 1)) = total (L.take k) + ((L[k]).length + weight L[k]) := by
  unfold total
  rw [List.take_succ_eq_append_getElem h, List.map_append, List.sum_append]; simp
theorem total_le (L : List (List CT)) (k : Nat) : total (L.take k) ≤ total L := by
  unfold total
  conv => rhs; rw [← List.take_append_drop k L, List.map_append, List.sum_append]
  omega

end Go.Proofs.YtfokdblojlmnlabGreatDoor

/-
  The text that the law's helper writes to mark a cell: what it is hangs on its number alone.
-/
namespace Go.Proofs.YtfokdblojlmnlabGreatDoor
open Go.ChangeShapes Go.WideShapes Go.ChangeAt Go.RowKit
attribute [local go_sem ↓] Go.wp_at_zero Go.wp_at_succ

/-- The last digit of k, as a byte. -/
def dig (k : Nat) : UInt8 := UInt8.ofNat (48 + k % 10)
theorem dig_nat (k : Nat) : (dig k).toNat = 48 + k % 10 := by unfold dig; rw [UInt8.toNat_ofNat']; omega
/-- The digits of k ahead of what is there. -/
def digs : Nat → Nat → ByteArray → ByteArray
  | 0, _, out => out
  | f + 1, k, out => if k = 0 then out else digs f (k / 10) (⟨#[dig k]⟩ ++ out)
/-- The text that marks k. -/
def mt (k : Nat) : ByteArray := ⟨#[109]⟩ ++ digs k k ⟨#[]⟩

theorem digs_step (m : Nat) (out : ByteArray) (h : 0 < m) : digs m m out = digs (m / 10) (m / 10) (⟨#[dig m]⟩ ++ out) := by
  have fuel : ∀ (k f g : Nat) (out : ByteArray), k ≤ f → k ≤ g → digs f k out = digs g k out := by
    intro k
    induction k using Nat.strongRecOn with
    | _ k ih =>
      intro f g out hf hg
      cases f with
      | zero =>
        have : k = 0 := by omega
        subst this
        cases g <;> simp [digs]
      | succ f =>
        cases g with
        | zero =>
          have : k = 0 := by omega
          subst this
          simp [digs]
        | succ g =>
          by_cases hk : k = 0
          · simp [digs, hk]
          · rw [digs, digs, if_neg hk, if_neg hk]
            exact ih (k / 10) (by omega) f g _ (by omega) (by omega)
  cases m with
  | zero => omega
  | succ m =>
    rw [digs, if_neg (by omega)]
    exact fuel _ _ _ _ (by omega) (by omega)

end Go.Proofs.YtfokdblojlmnlabGreatDoor

/-
  The contracts of the law's helpers that mark the cells of a list, one number behind the other, and that look whether the marks are still there.
-/
namespace Go.Proofs.YtfokdblojlmnlabGreatDoor
open Go.ChangeShapes Go.WideShapes Go.ChangeAt Go.RowKit
attribute [local go_sem ↓] Go.wp_at_zero Go.wp_at_succ

/-- The i-th mark from k on. -/
def mark1 (k i : Nat) : CT := (((k + 3 * i : Nat) : Int), ((k + 3 * i + 1 : Nat) : Int), mt (k + 3 * i + 2))
/-- The marks of a list of n cells. -/
def marks (k n : Nat) : List CT := (List.range n).map (mark1 k)
theorem marks_length (k n : Nat) : (marks k n).length = n := by simp [marks]
theorem marks_at (k n i : Nat) (h : i < (marks k n).length) : (marks k n)[i] = mark1 k i := by simp [marks]
theorem marks_step (k : Nat) (l : List CT) (i : Nat) (h : i < l.length) : (marks k i ++ l.drop i).set i (mark1 k i) = marks k (i + 1) ++ l.drop (i + 1) := by
  rw [List.set_append_right _ _ (by rw [marks_length]; omega), marks_length, Nat.sub_self]
  have e : l.drop i = l[i] :: l.drop (i + 1) := List.drop_eq_getElem_cons h
  rw [e, List.set_cons_zero]
  simp [marks, List.range_succ]

/-- The cells of a slice may be written. -/
def Free (w : World) (a : Option Addr) (n : Nat) : Prop := ∀ b o, a = some ⟨b, o, none⟩ → ∀ j, j < n * 3 → w.frozen? ⟨b, o + j, none⟩ = false
/-- The block in which a slice of n cells lies, where it has one. -/
def inBlk (a : Option Addr) (n b : Nat) : Prop := 0 < n ∧ ∃ o, a = some ⟨b, o, none⟩

theorem RowAt.upd {w w' : World} {b o : Nat} {l : List CT} {i : Nat} {x : CT} (h : RowAt w (some ⟨b, o, none⟩) l) (hs : w.heap.size ≤ w'.heap.size)
    (hfar : ∀ q, q ≠ o + i * 3 → q ≠ o + i * 3 + 1 → q ≠ o + i * 3 + 2 → w'.cell? ⟨b, q, none⟩ = w.cell? ⟨b, q, none⟩)
    (h0 : w'.cell? ⟨b, o + i * 3, none⟩ = some (.int .i64 x.1)) (h1 : w'.cell? ⟨b, o + i * 3 + 1, none⟩ = some (.int .i64 x.2.1)) (h2 : w'.cell? ⟨b, o + i * 3 + 2, none⟩ = some (.string x.2.2)) :
    RowAt w' (some ⟨b, o, none⟩) (l.set i x) := by
  intro j hj
  have hj' : j < l.length := by simpa using hj
  obtain ⟨b', o', e, hlt, c0, c1, c2⟩ := h j hj'
  cases e
  refine ⟨b, o, rfl, Nat.lt_of_lt_of_le hlt hs, ?_⟩
  by_cases hij : i = j
  · subst hij
    rw [List.getElem_set_self]
    exact ⟨h0, h1, h2⟩
  · rw [List.getElem_set_ne hij]
    refine ⟨?_, ?_, ?_⟩
    · rw [hfar _ (by omega) (by omega) (by omega)]; exact c0
    · rw [hfar _ (by omega) (by omega) (by omega)]; exact c1
    · rw [hfar _ (by omega) (by omega) (by omega)]; exact c2

theorem Free.upd {w w' : World} {a : Option Addr} {n : Nat} (h : Free w a n) (hf : ∀ b o q, a = some ⟨b, o, none⟩ → w'.frozen? ⟨b, q, none⟩ = w.frozen? ⟨b, q, none⟩) : Free w' a n :=
  fun b o e j hj => by rw [hf b o _ e]; exact h b o e j hj

end Go.Proofs.YtfokdblojlmnlabGreatDoor

/-
  The contract of the law's helper that looks whether the marks of a list of cells are still there.
-/
namespace Go.Proofs.YtfokdblojlmnlabGreatDoor
open Go.ChangeShapes Go.WideShapes Go.ChangeAt Go.RowKit
attribute [local go_sem ↓] Go.wp_at_zero Go.wp_at_succ

end Go.Proofs.YtfokdblojlmnlabGreatDoor

/-
  The contracts of the law's helpers that mark the Items of a list, one number behind the other, and that look whether the marks are still there.
-/
namespace Go.Proofs.YtfokdblojlmnlabGreatDoor
open Go.ChangeShapes Go.WideShapes Go.ChangeAt Go.RowKit
attribute [local go_sem ↓] Go.wp_at_zero Go.wp_at_succ

/-- The i-th mark from k on. -/
def mark1Itm (k i : Nat) : TI := (((k + 5 * i : Nat) : Int), (((k + 5 * i + 1 : Nat) : Int), ((k + 5 * i + 2 : Nat) : Int), mt (k + 5 * i + 3)), mt (k + 5 * i + 4))
def marksItm (k n : Nat) : List TI := (List.range n).map (mark1Itm k)
theorem marksItm_length (k n : Nat) : (marksItm k n).length = n := by simp [marksItm]
theorem marksItm_at (k n i : Nat) (h : i < (marksItm k n).length) : (marksItm k n)[i] = mark1Itm k i := by simp [marksItm]
theorem marksItm_step (k : Nat) (l : List TI) (i : Nat) (h : i < l.length) : (marksItm k i ++ l.drop i).set i (mark1Itm k i) = marksItm k (i + 1) ++ l.drop (i + 1) := by
  rw [List.set_append_right _ _ (by rw [marksItm_length]; omega), marksItm_length, Nat.sub_self]
  have e : l.drop i = l[i] :: l.drop (i + 1) := List.drop_eq_getElem_cons h
  rw [e, List.set_cons_zero]
  simp [marksItm, List.range_succ]
/-- The cells of a slice may be written. -/
def FreeItm (w : World) (a : Option Addr) (n : Nat) : Prop := ∀ b o, a = some ⟨b, o, none⟩ → ∀ j, j < n * 5 → w.frozen? ⟨b, o + j, none⟩ = false
theorem ItmAt.upd {w w' : World} {b o : Nat} {l : List TI} {i : Nat} {x : TI} (h : ItmAt w (some ⟨b, o, none⟩) l) (hs : w.heap.size ≤ w'.heap.size)
    (hfar : ∀ q, q ≠ o + i * 5 → q ≠ o + i * 5 + 1 → q ≠ o + i * 5 + 2 → q ≠ o + i * 5 + 3 → q ≠ o + i * 5 + 4 → w'.cell? ⟨b, q, none⟩ = w.cell? ⟨b, q, none⟩)
    (h0 : w'.cell? ⟨b, o + i * 5, none⟩ = some (.int .i64 x.1)) (h1 : w'.cell? ⟨b, o + i * 5 + 1, none⟩ = some (.int .i64 x.2.1.1)) (h2 : w'.cell? ⟨b, o + i * 5 + 2, none⟩ = some (.int .i64 x.2.1.2.1)) (h3 : w'.cell? ⟨b, o + i * 5 + 3, none⟩ = some (.string x.2.1.2.2)) (h4 : w'.cell? ⟨b, o + i * 5 + 4, none⟩ = some (.string x.2.2)) :
    ItmAt w' (some ⟨b, o, none⟩) (l.set i x) := by
  intro j hj
  have hj' : j < l.length := by simpa using hj
  obtain ⟨b', o', e, hlt, c0, c1, c2, c3, c4⟩ := h j hj'
  cases e
  refine ⟨b, o, rfl, Nat.lt_of_lt_of_le hlt hs, ?_⟩
  by_cases hij : i = j
  · subst hij
    rw [List.getElem_set_self]
    exact ⟨h0, h1, h2, h3, h4⟩
  · rw [List.getElem_set_ne hij]
    refine ⟨?_, ?_, ?_, ?_, ?_⟩
    · rw [hfar _ (by omega) (by omega) (by omega) (by omega) (by omega)]; exact c0
    · rw [hfar _ (by omega) (by omega) (by omega) (by omega) (by omega)]; exact c1
    · rw [hfar _ (by omega) (by omega) (by omega) (by omega) (by omega)]; exact c2
    · rw [hfar _ (by omega) (by omega) (by omega) (by omega) (by omega)]; exact c3
    · rw [hfar _ (by omega) (by omega) (by omega) (by omega) (by omega)]; exact c4
theorem FreeItm.upd {w w' : World} {a : Option Addr} {n : Nat} (h : FreeItm w a n) (hf : ∀ b o q, a = some ⟨b, o, none⟩ → w'.frozen? ⟨b, q, none⟩ = w.frozen? ⟨b, q, none⟩) : FreeItm w' a n :=
  fun b o e j hj => by rw [hf b o _ e]; exact h b o e j hj
theorem ItmAt.keepS {P : Nat → Prop} {w w' : World} {a : Option Addr} {l : List TI} (h : ItmAt w a l) (hk : KeepS P w w') (hP : ∀ b, inBlk a l.length b → ¬ P b) : ItmAt w' a l := by
  intro j hj
  obtain ⟨b, o, ha, hlt, c0, c1, c2, c3, c4⟩ := h j hj
  have hn := hP b ⟨by omega, o, ha⟩
  refine ⟨b, o, ha, Nat.lt_of_lt_of_le hlt hk.size, ?_, ?_, ?_, ?_, ?_⟩
  · rw [hk.cell hlt hn]; exact c0
  · rw [hk.cell hlt hn]; exact c1
  · rw [hk.cell hlt hn]; exact c2
  · rw [hk.cell hlt hn]; exact c3
  · rw [hk.cell hlt hn]; exact c4

end Go.Proofs.YtfokdblojlmnlabGreatDoor

/-
  The contracts of the model's draws of sums: any list of items.
-/
namespace Go.Proofs.YtfokdblojlmnlabGreatDoor
open Go.ChangeShapes Go.WideShapes Go.ChangeAt Go.RowKit
attribute [local go_sem ↓] Go.wp_at_zero Go.wp_at_succ
attribute [local simp] World.cell?_alloc_past World.cell?_alloc_at World.frozen?_alloc_at cell_far cell_off cell_here World.frozen?_alloc_past

/-- A list of items that lies from that place on. -/
def DrawnA (w : World) (B : Nat) (v : Value) (l : List TI) : Prop := ∃ g cap, v = .slice (some ⟨g, 0, none⟩) l.length cap ∧ B ≤ g ∧ ItmAt w (some ⟨g, 0, none⟩) l
theorem DrawnI.any {w : World} {B : Nat} {v : Value} {l : List TI} (h : DrawnI w B v l) : DrawnA w B v l := by
  obtain ⟨g, c, rfl⟩ := h.form
  exact ⟨g, c, rfl, (h.1.lt g rfl).1, ownItm h.1⟩
theorem ItmAt.set0 {w : World} {g : Nat} {l : List TI} {k : Nat} (h : ItmAt w (some ⟨g, 0, none⟩) l) (hk : k < l.length) (z : Int) : ItmAt (w.setCell ⟨g, k * 5, none⟩ (.int .i64 z)) (some ⟨g, 0, none⟩) (l.set k (z, l[k].2)) := by
  obtain ⟨b, o, e, hlt, c0, c1, c2, c3, c4⟩ := h k hk
  simp only [Option.some.injEq, Addr.mk.injEq, and_true] at e
  obtain ⟨rfl, rfl⟩ := e
  refine h.upd (i := k) (x := (z, l[k].2)) (by simp) (fun q h0 _ _ _ _ => cell_off _ _ _ _ _ (by omega)) ?_ ?_ ?_ ?_ ?_
  · rw [Nat.zero_add]; exact cell_here _ _ _ _ (by rw [Nat.zero_add] at c0; rw [c0]; rfl)
  · rw [cell_off _ _ _ _ _ (by omega)]; exact c1
  · rw [cell_off _ _ _ _ _ (by omega)]; exact c2
  · rw [cell_off _ _ _ _ _ (by omega)]; exact c3
  · rw [cell_off _ _ _ _ _ (by omega)]; exact c4
theorem own_sameB {w w' : World} {base g n cap : Nat} {e : TypeId} {size : Nat} {xs : List Value} (h : w.ownsRow base e size (.slice (some ⟨g, 0, none⟩) n cap) n xs) (hb : w'.heap[g]? = w.heap[g]?) : w'.ownsRow base e size (.slice (some ⟨g, 0, none⟩) n cap) n xs := by
  refine ⟨h.1, ?_⟩
  rcases h.2 with h' | ⟨g', cap', cur, h', hbg, hg, hr⟩
  · exact .inl h'
  · cases h'
    exact .inr ⟨g, cap, cur, rfl, hbg, by rw [hb]; exact hg, hr⟩
theorem addN (g o j : Nat) : (⟨g, o, none⟩ : Addr).add j = ⟨g, o + j, none⟩ := by
  unfold Addr.add
  by_cases hj0 : j = 0 <;> simp [hj0]
theorem row_at {w : World} {base g n cap : Nat} {l : List TI} (h : w.ownsRow base 102 5 (.slice (some ⟨g, 0, none⟩) n cap) n (flatItm l)) {j : Nat} {u : Value} (hj : (flatItm l)[j]? = some u) : w.cell? ⟨g, j, none⟩ = some u := by
  have hlt : j < (flatItm l).length := by
    by_cases hl : j < (flatItm l).length
    · exact hl
    · rw [List.getElem?_eq_none (by omega)] at hj; cases hj
  have hl := h.1
  rw [hl] at hlt
  rw [h.cellAt j hlt, hj]
theorem row_take {w : World} {base g n cap k : Nat} {l : List TI} (h : w.ownsRow base 102 5 (.slice (some ⟨g, 0, none⟩) n cap) n (flatItm l)) (_hk : k < l.length) : ∀ (j : Nat) u, (flatItm (l.take k))[j]? = some u → w.cell? ((⟨g, 0, none⟩ : Addr).add j) = some u := fun j u hj => by
  rw [addN, Nat.zero_add]
  refine row_at h ?_
  have e : flatItm l = flatItm (l.take k) ++ flatItm (l.drop k) := by rw [← flatItm_append, List.take_append_drop]
  have hlt : j < (flatItm (l.take k)).length := by
    by_cases hl : j < (flatItm (l.take k)).length
    · exact hl
    · rw [List.getElem?_eq_none (by omega)] at hj; cases hj
  rw [e, List.getElem?_append_left hlt]
  exact hj
theorem row_drop {w : World} {base g n cap k : Nat} {l : List TI} {ad : Addr} (h : w.ownsRow base 102 5 (.slice (some ⟨g, 0, none⟩) n cap) n (flatItm l)) (hk : k ≤ n) (hn : l.length = n) (had : k < n → ad = ⟨g, k * 5, none⟩) : ∀ (j : Nat) u, (flatItm (l.drop k))[j]? = some u → w.cell? (ad.add j) = some u := fun j u hj => by
  have hlt : j < (flatItm (l.drop k)).length := by
    by_cases hl : j < (flatItm (l.drop k)).length
    · exact hl
    · rw [List.getElem?_eq_none (by omega)] at hj; cases hj
  have hl := hlt
  rw [flatItm_length, List.length_drop, hn] at hl
  rw [had (by omega), addN]
  refine row_at h ?_
  have e : flatItm l = flatItm (l.take k) ++ flatItm (l.drop k) := by rw [← flatItm_append, List.take_append_drop]
  have e2 : (flatItm (l.take k)).length = k * 5 := by rw [flatItm_length, List.length_take, hn]; congr 1; omega
  rw [e, List.getElem?_append_right (by omega), e2, Nat.add_sub_cancel_left]
  exact hj
theorem names5 (w : World) : StrsAt (w.alloc (.cells #[.string ⟨#[97]⟩, .string ⟨#[98]⟩, .string ⟨#[99]⟩, .string ⟨#[100]⟩, .string ⟨#[120]⟩] 9)) (some ⟨w.heap.size, 0, none⟩) [⟨#[97]⟩, ⟨#[98]⟩, ⟨#[99]⟩, ⟨#[100]⟩, ⟨#[120]⟩] := by
  intro j hj
  have hj5 : j < 5 := hj
  refine ⟨w.heap.size, 0, rfl, by simp, ?_⟩
  have : j = 0 ∨ j = 1 ∨ j = 2 ∨ j = 3 ∨ j = 4 := by omega
  rcases this with rfl | rfl | rfl | rfl | rfl <;> simp [World.cell?_alloc_at]
set_option maxRecDepth 100000 in
set_option maxHeartbeats 2000000 in
theorem draw8 {w : World} {c : Nat} {a : Option Addr} {len cap : Nat} (h : Cur w c a len cap) :
    Calls Tryz.prog 137 #[.pointer (some ⟨c, 0, none⟩)] w (DrawnSum w c a len cap 15) := by
  have HC : Hid (Cur w c a len cap) := h
  have hcw := h.lt
  clear h
  go_enter Tryz.func137, Tryz.ntmps137
  go_wp2_with fail
  obtain ⟨V, hV⟩ : ∃ V, V = w.alloc (.cells #[.string ⟨#[97]⟩, .string ⟨#[98]⟩, .string ⟨#[99]⟩, .string ⟨#[100]⟩, .string ⟨#[120]⟩] 9) := ⟨_, rfl⟩
  have S1 : Hid (StrsAt V (some ⟨w.heap.size, 0, none⟩) [⟨#[97]⟩, ⟨#[98]⟩, ⟨#[99]⟩, ⟨#[100]⟩, ⟨#[120]⟩]) := by
    have : StrsAt V (some ⟨w.heap.size, 0, none⟩) [⟨#[97]⟩, ⟨#[98]⟩, ⟨#[99]⟩, ⟨#[100]⟩, ⟨#[120]⟩] := by rw [hV]; exact names5 w
    exact this
  have C1 : Hid (Cur V c a len cap) := by
    have : Cur V c a len cap := by rw [hV]; exact HC.out.alloc _
    exact this
  have hk1 : Keep c w V := by rw [hV]; exact (Keep.refl _ _).alloc _
  rw [← hV]
  obtain ⟨B, hB⟩ : ∃ B, w.heap.size = B := ⟨_, rfl⟩
  have hBc : B ≠ c := by omega
  simp only [hB] at S1 ⊢
  clear hV
  refine (once_draw C1.out 2 (by omega) (by omega)).mono ?_
  rintro e w2 ⟨b, rfl, hc2, hk2⟩
  have C2 : Hid (Cur w2 c a len cap) := hc2
  have hkW := hk1.trans hk2
  have hne : ∀ b o, (some ⟨B, 0, none⟩ : Option Addr) = some ⟨b, o, none⟩ → b ≠ c := fun b o e => by
    simp only [Option.some.injEq, Addr.mk.injEq, and_true] at e
    omega
  have S2 : Hid (StrsAt w2 (some ⟨B, 0, none⟩) [⟨#[97]⟩, ⟨#[98]⟩, ⟨#[99]⟩, ⟨#[100]⟩, ⟨#[120]⟩]) := strs_keepC S1.out hk2 hne
  have HNE : Hid (∀ b o, (some ⟨B, 0, none⟩ : Option Addr) = some ⟨b, o, none⟩ → b ≠ c) := hne
  clear hne S1 C1 hc2 hk2 hk1
  go_wp2_with fail
  refine (sum_draw 3 b w2 _ _ 5 5 rfl (by omega) (by omega) (by decide) S2.out HNE.out (by omega) (by omega) C2.out).mono ?_
  rintro e w3 ⟨v, l, rfl, hD, h1, h2, hF, hc3, hk3⟩
  have D3 : Hid (DrawnI w3 w.heap.size v l) := hD.mono hkW.size
  obtain ⟨g, cc, hv⟩ := D3.out.form
  subst hv
  have fin : Hid (DrawnSum w c a len cap 15 (.returned (.slice (some ⟨g, 0, none⟩) l.length cc)) w3) := ⟨_, l, rfl, D3.out, h1, h2, hF, hc3, hkW.trans hk3⟩
  clear D3 hD hF hc3 hk3 h1 h2
  go_wp2
  go_ret
  exact fin.out
theorem from13_draw {w : World} {c : Nat} {a : Option Addr} {len cap : Nat} (h : Cur w c a len cap) :
    Calls Tryz.prog 117 #[.pointer (some ⟨c, 0, none⟩), .int .i64 0, .int .i64 13] w fun e w' => ∃ x : Int, e = .returned (.int .i64 x) ∧ Cur w' c a len cap ∧ Keep c w w' := by
  have HC : Hid (Cur w c a len cap) := h
  clear h
  go_enter Tryz.func117, Tryz.ntmps117
  go_wp2_with fail
  refine (below_draw HC.out 14 (by omega) (by omega)).mono ?_
  rintro e w1 ⟨x, rfl, hx0, hx1, hc1, hk1⟩
  have C1 : Hid (Cur w1 c a len cap) := hc1
  go_wp2
  go_ret
  exact ⟨_, rfl, C1.out, hk1⟩
set_option maxRecDepth 100000 in
set_option maxHeartbeats 4000000 in
theorem any8 {w : World} {c : Nat} {a : Option Addr} {len cap : Nat} (h : Cur w c a len cap) :
    Calls Tryz.prog 84 #[.pointer (some ⟨c, 0, none⟩)] w fun e w' => ∃ v l, e = .returned v ∧ DrawnA w' w.heap.size v l ∧ l.length ≤ 16 ∧ FitD l ∧ Cur w' c a len cap ∧ Keep c w w' := by
  obtain ⟨i0, hti, hz0, hz1, hz2⟩ := info_parts infoItm5
  have HC : Hid (Cur w c a len cap) := h
  have hcw := h.lt
  clear h
  go_enter Tryz.func84, Tryz.ntmps84
  go_wp2_with fail
  refine (draw8 HC.out).mono ?_
  rintro e w1 ⟨v, l, rfl, hD, h1, h2, hF, hc1, hk1⟩
  obtain ⟨g, cp, hv⟩ := hD.form
  subst hv
  have D1 : Hid (DrawnI w1 w.heap.size (.slice (some ⟨g, 0, none⟩) l.length cp) l) := hD
  have C1 : Hid (Cur w1 c a len cap) := hc1
  have F1 : Hid (FitD l) := hF
  obtain ⟨n, hn⟩ : ∃ n, l.length = n := ⟨_, rfl⟩
  have HN : Hid (l.length = n) := hn
  rw [hn] at D1 h1 h2 ⊢
  clear hD hc1 hF hn
  go_wp2_with fail
  refine (once_draw C1.out 6 (by omega) (by omega)).mono ?_
  rintro e w2 ⟨b, rfl, hc2, hk2⟩
  have D2 : Hid (DrawnI w2 w.heap.size (.slice (some ⟨g, 0, none⟩) n cp) l) := D1.out.keep hk2 hcw
  have C2 : Hid (Cur w2 c a len cap) := hc2
  have hkW := hk1.trans hk2
  clear D1 C1 hc2 hk2 hk1
  cases b
  · go_wp2
    go_ret
    exact ⟨_, l, rfl, by have := D2.out; rw [← HN.out] at this ⊢; exact this.any, by rw [HN.out]; omega, F1.out, C2.out, hkW⟩
  go_wp2_with fail
  refine (below_draw C2.out (n : Int) (by omega) (by omega)).mono ?_
  rintro e w3 ⟨x, rfl, hx0, hx1, hc3, hk3⟩
  obtain ⟨k, rfl⟩ : ∃ k : Nat, x = (k : Int) := ⟨x.toNat, by omega⟩
  have D3 : Hid (DrawnI w3 w.heap.size (.slice (some ⟨g, 0, none⟩) n cp) l) := D2.out.keep hk3 hcw
  have C3 : Hid (Cur w3 c a len cap) := hc3
  have hkX := hkW.trans hk3
  clear D2 C2 hc3 hk3 hkW
  go_wp2_with fail
  refine (below_draw C3.out 3 (by omega) (by omega)).mono ?_
  rintro e w4 ⟨y, rfl, hy0, hy1, hc4, hk4⟩
  have D4 : Hid (DrawnI w4 w.heap.size (.slice (some ⟨g, 0, none⟩) n cp) l) := D3.out.keep hk4 hcw
  have C4 : Hid (Cur w4 c a len cap) := hc4
  have hkY := hkX.trans hk4
  clear D3 C3 hc4 hk4 hkX
  have hy : y = 0 ∨ y = 1 ∨ y = 2 := by omega
  rcases hy with rfl | rfl | rfl
  · go_wp2_with fail
    refine (from13_draw C4.out).mono ?_
    rintro e w5 ⟨z, rfl, hc5, hk5⟩
    have D5 : Hid (DrawnI w5 w.heap.size (.slice (some ⟨g, 0, none⟩) n cp) l) := D4.out.keep hk5 hcw
    have C5 : Hid (Cur w5 c a len cap) := hc5
    have hkZ := hkY.trans hk5
    clear D4 C4 hc5 hk5 hkY
    have hkl : k < l.length := by rw [HN.out]; omega
    have A5 : ItmAt w5 (some ⟨g, 0, none⟩) l := by
      have := D5.out
      rw [← HN.out] at this
      exact ownItm this.1
    have hgB := (D5.out.1.lt g rfl).1
    obtain ⟨gb, ob, eb, hglt, c0, c1, c2, c3, c4⟩ := A5 k hkl
    simp only [Option.some.injEq, Addr.mk.injEq, and_true] at eb
    obtain ⟨rfl, rfl⟩ := eb
    rw [Nat.zero_add] at c0
    have hfr : w5.frozen? ⟨g, k * 5, none⟩ = false := by
      have := D5.out.1
      rw [HN.out] at this
      exact this.frozenAt _
    have A6 : Hid (ItmAt (w5.setCell ⟨g, k * 5, none⟩ (.int .i64 z)) (some ⟨g, 0, none⟩) (l.set k (z, l[k].2))) := A5.set0 hkl z
    have F6 : Hid (FitD (l.set k (z, l[k].2))) := by
      have : FitD (l.set k (z, l[k].2)) := fun x hx => by
        rcases List.mem_or_eq_of_mem_set hx with hx | rfl
        · exact F1.out x hx
        · exact F1.out l[k] (List.getElem_mem hkl)
      exact this
    have L6 : Hid ((l.set k (z, l[k].2)).length = n) := by rw [List.length_set]; exact HN
    have C6 : Hid (Cur (w5.setCell ⟨g, k * 5, none⟩ (.int .i64 z)) c a len cap) := C5.out.setAbove (by omega) _
    have hk6 : Keep c w (w5.setCell ⟨g, k * 5, none⟩ (.int .i64 z)) := hkZ.setCell (p := ⟨g, k * 5, none⟩) (.inr hgB) _
    have hi0 : (0 : Int) ≤ (k : Int) := by omega
    obtain ⟨m, hm⟩ : ∃ m, l.set k (z, l[k].2) = m := ⟨_, rfl⟩
    rw [hm] at A6 F6 L6
    clear A5 c1 c2 c3 c4 D5 hm
    go_wp2
    go_ret
    exact ⟨_, m, rfl, ⟨g, cp, by rw [L6.out]; rfl, hgB, A6.out⟩, by rw [L6.out]; omega, F6.out, C6.out, hk6⟩
  · have hkl : k < l.length := by rw [HN.out]; omega
    have hi0 : (0 : Int) ≤ (k : Int) := by omega
    have hcpn : n ≤ cp := by
      rcases D4.out.1.2 with ⟨h', _⟩ | ⟨_, _, _, h', _, _, h3, _⟩
      · cases h'
      · cases h'; rw [← HN.out]; exact h3
    have hcpm : cp ≤ maxLen := by
      rcases D4.out.1.2 with ⟨h', _⟩ | ⟨_, _, _, h', _, _, _, h4, _⟩
      · cases h'
      · cases h'; exact h4
    unfold maxLen at hcpm
    have hi1 : (k : Int) ≤ (cp : Int) := by omega
    have hi2 : (k : Int) + 1 = ((k + 1 : Nat) : Int) := by omega
    obtain ⟨k1, hk1⟩ : ∃ k1, k + 1 = k1 := ⟨_, rfl⟩
    have hi3 : (k : Int) + 1 = (k1 : Int) := by omega
    have hi4 : (k1 : Int) ≤ (n : Int) := by omega
    have hi5 : (n : Int) ≤ (cp : Int) := by omega
    have hi6 : (0 : Int) ≤ (k1 : Int) := by omega
    have hwk : IntKind.i64.wrap (k1 : Int) = (k1 : Int) := by rw [IntKind.wrap_i64]; omega
    clear hi2
    go_wp2_with fail
    refine wp_region_held_drew (S := (fun _ => True)) (by kernel_rfl) trivial (fun hHeld => ?_)
    refine wpAnyH_take (i := 1) (by simp only [List.getElem?_toArray, List.getElem?_cons_zero, List.getElem?_cons_succ]; rfl) (by kernel_rfl) (by kernel_rfl) (by kernel_rfl) (by intro _ _ _ h; exact h) (Or.inl ⟨by rfl, fun w hSw => by (dsimp only at hSw; go_simp; (try with_reducible rfl))⟩) (by assumption) ?_
    simp only [Act.put, List.setIfInBounds_toArray, List.set_cons_zero, List.set_cons_succ]
    refine wpAnyH_take (i := 2) (by simp only [List.getElem?_toArray, List.getElem?_cons_zero, List.getElem?_cons_succ]; rfl) (by kernel_rfl) (by kernel_rfl) (by kernel_rfl) (by intro _ _ _ h; exact h) (Or.inl ⟨by rfl, fun w hSw => by (dsimp only at hSw; go_simp; (try with_reducible rfl))⟩) (by assumption) ?_
    simp only [Act.put, List.setIfInBounds_toArray, List.set_cons_zero, List.set_cons_succ]
    refine wpAnyH_take (i := 3) (by simp only [List.getElem?_toArray, List.getElem?_cons_zero, List.getElem?_cons_succ]; rfl) (by kernel_rfl) (by kernel_rfl) (by kernel_rfl) (by intro _ _ _ h; exact h) (Or.inl ⟨by rfl, fun w hSw => by (dsimp only at hSw; go_simp; (try with_reducible rfl))⟩) (by assumption) ?_
    simp only [Act.put, List.setIfInBounds_toArray, List.set_cons_zero, List.set_cons_succ]
    refine wpAnyH_take (i := 5) (by simp only [List.getElem?_toArray, List.getElem?_cons_zero, List.getElem?_cons_succ]; rfl) (by kernel_rfl) (by kernel_rfl) (by kernel_rfl) (by intro _ _ _ h; exact h) (Or.inl ⟨by rfl, fun w hSw => by (dsimp only at hSw; go_simp; (try with_reducible rfl))⟩) (by assumption) ?_
    simp only [Act.put, List.setIfInBounds_toArray, List.set_cons_zero, List.set_cons_succ]
    refine wpAnyH_take (i := 6) (by simp only [List.getElem?_toArray, List.getElem?_cons_zero, List.getElem?_cons_succ]; rfl) (by kernel_rfl) (by kernel_rfl) (by kernel_rfl) (by intro _ _ _ h; exact h) (Or.inl ⟨by rfl, fun w hSw => by (dsimp only at hSw; go_simp; (try with_reducible rfl))⟩) (by assumption) ?_
    simp only [Act.put, List.setIfInBounds_toArray, List.set_cons_zero, List.set_cons_succ]
    refine wpAnyH_take (i := 7) (by simp only [List.getElem?_toArray, List.getElem?_cons_zero, List.getElem?_cons_succ]; rfl) (by kernel_rfl) (by kernel_rfl) (by kernel_rfl) (by intro _ _ _ h; exact h) (Or.inl ⟨by rfl, fun w hSw => by (dsimp only at hSw; go_simp; (try with_reducible rfl))⟩) (by assumption) ?_
    simp only [Act.put, List.setIfInBounds_toArray, List.set_cons_zero, List.set_cons_succ]
    refine wpAnyH_take (i := 8) (by simp only [List.getElem?_toArray, List.getElem?_cons_zero, List.getElem?_cons_succ]; rfl) (by kernel_rfl) (by kernel_rfl) (by kernel_rfl) (by intro _ _ _ h; exact h) (Or.inl ⟨by rfl, fun w hSw => by (dsimp only at hSw; go_simp; (try with_reducible rfl))⟩) (by assumption) ?_
    simp only [Act.put, List.setIfInBounds_toArray, List.set_cons_zero, List.set_cons_succ]
    refine wpAnyH_ready (rs := [0]) (by kernel_rfl) (by simp) ?_
    refine AllReadyH.cons (by simp only [List.getElem?_toArray, List.getElem?_cons_zero]; rfl) ?_ AllReadyH.nil
    intro K hK
    go_simp
    obtain ⟨ad, had, hadr⟩ : ∃ ad : Addr, (if cp = k1 then some ⟨g, 0, none⟩ else some ⟨g, k1 * 5, none⟩) = some ad ∧ (k1 < n → ad = ⟨g, k1 * 5, none⟩) := by
      by_cases e : cp = k1
      · exact ⟨⟨g, 0, none⟩, by rw [if_pos e], fun h => by omega⟩
      · exact ⟨⟨g, k1 * 5, none⟩, by rw [if_neg e], fun _ => rfl⟩
    rw [had]
    obtain ⟨m, hm⟩ : ∃ m, n - k1 = m := ⟨_, rfl⟩
    obtain ⟨cc, hcc⟩ : ∃ cc, cp - k1 = cc := ⟨_, rfl⟩
    rw [hm, hcc]
    have HADR : Hid (k1 < n → ad = ⟨g, k1 * 5, none⟩) := hadr
    have hnkm : k1 + m = n := by omega
    obtain ⟨V0, hV0⟩ : ∃ V, V = (w4.alloc (.cells #[] 102)).drew := ⟨_, rfl⟩
    have hb0 : Below w4.heap.size w4 V0 := by rw [hV0]; exact ((Below.refl _ _).alloc (Nat.le_refl _) _).drew
    have hs4 := hkY.size
    have E0 : Hid (V0.ownsRow w.heap.size 102 5 (.slice (some ⟨w4.heap.size, 0, none⟩) 0 0) 0 []) := by
      have : V0.ownsRow w.heap.size 102 5 (.slice (some ⟨w4.heap.size, 0, none⟩) 0 0) 0 [] := by
        rw [hV0]
        exact ⟨rfl, .inr ⟨w4.heap.size, 0, #[], rfl, hs4, by show (w4.heap.push _)[w4.heap.size]? = _; simp, Nat.le_refl _, by unfold maxLen; omega, rfl, rfl⟩⟩
      exact this
    have O0 : Hid (V0.ownsRow w.heap.size 102 5 (.slice (some ⟨g, 0, none⟩) n cp) n (flatItm l)) := by
      have := D4.out.1; rw [HN.out] at this; exact own_below this hb0
    have hgw := (D4.out.1.lt g rfl)
    have C0 : Hid (Cur V0 c a len cap) := C4.out.below hb0
    have hk0 : Keep c w V0 := hkY.trans (Keep.ofBelow hb0)
    have hsV : w4.heap.size < V0.heap.size := by rw [hV0]; simp [World.drew]
    rw [← hV0]
    obtain ⟨B0, hB0⟩ : ∃ B, w4.heap.size = B := ⟨_, rfl⟩
    rw [hB0] at E0 hgw hsV ⊢
    clear hV0 hb0 D4 C4 hkY had hadr hm hcc hB0 hs4
    have hsz0 := hk0.size
    refine hK.out _ _ trivial (fun hHeld => ?_)
    clear hK K
    try simp only [Act.put, List.setIfInBounds_toArray, List.set_cons_zero, List.set_cons_succ]
    refine wpAnyH_ready (rs := [4]) (by kernel_rfl) (by simp) ?_
    refine AllReadyH.cons (by simp only [List.getElem?_toArray, List.getElem?_cons_zero, List.getElem?_cons_succ]; rfl) ?_ AllReadyH.nil
    intro K hK
    rw [if_pos (by rfl)]
    refine wp_append_own _ _ _ 60 rfl w.heap.size 102 i0 (.agg #[.int .i64 0, .int .i64 0, .int .i64 0, .string ⟨#[]⟩, .string ⟨#[]⟩]) 5 56 Tryz.underlying60 hti hz0 hz1 hz2 rfl (by decide) (.slice (some ⟨B0, 0, none⟩) 0 0) 0 [] rfl E0.out ⟨g, 0, none⟩ k cp (flatItm (l.take k)) rfl (by rw [flatItm_length, List.length_take]; omega) (row_take O0.out hkl) flat_oneI (by unfold maxLen; omega) (by omega) hsz0 ?_
    intro v1 W1 own1 hgrow1 hnn1
    have O1 : Hid (W1.ownsRow w.heap.size 102 5 v1 k (flatItm (l.take k))) := by
      have := own1; rw [Nat.zero_add, List.nil_append] at this; exact this
    have N1 : Hid (v1 ≠ .slice none 0 0) := by
      have : v1 ≠ .slice none 0 0 := fun e => by
        have := (hnn1.1 e).1
        cases this
      exact this
    have hb1 : Below w.heap.size V0 W1 := (Below.refl _ _).grown hgrow1 hsz0 (fun kk hkk => (E0.out.lt kk hkk).1)
    have P1 : Hid (W1.ownsRow w.heap.size 102 5 (.slice (some ⟨g, 0, none⟩) n cp) n (flatItm l)) := own_sameB O0.out (hgrow1.block g (by omega) (by
      show some g ≠ some B0
      simp only [ne_eq, Option.some.injEq]
      omega))
    have C1 : Hid (Cur W1 c a len cap) := C0.out.far hb1 hcw
    have hk1' : Keep c w W1 := hk0.far hb1 (Nat.le_refl _)
    obtain ⟨g1, c1, hv1⟩ : ∃ g1 c1, v1 = .slice (some ⟨g1, 0, none⟩) k c1 := by
      rcases O1.out.2 with ⟨h', _⟩ | ⟨g1, c1, _, h', _⟩
      · exact absurd h' N1.out
      · exact ⟨g1, c1, h'⟩
    subst hv1
    have hsz1 := hk1'.size
    clear own1 hgrow1 hnn1 hb1 E0 O0 C0 hk0 N1 hgw hsV
    refine hK.out _ _ trivial (fun hHeld => ?_)
    clear hK K
    try simp only [Act.put, List.setIfInBounds_toArray, List.set_cons_zero, List.set_cons_succ]
    refine wpAnyH_ready (rs := [9]) (by kernel_rfl) (by simp) ?_
    refine AllReadyH.cons (by simp only [List.getElem?_toArray, List.getElem?_cons_zero, List.getElem?_cons_succ]; rfl) ?_ AllReadyH.nil
    intro K hK
    rw [if_pos (by rfl)]
    refine wp_append_own _ _ _ 60 rfl w.heap.size 102 i0 (.agg #[.int .i64 0, .int .i64 0, .int .i64 0, .string ⟨#[]⟩, .string ⟨#[]⟩]) 5 56 Tryz.underlying60 hti hz0 hz1 hz2 rfl (by decide) (.slice (some ⟨g1, 0, none⟩) k c1) k (flatItm (l.take k)) rfl O1.out ad m cc (flatItm (l.drop k1)) rfl (by rw [flatItm_length, List.length_drop, HN.out]; omega) (row_drop P1.out (by omega) HN.out HADR.out) flat_oneI (by unfold maxLen; omega) (by omega) hsz1 ?_
    intro v2 W2 own2 hgrow2 hnn2
    have D2 : Hid (DrawnI W2 w.heap.size v2 (l.take k ++ l.drop k1)) := by
      have : DrawnI W2 w.heap.size v2 (l.take k ++ l.drop k1) := by
        refine ⟨?_, fun e => ?_⟩
        · rw [List.length_append, List.length_take, List.length_drop, HN.out, flatItm_append, show min k n + (n - k1) = k + m by omega]
          exact own2
        · have := (hnn2.1 e).1
          cases this
      exact this
    have hb2 : Below w.heap.size W1 W2 := (Below.refl _ _).grown hgrow2 hsz1 (fun kk hkk => (O1.out.lt kk hkk).1)
    have C2 : Hid (Cur W2 c a len cap) := C1.out.far hb2 hcw
    have hk2' : Keep c w W2 := hk1'.far hb2 (Nat.le_refl _)
    have F2 : Hid (FitD (l.take k ++ l.drop k1)) := FitD.app (fun x hx => F1.out x (List.mem_of_mem_take hx)) (fun x hx => F1.out x (List.mem_of_mem_drop hx))
    have L2 : Hid ((l.take k ++ l.drop k1).length ≤ 16) := by
      have : (l.take k ++ l.drop k1).length ≤ 16 := by rw [List.length_append, List.length_take, List.length_drop, HN.out]; omega
      exact this
    obtain ⟨lq, hlq⟩ : ∃ lq, l.take k ++ l.drop k1 = lq := ⟨_, rfl⟩
    rw [hlq] at D2 F2 L2
    clear hlq
    obtain ⟨g2, c2, hv2⟩ := D2.out.form
    subst hv2
    obtain ⟨nq, hnq⟩ : ∃ n, lq.length = n := ⟨_, rfl⟩
    have fin : Hid (DrawnA W2 w.heap.size (.slice (some ⟨g2, 0, none⟩) nq c2) lq) := by rw [← hnq]; exact D2.out.any
    rw [hnq]
    clear D2 hnq
    clear own2 hgrow2 hnn2 hb2 O1 P1 C1 hk1'
    refine hK.out _ _ trivial (fun hHeld => ?_)
    clear hK K
    try simp only [Act.put, List.setIfInBounds_toArray, List.set_cons_zero, List.set_cons_succ]
    refine wpAnyH_take (i := 10) (by simp only [List.getElem?_toArray, List.getElem?_cons_zero, List.getElem?_cons_succ]; rfl) (by kernel_rfl) (by kernel_rfl) (by kernel_rfl) (by intro _ _ _ h; exact h) (Or.inl ⟨by rfl, fun w hSw => by (dsimp only at hSw; go_simp; (try with_reducible rfl))⟩) (by assumption) ?_
    simp only [Act.put, List.setIfInBounds_toArray, List.set_cons_zero, List.set_cons_succ]
    refine wpAnyH_done (by kernel_rfl) ?_ _
    go_wp2
    go_ret
    exact ⟨_, _, rfl, fin.out, L2.out, F2.out, C2.out, hk2'⟩
  · go_wp2_with fail
    refine (any_draw C4.out).mono ?_
    rintro e w5 ⟨ck, cn, ct, rfl, hct, hc5, hk5⟩
    have D5 : Hid (DrawnI w5 w.heap.size (.slice (some ⟨g, 0, none⟩) n cp) l) := D4.out.keep hk5 hcw
    have C5 : Hid (Cur w5 c a len cap) := hc5
    have hkZ := hkY.trans hk5
    clear D4 C4 hc5 hk5 hkY
    have O5 : Hid (w5.ownsRow w.heap.size 102 5 (.slice (some ⟨g, 0, none⟩) n cp) n (flatItm l)) := by
      have := D5.out.1; rw [HN.out] at this; exact this
    have hszq := hkZ.size
    clear D5
    go_wp2_with (at_builtin; refine wpList_append_own _ rfl _ _ 60 rfl w.heap.size 102 i0 (.agg #[.int .i64 0, .int .i64 0, .int .i64 0, .string ⟨#[]⟩, .string ⟨#[]⟩]) 5 56 Tryz.underlying60 hti hz0 hz1 hz2 rfl (by decide) _ _ _ rfl (O5.out.alloc _) ⟨w5.heap.size, 0, none⟩ 1 1 [.int .i64 1, .int .i64 ck, .int .i64 cn, .string ct, .string ⟨#[]⟩] rfl rfl (cells5I w5 _ _ _ _ _) (by intro u hu; simp at hu; rcases hu with rfl | rfl | rfl | rfl | rfl <;> rfl) (by unfold maxLen; omega) (by omega) (by simp; omega) ?_)
    intro v9 w9 own9 hgrow9 hnn9
    have D9 : Hid (DrawnI w9 w.heap.size v9 (l ++ [(1, (ck, cn, ct), ⟨#[]⟩)])) := DrawnI.app (m := [(1, (ck, cn, ct), ⟨#[]⟩)]) own9 (by rw [HN.out]; rfl) (by omega)
    have hb9 : Below w.heap.size (w5.alloc (.cells #[.int .i64 1, .int .i64 ck, .int .i64 cn, .string ct, .string ⟨#[]⟩] 102)) w9 := (Below.refl _ _).grown hgrow9 (by simp; omega) (fun kk hkk => (O5.out.lt kk hkk).1)
    have C9 : Hid (Cur w9 c a len cap) := (C5.out.alloc _).far hb9 hcw
    have hk9 : Keep c w w9 := (hkZ.alloc _).far hb9 (Nat.le_refl _)
    have F9 : Hid (FitD (l ++ [((1, (ck, cn, ct), ⟨#[]⟩) : TI)])) := FitD.app F1.out (fun x hx => by
      rw [List.mem_singleton] at hx
      subst hx
      exact ⟨hct, Nat.zero_le _⟩)
    have L9 : Hid ((l ++ [((1, (ck, cn, ct), ⟨#[]⟩) : TI)]).length ≤ 16) := by
      have : (l ++ [((1, (ck, cn, ct), ⟨#[]⟩) : TI)]).length ≤ 16 := by rw [List.length_append, HN.out]; simp; omega
      exact this
    obtain ⟨g9, c9, hv9⟩ := D9.out.form
    subst hv9
    clear own9 hgrow9 hnn9 hb9 O5
    go_wp2
    go_ret
    exact ⟨_, _, rfl, D9.out.any, L9.out, F9.out, C9.out, hk9⟩
set_option maxHeartbeats 1000000 in
theorem sumok_draw {w : World} {a : Option Addr} {len cap : Nat} (hlen : len ≤ 4096)
    (row : ∀ j, j < len → ∃ (rb ro : Nat) (v : Int), a = some ⟨rb, ro, none⟩ ∧ rb < w.heap.size ∧ w.cell? ⟨rb, ro + j, none⟩ = some (.int .u8 v) ∧ 0 ≤ v ∧ v ≤ 255) :
    Calls Tryz.prog 81 #[.slice a len cap] w fun e w' => ∃ g n cc l, e = .returned (.slice (some ⟨g, 0, none⟩) n cc) ∧ l.length = n ∧ ItmAt w' (some ⟨g, 0, none⟩) l ∧ n ≤ 16 ∧ FitD l ∧ Below w.heap.size w w' := by
  have hR : Hid (∀ j, j < len → ∃ (rb ro : Nat) (v : Int), a = some ⟨rb, ro, none⟩ ∧ rb < w.heap.size ∧ w.cell? ⟨rb, ro + j, none⟩ = some (.int .u8 v) ∧ 0 ≤ v ∧ v ≤ 255) := row
  clear row
  go_enter Tryz.func81, Tryz.ntmps81
  go_wp2_with fail
  refine (new_draw hlen hR.out).mono ?_
  rintro e w1 ⟨c, rfl, hcs, hc1, hb1⟩
  have C1 : Hid (Cur w1 c a len cap) := hc1
  clear hc1
  go_wp2_with fail
  refine (any8 C1.out).mono ?_
  rintro e w2 ⟨v, l, rfl, ⟨g, cc, rfl, _, hA⟩, hl, hF, _, hk2⟩
  have hx2 : Below w.heap.size w w2 := hb1.trans (hk2.below hcs hb1.size)
  have A2 : Hid (ItmAt w2 (some ⟨g, 0, none⟩) l) := hA
  obtain ⟨n, hn⟩ : ∃ n, l.length = n := ⟨_, rfl⟩
  rw [hn] at hl ⊢
  have HN : Hid (l.length = n) := hn
  clear hA hn
  go_wp2
  go_ret
  exact ⟨g, n, cc, l, rfl, HN.out, A2.out, hl, hF, hx2⟩
theorem showsum_draw {w : World} {a : Option Addr} {len cap : Nat} (hlen : len ≤ 4096)
    (row : ∀ j, j < len → ∃ (rb ro : Nat) (v : Int), a = some ⟨rb, ro, none⟩ ∧ rb < w.heap.size ∧ w.cell? ⟨rb, ro + j, none⟩ = some (.int .u8 v) ∧ 0 ≤ v ∧ v ≤ 255) :
    Calls Tryz.prog 35 #[.slice a len cap] w fun e w' => ∃ g n cc l, e = .returned (.slice (some ⟨g, 0, none⟩) n cc) ∧ l.length = n ∧ ItmAt w' (some ⟨g, 0, none⟩) l ∧ n ≤ 16 ∧ FitD l ∧ Below w.heap.size w w' := by
  go_enter Tryz.func35, Tryz.ntmps35
  go_wp2_with fail
  refine (sumok_draw hlen row).mono ?_
  rintro e w1 ⟨g, n, cc, l, rfl, h1, h2, h3, h4, h5⟩
  have H1 : Hid (l.length = n) := h1
  have H2 : Hid (ItmAt w1 (some ⟨g, 0, none⟩) l) := h2
  clear h1 h2 row
  go_wp2
  go_ret
  exact ⟨g, n, cc, l, rfl, H1.out, H2.out, h3, h4, h5⟩
end Go.Proofs.YtfokdblojlmnlabGreatDoor
