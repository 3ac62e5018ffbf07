/-
  Lists of cells in new memory: the contract of the law's helper that takes a list over.
-/
import Derived.Test.YtdmiiklegnokjaaLists1
namespace Go.Proofs.Ytdmiiklegnokjaa
open Go.ChangeShapes Go.WideShapes Go.ChangeAt Go.RowKit
attribute [local go_sem ↓] Go.wp_at_zero Go.wp_at_succ

/-- The cells of a list, one behind the other. -/
def flat : List CT → List Value
  | [] => []
  | x :: l => .int .i64 x.1 :: .int .i64 x.2.1 :: .string x.2.2 :: flat l
theorem flat_length (l : List CT) : (flat l).length = l.length * 3 := by
  induction l with
  | nil => rfl
  | cons x l ih => simp only [flat, List.length_cons, ih]; omega
theorem flat_append (l m : List CT) : flat (l ++ m) = flat l ++ flat m := by
  induction l with
  | nil => rfl
  | cons x l ih => simp only [List.cons_append, flat, ih]
theorem flat_at (l : List CT) (j : Nat) (h : j < l.length) : (flat l)[j * 3]? = some (.int .i64 l[j].1) ∧ (flat l)[j * 3 + 1]? = some (.int .i64 l[j].2.1) ∧ (flat l)[j * 3 + 2]? = some (.string l[j].2.2) := by
  induction l generalizing j with
  | nil => simp at h
  | cons x l ih =>
    cases j with
    | zero => exact ⟨rfl, rfl, rfl⟩
    | succ j =>
      have := ih j (by simpa using h)
      have e0 : (j + 1) * 3 = j * 3 + 1 + 1 + 1 := by omega
      have e1 : (j + 1) * 3 + 1 = j * 3 + 1 + 1 + 1 + 1 := by omega
      have e2 : (j + 1) * 3 + 2 = j * 3 + 2 + 1 + 1 + 1 := by omega
      rw [e1, e2, e0]
      simpa only [flat, List.getElem?_cons_succ, List.getElem_cons_succ] using this

/-- Three cells of a row are written: one element more of the list. -/
theorem flat_step (l : List CT) (k : Nat) (h : k < l.length) (z : List Value) (hz : z.length = l.length * 3) :
    (((flat (l.take k) ++ z.drop (k * 3)).set (k * 3) (.int .i64 l[k].1)).set (k * 3 + 1) (.int .i64 l[k].2.1)).set (k * 3 + 2) (.string l[k].2.2) = flat (l.take (k + 1)) ++ z.drop ((k + 1) * 3) := by
  have hl : (flat (l.take k)).length = k * 3 := by rw [flat_length, List.length_take]; congr 1; omega
  obtain ⟨a, b, c, r, hr⟩ : ∃ a b c r, z.drop (k * 3) = a :: b :: c :: r := by
    have hd : (z.drop (k * 3)).length ≥ 3 := by rw [List.length_drop]; omega
    match hm : z.drop (k * 3), hd with
    | a :: b :: c :: r, _ => exact ⟨a, b, c, r, rfl⟩
  have hr3 : z.drop ((k + 1) * 3) = r := by
    rw [show (k + 1) * 3 = k * 3 + 3 by omega, ← List.drop_drop, hr]; rfl
  rw [List.take_succ_eq_append_getElem h, flat_append, hr, hr3]
  rw [List.set_append_right _ _ (by omega), List.set_append_right _ _ (by omega), List.set_append_right _ _ (by omega), hl]
  rw [show k * 3 - k * 3 = 0 by omega, show k * 3 + 1 - k * 3 = 1 by omega, show k * 3 + 2 - k * 3 = 2 by omega]
  simp [flat]

theorem own_below {w w' : World} {base : Nat} {e : TypeId} {size : Nat} {v : Value} {n : Nat} {xs : List Value} (h : w.ownsRow base e size v n xs) (hb : Below w.heap.size w w') : w'.ownsRow base e size v n xs := by
  refine ⟨h.1, ?_⟩
  rcases h.2 with h' | ⟨g, cap, cur, h', hbg, hg, hr⟩
  · exact .inl h'
  · refine .inr ⟨g, cap, cur, h', hbg, ?_, hr⟩
    have hlt : g < w.heap.size := by
      by_cases hl : g < w.heap.size
      · exact hl
      · rw [Array.getElem?_eq_none (by omega)] at hg; cases hg
    rw [hb.block g hlt]; exact hg

/-- What is owned lies there. -/
theorem own_row {w : World} {base g cap : Nat} {e : TypeId} {l : List CT} (h : w.ownsRow base e 3 (.slice (some ⟨g, 0, none⟩) l.length cap) l.length (flat l)) : RowAt w (some ⟨g, 0, none⟩) l := by
  have hlt : g < w.heap.size := by
    rcases h.2 with ⟨h', _⟩ | ⟨g', cap', cur, h', _, hg, _⟩
    · simp at h'
    · simp only [Value.slice.injEq, Option.some.injEq, Addr.mk.injEq, and_true, true_and] at h'
      obtain ⟨rfl, rfl⟩ := h'
      by_cases hl : g < w.heap.size
      · exact hl
      · rw [Array.getElem?_eq_none (by omega)] at hg; cases hg
  intro j hj
  obtain ⟨f0, f1, f2⟩ := flat_at l j hj
  refine ⟨g, 0, rfl, hlt, ?_, ?_, ?_⟩
  · rw [show 0 + j * 3 = j * 3 by omega, h.cellAt _ (by omega)]; exact f0
  · rw [show 0 + j * 3 + 1 = j * 3 + 1 by omega, h.cellAt _ (by omega)]; exact f1
  · rw [show 0 + j * 3 + 2 = j * 3 + 2 by omega, h.cellAt _ (by omega)]; exact f2

theorem infoC : (Try.prog.info? 37).map (fun i => (i.zero, i.size, i.bytes)) = some (some (.agg #[.int .i64 0, .int .i64 0, .string ⟨#[]⟩]), 3, 32) := by kernel_rfl

set_option maxHeartbeats 1000000 in
theorem tos_laws (a : Option Addr) (cap : Nat) (l : List CT) (w : World) (hrow : RowAt w a l) (hm : l.length ≤ 1048576) :
    Calls Try.prog 17 #[.slice a l.length cap] w fun e w' => e = .returned (.slice (some ⟨w.heap.size, 0, none⟩) l.length l.length) ∧
      w'.ownsRow w.heap.size 37 3 (.slice (some ⟨w.heap.size, 0, none⟩) l.length l.length) l.length (flat l) ∧ Below w.heap.size w w' := by
  obtain ⟨i0, hi, hz0, hz1, hz2⟩ := info_parts infoC
  have hR : Hid (RowAt w a l) := hrow
  clear hrow
  go_enter Try.func17, Try.ntmps17
  go_wp2_with (at_make; refine wpList_make_full _ rfl _ _ 34 rfl w.heap.size 37 i0 (.agg #[.int .i64 0, .int .i64 0, .string ⟨#[]⟩]) 3 Try.underlying34 hi hz0 hz1 .i64 .i64 _ _ l.length rfl rfl rfl rfl ?b2 ?b3 (Nat.le_refl _) ?_)
  case b2 => rw [hz2]; omega
  case b3 => unfold maxLen; omega
  intro w1 hown hgrow
  have hb1 : Below w.heap.size w w1 := (Below.refl _ _).grown hgrow (Nat.le_refl _) (by intro k h; cases h)
  generalize (madeCells _ _).toList = z at hown
  have hzl : z.length = l.length * 3 := hown.1
  have hO : Hid (w1.ownsRow w.heap.size 37 3 (.slice (some ⟨w.heap.size, 0, none⟩) l.length l.length) l.length z) := hown
  clear hown hgrow
  go_wp2
  go_loopw [4] (fun i wr => ∃ k : Nat, k ≤ l.length ∧ i = .int .i64 k ∧ wr.ownsRow w.heap.size 37 3 (.slice (some ⟨w.heap.size, 0, none⟩) l.length l.length) l.length (flat (l.take k) ++ z.drop (k * 3)) ∧ Below w.heap.size w wr)
    (fun i _ => l.length - (intOf i).toNat)
  case atStart => exact ⟨0, Nat.zero_le _, rfl, by simpa [flat] using hO.out, hb1⟩
  case round =>
    obtain ⟨k, hk, rfl, hown, hb⟩ := hrel
    by_cases hlt : k < l.length
    · obtain ⟨b, o, rfl, hbw, c0, c1, c2⟩ := hR.out.below hb k hlt
      have hi0 : (0 : Int) ≤ (k : Int) := by omega
      have hi1 : (k : Int) < (l.length : Int) := by omega
      have hst := flat_step l k hlt z hzl
      have hown' : Hid (wr.ownsRow w.heap.size 37 3 (.slice (some ⟨w.heap.size, 0, none⟩) l.length l.length) l.length (flat (l.take k) ++ z.drop (k * 3))) := hown
      clear hown
      generalize l[k] = x at c0 c1 c2 hst
      go_wp2_with fail
      refine (to_laws _ _ _ _).mono ?_
      rintro e w2 ⟨rfl, hb2⟩
      have own2 := own_below hown'.out hb2
      have hx := chain hb hb2
      obtain ⟨u0, g0⟩ : ∃ u, w2.cell? ⟨w.heap.size, k * 3, none⟩ = some u := ⟨_, (own2.cellAt (k * 3) (by omega)).trans (List.getElem?_eq_getElem (by rw [own2.1]; omega))⟩
      obtain ⟨u1, g1⟩ : ∃ u, w2.cell? ⟨w.heap.size, k * 3 + 1, none⟩ = some u := ⟨_, (own2.cellAt (k * 3 + 1) (by omega)).trans (List.getElem?_eq_getElem (by rw [own2.1]; omega))⟩
      obtain ⟨u2, g2⟩ : ∃ u, w2.cell? ⟨w.heap.size, k * 3 + 2, none⟩ = some u := ⟨_, (own2.cellAt (k * 3 + 2) (by omega)).trans (List.getElem?_eq_getElem (by rw [own2.1]; omega))⟩
      have f0 := own2.frozenAt (k * 3)
      have f1 := own2.frozenAt (k * 3 + 1)
      have f2 := own2.frozenAt (k * 3 + 2)
      have hO2 : Hid (w2.ownsRow w.heap.size 37 3 (.slice (some ⟨w.heap.size, 0, none⟩) l.length l.length) l.length (flat (l.take k) ++ z.drop (k * 3))) := own2
      clear own2 hown' hb2
      go_wp2
      go_roundw
      case rel =>
        refine ⟨k + 1, by omega, by go_num, ?_, ?_⟩
        · have r := ((hO2.out.stored (k * 3) (.int .i64 x.1)).1.stored (k * 3 + 1) (.int .i64 x.2.1)).1.stored (k * 3 + 2) (.string x.2.2)
          rw [hst] at r; exact r.1
        · exact ((hx.setCell (Nat.le_refl _) _).setCell (Nat.le_refl _) _).setCell (Nat.le_refl _) _
      case measure => simp [intOf]; omega
    · have hkl : k = l.length := by omega
      subst hkl
      rw [List.take_length, List.drop_of_length_le (by omega), List.append_nil] at hown
      go_wp2
      go_ret
      exact ⟨rfl, hown, hb⟩

end Go.Proofs.Ytdmiiklegnokjaa
