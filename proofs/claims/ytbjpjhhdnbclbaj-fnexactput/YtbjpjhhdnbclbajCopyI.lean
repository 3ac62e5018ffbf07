/-
  The contracts of the program's helpers that take rows over into new memory, and of the question whether each row has a place.
-/
import Derived.Test.YtbjpjhhdnbclbajSortedS
namespace Go.Proofs.Ytbjpjhhdnbclbaj
open Go.ChangeShapes Go.WideShapes Go.ChangeAt Go.RowKit
attribute [local go_sem ↓] Go.wp_at_zero Go.wp_at_succ

theorem infoCellI : (Try.prog.info? 72).map (fun i => (i.zero, i.size, i.bytes)) = some (some (.agg #[.int .i64 0, .int .i64 0, .string ⟨#[]⟩]), 3, 32) := by kernel_rfl
theorem infoRowI : (Try.prog.info? 49).map (fun i => (i.zero, i.size, i.bytes)) = some (some (.slice none 0 0), 1, 24) := by kernel_rfl

set_option maxRecDepth 100000 in
set_option maxHeartbeats 1000000 in
theorem copied_row (a : Option Addr) (cap : Nat) (l : List CT) (w : World) (hrow : RowAt w a l) (hnil : a = none → cap = 0) (hm : l.length ≤ 1048576) :
    Calls Try.prog 35 #[.slice a l.length cap] w fun e w' => ∃ g c, e = .returned (.slice (some ⟨g, 0, none⟩) l.length c) ∧ w.heap.size ≤ g ∧
      w'.ownsRow w.heap.size 72 3 (.slice (some ⟨g, 0, none⟩) l.length c) l.length (flat l) ∧ Below w.heap.size w w' := by
  obtain ⟨i0, hi, hz0, hz1, hz2⟩ := info_parts infoCellI
  have hR : Hid (RowAt w a l) := hrow
  clear hrow
  cases a with
  | none =>
    have hl : l = [] := by
      cases l with
      | nil => rfl
      | cons x l => obtain ⟨b, o, e, _⟩ := hR.out 0 (by simp); cases e
    subst hl
    have hc := hnil rfl
    subst hc
    go_enter Try.func35, Try.ntmps35
    go_wp2_with (at_make; refine wpList_make_own _ rfl _ _ 49 rfl w.heap.size 72 i0 (.agg #[.int .i64 0, .int .i64 0, .string ⟨#[]⟩]) 3 Try.underlying49 hi hz0 hz1 .i64 .i64 _ 0 rfl rfl rfl (by rw [hz2]; omega) (by unfold maxLen; omega) (Nat.le_refl _) ?_)
    intro w1 hown hgrow
    have hx : Below w.heap.size w w1 := (Below.refl _ _).grown hgrow (Nat.le_refl _) (by intro k h; cases h)
    have hO : Hid (w1.ownsRow w.heap.size 72 3 (.slice (some ⟨w.heap.size, 0, none⟩) 0 0) 0 []) := hown
    clear hown
    go_wp2_with (at_builtin; refine wpList_append_own_none rfl _ _ 49 rfl w.heap.size 72 i0 3 Try.underlying49 hi (.slice (some ⟨w.heap.size, 0, none⟩) 0 0) 0 [] rfl hO.out rfl ?_)
    go_wp2
    go_ret
    exact ⟨w.heap.size, 0, rfl, Nat.le_refl _, hO.out, hx⟩
  | some ad =>
    go_enter Try.func35, Try.ntmps35
    go_wp2_with (at_make; refine wpList_make_own _ rfl _ _ 49 rfl w.heap.size 72 i0 (.agg #[.int .i64 0, .int .i64 0, .string ⟨#[]⟩]) 3 Try.underlying49 hi hz0 hz1 .i64 .i64 _ l.length rfl rfl rfl (by rw [hz2]; omega) (by unfold maxLen; omega) (Nat.le_refl _) ?_)
    intro w1 hown hgrow
    have hb0 : Below w.heap.size w w1 := (Below.refl _ _).grown hgrow (Nat.le_refl _) (by intro k h; cases h)
    have hO : Hid (w1.ownsRow w.heap.size 72 3 (.slice (some ⟨w.heap.size, 0, none⟩) 0 l.length) 0 []) := hown
    clear hown hgrow
    go_wp2_with (at_builtin; refine wpList_append_own _ rfl _ _ 49 rfl w.heap.size 72 i0 (.agg #[.int .i64 0, .int .i64 0, .string ⟨#[]⟩]) 3 32 Try.underlying49 hi hz0 hz1 hz2 rfl (by decide) (.slice (some ⟨w.heap.size, 0, none⟩) 0 l.length) 0 [] rfl hO.out ad l.length cap (flat l) rfl (flat_length l) ?c1 (flat_one l) ?c3 ?c4 ?c5 ?_)
    case c1 => intro j u hj; exact flat_cells (hR.out.below hb0) j u hj
    case c3 => unfold maxLen; omega
    case c4 => omega
    case c5 => exact hb0.size
    intro v' w2 hown hgrow hnn
    have hx : Below w.heap.size w w2 := hb0.grown hgrow hb0.size (by intro k hk; simp [Value.ownBlock] at hk; omega)
    rcases hown.2 with ⟨h', _⟩ | ⟨g, c, cur, h', hbg, hr⟩
    · exact absurd h' hnn
    · subst h'
      go_wp2
      go_ret
      exact ⟨g, c, rfl, hbg, hown, hx⟩

set_option maxRecDepth 100000 in
set_option maxHeartbeats 2000000 in
theorem copied_rows (a : Option Addr) (cap : Nat) (L : List (List CT)) (w : World) (hrow : RowsAt w a L) (hm : L.length ≤ 1048576) (hms : ∀ i (h : i < L.length), L[i].length ≤ 1048576) :
    Calls Try.prog 71 #[.slice a L.length cap] w fun e w' => ∃ v G C, e = .returned v ∧ OwnRows w' w.heap.size v L G C ∧ Below w.heap.size w w' ∧ v ≠ .slice none 0 0 := by
  obtain ⟨i0, hi, hz0, hz1, hz2⟩ := info_parts infoRowI
  have hR : Hid (RowsAt w a L) := hrow
  have hMS : Hid (∀ i (h : i < L.length), L[i].length ≤ 1048576) := hms
  clear hrow hms
  go_enter Try.func71, Try.ntmps71
  go_wp2_with (at_make; refine wpList_make_own _ rfl _ _ 24 rfl w.heap.size 49 i0 (.slice none 0 0) 1 Try.underlying24 hi hz0 hz1 .i64 .i64 _ L.length rfl rfl rfl (by rw [hz2]; omega) (by unfold maxLen; omega) (Nat.le_refl _) ?_)
  intro w0 hown0 hgrow0
  have hb0 : Below w.heap.size w w0 := (Below.refl _ _).grown hgrow0 (Nat.le_refl _) (by intro k h; cases h)
  have own0 : Hid (∃ G C, OwnRows w0 w.heap.size (.slice (some ⟨w.heap.size, 0, none⟩) 0 L.length) (L.take 0) G C) := by
    refine ⟨fun _ => 0, fun _ => 0, hown0, ?_, ?_⟩
    · intro i hi; simp at hi
    · intro i j hi; simp at hi
  clear hown0 hgrow0
  go_wp2
  go_loopw [3, 11] (fun v i wr => ∃ m : Nat, m ≤ L.length ∧ i = .int .i64 m ∧ Hid (∃ G C, OwnRows wr w.heap.size v (L.take m) G C) ∧ Below w.heap.size w wr ∧ v ≠ .slice none 0 0)
    (fun _ i _ => L.length - (intOf i).toNat)
  case atStart => exact ⟨0, Nat.zero_le _, rfl, own0, hb0, by simp⟩
  case round =>
    obtain ⟨m, hmL, rfl, hO, hb, hvn⟩ := hrel
    by_cases hlt : m < L.length
    · obtain ⟨b, o, ai, ci, ha, hbw, c0, hra, _, _, hnil⟩ := hR.out.below hb m hlt
      have hi0 : (0 : Int) ≤ (m : Int) := by omega
      have hi1 : (m : Int) < (L.length : Int) := by omega
      have hRA : Hid (RowAt wr ai L[m]) := hra
      have hml := hMS.out m hlt
      have htk := List.take_succ_eq_append_getElem hlt
      clear hra
      generalize L[m] = x at c0 hRA hml htk
      subst ha
      obtain ⟨G, C, O⟩ := hO.out
      have hlen : (L.take m).length = m := by rw [List.length_take]; omega
      have hOO : Hid (OwnRows wr w.heap.size _ (L.take m) G C) := O
      clear O hO
      go_wp2_with fail
      refine (copied_row _ _ _ _ hRA.out hnil hml).mono ?_
      rintro e w1 ⟨g, c, rfl, hg, own, hb1⟩
      have O1 := hOO.out.below hb1
      have hx := chain hb hb1
      go_wp2_with (at_builtin; refine wpList_append_own _ rfl _ _ 24 rfl w.heap.size 49 i0 (.slice none 0 0) 1 24 Try.underlying24 hi hz0 hz1 hz2 rfl (by decide) _ _ _ rfl (O1.outer.alloc _) ⟨w1.heap.size, 0, none⟩ 1 1 [.slice (some ⟨g, 0, none⟩) x.length c] rfl rfl ?c1 ?c2 ?c3 ?c4 ?c5 ?_)
      case c1 =>
        intro j u hj
        match j, hj with
        | 0, hj => simp at hj; subst hj; simp [Addr.add]
      case c2 => intro u hu; simp at hu; subst hu; rfl
      case c3 => rw [hlen]; unfold maxLen; omega
      case c4 => rw [hlen]; omega
      case c5 => have := hx.size; simp; omega
      intro v' w2 own2 hgrow hnn
      have S := hOO.out.step hb1 hg (own_base own hb.size) (by rw [hlen]; exact own2) hgrow
      rw [← htk] at S
      have hx2 : Below w.heap.size w w2 := by
        refine (hx.alloc hx.size _).grown hgrow (by have := hx.size; simp; omega) ?_
        intro k hk
        rcases O1.outer.2 with ⟨h, _⟩ | ⟨g', c', cur, h, hbg, _⟩
        · rw [h] at hk; simp [Value.ownBlock] at hk
        · rw [h] at hk; simp [Value.ownBlock] at hk; omega
      have hvn2 : v' ≠ .slice none 0 0 := by first | exact hnn | exact fun e => hvn (hnn.1 e).1
      have SS : Hid (∃ G C, OwnRows w2 w.heap.size v' (L.take (m + 1)) G C) := S
      clear S own2 hgrow hnn own O1 hOO
      go_wp2
      go_roundw
      case rel => exact ⟨m + 1, by omega, by go_num, SS, hx2, hvn2⟩
      case measure => simp [intOf]; omega
    · have hkl : m = L.length := by omega
      subst hkl
      rw [List.take_length] at hO
      go_wp2
      go_ret
      obtain ⟨G, C, O⟩ := hO.out
      exact ⟨_, G, C, rfl, O, hb, hvn⟩

end Go.Proofs.Ytbjpjhhdnbclbaj
