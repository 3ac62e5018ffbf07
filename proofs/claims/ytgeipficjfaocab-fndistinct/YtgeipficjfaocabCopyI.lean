/-
  The contracts of the program's helpers that take rows over into new memory, and of the question whether each row has a place.
-/
import Derived.Test.YtgeipficjfaocabSortedS
namespace Go.Proofs.Ytgeipficjfaocab
open Go.ChangeShapes Go.WideShapes Go.ChangeAt Go.RowKit
attribute [local go_sem ↓] Go.wp_at_zero Go.wp_at_succ

theorem infoCellI : (Try.prog.info? 37).map (fun i => (i.zero, i.size, i.bytes)) = some (some (.agg #[.int .i64 0, .int .i64 0, .string ⟨#[]⟩]), 3, 32) := by kernel_rfl
theorem infoRowI : (Try.prog.info? 29).map (fun i => (i.zero, i.size, i.bytes)) = some (some (.slice none 0 0), 1, 24) := by kernel_rfl

set_option maxRecDepth 100000 in
set_option maxHeartbeats 1000000 in
theorem copied_row (a : Option Addr) (cap : Nat) (l : List CT) (w : World) (hrow : RowAt w a l) (hnil : a = none → cap = 0) (hm : l.length ≤ 1048576) :
    Calls Try.prog 13 #[.slice a l.length cap] w fun e w' => ∃ g c, e = .returned (.slice (some ⟨g, 0, none⟩) l.length c) ∧ w.heap.size ≤ g ∧
      w'.ownsRow w.heap.size 37 3 (.slice (some ⟨g, 0, none⟩) l.length c) l.length (flat l) ∧ Below w.heap.size w w' := by
  obtain ⟨i0, hi, hz0, hz1, hz2⟩ := info_parts infoCellI
  have hR : Hid (RowAt w a l) := hrow
  clear hrow
  cases a with
  | none =>
    have hl : l = [] := by
      cases l with
      | nil => rfl
      | cons x l => obtain ⟨b, o, e, _⟩ := hR.out 0 (by simp); cases e
    subst hl
    have hc := hnil rfl
    subst hc
    go_enter Try.func13, Try.ntmps13
    go_wp2_with (at_make; refine wpList_make_own _ rfl _ _ 29 rfl w.heap.size 37 i0 (.agg #[.int .i64 0, .int .i64 0, .string ⟨#[]⟩]) 3 Try.underlying29 hi hz0 hz1 .i64 .i64 _ 0 rfl rfl rfl (by rw [hz2]; omega) (by unfold maxLen; omega) (Nat.le_refl _) ?_)
    intro w1 hown hgrow
    have hx : Below w.heap.size w w1 := (Below.refl _ _).grown hgrow (Nat.le_refl _) (by intro k h; cases h)
    have hO : Hid (w1.ownsRow w.heap.size 37 3 (.slice (some ⟨w.heap.size, 0, none⟩) 0 0) 0 []) := hown
    clear hown
    go_wp2_with (at_builtin; refine wpList_append_own_none rfl _ _ 29 rfl w.heap.size 37 i0 3 Try.underlying29 hi (.slice (some ⟨w.heap.size, 0, none⟩) 0 0) 0 [] rfl hO.out rfl ?_)
    go_wp2
    go_ret
    exact ⟨w.heap.size, 0, rfl, Nat.le_refl _, hO.out, hx⟩
  | some ad =>
    go_enter Try.func13, Try.ntmps13
    go_wp2_with (at_make; refine wpList_make_own _ rfl _ _ 29 rfl w.heap.size 37 i0 (.agg #[.int .i64 0, .int .i64 0, .string ⟨#[]⟩]) 3 Try.underlying29 hi hz0 hz1 .i64 .i64 _ l.length rfl rfl rfl (by rw [hz2]; omega) (by unfold maxLen; omega) (Nat.le_refl _) ?_)
    intro w1 hown hgrow
    have hb0 : Below w.heap.size w w1 := (Below.refl _ _).grown hgrow (Nat.le_refl _) (by intro k h; cases h)
    have hO : Hid (w1.ownsRow w.heap.size 37 3 (.slice (some ⟨w.heap.size, 0, none⟩) 0 l.length) 0 []) := hown
    clear hown hgrow
    go_wp2_with (at_builtin; refine wpList_append_own _ rfl _ _ 29 rfl w.heap.size 37 i0 (.agg #[.int .i64 0, .int .i64 0, .string ⟨#[]⟩]) 3 32 Try.underlying29 hi hz0 hz1 hz2 rfl (by decide) (.slice (some ⟨w.heap.size, 0, none⟩) 0 l.length) 0 [] rfl hO.out ad l.length cap (flat l) rfl (flat_length l) ?c1 (flat_one l) ?c3 ?c4 ?c5 ?_)
    case c1 => intro j u hj; exact flat_cells (hR.out.below hb0) j u hj
    case c3 => unfold maxLen; omega
    case c4 => omega
    case c5 => exact hb0.size
    intro v' w2 hown hgrow hnn
    have hx : Below w.heap.size w w2 := hb0.grown hgrow hb0.size (by intro k hk; simp [Value.ownBlock] at hk; omega)
    rcases hown.2 with ⟨h', _⟩ | ⟨g, c, cur, h', hbg, hr⟩
    · exact absurd h' hnn
    · subst h'
      go_wp2
      go_ret
      exact ⟨g, c, rfl, hbg, hown, hx⟩

end Go.Proofs.Ytgeipficjfaocab
