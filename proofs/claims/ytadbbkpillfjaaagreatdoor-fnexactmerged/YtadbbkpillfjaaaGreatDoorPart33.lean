/-
  A part of the proof: ConcatM.
-/
import Derived.Test.YtadbbkpillfjaaaGreatDoorPart17
import Derived.Test.YtadbbkpillfjaaaGreatDoorPart24
import Derived.Lib.AppendZeros

/-
  The library's slices.Grow of nothing and slices.Concat of three lists of items: Go's own text is walked.
-/
namespace Go.Proofs.YtadbbkpillfjaaaGreatDoor
open Go.ChangeShapes Go.WideShapes Go.ChangeAt Go.RowKit
attribute [local go_sem ↓] Go.wp_at_zero Go.wp_at_succ

set_option maxRecDepth 100000 in
set_option maxHeartbeats 4000000 in
theorem growM_impl (k : Int) (n : Nat) (hk : k = (n : Int)) (h0 : 0 < n) (hm : n ≤ 1048576) (w : World) :
    Calls Tryz.prog 62 #[.slice none 0 0, .int .i64 k] w fun e w' => ∃ c, e = .returned (.slice (some ⟨w.heap.size, 0, none⟩) 0 c) ∧ w'.ownsRow w.heap.size 56 5 (.slice (some ⟨w.heap.size, 0, none⟩) 0 c) 0 (flatItm []) ∧ Below w.heap.size w w' := by
  subst hk
  obtain ⟨i0, hi, hz0, hz1, hz2⟩ := info_parts infoItm5
  have hr := Lib.run_append_nil_zeros (P := Tryz.prog) w 36 3 36 56 i0 (.agg #[.int .i64 0, .int .i64 0, .int .i64 0, .string ⟨#[]⟩, .string ⟨#[]⟩]) .i64 .i64 Tryz.underlying36 Tryz.underlying3 hi hz0 n h0 (by rw [hz1]; omega) (by omega) (by rw [hz2]; omega)
  have hge := grownCap_ge w n 0 56
  have hle := grownCap_le_maxLen w n 0 56 (by unfold maxLen; omega)
  generalize grownCap w n 0 56 = c at hr hge hle
  have HR : Hid _ := hr
  have HC : Hid (c ≤ maxLen) := hle
  clear hr hle hi hz0 hz1 hz2
  go_enter Tryz.func62, Tryz.ntmps62
  go_wp2_with (at_builtin; refine wpList_app rfl _ _ 36 3 rfl _ _ rfl rfl _ _ HR.out ?_)
  go_ret
  refine ⟨c, rfl, ⟨rfl, .inr ⟨w.heap.size, c, _, rfl, Nat.le_refl _, heap_alloc_new w.drew _, Nat.zero_le _, HC.out, ?_, rfl⟩⟩, ((Below.refl _ _).drew).alloc (by simp) _⟩
  simp [Builtin.zeroCells]
  omega
set_option maxRecDepth 100000 in
set_option maxHeartbeats 4000000 in
theorem concatM_impl (B cb : Nat) (a : Option Addr) (n c : Nat) (la : List TI) (b : Option Addr) (m d : Nat) (lb : List TI) (x : Option Addr) (p q : Nat) (lx : List TI) (hn : la.length = n) (hm : lb.length = m) (hp : lx.length = p) (w : World) (hB : B < w.heap.size) (h0 : w.cell? ⟨B, 0, none⟩ = some (.slice a n c)) (h1 : w.cell? ⟨B, 1, none⟩ = some (.slice b m d)) (h2 : w.cell? ⟨B, 2, none⟩ = some (.slice x p q)) (ha : ItmAt w a la) (hb : ItmAt w b lb) (hx : ItmAt w x lx) (hna : a = none → c = 0) (hnb : b = none → d = 0) (hnx : x = none → q = 0) (hpos : 0 < n + m + p) (hmax : n + m + p ≤ 1048576) :
    Calls Tryz.prog 51 #[.slice (some ⟨B, 0, none⟩) 3 cb] w fun e w' => ∃ g k, e = .returned (.slice (some ⟨g, 0, none⟩) (n + m + p) k) ∧ w.heap.size ≤ g ∧ w'.ownsRow w.heap.size 56 5 (.slice (some ⟨g, 0, none⟩) (n + m + p) k) (n + m + p) (flatItm (la ++ lb ++ lx)) ∧ Below w.heap.size w w' := by
  have HA : Hid (ItmAt w a la) := ha
  have HB : Hid (ItmAt w b lb) := hb
  have HX : Hid (ItmAt w x lx) := hx
  have HN : Hid (la.length = n) := hn
  have HM : Hid (lb.length = m) := hm
  have HP : Hid (lx.length = p) := hp
  clear ha hb hx hn hm hp
  go_enter Tryz.func51, Tryz.ntmps51
  go_wp2
  refine wp_loop_rounds 4 ?_
  rw [rounds_succ]
  go_wp2
  rw [rounds_succ]
  go_wp2
  rw [rounds_succ]
  go_wp2
  rw [rounds_succ]
  go_wp2_with fail
  refine (growM_impl _ (n + m + p) (by push_cast; omega) hpos hmax w).mono ?_
  rintro e w1 ⟨k, rfl, own1, hb1⟩
  obtain ⟨v2, w2, hr2, own2, hg2, hn2⟩ := run_append_itms (w := w1) 36 w.heap.size _ [] 0 rfl own1 (by simp) a n c la HN.out (HA.out.below hb1) hna (by omega) hb1.size
  have hb2 : Below w.heap.size w w2 := hb1.grown hg2 hb1.size (by intro k hk; simp [Value.ownBlock] at hk; omega)
  obtain ⟨g2, c2, rfl⟩ : ∃ g c, v2 = .slice (some ⟨g, 0, none⟩) (0 + n) c := by
    rcases own2.2 with ⟨e', _⟩ | ⟨g, cap, cur, e', _⟩
    · exact absurd e' hn2
    · exact ⟨g, cap, e'⟩
  obtain ⟨v3, w3, hr3, own3, hg3, hn3⟩ := run_append_itms (w := w2) 36 w.heap.size _ ([] ++ la) (0 + n) (by simp [HN.out]) own2 hn2 b m d lb HM.out (HB.out.below hb2) hnb (by omega) hb2.size
  have hgb := own2.lt g2 rfl
  have hb3 : Below w.heap.size w w3 := hb2.grown hg3 hb2.size (by intro k hk; simp [Value.ownBlock] at hk; omega)
  obtain ⟨g3, c3, rfl⟩ : ∃ g c, v3 = .slice (some ⟨g, 0, none⟩) (0 + n + m) c := by
    rcases own3.2 with ⟨e', _⟩ | ⟨g, cap, cur, e', _⟩
    · exact absurd e' hn3
    · exact ⟨g, cap, e'⟩
  obtain ⟨v4, w4, hr4, own4, hg4, hn4⟩ := run_append_itms (w := w3) 36 w.heap.size _ ([] ++ la ++ lb) (0 + n + m) (by simp [HN.out, HM.out]) own3 hn3 x p q lx HP.out (HX.out.below hb3) hnx (by omega) hb3.size
  have hgb3 := own3.lt g3 rfl
  have hb4 : Below w.heap.size w w4 := hb3.grown hg4 hb3.size (by intro k hk; simp [Value.ownBlock] at hk; omega)
  obtain ⟨g4, c4, rfl, hc4⟩ : ∃ g c, v4 = .slice (some ⟨g, 0, none⟩) (0 + n + m + p) c ∧ w.heap.size ≤ g := by
    rcases own4.2 with ⟨e', _⟩ | ⟨g, cap, cur, e', hle, _⟩
    · exact absurd e' hn4
    · exact ⟨g, cap, e', hle⟩
  simp only [Nat.zero_add, List.nil_append] at hr2 hr3 hr4 own4
  have p0 : w1.cell? ⟨B, 0, none⟩ = some (.slice a n c) := by rw [hb1.cell (p := ⟨B, 0, none⟩) hB]; exact h0
  have p1 : w2.cell? ⟨B, 1, none⟩ = some (.slice b m d) := by rw [hb2.cell (p := ⟨B, 1, none⟩) hB]; exact h1
  have p2 : w3.cell? ⟨B, 2, none⟩ = some (.slice x p q) := by rw [hb3.cell (p := ⟨B, 2, none⟩) hB]; exact h2
  have R2 : Hid _ := hr2
  have R3 : Hid _ := hr3
  have R4 : Hid _ := hr4
  have O4 : Hid _ := own4
  have X4 : Hid (Below w.heap.size w w4) := hb4
  clear hr2 hr3 hr4 own4 own3 own2 own1 hb1 hb2 hb3 hb4 hg2 hg3 hg4 hn2 hn3 hn4 hgb hgb3 HA HB HX h0 h1 h2
  go_wp2
  refine wp_loop_rounds 4 ?_
  rw [rounds_succ]
  go_wp2_with (at_builtin; refine wpList_app rfl _ _ 36 36 rfl _ _ rfl rfl _ _ R2.out ?_)
  rw [rounds_succ]
  go_wp2_with (at_builtin; refine wpList_app rfl _ _ 36 36 rfl _ _ rfl rfl _ _ R3.out ?_)
  rw [rounds_succ]
  go_wp2_with (at_builtin; refine wpList_app rfl _ _ 36 36 rfl _ _ rfl rfl _ _ R4.out ?_)
  rw [rounds_succ]
  go_wp2
  go_ret
  exact ⟨g4, c4, rfl, hc4, O4.out, X4.out⟩
end Go.Proofs.YtadbbkpillfjaaaGreatDoor
