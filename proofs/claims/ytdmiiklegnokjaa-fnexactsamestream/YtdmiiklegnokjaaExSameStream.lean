/-
  Proved: at every two streams the program's SameStream answers as its model does; it writes into no argument; the law's arguments read afterwards as before; no condition.
-/
import Derived.Test.YtdmiiklegnokjaaSameI
import Derived.Test.YtdmiiklegnokjaaOpenS
import Derived.Lib.SmallJoins
namespace Go.Proofs.Ytdmiiklegnokjaa
open Go.ChangeShapes Go.WideShapes Go.ChangeAt Go.RowKit Go.Joins
attribute [local go_sem ↓] Go.wp_at_zero Go.wp_at_succ
attribute [local simp] World.cell?_alloc_past World.cell?_alloc_at World.frozen?_alloc_at cell_far cell_off cell_here World.frozen?_alloc_past

theorem Taken.rowsN {w : World} {g : Nat} {L : List (List CT)} (h : ∃ G, Taken w g L G L.length) (hf : ∀ i (hi : i < L.length), Fit L[i] ∧ L[i].length ≤ maxLen) : RowsAt w (some ⟨g, 0, none⟩) L := by
  obtain ⟨G, hG⟩ := h
  exact hG.lies (fun i hi => (hf i hi).1) (fun i hi => (hf i hi).2)
theorem RowsAt.fits {w : World} {a : Option Addr} {L : List (List CT)} (h : RowsAt w a L) : ∀ i (hi : i < L.length), Fit L[i] ∧ L[i].length ≤ maxLen := fun i hi => by
  obtain ⟨_, _, _, _, _, _, _, _, h1, h2, _⟩ := h i hi
  exact ⟨h1, h2⟩

/-- Two boxes at the bottom of a call. -/
structure TwoS (w wr : World) (x y : Obj) : Prop where
  low : Below w.heap.size w wr
  size : w.heap.size + 2 ≤ wr.heap.size
  one : wr.heap[w.heap.size]? = some x
  two : wr.heap[w.heap.size + 1]? = some y
theorem TwoS.below {w wr w' : World} {x y : Obj} (h : TwoS w wr x y) (hb : Below wr.heap.size wr w') : TwoS w w' x y := by
  have hs := h.size
  exact ⟨chain h.low hb, Nat.le_trans hs hb.size, (hb.block _ (by omega)).trans h.one, (hb.block _ (by omega)).trans h.two⟩
theorem TwoS.start (w : World) (x y : Obj) : TwoS w ((w.alloc x).alloc y) x y :=
  ⟨((Below.refl _ _).alloc (Nat.le_refl _) _).alloc (by simp) _, by simp, (_root_.Go.heap_alloc_old _ _ (by simp)).trans (_root_.Go.heap_alloc_new _ _), (show (w.alloc x).heap.size = w.heap.size + 1 by simp) ▸ _root_.Go.heap_alloc_new (w.alloc x) _⟩

theorem box_below {wr w' : World} {B : Nat} {x : Obj} (h : wr.heap[B]? = some x) (hb : Below wr.heap.size wr w') : w'.heap[B]? = some x := by
  have hlt : B < wr.heap.size := by
    by_cases hl : B < wr.heap.size
    · exact hl
    · rw [Array.getElem?_eq_none (by omega)] at h; cases h
  exact (hb.block _ hlt).trans h

namespace exSameStream

theorem own : ownKnob Try.prog.godebug = none := by kernel_rfl
theorem laidOut : laidOutB Try.prog = true := by kernel_rfl

set_option maxRecDepth 100000 in
set_option maxHeartbeats 4000000 in
theorem walk (a b : Option Addr) (n m ca cb : Nat) (L M : List (List CT)) (hn : L.length = n) (hm : M.length = m) (f g : Int) (w : World) (ha : RowsAt w a L) (hb : RowsAt w b M) (hl : n ≤ maxLen) (hl2 : m ≤ maxLen) :
    Calls Try.prog 3 #[.agg #[.slice a n ca, .int .i64 f], .agg #[.slice b m cb, .int .i64 g]] w fun e w' => e = .returned (.bool true) ∧ Below w.heap.size w w' := by
  have HA : Hid (RowsAt w a L) := ha
  have HB : Hid (RowsAt w b M) := hb
  have HN : Hid (L.length = n) := hn
  have HM : Hid (M.length = m) := hm
  have FA : Hid (∀ i (hi : i < L.length), Fit L[i] ∧ L[i].length ≤ maxLen) := ha.fits
  have FB : Hid (∀ i (hi : i < M.length), Fit M[i] ∧ M[i].length ≤ maxLen) := hb.fits
  obtain ⟨x, hx⟩ : ∃ x, leftOfs L 1048576 = x := ⟨_, rfl⟩
  have HX : Hid (leftOfs L 1048576 = x) := hx
  obtain ⟨y, hy⟩ : ∃ y, leftOfs M x = y := ⟨_, rfl⟩
  have HY : Hid (leftOfs M x = y) := hy
  have fitX : Hid (0 ≤ x → n ≤ 1048576 ∧ (∀ i (hi : i < L.length), L[i].length ≤ 1048576) ∧ x ≤ 1048576) := by
    have : 0 ≤ x → n ≤ 1048576 ∧ (∀ i (hi : i < L.length), L[i].length ≤ 1048576) ∧ x ≤ 1048576 := fun h => by rw [← hn, ← hx]; exact leftOfs_fit (by omega) (by rw [hx]; exact h)
    exact this
  have fitY : Hid (x ≤ 1048576 → 0 ≤ y → m ≤ 1048576 ∧ (∀ i (hi : i < M.length), M[i].length ≤ 1048576)) := by
    have : x ≤ 1048576 → 0 ≤ y → m ≤ 1048576 ∧ (∀ i (hi : i < M.length), M[i].length ≤ 1048576) := fun h h2 => by
      have h3 := leftOfs_fit (L := M) h (by rw [hy]; exact h2)
      rw [← hm]; exact ⟨h3.1, h3.2.1⟩
    exact this
  clear ha hb hn hm hx hy
  have T0 := TwoS.start w (.cells #[.slice a n ca, .int .i64 f] 24) (.cells #[.slice b m cb, .int .i64 g] 24)
  have C0 : Hid (TwoS w ((w.alloc (.cells #[.slice a n ca, .int .i64 f] 24)).alloc (.cells #[.slice b m cb, .int .i64 g] 24)) (.cells #[.slice a n ca, .int .i64 f] 24) (.cells #[.slice b m cb, .int .i64 g] 24)) := T0
  clear T0
  go_enter Try.func3, Try.ntmps3
  go_wp2_with fail
  generalize (w.alloc (.cells #[.slice a n ca, .int .i64 f] 24)).alloc (.cells #[.slice b m cb, .int .i64 g] 24) = V at C0 ⊢
  refine (szstrm_laws n a ca L HN.out f 1048576 _ (HA.out.below C0.out.low) hl (by omega) (by omega)).mono ?_
  rintro e w1 ⟨rfl, hb1⟩
  rw [HX.out]
  have C1 : Hid (TwoS w w1 _ _) := C0.out.below hb1
  clear hb1 C0
  have p0 : w1.cell? ⟨w.heap.size, 0, none⟩ = some (.slice a n ca) := cell_of_row _ _ _ _ _ _ C1.out.one
  have p1 : w1.cell? ⟨w.heap.size, 1, none⟩ = some (.int .i64 f) := cell_of_row _ _ _ _ _ _ C1.out.one
  have q0 : w1.cell? ⟨w.heap.size + 1, 0, none⟩ = some (.slice b m cb) := cell_of_row _ _ _ _ _ _ C1.out.two
  have q1 : w1.cell? ⟨w.heap.size + 1, 1, none⟩ = some (.int .i64 g) := cell_of_row _ _ _ _ _ _ C1.out.two
  by_cases hx0 : x < 0
  · go_wp2
    go_ret
    exact ⟨rfl, C1.out.low⟩
  have hx0' : 0 ≤ x := by omega
  obtain ⟨hn1, hms1, hx1⟩ := fitX.out hx0'
  have HMS : Hid (∀ i (hi : i < L.length), L[i].length ≤ 1048576) := hms1
  clear hms1
  go_wp2_with fail
  refine (szstrm_laws m b cb M HM.out g x _ (HB.out.below C1.out.low) hl2 hx0' hx1).mono ?_
  rintro e w2 ⟨rfl, hb2⟩
  rw [HY.out]
  have C2 : Hid (TwoS w w2 _ _) := C1.out.below hb2
  clear hb2 C1 p0 p1 q0 q1
  have p0 : w2.cell? ⟨w.heap.size, 0, none⟩ = some (.slice a n ca) := cell_of_row _ _ _ _ _ _ C2.out.one
  have p1 : w2.cell? ⟨w.heap.size, 1, none⟩ = some (.int .i64 f) := cell_of_row _ _ _ _ _ _ C2.out.one
  have q0 : w2.cell? ⟨w.heap.size + 1, 0, none⟩ = some (.slice b m cb) := cell_of_row _ _ _ _ _ _ C2.out.two
  have q1 : w2.cell? ⟨w.heap.size + 1, 1, none⟩ = some (.int .i64 g) := cell_of_row _ _ _ _ _ _ C2.out.two
  by_cases hy0 : y < 0
  · go_wp2
    go_ret
    exact ⟨rfl, C2.out.low⟩
  have hy0' : 0 ≤ y := by omega
  obtain ⟨hm1, hms2⟩ := fitY.out hx1 hy0'
  have HMS2 : Hid (∀ i (hi : i < M.length), M[i].length ≤ 1048576) := hms2
  clear hms2 hx0 hy0
  obtain ⟨r, hr⟩ : ∃ r, sameS L M f g = r := ⟨_, rfl⟩
  have HR : Hid (sameS L M f g = r) := hr
  clear hr
  go_wp2_with fail
  refine wp_region_held_drew (S := (fun w' => w'.cell? ⟨w.heap.size, 0, none⟩ = some (.slice a n ca) ∧ w'.cell? ⟨w.heap.size, 1, none⟩ = some (.int .i64 f) ∧ w'.cell? ⟨w.heap.size + 1, 0, none⟩ = some (.slice b m cb) ∧ w'.cell? ⟨w.heap.size + 1, 1, none⟩ = some (.int .i64 g))) (by kernel_rfl) ?_ (fun hHeld => ?_)
  · (((try dsimp only); (repeat' apply And.intro) <;> first | (go_keep; done) | (simp (disch := first | omega | (simp <;> omega) | fail) [*]; done) | fail))
  refine wpAnyH_take (i := 0) (by simp only [List.getElem?_toArray, List.getElem?_cons_zero]; rfl) (by kernel_rfl) (by kernel_rfl) (by kernel_rfl) (by intro _ _ _ h; exact h) (Or.inl ⟨by rfl, fun w hSw => by (dsimp only at hSw; go_simp; (try with_reducible rfl))⟩) (by assumption) ?_
  simp only [Act.put, List.setIfInBounds_toArray, List.set_cons_zero, List.set_cons_succ]
  refine wpAnyH_take (i := 2) (by simp only [List.getElem?_toArray, List.getElem?_cons_zero, List.getElem?_cons_succ]; rfl) (by kernel_rfl) (by kernel_rfl) (by kernel_rfl) (by intro _ _ _ h; exact h) (Or.inl ⟨by rfl, fun w hSw => by (dsimp only at hSw; go_simp; (try with_reducible rfl))⟩) (by assumption) ?_
  simp only [Act.put, List.setIfInBounds_toArray, List.set_cons_zero, List.set_cons_succ]
  refine wpAnyH_ready (rs := [1]) (by kernel_rfl) (by simp) ?_
  refine AllReadyH.cons (by simp only [List.getElem?_toArray, List.getElem?_cons_zero, List.getElem?_cons_succ]; rfl) ?_ AllReadyH.nil
  intro K hK
  go_simp
  refine (tostrm_laws n a ca L HN.out f _ (HA.out.below C2.out.low.drew) hn1 HMS.out).mono ?_
  rintro e w3 ⟨g3, rfl, hg3, T3, hb3⟩
  replace hb3 := undrew hb3
  have R3 : Hid (RowsAt w3 (some ⟨g3, 0, none⟩) L) := Taken.rowsN T3 FA.out
  have C3 : Hid (TwoS w w3 _ _) := C2.out.below hb3
  clear hb3 T3 C2 p0 p1 q0 q1 hg3 hHeld
  have p0 : w3.cell? ⟨w.heap.size, 0, none⟩ = some (.slice a n ca) := cell_of_row _ _ _ _ _ _ C3.out.one
  have p1 : w3.cell? ⟨w.heap.size, 1, none⟩ = some (.int .i64 f) := cell_of_row _ _ _ _ _ _ C3.out.one
  have q0 : w3.cell? ⟨w.heap.size + 1, 0, none⟩ = some (.slice b m cb) := cell_of_row _ _ _ _ _ _ C3.out.two
  have q1 : w3.cell? ⟨w.heap.size + 1, 1, none⟩ = some (.int .i64 g) := cell_of_row _ _ _ _ _ _ C3.out.two
  go_wp2_with fail
  refine hK.out _ _ ?_ (fun hHeld => ?_)
  · (((try dsimp only); (repeat' apply And.intro) <;> first | (go_keep; done) | (simp (disch := first | omega | (simp <;> omega) | fail) [*]; done) | fail))
  clear hK K
  try simp only [Act.put, List.setIfInBounds_toArray, List.set_cons_zero, List.set_cons_succ]
  refine wpAnyH_ready (rs := [3]) (by kernel_rfl) (by simp) ?_
  refine AllReadyH.cons (by simp only [List.getElem?_toArray, List.getElem?_cons_zero, List.getElem?_cons_succ]; rfl) ?_ AllReadyH.nil
  intro K hK
  go_simp
  refine (tostrm_laws m b cb M HM.out g _ (HB.out.below C3.out.low) hm1 HMS2.out).mono ?_
  rintro e w4 ⟨g4, rfl, hg4, T4, hb4⟩
  have R4 : Hid (RowsAt w4 (some ⟨g4, 0, none⟩) M) := Taken.rowsN T4 FB.out
  have R3b : Hid (RowsAt w4 (some ⟨g3, 0, none⟩) L) := R3.out.below hb4
  have C4 : Hid (TwoS w w4 _ _) := C3.out.below hb4
  clear hb4 T4 R3 C3 p0 p1 q0 q1 hg4 hHeld
  have p0 : w4.cell? ⟨w.heap.size, 0, none⟩ = some (.slice a n ca) := cell_of_row _ _ _ _ _ _ C4.out.one
  have p1 : w4.cell? ⟨w.heap.size, 1, none⟩ = some (.int .i64 f) := cell_of_row _ _ _ _ _ _ C4.out.one
  have q0 : w4.cell? ⟨w.heap.size + 1, 0, none⟩ = some (.slice b m cb) := cell_of_row _ _ _ _ _ _ C4.out.two
  have q1 : w4.cell? ⟨w.heap.size + 1, 1, none⟩ = some (.int .i64 g) := cell_of_row _ _ _ _ _ _ C4.out.two
  go_wp2_with fail
  refine hK.out _ _ ?_ (fun hHeld => ?_)
  · (((try dsimp only); (repeat' apply And.intro) <;> first | (go_keep; done) | (simp (disch := first | omega | (simp <;> omega) | fail) [*]; done) | fail))
  clear hK K
  try simp only [Act.put, List.setIfInBounds_toArray, List.set_cons_zero, List.set_cons_succ]
  refine wpAnyH_ready (rs := [4]) (by kernel_rfl) (by simp) ?_
  refine AllReadyH.cons (by simp only [List.getElem?_toArray, List.getElem?_cons_zero, List.getElem?_cons_succ]; rfl) ?_ AllReadyH.nil
  intro K hK
  go_simp
  refine (samestream_spec _ _ n m _ _ L M HN.out HM.out f g _ R3b.out R4.out hl hl2 r HR.out).mono ?_
  rintro e w5 ⟨rfl, hb5⟩
  have C5 : Hid (TwoS w w5 _ _) := C4.out.below hb5
  clear hb5 R3b R4 C4 p0 p1 q0 q1 hHeld
  have p0 : w5.cell? ⟨w.heap.size, 0, none⟩ = some (.slice a n ca) := cell_of_row _ _ _ _ _ _ C5.out.one
  have p1 : w5.cell? ⟨w.heap.size, 1, none⟩ = some (.int .i64 f) := cell_of_row _ _ _ _ _ _ C5.out.one
  have q0 : w5.cell? ⟨w.heap.size + 1, 0, none⟩ = some (.slice b m cb) := cell_of_row _ _ _ _ _ _ C5.out.two
  have q1 : w5.cell? ⟨w.heap.size + 1, 1, none⟩ = some (.int .i64 g) := cell_of_row _ _ _ _ _ _ C5.out.two
  go_wp2_with fail
  refine hK.out _ _ ?_ (fun hHeld => ?_)
  · (((try dsimp only); (repeat' apply And.intro) <;> first | (go_keep; done) | (simp (disch := first | omega | (simp <;> omega) | fail) [*]; done) | fail))
  clear hK K
  try simp only [Act.put, List.setIfInBounds_toArray, List.set_cons_zero, List.set_cons_succ]
  refine wpAnyH_take (i := 5) (by simp only [List.getElem?_toArray, List.getElem?_cons_zero, List.getElem?_cons_succ]; rfl) (by kernel_rfl) (by kernel_rfl) (by kernel_rfl) (by intro _ _ _ h; exact h) (Or.inl ⟨by rfl, fun w hSw => by (dsimp only at hSw; go_simp; (try with_reducible rfl))⟩) (by assumption) ?_
  simp only [Act.put, List.setIfInBounds_toArray, List.set_cons_zero, List.set_cons_succ]
  refine wpAnyH_done (by kernel_rfl) ?_ _
  clear hHeld
  go_wp2_with fail
  refine (tostrm_laws n a ca L HN.out f _ (HA.out.below C5.out.low) hn1 HMS.out).mono ?_
  rintro e w6 ⟨g6, rfl, hg6, T6, hb6⟩
  have hbV : Below w6.heap.size w6 (w6.alloc (.cells #[.slice (some ⟨g6, 0, none⟩) n n, .int .i64 f] 29)) := (Below.refl _ _).alloc (Nat.le_refl _) _
  have R6 : Hid (RowsAt (w6.alloc (.cells #[.slice (some ⟨g6, 0, none⟩) n n, .int .i64 f] 29)) (some ⟨g6, 0, none⟩) L) := (Taken.rowsN T6 FA.out).below hbV
  have C6 : Hid (TwoS w (w6.alloc (.cells #[.slice (some ⟨g6, 0, none⟩) n n, .int .i64 f] 29)) _ _) := (C5.out.below hb6).below hbV
  have D6 : Hid ((w6.alloc (.cells #[.slice (some ⟨g6, 0, none⟩) n n, .int .i64 f] 29)).heap[w6.heap.size]? = some (.cells #[.slice (some ⟨g6, 0, none⟩) n n, .int .i64 f] 29)) := _root_.Go.heap_alloc_new w6 _
  clear hb6 T6 hbV C5 p0 p1 q0 q1 hg6
  have p0 : (w6.alloc (.cells #[.slice (some ⟨g6, 0, none⟩) n n, .int .i64 f] 29)).cell? ⟨w.heap.size, 0, none⟩ = some (.slice a n ca) := cell_of_row _ _ _ _ _ _ C6.out.one
  have p1 : (w6.alloc (.cells #[.slice (some ⟨g6, 0, none⟩) n n, .int .i64 f] 29)).cell? ⟨w.heap.size, 1, none⟩ = some (.int .i64 f) := cell_of_row _ _ _ _ _ _ C6.out.one
  have q0 : (w6.alloc (.cells #[.slice (some ⟨g6, 0, none⟩) n n, .int .i64 f] 29)).cell? ⟨w.heap.size + 1, 0, none⟩ = some (.slice b m cb) := cell_of_row _ _ _ _ _ _ C6.out.two
  have q1 : (w6.alloc (.cells #[.slice (some ⟨g6, 0, none⟩) n n, .int .i64 f] 29)).cell? ⟨w.heap.size + 1, 1, none⟩ = some (.int .i64 g) := cell_of_row _ _ _ _ _ _ C6.out.two
  go_wp2_with fail
  generalize hV6 : w6.alloc (.cells #[.slice (some ⟨g6, 0, none⟩) n n, .int .i64 f] 29) = V6 at R6 C6 D6 p0 p1 q0 q1 ⊢
  clear hV6
  generalize w6.heap.size = B6 at D6 ⊢
  refine (tostrm_laws m b cb M HM.out g _ (HB.out.below C6.out.low) hm1 HMS2.out).mono ?_
  rintro e w7 ⟨g7, rfl, hg7, T7, hb7⟩
  have hbV : Below w7.heap.size w7 (w7.alloc (.cells #[.slice (some ⟨g7, 0, none⟩) m m, .int .i64 g] 29)) := (Below.refl _ _).alloc (Nat.le_refl _) _
  have R7 : Hid (RowsAt (w7.alloc (.cells #[.slice (some ⟨g7, 0, none⟩) m m, .int .i64 g] 29)) (some ⟨g7, 0, none⟩) M) := (Taken.rowsN T7 FB.out).below hbV
  have R6b : Hid (RowsAt (w7.alloc (.cells #[.slice (some ⟨g7, 0, none⟩) m m, .int .i64 g] 29)) (some ⟨g6, 0, none⟩) L) := (R6.out.below hb7).below hbV
  have C7 : Hid (TwoS w (w7.alloc (.cells #[.slice (some ⟨g7, 0, none⟩) m m, .int .i64 g] 29)) _ _) := (C6.out.below hb7).below hbV
  have D6b : Hid ((w7.alloc (.cells #[.slice (some ⟨g7, 0, none⟩) m m, .int .i64 g] 29)).heap[B6]? = some (.cells #[.slice (some ⟨g6, 0, none⟩) n n, .int .i64 f] 29)) := box_below (box_below D6.out hb7) hbV
  have D7 : Hid ((w7.alloc (.cells #[.slice (some ⟨g7, 0, none⟩) m m, .int .i64 g] 29)).heap[w7.heap.size]? = some (.cells #[.slice (some ⟨g7, 0, none⟩) m m, .int .i64 g] 29)) := _root_.Go.heap_alloc_new w7 _
  clear hb7 T7 hbV R6 C6 D6 p0 p1 q0 q1 hg7
  have x00 : (w7.alloc (.cells #[.slice (some ⟨g7, 0, none⟩) m m, .int .i64 g] 29)).cell? ⟨B6, 0, none⟩ = some (.slice (some ⟨g6, 0, none⟩) n n) := cell_of_row _ _ _ _ _ _ D6b.out
  have x01 : (w7.alloc (.cells #[.slice (some ⟨g7, 0, none⟩) m m, .int .i64 g] 29)).cell? ⟨B6, 1, none⟩ = some (.int .i64 f) := cell_of_row _ _ _ _ _ _ D6b.out
  have x10 : (w7.alloc (.cells #[.slice (some ⟨g7, 0, none⟩) m m, .int .i64 g] 29)).cell? ⟨w7.heap.size, 0, none⟩ = some (.slice (some ⟨g7, 0, none⟩) m m) := cell_of_row _ _ _ _ _ _ D7.out
  have x11 : (w7.alloc (.cells #[.slice (some ⟨g7, 0, none⟩) m m, .int .i64 g] 29)).cell? ⟨w7.heap.size, 1, none⟩ = some (.int .i64 g) := cell_of_row _ _ _ _ _ _ D7.out
  go_wp2_with fail
  generalize hV7 : w7.alloc (.cells #[.slice (some ⟨g7, 0, none⟩) m m, .int .i64 g] 29) = V7 at R7 R6b C7 D6b D7 x00 x01 x10 x11 ⊢
  clear hV7
  generalize w7.heap.size = B7 at D7 x10 x11 ⊢
  refine (samestream_impl _ _ n m _ _ L M HN.out HM.out f g _ R6b.out R7.out hl hl2 r HR.out).mono ?_
  rintro e w8 ⟨rfl, hb8⟩
  have R6c : Hid (RowsAt w8 (some ⟨g6, 0, none⟩) L) := R6b.out.below hb8
  have R7c : Hid (RowsAt w8 (some ⟨g7, 0, none⟩) M) := R7.out.below hb8
  have C8 : Hid (TwoS w w8 _ _) := C7.out.below hb8
  have D6c : Hid (w8.heap[B6]? = some (.cells #[.slice (some ⟨g6, 0, none⟩) n n, .int .i64 f] 29)) := box_below D6b.out hb8
  have D7c : Hid (w8.heap[B7]? = some (.cells #[.slice (some ⟨g7, 0, none⟩) m m, .int .i64 g] 29)) := box_below D7.out hb8
  clear hb8 R6b R7 C7 D6b D7 x00 x01 x10 x11
  have x00 : w8.cell? ⟨B6, 0, none⟩ = some (.slice (some ⟨g6, 0, none⟩) n n) := cell_of_row _ _ _ _ _ _ D6c.out
  have x01 : w8.cell? ⟨B6, 1, none⟩ = some (.int .i64 f) := cell_of_row _ _ _ _ _ _ D6c.out
  have x10 : w8.cell? ⟨B7, 0, none⟩ = some (.slice (some ⟨g7, 0, none⟩) m m) := cell_of_row _ _ _ _ _ _ D7c.out
  have x11 : w8.cell? ⟨B7, 1, none⟩ = some (.int .i64 g) := cell_of_row _ _ _ _ _ _ D7c.out
  have p0 : w8.cell? ⟨w.heap.size, 0, none⟩ = some (.slice a n ca) := cell_of_row _ _ _ _ _ _ C8.out.one
  have p1 : w8.cell? ⟨w.heap.size, 1, none⟩ = some (.int .i64 f) := cell_of_row _ _ _ _ _ _ C8.out.one
  have q0 : w8.cell? ⟨w.heap.size + 1, 0, none⟩ = some (.slice b m cb) := cell_of_row _ _ _ _ _ _ C8.out.two
  have q1 : w8.cell? ⟨w.heap.size + 1, 1, none⟩ = some (.int .i64 g) := cell_of_row _ _ _ _ _ _ C8.out.two
  have hrr : (r != r) = false := by cases r <;> rfl
  have R6_0 := R6c
  have R7_0 := R7c
  have C_0 := C8
  have D6_0 := D6c
  have D7_0 := D7c
  clear R6c R7c C8 D6c D7c
  go_wp2_with fail
  refine wp_region_held_drew (S := (fun w' => w'.cell? ⟨B6, 0, none⟩ = some (.slice (some ⟨g6, 0, none⟩) n n) ∧ w'.cell? ⟨B6, 1, none⟩ = some (.int .i64 f) ∧ w'.cell? ⟨w.heap.size, 0, none⟩ = some (.slice a n ca) ∧ w'.cell? ⟨w.heap.size, 1, none⟩ = some (.int .i64 f))) (by kernel_rfl) ?_ (fun hHeld => ?_)
  · (((try dsimp only); (repeat' apply And.intro) <;> first | (go_keep; done) | (simp (disch := first | omega | (simp <;> omega) | fail) [*]; done) | fail))
  refine wpAnyH_take (i := 0) (by simp only [List.getElem?_toArray, List.getElem?_cons_zero]; rfl) (by kernel_rfl) (by kernel_rfl) (by kernel_rfl) (by intro _ _ _ h; exact h) (Or.inl ⟨by rfl, fun w hSw => by (dsimp only at hSw; go_simp; (try with_reducible rfl))⟩) (by assumption) ?_
  simp only [Act.put, List.setIfInBounds_toArray, List.set_cons_zero, List.set_cons_succ]
  refine wpAnyH_take (i := 1) (by simp only [List.getElem?_toArray, List.getElem?_cons_zero, List.getElem?_cons_succ]; rfl) (by kernel_rfl) (by kernel_rfl) (by kernel_rfl) (by intro _ _ _ h; exact h) (Or.inl ⟨by rfl, fun w hSw => by (dsimp only at hSw; go_simp; (try with_reducible rfl))⟩) (by assumption) ?_
  simp only [Act.put, List.setIfInBounds_toArray, List.set_cons_zero, List.set_cons_succ]
  refine wpAnyH_ready (rs := [2]) (by kernel_rfl) (by simp) ?_
  refine AllReadyH.cons (by simp only [List.getElem?_toArray, List.getElem?_cons_zero, List.getElem?_cons_succ]; rfl) ?_ AllReadyH.nil
  intro K hK
  go_simp
  refine (tostrm_laws n a ca L HN.out f _ (HA.out.below C_0.out.low.drew) hn1 HMS.out).mono ?_
  rintro e w9 ⟨g9, rfl, hg9, T9, hb⟩
  replace hb := undrew hb
  have R9 : Hid (RowsAt w9 (some ⟨g9, 0, none⟩) L) := Taken.rowsN T9 FA.out
  clear T9 hg9
  have C_1 : Hid (TwoS w w9 _ _) := C_0.out.below hb
  have D6_1 : Hid (w9.heap[B6]? = some (.cells #[.slice (some ⟨g6, 0, none⟩) n n, .int .i64 f] 29)) := box_below D6_0.out hb
  have D7_1 : Hid (w9.heap[B7]? = some (.cells #[.slice (some ⟨g7, 0, none⟩) m m, .int .i64 g] 29)) := box_below D7_0.out hb
  have R6_1 : Hid (RowsAt w9 (some ⟨g6, 0, none⟩) L) := R6_0.out.below hb
  have R7_1 : Hid (RowsAt w9 (some ⟨g7, 0, none⟩) M) := R7_0.out.below hb
  clear hb C_0 D6_0 D7_0 p0 p1 q0 q1 x00 x01 x10 x11 R6_0 R7_0 hHeld
  have p0 : w9.cell? ⟨w.heap.size, 0, none⟩ = some (.slice a n ca) := cell_of_row _ _ _ _ _ _ C_1.out.one
  have p1 : w9.cell? ⟨w.heap.size, 1, none⟩ = some (.int .i64 f) := cell_of_row _ _ _ _ _ _ C_1.out.one
  have q0 : w9.cell? ⟨w.heap.size + 1, 0, none⟩ = some (.slice b m cb) := cell_of_row _ _ _ _ _ _ C_1.out.two
  have q1 : w9.cell? ⟨w.heap.size + 1, 1, none⟩ = some (.int .i64 g) := cell_of_row _ _ _ _ _ _ C_1.out.two
  have x00 : w9.cell? ⟨B6, 0, none⟩ = some (.slice (some ⟨g6, 0, none⟩) n n) := cell_of_row _ _ _ _ _ _ D6_1.out
  have x01 : w9.cell? ⟨B6, 1, none⟩ = some (.int .i64 f) := cell_of_row _ _ _ _ _ _ D6_1.out
  have x10 : w9.cell? ⟨B7, 0, none⟩ = some (.slice (some ⟨g7, 0, none⟩) m m) := cell_of_row _ _ _ _ _ _ D7_1.out
  have x11 : w9.cell? ⟨B7, 1, none⟩ = some (.int .i64 g) := cell_of_row _ _ _ _ _ _ D7_1.out
  go_wp2_with fail
  refine hK.out _ _ ?_ (fun hHeld => ?_)
  · (((try dsimp only); (repeat' apply And.intro) <;> first | (go_keep; done) | (simp (disch := first | omega | (simp <;> omega) | fail) [*]; done) | fail))
  clear hK K
  try simp only [Act.put, List.setIfInBounds_toArray, List.set_cons_zero, List.set_cons_succ]
  refine wpAnyH_ready (rs := [3]) (by kernel_rfl) (by simp) ?_
  refine AllReadyH.cons (by simp only [List.getElem?_toArray, List.getElem?_cons_zero, List.getElem?_cons_succ]; rfl) ?_ AllReadyH.nil
  intro K hK
  go_simp
  refine (eqstrm_laws n _ _ _ _ L HN.out f _ R6_1.out R9.out hl).mono ?_
  rintro e w10 ⟨rfl, hb⟩
  clear R9 R6_1
  have C_2 : Hid (TwoS w w10 _ _) := C_1.out.below hb
  have D6_2 : Hid (w10.heap[B6]? = some (.cells #[.slice (some ⟨g6, 0, none⟩) n n, .int .i64 f] 29)) := box_below D6_1.out hb
  have D7_2 : Hid (w10.heap[B7]? = some (.cells #[.slice (some ⟨g7, 0, none⟩) m m, .int .i64 g] 29)) := box_below D7_1.out hb
  have R7_2 : Hid (RowsAt w10 (some ⟨g7, 0, none⟩) M) := R7_1.out.below hb
  clear hb C_1 D6_1 D7_1 p0 p1 q0 q1 x00 x01 x10 x11 R7_1 hHeld
  have p0 : w10.cell? ⟨w.heap.size, 0, none⟩ = some (.slice a n ca) := cell_of_row _ _ _ _ _ _ C_2.out.one
  have p1 : w10.cell? ⟨w.heap.size, 1, none⟩ = some (.int .i64 f) := cell_of_row _ _ _ _ _ _ C_2.out.one
  have q0 : w10.cell? ⟨w.heap.size + 1, 0, none⟩ = some (.slice b m cb) := cell_of_row _ _ _ _ _ _ C_2.out.two
  have q1 : w10.cell? ⟨w.heap.size + 1, 1, none⟩ = some (.int .i64 g) := cell_of_row _ _ _ _ _ _ C_2.out.two
  have x00 : w10.cell? ⟨B6, 0, none⟩ = some (.slice (some ⟨g6, 0, none⟩) n n) := cell_of_row _ _ _ _ _ _ D6_2.out
  have x01 : w10.cell? ⟨B6, 1, none⟩ = some (.int .i64 f) := cell_of_row _ _ _ _ _ _ D6_2.out
  have x10 : w10.cell? ⟨B7, 0, none⟩ = some (.slice (some ⟨g7, 0, none⟩) m m) := cell_of_row _ _ _ _ _ _ D7_2.out
  have x11 : w10.cell? ⟨B7, 1, none⟩ = some (.int .i64 g) := cell_of_row _ _ _ _ _ _ D7_2.out
  go_wp2_with fail
  refine hK.out _ _ ?_ (fun hHeld => ?_)
  · (((try dsimp only); (repeat' apply And.intro) <;> first | (go_keep; done) | (simp (disch := first | omega | (simp <;> omega) | fail) [*]; done) | fail))
  clear hK K
  try simp only [Act.put, List.setIfInBounds_toArray, List.set_cons_zero, List.set_cons_succ]
  refine wpAnyH_take (i := 4) (by simp only [List.getElem?_toArray, List.getElem?_cons_zero, List.getElem?_cons_succ]; rfl) (by kernel_rfl) (by kernel_rfl) (by kernel_rfl) (by intro _ _ _ h; exact h) (Or.inl ⟨by rfl, fun w hSw => by (dsimp only at hSw; go_simp; (try with_reducible rfl))⟩) (by assumption) ?_
  simp only [Act.put, List.setIfInBounds_toArray, List.set_cons_zero, List.set_cons_succ]
  refine wpAnyH_done (by kernel_rfl) ?_ _
  clear hHeld
  go_wp2_with fail
  refine wp_region_held_drew (S := (fun w' => w'.cell? ⟨B7, 0, none⟩ = some (.slice (some ⟨g7, 0, none⟩) m m) ∧ w'.cell? ⟨B7, 1, none⟩ = some (.int .i64 g) ∧ w'.cell? ⟨w.heap.size + 1, 0, none⟩ = some (.slice b m cb) ∧ w'.cell? ⟨w.heap.size + 1, 1, none⟩ = some (.int .i64 g))) (by kernel_rfl) ?_ (fun hHeld => ?_)
  · (((try dsimp only); (repeat' apply And.intro) <;> first | (go_keep; done) | (simp (disch := first | omega | (simp <;> omega) | fail) [*]; done) | fail))
  refine wpAnyH_take (i := 0) (by simp only [List.getElem?_toArray, List.getElem?_cons_zero]; rfl) (by kernel_rfl) (by kernel_rfl) (by kernel_rfl) (by intro _ _ _ h; exact h) (Or.inl ⟨by rfl, fun w hSw => by (dsimp only at hSw; go_simp; (try with_reducible rfl))⟩) (by assumption) ?_
  simp only [Act.put, List.setIfInBounds_toArray, List.set_cons_zero, List.set_cons_succ]
  refine wpAnyH_take (i := 1) (by simp only [List.getElem?_toArray, List.getElem?_cons_zero, List.getElem?_cons_succ]; rfl) (by kernel_rfl) (by kernel_rfl) (by kernel_rfl) (by intro _ _ _ h; exact h) (Or.inl ⟨by rfl, fun w hSw => by (dsimp only at hSw; go_simp; (try with_reducible rfl))⟩) (by assumption) ?_
  simp only [Act.put, List.setIfInBounds_toArray, List.set_cons_zero, List.set_cons_succ]
  refine wpAnyH_ready (rs := [2]) (by kernel_rfl) (by simp) ?_
  refine AllReadyH.cons (by simp only [List.getElem?_toArray, List.getElem?_cons_zero, List.getElem?_cons_succ]; rfl) ?_ AllReadyH.nil
  intro K hK
  go_simp
  refine (tostrm_laws m b cb M HM.out g _ (HB.out.below C_2.out.low.drew) hm1 HMS2.out).mono ?_
  rintro e w11 ⟨g11, rfl, hg11, T11, hb⟩
  replace hb := undrew hb
  have R11 : Hid (RowsAt w11 (some ⟨g11, 0, none⟩) M) := Taken.rowsN T11 FB.out
  clear T11 hg11
  have C_3 : Hid (TwoS w w11 _ _) := C_2.out.below hb
  have D6_3 : Hid (w11.heap[B6]? = some (.cells #[.slice (some ⟨g6, 0, none⟩) n n, .int .i64 f] 29)) := box_below D6_2.out hb
  have D7_3 : Hid (w11.heap[B7]? = some (.cells #[.slice (some ⟨g7, 0, none⟩) m m, .int .i64 g] 29)) := box_below D7_2.out hb
  have R7_3 : Hid (RowsAt w11 (some ⟨g7, 0, none⟩) M) := R7_2.out.below hb
  clear hb C_2 D6_2 D7_2 p0 p1 q0 q1 x00 x01 x10 x11 R7_2 hHeld
  have p0 : w11.cell? ⟨w.heap.size, 0, none⟩ = some (.slice a n ca) := cell_of_row _ _ _ _ _ _ C_3.out.one
  have p1 : w11.cell? ⟨w.heap.size, 1, none⟩ = some (.int .i64 f) := cell_of_row _ _ _ _ _ _ C_3.out.one
  have q0 : w11.cell? ⟨w.heap.size + 1, 0, none⟩ = some (.slice b m cb) := cell_of_row _ _ _ _ _ _ C_3.out.two
  have q1 : w11.cell? ⟨w.heap.size + 1, 1, none⟩ = some (.int .i64 g) := cell_of_row _ _ _ _ _ _ C_3.out.two
  have x00 : w11.cell? ⟨B6, 0, none⟩ = some (.slice (some ⟨g6, 0, none⟩) n n) := cell_of_row _ _ _ _ _ _ D6_3.out
  have x01 : w11.cell? ⟨B6, 1, none⟩ = some (.int .i64 f) := cell_of_row _ _ _ _ _ _ D6_3.out
  have x10 : w11.cell? ⟨B7, 0, none⟩ = some (.slice (some ⟨g7, 0, none⟩) m m) := cell_of_row _ _ _ _ _ _ D7_3.out
  have x11 : w11.cell? ⟨B7, 1, none⟩ = some (.int .i64 g) := cell_of_row _ _ _ _ _ _ D7_3.out
  go_wp2_with fail
  refine hK.out _ _ ?_ (fun hHeld => ?_)
  · (((try dsimp only); (repeat' apply And.intro) <;> first | (go_keep; done) | (simp (disch := first | omega | (simp <;> omega) | fail) [*]; done) | fail))
  clear hK K
  try simp only [Act.put, List.setIfInBounds_toArray, List.set_cons_zero, List.set_cons_succ]
  refine wpAnyH_ready (rs := [3]) (by kernel_rfl) (by simp) ?_
  refine AllReadyH.cons (by simp only [List.getElem?_toArray, List.getElem?_cons_zero, List.getElem?_cons_succ]; rfl) ?_ AllReadyH.nil
  intro K hK
  go_simp
  refine (eqstrm_laws m _ _ _ _ M HM.out g _ R7_3.out R11.out hl2).mono ?_
  rintro e w12 ⟨rfl, hb⟩
  clear R11 R7_3
  have C_4 : Hid (TwoS w w12 _ _) := C_3.out.below hb
  have D6_4 : Hid (w12.heap[B6]? = some (.cells #[.slice (some ⟨g6, 0, none⟩) n n, .int .i64 f] 29)) := box_below D6_3.out hb
  have D7_4 : Hid (w12.heap[B7]? = some (.cells #[.slice (some ⟨g7, 0, none⟩) m m, .int .i64 g] 29)) := box_below D7_3.out hb
  clear hb C_3 D6_3 D7_3 p0 p1 q0 q1 x00 x01 x10 x11  hHeld
  have p0 : w12.cell? ⟨w.heap.size, 0, none⟩ = some (.slice a n ca) := cell_of_row _ _ _ _ _ _ C_4.out.one
  have p1 : w12.cell? ⟨w.heap.size, 1, none⟩ = some (.int .i64 f) := cell_of_row _ _ _ _ _ _ C_4.out.one
  have q0 : w12.cell? ⟨w.heap.size + 1, 0, none⟩ = some (.slice b m cb) := cell_of_row _ _ _ _ _ _ C_4.out.two
  have q1 : w12.cell? ⟨w.heap.size + 1, 1, none⟩ = some (.int .i64 g) := cell_of_row _ _ _ _ _ _ C_4.out.two
  have x00 : w12.cell? ⟨B6, 0, none⟩ = some (.slice (some ⟨g6, 0, none⟩) n n) := cell_of_row _ _ _ _ _ _ D6_4.out
  have x01 : w12.cell? ⟨B6, 1, none⟩ = some (.int .i64 f) := cell_of_row _ _ _ _ _ _ D6_4.out
  have x10 : w12.cell? ⟨B7, 0, none⟩ = some (.slice (some ⟨g7, 0, none⟩) m m) := cell_of_row _ _ _ _ _ _ D7_4.out
  have x11 : w12.cell? ⟨B7, 1, none⟩ = some (.int .i64 g) := cell_of_row _ _ _ _ _ _ D7_4.out
  go_wp2_with fail
  refine hK.out _ _ ?_ (fun hHeld => ?_)
  · (((try dsimp only); (repeat' apply And.intro) <;> first | (go_keep; done) | (simp (disch := first | omega | (simp <;> omega) | fail) [*]; done) | fail))
  clear hK K
  try simp only [Act.put, List.setIfInBounds_toArray, List.set_cons_zero, List.set_cons_succ]
  refine wpAnyH_take (i := 4) (by simp only [List.getElem?_toArray, List.getElem?_cons_zero, List.getElem?_cons_succ]; rfl) (by kernel_rfl) (by kernel_rfl) (by kernel_rfl) (by intro _ _ _ h; exact h) (Or.inl ⟨by rfl, fun w hSw => by (dsimp only at hSw; go_simp; (try with_reducible rfl))⟩) (by assumption) ?_
  simp only [Act.put, List.setIfInBounds_toArray, List.set_cons_zero, List.set_cons_succ]
  refine wpAnyH_done (by kernel_rfl) ?_ _
  clear hHeld
  go_wp2
  go_ret
  exact ⟨rfl, C_4.out.low⟩

set_option maxRecDepth 100000 in
theorem lifted (os : Os) (started : os.Started) (H : Type) (enc : TypeId × Value → H) :
    ReturnsInHanded {} Try.checked os 3 .any (Rows.fnExactSameStreamSpec.pre6 enc Try.prog Try.f3 Rows.fnExactSameStreamRow.domain false) (Rows.fnExactSameStreamSpec.post enc Try.prog Try.f3 false true false false) := by
  refine returnsInHanded_of_change (C := Try.checked) own started (by kernel_rfl) Try.func3
    (ChangeSpec.witness6 (enc := enc) (C := Try.checked) false ⟨#[], #[.agg #[.slice none 0 0, .int .i64 0], .agg #[.slice none 0 0, .int .i64 0]], []⟩ 8 (by kernel_rfl) (by kernel_rfl) (by kernel_rfl) (by kernel_rfl)) ?_
  intro W base args ds gs before hval0 hW hcnd _
  have hval : ∀ (j : Nat) t v, Try.f3.params[j]? = some t → args[j]? = some v → Value.okWide Try.prog W .any base t v := hval0
  have hW' := hW
  obtain ⟨p, q, hA0, hV, rfl, hfz, hnd⟩ := hW
  have hA : DataW.TrodAll enc Try.prog W 0 (fun _ => true) true Try.f3.params.toList args.toList ds p := hA0
  rw [Try.params3] at hA hval
  obtain ⟨v0, v1, d0, d1, p0, p1, rfl, rfl, rfl, h0, h1⟩ := trodAll_two hA
  obtain ⟨rfl, rfl⟩ := trodVars_none hV
  have k0 := h0
  have lt0 : ∀ x ∈ p0, x.block < W.heap.size := by obtain ⟨m, hm⟩ := k0; exact DataW.trod_lt m _ _ _ hm
  obtain ⟨L0, n0, a0, c0, f0, rfl, hl0, hR0, hM0, hN0⟩ := open_stream (hval 0 24 v0 rfl rfl) h0
  have k1 := h1
  have lt1 : ∀ x ∈ p1, x.block < W.heap.size := by obtain ⟨m, hm⟩ := k1; exact DataW.trod_lt m _ _ _ hm
  obtain ⟨L1, n1, a1, c1, f1, rfl, hl1, hR1, hM1, hN1⟩ := open_stream (hval 1 24 v1 rfl rfl) h1
  clear hA0 hval0
  refine (walk a0 a1 n0 n1 c0 c1 L0 L1 hl0 hl1 f0 f1 W hR0 hR1 hM0 hM1).mono fun e W' ⟨he, bel⟩ => ?_
  subst he
  exact ⟨_, rfl, _, _, _, [], _, [], hW', trodAll_mk1 (shut_bool Try.underlying4 _), trodAll_mk2 (Below.trod laidOut (by kernel_rfl) (of_decide_eq_true (by kernel_rfl)) k0 bel lt0) (Below.trod laidOut (by kernel_rfl) (of_decide_eq_true (by kernel_rfl)) k1 bel lt1), rfl, bel.frame _, fun h => by cases h⟩

theorem over : Rows.fnExactSameStreamRow.holds Try.pinned (OpenSpec.ofChange Rows.fnExactSameStreamSpec) :=
  OpenClaim.holds_of_wide 3 Try.f3 rfl rfl rfl rfl rfl rfl rfl ⟨rfl, rfl, rfl, rfl, rfl⟩ rfl rfl rfl rfl rfl (by kernel_rfl) Try.func3 (by kernel_rfl)
    (of_decide_eq_true (by kernel_rfl)) (by unfold Func.isWrapper; first | (rw [if_pos (by decide +kernel)]; kernel_rfl) | (rw [if_neg (by decide +kernel)]; exact ⟨rfl, rfl⟩))
    (fun os started H enc _ => lifted os started H enc)

end exSameStream

theorem fnExactSameStream_holds : Rows.FnExactSameStreamSaid := exSameStream.over

end Go.Proofs.Ytdmiiklegnokjaa
