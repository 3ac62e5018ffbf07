/-
  Lists of quick steps and of what comes out of them: where they lie; measured, taken over and compared by the laws' helpers.
-/
import Derived.Test.YtmhamgcjmehnnaaDoorHd
import Derived.Test.YtmhamgcjmehnnaaDoorTk
import Derived.Test.YtmhamgcjmehnnaaDoorLists6
namespace Go.Proofs.YtmhamgcjmehnnaaDoor
open Go.ChangeShapes Go.WideShapes Go.ChangeAt Go.RowKit
attribute [local go_sem ↓] Go.wp_at_zero Go.wp_at_succ
attribute [local simp] World.cell?_alloc_past World.cell?_alloc_at World.frozen?_alloc_at cell_far cell_off cell_here World.frozen?_alloc_past

abbrev FO := Int × Int × Int × Int
abbrev FU := Int × Int × Bool
/-- The FastOps of a slice lie where it says. -/
def FoAt (w : World) (a : Option Addr) (l : List FO) : Prop :=
  ∀ j (h : j < l.length), ∃ b o, a = some ⟨b, o, none⟩ ∧ b < w.heap.size ∧ w.cell? ⟨b, o + j * 4, none⟩ = some (.int .i64 l[j].1) ∧ w.cell? ⟨b, o + j * 4 + 1, none⟩ = some (.int .i64 l[j].2.1) ∧ w.cell? ⟨b, o + j * 4 + 2, none⟩ = some (.int .i64 l[j].2.2.1) ∧ w.cell? ⟨b, o + j * 4 + 3, none⟩ = some (.int .i64 l[j].2.2.2)
theorem FoAt.below {w w' : World} {a : Option Addr} {l : List FO} (h : FoAt w a l) (hb : Below w.heap.size w w') : FoAt w' a l := by
  intro j hj
  obtain ⟨b, o, ha, hlt, c0, c1, c2, c3⟩ := h j hj
  exact ⟨b, o, ha, Nat.lt_of_lt_of_le hlt hb.size, (hb.cell (p := ⟨b, _, none⟩) hlt).trans c0, (hb.cell (p := ⟨b, _, none⟩) hlt).trans c1, (hb.cell (p := ⟨b, _, none⟩) hlt).trans c2, (hb.cell (p := ⟨b, _, none⟩) hlt).trans c3⟩
theorem FoAt.keepS {P : Nat → Prop} {w w' : World} {a : Option Addr} {l : List FO} (h : FoAt w a l) (hk : KeepS P w w') (hP : ∀ g o, a = some ⟨g, o, none⟩ → ¬ P g) : FoAt w' a l := by
  intro j hj
  obtain ⟨b, o, ha, hlt, c0, c1, c2, c3⟩ := h j hj
  exact ⟨b, o, ha, Nat.lt_of_lt_of_le hlt hk.size, (hk.cell hlt (hP _ _ ha)).trans c0, (hk.cell hlt (hP _ _ ha)).trans c1, (hk.cell hlt (hP _ _ ha)).trans c2, (hk.cell hlt (hP _ _ ha)).trans c3⟩
def flatFo : List FO → List Value
  | [] => []
  | x :: l => .int .i64 x.1 :: .int .i64 x.2.1 :: .int .i64 x.2.2.1 :: .int .i64 x.2.2.2 :: flatFo l
theorem flatFo_length (l : List FO) : (flatFo l).length = l.length * 4 := by
  induction l with
  | nil => rfl
  | cons x l ih => simp only [flatFo, List.length_cons, ih]; omega
theorem flatFo_append (l m : List FO) : flatFo (l ++ m) = flatFo l ++ flatFo m := by
  induction l with
  | nil => rfl
  | cons x l ih => simp only [List.cons_append, flatFo, ih]
theorem flatFo_at (l : List FO) (j : Nat) (h : j < l.length) : (flatFo l)[j * 4]? = some (.int .i64 l[j].1) ∧ (flatFo l)[j * 4 + 1]? = some (.int .i64 l[j].2.1) ∧ (flatFo l)[j * 4 + 2]? = some (.int .i64 l[j].2.2.1) ∧ (flatFo l)[j * 4 + 3]? = some (.int .i64 l[j].2.2.2) := by
  induction l generalizing j with
  | nil => simp at h
  | cons x l ih =>
    cases j with
    | zero => exact ⟨rfl, rfl, rfl, rfl⟩
    | succ j =>
      have := ih j (by simpa using h)
      have e0 : (j + 1) * 4 = j * 4 + 1 + 1 + 1 + 1 := by omega
      have e1 : (j + 1) * 4 + 1 = j * 4 + 1 + 1 + 1 + 1 + 1 := by omega
      have e2 : (j + 1) * 4 + 2 = j * 4 + 2 + 1 + 1 + 1 + 1 := by omega
      have e3 : (j + 1) * 4 + 3 = j * 4 + 3 + 1 + 1 + 1 + 1 := by omega
      rw [e1, e2, e3, e0]
      simpa only [flatFo, List.getElem?_cons_succ, List.getElem_cons_succ] using this
theorem flatFo_step (l : List FO) (k : Nat) (h : k < l.length) (z : List Value) (hz : z.length = l.length * 4) :
    (((((flatFo (l.take k) ++ z.drop (k * 4)).set (k * 4) (.int .i64 l[k].1)).set (k * 4 + 1) (.int .i64 l[k].2.1)).set (k * 4 + 2) (.int .i64 l[k].2.2.1)).set (k * 4 + 3) (.int .i64 l[k].2.2.2)) = flatFo (l.take (k + 1)) ++ z.drop ((k + 1) * 4) := by
  have hl : (flatFo (l.take k)).length = k * 4 := by rw [flatFo_length, List.length_take]; congr 1; omega
  obtain ⟨a0, a1, a2, a3, r, hr⟩ : ∃ a0 a1 a2 a3 r, z.drop (k * 4) = a0 :: a1 :: a2 :: a3 :: r := by
    have hd : (z.drop (k * 4)).length ≥ 4 := by rw [List.length_drop]; omega
    match hm : z.drop (k * 4), hd with
    | a0 :: a1 :: a2 :: a3 :: r, _ => exact ⟨a0, a1, a2, a3, r, rfl⟩
  have hr3 : z.drop ((k + 1) * 4) = r := by
    rw [show (k + 1) * 4 = k * 4 + 4 by omega, ← List.drop_drop, hr]; rfl
  rw [List.take_succ_eq_append_getElem h, flatFo_append, hr, hr3]
  rw [List.set_append_right _ _ (by omega), List.set_append_right _ _ (by omega), List.set_append_right _ _ (by omega), List.set_append_right _ _ (by omega), hl]
  rw [show k * 4 - k * 4 = 0 by omega, show k * 4 + 1 - k * 4 = 1 by omega, show k * 4 + 2 - k * 4 = 2 by omega, show k * 4 + 3 - k * 4 = 3 by omega]
  simp [flatFo]
theorem ownFo {w : World} {base g cap : Nat} {e : TypeId} {l : List FO} (h : w.ownsRow base e 4 (.slice (some ⟨g, 0, none⟩) l.length cap) l.length (flatFo l)) : FoAt w (some ⟨g, 0, none⟩) l := by
  have hlt : g < w.heap.size := (h.lt g rfl).2
  intro j hj
  obtain ⟨f0, f1, f2, f3⟩ := flatFo_at l j hj
  refine ⟨g, 0, rfl, hlt, ?_, ?_, ?_, ?_⟩
  · rw [show 0 + j * 4 = j * 4 by omega, h.cellAt _ (by omega)]; exact f0
  · rw [show 0 + j * 4 + 1 = j * 4 + 1 by omega, h.cellAt _ (by omega)]; exact f1
  · rw [show 0 + j * 4 + 2 = j * 4 + 2 by omega, h.cellAt _ (by omega)]; exact f2
  · rw [show 0 + j * 4 + 3 = j * 4 + 3 by omega, h.cellAt _ (by omega)]; exact f3
theorem szsFo (a : Option Addr) (cap n : Nat) (left : Int) (w : World) (hm : n ≤ maxLen) (h0 : 0 ≤ left) (h1 : left ≤ 1048576) :
    Calls Tryd.prog 9 #[.slice a n cap, .int .i64 left] w fun e w' => e = .returned (.int .i64 (if left < (n : Int) then -1 else left - n)) ∧ w' = w := by
  unfold maxLen at hm
  by_cases h : left < (n : Int)
  · rw [if_pos h]
    have hn : left - (n : Int) < 0 := by omega
    go_enter Tryd.func9, Tryd.ntmps9
    go_wp2
    go_ret
    exact ⟨rfl, rfl⟩
  · rw [if_neg h]
    have hn : ¬ left - (n : Int) < 0 := by omega
    go_enter Tryd.func9, Tryd.ntmps9
    go_wp2
    go_ret
    exact ⟨ret_int (by omega), rfl⟩
set_option maxHeartbeats 1000000 in
theorem toFo_one (x : FO) (w : World) : Calls Tryd.prog 27 #[.agg #[.int .i64 x.1, .int .i64 x.2.1, .int .i64 x.2.2.1, .int .i64 x.2.2.2]] w fun e w' => e = .returned (.agg #[.int .i64 x.1, .int .i64 x.2.1, .int .i64 x.2.2.1, .int .i64 x.2.2.2]) ∧ Below w.heap.size w w' := by
  obtain ⟨y0, y1, y2, y3⟩ := x
  dsimp only
  go_enter Tryd.func27, Tryd.ntmps27
  go_wp2
  refine bodyPost_ret (v := .agg #[.int .i64 y0, .int .i64 y1, .int .i64 y2, .int .i64 y3]) (by simp [results, Tryd.results27, go_sem]) rfl ⟨rfl, ?_⟩
  repeat (first | exact Below.refl _ _ | refine Below.alloc ?_ (by first | exact Nat.le_refl _ | (simp; done) | (simp; omega)) _)
theorem eqFo_one (x : FO) (w : World) : Calls Tryd.prog 33 #[.agg #[.int .i64 x.1, .int .i64 x.2.1, .int .i64 x.2.2.1, .int .i64 x.2.2.2], .agg #[.int .i64 x.1, .int .i64 x.2.1, .int .i64 x.2.2.1, .int .i64 x.2.2.2]] w fun e w' => e = .returned (.bool true) ∧ Below w.heap.size w w' := by
  obtain ⟨y0, y1, y2, y3⟩ := x
  dsimp only
  have hbn : ∀ (x : Bool) (wz : World), (binOp .neq 4 (.bool x) (.bool x)).run Tryd.prog wz = .ok (.bool false) wz := fun x wz => by cases x <;> kernel_rfl
  go_enter Tryd.func33, Tryd.ntmps33
  go_wp2
  go_ret
  exact ⟨rfl, ((Below.refl _ _).alloc (Nat.le_refl _) _).alloc (by simp) _⟩
theorem infoFo : (Tryd.prog.info? 41).map (fun i => (i.zero, i.size, i.bytes)) = some (some (.agg #[.int .i64 0, .int .i64 0, .int .i64 0, .int .i64 0]), 4, 32) := by kernel_rfl
set_option maxRecDepth 100000 in
set_option maxHeartbeats 2000000 in
theorem tosFo (a : Option Addr) (cap : Nat) (l : List FO) (w : World) (hrow : FoAt w a l) (hm : l.length ≤ 1048576) :
    Calls Tryd.prog 13 #[.slice a l.length cap] w fun e w' => ∃ g, e = .returned (.slice (some ⟨g, 0, none⟩) l.length l.length) ∧ w.heap.size ≤ g ∧ g < w'.heap.size ∧ FoAt w' (some ⟨g, 0, none⟩) l ∧ Below w.heap.size w w' := by
  obtain ⟨i0, hi, hz0, hz1, hz2⟩ := info_parts infoFo
  have hR := hid hrow
  clear hrow
  go_enter Tryd.func13, Tryd.ntmps13
  go_wp2_with (at_make; refine wpList_make_full _ rfl _ _ 28 rfl w.heap.size 41 i0 (.agg #[.int .i64 0, .int .i64 0, .int .i64 0, .int .i64 0]) 4 Tryd.underlying28 hi hz0 hz1 .i64 .i64 _ _ l.length rfl rfl rfl rfl ?b2 ?b3 (Nat.le_refl _) ?_)
  case b2 => rw [hz2]; omega
  case b3 => unfold maxLen; omega
  intro w1 hown hgrow
  have hb1 : Below w.heap.size w w1 := (Below.refl _ _).grown hgrow (Nat.le_refl _) (by intro k h; cases h)
  generalize (madeCells _ _).toList = z at hown
  have hzl : z.length = l.length * 4 := hown.1
  have hO := hid hown
  clear hown hgrow
  go_wp2
  go_loopw [4] (fun i wr => ∃ k : Nat, k ≤ l.length ∧ i = .int .i64 k ∧ wr.ownsRow w.heap.size 41 4 (.slice (some ⟨w.heap.size, 0, none⟩) l.length l.length) l.length (flatFo (l.take k) ++ z.drop (k * 4)) ∧ Below w.heap.size w wr)
    (fun i _ => l.length - (intOf i).toNat)
  case atStart => exact ⟨0, Nat.zero_le _, rfl, by simpa [flatFo] using hO.out, hb1⟩
  case round =>
    obtain ⟨k, hk, rfl, hown, hb⟩ := hrel
    by_cases hlt : k < l.length
    · obtain ⟨b, o, rfl, hbw, c0, c1, c2, c3⟩ := hR.out.below hb k hlt
      have hi0 : (0 : Int) ≤ (k : Int) := by omega
      have hi1 : (k : Int) < (l.length : Int) := by omega
      have hst := flatFo_step l k hlt z hzl
      have hown' : Hid (wr.ownsRow w.heap.size 41 4 (.slice (some ⟨w.heap.size, 0, none⟩) l.length l.length) l.length (flatFo (l.take k) ++ z.drop (k * 4))) := hown
      clear hown
      generalize l[k] = x at c0 c1 c2 c3 hst
      go_wp2_with fail
      refine (toFo_one x _).mono ?_
      rintro e w2 ⟨rfl, hb2⟩
      have own2 := own_below hown'.out hb2
      have hx := chain hb hb2
      obtain ⟨u0, g0⟩ : ∃ u, w2.cell? ⟨w.heap.size, k * 4, none⟩ = some u := ⟨_, (own2.cellAt (k * 4) (by omega)).trans (List.getElem?_eq_getElem (by rw [own2.1]; omega))⟩
      have f0 := own2.frozenAt (k * 4)
      obtain ⟨u1, g1⟩ : ∃ u, w2.cell? ⟨w.heap.size, k * 4 + 1, none⟩ = some u := ⟨_, (own2.cellAt (k * 4 + 1) (by omega)).trans (List.getElem?_eq_getElem (by rw [own2.1]; omega))⟩
      have f1 := own2.frozenAt (k * 4 + 1)
      obtain ⟨u2, g2⟩ : ∃ u, w2.cell? ⟨w.heap.size, k * 4 + 2, none⟩ = some u := ⟨_, (own2.cellAt (k * 4 + 2) (by omega)).trans (List.getElem?_eq_getElem (by rw [own2.1]; omega))⟩
      have f2 := own2.frozenAt (k * 4 + 2)
      obtain ⟨u3, g3⟩ : ∃ u, w2.cell? ⟨w.heap.size, k * 4 + 3, none⟩ = some u := ⟨_, (own2.cellAt (k * 4 + 3) (by omega)).trans (List.getElem?_eq_getElem (by rw [own2.1]; omega))⟩
      have f3 := own2.frozenAt (k * 4 + 3)
      have hO2 := hid own2
      clear own2 hown' hb2
      go_wp2
      go_roundw
      case rel =>
        refine ⟨k + 1, by omega, by go_num, ?_, ?_⟩
        · have r := ((((hO2.out.stored (k * 4) (.int .i64 x.1)).1.stored (k * 4 + 1) (.int .i64 x.2.1)).1.stored (k * 4 + 2) (.int .i64 x.2.2.1)).1.stored (k * 4 + 3) (.int .i64 x.2.2.2))
          rw [hst] at r; exact r.1
        · exact ((((hx.setCell (Nat.le_refl _) _).setCell (Nat.le_refl _) _).setCell (Nat.le_refl _) _).setCell (Nat.le_refl _) _)
      case measure => simp [intOf]; omega
    · have hkl : k = l.length := by omega
      subst hkl
      rw [List.take_length, List.drop_of_length_le (by omega), List.append_nil] at hown
      have own := hid (ownFo hown)
      have hgl := (hown.lt _ rfl).2
      clear hown
      go_wp2
      go_ret
      exact ⟨_, rfl, Nat.le_refl _, hgl, own.out, hb⟩
set_option maxRecDepth 100000 in
set_option maxHeartbeats 2000000 in
theorem eqsFo (a b : Option Addr) (ca cb : Nat) (l : List FO) (w : World) (ha : FoAt w a l) (hb : FoAt w b l) (hm : l.length ≤ maxLen) :
    Calls Tryd.prog 24 #[.slice a l.length ca, .slice b l.length cb] w fun e w' => e = .returned (.bool true) ∧ Below w.heap.size w w' := by
  have hA := hid ha
  have hB := hid hb
  clear ha hb
  unfold maxLen at hm
  go_enter Tryd.func24, Tryd.ntmps24
  go_wp2
  go_loopw [5] (fun i wr => ∃ k : Nat, k ≤ l.length ∧ i = .int .i64 k ∧ Below w.heap.size w wr) (fun i _ => l.length - (intOf i).toNat)
  case atStart => exact ⟨0, Nat.zero_le _, rfl, Below.refl _ _⟩
  case round =>
    obtain ⟨k, hk, rfl, hx⟩ := hrel
    by_cases hlt : k < l.length
    · obtain ⟨b1, o1, rfl, hbw, c0, c1, c2, c3⟩ := hA.out.below hx k hlt
      obtain ⟨b2, o2, rfl, hbw2, d0, d1, d2, d3⟩ := hB.out.below hx k hlt
      have hi0 : (0 : Int) ≤ (k : Int) := by omega
      have hi1 : (k : Int) < (l.length : Int) := by omega
      generalize l[k] = x at c0 c1 c2 c3 d0 d1 d2 d3
      go_wp2_with fail
      refine wp_region_held_drew (S := (fun w' => (w'.cell? ⟨b1, o1 + k * 4, none⟩ = some (.int .i64 x.1) ∧ w'.cell? ⟨b1, o1 + k * 4 + 1, none⟩ = some (.int .i64 x.2.1) ∧ w'.cell? ⟨b1, o1 + k * 4 + 2, none⟩ = some (.int .i64 x.2.2.1) ∧ w'.cell? ⟨b1, o1 + k * 4 + 3, none⟩ = some (.int .i64 x.2.2.2)) ∧ (w'.cell? ⟨b2, o2 + k * 4, none⟩ = some (.int .i64 x.1) ∧ w'.cell? ⟨b2, o2 + k * 4 + 1, none⟩ = some (.int .i64 x.2.1) ∧ w'.cell? ⟨b2, o2 + k * 4 + 2, none⟩ = some (.int .i64 x.2.2.1) ∧ w'.cell? ⟨b2, o2 + k * 4 + 3, none⟩ = some (.int .i64 x.2.2.2)))) (by kernel_rfl) ?_ (fun hHeld => ?_)
      · exact ⟨⟨c0, c1, c2, c3⟩, ⟨d0, d1, d2, d3⟩⟩
      refine tkH 0 ?_
      simp only [Act.put, ptT, ptZ, ptS]
      refine tkH 1 ?_
      simp only [Act.put, ptT, ptZ, ptS]
      refine tkH 2 ?_
      simp only [Act.put, ptT, ptZ, ptS]
      refine tkH 3 ?_
      simp only [Act.put, ptT, ptZ, ptS]
      refine tkH 4 ?_
      simp only [Act.put, ptT, ptZ, ptS]
      refine tkH 5 ?_
      simp only [Act.put, ptT, ptZ, ptS]
      refine tkH 6 ?_
      simp only [Act.put, ptT, ptZ, ptS]
      refine tkH 7 ?_
      simp only [Act.put, ptT, ptZ, ptS]
      refine oneH 8 ?_
      intro K hK
      go_simp
      refine (eqFo_one x _).mono ?_
      rintro e w1 ⟨rfl, hb1'⟩
      have hb1 : Below wr.heap.size wr w1 := undrew hb1'
      rw [← hb1.cell (p := ⟨b1, _, none⟩) hbw] at c0 c1 c2 c3
      rw [← hb1.cell (p := ⟨b2, _, none⟩) hbw2] at d0 d1 d2 d3
      go_wp2_with fail
      refine hK.out _ _ ⟨⟨c0, c1, c2, c3⟩, ⟨d0, d1, d2, d3⟩⟩ (fun hHeld => ?_)
      clear hK K
      try simp only [Act.put, ptT, ptZ, ptS]
      refine tkH 9 ?_
      simp only [Act.put, ptT, ptZ, ptS]
      refine wpAnyH_done (by kernel_rfl) ?_ _
      have hxx := chain hx hb1
      go_wp2
      go_roundw
      case rel => exact ⟨k + 1, by omega, by go_num, hxx⟩
      case measure => simp [intOf]; omega
    · have hkl : k = l.length := by omega
      subst hkl
      go_wp2
      go_ret
      exact ⟨rfl, hx⟩
/-- The FastOuts of a slice lie where it says. -/
def FuAt (w : World) (a : Option Addr) (l : List FU) : Prop :=
  ∀ j (h : j < l.length), ∃ b o, a = some ⟨b, o, none⟩ ∧ b < w.heap.size ∧ w.cell? ⟨b, o + j * 3, none⟩ = some (.int .i64 l[j].1) ∧ w.cell? ⟨b, o + j * 3 + 1, none⟩ = some (.int .i64 l[j].2.1) ∧ w.cell? ⟨b, o + j * 3 + 2, none⟩ = some (.bool l[j].2.2)
theorem FuAt.below {w w' : World} {a : Option Addr} {l : List FU} (h : FuAt w a l) (hb : Below w.heap.size w w') : FuAt w' a l := by
  intro j hj
  obtain ⟨b, o, ha, hlt, c0, c1, c2⟩ := h j hj
  exact ⟨b, o, ha, Nat.lt_of_lt_of_le hlt hb.size, (hb.cell (p := ⟨b, _, none⟩) hlt).trans c0, (hb.cell (p := ⟨b, _, none⟩) hlt).trans c1, (hb.cell (p := ⟨b, _, none⟩) hlt).trans c2⟩
theorem FuAt.keepS {P : Nat → Prop} {w w' : World} {a : Option Addr} {l : List FU} (h : FuAt w a l) (hk : KeepS P w w') (hP : ∀ g o, a = some ⟨g, o, none⟩ → ¬ P g) : FuAt w' a l := by
  intro j hj
  obtain ⟨b, o, ha, hlt, c0, c1, c2⟩ := h j hj
  exact ⟨b, o, ha, Nat.lt_of_lt_of_le hlt hk.size, (hk.cell hlt (hP _ _ ha)).trans c0, (hk.cell hlt (hP _ _ ha)).trans c1, (hk.cell hlt (hP _ _ ha)).trans c2⟩
def flatFu : List FU → List Value
  | [] => []
  | x :: l => .int .i64 x.1 :: .int .i64 x.2.1 :: .bool x.2.2 :: flatFu l
theorem flatFu_length (l : List FU) : (flatFu l).length = l.length * 3 := by
  induction l with
  | nil => rfl
  | cons x l ih => simp only [flatFu, List.length_cons, ih]; omega
theorem flatFu_append (l m : List FU) : flatFu (l ++ m) = flatFu l ++ flatFu m := by
  induction l with
  | nil => rfl
  | cons x l ih => simp only [List.cons_append, flatFu, ih]
theorem flatFu_at (l : List FU) (j : Nat) (h : j < l.length) : (flatFu l)[j * 3]? = some (.int .i64 l[j].1) ∧ (flatFu l)[j * 3 + 1]? = some (.int .i64 l[j].2.1) ∧ (flatFu l)[j * 3 + 2]? = some (.bool l[j].2.2) := by
  induction l generalizing j with
  | nil => simp at h
  | cons x l ih =>
    cases j with
    | zero => exact ⟨rfl, rfl, rfl⟩
    | succ j =>
      have := ih j (by simpa using h)
      have e0 : (j + 1) * 3 = j * 3 + 1 + 1 + 1 := by omega
      have e1 : (j + 1) * 3 + 1 = j * 3 + 1 + 1 + 1 + 1 := by omega
      have e2 : (j + 1) * 3 + 2 = j * 3 + 2 + 1 + 1 + 1 := by omega
      rw [e1, e2, e0]
      simpa only [flatFu, List.getElem?_cons_succ, List.getElem_cons_succ] using this
theorem flatFu_step (l : List FU) (k : Nat) (h : k < l.length) (z : List Value) (hz : z.length = l.length * 3) :
    ((((flatFu (l.take k) ++ z.drop (k * 3)).set (k * 3) (.int .i64 l[k].1)).set (k * 3 + 1) (.int .i64 l[k].2.1)).set (k * 3 + 2) (.bool l[k].2.2)) = flatFu (l.take (k + 1)) ++ z.drop ((k + 1) * 3) := by
  have hl : (flatFu (l.take k)).length = k * 3 := by rw [flatFu_length, List.length_take]; congr 1; omega
  obtain ⟨a0, a1, a2, r, hr⟩ : ∃ a0 a1 a2 r, z.drop (k * 3) = a0 :: a1 :: a2 :: r := by
    have hd : (z.drop (k * 3)).length ≥ 3 := by rw [List.length_drop]; omega
    match hm : z.drop (k * 3), hd with
    | a0 :: a1 :: a2 :: r, _ => exact ⟨a0, a1, a2, r, rfl⟩
  have hr3 : z.drop ((k + 1) * 3) = r := by
    rw [show (k + 1) * 3 = k * 3 + 3 by omega, ← List.drop_drop, hr]; rfl
  rw [List.take_succ_eq_append_getElem h, flatFu_append, hr, hr3]
  rw [List.set_append_right _ _ (by omega), List.set_append_right _ _ (by omega), List.set_append_right _ _ (by omega), hl]
  rw [show k * 3 - k * 3 = 0 by omega, show k * 3 + 1 - k * 3 = 1 by omega, show k * 3 + 2 - k * 3 = 2 by omega]
  simp [flatFu]
theorem ownFu {w : World} {base g cap : Nat} {e : TypeId} {l : List FU} (h : w.ownsRow base e 3 (.slice (some ⟨g, 0, none⟩) l.length cap) l.length (flatFu l)) : FuAt w (some ⟨g, 0, none⟩) l := by
  have hlt : g < w.heap.size := (h.lt g rfl).2
  intro j hj
  obtain ⟨f0, f1, f2⟩ := flatFu_at l j hj
  refine ⟨g, 0, rfl, hlt, ?_, ?_, ?_⟩
  · rw [show 0 + j * 3 = j * 3 by omega, h.cellAt _ (by omega)]; exact f0
  · rw [show 0 + j * 3 + 1 = j * 3 + 1 by omega, h.cellAt _ (by omega)]; exact f1
  · rw [show 0 + j * 3 + 2 = j * 3 + 2 by omega, h.cellAt _ (by omega)]; exact f2
theorem szsFu (a : Option Addr) (cap n : Nat) (left : Int) (w : World) (hm : n ≤ maxLen) (h0 : 0 ≤ left) (h1 : left ≤ 1048576) :
    Calls Tryd.prog 10 #[.slice a n cap, .int .i64 left] w fun e w' => e = .returned (.int .i64 (if left < (n : Int) then -1 else left - n)) ∧ w' = w := by
  unfold maxLen at hm
  by_cases h : left < (n : Int)
  · rw [if_pos h]
    have hn : left - (n : Int) < 0 := by omega
    go_enter Tryd.func10, Tryd.ntmps10
    go_wp2
    go_ret
    exact ⟨rfl, rfl⟩
  · rw [if_neg h]
    have hn : ¬ left - (n : Int) < 0 := by omega
    go_enter Tryd.func10, Tryd.ntmps10
    go_wp2
    go_ret
    exact ⟨ret_int (by omega), rfl⟩
set_option maxHeartbeats 1000000 in
theorem toFu_one (x : FU) (w : World) : Calls Tryd.prog 28 #[.agg #[.int .i64 x.1, .int .i64 x.2.1, .bool x.2.2]] w fun e w' => e = .returned (.agg #[.int .i64 x.1, .int .i64 x.2.1, .bool x.2.2]) ∧ Below w.heap.size w w' := by
  obtain ⟨y0, y1, y2⟩ := x
  dsimp only
  go_enter Tryd.func28, Tryd.ntmps28
  go_wp2
  refine bodyPost_ret (v := .agg #[.int .i64 y0, .int .i64 y1, .bool y2]) (by simp [results, Tryd.results28, go_sem]) rfl ⟨rfl, ?_⟩
  repeat (first | exact Below.refl _ _ | refine Below.alloc ?_ (by first | exact Nat.le_refl _ | (simp; done) | (simp; omega)) _)
theorem eqFu_one (x : FU) (w : World) : Calls Tryd.prog 34 #[.agg #[.int .i64 x.1, .int .i64 x.2.1, .bool x.2.2], .agg #[.int .i64 x.1, .int .i64 x.2.1, .bool x.2.2]] w fun e w' => e = .returned (.bool true) ∧ Below w.heap.size w w' := by
  obtain ⟨y0, y1, y2⟩ := x
  dsimp only
  have hbn : ∀ (x : Bool) (wz : World), (binOp .neq 4 (.bool x) (.bool x)).run Tryd.prog wz = .ok (.bool false) wz := fun x wz => by cases x <;> kernel_rfl
  go_enter Tryd.func34, Tryd.ntmps34
  go_wp2
  go_ret
  exact ⟨rfl, ((Below.refl _ _).alloc (Nat.le_refl _) _).alloc (by simp) _⟩
theorem infoFu : (Tryd.prog.info? 43).map (fun i => (i.zero, i.size, i.bytes)) = some (some (.agg #[.int .i64 0, .int .i64 0, .bool false]), 3, 24) := by kernel_rfl
set_option maxRecDepth 100000 in
set_option maxHeartbeats 2000000 in
theorem tosFu (a : Option Addr) (cap : Nat) (l : List FU) (w : World) (hrow : FuAt w a l) (hm : l.length ≤ 1048576) :
    Calls Tryd.prog 14 #[.slice a l.length cap] w fun e w' => ∃ g, e = .returned (.slice (some ⟨g, 0, none⟩) l.length l.length) ∧ w.heap.size ≤ g ∧ g < w'.heap.size ∧ FuAt w' (some ⟨g, 0, none⟩) l ∧ Below w.heap.size w w' := by
  obtain ⟨i0, hi, hz0, hz1, hz2⟩ := info_parts infoFu
  have hR := hid hrow
  clear hrow
  go_enter Tryd.func14, Tryd.ntmps14
  go_wp2_with (at_make; refine wpList_make_full _ rfl _ _ 29 rfl w.heap.size 43 i0 (.agg #[.int .i64 0, .int .i64 0, .bool false]) 3 Tryd.underlying29 hi hz0 hz1 .i64 .i64 _ _ l.length rfl rfl rfl rfl ?b2 ?b3 (Nat.le_refl _) ?_)
  case b2 => rw [hz2]; omega
  case b3 => unfold maxLen; omega
  intro w1 hown hgrow
  have hb1 : Below w.heap.size w w1 := (Below.refl _ _).grown hgrow (Nat.le_refl _) (by intro k h; cases h)
  generalize (madeCells _ _).toList = z at hown
  have hzl : z.length = l.length * 3 := hown.1
  have hO := hid hown
  clear hown hgrow
  go_wp2
  go_loopw [4] (fun i wr => ∃ k : Nat, k ≤ l.length ∧ i = .int .i64 k ∧ wr.ownsRow w.heap.size 43 3 (.slice (some ⟨w.heap.size, 0, none⟩) l.length l.length) l.length (flatFu (l.take k) ++ z.drop (k * 3)) ∧ Below w.heap.size w wr)
    (fun i _ => l.length - (intOf i).toNat)
  case atStart => exact ⟨0, Nat.zero_le _, rfl, by simpa [flatFu] using hO.out, hb1⟩
  case round =>
    obtain ⟨k, hk, rfl, hown, hb⟩ := hrel
    by_cases hlt : k < l.length
    · obtain ⟨b, o, rfl, hbw, c0, c1, c2⟩ := hR.out.below hb k hlt
      have hi0 : (0 : Int) ≤ (k : Int) := by omega
      have hi1 : (k : Int) < (l.length : Int) := by omega
      have hst := flatFu_step l k hlt z hzl
      have hown' : Hid (wr.ownsRow w.heap.size 43 3 (.slice (some ⟨w.heap.size, 0, none⟩) l.length l.length) l.length (flatFu (l.take k) ++ z.drop (k * 3))) := hown
      clear hown
      generalize l[k] = x at c0 c1 c2 hst
      go_wp2_with fail
      refine (toFu_one x _).mono ?_
      rintro e w2 ⟨rfl, hb2⟩
      have own2 := own_below hown'.out hb2
      have hx := chain hb hb2
      obtain ⟨u0, g0⟩ : ∃ u, w2.cell? ⟨w.heap.size, k * 3, none⟩ = some u := ⟨_, (own2.cellAt (k * 3) (by omega)).trans (List.getElem?_eq_getElem (by rw [own2.1]; omega))⟩
      have f0 := own2.frozenAt (k * 3)
      obtain ⟨u1, g1⟩ : ∃ u, w2.cell? ⟨w.heap.size, k * 3 + 1, none⟩ = some u := ⟨_, (own2.cellAt (k * 3 + 1) (by omega)).trans (List.getElem?_eq_getElem (by rw [own2.1]; omega))⟩
      have f1 := own2.frozenAt (k * 3 + 1)
      obtain ⟨u2, g2⟩ : ∃ u, w2.cell? ⟨w.heap.size, k * 3 + 2, none⟩ = some u := ⟨_, (own2.cellAt (k * 3 + 2) (by omega)).trans (List.getElem?_eq_getElem (by rw [own2.1]; omega))⟩
      have f2 := own2.frozenAt (k * 3 + 2)
      have hO2 := hid own2
      clear own2 hown' hb2
      go_wp2
      go_roundw
      case rel =>
        refine ⟨k + 1, by omega, by go_num, ?_, ?_⟩
        · have r := (((hO2.out.stored (k * 3) (.int .i64 x.1)).1.stored (k * 3 + 1) (.int .i64 x.2.1)).1.stored (k * 3 + 2) (.bool x.2.2))
          rw [hst] at r; exact r.1
        · exact (((hx.setCell (Nat.le_refl _) _).setCell (Nat.le_refl _) _).setCell (Nat.le_refl _) _)
      case measure => simp [intOf]; omega
    · have hkl : k = l.length := by omega
      subst hkl
      rw [List.take_length, List.drop_of_length_le (by omega), List.append_nil] at hown
      have own := hid (ownFu hown)
      have hgl := (hown.lt _ rfl).2
      clear hown
      go_wp2
      go_ret
      exact ⟨_, rfl, Nat.le_refl _, hgl, own.out, hb⟩
set_option maxRecDepth 100000 in
set_option maxHeartbeats 2000000 in
theorem eqsFu (a b : Option Addr) (ca cb : Nat) (l : List FU) (w : World) (ha : FuAt w a l) (hb : FuAt w b l) (hm : l.length ≤ maxLen) :
    Calls Tryd.prog 25 #[.slice a l.length ca, .slice b l.length cb] w fun e w' => e = .returned (.bool true) ∧ Below w.heap.size w w' := by
  have hA := hid ha
  have hB := hid hb
  clear ha hb
  unfold maxLen at hm
  go_enter Tryd.func25, Tryd.ntmps25
  go_wp2
  go_loopw [5] (fun i wr => ∃ k : Nat, k ≤ l.length ∧ i = .int .i64 k ∧ Below w.heap.size w wr) (fun i _ => l.length - (intOf i).toNat)
  case atStart => exact ⟨0, Nat.zero_le _, rfl, Below.refl _ _⟩
  case round =>
    obtain ⟨k, hk, rfl, hx⟩ := hrel
    by_cases hlt : k < l.length
    · obtain ⟨b1, o1, rfl, hbw, c0, c1, c2⟩ := hA.out.below hx k hlt
      obtain ⟨b2, o2, rfl, hbw2, d0, d1, d2⟩ := hB.out.below hx k hlt
      have hi0 : (0 : Int) ≤ (k : Int) := by omega
      have hi1 : (k : Int) < (l.length : Int) := by omega
      generalize l[k] = x at c0 c1 c2 d0 d1 d2
      go_wp2_with fail
      refine wp_region_held_drew (S := (fun w' => (w'.cell? ⟨b1, o1 + k * 3, none⟩ = some (.int .i64 x.1) ∧ w'.cell? ⟨b1, o1 + k * 3 + 1, none⟩ = some (.int .i64 x.2.1) ∧ w'.cell? ⟨b1, o1 + k * 3 + 2, none⟩ = some (.bool x.2.2)) ∧ (w'.cell? ⟨b2, o2 + k * 3, none⟩ = some (.int .i64 x.1) ∧ w'.cell? ⟨b2, o2 + k * 3 + 1, none⟩ = some (.int .i64 x.2.1) ∧ w'.cell? ⟨b2, o2 + k * 3 + 2, none⟩ = some (.bool x.2.2)))) (by kernel_rfl) ?_ (fun hHeld => ?_)
      · exact ⟨⟨c0, c1, c2⟩, ⟨d0, d1, d2⟩⟩
      refine tkH 0 ?_
      simp only [Act.put, ptT, ptZ, ptS]
      refine tkH 1 ?_
      simp only [Act.put, ptT, ptZ, ptS]
      refine tkH 2 ?_
      simp only [Act.put, ptT, ptZ, ptS]
      refine tkH 3 ?_
      simp only [Act.put, ptT, ptZ, ptS]
      refine tkH 4 ?_
      simp only [Act.put, ptT, ptZ, ptS]
      refine tkH 5 ?_
      simp only [Act.put, ptT, ptZ, ptS]
      refine tkH 6 ?_
      simp only [Act.put, ptT, ptZ, ptS]
      refine tkH 7 ?_
      simp only [Act.put, ptT, ptZ, ptS]
      refine oneH 8 ?_
      intro K hK
      go_simp
      refine (eqFu_one x _).mono ?_
      rintro e w1 ⟨rfl, hb1'⟩
      have hb1 : Below wr.heap.size wr w1 := undrew hb1'
      rw [← hb1.cell (p := ⟨b1, _, none⟩) hbw] at c0 c1 c2
      rw [← hb1.cell (p := ⟨b2, _, none⟩) hbw2] at d0 d1 d2
      go_wp2_with fail
      refine hK.out _ _ ⟨⟨c0, c1, c2⟩, ⟨d0, d1, d2⟩⟩ (fun hHeld => ?_)
      clear hK K
      try simp only [Act.put, ptT, ptZ, ptS]
      refine tkH 9 ?_
      simp only [Act.put, ptT, ptZ, ptS]
      refine wpAnyH_done (by kernel_rfl) ?_ _
      have hxx := chain hx hb1
      go_wp2
      go_roundw
      case rel => exact ⟨k + 1, by omega, by go_num, hxx⟩
      case measure => simp [intOf]; omega
    · have hkl : k = l.length := by omega
      subst hkl
      go_wp2
      go_ret
      exact ⟨rfl, hx⟩
end Go.Proofs.YtmhamgcjmehnnaaDoor
