/-
  A part of the proof: FastL, Strs1, FastMk, Kept, Until.
-/
import Derived.Test.YtjjkdbmjloolaaaGreatDoorPart1
import Derived.Test.YtjjkdbmjloolaaaGreatDoorPart2
import Derived.Deep.RegionHeld3

namespace Go.Proofs.YtjjkdbmjloolaaaGreatDoor
open Go.ChangeShapes Go.WideShapes Go.ChangeAt Go.RowKit
attribute [local go_sem ↓] Go.wp_at_zero Go.wp_at_succ
attribute [local simp] World.cell?_alloc_past World.cell?_alloc_at World.frozen?_alloc_at cell_far cell_off cell_here World.frozen?_alloc_past
abbrev FO := Int × Int × Int × Int
abbrev FU := Int × Int × Bool
def FoAt (w : World) (a : Option Addr) (l : List FO) : Prop :=
 ∀ j (h : j < l.length), ∃ b o, a = some ⟨b, o, none⟩ ∧ b < w.heap.size ∧ w.cell? ⟨b, o + j * 4, none⟩ = some (.int .i64 l[j].1) ∧ w.cell? ⟨b, o + j * 4 + 1, none⟩ = some (.int .i64 l[j].2.1) ∧ w.cell? ⟨b, o + j * 4 + 2, none⟩ = some (.int .i64 l[j].2.2.1) ∧ w.cell? ⟨b, o + j * 4 + 3, none⟩ = some (.int .i64 l[j].2.2.2)
theorem FoAt.below {w w' : World} {a : Option Addr} {l : List FO} (h : FoAt w a l) (hb : Below w.heap.size w w') : FoAt w' a l := by
 intro j hj
 obtain ⟨b, o, ha, hlt, c0, c1, c2, c3⟩ := h j hj
 exact ⟨b, o, ha, Nat.lt_of_lt_of_le hlt hb.size, (hb.cell (p := ⟨b, _, none⟩) hlt).trans c0, (hb.cell (p := ⟨b, _, none⟩) hlt).trans c1, (hb.cell (p := ⟨b, _, none⟩) hlt).trans c2, (hb.cell (p := ⟨b, _, none⟩) hlt).trans c3⟩
theorem FoAt.keepS {P : Nat → Prop} {w w' : World} {a : Option Addr} {l : List FO} (h : FoAt w a l) (hk : KeepS P w w') (hP : ∀ g o, a = some ⟨g, o, none⟩ → ¬ P g) : FoAt w' a l := by
 intro j hj
 obtain ⟨b, o, ha, hlt, c0, c1, c2, c3⟩ := h j hj
 exact ⟨b, o, ha, Nat.lt_of_lt_of_le hlt hk.size, (hk.cell hlt (hP _ _ ha)).trans c0, (hk.cell hlt (hP _ _ ha)).trans c1, (hk.cell hlt (hP _ _ ha)).trans c2, (hk.cell hlt (hP _ _ ha)).trans c3⟩
def flatFo : List FO → List Value
 | [] => []
 | x :: l => .int .i64 x.1 :: .int .i64 x.2.1 :: .int .i64 x.2.2.1 :: .int .i64 x.2.2.2 :: flatFo l
theorem flatFo_append (l m : List FO) : flatFo (l ++ m) = flatFo l ++ flatFo m := by
 induction l with
 | nil => rfl
 | cons x l ih => simp only [List.cons_append, flatFo, ih]
theorem flatFo_at (l : List FO) (j : Nat) (h : j < l.length) : (flatFo l)[j * 4]? = some (.int .i64 l[j].1) ∧ (flatFo l)[j * 4 + 1]? = some (.int .i64 l[j].2.1) ∧ (flatFo l)[j * 4 + 2]? = some (.int .i64 l[j].2.2.1) ∧ (flatFo l)[j * 4 + 3]? = some (.int .i64 l[j].2.2.2) := by
 induction l generalizing j with
 | nil => simp at h
 | cons x l ih =>
  cases j with
  | zero => exact ⟨rfl, rfl, rfl, rfl⟩
  | succ j =>
   have := ih j (by simpa using h)
   have e0 : (j + 1) * 4 = j * 4 + 1 + 1 + 1 + 1 := by omega
   have e1 : (j + 1) * 4 + 1 = j * 4 + 1 + 1 + 1 + 1 + 1 := by omega
   have e2 : (j + 1) * 4 + 2 = j * 4 + 2 + 1 + 1 + 1 + 1 := by omega
   have e3 : (j + 1) * 4 + 3 = j * 4 + 3 + 1 + 1 + 1 + 1 := by omega
   rw [e1, e2, e3, e0]
   simpa only [flatFo, List.getElem?_cons_succ, List.getElem_cons_succ] using this
theorem ownFo {w : World} {base g cap : Nat} {e : TypeId} {l : List FO} (h : w.ownsRow base e 4 (.slice (some ⟨g, 0, none⟩) l.length cap) l.length (flatFo l)) : FoAt w (some ⟨g, 0, none⟩) l := by
 have hlt : g < w.heap.size := (h.lt g rfl).2
 intro j hj
 obtain ⟨f0, f1, f2, f3⟩ := flatFo_at l j hj
 refine ⟨g, 0, rfl, hlt, ?_, ?_, ?_, ?_⟩
 · rw [show 0 + j * 4 = j * 4 by omega, h.cellAt _ (by omega)]; exact f0
 · rw [show 0 + j * 4 + 1 = j * 4 + 1 by omega, h.cellAt _ (by omega)]; exact f1
 · rw [show 0 + j * 4 + 2 = j * 4 + 2 by omega, h.cellAt _ (by omega)]; exact f2
 · rw [show 0 + j * 4 + 3 = j * 4 + 3 by omega, h.cellAt _ (by omega)]; exact f3
theorem eqFo_one (x : FO) (w : World) : Calls Tryz.prog 47 #[.agg #[.int .i64 x.1, .int .i64 x.2.1, .int .i64 x.2.2.1, .int .i64 x.2.2.2], .agg #[.int .i64 x.1, .int .i64 x.2.1, .int .i64 x.2.2.1, .int .i64 x.2.2.2]] w fun e w' => e = .returned (.bool true) ∧ Below w.heap.size w w' := by
 obtain ⟨y0, y1, y2, y3⟩ := x
 dsimp only
 have hbn : ∀ (x : Bool) (wz : World), (binOp .neq 4 (.bool x) (.bool x)).run Tryz.prog wz = .ok (.bool false) wz := fun x wz => by cases x <;> kernel_rfl
 go_enter Tryz.func47, Tryz.ntmps47
 go_wp2
 go_ret
 exact ⟨rfl, ((Below.refl _ _).alloc (Nat.le_refl _) _).alloc (by simp) _⟩
set_option maxRecDepth 100000 in
set_option maxHeartbeats 2000000 in
theorem eqsFo (a b : Option Addr) (ca cb : Nat) (l : List FO) (w : World) (ha : FoAt w a l) (hb : FoAt w b l) (hm : l.length ≤ maxLen) :
  Calls Tryz.prog 24 #[.slice a l.length ca, .slice b l.length cb] w fun e w' => e = .returned (.bool true) ∧ Below w.heap.size w w' := by
 have hA := hid ha
 have hB := hid hb
 clear ha hb
 unfold maxLen at hm
 go_enter Tryz.func24, Tryz.ntmps24
 go_wp2
 go_loopw [5] (fun i wr => ∃ k : Nat, k ≤ l.length ∧ i = .int .i64 k ∧ Below w.heap.size w wr) (fun i _ => l.length - (intOf i).toNat)
 case atStart => exact ⟨0, Nat.zero_le _, rfl, Below.refl _ _⟩
 case round =>
  obtain ⟨k, hk, rfl, hx⟩ := hrel
  by_cases hlt : k < l.length
  · obtain ⟨b1, o1, rfl, hbw, c0, c1, c2, c3⟩ := hA.out.below hx k hlt
   obtain ⟨b2, o2, rfl, hbw2, d0, d1, d2, d3⟩ := hB.out.below hx k hlt
   have hi0 : (0 : Int) ≤ (k : Int) := by omega
   have hi1 : (k : Int) < (l.length : Int) := by omega
   generalize l[k] = x at c0 c1 c2 c3 d0 d1 d2 d3
   go_wp2_with fail
   refine wp_region_held_drew (S := (fun w' => (w'.cell? ⟨b1, o1 + k * 4, none⟩ = some (.int .i64 x.1) ∧ w'.cell? ⟨b1, o1 + k * 4 + 1, none⟩ = some (.int .i64 x.2.1) ∧ w'.cell? ⟨b1, o1 + k * 4 + 2, none⟩ = some (.int .i64 x.2.2.1) ∧ w'.cell? ⟨b1, o1 + k * 4 + 3, none⟩ = some (.int .i64 x.2.2.2)) ∧ (w'.cell? ⟨b2, o2 + k * 4, none⟩ = some (.int .i64 x.1) ∧ w'.cell? ⟨b2, o2 + k * 4 + 1, none⟩ = some (.int .i64 x.2.1) ∧ w'.cell? ⟨b2, o2 + k * 4 + 2, none⟩ = some (.int .i64 x.2.2.1) ∧ w'.cell? ⟨b2, o2 + k * 4 + 3, none⟩ = some (.int .i64 x.2.2.2)))) (by kernel_rfl) ?_ (fun hHeld => ?_)
   · exact ⟨⟨c0, c1, c2, c3⟩, ⟨d0, d1, d2, d3⟩⟩
   refine tkH 0 ?_
   simp only [Act.put, ptT, ptZ, ptS]
   refine tkH 1 ?_
   simp only [Act.put, ptT, ptZ, ptS]
   refine tkH 2 ?_
   simp only [Act.put, ptT, ptZ, ptS]
   refine tkH 3 ?_
   simp only [Act.put, ptT, ptZ, ptS]
   refine tkH 4 ?_
   simp only [Act.put, ptT, ptZ, ptS]
   refine tkH 5 ?_
   simp only [Act.put, ptT, ptZ, ptS]
   refine tkH 6 ?_
   simp only [Act.put, ptT, ptZ, ptS]
   refine tkH 7 ?_
   simp only [Act.put, ptT, ptZ, ptS]
   refine oneH 8 ?_
   intro K hK
   go_simp
   refine (eqFo_one x _).mono ?_
   rintro e w1 ⟨rfl, hb1'⟩
   have hb1 : Below wr.heap.size wr w1 := undrew hb1'
   rw [← hb1.cell (p := ⟨b1, _, none⟩) hbw] at c0 c1 c2 c3
   rw [← hb1.cell (p := ⟨b2, _, none⟩) hbw2] at d0 d1 d2 d3
   go_wp2_with fail
   refine hK.out _ _ ⟨⟨c0, c1, c2, c3⟩, ⟨d0, d1, d2, d3⟩⟩ (fun hHeld => ?_)
   clear hK K
   try simp only [Act.put, ptT, ptZ, ptS]
   refine tkH 9 ?_
   simp only [Act.put, ptT, ptZ, ptS]
   refine wpAnyH_done (by kernel_rfl) ?_ _
   have hxx := chain hx hb1
   go_wp2
   go_roundw
   case rel => exact ⟨k + 1, by omega, by go_num, hxx⟩
   case measure => simp [intOf]; omega
  · have hkl : k = l.length := by omega
   subst hkl
   go_wp2
   go_ret
   exact ⟨rfl, hx⟩
def FuAt (w : World) (a : Option Addr) (l : List FU) : Prop :=
 ∀ j (h : j < l.length), ∃ b o, a = some ⟨b, o, none⟩ ∧ b < w.heap.size ∧ w.cell? ⟨b, o + j * 3, none⟩ = some (.int .i64 l[j].1) ∧ w.cell? ⟨b, o + j * 3 + 1, none⟩ = some (.int .i64 l[j].2.1) ∧ w.cell? ⟨b, o + j * 3 + 2, none⟩ = some (.bool l[j].2.2)
theorem FuAt.below {w w' : World} {a : Option Addr} {l : List FU} (h : FuAt w a l) (hb : Below w.heap.size w w') : FuAt w' a l := by
 intro j hj
 obtain ⟨b, o, ha, hlt, c0, c1, c2⟩ := h j hj
 exact ⟨b, o, ha, Nat.lt_of_lt_of_le hlt hb.size, (hb.cell (p := ⟨b, _, none⟩) hlt).trans c0, (hb.cell (p := ⟨b, _, none⟩) hlt).trans c1, (hb.cell (p := ⟨b, _, none⟩) hlt).trans c2⟩
theorem FuAt.keepS {P : Nat → Prop} {w w' : World} {a : Option Addr} {l : List FU} (h : FuAt w a l) (hk : KeepS P w w') (hP : ∀ g o, a = some ⟨g, o, none⟩ → ¬ P g) : FuAt w' a l := by
 intro j hj
 obtain ⟨b, o, ha, hlt, c0, c1, c2⟩ := h j hj
 exact ⟨b, o, ha, Nat.lt_of_lt_of_le hlt hk.size, (hk.cell hlt (hP _ _ ha)).trans c0, (hk.cell hlt (hP _ _ ha)).trans c1, (hk.cell hlt (hP _ _ ha)).trans c2⟩
def flatFu : List FU → List Value
 | [] => []
 | x :: l => .int .i64 x.1 :: .int .i64 x.2.1 :: .bool x.2.2 :: flatFu l
theorem flatFu_length (l : List FU) : (flatFu l).length = l.length * 3 := by
 induction l with
 | nil => rfl
 | cons x l ih => simp only [flatFu, List.length_cons, ih]; omega
theorem flatFu_append (l m : List FU) : flatFu (l ++ m) = flatFu l ++ flatFu m := by
 induction l with
 | nil => rfl
 | cons x l ih => simp only [List.cons_append, flatFu, ih]
theorem flatFu_at (l : List FU) (j : Nat) (h : j < l.length) : (flatFu l)[j * 3]? = some (.int .i64 l[j].1) ∧ (flatFu l)[j * 3 + 1]? = some (.int .i64 l[j].2.1) ∧ (flatFu l)[j * 3 + 2]? = some (.bool l[j].2.2) := by
 induction l generalizing j with
 | nil => simp at h
 | cons x l ih =>
  cases j with
  | zero => exact ⟨rfl, rfl, rfl⟩
  | succ j =>
   have := ih j (by simpa using h)
   have e0 : (j + 1) * 3 = j * 3 + 1 + 1 + 1 := by omega
   have e1 : (j + 1) * 3 + 1 = j * 3 + 1 + 1 + 1 + 1 := by omega
   have e2 : (j + 1) * 3 + 2 = j * 3 + 2 + 1 + 1 + 1 := by omega
   rw [e1, e2, e0]
   simpa only [flatFu, List.getElem?_cons_succ, List.getElem_cons_succ] using this
theorem ownFu {w : World} {base g cap : Nat} {e : TypeId} {l : List FU} (h : w.ownsRow base e 3 (.slice (some ⟨g, 0, none⟩) l.length cap) l.length (flatFu l)) : FuAt w (some ⟨g, 0, none⟩) l := by
 have hlt : g < w.heap.size := (h.lt g rfl).2
 intro j hj
 obtain ⟨f0, f1, f2⟩ := flatFu_at l j hj
 refine ⟨g, 0, rfl, hlt, ?_, ?_, ?_⟩
 · rw [show 0 + j * 3 = j * 3 by omega, h.cellAt _ (by omega)]; exact f0
 · rw [show 0 + j * 3 + 1 = j * 3 + 1 by omega, h.cellAt _ (by omega)]; exact f1
 · rw [show 0 + j * 3 + 2 = j * 3 + 2 by omega, h.cellAt _ (by omega)]; exact f2
theorem eqFu_one (x : FU) (w : World) : Calls Tryz.prog 48 #[.agg #[.int .i64 x.1, .int .i64 x.2.1, .bool x.2.2], .agg #[.int .i64 x.1, .int .i64 x.2.1, .bool x.2.2]] w fun e w' => e = .returned (.bool true) ∧ Below w.heap.size w w' := by
 obtain ⟨y0, y1, y2⟩ := x
 dsimp only
 have hbn : ∀ (x : Bool) (wz : World), (binOp .neq 4 (.bool x) (.bool x)).run Tryz.prog wz = .ok (.bool false) wz := fun x wz => by cases x <;> kernel_rfl
 go_enter Tryz.func48, Tryz.ntmps48
 go_wp2
 go_ret
 exact ⟨rfl, ((Below.refl _ _).alloc (Nat.le_refl _) _).alloc (by simp) _⟩
set_option maxRecDepth 100000 in
set_option maxHeartbeats 2000000 in
theorem eqsFu (a b : Option Addr) (ca cb : Nat) (l : List FU) (w : World) (ha : FuAt w a l) (hb : FuAt w b l) (hm : l.length ≤ maxLen) :
  Calls Tryz.prog 25 #[.slice a l.length ca, .slice b l.length cb] w fun e w' => e = .returned (.bool true) ∧ Below w.heap.size w w' := by
 have hA := hid ha
 have hB := hid hb
 clear ha hb
 unfold maxLen at hm
 go_enter Tryz.func25, Tryz.ntmps25
 go_wp2
 go_loopw [5] (fun i wr => ∃ k : Nat, k ≤ l.length ∧ i = .int .i64 k ∧ Below w.heap.size w wr) (fun i _ => l.length - (intOf i).toNat)
 case atStart => exact ⟨0, Nat.zero_le _, rfl, Below.refl _ _⟩
 case round =>
  obtain ⟨k, hk, rfl, hx⟩ := hrel
  by_cases hlt : k < l.length
  · obtain ⟨b1, o1, rfl, hbw, c0, c1, c2⟩ := hA.out.below hx k hlt
   obtain ⟨b2, o2, rfl, hbw2, d0, d1, d2⟩ := hB.out.below hx k hlt
   have hi0 : (0 : Int) ≤ (k : Int) := by omega
   have hi1 : (k : Int) < (l.length : Int) := by omega
   generalize l[k] = x at c0 c1 c2 d0 d1 d2
   go_wp2_with fail
   refine wp_region_held_drew (S := (fun w' => (w'.cell? ⟨b1, o1 + k * 3, none⟩ = some (.int .i64 x.1) ∧ w'.cell? ⟨b1, o1 + k * 3 + 1, none⟩ = some (.int .i64 x.2.1) ∧ w'.cell? ⟨b1, o1 + k * 3 + 2, none⟩ = some (.bool x.2.2)) ∧ (w'.cell? ⟨b2, o2 + k * 3, none⟩ = some (.int .i64 x.1) ∧ w'.cell? ⟨b2, o2 + k * 3 + 1, none⟩ = some (.int .i64 x.2.1) ∧ w'.cell? ⟨b2, o2 + k * 3 + 2, none⟩ = some (.bool x.2.2)))) (by kernel_rfl) ?_ (fun hHeld => ?_)
   · exact ⟨⟨c0, c1, c2⟩, ⟨d0, d1, d2⟩⟩
   refine tkH 0 ?_
   simp only [Act.put, ptT, ptZ, ptS]
   refine tkH 1 ?_
   simp only [Act.put, ptT, ptZ, ptS]
   refine tkH 2 ?_
   simp only [Act.put, ptT, ptZ, ptS]
   refine tkH 3 ?_
   simp only [Act.put, ptT, ptZ, ptS]
   refine tkH 4 ?_
   simp only [Act.put, ptT, ptZ, ptS]
   refine tkH 5 ?_
   simp only [Act.put, ptT, ptZ, ptS]
   refine tkH 6 ?_
   simp only [Act.put, ptT, ptZ, ptS]
   refine tkH 7 ?_
   simp only [Act.put, ptT, ptZ, ptS]
   refine oneH 8 ?_
   intro K hK
   go_simp
   refine (eqFu_one x _).mono ?_
   rintro e w1 ⟨rfl, hb1'⟩
   have hb1 : Below wr.heap.size wr w1 := undrew hb1'
   rw [← hb1.cell (p := ⟨b1, _, none⟩) hbw] at c0 c1 c2
   rw [← hb1.cell (p := ⟨b2, _, none⟩) hbw2] at d0 d1 d2
   go_wp2_with fail
   refine hK.out _ _ ⟨⟨c0, c1, c2⟩, ⟨d0, d1, d2⟩⟩ (fun hHeld => ?_)
   clear hK K
   try simp only [Act.put, ptT, ptZ, ptS]
   refine tkH 9 ?_
   simp only [Act.put, ptT, ptZ, ptS]
   refine wpAnyH_done (by kernel_rfl) ?_ _
   have hxx := chain hx hb1
   go_wp2
   go_roundw
   case rel => exact ⟨k + 1, by omega, by go_num, hxx⟩
   case measure => simp [intOf]; omega
  · have hkl : k = l.length := by omega
   subst hkl
   go_wp2
   go_ret
   exact ⟨rfl, hx⟩
end Go.Proofs.YtjjkdbmjloolaaaGreatDoor
namespace Go.Proofs.YtjjkdbmjloolaaaGreatDoor
open Go.ChangeShapes Go.WideShapes Go.ChangeAt Go.RowKit
attribute [local go_sem ↓] Go.wp_at_zero Go.wp_at_succ
def StrsAt (w : World) (a : Option Addr) (l : List ByteArray) : Prop :=
 ∀ j (h : j < l.length), ∃ b o, a = some ⟨b, o, none⟩ ∧ b < w.heap.size ∧ w.cell? ⟨b, o + j, none⟩ = some (.string l[j])
theorem StrsAt.below {w w' : World} {a : Option Addr} {l : List ByteArray} (h : StrsAt w a l) (hb : Below w.heap.size w w') : StrsAt w' a l := by
 intro j hj
 obtain ⟨b, o, ha, hlt, h0⟩ := h j hj
 exact ⟨b, o, ha, Nat.lt_of_lt_of_le hlt hb.size, by rw [hb.cell (p := ⟨b, _, none⟩) hlt]; exact h0⟩
def FitS (l : List ByteArray) : Prop := ∀ j (h : j < l.length), (l[j]).size ≤ maxLen
def weightS (l : List ByteArray) : Nat := (l.map (·.size)).sum
theorem weightS_take (l : List ByteArray) (k : Nat) (h : k < l.length) : weightS (l.take (k + 1)) = weightS (l.take k) + (l[k]).size := by
 unfold weightS
 rw [List.take_succ_eq_append_getElem h, List.map_append, List.sum_append]; simp
theorem weightS_le (l : List ByteArray) (k : Nat) : weightS (l.take k) ≤ weightS l := by
 unfold weightS
 conv => rhs; rw [← List.take_append_drop k l, List.map_append, List.sum_append]
 omega
def strV (l : List ByteArray) : List Value := l.map Value.string
theorem strV_length (l : List ByteArray) : (strV l).length = l.length := List.length_map _
theorem strV_step (l : List ByteArray) (k : Nat) (h : k < l.length) (z : List Value) (hz : z.length = l.length) :
  (strV (l.take k) ++ z.drop k).set k (.string l[k]) = strV (l.take (k + 1)) ++ z.drop (k + 1) := by
 have hl : (strV (l.take k)).length = k := by rw [strV_length, List.length_take]; omega
 obtain ⟨a, r, hr⟩ : ∃ a r, z.drop k = a :: r := by
  have hd : (z.drop k).length ≥ 1 := by rw [List.length_drop]; omega
  match hm : z.drop k, hd with
  | a :: r, _ => exact ⟨a, r, rfl⟩
 have hr1 : z.drop (k + 1) = r := by rw [← List.drop_drop, hr]; rfl
 rw [List.take_succ_eq_append_getElem h, hr, hr1]
 rw [List.set_append_right _ _ (by omega), hl, Nat.sub_self, List.set_cons_zero, show strV (l.take k ++ [l[k]]) = strV (l.take k) ++ [.string l[k]] from List.map_append, List.append_assoc]
 rfl
theorem own_strs {w : World} {base g cap : Nat} {e : TypeId} {l : List ByteArray} (h : w.ownsRow base e 1 (.slice (some ⟨g, 0, none⟩) l.length cap) l.length (strV l)) : StrsAt w (some ⟨g, 0, none⟩) l := by
 have hlt : g < w.heap.size := (h.lt g rfl).2
 intro j hj
 refine ⟨g, 0, rfl, hlt, ?_⟩
 rw [Nat.zero_add, h.cellAt _ (by omega)]
 unfold strV
 rw [List.getElem?_map, List.getElem?_eq_getElem hj]; rfl
def leftOfS (l : List ByteArray) (left : Int) : Int := if left < (l.length : Int) + (weightS l : Int) then -1 else left - l.length - weightS l
set_option maxHeartbeats 1000000 in
theorem szstr_laws (a : Option Addr) (cap : Nat) (l : List ByteArray) (left : Int) (w : World) (hrow : StrsAt w a l) (hfit : FitS l) (hm : l.length ≤ maxLen) (h0 : 0 ≤ left) (h1 : left ≤ 1048576) :
  Calls Tryz.prog 4 #[.slice a l.length cap, .int .i64 left] w fun e w' => e = .returned (.int .i64 (leftOfS l left)) ∧ Below w.heap.size w w' := by
 have hR := hid hrow
 have hF := hid hfit
 clear hrow hfit
 by_cases hlen : left < (l.length : Int)
 · have hneg : left - (l.length : Int) < 0 := by omega
  rw [show leftOfS l left = -1 from if_pos (by omega)]
  unfold maxLen at hm
  go_enter Tryz.func4, Tryz.ntmps4
  go_wp2
  go_ret
  exact ⟨rfl, Below.refl _ _⟩
 have hneg : 0 ≤ left - (l.length : Int) := by omega
 go_enter Tryz.func4, Tryz.ntmps4
 go_wp2
 go_loopw [1, 5] (fun s i wr => ∃ k : Nat, k ≤ l.length ∧ i = .int .i64 k ∧ s = .int .i64 (left - l.length - weightS (l.take k)) ∧ 0 ≤ left - l.length - weightS (l.take k) ∧ Below w.heap.size w wr)
  (fun _ i _ => l.length - (intOf i).toNat)
 case atStart => exact ⟨0, Nat.zero_le _, rfl, by simp [weightS], by simp [weightS]; omega, Below.refl _ _⟩
 case round =>
  obtain ⟨k, hk, rfl, rfl, hpos, hb⟩ := hrel
  by_cases hlt : k < l.length
  · obtain ⟨b, o, rfl, hbw, c0⟩ := hR.out.below hb k hlt
   have hi0 : (0 : Int) ≤ (k : Int) := by omega
   have hi1 : (k : Int) < (l.length : Int) := by omega
   have hwt := weightS_take l k hlt
   have hft := hF.out k hlt
   have hwl := weightS_le l (k + 1)
   unfold maxLen at hft
   generalize l[k] = x at c0 hwt hft
   generalize weightS (l.take k) = W at *
   by_cases hs : left - (l.length : Int) - (W : Int) < (x.size : Int)
   · have hp2 : left - (l.length : Int) - (W : Int) - (x.size : Int) < 0 := by omega
    go_wp2
    go_ret
    exact ⟨ret_int (by rw [leftOfS, if_pos (by omega)]), hb⟩
   · have hp2 : 0 ≤ left - (l.length : Int) - (W : Int) - (x.size : Int) := by omega
    go_wp2
    go_roundw
    case rel => exact ⟨k + 1, by omega, by go_num, by rw [hwt]; congr 1; omega, by rw [hwt]; omega, hb⟩
    case measure => simp [intOf]; omega
  · have hkl : k = l.length := by omega
   subst hkl
   rw [List.take_length] at hpos ⊢
   go_wp2
   go_ret
   exact ⟨ret_int (by rw [leftOfS, if_neg (by omega)]), hb⟩
theorem infoStrT : (Tryz.prog.info? 9).map (fun i => (i.zero, i.size, i.bytes)) = some (some (.string ⟨#[]⟩), 1, 16) := by kernel_rfl
set_option maxHeartbeats 1000000 in
theorem tostr_laws (a : Option Addr) (cap : Nat) (l : List ByteArray) (w : World) (hrow : StrsAt w a l) (hm : l.length ≤ 1048576) :
  Calls Tryz.prog 7 #[.slice a l.length cap] w fun e w' => e = .returned (.slice (some ⟨w.heap.size, 0, none⟩) l.length l.length) ∧
   w'.ownsRow w.heap.size 9 1 (.slice (some ⟨w.heap.size, 0, none⟩) l.length l.length) l.length (strV l) ∧ Below w.heap.size w w' := by
 obtain ⟨i0, hi, hz0, hz1, hz2⟩ := info_parts infoStrT
 have hR := hid hrow
 clear hrow
 go_enter Tryz.func7, Tryz.ntmps7
 go_wp2_with (at_make; refine wpList_make_full _ rfl _ _ 22 rfl w.heap.size 9 i0 (.string ⟨#[]⟩) 1 Tryz.underlying22 hi hz0 hz1 .i64 .i64 _ _ l.length rfl rfl rfl rfl ?b2 ?b3 (Nat.le_refl _) ?_)
 case b2 => rw [hz2]; omega
 case b3 => unfold maxLen; omega
 intro w1 hown hgrow
 have hb1 : Below w.heap.size w w1 := (Below.refl _ _).grown hgrow (Nat.le_refl _) (by intro k h; cases h)
 generalize (madeCells _ _).toList = z at hown
 have hzl : z.length = l.length := by have := hown.1; omega
 have hO := hid hown
 clear hown hgrow
 go_wp2
 go_loopw [4] (fun i wr => ∃ k : Nat, k ≤ l.length ∧ i = .int .i64 k ∧ wr.ownsRow w.heap.size 9 1 (.slice (some ⟨w.heap.size, 0, none⟩) l.length l.length) l.length (strV (l.take k) ++ z.drop k) ∧ Below w.heap.size w wr)
  (fun i _ => l.length - (intOf i).toNat)
 case atStart => exact ⟨0, Nat.zero_le _, rfl, by simpa [strV] using hO.out, hb1⟩
 case round =>
  obtain ⟨k, hk, rfl, hown, hb⟩ := hrel
  by_cases hlt : k < l.length
  · obtain ⟨b, o, rfl, hbw, c0⟩ := hR.out.below hb k hlt
   have hi0 : (0 : Int) ≤ (k : Int) := by omega
   have hi1 : (k : Int) < (l.length : Int) := by omega
   have hst := strV_step l k hlt z hzl
   obtain ⟨u0, g0⟩ : ∃ u, wr.cell? ⟨w.heap.size, k, none⟩ = some u := ⟨_, (hown.cellAt k (by omega)).trans (List.getElem?_eq_getElem (by rw [hown.1]; omega))⟩
   have f0 := hown.frozenAt k
   have hO2 := hid hown
   clear hown
   generalize l[k] = x at c0 hst
   go_wp2
   go_roundw
   case rel =>
    refine ⟨k + 1, by omega, by go_num, ?_, ?_⟩
    · have r := hO2.out.stored k (.string x)
     rw [hst] at r; exact r.1
    · exact hb.setCell (Nat.le_refl _) _
   case measure => simp [intOf]; omega
  · have hkl : k = l.length := by omega
   subst hkl
   rw [List.take_length, List.drop_of_length_le (by omega), List.append_nil] at hown
   go_wp2
   go_ret
   exact ⟨rfl, hown, hb⟩
set_option maxHeartbeats 1000000 in
theorem eqstr_laws (a b : Option Addr) (ca cb : Nat) (l : List ByteArray) (w : World) (ha : StrsAt w a l) (hb : StrsAt w b l) (hm : l.length ≤ maxLen) :
  Calls Tryz.prog 11 #[.slice a l.length ca, .slice b l.length cb] w fun e w' => e = .returned (.bool true) ∧ Below w.heap.size w w' := by
 have hA := hid ha
 have hB := hid hb
 clear ha hb
 unfold maxLen at hm
 go_enter Tryz.func11, Tryz.ntmps11
 go_wp2
 go_loopw [5] (fun i wr => ∃ k : Nat, k ≤ l.length ∧ i = .int .i64 k ∧ Below w.heap.size w wr) (fun i _ => l.length - (intOf i).toNat)
 case atStart => exact ⟨0, Nat.zero_le _, rfl, Below.refl _ _⟩
 case round =>
  obtain ⟨k, hk, rfl, hx⟩ := hrel
  by_cases hlt : k < l.length
  · obtain ⟨b1, o1, rfl, hbw, c0⟩ := hA.out.below hx k hlt
   obtain ⟨b2, o2, rfl, hbw2, d0⟩ := hB.out.below hx k hlt
   have hi0 : (0 : Int) ≤ (k : Int) := by omega
   have hi1 : (k : Int) < (l.length : Int) := by omega
   generalize l[k] = x at c0 d0
   have hxx : (x.toList == x.toList) = true := by simp
   go_wp2_with fail
   go_quiet (fail)
   go_wp2
   go_roundw
   case rel => exact ⟨k + 1, by omega, by go_num, belowN hx _⟩
   case measure => simp [intOf]; omega
  · go_wp2
   go_ret
   exact ⟨rfl, hx⟩
end Go.Proofs.YtjjkdbmjloolaaaGreatDoor
namespace Go.Proofs.YtjjkdbmjloolaaaGreatDoor
structure Mkr where
 ops : List FO
 cols : List ByteArray
 outs : List FU
 tr : List Bool
 bad : Bool
def newM (M : Mkr) (o : FO) (t : Bool) : Int × Mkr :=
 if M.tr.length = 30 then (0, { M with bad := true }) else ((M.tr.length : Int), { M with ops := M.ops ++ [(o.1, (M.tr.length : Int), o.2.2.1, o.2.2.2)], tr := M.tr ++ [t] })
def boolV (l : List Bool) : List Value := l.map Value.bool
theorem boolV_snoc (l : List Bool) (t : Bool) : boolV (l ++ [t]) = boolV l ++ [.bool t] := List.map_append
structure MkAt (w : World) (base B : Nat) (M : Mkr) (ov cv uv tv : Value) : Prop where
 box : w.heap[B]? = some (.cells #[ov, cv, uv, tv, .bool M.bad] 49)
 lo : base ≤ B
 ops : w.ownsRow base 75 4 ov M.ops.length (flatFo M.ops)
 cols : w.ownsRow base 9 1 cv M.cols.length (strV M.cols)
 outs : w.ownsRow base 51 3 uv M.outs.length (flatFu M.outs)
 tr : w.ownsRow base 4 1 tv M.tr.length (boolV M.tr)
def mkBlk (B : Nat) (ov tv : Value) (g : Nat) : Prop := g = B ∨ ov.ownBlock = some g ∨ tv.ownBlock = some g
theorem own_apartF {w : World} {b1 b2 : Nat} {e1 e2 : TypeId} {s1 s2 : Nat} {v1 v2 : Value} {n1 n2 : Nat} {x1 x2 : List Value} (h1 : w.ownsRow b1 e1 s1 v1 n1 x1) (h2 : w.ownsRow b2 e2 s2 v2 n2 x2) (he : e1 ≠ e2) : v1.ownBlock = none ∨ v1.ownBlock ≠ v2.ownBlock := by
 rcases h1.2 with ⟨rfl, _⟩ | ⟨g, c, cur, rfl, _, hg, _⟩
 · exact .inl rfl
 · refine .inr fun e => ?_
  rcases h2.2 with ⟨rfl, _⟩ | ⟨g2, c2, cur2, rfl, _, hg2, _⟩
  · simp [Value.ownBlock] at e
  · simp only [Value.ownBlock, Option.some.injEq] at e
   subst e
   rw [hg] at hg2
   simp at hg2
   exact he hg2.2
theorem own_box {w : World} {b1 : Nat} {e1 : TypeId} {s1 : Nat} {v1 : Value} {n1 : Nat} {x1 : List Value} (h1 : w.ownsRow b1 e1 s1 v1 n1 x1) {B : Nat} {cur : Array Value} {T : TypeId} (hB : w.heap[B]? = some (.cells cur T)) (he : e1 ≠ T) : v1.ownBlock ≠ some B := by
 rcases h1.2 with ⟨rfl, _⟩ | ⟨g, c, cur, rfl, _, hg, _⟩
 · simp [Value.ownBlock]
 · intro e
  simp only [Value.ownBlock, Option.some.injEq] at e
  subst e
  rw [hg] at hB
  simp at hB
  exact he hB.2
theorem own_keepF {P : Nat → Prop} {w w' : World} {base : Nat} {e : TypeId} {s : Nat} {v : Value} {n : Nat} {x : List Value} (h : w.ownsRow base e s v n x) (hk : KeepS P w w') (hP : ∀ g, v.ownBlock = some g → ¬ P g) : w'.ownsRow base e s v n x := by
 have hl := h.lt
 refine ⟨h.1, ?_⟩
 rcases h.2 with h' | ⟨g, c, cur, rfl, hb, hg, hr⟩
 · exact .inl h'
 · exact .inr ⟨g, c, cur, rfl, hb, (hk.block g (hl g rfl).2 (hP g rfl)).trans hg, hr⟩
end Go.Proofs.YtjjkdbmjloolaaaGreatDoor
namespace Go.Proofs.YtjjkdbmjloolaaaGreatDoor
open Go.ChangeShapes Go.WideShapes Go.ChangeAt Go.RowKit
structure Kept (lo : Nat) (V W : World) : Prop where
 size : V.heap.size ≤ W.heap.size
 same : ∀ g, lo ≤ g → g < V.heap.size → W.heap[g]? = V.heap[g]?
theorem Kept.refl (lo : Nat) (V : World) : Kept lo V V := ⟨Nat.le_refl _, fun _ _ _ => rfl⟩
theorem Kept.below {lo : Nat} {V W W' : World} (h : Kept lo V W) (hb : Below W.heap.size W W') : Kept lo V W' :=
 ⟨Nat.le_trans h.size hb.size, fun g h1 h2 => (hb.block g (Nat.lt_of_lt_of_le h2 h.size)).trans (h.same g h1 h2)⟩
theorem Kept.keepS {lo : Nat} {V W W' : World} {P : Nat → Prop} (h : Kept lo V W) (hk : KeepS P W W') (hP : ∀ b, P b → lo ≤ b → V.heap.size ≤ b) : Kept lo V W' :=
 ⟨Nat.le_trans h.size hk.size, fun g h1 h2 => (hk.block g (Nat.lt_of_lt_of_le h2 h.size) (fun hp => by have := hP g hp h1; omega)).trans (h.same g h1 h2)⟩
theorem Kept.box {lo B : Nat} {V W : World} {x : Obj} (h : Kept lo V W) (hlo : lo ≤ B) (hB : V.heap[B]? = some x) : W.heap[B]? = some x := by
 have hlt : B < V.heap.size := by
  by_cases hl : B < V.heap.size
  · exact hl
  · rw [Array.getElem?_eq_none (by omega)] at hB; cases hB
 exact (h.same B hlo hlt).trans hB
theorem cells7 {w : World} {B : Nat} {a b c d e f g : Value} {T : TypeId} (h : w.heap[B]? = some (.cells #[a, b, c, d, e, f, g] T)) : w.cell? ⟨B, 0, none⟩ = some (a) ∧ w.cell? ⟨B, 1, none⟩ = some (b) ∧ w.cell? ⟨B, 2, none⟩ = some (c) ∧ w.cell? ⟨B, 3, none⟩ = some (d) ∧ w.cell? ⟨B, 4, none⟩ = some (e) ∧ w.cell? ⟨B, 5, none⟩ = some (f) ∧ w.cell? ⟨B, 6, none⟩ = some (g) :=
 ⟨cell_of_row _ _ _ _ _ _ h, cell_of_row _ _ _ _ _ _ h, cell_of_row _ _ _ _ _ _ h, cell_of_row _ _ _ _ _ _ h, cell_of_row _ _ _ _ _ _ h, cell_of_row _ _ _ _ _ _ h, cell_of_row _ _ _ _ _ _ h⟩
theorem cells2 {w : World} {B : Nat} {a b : Value} {T : TypeId} (h : w.heap[B]? = some (.cells #[a, b] T)) : w.cell? ⟨B, 0, none⟩ = some (a) ∧ w.cell? ⟨B, 1, none⟩ = some (b) :=
 ⟨cell_of_row _ _ _ _ _ _ h, cell_of_row _ _ _ _ _ _ h⟩
theorem two_boxes (w : World) (x y : Obj) : ∃ E0, ((w.alloc x).alloc y) = E0 ∧ Below w.heap.size w E0 ∧ E0.heap[w.heap.size]? = some x ∧ E0.heap[w.heap.size + 1]? = some y :=
 ⟨_, rfl, ((Below.refl _ _).alloc (Nat.le_refl _) _).alloc (by simp) _, (_root_.Go.heap_alloc_old _ _ (by simp)).trans (_root_.Go.heap_alloc_new _ _), (show (w.alloc x).heap.size = w.heap.size + 1 by simp) ▸ _root_.Go.heap_alloc_new (w.alloc x) _⟩
end Go.Proofs.YtjjkdbmjloolaaaGreatDoor
namespace Go.Proofs.YtjjkdbmjloolaaaGreatDoor
section
variable {P : Program} {ops : Array Oper} {Q : Exit → Act → World → Prop} {md : Region.Mode} {S : World → Prop} {z : Nat}
def wpAnyU (P : Program) (md : Region.Mode) (ops : Array Oper) (Q : Exit → Act → World → Prop) (S : World → Prop) (z : Nat) : Nat → Array Bool → Act → World → Prop
 | 0, listed, a, w => Region.ready md ops listed = [] ∧ Q .normal a w
 | n + 1, listed, a, w => (Region.ready md ops listed = [] → Q .normal a w) ∧ ∀ i ∈ Region.ready md ops listed, wpOp P ops Q i (fun a' w' => (i = z ∨ S w') ∧ wpAnyU P md ops Q S z n (listed.setIfInBounds i true) a' w') a w
theorem wpAnyU.any : ∀ {n : Nat} {listed : Array Bool} {a : Act} {w : World}, wpAnyU P md ops Q S z n listed a w → wpAny P md ops Q n listed a w
 | 0, _, _, _, h => h
 | _ + 1, _, _, _, h => ⟨h.1, fun i hi => wpOp_mono (fun _ _ h' => wpAnyU.any h'.2) (h.2 i hi)⟩
def waits (md : Region.Mode) (ops : Array Oper) (z i : Nat) : Bool := match ops[z]? with
 | some o => o.after.any (fun e => Region.binds md e && e.on == i)
 | none => false
theorem waits_some {i : Nat} {o : Oper} (h : waits md ops z i = true) (ho : ops[z]? = some o) : ∃ e ∈ o.after, Region.binds md e = true ∧ e.on = i := by
 unfold waits at h
 rw [ho] at h
 obtain ⟨k, hk, he⟩ := Array.any_eq_true.1 h
 simp only [Bool.and_eq_true, beq_iff_eq] at he
 exact ⟨o.after[k], Array.getElem_mem hk, he.1, he.2⟩
theorem wpAnyU_first {i : Nat} {oi : Oper} {v : Value} (hi : ops[i]? = some oi) (hz : waits md ops z i = true) (hsel : ∀ (j : Nat) (o : Oper) cs b, ops[j]? = some o → o.op ≠ .select cs b)
  (hQ : ∀ c a w, Q (.panic c) (a.put oi.dst v) w → Q (.panic c) a w) : ∀ (n : Nat) (listed : Array Bool) (a : Act) (w : World),
   (∀ j oj, ops[j]? = some oj → j ≠ i → listed.getD j true = false → (∀ e ∈ oj.after, Region.binds md e = true → e.on ≠ i) → oi.apart ops oj = true) →
   i ∈ Region.ready md ops listed → YieldsIf P ops S oi v a → S w →
   wpAnyU P md ops Q S z n (listed.setIfInBounds i true) (a.put oi.dst v) w → wpAnyU P md ops Q S z (n + 1) listed a w
 | 0, listed, a, w, _, hr, hy, hS, H => ⟨fun h => (by rw [h] at hr; cases hr), fun j hj => by
   by_cases e : j = i
   · subst e; exact hy.wpOp hi hS ⟨.inr hS, H⟩
   · have := ready_mono hj e
    rw [H.1] at this
    cases this⟩
 | n + 1, listed, a, w, hfree, hr, hy, hS, H => ⟨fun h => (by rw [h] at hr; cases hr), fun j hj => by
   by_cases e : j = i
   · subst e; exact hy.wpOp hi hS ⟨.inr hS, H⟩
   · have h1 := H.2 j (ready_mono hj e)
    obtain ⟨hun, oj, hoj, hall⟩ := mem_ready.1 hj
    have hnot : ∀ x ∈ oj.after, Region.binds md x = true → x.on ≠ i := by
     intro x hx hb heq
     have k1 := hall x hx hb
     have k0 := (mem_ready.1 hr).1
     rw [heq] at k1
     rcases Nat.lt_or_ge i listed.size with h' | h'
     · simp [h'] at k0 k1; rw [k0] at k1; cases k1
     · simp [Array.getElem?_eq_none h'] at k1
    have hjz : j ≠ z := by
     intro ez
     subst ez
     obtain ⟨x, hx, hb, heq⟩ := waits_some hz hoj
     exact hnot x hx hb heq
    have h2 := wpOp_putIf hoj (hfree j oj hoj e hun hnot) (fun cs b => hsel i oi cs b hi) (fun cs b => hsel j oj cs b hoj) hQ hy h1
    refine wpOp_mono (fun a' w' h3 => ?_) h2
    have hSw : S w' := by rcases h3.2.1 with h4 | h4; exact absurd h4 hjz; exact h4
    refine ⟨.inr hSw, wpAnyU_first hi hz hsel hQ n (listed.setIfInBounds j true) a' w' ?_ (ready_mono hr (Ne.symm e)) h3.1 hSw ?_⟩
    · intro k ok hk hki hku hno
     refine hfree k ok hk hki ?_ hno
     by_cases hjk : j = k
     · subst hjk; exact hun
     · rw [getD_set_ne true hjk] at hku; exact hku
    · rw [Array.setIfInBounds_comm _ _ e]; exact h3.2.2⟩
theorem wpAnyU_take {i : Nat} {oi : Oper} {v : Value} {n : Nat} {listed : Array Bool} {a : Act} {w : World} (hi : ops[i]? = some oi) (hz : waits md ops z i = true)
  (hs : Region.noSelect ops = true) (hf : Region.free md ops listed i = true) (hr : (Region.ready md ops listed).contains i = true)
  (hQ : ∀ c a w, Q (.panic c) (a.put oi.dst v) w → Q (.panic c) a w) (hy : YieldsIf P ops S oi v a) (hS : S w)
  (h : wpAnyU P md ops Q S z n (listed.setIfInBounds i true) (a.put oi.dst v) w) : wpAnyU P md ops Q S z (n + 1) listed a w :=
 wpAnyU_first hi hz (Region.noSelect_spec hs) hQ n listed a w (Region.free_spec hi hf) (by simpa using hr) hy hS h
theorem wpAnyU_one {i : Nat} {o : Oper} {n : Nat} {listed : Array Bool} {a : Act} {w : World} (hr : Region.ready md ops listed = [i]) (ho : ops[i]? = some o)
  (h : ∀ K' : Act → World → Prop, Shut (∀ a w, S w → (S w → wpAnyU P md ops Q S z n (listed.setIfInBounds i true) a w) → K' a w) → if Region.wanted o (yielded ops a.tmps) = true then Oper.wp P o a w K' Q else K' (a.put o.dst undef) w) :
  wpAnyU P md ops Q S z (n + 1) listed a w :=
 ⟨fun h0 => (by rw [hr] at h0; cases h0), fun j hj => by
  rw [hr] at hj
  obtain rfl : j = i := by simpa using hj
  exact wpOp_step ho (fun K' hK => h K' (fun a w hS hW => hK a w ⟨.inr hS, hW hS⟩))⟩
theorem wpAnyU_last {o : Oper} {n : Nat} {listed : Array Bool} {a : Act} {w : World} (hr : Region.ready md ops listed = [z]) (ho : ops[z]? = some o)
  (h : ∀ K' : Act → World → Prop, Shut (∀ a w, wpAnyU P md ops Q S z n (listed.setIfInBounds z true) a w → K' a w) → if Region.wanted o (yielded ops a.tmps) = true then Oper.wp P o a w K' Q else K' (a.put o.dst undef) w) :
  wpAnyU P md ops Q S z (n + 1) listed a w :=
 ⟨fun h0 => (by rw [hr] at h0; cases h0), fun j hj => by
  rw [hr] at hj
  obtain rfl : j = z := by simpa using hj
  exact wpOp_step ho (fun K' hK => h K' (fun a w hW => hK a w ⟨.inl rfl, hW⟩))⟩
theorem wp_region_until {id : Nat} {a : Act} {w : World} (hm : P.follows .mixedOrders = true) (hS : S w.drew)
  (h : S w.drew → wpAnyU P .any ops Q S z ops.size (Array.replicate ops.size false) a w.drew) : (Code.region id ops true).wp P Q a w :=
 wp_region_any hm (h hS).any
theorem wpAnyU_done {listed : Array Bool} {a : Act} {w : World} (hr : Region.ready md ops listed = []) (h : Q .normal a w) : ∀ n, wpAnyU P md ops Q S z n listed a w
 | 0 => ⟨hr, h⟩
 | _ + 1 => ⟨fun _ => h, by rw [hr]; simp⟩
end
end Go.Proofs.YtjjkdbmjloolaaaGreatDoor
