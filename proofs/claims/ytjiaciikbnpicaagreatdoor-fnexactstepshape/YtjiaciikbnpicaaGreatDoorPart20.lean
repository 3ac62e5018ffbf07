/-
  A part of the proof: ShI5, Draw1, Draw2, Draw3, Draw4, Draw5, RowDraw, RowDraw2, RowsDraw, TabDraw1, TabInI, TokMath, PieceMath, ItmMath, Tok1.
-/
import Derived.Test.YtjiaciikbnpicaaGreatDoorPart16
import Derived.Test.YtjiaciikbnpicaaGreatDoorPart17
import Derived.Test.YtjiaciikbnpicaaGreatDoorPart19
import Derived.Test.YtjiaciikbnpicaaGreatDoorPart1
import Derived.Test.YtjiaciikbnpicaaGreatDoorPart2
import Derived.Deep.RegionHeld3
import Derived.Test.YtjiaciikbnpicaaGreatDoorPart13
import Derived.Test.YtjiaciikbnpicaaGreatDoorPart18
import Derived.Test.YtjiaciikbnpicaaGreatDoorPart4
import Derived.Test.YtjiaciikbnpicaaGreatDoorPart6

/-
  The contracts of the program's shelf: asked for a name, and told as a list of tables in memory of its own.
-/
namespace Go.Proofs.YtjiaciikbnpicaaGreatDoor
open Go.ChangeShapes Go.WideShapes Go.ChangeAt Go.RowKit Go.Maps
attribute [local go_sem ↓] Go.wp_at_zero Go.wp_at_succ
attribute [local simp] World.cell?_alloc_past World.cell?_alloc_at World.frozen?_alloc_at cell_far cell_off cell_here World.frozen?_alloc_past

/-- Tables that can be copied. -/
def Small (t : TB) : Prop := t.2.1.length ≤ 1048576 ∧ t.2.2.length ≤ 1048576 ∧ ∀ i (h : i < t.2.2.length), t.2.2[i].length ≤ 1048576
end Go.Proofs.YtjiaciikbnpicaaGreatDoor

/-
  The contracts of the drawing cursor: where it lies in memory, and that a byte drawn is from 0 to 255.
-/
namespace Go.Proofs.YtjiaciikbnpicaaGreatDoor
open Go.ChangeShapes Go.WideShapes Go.ChangeAt Go.RowKit

/-- A cursor lies at block c: its bytes, how far it has come, its number. -/
structure Cur (w : World) (c : Nat) (a : Option Addr) (len cap : Nat) : Prop where
  c0 : w.cell? ⟨c, 0, none⟩ = some (.slice a len cap)
  c1 : ∃ i : Nat, w.cell? ⟨c, 1, none⟩ = some (.int .i64 (i : Int)) ∧ i ≤ len
  c2 : ∃ h : Int, w.cell? ⟨c, 2, none⟩ = some (.int .i64 h)
  f0 : w.frozen? ⟨c, 0, none⟩ = false
  f1 : w.frozen? ⟨c, 1, none⟩ = false
  f2 : w.frozen? ⟨c, 2, none⟩ = false
  lt : c < w.heap.size
  hlen : len ≤ maxLen
  row : ∀ j, j < len → ∃ (rb ro : Nat) (v : Int), a = some ⟨rb, ro, none⟩ ∧ rb < c ∧ w.cell? ⟨rb, ro + j, none⟩ = some (.int .u8 v) ∧ 0 ≤ v ∧ v ≤ 255

theorem Cur.below {w w' : World} {c : Nat} {a : Option Addr} {len cap : Nat} (h : Cur w c a len cap) (hb : Below w.heap.size w w') : Cur w' c a len cap := by
  have hc : ∀ o, w'.cell? ⟨c, o, none⟩ = w.cell? ⟨c, o, none⟩ := fun o => hb.cell (p := ⟨c, o, none⟩) h.lt
  have hf : ∀ o, w'.frozen? ⟨c, o, none⟩ = w.frozen? ⟨c, o, none⟩ := fun o => hb.frozen (p := ⟨c, o, none⟩) h.lt
  refine ⟨by rw [hc]; exact h.c0, by rw [hc]; exact h.c1, by rw [hc]; exact h.c2, by rw [hf]; exact h.f0, by rw [hf]; exact h.f1, by rw [hf]; exact h.f2, Nat.lt_of_lt_of_le h.lt hb.size, h.hlen, ?_⟩
  intro j hj
  obtain ⟨rb, ro, v, ha, hlt, hcell, hv⟩ := h.row j hj
  exact ⟨rb, ro, v, ha, hlt, by rw [hb.cell (p := ⟨rb, ro + j, none⟩) (Nat.lt_trans hlt h.lt)]; exact hcell, hv⟩

theorem Cur.drewN {w : World} {c : Nat} {a : Option Addr} {len cap : Nat} (h : Cur w c a len cap) (n : Nat) : Cur (w.drewN n) c a len cap :=
  ⟨h.c0, h.c1, h.c2, h.f0, h.f1, h.f2, h.lt, h.hlen, h.row⟩
theorem Cur.drew {w : World} {c : Nat} {a : Option Addr} {len cap : Nat} (h : Cur w c a len cap) : Cur w.drew c a len cap :=
  ⟨h.c0, h.c1, h.c2, h.f0, h.f1, h.f2, h.lt, h.hlen, h.row⟩

theorem Cur.alloc {w : World} {c : Nat} {a : Option Addr} {len cap : Nat} (h : Cur w c a len cap) (o : Obj) : Cur (w.alloc o) c a len cap :=
  h.below ((Below.refl _ _).alloc (Nat.le_refl _) o)

end Go.Proofs.YtjiaciikbnpicaaGreatDoor

/-
  The contracts of the cursor's making and of a drawn cell: whatever is drawn, it is a cell whose text is no longer than a text may be.
-/
namespace Go.Proofs.YtjiaciikbnpicaaGreatDoor
open Go.ChangeShapes Go.WideShapes Go.ChangeAt Go.RowKit

end Go.Proofs.YtjiaciikbnpicaaGreatDoor

/-
  The contract of a drawn cell.
-/
namespace Go.Proofs.YtjiaciikbnpicaaGreatDoor
open Go.ChangeShapes Go.WideShapes Go.ChangeAt Go.RowKit

theorem old3 {w : World} {B : Nat} {x y z : Value} (o : Obj) (h : w.cell? ⟨B, 0, none⟩ = some x ∧ w.cell? ⟨B, 1, none⟩ = some y ∧ w.cell? ⟨B, 2, none⟩ = some z ∧ B < w.heap.size) :
    (w.alloc o).cell? ⟨B, 0, none⟩ = some x ∧ (w.alloc o).cell? ⟨B, 1, none⟩ = some y ∧ (w.alloc o).cell? ⟨B, 2, none⟩ = some z ∧ B < (w.alloc o).heap.size :=
  later3 ((Below.refl _ _).alloc (Nat.le_refl _) o) h
theorem oldF {w : World} {B : Nat} (o : Obj) (hB : B < w.heap.size) (h : w.frozen? ⟨B, 0, none⟩ = false ∧ w.frozen? ⟨B, 1, none⟩ = false ∧ w.frozen? ⟨B, 2, none⟩ = false) :
    (w.alloc o).frozen? ⟨B, 0, none⟩ = false ∧ (w.alloc o).frozen? ⟨B, 1, none⟩ = false ∧ (w.alloc o).frozen? ⟨B, 2, none⟩ = false :=
  frozen3 ((Below.refl _ _).alloc (Nat.le_refl _) o) hB h

end Go.Proofs.YtjiaciikbnpicaaGreatDoor

/-
  The contract of a drawn cell that may be wrong.
-/
namespace Go.Proofs.YtjiaciikbnpicaaGreatDoor
open Go.ChangeShapes Go.WideShapes Go.ChangeAt Go.RowKit

theorem keepN {c : Nat} {w1 w2 : World} {v0 v1 v2 : Value} {T : TypeId} (hk : Keep c (w1.alloc (.cells #[v0, v1, v2] T)) w2) (hne : w1.heap.size ≠ c) :
    w2.cell? ⟨w1.heap.size, 0, none⟩ = some v0 ∧ w2.cell? ⟨w1.heap.size, 1, none⟩ = some v1 ∧ w2.cell? ⟨w1.heap.size, 2, none⟩ = some v2 := by
  refine ⟨?_, ?_, ?_⟩
  · rw [hk.cell (by simp) hne]; simp [go_sem]
  · rw [hk.cell (by simp) hne]; simp [go_sem]
  · rw [hk.cell (by simp) hne]; simp [go_sem]

end Go.Proofs.YtjiaciikbnpicaaGreatDoor

/-
  The contract of two drawn cells.
-/
namespace Go.Proofs.YtjiaciikbnpicaaGreatDoor
open Go.ChangeShapes Go.WideShapes Go.ChangeAt Go.RowKit

/-- Three cells of a block, and that they may be written. -/
def Has3 (w : World) (B : Nat) (x y z : Value) : Prop :=
  (w.cell? ⟨B, 0, none⟩ = some x ∧ w.cell? ⟨B, 1, none⟩ = some y ∧ w.cell? ⟨B, 2, none⟩ = some z ∧ B < w.heap.size) ∧
  (w.frozen? ⟨B, 0, none⟩ = false ∧ w.frozen? ⟨B, 1, none⟩ = false ∧ w.frozen? ⟨B, 2, none⟩ = false)

theorem Has3.alloc {B : Nat} {w : World} {x y z : Value} (h : Has3 w B x y z) (o : Obj) : Has3 (w.alloc o) B x y z := ⟨old3 o h.1, oldF o h.1.2.2.2 h.2⟩
theorem Has3.new (w : World) (x y z : Value) (T : TypeId) : Has3 (w.alloc (.cells #[x, y, z] T)) w.heap.size x y z :=
  ⟨⟨by simp [go_sem], by simp [go_sem], by simp [go_sem], by simp⟩, by simp [go_sem], by simp [go_sem], by simp [go_sem]⟩
theorem Has3.drew {B : Nat} {w : World} {x y z : Value} (h : Has3 w B x y z) : Has3 w.drew B x y z := h
end Go.Proofs.YtjiaciikbnpicaaGreatDoor

/-
  Rows that are drawn: the contracts of the model's draws of a row, and of two rows that are held against each other.
-/
namespace Go.Proofs.YtjiaciikbnpicaaGreatDoor
open Go.ChangeShapes Go.WideShapes Go.ChangeAt Go.RowKit
attribute [local go_sem ↓] Go.wp_at_zero Go.wp_at_succ
attribute [local simp] World.cell?_alloc_past World.cell?_alloc_at World.frozen?_alloc_at cell_far cell_off cell_here World.frozen?_alloc_past

theorem Cur.far {w w' : World} {c B : Nat} {a : Option Addr} {len cap : Nat} (h : Cur w c a len cap) (hb : Below B w w') (hB : c < B) : Cur w' c a len cap := by
  refine ⟨?_, ?_, ?_, ?_, ?_, ?_, Nat.lt_of_lt_of_le h.lt hb.size, h.hlen, ?_⟩
  · rw [hb.cell (p := ⟨c, 0, none⟩) hB]; exact h.c0
  · rw [hb.cell (p := ⟨c, 1, none⟩) hB]; exact h.c1
  · rw [hb.cell (p := ⟨c, 2, none⟩) hB]; exact h.c2
  · rw [hb.frozen (p := ⟨c, 0, none⟩) hB]; exact h.f0
  · rw [hb.frozen (p := ⟨c, 1, none⟩) hB]; exact h.f1
  · rw [hb.frozen (p := ⟨c, 2, none⟩) hB]; exact h.f2
  · intro j hj
    obtain ⟨rb, ro, v, ha, hrb, hc, hv⟩ := h.row j hj
    exact ⟨rb, ro, v, ha, hrb, by rw [hb.cell (p := ⟨rb, _, none⟩) (by show rb < B; omega)]; exact hc, hv⟩
theorem Keep.far {c B : Nat} {w w1 w2 : World} (h : Keep c w w1) (hb : Below B w1 w2) (hB : w.heap.size ≤ B) : Keep c w w2 :=
  ⟨hb.os.trans h.os, hb.tape.trans h.tape, hb.output.trans h.output, Nat.le_trans h.size hb.size, fun k hk hc => (hb.block k (by omega)).trans (h.block k hk hc)⟩
theorem Fit.append {l : List CT} {x : CT} (h : Fit l) (hx : x.2.2.size ≤ maxLen) : Fit (l ++ [x]) := by
  intro j hj
  by_cases e : j < l.length
  · rw [List.getElem_append_left e]; exact h j e
  · rw [List.getElem_append_right (by omega)]; simpa using hx

end Go.Proofs.YtjiaciikbnpicaaGreatDoor

/-
  The contract of the draw of two rows.
-/
namespace Go.Proofs.YtjiaciikbnpicaaGreatDoor
open Go.ChangeShapes Go.WideShapes Go.ChangeAt Go.RowKit
attribute [local go_sem ↓] Go.wp_at_zero Go.wp_at_succ
attribute [local simp] World.cell?_alloc_past World.cell?_alloc_at World.frozen?_alloc_at cell_far cell_off cell_here World.frozen?_alloc_past

end Go.Proofs.YtjiaciikbnpicaaGreatDoor

/-
  The contract of the model's draw of several rows.
-/
namespace Go.Proofs.YtjiaciikbnpicaaGreatDoor
open Go.ChangeShapes Go.WideShapes Go.ChangeAt Go.RowKit
attribute [local go_sem ↓] Go.wp_at_zero Go.wp_at_succ
attribute [local simp] World.cell?_alloc_past World.cell?_alloc_at World.frozen?_alloc_at cell_far cell_off cell_here World.frozen?_alloc_past

theorem OwnRows.lt {w : World} {base : Nat} {v : Value} {L : List (List CT)} {G C : Nat → Nat} (h : OwnRows w base v L G C) (i : Nat) (hi : i < L.length) : G i < w.heap.size := by
  rcases (h.inner i hi).2 with ⟨h', _⟩ | ⟨g2, c2, cur2, h', _, hg2, _⟩
  · simp [headOf] at h'
  · simp only [headOf, Value.slice.injEq, Option.some.injEq, Addr.mk.injEq, and_true, true_and] at h'
    obtain ⟨rfl, rfl⟩ := h'
    by_cases hl : G i < w.heap.size
    · exact hl
    · rw [Array.getElem?_eq_none (by omega)] at hg2; cases hg2

/-- Rows that were drawn: few, short, and their texts fit. -/
def Drawn (L : List (List CT)) (n : Nat) : Prop := L.length ≤ n ∧ ∀ i (h : i < L.length), Fit L[i] ∧ L[i].length ≤ 1000
theorem Drawn.append {L : List (List CT)} {n : Nat} {x : List CT} (h : Drawn L n) (hf : Fit x) (hx : x.length ≤ 1000) : Drawn (L ++ [x]) (n + 1) := by
  refine ⟨by have := h.1; simp; omega, fun i hi => ?_⟩
  by_cases e : i < L.length
  · rw [List.getElem_append_left e]; exact h.2 i e
  · rw [List.getElem_append_right (by omega)]; simpa using ⟨hf, hx⟩
end Go.Proofs.YtjiaciikbnpicaaGreatDoor

/-
  A table that is being drawn: the block of its three fields, its columns and rows in memory of the call's own; the small draws of stage 5.
-/
namespace Go.Proofs.YtjiaciikbnpicaaGreatDoor
open Go.ChangeShapes Go.WideShapes Go.ChangeAt Go.RowKit
attribute [local go_sem ↓] Go.wp_at_zero Go.wp_at_succ
attribute [local simp] World.cell?_alloc_past World.cell?_alloc_at World.frozen?_alloc_at cell_far cell_off cell_here World.frozen?_alloc_past

/-- The three fields of a table in block B. -/
def TBox (w : World) (B : Nat) (x y z : Value) : Prop := w.heap[B]? = some (.cells #[x, y, z] 40 (0, 0))
theorem TBox.lt {w : World} {B : Nat} {x y z : Value} (h : TBox w B x y z) : B < w.heap.size := by
  by_cases hl : B < w.heap.size
  · exact hl
  · unfold TBox at h; rw [Array.getElem?_eq_none (by omega)] at h; cases h
theorem TBox.cells {w : World} {B : Nat} {x y z : Value} (h : TBox w B x y z) : w.cell? ⟨B, 0, none⟩ = some x ∧ w.cell? ⟨B, 1, none⟩ = some y ∧ w.cell? ⟨B, 2, none⟩ = some z := by
  unfold TBox at h
  refine ⟨?_, ?_, ?_⟩ <;> simp [World.cell?, h]
theorem TBox.free {w : World} {B : Nat} {x y z : Value} (h : TBox w B x y z) : w.frozen? ⟨B, 0, none⟩ = false ∧ w.frozen? ⟨B, 1, none⟩ = false ∧ w.frozen? ⟨B, 2, none⟩ = false := by
  unfold TBox at h
  refine ⟨?_, ?_, ?_⟩ <;> simp [World.frozen?, h]
theorem TBox.of {w w' : World} {B : Nat} {x y z : Value} (h : TBox w B x y z) (e : w'.heap[B]? = w.heap[B]?) : TBox w' B x y z := by unfold TBox at h ⊢; rw [e]; exact h
theorem TBox.below {w w' : World} {B : Nat} {x y z : Value} (h : TBox w B x y z) (hb : Below w.heap.size w w') : TBox w' B x y z := h.of (hb.block B h.lt)
theorem TBox.alloc {w : World} {B : Nat} {x y z : Value} (h : TBox w B x y z) (o : Obj) : TBox (w.alloc o) B x y z := by
  refine h.of ?_
  show (w.heap.push o)[B]? = _
  rw [Array.getElem?_push_lt h.lt, ← Array.getElem?_eq_getElem h.lt]
theorem TBox.grown {w w' : World} {B : Nat} {x y z : Value} {row : Option Nat} (h : TBox w B x y z) (hg : w.grownBy w' row) (hne : row ≠ some B) : TBox w' B x y z := h.of (hg.block B h.lt (fun e => hne e.symm))
theorem TBox.new (w : World) (x y z : Value) : TBox (w.alloc (.cells #[x, y, z] 40)) w.heap.size x y z := by
  unfold TBox
  show (w.heap.push _)[w.heap.size]? = _
  simp
/-- A table under way: its fields in block B, its columns and rows in memory of their own. -/
structure TD (w : World) (base B : Nat) (nm : ByteArray) (vc vr : Value) (C : List ByteArray) (L : List (List CT)) : Prop where
  box : TBox w B (.string nm) vc vr
  cols : w.ownsRow base 9 1 vc C.length (strV C)
  rows : ∃ G D, OwnRows w base vr L G D
theorem TD.alloc {w : World} {base B : Nat} {nm : ByteArray} {vc vr : Value} {C : List ByteArray} {L : List (List CT)} (h : TD w base B nm vc vr C L) (o : Obj) : TD (w.alloc o) base B nm vc vr C L :=
  ⟨h.box.alloc o, h.cols.alloc o, by obtain ⟨G, D, O⟩ := h.rows; exact ⟨G, D, O.outer.alloc o, fun i hi => (O.inner i hi).alloc o, O.apart⟩⟩
theorem TD.below {w w' : World} {base B : Nat} {nm : ByteArray} {vc vr : Value} {C : List ByteArray} {L : List (List CT)} (h : TD w base B nm vc vr C L) (hb : Below w.heap.size w w') : TD w' base B nm vc vr C L :=
  ⟨h.box.below hb, own_below h.cols hb, by obtain ⟨G, D, O⟩ := h.rows; exact ⟨G, D, O.below hb⟩⟩
theorem TD.drew {w : World} {base B : Nat} {nm : ByteArray} {vc vr : Value} {C : List ByteArray} {L : List (List CT)} (h : TD w base B nm vc vr C L) : TD w.drew base B nm vc vr C L := h.below (Below.refl _ _).drew
end Go.Proofs.YtjiaciikbnpicaaGreatDoor

/-
  TableIn: which table it is, and the contract of the program's.
-/
namespace Go.Proofs.YtjiaciikbnpicaaGreatDoor
open Go.ChangeShapes Go.WideShapes Go.ChangeAt Go.RowKit Go.Maps
attribute [local go_sem ↓] Go.wp_at_zero Go.wp_at_succ
attribute [local simp] World.cell?_alloc_past World.cell?_alloc_at World.frozen?_alloc_at cell_far cell_off cell_here World.frozen?_alloc_past

/-- The first table of that name and true, or the zero one and false. -/
def InR (T : List TB) (s : ByteArray) (t : TB) (b : Bool) : Prop :=
  (b = false ∧ t = zeroT ∧ s ∉ namesT T) ∨ (b = true ∧ ∃ k, ∃ h : k < T.length, T[k] = t ∧ t.1 = s ∧ ∀ j (hj : j < T.length), j < k → T[j].1 ≠ s)
theorem inR_some (T : List TB) (s : ByteArray) : ∃ t b, InR T s t b := by
  by_cases h : s ∈ namesT T
  · rw [← List.take_length (l := T)] at h
    obtain ⟨j, hj, _, e, hf⟩ := first_name h
    exact ⟨T[j], true, .inr ⟨rfl, j, hj, rfl, e, fun i hi hij => by rw [← e]; exact hf i hi hij⟩⟩
  · exact ⟨zeroT, false, .inl ⟨rfl, rfl, h⟩⟩
/-- What TableIn answers: that table in memory of its own. -/
def InOut (w : World) (t : TB) (b : Bool) (e : Ending) (w' : World) : Prop :=
  ∃ nc nr ca cc ra cr A C, e = .returned (.tuple #[.agg #[.string t.1, .slice ca nc cc, .slice ra nr cr], .bool b]) ∧ t.2.1.length = nc ∧ t.2.2.length = nr ∧ OutTab w' w.heap.size ca cc ra t A C ∧ Below w.heap.size w w'

set_option maxRecDepth 100000 in
set_option maxHeartbeats 4000000 in
theorem tablein_impl (a : Option Addr) (cap : Nat) (T : List TB) (n : Nat) (hn : T.length = n) (w : World) (hrow : TabsAt w a T) (hm : n ≤ 1048576) (hsm : ∀ t, t ∈ T → Small t) (s : ByteArray) (hsz : s.size ≤ maxLen) (u : TB) (b : Bool) (hu : InR T s u b) :
    Calls Tryz.prog 90 #[.slice a n cap, .string s] w (InOut w u b) := by
  have E : Hid (Calls Tryz.prog 122 #[.slice a n cap] (w.alloc (.cells #[.string ⟨#[]⟩, .slice none 0 0, .slice none 0 0] 40)) fun e w' => e = .returned (.map (some (w.heap.size + 1))) ∧ ShInv (w.alloc (.cells #[.string ⟨#[]⟩, .slice none 0 0, .slice none 0 0] 40)) w' (w.heap.size + 1) T n ∧ Below (w.alloc (.cells #[.string ⟨#[]⟩, .slice none 0 0, .slice none 0 0] 40)).heap.size (w.alloc (.cells #[.string ⟨#[]⟩, .slice none 0 0, .slice none 0 0] 40)) w') := by
    have := shelved_impl a cap T n hn (w.alloc (.cells #[.string ⟨#[]⟩, .slice none 0 0, .slice none 0 0] 40)) (hrow.below ((Below.refl _ _).alloc (Nat.le_refl _) _)) hm
    unfold Hid
    simpa using this
  have hkn : T.take n = T := by rw [← hn, List.take_length]
  have HMEM : Hid (decide (s ∈ ksOf (namesT (T.take n))) = b) := by
    have : decide (s ∈ ksOf (namesT (T.take n))) = b := by
      rw [hkn]
      rcases hu with ⟨rfl, _, h⟩ | ⟨rfl, k, hk, e1, e2, _⟩
      · exact decide_eq_false (by rw [mem_ksOf]; exact h)
      · exact decide_eq_true (by rw [mem_ksOf, ← e2, ← e1]; exact List.mem_map_of_mem (List.getElem_mem hk))
    exact this
  have HN : Hid (T.length = n) := hn
  have HU : Hid (InR T s u b) := hu
  have HSM : Hid (∀ t, t ∈ T → Small t) := hsm
  clear hrow hn hu hkn hsm
  go_enter Tryz.func90, Tryz.ntmps90
  go_wp2_with fail
  refine E.out.mono ?_
  rintro e w1 ⟨rfl, hS1, hb1⟩
  have R1 : Hid (TBox w1 w.heap.size (.string ⟨#[]⟩) (.slice none 0 0) (.slice none 0 0)) := (TBox.new w _ _ _).below hb1
  have X1 : Hid (Below (w.alloc (.cells #[.string ⟨#[]⟩, .slice none 0 0, .slice none 0 0] 40)).heap.size (w.alloc (.cells #[.string ⟨#[]⟩, .slice none 0 0, .slice none 0 0] 40)) w1) := hb1
  obtain ⟨f, hSh, hHo⟩ := hS1
  have HSh1 : Hid (ShelfAt w1 (w.heap.size + 1) n (ksOf (namesT (T.take n))) f) := hSh
  have HHo : Hid (∀ j (hj : j < T.length), j < n → (∀ i (hi : i < T.length), i < j → T[i].1 ≠ T[j].1) → HoldsT (w.alloc (.cells #[.string ⟨#[]⟩, .slice none 0 0, .slice none 0 0] 40)) f T[j]) := hHo
  clear hb1 hSh hHo E
  go_wp2_with fail
  refine (has_at _ n _ f _ HSh1.out (ShInv.tables HHo.out) s hsz b HMEM.out).mono ?_
  rintro e w2 ⟨rfl, hb2⟩
  have R2 : Hid (TBox w2 w.heap.size (.string ⟨#[]⟩) (.slice none 0 0) (.slice none 0 0)) := R1.out.below hb2
  have X2 := chain X1.out hb2
  have HSh2 : Hid (ShelfAt w2 (w.heap.size + 1) n (ksOf (namesT (T.take n))) f) := HSh1.out.below hb2
  have XX : Hid (Below w.heap.size w w2) := chainA X2
  clear HSh1 hb2 X1 R1
  cases b
  · obtain rfl : u = zeroT := by
      rcases HU.out with ⟨_, h, _⟩ | ⟨h, _⟩
      · exact h
      · cases h
    obtain ⟨r0, r1, r2⟩ := R2.out.cells
    obtain ⟨f0, f1, f2⟩ := R2.out.free
    have fin : Hid (∀ x y z, InOut w zeroT false (.returned (.tuple #[.agg #[.string ⟨#[]⟩, .slice none 0 0, .slice none 0 0], .bool false])) (((w2.setCell ⟨w.heap.size, 0, none⟩ x).setCell ⟨w.heap.size, 1, none⟩ y).setCell ⟨w.heap.size, 2, none⟩ z)) := by
      have : ∀ x y z, InOut w zeroT false (.returned (.tuple #[.agg #[.string ⟨#[]⟩, .slice none 0 0, .slice none 0 0], .bool false])) (((w2.setCell ⟨w.heap.size, 0, none⟩ x).setCell ⟨w.heap.size, 1, none⟩ y).setCell ⟨w.heap.size, 2, none⟩ z) := fun x y z =>
        ⟨0, 0, none, 0, none, 0, _, _, rfl, rfl, rfl, out_zero _ _, ((XX.out.setCell (p := ⟨w.heap.size, 0, none⟩) (Nat.le_refl _) _).setCell (p := ⟨w.heap.size, 1, none⟩) (Nat.le_refl _) _).setCell (p := ⟨w.heap.size, 2, none⟩) (Nat.le_refl _) _⟩
      exact this
    clear X2 R2 HSh2 HMEM
    go_wp2_with fail
    exact bodyPost_ret (v := .tuple #[.agg #[.string ⟨#[]⟩, .slice none 0 0, .slice none 0 0], .bool false]) (by simp [results, Tryz.results90, go_sem, r0, r1, r2]) rfl (fin.out _ _ _)
  have hrun := (HSh2.out.found s hsz (of_decide_eq_true HMEM.out)).1
  obtain ⟨k, hk, ek, es, hfk⟩ : ∃ k, ∃ h : k < T.length, T[k] = u ∧ u.1 = s ∧ ∀ j (hj : j < T.length), j < k → T[j].1 ≠ s := by
    rcases HU.out with ⟨h, _⟩ | ⟨_, h⟩
    · cases h
    · exact h
  obtain ⟨ca, cc, ra, cr, ef, hta⟩ := HHo.out k hk (by have := HN.out; omega) (fun i hi hik => by rw [ek, es]; exact hfk i hi hik)
  have HSU : Hid (Small u) := by
    have : Small u := by rw [← ek]; exact HSM.out _ (List.getElem_mem hk)
    exact this
  rw [ek] at ef hta
  obtain ⟨nc, hnc⟩ : ∃ z, u.2.1.length = z := ⟨_, rfl⟩
  obtain ⟨nr, hnr⟩ : ∃ z, u.2.2.length = z := ⟨_, rfl⟩
  have HNC : Hid (u.2.1.length = nc) := hnc
  have HNR : Hid (u.2.2.length = nr) := hnr
  have HS : Hid (s = u.1) := es.symm
  rw [es] at ef
  rw [ef] at hrun
  rw [HNC.out, HNR.out] at hrun
  have HTA : Hid (TabAt w2 ca cc ra u) := hta.below X2
  clear hta ef X2 hnc hnr hk ek es hfk HSh2 HHo HU HMEM
  go_wp2_with fail
  rw [HS.out]
  refine (copied_table ca cc ra cr u nc nr HNC.out HNR.out w2 HTA.out (by rw [← HNC.out]; exact HSU.out.1) (by rw [← HNR.out]; exact HSU.out.2.1) HSU.out.2.2).mono ?_
  rintro e w3 ⟨g, c, g2, c2, A, D, rfl, hO, hb3, hc2⟩
  have R3 : Hid (TBox w3 w.heap.size (.string ⟨#[]⟩) (.slice none 0 0) (.slice none 0 0)) := R2.out.below hb3
  obtain ⟨r0, r1, r2⟩ := R3.out.cells
  obtain ⟨f0, f1, f2⟩ := R3.out.free
  have fin : Hid (∀ x y z, InOut w u true (.returned (.tuple #[.agg #[.string u.1, .slice (some ⟨g, 0, none⟩) nc c, .slice (some ⟨g2, 0, none⟩) nr c2], .bool true])) (((w3.setCell ⟨w.heap.size, 0, none⟩ x).setCell ⟨w.heap.size, 1, none⟩ y).setCell ⟨w.heap.size, 2, none⟩ z)) := by
    have hlt : w.heap.size < w2.heap.size := R2.out.lt
    have hbb : Below w.heap.size w w3 := chain XX.out hb3
    have : ∀ x y z, InOut w u true (.returned (.tuple #[.agg #[.string u.1, .slice (some ⟨g, 0, none⟩) nc c, .slice (some ⟨g2, 0, none⟩) nr c2], .bool true])) (((w3.setCell ⟨w.heap.size, 0, none⟩ x).setCell ⟨w.heap.size, 1, none⟩ y).setCell ⟨w.heap.size, 2, none⟩ z) := fun x y z =>
      ⟨nc, nr, _, _, _, _, _, _, rfl, HNC.out, HNR.out, OutT.lower (q := ⟨_, _, _, c2, _, _⟩) (hO.set3 w.heap.size hlt 0 1 2 x y z) (Nat.le_of_lt hlt), ((hbb.setCell (p := ⟨w.heap.size, 0, none⟩) (Nat.le_refl _) _).setCell (p := ⟨w.heap.size, 1, none⟩) (Nat.le_refl _) _).setCell (p := ⟨w.heap.size, 2, none⟩) (Nat.le_refl _) _⟩
    exact this
  clear hO hb3 R2 R3 XX HTA
  go_wp2_with fail
  exact bodyPost_ret (v := .tuple #[.agg #[.string u.1, .slice (some ⟨g, 0, none⟩) nc c, .slice (some ⟨g2, 0, none⟩) nr c2], .bool true]) (by simp [results, Tryz.results90, go_sem, r0, r1, r2]) rfl (fin.out _ _ _)
end Go.Proofs.YtjiaciikbnpicaaGreatDoor

/-
  Tokens without any program: what a right one is, the text of a list of them, what a text is read as, and that tokens are read from their text.
-/
namespace Go.Proofs.YtjiaciikbnpicaaGreatDoor

def letB (c : UInt8) : Bool := decide (97 ≤ c.toNat) && decide (c.toNat ≤ 122)
/-- A token: kind, text, cell. -/
abbrev TT := Int × ByteArray × CK
def zeroC : CK := (0, 0, ⟨#[]⟩)
/-- The words that are signs: and, or, not, lacks. -/
def signW : List ByteArray := [⟨#[97, 110, 100]⟩, ⟨#[111, 114]⟩, ⟨#[110, 111, 116]⟩, ⟨#[108, 97, 99, 107, 115]⟩]
/-- The signs of one byte: + - * / = < ( ). -/
def signO : List ByteArray := [⟨#[43]⟩, ⟨#[45]⟩, ⟨#[42]⟩, ⟨#[47]⟩, ⟨#[61]⟩, ⟨#[60]⟩, ⟨#[40]⟩, ⟨#[41]⟩]
def signB (s : ByteArray) : Bool := inB signW s || inB signO s
/-- A name that is no other word. -/
def nameK (s : ByteArray) : Bool := nameB s && (!inB signW s && (decide (s.data.toList ≠ wNone) && (decide (s.data.toList ≠ wYes) && decide (s.data.toList ≠ wNo))))
/-- The head of what is read as a cell. -/
theorem readB_head {l : List UInt8} {c : CK} (h : readB ⟨l.toArray⟩ = some c) : l = wNone ∨ l = wYes ∨ l = wNo ∨ ∃ b r, l = b :: r ∧ (isDig b = true ∨ b = 45 ∨ b = 39) := by
  obtain ⟨k, n, t⟩ := c
  obtain ⟨ho, e⟩ := readB_some h
  have e' := cellT_ok ho
  rw [e] at e'
  change l = _ at e'
  rcases okB_kind ho with rfl | rfl | rfl | rfl
  · exact .inl e'
  · obtain ⟨b, r, hb, hx⟩ := itoa_head n
    refine .inr (.inr (.inr ⟨b, r, by rw [e', l4T_1, hb], ?_⟩))
    rcases hx with hx | hx
    · exact .inl hx
    · exact .inr (.inl hx)
  · exact .inr (.inr (.inr ⟨39, _, by rw [e', l4T_2], .inr (.inr rfl)⟩))
  · obtain ⟨hn, _⟩ := okB_3 ho
    rcases hn with rfl | rfl
    · exact .inr (.inr (.inl (by rw [e', l4T_30])))
    · exact .inr (.inl (by rw [e', l4T_31]))
theorem letB_dig {c : UInt8} (h : isDig c = true) : letB c = false := by
  unfold isDig at h
  unfold letB
  simp only [Bool.and_eq_true, decide_eq_true_eq] at h
  rw [decide_eq_false (by omega)]; rfl
end Go.Proofs.YtjiaciikbnpicaaGreatDoor

/-
  The longest piece that begins at a place of a text, without any program: what the program cuts off is just what a token is read from.
-/
namespace Go.Proofs.YtjiaciikbnpicaaGreatDoor

end Go.Proofs.YtjiaciikbnpicaaGreatDoor

/-
  Sums without any program: right items, what a sum is, its tree, its text in tokens, what tokens are read as, and that a sum is read from its text.
-/
namespace Go.Proofs.YtjiaciikbnpicaaGreatDoor

/-- An item: kind, cell, name. -/
abbrev TI := Int × CK × ByteArray
/-- The item of a sign. -/
def opI (k : Int) : TI := (k, zeroC, ⟨#[]⟩)
/-- Is the item right? -/
def itemB (x : TI) : Bool :=
  if x.1 = 1 then okC x.2.1 && decide (x.2.2 = ⟨#[]⟩) else if x.1 = 2 then nameK x.2.2 && decide (x.2.1 = zeroC) else (decide (3 ≤ x.1) && decide (x.1 ≤ 12)) && decide (x = opI x.1)
/-- How many it reckons with. -/
def needsI (k : Int) : Nat := if k ≤ 2 then 0 else if 11 ≤ k then 1 else 2
/-- How many lie there behind these items, from n on; none where there are too few, or one is not right. -/
def heapN : List TI → Nat → Option Nat
  | [], n => some n
  | x :: l, n => if itemB x = true ∧ needsI x.1 ≤ n then heapN l (n + 1 - needsI x.1) else none
/-- Is it a sum? -/
def sumB (l : List TI) : Bool := decide (heapN l 0 = some 1) && decide (l.length ≤ 40)

/-- The tree of a sum. -/
inductive Tr where
  | leaf (x : TI)
  | one (k : Int) (t : Tr)
  | two (k : Int) (a b : Tr)
def Tr.post : Tr → List TI
  | .leaf x => [x]
  | .one k t => t.post ++ [opI k]
  | .two k a b => a.post ++ (b.post ++ [opI k])
def Tr.ok : Tr → Prop
  | .leaf x => itemB x = true ∧ (x.1 = 1 ∨ x.1 = 2)
  | .one k t => (k = 11 ∨ k = 12) ∧ t.ok
  | .two k a b => (3 ≤ k ∧ k ≤ 10) ∧ a.ok ∧ b.ok
theorem item_op {x : TI} (h : itemB x = true) (h1 : x.1 ≠ 1) (h2 : x.1 ≠ 2) : 3 ≤ x.1 ∧ x.1 ≤ 12 ∧ x = opI x.1 := by
  unfold itemB at h
  rw [if_neg h1, if_neg h2] at h
  simp only [Bool.and_eq_true, decide_eq_true_eq] at h
  exact ⟨h.1.1, h.1.2, h.2⟩
theorem heapN_append (l m : List TI) (n : Nat) : heapN (l ++ m) n = (heapN l n).bind (heapN m) := by
  induction l generalizing n with
  | nil => rfl
  | cons x l ih =>
    rw [List.cons_append]
    unfold heapN
    split
    · exact ih _
    · rfl
/-- The signs of the kinds. -/
def sgn (k : Int) : ByteArray :=
  if k = 3 then ⟨#[43]⟩ else if k = 4 then ⟨#[45]⟩ else if k = 5 then ⟨#[42]⟩ else if k = 6 then ⟨#[47]⟩ else if k = 7 then ⟨#[61]⟩ else if k = 8 then ⟨#[60]⟩ else if k = 9 then ⟨#[97, 110, 100]⟩ else if k = 10 then ⟨#[111, 114]⟩ else if k = 11 then ⟨#[110, 111, 116]⟩ else ⟨#[108, 97, 99, 107, 115]⟩
def sgnT (k : Int) : TT := (3, sgn k, zeroC)
end Go.Proofs.YtjiaciikbnpicaaGreatDoor

/-
  Lists of Tokens: how one lies in memory, and the contracts of the law's helpers that measure, take over and compare.
-/
namespace Go.Proofs.YtjiaciikbnpicaaGreatDoor
open Go.ChangeShapes Go.WideShapes Go.ChangeAt Go.RowKit
attribute [local go_sem ↓] Go.wp_at_zero Go.wp_at_succ
attribute [local simp] World.cell?_alloc_past World.cell?_alloc_at World.frozen?_alloc_at cell_far cell_off cell_here World.frozen?_alloc_past

/-- The Tokens of a slice lie where it says. -/
def TokAt (w : World) (a : Option Addr) (l : List TT) : Prop :=
  ∀ j (h : j < l.length), ∃ b o, a = some ⟨b, o, none⟩ ∧ b < w.heap.size ∧ w.cell? ⟨b, o + j * 5, none⟩ = some (.int .i64 l[j].1) ∧ w.cell? ⟨b, o + j * 5 + 1, none⟩ = some (.string l[j].2.1) ∧ w.cell? ⟨b, o + j * 5 + 2, none⟩ = some (.int .i64 l[j].2.2.1) ∧ w.cell? ⟨b, o + j * 5 + 3, none⟩ = some (.int .i64 l[j].2.2.2.1) ∧ w.cell? ⟨b, o + j * 5 + 4, none⟩ = some (.string l[j].2.2.2.2)
theorem TokAt.below {w w' : World} {a : Option Addr} {l : List TT} (h : TokAt w a l) (hb : Below w.heap.size w w') : TokAt w' a l := by
  intro j hj
  obtain ⟨b, o, ha, hlt, c0, c1, c2, c3, c4⟩ := h j hj
  refine ⟨b, o, ha, Nat.lt_of_lt_of_le hlt hb.size, ?_, ?_, ?_, ?_, ?_⟩
  · rw [hb.cell (p := ⟨b, _, none⟩) hlt]; exact c0
  · rw [hb.cell (p := ⟨b, _, none⟩) hlt]; exact c1
  · rw [hb.cell (p := ⟨b, _, none⟩) hlt]; exact c2
  · rw [hb.cell (p := ⟨b, _, none⟩) hlt]; exact c3
  · rw [hb.cell (p := ⟨b, _, none⟩) hlt]; exact c4
/-- Five cells of a block are written. -/
theorem five {w : World} {b : Nat} {a0 a1 a2 a3 a4 : Value} (v0 v1 v2 v3 v4 : Value) (h0 : w.cell? ⟨b, 0, none⟩ = some a0) (h1 : w.cell? ⟨b, 1, none⟩ = some a1) (h2 : w.cell? ⟨b, 2, none⟩ = some a2) (h3 : w.cell? ⟨b, 3, none⟩ = some a3) (h4 : w.cell? ⟨b, 4, none⟩ = some a4) :
    (((((w.setCell ⟨b, 0, none⟩ v0).setCell ⟨b, 1, none⟩ v1).setCell ⟨b, 2, none⟩ v2).setCell ⟨b, 3, none⟩ v3).setCell ⟨b, 4, none⟩ v4).cell? ⟨b, 0, none⟩ = some v0 ∧ (((((w.setCell ⟨b, 0, none⟩ v0).setCell ⟨b, 1, none⟩ v1).setCell ⟨b, 2, none⟩ v2).setCell ⟨b, 3, none⟩ v3).setCell ⟨b, 4, none⟩ v4).cell? ⟨b, 1, none⟩ = some v1 ∧ (((((w.setCell ⟨b, 0, none⟩ v0).setCell ⟨b, 1, none⟩ v1).setCell ⟨b, 2, none⟩ v2).setCell ⟨b, 3, none⟩ v3).setCell ⟨b, 4, none⟩ v4).cell? ⟨b, 2, none⟩ = some v2 ∧ (((((w.setCell ⟨b, 0, none⟩ v0).setCell ⟨b, 1, none⟩ v1).setCell ⟨b, 2, none⟩ v2).setCell ⟨b, 3, none⟩ v3).setCell ⟨b, 4, none⟩ v4).cell? ⟨b, 3, none⟩ = some v3 ∧ (((((w.setCell ⟨b, 0, none⟩ v0).setCell ⟨b, 1, none⟩ v1).setCell ⟨b, 2, none⟩ v2).setCell ⟨b, 3, none⟩ v3).setCell ⟨b, 4, none⟩ v4).cell? ⟨b, 4, none⟩ = some v4 := by
  refine ⟨?_, ?_, ?_, ?_, ?_⟩
  · rw [cell_off _ _ _ _ _ (by omega), cell_off _ _ _ _ _ (by omega), cell_off _ _ _ _ _ (by omega), cell_off _ _ _ _ _ (by omega), cell_here _ _ _ _ (by rw [h0]; rfl)]
  · rw [cell_off _ _ _ _ _ (by omega), cell_off _ _ _ _ _ (by omega), cell_off _ _ _ _ _ (by omega), cell_here _ _ _ _ (by rw [cell_off _ _ _ _ _ (by omega), h1]; rfl)]
  · rw [cell_off _ _ _ _ _ (by omega), cell_off _ _ _ _ _ (by omega), cell_here _ _ _ _ (by rw [cell_off _ _ _ _ _ (by omega), cell_off _ _ _ _ _ (by omega), h2]; rfl)]
  · rw [cell_off _ _ _ _ _ (by omega), cell_here _ _ _ _ (by rw [cell_off _ _ _ _ _ (by omega), cell_off _ _ _ _ _ (by omega), cell_off _ _ _ _ _ (by omega), h3]; rfl)]
  · rw [cell_here _ _ _ _ (by rw [cell_off _ _ _ _ _ (by omega), cell_off _ _ _ _ _ (by omega), cell_off _ _ _ _ _ (by omega), cell_off _ _ _ _ _ (by omega), h4]; rfl)]
end Go.Proofs.YtjiaciikbnpicaaGreatDoor
