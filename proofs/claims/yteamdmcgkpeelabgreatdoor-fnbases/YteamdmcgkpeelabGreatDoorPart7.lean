/-
  A part of the proof: SortedS, RowsDraw, TabDraw1.
-/
import Derived.Test.YteamdmcgkpeelabGreatDoorPart6
import Derived.Test.YteamdmcgkpeelabGreatDoorPart4
import Derived.Test.YteamdmcgkpeelabGreatDoorPart5

/-
  The contract of the model's Sorted: rows in new memory, in the order of their places that is asked for.
-/
namespace Go.Proofs.YteamdmcgkpeelabGreatDoor
open Go.ChangeShapes Go.WideShapes Go.ChangeAt Go.RowKit
attribute [local go_sem ↓] Go.wp_at_zero Go.wp_at_succ

/-- Where one comes from when two change places. -/
def sw (i j k : Nat) : Nat := if k = j then i else if k = i then j else k
theorem sw_lt {i j k n : Nat} (hi : i < n) (hj : j < n) (hk : k < n) : sw i j k < n := by unfold sw; split <;> (try split) <;> omega
theorem sw_inj {i j a b : Nat} (h : sw i j a = sw i j b) : a = b := by
  unfold sw at h
  split at h <;> split at h <;> (try split at h) <;> (try split at h) <;> omega
theorem swap_sw {α : Type} (d : α) (s : List α) (i j k : Nat) (hi : i < s.length) (hj : j < s.length) : (swap d s i j).getD k d = s.getD (sw i j k) d := by
  rw [swap_getD _ _ _ _ _ hi hj]; unfold sw
  split
  · rfl
  · split <;> rfl

/-- Two heads change places. -/
theorem OwnRows.swap {w : World} {base g c : Nat} {L : List (List CT)} {G C : Nat → Nat} (h : OwnRows w base (.slice (some ⟨g, 0, none⟩) L.length c) L G C) (i j : Nat) (hi : i < L.length) (hj : j < L.length) (hij : i ≠ j) :
    OwnRows ((w.setCell ⟨g, j, none⟩ (headOf G C L i)).setCell ⟨g, i, none⟩ (headOf G C L j)) base (.slice (some ⟨g, 0, none⟩) L.length c) (swap [] L i j) (fun k => G (sw i j k)) (fun k => C (sw i j k)) := by
  have s1 := h.outer.stored j (headOf G C L i)
  have s2 := s1.1.stored i (headOf G C L j)
  have hh : ∀ k, headOf (fun k => G (sw i j k)) (fun k => C (sw i j k)) (Go.Proofs.YteamdmcgkpeelabGreatDoor.swap [] L i j) k = headOf G C L (sw i j k) := by
    intro k; simp only [headOf, swap_sw [] L i j k hi hj]
  refine ⟨?_, ?_, ?_⟩
  · rw [swap_length]
    have e : ((List.range L.length).map (headOf (fun k => G (sw i j k)) (fun k => C (sw i j k)) (Go.Proofs.YteamdmcgkpeelabGreatDoor.swap [] L i j))) = (((List.range L.length).map (headOf G C L)).set j (headOf G C L i)).set i (headOf G C L j) := by
      apply List.ext_getElem
      · simp
      · intro k h1 h2
        have hk : k < L.length := by simpa using h1
        simp only [List.getElem_map, List.getElem_range, List.getElem_set]
        rw [hh]
        unfold sw
        by_cases e1 : k = j
        · subst e1; simp [hij]
        · by_cases e2 : k = i
          · subst e2; simp [e1]
          · simp [e1, e2, Ne.symm e1, Ne.symm e2]
    rw [e]; exact s2.1
  · intro k hk
    rw [swap_length] at hk
    rw [hh, swap_sw [] L i j k hi hj]
    have hin := h.inner (sw i j k) (sw_lt hi hj hk)
    have hne : (headOf G C L (sw i j k)).ownBlock ≠ some g := by
      simp only [headOf, Value.ownBlock]
      intro e
      exact own_other h.outer (h.inner (sw i j k) (sw_lt hi hj hk)) (by decide) (by simp only [Value.ownBlock]; exact e.symm)
    exact (hin.kept s1.2 (.inr hne)).kept s2.2 (.inr hne)
  · intro a b ha hb hab
    rw [swap_length] at ha hb
    exact h.apart _ _ (sw_lt hi hj ha) (sw_lt hi hj hb) (fun e => hab (sw_inj e))

theorem getD_get {α : Type} (d : α) (l : List α) (j : Nat) (h : j < l.length) : l.getD j d = l[j] := by simp [List.getD, List.getElem?_eq_getElem h]
/-- The head of a row, and a cell of it. -/
theorem OwnRows.look {w : World} {base g c : Nat} {L : List (List CT)} {G C : Nat → Nat} (h : OwnRows w base (.slice (some ⟨g, 0, none⟩) L.length c) L G C) (i : Nat) (hi : i < L.length) : w.cell? ⟨g, i, none⟩ = some (headOf G C L i) ∧ w.frozen? ⟨g, i, none⟩ = false := by
  refine ⟨?_, h.outer.frozenAt i⟩
  rw [h.outer.cellAt i (by omega), List.getElem?_map, List.getElem?_range hi]; rfl
theorem OwnRows.lookIn {w : World} {base g c : Nat} {L : List (List CT)} {G C : Nat → Nat} (h : OwnRows w base (.slice (some ⟨g, 0, none⟩) L.length c) L G C) (i : Nat) (hi : i < L.length) (j : Nat) (x : CT) (hj : j < (L.getD i []).length) (hx : (L.getD i []).getD j (0, 0, ⟨#[]⟩) = x) :
    w.cell? ⟨G i, j * 3, none⟩ = some (.int .i64 x.1) ∧ w.cell? ⟨G i, j * 3 + 1, none⟩ = some (.int .i64 x.2.1) ∧ w.cell? ⟨G i, j * 3 + 2, none⟩ = some (.string x.2.2) ∧ G i < w.heap.size := by
  have hin := h.inner i hi
  unfold headOf at hin
  obtain ⟨b, o, e, hlt, c0, c1, c2⟩ := own_row hin j hj
  cases e
  have ex : (L.getD i [])[j] = x := by rw [← hx, getD_get _ _ _ hj]
  rw [ex] at c0 c1 c2
  rw [show 0 + j * 3 = j * 3 by omega] at c0 c1 c2
  exact ⟨c0, c1, c2, hlt⟩

/-- Rows in the order of these places, in memory of their own. -/
def Laid (w : World) (base g c : Nat) (L : List (List CT)) (p : List Nat) : Prop := ∃ G C, OwnRows w base (.slice (some ⟨g, 0, none⟩) L.length c) (rowsOf L p) G C
theorem Laid.below {w w' : World} {base g c : Nat} {L : List (List CT)} {p : List Nat} (h : Laid w base g c L p) (hb : Below w.heap.size w w') : Laid w' base g c L p := by
  obtain ⟨G, C, h⟩ := h
  exact ⟨G, C, h.below hb⟩

theorem reach_key {L : List (List CT)} {at_ : Int} (hr : Reach L at_) (q : Nat) (hq : q < L.length) : 0 ≤ at_ ∧ at_.toNat < (L.getD q []).length ∧ (at_.toNat : Int) = at_ := by
  have := hr q hq
  rw [show L.getD q [] = L[q] from by simp [List.getD, List.getElem?_eq_getElem hq]]
  omega

end Go.Proofs.YteamdmcgkpeelabGreatDoor

/-
  The contract of the model's draw of several rows.
-/
namespace Go.Proofs.YteamdmcgkpeelabGreatDoor
open Go.ChangeShapes Go.WideShapes Go.ChangeAt Go.RowKit
attribute [local go_sem ↓] Go.wp_at_zero Go.wp_at_succ
attribute [local simp] World.cell?_alloc_past World.cell?_alloc_at World.frozen?_alloc_at cell_far cell_off cell_here World.frozen?_alloc_past

theorem OwnRows.keep {w w' : World} {c base : Nat} {v : Value} {L : List (List CT)} {G C : Nat → Nat} (h : OwnRows w base v L G C) (hk : Keep c w w') (hc : c < base) : OwnRows w' base v L G C :=
  ⟨own_keep h.outer hk hc, fun i hi => own_keep (h.inner i hi) hk hc, h.apart⟩
theorem OwnRows.lt {w : World} {base : Nat} {v : Value} {L : List (List CT)} {G C : Nat → Nat} (h : OwnRows w base v L G C) (i : Nat) (hi : i < L.length) : G i < w.heap.size := by
  rcases (h.inner i hi).2 with ⟨h', _⟩ | ⟨g2, c2, cur2, h', _, hg2, _⟩
  · simp [headOf] at h'
  · simp only [headOf, Value.slice.injEq, Option.some.injEq, Addr.mk.injEq, and_true, true_and] at h'
    obtain ⟨rfl, rfl⟩ := h'
    by_cases hl : G i < w.heap.size
    · exact hl
    · rw [Array.getElem?_eq_none (by omega)] at hg2; cases hg2

/-- One row more, in a block that none of them has: its head is appended. -/
theorem OwnRows.stepG {w1 w2 : World} {base : Nat} {v v' : Value} {L : List (List CT)} {G C : Nat → Nat} {x : List CT} {g c : Nat} {o : Obj} (h1 : OwnRows w1 base v L G C) (hg : ∀ i, i < L.length → G i ≠ g)
    (own : w1.ownsRow base 78 3 (.slice (some ⟨g, 0, none⟩) x.length c) x.length (flat x))
    (own2 : w2.ownsRow base 67 1 v' (L.length + 1) ((List.range L.length).map (headOf G C L) ++ [.slice (some ⟨g, 0, none⟩) x.length c])) (hgr : (w1.alloc o).grownBy w2 v.ownBlock) :
    ∃ G' C', OwnRows w2 base v' (L ++ [x]) G' C' := by
  have he : (67 : TypeId) ≠ 78 := by decide
  have hd : ∀ i, i < L.length → (L ++ [x]).getD i [] = L.getD i [] := by
    intro i hi
    simp [List.getD, List.getElem?_append_left hi]
  have hdl : (L ++ [x]).getD L.length [] = x := by simp [List.getD]
  refine ⟨fun i => if i = L.length then g else G i, fun i => if i = L.length then c else C i, ?_, ?_, ?_⟩
  · have e1 : (L ++ [x]).length = L.length + 1 := by simp
    rw [e1, List.range_succ, List.map_append]
    have e2 : (List.range L.length).map (headOf (fun i => if i = L.length then g else G i) (fun i => if i = L.length then c else C i) (L ++ [x])) = (List.range L.length).map (headOf G C L) := by
      refine List.map_congr_left fun i hi => ?_
      have hi' : i < L.length := by simpa using hi
      have hne : i ≠ L.length := by omega
      simp only [headOf, if_neg hne, hd i hi']
    have e3 : [L.length].map (headOf (fun i => if i = L.length then g else G i) (fun i => if i = L.length then c else C i) (L ++ [x])) = [.slice (some ⟨g, 0, none⟩) x.length c] := by
      simp only [List.map_cons, List.map_nil, headOf, if_true, hdl]
    rw [e2, e3]; exact own2
  · intro i hi
    by_cases hil : i = L.length
    · subst hil
      rw [hdl]
      have := own.alloc o
      have k := this.kept hgr (.inr (by simp only [Value.ownBlock]; exact (own_other (h1.outer.alloc o) this he).symm))
      simpa only [headOf, if_true, hdl] using k
    · have hi' : i < L.length := by simp at hi; omega
      rw [hd i hi']
      have := (h1.inner i hi').alloc o
      have k := this.kept hgr (.inr (by simp only [headOf, Value.ownBlock]; exact (own_other (h1.outer.alloc o) this he).symm))
      simpa only [headOf, if_neg hil, hd i hi'] using k
  · intro i j hi hj hij
    have hi2 : i < L.length + 1 := by simpa using hi
    have hj2 : j < L.length + 1 := by simpa using hj
    by_cases e1 : i = L.length
    · have e2 : j ≠ L.length := by omega
      have := hg j (by omega)
      simp only [if_pos e1, if_neg e2]; omega
    · by_cases e2 : j = L.length
      · have := hg i (by omega)
        simp only [if_neg e1, if_pos e2]; omega
      · simp only [if_neg e1, if_neg e2]; exact h1.apart i j (by omega) (by omega) hij

theorem cells1w (w : World) (T : TypeId) (x : Value) : ∀ j u, [x][j]? = some u → (w.alloc (.cells #[x] T)).cell? ((⟨w.heap.size, 0, none⟩ : Addr).add j) = some u := by
  intro j u hj
  match j, hj with
  | 0, hj => simp at hj; subst hj; simp [Addr.add]
theorem row_drawI {w : World} {c : Nat} {a : Option Addr} {len cap : Nat} (h : Cur w c a len cap) (n : Nat) (hn : n ≤ 1000) (y : Int) (hy : y = (n : Int)) :
    Calls Tryz.prog 50 #[.pointer (some ⟨c, 0, none⟩), .int .i64 y] w fun e w' => ∃ v l, e = .returned v ∧ l.length = n ∧ Fit l ∧ v ≠ .slice none 0 0 ∧ w'.ownsRow w.heap.size 78 3 v l.length (flat l) ∧ Cur w' c a len cap ∧ Keep c w w' := by
  subst hy; exact row_draw h n hn
/-- Rows that were drawn: few, short, and their texts fit. -/
def Drawn (L : List (List CT)) (n : Nat) : Prop := L.length ≤ n ∧ ∀ i (h : i < L.length), Fit L[i] ∧ L[i].length ≤ 1000
theorem Drawn.append {L : List (List CT)} {n : Nat} {x : List CT} (h : Drawn L n) (hf : Fit x) (hx : x.length ≤ 1000) : Drawn (L ++ [x]) (n + 1) := by
  refine ⟨by have := h.1; simp; omega, fun i hi => ?_⟩
  by_cases e : i < L.length
  · rw [List.getElem_append_left e]; exact h.2 i e
  · rw [List.getElem_append_right (by omega)]; simpa using ⟨hf, hx⟩
theorem infoRowD : (Tryz.prog.info? 67).map (fun i => (i.zero, i.size, i.bytes)) = some (some (.slice none 0 0), 1, 24) := by kernel_rfl

/-- The state of the draw: the rows so far, the cursor. -/
def RowsSoFar (wr : World) (base c : Nat) (a : Option Addr) (len cap : Nat) (v : Value) (n : Nat) : Prop := ∃ L G C, OwnRows wr base v L G C ∧ Drawn L n ∧ Cur wr c a len cap

end Go.Proofs.YteamdmcgkpeelabGreatDoor

/-
  A table that is being drawn: the block of its three fields, its columns and rows in memory of the call's own; the small draws of stage 5.
-/
namespace Go.Proofs.YteamdmcgkpeelabGreatDoor
open Go.ChangeShapes Go.WideShapes Go.ChangeAt Go.RowKit
attribute [local go_sem ↓] Go.wp_at_zero Go.wp_at_succ
attribute [local simp] World.cell?_alloc_past World.cell?_alloc_at World.frozen?_alloc_at cell_far cell_off cell_here World.frozen?_alloc_past

/-- The three fields of a table in block B. -/
def TBox (w : World) (B : Nat) (x y z : Value) : Prop := w.heap[B]? = some (.cells #[x, y, z] 35 (0, 0))
theorem TBox.lt {w : World} {B : Nat} {x y z : Value} (h : TBox w B x y z) : B < w.heap.size := by
  by_cases hl : B < w.heap.size
  · exact hl
  · unfold TBox at h; rw [Array.getElem?_eq_none (by omega)] at h; cases h
theorem TBox.cells {w : World} {B : Nat} {x y z : Value} (h : TBox w B x y z) : w.cell? ⟨B, 0, none⟩ = some x ∧ w.cell? ⟨B, 1, none⟩ = some y ∧ w.cell? ⟨B, 2, none⟩ = some z := by
  unfold TBox at h
  refine ⟨?_, ?_, ?_⟩ <;> simp [World.cell?, h]
theorem TBox.free {w : World} {B : Nat} {x y z : Value} (h : TBox w B x y z) : w.frozen? ⟨B, 0, none⟩ = false ∧ w.frozen? ⟨B, 1, none⟩ = false ∧ w.frozen? ⟨B, 2, none⟩ = false := by
  unfold TBox at h
  refine ⟨?_, ?_, ?_⟩ <;> simp [World.frozen?, h]
theorem TBox.of {w w' : World} {B : Nat} {x y z : Value} (h : TBox w B x y z) (e : w'.heap[B]? = w.heap[B]?) : TBox w' B x y z := by unfold TBox at h ⊢; rw [e]; exact h
theorem TBox.keep {w w' : World} {c B : Nat} {x y z : Value} (h : TBox w B x y z) (hk : Keep c w w') (hne : B ≠ c) : TBox w' B x y z := h.of (hk.block B h.lt hne)
theorem TBox.below {w w' : World} {B : Nat} {x y z : Value} (h : TBox w B x y z) (hb : Below w.heap.size w w') : TBox w' B x y z := h.of (hb.block B h.lt)
theorem TBox.alloc {w : World} {B : Nat} {x y z : Value} (h : TBox w B x y z) (o : Obj) : TBox (w.alloc o) B x y z := by
  refine h.of ?_
  show (w.heap.push o)[B]? = _
  rw [Array.getElem?_push_lt h.lt, ← Array.getElem?_eq_getElem h.lt]
theorem TBox.grown {w w' : World} {B : Nat} {x y z : Value} {row : Option Nat} (h : TBox w B x y z) (hg : w.grownBy w' row) (hne : row ≠ some B) : TBox w' B x y z := h.of (hg.block B h.lt (fun e => hne e.symm))
theorem TBox.new (w : World) (x y z : Value) : TBox (w.alloc (.cells #[x, y, z] 35)) w.heap.size x y z := by
  unfold TBox
  show (w.heap.push _)[w.heap.size]? = _
  simp
theorem TBox.set0 {w : World} {B : Nat} {x y z : Value} (h : TBox w B x y z) (u : Value) : TBox (w.setCell ⟨B, 0, none⟩ u) B u y z := by
  have := heap_setCell_same w B 0 #[x, y, z] 35 u h
  unfold TBox; rw [this]; rfl
theorem TBox.set1 {w : World} {B : Nat} {x y z : Value} (h : TBox w B x y z) (u : Value) : TBox (w.setCell ⟨B, 1, none⟩ u) B x u z := by
  have := heap_setCell_same w B 1 #[x, y, z] 35 u h
  unfold TBox; rw [this]; rfl
theorem TBox.set2 {w : World} {B : Nat} {x y z : Value} (h : TBox w B x y z) (u : Value) : TBox (w.setCell ⟨B, 2, none⟩ u) B x y u := by
  have := heap_setCell_same w B 2 #[x, y, z] 35 u h
  unfold TBox; rw [this]; rfl
theorem TBox.notOwn {w : World} {B : Nat} {x y z : Value} (h : TBox w B x y z) {base : Nat} {e : TypeId} {size n : Nat} {v : Value} {xs : List Value} (ho : w.ownsRow base e size v n xs) (he : 35 ≠ e) : v.ownBlock ≠ some B := by
  rcases ho.2 with ⟨rfl, _⟩ | ⟨g, cap, cur, rfl, _, hg, _⟩
  · simp [Value.ownBlock]
  · intro hh
    simp only [Value.ownBlock, Option.some.injEq] at hh
    subst hh
    unfold TBox at h
    rw [h] at hg
    simp at hg
    exact he hg.2
theorem own_apart {w : World} {base b2 : Nat} {e e2 : TypeId} {size size2 n n2 : Nat} {v v2 : Value} {xs ys : List Value} (h : w.ownsRow base e size v n xs) (k : w.ownsRow b2 e2 size2 v2 n2 ys) (he : e ≠ e2) : v2.ownBlock = none ∨ v2.ownBlock ≠ v.ownBlock := by
  rcases k.2 with ⟨rfl, _⟩ | ⟨g, c, cur, rfl, _, hg, _⟩
  · exact .inl rfl
  · right
    have := own_other h (g := g) (c := c) k he
    simp only [Value.ownBlock] at this ⊢
    exact fun e => this e.symm

/-- A table under way: its fields in block B, its columns and rows in memory of their own. -/
structure TD (w : World) (base B : Nat) (nm : ByteArray) (vc vr : Value) (C : List ByteArray) (L : List (List CT)) : Prop where
  box : TBox w B (.string nm) vc vr
  cols : w.ownsRow base 9 1 vc C.length (strV C)
  rows : ∃ G D, OwnRows w base vr L G D
theorem TD.keep {w w' : World} {c base B : Nat} {nm : ByteArray} {vc vr : Value} {C : List ByteArray} {L : List (List CT)} (h : TD w base B nm vc vr C L) (hk : Keep c w w') (hc : c < base) (hB : B ≠ c) : TD w' base B nm vc vr C L :=
  ⟨h.box.keep hk hB, own_keep h.cols hk hc, by obtain ⟨G, D, O⟩ := h.rows; exact ⟨G, D, O.keep hk hc⟩⟩
theorem TD.alloc {w : World} {base B : Nat} {nm : ByteArray} {vc vr : Value} {C : List ByteArray} {L : List (List CT)} (h : TD w base B nm vc vr C L) (o : Obj) : TD (w.alloc o) base B nm vc vr C L :=
  ⟨h.box.alloc o, h.cols.alloc o, by obtain ⟨G, D, O⟩ := h.rows; exact ⟨G, D, O.outer.alloc o, fun i hi => (O.inner i hi).alloc o, O.apart⟩⟩
theorem TD.below {w w' : World} {base B : Nat} {nm : ByteArray} {vc vr : Value} {C : List ByteArray} {L : List (List CT)} (h : TD w base B nm vc vr C L) (hb : Below w.heap.size w w') : TD w' base B nm vc vr C L :=
  ⟨h.box.below hb, own_below h.cols hb, by obtain ⟨G, D, O⟩ := h.rows; exact ⟨G, D, O.below hb⟩⟩
theorem TD.drew {w : World} {base B : Nat} {nm : ByteArray} {vc vr : Value} {C : List ByteArray} {L : List (List CT)} (h : TD w base B nm vc vr C L) : TD w.drew base B nm vc vr C L := h.below (Below.refl _ _).drew
/-- One column more, its slice stored into the table's block. -/
theorem TD.addCol {w w2 : World} {base B : Nat} {nm : ByteArray} {vc vr v' : Value} {C : List ByteArray} {L : List (List CT)} {s : ByteArray} (h : TD w base B nm vc vr C L) (own : w2.ownsRow base 9 1 v' (C.length + 1) (strV C ++ [.string s])) (hg : w.grownBy w2 vc.ownBlock) :
    TD (w2.setCell ⟨B, 1, none⟩ v') base B nm v' vr (C ++ [s]) L := by
  have hb := h.box.grown hg (h.box.notOwn h.cols (by decide))
  obtain ⟨G, D, O⟩ := h.rows
  have O2 : OwnRows w2 base vr L G D := ⟨O.outer.kept hg (own_apart h.cols O.outer (by decide)), fun i hi => (O.inner i hi).kept hg (own_apart h.cols (O.inner i hi) (by decide)), O.apart⟩
  refine ⟨hb.set1 v', ?_, G, D, O2.setT hb (by decide) (by decide) 1 v'⟩
  have e : strV (C ++ [s]) = strV C ++ [.string s] := List.map_append
  rw [e, List.length_append]
  exact own_setT own hb (by decide) 1 v'
/-- One row more. -/
theorem TD.addRow {w w2 : World} {base B : Nat} {nm : ByteArray} {vc vr v' : Value} {C : List ByteArray} {L : List (List CT)} {x : List CT} {g k : Nat} {o : Obj} {G D : Nat → Nat} (h : TD w base B nm vc vr C L) (O : OwnRows w base vr L G D) (hgx : ∀ i, i < L.length → G i ≠ g)
    (ownx : w.ownsRow base 78 3 (.slice (some ⟨g, 0, none⟩) x.length k) x.length (flat x))
    (own : w2.ownsRow base 67 1 v' (L.length + 1) ((List.range L.length).map (headOf G D L) ++ [.slice (some ⟨g, 0, none⟩) x.length k])) (hg : (w.alloc o).grownBy w2 vr.ownBlock) :
    TD (w2.setCell ⟨B, 2, none⟩ v') base B nm vc v' C (L ++ [x]) := by
  have ha := h.alloc o
  have hb := ha.box.grown hg (h.box.notOwn O.outer (by decide))
  obtain ⟨G', D', S⟩ := O.stepG hgx ownx own hg
  exact ⟨hb.set2 v', own_setT (ha.cols.kept hg (own_apart (O.outer.alloc o) ha.cols (by decide))) hb (by decide) 2 v', G', D', S.setT hb (by decide) (by decide) 2 v'⟩

theorem name_draw {w : World} {c : Nat} {a : Option Addr} {len cap : Nat} (h : Cur w c a len cap) :
    Calls Tryz.prog 49 #[.pointer (some ⟨c, 0, none⟩)] w fun e w' => ∃ s : ByteArray, e = .returned (.string s) ∧ s.size ≤ 7 ∧ Cur w' c a len cap ∧ Keep c w w' := by
  have hcw := h.lt
  have HC : Hid (Cur w c a len cap) := h
  clear h
  go_enter Tryz.func49, Tryz.ntmps49
  go_wp2_with fail
  refine (below_draw (HC.out.alloc (.cells #[.string ⟨#[116]⟩, .string ⟨#[117]⟩, .string ⟨#[118]⟩] 9)) 3 (by omega) (by omega)).mono ?_
  rintro e w1 ⟨x, rfl, hx0, hx1, hc1, hk1⟩
  have C1 : Hid (Cur w1 c a len cap) := hc1
  have K1 : Hid (Keep c w w1) := ((Keep.refl c w).alloc _).trans hk1
  have hq : ∀ j, w1.cell? ⟨w.heap.size, j, none⟩ = (w.alloc (.cells #[.string ⟨#[116]⟩, .string ⟨#[117]⟩, .string ⟨#[118]⟩] 9)).cell? ⟨w.heap.size, j, none⟩ := fun j => hk1.cell (by simp) (by omega)
  clear hc1 hk1
  rcases (by omega : x = 0 ∨ x = 1 ∨ x = 2) with rfl | rfl | rfl
  · have h0 : w1.cell? ⟨w.heap.size, 0, none⟩ = some (.string ⟨#[116]⟩) := by rw [hq]; simp
    clear hq
    go_wp2
    go_ret
    exact ⟨_, rfl, by decide, C1.out, K1.out⟩
  · have h0 : w1.cell? ⟨w.heap.size, 1, none⟩ = some (.string ⟨#[117]⟩) := by rw [hq]; simp
    clear hq
    go_wp2
    go_ret
    exact ⟨_, rfl, by decide, C1.out, K1.out⟩
  · have h0 : w1.cell? ⟨w.heap.size, 2, none⟩ = some (.string ⟨#[118]⟩) := by rw [hq]; simp
    clear hq
    go_wp2
    go_ret
    exact ⟨_, rfl, by decide, C1.out, K1.out⟩

theorem tcell_draw {w : World} {c : Nat} {a : Option Addr} {len cap : Nat} (h : Cur w c a len cap) :
    Calls Tryz.prog 72 #[.pointer (some ⟨c, 0, none⟩)] w fun e w' => ∃ (k n : Int) (t : ByteArray), e = .returned (.agg #[.int .i64 k, .int .i64 n, .string t]) ∧ t.size ≤ maxLen ∧ Cur w' c a len cap ∧ Keep c w w' := by
  have hcw := h.lt
  have HC : Hid (Cur w c a len cap) := h
  clear h
  go_enter Tryz.func72, Tryz.ntmps72
  go_wp2_with fail
  refine (once_draw (HC.out.alloc _) 8 (by omega) (by omega)).mono ?_
  rintro e w1 ⟨bb, rfl, hc1, hk1⟩
  have B1 : Hid (Has3 w1 w.heap.size (.int .i64 0) (.int .i64 0) (.string ⟨#[]⟩)) := (Has3.new w _ _ _ _).keep hk1 (by omega)
  have K1 : Hid (Keep c w w1) := ((Keep.refl c w).alloc _).trans hk1
  have C1 : Hid (Cur w1 c a len cap) := hc1
  clear hc1 hk1
  cases bb
  · go_wp2_with fail
    refine (below_draw C1.out 9 (by omega) (by omega)).mono ?_
    rintro e w2 ⟨x, rfl, hx0, hx1, hc2, hk2⟩
    obtain ⟨⟨p0, p1, p2, p3⟩, f0, f1, f2⟩ := B1.out.keep hk2 (by omega)
    have K2 : Hid (Keep c w w2) := K1.out.trans hk2
    have C2 : Hid (Cur w2 c a len cap) := hc2
    clear hc2 hk2 B1 C1 K1
    go_wp2
    refine bodyPost_ret (v := .agg #[.int .i64 1, .int .i64 (x - 2), .string ⟨#[]⟩]) (by simp [results, Tryz.results72, go_sem, p0, p1, p2]) rfl ⟨1, x - 2, ⟨#[]⟩, rfl, by decide, ?_, ?_⟩
    · repeat (first | exact C2.out | refine Cur.setAbove ?_ (by omega) _)
    · repeat (first | exact K2.out | refine Keep.setCell ?_ (Or.inr (Nat.le_refl _)) _)
  · go_wp2_with fail
    refine (cell_draw C1.out).mono ?_
    rintro e w2 ⟨k, n, t, rfl, ht, hc2, hk2⟩
    obtain ⟨⟨p0, p1, p2, p3⟩, f0, f1, f2⟩ := B1.out.keep hk2 (by omega)
    have K2 : Hid (Keep c w w2) := K1.out.trans hk2
    have C2 : Hid (Cur w2 c a len cap) := hc2
    clear hc2 hk2 B1 C1 K1
    go_wp2
    refine bodyPost_ret (v := .agg #[.int .i64 k, .int .i64 n, .string t]) (by simp [results, Tryz.results72, go_sem, p0, p1, p2]) rfl ⟨k, n, t, rfl, ht, ?_, ?_⟩
    · repeat (first | exact C2.out | refine Cur.setAbove ?_ (by omega) _)
    · repeat (first | exact K2.out | refine Keep.setCell ?_ (Or.inr (Nat.le_refl _)) _)

end Go.Proofs.YteamdmcgkpeelabGreatDoor
