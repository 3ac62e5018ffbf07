/-
  A part of the proof: RowsDraw, TabDraw1, TabInI, TabInS, TabsMark, ShOps.
-/
import Derived.Test.YteamdmcgkpeelakPart12
import Derived.Test.YteamdmcgkpeelakPart11
import Derived.Test.YteamdmcgkpeelakPart6
import Derived.Test.YteamdmcgkpeelakPart10

/-
  The contract of the model's draw of several rows.
-/
namespace Go.Proofs.Yteamdmcgkpeelak
open Go.ChangeShapes Go.WideShapes Go.ChangeAt Go.RowKit
attribute [local go_sem ↓] Go.wp_at_zero Go.wp_at_succ
attribute [local simp] World.cell?_alloc_past World.cell?_alloc_at World.frozen?_alloc_at cell_far cell_off cell_here World.frozen?_alloc_past

theorem OwnRows.keep {w w' : World} {c base : Nat} {v : Value} {L : List (List CT)} {G C : Nat → Nat} (h : OwnRows w base v L G C) (hk : Keep c w w') (hc : c < base) : OwnRows w' base v L G C :=
  ⟨own_keep h.outer hk hc, fun i hi => own_keep (h.inner i hi) hk hc, h.apart⟩
theorem OwnRows.lt {w : World} {base : Nat} {v : Value} {L : List (List CT)} {G C : Nat → Nat} (h : OwnRows w base v L G C) (i : Nat) (hi : i < L.length) : G i < w.heap.size := by
  rcases (h.inner i hi).2 with ⟨h', _⟩ | ⟨g2, c2, cur2, h', _, hg2, _⟩
  · simp [headOf] at h'
  · simp only [headOf, Value.slice.injEq, Option.some.injEq, Addr.mk.injEq, and_true, true_and] at h'
    obtain ⟨rfl, rfl⟩ := h'
    by_cases hl : G i < w.heap.size
    · exact hl
    · rw [Array.getElem?_eq_none (by omega)] at hg2; cases hg2

/-- One row more, in a block that none of them has: its head is appended. -/
theorem OwnRows.stepG {w1 w2 : World} {base : Nat} {v v' : Value} {L : List (List CT)} {G C : Nat → Nat} {x : List CT} {g c : Nat} {o : Obj} (h1 : OwnRows w1 base v L G C) (hg : ∀ i, i < L.length → G i ≠ g)
    (own : w1.ownsRow base 54 3 (.slice (some ⟨g, 0, none⟩) x.length c) x.length (flat x))
    (own2 : w2.ownsRow base 55 1 v' (L.length + 1) ((List.range L.length).map (headOf G C L) ++ [.slice (some ⟨g, 0, none⟩) x.length c])) (hgr : (w1.alloc o).grownBy w2 v.ownBlock) :
    ∃ G' C', OwnRows w2 base v' (L ++ [x]) G' C' := by
  have he : (55 : TypeId) ≠ 54 := by decide
  have hd : ∀ i, i < L.length → (L ++ [x]).getD i [] = L.getD i [] := by
    intro i hi
    simp [List.getD, List.getElem?_append_left hi]
  have hdl : (L ++ [x]).getD L.length [] = x := by simp [List.getD]
  refine ⟨fun i => if i = L.length then g else G i, fun i => if i = L.length then c else C i, ?_, ?_, ?_⟩
  · have e1 : (L ++ [x]).length = L.length + 1 := by simp
    rw [e1, List.range_succ, List.map_append]
    have e2 : (List.range L.length).map (headOf (fun i => if i = L.length then g else G i) (fun i => if i = L.length then c else C i) (L ++ [x])) = (List.range L.length).map (headOf G C L) := by
      refine List.map_congr_left fun i hi => ?_
      have hi' : i < L.length := by simpa using hi
      have hne : i ≠ L.length := by omega
      simp only [headOf, if_neg hne, hd i hi']
    have e3 : [L.length].map (headOf (fun i => if i = L.length then g else G i) (fun i => if i = L.length then c else C i) (L ++ [x])) = [.slice (some ⟨g, 0, none⟩) x.length c] := by
      simp only [List.map_cons, List.map_nil, headOf, if_true, hdl]
    rw [e2, e3]; exact own2
  · intro i hi
    by_cases hil : i = L.length
    · subst hil
      rw [hdl]
      have := own.alloc o
      have k := this.kept hgr (.inr (by simp only [Value.ownBlock]; exact (own_other (h1.outer.alloc o) this he).symm))
      simpa only [headOf, if_true, hdl] using k
    · have hi' : i < L.length := by simp at hi; omega
      rw [hd i hi']
      have := (h1.inner i hi').alloc o
      have k := this.kept hgr (.inr (by simp only [headOf, Value.ownBlock]; exact (own_other (h1.outer.alloc o) this he).symm))
      simpa only [headOf, if_neg hil, hd i hi'] using k
  · intro i j hi hj hij
    have hi2 : i < L.length + 1 := by simpa using hi
    have hj2 : j < L.length + 1 := by simpa using hj
    by_cases e1 : i = L.length
    · have e2 : j ≠ L.length := by omega
      have := hg j (by omega)
      simp only [if_pos e1, if_neg e2]; omega
    · by_cases e2 : j = L.length
      · have := hg i (by omega)
        simp only [if_neg e1, if_pos e2]; omega
      · simp only [if_neg e1, if_neg e2]; exact h1.apart i j (by omega) (by omega) hij

theorem cells1w (w : World) (T : TypeId) (x : Value) : ∀ j u, [x][j]? = some u → (w.alloc (.cells #[x] T)).cell? ((⟨w.heap.size, 0, none⟩ : Addr).add j) = some u := by
  intro j u hj
  match j, hj with
  | 0, hj => simp at hj; subst hj; simp [Addr.add]
/-- Rows that were drawn: few, short, and their texts fit. -/
def Drawn (L : List (List CT)) (n : Nat) : Prop := L.length ≤ n ∧ ∀ i (h : i < L.length), Fit L[i] ∧ L[i].length ≤ 1000
theorem Drawn.append {L : List (List CT)} {n : Nat} {x : List CT} (h : Drawn L n) (hf : Fit x) (hx : x.length ≤ 1000) : Drawn (L ++ [x]) (n + 1) := by
  refine ⟨by have := h.1; simp; omega, fun i hi => ?_⟩
  by_cases e : i < L.length
  · rw [List.getElem_append_left e]; exact h.2 i e
  · rw [List.getElem_append_right (by omega)]; simpa using ⟨hf, hx⟩
theorem infoRowD : (Try.prog.info? 55).map (fun i => (i.zero, i.size, i.bytes)) = some (some (.slice none 0 0), 1, 24) := by kernel_rfl

/-- The state of the draw: the rows so far, the cursor. -/
def RowsSoFar (wr : World) (base c : Nat) (a : Option Addr) (len cap : Nat) (v : Value) (n : Nat) : Prop := ∃ L G C, OwnRows wr base v L G C ∧ Drawn L n ∧ Cur wr c a len cap

end Go.Proofs.Yteamdmcgkpeelak

/-
  A table that is being drawn: the block of its three fields, its columns and rows in memory of the call's own; the small draws of stage 5.
-/
namespace Go.Proofs.Yteamdmcgkpeelak
open Go.ChangeShapes Go.WideShapes Go.ChangeAt Go.RowKit
attribute [local go_sem ↓] Go.wp_at_zero Go.wp_at_succ
attribute [local simp] World.cell?_alloc_past World.cell?_alloc_at World.frozen?_alloc_at cell_far cell_off cell_here World.frozen?_alloc_past

/-- The three fields of a table in block B. -/
def TBox (w : World) (B : Nat) (x y z : Value) : Prop := w.heap[B]? = some (.cells #[x, y, z] 31 (0, 0))
theorem TBox.lt {w : World} {B : Nat} {x y z : Value} (h : TBox w B x y z) : B < w.heap.size := by
  by_cases hl : B < w.heap.size
  · exact hl
  · unfold TBox at h; rw [Array.getElem?_eq_none (by omega)] at h; cases h
theorem TBox.cells {w : World} {B : Nat} {x y z : Value} (h : TBox w B x y z) : w.cell? ⟨B, 0, none⟩ = some x ∧ w.cell? ⟨B, 1, none⟩ = some y ∧ w.cell? ⟨B, 2, none⟩ = some z := by
  unfold TBox at h
  refine ⟨?_, ?_, ?_⟩ <;> simp [World.cell?, h]
theorem TBox.free {w : World} {B : Nat} {x y z : Value} (h : TBox w B x y z) : w.frozen? ⟨B, 0, none⟩ = false ∧ w.frozen? ⟨B, 1, none⟩ = false ∧ w.frozen? ⟨B, 2, none⟩ = false := by
  unfold TBox at h
  refine ⟨?_, ?_, ?_⟩ <;> simp [World.frozen?, h]
theorem TBox.of {w w' : World} {B : Nat} {x y z : Value} (h : TBox w B x y z) (e : w'.heap[B]? = w.heap[B]?) : TBox w' B x y z := by unfold TBox at h ⊢; rw [e]; exact h
theorem TBox.keep {w w' : World} {c B : Nat} {x y z : Value} (h : TBox w B x y z) (hk : Keep c w w') (hne : B ≠ c) : TBox w' B x y z := h.of (hk.block B h.lt hne)
theorem TBox.below {w w' : World} {B : Nat} {x y z : Value} (h : TBox w B x y z) (hb : Below w.heap.size w w') : TBox w' B x y z := h.of (hb.block B h.lt)
theorem TBox.alloc {w : World} {B : Nat} {x y z : Value} (h : TBox w B x y z) (o : Obj) : TBox (w.alloc o) B x y z := by
  refine h.of ?_
  show (w.heap.push o)[B]? = _
  rw [Array.getElem?_push_lt h.lt, ← Array.getElem?_eq_getElem h.lt]
theorem TBox.grown {w w' : World} {B : Nat} {x y z : Value} {row : Option Nat} (h : TBox w B x y z) (hg : w.grownBy w' row) (hne : row ≠ some B) : TBox w' B x y z := h.of (hg.block B h.lt (fun e => hne e.symm))
theorem TBox.new (w : World) (x y z : Value) : TBox (w.alloc (.cells #[x, y, z] 31)) w.heap.size x y z := by
  unfold TBox
  show (w.heap.push _)[w.heap.size]? = _
  simp
theorem TBox.set0 {w : World} {B : Nat} {x y z : Value} (h : TBox w B x y z) (u : Value) : TBox (w.setCell ⟨B, 0, none⟩ u) B u y z := by
  have := heap_setCell_same w B 0 #[x, y, z] 31 u h
  unfold TBox; rw [this]; rfl
theorem TBox.set1 {w : World} {B : Nat} {x y z : Value} (h : TBox w B x y z) (u : Value) : TBox (w.setCell ⟨B, 1, none⟩ u) B x u z := by
  have := heap_setCell_same w B 1 #[x, y, z] 31 u h
  unfold TBox; rw [this]; rfl
theorem TBox.set2 {w : World} {B : Nat} {x y z : Value} (h : TBox w B x y z) (u : Value) : TBox (w.setCell ⟨B, 2, none⟩ u) B x y u := by
  have := heap_setCell_same w B 2 #[x, y, z] 31 u h
  unfold TBox; rw [this]; rfl
theorem TBox.notOwn {w : World} {B : Nat} {x y z : Value} (h : TBox w B x y z) {base : Nat} {e : TypeId} {size n : Nat} {v : Value} {xs : List Value} (ho : w.ownsRow base e size v n xs) (he : 31 ≠ e) : v.ownBlock ≠ some B := by
  rcases ho.2 with ⟨rfl, _⟩ | ⟨g, cap, cur, rfl, _, hg, _⟩
  · simp [Value.ownBlock]
  · intro hh
    simp only [Value.ownBlock, Option.some.injEq] at hh
    subst hh
    unfold TBox at h
    rw [h] at hg
    simp at hg
    exact he hg.2
theorem own_apart {w : World} {base b2 : Nat} {e e2 : TypeId} {size size2 n n2 : Nat} {v v2 : Value} {xs ys : List Value} (h : w.ownsRow base e size v n xs) (k : w.ownsRow b2 e2 size2 v2 n2 ys) (he : e ≠ e2) : v2.ownBlock = none ∨ v2.ownBlock ≠ v.ownBlock := by
  rcases k.2 with ⟨rfl, _⟩ | ⟨g, c, cur, rfl, _, hg, _⟩
  · exact .inl rfl
  · right
    have := own_other h (g := g) (c := c) k he
    simp only [Value.ownBlock] at this ⊢
    exact fun e => this e.symm

/-- A table under way: its fields in block B, its columns and rows in memory of their own. -/
structure TD (w : World) (base B : Nat) (nm : ByteArray) (vc vr : Value) (C : List ByteArray) (L : List (List CT)) : Prop where
  box : TBox w B (.string nm) vc vr
  cols : w.ownsRow base 9 1 vc C.length (strV C)
  rows : ∃ G D, OwnRows w base vr L G D
theorem TD.keep {w w' : World} {c base B : Nat} {nm : ByteArray} {vc vr : Value} {C : List ByteArray} {L : List (List CT)} (h : TD w base B nm vc vr C L) (hk : Keep c w w') (hc : c < base) (hB : B ≠ c) : TD w' base B nm vc vr C L :=
  ⟨h.box.keep hk hB, own_keep h.cols hk hc, by obtain ⟨G, D, O⟩ := h.rows; exact ⟨G, D, O.keep hk hc⟩⟩
theorem TD.alloc {w : World} {base B : Nat} {nm : ByteArray} {vc vr : Value} {C : List ByteArray} {L : List (List CT)} (h : TD w base B nm vc vr C L) (o : Obj) : TD (w.alloc o) base B nm vc vr C L :=
  ⟨h.box.alloc o, h.cols.alloc o, by obtain ⟨G, D, O⟩ := h.rows; exact ⟨G, D, O.outer.alloc o, fun i hi => (O.inner i hi).alloc o, O.apart⟩⟩
theorem TD.below {w w' : World} {base B : Nat} {nm : ByteArray} {vc vr : Value} {C : List ByteArray} {L : List (List CT)} (h : TD w base B nm vc vr C L) (hb : Below w.heap.size w w') : TD w' base B nm vc vr C L :=
  ⟨h.box.below hb, own_below h.cols hb, by obtain ⟨G, D, O⟩ := h.rows; exact ⟨G, D, O.below hb⟩⟩
theorem TD.drew {w : World} {base B : Nat} {nm : ByteArray} {vc vr : Value} {C : List ByteArray} {L : List (List CT)} (h : TD w base B nm vc vr C L) : TD w.drew base B nm vc vr C L := h.below (Below.refl _ _).drew
/-- One column more, its slice stored into the table's block. -/
theorem TD.addCol {w w2 : World} {base B : Nat} {nm : ByteArray} {vc vr v' : Value} {C : List ByteArray} {L : List (List CT)} {s : ByteArray} (h : TD w base B nm vc vr C L) (own : w2.ownsRow base 9 1 v' (C.length + 1) (strV C ++ [.string s])) (hg : w.grownBy w2 vc.ownBlock) :
    TD (w2.setCell ⟨B, 1, none⟩ v') base B nm v' vr (C ++ [s]) L := by
  have hb := h.box.grown hg (h.box.notOwn h.cols (by decide))
  obtain ⟨G, D, O⟩ := h.rows
  have O2 : OwnRows w2 base vr L G D := ⟨O.outer.kept hg (own_apart h.cols O.outer (by decide)), fun i hi => (O.inner i hi).kept hg (own_apart h.cols (O.inner i hi) (by decide)), O.apart⟩
  refine ⟨hb.set1 v', ?_, G, D, O2.setT hb (by decide) (by decide) 1 v'⟩
  have e : strV (C ++ [s]) = strV C ++ [.string s] := List.map_append
  rw [e, List.length_append]
  exact own_setT own hb (by decide) 1 v'
/-- One row more. -/
theorem TD.addRow {w w2 : World} {base B : Nat} {nm : ByteArray} {vc vr v' : Value} {C : List ByteArray} {L : List (List CT)} {x : List CT} {g k : Nat} {o : Obj} {G D : Nat → Nat} (h : TD w base B nm vc vr C L) (O : OwnRows w base vr L G D) (hgx : ∀ i, i < L.length → G i ≠ g)
    (ownx : w.ownsRow base 54 3 (.slice (some ⟨g, 0, none⟩) x.length k) x.length (flat x))
    (own : w2.ownsRow base 55 1 v' (L.length + 1) ((List.range L.length).map (headOf G D L) ++ [.slice (some ⟨g, 0, none⟩) x.length k])) (hg : (w.alloc o).grownBy w2 vr.ownBlock) :
    TD (w2.setCell ⟨B, 2, none⟩ v') base B nm vc v' C (L ++ [x]) := by
  have ha := h.alloc o
  have hb := ha.box.grown hg (h.box.notOwn O.outer (by decide))
  obtain ⟨G', D', S⟩ := O.stepG hgx ownx own hg
  exact ⟨hb.set2 v', own_setT (ha.cols.kept hg (own_apart (O.outer.alloc o) ha.cols (by decide))) hb (by decide) 2 v', G', D', S.setT hb (by decide) (by decide) 2 v'⟩

end Go.Proofs.Yteamdmcgkpeelak

/-
  TableIn: which table it is, and the contract of the program's.
-/
namespace Go.Proofs.Yteamdmcgkpeelak
open Go.ChangeShapes Go.WideShapes Go.ChangeAt Go.RowKit Go.Maps
attribute [local go_sem ↓] Go.wp_at_zero Go.wp_at_succ
attribute [local simp] World.cell?_alloc_past World.cell?_alloc_at World.frozen?_alloc_at cell_far cell_off cell_here World.frozen?_alloc_past

/-- The first table of that name and true, or the zero one and false. -/
def InR (T : List TB) (s : ByteArray) (t : TB) (b : Bool) : Prop :=
  (b = false ∧ t = zeroT ∧ s ∉ namesT T) ∨ (b = true ∧ ∃ k, ∃ h : k < T.length, T[k] = t ∧ t.1 = s ∧ ∀ j (hj : j < T.length), j < k → T[j].1 ≠ s)
theorem inR_some (T : List TB) (s : ByteArray) : ∃ t b, InR T s t b := by
  by_cases h : s ∈ namesT T
  · rw [← List.take_length (l := T)] at h
    obtain ⟨j, hj, _, e, hf⟩ := first_name h
    exact ⟨T[j], true, .inr ⟨rfl, j, hj, rfl, e, fun i hi hij => by rw [← e]; exact hf i hi hij⟩⟩
  · exact ⟨zeroT, false, .inl ⟨rfl, rfl, h⟩⟩
/-- What TableIn answers: that table in memory of its own. -/
def InOut (w : World) (t : TB) (b : Bool) (e : Ending) (w' : World) : Prop :=
  ∃ nc nr ca cc ra cr A C, e = .returned (.tuple #[.agg #[.string t.1, .slice ca nc cc, .slice ra nr cr], .bool b]) ∧ t.2.1.length = nc ∧ t.2.2.length = nr ∧ OutTab w' w.heap.size ca cc ra t A C ∧ Below w.heap.size w w'

set_option maxRecDepth 100000 in
set_option maxHeartbeats 4000000 in
theorem tablein_impl (a : Option Addr) (cap : Nat) (T : List TB) (n : Nat) (hn : T.length = n) (w : World) (hrow : TabsAt w a T) (hm : n ≤ 1048576) (hsm : ∀ t, t ∈ T → Small t) (s : ByteArray) (hsz : s.size ≤ maxLen) (u : TB) (b : Bool) (hu : InR T s u b) :
    Calls Try.prog 24 #[.slice a n cap, .string s] w (InOut w u b) := by
  have E : Hid (Calls Try.prog 43 #[.slice a n cap] (w.alloc (.cells #[.string ⟨#[]⟩, .slice none 0 0, .slice none 0 0] 31)) fun e w' => e = .returned (.map (some (w.heap.size + 1))) ∧ ShInv (w.alloc (.cells #[.string ⟨#[]⟩, .slice none 0 0, .slice none 0 0] 31)) w' (w.heap.size + 1) T n ∧ Below (w.alloc (.cells #[.string ⟨#[]⟩, .slice none 0 0, .slice none 0 0] 31)).heap.size (w.alloc (.cells #[.string ⟨#[]⟩, .slice none 0 0, .slice none 0 0] 31)) w') := by
    have := shelved_impl a cap T n hn (w.alloc (.cells #[.string ⟨#[]⟩, .slice none 0 0, .slice none 0 0] 31)) (hrow.below ((Below.refl _ _).alloc (Nat.le_refl _) _)) hm
    unfold Hid
    simpa using this
  have hkn : T.take n = T := by rw [← hn, List.take_length]
  have HMEM : Hid (decide (s ∈ ksOf (namesT (T.take n))) = b) := by
    have : decide (s ∈ ksOf (namesT (T.take n))) = b := by
      rw [hkn]
      rcases hu with ⟨rfl, _, h⟩ | ⟨rfl, k, hk, e1, e2, _⟩
      · exact decide_eq_false (by rw [mem_ksOf]; exact h)
      · exact decide_eq_true (by rw [mem_ksOf, ← e2, ← e1]; exact List.mem_map_of_mem (List.getElem_mem hk))
    exact this
  have HN : Hid (T.length = n) := hn
  have HU : Hid (InR T s u b) := hu
  have HSM : Hid (∀ t, t ∈ T → Small t) := hsm
  clear hrow hn hu hkn hsm
  go_enter Try.func24, Try.ntmps24
  go_wp2_with fail
  refine E.out.mono ?_
  rintro e w1 ⟨rfl, hS1, hb1⟩
  have R1 : Hid (TBox w1 w.heap.size (.string ⟨#[]⟩) (.slice none 0 0) (.slice none 0 0)) := (TBox.new w _ _ _).below hb1
  have X1 : Hid (Below (w.alloc (.cells #[.string ⟨#[]⟩, .slice none 0 0, .slice none 0 0] 31)).heap.size (w.alloc (.cells #[.string ⟨#[]⟩, .slice none 0 0, .slice none 0 0] 31)) w1) := hb1
  obtain ⟨f, hSh, hHo⟩ := hS1
  have HSh1 : Hid (ShelfAt w1 (w.heap.size + 1) n (ksOf (namesT (T.take n))) f) := hSh
  have HHo : Hid (∀ j (hj : j < T.length), j < n → (∀ i (hi : i < T.length), i < j → T[i].1 ≠ T[j].1) → HoldsT (w.alloc (.cells #[.string ⟨#[]⟩, .slice none 0 0, .slice none 0 0] 31)) f T[j]) := hHo
  clear hb1 hSh hHo E
  go_wp2_with fail
  refine (has_at _ n _ f _ HSh1.out (ShInv.tables HHo.out) s hsz b HMEM.out).mono ?_
  rintro e w2 ⟨rfl, hb2⟩
  have R2 : Hid (TBox w2 w.heap.size (.string ⟨#[]⟩) (.slice none 0 0) (.slice none 0 0)) := R1.out.below hb2
  have X2 := chain X1.out hb2
  have HSh2 : Hid (ShelfAt w2 (w.heap.size + 1) n (ksOf (namesT (T.take n))) f) := HSh1.out.below hb2
  have XX : Hid (Below w.heap.size w w2) := chainA X2
  clear HSh1 hb2 X1 R1
  cases b
  · obtain rfl : u = zeroT := by
      rcases HU.out with ⟨_, h, _⟩ | ⟨h, _⟩
      · exact h
      · cases h
    obtain ⟨r0, r1, r2⟩ := R2.out.cells
    obtain ⟨f0, f1, f2⟩ := R2.out.free
    have fin : Hid (∀ x y z, InOut w zeroT false (.returned (.tuple #[.agg #[.string ⟨#[]⟩, .slice none 0 0, .slice none 0 0], .bool false])) (((w2.setCell ⟨w.heap.size, 0, none⟩ x).setCell ⟨w.heap.size, 1, none⟩ y).setCell ⟨w.heap.size, 2, none⟩ z)) := by
      have : ∀ x y z, InOut w zeroT false (.returned (.tuple #[.agg #[.string ⟨#[]⟩, .slice none 0 0, .slice none 0 0], .bool false])) (((w2.setCell ⟨w.heap.size, 0, none⟩ x).setCell ⟨w.heap.size, 1, none⟩ y).setCell ⟨w.heap.size, 2, none⟩ z) := fun x y z =>
        ⟨0, 0, none, 0, none, 0, _, _, rfl, rfl, rfl, out_zero _ _, ((XX.out.setCell (p := ⟨w.heap.size, 0, none⟩) (Nat.le_refl _) _).setCell (p := ⟨w.heap.size, 1, none⟩) (Nat.le_refl _) _).setCell (p := ⟨w.heap.size, 2, none⟩) (Nat.le_refl _) _⟩
      exact this
    clear X2 R2 HSh2 HMEM
    go_wp2_with fail
    exact bodyPost_ret (v := .tuple #[.agg #[.string ⟨#[]⟩, .slice none 0 0, .slice none 0 0], .bool false]) (by simp [results, Try.results24, go_sem, r0, r1, r2]) rfl (fin.out _ _ _)
  have hrun := (HSh2.out.found s hsz (of_decide_eq_true HMEM.out)).1
  obtain ⟨k, hk, ek, es, hfk⟩ : ∃ k, ∃ h : k < T.length, T[k] = u ∧ u.1 = s ∧ ∀ j (hj : j < T.length), j < k → T[j].1 ≠ s := by
    rcases HU.out with ⟨h, _⟩ | ⟨_, h⟩
    · cases h
    · exact h
  obtain ⟨ca, cc, ra, cr, ef, hta⟩ := HHo.out k hk (by have := HN.out; omega) (fun i hi hik => by rw [ek, es]; exact hfk i hi hik)
  have HSU : Hid (Small u) := by
    have : Small u := by rw [← ek]; exact HSM.out _ (List.getElem_mem hk)
    exact this
  rw [ek] at ef hta
  obtain ⟨nc, hnc⟩ : ∃ z, u.2.1.length = z := ⟨_, rfl⟩
  obtain ⟨nr, hnr⟩ : ∃ z, u.2.2.length = z := ⟨_, rfl⟩
  have HNC : Hid (u.2.1.length = nc) := hnc
  have HNR : Hid (u.2.2.length = nr) := hnr
  have HS : Hid (s = u.1) := es.symm
  rw [es] at ef
  rw [ef] at hrun
  rw [HNC.out, HNR.out] at hrun
  have HTA : Hid (TabAt w2 ca cc ra u) := hta.below X2
  clear hta ef X2 hnc hnr hk ek es hfk HSh2 HHo HU HMEM
  go_wp2_with fail
  rw [HS.out]
  refine (copied_table ca cc ra cr u nc nr HNC.out HNR.out w2 HTA.out (by rw [← HNC.out]; exact HSU.out.1) (by rw [← HNR.out]; exact HSU.out.2.1) HSU.out.2.2).mono ?_
  rintro e w3 ⟨g, c, g2, c2, A, D, rfl, hO, hb3, hc2⟩
  have R3 : Hid (TBox w3 w.heap.size (.string ⟨#[]⟩) (.slice none 0 0) (.slice none 0 0)) := R2.out.below hb3
  obtain ⟨r0, r1, r2⟩ := R3.out.cells
  obtain ⟨f0, f1, f2⟩ := R3.out.free
  have fin : Hid (∀ x y z, InOut w u true (.returned (.tuple #[.agg #[.string u.1, .slice (some ⟨g, 0, none⟩) nc c, .slice (some ⟨g2, 0, none⟩) nr c2], .bool true])) (((w3.setCell ⟨w.heap.size, 0, none⟩ x).setCell ⟨w.heap.size, 1, none⟩ y).setCell ⟨w.heap.size, 2, none⟩ z)) := by
    have hlt : w.heap.size < w2.heap.size := R2.out.lt
    have hbb : Below w.heap.size w w3 := chain XX.out hb3
    have : ∀ x y z, InOut w u true (.returned (.tuple #[.agg #[.string u.1, .slice (some ⟨g, 0, none⟩) nc c, .slice (some ⟨g2, 0, none⟩) nr c2], .bool true])) (((w3.setCell ⟨w.heap.size, 0, none⟩ x).setCell ⟨w.heap.size, 1, none⟩ y).setCell ⟨w.heap.size, 2, none⟩ z) := fun x y z =>
      ⟨nc, nr, _, _, _, _, _, _, rfl, HNC.out, HNR.out, OutT.lower (q := ⟨_, _, _, c2, _, _⟩) (hO.set3 w.heap.size hlt 0 1 2 x y z) (Nat.le_of_lt hlt), ((hbb.setCell (p := ⟨w.heap.size, 0, none⟩) (Nat.le_refl _) _).setCell (p := ⟨w.heap.size, 1, none⟩) (Nat.le_refl _) _).setCell (p := ⟨w.heap.size, 2, none⟩) (Nat.le_refl _) _⟩
    exact this
  clear hO hb3 R2 R3 XX HTA
  go_wp2_with fail
  exact bodyPost_ret (v := .tuple #[.agg #[.string u.1, .slice (some ⟨g, 0, none⟩) nc c, .slice (some ⟨g2, 0, none⟩) nr c2], .bool true]) (by simp [results, Try.results24, go_sem, r0, r1, r2]) rfl (fin.out _ _ _)
end Go.Proofs.Yteamdmcgkpeelak

/-
  The contract of the model's TableIn.
-/
namespace Go.Proofs.Yteamdmcgkpeelak
open Go.ChangeShapes Go.WideShapes Go.ChangeAt Go.RowKit Go.Maps
attribute [local go_sem ↓] Go.wp_at_zero Go.wp_at_succ
attribute [local simp] World.cell?_alloc_past World.cell?_alloc_at World.frozen?_alloc_at cell_far cell_off cell_here World.frozen?_alloc_past

/-- What the model's TableIn answers: that table. -/
def InAt (w : World) (t : TB) (b : Bool) (e : Ending) (w' : World) : Prop :=
  ∃ nc nr ca cc ra cr, e = .returned (.tuple #[.agg #[.string t.1, .slice ca nc cc, .slice ra nr cr], .bool b]) ∧ t.2.1.length = nc ∧ t.2.2.length = nr ∧ TabAt w' ca cc ra t ∧ Below w.heap.size w w'
theorem inR_at {T : List TB} {s : ByteArray} {u : TB} {b : Bool} {r : Int} (h : InR T s u b) (hr : AtIs (namesT T) s r) : (b = false ∧ u = zeroT ∧ r = -1) ∨ (b = true ∧ ∃ k, ∃ h : k < T.length, T[k] = u ∧ r = (k : Int)) := by
  rcases h with ⟨rfl, h1, h2⟩ | ⟨rfl, k, hk, e1, e2, hf⟩
  · rcases hr with ⟨rfl, _⟩ | ⟨k, hk, _, e, _⟩
    · exact .inl ⟨rfl, h1, rfl⟩
    · exact absurd (e ▸ List.getElem_mem hk) h2
  · refine .inr ⟨rfl, k, hk, e1, ?_⟩
    refine AtIs.one hr (.inr ⟨k, by rw [namesT_length]; exact hk, rfl, by rw [namesT_at T k hk, e1]; exact e2, fun j hj hjk => ?_⟩)
    rw [namesT_length] at hj
    rw [namesT_at T j hj]
    exact hf j hj hjk
set_option maxRecDepth 100000 in
set_option maxHeartbeats 4000000 in
theorem tablein_spec (a : Option Addr) (cap : Nat) (T : List TB) (n : Nat) (hn : T.length = n) (w : World) (hrow : TabsAt w a T) (hm : n ≤ 1048576) (hsm : ∀ t, t ∈ T → Small t) (s : ByteArray) (u : TB) (b : Bool) (hu : InR T s u b) :
    Calls Try.prog 23 #[.slice a n cap, .string s] w (InAt w u b) := by
  have HR : Hid (TabsAt w a T) := hrow
  have HN : Hid (T.length = n) := hn
  have HU : Hid (InR T s u b) := hu
  have HSM : Hid (∀ t, t ∈ T → Small t) := hsm
  clear hrow hn hu hsm
  go_enter Try.func23, Try.ntmps23
  go_wp2_with fail
  obtain ⟨V0, hV0⟩ : ∃ V, V = (w.alloc (.cells #[.string ⟨#[]⟩, .slice none 0 0, .slice none 0 0] 31)) := ⟨_, rfl⟩
  rw [← hV0]
  have hA0 : Below w.heap.size w V0 := by rw [hV0]; exact (Below.refl _ _).alloc (Nat.le_refl _) _
  have B0 : Hid (TBox V0 w.heap.size (.string ⟨#[]⟩) (.slice none 0 0) (.slice none 0 0)) := by
    have : TBox V0 w.heap.size (.string ⟨#[]⟩) (.slice none 0 0) (.slice none 0 0) := by rw [hV0]; exact TBox.new w _ _ _
    exact this
  have HR0 : Hid (TabsAt V0 a T) := HR.out.below hA0
  clear hV0 HR
  refine (find_spec a cap T n HN.out s V0 HR0.out (by unfold maxLen; omega)).mono ?_
  rintro e w1 ⟨r, rfl, hat, hb1⟩
  have R1 : Hid (TBox w1 w.heap.size (.string ⟨#[]⟩) (.slice none 0 0) (.slice none 0 0)) := B0.out.below hb1
  have HR1 : Hid (TabsAt w1 a T) := HR0.out.below hb1
  have XX : Hid (Below w.heap.size w w1) := chain hA0 hb1
  clear HR0 B0 hb1 hA0
  rcases inR_at HU.out hat with ⟨rfl, rfl, rfl⟩ | ⟨rfl, k, hk, ek, rfl⟩
  · clear hat
    obtain ⟨r0, r1, r2⟩ := R1.out.cells
    obtain ⟨f0, f1, f2⟩ := R1.out.free
    have fin : Hid (∀ x y z, InAt w zeroT false (.returned (.tuple #[.agg #[.string ⟨#[]⟩, .slice none 0 0, .slice none 0 0], .bool false])) (((w1.setCell ⟨w.heap.size, 0, none⟩ x).setCell ⟨w.heap.size, 1, none⟩ y).setCell ⟨w.heap.size, 2, none⟩ z)) := by
      have : ∀ x y z, InAt w zeroT false (.returned (.tuple #[.agg #[.string ⟨#[]⟩, .slice none 0 0, .slice none 0 0], .bool false])) (((w1.setCell ⟨w.heap.size, 0, none⟩ x).setCell ⟨w.heap.size, 1, none⟩ y).setCell ⟨w.heap.size, 2, none⟩ z) := fun x y z =>
        ⟨0, 0, none, 0, none, 0, rfl, rfl, rfl, (out_zero _ 0).tab, ((XX.out.setCell (p := ⟨w.heap.size, 0, none⟩) (Nat.le_refl _) _).setCell (p := ⟨w.heap.size, 1, none⟩) (Nat.le_refl _) _).setCell (p := ⟨w.heap.size, 2, none⟩) (Nat.le_refl _) _⟩
      exact this
    clear R1 HR1 XX
    go_wp2_with fail
    exact bodyPost_ret (v := .tuple #[.agg #[.string ⟨#[]⟩, .slice none 0 0, .slice none 0 0], .bool false]) (by simp [results, Try.results23, go_sem, r0, r1, r2]) rfl (fin.out _ _ _)
  obtain ⟨g, o, ca, cc, ra, cr, rfl, hgw, c0, c1, c2, hta⟩ := HR1.out k hk
  have HSU : Hid (Small u) := by
    have : Small u := by rw [← ek]; exact HSM.out _ (List.getElem_mem hk)
    exact this
  have hi0 : (0 : Int) ≤ (k : Int) := by omega
  have hi1 : (k : Int) < (n : Int) := by have := HN.out; omega
  have hi2 : ¬ (k : Int) < 0 := by omega
  rw [ek] at c0 c1 c2 hta
  obtain ⟨nc, hnc⟩ : ∃ z, u.2.1.length = z := ⟨_, rfl⟩
  obtain ⟨nr, hnr⟩ : ∃ z, u.2.2.length = z := ⟨_, rfl⟩
  obtain ⟨un, hun⟩ : ∃ z, u.1 = z := ⟨_, rfl⟩
  rw [hun] at c0
  rw [hnc] at c1
  rw [hnr] at c2
  have HNC : Hid (u.2.1.length = nc) := hnc
  have HNR : Hid (u.2.2.length = nr) := hnr
  have HUN : Hid (u.1 = un) := hun
  have HTA : Hid (TabAt w1 ca cc ra u) := hta
  have E : Hid (Calls Try.prog 42 #[.agg #[.string un, .slice ca nc cc, .slice ra nr cr]] w1 fun e w' => ∃ g c g2 c2 A D, e = .returned (.agg #[.string un, .slice (some ⟨g, 0, none⟩) nc c, .slice (some ⟨g2, 0, none⟩) nr c2]) ∧ OutTab w' w1.heap.size (some ⟨g, 0, none⟩) c (some ⟨g2, 0, none⟩) u A D ∧ Below w1.heap.size w1 w') := by
    have h := copy_spec ca cc ra cr u nc nr hnc hnr w1 hta (by rw [← hnc]; exact HSU.out.1) (by rw [← hnr]; exact HSU.out.2.1) HSU.out.2.2
    rw [hun] at h
    have : Calls Try.prog 42 #[.agg #[.string un, .slice ca nc cc, .slice ra nr cr]] w1 fun e w' => ∃ g c g2 c2 A D, e = .returned (.agg #[.string un, .slice (some ⟨g, 0, none⟩) nc c, .slice (some ⟨g2, 0, none⟩) nr c2]) ∧ OutTab w' w1.heap.size (some ⟨g, 0, none⟩) c (some ⟨g2, 0, none⟩) u A D ∧ Below w1.heap.size w1 w' := by
      refine h.mono ?_
      rintro e w' ⟨g, c, g2, c2, G, D, rfl, _, hc, own1, own2, hb⟩
      exact ⟨g, c, g2, c2, _, D, rfl, out_of_own (S := 9) (t := u) (by decide) (by decide) own1 (by rw [hnr]; exact own2) (by rw [hnc]; exact hc) hta.fit hta.name hta.len hta.lenR (fun i hi => by obtain ⟨_, _, _, _, _, _, _, _, h, _⟩ := hta.rows i hi; exact h) (fun i hi => by obtain ⟨_, _, _, _, _, _, _, _, _, h, _⟩ := hta.rows i hi; exact h), hb⟩
    exact this
  clear hta hnc hnr hun hk ek hat HU HR1
  go_wp2_with fail
  refine E.out.mono ?_
  rintro e w3 ⟨g3, c3, g4, c4, A, D, rfl, hO, hb3⟩
  have R3 : Hid (TBox w3 w.heap.size (.string ⟨#[]⟩) (.slice none 0 0) (.slice none 0 0)) := R1.out.below hb3
  obtain ⟨r0, r1, r2⟩ := R3.out.cells
  obtain ⟨f0, f1, f2⟩ := R3.out.free
  have fin : Hid (∀ x y z, InAt w u true (.returned (.tuple #[.agg #[.string un, .slice (some ⟨g3, 0, none⟩) nc c3, .slice (some ⟨g4, 0, none⟩) nr c4], .bool true])) (((w3.setCell ⟨w.heap.size, 0, none⟩ x).setCell ⟨w.heap.size, 1, none⟩ y).setCell ⟨w.heap.size, 2, none⟩ z)) := by
    have hlt : w.heap.size < w1.heap.size := R1.out.lt
    have hbb : Below w.heap.size w w3 := chain XX.out hb3
    have : ∀ x y z, InAt w u true (.returned (.tuple #[.agg #[.string un, .slice (some ⟨g3, 0, none⟩) nc c3, .slice (some ⟨g4, 0, none⟩) nr c4], .bool true])) (((w3.setCell ⟨w.heap.size, 0, none⟩ x).setCell ⟨w.heap.size, 1, none⟩ y).setCell ⟨w.heap.size, 2, none⟩ z) := fun x y z =>
      ⟨nc, nr, _, _, _, _, by rw [HUN.out], HNC.out, HNR.out, (hO.set3 w.heap.size hlt 0 1 2 x y z).tab, ((hbb.setCell (p := ⟨w.heap.size, 0, none⟩) (Nat.le_refl _) _).setCell (p := ⟨w.heap.size, 1, none⟩) (Nat.le_refl _) _).setCell (p := ⟨w.heap.size, 2, none⟩) (Nat.le_refl _) _⟩
    exact this
  clear hO hb3 R1 R3 XX HTA c0 c1 c2
  go_wp2_with fail
  exact bodyPost_ret (v := .tuple #[.agg #[.string un, .slice (some ⟨g3, 0, none⟩) nc c3, .slice (some ⟨g4, 0, none⟩) nr c4], .bool true]) (by simp [results, Try.results23, go_sem, r0, r1, r2]) rfl (fin.out _ _ _)
end Go.Proofs.Yteamdmcgkpeelak

/-
  Lists of tables, marked: the contracts of the law's helpers that mark them, and that look whether the marks are still there.
-/
namespace Go.Proofs.Yteamdmcgkpeelak
open Go.ChangeShapes Go.WideShapes Go.ChangeAt Go.RowKit
attribute [local go_sem ↓] Go.wp_at_zero Go.wp_at_succ
attribute [local simp] World.cell?_alloc_past World.cell?_alloc_at World.frozen?_alloc_at cell_far cell_off cell_here World.frozen?_alloc_past

/-- How many marks a table takes, its name's among them. -/
def tabN (t : TB) : Nat := 1 + t.2.1.length + 3 * offs t.2.2 t.2.2.length
/-- How many lie ahead of the i-th table. -/
def offT (T : List TB) (i : Nat) : Nat := ((T.take i).map tabN).sum
theorem offT_step (T : List TB) (i : Nat) (h : i < T.length) : offT T (i + 1) = offT T i + tabN T[i] := by
  unfold offT
  rw [List.take_succ_eq_append_getElem h, List.map_append, List.sum_append]; simp
theorem offT_le (T : List TB) (i : Nat) : offT T i ≤ offT T T.length := by
  unfold offT
  rw [List.take_length]
  conv => rhs; rw [← List.take_append_drop i T, List.map_append, List.sum_append]
  omega
/-- The tables are marked up to the m-th; the others are as they were. -/
structure MTs (w : World) (base : Nat) (a : Option Addr) (T : List TB) (Q : Nat → TAd) (k m : Nat) : Prop where
  heads : ∀ i (_ : i < T.length), ∃ g o, a = some ⟨g, o, none⟩ ∧ g < w.heap.size ∧ (i < m → w.cell? ⟨g, o + i * 3, none⟩ = some (.string (mt (k + offT T i)))) ∧ (m ≤ i → w.cell? ⟨g, o + i * 3, none⟩ = some (.string T[i].1)) ∧ w.cell? ⟨g, o + i * 3 + 1, none⟩ = some (.slice (Q i).ca T[i].2.1.length (Q i).cc) ∧ w.cell? ⟨g, o + i * 3 + 2, none⟩ = some (.slice (Q i).ra T[i].2.2.length (Q i).cr) ∧ w.frozen? ⟨g, o + i * 3, none⟩ = false
  marked : ∀ i (_ : i < T.length), i < m → MarkedT w (Q i).ca (Q i).ra T[i] (Q i).A (Q i).C (k + offT T i + 1)
  rest : ∀ i (_ : i < T.length), m ≤ i → OutT w base (Q i) T[i]
theorem OutU.start {w : World} {base : Nat} {a : Option Addr} {T : List TB} {Q : Nat → TAd} (h : OutTs w base a T Q) (k : Nat) : MTs w base a T Q k 0 := by
  refine ⟨fun i hi => ?_, fun i _ h => by omega, fun i hi _ => h.tabs i hi hi⟩
  obtain ⟨g, o, ha, hlt, c0, c1, c2, f0⟩ := h.heads i hi hi
  exact ⟨g, o, ha, hlt, fun h => by omega, fun _ => c0, c1, c2, f0⟩
theorem MTs.keepS {P : Nat → Prop} {w w' : World} {base : Nat} {a : Option Addr} {T : List TB} {Q : Nat → TAd} {k : Nat} (h : MTs w base a T Q k T.length) (hk : KeepS P w w') (hP : ∀ b, tabsBlks a T Q b → ¬ P b) : MTs w' base a T Q k T.length := by
  refine ⟨fun i hi => ?_, fun i hi hm => (h.marked i hi hm).keepS hk (fun b hb => hP b (.inr ⟨i, hi, hb⟩)), fun i hi hm => by omega⟩
  obtain ⟨g, o, ha, hlt, c0, c0', c1, c2, f0⟩ := h.heads i hi
  have hn := hP g (.inl ⟨by omega, o, ha⟩)
  exact ⟨g, o, ha, Nat.lt_of_lt_of_le hlt hk.size, fun hm => by rw [hk.cell hlt hn]; exact c0 hm, fun hm => by omega, by rw [hk.cell hlt hn]; exact c1, by rw [hk.cell hlt hn]; exact c2, by rw [hk.frozen hlt hn]; exact f0⟩
theorem MTs.below {w w' : World} {base : Nat} {a : Option Addr} {T : List TB} {Q : Nat → TAd} {k : Nat} (h : MTs w base a T Q k T.length) (hb : Below w.heap.size w w') : MTs w' base a T Q k T.length :=
  h.keepS (KeepS.ofBelow (P := fun _ => False) hb) (fun _ _ h => h)
/-- One table more is marked. -/
theorem MTs.step {wr w1 w3 w4 : World} {base : Nat} {a : Option Addr} {T : List TB} {Q : Nat → TAd} {k m g o : Nat} (h : MTs wr base a T Q k m) (hm : m < T.length) (ha : a = some ⟨g, o, none⟩)
    (hap : ∀ i j (_ : i < T.length) (_ : j < T.length) b, i ≠ j → (Q i).blks T[i] b → ¬ (Q j).blks T[j] b) (hhd : ∀ i (_ : i < T.length), ¬ (Q i).blks T[i] g)
    (hb : Below wr.heap.size wr w1) (K1 : KeepS (inBlk (Q m).ca T[m].2.1.length) (w1.setCell ⟨g, o + m * 3, none⟩ (.string (mt (k + offT T m)))) w3) (S1 : StrsAt w3 (Q m).ca (marksS (k + offT T m + 1) T[m].2.1.length))
    (K2 : KeepS (rowBlks T[m].2.2 (Q m).A) w3 w4) (H2 : HeadsAt w4 (Q m).ra T[m].2.2 (Q m).A (Q m).C) (M2 : Marked w4 T[m].2.2 (Q m).A (k + offT T m + 1 + T[m].2.1.length) T[m].2.2.length) :
    MTs w4 base a T Q k (m + 1) ∧ KeepS (tabsBlks a T Q) wr w4 := by
  subst ha
  have hgm : ¬ (Q m).blks T[m] g := hhd m hm
  have hg1 : ¬ inBlk (Q m).ca T[m].2.1.length g := fun hb => hgm (.inl hb)
  have hg2 : ¬ rowBlks T[m].2.2 (Q m).A g := fun hb => hgm (.inr (.inl hb))
  have hgw : g < wr.heap.size := by obtain ⟨g', o', e, hlt, _⟩ := h.heads m hm; cases e; exact hlt
  have hgw1 : g < w1.heap.size := Nat.lt_of_lt_of_le hgw hb.size
  have K0 : KeepS (fun b => b = g) w1 (w1.setCell ⟨g, o + m * 3, none⟩ (.string (mt (k + offT T m)))) := (KeepS.refl (fun b => b = g) w1).setCell (p := ⟨g, o + m * 3, none⟩) rfl _
  have KK : KeepS (fun b => b = g ∨ inBlk (Q m).ca T[m].2.1.length b ∨ rowBlks T[m].2.2 (Q m).A b) wr w4 :=
    (((KeepS.ofBelow hb).trans (K0.mono fun b hb => .inl hb)).trans (K1.mono fun b hb => .inr (.inl hb))).trans (K2.mono fun b hb => .inr (.inr hb))
  have hgW : g < (w1.setCell ⟨g, o + m * 3, none⟩ (.string (mt (k + offT T m)))).heap.size := Nat.lt_of_lt_of_le hgw1 K0.size
  have hg3 : g < w3.heap.size := Nat.lt_of_lt_of_le hgW K1.size
  have cel : ∀ p, w4.cell? ⟨g, p, none⟩ = (w1.setCell ⟨g, o + m * 3, none⟩ (.string (mt (k + offT T m)))).cell? ⟨g, p, none⟩ := fun p => by
    rw [K2.cell hg3 hg2, K1.cell hgW hg1]
  have celo : ∀ p, p ≠ o + m * 3 → w4.cell? ⟨g, p, none⟩ = wr.cell? ⟨g, p, none⟩ := fun p hp => by
    rw [cel, cell_off _ _ _ _ _ hp, hb.cell (p := ⟨g, p, none⟩) hgw]
  have fro : ∀ p, w4.frozen? ⟨g, p, none⟩ = wr.frozen? ⟨g, p, none⟩ := fun p => by
    rw [K2.frozen hg3 hg2, K1.frozen hgW hg1, World.frozen?_setCell, hb.frozen (p := ⟨g, p, none⟩) hgw]
  have away : ∀ i (hi : i < T.length) b, i ≠ m → (Q i).blks T[i] b → ¬ (b = g ∨ inBlk (Q m).ca T[m].2.1.length b ∨ rowBlks T[m].2.2 (Q m).A b) := by
    intro i hi b hne hbi hb3
    rcases hb3 with rfl | hb3 | hb3
    · exact hhd i hi hbi
    · exact hap i m hi hm b hne hbi (.inl hb3)
    · exact hap i m hi hm b hne hbi (.inr (.inl hb3))
  have hO := h.rest m hm (Nat.le_refl _)
  refine ⟨⟨?_, ?_, ?_⟩, ?_⟩
  · intro i hi
    obtain ⟨g', o', e, hlt, d0, d0', d1, d2, f0⟩ := h.heads i hi
    cases e
    refine ⟨g, o, rfl, Nat.lt_of_lt_of_le hg3 K2.size, ?_, ?_, by rw [celo _ (by omega)]; exact d1, by rw [celo _ (by omega)]; exact d2, by rw [fro]; exact f0⟩
    · intro hlt
      by_cases ei : i = m
      · subst ei
        rw [cel, cell_here]
        rw [hb.cell (p := ⟨g, _, none⟩) hgw, d0' (Nat.le_refl _)]; rfl
      · rw [celo _ (by omega)]; exact d0 (by omega)
    · intro hle
      rw [celo _ (by omega)]; exact d0' (by omega)
  · intro i hi hlt
    by_cases ei : i = m
    · subst ei
      exact ⟨S1.keepS K2 (fun b hb hb2 => hO.colR b (by rw [marksS_length] at hb; exact hb) hb2), H2, M2⟩
    · exact (h.marked i hi (by omega)).keepS KK (fun b hb => away i hi b ei hb)
  · intro i hi hle
    exact OutTab.keepS (h.rest i hi (by omega)) KK (fun b hb => away i hi b (by omega) hb)
  · refine KK.mono fun b hb => ?_
    rcases hb with rfl | hb | hb
    · exact .inl ⟨by omega, o, rfl⟩
    · exact .inr ⟨m, hm, .inl hb⟩
    · exact .inr ⟨m, hm, .inr (.inl hb)⟩

theorem markstrI (n : Nat) (a : Option Addr) (cap : Nat) (l : List ByteArray) (hn : l.length = n) (k r : Nat) (z : Int) (hz : z = (k : Int)) (hr : k + n = r) (w : World) (hrow : StrsAt w a l) (hfree : FreeS w a l.length) (h0 : 0 < k) (h1 : k + n ≤ 1099511627776) :
    Calls Try.prog 35 #[.slice a n cap, .int .i64 z] w fun e w' => e = .returned (.int .i64 (r : Int)) ∧ StrsAt w' a (marksS k n) ∧ KeepS (inBlk a n) w w' := by
  subst hz hr hn
  refine (markstr_laws a cap l k w hrow hfree h0 h1).mono ?_
  rintro e w' ⟨he, h1, _, h3⟩
  exact ⟨he, h1, h3⟩
theorem markssI (n : Nat) (a : Option Addr) (cap : Nat) (L : List (List CT)) (hn : L.length = n) (A : Nat → Option Addr) (C : Nat → Nat) (k r : Nat) (hr : k + 3 * offs L L.length = r) (w : World) (hh : HeadsAt w a L A C) (hm : Marked w L A k 0) (ap : Apart a L A) (h0 : 0 < k) (h1 : r ≤ 1099511627776) (hlen : n ≤ maxLen) :
    Calls Try.prog 36 #[.slice a n cap, .int .i64 k] w fun e w' => e = .returned (.int .i64 (r : Int)) ∧ HeadsAt w' a L A C ∧ Marked w' L A k L.length ∧ KeepS (rowBlks L A) w w' := by
  subst hn hr; exact markss_laws a cap L A C k w hh hm ap h0 h1 hlen
theorem heldstrI (n : Nat) (a : Option Addr) (cap : Nat) (k r : Nat) (z : Int) (hz : z = (k : Int)) (hr : k + n = r) (w : World) (hrow : StrsAt w a (marksS k n)) (h0 : 0 < k) (h1 : k + n ≤ 1099511627776) :
    Calls Try.prog 47 #[.slice a n cap, .int .i64 z] w fun e w' => e = .returned (.int .i64 (r : Int)) ∧ Below w.heap.size w w' := by
  subst hz hr
  exact heldstr_laws a cap n k w hrow h0 h1
theorem heldssI (n : Nat) (a : Option Addr) (cap : Nat) (L : List (List CT)) (hn : L.length = n) (A : Nat → Option Addr) (C : Nat → Nat) (k r : Nat) (hr : k + 3 * offs L L.length = r) (w : World) (hh : HeadsAt w a L A C) (hm : Marked w L A k L.length) (h0 : 0 < k) (h1 : r ≤ 1099511627776) (hlen : n ≤ maxLen) :
    Calls Try.prog 48 #[.slice a n cap, .int .i64 k] w fun e w' => e = .returned (.int .i64 (r : Int)) ∧ Below w.heap.size w w' := by
  subst hn hr; exact heldss_laws a cap L A C k w hh hm h0 h1 hlen

set_option maxHeartbeats 4000000 in
theorem marktabs_laws (a : Option Addr) (cap : Nat) (T : List TB) (n : Nat) (hn : T.length = n) (Q : Nat → TAd) (base k r : Nat) (hr : k + offT T T.length = r) (w : World) (hO : OutTs w base a T Q) (h0 : 0 < k) (h1 : r ≤ 1099511627776) (hm : n ≤ maxLen) :
    Calls Try.prog 25 #[.slice a n cap, .int .i64 k] w fun e w' => e = .returned (.int .i64 (r : Int)) ∧ MTs w' base a T Q k T.length ∧ KeepS (tabsBlks a T Q) w w' := by
  have HN : Hid (T.length = n) := hn
  have HRR : Hid (k + offT T T.length = r) := hr
  have HM0 : Hid (MTs w base a T Q k 0) := hO.start k
  have HAP : Hid (∀ i j (_ : i < T.length) (_ : j < T.length) b, i ≠ j → (Q i).blks T[i] b → ¬ (Q j).blks T[j] b) := by
    have : ∀ i j (_ : i < T.length) (_ : j < T.length) b, i ≠ j → (Q i).blks T[i] b → ¬ (Q j).blks T[j] b := fun i j hi hj b => hO.apart i j hi hj b hi hj
    exact this
  have HHD : Hid (∀ i (_ : i < T.length) g o, a = some ⟨g, o, none⟩ → ¬ (Q i).blks T[i] g) := by
    have : ∀ i (_ : i < T.length) g o, a = some ⟨g, o, none⟩ → ¬ (Q i).blks T[i] g := fun i hi g o => hO.head i hi g o hi
    exact this
  clear hn hr hO
  unfold maxLen at hm
  go_enter Try.func25, Try.ntmps25
  go_wp2
  go_loopw [1, 5] (fun s i wr => ∃ m x : Nat, m ≤ n ∧ i = .int .i64 m ∧ s = .int .i64 x ∧ Hid (k + offT T m = x) ∧ Hid (MTs wr base a T Q k m) ∧ KeepS (tabsBlks a T Q) w wr)
    (fun _ i _ => n - (intOf i).toNat)
  case atStart => exact ⟨0, k, Nat.zero_le _, rfl, rfl, show k + offT T 0 = k by simp [offT], HM0, KeepS.refl _ _⟩
  case round =>
    obtain ⟨m, x, hmL, rfl, rfl, HX, hMT, hkp⟩ := hrel
    by_cases hlt : m < n
    · have hlt' : Hid (m < T.length) := by have := HN.out; exact show m < T.length by omega
      obtain ⟨g, o, ha, hgw, _, c0, c1, c2, f0⟩ := hMT.out.heads m hlt'.out
      replace c0 := c0 (Nat.le_refl _)
      have HOQ : Hid (OutT wr base (Q m) (T[m]'hlt'.out)) := hMT.out.rest m hlt'.out (Nat.le_refl _)
      have hst := offT_step T m hlt'.out
      have hle := offT_le T (m + 1)
      have hx0 : 0 < x := by have := HX.out; omega
      have hgb : Hid (¬ (Q m).blks (T[m]'hlt'.out) g) := HHD.out m hlt'.out g o ha
      have HST : Hid (∀ w1 w3 w4, Below wr.heap.size wr w1 → KeepS (inBlk (Q m).ca (T[m]'hlt'.out).2.1.length) (w1.setCell ⟨g, o + m * 3, none⟩ (.string (mt x))) w3 → StrsAt w3 (Q m).ca (marksS (x + 1) (T[m]'hlt'.out).2.1.length) → KeepS (rowBlks (T[m]'hlt'.out).2.2 (Q m).A) w3 w4 → HeadsAt w4 (Q m).ra (T[m]'hlt'.out).2.2 (Q m).A (Q m).C → Marked w4 (T[m]'hlt'.out).2.2 (Q m).A (x + 1 + (T[m]'hlt'.out).2.1.length) (T[m]'hlt'.out).2.2.length → MTs w4 base a T Q k (m + 1) ∧ KeepS (tabsBlks a T Q) wr w4) := by
        have e := HX.out
        have : ∀ w1 w3 w4, Below wr.heap.size wr w1 → KeepS (inBlk (Q m).ca (T[m]'hlt'.out).2.1.length) (w1.setCell ⟨g, o + m * 3, none⟩ (.string (mt x))) w3 → StrsAt w3 (Q m).ca (marksS (x + 1) (T[m]'hlt'.out).2.1.length) → KeepS (rowBlks (T[m]'hlt'.out).2.2 (Q m).A) w3 w4 → HeadsAt w4 (Q m).ra (T[m]'hlt'.out).2.2 (Q m).A (Q m).C → Marked w4 (T[m]'hlt'.out).2.2 (Q m).A (x + 1 + (T[m]'hlt'.out).2.1.length) (T[m]'hlt'.out).2.2.length → MTs w4 base a T Q k (m + 1) ∧ KeepS (tabsBlks a T Q) wr w4 := by
          intro w1 w3 w4 hb K1 S1 K2 H2 M2
          subst e
          exact MTs.step hMT.out hlt'.out ha HAP.out (fun i hi => HHD.out i hi g o ha) hb K1 S1 K2 H2 M2
        exact this
      obtain ⟨y, hy⟩ : ∃ y, x + 1 + (T[m]'hlt'.out).2.1.length + 3 * offs (T[m]'hlt'.out).2.2 (T[m]'hlt'.out).2.2.length = y := ⟨_, rfl⟩
      have hyr : y ≤ 1099511627776 ∧ Hid (k + offT T (m + 1) = y) := by
        have e := HX.out
        have e2 : k + offT T (m + 1) = y := by rw [hst]; unfold tabN; omega
        exact ⟨by have := HRR.out; omega, e2⟩
      obtain ⟨hy1, HY⟩ := hyr
      clear hst hle
      generalize (T[m]'hlt'.out) = t at c0 c1 c2 HOQ hgb HST hy
      subst ha
      obtain ⟨nc, hnc⟩ : ∃ z, t.2.1.length = z := ⟨_, rfl⟩
      obtain ⟨nr, hnr⟩ : ∃ z, t.2.2.length = z := ⟨_, rfl⟩
      rw [hnc] at c1
      rw [hnr] at c2
      have HNC : Hid (t.2.1.length = nc) := hnc
      have HNR : Hid (t.2.2.length = nr) := hnr
      have hnrM : nr ≤ maxLen := by rw [← hnr]; exact HOQ.out.lenR
      have HY2 : Hid (x + 1 + nc + 3 * offs t.2.2 t.2.2.length = y) := by rw [hnc] at hy; exact hy
      have hxn : x + 1 + nc ≤ 1099511627776 := by have := HY2.out; omega
      obtain ⟨q, hq⟩ : ∃ q, Q m = q := ⟨_, rfl⟩
      rw [hq] at c1 c2 HOQ hgb HST
      obtain ⟨ca, cc, ra, cr, A, C⟩ := q
      dsimp only at c1 c2 HST
      clear hnc hnr hy hq
      have hi0 : (0 : Int) ≤ (m : Int) := by omega
      have hi1 : (m : Int) < (n : Int) := by omega
      go_wp2_with fail
      refine (text_laws x _ hx0 (by omega)).mono ?_
      rintro e w1 ⟨rfl, hb1⟩
      have d0 : w1.cell? ⟨g, o + m * 3, none⟩ = some (.string t.1) := by rw [hb1.cell (p := ⟨g, _, none⟩) hgw]; exact c0
      have d1 : w1.cell? ⟨g, o + m * 3 + 1, none⟩ = some (.slice ca nc cc) := by rw [hb1.cell (p := ⟨g, _, none⟩) hgw]; exact c1
      have d2 : w1.cell? ⟨g, o + m * 3 + 2, none⟩ = some (.slice ra nr cr) := by rw [hb1.cell (p := ⟨g, _, none⟩) hgw]; exact c2
      have fd : w1.frozen? ⟨g, o + m * 3, none⟩ = false := by rw [hb1.frozen (p := ⟨g, _, none⟩) hgw]; exact f0
      have hgw1 : g < w1.heap.size := Nat.lt_of_lt_of_le hgw hb1.size
      have HB1 : Hid (Below wr.heap.size wr w1) := hb1
      obtain ⟨W, hW⟩ : ∃ W, W = w1.setCell ⟨g, o + m * 3, none⟩ (.string (mt x)) := ⟨_, rfl⟩
      have K0 : KeepS (fun b => b = g) w1 W := by rw [hW]; exact (KeepS.refl (fun b => b = g) w1).setCell (p := ⟨g, o + m * 3, none⟩) rfl _
      have OW : Hid (OutTab W base ca cc ra t A C) := by
        have h1 : OutTab w1 base ca cc ra t A C := OutTab.below HOQ.out hb1
        have : OutTab W base ca cc ra t A C := h1.keepS K0 (fun b hb e => hgb.out (by rw [← e]; exact hb))
        exact this
      have e1 : W.cell? ⟨g, o + m * 3 + 1, none⟩ = some (.slice ca nc cc) := by rw [hW, cell_off _ _ _ _ _ (by omega)]; exact d1
      have e2 : W.cell? ⟨g, o + m * 3 + 2, none⟩ = some (.slice ra nr cr) := by rw [hW, cell_off _ _ _ _ _ (by omega)]; exact d2
      have hgW : g < W.heap.size := Nat.lt_of_lt_of_le hgw1 K0.size
      clear c0 c1 c2 f0 hb1 K0
      obtain ⟨x2, hx2⟩ : ∃ x2, x + 1 + nc = x2 := ⟨_, rfl⟩
      have HX2 : Hid (x + 1 + nc = x2) := hx2
      have HY3 : Hid (x2 + 3 * offs t.2.2 t.2.2.length = y) := by
        have : x2 + 3 * offs t.2.2 t.2.2.length = y := by rw [← hx2]; exact HY2.out
        exact this
      have HSX : Hid (w1.setCell ⟨g, o + m * 3, none⟩ (.string (mt x)) = W) := hW.symm
      clear hx2 HY2
      go_wp2_with fail
      rw [HSX.out]
      refine (markstrI nc ca cc t.2.1 HNC.out (x + 1) x2 _ (by omega) HX2.out _ OW.out.cols OW.out.free (by omega) hxn).mono ?_
      rintro e w3 ⟨rfl, S1, K1⟩
      have e3 : w3.cell? ⟨g, o + m * 3 + 2, none⟩ = some (.slice ra nr cr) := by rw [K1.cell hgW (fun hb => hgb.out (.inl (by rw [HNC.out]; exact hb)))]; exact e2
      have HH : Hid (HeadsAt w3 ra t.2.2 A C) := OW.out.heads.keepN K1 (fun b o h0 e hb => OW.out.colH b (by rw [HNC.out]; exact hb) h0 o e)
      have HMK : Hid (∀ k, Marked w3 t.2.2 A k 0) := by
        have : ∀ k, Marked w3 t.2.2 A k 0 := fun k => (OW.out.un k).keep0 K1 (fun b hb hb2 => OW.out.colR b (by rw [HNC.out]; exact hb2) hb)
        exact this
      have HK1 : Hid (KeepS (inBlk ca nc) W w3) := K1
      have HS1 : Hid (StrsAt w3 ca (marksS (x + 1) nc)) := S1
      clear S1 K1 e1 e2 d0 d1 d2 fd
      go_wp2_with fail
      refine (markssI nr ra cr t.2.2 HNR.out A C x2 y HY3.out _ HH.out (HMK.out _) OW.out.ap (by have := HX2.out; omega) hy1 hnrM).mono ?_
      rintro e w4 ⟨rfl, H2, M2, K2⟩
      have FIN : Hid (MTs w4 base (some ⟨g, o, none⟩) T Q k (m + 1) ∧ KeepS (tabsBlks (some ⟨g, o, none⟩) T Q) w w4) := by
        have h := HST.out w1 w3 w4 HB1.out (by rw [HSX.out, HNC.out]; exact HK1.out) (by rw [HNC.out]; exact HS1.out) K2 H2 (by rw [HNC.out, HX2.out]; exact M2)
        have : MTs w4 base (some ⟨g, o, none⟩) T Q k (m + 1) ∧ KeepS (tabsBlks (some ⟨g, o, none⟩) T Q) w w4 := ⟨h.1, hkp.trans h.2⟩
        exact this
      clear H2 M2 K2 HH HMK HK1 HS1 HST e3
      go_wp2
      go_roundw
      case rel => exact ⟨m + 1, y, by omega, by go_num, rfl, HY, FIN.out.1, FIN.out.2⟩
      case measure => simp [intOf]; omega
    · have hkl : m = n := by omega
      subst hkl
      have hnn : ¬ (m : Int) < (m : Int) := by omega
      have e : x = r := by have := HX.out; have := HRR.out; have := HN.out; subst this; omega
      subst e
      go_wp2
      go_ret
      exact ⟨rfl, by rw [HN.out]; exact hMT.out, hkp⟩
end Go.Proofs.Yteamdmcgkpeelak

/-
  What becomes of a base, without any program: with a table more, without one, with another one in its place.
-/
namespace Go.Proofs.Yteamdmcgkpeelak
open Go.ChangeShapes Go.WideShapes Go.ChangeAt Go.RowKit Go.Maps

theorem baseB_parts {T : List TB} (h : baseB T = true) : (∀ t, t ∈ T → tableB t = true) ∧ risesN (namesT T) = true ∧ T.length ≤ 5 := by
  unfold baseB at h
  simp only [Bool.and_eq_true, decide_eq_true_eq] at h
  exact ⟨fun t ht => List.all_eq_true.1 h.1.1 t ht, h.1.2, h.2⟩
theorem baseB_of {T : List TB} (h1 : ∀ t, t ∈ T → tableB t = true) (h2 : risesN (namesT T) = true) (h3 : T.length ≤ 5) : baseB T = true := by
  unfold baseB
  simp only [Bool.and_eq_true, decide_eq_true_eq]
  exact ⟨⟨List.all_eq_true.2 h1, h2⟩, h3⟩
theorem tableB_small {t : TB} (h : tableB t = true) : Small t := by
  unfold tableB namesB at h
  simp only [Bool.and_eq_true, decide_eq_true_eq] at h
  obtain ⟨⟨_, ⟨_, h2⟩, h3⟩, h4⟩ := h
  have hc : t.2.1.length ≤ 6 := by
    have := h2
    omega
  refine ⟨by omega, by omega, fun i hi => ?_⟩
  have := List.all_eq_true.1 h4 _ (List.getElem_mem hi)
  unfold rowOk at this
  simp only [Bool.and_eq_true, decide_eq_true_eq] at this
  omega
/-- A table in its place among those whose names rise. -/
def insT (T : List TB) (t : TB) : List TB := T.takeWhile (fun u => Op.bytesLess u.1.toList t.1.toList) ++ t :: T.dropWhile (fun u => Op.bytesLess u.1.toList t.1.toList)
theorem insT_perm (T : List TB) (t : TB) : (insT T t).Perm (T ++ [t]) := by
  unfold insT
  have h : T.takeWhile (fun u => Op.bytesLess u.1.toList t.1.toList) ++ T.dropWhile (fun u => Op.bytesLess u.1.toList t.1.toList) = T := List.takeWhile_append_dropWhile
  conv => rhs; rw [← h]
  rw [List.append_assoc]
  exact List.Perm.append_left _ (List.perm_append_singleton t _).symm
theorem insT_length (T : List TB) (t : TB) : (insT T t).length = T.length + 1 := by rw [(insT_perm T t).length_eq]; simp
theorem rises_pair (T : List TB) : risesN (namesT T) = true ↔ T.Pairwise (fun u v => ltN u.1 v.1) := by
  rw [risesN_iff]; exact List.pairwise_map
theorem insT_rises {T : List TB} {t : TB} (h : risesN (namesT T) = true) (hn : t.1 ∉ namesT T) : risesN (namesT (insT T t)) = true := by
  rw [rises_pair] at h ⊢
  have hT := h
  induction T with
  | nil => exact List.pairwise_singleton _ _
  | cons u T ih =>
    obtain ⟨hu, hr⟩ := List.pairwise_cons.1 h
    have hn' : t.1 ∉ namesT T := fun hm => hn (by unfold namesT at hm ⊢; rw [List.map_cons]; exact List.mem_cons_of_mem _ hm)
    have hne : u.1 ≠ t.1 := fun e => hn (by unfold namesT; rw [List.map_cons, e]; exact List.mem_cons_self)
    by_cases hlt : Op.bytesLess u.1.toList t.1.toList = true
    · have e : insT (u :: T) t = u :: insT T t := by unfold insT; rw [List.takeWhile_cons, List.dropWhile_cons, if_pos hlt, if_pos hlt, List.cons_append]
      rw [e]
      refine List.pairwise_cons.2 ⟨fun x hx => ?_, ih hr hn' hr⟩
      rcases List.mem_append.1 ((insT_perm T t).mem_iff.1 hx) with hx | hx
      · exact hu x hx
      · rw [List.mem_singleton] at hx; subst hx; exact hlt
    · have e : insT (u :: T) t = t :: u :: T := by unfold insT; rw [List.takeWhile_cons, List.dropWhile_cons, if_neg hlt, if_neg hlt]; rfl
      rw [e]
      have htu : ltN t.1 u.1 := by
        unfold ltN
        cases hb : Op.bytesLess t.1.toList u.1.toList
        · exact absurd (bl_tri (by simpa using hlt) hb) hne
        · rfl
      refine List.pairwise_cons.2 ⟨fun x hx => ?_, hT⟩
      rcases List.mem_cons.1 hx with rfl | hx
      · exact htu
      · exact bl_trans htu (hu x hx)
/-- Without the table of that name. -/
def dropT (T : List TB) (s : ByteArray) : List TB := T.filter (fun u => decide (u.1 ≠ s))
theorem dropT_names (T : List TB) (s : ByteArray) : namesT (dropT T s) = cutK (namesT T) s := by
  unfold dropT namesT cutK
  rw [List.filter_map]; rfl
theorem dropT_rises {T : List TB} {s : ByteArray} (h : risesN (namesT T) = true) : risesN (namesT (dropT T s)) = true := by
  rw [rises_pair] at h ⊢
  exact h.filter _
/-- With t in the place of the one of its name. -/
def replT (T : List TB) (t : TB) : List TB := T.map (fun u => if u.1 = t.1 then t else u)
theorem replT_names (T : List TB) (t : TB) : namesT (replT T t) = namesT T := by
  unfold replT namesT
  rw [List.map_map]
  refine List.map_congr_left fun u _ => ?_
  show (if u.1 = t.1 then t else u).1 = u.1
  split
  · rename_i e; exact e.symm
  · rfl
theorem replT_length (T : List TB) (t : TB) : (replT T t).length = T.length := List.length_map _

def droppedR (T : List TB) (s : ByteArray) : List TB × Bool := if baseB T = true then (dropT T s, decide (s ∈ namesT T)) else ([], false)
def madeR (T : List TB) (t : TB) : List TB × Bool := if baseB T = true then (if t.1 ∉ namesT T ∧ T.length ≠ 5 ∧ tableB t = true then (insT T t, true) else (T, false)) else ([], false)
def replacedR (T : List TB) (t : TB) : List TB × Bool := if baseB T = true then (if t.1 ∈ namesT T ∧ tableB t = true then (replT T t, true) else (T, false)) else ([], false)
theorem ShelfT.added {w0 w w' : World} {B n : Nat} {U : List TB} {t : TB} {ca : Option Addr} {cc : Nat} {ra : Option Addr} {cr : Nat} {f : ByteArray → Value} {D : DataW Value} (hown : w.ownsMap Try.prog 9 tokR B n D) (hS : Says D (namesT U) f) (hH : ∀ u, u ∈ U → HoldsT w0 f u) (hn : t.1 ∉ namesT U) (ht : TabAt w0 ca cc ra t)
    (hown' : w'.ownsMap Try.prog 9 tokR B (n + 1) (D.put (keyL t.1) (.held (.agg #[.string t.1, .slice ca t.2.1.length cc, .slice ra t.2.2.length cr])))) : ShelfT w0 w' B (n + 1) (U ++ [t]) := by
  have hS' := hS.put hown.isMap t.1 (.agg #[.string t.1, .slice ca t.2.1.length cc, .slice ra t.2.2.length cr])
  rw [show putK (namesT U) t.1 = namesT (U ++ [t]) by rw [namesT_snoc]; exact if_neg hn] at hS'
  refine ⟨hS'.nodup, _, ⟨_, hown', hS'⟩, fun u hu => ?_⟩
  rcases List.mem_append.1 hu with hu | hu
  · have hne : u.1 ≠ t.1 := fun e => hn (by rw [← e]; exact List.mem_map_of_mem hu)
    obtain ⟨a1, a2, a3, a4, e, h⟩ := hH u hu
    exact ⟨a1, a2, a3, a4, by unfold putF; rw [if_neg hne]; exact e, h⟩
  · rw [List.mem_singleton] at hu
    subst hu
    exact ⟨ca, cc, ra, cr, by unfold putF; rw [if_pos rfl], ht⟩
theorem ShelfT.swapped {w0 w w' : World} {B n : Nat} {U : List TB} {t : TB} {ca : Option Addr} {cc : Nat} {ra : Option Addr} {cr : Nat} {f : ByteArray → Value} {D : DataW Value} (hown : w.ownsMap Try.prog 9 tokR B n D) (hS : Says D (namesT U) f) (hH : ∀ u, u ∈ U → HoldsT w0 f u) (hn : t.1 ∈ namesT U) (ht : TabAt w0 ca cc ra t)
    (hown' : w'.ownsMap Try.prog 9 tokR B (n + 1) (D.put (keyL t.1) (.held (.agg #[.string t.1, .slice ca t.2.1.length cc, .slice ra t.2.2.length cr])))) : ShelfT w0 w' B (n + 1) (replT U t) := by
  have hS' := hS.put hown.isMap t.1 (.agg #[.string t.1, .slice ca t.2.1.length cc, .slice ra t.2.2.length cr])
  rw [show putK (namesT U) t.1 = namesT (replT U t) by rw [replT_names]; exact if_pos hn] at hS'
  refine ⟨hS'.nodup, _, ⟨_, hown', hS'⟩, fun u hu => ?_⟩
  unfold replT at hu
  obtain ⟨x, hx, e⟩ := List.mem_map.1 hu
  split at e
  · subst e
    exact ⟨ca, cc, ra, cr, by unfold putF; rw [if_pos rfl], ht⟩
  · rename_i hne
    subst e
    obtain ⟨a1, a2, a3, a4, e, h⟩ := hH x hx
    exact ⟨a1, a2, a3, a4, by unfold putF; rw [if_neg hne]; exact e, h⟩
theorem ShelfT.cut {w0 w' : World} {B n : Nat} {U : List TB} {s : ByteArray} {f : ByteArray → Value} {D : DataW Value} (hS : Says D (namesT U) f) (hH : ∀ u, u ∈ U → HoldsT w0 f u)
    (hown' : w'.ownsMap Try.prog 9 tokR B n (D.del (keyL s))) : ShelfT w0 w' B n (dropT U s) := by
  have hS' := hS.del s
  rw [← dropT_names] at hS'
  exact ⟨hS'.nodup, f, ⟨_, hown', hS'⟩, fun u hu => hH u (List.mem_filter.1 hu).1⟩
end Go.Proofs.Yteamdmcgkpeelak
