/-
  A part of the proof: TabDraw2.
-/
import Derived.Test.YthgbjnchhaoceaaGreatDoorMore4

/-
  The contract of the model's draw of a table.
-/
namespace Go.Proofs.YthgbjnchhaoceaaGreatDoor
open Go.ChangeShapes Go.WideShapes Go.ChangeAt Go.RowKit
attribute [local go_sem ↓] Go.wp_at_zero Go.wp_at_succ
attribute [local simp] World.cell?_alloc_past World.cell?_alloc_at World.frozen?_alloc_at cell_far cell_off cell_here World.frozen?_alloc_past

/-- The sizes of what was drawn. -/
structure Sizes (C : List ByteArray) (L : List (List CT)) (nC nL : Nat) : Prop where
  cl : C.length ≤ nC
  cf : FitS C
  rl : L.length ≤ nL
  rf : ∀ i (hi : i < L.length), Fit L[i]
  rn : ∀ i (hi : i < L.length), L[i].length ≤ 1000
theorem Sizes.addCol {C : List ByteArray} {L : List (List CT)} {nC nL : Nat} (h : Sizes C L nC nL) {s : ByteArray} (hs : s.size ≤ maxLen) : Sizes (C ++ [s]) L (nC + 1) nL := by
  refine ⟨by have := h.cl; simp; omega, ?_, h.rl, h.rf, h.rn⟩
  intro j hj
  by_cases hl : j < C.length
  · rw [List.getElem_append_left hl]; exact h.cf j hl
  · have : j = C.length := by simp at hj; omega
    subst this
    rw [List.getElem_append_right (Nat.le_refl _)]; simpa using hs
theorem Sizes.addRow {C : List ByteArray} {L : List (List CT)} {nC nL : Nat} (h : Sizes C L nC nL) {r : List CT} (hf : Fit r) (hn : r.length ≤ 1000) : Sizes C (L ++ [r]) nC (nL + 1) :=
  ⟨h.cl, h.cf, by have := h.rl; simp; omega, append_each (P := fun l => Fit l) h.rf hf, append_each (P := fun l => l.length ≤ 1000) h.rn hn⟩
/-- The answer of a table's draw. -/
def DrawnT (w : World) (c : Nat) (a : Option Addr) (len cap : Nat) (nC nL : Nat) (e : Ending) (w' : World) : Prop :=
  ∃ (nm : ByteArray) (vc vr : Value) (C : List ByteArray) (L : List (List CT)), e = .returned (.agg #[.string nm, vc, vr]) ∧ nm.size ≤ 7 ∧ Sizes C L nC nL ∧ w'.ownsRow w.heap.size 9 1 vc C.length (strV C) ∧ (∃ G D, OwnRows w' w.heap.size vr L G D) ∧ Cur w' c a len cap ∧ Keep c w w'

/-- The same, with a column at least, and short names. -/
def DrawnT1 (w : World) (c : Nat) (a : Option Addr) (len cap : Nat) (nC nL : Nat) (e : Ending) (w' : World) : Prop :=
  ∃ (nm : ByteArray) (vc vr : Value) (C : List ByteArray) (L : List (List CT)), 0 < C.length ∧ (∀ x ∈ C, x.size ≤ 7) ∧ e = .returned (.agg #[.string nm, vc, vr]) ∧ nm.size ≤ 7 ∧ Sizes C L nC nL ∧ w'.ownsRow w.heap.size 9 1 vc C.length (strV C) ∧ (∃ G D, OwnRows w' w.heap.size vr L G D) ∧ Cur w' c a len cap ∧ Keep c w w'
theorem DrawnT1.any {w : World} {c : Nat} {a : Option Addr} {len cap nC nL : Nat} {e : Ending} {w' : World} (h : DrawnT1 w c a len cap nC nL e w') : DrawnT w c a len cap nC nL e w' := by
  obtain ⟨nm, vc, vr, C, L, _, _, h⟩ := h
  exact ⟨nm, vc, vr, C, L, h⟩
theorem addPos {C : List ByteArray} {s : ByteArray} {f m : Nat} (h : ∀ x ∈ C, x.size ≤ 7) (hs : s.size ≤ 7) : Hid (((C ++ [s]).length = 0 → 1 ≤ m ∧ f ≤ 1) ∧ ∀ x ∈ C ++ [s], x.size ≤ 7) := by
  have : ((C ++ [s]).length = 0 → 1 ≤ m ∧ f ≤ 1) ∧ ∀ x ∈ C ++ [s], x.size ≤ 7 := by
    refine ⟨fun e => by simp at e, fun x hx => ?_⟩
    rcases List.mem_append.1 hx with hx | hx
    · exact h x hx
    · simp at hx; subst hx; exact hs
  exact this
theorem pos_of {C : List ByteArray} {f m : Nat} (h : (C.length = 0 → 1 ≤ m ∧ f ≤ 1) ∧ ∀ x ∈ C, x.size ≤ 7) (hm : ¬ (1 ≤ m ∧ f ≤ 1)) : 0 < C.length ∧ ∀ x ∈ C, x.size ≤ 7 := by
  refine ⟨?_, h.2⟩
  rcases Nat.eq_zero_or_pos C.length with h0 | h0
  · exact absurd (h.1 h0) hm
  · exact h0

/-- Four short texts in a block. -/
def Pool (w : World) (P : Nat) : Prop := P < w.heap.size ∧ ∀ j, j < 4 → ∃ s : ByteArray, s.size ≤ 7 ∧ w.cell? ⟨P, j, none⟩ = some (.string s)
theorem Pool.of {w w' : World} {P : Nat} (h : Pool w P) (hs : w.heap.size ≤ w'.heap.size) (e : w'.heap[P]? = w.heap[P]?) : Pool w' P :=
  ⟨Nat.lt_of_lt_of_le h.1 hs, fun j hj => by obtain ⟨s, h1, h2⟩ := h.2 j hj; exact ⟨s, h1, by rw [World.cell?_of_block (a := ⟨P, j, none⟩) e]; exact h2⟩⟩
/-- All that stands while a table is drawn: the result's block, the table's, the texts, the cursor. -/
structure SD (w0 w : World) (c : Nat) (a : Option Addr) (len cap : Nat) (nm : ByteArray) (vc vr : Value) (C : List ByteArray) (L : List (List CT)) : Prop where
  td : TD w (w0.heap.size + 3) (w0.heap.size + 1) nm vc vr C L
  rb : TBox w w0.heap.size (.string ⟨#[]⟩) (.slice none 0 0) (.slice none 0 0)
  pool : Pool w (w0.heap.size + 2)
  cur : Cur w c a len cap
  kp : Keep c w0 w
theorem SD.keep {w0 w w' : World} {c : Nat} {a : Option Addr} {len cap : Nat} {nm : ByteArray} {vc vr : Value} {C : List ByteArray} {L : List (List CT)} (h : SD w0 w c a len cap nm vc vr C L) (hc : c < w0.heap.size) (hk : Keep c w w') (hcu : Cur w' c a len cap) : SD w0 w' c a len cap nm vc vr C L :=
  ⟨h.td.keep hk (by omega) (by omega), h.rb.keep hk (by omega), h.pool.of hk.size (hk.block _ h.pool.1 (by omega)), hcu, h.kp.trans hk⟩
theorem SD.alloc {w0 w : World} {c : Nat} {a : Option Addr} {len cap : Nat} {nm : ByteArray} {vc vr : Value} {C : List ByteArray} {L : List (List CT)} (h : SD w0 w c a len cap nm vc vr C L) (hc : c < w0.heap.size) (o : Obj) : SD w0 (w.alloc o) c a len cap nm vc vr C L :=
  h.keep hc ((Keep.refl c w).alloc o) (h.cur.alloc o)
theorem SD.drew {w0 w : World} {c : Nat} {a : Option Addr} {len cap : Nat} {nm : ByteArray} {vc vr : Value} {C : List ByteArray} {L : List (List CT)} (h : SD w0 w c a len cap nm vc vr C L) (hc : c < w0.heap.size) : SD w0 w.drew c a len cap nm vc vr C L :=
  h.keep hc (Keep.refl c w).drew h.cur.drew
theorem SD.addCol {w0 w w2 : World} {c : Nat} {a : Option Addr} {len cap : Nat} {nm : ByteArray} {vc vr v' : Value} {C : List ByteArray} {L : List (List CT)} {s : ByteArray} (h : SD w0 w c a len cap nm vc vr C L) (hc : c < w0.heap.size) (own : w2.ownsRow (w0.heap.size + 3) 9 1 v' (C.length + 1) (strV C ++ [.string s])) (hg : w.grownBy w2 vc.ownBlock) :
    SD w0 (w2.setCell ⟨w0.heap.size + 1, 1, none⟩ v') c a len cap nm v' vr (C ++ [s]) L := by
  have hb0 : Below (w0.heap.size + 1) w w2 := (Below.refl _ w).grown hg (by have := h.td.box.lt; omega) (fun k hk => by have := (h.td.cols.lt k hk).1; omega)
  have hb : Below (w0.heap.size + 1) w (w2.setCell ⟨w0.heap.size + 1, 1, none⟩ v') := hb0.setCell (p := ⟨w0.heap.size + 1, 1, none⟩) (Nat.le_refl _) _
  have hne : vc.ownBlock ≠ some (w0.heap.size + 2) := fun e => by have := (h.td.cols.lt _ e).1; omega
  have hp : (w2.setCell ⟨w0.heap.size + 1, 1, none⟩ v').heap[w0.heap.size + 2]? = w.heap[w0.heap.size + 2]? := by
    rw [heap_setCell_other w2 ⟨w0.heap.size + 1, 1, none⟩ (w0.heap.size + 2) v' (by show w0.heap.size + 2 ≠ w0.heap.size + 1; omega), hg.block _ h.pool.1 (fun e => hne e.symm)]
  exact ⟨h.td.addCol own hg, h.rb.of (hb.block _ (by omega)), h.pool.of hb.size hp, h.cur.far hb (by omega), h.kp.far hb (by omega)⟩
theorem SD.addRow {w0 w w2 : World} {c : Nat} {a : Option Addr} {len cap : Nat} {nm : ByteArray} {vc vr v' : Value} {C : List ByteArray} {L : List (List CT)} {x : List CT} {g k : Nat} {o : Obj} {G D : Nat → Nat} (h : SD w0 w c a len cap nm vc vr C L) (hc : c < w0.heap.size) (O : OwnRows w (w0.heap.size + 3) vr L G D) (hgx : ∀ i, i < L.length → G i ≠ g)
    (ownx : w.ownsRow (w0.heap.size + 3) 30 3 (.slice (some ⟨g, 0, none⟩) x.length k) x.length (flat x))
    (own : w2.ownsRow (w0.heap.size + 3) 26 1 v' (L.length + 1) ((List.range L.length).map (headOf G D L) ++ [.slice (some ⟨g, 0, none⟩) x.length k])) (hg : (w.alloc o).grownBy w2 vr.ownBlock) :
    SD w0 (w2.setCell ⟨w0.heap.size + 1, 2, none⟩ v') c a len cap nm vc v' C (L ++ [x]) := by
  have ha := h.alloc hc o
  have hb0 : Below (w0.heap.size + 1) w w2 := ((Below.refl _ w).alloc (by have := h.td.box.lt; omega) o).grown hg (by have := ha.td.box.lt; omega) (fun k hk => by have := (O.outer.lt k hk).1; omega)
  have hb : Below (w0.heap.size + 1) w (w2.setCell ⟨w0.heap.size + 1, 2, none⟩ v') := hb0.setCell (p := ⟨w0.heap.size + 1, 2, none⟩) (Nat.le_refl _) _
  have hne : vr.ownBlock ≠ some (w0.heap.size + 2) := fun e => by have := (O.outer.lt _ e).1; omega
  have hp : (w2.setCell ⟨w0.heap.size + 1, 2, none⟩ v').heap[w0.heap.size + 2]? = (w.alloc o).heap[w0.heap.size + 2]? := by
    rw [heap_setCell_other w2 ⟨w0.heap.size + 1, 2, none⟩ (w0.heap.size + 2) v' (by show w0.heap.size + 2 ≠ w0.heap.size + 1; omega), hg.block _ ha.pool.1 (fun e => hne e.symm)]
  refine ⟨h.td.addRow O hgx ownx own hg, h.rb.of (hb.block _ (by omega)), ha.pool.of ?_ hp, h.cur.far hb (by omega), h.kp.far hb (by omega)⟩
  have := hg.size
  simpa using this

theorem infoStrD : (Tryz.prog.info? 9).map (fun i => (i.zero, i.size, i.bytes)) = some (some (.string ⟨#[]⟩), 1, 16) := by kernel_rfl
theorem infoCelD : (Tryz.prog.info? 30).map (fun i => (i.zero, i.size, i.bytes)) = some (some (.agg #[.int .i64 0, .int .i64 0, .string ⟨#[]⟩]), 3, 32) := by kernel_rfl
theorem infoRwD : (Tryz.prog.info? 26).map (fun i => (i.zero, i.size, i.bytes)) = some (some (.slice none 0 0), 1, 24) := by kernel_rfl

set_option maxRecDepth 100000 in
set_option maxHeartbeats 4000000 in
theorem tab_draw1 {w : World} {c : Nat} {a : Option Addr} {len cap : Nat} (h : Cur w c a len cap) (nm : ByteArray) (hnm : nm.size ≤ 7) :
    Calls Tryz.prog 64 #[.pointer (some ⟨c, 0, none⟩), .string nm] w fun e w' => DrawnT1 w c a len cap 4 8 e w' := by
  obtain ⟨iS, hiS, hs0, hs1, hs2⟩ := info_parts infoStrD
  obtain ⟨iC, hiC, hc0, hc1, hc2⟩ := info_parts infoCelD
  obtain ⟨iR, hiR, hr0, hr1, hr2⟩ := info_parts infoRwD
  have hcw := h.lt
  have HC : Hid (Cur w c a len cap) := h
  clear h
  go_enter Tryz.func64, Tryz.ntmps64
  go_wp2_with fail
  obtain ⟨W, hW⟩ : ∃ W, W = (((w.alloc (.cells #[.string ⟨#[]⟩, .slice none 0 0, .slice none 0 0] 90)).alloc (.cells #[.string nm, .slice none 0 0, .slice none 0 0] 90)).alloc (.cells #[.string ⟨#[97]⟩, .string ⟨#[98]⟩, .string ⟨#[99]⟩, .string ⟨#[100]⟩] 9)) := ⟨_, rfl⟩
  rw [← hW]
  have S0 : Hid (SD w W c a len cap nm (.slice none 0 0) (.slice none 0 0) [] []) := by
    have : SD w W c a len cap nm (.slice none 0 0) (.slice none 0 0) [] [] := by
      rw [hW]
      refine ⟨⟨?_, ⟨rfl, .inl ⟨rfl, rfl⟩⟩, fun _ => 0, fun _ => 0, ⟨rfl, .inl ⟨rfl, rfl⟩⟩, fun i hi => by simp at hi, fun i j hi => by simp at hi⟩, ?_, ?_, ((HC.out.alloc _).alloc _).alloc _, (((Keep.refl c w).alloc _).alloc _).alloc _⟩
      · have := (TBox.new (w.alloc (.cells #[.string ⟨#[]⟩, .slice none 0 0, .slice none 0 0] 90)) (.string nm) (.slice none 0 0) (.slice none 0 0)).alloc (.cells #[.string ⟨#[97]⟩, .string ⟨#[98]⟩, .string ⟨#[99]⟩, .string ⟨#[100]⟩] 9)
        simpa using this
      · exact ((TBox.new w _ _ _).alloc _).alloc _
      · refine ⟨by simp, fun j hj => ?_⟩
        rcases (by omega : j = 0 ∨ j = 1 ∨ j = 2 ∨ j = 3) with rfl | rfl | rfl | rfl
        · exact ⟨⟨#[97]⟩, by decide, by simp⟩
        · exact ⟨⟨#[98]⟩, by decide, by simp⟩
        · exact ⟨⟨#[99]⟩, by decide, by simp⟩
        · exact ⟨⟨#[100]⟩, by decide, by simp⟩
    exact this
  clear hW HC
  refine (below_draw S0.out.cur 2 (by omega) (by omega)).mono ?_
  rintro e w1 ⟨x, rfl, hx0, hx1, hc1', hk1⟩
  obtain ⟨x, rfl⟩ := Int.eq_ofNat_of_zero_le hx0
  have S1 : Hid (SD w w1 c a len cap nm (.slice none 0 0) (.slice none 0 0) [] []) := S0.out.keep hcw hk1 hc1'
  clear hc1' hk1 S0
  go_wp2_with fail
  refine (below_draw S1.out.cur 3 (by omega) (by omega)).mono ?_
  rintro e w2 ⟨y, rfl, hy0, hy1, hc2', hk2⟩
  obtain ⟨y, rfl⟩ := Int.eq_ofNat_of_zero_le hy0
  have S2 : Hid (SD w w2 c a len cap nm (.slice none 0 0) (.slice none 0 0) [] []) := S1.out.keep hcw hk2 hc2'
  clear hc2' hk2 S1
  go_wp2_with fail
  go_loopw [7, 8] (fun fr nn wr => ∃ (f m : Nat) (vc : Value) (C : List ByteArray), fr = .int .i64 f ∧ nn = .int .i64 m ∧ C.length + m ≤ 3 ∧ f ≤ 4 ∧ Hid ((C.length = 0 → 1 ≤ m ∧ f ≤ 1) ∧ ∀ x ∈ C, x.size ≤ 7) ∧ Hid (SD w wr c a len cap nm vc (.slice none 0 0) C [] ∧ Sizes C [] 3 0)) (fun _ nn _ => (intOf nn).toNat)
  case atStart => exact ⟨x, 1 + y, .slice none 0 0, [], rfl, by simp, by simp; omega, by omega, ⟨fun _ => ⟨by omega, by omega⟩, fun x hx => by simp at hx⟩, S2.out, ⟨by simp, fun j hj => by simp at hj, by simp, fun i hi => by simp at hi, fun i hi => by simp at hi⟩⟩
  case round =>
    obtain ⟨f, m, vc, C, rfl, rfl, hCm, hf4, hPos, hP⟩ := hrel
    clear S2
    have SR : Hid (SD w wr c a len cap nm vc (.slice none 0 0) C []) := hP.out.1
    have SZ : Hid (Sizes C [] 3 0) := hP.out.2
    clear hP
    by_cases hgo : 0 < m ∧ f < 4
    · obtain ⟨hm0, hf⟩ := hgo
      obtain ⟨j, rfl⟩ : ∃ j, m = j + 1 := ⟨m - 1, by omega⟩
      have q3 : (0 : Int) < ((j + 1 : Nat) : Int) := by omega
      have q4 : ((j + 1 : Nat) : Int) - 1 = (j : Int) := by omega
      have q5 : (f : Int) < 4 := by omega
      have q6 : (0 : Int) ≤ (f : Int) := by omega
      obtain ⟨s, hs7, hps⟩ := SR.out.pool.2 f hf
      have hPl := SR.out.pool.1
      obtain ⟨b0, b1, b2⟩ := SR.out.td.box.cells
      obtain ⟨g0, g1, g2⟩ := SR.out.td.box.free
      have hBl := SR.out.td.box.lt
      go_wp2_with fail
      refine wp_region_held_drew (S := (fun w' => w'.cell? ⟨w.heap.size + 1 + 1, f, none⟩ = some (.string s))) (by kernel_rfl) ?_ (fun hHeld => ?_)
      · exact hps
      refine wpAnyH_take (i := 0) (by simp only [List.getElem?_toArray, List.getElem?_cons_zero]; rfl) (by kernel_rfl) (by kernel_rfl) (by kernel_rfl) (by intro _ _ _ h; exact h) (Or.inl ⟨by rfl, fun w hSw => by (dsimp only at hSw; go_simp; (try with_reducible rfl))⟩) (by assumption) ?_
      simp only [Act.put, List.setIfInBounds_toArray, List.set_cons_zero, List.set_cons_succ]
      refine wpAnyH_take (i := 2) (by simp only [List.getElem?_toArray, List.getElem?_cons_zero, List.getElem?_cons_succ]; rfl) (by kernel_rfl) (by kernel_rfl) (by kernel_rfl) (by intro _ _ _ h; exact h) (Or.inl ⟨by rfl, fun w hSw => by (dsimp only at hSw; go_simp; (try with_reducible rfl))⟩) (by assumption) ?_
      simp only [Act.put, List.setIfInBounds_toArray, List.set_cons_zero, List.set_cons_succ]
      refine wpAnyH_take (i := 3) (by simp only [List.getElem?_toArray, List.getElem?_cons_zero, List.getElem?_cons_succ]; rfl) (by kernel_rfl) (by kernel_rfl) (by kernel_rfl) (by intro _ _ _ h; exact h) (Or.inl ⟨by rfl, fun w hSw => by (dsimp only at hSw; go_simp; (try with_reducible rfl))⟩) (by assumption) ?_
      simp only [Act.put, List.setIfInBounds_toArray, List.set_cons_zero, List.set_cons_succ]
      refine wpAnyH_take (i := 4) (by simp only [List.getElem?_toArray, List.getElem?_cons_zero, List.getElem?_cons_succ]; rfl) (by kernel_rfl) (by kernel_rfl) (by kernel_rfl) (by intro _ _ _ h; exact h) (Or.inl ⟨by rfl, fun w hSw => by (dsimp only at hSw; go_simp; (try with_reducible rfl))⟩) (by assumption) ?_
      simp only [Act.put, List.setIfInBounds_toArray, List.set_cons_zero, List.set_cons_succ]
      refine wpAnyH_take (i := 5) (by simp only [List.getElem?_toArray, List.getElem?_cons_zero, List.getElem?_cons_succ]; rfl) (by kernel_rfl) (by kernel_rfl) (by kernel_rfl) (by intro _ _ _ h; exact h) (Or.inl ⟨by rfl, fun w hSw => by (dsimp only at hSw; go_simp; (try with_reducible rfl))⟩) (by assumption) ?_
      simp only [Act.put, List.setIfInBounds_toArray, List.set_cons_zero, List.set_cons_succ]
      refine wpAnyH_ready (rs := [1, 6]) (by kernel_rfl) (by simp) ?_
      refine AllReadyH.cons (by simp only [List.getElem?_toArray, List.getElem?_cons_zero, List.getElem?_cons_succ]; rfl) ?_ (AllReadyH.cons (by simp only [List.getElem?_toArray, List.getElem?_cons_zero, List.getElem?_cons_succ]; rfl) ?_ AllReadyH.nil)
      · intro K hK
        go_simp
        refine hK.out _ _ hps (fun hHeld => ?_)
        clear hK K
        try simp only [Act.put, List.setIfInBounds_toArray, List.set_cons_zero, List.set_cons_succ]
        refine wpAnyH_ready (rs := [6]) (by kernel_rfl) (by simp) ?_
        refine AllReadyH.cons (by simp only [List.getElem?_toArray, List.getElem?_cons_zero, List.getElem?_cons_succ]; rfl) ?_ AllReadyH.nil
        intro K hK
        go_simp
        refine hK.out _ _ ?_ (fun hHeld => ?_)
        · (((try dsimp only); (repeat' apply And.intro) <;> first | (go_keep; done) | (simp (disch := first | omega | (simp <;> omega) | fail) [*]; done) | fail))
        clear hK K
        try simp only [Act.put, List.setIfInBounds_toArray, List.set_cons_zero, List.set_cons_succ]
        have SX : Hid (SD w (wr.alloc (.cells #[.string s] 9)).drew c a len cap nm vc (.slice none 0 0) C []) := (SR.out.alloc hcw _).drew hcw
        refine wpAnyH_ready (rs := [7]) (by kernel_rfl) (by simp) ?_
        refine AllReadyH.cons (by simp only [List.getElem?_toArray, List.getElem?_cons_zero, List.getElem?_cons_succ]; rfl) ?_ AllReadyH.nil
        intro K hK
        rw [if_pos (by rfl)]
        refine wp_append_own _ _ _ 25 rfl (w.heap.size + 3) 9 iS (.string ⟨#[]⟩) 1 16 Tryz.underlying25 hiS hs0 hs1 hs2 rfl (by decide) vc C.length (strV C) rfl SX.out.td.cols ⟨wr.heap.size, 0, none⟩ 1 1 [.string s] rfl rfl ?_ ?_ ?_ ?_ ?_ ?_
        · intro j u hj
          match j, hj with
          | 0, hj => simp at hj; subst hj; simp [Addr.add]
        · intro u hu; simp at hu; subst hu; rfl
        · unfold maxLen; omega
        · omega
        · simp; omega
        intro v' w4 own4 hgrow hnn
        obtain ⟨a', k', rfl⟩ : ∃ a' k', v' = .slice a' (C.length + 1) k' := by
          rcases own4.2 with ⟨_, h0⟩ | ⟨g, k, cur, h', _⟩
          · omega
          · exact ⟨_, _, h'⟩
        have bx := SX.out.td.box.grown hgrow (SX.out.td.box.notOwn SX.out.td.cols (by decide))
        obtain ⟨d0, d1, d2⟩ := bx.cells
        obtain ⟨e0, e1, e2⟩ := bx.free
        have hne : vc.ownBlock ≠ some (w.heap.size + 2) := fun e => by have := (SX.out.td.cols.lt _ e).1; omega
        have ps4 : w4.cell? ⟨w.heap.size + 1 + 1, f, none⟩ = some (.string s) := by
          have hz : (wr.alloc (.cells #[.string s] 9)).drew.cell? ⟨w.heap.size + 1 + 1, f, none⟩ = some (.string s) := by simpa using hHeld
          rw [World.cell?_of_block (a := ⟨w.heap.size + 1 + 1, f, none⟩) (hgrow.block (w.heap.size + 2) SX.out.pool.1 (fun e => hne e.symm))]; exact hz
        have S5 : Hid (SD w (w4.setCell ⟨w.heap.size + 1, 1, none⟩ (.slice a' (C.length + 1) k')) c a len cap nm (.slice a' (C.length + 1) k') (.slice none 0 0) (C ++ [s]) []) := SX.out.addCol hcw own4 hgrow
        have Z5 : Hid (Sizes (C ++ [s]) [] 3 0) := by
          have h1 := SZ.out.addCol (s := s) (by unfold maxLen; omega)
          have : Sizes (C ++ [s]) [] 3 0 := ⟨by simp; omega, h1.cf, h1.rl, h1.rf, h1.rn⟩
          exact this
        refine hK.out _ _ ps4 (fun hHeld => ?_)
        clear hK K own4 hgrow hnn bx
        try simp only [Act.put, List.setIfInBounds_toArray, List.set_cons_zero, List.set_cons_succ]
        refine wpAnyH_take (i := 8) (by simp only [List.getElem?_toArray, List.getElem?_cons_zero, List.getElem?_cons_succ]; rfl) (by kernel_rfl) (by kernel_rfl) (by kernel_rfl) (by intro _ _ _ h; exact h) (Or.inl ⟨by rfl, fun w hSw => by (dsimp only at hSw; go_simp; (try with_reducible rfl))⟩) (by assumption) ?_
        simp only [Act.put, List.setIfInBounds_toArray, List.set_cons_zero, List.set_cons_succ]
        refine wpAnyH_ready (rs := [9]) (by kernel_rfl) (by simp) ?_
        refine AllReadyH.cons (by simp only [List.getElem?_toArray, List.getElem?_cons_zero, List.getElem?_cons_succ]; rfl) ?_ AllReadyH.nil
        intro K hK
        go_simp
        refine hK.out _ _ ?_ (fun hHeld => ?_)
        · try dsimp only
          rw [cell_far _ _ _ _ _ _ (by omega)]; exact ps4
        clear hK K
        try simp only [Act.put, List.setIfInBounds_toArray, List.set_cons_zero, List.set_cons_succ]
        refine wpAnyH_done (by kernel_rfl) ?_ _
        go_wp2
        go_roundw
        case rel => exact ⟨f + 1, j, _, C ++ [s], by go_num, by go_num, by simp; omega, by omega, addPos hPos.out.2 hs7, S5.out, Z5.out⟩
        case measure => simp [intOf]
      · intro K hK
        go_simp
        refine hK.out _ _ ?_ (fun hHeld => ?_)
        · (((try dsimp only); (repeat' apply And.intro) <;> first | (go_keep; done) | (simp (disch := first | omega | (simp <;> omega) | fail) [*]; done) | fail))
        clear hK K
        try simp only [Act.put, List.setIfInBounds_toArray, List.set_cons_zero, List.set_cons_succ]
        refine wpAnyH_ready (rs := [1]) (by kernel_rfl) (by simp) ?_
        refine AllReadyH.cons (by simp only [List.getElem?_toArray, List.getElem?_cons_zero, List.getElem?_cons_succ]; rfl) ?_ AllReadyH.nil
        intro K hK
        go_simp
        refine hK.out _ _ ?_ (fun hHeld => ?_)
        · (((try dsimp only); (repeat' apply And.intro) <;> first | (go_keep; done) | (simp (disch := first | omega | (simp <;> omega) | fail) [*]; done) | fail))
        clear hK K
        try simp only [Act.put, List.setIfInBounds_toArray, List.set_cons_zero, List.set_cons_succ]
        have SX : Hid (SD w (wr.alloc (.cells #[.string s] 9)).drew c a len cap nm vc (.slice none 0 0) C []) := (SR.out.alloc hcw _).drew hcw
        refine wpAnyH_ready (rs := [7]) (by kernel_rfl) (by simp) ?_
        refine AllReadyH.cons (by simp only [List.getElem?_toArray, List.getElem?_cons_zero, List.getElem?_cons_succ]; rfl) ?_ AllReadyH.nil
        intro K hK
        rw [if_pos (by rfl)]
        refine wp_append_own _ _ _ 25 rfl (w.heap.size + 3) 9 iS (.string ⟨#[]⟩) 1 16 Tryz.underlying25 hiS hs0 hs1 hs2 rfl (by decide) vc C.length (strV C) rfl SX.out.td.cols ⟨wr.heap.size, 0, none⟩ 1 1 [.string s] rfl rfl ?_ ?_ ?_ ?_ ?_ ?_
        · intro j u hj
          match j, hj with
          | 0, hj => simp at hj; subst hj; simp [Addr.add]
        · intro u hu; simp at hu; subst hu; rfl
        · unfold maxLen; omega
        · omega
        · simp; omega
        intro v' w4 own4 hgrow hnn
        obtain ⟨a', k', rfl⟩ : ∃ a' k', v' = .slice a' (C.length + 1) k' := by
          rcases own4.2 with ⟨_, h0⟩ | ⟨g, k, cur, h', _⟩
          · omega
          · exact ⟨_, _, h'⟩
        have bx := SX.out.td.box.grown hgrow (SX.out.td.box.notOwn SX.out.td.cols (by decide))
        obtain ⟨d0, d1, d2⟩ := bx.cells
        obtain ⟨e0, e1, e2⟩ := bx.free
        have hne : vc.ownBlock ≠ some (w.heap.size + 2) := fun e => by have := (SX.out.td.cols.lt _ e).1; omega
        have ps4 : w4.cell? ⟨w.heap.size + 1 + 1, f, none⟩ = some (.string s) := by
          have hz : (wr.alloc (.cells #[.string s] 9)).drew.cell? ⟨w.heap.size + 1 + 1, f, none⟩ = some (.string s) := by simpa using hHeld
          rw [World.cell?_of_block (a := ⟨w.heap.size + 1 + 1, f, none⟩) (hgrow.block (w.heap.size + 2) SX.out.pool.1 (fun e => hne e.symm))]; exact hz
        have S5 : Hid (SD w (w4.setCell ⟨w.heap.size + 1, 1, none⟩ (.slice a' (C.length + 1) k')) c a len cap nm (.slice a' (C.length + 1) k') (.slice none 0 0) (C ++ [s]) []) := SX.out.addCol hcw own4 hgrow
        have Z5 : Hid (Sizes (C ++ [s]) [] 3 0) := by
          have h1 := SZ.out.addCol (s := s) (by unfold maxLen; omega)
          have : Sizes (C ++ [s]) [] 3 0 := ⟨by simp; omega, h1.cf, h1.rl, h1.rf, h1.rn⟩
          exact this
        refine hK.out _ _ ps4 (fun hHeld => ?_)
        clear hK K own4 hgrow hnn bx
        try simp only [Act.put, List.setIfInBounds_toArray, List.set_cons_zero, List.set_cons_succ]
        refine wpAnyH_take (i := 8) (by simp only [List.getElem?_toArray, List.getElem?_cons_zero, List.getElem?_cons_succ]; rfl) (by kernel_rfl) (by kernel_rfl) (by kernel_rfl) (by intro _ _ _ h; exact h) (Or.inl ⟨by rfl, fun w hSw => by (dsimp only at hSw; go_simp; (try with_reducible rfl))⟩) (by assumption) ?_
        simp only [Act.put, List.setIfInBounds_toArray, List.set_cons_zero, List.set_cons_succ]
        refine wpAnyH_ready (rs := [9]) (by kernel_rfl) (by simp) ?_
        refine AllReadyH.cons (by simp only [List.getElem?_toArray, List.getElem?_cons_zero, List.getElem?_cons_succ]; rfl) ?_ AllReadyH.nil
        intro K hK
        go_simp
        refine hK.out _ _ ?_ (fun hHeld => ?_)
        · try dsimp only
          rw [cell_far _ _ _ _ _ _ (by omega)]; exact ps4
        clear hK K
        try simp only [Act.put, List.setIfInBounds_toArray, List.set_cons_zero, List.set_cons_succ]
        refine wpAnyH_done (by kernel_rfl) ?_ _
        go_wp2
        go_roundw
        case rel => exact ⟨f + 1, j, _, C ++ [s], by go_num, by go_num, by simp; omega, by omega, addPos hPos.out.2 hs7, S5.out, Z5.out⟩
        case measure => simp [intOf]
    · rcases Nat.eq_zero_or_pos m with hm0 | hm0
      · subst hm0
        have HCp : Hid (0 < C.length ∧ ∀ x ∈ C, x.size ≤ 7) := pos_of hPos.out (by omega)
        clear hgo hPos
        go_wp2_with fail
        refine (below_draw SR.out.cur 8 (by omega) (by omega)).mono ?_
        rintro e w3 ⟨z, rfl, hz0, hz1, hc3', hk3⟩
        obtain ⟨z, rfl⟩ := Int.eq_ofNat_of_zero_le hz0
        have S3 : Hid (SD w w3 c a len cap nm vc (.slice none 0 0) C []) := SR.out.keep hcw hk3 hc3'
        clear hc3' hk3 SR
        obtain ⟨av, cv, rfl⟩ : ∃ av cv, vc = .slice av C.length cv := by
          rcases S3.out.td.cols.2 with ⟨h1, h2⟩ | ⟨g, k, cur, h', _⟩
          · exact ⟨none, 0, by rw [h1, h2]⟩
          · exact ⟨_, _, h'⟩
        have hC3 : C.length ≤ 3 := by omega
        go_wp2_with fail
        go_loopw [9] (fun nn wq => ∃ (m : Nat) (vr : Value) (L : List (List CT)), nn = .int .i64 m ∧ L.length + m ≤ 7 ∧ Hid (SD w wq c a len cap nm (.slice av C.length cv) vr C L ∧ Sizes C L 3 7)) (fun nn _ => (intOf nn).toNat)
        case atStart => exact ⟨z, .slice none 0 0, [], rfl, by simp; omega, S3.out, ⟨hC3, SZ.out.cf, by simp, fun i hi => by simp at hi, fun i hi => by simp at hi⟩⟩
        case round =>
          obtain ⟨m, vr, L, rfl, hLm, hP⟩ := hrel
          obtain ⟨wq, hwq⟩ : ∃ x, x = wr := ⟨_, rfl⟩
          subst hwq
          clear S3
          have SW : Hid (SD w wq c a len cap nm (.slice av C.length cv) vr C L) := hP.out.1
          have SL : Hid (Sizes C L 3 7) := hP.out.2
          clear hP
          by_cases hm0 : m = 0
          · subst hm0
            obtain ⟨b0, b1, b2⟩ := SW.out.td.box.cells
            obtain ⟨r0, r1, r2⟩ := SW.out.rb.cells
            obtain ⟨f0, f1, f2⟩ := SW.out.rb.free
            obtain ⟨ar, cr, rfl⟩ : ∃ ar cr, vr = .slice ar L.length cr := by
              obtain ⟨G, D, O⟩ := SW.out.td.rows
              rcases O.outer.2 with ⟨h1, h2⟩ | ⟨g, k, cur, h', _⟩
              · exact ⟨none, 0, by rw [h1, h2]⟩
              · exact ⟨_, _, h'⟩
            go_wp2
            refine bodyPost_ret (v := .agg #[.string nm, .slice av C.length cv, .slice ar L.length cr]) (by simp [results, Tryz.results64, go_sem, r0, r1, r2]) rfl ⟨nm, _, _, C, L, HCp.out.1, HCp.out.2, rfl, hnm, ⟨by omega, SL.out.cf, by omega, SL.out.rf, SL.out.rn⟩, ?_, ?_, ?_, ?_⟩
            · exact own_keepC (c := w.heap.size) SW.out.td.cols (((((Keep.refl w.heap.size wq)).setCell (p := ⟨w.heap.size, 0, none⟩) (Or.inl rfl) _).setCell (p := ⟨w.heap.size, 1, none⟩) (Or.inl rfl) _).setCell (p := ⟨w.heap.size, 2, none⟩) (Or.inl rfl) _) (by omega) (by omega)
            · obtain ⟨G, D, O⟩ := SW.out.td.rows
              exact ⟨G, D, O.keepC (c := w.heap.size) (((((Keep.refl w.heap.size wq)).setCell (p := ⟨w.heap.size, 0, none⟩) (Or.inl rfl) _).setCell (p := ⟨w.heap.size, 1, none⟩) (Or.inl rfl) _).setCell (p := ⟨w.heap.size, 2, none⟩) (Or.inl rfl) _) (by omega) (by omega)⟩
            · repeat (first | exact SW.out.cur | refine Cur.setAbove ?_ (by omega) _)
            · repeat (first | exact SW.out.kp | refine Keep.setCell ?_ (Or.inr (Nat.le_refl _)) _)
          have hmp : 0 < m := by omega
          have q3 : (0 : Int) < (m : Int) := by omega
          obtain ⟨G, D, O⟩ := SW.out.td.rows
          have HO : Hid (OwnRows wq (w.heap.size + 3) vr L G D) := O
          have hsq : w.heap.size + 3 ≤ wq.heap.size := by have := SW.out.pool.1; omega
          have own0 : Hid ((wq.alloc (.cells #[] 30)).ownsRow wq.heap.size 30 3 (.slice (some ⟨wq.heap.size, 0, none⟩) 0 0) 0 [] ∧ Cur (wq.alloc (.cells #[] 30)) c a len cap) :=
            ⟨⟨rfl, .inr ⟨wq.heap.size, 0, #[], rfl, Nat.le_refl _, by show (wq.heap.push _)[wq.heap.size]? = _; simp, Nat.le_refl _, by unfold maxLen; omega, rfl, rfl⟩⟩, SW.out.cur.alloc _⟩
          clear O
          go_wp2_with fail
          go_loopw [10, 11] (fun v ii wz => ∃ k : Nat, ii = .int .i64 k ∧ k ≤ C.length ∧ v ≠ .slice none 0 0 ∧ Hid (∃ l : List CT, l.length = k ∧ Fit l ∧ wz.ownsRow wq.heap.size 30 3 v l.length (flat l) ∧ Cur wz c a len cap ∧ Keep c wq wz)) (fun _ ii _ => C.length - (intOf ii).toNat)
          case atStart => exact ⟨0, rfl, Nat.zero_le _, by simp, [], rfl, fun j hj => by simp at hj, own0.out.1, own0.out.2, (Keep.refl c wq).alloc _⟩
          case round =>
            obtain ⟨k, rfl, hk, hvn, hP⟩ := hrel
            clear own0
            obtain ⟨l, hl, hfl, ownl, hcul, hkl⟩ := hP.out
            have HFL : Hid (Fit l) := hfl
            have HL : Hid (l.length = k) := hl
            have OL : Hid (wr.ownsRow wq.heap.size 30 3 _ l.length (flat l)) := ownl
            have CL : Hid (Cur wr c a len cap) := hcul
            have KL : Hid (Keep c wq wr) := hkl
            have hszl := hkl.size
            have SI : Hid (SD w wr c a len cap nm (.slice av C.length cv) vr C L) := SW.out.keep hcw hkl hcul
            clear hP hl hfl ownl hcul hkl
            obtain ⟨b0, b1, b2⟩ := SI.out.td.box.cells
            by_cases hlt : k < C.length
            · have q5 : (k : Int) < (C.length : Int) := by omega
              clear b0 b2
              go_wp2_with fail
              refine (tcell_draw CL.out).mono ?_
              rintro e w5 ⟨k1, n1, t1, rfl, ht1, hc5, hk5⟩
              have own5 := own_keep OL.out hk5 (by omega)
              have K5 := KL.out.trans hk5
              have hs5 := K5.size
              have C5 : Hid (Cur w5 c a len cap) := hc5
              clear b1
              go_wp2_with (at_builtin; refine wpList_append_own _ rfl _ _ 26 rfl wq.heap.size 30 iC (.agg #[.int .i64 0, .int .i64 0, .string ⟨#[]⟩]) 3 32 Tryz.underlying26 hiC hc0 hc1 hc2 rfl (by decide) _ _ _ rfl (own5.alloc _) ⟨w5.heap.size, 0, none⟩ 1 1 [.int .i64 k1, .int .i64 n1, .string t1] rfl rfl ?c1 ?c2 ?c3 ?c4 ?c5 ?_)
              case c1 =>
                intro j u hj
                match j, hj with
                | 0, hj => simp at hj; subst hj; simp [Addr.add]
                | 1, hj => simp at hj; subst hj; simp [Addr.add]
                | 2, hj => simp at hj; subst hj; simp [Addr.add]
              case c2 => intro u hu; simp at hu; rcases hu with rfl | rfl | rfl <;> rfl
              case c3 => rw [HL.out]; unfold maxLen; omega
              case c4 => rw [HL.out]; omega
              case c5 => simp; omega
              intro v' w6 own6 hgrow hnn
              have hb6 : Below wq.heap.size w5 w6 := by
                refine (((Below.refl wq.heap.size w5).alloc hs5 _).grown hgrow (by simp; omega) ?_)
                intro k hkk
                exact (own5.lt k hkk).1
              have hv6 : v' ≠ .slice none 0 0 := by first | exact hnn | exact fun e => hvn (hnn.1 e).1
              have fin : Hid (∃ l : List CT, l.length = k + 1 ∧ Fit l ∧ w6.ownsRow wq.heap.size 30 3 v' l.length (flat l) ∧ Cur w6 c a len cap ∧ Keep c wq w6) := by
                refine ⟨l ++ [(k1, n1, t1)], by rw [← HL.out]; simp, HFL.out.append ht1, ?_, C5.out.far hb6 (by omega), K5.far hb6 (Nat.le_refl _)⟩
                rw [flat_append, List.length_append]
                exact own6
              clear own6 hgrow hnn own5 C5 OL CL hc5 hk5 hb6
              go_wp2
              go_roundw
              case rel => exact ⟨k + 1, by go_num, by omega, hv6, fin.out⟩
              case measure => simp [intOf]; omega
            · have hkC : k = C.length := by omega
              subst hkC
              have q5 : ¬ ((C.length : Int) < (C.length : Int)) := by omega
              obtain ⟨g, kc, rfl, hgg, _⟩ := own_form OL.out hvn
              have O5 : Hid (OwnRows wr (w.heap.size + 3) vr L G D) := HO.out.keep KL.out (by omega)
              have hgx : Hid (∀ i, i < L.length → G i ≠ g) := by
                have : ∀ i, i < L.length → G i ≠ g := fun i hi => by have := HO.out.lt i hi; omega
                exact this
              have hLl : L.length ≤ 7 := by omega
              go_wp2_with (at_builtin; refine wpList_append_own _ rfl _ _ 88 rfl (w.heap.size + 3) 26 iR (.slice none 0 0) 1 24 Tryz.underlying88 hiR hr0 hr1 hr2 rfl (by decide) _ _ _ rfl (O5.out.outer.alloc _) ⟨wr.heap.size, 0, none⟩ 1 1 [.slice (some ⟨g, 0, none⟩) l.length kc] rfl rfl (cells1w wr _ _) (by intro u hu; simp at hu; subst hu; rfl) (by unfold maxLen; omega) (by omega) (by simp; omega) ?_)
              intro v' w7 own7 hgrow hnn
              obtain ⟨a', k', rfl⟩ : ∃ a' k', v' = .slice a' (L.length + 1) k' := by
                rcases own7.2 with ⟨_, h0⟩ | ⟨g, k, cur, h', _⟩
                · omega
                · exact ⟨_, _, h'⟩
              have SA := SI.out.alloc hcw (.cells #[.slice (some ⟨g, 0, none⟩) l.length kc] 26)
              have bx := SA.td.box.grown hgrow (SI.out.td.box.notOwn O5.out.outer (by decide))
              obtain ⟨d0, d1, d2⟩ := bx.cells
              obtain ⟨e0, e1, e2⟩ := bx.free
              have S7 : Hid (SD w (w7.setCell ⟨w.heap.size + 1, 2, none⟩ (.slice a' (L.length + 1) k')) c a len cap nm (.slice av C.length cv) (.slice a' (L.length + 1) k') C (L ++ [l])) := SI.out.addRow hcw O5.out hgx.out (own_base OL.out (by omega)) own7 hgrow
              have Z7 : Hid (Sizes C (L ++ [l]) 3 7) := by
                have h1 := SL.out.addRow HFL.out (by rw [HL.out]; omega)
                have : Sizes C (L ++ [l]) 3 7 := ⟨h1.cl, h1.cf, by simp; omega, h1.rf, h1.rn⟩
                exact this
              clear own7 hgrow hnn SA bx
              go_wp2
              go_roundw
              case rel => exact ⟨m - 1, _, L ++ [l], by rw [show ((m - 1 : Nat) : Int) = (m : Int) - 1 by omega], by simp; omega, S7.out, Z7.out⟩
              case measure => simp [intOf]; omega
      · have q3 : (0 : Int) < (m : Int) := by omega
        have q5 : ¬ ((f : Int) < 4) := by omega
        have HCp : Hid (0 < C.length ∧ ∀ x ∈ C, x.size ≤ 7) := pos_of hPos.out (by omega)
        clear hgo hPos
        go_wp2_with fail
        refine (below_draw SR.out.cur 8 (by omega) (by omega)).mono ?_
        rintro e w3 ⟨z, rfl, hz0, hz1, hc3', hk3⟩
        obtain ⟨z, rfl⟩ := Int.eq_ofNat_of_zero_le hz0
        have S3 : Hid (SD w w3 c a len cap nm vc (.slice none 0 0) C []) := SR.out.keep hcw hk3 hc3'
        clear hc3' hk3 SR
        obtain ⟨av, cv, rfl⟩ : ∃ av cv, vc = .slice av C.length cv := by
          rcases S3.out.td.cols.2 with ⟨h1, h2⟩ | ⟨g, k, cur, h', _⟩
          · exact ⟨none, 0, by rw [h1, h2]⟩
          · exact ⟨_, _, h'⟩
        have hC3 : C.length ≤ 3 := by omega
        go_wp2_with fail
        go_loopw [9] (fun nn wq => ∃ (m : Nat) (vr : Value) (L : List (List CT)), nn = .int .i64 m ∧ L.length + m ≤ 7 ∧ Hid (SD w wq c a len cap nm (.slice av C.length cv) vr C L ∧ Sizes C L 3 7)) (fun nn _ => (intOf nn).toNat)
        case atStart => exact ⟨z, .slice none 0 0, [], rfl, by simp; omega, S3.out, ⟨hC3, SZ.out.cf, by simp, fun i hi => by simp at hi, fun i hi => by simp at hi⟩⟩
        case round =>
          obtain ⟨m, vr, L, rfl, hLm, hP⟩ := hrel
          obtain ⟨wq, hwq⟩ : ∃ x, x = wr := ⟨_, rfl⟩
          subst hwq
          clear S3
          have SW : Hid (SD w wq c a len cap nm (.slice av C.length cv) vr C L) := hP.out.1
          have SL : Hid (Sizes C L 3 7) := hP.out.2
          clear hP
          by_cases hm0 : m = 0
          · subst hm0
            obtain ⟨b0, b1, b2⟩ := SW.out.td.box.cells
            obtain ⟨r0, r1, r2⟩ := SW.out.rb.cells
            obtain ⟨f0, f1, f2⟩ := SW.out.rb.free
            obtain ⟨ar, cr, rfl⟩ : ∃ ar cr, vr = .slice ar L.length cr := by
              obtain ⟨G, D, O⟩ := SW.out.td.rows
              rcases O.outer.2 with ⟨h1, h2⟩ | ⟨g, k, cur, h', _⟩
              · exact ⟨none, 0, by rw [h1, h2]⟩
              · exact ⟨_, _, h'⟩
            go_wp2
            refine bodyPost_ret (v := .agg #[.string nm, .slice av C.length cv, .slice ar L.length cr]) (by simp [results, Tryz.results64, go_sem, r0, r1, r2]) rfl ⟨nm, _, _, C, L, HCp.out.1, HCp.out.2, rfl, hnm, ⟨by omega, SL.out.cf, by omega, SL.out.rf, SL.out.rn⟩, ?_, ?_, ?_, ?_⟩
            · exact own_keepC (c := w.heap.size) SW.out.td.cols (((((Keep.refl w.heap.size wq)).setCell (p := ⟨w.heap.size, 0, none⟩) (Or.inl rfl) _).setCell (p := ⟨w.heap.size, 1, none⟩) (Or.inl rfl) _).setCell (p := ⟨w.heap.size, 2, none⟩) (Or.inl rfl) _) (by omega) (by omega)
            · obtain ⟨G, D, O⟩ := SW.out.td.rows
              exact ⟨G, D, O.keepC (c := w.heap.size) (((((Keep.refl w.heap.size wq)).setCell (p := ⟨w.heap.size, 0, none⟩) (Or.inl rfl) _).setCell (p := ⟨w.heap.size, 1, none⟩) (Or.inl rfl) _).setCell (p := ⟨w.heap.size, 2, none⟩) (Or.inl rfl) _) (by omega) (by omega)⟩
            · repeat (first | exact SW.out.cur | refine Cur.setAbove ?_ (by omega) _)
            · repeat (first | exact SW.out.kp | refine Keep.setCell ?_ (Or.inr (Nat.le_refl _)) _)
          have hmp : 0 < m := by omega
          have q3 : (0 : Int) < (m : Int) := by omega
          obtain ⟨G, D, O⟩ := SW.out.td.rows
          have HO : Hid (OwnRows wq (w.heap.size + 3) vr L G D) := O
          have hsq : w.heap.size + 3 ≤ wq.heap.size := by have := SW.out.pool.1; omega
          have own0 : Hid ((wq.alloc (.cells #[] 30)).ownsRow wq.heap.size 30 3 (.slice (some ⟨wq.heap.size, 0, none⟩) 0 0) 0 [] ∧ Cur (wq.alloc (.cells #[] 30)) c a len cap) :=
            ⟨⟨rfl, .inr ⟨wq.heap.size, 0, #[], rfl, Nat.le_refl _, by show (wq.heap.push _)[wq.heap.size]? = _; simp, Nat.le_refl _, by unfold maxLen; omega, rfl, rfl⟩⟩, SW.out.cur.alloc _⟩
          clear O
          go_wp2_with fail
          go_loopw [10, 11] (fun v ii wz => ∃ k : Nat, ii = .int .i64 k ∧ k ≤ C.length ∧ v ≠ .slice none 0 0 ∧ Hid (∃ l : List CT, l.length = k ∧ Fit l ∧ wz.ownsRow wq.heap.size 30 3 v l.length (flat l) ∧ Cur wz c a len cap ∧ Keep c wq wz)) (fun _ ii _ => C.length - (intOf ii).toNat)
          case atStart => exact ⟨0, rfl, Nat.zero_le _, by simp, [], rfl, fun j hj => by simp at hj, own0.out.1, own0.out.2, (Keep.refl c wq).alloc _⟩
          case round =>
            obtain ⟨k, rfl, hk, hvn, hP⟩ := hrel
            clear own0
            obtain ⟨l, hl, hfl, ownl, hcul, hkl⟩ := hP.out
            have HFL : Hid (Fit l) := hfl
            have HL : Hid (l.length = k) := hl
            have OL : Hid (wr.ownsRow wq.heap.size 30 3 _ l.length (flat l)) := ownl
            have CL : Hid (Cur wr c a len cap) := hcul
            have KL : Hid (Keep c wq wr) := hkl
            have hszl := hkl.size
            have SI : Hid (SD w wr c a len cap nm (.slice av C.length cv) vr C L) := SW.out.keep hcw hkl hcul
            clear hP hl hfl ownl hcul hkl
            obtain ⟨b0, b1, b2⟩ := SI.out.td.box.cells
            by_cases hlt : k < C.length
            · have q5 : (k : Int) < (C.length : Int) := by omega
              clear b0 b2
              go_wp2_with fail
              refine (tcell_draw CL.out).mono ?_
              rintro e w5 ⟨k1, n1, t1, rfl, ht1, hc5, hk5⟩
              have own5 := own_keep OL.out hk5 (by omega)
              have K5 := KL.out.trans hk5
              have hs5 := K5.size
              have C5 : Hid (Cur w5 c a len cap) := hc5
              clear b1
              go_wp2_with (at_builtin; refine wpList_append_own _ rfl _ _ 26 rfl wq.heap.size 30 iC (.agg #[.int .i64 0, .int .i64 0, .string ⟨#[]⟩]) 3 32 Tryz.underlying26 hiC hc0 hc1 hc2 rfl (by decide) _ _ _ rfl (own5.alloc _) ⟨w5.heap.size, 0, none⟩ 1 1 [.int .i64 k1, .int .i64 n1, .string t1] rfl rfl ?c1 ?c2 ?c3 ?c4 ?c5 ?_)
              case c1 =>
                intro j u hj
                match j, hj with
                | 0, hj => simp at hj; subst hj; simp [Addr.add]
                | 1, hj => simp at hj; subst hj; simp [Addr.add]
                | 2, hj => simp at hj; subst hj; simp [Addr.add]
              case c2 => intro u hu; simp at hu; rcases hu with rfl | rfl | rfl <;> rfl
              case c3 => rw [HL.out]; unfold maxLen; omega
              case c4 => rw [HL.out]; omega
              case c5 => simp; omega
              intro v' w6 own6 hgrow hnn
              have hb6 : Below wq.heap.size w5 w6 := by
                refine (((Below.refl wq.heap.size w5).alloc hs5 _).grown hgrow (by simp; omega) ?_)
                intro k hkk
                exact (own5.lt k hkk).1
              have hv6 : v' ≠ .slice none 0 0 := by first | exact hnn | exact fun e => hvn (hnn.1 e).1
              have fin : Hid (∃ l : List CT, l.length = k + 1 ∧ Fit l ∧ w6.ownsRow wq.heap.size 30 3 v' l.length (flat l) ∧ Cur w6 c a len cap ∧ Keep c wq w6) := by
                refine ⟨l ++ [(k1, n1, t1)], by rw [← HL.out]; simp, HFL.out.append ht1, ?_, C5.out.far hb6 (by omega), K5.far hb6 (Nat.le_refl _)⟩
                rw [flat_append, List.length_append]
                exact own6
              clear own6 hgrow hnn own5 C5 OL CL hc5 hk5 hb6
              go_wp2
              go_roundw
              case rel => exact ⟨k + 1, by go_num, by omega, hv6, fin.out⟩
              case measure => simp [intOf]; omega
            · have hkC : k = C.length := by omega
              subst hkC
              have q5 : ¬ ((C.length : Int) < (C.length : Int)) := by omega
              obtain ⟨g, kc, rfl, hgg, _⟩ := own_form OL.out hvn
              have O5 : Hid (OwnRows wr (w.heap.size + 3) vr L G D) := HO.out.keep KL.out (by omega)
              have hgx : Hid (∀ i, i < L.length → G i ≠ g) := by
                have : ∀ i, i < L.length → G i ≠ g := fun i hi => by have := HO.out.lt i hi; omega
                exact this
              have hLl : L.length ≤ 7 := by omega
              go_wp2_with (at_builtin; refine wpList_append_own _ rfl _ _ 88 rfl (w.heap.size + 3) 26 iR (.slice none 0 0) 1 24 Tryz.underlying88 hiR hr0 hr1 hr2 rfl (by decide) _ _ _ rfl (O5.out.outer.alloc _) ⟨wr.heap.size, 0, none⟩ 1 1 [.slice (some ⟨g, 0, none⟩) l.length kc] rfl rfl (cells1w wr _ _) (by intro u hu; simp at hu; subst hu; rfl) (by unfold maxLen; omega) (by omega) (by simp; omega) ?_)
              intro v' w7 own7 hgrow hnn
              obtain ⟨a', k', rfl⟩ : ∃ a' k', v' = .slice a' (L.length + 1) k' := by
                rcases own7.2 with ⟨_, h0⟩ | ⟨g, k, cur, h', _⟩
                · omega
                · exact ⟨_, _, h'⟩
              have SA := SI.out.alloc hcw (.cells #[.slice (some ⟨g, 0, none⟩) l.length kc] 26)
              have bx := SA.td.box.grown hgrow (SI.out.td.box.notOwn O5.out.outer (by decide))
              obtain ⟨d0, d1, d2⟩ := bx.cells
              obtain ⟨e0, e1, e2⟩ := bx.free
              have S7 : Hid (SD w (w7.setCell ⟨w.heap.size + 1, 2, none⟩ (.slice a' (L.length + 1) k')) c a len cap nm (.slice av C.length cv) (.slice a' (L.length + 1) k') C (L ++ [l])) := SI.out.addRow hcw O5.out hgx.out (own_base OL.out (by omega)) own7 hgrow
              have Z7 : Hid (Sizes C (L ++ [l]) 3 7) := by
                have h1 := SL.out.addRow HFL.out (by rw [HL.out]; omega)
                have : Sizes C (L ++ [l]) 3 7 := ⟨h1.cl, h1.cf, by simp; omega, h1.rf, h1.rn⟩
                exact this
              clear own7 hgrow hnn SA bx
              go_wp2
              go_roundw
              case rel => exact ⟨m - 1, _, L ++ [l], by rw [show ((m - 1 : Nat) : Int) = (m : Int) - 1 by omega], by simp; omega, S7.out, Z7.out⟩
              case measure => simp [intOf]; omega

theorem tab_draw {w : World} {c : Nat} {a : Option Addr} {len cap : Nat} (h : Cur w c a len cap) (nm : ByteArray) (hnm : nm.size ≤ 7) :
    Calls Tryz.prog 64 #[.pointer (some ⟨c, 0, none⟩), .string nm] w fun e w' => DrawnT w c a len cap 4 8 e w' :=
  (tab_draw1 h nm hnm).mono fun _ _ h => h.any
end Go.Proofs.YthgbjnchhaoceaaGreatDoor
