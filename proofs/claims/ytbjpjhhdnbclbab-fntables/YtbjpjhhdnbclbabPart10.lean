/-
  A part of the proof: TabDraw4.
-/
import Derived.Test.YtbjpjhhdnbclbabPart9

/-
  The contracts of the model's draws for Put, Census and ColumnOf.
-/
namespace Go.Proofs.Ytbjpjhhdnbclbab
open Go.ChangeShapes Go.WideShapes Go.ChangeAt Go.RowKit
attribute [local go_sem ↓] Go.wp_at_zero Go.wp_at_succ
attribute [local simp] World.cell?_alloc_past World.cell?_alloc_at World.frozen?_alloc_at cell_far cell_off cell_here World.frozen?_alloc_past

/-- A drawn table: where it lies, and how great it is. -/
structure DTab (w : World) (ca : Option Addr) (cc : Nat) (ra : Option Addr) (cr : Nat) (t : TB) : Prop where
  tab : TabAt w ca cc ra t
  nilR : ra = none → cr = 0
  cl : t.2.1.length ≤ 5
  rl : t.2.2.length ≤ 62
  rn : ∀ i (hi : i < t.2.2.length), t.2.2[i].length ≤ 1000
theorem DTab.below {w w' : World} {ca : Option Addr} {cc : Nat} {ra : Option Addr} {cr : Nat} {t : TB} (h : DTab w ca cc ra cr t) (hb : Below w.heap.size w w') : DTab w' ca cc ra cr t := ⟨h.tab.below hb, h.nilR, h.cl, h.rl, h.rn⟩
theorem own_strsV {w : World} {base : Nat} {e : TypeId} {l : List ByteArray} {a : Option Addr} {c : Nat} (h : w.ownsRow base e 1 (.slice a l.length c) l.length (strV l)) : StrsAt w a l ∧ l.length ≤ c ∧ (a = none → c = 0) := by
  rcases h.2 with ⟨h1, h2⟩ | ⟨g, k, cur, h', _, _, hle, _⟩
  · have hl : l = [] := List.length_eq_zero_iff.1 h2
    subst hl
    simp only [Value.slice.injEq] at h1
    exact ⟨fun j hj => by simp at hj, by simp, fun _ => h1.2.2⟩
  · simp only [Value.slice.injEq] at h'
    obtain ⟨rfl, _, rfl⟩ := h'
    exact ⟨own_strs h, hle, fun e => by cases e⟩
theorem own_rowsV {w : World} {base : Nat} {L : List (List CT)} {a : Option Addr} {c : Nat} {G D : Nat → Nat} (h : OwnRows w base (.slice a L.length c) L G D) (hf : ∀ i (hi : i < L.length), Fit L[i]) (hm : ∀ i (hi : i < L.length), L[i].length ≤ maxLen) : RowsAt w a L ∧ (a = none → c = 0) := by
  rcases h.outer.2 with ⟨h1, h2⟩ | ⟨g, k, cur, h', _, _, hle, _⟩
  · have hl : L = [] := List.length_eq_zero_iff.1 h2
    subst hl
    simp only [Value.slice.injEq] at h1
    exact ⟨fun j hj => by simp at hj, fun _ => h1.2.2⟩
  · simp only [Value.slice.injEq] at h'
    obtain ⟨rfl, _, rfl⟩ := h'
    exact ⟨h.rowsAt hf hm, fun e => by cases e⟩
theorem dtab_of {w : World} {base : Nat} {nm : ByteArray} {C : List ByteArray} {L : List (List CT)} {av : Option Addr} {cv : Nat} {ar : Option Addr} {cr : Nat} {G D : Nat → Nat} (hnm : nm.size ≤ 7) (hs : Sizes C L 5 62) (hc : w.ownsRow base 9 1 (.slice av C.length cv) C.length (strV C)) (hr : OwnRows w base (.slice ar L.length cr) L G D) : DTab w av cv ar cr (nm, C, L) := by
  obtain ⟨h1, h2, h3⟩ := own_strsV hc
  obtain ⟨h4, h5⟩ := own_rowsV hr hs.rf (fun i hi => by have := hs.rn i hi; unfold maxLen; omega)
  have hcl := hs.cl
  have hrl := hs.rl
  exact ⟨⟨h1, hs.cf, by show C.length ≤ _; unfold maxLen; omega, h2, h3, h4, by show L.length ≤ _; unfold maxLen; omega, by show nm.size ≤ _; unfold maxLen; omega⟩, h5, hcl, hrl, hs.rn⟩
/-- A drawn table behind more draws, and behind three stores into a block ahead of it. -/
theorem dtab_late {w1 w2 w3 : World} {c R : Nat} {nm : ByteArray} {C : List ByteArray} {L : List (List CT)} {av : Option Addr} {cv : Nat} {ar : Option Addr} {cr : Nat} (hnm : nm.size ≤ 7) (h : w2.ownsRow w1.heap.size 9 1 (.slice av C.length cv) C.length (strV C) ∧ (∃ G D, OwnRows w2 w1.heap.size (.slice ar L.length cr) L G D) ∧ Sizes C L 5 62) (hk : Keep c w2 w3) (hc : c < w1.heap.size) (hR : R < w1.heap.size) (x y z : Value) :
    DTab (((w3.setCell ⟨R, 0, none⟩ x).setCell ⟨R, 1, none⟩ y).setCell ⟨R, 2, none⟩ z) av cv ar cr (nm, C, L) := by
  obtain ⟨hOc, ⟨G, D, hOr⟩, hSz⟩ := h
  have hk3 : Keep R w3 (((w3.setCell ⟨R, 0, none⟩ x).setCell ⟨R, 1, none⟩ y).setCell ⟨R, 2, none⟩ z) := (((Keep.refl R w3).setCell (p := ⟨R, 0, none⟩) (Or.inl rfl) _).setCell (p := ⟨R, 1, none⟩) (Or.inl rfl) _).setCell (p := ⟨R, 2, none⟩) (Or.inl rfl) _
  exact dtab_of hnm hSz (own_keep (own_keep hOc hk hc) hk3 hR) ((hOr.keep hk hc).keep hk3 hR)
/-- The answer of a draw of a table and something else. -/
def DrawnTV (w : World) (P : World → TB → Value → Prop) (e : Ending) (w' : World) : Prop :=
  ∃ (t : TB) (nc nr : Nat) (ca : Option Addr) (cc : Nat) (ra : Option Addr) (cr : Nat) (v : Value), e = .returned (.tuple #[.agg #[.string t.1, .slice ca nc cc, .slice ra nr cr], v]) ∧ t.2.1.length = nc ∧ t.2.2.length = nr ∧ DTab w' ca cc ra cr t ∧ P w' t v ∧ Below w.heap.size w w'

-- @if spec.l1From
theorem from_drawN {w : World} {c : Nat} {a : Option Addr} {len cap : Nat} (h : Cur w c a len cap) (n : Nat) (hn : n ≤ 200) :
    Calls Try.prog 40 #[.pointer (some ⟨c, 0, none⟩), .int .i64 (-1), .int .i64 n] w fun e w' => ∃ x : Int, e = .returned (.int .i64 x) ∧ -1 ≤ x ∧ x ≤ n ∧ Cur w' c a len cap ∧ Keep c w w' := by
  have HC : Hid (Cur w c a len cap) := h
  clear h
  have q1 : (n : Int) - -1 + 1 = ((n + 2 : Nat) : Int) := by omega
  have q2 : (n : Int) - -1 = (n : Int) + 1 := by omega
  go_enter Try.func40, Try.ntmps40
  go_wp2_with fail
  refine (below_draw HC.out ((n + 2 : Nat) : Int) (by omega) (by omega)).mono ?_
  rintro e w1 ⟨x, rfl, hx0, hx1, hc1, hk1⟩
  have C1 : Hid (Cur w1 c a len cap) := hc1
  go_wp2
  go_ret
  exact ⟨_, rfl, by omega, by omega, C1.out, hk1⟩

theorem census_draw {w : World} {a : Option Addr} {len cap : Nat} (hlen : len ≤ 4096)
    (row : ∀ j, j < len → ∃ (rb ro : Nat) (v : Int), a = some ⟨rb, ro, none⟩ ∧ rb < w.heap.size ∧ w.cell? ⟨rb, ro + j, none⟩ = some (.int .u8 v) ∧ 0 ≤ v ∧ v ≤ 255) :
    Calls Try.prog 13 #[.slice a len cap] w fun e w' => DrawnTV w (fun _ _ v => ∃ x : Int, v = .int .i64 x) e w' := by
  have hR : Hid (∀ j, j < len → ∃ (rb ro : Nat) (v : Int), a = some ⟨rb, ro, none⟩ ∧ rb < w.heap.size ∧ w.cell? ⟨rb, ro + j, none⟩ = some (.int .u8 v) ∧ 0 ≤ v ∧ v ≤ 255) := row
  clear row
  go_enter Try.func13, Try.ntmps13
  go_wp2_with fail
  have hR0 : Hid (∀ j, j < len → ∃ (rb ro : Nat) (v : Int), a = some ⟨rb, ro, none⟩ ∧ rb < (w.alloc (.cells #[.string ⟨#[]⟩, .slice none 0 0, .slice none 0 0] 32)).heap.size ∧ (w.alloc (.cells #[.string ⟨#[]⟩, .slice none 0 0, .slice none 0 0] 32)).cell? ⟨rb, ro + j, none⟩ = some (.int .u8 v) ∧ 0 ≤ v ∧ v ≤ 255) := by
    have : ∀ j, j < len → ∃ (rb ro : Nat) (v : Int), a = some ⟨rb, ro, none⟩ ∧ rb < (w.alloc (.cells #[.string ⟨#[]⟩, .slice none 0 0, .slice none 0 0] 32)).heap.size ∧ (w.alloc (.cells #[.string ⟨#[]⟩, .slice none 0 0, .slice none 0 0] 32)).cell? ⟨rb, ro + j, none⟩ = some (.int .u8 v) ∧ 0 ≤ v ∧ v ≤ 255 := fun j hj => by
      obtain ⟨rb, ro, v, h1, h2, h3, h4⟩ := hR.out j hj
      exact ⟨rb, ro, v, h1, by simp; omega, by rw [World.cell?_alloc_past _ _ _ h2]; exact h3, h4⟩
    exact this
  refine (new_draw hlen hR0.out).mono ?_
  rintro e w1 ⟨c, rfl, hcs, hc1', hb1⟩
  have R1 : Hid (TBox w1 w.heap.size (.string ⟨#[]⟩) (.slice none 0 0) (.slice none 0 0)) := (TBox.new w _ _ _).below hb1
  have B1 : Hid (Below w.heap.size w w1) := chainA hb1
  have C1 : Hid (Cur w1 c a len cap) := hc1'
  have hcw : w.heap.size < c := by simp at hcs; omega
  have hc1w : c < w1.heap.size := hc1'.lt
  clear hR hR0 hb1 hc1' hcs
  go_wp2_with fail
  refine (tabany_draw C1.out).mono ?_
  rintro e w2 ⟨nm, vc, vr, C, L, rfl, hnm, hSz, hOc, ⟨G, D, hOr⟩, hc2', hk2⟩
  obtain ⟨av, cv, rfl⟩ := own_sliceL hOc
  obtain ⟨ar, cr, rfl⟩ := own_sliceL hOr.outer
  have DT : Hid (DTab w2 av cv ar cr (nm, C, L)) := dtab_of hnm hSz hOc hOr
  have hCl : C.length ≤ 5 := hSz.cl
  have hLl : L.length ≤ 62 := hSz.rl
  have R2 : Hid (TBox w2 w.heap.size (.string ⟨#[]⟩) (.slice none 0 0) (.slice none 0 0)) := R1.out.keep hk2 (by omega)
  have K2 : Hid (Keep c w1 w2) := hk2
  have C2 : Hid (Cur w2 c a len cap) := hc2'
  have OC2 : Hid (w2.ownsRow w1.heap.size 9 1 (.slice av C.length cv) C.length (strV C) ∧ (∃ G D, OwnRows w2 w1.heap.size (.slice ar L.length cr) L G D) ∧ Sizes C L 5 62) := ⟨hOc, ⟨G, D, hOr⟩, hSz⟩
  have hs12 := hk2.size
  clear hSz hOc hOr hc2' hk2 R1 C1
  go_wp2_with fail
  obtain ⟨W2, hW2⟩ : ∃ W, W = (w2.alloc (.cells #[.string nm, .slice av C.length cv, .slice ar L.length cr] 32)) := ⟨_, rfl⟩
  have T2 : Hid (TBox W2 w2.heap.size (.string nm) (.slice av C.length cv) (.slice ar L.length cr)) := by rw [hW2]; exact TBox.new w2 _ _ _
  have RW : Hid (TBox W2 w.heap.size (.string ⟨#[]⟩) (.slice none 0 0) (.slice none 0 0)) := by rw [hW2]; exact R2.out.alloc _
  have CW : Hid (Cur W2 c a len cap) := by rw [hW2]; exact C2.out.alloc _
  have KW : Hid (Keep c w2 W2) := by rw [hW2]; exact (Keep.refl c w2).alloc _
  rw [← hW2]
  clear hW2 R2 C2
  obtain ⟨b0, b1, b2⟩ := T2.out.cells
  refine wp_region_held_drew (S := (fun w' => w'.cell? ⟨w2.heap.size, 0, none⟩ = some (.string nm) ∧ w'.cell? ⟨w2.heap.size, 1, none⟩ = some (.slice av C.length cv) ∧ w'.cell? ⟨w2.heap.size, 2, none⟩ = some (.slice ar L.length cr))) (by kernel_rfl) ?_ (fun hHeld => ?_)
  · exact ⟨b0, b1, b2⟩
  refine wpAnyH_take (i := 0) (by simp only [List.getElem?_toArray, List.getElem?_cons_zero]; rfl) (by kernel_rfl) (by kernel_rfl) (by kernel_rfl) (by intro _ _ _ h; exact h) (Or.inl ⟨by rfl, fun w hSw => by (dsimp only at hSw; go_simp; (try with_reducible rfl))⟩) (by assumption) ?_
  simp only [Act.put, List.setIfInBounds_toArray, List.set_cons_zero, List.set_cons_succ]
  refine wpAnyH_take (i := 1) (by simp only [List.getElem?_toArray, List.getElem?_cons_zero, List.getElem?_cons_succ]; rfl) (by kernel_rfl) (by kernel_rfl) (by kernel_rfl) (by intro _ _ _ h; exact h) (Or.inl ⟨by rfl, fun w hSw => by (dsimp only at hSw; go_simp; (try with_reducible rfl))⟩) (by assumption) ?_
  simp only [Act.put, List.setIfInBounds_toArray, List.set_cons_zero, List.set_cons_succ]
  refine wpAnyH_take (i := 2) (by simp only [List.getElem?_toArray, List.getElem?_cons_zero, List.getElem?_cons_succ]; rfl) (by kernel_rfl) (by kernel_rfl) (by kernel_rfl) (by intro _ _ _ h; exact h) (Or.inl ⟨by rfl, fun w hSw => by (dsimp only at hSw; go_simp; (try with_reducible rfl))⟩) (by assumption) ?_
  simp only [Act.put, List.setIfInBounds_toArray, List.set_cons_zero, List.set_cons_succ]
  refine wpAnyH_take (i := 3) (by simp only [List.getElem?_toArray, List.getElem?_cons_zero, List.getElem?_cons_succ]; rfl) (by kernel_rfl) (by kernel_rfl) (by kernel_rfl) (by intro _ _ _ h; exact h) (Or.inl ⟨by rfl, fun w hSw => by (dsimp only at hSw; go_simp; (try with_reducible rfl))⟩) (by assumption) ?_
  simp only [Act.put, List.setIfInBounds_toArray, List.set_cons_zero, List.set_cons_succ]
  refine wpAnyH_take (i := 4) (by simp only [List.getElem?_toArray, List.getElem?_cons_zero, List.getElem?_cons_succ]; rfl) (by kernel_rfl) (by kernel_rfl) (by kernel_rfl) (by intro _ _ _ h; exact h) (Or.inl ⟨by rfl, fun w hSw => by (dsimp only at hSw; go_simp; (try with_reducible rfl))⟩) (by assumption) ?_
  simp only [Act.put, List.setIfInBounds_toArray, List.set_cons_zero, List.set_cons_succ]
  refine wpAnyH_ready (rs := [5]) (by kernel_rfl) (by simp) ?_
  refine AllReadyH.cons (by simp only [List.getElem?_toArray, List.getElem?_cons_zero, List.getElem?_cons_succ]; rfl) ?_ AllReadyH.nil
  intro K hK
  go_simp
  refine (from_drawN CW.out.drew C.length (by omega)).mono ?_
  rintro e w3 ⟨x, rfl, hx0, hx1, hc3', hk3⟩
  have K3 : Hid (Keep c W2 w3) := (Keep.refl c W2).drew.trans hk3
  have T3 : Hid (TBox w3 w2.heap.size (.string nm) (.slice av C.length cv) (.slice ar L.length cr)) := T2.out.keep K3.out (by omega)
  have R3 : Hid (TBox w3 w.heap.size (.string ⟨#[]⟩) (.slice none 0 0) (.slice none 0 0)) := RW.out.keep K3.out (by omega)
  obtain ⟨b0, b1, b2⟩ := T3.out.cells
  obtain ⟨r0, r1, r2⟩ := R3.out.cells
  obtain ⟨f0, f1, f2⟩ := R3.out.free
  have fin : Hid (∀ x y z, DTab (((w3.setCell ⟨w.heap.size, 0, none⟩ x).setCell ⟨w.heap.size, 1, none⟩ y).setCell ⟨w.heap.size, 2, none⟩ z) av cv ar cr (nm, C, L) ∧ Below w.heap.size w (((w3.setCell ⟨w.heap.size, 0, none⟩ x).setCell ⟨w.heap.size, 1, none⟩ y).setCell ⟨w.heap.size, 2, none⟩ z)) := by
    have hkk : Keep c w1 w3 := (K2.out.trans KW.out).trans K3.out
    have hbb : Below w.heap.size w w3 := B1.out.trans (hkk.below (by omega) (by omega))
    have : ∀ x y z, DTab (((w3.setCell ⟨w.heap.size, 0, none⟩ x).setCell ⟨w.heap.size, 1, none⟩ y).setCell ⟨w.heap.size, 2, none⟩ z) av cv ar cr (nm, C, L) ∧ Below w.heap.size w (((w3.setCell ⟨w.heap.size, 0, none⟩ x).setCell ⟨w.heap.size, 1, none⟩ y).setCell ⟨w.heap.size, 2, none⟩ z) := fun x y z =>
      ⟨dtab_late (c := c) hnm OC2.out (KW.out.trans K3.out) hc1w (by omega) x y z, ((hbb.setCell (p := ⟨w.heap.size, 0, none⟩) (Nat.le_refl _) _).setCell (p := ⟨w.heap.size, 1, none⟩) (Nat.le_refl _) _).setCell (p := ⟨w.heap.size, 2, none⟩) (Nat.le_refl _) _⟩
    exact this
  clear hc3' hk3
  have hRB : w.heap.size ≠ w2.heap.size := by omega
  go_wp2_with fail
  refine hK.out _ _ ⟨b0, b1, b2⟩ (fun hHeld => ?_)
  clear hK K
  try simp only [Act.put, List.setIfInBounds_toArray, List.set_cons_zero, List.set_cons_succ]
  refine wpAnyH_ready (rs := [6]) (by kernel_rfl) (by simp) ?_
  refine AllReadyH.cons (by simp only [List.getElem?_toArray, List.getElem?_cons_zero, List.getElem?_cons_succ]; rfl) ?_ AllReadyH.nil
  intro K hK
  go_simp
  refine hK.out _ _ ?_ (fun hHeld => ?_)
  · try dsimp only
    refine ⟨?_, ?_, ?_⟩
    · rw [cell_far _ _ _ _ _ _ hRB.symm, cell_far _ _ _ _ _ _ hRB.symm, cell_far _ _ _ _ _ _ hRB.symm]; exact b0
    · rw [cell_far _ _ _ _ _ _ hRB.symm, cell_far _ _ _ _ _ _ hRB.symm, cell_far _ _ _ _ _ _ hRB.symm]; exact b1
    · rw [cell_far _ _ _ _ _ _ hRB.symm, cell_far _ _ _ _ _ _ hRB.symm, cell_far _ _ _ _ _ _ hRB.symm]; exact b2
  clear hK K
  try simp only [Act.put, List.setIfInBounds_toArray, List.set_cons_zero, List.set_cons_succ]
  refine wpAnyH_take (i := 7) (by simp only [List.getElem?_toArray, List.getElem?_cons_zero, List.getElem?_cons_succ]; rfl) (by kernel_rfl) (by kernel_rfl) (by kernel_rfl) (by intro _ _ _ h; exact h) (Or.inl ⟨by rfl, fun w hSw => by (dsimp only at hSw; go_simp; (try with_reducible rfl))⟩) (by assumption) ?_
  simp only [Act.put, List.setIfInBounds_toArray, List.set_cons_zero, List.set_cons_succ]
  refine wpAnyH_done (by kernel_rfl) ?_ _
  go_wp2_with fail
  exact bodyPost_ret (v := .tuple #[.agg #[.string nm, .slice av C.length cv, .slice ar L.length cr], .int .i64 x]) (by simp [results, Try.results13, go_sem, r0, r1, r2]) rfl ⟨(nm, C, L), C.length, L.length, av, cv, ar, cr, _, rfl, rfl, rfl, (fin.out _ _ _).1, ⟨x, rfl⟩, (fin.out _ _ _).2⟩

-- @fi
theorem columnof_draw {w : World} {a : Option Addr} {len cap : Nat} (hlen : len ≤ 4096)
    (row : ∀ j, j < len → ∃ (rb ro : Nat) (v : Int), a = some ⟨rb, ro, none⟩ ∧ rb < w.heap.size ∧ w.cell? ⟨rb, ro + j, none⟩ = some (.int .u8 v) ∧ 0 ≤ v ∧ v ≤ 255) :
    Calls Try.prog 15 #[.slice a len cap] w fun e w' => ∃ (C : List ByteArray) (av : Option Addr) (cv : Nat) (s : ByteArray), e = .returned (.tuple #[.slice av C.length cv, .string s]) ∧ C.length ≤ 5 ∧ s.size ≤ 7 ∧ StrsAt w' av C ∧ Below w.heap.size w w' := by
  have hR : Hid (∀ j, j < len → ∃ (rb ro : Nat) (v : Int), a = some ⟨rb, ro, none⟩ ∧ rb < w.heap.size ∧ w.cell? ⟨rb, ro + j, none⟩ = some (.int .u8 v) ∧ 0 ≤ v ∧ v ≤ 255) := row
  clear row
  go_enter Try.func15, Try.ntmps15
  go_wp2_with fail
  refine (new_draw hlen hR.out).mono ?_
  rintro e w1 ⟨c, rfl, hcs, hc1', hb1⟩
  have B1 : Hid (Below w.heap.size w w1) := hb1
  have C1 : Hid (Cur w1 c a len cap) := hc1'
  have hc1w : c < w1.heap.size := hc1'.lt
  clear hR hb1 hc1'
  go_wp2_with fail
  refine (tabany_draw C1.out).mono ?_
  rintro e w2 ⟨nm, vc, vr, C, L, rfl, hnm, hSz, hOc, ⟨G, D, hOr⟩, hc2', hk2⟩
  obtain ⟨av, cv, rfl⟩ := own_sliceL hOc
  obtain ⟨ar, cr, rfl⟩ := own_sliceL hOr.outer
  clear hOr
  have hCl : C.length ≤ 5 := hSz.cl
  have K2 : Hid (Keep c w1 w2) := hk2
  have C2 : Hid (Cur w2 c a len cap) := hc2'
  have OC2 : Hid (w2.ownsRow w1.heap.size 9 1 (.slice av C.length cv) C.length (strV C)) := hOc
  have hs12 := hk2.size
  clear hSz hOc hc2' hk2 C1
  go_wp2_with fail
  obtain ⟨W2, hW2⟩ : ∃ W, W = (w2.alloc (.cells #[.string nm, .slice av C.length cv, .slice ar L.length cr] 32)) := ⟨_, rfl⟩
  have T2 : Hid (TBox W2 w2.heap.size (.string nm) (.slice av C.length cv) (.slice ar L.length cr)) := by rw [hW2]; exact TBox.new w2 _ _ _
  have CW : Hid (Cur W2 c a len cap) := by rw [hW2]; exact C2.out.alloc _
  have KW : Hid (Keep c w2 W2) := by rw [hW2]; exact (Keep.refl c w2).alloc _
  rw [← hW2]
  clear hW2 C2
  obtain ⟨b0, b1, b2⟩ := T2.out.cells
  refine wp_region_held_drew (S := (fun w' => w'.cell? ⟨w2.heap.size, 1, none⟩ = some (.slice av C.length cv))) (by kernel_rfl) ?_ (fun hHeld => ?_)
  · exact b1
  refine wpAnyH_take (i := 0) (by simp only [List.getElem?_toArray, List.getElem?_cons_zero]; rfl) (by kernel_rfl) (by kernel_rfl) (by kernel_rfl) (by intro _ _ _ h; exact h) (Or.inl ⟨by rfl, fun w hSw => by (dsimp only at hSw; go_simp; (try with_reducible rfl))⟩) (by assumption) ?_
  simp only [Act.put, List.setIfInBounds_toArray, List.set_cons_zero, List.set_cons_succ]
  refine wpAnyH_take (i := 1) (by simp only [List.getElem?_toArray, List.getElem?_cons_zero, List.getElem?_cons_succ]; rfl) (by kernel_rfl) (by kernel_rfl) (by kernel_rfl) (by intro _ _ _ h; exact h) (Or.inl ⟨by rfl, fun w hSw => by (dsimp only at hSw; go_simp; (try with_reducible rfl))⟩) (by assumption) ?_
  simp only [Act.put, List.setIfInBounds_toArray, List.set_cons_zero, List.set_cons_succ]
  refine wpAnyH_take (i := 2) (by simp only [List.getElem?_toArray, List.getElem?_cons_zero, List.getElem?_cons_succ]; rfl) (by kernel_rfl) (by kernel_rfl) (by kernel_rfl) (by intro _ _ _ h; exact h) (Or.inl ⟨by rfl, fun w hSw => by (dsimp only at hSw; go_simp; (try with_reducible rfl))⟩) (by assumption) ?_
  simp only [Act.put, List.setIfInBounds_toArray, List.set_cons_zero, List.set_cons_succ]
  refine wpAnyH_ready (rs := [3]) (by kernel_rfl) (by simp) ?_
  refine AllReadyH.cons (by simp only [List.getElem?_toArray, List.getElem?_cons_zero, List.getElem?_cons_succ]; rfl) ?_ AllReadyH.nil
  intro K hK
  go_simp
  refine (column_draw CW.out.drew).mono ?_
  rintro e w3 ⟨s, rfl, hs7, hc3', hk3⟩
  have K3 : Hid (Keep c W2 w3) := (Keep.refl c W2).drew.trans hk3
  obtain ⟨b0, b1, b2⟩ := (T2.out.keep K3.out (by omega)).cells
  have fin : Hid (StrsAt w3 av C ∧ Below w.heap.size w w3) := by
    have hkk : Keep c w1 w3 := (K2.out.trans KW.out).trans K3.out
    have : StrsAt w3 av C ∧ Below w.heap.size w w3 := ⟨(own_strsV (own_keep OC2.out (KW.out.trans K3.out) hc1w)).1, B1.out.trans (hkk.below hcs B1.out.size)⟩
    exact this
  clear hc3' hk3
  go_wp2_with fail
  refine hK.out _ _ b1 (fun hHeld => ?_)
  clear hK K
  try simp only [Act.put, List.setIfInBounds_toArray, List.set_cons_zero, List.set_cons_succ]
  refine wpAnyH_take (i := 4) (by simp only [List.getElem?_toArray, List.getElem?_cons_zero, List.getElem?_cons_succ]; rfl) (by kernel_rfl) (by kernel_rfl) (by kernel_rfl) (by intro _ _ _ h; exact h) (Or.inl ⟨by rfl, fun w hSw => by (dsimp only at hSw; go_simp; (try with_reducible rfl))⟩) (by assumption) ?_
  simp only [Act.put, List.setIfInBounds_toArray, List.set_cons_zero, List.set_cons_succ]
  refine wpAnyH_take (i := 5) (by simp only [List.getElem?_toArray, List.getElem?_cons_zero, List.getElem?_cons_succ]; rfl) (by kernel_rfl) (by kernel_rfl) (by kernel_rfl) (by intro _ _ _ h; exact h) (Or.inl ⟨by rfl, fun w hSw => by (dsimp only at hSw; go_simp; (try with_reducible rfl))⟩) (by assumption) ?_
  simp only [Act.put, List.setIfInBounds_toArray, List.set_cons_zero, List.set_cons_succ]
  refine wpAnyH_done (by kernel_rfl) ?_ _
  go_wp2_with fail
  exact bodyPost_ret (v := .tuple #[.slice av C.length cv, .string s]) (by simp [results, Try.results15, go_sem]) rfl ⟨C, av, cv, s, rfl, hCl, hs7, fin.out.1, fin.out.2⟩

set_option maxRecDepth 100000 in
set_option maxHeartbeats 2000000 in
theorem put_draw {w : World} {a : Option Addr} {len cap : Nat} (hlen : len ≤ 4096)
    (row : ∀ j, j < len → ∃ (rb ro : Nat) (v : Int), a = some ⟨rb, ro, none⟩ ∧ rb < w.heap.size ∧ w.cell? ⟨rb, ro + j, none⟩ = some (.int .u8 v) ∧ 0 ≤ v ∧ v ≤ 255) :
    Calls Try.prog 11 #[.slice a len cap] w fun e w' => DrawnTV w (fun w' _ v => ∃ (g k : Nat) (r : List CT), v = .slice (some ⟨g, 0, none⟩) r.length k ∧ RowAt w' (some ⟨g, 0, none⟩) r ∧ Fit r ∧ r.length ≤ 1000) e w' := by
  have hR : Hid (∀ j, j < len → ∃ (rb ro : Nat) (v : Int), a = some ⟨rb, ro, none⟩ ∧ rb < w.heap.size ∧ w.cell? ⟨rb, ro + j, none⟩ = some (.int .u8 v) ∧ 0 ≤ v ∧ v ≤ 255) := row
  clear row
  go_enter Try.func11, Try.ntmps11
  go_wp2_with fail
  have hR0 : Hid (∀ j, j < len → ∃ (rb ro : Nat) (v : Int), a = some ⟨rb, ro, none⟩ ∧ rb < (w.alloc (.cells #[.string ⟨#[]⟩, .slice none 0 0, .slice none 0 0] 32)).heap.size ∧ (w.alloc (.cells #[.string ⟨#[]⟩, .slice none 0 0, .slice none 0 0] 32)).cell? ⟨rb, ro + j, none⟩ = some (.int .u8 v) ∧ 0 ≤ v ∧ v ≤ 255) := by
    have : ∀ j, j < len → ∃ (rb ro : Nat) (v : Int), a = some ⟨rb, ro, none⟩ ∧ rb < (w.alloc (.cells #[.string ⟨#[]⟩, .slice none 0 0, .slice none 0 0] 32)).heap.size ∧ (w.alloc (.cells #[.string ⟨#[]⟩, .slice none 0 0, .slice none 0 0] 32)).cell? ⟨rb, ro + j, none⟩ = some (.int .u8 v) ∧ 0 ≤ v ∧ v ≤ 255 := fun j hj => by
      obtain ⟨rb, ro, v, h1, h2, h3, h4⟩ := hR.out j hj
      exact ⟨rb, ro, v, h1, by simp; omega, by rw [World.cell?_alloc_past _ _ _ h2]; exact h3, h4⟩
    exact this
  refine (new_draw hlen hR0.out).mono ?_
  rintro e w1 ⟨c, rfl, hcs, hc1', hb1⟩
  have R1 : Hid (TBox w1 w.heap.size (.string ⟨#[]⟩) (.slice none 0 0) (.slice none 0 0)) := (TBox.new w _ _ _).below hb1
  have B1 : Hid (Below w.heap.size w w1) := chainA hb1
  have C1 : Hid (Cur w1 c a len cap) := hc1'
  have hcw : w.heap.size < c := by simp at hcs; omega
  have hc1w : c < w1.heap.size := hc1'.lt
  clear hR hR0 hb1 hc1' hcs
  go_wp2_with fail
  refine (tabany_draw C1.out).mono ?_
  rintro e w2 ⟨nm, vc, vr, C, L, rfl, hnm, hSz, hOc, ⟨G, D, hOr⟩, hc2', hk2⟩
  obtain ⟨av, cv, rfl⟩ := own_sliceL hOc
  obtain ⟨ar, cr, rfl⟩ := own_sliceL hOr.outer
  have DT : Hid (DTab w2 av cv ar cr (nm, C, L)) := dtab_of hnm hSz hOc hOr
  have hCl : C.length ≤ 5 := hSz.cl
  have hLl : L.length ≤ 62 := hSz.rl
  have R2 : Hid (TBox w2 w.heap.size (.string ⟨#[]⟩) (.slice none 0 0) (.slice none 0 0)) := R1.out.keep hk2 (by omega)
  have K2 : Hid (Keep c w1 w2) := hk2
  have C2 : Hid (Cur w2 c a len cap) := hc2'
  have OC2 : Hid (w2.ownsRow w1.heap.size 9 1 (.slice av C.length cv) C.length (strV C) ∧ (∃ G D, OwnRows w2 w1.heap.size (.slice ar L.length cr) L G D) ∧ Sizes C L 5 62) := ⟨hOc, ⟨G, D, hOr⟩, hSz⟩
  have hs12 := hk2.size
  clear hSz hOc hOr hc2' hk2 R1 C1
  go_wp2_with fail
  obtain ⟨W2, hW2⟩ : ∃ W, W = (w2.alloc (.cells #[.string nm, .slice av C.length cv, .slice ar L.length cr] 32)) := ⟨_, rfl⟩
  have T2 : Hid (TBox W2 w2.heap.size (.string nm) (.slice av C.length cv) (.slice ar L.length cr)) := by rw [hW2]; exact TBox.new w2 _ _ _
  have RW : Hid (TBox W2 w.heap.size (.string ⟨#[]⟩) (.slice none 0 0) (.slice none 0 0)) := by rw [hW2]; exact R2.out.alloc _
  have CW : Hid (Cur W2 c a len cap) := by rw [hW2]; exact C2.out.alloc _
  have KW : Hid (Keep c w2 W2) := by rw [hW2]; exact (Keep.refl c w2).alloc _
  have hW2s : w2.heap.size < W2.heap.size := by rw [hW2]; simp
  rw [← hW2]
  clear hW2 R2 C2
  refine (once_draw CW.out 6 (by omega) (by omega)).mono ?_
  rintro e w3 ⟨bb, rfl, hc3', hk3⟩
  have K3 : Hid (Keep c W2 w3) := hk3
  have C3 : Hid (Cur w3 c a len cap) := hc3'
  clear hc3' hk3
  cases bb
  · skip
    go_wp2_with fail
    refine (row_drawI C3.out C.length (by omega) _ rfl).mono ?_
    rintro e w5 ⟨vz, z, rfl, hzn, hzf, hvz, own0, hc5', hk5⟩
    obtain ⟨g, k, rfl, hgg, _⟩ := own_form own0 hvz
    have K5 : Hid (Keep c W2 w5) := K3.out.trans hk5
    have C5 : Hid (Cur w5 c a len cap) := hc5'
    have Z5 : Hid (RowAt w5 (some ⟨g, 0, none⟩) z) := own_row own0
    have F5 : Hid (∀ j, w5.frozen? ⟨g, j, none⟩ = false) := by
      have : ∀ j, w5.frozen? ⟨g, j, none⟩ = false := fun j => own0.frozenAt j
      exact this
    have hg5 : g < w5.heap.size := (own0.lt _ rfl).2
    have ZF : Hid (Fit z) := hzf
    have hzl : z.length ≤ 1000 := by omega
    have hgW : W2.heap.size ≤ g := by have := K3.out.size; omega
    clear hc5' hk5 own0 hzf hvz hzn
    by_cases hz0 : z.length = 0
    · have HZ0 : Hid (z.length = 0) := hz0
      have q5 : ¬ ((0 : Int) < (z.length : Int)) := by omega
      have KX : Hid (Keep c W2 w5) := K5.out
      have RowX : Hid (RowAt w5 (some ⟨g, 0, none⟩) z) := Z5.out
      clear hz0
      have T9 : Hid (TBox w5 w2.heap.size (.string nm) (.slice av C.length cv) (.slice ar L.length cr)) := T2.out.keep KX.out (by omega)
      have R9 : Hid (TBox w5 w.heap.size (.string ⟨#[]⟩) (.slice none 0 0) (.slice none 0 0)) := RW.out.keep KX.out (by omega)
      obtain ⟨b0, b1, b2⟩ := T9.out.cells
      obtain ⟨r0, r1, r2⟩ := R9.out.cells
      obtain ⟨f0, f1, f2⟩ := R9.out.free
      have fin : Hid (∀ u0 u1 u2, DTab (((w5.setCell ⟨w.heap.size, 0, none⟩ u0).setCell ⟨w.heap.size, 1, none⟩ u1).setCell ⟨w.heap.size, 2, none⟩ u2) av cv ar cr (nm, C, L) ∧ RowAt (((w5.setCell ⟨w.heap.size, 0, none⟩ u0).setCell ⟨w.heap.size, 1, none⟩ u1).setCell ⟨w.heap.size, 2, none⟩ u2) (some ⟨g, 0, none⟩) z ∧ Below w.heap.size w (((w5.setCell ⟨w.heap.size, 0, none⟩ u0).setCell ⟨w.heap.size, 1, none⟩ u1).setCell ⟨w.heap.size, 2, none⟩ u2)) := by
        have hkk : Keep c w1 w5 := (K2.out.trans KW.out).trans KX.out
        have hbb : Below w.heap.size w w5 := B1.out.trans (hkk.below (by omega) (by omega))
        have : ∀ u0 u1 u2, DTab (((w5.setCell ⟨w.heap.size, 0, none⟩ u0).setCell ⟨w.heap.size, 1, none⟩ u1).setCell ⟨w.heap.size, 2, none⟩ u2) av cv ar cr (nm, C, L) ∧ RowAt (((w5.setCell ⟨w.heap.size, 0, none⟩ u0).setCell ⟨w.heap.size, 1, none⟩ u1).setCell ⟨w.heap.size, 2, none⟩ u2) (some ⟨g, 0, none⟩) z ∧ Below w.heap.size w (((w5.setCell ⟨w.heap.size, 0, none⟩ u0).setCell ⟨w.heap.size, 1, none⟩ u1).setCell ⟨w.heap.size, 2, none⟩ u2) := fun u0 u1 u2 =>
          ⟨dtab_late (c := c) hnm OC2.out (KW.out.trans KX.out) hc1w (by omega) u0 u1 u2, RowX.out.keepS (P := fun b => b = w.heap.size) (((KeepS.refl (fun b => b = w.heap.size) w5).setCell (p := ⟨w.heap.size, 0, none⟩) rfl _).setCell (p := ⟨w.heap.size, 1, none⟩) rfl _ |>.setCell (p := ⟨w.heap.size, 2, none⟩) rfl _) (by rintro b ⟨_, o, e⟩ hb; cases e; omega), ((hbb.setCell (p := ⟨w.heap.size, 0, none⟩) (Nat.le_refl _) _).setCell (p := ⟨w.heap.size, 1, none⟩) (Nat.le_refl _) _).setCell (p := ⟨w.heap.size, 2, none⟩) (Nat.le_refl _) _⟩
        exact this
      go_wp2_with fail
      exact bodyPost_ret (v := .tuple #[.agg #[.string nm, .slice av C.length cv, .slice ar L.length cr], .slice (some ⟨g, 0, none⟩) z.length k]) (by simp [results, Try.results11, go_sem, r0, r1, r2]) rfl ⟨(nm, C, L), C.length, L.length, av, cv, ar, cr, _, rfl, rfl, rfl, (fin.out _ _ _).1, ⟨g, k, z, rfl, (fin.out _ _ _).2.1, ZF.out, hzl⟩, (fin.out _ _ _).2.2⟩
    have q5 : (0 : Int) < (z.length : Int) := by omega
    go_wp2_with fail
    refine (once_draw C5.out 8 (by omega) (by omega)).mono ?_
    rintro e w6 ⟨b6, rfl, hc6', hk6⟩
    have K6 : Hid (Keep c W2 w6) := K5.out.trans hk6
    have C6 : Hid (Cur w6 c a len cap) := hc6'
    have hgc : g ≠ c := by have := CW.out.lt; omega
    have Z6 : Hid (RowAt w6 (some ⟨g, 0, none⟩) z) := Z5.out.keepS (P := fun b => b = c) ⟨hk6.os, hk6.tape, hk6.output, hk6.size, hk6.block⟩ (by rintro b ⟨_, o, e⟩ hb; cases e; exact hgc hb)
    have F6 : Hid (∀ j, w6.frozen? ⟨g, j, none⟩ = false) := by
      have : ∀ j, w6.frozen? ⟨g, j, none⟩ = false := fun j => by rw [hk6.frozen hg5 hgc]; exact F5.out j
      exact this
    have hs6 := hk6.size
    clear hc6' hk6 Z5 F5 C5 K5
    cases b6
    · have KX : Hid (Keep c W2 w6) := K6.out
      have RowX : Hid (RowAt w6 (some ⟨g, 0, none⟩) z) := Z6.out
      have T9 : Hid (TBox w6 w2.heap.size (.string nm) (.slice av C.length cv) (.slice ar L.length cr)) := T2.out.keep KX.out (by omega)
      have R9 : Hid (TBox w6 w.heap.size (.string ⟨#[]⟩) (.slice none 0 0) (.slice none 0 0)) := RW.out.keep KX.out (by omega)
      obtain ⟨b0, b1, b2⟩ := T9.out.cells
      obtain ⟨r0, r1, r2⟩ := R9.out.cells
      obtain ⟨f0, f1, f2⟩ := R9.out.free
      have fin : Hid (∀ u0 u1 u2, DTab (((w6.setCell ⟨w.heap.size, 0, none⟩ u0).setCell ⟨w.heap.size, 1, none⟩ u1).setCell ⟨w.heap.size, 2, none⟩ u2) av cv ar cr (nm, C, L) ∧ RowAt (((w6.setCell ⟨w.heap.size, 0, none⟩ u0).setCell ⟨w.heap.size, 1, none⟩ u1).setCell ⟨w.heap.size, 2, none⟩ u2) (some ⟨g, 0, none⟩) z ∧ Below w.heap.size w (((w6.setCell ⟨w.heap.size, 0, none⟩ u0).setCell ⟨w.heap.size, 1, none⟩ u1).setCell ⟨w.heap.size, 2, none⟩ u2)) := by
        have hkk : Keep c w1 w6 := (K2.out.trans KW.out).trans KX.out
        have hbb : Below w.heap.size w w6 := B1.out.trans (hkk.below (by omega) (by omega))
        have : ∀ u0 u1 u2, DTab (((w6.setCell ⟨w.heap.size, 0, none⟩ u0).setCell ⟨w.heap.size, 1, none⟩ u1).setCell ⟨w.heap.size, 2, none⟩ u2) av cv ar cr (nm, C, L) ∧ RowAt (((w6.setCell ⟨w.heap.size, 0, none⟩ u0).setCell ⟨w.heap.size, 1, none⟩ u1).setCell ⟨w.heap.size, 2, none⟩ u2) (some ⟨g, 0, none⟩) z ∧ Below w.heap.size w (((w6.setCell ⟨w.heap.size, 0, none⟩ u0).setCell ⟨w.heap.size, 1, none⟩ u1).setCell ⟨w.heap.size, 2, none⟩ u2) := fun u0 u1 u2 =>
          ⟨dtab_late (c := c) hnm OC2.out (KW.out.trans KX.out) hc1w (by omega) u0 u1 u2, RowX.out.keepS (P := fun b => b = w.heap.size) (((KeepS.refl (fun b => b = w.heap.size) w6).setCell (p := ⟨w.heap.size, 0, none⟩) rfl _).setCell (p := ⟨w.heap.size, 1, none⟩) rfl _ |>.setCell (p := ⟨w.heap.size, 2, none⟩) rfl _) (by rintro b ⟨_, o, e⟩ hb; cases e; omega), ((hbb.setCell (p := ⟨w.heap.size, 0, none⟩) (Nat.le_refl _) _).setCell (p := ⟨w.heap.size, 1, none⟩) (Nat.le_refl _) _).setCell (p := ⟨w.heap.size, 2, none⟩) (Nat.le_refl _) _⟩
        exact this
      go_wp2_with fail
      exact bodyPost_ret (v := .tuple #[.agg #[.string nm, .slice av C.length cv, .slice ar L.length cr], .slice (some ⟨g, 0, none⟩) z.length k]) (by simp [results, Try.results11, go_sem, r0, r1, r2]) rfl ⟨(nm, C, L), C.length, L.length, av, cv, ar, cr, _, rfl, rfl, rfl, (fin.out _ _ _).1, ⟨g, k, z, rfl, (fin.out _ _ _).2.1, ZF.out, hzl⟩, (fin.out _ _ _).2.2⟩
    · go_wp2_with fail
      refine (any_draw C6.out).mono ?_
      rintro e w7 ⟨k1, n1, t1, rfl, ht1, hc7', hk7⟩
      have K7 : Hid (Keep c W2 w7) := K6.out.trans hk7
      have Z7 : Hid (RowAt w7 (some ⟨g, 0, none⟩) z) := Z6.out.keepS (P := fun b => b = c) ⟨hk7.os, hk7.tape, hk7.output, hk7.size, hk7.block⟩ (by rintro b ⟨_, o, e⟩ hb; cases e; exact hgc hb)
      have F7 : ∀ j, w7.frozen? ⟨g, j, none⟩ = false := fun j => by rw [hk7.frozen (by omega) hgc]; exact F6.out j
      have i0 := F7 0
      have i1 := F7 1
      have i2 := F7 2
      have hg7 : g < w7.heap.size := by have := hk7.size; omega
      obtain ⟨gb, go, eg, _, c0, c1, c2⟩ := Z7.out 0 (by omega)
      cases eg
      simp only [Nat.zero_mul, Nat.zero_add, Nat.add_zero] at c0 c1 c2
      have KX : Hid (Keep c W2 (((w7.setCell ⟨g, 0, none⟩ (.int .i64 k1)).setCell ⟨g, 1, none⟩ (.int .i64 n1)).setCell ⟨g, 2, none⟩ (.string t1))) := by
        have : Keep c W2 (((w7.setCell ⟨g, 0, none⟩ (.int .i64 k1)).setCell ⟨g, 1, none⟩ (.int .i64 n1)).setCell ⟨g, 2, none⟩ (.string t1)) := (((K7.out.setCell (p := ⟨g, 0, none⟩) (Or.inr hgW) _).setCell (p := ⟨g, 1, none⟩) (Or.inr hgW) _).setCell (p := ⟨g, 2, none⟩) (Or.inr hgW) _)
        exact this
      have RowX : Hid (RowAt (((w7.setCell ⟨g, 0, none⟩ (.int .i64 k1)).setCell ⟨g, 1, none⟩ (.int .i64 n1)).setCell ⟨g, 2, none⟩ (.string t1)) (some ⟨g, 0, none⟩) (z.set 0 (k1, n1, t1))) := by
        have : RowAt (((w7.setCell ⟨g, 0, none⟩ (.int .i64 k1)).setCell ⟨g, 1, none⟩ (.int .i64 n1)).setCell ⟨g, 2, none⟩ (.string t1)) (some ⟨g, 0, none⟩) (z.set 0 (k1, n1, t1)) := by
          refine Z7.out.upd (by simp) ?_ ?_ ?_ ?_
          · intro q h0 h1 h2
            rw [cell_off _ _ _ _ _ (by omega), cell_off _ _ _ _ _ (by omega), cell_off _ _ _ _ _ (by omega)]
          · simp only [Nat.zero_mul, Nat.add_zero]
            rw [cell_off _ _ _ _ _ (by omega), cell_off _ _ _ _ _ (by omega), cell_here _ _ _ _ (by rw [c0]; rfl)]
          · simp only [Nat.zero_mul, Nat.zero_add, Nat.add_zero]
            rw [cell_off _ _ _ _ _ (by omega), cell_here _ _ _ _ (by rw [cell_off _ _ _ _ _ (by omega), c1]; rfl)]
          · simp only [Nat.zero_mul, Nat.zero_add, Nat.add_zero]
            rw [cell_here _ _ _ _ (by rw [cell_off _ _ _ _ _ (by omega), cell_off _ _ _ _ _ (by omega), c2]; rfl)]
        exact this
      have FZ : Hid (Fit (z.set 0 (k1, n1, t1))) := by
        have : Fit (z.set 0 (k1, n1, t1)) := fun j hj => by
          have hj' : j < z.length := by simpa using hj
          by_cases h0 : 0 = j
          · subst h0; rw [List.getElem_set_self]; exact ht1
          · rw [List.getElem_set_ne h0]; exact ZF.out j hj'
        exact this
      clear hc7' hk7 F7 K7
      have T9 : Hid (TBox (((w7.setCell ⟨g, 0, none⟩ (.int .i64 k1)).setCell ⟨g, 1, none⟩ (.int .i64 n1)).setCell ⟨g, 2, none⟩ (.string t1)) w2.heap.size (.string nm) (.slice av C.length cv) (.slice ar L.length cr)) := T2.out.keep KX.out (by omega)
      have R9 : Hid (TBox (((w7.setCell ⟨g, 0, none⟩ (.int .i64 k1)).setCell ⟨g, 1, none⟩ (.int .i64 n1)).setCell ⟨g, 2, none⟩ (.string t1)) w.heap.size (.string ⟨#[]⟩) (.slice none 0 0) (.slice none 0 0)) := RW.out.keep KX.out (by omega)
      obtain ⟨b0, b1, b2⟩ := T9.out.cells
      obtain ⟨r0, r1, r2⟩ := R9.out.cells
      obtain ⟨f0, f1, f2⟩ := R9.out.free
      have fin : Hid (∀ u0 u1 u2, DTab ((((((w7.setCell ⟨g, 0, none⟩ (.int .i64 k1)).setCell ⟨g, 1, none⟩ (.int .i64 n1)).setCell ⟨g, 2, none⟩ (.string t1)).setCell ⟨w.heap.size, 0, none⟩ u0).setCell ⟨w.heap.size, 1, none⟩ u1).setCell ⟨w.heap.size, 2, none⟩ u2) av cv ar cr (nm, C, L) ∧ RowAt ((((((w7.setCell ⟨g, 0, none⟩ (.int .i64 k1)).setCell ⟨g, 1, none⟩ (.int .i64 n1)).setCell ⟨g, 2, none⟩ (.string t1)).setCell ⟨w.heap.size, 0, none⟩ u0).setCell ⟨w.heap.size, 1, none⟩ u1).setCell ⟨w.heap.size, 2, none⟩ u2) (some ⟨g, 0, none⟩) (z.set 0 (k1, n1, t1)) ∧ Below w.heap.size w ((((((w7.setCell ⟨g, 0, none⟩ (.int .i64 k1)).setCell ⟨g, 1, none⟩ (.int .i64 n1)).setCell ⟨g, 2, none⟩ (.string t1)).setCell ⟨w.heap.size, 0, none⟩ u0).setCell ⟨w.heap.size, 1, none⟩ u1).setCell ⟨w.heap.size, 2, none⟩ u2)) := by
        have hkk : Keep c w1 (((w7.setCell ⟨g, 0, none⟩ (.int .i64 k1)).setCell ⟨g, 1, none⟩ (.int .i64 n1)).setCell ⟨g, 2, none⟩ (.string t1)) := (K2.out.trans KW.out).trans KX.out
        have hbb : Below w.heap.size w (((w7.setCell ⟨g, 0, none⟩ (.int .i64 k1)).setCell ⟨g, 1, none⟩ (.int .i64 n1)).setCell ⟨g, 2, none⟩ (.string t1)) := B1.out.trans (hkk.below (by omega) (by omega))
        have : ∀ u0 u1 u2, DTab ((((((w7.setCell ⟨g, 0, none⟩ (.int .i64 k1)).setCell ⟨g, 1, none⟩ (.int .i64 n1)).setCell ⟨g, 2, none⟩ (.string t1)).setCell ⟨w.heap.size, 0, none⟩ u0).setCell ⟨w.heap.size, 1, none⟩ u1).setCell ⟨w.heap.size, 2, none⟩ u2) av cv ar cr (nm, C, L) ∧ RowAt ((((((w7.setCell ⟨g, 0, none⟩ (.int .i64 k1)).setCell ⟨g, 1, none⟩ (.int .i64 n1)).setCell ⟨g, 2, none⟩ (.string t1)).setCell ⟨w.heap.size, 0, none⟩ u0).setCell ⟨w.heap.size, 1, none⟩ u1).setCell ⟨w.heap.size, 2, none⟩ u2) (some ⟨g, 0, none⟩) (z.set 0 (k1, n1, t1)) ∧ Below w.heap.size w ((((((w7.setCell ⟨g, 0, none⟩ (.int .i64 k1)).setCell ⟨g, 1, none⟩ (.int .i64 n1)).setCell ⟨g, 2, none⟩ (.string t1)).setCell ⟨w.heap.size, 0, none⟩ u0).setCell ⟨w.heap.size, 1, none⟩ u1).setCell ⟨w.heap.size, 2, none⟩ u2) := fun u0 u1 u2 =>
          ⟨dtab_late (c := c) hnm OC2.out (KW.out.trans KX.out) hc1w (by omega) u0 u1 u2, RowX.out.keepS (P := fun b => b = w.heap.size) (((KeepS.refl (fun b => b = w.heap.size) (((w7.setCell ⟨g, 0, none⟩ (.int .i64 k1)).setCell ⟨g, 1, none⟩ (.int .i64 n1)).setCell ⟨g, 2, none⟩ (.string t1))).setCell (p := ⟨w.heap.size, 0, none⟩) rfl _).setCell (p := ⟨w.heap.size, 1, none⟩) rfl _ |>.setCell (p := ⟨w.heap.size, 2, none⟩) rfl _) (by rintro b ⟨_, o, e⟩ hb; cases e; omega), ((hbb.setCell (p := ⟨w.heap.size, 0, none⟩) (Nat.le_refl _) _).setCell (p := ⟨w.heap.size, 1, none⟩) (Nat.le_refl _) _).setCell (p := ⟨w.heap.size, 2, none⟩) (Nat.le_refl _) _⟩
        exact this
      go_wp2_with fail
      exact bodyPost_ret (v := .tuple #[.agg #[.string nm, .slice av C.length cv, .slice ar L.length cr], .slice (some ⟨g, 0, none⟩) z.length k]) (by simp [results, Try.results11, go_sem, r0, r1, r2]) rfl ⟨(nm, C, L), C.length, L.length, av, cv, ar, cr, _, rfl, rfl, rfl, (fin.out _ _ _).1, ⟨g, k, z.set 0 (k1, n1, t1), by rw [List.length_set], (fin.out _ _ _).2.1, FZ.out, by rw [List.length_set]; exact hzl⟩, (fin.out _ _ _).2.2⟩
  · go_wp2_with fail
    refine (below_draw C3.out 5 (by omega) (by omega)).mono ?_
    rintro e w4 ⟨y, rfl, hy0, hy1, hc4', hk4⟩
    obtain ⟨y, rfl⟩ := Int.eq_ofNat_of_zero_le hy0
    have K4 : Hid (Keep c W2 w4) := K3.out.trans hk4
    have C4 : Hid (Cur w4 c a len cap) := hc4'
    clear hc4' hk4 C3 K3
    go_wp2_with fail
    refine (row_drawI C4.out y (by omega) _ rfl).mono ?_
    rintro e w5 ⟨vz, z, rfl, hzn, hzf, hvz, own0, hc5', hk5⟩
    obtain ⟨g, k, rfl, hgg, _⟩ := own_form own0 hvz
    have K5 : Hid (Keep c W2 w5) := K4.out.trans hk5
    have C5 : Hid (Cur w5 c a len cap) := hc5'
    have Z5 : Hid (RowAt w5 (some ⟨g, 0, none⟩) z) := own_row own0
    have F5 : Hid (∀ j, w5.frozen? ⟨g, j, none⟩ = false) := by
      have : ∀ j, w5.frozen? ⟨g, j, none⟩ = false := fun j => own0.frozenAt j
      exact this
    have hg5 : g < w5.heap.size := (own0.lt _ rfl).2
    have ZF : Hid (Fit z) := hzf
    have hzl : z.length ≤ 1000 := by omega
    have hgW : W2.heap.size ≤ g := by have := K4.out.size; omega
    clear hc5' hk5 own0 hzf hvz hzn
    by_cases hz0 : z.length = 0
    · have HZ0 : Hid (z.length = 0) := hz0
      have q5 : ¬ ((0 : Int) < (z.length : Int)) := by omega
      have KX : Hid (Keep c W2 w5) := K5.out
      have RowX : Hid (RowAt w5 (some ⟨g, 0, none⟩) z) := Z5.out
      clear hz0
      have T9 : Hid (TBox w5 w2.heap.size (.string nm) (.slice av C.length cv) (.slice ar L.length cr)) := T2.out.keep KX.out (by omega)
      have R9 : Hid (TBox w5 w.heap.size (.string ⟨#[]⟩) (.slice none 0 0) (.slice none 0 0)) := RW.out.keep KX.out (by omega)
      obtain ⟨b0, b1, b2⟩ := T9.out.cells
      obtain ⟨r0, r1, r2⟩ := R9.out.cells
      obtain ⟨f0, f1, f2⟩ := R9.out.free
      have fin : Hid (∀ u0 u1 u2, DTab (((w5.setCell ⟨w.heap.size, 0, none⟩ u0).setCell ⟨w.heap.size, 1, none⟩ u1).setCell ⟨w.heap.size, 2, none⟩ u2) av cv ar cr (nm, C, L) ∧ RowAt (((w5.setCell ⟨w.heap.size, 0, none⟩ u0).setCell ⟨w.heap.size, 1, none⟩ u1).setCell ⟨w.heap.size, 2, none⟩ u2) (some ⟨g, 0, none⟩) z ∧ Below w.heap.size w (((w5.setCell ⟨w.heap.size, 0, none⟩ u0).setCell ⟨w.heap.size, 1, none⟩ u1).setCell ⟨w.heap.size, 2, none⟩ u2)) := by
        have hkk : Keep c w1 w5 := (K2.out.trans KW.out).trans KX.out
        have hbb : Below w.heap.size w w5 := B1.out.trans (hkk.below (by omega) (by omega))
        have : ∀ u0 u1 u2, DTab (((w5.setCell ⟨w.heap.size, 0, none⟩ u0).setCell ⟨w.heap.size, 1, none⟩ u1).setCell ⟨w.heap.size, 2, none⟩ u2) av cv ar cr (nm, C, L) ∧ RowAt (((w5.setCell ⟨w.heap.size, 0, none⟩ u0).setCell ⟨w.heap.size, 1, none⟩ u1).setCell ⟨w.heap.size, 2, none⟩ u2) (some ⟨g, 0, none⟩) z ∧ Below w.heap.size w (((w5.setCell ⟨w.heap.size, 0, none⟩ u0).setCell ⟨w.heap.size, 1, none⟩ u1).setCell ⟨w.heap.size, 2, none⟩ u2) := fun u0 u1 u2 =>
          ⟨dtab_late (c := c) hnm OC2.out (KW.out.trans KX.out) hc1w (by omega) u0 u1 u2, RowX.out.keepS (P := fun b => b = w.heap.size) (((KeepS.refl (fun b => b = w.heap.size) w5).setCell (p := ⟨w.heap.size, 0, none⟩) rfl _).setCell (p := ⟨w.heap.size, 1, none⟩) rfl _ |>.setCell (p := ⟨w.heap.size, 2, none⟩) rfl _) (by rintro b ⟨_, o, e⟩ hb; cases e; omega), ((hbb.setCell (p := ⟨w.heap.size, 0, none⟩) (Nat.le_refl _) _).setCell (p := ⟨w.heap.size, 1, none⟩) (Nat.le_refl _) _).setCell (p := ⟨w.heap.size, 2, none⟩) (Nat.le_refl _) _⟩
        exact this
      go_wp2_with fail
      exact bodyPost_ret (v := .tuple #[.agg #[.string nm, .slice av C.length cv, .slice ar L.length cr], .slice (some ⟨g, 0, none⟩) z.length k]) (by simp [results, Try.results11, go_sem, r0, r1, r2]) rfl ⟨(nm, C, L), C.length, L.length, av, cv, ar, cr, _, rfl, rfl, rfl, (fin.out _ _ _).1, ⟨g, k, z, rfl, (fin.out _ _ _).2.1, ZF.out, hzl⟩, (fin.out _ _ _).2.2⟩
    have q5 : (0 : Int) < (z.length : Int) := by omega
    go_wp2_with fail
    refine (once_draw C5.out 8 (by omega) (by omega)).mono ?_
    rintro e w6 ⟨b6, rfl, hc6', hk6⟩
    have K6 : Hid (Keep c W2 w6) := K5.out.trans hk6
    have C6 : Hid (Cur w6 c a len cap) := hc6'
    have hgc : g ≠ c := by have := CW.out.lt; omega
    have Z6 : Hid (RowAt w6 (some ⟨g, 0, none⟩) z) := Z5.out.keepS (P := fun b => b = c) ⟨hk6.os, hk6.tape, hk6.output, hk6.size, hk6.block⟩ (by rintro b ⟨_, o, e⟩ hb; cases e; exact hgc hb)
    have F6 : Hid (∀ j, w6.frozen? ⟨g, j, none⟩ = false) := by
      have : ∀ j, w6.frozen? ⟨g, j, none⟩ = false := fun j => by rw [hk6.frozen hg5 hgc]; exact F5.out j
      exact this
    have hs6 := hk6.size
    clear hc6' hk6 Z5 F5 C5 K5
    cases b6
    · have KX : Hid (Keep c W2 w6) := K6.out
      have RowX : Hid (RowAt w6 (some ⟨g, 0, none⟩) z) := Z6.out
      have T9 : Hid (TBox w6 w2.heap.size (.string nm) (.slice av C.length cv) (.slice ar L.length cr)) := T2.out.keep KX.out (by omega)
      have R9 : Hid (TBox w6 w.heap.size (.string ⟨#[]⟩) (.slice none 0 0) (.slice none 0 0)) := RW.out.keep KX.out (by omega)
      obtain ⟨b0, b1, b2⟩ := T9.out.cells
      obtain ⟨r0, r1, r2⟩ := R9.out.cells
      obtain ⟨f0, f1, f2⟩ := R9.out.free
      have fin : Hid (∀ u0 u1 u2, DTab (((w6.setCell ⟨w.heap.size, 0, none⟩ u0).setCell ⟨w.heap.size, 1, none⟩ u1).setCell ⟨w.heap.size, 2, none⟩ u2) av cv ar cr (nm, C, L) ∧ RowAt (((w6.setCell ⟨w.heap.size, 0, none⟩ u0).setCell ⟨w.heap.size, 1, none⟩ u1).setCell ⟨w.heap.size, 2, none⟩ u2) (some ⟨g, 0, none⟩) z ∧ Below w.heap.size w (((w6.setCell ⟨w.heap.size, 0, none⟩ u0).setCell ⟨w.heap.size, 1, none⟩ u1).setCell ⟨w.heap.size, 2, none⟩ u2)) := by
        have hkk : Keep c w1 w6 := (K2.out.trans KW.out).trans KX.out
        have hbb : Below w.heap.size w w6 := B1.out.trans (hkk.below (by omega) (by omega))
        have : ∀ u0 u1 u2, DTab (((w6.setCell ⟨w.heap.size, 0, none⟩ u0).setCell ⟨w.heap.size, 1, none⟩ u1).setCell ⟨w.heap.size, 2, none⟩ u2) av cv ar cr (nm, C, L) ∧ RowAt (((w6.setCell ⟨w.heap.size, 0, none⟩ u0).setCell ⟨w.heap.size, 1, none⟩ u1).setCell ⟨w.heap.size, 2, none⟩ u2) (some ⟨g, 0, none⟩) z ∧ Below w.heap.size w (((w6.setCell ⟨w.heap.size, 0, none⟩ u0).setCell ⟨w.heap.size, 1, none⟩ u1).setCell ⟨w.heap.size, 2, none⟩ u2) := fun u0 u1 u2 =>
          ⟨dtab_late (c := c) hnm OC2.out (KW.out.trans KX.out) hc1w (by omega) u0 u1 u2, RowX.out.keepS (P := fun b => b = w.heap.size) (((KeepS.refl (fun b => b = w.heap.size) w6).setCell (p := ⟨w.heap.size, 0, none⟩) rfl _).setCell (p := ⟨w.heap.size, 1, none⟩) rfl _ |>.setCell (p := ⟨w.heap.size, 2, none⟩) rfl _) (by rintro b ⟨_, o, e⟩ hb; cases e; omega), ((hbb.setCell (p := ⟨w.heap.size, 0, none⟩) (Nat.le_refl _) _).setCell (p := ⟨w.heap.size, 1, none⟩) (Nat.le_refl _) _).setCell (p := ⟨w.heap.size, 2, none⟩) (Nat.le_refl _) _⟩
        exact this
      go_wp2_with fail
      exact bodyPost_ret (v := .tuple #[.agg #[.string nm, .slice av C.length cv, .slice ar L.length cr], .slice (some ⟨g, 0, none⟩) z.length k]) (by simp [results, Try.results11, go_sem, r0, r1, r2]) rfl ⟨(nm, C, L), C.length, L.length, av, cv, ar, cr, _, rfl, rfl, rfl, (fin.out _ _ _).1, ⟨g, k, z, rfl, (fin.out _ _ _).2.1, ZF.out, hzl⟩, (fin.out _ _ _).2.2⟩
    · go_wp2_with fail
      refine (any_draw C6.out).mono ?_
      rintro e w7 ⟨k1, n1, t1, rfl, ht1, hc7', hk7⟩
      have K7 : Hid (Keep c W2 w7) := K6.out.trans hk7
      have Z7 : Hid (RowAt w7 (some ⟨g, 0, none⟩) z) := Z6.out.keepS (P := fun b => b = c) ⟨hk7.os, hk7.tape, hk7.output, hk7.size, hk7.block⟩ (by rintro b ⟨_, o, e⟩ hb; cases e; exact hgc hb)
      have F7 : ∀ j, w7.frozen? ⟨g, j, none⟩ = false := fun j => by rw [hk7.frozen (by omega) hgc]; exact F6.out j
      have i0 := F7 0
      have i1 := F7 1
      have i2 := F7 2
      have hg7 : g < w7.heap.size := by have := hk7.size; omega
      obtain ⟨gb, go, eg, _, c0, c1, c2⟩ := Z7.out 0 (by omega)
      cases eg
      simp only [Nat.zero_mul, Nat.zero_add, Nat.add_zero] at c0 c1 c2
      have KX : Hid (Keep c W2 (((w7.setCell ⟨g, 0, none⟩ (.int .i64 k1)).setCell ⟨g, 1, none⟩ (.int .i64 n1)).setCell ⟨g, 2, none⟩ (.string t1))) := by
        have : Keep c W2 (((w7.setCell ⟨g, 0, none⟩ (.int .i64 k1)).setCell ⟨g, 1, none⟩ (.int .i64 n1)).setCell ⟨g, 2, none⟩ (.string t1)) := (((K7.out.setCell (p := ⟨g, 0, none⟩) (Or.inr hgW) _).setCell (p := ⟨g, 1, none⟩) (Or.inr hgW) _).setCell (p := ⟨g, 2, none⟩) (Or.inr hgW) _)
        exact this
      have RowX : Hid (RowAt (((w7.setCell ⟨g, 0, none⟩ (.int .i64 k1)).setCell ⟨g, 1, none⟩ (.int .i64 n1)).setCell ⟨g, 2, none⟩ (.string t1)) (some ⟨g, 0, none⟩) (z.set 0 (k1, n1, t1))) := by
        have : RowAt (((w7.setCell ⟨g, 0, none⟩ (.int .i64 k1)).setCell ⟨g, 1, none⟩ (.int .i64 n1)).setCell ⟨g, 2, none⟩ (.string t1)) (some ⟨g, 0, none⟩) (z.set 0 (k1, n1, t1)) := by
          refine Z7.out.upd (by simp) ?_ ?_ ?_ ?_
          · intro q h0 h1 h2
            rw [cell_off _ _ _ _ _ (by omega), cell_off _ _ _ _ _ (by omega), cell_off _ _ _ _ _ (by omega)]
          · simp only [Nat.zero_mul, Nat.add_zero]
            rw [cell_off _ _ _ _ _ (by omega), cell_off _ _ _ _ _ (by omega), cell_here _ _ _ _ (by rw [c0]; rfl)]
          · simp only [Nat.zero_mul, Nat.zero_add, Nat.add_zero]
            rw [cell_off _ _ _ _ _ (by omega), cell_here _ _ _ _ (by rw [cell_off _ _ _ _ _ (by omega), c1]; rfl)]
          · simp only [Nat.zero_mul, Nat.zero_add, Nat.add_zero]
            rw [cell_here _ _ _ _ (by rw [cell_off _ _ _ _ _ (by omega), cell_off _ _ _ _ _ (by omega), c2]; rfl)]
        exact this
      have FZ : Hid (Fit (z.set 0 (k1, n1, t1))) := by
        have : Fit (z.set 0 (k1, n1, t1)) := fun j hj => by
          have hj' : j < z.length := by simpa using hj
          by_cases h0 : 0 = j
          · subst h0; rw [List.getElem_set_self]; exact ht1
          · rw [List.getElem_set_ne h0]; exact ZF.out j hj'
        exact this
      clear hc7' hk7 F7 K7
      have T9 : Hid (TBox (((w7.setCell ⟨g, 0, none⟩ (.int .i64 k1)).setCell ⟨g, 1, none⟩ (.int .i64 n1)).setCell ⟨g, 2, none⟩ (.string t1)) w2.heap.size (.string nm) (.slice av C.length cv) (.slice ar L.length cr)) := T2.out.keep KX.out (by omega)
      have R9 : Hid (TBox (((w7.setCell ⟨g, 0, none⟩ (.int .i64 k1)).setCell ⟨g, 1, none⟩ (.int .i64 n1)).setCell ⟨g, 2, none⟩ (.string t1)) w.heap.size (.string ⟨#[]⟩) (.slice none 0 0) (.slice none 0 0)) := RW.out.keep KX.out (by omega)
      obtain ⟨b0, b1, b2⟩ := T9.out.cells
      obtain ⟨r0, r1, r2⟩ := R9.out.cells
      obtain ⟨f0, f1, f2⟩ := R9.out.free
      have fin : Hid (∀ u0 u1 u2, DTab ((((((w7.setCell ⟨g, 0, none⟩ (.int .i64 k1)).setCell ⟨g, 1, none⟩ (.int .i64 n1)).setCell ⟨g, 2, none⟩ (.string t1)).setCell ⟨w.heap.size, 0, none⟩ u0).setCell ⟨w.heap.size, 1, none⟩ u1).setCell ⟨w.heap.size, 2, none⟩ u2) av cv ar cr (nm, C, L) ∧ RowAt ((((((w7.setCell ⟨g, 0, none⟩ (.int .i64 k1)).setCell ⟨g, 1, none⟩ (.int .i64 n1)).setCell ⟨g, 2, none⟩ (.string t1)).setCell ⟨w.heap.size, 0, none⟩ u0).setCell ⟨w.heap.size, 1, none⟩ u1).setCell ⟨w.heap.size, 2, none⟩ u2) (some ⟨g, 0, none⟩) (z.set 0 (k1, n1, t1)) ∧ Below w.heap.size w ((((((w7.setCell ⟨g, 0, none⟩ (.int .i64 k1)).setCell ⟨g, 1, none⟩ (.int .i64 n1)).setCell ⟨g, 2, none⟩ (.string t1)).setCell ⟨w.heap.size, 0, none⟩ u0).setCell ⟨w.heap.size, 1, none⟩ u1).setCell ⟨w.heap.size, 2, none⟩ u2)) := by
        have hkk : Keep c w1 (((w7.setCell ⟨g, 0, none⟩ (.int .i64 k1)).setCell ⟨g, 1, none⟩ (.int .i64 n1)).setCell ⟨g, 2, none⟩ (.string t1)) := (K2.out.trans KW.out).trans KX.out
        have hbb : Below w.heap.size w (((w7.setCell ⟨g, 0, none⟩ (.int .i64 k1)).setCell ⟨g, 1, none⟩ (.int .i64 n1)).setCell ⟨g, 2, none⟩ (.string t1)) := B1.out.trans (hkk.below (by omega) (by omega))
        have : ∀ u0 u1 u2, DTab ((((((w7.setCell ⟨g, 0, none⟩ (.int .i64 k1)).setCell ⟨g, 1, none⟩ (.int .i64 n1)).setCell ⟨g, 2, none⟩ (.string t1)).setCell ⟨w.heap.size, 0, none⟩ u0).setCell ⟨w.heap.size, 1, none⟩ u1).setCell ⟨w.heap.size, 2, none⟩ u2) av cv ar cr (nm, C, L) ∧ RowAt ((((((w7.setCell ⟨g, 0, none⟩ (.int .i64 k1)).setCell ⟨g, 1, none⟩ (.int .i64 n1)).setCell ⟨g, 2, none⟩ (.string t1)).setCell ⟨w.heap.size, 0, none⟩ u0).setCell ⟨w.heap.size, 1, none⟩ u1).setCell ⟨w.heap.size, 2, none⟩ u2) (some ⟨g, 0, none⟩) (z.set 0 (k1, n1, t1)) ∧ Below w.heap.size w ((((((w7.setCell ⟨g, 0, none⟩ (.int .i64 k1)).setCell ⟨g, 1, none⟩ (.int .i64 n1)).setCell ⟨g, 2, none⟩ (.string t1)).setCell ⟨w.heap.size, 0, none⟩ u0).setCell ⟨w.heap.size, 1, none⟩ u1).setCell ⟨w.heap.size, 2, none⟩ u2) := fun u0 u1 u2 =>
          ⟨dtab_late (c := c) hnm OC2.out (KW.out.trans KX.out) hc1w (by omega) u0 u1 u2, RowX.out.keepS (P := fun b => b = w.heap.size) (((KeepS.refl (fun b => b = w.heap.size) (((w7.setCell ⟨g, 0, none⟩ (.int .i64 k1)).setCell ⟨g, 1, none⟩ (.int .i64 n1)).setCell ⟨g, 2, none⟩ (.string t1))).setCell (p := ⟨w.heap.size, 0, none⟩) rfl _).setCell (p := ⟨w.heap.size, 1, none⟩) rfl _ |>.setCell (p := ⟨w.heap.size, 2, none⟩) rfl _) (by rintro b ⟨_, o, e⟩ hb; cases e; omega), ((hbb.setCell (p := ⟨w.heap.size, 0, none⟩) (Nat.le_refl _) _).setCell (p := ⟨w.heap.size, 1, none⟩) (Nat.le_refl _) _).setCell (p := ⟨w.heap.size, 2, none⟩) (Nat.le_refl _) _⟩
        exact this
      go_wp2_with fail
      exact bodyPost_ret (v := .tuple #[.agg #[.string nm, .slice av C.length cv, .slice ar L.length cr], .slice (some ⟨g, 0, none⟩) z.length k]) (by simp [results, Try.results11, go_sem, r0, r1, r2]) rfl ⟨(nm, C, L), C.length, L.length, av, cv, ar, cr, _, rfl, rfl, rfl, (fin.out _ _ _).1, ⟨g, k, z.set 0 (k1, n1, t1), by rw [List.length_set], (fin.out _ _ _).2.1, FZ.out, by rw [List.length_set]; exact hzl⟩, (fin.out _ _ _).2.2⟩

end Go.Proofs.Ytbjpjhhdnbclbab
