/-
  A part of the proof: TabDraw3.
-/
import Derived.Test.YteamdmcgkpeelabGreatDoorPart8

/-
  The contract of the model's draw of any table, right or wrong.
-/
namespace Go.Proofs.YteamdmcgkpeelabGreatDoor
open Go.ChangeShapes Go.WideShapes Go.ChangeAt Go.RowKit
attribute [local go_sem ↓] Go.wp_at_zero Go.wp_at_succ
attribute [local simp] World.cell?_alloc_past World.cell?_alloc_at World.frozen?_alloc_at cell_far cell_off cell_here World.frozen?_alloc_past

/-- All that stands while a drawn table is bent: the result's block, the table's, the cursor. -/
structure SA (w0 w : World) (B c : Nat) (a : Option Addr) (len cap : Nat) (nm : ByteArray) (vc vr : Value) (C : List ByteArray) (L : List (List CT)) : Prop where
  td : TD w (w0.heap.size + 1) B nm vc vr C L
  rb : TBox w w0.heap.size (.string ⟨#[]⟩) (.slice none 0 0) (.slice none 0 0)
  cur : Cur w c a len cap
  kp : Keep c w0 w
  hB : w0.heap.size < B
theorem SA.keep {w0 w w' : World} {B c : Nat} {a : Option Addr} {len cap : Nat} {nm : ByteArray} {vc vr : Value} {C : List ByteArray} {L : List (List CT)} (h : SA w0 w B c a len cap nm vc vr C L) (hc : c < w0.heap.size) (hk : Keep c w w') (hcu : Cur w' c a len cap) : SA w0 w' B c a len cap nm vc vr C L :=
  ⟨h.td.keep hk (by omega) (by have := h.hB; omega), h.rb.keep hk (by omega), hcu, h.kp.trans hk, h.hB⟩
theorem SA.alloc {w0 w : World} {B c : Nat} {a : Option Addr} {len cap : Nat} {nm : ByteArray} {vc vr : Value} {C : List ByteArray} {L : List (List CT)} (h : SA w0 w B c a len cap nm vc vr C L) (hc : c < w0.heap.size) (o : Obj) : SA w0 (w.alloc o) B c a len cap nm vc vr C L :=
  h.keep hc ((Keep.refl c w).alloc o) (h.cur.alloc o)
theorem SA.drew {w0 w : World} {B c : Nat} {a : Option Addr} {len cap : Nat} {nm : ByteArray} {vc vr : Value} {C : List ByteArray} {L : List (List CT)} (h : SA w0 w B c a len cap nm vc vr C L) (hc : c < w0.heap.size) : SA w0 w.drew B c a len cap nm vc vr C L :=
  h.keep hc (Keep.refl c w).drew h.cur.drew
theorem SA.addCol {w0 w w2 : World} {B c : Nat} {a : Option Addr} {len cap : Nat} {nm : ByteArray} {vc vr v' : Value} {C : List ByteArray} {L : List (List CT)} {s : ByteArray} (h : SA w0 w B c a len cap nm vc vr C L) (hc : c < w0.heap.size) (own : w2.ownsRow (w0.heap.size + 1) 9 1 v' (C.length + 1) (strV C ++ [.string s])) (hg : w.grownBy w2 vc.ownBlock) :
    SA w0 (w2.setCell ⟨B, 1, none⟩ v') B c a len cap nm v' vr (C ++ [s]) L := by
  have hB := h.hB
  have hb0 : Below (w0.heap.size + 1) w w2 := (Below.refl _ w).grown hg (by have := h.td.box.lt; omega) (fun k hk => by have := (h.td.cols.lt k hk).1; omega)
  have hb : Below (w0.heap.size + 1) w (w2.setCell ⟨B, 1, none⟩ v') := hb0.setCell (p := ⟨B, 1, none⟩) (by show _ ≤ B; omega) _
  exact ⟨h.td.addCol own hg, h.rb.of (hb.block _ (by omega)), h.cur.far hb (by omega), h.kp.far hb (by omega), hB⟩
theorem SA.addRow {w0 w w2 : World} {B c : Nat} {a : Option Addr} {len cap : Nat} {nm : ByteArray} {vc vr v' : Value} {C : List ByteArray} {L : List (List CT)} {x : List CT} {g k : Nat} {o : Obj} {G D : Nat → Nat} (h : SA w0 w B c a len cap nm vc vr C L) (hc : c < w0.heap.size) (O : OwnRows w (w0.heap.size + 1) vr L G D) (hgx : ∀ i, i < L.length → G i ≠ g)
    (ownx : w.ownsRow (w0.heap.size + 1) 78 3 (.slice (some ⟨g, 0, none⟩) x.length k) x.length (flat x))
    (own : w2.ownsRow (w0.heap.size + 1) 67 1 v' (L.length + 1) ((List.range L.length).map (headOf G D L) ++ [.slice (some ⟨g, 0, none⟩) x.length k])) (hg : (w.alloc o).grownBy w2 vr.ownBlock) :
    SA w0 (w2.setCell ⟨B, 2, none⟩ v') B c a len cap nm vc v' C (L ++ [x]) := by
  have hB := h.hB
  have ha := h.alloc hc o
  have hb0 : Below (w0.heap.size + 1) w w2 := ((Below.refl _ w).alloc (by have := h.td.box.lt; omega) o).grown hg (by have := ha.td.box.lt; omega) (fun k hk => by have := (O.outer.lt k hk).1; omega)
  have hb : Below (w0.heap.size + 1) w (w2.setCell ⟨B, 2, none⟩ v') := hb0.setCell (p := ⟨B, 2, none⟩) (by show _ ≤ B; omega) _
  exact ⟨h.td.addRow O hgx ownx own hg, h.rb.of (hb.block _ (by omega)), h.cur.far hb (by omega), h.kp.far hb (by omega), hB⟩
/-- A field of the table's block is stored. -/
theorem SA.far {w0 w w' : World} {B c : Nat} {a : Option Addr} {len cap : Nat} {nm nm' : ByteArray} {vc vr vc' vr' : Value} {C C' : List ByteArray} {L L' : List (List CT)} (h : SA w0 w B c a len cap nm vc vr C L) (hc : c < w0.heap.size) (hb : Below (w0.heap.size + 1) w w') (td : TD w' (w0.heap.size + 1) B nm' vc' vr' C' L') : SA w0 w' B c a len cap nm' vc' vr' C' L' :=
  ⟨td, h.rb.of (hb.block _ (by omega)), h.cur.far hb (by omega), h.kp.far hb (by omega), h.hB⟩
theorem TD.setName {w : World} {base B : Nat} {nm s : ByteArray} {vc vr : Value} {C : List ByteArray} {L : List (List CT)} (h : TD w base B nm vc vr C L) : TD (w.setCell ⟨B, 0, none⟩ (.string s)) base B s vc vr C L := by
  obtain ⟨G, D, O⟩ := h.rows
  exact ⟨h.box.set0 _, own_setT h.cols h.box (by decide) 0 _, G, D, O.setT h.box (by decide) (by decide) 0 _⟩
theorem TD.setCols {w : World} {base B : Nat} {nm : ByteArray} {vc vr v' : Value} {C C' : List ByteArray} {L : List (List CT)} (h : TD w base B nm vc vr C L) (own : w.ownsRow base 9 1 v' C'.length (strV C')) : TD (w.setCell ⟨B, 1, none⟩ v') base B nm v' vr C' L := by
  obtain ⟨G, D, O⟩ := h.rows
  exact ⟨h.box.set1 _, own_setT own h.box (by decide) 1 _, G, D, O.setT h.box (by decide) (by decide) 1 _⟩
theorem TD.setRows {w : World} {base B : Nat} {nm : ByteArray} {vc vr v' : Value} {C : List ByteArray} {L L' : List (List CT)} {G D : Nat → Nat} (h : TD w base B nm vc vr C L) (own : OwnRows w base v' L' G D) : TD (w.setCell ⟨B, 2, none⟩ v') base B nm vc v' C L' :=
  ⟨h.box.set2 _, own_setT h.cols h.box (by decide) 2 _, G, D, own.setT h.box (by decide) (by decide) 2 _⟩
theorem own_sliceL {w : World} {base : Nat} {e : TypeId} {size n : Nat} {v : Value} {xs : List Value} (h : w.ownsRow base e size v n xs) : ∃ a c, v = .slice a n c := by
  rcases h.2 with ⟨h1, h2⟩ | ⟨g, k, cur, h', _⟩
  · exact ⟨none, 0, by rw [h1, h2]⟩
  · exact ⟨_, _, h'⟩

theorem infoStrE : (Tryz.prog.info? 9).map (fun i => (i.zero, i.size, i.bytes)) = some (some (.string ⟨#[]⟩), 1, 16) := by kernel_rfl
theorem infoRwE : (Tryz.prog.info? 67).map (fun i => (i.zero, i.size, i.bytes)) = some (some (.slice none 0 0), 1, 24) := by kernel_rfl

set_option maxRecDepth 100000 in
set_option maxHeartbeats 8000000 in
theorem tabany_draw {w : World} {c : Nat} {a : Option Addr} {len cap : Nat} (h : Cur w c a len cap) :
    Calls Tryz.prog 25 #[.pointer (some ⟨c, 0, none⟩)] w fun e w' => DrawnT w c a len cap 5 62 e w' := by
  obtain ⟨iS, hiS, hs0, hs1, hs2⟩ := info_parts infoStrE
  obtain ⟨iR, hiR, hr0, hr1, hr2⟩ := info_parts infoRwE
  have hcw := h.lt
  have HC : Hid (Cur w c a len cap) := h
  clear h
  go_enter Tryz.func25, Tryz.ntmps25
  go_wp2_with fail
  refine (name_draw (HC.out.alloc (.cells #[.string ⟨#[]⟩, .slice none 0 0, .slice none 0 0] 35))).mono ?_
  rintro e w1 ⟨nm0, rfl, hnm0, hc1', hk1⟩
  have R1 : Hid (TBox w1 w.heap.size (.string ⟨#[]⟩) (.slice none 0 0) (.slice none 0 0)) := (TBox.new w _ _ _).keep hk1 (by omega)
  have K1 : Hid (Keep c w w1) := ((Keep.refl c w).alloc _).trans hk1
  have C1 : Hid (Cur w1 c a len cap) := hc1'
  have hs1' : w.heap.size < w1.heap.size := R1.out.lt
  clear hc1' hk1 HC
  go_wp2_with fail
  refine (tab_draw C1.out nm0 hnm0).mono ?_
  rintro e w2 ⟨nm, vc, vr, C, L, rfl, hnm, hSz, hOc, ⟨G0, D0, hOr⟩, hc2', hk2⟩
  obtain ⟨av, cv, rfl⟩ := own_sliceL hOc
  obtain ⟨ar, cr, rfl⟩ := own_sliceL hOr.outer
  have SZ : Hid (Sizes C L 4 8) := hSz
  have hCl := hSz.cl
  have hLl := hSz.rl
  have S2 : Hid (SA w (w2.alloc (.cells #[.string nm, .slice av C.length cv, .slice ar L.length cr] 35)) w2.heap.size c a len cap nm (.slice av C.length cv) (.slice ar L.length cr) C L) := by
    have hs2' := hk2.size
    have : SA w (w2.alloc (.cells #[.string nm, .slice av C.length cv, .slice ar L.length cr] 35)) w2.heap.size c a len cap nm (.slice av C.length cv) (.slice ar L.length cr) C L :=
      ⟨⟨TBox.new w2 _ _ _, own_base (hOc.alloc _) (by omega), G0, D0, ((hOr.below ((Below.refl _ _).alloc (Nat.le_refl _) _)).base (by omega))⟩, ((R1.out.keep hk2 (by omega)).alloc _), hc2'.alloc _, (K1.out.trans hk2).alloc _, by omega⟩
    exact this
  have hs12 := hk2.size
  clear hSz hOc hOr hc2' hk2 R1 K1 C1
  go_wp2_with fail
  obtain ⟨W2, hW2⟩ : ∃ W, W = (w2.alloc (.cells #[.string nm, .slice av C.length cv, .slice ar L.length cr] 35)) := ⟨_, rfl⟩
  rw [← hW2] at S2 ⊢
  clear hW2
  refine (once_draw S2.out.cur 8 (by omega) (by omega)).mono ?_
  rintro e w3 ⟨bb, rfl, hc3', hk3⟩
  have S3 : Hid (SA w w3 w2.heap.size c a len cap nm (.slice av C.length cv) (.slice ar L.length cr) C L) := S2.out.keep hcw hk3 hc3'
  clear hc3' hk3 S2
  cases bb
  · obtain ⟨b0, b1, b2⟩ := S3.out.td.box.cells
    obtain ⟨r0, r1, r2⟩ := S3.out.rb.cells
    obtain ⟨f0, f1, f2⟩ := S3.out.rb.free
    go_wp2
    refine bodyPost_ret (v := .agg #[.string nm, .slice av C.length cv, .slice ar L.length cr]) (by simp [results, Tryz.results25, go_sem, r0, r1, r2]) rfl ⟨nm, _, _, C, L, rfl, hnm, ⟨by omega, SZ.out.cf, by omega, SZ.out.rf, SZ.out.rn⟩, ?_, ?_, ?_, ?_⟩
    · exact own_keepC (c := w.heap.size) S3.out.td.cols (((((Keep.refl w.heap.size w3)).setCell (p := ⟨w.heap.size, 0, none⟩) (Or.inl rfl) _).setCell (p := ⟨w.heap.size, 1, none⟩) (Or.inl rfl) _).setCell (p := ⟨w.heap.size, 2, none⟩) (Or.inl rfl) _) (by omega) (by omega)
    · obtain ⟨G, D, O⟩ := S3.out.td.rows
      exact ⟨G, D, O.keepC (c := w.heap.size) (((((Keep.refl w.heap.size w3)).setCell (p := ⟨w.heap.size, 0, none⟩) (Or.inl rfl) _).setCell (p := ⟨w.heap.size, 1, none⟩) (Or.inl rfl) _).setCell (p := ⟨w.heap.size, 2, none⟩) (Or.inl rfl) _) (by omega) (by omega)⟩
    · repeat (first | exact S3.out.cur | refine Cur.setAbove ?_ (by omega) _)
    · repeat (first | exact S3.out.kp | refine Keep.setCell ?_ (Or.inr (Nat.le_refl _)) _)
  go_wp2_with fail
  refine (below_draw S3.out.cur 5 (by omega) (by omega)).mono ?_
  rintro e w4 ⟨x, rfl, hx0, hx1, hc4', hk4⟩
  have S4 : Hid (SA w w4 w2.heap.size c a len cap nm (.slice av C.length cv) (.slice ar L.length cr) C L) := S3.out.keep hcw hk4 hc4'
  clear hc4' hk4 S3
  rcases (by omega : x = 0 ∨ x = 1 ∨ x = 2 ∨ x = 3 ∨ x = 4) with rfl | rfl | rfl | rfl | rfl
  · go_wp2_with fail
    refine (below_draw (S4.out.cur.alloc (.cells #[.string ⟨#[]⟩, .string ⟨#[65]⟩, .string ⟨#[97, 98, 99, 100, 101, 102]⟩, .string ⟨#[97, 98, 99, 100, 101, 102, 103]⟩] 9)) 4 (by omega) (by omega)).mono ?_
    rintro e w5 ⟨x, rfl, hx0, hx1, hc5', hk5⟩
    have S5 : Hid (SA w w5 w2.heap.size c a len cap nm (.slice av C.length cv) (.slice ar L.length cr) C L) := (S4.out.alloc hcw _).keep hcw hk5 hc5'
    have hc4 : c < w4.heap.size := S4.out.cur.lt
    have hq : ∀ j, w5.cell? ⟨w4.heap.size, j, none⟩ = (w4.alloc (.cells #[.string ⟨#[]⟩, .string ⟨#[65]⟩, .string ⟨#[97, 98, 99, 100, 101, 102]⟩, .string ⟨#[97, 98, 99, 100, 101, 102, 103]⟩] 9)).cell? ⟨w4.heap.size, j, none⟩ := fun j => hk5.cell (by simp) (by omega)
    clear hc5' hk5
    obtain ⟨b0, b1, b2⟩ := S5.out.td.box.cells
    obtain ⟨g0, g1, g2⟩ := S5.out.td.box.free
    rcases (by omega : x = 0 ∨ x = 1 ∨ x = 2 ∨ x = 3) with rfl | rfl | rfl | rfl
    · have h0 : w5.cell? ⟨w4.heap.size, 0, none⟩ = some (.string ⟨#[]⟩) := by rw [hq]; simp
      clear hq
      have S7 : Hid (SA w (w5.setCell ⟨w2.heap.size, 0, none⟩ (.string ⟨#[]⟩)) w2.heap.size c a len cap ⟨#[]⟩ (.slice av C.length cv) (.slice ar L.length cr) C L) := S5.out.far hcw ((Below.refl _ w5).setCell (p := ⟨w2.heap.size, 0, none⟩) (by have := S5.out.hB; show _ ≤ w2.heap.size; omega) _) S5.out.td.setName
      obtain ⟨m0, m1, m2⟩ := S7.out.td.box.cells
      obtain ⟨r0, r1, r2⟩ := S7.out.rb.cells
      obtain ⟨f0, f1, f2⟩ := S7.out.rb.free
      go_wp2
      refine bodyPost_ret (v := .agg #[.string ⟨#[]⟩, .slice av C.length cv, .slice ar L.length cr]) (by simp [results, Tryz.results25, go_sem, r0, r1, r2]) rfl ⟨⟨#[]⟩, _, _, C, L, rfl, by decide, ⟨by omega, SZ.out.cf, by omega, SZ.out.rf, SZ.out.rn⟩, ?_, ?_, ?_, ?_⟩
      · exact own_keepC (c := w.heap.size) S7.out.td.cols (((((Keep.refl w.heap.size (w5.setCell ⟨w2.heap.size, 0, none⟩ (.string ⟨#[]⟩)))).setCell (p := ⟨w.heap.size, 0, none⟩) (Or.inl rfl) _).setCell (p := ⟨w.heap.size, 1, none⟩) (Or.inl rfl) _).setCell (p := ⟨w.heap.size, 2, none⟩) (Or.inl rfl) _) (by omega) (by omega)
      · obtain ⟨G, D, O⟩ := S7.out.td.rows
        exact ⟨G, D, O.keepC (c := w.heap.size) (((((Keep.refl w.heap.size (w5.setCell ⟨w2.heap.size, 0, none⟩ (.string ⟨#[]⟩)))).setCell (p := ⟨w.heap.size, 0, none⟩) (Or.inl rfl) _).setCell (p := ⟨w.heap.size, 1, none⟩) (Or.inl rfl) _).setCell (p := ⟨w.heap.size, 2, none⟩) (Or.inl rfl) _) (by omega) (by omega)⟩
      · repeat (first | exact S7.out.cur | refine Cur.setAbove ?_ (by omega) _)
      · repeat (first | exact S7.out.kp | refine Keep.setCell ?_ (Or.inr (Nat.le_refl _)) _)
    · have h0 : w5.cell? ⟨w4.heap.size, 1, none⟩ = some (.string ⟨#[65]⟩) := by rw [hq]; simp
      clear hq
      have S7 : Hid (SA w (w5.setCell ⟨w2.heap.size, 0, none⟩ (.string ⟨#[65]⟩)) w2.heap.size c a len cap ⟨#[65]⟩ (.slice av C.length cv) (.slice ar L.length cr) C L) := S5.out.far hcw ((Below.refl _ w5).setCell (p := ⟨w2.heap.size, 0, none⟩) (by have := S5.out.hB; show _ ≤ w2.heap.size; omega) _) S5.out.td.setName
      obtain ⟨m0, m1, m2⟩ := S7.out.td.box.cells
      obtain ⟨r0, r1, r2⟩ := S7.out.rb.cells
      obtain ⟨f0, f1, f2⟩ := S7.out.rb.free
      go_wp2
      refine bodyPost_ret (v := .agg #[.string ⟨#[65]⟩, .slice av C.length cv, .slice ar L.length cr]) (by simp [results, Tryz.results25, go_sem, r0, r1, r2]) rfl ⟨⟨#[65]⟩, _, _, C, L, rfl, by decide, ⟨by omega, SZ.out.cf, by omega, SZ.out.rf, SZ.out.rn⟩, ?_, ?_, ?_, ?_⟩
      · exact own_keepC (c := w.heap.size) S7.out.td.cols (((((Keep.refl w.heap.size (w5.setCell ⟨w2.heap.size, 0, none⟩ (.string ⟨#[65]⟩)))).setCell (p := ⟨w.heap.size, 0, none⟩) (Or.inl rfl) _).setCell (p := ⟨w.heap.size, 1, none⟩) (Or.inl rfl) _).setCell (p := ⟨w.heap.size, 2, none⟩) (Or.inl rfl) _) (by omega) (by omega)
      · obtain ⟨G, D, O⟩ := S7.out.td.rows
        exact ⟨G, D, O.keepC (c := w.heap.size) (((((Keep.refl w.heap.size (w5.setCell ⟨w2.heap.size, 0, none⟩ (.string ⟨#[65]⟩)))).setCell (p := ⟨w.heap.size, 0, none⟩) (Or.inl rfl) _).setCell (p := ⟨w.heap.size, 1, none⟩) (Or.inl rfl) _).setCell (p := ⟨w.heap.size, 2, none⟩) (Or.inl rfl) _) (by omega) (by omega)⟩
      · repeat (first | exact S7.out.cur | refine Cur.setAbove ?_ (by omega) _)
      · repeat (first | exact S7.out.kp | refine Keep.setCell ?_ (Or.inr (Nat.le_refl _)) _)
    · have h0 : w5.cell? ⟨w4.heap.size, 2, none⟩ = some (.string ⟨#[97, 98, 99, 100, 101, 102]⟩) := by rw [hq]; simp
      clear hq
      have S7 : Hid (SA w (w5.setCell ⟨w2.heap.size, 0, none⟩ (.string ⟨#[97, 98, 99, 100, 101, 102]⟩)) w2.heap.size c a len cap ⟨#[97, 98, 99, 100, 101, 102]⟩ (.slice av C.length cv) (.slice ar L.length cr) C L) := S5.out.far hcw ((Below.refl _ w5).setCell (p := ⟨w2.heap.size, 0, none⟩) (by have := S5.out.hB; show _ ≤ w2.heap.size; omega) _) S5.out.td.setName
      obtain ⟨m0, m1, m2⟩ := S7.out.td.box.cells
      obtain ⟨r0, r1, r2⟩ := S7.out.rb.cells
      obtain ⟨f0, f1, f2⟩ := S7.out.rb.free
      go_wp2
      refine bodyPost_ret (v := .agg #[.string ⟨#[97, 98, 99, 100, 101, 102]⟩, .slice av C.length cv, .slice ar L.length cr]) (by simp [results, Tryz.results25, go_sem, r0, r1, r2]) rfl ⟨⟨#[97, 98, 99, 100, 101, 102]⟩, _, _, C, L, rfl, by decide, ⟨by omega, SZ.out.cf, by omega, SZ.out.rf, SZ.out.rn⟩, ?_, ?_, ?_, ?_⟩
      · exact own_keepC (c := w.heap.size) S7.out.td.cols (((((Keep.refl w.heap.size (w5.setCell ⟨w2.heap.size, 0, none⟩ (.string ⟨#[97, 98, 99, 100, 101, 102]⟩)))).setCell (p := ⟨w.heap.size, 0, none⟩) (Or.inl rfl) _).setCell (p := ⟨w.heap.size, 1, none⟩) (Or.inl rfl) _).setCell (p := ⟨w.heap.size, 2, none⟩) (Or.inl rfl) _) (by omega) (by omega)
      · obtain ⟨G, D, O⟩ := S7.out.td.rows
        exact ⟨G, D, O.keepC (c := w.heap.size) (((((Keep.refl w.heap.size (w5.setCell ⟨w2.heap.size, 0, none⟩ (.string ⟨#[97, 98, 99, 100, 101, 102]⟩)))).setCell (p := ⟨w.heap.size, 0, none⟩) (Or.inl rfl) _).setCell (p := ⟨w.heap.size, 1, none⟩) (Or.inl rfl) _).setCell (p := ⟨w.heap.size, 2, none⟩) (Or.inl rfl) _) (by omega) (by omega)⟩
      · repeat (first | exact S7.out.cur | refine Cur.setAbove ?_ (by omega) _)
      · repeat (first | exact S7.out.kp | refine Keep.setCell ?_ (Or.inr (Nat.le_refl _)) _)
    · have h0 : w5.cell? ⟨w4.heap.size, 3, none⟩ = some (.string ⟨#[97, 98, 99, 100, 101, 102, 103]⟩) := by rw [hq]; simp
      clear hq
      have S7 : Hid (SA w (w5.setCell ⟨w2.heap.size, 0, none⟩ (.string ⟨#[97, 98, 99, 100, 101, 102, 103]⟩)) w2.heap.size c a len cap ⟨#[97, 98, 99, 100, 101, 102, 103]⟩ (.slice av C.length cv) (.slice ar L.length cr) C L) := S5.out.far hcw ((Below.refl _ w5).setCell (p := ⟨w2.heap.size, 0, none⟩) (by have := S5.out.hB; show _ ≤ w2.heap.size; omega) _) S5.out.td.setName
      obtain ⟨m0, m1, m2⟩ := S7.out.td.box.cells
      obtain ⟨r0, r1, r2⟩ := S7.out.rb.cells
      obtain ⟨f0, f1, f2⟩ := S7.out.rb.free
      go_wp2
      refine bodyPost_ret (v := .agg #[.string ⟨#[97, 98, 99, 100, 101, 102, 103]⟩, .slice av C.length cv, .slice ar L.length cr]) (by simp [results, Tryz.results25, go_sem, r0, r1, r2]) rfl ⟨⟨#[97, 98, 99, 100, 101, 102, 103]⟩, _, _, C, L, rfl, by decide, ⟨by omega, SZ.out.cf, by omega, SZ.out.rf, SZ.out.rn⟩, ?_, ?_, ?_, ?_⟩
      · exact own_keepC (c := w.heap.size) S7.out.td.cols (((((Keep.refl w.heap.size (w5.setCell ⟨w2.heap.size, 0, none⟩ (.string ⟨#[97, 98, 99, 100, 101, 102, 103]⟩)))).setCell (p := ⟨w.heap.size, 0, none⟩) (Or.inl rfl) _).setCell (p := ⟨w.heap.size, 1, none⟩) (Or.inl rfl) _).setCell (p := ⟨w.heap.size, 2, none⟩) (Or.inl rfl) _) (by omega) (by omega)
      · obtain ⟨G, D, O⟩ := S7.out.td.rows
        exact ⟨G, D, O.keepC (c := w.heap.size) (((((Keep.refl w.heap.size (w5.setCell ⟨w2.heap.size, 0, none⟩ (.string ⟨#[97, 98, 99, 100, 101, 102, 103]⟩)))).setCell (p := ⟨w.heap.size, 0, none⟩) (Or.inl rfl) _).setCell (p := ⟨w.heap.size, 1, none⟩) (Or.inl rfl) _).setCell (p := ⟨w.heap.size, 2, none⟩) (Or.inl rfl) _) (by omega) (by omega)⟩
      · repeat (first | exact S7.out.cur | refine Cur.setAbove ?_ (by omega) _)
      · repeat (first | exact S7.out.kp | refine Keep.setCell ?_ (Or.inr (Nat.le_refl _)) _)
  · obtain ⟨b0, b1, b2⟩ := S4.out.td.box.cells
    obtain ⟨g0, g1, g2⟩ := S4.out.td.box.free
    go_wp2_with (at_builtin; refine wpList_append_own _ rfl _ _ 25 rfl (w.heap.size + 1) 9 iS (.string ⟨#[]⟩) 1 16 Tryz.underlying25 hiS hs0 hs1 hs2 rfl (by decide) _ _ _ rfl ((S4.out.alloc hcw _).td.cols) ⟨w4.heap.size, 0, none⟩ 1 1 [.string ⟨#[97]⟩] rfl rfl (cells1w w4 _ _) (by intro u hu; simp at hu; subst hu; rfl) (by unfold maxLen; omega) (by omega) (by have h7 := S4.out.td.box.lt; have h8 := S4.out.hB; simp; omega) ?_)
    intro v' w7 own7 hgrow hnn
    obtain ⟨a', k', rfl⟩ := own_sliceL own7
    have SB := S4.out.alloc hcw (.cells #[.string ⟨#[97]⟩] 9)
    have bx := SB.td.box.grown hgrow (SB.td.box.notOwn SB.td.cols (by decide))
    obtain ⟨d0, d1, d2⟩ := bx.cells
    obtain ⟨e0, e1, e2⟩ := bx.free
    have S7 : Hid (SA w (w7.setCell ⟨w2.heap.size, 1, none⟩ (.slice a' (C.length + 1) k')) w2.heap.size c a len cap nm (.slice a' (C.length + 1) k') (.slice ar L.length cr) (C ++ [⟨#[97]⟩]) L) := SB.addCol hcw own7 hgrow
    have Z7 : Hid (Sizes (C ++ [⟨#[97]⟩]) L 5 62) := by
      have h1 := SZ.out.addCol (s := ⟨#[97]⟩) (by unfold maxLen; decide)
      have : Sizes (C ++ [⟨#[97]⟩]) L 5 62 := ⟨by simp; omega, h1.cf, by omega, h1.rf, h1.rn⟩
      exact this
    clear own7 hgrow hnn SB bx b0 b1 b2
    obtain ⟨m0, m1, m2⟩ := S7.out.td.box.cells
    obtain ⟨r0, r1, r2⟩ := S7.out.rb.cells
    obtain ⟨f0, f1, f2⟩ := S7.out.rb.free
    go_wp2
    refine bodyPost_ret (v := .agg #[.string nm, .slice a' (C.length + 1) k', .slice ar L.length cr]) (by simp [results, Tryz.results25, go_sem, r0, r1, r2]) rfl ⟨nm, _, _, (C ++ [⟨#[97]⟩]), L, rfl, hnm, Z7.out, ?_, ?_, ?_, ?_⟩
    · exact own_keepC (c := w.heap.size) S7.out.td.cols (((((Keep.refl w.heap.size (w7.setCell ⟨w2.heap.size, 1, none⟩ (.slice a' (C.length + 1) k')))).setCell (p := ⟨w.heap.size, 0, none⟩) (Or.inl rfl) _).setCell (p := ⟨w.heap.size, 1, none⟩) (Or.inl rfl) _).setCell (p := ⟨w.heap.size, 2, none⟩) (Or.inl rfl) _) (by omega) (by omega)
    · obtain ⟨G, D, O⟩ := S7.out.td.rows
      exact ⟨G, D, O.keepC (c := w.heap.size) (((((Keep.refl w.heap.size (w7.setCell ⟨w2.heap.size, 1, none⟩ (.slice a' (C.length + 1) k')))).setCell (p := ⟨w.heap.size, 0, none⟩) (Or.inl rfl) _).setCell (p := ⟨w.heap.size, 1, none⟩) (Or.inl rfl) _).setCell (p := ⟨w.heap.size, 2, none⟩) (Or.inl rfl) _) (by omega) (by omega)⟩
    · repeat (first | exact S7.out.cur | refine Cur.setAbove ?_ (by omega) _)
    · repeat (first | exact S7.out.kp | refine Keep.setCell ?_ (Or.inr (Nat.le_refl _)) _)
  · go_wp2_with fail
    refine wp_region_any (by kernel_rfl) (show wpAny _ _ _ _ _ _ _ w4.drew from ?_)
    refine wpAny_take (i := 0) (by simp only [List.getElem?_toArray, List.getElem?_cons_zero]; rfl) (by kernel_rfl) (by kernel_rfl) (by kernel_rfl) (by intro _ _ _ h; exact h) (Or.inl ⟨by rfl, fun w => by (go_simp; (try with_reducible rfl))⟩) ?_
    simp only [Act.put, List.setIfInBounds_toArray, List.set_cons_zero, List.set_cons_succ]
    refine wpAny_take (i := 2) (by simp only [List.getElem?_toArray, List.getElem?_cons_zero, List.getElem?_cons_succ]; rfl) (by kernel_rfl) (by kernel_rfl) (by kernel_rfl) (by intro _ _ _ h; exact h) (Or.inl ⟨by rfl, fun w => by (go_simp; (try with_reducible rfl))⟩) ?_
    simp only [Act.put, List.setIfInBounds_toArray, List.set_cons_zero, List.set_cons_succ]
    refine wpAny_take (i := 3) (by simp only [List.getElem?_toArray, List.getElem?_cons_zero, List.getElem?_cons_succ]; rfl) (by kernel_rfl) (by kernel_rfl) (by kernel_rfl) (by intro _ _ _ h; exact h) (Or.inl ⟨by rfl, fun w => by (go_simp; (try with_reducible rfl))⟩) ?_
    simp only [Act.put, List.setIfInBounds_toArray, List.set_cons_zero, List.set_cons_succ]
    refine wpAny_ready (rs := [1, 4]) (by kernel_rfl) (by simp) ?_
    refine AllReady.cons (by simp only [List.getElem?_toArray, List.getElem?_cons_zero, List.getElem?_cons_succ]; rfl) ?_ (AllReady.cons (by simp only [List.getElem?_toArray, List.getElem?_cons_zero, List.getElem?_cons_succ]; rfl) ?_ AllReady.nil)
    · intro K hK
      obtain ⟨b0, b1, b2⟩ := S4.out.td.box.cells
      go_simp
      refine hK _ _ ?_
      clear hK K
      try simp only [Act.put, List.setIfInBounds_toArray, List.set_cons_zero, List.set_cons_succ]
      refine wpAny_ready (rs := [4]) (by kernel_rfl) (by simp) ?_
      refine AllReady.cons (by simp only [List.getElem?_toArray, List.getElem?_cons_zero, List.getElem?_cons_succ]; rfl) ?_ AllReady.nil
      intro K hK
      go_simp
      refine (below_draw S4.out.cur.drew 4 (by omega) (by omega)).mono ?_
      rintro e w5 ⟨y, rfl, hy0, hy1, hc5', hk5⟩
      have S5 : Hid (SA w w5 w2.heap.size c a len cap nm (.slice av C.length cv) (.slice ar L.length cr) C L) := S4.out.keep hcw ((Keep.refl c w4).drew.trans hk5) hc5'
      obtain ⟨y, rfl⟩ := Int.eq_ofNat_of_zero_le hy0
      clear hc5' hk5
      go_wp2_with fail
      try clear hK K
      try simp only [Act.put, List.setIfInBounds_toArray, List.set_cons_zero, List.set_cons_succ]
      refine wpAny_ready (rs := [5]) (by kernel_rfl) (by simp) ?_
      refine AllReady.cons (by simp only [List.getElem?_toArray, List.getElem?_cons_zero, List.getElem?_cons_succ]; rfl) ?_ AllReady.nil
      intro K hK
      go_simp
      refine (row_drawI S5.out.cur y (by omega) _ rfl).mono ?_
      rintro e w6 ⟨vz, z, rfl, hzn, hzf, hvz, own0, hc6', hk6⟩
      obtain ⟨g, k, rfl, hgg, _⟩ := own_form own0 hvz
      have S6 : Hid (SA w w6 w2.heap.size c a len cap nm (.slice av C.length cv) (.slice ar L.length cr) C L) := S5.out.keep hcw hk6 hc6'
      obtain ⟨G, D, O⟩ := S5.out.td.rows
      have hgz : Hid (∀ i, i < L.length → G i ≠ g) := by
        have : ∀ i, i < L.length → G i ≠ g := fun i hi => by have := O.lt i hi; omega
        exact this
      have O6 : Hid (OwnRows w6 (w.heap.size + 1) (.slice ar L.length cr) L G D) := O.keep hk6 (by omega)
      have ownZ : Hid (w6.ownsRow (w.heap.size + 1) 78 3 (.slice (some ⟨g, 0, none⟩) z.length k) z.length (flat z)) := by
        have := S5.out.td.box.lt
        have h7 := S5.out.hB
        exact own_base own0 (by omega)
      have ZF : Hid (Fit z) := hzf
      have hzl : z.length ≤ 1000 := by omega
      clear hc6' hk6 own0 O hzf hzn hvz
      go_wp2_with fail
      try clear hK K
      try simp only [Act.put, List.setIfInBounds_toArray, List.set_cons_zero, List.set_cons_succ]
      refine wpAny_ready (rs := [6]) (by kernel_rfl) (by simp) ?_
      refine AllReady.cons (by simp only [List.getElem?_toArray, List.getElem?_cons_zero, List.getElem?_cons_succ]; rfl) ?_ AllReady.nil
      intro K hK
      go_simp
      refine hK _ _ ?_
      clear hK K
      try simp only [Act.put, List.setIfInBounds_toArray, List.set_cons_zero, List.set_cons_succ]
      refine wpAny_ready (rs := [7]) (by kernel_rfl) (by simp) ?_
      refine AllReady.cons (by simp only [List.getElem?_toArray, List.getElem?_cons_zero, List.getElem?_cons_succ]; rfl) ?_ AllReady.nil
      intro K hK
      rw [if_pos (by rfl)]
      refine wp_append_own _ _ _ 33 rfl (w.heap.size + 1) 67 iR (.slice none 0 0) 1 24 Tryz.underlying33 hiR hr0 hr1 hr2 rfl (by decide) (.slice ar L.length cr) L.length ((List.range L.length).map (headOf G D L)) rfl (O6.out.outer.alloc _) ⟨w6.heap.size, 0, none⟩ 1 1 [.slice (some ⟨g, 0, none⟩) z.length k] rfl rfl (cells1w w6 _ _) (by intro u hu; simp at hu; subst hu; rfl) (by unfold maxLen; omega) (by omega) (by have h7 := S6.out.td.box.lt; have h8 := S6.out.hB; simp; omega) ?_
      intro v' w7 own7 hgrow hnn
      obtain ⟨a', k', rfl⟩ := own_sliceL own7
      have SB := S6.out.alloc hcw (.cells #[.slice (some ⟨g, 0, none⟩) z.length k] 67)
      have bx := SB.td.box.grown hgrow (S6.out.td.box.notOwn O6.out.outer (by decide))
      obtain ⟨d0, d1, d2⟩ := bx.cells
      obtain ⟨e0, e1, e2⟩ := bx.free
      have S7 : Hid (SA w (w7.setCell ⟨w2.heap.size, 2, none⟩ (.slice a' (L.length + 1) k')) w2.heap.size c a len cap nm (.slice av C.length cv) (.slice a' (L.length + 1) k') C (L ++ [z])) := S6.out.addRow hcw O6.out hgz.out ownZ.out own7 hgrow
      have Z7 : Hid (Sizes C (L ++ [z]) 5 62) := by
        have h1 := SZ.out.addRow ZF.out hzl
        have : Sizes C (L ++ [z]) 5 62 := ⟨by omega, h1.cf, by simp; omega, h1.rf, h1.rn⟩
        exact this
      refine hK _ _ ?_
      clear hK K own7 hgrow hnn SB bx
      try simp only [Act.put, List.setIfInBounds_toArray, List.set_cons_zero, List.set_cons_succ]
      refine wpAny_take (i := 8) (by simp only [List.getElem?_toArray, List.getElem?_cons_zero, List.getElem?_cons_succ]; rfl) (by kernel_rfl) (by kernel_rfl) (by kernel_rfl) (by intro _ _ _ h; exact h) (Or.inl ⟨by rfl, fun w => by (go_simp; (try with_reducible rfl))⟩) ?_
      simp only [Act.put, List.setIfInBounds_toArray, List.set_cons_zero, List.set_cons_succ]
      refine wpAny_ready (rs := [9]) (by kernel_rfl) (by simp) ?_
      refine AllReady.cons (by simp only [List.getElem?_toArray, List.getElem?_cons_zero, List.getElem?_cons_succ]; rfl) ?_ AllReady.nil
      intro K hK
      go_simp
      refine hK _ _ ?_
      clear hK K
      try simp only [Act.put, List.setIfInBounds_toArray, List.set_cons_zero, List.set_cons_succ]
      refine wpAny_done (by kernel_rfl) ?_ _
      obtain ⟨w8, hw8⟩ : ∃ x, x = (w7.setCell ⟨w2.heap.size, 2, none⟩ (.slice a' (L.length + 1) k')) := ⟨_, rfl⟩
      rw [← hw8] at S7 ⊢
      clear hw8 d0 d1 d2 e0 e1 e2 b0 b1 b2
      have hLz : (L ++ [z]).length = L.length + 1 := by simp
      obtain ⟨b0, b1, b2⟩ := S7.out.td.box.cells
      obtain ⟨r0, r1, r2⟩ := S7.out.rb.cells
      obtain ⟨f0, f1, f2⟩ := S7.out.rb.free
      go_wp2
      refine bodyPost_ret (v := .agg #[.string nm, .slice av C.length cv, .slice a' (L.length + 1) k']) (by simp [results, Tryz.results25, go_sem, r0, r1, r2]) rfl ⟨nm, _, _, C, (L ++ [z]), rfl, hnm, Z7.out, ?_, ?_, ?_, ?_⟩
      · exact own_keepC (c := w.heap.size) S7.out.td.cols (((((Keep.refl w.heap.size w8)).setCell (p := ⟨w.heap.size, 0, none⟩) (Or.inl rfl) _).setCell (p := ⟨w.heap.size, 1, none⟩) (Or.inl rfl) _).setCell (p := ⟨w.heap.size, 2, none⟩) (Or.inl rfl) _) (by omega) (by omega)
      · obtain ⟨G, D, O⟩ := S7.out.td.rows
        exact ⟨G, D, O.keepC (c := w.heap.size) (((((Keep.refl w.heap.size w8)).setCell (p := ⟨w.heap.size, 0, none⟩) (Or.inl rfl) _).setCell (p := ⟨w.heap.size, 1, none⟩) (Or.inl rfl) _).setCell (p := ⟨w.heap.size, 2, none⟩) (Or.inl rfl) _) (by omega) (by omega)⟩
      · repeat (first | exact S7.out.cur | refine Cur.setAbove ?_ (by omega) _)
      · repeat (first | exact S7.out.kp | refine Keep.setCell ?_ (Or.inr (Nat.le_refl _)) _)
    · intro K hK
      go_simp
      refine (below_draw S4.out.cur.drew 4 (by omega) (by omega)).mono ?_
      rintro e w5 ⟨y, rfl, hy0, hy1, hc5', hk5⟩
      have S5 : Hid (SA w w5 w2.heap.size c a len cap nm (.slice av C.length cv) (.slice ar L.length cr) C L) := S4.out.keep hcw ((Keep.refl c w4).drew.trans hk5) hc5'
      obtain ⟨y, rfl⟩ := Int.eq_ofNat_of_zero_le hy0
      clear hc5' hk5
      go_wp2_with fail
      try clear hK K
      try simp only [Act.put, List.setIfInBounds_toArray, List.set_cons_zero, List.set_cons_succ]
      refine wpAny_ready (rs := [1, 5]) (by kernel_rfl) (by simp) ?_
      refine AllReady.cons (by simp only [List.getElem?_toArray, List.getElem?_cons_zero, List.getElem?_cons_succ]; rfl) ?_ (AllReady.cons (by simp only [List.getElem?_toArray, List.getElem?_cons_zero, List.getElem?_cons_succ]; rfl) ?_ AllReady.nil)
      · intro K hK
        obtain ⟨b0, b1, b2⟩ := S5.out.td.box.cells
        go_simp
        refine hK _ _ ?_
        clear hK K
        try simp only [Act.put, List.setIfInBounds_toArray, List.set_cons_zero, List.set_cons_succ]
        refine wpAny_ready (rs := [5]) (by kernel_rfl) (by simp) ?_
        refine AllReady.cons (by simp only [List.getElem?_toArray, List.getElem?_cons_zero, List.getElem?_cons_succ]; rfl) ?_ AllReady.nil
        intro K hK
        go_simp
        refine (row_drawI S5.out.cur y (by omega) _ rfl).mono ?_
        rintro e w6 ⟨vz, z, rfl, hzn, hzf, hvz, own0, hc6', hk6⟩
        obtain ⟨g, k, rfl, hgg, _⟩ := own_form own0 hvz
        have S6 : Hid (SA w w6 w2.heap.size c a len cap nm (.slice av C.length cv) (.slice ar L.length cr) C L) := S5.out.keep hcw hk6 hc6'
        obtain ⟨G, D, O⟩ := S5.out.td.rows
        have hgz : Hid (∀ i, i < L.length → G i ≠ g) := by
          have : ∀ i, i < L.length → G i ≠ g := fun i hi => by have := O.lt i hi; omega
          exact this
        have O6 : Hid (OwnRows w6 (w.heap.size + 1) (.slice ar L.length cr) L G D) := O.keep hk6 (by omega)
        have ownZ : Hid (w6.ownsRow (w.heap.size + 1) 78 3 (.slice (some ⟨g, 0, none⟩) z.length k) z.length (flat z)) := by
          have := S5.out.td.box.lt
          have h7 := S5.out.hB
          exact own_base own0 (by omega)
        have ZF : Hid (Fit z) := hzf
        have hzl : z.length ≤ 1000 := by omega
        clear hc6' hk6 own0 O hzf hzn hvz
        go_wp2_with fail
        try clear hK K
        try simp only [Act.put, List.setIfInBounds_toArray, List.set_cons_zero, List.set_cons_succ]
        refine wpAny_ready (rs := [6]) (by kernel_rfl) (by simp) ?_
        refine AllReady.cons (by simp only [List.getElem?_toArray, List.getElem?_cons_zero, List.getElem?_cons_succ]; rfl) ?_ AllReady.nil
        intro K hK
        go_simp
        refine hK _ _ ?_
        clear hK K
        try simp only [Act.put, List.setIfInBounds_toArray, List.set_cons_zero, List.set_cons_succ]
        refine wpAny_ready (rs := [7]) (by kernel_rfl) (by simp) ?_
        refine AllReady.cons (by simp only [List.getElem?_toArray, List.getElem?_cons_zero, List.getElem?_cons_succ]; rfl) ?_ AllReady.nil
        intro K hK
        rw [if_pos (by rfl)]
        refine wp_append_own _ _ _ 33 rfl (w.heap.size + 1) 67 iR (.slice none 0 0) 1 24 Tryz.underlying33 hiR hr0 hr1 hr2 rfl (by decide) (.slice ar L.length cr) L.length ((List.range L.length).map (headOf G D L)) rfl (O6.out.outer.alloc _) ⟨w6.heap.size, 0, none⟩ 1 1 [.slice (some ⟨g, 0, none⟩) z.length k] rfl rfl (cells1w w6 _ _) (by intro u hu; simp at hu; subst hu; rfl) (by unfold maxLen; omega) (by omega) (by have h7 := S6.out.td.box.lt; have h8 := S6.out.hB; simp; omega) ?_
        intro v' w7 own7 hgrow hnn
        obtain ⟨a', k', rfl⟩ := own_sliceL own7
        have SB := S6.out.alloc hcw (.cells #[.slice (some ⟨g, 0, none⟩) z.length k] 67)
        have bx := SB.td.box.grown hgrow (S6.out.td.box.notOwn O6.out.outer (by decide))
        obtain ⟨d0, d1, d2⟩ := bx.cells
        obtain ⟨e0, e1, e2⟩ := bx.free
        have S7 : Hid (SA w (w7.setCell ⟨w2.heap.size, 2, none⟩ (.slice a' (L.length + 1) k')) w2.heap.size c a len cap nm (.slice av C.length cv) (.slice a' (L.length + 1) k') C (L ++ [z])) := S6.out.addRow hcw O6.out hgz.out ownZ.out own7 hgrow
        have Z7 : Hid (Sizes C (L ++ [z]) 5 62) := by
          have h1 := SZ.out.addRow ZF.out hzl
          have : Sizes C (L ++ [z]) 5 62 := ⟨by omega, h1.cf, by simp; omega, h1.rf, h1.rn⟩
          exact this
        refine hK _ _ ?_
        clear hK K own7 hgrow hnn SB bx
        try simp only [Act.put, List.setIfInBounds_toArray, List.set_cons_zero, List.set_cons_succ]
        refine wpAny_take (i := 8) (by simp only [List.getElem?_toArray, List.getElem?_cons_zero, List.getElem?_cons_succ]; rfl) (by kernel_rfl) (by kernel_rfl) (by kernel_rfl) (by intro _ _ _ h; exact h) (Or.inl ⟨by rfl, fun w => by (go_simp; (try with_reducible rfl))⟩) ?_
        simp only [Act.put, List.setIfInBounds_toArray, List.set_cons_zero, List.set_cons_succ]
        refine wpAny_ready (rs := [9]) (by kernel_rfl) (by simp) ?_
        refine AllReady.cons (by simp only [List.getElem?_toArray, List.getElem?_cons_zero, List.getElem?_cons_succ]; rfl) ?_ AllReady.nil
        intro K hK
        go_simp
        refine hK _ _ ?_
        clear hK K
        try simp only [Act.put, List.setIfInBounds_toArray, List.set_cons_zero, List.set_cons_succ]
        refine wpAny_done (by kernel_rfl) ?_ _
        obtain ⟨w8, hw8⟩ : ∃ x, x = (w7.setCell ⟨w2.heap.size, 2, none⟩ (.slice a' (L.length + 1) k')) := ⟨_, rfl⟩
        rw [← hw8] at S7 ⊢
        clear hw8 d0 d1 d2 e0 e1 e2 b0 b1 b2
        have hLz : (L ++ [z]).length = L.length + 1 := by simp
        obtain ⟨b0, b1, b2⟩ := S7.out.td.box.cells
        obtain ⟨r0, r1, r2⟩ := S7.out.rb.cells
        obtain ⟨f0, f1, f2⟩ := S7.out.rb.free
        go_wp2
        refine bodyPost_ret (v := .agg #[.string nm, .slice av C.length cv, .slice a' (L.length + 1) k']) (by simp [results, Tryz.results25, go_sem, r0, r1, r2]) rfl ⟨nm, _, _, C, (L ++ [z]), rfl, hnm, Z7.out, ?_, ?_, ?_, ?_⟩
        · exact own_keepC (c := w.heap.size) S7.out.td.cols (((((Keep.refl w.heap.size w8)).setCell (p := ⟨w.heap.size, 0, none⟩) (Or.inl rfl) _).setCell (p := ⟨w.heap.size, 1, none⟩) (Or.inl rfl) _).setCell (p := ⟨w.heap.size, 2, none⟩) (Or.inl rfl) _) (by omega) (by omega)
        · obtain ⟨G, D, O⟩ := S7.out.td.rows
          exact ⟨G, D, O.keepC (c := w.heap.size) (((((Keep.refl w.heap.size w8)).setCell (p := ⟨w.heap.size, 0, none⟩) (Or.inl rfl) _).setCell (p := ⟨w.heap.size, 1, none⟩) (Or.inl rfl) _).setCell (p := ⟨w.heap.size, 2, none⟩) (Or.inl rfl) _) (by omega) (by omega)⟩
        · repeat (first | exact S7.out.cur | refine Cur.setAbove ?_ (by omega) _)
        · repeat (first | exact S7.out.kp | refine Keep.setCell ?_ (Or.inr (Nat.le_refl _)) _)
      · intro K hK
        go_simp
        refine (row_drawI S5.out.cur y (by omega) _ rfl).mono ?_
        rintro e w6 ⟨vz, z, rfl, hzn, hzf, hvz, own0, hc6', hk6⟩
        obtain ⟨g, k, rfl, hgg, _⟩ := own_form own0 hvz
        have S6 : Hid (SA w w6 w2.heap.size c a len cap nm (.slice av C.length cv) (.slice ar L.length cr) C L) := S5.out.keep hcw hk6 hc6'
        obtain ⟨G, D, O⟩ := S5.out.td.rows
        have hgz : Hid (∀ i, i < L.length → G i ≠ g) := by
          have : ∀ i, i < L.length → G i ≠ g := fun i hi => by have := O.lt i hi; omega
          exact this
        have O6 : Hid (OwnRows w6 (w.heap.size + 1) (.slice ar L.length cr) L G D) := O.keep hk6 (by omega)
        have ownZ : Hid (w6.ownsRow (w.heap.size + 1) 78 3 (.slice (some ⟨g, 0, none⟩) z.length k) z.length (flat z)) := by
          have := S5.out.td.box.lt
          have h7 := S5.out.hB
          exact own_base own0 (by omega)
        have ZF : Hid (Fit z) := hzf
        have hzl : z.length ≤ 1000 := by omega
        clear hc6' hk6 own0 O hzf hzn hvz
        go_wp2_with fail
        try clear hK K
        try simp only [Act.put, List.setIfInBounds_toArray, List.set_cons_zero, List.set_cons_succ]
        refine wpAny_ready (rs := [1, 6]) (by kernel_rfl) (by simp) ?_
        refine AllReady.cons (by simp only [List.getElem?_toArray, List.getElem?_cons_zero, List.getElem?_cons_succ]; rfl) ?_ (AllReady.cons (by simp only [List.getElem?_toArray, List.getElem?_cons_zero, List.getElem?_cons_succ]; rfl) ?_ AllReady.nil)
        · intro K hK
          obtain ⟨b0, b1, b2⟩ := S6.out.td.box.cells
          go_simp
          refine hK _ _ ?_
          clear hK K
          try simp only [Act.put, List.setIfInBounds_toArray, List.set_cons_zero, List.set_cons_succ]
          refine wpAny_ready (rs := [6]) (by kernel_rfl) (by simp) ?_
          refine AllReady.cons (by simp only [List.getElem?_toArray, List.getElem?_cons_zero, List.getElem?_cons_succ]; rfl) ?_ AllReady.nil
          intro K hK
          go_simp
          refine hK _ _ ?_
          clear hK K
          try simp only [Act.put, List.setIfInBounds_toArray, List.set_cons_zero, List.set_cons_succ]
          refine wpAny_ready (rs := [7]) (by kernel_rfl) (by simp) ?_
          refine AllReady.cons (by simp only [List.getElem?_toArray, List.getElem?_cons_zero, List.getElem?_cons_succ]; rfl) ?_ AllReady.nil
          intro K hK
          rw [if_pos (by rfl)]
          refine wp_append_own _ _ _ 33 rfl (w.heap.size + 1) 67 iR (.slice none 0 0) 1 24 Tryz.underlying33 hiR hr0 hr1 hr2 rfl (by decide) (.slice ar L.length cr) L.length ((List.range L.length).map (headOf G D L)) rfl (O6.out.outer.alloc _) ⟨w6.heap.size, 0, none⟩ 1 1 [.slice (some ⟨g, 0, none⟩) z.length k] rfl rfl (cells1w w6 _ _) (by intro u hu; simp at hu; subst hu; rfl) (by unfold maxLen; omega) (by omega) (by have h7 := S6.out.td.box.lt; have h8 := S6.out.hB; simp; omega) ?_
          intro v' w7 own7 hgrow hnn
          obtain ⟨a', k', rfl⟩ := own_sliceL own7
          have SB := S6.out.alloc hcw (.cells #[.slice (some ⟨g, 0, none⟩) z.length k] 67)
          have bx := SB.td.box.grown hgrow (S6.out.td.box.notOwn O6.out.outer (by decide))
          obtain ⟨d0, d1, d2⟩ := bx.cells
          obtain ⟨e0, e1, e2⟩ := bx.free
          have S7 : Hid (SA w (w7.setCell ⟨w2.heap.size, 2, none⟩ (.slice a' (L.length + 1) k')) w2.heap.size c a len cap nm (.slice av C.length cv) (.slice a' (L.length + 1) k') C (L ++ [z])) := S6.out.addRow hcw O6.out hgz.out ownZ.out own7 hgrow
          have Z7 : Hid (Sizes C (L ++ [z]) 5 62) := by
            have h1 := SZ.out.addRow ZF.out hzl
            have : Sizes C (L ++ [z]) 5 62 := ⟨by omega, h1.cf, by simp; omega, h1.rf, h1.rn⟩
            exact this
          refine hK _ _ ?_
          clear hK K own7 hgrow hnn SB bx
          try simp only [Act.put, List.setIfInBounds_toArray, List.set_cons_zero, List.set_cons_succ]
          refine wpAny_take (i := 8) (by simp only [List.getElem?_toArray, List.getElem?_cons_zero, List.getElem?_cons_succ]; rfl) (by kernel_rfl) (by kernel_rfl) (by kernel_rfl) (by intro _ _ _ h; exact h) (Or.inl ⟨by rfl, fun w => by (go_simp; (try with_reducible rfl))⟩) ?_
          simp only [Act.put, List.setIfInBounds_toArray, List.set_cons_zero, List.set_cons_succ]
          refine wpAny_ready (rs := [9]) (by kernel_rfl) (by simp) ?_
          refine AllReady.cons (by simp only [List.getElem?_toArray, List.getElem?_cons_zero, List.getElem?_cons_succ]; rfl) ?_ AllReady.nil
          intro K hK
          go_simp
          refine hK _ _ ?_
          clear hK K
          try simp only [Act.put, List.setIfInBounds_toArray, List.set_cons_zero, List.set_cons_succ]
          refine wpAny_done (by kernel_rfl) ?_ _
          obtain ⟨w8, hw8⟩ : ∃ x, x = (w7.setCell ⟨w2.heap.size, 2, none⟩ (.slice a' (L.length + 1) k')) := ⟨_, rfl⟩
          rw [← hw8] at S7 ⊢
          clear hw8 d0 d1 d2 e0 e1 e2 b0 b1 b2
          have hLz : (L ++ [z]).length = L.length + 1 := by simp
          obtain ⟨b0, b1, b2⟩ := S7.out.td.box.cells
          obtain ⟨r0, r1, r2⟩ := S7.out.rb.cells
          obtain ⟨f0, f1, f2⟩ := S7.out.rb.free
          go_wp2
          refine bodyPost_ret (v := .agg #[.string nm, .slice av C.length cv, .slice a' (L.length + 1) k']) (by simp [results, Tryz.results25, go_sem, r0, r1, r2]) rfl ⟨nm, _, _, C, (L ++ [z]), rfl, hnm, Z7.out, ?_, ?_, ?_, ?_⟩
          · exact own_keepC (c := w.heap.size) S7.out.td.cols (((((Keep.refl w.heap.size w8)).setCell (p := ⟨w.heap.size, 0, none⟩) (Or.inl rfl) _).setCell (p := ⟨w.heap.size, 1, none⟩) (Or.inl rfl) _).setCell (p := ⟨w.heap.size, 2, none⟩) (Or.inl rfl) _) (by omega) (by omega)
          · obtain ⟨G, D, O⟩ := S7.out.td.rows
            exact ⟨G, D, O.keepC (c := w.heap.size) (((((Keep.refl w.heap.size w8)).setCell (p := ⟨w.heap.size, 0, none⟩) (Or.inl rfl) _).setCell (p := ⟨w.heap.size, 1, none⟩) (Or.inl rfl) _).setCell (p := ⟨w.heap.size, 2, none⟩) (Or.inl rfl) _) (by omega) (by omega)⟩
          · repeat (first | exact S7.out.cur | refine Cur.setAbove ?_ (by omega) _)
          · repeat (first | exact S7.out.kp | refine Keep.setCell ?_ (Or.inr (Nat.le_refl _)) _)
        · intro K hK
          go_simp
          refine hK _ _ ?_
          clear hK K
          try simp only [Act.put, List.setIfInBounds_toArray, List.set_cons_zero, List.set_cons_succ]
          refine wpAny_ready (rs := [1]) (by kernel_rfl) (by simp) ?_
          refine AllReady.cons (by simp only [List.getElem?_toArray, List.getElem?_cons_zero, List.getElem?_cons_succ]; rfl) ?_ AllReady.nil
          intro K hK
          obtain ⟨b0, b1, b2⟩ := (S6.out.alloc hcw (.cells #[.slice (some ⟨g, 0, none⟩) z.length k] 67)).td.box.cells
          go_simp
          refine hK _ _ ?_
          clear hK K
          try simp only [Act.put, List.setIfInBounds_toArray, List.set_cons_zero, List.set_cons_succ]
          refine wpAny_ready (rs := [7]) (by kernel_rfl) (by simp) ?_
          refine AllReady.cons (by simp only [List.getElem?_toArray, List.getElem?_cons_zero, List.getElem?_cons_succ]; rfl) ?_ AllReady.nil
          intro K hK
          rw [if_pos (by rfl)]
          refine wp_append_own _ _ _ 33 rfl (w.heap.size + 1) 67 iR (.slice none 0 0) 1 24 Tryz.underlying33 hiR hr0 hr1 hr2 rfl (by decide) (.slice ar L.length cr) L.length ((List.range L.length).map (headOf G D L)) rfl (O6.out.outer.alloc _) ⟨w6.heap.size, 0, none⟩ 1 1 [.slice (some ⟨g, 0, none⟩) z.length k] rfl rfl (cells1w w6 _ _) (by intro u hu; simp at hu; subst hu; rfl) (by unfold maxLen; omega) (by omega) (by have h7 := S6.out.td.box.lt; have h8 := S6.out.hB; simp; omega) ?_
          intro v' w7 own7 hgrow hnn
          obtain ⟨a', k', rfl⟩ := own_sliceL own7
          have SB := S6.out.alloc hcw (.cells #[.slice (some ⟨g, 0, none⟩) z.length k] 67)
          have bx := SB.td.box.grown hgrow (S6.out.td.box.notOwn O6.out.outer (by decide))
          obtain ⟨d0, d1, d2⟩ := bx.cells
          obtain ⟨e0, e1, e2⟩ := bx.free
          have S7 : Hid (SA w (w7.setCell ⟨w2.heap.size, 2, none⟩ (.slice a' (L.length + 1) k')) w2.heap.size c a len cap nm (.slice av C.length cv) (.slice a' (L.length + 1) k') C (L ++ [z])) := S6.out.addRow hcw O6.out hgz.out ownZ.out own7 hgrow
          have Z7 : Hid (Sizes C (L ++ [z]) 5 62) := by
            have h1 := SZ.out.addRow ZF.out hzl
            have : Sizes C (L ++ [z]) 5 62 := ⟨by omega, h1.cf, by simp; omega, h1.rf, h1.rn⟩
            exact this
          refine hK _ _ ?_
          clear hK K own7 hgrow hnn SB bx
          try simp only [Act.put, List.setIfInBounds_toArray, List.set_cons_zero, List.set_cons_succ]
          refine wpAny_take (i := 8) (by simp only [List.getElem?_toArray, List.getElem?_cons_zero, List.getElem?_cons_succ]; rfl) (by kernel_rfl) (by kernel_rfl) (by kernel_rfl) (by intro _ _ _ h; exact h) (Or.inl ⟨by rfl, fun w => by (go_simp; (try with_reducible rfl))⟩) ?_
          simp only [Act.put, List.setIfInBounds_toArray, List.set_cons_zero, List.set_cons_succ]
          refine wpAny_ready (rs := [9]) (by kernel_rfl) (by simp) ?_
          refine AllReady.cons (by simp only [List.getElem?_toArray, List.getElem?_cons_zero, List.getElem?_cons_succ]; rfl) ?_ AllReady.nil
          intro K hK
          go_simp
          refine hK _ _ ?_
          clear hK K
          try simp only [Act.put, List.setIfInBounds_toArray, List.set_cons_zero, List.set_cons_succ]
          refine wpAny_done (by kernel_rfl) ?_ _
          obtain ⟨w8, hw8⟩ : ∃ x, x = (w7.setCell ⟨w2.heap.size, 2, none⟩ (.slice a' (L.length + 1) k')) := ⟨_, rfl⟩
          rw [← hw8] at S7 ⊢
          clear hw8 d0 d1 d2 e0 e1 e2 b0 b1 b2
          have hLz : (L ++ [z]).length = L.length + 1 := by simp
          obtain ⟨b0, b1, b2⟩ := S7.out.td.box.cells
          obtain ⟨r0, r1, r2⟩ := S7.out.rb.cells
          obtain ⟨f0, f1, f2⟩ := S7.out.rb.free
          go_wp2
          refine bodyPost_ret (v := .agg #[.string nm, .slice av C.length cv, .slice a' (L.length + 1) k']) (by simp [results, Tryz.results25, go_sem, r0, r1, r2]) rfl ⟨nm, _, _, C, (L ++ [z]), rfl, hnm, Z7.out, ?_, ?_, ?_, ?_⟩
          · exact own_keepC (c := w.heap.size) S7.out.td.cols (((((Keep.refl w.heap.size w8)).setCell (p := ⟨w.heap.size, 0, none⟩) (Or.inl rfl) _).setCell (p := ⟨w.heap.size, 1, none⟩) (Or.inl rfl) _).setCell (p := ⟨w.heap.size, 2, none⟩) (Or.inl rfl) _) (by omega) (by omega)
          · obtain ⟨G, D, O⟩ := S7.out.td.rows
            exact ⟨G, D, O.keepC (c := w.heap.size) (((((Keep.refl w.heap.size w8)).setCell (p := ⟨w.heap.size, 0, none⟩) (Or.inl rfl) _).setCell (p := ⟨w.heap.size, 1, none⟩) (Or.inl rfl) _).setCell (p := ⟨w.heap.size, 2, none⟩) (Or.inl rfl) _) (by omega) (by omega)⟩
          · repeat (first | exact S7.out.cur | refine Cur.setAbove ?_ (by omega) _)
          · repeat (first | exact S7.out.kp | refine Keep.setCell ?_ (Or.inr (Nat.le_refl _)) _)
  · go_wp2_with fail
    refine wp_region_any (by kernel_rfl) (show wpAny _ _ _ _ _ _ _ w4.drew from ?_)
    refine wpAny_take (i := 0) (by simp only [List.getElem?_toArray, List.getElem?_cons_zero]; rfl) (by kernel_rfl) (by kernel_rfl) (by kernel_rfl) (by intro _ _ _ h; exact h) (Or.inl ⟨by rfl, fun w => by (go_simp; (try with_reducible rfl))⟩) ?_
    simp only [Act.put, List.setIfInBounds_toArray, List.set_cons_zero, List.set_cons_succ]
    refine wpAny_take (i := 2) (by simp only [List.getElem?_toArray, List.getElem?_cons_zero, List.getElem?_cons_succ]; rfl) (by kernel_rfl) (by kernel_rfl) (by kernel_rfl) (by intro _ _ _ h; exact h) (Or.inl ⟨by rfl, fun w => by (go_simp; (try with_reducible rfl))⟩) ?_
    simp only [Act.put, List.setIfInBounds_toArray, List.set_cons_zero, List.set_cons_succ]
    refine wpAny_ready (rs := [1, 3]) (by kernel_rfl) (by simp) ?_
    refine AllReady.cons (by simp only [List.getElem?_toArray, List.getElem?_cons_zero, List.getElem?_cons_succ]; rfl) ?_ (AllReady.cons (by simp only [List.getElem?_toArray, List.getElem?_cons_zero, List.getElem?_cons_succ]; rfl) ?_ AllReady.nil)
    · intro K hK
      obtain ⟨b0, b1, b2⟩ := S4.out.td.box.cells
      go_simp
      refine hK _ _ ?_
      clear hK K
      try simp only [Act.put, List.setIfInBounds_toArray, List.set_cons_zero, List.set_cons_succ]
      refine wpAny_ready (rs := [3]) (by kernel_rfl) (by simp) ?_
      refine AllReady.cons (by simp only [List.getElem?_toArray, List.getElem?_cons_zero, List.getElem?_cons_succ]; rfl) ?_ AllReady.nil
      intro K hK
      go_simp
      refine (any_draw S4.out.cur.drew).mono ?_
      rintro e w5 ⟨k1, n1, t1, rfl, ht1, hc5', hk5⟩
      have S5 : Hid (SA w w5 w2.heap.size c a len cap nm (.slice av C.length cv) (.slice ar L.length cr) C L) := S4.out.keep hcw ((Keep.refl c w4).drew.trans hk5) hc5'
      clear hc5' hk5
      go_wp2_with fail
      try clear hK K
      try simp only [Act.put, List.setIfInBounds_toArray, List.set_cons_zero, List.set_cons_succ]
      refine wpAny_ready (rs := [4]) (by kernel_rfl) (by simp) ?_
      refine AllReady.cons (by simp only [List.getElem?_toArray, List.getElem?_cons_zero, List.getElem?_cons_succ]; rfl) ?_ AllReady.nil
      intro K hK
      go_simp
      refine hK _ _ ?_
      clear hK K
      try simp only [Act.put, List.setIfInBounds_toArray, List.set_cons_zero, List.set_cons_succ]
      obtain ⟨w6, hw6⟩ : ∃ x, x = w5.alloc (.cells #[.int .i64 k1, .int .i64 n1, .string t1] 78) := ⟨_, rfl⟩
      obtain ⟨g, hg⟩ : ∃ g, w5.heap.size = g := ⟨_, rfl⟩
      rw [← hw6, hg]
      have S6 : Hid (SA w w6 w2.heap.size c a len cap nm (.slice av C.length cv) (.slice ar L.length cr) C L) := by rw [hw6]; exact S5.out.alloc hcw _
      obtain ⟨G, D, O⟩ := S5.out.td.rows
      have hgz : Hid (∀ i, i < L.length → G i ≠ g) := by
        have : ∀ i, i < L.length → G i ≠ g := fun i hi => by have := O.lt i hi; omega
        exact this
      have O6 : Hid (OwnRows w6 (w.heap.size + 1) (.slice ar L.length cr) L G D) := by rw [hw6]; exact O.below ((Below.refl _ _).alloc (Nat.le_refl _) _)
      have ownZ : Hid (w6.ownsRow (w.heap.size + 1) 78 3 (.slice (some ⟨g, 0, none⟩) 1 1) 1 (flat [(k1, n1, t1)])) := by
        have h7 := S5.out.td.box.lt
        have h8 := S5.out.hB
        have : w6.ownsRow (w.heap.size + 1) 78 3 (.slice (some ⟨g, 0, none⟩) 1 1) 1 (flat [(k1, n1, t1)]) := by
          rw [hw6]
          exact ⟨rfl, .inr ⟨g, 1, #[.int .i64 k1, .int .i64 n1, .string t1], rfl, by omega, by show (w5.heap.push _)[g]? = _; rw [← hg]; simp, Nat.le_refl _, by unfold maxLen; omega, rfl, rfl⟩⟩
        exact this
      have ZF : Hid (Fit [(k1, n1, t1)]) := by
        have : Fit [(k1, n1, t1)] := fun j hj => by
          have : j = 0 := by simp at hj; omega
          subst this; exact ht1
        exact this
      clear hw6 hg O
      refine wpAny_ready (rs := [5]) (by kernel_rfl) (by simp) ?_
      refine AllReady.cons (by simp only [List.getElem?_toArray, List.getElem?_cons_zero, List.getElem?_cons_succ]; rfl) ?_ AllReady.nil
      intro K hK
      go_simp
      refine hK _ _ ?_
      clear hK K
      try simp only [Act.put, List.setIfInBounds_toArray, List.set_cons_zero, List.set_cons_succ]
      refine wpAny_ready (rs := [6]) (by kernel_rfl) (by simp) ?_
      refine AllReady.cons (by simp only [List.getElem?_toArray, List.getElem?_cons_zero, List.getElem?_cons_succ]; rfl) ?_ AllReady.nil
      intro K hK
      rw [if_pos (by rfl)]
      refine wp_append_own _ _ _ 33 rfl (w.heap.size + 1) 67 iR (.slice none 0 0) 1 24 Tryz.underlying33 hiR hr0 hr1 hr2 rfl (by decide) (.slice ar L.length cr) L.length ((List.range L.length).map (headOf G D L)) rfl (O6.out.outer.alloc _) ⟨w6.heap.size, 0, none⟩ 1 1 [.slice (some ⟨g, 0, none⟩) 1 1] rfl rfl (cells1w w6 _ _) (by intro u hu; simp at hu; subst hu; rfl) (by unfold maxLen; omega) (by omega) (by have h7 := S6.out.td.box.lt; have h8 := S6.out.hB; simp; omega) ?_
      intro v' w7 own7 hgrow hnn
      obtain ⟨a', k', rfl⟩ := own_sliceL own7
      have SB := S6.out.alloc hcw (.cells #[.slice (some ⟨g, 0, none⟩) 1 1] 67)
      have bx := SB.td.box.grown hgrow (S6.out.td.box.notOwn O6.out.outer (by decide))
      obtain ⟨d0, d1, d2⟩ := bx.cells
      obtain ⟨e0, e1, e2⟩ := bx.free
      have S7 : Hid (SA w (w7.setCell ⟨w2.heap.size, 2, none⟩ (.slice a' (L.length + 1) k')) w2.heap.size c a len cap nm (.slice av C.length cv) (.slice a' (L.length + 1) k') C (L ++ [[(k1, n1, t1)]])) := S6.out.addRow hcw O6.out hgz.out ownZ.out own7 hgrow
      have Z7 : Hid (Sizes C (L ++ [[(k1, n1, t1)]]) 5 62) := by
        have h1 := SZ.out.addRow (r := [(k1, n1, t1)]) ZF.out (by simp)
        have : Sizes C (L ++ [[(k1, n1, t1)]]) 5 62 := ⟨by omega, h1.cf, by simp; omega, h1.rf, h1.rn⟩
        exact this
      refine hK _ _ ?_
      clear hK K own7 hgrow hnn SB bx
      try simp only [Act.put, List.setIfInBounds_toArray, List.set_cons_zero, List.set_cons_succ]
      refine wpAny_take (i := 7) (by simp only [List.getElem?_toArray, List.getElem?_cons_zero, List.getElem?_cons_succ]; rfl) (by kernel_rfl) (by kernel_rfl) (by kernel_rfl) (by intro _ _ _ h; exact h) (Or.inl ⟨by rfl, fun w => by (go_simp; (try with_reducible rfl))⟩) ?_
      simp only [Act.put, List.setIfInBounds_toArray, List.set_cons_zero, List.set_cons_succ]
      refine wpAny_ready (rs := [8]) (by kernel_rfl) (by simp) ?_
      refine AllReady.cons (by simp only [List.getElem?_toArray, List.getElem?_cons_zero, List.getElem?_cons_succ]; rfl) ?_ AllReady.nil
      intro K hK
      go_simp
      refine hK _ _ ?_
      clear hK K
      try simp only [Act.put, List.setIfInBounds_toArray, List.set_cons_zero, List.set_cons_succ]
      refine wpAny_done (by kernel_rfl) ?_ _
      obtain ⟨w8, hw8⟩ : ∃ x, x = (w7.setCell ⟨w2.heap.size, 2, none⟩ (.slice a' (L.length + 1) k')) := ⟨_, rfl⟩
      rw [← hw8] at S7 ⊢
      clear hw8 d0 d1 d2 e0 e1 e2 b0 b1 b2
      have hLz : (L ++ [[(k1, n1, t1)]]).length = L.length + 1 := by simp
      obtain ⟨b0, b1, b2⟩ := S7.out.td.box.cells
      obtain ⟨r0, r1, r2⟩ := S7.out.rb.cells
      obtain ⟨f0, f1, f2⟩ := S7.out.rb.free
      go_wp2
      refine bodyPost_ret (v := .agg #[.string nm, .slice av C.length cv, .slice a' (L.length + 1) k']) (by simp [results, Tryz.results25, go_sem, r0, r1, r2]) rfl ⟨nm, _, _, C, (L ++ [[(k1, n1, t1)]]), rfl, hnm, Z7.out, ?_, ?_, ?_, ?_⟩
      · exact own_keepC (c := w.heap.size) S7.out.td.cols (((((Keep.refl w.heap.size w8)).setCell (p := ⟨w.heap.size, 0, none⟩) (Or.inl rfl) _).setCell (p := ⟨w.heap.size, 1, none⟩) (Or.inl rfl) _).setCell (p := ⟨w.heap.size, 2, none⟩) (Or.inl rfl) _) (by omega) (by omega)
      · obtain ⟨G, D, O⟩ := S7.out.td.rows
        exact ⟨G, D, O.keepC (c := w.heap.size) (((((Keep.refl w.heap.size w8)).setCell (p := ⟨w.heap.size, 0, none⟩) (Or.inl rfl) _).setCell (p := ⟨w.heap.size, 1, none⟩) (Or.inl rfl) _).setCell (p := ⟨w.heap.size, 2, none⟩) (Or.inl rfl) _) (by omega) (by omega)⟩
      · repeat (first | exact S7.out.cur | refine Cur.setAbove ?_ (by omega) _)
      · repeat (first | exact S7.out.kp | refine Keep.setCell ?_ (Or.inr (Nat.le_refl _)) _)
    · intro K hK
      go_simp
      refine (any_draw S4.out.cur.drew).mono ?_
      rintro e w5 ⟨k1, n1, t1, rfl, ht1, hc5', hk5⟩
      have S5 : Hid (SA w w5 w2.heap.size c a len cap nm (.slice av C.length cv) (.slice ar L.length cr) C L) := S4.out.keep hcw ((Keep.refl c w4).drew.trans hk5) hc5'
      clear hc5' hk5
      go_wp2_with fail
      try clear hK K
      try simp only [Act.put, List.setIfInBounds_toArray, List.set_cons_zero, List.set_cons_succ]
      refine wpAny_ready (rs := [1, 4]) (by kernel_rfl) (by simp) ?_
      refine AllReady.cons (by simp only [List.getElem?_toArray, List.getElem?_cons_zero, List.getElem?_cons_succ]; rfl) ?_ (AllReady.cons (by simp only [List.getElem?_toArray, List.getElem?_cons_zero, List.getElem?_cons_succ]; rfl) ?_ AllReady.nil)
      · intro K hK
        obtain ⟨b0, b1, b2⟩ := S5.out.td.box.cells
        go_simp
        refine hK _ _ ?_
        clear hK K
        try simp only [Act.put, List.setIfInBounds_toArray, List.set_cons_zero, List.set_cons_succ]
        refine wpAny_ready (rs := [4]) (by kernel_rfl) (by simp) ?_
        refine AllReady.cons (by simp only [List.getElem?_toArray, List.getElem?_cons_zero, List.getElem?_cons_succ]; rfl) ?_ AllReady.nil
        intro K hK
        go_simp
        refine hK _ _ ?_
        clear hK K
        try simp only [Act.put, List.setIfInBounds_toArray, List.set_cons_zero, List.set_cons_succ]
        obtain ⟨w6, hw6⟩ : ∃ x, x = w5.alloc (.cells #[.int .i64 k1, .int .i64 n1, .string t1] 78) := ⟨_, rfl⟩
        obtain ⟨g, hg⟩ : ∃ g, w5.heap.size = g := ⟨_, rfl⟩
        rw [← hw6, hg]
        have S6 : Hid (SA w w6 w2.heap.size c a len cap nm (.slice av C.length cv) (.slice ar L.length cr) C L) := by rw [hw6]; exact S5.out.alloc hcw _
        obtain ⟨G, D, O⟩ := S5.out.td.rows
        have hgz : Hid (∀ i, i < L.length → G i ≠ g) := by
          have : ∀ i, i < L.length → G i ≠ g := fun i hi => by have := O.lt i hi; omega
          exact this
        have O6 : Hid (OwnRows w6 (w.heap.size + 1) (.slice ar L.length cr) L G D) := by rw [hw6]; exact O.below ((Below.refl _ _).alloc (Nat.le_refl _) _)
        have ownZ : Hid (w6.ownsRow (w.heap.size + 1) 78 3 (.slice (some ⟨g, 0, none⟩) 1 1) 1 (flat [(k1, n1, t1)])) := by
          have h7 := S5.out.td.box.lt
          have h8 := S5.out.hB
          have : w6.ownsRow (w.heap.size + 1) 78 3 (.slice (some ⟨g, 0, none⟩) 1 1) 1 (flat [(k1, n1, t1)]) := by
            rw [hw6]
            exact ⟨rfl, .inr ⟨g, 1, #[.int .i64 k1, .int .i64 n1, .string t1], rfl, by omega, by show (w5.heap.push _)[g]? = _; rw [← hg]; simp, Nat.le_refl _, by unfold maxLen; omega, rfl, rfl⟩⟩
          exact this
        have ZF : Hid (Fit [(k1, n1, t1)]) := by
          have : Fit [(k1, n1, t1)] := fun j hj => by
            have : j = 0 := by simp at hj; omega
            subst this; exact ht1
          exact this
        clear hw6 hg O
        refine wpAny_ready (rs := [5]) (by kernel_rfl) (by simp) ?_
        refine AllReady.cons (by simp only [List.getElem?_toArray, List.getElem?_cons_zero, List.getElem?_cons_succ]; rfl) ?_ AllReady.nil
        intro K hK
        go_simp
        refine hK _ _ ?_
        clear hK K
        try simp only [Act.put, List.setIfInBounds_toArray, List.set_cons_zero, List.set_cons_succ]
        refine wpAny_ready (rs := [6]) (by kernel_rfl) (by simp) ?_
        refine AllReady.cons (by simp only [List.getElem?_toArray, List.getElem?_cons_zero, List.getElem?_cons_succ]; rfl) ?_ AllReady.nil
        intro K hK
        rw [if_pos (by rfl)]
        refine wp_append_own _ _ _ 33 rfl (w.heap.size + 1) 67 iR (.slice none 0 0) 1 24 Tryz.underlying33 hiR hr0 hr1 hr2 rfl (by decide) (.slice ar L.length cr) L.length ((List.range L.length).map (headOf G D L)) rfl (O6.out.outer.alloc _) ⟨w6.heap.size, 0, none⟩ 1 1 [.slice (some ⟨g, 0, none⟩) 1 1] rfl rfl (cells1w w6 _ _) (by intro u hu; simp at hu; subst hu; rfl) (by unfold maxLen; omega) (by omega) (by have h7 := S6.out.td.box.lt; have h8 := S6.out.hB; simp; omega) ?_
        intro v' w7 own7 hgrow hnn
        obtain ⟨a', k', rfl⟩ := own_sliceL own7
        have SB := S6.out.alloc hcw (.cells #[.slice (some ⟨g, 0, none⟩) 1 1] 67)
        have bx := SB.td.box.grown hgrow (S6.out.td.box.notOwn O6.out.outer (by decide))
        obtain ⟨d0, d1, d2⟩ := bx.cells
        obtain ⟨e0, e1, e2⟩ := bx.free
        have S7 : Hid (SA w (w7.setCell ⟨w2.heap.size, 2, none⟩ (.slice a' (L.length + 1) k')) w2.heap.size c a len cap nm (.slice av C.length cv) (.slice a' (L.length + 1) k') C (L ++ [[(k1, n1, t1)]])) := S6.out.addRow hcw O6.out hgz.out ownZ.out own7 hgrow
        have Z7 : Hid (Sizes C (L ++ [[(k1, n1, t1)]]) 5 62) := by
          have h1 := SZ.out.addRow (r := [(k1, n1, t1)]) ZF.out (by simp)
          have : Sizes C (L ++ [[(k1, n1, t1)]]) 5 62 := ⟨by omega, h1.cf, by simp; omega, h1.rf, h1.rn⟩
          exact this
        refine hK _ _ ?_
        clear hK K own7 hgrow hnn SB bx
        try simp only [Act.put, List.setIfInBounds_toArray, List.set_cons_zero, List.set_cons_succ]
        refine wpAny_take (i := 7) (by simp only [List.getElem?_toArray, List.getElem?_cons_zero, List.getElem?_cons_succ]; rfl) (by kernel_rfl) (by kernel_rfl) (by kernel_rfl) (by intro _ _ _ h; exact h) (Or.inl ⟨by rfl, fun w => by (go_simp; (try with_reducible rfl))⟩) ?_
        simp only [Act.put, List.setIfInBounds_toArray, List.set_cons_zero, List.set_cons_succ]
        refine wpAny_ready (rs := [8]) (by kernel_rfl) (by simp) ?_
        refine AllReady.cons (by simp only [List.getElem?_toArray, List.getElem?_cons_zero, List.getElem?_cons_succ]; rfl) ?_ AllReady.nil
        intro K hK
        go_simp
        refine hK _ _ ?_
        clear hK K
        try simp only [Act.put, List.setIfInBounds_toArray, List.set_cons_zero, List.set_cons_succ]
        refine wpAny_done (by kernel_rfl) ?_ _
        obtain ⟨w8, hw8⟩ : ∃ x, x = (w7.setCell ⟨w2.heap.size, 2, none⟩ (.slice a' (L.length + 1) k')) := ⟨_, rfl⟩
        rw [← hw8] at S7 ⊢
        clear hw8 d0 d1 d2 e0 e1 e2 b0 b1 b2
        have hLz : (L ++ [[(k1, n1, t1)]]).length = L.length + 1 := by simp
        obtain ⟨b0, b1, b2⟩ := S7.out.td.box.cells
        obtain ⟨r0, r1, r2⟩ := S7.out.rb.cells
        obtain ⟨f0, f1, f2⟩ := S7.out.rb.free
        go_wp2
        refine bodyPost_ret (v := .agg #[.string nm, .slice av C.length cv, .slice a' (L.length + 1) k']) (by simp [results, Tryz.results25, go_sem, r0, r1, r2]) rfl ⟨nm, _, _, C, (L ++ [[(k1, n1, t1)]]), rfl, hnm, Z7.out, ?_, ?_, ?_, ?_⟩
        · exact own_keepC (c := w.heap.size) S7.out.td.cols (((((Keep.refl w.heap.size w8)).setCell (p := ⟨w.heap.size, 0, none⟩) (Or.inl rfl) _).setCell (p := ⟨w.heap.size, 1, none⟩) (Or.inl rfl) _).setCell (p := ⟨w.heap.size, 2, none⟩) (Or.inl rfl) _) (by omega) (by omega)
        · obtain ⟨G, D, O⟩ := S7.out.td.rows
          exact ⟨G, D, O.keepC (c := w.heap.size) (((((Keep.refl w.heap.size w8)).setCell (p := ⟨w.heap.size, 0, none⟩) (Or.inl rfl) _).setCell (p := ⟨w.heap.size, 1, none⟩) (Or.inl rfl) _).setCell (p := ⟨w.heap.size, 2, none⟩) (Or.inl rfl) _) (by omega) (by omega)⟩
        · repeat (first | exact S7.out.cur | refine Cur.setAbove ?_ (by omega) _)
        · repeat (first | exact S7.out.kp | refine Keep.setCell ?_ (Or.inr (Nat.le_refl _)) _)
      · intro K hK
        go_simp
        refine hK _ _ ?_
        clear hK K
        try simp only [Act.put, List.setIfInBounds_toArray, List.set_cons_zero, List.set_cons_succ]
        obtain ⟨w6, hw6⟩ : ∃ x, x = w5.alloc (.cells #[.int .i64 k1, .int .i64 n1, .string t1] 78) := ⟨_, rfl⟩
        obtain ⟨g, hg⟩ : ∃ g, w5.heap.size = g := ⟨_, rfl⟩
        rw [← hw6, hg]
        have S6 : Hid (SA w w6 w2.heap.size c a len cap nm (.slice av C.length cv) (.slice ar L.length cr) C L) := by rw [hw6]; exact S5.out.alloc hcw _
        obtain ⟨G, D, O⟩ := S5.out.td.rows
        have hgz : Hid (∀ i, i < L.length → G i ≠ g) := by
          have : ∀ i, i < L.length → G i ≠ g := fun i hi => by have := O.lt i hi; omega
          exact this
        have O6 : Hid (OwnRows w6 (w.heap.size + 1) (.slice ar L.length cr) L G D) := by rw [hw6]; exact O.below ((Below.refl _ _).alloc (Nat.le_refl _) _)
        have ownZ : Hid (w6.ownsRow (w.heap.size + 1) 78 3 (.slice (some ⟨g, 0, none⟩) 1 1) 1 (flat [(k1, n1, t1)])) := by
          have h7 := S5.out.td.box.lt
          have h8 := S5.out.hB
          have : w6.ownsRow (w.heap.size + 1) 78 3 (.slice (some ⟨g, 0, none⟩) 1 1) 1 (flat [(k1, n1, t1)]) := by
            rw [hw6]
            exact ⟨rfl, .inr ⟨g, 1, #[.int .i64 k1, .int .i64 n1, .string t1], rfl, by omega, by show (w5.heap.push _)[g]? = _; rw [← hg]; simp, Nat.le_refl _, by unfold maxLen; omega, rfl, rfl⟩⟩
          exact this
        have ZF : Hid (Fit [(k1, n1, t1)]) := by
          have : Fit [(k1, n1, t1)] := fun j hj => by
            have : j = 0 := by simp at hj; omega
            subst this; exact ht1
          exact this
        clear hw6 hg O
        refine wpAny_ready (rs := [1, 5]) (by kernel_rfl) (by simp) ?_
        refine AllReady.cons (by simp only [List.getElem?_toArray, List.getElem?_cons_zero, List.getElem?_cons_succ]; rfl) ?_ (AllReady.cons (by simp only [List.getElem?_toArray, List.getElem?_cons_zero, List.getElem?_cons_succ]; rfl) ?_ AllReady.nil)
        · intro K hK
          obtain ⟨b0, b1, b2⟩ := S6.out.td.box.cells
          go_simp
          refine hK _ _ ?_
          clear hK K
          try simp only [Act.put, List.setIfInBounds_toArray, List.set_cons_zero, List.set_cons_succ]
          refine wpAny_ready (rs := [5]) (by kernel_rfl) (by simp) ?_
          refine AllReady.cons (by simp only [List.getElem?_toArray, List.getElem?_cons_zero, List.getElem?_cons_succ]; rfl) ?_ AllReady.nil
          intro K hK
          go_simp
          refine hK _ _ ?_
          clear hK K
          try simp only [Act.put, List.setIfInBounds_toArray, List.set_cons_zero, List.set_cons_succ]
          refine wpAny_ready (rs := [6]) (by kernel_rfl) (by simp) ?_
          refine AllReady.cons (by simp only [List.getElem?_toArray, List.getElem?_cons_zero, List.getElem?_cons_succ]; rfl) ?_ AllReady.nil
          intro K hK
          rw [if_pos (by rfl)]
          refine wp_append_own _ _ _ 33 rfl (w.heap.size + 1) 67 iR (.slice none 0 0) 1 24 Tryz.underlying33 hiR hr0 hr1 hr2 rfl (by decide) (.slice ar L.length cr) L.length ((List.range L.length).map (headOf G D L)) rfl (O6.out.outer.alloc _) ⟨w6.heap.size, 0, none⟩ 1 1 [.slice (some ⟨g, 0, none⟩) 1 1] rfl rfl (cells1w w6 _ _) (by intro u hu; simp at hu; subst hu; rfl) (by unfold maxLen; omega) (by omega) (by have h7 := S6.out.td.box.lt; have h8 := S6.out.hB; simp; omega) ?_
          intro v' w7 own7 hgrow hnn
          obtain ⟨a', k', rfl⟩ := own_sliceL own7
          have SB := S6.out.alloc hcw (.cells #[.slice (some ⟨g, 0, none⟩) 1 1] 67)
          have bx := SB.td.box.grown hgrow (S6.out.td.box.notOwn O6.out.outer (by decide))
          obtain ⟨d0, d1, d2⟩ := bx.cells
          obtain ⟨e0, e1, e2⟩ := bx.free
          have S7 : Hid (SA w (w7.setCell ⟨w2.heap.size, 2, none⟩ (.slice a' (L.length + 1) k')) w2.heap.size c a len cap nm (.slice av C.length cv) (.slice a' (L.length + 1) k') C (L ++ [[(k1, n1, t1)]])) := S6.out.addRow hcw O6.out hgz.out ownZ.out own7 hgrow
          have Z7 : Hid (Sizes C (L ++ [[(k1, n1, t1)]]) 5 62) := by
            have h1 := SZ.out.addRow (r := [(k1, n1, t1)]) ZF.out (by simp)
            have : Sizes C (L ++ [[(k1, n1, t1)]]) 5 62 := ⟨by omega, h1.cf, by simp; omega, h1.rf, h1.rn⟩
            exact this
          refine hK _ _ ?_
          clear hK K own7 hgrow hnn SB bx
          try simp only [Act.put, List.setIfInBounds_toArray, List.set_cons_zero, List.set_cons_succ]
          refine wpAny_take (i := 7) (by simp only [List.getElem?_toArray, List.getElem?_cons_zero, List.getElem?_cons_succ]; rfl) (by kernel_rfl) (by kernel_rfl) (by kernel_rfl) (by intro _ _ _ h; exact h) (Or.inl ⟨by rfl, fun w => by (go_simp; (try with_reducible rfl))⟩) ?_
          simp only [Act.put, List.setIfInBounds_toArray, List.set_cons_zero, List.set_cons_succ]
          refine wpAny_ready (rs := [8]) (by kernel_rfl) (by simp) ?_
          refine AllReady.cons (by simp only [List.getElem?_toArray, List.getElem?_cons_zero, List.getElem?_cons_succ]; rfl) ?_ AllReady.nil
          intro K hK
          go_simp
          refine hK _ _ ?_
          clear hK K
          try simp only [Act.put, List.setIfInBounds_toArray, List.set_cons_zero, List.set_cons_succ]
          refine wpAny_done (by kernel_rfl) ?_ _
          obtain ⟨w8, hw8⟩ : ∃ x, x = (w7.setCell ⟨w2.heap.size, 2, none⟩ (.slice a' (L.length + 1) k')) := ⟨_, rfl⟩
          rw [← hw8] at S7 ⊢
          clear hw8 d0 d1 d2 e0 e1 e2 b0 b1 b2
          have hLz : (L ++ [[(k1, n1, t1)]]).length = L.length + 1 := by simp
          obtain ⟨b0, b1, b2⟩ := S7.out.td.box.cells
          obtain ⟨r0, r1, r2⟩ := S7.out.rb.cells
          obtain ⟨f0, f1, f2⟩ := S7.out.rb.free
          go_wp2
          refine bodyPost_ret (v := .agg #[.string nm, .slice av C.length cv, .slice a' (L.length + 1) k']) (by simp [results, Tryz.results25, go_sem, r0, r1, r2]) rfl ⟨nm, _, _, C, (L ++ [[(k1, n1, t1)]]), rfl, hnm, Z7.out, ?_, ?_, ?_, ?_⟩
          · exact own_keepC (c := w.heap.size) S7.out.td.cols (((((Keep.refl w.heap.size w8)).setCell (p := ⟨w.heap.size, 0, none⟩) (Or.inl rfl) _).setCell (p := ⟨w.heap.size, 1, none⟩) (Or.inl rfl) _).setCell (p := ⟨w.heap.size, 2, none⟩) (Or.inl rfl) _) (by omega) (by omega)
          · obtain ⟨G, D, O⟩ := S7.out.td.rows
            exact ⟨G, D, O.keepC (c := w.heap.size) (((((Keep.refl w.heap.size w8)).setCell (p := ⟨w.heap.size, 0, none⟩) (Or.inl rfl) _).setCell (p := ⟨w.heap.size, 1, none⟩) (Or.inl rfl) _).setCell (p := ⟨w.heap.size, 2, none⟩) (Or.inl rfl) _) (by omega) (by omega)⟩
          · repeat (first | exact S7.out.cur | refine Cur.setAbove ?_ (by omega) _)
          · repeat (first | exact S7.out.kp | refine Keep.setCell ?_ (Or.inr (Nat.le_refl _)) _)
        · intro K hK
          go_simp
          refine hK _ _ ?_
          clear hK K
          try simp only [Act.put, List.setIfInBounds_toArray, List.set_cons_zero, List.set_cons_succ]
          refine wpAny_ready (rs := [1]) (by kernel_rfl) (by simp) ?_
          refine AllReady.cons (by simp only [List.getElem?_toArray, List.getElem?_cons_zero, List.getElem?_cons_succ]; rfl) ?_ AllReady.nil
          intro K hK
          obtain ⟨b0, b1, b2⟩ := (S6.out.alloc hcw (.cells #[.slice (some ⟨g, 0, none⟩) 1 1] 67)).td.box.cells
          go_simp
          refine hK _ _ ?_
          clear hK K
          try simp only [Act.put, List.setIfInBounds_toArray, List.set_cons_zero, List.set_cons_succ]
          refine wpAny_ready (rs := [6]) (by kernel_rfl) (by simp) ?_
          refine AllReady.cons (by simp only [List.getElem?_toArray, List.getElem?_cons_zero, List.getElem?_cons_succ]; rfl) ?_ AllReady.nil
          intro K hK
          rw [if_pos (by rfl)]
          refine wp_append_own _ _ _ 33 rfl (w.heap.size + 1) 67 iR (.slice none 0 0) 1 24 Tryz.underlying33 hiR hr0 hr1 hr2 rfl (by decide) (.slice ar L.length cr) L.length ((List.range L.length).map (headOf G D L)) rfl (O6.out.outer.alloc _) ⟨w6.heap.size, 0, none⟩ 1 1 [.slice (some ⟨g, 0, none⟩) 1 1] rfl rfl (cells1w w6 _ _) (by intro u hu; simp at hu; subst hu; rfl) (by unfold maxLen; omega) (by omega) (by have h7 := S6.out.td.box.lt; have h8 := S6.out.hB; simp; omega) ?_
          intro v' w7 own7 hgrow hnn
          obtain ⟨a', k', rfl⟩ := own_sliceL own7
          have SB := S6.out.alloc hcw (.cells #[.slice (some ⟨g, 0, none⟩) 1 1] 67)
          have bx := SB.td.box.grown hgrow (S6.out.td.box.notOwn O6.out.outer (by decide))
          obtain ⟨d0, d1, d2⟩ := bx.cells
          obtain ⟨e0, e1, e2⟩ := bx.free
          have S7 : Hid (SA w (w7.setCell ⟨w2.heap.size, 2, none⟩ (.slice a' (L.length + 1) k')) w2.heap.size c a len cap nm (.slice av C.length cv) (.slice a' (L.length + 1) k') C (L ++ [[(k1, n1, t1)]])) := S6.out.addRow hcw O6.out hgz.out ownZ.out own7 hgrow
          have Z7 : Hid (Sizes C (L ++ [[(k1, n1, t1)]]) 5 62) := by
            have h1 := SZ.out.addRow (r := [(k1, n1, t1)]) ZF.out (by simp)
            have : Sizes C (L ++ [[(k1, n1, t1)]]) 5 62 := ⟨by omega, h1.cf, by simp; omega, h1.rf, h1.rn⟩
            exact this
          refine hK _ _ ?_
          clear hK K own7 hgrow hnn SB bx
          try simp only [Act.put, List.setIfInBounds_toArray, List.set_cons_zero, List.set_cons_succ]
          refine wpAny_take (i := 7) (by simp only [List.getElem?_toArray, List.getElem?_cons_zero, List.getElem?_cons_succ]; rfl) (by kernel_rfl) (by kernel_rfl) (by kernel_rfl) (by intro _ _ _ h; exact h) (Or.inl ⟨by rfl, fun w => by (go_simp; (try with_reducible rfl))⟩) ?_
          simp only [Act.put, List.setIfInBounds_toArray, List.set_cons_zero, List.set_cons_succ]
          refine wpAny_ready (rs := [8]) (by kernel_rfl) (by simp) ?_
          refine AllReady.cons (by simp only [List.getElem?_toArray, List.getElem?_cons_zero, List.getElem?_cons_succ]; rfl) ?_ AllReady.nil
          intro K hK
          go_simp
          refine hK _ _ ?_
          clear hK K
          try simp only [Act.put, List.setIfInBounds_toArray, List.set_cons_zero, List.set_cons_succ]
          refine wpAny_done (by kernel_rfl) ?_ _
          obtain ⟨w8, hw8⟩ : ∃ x, x = (w7.setCell ⟨w2.heap.size, 2, none⟩ (.slice a' (L.length + 1) k')) := ⟨_, rfl⟩
          rw [← hw8] at S7 ⊢
          clear hw8 d0 d1 d2 e0 e1 e2 b0 b1 b2
          have hLz : (L ++ [[(k1, n1, t1)]]).length = L.length + 1 := by simp
          obtain ⟨b0, b1, b2⟩ := S7.out.td.box.cells
          obtain ⟨r0, r1, r2⟩ := S7.out.rb.cells
          obtain ⟨f0, f1, f2⟩ := S7.out.rb.free
          go_wp2
          refine bodyPost_ret (v := .agg #[.string nm, .slice av C.length cv, .slice a' (L.length + 1) k']) (by simp [results, Tryz.results25, go_sem, r0, r1, r2]) rfl ⟨nm, _, _, C, (L ++ [[(k1, n1, t1)]]), rfl, hnm, Z7.out, ?_, ?_, ?_, ?_⟩
          · exact own_keepC (c := w.heap.size) S7.out.td.cols (((((Keep.refl w.heap.size w8)).setCell (p := ⟨w.heap.size, 0, none⟩) (Or.inl rfl) _).setCell (p := ⟨w.heap.size, 1, none⟩) (Or.inl rfl) _).setCell (p := ⟨w.heap.size, 2, none⟩) (Or.inl rfl) _) (by omega) (by omega)
          · obtain ⟨G, D, O⟩ := S7.out.td.rows
            exact ⟨G, D, O.keepC (c := w.heap.size) (((((Keep.refl w.heap.size w8)).setCell (p := ⟨w.heap.size, 0, none⟩) (Or.inl rfl) _).setCell (p := ⟨w.heap.size, 1, none⟩) (Or.inl rfl) _).setCell (p := ⟨w.heap.size, 2, none⟩) (Or.inl rfl) _) (by omega) (by omega)⟩
          · repeat (first | exact S7.out.cur | refine Cur.setAbove ?_ (by omega) _)
          · repeat (first | exact S7.out.kp | refine Keep.setCell ?_ (Or.inr (Nat.le_refl _)) _)
  · obtain ⟨b0, b1, b2⟩ := S4.out.td.box.cells
    obtain ⟨g0, g1, g2⟩ := S4.out.td.box.free
    have hB4 := S4.out.hB
    have hl4 := S4.out.td.box.lt
    have S5 : Hid (SA w ((w4.alloc (.cells #[.string ⟨#[97]⟩] 9)).setCell ⟨w2.heap.size, 1, none⟩ (.slice (some ⟨w4.heap.size, 0, none⟩) 1 1)) w2.heap.size c a len cap nm (.slice (some ⟨w4.heap.size, 0, none⟩) 1 1) (.slice ar L.length cr) [⟨#[97]⟩] L) := by
      have ow : (w4.alloc (.cells #[.string ⟨#[97]⟩] 9)).ownsRow (w.heap.size + 1) 9 1 (.slice (some ⟨w4.heap.size, 0, none⟩) 1 1) 1 (strV [⟨#[97]⟩]) :=
        ⟨rfl, .inr ⟨w4.heap.size, 1, #[.string ⟨#[97]⟩], rfl, by omega, by show (w4.heap.push _)[w4.heap.size]? = _; simp, Nat.le_refl _, by unfold maxLen; omega, rfl, rfl⟩⟩
      have SB := S4.out.alloc hcw (.cells #[.string ⟨#[97]⟩] 9)
      have : SA w ((w4.alloc (.cells #[.string ⟨#[97]⟩] 9)).setCell ⟨w2.heap.size, 1, none⟩ (.slice (some ⟨w4.heap.size, 0, none⟩) 1 1)) w2.heap.size c a len cap nm (.slice (some ⟨w4.heap.size, 0, none⟩) 1 1) (.slice ar L.length cr) [⟨#[97]⟩] L := SB.far hcw ((Below.refl _ _).setCell (p := ⟨w2.heap.size, 1, none⟩) (by show _ ≤ w2.heap.size; omega) _) (SB.td.setCols ow)
      exact this
    obtain ⟨w5, hw5⟩ : ∃ x, x = ((w4.alloc (.cells #[.string ⟨#[97]⟩] 9)).setCell ⟨w2.heap.size, 1, none⟩ (.slice (some ⟨w4.heap.size, 0, none⟩) 1 1)) := ⟨_, rfl⟩
    rw [← hw5] at S5
    have hl5 := S5.out.td.box.lt
    have S6 : Hid (SA w ((w5.alloc (.cells #[] 67)).setCell ⟨w2.heap.size, 2, none⟩ (.slice (some ⟨w5.heap.size, 0, none⟩) 0 0)) w2.heap.size c a len cap nm (.slice (some ⟨w4.heap.size, 0, none⟩) 1 1) (.slice (some ⟨w5.heap.size, 0, none⟩) 0 0) [⟨#[97]⟩] []) := by
      have ow : OwnRows (w5.alloc (.cells #[] 67)) (w.heap.size + 1) (.slice (some ⟨w5.heap.size, 0, none⟩) 0 0) [] (fun _ => 0) (fun _ => 0) :=
        ⟨⟨rfl, .inr ⟨w5.heap.size, 0, #[], rfl, by omega, by show (w5.heap.push _)[w5.heap.size]? = _; simp, Nat.le_refl _, by unfold maxLen; omega, rfl, rfl⟩⟩, fun i hi => by simp at hi, fun i j hi => by simp at hi⟩
      have SB := S5.out.alloc hcw (.cells #[] 67)
      have : SA w ((w5.alloc (.cells #[] 67)).setCell ⟨w2.heap.size, 2, none⟩ (.slice (some ⟨w5.heap.size, 0, none⟩) 0 0)) w2.heap.size c a len cap nm (.slice (some ⟨w4.heap.size, 0, none⟩) 1 1) (.slice (some ⟨w5.heap.size, 0, none⟩) 0 0) [⟨#[97]⟩] [] := SB.far hcw ((Below.refl _ _).setCell (p := ⟨w2.heap.size, 2, none⟩) (by show _ ≤ w2.heap.size; omega) _) (SB.td.setRows ow)
      exact this
    have hs5 : w5.heap.size = w4.heap.size + 1 := by rw [hw5]; simp
    have hWW : ((w5.alloc (.cells #[] 67)).setCell ⟨w2.heap.size, 2, none⟩ (.slice (some ⟨w5.heap.size, 0, none⟩) 0 0)) = (((w4.setCell ⟨w2.heap.size, 1, none⟩ (.slice (some ⟨w4.heap.size, 0, none⟩) 1 1)).setCell ⟨w2.heap.size, 2, none⟩ (.slice (some ⟨w4.heap.size + 1, 0, none⟩) 0 0)).alloc (.cells #[.string ⟨#[97]⟩] 9)).alloc (.cells #[] 67) := by
      rw [World.setCell_alloc_past _ _ _ _ hl5, hs5, hw5, World.setCell_alloc_past _ _ _ _ hl4, World.setCell_alloc_past _ _ _ _ (by simpa using hl4)]
    rw [hWW, hs5] at S6
    clear hWW hs5 hw5 S5 hl5
    go_wp2_with fail
    obtain ⟨X, hX⟩ : ∃ X, X = (((w4.setCell ⟨w2.heap.size, 1, none⟩ (.slice (some ⟨w4.heap.size, 0, none⟩) 1 1)).setCell ⟨w2.heap.size, 2, none⟩ (.slice (some ⟨w4.heap.size + 1, 0, none⟩) 0 0)).alloc (.cells #[.string ⟨#[97]⟩] 9)).alloc (.cells #[] 67) := ⟨_, rfl⟩
    rw [← hX] at S6 ⊢
    clear hX b0 b1 b2 g0 g1 g2
    refine (below_draw S6.out.cur 2 (by omega) (by omega)).mono ?_
    rintro e w6 ⟨y, rfl, hy0, hy1, hc6', hk6⟩
    obtain ⟨y, rfl⟩ := Int.eq_ofNat_of_zero_le hy0
    have S7 : Hid (SA w w6 w2.heap.size c a len cap nm (.slice (some ⟨w4.heap.size, 0, none⟩) 1 1) (.slice (some ⟨w4.heap.size + 1, 0, none⟩) 0 0) [⟨#[97]⟩] []) := S6.out.keep hcw hk6 hc6'
    clear hc6' hk6 S6
    go_wp2_with fail
    go_loopw [4] (fun nn wz => ∃ (m : Nat) (vr : Value) (L : List (List CT)), nn = .int .i64 m ∧ L.length + m ≤ 61 ∧ Hid (SA w wz w2.heap.size c a len cap nm (.slice (some ⟨w4.heap.size, 0, none⟩) 1 1) vr [⟨#[97]⟩] L ∧ Sizes [⟨#[97]⟩] L 5 62)) (fun nn _ => (intOf nn).toNat)
    case atStart => exact ⟨60 + y, _, [], by simp, by simp; omega, S7.out, ⟨by simp, fun j hj => by have : j = 0 := by { simp at hj; omega }; subst this; exact (by unfold maxLen; decide : (⟨#[97]⟩ : ByteArray).size ≤ maxLen), by simp, fun i hi => by simp at hi, fun i hi => by simp at hi⟩⟩
    case round =>
      obtain ⟨m, vr, L', rfl, hLm, hP⟩ := hrel
      clear S7
      have SI : Hid (SA w wr w2.heap.size c a len cap nm (.slice (some ⟨w4.heap.size, 0, none⟩) 1 1) vr [⟨#[97]⟩] L') := hP.out.1
      have SL : Hid (Sizes [⟨#[97]⟩] L' 5 62) := hP.out.2
      clear hP
      obtain ⟨G, D, O⟩ := SI.out.td.rows
      obtain ⟨ar', cr', rfl⟩ := own_sliceL O.outer
      by_cases hm0 : m = 0
      · subst hm0
        obtain ⟨b0, b1, b2⟩ := SI.out.td.box.cells
        obtain ⟨r0, r1, r2⟩ := SI.out.rb.cells
        obtain ⟨f0, f1, f2⟩ := SI.out.rb.free
        go_wp2
        refine bodyPost_ret (v := .agg #[.string nm, .slice (some ⟨w4.heap.size, 0, none⟩) 1 1, .slice ar' L'.length cr']) (by simp [results, Tryz.results25, go_sem, r0, r1, r2]) rfl ⟨nm, _, _, [⟨#[97]⟩], L', rfl, hnm, SL.out, ?_, ?_, ?_, ?_⟩
        · exact own_keepC (c := w.heap.size) SI.out.td.cols (((((Keep.refl w.heap.size wr)).setCell (p := ⟨w.heap.size, 0, none⟩) (Or.inl rfl) _).setCell (p := ⟨w.heap.size, 1, none⟩) (Or.inl rfl) _).setCell (p := ⟨w.heap.size, 2, none⟩) (Or.inl rfl) _) (by omega) (by omega)
        · obtain ⟨G, D, O⟩ := SI.out.td.rows
          exact ⟨G, D, O.keepC (c := w.heap.size) (((((Keep.refl w.heap.size wr)).setCell (p := ⟨w.heap.size, 0, none⟩) (Or.inl rfl) _).setCell (p := ⟨w.heap.size, 1, none⟩) (Or.inl rfl) _).setCell (p := ⟨w.heap.size, 2, none⟩) (Or.inl rfl) _) (by omega) (by omega)⟩
        · repeat (first | exact SI.out.cur | refine Cur.setAbove ?_ (by omega) _)
        · repeat (first | exact SI.out.kp | refine Keep.setCell ?_ (Or.inr (Nat.le_refl _)) _)
      · have hmp : 0 < m := by omega
        have q3 : (0 : Int) < (m : Int) := by omega
        have HO : Hid (OwnRows wr (w.heap.size + 1) (.slice ar' L'.length cr') L' G D) := O
        clear O
        obtain ⟨b0, b1, b2⟩ := SI.out.td.box.cells
        have hlr := SI.out.td.box.lt
        have hLl' : L'.length ≤ 61 := by omega
        obtain ⟨w8, hw8⟩ : ∃ x, x = wr.alloc (.cells #[.int .i64 0, .int .i64 0, .string ⟨#[]⟩] 78) := ⟨_, rfl⟩
        have S8 : Hid (SA w w8 w2.heap.size c a len cap nm (.slice (some ⟨w4.heap.size, 0, none⟩) 1 1) (.slice ar' L'.length cr') [⟨#[97]⟩] L') := by rw [hw8]; exact SI.out.alloc hcw _
        have O8 : Hid (OwnRows w8 (w.heap.size + 1) (.slice ar' L'.length cr') L' G D) := by rw [hw8]; exact HO.out.below ((Below.refl _ _).alloc (Nat.le_refl _) _)
        have hgz : Hid (∀ i, i < L'.length → G i ≠ wr.heap.size) := by
          have : ∀ i, i < L'.length → G i ≠ wr.heap.size := fun i hi => by have := HO.out.lt i hi; omega
          exact this
        have ownZ : Hid (w8.ownsRow (w.heap.size + 1) 78 3 (.slice (some ⟨wr.heap.size, 0, none⟩) 1 1) 1 (flat [(0, 0, ⟨#[]⟩)])) := by
          have : w8.ownsRow (w.heap.size + 1) 78 3 (.slice (some ⟨wr.heap.size, 0, none⟩) 1 1) 1 (flat [(0, 0, ⟨#[]⟩)]) := by
            rw [hw8]
            exact ⟨rfl, .inr ⟨wr.heap.size, 1, #[.int .i64 0, .int .i64 0, .string ⟨#[]⟩], rfl, by omega, by show (wr.heap.push _)[wr.heap.size]? = _; simp, Nat.le_refl _, by unfold maxLen; omega, rfl, rfl⟩⟩
          exact this
        have hs8 : w8.heap.size = wr.heap.size + 1 := by rw [hw8]; simp
        go_wp2_with (at_builtin; rw [← hw8]; refine wpList_append_own _ rfl _ _ 33 rfl (w.heap.size + 1) 67 iR (.slice none 0 0) 1 24 Tryz.underlying33 hiR hr0 hr1 hr2 rfl (by decide) _ _ _ rfl (O8.out.outer.alloc _) ⟨wr.heap.size + 1, 0, none⟩ 1 1 [.slice (some ⟨wr.heap.size, 0, none⟩) 1 1] rfl rfl (by rw [← hs8]; exact cells1w w8 _ _) (by intro u hu; simp at hu; subst hu; rfl) (by unfold maxLen; omega) (by omega) (by simp; omega) ?_)
        intro v' w9 own9 hgrow hnn
        rw [← hw8] at hgrow
        obtain ⟨a', k', rfl⟩ := own_sliceL own9
        have SB := S8.out.alloc hcw (.cells #[.slice (some ⟨wr.heap.size, 0, none⟩) 1 1] 67)
        have bx := SB.td.box.grown hgrow (S8.out.td.box.notOwn O8.out.outer (by decide))
        obtain ⟨d0, d1, d2⟩ := bx.cells
        obtain ⟨e0, e1, e2⟩ := bx.free
        have S9 : Hid (SA w (w9.setCell ⟨w2.heap.size, 2, none⟩ (.slice a' (L'.length + 1) k')) w2.heap.size c a len cap nm (.slice (some ⟨w4.heap.size, 0, none⟩) 1 1) (.slice a' (L'.length + 1) k') [⟨#[97]⟩] (L' ++ [[(0, 0, ⟨#[]⟩)]])) := S8.out.addRow (x := [(0, 0, ⟨#[]⟩)]) hcw O8.out hgz.out ownZ.out own9 hgrow
        have Z9 : Hid (Sizes [⟨#[97]⟩] (L' ++ [[(0, 0, ⟨#[]⟩)]]) 5 62) := by
          have h1 := SL.out.addRow (r := [(0, 0, ⟨#[]⟩)]) (fun j hj => by have : j = 0 := by { simp at hj; omega }; subst this; exact (by unfold maxLen; decide : (⟨#[]⟩ : ByteArray).size ≤ maxLen)) (by simp)
          have : Sizes [⟨#[97]⟩] (L' ++ [[(0, 0, ⟨#[]⟩)]]) 5 62 := ⟨h1.cl, h1.cf, by simp; omega, h1.rf, h1.rn⟩
          exact this
        clear own9 hgrow hnn SB bx hw8 b0 b1 b2
        go_wp2
        go_roundw
        case rel => exact ⟨m - 1, _, _, by rw [show ((m - 1 : Nat) : Int) = (m : Int) - 1 by omega], by simp; omega, S9.out, Z9.out⟩
        case measure => simp [intOf]; omega

end Go.Proofs.YteamdmcgkpeelabGreatDoor
