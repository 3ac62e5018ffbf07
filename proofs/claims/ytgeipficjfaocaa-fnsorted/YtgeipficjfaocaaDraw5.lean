/-
  The contract of two drawn cells.
-/
import Derived.Test.YtgeipficjfaocaaDraw4
import Derived.Deep.RegionHeld3
namespace Go.Proofs.Ytgeipficjfaocaa
open Go.ChangeShapes Go.WideShapes Go.ChangeAt Go.RowKit

/-- Three cells of a block, and that they may be written. -/
def Has3 (w : World) (B : Nat) (x y z : Value) : Prop :=
  (w.cell? ⟨B, 0, none⟩ = some x ∧ w.cell? ⟨B, 1, none⟩ = some y ∧ w.cell? ⟨B, 2, none⟩ = some z ∧ B < w.heap.size) ∧
  (w.frozen? ⟨B, 0, none⟩ = false ∧ w.frozen? ⟨B, 1, none⟩ = false ∧ w.frozen? ⟨B, 2, none⟩ = false)

theorem Has3.keep {c B : Nat} {w w' : World} {x y z : Value} (h : Has3 w B x y z) (hk : Keep c w w') (hne : B ≠ c) : Has3 w' B x y z :=
  ⟨keep3 hk hne h.1, keepF hk hne h.1.2.2.2 h.2⟩
theorem Has3.alloc {B : Nat} {w : World} {x y z : Value} (h : Has3 w B x y z) (o : Obj) : Has3 (w.alloc o) B x y z := ⟨old3 o h.1, oldF o h.1.2.2.2 h.2⟩
theorem Has3.new (w : World) (x y z : Value) (T : TypeId) : Has3 (w.alloc (.cells #[x, y, z] T)) w.heap.size x y z :=
  ⟨⟨by simp [go_sem], by simp [go_sem], by simp [go_sem], by simp⟩, by simp [go_sem], by simp [go_sem], by simp [go_sem]⟩
theorem Has3.drew {B : Nat} {w : World} {x y z : Value} (h : Has3 w B x y z) : Has3 w.drew B x y z := h
theorem Has3.setFar {B b o : Nat} {w : World} {x y z : Value} (h : Has3 w B x y z) (hne : B ≠ b) (u : Value) : Has3 (w.setCell ⟨b, o, none⟩ u) B x y z := by
  obtain ⟨⟨h0, h1, h2, h3⟩, f0, f1, f2⟩ := h
  have hc : ∀ q, (w.setCell ⟨b, o, none⟩ u).cell? ⟨B, q, none⟩ = w.cell? ⟨B, q, none⟩ := fun q => World.cell?_of_block (w := w) (Below.heap_setCell w _ u B hne)
  exact ⟨⟨by rw [hc]; exact h0, by rw [hc]; exact h1, by rw [hc]; exact h2, by simpa using h3⟩, by rw [World.frozen?_setCell]; exact f0, by rw [World.frozen?_setCell]; exact f1, by rw [World.frozen?_setCell]; exact f2⟩
theorem Has3.setAll {B : Nat} {w : World} {x y z : Value} (h : Has3 w B x y z) (a b c : Value) : Has3 (((w.setCell ⟨B, 0, none⟩ a).setCell ⟨B, 1, none⟩ b).setCell ⟨B, 2, none⟩ c) B a b c := by
  obtain ⟨⟨h0, h1, h2, h3⟩, f0, f1, f2⟩ := h
  refine ⟨⟨?_, ?_, ?_, by simpa using h3⟩, by simp only [World.frozen?_setCell]; exact f0, by simp only [World.frozen?_setCell]; exact f1, by simp only [World.frozen?_setCell]; exact f2⟩
  · rw [World.cell?_setCell_other _ _ _ _ (by simp), World.cell?_setCell_other _ _ _ _ (by simp)]; exact World.cell?_setCell_same _ _ _ h0
  · rw [World.cell?_setCell_other _ _ _ _ (by simp)]; exact World.cell?_setCell_same _ _ _ (by rw [World.cell?_setCell_other _ _ _ _ (by simp)]; exact h1)
  · exact World.cell?_setCell_same _ _ _ (by rw [World.cell?_setCell_other _ _ _ _ (by simp), World.cell?_setCell_other _ _ _ _ (by simp)]; exact h2)

/-- Two cells handed back by a draw. -/
def DrawnTwo (c : Nat) (a : Option Addr) (len cap : Nat) (w : World) (e : Ending) (w' : World) : Prop :=
  ∃ (k1 n1 : Int) (t1 : ByteArray) (k2 n2 : Int) (t2 : ByteArray), e = .returned (.tuple #[.agg #[.int .i64 k1, .int .i64 n1, .string t1], .agg #[.int .i64 k2, .int .i64 n2, .string t2]]) ∧ t1.size ≤ maxLen ∧ t2.size ≤ maxLen ∧ Cur w' c a len cap ∧ Keep c w w'

set_option maxHeartbeats 4000000 in
theorem two_draw {w : World} {c : Nat} {a : Option Addr} {len cap : Nat} (h : Cur w c a len cap) :
    Calls Try.prog 47 #[.pointer (some ⟨c, 0, none⟩)] w fun e w' => DrawnTwo c a len cap w e w' := by
  have hcw : c < w.heap.size := h.lt
  have hne0 : w.heap.size ≠ c := by omega
  have hne1 : w.heap.size + 1 ≠ c := by omega
  have hcur : Hid (Cur w c a len cap) := h
  clear h
  have HR2 : Hid (Has3 ((w.alloc (.cells #[.int .i64 0, .int .i64 0, .string ⟨#[]⟩] 25)).alloc (.cells #[.int .i64 0, .int .i64 0, .string ⟨#[]⟩] 25)) w.heap.size (.int .i64 0) (.int .i64 0) (.string ⟨#[]⟩)) := (Has3.new w _ _ _ _).alloc _
  have HR3 : Hid (Has3 ((w.alloc (.cells #[.int .i64 0, .int .i64 0, .string ⟨#[]⟩] 25)).alloc (.cells #[.int .i64 0, .int .i64 0, .string ⟨#[]⟩] 25)) (w.heap.size + 1) (.int .i64 0) (.int .i64 0) (.string ⟨#[]⟩)) := by
    have := Has3.new (w.alloc (.cells #[.int .i64 0, .int .i64 0, .string ⟨#[]⟩] 25)) (.int .i64 0) (.int .i64 0) (.string ⟨#[]⟩) 25
    simp only [World.size_alloc] at this
    exact this
  go_enter Try.func47, Try.ntmps47
  go_wp2_with fail
  refine (any_draw ((hcur.out.alloc _).alloc _)).mono ?_
  rintro e w1 ⟨k1, n1, t1, rfl, ht1, hc1, hk1⟩
  have S2 : Hid (Has3 w1 w.heap.size (.int .i64 0) (.int .i64 0) (.string ⟨#[]⟩)) := Has3.keep HR2.out hk1 hne0
  have S3 : Hid (Has3 w1 (w.heap.size + 1) (.int .i64 0) (.int .i64 0) (.string ⟨#[]⟩)) := Has3.keep HR3.out hk1 hne1
  have hkw : Keep c w w1 := (((Keep.refl c w).alloc _).alloc _).trans hk1
  have hsz1 : w.heap.size + 1 < w1.heap.size := S3.out.1.2.2.2
  have hcx : c < w1.heap.size := hc1.lt
  have hnx : w1.heap.size ≠ c := by omega
  clear hk1 HR2 HR3
  go_wp2_with fail
  refine (any_draw (hc1.alloc _)).mono ?_
  rintro e w2 ⟨k2, n2, t2, rfl, ht2, hc2, hk2⟩
  have A2 : Hid (Has3 w2 w1.heap.size (.int .i64 k1) (.int .i64 n1) (.string t1)) := Has3.keep (Has3.new w1 _ _ _ _) hk2 hnx
  have U2 : Hid (Has3 w2 w.heap.size (.int .i64 0) (.int .i64 0) (.string ⟨#[]⟩)) := Has3.keep (S2.out.alloc _) hk2 hne0
  have U3 : Hid (Has3 w2 (w.heap.size + 1) (.int .i64 0) (.int .i64 0) (.string ⟨#[]⟩)) := Has3.keep (S3.out.alloc _) hk2 hne1
  have hkv : Keep c w w2 := (hkw.alloc _).trans hk2
  have hsz2 : w1.heap.size < w2.heap.size := A2.out.1.2.2.2
  have hny : w2.heap.size ≠ c := by omega
  clear hk2 S2 S3 hkw
  go_wp2_with fail
  go_loopw [6] (fun s6 wr => ∃ (k : Nat) (kb nb : Int) (tb : ByteArray), k ≤ 4 ∧ s6 = .int .i64 k ∧ tb.size ≤ maxLen ∧ Has3 wr w2.heap.size (.int .i64 kb) (.int .i64 nb) (.string tb) ∧
      Has3 wr w1.heap.size (.int .i64 k1) (.int .i64 n1) (.string t1) ∧ Has3 wr w.heap.size (.int .i64 0) (.int .i64 0) (.string ⟨#[]⟩) ∧ Has3 wr (w.heap.size + 1) (.int .i64 0) (.int .i64 0) (.string ⟨#[]⟩) ∧ Cur wr c a len cap ∧ Keep c w wr)
    (fun s6 _ => 4 - (intOf s6).toNat)
  case atStart => exact ⟨0, k2, n2, t2, by omega, rfl, ht2, Has3.new _ _ _ _ _, A2.out.alloc _, U2.out.alloc _, U3.out.alloc _, hc2.alloc _, hkv.alloc _⟩
  case round =>
    obtain ⟨k, kb, nb, tb, hk4, rfl, htb, HB, HA, HR2, HR3, hcr, hkr⟩ := hrel
    have hd1 : w2.heap.size ≠ w1.heap.size := by omega
    have hd2 : w2.heap.size ≠ w.heap.size := by omega
    have hd3 : w2.heap.size ≠ w.heap.size + 1 := by omega
    have hd4 : w1.heap.size ≠ w.heap.size := by omega
    have hd5 : w1.heap.size ≠ w.heap.size + 1 := by omega
    have hd6 : w.heap.size + 1 ≠ w.heap.size := by omega
    have HC : Hid (Cur wr c a len cap) := hcr
    have HK : Hid (Keep c w wr) := hkr
    clear hcr hkr A2 U2 U3 hkv hc2 hc1
    by_cases hk : k < 4
    · by_cases hab : k1 = kb
      · subst hab
        obtain ⟨⟨x0, x1, x2, x3⟩, x4, x5, x6⟩ := HB
        obtain ⟨⟨y0, y1, y2, y3⟩, y4, y5, y6⟩ := HA
        obtain ⟨⟨p0, p1, p2, p3⟩, p4, p5, p6⟩ := HR2
        obtain ⟨⟨q0, q1, q2, q3⟩, q4, q5, q6⟩ := HR3
        go_wp2_with fail
        go_region
        go_wp2
        exact bodyPost_ret (v := .tuple #[.agg #[.int .i64 k1, .int .i64 n1, .string t1], .agg #[.int .i64 k1, .int .i64 nb, .string tb]]) (by simp [results, Try.results47, go_sem, p0, p1, p2, q0, q1, q2]) rfl ⟨k1, n1, t1, k1, nb, tb, rfl, ht1, htb, ((((((HC.out.setAbove hcw _).setAbove hcw _).setAbove hcw _).setAbove (Nat.lt_succ_of_lt hcw) _).setAbove (Nat.lt_succ_of_lt hcw) _).setAbove (Nat.lt_succ_of_lt hcw) _).drew, ((((((HK.out.setCell (p := ⟨_, _, none⟩) (Or.inr (Nat.le_refl _)) _).setCell (p := ⟨_, _, none⟩) (Or.inr (Nat.le_refl _)) _).setCell (p := ⟨_, _, none⟩) (Or.inr (Nat.le_refl _)) _).setCell (p := ⟨_, _, none⟩) (Or.inr (Nat.le_succ _)) _).setCell (p := ⟨_, _, none⟩) (Or.inr (Nat.le_succ _)) _).setCell (p := ⟨_, _, none⟩) (Or.inr (Nat.le_succ _)) _).drew⟩
      · have GB := HB
        have GA := HA
        have G2 := HR2
        have G3 := HR3
        have KB : Hid (Has3 wr w2.heap.size (.int .i64 kb) (.int .i64 nb) (.string tb)) := GB
        have KA : Hid (Has3 wr w1.heap.size (.int .i64 k1) (.int .i64 n1) (.string t1)) := GA
        have K2 : Hid (Has3 wr w.heap.size (.int .i64 0) (.int .i64 0) (.string ⟨#[]⟩)) := G2
        have K3 : Hid (Has3 wr (w.heap.size + 1) (.int .i64 0) (.int .i64 0) (.string ⟨#[]⟩)) := G3
        clear GB GA G2 G3
        obtain ⟨⟨x0, x1, x2, x3⟩, x4, x5, x6⟩ := HB
        obtain ⟨⟨y0, y1, y2, y3⟩, y4, y5, y6⟩ := HA
        obtain ⟨⟨p0, p1, p2, p3⟩, p4, p5, p6⟩ := HR2
        obtain ⟨⟨q0, q1, q2, q3⟩, q4, q5, q6⟩ := HR3
        go_wp2_with fail
        refine (once_draw HC.out 5 (by omega) (by omega)).mono ?_
        rintro e w3 ⟨b, rfl, hc3, hk3⟩
        have HB := Has3.keep KB.out hk3 hny
        have HA := Has3.keep KA.out hk3 hnx
        have HR2 := Has3.keep K2.out hk3 hne0
        have HR3 := Has3.keep K3.out hk3 hne1
        have HK3 : Hid (Keep c w w3) := HK.out.trans hk3
        have HC3 : Hid (Cur w3 c a len cap) := hc3
        clear KB KA K2 K3 hk3 hc3 HK HC x0 x1 x2 x3 x4 x5 x6 y0 y1 y2 y3 y4 y5 y6 p0 p1 p2 p3 p4 p5 p6 q0 q1 q2 q3 q4 q5 q6
        cases b
        · go_wp2_with fail
          refine (cell_draw HC3.out).mono ?_
          rintro e w4 ⟨kc, nc, tc, rfl, htc, hc4, hk4'⟩
          have JB : Hid (Has3 w4 w2.heap.size (.int .i64 kb) (.int .i64 nb) (.string tb)) := Has3.keep HB hk4' hny
          have JA : Hid (Has3 w4 w1.heap.size (.int .i64 k1) (.int .i64 n1) (.string t1)) := Has3.keep HA hk4' hnx
          have J2 : Hid (Has3 w4 w.heap.size (.int .i64 0) (.int .i64 0) (.string ⟨#[]⟩)) := Has3.keep HR2 hk4' hne0
          have J3 : Hid (Has3 w4 (w.heap.size + 1) (.int .i64 0) (.int .i64 0) (.string ⟨#[]⟩)) := Has3.keep HR3 hk4' hne1
          have hkt : Hid (Keep c w w4) := HK3.out.trans hk4'
          have hct : Hid (Cur w4 c a len cap) := hc4
          clear HB HA HR2 HR3 hk4' hc4 HK3 HC3
          obtain ⟨⟨x0, x1, x2, x3⟩, x4, x5, x6⟩ := JB.out
          have hcy : c < w2.heap.size := by omega
          have hwy : w.heap.size ≤ w2.heap.size := by omega
          go_wp2
          go_roundw
          case rel => exact ⟨k + 1, kc, nc, tc, by omega, by go_num, htc, JB.out.setAll _ _ _, ((JA.out.setFar hd1.symm _).setFar hd1.symm _).setFar hd1.symm _, ((J2.out.setFar hd2.symm _).setFar hd2.symm _).setFar hd2.symm _, ((J3.out.setFar hd3.symm _).setFar hd3.symm _).setFar hd3.symm _, ((hct.out.setAbove hcy _).setAbove hcy _).setAbove hcy _, ((hkt.out.setCell (p := ⟨_, _, none⟩) (Or.inr hwy) _).setCell (p := ⟨_, _, none⟩) (Or.inr hwy) _).setCell (p := ⟨_, _, none⟩) (Or.inr hwy) _⟩
          case measure => simp [intOf]; omega
        · obtain ⟨⟨x0, x1, x2, x3⟩, x4, x5, x6⟩ := HB
          obtain ⟨⟨y0, y1, y2, y3⟩, y4, y5, y6⟩ := HA
          obtain ⟨⟨p0, p1, p2, p3⟩, p4, p5, p6⟩ := HR2
          obtain ⟨⟨q0, q1, q2, q3⟩, q4, q5, q6⟩ := HR3
          go_wp2_with fail
          go_region
          go_wp2
          exact bodyPost_ret (v := .tuple #[.agg #[.int .i64 k1, .int .i64 n1, .string t1], .agg #[.int .i64 kb, .int .i64 nb, .string tb]]) (by simp [results, Try.results47, go_sem, p0, p1, p2, q0, q1, q2]) rfl ⟨k1, n1, t1, kb, nb, tb, rfl, ht1, htb, ((((((HC3.out.setAbove hcw _).setAbove hcw _).setAbove hcw _).setAbove (Nat.lt_succ_of_lt hcw) _).setAbove (Nat.lt_succ_of_lt hcw) _).setAbove (Nat.lt_succ_of_lt hcw) _).drew, ((((((HK3.out.setCell (p := ⟨_, _, none⟩) (Or.inr (Nat.le_refl _)) _).setCell (p := ⟨_, _, none⟩) (Or.inr (Nat.le_refl _)) _).setCell (p := ⟨_, _, none⟩) (Or.inr (Nat.le_refl _)) _).setCell (p := ⟨_, _, none⟩) (Or.inr (Nat.le_succ _)) _).setCell (p := ⟨_, _, none⟩) (Or.inr (Nat.le_succ _)) _).setCell (p := ⟨_, _, none⟩) (Or.inr (Nat.le_succ _)) _).drew⟩
    · obtain ⟨⟨x0, x1, x2, x3⟩, x4, x5, x6⟩ := HB
      obtain ⟨⟨y0, y1, y2, y3⟩, y4, y5, y6⟩ := HA
      obtain ⟨⟨p0, p1, p2, p3⟩, p4, p5, p6⟩ := HR2
      obtain ⟨⟨q0, q1, q2, q3⟩, q4, q5, q6⟩ := HR3
      go_wp2_with fail
      go_region
      go_wp2
      exact bodyPost_ret (v := .tuple #[.agg #[.int .i64 k1, .int .i64 n1, .string t1], .agg #[.int .i64 kb, .int .i64 nb, .string tb]]) (by simp [results, Try.results47, go_sem, p0, p1, p2, q0, q1, q2]) rfl ⟨k1, n1, t1, kb, nb, tb, rfl, ht1, htb, ((((((HC.out.setAbove hcw _).setAbove hcw _).setAbove hcw _).setAbove (Nat.lt_succ_of_lt hcw) _).setAbove (Nat.lt_succ_of_lt hcw) _).setAbove (Nat.lt_succ_of_lt hcw) _).drew, ((((((HK.out.setCell (p := ⟨_, _, none⟩) (Or.inr (Nat.le_refl _)) _).setCell (p := ⟨_, _, none⟩) (Or.inr (Nat.le_refl _)) _).setCell (p := ⟨_, _, none⟩) (Or.inr (Nat.le_refl _)) _).setCell (p := ⟨_, _, none⟩) (Or.inr (Nat.le_succ _)) _).setCell (p := ⟨_, _, none⟩) (Or.inr (Nat.le_succ _)) _).setCell (p := ⟨_, _, none⟩) (Or.inr (Nat.le_succ _)) _).drew⟩

/-- Two cells are drawn of every code that is not too long. -/
theorem plus_draw {w : World} {a : Option Addr} {len cap : Nat} (hlen : len ≤ 4096)
    (row : ∀ j, j < len → ∃ (rb ro : Nat) (v : Int), a = some ⟨rb, ro, none⟩ ∧ rb < w.heap.size ∧ w.cell? ⟨rb, ro + j, none⟩ = some (.int .u8 v) ∧ 0 ≤ v ∧ v ≤ 255) :
    Calls Try.prog 8 #[.slice a len cap] w fun e w' => ∃ (k1 n1 : Int) (t1 : ByteArray) (k2 n2 : Int) (t2 : ByteArray), e = .returned (.tuple #[.agg #[.int .i64 k1, .int .i64 n1, .string t1], .agg #[.int .i64 k2, .int .i64 n2, .string t2]]) ∧ t1.size ≤ maxLen ∧ t2.size ≤ maxLen ∧ Below w.heap.size w w' := by
  have hR : Hid (∀ j, j < len → ∃ (rb ro : Nat) (v : Int), a = some ⟨rb, ro, none⟩ ∧ rb < w.heap.size ∧ w.cell? ⟨rb, ro + j, none⟩ = some (.int .u8 v) ∧ 0 ≤ v ∧ v ≤ 255) := row
  clear row
  have HR2 : Hid (Has3 ((w.alloc (.cells #[.int .i64 0, .int .i64 0, .string ⟨#[]⟩] 25)).alloc (.cells #[.int .i64 0, .int .i64 0, .string ⟨#[]⟩] 25)) w.heap.size (.int .i64 0) (.int .i64 0) (.string ⟨#[]⟩)) := (Has3.new w _ _ _ _).alloc _
  have HR3 : Hid (Has3 ((w.alloc (.cells #[.int .i64 0, .int .i64 0, .string ⟨#[]⟩] 25)).alloc (.cells #[.int .i64 0, .int .i64 0, .string ⟨#[]⟩] 25)) (w.heap.size + 1) (.int .i64 0) (.int .i64 0) (.string ⟨#[]⟩)) := by
    have := Has3.new (w.alloc (.cells #[.int .i64 0, .int .i64 0, .string ⟨#[]⟩] 25)) (.int .i64 0) (.int .i64 0) (.string ⟨#[]⟩) 25
    simp only [World.size_alloc] at this
    exact this
  have hd6 : w.heap.size + 1 ≠ w.heap.size := by omega
  go_enter Try.func8, Try.ntmps8
  go_wp2_with fail
  refine (new_draw hlen ?_).mono ?_
  · intro j hj
    obtain ⟨rb, ro, v, ha, hrb, hcell, hv⟩ := hR.out j hj
    exact ⟨rb, ro, v, ha, by simp; omega, by rw [World.cell?_alloc_lt _ _ _ (by simp; omega), World.cell?_alloc_lt _ _ _ hrb]; exact hcell, hv⟩
  rintro e w1 ⟨c, rfl, hcs, hc1, hb1⟩
  have hcs' : w.heap.size + 1 < c := by simp at hcs; omega
  have hn0 : w.heap.size ≠ c := by omega
  have hn1 : w.heap.size + 1 ≠ c := by omega
  have S2 : Hid (Has3 w1 w.heap.size (.int .i64 0) (.int .i64 0) (.string ⟨#[]⟩)) := Has3.keep HR2.out (Keep.ofBelow (c := c) hb1) hn0
  have S3 : Hid (Has3 w1 (w.heap.size + 1) (.int .i64 0) (.int .i64 0) (.string ⟨#[]⟩)) := Has3.keep HR3.out (Keep.ofBelow (c := c) hb1) hn1
  have hbw : Hid (Below w.heap.size w w1) := chainAA hb1
  clear HR2 HR3 hb1 hcs
  go_wp2_with fail
  refine (two_draw hc1).mono ?_
  rintro e w2 ⟨k1, n1, t1, k2, n2, t2, rfl, ht1, ht2, hc2, hk2⟩
  have hx : Below w.heap.size w w2 := hbw.out.trans (hk2.below (by omega) hbw.out.size)
  obtain ⟨⟨p0, p1, p2, p3⟩, p4, p5, p6⟩ := Has3.keep S2.out hk2 hn0
  obtain ⟨⟨q0, q1, q2, q3⟩, q4, q5, q6⟩ := Has3.keep S3.out hk2 hn1
  clear hk2 hc2 S2 S3 hbw hc1
  go_wp2
  exact bodyPost_ret (v := .tuple #[.agg #[.int .i64 k1, .int .i64 n1, .string t1], .agg #[.int .i64 k2, .int .i64 n2, .string t2]]) (by simp [results, Try.results8, go_sem, p0, p1, p2, q0, q1, q2]) rfl ⟨k1, n1, t1, k2, n2, t2, rfl, ht1, ht2, by go_grown⟩

end Go.Proofs.Ytgeipficjfaocaa
