/-
  A part of the proof: Sivs.
-/
import Derived.Test.YtjjkdbmjloolaaaGreatDoorPart1
import Derived.Test.YtjjkdbmjloolaaaGreatDoorPart14

namespace Go.Proofs.YtjjkdbmjloolaaaGreatDoor
open Go.ChangeShapes Go.WideShapes Go.ChangeAt Go.RowKit
attribute [local go_sem ↓] Go.wp_at_zero Go.wp_at_succ
def SivsAt (w : World) (a : Option Addr) (T : List SV) : Prop :=
 ∀ i (h : i < T.length), ∃ b o na nc sa sc, a = some ⟨b, o, none⟩ ∧ b < w.heap.size ∧ (w.cell? ⟨b, o + i * 7, none⟩ = some (.int .i64 T[i].kind) ∧ w.cell? ⟨b, o + i * 7 + 1, none⟩ = some (.string T[i].name) ∧ w.cell? ⟨b, o + i * 7 + 2, none⟩ = some (.slice na T[i].names.length nc) ∧ w.cell? ⟨b, o + i * 7 + 3, none⟩ = some (.slice sa T[i].sum.length sc) ∧ w.cell? ⟨b, o + i * 7 + 4, none⟩ = some (.bool T[i].down) ∧ w.cell? ⟨b, o + i * 7 + 5, none⟩ = some (.int .i64 T[i].count) ∧ w.cell? ⟨b, o + i * 7 + 6, none⟩ = some (.int .i64 T[i].skip)) ∧ SivAt w na nc sa T[i]
theorem SivsAt.below {w w' : World} {a : Option Addr} {T : List SV} (h : SivsAt w a T) (hb : Below w.heap.size w w') : SivsAt w' a T := by
 intro i hi
 obtain ⟨b, o, na, nc, sa, sc, ha, hlt, ⟨c0, c1, c2, c3, c4, c5, c6⟩, h3⟩ := h i hi
 have key : ∀ p, w'.cell? ⟨b, p, none⟩ = w.cell? ⟨b, p, none⟩ := fun p => hb.cell (p := ⟨b, p, none⟩) hlt
 refine ⟨b, o, na, nc, sa, sc, ha, Nat.lt_of_lt_of_le hlt hb.size, ?_, h3.below hb⟩
 simp only [key]
 exact ⟨c0, c1, c2, c3, c4, c5, c6⟩
def leftVs : List SV → Int → Int
 | [], left => left
 | t :: T, left => if leftV t left < 0 then -1 else leftVs T (leftV t left)
def leftVS (T : List SV) (left : Int) : Int := if left < (T.length : Int) then -1 else leftVs T (left - T.length)
theorem leftVs_fit {T : List SV} {left : Int} (h1 : left ≤ 1048576) (h : 0 ≤ leftVs T left) : ∀ i (hi : i < T.length), ∃ x, x ≤ 1048576 ∧ 0 ≤ leftV T[i] x := by
 induction T generalizing left with
 | nil => intro i hi; simp at hi
 | cons t T ih =>
  unfold leftVs at h
  split at h
  · omega
  rename_i hn
  intro i hi
  cases i with
  | zero => exact ⟨left, h1, by simp only [List.getElem_cons_zero]; omega⟩
  | succ i =>
   have := leftV_le t left (by omega)
   exact ih (left := leftV t left) (by omega) h i (by simp at hi; omega)
theorem leftVs_step (T : List SV) (k : Nat) (h : k < T.length) (x : Int) : leftVs (T.drop k) x = if leftV T[k] x < 0 then -1 else leftVs (T.drop (k + 1)) (leftV T[k] x) := by
 rw [List.drop_eq_getElem_cons h]; rfl
theorem leftVS_fits {T : List SV} {x : Int} (h1 : x ≤ 1048576) (h : 0 ≤ leftVS T x) : T.length ≤ 1048576 ∧ ∀ i (hi : i < T.length), MildV T[i] := by
 unfold leftVS at h
 split at h
 · omega
 refine ⟨by omega, fun i hi => ?_⟩
 obtain ⟨y, hy1, hy2⟩ := leftVs_fit (T := T) (left := x - T.length) (by omega) h i hi
 exact leftV_fit hy1 hy2
set_option maxRecDepth 100000 in
set_option maxHeartbeats 2000000 in
theorem szsivs_laws (a : Option Addr) (cap : Nat) (T : List SV) (n : Nat) (hn : T.length = n) (left : Int) (w : World) (hrow : SivsAt w a T) (hm : n ≤ maxLen) (h0 : 0 ≤ left) (h1 : left ≤ 1048576) :
  Calls Tryz.prog 5 #[.slice a n cap, .int .i64 left] w fun e w' => e = .returned (.int .i64 (leftVS T left)) ∧ Below w.heap.size w w' := by
 have hR := hid hrow
 have hN := hid hn
 clear hrow
 by_cases hlen : left < (n : Int)
 · have hneg : left - (n : Int) < 0 := by omega
  rw [show leftVS T left = -1 from if_pos (by omega)]
  clear hn
  unfold maxLen at hm
  go_enter Tryz.func5, Tryz.ntmps5
  go_wp2
  go_ret
  exact ⟨rfl, Below.refl _ _⟩
 have hneg : 0 ≤ left - (n : Int) := by omega
 obtain ⟨r, hr⟩ : ∃ r, leftVs T (left - n) = r := ⟨_, rfl⟩
 rw [show leftVS T left = r by rw [← hr, ← hn]; exact if_neg (by omega)]
 have HR := hid hr
 clear hr hn
 go_enter Tryz.func5, Tryz.ntmps5
 go_wp2
 go_loopw [1, 5] (fun s i wr => ∃ (k : Nat) (x : Int), k ≤ n ∧ i = .int .i64 k ∧ s = .int .i64 x ∧ 0 ≤ x ∧ x ≤ 1048576 ∧ Hid (leftVs (T.drop k) x = r) ∧ Below w.heap.size w wr)
  (fun _ i _ => n - (intOf i).toNat)
 case atStart => exact ⟨0, left - n, Nat.zero_le _, rfl, rfl, hneg, by omega, HR, Below.refl _ _⟩
 case round =>
  obtain ⟨k, x, hk, rfl, rfl, hpos, hle, HX, hb⟩ := hrel
  by_cases hlt : k < n
  · obtain ⟨b, o, na, nc, sa, sc, rfl, hbw, ⟨c0, c1, c2, c3, c4, c5, c6⟩, hta⟩ := hR.out.below hb k (by rw [hN.out]; exact hlt)
   have hi0 : (0 : Int) ≤ (k : Int) := by omega
   have hi1 : (k : Int) < (n : Int) := by omega
   have HT := hid hta
   have HS : Hid (_ = _) := leftVs_step T k (by rw [hN.out]; exact hlt) x
   clear hta
   generalize (T[k]'(by rw [hN.out]; exact hlt)) = t at c0 c1 c2 c3 c4 c5 c6 HT HS
   obtain ⟨y, hy⟩ : ∃ y, leftV t x = y := ⟨_, rfl⟩
   have hyx : 0 ≤ y → y ≤ x := by intro h; rw [← hy] at h ⊢; exact leftV_le t x h
   have HY := hid hy
   have HZ : Hid (r = if y < 0 then -1 else leftVs (T.drop (k + 1)) y) := by
    have e := HS.out
    rw [hy] at e
    exact show r = _ by rw [← HX.out, e]
   clear hy HS HX
   obtain ⟨nn, hnn⟩ : ∃ m, t.names.length = m := ⟨_, rfl⟩
   obtain ⟨sn, hsn⟩ : ∃ m, t.sum.length = m := ⟨_, rfl⟩
   rw [hnn] at c2
   rw [hsn] at c3
   have HNC := hid hnn
   have HNR := hid hsn
   clear hnn hsn
   by_cases hs : y < 0
   · have e : r = -1 := by rw [HZ.out, if_pos hs]
    subst e
    go_wp2_with fail
    refine (szsiv_laws na nc sa sc t nn sn HNC.out HNR.out _ HT.out x hpos hle).mono ?_
    rw [HY.out]
    rintro e w1 ⟨rfl, hb1⟩
    go_wp2
    go_ret
    exact ⟨rfl, chain hb hb1⟩
   · have e : Hid (leftVs (T.drop (k + 1)) y = r) := by rw [HZ.out, if_neg hs]; exact rfl
    have hp2 : 0 ≤ y := by omega
    have hy2 : y ≤ 1048576 := by have := hyx hp2; omega
    clear hyx
    go_wp2_with fail
    refine (szsiv_laws na nc sa sc t nn sn HNC.out HNR.out _ HT.out x hpos hle).mono ?_
    rw [HY.out]
    rintro e' w1 ⟨rfl, hb1⟩
    go_wp2
    go_roundw
    case rel => exact ⟨k + 1, y, by omega, by go_num, rfl, hp2, hy2, e, chain hb hb1⟩
    case measure => simp [intOf]; omega
  · have hkl : k = n := by omega
   subst hkl
   have e : r = x := by rw [← HX.out, List.drop_of_length_le (by rw [hN.out]; exact Nat.le_refl _)]; rfl
   subst e
   go_wp2
   go_ret
   exact ⟨rfl, hb⟩
set_option maxRecDepth 100000 in
set_option maxHeartbeats 2000000 in
theorem eqsivs_laws (a b : Option Addr) (ca cb : Nat) (T : List SV) (n : Nat) (hn : T.length = n) (w : World) (ha : SivsAt w a T) (hb : SivsAt w b T) (hm : n ≤ maxLen) :
  Calls Tryz.prog 12 #[.slice a n ca, .slice b n cb] w fun e w' => e = .returned (.bool true) ∧ Below w.heap.size w w' := by
 have hA := hid ha
 have hB := hid hb
 have hN := hid hn
 clear ha hb hn
 unfold maxLen at hm
 go_enter Tryz.func12, Tryz.ntmps12
 go_wp2
 go_loopw [5] (fun i wr => ∃ k : Nat, k ≤ n ∧ i = .int .i64 k ∧ Below w.heap.size w wr) (fun i _ => n - (intOf i).toNat)
 case atStart => exact ⟨0, Nat.zero_le _, rfl, Below.refl _ _⟩
 case round =>
  obtain ⟨k, hk, rfl, hx⟩ := hrel
  by_cases hlt : k < n
  · obtain ⟨b1, o1, na1, nc1, sa1, sc1, rfl, hbw, ⟨c0, c1, c2, c3, c4, c5, c6⟩, hta⟩ := hA.out.below hx k (by rw [hN.out]; exact hlt)
   obtain ⟨b2, o2, na2, nc2, sa2, sc2, rfl, hbw2, ⟨d0, d1, d2, d3, d4, d5, d6⟩, htb⟩ := hB.out.below hx k (by rw [hN.out]; exact hlt)
   have hi0 : (0 : Int) ≤ (k : Int) := by omega
   have hi1 : (k : Int) < (n : Int) := by omega
   have HA := hid hta
   have HB := hid htb
   clear hta htb
   generalize (T[k]'(by rw [hN.out]; exact hlt)) = t at c0 c1 c2 c3 c4 c5 c6 d0 d1 d2 d3 d4 d5 d6 HA HB
   obtain ⟨nn, hnn⟩ : ∃ m, t.names.length = m := ⟨_, rfl⟩
   obtain ⟨sn, hsn⟩ : ∃ m, t.sum.length = m := ⟨_, rfl⟩
   rw [hnn] at c2 d2
   rw [hsn] at c3 d3
   have HNC := hid hnn
   have HNR := hid hsn
   clear hnn hsn
   go_wp2_with fail
   go_region_held3 (fun w' => w'.cell? ⟨b1, o1 + k * 7, none⟩ = some (.int .i64 t.kind) ∧ w'.cell? ⟨b1, o1 + k * 7 + 1, none⟩ = some (.string t.name) ∧ w'.cell? ⟨b1, o1 + k * 7 + 2, none⟩ = some (.slice na1 nn nc1) ∧ w'.cell? ⟨b1, o1 + k * 7 + 3, none⟩ = some (.slice sa1 sn sc1) ∧ w'.cell? ⟨b1, o1 + k * 7 + 4, none⟩ = some (.bool t.down) ∧ w'.cell? ⟨b1, o1 + k * 7 + 5, none⟩ = some (.int .i64 t.count) ∧ w'.cell? ⟨b1, o1 + k * 7 + 6, none⟩ = some (.int .i64 t.skip) ∧ w'.cell? ⟨b2, o2 + k * 7, none⟩ = some (.int .i64 t.kind) ∧ w'.cell? ⟨b2, o2 + k * 7 + 1, none⟩ = some (.string t.name) ∧ w'.cell? ⟨b2, o2 + k * 7 + 2, none⟩ = some (.slice na2 nn nc2) ∧ w'.cell? ⟨b2, o2 + k * 7 + 3, none⟩ = some (.slice sa2 sn sc2) ∧ w'.cell? ⟨b2, o2 + k * 7 + 4, none⟩ = some (.bool t.down) ∧ w'.cell? ⟨b2, o2 + k * 7 + 5, none⟩ = some (.int .i64 t.count) ∧ w'.cell? ⟨b2, o2 + k * 7 + 6, none⟩ = some (.int .i64 t.skip))
    (((try dsimp only); (repeat' apply And.intro) <;> first | (go_keep; done) | (simp (disch := first | omega | (simp <;> omega) | fail) [*]; done) | fail))
    ((go_at_call 26; refine (eqsiv_laws na1 nc1 sa1 sc1 na2 nc2 sa2 sc2 t nn sn HNC.out HNR.out _ (HA.out.below (Below.refl _ _).drew) (HB.out.below (Below.refl _ _).drew)).mono ?_; rintro e w1 ⟨rfl, hb1⟩; obtain ⟨hc, hf⟩ := bcell hb1))
   all_goals
    go_wp2
    go_roundw
    case rel => exact ⟨k + 1, by omega, by go_num, chain hx (undrew hb1)⟩
    case measure => simp [intOf]; omega
  · go_wp2
   go_ret
   exact ⟨rfl, hx⟩
structure TakV (w : World) (g : Nat) (T : List SV) (m : Nat) : Prop where
 lt : g < w.heap.size
 there : ∀ q, q < T.length * 7 → ∃ u, w.cell? ⟨g, q, none⟩ = some u
 free : ∀ q, w.frozen? ⟨g, q, none⟩ = false
 sivs : ∀ i (_ : i < T.length), i < m → ∃ g1 g2, (w.cell? ⟨g, i * 7, none⟩ = some (.int .i64 T[i].kind) ∧ w.cell? ⟨g, i * 7 + 1, none⟩ = some (.string T[i].name) ∧ w.cell? ⟨g, i * 7 + 2, none⟩ = some (.slice (some ⟨g1, 0, none⟩) T[i].names.length T[i].names.length) ∧ w.cell? ⟨g, i * 7 + 3, none⟩ = some (.slice (some ⟨g2, 0, none⟩) T[i].sum.length T[i].sum.length) ∧ w.cell? ⟨g, i * 7 + 4, none⟩ = some (.bool T[i].down) ∧ w.cell? ⟨g, i * 7 + 5, none⟩ = some (.int .i64 T[i].count) ∧ w.cell? ⟨g, i * 7 + 6, none⟩ = some (.int .i64 T[i].skip)) ∧ NewSiv w (g + 1) g1 g2 T[i]
theorem TakV.below {w w' : World} {g : Nat} {T : List SV} {m : Nat} (h : TakV w g T m) (hb : Below w.heap.size w w') : TakV w' g T m where
 lt := Nat.lt_of_lt_of_le h.lt hb.size
 there q hq := by obtain ⟨u, hu⟩ := h.there q hq; exact ⟨u, by rw [hb.cell (p := ⟨g, q, none⟩) h.lt]; exact hu⟩
 free q := by rw [hb.frozen (p := ⟨g, q, none⟩) h.lt]; exact h.free q
 sivs i hi hm := by
  obtain ⟨g1, g2, c, N⟩ := h.sivs i hi hm
  have key : ∀ p, w'.cell? ⟨g, p, none⟩ = w.cell? ⟨g, p, none⟩ := fun p => hb.cell (p := ⟨g, p, none⟩) h.lt
  refine ⟨g1, g2, ?_, N.below hb⟩
  simp only [key]
  exact c
theorem TakV.step {w : World} {g : Nat} {T : List SV} {m g1 g2 : Nat} (h : TakV w g T m) (hm : m < T.length) (t : SV) (ht : T[m] = t) (N : NewSiv w (g + 1) g1 g2 t) :
  TakV (((((((w.setCell ⟨g, m * 7, none⟩ (.int .i64 t.kind)).setCell ⟨g, m * 7 + 1, none⟩ (.string t.name)).setCell ⟨g, m * 7 + 2, none⟩ (.slice (some ⟨g1, 0, none⟩) t.names.length t.names.length)).setCell ⟨g, m * 7 + 3, none⟩ (.slice (some ⟨g2, 0, none⟩) t.sum.length t.sum.length)).setCell ⟨g, m * 7 + 4, none⟩ (.bool t.down)).setCell ⟨g, m * 7 + 5, none⟩ (.int .i64 t.count)).setCell ⟨g, m * 7 + 6, none⟩ (.int .i64 t.skip)) g T (m + 1) := by
 subst ht
 obtain ⟨u0, e0⟩ := h.there (m * 7) (by omega)
 obtain ⟨u1, e1⟩ := h.there (m * 7 + 1) (by omega)
 obtain ⟨u2, e2⟩ := h.there (m * 7 + 2) (by omega)
 obtain ⟨u3, e3⟩ := h.there (m * 7 + 3) (by omega)
 obtain ⟨u4, e4⟩ := h.there (m * 7 + 4) (by omega)
 obtain ⟨u5, e5⟩ := h.there (m * 7 + 5) (by omega)
 obtain ⟨u6, e6⟩ := h.there (m * 7 + 6) (by omega)
 obtain ⟨W, hW⟩ : ∃ W, W = (((((((w.setCell ⟨g, m * 7, none⟩ (.int .i64 T[m].kind)).setCell ⟨g, m * 7 + 1, none⟩ (.string T[m].name)).setCell ⟨g, m * 7 + 2, none⟩ (.slice (some ⟨g1, 0, none⟩) T[m].names.length T[m].names.length)).setCell ⟨g, m * 7 + 3, none⟩ (.slice (some ⟨g2, 0, none⟩) T[m].sum.length T[m].sum.length)).setCell ⟨g, m * 7 + 4, none⟩ (.bool T[m].down)).setCell ⟨g, m * 7 + 5, none⟩ (.int .i64 T[m].count)).setCell ⟨g, m * 7 + 6, none⟩ (.int .i64 T[m].skip)) := ⟨_, rfl⟩
 have off : ∀ p, p ≠ m * 7 → p ≠ m * 7 + 1 → p ≠ m * 7 + 2 → p ≠ m * 7 + 3 → p ≠ m * 7 + 4 → p ≠ m * 7 + 5 → p ≠ m * 7 + 6 → W.cell? ⟨g, p, none⟩ = w.cell? ⟨g, p, none⟩ := by
  intro p n0 n1 n2 n3 n4 n5 n6
  rw [hW, cell_off _ _ _ _ _ n6, cell_off _ _ _ _ _ n5, cell_off _ _ _ _ _ n4, cell_off _ _ _ _ _ n3, cell_off _ _ _ _ _ n2, cell_off _ _ _ _ _ n1, cell_off _ _ _ _ _ n0]
 have a0 : W.cell? ⟨g, m * 7, none⟩ = some (.int .i64 T[m].kind) := by
  rw [hW, cell_off _ _ _ _ _ (by omega), cell_off _ _ _ _ _ (by omega), cell_off _ _ _ _ _ (by omega), cell_off _ _ _ _ _ (by omega), cell_off _ _ _ _ _ (by omega), cell_off _ _ _ _ _ (by omega), cell_here _ _ _ _ (by rw [e0]; rfl)]
 have a1 : W.cell? ⟨g, m * 7 + 1, none⟩ = some (.string T[m].name) := by
  rw [hW, cell_off _ _ _ _ _ (by omega), cell_off _ _ _ _ _ (by omega), cell_off _ _ _ _ _ (by omega), cell_off _ _ _ _ _ (by omega), cell_off _ _ _ _ _ (by omega), cell_here _ _ _ _ (by rw [cell_off _ _ _ _ _ (by omega), e1]; rfl)]
 have a2 : W.cell? ⟨g, m * 7 + 2, none⟩ = some (.slice (some ⟨g1, 0, none⟩) T[m].names.length T[m].names.length) := by
  rw [hW, cell_off _ _ _ _ _ (by omega), cell_off _ _ _ _ _ (by omega), cell_off _ _ _ _ _ (by omega), cell_off _ _ _ _ _ (by omega), cell_here _ _ _ _ (by rw [cell_off _ _ _ _ _ (by omega), cell_off _ _ _ _ _ (by omega), e2]; rfl)]
 have a3 : W.cell? ⟨g, m * 7 + 3, none⟩ = some (.slice (some ⟨g2, 0, none⟩) T[m].sum.length T[m].sum.length) := by
  rw [hW, cell_off _ _ _ _ _ (by omega), cell_off _ _ _ _ _ (by omega), cell_off _ _ _ _ _ (by omega), cell_here _ _ _ _ (by rw [cell_off _ _ _ _ _ (by omega), cell_off _ _ _ _ _ (by omega), cell_off _ _ _ _ _ (by omega), e3]; rfl)]
 have a4 : W.cell? ⟨g, m * 7 + 4, none⟩ = some (.bool T[m].down) := by
  rw [hW, cell_off _ _ _ _ _ (by omega), cell_off _ _ _ _ _ (by omega), cell_here _ _ _ _ (by rw [cell_off _ _ _ _ _ (by omega), cell_off _ _ _ _ _ (by omega), cell_off _ _ _ _ _ (by omega), cell_off _ _ _ _ _ (by omega), e4]; rfl)]
 have a5 : W.cell? ⟨g, m * 7 + 5, none⟩ = some (.int .i64 T[m].count) := by
  rw [hW, cell_off _ _ _ _ _ (by omega), cell_here _ _ _ _ (by rw [cell_off _ _ _ _ _ (by omega), cell_off _ _ _ _ _ (by omega), cell_off _ _ _ _ _ (by omega), cell_off _ _ _ _ _ (by omega), cell_off _ _ _ _ _ (by omega), e5]; rfl)]
 have a6 : W.cell? ⟨g, m * 7 + 6, none⟩ = some (.int .i64 T[m].skip) := by
  rw [hW, cell_here _ _ _ _ (by rw [cell_off _ _ _ _ _ (by omega), cell_off _ _ _ _ _ (by omega), cell_off _ _ _ _ _ (by omega), cell_off _ _ _ _ _ (by omega), cell_off _ _ _ _ _ (by omega), cell_off _ _ _ _ _ (by omega), e6]; rfl)]
 have fr : ∀ p, W.frozen? ⟨g, p, none⟩ = false := by
  intro p; rw [hW, World.frozen?_setCell, World.frozen?_setCell, World.frozen?_setCell, World.frozen?_setCell, World.frozen?_setCell, World.frozen?_setCell, World.frozen?_setCell]; exact h.free p
 have K : KeepS (fun b => b = g) w W := by
  rw [hW]
  exact ((((((((KeepS.refl (fun b => b = g) w).setCell (p := ⟨g, m * 7, none⟩) rfl _).setCell (p := ⟨g, m * 7 + 1, none⟩) rfl _).setCell (p := ⟨g, m * 7 + 2, none⟩) rfl _).setCell (p := ⟨g, m * 7 + 3, none⟩) rfl _).setCell (p := ⟨g, m * 7 + 4, none⟩) rfl _).setCell (p := ⟨g, m * 7 + 5, none⟩) rfl _).setCell (p := ⟨g, m * 7 + 6, none⟩) rfl _)
 rw [← hW]
 clear hW
 refine ⟨Nat.lt_of_lt_of_le h.lt K.size, ?_, fr, ?_⟩
 · intro q hq
  by_cases h0 : q = m * 7
  · subst h0; exact ⟨_, a0⟩
  by_cases h1 : q = m * 7 + 1
  · subst h1; exact ⟨_, a1⟩
  by_cases h2 : q = m * 7 + 2
  · subst h2; exact ⟨_, a2⟩
  by_cases h3 : q = m * 7 + 3
  · subst h3; exact ⟨_, a3⟩
  by_cases h4 : q = m * 7 + 4
  · subst h4; exact ⟨_, a4⟩
  by_cases h5 : q = m * 7 + 5
  · subst h5; exact ⟨_, a5⟩
  by_cases h6 : q = m * 7 + 6
  · subst h6; exact ⟨_, a6⟩
  rw [off q h0 h1 h2 h3 h4 h5 h6]; exact h.there q hq
 · intro i hi hlt
  by_cases e : i = m
  · subst e
   exact ⟨g1, g2, ⟨a0, a1, a2, a3, a4, a5, a6⟩, N.keepS K (fun b hb => by have := N.lo; omega)⟩
  · obtain ⟨p1, p2, ⟨c0, c1, c2, c3, c4, c5, c6⟩, M⟩ := h.sivs i hi (by omega)
   exact ⟨p1, p2, ⟨by rw [off _ (by omega) (by omega) (by omega) (by omega) (by omega) (by omega) (by omega)]; exact c0, by rw [off _ (by omega) (by omega) (by omega) (by omega) (by omega) (by omega) (by omega)]; exact c1, by rw [off _ (by omega) (by omega) (by omega) (by omega) (by omega) (by omega) (by omega)]; exact c2, by rw [off _ (by omega) (by omega) (by omega) (by omega) (by omega) (by omega) (by omega)]; exact c3, by rw [off _ (by omega) (by omega) (by omega) (by omega) (by omega) (by omega) (by omega)]; exact c4, by rw [off _ (by omega) (by omega) (by omega) (by omega) (by omega) (by omega) (by omega)]; exact c5, by rw [off _ (by omega) (by omega) (by omega) (by omega) (by omega) (by omega) (by omega)]; exact c6⟩, M.keepS K (fun b hb => by have := M.lo; omega)⟩
theorem TakV.lies {w : World} {g : Nat} {T : List SV} (h : TakV w g T T.length) (hf : ∀ i (hi : i < T.length), FitS T[i].names ∧ T[i].name.size ≤ maxLen ∧ T[i].names.length ≤ maxLen ∧ FitItm T[i].sum ∧ T[i].sum.length ≤ maxLen) : SivsAt w (some ⟨g, 0, none⟩) T := by
 intro i hi
 obtain ⟨g1, g2, c, N⟩ := h.sivs i hi hi
 obtain ⟨f1, f2, f3, f4, f5⟩ := hf i hi
 refine ⟨g, 0, some ⟨g1, 0, none⟩, T[i].names.length, some ⟨g2, 0, none⟩, T[i].sum.length, rfl, h.lt, ?_, N.lies f1 f2 f3 f4 f5⟩
 rw [Nat.zero_add]
 exact c
theorem infoV : (Tryz.prog.info? 55).map (fun i => (i.zero, i.size, i.bytes)) = some (some (.agg #[.int .i64 0, .string ⟨#[]⟩, .slice none 0 0, .slice none 0 0, .bool false, .int .i64 0, .int .i64 0]), 7, 96) := by kernel_rfl
end Go.Proofs.YtjjkdbmjloolaaaGreatDoor
