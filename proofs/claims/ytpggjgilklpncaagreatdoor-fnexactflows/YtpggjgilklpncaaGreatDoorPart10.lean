/-
  A part of the proof: Sivs, AskMath, SvS3.
-/
import Derived.Test.YtpggjgilklpncaaGreatDoorPart9
import Derived.Test.YtpggjgilklpncaaGreatDoorPart4
import Derived.Test.YtpggjgilklpncaaGreatDoorPart8

/-
  Lists of sieves: how a slice of sieves lies in memory, and the contracts of the law's helpers that measure one, hold two that are one against each other, and take one over.
-/
namespace Go.Proofs.YtpggjgilklpncaaGreatDoor
open Go.ChangeShapes Go.WideShapes Go.ChangeAt Go.RowKit
attribute [local go_sem ↓] Go.wp_at_zero Go.wp_at_succ

/-- The sieves of a slice lie where it says. -/
def SivsAt (w : World) (a : Option Addr) (T : List SV) : Prop :=
  ∀ i (h : i < T.length), ∃ b o na nc sa sc, a = some ⟨b, o, none⟩ ∧ b < w.heap.size ∧ (w.cell? ⟨b, o + i * 7, none⟩ = some (.int .i64 T[i].kind) ∧ w.cell? ⟨b, o + i * 7 + 1, none⟩ = some (.string T[i].name) ∧ w.cell? ⟨b, o + i * 7 + 2, none⟩ = some (.slice na T[i].names.length nc) ∧ w.cell? ⟨b, o + i * 7 + 3, none⟩ = some (.slice sa T[i].sum.length sc) ∧ w.cell? ⟨b, o + i * 7 + 4, none⟩ = some (.bool T[i].down) ∧ w.cell? ⟨b, o + i * 7 + 5, none⟩ = some (.int .i64 T[i].count) ∧ w.cell? ⟨b, o + i * 7 + 6, none⟩ = some (.int .i64 T[i].skip)) ∧ SivAt w na nc sa T[i]
theorem SivsAt.below {w w' : World} {a : Option Addr} {T : List SV} (h : SivsAt w a T) (hb : Below w.heap.size w w') : SivsAt w' a T := by
  intro i hi
  obtain ⟨b, o, na, nc, sa, sc, ha, hlt, ⟨c0, c1, c2, c3, c4, c5, c6⟩, h3⟩ := h i hi
  have key : ∀ p, w'.cell? ⟨b, p, none⟩ = w.cell? ⟨b, p, none⟩ := fun p => hb.cell (p := ⟨b, p, none⟩) hlt
  refine ⟨b, o, na, nc, sa, sc, ha, Nat.lt_of_lt_of_le hlt hb.size, ?_, h3.below hb⟩
  simp only [key]
  exact ⟨c0, c1, c2, c3, c4, c5, c6⟩

def leftVs : List SV → Int → Int
  | [], left => left
  | t :: T, left => if leftV t left < 0 then -1 else leftVs T (leftV t left)
/-- What is left of a measure behind a list of sieves. -/
def leftVS (T : List SV) (left : Int) : Int := if left < (T.length : Int) then -1 else leftVs T (left - T.length)
theorem leftVs_fit {T : List SV} {left : Int} (h1 : left ≤ 1048576) (h : 0 ≤ leftVs T left) : ∀ i (hi : i < T.length), ∃ x, x ≤ 1048576 ∧ 0 ≤ leftV T[i] x := by
  induction T generalizing left with
  | nil => intro i hi; simp at hi
  | cons t T ih =>
    unfold leftVs at h
    split at h
    · omega
    rename_i hn
    intro i hi
    cases i with
    | zero => exact ⟨left, h1, by simp only [List.getElem_cons_zero]; omega⟩
    | succ i =>
      have := leftV_le t left (by omega)
      exact ih (left := leftV t left) (by omega) h i (by simp at hi; omega)
theorem leftVs_step (T : List SV) (k : Nat) (h : k < T.length) (x : Int) : leftVs (T.drop k) x = if leftV T[k] x < 0 then -1 else leftVs (T.drop (k + 1)) (leftV T[k] x) := by
  rw [List.drop_eq_getElem_cons h]; rfl
theorem leftVS_fits {T : List SV} {x : Int} (h1 : x ≤ 1048576) (h : 0 ≤ leftVS T x) : T.length ≤ 1048576 ∧ ∀ i (hi : i < T.length), MildV T[i] := by
  unfold leftVS at h
  split at h
  · omega
  refine ⟨by omega, fun i hi => ?_⟩
  obtain ⟨y, hy1, hy2⟩ := leftVs_fit (T := T) (left := x - T.length) (by omega) h i hi
  exact leftV_fit hy1 hy2

set_option maxRecDepth 100000 in
set_option maxHeartbeats 2000000 in
theorem szsivs_laws (a : Option Addr) (cap : Nat) (T : List SV) (n : Nat) (hn : T.length = n) (left : Int) (w : World) (hrow : SivsAt w a T) (hm : n ≤ maxLen) (h0 : 0 ≤ left) (h1 : left ≤ 1048576) :
    Calls Tryz.prog 4 #[.slice a n cap, .int .i64 left] w fun e w' => e = .returned (.int .i64 (leftVS T left)) ∧ Below w.heap.size w w' := by
  have hR : Hid (SivsAt w a T) := hrow
  have hN : Hid (T.length = n) := hn
  clear hrow
  by_cases hlen : left < (n : Int)
  · have hneg : left - (n : Int) < 0 := by omega
    rw [show leftVS T left = -1 from if_pos (by omega)]
    clear hn
    unfold maxLen at hm
    go_enter Tryz.func4, Tryz.ntmps4
    go_wp2
    go_ret
    exact ⟨rfl, Below.refl _ _⟩
  have hneg : 0 ≤ left - (n : Int) := by omega
  obtain ⟨r, hr⟩ : ∃ r, leftVs T (left - n) = r := ⟨_, rfl⟩
  rw [show leftVS T left = r by rw [← hr, ← hn]; exact if_neg (by omega)]
  have HR : Hid (leftVs T (left - n) = r) := hr
  clear hr hn
  go_enter Tryz.func4, Tryz.ntmps4
  go_wp2
  go_loopw [1, 5] (fun s i wr => ∃ (k : Nat) (x : Int), k ≤ n ∧ i = .int .i64 k ∧ s = .int .i64 x ∧ 0 ≤ x ∧ x ≤ 1048576 ∧ Hid (leftVs (T.drop k) x = r) ∧ Below w.heap.size w wr)
    (fun _ i _ => n - (intOf i).toNat)
  case atStart => exact ⟨0, left - n, Nat.zero_le _, rfl, rfl, hneg, by omega, HR, Below.refl _ _⟩
  case round =>
    obtain ⟨k, x, hk, rfl, rfl, hpos, hle, HX, hb⟩ := hrel
    by_cases hlt : k < n
    · obtain ⟨b, o, na, nc, sa, sc, rfl, hbw, ⟨c0, c1, c2, c3, c4, c5, c6⟩, hta⟩ := hR.out.below hb k (by rw [hN.out]; exact hlt)
      have hi0 : (0 : Int) ≤ (k : Int) := by omega
      have hi1 : (k : Int) < (n : Int) := by omega
      have HT : Hid (SivAt wr na nc sa (T[k]'(by rw [hN.out]; exact hlt))) := hta
      have HS : Hid (_ = _) := leftVs_step T k (by rw [hN.out]; exact hlt) x
      clear hta
      generalize (T[k]'(by rw [hN.out]; exact hlt)) = t at c0 c1 c2 c3 c4 c5 c6 HT HS
      obtain ⟨y, hy⟩ : ∃ y, leftV t x = y := ⟨_, rfl⟩
      have hyx : 0 ≤ y → y ≤ x := by intro h; rw [← hy] at h ⊢; exact leftV_le t x h
      have HY : Hid (leftV t x = y) := hy
      have HZ : Hid (r = if y < 0 then -1 else leftVs (T.drop (k + 1)) y) := by
        have e := HS.out
        rw [hy] at e
        exact show r = _ by rw [← HX.out, e]
      clear hy HS HX
      obtain ⟨nn, hnn⟩ : ∃ m, t.names.length = m := ⟨_, rfl⟩
      obtain ⟨sn, hsn⟩ : ∃ m, t.sum.length = m := ⟨_, rfl⟩
      rw [hnn] at c2
      rw [hsn] at c3
      have HNC : Hid (t.names.length = nn) := hnn
      have HNR : Hid (t.sum.length = sn) := hsn
      clear hnn hsn
      by_cases hs : y < 0
      · have e : r = -1 := by rw [HZ.out, if_pos hs]
        subst e
        go_wp2_with fail
        refine (szsiv_laws na nc sa sc t nn sn HNC.out HNR.out _ HT.out x hpos hle).mono ?_
        rw [HY.out]
        rintro e w1 ⟨rfl, hb1⟩
        go_wp2
        go_ret
        exact ⟨rfl, chain hb hb1⟩
      · have e : Hid (leftVs (T.drop (k + 1)) y = r) := by rw [HZ.out, if_neg hs]; exact rfl
        have hp2 : 0 ≤ y := by omega
        have hy2 : y ≤ 1048576 := by have := hyx hp2; omega
        clear hyx
        go_wp2_with fail
        refine (szsiv_laws na nc sa sc t nn sn HNC.out HNR.out _ HT.out x hpos hle).mono ?_
        rw [HY.out]
        rintro e' w1 ⟨rfl, hb1⟩
        go_wp2
        go_roundw
        case rel => exact ⟨k + 1, y, by omega, by go_num, rfl, hp2, hy2, e, chain hb hb1⟩
        case measure => simp [intOf]; omega
    · have hkl : k = n := by omega
      subst hkl
      have e : r = x := by rw [← HX.out, List.drop_of_length_le (by rw [hN.out]; exact Nat.le_refl _)]; rfl
      subst e
      go_wp2
      go_ret
      exact ⟨rfl, hb⟩
set_option maxRecDepth 100000 in
set_option maxHeartbeats 2000000 in
theorem eqsivs_laws (a b : Option Addr) (ca cb : Nat) (T : List SV) (n : Nat) (hn : T.length = n) (w : World) (ha : SivsAt w a T) (hb : SivsAt w b T) (hm : n ≤ maxLen) :
    Calls Tryz.prog 8 #[.slice a n ca, .slice b n cb] w fun e w' => e = .returned (.bool true) ∧ Below w.heap.size w w' := by
  have hA : Hid (SivsAt w a T) := ha
  have hB : Hid (SivsAt w b T) := hb
  have hN : Hid (T.length = n) := hn
  clear ha hb hn
  unfold maxLen at hm
  go_enter Tryz.func8, Tryz.ntmps8
  go_wp2
  go_loopw [5] (fun i wr => ∃ k : Nat, k ≤ n ∧ i = .int .i64 k ∧ Below w.heap.size w wr) (fun i _ => n - (intOf i).toNat)
  case atStart => exact ⟨0, Nat.zero_le _, rfl, Below.refl _ _⟩
  case round =>
    obtain ⟨k, hk, rfl, hx⟩ := hrel
    by_cases hlt : k < n
    · obtain ⟨b1, o1, na1, nc1, sa1, sc1, rfl, hbw, ⟨c0, c1, c2, c3, c4, c5, c6⟩, hta⟩ := hA.out.below hx k (by rw [hN.out]; exact hlt)
      obtain ⟨b2, o2, na2, nc2, sa2, sc2, rfl, hbw2, ⟨d0, d1, d2, d3, d4, d5, d6⟩, htb⟩ := hB.out.below hx k (by rw [hN.out]; exact hlt)
      have hi0 : (0 : Int) ≤ (k : Int) := by omega
      have hi1 : (k : Int) < (n : Int) := by omega
      have HA : Hid (SivAt wr na1 nc1 sa1 (T[k]'(by rw [hN.out]; exact hlt))) := hta
      have HB : Hid (SivAt wr na2 nc2 sa2 (T[k]'(by rw [hN.out]; exact hlt))) := htb
      clear hta htb
      generalize (T[k]'(by rw [hN.out]; exact hlt)) = t at c0 c1 c2 c3 c4 c5 c6 d0 d1 d2 d3 d4 d5 d6 HA HB
      obtain ⟨nn, hnn⟩ : ∃ m, t.names.length = m := ⟨_, rfl⟩
      obtain ⟨sn, hsn⟩ : ∃ m, t.sum.length = m := ⟨_, rfl⟩
      rw [hnn] at c2 d2
      rw [hsn] at c3 d3
      have HNC : Hid (t.names.length = nn) := hnn
      have HNR : Hid (t.sum.length = sn) := hsn
      clear hnn hsn
      go_wp2_with fail
      go_region_held3 (fun w' => w'.cell? ⟨b1, o1 + k * 7, none⟩ = some (.int .i64 t.kind) ∧ w'.cell? ⟨b1, o1 + k * 7 + 1, none⟩ = some (.string t.name) ∧ w'.cell? ⟨b1, o1 + k * 7 + 2, none⟩ = some (.slice na1 nn nc1) ∧ w'.cell? ⟨b1, o1 + k * 7 + 3, none⟩ = some (.slice sa1 sn sc1) ∧ w'.cell? ⟨b1, o1 + k * 7 + 4, none⟩ = some (.bool t.down) ∧ w'.cell? ⟨b1, o1 + k * 7 + 5, none⟩ = some (.int .i64 t.count) ∧ w'.cell? ⟨b1, o1 + k * 7 + 6, none⟩ = some (.int .i64 t.skip) ∧ w'.cell? ⟨b2, o2 + k * 7, none⟩ = some (.int .i64 t.kind) ∧ w'.cell? ⟨b2, o2 + k * 7 + 1, none⟩ = some (.string t.name) ∧ w'.cell? ⟨b2, o2 + k * 7 + 2, none⟩ = some (.slice na2 nn nc2) ∧ w'.cell? ⟨b2, o2 + k * 7 + 3, none⟩ = some (.slice sa2 sn sc2) ∧ w'.cell? ⟨b2, o2 + k * 7 + 4, none⟩ = some (.bool t.down) ∧ w'.cell? ⟨b2, o2 + k * 7 + 5, none⟩ = some (.int .i64 t.count) ∧ w'.cell? ⟨b2, o2 + k * 7 + 6, none⟩ = some (.int .i64 t.skip))
        (((try dsimp only); (repeat' apply And.intro) <;> first | (go_keep; done) | (simp (disch := first | omega | (simp <;> omega) | fail) [*]; done) | fail))
        ((go_at_call 16; refine (eqsiv_laws na1 nc1 sa1 sc1 na2 nc2 sa2 sc2 t nn sn HNC.out HNR.out _ (HA.out.below (Below.refl _ _).drew) (HB.out.below (Below.refl _ _).drew)).mono ?_; rintro e w1 ⟨rfl, hb1⟩; obtain ⟨hc, hf⟩ := bcell hb1))
      all_goals
        go_wp2
        go_roundw
        case rel => exact ⟨k + 1, by omega, by go_num, chain hx (undrew hb1)⟩
        case measure => simp [intOf]; omega
    · go_wp2
      go_ret
      exact ⟨rfl, hx⟩
/-- The first m sieves are taken over into block g, their lists behind it. -/
structure TakV (w : World) (g : Nat) (T : List SV) (m : Nat) : Prop where
  lt : g < w.heap.size
  there : ∀ q, q < T.length * 7 → ∃ u, w.cell? ⟨g, q, none⟩ = some u
  free : ∀ q, w.frozen? ⟨g, q, none⟩ = false
  sivs : ∀ i (_ : i < T.length), i < m → ∃ g1 g2, (w.cell? ⟨g, i * 7, none⟩ = some (.int .i64 T[i].kind) ∧ w.cell? ⟨g, i * 7 + 1, none⟩ = some (.string T[i].name) ∧ w.cell? ⟨g, i * 7 + 2, none⟩ = some (.slice (some ⟨g1, 0, none⟩) T[i].names.length T[i].names.length) ∧ w.cell? ⟨g, i * 7 + 3, none⟩ = some (.slice (some ⟨g2, 0, none⟩) T[i].sum.length T[i].sum.length) ∧ w.cell? ⟨g, i * 7 + 4, none⟩ = some (.bool T[i].down) ∧ w.cell? ⟨g, i * 7 + 5, none⟩ = some (.int .i64 T[i].count) ∧ w.cell? ⟨g, i * 7 + 6, none⟩ = some (.int .i64 T[i].skip)) ∧ NewSiv w (g + 1) g1 g2 T[i]
theorem TakV.below {w w' : World} {g : Nat} {T : List SV} {m : Nat} (h : TakV w g T m) (hb : Below w.heap.size w w') : TakV w' g T m where
  lt := Nat.lt_of_lt_of_le h.lt hb.size
  there q hq := by obtain ⟨u, hu⟩ := h.there q hq; exact ⟨u, by rw [hb.cell (p := ⟨g, q, none⟩) h.lt]; exact hu⟩
  free q := by rw [hb.frozen (p := ⟨g, q, none⟩) h.lt]; exact h.free q
  sivs i hi hm := by
    obtain ⟨g1, g2, c, N⟩ := h.sivs i hi hm
    have key : ∀ p, w'.cell? ⟨g, p, none⟩ = w.cell? ⟨g, p, none⟩ := fun p => hb.cell (p := ⟨g, p, none⟩) h.lt
    refine ⟨g1, g2, ?_, N.below hb⟩
    simp only [key]
    exact c
/-- One sieve more is taken over: its seven cells are written. -/
theorem TakV.step {w : World} {g : Nat} {T : List SV} {m g1 g2 : Nat} (h : TakV w g T m) (hm : m < T.length) (t : SV) (ht : T[m] = t) (N : NewSiv w (g + 1) g1 g2 t) :
    TakV (((((((w.setCell ⟨g, m * 7, none⟩ (.int .i64 t.kind)).setCell ⟨g, m * 7 + 1, none⟩ (.string t.name)).setCell ⟨g, m * 7 + 2, none⟩ (.slice (some ⟨g1, 0, none⟩) t.names.length t.names.length)).setCell ⟨g, m * 7 + 3, none⟩ (.slice (some ⟨g2, 0, none⟩) t.sum.length t.sum.length)).setCell ⟨g, m * 7 + 4, none⟩ (.bool t.down)).setCell ⟨g, m * 7 + 5, none⟩ (.int .i64 t.count)).setCell ⟨g, m * 7 + 6, none⟩ (.int .i64 t.skip)) g T (m + 1) := by
  subst ht
  obtain ⟨u0, e0⟩ := h.there (m * 7) (by omega)
  obtain ⟨u1, e1⟩ := h.there (m * 7 + 1) (by omega)
  obtain ⟨u2, e2⟩ := h.there (m * 7 + 2) (by omega)
  obtain ⟨u3, e3⟩ := h.there (m * 7 + 3) (by omega)
  obtain ⟨u4, e4⟩ := h.there (m * 7 + 4) (by omega)
  obtain ⟨u5, e5⟩ := h.there (m * 7 + 5) (by omega)
  obtain ⟨u6, e6⟩ := h.there (m * 7 + 6) (by omega)
  obtain ⟨W, hW⟩ : ∃ W, W = (((((((w.setCell ⟨g, m * 7, none⟩ (.int .i64 T[m].kind)).setCell ⟨g, m * 7 + 1, none⟩ (.string T[m].name)).setCell ⟨g, m * 7 + 2, none⟩ (.slice (some ⟨g1, 0, none⟩) T[m].names.length T[m].names.length)).setCell ⟨g, m * 7 + 3, none⟩ (.slice (some ⟨g2, 0, none⟩) T[m].sum.length T[m].sum.length)).setCell ⟨g, m * 7 + 4, none⟩ (.bool T[m].down)).setCell ⟨g, m * 7 + 5, none⟩ (.int .i64 T[m].count)).setCell ⟨g, m * 7 + 6, none⟩ (.int .i64 T[m].skip)) := ⟨_, rfl⟩
  have off : ∀ p, p ≠ m * 7 → p ≠ m * 7 + 1 → p ≠ m * 7 + 2 → p ≠ m * 7 + 3 → p ≠ m * 7 + 4 → p ≠ m * 7 + 5 → p ≠ m * 7 + 6 → W.cell? ⟨g, p, none⟩ = w.cell? ⟨g, p, none⟩ := by
    intro p n0 n1 n2 n3 n4 n5 n6
    rw [hW, cell_off _ _ _ _ _ n6, cell_off _ _ _ _ _ n5, cell_off _ _ _ _ _ n4, cell_off _ _ _ _ _ n3, cell_off _ _ _ _ _ n2, cell_off _ _ _ _ _ n1, cell_off _ _ _ _ _ n0]
  have a0 : W.cell? ⟨g, m * 7, none⟩ = some (.int .i64 T[m].kind) := by
    rw [hW, cell_off _ _ _ _ _ (by omega), cell_off _ _ _ _ _ (by omega), cell_off _ _ _ _ _ (by omega), cell_off _ _ _ _ _ (by omega), cell_off _ _ _ _ _ (by omega), cell_off _ _ _ _ _ (by omega), cell_here _ _ _ _ (by rw [e0]; rfl)]
  have a1 : W.cell? ⟨g, m * 7 + 1, none⟩ = some (.string T[m].name) := by
    rw [hW, cell_off _ _ _ _ _ (by omega), cell_off _ _ _ _ _ (by omega), cell_off _ _ _ _ _ (by omega), cell_off _ _ _ _ _ (by omega), cell_off _ _ _ _ _ (by omega), cell_here _ _ _ _ (by rw [cell_off _ _ _ _ _ (by omega), e1]; rfl)]
  have a2 : W.cell? ⟨g, m * 7 + 2, none⟩ = some (.slice (some ⟨g1, 0, none⟩) T[m].names.length T[m].names.length) := by
    rw [hW, cell_off _ _ _ _ _ (by omega), cell_off _ _ _ _ _ (by omega), cell_off _ _ _ _ _ (by omega), cell_off _ _ _ _ _ (by omega), cell_here _ _ _ _ (by rw [cell_off _ _ _ _ _ (by omega), cell_off _ _ _ _ _ (by omega), e2]; rfl)]
  have a3 : W.cell? ⟨g, m * 7 + 3, none⟩ = some (.slice (some ⟨g2, 0, none⟩) T[m].sum.length T[m].sum.length) := by
    rw [hW, cell_off _ _ _ _ _ (by omega), cell_off _ _ _ _ _ (by omega), cell_off _ _ _ _ _ (by omega), cell_here _ _ _ _ (by rw [cell_off _ _ _ _ _ (by omega), cell_off _ _ _ _ _ (by omega), cell_off _ _ _ _ _ (by omega), e3]; rfl)]
  have a4 : W.cell? ⟨g, m * 7 + 4, none⟩ = some (.bool T[m].down) := by
    rw [hW, cell_off _ _ _ _ _ (by omega), cell_off _ _ _ _ _ (by omega), cell_here _ _ _ _ (by rw [cell_off _ _ _ _ _ (by omega), cell_off _ _ _ _ _ (by omega), cell_off _ _ _ _ _ (by omega), cell_off _ _ _ _ _ (by omega), e4]; rfl)]
  have a5 : W.cell? ⟨g, m * 7 + 5, none⟩ = some (.int .i64 T[m].count) := by
    rw [hW, cell_off _ _ _ _ _ (by omega), cell_here _ _ _ _ (by rw [cell_off _ _ _ _ _ (by omega), cell_off _ _ _ _ _ (by omega), cell_off _ _ _ _ _ (by omega), cell_off _ _ _ _ _ (by omega), cell_off _ _ _ _ _ (by omega), e5]; rfl)]
  have a6 : W.cell? ⟨g, m * 7 + 6, none⟩ = some (.int .i64 T[m].skip) := by
    rw [hW, cell_here _ _ _ _ (by rw [cell_off _ _ _ _ _ (by omega), cell_off _ _ _ _ _ (by omega), cell_off _ _ _ _ _ (by omega), cell_off _ _ _ _ _ (by omega), cell_off _ _ _ _ _ (by omega), cell_off _ _ _ _ _ (by omega), e6]; rfl)]
  have fr : ∀ p, W.frozen? ⟨g, p, none⟩ = false := by
    intro p; rw [hW, World.frozen?_setCell, World.frozen?_setCell, World.frozen?_setCell, World.frozen?_setCell, World.frozen?_setCell, World.frozen?_setCell, World.frozen?_setCell]; exact h.free p
  have K : KeepS (fun b => b = g) w W := by
    rw [hW]
    exact ((((((((KeepS.refl (fun b => b = g) w).setCell (p := ⟨g, m * 7, none⟩) rfl _).setCell (p := ⟨g, m * 7 + 1, none⟩) rfl _).setCell (p := ⟨g, m * 7 + 2, none⟩) rfl _).setCell (p := ⟨g, m * 7 + 3, none⟩) rfl _).setCell (p := ⟨g, m * 7 + 4, none⟩) rfl _).setCell (p := ⟨g, m * 7 + 5, none⟩) rfl _).setCell (p := ⟨g, m * 7 + 6, none⟩) rfl _)
  rw [← hW]
  clear hW
  refine ⟨Nat.lt_of_lt_of_le h.lt K.size, ?_, fr, ?_⟩
  · intro q hq
    by_cases h0 : q = m * 7
    · subst h0; exact ⟨_, a0⟩
    by_cases h1 : q = m * 7 + 1
    · subst h1; exact ⟨_, a1⟩
    by_cases h2 : q = m * 7 + 2
    · subst h2; exact ⟨_, a2⟩
    by_cases h3 : q = m * 7 + 3
    · subst h3; exact ⟨_, a3⟩
    by_cases h4 : q = m * 7 + 4
    · subst h4; exact ⟨_, a4⟩
    by_cases h5 : q = m * 7 + 5
    · subst h5; exact ⟨_, a5⟩
    by_cases h6 : q = m * 7 + 6
    · subst h6; exact ⟨_, a6⟩
    rw [off q h0 h1 h2 h3 h4 h5 h6]; exact h.there q hq
  · intro i hi hlt
    by_cases e : i = m
    · subst e
      exact ⟨g1, g2, ⟨a0, a1, a2, a3, a4, a5, a6⟩, N.keepS K (fun b hb => by have := N.lo; omega)⟩
    · obtain ⟨p1, p2, ⟨c0, c1, c2, c3, c4, c5, c6⟩, M⟩ := h.sivs i hi (by omega)
      exact ⟨p1, p2, ⟨by rw [off _ (by omega) (by omega) (by omega) (by omega) (by omega) (by omega) (by omega)]; exact c0, by rw [off _ (by omega) (by omega) (by omega) (by omega) (by omega) (by omega) (by omega)]; exact c1, by rw [off _ (by omega) (by omega) (by omega) (by omega) (by omega) (by omega) (by omega)]; exact c2, by rw [off _ (by omega) (by omega) (by omega) (by omega) (by omega) (by omega) (by omega)]; exact c3, by rw [off _ (by omega) (by omega) (by omega) (by omega) (by omega) (by omega) (by omega)]; exact c4, by rw [off _ (by omega) (by omega) (by omega) (by omega) (by omega) (by omega) (by omega)]; exact c5, by rw [off _ (by omega) (by omega) (by omega) (by omega) (by omega) (by omega) (by omega)]; exact c6⟩, M.keepS K (fun b hb => by have := M.lo; omega)⟩
theorem TakV.lies {w : World} {g : Nat} {T : List SV} (h : TakV w g T T.length) (hf : ∀ i (hi : i < T.length), FitS T[i].names ∧ T[i].name.size ≤ maxLen ∧ T[i].names.length ≤ maxLen ∧ FitItm T[i].sum ∧ T[i].sum.length ≤ maxLen) : SivsAt w (some ⟨g, 0, none⟩) T := by
  intro i hi
  obtain ⟨g1, g2, c, N⟩ := h.sivs i hi hi
  obtain ⟨f1, f2, f3, f4, f5⟩ := hf i hi
  refine ⟨g, 0, some ⟨g1, 0, none⟩, T[i].names.length, some ⟨g2, 0, none⟩, T[i].sum.length, rfl, h.lt, ?_, N.lies f1 f2 f3 f4 f5⟩
  rw [Nat.zero_add]
  exact c
theorem SivsAt.fits {w : World} {a : Option Addr} {T : List SV} (h : SivsAt w a T) : ∀ i (hi : i < T.length), FitS T[i].names ∧ T[i].name.size ≤ maxLen ∧ T[i].names.length ≤ maxLen ∧ FitItm T[i].sum ∧ T[i].sum.length ≤ maxLen := by
  intro i hi
  obtain ⟨b, o, na, nc, sa, sc, _, _, _, t⟩ := h i hi
  exact ⟨t.fitN, t.name, t.lenN, t.fitI, t.lenI⟩
theorem infoV : (Tryz.prog.info? 36).map (fun i => (i.zero, i.size, i.bytes)) = some (some (.agg #[.int .i64 0, .string ⟨#[]⟩, .slice none 0 0, .slice none 0 0, .bool false, .int .i64 0, .int .i64 0]), 7, 96) := by kernel_rfl

set_option maxRecDepth 100000 in
set_option maxHeartbeats 4000000 in
theorem tosivs_laws (a : Option Addr) (cap : Nat) (T : List SV) (n : Nat) (hn : T.length = n) (w : World) (hrow : SivsAt w a T) (hm : n ≤ 1048576) (hms : ∀ i (h : i < T.length), MildV T[i]) :
    Calls Tryz.prog 6 #[.slice a n cap] w fun e w' => e = .returned (.slice (some ⟨w.heap.size, 0, none⟩) n n) ∧ TakV w' w.heap.size T T.length ∧ Below w.heap.size w w' := by
  obtain ⟨i0, hi, hz0, hz1, hz2⟩ := info_parts infoV
  have hR : Hid (SivsAt w a T) := hrow
  have hN : Hid (T.length = n) := hn
  have hMS : Hid (∀ i (h : i < T.length), MildV T[i]) := hms
  clear hrow hn hms
  go_enter Tryz.func6, Tryz.ntmps6
  go_wp2_with (at_make; refine wpList_make_full _ rfl _ _ 25 rfl w.heap.size 36 i0 (.agg #[.int .i64 0, .string ⟨#[]⟩, .slice none 0 0, .slice none 0 0, .bool false, .int .i64 0, .int .i64 0]) 7 Tryz.underlying25 hi hz0 hz1 .i64 .i64 _ _ n rfl rfl rfl rfl ?b2 ?b3 (Nat.le_refl _) ?_)
  case b2 => rw [hz2]; omega
  case b3 => unfold maxLen; omega
  intro w1 hown hgrow
  have hb1 : Below w.heap.size w w1 := (Below.refl _ _).grown hgrow (Nat.le_refl _) (by intro k h; cases h)
  generalize (madeCells _ _).toList = z at hown
  have hT : Hid (TakV w1 w.heap.size T 0) := by
    refine ⟨(hown.lt _ rfl).2, ?_, fun q => hown.frozenAt q, fun i _ h => by omega⟩
    intro q hq
    have := hN.out
    exact ⟨_, (hown.cellAt q (by omega)).trans (List.getElem?_eq_getElem (by rw [hown.1]; omega))⟩
  clear hown hgrow
  go_wp2
  go_loopw [4] (fun i wr => ∃ m : Nat, m ≤ n ∧ i = .int .i64 m ∧ Hid (TakV wr w.heap.size T m) ∧ Below w.heap.size w wr)
    (fun i _ => n - (intOf i).toNat)
  case atStart => exact ⟨0, Nat.zero_le _, rfl, hT, hb1⟩
  case round =>
    obtain ⟨m, hmL, rfl, hT2, hb⟩ := hrel
    by_cases hlt : m < n
    · have hlt' : Hid (m < T.length) := by have := hN.out; exact show m < T.length by omega
      obtain ⟨b, o, na, nc, sa, sc, rfl, hbw, ⟨c0, c1, c2, c3, c4, c5, c6⟩, ht⟩ := hR.out.below hb m hlt'.out
      have hi0 : (0 : Int) ≤ (m : Int) := by omega
      have hi1 : (m : Int) < (n : Int) := by omega
      have HT : Hid (SivAt wr na nc sa (T[m]'hlt'.out)) := ht
      have HM : Hid (MildV (T[m]'hlt'.out)) := hMS.out m hlt'.out
      clear ht
      obtain ⟨x, hx⟩ : ∃ x, (T[m]'hlt'.out) = x := ⟨_, rfl⟩
      rw [hx] at c0 c1 c2 c3 c4 c5 c6 HT HM
      have HXE : Hid ((T[m]'hlt'.out) = x) := hx
      clear hx
      obtain ⟨nn, hnn⟩ : ∃ k, x.names.length = k := ⟨_, rfl⟩
      obtain ⟨sn, hsn⟩ : ∃ k, x.sum.length = k := ⟨_, rfl⟩
      rw [hnn] at c2
      rw [hsn] at c3
      have HNC : Hid (x.names.length = nn) := hnn
      have HNR : Hid (x.sum.length = sn) := hsn
      have hbg : w.heap.size < wr.heap.size := hT2.out.lt
      clear hnn hsn
      go_wp2_with fail
      refine (tosiv_laws na nc sa sc x nn sn HNC.out HNR.out _ HT.out (by have := HM.out.2.1; rw [HNC.out] at this; exact this) (by have := HM.out.2.2.2.1; rw [HNR.out] at this; exact this)).mono ?_
      rintro e w2 ⟨g1, g2, rfl, hnew, hb2⟩
      have hx2 := chain hb hb2
      have T2 := hT2.out.below hb2
      have hTT := T2.step hlt'.out x HXE.out (hnew.lower (by omega))
      rw [HNC.out, HNR.out] at hTT
      have HTT : Hid (TakV (((((((w2.setCell ⟨w.heap.size, m * 7, none⟩ (.int .i64 x.kind)).setCell ⟨w.heap.size, m * 7 + 1, none⟩ (.string x.name)).setCell ⟨w.heap.size, m * 7 + 2, none⟩ (.slice (some ⟨g1, 0, none⟩) nn nn)).setCell ⟨w.heap.size, m * 7 + 3, none⟩ (.slice (some ⟨g2, 0, none⟩) sn sn)).setCell ⟨w.heap.size, m * 7 + 4, none⟩ (.bool x.down)).setCell ⟨w.heap.size, m * 7 + 5, none⟩ (.int .i64 x.count)).setCell ⟨w.heap.size, m * 7 + 6, none⟩ (.int .i64 x.skip)) w.heap.size T (m + 1)) := hTT
      have hlq := hlt'.out
      obtain ⟨u0, y0⟩ := T2.there (m * 7) (by omega)
      have f0 := T2.free (m * 7)
      obtain ⟨u1, y1⟩ := T2.there (m * 7 + 1) (by omega)
      have f1 := T2.free (m * 7 + 1)
      obtain ⟨u2, y2⟩ := T2.there (m * 7 + 2) (by omega)
      have f2 := T2.free (m * 7 + 2)
      obtain ⟨u3, y3⟩ := T2.there (m * 7 + 3) (by omega)
      have f3 := T2.free (m * 7 + 3)
      obtain ⟨u4, y4⟩ := T2.there (m * 7 + 4) (by omega)
      have f4 := T2.free (m * 7 + 4)
      obtain ⟨u5, y5⟩ := T2.there (m * 7 + 5) (by omega)
      have f5 := T2.free (m * 7 + 5)
      obtain ⟨u6, y6⟩ := T2.there (m * 7 + 6) (by omega)
      have f6 := T2.free (m * 7 + 6)
      clear hTT T2 hb2 hnew hlq hT2 HM HT HXE HNC HNR
      go_wp2
      go_roundw
      case rel => exact ⟨m + 1, by omega, by go_num, HTT, (((((((hx2.setCell (Nat.le_refl _) _).setCell (Nat.le_refl _) _).setCell (Nat.le_refl _) _).setCell (Nat.le_refl _) _).setCell (Nat.le_refl _) _).setCell (Nat.le_refl _) _).setCell (Nat.le_refl _) _)⟩
      case measure => simp [intOf]; omega
    · have hkl : m = n := by omega
      subst hkl
      go_wp2
      go_ret
      exact ⟨rfl, by rw [hN.out]; exact hT2.out, hb⟩
theorem tosivs_lies (a : Option Addr) (cap : Nat) (T : List SV) (n : Nat) (hn : T.length = n) (w : World) (hrow : SivsAt w a T) (hm : T.length ≤ 1048576 ∧ ∀ i (hi : i < T.length), MildV T[i]) :
    ∀ w', Below w.heap.size w w' → Calls Tryz.prog 6 #[.slice a n cap] w' fun e w'' => ∃ g, e = .returned (.slice (some ⟨g, 0, none⟩) n n) ∧ SivsAt w'' (some ⟨g, 0, none⟩) T ∧ Below w'.heap.size w' w'' := by
  intro w' hw
  refine (tosivs_laws a cap T n hn w' (hrow.below hw) (by rw [← hn]; exact hm.1) hm.2).mono ?_
  rintro e w'' ⟨rfl, hT, hb⟩
  exact ⟨_, rfl, hT.lies hrow.fits, hb⟩
end Go.Proofs.YtpggjgilklpncaaGreatDoor

/-
  Questions without any program: sieve by sieve.
-/
namespace Go.Proofs.YtpggjgilklpncaaGreatDoor

/-- Is it right at this place? -/
def goodS (i : Nat) (s : SV) : Bool := sieveB s && ((s.kind == 1) == decide (i = 0))
def goodL : Nat → List SV → Bool
  | _, [] => true
  | i, x :: l => goodS i x && goodL (i + 1) l
theorem goodL_succ (l : List SV) (i : Nat) : goodL (i + 1) l = (l.all sieveB && l.all (fun y => y.kind != 1)) := by
  induction l generalizing i with
  | nil => rfl
  | cons x l ih =>
    unfold goodL goodS
    rw [ih, List.all_cons, List.all_cons, decide_eq_false (by omega : ¬ i + 1 = 0)]
    have : (x.kind != 1) = !(x.kind == 1) := rfl
    rw [this]
    cases sieveB x <;> cases (x.kind == 1) <;> cases (l.all sieveB) <;> simp
theorem goodL_step (T : List SV) (k : Nat) (h : k < T.length) : goodL k (T.drop k) = (goodS k T[k] && goodL (k + 1) (T.drop (k + 1))) := by
  rw [List.drop_eq_getElem_cons h]; rfl
theorem goodL_end (T : List SV) (k : Nat) (h : T.length ≤ k) : goodL k (T.drop k) = true := by
  rw [List.drop_of_length_le h]; rfl
theorem ask_good (T : List SV) : askB T = (goodL 0 T && (decide ((1 : Int) ≤ (T.length : Int)) && decide ((T.length : Int) ≤ 8))) := by
  cases T with
  | nil => rfl
  | cons x l =>
    unfold askB goodL goodS
    rw [goodL_succ, show firstB (x :: l) = (x.kind == 1 && l.all (fun y => y.kind != 1)) from rfl, List.all_cons, decide_eq_true (show (1 : Int) ≤ ((x :: l).length : Int) by rw [List.length_cons]; omega), Bool.true_and]
    have e : decide (((x :: l).length : Int) ≤ 8) = decide ((x :: l).length ≤ 8) := by
      by_cases h : (x :: l).length ≤ 8
      · rw [decide_eq_true h, decide_eq_true (show ((x :: l).length : Int) ≤ 8 by omega)]
      · rw [decide_eq_false h, decide_eq_false (show ¬ ((x :: l).length : Int) ≤ 8 by omega)]
    rw [e, decide_eq_true (show 0 = 0 from rfl)]
    generalize decide ((x :: l).length ≤ 8) = q
    generalize (x.kind == 1) = a
    generalize l.all (fun y => y.kind != 1) = d
    generalize l.all sieveB = c
    generalize sieveB x = s
    cases q <;> cases a <;> cases c <;> cases d <;> cases s <;> rfl
end Go.Proofs.YtpggjgilklpncaaGreatDoor

/-
  The contract of the model's AskOk.
-/
namespace Go.Proofs.YtpggjgilklpncaaGreatDoor
open Go.ChangeShapes Go.WideShapes Go.ChangeAt Go.RowKit
attribute [local go_sem ↓] Go.wp_at_zero Go.wp_at_succ
attribute [local simp] World.cell?_alloc_past World.cell?_alloc_at World.frozen?_alloc_at cell_far cell_off cell_here World.frozen?_alloc_past

set_option maxRecDepth 100000 in
set_option maxHeartbeats 4000000 in
theorem ask_spec (a : Option Addr) (cap : Nat) (T : List SV) (n : Nat) (hn : T.length = n) (w : World) (hrow : SivsAt w a T) (hm : n ≤ maxLen) (b : Bool) (hb : askB T = b) :
    Calls Tryz.prog 10 #[.slice a n cap] w fun e w' => e = .returned (.bool b) ∧ Below w.heap.size w w' := by
  have HR : Hid (SivsAt w a T) := hrow
  have HN : Hid (T.length = n) := hn
  obtain ⟨q, hq⟩ : ∃ q, (decide ((1 : Int) ≤ (n : Int)) && decide ((n : Int) ≤ 8)) = q := ⟨_, rfl⟩
  have HQ : Hid ((decide ((1 : Int) ≤ (n : Int)) && decide ((n : Int) ≤ 8)) = q) := hq
  have HG : Hid ((goodL 0 (T.drop 0) && q) = b) := by
    have : (goodL 0 (T.drop 0) && q) = b := by rw [← hb, ask_good, hn, hq]; rfl
    exact this
  clear hrow hn hb hq
  have hm6 := hm
  unfold maxLen at hm6
  go_enter Tryz.func10, Tryz.ntmps10
  go_wp2
  go_loopw [3] (fun iv wr => ∃ k : Nat, k ≤ n ∧ iv = .int .i64 k ∧ Hid ((goodL k (T.drop k) && q) = b) ∧ Below w.heap.size w wr) (fun iv _ => n - (intOf iv).toNat)
  case atStart => exact ⟨0, Nat.zero_le _, rfl, HG, Below.refl _ _⟩
  case round =>
    obtain ⟨k, hk, rfl, hg, hbw⟩ := hrel
    by_cases hlt : k < n
    · have hlk : k < T.length := by rw [HN.out]; exact hlt
      obtain ⟨g, o, na, nc, sa, sc, rfl, hgw, ⟨c0, c1, c2, c3, c4, c5, c6⟩, ht⟩ := HR.out.below hbw k hlk
      have hi0 : (0 : Int) ≤ (k : Int) := by omega
      have hi1 : (k : Int) < (n : Int) := by omega
      have HST : Hid ((goodS k T[k] && goodL (k + 1) (T.drop (k + 1)) && q) = b) := by
        have := hg.out
        rw [goodL_step T k hlk] at this
        exact this
      generalize T[k] = s at c0 c1 c2 c3 c4 c5 c6 ht HST
      obtain ⟨kd, nm, N, S, dn, ct, sk⟩ := s
      dsimp only at c0 c1 c2 c3 c4 c5 c6
      obtain ⟨nn, hnn⟩ : ∃ m, N.length = m := ⟨_, rfl⟩
      obtain ⟨sn, hsn⟩ : ∃ m, S.length = m := ⟨_, rfl⟩
      rw [hnn] at c2
      rw [hsn] at c3
      obtain ⟨r, hr⟩ : ∃ r, sieveB ⟨kd, nm, N, S, dn, ct, sk⟩ = r := ⟨_, rfl⟩
      have C : Hid (Calls Tryz.prog 19 #[.agg #[.int .i64 kd, .string nm, .slice na nn nc, .slice sa sn sc, .bool dn, .int .i64 ct, .int .i64 sk]] wr fun e w' => e = .returned (.bool r) ∧ Below wr.heap.size wr w') :=
        sieve_spec kd nm na nn nc N hnn sa sn sc S hsn dn ct sk wr ht.name ht.names ht.fitN (by rw [← hnn]; exact ht.lenN) (by rw [← hnn]; exact ht.capN) ht.sum ht.fitI (by rw [← hsn]; exact ht.lenI) r hr
      have HV : Hid (((r && ((kd == 1) == decide (k = 0))) && goodL (k + 1) (T.drop (k + 1)) && q) = b) := by
        have := HST.out
        unfold goodS at this
        rw [hr] at this
        exact this
      clear HST hr ht hnn hsn hlk hg
      go_wp2_with fail
      refine C.out.mono ?_
      rintro e w1 ⟨rfl, hb1⟩
      have hx1 := chain hbw hb1
      have d0 : w1.cell? ⟨g, o + k * 7, none⟩ = some (.int .i64 kd) := by rw [hb1.cell (p := ⟨g, o + k * 7, none⟩) hgw]; exact c0
      have hgw1 : g < w1.heap.size := Nat.lt_of_lt_of_le hgw hb1.size
      clear c0 c1 c2 c3 c4 c5 c6 hb1 C
      cases r
      · obtain rfl : b = false := by rw [← HV.out]; simp
        go_wp2
        go_ret
        exact ⟨rfl, hx1⟩
      by_cases hk1 : kd = 1
      · subst hk1
        by_cases hk0 : k = 0
        · have hz : ((k : Int) == 0) = true := by simp; omega
          have HV2 : Hid ((goodL (k + 1) (T.drop (k + 1)) && q) = b) := by
            have h := HV.out
            rw [decide_eq_true hk0] at h
            have h2 : (goodL (k + 1) (T.drop (k + 1)) && q) = b := by simpa using h
            exact h2
          clear HV hk0
          go_wp2
          go_roundw
          case rel => exact ⟨k + 1, by omega, by go_num, HV2, hx1⟩
          case measure => simp [intOf]; omega
        · have hz : ((k : Int) == 0) = false := by simp; omega
          obtain rfl : b = false := by
            rw [← HV.out, decide_eq_false hk0]; rfl
          clear HV hk0
          go_wp2
          go_ret
          exact ⟨rfl, hx1⟩
      · have hz1 : (kd == 1) = false := by simpa using hk1
        by_cases hk0 : k = 0
        · have hz : ((k : Int) == 0) = true := by simp; omega
          obtain rfl : b = false := by
            rw [← HV.out, hz1, decide_eq_true hk0]; rfl
          clear HV hk0
          go_wp2
          go_ret
          exact ⟨rfl, hx1⟩
        · have hz : ((k : Int) == 0) = false := by simp; omega
          have HV2 : Hid ((goodL (k + 1) (T.drop (k + 1)) && q) = b) := by
            have h := HV.out
            rw [hz1, decide_eq_false hk0] at h
            have h2 : (goodL (k + 1) (T.drop (k + 1)) && q) = b := by simpa using h
            exact h2
          clear HV hk0
          go_wp2
          go_roundw
          case rel => exact ⟨k + 1, by omega, by go_num, HV2, hx1⟩
          case measure => simp [intOf]; omega
    · have hkl : k = n := by omega
      subst hkl
      have hi1 : ¬ (k : Int) < (k : Int) := by omega
      obtain rfl : q = b := by
        have := hg.out
        rw [goodL_end T k (by rw [HN.out]; exact Nat.le_refl _), Bool.true_and] at this
        exact this
      clear hg
      go_wp2_with fail
      refine (l1in_spec (k : Int) 1 8 q HQ.out _).mono ?_
      rintro e w1 ⟨rfl, hw1⟩
      obtain rfl : wr = w1 := hw1.symm
      go_wp2
      go_ret
      exact ⟨rfl, hbw⟩
end Go.Proofs.YtpggjgilklpncaaGreatDoor
