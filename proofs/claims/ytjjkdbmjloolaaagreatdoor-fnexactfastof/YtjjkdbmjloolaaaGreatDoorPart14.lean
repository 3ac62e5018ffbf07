/-
  A part of the proof: Siv1.
-/
import Derived.Test.YtjjkdbmjloolaaaGreatDoorPart1
import Derived.Test.YtjjkdbmjloolaaaGreatDoorPart9
import Derived.Test.YtjjkdbmjloolaaaGreatDoorPart3
import Derived.Test.YtjjkdbmjloolaaaGreatDoorPart13

namespace Go.Proofs.YtjjkdbmjloolaaaGreatDoor
open Go.ChangeShapes Go.WideShapes Go.ChangeAt Go.RowKit
attribute [local go_sem ↓] Go.wp_at_zero Go.wp_at_succ
attribute [local simp] World.cell?_alloc_past World.cell?_alloc_at World.frozen?_alloc_at cell_far cell_off cell_here World.frozen?_alloc_past
structure SivAt (w : World) (na : Option Addr) (nc : Nat) (sa : Option Addr) (s : SV) : Prop where
 names : StrsAt w na s.names
 fitN : FitS s.names
 lenN : s.names.length ≤ maxLen
 capN : s.names.length ≤ nc
 nilN : na = none → nc = 0
 sum : ItmAt w sa s.sum
 fitI : FitItm s.sum
 lenI : s.sum.length ≤ maxLen
 name : s.name.size ≤ maxLen
theorem SivAt.below {w w' : World} {na : Option Addr} {nc : Nat} {sa : Option Addr} {s : SV} (h : SivAt w na nc sa s) (hb : Below w.heap.size w w') : SivAt w' na nc sa s :=
 ⟨h.names.below hb, h.fitN, h.lenN, h.capN, h.nilN, h.sum.below hb, h.fitI, h.lenI, h.name⟩
theorem alloc_one (w : World) (o : Obj) : (w.alloc o).heap.size = w.heap.size + 1 := by simp
theorem box7 {w w1 : World} {a b c d e f g : Value} {T : TypeId} (h : Below (w.alloc (.cells #[a, b, c, d, e, f, g] T)).heap.size (w.alloc (.cells #[a, b, c, d, e, f, g] T)) w1) :
  w1.cell? ⟨w.heap.size, 0, none⟩ = some (a) ∧ w1.cell? ⟨w.heap.size, 1, none⟩ = some (b) ∧ w1.cell? ⟨w.heap.size, 2, none⟩ = some (c) ∧ w1.cell? ⟨w.heap.size, 3, none⟩ = some (d) ∧ w1.cell? ⟨w.heap.size, 4, none⟩ = some (e) ∧ w1.cell? ⟨w.heap.size, 5, none⟩ = some (f) ∧ w1.cell? ⟨w.heap.size, 6, none⟩ = some (g) ∧ w.heap.size < w1.heap.size := by
 have hs := h.size
 have key : ∀ o, w1.cell? ⟨w.heap.size, o, none⟩ = (w.alloc (.cells #[a, b, c, d, e, f, g] T)).cell? ⟨w.heap.size, o, none⟩ := fun o => h.cell (p := ⟨w.heap.size, o, none⟩) (by simp)
 simp only [key]
 refine ⟨?_, ?_, ?_, ?_, ?_, ?_, ?_, by simp at hs; omega⟩ <;> simp [World.cell?_alloc_at]
theorem later7 {w w' : World} {B : Nat} {a b c d e f g : Value} (hb : Below w.heap.size w w') (h : w.cell? ⟨B, 0, none⟩ = some (a) ∧ w.cell? ⟨B, 1, none⟩ = some (b) ∧ w.cell? ⟨B, 2, none⟩ = some (c) ∧ w.cell? ⟨B, 3, none⟩ = some (d) ∧ w.cell? ⟨B, 4, none⟩ = some (e) ∧ w.cell? ⟨B, 5, none⟩ = some (f) ∧ w.cell? ⟨B, 6, none⟩ = some (g) ∧ B < w.heap.size) :
  w'.cell? ⟨B, 0, none⟩ = some (a) ∧ w'.cell? ⟨B, 1, none⟩ = some (b) ∧ w'.cell? ⟨B, 2, none⟩ = some (c) ∧ w'.cell? ⟨B, 3, none⟩ = some (d) ∧ w'.cell? ⟨B, 4, none⟩ = some (e) ∧ w'.cell? ⟨B, 5, none⟩ = some (f) ∧ w'.cell? ⟨B, 6, none⟩ = some (g) ∧ B < w'.heap.size := by
 obtain ⟨h0, h1, h2, h3, h4, h5, h6, h7⟩ := h
 have key : ∀ o, w'.cell? ⟨B, o, none⟩ = w.cell? ⟨B, o, none⟩ := fun o => hb.cell (p := ⟨B, o, none⟩) h7
 simp only [key]
 exact ⟨h0, h1, h2, h3, h4, h5, h6, Nat.lt_of_lt_of_le h7 hb.size⟩
theorem seven {w : World} {b : Nat} {a0 a1 a2 a3 a4 a5 a6 : Value} (v0 v1 v2 v3 v4 v5 v6 : Value) (h0 : w.cell? ⟨b, 0, none⟩ = some a0) (h1 : w.cell? ⟨b, 1, none⟩ = some a1) (h2 : w.cell? ⟨b, 2, none⟩ = some a2) (h3 : w.cell? ⟨b, 3, none⟩ = some a3) (h4 : w.cell? ⟨b, 4, none⟩ = some a4) (h5 : w.cell? ⟨b, 5, none⟩ = some a5) (h6 : w.cell? ⟨b, 6, none⟩ = some a6) :
  (((((((w.setCell ⟨b, 0, none⟩ (v0)).setCell ⟨b, 1, none⟩ (v1)).setCell ⟨b, 2, none⟩ (v2)).setCell ⟨b, 3, none⟩ (v3)).setCell ⟨b, 4, none⟩ (v4)).setCell ⟨b, 5, none⟩ (v5)).setCell ⟨b, 6, none⟩ (v6)).cell? ⟨b, 0, none⟩ = some (v0) ∧ (((((((w.setCell ⟨b, 0, none⟩ (v0)).setCell ⟨b, 1, none⟩ (v1)).setCell ⟨b, 2, none⟩ (v2)).setCell ⟨b, 3, none⟩ (v3)).setCell ⟨b, 4, none⟩ (v4)).setCell ⟨b, 5, none⟩ (v5)).setCell ⟨b, 6, none⟩ (v6)).cell? ⟨b, 1, none⟩ = some (v1) ∧ (((((((w.setCell ⟨b, 0, none⟩ (v0)).setCell ⟨b, 1, none⟩ (v1)).setCell ⟨b, 2, none⟩ (v2)).setCell ⟨b, 3, none⟩ (v3)).setCell ⟨b, 4, none⟩ (v4)).setCell ⟨b, 5, none⟩ (v5)).setCell ⟨b, 6, none⟩ (v6)).cell? ⟨b, 2, none⟩ = some (v2) ∧ (((((((w.setCell ⟨b, 0, none⟩ (v0)).setCell ⟨b, 1, none⟩ (v1)).setCell ⟨b, 2, none⟩ (v2)).setCell ⟨b, 3, none⟩ (v3)).setCell ⟨b, 4, none⟩ (v4)).setCell ⟨b, 5, none⟩ (v5)).setCell ⟨b, 6, none⟩ (v6)).cell? ⟨b, 3, none⟩ = some (v3) ∧ (((((((w.setCell ⟨b, 0, none⟩ (v0)).setCell ⟨b, 1, none⟩ (v1)).setCell ⟨b, 2, none⟩ (v2)).setCell ⟨b, 3, none⟩ (v3)).setCell ⟨b, 4, none⟩ (v4)).setCell ⟨b, 5, none⟩ (v5)).setCell ⟨b, 6, none⟩ (v6)).cell? ⟨b, 4, none⟩ = some (v4) ∧ (((((((w.setCell ⟨b, 0, none⟩ (v0)).setCell ⟨b, 1, none⟩ (v1)).setCell ⟨b, 2, none⟩ (v2)).setCell ⟨b, 3, none⟩ (v3)).setCell ⟨b, 4, none⟩ (v4)).setCell ⟨b, 5, none⟩ (v5)).setCell ⟨b, 6, none⟩ (v6)).cell? ⟨b, 5, none⟩ = some (v5) ∧ (((((((w.setCell ⟨b, 0, none⟩ (v0)).setCell ⟨b, 1, none⟩ (v1)).setCell ⟨b, 2, none⟩ (v2)).setCell ⟨b, 3, none⟩ (v3)).setCell ⟨b, 4, none⟩ (v4)).setCell ⟨b, 5, none⟩ (v5)).setCell ⟨b, 6, none⟩ (v6)).cell? ⟨b, 6, none⟩ = some (v6) := by
 refine ⟨?_, ?_, ?_, ?_, ?_, ?_, ?_⟩
 · rw [cell_off _ _ _ _ _ (by omega), cell_off _ _ _ _ _ (by omega), cell_off _ _ _ _ _ (by omega), cell_off _ _ _ _ _ (by omega), cell_off _ _ _ _ _ (by omega), cell_off _ _ _ _ _ (by omega), cell_here _ _ _ _ (by rw [h0]; rfl)]
 · rw [cell_off _ _ _ _ _ (by omega), cell_off _ _ _ _ _ (by omega), cell_off _ _ _ _ _ (by omega), cell_off _ _ _ _ _ (by omega), cell_off _ _ _ _ _ (by omega), cell_here _ _ _ _ (by rw [cell_off _ _ _ _ _ (by omega), h1]; rfl)]
 · rw [cell_off _ _ _ _ _ (by omega), cell_off _ _ _ _ _ (by omega), cell_off _ _ _ _ _ (by omega), cell_off _ _ _ _ _ (by omega), cell_here _ _ _ _ (by rw [cell_off _ _ _ _ _ (by omega), cell_off _ _ _ _ _ (by omega), h2]; rfl)]
 · rw [cell_off _ _ _ _ _ (by omega), cell_off _ _ _ _ _ (by omega), cell_off _ _ _ _ _ (by omega), cell_here _ _ _ _ (by rw [cell_off _ _ _ _ _ (by omega), cell_off _ _ _ _ _ (by omega), cell_off _ _ _ _ _ (by omega), h3]; rfl)]
 · rw [cell_off _ _ _ _ _ (by omega), cell_off _ _ _ _ _ (by omega), cell_here _ _ _ _ (by rw [cell_off _ _ _ _ _ (by omega), cell_off _ _ _ _ _ (by omega), cell_off _ _ _ _ _ (by omega), cell_off _ _ _ _ _ (by omega), h4]; rfl)]
 · rw [cell_off _ _ _ _ _ (by omega), cell_here _ _ _ _ (by rw [cell_off _ _ _ _ _ (by omega), cell_off _ _ _ _ _ (by omega), cell_off _ _ _ _ _ (by omega), cell_off _ _ _ _ _ (by omega), cell_off _ _ _ _ _ (by omega), h5]; rfl)]
 · rw [cell_here _ _ _ _ (by rw [cell_off _ _ _ _ _ (by omega), cell_off _ _ _ _ _ (by omega), cell_off _ _ _ _ _ (by omega), cell_off _ _ _ _ _ (by omega), cell_off _ _ _ _ _ (by omega), cell_off _ _ _ _ _ (by omega), h6]; rfl)]
def leftV (s : SV) (left : Int) : Int :=
 if left < (s.name.size : Int) then -1 else
  if leftOfS s.names (left - s.name.size) < 0 then -1 else
   if leftOfItm s.sum (leftOfS s.names (left - s.name.size)) < 0 then -1 else leftOfItm s.sum (leftOfS s.names (left - s.name.size))
theorem leftItm_le (l : List TI) (x : Int) (h : 0 ≤ leftOfItm l x) : leftOfItm l x ≤ x := by
 unfold leftOfItm at h ⊢; split <;> omega
theorem leftNam_le (l : List ByteArray) (x : Int) (h : 0 ≤ leftOfS l x) : leftOfS l x ≤ x := by
 unfold leftOfS at h ⊢; split <;> omega
theorem leftV_le (s : SV) (x : Int) (h : 0 ≤ leftV s x) : leftV s x ≤ x := by
 unfold leftV at h ⊢
 by_cases h1 : x < (s.name.size : Int)
 · rw [if_pos h1] at h; omega
 rw [if_neg h1] at h ⊢
 by_cases h2 : leftOfS s.names (x - s.name.size) < 0
 · rw [if_pos h2] at h; omega
 rw [if_neg h2] at h ⊢
 by_cases h3 : leftOfItm s.sum (leftOfS s.names (x - s.name.size)) < 0
 · rw [if_pos h3] at h; omega
 rw [if_neg h3] at h ⊢
 have := leftNam_le s.names (x - s.name.size) (by omega)
 have := leftItm_le s.sum _ h
 omega
def MildV (s : SV) : Prop := s.name.size ≤ 1048576 ∧ s.names.length ≤ 1048576 ∧ weightS s.names ≤ 1048576 ∧ s.sum.length ≤ 1048576 ∧ weightItm s.sum ≤ 1048576
theorem leftV_fit {s : SV} {left : Int} (h1 : left ≤ 1048576) (h : 0 ≤ leftV s left) : MildV s := by
 unfold leftV at h
 split at h
 · omega
 split at h
 · omega
 split at h
 · omega
 rename_i a b c
 have e1 : leftOfS s.names (left - s.name.size) = left - s.name.size - s.names.length - weightS s.names := by
  unfold leftOfS at b ⊢
  split at b
  · omega
  · rw [if_neg (by assumption)]
 rw [e1] at c b
 have e2 : ((s.sum.length : Int) + weightItm s.sum ≤ left - s.name.size - s.names.length - weightS s.names) := by
  unfold leftOfItm at c
  split at c
  · omega
  · omega
 exact ⟨by omega, by omega, by omega, by omega, by omega⟩
theorem szsItmN (n : Nat) (a : Option Addr) (cap : Nat) (l : List TI) (hn : l.length = n) (left : Int) (w : World) (hrow : ItmAt w a l) (hfit : FitItm l) (hm : n ≤ maxLen) (h0 : 0 ≤ left) (h1 : left ≤ 1048576) :
  Calls Tryz.prog 33 #[.slice a n cap, .int .i64 left] w fun e w' => e = .returned (.int .i64 (leftOfItm l left)) ∧ Below w.heap.size w w' := by
 subst hn; exact szsItm a cap l left w hrow hfit hm h0 h1
theorem szstrV (n : Nat) (a : Option Addr) (cap : Nat) (l : List ByteArray) (hn : l.length = n) (left : Int) (w : World) (hrow : StrsAt w a l) (hfit : FitS l) (hm : n ≤ maxLen) (h0 : 0 ≤ left) (h1 : left ≤ 1048576) :
  Calls Tryz.prog 4 #[.slice a n cap, .int .i64 left] w fun e w' => e = .returned (.int .i64 (leftOfS l left)) ∧ Below w.heap.size w w' := by
 subst hn; exact szstr_laws a cap l left w hrow hfit hm h0 h1
set_option maxRecDepth 100000 in
set_option maxHeartbeats 2000000 in
theorem szsiv_laws (na : Option Addr) (nc : Nat) (sa : Option Addr) (sc : Nat) (s : SV) (nn sn : Nat) (hnn : s.names.length = nn) (hsn : s.sum.length = sn) (w : World) (ht : SivAt w na nc sa s) (left : Int) (h0 : 0 ≤ left) (h1 : left ≤ 1048576) :
  Calls Tryz.prog 17 #[.agg #[.int .i64 s.kind, .string s.name, .slice na nn nc, .slice sa sn sc, .bool s.down, .int .i64 s.count, .int .i64 s.skip], .int .i64 left] w fun e w' => e = .returned (.int .i64 (leftV s left)) ∧ Below w.heap.size w w' := by
 obtain ⟨k, nm, N, S, dn, ct, sk⟩ := s
 dsimp only at hnn hsn ⊢
 have HT := hid ht
 have HNC := hid hnn
 have HNR := hid hsn
 have hncM : nn ≤ maxLen := by rw [← hnn]; exact ht.lenN
 have hnrM : sn ≤ maxLen := by rw [← hsn]; exact ht.lenI
 have hnm : nm.size ≤ maxLen := ht.name
 unfold maxLen at hnm
 clear ht hnn hsn
 have HTA : Hid (SivAt (w.alloc (.cells #[.int .i64 k, .string nm, .slice na nn nc, .slice sa sn sc, .bool dn, .int .i64 ct, .int .i64 sk] 44)) na nc sa ⟨k, nm, N, S, dn, ct, sk⟩) := HT.out.below ((Below.refl _ _).alloc (Nat.le_refl _) _)
 have hxa : Below w.heap.size w (w.alloc (.cells #[.int .i64 k, .string nm, .slice na nn nc, .slice sa sn sc, .bool dn, .int .i64 ct, .int .i64 sk] 44)) := (Below.refl _ _).alloc (Nat.le_refl _) _
 obtain ⟨r, hr⟩ : ∃ r, leftV ⟨k, nm, N, S, dn, ct, sk⟩ left = r := ⟨_, rfl⟩
 rw [hr]
 have HL := hid hr
 clear hr
 by_cases hs : left < (nm.size : Int)
 · have e : r = -1 := by rw [← HL.out]; exact if_pos hs
  subst e
  have hneg : left - (nm.size : Int) < 0 := by omega
  go_enter Tryz.func17, Tryz.ntmps17
  go_wp2
  go_ret
  exact ⟨rfl, hxa⟩
 have hpos : 0 ≤ left - (nm.size : Int) := by omega
 obtain ⟨x, hx⟩ : ∃ x, leftOfS N (left - nm.size) = x := ⟨_, rfl⟩
 have hxle : x ≤ 1048576 := by
  rw [← hx]; unfold leftOfS; split <;> omega
 have HX := hid hx
 obtain ⟨y, hy⟩ : ∃ y, leftOfItm S x = y := ⟨_, rfl⟩
 have HYY := hid hy
 have HE : Hid (r = if x < 0 then -1 else if y < 0 then -1 else y) := by
  have : r = if x < 0 then -1 else if y < 0 then -1 else y := by
   rw [← HL.out]
   unfold leftV
   rw [if_neg hs]
   dsimp only
   rw [hx, hy]
  exact this
 clear hx hy
 go_enter Tryz.func17, Tryz.ntmps17
 go_wp2_with fail
 refine (szstrV nn na nc N HNC.out _ _ HTA.out.names HTA.out.fitN hncM hpos (by omega)).mono ?_
 rintro e w1 ⟨rfl, hb1⟩
 rw [HX.out]
 obtain ⟨p0, p1, p2, p3, p4, p5, p6, p7⟩ := box7 hb1
 have hx1 := chainA hb1
 have H1 : Hid (SivAt w1 na nc sa ⟨k, nm, N, S, dn, ct, sk⟩) := HTA.out.below hb1
 clear hb1 HTA HT hxa
 by_cases hx0 : x < 0
 · have e : r = -1 := by rw [HE.out, if_pos hx0]
  subst e
  go_wp2
  go_ret
  exact ⟨rfl, hx1⟩
 have hx0' : 0 ≤ x := by omega
 have HE2 : Hid (r = if y < 0 then -1 else y) := by
  have : r = if y < 0 then -1 else y := by rw [HE.out, if_neg hx0]
  exact this
 clear hx0
 go_wp2_with fail
 refine (szsItmN sn sa sc S HNR.out x _ H1.out.sum H1.out.fitI hnrM hx0' hxle).mono ?_
 rintro e w2 ⟨rfl, hb2⟩
 rw [HYY.out]
 by_cases hy0 : y < 0
 · have e : r = -1 := by rw [HE2.out, if_pos hy0]
  subst e
  go_wp2
  go_ret
  exact ⟨rfl, chain hx1 hb2⟩
 · have e : r = y := by rw [HE2.out, if_neg hy0]
  subst e
  go_wp2
  go_ret
  exact ⟨rfl, chain hx1 hb2⟩
theorem eqstrV (n : Nat) (a b : Option Addr) (ca cb : Nat) (l : List ByteArray) (hn : l.length = n) (w : World) (ha : StrsAt w a l) (hb : StrsAt w b l) (hm : n ≤ maxLen) :
  Calls Tryz.prog 11 #[.slice a n ca, .slice b n cb] w fun e w' => e = .returned (.bool true) ∧ Below w.heap.size w w' := by
 subst hn; exact eqstr_laws a b ca cb l w ha hb hm
set_option maxRecDepth 100000 in
set_option maxHeartbeats 2000000 in
theorem eqsiv_laws (na : Option Addr) (nc : Nat) (sa : Option Addr) (sc : Nat) (ma : Option Addr) (mc : Nat) (ra : Option Addr) (rc : Nat) (s : SV) (nn sn : Nat) (hnn : s.names.length = nn) (hsn : s.sum.length = sn) (w : World) (ht : SivAt w na nc sa s) (hu : SivAt w ma mc ra s) :
  Calls Tryz.prog 26 #[.agg #[.int .i64 s.kind, .string s.name, .slice na nn nc, .slice sa sn sc, .bool s.down, .int .i64 s.count, .int .i64 s.skip], .agg #[.int .i64 s.kind, .string s.name, .slice ma nn mc, .slice ra sn rc, .bool s.down, .int .i64 s.count, .int .i64 s.skip]] w fun e w' => e = .returned (.bool true) ∧ Below w.heap.size w w' := by
 obtain ⟨k, nm, N, S, dn, ct, sk⟩ := s
 dsimp only at hnn hsn ⊢
 have HT := hid ht
 have HU := hid hu
 have HNC := hid hnn
 have HNR := hid hsn
 have hncM : nn ≤ maxLen := by rw [← hnn]; exact ht.lenN
 have hnrM : sn ≤ maxLen := by rw [← hsn]; exact ht.lenI
 have hxx : (nm.toList == nm.toList) = true := by simp
 have hdd : (dn == dn) = true := by simp
 clear ht hu hnn hsn
 obtain ⟨W, hW⟩ : ∃ W, W = ((w.alloc (.cells #[.int .i64 k, .string nm, .slice na nn nc, .slice sa sn sc, .bool dn, .int .i64 ct, .int .i64 sk] 55)).alloc (.cells #[.int .i64 k, .string nm, .slice ma nn mc, .slice ra sn rc, .bool dn, .int .i64 ct, .int .i64 sk] 55)) := ⟨_, rfl⟩
 have hA : Below w.heap.size w ((w.alloc (.cells #[.int .i64 k, .string nm, .slice na nn nc, .slice sa sn sc, .bool dn, .int .i64 ct, .int .i64 sk] 55)).alloc (.cells #[.int .i64 k, .string nm, .slice ma nn mc, .slice ra sn rc, .bool dn, .int .i64 ct, .int .i64 sk] 55)) := ((Below.refl _ _).alloc (Nat.le_refl _) _).alloc (by simp) _
 go_enter Tryz.func26, Tryz.ntmps26
 go_wp2_with fail
 refine (eqstrV nn na ma nc mc N HNC.out _ (HT.out.below hA).names (HU.out.below hA).names hncM).mono ?_
 rintro e w1 ⟨rfl, hb1⟩
 have q := box7 hb1
 have p := box7 (w := w) (w1 := w1) (((Below.refl _ _).alloc (Nat.le_refl _) _).trans (hb1.mono (by simp)))
 simp only [alloc_one] at q
 have hx1 := chain hA hb1
 have H1 : Hid (SivAt w1 na nc sa ⟨k, nm, N, S, dn, ct, sk⟩) := HT.out.below hx1
 have H2 : Hid (SivAt w1 ma mc ra ⟨k, nm, N, S, dn, ct, sk⟩) := HU.out.below hx1
 clear hb1 HT HU hA
 obtain ⟨p0, p1, p2, p3, p4, p5, p6, p7⟩ := id p
 obtain ⟨q0, q1, q2, q3, q4, q5, q6, q7⟩ := id q
 go_wp2_with fail
 refine (eqsI sn sa ra sc rc S HNR.out _ H1.out.sum H2.out.sum hnrM).mono ?_
 rintro e w2 ⟨rfl, hb2⟩
 clear p0 p1 p2 p3 p4 p5 p6 p7 q0 q1 q2 q3 q4 q5 q6 q7
 obtain ⟨p0, p1, p2, p3, p4, p5, p6, p7⟩ := later7 hb2 p
 obtain ⟨q0, q1, q2, q3, q4, q5, q6, q7⟩ := later7 hb2 q
 have hx2 := chain hx1 hb2
 clear p q hb2
 go_wp2
 go_ret
 exact ⟨rfl, hx2⟩
structure NewSiv (w : World) (base g g2 : Nat) (s : SV) : Prop where
 lo : base ≤ g
 names : w.ownsRow base 9 1 (.slice (some ⟨g, 0, none⟩) s.names.length s.names.length) s.names.length (strV s.names)
 apart : g < g2
 sum : w.ownsRow base 97 5 (.slice (some ⟨g2, 0, none⟩) s.sum.length s.sum.length) s.sum.length (flatItm s.sum)
theorem NewSiv.below {w w' : World} {base g g2 : Nat} {s : SV} (h : NewSiv w base g g2 s) (hb : Below w.heap.size w w') : NewSiv w' base g g2 s :=
 ⟨h.lo, own_below h.names hb, h.apart, own_below h.sum hb⟩
theorem NewSiv.lies {w : World} {base g g2 : Nat} {s : SV} (h : NewSiv w base g g2 s) (hf : FitS s.names) (hn : s.name.size ≤ maxLen) (hc : s.names.length ≤ maxLen) (hi : FitItm s.sum) (hr : s.sum.length ≤ maxLen) :
  SivAt w (some ⟨g, 0, none⟩) s.names.length (some ⟨g2, 0, none⟩) s :=
 ⟨own_strs h.names, hf, hc, Nat.le_refl _, (fun e => by cases e), ownItm h.sum, hi, hr, hn⟩
theorem own_keepV {w w' : World} {base base' g c : Nat} {e : TypeId} {size n : Nat} {xs : List Value} (h : w.ownsRow base e size (.slice (some ⟨g, 0, none⟩) n c) n xs) (hb : base' ≤ base) (hk : w'.heap[g]? = w.heap[g]?) : w'.ownsRow base' e size (.slice (some ⟨g, 0, none⟩) n c) n xs := by
 refine ⟨h.1, ?_⟩
 rcases h.2 with h' | ⟨g', cap, cur, h', hbg, hg, hr⟩
 · exact .inl h'
 · refine .inr ⟨g', cap, cur, h', by omega, ?_, hr⟩
  simp only [Value.slice.injEq, Option.some.injEq, Addr.mk.injEq, and_true, true_and] at h'
  obtain ⟨rfl, _⟩ := h'
  rw [hk]; exact hg
theorem NewSiv.keepS {w w' : World} {base g g2 : Nat} {s : SV} {P : Nat → Prop} (h : NewSiv w base g g2 s) (hk : KeepS P w w') (hP : ∀ b, P b → b < g) : NewSiv w' base g g2 s := by
 have hg := (h.names.lt g rfl).2
 have hg2 := (h.sum.lt g2 rfl).2
 have ha := h.apart
 exact ⟨h.lo, own_keepV h.names (Nat.le_refl _) (hk.block g hg (fun hp => by have := hP g hp; omega)), h.apart, own_keepV h.sum (Nat.le_refl _) (hk.block g2 hg2 (fun hp => by have := hP g2 hp; omega))⟩
theorem NewSiv.lower {w : World} {base base' g g2 : Nat} {s : SV} (h : NewSiv w base g g2 s) (hb : base' ≤ base) : NewSiv w base' g g2 s :=
 ⟨Nat.le_trans hb h.lo, own_keepV h.names hb rfl, h.apart, own_keepV h.sum hb rfl⟩
theorem tostrV (n : Nat) (a : Option Addr) (cap : Nat) (l : List ByteArray) (hn : l.length = n) (w : World) (H : Nat) (hH : w.heap.size = H) (hrow : StrsAt w a l) (hm : n ≤ 1048576) :
  Calls Tryz.prog 7 #[.slice a n cap] w fun e w' => e = .returned (.slice (some ⟨H, 0, none⟩) n n) ∧
   w'.ownsRow H 9 1 (.slice (some ⟨H, 0, none⟩) l.length l.length) l.length (strV l) ∧ Below w.heap.size w w' := by
 subst hn hH; exact tostr_laws a cap l w hrow hm
theorem tosItmN (n : Nat) (a : Option Addr) (cap : Nat) (l : List TI) (hn : l.length = n) (w : World) (H : Nat) (hH : w.heap.size = H) (hrow : ItmAt w a l) (hm : n ≤ 1048576) :
  Calls Tryz.prog 39 #[.slice a n cap] w fun e w' => e = .returned (.slice (some ⟨H, 0, none⟩) n n) ∧
   w'.ownsRow H 97 5 (.slice (some ⟨H, 0, none⟩) l.length l.length) l.length (flatItm l) ∧ Below w.heap.size w w' := by
 subst hn hH; exact tosItm a cap l w hrow hm
set_option maxRecDepth 100000 in
set_option maxHeartbeats 4000000 in
theorem tosiv_laws (na : Option Addr) (nc : Nat) (sa : Option Addr) (sc : Nat) (s : SV) (nn sn : Nat) (hnn : s.names.length = nn) (hsn : s.sum.length = sn) (w : World) (ht : SivAt w na nc sa s) (hc1 : nn ≤ 1048576) (hr1 : sn ≤ 1048576) :
  Calls Tryz.prog 21 #[.agg #[.int .i64 s.kind, .string s.name, .slice na nn nc, .slice sa sn sc, .bool s.down, .int .i64 s.count, .int .i64 s.skip]] w fun e w' => ∃ g g2, e = .returned (.agg #[.int .i64 s.kind, .string s.name, .slice (some ⟨g, 0, none⟩) nn nn, .slice (some ⟨g2, 0, none⟩) sn sn, .bool s.down, .int .i64 s.count, .int .i64 s.skip]) ∧ NewSiv w' w.heap.size g g2 s ∧ Below w.heap.size w w' := by
 obtain ⟨k, nm, N, S, dn, ct, sk⟩ := s
 dsimp only at hnn hsn ⊢
 have HT := hid ht
 have HNC := hid hnn
 have HNR := hid hsn
 clear ht hnn hsn
 have hA : Below w.heap.size w (((w.alloc (.cells #[.int .i64 k, .string nm, .slice na nn nc, .slice sa sn sc, .bool dn, .int .i64 ct, .int .i64 sk] 44)).alloc (.cells #[.int .i64 0, .string ⟨#[]⟩, .slice none 0 0, .slice none 0 0, .bool false, .int .i64 0, .int .i64 0] 55)).alloc (.cells #[.int .i64 k, .string nm, .slice none 0 0, .slice none 0 0, .bool false, .int .i64 0, .int .i64 0] 55)) :=
  (((Below.refl _ _).alloc (Nat.le_refl _) _).alloc (by simp) _).alloc (by simp; omega) _
 go_enter Tryz.func21, Tryz.ntmps21
 go_wp2_with fail
 refine (tostrV nn na nc N HNC.out _ (w.heap.size + 1 + 1 + 1) (by simp) (HT.out.below hA).names hc1).mono ?_
 rintro e w1 ⟨rfl, own1, hb1⟩
 have hx1 := chain hA hb1
 obtain ⟨hc, hf⟩ := bcell hb1
 have z : w1.cell? ⟨w.heap.size, 3, none⟩ = some (.slice sa sn sc) ∧ w1.cell? ⟨w.heap.size, 4, none⟩ = some (.bool dn) ∧ w1.cell? ⟨w.heap.size, 5, none⟩ = some (.int .i64 ct) ∧ w1.cell? ⟨w.heap.size, 6, none⟩ = some (.int .i64 sk) := by
  refine ⟨?_, ?_, ?_, ?_⟩ <;> (rw [hc _ _ (by first | (simp; done) | (simp; omega))]; rw [World.cell?_alloc_past _ _ _ (by first | (simp; done) | (simp; omega)), World.cell?_alloc_past _ _ _ (by first | (simp; done) | (simp; omega))]; simp)
 have q : (w1.cell? ⟨w.heap.size + 1, 0, none⟩ = some (.int .i64 0) ∧ w1.cell? ⟨w.heap.size + 1, 1, none⟩ = some (.string ⟨#[]⟩) ∧ w1.cell? ⟨w.heap.size + 1, 2, none⟩ = some (.slice none 0 0) ∧ w1.cell? ⟨w.heap.size + 1, 3, none⟩ = some (.slice none 0 0) ∧ w1.cell? ⟨w.heap.size + 1, 4, none⟩ = some (.bool false) ∧ w1.cell? ⟨w.heap.size + 1, 5, none⟩ = some (.int .i64 0) ∧ w1.cell? ⟨w.heap.size + 1, 6, none⟩ = some (.int .i64 0)) ∧ (w1.frozen? ⟨w.heap.size + 1, 0, none⟩ = false ∧ w1.frozen? ⟨w.heap.size + 1, 1, none⟩ = false ∧ w1.frozen? ⟨w.heap.size + 1, 2, none⟩ = false ∧ w1.frozen? ⟨w.heap.size + 1, 3, none⟩ = false ∧ w1.frozen? ⟨w.heap.size + 1, 4, none⟩ = false ∧ w1.frozen? ⟨w.heap.size + 1, 5, none⟩ = false ∧ w1.frozen? ⟨w.heap.size + 1, 6, none⟩ = false) := by
  refine ⟨⟨?_, ?_, ?_, ?_, ?_, ?_, ?_⟩, ?_, ?_, ?_, ?_, ?_, ?_, ?_⟩ <;> first | (rw [hc _ _ (by first | (simp; done) | (simp; omega))]; simp; done) | (rw [hf _ _ (by first | (simp; done) | (simp; omega))]; simp; done)
 have p : (w1.cell? ⟨w.heap.size + 1 + 1, 0, none⟩ = some (.int .i64 k) ∧ w1.cell? ⟨w.heap.size + 1 + 1, 1, none⟩ = some (.string nm) ∧ w1.cell? ⟨w.heap.size + 1 + 1, 2, none⟩ = some (.slice none 0 0) ∧ w1.cell? ⟨w.heap.size + 1 + 1, 3, none⟩ = some (.slice none 0 0) ∧ w1.cell? ⟨w.heap.size + 1 + 1, 4, none⟩ = some (.bool false) ∧ w1.cell? ⟨w.heap.size + 1 + 1, 5, none⟩ = some (.int .i64 0) ∧ w1.cell? ⟨w.heap.size + 1 + 1, 6, none⟩ = some (.int .i64 0)) ∧ (w1.frozen? ⟨w.heap.size + 1 + 1, 0, none⟩ = false ∧ w1.frozen? ⟨w.heap.size + 1 + 1, 1, none⟩ = false ∧ w1.frozen? ⟨w.heap.size + 1 + 1, 2, none⟩ = false ∧ w1.frozen? ⟨w.heap.size + 1 + 1, 3, none⟩ = false ∧ w1.frozen? ⟨w.heap.size + 1 + 1, 4, none⟩ = false ∧ w1.frozen? ⟨w.heap.size + 1 + 1, 5, none⟩ = false ∧ w1.frozen? ⟨w.heap.size + 1 + 1, 6, none⟩ = false) := by
  refine ⟨⟨?_, ?_, ?_, ?_, ?_, ?_, ?_⟩, ?_, ?_, ?_, ?_, ?_, ?_, ?_⟩ <;> first | (rw [hc _ _ (by first | (simp; done) | (simp; omega))]; simp; done) | (rw [hf _ _ (by first | (simp; done) | (simp; omega))]; simp; done)
 have hs1 : w.heap.size + 1 + 1 + 1 < w1.heap.size := (own1.lt _ rfl).2
 have OW1 := hid own1
 clear hc hf hb1 own1 hA
 obtain ⟨z3, z4, z5, z6⟩ := id z
 obtain ⟨⟨q0, q1, q2, q3, q4, q5, q6⟩, f0, f1, f2, f3, f4, f5, f6⟩ := id q
 obtain ⟨⟨p0, p1, p2, p3, p4, p5, p6⟩, e0, e1, e2, e3, e4, e5, e6⟩ := id p
 obtain ⟨v1, hv1⟩ : ∃ v, v = Value.slice (some ⟨w.heap.size + 1 + 1 + 1, 0, none⟩) nn nn := ⟨_, rfl⟩
 have hxW : Below w.heap.size w (w1.setCell ⟨w.heap.size + 1 + 1, 2, none⟩ v1) := hx1.setCell (p := ⟨w.heap.size + 1 + 1, 2, none⟩) (by show _ ≤ w.heap.size + 1 + 1; omega) _
 go_wp2_with fail
 rw [← hv1]
 refine (tosItmN sn sa sc S HNR.out _ w1.heap.size (by simp) (HT.out.below hxW).sum hr1).mono ?_
 rintro e w2 ⟨rfl, own2, hb2⟩
 have hx2 := chain hxW hb2
 have hs2 := hb2.size
 simp at hs2
 obtain ⟨hc, hf⟩ := bcell hb2
 have z' : w2.cell? ⟨w.heap.size, 4, none⟩ = some (.bool dn) ∧ w2.cell? ⟨w.heap.size, 5, none⟩ = some (.int .i64 ct) ∧ w2.cell? ⟨w.heap.size, 6, none⟩ = some (.int .i64 sk) := ⟨by rw [hc _ _ (by simp; omega), cell_far _ _ _ _ _ _ (by omega)]; exact z4, by rw [hc _ _ (by simp; omega), cell_far _ _ _ _ _ _ (by omega)]; exact z5, by rw [hc _ _ (by simp; omega), cell_far _ _ _ _ _ _ (by omega)]; exact z6⟩
 have p' : (w2.cell? ⟨w.heap.size + 1 + 1, 0, none⟩ = some (.int .i64 k) ∧ w2.cell? ⟨w.heap.size + 1 + 1, 1, none⟩ = some (.string nm) ∧ w2.cell? ⟨w.heap.size + 1 + 1, 2, none⟩ = some (v1) ∧ w2.cell? ⟨w.heap.size + 1 + 1, 3, none⟩ = some (.slice none 0 0) ∧ w2.cell? ⟨w.heap.size + 1 + 1, 4, none⟩ = some (.bool false) ∧ w2.cell? ⟨w.heap.size + 1 + 1, 5, none⟩ = some (.int .i64 0) ∧ w2.cell? ⟨w.heap.size + 1 + 1, 6, none⟩ = some (.int .i64 0)) ∧ (w2.frozen? ⟨w.heap.size + 1 + 1, 0, none⟩ = false ∧ w2.frozen? ⟨w.heap.size + 1 + 1, 1, none⟩ = false ∧ w2.frozen? ⟨w.heap.size + 1 + 1, 2, none⟩ = false ∧ w2.frozen? ⟨w.heap.size + 1 + 1, 3, none⟩ = false ∧ w2.frozen? ⟨w.heap.size + 1 + 1, 4, none⟩ = false ∧ w2.frozen? ⟨w.heap.size + 1 + 1, 5, none⟩ = false ∧ w2.frozen? ⟨w.heap.size + 1 + 1, 6, none⟩ = false) := ⟨⟨by rw [hc _ _ (by simp; omega), cell_off _ _ _ _ _ (by omega)]; exact p0, by rw [hc _ _ (by simp; omega), cell_off _ _ _ _ _ (by omega)]; exact p1, by rw [hc _ _ (by simp; omega), cell_here _ _ _ _ (by rw [p2]; rfl)], by rw [hc _ _ (by simp; omega), cell_off _ _ _ _ _ (by omega)]; exact p3, by rw [hc _ _ (by simp; omega), cell_off _ _ _ _ _ (by omega)]; exact p4, by rw [hc _ _ (by simp; omega), cell_off _ _ _ _ _ (by omega)]; exact p5, by rw [hc _ _ (by simp; omega), cell_off _ _ _ _ _ (by omega)]; exact p6⟩, by rw [hf _ _ (by simp; omega)]; simpa using e0, by rw [hf _ _ (by simp; omega)]; simpa using e1, by rw [hf _ _ (by simp; omega)]; simpa using e2, by rw [hf _ _ (by simp; omega)]; simpa using e3, by rw [hf _ _ (by simp; omega)]; simpa using e4, by rw [hf _ _ (by simp; omega)]; simpa using e5, by rw [hf _ _ (by simp; omega)]; simpa using e6⟩
 have q' : (w2.cell? ⟨w.heap.size + 1, 0, none⟩ = some (.int .i64 0) ∧ w2.cell? ⟨w.heap.size + 1, 1, none⟩ = some (.string ⟨#[]⟩) ∧ w2.cell? ⟨w.heap.size + 1, 2, none⟩ = some (.slice none 0 0) ∧ w2.cell? ⟨w.heap.size + 1, 3, none⟩ = some (.slice none 0 0) ∧ w2.cell? ⟨w.heap.size + 1, 4, none⟩ = some (.bool false) ∧ w2.cell? ⟨w.heap.size + 1, 5, none⟩ = some (.int .i64 0) ∧ w2.cell? ⟨w.heap.size + 1, 6, none⟩ = some (.int .i64 0)) ∧ (w2.frozen? ⟨w.heap.size + 1, 0, none⟩ = false ∧ w2.frozen? ⟨w.heap.size + 1, 1, none⟩ = false ∧ w2.frozen? ⟨w.heap.size + 1, 2, none⟩ = false ∧ w2.frozen? ⟨w.heap.size + 1, 3, none⟩ = false ∧ w2.frozen? ⟨w.heap.size + 1, 4, none⟩ = false ∧ w2.frozen? ⟨w.heap.size + 1, 5, none⟩ = false ∧ w2.frozen? ⟨w.heap.size + 1, 6, none⟩ = false) := ⟨⟨by rw [hc _ _ (by simp; omega), cell_far _ _ _ _ _ _ (by omega)]; exact q0, by rw [hc _ _ (by simp; omega), cell_far _ _ _ _ _ _ (by omega)]; exact q1, by rw [hc _ _ (by simp; omega), cell_far _ _ _ _ _ _ (by omega)]; exact q2, by rw [hc _ _ (by simp; omega), cell_far _ _ _ _ _ _ (by omega)]; exact q3, by rw [hc _ _ (by simp; omega), cell_far _ _ _ _ _ _ (by omega)]; exact q4, by rw [hc _ _ (by simp; omega), cell_far _ _ _ _ _ _ (by omega)]; exact q5, by rw [hc _ _ (by simp; omega), cell_far _ _ _ _ _ _ (by omega)]; exact q6⟩, by rw [hf _ _ (by simp; omega)]; simpa using f0, by rw [hf _ _ (by simp; omega)]; simpa using f1, by rw [hf _ _ (by simp; omega)]; simpa using f2, by rw [hf _ _ (by simp; omega)]; simpa using f3, by rw [hf _ _ (by simp; omega)]; simpa using f4, by rw [hf _ _ (by simp; omega)]; simpa using f5, by rw [hf _ _ (by simp; omega)]; simpa using f6⟩
 have K1 : Keep (w.heap.size + 1 + 1) w1 (w1.setCell ⟨w.heap.size + 1 + 1, 2, none⟩ v1) := (Keep.refl (w.heap.size + 1 + 1) w1).setCell (p := ⟨w.heap.size + 1 + 1, 2, none⟩) (Or.inl rfl) _
 have hw12 : w1.heap.size < w2.heap.size := (own2.lt _ rfl).2
 have N2 : Hid (NewSiv w2 w.heap.size (w.heap.size + 1 + 1 + 1) w1.heap.size ⟨k, nm, N, S, dn, ct, sk⟩) := by
  have : NewSiv w2 w.heap.size (w.heap.size + 1 + 1 + 1) w1.heap.size ⟨k, nm, N, S, dn, ct, sk⟩ :=
   ⟨by omega, own_keepV OW1.out (by omega) ((hb2.block _ (by simp; exact hs1)).trans (K1.block _ hs1 (by omega))), hs1, own_keepV own2 (by omega) rfl⟩
  exact this
 clear hc hf hb2 own2 OW1 K1 p q z q0 q1 q2 q3 q4 q5 q6 f0 f1 f2 f3 f4 f5 f6 p0 p1 p2 p3 p4 p5 p6 e0 e1 e2 e3 e4 e5 e6 z3 z4 z5 z6
 obtain ⟨z4, z5, z6⟩ := z'
 obtain ⟨⟨q0, q1, q2, q3, q4, q5, q6⟩, f0, f1, f2, f3, f4, f5, f6⟩ := q'
 obtain ⟨⟨p0, p1, p2, p3, p4, p5, p6⟩, e0, e1, e2, e3, e4, e5, e6⟩ := p'
 clear hs2 hw12 hs1
 subst hv1
 go_wp2
 obtain ⟨t0, t1, t2, t3, t4, t5, t6⟩ := seven (w := ((((w2.setCell ⟨w.heap.size + 1 + 1, 3, none⟩ (.slice (some ⟨w1.heap.size, 0, none⟩) sn sn)).setCell ⟨w.heap.size + 1 + 1, 4, none⟩ (.bool dn)).setCell ⟨w.heap.size + 1 + 1, 5, none⟩ (.int .i64 ct)).setCell ⟨w.heap.size + 1 + 1, 6, none⟩ (.int .i64 sk))) (b := w.heap.size + 1) (.int .i64 k) (.string nm) (.slice (some ⟨w.heap.size + 1 + 1 + 1, 0, none⟩) nn nn) (.slice (some ⟨w1.heap.size, 0, none⟩) sn sn) (.bool dn) (.int .i64 ct) (.int .i64 sk) (by rw [cell_far _ _ _ _ _ _ (by omega), cell_far _ _ _ _ _ _ (by omega), cell_far _ _ _ _ _ _ (by omega), cell_far _ _ _ _ _ _ (by omega)]; exact q0) (by rw [cell_far _ _ _ _ _ _ (by omega), cell_far _ _ _ _ _ _ (by omega), cell_far _ _ _ _ _ _ (by omega), cell_far _ _ _ _ _ _ (by omega)]; exact q1) (by rw [cell_far _ _ _ _ _ _ (by omega), cell_far _ _ _ _ _ _ (by omega), cell_far _ _ _ _ _ _ (by omega), cell_far _ _ _ _ _ _ (by omega)]; exact q2) (by rw [cell_far _ _ _ _ _ _ (by omega), cell_far _ _ _ _ _ _ (by omega), cell_far _ _ _ _ _ _ (by omega), cell_far _ _ _ _ _ _ (by omega)]; exact q3) (by rw [cell_far _ _ _ _ _ _ (by omega), cell_far _ _ _ _ _ _ (by omega), cell_far _ _ _ _ _ _ (by omega), cell_far _ _ _ _ _ _ (by omega)]; exact q4) (by rw [cell_far _ _ _ _ _ _ (by omega), cell_far _ _ _ _ _ _ (by omega), cell_far _ _ _ _ _ _ (by omega), cell_far _ _ _ _ _ _ (by omega)]; exact q5) (by rw [cell_far _ _ _ _ _ _ (by omega), cell_far _ _ _ _ _ _ (by omega), cell_far _ _ _ _ _ _ (by omega), cell_far _ _ _ _ _ _ (by omega)]; exact q6)
 obtain ⟨WF, hWF⟩ : ∃ W, W = (((((((((((w2.setCell ⟨w.heap.size + 1 + 1, 3, none⟩ (.slice (some ⟨w1.heap.size, 0, none⟩) sn sn)).setCell ⟨w.heap.size + 1 + 1, 4, none⟩ (.bool dn)).setCell ⟨w.heap.size + 1 + 1, 5, none⟩ (.int .i64 ct)).setCell ⟨w.heap.size + 1 + 1, 6, none⟩ (.int .i64 sk)).setCell ⟨w.heap.size + 1, 0, none⟩ (.int .i64 k)).setCell ⟨w.heap.size + 1, 1, none⟩ (.string nm)).setCell ⟨w.heap.size + 1, 2, none⟩ (.slice (some ⟨w.heap.size + 1 + 1 + 1, 0, none⟩) nn nn)).setCell ⟨w.heap.size + 1, 3, none⟩ (.slice (some ⟨w1.heap.size, 0, none⟩) sn sn)).setCell ⟨w.heap.size + 1, 4, none⟩ (.bool dn)).setCell ⟨w.heap.size + 1, 5, none⟩ (.int .i64 ct)).setCell ⟨w.heap.size + 1, 6, none⟩ (.int .i64 sk)) := ⟨_, rfl⟩
 rw [← hWF] at t0 t1 t2 t3 t4 t5 t6 ⊢
 have hxF : Below w.heap.size w WF := by
  rw [hWF]
  exact (((((((((((hx2.setCell (p := ⟨w.heap.size + 1 + 1, 3, none⟩) (show w.heap.size ≤ w.heap.size + 1 + 1 by omega) _).setCell (p := ⟨w.heap.size + 1 + 1, 4, none⟩) (show w.heap.size ≤ w.heap.size + 1 + 1 by omega) _).setCell (p := ⟨w.heap.size + 1 + 1, 5, none⟩) (show w.heap.size ≤ w.heap.size + 1 + 1 by omega) _).setCell (p := ⟨w.heap.size + 1 + 1, 6, none⟩) (show w.heap.size ≤ w.heap.size + 1 + 1 by omega) _).setCell (p := ⟨w.heap.size + 1, 0, none⟩) (show w.heap.size ≤ w.heap.size + 1 by omega) _).setCell (p := ⟨w.heap.size + 1, 1, none⟩) (show w.heap.size ≤ w.heap.size + 1 by omega) _).setCell (p := ⟨w.heap.size + 1, 2, none⟩) (show w.heap.size ≤ w.heap.size + 1 by omega) _).setCell (p := ⟨w.heap.size + 1, 3, none⟩) (show w.heap.size ≤ w.heap.size + 1 by omega) _).setCell (p := ⟨w.heap.size + 1, 4, none⟩) (show w.heap.size ≤ w.heap.size + 1 by omega) _).setCell (p := ⟨w.heap.size + 1, 5, none⟩) (show w.heap.size ≤ w.heap.size + 1 by omega) _).setCell (p := ⟨w.heap.size + 1, 6, none⟩) (show w.heap.size ≤ w.heap.size + 1 by omega) _)
 have hKF : KeepS (fun b => b = w.heap.size + 1 ∨ b = w.heap.size + 1 + 1) w2 WF := by
  rw [hWF]
  exact ((((((((((((KeepS.refl (fun b => b = w.heap.size + 1 ∨ b = w.heap.size + 1 + 1) w2).setCell (p := ⟨w.heap.size + 1 + 1, 3, none⟩) (Or.inr rfl) _).setCell (p := ⟨w.heap.size + 1 + 1, 4, none⟩) (Or.inr rfl) _).setCell (p := ⟨w.heap.size + 1 + 1, 5, none⟩) (Or.inr rfl) _).setCell (p := ⟨w.heap.size + 1 + 1, 6, none⟩) (Or.inr rfl) _).setCell (p := ⟨w.heap.size + 1, 0, none⟩) (Or.inl rfl) _).setCell (p := ⟨w.heap.size + 1, 1, none⟩) (Or.inl rfl) _).setCell (p := ⟨w.heap.size + 1, 2, none⟩) (Or.inl rfl) _).setCell (p := ⟨w.heap.size + 1, 3, none⟩) (Or.inl rfl) _).setCell (p := ⟨w.heap.size + 1, 4, none⟩) (Or.inl rfl) _).setCell (p := ⟨w.heap.size + 1, 5, none⟩) (Or.inl rfl) _).setCell (p := ⟨w.heap.size + 1, 6, none⟩) (Or.inl rfl) _)
 clear hWF
 refine bodyPost_ret (v := .agg #[.int .i64 k, .string nm, .slice (some ⟨w.heap.size + 1 + 1 + 1, 0, none⟩) nn nn, .slice (some ⟨w1.heap.size, 0, none⟩) sn sn, .bool dn, .int .i64 ct, .int .i64 sk]) (by simp [results, Tryz.results21, go_sem, t0, t1, t2, t3, t4, t5, t6]) rfl ⟨w.heap.size + 1 + 1 + 1, w1.heap.size, rfl, N2.out.keepS hKF (fun b hb => by omega), hxF⟩
end Go.Proofs.YtjjkdbmjloolaaaGreatDoor
