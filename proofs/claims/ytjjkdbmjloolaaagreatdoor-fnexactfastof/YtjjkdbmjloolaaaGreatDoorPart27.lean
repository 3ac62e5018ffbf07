/-
  A part of the proof: Tab3, Strs2, OutTab, Box.
-/
import Derived.Test.YtjjkdbmjloolaaaGreatDoorPart1
import Derived.Test.YtjjkdbmjloolaaaGreatDoorPart10
import Derived.Test.YtjjkdbmjloolaaaGreatDoorPart26
import Derived.Test.YtjjkdbmjloolaaaGreatDoorPart3
import Derived.Test.YtjjkdbmjloolaaaGreatDoorPart2

namespace Go.Proofs.YtjjkdbmjloolaaaGreatDoor
open Go.ChangeShapes Go.WideShapes Go.ChangeAt Go.RowKit
attribute [local go_sem ↓] Go.wp_at_zero Go.wp_at_succ
attribute [local simp] World.cell?_alloc_past World.cell?_alloc_at World.frozen?_alloc_at cell_far cell_off cell_here World.frozen?_alloc_past
theorem Taken.lies {w : World} {g : Nat} {L : List (List CT)} {G : Nat → Nat} (h : Taken w g L G L.length) (hf : ∀ i (hi : i < L.length), Fit L[i]) (hm : ∀ i (hi : i < L.length), L[i].length ≤ maxLen) : RowsAt w (some ⟨g, 0, none⟩) L := by
 intro i hi
 obtain ⟨h1, h2, _⟩ := h.rows i hi hi
 exact ⟨g, 0, _, _, rfl, h.lt, by rw [Nat.zero_add]; exact h1, h2, hf i hi, hm i hi, fun e => by cases e⟩
theorem Taken.low {w w' : World} {g : Nat} {L : List (List CT)} {G : Nat → Nat} (h : Taken w g L G L.length) (hs : w.heap.size ≤ w'.heap.size) (hk : ∀ k, g ≤ k → k < w.heap.size → w'.heap[k]? = w.heap[k]?) : Taken w' g L G L.length where
 lt := Nat.lt_of_lt_of_le h.lt hs
 there := fun i hi => by rw [World.cell?_of_block (a := ⟨g, i, none⟩) (hk g (Nat.le_refl _) h.lt)]; exact h.there i hi
 free := fun i hi => by rw [World.frozen?_of_block (a := ⟨g, i, none⟩) (hk g (Nat.le_refl _) h.lt)]; exact h.free i hi
 bounds := fun i hi => ⟨(h.bounds i hi).1, Nat.lt_of_lt_of_le (h.bounds i hi).2 hs⟩
 rises := h.rises
 rows := fun i hi hm => by
  obtain ⟨h1, h2, h3⟩ := h.rows i hi hm
  have hb := h.bounds i hm
  have e := hk (G i) (by omega) hb.2
  refine ⟨by rw [World.cell?_of_block (a := ⟨g, i, none⟩) (hk g (Nat.le_refl _) h.lt)]; exact h1, ?_, ?_⟩
  · intro j hj
   obtain ⟨b, o, ha, hlt, c0, c1, c2⟩ := h2 j hj
   simp only [Option.some.injEq, Addr.mk.injEq, and_true] at ha
   obtain ⟨rfl, rfl⟩ := ha
   exact ⟨_, _, rfl, Nat.lt_of_lt_of_le hlt hs, by rw [World.cell?_of_block (a := ⟨G i, _, none⟩) e]; exact c0, by rw [World.cell?_of_block (a := ⟨G i, _, none⟩) e]; exact c1, by rw [World.cell?_of_block (a := ⟨G i, _, none⟩) e]; exact c2⟩
  · intro b o ha j hj
   cases ha
   rw [World.frozen?_of_block (a := ⟨G i, _, none⟩) e]
   exact h3 _ _ rfl j hj
end Go.Proofs.YtjjkdbmjloolaaaGreatDoor
namespace Go.Proofs.YtjjkdbmjloolaaaGreatDoor
open Go.ChangeShapes Go.WideShapes Go.ChangeAt Go.RowKit
attribute [local go_sem ↓] Go.wp_at_zero Go.wp_at_succ
def marksS (k n : Nat) : List ByteArray := (List.range n).map fun i => mt (k + i)
theorem marksS_length (k n : Nat) : (marksS k n).length = n := by simp [marksS]
theorem marksS_step (k : Nat) (l : List ByteArray) (i : Nat) (h : i < l.length) : (marksS k i ++ l.drop i).set i (mt (k + i)) = marksS k (i + 1) ++ l.drop (i + 1) := by
 rw [List.set_append_right _ _ (by rw [marksS_length]; omega), marksS_length, Nat.sub_self]
 have e : l.drop i = l[i] :: l.drop (i + 1) := List.drop_eq_getElem_cons h
 rw [e, List.set_cons_zero]
 simp [marksS, List.range_succ]
def FreeS (w : World) (a : Option Addr) (n : Nat) : Prop := ∀ b o, a = some ⟨b, o, none⟩ → ∀ j, j < n → w.frozen? ⟨b, o + j, none⟩ = false
theorem StrsAt.upd {w w' : World} {b o : Nat} {l : List ByteArray} {i : Nat} {x : ByteArray} (h : StrsAt w (some ⟨b, o, none⟩) l) (hs : w.heap.size ≤ w'.heap.size)
  (hfar : ∀ q, q ≠ o + i → w'.cell? ⟨b, q, none⟩ = w.cell? ⟨b, q, none⟩) (h0 : w'.cell? ⟨b, o + i, none⟩ = some (.string x)) : StrsAt w' (some ⟨b, o, none⟩) (l.set i x) := by
 intro j hj
 have hj' : j < l.length := by simpa using hj
 obtain ⟨b', o', e, hlt, c0⟩ := h j hj'
 cases e
 refine ⟨b, o, rfl, Nat.lt_of_lt_of_le hlt hs, ?_⟩
 by_cases hij : i = j
 · subst hij
  rw [List.getElem_set_self]; exact h0
 · rw [List.getElem_set_ne hij, hfar _ (by omega)]; exact c0
theorem FreeS.upd {w w' : World} {a : Option Addr} {n : Nat} (h : FreeS w a n) (hf : ∀ b o q, a = some ⟨b, o, none⟩ → w'.frozen? ⟨b, q, none⟩ = w.frozen? ⟨b, q, none⟩) : FreeS w' a n :=
 fun b o e j hj => by rw [hf b o _ e]; exact h b o e j hj
theorem StrsAt.keepS {P : Nat → Prop} {w w' : World} {a : Option Addr} {l : List ByteArray} (h : StrsAt w a l) (hk : KeepS P w w') (hP : ∀ b, inBlk a l.length b → ¬ P b) : StrsAt w' a l := by
 intro j hj
 obtain ⟨b, o, ha, hlt, h0⟩ := h j hj
 exact ⟨b, o, ha, Nat.lt_of_lt_of_le hlt hk.size, by rw [hk.cell hlt (hP b ⟨by omega, o, ha⟩)]; exact h0⟩
set_option maxHeartbeats 2000000 in
theorem markstr_laws (a : Option Addr) (cap : Nat) (l : List ByteArray) (k : Nat) (w : World) (hrow : StrsAt w a l) (hfree : FreeS w a l.length) (h0 : 0 < k) (h1 : k + l.length ≤ 1099511627776) :
  Calls Tryz.prog 13 #[.slice a l.length cap, .int .i64 k] w fun e w' => e = .returned (.int .i64 ((k + l.length : Nat) : Int)) ∧ StrsAt w' a (marksS k l.length) ∧ FreeS w' a l.length ∧ KeepS (inBlk a l.length) w w' := by
 have hR := hid hrow
 have hF := hid hfree
 clear hrow hfree
 go_enter Tryz.func13, Tryz.ntmps13
 go_wp2
 go_loopw [1, 5] (fun s i wr => ∃ m : Nat, m ≤ l.length ∧ i = .int .i64 m ∧ s = .int .i64 ((k + m : Nat) : Int) ∧ Hid (StrsAt wr a (marksS k m ++ l.drop m)) ∧ Hid (FreeS wr a l.length) ∧ KeepS (inBlk a l.length) w wr)
  (fun _ i _ => l.length - (intOf i).toNat)
 case atStart => exact ⟨0, Nat.zero_le _, rfl, by simp, by simpa [marksS] using hR, hF, KeepS.refl _ _⟩
 case round =>
  obtain ⟨m, hm, rfl, rfl, hr, hf, hkp⟩ := hrel
  by_cases hlt : m < l.length
  · have hl2 : m < (marksS k m ++ l.drop m).length := by rw [List.length_append, marksS_length, List.length_drop]; omega
   obtain ⟨b, o, rfl, hbw, c0⟩ := hr.out m hl2
   generalize (marksS k m ++ l.drop m)[m] = x at c0
   have hi0 : (0 : Int) ≤ (m : Int) := by omega
   have hi1 : (m : Int) < (l.length : Int) := by omega
   have f0 := hf.out b o rfl m hlt
   go_wp2_with fail
   refine (text_lawsN (k + m) _ (by omega) _ (by omega) (by omega)).mono ?_
   rintro e w2 ⟨rfl, hb2⟩
   have g0 : w2.cell? ⟨b, o + m, none⟩ = some (.string x) := by rw [hb2.cell (p := ⟨b, o + m, none⟩) hbw]; exact c0
   have e0 : w2.frozen? ⟨b, o + m, none⟩ = false := by rw [hb2.frozen (p := ⟨b, o + m, none⟩) hbw]; exact f0
   go_wp2
   go_roundw
   case rel =>
    refine ⟨m + 1, by omega, by go_num, by go_num, ?_, ?_, ?_⟩
    · show StrsAt _ _ _
     rw [← marksS_step k l m hlt]
     refine hr.out.upd (by simpa using hb2.size) ?_ ?_
     · intro q q0
      rw [cell_off _ _ _ _ _ q0, hb2.cell (p := ⟨b, q, none⟩) hbw]
     · rw [cell_here _ _ _ _ (by rw [g0]; rfl)]
    · show FreeS _ _ _
     refine hf.out.upd ?_
     intro b' o' q e
     cases e
     rw [World.frozen?_setCell, hb2.frozen (p := ⟨b, q, none⟩) hbw]
    · exact (hkp.trans (KeepS.ofBelow hb2)).setCell (p := ⟨b, o + m, none⟩) ⟨by omega, o, rfl⟩ _
   case measure => simp [intOf]; omega
  · have hkl : m = l.length := by omega
   subst hkl
   rw [List.drop_length, List.append_nil] at hr
   go_wp2
   go_ret
   exact ⟨rfl, hr.out, hf.out, hkp⟩
end Go.Proofs.YtjjkdbmjloolaaaGreatDoor
namespace Go.Proofs.YtjjkdbmjloolaaaGreatDoor
open Go.ChangeShapes Go.WideShapes Go.ChangeAt Go.RowKit
attribute [local go_sem ↓] Go.wp_at_zero Go.wp_at_succ
attribute [local simp] World.cell?_alloc_past World.cell?_alloc_at World.frozen?_alloc_at cell_far cell_off cell_here World.frozen?_alloc_past
theorem FreeS.keepS {P : Nat → Prop} {w w' : World} {a : Option Addr} {l : List ByteArray} (hf : FreeS w a l.length) (h : StrsAt w a l) (hk : KeepS P w w') (hP : ∀ b, inBlk a l.length b → ¬ P b) : FreeS w' a l.length := by
 intro b o ha j hj
 obtain ⟨b', o', ha', hlt, _⟩ := h j hj
 rw [ha] at ha'
 cases ha'
 rw [hk.frozen hlt (hP b ⟨by omega, o, ha⟩)]
 exact hf b o ha j hj
theorem HeadsAt.keepN {P : Nat → Prop} {w w' : World} {a : Option Addr} {L : List (List CT)} {A : Nat → Option Addr} {C : Nat → Nat} (h : HeadsAt w a L A C) (hk : KeepS P w w') (hP : ∀ b o, 0 < L.length → a = some ⟨b, o, none⟩ → ¬ P b) : HeadsAt w' a L A C := by
 intro i hi
 obtain ⟨b, o, ha, hlt, h0⟩ := h i hi
 exact ⟨b, o, ha, Nat.lt_of_lt_of_le hlt hk.size, by rw [hk.cell hlt (hP b o (by omega) ha)]; exact h0⟩
theorem Marked.keep0 {P : Nat → Prop} {w w' : World} {L : List (List CT)} {A : Nat → Option Addr} {k : Nat} (h : Marked w L A k 0) (hk : KeepS P w w') (hP : ∀ b, rowBlks L A b → ¬ P b) : Marked w' L A k 0 := by
 intro j hj
 obtain ⟨_, h2, h3⟩ := h j hj
 have hq : ∀ b, inBlk (A j) L[j].length b → ¬ P b := fun b hb => hP b ⟨j, hj, hb⟩
 exact ⟨fun hlt => by omega, fun _ => (h2 (Nat.zero_le _)).keepS hk hq, h3.keepS (h2 (Nat.zero_le _)) hk hq⟩
theorem Marked.keepL {P : Nat → Prop} {w w' : World} {L : List (List CT)} {A : Nat → Option Addr} {k : Nat} (h : Marked w L A k L.length) (hk : KeepS P w w') (hP : ∀ b, rowBlks L A b → ¬ P b) : Marked w' L A k L.length := by
 intro j hj
 obtain ⟨h1, _, h3⟩ := h j hj
 have hq : ∀ b, inBlk (A j) L[j].length b → ¬ P b := fun b hb => hP b ⟨j, hj, hb⟩
 refine ⟨fun _ => (h1 hj).keepS hk (by rw [marks_length]; exact hq), fun hle => by omega, ?_⟩
 have := Free.keepS (l := marks (k + 3 * offs L j) L[j].length) (by rw [marks_length]; exact h3) (h1 hj) hk (by rw [marks_length]; exact hq)
 rwa [marks_length] at this
def tabBlks (ca ra : Option Addr) (t : TB) (A : Nat → Option Addr) (b : Nat) : Prop :=
 inBlk ca t.2.1.length b ∨ rowBlks t.2.2 A b ∨ (0 < t.2.2.length ∧ ∃ o, ra = some ⟨b, o, none⟩)
structure OutTab (w : World) (base : Nat) (ca : Option Addr) (cc : Nat) (ra : Option Addr) (t : TB) (A : Nat → Option Addr) (C : Nat → Nat) : Prop where
 cols : StrsAt w ca t.2.1
 fit : FitS t.2.1
 len : t.2.1.length ≤ maxLen
 cap : t.2.1.length ≤ cc
 nilC : ca = none → cc = 0
 lenR : t.2.2.length ≤ maxLen
 name : t.1.size ≤ maxLen
 fitR : ∀ i (hi : i < t.2.2.length), Fit t.2.2[i]
 lenL : ∀ i (hi : i < t.2.2.length), t.2.2[i].length ≤ maxLen
 nilR : ∀ i, A i = none → C i = 0
 free : FreeS w ca t.2.1.length
 heads : HeadsAt w ra t.2.2 A C
 un : ∀ k, Marked w t.2.2 A k 0
 ap : Apart ra t.2.2 A
 colR : ∀ b, inBlk ca t.2.1.length b → ¬ rowBlks t.2.2 A b
 colH : ∀ b, inBlk ca t.2.1.length b → 0 < t.2.2.length → ∀ o, ra ≠ some ⟨b, o, none⟩
 lo : ∀ b, tabBlks ca ra t A b → base ≤ b
theorem OutTab.tab {w : World} {base : Nat} {ca : Option Addr} {cc : Nat} {ra : Option Addr} {t : TB} {A : Nat → Option Addr} {C : Nat → Nat} (h : OutTab w base ca cc ra t A C) : TabAt w ca cc ra t := by
 refine ⟨h.cols, h.fit, h.len, h.cap, h.nilC, ?_, h.lenR, h.name⟩
 intro i hi
 obtain ⟨b, o, e, hlt, c0⟩ := h.heads i hi
 exact ⟨b, o, A i, C i, e, hlt, c0, (h.un 0 i hi).2.1 (Nat.zero_le _), h.fitR i hi, h.lenL i hi, h.nilR i⟩
theorem OutTab.keepS {w w' : World} {P : Nat → Prop} {base : Nat} {ca : Option Addr} {cc : Nat} {ra : Option Addr} {t : TB} {A : Nat → Option Addr} {C : Nat → Nat} (h : OutTab w base ca cc ra t A C) (hk : KeepS P w w') (hP : ∀ b, tabBlks ca ra t A b → ¬ P b) : OutTab w' base ca cc ra t A C :=
 ⟨h.cols.keepS hk (fun b hb => hP b (.inl hb)), h.fit, h.len, h.cap, h.nilC, h.lenR, h.name, h.fitR, h.lenL, h.nilR, h.free.keepS h.cols hk (fun b hb => hP b (.inl hb)), h.heads.keepN hk (fun b o h0 e => hP b (.inr (.inr ⟨h0, o, e⟩))),
  fun k => (h.un k).keep0 hk (fun b hb => hP b (.inr (.inl hb))), h.ap, h.colR, h.colH, h.lo⟩
theorem OutTab.below {w w' : World} {base : Nat} {ca : Option Addr} {cc : Nat} {ra : Option Addr} {t : TB} {A : Nat → Option Addr} {C : Nat → Nat} (h : OutTab w base ca cc ra t A C) (hb : Below w.heap.size w w') : OutTab w' base ca cc ra t A C :=
 h.keepS (KeepS.ofBelow (P := fun _ => False) hb) (fun _ _ h => h)
theorem OutTab.lt {w : World} {base : Nat} {ca : Option Addr} {cc : Nat} {ra : Option Addr} {t : TB} {A : Nat → Option Addr} {C : Nat → Nat} (h : OutTab w base ca cc ra t A C) (b : Nat) (hb : tabBlks ca ra t A b) : b < w.heap.size := by
 rcases hb with ⟨h0, o, e⟩ | ⟨i, hi, h0, o, e⟩ | ⟨h0, o, e⟩
 · obtain ⟨b', o', e', hlt, _⟩ := h.cols 0 h0
  rw [e] at e'; cases e'; exact hlt
 · obtain ⟨b', o', e', hlt, _⟩ := (h.un 0 i hi).2.1 (Nat.zero_le _) 0 h0
  rw [e] at e'; cases e'; exact hlt
 · obtain ⟨b', o', e', hlt, _⟩ := h.heads 0 h0
  rw [e] at e'; cases e'; exact hlt
theorem own_freeS {w : World} {base g n c : Nat} {e : TypeId} {xs : List Value} (h : w.ownsRow base e 1 (.slice (some ⟨g, 0, none⟩) n c) n xs) : FreeS w (some ⟨g, 0, none⟩) n := by
 intro b o e j hj
 cases e
 rw [Nat.zero_add]
 exact h.frozenAt j
theorem out_of_own {w : World} {base g c g2 c2 : Nat} {S : TypeId} {t : TB} {G D : Nat → Nat} (hS : S ≠ 142) (hS2 : S ≠ 95) (ho : w.ownsRow base S 1 (.slice (some ⟨g, 0, none⟩) t.2.1.length c) t.2.1.length (strV t.2.1)) (hr : OwnRows w base (.slice (some ⟨g2, 0, none⟩) t.2.2.length c2) t.2.2 G D)
  (hcap : t.2.1.length ≤ c) (hf : FitS t.2.1) (hn : t.1.size ≤ maxLen) (hc : t.2.1.length ≤ maxLen) (hrl : t.2.2.length ≤ maxLen) (hfr : ∀ i (hi : i < t.2.2.length), Fit t.2.2[i]) (hmr : ∀ i (hi : i < t.2.2.length), t.2.2[i].length ≤ maxLen) :
  OutTab w base (some ⟨g, 0, none⟩) c (some ⟨g2, 0, none⟩) t (fun i => some ⟨G i, 0, none⟩) D := by
 refine ⟨own_strs ho, hf, hc, hcap, (fun e => by cases e), hrl, hn, hfr, hmr, (fun i e => by cases e), own_freeS ho, hr.heads, fun k => hr.unmarked k, hr.apartA, ?_, ?_, ?_⟩
 · rintro b ⟨_, o, e⟩ ⟨i, hi, _, o', e'⟩
  cases e
  have := hr.inner i hi
  unfold headOf at this
  refine own_other ho this hS2 ?_
  simp only [Option.some.injEq, Addr.mk.injEq] at e'
  rw [e'.1]; rfl
 · rintro b ⟨_, o, e⟩ _ o' e'
  cases e
  cases e'
  exact own_other ho hr.outer hS rfl
 · rintro b (⟨_, o, e⟩ | hb | ⟨_, o, e⟩)
  · cases e; exact (ho.lt _ rfl).1
  · exact hr.blks _ hb
  · cases e; exact (hr.outer.lt _ rfl).1
structure MarkedT (w : World) (ca ra : Option Addr) (t : TB) (A : Nat → Option Addr) (C : Nat → Nat) (k : Nat) : Prop where
 cols : StrsAt w ca (marksS k t.2.1.length)
 heads : HeadsAt w ra t.2.2 A C
 rows : Marked w t.2.2 A (k + t.2.1.length) t.2.2.length
theorem MarkedT.below {w w' : World} {ca ra : Option Addr} {t : TB} {A : Nat → Option Addr} {C : Nat → Nat} {k : Nat} (h : MarkedT w ca ra t A C k) (hb : Below w.heap.size w w') : MarkedT w' ca ra t A C k :=
 ⟨h.cols.below hb, h.heads.below hb, h.rows.below hb⟩
end Go.Proofs.YtjjkdbmjloolaaaGreatDoor
namespace Go.Proofs.YtjjkdbmjloolaaaGreatDoor
open Go.ChangeShapes Go.WideShapes Go.ChangeAt Go.RowKit
def Box (w : World) (B : Nat) (x y z : Value) : Prop := w.cell? ⟨B, 0, none⟩ = some x ∧ w.cell? ⟨B, 1, none⟩ = some y ∧ w.cell? ⟨B, 2, none⟩ = some z ∧ B < w.heap.size
theorem Box.below {w w' : World} {B : Nat} {x y z : Value} (h : Box w B x y z) (hb : Below w.heap.size w w') : Box w' B x y z := later3 hb h
theorem Box.keepS {w w' : World} {P : Nat → Prop} {B : Nat} {x y z : Value} (h : Box w B x y z) (hk : KeepS P w w') (hn : ¬ P B) : Box w' B x y z :=
 ⟨by rw [hk.cell h.2.2.2 hn]; exact h.1, by rw [hk.cell h.2.2.2 hn]; exact h.2.1, by rw [hk.cell h.2.2.2 hn]; exact h.2.2.1, Nat.lt_of_lt_of_le h.2.2.2 hk.size⟩
structure OutRow (w : World) (g : Nat) (r : List CT) : Prop where
 at_ : RowAt w (some ⟨g, 0, none⟩) r
 free : Free w (some ⟨g, 0, none⟩) r.length
 lt : g < w.heap.size
theorem OutRow.keepS {w w' : World} {P : Nat → Prop} {g : Nat} {r : List CT} (h : OutRow w g r) (hk : KeepS P w w') (hn : ¬ P g) : OutRow w' g r := by
 have hq : ∀ b, inBlk (some ⟨g, 0, none⟩) r.length b → ¬ P b := by
  rintro b ⟨_, o, e⟩
  cases e; exact hn
 exact ⟨h.at_.keepS hk hq, h.free.keepS h.at_ hk hq, Nat.lt_of_lt_of_le h.lt hk.size⟩
theorem OutRow.below {w w' : World} {g : Nat} {r : List CT} (h : OutRow w g r) (hb : Below w.heap.size w w') : OutRow w' g r :=
 h.keepS (KeepS.ofBelow (P := fun _ => False) hb) (fun h => h)
theorem MarkedT.keepS {w w' : World} {P : Nat → Prop} {ca ra : Option Addr} {t : TB} {A : Nat → Option Addr} {C : Nat → Nat} {k : Nat} (h : MarkedT w ca ra t A C k) (hk : KeepS P w w') (hP : ∀ b, tabBlks ca ra t A b → ¬ P b) : MarkedT w' ca ra t A C k :=
 ⟨h.cols.keepS hk (fun b hb => hP b (.inl (by rw [marksS_length] at hb; exact hb))), h.heads.keepN hk (fun b o h0 e => hP b (.inr (.inr ⟨h0, o, e⟩))), h.rows.keepL hk (fun b hb => hP b (.inr (.inl hb)))⟩
end Go.Proofs.YtjjkdbmjloolaaaGreatDoor
