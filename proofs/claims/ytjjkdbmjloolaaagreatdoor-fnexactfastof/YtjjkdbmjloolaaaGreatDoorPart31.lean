/-
  A part of the proof: TabDraw1, TabInI, SumI2, NameMath2, NamesI.
-/
import Derived.Test.YtjjkdbmjloolaaaGreatDoorPart1
import Derived.Test.YtjjkdbmjloolaaaGreatDoorPart29
import Derived.Test.YtjjkdbmjloolaaaGreatDoorPart30
import Derived.Test.YtjjkdbmjloolaaaGreatDoorPart21
import Derived.Test.YtjjkdbmjloolaaaGreatDoorPart6
import Derived.Lib.SlicesCompact
import Derived.Test.YtjjkdbmjloolaaaGreatDoorPart8
import Derived.Sort.OwnSorted
import Derived.Lib.OwnBridge
import Derived.Lib.RowBridge

namespace Go.Proofs.YtjjkdbmjloolaaaGreatDoor
open Go.ChangeShapes Go.WideShapes Go.ChangeAt Go.RowKit
attribute [local go_sem ↓] Go.wp_at_zero Go.wp_at_succ
attribute [local simp] World.cell?_alloc_past World.cell?_alloc_at World.frozen?_alloc_at cell_far cell_off cell_here World.frozen?_alloc_past
def TBox (w : World) (B : Nat) (x y z : Value) : Prop := w.heap[B]? = some (.cells #[x, y, z] 117 (0, 0))
theorem TBox.lt {w : World} {B : Nat} {x y z : Value} (h : TBox w B x y z) : B < w.heap.size := by
 by_cases hl : B < w.heap.size
 · exact hl
 · unfold TBox at h; rw [Array.getElem?_eq_none (by omega)] at h; cases h
theorem TBox.cells {w : World} {B : Nat} {x y z : Value} (h : TBox w B x y z) : w.cell? ⟨B, 0, none⟩ = some x ∧ w.cell? ⟨B, 1, none⟩ = some y ∧ w.cell? ⟨B, 2, none⟩ = some z := by
 unfold TBox at h
 refine ⟨?_, ?_, ?_⟩ <;> simp [World.cell?, h]
theorem TBox.free {w : World} {B : Nat} {x y z : Value} (h : TBox w B x y z) : w.frozen? ⟨B, 0, none⟩ = false ∧ w.frozen? ⟨B, 1, none⟩ = false ∧ w.frozen? ⟨B, 2, none⟩ = false := by
 unfold TBox at h
 refine ⟨?_, ?_, ?_⟩ <;> simp [World.frozen?, h]
theorem TBox.of {w w' : World} {B : Nat} {x y z : Value} (h : TBox w B x y z) (e : w'.heap[B]? = w.heap[B]?) : TBox w' B x y z := by unfold TBox at h ⊢; rw [e]; exact h
theorem TBox.below {w w' : World} {B : Nat} {x y z : Value} (h : TBox w B x y z) (hb : Below w.heap.size w w') : TBox w' B x y z := h.of (hb.block B h.lt)
theorem TBox.alloc {w : World} {B : Nat} {x y z : Value} (h : TBox w B x y z) (o : Obj) : TBox (w.alloc o) B x y z := by
 refine h.of ?_
 show (w.heap.push o)[B]? = _
 rw [Array.getElem?_push_lt h.lt, ← Array.getElem?_eq_getElem h.lt]
theorem TBox.grown {w w' : World} {B : Nat} {x y z : Value} {row : Option Nat} (h : TBox w B x y z) (hg : w.grownBy w' row) (hne : row ≠ some B) : TBox w' B x y z := h.of (hg.block B h.lt (fun e => hne e.symm))
theorem TBox.new (w : World) (x y z : Value) : TBox (w.alloc (.cells #[x, y, z] 117)) w.heap.size x y z := by
 unfold TBox
 show (w.heap.push _)[w.heap.size]? = _
 simp
theorem TBox.set1 {w : World} {B : Nat} {x y z : Value} (h : TBox w B x y z) (u : Value) : TBox (w.setCell ⟨B, 1, none⟩ u) B x u z := by
 have := heap_setCell_same w B 1 #[x, y, z] 117 u h
 unfold TBox; rw [this]; rfl
structure TD (w : World) (base B : Nat) (nm : ByteArray) (vc vr : Value) (C : List ByteArray) (L : List (List CT)) : Prop where
 box : TBox w B (.string nm) vc vr
 cols : w.ownsRow base 9 1 vc C.length (strV C)
 rows : ∃ G D, OwnRows w base vr L G D
theorem TD.alloc {w : World} {base B : Nat} {nm : ByteArray} {vc vr : Value} {C : List ByteArray} {L : List (List CT)} (h : TD w base B nm vc vr C L) (o : Obj) : TD (w.alloc o) base B nm vc vr C L :=
 ⟨h.box.alloc o, h.cols.alloc o, by obtain ⟨G, D, O⟩ := h.rows; exact ⟨G, D, O.outer.alloc o, fun i hi => (O.inner i hi).alloc o, O.apart⟩⟩
theorem TD.below {w w' : World} {base B : Nat} {nm : ByteArray} {vc vr : Value} {C : List ByteArray} {L : List (List CT)} (h : TD w base B nm vc vr C L) (hb : Below w.heap.size w w') : TD w' base B nm vc vr C L :=
 ⟨h.box.below hb, own_below h.cols hb, by obtain ⟨G, D, O⟩ := h.rows; exact ⟨G, D, O.below hb⟩⟩
theorem TD.drew {w : World} {base B : Nat} {nm : ByteArray} {vc vr : Value} {C : List ByteArray} {L : List (List CT)} (h : TD w base B nm vc vr C L) : TD w.drew base B nm vc vr C L := h.below (Below.refl _ _).drew
end Go.Proofs.YtjjkdbmjloolaaaGreatDoor
namespace Go.Proofs.YtjjkdbmjloolaaaGreatDoor
open Go.ChangeShapes Go.WideShapes Go.ChangeAt Go.RowKit Go.Maps
attribute [local go_sem ↓] Go.wp_at_zero Go.wp_at_succ
attribute [local simp] World.cell?_alloc_past World.cell?_alloc_at World.frozen?_alloc_at cell_far cell_off cell_here World.frozen?_alloc_past
def InR (T : List TB) (s : ByteArray) (t : TB) (b : Bool) : Prop :=
 (b = false ∧ t = zeroT ∧ s ∉ namesT T) ∨ (b = true ∧ ∃ k, ∃ h : k < T.length, T[k] = t ∧ t.1 = s ∧ ∀ j (hj : j < T.length), j < k → T[j].1 ≠ s)
theorem inR_some (T : List TB) (s : ByteArray) : ∃ t b, InR T s t b := by
 by_cases h : s ∈ namesT T
 · rw [← List.take_length (l := T)] at h
  obtain ⟨j, hj, _, e, hf⟩ := first_name h
  exact ⟨T[j], true, .inr ⟨rfl, j, hj, rfl, e, fun i hi hij => by rw [← e]; exact hf i hi hij⟩⟩
 · exact ⟨zeroT, false, .inl ⟨rfl, rfl, h⟩⟩
def InOut (w : World) (t : TB) (b : Bool) (e : Ending) (w' : World) : Prop :=
 ∃ nc nr ca cc ra cr A C, e = .returned (.tuple #[.agg #[.string t.1, .slice ca nc cc, .slice ra nr cr], .bool b]) ∧ t.2.1.length = nc ∧ t.2.2.length = nr ∧ OutTab w' w.heap.size ca cc ra t A C ∧ Below w.heap.size w w'
set_option maxRecDepth 100000 in
set_option maxHeartbeats 4000000 in
theorem tablein_impl (a : Option Addr) (cap : Nat) (T : List TB) (n : Nat) (hn : T.length = n) (w : World) (hrow : TabsAt w a T) (hm : n ≤ 1048576) (hsm : ∀ t, t ∈ T → Small t) (s : ByteArray) (hsz : s.size ≤ maxLen) (u : TB) (b : Bool) (hu : InR T s u b) :
  Calls Tryz.prog 131 #[.slice a n cap, .string s] w (InOut w u b) := by
 have E : Hid (Calls Tryz.prog 93 #[.slice a n cap] (w.alloc (.cells #[.string ⟨#[]⟩, .slice none 0 0, .slice none 0 0] 117)) fun e w' => e = .returned (.map (some (w.heap.size + 1))) ∧ ShInv (w.alloc (.cells #[.string ⟨#[]⟩, .slice none 0 0, .slice none 0 0] 117)) w' (w.heap.size + 1) T n ∧ Below (w.alloc (.cells #[.string ⟨#[]⟩, .slice none 0 0, .slice none 0 0] 117)).heap.size (w.alloc (.cells #[.string ⟨#[]⟩, .slice none 0 0, .slice none 0 0] 117)) w') := by
  have := shelved_impl a cap T n hn (w.alloc (.cells #[.string ⟨#[]⟩, .slice none 0 0, .slice none 0 0] 117)) (hrow.below ((Below.refl _ _).alloc (Nat.le_refl _) _)) hm
  unfold Hid
  simpa using this
 have hkn : T.take n = T := by rw [← hn, List.take_length]
 have HMEM : Hid (decide (s ∈ ksOf (namesT (T.take n))) = b) := by
  have : decide (s ∈ ksOf (namesT (T.take n))) = b := by
   rw [hkn]
   rcases hu with ⟨rfl, _, h⟩ | ⟨rfl, k, hk, e1, e2, _⟩
   · exact decide_eq_false (by rw [mem_ksOf]; exact h)
   · exact decide_eq_true (by rw [mem_ksOf, ← e2, ← e1]; exact List.mem_map_of_mem (List.getElem_mem hk))
  exact this
 have HN := hid hn
 have HU := hid hu
 have HSM := hid hsm
 clear hrow hn hu hkn hsm
 go_enter Tryz.func131, Tryz.ntmps131
 go_wp2_with fail
 refine E.out.mono ?_
 rintro e w1 ⟨rfl, hS1, hb1⟩
 have R1 : Hid (TBox w1 w.heap.size (.string ⟨#[]⟩) (.slice none 0 0) (.slice none 0 0)) := (TBox.new w _ _ _).below hb1
 have X1 := hid hb1
 obtain ⟨f, hSh, hHo⟩ := hS1
 have HSh1 := hid hSh
 have HHo := hid hHo
 clear hb1 hSh hHo E
 go_wp2_with fail
 refine (has_at _ n _ f _ HSh1.out (ShInv.tables HHo.out) s hsz b HMEM.out).mono ?_
 rintro e w2 ⟨rfl, hb2⟩
 have R2 : Hid (TBox w2 w.heap.size (.string ⟨#[]⟩) (.slice none 0 0) (.slice none 0 0)) := R1.out.below hb2
 have X2 := chain X1.out hb2
 have HSh2 : Hid (ShelfAt w2 (w.heap.size + 1) n (ksOf (namesT (T.take n))) f) := HSh1.out.below hb2
 have XX : Hid (Below w.heap.size w w2) := chainA X2
 clear HSh1 hb2 X1 R1
 cases b
 · obtain rfl : u = zeroT := by
   rcases HU.out with ⟨_, h, _⟩ | ⟨h, _⟩
   · exact h
   · cases h
  obtain ⟨r0, r1, r2⟩ := R2.out.cells
  obtain ⟨f0, f1, f2⟩ := R2.out.free
  have fin : Hid (∀ x y z, InOut w zeroT false (.returned (.tuple #[.agg #[.string ⟨#[]⟩, .slice none 0 0, .slice none 0 0], .bool false])) (((w2.setCell ⟨w.heap.size, 0, none⟩ x).setCell ⟨w.heap.size, 1, none⟩ y).setCell ⟨w.heap.size, 2, none⟩ z)) := by
   have : ∀ x y z, InOut w zeroT false (.returned (.tuple #[.agg #[.string ⟨#[]⟩, .slice none 0 0, .slice none 0 0], .bool false])) (((w2.setCell ⟨w.heap.size, 0, none⟩ x).setCell ⟨w.heap.size, 1, none⟩ y).setCell ⟨w.heap.size, 2, none⟩ z) := fun x y z =>
    ⟨0, 0, none, 0, none, 0, _, _, rfl, rfl, rfl, out_zero _ _, ((XX.out.setCell (p := ⟨w.heap.size, 0, none⟩) (Nat.le_refl _) _).setCell (p := ⟨w.heap.size, 1, none⟩) (Nat.le_refl _) _).setCell (p := ⟨w.heap.size, 2, none⟩) (Nat.le_refl _) _⟩
   exact this
  clear X2 R2 HSh2 HMEM
  go_wp2_with fail
  exact bodyPost_ret (v := .tuple #[.agg #[.string ⟨#[]⟩, .slice none 0 0, .slice none 0 0], .bool false]) (by simp [results, Tryz.results131, go_sem, r0, r1, r2]) rfl (fin.out _ _ _)
 have hrun := (HSh2.out.found s hsz (of_decide_eq_true HMEM.out)).1
 obtain ⟨k, hk, ek, es, hfk⟩ : ∃ k, ∃ h : k < T.length, T[k] = u ∧ u.1 = s ∧ ∀ j (hj : j < T.length), j < k → T[j].1 ≠ s := by
  rcases HU.out with ⟨h, _⟩ | ⟨_, h⟩
  · cases h
  · exact h
 obtain ⟨ca, cc, ra, cr, ef, hta⟩ := HHo.out k hk (by have := HN.out; omega) (fun i hi hik => by rw [ek, es]; exact hfk i hi hik)
 have HSU : Hid (Small u) := by
  have : Small u := by rw [← ek]; exact HSM.out _ (List.getElem_mem hk)
  exact this
 rw [ek] at ef hta
 obtain ⟨nc, hnc⟩ : ∃ z, u.2.1.length = z := ⟨_, rfl⟩
 obtain ⟨nr, hnr⟩ : ∃ z, u.2.2.length = z := ⟨_, rfl⟩
 have HNC := hid hnc
 have HNR := hid hnr
 have HS := hid es.symm
 rw [es] at ef
 rw [ef] at hrun
 rw [HNC.out, HNR.out] at hrun
 have HTA : Hid (TabAt w2 ca cc ra u) := hta.below X2
 clear hta ef X2 hnc hnr hk ek es hfk HSh2 HHo HU HMEM
 go_wp2_with fail
 rw [HS.out]
 refine (copied_table ca cc ra cr u nc nr HNC.out HNR.out w2 HTA.out (by rw [← HNC.out]; exact HSU.out.1) (by rw [← HNR.out]; exact HSU.out.2.1) HSU.out.2.2).mono ?_
 rintro e w3 ⟨g, c, g2, c2, A, D, rfl, hO, hb3, hc2⟩
 have R3 : Hid (TBox w3 w.heap.size (.string ⟨#[]⟩) (.slice none 0 0) (.slice none 0 0)) := R2.out.below hb3
 obtain ⟨r0, r1, r2⟩ := R3.out.cells
 obtain ⟨f0, f1, f2⟩ := R3.out.free
 have fin : Hid (∀ x y z, InOut w u true (.returned (.tuple #[.agg #[.string u.1, .slice (some ⟨g, 0, none⟩) nc c, .slice (some ⟨g2, 0, none⟩) nr c2], .bool true])) (((w3.setCell ⟨w.heap.size, 0, none⟩ x).setCell ⟨w.heap.size, 1, none⟩ y).setCell ⟨w.heap.size, 2, none⟩ z)) := by
  have hlt : w.heap.size < w2.heap.size := R2.out.lt
  have hbb : Below w.heap.size w w3 := chain XX.out hb3
  have : ∀ x y z, InOut w u true (.returned (.tuple #[.agg #[.string u.1, .slice (some ⟨g, 0, none⟩) nc c, .slice (some ⟨g2, 0, none⟩) nr c2], .bool true])) (((w3.setCell ⟨w.heap.size, 0, none⟩ x).setCell ⟨w.heap.size, 1, none⟩ y).setCell ⟨w.heap.size, 2, none⟩ z) := fun x y z =>
   ⟨nc, nr, _, _, _, _, _, _, rfl, HNC.out, HNR.out, OutT.lower (q := ⟨_, _, _, c2, _, _⟩) (hO.set3 w.heap.size hlt 0 1 2 x y z) (Nat.le_of_lt hlt), ((hbb.setCell (p := ⟨w.heap.size, 0, none⟩) (Nat.le_refl _) _).setCell (p := ⟨w.heap.size, 1, none⟩) (Nat.le_refl _) _).setCell (p := ⟨w.heap.size, 2, none⟩) (Nat.le_refl _) _⟩
  exact this
 clear hO hb3 R2 R3 XX HTA
 go_wp2_with fail
 exact bodyPost_ret (v := .tuple #[.agg #[.string u.1, .slice (some ⟨g, 0, none⟩) nc c, .slice (some ⟨g2, 0, none⟩) nr c2], .bool true]) (by simp [results, Tryz.results131, go_sem, r0, r1, r2]) rfl (fin.out _ _ _)
end Go.Proofs.YtjjkdbmjloolaaaGreatDoor
namespace Go.Proofs.YtjjkdbmjloolaaaGreatDoor
open Go.ChangeShapes Go.WideShapes Go.ChangeAt Go.RowKit
attribute [local go_sem ↓] Go.wp_at_zero Go.wp_at_succ
attribute [local simp] World.cell?_alloc_past World.cell?_alloc_at World.frozen?_alloc_at cell_far cell_off cell_here World.frozen?_alloc_past
def FitI (l : List TI) : Prop := ∀ x ∈ l, x.2.1.2.2.size ≤ maxLen ∧ x.2.2.size ≤ 1048576
set_option maxRecDepth 100000 in
set_option maxHeartbeats 4000000 in
theorem sum_impl (a : Option Addr) (cap : Nat) (l : List TI) (n : Nat) (hnl : l.length = n) (w : World) (hrow : ItmAt w a l) (hfit : FitI l) (hm : n ≤ maxLen) (hp : PowAt w) (he : ErrAt w) (b : Bool) (hb : sumB l = b) :
  Calls Tryz.prog 103 #[.slice a n cap] w fun e w' => e = .returned (.bool b) ∧ Below w.heap.size w w' := by
 have HR := hid hrow
 have HF := hid hfit
 have HB := hid hb
 have HP := hid hp
 have HE := hid he
 have HL := hid hnl
 clear hrow hfit hb hp he hnl
 unfold maxLen at hm
 by_cases h40 : 40 < n
 · have hi : (40 : Int) < (n : Int) := by omega
  have e : b = false := by
   rw [← HB.out]; unfold sumB
   rw [HL.out, decide_eq_false (p := n ≤ 40) (by omega), Bool.and_false]
  subst e
  go_enter Tryz.func103, Tryz.ntmps103
  go_wp2
  go_ret
  exact ⟨rfl, Below.refl _ _⟩
 have hi : ¬ (40 : Int) < (n : Int) := by omega
 go_enter Tryz.func103, Tryz.ntmps103
 go_wp2
 go_loopw [3, 12] (fun nv kk wr => ∃ k c : Nat, k ≤ n ∧ kk = .int .i64 k ∧ nv = .int .i64 c ∧ c ≤ k ∧ Hid (heapN (l.take k) 0 = some c) ∧ Below w.heap.size w wr) (fun _ kk _ => n - (intOf kk).toNat)
 case atStart => exact ⟨0, 0, Nat.zero_le _, rfl, rfl, Nat.le_refl _, rfl, Below.refl _ _⟩
 case round =>
  obtain ⟨k, c, hk, rfl, rfl, hck, hhp, hbw⟩ := hrel
  by_cases hlt : k < n
  · have hlk : k < l.length := by rw [HL.out]; exact hlt
   obtain ⟨g, o, rfl, hgw, c0, c1, c2, c3, c4⟩ := HR.out.below hbw k hlk
   have hi0 : (0 : Int) ≤ (k : Int) := by omega
   have hi1 : (k : Int) < (n : Int) := by omega
   obtain ⟨hf1, hf2⟩ := HF.out _ (List.getElem_mem hlk)
   have hst := heap_step l k hlk c hhp.out
   have HNO : Hid (heapN (l.take (k + 1)) 0 = none → b = false) := by
    have : heapN (l.take (k + 1)) 0 = none → b = false := fun h => by rw [← HB.out]; exact heap_no l (k + 1) h
    exact this
   obtain ⟨r, hr⟩ : ∃ r, itemB l[k] = r := ⟨_, rfl⟩
   obtain ⟨d, hd⟩ : ∃ d, needsP l[k].1 = d := ⟨_, rfl⟩
   have hdd : r = true → needsI l[k].1 = d := fun e => by rw [← hd, needsP_ok (hr.trans e)]
   have HST : Hid (heapN (l.take (k + 1)) 0 = if r = true ∧ d ≤ c then some (c + 1 - d) else none) := by
    have : heapN (l.take (k + 1)) 0 = if r = true ∧ d ≤ c then some (c + 1 - d) else none := by
     rw [hst, hr]
     cases r with
     | false => simp
     | true => rw [hdd rfl]
    exact this
   have HRR := hid hr
   have HD := hid hd
   have hd2 : d ≤ 2 := by rw [← hd]; exact needsP_le _
   clear hst hr hd hdd
   generalize l[k] = x at c0 c1 c2 c3 c4 hf1 hf2 HRR HD
   go_wp2_with fail
   refine (needs_impl x.1 d HD.out _).mono ?_
   rintro e w1 ⟨rfl, rfl⟩
   have hxA : Below w.heap.size w (wr.alloc (.cells #[.int .i64 x.1, .int .i64 x.2.1.1, .int .i64 x.2.1.2.1, .string x.2.1.2.2, .string x.2.2] 97)) := hbw.alloc hbw.size _
   clear c0 c1 c2 c3 c4
   go_wp2_with fail
   refine (item_impl x _ hf2 hf1 (HP.out.below hxA) (HE.out.below hxA) r HRR.out).mono ?_
   rintro e w2 ⟨rfl, hb2⟩
   have hx2 := chain hxA hb2
   clear hxA hb2
   cases r
   · obtain rfl : b = false := HNO.out (by rw [HST.out, if_neg (by simp)])
    go_wp2
    go_ret
    exact ⟨rfl, hx2⟩
   by_cases hcd : d ≤ c
   · have h1 : ¬ (c : Int) < (d : Int) := by omega
    have HS2 : Hid (heapN (l.take (k + 1)) 0 = some (c + 1 - d)) := by
     have : heapN (l.take (k + 1)) 0 = some (c + 1 - d) := by rw [HST.out]; simp [hcd]
     exact this
    have hz : ((c + 1 - d : Nat) : Int) = (c : Int) + (1 - (d : Int)) := by omega
    go_wp2
    go_roundw
    case rel => exact ⟨k + 1, c + 1 - d, by omega, by go_num, by rw [hz], by omega, HS2, hx2⟩
    case measure => simp [intOf]; omega
   · have h1 : (c : Int) < (d : Int) := by omega
    obtain rfl : b = false := HNO.out (by rw [HST.out, if_neg (fun h => hcd h.2)])
    go_wp2
    go_ret
    exact ⟨rfl, hx2⟩
  · have hkl : k = n := by omega
   subst hkl
   have hi1 : ¬ (k : Int) < (k : Int) := by omega
   have hh := hhp.out
   rw [List.take_of_length_le (by rw [HL.out]; exact Nat.le_refl _)] at hh
   have HBB : Hid (decide (c = 1) = b) := by
    have : decide (c = 1) = b := by
     rw [← HB.out]; unfold sumB; rw [hh, HL.out, decide_eq_true (p := k ≤ 40) (by omega)]; simp
    exact this
   clear hh
   by_cases e1 : c = 1
   · subst e1
    go_wp2
    go_ret
    exact ⟨ret_bool (by rw [← HBB.out]; simp), hbw⟩
   · have e2 : ¬ (c : Int) = 1 := by omega
    have e3 : ((c : Int) == 1) = false := by simpa using e2
    go_wp2
    go_ret
    exact ⟨ret_bool (by rw [← HBB.out]; simp [e1]), hbw⟩
end Go.Proofs.YtjjkdbmjloolaaaGreatDoor
namespace Go.Proofs.YtjjkdbmjloolaaaGreatDoor
abbrev leB8 : List UInt8 → List UInt8 → Bool := fun x y => decide (x ≤ y)
theorem leB8_trans (a b c : List UInt8) (h1 : leB8 a b = true) (h2 : leB8 b c = true) : leB8 a c = true := by
 simp only [leB8, decide_eq_true_eq] at *; exact List.le_trans h1 h2
theorem leB8_total (a b : List UInt8) : (leB8 a b || leB8 b a) = true := by
 simp only [leB8, Bool.or_eq_true, decide_eq_true_eq]; exact List.le_total a b
theorem lt_of_ne8 {a b : List UInt8} (h : a ≤ b) (hn : a ≠ b) : a < b := by
 by_cases hlt : a < b
 · exact hlt
 · exact absurd (List.le_antisymm h (List.not_lt.1 hlt)) hn
theorem compact_rises (d : Array (List UInt8)) (hd : ∀ i j, i ≤ j → j < d.size → d[i]! ≤ d[j]!) : ∀ m, m ≤ d.size →
  (Lib.compactUpTo d m).Pairwise (fun x y => x < y) ∧ ∀ x, x ∈ Lib.compactUpTo d m ↔ ∃ j, j < m ∧ d[j]! = x
 | 0, _ => ⟨List.Pairwise.nil, fun x => ⟨fun h => by simp [Lib.compactUpTo] at h, fun ⟨j, h, _⟩ => by omega⟩⟩
 | m + 1, hm => by
  obtain ⟨h1, h2⟩ := compact_rises d hd m (by omega)
  rw [Lib.compactUpTo_succ]
  by_cases hk : Lib.keeps d m = true
  · rw [if_pos hk]
   refine ⟨?_, fun x => ?_⟩
   · rw [List.pairwise_append]
    refine ⟨h1, List.pairwise_singleton _ _, fun a ha b hb => ?_⟩
    rw [List.mem_singleton] at hb
    subst hb
    obtain ⟨j, hj, rfl⟩ := (h2 a).1 ha
    have hne : d[m]! ≠ d[m - 1]! := by
     unfold Lib.keeps at hk
     rw [decide_eq_true_eq] at hk
     rcases hk with hk | hk
     · omega
     · exact hk
    have l1 := hd j (m - 1) (by omega) (by omega)
    have l2 := lt_of_ne8 (hd (m - 1) m (by omega) (by omega)) (fun e => hne e.symm)
    exact List.lt_of_le_of_lt l1 l2
   · rw [List.mem_append, h2, List.mem_singleton]
    constructor
    · rintro (⟨j, hj, rfl⟩ | rfl)
     · exact ⟨j, by omega, rfl⟩
     · exact ⟨m, by omega, rfl⟩
    · rintro ⟨j, hj, rfl⟩
     by_cases hjm : j = m
     · subst hjm; exact .inr rfl
     · exact .inl ⟨j, by omega, rfl⟩
  · rw [if_neg hk, List.append_nil]
   refine ⟨h1, fun x => ?_⟩
   rw [h2]
   constructor
   · rintro ⟨j, hj, rfl⟩; exact ⟨j, by omega, rfl⟩
   · rintro ⟨j, hj, rfl⟩
    by_cases hjm : j = m
    · subst hjm
     unfold Lib.keeps at hk
     rw [decide_eq_true_eq, not_or, Decidable.not_not] at hk
     exact ⟨j - 1, by omega, hk.2.symm⟩
    · exact ⟨j, by omega, rfl⟩
theorem rises_eq {l m : List (List UInt8)} (hl : l.Pairwise (fun x y => x < y)) (hm : m.Pairwise (fun x y => x < y)) (h : ∀ x, x ∈ l ↔ x ∈ m) : l = m := by
 have nd : ∀ {l : List (List UInt8)}, l.Pairwise (fun x y => x < y) → l.Nodup := fun h => h.imp fun hlt e => by subst e; exact List.lt_irrefl _ hlt
 refine List.Perm.eq_of_pairwise (le := fun a b => a ≤ b) (fun a b _ _ h1 h2 => List.le_antisymm h1 h2) (hl.imp fun h => List.le_of_lt h) (hm.imp fun h => List.le_of_lt h) ?_
 exact (List.perm_ext_iff_of_nodup (nd hl) (nd hm)).2 h
def namesL (l : List TI) : List ByteArray := (l.filter (fun x => decide (x.1 = 2))).map (fun x => x.2.2)
theorem namesL_snoc (l : List TI) (k : Nat) (h : k < l.length) : namesL (l.take (k + 1)) = namesL (l.take k) ++ (if l[k].1 = 2 then [l[k].2.2] else []) := by
 unfold namesL
 rw [List.take_succ_eq_append_getElem h, List.filter_append, List.map_append]
 congr 1
 by_cases e : l[k].1 = 2
 · rw [if_pos e]; simp [e]
 · rw [if_neg e]; simp [e]
theorem mem_namesL (l : List TI) (y : ByteArray) : y ∈ namesL l ↔ ∃ x ∈ l, x.1 = 2 ∧ x.2.2 = y := by
 unfold namesL
 simp [and_assoc]
def rawB (l : List ByteArray) : List (List UInt8) := l.map (fun s => s.data.toList)
theorem names_sorted (l : List TI) : Lib.compact ((rawB (namesL l)).mergeSort leB8) = rawB (namesN l) := by
 have hs := List.pairwise_mergeSort leB8_trans leB8_total (rawB (namesL l))
 have hp := List.mergeSort_perm (rawB (namesL l)) leB8
 generalize (rawB (namesL l)).mergeSort leB8 = zs at hs hp
 have hd : ∀ i j, i ≤ j → j < zs.toArray.size → zs.toArray[i]! ≤ zs.toArray[j]! := by
  intro i j hij hj
  have hj' : j < zs.length := by simpa using hj
  have hi' : i < zs.length := by omega
  have e1 : zs.toArray[i]! = zs[i] := by simp [hi']
  have e2 : zs.toArray[j]! = zs[j] := by simp [hj']
  rw [e1, e2]
  by_cases e : i = j
  · subst e; exact List.le_refl _
  · have := List.pairwise_iff_getElem.1 hs i j hi' hj' (by omega)
   simpa [leB8] using this
 obtain ⟨h1, h2⟩ := compact_rises zs.toArray hd zs.length (by simp)
 refine rises_eq h1 ?_ (fun x => ?_)
 · unfold rawB
  rw [List.pairwise_map]
  refine (namesN_rises l).imp fun {a b} h => ?_
  unfold blt at h
  rw [bytesLess_eq, decide_eq_true_iff, Lib.toList_data, Lib.toList_data] at h
  exact h
 · have e1 : x ∈ Lib.compact zs ↔ x ∈ zs := by
   show x ∈ Lib.compactUpTo zs.toArray zs.length ↔ _
   rw [h2, List.mem_iff_getElem]
   constructor
   · rintro ⟨j, hj, rfl⟩; exact ⟨j, hj, by simp [hj]⟩
   · rintro ⟨j, hj, rfl⟩; exact ⟨j, hj, by simp [hj]⟩
  rw [e1, hp.mem_iff]
  unfold rawB
  rw [List.mem_map, List.mem_map]
  constructor
  · rintro ⟨s, hs, rfl⟩; exact ⟨s, (mem_namesN l s).2 ((mem_namesL l s).1 hs), rfl⟩
  · rintro ⟨s, hs, rfl⟩; exact ⟨s, (mem_namesL l s).2 ((mem_namesN l s).1 hs), rfl⟩
theorem namesN_len (l : List TI) : (namesN l).length ≤ l.length := by
 suffices h : ∀ (l : List TI) (L : List ByteArray), (l.foldl (fun L x => if x.1 = 2 then putN L x.2.2 else L) L).length ≤ L.length + l.length by
  have := h l []
  simpa [namesN] using this
 intro l
 induction l with
 | nil => intro L; simp
 | cons x l ih =>
  intro L
  rw [List.foldl_cons]
  have h1 := ih (if x.1 = 2 then putN L x.2.2 else L)
  have h2 : (if x.1 = 2 then putN L x.2.2 else L).length ≤ L.length + 1 := by
   split
   · exact putN_length L _
   · omega
  simp only [List.length_cons]
  omega
theorem namesR_len (l : List TI) : (namesR l).length ≤ 1000 := by
 unfold namesR
 split
 · rename_i h
  unfold sumB at h
  simp only [Bool.and_eq_true, decide_eq_true_eq] at h
  have := namesN_len l
  omega
 · simp
end Go.Proofs.YtjjkdbmjloolaaaGreatDoor
namespace Go.Proofs.YtjjkdbmjloolaaaGreatDoor
open Go.ChangeShapes Go.WideShapes Go.ChangeAt Go.RowKit
attribute [local go_sem ↓] Go.wp_at_zero Go.wp_at_succ
attribute [local simp] World.cell?_alloc_past World.cell?_alloc_at World.frozen?_alloc_at cell_far cell_off cell_here World.frozen?_alloc_past
theorem enc_raw (L : List ByteArray) : (rawB L).map encStr = L.map Value.string := Lib.map_encStr L
def AnsStr (w : World) (B : Nat) (v : Value) (L : List ByteArray) : Prop := w.ownsRow B 9 1 v L.length (L.map Value.string) ∧ v ≠ .slice none 0 0
theorem sort_lib (base g cap n : Nat) (ss : List (List UInt8)) (w : World) (hn : n ≤ 1048576) (h : w.ownsRow base 9 1 (.slice (some ⟨g, 0, none⟩) n cap) n (ss.map encStr)) :
  Calls Tryz.prog 104 #[.slice (some ⟨g, 0, none⟩) n cap] w fun e w' => e = .returned (.tuple #[]) ∧ w'.ownsRow base 9 1 (.slice (some ⟨g, 0, none⟩) n cap) n ((ss.mergeSort leB8).map encStr) ∧ w.grownBy w' (some g) := by
 obtain ⟨g', cap', hv, hbg, hgl, hncap, hcm, hlen, hH⟩ := Lib.holds_of_ownsRow h (by simp)
 simp only [Value.slice.injEq, Option.some.injEq, Addr.mk.injEq, and_true, true_and] at hv
 obtain ⟨rfl, rfl⟩ := hv
 subst hlen
 unfold maxLen at hcm
 refine (Tryz.slices_Sort_string g 0 cap ss w hH hgl (by omega)).mono ?_
 rintro e w' ⟨rfl, nn, os, rfl⟩
 refine ⟨rfl, ?_, grownBy_sorted _⟩
 rcases h.2 with ⟨h0, _⟩ | ⟨g', cap', cur, hv, hbase, hb, h1, h2, h3, h4⟩
 · cases h0
 cases hv
 have hl2 : (ss.mergeSort fun x y => decide (x ≤ y)).length = ss.length := List.length_mergeSort ss
 exact ownsRow_sorted (n := nn) (os := os) (ts := ss.mergeSort fun x y => decide (x ≤ y)) hl2 hbase hb h1 h2 h3
theorem compact_lib (base g cap n : Nat) (zs : List (List UInt8)) (w : World) (h : w.ownsRow base 9 1 (.slice (some ⟨g, 0, none⟩) n cap) n (zs.map encStr)) :
  Calls Tryz.prog 105 #[.slice (some ⟨g, 0, none⟩) n cap] w fun e w' => e = .returned (.slice (some ⟨g, 0, none⟩) (Lib.compact zs).length cap) ∧ w'.ownsRow base 9 1 (.slice (some ⟨g, 0, none⟩) (Lib.compact zs).length cap) (Lib.compact zs).length ((Lib.compact zs).map encStr) ∧ ∀ B w0, B ≤ g → Below B w0 w → Below B w0 w' := by
 obtain ⟨g', cap', hv, hbg, hgl, hncap, hcm, hlen, hH⟩ := Lib.holds_of_ownsRow h (by simp)
 simp only [Value.slice.injEq, Option.some.injEq, Addr.mk.injEq, and_true, true_and] at hv
 obtain ⟨rfl, rfl⟩ := hv
 subst hlen
 unfold maxLen at hcm
 refine (Tryz.slices_Compact_string g 0 cap zs w hH (by omega) hncap).mono ?_
 rintro e w' ⟨rfl, q, rfl⟩
 have hle := Lib.compact_length_le zs
 refine ⟨rfl, ?_, fun B w0 hB hb => Lib.below_putRow hb hB⟩
 have hc := Lib.ownsRow_putRow (q := q) (k := (Lib.compact zs).length) (ys := Lib.compact zs ++ List.replicate (zs.length - (Lib.compact zs).length) []) h (by simp; omega) (by omega)
 rw [List.take_left] at hc
 exact hc
set_option maxRecDepth 100000 in
set_option maxHeartbeats 4000000 in
theorem namesof_impl (a : Option Addr) (cap : Nat) (l : List TI) (n : Nat) (hnl : l.length = n) (w : World) (hrow : ItmAt w a l) (hfit : FitI l) (hm : n ≤ maxLen) (hp : PowAt w) (he : ErrAt w) (L : List ByteArray) (hL : namesR l = L) :
  Calls Tryz.prog 81 #[.slice a n cap] w fun e w' => ∃ v, e = .returned v ∧ AnsStr w' w.heap.size v L ∧ Below w.heap.size w w' := by
 obtain ⟨i0, hti, hz0, hz1, hz2⟩ := info_parts infoStr
 have HR := hid hrow
 have HF := hid hfit
 have HP := hid hp
 have HE := hid he
 have HL := hid hnl
 have HY := hid hL
 obtain ⟨b, hb⟩ : ∃ b, sumB l = b := ⟨_, rfl⟩
 have HB := hid hb
 have hb0 : Below w.heap.size w (w.alloc (.cells #[] 9)) := (Below.refl _ _).alloc (Nat.le_refl _) _
 have own0 : Hid ((w.alloc (.cells #[] 9)).ownsRow w.heap.size 9 1 (.slice (some ⟨w.heap.size, 0, none⟩) 0 0) ([] : List ByteArray).length (([] : List ByteArray).map Value.string)) :=
  ⟨rfl, .inr ⟨w.heap.size, 0, #[], rfl, Nat.le_refl _, by show (w.heap.push _)[w.heap.size]? = _; simp, Nat.le_refl _, by unfold maxLen; omega, rfl, rfl⟩⟩
 clear hrow hfit hp he hnl hL hb
 go_enter Tryz.func81, Tryz.ntmps81
 go_wp2_with fail
 refine (sum_impl a cap l n HL.out _ (HR.out.below hb0) HF.out hm (HP.out.below hb0) (HE.out.below hb0) b HB.out).mono ?_
 rintro e w1 ⟨rfl, hb1⟩
 have hx1 := chain hb0 hb1
 have own1 : Hid (w1.ownsRow w.heap.size 9 1 (.slice (some ⟨w.heap.size, 0, none⟩) 0 0) ([] : List ByteArray).length (([] : List ByteArray).map Value.string)) := own_below own0.out hb1
 clear own0 hb1 hb0
 cases b
 · have e : L = [] := by rw [← HY.out]; unfold namesR; rw [if_neg (by rw [HB.out]; decide)]
  subst e
  go_wp2
  go_ret
  exact ⟨_, rfl, ⟨own1.out, by simp⟩, hx1⟩
 have hN : rawB L = Lib.compact ((rawB (namesL l)).mergeSort leB8) := by
  rw [names_sorted, ← HY.out]; unfold namesR; rw [if_pos HB.out]
 have HN := hid hN
 have h40 : n ≤ 40 := by
  have := HB.out
  unfold sumB at this
  simp only [Bool.and_eq_true, decide_eq_true_eq] at this
  rw [← HL.out]; exact this.2
 clear hN
 go_wp2
 go_loopw [3, 13] (fun v kk wr => ∃ k : Nat, k ≤ n ∧ kk = .int .i64 k ∧ Hid (wr.ownsRow w.heap.size 9 1 v (namesL (l.take k)).length ((namesL (l.take k)).map Value.string)) ∧ Below w.heap.size w wr ∧ v ≠ .slice none 0 0) (fun _ kk _ => n - (intOf kk).toNat)
 case atStart => exact ⟨0, Nat.zero_le _, rfl, own1, hx1, by simp⟩
 case round =>
  obtain ⟨k, hk, rfl, hO, hb, hvn⟩ := hrel
  clear own1 hx1
  have hlen : (namesL (l.take k)).length ≤ k := by
   unfold namesL
   rw [List.length_map]
   have h1 := List.length_filter_le (fun x : TI => decide (x.1 = 2)) (l.take k)
   have h2 := List.length_take_le k l
   omega
  by_cases hlt : k < n
  · have hlk : k < l.length := by rw [HL.out]; exact hlt
   obtain ⟨g, o, rfl, hgw, c0, c1, c2, c3, c4⟩ := HR.out.below hb k hlk
   have hi0 : (0 : Int) ≤ (k : Int) := by omega
   have hi1 : (k : Int) < (n : Int) := by omega
   have hsn := namesL_snoc l k hlk
   have HS := hid hsn
   have hOO := hO.out
   clear hsn hO
   obtain ⟨P, hP⟩ : ∃ P, namesL (l.take k) = P := ⟨_, rfl⟩
   rw [hP] at HS hOO hlen
   clear hP
   generalize l[k] = x at c0 c1 c2 c3 c4 HS
   obtain ⟨xk, ⟨xa, xb, xc⟩, xs⟩ := x
   dsimp only at c0 c1 c2 c3 c4 HS
   obtain ⟨p, hp⟩ : ∃ p, P.length = p := ⟨_, rfl⟩
   rw [hp] at hOO hlen
   have HPL := hid hp
   clear hp
   by_cases h2 : xk = 2
   · subst h2
    have hS2 : namesL (l.take (k + 1)) = P ++ [xs] := by rw [HS.out, if_pos rfl]
    have HS2 := hid hS2
    obtain ⟨V, hV⟩ : ∃ V, V = wr.alloc (.cells #[.int .i64 2, .int .i64 xa, .int .i64 xb, .string xc, .string xs] 97) := ⟨_, rfl⟩
    have hbV : Below wr.heap.size wr V := by rw [hV]; exact (Below.refl _ _).alloc (Nat.le_refl _) _
    have O4 : Hid (V.ownsRow w.heap.size 9 1 u3 p (P.map Value.string)) := own_below hOO hbV
    have hx3 := chain hb hbV
    obtain ⟨d0, d1, d2, d3, d4, d5⟩ := box5 (w := wr) (w1 := V) (a := .int .i64 2) (b := .int .i64 xa) (c := .int .i64 xb) (d := .string xc) (e := .string xs) (T := 97) (by rw [hV]; exact Below.refl _ _)
    clear HS hS2
    go_upto_region 8 with fail
    rw [← hV]
    clear hV hbV hOO c0 c1 c2 c3 c4
    go_wp2_with (at_builtin; refine wpList_append_own _ rfl _ _ 22 rfl w.heap.size 9 i0 (.string ⟨#[]⟩) 1 16 Tryz.underlying22 hti hz0 hz1 hz2 rfl (by decide) _ _ _ rfl (O4.out.alloc _) ⟨V.heap.size, 0, none⟩ 1 1 [.string xs] rfl rfl (cells1S V _) (by intro u hu; simp at hu; subst hu; rfl) (by unfold maxLen; omega) (by omega) (by have := hx3.size; simp; omega) ?_)
    intro v' w4 own4 hgrow hnn
    have hx4 : Below w.heap.size w w4 := by
     refine (hx3.alloc hx3.size _).grown hgrow (by have := hx3.size; simp; omega) ?_
     intro kk hkk
     exact (O4.out.lt kk hkk).1
    have hvn2 : v' ≠ .slice none 0 0 := by first | exact hnn | exact fun e => hvn (hnn.1 e).1
    have SS : Hid (w4.ownsRow w.heap.size 9 1 v' (namesL (l.take (k + 1))).length ((namesL (l.take (k + 1))).map Value.string)) := by
     have : w4.ownsRow w.heap.size 9 1 v' (namesL (l.take (k + 1))).length ((namesL (l.take (k + 1))).map Value.string) := by
      rw [HS2.out, List.length_append, HPL.out, List.map_append]
      exact own4
     exact this
    clear own4 hgrow hnn O4
    go_wp2
    go_roundw
    case rel => exact ⟨k + 1, by omega, by go_num, SS, hx4, hvn2⟩
    case measure => simp [intOf]; omega
   · have hS2 : namesL (l.take (k + 1)) = P := by rw [HS.out, if_neg h2, List.append_nil]
    have q2 : (xk == 2) = false := neq_k h2
    have hbV : Below wr.heap.size wr (wr.alloc (.cells #[.int .i64 xk, .int .i64 xa, .int .i64 xb, .string xc, .string xs] 97)) := (Below.refl _ _).alloc (Nat.le_refl _) _
    have SS : Hid ((wr.alloc (.cells #[.int .i64 xk, .int .i64 xa, .int .i64 xb, .string xc, .string xs] 97)).ownsRow w.heap.size 9 1 u3 (namesL (l.take (k + 1))).length ((namesL (l.take (k + 1))).map Value.string)) := by
     have : (wr.alloc (.cells #[.int .i64 xk, .int .i64 xa, .int .i64 xb, .string xc, .string xs] 97)).ownsRow w.heap.size 9 1 u3 (namesL (l.take (k + 1))).length ((namesL (l.take (k + 1))).map Value.string) := by
      rw [hS2, HPL.out]; exact own_below hOO hbV
     exact this
    have hx4 := chain hb hbV
    clear HS hS2 hOO hbV
    go_wp2
    go_roundw
    case rel => exact ⟨k + 1, by omega, by go_num, SS, hx4, hvn⟩
    case measure => simp [intOf]; omega
  · have hkl : k = n := by omega
   subst hkl
   have hi1 : ¬ (k : Int) < (k : Int) := by omega
   have hOO := hO.out
   rw [List.take_of_length_le (by rw [HL.out]; exact Nat.le_refl _)] at hOO hlen
   obtain ⟨p, hp⟩ : ∃ p, (namesL l).length = p := ⟨_, rfl⟩
   rw [hp, ← enc_raw] at hOO
   rw [hp] at hlen
   rcases hOO.2 with ⟨h', _⟩ | ⟨gp, cp, cur, h', hbg, _⟩
   · exact absurd h' hvn
   subst h'
   have O1 := hid hOO
   clear hO hOO hp
   go_wp2_with fail
   refine (sort_lib w.heap.size gp cp p (rawB (namesL l)) _ (by omega) O1.out).mono ?_
   rintro e w2 ⟨rfl, own2, hgr⟩
   have hx2 : Below w.heap.size w w2 := hb.grown hgr hb.size (fun kk hkk => by cases hkk; exact hbg)
   have O2 := hid own2
   clear O1 own2 hgr hb
   go_wp2_with fail
   refine (compact_lib w.heap.size gp cp p ((rawB (namesL l)).mergeSort leB8) _ O2.out).mono ?_
   rintro e w3 ⟨rfl, own3, hbl⟩
   have hx3 := hbl _ _ hbg hx2
   rw [← HN.out] at own3
   have hl3 : (rawB L).length = L.length := List.length_map _
   rw [hl3, enc_raw] at own3
   rw [← HN.out, hl3]
   have fin : Hid (AnsStr w3 w.heap.size (.slice (some ⟨gp, 0, none⟩) L.length cp) L) := ⟨own3, by simp⟩
   clear own3 hbl O2
   go_wp2
   go_ret
   exact ⟨_, rfl, fin.out, hx3⟩
end Go.Proofs.YtjjkdbmjloolaaaGreatDoor
