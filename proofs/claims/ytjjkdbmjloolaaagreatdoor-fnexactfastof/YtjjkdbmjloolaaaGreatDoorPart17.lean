/-
  A part of the proof: TabI1, ColOf, FkLeaf.
-/
import Derived.Test.YtjjkdbmjloolaaaGreatDoorPart1
import Derived.Test.YtjjkdbmjloolaaaGreatDoorPart5
import Derived.Test.YtjjkdbmjloolaaaGreatDoorPart16

namespace Go.Proofs.YtjjkdbmjloolaaaGreatDoor
open Go.ChangeShapes Go.WideShapes Go.ChangeAt Go.RowKit
attribute [local go_sem ↓] Go.wp_at_zero Go.wp_at_succ
attribute [local simp] World.cell?_alloc_past World.cell?_alloc_at World.frozen?_alloc_at cell_far cell_off cell_here World.frozen?_alloc_past
theorem nameB_short {s : ByteArray} (h : ¬ (1 : Int) ≤ (s.size : Int)) : nameB s = false := by
 have : s = ⟨#[]⟩ := by
  apply ByteArray.ext
  apply Array.eq_empty_of_size_eq_zero
  have : s.size = 0 := by omega
  exact this
 rw [this]; rfl
theorem nameB_long {s : ByteArray} (h : ¬ (s.size : Int) ≤ 6) : nameB s = false := by
 unfold nameB
 rw [decide_eq_false h, Bool.and_false, Bool.and_false]
theorem nameB_mid {s : ByteArray} (h : (1 : Int) ≤ (s.size : Int)) (h6 : (s.size : Int) ≤ 6) : nameB s = (lets s.data.toList && decide ((s.size : Int) ≤ 12)) := by
 unfold nameB
 rw [decide_eq_true h6, decide_eq_true (by omega : (s.size : Int) ≤ 12), decide_eq_true, Bool.true_and]
 intro e
 rw [e] at h
 exact absurd h (by decide)
theorem name_impl (s : ByteArray) (w : World) (hs : s.size ≤ maxLen) (b : Bool) (hb : nameB s = b) :
  Calls Tryz.prog 41 #[.string s] w fun e w' => e = .returned (.bool b) ∧ w' = w := by
 have hm := hs
 unfold maxLen at hm
 by_cases h1 : (1 : Int) ≤ (s.size : Int)
 · by_cases h6 : (s.size : Int) ≤ 6
  · rw [nameB_mid h1 h6] at hb
   have HB := hid hb
   clear hb
   go_enter Tryz.func41, Tryz.ntmps41
   go_wp2_with fail
   refine (textFits_impl s _ hs).mono ?_
   rintro e w' ⟨rfl, rfl⟩
   rw [HB.out]
   go_wp2
   go_ret
   exact ⟨rfl, rfl⟩
  · rw [nameB_long h6] at hb
   subst hb
   go_enter Tryz.func41, Tryz.ntmps41
   go_wp2
   go_ret
   exact ⟨rfl, rfl⟩
 · rw [nameB_short h1] at hb
  subst hb
  go_enter Tryz.func41, Tryz.ntmps41
  go_wp2
  go_ret
  exact ⟨rfl, rfl⟩
set_option maxHeartbeats 2000000 in
theorem every_names (a : Option Addr) (cap : Nat) (l : List ByteArray) (w : World) (hrow : StrsAt w a l) (hfit : FitS l) (hm : l.length ≤ maxLen) (b : Bool) (hb : l.all nameB = b) :
  Calls Tryz.prog 40 #[.agg #[.slice a l.length cap], .func (.func 41) #[] #[]] w fun e w' => e = .returned (.bool b) ∧ Below w.heap.size w w' := by
 have HR := hid hrow
 have HF := hid hfit
 have HB := hid hb
 clear hrow hfit hb
 unfold maxLen at hm
 go_enter Tryz.func40, Tryz.ntmps40
 have hA : Below w.heap.size w (w.alloc (.cells #[.slice a l.length cap] 79)) := (Below.refl _ _).alloc (Nat.le_refl _) _
 go_wp2
 go_loopw [10] (fun kk wr => ∃ k : Nat, k ≤ l.length ∧ kk = .int .i64 k ∧ Hid ((l.take k).all nameB = true) ∧ Below w.heap.size w wr) (fun kk _ => l.length - (intOf kk).toNat)
 case atStart => exact ⟨0, Nat.zero_le _, rfl, rfl, hA⟩
 case round =>
  obtain ⟨k, hk, rfl, hall, hbw⟩ := hrel
  by_cases hlt : k < l.length
  · obtain ⟨g, o, rfl, hgw, c0⟩ := HR.out.below hbw k hlt
   have hi0 : (0 : Int) ≤ (k : Int) := by omega
   have hi1 : (k : Int) < (l.length : Int) := by omega
   have hft := HF.out k hlt
   have HS : Hid ((l.take (k + 1)).all nameB = nameB l[k]) := by
    have : (l.take (k + 1)).all nameB = nameB l[k] := by
     rw [List.take_succ_eq_append_getElem hlt, List.all_append, hall.out, Bool.true_and, List.all_cons, List.all_nil, Bool.and_true]
    exact this
   have hno : Hid (nameB l[k] = false → b = false) := by
    have : nameB l[k] = false → b = false := by
     intro e
     rw [← HB.out, Bool.eq_false_iff]
     intro h
     rw [List.all_eq_true.1 h _ (List.getElem_mem hlt)] at e
     cases e
    exact this
   obtain ⟨r, hr⟩ : ∃ r, nameB l[k] = r := ⟨_, rfl⟩
   generalize l[k] = x at c0 hft HS hr hno
   have HRR := hid hr
   clear hr
   go_wp2_with fail
   refine (name_impl x _ hft r HRR.out).mono ?_
   rintro e wA ⟨rfl, rfl⟩
   cases r
   · have e := hno.out HRR.out
    subst e
    go_wp2
    go_ret
    exact ⟨rfl, hbw⟩
   · go_wp2
    go_roundw
    case rel => exact ⟨k + 1, by omega, by go_num, by rw [HS.out]; exact HRR.out, hbw⟩
    case measure => simp [intOf]; omega
  · have hkl : k = l.length := by omega
   subst hkl
   have hnn : ¬ (l.length : Int) < (l.length : Int) := by omega
   have e : b = true := by
    rw [← HB.out]
    have := hall.out
    rw [List.take_length] at this
    exact this
   subst e
   go_wp2
   go_ret
   exact ⟨rfl, hbw⟩
set_option maxHeartbeats 1000000 in
theorem index_str (n : Nat) (a : Option Addr) (cap : Nat) (l : List ByteArray) (hn : l.length = n) (s : ByteArray) (w : World) (hrow : StrsAt w a l) (hm : n ≤ maxLen) :
  Calls Tryz.prog 76 #[.slice a n cap, .string s] w fun e w' => ∃ r, e = .returned (.int .i64 r) ∧ AtIs l s r ∧ Below w.heap.size w w' := by
 subst hn
 have HR := hid hrow
 clear hrow
 unfold maxLen at hm
 go_enter Tryz.func76, Tryz.ntmps76
 go_wp2
 go_loopw [8] (fun kk wr => ∃ k : Nat, k ≤ l.length ∧ kk = .int .i64 k ∧ Hid (∀ j (hj : j < l.length), j < k → l[j] ≠ s) ∧ Below w.heap.size w wr) (fun kk _ => l.length - (intOf kk).toNat)
 case atStart => exact ⟨0, Nat.zero_le _, rfl, fun j _ h => by omega, Below.refl _ _⟩
 case round =>
  obtain ⟨k, hk, rfl, hall, hbw⟩ := hrel
  by_cases hlt : k < l.length
  · obtain ⟨g, o, rfl, hgw, c0⟩ := HR.out.below hbw k hlt
   have hi0 : (0 : Int) ≤ (k : Int) := by omega
   have hi1 : (k : Int) < (l.length : Int) := by omega
   by_cases e : l[k] = s
   · have fin : Hid (AtIs l s (k : Int)) := Or.inr ⟨k, hlt, rfl, e, hall.out⟩
    have hq := txt_same e.symm
    clear e
    generalize l[k] = x at c0 hq
    go_wp2
    go_ret
    exact ⟨_, rfl, fin.out, hbw⟩
   · have hall2 : Hid (∀ j (hj : j < l.length), j < k + 1 → l[j] ≠ s) := by
     have : ∀ j (hj : j < l.length), j < k + 1 → l[j] ≠ s := by
      intro j hj hjk
      by_cases ej : j = k
      · subst ej; exact e
      · exact hall.out j hj (by omega)
     exact this
    have hq := txt_other (Ne.symm e)
    clear e
    generalize l[k] = x at c0 hq
    go_wp2
    go_roundw
    case rel => exact ⟨k + 1, by omega, by go_num, hall2, hbw⟩
    case measure => simp [intOf]; omega
  · have fin : Hid (AtIs l s (-1)) := Or.inl ⟨rfl, fun hmem => by
    obtain ⟨j, hj, e⟩ := List.getElem_of_mem hmem
    exact hall.out j hj (by omega) e⟩
   have hkl : k = l.length := by omega
   subst hkl
   have hnn : ¬ (l.length : Int) < (l.length : Int) := by omega
   go_wp2
   go_ret
   exact ⟨_, rfl, fin.out, hbw⟩
theorem contains_str (n : Nat) (a : Option Addr) (cap : Nat) (l : List ByteArray) (hn : l.length = n) (s : ByteArray) (w : World) (hrow : StrsAt w a l) (hm : n ≤ maxLen) (b : Bool) (hb : inB l s = b) :
  Calls Tryz.prog 58 #[.slice a n cap, .string s] w fun e w' => e = .returned (.bool b) ∧ Below w.heap.size w w' := by
 have HI : Hid (Calls Tryz.prog 76 #[.slice a n cap, .string s] w fun e w' => ∃ r, e = .returned (.int .i64 r) ∧ AtIs l s r ∧ Below w.heap.size w w') := index_str n a cap l hn s w hrow hm
 have HB := hid hb
 clear hrow hn hb
 go_enter Tryz.func58, Tryz.ntmps58
 go_wp2_with fail
 refine HI.out.mono ?_
 rintro e w1 ⟨r, rfl, hat, hb1⟩
 have HAT := hid hat
 clear hat HI
 by_cases hr : 0 ≤ r
 · have e : b = true := by rw [← HB.out]; exact inB_iff.2 (HAT.out.neg.1 hr)
  subst e
  go_wp2
  go_ret
  exact ⟨by first | rfl | simp, hb1⟩
 · have e : b = false := by rw [← HB.out]; exact inB_no.2 (fun h => hr (HAT.out.neg.2 h))
  subst e
  go_wp2
  go_ret
  exact ⟨by first | rfl | (simp; done) | (simp; omega), hb1⟩
theorem nodup_snoc (l : List ByteArray) (k : Nat) (h : k < l.length) (h0 : (l.take k).Nodup) : (l.take (k + 1)).Nodup ↔ inB (l.take k) l[k] = false := by
 rw [List.take_succ_eq_append_getElem h, List.nodup_append, inB_no]
 constructor
 · rintro ⟨_, _, h4⟩ hm
  exact h4 _ hm _ (List.mem_singleton.2 rfl) rfl
 · intro hn
  exact ⟨h0, by simp, fun x hx y hy e => hn (by rw [List.mem_singleton] at hy; rw [← hy, ← e]; exact hx)⟩
set_option maxHeartbeats 2000000 in
theorem differ_impl (n : Nat) (a : Option Addr) (cap : Nat) (l : List ByteArray) (hn : l.length = n) (w : World) (hrow : StrsAt w a l) (hm : n ≤ maxLen) (hcap : n ≤ cap) (b : Bool) (hb : decide l.Nodup = b) :
  Calls Tryz.prog 42 #[.slice a n cap] w fun e w' => e = .returned (.bool b) ∧ Below w.heap.size w w' := by
 have HR := hid hrow
 have HB := hid hb
 have HN := hid hn
 clear hrow hb hn
 unfold maxLen at hm
 go_enter Tryz.func42, Tryz.ntmps42
 go_wp2
 go_loopw [7] (fun kk wr => ∃ k : Nat, k ≤ n ∧ kk = .int .i64 k ∧ Hid ((l.take k).Nodup) ∧ Below w.heap.size w wr) (fun kk _ => n - (intOf kk).toNat)
 case atStart => exact ⟨0, Nat.zero_le _, rfl, List.nodup_nil, Below.refl _ _⟩
 case round =>
  obtain ⟨k, hk, rfl, hall, hbw⟩ := hrel
  by_cases hlt : k < n
  · have hlt' : k < l.length := by rw [HN.out]; exact hlt
   have HW : Hid (StrsAt wr a l) := HR.out.below hbw
   obtain ⟨g, o, rfl, hgw, c0⟩ := HW.out k hlt'
   have hi0 : (0 : Int) ≤ (k : Int) := by omega
   have hi1 : (k : Int) < (n : Int) := by omega
   have hkc : (k : Int) ≤ (cap : Int) := by omega
   have HS : Hid ((l.take (k + 1)).Nodup ↔ inB (l.take k) l[k] = false) := nodup_snoc l k hlt' hall.out
   have hno : Hid (inB (l.take k) l[k] = true → b = false) := by
    have : inB (l.take k) l[k] = true → b = false := by
     intro e
     rw [← HB.out, decide_eq_false_iff_not]
     intro h
     have := (nodup_snoc l k hlt' hall.out).1 (h.sublist (List.take_sublist _ _))
     rw [this] at e; cases e
    exact this
   have HT : Hid ((l.take k).length = k) := by
    have : (l.take k).length = k := by rw [List.length_take]; omega
    exact this
   obtain ⟨r, hr⟩ : ∃ r, inB (l.take k) l[k] = r := ⟨_, rfl⟩
   generalize l[k] = x at c0 HS hr hno
   have HRR := hid hr
   clear hr
   go_wp2_with fail
   refine (contains_str k _ _ (l.take k) HT.out x _ (HW.out.take k) (by unfold maxLen; omega) r HRR.out).mono ?_
   rintro e wA ⟨rfl, hbA⟩
   cases r
   · go_wp2
    go_roundw
    case rel => exact ⟨k + 1, by omega, by go_num, HS.out.2 HRR.out, chain hbw hbA⟩
    case measure => simp [intOf]; omega
   · have e := hno.out HRR.out
    subst e
    go_wp2
    go_ret
    exact ⟨rfl, chain hbw hbA⟩
  · have hkl : k = n := by omega
   subst hkl
   have hnn : ¬ (k : Int) < (k : Int) := by omega
   have e : b = true := by
    rw [← HB.out, decide_eq_true_eq]
    have := hall.out
    rw [← HN.out, List.take_length] at this
    exact this
   subst e
   go_wp2
   go_ret
   exact ⟨rfl, hbw⟩
set_option maxRecDepth 100000 in
set_option maxHeartbeats 2000000 in
theorem columns_impl (n : Nat) (a : Option Addr) (cap : Nat) (l : List ByteArray) (hn : l.length = n) (w : World) (hrow : StrsAt w a l) (hfit : FitS l) (hm : n ≤ maxLen) (hcap : n ≤ cap) (b : Bool) (hb : namesB l 1 6 = b) :
  Calls Tryz.prog 22 #[.slice a n cap] w fun e w' => e = .returned (.bool b) ∧ Below w.heap.size w w' := by
 have hmm := hm
 unfold maxLen at hmm
 unfold namesB namesD at hb
 rw [hn] at hb
 by_cases h1 : (n : Int) < 1
 · have e : b = false := by rw [← hb, decide_eq_false (by omega : ¬ (1 : Int) ≤ (n : Int)), Bool.false_and, Bool.and_false]
  subst e
  clear hb hrow hfit hn
  go_enter Tryz.func22, Tryz.ntmps22
  go_wp2
  go_ret
  exact ⟨rfl, Below.refl _ _⟩
 by_cases h6 : (6 : Int) < (n : Int)
 · have e : b = false := by rw [← hb, decide_eq_false (by omega : ¬ (n : Int) ≤ 6), Bool.and_false, Bool.and_false]
  subst e
  clear hb hrow hfit hn
  go_enter Tryz.func22, Tryz.ntmps22
  go_wp2
  go_ret
  exact ⟨rfl, Below.refl _ _⟩
 rw [decide_eq_true (by omega : (1 : Int) ≤ (n : Int)), decide_eq_true (by omega : (n : Int) ≤ 6), Bool.and_self, Bool.and_true] at hb
 obtain ⟨q, hq⟩ : ∃ q, l.all nameB = q := ⟨_, rfl⟩
 obtain ⟨d, hd⟩ : ∃ d, decide l.Nodup = d := ⟨_, rfl⟩
 rw [hq, hd] at hb
 have E : Hid (∀ w', Below w.heap.size w w' → Calls Tryz.prog 40 #[.agg #[.slice a n cap], .func (.func 41) #[] #[]] w' fun e w'' => e = .returned (.bool q) ∧ Below w'.heap.size w' w'') := by
  have : ∀ w', Below w.heap.size w w' → Calls Tryz.prog 40 #[.agg #[.slice a n cap], .func (.func 41) #[] #[]] w' fun e w'' => e = .returned (.bool q) ∧ Below w'.heap.size w' w'' := by
   subst hn
   exact fun w' hw => every_names a cap l w' (hrow.below hw) hfit hm q hq
  exact this
 have D : Hid (∀ w', Below w.heap.size w w' → Calls Tryz.prog 42 #[.slice a n cap] w' fun e w'' => e = .returned (.bool d) ∧ Below w'.heap.size w' w'') := by
  have : ∀ w', Below w.heap.size w w' → Calls Tryz.prog 42 #[.slice a n cap] w' fun e w'' => e = .returned (.bool d) ∧ Below w'.heap.size w' w'' :=
   fun w' hw => differ_impl n a cap l hn w' (hrow.below hw) hm hcap d hd
  exact this
 clear hrow hfit hn hq hd
 cases q
 · have e : b = false := by rw [← hb]; rfl
  subst e
  clear hb
  go_enter Tryz.func22, Tryz.ntmps22
  go_wp2_with fail
  refine (E.out _ (Below.refl _ _)).mono ?_
  rintro e w1 ⟨rfl, hb1⟩
  go_wp2
  go_ret
  exact ⟨rfl, hb1⟩
 · have e : d = b := by rw [← hb]; exact (Bool.true_and d).symm
  subst e
  clear hb
  go_enter Tryz.func22, Tryz.ntmps22
  go_wp2_with fail
  refine (E.out _ (Below.refl _ _)).mono ?_
  rintro e w1 ⟨rfl, hb1⟩
  go_wp2_with fail
  refine (D.out _ hb1).mono ?_
  rintro e w2 ⟨rfl, hb2⟩
  go_wp2
  go_ret
  exact ⟨rfl, chain hb1 hb2⟩
end Go.Proofs.YtjjkdbmjloolaaaGreatDoor
namespace Go.Proofs.YtjjkdbmjloolaaaGreatDoor
open Go.ChangeShapes Go.WideShapes Go.ChangeAt Go.RowKit
attribute [local go_sem ↓] Go.wp_at_zero Go.wp_at_succ
theorem columnof_impl (n : Nat) (a : Option Addr) (cap : Nat) (l : List ByteArray) (hn : l.length = n) (s : ByteArray) (w : World) (hrow : StrsAt w a l) (hm : n ≤ maxLen) :
  Calls Tryz.prog 88 #[.slice a n cap, .string s] w fun e w' => ∃ r, e = .returned (.int .i64 r) ∧ AtIs l s r ∧ Below w.heap.size w w' := by
 have HI : Hid (Calls Tryz.prog 76 #[.slice a n cap, .string s] w fun e w' => ∃ r, e = .returned (.int .i64 r) ∧ AtIs l s r ∧ Below w.heap.size w w') := index_str n a cap l hn s w hrow hm
 have HN := hid hn
 clear hrow hn
 unfold maxLen at hm
 go_enter Tryz.func88, Tryz.ntmps88
 go_wp2_with fail
 refine HI.out.mono ?_
 rintro e w1 ⟨r, rfl, hat, hb1⟩
 obtain ⟨h1, h2⟩ := hat.lt
 rw [HN.out] at h2
 have HA := hid hat
 clear hat
 go_wp2
 go_ret
 exact ⟨_, rfl, HA.out, hb1⟩
end Go.Proofs.YtjjkdbmjloolaaaGreatDoor
namespace Go.Proofs.YtjjkdbmjloolaaaGreatDoor
open Go.ChangeShapes Go.WideShapes Go.ChangeAt Go.RowKit Go.Joins
attribute [local go_sem ↓] Go.wp_at_zero Go.wp_at_succ
attribute [local simp] World.cell?_alloc_past World.cell?_alloc_at World.frozen?_alloc_at cell_far cell_off cell_here World.frozen?_alloc_past
theorem WrOut.box {w w1 w2 : World} {base B b : Nat} {M : Mkr} {r : Option (Int × Mkr)} {cv uv ov x0 x1 x2 : Value} {e : Ending} (h : WrOut w1 base B r cv uv ov e w2) (hM : MkI w base B M cv uv ov) (hbw : base ≤ w.heap.size) (hb : Below w.heap.size w w1) (hb1 : w.heap.size ≤ b) (hbx : w1.heap[b]? = some (.cells #[x0, x1, x2] 51)) (y0 y1 y2 : Value) :
  WrOut w base B r cv uv ov e (((w2.setCell ⟨b, 0, none⟩ y0).setCell ⟨b, 1, none⟩ y1).setCell ⟨b, 2, none⟩ y2) ∧ w2.heap[b]? = some (.cells #[x0, x1, x2] 51) := by
 have hlt := lt_of_heapN hbx
 have hBw := lt_of_heapN hM.box
 have hov : ∀ g, ov.ownBlock = some g → g < w.heap.size := fun g e => (hM.ops.lt g e).2
 have huv : ∀ g, uv.ownBlock = some g → g < w.heap.size := fun g e => (hM.outs.lt g e).2
 cases r with
 | none =>
  obtain ⟨h1, h2⟩ := h
  exact ⟨⟨h1, (((chain hb h2).setCell (p := ⟨b, 0, none⟩) hb1 _).setCell (p := ⟨b, 1, none⟩) hb1 _).setCell (p := ⟨b, 2, none⟩) hb1 _⟩, (h2.block _ hlt).trans hbx⟩
 | some q =>
  obtain ⟨ov', h1, h2, h3⟩ := h
  have hnb : ¬ mkiBlk B ov b := fun e => by
   rcases e with e | e
   · omega
   · have := hov _ e; omega
  have hbx2 := (h3.block b hlt hnb).trans hbx
  have KR := (((KeepS.refl (fun g => g = b) w2).setCell (p := ⟨b, 0, none⟩) rfl y0).setCell (p := ⟨b, 1, none⟩) rfl y1).setCell (p := ⟨b, 2, none⟩) rfl y2
  have KA : KeepS (mkiBlk B ov) w w2 := (KeepS.ofBelow hb).trans h3
  refine ⟨⟨ov', h1, h2.keepBox KR hbx2 ⟨by omega, fun e => by have := huv _ e; omega⟩, ?_⟩, hbx2⟩
  exact ⟨KR.os.trans KA.os, KR.tape.trans KA.tape, KR.output.trans KA.output, Nat.le_trans KA.size KR.size, fun i hi hn => (KR.block i (Nat.lt_of_lt_of_le hi KA.size) (fun e => by omega)).trans (KA.block i hi hn)⟩
def wrV (r : Option (Int × Mkr)) : FU × Bool := match r with | none => (zU, false) | some q => ((-1, q.1, trB q.2 q.1), true)
theorem WrOut.val {w w' : World} {base B : Nat} {r : Option (Int × Mkr)} {cv uv ov : Value} {e : Ending} (h : WrOut w base B r cv uv ov e w') : e = .returned (.tuple #[.agg #[.int .i64 (wrV r).1.1, .int .i64 (wrV r).1.2.1, .bool (wrV r).1.2.2], .bool (wrV r).2]) := by
 cases r with
 | none => exact h.1
 | some q => obtain ⟨_, h1, _⟩ := h; exact h1
set_option maxRecDepth 100000 in
set_option maxHeartbeats 4000000 in
theorem makescell_impl (B base : Nat) (M : Mkr) (ck cn : Int) (ct : ByteArray) (cv uv ov : Value) (w : World) (h : MkI w base B M cv uv ov) (g : GoodM M) (hm : M.ops.length ≤ 1048576) (hbw : base ≤ w.heap.size) :
  Calls Tryz.prog 109 #[.pointer (some ⟨B, 0, none⟩), .agg #[.int .i64 ck, .int .i64 cn, .string ct]] w (WrOut w base B (if ck = 1 ∨ ck = 3 then newO M (2, 0, cn, 0) (decide (ck = 3)) else none) cv uv ov) := by
 obtain ⟨E0, hE0, hA, h0, h1⟩ := two_boxes w (.cells #[.int .i64 ck, .int .i64 cn, .string ct] 95) (.cells #[.int .i64 0, .int .i64 0, .bool false] 51)
 have hMw := hid h
 have H := hid (h.below hA)
 have hBw := lt_of_heapN h.box
 have q0 : E0.cell? ⟨w.heap.size + 1, 0, none⟩ = some (.int .i64 0) := cell_of_row _ _ 0 _ _ _ h1
 have q1 : E0.cell? ⟨w.heap.size + 1, 1, none⟩ = some (.int .i64 0) := cell_of_row _ _ 1 _ _ _ h1
 have q2 : E0.cell? ⟨w.heap.size + 1, 2, none⟩ = some (.bool false) := cell_of_row _ _ 2 _ _ _ h1
 have hf : ∀ j, E0.frozen? ⟨w.heap.size + 1, j, none⟩ = false := fun j => by simp [World.frozen?, h1]
 have f0 := hf 0
 have f1 := hf 1
 have f2 := hf 2
 have H1 := hid h1
 have k0 : E0.cell? ⟨w.heap.size, 0, none⟩ = some (.int .i64 ck) := cell_of_row _ _ 0 _ _ _ h0
 have k1 : E0.cell? ⟨w.heap.size, 1, none⟩ = some (.int .i64 cn) := cell_of_row _ _ 1 _ _ _ h0
 clear h0 h1 hf h
 by_cases hc : ck = 1 ∨ ck = 3
 · rw [if_pos hc]
  rcases hc with rfl | rfl
  · skip
   have HW := hid (writes_impl B base M 2 0 cn 0 false cv uv ov E0 H.out g hm (Nat.le_trans hbw hA.size))
   have hkd : (decide ((1 : Int) = 3)) = false := by decide
   rw [hkd]
   go_enter Tryz.func109, Tryz.ntmps109
   go_wp2_with fail
   refine HW.out.mono ?_
   rintro e w2 hW
   have hv := hW.val
   obtain ⟨y0, y1, y2, ok, hy⟩ : ∃ y0 y1 y2 ok, wrV (newO M (2, 0, cn, 0) false) = ((y0, y1, y2), ok) := ⟨_, _, _, _, rfl⟩
   rw [hy] at hv
   subst hv
   obtain ⟨hF, hbx2⟩ := hW.box hMw.out hbw hA (Nat.le_succ _) H1.out (.int .i64 y0) (.int .i64 y1) (.bool y2)
   have FIN := hid hF
   have q0 : w2.cell? ⟨w.heap.size + 1, 0, none⟩ = some (.int .i64 0) := cell_of_row _ _ 0 _ _ _ hbx2
   have q1 : w2.cell? ⟨w.heap.size + 1, 1, none⟩ = some (.int .i64 0) := cell_of_row _ _ 1 _ _ _ hbx2
   have q2 : w2.cell? ⟨w.heap.size + 1, 2, none⟩ = some (.bool false) := cell_of_row _ _ 2 _ _ _ hbx2
   have hf : ∀ j, w2.frozen? ⟨w.heap.size + 1, j, none⟩ = false := fun j => by simp [World.frozen?, hbx2]
   have f0 := hf 0
   have f1 := hf 1
   have f2 := hf 2
   clear hW hF hbx2 hy hf hE0
   go_wp2_with fail
   exact bodyPost_ret (v := .tuple #[.agg #[.int .i64 y0, .int .i64 y1, .bool y2], .bool ok]) (by simp [results, Tryz.results109, go_sem, q0, q1, q2]) rfl FIN.out
  · skip
   have HW := hid (writes_impl B base M 2 0 cn 0 true cv uv ov E0 H.out g hm (Nat.le_trans hbw hA.size))
   have hkd : (decide ((3 : Int) = 3)) = true := by decide
   rw [hkd]
   go_enter Tryz.func109, Tryz.ntmps109
   go_wp2_with fail
   refine HW.out.mono ?_
   rintro e w2 hW
   have hv := hW.val
   obtain ⟨y0, y1, y2, ok, hy⟩ : ∃ y0 y1 y2 ok, wrV (newO M (2, 0, cn, 0) true) = ((y0, y1, y2), ok) := ⟨_, _, _, _, rfl⟩
   rw [hy] at hv
   subst hv
   obtain ⟨hF, hbx2⟩ := hW.box hMw.out hbw hA (Nat.le_succ _) H1.out (.int .i64 y0) (.int .i64 y1) (.bool y2)
   have FIN := hid hF
   have q0 : w2.cell? ⟨w.heap.size + 1, 0, none⟩ = some (.int .i64 0) := cell_of_row _ _ 0 _ _ _ hbx2
   have q1 : w2.cell? ⟨w.heap.size + 1, 1, none⟩ = some (.int .i64 0) := cell_of_row _ _ 1 _ _ _ hbx2
   have q2 : w2.cell? ⟨w.heap.size + 1, 2, none⟩ = some (.bool false) := cell_of_row _ _ 2 _ _ _ hbx2
   have hf : ∀ j, w2.frozen? ⟨w.heap.size + 1, j, none⟩ = false := fun j => by simp [World.frozen?, hbx2]
   have f0 := hf 0
   have f1 := hf 1
   have f2 := hf 2
   clear hW hF hbx2 hy hf hE0
   go_wp2_with fail
   exact bodyPost_ret (v := .tuple #[.agg #[.int .i64 y0, .int .i64 y1, .bool y2], .bool ok]) (by simp [results, Tryz.results109, go_sem, q0, q1, q2]) rfl FIN.out
 · rw [if_neg hc]
  have h1 : (ck != 1) = true := by simp; omega
  have h3 : (ck != 3) = true := by simp; omega
  have FIN := hid (p := WrOut w base B none cv uv ov (.returned (.tuple #[fuV zU, .bool false])) (((E0.setCell ⟨w.heap.size + 1, 0, none⟩ (.int .i64 0)).setCell ⟨w.heap.size + 1, 1, none⟩ (.int .i64 0)).setCell ⟨w.heap.size + 1, 2, none⟩ (.bool false))) ⟨rfl, ((hA.setCell (p := ⟨w.heap.size + 1, 0, none⟩) (Nat.le_succ _) _).setCell (p := ⟨w.heap.size + 1, 1, none⟩) (Nat.le_succ _) _).setCell (p := ⟨w.heap.size + 1, 2, none⟩) (Nat.le_succ _) _⟩
  go_enter Tryz.func109, Tryz.ntmps109
  go_wp2_with fail
  exact bodyPost_ret (v := .tuple #[fuV zU, .bool false]) (by simp [results, Tryz.results109, go_sem, q0, q1, q2, fuV, zU]) rfl FIN.out
def colO (M : Mkr) (u : FU) : Option (Int × Mkr) := if 0 ≤ u.2.1 then some (u.2.1, M) else newO M (1, 0, u.1, 0) false
set_option maxRecDepth 100000 in
set_option maxHeartbeats 4000000 in
theorem makescol_impl (B base : Nat) (M : Mkr) (uc ur : Int) (ut : Bool) (cv uv ov : Value) (w : World) (h : MkI w base B M cv uv ov) (g : GoodM M) (hu : (ur = -1 ∧ ut = false ∧ 0 ≤ uc) ∨ (uc = -1 ∧ 0 ≤ ur ∧ ur < M.tr.length ∧ ut = trB M ur)) (hm : M.ops.length ≤ 1048576) (hbw : base ≤ w.heap.size) :
  Calls Tryz.prog 110 #[.pointer (some ⟨B, 0, none⟩), .agg #[.int .i64 uc, .int .i64 ur, .bool ut]] w (WrOut w base B (colO M (uc, ur, ut)) cv uv ov) := by
 obtain ⟨E0, hE0, hA, h0, h1⟩ := two_boxes w (.cells #[.int .i64 uc, .int .i64 ur, .bool ut] 51) (.cells #[.int .i64 0, .int .i64 0, .bool false] 51)
 have hMw := hid h
 have H := hid (h.below hA)
 have hBw := lt_of_heapN h.box
 have q0 : E0.cell? ⟨w.heap.size + 1, 0, none⟩ = some (.int .i64 0) := cell_of_row _ _ 0 _ _ _ h1
 have q1 : E0.cell? ⟨w.heap.size + 1, 1, none⟩ = some (.int .i64 0) := cell_of_row _ _ 1 _ _ _ h1
 have q2 : E0.cell? ⟨w.heap.size + 1, 2, none⟩ = some (.bool false) := cell_of_row _ _ 2 _ _ _ h1
 have hf : ∀ j, E0.frozen? ⟨w.heap.size + 1, j, none⟩ = false := fun j => by simp [World.frozen?, h1]
 have f0 := hf 0
 have f1 := hf 1
 have f2 := hf 2
 have H1 := hid h1
 have k0 : E0.cell? ⟨w.heap.size, 0, none⟩ = some (.int .i64 uc) := cell_of_row _ _ 0 _ _ _ h0
 have k1 : E0.cell? ⟨w.heap.size, 1, none⟩ = some (.int .i64 ur) := cell_of_row _ _ 1 _ _ _ h0
 have k2 : E0.cell? ⟨w.heap.size, 2, none⟩ = some (.bool ut) := cell_of_row _ _ 2 _ _ _ h0
 clear h0 h1 hf h
 by_cases hc : 0 ≤ ur
 · have HQ := hid (p := colO M (uc, ur, ut) = some (ur, M)) (if_pos hc)
  rw [HQ.out]
  obtain ⟨e1, e2, e3, e4⟩ : uc = -1 ∧ 0 ≤ ur ∧ ur < M.tr.length ∧ ut = trB M ur := by
   rcases hu with h | h
   · omega
   · exact h
  subst e1
  have hne : (ur != -1) = true := by simp; omega
  have huv : ∀ g, uv.ownBlock = some g → g < w.heap.size := fun g e => (hMw.out.outs.lt g e).2
  have FIN := hid (p := WrOut w base B (some (ur, M)) cv uv ov (.returned (.tuple #[.agg #[.int .i64 (-1), .int .i64 ur, .bool ut], .bool true])) (((E0.setCell ⟨w.heap.size + 1, 0, none⟩ (.int .i64 (-1))).setCell ⟨w.heap.size + 1, 1, none⟩ (.int .i64 ur)).setCell ⟨w.heap.size + 1, 2, none⟩ (.bool ut))) (by
   have KR := (((KeepS.refl (fun g => g = w.heap.size + 1) E0).setCell (p := ⟨w.heap.size + 1, 0, none⟩) rfl (.int .i64 (-1))).setCell (p := ⟨w.heap.size + 1, 1, none⟩) rfl (.int .i64 ur)).setCell (p := ⟨w.heap.size + 1, 2, none⟩) rfl (.bool ut)
   refine ⟨ov, by rw [e4]; rfl, H.out.keepBox KR H1.out ⟨by omega, fun e => by have := huv _ e; omega⟩, ?_⟩
   exact KeepS.ofBelow (((hA.setCell (p := ⟨w.heap.size + 1, 0, none⟩) (Nat.le_succ _) _).setCell (p := ⟨w.heap.size + 1, 1, none⟩) (Nat.le_succ _) _).setCell (p := ⟨w.heap.size + 1, 2, none⟩) (Nat.le_succ _) _))
  clear e4 hu
  go_enter Tryz.func110, Tryz.ntmps110
  go_wp2_with fail
  exact bodyPost_ret (v := .tuple #[.agg #[.int .i64 (-1), .int .i64 ur, .bool ut], .bool true]) (by simp [results, Tryz.results110, go_sem, q0, q1, q2]) rfl FIN.out
 · have hur : ur = -1 := by
   rcases hu with h | h
   · exact h.1
   · omega
  subst hur
  have HQ := hid (p := colO M (uc, -1, ut) = newO M (1, 0, uc, 0) false) (if_neg hc)
  rw [HQ.out]
  have HW := hid (writes_impl B base M 1 0 uc 0 false cv uv ov E0 H.out g hm (Nat.le_trans hbw hA.size))
  clear hu
  go_enter Tryz.func110, Tryz.ntmps110
  go_wp2_with fail
  refine HW.out.mono ?_
  rintro e w2 hW
  have hv := hW.val
  obtain ⟨y0, y1, y2, ok, hy⟩ : ∃ y0 y1 y2 ok, wrV (newO M (1, 0, uc, 0) false) = ((y0, y1, y2), ok) := ⟨_, _, _, _, rfl⟩
  rw [hy] at hv
  subst hv
  obtain ⟨hF, hbx2⟩ := hW.box hMw.out hbw hA (Nat.le_succ _) H1.out (.int .i64 y0) (.int .i64 y1) (.bool y2)
  have FIN := hid hF
  have q0 : w2.cell? ⟨w.heap.size + 1, 0, none⟩ = some (.int .i64 0) := cell_of_row _ _ 0 _ _ _ hbx2
  have q1 : w2.cell? ⟨w.heap.size + 1, 1, none⟩ = some (.int .i64 0) := cell_of_row _ _ 1 _ _ _ hbx2
  have q2 : w2.cell? ⟨w.heap.size + 1, 2, none⟩ = some (.bool false) := cell_of_row _ _ 2 _ _ _ hbx2
  have hf : ∀ j, w2.frozen? ⟨w.heap.size + 1, j, none⟩ = false := fun j => by simp [World.frozen?, hbx2]
  have f0 := hf 0
  have f1 := hf 1
  have f2 := hf 2
  clear hW hF hbx2 hy hf hE0
  go_wp2_with fail
  exact bodyPost_ret (v := .tuple #[.agg #[.int .i64 y0, .int .i64 y1, .bool y2], .bool ok]) (by simp [results, Tryz.results110, go_sem, q0, q1, q2]) rfl FIN.out
end Go.Proofs.YtjjkdbmjloolaaaGreatDoor
