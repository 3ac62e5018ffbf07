/-
  A part of the proof: SvI1b, SvI2, Itm2, Open4.
-/
import Derived.Test.YtjiaciikbnpicaaGreatDoorPart34
import Derived.Test.YtjiaciikbnpicaaGreatDoorPart29
import Derived.Test.YtjiaciikbnpicaaGreatDoorPart32
import Derived.Test.YtjiaciikbnpicaaGreatDoorPart21
import Derived.Test.YtjiaciikbnpicaaGreatDoorPart14
import Derived.Test.YtjiaciikbnpicaaGreatDoorPart27
import Derived.Test.YtjiaciikbnpicaaGreatDoorPart20
import Derived.Lib.SmallJoins

/-
  The contract of the program's question whether a sieve is right.
-/
namespace Go.Proofs.YtjiaciikbnpicaaGreatDoor
open Go.ChangeShapes Go.WideShapes Go.ChangeAt Go.RowKit
attribute [local go_sem ↓] Go.wp_at_zero Go.wp_at_succ
attribute [local simp] World.cell?_alloc_past World.cell?_alloc_at World.frozen?_alloc_at cell_far cell_off cell_here World.frozen?_alloc_past

theorem wpList_unguardV {P : Program} {ops : Array Oper} {Q : Exit → Act → World → Prop} {a : Act} {w : World} {rest : List Oper} {d : Option Tmp} {op : Op} {ty : TypeId} {ps : String} {af : Array Edge} {g : Option (Nat × Bool)}
    (hw : Region.wanted { dst := d, op := op, type := ty, pos := ps, after := af, guard := g } (yielded ops a.tmps) = true)
    (h : wpList P ops Q ({ dst := d, op := op, type := ty, pos := ps, after := af, guard := none } :: rest) a w) : wpList P ops Q ({ dst := d, op := op, type := ty, pos := ps, after := af, guard := g } :: rest) a w := by
  unfold wpList at h ⊢
  rw [if_pos hw]
  rw [if_pos (by simp [Region.wanted])] at h
  exact h
set_option maxRecDepth 100000 in
set_option maxHeartbeats 4000000 in
theorem right_impl (k : Int) (nm : ByteArray) (na : Option Addr) (nn nc : Nat) (N : List ByteArray) (hnn : N.length = nn) (sa : Option Addr) (sn sc : Nat) (S : List TI) (hsn : S.length = sn) (dn : Bool) (ct sk : Int) (fw : ByteArray) (fn : Bool) (ff fm : Int) (fa : ByteArray) (fs fl : Bool) (fc : Int) (w : World) (hp : PowAt w) (he : ErrAt w) (hs : SivAt w na nc sa ⟨k, nm, N, S, dn, ct, sk⟩) (hmild : MildV ⟨k, nm, N, S, dn, ct, sk⟩) (b : Bool) (hb : rightF ⟨fw, fn, ff, fm, fa, fs, fl, fc⟩ ⟨k, nm, N, S, dn, ct, sk⟩ = b) :
    Calls Tryz.prog 102 #[.agg #[.slice sa sn sc, .string fw, .bool fn, .int .i64 ff, .int .i64 fm, .string fa, .bool fs, .bool fl, .int .i64 fc, .int .i64 k, .string nm, .slice na nn nc, .slice sa sn sc, .bool dn, .int .i64 ct, .int .i64 sk]] w fun e w' => e = .returned (.bool b) ∧ Below w.heap.size w w' := by
  have hnM : nn ≤ maxLen := by rw [← hnn]; exact hs.lenN
  have hsM : sn ≤ maxLen := by rw [← hsn]; exact hs.lenI
  have hcap : nn ≤ nc := by rw [← hnn]; exact hs.capN
  have hfitN : ∀ x ∈ N, x.size ≤ 1048576 := by
    intro x hx
    obtain ⟨j, hj, rfl⟩ := List.mem_iff_getElem.1 hx
    have h1 := weightS_take N j hj
    have h2 := weightS_le N (j + 1)
    have h3 : weightS N ≤ 1048576 := hmild.2.2.1
    omega
  have hfitI : FitI S := by
    intro x hx
    have h1 := oneI_le hx
    have h3 : weightItm S ≤ 1048576 := hmild.2.2.2.2
    unfold oneItm at h1
    unfold maxLen
    exact ⟨by omega, by omega⟩
  have hnm : nm.size ≤ 1048576 := hmild.1
  obtain ⟨r1, hr1⟩ : ∃ r, nameF ⟨fw, fn, ff, fm, fa, fs, fl, fc⟩ ⟨k, nm, N, S, dn, ct, sk⟩ = r := ⟨_, rfl⟩
  obtain ⟨r2, hr2⟩ : ∃ r, namesF ⟨fw, fn, ff, fm, fa, fs, fl, fc⟩ ⟨k, nm, N, S, dn, ct, sk⟩ = r := ⟨_, rfl⟩
  obtain ⟨r3, hr3⟩ : ∃ r, sumF ⟨fw, fn, ff, fm, fa, fs, fl, fc⟩ ⟨k, nm, N, S, dn, ct, sk⟩ = r := ⟨_, rfl⟩
  obtain ⟨r4, hr4⟩ : ∃ r, canF ⟨fw, fn, ff, fm, fa, fs, fl, fc⟩ ct = r := ⟨_, rfl⟩
  obtain ⟨r5, hr5⟩ : ∃ r, canF ⟨fw, fn, ff, fm, fa, fs, fl, fc⟩ sk = r := ⟨_, rfl⟩
  have C1 : Hid (∀ w', Below w.heap.size w w' → Calls Tryz.prog 138 #[.agg #[.slice sa sn sc, .string fw, .bool fn, .int .i64 ff, .int .i64 fm, .string fa, .bool fs, .bool fl, .int .i64 fc, .int .i64 k, .string nm, .slice na nn nc, .slice sa sn sc, .bool dn, .int .i64 ct, .int .i64 sk]] w' fun e w'' => e = .returned (.bool r1) ∧ Below w'.heap.size w' w'') :=
    fun w' hw => namer_impl k nm na nn nc N hnn sa sn sc S hsn dn ct sk fw fn ff fm fa fs fl fc w' (hp.below hw) (he.below hw) hnm r1 hr1
  have C2 : Hid (∀ w', Below w.heap.size w w' → Calls Tryz.prog 139 #[.agg #[.slice sa sn sc, .string fw, .bool fn, .int .i64 ff, .int .i64 fm, .string fa, .bool fs, .bool fl, .int .i64 fc, .int .i64 k, .string nm, .slice na nn nc, .slice sa sn sc, .bool dn, .int .i64 ct, .int .i64 sk]] w' fun e w'' => e = .returned (.bool r2) ∧ Below w'.heap.size w' w'') :=
    fun w' hw => namesr_impl k nm na nn nc N hnn sa sn sc S hsn dn ct sk fw fn ff fm fa fs fl fc w' (hp.below hw) (he.below hw) (hs.names.below hw) hfitN hnM hcap r2 hr2
  have C3 : Hid (∀ w', Below w.heap.size w w' → Calls Tryz.prog 140 #[.slice sa sn sc, .bool fs] w' fun e w'' => e = .returned (.bool r3) ∧ Below w'.heap.size w' w'') :=
    fun w' hw => sumfits_impl sa sn sc S hsn fs w' (hp.below hw) (he.below hw) (hs.sum.below hw) hfitI hsM r3 hr3
  have C4 : Hid (∀ w', Calls Tryz.prog 141 #[.agg #[.slice sa sn sc, .string fw, .bool fn, .int .i64 ff, .int .i64 fm, .string fa, .bool fs, .bool fl, .int .i64 fc, .int .i64 k, .string nm, .slice na nn nc, .slice sa sn sc, .bool dn, .int .i64 ct, .int .i64 sk], .int .i64 ct] w' fun e w'' => e = .returned (.bool r4) ∧ Below w'.heap.size w' w'') :=
    fun w' => can_impl k nm na nn nc N hnn sa sn sc S hsn dn ct sk fw fn ff fm fa fs fl fc ct w' r4 hr4
  have C5 : Hid (∀ w', Calls Tryz.prog 141 #[.agg #[.slice sa sn sc, .string fw, .bool fn, .int .i64 ff, .int .i64 fm, .string fa, .bool fs, .bool fl, .int .i64 fc, .int .i64 k, .string nm, .slice na nn nc, .slice sa sn sc, .bool dn, .int .i64 ct, .int .i64 sk], .int .i64 sk] w' fun e w'' => e = .returned (.bool r5) ∧ Below w'.heap.size w' w'') :=
    fun w' => can_impl k nm na nn nc N hnn sa sn sc S hsn dn ct sk fw fn ff fm fa fs fl fc sk w' r5 hr5
  obtain ⟨r0, hr0⟩ : ∃ r, decide (fw = ⟨#[]⟩) = r := ⟨_, rfl⟩
  have hv : (!r0 && (r1 && (r2 && (r3 && ((fl || !dn) && (r4 && r5)))))) = b := by
    rw [← hb]; unfold rightF; dsimp only; rw [hr0, hr1, hr2, hr3, hr4, hr5]
  have hz := zero_txt fw r0 hr0
  clear hb hr0 hr1 hr2 hr3 hr4 hr5 hnn hsn hp he hs hmild hnM hsM hcap hfitN hfitI hnm
  subst hv
  have hA : ∀ o o', Below w.heap.size w ((w.alloc o).alloc o') := fun o o' => ((Below.refl _ _).alloc (Nat.le_refl _) o).alloc (by simp) o'
  cases r0
  rotate_left
  · go_enter Tryz.func102, Tryz.ntmps102
    go_wp2
    go_ret
    exact ⟨rfl, hA _ _⟩
  have HG0 : Hid (((w.alloc (.cells #[.slice sa sn sc, .string fw, .bool fn, .int .i64 ff, .int .i64 fm, .string fa, .bool fs, .bool fl, .int .i64 fc, .int .i64 k, .string nm, .slice na nn nc, .slice sa sn sc, .bool dn, .int .i64 ct, .int .i64 sk] 147)).alloc (.cells #[.int .i64 k, .string nm, .slice na nn nc, .slice sa sn sc, .bool dn, .int .i64 ct, .int .i64 sk] 33)).heap[w.heap.size]? = some (.cells #[.slice sa sn sc, .string fw, .bool fn, .int .i64 ff, .int .i64 fm, .string fa, .bool fs, .bool fl, .int .i64 fc, .int .i64 k, .string nm, .slice na nn nc, .slice sa sn sc, .bool dn, .int .i64 ct, .int .i64 sk] 147)) := by
    have h : ((w.alloc (.cells #[.slice sa sn sc, .string fw, .bool fn, .int .i64 ff, .int .i64 fm, .string fa, .bool fs, .bool fl, .int .i64 fc, .int .i64 k, .string nm, .slice na nn nc, .slice sa sn sc, .bool dn, .int .i64 ct, .int .i64 sk] 147)).alloc (.cells #[.int .i64 k, .string nm, .slice na nn nc, .slice sa sn sc, .bool dn, .int .i64 ct, .int .i64 sk] 33)).heap[w.heap.size]? = some (.cells #[.slice sa sn sc, .string fw, .bool fn, .int .i64 ff, .int .i64 fm, .string fa, .bool fs, .bool fl, .int .i64 fc, .int .i64 k, .string nm, .slice na nn nc, .slice sa sn sc, .bool dn, .int .i64 ct, .int .i64 sk] 147) := by
      rw [_root_.Go.heap_alloc_old (h := by simp)]; exact _root_.Go.heap_alloc_new _ _
    exact h
  go_enter Tryz.func102, Tryz.ntmps102
  go_wp2_with (refine wpList_unguardV (by first | rfl | simp [Region.wanted, yielded]) ?_; refine wpList_load_row rfl 147 _ rfl w.heap.size rfl 147 _ _ _ HG0.out Tryz.underlying147 rfl (by kernel_rfl) ?_)
  refine (C1.out _ (hA _ _)).mono ?_
  rintro e w1 ⟨rfl, hb1⟩
  have hx := chain (hA _ _) hb1
  have hlt : w.heap.size < w1.heap.size := Nat.lt_of_lt_of_le (by simp; omega) hb1.size
  have p : Hid (w1.heap[w.heap.size]? = some (.cells #[.slice sa sn sc, .string fw, .bool fn, .int .i64 ff, .int .i64 fm, .string fa, .bool fs, .bool fl, .int .i64 fc, .int .i64 k, .string nm, .slice na nn nc, .slice sa sn sc, .bool dn, .int .i64 ct, .int .i64 sk] 147)) := (hb1.block _ (by simp; omega)).trans HG0.out
  have q := box7 hb1
  simp only [alloc_one] at q
  clear hb1 hA HG0

  cases r1
  · go_wp2
    go_ret
    exact ⟨rfl, hx⟩
  have p0 : w1.cell? ⟨w.heap.size, 0, none⟩ = some (.slice sa sn sc) := cell_of_row _ _ _ _ _ _ p.out
  have p6 : w1.cell? ⟨w.heap.size, 6, none⟩ = some (.bool fs) := cell_of_row _ _ _ _ _ _ p.out
  have p7 : w1.cell? ⟨w.heap.size, 7, none⟩ = some (.bool fl) := cell_of_row _ _ _ _ _ _ p.out
  obtain ⟨q0, q1, q2, q3, q4, q5, q6, q7⟩ := id q
  go_wp2_with (refine wpList_unguardV (by first | rfl | simp [Region.wanted, yielded]) ?_; refine wpList_load_row rfl 147 _ rfl w.heap.size rfl 147 _ _ _ p.out Tryz.underlying147 rfl (by kernel_rfl) ?_)
  refine (C2.out _ hx).mono ?_
  rintro e w2 ⟨rfl, hb1⟩
  replace p : Hid (_ = _) := (hb1.block _ hlt).trans p.out
  replace q := later7 hb1 q
  replace hx := chain hx hb1
  replace hlt := Nat.lt_of_lt_of_le hlt hb1.size
  clear hb1 p0 p6 p7 q0 q1 q2 q3 q4 q5 q6 q7
  cases r2
  · go_wp2
    go_ret
    exact ⟨rfl, hx⟩
  have p0 : w2.cell? ⟨w.heap.size, 0, none⟩ = some (.slice sa sn sc) := cell_of_row _ _ _ _ _ _ p.out
  have p6 : w2.cell? ⟨w.heap.size, 6, none⟩ = some (.bool fs) := cell_of_row _ _ _ _ _ _ p.out
  have p7 : w2.cell? ⟨w.heap.size, 7, none⟩ = some (.bool fl) := cell_of_row _ _ _ _ _ _ p.out
  obtain ⟨q0, q1, q2, q3, q4, q5, q6, q7⟩ := id q
  go_wp2_with (refine wpList_unguardV (by first | rfl | simp [Region.wanted, yielded]) ?_; refine wpList_load_row rfl 147 _ rfl w.heap.size rfl 147 _ _ _ p.out Tryz.underlying147 rfl (by kernel_rfl) ?_)
  refine (C3.out _ hx).mono ?_
  rintro e w3 ⟨rfl, hb1⟩
  replace p : Hid (_ = _) := (hb1.block _ hlt).trans p.out
  replace q := later7 hb1 q
  replace hx := chain hx hb1
  replace hlt := Nat.lt_of_lt_of_le hlt hb1.size
  clear hb1 p0 p6 p7 q0 q1 q2 q3 q4 q5 q6 q7
  cases r3
  · go_wp2
    go_ret
    exact ⟨rfl, hx⟩
  have p0 : w3.cell? ⟨w.heap.size, 0, none⟩ = some (.slice sa sn sc) := cell_of_row _ _ _ _ _ _ p.out
  have p6 : w3.cell? ⟨w.heap.size, 6, none⟩ = some (.bool fs) := cell_of_row _ _ _ _ _ _ p.out
  have p7 : w3.cell? ⟨w.heap.size, 7, none⟩ = some (.bool fl) := cell_of_row _ _ _ _ _ _ p.out
  obtain ⟨q0, q1, q2, q3, q4, q5, q6, q7⟩ := id q
  cases fl
  · cases dn
    · go_wp2_with (refine wpList_unguardV (by first | rfl | simp [Region.wanted, yielded]) ?_; refine wpList_load_row rfl 147 _ rfl w.heap.size rfl 147 _ _ _ p.out Tryz.underlying147 rfl (by kernel_rfl) ?_)
      refine (C4.out _).mono ?_
      rintro e w4 ⟨rfl, hb1⟩
      replace p : Hid (_ = _) := (hb1.block _ hlt).trans p.out
      replace q := later7 hb1 q
      replace hx := chain hx hb1
      replace hlt := Nat.lt_of_lt_of_le hlt hb1.size
      clear hb1 p0 p6 p7 q0 q1 q2 q3 q4 q5 q6 q7
      cases r4
      · go_wp2
        go_ret
        exact ⟨rfl, hx⟩
      obtain ⟨q0, q1, q2, q3, q4, q5, q6, q7⟩ := q
      go_wp2_with (refine wpList_unguardV (by first | rfl | simp [Region.wanted, yielded]) ?_; refine wpList_load_row rfl 147 _ rfl w.heap.size rfl 147 _ _ _ p.out Tryz.underlying147 rfl (by kernel_rfl) ?_)
      refine (C5.out _).mono ?_
      rintro e w5 ⟨rfl, hb1⟩
      replace hx := chain hx hb1
      go_wp2
      go_ret
      exact ⟨rfl, hx⟩
    · go_wp2
      go_ret
      exact ⟨rfl, hx⟩
  · go_wp2_with (refine wpList_unguardV (by first | rfl | simp [Region.wanted, yielded]) ?_; refine wpList_load_row rfl 147 _ rfl w.heap.size rfl 147 _ _ _ p.out Tryz.underlying147 rfl (by kernel_rfl) ?_)
    refine (C4.out _).mono ?_
    rintro e w4 ⟨rfl, hb1⟩
    replace p : Hid (_ = _) := (hb1.block _ hlt).trans p.out
    replace q := later7 hb1 q
    replace hx := chain hx hb1
    replace hlt := Nat.lt_of_lt_of_le hlt hb1.size
    clear hb1 p0 p6 p7 q0 q1 q2 q3 q4 q5 q6 q7
    cases r4
    · go_wp2
      go_ret
      exact ⟨rfl, hx⟩
    obtain ⟨q0, q1, q2, q3, q4, q5, q6, q7⟩ := q
    go_wp2_with (refine wpList_unguardV (by first | rfl | simp [Region.wanted, yielded]) ?_; refine wpList_load_row rfl 147 _ rfl w.heap.size rfl 147 _ _ _ p.out Tryz.underlying147 rfl (by kernel_rfl) ?_)
    refine (C5.out _).mono ?_
    rintro e w5 ⟨rfl, hb1⟩
    replace hx := chain hx hb1
    go_wp2
    go_ret
    exact ⟨rfl, hx⟩

set_option maxRecDepth 100000 in
set_option maxHeartbeats 2000000 in
theorem sieve_impl (k : Int) (nm : ByteArray) (na : Option Addr) (nn nc : Nat) (N : List ByteArray) (hnn : N.length = nn) (sa : Option Addr) (sn sc : Nat) (S : List TI) (hsn : S.length = sn) (dn : Bool) (ct sk : Int) (w : World) (hp : PowAt w) (he : ErrAt w) (hs : SivAt w na nc sa ⟨k, nm, N, S, dn, ct, sk⟩) (hmild : MildV ⟨k, nm, N, S, dn, ct, sk⟩) (b : Bool) (hb : sieveB ⟨k, nm, N, S, dn, ct, sk⟩ = b) :
    Calls Tryz.prog 67 #[.agg #[.int .i64 k, .string nm, .slice na nn nc, .slice sa sn sc, .bool dn, .int .i64 ct, .int .i64 sk]] w fun e w' => e = .returned (.bool b) ∧ Below w.heap.size w w' := by
  obtain ⟨fw, fn, ff, fm, fa, fs, fl, fc, hf⟩ : ∃ fw fn ff fm fa fs fl fc, formF k = FS.mk fw fn ff fm fa fs fl fc := ⟨_, _, _, _, _, _, _, _, rfl⟩
  have hr : rightF (FS.mk fw fn ff fm fa fs fl fc) ⟨k, nm, N, S, dn, ct, sk⟩ = b := by rw [← hf, ← hb]; exact right_form ⟨k, nm, N, S, dn, ct, sk⟩
  have R : Hid (∀ w', Below w.heap.size w w' → Calls Tryz.prog 102 #[.agg #[.slice sa sn sc, .string fw, .bool fn, .int .i64 ff, .int .i64 fm, .string fa, .bool fs, .bool fl, .int .i64 fc, .int .i64 k, .string nm, .slice na nn nc, .slice sa sn sc, .bool dn, .int .i64 ct, .int .i64 sk]] w' fun e w'' => e = .returned (.bool b) ∧ Below w'.heap.size w' w'') :=
    fun w' hw => right_impl k nm na nn nc N hnn sa sn sc S hsn dn ct sk fw fn ff fm fa fs fl fc w' (hp.below hw) (he.below hw) (hs.below hw) hmild b hr
  have HF : Hid (formF k = FS.mk fw fn ff fm fa fs fl fc) := hf
  clear hf hr hp he hs hmild hb hnn hsn
  have hA : ∀ o, Below w.heap.size w (w.alloc o) := fun o => (Below.refl _ _).alloc (Nat.le_refl _) o
  go_enter Tryz.func67, Tryz.ntmps67
  go_wp2_with fail
  refine (formed_impl k nm na nn nc sa sn sc dn ct sk fw fn ff fm fa fs fl fc HF.out _).mono ?_
  rintro e w1 ⟨rfl, hb1⟩
  have hx := chain (hA _) hb1
  clear hb1
  go_wp2_with fail
  refine (R.out _ (by first | exact hx | exact hx.trans (by go_grown))).mono ?_
  rintro e w2 ⟨rfl, hb2⟩
  go_wp2
  go_ret
  exact ⟨rfl, by first | exact chain hx hb2 | exact chain (hx.trans (by go_grown)) hb2⟩
end Go.Proofs.YtjiaciikbnpicaaGreatDoor

/-
  The contract of the program's AskOk.
-/
namespace Go.Proofs.YtjiaciikbnpicaaGreatDoor
open Go.ChangeShapes Go.WideShapes Go.ChangeAt Go.RowKit
attribute [local go_sem ↓] Go.wp_at_zero Go.wp_at_succ
attribute [local simp] World.cell?_alloc_past World.cell?_alloc_at World.frozen?_alloc_at cell_far cell_off cell_here World.frozen?_alloc_past

set_option maxRecDepth 100000 in
set_option maxHeartbeats 4000000 in
theorem ask_impl (a : Option Addr) (cap : Nat) (T : List SV) (n : Nat) (hn : T.length = n) (w : World) (hrow : SivsAt w a T) (hmild : ∀ i (hi : i < T.length), MildV T[i]) (hm : n ≤ maxLen) (hp : PowAt w) (he : ErrAt w) (b : Bool) (hb : askB T = b) :
    Calls Tryz.prog 62 #[.slice a n cap] w fun e w' => e = .returned (.bool b) ∧ Below w.heap.size w w' := by
  have HR : Hid (SivsAt w a T) := hrow
  have HN : Hid (T.length = n) := hn
  have HM : Hid (∀ i (hi : i < T.length), MildV T[i]) := hmild
  have HP : Hid (PowAt w) := hp
  have HE : Hid (ErrAt w) := he
  have hm6 := hm
  unfold maxLen at hm6
  rw [ask_good, hn] at hb
  by_cases h1 : (n : Int) < 1
  · obtain rfl : b = false := by rw [← hb, decide_eq_false (show ¬ (1 : Int) ≤ (n : Int) by omega)]; simp
    clear hb hrow hn hmild hp he
    go_enter Tryz.func62, Tryz.ntmps62
    go_wp2
    go_ret
    exact ⟨rfl, Below.refl _ _⟩
  by_cases h8 : (8 : Int) < (n : Int)
  · obtain rfl : b = false := by rw [← hb, decide_eq_false (show ¬ (n : Int) ≤ 8 by omega)]; simp
    clear hb hrow hn hmild hp he
    go_enter Tryz.func62, Tryz.ntmps62
    go_wp2
    go_ret
    exact ⟨rfl, Below.refl _ _⟩
  rw [decide_eq_true (show (1 : Int) ≤ (n : Int) by omega), decide_eq_true (show (n : Int) ≤ 8 by omega), Bool.and_self, Bool.and_true] at hb
  have HG : Hid (goodL 0 (T.drop 0) = b) := hb
  clear hrow hn hb hmild hp he
  go_enter Tryz.func62, Tryz.ntmps62
  go_wp2
  go_loopw [15] (fun iv wr => ∃ k : Nat, k ≤ n ∧ iv = .int .i64 k ∧ Hid (goodL k (T.drop k) = b) ∧ Below w.heap.size w wr) (fun iv _ => n - (intOf iv).toNat)
  case atStart => exact ⟨0, Nat.zero_le _, rfl, HG, Below.refl _ _⟩
  case round =>
    obtain ⟨k, hk, rfl, hg, hbw⟩ := hrel
    by_cases hlt : k < n
    · have hlk : k < T.length := by rw [HN.out]; exact hlt
      obtain ⟨g, o, na, nc, sa, sc, rfl, hgw, ⟨c0, c1, c2, c3, c4, c5, c6⟩, ht⟩ := HR.out.below hbw k hlk
      have hi0 : (0 : Int) ≤ (k : Int) := by omega
      have hi1 : (k : Int) < (n : Int) := by omega
      have hmk := HM.out k hlk
      have HST : Hid ((goodS k T[k] && goodL (k + 1) (T.drop (k + 1))) = b) := by
        have := hg.out
        rw [goodL_step T k hlk] at this
        exact this
      generalize T[k] = s at c0 c1 c2 c3 c4 c5 c6 ht HST hmk
      obtain ⟨kd, nm, N, S, dn, ct, sk⟩ := s
      dsimp only at c0 c1 c2 c3 c4 c5 c6
      obtain ⟨nn, hnn⟩ : ∃ m, N.length = m := ⟨_, rfl⟩
      obtain ⟨sn, hsn⟩ : ∃ m, S.length = m := ⟨_, rfl⟩
      rw [hnn] at c2
      rw [hsn] at c3
      obtain ⟨r, hr⟩ : ∃ r, sieveB ⟨kd, nm, N, S, dn, ct, sk⟩ = r := ⟨_, rfl⟩
      have C : Hid (∀ w', Below wr.heap.size wr w' → Calls Tryz.prog 67 #[.agg #[.int .i64 kd, .string nm, .slice na nn nc, .slice sa sn sc, .bool dn, .int .i64 ct, .int .i64 sk]] w' fun e w'' => e = .returned (.bool r) ∧ Below w'.heap.size w' w'') :=
        fun w' hw => sieve_impl kd nm na nn nc N hnn sa sn sc S hsn dn ct sk w' ((HP.out.below hbw).below hw) ((HE.out.below hbw).below hw) (ht.below hw) hmk r hr
      have HV : Hid (((r && ((kd == 1) == decide (k = 0))) && goodL (k + 1) (T.drop (k + 1))) = b) := by
        have := HST.out
        unfold goodS at this
        rw [hr] at this
        exact this
      clear HST hr ht hnn hsn hlk hg hmk
      have hA : ∀ o, Below wr.heap.size wr (wr.alloc o) := fun o => (Below.refl _ _).alloc (Nat.le_refl _) o
      go_wp2_with fail
      refine (C.out _ (by first | exact hA _ | exact Below.refl _ _)).mono ?_
      rintro e w1 ⟨rfl, hb1⟩
      have d0 : w1.cell? ⟨wr.heap.size, 0, none⟩ = some (.int .i64 kd) := (box7 hb1).1
      have hx1 := chain hbw (chainA hb1)
      clear c0 c1 c2 c3 c4 c5 c6 hb1 C
      cases r
      · obtain rfl : b = false := by rw [← HV.out]; simp
        go_wp2
        go_ret
        exact ⟨rfl, hx1⟩
      by_cases hk1 : kd = 1
      · subst hk1
        by_cases hk0 : k = 0
        · have hz : ((k : Int) == 0) = true := by simp; omega
          have HV2 : Hid (goodL (k + 1) (T.drop (k + 1)) = b) := by
            have h := HV.out
            rw [decide_eq_true hk0] at h
            have h2 : goodL (k + 1) (T.drop (k + 1)) = b := by simpa using h
            exact h2
          clear HV hk0
          go_wp2
          go_roundw
          case rel => exact ⟨k + 1, by omega, by go_num, HV2, hx1⟩
          case measure => simp [intOf]; omega
        · have hz : ((k : Int) == 0) = false := by simp; omega
          obtain rfl : b = false := by
            rw [← HV.out, decide_eq_false hk0]; rfl
          clear HV hk0
          go_wp2
          go_ret
          exact ⟨rfl, hx1⟩
      · have hz1 : (kd == 1) = false := by simpa using hk1
        by_cases hk0 : k = 0
        · have hz : ((k : Int) == 0) = true := by simp; omega
          obtain rfl : b = false := by
            rw [← HV.out, hz1, decide_eq_true hk0]; rfl
          clear HV hk0
          go_wp2
          go_ret
          exact ⟨rfl, hx1⟩
        · have hz : ((k : Int) == 0) = false := by simp; omega
          have HV2 : Hid (goodL (k + 1) (T.drop (k + 1)) = b) := by
            have h := HV.out
            rw [hz1, decide_eq_false hk0] at h
            have h2 : goodL (k + 1) (T.drop (k + 1)) = b := by simpa using h
            exact h2
          clear HV hk0
          go_wp2
          go_roundw
          case rel => exact ⟨k + 1, by omega, by go_num, HV2, hx1⟩
          case measure => simp [intOf]; omega
    · have hkl : k = n := by omega
      subst hkl
      have hi1 : ¬ (k : Int) < (k : Int) := by omega
      obtain rfl : true = b := by
        have := hg.out
        rw [goodL_end T k (by rw [HN.out]; exact Nat.le_refl _)] at this
        exact this
      clear hg
      go_wp2
      go_ret
      exact ⟨rfl, hbw⟩
end Go.Proofs.YtjiaciikbnpicaaGreatDoor

/-
  The contracts of the law's helpers that mark the Items of a list, one number behind the other, and that look whether the marks are still there.
-/
namespace Go.Proofs.YtjiaciikbnpicaaGreatDoor
open Go.ChangeShapes Go.WideShapes Go.ChangeAt Go.RowKit
attribute [local go_sem ↓] Go.wp_at_zero Go.wp_at_succ

/-- The i-th mark from k on. -/
def mark1Itm (k i : Nat) : TI := (((k + 5 * i : Nat) : Int), (((k + 5 * i + 1 : Nat) : Int), ((k + 5 * i + 2 : Nat) : Int), mt (k + 5 * i + 3)), mt (k + 5 * i + 4))
def marksItm (k n : Nat) : List TI := (List.range n).map (mark1Itm k)
theorem marksItm_length (k n : Nat) : (marksItm k n).length = n := by simp [marksItm]
theorem marksItm_step (k : Nat) (l : List TI) (i : Nat) (h : i < l.length) : (marksItm k i ++ l.drop i).set i (mark1Itm k i) = marksItm k (i + 1) ++ l.drop (i + 1) := by
  rw [List.set_append_right _ _ (by rw [marksItm_length]; omega), marksItm_length, Nat.sub_self]
  have e : l.drop i = l[i] :: l.drop (i + 1) := List.drop_eq_getElem_cons h
  rw [e, List.set_cons_zero]
  simp [marksItm, List.range_succ]
/-- The cells of a slice may be written. -/
def FreeItm (w : World) (a : Option Addr) (n : Nat) : Prop := ∀ b o, a = some ⟨b, o, none⟩ → ∀ j, j < n * 5 → w.frozen? ⟨b, o + j, none⟩ = false
theorem ItmAt.upd {w w' : World} {b o : Nat} {l : List TI} {i : Nat} {x : TI} (h : ItmAt w (some ⟨b, o, none⟩) l) (hs : w.heap.size ≤ w'.heap.size)
    (hfar : ∀ q, q ≠ o + i * 5 → q ≠ o + i * 5 + 1 → q ≠ o + i * 5 + 2 → q ≠ o + i * 5 + 3 → q ≠ o + i * 5 + 4 → w'.cell? ⟨b, q, none⟩ = w.cell? ⟨b, q, none⟩)
    (h0 : w'.cell? ⟨b, o + i * 5, none⟩ = some (.int .i64 x.1)) (h1 : w'.cell? ⟨b, o + i * 5 + 1, none⟩ = some (.int .i64 x.2.1.1)) (h2 : w'.cell? ⟨b, o + i * 5 + 2, none⟩ = some (.int .i64 x.2.1.2.1)) (h3 : w'.cell? ⟨b, o + i * 5 + 3, none⟩ = some (.string x.2.1.2.2)) (h4 : w'.cell? ⟨b, o + i * 5 + 4, none⟩ = some (.string x.2.2)) :
    ItmAt w' (some ⟨b, o, none⟩) (l.set i x) := by
  intro j hj
  have hj' : j < l.length := by simpa using hj
  obtain ⟨b', o', e, hlt, c0, c1, c2, c3, c4⟩ := h j hj'
  cases e
  refine ⟨b, o, rfl, Nat.lt_of_lt_of_le hlt hs, ?_⟩
  by_cases hij : i = j
  · subst hij
    rw [List.getElem_set_self]
    exact ⟨h0, h1, h2, h3, h4⟩
  · rw [List.getElem_set_ne hij]
    refine ⟨?_, ?_, ?_, ?_, ?_⟩
    · rw [hfar _ (by omega) (by omega) (by omega) (by omega) (by omega)]; exact c0
    · rw [hfar _ (by omega) (by omega) (by omega) (by omega) (by omega)]; exact c1
    · rw [hfar _ (by omega) (by omega) (by omega) (by omega) (by omega)]; exact c2
    · rw [hfar _ (by omega) (by omega) (by omega) (by omega) (by omega)]; exact c3
    · rw [hfar _ (by omega) (by omega) (by omega) (by omega) (by omega)]; exact c4
theorem FreeItm.upd {w w' : World} {a : Option Addr} {n : Nat} (h : FreeItm w a n) (hf : ∀ b o q, a = some ⟨b, o, none⟩ → w'.frozen? ⟨b, q, none⟩ = w.frozen? ⟨b, q, none⟩) : FreeItm w' a n :=
  fun b o e j hj => by rw [hf b o _ e]; exact h b o e j hj
theorem ItmAt.keepS {P : Nat → Prop} {w w' : World} {a : Option Addr} {l : List TI} (h : ItmAt w a l) (hk : KeepS P w w') (hP : ∀ b, inBlk a l.length b → ¬ P b) : ItmAt w' a l := by
  intro j hj
  obtain ⟨b, o, ha, hlt, c0, c1, c2, c3, c4⟩ := h j hj
  have hn := hP b ⟨by omega, o, ha⟩
  refine ⟨b, o, ha, Nat.lt_of_lt_of_le hlt hk.size, ?_, ?_, ?_, ?_, ?_⟩
  · rw [hk.cell hlt hn]; exact c0
  · rw [hk.cell hlt hn]; exact c1
  · rw [hk.cell hlt hn]; exact c2
  · rw [hk.cell hlt hn]; exact c3
  · rw [hk.cell hlt hn]; exact c4

set_option maxRecDepth 100000 in
set_option maxHeartbeats 4000000 in
theorem markItm_laws (a : Option Addr) (cap : Nat) (l : List TI) (k : Nat) (w : World) (hrow : ItmAt w a l) (hfree : FreeItm w a l.length) (h0 : 0 < k) (h1 : k + 5 * l.length ≤ 1099511627776) :
    Calls Tryz.prog 54 #[.slice a l.length cap, .int .i64 k] w fun e w' => e = .returned (.int .i64 ((k + 5 * l.length : Nat) : Int)) ∧ ItmAt w' a (marksItm k l.length) ∧ FreeItm w' a l.length ∧ KeepS (inBlk a l.length) w w' := by
  have hR : Hid (ItmAt w a l) := hrow
  have hF : Hid (FreeItm w a l.length) := hfree
  clear hrow hfree
  go_enter Tryz.func54, Tryz.ntmps54
  go_wp2
  go_loopw [1, 5] (fun s i wr => ∃ m : Nat, m ≤ l.length ∧ i = .int .i64 m ∧ s = .int .i64 ((k + 5 * m : Nat) : Int) ∧ Hid (ItmAt wr a (marksItm k m ++ l.drop m)) ∧ Hid (FreeItm wr a l.length) ∧ KeepS (inBlk a l.length) w wr)
    (fun _ i _ => l.length - (intOf i).toNat)
  case atStart => exact ⟨0, Nat.zero_le _, rfl, by simp, by simpa [marksItm] using hR, hF, KeepS.refl _ _⟩
  case round =>
    obtain ⟨m, hm, rfl, rfl, hr, hf, hkp⟩ := hrel
    by_cases hlt : m < l.length
    · have hl2 : m < (marksItm k m ++ l.drop m).length := by rw [List.length_append, marksItm_length, List.length_drop]; omega
      obtain ⟨b, o, rfl, hbw, c0, c1, c2, c3, c4⟩ := hr.out m hl2
      generalize (marksItm k m ++ l.drop m)[m] = x at c0 c1 c2 c3 c4
      have hi0 : (0 : Int) ≤ (m : Int) := by omega
      have hi1 : (m : Int) < (l.length : Int) := by omega
      have f0 := hf.out b o rfl (m * 5) (by omega)
      have f1 := hf.out b o rfl (m * 5 + 1) (by omega)
      have f2 := hf.out b o rfl (m * 5 + 2) (by omega)
      have f3 := hf.out b o rfl (m * 5 + 3) (by omega)
      have f4 := hf.out b o rfl (m * 5 + 4) (by omega)
      rw [← Nat.add_assoc] at f1 f2 f3 f4
      go_wp2_with fail
      refine (text_lawsN (k + 5 * m + 3) _ (by omega) _ (by omega) (by omega)).mono ?_
      rintro e w2 ⟨rfl, hb2⟩
      have hl2 : b < w2.heap.size := by have := hb2.size; simp at this; omega
      have g2_3 : w2.cell? ⟨b, o + m * 5 + 3, none⟩ = some (.string x.2.1.2.2) := by
        rw [hb2.cell (p := ⟨b, o + m * 5 + 3, none⟩) (by simpa using hbw), cell_off _ _ _ _ _ (by omega), cell_off _ _ _ _ _ (by omega), cell_off _ _ _ _ _ (by omega)]; exact c3
      have e2_3 : w2.frozen? ⟨b, o + m * 5 + 3, none⟩ = false := by
        rw [hb2.frozen (p := ⟨b, o + m * 5 + 3, none⟩) (by simpa using hbw)]; simpa using f3
      have g2_4 : w2.cell? ⟨b, o + m * 5 + 4, none⟩ = some (.string x.2.2) := by
        rw [hb2.cell (p := ⟨b, o + m * 5 + 4, none⟩) (by simpa using hbw), cell_off _ _ _ _ _ (by omega), cell_off _ _ _ _ _ (by omega), cell_off _ _ _ _ _ (by omega)]; exact c4
      have e2_4 : w2.frozen? ⟨b, o + m * 5 + 4, none⟩ = false := by
        rw [hb2.frozen (p := ⟨b, o + m * 5 + 4, none⟩) (by simpa using hbw)]; simpa using f4
      go_wp2_with fail
      refine (text_lawsN (k + 5 * m + 4) _ (by omega) _ (by omega) (by omega)).mono ?_
      rintro e w3 ⟨rfl, hb3⟩
      have hl3 : b < w3.heap.size := by have := hb3.size; simp at this; omega
      have g3_4 : w3.cell? ⟨b, o + m * 5 + 4, none⟩ = some (.string x.2.2) := by
        rw [hb3.cell (p := ⟨b, o + m * 5 + 4, none⟩) (by simpa using hl2), cell_off _ _ _ _ _ (by omega)]; exact g2_4
      have e3_4 : w3.frozen? ⟨b, o + m * 5 + 4, none⟩ = false := by
        rw [hb3.frozen (p := ⟨b, o + m * 5 + 4, none⟩) (by simpa using hl2)]; simpa using e2_4
      go_wp2
      go_roundw
      case rel =>
        have hsz : wr.heap.size ≤ w3.heap.size := by have := hb2.size; have := hb3.size; simp at *; omega
        refine ⟨m + 1, by omega, by go_num, by go_num, ?_, ?_, ?_⟩
        · show ItmAt _ _ _
          rw [← marksItm_step k l m hlt]
          refine hr.out.upd (by simpa using hsz) ?_ ?_ ?_ ?_ ?_ ?_
          · intro q q0 q1 q2 q3 q4
            rw [cell_off _ _ _ _ _ q4, hb3.cell (p := ⟨b, q, none⟩) (by simpa using hl2), cell_off _ _ _ _ _ q3, hb2.cell (p := ⟨b, q, none⟩) (by simpa using hbw), cell_off _ _ _ _ _ q2, cell_off _ _ _ _ _ q1, cell_off _ _ _ _ _ q0]
          · rw [cell_off _ _ _ _ _ (by omega), hb3.cell (p := ⟨b, _, none⟩) (by simpa using hl2), cell_off _ _ _ _ _ (by omega), hb2.cell (p := ⟨b, _, none⟩) (by simpa using hbw), cell_off _ _ _ _ _ (by omega), cell_off _ _ _ _ _ (by omega), cell_here _ _ _ _ (by rw [c0]; rfl)]
            first | (simp [mark1Itm]; done) | (simp [mark1Itm]; omega)
          · rw [cell_off _ _ _ _ _ (by omega), hb3.cell (p := ⟨b, _, none⟩) (by simpa using hl2), cell_off _ _ _ _ _ (by omega), hb2.cell (p := ⟨b, _, none⟩) (by simpa using hbw), cell_off _ _ _ _ _ (by omega), cell_here _ _ _ _ (by rw [cell_off _ _ _ _ _ (by omega), c1]; rfl)]
            first | (simp [mark1Itm]; done) | (simp [mark1Itm]; omega)
          · rw [cell_off _ _ _ _ _ (by omega), hb3.cell (p := ⟨b, _, none⟩) (by simpa using hl2), cell_off _ _ _ _ _ (by omega), hb2.cell (p := ⟨b, _, none⟩) (by simpa using hbw), cell_here _ _ _ _ (by rw [cell_off _ _ _ _ _ (by omega), cell_off _ _ _ _ _ (by omega), c2]; rfl)]
            first | (simp [mark1Itm]; done) | (simp [mark1Itm]; omega)
          · rw [cell_off _ _ _ _ _ (by omega), hb3.cell (p := ⟨b, _, none⟩) (by simpa using hl2), cell_here _ _ _ _ (by rw [g2_3]; rfl)]
            first | (simp [mark1Itm]; done) | (simp [mark1Itm]; omega)
          · rw [cell_here _ _ _ _ (by rw [g3_4]; rfl)]
            first | (simp [mark1Itm]; done) | (simp [mark1Itm]; omega)
        · show FreeItm _ _ _
          refine hf.out.upd ?_
          intro b' o' q e
          cases e
          rw [World.frozen?_setCell, hb3.frozen (p := ⟨b, q, none⟩) (by simpa using hl2), World.frozen?_setCell, hb2.frozen (p := ⟨b, q, none⟩) (by simpa using hbw), World.frozen?_setCell, World.frozen?_setCell, World.frozen?_setCell]
        · exact (((((((hkp.setCell (p := ⟨b, o + m * 5, none⟩) ⟨by omega, o, rfl⟩ _).setCell (p := ⟨b, o + m * 5 + 1, none⟩) ⟨by omega, o, rfl⟩ _).setCell (p := ⟨b, o + m * 5 + 2, none⟩) ⟨by omega, o, rfl⟩ _).trans (KeepS.ofBelow hb2)).setCell (p := ⟨b, o + m * 5 + 3, none⟩) ⟨by omega, o, rfl⟩ _).trans (KeepS.ofBelow hb3)).setCell (p := ⟨b, o + m * 5 + 4, none⟩) ⟨by omega, o, rfl⟩ _)
      case measure => simp [intOf]; omega
    · have hkl : m = l.length := by omega
      subst hkl
      rw [List.drop_length, List.append_nil] at hr
      go_wp2
      go_ret
      exact ⟨rfl, hr.out, hf.out, hkp⟩

end Go.Proofs.YtjiaciikbnpicaaGreatDoor

/-
  A law's argument that is a slice of tokens, opened: which list of tokens it is, and where they lie.
-/
namespace Go.Proofs.YtjiaciikbnpicaaGreatDoor
open Go.ChangeShapes Go.WideShapes Go.ChangeAt Go.RowKit Go.Deep

end Go.Proofs.YtjiaciikbnpicaaGreatDoor
