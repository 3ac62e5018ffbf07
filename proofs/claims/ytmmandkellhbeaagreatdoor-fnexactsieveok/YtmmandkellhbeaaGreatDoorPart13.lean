/-
  A part of the proof: SvI1b, SvS, SvS2.
-/
import Derived.Test.YtmmandkellhbeaaGreatDoorPart12
import Derived.Test.YtmmandkellhbeaaGreatDoorPart5
import Derived.Test.YtmmandkellhbeaaGreatDoorPart8
import Derived.Test.YtmmandkellhbeaaGreatDoorPart9

/-
  The contract of the program's question whether a sieve is right.
-/
namespace Go.Proofs.YtmmandkellhbeaaGreatDoor
open Go.ChangeShapes Go.WideShapes Go.ChangeAt Go.RowKit
attribute [local go_sem ↓] Go.wp_at_zero Go.wp_at_succ
attribute [local simp] World.cell?_alloc_past World.cell?_alloc_at World.frozen?_alloc_at cell_far cell_off cell_here World.frozen?_alloc_past

theorem wpList_unguardV {P : Program} {ops : Array Oper} {Q : Exit → Act → World → Prop} {a : Act} {w : World} {rest : List Oper} {d : Option Tmp} {op : Op} {ty : TypeId} {ps : String} {af : Array Edge} {g : Option (Nat × Bool)}
    (hw : Region.wanted { dst := d, op := op, type := ty, pos := ps, after := af, guard := g } (yielded ops a.tmps) = true)
    (h : wpList P ops Q ({ dst := d, op := op, type := ty, pos := ps, after := af, guard := none } :: rest) a w) : wpList P ops Q ({ dst := d, op := op, type := ty, pos := ps, after := af, guard := g } :: rest) a w := by
  unfold wpList at h ⊢
  rw [if_pos hw]
  rw [if_pos (by simp [Region.wanted])] at h
  exact h
set_option maxRecDepth 100000 in
set_option maxHeartbeats 4000000 in
theorem right_impl (k : Int) (nm : ByteArray) (na : Option Addr) (nn nc : Nat) (N : List ByteArray) (hnn : N.length = nn) (sa : Option Addr) (sn sc : Nat) (S : List TI) (hsn : S.length = sn) (dn : Bool) (ct sk : Int) (fw : ByteArray) (fn : Bool) (ff fm : Int) (fa : ByteArray) (fs fl : Bool) (fc : Int) (w : World) (hp : PowAt w) (he : ErrAt w) (hs : SivAt w na nc sa ⟨k, nm, N, S, dn, ct, sk⟩) (hmild : MildV ⟨k, nm, N, S, dn, ct, sk⟩) (b : Bool) (hb : rightF ⟨fw, fn, ff, fm, fa, fs, fl, fc⟩ ⟨k, nm, N, S, dn, ct, sk⟩ = b) :
    Calls Tryz.prog 31 #[.agg #[.slice sa sn sc, .string fw, .bool fn, .int .i64 ff, .int .i64 fm, .string fa, .bool fs, .bool fl, .int .i64 fc, .int .i64 k, .string nm, .slice na nn nc, .slice sa sn sc, .bool dn, .int .i64 ct, .int .i64 sk]] w fun e w' => e = .returned (.bool b) ∧ Below w.heap.size w w' := by
  have hnM : nn ≤ maxLen := by rw [← hnn]; exact hs.lenN
  have hsM : sn ≤ maxLen := by rw [← hsn]; exact hs.lenI
  have hcap : nn ≤ nc := by rw [← hnn]; exact hs.capN
  have hfitN : ∀ x ∈ N, x.size ≤ 1048576 := by
    intro x hx
    obtain ⟨j, hj, rfl⟩ := List.mem_iff_getElem.1 hx
    have h1 := weightS_take N j hj
    have h2 := weightS_le N (j + 1)
    have h3 : weightS N ≤ 1048576 := hmild.2.2.1
    omega
  have hfitI : FitI S := by
    intro x hx
    have h1 := oneI_le hx
    have h3 : weightItm S ≤ 1048576 := hmild.2.2.2.2
    unfold oneItm at h1
    unfold maxLen
    exact ⟨by omega, by omega⟩
  have hnm : nm.size ≤ 1048576 := hmild.1
  obtain ⟨r1, hr1⟩ : ∃ r, nameF ⟨fw, fn, ff, fm, fa, fs, fl, fc⟩ ⟨k, nm, N, S, dn, ct, sk⟩ = r := ⟨_, rfl⟩
  obtain ⟨r2, hr2⟩ : ∃ r, namesF ⟨fw, fn, ff, fm, fa, fs, fl, fc⟩ ⟨k, nm, N, S, dn, ct, sk⟩ = r := ⟨_, rfl⟩
  obtain ⟨r3, hr3⟩ : ∃ r, sumF ⟨fw, fn, ff, fm, fa, fs, fl, fc⟩ ⟨k, nm, N, S, dn, ct, sk⟩ = r := ⟨_, rfl⟩
  obtain ⟨r4, hr4⟩ : ∃ r, canF ⟨fw, fn, ff, fm, fa, fs, fl, fc⟩ ct = r := ⟨_, rfl⟩
  obtain ⟨r5, hr5⟩ : ∃ r, canF ⟨fw, fn, ff, fm, fa, fs, fl, fc⟩ sk = r := ⟨_, rfl⟩
  have C1 : Hid (∀ w', Below w.heap.size w w' → Calls Tryz.prog 53 #[.agg #[.slice sa sn sc, .string fw, .bool fn, .int .i64 ff, .int .i64 fm, .string fa, .bool fs, .bool fl, .int .i64 fc, .int .i64 k, .string nm, .slice na nn nc, .slice sa sn sc, .bool dn, .int .i64 ct, .int .i64 sk]] w' fun e w'' => e = .returned (.bool r1) ∧ Below w'.heap.size w' w'') :=
    fun w' hw => namer_impl k nm na nn nc N hnn sa sn sc S hsn dn ct sk fw fn ff fm fa fs fl fc w' (hp.below hw) (he.below hw) hnm r1 hr1
  have C2 : Hid (∀ w', Below w.heap.size w w' → Calls Tryz.prog 54 #[.agg #[.slice sa sn sc, .string fw, .bool fn, .int .i64 ff, .int .i64 fm, .string fa, .bool fs, .bool fl, .int .i64 fc, .int .i64 k, .string nm, .slice na nn nc, .slice sa sn sc, .bool dn, .int .i64 ct, .int .i64 sk]] w' fun e w'' => e = .returned (.bool r2) ∧ Below w'.heap.size w' w'') :=
    fun w' hw => namesr_impl k nm na nn nc N hnn sa sn sc S hsn dn ct sk fw fn ff fm fa fs fl fc w' (hp.below hw) (he.below hw) (hs.names.below hw) hfitN hnM hcap r2 hr2
  have C3 : Hid (∀ w', Below w.heap.size w w' → Calls Tryz.prog 55 #[.slice sa sn sc, .bool fs] w' fun e w'' => e = .returned (.bool r3) ∧ Below w'.heap.size w' w'') :=
    fun w' hw => sumfits_impl sa sn sc S hsn fs w' (hp.below hw) (he.below hw) (hs.sum.below hw) hfitI hsM r3 hr3
  have C4 : Hid (∀ w', Calls Tryz.prog 56 #[.agg #[.slice sa sn sc, .string fw, .bool fn, .int .i64 ff, .int .i64 fm, .string fa, .bool fs, .bool fl, .int .i64 fc, .int .i64 k, .string nm, .slice na nn nc, .slice sa sn sc, .bool dn, .int .i64 ct, .int .i64 sk], .int .i64 ct] w' fun e w'' => e = .returned (.bool r4) ∧ Below w'.heap.size w' w'') :=
    fun w' => can_impl k nm na nn nc N hnn sa sn sc S hsn dn ct sk fw fn ff fm fa fs fl fc ct w' r4 hr4
  have C5 : Hid (∀ w', Calls Tryz.prog 56 #[.agg #[.slice sa sn sc, .string fw, .bool fn, .int .i64 ff, .int .i64 fm, .string fa, .bool fs, .bool fl, .int .i64 fc, .int .i64 k, .string nm, .slice na nn nc, .slice sa sn sc, .bool dn, .int .i64 ct, .int .i64 sk], .int .i64 sk] w' fun e w'' => e = .returned (.bool r5) ∧ Below w'.heap.size w' w'') :=
    fun w' => can_impl k nm na nn nc N hnn sa sn sc S hsn dn ct sk fw fn ff fm fa fs fl fc sk w' r5 hr5
  obtain ⟨r0, hr0⟩ : ∃ r, decide (fw = ⟨#[]⟩) = r := ⟨_, rfl⟩
  have hv : (!r0 && (r1 && (r2 && (r3 && ((fl || !dn) && (r4 && r5)))))) = b := by
    rw [← hb]; unfold rightF; dsimp only; rw [hr0, hr1, hr2, hr3, hr4, hr5]
  have hz := zero_txt fw r0 hr0
  clear hb hr0 hr1 hr2 hr3 hr4 hr5 hnn hsn hp he hs hmild hnM hsM hcap hfitN hfitI hnm
  subst hv
  have hA : ∀ o o', Below w.heap.size w ((w.alloc o).alloc o') := fun o o' => ((Below.refl _ _).alloc (Nat.le_refl _) o).alloc (by simp) o'
  cases r0
  rotate_left
  · go_enter Tryz.func31, Tryz.ntmps31
    go_wp2
    go_ret
    exact ⟨rfl, hA _ _⟩
  have HG0 : Hid (((w.alloc (.cells #[.slice sa sn sc, .string fw, .bool fn, .int .i64 ff, .int .i64 fm, .string fa, .bool fs, .bool fl, .int .i64 fc, .int .i64 k, .string nm, .slice na nn nc, .slice sa sn sc, .bool dn, .int .i64 ct, .int .i64 sk] 56)).alloc (.cells #[.int .i64 k, .string nm, .slice na nn nc, .slice sa sn sc, .bool dn, .int .i64 ct, .int .i64 sk] 30)).heap[w.heap.size]? = some (.cells #[.slice sa sn sc, .string fw, .bool fn, .int .i64 ff, .int .i64 fm, .string fa, .bool fs, .bool fl, .int .i64 fc, .int .i64 k, .string nm, .slice na nn nc, .slice sa sn sc, .bool dn, .int .i64 ct, .int .i64 sk] 56)) := by
    have h : ((w.alloc (.cells #[.slice sa sn sc, .string fw, .bool fn, .int .i64 ff, .int .i64 fm, .string fa, .bool fs, .bool fl, .int .i64 fc, .int .i64 k, .string nm, .slice na nn nc, .slice sa sn sc, .bool dn, .int .i64 ct, .int .i64 sk] 56)).alloc (.cells #[.int .i64 k, .string nm, .slice na nn nc, .slice sa sn sc, .bool dn, .int .i64 ct, .int .i64 sk] 30)).heap[w.heap.size]? = some (.cells #[.slice sa sn sc, .string fw, .bool fn, .int .i64 ff, .int .i64 fm, .string fa, .bool fs, .bool fl, .int .i64 fc, .int .i64 k, .string nm, .slice na nn nc, .slice sa sn sc, .bool dn, .int .i64 ct, .int .i64 sk] 56) := by
      rw [_root_.Go.heap_alloc_old (h := by simp)]; exact _root_.Go.heap_alloc_new _ _
    exact h
  go_enter Tryz.func31, Tryz.ntmps31
  go_wp2_with (refine wpList_unguardV (by first | rfl | simp [Region.wanted, yielded]) ?_; refine wpList_load_row rfl 56 _ rfl w.heap.size rfl 56 _ _ _ HG0.out Tryz.underlying56 rfl (by kernel_rfl) ?_)
  refine (C1.out _ (hA _ _)).mono ?_
  rintro e w1 ⟨rfl, hb1⟩
  have hx := chain (hA _ _) hb1
  have hlt : w.heap.size < w1.heap.size := Nat.lt_of_lt_of_le (by simp; omega) hb1.size
  have p : Hid (w1.heap[w.heap.size]? = some (.cells #[.slice sa sn sc, .string fw, .bool fn, .int .i64 ff, .int .i64 fm, .string fa, .bool fs, .bool fl, .int .i64 fc, .int .i64 k, .string nm, .slice na nn nc, .slice sa sn sc, .bool dn, .int .i64 ct, .int .i64 sk] 56)) := (hb1.block _ (by simp; omega)).trans HG0.out
  have q := box7 hb1
  simp only [alloc_one] at q
  clear hb1 hA HG0

  cases r1
  · go_wp2
    go_ret
    exact ⟨rfl, hx⟩
  have p0 : w1.cell? ⟨w.heap.size, 0, none⟩ = some (.slice sa sn sc) := cell_of_row _ _ _ _ _ _ p.out
  have p6 : w1.cell? ⟨w.heap.size, 6, none⟩ = some (.bool fs) := cell_of_row _ _ _ _ _ _ p.out
  have p7 : w1.cell? ⟨w.heap.size, 7, none⟩ = some (.bool fl) := cell_of_row _ _ _ _ _ _ p.out
  obtain ⟨q0, q1, q2, q3, q4, q5, q6, q7⟩ := id q
  go_wp2_with (refine wpList_unguardV (by first | rfl | simp [Region.wanted, yielded]) ?_; refine wpList_load_row rfl 56 _ rfl w.heap.size rfl 56 _ _ _ p.out Tryz.underlying56 rfl (by kernel_rfl) ?_)
  refine (C2.out _ hx).mono ?_
  rintro e w2 ⟨rfl, hb1⟩
  replace p : Hid (_ = _) := (hb1.block _ hlt).trans p.out
  replace q := later7 hb1 q
  replace hx := chain hx hb1
  replace hlt := Nat.lt_of_lt_of_le hlt hb1.size
  clear hb1 p0 p6 p7 q0 q1 q2 q3 q4 q5 q6 q7
  cases r2
  · go_wp2
    go_ret
    exact ⟨rfl, hx⟩
  have p0 : w2.cell? ⟨w.heap.size, 0, none⟩ = some (.slice sa sn sc) := cell_of_row _ _ _ _ _ _ p.out
  have p6 : w2.cell? ⟨w.heap.size, 6, none⟩ = some (.bool fs) := cell_of_row _ _ _ _ _ _ p.out
  have p7 : w2.cell? ⟨w.heap.size, 7, none⟩ = some (.bool fl) := cell_of_row _ _ _ _ _ _ p.out
  obtain ⟨q0, q1, q2, q3, q4, q5, q6, q7⟩ := id q
  go_wp2_with (refine wpList_unguardV (by first | rfl | simp [Region.wanted, yielded]) ?_; refine wpList_load_row rfl 56 _ rfl w.heap.size rfl 56 _ _ _ p.out Tryz.underlying56 rfl (by kernel_rfl) ?_)
  refine (C3.out _ hx).mono ?_
  rintro e w3 ⟨rfl, hb1⟩
  replace p : Hid (_ = _) := (hb1.block _ hlt).trans p.out
  replace q := later7 hb1 q
  replace hx := chain hx hb1
  replace hlt := Nat.lt_of_lt_of_le hlt hb1.size
  clear hb1 p0 p6 p7 q0 q1 q2 q3 q4 q5 q6 q7
  cases r3
  · go_wp2
    go_ret
    exact ⟨rfl, hx⟩
  have p0 : w3.cell? ⟨w.heap.size, 0, none⟩ = some (.slice sa sn sc) := cell_of_row _ _ _ _ _ _ p.out
  have p6 : w3.cell? ⟨w.heap.size, 6, none⟩ = some (.bool fs) := cell_of_row _ _ _ _ _ _ p.out
  have p7 : w3.cell? ⟨w.heap.size, 7, none⟩ = some (.bool fl) := cell_of_row _ _ _ _ _ _ p.out
  obtain ⟨q0, q1, q2, q3, q4, q5, q6, q7⟩ := id q
  cases fl
  · cases dn
    · go_wp2_with (refine wpList_unguardV (by first | rfl | simp [Region.wanted, yielded]) ?_; refine wpList_load_row rfl 56 _ rfl w.heap.size rfl 56 _ _ _ p.out Tryz.underlying56 rfl (by kernel_rfl) ?_)
      refine (C4.out _).mono ?_
      rintro e w4 ⟨rfl, hb1⟩
      replace p : Hid (_ = _) := (hb1.block _ hlt).trans p.out
      replace q := later7 hb1 q
      replace hx := chain hx hb1
      replace hlt := Nat.lt_of_lt_of_le hlt hb1.size
      clear hb1 p0 p6 p7 q0 q1 q2 q3 q4 q5 q6 q7
      cases r4
      · go_wp2
        go_ret
        exact ⟨rfl, hx⟩
      obtain ⟨q0, q1, q2, q3, q4, q5, q6, q7⟩ := q
      go_wp2_with (refine wpList_unguardV (by first | rfl | simp [Region.wanted, yielded]) ?_; refine wpList_load_row rfl 56 _ rfl w.heap.size rfl 56 _ _ _ p.out Tryz.underlying56 rfl (by kernel_rfl) ?_)
      refine (C5.out _).mono ?_
      rintro e w5 ⟨rfl, hb1⟩
      replace hx := chain hx hb1
      go_wp2
      go_ret
      exact ⟨rfl, hx⟩
    · go_wp2
      go_ret
      exact ⟨rfl, hx⟩
  · go_wp2_with (refine wpList_unguardV (by first | rfl | simp [Region.wanted, yielded]) ?_; refine wpList_load_row rfl 56 _ rfl w.heap.size rfl 56 _ _ _ p.out Tryz.underlying56 rfl (by kernel_rfl) ?_)
    refine (C4.out _).mono ?_
    rintro e w4 ⟨rfl, hb1⟩
    replace p : Hid (_ = _) := (hb1.block _ hlt).trans p.out
    replace q := later7 hb1 q
    replace hx := chain hx hb1
    replace hlt := Nat.lt_of_lt_of_le hlt hb1.size
    clear hb1 p0 p6 p7 q0 q1 q2 q3 q4 q5 q6 q7
    cases r4
    · go_wp2
      go_ret
      exact ⟨rfl, hx⟩
    obtain ⟨q0, q1, q2, q3, q4, q5, q6, q7⟩ := q
    go_wp2_with (refine wpList_unguardV (by first | rfl | simp [Region.wanted, yielded]) ?_; refine wpList_load_row rfl 56 _ rfl w.heap.size rfl 56 _ _ _ p.out Tryz.underlying56 rfl (by kernel_rfl) ?_)
    refine (C5.out _).mono ?_
    rintro e w5 ⟨rfl, hb1⟩
    replace hx := chain hx hb1
    go_wp2
    go_ret
    exact ⟨rfl, hx⟩

set_option maxRecDepth 100000 in
set_option maxHeartbeats 2000000 in
theorem sieve_impl (k : Int) (nm : ByteArray) (na : Option Addr) (nn nc : Nat) (N : List ByteArray) (hnn : N.length = nn) (sa : Option Addr) (sn sc : Nat) (S : List TI) (hsn : S.length = sn) (dn : Bool) (ct sk : Int) (w : World) (hp : PowAt w) (he : ErrAt w) (hs : SivAt w na nc sa ⟨k, nm, N, S, dn, ct, sk⟩) (hmild : MildV ⟨k, nm, N, S, dn, ct, sk⟩) (b : Bool) (hb : sieveB ⟨k, nm, N, S, dn, ct, sk⟩ = b) :
    Calls Tryz.prog 10 #[.agg #[.int .i64 k, .string nm, .slice na nn nc, .slice sa sn sc, .bool dn, .int .i64 ct, .int .i64 sk]] w fun e w' => e = .returned (.bool b) ∧ Below w.heap.size w w' := by
  obtain ⟨fw, fn, ff, fm, fa, fs, fl, fc, hf⟩ : ∃ fw fn ff fm fa fs fl fc, formF k = FS.mk fw fn ff fm fa fs fl fc := ⟨_, _, _, _, _, _, _, _, rfl⟩
  have hr : rightF (FS.mk fw fn ff fm fa fs fl fc) ⟨k, nm, N, S, dn, ct, sk⟩ = b := by rw [← hf, ← hb]; exact right_form ⟨k, nm, N, S, dn, ct, sk⟩
  have R : Hid (∀ w', Below w.heap.size w w' → Calls Tryz.prog 31 #[.agg #[.slice sa sn sc, .string fw, .bool fn, .int .i64 ff, .int .i64 fm, .string fa, .bool fs, .bool fl, .int .i64 fc, .int .i64 k, .string nm, .slice na nn nc, .slice sa sn sc, .bool dn, .int .i64 ct, .int .i64 sk]] w' fun e w'' => e = .returned (.bool b) ∧ Below w'.heap.size w' w'') :=
    fun w' hw => right_impl k nm na nn nc N hnn sa sn sc S hsn dn ct sk fw fn ff fm fa fs fl fc w' (hp.below hw) (he.below hw) (hs.below hw) hmild b hr
  have HF : Hid (formF k = FS.mk fw fn ff fm fa fs fl fc) := hf
  clear hf hr hp he hs hmild hb hnn hsn
  have hA : ∀ o, Below w.heap.size w (w.alloc o) := fun o => (Below.refl _ _).alloc (Nat.le_refl _) o
  go_enter Tryz.func10, Tryz.ntmps10
  go_wp2_with fail
  refine (formed_impl k nm na nn nc sa sn sc dn ct sk fw fn ff fm fa fs fl fc HF.out _).mono ?_
  rintro e w1 ⟨rfl, hb1⟩
  have hx := chain (hA _) hb1
  clear hb1
  go_wp2_with fail
  refine (R.out _ (by first | exact hx | exact hx.trans (by go_grown))).mono ?_
  rintro e w2 ⟨rfl, hb2⟩
  go_wp2
  go_ret
  exact ⟨rfl, by first | exact chain hx hb2 | exact chain (hx.trans (by go_grown)) hb2⟩
end Go.Proofs.YtmmandkellhbeaaGreatDoor

/-
  The contracts of the model's questions for a sieve: l10Names, l10Bare, SieveOk.
-/
namespace Go.Proofs.YtmmandkellhbeaaGreatDoor
open Go.ChangeShapes Go.WideShapes Go.ChangeAt Go.RowKit
attribute [local go_sem ↓] Go.wp_at_zero Go.wp_at_succ
attribute [local simp] World.cell?_alloc_past World.cell?_alloc_at World.frozen?_alloc_at cell_far cell_off cell_here World.frozen?_alloc_past

theorem names10_take (l : List ByteArray) (k : Nat) (h : k < l.length) : (l.take (k + 1)).all nameK = ((l.take k).all nameK && nameK l[k]) := by
  rw [List.take_succ_eq_append_getElem h, List.all_append]; simp
theorem l5_specN (n : Nat) (a : Option Addr) (cap : Nat) (l : List ByteArray) (hn : l.length = n) (lo hi : Int) (w : World) (hrow : StrsAt w a l) (hfit : FitS l) (hm : n ≤ maxLen) (hcap : n ≤ cap) (b : Bool) (hb : namesB l lo hi = b) :
    Calls Tryz.prog 50 #[.slice a n cap, .int .i64 lo, .int .i64 hi] w fun e w' => e = .returned (.bool b) ∧ Below w.heap.size w w' := by
  subst hn; exact names_spec a cap l lo hi w hrow hfit hm hcap b hb
set_option maxRecDepth 100000 in
set_option maxHeartbeats 2000000 in
theorem names10_spec (n : Nat) (a : Option Addr) (cap : Nat) (l : List ByteArray) (hn : l.length = n) (lo hi : Int) (w : World) (hrow : StrsAt w a l) (hfit : FitS l) (hm : n ≤ maxLen) (hcap : n ≤ cap) (b : Bool) (hb : names10 l lo hi = b) :
    Calls Tryz.prog 26 #[.slice a n cap, .int .i64 lo, .int .i64 hi] w fun e w' => e = .returned (.bool b) ∧ Below w.heap.size w w' := by
  have HR : Hid (StrsAt w a l) := hrow
  have HN : Hid (l.length = n) := hn
  have HF : Hid (FitS l) := hfit
  have HB : Hid (names10 l lo hi = b) := hb
  have hm6 := hm
  unfold maxLen at hm6
  clear hrow hn hfit hb
  go_enter Tryz.func26, Tryz.ntmps26
  go_wp2
  go_loopw [7] (fun iv wr => ∃ k : Nat, k ≤ n ∧ iv = .int .i64 k ∧ Hid ((l.take k).all nameK = true) ∧ Below w.heap.size w wr) (fun iv _ => n - (intOf iv).toNat)
  case atStart => exact ⟨0, Nat.zero_le _, rfl, rfl, Below.refl _ _⟩
  case round =>
    obtain ⟨k, hk, rfl, hall, hbw⟩ := hrel
    by_cases hlt : k < n
    · have hlk : k < l.length := by rw [HN.out]; exact hlt
      obtain ⟨g, o, rfl, hgw, c0⟩ := HR.out.below hbw k hlk
      have hi0 : (0 : Int) ≤ (k : Int) := by omega
      have hi1 : (k : Int) < (n : Int) := by omega
      have hf := HF.out k hlk
      have ht := names10_take l k hlk
      rw [hall.out, Bool.true_and] at ht
      obtain ⟨r, hr⟩ : ∃ r, nameK l[k] = r := ⟨_, rfl⟩
      have HT : Hid ((l.take (k + 1)).all nameK = r) := ht.trans hr
      have HNO : Hid (r = false → b = false) := by
        have : r = false → b = false := fun e => by
          rw [← HB.out, Bool.eq_false_iff]
          intro h
          unfold names10 at h
          rw [Bool.and_eq_true] at h
          have := List.all_eq_true.1 h.1 _ (List.getElem_mem hlk)
          rw [hr, e] at this
          cases this
        exact this
      have HRR : Hid (nameK l[k] = r) := hr
      clear ht hr hall
      generalize l[k] = s at c0 hf HRR
      go_wp2_with fail
      refine (namek_spec s _ hf r HRR.out).mono ?_
      rintro e w1 ⟨rfl, hb1⟩
      have hx1 := chain hbw hb1
      clear c0 hb1
      cases r
      · obtain rfl : b = false := HNO.out rfl
        go_wp2
        go_ret
        exact ⟨rfl, hx1⟩
      · go_wp2
        go_roundw
        case rel => exact ⟨k + 1, by omega, by go_num, HT, hx1⟩
        case measure => simp [intOf]; omega
    · have hkl : k = n := by omega
      subst hkl
      have hi1 : ¬ (k : Int) < (k : Int) := by omega
      have HBB : Hid (namesB l lo hi = b) := by
        have : namesB l lo hi = b := by
          rw [← HB.out]
          unfold names10
          have := hall.out
          rw [List.take_of_length_le (by rw [HN.out]; exact Nat.le_refl _)] at this
          rw [this, Bool.true_and]
        exact this
      clear hall
      go_wp2_with fail
      refine (l5_specN k _ _ l HN.out lo hi _ (HR.out.below hbw) HF.out hm hcap b HBB.out).mono ?_
      rintro e w1 ⟨rfl, hb1⟩
      have hx1 := chain hbw hb1
      go_wp2
      go_ret
      exact ⟨rfl, hx1⟩
theorem ne_txt (s : ByteArray) (h : s ≠ ⟨#[]⟩) : (s.toList == []) = false := zero_txt s false (by simpa using h)
theorem eq_txt (s : ByteArray) (h : s = ⟨#[]⟩) : (s.toList == []) = true := zero_txt s true (by simpa using h)
set_option maxRecDepth 100000 in
set_option maxHeartbeats 2000000 in
theorem bare_1 (nm : ByteArray) (na : Option Addr) (nn nc : Nat) (ns : List ByteArray) (hnn : ns.length = nn) (sa : Option Addr) (sn sc : Nat) (sm : List TI) (hsn : sm.length = sn) (dn : Bool) (ct sk : Int) (w : World) (hnm : nm.size ≤ maxLen) (hS : ItmAt w sa sm) (hSf : FitItm sm) (hsm : sn ≤ maxLen) (b : Bool) (hb : bareB ⟨1, nm, ns, sm, dn, ct, sk⟩ = b) :
    Calls Tryz.prog 25 #[.agg #[.int .i64 1, .string nm, .slice na nn nc, .slice sa sn sc, .bool dn, .int .i64 ct, .int .i64 sk]] w fun e w' => e = .returned (.bool b) ∧ Below w.heap.size w w' := by
  have HS : Hid (ItmAt w sa sm) := hS
  have HF : Hid (FitItm sm) := hSf
  have HN : Hid (sm.length = sn) := hsn
  have HM : Hid (nm.size ≤ maxLen) := hnm
  have HSM : Hid (sn ≤ maxLen) := hsm
  have HNN : Hid (ns.length = nn) := hnn
  have hbA : ∀ o, Below w.heap.size w (w.alloc o) := fun o => (Below.refl _ _).alloc (Nat.le_refl _) o

  by_cases c2 : 0 < sn
  · have c2i : (0 : Int) < (sn : Int) := by omega
    have c2l : sm ≠ [] := fun e => by rw [e] at hsn; simp at hsn; omega
    obtain rfl : false = b := by rw [← hb]; simp [bareB, nameS, sumS, listS, c2l]
    clear hb
    go_enter Tryz.func25, Tryz.ntmps25
    go_wp2
    go_ret
    exact ⟨rfl, hbA _⟩
  have c2i : ¬ (0 : Int) < (sn : Int) := by omega
  have c2l : sm = [] := List.length_eq_zero_iff.1 (by omega)
  by_cases c3 : 0 < nn
  · have c3i : (0 : Int) < (nn : Int) := by omega
    have c3l : ns ≠ [] := fun e => by rw [e] at hnn; simp at hnn; omega
    obtain rfl : false = b := by rw [← hb]; simp [bareB, nameS, sumS, listS, c3l]
    clear hb
    go_enter Tryz.func25, Tryz.ntmps25
    go_wp2
    go_ret
    exact ⟨rfl, hbA _⟩
  have c3i : ¬ (0 : Int) < (nn : Int) := by omega
  have c3l : ns = [] := List.length_eq_zero_iff.1 (by omega)
  cases dn
  rotate_left
  · obtain rfl : false = b := by rw [← hb]; simp [bareB, nameS, sumS, listS, ]
    clear hb
    go_enter Tryz.func25, Tryz.ntmps25
    go_wp2
    go_ret
    exact ⟨rfl, hbA _⟩
  by_cases c4 : ct = 0
  rotate_left
  · have c4i : (ct != 0) = true := by simp [c4]
    obtain rfl : false = b := by rw [← hb]; simp [bareB, nameS, sumS, listS, c4]
    clear hb
    go_enter Tryz.func25, Tryz.ntmps25
    go_wp2
    go_ret
    exact ⟨rfl, hbA _⟩
  have c4i : (ct != 0) = false := by simp [c4]
  by_cases c5 : sk = 0
  rotate_left
  · have c5i : (sk != 0) = true := by simp [c5]
    obtain rfl : false = b := by rw [← hb]; simp [bareB, nameS, sumS, listS, c5]
    clear hb
    go_enter Tryz.func25, Tryz.ntmps25
    go_wp2
    go_ret
    exact ⟨rfl, hbA _⟩
  have c5i : (sk != 0) = false := by simp [c5]
  obtain rfl : nameK nm = b := by rw [← hb]; simp [bareB, nameS, sumS, listS, c2l, c3l, c4, c5]
  obtain ⟨r1, hr1⟩ : ∃ r, nameK nm = r := ⟨_, rfl⟩
  have H1 : Hid (nameK nm = r1) := hr1
  rw [hr1]
  clear hb hr1
  go_enter Tryz.func25, Tryz.ntmps25
  go_wp2_with fail
  refine (namek_spec nm _ HM.out r1 H1.out).mono ?_
  rintro e w1 ⟨rfl, hb1⟩
  have hx1 := chain (hbA _) hb1
  cases r1
  · go_wp2
    go_ret
    exact ⟨rfl, hx1⟩
  · go_wp2
    go_ret
    exact ⟨rfl, hx1⟩
set_option maxRecDepth 100000 in
set_option maxHeartbeats 2000000 in
theorem bare_2 (nm : ByteArray) (na : Option Addr) (nn nc : Nat) (ns : List ByteArray) (hnn : ns.length = nn) (sa : Option Addr) (sn sc : Nat) (sm : List TI) (hsn : sm.length = sn) (dn : Bool) (ct sk : Int) (w : World) (hnm : nm.size ≤ maxLen) (hS : ItmAt w sa sm) (hSf : FitItm sm) (hsm : sn ≤ maxLen) (b : Bool) (hb : bareB ⟨2, nm, ns, sm, dn, ct, sk⟩ = b) :
    Calls Tryz.prog 25 #[.agg #[.int .i64 2, .string nm, .slice na nn nc, .slice sa sn sc, .bool dn, .int .i64 ct, .int .i64 sk]] w fun e w' => e = .returned (.bool b) ∧ Below w.heap.size w w' := by
  have HS : Hid (ItmAt w sa sm) := hS
  have HF : Hid (FitItm sm) := hSf
  have HN : Hid (sm.length = sn) := hsn
  have HM : Hid (nm.size ≤ maxLen) := hnm
  have HSM : Hid (sn ≤ maxLen) := hsm
  have HNN : Hid (ns.length = nn) := hnn
  have hbA : ∀ o, Below w.heap.size w (w.alloc o) := fun o => (Below.refl _ _).alloc (Nat.le_refl _) o

  by_cases c1 : nm ≠ ⟨#[]⟩
  · have c1t := ne_txt nm c1
    obtain rfl : false = b := by rw [← hb]; simp [bareB, nameS, sumS, listS, c1]
    clear hb
    go_enter Tryz.func25, Tryz.ntmps25
    go_wp2
    go_ret
    exact ⟨rfl, hbA _⟩
  rw [ne_eq, Decidable.not_not] at c1
  have c1t := eq_txt nm c1
  by_cases c3 : 0 < nn
  · have c3i : (0 : Int) < (nn : Int) := by omega
    have c3l : ns ≠ [] := fun e => by rw [e] at hnn; simp at hnn; omega
    obtain rfl : false = b := by rw [← hb]; simp [bareB, nameS, sumS, listS, c3l]
    clear hb
    go_enter Tryz.func25, Tryz.ntmps25
    go_wp2
    go_ret
    exact ⟨rfl, hbA _⟩
  have c3i : ¬ (0 : Int) < (nn : Int) := by omega
  have c3l : ns = [] := List.length_eq_zero_iff.1 (by omega)
  cases dn
  rotate_left
  · obtain rfl : false = b := by rw [← hb]; simp [bareB, nameS, sumS, listS, ]
    clear hb
    go_enter Tryz.func25, Tryz.ntmps25
    go_wp2
    go_ret
    exact ⟨rfl, hbA _⟩
  by_cases c4 : ct = 0
  rotate_left
  · have c4i : (ct != 0) = true := by simp [c4]
    obtain rfl : false = b := by rw [← hb]; simp [bareB, nameS, sumS, listS, c4]
    clear hb
    go_enter Tryz.func25, Tryz.ntmps25
    go_wp2
    go_ret
    exact ⟨rfl, hbA _⟩
  have c4i : (ct != 0) = false := by simp [c4]
  by_cases c5 : sk = 0
  rotate_left
  · have c5i : (sk != 0) = true := by simp [c5]
    obtain rfl : false = b := by rw [← hb]; simp [bareB, nameS, sumS, listS, c5]
    clear hb
    go_enter Tryz.func25, Tryz.ntmps25
    go_wp2
    go_ret
    exact ⟨rfl, hbA _⟩
  have c5i : (sk != 0) = false := by simp [c5]
  obtain ⟨r2, hr2⟩ : ∃ r, sumB sm = r := ⟨_, rfl⟩
  have H2 : Hid (sumB sm = r2) := hr2
  obtain rfl : r2 = b := by rw [← hb, ← hr2]; simp [bareB, nameS, sumS, listS, c1, c3l, c4, c5]
  clear hb hr2
  go_enter Tryz.func25, Tryz.ntmps25
  go_wp2_with fail
  refine (sum_spec _ _ sm sn HN.out _ (HS.out.below (hbA _)) HF.out HSM.out r2 H2.out).mono ?_
  rintro e w2 ⟨rfl, hb2⟩
  have hx2 := chain (hbA _) hb2
  go_wp2
  go_ret
  exact ⟨rfl, hx2⟩
set_option maxRecDepth 100000 in
set_option maxHeartbeats 2000000 in
theorem bare_3 (nm : ByteArray) (na : Option Addr) (nn nc : Nat) (ns : List ByteArray) (hnn : ns.length = nn) (sa : Option Addr) (sn sc : Nat) (sm : List TI) (hsn : sm.length = sn) (dn : Bool) (ct sk : Int) (w : World) (hnm : nm.size ≤ maxLen) (hS : ItmAt w sa sm) (hSf : FitItm sm) (hsm : sn ≤ maxLen) (b : Bool) (hb : bareB ⟨3, nm, ns, sm, dn, ct, sk⟩ = b) :
    Calls Tryz.prog 25 #[.agg #[.int .i64 3, .string nm, .slice na nn nc, .slice sa sn sc, .bool dn, .int .i64 ct, .int .i64 sk]] w fun e w' => e = .returned (.bool b) ∧ Below w.heap.size w w' := by
  have HS : Hid (ItmAt w sa sm) := hS
  have HF : Hid (FitItm sm) := hSf
  have HN : Hid (sm.length = sn) := hsn
  have HM : Hid (nm.size ≤ maxLen) := hnm
  have HSM : Hid (sn ≤ maxLen) := hsm
  have HNN : Hid (ns.length = nn) := hnn
  have hbA : ∀ o, Below w.heap.size w (w.alloc o) := fun o => (Below.refl _ _).alloc (Nat.le_refl _) o

  by_cases c3 : 0 < nn
  · have c3i : (0 : Int) < (nn : Int) := by omega
    have c3l : ns ≠ [] := fun e => by rw [e] at hnn; simp at hnn; omega
    obtain rfl : false = b := by rw [← hb]; simp [bareB, nameS, sumS, listS, c3l]
    clear hb
    go_enter Tryz.func25, Tryz.ntmps25
    go_wp2
    go_ret
    exact ⟨rfl, hbA _⟩
  have c3i : ¬ (0 : Int) < (nn : Int) := by omega
  have c3l : ns = [] := List.length_eq_zero_iff.1 (by omega)
  cases dn
  rotate_left
  · obtain rfl : false = b := by rw [← hb]; simp [bareB, nameS, sumS, listS, ]
    clear hb
    go_enter Tryz.func25, Tryz.ntmps25
    go_wp2
    go_ret
    exact ⟨rfl, hbA _⟩
  by_cases c4 : ct = 0
  rotate_left
  · have c4i : (ct != 0) = true := by simp [c4]
    obtain rfl : false = b := by rw [← hb]; simp [bareB, nameS, sumS, listS, c4]
    clear hb
    go_enter Tryz.func25, Tryz.ntmps25
    go_wp2
    go_ret
    exact ⟨rfl, hbA _⟩
  have c4i : (ct != 0) = false := by simp [c4]
  by_cases c5 : sk = 0
  rotate_left
  · have c5i : (sk != 0) = true := by simp [c5]
    obtain rfl : false = b := by rw [← hb]; simp [bareB, nameS, sumS, listS, c5]
    clear hb
    go_enter Tryz.func25, Tryz.ntmps25
    go_wp2
    go_ret
    exact ⟨rfl, hbA _⟩
  have c5i : (sk != 0) = false := by simp [c5]
  obtain ⟨r1, hr1⟩ : ∃ r, nameK nm = r := ⟨_, rfl⟩
  obtain ⟨r2, hr2⟩ : ∃ r, sumB sm = r := ⟨_, rfl⟩
  have H1 : Hid (nameK nm = r1) := hr1
  have H2 : Hid (sumB sm = r2) := hr2
  obtain rfl : (r1 && r2) = b := by rw [← hb, ← hr1, ← hr2]; simp [bareB, nameS, sumS, listS, c3l, c4, c5]
  clear hb hr1 hr2
  go_enter Tryz.func25, Tryz.ntmps25
  go_wp2_with fail
  refine (namek_spec nm _ HM.out r1 H1.out).mono ?_
  rintro e w1 ⟨rfl, hb1⟩
  have hx1 := chain (hbA _) hb1
  cases r1
  · go_wp2
    go_ret
    exact ⟨rfl, hx1⟩
  have p3 : w1.cell? ⟨w.heap.size, 3, none⟩ = some (.slice sa sn sc) := by rw [hb1.cell (p := ⟨w.heap.size, 3, none⟩) (by simp)]; simp
  go_wp2_with fail
  refine (sum_spec _ _ sm sn HN.out _ (HS.out.below hx1) HF.out HSM.out r2 H2.out).mono ?_
  rintro e w2 ⟨rfl, hb2⟩
  have hx2 := chain hx1 hb2
  go_wp2
  go_ret
  exact ⟨rfl, hx2⟩
set_option maxRecDepth 100000 in
set_option maxHeartbeats 2000000 in
theorem bare_4 (nm : ByteArray) (na : Option Addr) (nn nc : Nat) (ns : List ByteArray) (hnn : ns.length = nn) (sa : Option Addr) (sn sc : Nat) (sm : List TI) (hsn : sm.length = sn) (dn : Bool) (ct sk : Int) (w : World) (hnm : nm.size ≤ maxLen) (hS : ItmAt w sa sm) (hSf : FitItm sm) (hsm : sn ≤ maxLen) (b : Bool) (hb : bareB ⟨4, nm, ns, sm, dn, ct, sk⟩ = b) :
    Calls Tryz.prog 25 #[.agg #[.int .i64 4, .string nm, .slice na nn nc, .slice sa sn sc, .bool dn, .int .i64 ct, .int .i64 sk]] w fun e w' => e = .returned (.bool b) ∧ Below w.heap.size w w' := by
  have HS : Hid (ItmAt w sa sm) := hS
  have HF : Hid (FitItm sm) := hSf
  have HN : Hid (sm.length = sn) := hsn
  have HM : Hid (nm.size ≤ maxLen) := hnm
  have HSM : Hid (sn ≤ maxLen) := hsm
  have HNN : Hid (ns.length = nn) := hnn
  have hbA : ∀ o, Below w.heap.size w (w.alloc o) := fun o => (Below.refl _ _).alloc (Nat.le_refl _) o

  by_cases c1 : nm ≠ ⟨#[]⟩
  · have c1t := ne_txt nm c1
    obtain rfl : false = b := by rw [← hb]; simp [bareB, nameS, sumS, listS, c1]
    clear hb
    go_enter Tryz.func25, Tryz.ntmps25
    go_wp2
    go_ret
    exact ⟨rfl, hbA _⟩
  rw [ne_eq, Decidable.not_not] at c1
  have c1t := eq_txt nm c1
  by_cases c2 : 0 < sn
  · have c2i : (0 : Int) < (sn : Int) := by omega
    have c2l : sm ≠ [] := fun e => by rw [e] at hsn; simp at hsn; omega
    obtain rfl : false = b := by rw [← hb]; simp [bareB, nameS, sumS, listS, c2l]
    clear hb
    go_enter Tryz.func25, Tryz.ntmps25
    go_wp2
    go_ret
    exact ⟨rfl, hbA _⟩
  have c2i : ¬ (0 : Int) < (sn : Int) := by omega
  have c2l : sm = [] := List.length_eq_zero_iff.1 (by omega)
  cases dn
  rotate_left
  · obtain rfl : false = b := by rw [← hb]; simp [bareB, nameS, sumS, listS, ]
    clear hb
    go_enter Tryz.func25, Tryz.ntmps25
    go_wp2
    go_ret
    exact ⟨rfl, hbA _⟩
  by_cases c4 : ct = 0
  rotate_left
  · have c4i : (ct != 0) = true := by simp [c4]
    obtain rfl : false = b := by rw [← hb]; simp [bareB, nameS, sumS, listS, c4]
    clear hb
    go_enter Tryz.func25, Tryz.ntmps25
    go_wp2
    go_ret
    exact ⟨rfl, hbA _⟩
  have c4i : (ct != 0) = false := by simp [c4]
  by_cases c5 : sk = 0
  rotate_left
  · have c5i : (sk != 0) = true := by simp [c5]
    obtain rfl : false = b := by rw [← hb]; simp [bareB, nameS, sumS, listS, c5]
    clear hb
    go_enter Tryz.func25, Tryz.ntmps25
    go_wp2
    go_ret
    exact ⟨rfl, hbA _⟩
  have c5i : (sk != 0) = false := by simp [c5]
  obtain rfl : true = b := by rw [← hb]; simp [bareB, nameS, sumS, listS, c1, c2l, c4, c5]
  clear hb
  go_enter Tryz.func25, Tryz.ntmps25
  go_wp2
  go_ret
  exact ⟨rfl, hbA _⟩
set_option maxRecDepth 100000 in
set_option maxHeartbeats 2000000 in
theorem bare_5 (nm : ByteArray) (na : Option Addr) (nn nc : Nat) (ns : List ByteArray) (hnn : ns.length = nn) (sa : Option Addr) (sn sc : Nat) (sm : List TI) (hsn : sm.length = sn) (dn : Bool) (ct sk : Int) (w : World) (hnm : nm.size ≤ maxLen) (hS : ItmAt w sa sm) (hSf : FitItm sm) (hsm : sn ≤ maxLen) (b : Bool) (hb : bareB ⟨5, nm, ns, sm, dn, ct, sk⟩ = b) :
    Calls Tryz.prog 25 #[.agg #[.int .i64 5, .string nm, .slice na nn nc, .slice sa sn sc, .bool dn, .int .i64 ct, .int .i64 sk]] w fun e w' => e = .returned (.bool b) ∧ Below w.heap.size w w' := by
  have HS : Hid (ItmAt w sa sm) := hS
  have HF : Hid (FitItm sm) := hSf
  have HN : Hid (sm.length = sn) := hsn
  have HM : Hid (nm.size ≤ maxLen) := hnm
  have HSM : Hid (sn ≤ maxLen) := hsm
  have HNN : Hid (ns.length = nn) := hnn
  have hbA : ∀ o, Below w.heap.size w (w.alloc o) := fun o => (Below.refl _ _).alloc (Nat.le_refl _) o

  by_cases c3 : 0 < nn
  · have c3i : (0 : Int) < (nn : Int) := by omega
    have c3l : ns ≠ [] := fun e => by rw [e] at hnn; simp at hnn; omega
    obtain rfl : false = b := by rw [← hb]; simp [bareB, nameS, sumS, listS, c3l]
    clear hb
    go_enter Tryz.func25, Tryz.ntmps25
    go_wp2
    go_ret
    exact ⟨rfl, hbA _⟩
  have c3i : ¬ (0 : Int) < (nn : Int) := by omega
  have c3l : ns = [] := List.length_eq_zero_iff.1 (by omega)
  cases dn
  rotate_left
  · obtain rfl : false = b := by rw [← hb]; simp [bareB, nameS, sumS, listS, ]
    clear hb
    go_enter Tryz.func25, Tryz.ntmps25
    go_wp2
    go_ret
    exact ⟨rfl, hbA _⟩
  by_cases c4 : ct = 0
  rotate_left
  · have c4i : (ct != 0) = true := by simp [c4]
    obtain rfl : false = b := by rw [← hb]; simp [bareB, nameS, sumS, listS, c4]
    clear hb
    go_enter Tryz.func25, Tryz.ntmps25
    go_wp2
    go_ret
    exact ⟨rfl, hbA _⟩
  have c4i : (ct != 0) = false := by simp [c4]
  by_cases c5 : sk = 0
  rotate_left
  · have c5i : (sk != 0) = true := by simp [c5]
    obtain rfl : false = b := by rw [← hb]; simp [bareB, nameS, sumS, listS, c5]
    clear hb
    go_enter Tryz.func25, Tryz.ntmps25
    go_wp2
    go_ret
    exact ⟨rfl, hbA _⟩
  have c5i : (sk != 0) = false := by simp [c5]
  obtain ⟨r1, hr1⟩ : ∃ r, nameK nm = r := ⟨_, rfl⟩
  obtain ⟨r2, hr2⟩ : ∃ r, sumB sm = r := ⟨_, rfl⟩
  have H1 : Hid (nameK nm = r1) := hr1
  have H2 : Hid (sumB sm = r2) := hr2
  obtain rfl : (r1 && r2) = b := by rw [← hb, ← hr1, ← hr2]; simp [bareB, nameS, sumS, listS, c3l, c4, c5]
  clear hb hr1 hr2
  go_enter Tryz.func25, Tryz.ntmps25
  go_wp2_with fail
  refine (namek_spec nm _ HM.out r1 H1.out).mono ?_
  rintro e w1 ⟨rfl, hb1⟩
  have hx1 := chain (hbA _) hb1
  cases r1
  · go_wp2
    go_ret
    exact ⟨rfl, hx1⟩
  have p3 : w1.cell? ⟨w.heap.size, 3, none⟩ = some (.slice sa sn sc) := by rw [hb1.cell (p := ⟨w.heap.size, 3, none⟩) (by simp)]; simp
  go_wp2_with fail
  refine (sum_spec _ _ sm sn HN.out _ (HS.out.below hx1) HF.out HSM.out r2 H2.out).mono ?_
  rintro e w2 ⟨rfl, hb2⟩
  have hx2 := chain hx1 hb2
  go_wp2
  go_ret
  exact ⟨rfl, hx2⟩
set_option maxRecDepth 100000 in
set_option maxHeartbeats 2000000 in
theorem bare_6 (nm : ByteArray) (na : Option Addr) (nn nc : Nat) (ns : List ByteArray) (hnn : ns.length = nn) (sa : Option Addr) (sn sc : Nat) (sm : List TI) (hsn : sm.length = sn) (dn : Bool) (ct sk : Int) (w : World) (hnm : nm.size ≤ maxLen) (hS : ItmAt w sa sm) (hSf : FitItm sm) (hsm : sn ≤ maxLen) (b : Bool) (hb : bareB ⟨6, nm, ns, sm, dn, ct, sk⟩ = b) :
    Calls Tryz.prog 25 #[.agg #[.int .i64 6, .string nm, .slice na nn nc, .slice sa sn sc, .bool dn, .int .i64 ct, .int .i64 sk]] w fun e w' => e = .returned (.bool b) ∧ Below w.heap.size w w' := by
  have HS : Hid (ItmAt w sa sm) := hS
  have HF : Hid (FitItm sm) := hSf
  have HN : Hid (sm.length = sn) := hsn
  have HM : Hid (nm.size ≤ maxLen) := hnm
  have HSM : Hid (sn ≤ maxLen) := hsm
  have HNN : Hid (ns.length = nn) := hnn
  have hbA : ∀ o, Below w.heap.size w (w.alloc o) := fun o => (Below.refl _ _).alloc (Nat.le_refl _) o

  by_cases c3 : 0 < nn
  · have c3i : (0 : Int) < (nn : Int) := by omega
    have c3l : ns ≠ [] := fun e => by rw [e] at hnn; simp at hnn; omega
    obtain rfl : false = b := by rw [← hb]; simp [bareB, nameS, sumS, listS, c3l]
    clear hb
    go_enter Tryz.func25, Tryz.ntmps25
    go_wp2
    go_ret
    exact ⟨rfl, hbA _⟩
  have c3i : ¬ (0 : Int) < (nn : Int) := by omega
  have c3l : ns = [] := List.length_eq_zero_iff.1 (by omega)
  cases dn
  rotate_left
  · obtain rfl : false = b := by rw [← hb]; simp [bareB, nameS, sumS, listS, ]
    clear hb
    go_enter Tryz.func25, Tryz.ntmps25
    go_wp2
    go_ret
    exact ⟨rfl, hbA _⟩
  by_cases c4 : ct = 0
  rotate_left
  · have c4i : (ct != 0) = true := by simp [c4]
    obtain rfl : false = b := by rw [← hb]; simp [bareB, nameS, sumS, listS, c4]
    clear hb
    go_enter Tryz.func25, Tryz.ntmps25
    go_wp2
    go_ret
    exact ⟨rfl, hbA _⟩
  have c4i : (ct != 0) = false := by simp [c4]
  by_cases c5 : sk = 0
  rotate_left
  · have c5i : (sk != 0) = true := by simp [c5]
    obtain rfl : false = b := by rw [← hb]; simp [bareB, nameS, sumS, listS, c5]
    clear hb
    go_enter Tryz.func25, Tryz.ntmps25
    go_wp2
    go_ret
    exact ⟨rfl, hbA _⟩
  have c5i : (sk != 0) = false := by simp [c5]
  obtain ⟨r1, hr1⟩ : ∃ r, nameK nm = r := ⟨_, rfl⟩
  obtain ⟨r2, hr2⟩ : ∃ r, sumB sm = r := ⟨_, rfl⟩
  have H1 : Hid (nameK nm = r1) := hr1
  have H2 : Hid (sumB sm = r2) := hr2
  obtain rfl : (r1 && r2) = b := by rw [← hb, ← hr1, ← hr2]; simp [bareB, nameS, sumS, listS, c3l, c4, c5]
  clear hb hr1 hr2
  go_enter Tryz.func25, Tryz.ntmps25
  go_wp2_with fail
  refine (namek_spec nm _ HM.out r1 H1.out).mono ?_
  rintro e w1 ⟨rfl, hb1⟩
  have hx1 := chain (hbA _) hb1
  cases r1
  · go_wp2
    go_ret
    exact ⟨rfl, hx1⟩
  have p3 : w1.cell? ⟨w.heap.size, 3, none⟩ = some (.slice sa sn sc) := by rw [hb1.cell (p := ⟨w.heap.size, 3, none⟩) (by simp)]; simp
  go_wp2_with fail
  refine (sum_spec _ _ sm sn HN.out _ (HS.out.below hx1) HF.out HSM.out r2 H2.out).mono ?_
  rintro e w2 ⟨rfl, hb2⟩
  have hx2 := chain hx1 hb2
  go_wp2
  go_ret
  exact ⟨rfl, hx2⟩
set_option maxRecDepth 100000 in
set_option maxHeartbeats 2000000 in
theorem bare_7 (nm : ByteArray) (na : Option Addr) (nn nc : Nat) (ns : List ByteArray) (hnn : ns.length = nn) (sa : Option Addr) (sn sc : Nat) (sm : List TI) (hsn : sm.length = sn) (dn : Bool) (ct sk : Int) (w : World) (hnm : nm.size ≤ maxLen) (hS : ItmAt w sa sm) (hSf : FitItm sm) (hsm : sn ≤ maxLen) (b : Bool) (hb : bareB ⟨7, nm, ns, sm, dn, ct, sk⟩ = b) :
    Calls Tryz.prog 25 #[.agg #[.int .i64 7, .string nm, .slice na nn nc, .slice sa sn sc, .bool dn, .int .i64 ct, .int .i64 sk]] w fun e w' => e = .returned (.bool b) ∧ Below w.heap.size w w' := by
  have HS : Hid (ItmAt w sa sm) := hS
  have HF : Hid (FitItm sm) := hSf
  have HN : Hid (sm.length = sn) := hsn
  have HM : Hid (nm.size ≤ maxLen) := hnm
  have HSM : Hid (sn ≤ maxLen) := hsm
  have HNN : Hid (ns.length = nn) := hnn
  have hbA : ∀ o, Below w.heap.size w (w.alloc o) := fun o => (Below.refl _ _).alloc (Nat.le_refl _) o

  by_cases c1 : nm ≠ ⟨#[]⟩
  · have c1t := ne_txt nm c1
    obtain rfl : false = b := by rw [← hb]; simp [bareB, nameS, sumS, listS, c1]
    clear hb
    go_enter Tryz.func25, Tryz.ntmps25
    go_wp2
    go_ret
    exact ⟨rfl, hbA _⟩
  rw [ne_eq, Decidable.not_not] at c1
  have c1t := eq_txt nm c1
  by_cases c2 : 0 < sn
  · have c2i : (0 : Int) < (sn : Int) := by omega
    have c2l : sm ≠ [] := fun e => by rw [e] at hsn; simp at hsn; omega
    obtain rfl : false = b := by rw [← hb]; simp [bareB, nameS, sumS, listS, c2l]
    clear hb
    go_enter Tryz.func25, Tryz.ntmps25
    go_wp2
    go_ret
    exact ⟨rfl, hbA _⟩
  have c2i : ¬ (0 : Int) < (sn : Int) := by omega
  have c2l : sm = [] := List.length_eq_zero_iff.1 (by omega)
  cases dn
  rotate_left
  · obtain rfl : false = b := by rw [← hb]; simp [bareB, nameS, sumS, listS, ]
    clear hb
    go_enter Tryz.func25, Tryz.ntmps25
    go_wp2
    go_ret
    exact ⟨rfl, hbA _⟩
  by_cases c4 : ct = 0
  rotate_left
  · have c4i : (ct != 0) = true := by simp [c4]
    obtain rfl : false = b := by rw [← hb]; simp [bareB, nameS, sumS, listS, c4]
    clear hb
    go_enter Tryz.func25, Tryz.ntmps25
    go_wp2
    go_ret
    exact ⟨rfl, hbA _⟩
  have c4i : (ct != 0) = false := by simp [c4]
  by_cases c5 : sk = 0
  rotate_left
  · have c5i : (sk != 0) = true := by simp [c5]
    obtain rfl : false = b := by rw [← hb]; simp [bareB, nameS, sumS, listS, c5]
    clear hb
    go_enter Tryz.func25, Tryz.ntmps25
    go_wp2
    go_ret
    exact ⟨rfl, hbA _⟩
  have c5i : (sk != 0) = false := by simp [c5]
  obtain rfl : true = b := by rw [← hb]; simp [bareB, nameS, sumS, listS, c1, c2l, c4, c5]
  clear hb
  go_enter Tryz.func25, Tryz.ntmps25
  go_wp2
  go_ret
  exact ⟨rfl, hbA _⟩
set_option maxRecDepth 100000 in
set_option maxHeartbeats 2000000 in
theorem bare_8 (nm : ByteArray) (na : Option Addr) (nn nc : Nat) (ns : List ByteArray) (hnn : ns.length = nn) (sa : Option Addr) (sn sc : Nat) (sm : List TI) (hsn : sm.length = sn) (dn : Bool) (ct sk : Int) (w : World) (hnm : nm.size ≤ maxLen) (hS : ItmAt w sa sm) (hSf : FitItm sm) (hsm : sn ≤ maxLen) (b : Bool) (hb : bareB ⟨8, nm, ns, sm, dn, ct, sk⟩ = b) :
    Calls Tryz.prog 25 #[.agg #[.int .i64 8, .string nm, .slice na nn nc, .slice sa sn sc, .bool dn, .int .i64 ct, .int .i64 sk]] w fun e w' => e = .returned (.bool b) ∧ Below w.heap.size w w' := by
  have HS : Hid (ItmAt w sa sm) := hS
  have HF : Hid (FitItm sm) := hSf
  have HN : Hid (sm.length = sn) := hsn
  have HM : Hid (nm.size ≤ maxLen) := hnm
  have HSM : Hid (sn ≤ maxLen) := hsm
  have HNN : Hid (ns.length = nn) := hnn
  have hbA : ∀ o, Below w.heap.size w (w.alloc o) := fun o => (Below.refl _ _).alloc (Nat.le_refl _) o

  by_cases c2 : 0 < sn
  · have c2i : (0 : Int) < (sn : Int) := by omega
    have c2l : sm ≠ [] := fun e => by rw [e] at hsn; simp at hsn; omega
    obtain rfl : false = b := by rw [← hb]; simp [bareB, nameS, sumS, listS, c2l]
    clear hb
    go_enter Tryz.func25, Tryz.ntmps25
    go_wp2
    go_ret
    exact ⟨rfl, hbA _⟩
  have c2i : ¬ (0 : Int) < (sn : Int) := by omega
  have c2l : sm = [] := List.length_eq_zero_iff.1 (by omega)
  by_cases c3 : 0 < nn
  · have c3i : (0 : Int) < (nn : Int) := by omega
    have c3l : ns ≠ [] := fun e => by rw [e] at hnn; simp at hnn; omega
    obtain rfl : false = b := by rw [← hb]; simp [bareB, nameS, sumS, listS, c3l]
    clear hb
    go_enter Tryz.func25, Tryz.ntmps25
    go_wp2
    go_ret
    exact ⟨rfl, hbA _⟩
  have c3i : ¬ (0 : Int) < (nn : Int) := by omega
  have c3l : ns = [] := List.length_eq_zero_iff.1 (by omega)
  cases dn
  · by_cases c4 : ct = 0
    rotate_left
    · have c4i : (ct != 0) = true := by simp [c4]
      obtain rfl : false = b := by rw [← hb]; simp [bareB, nameS, sumS, listS, c4]
      clear hb
      go_enter Tryz.func25, Tryz.ntmps25
      go_wp2
      go_ret
      exact ⟨rfl, hbA _⟩
    have c4i : (ct != 0) = false := by simp [c4]
    by_cases c5 : sk = 0
    rotate_left
    · have c5i : (sk != 0) = true := by simp [c5]
      obtain rfl : false = b := by rw [← hb]; simp [bareB, nameS, sumS, listS, c5]
      clear hb
      go_enter Tryz.func25, Tryz.ntmps25
      go_wp2
      go_ret
      exact ⟨rfl, hbA _⟩
    have c5i : (sk != 0) = false := by simp [c5]
    obtain rfl : nameK nm = b := by rw [← hb]; simp [bareB, nameS, sumS, listS, c2l, c3l, c4, c5]
    obtain ⟨r1, hr1⟩ : ∃ r, nameK nm = r := ⟨_, rfl⟩
    have H1 : Hid (nameK nm = r1) := hr1
    rw [hr1]
    clear hb hr1
    go_enter Tryz.func25, Tryz.ntmps25
    go_wp2_with fail
    refine (namek_spec nm _ HM.out r1 H1.out).mono ?_
    rintro e w1 ⟨rfl, hb1⟩
    have hx1 := chain (hbA _) hb1
    cases r1
    · go_wp2
      go_ret
      exact ⟨rfl, hx1⟩
    · go_wp2
      go_ret
      exact ⟨rfl, hx1⟩
  · by_cases c4 : ct = 0
    rotate_left
    · have c4i : (ct != 0) = true := by simp [c4]
      obtain rfl : false = b := by rw [← hb]; simp [bareB, nameS, sumS, listS, c4]
      clear hb
      go_enter Tryz.func25, Tryz.ntmps25
      go_wp2
      go_ret
      exact ⟨rfl, hbA _⟩
    have c4i : (ct != 0) = false := by simp [c4]
    by_cases c5 : sk = 0
    rotate_left
    · have c5i : (sk != 0) = true := by simp [c5]
      obtain rfl : false = b := by rw [← hb]; simp [bareB, nameS, sumS, listS, c5]
      clear hb
      go_enter Tryz.func25, Tryz.ntmps25
      go_wp2
      go_ret
      exact ⟨rfl, hbA _⟩
    have c5i : (sk != 0) = false := by simp [c5]
    obtain rfl : nameK nm = b := by rw [← hb]; simp [bareB, nameS, sumS, listS, c2l, c3l, c4, c5]
    obtain ⟨r1, hr1⟩ : ∃ r, nameK nm = r := ⟨_, rfl⟩
    have H1 : Hid (nameK nm = r1) := hr1
    rw [hr1]
    clear hb hr1
    go_enter Tryz.func25, Tryz.ntmps25
    go_wp2_with fail
    refine (namek_spec nm _ HM.out r1 H1.out).mono ?_
    rintro e w1 ⟨rfl, hb1⟩
    have hx1 := chain (hbA _) hb1
    cases r1
    · go_wp2
      go_ret
      exact ⟨rfl, hx1⟩
    · go_wp2
      go_ret
      exact ⟨rfl, hx1⟩
set_option maxRecDepth 100000 in
set_option maxHeartbeats 2000000 in
theorem bare_9 (nm : ByteArray) (na : Option Addr) (nn nc : Nat) (ns : List ByteArray) (hnn : ns.length = nn) (sa : Option Addr) (sn sc : Nat) (sm : List TI) (hsn : sm.length = sn) (dn : Bool) (ct sk : Int) (w : World) (hnm : nm.size ≤ maxLen) (hS : ItmAt w sa sm) (hSf : FitItm sm) (hsm : sn ≤ maxLen) (b : Bool) (hb : bareB ⟨9, nm, ns, sm, dn, ct, sk⟩ = b) :
    Calls Tryz.prog 25 #[.agg #[.int .i64 9, .string nm, .slice na nn nc, .slice sa sn sc, .bool dn, .int .i64 ct, .int .i64 sk]] w fun e w' => e = .returned (.bool b) ∧ Below w.heap.size w w' := by
  have HS : Hid (ItmAt w sa sm) := hS
  have HF : Hid (FitItm sm) := hSf
  have HN : Hid (sm.length = sn) := hsn
  have HM : Hid (nm.size ≤ maxLen) := hnm
  have HSM : Hid (sn ≤ maxLen) := hsm
  have HNN : Hid (ns.length = nn) := hnn
  have hbA : ∀ o, Below w.heap.size w (w.alloc o) := fun o => (Below.refl _ _).alloc (Nat.le_refl _) o

  by_cases c1 : nm ≠ ⟨#[]⟩
  · have c1t := ne_txt nm c1
    obtain rfl : false = b := by rw [← hb]; simp [bareB, nameS, sumS, listS, c1]
    clear hb
    go_enter Tryz.func25, Tryz.ntmps25
    go_wp2
    go_ret
    exact ⟨rfl, hbA _⟩
  rw [ne_eq, Decidable.not_not] at c1
  have c1t := eq_txt nm c1
  by_cases c2 : 0 < sn
  · have c2i : (0 : Int) < (sn : Int) := by omega
    have c2l : sm ≠ [] := fun e => by rw [e] at hsn; simp at hsn; omega
    obtain rfl : false = b := by rw [← hb]; simp [bareB, nameS, sumS, listS, c2l]
    clear hb
    go_enter Tryz.func25, Tryz.ntmps25
    go_wp2
    go_ret
    exact ⟨rfl, hbA _⟩
  have c2i : ¬ (0 : Int) < (sn : Int) := by omega
  have c2l : sm = [] := List.length_eq_zero_iff.1 (by omega)
  by_cases c3 : 0 < nn
  · have c3i : (0 : Int) < (nn : Int) := by omega
    have c3l : ns ≠ [] := fun e => by rw [e] at hnn; simp at hnn; omega
    obtain rfl : false = b := by rw [← hb]; simp [bareB, nameS, sumS, listS, c3l]
    clear hb
    go_enter Tryz.func25, Tryz.ntmps25
    go_wp2
    go_ret
    exact ⟨rfl, hbA _⟩
  have c3i : ¬ (0 : Int) < (nn : Int) := by omega
  have c3l : ns = [] := List.length_eq_zero_iff.1 (by omega)
  cases dn
  rotate_left
  · obtain rfl : false = b := by rw [← hb]; simp [bareB, nameS, sumS, listS, ]
    clear hb
    go_enter Tryz.func25, Tryz.ntmps25
    go_wp2
    go_ret
    exact ⟨rfl, hbA _⟩
  obtain rfl : true = b := by rw [← hb]; simp [bareB, nameS, sumS, listS, c1, c2l, c3l]
  clear hb
  go_enter Tryz.func25, Tryz.ntmps25
  go_wp2
  go_ret
  exact ⟨rfl, hbA _⟩
set_option maxRecDepth 100000 in
set_option maxHeartbeats 2000000 in
theorem bare_10 (nm : ByteArray) (na : Option Addr) (nn nc : Nat) (ns : List ByteArray) (hnn : ns.length = nn) (sa : Option Addr) (sn sc : Nat) (sm : List TI) (hsn : sm.length = sn) (dn : Bool) (ct sk : Int) (w : World) (hnm : nm.size ≤ maxLen) (hS : ItmAt w sa sm) (hSf : FitItm sm) (hsm : sn ≤ maxLen) (b : Bool) (hb : bareB ⟨10, nm, ns, sm, dn, ct, sk⟩ = b) :
    Calls Tryz.prog 25 #[.agg #[.int .i64 10, .string nm, .slice na nn nc, .slice sa sn sc, .bool dn, .int .i64 ct, .int .i64 sk]] w fun e w' => e = .returned (.bool b) ∧ Below w.heap.size w w' := by
  have HS : Hid (ItmAt w sa sm) := hS
  have HF : Hid (FitItm sm) := hSf
  have HN : Hid (sm.length = sn) := hsn
  have HM : Hid (nm.size ≤ maxLen) := hnm
  have HSM : Hid (sn ≤ maxLen) := hsm
  have HNN : Hid (ns.length = nn) := hnn
  have hbA : ∀ o, Below w.heap.size w (w.alloc o) := fun o => (Below.refl _ _).alloc (Nat.le_refl _) o

  by_cases c1 : nm ≠ ⟨#[]⟩
  · have c1t := ne_txt nm c1
    obtain rfl : false = b := by rw [← hb]; simp [bareB, nameS, sumS, listS, c1]
    clear hb
    go_enter Tryz.func25, Tryz.ntmps25
    go_wp2
    go_ret
    exact ⟨rfl, hbA _⟩
  rw [ne_eq, Decidable.not_not] at c1
  have c1t := eq_txt nm c1
  by_cases c2 : 0 < sn
  · have c2i : (0 : Int) < (sn : Int) := by omega
    have c2l : sm ≠ [] := fun e => by rw [e] at hsn; simp at hsn; omega
    obtain rfl : false = b := by rw [← hb]; simp [bareB, nameS, sumS, listS, c2l]
    clear hb
    go_enter Tryz.func25, Tryz.ntmps25
    go_wp2
    go_ret
    exact ⟨rfl, hbA _⟩
  have c2i : ¬ (0 : Int) < (sn : Int) := by omega
  have c2l : sm = [] := List.length_eq_zero_iff.1 (by omega)
  by_cases c3 : 0 < nn
  · have c3i : (0 : Int) < (nn : Int) := by omega
    have c3l : ns ≠ [] := fun e => by rw [e] at hnn; simp at hnn; omega
    obtain rfl : false = b := by rw [← hb]; simp [bareB, nameS, sumS, listS, c3l]
    clear hb
    go_enter Tryz.func25, Tryz.ntmps25
    go_wp2
    go_ret
    exact ⟨rfl, hbA _⟩
  have c3i : ¬ (0 : Int) < (nn : Int) := by omega
  have c3l : ns = [] := List.length_eq_zero_iff.1 (by omega)
  cases dn
  rotate_left
  · obtain rfl : false = b := by rw [← hb]; simp [bareB, nameS, sumS, listS, ]
    clear hb
    go_enter Tryz.func25, Tryz.ntmps25
    go_wp2
    go_ret
    exact ⟨rfl, hbA _⟩
  by_cases c4 : ct = 0
  rotate_left
  · have c4i : (ct != 0) = true := by simp [c4]
    obtain rfl : false = b := by rw [← hb]; simp [bareB, nameS, sumS, listS, c4]
    clear hb
    go_enter Tryz.func25, Tryz.ntmps25
    go_wp2
    go_ret
    exact ⟨rfl, hbA _⟩
  have c4i : (ct != 0) = false := by simp [c4]
  by_cases c5 : sk = 0
  rotate_left
  · have c5i : (sk != 0) = true := by simp [c5]
    obtain rfl : false = b := by rw [← hb]; simp [bareB, nameS, sumS, listS, c5]
    clear hb
    go_enter Tryz.func25, Tryz.ntmps25
    go_wp2
    go_ret
    exact ⟨rfl, hbA _⟩
  have c5i : (sk != 0) = false := by simp [c5]
  obtain rfl : true = b := by rw [← hb]; simp [bareB, nameS, sumS, listS, c1, c2l, c3l, c4, c5]
  clear hb
  go_enter Tryz.func25, Tryz.ntmps25
  go_wp2
  go_ret
  exact ⟨rfl, hbA _⟩
theorem bare_spec (k : Int) (hk : 1 ≤ k ∧ k ≤ 10) (nm : ByteArray) (na : Option Addr) (nn nc : Nat) (ns : List ByteArray) (hnn : ns.length = nn) (sa : Option Addr) (sn sc : Nat) (sm : List TI) (hsn : sm.length = sn) (dn : Bool) (ct sk : Int) (w : World) (hnm : nm.size ≤ maxLen) (hS : ItmAt w sa sm) (hSf : FitItm sm) (hsm : sn ≤ maxLen) (b : Bool) (hb : bareB ⟨k, nm, ns, sm, dn, ct, sk⟩ = b) :
    Calls Tryz.prog 25 #[.agg #[.int .i64 k, .string nm, .slice na nn nc, .slice sa sn sc, .bool dn, .int .i64 ct, .int .i64 sk]] w fun e w' => e = .returned (.bool b) ∧ Below w.heap.size w w' := by
  rcases (by omega : k = 1 ∨ k = 2 ∨ k = 3 ∨ k = 4 ∨ k = 5 ∨ k = 6 ∨ k = 7 ∨ k = 8 ∨ k = 9 ∨ k = 10) with rfl | rfl | rfl | rfl | rfl | rfl | rfl | rfl | rfl | rfl
  · exact bare_1 nm na nn nc ns hnn sa sn sc sm hsn dn ct sk w hnm hS hSf hsm b hb
  · exact bare_2 nm na nn nc ns hnn sa sn sc sm hsn dn ct sk w hnm hS hSf hsm b hb
  · exact bare_3 nm na nn nc ns hnn sa sn sc sm hsn dn ct sk w hnm hS hSf hsm b hb
  · exact bare_4 nm na nn nc ns hnn sa sn sc sm hsn dn ct sk w hnm hS hSf hsm b hb
  · exact bare_5 nm na nn nc ns hnn sa sn sc sm hsn dn ct sk w hnm hS hSf hsm b hb
  · exact bare_6 nm na nn nc ns hnn sa sn sc sm hsn dn ct sk w hnm hS hSf hsm b hb
  · exact bare_7 nm na nn nc ns hnn sa sn sc sm hsn dn ct sk w hnm hS hSf hsm b hb
  · exact bare_8 nm na nn nc ns hnn sa sn sc sm hsn dn ct sk w hnm hS hSf hsm b hb
  · exact bare_9 nm na nn nc ns hnn sa sn sc sm hsn dn ct sk w hnm hS hSf hsm b hb
  · exact bare_10 nm na nn nc ns hnn sa sn sc sm hsn dn ct sk w hnm hS hSf hsm b hb
end Go.Proofs.YtmmandkellhbeaaGreatDoor

/-
  The contract of the model's SieveOk.
-/
namespace Go.Proofs.YtmmandkellhbeaaGreatDoor
open Go.ChangeShapes Go.WideShapes Go.ChangeAt Go.RowKit
attribute [local go_sem ↓] Go.wp_at_zero Go.wp_at_succ
attribute [local simp] World.cell?_alloc_past World.cell?_alloc_at World.frozen?_alloc_at cell_far cell_off cell_here World.frozen?_alloc_past

theorem l1in_spec (x lo hi : Int) (b : Bool) (hb : (decide (lo ≤ x) && decide (x ≤ hi)) = b) (w : World) :
    Calls Tryz.prog 27 #[.int .i64 x, .int .i64 lo, .int .i64 hi] w fun e w' => e = .returned (.bool b) ∧ w' = w := by
  subst hb
  by_cases h1 : lo ≤ x
  · by_cases h2 : x ≤ hi
    · go_enter Tryz.func27, Tryz.ntmps27
      go_wp2
      go_ret
      exact ⟨ret_bool (by simp [h1, h2]), rfl⟩
    · go_enter Tryz.func27, Tryz.ntmps27
      go_wp2
      go_ret
      exact ⟨ret_bool (by rw [decide_eq_false (show ¬ x ≤ hi by omega)]), rfl⟩
  · go_enter Tryz.func27, Tryz.ntmps27
    go_wp2
    go_ret
    exact ⟨ret_bool (by rw [decide_eq_false (show ¬ lo ≤ x by omega), Bool.false_and]), rfl⟩
set_option maxRecDepth 100000 in
set_option maxHeartbeats 4000000 in
theorem sieve_spec (k : Int) (nm : ByteArray) (na : Option Addr) (nn nc : Nat) (ns : List ByteArray) (hnn : ns.length = nn) (sa : Option Addr) (sn sc : Nat) (sm : List TI) (hsn : sm.length = sn) (dn : Bool) (ct sk : Int) (w : World) (hnm : nm.size ≤ maxLen) (hN : StrsAt w na ns) (hNf : FitS ns) (hnM : nn ≤ maxLen) (hnc : nn ≤ nc) (hS : ItmAt w sa sm) (hSf : FitItm sm) (hsm : sn ≤ maxLen) (b : Bool) (hb : sieveB ⟨k, nm, ns, sm, dn, ct, sk⟩ = b) :
    Calls Tryz.prog 8 #[.agg #[.int .i64 k, .string nm, .slice na nn nc, .slice sa sn sc, .bool dn, .int .i64 ct, .int .i64 sk]] w fun e w' => e = .returned (.bool b) ∧ Below w.heap.size w w' := by
  have hbA : ∀ o, Below w.heap.size w (w.alloc o) := fun o => (Below.refl _ _).alloc (Nat.le_refl _) o
  obtain ⟨r, hr⟩ : ∃ r, bareB ⟨k, nm, ns, sm, dn, ct, sk⟩ = r := ⟨_, rfl⟩
  have HB : Hid (1 ≤ k ∧ k ≤ 10 → ∀ w', Below w.heap.size w w' → Calls Tryz.prog 25 #[.agg #[.int .i64 k, .string nm, .slice na nn nc, .slice sa sn sc, .bool dn, .int .i64 ct, .int .i64 sk]] w' fun e w'' => e = .returned (.bool r) ∧ Below w'.heap.size w' w'') :=
    fun hk w' hw => bare_spec k hk nm na nn nc ns hnn sa sn sc sm hsn dn ct sk w' hnm (hS.below hw) hSf hsm r hr
  have HNM : Hid (∀ (lo hi : Int) (w' : World), Below w.heap.size w w' → Calls Tryz.prog 26 #[.slice na nn nc, .int .i64 lo, .int .i64 hi] w' fun e w'' => e = .returned (.bool (names10 ns lo hi)) ∧ Below w'.heap.size w' w'') :=
    fun lo hi w' hw => names10_spec nn na nc ns hnn lo hi w' (hN.below hw) hNf hnM hnc _ rfl
  have HV : Hid ((if k = 4 then r && names10 ns 1 6 else if k = 7 then r && names10 ns 0 4 else if k = 9 then r && (in1000 ct && in1000 sk) else (decide (1 ≤ k) && decide (k ≤ 10)) && r) = b) := by
    have : (if k = 4 then r && names10 ns 1 6 else if k = 7 then r && names10 ns 0 4 else if k = 9 then r && (in1000 ct && in1000 sk) else (decide (1 ≤ k) && decide (k ≤ 10)) && r) = b := by
      rw [← hb, ← hr]; rfl
    exact this
  clear hb hr hnn hsn hnm hN hNf hnM hnc hS hSf hsm
  by_cases h4 : k = 4
  · subst h4
    obtain ⟨q, hq⟩ : ∃ q, names10 ns 1 6 = q := ⟨_, rfl⟩
    obtain rfl : (r && q) = b := by have := HV.out; rw [if_pos rfl, hq] at this; exact this
    have HQ : Hid (names10 ns 1 6 = q) := hq
    clear HV hq
    go_enter Tryz.func8, Tryz.ntmps8
    go_wp2_with fail
    refine (HB.out (by omega) _ (hbA _)).mono ?_
    rintro e w1 ⟨rfl, hb1⟩
    have hx1 := chain (hbA _) hb1
    cases r
    · go_wp2
      go_ret
      exact ⟨rfl, hx1⟩
    have p2 : w1.cell? ⟨w.heap.size, 2, none⟩ = some (.slice na nn nc) := by rw [hb1.cell (p := ⟨w.heap.size, 2, none⟩) (by simp)]; simp
    go_wp2_with fail
    refine (HNM.out 1 6 _ hx1).mono ?_
    rw [HQ.out]
    rintro e w2 ⟨rfl, hb2⟩
    have hx2 := chain hx1 hb2
    go_wp2
    go_ret
    exact ⟨rfl, hx2⟩
  by_cases h7 : k = 7
  · subst h7
    obtain ⟨q, hq⟩ : ∃ q, names10 ns 0 4 = q := ⟨_, rfl⟩
    obtain rfl : (r && q) = b := by have := HV.out; rw [if_neg (by decide), if_pos rfl, hq] at this; exact this
    have HQ : Hid (names10 ns 0 4 = q) := hq
    clear HV hq h4
    go_enter Tryz.func8, Tryz.ntmps8
    go_wp2_with fail
    refine (HB.out (by omega) _ (hbA _)).mono ?_
    rintro e w1 ⟨rfl, hb1⟩
    have hx1 := chain (hbA _) hb1
    cases r
    · go_wp2
      go_ret
      exact ⟨rfl, hx1⟩
    have p2 : w1.cell? ⟨w.heap.size, 2, none⟩ = some (.slice na nn nc) := by rw [hb1.cell (p := ⟨w.heap.size, 2, none⟩) (by simp)]; simp
    go_wp2_with fail
    refine (HNM.out 0 4 _ hx1).mono ?_
    rw [HQ.out]
    rintro e w2 ⟨rfl, hb2⟩
    have hx2 := chain hx1 hb2
    go_wp2
    go_ret
    exact ⟨rfl, hx2⟩
  by_cases h9 : k = 9
  · subst h9
    obtain ⟨q1, hq1⟩ : ∃ q, in1000 ct = q := ⟨_, rfl⟩
    obtain ⟨q2, hq2⟩ : ∃ q, in1000 sk = q := ⟨_, rfl⟩
    obtain rfl : (r && (q1 && q2)) = b := by have := HV.out; rw [if_neg (by decide), if_neg (by decide), if_pos rfl, hq1, hq2] at this; exact this
    have HQ1 : Hid (in1000 ct = q1) := hq1
    have HQ2 : Hid (in1000 sk = q2) := hq2
    clear HV hq1 hq2 h4 h7
    go_enter Tryz.func8, Tryz.ntmps8
    go_wp2_with fail
    refine (HB.out (by omega) _ (hbA _)).mono ?_
    rintro e w1 ⟨rfl, hb1⟩
    have hx1 := chain (hbA _) hb1
    cases r
    · go_wp2
      go_ret
      exact ⟨rfl, hx1⟩
    have p5 : w1.cell? ⟨w.heap.size, 5, none⟩ = some (.int .i64 ct) := by rw [hb1.cell (p := ⟨w.heap.size, 5, none⟩) (by simp)]; simp
    have p6 : w1.cell? ⟨w.heap.size, 6, none⟩ = some (.int .i64 sk) := by rw [hb1.cell (p := ⟨w.heap.size, 6, none⟩) (by simp)]; simp
    go_wp2_with fail
    refine (l1in_spec ct 0 1000 q1 HQ1.out _).mono ?_
    rintro e w2 ⟨rfl, hw2⟩
    obtain rfl : w1 = w2 := hw2.symm
    cases q1
    · go_wp2
      go_ret
      exact ⟨rfl, hx1⟩
    go_wp2_with fail
    refine (l1in_spec sk 0 1000 q2 HQ2.out _).mono ?_
    rintro e w2 ⟨rfl, hw2⟩
    obtain rfl : w1 = w2 := hw2.symm
    go_wp2
    go_ret
    exact ⟨rfl, hx1⟩
  have g4 : (k == 4) = false := by simpa using h4
  have g7 : (k == 7) = false := by simpa using h7
  have g9 : (k == 9) = false := by simpa using h9
  obtain ⟨q, hq⟩ : ∃ q, (decide (1 ≤ k) && decide (k ≤ 10)) = q := ⟨_, rfl⟩
  obtain rfl : (q && r) = b := by have := HV.out; rw [if_neg h4, if_neg h7, if_neg h9, hq] at this; exact this
  have HQ : Hid ((decide (1 ≤ k) && decide (k ≤ 10)) = q) := hq
  clear HV hq h4 h7 h9
  go_enter Tryz.func8, Tryz.ntmps8
  go_wp2_with fail
  refine (l1in_spec k 1 10 q HQ.out _).mono ?_
  rintro e w1 ⟨rfl, hw1⟩
  replace hw1 := hw1.symm
  subst hw1
  cases q
  · go_wp2
    go_ret
    exact ⟨rfl, hbA _⟩
  have hk : 1 ≤ k ∧ k ≤ 10 := by
    have := HQ.out
    rw [Bool.and_eq_true, decide_eq_true_eq, decide_eq_true_eq] at this
    exact this
  go_wp2_with fail
  refine (HB.out hk _ (hbA _)).mono ?_
  rintro e w2 ⟨rfl, hb2⟩
  have hx2 := chain (hbA _) hb2
  go_wp2
  go_ret
  exact ⟨rfl, hx2⟩
end Go.Proofs.YtmmandkellhbeaaGreatDoor
