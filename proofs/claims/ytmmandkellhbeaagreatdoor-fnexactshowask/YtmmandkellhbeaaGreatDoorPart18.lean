/-
  A part of the proof: SvI1b.
-/
import Derived.Test.YtmmandkellhbeaaGreatDoorPart17

/-
  The contract of the program's question whether a sieve is right.
-/
namespace Go.Proofs.YtmmandkellhbeaaGreatDoor
open Go.ChangeShapes Go.WideShapes Go.ChangeAt Go.RowKit
attribute [local go_sem ↓] Go.wp_at_zero Go.wp_at_succ
attribute [local simp] World.cell?_alloc_past World.cell?_alloc_at World.frozen?_alloc_at cell_far cell_off cell_here World.frozen?_alloc_past

theorem wpList_unguardV {P : Program} {ops : Array Oper} {Q : Exit → Act → World → Prop} {a : Act} {w : World} {rest : List Oper} {d : Option Tmp} {op : Op} {ty : TypeId} {ps : String} {af : Array Edge} {g : Option (Nat × Bool)}
    (hw : Region.wanted { dst := d, op := op, type := ty, pos := ps, after := af, guard := g } (yielded ops a.tmps) = true)
    (h : wpList P ops Q ({ dst := d, op := op, type := ty, pos := ps, after := af, guard := none } :: rest) a w) : wpList P ops Q ({ dst := d, op := op, type := ty, pos := ps, after := af, guard := g } :: rest) a w := by
  unfold wpList at h ⊢
  rw [if_pos hw]
  rw [if_pos (by simp [Region.wanted])] at h
  exact h
set_option maxRecDepth 100000 in
set_option maxHeartbeats 4000000 in
theorem right_impl (k : Int) (nm : ByteArray) (na : Option Addr) (nn nc : Nat) (N : List ByteArray) (hnn : N.length = nn) (sa : Option Addr) (sn sc : Nat) (S : List TI) (hsn : S.length = sn) (dn : Bool) (ct sk : Int) (fw : ByteArray) (fn : Bool) (ff fm : Int) (fa : ByteArray) (fs fl : Bool) (fc : Int) (w : World) (hp : PowAt w) (he : ErrAt w) (hs : SivAt w na nc sa ⟨k, nm, N, S, dn, ct, sk⟩) (hmild : MildV ⟨k, nm, N, S, dn, ct, sk⟩) (b : Bool) (hb : rightF ⟨fw, fn, ff, fm, fa, fs, fl, fc⟩ ⟨k, nm, N, S, dn, ct, sk⟩ = b) :
    Calls Tryz.prog 31 #[.agg #[.slice sa sn sc, .string fw, .bool fn, .int .i64 ff, .int .i64 fm, .string fa, .bool fs, .bool fl, .int .i64 fc, .int .i64 k, .string nm, .slice na nn nc, .slice sa sn sc, .bool dn, .int .i64 ct, .int .i64 sk]] w fun e w' => e = .returned (.bool b) ∧ Below w.heap.size w w' := by
  have hnM : nn ≤ maxLen := by rw [← hnn]; exact hs.lenN
  have hsM : sn ≤ maxLen := by rw [← hsn]; exact hs.lenI
  have hcap : nn ≤ nc := by rw [← hnn]; exact hs.capN
  have hfitN : ∀ x ∈ N, x.size ≤ 1048576 := by
    intro x hx
    obtain ⟨j, hj, rfl⟩ := List.mem_iff_getElem.1 hx
    have h1 := weightS_take N j hj
    have h2 := weightS_le N (j + 1)
    have h3 : weightS N ≤ 1048576 := hmild.2.2.1
    omega
  have hfitI : FitI S := by
    intro x hx
    have h1 := oneI_le hx
    have h3 : weightItm S ≤ 1048576 := hmild.2.2.2.2
    unfold oneItm at h1
    unfold maxLen
    exact ⟨by omega, by omega⟩
  have hnm : nm.size ≤ 1048576 := hmild.1
  obtain ⟨r1, hr1⟩ : ∃ r, nameF ⟨fw, fn, ff, fm, fa, fs, fl, fc⟩ ⟨k, nm, N, S, dn, ct, sk⟩ = r := ⟨_, rfl⟩
  obtain ⟨r2, hr2⟩ : ∃ r, namesF ⟨fw, fn, ff, fm, fa, fs, fl, fc⟩ ⟨k, nm, N, S, dn, ct, sk⟩ = r := ⟨_, rfl⟩
  obtain ⟨r3, hr3⟩ : ∃ r, sumF ⟨fw, fn, ff, fm, fa, fs, fl, fc⟩ ⟨k, nm, N, S, dn, ct, sk⟩ = r := ⟨_, rfl⟩
  obtain ⟨r4, hr4⟩ : ∃ r, canF ⟨fw, fn, ff, fm, fa, fs, fl, fc⟩ ct = r := ⟨_, rfl⟩
  obtain ⟨r5, hr5⟩ : ∃ r, canF ⟨fw, fn, ff, fm, fa, fs, fl, fc⟩ sk = r := ⟨_, rfl⟩
  have C1 : Hid (∀ w', Below w.heap.size w w' → Calls Tryz.prog 53 #[.agg #[.slice sa sn sc, .string fw, .bool fn, .int .i64 ff, .int .i64 fm, .string fa, .bool fs, .bool fl, .int .i64 fc, .int .i64 k, .string nm, .slice na nn nc, .slice sa sn sc, .bool dn, .int .i64 ct, .int .i64 sk]] w' fun e w'' => e = .returned (.bool r1) ∧ Below w'.heap.size w' w'') :=
    fun w' hw => namer_impl k nm na nn nc N hnn sa sn sc S hsn dn ct sk fw fn ff fm fa fs fl fc w' (hp.below hw) (he.below hw) hnm r1 hr1
  have C2 : Hid (∀ w', Below w.heap.size w w' → Calls Tryz.prog 54 #[.agg #[.slice sa sn sc, .string fw, .bool fn, .int .i64 ff, .int .i64 fm, .string fa, .bool fs, .bool fl, .int .i64 fc, .int .i64 k, .string nm, .slice na nn nc, .slice sa sn sc, .bool dn, .int .i64 ct, .int .i64 sk]] w' fun e w'' => e = .returned (.bool r2) ∧ Below w'.heap.size w' w'') :=
    fun w' hw => namesr_impl k nm na nn nc N hnn sa sn sc S hsn dn ct sk fw fn ff fm fa fs fl fc w' (hp.below hw) (he.below hw) (hs.names.below hw) hfitN hnM hcap r2 hr2
  have C3 : Hid (∀ w', Below w.heap.size w w' → Calls Tryz.prog 55 #[.slice sa sn sc, .bool fs] w' fun e w'' => e = .returned (.bool r3) ∧ Below w'.heap.size w' w'') :=
    fun w' hw => sumfits_impl sa sn sc S hsn fs w' (hp.below hw) (he.below hw) (hs.sum.below hw) hfitI hsM r3 hr3
  have C4 : Hid (∀ w', Calls Tryz.prog 56 #[.agg #[.slice sa sn sc, .string fw, .bool fn, .int .i64 ff, .int .i64 fm, .string fa, .bool fs, .bool fl, .int .i64 fc, .int .i64 k, .string nm, .slice na nn nc, .slice sa sn sc, .bool dn, .int .i64 ct, .int .i64 sk], .int .i64 ct] w' fun e w'' => e = .returned (.bool r4) ∧ Below w'.heap.size w' w'') :=
    fun w' => can_impl k nm na nn nc N hnn sa sn sc S hsn dn ct sk fw fn ff fm fa fs fl fc ct w' r4 hr4
  have C5 : Hid (∀ w', Calls Tryz.prog 56 #[.agg #[.slice sa sn sc, .string fw, .bool fn, .int .i64 ff, .int .i64 fm, .string fa, .bool fs, .bool fl, .int .i64 fc, .int .i64 k, .string nm, .slice na nn nc, .slice sa sn sc, .bool dn, .int .i64 ct, .int .i64 sk], .int .i64 sk] w' fun e w'' => e = .returned (.bool r5) ∧ Below w'.heap.size w' w'') :=
    fun w' => can_impl k nm na nn nc N hnn sa sn sc S hsn dn ct sk fw fn ff fm fa fs fl fc sk w' r5 hr5
  obtain ⟨r0, hr0⟩ : ∃ r, decide (fw = ⟨#[]⟩) = r := ⟨_, rfl⟩
  have hv : (!r0 && (r1 && (r2 && (r3 && ((fl || !dn) && (r4 && r5)))))) = b := by
    rw [← hb]; unfold rightF; dsimp only; rw [hr0, hr1, hr2, hr3, hr4, hr5]
  have hz := zero_txt fw r0 hr0
  clear hb hr0 hr1 hr2 hr3 hr4 hr5 hnn hsn hp he hs hmild hnM hsM hcap hfitN hfitI hnm
  subst hv
  have hA : ∀ o o', Below w.heap.size w ((w.alloc o).alloc o') := fun o o' => ((Below.refl _ _).alloc (Nat.le_refl _) o).alloc (by simp) o'
  cases r0
  rotate_left
  · go_enter Tryz.func31, Tryz.ntmps31
    go_wp2
    go_ret
    exact ⟨rfl, hA _ _⟩
  have HG0 : Hid (((w.alloc (.cells #[.slice sa sn sc, .string fw, .bool fn, .int .i64 ff, .int .i64 fm, .string fa, .bool fs, .bool fl, .int .i64 fc, .int .i64 k, .string nm, .slice na nn nc, .slice sa sn sc, .bool dn, .int .i64 ct, .int .i64 sk] 56)).alloc (.cells #[.int .i64 k, .string nm, .slice na nn nc, .slice sa sn sc, .bool dn, .int .i64 ct, .int .i64 sk] 30)).heap[w.heap.size]? = some (.cells #[.slice sa sn sc, .string fw, .bool fn, .int .i64 ff, .int .i64 fm, .string fa, .bool fs, .bool fl, .int .i64 fc, .int .i64 k, .string nm, .slice na nn nc, .slice sa sn sc, .bool dn, .int .i64 ct, .int .i64 sk] 56)) := by
    have h : ((w.alloc (.cells #[.slice sa sn sc, .string fw, .bool fn, .int .i64 ff, .int .i64 fm, .string fa, .bool fs, .bool fl, .int .i64 fc, .int .i64 k, .string nm, .slice na nn nc, .slice sa sn sc, .bool dn, .int .i64 ct, .int .i64 sk] 56)).alloc (.cells #[.int .i64 k, .string nm, .slice na nn nc, .slice sa sn sc, .bool dn, .int .i64 ct, .int .i64 sk] 30)).heap[w.heap.size]? = some (.cells #[.slice sa sn sc, .string fw, .bool fn, .int .i64 ff, .int .i64 fm, .string fa, .bool fs, .bool fl, .int .i64 fc, .int .i64 k, .string nm, .slice na nn nc, .slice sa sn sc, .bool dn, .int .i64 ct, .int .i64 sk] 56) := by
      rw [_root_.Go.heap_alloc_old (h := by simp)]; exact _root_.Go.heap_alloc_new _ _
    exact h
  go_enter Tryz.func31, Tryz.ntmps31
  go_wp2_with (refine wpList_unguardV (by first | rfl | simp [Region.wanted, yielded]) ?_; refine wpList_load_row rfl 56 _ rfl w.heap.size rfl 56 _ _ _ HG0.out Tryz.underlying56 rfl (by kernel_rfl) ?_)
  refine (C1.out _ (hA _ _)).mono ?_
  rintro e w1 ⟨rfl, hb1⟩
  have hx := chain (hA _ _) hb1
  have hlt : w.heap.size < w1.heap.size := Nat.lt_of_lt_of_le (by simp; omega) hb1.size
  have p : Hid (w1.heap[w.heap.size]? = some (.cells #[.slice sa sn sc, .string fw, .bool fn, .int .i64 ff, .int .i64 fm, .string fa, .bool fs, .bool fl, .int .i64 fc, .int .i64 k, .string nm, .slice na nn nc, .slice sa sn sc, .bool dn, .int .i64 ct, .int .i64 sk] 56)) := (hb1.block _ (by simp; omega)).trans HG0.out
  have q := box7 hb1
  simp only [alloc_one] at q
  clear hb1 hA HG0

  cases r1
  · go_wp2
    go_ret
    exact ⟨rfl, hx⟩
  have p0 : w1.cell? ⟨w.heap.size, 0, none⟩ = some (.slice sa sn sc) := cell_of_row _ _ _ _ _ _ p.out
  have p6 : w1.cell? ⟨w.heap.size, 6, none⟩ = some (.bool fs) := cell_of_row _ _ _ _ _ _ p.out
  have p7 : w1.cell? ⟨w.heap.size, 7, none⟩ = some (.bool fl) := cell_of_row _ _ _ _ _ _ p.out
  obtain ⟨q0, q1, q2, q3, q4, q5, q6, q7⟩ := id q
  go_wp2_with (refine wpList_unguardV (by first | rfl | simp [Region.wanted, yielded]) ?_; refine wpList_load_row rfl 56 _ rfl w.heap.size rfl 56 _ _ _ p.out Tryz.underlying56 rfl (by kernel_rfl) ?_)
  refine (C2.out _ hx).mono ?_
  rintro e w2 ⟨rfl, hb1⟩
  replace p : Hid (_ = _) := (hb1.block _ hlt).trans p.out
  replace q := later7 hb1 q
  replace hx := chain hx hb1
  replace hlt := Nat.lt_of_lt_of_le hlt hb1.size
  clear hb1 p0 p6 p7 q0 q1 q2 q3 q4 q5 q6 q7
  cases r2
  · go_wp2
    go_ret
    exact ⟨rfl, hx⟩
  have p0 : w2.cell? ⟨w.heap.size, 0, none⟩ = some (.slice sa sn sc) := cell_of_row _ _ _ _ _ _ p.out
  have p6 : w2.cell? ⟨w.heap.size, 6, none⟩ = some (.bool fs) := cell_of_row _ _ _ _ _ _ p.out
  have p7 : w2.cell? ⟨w.heap.size, 7, none⟩ = some (.bool fl) := cell_of_row _ _ _ _ _ _ p.out
  obtain ⟨q0, q1, q2, q3, q4, q5, q6, q7⟩ := id q
  go_wp2_with (refine wpList_unguardV (by first | rfl | simp [Region.wanted, yielded]) ?_; refine wpList_load_row rfl 56 _ rfl w.heap.size rfl 56 _ _ _ p.out Tryz.underlying56 rfl (by kernel_rfl) ?_)
  refine (C3.out _ hx).mono ?_
  rintro e w3 ⟨rfl, hb1⟩
  replace p : Hid (_ = _) := (hb1.block _ hlt).trans p.out
  replace q := later7 hb1 q
  replace hx := chain hx hb1
  replace hlt := Nat.lt_of_lt_of_le hlt hb1.size
  clear hb1 p0 p6 p7 q0 q1 q2 q3 q4 q5 q6 q7
  cases r3
  · go_wp2
    go_ret
    exact ⟨rfl, hx⟩
  have p0 : w3.cell? ⟨w.heap.size, 0, none⟩ = some (.slice sa sn sc) := cell_of_row _ _ _ _ _ _ p.out
  have p6 : w3.cell? ⟨w.heap.size, 6, none⟩ = some (.bool fs) := cell_of_row _ _ _ _ _ _ p.out
  have p7 : w3.cell? ⟨w.heap.size, 7, none⟩ = some (.bool fl) := cell_of_row _ _ _ _ _ _ p.out
  obtain ⟨q0, q1, q2, q3, q4, q5, q6, q7⟩ := id q
  cases fl
  · cases dn
    · go_wp2_with (refine wpList_unguardV (by first | rfl | simp [Region.wanted, yielded]) ?_; refine wpList_load_row rfl 56 _ rfl w.heap.size rfl 56 _ _ _ p.out Tryz.underlying56 rfl (by kernel_rfl) ?_)
      refine (C4.out _).mono ?_
      rintro e w4 ⟨rfl, hb1⟩
      replace p : Hid (_ = _) := (hb1.block _ hlt).trans p.out
      replace q := later7 hb1 q
      replace hx := chain hx hb1
      replace hlt := Nat.lt_of_lt_of_le hlt hb1.size
      clear hb1 p0 p6 p7 q0 q1 q2 q3 q4 q5 q6 q7
      cases r4
      · go_wp2
        go_ret
        exact ⟨rfl, hx⟩
      obtain ⟨q0, q1, q2, q3, q4, q5, q6, q7⟩ := q
      go_wp2_with (refine wpList_unguardV (by first | rfl | simp [Region.wanted, yielded]) ?_; refine wpList_load_row rfl 56 _ rfl w.heap.size rfl 56 _ _ _ p.out Tryz.underlying56 rfl (by kernel_rfl) ?_)
      refine (C5.out _).mono ?_
      rintro e w5 ⟨rfl, hb1⟩
      replace hx := chain hx hb1
      go_wp2
      go_ret
      exact ⟨rfl, hx⟩
    · go_wp2
      go_ret
      exact ⟨rfl, hx⟩
  · go_wp2_with (refine wpList_unguardV (by first | rfl | simp [Region.wanted, yielded]) ?_; refine wpList_load_row rfl 56 _ rfl w.heap.size rfl 56 _ _ _ p.out Tryz.underlying56 rfl (by kernel_rfl) ?_)
    refine (C4.out _).mono ?_
    rintro e w4 ⟨rfl, hb1⟩
    replace p : Hid (_ = _) := (hb1.block _ hlt).trans p.out
    replace q := later7 hb1 q
    replace hx := chain hx hb1
    replace hlt := Nat.lt_of_lt_of_le hlt hb1.size
    clear hb1 p0 p6 p7 q0 q1 q2 q3 q4 q5 q6 q7
    cases r4
    · go_wp2
      go_ret
      exact ⟨rfl, hx⟩
    obtain ⟨q0, q1, q2, q3, q4, q5, q6, q7⟩ := q
    go_wp2_with (refine wpList_unguardV (by first | rfl | simp [Region.wanted, yielded]) ?_; refine wpList_load_row rfl 56 _ rfl w.heap.size rfl 56 _ _ _ p.out Tryz.underlying56 rfl (by kernel_rfl) ?_)
    refine (C5.out _).mono ?_
    rintro e w5 ⟨rfl, hb1⟩
    replace hx := chain hx hb1
    go_wp2
    go_ret
    exact ⟨rfl, hx⟩

set_option maxRecDepth 100000 in
set_option maxHeartbeats 2000000 in
theorem sieve_impl (k : Int) (nm : ByteArray) (na : Option Addr) (nn nc : Nat) (N : List ByteArray) (hnn : N.length = nn) (sa : Option Addr) (sn sc : Nat) (S : List TI) (hsn : S.length = sn) (dn : Bool) (ct sk : Int) (w : World) (hp : PowAt w) (he : ErrAt w) (hs : SivAt w na nc sa ⟨k, nm, N, S, dn, ct, sk⟩) (hmild : MildV ⟨k, nm, N, S, dn, ct, sk⟩) (b : Bool) (hb : sieveB ⟨k, nm, N, S, dn, ct, sk⟩ = b) :
    Calls Tryz.prog 10 #[.agg #[.int .i64 k, .string nm, .slice na nn nc, .slice sa sn sc, .bool dn, .int .i64 ct, .int .i64 sk]] w fun e w' => e = .returned (.bool b) ∧ Below w.heap.size w w' := by
  obtain ⟨fw, fn, ff, fm, fa, fs, fl, fc, hf⟩ : ∃ fw fn ff fm fa fs fl fc, formF k = FS.mk fw fn ff fm fa fs fl fc := ⟨_, _, _, _, _, _, _, _, rfl⟩
  have hr : rightF (FS.mk fw fn ff fm fa fs fl fc) ⟨k, nm, N, S, dn, ct, sk⟩ = b := by rw [← hf, ← hb]; exact right_form ⟨k, nm, N, S, dn, ct, sk⟩
  have R : Hid (∀ w', Below w.heap.size w w' → Calls Tryz.prog 31 #[.agg #[.slice sa sn sc, .string fw, .bool fn, .int .i64 ff, .int .i64 fm, .string fa, .bool fs, .bool fl, .int .i64 fc, .int .i64 k, .string nm, .slice na nn nc, .slice sa sn sc, .bool dn, .int .i64 ct, .int .i64 sk]] w' fun e w'' => e = .returned (.bool b) ∧ Below w'.heap.size w' w'') :=
    fun w' hw => right_impl k nm na nn nc N hnn sa sn sc S hsn dn ct sk fw fn ff fm fa fs fl fc w' (hp.below hw) (he.below hw) (hs.below hw) hmild b hr
  have HF : Hid (formF k = FS.mk fw fn ff fm fa fs fl fc) := hf
  clear hf hr hp he hs hmild hb hnn hsn
  have hA : ∀ o, Below w.heap.size w (w.alloc o) := fun o => (Below.refl _ _).alloc (Nat.le_refl _) o
  go_enter Tryz.func10, Tryz.ntmps10
  go_wp2_with fail
  refine (formed_impl k nm na nn nc sa sn sc dn ct sk fw fn ff fm fa fs fl fc HF.out _).mono ?_
  rintro e w1 ⟨rfl, hb1⟩
  have hx := chain (hA _) hb1
  clear hb1
  go_wp2_with fail
  refine (R.out _ (by first | exact hx | exact hx.trans (by go_grown))).mono ?_
  rintro e w2 ⟨rfl, hb2⟩
  go_wp2
  go_ret
  exact ⟨rfl, by first | exact chain hx hb2 | exact chain (hx.trans (by go_grown)) hb2⟩
end Go.Proofs.YtmmandkellhbeaaGreatDoor
