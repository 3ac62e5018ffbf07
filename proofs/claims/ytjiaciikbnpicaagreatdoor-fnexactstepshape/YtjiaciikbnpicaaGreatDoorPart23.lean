/-
  A part of the proof: SvI1b, SvI2, ShpI4, ShpI5.
-/
import Derived.Test.YtjiaciikbnpicaaGreatDoorPart22
import Derived.Test.YtjiaciikbnpicaaGreatDoorPart17
import Derived.Test.YtjiaciikbnpicaaGreatDoorPart20
import Derived.Test.YtjiaciikbnpicaaGreatDoorPart18
import Derived.Test.YtjiaciikbnpicaaGreatDoorPart21

/-
  The contract of the program's question whether a sieve is right.
-/
namespace Go.Proofs.YtjiaciikbnpicaaGreatDoor
open Go.ChangeShapes Go.WideShapes Go.ChangeAt Go.RowKit
attribute [local go_sem ↓] Go.wp_at_zero Go.wp_at_succ
attribute [local simp] World.cell?_alloc_past World.cell?_alloc_at World.frozen?_alloc_at cell_far cell_off cell_here World.frozen?_alloc_past

theorem wpList_unguardV {P : Program} {ops : Array Oper} {Q : Exit → Act → World → Prop} {a : Act} {w : World} {rest : List Oper} {d : Option Tmp} {op : Op} {ty : TypeId} {ps : String} {af : Array Edge} {g : Option (Nat × Bool)}
    (hw : Region.wanted { dst := d, op := op, type := ty, pos := ps, after := af, guard := g } (yielded ops a.tmps) = true)
    (h : wpList P ops Q ({ dst := d, op := op, type := ty, pos := ps, after := af, guard := none } :: rest) a w) : wpList P ops Q ({ dst := d, op := op, type := ty, pos := ps, after := af, guard := g } :: rest) a w := by
  unfold wpList at h ⊢
  rw [if_pos hw]
  rw [if_pos (by simp [Region.wanted])] at h
  exact h
set_option maxRecDepth 100000 in
set_option maxHeartbeats 4000000 in
theorem right_impl (k : Int) (nm : ByteArray) (na : Option Addr) (nn nc : Nat) (N : List ByteArray) (hnn : N.length = nn) (sa : Option Addr) (sn sc : Nat) (S : List TI) (hsn : S.length = sn) (dn : Bool) (ct sk : Int) (fw : ByteArray) (fn : Bool) (ff fm : Int) (fa : ByteArray) (fs fl : Bool) (fc : Int) (w : World) (hp : PowAt w) (he : ErrAt w) (hs : SivAt w na nc sa ⟨k, nm, N, S, dn, ct, sk⟩) (hmild : MildV ⟨k, nm, N, S, dn, ct, sk⟩) (b : Bool) (hb : rightF ⟨fw, fn, ff, fm, fa, fs, fl, fc⟩ ⟨k, nm, N, S, dn, ct, sk⟩ = b) :
    Calls Tryz.prog 102 #[.agg #[.slice sa sn sc, .string fw, .bool fn, .int .i64 ff, .int .i64 fm, .string fa, .bool fs, .bool fl, .int .i64 fc, .int .i64 k, .string nm, .slice na nn nc, .slice sa sn sc, .bool dn, .int .i64 ct, .int .i64 sk]] w fun e w' => e = .returned (.bool b) ∧ Below w.heap.size w w' := by
  have hnM : nn ≤ maxLen := by rw [← hnn]; exact hs.lenN
  have hsM : sn ≤ maxLen := by rw [← hsn]; exact hs.lenI
  have hcap : nn ≤ nc := by rw [← hnn]; exact hs.capN
  have hfitN : ∀ x ∈ N, x.size ≤ 1048576 := by
    intro x hx
    obtain ⟨j, hj, rfl⟩ := List.mem_iff_getElem.1 hx
    have h1 := weightS_take N j hj
    have h2 := weightS_le N (j + 1)
    have h3 : weightS N ≤ 1048576 := hmild.2.2.1
    omega
  have hfitI : FitI S := by
    intro x hx
    have h1 := oneI_le hx
    have h3 : weightItm S ≤ 1048576 := hmild.2.2.2.2
    unfold oneItm at h1
    unfold maxLen
    exact ⟨by omega, by omega⟩
  have hnm : nm.size ≤ 1048576 := hmild.1
  obtain ⟨r1, hr1⟩ : ∃ r, nameF ⟨fw, fn, ff, fm, fa, fs, fl, fc⟩ ⟨k, nm, N, S, dn, ct, sk⟩ = r := ⟨_, rfl⟩
  obtain ⟨r2, hr2⟩ : ∃ r, namesF ⟨fw, fn, ff, fm, fa, fs, fl, fc⟩ ⟨k, nm, N, S, dn, ct, sk⟩ = r := ⟨_, rfl⟩
  obtain ⟨r3, hr3⟩ : ∃ r, sumF ⟨fw, fn, ff, fm, fa, fs, fl, fc⟩ ⟨k, nm, N, S, dn, ct, sk⟩ = r := ⟨_, rfl⟩
  obtain ⟨r4, hr4⟩ : ∃ r, canF ⟨fw, fn, ff, fm, fa, fs, fl, fc⟩ ct = r := ⟨_, rfl⟩
  obtain ⟨r5, hr5⟩ : ∃ r, canF ⟨fw, fn, ff, fm, fa, fs, fl, fc⟩ sk = r := ⟨_, rfl⟩
  have C1 : Hid (∀ w', Below w.heap.size w w' → Calls Tryz.prog 138 #[.agg #[.slice sa sn sc, .string fw, .bool fn, .int .i64 ff, .int .i64 fm, .string fa, .bool fs, .bool fl, .int .i64 fc, .int .i64 k, .string nm, .slice na nn nc, .slice sa sn sc, .bool dn, .int .i64 ct, .int .i64 sk]] w' fun e w'' => e = .returned (.bool r1) ∧ Below w'.heap.size w' w'') :=
    fun w' hw => namer_impl k nm na nn nc N hnn sa sn sc S hsn dn ct sk fw fn ff fm fa fs fl fc w' (hp.below hw) (he.below hw) hnm r1 hr1
  have C2 : Hid (∀ w', Below w.heap.size w w' → Calls Tryz.prog 139 #[.agg #[.slice sa sn sc, .string fw, .bool fn, .int .i64 ff, .int .i64 fm, .string fa, .bool fs, .bool fl, .int .i64 fc, .int .i64 k, .string nm, .slice na nn nc, .slice sa sn sc, .bool dn, .int .i64 ct, .int .i64 sk]] w' fun e w'' => e = .returned (.bool r2) ∧ Below w'.heap.size w' w'') :=
    fun w' hw => namesr_impl k nm na nn nc N hnn sa sn sc S hsn dn ct sk fw fn ff fm fa fs fl fc w' (hp.below hw) (he.below hw) (hs.names.below hw) hfitN hnM hcap r2 hr2
  have C3 : Hid (∀ w', Below w.heap.size w w' → Calls Tryz.prog 140 #[.slice sa sn sc, .bool fs] w' fun e w'' => e = .returned (.bool r3) ∧ Below w'.heap.size w' w'') :=
    fun w' hw => sumfits_impl sa sn sc S hsn fs w' (hp.below hw) (he.below hw) (hs.sum.below hw) hfitI hsM r3 hr3
  have C4 : Hid (∀ w', Calls Tryz.prog 141 #[.agg #[.slice sa sn sc, .string fw, .bool fn, .int .i64 ff, .int .i64 fm, .string fa, .bool fs, .bool fl, .int .i64 fc, .int .i64 k, .string nm, .slice na nn nc, .slice sa sn sc, .bool dn, .int .i64 ct, .int .i64 sk], .int .i64 ct] w' fun e w'' => e = .returned (.bool r4) ∧ Below w'.heap.size w' w'') :=
    fun w' => can_impl k nm na nn nc N hnn sa sn sc S hsn dn ct sk fw fn ff fm fa fs fl fc ct w' r4 hr4
  have C5 : Hid (∀ w', Calls Tryz.prog 141 #[.agg #[.slice sa sn sc, .string fw, .bool fn, .int .i64 ff, .int .i64 fm, .string fa, .bool fs, .bool fl, .int .i64 fc, .int .i64 k, .string nm, .slice na nn nc, .slice sa sn sc, .bool dn, .int .i64 ct, .int .i64 sk], .int .i64 sk] w' fun e w'' => e = .returned (.bool r5) ∧ Below w'.heap.size w' w'') :=
    fun w' => can_impl k nm na nn nc N hnn sa sn sc S hsn dn ct sk fw fn ff fm fa fs fl fc sk w' r5 hr5
  obtain ⟨r0, hr0⟩ : ∃ r, decide (fw = ⟨#[]⟩) = r := ⟨_, rfl⟩
  have hv : (!r0 && (r1 && (r2 && (r3 && ((fl || !dn) && (r4 && r5)))))) = b := by
    rw [← hb]; unfold rightF; dsimp only; rw [hr0, hr1, hr2, hr3, hr4, hr5]
  have hz := zero_txt fw r0 hr0
  clear hb hr0 hr1 hr2 hr3 hr4 hr5 hnn hsn hp he hs hmild hnM hsM hcap hfitN hfitI hnm
  subst hv
  have hA : ∀ o o', Below w.heap.size w ((w.alloc o).alloc o') := fun o o' => ((Below.refl _ _).alloc (Nat.le_refl _) o).alloc (by simp) o'
  cases r0
  rotate_left
  · go_enter Tryz.func102, Tryz.ntmps102
    go_wp2
    go_ret
    exact ⟨rfl, hA _ _⟩
  have HG0 : Hid (((w.alloc (.cells #[.slice sa sn sc, .string fw, .bool fn, .int .i64 ff, .int .i64 fm, .string fa, .bool fs, .bool fl, .int .i64 fc, .int .i64 k, .string nm, .slice na nn nc, .slice sa sn sc, .bool dn, .int .i64 ct, .int .i64 sk] 147)).alloc (.cells #[.int .i64 k, .string nm, .slice na nn nc, .slice sa sn sc, .bool dn, .int .i64 ct, .int .i64 sk] 33)).heap[w.heap.size]? = some (.cells #[.slice sa sn sc, .string fw, .bool fn, .int .i64 ff, .int .i64 fm, .string fa, .bool fs, .bool fl, .int .i64 fc, .int .i64 k, .string nm, .slice na nn nc, .slice sa sn sc, .bool dn, .int .i64 ct, .int .i64 sk] 147)) := by
    have h : ((w.alloc (.cells #[.slice sa sn sc, .string fw, .bool fn, .int .i64 ff, .int .i64 fm, .string fa, .bool fs, .bool fl, .int .i64 fc, .int .i64 k, .string nm, .slice na nn nc, .slice sa sn sc, .bool dn, .int .i64 ct, .int .i64 sk] 147)).alloc (.cells #[.int .i64 k, .string nm, .slice na nn nc, .slice sa sn sc, .bool dn, .int .i64 ct, .int .i64 sk] 33)).heap[w.heap.size]? = some (.cells #[.slice sa sn sc, .string fw, .bool fn, .int .i64 ff, .int .i64 fm, .string fa, .bool fs, .bool fl, .int .i64 fc, .int .i64 k, .string nm, .slice na nn nc, .slice sa sn sc, .bool dn, .int .i64 ct, .int .i64 sk] 147) := by
      rw [_root_.Go.heap_alloc_old (h := by simp)]; exact _root_.Go.heap_alloc_new _ _
    exact h
  go_enter Tryz.func102, Tryz.ntmps102
  go_wp2_with (refine wpList_unguardV (by first | rfl | simp [Region.wanted, yielded]) ?_; refine wpList_load_row rfl 147 _ rfl w.heap.size rfl 147 _ _ _ HG0.out Tryz.underlying147 rfl (by kernel_rfl) ?_)
  refine (C1.out _ (hA _ _)).mono ?_
  rintro e w1 ⟨rfl, hb1⟩
  have hx := chain (hA _ _) hb1
  have hlt : w.heap.size < w1.heap.size := Nat.lt_of_lt_of_le (by simp; omega) hb1.size
  have p : Hid (w1.heap[w.heap.size]? = some (.cells #[.slice sa sn sc, .string fw, .bool fn, .int .i64 ff, .int .i64 fm, .string fa, .bool fs, .bool fl, .int .i64 fc, .int .i64 k, .string nm, .slice na nn nc, .slice sa sn sc, .bool dn, .int .i64 ct, .int .i64 sk] 147)) := (hb1.block _ (by simp; omega)).trans HG0.out
  have q := box7 hb1
  simp only [alloc_one] at q
  clear hb1 hA HG0

  cases r1
  · go_wp2
    go_ret
    exact ⟨rfl, hx⟩
  have p0 : w1.cell? ⟨w.heap.size, 0, none⟩ = some (.slice sa sn sc) := cell_of_row _ _ _ _ _ _ p.out
  have p6 : w1.cell? ⟨w.heap.size, 6, none⟩ = some (.bool fs) := cell_of_row _ _ _ _ _ _ p.out
  have p7 : w1.cell? ⟨w.heap.size, 7, none⟩ = some (.bool fl) := cell_of_row _ _ _ _ _ _ p.out
  obtain ⟨q0, q1, q2, q3, q4, q5, q6, q7⟩ := id q
  go_wp2_with (refine wpList_unguardV (by first | rfl | simp [Region.wanted, yielded]) ?_; refine wpList_load_row rfl 147 _ rfl w.heap.size rfl 147 _ _ _ p.out Tryz.underlying147 rfl (by kernel_rfl) ?_)
  refine (C2.out _ hx).mono ?_
  rintro e w2 ⟨rfl, hb1⟩
  replace p : Hid (_ = _) := (hb1.block _ hlt).trans p.out
  replace q := later7 hb1 q
  replace hx := chain hx hb1
  replace hlt := Nat.lt_of_lt_of_le hlt hb1.size
  clear hb1 p0 p6 p7 q0 q1 q2 q3 q4 q5 q6 q7
  cases r2
  · go_wp2
    go_ret
    exact ⟨rfl, hx⟩
  have p0 : w2.cell? ⟨w.heap.size, 0, none⟩ = some (.slice sa sn sc) := cell_of_row _ _ _ _ _ _ p.out
  have p6 : w2.cell? ⟨w.heap.size, 6, none⟩ = some (.bool fs) := cell_of_row _ _ _ _ _ _ p.out
  have p7 : w2.cell? ⟨w.heap.size, 7, none⟩ = some (.bool fl) := cell_of_row _ _ _ _ _ _ p.out
  obtain ⟨q0, q1, q2, q3, q4, q5, q6, q7⟩ := id q
  go_wp2_with (refine wpList_unguardV (by first | rfl | simp [Region.wanted, yielded]) ?_; refine wpList_load_row rfl 147 _ rfl w.heap.size rfl 147 _ _ _ p.out Tryz.underlying147 rfl (by kernel_rfl) ?_)
  refine (C3.out _ hx).mono ?_
  rintro e w3 ⟨rfl, hb1⟩
  replace p : Hid (_ = _) := (hb1.block _ hlt).trans p.out
  replace q := later7 hb1 q
  replace hx := chain hx hb1
  replace hlt := Nat.lt_of_lt_of_le hlt hb1.size
  clear hb1 p0 p6 p7 q0 q1 q2 q3 q4 q5 q6 q7
  cases r3
  · go_wp2
    go_ret
    exact ⟨rfl, hx⟩
  have p0 : w3.cell? ⟨w.heap.size, 0, none⟩ = some (.slice sa sn sc) := cell_of_row _ _ _ _ _ _ p.out
  have p6 : w3.cell? ⟨w.heap.size, 6, none⟩ = some (.bool fs) := cell_of_row _ _ _ _ _ _ p.out
  have p7 : w3.cell? ⟨w.heap.size, 7, none⟩ = some (.bool fl) := cell_of_row _ _ _ _ _ _ p.out
  obtain ⟨q0, q1, q2, q3, q4, q5, q6, q7⟩ := id q
  cases fl
  · cases dn
    · go_wp2_with (refine wpList_unguardV (by first | rfl | simp [Region.wanted, yielded]) ?_; refine wpList_load_row rfl 147 _ rfl w.heap.size rfl 147 _ _ _ p.out Tryz.underlying147 rfl (by kernel_rfl) ?_)
      refine (C4.out _).mono ?_
      rintro e w4 ⟨rfl, hb1⟩
      replace p : Hid (_ = _) := (hb1.block _ hlt).trans p.out
      replace q := later7 hb1 q
      replace hx := chain hx hb1
      replace hlt := Nat.lt_of_lt_of_le hlt hb1.size
      clear hb1 p0 p6 p7 q0 q1 q2 q3 q4 q5 q6 q7
      cases r4
      · go_wp2
        go_ret
        exact ⟨rfl, hx⟩
      obtain ⟨q0, q1, q2, q3, q4, q5, q6, q7⟩ := q
      go_wp2_with (refine wpList_unguardV (by first | rfl | simp [Region.wanted, yielded]) ?_; refine wpList_load_row rfl 147 _ rfl w.heap.size rfl 147 _ _ _ p.out Tryz.underlying147 rfl (by kernel_rfl) ?_)
      refine (C5.out _).mono ?_
      rintro e w5 ⟨rfl, hb1⟩
      replace hx := chain hx hb1
      go_wp2
      go_ret
      exact ⟨rfl, hx⟩
    · go_wp2
      go_ret
      exact ⟨rfl, hx⟩
  · go_wp2_with (refine wpList_unguardV (by first | rfl | simp [Region.wanted, yielded]) ?_; refine wpList_load_row rfl 147 _ rfl w.heap.size rfl 147 _ _ _ p.out Tryz.underlying147 rfl (by kernel_rfl) ?_)
    refine (C4.out _).mono ?_
    rintro e w4 ⟨rfl, hb1⟩
    replace p : Hid (_ = _) := (hb1.block _ hlt).trans p.out
    replace q := later7 hb1 q
    replace hx := chain hx hb1
    replace hlt := Nat.lt_of_lt_of_le hlt hb1.size
    clear hb1 p0 p6 p7 q0 q1 q2 q3 q4 q5 q6 q7
    cases r4
    · go_wp2
      go_ret
      exact ⟨rfl, hx⟩
    obtain ⟨q0, q1, q2, q3, q4, q5, q6, q7⟩ := q
    go_wp2_with (refine wpList_unguardV (by first | rfl | simp [Region.wanted, yielded]) ?_; refine wpList_load_row rfl 147 _ rfl w.heap.size rfl 147 _ _ _ p.out Tryz.underlying147 rfl (by kernel_rfl) ?_)
    refine (C5.out _).mono ?_
    rintro e w5 ⟨rfl, hb1⟩
    replace hx := chain hx hb1
    go_wp2
    go_ret
    exact ⟨rfl, hx⟩

set_option maxRecDepth 100000 in
set_option maxHeartbeats 2000000 in
theorem sieve_impl (k : Int) (nm : ByteArray) (na : Option Addr) (nn nc : Nat) (N : List ByteArray) (hnn : N.length = nn) (sa : Option Addr) (sn sc : Nat) (S : List TI) (hsn : S.length = sn) (dn : Bool) (ct sk : Int) (w : World) (hp : PowAt w) (he : ErrAt w) (hs : SivAt w na nc sa ⟨k, nm, N, S, dn, ct, sk⟩) (hmild : MildV ⟨k, nm, N, S, dn, ct, sk⟩) (b : Bool) (hb : sieveB ⟨k, nm, N, S, dn, ct, sk⟩ = b) :
    Calls Tryz.prog 67 #[.agg #[.int .i64 k, .string nm, .slice na nn nc, .slice sa sn sc, .bool dn, .int .i64 ct, .int .i64 sk]] w fun e w' => e = .returned (.bool b) ∧ Below w.heap.size w w' := by
  obtain ⟨fw, fn, ff, fm, fa, fs, fl, fc, hf⟩ : ∃ fw fn ff fm fa fs fl fc, formF k = FS.mk fw fn ff fm fa fs fl fc := ⟨_, _, _, _, _, _, _, _, rfl⟩
  have hr : rightF (FS.mk fw fn ff fm fa fs fl fc) ⟨k, nm, N, S, dn, ct, sk⟩ = b := by rw [← hf, ← hb]; exact right_form ⟨k, nm, N, S, dn, ct, sk⟩
  have R : Hid (∀ w', Below w.heap.size w w' → Calls Tryz.prog 102 #[.agg #[.slice sa sn sc, .string fw, .bool fn, .int .i64 ff, .int .i64 fm, .string fa, .bool fs, .bool fl, .int .i64 fc, .int .i64 k, .string nm, .slice na nn nc, .slice sa sn sc, .bool dn, .int .i64 ct, .int .i64 sk]] w' fun e w'' => e = .returned (.bool b) ∧ Below w'.heap.size w' w'') :=
    fun w' hw => right_impl k nm na nn nc N hnn sa sn sc S hsn dn ct sk fw fn ff fm fa fs fl fc w' (hp.below hw) (he.below hw) (hs.below hw) hmild b hr
  have HF : Hid (formF k = FS.mk fw fn ff fm fa fs fl fc) := hf
  clear hf hr hp he hs hmild hb hnn hsn
  have hA : ∀ o, Below w.heap.size w (w.alloc o) := fun o => (Below.refl _ _).alloc (Nat.le_refl _) o
  go_enter Tryz.func67, Tryz.ntmps67
  go_wp2_with fail
  refine (formed_impl k nm na nn nc sa sn sc dn ct sk fw fn ff fm fa fs fl fc HF.out _).mono ?_
  rintro e w1 ⟨rfl, hb1⟩
  have hx := chain (hA _) hb1
  clear hb1
  go_wp2_with fail
  refine (R.out _ (by first | exact hx | exact hx.trans (by go_grown))).mono ?_
  rintro e w2 ⟨rfl, hb2⟩
  go_wp2
  go_ret
  exact ⟨rfl, by first | exact chain hx hb2 | exact chain (hx.trans (by go_grown)) hb2⟩
end Go.Proofs.YtjiaciikbnpicaaGreatDoor

/-
  The contract of the program's AskOk.
-/
namespace Go.Proofs.YtjiaciikbnpicaaGreatDoor
open Go.ChangeShapes Go.WideShapes Go.ChangeAt Go.RowKit
attribute [local go_sem ↓] Go.wp_at_zero Go.wp_at_succ
attribute [local simp] World.cell?_alloc_past World.cell?_alloc_at World.frozen?_alloc_at cell_far cell_off cell_here World.frozen?_alloc_past

set_option maxRecDepth 100000 in
set_option maxHeartbeats 4000000 in
theorem ask_impl (a : Option Addr) (cap : Nat) (T : List SV) (n : Nat) (hn : T.length = n) (w : World) (hrow : SivsAt w a T) (hmild : ∀ i (hi : i < T.length), MildV T[i]) (hm : n ≤ maxLen) (hp : PowAt w) (he : ErrAt w) (b : Bool) (hb : askB T = b) :
    Calls Tryz.prog 62 #[.slice a n cap] w fun e w' => e = .returned (.bool b) ∧ Below w.heap.size w w' := by
  have HR : Hid (SivsAt w a T) := hrow
  have HN : Hid (T.length = n) := hn
  have HM : Hid (∀ i (hi : i < T.length), MildV T[i]) := hmild
  have HP : Hid (PowAt w) := hp
  have HE : Hid (ErrAt w) := he
  have hm6 := hm
  unfold maxLen at hm6
  rw [ask_good, hn] at hb
  by_cases h1 : (n : Int) < 1
  · obtain rfl : b = false := by rw [← hb, decide_eq_false (show ¬ (1 : Int) ≤ (n : Int) by omega)]; simp
    clear hb hrow hn hmild hp he
    go_enter Tryz.func62, Tryz.ntmps62
    go_wp2
    go_ret
    exact ⟨rfl, Below.refl _ _⟩
  by_cases h8 : (8 : Int) < (n : Int)
  · obtain rfl : b = false := by rw [← hb, decide_eq_false (show ¬ (n : Int) ≤ 8 by omega)]; simp
    clear hb hrow hn hmild hp he
    go_enter Tryz.func62, Tryz.ntmps62
    go_wp2
    go_ret
    exact ⟨rfl, Below.refl _ _⟩
  rw [decide_eq_true (show (1 : Int) ≤ (n : Int) by omega), decide_eq_true (show (n : Int) ≤ 8 by omega), Bool.and_self, Bool.and_true] at hb
  have HG : Hid (goodL 0 (T.drop 0) = b) := hb
  clear hrow hn hb hmild hp he
  go_enter Tryz.func62, Tryz.ntmps62
  go_wp2
  go_loopw [15] (fun iv wr => ∃ k : Nat, k ≤ n ∧ iv = .int .i64 k ∧ Hid (goodL k (T.drop k) = b) ∧ Below w.heap.size w wr) (fun iv _ => n - (intOf iv).toNat)
  case atStart => exact ⟨0, Nat.zero_le _, rfl, HG, Below.refl _ _⟩
  case round =>
    obtain ⟨k, hk, rfl, hg, hbw⟩ := hrel
    by_cases hlt : k < n
    · have hlk : k < T.length := by rw [HN.out]; exact hlt
      obtain ⟨g, o, na, nc, sa, sc, rfl, hgw, ⟨c0, c1, c2, c3, c4, c5, c6⟩, ht⟩ := HR.out.below hbw k hlk
      have hi0 : (0 : Int) ≤ (k : Int) := by omega
      have hi1 : (k : Int) < (n : Int) := by omega
      have hmk := HM.out k hlk
      have HST : Hid ((goodS k T[k] && goodL (k + 1) (T.drop (k + 1))) = b) := by
        have := hg.out
        rw [goodL_step T k hlk] at this
        exact this
      generalize T[k] = s at c0 c1 c2 c3 c4 c5 c6 ht HST hmk
      obtain ⟨kd, nm, N, S, dn, ct, sk⟩ := s
      dsimp only at c0 c1 c2 c3 c4 c5 c6
      obtain ⟨nn, hnn⟩ : ∃ m, N.length = m := ⟨_, rfl⟩
      obtain ⟨sn, hsn⟩ : ∃ m, S.length = m := ⟨_, rfl⟩
      rw [hnn] at c2
      rw [hsn] at c3
      obtain ⟨r, hr⟩ : ∃ r, sieveB ⟨kd, nm, N, S, dn, ct, sk⟩ = r := ⟨_, rfl⟩
      have C : Hid (∀ w', Below wr.heap.size wr w' → Calls Tryz.prog 67 #[.agg #[.int .i64 kd, .string nm, .slice na nn nc, .slice sa sn sc, .bool dn, .int .i64 ct, .int .i64 sk]] w' fun e w'' => e = .returned (.bool r) ∧ Below w'.heap.size w' w'') :=
        fun w' hw => sieve_impl kd nm na nn nc N hnn sa sn sc S hsn dn ct sk w' ((HP.out.below hbw).below hw) ((HE.out.below hbw).below hw) (ht.below hw) hmk r hr
      have HV : Hid (((r && ((kd == 1) == decide (k = 0))) && goodL (k + 1) (T.drop (k + 1))) = b) := by
        have := HST.out
        unfold goodS at this
        rw [hr] at this
        exact this
      clear HST hr ht hnn hsn hlk hg hmk
      have hA : ∀ o, Below wr.heap.size wr (wr.alloc o) := fun o => (Below.refl _ _).alloc (Nat.le_refl _) o
      go_wp2_with fail
      refine (C.out _ (by first | exact hA _ | exact Below.refl _ _)).mono ?_
      rintro e w1 ⟨rfl, hb1⟩
      have d0 : w1.cell? ⟨wr.heap.size, 0, none⟩ = some (.int .i64 kd) := (box7 hb1).1
      have hx1 := chain hbw (chainA hb1)
      clear c0 c1 c2 c3 c4 c5 c6 hb1 C
      cases r
      · obtain rfl : b = false := by rw [← HV.out]; simp
        go_wp2
        go_ret
        exact ⟨rfl, hx1⟩
      by_cases hk1 : kd = 1
      · subst hk1
        by_cases hk0 : k = 0
        · have hz : ((k : Int) == 0) = true := by simp; omega
          have HV2 : Hid (goodL (k + 1) (T.drop (k + 1)) = b) := by
            have h := HV.out
            rw [decide_eq_true hk0] at h
            have h2 : goodL (k + 1) (T.drop (k + 1)) = b := by simpa using h
            exact h2
          clear HV hk0
          go_wp2
          go_roundw
          case rel => exact ⟨k + 1, by omega, by go_num, HV2, hx1⟩
          case measure => simp [intOf]; omega
        · have hz : ((k : Int) == 0) = false := by simp; omega
          obtain rfl : b = false := by
            rw [← HV.out, decide_eq_false hk0]; rfl
          clear HV hk0
          go_wp2
          go_ret
          exact ⟨rfl, hx1⟩
      · have hz1 : (kd == 1) = false := by simpa using hk1
        by_cases hk0 : k = 0
        · have hz : ((k : Int) == 0) = true := by simp; omega
          obtain rfl : b = false := by
            rw [← HV.out, hz1, decide_eq_true hk0]; rfl
          clear HV hk0
          go_wp2
          go_ret
          exact ⟨rfl, hx1⟩
        · have hz : ((k : Int) == 0) = false := by simp; omega
          have HV2 : Hid (goodL (k + 1) (T.drop (k + 1)) = b) := by
            have h := HV.out
            rw [hz1, decide_eq_false hk0] at h
            have h2 : goodL (k + 1) (T.drop (k + 1)) = b := by simpa using h
            exact h2
          clear HV hk0
          go_wp2
          go_roundw
          case rel => exact ⟨k + 1, by omega, by go_num, HV2, hx1⟩
          case measure => simp [intOf]; omega
    · have hkl : k = n := by omega
      subst hkl
      have hi1 : ¬ (k : Int) < (k : Int) := by omega
      obtain rfl : true = b := by
        have := hg.out
        rw [goodL_end T k (by rw [HN.out]; exact Nat.le_refl _)] at this
        exact this
      clear hg
      go_wp2
      go_ret
      exact ⟨rfl, hbw⟩
end Go.Proofs.YtjiaciikbnpicaaGreatDoor

/-
  The program's stepped of every kind, shapeCode, shape, stepColumns and StepShape.
-/
namespace Go.Proofs.YtjiaciikbnpicaaGreatDoor
open Go.ChangeShapes Go.WideShapes Go.ChangeAt Go.RowKit
attribute [local go_sem ↓] Go.wp_at_zero Go.wp_at_succ
attribute [local simp] World.cell?_alloc_past World.cell?_alloc_at World.frozen?_alloc_at cell_far cell_off cell_here World.frozen?_alloc_past

theorem mild_fitI {s : SV} (h : MildV s) : FitI s.sum := by
  intro x hx
  have h1 := oneI_le hx
  have h3 : weightItm s.sum ≤ 1048576 := h.2.2.2.2
  unfold oneItm at h1
  unfold maxLen
  exact ⟨by omega, by omega⟩
theorem stepped_impl (ba : Option Addr) (bn bc : Nat) (T : List TB) (hbn : T.length = bn) (hbM : bn ≤ 1048576) (hsmT : ∀ t, t ∈ T → Small t) (ca : Option Addr) (cn cc : Nat) (C : List ByteArray) (hcn : C.length = cn) (kd : Int) (nm : ByteArray) (na : Option Addr) (nn nc : Nat) (N : List ByteArray) (hnn : N.length = nn) (sa : Option Addr) (sn sc : Nat) (S : List TI) (hsn : S.length = sn) (dn : Bool) (ct sk : Int) (w : World) (hT : TabsAt w ba T) (hC : StrsAt w ca C) (hnil : ca = none → cc = 0) (hcc : cn ≤ cc) (hV : SivAt w na nc sa ⟨kd, nm, N, S, dn, ct, sk⟩) (hfit : FitI S) (hb : baseB T = true) (hc : namesB C 1 6 = true) (hok : sieveB ⟨kd, nm, N, S, dn, ct, sk⟩ = true) (hk1 : kd ≠ 1) (A : Sen) (hS : SenAt w A) (D : List ByteArray) (k0 : Int) (hD : stepC T C ⟨kd, nm, N, S, dn, ct, sk⟩ = (D, k0)) :
    Calls Tryz.prog 64 #[.slice ba bn bc, .slice ca cn cc, .agg #[.int .i64 kd, .string nm, .slice na nn nc, .slice sa sn sc, .bool dn, .int .i64 ct, .int .i64 sk]] w (ColOut w A D k0) := by
  rcases sieve_kind hok with e | e | e | e | e | e | e | e | e | e <;> (dsimp only at e; subst e)
  · exact absurd rfl hk1
  · exact stepped_2 ba bn bc T hbn hbM hsmT ca cn cc C hcn nm na nn nc N hnn sa sn sc S hsn dn ct sk w hT hC hnil hcc hV hfit hb hc hok A hS D k0 hD
  · exact stepped_3 ba bn bc T hbn hbM hsmT ca cn cc C hcn nm na nn nc N hnn sa sn sc S hsn dn ct sk w hT hC hnil hcc hV hfit hb hc hok A hS D k0 hD
  · exact stepped_4 ba bn bc T hbn hbM hsmT ca cn cc C hcn nm na nn nc N hnn sa sn sc S hsn dn ct sk w hT hC hnil hcc hV hfit hb hc hok A hS D k0 hD
  · exact stepped_5 ba bn bc T hbn hbM hsmT ca cn cc C hcn nm na nn nc N hnn sa sn sc S hsn dn ct sk w hT hC hnil hcc hV hfit hb hc hok A hS D k0 hD
  · exact stepped_6 ba bn bc T hbn hbM hsmT ca cn cc C hcn nm na nn nc N hnn sa sn sc S hsn dn ct sk w hT hC hnil hcc hV hfit hb hc hok A hS D k0 hD
  · exact stepped_7 ba bn bc T hbn hbM hsmT ca cn cc C hcn nm na nn nc N hnn sa sn sc S hsn dn ct sk w hT hC hnil hcc hV hfit hb hc hok A hS D k0 hD
  · exact stepped_8 ba bn bc T hbn hbM hsmT ca cn cc C hcn nm na nn nc N hnn sa sn sc S hsn dn ct sk w hT hC hnil hcc hV hfit hb hc hok A hS D k0 hD
  · exact stepped_9 ba bn bc T hbn hbM hsmT ca cn cc C hcn nm na nn nc N hnn sa sn sc S hsn dn ct sk w hT hC hnil hcc hV hfit hb hc hok A hS D k0 hD
  · exact stepped_10 ba bn bc T hbn hbM hsmT ca cn cc C hcn nm na nn nc N hnn sa sn sc S hsn dn ct sk w hT hC hnil hcc hV hfit hb hc hok A hS D k0 hD
set_option maxRecDepth 100000 in
set_option maxHeartbeats 4000000 in
theorem code_1 (nm : ByteArray) (w : World) (A : Sen) (hS : SenAt w A) :
    Calls Tryz.prog 60 #[.iface 133 (.agg #[.string nm, .iface 304 (.pointer (some A.e1))])] w fun e w' => e = .returned (.int .i64 1) ∧ Below w.heap.size w w' := by
  have S0 : Hid (SenAt w A) := hS
  have x0 : Below w.heap.size w w := Below.refl _ _
  clear hS
  go_enter Tryz.func60, Tryz.ntmps60
  have c1 := S0.out.v1
  go_wp2_with fail
  refine (is_wrap_same nm _ _).mono ?_
  rintro e w1 ⟨rfl, hb1⟩
  have x1 := chain x0 hb1
  have S1 : Hid (SenAt w1 A) := S0.out.below hb1
  clear c1 hb1
  go_wp2
  go_ret
  exact ⟨rfl, x1⟩
set_option maxRecDepth 100000 in
set_option maxHeartbeats 4000000 in
theorem code_2 (w : World) (A : Sen) (hS : SenAt w A) :
    Calls Tryz.prog 60 #[.iface 304 (.pointer (some A.e2))] w fun e w' => e = .returned (.int .i64 2) ∧ Below w.heap.size w w' := by
  have S0 : Hid (SenAt w A) := hS
  have x0 : Below w.heap.size w w := Below.refl _ _
  clear hS
  go_enter Tryz.func60, Tryz.ntmps60
  have c1 := S0.out.v1
  go_wp2_with fail
  refine (is_other _ _ _ (S0.out.n12).symm S0.out.b2 S0.out.b1).mono ?_
  rintro e w1 ⟨rfl, hb1⟩
  have x1 := chain x0 hb1
  have S1 : Hid (SenAt w1 A) := S0.out.below hb1
  clear c1 hb1
  have c2 := S1.out.v2
  go_wp2_with fail
  refine (is_same _ _).mono ?_
  rintro e w2 ⟨rfl, hb2⟩
  have x2 := chain x1 hb2
  have S2 : Hid (SenAt w2 A) := S1.out.below hb2
  clear c2 hb2
  go_wp2
  go_ret
  exact ⟨rfl, x2⟩
set_option maxRecDepth 100000 in
set_option maxHeartbeats 4000000 in
theorem code_3 (nm : ByteArray) (w : World) (A : Sen) (hS : SenAt w A) :
    Calls Tryz.prog 60 #[.iface 133 (.agg #[.string nm, .iface 304 (.pointer (some A.e3))])] w fun e w' => e = .returned (.int .i64 3) ∧ Below w.heap.size w w' := by
  have S0 : Hid (SenAt w A) := hS
  have x0 : Below w.heap.size w w := Below.refl _ _
  clear hS
  go_enter Tryz.func60, Tryz.ntmps60
  have c1 := S0.out.v1
  go_wp2_with fail
  refine (is_wrap_other nm _ _ _ (S0.out.n13).symm S0.out.b3 S0.out.b1).mono ?_
  rintro e w1 ⟨rfl, hb1⟩
  have x1 := chain x0 hb1
  have S1 : Hid (SenAt w1 A) := S0.out.below hb1
  clear c1 hb1
  have c2 := S1.out.v2
  go_wp2_with fail
  refine (is_wrap_other nm _ _ _ (S1.out.n23).symm S1.out.b3 S1.out.b2).mono ?_
  rintro e w2 ⟨rfl, hb2⟩
  have x2 := chain x1 hb2
  have S2 : Hid (SenAt w2 A) := S1.out.below hb2
  clear c2 hb2
  have c3 := S2.out.v3
  go_wp2_with fail
  refine (is_wrap_same nm _ _).mono ?_
  rintro e w3 ⟨rfl, hb3⟩
  have x3 := chain x2 hb3
  have S3 : Hid (SenAt w3 A) := S2.out.below hb3
  clear c3 hb3
  go_wp2
  go_ret
  exact ⟨rfl, x3⟩
set_option maxRecDepth 100000 in
set_option maxHeartbeats 4000000 in
theorem code_4 (w : World) (A : Sen) (hS : SenAt w A) :
    Calls Tryz.prog 60 #[.iface 304 (.pointer (some A.e4))] w fun e w' => e = .returned (.int .i64 4) ∧ Below w.heap.size w w' := by
  have S0 : Hid (SenAt w A) := hS
  have x0 : Below w.heap.size w w := Below.refl _ _
  clear hS
  go_enter Tryz.func60, Tryz.ntmps60
  have c1 := S0.out.v1
  go_wp2_with fail
  refine (is_other _ _ _ (S0.out.n14).symm S0.out.b4 S0.out.b1).mono ?_
  rintro e w1 ⟨rfl, hb1⟩
  have x1 := chain x0 hb1
  have S1 : Hid (SenAt w1 A) := S0.out.below hb1
  clear c1 hb1
  have c2 := S1.out.v2
  go_wp2_with fail
  refine (is_other _ _ _ (S1.out.n24).symm S1.out.b4 S1.out.b2).mono ?_
  rintro e w2 ⟨rfl, hb2⟩
  have x2 := chain x1 hb2
  have S2 : Hid (SenAt w2 A) := S1.out.below hb2
  clear c2 hb2
  have c3 := S2.out.v3
  go_wp2_with fail
  refine (is_other _ _ _ (S2.out.n34).symm S2.out.b4 S2.out.b3).mono ?_
  rintro e w3 ⟨rfl, hb3⟩
  have x3 := chain x2 hb3
  have S3 : Hid (SenAt w3 A) := S2.out.below hb3
  clear c3 hb3
  have c4 := S3.out.v4
  go_wp2_with fail
  refine (is_same _ _).mono ?_
  rintro e w4 ⟨rfl, hb4⟩
  have x4 := chain x3 hb4
  have S4 : Hid (SenAt w4 A) := S3.out.below hb4
  clear c4 hb4
  go_wp2
  go_ret
  exact ⟨rfl, x4⟩
set_option maxRecDepth 100000 in
set_option maxHeartbeats 4000000 in
theorem code_5 (w : World) (A : Sen) (hS : SenAt w A) :
    Calls Tryz.prog 60 #[.iface 304 (.pointer (some A.e5))] w fun e w' => e = .returned (.int .i64 5) ∧ Below w.heap.size w w' := by
  have S0 : Hid (SenAt w A) := hS
  have x0 : Below w.heap.size w w := Below.refl _ _
  clear hS
  go_enter Tryz.func60, Tryz.ntmps60
  have c1 := S0.out.v1
  go_wp2_with fail
  refine (is_other _ _ _ (S0.out.n15).symm S0.out.b5 S0.out.b1).mono ?_
  rintro e w1 ⟨rfl, hb1⟩
  have x1 := chain x0 hb1
  have S1 : Hid (SenAt w1 A) := S0.out.below hb1
  clear c1 hb1
  have c2 := S1.out.v2
  go_wp2_with fail
  refine (is_other _ _ _ (S1.out.n25).symm S1.out.b5 S1.out.b2).mono ?_
  rintro e w2 ⟨rfl, hb2⟩
  have x2 := chain x1 hb2
  have S2 : Hid (SenAt w2 A) := S1.out.below hb2
  clear c2 hb2
  have c3 := S2.out.v3
  go_wp2_with fail
  refine (is_other _ _ _ (S2.out.n35).symm S2.out.b5 S2.out.b3).mono ?_
  rintro e w3 ⟨rfl, hb3⟩
  have x3 := chain x2 hb3
  have S3 : Hid (SenAt w3 A) := S2.out.below hb3
  clear c3 hb3
  have c4 := S3.out.v4
  go_wp2_with fail
  refine (is_other _ _ _ (S3.out.n45).symm S3.out.b5 S3.out.b4).mono ?_
  rintro e w4 ⟨rfl, hb4⟩
  have x4 := chain x3 hb4
  have S4 : Hid (SenAt w4 A) := S3.out.below hb4
  clear c4 hb4
  go_wp2
  go_ret
  exact ⟨rfl, x4⟩
theorem code_impl (w : World) (A : Sen) (hS : SenAt w A) (k : Int) (v : Value) (hv : ErrV A k v) (hk : k ≠ 0) :
    Calls Tryz.prog 60 #[v] w fun e w' => e = .returned (.int .i64 k) ∧ Below w.heap.size w w' := by
  rcases hv with ⟨rfl, rfl⟩ | ⟨rfl, nm, rfl⟩ | ⟨rfl, rfl⟩ | ⟨rfl, nm, rfl⟩ | ⟨rfl, rfl⟩ | ⟨rfl, rfl⟩
  · exact absurd rfl hk
  · exact code_1 nm w A hS
  · exact code_2 w A hS
  · exact code_3 nm w A hS
  · exact code_4 w A hS
  · exact code_5 w A hS
set_option maxRecDepth 100000 in
set_option maxHeartbeats 4000000 in
theorem shape_impl (a : Option Addr) (n c : Nat) (v : Value) (w : World) (A : Sen) (hS : SenAt w A) (D : List ByteArray) (k : Int) (hv : ErrV A k v) (hk : k = 0 → D.length = n ∧ StrsAt w a D ∧ (a = none → c = 0) ∧ n ≤ c) (hn : k = 0 → n ≤ 1048576) (h0 : k ≠ 0 → D = []) :
    Calls Tryz.prog 35 #[.slice a n c, v] w (ShpOut w D k) := by
  have HS : Hid (SenAt w A) := hS
  rcases hv.shape with ⟨rfl, rfl⟩ | ⟨hk0, t, x, rfl⟩
  · obtain ⟨h1, h2, h3, h4⟩ := hk rfl
    have hnm := hn rfl
    obtain ⟨i0, hi, hz0, hz1, hz2⟩ := info_parts infoStrC
    have HD : Hid (D.length = n) := h1
    have HR : Hid (StrsAt w a D) := h2
    have HN : Hid (a = none → c = 0) := h3
    clear hk hn h0 hv h1 h2 h3 h4 hS
    go_enter Tryz.func35, Tryz.ntmps35
    go_wp2_with (at_make; refine wpList_make_own _ rfl _ _ 28 rfl w.heap.size 9 i0 (.string ⟨#[]⟩) 1 Tryz.underlying28 hi hz0 hz1 .i64 .i64 _ n rfl rfl rfl (by rw [hz2]; omega) (by unfold maxLen; omega) (Nat.le_refl _) ?_)
    intro w1 own1 hg1
    have hb1 : Below w.heap.size w w1 := (Below.refl _ _).grown hg1 (Nat.le_refl _) (by intro k h; cases h)
    obtain ⟨v2, w2, hr2, own2, hg2, hn2⟩ := run_append_strs w1 28 w.heap.size _ 0 [] own1 a n c D HD.out (HR.out.below hb1) HN.out (by omega) hb1.size
    have hb2 : Below w.heap.size w w2 := hb1.grown hg2 hb1.size (by intro k hk; simp [Value.ownBlock] at hk; omega)
    obtain ⟨g2, c2, rfl, hc2⟩ : ∃ g c, v2 = .slice (some ⟨g, 0, none⟩) (0 + n) c ∧ 0 + n ≤ c := by
      rcases own2.2 with ⟨e', _⟩ | ⟨g, cap, cur, e', _, _, hle, _⟩
      · exact absurd ((hn2.1 e').1) (by simp)
      · exact ⟨g, cap, e', hle⟩
    simp only [Nat.zero_add, List.nil_append] at hr2 own2 hc2
    have R2 : Hid _ := hr2
    have fin : Hid (ShpOut w D 0 (.returned (.tuple #[.slice (some ⟨g2, 0, none⟩) n c2, .int .i64 0])) w2) := ⟨g2, n, c2, HD.out, rfl, hc2, own2, hb2⟩
    clear hr2 own2 hg2 hn2 own1 hg1 hb1 hb2 HR
    go_wp2_with (at_builtin; refine wpList_app rfl _ _ 28 28 rfl _ _ rfl rfl _ _ R2.out ?_)
    go_ret2
    exact fin.out
  · obtain rfl := h0 hk0
    have HV : Hid (ErrV A k (.iface t x)) := hv
    have hA : Below w.heap.size w (w.alloc (.cells #[] 9)) := (Below.refl _ _).alloc (Nat.le_refl _) _
    have HK0 : Hid (k ≠ 0) := hk0
    clear hk hn h0 hv hk0 hS
    go_enter Tryz.func35, Tryz.ntmps35
    go_wp2_with fail
    refine (code_impl _ A (HS.out.below hA) k _ HV.out HK0.out).mono ?_
    rintro e w1 ⟨rfl, hb1⟩
    have fin : Hid (ShpOut w [] k (.returned (.tuple #[.slice (some ⟨w.heap.size, 0, none⟩) 0 0, .int .i64 k])) w1) := ⟨w.heap.size, 0, 0, rfl, rfl, Nat.le_refl _, own_below (own_nilS w) hb1, chain hA hb1⟩
    clear hb1 hA
    go_wp2
    go_ret2
    exact fin.out
set_option maxRecDepth 100000 in
set_option maxHeartbeats 8000000 in
theorem stepcolumns_impl (ba : Option Addr) (bn bc : Nat) (T : List TB) (hbn : T.length = bn) (hbM : bn ≤ 1048576) (hsmT : ∀ t, t ∈ T → Small t) (ca : Option Addr) (cn cc : Nat) (C : List ByteArray) (hcn : C.length = cn) (kd : Int) (nm : ByteArray) (na : Option Addr) (nn nc : Nat) (N : List ByteArray) (hnn : N.length = nn) (sa : Option Addr) (sn sc : Nat) (S : List TI) (hsn : S.length = sn) (dn : Bool) (ct sk : Int) (w : World) (hT : TabsAt w ba T) (hC : StrsAt w ca C) (hnil : ca = none → cc = 0) (hcc : cn ≤ cc) (hV : SivAt w na nc sa ⟨kd, nm, N, S, dn, ct, sk⟩) (hmild : MildV ⟨kd, nm, N, S, dn, ct, sk⟩) (hcF : FitS C) (hcM : cn ≤ maxLen) (A : Sen) (hS : SenAt w A) (D : List ByteArray) (k0 : Int) (hD : stepShapeR T C ⟨kd, nm, N, S, dn, ct, sk⟩ = (D, k0)) :
    Calls Tryz.prog 41 #[.slice ba bn bc, .slice ca cn cc, .agg #[.int .i64 kd, .string nm, .slice na nn nc, .slice sa sn sc, .bool dn, .int .i64 ct, .int .i64 sk]] w (ColOut w A D k0) := by
  obtain ⟨b1, hb1⟩ : ∃ b, baseB T = b := ⟨_, rfl⟩
  obtain ⟨b2, hb2⟩ : ∃ b, namesB C 1 6 = b := ⟨_, rfl⟩
  obtain ⟨b3, hb3⟩ : ∃ b, sieveB ⟨kd, nm, N, S, dn, ct, sk⟩ = b := ⟨_, rfl⟩
  have CB : Hid (∀ w', Below w.heap.size w w' → Calls Tryz.prog 61 #[.slice ba bn bc] w' fun e w'' => e = .returned (.bool b1) ∧ Below w'.heap.size w' w'') := fun w' hw => baseok_impl ba bc T bn hbn w' (hT.below hw) hbM b1 hb1
  have CN : Hid (∀ w', Below w.heap.size w w' → Calls Tryz.prog 66 #[.slice ca cn cc] w' fun e w'' => e = .returned (.bool b2) ∧ Below w'.heap.size w' w'') := fun w' hw => columns_impl cn ca cc C hcn w' (hC.below hw) hcF hcM hcc b2 hb2
  have CS : Hid (∀ w', Below w.heap.size w w' → Calls Tryz.prog 67 #[.agg #[.int .i64 kd, .string nm, .slice na nn nc, .slice sa sn sc, .bool dn, .int .i64 ct, .int .i64 sk]] w' fun e w'' => e = .returned (.bool b3) ∧ Below w'.heap.size w' w'') := fun w' hw => sieve_impl kd nm na nn nc N hnn sa sn sc S hsn dn ct sk w' (hS.below hw).pow (hS.below hw).err (hV.below hw) hmild b3 hb3
  have CL : Hid (b1 = true → b2 = true → b3 = true → kd ≠ 1 → ∀ w', Below w.heap.size w w' → Calls Tryz.prog 64 #[.slice ba bn bc, .slice ca cn cc, .agg #[.int .i64 kd, .string nm, .slice na nn nc, .slice sa sn sc, .bool dn, .int .i64 ct, .int .i64 sk]] w' (ColOut w' A D k0)) := by
    have h : b1 = true → b2 = true → b3 = true → kd ≠ 1 → ∀ w', Below w.heap.size w w' → Calls Tryz.prog 64 #[.slice ba bn bc, .slice ca cn cc, .agg #[.int .i64 kd, .string nm, .slice na nn nc, .slice sa sn sc, .bool dn, .int .i64 ct, .int .i64 sk]] w' (ColOut w' A D k0) := by
      intro e1 e2 e3 e4 w' hw
      subst e1 e2 e3
      have hD2 := hD
      unfold stepShapeR at hD2
      rw [if_pos ⟨by rw [hb1, hb2, hb3]; rfl, e4⟩] at hD2
      exact stepped_impl ba bn bc T hbn hbM hsmT ca cn cc C hcn kd nm na nn nc N hnn sa sn sc S hsn dn ct sk w' (hT.below hw) (hC.below hw) hnil hcc (hV.below hw) (mild_fitI hmild) hb1 hb2 hb3 e4 A (hS.below hw) D k0 hD2
    exact h
  have BAD : Hid (¬ (b1 = true ∧ b2 = true ∧ b3 = true ∧ kd ≠ 1) → k0 = 5) := by
    have h : ¬ (b1 = true ∧ b2 = true ∧ b3 = true ∧ kd ≠ 1) → k0 = 5 := by
      intro hn
      have hD2 := hD
      unfold stepShapeR at hD2
      rw [if_neg (by
        rintro ⟨h1, h2⟩
        rw [hb1, hb2, hb3] at h1
        simp only [Bool.and_eq_true] at h1
        exact hn ⟨h1.1.1, h1.1.2, h1.2, h2⟩)] at hD2
      injection hD2 with e1 e2
      exact e2.symm
    exact h
  have HS : Hid (SenAt w A) := hS
  have hA : ∀ o, Below w.heap.size w (w.alloc o) := fun o => (Below.refl _ _).alloc (Nat.le_refl _) o
  clear hb1 hb2 hb3 hT hC hV hbn hcn hnn hsn hD hcF hnil hS hsmT hmild hcM hcc
  go_enter Tryz.func41, Tryz.ntmps41
  go_wp2_with fail
  refine (CB.out _ (hA _)).mono ?_
  rintro e w1 ⟨rfl, hb1⟩
  obtain ⟨p0, p1, p2, p3, p4, p5, p6, hsz⟩ := box7 hb1
  have hx1 := chainA hb1
  clear hb1
  cases b1
  · obtain rfl := BAD.out (by simp)
    have hv := (HS.out.below hx1).v5
    clear BAD
    go_wp2_with fail
    go_quiet (fail)
    go_wp2
    refine bodyPost_ret (v := .tuple #[.slice none 0 0, .iface 304 (.pointer (some A.e5))]) (by simp [results, Tryz.results41, go_sem]) rfl ?_
    exact ⟨_, _, _, _, rfl, errV_5, fun h => absurd h (by decide), belowN hx1 _⟩
  go_wp2_with fail
  refine (CN.out _ hx1).mono ?_
  rintro e w2 ⟨rfl, hb2⟩
  obtain ⟨q0, q1, q2, q3, q4, q5, q6, hsz2⟩ := later7 hb2 ⟨p0, p1, p2, p3, p4, p5, p6, hsz⟩
  have hx2 := chain hx1 hb2
  clear p0 p1 p2 p3 p4 p5 p6 hsz hb2
  cases b2
  · obtain rfl := BAD.out (by simp)
    have hv := (HS.out.below hx2).v5
    clear BAD
    go_wp2_with fail
    go_quiet (fail)
    go_wp2
    refine bodyPost_ret (v := .tuple #[.slice none 0 0, .iface 304 (.pointer (some A.e5))]) (by simp [results, Tryz.results41, go_sem]) rfl ?_
    exact ⟨_, _, _, _, rfl, errV_5, fun h => absurd h (by decide), belowN hx2 _⟩
  go_wp2_with fail
  refine (CS.out _ hx2).mono ?_
  rintro e w3 ⟨rfl, hb3⟩
  obtain ⟨r0, r1, r2, r3, r4, r5, r6, hsz3⟩ := later7 hb3 ⟨q0, q1, q2, q3, q4, q5, q6, hsz2⟩
  have hx3 := chain hx2 hb3
  clear q0 q1 q2 q3 q4 q5 q6 hsz2 hb3
  cases b3
  · obtain rfl := BAD.out (by simp)
    have hv := (HS.out.below hx3).v5
    clear BAD
    go_wp2_with fail
    go_quiet (fail)
    go_wp2
    refine bodyPost_ret (v := .tuple #[.slice none 0 0, .iface 304 (.pointer (some A.e5))]) (by simp [results, Tryz.results41, go_sem]) rfl ?_
    exact ⟨_, _, _, _, rfl, errV_5, fun h => absurd h (by decide), belowN hx3 _⟩
  by_cases hk1 : kd = 1
  · have hk : (kd == 1) = true := by simp [hk1]
    obtain rfl := BAD.out (by simp [hk1])
    have hv := (HS.out.below hx3).v5
    clear BAD hk1
    go_wp2_with fail
    go_quiet (fail)
    go_wp2
    refine bodyPost_ret (v := .tuple #[.slice none 0 0, .iface 304 (.pointer (some A.e5))]) (by simp [results, Tryz.results41, go_sem]) rfl ?_
    exact ⟨_, _, _, _, rfl, errV_5, fun h => absurd h (by decide), belowN hx3 _⟩
  have hk : (kd == 1) = false := by simp [hk1]
  have C : Hid (∀ w', Below w.heap.size w w' → Calls Tryz.prog 64 #[.slice ba bn bc, .slice ca cn cc, .agg #[.int .i64 kd, .string nm, .slice na nn nc, .slice sa sn sc, .bool dn, .int .i64 ct, .int .i64 sk]] w' (ColOut w' A D k0)) := CL.out (by simp) (by simp) (by simp) hk1
  clear hk1 BAD CL
  go_wp2_with fail
  refine (C.out _ hx3).mono ?_
  rintro e w4 ⟨a', n', c', v', rfl, hv, hkk, hb4⟩
  have fin : Hid (ColOut w A D k0 (.returned (.tuple #[.slice a' n' c', v'])) w4) := ⟨_, _, _, _, rfl, hv, hkk, chain hx3 hb4⟩
  clear hv hkk hb4
  go_wp2
  refine bodyPost_ret (v := .tuple #[.slice a' n' c', v']) (by simp [results, Tryz.results41, go_sem]) rfl ?_
  exact fin.out
set_option maxRecDepth 100000 in
set_option maxHeartbeats 4000000 in
theorem stepshape_impl (ba : Option Addr) (bn bc : Nat) (T : List TB) (hbn : T.length = bn) (hbM : bn ≤ 1048576) (hsmT : ∀ t, t ∈ T → Small t) (ca : Option Addr) (cn cc : Nat) (C : List ByteArray) (hcn : C.length = cn) (kd : Int) (nm : ByteArray) (na : Option Addr) (nn nc : Nat) (N : List ByteArray) (hnn : N.length = nn) (sa : Option Addr) (sn sc : Nat) (S : List TI) (hsn : S.length = sn) (dn : Bool) (ct sk : Int) (w : World) (hT : TabsAt w ba T) (hC : StrsAt w ca C) (hnil : ca = none → cc = 0) (hcc : cn ≤ cc) (hV : SivAt w na nc sa ⟨kd, nm, N, S, dn, ct, sk⟩) (hmild : MildV ⟨kd, nm, N, S, dn, ct, sk⟩) (hcF : FitS C) (hcM : cn ≤ maxLen) (A : Sen) (hS : SenAt w A) (D : List ByteArray) (k0 : Int) (hD : stepShapeR T C ⟨kd, nm, N, S, dn, ct, sk⟩ = (D, k0)) :
    Calls Tryz.prog 10 #[.slice ba bn bc, .slice ca cn cc, .agg #[.int .i64 kd, .string nm, .slice na nn nc, .slice sa sn sc, .bool dn, .int .i64 ct, .int .i64 sk]] w (ShpOut w D k0) := by
  have hA : Below w.heap.size w (w.alloc (.cells #[.int .i64 kd, .string nm, .slice na nn nc, .slice sa sn sc, .bool dn, .int .i64 ct, .int .i64 sk] 33)) := (Below.refl _ _).alloc (Nat.le_refl _) _
  have E : Hid (Calls Tryz.prog 41 #[.slice ba bn bc, .slice ca cn cc, .agg #[.int .i64 kd, .string nm, .slice na nn nc, .slice sa sn sc, .bool dn, .int .i64 ct, .int .i64 sk]] (w.alloc (.cells #[.int .i64 kd, .string nm, .slice na nn nc, .slice sa sn sc, .bool dn, .int .i64 ct, .int .i64 sk] 33)) (ColOut (w.alloc (.cells #[.int .i64 kd, .string nm, .slice na nn nc, .slice sa sn sc, .bool dn, .int .i64 ct, .int .i64 sk] 33)) A D k0)) := stepcolumns_impl ba bn bc T hbn hbM hsmT ca cn cc C hcn kd nm na nn nc N hnn sa sn sc S hsn dn ct sk _ (hT.below hA) (hC.below hA) hnil hcc (hV.below hA) hmild hcF hcM A (hS.below hA) D k0 hD
  have HS : Hid (SenAt w A) := hS
  have HZ : Hid (k0 ≠ 0 → D = []) := by
    have : k0 ≠ 0 → D = [] := fun hk => by
      unfold stepShapeR at hD
      split at hD
      · have := stepC_none T C ⟨kd, nm, N, S, dn, ct, sk⟩ (by rw [hD]; exact hk)
        rw [hD] at this
        exact this
      · exact (congrArg Prod.fst hD).symm
    exact this
  have HL : Hid (k0 = 0 → D.length ≤ 6) := by
    have : k0 = 0 → D.length ≤ 6 := fun hk => by
      subst hk
      unfold stepShapeR at hD
      split at hD
      · rename_i h
        simp only [Bool.and_eq_true] at h
        exact (cols_six (stepC_ok h.1.1.1 h.1.1.2 h.1.2 hD)).1
      · exact absurd (show (5 : Int) = 0 from congrArg Prod.snd hD) (by decide)
    exact this
  clear hT hC hV hbn hcn hnn hsn hD hcF hnil hS hsmT hmild hcM hcc
  go_enter Tryz.func10, Tryz.ntmps10
  go_wp2_with fail
  refine E.out.mono ?_
  rintro e w1 ⟨a', n', c', v', rfl, hv, hkk, hb1⟩
  have hx1 := chain hA hb1
  have HV : Hid (ErrV A k0 v') := hv
  have HKK : Hid (k0 = 0 → D.length = n' ∧ StrsAt w1 a' D ∧ (a' = none → c' = 0) ∧ n' ≤ c') := hkk
  clear hv hkk hb1 hA E
  go_wp2_with fail
  refine (shape_impl a' n' c' v' w1 A (HS.out.below hx1) D k0 HV.out HKK.out (fun h => by have := HL.out h; have := (HKK.out h).1; omega) HZ.out).mono ?_
  rintro e w2 ⟨g, n, c, hn, rfl, hnc, ho, hb2⟩
  have fin : Hid (ShpOut w D k0 (.returned (.tuple #[.slice (some ⟨g, 0, none⟩) n c, .int .i64 k0])) w2) := ⟨g, n, c, hn, rfl, hnc, own_lowS ho hx1.size, chain hx1 hb2⟩
  clear hn hnc ho hb2 HV HKK
  go_wp2
  go_ret2
  exact fin.out
end Go.Proofs.YtjiaciikbnpicaaGreatDoor

/-
  The program's askColumns and ShapeOf.
-/
namespace Go.Proofs.YtjiaciikbnpicaaGreatDoor
open Go.ChangeShapes Go.WideShapes Go.ChangeAt Go.RowKit
attribute [local go_sem ↓] Go.wp_at_zero Go.wp_at_succ
attribute [local simp] World.cell?_alloc_past World.cell?_alloc_at World.frozen?_alloc_at cell_far cell_off cell_here World.frozen?_alloc_past

set_option maxRecDepth 100000 in
set_option maxHeartbeats 8000000 in
theorem askcolumns_impl (ba : Option Addr) (bn bc : Nat) (T : List TB) (hbn : T.length = bn) (hbM : bn ≤ 1048576) (hsmT : ∀ t, t ∈ T → Small t) (a : Option Addr) (cap : Nat) (L : List SV) (n : Nat) (hn : L.length = n) (w : World) (hT : TabsAt w ba T) (hL : SivsAt w a L) (hmild : ∀ i (hi : i < L.length), MildV L[i]) (hnM : n ≤ maxLen) (hcap : n ≤ cap) (A : Sen) (hS : SenAt w A) (D : List ByteArray) (k0 : Int) (hD : shapeR T L = (D, k0)) :
    Calls Tryz.prog 36 #[.slice ba bn bc, .slice a n cap] w (ColOut w A D k0) := by
  obtain ⟨b1, hb1⟩ : ∃ b, baseB T = b := ⟨_, rfl⟩
  obtain ⟨b2, hb2⟩ : ∃ b, askB L = b := ⟨_, rfl⟩
  have CB : Hid (∀ w', Below w.heap.size w w' → Calls Tryz.prog 61 #[.slice ba bn bc] w' fun e w'' => e = .returned (.bool b1) ∧ Below w'.heap.size w' w'') := fun w' hw => baseok_impl ba bc T bn hbn w' (hT.below hw) hbM b1 hb1
  have CA : Hid (∀ w', Below w.heap.size w w' → Calls Tryz.prog 62 #[.slice a n cap] w' fun e w'' => e = .returned (.bool b2) ∧ Below w'.heap.size w' w'') := fun w' hw => ask_impl a cap L n hn w' (hL.below hw) hmild hnM (hS.below hw).pow (hS.below hw).err b2 hb2
  have BAD : Hid (¬ (b1 = true ∧ b2 = true) → k0 = 5) := by
    have h : ¬ (b1 = true ∧ b2 = true) → k0 = 5 := by
      intro hn
      have hD2 := hD
      rw [shapeR_q, if_neg (by rw [hb1, hb2, Bool.and_eq_true]; exact hn)] at hD2
      exact (congrArg Prod.snd hD2).symm
    exact h
  have HT : Hid (TabsAt w ba T) := hT
  have HL : Hid (SivsAt w a L) := hL
  have HN : Hid (L.length = n) := hn
  have HBN : Hid (T.length = bn) := hbn
  have HS : Hid (SenAt w A) := hS
  have HMI : Hid (∀ i (hi : i < L.length), MildV L[i]) := hmild
  have HSMT : Hid (∀ t, t ∈ T → Small t) := hsmT
  have HB1 : Hid (baseB T = b1) := hb1
  have HB2 : Hid (askB L = b2) := hb2
  have HDD : Hid (shapeR T L = (D, k0)) := hD
  clear hb1 hb2 hT hL hbn hn hD hS hmild hsmT
  go_enter Tryz.func36, Tryz.ntmps36
  go_wp2_with fail
  refine (CB.out _ (Below.refl _ _)).mono ?_
  rintro e w1 ⟨rfl, hx1⟩
  cases b1
  · obtain rfl := BAD.out (by simp)
    have hv := (HS.out.below hx1).v5
    clear BAD
    go_wp2_with fail
    go_quiet (fail)
    go_wp2
    refine bodyPost_ret (v := .tuple #[.slice none 0 0, .iface 304 (.pointer (some A.e5))]) (by simp [results, Tryz.results36, go_sem]) rfl ?_
    exact ⟨_, _, _, _, rfl, errV_5, fun h => absurd h (by decide), belowN hx1 _⟩
  go_wp2_with fail
  refine (CA.out _ hx1).mono ?_
  rintro e w2 ⟨rfl, hb2⟩
  have hx2 := chain hx1 hb2
  clear hb2
  cases b2
  · obtain rfl := BAD.out (by simp)
    have hv := (HS.out.below hx2).v5
    clear BAD
    go_wp2_with fail
    go_quiet (fail)
    go_wp2
    refine bodyPost_ret (v := .tuple #[.slice none 0 0, .iface 304 (.pointer (some A.e5))]) (by simp [results, Tryz.results36, go_sem]) rfl ?_
    exact ⟨_, _, _, _, rfl, errV_5, fun h => absurd h (by decide), belowN hx2 _⟩
  clear BAD CB CA hx1
  obtain ⟨hall, hn1, hn8⟩ := ask_all HB2.out
  have HAL : Hid (∀ i (hi : i < L.length), sieveB L[i] = true) := hall
  have HAF : Hid (∀ i (hi : i < L.length), i ≠ 0 → L[i].kind ≠ 1) := ask_first HB2.out
  rw [HN.out] at hn1 hn8
  obtain ⟨m, rfl⟩ : ∃ m, n = m + 1 := ⟨n - 1, by omega⟩
  have hl0 : 0 < L.length := by rw [HN.out]; omega
  obtain ⟨nm, hnm⟩ : ∃ z, L[0].name = z := ⟨_, rfl⟩
  obtain ⟨E, hE⟩ : ∃ E, colsOf T nm = E := ⟨_, rfl⟩
  obtain ⟨k1, hk1⟩ : ∃ k1 : Int, (if inB (namesT T) nm = true then (0 : Int) else 1) = k1 := ⟨_, rfl⟩
  have HD : Hid ((if inB (namesT T) nm = false then ([], 1) else shapeF T (colsOf T nm) (L.drop 1)) = (D, k0)) := by
    have h : (if inB (namesT T) nm = false then ([], 1) else shapeF T (colsOf T nm) (L.drop 1)) = (D, k0) := by
      have h0 : shapeQ T L = (D, k0) := by
        have h1 := HDD.out
        rw [shapeR_q, if_pos (by rw [HB1.out, HB2.out]; rfl)] at h1
        exact h1
      rw [← h0, ← hnm]
      unfold shapeQ
      cases L with
      | nil => simp at hl0
      | cons x l => rfl
    exact h
  have ST : Hid ((k1 = 0 → namesB E 1 6 = true ∧ shapeF T E (L.drop 1) = (D, k0)) ∧ (k1 ≠ 0 → k0 = k1)) := by
    have h : (k1 = 0 → namesB E 1 6 = true ∧ shapeF T E (L.drop 1) = (D, k0)) ∧ (k1 ≠ 0 → k0 = k1) := by
      have hd := HD.out
      by_cases hi : inB (namesT T) nm = true
      · rw [if_pos hi] at hk1
        rw [if_neg (by rw [hi]; decide), hE] at hd
        refine ⟨fun _ => ⟨?_, hd⟩, fun h => absurd hk1.symm h⟩
        rw [← hE]
        exact cols_names HB1.out (inB_iff.1 hi)
      · rw [if_neg hi] at hk1
        rw [if_pos (by simpa using hi)] at hd
        exact ⟨fun h => absurd (hk1.trans h) (by decide), fun _ => by rw [← hk1]; exact (congrArg Prod.snd hd).symm⟩
    exact h
  obtain ⟨g0, oo, na, nc, sa, sc, rfl, hgw, ⟨c0, c1, c2, c3, c4, c5, c6⟩, hs0⟩ := HL.out.below hx2 0 hl0
  have hnmz : nm.size ≤ maxLen := by rw [← hnm]; exact hs0.name
  have HC : Hid (Calls Tryz.prog 63 #[.slice ba bn bc, .string nm] w2 (ColOut w2 A E k1)) := tablecols_impl ba bc T bn HBN.out w2 (HT.out.below hx2) hbM HSMT.out nm hnmz A (HS.out.below hx2) E hE k1 hk1
  rw [hnm] at c1
  rw [Nat.zero_mul, Nat.add_zero] at c1
  have hi1 : (0 : Int) < ((m + 1 : Nat) : Int) := by omega
  clear hall hnm c0 c2 c3 c4 c5 c6 hs0 hl0 hE hk1 HD hnmz
  go_wp2_with fail
  refine HC.out.mono ?_
  rintro e w3 ⟨a3, n3, c3, v3, rfl, hv, hkk, hb3⟩
  have hx3 := chain hx2 hb3
  have I0 : Hid (ErrV A k1 v3 ∧ (k1 = 0 → (E.length = n3 ∧ StrsAt w3 a3 E ∧ (a3 = none → c3 = 0) ∧ n3 ≤ c3) ∧ namesB E 1 6 = true ∧ shapeF T E (L.drop (0 + 1)) = (D, k0)) ∧ (k1 ≠ 0 → k0 = k1)) := ⟨hv, fun h => ⟨hkk h, ST.out.1 h⟩, ST.out.2⟩
  clear hv hkk hb3 c1 HC ST hx2 hgw
  rcases Nat.eq_zero_or_pos m with hm0 | hmp
  · subst hm0
    have fin : Hid (ColOut w A D k0 (.returned (.tuple #[.slice a3 n3 c3, v3])) w3) := by
      have h : ColOut w A D k0 (.returned (.tuple #[.slice a3 n3 c3, v3])) w3 := by
        by_cases hq : k1 = 0
        · subst hq
          obtain ⟨hC, _, hst⟩ := I0.out.2.1 rfl
          rw [List.drop_eq_nil_of_le (by rw [HN.out]; exact Nat.le_refl _)] at hst
          injection hst with e1 e2
          subst e1 e2
          exact ⟨_, _, _, _, rfl, I0.out.1, fun _ => hC, hx3⟩
        · have e0 := I0.out.2.2 hq
          subst e0
          exact ⟨_, _, _, _, rfl, I0.out.1, fun h => absurd h hq, hx3⟩
      exact h
    clear I0
    go_wp2
    all_goals
      refine wp_loop_rounds 1 ?_
      rw [rounds_succ]
      go_wp2
      refine bodyPost_ret (v := .tuple #[.slice a3 n3 c3, v3]) (by simp [results, Tryz.results36, go_sem]) rfl ?_
      exact fin.out
  have hcp1 : ¬ cap = 1 := by omega
  go_wp2
  go_loopw [6, 7, 31] (fun s6 s7 kk wr => ∃ (j : Nat) (a' : Option Addr) (n' c' : Nat) (v : Value) (q : Int) (C : List ByteArray), j ≤ m ∧ kk = .int .i64 j ∧ s6 = .slice a' n' c' ∧ v = s7 ∧ Hid (ErrV A q v ∧ (q = 0 → (C.length = n' ∧ StrsAt wr a' C ∧ (a' = none → c' = 0) ∧ n' ≤ c') ∧ namesB C 1 6 = true ∧ shapeF T C (L.drop (j + 1)) = (D, k0)) ∧ (q ≠ 0 → k0 = q)) ∧ Below w.heap.size w wr) (fun _ _ kk _ => m - (intOf kk).toNat)
  case atStart => exact ⟨0, a3, n3, c3, v3, k1, E, Nat.zero_le _, rfl, rfl, rfl, I0, hx3⟩
  case round =>
    obtain ⟨j, a', n', c', v, q, C, hj, rfl, rfl, rfl, hI, hbw⟩ := hrel
    by_cases hlt : j < m
    · have hlk : j + 1 < L.length := by rw [HN.out]; omega
      obtain ⟨g1, o1, na1, nc1, sa1, sc1, e1, hgw1, ⟨c0, c1, c2, c3, c4, c5, c6⟩, hsv⟩ := HL.out.below hbw (j + 1) hlk
      injection e1 with e1
      injection e1 with e1 e2
      subst e1 e2
      have eo : oo + (j + 1) * 7 = oo + 7 + j * 7 := by omega
      rw [eo] at c0 c1 c2 c3 c4 c5 c6
      have hi0 : (0 : Int) ≤ (j : Int) := by omega
      have hi2 : (j : Int) < (m : Int) := by omega
      rcases hI.out.1.shape with ⟨hq, hvv⟩ | ⟨hq, t, x, hvv⟩
      · subst hq hvv
        obtain ⟨⟨hC1, hC2, hC3, hC4⟩, hCn, hst⟩ := hI.out.2.1 rfl
        have hok := HAL.out (j + 1) hlk
        have hkd := HAF.out (j + 1) hlk (by omega)
        have hml := HMI.out (j + 1) hlk
        rw [shapeF_drop T C L (j + 1) hlk] at hst
        generalize L[j + 1] = s at c0 c1 c2 c3 c4 c5 c6 hsv hok hkd hst hml
        obtain ⟨kd, nm1, N, S, dn, ct, sk⟩ := s
        dsimp only at c0 c1 c2 c3 c4 c5 c6 hkd
        obtain ⟨nn, hnn⟩ : ∃ m, N.length = m := ⟨_, rfl⟩
        obtain ⟨sn, hsn⟩ : ∃ m, S.length = m := ⟨_, rfl⟩
        rw [hnn] at c2
        rw [hsn] at c3
        obtain ⟨D1, k2, hD1⟩ : ∃ D1 k1, stepC T C ⟨kd, nm1, N, S, dn, ct, sk⟩ = (D1, k1) := ⟨_, _, rfl⟩
        rw [hD1] at hst
        dsimp only at hst
        have hA : Below wr.heap.size wr (wr.alloc (.cells #[.int .i64 kd, .string nm1, .slice na1 nn nc1, .slice sa1 sn sc1, .bool dn, .int .i64 ct, .int .i64 sk] 33)) := (Below.refl _ _).alloc (Nat.le_refl _) _
        have hxA := chain hbw hA
        have CC : Hid (Calls Tryz.prog 64 #[.slice ba bn bc, .slice a' n' c', .agg #[.int .i64 kd, .string nm1, .slice na1 nn nc1, .slice sa1 sn sc1, .bool dn, .int .i64 ct, .int .i64 sk]] (wr.alloc (.cells #[.int .i64 kd, .string nm1, .slice na1 nn nc1, .slice sa1 sn sc1, .bool dn, .int .i64 ct, .int .i64 sk] 33)) (ColOut (wr.alloc (.cells #[.int .i64 kd, .string nm1, .slice na1 nn nc1, .slice sa1 sn sc1, .bool dn, .int .i64 ct, .int .i64 sk] 33)) A D1 k2)) :=
          stepped_impl ba bn bc T HBN.out hbM HSMT.out a' n' c' C hC1 kd nm1 na1 nn nc1 N hnn sa1 sn sc1 S hsn dn ct sk _ (HT.out.below hxA) (hC2.below hA) hC3 hC4 (hsv.below hA) (mild_fitI hml) HB1.out hCn hok hkd A (HS.out.below hxA) D1 k2 hD1
        have NX : Hid ((k2 = 0 → namesB D1 1 6 = true ∧ shapeF T D1 (L.drop (j + 1 + 1)) = (D, k0)) ∧ (k2 ≠ 0 → k0 = k2)) := by
          have h : (k2 = 0 → namesB D1 1 6 = true ∧ shapeF T D1 (L.drop (j + 1 + 1)) = (D, k0)) ∧ (k2 ≠ 0 → k0 = k2) := by
            refine ⟨fun e => ?_, fun e => ?_⟩
            · subst e
              rw [if_pos rfl] at hst
              exact ⟨stepC_ok HB1.out hCn hok hD1, hst⟩
            · rw [if_neg e] at hst
              exact (congrArg Prod.snd hst).symm
          exact h
        clear hst hsv hok hkd hD1 hnn hsn hlk hI hml hC1 hC2 hC3 hC4 hCn eo
        go_wp2_with fail
        refine CC.out.mono ?_
        rintro e w4 ⟨a4, n4, d4, v4, rfl, hv, hkk, hb4⟩
        have hx4 := chain hxA hb4
        have I4 : Hid (ErrV A k2 v4 ∧ (k2 = 0 → (D1.length = n4 ∧ StrsAt w4 a4 D1 ∧ (a4 = none → d4 = 0) ∧ n4 ≤ d4) ∧ namesB D1 1 6 = true ∧ shapeF T D1 (L.drop (j + 1 + 1)) = (D, k0)) ∧ (k2 ≠ 0 → k0 = k2)) := ⟨hv, fun h => ⟨hkk h, NX.out.1 h⟩, NX.out.2⟩
        clear hv hkk hb4 c0 c1 c2 c3 c4 c5 c6 CC NX hA hxA
        go_wp2
        go_roundw
        case rel => exact ⟨j + 1, a4, n4, d4, v4, k2, D1, by omega, by go_num, rfl, rfl, I4, hx4⟩
        case measure => simp [intOf]; omega
      · subst hvv
        have e0 := hI.out.2.2 hq
        subst e0
        have HV : Hid (ErrV A k0 (.iface t x)) := hI.out.1
        have HQ : Hid (k0 ≠ 0) := hq
        generalize L[j + 1] = s at c0 c1 c2 c3 c4 c5 c6 hsv
        obtain ⟨kd, nm1, N, S, dn, ct, sk⟩ := s
        dsimp only at c0 c1 c2 c3 c4 c5 c6
        clear hI hq hsv hlk eo
        go_wp2
        refine bodyPost_ret (v := .tuple #[.slice none 0 0, .iface t x]) (by simp [results, Tryz.results36, go_sem]) rfl ?_
        exact ⟨_, _, _, _, rfl, HV.out, fun h => absurd h HQ.out, hbw.alloc hbw.size _⟩
    · have hkl : j = m := by omega
      subst hkl
      have hi2 : ¬ (j : Int) < (j : Int) := by omega
      have fin : Hid (ColOut w A D k0 (.returned (.tuple #[.slice a' n' c', v])) wr) := by
        have h : ColOut w A D k0 (.returned (.tuple #[.slice a' n' c', v])) wr := by
          by_cases hq : q = 0
          · subst hq
            obtain ⟨hC, _, hst⟩ := hI.out.2.1 rfl
            rw [List.drop_eq_nil_of_le (by rw [HN.out]; exact Nat.le_refl _)] at hst
            injection hst with e1 e2
            subst e1 e2
            exact ⟨_, _, _, _, rfl, hI.out.1, fun _ => hC, hbw⟩
          · have e0 := hI.out.2.2 hq
            subst e0
            exact ⟨_, _, _, _, rfl, hI.out.1, fun h => absurd h hq, hbw⟩
        exact h
      clear hI hlt
      go_wp2
      refine bodyPost_ret (v := .tuple #[.slice a' n' c', v]) (by simp [results, Tryz.results36, go_sem]) rfl ?_
      exact fin.out
theorem shapeR_none (T : List TB) (L : List SV) (D : List ByteArray) (k0 : Int) (hD : shapeR T L = (D, k0)) (hk : k0 ≠ 0) : D = [] := by
  rw [shapeR_q] at hD
  split at hD
  · unfold shapeQ at hD
    split at hD
    · exact (congrArg Prod.fst hD).symm
    · have := shapeF_none T _ _ (by rw [hD]; exact hk)
      rw [hD] at this
      exact this
  · exact (congrArg Prod.fst hD).symm
theorem shapeR_len (T : List TB) (L : List SV) (D : List ByteArray) (hD : shapeR T L = (D, 0)) : D.length ≤ 6 := by
  rw [shapeR_q] at hD
  split at hD
  · rename_i h
    rw [Bool.and_eq_true] at h
    unfold shapeQ at hD
    split at hD
    · exact absurd (show (1 : Int) = 0 from congrArg Prod.snd hD) (by decide)
    · rename_i hi
      have hin := inB_iff.1 (by simpa using hi)
      refine (cols_six (shapeF_ok h.1 _ (cols_names h.1 hin) ?_ hD)).1
      intro s hs
      obtain ⟨i, hi, rfl⟩ := List.getElem_of_mem (List.mem_of_mem_tail hs)
      exact (ask_all h.2).1 i hi
  · exact absurd (show (5 : Int) = 0 from congrArg Prod.snd hD) (by decide)
set_option maxRecDepth 100000 in
set_option maxHeartbeats 4000000 in
theorem shapeof_impl (ba : Option Addr) (bn bc : Nat) (T : List TB) (hbn : T.length = bn) (hbM : bn ≤ 1048576) (hsmT : ∀ t, t ∈ T → Small t) (a : Option Addr) (cap : Nat) (L : List SV) (n : Nat) (hn : L.length = n) (w : World) (hT : TabsAt w ba T) (hL : SivsAt w a L) (hmild : ∀ i (hi : i < L.length), MildV L[i]) (hnM : n ≤ maxLen) (hcap : n ≤ cap) (A : Sen) (hS : SenAt w A) (D : List ByteArray) (k0 : Int) (hD : shapeR T L = (D, k0)) :
    Calls Tryz.prog 8 #[.slice ba bn bc, .slice a n cap] w (ShpOut w D k0) := by
  have E : Hid (Calls Tryz.prog 36 #[.slice ba bn bc, .slice a n cap] w (ColOut w A D k0)) := askcolumns_impl ba bn bc T hbn hbM hsmT a cap L n hn w hT hL hmild hnM hcap A hS D k0 hD
  have HS : Hid (SenAt w A) := hS
  have HZ : Hid (k0 ≠ 0 → D = []) := shapeR_none T L D k0 hD
  have HL : Hid (k0 = 0 → D.length ≤ 6) := by
    have : k0 = 0 → D.length ≤ 6 := fun hk => by subst hk; exact shapeR_len T L D hD
    exact this
  clear hT hL hbn hn hD hS hmild hsmT hnM hcap
  go_enter Tryz.func8, Tryz.ntmps8
  go_wp2_with fail
  refine E.out.mono ?_
  rintro e w1 ⟨a', n', c', v', rfl, hv, hkk, hx1⟩
  have HV : Hid (ErrV A k0 v') := hv
  have HKK : Hid (k0 = 0 → D.length = n' ∧ StrsAt w1 a' D ∧ (a' = none → c' = 0) ∧ n' ≤ c') := hkk
  clear hv hkk E
  go_wp2_with fail
  refine (shape_impl a' n' c' v' w1 A (HS.out.below hx1) D k0 HV.out HKK.out (fun h => by have := HL.out h; have := (HKK.out h).1; omega) HZ.out).mono ?_
  rintro e w2 ⟨g, n, c, hn, rfl, hnc, ho, hb2⟩
  have fin : Hid (ShpOut w D k0 (.returned (.tuple #[.slice (some ⟨g, 0, none⟩) n c, .int .i64 k0])) w2) := ⟨g, n, c, hn, rfl, hnc, own_lowS ho hx1.size, chain hx1 hb2⟩
  clear hn hnc ho hb2 HV HKK
  go_wp2
  go_ret2
  exact fin.out
end Go.Proofs.YtjiaciikbnpicaaGreatDoor
