/-
  A part of the proof: SvI1b, SvI2, Itm2, Open4, Tok2, TokN, SivOut, SivMark, TabsMark, ShOps, TabsLaw.
-/
import Derived.Test.YtegnekbbbfncgaaGreatDoorPart18
import Derived.Test.YtegnekbbbfncgaaGreatDoorPart15
import Derived.Test.YtegnekbbbfncgaaGreatDoorPart17
import Derived.Test.YtegnekbbbfncgaaGreatDoorPart8
import Derived.Test.YtegnekbbbfncgaaGreatDoorPart5
import Derived.Test.YtegnekbbbfncgaaGreatDoorPart13
import Derived.Test.YtegnekbbbfncgaaGreatDoorPart7
import Derived.Lib.SmallJoins
import Derived.Test.YtegnekbbbfncgaaGreatDoorPart6

/-
  The contract of the program's question whether a sieve is right.
-/
namespace Go.Proofs.YtegnekbbbfncgaaGreatDoor
open Go.ChangeShapes Go.WideShapes Go.ChangeAt Go.RowKit
attribute [local go_sem ↓] Go.wp_at_zero Go.wp_at_succ
attribute [local simp] World.cell?_alloc_past World.cell?_alloc_at World.frozen?_alloc_at cell_far cell_off cell_here World.frozen?_alloc_past

theorem wpList_unguardV {P : Program} {ops : Array Oper} {Q : Exit → Act → World → Prop} {a : Act} {w : World} {rest : List Oper} {d : Option Tmp} {op : Op} {ty : TypeId} {ps : String} {af : Array Edge} {g : Option (Nat × Bool)}
    (hw : Region.wanted { dst := d, op := op, type := ty, pos := ps, after := af, guard := g } (yielded ops a.tmps) = true)
    (h : wpList P ops Q ({ dst := d, op := op, type := ty, pos := ps, after := af, guard := none } :: rest) a w) : wpList P ops Q ({ dst := d, op := op, type := ty, pos := ps, after := af, guard := g } :: rest) a w := by
  unfold wpList at h ⊢
  rw [if_pos hw]
  rw [if_pos (by simp [Region.wanted])] at h
  exact h
set_option maxRecDepth 100000 in
set_option maxHeartbeats 4000000 in
theorem right_impl (k : Int) (nm : ByteArray) (na : Option Addr) (nn nc : Nat) (N : List ByteArray) (hnn : N.length = nn) (sa : Option Addr) (sn sc : Nat) (S : List TI) (hsn : S.length = sn) (dn : Bool) (ct sk : Int) (fw : ByteArray) (fn : Bool) (ff fm : Int) (fa : ByteArray) (fs fl : Bool) (fc : Int) (w : World) (hp : PowAt w) (he : ErrAt w) (hs : SivAt w na nc sa ⟨k, nm, N, S, dn, ct, sk⟩) (hmild : MildV ⟨k, nm, N, S, dn, ct, sk⟩) (b : Bool) (hb : rightF ⟨fw, fn, ff, fm, fa, fs, fl, fc⟩ ⟨k, nm, N, S, dn, ct, sk⟩ = b) :
    Calls Tryz.prog 132 #[.agg #[.slice sa sn sc, .string fw, .bool fn, .int .i64 ff, .int .i64 fm, .string fa, .bool fs, .bool fl, .int .i64 fc, .int .i64 k, .string nm, .slice na nn nc, .slice sa sn sc, .bool dn, .int .i64 ct, .int .i64 sk]] w fun e w' => e = .returned (.bool b) ∧ Below w.heap.size w w' := by
  have hnM : nn ≤ maxLen := by rw [← hnn]; exact hs.lenN
  have hsM : sn ≤ maxLen := by rw [← hsn]; exact hs.lenI
  have hcap : nn ≤ nc := by rw [← hnn]; exact hs.capN
  have hfitN : ∀ x ∈ N, x.size ≤ 1048576 := by
    intro x hx
    obtain ⟨j, hj, rfl⟩ := List.mem_iff_getElem.1 hx
    have h1 := weightS_take N j hj
    have h2 := weightS_le N (j + 1)
    have h3 : weightS N ≤ 1048576 := hmild.2.2.1
    omega
  have hfitI : FitI S := by
    intro x hx
    have h1 := oneI_le hx
    have h3 : weightItm S ≤ 1048576 := hmild.2.2.2.2
    unfold oneItm at h1
    unfold maxLen
    exact ⟨by omega, by omega⟩
  have hnm : nm.size ≤ 1048576 := hmild.1
  obtain ⟨r1, hr1⟩ : ∃ r, nameF ⟨fw, fn, ff, fm, fa, fs, fl, fc⟩ ⟨k, nm, N, S, dn, ct, sk⟩ = r := ⟨_, rfl⟩
  obtain ⟨r2, hr2⟩ : ∃ r, namesF ⟨fw, fn, ff, fm, fa, fs, fl, fc⟩ ⟨k, nm, N, S, dn, ct, sk⟩ = r := ⟨_, rfl⟩
  obtain ⟨r3, hr3⟩ : ∃ r, sumF ⟨fw, fn, ff, fm, fa, fs, fl, fc⟩ ⟨k, nm, N, S, dn, ct, sk⟩ = r := ⟨_, rfl⟩
  obtain ⟨r4, hr4⟩ : ∃ r, canF ⟨fw, fn, ff, fm, fa, fs, fl, fc⟩ ct = r := ⟨_, rfl⟩
  obtain ⟨r5, hr5⟩ : ∃ r, canF ⟨fw, fn, ff, fm, fa, fs, fl, fc⟩ sk = r := ⟨_, rfl⟩
  have C1 : Hid (∀ w', Below w.heap.size w w' → Calls Tryz.prog 195 #[.agg #[.slice sa sn sc, .string fw, .bool fn, .int .i64 ff, .int .i64 fm, .string fa, .bool fs, .bool fl, .int .i64 fc, .int .i64 k, .string nm, .slice na nn nc, .slice sa sn sc, .bool dn, .int .i64 ct, .int .i64 sk]] w' fun e w'' => e = .returned (.bool r1) ∧ Below w'.heap.size w' w'') :=
    fun w' hw => namer_impl k nm na nn nc N hnn sa sn sc S hsn dn ct sk fw fn ff fm fa fs fl fc w' (hp.below hw) (he.below hw) hnm r1 hr1
  have C2 : Hid (∀ w', Below w.heap.size w w' → Calls Tryz.prog 196 #[.agg #[.slice sa sn sc, .string fw, .bool fn, .int .i64 ff, .int .i64 fm, .string fa, .bool fs, .bool fl, .int .i64 fc, .int .i64 k, .string nm, .slice na nn nc, .slice sa sn sc, .bool dn, .int .i64 ct, .int .i64 sk]] w' fun e w'' => e = .returned (.bool r2) ∧ Below w'.heap.size w' w'') :=
    fun w' hw => namesr_impl k nm na nn nc N hnn sa sn sc S hsn dn ct sk fw fn ff fm fa fs fl fc w' (hp.below hw) (he.below hw) (hs.names.below hw) hfitN hnM hcap r2 hr2
  have C3 : Hid (∀ w', Below w.heap.size w w' → Calls Tryz.prog 197 #[.slice sa sn sc, .bool fs] w' fun e w'' => e = .returned (.bool r3) ∧ Below w'.heap.size w' w'') :=
    fun w' hw => sumfits_impl sa sn sc S hsn fs w' (hp.below hw) (he.below hw) (hs.sum.below hw) hfitI hsM r3 hr3
  have C4 : Hid (∀ w', Calls Tryz.prog 198 #[.agg #[.slice sa sn sc, .string fw, .bool fn, .int .i64 ff, .int .i64 fm, .string fa, .bool fs, .bool fl, .int .i64 fc, .int .i64 k, .string nm, .slice na nn nc, .slice sa sn sc, .bool dn, .int .i64 ct, .int .i64 sk], .int .i64 ct] w' fun e w'' => e = .returned (.bool r4) ∧ Below w'.heap.size w' w'') :=
    fun w' => can_impl k nm na nn nc N hnn sa sn sc S hsn dn ct sk fw fn ff fm fa fs fl fc ct w' r4 hr4
  have C5 : Hid (∀ w', Calls Tryz.prog 198 #[.agg #[.slice sa sn sc, .string fw, .bool fn, .int .i64 ff, .int .i64 fm, .string fa, .bool fs, .bool fl, .int .i64 fc, .int .i64 k, .string nm, .slice na nn nc, .slice sa sn sc, .bool dn, .int .i64 ct, .int .i64 sk], .int .i64 sk] w' fun e w'' => e = .returned (.bool r5) ∧ Below w'.heap.size w' w'') :=
    fun w' => can_impl k nm na nn nc N hnn sa sn sc S hsn dn ct sk fw fn ff fm fa fs fl fc sk w' r5 hr5
  obtain ⟨r0, hr0⟩ : ∃ r, decide (fw = ⟨#[]⟩) = r := ⟨_, rfl⟩
  have hv : (!r0 && (r1 && (r2 && (r3 && ((fl || !dn) && (r4 && r5)))))) = b := by
    rw [← hb]; unfold rightF; dsimp only; rw [hr0, hr1, hr2, hr3, hr4, hr5]
  have hz := zero_txt fw r0 hr0
  clear hb hr0 hr1 hr2 hr3 hr4 hr5 hnn hsn hp he hs hmild hnM hsM hcap hfitN hfitI hnm
  subst hv
  have hA : ∀ o o', Below w.heap.size w ((w.alloc o).alloc o') := fun o o' => ((Below.refl _ _).alloc (Nat.le_refl _) o).alloc (by simp) o'
  cases r0
  rotate_left
  · go_enter Tryz.func132, Tryz.ntmps132
    go_wp2
    go_ret
    exact ⟨rfl, hA _ _⟩
  have HG0 : Hid (((w.alloc (.cells #[.slice sa sn sc, .string fw, .bool fn, .int .i64 ff, .int .i64 fm, .string fa, .bool fs, .bool fl, .int .i64 fc, .int .i64 k, .string nm, .slice na nn nc, .slice sa sn sc, .bool dn, .int .i64 ct, .int .i64 sk] 165)).alloc (.cells #[.int .i64 k, .string nm, .slice na nn nc, .slice sa sn sc, .bool dn, .int .i64 ct, .int .i64 sk] 43)).heap[w.heap.size]? = some (.cells #[.slice sa sn sc, .string fw, .bool fn, .int .i64 ff, .int .i64 fm, .string fa, .bool fs, .bool fl, .int .i64 fc, .int .i64 k, .string nm, .slice na nn nc, .slice sa sn sc, .bool dn, .int .i64 ct, .int .i64 sk] 165)) := by
    have h : ((w.alloc (.cells #[.slice sa sn sc, .string fw, .bool fn, .int .i64 ff, .int .i64 fm, .string fa, .bool fs, .bool fl, .int .i64 fc, .int .i64 k, .string nm, .slice na nn nc, .slice sa sn sc, .bool dn, .int .i64 ct, .int .i64 sk] 165)).alloc (.cells #[.int .i64 k, .string nm, .slice na nn nc, .slice sa sn sc, .bool dn, .int .i64 ct, .int .i64 sk] 43)).heap[w.heap.size]? = some (.cells #[.slice sa sn sc, .string fw, .bool fn, .int .i64 ff, .int .i64 fm, .string fa, .bool fs, .bool fl, .int .i64 fc, .int .i64 k, .string nm, .slice na nn nc, .slice sa sn sc, .bool dn, .int .i64 ct, .int .i64 sk] 165) := by
      rw [_root_.Go.heap_alloc_old (h := by simp)]; exact _root_.Go.heap_alloc_new _ _
    exact h
  go_enter Tryz.func132, Tryz.ntmps132
  go_wp2_with (refine wpList_unguardV (by first | rfl | simp [Region.wanted, yielded]) ?_; refine wpList_load_row rfl 165 _ rfl w.heap.size rfl 165 _ _ _ HG0.out Tryz.underlying165 rfl (by kernel_rfl) ?_)
  refine (C1.out _ (hA _ _)).mono ?_
  rintro e w1 ⟨rfl, hb1⟩
  have hx := chain (hA _ _) hb1
  have hlt : w.heap.size < w1.heap.size := Nat.lt_of_lt_of_le (by simp; omega) hb1.size
  have p : Hid (w1.heap[w.heap.size]? = some (.cells #[.slice sa sn sc, .string fw, .bool fn, .int .i64 ff, .int .i64 fm, .string fa, .bool fs, .bool fl, .int .i64 fc, .int .i64 k, .string nm, .slice na nn nc, .slice sa sn sc, .bool dn, .int .i64 ct, .int .i64 sk] 165)) := (hb1.block _ (by simp; omega)).trans HG0.out
  have q := box7 hb1
  simp only [alloc_one] at q
  clear hb1 hA HG0

  cases r1
  · go_wp2
    go_ret
    exact ⟨rfl, hx⟩
  have p0 : w1.cell? ⟨w.heap.size, 0, none⟩ = some (.slice sa sn sc) := cell_of_row _ _ _ _ _ _ p.out
  have p6 : w1.cell? ⟨w.heap.size, 6, none⟩ = some (.bool fs) := cell_of_row _ _ _ _ _ _ p.out
  have p7 : w1.cell? ⟨w.heap.size, 7, none⟩ = some (.bool fl) := cell_of_row _ _ _ _ _ _ p.out
  obtain ⟨q0, q1, q2, q3, q4, q5, q6, q7⟩ := id q
  go_wp2_with (refine wpList_unguardV (by first | rfl | simp [Region.wanted, yielded]) ?_; refine wpList_load_row rfl 165 _ rfl w.heap.size rfl 165 _ _ _ p.out Tryz.underlying165 rfl (by kernel_rfl) ?_)
  refine (C2.out _ hx).mono ?_
  rintro e w2 ⟨rfl, hb1⟩
  replace p : Hid (_ = _) := (hb1.block _ hlt).trans p.out
  replace q := later7 hb1 q
  replace hx := chain hx hb1
  replace hlt := Nat.lt_of_lt_of_le hlt hb1.size
  clear hb1 p0 p6 p7 q0 q1 q2 q3 q4 q5 q6 q7
  cases r2
  · go_wp2
    go_ret
    exact ⟨rfl, hx⟩
  have p0 : w2.cell? ⟨w.heap.size, 0, none⟩ = some (.slice sa sn sc) := cell_of_row _ _ _ _ _ _ p.out
  have p6 : w2.cell? ⟨w.heap.size, 6, none⟩ = some (.bool fs) := cell_of_row _ _ _ _ _ _ p.out
  have p7 : w2.cell? ⟨w.heap.size, 7, none⟩ = some (.bool fl) := cell_of_row _ _ _ _ _ _ p.out
  obtain ⟨q0, q1, q2, q3, q4, q5, q6, q7⟩ := id q
  go_wp2_with (refine wpList_unguardV (by first | rfl | simp [Region.wanted, yielded]) ?_; refine wpList_load_row rfl 165 _ rfl w.heap.size rfl 165 _ _ _ p.out Tryz.underlying165 rfl (by kernel_rfl) ?_)
  refine (C3.out _ hx).mono ?_
  rintro e w3 ⟨rfl, hb1⟩
  replace p : Hid (_ = _) := (hb1.block _ hlt).trans p.out
  replace q := later7 hb1 q
  replace hx := chain hx hb1
  replace hlt := Nat.lt_of_lt_of_le hlt hb1.size
  clear hb1 p0 p6 p7 q0 q1 q2 q3 q4 q5 q6 q7
  cases r3
  · go_wp2
    go_ret
    exact ⟨rfl, hx⟩
  have p0 : w3.cell? ⟨w.heap.size, 0, none⟩ = some (.slice sa sn sc) := cell_of_row _ _ _ _ _ _ p.out
  have p6 : w3.cell? ⟨w.heap.size, 6, none⟩ = some (.bool fs) := cell_of_row _ _ _ _ _ _ p.out
  have p7 : w3.cell? ⟨w.heap.size, 7, none⟩ = some (.bool fl) := cell_of_row _ _ _ _ _ _ p.out
  obtain ⟨q0, q1, q2, q3, q4, q5, q6, q7⟩ := id q
  cases fl
  · cases dn
    · go_wp2_with (refine wpList_unguardV (by first | rfl | simp [Region.wanted, yielded]) ?_; refine wpList_load_row rfl 165 _ rfl w.heap.size rfl 165 _ _ _ p.out Tryz.underlying165 rfl (by kernel_rfl) ?_)
      refine (C4.out _).mono ?_
      rintro e w4 ⟨rfl, hb1⟩
      replace p : Hid (_ = _) := (hb1.block _ hlt).trans p.out
      replace q := later7 hb1 q
      replace hx := chain hx hb1
      replace hlt := Nat.lt_of_lt_of_le hlt hb1.size
      clear hb1 p0 p6 p7 q0 q1 q2 q3 q4 q5 q6 q7
      cases r4
      · go_wp2
        go_ret
        exact ⟨rfl, hx⟩
      obtain ⟨q0, q1, q2, q3, q4, q5, q6, q7⟩ := q
      go_wp2_with (refine wpList_unguardV (by first | rfl | simp [Region.wanted, yielded]) ?_; refine wpList_load_row rfl 165 _ rfl w.heap.size rfl 165 _ _ _ p.out Tryz.underlying165 rfl (by kernel_rfl) ?_)
      refine (C5.out _).mono ?_
      rintro e w5 ⟨rfl, hb1⟩
      replace hx := chain hx hb1
      go_wp2
      go_ret
      exact ⟨rfl, hx⟩
    · go_wp2
      go_ret
      exact ⟨rfl, hx⟩
  · go_wp2_with (refine wpList_unguardV (by first | rfl | simp [Region.wanted, yielded]) ?_; refine wpList_load_row rfl 165 _ rfl w.heap.size rfl 165 _ _ _ p.out Tryz.underlying165 rfl (by kernel_rfl) ?_)
    refine (C4.out _).mono ?_
    rintro e w4 ⟨rfl, hb1⟩
    replace p : Hid (_ = _) := (hb1.block _ hlt).trans p.out
    replace q := later7 hb1 q
    replace hx := chain hx hb1
    replace hlt := Nat.lt_of_lt_of_le hlt hb1.size
    clear hb1 p0 p6 p7 q0 q1 q2 q3 q4 q5 q6 q7
    cases r4
    · go_wp2
      go_ret
      exact ⟨rfl, hx⟩
    obtain ⟨q0, q1, q2, q3, q4, q5, q6, q7⟩ := q
    go_wp2_with (refine wpList_unguardV (by first | rfl | simp [Region.wanted, yielded]) ?_; refine wpList_load_row rfl 165 _ rfl w.heap.size rfl 165 _ _ _ p.out Tryz.underlying165 rfl (by kernel_rfl) ?_)
    refine (C5.out _).mono ?_
    rintro e w5 ⟨rfl, hb1⟩
    replace hx := chain hx hb1
    go_wp2
    go_ret
    exact ⟨rfl, hx⟩

set_option maxRecDepth 100000 in
set_option maxHeartbeats 2000000 in
theorem sieve_impl (k : Int) (nm : ByteArray) (na : Option Addr) (nn nc : Nat) (N : List ByteArray) (hnn : N.length = nn) (sa : Option Addr) (sn sc : Nat) (S : List TI) (hsn : S.length = sn) (dn : Bool) (ct sk : Int) (w : World) (hp : PowAt w) (he : ErrAt w) (hs : SivAt w na nc sa ⟨k, nm, N, S, dn, ct, sk⟩) (hmild : MildV ⟨k, nm, N, S, dn, ct, sk⟩) (b : Bool) (hb : sieveB ⟨k, nm, N, S, dn, ct, sk⟩ = b) :
    Calls Tryz.prog 69 #[.agg #[.int .i64 k, .string nm, .slice na nn nc, .slice sa sn sc, .bool dn, .int .i64 ct, .int .i64 sk]] w fun e w' => e = .returned (.bool b) ∧ Below w.heap.size w w' := by
  obtain ⟨fw, fn, ff, fm, fa, fs, fl, fc, hf⟩ : ∃ fw fn ff fm fa fs fl fc, formF k = FS.mk fw fn ff fm fa fs fl fc := ⟨_, _, _, _, _, _, _, _, rfl⟩
  have hr : rightF (FS.mk fw fn ff fm fa fs fl fc) ⟨k, nm, N, S, dn, ct, sk⟩ = b := by rw [← hf, ← hb]; exact right_form ⟨k, nm, N, S, dn, ct, sk⟩
  have R : Hid (∀ w', Below w.heap.size w w' → Calls Tryz.prog 132 #[.agg #[.slice sa sn sc, .string fw, .bool fn, .int .i64 ff, .int .i64 fm, .string fa, .bool fs, .bool fl, .int .i64 fc, .int .i64 k, .string nm, .slice na nn nc, .slice sa sn sc, .bool dn, .int .i64 ct, .int .i64 sk]] w' fun e w'' => e = .returned (.bool b) ∧ Below w'.heap.size w' w'') :=
    fun w' hw => right_impl k nm na nn nc N hnn sa sn sc S hsn dn ct sk fw fn ff fm fa fs fl fc w' (hp.below hw) (he.below hw) (hs.below hw) hmild b hr
  have HF : Hid (formF k = FS.mk fw fn ff fm fa fs fl fc) := hf
  clear hf hr hp he hs hmild hb hnn hsn
  have hA : ∀ o, Below w.heap.size w (w.alloc o) := fun o => (Below.refl _ _).alloc (Nat.le_refl _) o
  go_enter Tryz.func69, Tryz.ntmps69
  go_wp2_with fail
  refine (formed_impl k nm na nn nc sa sn sc dn ct sk fw fn ff fm fa fs fl fc HF.out _).mono ?_
  rintro e w1 ⟨rfl, hb1⟩
  have hx := chain (hA _) hb1
  clear hb1
  go_wp2_with fail
  refine (R.out _ (by first | exact hx | exact hx.trans (by go_grown))).mono ?_
  rintro e w2 ⟨rfl, hb2⟩
  go_wp2
  go_ret
  exact ⟨rfl, by first | exact chain hx hb2 | exact chain (hx.trans (by go_grown)) hb2⟩
end Go.Proofs.YtegnekbbbfncgaaGreatDoor

/-
  The contract of the program's AskOk.
-/
namespace Go.Proofs.YtegnekbbbfncgaaGreatDoor
open Go.ChangeShapes Go.WideShapes Go.ChangeAt Go.RowKit
attribute [local go_sem ↓] Go.wp_at_zero Go.wp_at_succ
attribute [local simp] World.cell?_alloc_past World.cell?_alloc_at World.frozen?_alloc_at cell_far cell_off cell_here World.frozen?_alloc_past

end Go.Proofs.YtegnekbbbfncgaaGreatDoor

/-
  The contracts of the law's helpers that mark the Items of a list, one number behind the other, and that look whether the marks are still there.
-/
namespace Go.Proofs.YtegnekbbbfncgaaGreatDoor
open Go.ChangeShapes Go.WideShapes Go.ChangeAt Go.RowKit
attribute [local go_sem ↓] Go.wp_at_zero Go.wp_at_succ

/-- The i-th mark from k on. -/
def mark1Itm (k i : Nat) : TI := (((k + 5 * i : Nat) : Int), (((k + 5 * i + 1 : Nat) : Int), ((k + 5 * i + 2 : Nat) : Int), mt (k + 5 * i + 3)), mt (k + 5 * i + 4))
def marksItm (k n : Nat) : List TI := (List.range n).map (mark1Itm k)
theorem marksItm_length (k n : Nat) : (marksItm k n).length = n := by simp [marksItm]
/-- The cells of a slice may be written. -/
def FreeItm (w : World) (a : Option Addr) (n : Nat) : Prop := ∀ b o, a = some ⟨b, o, none⟩ → ∀ j, j < n * 5 → w.frozen? ⟨b, o + j, none⟩ = false
theorem ItmAt.keepS {P : Nat → Prop} {w w' : World} {a : Option Addr} {l : List TI} (h : ItmAt w a l) (hk : KeepS P w w') (hP : ∀ b, inBlk a l.length b → ¬ P b) : ItmAt w' a l := by
  intro j hj
  obtain ⟨b, o, ha, hlt, c0, c1, c2, c3, c4⟩ := h j hj
  have hn := hP b ⟨by omega, o, ha⟩
  refine ⟨b, o, ha, Nat.lt_of_lt_of_le hlt hk.size, ?_, ?_, ?_, ?_, ?_⟩
  · rw [hk.cell hlt hn]; exact c0
  · rw [hk.cell hlt hn]; exact c1
  · rw [hk.cell hlt hn]; exact c2
  · rw [hk.cell hlt hn]; exact c3
  · rw [hk.cell hlt hn]; exact c4

end Go.Proofs.YtegnekbbbfncgaaGreatDoor

/-
  A law's argument that is a slice of tokens, opened: which list of tokens it is, and where they lie.
-/
namespace Go.Proofs.YtegnekbbbfncgaaGreatDoor
open Go.ChangeShapes Go.WideShapes Go.ChangeAt Go.RowKit Go.Deep

end Go.Proofs.YtegnekbbbfncgaaGreatDoor

/-
  The contracts of the law's helpers that mark the Tokens of a list, one number behind the other, and that look whether the marks are still there.
-/
namespace Go.Proofs.YtegnekbbbfncgaaGreatDoor
open Go.ChangeShapes Go.WideShapes Go.ChangeAt Go.RowKit
attribute [local go_sem ↓] Go.wp_at_zero Go.wp_at_succ

theorem TokAt.keepS {P : Nat → Prop} {w w' : World} {a : Option Addr} {l : List TT} (h : TokAt w a l) (hk : KeepS P w w') (hP : ∀ b, inBlk a l.length b → ¬ P b) : TokAt w' a l := by
  intro j hj
  obtain ⟨b, o, ha, hlt, c0, c1, c2, c3, c4⟩ := h j hj
  have hn := hP b ⟨by omega, o, ha⟩
  refine ⟨b, o, ha, Nat.lt_of_lt_of_le hlt hk.size, ?_, ?_, ?_, ?_, ?_⟩
  · rw [hk.cell hlt hn]; exact c0
  · rw [hk.cell hlt hn]; exact c1
  · rw [hk.cell hlt hn]; exact c2
  · rw [hk.cell hlt hn]; exact c3
  · rw [hk.cell hlt hn]; exact c4

end Go.Proofs.YtegnekbbbfncgaaGreatDoor

/-
  What the laws ask of lists of tokens, with their lengths as letters; what an exact law asks of an answer of items.
-/
namespace Go.Proofs.YtegnekbbbfncgaaGreatDoor
open Go.ChangeShapes Go.WideShapes Go.ChangeAt Go.RowKit

theorem own_freeItm {w : World} {base g c n : Nat} {e : TypeId} {xs : List Value} (h : w.ownsRow base e 5 (.slice (some ⟨g, 0, none⟩) n c) n xs) : FreeItm w (some ⟨g, 0, none⟩) n := by
  intro b o e j _
  simp only [Option.some.injEq, Addr.mk.injEq, and_true] at e
  obtain ⟨rfl, rfl⟩ := e
  rw [Nat.zero_add]; exact h.frozenAt j
end Go.Proofs.YtegnekbbbfncgaaGreatDoor

/-
  Lists of sieves in memory of their own: no two lists of them share any; taken over so by the law's helper.
-/
namespace Go.Proofs.YtegnekbbbfncgaaGreatDoor
open Go.ChangeShapes Go.WideShapes Go.ChangeAt Go.RowKit
attribute [local go_sem ↓] Go.wp_at_zero Go.wp_at_succ
attribute [local simp] World.cell?_alloc_past World.cell?_alloc_at World.frozen?_alloc_at cell_far cell_off cell_here World.frozen?_alloc_past

/-- Where the lists of a sieve lie. -/
structure VAd where
  na : Option Addr
  nc : Nat
  sa : Option Addr
  sc : Nat
def VAd.blks (q : VAd) (s : SV) (b : Nat) : Prop := inBlk q.na s.names.length b ∨ inBlk q.sa s.sum.length b
/-- The two lists of a sieve lie in memory of their own. -/
structure OutV (w : World) (base : Nat) (q : VAd) (s : SV) : Prop where
  siv : SivAt w q.na q.nc q.sa s
  freeN : FreeS w q.na s.names.length
  freeI : FreeItm w q.sa s.sum.length
  ap : ∀ b, inBlk q.na s.names.length b → ¬ inBlk q.sa s.sum.length b
  lo : ∀ b, q.blks s b → base ≤ b
theorem OutV.lt {w : World} {base : Nat} {q : VAd} {s : SV} (h : OutV w base q s) (b : Nat) (hb : q.blks s b) : b < w.heap.size := by
  rcases hb with ⟨h0, o, e⟩ | ⟨h0, o, e⟩
  · obtain ⟨b', o', e', hlt, _⟩ := h.siv.names 0 h0
    rw [e] at e'; cases e'; exact hlt
  · obtain ⟨b', o', e', hlt, _⟩ := h.siv.sum 0 h0
    rw [e] at e'; cases e'; exact hlt
theorem OutV.keepS {P : Nat → Prop} {w w' : World} {base : Nat} {q : VAd} {s : SV} (h : OutV w base q s) (hk : KeepS P w w') (hP : ∀ b, q.blks s b → ¬ P b) : OutV w' base q s := by
  refine ⟨⟨h.siv.names.keepS hk (fun b hb => hP b (.inl hb)), h.siv.fitN, h.siv.lenN, h.siv.capN, h.siv.nilN, h.siv.sum.keepS hk (fun b hb => hP b (.inr hb)), h.siv.fitI, h.siv.lenI, h.siv.name⟩, ?_, ?_, h.ap, h.lo⟩
  · intro b o e j hj
    have hb : q.blks s b := .inl ⟨by omega, o, e⟩
    rw [hk.frozen (h.lt b hb) (hP b hb)]
    exact h.freeN b o e j hj
  · intro b o e j hj
    have hb : q.blks s b := .inr ⟨by omega, o, e⟩
    rw [hk.frozen (h.lt b hb) (hP b hb)]
    exact h.freeI b o e j hj
theorem OutV.below {w w' : World} {base : Nat} {q : VAd} {s : SV} (h : OutV w base q s) (hb : Below w.heap.size w w') : OutV w' base q s :=
  h.keepS (KeepS.ofBelow (P := fun _ => False) hb) (fun _ _ h => h)
/-- The seven cells of a sieve. -/
def Cells7 (w : World) (g p : Nat) (s : SV) (q : VAd) : Prop :=
  w.cell? ⟨g, p, none⟩ = some (.int .i64 s.kind) ∧ w.cell? ⟨g, p + 1, none⟩ = some (.string s.name) ∧ w.cell? ⟨g, p + 2, none⟩ = some (.slice q.na s.names.length q.nc) ∧ w.cell? ⟨g, p + 3, none⟩ = some (.slice q.sa s.sum.length q.sc) ∧ w.cell? ⟨g, p + 4, none⟩ = some (.bool s.down) ∧ w.cell? ⟨g, p + 5, none⟩ = some (.int .i64 s.count) ∧ w.cell? ⟨g, p + 6, none⟩ = some (.int .i64 s.skip)
theorem Cells7.same {w w' : World} {g p : Nat} {s : SV} {q : VAd} (h : Cells7 w g p s q) (hc : ∀ j, j < 7 → w'.cell? ⟨g, p + j, none⟩ = w.cell? ⟨g, p + j, none⟩) : Cells7 w' g p s q := by
  obtain ⟨h0, h1, h2, h3, h4, h5, h6⟩ := h
  have c0 := hc 0 (by omega)
  rw [Nat.add_zero] at c0
  exact ⟨c0.trans h0, (hc 1 (by omega)).trans h1, (hc 2 (by omega)).trans h2, (hc 3 (by omega)).trans h3, (hc 4 (by omega)).trans h4, (hc 5 (by omega)).trans h5, (hc 6 (by omega)).trans h6⟩
def HeadsV (w : World) (a : Option Addr) (T : List SV) (Q : Nat → VAd) (m : Nat) : Prop :=
  ∀ i (h : i < T.length), i < m → ∃ g o, a = some ⟨g, o, none⟩ ∧ g < w.heap.size ∧ Cells7 w g (o + i * 7) T[i] (Q i) ∧ ∀ j, j < 7 → w.frozen? ⟨g, o + i * 7 + j, none⟩ = false
theorem HeadsV.keepS {P : Nat → Prop} {w w' : World} {a : Option Addr} {T : List SV} {Q : Nat → VAd} {m : Nat} (h : HeadsV w a T Q m) (hk : KeepS P w w') (hP : ∀ g o, 0 < m → a = some ⟨g, o, none⟩ → ¬ P g) : HeadsV w' a T Q m := by
  intro i hi hm
  obtain ⟨g, o, ha, hlt, c, f⟩ := h i hi hm
  have := hP g o (by omega) ha
  exact ⟨g, o, ha, Nat.lt_of_lt_of_le hlt hk.size, c.same (fun j _ => hk.cell hlt this), fun j hj => by rw [hk.frozen hlt this]; exact f j hj⟩
/-- The sieves up to the m-th lie in memory of their own, each apart from all others and from the heads. -/
structure OutW (w : World) (base : Nat) (a : Option Addr) (T : List SV) (Q : Nat → VAd) (m : Nat) : Prop where
  heads : HeadsV w a T Q m
  sivs : ∀ i (_ : i < T.length), i < m → OutV w base (Q i) T[i]
  apart : ∀ i j (_ : i < T.length) (_ : j < T.length) b, i < m → j < m → i ≠ j → (Q i).blks T[i] b → ¬ (Q j).blks T[j] b
  head : ∀ i (_ : i < T.length) g o, i < m → a = some ⟨g, o, none⟩ → ¬ (Q i).blks T[i] g
  lo : ∀ g o, 0 < m → a = some ⟨g, o, none⟩ → base ≤ g
abbrev OutVs (w : World) (base : Nat) (a : Option Addr) (T : List SV) (Q : Nat → VAd) : Prop := OutW w base a T Q T.length
/-- All their blocks. -/
def sivsBlks (a : Option Addr) (T : List SV) (Q : Nat → VAd) (b : Nat) : Prop := (0 < T.length ∧ ∃ o, a = some ⟨b, o, none⟩) ∨ ∃ i, ∃ h : i < T.length, (Q i).blks T[i] b
theorem OutW.lies {w : World} {base : Nat} {a : Option Addr} {T : List SV} {Q : Nat → VAd} (h : OutVs w base a T Q) : SivsAt w a T := by
  intro i hi
  obtain ⟨g, o, ha, hlt, c, _⟩ := h.heads i hi hi
  exact ⟨g, o, _, _, _, _, ha, hlt, c, (h.sivs i hi hi).siv⟩
theorem OutW.keepS {P : Nat → Prop} {w w' : World} {base : Nat} {a : Option Addr} {T : List SV} {Q : Nat → VAd} {m : Nat} (h : OutW w base a T Q m) (hk : KeepS P w w') (hH : ∀ g o, 0 < m → a = some ⟨g, o, none⟩ → ¬ P g) (hP : ∀ i (hi : i < T.length) b, i < m → (Q i).blks T[i] b → ¬ P b) : OutW w' base a T Q m :=
  ⟨h.heads.keepS hk hH, fun i hi hm => (h.sivs i hi hm).keepS hk (fun b hb => hP i hi b hm hb), h.apart, h.head, h.lo⟩
theorem OutW.below {w w' : World} {base : Nat} {a : Option Addr} {T : List SV} {Q : Nat → VAd} {m : Nat} (h : OutW w base a T Q m) (hb : Below w.heap.size w w') : OutW w' base a T Q m :=
  h.keepS (KeepS.ofBelow (P := fun _ => False) hb) (fun _ _ _ _ h => h) (fun _ _ _ _ _ h => h)
theorem NewSiv.out {w : World} {base g g2 : Nat} {s : SV} (h : NewSiv w base g g2 s) (hf : FitS s.names) (hn : s.name.size ≤ maxLen) (hc : s.names.length ≤ maxLen) (hi : FitItm s.sum) (hr : s.sum.length ≤ maxLen) :
    OutV w base ⟨some ⟨g, 0, none⟩, s.names.length, some ⟨g2, 0, none⟩, s.sum.length⟩ s := by
  have ha := h.apart
  have hl := h.lo
  refine ⟨h.lies hf hn hc hi hr, ?_, own_freeItm h.sum, ?_, ?_⟩
  · intro b o e j hj
    cases e
    exact h.names.frozenAt _
  · rintro b ⟨_, o, e⟩ ⟨_, o', e'⟩
    cases e; cases e'
    omega
  · rintro b (⟨_, o, e⟩ | ⟨_, o, e⟩) <;> (cases e; omega)
/-- The first m sieves are taken over into block g, all lists apart. -/
structure TakW (w : World) (g : Nat) (T : List SV) (Q : Nat → VAd) (m : Nat) : Prop where
  lt : g < w.heap.size
  there : ∀ q, q < T.length * 7 → ∃ u, w.cell? ⟨g, q, none⟩ = some u
  free : ∀ q, w.frozen? ⟨g, q, none⟩ = false
  out : OutW w g (some ⟨g, 0, none⟩) T Q m
  above : ∀ i (_ : i < T.length) b, i < m → (Q i).blks T[i] b → g < b
theorem TakW.below {w w' : World} {g : Nat} {T : List SV} {Q : Nat → VAd} {m : Nat} (h : TakW w g T Q m) (hb : Below w.heap.size w w') : TakW w' g T Q m where
  lt := Nat.lt_of_lt_of_le h.lt hb.size
  there q hq := by obtain ⟨u, hu⟩ := h.there q hq; exact ⟨u, by rw [hb.cell (p := ⟨g, q, none⟩) h.lt]; exact hu⟩
  free q := by rw [hb.frozen (p := ⟨g, q, none⟩) h.lt]; exact h.free q
  out := h.out.below hb
  above := h.above
end Go.Proofs.YtegnekbbbfncgaaGreatDoor

/-
  Lists of sieves, marked: the contracts of the law's helpers that mark them, and that look whether the marks are still there.
-/
namespace Go.Proofs.YtegnekbbbfncgaaGreatDoor
open Go.ChangeShapes Go.WideShapes Go.ChangeAt Go.RowKit
attribute [local go_sem ↓] Go.wp_at_zero Go.wp_at_succ
attribute [local simp] World.cell?_alloc_past World.cell?_alloc_at World.frozen?_alloc_at cell_far cell_off cell_here World.frozen?_alloc_past

/-- How many marks a sieve takes. -/
def sivN (s : SV) : Nat := 5 + s.names.length + 5 * s.sum.length
/-- How many lie ahead of the i-th sieve. -/
def offV (T : List SV) (i : Nat) : Nat := ((T.take i).map sivN).sum
def thirdB (x : Nat) : Bool := x % 3 == 0
/-- The seven cells of a sieve that is marked from k on. -/
def Marks7 (w : World) (g p : Nat) (s : SV) (q : VAd) (k : Nat) : Prop :=
  w.cell? ⟨g, p, none⟩ = some (.int .i64 (k : Int)) ∧ w.cell? ⟨g, p + 1, none⟩ = some (.string (mt (k + 1))) ∧ w.cell? ⟨g, p + 2, none⟩ = some (.slice q.na s.names.length q.nc) ∧ w.cell? ⟨g, p + 3, none⟩ = some (.slice q.sa s.sum.length q.sc) ∧ w.cell? ⟨g, p + 4, none⟩ = some (.bool (thirdB (k + 2 + s.names.length + 5 * s.sum.length))) ∧ w.cell? ⟨g, p + 5, none⟩ = some (.int .i64 ((k + 3 + s.names.length + 5 * s.sum.length : Nat) : Int)) ∧ w.cell? ⟨g, p + 6, none⟩ = some (.int .i64 ((k + 4 + s.names.length + 5 * s.sum.length : Nat) : Int))
theorem Marks7.same {w w' : World} {g p : Nat} {s : SV} {q : VAd} {k : Nat} (h : Marks7 w g p s q k) (hc : ∀ j, j < 7 → w'.cell? ⟨g, p + j, none⟩ = w.cell? ⟨g, p + j, none⟩) : Marks7 w' g p s q k := by
  obtain ⟨h0, h1, h2, h3, h4, h5, h6⟩ := h
  have c0 := hc 0 (by omega)
  rw [Nat.add_zero] at c0
  exact ⟨c0.trans h0, (hc 1 (by omega)).trans h1, (hc 2 (by omega)).trans h2, (hc 3 (by omega)).trans h3, (hc 4 (by omega)).trans h4, (hc 5 (by omega)).trans h5, (hc 6 (by omega)).trans h6⟩
/-- The lists of a sieve that is marked from k on. -/
def MarkedV (w : World) (q : VAd) (s : SV) (k : Nat) : Prop := StrsAt w q.na (marksS (k + 2) s.names.length) ∧ ItmAt w q.sa (marksItm (k + 2 + s.names.length) s.sum.length)
theorem MarkedV.keepS {P : Nat → Prop} {w w' : World} {q : VAd} {s : SV} {k : Nat} (h : MarkedV w q s k) (hk : KeepS P w w') (hP : ∀ b, q.blks s b → ¬ P b) : MarkedV w' q s k :=
  ⟨h.1.keepS hk (fun b hb => hP b (.inl (by rw [marksS_length] at hb; exact hb))), h.2.keepS hk (fun b hb => hP b (.inr (by rw [marksItm_length] at hb; exact hb)))⟩
/-- The sieves are marked up to the m-th; the others are as they were. -/
structure MVs (w : World) (base : Nat) (a : Option Addr) (T : List SV) (Q : Nat → VAd) (k m : Nat) : Prop where
  heads : ∀ i (_ : i < T.length), ∃ g o, a = some ⟨g, o, none⟩ ∧ g < w.heap.size ∧ (i < m → Marks7 w g (o + i * 7) T[i] (Q i) (k + offV T i)) ∧ (m ≤ i → Cells7 w g (o + i * 7) T[i] (Q i)) ∧ ∀ j, j < 7 → w.frozen? ⟨g, o + i * 7 + j, none⟩ = false
  marked : ∀ i (_ : i < T.length), i < m → MarkedV w (Q i) T[i] (k + offV T i)
  rest : ∀ i (_ : i < T.length), m ≤ i → OutV w base (Q i) T[i]
theorem MVs.keepS {P : Nat → Prop} {w w' : World} {base : Nat} {a : Option Addr} {T : List SV} {Q : Nat → VAd} {k : Nat} (h : MVs w base a T Q k T.length) (hk : KeepS P w w') (hP : ∀ b, sivsBlks a T Q b → ¬ P b) : MVs w' base a T Q k T.length := by
  refine ⟨fun i hi => ?_, fun i hi hm => (h.marked i hi hm).keepS hk (fun b hb => hP b (.inr ⟨i, hi, hb⟩)), fun i hi hm => by omega⟩
  obtain ⟨g, o, ha, hlt, c, c', f⟩ := h.heads i hi
  have hn := hP g (.inl ⟨by omega, o, ha⟩)
  exact ⟨g, o, ha, Nat.lt_of_lt_of_le hlt hk.size, fun hm => (c hm).same (fun j _ => hk.cell hlt hn), fun hm => by omega, fun j hj => by rw [hk.frozen hlt hn]; exact f j hj⟩
theorem MVs.below {w w' : World} {base : Nat} {a : Option Addr} {T : List SV} {Q : Nat → VAd} {k : Nat} (h : MVs w base a T Q k T.length) (hb : Below w.heap.size w w') : MVs w' base a T Q k T.length :=
  h.keepS (KeepS.ofBelow (P := fun _ => False) hb) (fun _ _ h => h)
end Go.Proofs.YtegnekbbbfncgaaGreatDoor

/-
  Lists of tables, marked: the contracts of the law's helpers that mark them, and that look whether the marks are still there.
-/
namespace Go.Proofs.YtegnekbbbfncgaaGreatDoor
open Go.ChangeShapes Go.WideShapes Go.ChangeAt Go.RowKit
attribute [local go_sem ↓] Go.wp_at_zero Go.wp_at_succ
attribute [local simp] World.cell?_alloc_past World.cell?_alloc_at World.frozen?_alloc_at cell_far cell_off cell_here World.frozen?_alloc_past

/-- How many marks a table takes, its name's among them. -/
def tabN (t : TB) : Nat := 1 + t.2.1.length + 3 * offs t.2.2 t.2.2.length
/-- How many lie ahead of the i-th table. -/
def offT (T : List TB) (i : Nat) : Nat := ((T.take i).map tabN).sum
/-- The tables are marked up to the m-th; the others are as they were. -/
structure MTs (w : World) (base : Nat) (a : Option Addr) (T : List TB) (Q : Nat → TAd) (k m : Nat) : Prop where
  heads : ∀ i (_ : i < T.length), ∃ g o, a = some ⟨g, o, none⟩ ∧ g < w.heap.size ∧ (i < m → w.cell? ⟨g, o + i * 3, none⟩ = some (.string (mt (k + offT T i)))) ∧ (m ≤ i → w.cell? ⟨g, o + i * 3, none⟩ = some (.string T[i].1)) ∧ w.cell? ⟨g, o + i * 3 + 1, none⟩ = some (.slice (Q i).ca T[i].2.1.length (Q i).cc) ∧ w.cell? ⟨g, o + i * 3 + 2, none⟩ = some (.slice (Q i).ra T[i].2.2.length (Q i).cr) ∧ w.frozen? ⟨g, o + i * 3, none⟩ = false
  marked : ∀ i (_ : i < T.length), i < m → MarkedT w (Q i).ca (Q i).ra T[i] (Q i).A (Q i).C (k + offT T i + 1)
  rest : ∀ i (_ : i < T.length), m ≤ i → OutT w base (Q i) T[i]
theorem MTs.keepS {P : Nat → Prop} {w w' : World} {base : Nat} {a : Option Addr} {T : List TB} {Q : Nat → TAd} {k : Nat} (h : MTs w base a T Q k T.length) (hk : KeepS P w w') (hP : ∀ b, tabsBlks a T Q b → ¬ P b) : MTs w' base a T Q k T.length := by
  refine ⟨fun i hi => ?_, fun i hi hm => (h.marked i hi hm).keepS hk (fun b hb => hP b (.inr ⟨i, hi, hb⟩)), fun i hi hm => by omega⟩
  obtain ⟨g, o, ha, hlt, c0, c0', c1, c2, f0⟩ := h.heads i hi
  have hn := hP g (.inl ⟨by omega, o, ha⟩)
  exact ⟨g, o, ha, Nat.lt_of_lt_of_le hlt hk.size, fun hm => by rw [hk.cell hlt hn]; exact c0 hm, fun hm => by omega, by rw [hk.cell hlt hn]; exact c1, by rw [hk.cell hlt hn]; exact c2, by rw [hk.frozen hlt hn]; exact f0⟩
theorem MTs.below {w w' : World} {base : Nat} {a : Option Addr} {T : List TB} {Q : Nat → TAd} {k : Nat} (h : MTs w base a T Q k T.length) (hb : Below w.heap.size w w') : MTs w' base a T Q k T.length :=
  h.keepS (KeepS.ofBelow (P := fun _ => False) hb) (fun _ _ h => h)
end Go.Proofs.YtegnekbbbfncgaaGreatDoor

/-
  What becomes of a base, without any program: with a table more, without one, with another one in its place.
-/
namespace Go.Proofs.YtegnekbbbfncgaaGreatDoor
open Go.ChangeShapes Go.WideShapes Go.ChangeAt Go.RowKit Go.Maps

end Go.Proofs.YtegnekbbbfncgaaGreatDoor

/-
  What the laws of the base want: how many marks there are, and what stays where marks are put.
-/
namespace Go.Proofs.YtegnekbbbfncgaaGreatDoor
open Go.ChangeShapes Go.WideShapes Go.ChangeAt Go.RowKit

end Go.Proofs.YtegnekbbbfncgaaGreatDoor
