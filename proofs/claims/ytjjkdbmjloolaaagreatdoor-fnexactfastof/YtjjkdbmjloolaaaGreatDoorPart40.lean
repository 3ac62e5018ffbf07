/-
  A part of the proof: SvI1b, SvI2, ShpI4.
-/
import Derived.Test.YtjjkdbmjloolaaaGreatDoorPart1
import Derived.Test.YtjjkdbmjloolaaaGreatDoorPart39
import Derived.Test.YtjjkdbmjloolaaaGreatDoorPart33
import Derived.Test.YtjjkdbmjloolaaaGreatDoorPart38
import Derived.Test.YtjjkdbmjloolaaaGreatDoorPart34

namespace Go.Proofs.YtjjkdbmjloolaaaGreatDoor
open Go.ChangeShapes Go.WideShapes Go.ChangeAt Go.RowKit
attribute [local go_sem ↓] Go.wp_at_zero Go.wp_at_succ
attribute [local simp] World.cell?_alloc_past World.cell?_alloc_at World.frozen?_alloc_at cell_far cell_off cell_here World.frozen?_alloc_past
theorem wpList_unguardV {P : Program} {ops : Array Oper} {Q : Exit → Act → World → Prop} {a : Act} {w : World} {rest : List Oper} {d : Option Tmp} {op : Op} {ty : TypeId} {ps : String} {af : Array Edge} {g : Option (Nat × Bool)}
  (hw : Region.wanted { dst := d, op := op, type := ty, pos := ps, after := af, guard := g } (yielded ops a.tmps) = true)
  (h : wpList P ops Q ({ dst := d, op := op, type := ty, pos := ps, after := af, guard := none } :: rest) a w) : wpList P ops Q ({ dst := d, op := op, type := ty, pos := ps, after := af, guard := g } :: rest) a w := by
 unfold wpList at h ⊢
 rw [if_pos hw]
 rw [if_pos (by simp [Region.wanted])] at h
 exact h
set_option maxRecDepth 100000 in
set_option maxHeartbeats 4000000 in
theorem right_impl (k : Int) (nm : ByteArray) (na : Option Addr) (nn nc : Nat) (N : List ByteArray) (hnn : N.length = nn) (sa : Option Addr) (sn sc : Nat) (S : List TI) (hsn : S.length = sn) (dn : Bool) (ct sk : Int) (fw : ByteArray) (fn : Bool) (ff fm : Int) (fa : ByteArray) (fs fl : Bool) (fc : Int) (w : World) (hp : PowAt w) (he : ErrAt w) (hs : SivAt w na nc sa ⟨k, nm, N, S, dn, ct, sk⟩) (hmild : MildV ⟨k, nm, N, S, dn, ct, sk⟩) (b : Bool) (hb : rightF ⟨fw, fn, ff, fm, fa, fs, fl, fc⟩ ⟨k, nm, N, S, dn, ct, sk⟩ = b) :
  Calls Tryz.prog 79 #[.agg #[.slice sa sn sc, .string fw, .bool fn, .int .i64 ff, .int .i64 fm, .string fa, .bool fs, .bool fl, .int .i64 fc, .int .i64 k, .string nm, .slice na nn nc, .slice sa sn sc, .bool dn, .int .i64 ct, .int .i64 sk]] w fun e w' => e = .returned (.bool b) ∧ Below w.heap.size w w' := by
 have hnM : nn ≤ maxLen := by rw [← hnn]; exact hs.lenN
 have hsM : sn ≤ maxLen := by rw [← hsn]; exact hs.lenI
 have hcap : nn ≤ nc := by rw [← hnn]; exact hs.capN
 have hfitN : ∀ x ∈ N, x.size ≤ 1048576 := by
  intro x hx
  obtain ⟨j, hj, rfl⟩ := List.mem_iff_getElem.1 hx
  have h1 := weightS_take N j hj
  have h2 := weightS_le N (j + 1)
  have h3 : weightS N ≤ 1048576 := hmild.2.2.1
  omega
 have hfitI : FitI S := by
  intro x hx
  have h1 := oneI_le hx
  have h3 : weightItm S ≤ 1048576 := hmild.2.2.2.2
  unfold oneItm at h1
  unfold maxLen
  exact ⟨by omega, by omega⟩
 have hnm : nm.size ≤ 1048576 := hmild.1
 obtain ⟨r1, hr1⟩ : ∃ r, nameF ⟨fw, fn, ff, fm, fa, fs, fl, fc⟩ ⟨k, nm, N, S, dn, ct, sk⟩ = r := ⟨_, rfl⟩
 obtain ⟨r2, hr2⟩ : ∃ r, namesF ⟨fw, fn, ff, fm, fa, fs, fl, fc⟩ ⟨k, nm, N, S, dn, ct, sk⟩ = r := ⟨_, rfl⟩
 obtain ⟨r3, hr3⟩ : ∃ r, sumF ⟨fw, fn, ff, fm, fa, fs, fl, fc⟩ ⟨k, nm, N, S, dn, ct, sk⟩ = r := ⟨_, rfl⟩
 obtain ⟨r4, hr4⟩ : ∃ r, canF ⟨fw, fn, ff, fm, fa, fs, fl, fc⟩ ct = r := ⟨_, rfl⟩
 obtain ⟨r5, hr5⟩ : ∃ r, canF ⟨fw, fn, ff, fm, fa, fs, fl, fc⟩ sk = r := ⟨_, rfl⟩
 have C1 : Hid (∀ w', Below w.heap.size w w' → Calls Tryz.prog 99 #[.agg #[.slice sa sn sc, .string fw, .bool fn, .int .i64 ff, .int .i64 fm, .string fa, .bool fs, .bool fl, .int .i64 fc, .int .i64 k, .string nm, .slice na nn nc, .slice sa sn sc, .bool dn, .int .i64 ct, .int .i64 sk]] w' fun e w'' => e = .returned (.bool r1) ∧ Below w'.heap.size w' w'') :=
  fun w' hw => namer_impl k nm na nn nc N hnn sa sn sc S hsn dn ct sk fw fn ff fm fa fs fl fc w' (hp.below hw) (he.below hw) hnm r1 hr1
 have C2 : Hid (∀ w', Below w.heap.size w w' → Calls Tryz.prog 100 #[.agg #[.slice sa sn sc, .string fw, .bool fn, .int .i64 ff, .int .i64 fm, .string fa, .bool fs, .bool fl, .int .i64 fc, .int .i64 k, .string nm, .slice na nn nc, .slice sa sn sc, .bool dn, .int .i64 ct, .int .i64 sk]] w' fun e w'' => e = .returned (.bool r2) ∧ Below w'.heap.size w' w'') :=
  fun w' hw => namesr_impl k nm na nn nc N hnn sa sn sc S hsn dn ct sk fw fn ff fm fa fs fl fc w' (hp.below hw) (he.below hw) (hs.names.below hw) hfitN hnM hcap r2 hr2
 have C3 : Hid (∀ w', Below w.heap.size w w' → Calls Tryz.prog 101 #[.slice sa sn sc, .bool fs] w' fun e w'' => e = .returned (.bool r3) ∧ Below w'.heap.size w' w'') :=
  fun w' hw => sumfits_impl sa sn sc S hsn fs w' (hp.below hw) (he.below hw) (hs.sum.below hw) hfitI hsM r3 hr3
 have C4 : Hid (∀ w', Calls Tryz.prog 102 #[.agg #[.slice sa sn sc, .string fw, .bool fn, .int .i64 ff, .int .i64 fm, .string fa, .bool fs, .bool fl, .int .i64 fc, .int .i64 k, .string nm, .slice na nn nc, .slice sa sn sc, .bool dn, .int .i64 ct, .int .i64 sk], .int .i64 ct] w' fun e w'' => e = .returned (.bool r4) ∧ Below w'.heap.size w' w'') :=
  fun w' => can_impl k nm na nn nc N hnn sa sn sc S hsn dn ct sk fw fn ff fm fa fs fl fc ct w' r4 hr4
 have C5 : Hid (∀ w', Calls Tryz.prog 102 #[.agg #[.slice sa sn sc, .string fw, .bool fn, .int .i64 ff, .int .i64 fm, .string fa, .bool fs, .bool fl, .int .i64 fc, .int .i64 k, .string nm, .slice na nn nc, .slice sa sn sc, .bool dn, .int .i64 ct, .int .i64 sk], .int .i64 sk] w' fun e w'' => e = .returned (.bool r5) ∧ Below w'.heap.size w' w'') :=
  fun w' => can_impl k nm na nn nc N hnn sa sn sc S hsn dn ct sk fw fn ff fm fa fs fl fc sk w' r5 hr5
 obtain ⟨r0, hr0⟩ : ∃ r, decide (fw = ⟨#[]⟩) = r := ⟨_, rfl⟩
 have hv : (!r0 && (r1 && (r2 && (r3 && ((fl || !dn) && (r4 && r5)))))) = b := by
  rw [← hb]; unfold rightF; dsimp only; rw [hr0, hr1, hr2, hr3, hr4, hr5]
 have hz := zero_txt fw r0 hr0
 clear hb hr0 hr1 hr2 hr3 hr4 hr5 hnn hsn hp he hs hmild hnM hsM hcap hfitN hfitI hnm
 subst hv
 have hA : ∀ o o', Below w.heap.size w ((w.alloc o).alloc o') := fun o o' => ((Below.refl _ _).alloc (Nat.le_refl _) o).alloc (by simp) o'
 cases r0
 rotate_left
 · go_enter Tryz.func79, Tryz.ntmps79
  go_wp2
  go_ret
  exact ⟨rfl, hA _ _⟩
 have HG0 := hid (p := ((w.alloc (.cells #[.slice sa sn sc, .string fw, .bool fn, .int .i64 ff, .int .i64 fm, .string fa, .bool fs, .bool fl, .int .i64 fc, .int .i64 k, .string nm, .slice na nn nc, .slice sa sn sc, .bool dn, .int .i64 ct, .int .i64 sk] 132)).alloc (.cells #[.int .i64 k, .string nm, .slice na nn nc, .slice sa sn sc, .bool dn, .int .i64 ct, .int .i64 sk] 55)).heap[w.heap.size]? = some (.cells #[.slice sa sn sc, .string fw, .bool fn, .int .i64 ff, .int .i64 fm, .string fa, .bool fs, .bool fl, .int .i64 fc, .int .i64 k, .string nm, .slice na nn nc, .slice sa sn sc, .bool dn, .int .i64 ct, .int .i64 sk] 132)) (by
   rw [_root_.Go.heap_alloc_old (h := by simp)]; exact _root_.Go.heap_alloc_new _ _)
 go_enter Tryz.func79, Tryz.ntmps79
 go_wp2_with (refine wpList_unguardV (by first | rfl | simp [Region.wanted, yielded]) ?_; refine wpList_load_row rfl 132 _ rfl w.heap.size rfl 132 _ _ _ HG0.out Tryz.underlying132 rfl (by kernel_rfl) ?_)
 refine (C1.out _ (hA _ _)).mono ?_
 rintro e w1 ⟨rfl, hb1⟩
 have hx := chain (hA _ _) hb1
 have hlt : w.heap.size < w1.heap.size := Nat.lt_of_lt_of_le (by simp; omega) hb1.size
 have p : Hid (w1.heap[w.heap.size]? = some (.cells #[.slice sa sn sc, .string fw, .bool fn, .int .i64 ff, .int .i64 fm, .string fa, .bool fs, .bool fl, .int .i64 fc, .int .i64 k, .string nm, .slice na nn nc, .slice sa sn sc, .bool dn, .int .i64 ct, .int .i64 sk] 132)) := (hb1.block _ (by simp; omega)).trans HG0.out
 have q := box7 hb1
 simp only [alloc_one] at q
 clear hb1 hA HG0
 cases r1
 · go_wp2
  go_ret
  exact ⟨rfl, hx⟩
 have p0 : w1.cell? ⟨w.heap.size, 0, none⟩ = some (.slice sa sn sc) := cell_of_row _ _ _ _ _ _ p.out
 have p6 : w1.cell? ⟨w.heap.size, 6, none⟩ = some (.bool fs) := cell_of_row _ _ _ _ _ _ p.out
 have p7 : w1.cell? ⟨w.heap.size, 7, none⟩ = some (.bool fl) := cell_of_row _ _ _ _ _ _ p.out
 obtain ⟨q0, q1, q2, q3, q4, q5, q6, q7⟩ := id q
 go_wp2_with (refine wpList_unguardV (by first | rfl | simp [Region.wanted, yielded]) ?_; refine wpList_load_row rfl 132 _ rfl w.heap.size rfl 132 _ _ _ p.out Tryz.underlying132 rfl (by kernel_rfl) ?_)
 refine (C2.out _ hx).mono ?_
 rintro e w2 ⟨rfl, hb1⟩
 replace p : Hid (_ = _) := (hb1.block _ hlt).trans p.out
 replace q := later7 hb1 q
 replace hx := chain hx hb1
 replace hlt := Nat.lt_of_lt_of_le hlt hb1.size
 clear hb1 p0 p6 p7 q0 q1 q2 q3 q4 q5 q6 q7
 cases r2
 · go_wp2
  go_ret
  exact ⟨rfl, hx⟩
 have p0 : w2.cell? ⟨w.heap.size, 0, none⟩ = some (.slice sa sn sc) := cell_of_row _ _ _ _ _ _ p.out
 have p6 : w2.cell? ⟨w.heap.size, 6, none⟩ = some (.bool fs) := cell_of_row _ _ _ _ _ _ p.out
 have p7 : w2.cell? ⟨w.heap.size, 7, none⟩ = some (.bool fl) := cell_of_row _ _ _ _ _ _ p.out
 obtain ⟨q0, q1, q2, q3, q4, q5, q6, q7⟩ := id q
 go_wp2_with (refine wpList_unguardV (by first | rfl | simp [Region.wanted, yielded]) ?_; refine wpList_load_row rfl 132 _ rfl w.heap.size rfl 132 _ _ _ p.out Tryz.underlying132 rfl (by kernel_rfl) ?_)
 refine (C3.out _ hx).mono ?_
 rintro e w3 ⟨rfl, hb1⟩
 replace p : Hid (_ = _) := (hb1.block _ hlt).trans p.out
 replace q := later7 hb1 q
 replace hx := chain hx hb1
 replace hlt := Nat.lt_of_lt_of_le hlt hb1.size
 clear hb1 p0 p6 p7 q0 q1 q2 q3 q4 q5 q6 q7
 cases r3
 · go_wp2
  go_ret
  exact ⟨rfl, hx⟩
 have p0 : w3.cell? ⟨w.heap.size, 0, none⟩ = some (.slice sa sn sc) := cell_of_row _ _ _ _ _ _ p.out
 have p6 : w3.cell? ⟨w.heap.size, 6, none⟩ = some (.bool fs) := cell_of_row _ _ _ _ _ _ p.out
 have p7 : w3.cell? ⟨w.heap.size, 7, none⟩ = some (.bool fl) := cell_of_row _ _ _ _ _ _ p.out
 obtain ⟨q0, q1, q2, q3, q4, q5, q6, q7⟩ := id q
 cases fl
 · cases dn
  · go_wp2_with (refine wpList_unguardV (by first | rfl | simp [Region.wanted, yielded]) ?_; refine wpList_load_row rfl 132 _ rfl w.heap.size rfl 132 _ _ _ p.out Tryz.underlying132 rfl (by kernel_rfl) ?_)
   refine (C4.out _).mono ?_
   rintro e w4 ⟨rfl, hb1⟩
   replace p : Hid (_ = _) := (hb1.block _ hlt).trans p.out
   replace q := later7 hb1 q
   replace hx := chain hx hb1
   replace hlt := Nat.lt_of_lt_of_le hlt hb1.size
   clear hb1 p0 p6 p7 q0 q1 q2 q3 q4 q5 q6 q7
   cases r4
   · go_wp2
    go_ret
    exact ⟨rfl, hx⟩
   obtain ⟨q0, q1, q2, q3, q4, q5, q6, q7⟩ := q
   go_wp2_with (refine wpList_unguardV (by first | rfl | simp [Region.wanted, yielded]) ?_; refine wpList_load_row rfl 132 _ rfl w.heap.size rfl 132 _ _ _ p.out Tryz.underlying132 rfl (by kernel_rfl) ?_)
   refine (C5.out _).mono ?_
   rintro e w5 ⟨rfl, hb1⟩
   replace hx := chain hx hb1
   go_wp2
   go_ret
   exact ⟨rfl, hx⟩
  · go_wp2
   go_ret
   exact ⟨rfl, hx⟩
 · go_wp2_with (refine wpList_unguardV (by first | rfl | simp [Region.wanted, yielded]) ?_; refine wpList_load_row rfl 132 _ rfl w.heap.size rfl 132 _ _ _ p.out Tryz.underlying132 rfl (by kernel_rfl) ?_)
  refine (C4.out _).mono ?_
  rintro e w4 ⟨rfl, hb1⟩
  replace p : Hid (_ = _) := (hb1.block _ hlt).trans p.out
  replace q := later7 hb1 q
  replace hx := chain hx hb1
  replace hlt := Nat.lt_of_lt_of_le hlt hb1.size
  clear hb1 p0 p6 p7 q0 q1 q2 q3 q4 q5 q6 q7
  cases r4
  · go_wp2
   go_ret
   exact ⟨rfl, hx⟩
  obtain ⟨q0, q1, q2, q3, q4, q5, q6, q7⟩ := q
  go_wp2_with (refine wpList_unguardV (by first | rfl | simp [Region.wanted, yielded]) ?_; refine wpList_load_row rfl 132 _ rfl w.heap.size rfl 132 _ _ _ p.out Tryz.underlying132 rfl (by kernel_rfl) ?_)
  refine (C5.out _).mono ?_
  rintro e w5 ⟨rfl, hb1⟩
  replace hx := chain hx hb1
  go_wp2
  go_ret
  exact ⟨rfl, hx⟩
set_option maxRecDepth 100000 in
set_option maxHeartbeats 2000000 in
theorem sieve_impl (k : Int) (nm : ByteArray) (na : Option Addr) (nn nc : Nat) (N : List ByteArray) (hnn : N.length = nn) (sa : Option Addr) (sn sc : Nat) (S : List TI) (hsn : S.length = sn) (dn : Bool) (ct sk : Int) (w : World) (hp : PowAt w) (he : ErrAt w) (hs : SivAt w na nc sa ⟨k, nm, N, S, dn, ct, sk⟩) (hmild : MildV ⟨k, nm, N, S, dn, ct, sk⟩) (b : Bool) (hb : sieveB ⟨k, nm, N, S, dn, ct, sk⟩ = b) :
  Calls Tryz.prog 60 #[.agg #[.int .i64 k, .string nm, .slice na nn nc, .slice sa sn sc, .bool dn, .int .i64 ct, .int .i64 sk]] w fun e w' => e = .returned (.bool b) ∧ Below w.heap.size w w' := by
 obtain ⟨fw, fn, ff, fm, fa, fs, fl, fc, hf⟩ : ∃ fw fn ff fm fa fs fl fc, formF k = FS.mk fw fn ff fm fa fs fl fc := ⟨_, _, _, _, _, _, _, _, rfl⟩
 have hr : rightF (FS.mk fw fn ff fm fa fs fl fc) ⟨k, nm, N, S, dn, ct, sk⟩ = b := by rw [← hf, ← hb]; exact right_form ⟨k, nm, N, S, dn, ct, sk⟩
 have R : Hid (∀ w', Below w.heap.size w w' → Calls Tryz.prog 79 #[.agg #[.slice sa sn sc, .string fw, .bool fn, .int .i64 ff, .int .i64 fm, .string fa, .bool fs, .bool fl, .int .i64 fc, .int .i64 k, .string nm, .slice na nn nc, .slice sa sn sc, .bool dn, .int .i64 ct, .int .i64 sk]] w' fun e w'' => e = .returned (.bool b) ∧ Below w'.heap.size w' w'') :=
  fun w' hw => right_impl k nm na nn nc N hnn sa sn sc S hsn dn ct sk fw fn ff fm fa fs fl fc w' (hp.below hw) (he.below hw) (hs.below hw) hmild b hr
 have HF := hid hf
 clear hf hr hp he hs hmild hb hnn hsn
 have hA : ∀ o, Below w.heap.size w (w.alloc o) := fun o => (Below.refl _ _).alloc (Nat.le_refl _) o
 go_enter Tryz.func60, Tryz.ntmps60
 go_wp2_with fail
 refine (formed_impl k nm na nn nc sa sn sc dn ct sk fw fn ff fm fa fs fl fc HF.out _).mono ?_
 rintro e w1 ⟨rfl, hb1⟩
 have hx := chain (hA _) hb1
 clear hb1
 go_wp2_with fail
 refine (R.out _ (by first | exact hx | exact hx.trans (by go_grown))).mono ?_
 rintro e w2 ⟨rfl, hb2⟩
 go_wp2
 go_ret
 exact ⟨rfl, by first | exact chain hx hb2 | exact chain (hx.trans (by go_grown)) hb2⟩
theorem mild_fitI {s : SV} (h : MildV s) : FitI s.sum := by
 intro x hx
 have h1 := oneI_le hx
 have h3 : weightItm s.sum ≤ 1048576 := h.2.2.2.2
 unfold oneItm at h1
 unfold maxLen
 exact ⟨by omega, by omega⟩
theorem stepped_impl (ba : Option Addr) (bn bc : Nat) (T : List TB) (hbn : T.length = bn) (hbM : bn ≤ 1048576) (hsmT : ∀ t, t ∈ T → Small t) (ca : Option Addr) (cn cc : Nat) (C : List ByteArray) (hcn : C.length = cn) (kd : Int) (nm : ByteArray) (na : Option Addr) (nn nc : Nat) (N : List ByteArray) (hnn : N.length = nn) (sa : Option Addr) (sn sc : Nat) (S : List TI) (hsn : S.length = sn) (dn : Bool) (ct sk : Int) (w : World) (hT : TabsAt w ba T) (hC : StrsAt w ca C) (hnil : ca = none → cc = 0) (hcc : cn ≤ cc) (hV : SivAt w na nc sa ⟨kd, nm, N, S, dn, ct, sk⟩) (hfit : FitI S) (hb : baseB T = true) (hc : namesB C 1 6 = true) (hok : sieveB ⟨kd, nm, N, S, dn, ct, sk⟩ = true) (hk1 : kd ≠ 1) (A : Sen) (hS : SenAt w A) (D : List ByteArray) (k0 : Int) (hD : stepC T C ⟨kd, nm, N, S, dn, ct, sk⟩ = (D, k0)) :
  Calls Tryz.prog 61 #[.slice ba bn bc, .slice ca cn cc, .agg #[.int .i64 kd, .string nm, .slice na nn nc, .slice sa sn sc, .bool dn, .int .i64 ct, .int .i64 sk]] w (ColOut w A D k0) := by
 rcases sieve_kind hok with e | e | e | e | e | e | e | e | e | e <;> (dsimp only at e; subst e)
 · exact absurd rfl hk1
 · exact stepped_2 ba bn bc T hbn hbM hsmT ca cn cc C hcn nm na nn nc N hnn sa sn sc S hsn dn ct sk w hT hC hnil hcc hV hfit hb hc hok A hS D k0 hD
 · exact stepped_3 ba bn bc T hbn hbM hsmT ca cn cc C hcn nm na nn nc N hnn sa sn sc S hsn dn ct sk w hT hC hnil hcc hV hfit hb hc hok A hS D k0 hD
 · exact stepped_4 ba bn bc T hbn hbM hsmT ca cn cc C hcn nm na nn nc N hnn sa sn sc S hsn dn ct sk w hT hC hnil hcc hV hfit hb hc hok A hS D k0 hD
 · exact stepped_5 ba bn bc T hbn hbM hsmT ca cn cc C hcn nm na nn nc N hnn sa sn sc S hsn dn ct sk w hT hC hnil hcc hV hfit hb hc hok A hS D k0 hD
 · exact stepped_6 ba bn bc T hbn hbM hsmT ca cn cc C hcn nm na nn nc N hnn sa sn sc S hsn dn ct sk w hT hC hnil hcc hV hfit hb hc hok A hS D k0 hD
 · exact stepped_7 ba bn bc T hbn hbM hsmT ca cn cc C hcn nm na nn nc N hnn sa sn sc S hsn dn ct sk w hT hC hnil hcc hV hfit hb hc hok A hS D k0 hD
 · exact stepped_8 ba bn bc T hbn hbM hsmT ca cn cc C hcn nm na nn nc N hnn sa sn sc S hsn dn ct sk w hT hC hnil hcc hV hfit hb hc hok A hS D k0 hD
 · exact stepped_9 ba bn bc T hbn hbM hsmT ca cn cc C hcn nm na nn nc N hnn sa sn sc S hsn dn ct sk w hT hC hnil hcc hV hfit hb hc hok A hS D k0 hD
 · exact stepped_10 ba bn bc T hbn hbM hsmT ca cn cc C hcn nm na nn nc N hnn sa sn sc S hsn dn ct sk w hT hC hnil hcc hV hfit hb hc hok A hS D k0 hD
set_option maxRecDepth 100000 in
set_option maxHeartbeats 8000000 in
theorem stepcolumns_gen (R : World → Option Addr → Prop) (ba : Option Addr) (bn bc : Nat) (T : List TB) (hbn : T.length = bn) (hbM : bn ≤ 1048576) (ca : Option Addr) (cn cc : Nat) (C : List ByteArray) (hcn : C.length = cn) (kd : Int) (nm : ByteArray) (na : Option Addr) (nn nc : Nat) (N : List ByteArray) (hnn : N.length = nn) (sa : Option Addr) (sn sc : Nat) (S : List TI) (hsn : S.length = sn) (dn : Bool) (ct sk : Int) (w : World) (hT : TabsAt w ba T) (hC : StrsAt w ca C) (hcc : cn ≤ cc) (hV : SivAt w na nc sa ⟨kd, nm, N, S, dn, ct, sk⟩) (hmild : MildV ⟨kd, nm, N, S, dn, ct, sk⟩) (hcF : FitS C) (hcM : cn ≤ maxLen) (A : Sen) (hS : SenAt w A) (D : List ByteArray) (k0 : Int) (hD : stepShapeR T C ⟨kd, nm, N, S, dn, ct, sk⟩ = (D, k0)) (hST : baseB T = true → namesB C 1 6 = true → sieveB ⟨kd, nm, N, S, dn, ct, sk⟩ = true → kd ≠ 1 → stepC T C ⟨kd, nm, N, S, dn, ct, sk⟩ = (D, k0) → ∀ w', Below w.heap.size w w' → Calls Tryz.prog 61 #[.slice ba bn bc, .slice ca cn cc, .agg #[.int .i64 kd, .string nm, .slice na nn nc, .slice sa sn sc, .bool dn, .int .i64 ct, .int .i64 sk]] w' (ColR R w' A D k0)) :
  Calls Tryz.prog 43 #[.slice ba bn bc, .slice ca cn cc, .agg #[.int .i64 kd, .string nm, .slice na nn nc, .slice sa sn sc, .bool dn, .int .i64 ct, .int .i64 sk]] w (ColR R w A D k0) := by
 obtain ⟨b1, hb1⟩ : ∃ b, baseB T = b := ⟨_, rfl⟩
 obtain ⟨b2, hb2⟩ : ∃ b, namesB C 1 6 = b := ⟨_, rfl⟩
 obtain ⟨b3, hb3⟩ : ∃ b, sieveB ⟨kd, nm, N, S, dn, ct, sk⟩ = b := ⟨_, rfl⟩
 have CB : Hid (∀ w', Below w.heap.size w w' → Calls Tryz.prog 59 #[.slice ba bn bc] w' fun e w'' => e = .returned (.bool b1) ∧ Below w'.heap.size w' w'') := fun w' hw => baseok_impl ba bc T bn hbn w' (hT.below hw) hbM b1 hb1
 have CN : Hid (∀ w', Below w.heap.size w w' → Calls Tryz.prog 22 #[.slice ca cn cc] w' fun e w'' => e = .returned (.bool b2) ∧ Below w'.heap.size w' w'') := fun w' hw => columns_impl cn ca cc C hcn w' (hC.below hw) hcF hcM hcc b2 hb2
 have CS : Hid (∀ w', Below w.heap.size w w' → Calls Tryz.prog 60 #[.agg #[.int .i64 kd, .string nm, .slice na nn nc, .slice sa sn sc, .bool dn, .int .i64 ct, .int .i64 sk]] w' fun e w'' => e = .returned (.bool b3) ∧ Below w'.heap.size w' w'') := fun w' hw => sieve_impl kd nm na nn nc N hnn sa sn sc S hsn dn ct sk w' (hS.below hw).pow (hS.below hw).err (hV.below hw) hmild b3 hb3
 have CL := hid (p := b1 = true → b2 = true → b3 = true → kd ≠ 1 → ∀ w', Below w.heap.size w w' → Calls Tryz.prog 61 #[.slice ba bn bc, .slice ca cn cc, .agg #[.int .i64 kd, .string nm, .slice na nn nc, .slice sa sn sc, .bool dn, .int .i64 ct, .int .i64 sk]] w' (ColR R w' A D k0)) (by
   intro e1 e2 e3 e4 w' hw
   subst e1 e2 e3
   have hD2 := hD
   unfold stepShapeR at hD2
   rw [if_pos ⟨by rw [hb1, hb2, hb3]; rfl, e4⟩] at hD2
   exact hST hb1 hb2 hb3 e4 hD2 w' hw)
 have BAD := hid (p := ¬ (b1 = true ∧ b2 = true ∧ b3 = true ∧ kd ≠ 1) → k0 = 5) (by
   intro hn
   have hD2 := hD
   unfold stepShapeR at hD2
   rw [if_neg (by
    rintro ⟨h1, h2⟩
    rw [hb1, hb2, hb3] at h1
    simp only [Bool.and_eq_true] at h1
    exact hn ⟨h1.1.1, h1.1.2, h1.2, h2⟩)] at hD2
   injection hD2 with e1 e2
   exact e2.symm)
 have HS := hid hS
 have hA : ∀ o, Below w.heap.size w (w.alloc o) := fun o => (Below.refl _ _).alloc (Nat.le_refl _) o
 clear hST hb1 hb2 hb3 hT hC hV hbn hcn hnn hsn hD hcF hS hmild hcM hcc
 go_enter Tryz.func43, Tryz.ntmps43
 go_wp2_with fail
 refine (CB.out _ (hA _)).mono ?_
 rintro e w1 ⟨rfl, hb1⟩
 obtain ⟨p0, p1, p2, p3, p4, p5, p6, hsz⟩ := box7 hb1
 have hx1 := chainA hb1
 clear hb1
 cases b1
 · obtain rfl := BAD.out (by simp)
  have hv := (HS.out.below hx1).v5
  clear BAD
  go_wp2_with fail
  go_quiet (fail)
  go_wp2
  refine bodyPost_ret (v := .tuple #[.slice none 0 0, .iface 292 (.pointer (some A.e5))]) (by simp [results, Tryz.results43, go_sem]) rfl ?_
  exact ⟨_, _, _, _, rfl, errV_5, fun h => absurd h (by decide), belowN hx1 _⟩
 go_wp2_with fail
 refine (CN.out _ hx1).mono ?_
 rintro e w2 ⟨rfl, hb2⟩
 obtain ⟨q0, q1, q2, q3, q4, q5, q6, hsz2⟩ := later7 hb2 ⟨p0, p1, p2, p3, p4, p5, p6, hsz⟩
 have hx2 := chain hx1 hb2
 clear p0 p1 p2 p3 p4 p5 p6 hsz hb2
 cases b2
 · obtain rfl := BAD.out (by simp)
  have hv := (HS.out.below hx2).v5
  clear BAD
  go_wp2_with fail
  go_quiet (fail)
  go_wp2
  refine bodyPost_ret (v := .tuple #[.slice none 0 0, .iface 292 (.pointer (some A.e5))]) (by simp [results, Tryz.results43, go_sem]) rfl ?_
  exact ⟨_, _, _, _, rfl, errV_5, fun h => absurd h (by decide), belowN hx2 _⟩
 go_wp2_with fail
 refine (CS.out _ hx2).mono ?_
 rintro e w3 ⟨rfl, hb3⟩
 obtain ⟨r0, r1, r2, r3, r4, r5, r6, hsz3⟩ := later7 hb3 ⟨q0, q1, q2, q3, q4, q5, q6, hsz2⟩
 have hx3 := chain hx2 hb3
 clear q0 q1 q2 q3 q4 q5 q6 hsz2 hb3
 cases b3
 · obtain rfl := BAD.out (by simp)
  have hv := (HS.out.below hx3).v5
  clear BAD
  go_wp2_with fail
  go_quiet (fail)
  go_wp2
  refine bodyPost_ret (v := .tuple #[.slice none 0 0, .iface 292 (.pointer (some A.e5))]) (by simp [results, Tryz.results43, go_sem]) rfl ?_
  exact ⟨_, _, _, _, rfl, errV_5, fun h => absurd h (by decide), belowN hx3 _⟩
 by_cases hk1 : kd = 1
 · have hk : (kd == 1) = true := by simp [hk1]
  obtain rfl := BAD.out (by simp [hk1])
  have hv := (HS.out.below hx3).v5
  clear BAD hk1
  go_wp2_with fail
  go_quiet (fail)
  go_wp2
  refine bodyPost_ret (v := .tuple #[.slice none 0 0, .iface 292 (.pointer (some A.e5))]) (by simp [results, Tryz.results43, go_sem]) rfl ?_
  exact ⟨_, _, _, _, rfl, errV_5, fun h => absurd h (by decide), belowN hx3 _⟩
 have hk : (kd == 1) = false := by simp [hk1]
 have C : Hid (∀ w', Below w.heap.size w w' → Calls Tryz.prog 61 #[.slice ba bn bc, .slice ca cn cc, .agg #[.int .i64 kd, .string nm, .slice na nn nc, .slice sa sn sc, .bool dn, .int .i64 ct, .int .i64 sk]] w' (ColR R w' A D k0)) := CL.out (by simp) (by simp) (by simp) hk1
 clear hk1 BAD CL
 go_wp2_with fail
 refine (C.out _ hx3).mono ?_
 rintro e w4 ⟨a', n', c', v', rfl, hv, hkk, hb4⟩
 have fin : Hid (ColR R w A D k0 (.returned (.tuple #[.slice a' n' c', v'])) w4) := ⟨_, _, _, _, rfl, hv, hkk, chain hx3 hb4⟩
 clear hv hkk hb4
 go_wp2
 refine bodyPost_ret (v := .tuple #[.slice a' n' c', v']) (by simp [results, Tryz.results43, go_sem]) rfl ?_
 exact fin.out
theorem stepcolumns_impl (ba : Option Addr) (bn bc : Nat) (T : List TB) (hbn : T.length = bn) (hbM : bn ≤ 1048576) (hsmT : ∀ t, t ∈ T → Small t) (ca : Option Addr) (cn cc : Nat) (C : List ByteArray) (hcn : C.length = cn) (kd : Int) (nm : ByteArray) (na : Option Addr) (nn nc : Nat) (N : List ByteArray) (hnn : N.length = nn) (sa : Option Addr) (sn sc : Nat) (S : List TI) (hsn : S.length = sn) (dn : Bool) (ct sk : Int) (w : World) (hT : TabsAt w ba T) (hC : StrsAt w ca C) (hnil : ca = none → cc = 0) (hcc : cn ≤ cc) (hV : SivAt w na nc sa ⟨kd, nm, N, S, dn, ct, sk⟩) (hmild : MildV ⟨kd, nm, N, S, dn, ct, sk⟩) (hcF : FitS C) (hcM : cn ≤ maxLen) (A : Sen) (hS : SenAt w A) (D : List ByteArray) (k0 : Int) (hD : stepShapeR T C ⟨kd, nm, N, S, dn, ct, sk⟩ = (D, k0)) :
  Calls Tryz.prog 43 #[.slice ba bn bc, .slice ca cn cc, .agg #[.int .i64 kd, .string nm, .slice na nn nc, .slice sa sn sc, .bool dn, .int .i64 ct, .int .i64 sk]] w (ColOut w A D k0) :=
 (stepcolumns_gen (fun _ _ => True) ba bn bc T hbn hbM ca cn cc C hcn kd nm na nn nc N hnn sa sn sc S hsn dn ct sk w hT hC hcc hV hmild hcF hcM A hS D k0 hD (fun hb1 hb2 hb3 e4 hD2 w' hw => (stepped_impl ba bn bc T hbn hbM hsmT ca cn cc C hcn kd nm na nn nc N hnn sa sn sc S hsn dn ct sk w' (hT.below hw) (hC.below hw) hnil hcc (hV.below hw) (mild_fitI hmild) hb1 hb2 hb3 e4 A (hS.below hw) D k0 hD2).mono (fun _ _ h => h.any))).mono (fun _ _ h => h.out)
theorem stepcolumns_let (ba : Option Addr) (bn bc : Nat) (T : List TB) (hbn : T.length = bn) (hbM : bn ≤ 1048576) (hsmT : ∀ t, t ∈ T → Small t) (ca : Option Addr) (cn cc : Nat) (C : List ByteArray) (hcn : C.length = cn) (nm : ByteArray) (na : Option Addr) (nn nc : Nat) (N : List ByteArray) (hnn : N.length = nn) (sa : Option Addr) (sn sc : Nat) (S : List TI) (hsn : S.length = sn) (dn : Bool) (ct sk : Int) (w : World) (hT : TabsAt w ba T) (hC : StrsAt w ca C) (hnil : ca = none → cc = 0) (hcc : cn ≤ cc) (hV : SivAt w na nc sa ⟨3, nm, N, S, dn, ct, sk⟩) (hmild : MildV ⟨3, nm, N, S, dn, ct, sk⟩) (hcF : FitS C) (hcM : cn ≤ maxLen) (A : Sen) (hS : SenAt w A) (D : List ByteArray) (k0 : Int) (hD : stepShapeR T C ⟨3, nm, N, S, dn, ct, sk⟩ = (D, k0)) :
  Calls Tryz.prog 43 #[.slice ba bn bc, .slice ca cn cc, .agg #[.int .i64 3, .string nm, .slice na nn nc, .slice sa sn sc, .bool dn, .int .i64 ct, .int .i64 sk]] w (ColR NewS w A D k0) :=
 stepcolumns_gen NewS ba bn bc T hbn hbM ca cn cc C hcn 3 nm na nn nc N hnn sa sn sc S hsn dn ct sk w hT hC hcc hV hmild hcF hcM A hS D k0 hD (fun hb1 hb2 hb3 _ hD2 w' hw => stepped_3n ba bn bc T hbn hbM hsmT ca cn cc C hcn nm na nn nc N hnn sa sn sc S hsn dn ct sk w' (hT.below hw) (hC.below hw) hnil hcc (hV.below hw) (mild_fitI hmild) hb1 hb2 hb3 A (hS.below hw) D k0 hD2)
theorem stepcolumns_keep (ba : Option Addr) (bn bc : Nat) (T : List TB) (hbn : T.length = bn) (hbM : bn ≤ 1048576) (hsmT : ∀ t, t ∈ T → Small t) (ca : Option Addr) (cn cc : Nat) (C : List ByteArray) (hcn : C.length = cn) (nm : ByteArray) (na : Option Addr) (nn nc : Nat) (N : List ByteArray) (hnn : N.length = nn) (sa : Option Addr) (sn sc : Nat) (S : List TI) (hsn : S.length = sn) (dn : Bool) (ct sk : Int) (w : World) (hT : TabsAt w ba T) (hC : StrsAt w ca C) (hnil : ca = none → cc = 0) (hcc : cn ≤ cc) (hV : SivAt w na nc sa ⟨4, nm, N, S, dn, ct, sk⟩) (hmild : MildV ⟨4, nm, N, S, dn, ct, sk⟩) (hcF : FitS C) (hcM : cn ≤ maxLen) (A : Sen) (hS : SenAt w A) (D : List ByteArray) (k0 : Int) (hD : stepShapeR T C ⟨4, nm, N, S, dn, ct, sk⟩ = (D, k0)) :
  Calls Tryz.prog 43 #[.slice ba bn bc, .slice ca cn cc, .agg #[.int .i64 4, .string nm, .slice na nn nc, .slice sa sn sc, .bool dn, .int .i64 ct, .int .i64 sk]] w (ColR (fun _ x => x = na) w A D k0) :=
 stepcolumns_gen (fun _ x => x = na) ba bn bc T hbn hbM ca cn cc C hcn 4 nm na nn nc N hnn sa sn sc S hsn dn ct sk w hT hC hcc hV hmild hcF hcM A hS D k0 hD (fun hb1 hb2 hb3 _ hD2 w' hw => stepped_4n ba bn bc T hbn hbM hsmT ca cn cc C hcn nm na nn nc N hnn sa sn sc S hsn dn ct sk w' (hT.below hw) (hC.below hw) hnil hcc (hV.below hw) (mild_fitI hmild) hb1 hb2 hb3 A (hS.below hw) D k0 hD2)
end Go.Proofs.YtjjkdbmjloolaaaGreatDoor
