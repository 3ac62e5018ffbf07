/-
  A part of the proof: ShpS1.
-/
import Derived.Test.YtjjkdbmjloolaaaGreatDoorPart1
import Derived.Test.YtjjkdbmjloolaaaGreatDoorPart11
import Derived.Test.YtjjkdbmjloolaaaGreatDoorPart14
import Derived.Test.YtjjkdbmjloolaaaGreatDoorPart35
import Derived.Test.YtjjkdbmjloolaaaGreatDoorPart8

namespace Go.Proofs.YtjjkdbmjloolaaaGreatDoor
open Go.ChangeShapes Go.WideShapes Go.ChangeAt Go.RowKit
attribute [local go_sem ↓] Go.wp_at_zero Go.wp_at_succ
attribute [local simp] World.cell?_alloc_past World.cell?_alloc_at World.frozen?_alloc_at cell_far cell_off cell_here World.frozen?_alloc_past
def ShpOut (w : World) (D : List ByteArray) (k : Int) (e : Ending) (w' : World) : Prop :=
 ∃ g n c, D.length = n ∧ e = .returned (.tuple #[.slice (some ⟨g, 0, none⟩) n c, .int .i64 k]) ∧ n ≤ c ∧ w'.ownsRow w.heap.size 9 1 (.slice (some ⟨g, 0, none⟩) n c) n (strV D) ∧ Below w.heap.size w w'
theorem own_lowS {w : World} {base base' n size : Nat} {e : TypeId} {v : Value} {xs : List Value} (h : w.ownsRow base e size v n xs) (hb : base' ≤ base) : w.ownsRow base' e size v n xs := by
 refine ⟨h.1, ?_⟩
 rcases h.2 with h' | ⟨g, cap, cur, h', hbg, hr⟩
 · exact .inl h'
 · exact .inr ⟨g, cap, cur, h', Nat.le_trans hb hbg, hr⟩
theorem own_keepW {w w' : World} {base base' g c : Nat} {e : TypeId} {size n : Nat} {xs : List Value} (h : w.ownsRow base e size (.slice (some ⟨g, 0, none⟩) n c) n xs) (hb : base' ≤ base) (hk : w'.heap[g]? = w.heap[g]?) : w'.ownsRow base' e size (.slice (some ⟨g, 0, none⟩) n c) n xs := by
 refine ⟨h.1, ?_⟩
 rcases h.2 with h' | ⟨g', cap, cur, h', hbg, hg, hr⟩
 · exact .inl h'
 · refine .inr ⟨g', cap, cur, h', by omega, ?_, hr⟩
  simp only [Value.slice.injEq, Option.some.injEq, Addr.mk.injEq, and_true, true_and] at h'
  obtain ⟨rfl, _⟩ := h'
  rw [hk]; exact hg
theorem own_nilS (w : World) : (w.alloc (.cells #[] 9)).ownsRow w.heap.size 9 1 (.slice (some ⟨w.heap.size, 0, none⟩) 0 0) 0 (strV []) :=
 ⟨rfl, .inr ⟨w.heap.size, 0, #[], rfl, Nat.le_refl _, by show (w.heap.push _)[w.heap.size]? = _; simp, Nat.le_refl _, by unfold maxLen; omega, rfl, rfl⟩⟩
theorem own_fmS {w : World} {base n k : Nat} {e : TypeId} {v : Value} {xs : List Value} (h : w.ownsRow base e k v n xs) (hn : v ≠ .slice none 0 0) : ∃ g c, v = .slice (some ⟨g, 0, none⟩) n c ∧ n ≤ c := by
 rcases h.2 with ⟨e', _⟩ | ⟨g, cap, cur, e', _, _, hc, _⟩
 · exact absurd e' hn
 · exact ⟨g, cap, e', hc⟩
theorem one_cellsS (w : World) (x : ByteArray) : ∀ (j : Nat) v, [Value.string x][j]? = some v → (w.alloc (.cells #[.string x] 9)).cell? ((⟨w.heap.size, 0, none⟩ : Addr).add j) = some v := by
 intro j u hj
 match j, hj with
 | 0, hj => simp at hj; subst hj; simp [Addr.add, World.cell?_alloc_at]
theorem begun {w w1 : World} {a b c d e f g : Value} {C : List ByteArray} {cn g1 c1 : Nat} {T : TypeId} (hn : C.length = cn)
  (hb : Below ((w.alloc (.cells #[a, b, c, d, e, f, g] T)).alloc (.cells #[] 9)).heap.size ((w.alloc (.cells #[a, b, c, d, e, f, g] T)).alloc (.cells #[] 9)) w1)
  (ho : w1.ownsRow ((w.alloc (.cells #[a, b, c, d, e, f, g] T)).alloc (.cells #[] 9)).heap.size 9 1 (.slice (some ⟨g1, 0, none⟩) C.length c1) C.length (strV C)) :
  (w1.cell? ⟨w.heap.size, 0, none⟩ = some (a) ∧ w1.cell? ⟨w.heap.size, 1, none⟩ = some (b) ∧ w1.cell? ⟨w.heap.size, 2, none⟩ = some (c) ∧ w1.cell? ⟨w.heap.size, 3, none⟩ = some (d) ∧ w1.cell? ⟨w.heap.size, 4, none⟩ = some (e) ∧ w1.cell? ⟨w.heap.size, 5, none⟩ = some (f) ∧ w1.cell? ⟨w.heap.size, 6, none⟩ = some (g) ∧ w.heap.size < w1.heap.size) ∧
  w1.ownsRow w.heap.size 9 1 (.slice (some ⟨w.heap.size + 1, 0, none⟩) 0 0) 0 (strV []) ∧ w1.ownsRow (w.heap.size + 2) 9 1 (.slice (some ⟨g1, 0, none⟩) cn c1) cn (strV C) ∧ Below w.heap.size w w1 := by
 have h1 : Below w.heap.size w (w.alloc (.cells #[a, b, c, d, e, f, g] T)) := (Below.refl _ _).alloc (Nat.le_refl _) _
 have h2 : Below (w.alloc (.cells #[a, b, c, d, e, f, g] T)).heap.size (w.alloc (.cells #[a, b, c, d, e, f, g] T)) w1 := chain ((Below.refl _ _).alloc (Nat.le_refl _) _) hb
 refine ⟨box7 h2, ?_, ?_, chain h1 h2⟩
 · have := own_nilS (w.alloc (.cells #[a, b, c, d, e, f, g] T))
  rw [alloc_one] at this
  exact own_lowS (own_below this hb) (by simp)
 · rw [hn] at ho
  exact own_lowS ho (by simp)
set_option maxRecDepth 100000 in
set_option maxHeartbeats 4000000 in
theorem step_9 (ba : Option Addr) (bn bc : Nat) (T : List TB) (hbn : T.length = bn) (ca : Option Addr) (cn cc : Nat) (C : List ByteArray) (hcn : C.length = cn) (nm : ByteArray) (na : Option Addr) (nn nc : Nat) (N : List ByteArray) (hnn : N.length = nn) (sa : Option Addr) (sn sc : Nat) (S : List TI) (hsn : S.length = sn) (dn : Bool) (ct sk : Int) (w : World) (hT : TabsAt w ba T) (hC : StrsAt w ca C) (hnil : ca = none → cc = 0) (hV : SivAt w na nc sa ⟨9, nm, N, S, dn, ct, sk⟩) (hb : baseB T = true) (hc : namesB C 1 6 = true) (hok : sieveB ⟨9, nm, N, S, dn, ct, sk⟩ = true) (D : List ByteArray) (k0 : Int) (hD : stepC T C ⟨9, nm, N, S, dn, ct, sk⟩ = (D, k0)) :
  Calls Tryz.prog 54 #[.slice ba bn bc, .slice ca cn cc, .agg #[.int .i64 9, .string nm, .slice na nn nc, .slice sa sn sc, .bool dn, .int .i64 ct, .int .i64 sk]] w (ShpOut w D k0) := by
 obtain ⟨i0, hti, hz0, hz1, hz2⟩ := info_parts infoTx
 have hc6 : cn ≤ 6 ∧ 1 ≤ cn := by
  have := (namesB_iff.1 hc).2.2
  omega
 obtain ⟨hc6, hc1⟩ := hc6
 have HT := hid hT
 have HC := hid hC
 have HN := hid hcn
 have HV := hid hV
 have HSN := hid hsn
 have HNN := hid hnn
 have HBN := hid hbn
 have HB := hid hb
 have HOK := hid hok
 have hs6 : sn ≤ maxLen := by rw [← hsn]; exact hV.lenI
 have HD := hid hD
 have hA : ∀ o o', Below w.heap.size w ((w.alloc o).alloc o') := fun o o' => ((Below.refl _ _).alloc (Nat.le_refl _) o).alloc (by simp) o'
 clear hT hC hcn hV hsn hnn hbn hb hc hok hD
 obtain ⟨rfl, rfl⟩ : C = D ∧ 0 = k0 := by
  have h := HD.out
  rw [stepC_9] at h
  unfold manyC at h
  rw [if_pos (by rw [HN.out]; exact hc6)] at h
  injection h with e1 e2
  exact ⟨e1, e2⟩
 go_enter Tryz.func54, Tryz.ntmps54
 go_wp2_with fail
 refine (texts_spec ca cc C cn HN.out _ (HC.out.below (hA _ _)) hnil (by omega)).mono ?_
 rintro e w1 ⟨g, c, rfl, hg1, hgc, ho, hb1⟩
 obtain ⟨⟨p0, p1, p2, p3, p4, p5, p6, hsz⟩, o0, o1, hx⟩ := begun HN.out hb1 ho
 have O0 := hid o0
 have O1 := hid o1
 clear hb1 ho o0 o1 hg1 hA
 have hi6 : ¬ (6 : Int) < (cn : Int) := by omega
 go_wp2
 go_ret2
 exact ⟨g, cn, c, HN.out, rfl, hgc, own_lowS O1.out (by omega), hx⟩
set_option maxRecDepth 100000 in
set_option maxHeartbeats 4000000 in
theorem step_10 (ba : Option Addr) (bn bc : Nat) (T : List TB) (hbn : T.length = bn) (ca : Option Addr) (cn cc : Nat) (C : List ByteArray) (hcn : C.length = cn) (nm : ByteArray) (na : Option Addr) (nn nc : Nat) (N : List ByteArray) (hnn : N.length = nn) (sa : Option Addr) (sn sc : Nat) (S : List TI) (hsn : S.length = sn) (dn : Bool) (ct sk : Int) (w : World) (hT : TabsAt w ba T) (hC : StrsAt w ca C) (hnil : ca = none → cc = 0) (hV : SivAt w na nc sa ⟨10, nm, N, S, dn, ct, sk⟩) (hb : baseB T = true) (hc : namesB C 1 6 = true) (hok : sieveB ⟨10, nm, N, S, dn, ct, sk⟩ = true) (D : List ByteArray) (k0 : Int) (hD : stepC T C ⟨10, nm, N, S, dn, ct, sk⟩ = (D, k0)) :
  Calls Tryz.prog 54 #[.slice ba bn bc, .slice ca cn cc, .agg #[.int .i64 10, .string nm, .slice na nn nc, .slice sa sn sc, .bool dn, .int .i64 ct, .int .i64 sk]] w (ShpOut w D k0) := by
 obtain ⟨i0, hti, hz0, hz1, hz2⟩ := info_parts infoTx
 have hc6 : cn ≤ 6 ∧ 1 ≤ cn := by
  have := (namesB_iff.1 hc).2.2
  omega
 obtain ⟨hc6, hc1⟩ := hc6
 have HT := hid hT
 have HC := hid hC
 have HN := hid hcn
 have HV := hid hV
 have HSN := hid hsn
 have HNN := hid hnn
 have HBN := hid hbn
 have HB := hid hb
 have HOK := hid hok
 have hs6 : sn ≤ maxLen := by rw [← hsn]; exact hV.lenI
 have HD := hid hD
 have hA : ∀ o o', Below w.heap.size w ((w.alloc o).alloc o') := fun o o' => ((Below.refl _ _).alloc (Nat.le_refl _) o).alloc (by simp) o'
 clear hT hC hcn hV hsn hnn hbn hb hc hok hD
 obtain ⟨rfl, rfl⟩ : C = D ∧ 0 = k0 := by
  have h := HD.out
  rw [stepC_10] at h
  unfold manyC at h
  rw [if_pos (by rw [HN.out]; exact hc6)] at h
  injection h with e1 e2
  exact ⟨e1, e2⟩
 go_enter Tryz.func54, Tryz.ntmps54
 go_wp2_with fail
 refine (texts_spec ca cc C cn HN.out _ (HC.out.below (hA _ _)) hnil (by omega)).mono ?_
 rintro e w1 ⟨g, c, rfl, hg1, hgc, ho, hb1⟩
 obtain ⟨⟨p0, p1, p2, p3, p4, p5, p6, hsz⟩, o0, o1, hx⟩ := begun HN.out hb1 ho
 have O0 := hid o0
 have O1 := hid o1
 clear hb1 ho o0 o1 hg1 hA
 have hi6 : ¬ (6 : Int) < (cn : Int) := by omega
 go_wp2
 go_ret2
 exact ⟨g, cn, c, HN.out, rfl, hgc, own_lowS O1.out (by omega), hx⟩
set_option maxRecDepth 100000 in
set_option maxHeartbeats 4000000 in
theorem step_2 (ba : Option Addr) (bn bc : Nat) (T : List TB) (hbn : T.length = bn) (ca : Option Addr) (cn cc : Nat) (C : List ByteArray) (hcn : C.length = cn) (nm : ByteArray) (na : Option Addr) (nn nc : Nat) (N : List ByteArray) (hnn : N.length = nn) (sa : Option Addr) (sn sc : Nat) (S : List TI) (hsn : S.length = sn) (dn : Bool) (ct sk : Int) (w : World) (hT : TabsAt w ba T) (hC : StrsAt w ca C) (hnil : ca = none → cc = 0) (hV : SivAt w na nc sa ⟨2, nm, N, S, dn, ct, sk⟩) (hb : baseB T = true) (hc : namesB C 1 6 = true) (hok : sieveB ⟨2, nm, N, S, dn, ct, sk⟩ = true) (D : List ByteArray) (k0 : Int) (hD : stepC T C ⟨2, nm, N, S, dn, ct, sk⟩ = (D, k0)) :
  Calls Tryz.prog 54 #[.slice ba bn bc, .slice ca cn cc, .agg #[.int .i64 2, .string nm, .slice na nn nc, .slice sa sn sc, .bool dn, .int .i64 ct, .int .i64 sk]] w (ShpOut w D k0) := by
 obtain ⟨i0, hti, hz0, hz1, hz2⟩ := info_parts infoTx
 have hc6 : cn ≤ 6 ∧ 1 ≤ cn := by
  have := (namesB_iff.1 hc).2.2
  omega
 obtain ⟨hc6, hc1⟩ := hc6
 have HT := hid hT
 have HC := hid hC
 have HN := hid hcn
 have HV := hid hV
 have HSN := hid hsn
 have HNN := hid hnn
 have HBN := hid hbn
 have HB := hid hb
 have HOK := hid hok
 have hs6 : sn ≤ maxLen := by rw [← hsn]; exact hV.lenI
 have HD := hid hD
 have hA : ∀ o o', Below w.heap.size w ((w.alloc o).alloc o') := fun o o' => ((Below.refl _ _).alloc (Nat.le_refl _) o).alloc (by simp) o'
 clear hT hC hcn hV hsn hnn hbn hb hc hok hD
 obtain ⟨r, hr⟩ : ∃ r, hasC C S = r := ⟨_, rfl⟩
 have HR := hid hr
 clear hr
 go_enter Tryz.func54, Tryz.ntmps54
 go_wp2_with fail
 refine (texts_spec ca cc C cn HN.out _ (HC.out.below (hA _ _)) hnil (by omega)).mono ?_
 rintro e w1 ⟨g, c, rfl, hg1, hgc, ho, hb1⟩
 obtain ⟨⟨p0, p1, p2, p3, p4, p5, p6, hsz⟩, o0, o1, hx⟩ := begun HN.out hb1 ho
 have O0 := hid o0
 have O1 := hid o1
 clear hb1 ho o0 o1 hg1 hA
 go_wp2_with fail
 refine (l9has_spec sa sc S sn HSN.out ca cc C cn HN.out _ (HV.out.sum.below hx) HV.out.fitI hs6 (HC.out.below hx) (by unfold maxLen; omega) r HR.out).mono ?_
 rintro e w2 ⟨rfl, hb2⟩
 have hx2 := chain hx hb2
 have O20 : Hid (w2.ownsRow w.heap.size 9 1 (.slice (some ⟨w.heap.size + 1, 0, none⟩) 0 0) 0 (strV [])) := own_below O0.out hb2
 have O21 : Hid (w2.ownsRow (w.heap.size + 2) 9 1 (.slice (some ⟨g, 0, none⟩) cn c) cn (strV C)) := own_below O1.out hb2
 cases r
 · obtain ⟨rfl, rfl⟩ : D = [] ∧ k0 = 3 := by
   have h := HD.out
   rw [stepC_2] at h
   rw [if_neg (by rw [HR.out]; decide)] at h
   injection h with e1 e2
   exact ⟨e1.symm, e2.symm⟩
  go_wp2
  go_ret2
  exact ⟨w.heap.size + 1, 0, 0, rfl, rfl, Nat.le_refl _, O20.out, hx2⟩
 obtain ⟨rfl, rfl⟩ : C = D ∧ 0 = k0 := by
  have h := HD.out
  rw [stepC_2] at h
  rw [if_pos HR.out] at h
  unfold manyC at h
  rw [if_pos (by rw [HN.out]; exact hc6)] at h
  injection h with e1 e2
  exact ⟨e1, e2⟩
 have hi6 : ¬ (6 : Int) < (cn : Int) := by omega
 go_wp2
 go_ret2
 exact ⟨g, cn, c, HN.out, rfl, hgc, own_lowS O21.out (by omega), hx2⟩
set_option maxRecDepth 100000 in
set_option maxHeartbeats 4000000 in
theorem step_8 (ba : Option Addr) (bn bc : Nat) (T : List TB) (hbn : T.length = bn) (ca : Option Addr) (cn cc : Nat) (C : List ByteArray) (hcn : C.length = cn) (nm : ByteArray) (na : Option Addr) (nn nc : Nat) (N : List ByteArray) (hnn : N.length = nn) (sa : Option Addr) (sn sc : Nat) (S : List TI) (hsn : S.length = sn) (dn : Bool) (ct sk : Int) (w : World) (hT : TabsAt w ba T) (hC : StrsAt w ca C) (hnil : ca = none → cc = 0) (hV : SivAt w na nc sa ⟨8, nm, N, S, dn, ct, sk⟩) (hb : baseB T = true) (hc : namesB C 1 6 = true) (hok : sieveB ⟨8, nm, N, S, dn, ct, sk⟩ = true) (D : List ByteArray) (k0 : Int) (hD : stepC T C ⟨8, nm, N, S, dn, ct, sk⟩ = (D, k0)) :
  Calls Tryz.prog 54 #[.slice ba bn bc, .slice ca cn cc, .agg #[.int .i64 8, .string nm, .slice na nn nc, .slice sa sn sc, .bool dn, .int .i64 ct, .int .i64 sk]] w (ShpOut w D k0) := by
 obtain ⟨i0, hti, hz0, hz1, hz2⟩ := info_parts infoTx
 have hc6 : cn ≤ 6 ∧ 1 ≤ cn := by
  have := (namesB_iff.1 hc).2.2
  omega
 obtain ⟨hc6, hc1⟩ := hc6
 have HT := hid hT
 have HC := hid hC
 have HN := hid hcn
 have HV := hid hV
 have HSN := hid hsn
 have HNN := hid hnn
 have HBN := hid hbn
 have HB := hid hb
 have HOK := hid hok
 have hs6 : sn ≤ maxLen := by rw [← hsn]; exact hV.lenI
 have HD := hid hD
 have hA : ∀ o o', Below w.heap.size w ((w.alloc o).alloc o') := fun o o' => ((Below.refl _ _).alloc (Nat.le_refl _) o).alloc (by simp) o'
 clear hT hC hcn hV hsn hnn hbn hb hc hok hD
 go_enter Tryz.func54, Tryz.ntmps54
 go_wp2_with fail
 refine (texts_spec ca cc C cn HN.out _ (HC.out.below (hA _ _)) hnil (by omega)).mono ?_
 rintro e w1 ⟨g, c, rfl, hg1, hgc, ho, hb1⟩
 obtain ⟨⟨p0, p1, p2, p3, p4, p5, p6, hsz⟩, o0, o1, hx⟩ := begun HN.out hb1 ho
 have O0 := hid o0
 have O1 := hid o1
 clear hb1 ho o0 o1 hg1 hA
 go_wp2_with fail
 refine (at_specN cn ca cc C HN.out nm _ (HC.out.below hx) (by unfold maxLen; omega)).mono ?_
 rintro e w2 ⟨r, rfl, hat, hb2⟩
 have hx2 := chain hx hb2
 have O20 : Hid (w2.ownsRow w.heap.size 9 1 (.slice (some ⟨w.heap.size + 1, 0, none⟩) 0 0) 0 (strV [])) := own_below O0.out hb2
 have O21 : Hid (w2.ownsRow (w.heap.size + 2) 9 1 (.slice (some ⟨g, 0, none⟩) cn c) cn (strV C)) := own_below O1.out hb2
 have hneg := hat.neg
 by_cases hr : r < 0
 · have hno : inB C nm = false := inB_no.2 (fun h => by have := hneg.2 h; omega)
  obtain ⟨rfl, rfl⟩ : D = [] ∧ k0 = 3 := by
   have h := HD.out
   rw [stepC_8] at h
   rw [if_neg (by rw [hno]; decide)] at h
   injection h with e1 e2
   exact ⟨e1.symm, e2.symm⟩
  go_wp2
  go_ret2
  exact ⟨w.heap.size + 1, 0, 0, rfl, rfl, Nat.le_refl _, O20.out, hx2⟩
 have hin : inB C nm = true := inB_iff.2 (hneg.1 (by omega))
 obtain ⟨rfl, rfl⟩ : C = D ∧ 0 = k0 := by
  have h := HD.out
  rw [stepC_8] at h
  rw [if_pos hin] at h
  unfold manyC at h
  rw [if_pos (by rw [HN.out]; exact hc6)] at h
  injection h with e1 e2
  exact ⟨e1, e2⟩
 have hi6 : ¬ (6 : Int) < (cn : Int) := by omega
 go_wp2
 go_ret2
 exact ⟨g, cn, c, HN.out, rfl, hgc, own_lowS O21.out (by omega), hx2⟩
set_option maxRecDepth 100000 in
set_option maxHeartbeats 4000000 in
theorem step_3 (ba : Option Addr) (bn bc : Nat) (T : List TB) (hbn : T.length = bn) (ca : Option Addr) (cn cc : Nat) (C : List ByteArray) (hcn : C.length = cn) (nm : ByteArray) (na : Option Addr) (nn nc : Nat) (N : List ByteArray) (hnn : N.length = nn) (sa : Option Addr) (sn sc : Nat) (S : List TI) (hsn : S.length = sn) (dn : Bool) (ct sk : Int) (w : World) (hT : TabsAt w ba T) (hC : StrsAt w ca C) (hnil : ca = none → cc = 0) (hV : SivAt w na nc sa ⟨3, nm, N, S, dn, ct, sk⟩) (hb : baseB T = true) (hc : namesB C 1 6 = true) (hok : sieveB ⟨3, nm, N, S, dn, ct, sk⟩ = true) (D : List ByteArray) (k0 : Int) (hD : stepC T C ⟨3, nm, N, S, dn, ct, sk⟩ = (D, k0)) :
  Calls Tryz.prog 54 #[.slice ba bn bc, .slice ca cn cc, .agg #[.int .i64 3, .string nm, .slice na nn nc, .slice sa sn sc, .bool dn, .int .i64 ct, .int .i64 sk]] w (ShpOut w D k0) := by
 obtain ⟨i0, hti, hz0, hz1, hz2⟩ := info_parts infoTx
 have hc6 : cn ≤ 6 ∧ 1 ≤ cn := by
  have := (namesB_iff.1 hc).2.2
  omega
 obtain ⟨hc6, hc1⟩ := hc6
 have HT := hid hT
 have HC := hid hC
 have HN := hid hcn
 have HV := hid hV
 have HSN := hid hsn
 have HNN := hid hnn
 have HBN := hid hbn
 have HB := hid hb
 have HOK := hid hok
 have hs6 : sn ≤ maxLen := by rw [← hsn]; exact hV.lenI
 have HD := hid hD
 have hA : ∀ o o', Below w.heap.size w ((w.alloc o).alloc o') := fun o o' => ((Below.refl _ _).alloc (Nat.le_refl _) o).alloc (by simp) o'
 clear hT hC hcn hV hsn hnn hbn hb hc hok hD
 obtain ⟨r, hr⟩ : ∃ r, hasC C S = r := ⟨_, rfl⟩
 have HR := hid hr
 clear hr
 go_enter Tryz.func54, Tryz.ntmps54
 go_wp2_with fail
 refine (texts_spec ca cc C cn HN.out _ (HC.out.below (hA _ _)) hnil (by omega)).mono ?_
 rintro e w1 ⟨g, c, rfl, hg1, hgc, ho, hb1⟩
 obtain ⟨⟨p0, p1, p2, p3, p4, p5, p6, hsz⟩, o0, o1, hx⟩ := begun HN.out hb1 ho
 have O0 := hid o0
 have O1 := hid o1
 clear hb1 ho o0 o1 hg1 hA
 go_wp2_with fail
 refine (at_specN cn ca cc C HN.out nm _ (HC.out.below hx) (by unfold maxLen; omega)).mono ?_
 rintro e w2 ⟨q, rfl, hat, hb2⟩
 have hx2 := chain hx hb2
 have O20 : Hid (w2.ownsRow w.heap.size 9 1 (.slice (some ⟨w.heap.size + 1, 0, none⟩) 0 0) 0 (strV [])) := own_below O0.out hb2
 have O21 : Hid (w2.ownsRow (w.heap.size + 2) 9 1 (.slice (some ⟨g, 0, none⟩) cn c) cn (strV C)) := own_below O1.out hb2
 have hneg := hat.neg
 have q1 := (hb2.cell (p := ⟨w.heap.size, 1, none⟩) hsz).trans p1
 have q3 := (hb2.cell (p := ⟨w.heap.size, 3, none⟩) hsz).trans p3
 have hsz2 : w.heap.size < w2.heap.size := Nat.lt_of_lt_of_le hsz hb2.size
 clear p0 p1 p2 p3 p4 p5 p6 O0 O1 hb2 hx hsz
 by_cases hr : 0 ≤ q
 · have hin : inB C nm = true := inB_iff.2 (hneg.1 hr)
  clear hneg
  obtain ⟨rfl, rfl⟩ : D = [] ∧ k0 = 2 := by
   have h := HD.out
   rw [stepC_3, if_pos hin] at h
   injection h with e1 e2
   exact ⟨e1.symm, e2.symm⟩
  go_wp2
  go_ret2
  exact ⟨w.heap.size + 1, 0, 0, rfl, rfl, Nat.le_refl _, O20.out, hx2⟩
 have hno : Hid (inB C nm = false) := inB_no.2 (fun h => by have := hneg.2 h; omega)
 clear hneg
 go_wp2_with (at_builtin; refine wpList_append_own _ rfl _ _ 22 rfl (w.heap.size + 2) 9 i0 (.string ⟨#[]⟩) 1 16 Tryz.underlying22 hti hz0 hz1 hz2 rfl (by decide) (.slice (some ⟨g, 0, none⟩) cn c) cn (strV C) rfl (O21.out.alloc _) ⟨w2.heap.size, 0, none⟩ 1 1 [.string nm] rfl rfl (one_cellsS w2 nm) (by intro u hu; simp at hu; subst hu; rfl) (by unfold maxLen; omega) (by omega) (by simp; omega) ?_)
 intro v3 w3 own3 hgrow3 hnn3
 have hbn : Below (w.heap.size + 2) w2 w3 := ((Below.refl _ _).alloc (by have := O21.out.lt g rfl; omega) _).grown hgrow3 (by have := O21.out.lt g rfl; simp; omega) (fun kk hkk => (O21.out.lt kk hkk).1)
 have hx3 : Below w.heap.size w w3 := hx2.trans (hbn.mono (by omega))
 have hvn : v3 ≠ .slice none 0 0 := by first | exact hnn3 | exact fun e => by simp at e hnn3
 obtain ⟨g3, c3, rfl, hc3⟩ := own_fmS own3 hvn
 have O30 : Hid (w3.ownsRow w.heap.size 9 1 (.slice (some ⟨w.heap.size + 1, 0, none⟩) 0 0) 0 (strV [])) := own_keepW O20.out (Nat.le_refl _) (hbn.block _ (by omega))
 have O31 := hid (p := w3.ownsRow (w.heap.size + 2) 9 1 (.slice (some ⟨g3, 0, none⟩) (cn + 1) c3) (cn + 1) (strV (C ++ [nm]))) (by
   rw [show strV (C ++ [nm]) = strV C ++ [.string nm] from List.map_append]
   exact own3)
 have r3 := (hbn.cell (p := ⟨w.heap.size, 3, none⟩) (show w.heap.size < w.heap.size + 2 by omega)).trans q3
 clear own3 hgrow3 hnn3 hbn hvn
 clear q1 q3 O20 O21 hx2 hsz2
 go_wp2_with fail
 refine (l9has_spec sa sc S sn HSN.out ca cc C cn HN.out _ (HV.out.sum.below hx3) HV.out.fitI hs6 (HC.out.below hx3) (by unfold maxLen; omega) r HR.out).mono ?_
 rintro e w4 ⟨rfl, hb4⟩
 have hx4 := chain hx3 hb4
 have O40 : Hid (w4.ownsRow w.heap.size 9 1 (.slice (some ⟨w.heap.size + 1, 0, none⟩) 0 0) 0 (strV [])) := own_below O30.out hb4
 have O41 : Hid (w4.ownsRow (w.heap.size + 2) 9 1 (.slice (some ⟨g3, 0, none⟩) (cn + 1) c3) (cn + 1) (strV (C ++ [nm]))) := own_below O31.out hb4
 clear hb4 hx3 O30 O31
 cases r
 · obtain ⟨rfl, rfl⟩ : D = [] ∧ k0 = 3 := by
   have h := HD.out
   rw [stepC_3, if_neg (by rw [hno.out]; decide), if_neg (by rw [HR.out]; decide)] at h
   injection h with e1 e2
   exact ⟨e1.symm, e2.symm⟩
  go_wp2
  go_ret2
  exact ⟨w.heap.size + 1, 0, 0, rfl, rfl, Nat.le_refl _, O40.out, hx4⟩
 have HL := hid (p := (C ++ [nm]).length = cn + 1) (by rw [List.length_append, HN.out]; rfl)
 by_cases h6 : cn = 6
 · obtain ⟨rfl, rfl⟩ : D = [] ∧ k0 = 4 := by
   have h := HD.out
   rw [stepC_3, if_neg (by rw [hno.out]; decide), if_pos HR.out] at h
   unfold manyC at h
   rw [if_neg (by rw [HL.out]; omega)] at h
   injection h with e1 e2
   exact ⟨e1.symm, e2.symm⟩
  have hi6 : (6 : Int) < ((cn + 1 : Nat) : Int) := by omega
  obtain ⟨m, hm⟩ : ∃ m, cn + 1 = m := ⟨_, rfl⟩
  rw [hm] at hi6 ⊢
  clear hm h6
  go_wp2
  go_ret2
  exact ⟨w.heap.size + 1, 0, 0, rfl, rfl, Nat.le_refl _, O40.out, hx4⟩
 obtain ⟨rfl, rfl⟩ : (C ++ [nm]) = D ∧ 0 = k0 := by
  have h := HD.out
  rw [stepC_3, if_neg (by rw [hno.out]; decide), if_pos HR.out] at h
  unfold manyC at h
  rw [if_pos (by rw [HL.out]; omega)] at h
  injection h with e1 e2
  exact ⟨e1, e2⟩
 have hi6 : ¬ (6 : Int) < ((cn + 1 : Nat) : Int) := by omega
 have fin : Hid (ShpOut w (C ++ [nm]) 0 (.returned (.tuple #[.slice (some ⟨g3, 0, none⟩) (cn + 1) c3, .int .i64 0])) _) := ⟨g3, cn + 1, c3, HL.out, rfl, hc3, own_lowS O41.out (by omega), hx4⟩
 obtain ⟨m, hm⟩ : ∃ m, cn + 1 = m := ⟨_, rfl⟩
 rw [hm] at hi6 fin ⊢
 clear hm h6
 go_wp2
 go_ret2
 exact fin.out
set_option maxRecDepth 100000 in
set_option maxHeartbeats 4000000 in
theorem step_4 (ba : Option Addr) (bn bc : Nat) (T : List TB) (hbn : T.length = bn) (ca : Option Addr) (cn cc : Nat) (C : List ByteArray) (hcn : C.length = cn) (nm : ByteArray) (na : Option Addr) (nn nc : Nat) (N : List ByteArray) (hnn : N.length = nn) (sa : Option Addr) (sn sc : Nat) (S : List TI) (hsn : S.length = sn) (dn : Bool) (ct sk : Int) (w : World) (hT : TabsAt w ba T) (hC : StrsAt w ca C) (hnil : ca = none → cc = 0) (hV : SivAt w na nc sa ⟨4, nm, N, S, dn, ct, sk⟩) (hb : baseB T = true) (hc : namesB C 1 6 = true) (hok : sieveB ⟨4, nm, N, S, dn, ct, sk⟩ = true) (D : List ByteArray) (k0 : Int) (hD : stepC T C ⟨4, nm, N, S, dn, ct, sk⟩ = (D, k0)) :
  Calls Tryz.prog 54 #[.slice ba bn bc, .slice ca cn cc, .agg #[.int .i64 4, .string nm, .slice na nn nc, .slice sa sn sc, .bool dn, .int .i64 ct, .int .i64 sk]] w (ShpOut w D k0) := by
 obtain ⟨i0, hti, hz0, hz1, hz2⟩ := info_parts infoTx
 have hc6 : cn ≤ 6 ∧ 1 ≤ cn := by
  have := (namesB_iff.1 hc).2.2
  omega
 obtain ⟨hc6, hc1⟩ := hc6
 have HT := hid hT
 have HC := hid hC
 have HN := hid hcn
 have HV := hid hV
 have HSN := hid hsn
 have HNN := hid hnn
 have HBN := hid hbn
 have HB := hid hb
 have HOK := hid hok
 have hs6 : sn ≤ maxLen := by rw [← hsn]; exact hV.lenI
 have HD := hid hD
 have hA : ∀ o o', Below w.heap.size w ((w.alloc o).alloc o') := fun o o' => ((Below.refl _ _).alloc (Nat.le_refl _) o).alloc (by simp) o'
 clear hT hC hcn hV hsn hnn hbn hb hc hok hD
 go_enter Tryz.func54, Tryz.ntmps54
 go_wp2_with fail
 refine (texts_spec ca cc C cn HN.out _ (HC.out.below (hA _ _)) hnil (by omega)).mono ?_
 rintro e w1 ⟨g, c, rfl, hg1, hgc, ho, hb1⟩
 obtain ⟨⟨p0, p1, p2, p3, p4, p5, p6, hsz⟩, o0, o1, hx⟩ := begun HN.out hb1 ho
 have O0 := hid o0
 have O1 := hid o1
 clear hb1 ho o0 o1 hg1 hA
 have hn6 : nn ≤ 6 := by
  have h := HOK.out
  simp [sieveB, names10] at h
  have := (namesB_iff.1 h.2.2).2.2
  have := HNN.out
  omega
 go_wp2
 have HQ : Hid ((w1.cell? ⟨w.heap.size, 0, none⟩ = some (.int .i64 4) ∧ w1.cell? ⟨w.heap.size, 2, none⟩ = some (.slice na nn nc)) ∧ w.heap.size < w1.heap.size) := ⟨⟨p0, p2⟩, hsz⟩
 clear p0 p1 p2 p3 p4 p5 p6 hsz
 go_loopw [12] (fun kk wr => ∃ k : Nat, k ≤ nn ∧ kk = .int .i64 k ∧ Hid ((N.take k).all (inB C) = true) ∧ Below w1.heap.size w1 wr) (fun kk _ => nn - (intOf kk).toNat)
 case atStart => exact ⟨0, Nat.zero_le _, rfl, rfl, Below.refl _ _⟩
 case round =>
  obtain ⟨k, hk, rfl, hal, hbw⟩ := hrel
  have hxw := chain hx hbw
  have q0 := (hbw.cell (p := ⟨w.heap.size, 0, none⟩) HQ.out.2).trans HQ.out.1.1
  have q2 := (hbw.cell (p := ⟨w.heap.size, 2, none⟩) HQ.out.2).trans HQ.out.1.2
  have hszw : w.heap.size < wr.heap.size := Nat.lt_of_lt_of_le HQ.out.2 hbw.size
  have Ow0 : Hid (wr.ownsRow w.heap.size 9 1 (.slice (some ⟨w.heap.size + 1, 0, none⟩) 0 0) 0 (strV [])) := own_below O0.out hbw
  by_cases hlt : k < nn
  · have hlk : k < N.length := by rw [HNN.out]; exact hlt
   obtain ⟨b1, o1, rfl, hg, c0⟩ := (HV.out.names.below hxw) k hlk
   dsimp only at c0
   have hst : (N.take (k + 1)).all (inB C) = ((N.take k).all (inB C) && inB C N[k]) := by
    rw [List.take_succ_eq_append_getElem hlk, List.all_append]; simp
   have hnone : inB C N[k] = false → N.all (inB C) = false := by
    intro h
    rw [List.all_eq_false]
    exact ⟨N[k], List.getElem_mem hlk, by rw [h]; decide⟩
   have HST := hid hst
   have HNO := hid hnone
   clear hst hnone
   generalize N[k] = x at c0 HST HNO
   have hi0 : (0 : Int) ≤ (k : Int) := by omega
   have hi1 : (k : Int) < (nn : Int) := by omega
   clear hlk
   go_wp2_with fail
   refine (at_specN cn ca cc C HN.out x _ (HC.out.below hxw) (by unfold maxLen; omega)).mono ?_
   rintro e w2 ⟨q, rfl, hat, hb2⟩
   have hneg := hat.neg
   have hbw2 : Below w1.heap.size w1 w2 := chain hbw hb2
   clear c0 q0 q2
   by_cases hr : q < 0
   · have hno : inB C x = false := inB_no.2 (fun h => by have := hneg.2 h; omega)
    have O20 : Hid (w2.ownsRow w.heap.size 9 1 (.slice (some ⟨w.heap.size + 1, 0, none⟩) 0 0) 0 (strV [])) := own_below Ow0.out hb2
    have hx2 := chain hxw hb2
    obtain ⟨rfl, rfl⟩ : D = [] ∧ k0 = 3 := by
     have h := HD.out
     rw [stepC_4, if_neg (by rw [HNO.out hno]; decide)] at h
     injection h with e1 e2
     exact ⟨e1.symm, e2.symm⟩
    go_wp2
    go_ret2
    exact ⟨w.heap.size + 1, 0, 0, rfl, rfl, Nat.le_refl _, O20.out, hx2⟩
   have hin : inB C x = true := inB_iff.2 (hneg.1 (by omega))
   have HA2 := hid (p := (N.take (k + 1)).all (inB C) = true) (by rw [HST.out, hal.out, hin]; rfl)
   clear hneg hat HST HNO hin hal
   go_wp2
   go_roundw
   case rel => exact ⟨k + 1, by omega, by go_num, HA2, hbw2⟩
   case measure => simp [intOf]; omega
  · have hkl : k = nn := by omega
   subst hkl
   have hi1 : ¬ (k : Int) < (k : Int) := by omega
   have HAL : Hid (N.all (inB C) = true) := by
    have h := hal.out
    rw [List.take_of_length_le (by rw [HNN.out]; exact Nat.le_refl _)] at h
    exact h
   clear hal hk hlt
   go_wp2_with fail
   refine (texts_spec na nc N k HNN.out _ (HV.out.names.below hxw) HV.out.nilN (by omega)).mono ?_
   rintro e w2 ⟨g2, c2, rfl, hg2, hgc2, ho2, hb2⟩
   have hx2 := chain hxw hb2
   have O20 : Hid (w2.ownsRow w.heap.size 9 1 (.slice (some ⟨w.heap.size + 1, 0, none⟩) 0 0) 0 (strV [])) := own_below Ow0.out hb2
   have O21 : Hid (w2.ownsRow (w.heap.size + 2) 9 1 (.slice (some ⟨g2, 0, none⟩) k c2) k (strV N)) := by
    have h := ho2
    rw [HNN.out] at h
    have h2 := (O1.out.lt g rfl)
    have h3 := hbw.size
    exact own_lowS h (by omega)
   have r0 := (hb2.cell (p := ⟨w.heap.size, 0, none⟩) hszw).trans q0
   have hsz2 : w.heap.size < w2.heap.size := Nat.lt_of_lt_of_le hszw hb2.size
   clear q0 q2 ho2 hb2 hg2 hszw
   obtain ⟨rfl, rfl⟩ : N = D ∧ 0 = k0 := by
    have h := HD.out
    rw [stepC_4, if_pos HAL.out] at h
    unfold manyC at h
    rw [if_pos (by rw [HNN.out]; exact hn6)] at h
    injection h with e1 e2
    exact ⟨e1, e2⟩
   have hi6 : ¬ (6 : Int) < (k : Int) := by omega
   go_wp2
   go_ret2
   exact ⟨g2, k, c2, HNN.out, rfl, hgc2, own_lowS O21.out (by omega), hx2⟩
set_option maxRecDepth 100000 in
set_option maxHeartbeats 4000000 in
theorem step_7 (ba : Option Addr) (bn bc : Nat) (T : List TB) (hbn : T.length = bn) (ca : Option Addr) (cn cc : Nat) (C : List ByteArray) (hcn : C.length = cn) (nm : ByteArray) (na : Option Addr) (nn nc : Nat) (N : List ByteArray) (hnn : N.length = nn) (sa : Option Addr) (sn sc : Nat) (S : List TI) (hsn : S.length = sn) (dn : Bool) (ct sk : Int) (w : World) (hT : TabsAt w ba T) (hC : StrsAt w ca C) (hnil : ca = none → cc = 0) (hV : SivAt w na nc sa ⟨7, nm, N, S, dn, ct, sk⟩) (hb : baseB T = true) (hc : namesB C 1 6 = true) (hok : sieveB ⟨7, nm, N, S, dn, ct, sk⟩ = true) (D : List ByteArray) (k0 : Int) (hD : stepC T C ⟨7, nm, N, S, dn, ct, sk⟩ = (D, k0)) :
  Calls Tryz.prog 54 #[.slice ba bn bc, .slice ca cn cc, .agg #[.int .i64 7, .string nm, .slice na nn nc, .slice sa sn sc, .bool dn, .int .i64 ct, .int .i64 sk]] w (ShpOut w D k0) := by
 obtain ⟨i0, hti, hz0, hz1, hz2⟩ := info_parts infoTx
 have hc6 : cn ≤ 6 ∧ 1 ≤ cn := by
  have := (namesB_iff.1 hc).2.2
  omega
 obtain ⟨hc6, hc1⟩ := hc6
 have HT := hid hT
 have HC := hid hC
 have HN := hid hcn
 have HV := hid hV
 have HSN := hid hsn
 have HNN := hid hnn
 have HBN := hid hbn
 have HB := hid hb
 have HOK := hid hok
 have hs6 : sn ≤ maxLen := by rw [← hsn]; exact hV.lenI
 have HD := hid hD
 have hA : ∀ o o', Below w.heap.size w ((w.alloc o).alloc o') := fun o o' => ((Below.refl _ _).alloc (Nat.le_refl _) o).alloc (by simp) o'
 clear hT hC hcn hV hsn hnn hbn hb hc hok hD
 go_enter Tryz.func54, Tryz.ntmps54
 go_wp2_with fail
 refine (texts_spec ca cc C cn HN.out _ (HC.out.below (hA _ _)) hnil (by omega)).mono ?_
 rintro e w1 ⟨g, c, rfl, hg1, hgc, ho, hb1⟩
 obtain ⟨⟨p0, p1, p2, p3, p4, p5, p6, hsz⟩, o0, o1, hx⟩ := begun HN.out hb1 ho
 have O0 := hid o0
 have O1 := hid o1
 clear hb1 ho o0 o1 hg1 hA
 have hn6 : nn ≤ 4 := by
  have h := HOK.out
  simp [sieveB, names10] at h
  have := (namesB_iff.1 h.2.2).2.2
  have := HNN.out
  omega
 go_wp2
 have HQ : Hid ((w1.cell? ⟨w.heap.size, 0, none⟩ = some (.int .i64 7) ∧ w1.cell? ⟨w.heap.size, 2, none⟩ = some (.slice na nn nc)) ∧ w.heap.size < w1.heap.size) := ⟨⟨p0, p2⟩, hsz⟩
 clear p0 p1 p2 p3 p4 p5 p6 hsz
 go_loopw [12] (fun kk wr => ∃ k : Nat, k ≤ nn ∧ kk = .int .i64 k ∧ Hid ((N.take k).all (inB C) = true) ∧ Below w1.heap.size w1 wr) (fun kk _ => nn - (intOf kk).toNat)
 case atStart => exact ⟨0, Nat.zero_le _, rfl, rfl, Below.refl _ _⟩
 case round =>
  obtain ⟨k, hk, rfl, hal, hbw⟩ := hrel
  have hxw := chain hx hbw
  have q0 := (hbw.cell (p := ⟨w.heap.size, 0, none⟩) HQ.out.2).trans HQ.out.1.1
  have q2 := (hbw.cell (p := ⟨w.heap.size, 2, none⟩) HQ.out.2).trans HQ.out.1.2
  have hszw : w.heap.size < wr.heap.size := Nat.lt_of_lt_of_le HQ.out.2 hbw.size
  have Ow0 : Hid (wr.ownsRow w.heap.size 9 1 (.slice (some ⟨w.heap.size + 1, 0, none⟩) 0 0) 0 (strV [])) := own_below O0.out hbw
  by_cases hlt : k < nn
  · have hlk : k < N.length := by rw [HNN.out]; exact hlt
   obtain ⟨b1, o1, rfl, hg, c0⟩ := (HV.out.names.below hxw) k hlk
   dsimp only at c0
   have hst : (N.take (k + 1)).all (inB C) = ((N.take k).all (inB C) && inB C N[k]) := by
    rw [List.take_succ_eq_append_getElem hlk, List.all_append]; simp
   have hnone : inB C N[k] = false → N.all (inB C) = false := by
    intro h
    rw [List.all_eq_false]
    exact ⟨N[k], List.getElem_mem hlk, by rw [h]; decide⟩
   have HST := hid hst
   have HNO := hid hnone
   clear hst hnone
   generalize N[k] = x at c0 HST HNO
   have hi0 : (0 : Int) ≤ (k : Int) := by omega
   have hi1 : (k : Int) < (nn : Int) := by omega
   clear hlk
   go_wp2_with fail
   refine (at_specN cn ca cc C HN.out x _ (HC.out.below hxw) (by unfold maxLen; omega)).mono ?_
   rintro e w2 ⟨q, rfl, hat, hb2⟩
   have hneg := hat.neg
   have hbw2 : Below w1.heap.size w1 w2 := chain hbw hb2
   clear c0 q0 q2
   by_cases hr : q < 0
   · have hno : inB C x = false := inB_no.2 (fun h => by have := hneg.2 h; omega)
    have O20 : Hid (w2.ownsRow w.heap.size 9 1 (.slice (some ⟨w.heap.size + 1, 0, none⟩) 0 0) 0 (strV [])) := own_below Ow0.out hb2
    have hx2 := chain hxw hb2
    obtain ⟨rfl, rfl⟩ : D = [] ∧ k0 = 3 := by
     have h := HD.out
     rw [stepC_7, if_neg (by rw [HNO.out hno]; decide)] at h
     injection h with e1 e2
     exact ⟨e1.symm, e2.symm⟩
    go_wp2
    go_ret2
    exact ⟨w.heap.size + 1, 0, 0, rfl, rfl, Nat.le_refl _, O20.out, hx2⟩
   have hin : inB C x = true := inB_iff.2 (hneg.1 (by omega))
   have HA2 := hid (p := (N.take (k + 1)).all (inB C) = true) (by rw [HST.out, hal.out, hin]; rfl)
   clear hneg hat HST HNO hin hal
   go_wp2
   go_roundw
   case rel => exact ⟨k + 1, by omega, by go_num, HA2, hbw2⟩
   case measure => simp [intOf]; omega
  · have hkl : k = nn := by omega
   subst hkl
   have hi1 : ¬ (k : Int) < (k : Int) := by omega
   have HAL : Hid (N.all (inB C) = true) := by
    have h := hal.out
    rw [List.take_of_length_le (by rw [HNN.out]; exact Nat.le_refl _)] at h
    exact h
   clear hal hk hlt
   go_wp2_with fail
   refine (texts_spec na nc N k HNN.out _ (HV.out.names.below hxw) HV.out.nilN (by omega)).mono ?_
   rintro e w2 ⟨g2, c2, rfl, hg2, hgc2, ho2, hb2⟩
   have hx2 := chain hxw hb2
   have O20 : Hid (w2.ownsRow w.heap.size 9 1 (.slice (some ⟨w.heap.size + 1, 0, none⟩) 0 0) 0 (strV [])) := own_below Ow0.out hb2
   have O21 : Hid (w2.ownsRow (w.heap.size + 2) 9 1 (.slice (some ⟨g2, 0, none⟩) k c2) k (strV N)) := by
    have h := ho2
    rw [HNN.out] at h
    have h2 := (O1.out.lt g rfl)
    have h3 := hbw.size
    exact own_lowS h (by omega)
   have r0 := (hb2.cell (p := ⟨w.heap.size, 0, none⟩) hszw).trans q0
   have hsz2 : w.heap.size < w2.heap.size := Nat.lt_of_lt_of_le hszw hb2.size
   clear q0 q2 ho2 hb2 hg2 hszw
   have HA2 : Hid (StrsAt w2 (some ⟨g2, 0, none⟩) N) := by
    have h := O21.out
    rw [← HNN.out] at h
    exact own_strs h
   go_wp2_with fail
   refine (at_specN k (some ⟨g2, 0, none⟩) c2 N HNN.out ⟨#[99, 111, 117, 110, 116]⟩ _ HA2.out (by unfold maxLen; omega)).mono ?_
   rintro e w3 ⟨q, rfl, hat, hb3⟩
   have hx3 := chain hx2 hb3
   have O30 : Hid (w3.ownsRow w.heap.size 9 1 (.slice (some ⟨w.heap.size + 1, 0, none⟩) 0 0) 0 (strV [])) := own_below O20.out hb3
   have O31 : Hid (w3.ownsRow (w.heap.size + 2) 9 1 (.slice (some ⟨g2, 0, none⟩) k c2) k (strV N)) := own_below O21.out hb3
   have hneg := hat.neg
   have hsz3 : w.heap.size + 2 ≤ w3.heap.size := by have := O31.out.lt g2 rfl; omega
   clear hb3 O20 O21 HA2 hx2 hsz2
   by_cases hr : 0 ≤ q
   · have hin : inB N countT = true := inB_iff.2 (hneg.1 hr)
    clear hneg
    obtain ⟨rfl, rfl⟩ : D = [] ∧ k0 = 2 := by
     have h := HD.out
     rw [stepC_7, if_pos HAL.out, if_pos hin] at h
     injection h with e1 e2
     exact ⟨e1.symm, e2.symm⟩
    go_wp2
    go_ret2
    exact ⟨w.heap.size + 1, 0, 0, rfl, rfl, Nat.le_refl _, O30.out, hx3⟩
   have hno : Hid (inB N countT = false) := inB_no.2 (fun h => by have := hneg.2 h; omega)
   clear hneg hat
   go_wp2_with (at_builtin; refine wpList_append_own _ rfl _ _ 22 rfl (w.heap.size + 2) 9 i0 (.string ⟨#[]⟩) 1 16 Tryz.underlying22 hti hz0 hz1 hz2 rfl (by decide) (.slice (some ⟨g2, 0, none⟩) k c2) k (strV N) rfl (O31.out.alloc _) ⟨w3.heap.size, 0, none⟩ 1 1 [.string ⟨#[99, 111, 117, 110, 116]⟩] rfl rfl (one_cellsS w3 ⟨#[99, 111, 117, 110, 116]⟩) (by intro u hu; simp at hu; subst hu; rfl) (by unfold maxLen; omega) (by omega) (by simp; omega) ?_)
   intro v4 w4 own4 hgrow4 hnn4
   have hbn : Below (w.heap.size + 2) w3 w4 := ((Below.refl _ _).alloc (by have := O31.out.lt g2 rfl; omega) _).grown hgrow4 (by have := O31.out.lt g2 rfl; simp; omega) (fun kk hkk => (O31.out.lt kk hkk).1)
   have hx4 : Below w.heap.size w w4 := hx3.trans (hbn.mono (by omega))
   have hvn : v4 ≠ .slice none 0 0 := by first | exact hnn4 | exact fun e => by simp at e hnn4
   obtain ⟨g3, c3, rfl, hc3⟩ := own_fmS own4 hvn
   have O40 : Hid (w4.ownsRow w.heap.size 9 1 (.slice (some ⟨w.heap.size + 1, 0, none⟩) 0 0) 0 (strV [])) := own_keepW O30.out (Nat.le_refl _) (hbn.block _ (by omega))
   have O41 := hid (p := w4.ownsRow (w.heap.size + 2) 9 1 (.slice (some ⟨g3, 0, none⟩) (k + 1) c3) (k + 1) (strV (N ++ [countT]))) (by
     rw [show strV (N ++ [countT]) = strV N ++ [.string countT] from List.map_append]
     exact own4)
   clear own4 hgrow4 hnn4 hbn hvn O30 O31 hx3
   obtain ⟨rfl, rfl⟩ : N ++ [countT] = D ∧ 0 = k0 := by
    have h := HD.out
    rw [stepC_7, if_pos HAL.out, if_neg (by rw [hno.out]; decide)] at h
    unfold manyC at h
    rw [if_pos (by rw [List.length_append, HNN.out]; simp; omega)] at h
    injection h with e1 e2
    exact ⟨e1, e2⟩
   have hi6 : ¬ (6 : Int) < ((k + 1 : Nat) : Int) := by omega
   have fin : Hid (ShpOut w (N ++ [countT]) 0 (.returned (.tuple #[.slice (some ⟨g3, 0, none⟩) (k + 1) c3, .int .i64 0])) w4) := ⟨g3, k + 1, c3, by rw [List.length_append, HNN.out]; rfl, rfl, hc3, own_lowS O41.out (by omega), hx4⟩
   obtain ⟨m, hm⟩ : ∃ m, k + 1 = m := ⟨_, rfl⟩
   rw [hm] at hi6 fin ⊢
   clear hm
   go_wp2
   go_ret2
   exact fin.out
set_option maxRecDepth 100000 in
set_option maxHeartbeats 4000000 in
theorem step_5 (ba : Option Addr) (bn bc : Nat) (T : List TB) (hbn : T.length = bn) (ca : Option Addr) (cn cc : Nat) (C : List ByteArray) (hcn : C.length = cn) (nm : ByteArray) (na : Option Addr) (nn nc : Nat) (N : List ByteArray) (hnn : N.length = nn) (sa : Option Addr) (sn sc : Nat) (S : List TI) (hsn : S.length = sn) (dn : Bool) (ct sk : Int) (w : World) (hT : TabsAt w ba T) (hC : StrsAt w ca C) (hnil : ca = none → cc = 0) (hV : SivAt w na nc sa ⟨5, nm, N, S, dn, ct, sk⟩) (hb : baseB T = true) (hc : namesB C 1 6 = true) (hok : sieveB ⟨5, nm, N, S, dn, ct, sk⟩ = true) (D : List ByteArray) (k0 : Int) (hD : stepC T C ⟨5, nm, N, S, dn, ct, sk⟩ = (D, k0)) :
  Calls Tryz.prog 54 #[.slice ba bn bc, .slice ca cn cc, .agg #[.int .i64 5, .string nm, .slice na nn nc, .slice sa sn sc, .bool dn, .int .i64 ct, .int .i64 sk]] w (ShpOut w D k0) := by
 obtain ⟨i0, hti, hz0, hz1, hz2⟩ := info_parts infoTx
 have hc6 : cn ≤ 6 ∧ 1 ≤ cn := by
  have := (namesB_iff.1 hc).2.2
  omega
 obtain ⟨hc6, hc1⟩ := hc6
 have HT := hid hT
 have HC := hid hC
 have HN := hid hcn
 have HV := hid hV
 have HSN := hid hsn
 have HNN := hid hnn
 have HBN := hid hbn
 have HB := hid hb
 have HOK := hid hok
 have hs6 : sn ≤ maxLen := by rw [← hsn]; exact hV.lenI
 have HD := hid hD
 have hA : ∀ o o', Below w.heap.size w ((w.alloc o).alloc o') := fun o o' => ((Below.refl _ _).alloc (Nat.le_refl _) o).alloc (by simp) o'
 clear hT hC hcn hV hsn hnn hbn hb hc hok hD
 go_enter Tryz.func54, Tryz.ntmps54
 go_wp2_with fail
 refine (texts_spec ca cc C cn HN.out _ (HC.out.below (hA _ _)) hnil (by omega)).mono ?_
 rintro e w1 ⟨g, c, rfl, hg1, hgc, ho, hb1⟩
 obtain ⟨⟨p0, p1, p2, p3, p4, p5, p6, hsz⟩, o0, o1, hx⟩ := begun HN.out hb1 ho
 have O0 := hid o0
 have O1 := hid o1
 clear hb1 ho o0 o1 hg1 hA
 have hbl : bn ≤ 5 := by
  have h := HB.out
  unfold baseB at h
  simp only [Bool.and_eq_true, decide_eq_true_eq] at h
  have := HBN.out
  omega
 go_wp2_with fail
 refine (find_spec ba bc T bn HBN.out nm _ (HT.out.below hx) (by unfold maxLen; omega)).mono ?_
 rintro e w2 ⟨r, rfl, hat, hb2⟩
 have hx2 := chain hx hb2
 have O20 : Hid (w2.ownsRow w.heap.size 9 1 (.slice (some ⟨w.heap.size + 1, 0, none⟩) 0 0) 0 (strV [])) := own_below O0.out hb2
 have O21 : Hid (w2.ownsRow (w.heap.size + 2) 9 1 (.slice (some ⟨g, 0, none⟩) cn c) cn (strV C)) := own_below O1.out hb2
 have q3 := (hb2.cell (p := ⟨w.heap.size, 3, none⟩) hsz).trans p3
 have hsz2 : w.heap.size < w2.heap.size := Nat.lt_of_lt_of_le hsz hb2.size
 clear p0 p1 p2 p3 p4 p5 p6 O0 O1 hb2 hx hsz
 rcases cols_at hat with ⟨rfl, hno⟩ | ⟨t, ht, rfl, hf, hcs, hin⟩
 · have hno' : inB (namesT T) nm = false := inB_no.2 hno
  obtain ⟨rfl, rfl⟩ : D = [] ∧ k0 = 1 := by
   have h := HD.out
   rw [stepC_join 5 (by decide), if_pos hno'] at h
   injection h with e1 e2
   exact ⟨e1.symm, e2.symm⟩
  go_wp2
  go_ret2
  exact ⟨w.heap.size + 1, 0, 0, rfl, rfl, Nat.le_refl _, O20.out, hx2⟩
 have HIN : Hid (inB (namesT T) nm = true) := inB_iff.2 hin
 have hcn1 := cols_names HB.out hin
 obtain ⟨E, hE⟩ : ∃ E, colsOf T nm = E := ⟨_, rfl⟩
 have HE := hid hE
 rw [hE] at hcs hcn1
 have hE6 := (namesB_iff.1 hcn1).2.2
 obtain ⟨m, hm⟩ : ∃ m, E.length = m := ⟨_, rfl⟩
 have HM := hid hm
 rw [hm] at hE6
 have hm6 : m ≤ 6 := by omega
 obtain ⟨b0, o, ca', cc', ra', cr', rfl, hgw, d0, d1, d2, htt⟩ := HT.out t ht
 rw [← hcs, hm] at d1
 have HEA : Hid (StrsAt w ca' E) := by
  have h := htt.cols
  rw [← hcs] at h
  exact h
 have htn : t < bn := by rw [← HBN.out]; exact ht
 have ht0 : ¬ (t : Int) < 0 := by omega
 have ht1 : (t : Int) < (bn : Int) := by omega
 have HD1 : Hid (w.cell? ⟨b0, o + t * 3 + 1, none⟩ = some (.slice ca' m cc') ∧ b0 < w.heap.size) := ⟨d1, hgw⟩
 clear hat hf hcs hin hcn1 hE hm hE6 d0 d1 d2 htt ht hgw
 have HQ3 := hid q3
 clear q3
 go_wp2
 go_loopw [9, 11] (fun v kk wr => ∃ j : Nat, j ≤ m ∧ kk = .int .i64 j ∧ Hid ((wr.ownsRow (w.heap.size + 2) 9 1 v (cn + j) (strV (C ++ E.take j)) ∧ v ≠ .slice none 0 0) ∧ (E.take j).any (inB C) = false) ∧ Below (w.heap.size + 2) w2 wr) (fun _ kk _ => m - (intOf kk).toNat)
 case atStart =>
  refine ⟨0, Nat.zero_le _, rfl, ⟨⟨?_, by simp⟩, rfl⟩, Below.refl _ _⟩
  have h := O21.out
  rw [List.take_zero, List.append_nil]
  exact h
 case round =>
  obtain ⟨j, hj, rfl, hO, hbw⟩ := hrel
  have hxw : Below w.heap.size w wr := hx2.trans (hbw.mono (by omega))
  have hszw : w.heap.size + 2 ≤ wr.heap.size := by
   have h1 := hbw.size
   have h2 := O21.out.lt g rfl
   omega
  have Ow0 : Hid (wr.ownsRow w.heap.size 9 1 (.slice (some ⟨w.heap.size + 1, 0, none⟩) 0 0) 0 (strV [])) := own_keepW O20.out (Nat.le_refl _) (hbw.block _ (by omega))
  have dd : wr.cell? ⟨b0, o + t * 3 + 1, none⟩ = some (.slice ca' m cc') := by
   rw [hxw.cell (p := ⟨b0, o + t * 3 + 1, none⟩) HD1.out.2]; exact HD1.out.1
  by_cases hlt : j < m
  · have hlk : j < E.length := by rw [HM.out]; exact hlt
   obtain ⟨b1, o1, rfl, hg, c0⟩ := (HEA.out.below hxw) j hlk
   have hst : (E.take (j + 1)).any (inB C) = ((E.take j).any (inB C) || inB C E[j]) := by
    rw [List.take_succ_eq_append_getElem hlk, List.any_append]; simp
   have hyes : inB C E[j] = true → E.any (inB C) = true := by
    intro h
    rw [List.any_eq_true]
    exact ⟨E[j], List.getElem_mem hlk, h⟩
   have htk : C ++ E.take (j + 1) = (C ++ E.take j) ++ [E[j]] := by rw [List.take_succ_eq_append_getElem hlk, List.append_assoc]
   have HST := hid hst
   have HYES := hid hyes
   have HTK := hid htk
   clear hst hyes htk
   generalize E[j] = x at c0 HST HYES HTK
   have hi0 : (0 : Int) ≤ (j : Int) := by omega
   have hi1 : (j : Int) < (m : Int) := by omega
   clear hlk
   go_wp2_with fail
   refine (at_specN cn ca cc C HN.out x _ (HC.out.below hxw) (by unfold maxLen; omega)).mono ?_
   rintro e w3 ⟨q, rfl, hat, hb3⟩
   have hneg := hat.neg
   have hx3 := chain hxw hb3
   have dd3 := (hb3.cell (p := ⟨b0, o + t * 3 + 1, none⟩) (Nat.lt_of_lt_of_le HD1.out.2 hxw.size)).trans dd
   have cc3 := (hb3.cell (p := ⟨b1, o1 + j, none⟩) hg).trans c0
   have hbw3 : Below (w.heap.size + 2) w2 w3 := hbw.trans (hb3.mono hszw)
   have hsz3 : w.heap.size + 2 ≤ w3.heap.size := Nat.le_trans hszw hb3.size
   have O31 : Hid (w3.ownsRow (w.heap.size + 2) 9 1 u9 (cn + j) (strV (C ++ E.take j)) ∧ u9 ≠ .slice none 0 0) := ⟨own_below hO.out.1.1 hb3, hO.out.1.2⟩
   have HNOT := hid hO.out.2
   clear dd c0 hO
   by_cases hr : 0 ≤ q
   · have hin : inB C x = true := inB_iff.2 (hneg.1 hr)
    clear hneg
    have O30 : Hid (w3.ownsRow w.heap.size 9 1 (.slice (some ⟨w.heap.size + 1, 0, none⟩) 0 0) 0 (strV [])) := own_below Ow0.out hb3
    obtain ⟨rfl, rfl⟩ : D = [] ∧ k0 = 2 := by
     have h := HD.out
     rw [stepC_join 5 (by decide), if_neg (by rw [HIN.out]; decide), HE.out, if_pos (HYES.out hin)] at h
     injection h with e1 e2
     exact ⟨e1.symm, e2.symm⟩
    go_wp2
    go_ret2
    exact ⟨w.heap.size + 1, 0, 0, rfl, rfl, Nat.le_refl _, O30.out, hx3⟩
   have hno : inB C x = false := inB_no.2 (fun h => by have := hneg.2 h; omega)
   have HN2 := hid (p := (E.take (j + 1)).any (inB C) = false) (by rw [HST.out, HNOT.out, hno]; rfl)
   clear hneg hat HST HYES hno Ow0 HNOT hb3 hbw hxw hszw
   obtain ⟨mj, hmj⟩ : ∃ z, cn + j = z := ⟨_, rfl⟩
   have hmj12 : mj ≤ 12 := by omega
   rw [hmj] at O31
   have HMJ := hid hmj
   clear hmj
   go_wp2_with (at_builtin; refine wpList_append_own _ rfl _ _ 22 rfl (w.heap.size + 2) 9 i0 (.string ⟨#[]⟩) 1 16 Tryz.underlying22 hti hz0 hz1 hz2 rfl (by decide) u9 mj (strV (C ++ E.take j)) rfl (O31.out.1.alloc _) ⟨w3.heap.size, 0, none⟩ 1 1 [.string x] rfl rfl (one_cellsS w3 x) (by intro u hu; simp at hu; subst hu; rfl) (by unfold maxLen; omega) (by omega) (by simp; omega) ?_)
   intro v4 w4 own4 hgrow4 hnn4
   have hbn : Below (w.heap.size + 2) w3 w4 := ((Below.refl _ _).alloc (by omega) _).grown hgrow4 (by simp; omega) (fun kk hkk => (O31.out.1.lt kk hkk).1)
   have hvn : v4 ≠ .slice none 0 0 := by first | exact hnn4 | exact fun e => O31.out.2 (hnn4.1 e).1
   have O4 : Hid ((w4.ownsRow (w.heap.size + 2) 9 1 v4 (cn + (j + 1)) (strV (C ++ E.take (j + 1))) ∧ v4 ≠ .slice none 0 0) ∧ (E.take (j + 1)).any (inB C) = false) := by
    have h : w4.ownsRow (w.heap.size + 2) 9 1 v4 (cn + (j + 1)) (strV (C ++ E.take (j + 1))) := by
     rw [HTK.out, show strV ((C ++ E.take j) ++ [x]) = strV (C ++ E.take j) ++ [.string x] from List.map_append, ← Nat.add_assoc, HMJ.out]
     exact own4
    exact ⟨⟨h, hvn⟩, HN2.out⟩
   have hbw4 : Below (w.heap.size + 2) w2 w4 := hbw3.trans hbn
   clear own4 hgrow4 hnn4 hbn hvn O31 hbw3 hx3 dd3 cc3 hsz3 HMJ HTK
   go_wp2
   go_roundw
   case rel => exact ⟨j + 1, by omega, by go_num, O4, hbw4⟩
   case measure => simp [intOf]; omega
  · have hkl : j = m := by omega
   subst hkl
   have hi1 : ¬ (j : Int) < (j : Int) := by omega
   obtain ⟨g3, c3, hv, hc3⟩ := own_fmS hO.out.1.1 hO.out.1.2
   subst hv
   have HTL : Hid (E.take j = E) := List.take_of_length_le (by rw [HM.out]; exact Nat.le_refl _)
   obtain ⟨ml, hml⟩ : ∃ z, cn + j = z := ⟨_, rfl⟩
   have O31 : Hid (wr.ownsRow (w.heap.size + 2) 9 1 (.slice (some ⟨g3, 0, none⟩) ml c3) ml (strV (C ++ E))) := by
    have h := hO.out.1.1
    rw [HTL.out, hml] at h
    exact h
   have HNY : Hid (E.any (inB C) = false) := by
    have h := hO.out.2
    rw [HTL.out] at h
    exact h
   rw [hml] at hc3 ⊢
   have HLL := hid (p := (C ++ E).length = ml) (by rw [List.length_append, HN.out, HM.out]; exact hml)
   have hml12 : ml ≤ 12 := by omega
   have HOS : Hid (StrsAt wr (some ⟨g3, 0, none⟩) (C ++ E)) := by
    have h := O31.out
    rw [← HLL.out] at h
    exact own_strs h
   have q3 : wr.cell? ⟨w.heap.size, 3, none⟩ = some (.slice sa sn sc) := (hbw.cell (p := ⟨w.heap.size, 3, none⟩) (show w.heap.size < w.heap.size + 2 by omega)).trans HQ3.out
   obtain ⟨r, hr⟩ : ∃ r, hasC (C ++ E) S = r := ⟨_, rfl⟩
   have HR := hid hr
   clear hr hml hO HTL hlt hj
   go_wp2_with fail
   refine (l9has_spec sa sc S sn HSN.out _ _ (C ++ E) ml HLL.out _ (HV.out.sum.below hxw) HV.out.fitI hs6 HOS.out (by unfold maxLen; omega) r HR.out).mono ?_
   rintro e w4 ⟨rfl, hb4⟩
   have hx4 := chain hxw hb4
   have O40 : Hid (w4.ownsRow w.heap.size 9 1 (.slice (some ⟨w.heap.size + 1, 0, none⟩) 0 0) 0 (strV [])) := own_below Ow0.out hb4
   have O41 : Hid (w4.ownsRow (w.heap.size + 2) 9 1 (.slice (some ⟨g3, 0, none⟩) ml c3) ml (strV (C ++ E))) := own_below O31.out hb4
   clear hb4 hxw O31 Ow0 q3 dd hbw HOS
   cases r
   · obtain ⟨rfl, rfl⟩ : D = [] ∧ k0 = 3 := by
     have h := HD.out
     rw [stepC_join 5 (by decide), if_neg (by rw [HIN.out]; decide), HE.out, if_neg (by rw [HNY.out]; decide), if_neg (by rw [HR.out]; decide)] at h
     injection h with e1 e2
     exact ⟨e1.symm, e2.symm⟩
    go_wp2
    go_ret2
    exact ⟨w.heap.size + 1, 0, 0, rfl, rfl, Nat.le_refl _, O40.out, hx4⟩
   have HD2 : Hid (manyC (C ++ E) = (D, k0)) := by
    have h := HD.out
    rw [stepC_join 5 (by decide), if_neg (by rw [HIN.out]; decide), HE.out, if_neg (by rw [HNY.out]; decide), if_pos HR.out] at h
    exact h
   by_cases h6 : 6 < ml
   · obtain ⟨rfl, rfl⟩ : D = [] ∧ k0 = 4 := by
     have h := HD2.out
     unfold manyC at h
     rw [if_neg (by rw [HLL.out]; omega)] at h
     injection h with e1 e2
     exact ⟨e1.symm, e2.symm⟩
    have hi6 : (6 : Int) < (ml : Int) := by omega
    go_wp2
    go_ret2
    exact ⟨w.heap.size + 1, 0, 0, rfl, rfl, Nat.le_refl _, O40.out, hx4⟩
   obtain ⟨rfl, rfl⟩ : C ++ E = D ∧ 0 = k0 := by
    have h := HD2.out
    unfold manyC at h
    rw [if_pos (by rw [HLL.out]; omega)] at h
    injection h with e1 e2
    exact ⟨e1, e2⟩
   have hi6 : ¬ (6 : Int) < (ml : Int) := by omega
   go_wp2
   go_ret2
   exact ⟨g3, ml, c3, HLL.out, rfl, hc3, own_lowS O41.out (by omega), hx4⟩
set_option maxRecDepth 100000 in
set_option maxHeartbeats 4000000 in
theorem step_6 (ba : Option Addr) (bn bc : Nat) (T : List TB) (hbn : T.length = bn) (ca : Option Addr) (cn cc : Nat) (C : List ByteArray) (hcn : C.length = cn) (nm : ByteArray) (na : Option Addr) (nn nc : Nat) (N : List ByteArray) (hnn : N.length = nn) (sa : Option Addr) (sn sc : Nat) (S : List TI) (hsn : S.length = sn) (dn : Bool) (ct sk : Int) (w : World) (hT : TabsAt w ba T) (hC : StrsAt w ca C) (hnil : ca = none → cc = 0) (hV : SivAt w na nc sa ⟨6, nm, N, S, dn, ct, sk⟩) (hb : baseB T = true) (hc : namesB C 1 6 = true) (hok : sieveB ⟨6, nm, N, S, dn, ct, sk⟩ = true) (D : List ByteArray) (k0 : Int) (hD : stepC T C ⟨6, nm, N, S, dn, ct, sk⟩ = (D, k0)) :
  Calls Tryz.prog 54 #[.slice ba bn bc, .slice ca cn cc, .agg #[.int .i64 6, .string nm, .slice na nn nc, .slice sa sn sc, .bool dn, .int .i64 ct, .int .i64 sk]] w (ShpOut w D k0) := by
 obtain ⟨i0, hti, hz0, hz1, hz2⟩ := info_parts infoTx
 have hc6 : cn ≤ 6 ∧ 1 ≤ cn := by
  have := (namesB_iff.1 hc).2.2
  omega
 obtain ⟨hc6, hc1⟩ := hc6
 have HT := hid hT
 have HC := hid hC
 have HN := hid hcn
 have HV := hid hV
 have HSN := hid hsn
 have HNN := hid hnn
 have HBN := hid hbn
 have HB := hid hb
 have HOK := hid hok
 have hs6 : sn ≤ maxLen := by rw [← hsn]; exact hV.lenI
 have HD := hid hD
 have hA : ∀ o o', Below w.heap.size w ((w.alloc o).alloc o') := fun o o' => ((Below.refl _ _).alloc (Nat.le_refl _) o).alloc (by simp) o'
 clear hT hC hcn hV hsn hnn hbn hb hc hok hD
 go_enter Tryz.func54, Tryz.ntmps54
 go_wp2_with fail
 refine (texts_spec ca cc C cn HN.out _ (HC.out.below (hA _ _)) hnil (by omega)).mono ?_
 rintro e w1 ⟨g, c, rfl, hg1, hgc, ho, hb1⟩
 obtain ⟨⟨p0, p1, p2, p3, p4, p5, p6, hsz⟩, o0, o1, hx⟩ := begun HN.out hb1 ho
 have O0 := hid o0
 have O1 := hid o1
 clear hb1 ho o0 o1 hg1 hA
 have hbl : bn ≤ 5 := by
  have h := HB.out
  unfold baseB at h
  simp only [Bool.and_eq_true, decide_eq_true_eq] at h
  have := HBN.out
  omega
 go_wp2_with fail
 refine (find_spec ba bc T bn HBN.out nm _ (HT.out.below hx) (by unfold maxLen; omega)).mono ?_
 rintro e w2 ⟨r, rfl, hat, hb2⟩
 have hx2 := chain hx hb2
 have O20 : Hid (w2.ownsRow w.heap.size 9 1 (.slice (some ⟨w.heap.size + 1, 0, none⟩) 0 0) 0 (strV [])) := own_below O0.out hb2
 have O21 : Hid (w2.ownsRow (w.heap.size + 2) 9 1 (.slice (some ⟨g, 0, none⟩) cn c) cn (strV C)) := own_below O1.out hb2
 have q3 := (hb2.cell (p := ⟨w.heap.size, 3, none⟩) hsz).trans p3
 have hsz2 : w.heap.size < w2.heap.size := Nat.lt_of_lt_of_le hsz hb2.size
 clear p0 p1 p2 p3 p4 p5 p6 O0 O1 hb2 hx hsz
 rcases cols_at hat with ⟨rfl, hno⟩ | ⟨t, ht, rfl, hf, hcs, hin⟩
 · have hno' : inB (namesT T) nm = false := inB_no.2 hno
  obtain ⟨rfl, rfl⟩ : D = [] ∧ k0 = 1 := by
   have h := HD.out
   rw [stepC_join 6 (by decide), if_pos hno'] at h
   injection h with e1 e2
   exact ⟨e1.symm, e2.symm⟩
  go_wp2
  go_ret2
  exact ⟨w.heap.size + 1, 0, 0, rfl, rfl, Nat.le_refl _, O20.out, hx2⟩
 have HIN : Hid (inB (namesT T) nm = true) := inB_iff.2 hin
 have hcn1 := cols_names HB.out hin
 obtain ⟨E, hE⟩ : ∃ E, colsOf T nm = E := ⟨_, rfl⟩
 have HE := hid hE
 rw [hE] at hcs hcn1
 have hE6 := (namesB_iff.1 hcn1).2.2
 obtain ⟨m, hm⟩ : ∃ m, E.length = m := ⟨_, rfl⟩
 have HM := hid hm
 rw [hm] at hE6
 have hm6 : m ≤ 6 := by omega
 obtain ⟨b0, o, ca', cc', ra', cr', rfl, hgw, d0, d1, d2, htt⟩ := HT.out t ht
 rw [← hcs, hm] at d1
 have HEA : Hid (StrsAt w ca' E) := by
  have h := htt.cols
  rw [← hcs] at h
  exact h
 have htn : t < bn := by rw [← HBN.out]; exact ht
 have ht0 : ¬ (t : Int) < 0 := by omega
 have ht1 : (t : Int) < (bn : Int) := by omega
 have HD1 : Hid (w.cell? ⟨b0, o + t * 3 + 1, none⟩ = some (.slice ca' m cc') ∧ b0 < w.heap.size) := ⟨d1, hgw⟩
 clear hat hf hcs hin hcn1 hE hm hE6 d0 d1 d2 htt ht hgw
 have HQ3 := hid q3
 clear q3
 go_wp2
 go_loopw [9, 11] (fun v kk wr => ∃ j : Nat, j ≤ m ∧ kk = .int .i64 j ∧ Hid ((wr.ownsRow (w.heap.size + 2) 9 1 v (cn + j) (strV (C ++ E.take j)) ∧ v ≠ .slice none 0 0) ∧ (E.take j).any (inB C) = false) ∧ Below (w.heap.size + 2) w2 wr) (fun _ kk _ => m - (intOf kk).toNat)
 case atStart =>
  refine ⟨0, Nat.zero_le _, rfl, ⟨⟨?_, by simp⟩, rfl⟩, Below.refl _ _⟩
  have h := O21.out
  rw [List.take_zero, List.append_nil]
  exact h
 case round =>
  obtain ⟨j, hj, rfl, hO, hbw⟩ := hrel
  have hxw : Below w.heap.size w wr := hx2.trans (hbw.mono (by omega))
  have hszw : w.heap.size + 2 ≤ wr.heap.size := by
   have h1 := hbw.size
   have h2 := O21.out.lt g rfl
   omega
  have Ow0 : Hid (wr.ownsRow w.heap.size 9 1 (.slice (some ⟨w.heap.size + 1, 0, none⟩) 0 0) 0 (strV [])) := own_keepW O20.out (Nat.le_refl _) (hbw.block _ (by omega))
  have dd : wr.cell? ⟨b0, o + t * 3 + 1, none⟩ = some (.slice ca' m cc') := by
   rw [hxw.cell (p := ⟨b0, o + t * 3 + 1, none⟩) HD1.out.2]; exact HD1.out.1
  by_cases hlt : j < m
  · have hlk : j < E.length := by rw [HM.out]; exact hlt
   obtain ⟨b1, o1, rfl, hg, c0⟩ := (HEA.out.below hxw) j hlk
   have hst : (E.take (j + 1)).any (inB C) = ((E.take j).any (inB C) || inB C E[j]) := by
    rw [List.take_succ_eq_append_getElem hlk, List.any_append]; simp
   have hyes : inB C E[j] = true → E.any (inB C) = true := by
    intro h
    rw [List.any_eq_true]
    exact ⟨E[j], List.getElem_mem hlk, h⟩
   have htk : C ++ E.take (j + 1) = (C ++ E.take j) ++ [E[j]] := by rw [List.take_succ_eq_append_getElem hlk, List.append_assoc]
   have HST := hid hst
   have HYES := hid hyes
   have HTK := hid htk
   clear hst hyes htk
   generalize E[j] = x at c0 HST HYES HTK
   have hi0 : (0 : Int) ≤ (j : Int) := by omega
   have hi1 : (j : Int) < (m : Int) := by omega
   clear hlk
   go_wp2_with fail
   refine (at_specN cn ca cc C HN.out x _ (HC.out.below hxw) (by unfold maxLen; omega)).mono ?_
   rintro e w3 ⟨q, rfl, hat, hb3⟩
   have hneg := hat.neg
   have hx3 := chain hxw hb3
   have dd3 := (hb3.cell (p := ⟨b0, o + t * 3 + 1, none⟩) (Nat.lt_of_lt_of_le HD1.out.2 hxw.size)).trans dd
   have cc3 := (hb3.cell (p := ⟨b1, o1 + j, none⟩) hg).trans c0
   have hbw3 : Below (w.heap.size + 2) w2 w3 := hbw.trans (hb3.mono hszw)
   have hsz3 : w.heap.size + 2 ≤ w3.heap.size := Nat.le_trans hszw hb3.size
   have O31 : Hid (w3.ownsRow (w.heap.size + 2) 9 1 u9 (cn + j) (strV (C ++ E.take j)) ∧ u9 ≠ .slice none 0 0) := ⟨own_below hO.out.1.1 hb3, hO.out.1.2⟩
   have HNOT := hid hO.out.2
   clear dd c0 hO
   by_cases hr : 0 ≤ q
   · have hin : inB C x = true := inB_iff.2 (hneg.1 hr)
    clear hneg
    have O30 : Hid (w3.ownsRow w.heap.size 9 1 (.slice (some ⟨w.heap.size + 1, 0, none⟩) 0 0) 0 (strV [])) := own_below Ow0.out hb3
    obtain ⟨rfl, rfl⟩ : D = [] ∧ k0 = 2 := by
     have h := HD.out
     rw [stepC_join 6 (by decide), if_neg (by rw [HIN.out]; decide), HE.out, if_pos (HYES.out hin)] at h
     injection h with e1 e2
     exact ⟨e1.symm, e2.symm⟩
    go_wp2
    go_ret2
    exact ⟨w.heap.size + 1, 0, 0, rfl, rfl, Nat.le_refl _, O30.out, hx3⟩
   have hno : inB C x = false := inB_no.2 (fun h => by have := hneg.2 h; omega)
   have HN2 := hid (p := (E.take (j + 1)).any (inB C) = false) (by rw [HST.out, HNOT.out, hno]; rfl)
   clear hneg hat HST HYES hno Ow0 HNOT hb3 hbw hxw hszw
   obtain ⟨mj, hmj⟩ : ∃ z, cn + j = z := ⟨_, rfl⟩
   have hmj12 : mj ≤ 12 := by omega
   rw [hmj] at O31
   have HMJ := hid hmj
   clear hmj
   go_wp2_with (at_builtin; refine wpList_append_own _ rfl _ _ 22 rfl (w.heap.size + 2) 9 i0 (.string ⟨#[]⟩) 1 16 Tryz.underlying22 hti hz0 hz1 hz2 rfl (by decide) u9 mj (strV (C ++ E.take j)) rfl (O31.out.1.alloc _) ⟨w3.heap.size, 0, none⟩ 1 1 [.string x] rfl rfl (one_cellsS w3 x) (by intro u hu; simp at hu; subst hu; rfl) (by unfold maxLen; omega) (by omega) (by simp; omega) ?_)
   intro v4 w4 own4 hgrow4 hnn4
   have hbn : Below (w.heap.size + 2) w3 w4 := ((Below.refl _ _).alloc (by omega) _).grown hgrow4 (by simp; omega) (fun kk hkk => (O31.out.1.lt kk hkk).1)
   have hvn : v4 ≠ .slice none 0 0 := by first | exact hnn4 | exact fun e => O31.out.2 (hnn4.1 e).1
   have O4 : Hid ((w4.ownsRow (w.heap.size + 2) 9 1 v4 (cn + (j + 1)) (strV (C ++ E.take (j + 1))) ∧ v4 ≠ .slice none 0 0) ∧ (E.take (j + 1)).any (inB C) = false) := by
    have h : w4.ownsRow (w.heap.size + 2) 9 1 v4 (cn + (j + 1)) (strV (C ++ E.take (j + 1))) := by
     rw [HTK.out, show strV ((C ++ E.take j) ++ [x]) = strV (C ++ E.take j) ++ [.string x] from List.map_append, ← Nat.add_assoc, HMJ.out]
     exact own4
    exact ⟨⟨h, hvn⟩, HN2.out⟩
   have hbw4 : Below (w.heap.size + 2) w2 w4 := hbw3.trans hbn
   clear own4 hgrow4 hnn4 hbn hvn O31 hbw3 hx3 dd3 cc3 hsz3 HMJ HTK
   go_wp2
   go_roundw
   case rel => exact ⟨j + 1, by omega, by go_num, O4, hbw4⟩
   case measure => simp [intOf]; omega
  · have hkl : j = m := by omega
   subst hkl
   have hi1 : ¬ (j : Int) < (j : Int) := by omega
   obtain ⟨g3, c3, hv, hc3⟩ := own_fmS hO.out.1.1 hO.out.1.2
   subst hv
   have HTL : Hid (E.take j = E) := List.take_of_length_le (by rw [HM.out]; exact Nat.le_refl _)
   obtain ⟨ml, hml⟩ : ∃ z, cn + j = z := ⟨_, rfl⟩
   have O31 : Hid (wr.ownsRow (w.heap.size + 2) 9 1 (.slice (some ⟨g3, 0, none⟩) ml c3) ml (strV (C ++ E))) := by
    have h := hO.out.1.1
    rw [HTL.out, hml] at h
    exact h
   have HNY : Hid (E.any (inB C) = false) := by
    have h := hO.out.2
    rw [HTL.out] at h
    exact h
   rw [hml] at hc3 ⊢
   have HLL := hid (p := (C ++ E).length = ml) (by rw [List.length_append, HN.out, HM.out]; exact hml)
   have hml12 : ml ≤ 12 := by omega
   have HOS : Hid (StrsAt wr (some ⟨g3, 0, none⟩) (C ++ E)) := by
    have h := O31.out
    rw [← HLL.out] at h
    exact own_strs h
   have q3 : wr.cell? ⟨w.heap.size, 3, none⟩ = some (.slice sa sn sc) := (hbw.cell (p := ⟨w.heap.size, 3, none⟩) (show w.heap.size < w.heap.size + 2 by omega)).trans HQ3.out
   obtain ⟨r, hr⟩ : ∃ r, hasC (C ++ E) S = r := ⟨_, rfl⟩
   have HR := hid hr
   clear hr hml hO HTL hlt hj
   go_wp2_with fail
   refine (l9has_spec sa sc S sn HSN.out _ _ (C ++ E) ml HLL.out _ (HV.out.sum.below hxw) HV.out.fitI hs6 HOS.out (by unfold maxLen; omega) r HR.out).mono ?_
   rintro e w4 ⟨rfl, hb4⟩
   have hx4 := chain hxw hb4
   have O40 : Hid (w4.ownsRow w.heap.size 9 1 (.slice (some ⟨w.heap.size + 1, 0, none⟩) 0 0) 0 (strV [])) := own_below Ow0.out hb4
   have O41 : Hid (w4.ownsRow (w.heap.size + 2) 9 1 (.slice (some ⟨g3, 0, none⟩) ml c3) ml (strV (C ++ E))) := own_below O31.out hb4
   clear hb4 hxw O31 Ow0 q3 dd hbw HOS
   cases r
   · obtain ⟨rfl, rfl⟩ : D = [] ∧ k0 = 3 := by
     have h := HD.out
     rw [stepC_join 6 (by decide), if_neg (by rw [HIN.out]; decide), HE.out, if_neg (by rw [HNY.out]; decide), if_neg (by rw [HR.out]; decide)] at h
     injection h with e1 e2
     exact ⟨e1.symm, e2.symm⟩
    go_wp2
    go_ret2
    exact ⟨w.heap.size + 1, 0, 0, rfl, rfl, Nat.le_refl _, O40.out, hx4⟩
   have HD2 : Hid (manyC (C ++ E) = (D, k0)) := by
    have h := HD.out
    rw [stepC_join 6 (by decide), if_neg (by rw [HIN.out]; decide), HE.out, if_neg (by rw [HNY.out]; decide), if_pos HR.out] at h
    exact h
   by_cases h6 : 6 < ml
   · obtain ⟨rfl, rfl⟩ : D = [] ∧ k0 = 4 := by
     have h := HD2.out
     unfold manyC at h
     rw [if_neg (by rw [HLL.out]; omega)] at h
     injection h with e1 e2
     exact ⟨e1.symm, e2.symm⟩
    have hi6 : (6 : Int) < (ml : Int) := by omega
    go_wp2
    go_ret2
    exact ⟨w.heap.size + 1, 0, 0, rfl, rfl, Nat.le_refl _, O40.out, hx4⟩
   obtain ⟨rfl, rfl⟩ : C ++ E = D ∧ 0 = k0 := by
    have h := HD2.out
    unfold manyC at h
    rw [if_pos (by rw [HLL.out]; omega)] at h
    injection h with e1 e2
    exact ⟨e1, e2⟩
   have hi6 : ¬ (6 : Int) < (ml : Int) := by omega
   go_wp2
   go_ret2
   exact ⟨g3, ml, c3, HLL.out, rfl, hc3, own_lowS O41.out (by omega), hx4⟩
end Go.Proofs.YtjjkdbmjloolaaaGreatDoor
