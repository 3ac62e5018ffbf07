/-
  A part of the proof: RkWalk.
-/
import Derived.Test.YthgbjnchhaoceaaGreatDoorMore6
import Derived.Test.YthgbjnchhaoceaaGreatDoorPart17
import Derived.Test.YthgbjnchhaoceaaGreatDoorMore7

/-
  The walk of the law FnReckon.
-/
namespace Go.Proofs.YthgbjnchhaoceaaGreatDoor
open Go.ChangeShapes Go.WideShapes Go.ChangeAt Go.RowKit
attribute [local go_sem ↓] Go.wp_at_zero Go.wp_at_succ
attribute [local simp] World.cell?_alloc_past World.cell?_alloc_at World.frozen?_alloc_at cell_far cell_off cell_here World.frozen?_alloc_past

namespace reckLaw
/-- The three lists that were drawn. -/
def At9 (w : World) (g : Nat) (l : List TI) (gc : Nat) (C : List ByteArray) (gr : Nat) (R : List CT) : Prop := ItmAt w (some ⟨g, 0, none⟩) l ∧ StrsAt w (some ⟨gc, 0, none⟩) C ∧ RowAt w (some ⟨gr, 0, none⟩) R
theorem At9.below {w w' : World} {g : Nat} {l : List TI} {gc : Nat} {C : List ByteArray} {gr : Nat} {R : List CT} (h : At9 w g l gc C gr R) (hb : Below w.heap.size w w') : At9 w' g l gc C gr R := ⟨h.1.below hb, h.2.1.below hb, h.2.2.below hb⟩
theorem fitI_few {l : List TI} (h : FitD l) : FitItm l := fun j hj => by
  have := h _ (List.getElem_mem hj)
  unfold maxLen at this ⊢
  omega
theorem ans_formS {w : World} {B : Nat} {v : Value} {l : List ByteArray} (h : AnsStr w B v l) : ∃ g c, v = .slice (some ⟨g, 0, none⟩) l.length c := by
  rcases h.1.2 with ⟨h', _⟩ | ⟨g, c, cur, h', _⟩
  · exact absurd h' h.2
  · exact ⟨g, c, h'⟩
theorem likeT (n : Nat) (a b : Option Addr) (ca cb : Nat) (l : List ByteArray) (hn : l.length = n) (w : World) (ha : StrsAt w a l) (hb : StrsAt w b l) (hm : n ≤ maxLen) :
    Calls Tryz.prog 15 #[.slice a n ca, .slice b n cb] w fun e w' => e = .returned (.bool true) ∧ Below w.heap.size w w' := by
  subst hn; exact liketexts9 a b ca cb l w ha hb hm
theorem pass_fault {C : List ByteArray} {R : List CK} {l : List TI} {c : CK} {f pf : Int} {pb : Bool} (h : reckR C R l = (c, f)) (hp : passR C R l = (pb, pf)) (hf : f ≠ 0) : c = zeroC ∧ pb = false ∧ pf = f := by
  have hz : c = zeroC := by
    have := reck_zero (C := C) (R := R) (l := l) (by rw [h]; exact hf)
    rw [h] at this
    exact this
  unfold passR at hp
  rw [h] at hp
  dsimp only at hp
  rw [if_pos hf] at hp
  injection hp with h1 h2
  exact ⟨hz, h1.symm, h2.symm⟩
theorem pass_holds {C : List ByteArray} {R : List CK} {l : List TI} {y1 y2 : Int} {y3 : ByteArray} {pf : Int} (h : reckR C R l = ((y1, y2, y3), 0)) (hp : passR C R l = (true, pf)) : sameB y1 y2 y3 3 1 ⟨#[]⟩ = true := by
  unfold passR at hp
  rw [h] at hp
  dsimp only at hp
  rw [if_neg (by simp)] at hp
  split at hp
  · injection hp with h1 _; cases h1
  · injection hp
theorem has_of {C : List ByteArray} {l : List TI} (h : ∀ s ∈ namesR l, s ∈ C) (hs : sumB l = true) : hasC C l = true := by
  unfold hasC
  rw [List.all_eq_true]
  intro x hx
  by_cases h2 : x.1 = 2
  · have : x.2.2 ∈ namesR l := by
      unfold namesR
      rw [if_pos hs]
      exact (mem_namesN l _).2 ⟨x, hx, h2, rfl⟩
    rw [any_mem.2 (h _ this)]
    simp
  · simp [h2]
theorem has_not {C : List ByteArray} {l : List TI} {s : ByteArray} (h : s ∈ namesR l) (hs : ¬ s ∈ C) : hasC C l ≠ true := by
  intro hc
  unfold namesR at h
  split at h
  · obtain ⟨x, hx, h2, rfl⟩ := (mem_namesN l _).1 h
    have := List.all_eq_true.1 hc x hx
    rw [Bool.or_eq_true] at this
    rcases this with h' | h'
    · simp [h2] at h'
    · exact hs (any_mem.1 h')
  · simp at h
theorem names_sum {l : List TI} (h : namesR l ≠ []) : sumB l = true := by
  unfold namesR at h
  split at h
  · assumption
  · exact absurd rfl h
theorem form9 {w : World} {base n k : Nat} {e : TypeId} {v : Value} {xs : List Value} (h : w.ownsRow base e k v n xs) (hn : v ≠ .slice none 0 0) : ∃ g c, v = .slice (some ⟨g, 0, none⟩) n c := by
  rcases h.2 with ⟨h', _⟩ | ⟨g, c, _, h', _⟩
  · exact absurd h' hn
  · exact ⟨g, c, h'⟩
theorem cells3x (w : World) (B : Nat) (x y z a b c : Value) : ∀ j u, [x, y, z][j]? = some u → ((((w.setCell ⟨B, 0, none⟩ a).setCell ⟨B, 1, none⟩ b).setCell ⟨B, 2, none⟩ c).alloc (.cells #[x, y, z] 30)).cell? ((⟨w.heap.size, 0, none⟩ : Addr).add j) = some u := by
  intro j u hj
  match j, hj with
  | 0, hj => simp at hj; subst hj; simp [Addr.add, go_sem]
  | 1, hj => simp at hj; subst hj; simp [Addr.add, go_sem]
  | 2, hj => simp at hj; subst hj; simp [Addr.add, go_sem]
set_option maxRecDepth 100000 in
set_option maxHeartbeats 16000000 in
theorem walk (a : Option Addr) (len cap : Nat) (w : World) (hc : Code0 w a len) (hp : PowAt w) (he : ErrAt w) :
    Calls Tryz.prog 3 #[.slice a len cap] w fun e w' => e = .returned (.bool true) ∧ Below w.heap.size w w' := by
  obtain ⟨iC, hiC, hz0, hz1, hz2⟩ := info_parts infoC9
  have HC : Hid (Code0 w a len) := hc
  have HP : Hid (PowAt w) := hp
  have HE : Hid (ErrAt w) := he
  clear hc hp he
  by_cases hbig : (4096 : Int) < (len : Int)
  · go_enter Tryz.func3, Tryz.ntmps3
    go_wp2_with fail
    refine (big_laws a len cap _).mono ?_
    rintro e w1 ⟨rfl, rfl⟩
    rw [decide_eq_true hbig]
    go_wp2
    go_ret
    exact ⟨rfl, Below.refl _ _⟩
  have hlen : len ≤ 4096 := by omega
  go_enter Tryz.func3, Tryz.ntmps3
  go_wp2_with fail
  refine (big_laws a len cap _).mono ?_
  rintro e w1 ⟨rfl, rfl⟩
  rw [decide_eq_false (by omega)]
  go_wp2_with fail
  refine (reckon_draw hlen HC.out).mono ?_
  rintro e w1 ⟨⟨gl, n, cl, l, gc, m, cc, C, gr, q, rc, R, rfl, h1, h2, h3, h4, h5, h6, h7, h8, h9, hI, hS, hRw⟩, hx1⟩
  have HN : Hid (l.length = n) := h1
  have HM : Hid (C.length = m) := h2
  have HQ : Hid (R.length = q) := h3
  have FD : Hid (FitI l) := h7
  have FI : Hid (FitItm l) := fitI_few h7
  have HC7 : Hid (∀ x ∈ C, x.size ≤ 7) := h8
  have FR : Hid (Fit R) := h9
  have A1 : Hid (At9 w1 gl l gc C gr R) := ⟨hI, hS, hRw⟩
  have hnM : n ≤ maxLen := by unfold maxLen; omega
  have hmM : m ≤ maxLen := by unfold maxLen; omega
  have hqM : q ≤ maxLen := by unfold maxLen; omega
  obtain ⟨⟨⟨y1, y2, y3⟩, f⟩, hy⟩ : ∃ y, reckR C R l = y := ⟨_, rfl⟩
  have HY : Hid (reckR C R l = ((y1, y2, y3), f)) := hy
  obtain ⟨⟨pb, pf⟩, hpp⟩ : ∃ y, passR C R l = y := ⟨_, rfl⟩
  have HPP : Hid (passR C R l = (pb, pf)) := hpp
  clear h1 h2 h3 h7 h8 h9 hI hS hRw hy hpp
  go_wp2_with fail
  refine (reckon_impl _ _ l n HN.out _ _ C m HM.out _ _ R q HQ.out _ A1.out.1 FD.out FI.out hnM A1.out.2.1 hmM A1.out.2.2 FR.out hqM (HP.out.below hx1) (HE.out.below hx1) _ HY.out).mono ?_
  rintro e w2 ⟨rfl, hb2⟩
  have hx2 := chain hx1 hb2
  have A2 : Hid (At9 w2 gl l gc C gr R) := A1.out.below hb2
  clear hx1 hb2 A1
  go_wp2_with fail
  obtain ⟨V2, hV2⟩ : ∃ V, V = w2.alloc (.cells #[.int .i64 y1, .int .i64 y2, .string y3] 30) := ⟨_, rfl⟩
  obtain ⟨CB, hCB⟩ : ∃ B, w2.heap.size = B := ⟨_, rfl⟩
  have K2 : Hid (V2.cell? ⟨CB, 0, none⟩ = some (.int .i64 y1) ∧ V2.cell? ⟨CB, 1, none⟩ = some (.int .i64 y2) ∧ V2.cell? ⟨CB, 2, none⟩ = some (.string y3) ∧ CB < V2.heap.size) := by
    have : V2.cell? ⟨CB, 0, none⟩ = some (.int .i64 y1) ∧ V2.cell? ⟨CB, 1, none⟩ = some (.int .i64 y2) ∧ V2.cell? ⟨CB, 2, none⟩ = some (.string y3) ∧ CB < V2.heap.size := by rw [hV2, ← hCB]; simp
    exact this
  have hbV : Below w2.heap.size w2 V2 := by rw [hV2]; exact (Below.refl _ _).alloc (Nat.le_refl _) _
  have AV : Hid (At9 V2 gl l gc C gr R) := A2.out.below hbV
  have hxV := chain hx2 hbV
  rw [← hV2]
  try rw [hCB]
  clear hV2 hCB hbV A2 hx2
  refine (passes_impl _ _ l n HN.out _ _ C m HM.out _ _ R q HQ.out _ AV.out.1 FD.out FI.out hnM AV.out.2.1 hmM AV.out.2.2 FR.out hqM (HP.out.below hxV) (HE.out.below hxV) _ HPP.out).mono ?_
  rintro e w3 ⟨rfl, hb3⟩
  have hx3 := chain hxV hb3
  have A3 : Hid (At9 w3 gl l gc C gr R) := AV.out.below hb3
  have K3 := later3 hb3 K2.out
  have HK3 : Hid (w3.cell? ⟨CB, 0, none⟩ = some (.int .i64 y1) ∧ w3.cell? ⟨CB, 1, none⟩ = some (.int .i64 y2) ∧ w3.cell? ⟨CB, 2, none⟩ = some (.string y3) ∧ CB < w3.heap.size) := K3
  clear hxV hb3 AV K2 K3
  go_wp2_with fail
  refine (mayfail_draw hlen (HC.out.below hx3)).mono ?_
  rintro e w4 ⟨g4, n4, c4, l4, rfl, hn4, hI4, hn16, hF4, hb4⟩
  have HN4 : Hid (l4.length = n4) := hn4
  have I4 : Hid (ItmAt w4 (some ⟨g4, 0, none⟩) l4) := hI4
  have FD4 : Hid (FitI l4) := hF4
  have FI4 : Hid (FitItm l4) := fitI_few hF4
  have hn4M : n4 ≤ maxLen := by unfold maxLen; omega
  have hx4 := chain hx3 hb4
  have A4 : Hid (At9 w4 gl l gc C gr R) := A3.out.below hb4
  have K4 : Hid (w4.cell? ⟨CB, 0, none⟩ = some (.int .i64 y1) ∧ w4.cell? ⟨CB, 1, none⟩ = some (.int .i64 y2) ∧ w4.cell? ⟨CB, 2, none⟩ = some (.string y3) ∧ CB < w4.heap.size) := later3 hb4 HK3.out
  clear hx3 hb4 A3 HK3 hn4 hI4 hF4
  go_wp2_with fail
  refine (namesof_draw hlen (HC.out.below hx4)).mono ?_
  rintro e w5 ⟨g5, n5, c5, l5, rfl, hn5, hI5, hn165, hF5, hb5⟩
  have HN5 : Hid (l5.length = n5) := hn5
  have I55 : Hid (ItmAt w5 (some ⟨g5, 0, none⟩) l5) := hI5
  have I54 : Hid (ItmAt w5 (some ⟨g4, 0, none⟩) l4) := I4.out.below hb5
  have FD5 : Hid (FitI l5) := hF5
  have FI5 : Hid (FitItm l5) := fitI_few hF5
  have hn5M : n5 ≤ maxLen := by unfold maxLen; omega
  have hx5 := chain hx4 hb5
  have A5 : Hid (At9 w5 gl l gc C gr R) := A4.out.below hb5
  have K5 : Hid (w5.cell? ⟨CB, 0, none⟩ = some (.int .i64 y1) ∧ w5.cell? ⟨CB, 1, none⟩ = some (.int .i64 y2) ∧ w5.cell? ⟨CB, 2, none⟩ = some (.string y3) ∧ CB < w5.heap.size) := later3 hb5 K4.out
  clear hx4 hb5 A4 K4 hn5 hI5 hF5 I4
  go_wp2_with fail
  refine (reckon_spec _ _ l n HN.out _ _ C m HM.out _ _ R q HQ.out _ A5.out.1 FI.out hnM A5.out.2.1 hmM A5.out.2.2 FR.out hqM _ HY.out).mono ?_
  rintro e w6 ⟨rfl, hb6⟩
  have hx6 := chain hx5 hb6
  have A6 : Hid (At9 w6 gl l gc C gr R) := A5.out.below hb6
  have I66 : Hid (ItmAt w6 (some ⟨g5, 0, none⟩) l5) := I55.out.below hb6
  have I64 : Hid (ItmAt w6 (some ⟨g4, 0, none⟩) l4) := I54.out.below hb6
  obtain ⟨k0, k1, k2, k3⟩ := later3 hb6 K5.out
  have K6 : Hid (w6.cell? ⟨CB, 0, none⟩ = some (.int .i64 y1) ∧ w6.cell? ⟨CB, 1, none⟩ = some (.int .i64 y2) ∧ w6.cell? ⟨CB, 2, none⟩ = some (.string y3) ∧ CB < w6.heap.size) := ⟨k0, k1, k2, k3⟩
  have hns := neq_same y1 y2 y3
  have hff : (f != f) = false := by simp
  clear hx5 hb6 A5 K5 I55 I54
  go_wp2_with fail
  obtain ⟨b4, hb4⟩ : ∃ b, mayR l4 = b := ⟨_, rfl⟩
  have HB4 : Hid (mayR l4 = b4) := hb4
  obtain ⟨L5, hL5⟩ : ∃ L, namesR l5 = L := ⟨_, rfl⟩
  have HL5 : Hid (namesR l5 = L5) := hL5
  obtain ⟨N5, hN5⟩ : ∃ N, L5.length = N := ⟨_, rfl⟩
  have HNL5 : Hid (L5.length = N5) := hN5
  have hN5M : N5 ≤ maxLen := by
    have := namesR_len l5
    rw [hL5, hN5] at this
    unfold maxLen; omega
  have hbn : ∀ (x : Bool) (wz : World), (binOp .neq 4 (.bool x) (.bool x)).run Tryz.prog wz = .ok (.bool false) wz := fun x wz => by cases x <;> kernel_rfl
  have hbA : Below w6.heap.size w6 (w6.alloc (.cells #[.int .i64 y1, .int .i64 y2, .string y3] 30)) := (Below.refl _ _).alloc (Nat.le_refl _) _
  have hx6A := chain hx6 hbA
  clear hb4 hL5 hN5 k0 k1 k2 k3
  refine (may_impl _ _ l4 n4 HN4.out _ (I64.out.below hbA) FD4.out hn4M (HP.out.below hx6A) (HE.out.below hx6A) b4 HB4.out).mono ?_
  rintro e w7 ⟨rfl, hb7⟩
  have hd7 := chain hbA hb7
  have hx7 := chain hx6 hd7
  clear hbA hx6A hb7
  go_wp2_with fail
  refine (may_specb _ _ l4 n4 HN4.out _ (I64.out.below hd7) FI4.out hn4M b4 HB4.out).mono ?_
  rintro e w8 ⟨rfl, hb8⟩
  have hd8 := chain hd7 hb8
  have hx8 := chain hx6 hd8
  have A8 : Hid (At9 w8 gl l gc C gr R) := A6.out.below hd8
  have I8 : Hid (ItmAt w8 (some ⟨g5, 0, none⟩) l5) := I66.out.below hd8
  have K8 : Hid (w8.cell? ⟨CB, 0, none⟩ = some (.int .i64 y1) ∧ w8.cell? ⟨CB, 1, none⟩ = some (.int .i64 y2) ∧ w8.cell? ⟨CB, 2, none⟩ = some (.string y3) ∧ CB < w8.heap.size) := later3 hd8 K6.out
  clear hd7 hb8 hd8 hx7 hx6 A6 I66 I64 K6
  go_wp2_with fail
  refine (names_impl _ _ l5 n5 HN5.out _ I8.out FD5.out hn5M (HP.out.below hx8) (HE.out.below hx8) L5 HL5.out).mono ?_
  rintro e w9 ⟨v9, rfl, hA9, hb9⟩
  obtain ⟨g9, c9, hv9⟩ := ans_formS hA9
  subst hv9
  have S9 : Hid (StrsAt w9 (some ⟨g9, 0, none⟩) L5) := own_strs hA9.1
  rw [HNL5.out]
  have hx9 := chain hx8 hb9
  have A9 : Hid (At9 w9 gl l gc C gr R) := A8.out.below hb9
  have I9 : Hid (ItmAt w9 (some ⟨g5, 0, none⟩) l5) := I8.out.below hb9
  have K9 : Hid (w9.cell? ⟨CB, 0, none⟩ = some (.int .i64 y1) ∧ w9.cell? ⟨CB, 1, none⟩ = some (.int .i64 y2) ∧ w9.cell? ⟨CB, 2, none⟩ = some (.string y3) ∧ CB < w9.heap.size) := later3 hb9 K8.out
  clear hA9 hx8 hb9 A8 I8 K8
  go_wp2_with fail
  refine (names_spec _ _ l5 n5 HN5.out _ I9.out FI5.out hn5M).mono ?_
  rintro e w10 ⟨g10, c10, rfl, _, _, S10, hb10⟩
  rw [HL5.out] at S10 ⊢
  rw [HNL5.out]
  have S10h : Hid (StrsAt w10 (some ⟨g10, 0, none⟩) L5) := S10
  have S10b : Hid (StrsAt w10 (some ⟨g9, 0, none⟩) L5) := S9.out.below hb10
  have hx10 := chain hx9 hb10
  have A10 : Hid (At9 w10 gl l gc C gr R) := A9.out.below hb10
  have K10 : Hid (w10.cell? ⟨CB, 0, none⟩ = some (.int .i64 y1) ∧ w10.cell? ⟨CB, 1, none⟩ = some (.int .i64 y2) ∧ w10.cell? ⟨CB, 2, none⟩ = some (.string y3) ∧ CB < w10.heap.size) := later3 hb10 K9.out
  clear hx9 hb10 A9 I9 K9 S9 S10
  go_wp2_with fail
  refine (likeT N5 _ _ _ _ L5 HNL5.out _ S10b.out S10h.out hN5M).mono ?_
  rintro e w11 ⟨rfl, hb11⟩
  have hx11 := chain hx10 hb11
  have A11 : Hid (At9 w11 gl l gc C gr R) := A10.out.below hb11
  have K11 : Hid (w11.cell? ⟨CB, 0, none⟩ = some (.int .i64 y1) ∧ w11.cell? ⟨CB, 1, none⟩ = some (.int .i64 y2) ∧ w11.cell? ⟨CB, 2, none⟩ = some (.string y3) ∧ CB < w11.heap.size) := later3 hb11 K10.out
  clear hx10 hb11 A10 K10 S10b S10h HNL5 HL5 HB4 HN4 HN5 FD4 FI4 FD5 FI5
  go_wp2_with fail
  refine (passes_spec _ _ l n HN.out _ _ C m HM.out _ _ R q HQ.out _ A11.out.1 FI.out hnM A11.out.2.1 hmM A11.out.2.2 FR.out hqM _ HPP.out).mono ?_
  rintro e w12 ⟨rfl, hb12⟩
  have hx12 := chain hx11 hb12
  have A12 : Hid (At9 w12 gl l gc C gr R) := A11.out.below hb12
  obtain ⟨k0, k1, k2, k3⟩ := later3 hb12 K11.out
  have K12 : Hid (w12.cell? ⟨CB, 0, none⟩ = some (.int .i64 y1) ∧ w12.cell? ⟨CB, 1, none⟩ = some (.int .i64 y2) ∧ w12.cell? ⟨CB, 2, none⟩ = some (.string y3) ∧ CB < w12.heap.size) := ⟨k0, k1, k2, k3⟩
  have hpg : (pf != pf) = false := by simp
  clear hx11 hb12 A11 K11
  by_cases hf : f = 0
  · have HF0 : Hid (f = 0) := hf
    have hf0 : (f != 0) = false := by simp [hf]
    clear hf
    cases pb
    · go_wp2_with fail
      obtain ⟨Ln, hLn⟩ : ∃ L, namesR l = L := ⟨_, rfl⟩
      have HLn : Hid (namesR l = Ln) := hLn
      obtain ⟨N, hNn⟩ : ∃ N, Ln.length = N := ⟨_, rfl⟩
      have HNn : Hid (Ln.length = N) := hNn
      have hN1 : N ≤ 1000 := by
        have := namesR_len l
        rw [hLn, hNn] at this
        exact this
      have hNM : N ≤ maxLen := by unfold maxLen; omega
      clear hLn hNn
      refine (names_spec _ _ l n HN.out _ A12.out.1 FI.out hnM).mono ?_
      rintro e w14 ⟨g14, c14, rfl, _, _, S14, hb14⟩
      rw [HLn.out] at S14 ⊢
      rw [HNn.out]
      have S14h : Hid (StrsAt w14 (some ⟨g14, 0, none⟩) Ln) := S14
      have hx14 := chain hx12 hb14
      have A14 : Hid (At9 w14 gl l gc C gr R) := A12.out.below hb14
      have K14 : Hid (w14.cell? ⟨CB, 0, none⟩ = some (.int .i64 y1) ∧ w14.cell? ⟨CB, 1, none⟩ = some (.int .i64 y2) ∧ w14.cell? ⟨CB, 2, none⟩ = some (.string y3) ∧ CB < w14.heap.size) := later3 hb14 K12.out
      clear hx12 hb14 A12 K12 S14
      by_cases hN0 : N = 0
      · subst hN0
        obtain ⟨bs, hbs⟩ : ∃ b, sumB l = b := ⟨_, rfl⟩
        have HBS : Hid (sumB l = bs) := hbs
        clear hbs
        go_wp2_with fail
        refine (sum_spec _ _ l n HN.out _ A14.out.1 FI.out hnM bs HBS.out).mono ?_
        rintro e w15 ⟨rfl, hb15⟩
        have hx15 := chain hx14 hb15
        have A15 : Hid (At9 w15 gl l gc C gr R) := A14.out.below hb15
        have K15 : Hid (w15.cell? ⟨CB, 0, none⟩ = some (.int .i64 y1) ∧ w15.cell? ⟨CB, 1, none⟩ = some (.int .i64 y2) ∧ w15.cell? ⟨CB, 2, none⟩ = some (.string y3) ∧ CB < w15.heap.size) := later3 hb15 K14.out
        have S15 : Hid (StrsAt w15 (some ⟨g14, 0, none⟩) Ln) := S14h.out.below hb15
        clear hx14 hb15 A14 K14 S14h
        cases bs
        · have h3 : f = 3 := by
            have := HY.out
            rw [reck_sum (C := C) (R := R) HBS.out] at this
            injection this with _ e
            exact e.symm
          have h3' : (f == 3) = true := by simp [h3]
          go_wp2
          go_ret
          exact ⟨rfl, hx15⟩
        by_cases hqm : q = m
        · subst hqm
          have own0 : Hid ((w15.alloc (.cells #[] 30)).ownsRow w15.heap.size 30 3 (.slice (some ⟨w15.heap.size, 0, none⟩) 0 0) 0 []) := ⟨rfl, .inr ⟨w15.heap.size, 0, #[], rfl, Nat.le_refl _, by show (w15.heap.push _)[w15.heap.size]? = _; simp, Nat.le_refl _, by unfold maxLen; omega, rfl, rfl⟩⟩
          have hbo : Below w15.heap.size w15 (w15.alloc (.cells #[] 30)) := (Below.refl _ _).alloc (Nat.le_refl _) _
          go_wp2_with fail
          go_loopw [17, 18] (fun v ii wz => ∃ k : Nat, ii = .int .i64 k ∧ k ≤ q ∧ v ≠ .slice none 0 0 ∧ Hid (∃ R' : List CT, R'.length = k ∧ Fit R' ∧ R'.all okC = true ∧ (R.take k).all okC = true ∧ (∀ j (h1 : j < R'.length) (h2 : j < R.length) (h3 : j < C.length), C[j] ∈ Ln → R[j] = R'[j]) ∧ wz.ownsRow w15.heap.size 30 3 v R'.length (flat R')) ∧ Below w15.heap.size w15 wz) (fun _ ii _ => q - (intOf ii).toNat)
          case atStart => exact ⟨0, rfl, Nat.zero_le _, by simp, ⟨[], rfl, fun j hj => by simp at hj, rfl, rfl, fun j h1 => by simp at h1, own0.out⟩, hbo⟩
          case round =>
            obtain ⟨k, rfl, hk, hvn, hP, hbz⟩ := hrel
            clear own0 hbo
            obtain ⟨R', hR', hFR', hOK', hTK', hAG', ownR⟩ := hP.out
            have HRL : Hid (R'.length = k) := hR'
            have HFR : Hid (Fit R') := hFR'
            have HOK : Hid (R'.all okC = true) := hOK'
            have HTK0 : Hid ((R.take k).all okC = true) := hTK'
            have HAG0 : Hid (∀ j (h1 : j < R'.length) (h2 : j < R.length) (h3 : j < C.length), C[j] ∈ Ln → R[j] = R'[j]) := hAG'
            clear hP hFR' hOK' hTK' hAG'
            rw [hR'] at ownR
            obtain ⟨gv, kv, hv⟩ := form9 ownR hvn
            subst hv
            have OR : Hid (wr.ownsRow w15.heap.size 30 3 (.slice (some ⟨gv, 0, none⟩) k kv) k (flat R')) := ownR
            have hgvl := (OR.out.lt gv rfl)
            clear ownR hR'
            by_cases hlt : k < q
            · have hkR : k < R.length := by rw [HQ.out]; exact hlt
              have hkC : k < C.length := by rw [HM.out]; exact hlt
              obtain ⟨b1, o1, e1, hlt1, c0, c1, c2⟩ := (A15.out.2.2.below hbz) k hkR
              simp only [Option.some.injEq, Addr.mk.injEq, and_true] at e1
              obtain ⟨rfl, rfl⟩ := e1
              obtain ⟨b1, o1, e1, hlt2, d0⟩ := (A15.out.2.1.below hbz) k hkC
              simp only [Option.some.injEq, Addr.mk.injEq, and_true] at e1
              obtain ⟨rfl, rfl⟩ := e1
              simp only [Nat.zero_add] at c0 c1 c2 d0
              have hxf := FR.out k hkR
              obtain ⟨bo, hbo⟩ : ∃ b, okC R[k] = b := ⟨_, rfl⟩
              have HBAD : Hid (bo = false → R.all okC ≠ true) := by
                have : bo = false → R.all okC ≠ true := fun e h => by
                  have := List.all_eq_true.1 h _ (List.getElem_mem hkR)
                  rw [hbo, e] at this
                  cases this
                exact this
              have HTK : Hid (bo = true → (R.take (k + 1)).all okC = true) := by
                have : bo = true → (R.take (k + 1)).all okC = true := fun e => by
                  rw [List.take_succ_eq_append_getElem hkR, List.all_append, HTK0.out, Bool.true_and, List.all_cons, List.all_nil, Bool.and_true, hbo, e]
                exact this
              have HAG : Hid (∀ y : CT, (C[k] ∈ Ln → R[k] = y) → ∀ j (h1 : j < (R' ++ [y]).length) (h2 : j < R.length) (h3 : j < C.length), C[j] ∈ Ln → R[j] = (R' ++ [y])[j]) := by
                have : ∀ y : CT, (C[k] ∈ Ln → R[k] = y) → ∀ j (h1 : j < (R' ++ [y]).length) (h2 : j < R.length) (h3 : j < C.length), C[j] ∈ Ln → R[j] = (R' ++ [y])[j] := fun y hy j h1 h2 h3 hm => by
                  by_cases hj : j < R'.length
                  · rw [List.getElem_append_left hj]; exact HAG0.out j hj h2 h3 hm
                  · have e : j = k := by
                      rw [List.length_append, List.length_cons, List.length_nil, HRL.out] at h1
                      rw [HRL.out] at hj
                      omega
                    subst e
                    rw [List.getElem_append_right (by omega)]
                    simp only [HRL.out, Nat.sub_self, List.getElem_cons_zero]
                    exact hy hm
                exact this
              have HBO : Hid (okC R[k] = bo) := hbo
              clear hbo HTK0 HAG0
              generalize R[k] = x at c0 c1 c2 hxf HBO HAG
              generalize C[k] = s at d0 HAG
              obtain ⟨xa, xb, xc⟩ := x
              dsimp only at c0 c1 c2 hxf
              have hi0 : (0 : Int) ≤ (k : Int) := by omega
              have hi1 : (k : Int) < (q : Int) := by omega
              have hgne : wr.heap.size ≠ gc := by omega
              go_wp2_with fail
              refine (ok_specb xa xb xc bo HBO.out _ hxf).mono ?_
              rintro e w20 ⟨rfl, hb20⟩
              obtain ⟨⟨p0, p1, p2, p3⟩, f0, f1, f2⟩ := box3F hb20
              have hdA : Below wr.heap.size wr w20 := chain ((Below.refl wr.heap.size wr).alloc (Nat.le_refl _) _) hb20
              have hb20' : Below w15.heap.size w15 w20 := chain hbz hdA
              have d20 : w20.cell? ⟨gc, k, none⟩ = some (.string s) := by rw [hdA.cell (p := ⟨gc, k, none⟩) hlt2]; exact d0
              have O20 : Hid (w20.ownsRow w15.heap.size 30 3 (.slice (some ⟨gv, 0, none⟩) k kv) k (flat R')) := own_below OR.out hdA
              have hx20 := chain hx15 hb20'
              have hszw := hbz.size
              obtain ⟨XB, hXB⟩ : ∃ B, wr.heap.size = B := ⟨_, rfl⟩
              have hgo : gv ≠ XB := by omega
              rw [hXB] at p0 p1 p2 p3 f0 f1 f2 hgne
              have hwX : w15.heap.size ≤ XB := by omega
              have HXB : Hid (wr.heap.size = XB) := hXB
              clear hb20 hdA c0 c1 c2 d0 OR hbz hXB hlt1 hlt2
              cases bo
              · have hBad := HBAD.out rfl
                have h3 : f = 3 := by
                  have := HY.out
                  rw [reck_bad (C := C) (R := R) (l := l) hBad] at this
                  injection this with _ e
                  exact e.symm
                have h3' : (f == 3) = true := by simp [h3]
                go_wp2
                go_ret
                exact ⟨rfl, hx20⟩
              try rw [HXB.out]
              obtain ⟨bh, hbh⟩ : ∃ b : Bool, (b = true ↔ s ∈ Ln) := by
                by_cases h : s ∈ Ln
                · exact ⟨true, by simp [h]⟩
                · exact ⟨false, by simp [h]⟩
              have HBH : Hid (bh = true ↔ s ∈ Ln) := hbh
              clear hbh
              go_wp2_with fail
              refine (has_laws 0 _ _ Ln HNn.out s _ (S15.out.below hb20') hNM bh HBH.out).mono ?_
              rintro e w21 ⟨rfl, hw21⟩
              obtain rfl : w20 = w21 := hw21.symm
              cases bh
              · go_wp2_with fail
                refine (pick_laws9 a len cap hlen k (by omega) w20 (HC.out.below hx20)).mono ?_
                rintro e w22 ⟨r, rfl, hr9, hw22⟩
                obtain rfl : w20 = w22 := hw22.symm
                go_wp2_with fail
                refine (number_laws (r : Int) _).mono ?_
                rintro e w23 ⟨rfl, hb23⟩
                have hb23' : Below w15.heap.size w15 w23 := chain hb20' hb23
                have q0 := (hb23.cell (p := ⟨XB, 0, none⟩) p3).trans p0
                have q1 := (hb23.cell (p := ⟨XB, 1, none⟩) p3).trans p1
                have q2 := (hb23.cell (p := ⟨XB, 2, none⟩) p3).trans p2
                have e0 := (hb23.frozen (p := ⟨XB, 0, none⟩) p3).trans f0
                have e1 := (hb23.frozen (p := ⟨XB, 1, none⟩) p3).trans f1
                have e2 := (hb23.frozen (p := ⟨XB, 2, none⟩) p3).trans f2
                have O23 : Hid ((((w23.setCell ⟨XB, 0, none⟩ (.int .i64 1)).setCell ⟨XB, 1, none⟩ (.int .i64 (r : Int))).setCell ⟨XB, 2, none⟩ (.string ⟨#[]⟩)).ownsRow w15.heap.size 30 3 (.slice (some ⟨gv, 0, none⟩) k kv) k (flat R')) := own_far9 (own_far9 (own_far9 (own_below O20.out hb23) _ _ _ hgo) _ _ _ hgo) _ _ _ hgo
                have hb24 : Below w15.heap.size w15 (((w23.setCell ⟨XB, 0, none⟩ (.int .i64 1)).setCell ⟨XB, 1, none⟩ (.int .i64 (r : Int))).setCell ⟨XB, 2, none⟩ (.string ⟨#[]⟩)) := ((hb23'.setCell hwX _).setCell hwX _).setCell hwX _
                have hnn9 : numB (r : Int) = true := by unfold numB; simp; omega
                have hns9 : ¬ s ∈ Ln := fun h => by have := HBH.out.2 h; cases this
                clear p0 p1 p2 f0 f1 f2 O20 hb20' hb23 hb23'
                go_wp2_with (at_builtin; refine wpList_append_own _ rfl _ _ 26 rfl w15.heap.size 30 iC (.agg #[.int .i64 0, .int .i64 0, .string ⟨#[]⟩]) 3 32 Tryz.underlying26 hiC hz0 hz1 hz2 rfl (by decide) _ _ _ rfl (O23.out.alloc _) ⟨w23.heap.size, 0, none⟩ 1 1 [.int .i64 1, .int .i64 (r : Int), .string ⟨#[]⟩] rfl rfl (cells3x _ _ _ _ _ _ _ _) (by intro u hu; simp at hu; rcases hu with rfl | rfl | rfl <;> rfl) (by unfold maxLen; omega) (by omega) (by have := hb24.size; simp at this ⊢; omega) ?_)
                intro v' w30 own30 hgrow hnn
                have hb30 : Below w15.heap.size w15 w30 := (hb24.alloc hb24.size _).grown hgrow (by have := hb24.size; simp at this ⊢; omega) (fun kk hkk => (O23.out.lt kk hkk).1)
                have hv30 : v' ≠ .slice none 0 0 := by first | exact hnn | exact fun e => hvn (hnn.1 e).1
                have fin : Hid (∃ R' : List CT, R'.length = k + 1 ∧ Fit R' ∧ R'.all okC = true ∧ (R.take (k + 1)).all okC = true ∧ (∀ j (h1 : j < R'.length) (h2 : j < R.length) (h3 : j < C.length), C[j] ∈ Ln → R[j] = R'[j]) ∧ w30.ownsRow w15.heap.size 30 3 v' R'.length (flat R')) := by
                  refine ⟨R' ++ [((1 : Int), (r : Int), (⟨#[]⟩ : ByteArray))], by rw [← HRL.out]; simp, HFR.out.append (by show (0 : Nat) ≤ maxLen; unfold maxLen; omega), by rw [List.all_append, HOK.out]; simp [one_ok hnn9], HTK.out (by first | rfl | trivial), HAG.out _ (fun h => absurd h hns9), ?_⟩
                  rw [flat_append, List.length_append, HRL.out]
                  exact own30
                clear own30 hgrow hnn
                go_wp2
                go_roundw
                case rel => exact ⟨k + 1, by go_num, by omega, hv30, fin.out, hb30⟩
                case measure => simp [intOf]; omega
              · have hs9 : s ∈ Ln := HBH.out.1 rfl
                go_wp2_with (at_builtin; refine wpList_append_own _ rfl _ _ 26 rfl w15.heap.size 30 iC (.agg #[.int .i64 0, .int .i64 0, .string ⟨#[]⟩]) 3 32 Tryz.underlying26 hiC hz0 hz1 hz2 rfl (by decide) _ _ _ rfl (O20.out.alloc _) ⟨w20.heap.size, 0, none⟩ 1 1 [.int .i64 xa, .int .i64 xb, .string xc] rfl rfl (cells3n _ _ _ _ _) (by intro u hu; simp at hu; rcases hu with rfl | rfl | rfl <;> rfl) (by unfold maxLen; omega) (by omega) (by have := hb20'.size; simp at this ⊢; omega) ?_)
                intro v' w30 own30 hgrow hnn
                have hb30 : Below w15.heap.size w15 w30 := (hb20'.alloc hb20'.size _).grown hgrow (by have := hb20'.size; simp at this ⊢; omega) (fun kk hkk => (O20.out.lt kk hkk).1)
                have hv30 : v' ≠ .slice none 0 0 := by first | exact hnn | exact fun e => hvn (hnn.1 e).1
                have fin : Hid (∃ R' : List CT, R'.length = k + 1 ∧ Fit R' ∧ R'.all okC = true ∧ (R.take (k + 1)).all okC = true ∧ (∀ j (h1 : j < R'.length) (h2 : j < R.length) (h3 : j < C.length), C[j] ∈ Ln → R[j] = R'[j]) ∧ w30.ownsRow w15.heap.size 30 3 v' R'.length (flat R')) := by
                  refine ⟨R' ++ [(xa, xb, xc)], by rw [← HRL.out]; simp, HFR.out.append hxf, by rw [List.all_append, HOK.out]; simp [HBO.out], HTK.out (by first | rfl | trivial), HAG.out _ (fun _ => rfl), ?_⟩
                  rw [flat_append, List.length_append, HRL.out]
                  exact own30
                clear own30 hgrow hnn
                go_wp2
                go_roundw
                case rel => exact ⟨k + 1, by go_num, by omega, hv30, fin.out, hb30⟩
                case measure => simp [intOf]; omega
            · have hkq : k = q := by omega
              subst hkq
              have hi1 : ¬ (k : Int) < (k : Int) := by omega
              have HAR : Hid (R.all okC = true) := by
                have : R.all okC = true := by
                  have := HTK0.out
                  rwa [List.take_of_length_le (by rw [HQ.out]; exact Nat.le_refl _)] at this
                exact this
              obtain ⟨w25, hw25⟩ : ∃ x, x = wr := ⟨_, rfl⟩
              subst hw25
              have A25 : Hid (At9 w25 gl l gc C gr R) := A15.out.below hbz
              have S25 : Hid (StrsAt w25 (some ⟨g14, 0, none⟩) Ln) := S15.out.below hbz
              have K25 : Hid (w25.cell? ⟨CB, 0, none⟩ = some (.int .i64 y1) ∧ w25.cell? ⟨CB, 1, none⟩ = some (.int .i64 y2) ∧ w25.cell? ⟨CB, 2, none⟩ = some (.string y3) ∧ CB < w25.heap.size) := later3 hbz K15.out
              have hx25 := chain hx15 hbz
              have RR25 : Hid (RowAt w25 (some ⟨gv, 0, none⟩) R') := own_row (cap := kv) (base := w15.heap.size) (e := 30) (by rw [HRL.out]; exact OR.out)
              have HY2 : Hid (reckR C R' l = ((y1, y2, y3), f)) := by
                have : reckR C R' l = ((y1, y2, y3), f) := by
                  rw [← HY.out]
                  refine (reck_same (by rw [HQ.out, HM.out]) (by rw [HRL.out, HM.out]) HAR.out HOK.out ?_).symm
                  intro j h0 h1 h2 hm
                  exact HAG0.out j h2 h1 h0 (by rw [← HLn.out]; exact hm)
                exact this
              clear OR hbz HTK0 HAG0 hgvl
              go_wp2_with fail
              go_loopw [20] (fun ii wz => ∃ j : Nat, ii = .int .i64 j ∧ j ≤ 0 ∧ Hid (∀ s ∈ Ln.take j, s ∈ C) ∧ wz = w25) (fun ii _ => 0 - (intOf ii).toNat)
              case atStart => exact ⟨0, rfl, Nat.zero_le _, by simp [Hid], rfl⟩
              case round =>
                obtain ⟨j, rfl, hj, hAll, hwr⟩ := hrel
                obtain rfl : w25 = wr := hwr.symm
                by_cases hjl : j < 0
                · have hjL : j < Ln.length := by rw [HNn.out]; exact hjl
                  obtain ⟨b1, o1, e1, hlt2, d0⟩ := S25.out j hjL
                  simp only [Option.some.injEq, Addr.mk.injEq, and_true] at e1
                  obtain ⟨rfl, rfl⟩ := e1
                  simp only [Nat.zero_add] at d0
                  have HSn : Hid (Ln[j] ∈ C → ∀ s ∈ Ln.take (j + 1), s ∈ C) := by
                    have : Ln[j] ∈ C → ∀ s ∈ Ln.take (j + 1), s ∈ C := fun h s hs => by
                      rw [List.take_succ_eq_append_getElem hjL] at hs
                      rcases List.mem_append.1 hs with hs | hs
                      · exact hAll.out s hs
                      · simp only [List.mem_singleton] at hs; subst hs; exact h
                    exact this
                  have HSm : Hid (Ln[j] ∈ namesR l) := by
                    have : Ln[j] ∈ namesR l := by rw [HLn.out]; exact List.getElem_mem hjL
                    exact this
                  generalize Ln[j] = s at d0 HSn HSm
                  have hj0 : (0 : Int) ≤ (j : Int) := by omega
                  have hj1 : (j : Int) < ((0 : Int)) := by omega
                  obtain ⟨bh, hbh⟩ : ∃ b : Bool, (b = true ↔ s ∈ C) := by
                    by_cases h : s ∈ C
                    · exact ⟨true, by simp [h]⟩
                    · exact ⟨false, by simp [h]⟩
                  have HBH : Hid (bh = true ↔ s ∈ C) := hbh
                  clear hbh hAll
                  go_wp2_with fail
                  refine (has_laws k _ _ C HM.out s _ A25.out.2.1 hqM bh HBH.out).mono ?_
                  rintro e w26 ⟨rfl, hw26⟩
                  obtain rfl : w25 = w26 := hw26.symm
                  cases bh
                  · have hno := has_not (C := C) HSm.out (fun h => by have := HBH.out.2 h; cases this)
                    have h3 : f = 3 := by
                      have := HY.out
                      rw [reck_name (C := C) (R := R) (l := l) hno] at this
                      injection this with _ e
                      exact e.symm
                    have h3' : (f == 3) = true := by simp [h3]
                    go_wp2
                    go_ret
                    exact ⟨rfl, hx25⟩
                  · have HS2 : Hid (∀ s ∈ Ln.take (j + 1), s ∈ C) := HSn.out (HBH.out.1 rfl)
                    go_wp2
                    go_roundw
                    case rel => exact ⟨j + 1, by go_num, by omega, HS2, trivial⟩
                    case measure => simp [intOf]; omega
                · have hjn : j = 0 := by omega
                  subst hjn
                  have HHAS : Hid (hasC C l = true) := by
                    have : hasC C l = true := has_of (fun s hs => by
                      rw [HLn.out] at hs
                      refine hAll.out s ?_
                      rw [List.take_of_length_le (by rw [HNn.out]; exact Nat.le_refl _)]
                      exact hs) HBS.out
                    exact this
                  have hj1 : ¬ ((0 : Int) < ((0 : Int))) := by omega
                  obtain ⟨bm, hbm⟩ : ∃ b, mayR l = b := ⟨_, rfl⟩
                  have HBM : Hid (mayR l = bm) := hbm
                  clear hbm hAll
                  go_wp2_with fail
                  refine (reckon_impl _ _ l n HN.out _ _ C k HM.out _ _ R' k HRL.out _ A25.out.1 FD.out FI.out hnM A25.out.2.1 hqM RR25.out HFR.out hqM (HP.out.below hx25) (HE.out.below hx25) _ HY2.out).mono ?_
                  rintro e w27 ⟨rfl, hb27⟩
                  obtain ⟨k0, k1, k2, k3⟩ := later3 hb27 K25.out
                  have hx27 := chain hx25 hb27
                  have I27 : Hid (ItmAt w27 (some ⟨gl, 0, none⟩) l) := A25.out.1.below hb27
                  have hes := eql_same y1 y2 y3
                  have hfe : (f == f) = true := by simp
                  clear hb27 hx25 A25 S25 K25 RR25
                  go_wp2_with fail
                  have hbB : Below w27.heap.size w27 (w27.alloc (.cells #[.int .i64 y1, .int .i64 y2, .string y3] 30)) := (Below.refl _ _).alloc (Nat.le_refl _) _
                  refine (may_specb _ _ l n HN.out _ (I27.out.below hbB) FI.out hnM bm HBM.out).mono ?_
                  rintro e w28 ⟨rfl, hb28⟩
                  have hx28 := chain (chain hx27 hbB) hb28
                  cases bm
                  · have hfz : f = 0 := by
                      have := reck_safe HBM.out HHAS.out (by rw [HQ.out, HM.out]) HAR.out
                      rw [HY.out] at this
                      exact this
                    have hfz' : (f == 0) = true := by simp [hfz]
                    go_wp2
                    go_ret
                    exact ⟨rfl, hx28⟩
                  · go_wp2
                    go_ret
                    exact ⟨rfl, hx28⟩
        · have hqn : ((q : Int) != (m : Int)) = true := by simp; omega
          have h3 : f = 3 := by
            have := HY.out
            rw [reck_len (C := C) (R := R) (l := l) (by rw [HQ.out, HM.out]; exact hqm)] at this
            injection this with _ e
            exact e.symm
          have h3' : (f == 3) = true := by simp [h3]
          go_wp2
          go_ret
          exact ⟨rfl, hx15⟩
      · have hN0' : ((N : Int) == 0) = false := by simp; omega
        have HBS : Hid (sumB l = true) := by
          have : sumB l = true := names_sum (by rw [HLn.out]; intro e; rw [e] at HNn; exact hN0 HNn.out.symm)
          exact this
        by_cases hqm : q = m
        · subst hqm
          have own0 : Hid ((w14.alloc (.cells #[] 30)).ownsRow w14.heap.size 30 3 (.slice (some ⟨w14.heap.size, 0, none⟩) 0 0) 0 []) := ⟨rfl, .inr ⟨w14.heap.size, 0, #[], rfl, Nat.le_refl _, by show (w14.heap.push _)[w14.heap.size]? = _; simp, Nat.le_refl _, by unfold maxLen; omega, rfl, rfl⟩⟩
          have hbo : Below w14.heap.size w14 (w14.alloc (.cells #[] 30)) := (Below.refl _ _).alloc (Nat.le_refl _) _
          go_wp2_with fail
          go_loopw [17, 18] (fun v ii wz => ∃ k : Nat, ii = .int .i64 k ∧ k ≤ q ∧ v ≠ .slice none 0 0 ∧ Hid (∃ R' : List CT, R'.length = k ∧ Fit R' ∧ R'.all okC = true ∧ (R.take k).all okC = true ∧ (∀ j (h1 : j < R'.length) (h2 : j < R.length) (h3 : j < C.length), C[j] ∈ Ln → R[j] = R'[j]) ∧ wz.ownsRow w14.heap.size 30 3 v R'.length (flat R')) ∧ Below w14.heap.size w14 wz) (fun _ ii _ => q - (intOf ii).toNat)
          case atStart => exact ⟨0, rfl, Nat.zero_le _, by simp, ⟨[], rfl, fun j hj => by simp at hj, rfl, rfl, fun j h1 => by simp at h1, own0.out⟩, hbo⟩
          case round =>
            obtain ⟨k, rfl, hk, hvn, hP, hbz⟩ := hrel
            clear own0 hbo
            obtain ⟨R', hR', hFR', hOK', hTK', hAG', ownR⟩ := hP.out
            have HRL : Hid (R'.length = k) := hR'
            have HFR : Hid (Fit R') := hFR'
            have HOK : Hid (R'.all okC = true) := hOK'
            have HTK0 : Hid ((R.take k).all okC = true) := hTK'
            have HAG0 : Hid (∀ j (h1 : j < R'.length) (h2 : j < R.length) (h3 : j < C.length), C[j] ∈ Ln → R[j] = R'[j]) := hAG'
            clear hP hFR' hOK' hTK' hAG'
            rw [hR'] at ownR
            obtain ⟨gv, kv, hv⟩ := form9 ownR hvn
            subst hv
            have OR : Hid (wr.ownsRow w14.heap.size 30 3 (.slice (some ⟨gv, 0, none⟩) k kv) k (flat R')) := ownR
            have hgvl := (OR.out.lt gv rfl)
            clear ownR hR'
            by_cases hlt : k < q
            · have hkR : k < R.length := by rw [HQ.out]; exact hlt
              have hkC : k < C.length := by rw [HM.out]; exact hlt
              obtain ⟨b1, o1, e1, hlt1, c0, c1, c2⟩ := (A14.out.2.2.below hbz) k hkR
              simp only [Option.some.injEq, Addr.mk.injEq, and_true] at e1
              obtain ⟨rfl, rfl⟩ := e1
              obtain ⟨b1, o1, e1, hlt2, d0⟩ := (A14.out.2.1.below hbz) k hkC
              simp only [Option.some.injEq, Addr.mk.injEq, and_true] at e1
              obtain ⟨rfl, rfl⟩ := e1
              simp only [Nat.zero_add] at c0 c1 c2 d0
              have hxf := FR.out k hkR
              obtain ⟨bo, hbo⟩ : ∃ b, okC R[k] = b := ⟨_, rfl⟩
              have HBAD : Hid (bo = false → R.all okC ≠ true) := by
                have : bo = false → R.all okC ≠ true := fun e h => by
                  have := List.all_eq_true.1 h _ (List.getElem_mem hkR)
                  rw [hbo, e] at this
                  cases this
                exact this
              have HTK : Hid (bo = true → (R.take (k + 1)).all okC = true) := by
                have : bo = true → (R.take (k + 1)).all okC = true := fun e => by
                  rw [List.take_succ_eq_append_getElem hkR, List.all_append, HTK0.out, Bool.true_and, List.all_cons, List.all_nil, Bool.and_true, hbo, e]
                exact this
              have HAG : Hid (∀ y : CT, (C[k] ∈ Ln → R[k] = y) → ∀ j (h1 : j < (R' ++ [y]).length) (h2 : j < R.length) (h3 : j < C.length), C[j] ∈ Ln → R[j] = (R' ++ [y])[j]) := by
                have : ∀ y : CT, (C[k] ∈ Ln → R[k] = y) → ∀ j (h1 : j < (R' ++ [y]).length) (h2 : j < R.length) (h3 : j < C.length), C[j] ∈ Ln → R[j] = (R' ++ [y])[j] := fun y hy j h1 h2 h3 hm => by
                  by_cases hj : j < R'.length
                  · rw [List.getElem_append_left hj]; exact HAG0.out j hj h2 h3 hm
                  · have e : j = k := by
                      rw [List.length_append, List.length_cons, List.length_nil, HRL.out] at h1
                      rw [HRL.out] at hj
                      omega
                    subst e
                    rw [List.getElem_append_right (by omega)]
                    simp only [HRL.out, Nat.sub_self, List.getElem_cons_zero]
                    exact hy hm
                exact this
              have HBO : Hid (okC R[k] = bo) := hbo
              clear hbo HTK0 HAG0
              generalize R[k] = x at c0 c1 c2 hxf HBO HAG
              generalize C[k] = s at d0 HAG
              obtain ⟨xa, xb, xc⟩ := x
              dsimp only at c0 c1 c2 hxf
              have hi0 : (0 : Int) ≤ (k : Int) := by omega
              have hi1 : (k : Int) < (q : Int) := by omega
              have hgne : wr.heap.size ≠ gc := by omega
              go_wp2_with fail
              refine (ok_specb xa xb xc bo HBO.out _ hxf).mono ?_
              rintro e w20 ⟨rfl, hb20⟩
              obtain ⟨⟨p0, p1, p2, p3⟩, f0, f1, f2⟩ := box3F hb20
              have hdA : Below wr.heap.size wr w20 := chain ((Below.refl wr.heap.size wr).alloc (Nat.le_refl _) _) hb20
              have hb20' : Below w14.heap.size w14 w20 := chain hbz hdA
              have d20 : w20.cell? ⟨gc, k, none⟩ = some (.string s) := by rw [hdA.cell (p := ⟨gc, k, none⟩) hlt2]; exact d0
              have O20 : Hid (w20.ownsRow w14.heap.size 30 3 (.slice (some ⟨gv, 0, none⟩) k kv) k (flat R')) := own_below OR.out hdA
              have hx20 := chain hx14 hb20'
              have hszw := hbz.size
              obtain ⟨XB, hXB⟩ : ∃ B, wr.heap.size = B := ⟨_, rfl⟩
              have hgo : gv ≠ XB := by omega
              rw [hXB] at p0 p1 p2 p3 f0 f1 f2 hgne
              have hwX : w14.heap.size ≤ XB := by omega
              have HXB : Hid (wr.heap.size = XB) := hXB
              clear hb20 hdA c0 c1 c2 d0 OR hbz hXB hlt1 hlt2
              cases bo
              · have hBad := HBAD.out rfl
                have h3 : f = 3 := by
                  have := HY.out
                  rw [reck_bad (C := C) (R := R) (l := l) hBad] at this
                  injection this with _ e
                  exact e.symm
                have h3' : (f == 3) = true := by simp [h3]
                go_wp2
                go_ret
                exact ⟨rfl, hx20⟩
              try rw [HXB.out]
              obtain ⟨bh, hbh⟩ : ∃ b : Bool, (b = true ↔ s ∈ Ln) := by
                by_cases h : s ∈ Ln
                · exact ⟨true, by simp [h]⟩
                · exact ⟨false, by simp [h]⟩
              have HBH : Hid (bh = true ↔ s ∈ Ln) := hbh
              clear hbh
              go_wp2_with fail
              refine (has_laws N _ _ Ln HNn.out s _ (S14h.out.below hb20') hNM bh HBH.out).mono ?_
              rintro e w21 ⟨rfl, hw21⟩
              obtain rfl : w20 = w21 := hw21.symm
              cases bh
              · go_wp2_with fail
                refine (pick_laws9 a len cap hlen k (by omega) w20 (HC.out.below hx20)).mono ?_
                rintro e w22 ⟨r, rfl, hr9, hw22⟩
                obtain rfl : w20 = w22 := hw22.symm
                go_wp2_with fail
                refine (number_laws (r : Int) _).mono ?_
                rintro e w23 ⟨rfl, hb23⟩
                have hb23' : Below w14.heap.size w14 w23 := chain hb20' hb23
                have q0 := (hb23.cell (p := ⟨XB, 0, none⟩) p3).trans p0
                have q1 := (hb23.cell (p := ⟨XB, 1, none⟩) p3).trans p1
                have q2 := (hb23.cell (p := ⟨XB, 2, none⟩) p3).trans p2
                have e0 := (hb23.frozen (p := ⟨XB, 0, none⟩) p3).trans f0
                have e1 := (hb23.frozen (p := ⟨XB, 1, none⟩) p3).trans f1
                have e2 := (hb23.frozen (p := ⟨XB, 2, none⟩) p3).trans f2
                have O23 : Hid ((((w23.setCell ⟨XB, 0, none⟩ (.int .i64 1)).setCell ⟨XB, 1, none⟩ (.int .i64 (r : Int))).setCell ⟨XB, 2, none⟩ (.string ⟨#[]⟩)).ownsRow w14.heap.size 30 3 (.slice (some ⟨gv, 0, none⟩) k kv) k (flat R')) := own_far9 (own_far9 (own_far9 (own_below O20.out hb23) _ _ _ hgo) _ _ _ hgo) _ _ _ hgo
                have hb24 : Below w14.heap.size w14 (((w23.setCell ⟨XB, 0, none⟩ (.int .i64 1)).setCell ⟨XB, 1, none⟩ (.int .i64 (r : Int))).setCell ⟨XB, 2, none⟩ (.string ⟨#[]⟩)) := ((hb23'.setCell hwX _).setCell hwX _).setCell hwX _
                have hnn9 : numB (r : Int) = true := by unfold numB; simp; omega
                have hns9 : ¬ s ∈ Ln := fun h => by have := HBH.out.2 h; cases this
                clear p0 p1 p2 f0 f1 f2 O20 hb20' hb23 hb23'
                go_wp2_with (at_builtin; refine wpList_append_own _ rfl _ _ 26 rfl w14.heap.size 30 iC (.agg #[.int .i64 0, .int .i64 0, .string ⟨#[]⟩]) 3 32 Tryz.underlying26 hiC hz0 hz1 hz2 rfl (by decide) _ _ _ rfl (O23.out.alloc _) ⟨w23.heap.size, 0, none⟩ 1 1 [.int .i64 1, .int .i64 (r : Int), .string ⟨#[]⟩] rfl rfl (cells3x _ _ _ _ _ _ _ _) (by intro u hu; simp at hu; rcases hu with rfl | rfl | rfl <;> rfl) (by unfold maxLen; omega) (by omega) (by have := hb24.size; simp at this ⊢; omega) ?_)
                intro v' w30 own30 hgrow hnn
                have hb30 : Below w14.heap.size w14 w30 := (hb24.alloc hb24.size _).grown hgrow (by have := hb24.size; simp at this ⊢; omega) (fun kk hkk => (O23.out.lt kk hkk).1)
                have hv30 : v' ≠ .slice none 0 0 := by first | exact hnn | exact fun e => hvn (hnn.1 e).1
                have fin : Hid (∃ R' : List CT, R'.length = k + 1 ∧ Fit R' ∧ R'.all okC = true ∧ (R.take (k + 1)).all okC = true ∧ (∀ j (h1 : j < R'.length) (h2 : j < R.length) (h3 : j < C.length), C[j] ∈ Ln → R[j] = R'[j]) ∧ w30.ownsRow w14.heap.size 30 3 v' R'.length (flat R')) := by
                  refine ⟨R' ++ [((1 : Int), (r : Int), (⟨#[]⟩ : ByteArray))], by rw [← HRL.out]; simp, HFR.out.append (by show (0 : Nat) ≤ maxLen; unfold maxLen; omega), by rw [List.all_append, HOK.out]; simp [one_ok hnn9], HTK.out (by first | rfl | trivial), HAG.out _ (fun h => absurd h hns9), ?_⟩
                  rw [flat_append, List.length_append, HRL.out]
                  exact own30
                clear own30 hgrow hnn
                go_wp2
                go_roundw
                case rel => exact ⟨k + 1, by go_num, by omega, hv30, fin.out, hb30⟩
                case measure => simp [intOf]; omega
              · have hs9 : s ∈ Ln := HBH.out.1 rfl
                go_wp2_with (at_builtin; refine wpList_append_own _ rfl _ _ 26 rfl w14.heap.size 30 iC (.agg #[.int .i64 0, .int .i64 0, .string ⟨#[]⟩]) 3 32 Tryz.underlying26 hiC hz0 hz1 hz2 rfl (by decide) _ _ _ rfl (O20.out.alloc _) ⟨w20.heap.size, 0, none⟩ 1 1 [.int .i64 xa, .int .i64 xb, .string xc] rfl rfl (cells3n _ _ _ _ _) (by intro u hu; simp at hu; rcases hu with rfl | rfl | rfl <;> rfl) (by unfold maxLen; omega) (by omega) (by have := hb20'.size; simp at this ⊢; omega) ?_)
                intro v' w30 own30 hgrow hnn
                have hb30 : Below w14.heap.size w14 w30 := (hb20'.alloc hb20'.size _).grown hgrow (by have := hb20'.size; simp at this ⊢; omega) (fun kk hkk => (O20.out.lt kk hkk).1)
                have hv30 : v' ≠ .slice none 0 0 := by first | exact hnn | exact fun e => hvn (hnn.1 e).1
                have fin : Hid (∃ R' : List CT, R'.length = k + 1 ∧ Fit R' ∧ R'.all okC = true ∧ (R.take (k + 1)).all okC = true ∧ (∀ j (h1 : j < R'.length) (h2 : j < R.length) (h3 : j < C.length), C[j] ∈ Ln → R[j] = R'[j]) ∧ w30.ownsRow w14.heap.size 30 3 v' R'.length (flat R')) := by
                  refine ⟨R' ++ [(xa, xb, xc)], by rw [← HRL.out]; simp, HFR.out.append hxf, by rw [List.all_append, HOK.out]; simp [HBO.out], HTK.out (by first | rfl | trivial), HAG.out _ (fun _ => rfl), ?_⟩
                  rw [flat_append, List.length_append, HRL.out]
                  exact own30
                clear own30 hgrow hnn
                go_wp2
                go_roundw
                case rel => exact ⟨k + 1, by go_num, by omega, hv30, fin.out, hb30⟩
                case measure => simp [intOf]; omega
            · have hkq : k = q := by omega
              subst hkq
              have hi1 : ¬ (k : Int) < (k : Int) := by omega
              have HAR : Hid (R.all okC = true) := by
                have : R.all okC = true := by
                  have := HTK0.out
                  rwa [List.take_of_length_le (by rw [HQ.out]; exact Nat.le_refl _)] at this
                exact this
              obtain ⟨w25, hw25⟩ : ∃ x, x = wr := ⟨_, rfl⟩
              subst hw25
              have A25 : Hid (At9 w25 gl l gc C gr R) := A14.out.below hbz
              have S25 : Hid (StrsAt w25 (some ⟨g14, 0, none⟩) Ln) := S14h.out.below hbz
              have K25 : Hid (w25.cell? ⟨CB, 0, none⟩ = some (.int .i64 y1) ∧ w25.cell? ⟨CB, 1, none⟩ = some (.int .i64 y2) ∧ w25.cell? ⟨CB, 2, none⟩ = some (.string y3) ∧ CB < w25.heap.size) := later3 hbz K14.out
              have hx25 := chain hx14 hbz
              have RR25 : Hid (RowAt w25 (some ⟨gv, 0, none⟩) R') := own_row (cap := kv) (base := w14.heap.size) (e := 30) (by rw [HRL.out]; exact OR.out)
              have HY2 : Hid (reckR C R' l = ((y1, y2, y3), f)) := by
                have : reckR C R' l = ((y1, y2, y3), f) := by
                  rw [← HY.out]
                  refine (reck_same (by rw [HQ.out, HM.out]) (by rw [HRL.out, HM.out]) HAR.out HOK.out ?_).symm
                  intro j h0 h1 h2 hm
                  exact HAG0.out j h2 h1 h0 (by rw [← HLn.out]; exact hm)
                exact this
              clear OR hbz HTK0 HAG0 hgvl
              go_wp2_with fail
              go_loopw [20] (fun ii wz => ∃ j : Nat, ii = .int .i64 j ∧ j ≤ N ∧ Hid (∀ s ∈ Ln.take j, s ∈ C) ∧ wz = w25) (fun ii _ => N - (intOf ii).toNat)
              case atStart => exact ⟨0, rfl, Nat.zero_le _, by simp [Hid], rfl⟩
              case round =>
                obtain ⟨j, rfl, hj, hAll, hwr⟩ := hrel
                obtain rfl : w25 = wr := hwr.symm
                by_cases hjl : j < N
                · have hjL : j < Ln.length := by rw [HNn.out]; exact hjl
                  obtain ⟨b1, o1, e1, hlt2, d0⟩ := S25.out j hjL
                  simp only [Option.some.injEq, Addr.mk.injEq, and_true] at e1
                  obtain ⟨rfl, rfl⟩ := e1
                  simp only [Nat.zero_add] at d0
                  have HSn : Hid (Ln[j] ∈ C → ∀ s ∈ Ln.take (j + 1), s ∈ C) := by
                    have : Ln[j] ∈ C → ∀ s ∈ Ln.take (j + 1), s ∈ C := fun h s hs => by
                      rw [List.take_succ_eq_append_getElem hjL] at hs
                      rcases List.mem_append.1 hs with hs | hs
                      · exact hAll.out s hs
                      · simp only [List.mem_singleton] at hs; subst hs; exact h
                    exact this
                  have HSm : Hid (Ln[j] ∈ namesR l) := by
                    have : Ln[j] ∈ namesR l := by rw [HLn.out]; exact List.getElem_mem hjL
                    exact this
                  generalize Ln[j] = s at d0 HSn HSm
                  have hj0 : (0 : Int) ≤ (j : Int) := by omega
                  have hj1 : (j : Int) < ((N : Int)) := by omega
                  obtain ⟨bh, hbh⟩ : ∃ b : Bool, (b = true ↔ s ∈ C) := by
                    by_cases h : s ∈ C
                    · exact ⟨true, by simp [h]⟩
                    · exact ⟨false, by simp [h]⟩
                  have HBH : Hid (bh = true ↔ s ∈ C) := hbh
                  clear hbh hAll
                  go_wp2_with fail
                  refine (has_laws k _ _ C HM.out s _ A25.out.2.1 hqM bh HBH.out).mono ?_
                  rintro e w26 ⟨rfl, hw26⟩
                  obtain rfl : w25 = w26 := hw26.symm
                  cases bh
                  · have hno := has_not (C := C) HSm.out (fun h => by have := HBH.out.2 h; cases this)
                    have h3 : f = 3 := by
                      have := HY.out
                      rw [reck_name (C := C) (R := R) (l := l) hno] at this
                      injection this with _ e
                      exact e.symm
                    have h3' : (f == 3) = true := by simp [h3]
                    go_wp2
                    go_ret
                    exact ⟨rfl, hx25⟩
                  · have HS2 : Hid (∀ s ∈ Ln.take (j + 1), s ∈ C) := HSn.out (HBH.out.1 rfl)
                    go_wp2
                    go_roundw
                    case rel => exact ⟨j + 1, by go_num, by omega, HS2, trivial⟩
                    case measure => simp [intOf]; omega
                · have hjn : j = N := by omega
                  subst hjn
                  have HHAS : Hid (hasC C l = true) := by
                    have : hasC C l = true := has_of (fun s hs => by
                      rw [HLn.out] at hs
                      refine hAll.out s ?_
                      rw [List.take_of_length_le (by rw [HNn.out]; exact Nat.le_refl _)]
                      exact hs) HBS.out
                    exact this
                  have hj1 : ¬ ((j : Int) < ((j : Int))) := by omega
                  obtain ⟨bm, hbm⟩ : ∃ b, mayR l = b := ⟨_, rfl⟩
                  have HBM : Hid (mayR l = bm) := hbm
                  clear hbm hAll
                  go_wp2_with fail
                  refine (reckon_impl _ _ l n HN.out _ _ C k HM.out _ _ R' k HRL.out _ A25.out.1 FD.out FI.out hnM A25.out.2.1 hqM RR25.out HFR.out hqM (HP.out.below hx25) (HE.out.below hx25) _ HY2.out).mono ?_
                  rintro e w27 ⟨rfl, hb27⟩
                  obtain ⟨k0, k1, k2, k3⟩ := later3 hb27 K25.out
                  have hx27 := chain hx25 hb27
                  have I27 : Hid (ItmAt w27 (some ⟨gl, 0, none⟩) l) := A25.out.1.below hb27
                  have hes := eql_same y1 y2 y3
                  have hfe : (f == f) = true := by simp
                  clear hb27 hx25 A25 S25 K25 RR25
                  go_wp2_with fail
                  have hbB : Below w27.heap.size w27 (w27.alloc (.cells #[.int .i64 y1, .int .i64 y2, .string y3] 30)) := (Below.refl _ _).alloc (Nat.le_refl _) _
                  refine (may_specb _ _ l n HN.out _ (I27.out.below hbB) FI.out hnM bm HBM.out).mono ?_
                  rintro e w28 ⟨rfl, hb28⟩
                  have hx28 := chain (chain hx27 hbB) hb28
                  cases bm
                  · have hfz : f = 0 := by
                      have := reck_safe HBM.out HHAS.out (by rw [HQ.out, HM.out]) HAR.out
                      rw [HY.out] at this
                      exact this
                    have hfz' : (f == 0) = true := by simp [hfz]
                    go_wp2
                    go_ret
                    exact ⟨rfl, hx28⟩
                  · go_wp2
                    go_ret
                    exact ⟨rfl, hx28⟩
        · have hqn : ((q : Int) != (m : Int)) = true := by simp; omega
          have h3 : f = 3 := by
            have := HY.out
            rw [reck_len (C := C) (R := R) (l := l) (by rw [HQ.out, HM.out]; exact hqm)] at this
            injection this with _ e
            exact e.symm
          have h3' : (f == 3) = true := by simp [h3]
          go_wp2
          go_ret
          exact ⟨rfl, hx14⟩
    · have HSM : Hid (sameB y1 y2 y3 3 1 ⟨#[]⟩ = true) := by
        have : sameB y1 y2 y3 3 1 ⟨#[]⟩ = true := pass_holds (by rw [HY.out, HF0.out]) HPP.out
        exact this
      go_wp2_with fail
      refine (holds_specb y1 y2 y3 true HSM.out _).mono ?_
      rintro e w13 ⟨rfl, hb13⟩
      have hx13 := chain hx12 hb13
      have A13 : Hid (At9 w13 gl l gc C gr R) := A12.out.below hb13
      have K13 : Hid (w13.cell? ⟨CB, 0, none⟩ = some (.int .i64 y1) ∧ w13.cell? ⟨CB, 1, none⟩ = some (.int .i64 y2) ∧ w13.cell? ⟨CB, 2, none⟩ = some (.string y3) ∧ CB < w13.heap.size) := later3 hb13 K12.out
      clear hx12 hb13 A12 K12 k0 k1 k2 k3
      go_wp2_with fail
      obtain ⟨Ln, hLn⟩ : ∃ L, namesR l = L := ⟨_, rfl⟩
      have HLn : Hid (namesR l = Ln) := hLn
      obtain ⟨N, hNn⟩ : ∃ N, Ln.length = N := ⟨_, rfl⟩
      have HNn : Hid (Ln.length = N) := hNn
      have hN1 : N ≤ 1000 := by
        have := namesR_len l
        rw [hLn, hNn] at this
        exact this
      have hNM : N ≤ maxLen := by unfold maxLen; omega
      clear hLn hNn
      refine (names_spec _ _ l n HN.out _ A13.out.1 FI.out hnM).mono ?_
      rintro e w14 ⟨g14, c14, rfl, _, _, S14, hb14⟩
      rw [HLn.out] at S14 ⊢
      rw [HNn.out]
      have S14h : Hid (StrsAt w14 (some ⟨g14, 0, none⟩) Ln) := S14
      have hx14 := chain hx13 hb14
      have A14 : Hid (At9 w14 gl l gc C gr R) := A13.out.below hb14
      have K14 : Hid (w14.cell? ⟨CB, 0, none⟩ = some (.int .i64 y1) ∧ w14.cell? ⟨CB, 1, none⟩ = some (.int .i64 y2) ∧ w14.cell? ⟨CB, 2, none⟩ = some (.string y3) ∧ CB < w14.heap.size) := later3 hb14 K13.out
      clear hx13 hb14 A13 K13 S14
      by_cases hN0 : N = 0
      · subst hN0
        obtain ⟨bs, hbs⟩ : ∃ b, sumB l = b := ⟨_, rfl⟩
        have HBS : Hid (sumB l = bs) := hbs
        clear hbs
        go_wp2_with fail
        refine (sum_spec _ _ l n HN.out _ A14.out.1 FI.out hnM bs HBS.out).mono ?_
        rintro e w15 ⟨rfl, hb15⟩
        have hx15 := chain hx14 hb15
        have A15 : Hid (At9 w15 gl l gc C gr R) := A14.out.below hb15
        have K15 : Hid (w15.cell? ⟨CB, 0, none⟩ = some (.int .i64 y1) ∧ w15.cell? ⟨CB, 1, none⟩ = some (.int .i64 y2) ∧ w15.cell? ⟨CB, 2, none⟩ = some (.string y3) ∧ CB < w15.heap.size) := later3 hb15 K14.out
        have S15 : Hid (StrsAt w15 (some ⟨g14, 0, none⟩) Ln) := S14h.out.below hb15
        clear hx14 hb15 A14 K14 S14h
        cases bs
        · have h3 : f = 3 := by
            have := HY.out
            rw [reck_sum (C := C) (R := R) HBS.out] at this
            injection this with _ e
            exact e.symm
          have h3' : (f == 3) = true := by simp [h3]
          go_wp2
          go_ret
          exact ⟨rfl, hx15⟩
        by_cases hqm : q = m
        · subst hqm
          have own0 : Hid ((w15.alloc (.cells #[] 30)).ownsRow w15.heap.size 30 3 (.slice (some ⟨w15.heap.size, 0, none⟩) 0 0) 0 []) := ⟨rfl, .inr ⟨w15.heap.size, 0, #[], rfl, Nat.le_refl _, by show (w15.heap.push _)[w15.heap.size]? = _; simp, Nat.le_refl _, by unfold maxLen; omega, rfl, rfl⟩⟩
          have hbo : Below w15.heap.size w15 (w15.alloc (.cells #[] 30)) := (Below.refl _ _).alloc (Nat.le_refl _) _
          go_wp2_with fail
          go_loopw [17, 18] (fun v ii wz => ∃ k : Nat, ii = .int .i64 k ∧ k ≤ q ∧ v ≠ .slice none 0 0 ∧ Hid (∃ R' : List CT, R'.length = k ∧ Fit R' ∧ R'.all okC = true ∧ (R.take k).all okC = true ∧ (∀ j (h1 : j < R'.length) (h2 : j < R.length) (h3 : j < C.length), C[j] ∈ Ln → R[j] = R'[j]) ∧ wz.ownsRow w15.heap.size 30 3 v R'.length (flat R')) ∧ Below w15.heap.size w15 wz) (fun _ ii _ => q - (intOf ii).toNat)
          case atStart => exact ⟨0, rfl, Nat.zero_le _, by simp, ⟨[], rfl, fun j hj => by simp at hj, rfl, rfl, fun j h1 => by simp at h1, own0.out⟩, hbo⟩
          case round =>
            obtain ⟨k, rfl, hk, hvn, hP, hbz⟩ := hrel
            clear own0 hbo
            obtain ⟨R', hR', hFR', hOK', hTK', hAG', ownR⟩ := hP.out
            have HRL : Hid (R'.length = k) := hR'
            have HFR : Hid (Fit R') := hFR'
            have HOK : Hid (R'.all okC = true) := hOK'
            have HTK0 : Hid ((R.take k).all okC = true) := hTK'
            have HAG0 : Hid (∀ j (h1 : j < R'.length) (h2 : j < R.length) (h3 : j < C.length), C[j] ∈ Ln → R[j] = R'[j]) := hAG'
            clear hP hFR' hOK' hTK' hAG'
            rw [hR'] at ownR
            obtain ⟨gv, kv, hv⟩ := form9 ownR hvn
            subst hv
            have OR : Hid (wr.ownsRow w15.heap.size 30 3 (.slice (some ⟨gv, 0, none⟩) k kv) k (flat R')) := ownR
            have hgvl := (OR.out.lt gv rfl)
            clear ownR hR'
            by_cases hlt : k < q
            · have hkR : k < R.length := by rw [HQ.out]; exact hlt
              have hkC : k < C.length := by rw [HM.out]; exact hlt
              obtain ⟨b1, o1, e1, hlt1, c0, c1, c2⟩ := (A15.out.2.2.below hbz) k hkR
              simp only [Option.some.injEq, Addr.mk.injEq, and_true] at e1
              obtain ⟨rfl, rfl⟩ := e1
              obtain ⟨b1, o1, e1, hlt2, d0⟩ := (A15.out.2.1.below hbz) k hkC
              simp only [Option.some.injEq, Addr.mk.injEq, and_true] at e1
              obtain ⟨rfl, rfl⟩ := e1
              simp only [Nat.zero_add] at c0 c1 c2 d0
              have hxf := FR.out k hkR
              obtain ⟨bo, hbo⟩ : ∃ b, okC R[k] = b := ⟨_, rfl⟩
              have HBAD : Hid (bo = false → R.all okC ≠ true) := by
                have : bo = false → R.all okC ≠ true := fun e h => by
                  have := List.all_eq_true.1 h _ (List.getElem_mem hkR)
                  rw [hbo, e] at this
                  cases this
                exact this
              have HTK : Hid (bo = true → (R.take (k + 1)).all okC = true) := by
                have : bo = true → (R.take (k + 1)).all okC = true := fun e => by
                  rw [List.take_succ_eq_append_getElem hkR, List.all_append, HTK0.out, Bool.true_and, List.all_cons, List.all_nil, Bool.and_true, hbo, e]
                exact this
              have HAG : Hid (∀ y : CT, (C[k] ∈ Ln → R[k] = y) → ∀ j (h1 : j < (R' ++ [y]).length) (h2 : j < R.length) (h3 : j < C.length), C[j] ∈ Ln → R[j] = (R' ++ [y])[j]) := by
                have : ∀ y : CT, (C[k] ∈ Ln → R[k] = y) → ∀ j (h1 : j < (R' ++ [y]).length) (h2 : j < R.length) (h3 : j < C.length), C[j] ∈ Ln → R[j] = (R' ++ [y])[j] := fun y hy j h1 h2 h3 hm => by
                  by_cases hj : j < R'.length
                  · rw [List.getElem_append_left hj]; exact HAG0.out j hj h2 h3 hm
                  · have e : j = k := by
                      rw [List.length_append, List.length_cons, List.length_nil, HRL.out] at h1
                      rw [HRL.out] at hj
                      omega
                    subst e
                    rw [List.getElem_append_right (by omega)]
                    simp only [HRL.out, Nat.sub_self, List.getElem_cons_zero]
                    exact hy hm
                exact this
              have HBO : Hid (okC R[k] = bo) := hbo
              clear hbo HTK0 HAG0
              generalize R[k] = x at c0 c1 c2 hxf HBO HAG
              generalize C[k] = s at d0 HAG
              obtain ⟨xa, xb, xc⟩ := x
              dsimp only at c0 c1 c2 hxf
              have hi0 : (0 : Int) ≤ (k : Int) := by omega
              have hi1 : (k : Int) < (q : Int) := by omega
              have hgne : wr.heap.size ≠ gc := by omega
              go_wp2_with fail
              refine (ok_specb xa xb xc bo HBO.out _ hxf).mono ?_
              rintro e w20 ⟨rfl, hb20⟩
              obtain ⟨⟨p0, p1, p2, p3⟩, f0, f1, f2⟩ := box3F hb20
              have hdA : Below wr.heap.size wr w20 := chain ((Below.refl wr.heap.size wr).alloc (Nat.le_refl _) _) hb20
              have hb20' : Below w15.heap.size w15 w20 := chain hbz hdA
              have d20 : w20.cell? ⟨gc, k, none⟩ = some (.string s) := by rw [hdA.cell (p := ⟨gc, k, none⟩) hlt2]; exact d0
              have O20 : Hid (w20.ownsRow w15.heap.size 30 3 (.slice (some ⟨gv, 0, none⟩) k kv) k (flat R')) := own_below OR.out hdA
              have hx20 := chain hx15 hb20'
              have hszw := hbz.size
              obtain ⟨XB, hXB⟩ : ∃ B, wr.heap.size = B := ⟨_, rfl⟩
              have hgo : gv ≠ XB := by omega
              rw [hXB] at p0 p1 p2 p3 f0 f1 f2 hgne
              have hwX : w15.heap.size ≤ XB := by omega
              have HXB : Hid (wr.heap.size = XB) := hXB
              clear hb20 hdA c0 c1 c2 d0 OR hbz hXB hlt1 hlt2
              cases bo
              · have hBad := HBAD.out rfl
                have h3 : f = 3 := by
                  have := HY.out
                  rw [reck_bad (C := C) (R := R) (l := l) hBad] at this
                  injection this with _ e
                  exact e.symm
                have h3' : (f == 3) = true := by simp [h3]
                go_wp2
                go_ret
                exact ⟨rfl, hx20⟩
              try rw [HXB.out]
              obtain ⟨bh, hbh⟩ : ∃ b : Bool, (b = true ↔ s ∈ Ln) := by
                by_cases h : s ∈ Ln
                · exact ⟨true, by simp [h]⟩
                · exact ⟨false, by simp [h]⟩
              have HBH : Hid (bh = true ↔ s ∈ Ln) := hbh
              clear hbh
              go_wp2_with fail
              refine (has_laws 0 _ _ Ln HNn.out s _ (S15.out.below hb20') hNM bh HBH.out).mono ?_
              rintro e w21 ⟨rfl, hw21⟩
              obtain rfl : w20 = w21 := hw21.symm
              cases bh
              · go_wp2_with fail
                refine (pick_laws9 a len cap hlen k (by omega) w20 (HC.out.below hx20)).mono ?_
                rintro e w22 ⟨r, rfl, hr9, hw22⟩
                obtain rfl : w20 = w22 := hw22.symm
                go_wp2_with fail
                refine (number_laws (r : Int) _).mono ?_
                rintro e w23 ⟨rfl, hb23⟩
                have hb23' : Below w15.heap.size w15 w23 := chain hb20' hb23
                have q0 := (hb23.cell (p := ⟨XB, 0, none⟩) p3).trans p0
                have q1 := (hb23.cell (p := ⟨XB, 1, none⟩) p3).trans p1
                have q2 := (hb23.cell (p := ⟨XB, 2, none⟩) p3).trans p2
                have e0 := (hb23.frozen (p := ⟨XB, 0, none⟩) p3).trans f0
                have e1 := (hb23.frozen (p := ⟨XB, 1, none⟩) p3).trans f1
                have e2 := (hb23.frozen (p := ⟨XB, 2, none⟩) p3).trans f2
                have O23 : Hid ((((w23.setCell ⟨XB, 0, none⟩ (.int .i64 1)).setCell ⟨XB, 1, none⟩ (.int .i64 (r : Int))).setCell ⟨XB, 2, none⟩ (.string ⟨#[]⟩)).ownsRow w15.heap.size 30 3 (.slice (some ⟨gv, 0, none⟩) k kv) k (flat R')) := own_far9 (own_far9 (own_far9 (own_below O20.out hb23) _ _ _ hgo) _ _ _ hgo) _ _ _ hgo
                have hb24 : Below w15.heap.size w15 (((w23.setCell ⟨XB, 0, none⟩ (.int .i64 1)).setCell ⟨XB, 1, none⟩ (.int .i64 (r : Int))).setCell ⟨XB, 2, none⟩ (.string ⟨#[]⟩)) := ((hb23'.setCell hwX _).setCell hwX _).setCell hwX _
                have hnn9 : numB (r : Int) = true := by unfold numB; simp; omega
                have hns9 : ¬ s ∈ Ln := fun h => by have := HBH.out.2 h; cases this
                clear p0 p1 p2 f0 f1 f2 O20 hb20' hb23 hb23'
                go_wp2_with (at_builtin; refine wpList_append_own _ rfl _ _ 26 rfl w15.heap.size 30 iC (.agg #[.int .i64 0, .int .i64 0, .string ⟨#[]⟩]) 3 32 Tryz.underlying26 hiC hz0 hz1 hz2 rfl (by decide) _ _ _ rfl (O23.out.alloc _) ⟨w23.heap.size, 0, none⟩ 1 1 [.int .i64 1, .int .i64 (r : Int), .string ⟨#[]⟩] rfl rfl (cells3x _ _ _ _ _ _ _ _) (by intro u hu; simp at hu; rcases hu with rfl | rfl | rfl <;> rfl) (by unfold maxLen; omega) (by omega) (by have := hb24.size; simp at this ⊢; omega) ?_)
                intro v' w30 own30 hgrow hnn
                have hb30 : Below w15.heap.size w15 w30 := (hb24.alloc hb24.size _).grown hgrow (by have := hb24.size; simp at this ⊢; omega) (fun kk hkk => (O23.out.lt kk hkk).1)
                have hv30 : v' ≠ .slice none 0 0 := by first | exact hnn | exact fun e => hvn (hnn.1 e).1
                have fin : Hid (∃ R' : List CT, R'.length = k + 1 ∧ Fit R' ∧ R'.all okC = true ∧ (R.take (k + 1)).all okC = true ∧ (∀ j (h1 : j < R'.length) (h2 : j < R.length) (h3 : j < C.length), C[j] ∈ Ln → R[j] = R'[j]) ∧ w30.ownsRow w15.heap.size 30 3 v' R'.length (flat R')) := by
                  refine ⟨R' ++ [((1 : Int), (r : Int), (⟨#[]⟩ : ByteArray))], by rw [← HRL.out]; simp, HFR.out.append (by show (0 : Nat) ≤ maxLen; unfold maxLen; omega), by rw [List.all_append, HOK.out]; simp [one_ok hnn9], HTK.out (by first | rfl | trivial), HAG.out _ (fun h => absurd h hns9), ?_⟩
                  rw [flat_append, List.length_append, HRL.out]
                  exact own30
                clear own30 hgrow hnn
                go_wp2
                go_roundw
                case rel => exact ⟨k + 1, by go_num, by omega, hv30, fin.out, hb30⟩
                case measure => simp [intOf]; omega
              · have hs9 : s ∈ Ln := HBH.out.1 rfl
                go_wp2_with (at_builtin; refine wpList_append_own _ rfl _ _ 26 rfl w15.heap.size 30 iC (.agg #[.int .i64 0, .int .i64 0, .string ⟨#[]⟩]) 3 32 Tryz.underlying26 hiC hz0 hz1 hz2 rfl (by decide) _ _ _ rfl (O20.out.alloc _) ⟨w20.heap.size, 0, none⟩ 1 1 [.int .i64 xa, .int .i64 xb, .string xc] rfl rfl (cells3n _ _ _ _ _) (by intro u hu; simp at hu; rcases hu with rfl | rfl | rfl <;> rfl) (by unfold maxLen; omega) (by omega) (by have := hb20'.size; simp at this ⊢; omega) ?_)
                intro v' w30 own30 hgrow hnn
                have hb30 : Below w15.heap.size w15 w30 := (hb20'.alloc hb20'.size _).grown hgrow (by have := hb20'.size; simp at this ⊢; omega) (fun kk hkk => (O20.out.lt kk hkk).1)
                have hv30 : v' ≠ .slice none 0 0 := by first | exact hnn | exact fun e => hvn (hnn.1 e).1
                have fin : Hid (∃ R' : List CT, R'.length = k + 1 ∧ Fit R' ∧ R'.all okC = true ∧ (R.take (k + 1)).all okC = true ∧ (∀ j (h1 : j < R'.length) (h2 : j < R.length) (h3 : j < C.length), C[j] ∈ Ln → R[j] = R'[j]) ∧ w30.ownsRow w15.heap.size 30 3 v' R'.length (flat R')) := by
                  refine ⟨R' ++ [(xa, xb, xc)], by rw [← HRL.out]; simp, HFR.out.append hxf, by rw [List.all_append, HOK.out]; simp [HBO.out], HTK.out (by first | rfl | trivial), HAG.out _ (fun _ => rfl), ?_⟩
                  rw [flat_append, List.length_append, HRL.out]
                  exact own30
                clear own30 hgrow hnn
                go_wp2
                go_roundw
                case rel => exact ⟨k + 1, by go_num, by omega, hv30, fin.out, hb30⟩
                case measure => simp [intOf]; omega
            · have hkq : k = q := by omega
              subst hkq
              have hi1 : ¬ (k : Int) < (k : Int) := by omega
              have HAR : Hid (R.all okC = true) := by
                have : R.all okC = true := by
                  have := HTK0.out
                  rwa [List.take_of_length_le (by rw [HQ.out]; exact Nat.le_refl _)] at this
                exact this
              obtain ⟨w25, hw25⟩ : ∃ x, x = wr := ⟨_, rfl⟩
              subst hw25
              have A25 : Hid (At9 w25 gl l gc C gr R) := A15.out.below hbz
              have S25 : Hid (StrsAt w25 (some ⟨g14, 0, none⟩) Ln) := S15.out.below hbz
              have K25 : Hid (w25.cell? ⟨CB, 0, none⟩ = some (.int .i64 y1) ∧ w25.cell? ⟨CB, 1, none⟩ = some (.int .i64 y2) ∧ w25.cell? ⟨CB, 2, none⟩ = some (.string y3) ∧ CB < w25.heap.size) := later3 hbz K15.out
              have hx25 := chain hx15 hbz
              have RR25 : Hid (RowAt w25 (some ⟨gv, 0, none⟩) R') := own_row (cap := kv) (base := w15.heap.size) (e := 30) (by rw [HRL.out]; exact OR.out)
              have HY2 : Hid (reckR C R' l = ((y1, y2, y3), f)) := by
                have : reckR C R' l = ((y1, y2, y3), f) := by
                  rw [← HY.out]
                  refine (reck_same (by rw [HQ.out, HM.out]) (by rw [HRL.out, HM.out]) HAR.out HOK.out ?_).symm
                  intro j h0 h1 h2 hm
                  exact HAG0.out j h2 h1 h0 (by rw [← HLn.out]; exact hm)
                exact this
              clear OR hbz HTK0 HAG0 hgvl
              go_wp2_with fail
              go_loopw [20] (fun ii wz => ∃ j : Nat, ii = .int .i64 j ∧ j ≤ 0 ∧ Hid (∀ s ∈ Ln.take j, s ∈ C) ∧ wz = w25) (fun ii _ => 0 - (intOf ii).toNat)
              case atStart => exact ⟨0, rfl, Nat.zero_le _, by simp [Hid], rfl⟩
              case round =>
                obtain ⟨j, rfl, hj, hAll, hwr⟩ := hrel
                obtain rfl : w25 = wr := hwr.symm
                by_cases hjl : j < 0
                · have hjL : j < Ln.length := by rw [HNn.out]; exact hjl
                  obtain ⟨b1, o1, e1, hlt2, d0⟩ := S25.out j hjL
                  simp only [Option.some.injEq, Addr.mk.injEq, and_true] at e1
                  obtain ⟨rfl, rfl⟩ := e1
                  simp only [Nat.zero_add] at d0
                  have HSn : Hid (Ln[j] ∈ C → ∀ s ∈ Ln.take (j + 1), s ∈ C) := by
                    have : Ln[j] ∈ C → ∀ s ∈ Ln.take (j + 1), s ∈ C := fun h s hs => by
                      rw [List.take_succ_eq_append_getElem hjL] at hs
                      rcases List.mem_append.1 hs with hs | hs
                      · exact hAll.out s hs
                      · simp only [List.mem_singleton] at hs; subst hs; exact h
                    exact this
                  have HSm : Hid (Ln[j] ∈ namesR l) := by
                    have : Ln[j] ∈ namesR l := by rw [HLn.out]; exact List.getElem_mem hjL
                    exact this
                  generalize Ln[j] = s at d0 HSn HSm
                  have hj0 : (0 : Int) ≤ (j : Int) := by omega
                  have hj1 : (j : Int) < ((0 : Int)) := by omega
                  obtain ⟨bh, hbh⟩ : ∃ b : Bool, (b = true ↔ s ∈ C) := by
                    by_cases h : s ∈ C
                    · exact ⟨true, by simp [h]⟩
                    · exact ⟨false, by simp [h]⟩
                  have HBH : Hid (bh = true ↔ s ∈ C) := hbh
                  clear hbh hAll
                  go_wp2_with fail
                  refine (has_laws k _ _ C HM.out s _ A25.out.2.1 hqM bh HBH.out).mono ?_
                  rintro e w26 ⟨rfl, hw26⟩
                  obtain rfl : w25 = w26 := hw26.symm
                  cases bh
                  · have hno := has_not (C := C) HSm.out (fun h => by have := HBH.out.2 h; cases this)
                    have h3 : f = 3 := by
                      have := HY.out
                      rw [reck_name (C := C) (R := R) (l := l) hno] at this
                      injection this with _ e
                      exact e.symm
                    have h3' : (f == 3) = true := by simp [h3]
                    go_wp2
                    go_ret
                    exact ⟨rfl, hx25⟩
                  · have HS2 : Hid (∀ s ∈ Ln.take (j + 1), s ∈ C) := HSn.out (HBH.out.1 rfl)
                    go_wp2
                    go_roundw
                    case rel => exact ⟨j + 1, by go_num, by omega, HS2, trivial⟩
                    case measure => simp [intOf]; omega
                · have hjn : j = 0 := by omega
                  subst hjn
                  have HHAS : Hid (hasC C l = true) := by
                    have : hasC C l = true := has_of (fun s hs => by
                      rw [HLn.out] at hs
                      refine hAll.out s ?_
                      rw [List.take_of_length_le (by rw [HNn.out]; exact Nat.le_refl _)]
                      exact hs) HBS.out
                    exact this
                  have hj1 : ¬ ((0 : Int) < ((0 : Int))) := by omega
                  obtain ⟨bm, hbm⟩ : ∃ b, mayR l = b := ⟨_, rfl⟩
                  have HBM : Hid (mayR l = bm) := hbm
                  clear hbm hAll
                  go_wp2_with fail
                  refine (reckon_impl _ _ l n HN.out _ _ C k HM.out _ _ R' k HRL.out _ A25.out.1 FD.out FI.out hnM A25.out.2.1 hqM RR25.out HFR.out hqM (HP.out.below hx25) (HE.out.below hx25) _ HY2.out).mono ?_
                  rintro e w27 ⟨rfl, hb27⟩
                  obtain ⟨k0, k1, k2, k3⟩ := later3 hb27 K25.out
                  have hx27 := chain hx25 hb27
                  have I27 : Hid (ItmAt w27 (some ⟨gl, 0, none⟩) l) := A25.out.1.below hb27
                  have hes := eql_same y1 y2 y3
                  have hfe : (f == f) = true := by simp
                  clear hb27 hx25 A25 S25 K25 RR25
                  go_wp2_with fail
                  have hbB : Below w27.heap.size w27 (w27.alloc (.cells #[.int .i64 y1, .int .i64 y2, .string y3] 30)) := (Below.refl _ _).alloc (Nat.le_refl _) _
                  refine (may_specb _ _ l n HN.out _ (I27.out.below hbB) FI.out hnM bm HBM.out).mono ?_
                  rintro e w28 ⟨rfl, hb28⟩
                  have hx28 := chain (chain hx27 hbB) hb28
                  cases bm
                  · have hfz : f = 0 := by
                      have := reck_safe HBM.out HHAS.out (by rw [HQ.out, HM.out]) HAR.out
                      rw [HY.out] at this
                      exact this
                    have hfz' : (f == 0) = true := by simp [hfz]
                    go_wp2
                    go_ret
                    exact ⟨rfl, hx28⟩
                  · go_wp2
                    go_ret
                    exact ⟨rfl, hx28⟩
        · have hqn : ((q : Int) != (m : Int)) = true := by simp; omega
          have h3 : f = 3 := by
            have := HY.out
            rw [reck_len (C := C) (R := R) (l := l) (by rw [HQ.out, HM.out]; exact hqm)] at this
            injection this with _ e
            exact e.symm
          have h3' : (f == 3) = true := by simp [h3]
          go_wp2
          go_ret
          exact ⟨rfl, hx15⟩
      · have hN0' : ((N : Int) == 0) = false := by simp; omega
        have HBS : Hid (sumB l = true) := by
          have : sumB l = true := names_sum (by rw [HLn.out]; intro e; rw [e] at HNn; exact hN0 HNn.out.symm)
          exact this
        by_cases hqm : q = m
        · subst hqm
          have own0 : Hid ((w14.alloc (.cells #[] 30)).ownsRow w14.heap.size 30 3 (.slice (some ⟨w14.heap.size, 0, none⟩) 0 0) 0 []) := ⟨rfl, .inr ⟨w14.heap.size, 0, #[], rfl, Nat.le_refl _, by show (w14.heap.push _)[w14.heap.size]? = _; simp, Nat.le_refl _, by unfold maxLen; omega, rfl, rfl⟩⟩
          have hbo : Below w14.heap.size w14 (w14.alloc (.cells #[] 30)) := (Below.refl _ _).alloc (Nat.le_refl _) _
          go_wp2_with fail
          go_loopw [17, 18] (fun v ii wz => ∃ k : Nat, ii = .int .i64 k ∧ k ≤ q ∧ v ≠ .slice none 0 0 ∧ Hid (∃ R' : List CT, R'.length = k ∧ Fit R' ∧ R'.all okC = true ∧ (R.take k).all okC = true ∧ (∀ j (h1 : j < R'.length) (h2 : j < R.length) (h3 : j < C.length), C[j] ∈ Ln → R[j] = R'[j]) ∧ wz.ownsRow w14.heap.size 30 3 v R'.length (flat R')) ∧ Below w14.heap.size w14 wz) (fun _ ii _ => q - (intOf ii).toNat)
          case atStart => exact ⟨0, rfl, Nat.zero_le _, by simp, ⟨[], rfl, fun j hj => by simp at hj, rfl, rfl, fun j h1 => by simp at h1, own0.out⟩, hbo⟩
          case round =>
            obtain ⟨k, rfl, hk, hvn, hP, hbz⟩ := hrel
            clear own0 hbo
            obtain ⟨R', hR', hFR', hOK', hTK', hAG', ownR⟩ := hP.out
            have HRL : Hid (R'.length = k) := hR'
            have HFR : Hid (Fit R') := hFR'
            have HOK : Hid (R'.all okC = true) := hOK'
            have HTK0 : Hid ((R.take k).all okC = true) := hTK'
            have HAG0 : Hid (∀ j (h1 : j < R'.length) (h2 : j < R.length) (h3 : j < C.length), C[j] ∈ Ln → R[j] = R'[j]) := hAG'
            clear hP hFR' hOK' hTK' hAG'
            rw [hR'] at ownR
            obtain ⟨gv, kv, hv⟩ := form9 ownR hvn
            subst hv
            have OR : Hid (wr.ownsRow w14.heap.size 30 3 (.slice (some ⟨gv, 0, none⟩) k kv) k (flat R')) := ownR
            have hgvl := (OR.out.lt gv rfl)
            clear ownR hR'
            by_cases hlt : k < q
            · have hkR : k < R.length := by rw [HQ.out]; exact hlt
              have hkC : k < C.length := by rw [HM.out]; exact hlt
              obtain ⟨b1, o1, e1, hlt1, c0, c1, c2⟩ := (A14.out.2.2.below hbz) k hkR
              simp only [Option.some.injEq, Addr.mk.injEq, and_true] at e1
              obtain ⟨rfl, rfl⟩ := e1
              obtain ⟨b1, o1, e1, hlt2, d0⟩ := (A14.out.2.1.below hbz) k hkC
              simp only [Option.some.injEq, Addr.mk.injEq, and_true] at e1
              obtain ⟨rfl, rfl⟩ := e1
              simp only [Nat.zero_add] at c0 c1 c2 d0
              have hxf := FR.out k hkR
              obtain ⟨bo, hbo⟩ : ∃ b, okC R[k] = b := ⟨_, rfl⟩
              have HBAD : Hid (bo = false → R.all okC ≠ true) := by
                have : bo = false → R.all okC ≠ true := fun e h => by
                  have := List.all_eq_true.1 h _ (List.getElem_mem hkR)
                  rw [hbo, e] at this
                  cases this
                exact this
              have HTK : Hid (bo = true → (R.take (k + 1)).all okC = true) := by
                have : bo = true → (R.take (k + 1)).all okC = true := fun e => by
                  rw [List.take_succ_eq_append_getElem hkR, List.all_append, HTK0.out, Bool.true_and, List.all_cons, List.all_nil, Bool.and_true, hbo, e]
                exact this
              have HAG : Hid (∀ y : CT, (C[k] ∈ Ln → R[k] = y) → ∀ j (h1 : j < (R' ++ [y]).length) (h2 : j < R.length) (h3 : j < C.length), C[j] ∈ Ln → R[j] = (R' ++ [y])[j]) := by
                have : ∀ y : CT, (C[k] ∈ Ln → R[k] = y) → ∀ j (h1 : j < (R' ++ [y]).length) (h2 : j < R.length) (h3 : j < C.length), C[j] ∈ Ln → R[j] = (R' ++ [y])[j] := fun y hy j h1 h2 h3 hm => by
                  by_cases hj : j < R'.length
                  · rw [List.getElem_append_left hj]; exact HAG0.out j hj h2 h3 hm
                  · have e : j = k := by
                      rw [List.length_append, List.length_cons, List.length_nil, HRL.out] at h1
                      rw [HRL.out] at hj
                      omega
                    subst e
                    rw [List.getElem_append_right (by omega)]
                    simp only [HRL.out, Nat.sub_self, List.getElem_cons_zero]
                    exact hy hm
                exact this
              have HBO : Hid (okC R[k] = bo) := hbo
              clear hbo HTK0 HAG0
              generalize R[k] = x at c0 c1 c2 hxf HBO HAG
              generalize C[k] = s at d0 HAG
              obtain ⟨xa, xb, xc⟩ := x
              dsimp only at c0 c1 c2 hxf
              have hi0 : (0 : Int) ≤ (k : Int) := by omega
              have hi1 : (k : Int) < (q : Int) := by omega
              have hgne : wr.heap.size ≠ gc := by omega
              go_wp2_with fail
              refine (ok_specb xa xb xc bo HBO.out _ hxf).mono ?_
              rintro e w20 ⟨rfl, hb20⟩
              obtain ⟨⟨p0, p1, p2, p3⟩, f0, f1, f2⟩ := box3F hb20
              have hdA : Below wr.heap.size wr w20 := chain ((Below.refl wr.heap.size wr).alloc (Nat.le_refl _) _) hb20
              have hb20' : Below w14.heap.size w14 w20 := chain hbz hdA
              have d20 : w20.cell? ⟨gc, k, none⟩ = some (.string s) := by rw [hdA.cell (p := ⟨gc, k, none⟩) hlt2]; exact d0
              have O20 : Hid (w20.ownsRow w14.heap.size 30 3 (.slice (some ⟨gv, 0, none⟩) k kv) k (flat R')) := own_below OR.out hdA
              have hx20 := chain hx14 hb20'
              have hszw := hbz.size
              obtain ⟨XB, hXB⟩ : ∃ B, wr.heap.size = B := ⟨_, rfl⟩
              have hgo : gv ≠ XB := by omega
              rw [hXB] at p0 p1 p2 p3 f0 f1 f2 hgne
              have hwX : w14.heap.size ≤ XB := by omega
              have HXB : Hid (wr.heap.size = XB) := hXB
              clear hb20 hdA c0 c1 c2 d0 OR hbz hXB hlt1 hlt2
              cases bo
              · have hBad := HBAD.out rfl
                have h3 : f = 3 := by
                  have := HY.out
                  rw [reck_bad (C := C) (R := R) (l := l) hBad] at this
                  injection this with _ e
                  exact e.symm
                have h3' : (f == 3) = true := by simp [h3]
                go_wp2
                go_ret
                exact ⟨rfl, hx20⟩
              try rw [HXB.out]
              obtain ⟨bh, hbh⟩ : ∃ b : Bool, (b = true ↔ s ∈ Ln) := by
                by_cases h : s ∈ Ln
                · exact ⟨true, by simp [h]⟩
                · exact ⟨false, by simp [h]⟩
              have HBH : Hid (bh = true ↔ s ∈ Ln) := hbh
              clear hbh
              go_wp2_with fail
              refine (has_laws N _ _ Ln HNn.out s _ (S14h.out.below hb20') hNM bh HBH.out).mono ?_
              rintro e w21 ⟨rfl, hw21⟩
              obtain rfl : w20 = w21 := hw21.symm
              cases bh
              · go_wp2_with fail
                refine (pick_laws9 a len cap hlen k (by omega) w20 (HC.out.below hx20)).mono ?_
                rintro e w22 ⟨r, rfl, hr9, hw22⟩
                obtain rfl : w20 = w22 := hw22.symm
                go_wp2_with fail
                refine (number_laws (r : Int) _).mono ?_
                rintro e w23 ⟨rfl, hb23⟩
                have hb23' : Below w14.heap.size w14 w23 := chain hb20' hb23
                have q0 := (hb23.cell (p := ⟨XB, 0, none⟩) p3).trans p0
                have q1 := (hb23.cell (p := ⟨XB, 1, none⟩) p3).trans p1
                have q2 := (hb23.cell (p := ⟨XB, 2, none⟩) p3).trans p2
                have e0 := (hb23.frozen (p := ⟨XB, 0, none⟩) p3).trans f0
                have e1 := (hb23.frozen (p := ⟨XB, 1, none⟩) p3).trans f1
                have e2 := (hb23.frozen (p := ⟨XB, 2, none⟩) p3).trans f2
                have O23 : Hid ((((w23.setCell ⟨XB, 0, none⟩ (.int .i64 1)).setCell ⟨XB, 1, none⟩ (.int .i64 (r : Int))).setCell ⟨XB, 2, none⟩ (.string ⟨#[]⟩)).ownsRow w14.heap.size 30 3 (.slice (some ⟨gv, 0, none⟩) k kv) k (flat R')) := own_far9 (own_far9 (own_far9 (own_below O20.out hb23) _ _ _ hgo) _ _ _ hgo) _ _ _ hgo
                have hb24 : Below w14.heap.size w14 (((w23.setCell ⟨XB, 0, none⟩ (.int .i64 1)).setCell ⟨XB, 1, none⟩ (.int .i64 (r : Int))).setCell ⟨XB, 2, none⟩ (.string ⟨#[]⟩)) := ((hb23'.setCell hwX _).setCell hwX _).setCell hwX _
                have hnn9 : numB (r : Int) = true := by unfold numB; simp; omega
                have hns9 : ¬ s ∈ Ln := fun h => by have := HBH.out.2 h; cases this
                clear p0 p1 p2 f0 f1 f2 O20 hb20' hb23 hb23'
                go_wp2_with (at_builtin; refine wpList_append_own _ rfl _ _ 26 rfl w14.heap.size 30 iC (.agg #[.int .i64 0, .int .i64 0, .string ⟨#[]⟩]) 3 32 Tryz.underlying26 hiC hz0 hz1 hz2 rfl (by decide) _ _ _ rfl (O23.out.alloc _) ⟨w23.heap.size, 0, none⟩ 1 1 [.int .i64 1, .int .i64 (r : Int), .string ⟨#[]⟩] rfl rfl (cells3x _ _ _ _ _ _ _ _) (by intro u hu; simp at hu; rcases hu with rfl | rfl | rfl <;> rfl) (by unfold maxLen; omega) (by omega) (by have := hb24.size; simp at this ⊢; omega) ?_)
                intro v' w30 own30 hgrow hnn
                have hb30 : Below w14.heap.size w14 w30 := (hb24.alloc hb24.size _).grown hgrow (by have := hb24.size; simp at this ⊢; omega) (fun kk hkk => (O23.out.lt kk hkk).1)
                have hv30 : v' ≠ .slice none 0 0 := by first | exact hnn | exact fun e => hvn (hnn.1 e).1
                have fin : Hid (∃ R' : List CT, R'.length = k + 1 ∧ Fit R' ∧ R'.all okC = true ∧ (R.take (k + 1)).all okC = true ∧ (∀ j (h1 : j < R'.length) (h2 : j < R.length) (h3 : j < C.length), C[j] ∈ Ln → R[j] = R'[j]) ∧ w30.ownsRow w14.heap.size 30 3 v' R'.length (flat R')) := by
                  refine ⟨R' ++ [((1 : Int), (r : Int), (⟨#[]⟩ : ByteArray))], by rw [← HRL.out]; simp, HFR.out.append (by show (0 : Nat) ≤ maxLen; unfold maxLen; omega), by rw [List.all_append, HOK.out]; simp [one_ok hnn9], HTK.out (by first | rfl | trivial), HAG.out _ (fun h => absurd h hns9), ?_⟩
                  rw [flat_append, List.length_append, HRL.out]
                  exact own30
                clear own30 hgrow hnn
                go_wp2
                go_roundw
                case rel => exact ⟨k + 1, by go_num, by omega, hv30, fin.out, hb30⟩
                case measure => simp [intOf]; omega
              · have hs9 : s ∈ Ln := HBH.out.1 rfl
                go_wp2_with (at_builtin; refine wpList_append_own _ rfl _ _ 26 rfl w14.heap.size 30 iC (.agg #[.int .i64 0, .int .i64 0, .string ⟨#[]⟩]) 3 32 Tryz.underlying26 hiC hz0 hz1 hz2 rfl (by decide) _ _ _ rfl (O20.out.alloc _) ⟨w20.heap.size, 0, none⟩ 1 1 [.int .i64 xa, .int .i64 xb, .string xc] rfl rfl (cells3n _ _ _ _ _) (by intro u hu; simp at hu; rcases hu with rfl | rfl | rfl <;> rfl) (by unfold maxLen; omega) (by omega) (by have := hb20'.size; simp at this ⊢; omega) ?_)
                intro v' w30 own30 hgrow hnn
                have hb30 : Below w14.heap.size w14 w30 := (hb20'.alloc hb20'.size _).grown hgrow (by have := hb20'.size; simp at this ⊢; omega) (fun kk hkk => (O20.out.lt kk hkk).1)
                have hv30 : v' ≠ .slice none 0 0 := by first | exact hnn | exact fun e => hvn (hnn.1 e).1
                have fin : Hid (∃ R' : List CT, R'.length = k + 1 ∧ Fit R' ∧ R'.all okC = true ∧ (R.take (k + 1)).all okC = true ∧ (∀ j (h1 : j < R'.length) (h2 : j < R.length) (h3 : j < C.length), C[j] ∈ Ln → R[j] = R'[j]) ∧ w30.ownsRow w14.heap.size 30 3 v' R'.length (flat R')) := by
                  refine ⟨R' ++ [(xa, xb, xc)], by rw [← HRL.out]; simp, HFR.out.append hxf, by rw [List.all_append, HOK.out]; simp [HBO.out], HTK.out (by first | rfl | trivial), HAG.out _ (fun _ => rfl), ?_⟩
                  rw [flat_append, List.length_append, HRL.out]
                  exact own30
                clear own30 hgrow hnn
                go_wp2
                go_roundw
                case rel => exact ⟨k + 1, by go_num, by omega, hv30, fin.out, hb30⟩
                case measure => simp [intOf]; omega
            · have hkq : k = q := by omega
              subst hkq
              have hi1 : ¬ (k : Int) < (k : Int) := by omega
              have HAR : Hid (R.all okC = true) := by
                have : R.all okC = true := by
                  have := HTK0.out
                  rwa [List.take_of_length_le (by rw [HQ.out]; exact Nat.le_refl _)] at this
                exact this
              obtain ⟨w25, hw25⟩ : ∃ x, x = wr := ⟨_, rfl⟩
              subst hw25
              have A25 : Hid (At9 w25 gl l gc C gr R) := A14.out.below hbz
              have S25 : Hid (StrsAt w25 (some ⟨g14, 0, none⟩) Ln) := S14h.out.below hbz
              have K25 : Hid (w25.cell? ⟨CB, 0, none⟩ = some (.int .i64 y1) ∧ w25.cell? ⟨CB, 1, none⟩ = some (.int .i64 y2) ∧ w25.cell? ⟨CB, 2, none⟩ = some (.string y3) ∧ CB < w25.heap.size) := later3 hbz K14.out
              have hx25 := chain hx14 hbz
              have RR25 : Hid (RowAt w25 (some ⟨gv, 0, none⟩) R') := own_row (cap := kv) (base := w14.heap.size) (e := 30) (by rw [HRL.out]; exact OR.out)
              have HY2 : Hid (reckR C R' l = ((y1, y2, y3), f)) := by
                have : reckR C R' l = ((y1, y2, y3), f) := by
                  rw [← HY.out]
                  refine (reck_same (by rw [HQ.out, HM.out]) (by rw [HRL.out, HM.out]) HAR.out HOK.out ?_).symm
                  intro j h0 h1 h2 hm
                  exact HAG0.out j h2 h1 h0 (by rw [← HLn.out]; exact hm)
                exact this
              clear OR hbz HTK0 HAG0 hgvl
              go_wp2_with fail
              go_loopw [20] (fun ii wz => ∃ j : Nat, ii = .int .i64 j ∧ j ≤ N ∧ Hid (∀ s ∈ Ln.take j, s ∈ C) ∧ wz = w25) (fun ii _ => N - (intOf ii).toNat)
              case atStart => exact ⟨0, rfl, Nat.zero_le _, by simp [Hid], rfl⟩
              case round =>
                obtain ⟨j, rfl, hj, hAll, hwr⟩ := hrel
                obtain rfl : w25 = wr := hwr.symm
                by_cases hjl : j < N
                · have hjL : j < Ln.length := by rw [HNn.out]; exact hjl
                  obtain ⟨b1, o1, e1, hlt2, d0⟩ := S25.out j hjL
                  simp only [Option.some.injEq, Addr.mk.injEq, and_true] at e1
                  obtain ⟨rfl, rfl⟩ := e1
                  simp only [Nat.zero_add] at d0
                  have HSn : Hid (Ln[j] ∈ C → ∀ s ∈ Ln.take (j + 1), s ∈ C) := by
                    have : Ln[j] ∈ C → ∀ s ∈ Ln.take (j + 1), s ∈ C := fun h s hs => by
                      rw [List.take_succ_eq_append_getElem hjL] at hs
                      rcases List.mem_append.1 hs with hs | hs
                      · exact hAll.out s hs
                      · simp only [List.mem_singleton] at hs; subst hs; exact h
                    exact this
                  have HSm : Hid (Ln[j] ∈ namesR l) := by
                    have : Ln[j] ∈ namesR l := by rw [HLn.out]; exact List.getElem_mem hjL
                    exact this
                  generalize Ln[j] = s at d0 HSn HSm
                  have hj0 : (0 : Int) ≤ (j : Int) := by omega
                  have hj1 : (j : Int) < ((N : Int)) := by omega
                  obtain ⟨bh, hbh⟩ : ∃ b : Bool, (b = true ↔ s ∈ C) := by
                    by_cases h : s ∈ C
                    · exact ⟨true, by simp [h]⟩
                    · exact ⟨false, by simp [h]⟩
                  have HBH : Hid (bh = true ↔ s ∈ C) := hbh
                  clear hbh hAll
                  go_wp2_with fail
                  refine (has_laws k _ _ C HM.out s _ A25.out.2.1 hqM bh HBH.out).mono ?_
                  rintro e w26 ⟨rfl, hw26⟩
                  obtain rfl : w25 = w26 := hw26.symm
                  cases bh
                  · have hno := has_not (C := C) HSm.out (fun h => by have := HBH.out.2 h; cases this)
                    have h3 : f = 3 := by
                      have := HY.out
                      rw [reck_name (C := C) (R := R) (l := l) hno] at this
                      injection this with _ e
                      exact e.symm
                    have h3' : (f == 3) = true := by simp [h3]
                    go_wp2
                    go_ret
                    exact ⟨rfl, hx25⟩
                  · have HS2 : Hid (∀ s ∈ Ln.take (j + 1), s ∈ C) := HSn.out (HBH.out.1 rfl)
                    go_wp2
                    go_roundw
                    case rel => exact ⟨j + 1, by go_num, by omega, HS2, trivial⟩
                    case measure => simp [intOf]; omega
                · have hjn : j = N := by omega
                  subst hjn
                  have HHAS : Hid (hasC C l = true) := by
                    have : hasC C l = true := has_of (fun s hs => by
                      rw [HLn.out] at hs
                      refine hAll.out s ?_
                      rw [List.take_of_length_le (by rw [HNn.out]; exact Nat.le_refl _)]
                      exact hs) HBS.out
                    exact this
                  have hj1 : ¬ ((j : Int) < ((j : Int))) := by omega
                  obtain ⟨bm, hbm⟩ : ∃ b, mayR l = b := ⟨_, rfl⟩
                  have HBM : Hid (mayR l = bm) := hbm
                  clear hbm hAll
                  go_wp2_with fail
                  refine (reckon_impl _ _ l n HN.out _ _ C k HM.out _ _ R' k HRL.out _ A25.out.1 FD.out FI.out hnM A25.out.2.1 hqM RR25.out HFR.out hqM (HP.out.below hx25) (HE.out.below hx25) _ HY2.out).mono ?_
                  rintro e w27 ⟨rfl, hb27⟩
                  obtain ⟨k0, k1, k2, k3⟩ := later3 hb27 K25.out
                  have hx27 := chain hx25 hb27
                  have I27 : Hid (ItmAt w27 (some ⟨gl, 0, none⟩) l) := A25.out.1.below hb27
                  have hes := eql_same y1 y2 y3
                  have hfe : (f == f) = true := by simp
                  clear hb27 hx25 A25 S25 K25 RR25
                  go_wp2_with fail
                  have hbB : Below w27.heap.size w27 (w27.alloc (.cells #[.int .i64 y1, .int .i64 y2, .string y3] 30)) := (Below.refl _ _).alloc (Nat.le_refl _) _
                  refine (may_specb _ _ l n HN.out _ (I27.out.below hbB) FI.out hnM bm HBM.out).mono ?_
                  rintro e w28 ⟨rfl, hb28⟩
                  have hx28 := chain (chain hx27 hbB) hb28
                  cases bm
                  · have hfz : f = 0 := by
                      have := reck_safe HBM.out HHAS.out (by rw [HQ.out, HM.out]) HAR.out
                      rw [HY.out] at this
                      exact this
                    have hfz' : (f == 0) = true := by simp [hfz]
                    go_wp2
                    go_ret
                    exact ⟨rfl, hx28⟩
                  · go_wp2
                    go_ret
                    exact ⟨rfl, hx28⟩
        · have hqn : ((q : Int) != (m : Int)) = true := by simp; omega
          have h3 : f = 3 := by
            have := HY.out
            rw [reck_len (C := C) (R := R) (l := l) (by rw [HQ.out, HM.out]; exact hqm)] at this
            injection this with _ e
            exact e.symm
          have h3' : (f == 3) = true := by simp [h3]
          go_wp2
          go_ret
          exact ⟨rfl, hx14⟩
  · obtain ⟨hyz, rfl, hpf⟩ := pass_fault HY.out HPP.out hf
    obtain rfl : f = pf := hpf.symm
    unfold zeroC at hyz
    simp only [Prod.mk.injEq] at hyz
    obtain ⟨rfl, rfl, rfl⟩ := hyz
    have hf0 : (f != 0) = true := by simp [hf]
    go_wp2_with fail
    obtain ⟨Ln, hLn⟩ : ∃ L, namesR l = L := ⟨_, rfl⟩
    have HLn : Hid (namesR l = Ln) := hLn
    obtain ⟨N, hNn⟩ : ∃ N, Ln.length = N := ⟨_, rfl⟩
    have HNn : Hid (Ln.length = N) := hNn
    have hN1 : N ≤ 1000 := by
      have := namesR_len l
      rw [hLn, hNn] at this
      exact this
    have hNM : N ≤ maxLen := by unfold maxLen; omega
    clear hLn hNn
    refine (names_spec _ _ l n HN.out _ A12.out.1 FI.out hnM).mono ?_
    rintro e w14 ⟨g14, c14, rfl, _, _, S14, hb14⟩
    rw [HLn.out] at S14 ⊢
    rw [HNn.out]
    have S14h : Hid (StrsAt w14 (some ⟨g14, 0, none⟩) Ln) := S14
    have hx14 := chain hx12 hb14
    have A14 : Hid (At9 w14 gl l gc C gr R) := A12.out.below hb14
    have K14 : Hid (w14.cell? ⟨CB, 0, none⟩ = some (.int .i64 0) ∧ w14.cell? ⟨CB, 1, none⟩ = some (.int .i64 0) ∧ w14.cell? ⟨CB, 2, none⟩ = some (.string ⟨#[]⟩) ∧ CB < w14.heap.size) := later3 hb14 K12.out
    clear hx12 hb14 A12 K12 S14
    by_cases hN0 : N = 0
    · subst hN0
      obtain ⟨bs, hbs⟩ : ∃ b, sumB l = b := ⟨_, rfl⟩
      have HBS : Hid (sumB l = bs) := hbs
      clear hbs
      go_wp2_with fail
      refine (sum_spec _ _ l n HN.out _ A14.out.1 FI.out hnM bs HBS.out).mono ?_
      rintro e w15 ⟨rfl, hb15⟩
      have hx15 := chain hx14 hb15
      have A15 : Hid (At9 w15 gl l gc C gr R) := A14.out.below hb15
      have K15 : Hid (w15.cell? ⟨CB, 0, none⟩ = some (.int .i64 0) ∧ w15.cell? ⟨CB, 1, none⟩ = some (.int .i64 0) ∧ w15.cell? ⟨CB, 2, none⟩ = some (.string ⟨#[]⟩) ∧ CB < w15.heap.size) := later3 hb15 K14.out
      have S15 : Hid (StrsAt w15 (some ⟨g14, 0, none⟩) Ln) := S14h.out.below hb15
      clear hx14 hb15 A14 K14 S14h
      cases bs
      · have h3 : f = 3 := by
          have := HY.out
          rw [reck_sum (C := C) (R := R) HBS.out] at this
          injection this with _ e
          exact e.symm
        have h3' : (f == 3) = true := by simp [h3]
        go_wp2
        go_ret
        exact ⟨rfl, hx15⟩
      by_cases hqm : q = m
      · subst hqm
        have own0 : Hid ((w15.alloc (.cells #[] 30)).ownsRow w15.heap.size 30 3 (.slice (some ⟨w15.heap.size, 0, none⟩) 0 0) 0 []) := ⟨rfl, .inr ⟨w15.heap.size, 0, #[], rfl, Nat.le_refl _, by show (w15.heap.push _)[w15.heap.size]? = _; simp, Nat.le_refl _, by unfold maxLen; omega, rfl, rfl⟩⟩
        have hbo : Below w15.heap.size w15 (w15.alloc (.cells #[] 30)) := (Below.refl _ _).alloc (Nat.le_refl _) _
        go_wp2_with fail
        go_loopw [17, 18] (fun v ii wz => ∃ k : Nat, ii = .int .i64 k ∧ k ≤ q ∧ v ≠ .slice none 0 0 ∧ Hid (∃ R' : List CT, R'.length = k ∧ Fit R' ∧ R'.all okC = true ∧ (R.take k).all okC = true ∧ (∀ j (h1 : j < R'.length) (h2 : j < R.length) (h3 : j < C.length), C[j] ∈ Ln → R[j] = R'[j]) ∧ wz.ownsRow w15.heap.size 30 3 v R'.length (flat R')) ∧ Below w15.heap.size w15 wz) (fun _ ii _ => q - (intOf ii).toNat)
        case atStart => exact ⟨0, rfl, Nat.zero_le _, by simp, ⟨[], rfl, fun j hj => by simp at hj, rfl, rfl, fun j h1 => by simp at h1, own0.out⟩, hbo⟩
        case round =>
          obtain ⟨k, rfl, hk, hvn, hP, hbz⟩ := hrel
          clear own0 hbo
          obtain ⟨R', hR', hFR', hOK', hTK', hAG', ownR⟩ := hP.out
          have HRL : Hid (R'.length = k) := hR'
          have HFR : Hid (Fit R') := hFR'
          have HOK : Hid (R'.all okC = true) := hOK'
          have HTK0 : Hid ((R.take k).all okC = true) := hTK'
          have HAG0 : Hid (∀ j (h1 : j < R'.length) (h2 : j < R.length) (h3 : j < C.length), C[j] ∈ Ln → R[j] = R'[j]) := hAG'
          clear hP hFR' hOK' hTK' hAG'
          rw [hR'] at ownR
          obtain ⟨gv, kv, hv⟩ := form9 ownR hvn
          subst hv
          have OR : Hid (wr.ownsRow w15.heap.size 30 3 (.slice (some ⟨gv, 0, none⟩) k kv) k (flat R')) := ownR
          have hgvl := (OR.out.lt gv rfl)
          clear ownR hR'
          by_cases hlt : k < q
          · have hkR : k < R.length := by rw [HQ.out]; exact hlt
            have hkC : k < C.length := by rw [HM.out]; exact hlt
            obtain ⟨b1, o1, e1, hlt1, c0, c1, c2⟩ := (A15.out.2.2.below hbz) k hkR
            simp only [Option.some.injEq, Addr.mk.injEq, and_true] at e1
            obtain ⟨rfl, rfl⟩ := e1
            obtain ⟨b1, o1, e1, hlt2, d0⟩ := (A15.out.2.1.below hbz) k hkC
            simp only [Option.some.injEq, Addr.mk.injEq, and_true] at e1
            obtain ⟨rfl, rfl⟩ := e1
            simp only [Nat.zero_add] at c0 c1 c2 d0
            have hxf := FR.out k hkR
            obtain ⟨bo, hbo⟩ : ∃ b, okC R[k] = b := ⟨_, rfl⟩
            have HBAD : Hid (bo = false → R.all okC ≠ true) := by
              have : bo = false → R.all okC ≠ true := fun e h => by
                have := List.all_eq_true.1 h _ (List.getElem_mem hkR)
                rw [hbo, e] at this
                cases this
              exact this
            have HTK : Hid (bo = true → (R.take (k + 1)).all okC = true) := by
              have : bo = true → (R.take (k + 1)).all okC = true := fun e => by
                rw [List.take_succ_eq_append_getElem hkR, List.all_append, HTK0.out, Bool.true_and, List.all_cons, List.all_nil, Bool.and_true, hbo, e]
              exact this
            have HAG : Hid (∀ y : CT, (C[k] ∈ Ln → R[k] = y) → ∀ j (h1 : j < (R' ++ [y]).length) (h2 : j < R.length) (h3 : j < C.length), C[j] ∈ Ln → R[j] = (R' ++ [y])[j]) := by
              have : ∀ y : CT, (C[k] ∈ Ln → R[k] = y) → ∀ j (h1 : j < (R' ++ [y]).length) (h2 : j < R.length) (h3 : j < C.length), C[j] ∈ Ln → R[j] = (R' ++ [y])[j] := fun y hy j h1 h2 h3 hm => by
                by_cases hj : j < R'.length
                · rw [List.getElem_append_left hj]; exact HAG0.out j hj h2 h3 hm
                · have e : j = k := by
                    rw [List.length_append, List.length_cons, List.length_nil, HRL.out] at h1
                    rw [HRL.out] at hj
                    omega
                  subst e
                  rw [List.getElem_append_right (by omega)]
                  simp only [HRL.out, Nat.sub_self, List.getElem_cons_zero]
                  exact hy hm
              exact this
            have HBO : Hid (okC R[k] = bo) := hbo
            clear hbo HTK0 HAG0
            generalize R[k] = x at c0 c1 c2 hxf HBO HAG
            generalize C[k] = s at d0 HAG
            obtain ⟨xa, xb, xc⟩ := x
            dsimp only at c0 c1 c2 hxf
            have hi0 : (0 : Int) ≤ (k : Int) := by omega
            have hi1 : (k : Int) < (q : Int) := by omega
            have hgne : wr.heap.size ≠ gc := by omega
            go_wp2_with fail
            refine (ok_specb xa xb xc bo HBO.out _ hxf).mono ?_
            rintro e w20 ⟨rfl, hb20⟩
            obtain ⟨⟨p0, p1, p2, p3⟩, f0, f1, f2⟩ := box3F hb20
            have hdA : Below wr.heap.size wr w20 := chain ((Below.refl wr.heap.size wr).alloc (Nat.le_refl _) _) hb20
            have hb20' : Below w15.heap.size w15 w20 := chain hbz hdA
            have d20 : w20.cell? ⟨gc, k, none⟩ = some (.string s) := by rw [hdA.cell (p := ⟨gc, k, none⟩) hlt2]; exact d0
            have O20 : Hid (w20.ownsRow w15.heap.size 30 3 (.slice (some ⟨gv, 0, none⟩) k kv) k (flat R')) := own_below OR.out hdA
            have hx20 := chain hx15 hb20'
            have hszw := hbz.size
            obtain ⟨XB, hXB⟩ : ∃ B, wr.heap.size = B := ⟨_, rfl⟩
            have hgo : gv ≠ XB := by omega
            rw [hXB] at p0 p1 p2 p3 f0 f1 f2 hgne
            have hwX : w15.heap.size ≤ XB := by omega
            have HXB : Hid (wr.heap.size = XB) := hXB
            clear hb20 hdA c0 c1 c2 d0 OR hbz hXB hlt1 hlt2
            cases bo
            · have hBad := HBAD.out rfl
              have h3 : f = 3 := by
                have := HY.out
                rw [reck_bad (C := C) (R := R) (l := l) hBad] at this
                injection this with _ e
                exact e.symm
              have h3' : (f == 3) = true := by simp [h3]
              go_wp2
              go_ret
              exact ⟨rfl, hx20⟩
            try rw [HXB.out]
            obtain ⟨bh, hbh⟩ : ∃ b : Bool, (b = true ↔ s ∈ Ln) := by
              by_cases h : s ∈ Ln
              · exact ⟨true, by simp [h]⟩
              · exact ⟨false, by simp [h]⟩
            have HBH : Hid (bh = true ↔ s ∈ Ln) := hbh
            clear hbh
            go_wp2_with fail
            refine (has_laws 0 _ _ Ln HNn.out s _ (S15.out.below hb20') hNM bh HBH.out).mono ?_
            rintro e w21 ⟨rfl, hw21⟩
            obtain rfl : w20 = w21 := hw21.symm
            cases bh
            · go_wp2_with fail
              refine (pick_laws9 a len cap hlen k (by omega) w20 (HC.out.below hx20)).mono ?_
              rintro e w22 ⟨r, rfl, hr9, hw22⟩
              obtain rfl : w20 = w22 := hw22.symm
              go_wp2_with fail
              refine (number_laws (r : Int) _).mono ?_
              rintro e w23 ⟨rfl, hb23⟩
              have hb23' : Below w15.heap.size w15 w23 := chain hb20' hb23
              have q0 := (hb23.cell (p := ⟨XB, 0, none⟩) p3).trans p0
              have q1 := (hb23.cell (p := ⟨XB, 1, none⟩) p3).trans p1
              have q2 := (hb23.cell (p := ⟨XB, 2, none⟩) p3).trans p2
              have e0 := (hb23.frozen (p := ⟨XB, 0, none⟩) p3).trans f0
              have e1 := (hb23.frozen (p := ⟨XB, 1, none⟩) p3).trans f1
              have e2 := (hb23.frozen (p := ⟨XB, 2, none⟩) p3).trans f2
              have O23 : Hid ((((w23.setCell ⟨XB, 0, none⟩ (.int .i64 1)).setCell ⟨XB, 1, none⟩ (.int .i64 (r : Int))).setCell ⟨XB, 2, none⟩ (.string ⟨#[]⟩)).ownsRow w15.heap.size 30 3 (.slice (some ⟨gv, 0, none⟩) k kv) k (flat R')) := own_far9 (own_far9 (own_far9 (own_below O20.out hb23) _ _ _ hgo) _ _ _ hgo) _ _ _ hgo
              have hb24 : Below w15.heap.size w15 (((w23.setCell ⟨XB, 0, none⟩ (.int .i64 1)).setCell ⟨XB, 1, none⟩ (.int .i64 (r : Int))).setCell ⟨XB, 2, none⟩ (.string ⟨#[]⟩)) := ((hb23'.setCell hwX _).setCell hwX _).setCell hwX _
              have hnn9 : numB (r : Int) = true := by unfold numB; simp; omega
              have hns9 : ¬ s ∈ Ln := fun h => by have := HBH.out.2 h; cases this
              clear p0 p1 p2 f0 f1 f2 O20 hb20' hb23 hb23'
              go_wp2_with (at_builtin; refine wpList_append_own _ rfl _ _ 26 rfl w15.heap.size 30 iC (.agg #[.int .i64 0, .int .i64 0, .string ⟨#[]⟩]) 3 32 Tryz.underlying26 hiC hz0 hz1 hz2 rfl (by decide) _ _ _ rfl (O23.out.alloc _) ⟨w23.heap.size, 0, none⟩ 1 1 [.int .i64 1, .int .i64 (r : Int), .string ⟨#[]⟩] rfl rfl (cells3x _ _ _ _ _ _ _ _) (by intro u hu; simp at hu; rcases hu with rfl | rfl | rfl <;> rfl) (by unfold maxLen; omega) (by omega) (by have := hb24.size; simp at this ⊢; omega) ?_)
              intro v' w30 own30 hgrow hnn
              have hb30 : Below w15.heap.size w15 w30 := (hb24.alloc hb24.size _).grown hgrow (by have := hb24.size; simp at this ⊢; omega) (fun kk hkk => (O23.out.lt kk hkk).1)
              have hv30 : v' ≠ .slice none 0 0 := by first | exact hnn | exact fun e => hvn (hnn.1 e).1
              have fin : Hid (∃ R' : List CT, R'.length = k + 1 ∧ Fit R' ∧ R'.all okC = true ∧ (R.take (k + 1)).all okC = true ∧ (∀ j (h1 : j < R'.length) (h2 : j < R.length) (h3 : j < C.length), C[j] ∈ Ln → R[j] = R'[j]) ∧ w30.ownsRow w15.heap.size 30 3 v' R'.length (flat R')) := by
                refine ⟨R' ++ [((1 : Int), (r : Int), (⟨#[]⟩ : ByteArray))], by rw [← HRL.out]; simp, HFR.out.append (by show (0 : Nat) ≤ maxLen; unfold maxLen; omega), by rw [List.all_append, HOK.out]; simp [one_ok hnn9], HTK.out (by first | rfl | trivial), HAG.out _ (fun h => absurd h hns9), ?_⟩
                rw [flat_append, List.length_append, HRL.out]
                exact own30
              clear own30 hgrow hnn
              go_wp2
              go_roundw
              case rel => exact ⟨k + 1, by go_num, by omega, hv30, fin.out, hb30⟩
              case measure => simp [intOf]; omega
            · have hs9 : s ∈ Ln := HBH.out.1 rfl
              go_wp2_with (at_builtin; refine wpList_append_own _ rfl _ _ 26 rfl w15.heap.size 30 iC (.agg #[.int .i64 0, .int .i64 0, .string ⟨#[]⟩]) 3 32 Tryz.underlying26 hiC hz0 hz1 hz2 rfl (by decide) _ _ _ rfl (O20.out.alloc _) ⟨w20.heap.size, 0, none⟩ 1 1 [.int .i64 xa, .int .i64 xb, .string xc] rfl rfl (cells3n _ _ _ _ _) (by intro u hu; simp at hu; rcases hu with rfl | rfl | rfl <;> rfl) (by unfold maxLen; omega) (by omega) (by have := hb20'.size; simp at this ⊢; omega) ?_)
              intro v' w30 own30 hgrow hnn
              have hb30 : Below w15.heap.size w15 w30 := (hb20'.alloc hb20'.size _).grown hgrow (by have := hb20'.size; simp at this ⊢; omega) (fun kk hkk => (O20.out.lt kk hkk).1)
              have hv30 : v' ≠ .slice none 0 0 := by first | exact hnn | exact fun e => hvn (hnn.1 e).1
              have fin : Hid (∃ R' : List CT, R'.length = k + 1 ∧ Fit R' ∧ R'.all okC = true ∧ (R.take (k + 1)).all okC = true ∧ (∀ j (h1 : j < R'.length) (h2 : j < R.length) (h3 : j < C.length), C[j] ∈ Ln → R[j] = R'[j]) ∧ w30.ownsRow w15.heap.size 30 3 v' R'.length (flat R')) := by
                refine ⟨R' ++ [(xa, xb, xc)], by rw [← HRL.out]; simp, HFR.out.append hxf, by rw [List.all_append, HOK.out]; simp [HBO.out], HTK.out (by first | rfl | trivial), HAG.out _ (fun _ => rfl), ?_⟩
                rw [flat_append, List.length_append, HRL.out]
                exact own30
              clear own30 hgrow hnn
              go_wp2
              go_roundw
              case rel => exact ⟨k + 1, by go_num, by omega, hv30, fin.out, hb30⟩
              case measure => simp [intOf]; omega
          · have hkq : k = q := by omega
            subst hkq
            have hi1 : ¬ (k : Int) < (k : Int) := by omega
            have HAR : Hid (R.all okC = true) := by
              have : R.all okC = true := by
                have := HTK0.out
                rwa [List.take_of_length_le (by rw [HQ.out]; exact Nat.le_refl _)] at this
              exact this
            obtain ⟨w25, hw25⟩ : ∃ x, x = wr := ⟨_, rfl⟩
            subst hw25
            have A25 : Hid (At9 w25 gl l gc C gr R) := A15.out.below hbz
            have S25 : Hid (StrsAt w25 (some ⟨g14, 0, none⟩) Ln) := S15.out.below hbz
            have K25 : Hid (w25.cell? ⟨CB, 0, none⟩ = some (.int .i64 0) ∧ w25.cell? ⟨CB, 1, none⟩ = some (.int .i64 0) ∧ w25.cell? ⟨CB, 2, none⟩ = some (.string ⟨#[]⟩) ∧ CB < w25.heap.size) := later3 hbz K15.out
            have hx25 := chain hx15 hbz
            have RR25 : Hid (RowAt w25 (some ⟨gv, 0, none⟩) R') := own_row (cap := kv) (base := w15.heap.size) (e := 30) (by rw [HRL.out]; exact OR.out)
            have HY2 : Hid (reckR C R' l = ((0, 0, ⟨#[]⟩), f)) := by
              have : reckR C R' l = ((0, 0, ⟨#[]⟩), f) := by
                rw [← HY.out]
                refine (reck_same (by rw [HQ.out, HM.out]) (by rw [HRL.out, HM.out]) HAR.out HOK.out ?_).symm
                intro j h0 h1 h2 hm
                exact HAG0.out j h2 h1 h0 (by rw [← HLn.out]; exact hm)
              exact this
            clear OR hbz HTK0 HAG0 hgvl
            go_wp2_with fail
            go_loopw [20] (fun ii wz => ∃ j : Nat, ii = .int .i64 j ∧ j ≤ 0 ∧ Hid (∀ s ∈ Ln.take j, s ∈ C) ∧ wz = w25) (fun ii _ => 0 - (intOf ii).toNat)
            case atStart => exact ⟨0, rfl, Nat.zero_le _, by simp [Hid], rfl⟩
            case round =>
              obtain ⟨j, rfl, hj, hAll, hwr⟩ := hrel
              obtain rfl : w25 = wr := hwr.symm
              by_cases hjl : j < 0
              · have hjL : j < Ln.length := by rw [HNn.out]; exact hjl
                obtain ⟨b1, o1, e1, hlt2, d0⟩ := S25.out j hjL
                simp only [Option.some.injEq, Addr.mk.injEq, and_true] at e1
                obtain ⟨rfl, rfl⟩ := e1
                simp only [Nat.zero_add] at d0
                have HSn : Hid (Ln[j] ∈ C → ∀ s ∈ Ln.take (j + 1), s ∈ C) := by
                  have : Ln[j] ∈ C → ∀ s ∈ Ln.take (j + 1), s ∈ C := fun h s hs => by
                    rw [List.take_succ_eq_append_getElem hjL] at hs
                    rcases List.mem_append.1 hs with hs | hs
                    · exact hAll.out s hs
                    · simp only [List.mem_singleton] at hs; subst hs; exact h
                  exact this
                have HSm : Hid (Ln[j] ∈ namesR l) := by
                  have : Ln[j] ∈ namesR l := by rw [HLn.out]; exact List.getElem_mem hjL
                  exact this
                generalize Ln[j] = s at d0 HSn HSm
                have hj0 : (0 : Int) ≤ (j : Int) := by omega
                have hj1 : (j : Int) < ((0 : Int)) := by omega
                obtain ⟨bh, hbh⟩ : ∃ b : Bool, (b = true ↔ s ∈ C) := by
                  by_cases h : s ∈ C
                  · exact ⟨true, by simp [h]⟩
                  · exact ⟨false, by simp [h]⟩
                have HBH : Hid (bh = true ↔ s ∈ C) := hbh
                clear hbh hAll
                go_wp2_with fail
                refine (has_laws k _ _ C HM.out s _ A25.out.2.1 hqM bh HBH.out).mono ?_
                rintro e w26 ⟨rfl, hw26⟩
                obtain rfl : w25 = w26 := hw26.symm
                cases bh
                · have hno := has_not (C := C) HSm.out (fun h => by have := HBH.out.2 h; cases this)
                  have h3 : f = 3 := by
                    have := HY.out
                    rw [reck_name (C := C) (R := R) (l := l) hno] at this
                    injection this with _ e
                    exact e.symm
                  have h3' : (f == 3) = true := by simp [h3]
                  go_wp2
                  go_ret
                  exact ⟨rfl, hx25⟩
                · have HS2 : Hid (∀ s ∈ Ln.take (j + 1), s ∈ C) := HSn.out (HBH.out.1 rfl)
                  go_wp2
                  go_roundw
                  case rel => exact ⟨j + 1, by go_num, by omega, HS2, trivial⟩
                  case measure => simp [intOf]; omega
              · have hjn : j = 0 := by omega
                subst hjn
                have HHAS : Hid (hasC C l = true) := by
                  have : hasC C l = true := has_of (fun s hs => by
                    rw [HLn.out] at hs
                    refine hAll.out s ?_
                    rw [List.take_of_length_le (by rw [HNn.out]; exact Nat.le_refl _)]
                    exact hs) HBS.out
                  exact this
                have hj1 : ¬ ((0 : Int) < ((0 : Int))) := by omega
                obtain ⟨bm, hbm⟩ : ∃ b, mayR l = b := ⟨_, rfl⟩
                have HBM : Hid (mayR l = bm) := hbm
                clear hbm hAll
                go_wp2_with fail
                refine (reckon_impl _ _ l n HN.out _ _ C k HM.out _ _ R' k HRL.out _ A25.out.1 FD.out FI.out hnM A25.out.2.1 hqM RR25.out HFR.out hqM (HP.out.below hx25) (HE.out.below hx25) _ HY2.out).mono ?_
                rintro e w27 ⟨rfl, hb27⟩
                obtain ⟨k0, k1, k2, k3⟩ := later3 hb27 K25.out
                have hx27 := chain hx25 hb27
                have I27 : Hid (ItmAt w27 (some ⟨gl, 0, none⟩) l) := A25.out.1.below hb27
                have hes := eql_same 0 0 ⟨#[]⟩
                have hfe : (f == f) = true := by simp
                clear hb27 hx25 A25 S25 K25 RR25
                go_wp2_with fail
                have hbB : Below w27.heap.size w27 (w27.alloc (.cells #[.int .i64 0, .int .i64 0, .string ⟨#[]⟩] 30)) := (Below.refl _ _).alloc (Nat.le_refl _) _
                refine (may_specb _ _ l n HN.out _ (I27.out.below hbB) FI.out hnM bm HBM.out).mono ?_
                rintro e w28 ⟨rfl, hb28⟩
                have hx28 := chain (chain hx27 hbB) hb28
                cases bm
                · have hfz : f = 0 := by
                    have := reck_safe HBM.out HHAS.out (by rw [HQ.out, HM.out]) HAR.out
                    rw [HY.out] at this
                    exact this
                  have hfz' : (f == 0) = true := by simp [hfz]
                  go_wp2
                  go_ret
                  exact ⟨rfl, hx28⟩
                · go_wp2
                  go_ret
                  exact ⟨rfl, hx28⟩
      · have hqn : ((q : Int) != (m : Int)) = true := by simp; omega
        have h3 : f = 3 := by
          have := HY.out
          rw [reck_len (C := C) (R := R) (l := l) (by rw [HQ.out, HM.out]; exact hqm)] at this
          injection this with _ e
          exact e.symm
        have h3' : (f == 3) = true := by simp [h3]
        go_wp2
        go_ret
        exact ⟨rfl, hx15⟩
    · have hN0' : ((N : Int) == 0) = false := by simp; omega
      have HBS : Hid (sumB l = true) := by
        have : sumB l = true := names_sum (by rw [HLn.out]; intro e; rw [e] at HNn; exact hN0 HNn.out.symm)
        exact this
      by_cases hqm : q = m
      · subst hqm
        have own0 : Hid ((w14.alloc (.cells #[] 30)).ownsRow w14.heap.size 30 3 (.slice (some ⟨w14.heap.size, 0, none⟩) 0 0) 0 []) := ⟨rfl, .inr ⟨w14.heap.size, 0, #[], rfl, Nat.le_refl _, by show (w14.heap.push _)[w14.heap.size]? = _; simp, Nat.le_refl _, by unfold maxLen; omega, rfl, rfl⟩⟩
        have hbo : Below w14.heap.size w14 (w14.alloc (.cells #[] 30)) := (Below.refl _ _).alloc (Nat.le_refl _) _
        go_wp2_with fail
        go_loopw [17, 18] (fun v ii wz => ∃ k : Nat, ii = .int .i64 k ∧ k ≤ q ∧ v ≠ .slice none 0 0 ∧ Hid (∃ R' : List CT, R'.length = k ∧ Fit R' ∧ R'.all okC = true ∧ (R.take k).all okC = true ∧ (∀ j (h1 : j < R'.length) (h2 : j < R.length) (h3 : j < C.length), C[j] ∈ Ln → R[j] = R'[j]) ∧ wz.ownsRow w14.heap.size 30 3 v R'.length (flat R')) ∧ Below w14.heap.size w14 wz) (fun _ ii _ => q - (intOf ii).toNat)
        case atStart => exact ⟨0, rfl, Nat.zero_le _, by simp, ⟨[], rfl, fun j hj => by simp at hj, rfl, rfl, fun j h1 => by simp at h1, own0.out⟩, hbo⟩
        case round =>
          obtain ⟨k, rfl, hk, hvn, hP, hbz⟩ := hrel
          clear own0 hbo
          obtain ⟨R', hR', hFR', hOK', hTK', hAG', ownR⟩ := hP.out
          have HRL : Hid (R'.length = k) := hR'
          have HFR : Hid (Fit R') := hFR'
          have HOK : Hid (R'.all okC = true) := hOK'
          have HTK0 : Hid ((R.take k).all okC = true) := hTK'
          have HAG0 : Hid (∀ j (h1 : j < R'.length) (h2 : j < R.length) (h3 : j < C.length), C[j] ∈ Ln → R[j] = R'[j]) := hAG'
          clear hP hFR' hOK' hTK' hAG'
          rw [hR'] at ownR
          obtain ⟨gv, kv, hv⟩ := form9 ownR hvn
          subst hv
          have OR : Hid (wr.ownsRow w14.heap.size 30 3 (.slice (some ⟨gv, 0, none⟩) k kv) k (flat R')) := ownR
          have hgvl := (OR.out.lt gv rfl)
          clear ownR hR'
          by_cases hlt : k < q
          · have hkR : k < R.length := by rw [HQ.out]; exact hlt
            have hkC : k < C.length := by rw [HM.out]; exact hlt
            obtain ⟨b1, o1, e1, hlt1, c0, c1, c2⟩ := (A14.out.2.2.below hbz) k hkR
            simp only [Option.some.injEq, Addr.mk.injEq, and_true] at e1
            obtain ⟨rfl, rfl⟩ := e1
            obtain ⟨b1, o1, e1, hlt2, d0⟩ := (A14.out.2.1.below hbz) k hkC
            simp only [Option.some.injEq, Addr.mk.injEq, and_true] at e1
            obtain ⟨rfl, rfl⟩ := e1
            simp only [Nat.zero_add] at c0 c1 c2 d0
            have hxf := FR.out k hkR
            obtain ⟨bo, hbo⟩ : ∃ b, okC R[k] = b := ⟨_, rfl⟩
            have HBAD : Hid (bo = false → R.all okC ≠ true) := by
              have : bo = false → R.all okC ≠ true := fun e h => by
                have := List.all_eq_true.1 h _ (List.getElem_mem hkR)
                rw [hbo, e] at this
                cases this
              exact this
            have HTK : Hid (bo = true → (R.take (k + 1)).all okC = true) := by
              have : bo = true → (R.take (k + 1)).all okC = true := fun e => by
                rw [List.take_succ_eq_append_getElem hkR, List.all_append, HTK0.out, Bool.true_and, List.all_cons, List.all_nil, Bool.and_true, hbo, e]
              exact this
            have HAG : Hid (∀ y : CT, (C[k] ∈ Ln → R[k] = y) → ∀ j (h1 : j < (R' ++ [y]).length) (h2 : j < R.length) (h3 : j < C.length), C[j] ∈ Ln → R[j] = (R' ++ [y])[j]) := by
              have : ∀ y : CT, (C[k] ∈ Ln → R[k] = y) → ∀ j (h1 : j < (R' ++ [y]).length) (h2 : j < R.length) (h3 : j < C.length), C[j] ∈ Ln → R[j] = (R' ++ [y])[j] := fun y hy j h1 h2 h3 hm => by
                by_cases hj : j < R'.length
                · rw [List.getElem_append_left hj]; exact HAG0.out j hj h2 h3 hm
                · have e : j = k := by
                    rw [List.length_append, List.length_cons, List.length_nil, HRL.out] at h1
                    rw [HRL.out] at hj
                    omega
                  subst e
                  rw [List.getElem_append_right (by omega)]
                  simp only [HRL.out, Nat.sub_self, List.getElem_cons_zero]
                  exact hy hm
              exact this
            have HBO : Hid (okC R[k] = bo) := hbo
            clear hbo HTK0 HAG0
            generalize R[k] = x at c0 c1 c2 hxf HBO HAG
            generalize C[k] = s at d0 HAG
            obtain ⟨xa, xb, xc⟩ := x
            dsimp only at c0 c1 c2 hxf
            have hi0 : (0 : Int) ≤ (k : Int) := by omega
            have hi1 : (k : Int) < (q : Int) := by omega
            have hgne : wr.heap.size ≠ gc := by omega
            go_wp2_with fail
            refine (ok_specb xa xb xc bo HBO.out _ hxf).mono ?_
            rintro e w20 ⟨rfl, hb20⟩
            obtain ⟨⟨p0, p1, p2, p3⟩, f0, f1, f2⟩ := box3F hb20
            have hdA : Below wr.heap.size wr w20 := chain ((Below.refl wr.heap.size wr).alloc (Nat.le_refl _) _) hb20
            have hb20' : Below w14.heap.size w14 w20 := chain hbz hdA
            have d20 : w20.cell? ⟨gc, k, none⟩ = some (.string s) := by rw [hdA.cell (p := ⟨gc, k, none⟩) hlt2]; exact d0
            have O20 : Hid (w20.ownsRow w14.heap.size 30 3 (.slice (some ⟨gv, 0, none⟩) k kv) k (flat R')) := own_below OR.out hdA
            have hx20 := chain hx14 hb20'
            have hszw := hbz.size
            obtain ⟨XB, hXB⟩ : ∃ B, wr.heap.size = B := ⟨_, rfl⟩
            have hgo : gv ≠ XB := by omega
            rw [hXB] at p0 p1 p2 p3 f0 f1 f2 hgne
            have hwX : w14.heap.size ≤ XB := by omega
            have HXB : Hid (wr.heap.size = XB) := hXB
            clear hb20 hdA c0 c1 c2 d0 OR hbz hXB hlt1 hlt2
            cases bo
            · have hBad := HBAD.out rfl
              have h3 : f = 3 := by
                have := HY.out
                rw [reck_bad (C := C) (R := R) (l := l) hBad] at this
                injection this with _ e
                exact e.symm
              have h3' : (f == 3) = true := by simp [h3]
              go_wp2
              go_ret
              exact ⟨rfl, hx20⟩
            try rw [HXB.out]
            obtain ⟨bh, hbh⟩ : ∃ b : Bool, (b = true ↔ s ∈ Ln) := by
              by_cases h : s ∈ Ln
              · exact ⟨true, by simp [h]⟩
              · exact ⟨false, by simp [h]⟩
            have HBH : Hid (bh = true ↔ s ∈ Ln) := hbh
            clear hbh
            go_wp2_with fail
            refine (has_laws N _ _ Ln HNn.out s _ (S14h.out.below hb20') hNM bh HBH.out).mono ?_
            rintro e w21 ⟨rfl, hw21⟩
            obtain rfl : w20 = w21 := hw21.symm
            cases bh
            · go_wp2_with fail
              refine (pick_laws9 a len cap hlen k (by omega) w20 (HC.out.below hx20)).mono ?_
              rintro e w22 ⟨r, rfl, hr9, hw22⟩
              obtain rfl : w20 = w22 := hw22.symm
              go_wp2_with fail
              refine (number_laws (r : Int) _).mono ?_
              rintro e w23 ⟨rfl, hb23⟩
              have hb23' : Below w14.heap.size w14 w23 := chain hb20' hb23
              have q0 := (hb23.cell (p := ⟨XB, 0, none⟩) p3).trans p0
              have q1 := (hb23.cell (p := ⟨XB, 1, none⟩) p3).trans p1
              have q2 := (hb23.cell (p := ⟨XB, 2, none⟩) p3).trans p2
              have e0 := (hb23.frozen (p := ⟨XB, 0, none⟩) p3).trans f0
              have e1 := (hb23.frozen (p := ⟨XB, 1, none⟩) p3).trans f1
              have e2 := (hb23.frozen (p := ⟨XB, 2, none⟩) p3).trans f2
              have O23 : Hid ((((w23.setCell ⟨XB, 0, none⟩ (.int .i64 1)).setCell ⟨XB, 1, none⟩ (.int .i64 (r : Int))).setCell ⟨XB, 2, none⟩ (.string ⟨#[]⟩)).ownsRow w14.heap.size 30 3 (.slice (some ⟨gv, 0, none⟩) k kv) k (flat R')) := own_far9 (own_far9 (own_far9 (own_below O20.out hb23) _ _ _ hgo) _ _ _ hgo) _ _ _ hgo
              have hb24 : Below w14.heap.size w14 (((w23.setCell ⟨XB, 0, none⟩ (.int .i64 1)).setCell ⟨XB, 1, none⟩ (.int .i64 (r : Int))).setCell ⟨XB, 2, none⟩ (.string ⟨#[]⟩)) := ((hb23'.setCell hwX _).setCell hwX _).setCell hwX _
              have hnn9 : numB (r : Int) = true := by unfold numB; simp; omega
              have hns9 : ¬ s ∈ Ln := fun h => by have := HBH.out.2 h; cases this
              clear p0 p1 p2 f0 f1 f2 O20 hb20' hb23 hb23'
              go_wp2_with (at_builtin; refine wpList_append_own _ rfl _ _ 26 rfl w14.heap.size 30 iC (.agg #[.int .i64 0, .int .i64 0, .string ⟨#[]⟩]) 3 32 Tryz.underlying26 hiC hz0 hz1 hz2 rfl (by decide) _ _ _ rfl (O23.out.alloc _) ⟨w23.heap.size, 0, none⟩ 1 1 [.int .i64 1, .int .i64 (r : Int), .string ⟨#[]⟩] rfl rfl (cells3x _ _ _ _ _ _ _ _) (by intro u hu; simp at hu; rcases hu with rfl | rfl | rfl <;> rfl) (by unfold maxLen; omega) (by omega) (by have := hb24.size; simp at this ⊢; omega) ?_)
              intro v' w30 own30 hgrow hnn
              have hb30 : Below w14.heap.size w14 w30 := (hb24.alloc hb24.size _).grown hgrow (by have := hb24.size; simp at this ⊢; omega) (fun kk hkk => (O23.out.lt kk hkk).1)
              have hv30 : v' ≠ .slice none 0 0 := by first | exact hnn | exact fun e => hvn (hnn.1 e).1
              have fin : Hid (∃ R' : List CT, R'.length = k + 1 ∧ Fit R' ∧ R'.all okC = true ∧ (R.take (k + 1)).all okC = true ∧ (∀ j (h1 : j < R'.length) (h2 : j < R.length) (h3 : j < C.length), C[j] ∈ Ln → R[j] = R'[j]) ∧ w30.ownsRow w14.heap.size 30 3 v' R'.length (flat R')) := by
                refine ⟨R' ++ [((1 : Int), (r : Int), (⟨#[]⟩ : ByteArray))], by rw [← HRL.out]; simp, HFR.out.append (by show (0 : Nat) ≤ maxLen; unfold maxLen; omega), by rw [List.all_append, HOK.out]; simp [one_ok hnn9], HTK.out (by first | rfl | trivial), HAG.out _ (fun h => absurd h hns9), ?_⟩
                rw [flat_append, List.length_append, HRL.out]
                exact own30
              clear own30 hgrow hnn
              go_wp2
              go_roundw
              case rel => exact ⟨k + 1, by go_num, by omega, hv30, fin.out, hb30⟩
              case measure => simp [intOf]; omega
            · have hs9 : s ∈ Ln := HBH.out.1 rfl
              go_wp2_with (at_builtin; refine wpList_append_own _ rfl _ _ 26 rfl w14.heap.size 30 iC (.agg #[.int .i64 0, .int .i64 0, .string ⟨#[]⟩]) 3 32 Tryz.underlying26 hiC hz0 hz1 hz2 rfl (by decide) _ _ _ rfl (O20.out.alloc _) ⟨w20.heap.size, 0, none⟩ 1 1 [.int .i64 xa, .int .i64 xb, .string xc] rfl rfl (cells3n _ _ _ _ _) (by intro u hu; simp at hu; rcases hu with rfl | rfl | rfl <;> rfl) (by unfold maxLen; omega) (by omega) (by have := hb20'.size; simp at this ⊢; omega) ?_)
              intro v' w30 own30 hgrow hnn
              have hb30 : Below w14.heap.size w14 w30 := (hb20'.alloc hb20'.size _).grown hgrow (by have := hb20'.size; simp at this ⊢; omega) (fun kk hkk => (O20.out.lt kk hkk).1)
              have hv30 : v' ≠ .slice none 0 0 := by first | exact hnn | exact fun e => hvn (hnn.1 e).1
              have fin : Hid (∃ R' : List CT, R'.length = k + 1 ∧ Fit R' ∧ R'.all okC = true ∧ (R.take (k + 1)).all okC = true ∧ (∀ j (h1 : j < R'.length) (h2 : j < R.length) (h3 : j < C.length), C[j] ∈ Ln → R[j] = R'[j]) ∧ w30.ownsRow w14.heap.size 30 3 v' R'.length (flat R')) := by
                refine ⟨R' ++ [(xa, xb, xc)], by rw [← HRL.out]; simp, HFR.out.append hxf, by rw [List.all_append, HOK.out]; simp [HBO.out], HTK.out (by first | rfl | trivial), HAG.out _ (fun _ => rfl), ?_⟩
                rw [flat_append, List.length_append, HRL.out]
                exact own30
              clear own30 hgrow hnn
              go_wp2
              go_roundw
              case rel => exact ⟨k + 1, by go_num, by omega, hv30, fin.out, hb30⟩
              case measure => simp [intOf]; omega
          · have hkq : k = q := by omega
            subst hkq
            have hi1 : ¬ (k : Int) < (k : Int) := by omega
            have HAR : Hid (R.all okC = true) := by
              have : R.all okC = true := by
                have := HTK0.out
                rwa [List.take_of_length_le (by rw [HQ.out]; exact Nat.le_refl _)] at this
              exact this
            obtain ⟨w25, hw25⟩ : ∃ x, x = wr := ⟨_, rfl⟩
            subst hw25
            have A25 : Hid (At9 w25 gl l gc C gr R) := A14.out.below hbz
            have S25 : Hid (StrsAt w25 (some ⟨g14, 0, none⟩) Ln) := S14h.out.below hbz
            have K25 : Hid (w25.cell? ⟨CB, 0, none⟩ = some (.int .i64 0) ∧ w25.cell? ⟨CB, 1, none⟩ = some (.int .i64 0) ∧ w25.cell? ⟨CB, 2, none⟩ = some (.string ⟨#[]⟩) ∧ CB < w25.heap.size) := later3 hbz K14.out
            have hx25 := chain hx14 hbz
            have RR25 : Hid (RowAt w25 (some ⟨gv, 0, none⟩) R') := own_row (cap := kv) (base := w14.heap.size) (e := 30) (by rw [HRL.out]; exact OR.out)
            have HY2 : Hid (reckR C R' l = ((0, 0, ⟨#[]⟩), f)) := by
              have : reckR C R' l = ((0, 0, ⟨#[]⟩), f) := by
                rw [← HY.out]
                refine (reck_same (by rw [HQ.out, HM.out]) (by rw [HRL.out, HM.out]) HAR.out HOK.out ?_).symm
                intro j h0 h1 h2 hm
                exact HAG0.out j h2 h1 h0 (by rw [← HLn.out]; exact hm)
              exact this
            clear OR hbz HTK0 HAG0 hgvl
            go_wp2_with fail
            go_loopw [20] (fun ii wz => ∃ j : Nat, ii = .int .i64 j ∧ j ≤ N ∧ Hid (∀ s ∈ Ln.take j, s ∈ C) ∧ wz = w25) (fun ii _ => N - (intOf ii).toNat)
            case atStart => exact ⟨0, rfl, Nat.zero_le _, by simp [Hid], rfl⟩
            case round =>
              obtain ⟨j, rfl, hj, hAll, hwr⟩ := hrel
              obtain rfl : w25 = wr := hwr.symm
              by_cases hjl : j < N
              · have hjL : j < Ln.length := by rw [HNn.out]; exact hjl
                obtain ⟨b1, o1, e1, hlt2, d0⟩ := S25.out j hjL
                simp only [Option.some.injEq, Addr.mk.injEq, and_true] at e1
                obtain ⟨rfl, rfl⟩ := e1
                simp only [Nat.zero_add] at d0
                have HSn : Hid (Ln[j] ∈ C → ∀ s ∈ Ln.take (j + 1), s ∈ C) := by
                  have : Ln[j] ∈ C → ∀ s ∈ Ln.take (j + 1), s ∈ C := fun h s hs => by
                    rw [List.take_succ_eq_append_getElem hjL] at hs
                    rcases List.mem_append.1 hs with hs | hs
                    · exact hAll.out s hs
                    · simp only [List.mem_singleton] at hs; subst hs; exact h
                  exact this
                have HSm : Hid (Ln[j] ∈ namesR l) := by
                  have : Ln[j] ∈ namesR l := by rw [HLn.out]; exact List.getElem_mem hjL
                  exact this
                generalize Ln[j] = s at d0 HSn HSm
                have hj0 : (0 : Int) ≤ (j : Int) := by omega
                have hj1 : (j : Int) < ((N : Int)) := by omega
                obtain ⟨bh, hbh⟩ : ∃ b : Bool, (b = true ↔ s ∈ C) := by
                  by_cases h : s ∈ C
                  · exact ⟨true, by simp [h]⟩
                  · exact ⟨false, by simp [h]⟩
                have HBH : Hid (bh = true ↔ s ∈ C) := hbh
                clear hbh hAll
                go_wp2_with fail
                refine (has_laws k _ _ C HM.out s _ A25.out.2.1 hqM bh HBH.out).mono ?_
                rintro e w26 ⟨rfl, hw26⟩
                obtain rfl : w25 = w26 := hw26.symm
                cases bh
                · have hno := has_not (C := C) HSm.out (fun h => by have := HBH.out.2 h; cases this)
                  have h3 : f = 3 := by
                    have := HY.out
                    rw [reck_name (C := C) (R := R) (l := l) hno] at this
                    injection this with _ e
                    exact e.symm
                  have h3' : (f == 3) = true := by simp [h3]
                  go_wp2
                  go_ret
                  exact ⟨rfl, hx25⟩
                · have HS2 : Hid (∀ s ∈ Ln.take (j + 1), s ∈ C) := HSn.out (HBH.out.1 rfl)
                  go_wp2
                  go_roundw
                  case rel => exact ⟨j + 1, by go_num, by omega, HS2, trivial⟩
                  case measure => simp [intOf]; omega
              · have hjn : j = N := by omega
                subst hjn
                have HHAS : Hid (hasC C l = true) := by
                  have : hasC C l = true := has_of (fun s hs => by
                    rw [HLn.out] at hs
                    refine hAll.out s ?_
                    rw [List.take_of_length_le (by rw [HNn.out]; exact Nat.le_refl _)]
                    exact hs) HBS.out
                  exact this
                have hj1 : ¬ ((j : Int) < ((j : Int))) := by omega
                obtain ⟨bm, hbm⟩ : ∃ b, mayR l = b := ⟨_, rfl⟩
                have HBM : Hid (mayR l = bm) := hbm
                clear hbm hAll
                go_wp2_with fail
                refine (reckon_impl _ _ l n HN.out _ _ C k HM.out _ _ R' k HRL.out _ A25.out.1 FD.out FI.out hnM A25.out.2.1 hqM RR25.out HFR.out hqM (HP.out.below hx25) (HE.out.below hx25) _ HY2.out).mono ?_
                rintro e w27 ⟨rfl, hb27⟩
                obtain ⟨k0, k1, k2, k3⟩ := later3 hb27 K25.out
                have hx27 := chain hx25 hb27
                have I27 : Hid (ItmAt w27 (some ⟨gl, 0, none⟩) l) := A25.out.1.below hb27
                have hes := eql_same 0 0 ⟨#[]⟩
                have hfe : (f == f) = true := by simp
                clear hb27 hx25 A25 S25 K25 RR25
                go_wp2_with fail
                have hbB : Below w27.heap.size w27 (w27.alloc (.cells #[.int .i64 0, .int .i64 0, .string ⟨#[]⟩] 30)) := (Below.refl _ _).alloc (Nat.le_refl _) _
                refine (may_specb _ _ l n HN.out _ (I27.out.below hbB) FI.out hnM bm HBM.out).mono ?_
                rintro e w28 ⟨rfl, hb28⟩
                have hx28 := chain (chain hx27 hbB) hb28
                cases bm
                · have hfz : f = 0 := by
                    have := reck_safe HBM.out HHAS.out (by rw [HQ.out, HM.out]) HAR.out
                    rw [HY.out] at this
                    exact this
                  have hfz' : (f == 0) = true := by simp [hfz]
                  go_wp2
                  go_ret
                  exact ⟨rfl, hx28⟩
                · go_wp2
                  go_ret
                  exact ⟨rfl, hx28⟩
      · have hqn : ((q : Int) != (m : Int)) = true := by simp; omega
        have h3 : f = 3 := by
          have := HY.out
          rw [reck_len (C := C) (R := R) (l := l) (by rw [HQ.out, HM.out]; exact hqm)] at this
          injection this with _ e
          exact e.symm
        have h3' : (f == 3) = true := by simp [h3]
        go_wp2
        go_ret
        exact ⟨rfl, hx14⟩
end reckLaw
end Go.Proofs.YthgbjnchhaoceaaGreatDoor
