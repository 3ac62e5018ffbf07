/-
  A part of the proof: ShowSumS.
-/
import Derived.Test.YtmmandkellhbeaaGreatDoorPart5
import Derived.Test.YtmmandkellhbeaaGreatDoorPart6
import Derived.Test.YtmmandkellhbeaaGreatDoorPart10
import Derived.Test.YtmmandkellhbeaaGreatDoorPart14

/-
  The contract of the model's ShowSum.
-/
namespace Go.Proofs.YtmmandkellhbeaaGreatDoor
open Go.ChangeShapes Go.WideShapes Go.ChangeAt Go.RowKit
attribute [local go_sem ↓] Go.wp_at_zero Go.wp_at_succ
attribute [local simp] World.cell?_alloc_past World.cell?_alloc_at World.frozen?_alloc_at cell_far cell_off cell_here World.frozen?_alloc_past

def signL : List ByteArray := [sgn 3, sgn 4, sgn 5, sgn 6, sgn 7, sgn 8, sgn 9, sgn 10, sgn 11, sgn 12]
theorem signs8_spec (w : World) :
    Calls Tryz.prog 91 #[] w fun e w' => ∃ g, e = .returned (.slice (some ⟨g, 0, none⟩) 10 10) ∧ (∀ k : Int, 3 ≤ k → k ≤ 12 → w'.cell? ⟨g, (k - 3).toNat, none⟩ = some (.string (sgn k))) ∧ g < w'.heap.size ∧ Below w.heap.size w w' := by
  go_enter Tryz.func91, Tryz.ntmps91
  go_wp2
  go_ret
  refine ⟨w.heap.size, rfl, ?_, by simp, (Below.refl _ _).alloc (Nat.le_refl _) _⟩
  intro k h1 h2
  have : k = 3 ∨ k = 4 ∨ k = 5 ∨ k = 6 ∨ k = 7 ∨ k = 8 ∨ k = 9 ∨ k = 10 ∨ k = 11 ∨ k = 12 := by omega
  rcases this with rfl | rfl | rfl | rfl | rfl | rfl | rfl | rfl | rfl | rfl <;> simp [sgn]
theorem own_shrink {w : World} {base g c n : Nat} {e : TypeId} {P : List ByteArray} (h : w.ownsRow base e 1 (.slice (some ⟨g, 0, none⟩) n c) n (P.map Value.string)) (m : Nat) (hm : m ≤ n) : w.ownsRow base e 1 (.slice (some ⟨g, 0, none⟩) m c) m ((P.take m).map Value.string) := by
  have hl : P.length = n := by have := h.1; rw [List.length_map, Nat.mul_one] at this; exact this
  rcases h.2 with ⟨h', _⟩ | ⟨g', c', cur, h', hb', hg', hc', hm', hz', ht'⟩
  · simp at h'
  · simp only [Value.slice.injEq, Option.some.injEq, Addr.mk.injEq, and_true, true_and] at h'
    obtain ⟨rfl, rfl⟩ := h'
    refine ⟨by rw [List.length_map, List.length_take]; omega, .inr ⟨g, c, cur, rfl, hb', hg', by omega, hm', hz', ?_⟩⟩
    have e2 : cur.toList.take (m * 1) = (cur.toList.take (n * 1)).take (m * 1) := by rw [List.take_take]; congr 1; omega
    rw [e2, ht', Nat.mul_one, List.map_take]
theorem cells1S (w : World) (x : Value) : ∀ j u, [x][j]? = some u → (w.alloc (.cells #[x] 9)).cell? ((⟨w.heap.size, 0, none⟩ : Addr).add j) = some u := by
  intro j u hj
  match j, hj with
  | 0, hj => simp at hj; subst hj; simp [Addr.add]
set_option maxRecDepth 100000 in
set_option maxHeartbeats 4000000 in
theorem show8_spec (a : Option Addr) (cap : Nat) (l : List TI) (n : Nat) (hn : l.length = n) (w : World) (hrow : ItmAt w a l) (hfit : FitItm l) (hs : sumB l = true) (y : ByteArray) (hy : sumT l = y) :
    Calls Tryz.prog 59 #[.slice a n cap] w fun e w' => e = .returned (.string y) ∧ Below w.heap.size w w' := by
  subst hn
  obtain ⟨i0, hti, hz0, hz1, hz2⟩ := info_parts infoStr
  have HR : Hid (ItmAt w a l) := hrow
  have HF : Hid (FitItm l) := hfit
  have HS : Hid (heapN l 0 = some 1 ∧ l.length ≤ 40) := by
    have := hs
    unfold sumB at this
    rw [Bool.and_eq_true, decide_eq_true_eq, decide_eq_true_eq] at this
    exact this
  have hn40 := HS.out.2
  have HY : Hid ((showP l []).headD ⟨#[]⟩ = y) := by
    have := hy
    unfold sumT at this
    rw [if_pos hs] at this
    exact this
  clear hrow hfit hs hy
  have own0 : Hid ((w.alloc (.cells #[] 9)).ownsRow w.heap.size 9 1 (.slice (some ⟨w.heap.size, 0, none⟩) 0 0) (showP (l.take 0) []).length ((showP (l.take 0) []).map Value.string)) :=
    ⟨rfl, .inr ⟨w.heap.size, 0, #[], rfl, Nat.le_refl _, by show (w.heap.push _)[w.heap.size]? = _; simp, Nat.le_refl _, by unfold maxLen; omega, rfl, rfl⟩⟩
  have hb0 : Below w.heap.size w (w.alloc (.cells #[] 9)) := (Below.refl _ _).alloc (Nat.le_refl _) _
  go_enter Tryz.func59, Tryz.ntmps59
  go_wp2
  go_loopw [3, 4] (fun v kk wr => ∃ k : Nat, k ≤ l.length ∧ kk = .int .i64 k ∧ Hid (wr.ownsRow w.heap.size 9 1 v (showP (l.take k) []).length ((showP (l.take k) []).map Value.string)) ∧ Below w.heap.size w wr ∧ v ≠ .slice none 0 0 ∧ Hid (sizesP (showP (l.take k) []) ≤ 14 * k)) (fun _ kk _ => l.length - (intOf kk).toNat)
  case atStart => exact ⟨0, Nat.zero_le _, rfl, own0, hb0, by simp, Nat.le_refl _⟩
  case round =>
    obtain ⟨k, hk, rfl, hO, hb, hvn, hsz⟩ := hrel
    by_cases hlt : k < l.length
    · obtain ⟨g, o, rfl, hgw, c0, c1, c2, c3, c4⟩ := HR.out.below hb k hlt
      have hi0 : (0 : Int) ≤ (k : Int) := by omega
      have hi1 : (k : Int) < (l.length : Int) := by omega
      obtain ⟨hf1, hf2⟩ := HF.out k hlt
      obtain ⟨p, hp, hit, hnd⟩ := heapN_take HS.out.1 k hlt
      have hlen := showP_len (l.take k) [] p hp
      have hsn : showP (l.take (k + 1)) [] = showStep (showP (l.take k) []) l[k] := by rw [List.take_succ_eq_append_getElem hlt, showP_append]; rfl
      have HSn : Hid (showP (l.take (k + 1)) [] = showStep (showP (l.take k) []) l[k]) := hsn
      have HIT : Hid (itemB l[k] = true) := hit
      have hp40 : p ≤ 40 := by
        have h1 := heapN_le (l.take k) 0 p hp
        rw [List.length_take] at h1
        omega
      have hOO := hO.out
      rw [hlen] at hOO
      have HSZ : Hid (sizesP (showP (l.take (k + 1)) []) ≤ 14 * (k + 1)) := by
        have h1 := showStep_size (P := showP (l.take k) []) hit (by rw [hlen]; exact hnd)
        have h2 := hsz.out
        rw [hsn]
        exact (show sizesP (showStep (showP (l.take k) []) l[k]) ≤ 14 * (k + 1) by omega)
      have hsz2 := hsz.out
      clear hsz
      generalize showP (l.take k) [] = P at HSn hOO hlen hsz2
      clear hsn hp hit hO
      generalize l[k] = x at c0 c1 c2 c3 c4 hf1 hf2 HSn HIT hnd
      obtain ⟨xk, ⟨xa, xb, xc⟩, xs⟩ := x
      dsimp only at c0 c1 c2 c3 c4 hf1 hf2 hnd
      rcases hOO.2 with ⟨h', _⟩ | ⟨gp, cp, cur, h', hbg, _⟩
      · exact absurd h' hvn
      subst h'
      obtain ⟨q, hq⟩ : ∃ q, needsI xk = q := ⟨_, rfl⟩
      have HQ : Hid (needsI xk = q) := hq
      rw [hq] at hnd
      clear hq
      obtain ⟨V, hV⟩ : ∃ V, V = wr.alloc (.cells #[.int .i64 xk, .int .i64 xa, .int .i64 xb, .string xc, .string xs] 79) := ⟨_, rfl⟩
      have hbV : Below wr.heap.size wr V := by rw [hV]; exact (Below.refl _ _).alloc (Nat.le_refl _) _
      have hX5 := box5 (w := wr) (w1 := V) (a := .int .i64 xk) (b := .int .i64 xa) (c := .int .i64 xb) (d := .string xc) (e := .string xs) (T := 79) (by rw [hV]; exact Below.refl _ _)
      obtain ⟨e0, e1, e2, e3, e4, eB⟩ := hX5
      have O2 : Hid (V.ownsRow w.heap.size 9 1 (.slice (some ⟨gp, 0, none⟩) p cp) p (P.map Value.string)) := own_below hOO hbV
      have hxV := chain hb hbV
      go_wp2_with fail
      rw [← hV]
      obtain ⟨XB, hXB⟩ : ∃ XB, wr.heap.size = XB := ⟨_, rfl⟩
      rw [hXB] at e0 e1 e2 e3 e4 eB ⊢
      clear hV hbV hOO c0 c1 c2 c3 c4 hb
      refine (needs_spec xk q HQ.out _).mono ?_
      rintro e w2 ⟨rfl, hw2⟩
      replace hw2 := hw2.symm
      subst hw2
      rcases needs_012 xk with hq0 | hq0 | hq0
      · have hq00 : q = 0 := HQ.out.symm.trans hq0
        subst hq00
        obtain ⟨hx12, _⟩ := leafX_size HIT.out hq0
        dsimp only at hx12
        obtain ⟨y1, hy1⟩ : ∃ y1, leafX (xk, (xa, xb, xc), xs) = y1 := ⟨_, rfl⟩
        have HFin : Hid (showP (l.take (k + 1)) [] = P ++ [y1]) := by
          have : showP (l.take (k + 1)) [] = P ++ [y1] := by
            rw [HSn.out]
            unfold showStep
            dsimp only
            rw [if_pos hq0, hy1]
          exact this
        have HY1 : Hid (leafX (xk, (xa, xb, xc), xs) = y1) := hy1
        have HLN : Hid (P.length = p) := hlen
        clear hy1 hlen HSn hq0
        rcases hx12 with h1 | h2
        · subst h1
          have hok : okB xa xb xc = true := by
            have := HIT.out
            unfold itemB at this
            rw [if_pos rfl, Bool.and_eq_true] at this
            exact this.1
          have hyc : (⟨(l4T xa xb xc.data.toList).toArray⟩ : ByteArray) = y1 := HY1.out
          have HYC : Hid ((⟨(l4T xa xb xc.data.toList).toArray⟩ : ByteArray) = y1) := hyc
          have HOK : Hid (okB xa xb xc = true) := hok
          clear hyc hok
          go_wp2_with fail
          refine (l4_spec xa xb xc HOK.out y1 HYC.out _).mono ?_
          rintro e w3 ⟨rfl, hb3⟩
          have O3 := own_below O2.out hb3
          have hx3 := chain hxV hb3
          clear O2 hb3 e0 e1 e2 e3 e4
          have O4 : Hid (w3.ownsRow w.heap.size 9 1 (.slice (some ⟨gp, 0, none⟩) p cp) p (P.map Value.string)) := O3
          clear O3
          go_wp2_with (at_builtin; refine wpList_append_own _ rfl _ _ 22 rfl w.heap.size 9 i0 (.string ⟨#[]⟩) 1 16 Tryz.underlying22 hti hz0 hz1 hz2 rfl (by decide) _ _ _ rfl (O4.out.alloc _) ⟨w3.heap.size, 0, none⟩ 1 1 [.string y1] rfl rfl (cells1S w3 _) (by intro u hu; simp at hu; subst hu; rfl) (by unfold maxLen; omega) (by omega) (by have := hx3.size; simp; omega) ?_)
          intro v' w4 own4 hgrow hnn
          have hx4 : Below w.heap.size w w4 := by
            refine (hx3.alloc hx3.size _).grown hgrow (by have := hx3.size; simp; omega) ?_
            intro kk hkk
            exact (O4.out.lt kk hkk).1
          have hvn2 : v' ≠ .slice none 0 0 := by first | exact hnn | exact fun e => by simp at e hnn
          have SS : Hid (w4.ownsRow w.heap.size 9 1 v' (showP (l.take (k + 1)) []).length ((showP (l.take (k + 1)) []).map Value.string)) := by
            rw [HFin.out, List.length_append, HLN.out, List.map_append]
            exact own4
          clear own4 hgrow hnn O4
          go_wp2
          go_roundw
          case rel => exact ⟨k + 1, by omega, by go_num, SS, hx4, hvn2, HSZ⟩
          case measure => simp [intOf]; omega
        · subst h2
          obtain rfl : xs = y1 := by
            have h := HY1.out
            unfold leafX tkOf bytesOf at h
            dsimp only at h
            rw [if_neg (by decide), tokT_1] at h
            exact h
          have O3 := O2.out
          have hx3 := hxV
          obtain ⟨w3, hw3⟩ : ∃ w3, w3 = V := ⟨_, rfl⟩
          rw [← hw3] at O3 hx3 e0 e1 e2 e3 e4 eB ⊢
          clear O2 hw3
          have O4 : Hid (w3.ownsRow w.heap.size 9 1 (.slice (some ⟨gp, 0, none⟩) p cp) p (P.map Value.string)) := O3
          clear O3
          go_wp2_with (at_builtin; refine wpList_append_own _ rfl _ _ 22 rfl w.heap.size 9 i0 (.string ⟨#[]⟩) 1 16 Tryz.underlying22 hti hz0 hz1 hz2 rfl (by decide) _ _ _ rfl (O4.out.alloc _) ⟨w3.heap.size, 0, none⟩ 1 1 [.string xs] rfl rfl (cells1S w3 _) (by intro u hu; simp at hu; subst hu; rfl) (by unfold maxLen; omega) (by omega) (by have := hx3.size; simp; omega) ?_)
          intro v' w4 own4 hgrow hnn
          have hx4 : Below w.heap.size w w4 := by
            refine (hx3.alloc hx3.size _).grown hgrow (by have := hx3.size; simp; omega) ?_
            intro kk hkk
            exact (O4.out.lt kk hkk).1
          have hvn2 : v' ≠ .slice none 0 0 := by first | exact hnn | exact fun e => by simp at e hnn
          have SS : Hid (w4.ownsRow w.heap.size 9 1 v' (showP (l.take (k + 1)) []).length ((showP (l.take (k + 1)) []).map Value.string)) := by
            rw [HFin.out, List.length_append, HLN.out, List.map_append]
            exact own4
          clear own4 hgrow hnn O4
          go_wp2
          go_roundw
          case rel => exact ⟨k + 1, by omega, by go_num, SS, hx4, hvn2, HSZ⟩
          case measure => simp [intOf]; omega
      · have hq1 : q = 1 := HQ.out.symm.trans hq0
        subst hq1
        have hxk : 11 ≤ xk ∧ xk ≤ 12 := by
          have h1 := item_op HIT.out (by intro e; dsimp only at e; subst e; exact absurd hq0 (by decide)) (by intro e; dsimp only at e; subst e; exact absurd hq0 (by decide))
          dsimp only at h1
          unfold needsI at hq0
          split at hq0
          · cases hq0
          · split at hq0
            · omega
            · cases hq0
        obtain ⟨m, hm⟩ : ∃ m, p = m + 1 := ⟨p - 1, by omega⟩
        have hmP : m < P.length := by omega
        obtain ⟨u, hu⟩ : ∃ u, P[m]'hmP = u := ⟨_, rfl⟩
        have hus : u.size ≤ 560 := by
          have := sizesP_get P m hmP
          rw [hu] at this
          omega
        have hvs := sgn_size xk
        have k1 : ¬ 9223372036854775807 < 1 + (sgn xk).size := by omega
        have k2 : ¬ 9223372036854775807 < 1 + (sgn xk).size + 1 := by omega
        have k3 : ¬ 9223372036854775807 < 1 + (sgn xk).size + 1 + u.size := by omega
        have k4 : ¬ 9223372036854775807 < 1 + (sgn xk).size + 1 + u.size + 1 := by omega
        have hcu : V.cell? ⟨gp, m, none⟩ = some (.string u) := by
          have := (texts_own (show V.ownsRow w.heap.size 9 1 (.slice (some ⟨gp, 0, none⟩) P.length cp) P.length (P.map Value.string) by rw [hlen]; exact O2.out) m hmP).1
          rw [hu] at this
          exact this
        have hgV : gp < V.heap.size := (O2.out.lt gp rfl).2
        have hfz := O2.out.frozenAt m
        have hsub : (p : Int) - 1 = (m : Int) := by omega
        have hm0 : (0 : Int) ≤ (m : Int) := by omega
        have hmp : (m : Int) < (p : Int) := by omega
        have hwr : IntKind.i64.wrap (m : Int) = (m : Int) := by rw [IntKind.wrap_i64]; omega
        obtain ⟨j, hj⟩ : ∃ j : Nat, xk - 3 = (j : Int) := ⟨(xk - 3).toNat, by omega⟩
        have hj0 : (0 : Int) ≤ (j : Int) := by omega
        have hj9 : (j : Int) < 10 := by omega
        have hwj : IntKind.i64.wrap (j : Int) = (j : Int) := by rw [IntKind.wrap_i64]; omega
        have HFin : Hid (showP (l.take (k + 1)) [] = P.set m (oneX xk u)) := by
          have : showP (l.take (k + 1)) [] = P.set m (oneX xk u) := by
            rw [HSn.out]
            unfold showStep
            dsimp only
            rw [hq0, if_neg (by decide), if_pos rfl, hlen, hm, show m + 1 - 1 = m by omega]
            rw [show P.getD m ⟨#[]⟩ = u by rw [List.getD_eq_getElem?_getD, List.getElem?_eq_getElem hmP, hu]; rfl]
          exact this
        have HXK : Hid (11 ≤ xk ∧ xk ≤ 12) := hxk
        have HLN : Hid (P.length = p) := hlen
        have HPM : Hid (p = m + 1) := hm
        clear hu hlen hm hmP hq0 hxk e1 e2 e3 e4 HSn
        go_wp2_with fail
        refine wp_region_until (z := 19) (S := (fun w' => w'.cell? ⟨XB, 0, none⟩ = some (.int .i64 xk) ∧ w'.cell? ⟨gp, m, none⟩ = some (.string u))) (by kernel_rfl) ?_ (fun hHeld => ?_)
        · (((try dsimp only); (repeat' apply And.intro) <;> first | (go_keep; done) | (simp (disch := first | omega | (simp <;> omega) | fail) [*]; done) | fail))
        refine wpAnyU_take (i := 0) (by simp only [List.getElem?_toArray, List.getElem?_cons_zero]; rfl) (by kernel_rfl) (by kernel_rfl) (by kernel_rfl) (by kernel_rfl) (by intro _ _ _ h; exact h) (Or.inl ⟨by rfl, fun w hSw => by (dsimp only at hSw; go_simp; (try with_reducible rfl))⟩) (by assumption) ?_
        simp only [Act.put, List.setIfInBounds_toArray, List.set_cons_zero, List.set_cons_succ]
        refine wpAnyU_take (i := 1) (by simp only [List.getElem?_toArray, List.getElem?_cons_zero, List.getElem?_cons_succ]; rfl) (by kernel_rfl) (by kernel_rfl) (by kernel_rfl) (by kernel_rfl) (by intro _ _ _ h; exact h) (Or.inl ⟨by rfl, fun w hSw => by (dsimp only at hSw; go_simp; (try with_reducible rfl))⟩) (by assumption) ?_
        simp only [Act.put, List.setIfInBounds_toArray, List.set_cons_zero, List.set_cons_succ]
        refine wpAnyU_take (i := 2) (by simp only [List.getElem?_toArray, List.getElem?_cons_zero, List.getElem?_cons_succ]; rfl) (by kernel_rfl) (by kernel_rfl) (by kernel_rfl) (by kernel_rfl) (by intro _ _ _ h; exact h) (Or.inl ⟨by rfl, fun w hSw => by (dsimp only at hSw; go_simp; (try with_reducible rfl))⟩) (by assumption) ?_
        simp only [Act.put, List.setIfInBounds_toArray, List.set_cons_zero, List.set_cons_succ]
        refine wpAnyU_take (i := 4) (by simp only [List.getElem?_toArray, List.getElem?_cons_zero, List.getElem?_cons_succ]; rfl) (by kernel_rfl) (by kernel_rfl) (by kernel_rfl) (by kernel_rfl) (by intro _ _ _ h; exact h) (Or.inl ⟨by rfl, fun w hSw => by (dsimp only at hSw; go_simp; (try with_reducible rfl))⟩) (by assumption) ?_
        simp only [Act.put, List.setIfInBounds_toArray, List.set_cons_zero, List.set_cons_succ]
        refine wpAnyU_take (i := 5) (by simp only [List.getElem?_toArray, List.getElem?_cons_zero, List.getElem?_cons_succ]; rfl) (by kernel_rfl) (by kernel_rfl) (by kernel_rfl) (by kernel_rfl) (by intro _ _ _ h; exact h) (Or.inl ⟨by rfl, fun w hSw => by (dsimp only at hSw; go_simp; (try with_reducible rfl))⟩) (by assumption) ?_
        simp only [Act.put, List.setIfInBounds_toArray, List.set_cons_zero, List.set_cons_succ]
        refine wpAnyU_take (i := 6) (by simp only [List.getElem?_toArray, List.getElem?_cons_zero, List.getElem?_cons_succ]; rfl) (by kernel_rfl) (by kernel_rfl) (by kernel_rfl) (by kernel_rfl) (by intro _ _ _ h; exact h) (Or.inl ⟨by rfl, fun w hSw => by (dsimp only at hSw; go_simp; (try with_reducible rfl))⟩) (by assumption) ?_
        simp only [Act.put, List.setIfInBounds_toArray, List.set_cons_zero, List.set_cons_succ]
        refine wpAnyU_take (i := 11) (by simp only [List.getElem?_toArray, List.getElem?_cons_zero, List.getElem?_cons_succ]; rfl) (by kernel_rfl) (by kernel_rfl) (by kernel_rfl) (by kernel_rfl) (by intro _ _ _ h; exact h) (Or.inl ⟨by rfl, fun w hSw => by (dsimp only at hSw; go_simp; (try with_reducible rfl))⟩) (by assumption) ?_
        simp only [Act.put, List.setIfInBounds_toArray, List.set_cons_zero, List.set_cons_succ]
        refine wpAnyU_take (i := 12) (by simp only [List.getElem?_toArray, List.getElem?_cons_zero, List.getElem?_cons_succ]; rfl) (by kernel_rfl) (by kernel_rfl) (by kernel_rfl) (by kernel_rfl) (by intro _ _ _ h; exact h) (Or.inl ⟨by rfl, fun w hSw => by (dsimp only at hSw; go_simp; (try with_reducible rfl))⟩) (by assumption) ?_
        simp only [Act.put, List.setIfInBounds_toArray, List.set_cons_zero, List.set_cons_succ]
        refine wpAnyU_take (i := 13) (by simp only [List.getElem?_toArray, List.getElem?_cons_zero, List.getElem?_cons_succ]; rfl) (by kernel_rfl) (by kernel_rfl) (by kernel_rfl) (by kernel_rfl) (by intro _ _ _ h; exact h) (Or.inl ⟨by rfl, fun w hSw => by (dsimp only at hSw; go_simp; (try with_reducible rfl))⟩) (by assumption) ?_
        simp only [Act.put, List.setIfInBounds_toArray, List.set_cons_zero, List.set_cons_succ]
        refine wpAnyU_take (i := 14) (by simp only [List.getElem?_toArray, List.getElem?_cons_zero, List.getElem?_cons_succ]; rfl) (by kernel_rfl) (by kernel_rfl) (by kernel_rfl) (by kernel_rfl) (by intro _ _ _ h; exact h) (Or.inl ⟨by rfl, fun w hSw => by (dsimp only at hSw; go_simp; (try with_reducible rfl))⟩) (by assumption) ?_
        simp only [Act.put, List.setIfInBounds_toArray, List.set_cons_zero, List.set_cons_succ]
        refine wpAnyU_take (i := 15) (by simp only [List.getElem?_toArray, List.getElem?_cons_zero, List.getElem?_cons_succ]; rfl) (by kernel_rfl) (by kernel_rfl) (by kernel_rfl) (by kernel_rfl) (by intro _ _ _ h; exact h) (Or.inl ⟨by rfl, fun w hSw => by (dsimp only at hSw; go_simp; (try with_reducible rfl))⟩) (by assumption) ?_
        simp only [Act.put, List.setIfInBounds_toArray, List.set_cons_zero, List.set_cons_succ]
        refine wpAnyU_one (i := 3) (by kernel_rfl) (by simp only [List.getElem?_toArray, List.getElem?_cons_zero, List.getElem?_cons_succ]; rfl) ?_
        intro K hK
        go_simp
        refine (signs8_spec _).mono ?_
        rintro e w3 ⟨gs, rfl, hsg, hgs, hb3⟩
        have hb3' := undrew hb3
        have hsj : w3.cell? ⟨gs, j, none⟩ = some (.string (sgn xk)) := by
          have := hsg xk (by have := HXK.out; omega) (by have := HXK.out; omega)
          rw [hj] at this
          exact this
        have hx3 := chain hxV hb3'
        have i0 : w3.cell? ⟨XB, 0, none⟩ = some (.int .i64 xk) := by rw [hb3'.cell (p := ⟨XB, 0, none⟩) eB]; exact e0
        have i1 : w3.cell? ⟨gp, m, none⟩ = some (.string u) := by rw [hb3'.cell (p := ⟨gp, m, none⟩) hgV]; exact hcu
        have O3 : Hid (w3.ownsRow w.heap.size 9 1 (.slice (some ⟨gp, 0, none⟩) p cp) p (P.map Value.string)) := own_below O2.out hb3'
        have hfz3 := O3.out.frozenAt m
        clear hsg hb3 hb3' e0 hcu hfz O2
        go_wp2_with fail
        refine hK.out _ _ ?_ (fun hHeld => ?_)
        · (((try dsimp only); (repeat' apply And.intro) <;> first | (go_keep; done) | (simp (disch := first | omega | (simp <;> omega) | fail) [*]; done) | fail))
        clear hK K
        try simp only [Act.put, List.setIfInBounds_toArray, List.set_cons_zero, List.set_cons_succ]
        refine wpAnyU_take (i := 7) (by simp only [List.getElem?_toArray, List.getElem?_cons_zero, List.getElem?_cons_succ]; rfl) (by kernel_rfl) (by kernel_rfl) (by kernel_rfl) (by kernel_rfl) (by intro _ _ _ h; exact h) (Or.inl ⟨by rfl, fun w hSw => by (dsimp only at hSw; go_simp; (try with_reducible rfl))⟩) (by assumption) ?_
        simp only [Act.put, List.setIfInBounds_toArray, List.set_cons_zero, List.set_cons_succ]
        refine wpAnyU_one (i := 8) (by kernel_rfl) (by simp only [List.getElem?_toArray, List.getElem?_cons_zero, List.getElem?_cons_succ]; rfl) ?_
        intro K hK
        go_simp
        refine hK.out _ _ ?_ (fun hHeld => ?_)
        · (((try dsimp only); (repeat' apply And.intro) <;> first | (go_keep; done) | (simp (disch := first | omega | (simp <;> omega) | fail) [*]; done) | fail))
        clear hK K
        try simp only [Act.put, List.setIfInBounds_toArray, List.set_cons_zero, List.set_cons_succ]
        refine wpAnyU_take (i := 9) (by simp only [List.getElem?_toArray, List.getElem?_cons_zero, List.getElem?_cons_succ]; rfl) (by kernel_rfl) (by kernel_rfl) (by kernel_rfl) (by kernel_rfl) (by intro _ _ _ h; exact h) (Or.inl ⟨by rfl, fun w hSw => by (dsimp only at hSw; go_simp; (try with_reducible rfl))⟩) (by assumption) ?_
        simp only [Act.put, List.setIfInBounds_toArray, List.set_cons_zero, List.set_cons_succ]
        refine wpAnyU_take (i := 10) (by simp only [List.getElem?_toArray, List.getElem?_cons_zero, List.getElem?_cons_succ]; rfl) (by kernel_rfl) (by kernel_rfl) (by kernel_rfl) (by kernel_rfl) (by intro _ _ _ h; exact h) (Or.inl ⟨by rfl, fun w hSw => by (dsimp only at hSw; go_simp; (try with_reducible rfl))⟩) (by assumption) ?_
        simp only [Act.put, List.setIfInBounds_toArray, List.set_cons_zero, List.set_cons_succ]
        refine wpAnyU_take (i := 16) (by simp only [List.getElem?_toArray, List.getElem?_cons_zero, List.getElem?_cons_succ]; rfl) (by kernel_rfl) (by kernel_rfl) (by kernel_rfl) (by kernel_rfl) (by intro _ _ _ h; exact h) (Or.inl ⟨by rfl, fun w hSw => by (dsimp only at hSw; go_simp; (try with_reducible rfl))⟩) (by assumption) ?_
        simp only [Act.put, List.setIfInBounds_toArray, List.set_cons_zero, List.set_cons_succ]
        refine wpAnyU_take (i := 17) (by simp only [List.getElem?_toArray, List.getElem?_cons_zero, List.getElem?_cons_succ]; rfl) (by kernel_rfl) (by kernel_rfl) (by kernel_rfl) (by kernel_rfl) (by intro _ _ _ h; exact h) (Or.inl ⟨by rfl, fun w hSw => by (dsimp only at hSw; go_simp; (try with_reducible rfl))⟩) (by assumption) ?_
        simp only [Act.put, List.setIfInBounds_toArray, List.set_cons_zero, List.set_cons_succ]
        refine wpAnyU_take (i := 18) (by simp only [List.getElem?_toArray, List.getElem?_cons_zero, List.getElem?_cons_succ]; rfl) (by kernel_rfl) (by kernel_rfl) (by kernel_rfl) (by kernel_rfl) (by intro _ _ _ h; exact h) (Or.inl ⟨by rfl, fun w hSw => by (dsimp only at hSw; go_simp; (try with_reducible rfl))⟩) (by assumption) ?_
        simp only [Act.put, List.setIfInBounds_toArray, List.set_cons_zero, List.set_cons_succ]
        refine wpAnyU_last (by kernel_rfl) (by simp only [List.getElem?_toArray, List.getElem?_cons_zero, List.getElem?_cons_succ]; rfl) ?_
        intro K hK
        go_simp
        refine hK.out _ _ ?_
        clear hK K
        try simp only [Act.put, List.setIfInBounds_toArray, List.set_cons_zero, List.set_cons_succ]
        refine wpAnyU_done (by kernel_rfl) ?_ _
        have hcat : (⟨#[40]⟩ ++ sgn xk ++ ⟨#[32]⟩ ++ u ++ ⟨#[41]⟩ : ByteArray) = oneX xk u := by
          refine bytes_ext ?_
          simp [oneX, bytesOf, ByteArray.data_append]
        rw [hcat]
        have SS : Hid ((w3.setCell ⟨gp, m, none⟩ (.string (oneX xk u))).ownsRow w.heap.size 9 1 (.slice (some ⟨gp, 0, none⟩) p cp) (showP (l.take (k + 1)) []).length ((showP (l.take (k + 1)) []).map Value.string)) := by
          have h4 := (O3.out.stored m (.string (oneX xk u))).1
          rw [HFin.out, List.length_set, HLN.out, List.map_set]
          exact h4
        have hx4 : Below w.heap.size w (w3.setCell ⟨gp, m, none⟩ (.string (oneX xk u))) := hx3.setCell hbg _
        clear O3 hcat hx3
        go_wp2
        go_roundw
        case rel => exact ⟨k + 1, by omega, by go_num, SS, hx4, by simp, HSZ⟩
        case measure => simp [intOf]; omega
      · have hq2 : q = 2 := HQ.out.symm.trans hq0
        subst hq2
        have hxk : 3 ≤ xk ∧ xk ≤ 10 := by
          have h1 := item_op HIT.out (by intro e; dsimp only at e; subst e; exact absurd hq0 (by decide)) (by intro e; dsimp only at e; subst e; exact absurd hq0 (by decide))
          dsimp only at h1
          unfold needsI at hq0
          split at hq0
          · cases hq0
          · split at hq0
            · cases hq0
            · omega
        obtain ⟨m, hm⟩ : ∃ m, p = m + 2 := ⟨p - 2, by omega⟩
        obtain ⟨m1, hm1⟩ : ∃ m1, m1 = m + 1 := ⟨_, rfl⟩
        have hmP : m < P.length := by omega
        have hm1P : m1 < P.length := by omega
        obtain ⟨u, hu⟩ : ∃ u, P[m]'hmP = u := ⟨_, rfl⟩
        obtain ⟨v, hv⟩ : ∃ v, P[m1]'hm1P = v := ⟨_, rfl⟩
        have hus : u.size ≤ 560 := by
          have := sizesP_get P m hmP
          rw [hu] at this
          omega
        have hvz : v.size ≤ 560 := by
          have := sizesP_get P m1 hm1P
          rw [hv] at this
          omega
        have hvs := sgn_size xk
        have k1 : ¬ 9223372036854775807 < 1 + u.size := by omega
        have k2 : ¬ 9223372036854775807 < 1 + u.size + 1 := by omega
        have k3 : ¬ 9223372036854775807 < 1 + u.size + 1 + (sgn xk).size := by omega
        have k4 : ¬ 9223372036854775807 < 1 + u.size + 1 + (sgn xk).size + 1 := by omega
        have k5 : ¬ 9223372036854775807 < 1 + u.size + 1 + (sgn xk).size + 1 + v.size := by omega
        have k6 : ¬ 9223372036854775807 < 1 + u.size + 1 + (sgn xk).size + 1 + v.size + 1 := by omega
        have hOl : V.ownsRow w.heap.size 9 1 (.slice (some ⟨gp, 0, none⟩) P.length cp) P.length (P.map Value.string) := by rw [hlen]; exact O2.out
        have hcu : V.cell? ⟨gp, m, none⟩ = some (.string u) := by
          have := (texts_own hOl m hmP).1
          rw [hu] at this
          exact this
        have hcv : V.cell? ⟨gp, m1, none⟩ = some (.string v) := by
          have := (texts_own hOl m1 hm1P).1
          rw [hv] at this
          exact this
        have hgV : gp < V.heap.size := (O2.out.lt gp rfl).2
        have hfz := O2.out.frozenAt m
        have hsub : (p : Int) - 2 = (m : Int) := by omega
        have hsub1 : (p : Int) - 1 = (m1 : Int) := by omega
        have hm0 : (0 : Int) ≤ (m : Int) := by omega
        have hmp : (m : Int) < (p : Int) := by omega
        have hm10 : (0 : Int) ≤ (m1 : Int) := by omega
        have hm1p : (m1 : Int) < (p : Int) := by omega
        have hm1c : (m1 : Int) ≤ (cp : Int) := by
          rcases O2.out.2 with ⟨h', _⟩ | ⟨g', c', cur', h', _, _, hcc, _⟩
          · simp at h'
          · simp only [Value.slice.injEq, Option.some.injEq, Addr.mk.injEq, and_true, true_and] at h'
            obtain ⟨_, rfl⟩ := h'
            omega
        have hwr : IntKind.i64.wrap (m : Int) = (m : Int) := by rw [IntKind.wrap_i64]; omega
        have hwr1 : IntKind.i64.wrap (m1 : Int) = (m1 : Int) := by rw [IntKind.wrap_i64]; omega
        obtain ⟨j, hj⟩ : ∃ j : Nat, xk - 3 = (j : Int) := ⟨(xk - 3).toNat, by omega⟩
        have hj0 : (0 : Int) ≤ (j : Int) := by omega
        have hj9 : (j : Int) < 10 := by omega
        have hwj : IntKind.i64.wrap (j : Int) = (j : Int) := by rw [IntKind.wrap_i64]; omega
        have HFin : Hid (showP (l.take (k + 1)) [] = (P.set m (twoX xk u v)).take m1) := by
          have : showP (l.take (k + 1)) [] = (P.set m (twoX xk u v)).take m1 := by
            rw [HSn.out]
            unfold showStep
            dsimp only
            rw [hq0, if_neg (by decide), if_neg (by decide), hlen, show p - 2 = m by omega, show p - 1 = m1 by omega]
            rw [show P.getD m ⟨#[]⟩ = u by rw [List.getD_eq_getElem?_getD, List.getElem?_eq_getElem hmP, hu]; rfl]
            rw [show P.getD m1 ⟨#[]⟩ = v by rw [List.getD_eq_getElem?_getD, List.getElem?_eq_getElem hm1P, hv]; rfl]
          exact this
        have HXK : Hid (3 ≤ xk ∧ xk ≤ 10) := hxk
        have HLN : Hid (P.length = p) := hlen
        have HPM : Hid (p = m1 + 1) := by exact (show p = m1 + 1 by omega)
        clear hu hv hlen hm hm1 hmP hm1P hOl hq0 hxk e1 e2 e3 e4 HSn
        go_wp2_with fail
        refine wp_region_until (z := 26) (S := (fun w' => w'.cell? ⟨XB, 0, none⟩ = some (.int .i64 xk) ∧ w'.cell? ⟨gp, m, none⟩ = some (.string u) ∧ w'.cell? ⟨gp, m1, none⟩ = some (.string v))) (by kernel_rfl) ?_ (fun hHeld => ?_)
        · (((try dsimp only); (repeat' apply And.intro) <;> first | (go_keep; done) | (simp (disch := first | omega | (simp <;> omega) | fail) [*]; done) | fail))
        refine wpAnyU_take (i := 0) (by simp only [List.getElem?_toArray, List.getElem?_cons_zero]; rfl) (by kernel_rfl) (by kernel_rfl) (by kernel_rfl) (by kernel_rfl) (by intro _ _ _ h; exact h) (Or.inl ⟨by rfl, fun w hSw => by (dsimp only at hSw; go_simp; (try with_reducible rfl))⟩) (by assumption) ?_
        simp only [Act.put, List.setIfInBounds_toArray, List.set_cons_zero, List.set_cons_succ]
        refine wpAnyU_take (i := 1) (by simp only [List.getElem?_toArray, List.getElem?_cons_zero, List.getElem?_cons_succ]; rfl) (by kernel_rfl) (by kernel_rfl) (by kernel_rfl) (by kernel_rfl) (by intro _ _ _ h; exact h) (Or.inl ⟨by rfl, fun w hSw => by (dsimp only at hSw; go_simp; (try with_reducible rfl))⟩) (by assumption) ?_
        simp only [Act.put, List.setIfInBounds_toArray, List.set_cons_zero, List.set_cons_succ]
        refine wpAnyU_take (i := 2) (by simp only [List.getElem?_toArray, List.getElem?_cons_zero, List.getElem?_cons_succ]; rfl) (by kernel_rfl) (by kernel_rfl) (by kernel_rfl) (by kernel_rfl) (by intro _ _ _ h; exact h) (Or.inl ⟨by rfl, fun w hSw => by (dsimp only at hSw; go_simp; (try with_reducible rfl))⟩) (by assumption) ?_
        simp only [Act.put, List.setIfInBounds_toArray, List.set_cons_zero, List.set_cons_succ]
        refine wpAnyU_take (i := 3) (by simp only [List.getElem?_toArray, List.getElem?_cons_zero, List.getElem?_cons_succ]; rfl) (by kernel_rfl) (by kernel_rfl) (by kernel_rfl) (by kernel_rfl) (by intro _ _ _ h; exact h) (Or.inl ⟨by rfl, fun w hSw => by (dsimp only at hSw; go_simp; (try with_reducible rfl))⟩) (by assumption) ?_
        simp only [Act.put, List.setIfInBounds_toArray, List.set_cons_zero, List.set_cons_succ]
        refine wpAnyU_take (i := 4) (by simp only [List.getElem?_toArray, List.getElem?_cons_zero, List.getElem?_cons_succ]; rfl) (by kernel_rfl) (by kernel_rfl) (by kernel_rfl) (by kernel_rfl) (by intro _ _ _ h; exact h) (Or.inl ⟨by rfl, fun w hSw => by (dsimp only at hSw; go_simp; (try with_reducible rfl))⟩) (by assumption) ?_
        simp only [Act.put, List.setIfInBounds_toArray, List.set_cons_zero, List.set_cons_succ]
        refine wpAnyU_take (i := 5) (by simp only [List.getElem?_toArray, List.getElem?_cons_zero, List.getElem?_cons_succ]; rfl) (by kernel_rfl) (by kernel_rfl) (by kernel_rfl) (by kernel_rfl) (by intro _ _ _ h; exact h) (Or.inl ⟨by rfl, fun w hSw => by (dsimp only at hSw; go_simp; (try with_reducible rfl))⟩) (by assumption) ?_
        simp only [Act.put, List.setIfInBounds_toArray, List.set_cons_zero, List.set_cons_succ]
        refine wpAnyU_take (i := 6) (by simp only [List.getElem?_toArray, List.getElem?_cons_zero, List.getElem?_cons_succ]; rfl) (by kernel_rfl) (by kernel_rfl) (by kernel_rfl) (by kernel_rfl) (by intro _ _ _ h; exact h) (Or.inl ⟨by rfl, fun w hSw => by (dsimp only at hSw; go_simp; (try with_reducible rfl))⟩) (by assumption) ?_
        simp only [Act.put, List.setIfInBounds_toArray, List.set_cons_zero, List.set_cons_succ]
        refine wpAnyU_take (i := 7) (by simp only [List.getElem?_toArray, List.getElem?_cons_zero, List.getElem?_cons_succ]; rfl) (by kernel_rfl) (by kernel_rfl) (by kernel_rfl) (by kernel_rfl) (by intro _ _ _ h; exact h) (Or.inl ⟨by rfl, fun w hSw => by (dsimp only at hSw; go_simp; (try with_reducible rfl))⟩) (by assumption) ?_
        simp only [Act.put, List.setIfInBounds_toArray, List.set_cons_zero, List.set_cons_succ]
        refine wpAnyU_take (i := 8) (by simp only [List.getElem?_toArray, List.getElem?_cons_zero, List.getElem?_cons_succ]; rfl) (by kernel_rfl) (by kernel_rfl) (by kernel_rfl) (by kernel_rfl) (by intro _ _ _ h; exact h) (Or.inl ⟨by rfl, fun w hSw => by (dsimp only at hSw; go_simp; (try with_reducible rfl))⟩) (by assumption) ?_
        simp only [Act.put, List.setIfInBounds_toArray, List.set_cons_zero, List.set_cons_succ]
        refine wpAnyU_take (i := 9) (by simp only [List.getElem?_toArray, List.getElem?_cons_zero, List.getElem?_cons_succ]; rfl) (by kernel_rfl) (by kernel_rfl) (by kernel_rfl) (by kernel_rfl) (by intro _ _ _ h; exact h) (Or.inl ⟨by rfl, fun w hSw => by (dsimp only at hSw; go_simp; (try with_reducible rfl))⟩) (by assumption) ?_
        simp only [Act.put, List.setIfInBounds_toArray, List.set_cons_zero, List.set_cons_succ]
        refine wpAnyU_take (i := 11) (by simp only [List.getElem?_toArray, List.getElem?_cons_zero, List.getElem?_cons_succ]; rfl) (by kernel_rfl) (by kernel_rfl) (by kernel_rfl) (by kernel_rfl) (by intro _ _ _ h; exact h) (Or.inl ⟨by rfl, fun w hSw => by (dsimp only at hSw; go_simp; (try with_reducible rfl))⟩) (by assumption) ?_
        simp only [Act.put, List.setIfInBounds_toArray, List.set_cons_zero, List.set_cons_succ]
        refine wpAnyU_take (i := 12) (by simp only [List.getElem?_toArray, List.getElem?_cons_zero, List.getElem?_cons_succ]; rfl) (by kernel_rfl) (by kernel_rfl) (by kernel_rfl) (by kernel_rfl) (by intro _ _ _ h; exact h) (Or.inl ⟨by rfl, fun w hSw => by (dsimp only at hSw; go_simp; (try with_reducible rfl))⟩) (by assumption) ?_
        simp only [Act.put, List.setIfInBounds_toArray, List.set_cons_zero, List.set_cons_succ]
        refine wpAnyU_take (i := 13) (by simp only [List.getElem?_toArray, List.getElem?_cons_zero, List.getElem?_cons_succ]; rfl) (by kernel_rfl) (by kernel_rfl) (by kernel_rfl) (by kernel_rfl) (by intro _ _ _ h; exact h) (Or.inl ⟨by rfl, fun w hSw => by (dsimp only at hSw; go_simp; (try with_reducible rfl))⟩) (by assumption) ?_
        simp only [Act.put, List.setIfInBounds_toArray, List.set_cons_zero, List.set_cons_succ]
        refine wpAnyU_take (i := 18) (by simp only [List.getElem?_toArray, List.getElem?_cons_zero, List.getElem?_cons_succ]; rfl) (by kernel_rfl) (by kernel_rfl) (by kernel_rfl) (by kernel_rfl) (by intro _ _ _ h; exact h) (Or.inl ⟨by rfl, fun w hSw => by (dsimp only at hSw; go_simp; (try with_reducible rfl))⟩) (by assumption) ?_
        simp only [Act.put, List.setIfInBounds_toArray, List.set_cons_zero, List.set_cons_succ]
        refine wpAnyU_take (i := 19) (by simp only [List.getElem?_toArray, List.getElem?_cons_zero, List.getElem?_cons_succ]; rfl) (by kernel_rfl) (by kernel_rfl) (by kernel_rfl) (by kernel_rfl) (by intro _ _ _ h; exact h) (Or.inl ⟨by rfl, fun w hSw => by (dsimp only at hSw; go_simp; (try with_reducible rfl))⟩) (by assumption) ?_
        simp only [Act.put, List.setIfInBounds_toArray, List.set_cons_zero, List.set_cons_succ]
        refine wpAnyU_take (i := 20) (by simp only [List.getElem?_toArray, List.getElem?_cons_zero, List.getElem?_cons_succ]; rfl) (by kernel_rfl) (by kernel_rfl) (by kernel_rfl) (by kernel_rfl) (by intro _ _ _ h; exact h) (Or.inl ⟨by rfl, fun w hSw => by (dsimp only at hSw; go_simp; (try with_reducible rfl))⟩) (by assumption) ?_
        simp only [Act.put, List.setIfInBounds_toArray, List.set_cons_zero, List.set_cons_succ]
        refine wpAnyU_take (i := 21) (by simp only [List.getElem?_toArray, List.getElem?_cons_zero, List.getElem?_cons_succ]; rfl) (by kernel_rfl) (by kernel_rfl) (by kernel_rfl) (by kernel_rfl) (by intro _ _ _ h; exact h) (Or.inl ⟨by rfl, fun w hSw => by (dsimp only at hSw; go_simp; (try with_reducible rfl))⟩) (by assumption) ?_
        simp only [Act.put, List.setIfInBounds_toArray, List.set_cons_zero, List.set_cons_succ]
        refine wpAnyU_take (i := 22) (by simp only [List.getElem?_toArray, List.getElem?_cons_zero, List.getElem?_cons_succ]; rfl) (by kernel_rfl) (by kernel_rfl) (by kernel_rfl) (by kernel_rfl) (by intro _ _ _ h; exact h) (Or.inl ⟨by rfl, fun w hSw => by (dsimp only at hSw; go_simp; (try with_reducible rfl))⟩) (by assumption) ?_
        simp only [Act.put, List.setIfInBounds_toArray, List.set_cons_zero, List.set_cons_succ]
        refine wpAnyU_one (i := 10) (by kernel_rfl) (by simp only [List.getElem?_toArray, List.getElem?_cons_zero, List.getElem?_cons_succ]; rfl) ?_
        intro K hK
        go_simp
        refine (signs8_spec _).mono ?_
        rintro e w3 ⟨gs, rfl, hsg, hgs, hb3⟩
        have hb3' := undrew hb3
        have hsj : w3.cell? ⟨gs, j, none⟩ = some (.string (sgn xk)) := by
          have := hsg xk (by have := HXK.out; omega) (by have := HXK.out; omega)
          rw [hj] at this
          exact this
        have hx3 := chain hxV hb3'
        have i0 : w3.cell? ⟨XB, 0, none⟩ = some (.int .i64 xk) := by rw [hb3'.cell (p := ⟨XB, 0, none⟩) eB]; exact e0
        have i1 : w3.cell? ⟨gp, m, none⟩ = some (.string u) := by rw [hb3'.cell (p := ⟨gp, m, none⟩) hgV]; exact hcu
        have i2 : w3.cell? ⟨gp, m1, none⟩ = some (.string v) := by rw [hb3'.cell (p := ⟨gp, m1, none⟩) hgV]; exact hcv
        have O3 : Hid (w3.ownsRow w.heap.size 9 1 (.slice (some ⟨gp, 0, none⟩) p cp) p (P.map Value.string)) := own_below O2.out hb3'
        have hfz3 := O3.out.frozenAt m
        clear hsg hb3 hb3' e0 hcu hcv hfz O2
        go_wp2_with fail
        refine hK.out _ _ ?_ (fun hHeld => ?_)
        · (((try dsimp only); (repeat' apply And.intro) <;> first | (go_keep; done) | (simp (disch := first | omega | (simp <;> omega) | fail) [*]; done) | fail))
        clear hK K
        try simp only [Act.put, List.setIfInBounds_toArray, List.set_cons_zero, List.set_cons_succ]
        refine wpAnyU_take (i := 14) (by simp only [List.getElem?_toArray, List.getElem?_cons_zero, List.getElem?_cons_succ]; rfl) (by kernel_rfl) (by kernel_rfl) (by kernel_rfl) (by kernel_rfl) (by intro _ _ _ h; exact h) (Or.inl ⟨by rfl, fun w hSw => by (dsimp only at hSw; go_simp; (try with_reducible rfl))⟩) (by assumption) ?_
        simp only [Act.put, List.setIfInBounds_toArray, List.set_cons_zero, List.set_cons_succ]
        refine wpAnyU_one (i := 15) (by kernel_rfl) (by simp only [List.getElem?_toArray, List.getElem?_cons_zero, List.getElem?_cons_succ]; rfl) ?_
        intro K hK
        go_simp
        refine hK.out _ _ ?_ (fun hHeld => ?_)
        · (((try dsimp only); (repeat' apply And.intro) <;> first | (go_keep; done) | (simp (disch := first | omega | (simp <;> omega) | fail) [*]; done) | fail))
        clear hK K
        try simp only [Act.put, List.setIfInBounds_toArray, List.set_cons_zero, List.set_cons_succ]
        refine wpAnyU_take (i := 16) (by simp only [List.getElem?_toArray, List.getElem?_cons_zero, List.getElem?_cons_succ]; rfl) (by kernel_rfl) (by kernel_rfl) (by kernel_rfl) (by kernel_rfl) (by intro _ _ _ h; exact h) (Or.inl ⟨by rfl, fun w hSw => by (dsimp only at hSw; go_simp; (try with_reducible rfl))⟩) (by assumption) ?_
        simp only [Act.put, List.setIfInBounds_toArray, List.set_cons_zero, List.set_cons_succ]
        refine wpAnyU_take (i := 17) (by simp only [List.getElem?_toArray, List.getElem?_cons_zero, List.getElem?_cons_succ]; rfl) (by kernel_rfl) (by kernel_rfl) (by kernel_rfl) (by kernel_rfl) (by intro _ _ _ h; exact h) (Or.inl ⟨by rfl, fun w hSw => by (dsimp only at hSw; go_simp; (try with_reducible rfl))⟩) (by assumption) ?_
        simp only [Act.put, List.setIfInBounds_toArray, List.set_cons_zero, List.set_cons_succ]
        refine wpAnyU_take (i := 23) (by simp only [List.getElem?_toArray, List.getElem?_cons_zero, List.getElem?_cons_succ]; rfl) (by kernel_rfl) (by kernel_rfl) (by kernel_rfl) (by kernel_rfl) (by intro _ _ _ h; exact h) (Or.inl ⟨by rfl, fun w hSw => by (dsimp only at hSw; go_simp; (try with_reducible rfl))⟩) (by assumption) ?_
        simp only [Act.put, List.setIfInBounds_toArray, List.set_cons_zero, List.set_cons_succ]
        refine wpAnyU_take (i := 24) (by simp only [List.getElem?_toArray, List.getElem?_cons_zero, List.getElem?_cons_succ]; rfl) (by kernel_rfl) (by kernel_rfl) (by kernel_rfl) (by kernel_rfl) (by intro _ _ _ h; exact h) (Or.inl ⟨by rfl, fun w hSw => by (dsimp only at hSw; go_simp; (try with_reducible rfl))⟩) (by assumption) ?_
        simp only [Act.put, List.setIfInBounds_toArray, List.set_cons_zero, List.set_cons_succ]
        refine wpAnyU_take (i := 25) (by simp only [List.getElem?_toArray, List.getElem?_cons_zero, List.getElem?_cons_succ]; rfl) (by kernel_rfl) (by kernel_rfl) (by kernel_rfl) (by kernel_rfl) (by intro _ _ _ h; exact h) (Or.inl ⟨by rfl, fun w hSw => by (dsimp only at hSw; go_simp; (try with_reducible rfl))⟩) (by assumption) ?_
        simp only [Act.put, List.setIfInBounds_toArray, List.set_cons_zero, List.set_cons_succ]
        refine wpAnyU_last (by kernel_rfl) (by simp only [List.getElem?_toArray, List.getElem?_cons_zero, List.getElem?_cons_succ]; rfl) ?_
        intro K hK
        go_simp
        refine hK.out _ _ ?_
        clear hK K
        try simp only [Act.put, List.setIfInBounds_toArray, List.set_cons_zero, List.set_cons_succ]
        refine wpAnyU_done (by kernel_rfl) ?_ _
        have hcat : (⟨#[40]⟩ ++ u ++ ⟨#[32]⟩ ++ sgn xk ++ ⟨#[32]⟩ ++ v ++ ⟨#[41]⟩ : ByteArray) = twoX xk u v := by
          refine bytes_ext ?_
          simp [twoX, bytesOf, ByteArray.data_append]
        rw [hcat]
        have SS : Hid ((w3.setCell ⟨gp, m, none⟩ (.string (twoX xk u v))).ownsRow w.heap.size 9 1 (.slice (some ⟨gp, 0, none⟩) m1 cp) (showP (l.take (k + 1)) []).length ((showP (l.take (k + 1)) []).map Value.string)) := by
          have h4 := (O3.out.stored m (.string (twoX xk u v))).1
          have h5 : (w3.setCell ⟨gp, m, none⟩ (.string (twoX xk u v))).ownsRow w.heap.size 9 1 (.slice (some ⟨gp, 0, none⟩) p cp) p ((P.set m (twoX xk u v)).map Value.string) := by rw [List.map_set]; exact h4
          have h6 := own_shrink h5 m1 (by have := HPM.out; omega)
          have h7 : ((P.set m (twoX xk u v)).take m1).length = m1 := by rw [List.length_take, List.length_set, HLN.out]; have := HPM.out; omega
          rw [HFin.out, h7]
          exact h6
        have hx4 : Below w.heap.size w (w3.setCell ⟨gp, m, none⟩ (.string (twoX xk u v))) := hx3.setCell hbg _
        clear O3 hcat hx3
        go_wp2
        go_roundw
        case rel => exact ⟨k + 1, by omega, by go_num, SS, hx4, by simp, HSZ⟩
        case measure => simp [intOf]; omega
    · have hkl : k = l.length := by omega
      subst hkl
      have hi1 : ¬ (l.length : Int) < (l.length : Int) := by omega
      have hO2 := hO.out
      rw [List.take_length] at hO2
      have hl1 := showP_len l [] 1 HS.out.1
      have hy2 := HY.out
      rw [hl1] at hO2
      obtain ⟨R, u, hP, hR⟩ := snoc_of (m := 0) hl1
      obtain rfl : R = [] := List.length_eq_zero_iff.1 hR
      rw [hP] at hO2 hy2
      obtain rfl : u = y := hy2
      rcases hO2.2 with ⟨h', _⟩ | ⟨gp, cp, cur, h', hbg, _⟩
      · exact absurd h' hvn
      subst h'
      have hc := hO2.cellAt 0 (by omega)
      simp only [List.nil_append, List.map_cons, List.map_nil, List.getElem?_cons_zero] at hc
      clear hO hO2 HY hP hl1 HS
      go_wp2
      go_ret
      exact ⟨rfl, hb⟩
end Go.Proofs.YtmmandkellhbeaaGreatDoor
