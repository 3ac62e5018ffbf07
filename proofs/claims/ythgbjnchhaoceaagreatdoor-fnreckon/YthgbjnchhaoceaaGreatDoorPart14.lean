/-
  A part of the proof: RkS2.
-/
import Derived.Test.YthgbjnchhaoceaaGreatDoorPart10
import Derived.Test.YthgbjnchhaoceaaGreatDoorPart13
import Derived.Deep.RegionHeld3

/-
  The contract of the model's l9Reckon. Made by mkreckon.py.
-/
namespace Go.Proofs.YthgbjnchhaoceaaGreatDoor
open Go.ChangeShapes Go.WideShapes Go.ChangeAt Go.RowKit
attribute [local go_sem ↓] Go.wp_at_zero Go.wp_at_succ
attribute [local simp] World.cell?_alloc_past World.cell?_alloc_at World.frozen?_alloc_at cell_far cell_off cell_here World.frozen?_alloc_past

theorem runR_len {C : List ByteArray} {R : List CK} : ∀ (l : List TI) (P0 P : List CK) (p : Nat), runR C R l P0 = (P, 0) → heapN l P0.length = some p → P.length = p
  | [], P0, P, p, h, hp => by
    simp only [runR, Prod.mk.injEq] at h
    simp only [heapN, Option.some.injEq] at hp
    rw [← h.1]; exact hp
  | x :: l, P0, P, p, h, hp => by
    unfold runR at h
    unfold heapN at hp
    split at hp
    · rename_i hc
      split at h
      · exact runR_len l _ P p h (by rw [stepR_len hc.2]; exact hp)
      · rename_i hs
        injection h with _ h2
        exact absurd h2 hs
    · cases hp
theorem own_shrink9 {w : World} {base g c n : Nat} {e : TypeId} {P : List CT} (h : w.ownsRow base e 3 (.slice (some ⟨g, 0, none⟩) n c) n (flat P)) (m : Nat) (hm : m ≤ n) : w.ownsRow base e 3 (.slice (some ⟨g, 0, none⟩) m c) m (flat (P.take m)) := by
  have hl : P.length = n := by have := h.1; rw [flat_length] at this; omega
  rcases h.2 with ⟨h', _⟩ | ⟨g', c', cur, h', hb', hg', hc', hm', hz', ht'⟩
  · simp at h'
  · simp only [Value.slice.injEq, Option.some.injEq, Addr.mk.injEq, and_true, true_and] at h'
    obtain ⟨rfl, rfl⟩ := h'
    refine ⟨by rw [flat_length, List.length_take]; omega, .inr ⟨g, c, cur, rfl, hb', hg', by omega, hm', hz', ?_⟩⟩
    have e2 : cur.toList.take (m * 3) = (cur.toList.take (n * 3)).take (m * 3) := by rw [List.take_take]; congr 1; omega
    have e3 : flat P = flat (P.take m) ++ flat (P.drop m) := by rw [← flat_append, List.take_append_drop]
    rw [e2, ht', e3]
    exact List.take_left' (by rw [flat_length, List.length_take]; omega)
theorem own_far9 {w : World} {base g c n : Nat} {e : TypeId} {size : Nat} {xs : List Value} (h : w.ownsRow base e size (.slice (some ⟨g, 0, none⟩) n c) n xs) (b j : Nat) (v : Value) (hne : g ≠ b) : (w.setCell ⟨b, j, none⟩ v).ownsRow base e size (.slice (some ⟨g, 0, none⟩) n c) n xs := by
  rcases h with ⟨h1, h2⟩
  refine ⟨h1, ?_⟩
  rcases h2 with ⟨h', _⟩ | ⟨g', c', cur, h', hb', hg', hr⟩
  · simp at h'
  · simp only [Value.slice.injEq, Option.some.injEq, Addr.mk.injEq, and_true, true_and] at h'
    obtain ⟨rfl, rfl⟩ := h'
    exact .inr ⟨g, c, cur, rfl, hb', by rw [Below.heap_setCell w _ v g hne]; exact hg', hr⟩
theorem flat_snoc9 (l : List CT) (x : CT) : flat (l ++ [x]) = flat l ++ [.int .i64 x.1, .int .i64 x.2.1, .string x.2.2] := by rw [flat_append]; rfl
theorem fit_snoc9 {P : List CT} (h : Fit P) (m : Nat) (y : CT) (hy : y.2.2.size ≤ maxLen) : Fit (P.take m ++ [y]) := by
  intro j hj
  by_cases h1 : j < (P.take m).length
  · rw [List.getElem_append_left h1, List.getElem_take]
    exact h j (by rw [List.length_take] at h1; omega)
  · have e : j = (P.take m).length := by
      have h2 : j < (P.take m).length + 1 := by rw [List.length_append] at hj; exact hj
      omega
    subst e
    rw [List.getElem_append_right (Nat.le_refl _)]
    simpa using hy
theorem cells3n (w : World) (x y z : Value) (T : TypeId) : ∀ j u, [x, y, z][j]? = some u → (w.alloc (.cells #[x, y, z] T)).cell? ((⟨w.heap.size, 0, none⟩ : Addr).add j) = some u := by
  intro j u hj
  match j, hj with
  | 0, hj => simp at hj; subst hj; simp [Addr.add]
  | 1, hj => simp at hj; subst hj; simp [Addr.add]
  | 2, hj => simp at hj; subst hj; simp [Addr.add]
theorem infoC9 : (Tryz.prog.info? 30).map (fun i => (i.zero, i.size, i.bytes)) = some (some (.agg #[.int .i64 0, .int .i64 0, .string ⟨#[]⟩]), 3, 32) := by kernel_rfl
set_option maxRecDepth 100000 in
set_option maxHeartbeats 8000000 in
theorem l9reckon_spec (a : Option Addr) (cap : Nat) (l : List TI) (n : Nat) (hn : l.length = n) (ca : Option Addr) (cc : Nat) (C : List ByteArray) (m : Nat) (hm : C.length = m) (ra : Option Addr) (rc : Nat) (R : List CT) (hRm : R.length = m) (w : World) (hrow : ItmAt w a l) (hfit : FitItm l) (hC : StrsAt w ca C) (hml : m ≤ maxLen) (hR : RowAt w ra R) (hRf : Fit R) (hs : sumB l = true) (hh : hasC C l = true) (r : CK × Int) (hr : sumV C R l = r) :
    Calls Tryz.prog 46 #[.slice a n cap, .slice ca m cc, .slice ra m rc] w fun e w' => e = .returned (.tuple #[.agg #[.int .i64 r.1.1, .int .i64 r.1.2.1, .string r.1.2.2], .int .i64 r.2]) ∧ Below w.heap.size w w' := by
  obtain ⟨i0, hti, hz0, hz1, hz2⟩ := info_parts infoC9
  have HN : Hid (l.length = n) := hn
  have HM : Hid (C.length = m) := hm
  have HRM : Hid (R.length = m) := hRm
  have HR : Hid (ItmAt w a l) := hrow
  have HF : Hid (FitItm l) := hfit
  have HC : Hid (StrsAt w ca C) := hC
  have HL : Hid (m ≤ maxLen) := hml
  have HW : Hid (RowAt w ra R) := hR
  have HWF : Hid (Fit R) := hRf
  have HH : Hid (hasC C l = true) := hh
  have HS : Hid (heapN l 0 = some 1 ∧ l.length ≤ 40) := by
    have := hs
    unfold sumB at this
    rw [Bool.and_eq_true, decide_eq_true_eq, decide_eq_true_eq] at this
    exact this
  have hn40 : n ≤ 40 := by rw [← hn]; exact HS.out.2
  have HV : Hid (sumV C R l = r) := hr
  have hmM := hml
  unfold maxLen at hmM
  clear hrow hfit hs hr hn hm hRm hC hml hR hRf hh
  obtain ⟨W, hWd⟩ : ∃ W, W = w.alloc (.cells #[.int .i64 0, .int .i64 0, .string ⟨#[]⟩] 30) := ⟨_, rfl⟩
  have hWs : W.heap.size = w.heap.size + 1 := by rw [hWd]; simp
  have hWb : Below w.heap.size w W := by rw [hWd]; exact (Below.refl _ _).alloc (Nat.le_refl _) _
  have HZ : Hid ((W.cell? ⟨w.heap.size, 0, none⟩ = some (.int .i64 0) ∧ W.cell? ⟨w.heap.size, 1, none⟩ = some (.int .i64 0) ∧ W.cell? ⟨w.heap.size, 2, none⟩ = some (.string ⟨#[]⟩)) ∧ W.frozen? ⟨w.heap.size, 0, none⟩ = false ∧ W.frozen? ⟨w.heap.size, 1, none⟩ = false ∧ W.frozen? ⟨w.heap.size, 2, none⟩ = false) := by
    have : (W.cell? ⟨w.heap.size, 0, none⟩ = some (.int .i64 0) ∧ W.cell? ⟨w.heap.size, 1, none⟩ = some (.int .i64 0) ∧ W.cell? ⟨w.heap.size, 2, none⟩ = some (.string ⟨#[]⟩)) ∧ W.frozen? ⟨w.heap.size, 0, none⟩ = false ∧ W.frozen? ⟨w.heap.size, 1, none⟩ = false ∧ W.frozen? ⟨w.heap.size, 2, none⟩ = false := by
      rw [hWd]; simp
    exact this
  have own0 : Hid ((W.alloc (.cells #[] 30)).ownsRow W.heap.size 30 3 (.slice (some ⟨w.heap.size + 1, 0, none⟩) 0 0) ([] : List CT).length (flat [])) := by
    rw [← hWs]
    exact ⟨rfl, .inr ⟨W.heap.size, 0, #[], rfl, Nat.le_refl _, by show (W.heap.push _)[W.heap.size]? = _; simp, Nat.le_refl _, by unfold maxLen; omega, rfl, rfl⟩⟩
  have hb0 : Below W.heap.size W (W.alloc (.cells #[] 30)) := (Below.refl _ _).alloc (Nat.le_refl _) _
  have hWl : w.heap.size < W.heap.size := by omega
  clear hWs
  go_enter Tryz.func46, Tryz.ntmps46
  go_wp2
  rw [← hWd]
  clear hWd
  go_loopw [8, 9] (fun v kk wr => ∃ (k : Nat) (P : List CT), k ≤ n ∧ kk = .int .i64 k ∧ Hid (runR C R (l.take k) [] = (P, 0)) ∧ Hid (Fit P) ∧ Hid (wr.ownsRow W.heap.size 30 3 v P.length (flat P)) ∧ v ≠ .slice none 0 0 ∧ Below W.heap.size W wr) (fun _ kk _ => n - (intOf kk).toNat)
  case atStart => exact ⟨0, [], Nat.zero_le _, rfl, rfl, (by intro j hj; exact absurd hj (by simp)), own0, by simp, hb0⟩
  case round =>
    obtain ⟨k, P, hkn, rfl, hRun, hFP, hO, hvn, hb⟩ := hrel
    have hbw := chain hWb hb
    by_cases hlt : k < n
    · have hlk : k < l.length := by rw [HN.out]; exact hlt
      obtain ⟨g, o, rfl, hgw, c0, c1, c2, c3, c4⟩ := HR.out.below hbw k hlk
      have hi0 : (0 : Int) ≤ (k : Int) := by omega
      have hi1 : (k : Int) < (n : Int) := by omega
      obtain ⟨hf1, hf2⟩ := HF.out k hlk
      obtain ⟨p', hp', hit, hnd⟩ := heapN_take HS.out.1 k hlk
      have hpl := runR_len (l.take k) [] P p' hRun.out hp'
      rw [← hpl] at hnd hp'
      clear hpl p'
      have HSn := runR_snoc hlk hRun.out
      have HIT : Hid (itemB l[k] = true) := hit
      have HHas : Hid ((!(decide (l[k].1 = 2)) || C.any (fun c => decide (c = l[k].2.2))) = true) := List.all_eq_true.1 HH.out _ (List.getElem_mem hlk)
      have hp40 : P.length ≤ 40 := by
        have h1 := heapN_le (l.take k) 0 P.length hp'
        rw [List.length_take] at h1
        omega
      rcases hO.out.2 with ⟨h', _⟩ | ⟨gp, cp, cur, h', hbg, _, hcp, _⟩
      · exact absurd h' hvn
      subst h'
      generalize l[k] = x at c0 c1 c2 c3 c4 hf1 hf2 HSn HIT hnd HHas
      obtain ⟨xk, ⟨xa, xb, xc⟩, xs⟩ := x
      dsimp only at c0 c1 c2 c3 c4 hf1 hf2 hnd
      have HSN : Hid (runR C R (l.take (k + 1)) [] = if (stepR C R P (xk, (xa, xb, xc), xs)).2 = 0 then ((stepR C R P (xk, (xa, xb, xc), xs)).1, 0) else ([], (stepR C R P (xk, (xa, xb, xc), xs)).2)) := HSn
      obtain ⟨p, hpp⟩ : ∃ p, P.length = p := ⟨_, rfl⟩
      have HP : Hid (P.length = p) := hpp
      rw [hpp] at hnd hp40 hcp hO ⊢
      have hgw2 : gp < wr.heap.size := (hO.out.lt gp rfl).2
      obtain ⟨q, hq⟩ : ∃ q, needsI xk = q := ⟨_, rfl⟩
      have HQ : Hid (needsI xk = q) := hq
      rw [hq] at hnd
      clear hq hit hp' HSn hpp
      obtain ⟨V, hV⟩ : ∃ V, V = (wr.alloc (.cells #[.int .i64 xk, .int .i64 xa, .int .i64 xb, .string xc, .string xs] 69)).alloc (.cells #[.int .i64 xa, .int .i64 xb, .string xc] 30) := ⟨_, rfl⟩
      have hbV : Below wr.heap.size wr V := by rw [hV]; exact ((Below.refl _ _).alloc (Nat.le_refl _) _).alloc (by simp) _
      obtain ⟨XB, hXB⟩ : ∃ XB, wr.heap.size = XB := ⟨_, rfl⟩
      have e0 : V.cell? ⟨XB, 0, none⟩ = some (.int .i64 xk) := by rw [hV, ← hXB]; simp
      have e4 : V.cell? ⟨XB, 4, none⟩ = some (.string xs) := by rw [hV, ← hXB]; simp
      have b0 : V.cell? ⟨XB + 1, 0, none⟩ = some (.int .i64 xa) := by rw [hV, ← hXB]; simp
      have b1 : V.cell? ⟨XB + 1, 1, none⟩ = some (.int .i64 xb) := by rw [hV, ← hXB]; simp
      have b2 : V.cell? ⟨XB + 1, 2, none⟩ = some (.string xc) := by rw [hV, ← hXB]; simp
      have z0 : V.frozen? ⟨XB + 1, 0, none⟩ = false := by rw [hV, ← hXB]; simp
      have z1 : V.frozen? ⟨XB + 1, 1, none⟩ = false := by rw [hV, ← hXB]; simp
      have z2 : V.frozen? ⟨XB + 1, 2, none⟩ = false := by rw [hV, ← hXB]; simp
      have hVs : XB + 1 < V.heap.size := by rw [hV, ← hXB]; simp
      have O2 : Hid (V.ownsRow W.heap.size 30 3 (.slice (some ⟨gp, 0, none⟩) p cp) p (flat P)) := own_below hO.out hbV
      have hxV := chain hb hbV
      have hWXB : W.heap.size ≤ XB := by rw [← hXB]; exact hb.size
      have hgX : gp ≠ XB + 1 := by omega
      have hgX0 : gp ≠ XB := by omega
      have hgV : gp < V.heap.size := by omega
      go_wp2_with fail
      rw [← hV]
      rw [hXB] at *
      clear hV hbV c0 c1 c2 c3 c4 hb hbw hO hXB
      refine (needs_spec xk q HQ.out _).mono ?_
      rintro e w2 ⟨rfl, hw2⟩
      replace hw2 := hw2.symm
      subst hw2
      rcases needs_012 xk with hq0 | hq0 | hq0
      · have hq00 : q = 0 := HQ.out.symm.trans hq0
        subst hq00
        have hx12 : xk = 1 ∨ xk = 2 := by
          by_cases h1 : xk = 1
          · exact .inl h1
          · by_cases h2 : xk = 2
            · exact .inr h2
            · have := item_op HIT.out h1 h2
              dsimp only at this
              unfold needsI at hq0
              split at hq0
              · omega
              · split at hq0 <;> omega
        have HLN : Hid ((P.take p).length = p) := by
          have : (P.take p).length = p := by rw [List.length_take, HP.out]; omega
          exact this
        have hPt : P.take p = P := List.take_of_length_le (by rw [HP.out]; exact Nat.le_refl _)
        rcases hx12 with h1 | h2
        · subst h1
          have HFin : Hid (runR C R (l.take (k + 1)) [] = (P.take p ++ [(xa, xb, xc)], 0)) := by
            have : runR C R (l.take (k + 1)) [] = (P.take p ++ [(xa, xb, xc)], 0) := by
              rw [HSN.out, hPt]
              unfold stepR
              dsimp only
              rw [if_pos hq0]
              rfl
            exact this
          have HFt : Hid (Fit (P.take p ++ [(xa, xb, xc)])) := fit_snoc9 hFP.out p _ hf1
          rw [← hPt] at O2
          clear hq0 hPt HSN e4
          go_wp2_with (at_builtin; refine wpList_append_own _ rfl _ _ 26 rfl W.heap.size 30 i0 (.agg #[.int .i64 0, .int .i64 0, .string ⟨#[]⟩]) 3 32 Tryz.underlying26 hti hz0 hz1 hz2 rfl (by decide) _ _ _ rfl (O2.out.alloc _) ⟨V.heap.size, 0, none⟩ 1 1 [.int .i64 xa, .int .i64 xb, .string xc] rfl rfl ?c1 ?c2 ?c3 ?c4 ?c5 ?_)
          case c1 =>
            intro j u hj
            match j, hj with
            | 0, hj => simp at hj; subst hj; simp [Addr.add, go_sem]
            | 1, hj => simp at hj; subst hj; simp [Addr.add, go_sem]
            | 2, hj => simp at hj; subst hj; simp [Addr.add, go_sem]
          case c2 => intro u hu; simp at hu; rcases hu with rfl | rfl | rfl <;> rfl
          case c3 => unfold maxLen; omega
          case c4 => omega
          case c5 => have := hxV.size; simp at this ⊢; omega
          intro v' w9 own9 hgrow hnn
          have hx9 : Below W.heap.size W w9 := by
            refine (hxV.alloc hxV.size _).grown hgrow (by have := hxV.size; simp at this ⊢; omega) ?_
            intro kk hkk
            exact (O2.out.lt kk hkk).1
          have hvn2 : v' ≠ .slice none 0 0 := by first | exact hnn | exact fun e => by simp at e hnn
          have SS : Hid (w9.ownsRow W.heap.size 30 3 v' (P.take p ++ [(xa, xb, xc)]).length (flat (P.take p ++ [(xa, xb, xc)]))) := by
            rw [flat_snoc9, List.length_append, HLN.out]
            exact own9
          clear own9 hgrow hnn O2
          go_wp2
          go_roundw
          case rel => exact ⟨k + 1, _, by omega, by go_num, HFin, HFt, SS, hvn2, hx9⟩
          case measure => simp [intOf]; omega
        · subst h2
          have HSt : Hid (StrsAt V ca C) := HC.out.below (chain hWb hxV)
          go_wp2_with fail
          refine (at_specN m _ _ C HM.out xs _ HSt.out HL.out).mono ?_
          rintro e w3 ⟨ri, rfl, hri, hb3⟩
          have hmem : xs ∈ C := by
            have hor := HHas.out
            rw [Bool.or_eq_true] at hor
            rcases hor with h | h
            · simp at h
            · exact any_mem.1 h
          rcases hri with ⟨_, hno⟩ | ⟨j, hj, rfl, hjs, hjf⟩
          · exact absurd hmem hno
          have hjm : j < m := by rw [← HM.out]; exact hj
          have hjR : j < R.length := by rw [HRM.out]; exact hjm
          have hcol := colR_at C R xs j hj hjR hjs hjf
          have hx3 := chain hxV hb3
          obtain ⟨gr, or, rfl, hgr, d0, d1, d2⟩ := HW.out.below (chain hWb hx3) j hjR
          have hyf := HWF.out j hjR
          rw [hcol] at d0 d1 d2 hyf
          obtain ⟨y, hy⟩ : ∃ y, colR C R xs = y := ⟨_, rfl⟩
          rw [hy] at d0 d1 d2 hyf
          obtain ⟨ya, yb, yt⟩ := y
          dsimp only at d0 d1 d2 hyf
          have HFin : Hid (runR C R (l.take (k + 1)) [] = (P.take p ++ [(ya, yb, yt)], 0)) := by
            have : runR C R (l.take (k + 1)) [] = (P.take p ++ [(ya, yb, yt)], 0) := by
              rw [HSN.out, hPt]
              unfold stepR
              dsimp only
              rw [if_pos hq0, ← hy]
              rfl
            exact this
          have HFt : Hid (Fit (P.take p ++ [(ya, yb, yt)])) := fit_snoc9 hFP.out p _ hyf
          rw [← hPt] at O2
          have hj0 : (0 : Int) ≤ (j : Int) := by omega
          have hj1 : (j : Int) < (m : Int) := by omega
          have i0' : w3.cell? ⟨XB + 1, 0, none⟩ = some (.int .i64 xa) := by rw [hb3.cell (p := ⟨XB + 1, 0, none⟩) (by show XB + 1 < V.heap.size; omega)]; exact b0
          have i1' : w3.cell? ⟨XB + 1, 1, none⟩ = some (.int .i64 xb) := by rw [hb3.cell (p := ⟨XB + 1, 1, none⟩) (by show XB + 1 < V.heap.size; omega)]; exact b1
          have i2' : w3.cell? ⟨XB + 1, 2, none⟩ = some (.string xc) := by rw [hb3.cell (p := ⟨XB + 1, 2, none⟩) (by show XB + 1 < V.heap.size; omega)]; exact b2
          have y0 : w3.frozen? ⟨XB + 1, 0, none⟩ = false := by rw [hb3.frozen (p := ⟨XB + 1, 0, none⟩) (by show XB + 1 < V.heap.size; omega)]; exact z0
          have y1 : w3.frozen? ⟨XB + 1, 1, none⟩ = false := by rw [hb3.frozen (p := ⟨XB + 1, 1, none⟩) (by show XB + 1 < V.heap.size; omega)]; exact z1
          have y2 : w3.frozen? ⟨XB + 1, 2, none⟩ = false := by rw [hb3.frozen (p := ⟨XB + 1, 2, none⟩) (by show XB + 1 < V.heap.size; omega)]; exact z2
          have O4 : Hid ((((w3.setCell ⟨XB + 1, 0, none⟩ (.int .i64 ya)).setCell ⟨XB + 1, 1, none⟩ (.int .i64 yb)).setCell ⟨XB + 1, 2, none⟩ (.string yt)).ownsRow W.heap.size 30 3 (.slice (some ⟨gp, 0, none⟩) p cp) p (flat (P.take p))) := own_far9 (own_far9 (own_far9 (own_below O2.out hb3) _ _ _ hgX) _ _ _ hgX) _ _ _ hgX
          have hx4 : Below W.heap.size W (((w3.setCell ⟨XB + 1, 0, none⟩ (.int .i64 ya)).setCell ⟨XB + 1, 1, none⟩ (.int .i64 yb)).setCell ⟨XB + 1, 2, none⟩ (.string yt)) := ((hx3.setCell (by show W.heap.size ≤ XB + 1; omega) _).setCell (by show W.heap.size ≤ XB + 1; omega) _).setCell (by show W.heap.size ≤ XB + 1; omega) _
          clear hq0 hPt HSN e0 e4 b0 b1 b2 z0 z1 z2 O2 hb3 hjs hjf hcol hy
          go_wp2_with (at_builtin; refine wpList_append_own _ rfl _ _ 26 rfl W.heap.size 30 i0 (.agg #[.int .i64 0, .int .i64 0, .string ⟨#[]⟩]) 3 32 Tryz.underlying26 hti hz0 hz1 hz2 rfl (by decide) _ _ _ rfl (O4.out.alloc _) ⟨w3.heap.size, 0, none⟩ 1 1 [.int .i64 ya, .int .i64 yb, .string yt] rfl rfl ?c1 ?c2 ?c3 ?c4 ?c5 ?_)
          case c1 =>
            intro j u hj
            match j, hj with
            | 0, hj => simp at hj; subst hj; simp [Addr.add, go_sem]
            | 1, hj => simp at hj; subst hj; simp [Addr.add, go_sem]
            | 2, hj => simp at hj; subst hj; simp [Addr.add, go_sem]
          case c2 => intro u hu; simp at hu; rcases hu with rfl | rfl | rfl <;> rfl
          case c3 => unfold maxLen; omega
          case c4 => omega
          case c5 => have := hx4.size; simp at this ⊢; omega
          intro v' w9 own9 hgrow hnn
          have hx9 : Below W.heap.size W w9 := by
            refine (hx4.alloc hx4.size _).grown hgrow (by have := hx4.size; simp at this ⊢; omega) ?_
            intro kk hkk
            exact (O4.out.lt kk hkk).1
          have hvn2 : v' ≠ .slice none 0 0 := by first | exact hnn | exact fun e => by simp at e hnn
          have SS : Hid (w9.ownsRow W.heap.size 30 3 v' (P.take p ++ [(ya, yb, yt)]).length (flat (P.take p ++ [(ya, yb, yt)]))) := by
            rw [flat_snoc9, List.length_append, HLN.out]
            exact own9
          clear own9 hgrow hnn O4
          go_wp2
          go_roundw
          case rel => exact ⟨k + 1, _, by omega, by go_num, HFin, HFt, SS, hvn2, hx9⟩
          case measure => simp [intOf]; omega
      · have hq1 : q = 1 := HQ.out.symm.trans hq0
        subst hq1
        have hxk : xk = 11 ∨ xk = 12 := by
          have h1 := item_op HIT.out (by intro e; dsimp only at e; subst e; exact absurd hq0 (by decide)) (by intro e; dsimp only at e; subst e; exact absurd hq0 (by decide))
          dsimp only at h1
          unfold needsI at hq0
          split at hq0
          · cases hq0
          · split at hq0
            · omega
            · cases hq0
        obtain ⟨m', hm'⟩ : ∃ m', p = m' + 1 := ⟨p - 1, by omega⟩
        have hmP : m' < P.length := by rw [HP.out]; omega
        obtain ⟨u, hu⟩ : ∃ u, P[m']'hmP = u := ⟨_, rfl⟩
        have huf := hFP.out m' hmP
        rw [hu] at huf
        obtain ⟨ua, ub, ut⟩ := u
        dsimp only at huf
        have hrow2 : RowAt V (some ⟨gp, 0, none⟩) P := own_row (cap := cp) (base := W.heap.size) (e := 30) (by rw [HP.out]; exact O2.out)
        obtain ⟨_, _, hh1, _, g0, g1, g2⟩ := hrow2 m' hmP
        simp only [Option.some.injEq, Addr.mk.injEq, and_true] at hh1
        obtain ⟨rfl, rfl⟩ := hh1
        rw [hu] at g0 g1 g2
        simp only [Nat.zero_add] at g0 g1 g2
        obtain ⟨r1, r2, r3, hR1⟩ : ∃ r1 r2 r3, oneR xk (ua, ub, ut) = (r1, r2, r3) := ⟨_, _, _, rfl⟩
        have HR1 : Hid (oneR xk (ua, ub, ut) = (r1, r2, r3)) := hR1
        have HSt : Hid (runR C R (l.take (k + 1)) [] = if r3 = 0 then (P.take m' ++ [(r1, r2, ⟨#[]⟩)], 0) else ([], r3)) := by
          have hs : stepR C R P (xk, (xa, xb, xc), xs) = (P.take m' ++ [(r1, r2, ⟨#[]⟩)], r3) := by
            unfold stepR
            dsimp only
            rw [hq0, if_neg (by decide), if_pos rfl, HP.out, show p - 1 = m' by omega]
            rw [show P.getD m' zeroC = (ua, ub, ut) by rw [List.getD_eq_getElem?_getD, List.getElem?_eq_getElem hmP, hu]; rfl, hR1]
            rfl
          have := HSN.out
          rw [hs] at this
          exact this
        have HXK : Hid (xk = 11 ∨ xk = 12) := hxk
        have hsub : (p : Int) - 1 = (m' : Int) := by omega
        have hm0 : (0 : Int) ≤ (m' : Int) := by omega
        have hmp : (m' : Int) < (p : Int) := by omega
        have hmc : (m' : Int) ≤ (cp : Int) := by omega
        have hmc2 : m' ≤ cp := by omega
        have hwr : IntKind.i64.wrap (m' : Int) = (m' : Int) := by rw [IntKind.wrap_i64]; omega
        have hmle : m' ≤ p := by omega
        have HPM : Hid (p = m' + 1) := hm'
        clear hq0 hxk hR1 HSN  hu hrow2 e4 hm' hmP
        go_wp2_with fail
        refine wp_region_held_drew (S := (fun w' => w'.cell? ⟨XB, 0, none⟩ = some (.int .i64 xk) ∧ w'.cell? ⟨gp, m' * 3, none⟩ = some (.int .i64 ua) ∧ w'.cell? ⟨gp, m' * 3 + 1, none⟩ = some (.int .i64 ub) ∧ w'.cell? ⟨gp, m' * 3 + 2, none⟩ = some (.string ut))) (by kernel_rfl) ?_ (fun hHeld => ?_)
        · (((try dsimp only); (repeat' apply And.intro) <;> first | (go_keep; done) | (simp (disch := first | omega | (simp <;> omega) | fail) [*]; done) | fail))
        refine wpAnyH_take (i := 0) (by simp only [List.getElem?_toArray, List.getElem?_cons_zero]; rfl) (by kernel_rfl) (by kernel_rfl) (by kernel_rfl) (by intro _ _ _ h; exact h) (Or.inl ⟨by rfl, fun w hSw => by (dsimp only at hSw; go_simp; (try with_reducible rfl))⟩) (by assumption) ?_
        simp only [Act.put, List.setIfInBounds_toArray, List.set_cons_zero, List.set_cons_succ]
        refine wpAnyH_take (i := 1) (by simp only [List.getElem?_toArray, List.getElem?_cons_zero, List.getElem?_cons_succ]; rfl) (by kernel_rfl) (by kernel_rfl) (by kernel_rfl) (by intro _ _ _ h; exact h) (Or.inl ⟨by rfl, fun w hSw => by (dsimp only at hSw; go_simp; (try with_reducible rfl))⟩) (by assumption) ?_
        simp only [Act.put, List.setIfInBounds_toArray, List.set_cons_zero, List.set_cons_succ]
        refine wpAnyH_take (i := 2) (by simp only [List.getElem?_toArray, List.getElem?_cons_zero, List.getElem?_cons_succ]; rfl) (by kernel_rfl) (by kernel_rfl) (by kernel_rfl) (by intro _ _ _ h; exact h) (Or.inl ⟨by rfl, fun w hSw => by (dsimp only at hSw; go_simp; (try with_reducible rfl))⟩) (by assumption) ?_
        simp only [Act.put, List.setIfInBounds_toArray, List.set_cons_zero, List.set_cons_succ]
        refine wpAnyH_take (i := 3) (by simp only [List.getElem?_toArray, List.getElem?_cons_zero, List.getElem?_cons_succ]; rfl) (by kernel_rfl) (by kernel_rfl) (by kernel_rfl) (by intro _ _ _ h; exact h) (Or.inl ⟨by rfl, fun w hSw => by (dsimp only at hSw; go_simp; (try with_reducible rfl))⟩) (by assumption) ?_
        simp only [Act.put, List.setIfInBounds_toArray, List.set_cons_zero, List.set_cons_succ]
        refine wpAnyH_take (i := 4) (by simp only [List.getElem?_toArray, List.getElem?_cons_zero, List.getElem?_cons_succ]; rfl) (by kernel_rfl) (by kernel_rfl) (by kernel_rfl) (by intro _ _ _ h; exact h) (Or.inl ⟨by rfl, fun w hSw => by (dsimp only at hSw; go_simp; (try with_reducible rfl))⟩) (by assumption) ?_
        simp only [Act.put, List.setIfInBounds_toArray, List.set_cons_zero, List.set_cons_succ]
        refine wpAnyH_take (i := 5) (by simp only [List.getElem?_toArray, List.getElem?_cons_zero, List.getElem?_cons_succ]; rfl) (by kernel_rfl) (by kernel_rfl) (by kernel_rfl) (by intro _ _ _ h; exact h) (Or.inl ⟨by rfl, fun w hSw => by (dsimp only at hSw; go_simp; (try with_reducible rfl))⟩) (by assumption) ?_
        simp only [Act.put, List.setIfInBounds_toArray, List.set_cons_zero, List.set_cons_succ]
        refine wpAnyH_take (i := 6) (by simp only [List.getElem?_toArray, List.getElem?_cons_zero, List.getElem?_cons_succ]; rfl) (by kernel_rfl) (by kernel_rfl) (by kernel_rfl) (by intro _ _ _ h; exact h) (Or.inl ⟨by rfl, fun w hSw => by (dsimp only at hSw; go_simp; (try with_reducible rfl))⟩) (by assumption) ?_
        simp only [Act.put, List.setIfInBounds_toArray, List.set_cons_zero, List.set_cons_succ]
        refine wpAnyH_ready (rs := [7]) (by kernel_rfl) (by simp) ?_
        refine AllReadyH.cons (by simp only [List.getElem?_toArray, List.getElem?_cons_zero, List.getElem?_cons_succ]; rfl) ?_ AllReadyH.nil
        intro K hK
        go_simp
        refine (l9one_spec xk HXK.out (ua, ub, ut) (r1, r2, r3) HR1.out _ huf).mono ?_
        rintro e w3 ⟨rfl, hb3⟩
        have hb3' := undrew hb3
        have hx3 := chain hxV hb3'
        have j0 : w3.cell? ⟨XB, 0, none⟩ = some (.int .i64 xk) := by rw [hb3'.cell (p := ⟨XB, 0, none⟩) (by show XB < V.heap.size; omega)]; exact e0
        have i0' : w3.cell? ⟨XB + 1, 0, none⟩ = some (.int .i64 xa) := by rw [hb3'.cell (p := ⟨XB + 1, 0, none⟩) (by show XB + 1 < V.heap.size; omega)]; exact b0
        have i1' : w3.cell? ⟨XB + 1, 1, none⟩ = some (.int .i64 xb) := by rw [hb3'.cell (p := ⟨XB + 1, 1, none⟩) (by show XB + 1 < V.heap.size; omega)]; exact b1
        have i2' : w3.cell? ⟨XB + 1, 2, none⟩ = some (.string xc) := by rw [hb3'.cell (p := ⟨XB + 1, 2, none⟩) (by show XB + 1 < V.heap.size; omega)]; exact b2
        have y0 : w3.frozen? ⟨XB + 1, 0, none⟩ = false := by rw [hb3'.frozen (p := ⟨XB + 1, 0, none⟩) (by show XB + 1 < V.heap.size; omega)]; exact z0
        have y1 : w3.frozen? ⟨XB + 1, 1, none⟩ = false := by rw [hb3'.frozen (p := ⟨XB + 1, 1, none⟩) (by show XB + 1 < V.heap.size; omega)]; exact z1
        have y2 : w3.frozen? ⟨XB + 1, 2, none⟩ = false := by rw [hb3'.frozen (p := ⟨XB + 1, 2, none⟩) (by show XB + 1 < V.heap.size; omega)]; exact z2
        have h0 : w3.cell? ⟨gp, m' * 3, none⟩ = some (.int .i64 ua) := by rw [hb3'.cell (p := ⟨gp, m' * 3, none⟩) hgV]; exact g0
        have h1 : w3.cell? ⟨gp, m' * 3 + 1, none⟩ = some (.int .i64 ub) := by rw [hb3'.cell (p := ⟨gp, m' * 3 + 1, none⟩) hgV]; exact g1
        have h2 : w3.cell? ⟨gp, m' * 3 + 2, none⟩ = some (.string ut) := by rw [hb3'.cell (p := ⟨gp, m' * 3 + 2, none⟩) hgV]; exact g2
        have O3 : Hid (w3.ownsRow W.heap.size 30 3 (.slice (some ⟨gp, 0, none⟩) p cp) p (flat P)) := own_below O2.out hb3'
        clear hb3 hb3' e0 b0 b1 b2 z0 z1 z2 g0 g1 g2 O2 
        go_wp2_with fail
        refine hK.out _ _ ?_ (fun hHeld => ?_)
        · (((try dsimp only); (repeat' apply And.intro) <;> first | (go_keep; done) | (simp (disch := first | omega | (simp <;> omega) | fail) [*]; done) | fail))
        clear hK K
        try simp only [Act.put, List.setIfInBounds_toArray, List.set_cons_zero, List.set_cons_succ]
        refine wpAnyH_take (i := 8) (by simp only [List.getElem?_toArray, List.getElem?_cons_zero, List.getElem?_cons_succ]; rfl) (by kernel_rfl) (by kernel_rfl) (by kernel_rfl) (by intro _ _ _ h; exact h) (Or.inl ⟨by rfl, fun w hSw => by (dsimp only at hSw; go_simp; (try with_reducible rfl))⟩) (by assumption) ?_
        simp only [Act.put, List.setIfInBounds_toArray, List.set_cons_zero, List.set_cons_succ]
        refine wpAnyH_take (i := 9) (by simp only [List.getElem?_toArray, List.getElem?_cons_zero, List.getElem?_cons_succ]; rfl) (by kernel_rfl) (by kernel_rfl) (by kernel_rfl) (by intro _ _ _ h; exact h) (Or.inl ⟨by rfl, fun w hSw => by (dsimp only at hSw; go_simp; (try with_reducible rfl))⟩) (by assumption) ?_
        simp only [Act.put, List.setIfInBounds_toArray, List.set_cons_zero, List.set_cons_succ]
        refine wpAnyH_take (i := 10) (by simp only [List.getElem?_toArray, List.getElem?_cons_zero, List.getElem?_cons_succ]; rfl) (by kernel_rfl) (by kernel_rfl) (by kernel_rfl) (by intro _ _ _ h; exact h) (Or.inl ⟨by rfl, fun w hSw => by (dsimp only at hSw; go_simp; (try with_reducible rfl))⟩) (by assumption) ?_
        simp only [Act.put, List.setIfInBounds_toArray, List.set_cons_zero, List.set_cons_succ]
        refine wpAnyH_ready (rs := [11]) (by kernel_rfl) (by simp) ?_
        refine AllReadyH.cons (by simp only [List.getElem?_toArray, List.getElem?_cons_zero, List.getElem?_cons_succ]; rfl) ?_ AllReadyH.nil
        intro K hK
        go_simp
        refine hK.out _ _ ?_ (fun hHeld => ?_)
        · (((try dsimp only); (repeat' apply And.intro) <;> first | (go_keep; done) | (simp (disch := first | omega | (simp <;> omega) | fail) [*]; done) | fail))
        clear hK K
        try simp only [Act.put, List.setIfInBounds_toArray, List.set_cons_zero, List.set_cons_succ]
        refine wpAnyH_take (i := 12) (by simp only [List.getElem?_toArray, List.getElem?_cons_zero, List.getElem?_cons_succ]; rfl) (by kernel_rfl) (by kernel_rfl) (by kernel_rfl) (by intro _ _ _ h; exact h) (Or.inl ⟨by rfl, fun w hSw => by (dsimp only at hSw; go_simp; (try with_reducible rfl))⟩) (by assumption) ?_
        simp only [Act.put, List.setIfInBounds_toArray, List.set_cons_zero, List.set_cons_succ]
        refine wpAnyH_done (by kernel_rfl) ?_ _
        obtain ⟨w4, hw4⟩ : ∃ w4, w4 = ((w3.setCell ⟨XB + 1, 0, none⟩ (.int .i64 r1)).setCell ⟨XB + 1, 1, none⟩ (.int .i64 r2)).setCell ⟨XB + 1, 2, none⟩ (.string ⟨#[]⟩) := ⟨_, rfl⟩
        have O4 : Hid (w4.ownsRow W.heap.size 30 3 (.slice (some ⟨gp, 0, none⟩) m' cp) m' (flat (P.take m'))) := by
          rw [hw4]
          exact own_shrink9 (own_far9 (own_far9 (own_far9 O3.out _ _ _ hgX) _ _ _ hgX) _ _ _ hgX) m' hmle
        have hx4 : Below W.heap.size W w4 := by rw [hw4]; exact ((hx3.setCell (by show W.heap.size ≤ XB + 1; omega) _).setCell (by show W.heap.size ≤ XB + 1; omega) _).setCell (by show W.heap.size ≤ XB + 1; omega) _
        have n0 : w4.cell? ⟨XB + 1, 0, none⟩ = some (.int .i64 r1) := by rw [hw4]; simp [i0']
        have n1 : w4.cell? ⟨XB + 1, 1, none⟩ = some (.int .i64 r2) := by rw [hw4]; simp [i1']
        have n2 : w4.cell? ⟨XB + 1, 2, none⟩ = some (.string ⟨#[]⟩) := by rw [hw4]; simp [i2']
        rw [← hw4]
        clear hw4 O3 hx3 i0' i1' i2' y0 y1 y2 j0 hHeld
        have HLN : Hid ((P.take m').length = m') := by
          have : (P.take m').length = m' := by rw [List.length_take, HP.out]; exact Nat.min_eq_left hmle
          exact this
        have HFt : Hid (Fit (P.take m' ++ [(r1, r2, ⟨#[]⟩)])) := fit_snoc9 hFP.out m' _ (by show (0 : Nat) ≤ maxLen; unfold maxLen; omega)
        by_cases hr3 : r3 = 0
        · subst hr3
          have HFin : Hid (runR C R (l.take (k + 1)) [] = (P.take m' ++ [(r1, r2, ⟨#[]⟩)], 0)) := by
            have := HSt.out
            rw [if_pos rfl] at this
            exact this
          clear HSt
          go_wp2_with (at_builtin; refine wpList_append_own _ rfl _ _ 26 rfl W.heap.size 30 i0 (.agg #[.int .i64 0, .int .i64 0, .string ⟨#[]⟩]) 3 32 Tryz.underlying26 hti hz0 hz1 hz2 rfl (by decide) _ _ _ rfl (O4.out.alloc _) ⟨w4.heap.size, 0, none⟩ 1 1 [.int .i64 r1, .int .i64 r2, .string ⟨#[]⟩] rfl rfl ?c1 ?c2 ?c3 ?c4 ?c5 ?_)
          case c1 =>
            intro j u hj
            match j, hj with
            | 0, hj => simp at hj; subst hj; simp [Addr.add, go_sem]
            | 1, hj => simp at hj; subst hj; simp [Addr.add, go_sem]
            | 2, hj => simp at hj; subst hj; simp [Addr.add, go_sem]
          case c2 => intro u hu; simp at hu; rcases hu with rfl | rfl | rfl <;> rfl
          case c3 => unfold maxLen; omega
          case c4 => omega
          case c5 => have := hx4.size; simp at this ⊢; omega
          intro v' w9 own9 hgrow hnn
          have hx9 : Below W.heap.size W w9 := by
            refine (hx4.alloc hx4.size _).grown hgrow (by have := hx4.size; simp at this ⊢; omega) ?_
            intro kk hkk
            exact (O4.out.lt kk hkk).1
          have hvn2 : v' ≠ .slice none 0 0 := by first | exact hnn | exact fun e => by simp at e hnn
          have SS : Hid (w9.ownsRow W.heap.size 30 3 v' (P.take m' ++ [(r1, r2, (⟨#[]⟩ : ByteArray))]).length (flat (P.take m' ++ [(r1, r2, (⟨#[]⟩ : ByteArray))]))) := by
            rw [flat_snoc9, List.length_append, HLN.out]
            exact own9
          clear own9 hgrow hnn O4
          go_wp2
          go_roundw
          case rel => exact ⟨k + 1, _, by omega, by go_num, HFin, HFt, SS, hvn2, hx9⟩
          case measure => simp [intOf]; omega
        · have hfin : r = (zeroC, r3) := by
            have := HSt.out
            rw [if_neg hr3] at this
            rw [← HV.out]
            exact runR_fault this hr3
          subst hfin
          obtain ⟨⟨Z0, Z1, Z2⟩, F0, F1, F2⟩ := HZ.out
          have hxw := chain hWb hx4
          have s0 := (hx4.cell (p := ⟨w.heap.size, 0, none⟩) (by show w.heap.size < W.heap.size; omega)).trans Z0
          have t0 := (hx4.frozen (p := ⟨w.heap.size, 0, none⟩) (by show w.heap.size < W.heap.size; omega)).trans F0
          have s1 := (hx4.cell (p := ⟨w.heap.size, 1, none⟩) (by show w.heap.size < W.heap.size; omega)).trans Z1
          have t1 := (hx4.frozen (p := ⟨w.heap.size, 1, none⟩) (by show w.heap.size < W.heap.size; omega)).trans F1
          have s2 := (hx4.cell (p := ⟨w.heap.size, 2, none⟩) (by show w.heap.size < W.heap.size; omega)).trans Z2
          have t2 := (hx4.frozen (p := ⟨w.heap.size, 2, none⟩) (by show w.heap.size < W.heap.size; omega)).trans F2
          clear Z0 Z1 Z2 F0 F1 F2
          have hne : (r3 != 0) = true := by simp [hr3]
          clear HSt O4 HFt HLN
          go_wp2
          exact bodyPost_ret (v := .tuple #[.agg #[.int .i64 0, .int .i64 0, .string ⟨#[]⟩], .int .i64 r3]) (by simp [results, Tryz.results46, go_sem, s0, s1, s2]) rfl ⟨rfl, ((hxw.setCell (Nat.le_refl _) _).setCell (Nat.le_refl _) _).setCell (Nat.le_refl _) _⟩
      · have hq1 : q = 2 := HQ.out.symm.trans hq0
        subst hq1
        have hxk : 3 ≤ xk ∧ xk ≤ 10 := by
          have h1 := item_op HIT.out (by intro e; dsimp only at e; subst e; exact absurd hq0 (by decide)) (by intro e; dsimp only at e; subst e; exact absurd hq0 (by decide))
          dsimp only at h1
          unfold needsI at hq0
          split at hq0
          · cases hq0
          · split at hq0
            · cases hq0
            · omega
        obtain ⟨m', hm'⟩ : ∃ m', p = m' + 2 := ⟨p - 2, by omega⟩
        obtain ⟨m1, hm1⟩ : ∃ m1, m1 = m' + 1 := ⟨_, rfl⟩
        have hm1P : m1 < P.length := by rw [HP.out]; omega
        obtain ⟨v, hv⟩ : ∃ v, P[m1]'hm1P = v := ⟨_, rfl⟩
        have hvf := hFP.out m1 hm1P
        rw [hv] at hvf
        obtain ⟨va, vb, vt⟩ := v
        dsimp only at hvf
        have hmP : m' < P.length := by rw [HP.out]; omega
        obtain ⟨u, hu⟩ : ∃ u, P[m']'hmP = u := ⟨_, rfl⟩
        have huf := hFP.out m' hmP
        rw [hu] at huf
        obtain ⟨ua, ub, ut⟩ := u
        dsimp only at huf
        have hrow2 : RowAt V (some ⟨gp, 0, none⟩) P := own_row (cap := cp) (base := W.heap.size) (e := 30) (by rw [HP.out]; exact O2.out)
        obtain ⟨_, _, hh1, _, g0, g1, g2⟩ := hrow2 m' hmP
        simp only [Option.some.injEq, Addr.mk.injEq, and_true] at hh1
        obtain ⟨rfl, rfl⟩ := hh1
        rw [hu] at g0 g1 g2
        simp only [Nat.zero_add] at g0 g1 g2
        obtain ⟨_, _, hh1, _, k0, k1, k2⟩ := hrow2 m1 hm1P
        simp only [Option.some.injEq, Addr.mk.injEq, and_true] at hh1
        obtain ⟨rfl, rfl⟩ := hh1
        rw [hv] at k0 k1 k2
        simp only [Nat.zero_add] at k0 k1 k2
        obtain ⟨r1, r2, r3, hR1⟩ : ∃ r1 r2 r3, twoR xk (ua, ub, ut) (va, vb, vt) = (r1, r2, r3) := ⟨_, _, _, rfl⟩
        have HR1 : Hid (twoR xk (ua, ub, ut) (va, vb, vt) = (r1, r2, r3)) := hR1
        have HSt : Hid (runR C R (l.take (k + 1)) [] = if r3 = 0 then (P.take m' ++ [(r1, r2, ⟨#[]⟩)], 0) else ([], r3)) := by
          have hs : stepR C R P (xk, (xa, xb, xc), xs) = (P.take m' ++ [(r1, r2, ⟨#[]⟩)], r3) := by
            unfold stepR
            dsimp only
            rw [hq0, if_neg (by decide), if_neg (by decide), HP.out, show p - 2 = m' by omega, show p - 1 = m1 by omega]
            rw [show P.getD m' zeroC = (ua, ub, ut) by rw [List.getD_eq_getElem?_getD, List.getElem?_eq_getElem hmP, hu]; rfl, show P.getD m1 zeroC = (va, vb, vt) by rw [List.getD_eq_getElem?_getD, List.getElem?_eq_getElem hm1P, hv]; rfl, hR1]
            rfl
          have := HSN.out
          rw [hs] at this
          exact this
        have HXK : Hid (3 ≤ xk ∧ xk ≤ 10) := hxk
        have hsub : (p : Int) - 2 = (m' : Int) := by omega
        have hm0 : (0 : Int) ≤ (m' : Int) := by omega
        have hmp : (m' : Int) < (p : Int) := by omega
        have hmc : (m' : Int) ≤ (cp : Int) := by omega
        have hmc2 : m' ≤ cp := by omega
        have hwr : IntKind.i64.wrap (m' : Int) = (m' : Int) := by rw [IntKind.wrap_i64]; omega
        have hsub1 : (p : Int) - 1 = (m1 : Int) := by omega
        have hm10 : (0 : Int) ≤ (m1 : Int) := by omega
        have hm1p : (m1 : Int) < (p : Int) := by omega
        have hwr1 : IntKind.i64.wrap (m1 : Int) = (m1 : Int) := by rw [IntKind.wrap_i64]; omega
        have hmle : m' ≤ p := by omega
        have HPM : Hid (p = m' + 2) := hm'
        clear hq0 hxk hR1 HSN hv hm1P hm1 hu hrow2 e4 hm' hmP
        go_wp2_with fail
        refine wp_region_held_drew (S := (fun w' => w'.cell? ⟨XB, 0, none⟩ = some (.int .i64 xk) ∧ w'.cell? ⟨gp, m' * 3, none⟩ = some (.int .i64 ua) ∧ w'.cell? ⟨gp, m' * 3 + 1, none⟩ = some (.int .i64 ub) ∧ w'.cell? ⟨gp, m' * 3 + 2, none⟩ = some (.string ut) ∧ w'.cell? ⟨gp, m1 * 3, none⟩ = some (.int .i64 va) ∧ w'.cell? ⟨gp, m1 * 3 + 1, none⟩ = some (.int .i64 vb) ∧ w'.cell? ⟨gp, m1 * 3 + 2, none⟩ = some (.string vt))) (by kernel_rfl) ?_ (fun hHeld => ?_)
        · (((try dsimp only); (repeat' apply And.intro) <;> first | (go_keep; done) | (simp (disch := first | omega | (simp <;> omega) | fail) [*]; done) | fail))
        refine wpAnyH_take (i := 0) (by simp only [List.getElem?_toArray, List.getElem?_cons_zero]; rfl) (by kernel_rfl) (by kernel_rfl) (by kernel_rfl) (by intro _ _ _ h; exact h) (Or.inl ⟨by rfl, fun w hSw => by (dsimp only at hSw; go_simp; (try with_reducible rfl))⟩) (by assumption) ?_
        simp only [Act.put, List.setIfInBounds_toArray, List.set_cons_zero, List.set_cons_succ]
        refine wpAnyH_take (i := 1) (by simp only [List.getElem?_toArray, List.getElem?_cons_zero, List.getElem?_cons_succ]; rfl) (by kernel_rfl) (by kernel_rfl) (by kernel_rfl) (by intro _ _ _ h; exact h) (Or.inl ⟨by rfl, fun w hSw => by (dsimp only at hSw; go_simp; (try with_reducible rfl))⟩) (by assumption) ?_
        simp only [Act.put, List.setIfInBounds_toArray, List.set_cons_zero, List.set_cons_succ]
        refine wpAnyH_take (i := 2) (by simp only [List.getElem?_toArray, List.getElem?_cons_zero, List.getElem?_cons_succ]; rfl) (by kernel_rfl) (by kernel_rfl) (by kernel_rfl) (by intro _ _ _ h; exact h) (Or.inl ⟨by rfl, fun w hSw => by (dsimp only at hSw; go_simp; (try with_reducible rfl))⟩) (by assumption) ?_
        simp only [Act.put, List.setIfInBounds_toArray, List.set_cons_zero, List.set_cons_succ]
        refine wpAnyH_take (i := 3) (by simp only [List.getElem?_toArray, List.getElem?_cons_zero, List.getElem?_cons_succ]; rfl) (by kernel_rfl) (by kernel_rfl) (by kernel_rfl) (by intro _ _ _ h; exact h) (Or.inl ⟨by rfl, fun w hSw => by (dsimp only at hSw; go_simp; (try with_reducible rfl))⟩) (by assumption) ?_
        simp only [Act.put, List.setIfInBounds_toArray, List.set_cons_zero, List.set_cons_succ]
        refine wpAnyH_take (i := 4) (by simp only [List.getElem?_toArray, List.getElem?_cons_zero, List.getElem?_cons_succ]; rfl) (by kernel_rfl) (by kernel_rfl) (by kernel_rfl) (by intro _ _ _ h; exact h) (Or.inl ⟨by rfl, fun w hSw => by (dsimp only at hSw; go_simp; (try with_reducible rfl))⟩) (by assumption) ?_
        simp only [Act.put, List.setIfInBounds_toArray, List.set_cons_zero, List.set_cons_succ]
        refine wpAnyH_take (i := 5) (by simp only [List.getElem?_toArray, List.getElem?_cons_zero, List.getElem?_cons_succ]; rfl) (by kernel_rfl) (by kernel_rfl) (by kernel_rfl) (by intro _ _ _ h; exact h) (Or.inl ⟨by rfl, fun w hSw => by (dsimp only at hSw; go_simp; (try with_reducible rfl))⟩) (by assumption) ?_
        simp only [Act.put, List.setIfInBounds_toArray, List.set_cons_zero, List.set_cons_succ]
        refine wpAnyH_take (i := 6) (by simp only [List.getElem?_toArray, List.getElem?_cons_zero, List.getElem?_cons_succ]; rfl) (by kernel_rfl) (by kernel_rfl) (by kernel_rfl) (by intro _ _ _ h; exact h) (Or.inl ⟨by rfl, fun w hSw => by (dsimp only at hSw; go_simp; (try with_reducible rfl))⟩) (by assumption) ?_
        simp only [Act.put, List.setIfInBounds_toArray, List.set_cons_zero, List.set_cons_succ]
        refine wpAnyH_take (i := 7) (by simp only [List.getElem?_toArray, List.getElem?_cons_zero, List.getElem?_cons_succ]; rfl) (by kernel_rfl) (by kernel_rfl) (by kernel_rfl) (by intro _ _ _ h; exact h) (Or.inl ⟨by rfl, fun w hSw => by (dsimp only at hSw; go_simp; (try with_reducible rfl))⟩) (by assumption) ?_
        simp only [Act.put, List.setIfInBounds_toArray, List.set_cons_zero, List.set_cons_succ]
        refine wpAnyH_take (i := 8) (by simp only [List.getElem?_toArray, List.getElem?_cons_zero, List.getElem?_cons_succ]; rfl) (by kernel_rfl) (by kernel_rfl) (by kernel_rfl) (by intro _ _ _ h; exact h) (Or.inl ⟨by rfl, fun w hSw => by (dsimp only at hSw; go_simp; (try with_reducible rfl))⟩) (by assumption) ?_
        simp only [Act.put, List.setIfInBounds_toArray, List.set_cons_zero, List.set_cons_succ]
        refine wpAnyH_take (i := 9) (by simp only [List.getElem?_toArray, List.getElem?_cons_zero, List.getElem?_cons_succ]; rfl) (by kernel_rfl) (by kernel_rfl) (by kernel_rfl) (by intro _ _ _ h; exact h) (Or.inl ⟨by rfl, fun w hSw => by (dsimp only at hSw; go_simp; (try with_reducible rfl))⟩) (by assumption) ?_
        simp only [Act.put, List.setIfInBounds_toArray, List.set_cons_zero, List.set_cons_succ]
        refine wpAnyH_take (i := 10) (by simp only [List.getElem?_toArray, List.getElem?_cons_zero, List.getElem?_cons_succ]; rfl) (by kernel_rfl) (by kernel_rfl) (by kernel_rfl) (by intro _ _ _ h; exact h) (Or.inl ⟨by rfl, fun w hSw => by (dsimp only at hSw; go_simp; (try with_reducible rfl))⟩) (by assumption) ?_
        simp only [Act.put, List.setIfInBounds_toArray, List.set_cons_zero, List.set_cons_succ]
        refine wpAnyH_take (i := 11) (by simp only [List.getElem?_toArray, List.getElem?_cons_zero, List.getElem?_cons_succ]; rfl) (by kernel_rfl) (by kernel_rfl) (by kernel_rfl) (by intro _ _ _ h; exact h) (Or.inl ⟨by rfl, fun w hSw => by (dsimp only at hSw; go_simp; (try with_reducible rfl))⟩) (by assumption) ?_
        simp only [Act.put, List.setIfInBounds_toArray, List.set_cons_zero, List.set_cons_succ]
        refine wpAnyH_ready (rs := [12]) (by kernel_rfl) (by simp) ?_
        refine AllReadyH.cons (by simp only [List.getElem?_toArray, List.getElem?_cons_zero, List.getElem?_cons_succ]; rfl) ?_ AllReadyH.nil
        intro K hK
        go_simp
        refine (l9two_spec xk HXK.out (ua, ub, ut) (va, vb, vt) (r1, r2, r3) HR1.out _ huf hvf).mono ?_
        rintro e w3 ⟨rfl, hb3⟩
        have hb3' := undrew hb3
        have hx3 := chain hxV hb3'
        have j0 : w3.cell? ⟨XB, 0, none⟩ = some (.int .i64 xk) := by rw [hb3'.cell (p := ⟨XB, 0, none⟩) (by show XB < V.heap.size; omega)]; exact e0
        have i0' : w3.cell? ⟨XB + 1, 0, none⟩ = some (.int .i64 xa) := by rw [hb3'.cell (p := ⟨XB + 1, 0, none⟩) (by show XB + 1 < V.heap.size; omega)]; exact b0
        have i1' : w3.cell? ⟨XB + 1, 1, none⟩ = some (.int .i64 xb) := by rw [hb3'.cell (p := ⟨XB + 1, 1, none⟩) (by show XB + 1 < V.heap.size; omega)]; exact b1
        have i2' : w3.cell? ⟨XB + 1, 2, none⟩ = some (.string xc) := by rw [hb3'.cell (p := ⟨XB + 1, 2, none⟩) (by show XB + 1 < V.heap.size; omega)]; exact b2
        have y0 : w3.frozen? ⟨XB + 1, 0, none⟩ = false := by rw [hb3'.frozen (p := ⟨XB + 1, 0, none⟩) (by show XB + 1 < V.heap.size; omega)]; exact z0
        have y1 : w3.frozen? ⟨XB + 1, 1, none⟩ = false := by rw [hb3'.frozen (p := ⟨XB + 1, 1, none⟩) (by show XB + 1 < V.heap.size; omega)]; exact z1
        have y2 : w3.frozen? ⟨XB + 1, 2, none⟩ = false := by rw [hb3'.frozen (p := ⟨XB + 1, 2, none⟩) (by show XB + 1 < V.heap.size; omega)]; exact z2
        have h0 : w3.cell? ⟨gp, m' * 3, none⟩ = some (.int .i64 ua) := by rw [hb3'.cell (p := ⟨gp, m' * 3, none⟩) hgV]; exact g0
        have h1 : w3.cell? ⟨gp, m' * 3 + 1, none⟩ = some (.int .i64 ub) := by rw [hb3'.cell (p := ⟨gp, m' * 3 + 1, none⟩) hgV]; exact g1
        have h2 : w3.cell? ⟨gp, m' * 3 + 2, none⟩ = some (.string ut) := by rw [hb3'.cell (p := ⟨gp, m' * 3 + 2, none⟩) hgV]; exact g2
        have l0 : w3.cell? ⟨gp, m1 * 3, none⟩ = some (.int .i64 va) := by rw [hb3'.cell (p := ⟨gp, m1 * 3, none⟩) hgV]; exact k0
        have l1 : w3.cell? ⟨gp, m1 * 3 + 1, none⟩ = some (.int .i64 vb) := by rw [hb3'.cell (p := ⟨gp, m1 * 3 + 1, none⟩) hgV]; exact k1
        have l2 : w3.cell? ⟨gp, m1 * 3 + 2, none⟩ = some (.string vt) := by rw [hb3'.cell (p := ⟨gp, m1 * 3 + 2, none⟩) hgV]; exact k2
        have O3 : Hid (w3.ownsRow W.heap.size 30 3 (.slice (some ⟨gp, 0, none⟩) p cp) p (flat P)) := own_below O2.out hb3'
        clear hb3 hb3' e0 b0 b1 b2 z0 z1 z2 g0 g1 g2 O2 k0 k1 k2
        go_wp2_with fail
        refine hK.out _ _ ?_ (fun hHeld => ?_)
        · (((try dsimp only); (repeat' apply And.intro) <;> first | (go_keep; done) | (simp (disch := first | omega | (simp <;> omega) | fail) [*]; done) | fail))
        clear hK K
        try simp only [Act.put, List.setIfInBounds_toArray, List.set_cons_zero, List.set_cons_succ]
        refine wpAnyH_take (i := 13) (by simp only [List.getElem?_toArray, List.getElem?_cons_zero, List.getElem?_cons_succ]; rfl) (by kernel_rfl) (by kernel_rfl) (by kernel_rfl) (by intro _ _ _ h; exact h) (Or.inl ⟨by rfl, fun w hSw => by (dsimp only at hSw; go_simp; (try with_reducible rfl))⟩) (by assumption) ?_
        simp only [Act.put, List.setIfInBounds_toArray, List.set_cons_zero, List.set_cons_succ]
        refine wpAnyH_take (i := 14) (by simp only [List.getElem?_toArray, List.getElem?_cons_zero, List.getElem?_cons_succ]; rfl) (by kernel_rfl) (by kernel_rfl) (by kernel_rfl) (by intro _ _ _ h; exact h) (Or.inl ⟨by rfl, fun w hSw => by (dsimp only at hSw; go_simp; (try with_reducible rfl))⟩) (by assumption) ?_
        simp only [Act.put, List.setIfInBounds_toArray, List.set_cons_zero, List.set_cons_succ]
        refine wpAnyH_take (i := 15) (by simp only [List.getElem?_toArray, List.getElem?_cons_zero, List.getElem?_cons_succ]; rfl) (by kernel_rfl) (by kernel_rfl) (by kernel_rfl) (by intro _ _ _ h; exact h) (Or.inl ⟨by rfl, fun w hSw => by (dsimp only at hSw; go_simp; (try with_reducible rfl))⟩) (by assumption) ?_
        simp only [Act.put, List.setIfInBounds_toArray, List.set_cons_zero, List.set_cons_succ]
        refine wpAnyH_ready (rs := [16]) (by kernel_rfl) (by simp) ?_
        refine AllReadyH.cons (by simp only [List.getElem?_toArray, List.getElem?_cons_zero, List.getElem?_cons_succ]; rfl) ?_ AllReadyH.nil
        intro K hK
        go_simp
        refine hK.out _ _ ?_ (fun hHeld => ?_)
        · (((try dsimp only); (repeat' apply And.intro) <;> first | (go_keep; done) | (simp (disch := first | omega | (simp <;> omega) | fail) [*]; done) | fail))
        clear hK K
        try simp only [Act.put, List.setIfInBounds_toArray, List.set_cons_zero, List.set_cons_succ]
        refine wpAnyH_take (i := 17) (by simp only [List.getElem?_toArray, List.getElem?_cons_zero, List.getElem?_cons_succ]; rfl) (by kernel_rfl) (by kernel_rfl) (by kernel_rfl) (by intro _ _ _ h; exact h) (Or.inl ⟨by rfl, fun w hSw => by (dsimp only at hSw; go_simp; (try with_reducible rfl))⟩) (by assumption) ?_
        simp only [Act.put, List.setIfInBounds_toArray, List.set_cons_zero, List.set_cons_succ]
        refine wpAnyH_done (by kernel_rfl) ?_ _
        obtain ⟨w4, hw4⟩ : ∃ w4, w4 = ((w3.setCell ⟨XB + 1, 0, none⟩ (.int .i64 r1)).setCell ⟨XB + 1, 1, none⟩ (.int .i64 r2)).setCell ⟨XB + 1, 2, none⟩ (.string ⟨#[]⟩) := ⟨_, rfl⟩
        have O4 : Hid (w4.ownsRow W.heap.size 30 3 (.slice (some ⟨gp, 0, none⟩) m' cp) m' (flat (P.take m'))) := by
          rw [hw4]
          exact own_shrink9 (own_far9 (own_far9 (own_far9 O3.out _ _ _ hgX) _ _ _ hgX) _ _ _ hgX) m' hmle
        have hx4 : Below W.heap.size W w4 := by rw [hw4]; exact ((hx3.setCell (by show W.heap.size ≤ XB + 1; omega) _).setCell (by show W.heap.size ≤ XB + 1; omega) _).setCell (by show W.heap.size ≤ XB + 1; omega) _
        have n0 : w4.cell? ⟨XB + 1, 0, none⟩ = some (.int .i64 r1) := by rw [hw4]; simp [i0']
        have n1 : w4.cell? ⟨XB + 1, 1, none⟩ = some (.int .i64 r2) := by rw [hw4]; simp [i1']
        have n2 : w4.cell? ⟨XB + 1, 2, none⟩ = some (.string ⟨#[]⟩) := by rw [hw4]; simp [i2']
        rw [← hw4]
        clear hw4 O3 hx3 i0' i1' i2' y0 y1 y2 j0 hHeld
        have HLN : Hid ((P.take m').length = m') := by
          have : (P.take m').length = m' := by rw [List.length_take, HP.out]; exact Nat.min_eq_left hmle
          exact this
        have HFt : Hid (Fit (P.take m' ++ [(r1, r2, ⟨#[]⟩)])) := fit_snoc9 hFP.out m' _ (by show (0 : Nat) ≤ maxLen; unfold maxLen; omega)
        by_cases hr3 : r3 = 0
        · subst hr3
          have HFin : Hid (runR C R (l.take (k + 1)) [] = (P.take m' ++ [(r1, r2, ⟨#[]⟩)], 0)) := by
            have := HSt.out
            rw [if_pos rfl] at this
            exact this
          clear HSt
          go_wp2_with (at_builtin; refine wpList_append_own _ rfl _ _ 26 rfl W.heap.size 30 i0 (.agg #[.int .i64 0, .int .i64 0, .string ⟨#[]⟩]) 3 32 Tryz.underlying26 hti hz0 hz1 hz2 rfl (by decide) _ _ _ rfl (O4.out.alloc _) ⟨w4.heap.size, 0, none⟩ 1 1 [.int .i64 r1, .int .i64 r2, .string ⟨#[]⟩] rfl rfl ?c1 ?c2 ?c3 ?c4 ?c5 ?_)
          case c1 =>
            intro j u hj
            match j, hj with
            | 0, hj => simp at hj; subst hj; simp [Addr.add, go_sem]
            | 1, hj => simp at hj; subst hj; simp [Addr.add, go_sem]
            | 2, hj => simp at hj; subst hj; simp [Addr.add, go_sem]
          case c2 => intro u hu; simp at hu; rcases hu with rfl | rfl | rfl <;> rfl
          case c3 => unfold maxLen; omega
          case c4 => omega
          case c5 => have := hx4.size; simp at this ⊢; omega
          intro v' w9 own9 hgrow hnn
          have hx9 : Below W.heap.size W w9 := by
            refine (hx4.alloc hx4.size _).grown hgrow (by have := hx4.size; simp at this ⊢; omega) ?_
            intro kk hkk
            exact (O4.out.lt kk hkk).1
          have hvn2 : v' ≠ .slice none 0 0 := by first | exact hnn | exact fun e => by simp at e hnn
          have SS : Hid (w9.ownsRow W.heap.size 30 3 v' (P.take m' ++ [(r1, r2, (⟨#[]⟩ : ByteArray))]).length (flat (P.take m' ++ [(r1, r2, (⟨#[]⟩ : ByteArray))]))) := by
            rw [flat_snoc9, List.length_append, HLN.out]
            exact own9
          clear own9 hgrow hnn O4
          go_wp2
          go_roundw
          case rel => exact ⟨k + 1, _, by omega, by go_num, HFin, HFt, SS, hvn2, hx9⟩
          case measure => simp [intOf]; omega
        · have hfin : r = (zeroC, r3) := by
            have := HSt.out
            rw [if_neg hr3] at this
            rw [← HV.out]
            exact runR_fault this hr3
          subst hfin
          obtain ⟨⟨Z0, Z1, Z2⟩, F0, F1, F2⟩ := HZ.out
          have hxw := chain hWb hx4
          have s0 := (hx4.cell (p := ⟨w.heap.size, 0, none⟩) (by show w.heap.size < W.heap.size; omega)).trans Z0
          have t0 := (hx4.frozen (p := ⟨w.heap.size, 0, none⟩) (by show w.heap.size < W.heap.size; omega)).trans F0
          have s1 := (hx4.cell (p := ⟨w.heap.size, 1, none⟩) (by show w.heap.size < W.heap.size; omega)).trans Z1
          have t1 := (hx4.frozen (p := ⟨w.heap.size, 1, none⟩) (by show w.heap.size < W.heap.size; omega)).trans F1
          have s2 := (hx4.cell (p := ⟨w.heap.size, 2, none⟩) (by show w.heap.size < W.heap.size; omega)).trans Z2
          have t2 := (hx4.frozen (p := ⟨w.heap.size, 2, none⟩) (by show w.heap.size < W.heap.size; omega)).trans F2
          clear Z0 Z1 Z2 F0 F1 F2
          have hne : (r3 != 0) = true := by simp [hr3]
          clear HSt O4 HFt HLN
          go_wp2
          exact bodyPost_ret (v := .tuple #[.agg #[.int .i64 0, .int .i64 0, .string ⟨#[]⟩], .int .i64 r3]) (by simp [results, Tryz.results46, go_sem, s0, s1, s2]) rfl ⟨rfl, ((hxw.setCell (Nat.le_refl _) _).setCell (Nat.le_refl _) _).setCell (Nat.le_refl _) _⟩
    · have hi1 : ¬ (k : Int) < (n : Int) := by omega
      have ht : l.take k = l := List.take_of_length_le (by rw [HN.out]; omega)
      have hrun := hRun.out
      rw [ht] at hrun
      have hpl := runR_len l [] P 1 hrun HS.out.1
      obtain ⟨c, hc⟩ : ∃ c, P = [c] := by
        match P, hpl with
        | [c], _ => exact ⟨c, rfl⟩
      have hfin : r = (c, 0) := by
        rw [← HV.out]
        unfold sumV
        rw [hrun, hc]
        rfl
      subst hfin
      subst hc
      rcases hO.out.2 with ⟨h', _⟩ | ⟨gp, cp, cur, h', hbg, _, hcp, _⟩
      · exact absurd h' hvn
      subst h'
      have hgw2 : gp < wr.heap.size := (hO.out.lt gp rfl).2
      have hrow2 : RowAt wr (some ⟨gp, 0, none⟩) [c] := own_row (cap := cp) hO.out
      obtain ⟨_, _, hh1, _, g0, g1, g2⟩ := hrow2 0 (by simp)
      simp only [Option.some.injEq, Addr.mk.injEq, and_true] at hh1
      obtain ⟨rfl, rfl⟩ := hh1
      simp only [Nat.zero_add, Nat.zero_mul, List.getElem_cons_zero] at g0 g1 g2
      obtain ⟨xa, xb, xc⟩ := c
      dsimp only at g0 g1 g2
      obtain ⟨⟨Z0, Z1, Z2⟩, F0, F1, F2⟩ := HZ.out
      have hxw := chain hWb hb
      have s0 := (hb.cell (p := ⟨w.heap.size, 0, none⟩) (by show w.heap.size < W.heap.size; omega)).trans Z0
      have t0 := (hb.frozen (p := ⟨w.heap.size, 0, none⟩) (by show w.heap.size < W.heap.size; omega)).trans F0
      have s1 := (hb.cell (p := ⟨w.heap.size, 1, none⟩) (by show w.heap.size < W.heap.size; omega)).trans Z1
      have t1 := (hb.frozen (p := ⟨w.heap.size, 1, none⟩) (by show w.heap.size < W.heap.size; omega)).trans F1
      have s2 := (hb.cell (p := ⟨w.heap.size, 2, none⟩) (by show w.heap.size < W.heap.size; omega)).trans Z2
      have t2 := (hb.frozen (p := ⟨w.heap.size, 2, none⟩) (by show w.heap.size < W.heap.size; omega)).trans F2
      clear Z0 Z1 Z2 F0 F1 F2
      have hgne : gp ≠ w.heap.size := by omega
      clear hrun hRun hO hrow2 hFP
      show Code.wp _ _ _ _ _
      simp only [List.length_cons, List.length_nil, Nat.zero_add]
      go_wp2
      exact bodyPost_ret (v := .tuple #[.agg #[.int .i64 xa, .int .i64 xb, .string xc], .int .i64 0]) (by simp [results, Tryz.results46, go_sem, s0, s1, s2]) rfl ⟨rfl, ((hxw.setCell (Nat.le_refl _) _).setCell (Nat.le_refl _) _).setCell (Nat.le_refl _) _⟩
end Go.Proofs.YthgbjnchhaoceaaGreatDoor
