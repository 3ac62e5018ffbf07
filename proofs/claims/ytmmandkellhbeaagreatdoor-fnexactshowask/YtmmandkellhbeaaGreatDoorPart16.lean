/-
  A part of the proof: ShowI9, SvText.
-/
import Derived.Test.YtmmandkellhbeaaGreatDoorPart14
import Derived.Test.YtmmandkellhbeaaGreatDoorPart15
import Derived.Test.YtmmandkellhbeaaGreatDoorPart10

/-
  The contract of the program's ShowSum.
-/
namespace Go.Proofs.YtmmandkellhbeaaGreatDoor
open Go.ChangeShapes Go.WideShapes Go.ChangeAt Go.RowKit
attribute [local go_sem ↓] Go.wp_at_zero Go.wp_at_succ
attribute [local simp] World.cell?_alloc_past World.cell?_alloc_at World.frozen?_alloc_at cell_far cell_off cell_here World.frozen?_alloc_past

/-- The text that an item makes of a pile. -/
def stepX (P : List ByteArray) (x : TI) : ByteArray :=
  if needsI x.1 = 0 then leafX x else if needsI x.1 = 1 then oneX x.1 (P.getD (P.length - 1) ⟨#[]⟩) else twoX x.1 (P.getD (P.length - 2) ⟨#[]⟩) (P.getD (P.length - 1) ⟨#[]⟩)
theorem showStep_eq (P : List ByteArray) (x : TI) (h : needsI x.1 ≤ P.length) : showStep P x = P.take (P.length - needsI x.1) ++ [stepX P x] := by
  unfold stepX
  rcases needs_012 x.1 with e | e | e
  · unfold showStep
    rw [if_pos e, if_pos e, e, Nat.sub_zero, List.take_length]
  · obtain ⟨m, hm⟩ : ∃ m, P.length = m + 1 := ⟨P.length - 1, by omega⟩
    obtain ⟨R, u, rfl, hR⟩ := snoc_of hm
    rw [showStep_one e, if_neg (by omega), if_pos e, e]
    have e1 : (R ++ [u]).length - 1 = R.length := by simp
    rw [e1]
    simp [List.getD]
  · obtain ⟨m, hm⟩ : ∃ m, P.length = m + 1 + 1 := ⟨P.length - 2, by omega⟩
    obtain ⟨R, v, rfl, hR⟩ := snoc_of hm
    obtain ⟨R, u, rfl, hR2⟩ := snoc_of hR
    rw [showStep_two e, if_neg (by omega), if_neg (by omega), e]
    have e1 : (R ++ [u] ++ [v]).length - 2 = R.length := by simp
    have e2 : (R ++ [u] ++ [v]).length - 1 = R.length + 1 := by simp
    rw [e1, e2]
    have g1 : (R ++ [u] ++ [v]).getD R.length ⟨#[]⟩ = u := by simp [List.getD]
    have g2 : (R ++ [u] ++ [v]).getD (R.length + 1) ⟨#[]⟩ = v := by simp [List.getD]
    rw [g1, g2]
    simp
theorem text_any (x : TI) (hi : itemB x = true) (P : List ByteArray) (p q : Nat) (hp : P.length = p) (hq : needsI x.1 = q) (hle : q ≤ p) (hsz : sizesP P ≤ 1048576) (g pc : Nat) (pa : Option Addr) (hpa : 0 < q → pa = some ⟨g, p - q, none⟩) (w : World) (hrow : ∀ j (h : j < P.length), w.cell? ⟨g, j, none⟩ = some (.string P[j])) (hw : PowAt w) (he : ErrAt w) (hs : SgnAt w) (z : ByteArray) (hz : stepX P x = z) :
    Calls Tryz.prog 115 #[.agg #[.int .i64 x.1, .int .i64 x.2.1.1, .int .i64 x.2.1.2.1, .string x.2.1.2.2, .string x.2.2], .slice pa q pc] w fun e w' => e = .returned (.string z) ∧ Below w.heap.size w w' := by
  subst hp
  unfold stepX at hz
  rcases needs_012 x.1 with e | e | e
  · obtain rfl : 0 = q := e.symm.trans hq
    rw [if_pos e] at hz
    exact text0_impl x hi (leafX_size hi e).1 pa pc w hw he hs z hz
  · obtain rfl : 1 = q := e.symm.trans hq
    rw [if_neg (by omega), if_pos e] at hz
    have hk : x.1 = 11 ∨ x.1 = 12 := by
      have h1 : x.1 ≠ 1 := fun h => by rw [h] at e; exact absurd e (by decide)
      have h2 : x.1 ≠ 2 := fun h => by rw [h] at e; exact absurd e (by decide)
      have h3 := item_op hi h1 h2
      unfold needsI at e
      split at e
      · cases e
      · split at e
        · omega
        · cases e
    have hlt : P.length - 1 < P.length := by omega
    have hg : P.getD (P.length - 1) ⟨#[]⟩ = P[P.length - 1] := by simp [List.getD, hlt]
    rw [hg] at hz
    rw [hpa (by omega)]
    have := sizesP_get P _ hlt
    exact text1_impl x hk g _ pc _ w (hrow _ hlt) (by omega) hs z hz
  · obtain rfl : 2 = q := e.symm.trans hq
    rw [if_neg (by omega), if_neg (by omega)] at hz
    have hk : 3 ≤ x.1 ∧ x.1 ≤ 10 := by
      have h1 : x.1 ≠ 1 := fun h => by rw [h] at e; exact absurd e (by decide)
      have h2 : x.1 ≠ 2 := fun h => by rw [h] at e; exact absurd e (by decide)
      have h3 := item_op hi h1 h2
      unfold needsI at e
      split at e
      · cases e
      · split at e
        · cases e
        · omega
    have hlt : P.length - 1 < P.length := by omega
    have hlt2 : P.length - 2 < P.length := by omega
    have hg : P.getD (P.length - 1) ⟨#[]⟩ = P[P.length - 1] := by simp [List.getD, hlt]
    have hg2 : P.getD (P.length - 2) ⟨#[]⟩ = P[P.length - 2] := by simp [List.getD, hlt2]
    rw [hg, hg2] at hz
    rw [hpa (by omega)]
    have s1 := sizesP_get P _ hlt
    have s2 := sizesP_get P _ hlt2
    have r1 := hrow _ hlt
    have e1 : P.length - 2 + 1 = P.length - 1 := by omega
    exact text2_impl x hk g (P.length - 2) pc _ _ w (hrow _ hlt2) (by rw [e1]; exact r1) (by omega) (by omega) hs z hz
theorem showP_size : ∀ (l : List TI) (P : List ByteArray) (m : Nat), heapN l P.length = some m → sizesP (showP l P) ≤ sizesP P + 14 * l.length
  | [], P, m, _ => by simp [showP_nil]
  | x :: l, P, m, h => by
    unfold heapN at h
    split at h
    · rename_i hc
      have h1 := showStep_size (P := P) hc.1 hc.2
      have h2 := showP_size l (showStep P x) m (by rw [showStep_len P x hc.2]; exact h)
      show sizesP (showP l (showStep P x)) ≤ _
      simp only [List.length_cons]
      omega
    · cases h
set_option maxRecDepth 100000 in
set_option maxHeartbeats 4000000 in
theorem showsum_impl (a : Option Addr) (cap : Nat) (l : List TI) (n : Nat) (hnl : l.length = n) (w : World) (hrow : ItmAt w a l) (hfit : FitI l) (hm : n ≤ maxLen) (hp : PowAt w) (he : ErrAt w) (hs : SgnAt w) (y : ByteArray) (hy : sumT l = y) :
    Calls Tryz.prog 92 #[.slice a n cap] w fun e w' => e = .returned (.string y) ∧ Below w.heap.size w w' := by
  obtain ⟨i0, hti, hz0, hz1, hz2⟩ := info_parts infoStr
  have HR : Hid (ItmAt w a l) := hrow
  have HF : Hid (FitI l) := hfit
  have HP : Hid (PowAt w) := hp
  have HE : Hid (ErrAt w) := he
  have HSg : Hid (SgnAt w) := hs
  have HL : Hid (l.length = n) := hnl
  have HY : Hid (sumT l = y) := hy
  obtain ⟨b, hb⟩ : ∃ b, sumB l = b := ⟨_, rfl⟩
  have HB : Hid (sumB l = b) := hb
  clear hrow hfit hp he hs hnl hy hb
  go_enter Tryz.func92, Tryz.ntmps92
  go_wp2_with fail
  refine (sum_impl a cap l n HL.out _ HR.out HF.out hm HP.out HE.out b HB.out).mono ?_
  rintro e w1 ⟨rfl, hb1⟩
  cases b
  · obtain rfl : y = ⟨#[]⟩ := by rw [← HY.out]; unfold sumT; rw [if_neg (by rw [HB.out]; decide)]
    go_wp2
    go_ret
    exact ⟨rfl, hb1⟩
  have hsum := HB.out
  unfold sumB at hsum
  simp only [Bool.and_eq_true, decide_eq_true_eq] at hsum
  obtain ⟨hh1, h40⟩ := hsum
  rw [HL.out] at h40
  have HH : Hid (heapN l 0 = some 1) := hh1
  clear hh1
  go_wp2
  have hb2 : Below w.heap.size w (w1.alloc (.cells #[] 9)) := hb1.alloc hb1.size _
  have own0 : Hid ((w1.alloc (.cells #[] 9)).ownsRow w.heap.size 9 1 (.slice (some ⟨w1.heap.size, 0, none⟩) 0 0) (showP (l.take 0) []).length ((showP (l.take 0) []).map Value.string)) :=
    ⟨rfl, .inr ⟨w1.heap.size, 0, #[], rfl, hb1.size, by show (w1.heap.push _)[w1.heap.size]? = _; simp, Nat.le_refl _, by unfold maxLen; omega, rfl, rfl⟩⟩
  go_loopw [3, 14] (fun v kk wr => ∃ k : Nat, k ≤ n ∧ kk = .int .i64 k ∧ Hid (wr.ownsRow w.heap.size 9 1 v (showP (l.take k) []).length ((showP (l.take k) []).map Value.string)) ∧ Below w.heap.size w wr ∧ v ≠ .slice none 0 0) (fun _ kk _ => n - (intOf kk).toNat)
  case atStart => exact ⟨0, Nat.zero_le _, rfl, own0, hb2, by simp⟩
  case round =>
    obtain ⟨k, hk, rfl, hO, hb, hvn⟩ := hrel
    clear own0 hb2 hb1
    by_cases hlt : k < n
    · have hlk : k < l.length := by rw [HL.out]; exact hlt
      obtain ⟨g, o, rfl, hgw, c0, c1, c2, c3, c4⟩ := HR.out.below hb k hlk
      have hi0 : (0 : Int) ≤ (k : Int) := by omega
      have hi1 : (k : Int) < (n : Int) := by omega
      obtain ⟨p, hh, hit, hnd⟩ := heapN_take HH.out k hlk
      have hpl : (showP (l.take k) []).length = p := showP_len (l.take k) [] p hh
      have hsz : sizesP (showP (l.take k) []) ≤ 560 := by
        have h1 := showP_size (l.take k) [] p hh
        rw [List.length_take] at h1
        have h2 : sizesP [] = 0 := rfl
        omega
      have hpk : p ≤ k := by
        have := heapN_le _ _ _ hh
        rw [List.length_take] at this
        omega
      have hsn : showP (l.take (k + 1)) [] = showStep (showP (l.take k) []) l[k] := by
        rw [List.take_succ_eq_append_getElem hlk, showP_append, showP_one]
      have hOO := hO.out
      rw [hpl] at hOO
      generalize showP (l.take k) [] = P at hpl hsz hsn hOO
      obtain ⟨q, hq⟩ : ∃ q, needsI l[k].1 = q := ⟨_, rfl⟩
      have hqp : needsP l[k].1 = q := by rw [needsP_ok hit]; exact hq
      rw [hq] at hnd
      obtain ⟨z, hz⟩ : ∃ z, stepX P l[k] = z := ⟨_, rfl⟩
      obtain ⟨fr, hfr⟩ : ∃ fr, p - q = fr := ⟨_, rfl⟩
      have HFin : Hid (showP (l.take (k + 1)) [] = P.take fr ++ [z]) := by
        have : showP (l.take (k + 1)) [] = P.take fr ++ [z] := by
          rw [hsn, showStep_eq P _ (by rw [hq, hpl]; exact hnd), hq, hpl, hfr, hz]
        exact this
      rcases hOO.2 with ⟨h', _⟩ | ⟨gp, cp, cur, h', hbg, hcur, hcap, hcpm, _⟩
      · exact absurd h' hvn
      subst h'
      have HIT : Hid (itemB l[k] = true) := hit
      have HQ : Hid (needsI l[k].1 = q) := hq
      have HQP : Hid (needsP l[k].1 = q) := hqp
      have HZ : Hid (stepX P l[k] = z) := hz
      have HPL : Hid (P.length = p) := hpl
      have HSZ : Hid (sizesP P ≤ 1048576) := by
        have : sizesP P ≤ 1048576 := by omega
        exact this
      have hfr2 : (p : Int) - (q : Int) = (fr : Int) := by omega
      have hfr0 : (0 : Int) ≤ (fr : Int) := by omega
      have hfr3 : (fr : Int) ≤ (p : Int) := by omega
      have hpc3 : (p : Int) ≤ (cp : Int) := by omega
      have hfc3 : (fr : Int) ≤ (cp : Int) := by omega
      have hpf : (p : Int) - (fr : Int) = (q : Int) := by omega
      have hfp : fr ≤ p := by omega
      have hpm : (p : Int) ≤ 9223372036854775807 := by unfold maxLen at hcpm; omega
      have hqm : q ≤ 2 := by rw [← hqp]; exact needsP_le _
      clear hit hq hqp hz hsn hh hcur hsz hpl
      generalize l[k] = x at c0 c1 c2 c3 c4 HIT HQ HQP HZ
      obtain ⟨xk, ⟨xa, xb, xc⟩, xs⟩ := x
      dsimp only at c0 c1 c2 c3 c4 HQ HQP
      obtain ⟨V, hV⟩ : ∃ V, V = wr.alloc (.cells #[.int .i64 xk, .int .i64 xa, .int .i64 xb, .string xc, .string xs] 79) := ⟨_, rfl⟩
      have hbV : Below wr.heap.size wr V := by rw [hV]; exact (Below.refl _ _).alloc (Nat.le_refl _) _
      have hX5 := box5 (w := wr) (w1 := V) (a := .int .i64 xk) (b := .int .i64 xa) (c := .int .i64 xb) (d := .string xc) (e := .string xs) (T := 79) (by rw [hV]; exact Below.refl _ _)
      obtain ⟨e0, e1, e2, e3, e4, eB⟩ := hX5
      have O2 : Hid (V.ownsRow w.heap.size 9 1 (.slice (some ⟨gp, 0, none⟩) p cp) p (P.map Value.string)) := own_below hOO hbV
      have hxV := chain hb hbV
      go_wp2_with fail
      rw [← hV]
      obtain ⟨XB, hXB⟩ : ∃ XB, wr.heap.size = XB := ⟨_, rfl⟩
      rw [hXB] at e0 e1 e2 e3 e4 eB ⊢
      clear hV hbV hOO hO c0 c1 c2 c3 c4 hb
      refine (needs_impl xk q HQP.out _).mono ?_
      rintro e w2 ⟨rfl, hw2⟩
      replace hw2 := hw2.symm
      subst hw2
      go_wp2_with fail
      refine wp_region_held_drew (S := (fun w' => w'.cell? ⟨XB, 0, none⟩ = some (.int .i64 xk) ∧ w'.cell? ⟨XB, 1, none⟩ = some (.int .i64 xa) ∧ w'.cell? ⟨XB, 2, none⟩ = some (.int .i64 xb) ∧ w'.cell? ⟨XB, 3, none⟩ = some (.string xc) ∧ w'.cell? ⟨XB, 4, none⟩ = some (.string xs))) (by kernel_rfl) ?_ (fun hHeld => ?_)
      · (((try dsimp only); (repeat' apply And.intro) <;> first | (go_keep; done) | (simp (disch := first | omega | (simp <;> omega) | fail) [*]; done) | fail))
      refine wpAnyH_take (i := 0) (by simp only [List.getElem?_toArray, List.getElem?_cons_zero]; rfl) (by kernel_rfl) (by kernel_rfl) (by kernel_rfl) (by intro _ _ _ h; exact h) (Or.inl ⟨by rfl, fun w hSw => by (dsimp only at hSw; go_simp; (try with_reducible rfl))⟩) (by assumption) ?_
      simp only [Act.put, List.setIfInBounds_toArray, List.set_cons_zero, List.set_cons_succ]
      refine wpAnyH_take (i := 1) (by simp only [List.getElem?_toArray, List.getElem?_cons_zero, List.getElem?_cons_succ]; rfl) (by kernel_rfl) (by kernel_rfl) (by kernel_rfl) (by intro _ _ _ h; exact h) (Or.inl ⟨by rfl, fun w hSw => by (dsimp only at hSw; go_simp; (try with_reducible rfl))⟩) (by assumption) ?_
      simp only [Act.put, List.setIfInBounds_toArray, List.set_cons_zero, List.set_cons_succ]
      refine wpAnyH_take (i := 2) (by simp only [List.getElem?_toArray, List.getElem?_cons_zero, List.getElem?_cons_succ]; rfl) (by kernel_rfl) (by kernel_rfl) (by kernel_rfl) (by intro _ _ _ h; exact h) (Or.inl ⟨by rfl, fun w hSw => by (dsimp only at hSw; go_simp; (try with_reducible rfl))⟩) (by assumption) ?_
      simp only [Act.put, List.setIfInBounds_toArray, List.set_cons_zero, List.set_cons_succ]
      refine wpAnyH_take (i := 3) (by simp only [List.getElem?_toArray, List.getElem?_cons_zero, List.getElem?_cons_succ]; rfl) (by kernel_rfl) (by kernel_rfl) (by kernel_rfl) (by intro _ _ _ h; exact h) (Or.inl ⟨by rfl, fun w hSw => by (dsimp only at hSw; go_simp; (try with_reducible rfl))⟩) (by assumption) ?_
      simp only [Act.put, List.setIfInBounds_toArray, List.set_cons_zero, List.set_cons_succ]
      refine wpAnyH_ready (rs := [4]) (by kernel_rfl) (by simp) ?_
      refine AllReadyH.cons (by simp only [List.getElem?_toArray, List.getElem?_cons_zero, List.getElem?_cons_succ]; rfl) ?_ AllReadyH.nil
      intro K hK
      go_simp
      have hpq : p - fr = q := by omega
      rw [hpq]
      obtain ⟨pa, hpa⟩ : ∃ pa : Option Addr, (if cp = fr then some ⟨gp, 0, none⟩ else some ⟨gp, fr, none⟩) = pa := ⟨_, rfl⟩
      rw [hpa]
      have HPA : Hid (0 < q → pa = some ⟨gp, p - q, none⟩) := by
        have : 0 < q → pa = some ⟨gp, p - q, none⟩ := fun h0 => by rw [← hpa, if_neg (by omega), hfr]
        exact this
      clear hpa
      have hdr : Below V.heap.size V V.drew := (Below.refl _ _).drew
      have O3 : Hid (V.drew.ownsRow w.heap.size 9 1 (.slice (some ⟨gp, 0, none⟩) p cp) p (P.map Value.string)) := own_below O2.out hdr
      have hxd : Below w.heap.size w V.drew := chain hxV hdr
      refine (text_any (xk, (xa, xb, xc), xs) HIT.out P p q HPL.out HQ.out hnd HSZ.out gp _ _ HPA.out V.drew (fun j hj => by
        have := O3.out.cellAt j (by rw [← HPL.out]; simpa using hj)
        rw [this]; simp) (HP.out.below hxd) (HE.out.below hxd) (HSg.out.below hxd) z HZ.out).mono ?_
      rintro e w3 ⟨rfl, hb3⟩
      have hb3' := undrew hb3
      obtain ⟨e0, e1, e2, e3, e4, eB⟩ := later5 hb3' ⟨e0, e1, e2, e3, e4, eB⟩
      have hx3 := chain hxV hb3'
      have O4 : Hid (w3.ownsRow w.heap.size 9 1 (.slice (some ⟨gp, 0, none⟩) p cp) p (P.map Value.string)) := own_below O2.out hb3'
      clear O2 O3 hb3 hb3' hxV hdr hxd
      go_wp2_with fail
      refine hK.out _ _ ?_ (fun hHeld => ?_)
      · (((try dsimp only); (repeat' apply And.intro) <;> first | (go_keep; done) | (simp (disch := first | omega | (simp <;> omega) | fail) [*]; done) | fail))
      clear hK K
      try simp only [Act.put, List.setIfInBounds_toArray, List.set_cons_zero, List.set_cons_succ]
      refine wpAnyH_take (i := 5) (by simp only [List.getElem?_toArray, List.getElem?_cons_zero, List.getElem?_cons_succ]; rfl) (by kernel_rfl) (by kernel_rfl) (by kernel_rfl) (by intro _ _ _ h; exact h) (Or.inl ⟨by rfl, fun w hSw => by (dsimp only at hSw; go_simp; (try with_reducible rfl))⟩) (by assumption) ?_
      simp only [Act.put, List.setIfInBounds_toArray, List.set_cons_zero, List.set_cons_succ]
      refine wpAnyH_done (by kernel_rfl) ?_ _
      clear e0 e1 e2 e3 e4 eB hHeld
      have O5 : Hid (w3.ownsRow w.heap.size 9 1 (.slice (some ⟨gp, 0, none⟩) fr cp) fr ((P.take fr).map Value.string)) := own_shrink O4.out fr hfp
      clear O4
      go_wp2_with (at_builtin; refine wpList_append_own _ rfl _ _ 22 rfl w.heap.size 9 i0 (.string ⟨#[]⟩) 1 16 Tryz.underlying22 hti hz0 hz1 hz2 rfl (by decide) _ _ _ rfl (O5.out.alloc _) ⟨w3.heap.size, 0, none⟩ 1 1 [.string z] rfl rfl (cells1S w3 _) (by intro u hu; simp at hu; subst hu; rfl) (by unfold maxLen; omega) (by omega) (by have := hx3.size; simp; omega) ?_)
      intro v' w4 own4 hgrow hnn
      have hx4 : Below w.heap.size w w4 := by
        refine (hx3.alloc hx3.size _).grown hgrow (by have := hx3.size; simp; omega) ?_
        intro kk hkk
        exact (O5.out.lt kk hkk).1
      have hvn2 : v' ≠ .slice none 0 0 := by first | exact hnn | exact fun e => by simp at e hnn
      have SS : Hid (w4.ownsRow w.heap.size 9 1 v' (showP (l.take (k + 1)) []).length ((showP (l.take (k + 1)) []).map Value.string)) := by
        have hl : (P.take fr).length = fr := by rw [List.length_take, HPL.out]; omega
        have : w4.ownsRow w.heap.size 9 1 v' (showP (l.take (k + 1)) []).length ((showP (l.take (k + 1)) []).map Value.string) := by
          rw [HFin.out, List.length_append, hl, List.map_append, List.map_take]
          exact own4
        exact this
      clear own4 hgrow hnn O5
      go_wp2
      go_roundw
      case rel => exact ⟨k + 1, by omega, by go_num, SS, hx4, hvn2⟩
      case measure => simp [intOf]; omega
    · have hkl : k = n := by omega
      subst hkl
      have hi1 : ¬ (k : Int) < (k : Int) := by omega
      have hO2 := hO.out
      rw [List.take_of_length_le (by rw [HL.out]; exact Nat.le_refl _)] at hO2
      have hl1 := showP_len l [] 1 HH.out
      have hy2 := HY.out
      unfold sumT at hy2
      rw [if_pos HB.out] at hy2
      rw [hl1] at hO2
      obtain ⟨R, u, hP, hR⟩ := snoc_of (m := 0) hl1
      obtain rfl : R = [] := List.length_eq_zero_iff.1 hR
      rw [hP] at hO2 hy2
      obtain rfl : u = y := hy2
      rcases hO2.2 with ⟨h', _⟩ | ⟨gp, cp, cur, h', hbg, _⟩
      · exact absurd h' hvn
      subst h'
      have hc := hO2.cellAt 0 (by omega)
      simp only [List.nil_append, List.map_cons, List.map_nil, List.getElem?_cons_zero] at hc
      clear hO hO2 HY hP hl1 HH
      go_wp2
      go_ret
      exact ⟨rfl, hb⟩
end Go.Proofs.YtmmandkellhbeaaGreatDoor

/-
  The text of a sieve without any program: it is its pieces that are not empty, with blanks between; how long it is.
-/
namespace Go.Proofs.YtmmandkellhbeaaGreatDoor

def downT : ByteArray := ⟨#[100, 111, 119, 110]⟩
def numT (n : Int) : ByteArray := ⟨(Lib.itoa n).toArray⟩
/-- The pieces of a sieve's text. -/
def piecesF (f : FS) (s : SV) : List ByteArray :=
  (((f.word :: s.name :: s.names) ++ [f.ahead, sumT s.sum]) ++ (if s.down = true then [downT] else [])) ++ (if 0 < f.cnt then [numT s.count, numT s.skip] else [])
theorem full_name {s : ByteArray} (h : nameK s = true) : fullB s = true := by
  unfold fullB
  have := (nameK_word h).2
  rw [Bool.not_eq_true', decide_eq_false_iff_not]
  rintro rfl
  exact this rfl
theorem sumT_nil : sumT [] = ⟨#[]⟩ := rfl
theorem textSum_blank : textSum [32] = none := by rfl
theorem sumT_sizeV (l : List TI) : (sumT l).size ≤ 14 * l.length := by
  unfold sumT
  split
  · rename_i h
    unfold sumB at h
    simp only [Bool.and_eq_true, decide_eq_true_eq] at h
    have h1 := showP_size l [] 1 h.1
    have h2 := showP_len l [] 1 h.1
    have h0 : sizesP [] = 0 := rfl
    obtain ⟨R, u, hP, hR⟩ := snoc_of (m := 0) h2
    obtain rfl : R = [] := List.length_eq_zero_iff.1 hR
    rw [hP] at h1 ⊢
    rw [List.nil_append, sizesP_one] at h1
    show u.size ≤ _
    omega
  · exact Nat.zero_le _
theorem sumB_len {l : List TI} (h : sumB l = true) : l.length ≤ 40 := by
  unfold sumB at h
  simp only [Bool.and_eq_true, decide_eq_true_eq] at h
  omega
theorem sumL_le {l : List TI} (h : sumB l = true) : (sumL l).length ≤ 560 := by
  have h1 := sumT_sizeV l
  have h2 := sumB_len h
  rw [Lib.size_eq] at h1
  unfold sumL
  omega
theorem full_sum {l : List TI} (h : sumB l = true) : fullB (sumT l) = true := by
  unfold fullB
  rw [Bool.not_eq_true', decide_eq_false_iff_not]
  intro e
  have h1 := textSum_show h (b := []) (.inl rfl) (by have := sumL_le h; omega)
  have h2 : sumL l = [] := by unfold sumL; rw [e]
  rw [h2] at h1
  change textSum [32] = some l at h1
  rw [textSum_blank] at h1
  cases h1
theorem full_num {n : Int} (h : in1000 n = true) : fullB (numT n) = true := by
  unfold fullB
  rw [Bool.not_eq_true', decide_eq_false_iff_not]
  intro e
  refine (itoa_free h).2.1 ?_
  have := congrArg (fun b : ByteArray => b.data.toList) e
  simpa [numT] using this
theorem fullP_cons (x : ByteArray) (l : List ByteArray) : fullP (x :: l) = if fullB x = true then x :: fullP l else fullP l := by
  unfold fullP; rw [List.filter_cons]
theorem fullP_nil : fullP [] = [] := rfl
theorem fullP_app (a b : List ByteArray) : fullP (a ++ b) = fullP a ++ fullP b := List.filter_append ..
theorem fullB_nil : fullB ⟨#[]⟩ = false := by decide
theorem full_names {N : List ByteArray} (h : N.all nameK = true) : fullP N = N := by
  refine fullP_all ?_
  rw [List.all_eq_true] at h ⊢
  exact fun x hx => full_name (h x hx)
/-- A right sieve's text is its pieces. -/
theorem text_form (s : SV) (h : sieveB s = true) : Lib.join (rawT (fullP (piecesF (formF s.kind) s))) [32] = showS s := by
  obtain ⟨k, nm, N, S, dn, ct, sk⟩ := s
  have w1 : fullB ⟨#[102, 114, 111, 109]⟩ = true := by decide
  have w2 : fullB ⟨#[119, 104, 101, 114, 101]⟩ = true := by decide
  have w3 : fullB ⟨#[108, 101, 116]⟩ = true := by decide
  have w4 : fullB ⟨#[107, 101, 101, 112]⟩ = true := by decide
  have w5 : fullB ⟨#[106, 111, 105, 110]⟩ = true := by decide
  have w6 : fullB ⟨#[108, 101, 102, 116]⟩ = true := by decide
  have w7 : fullB ⟨#[103, 114, 111, 117, 112]⟩ = true := by decide
  have w8 : fullB ⟨#[111, 114, 100, 101, 114]⟩ = true := by decide
  have w9 : fullB ⟨#[108, 105, 109, 105, 116]⟩ = true := by decide
  have w10 : fullB ⟨#[111, 110, 99, 101]⟩ = true := by decide
  have wE : fullB ⟨#[61]⟩ = true := by decide
  have wO : fullB ⟨#[111, 110]⟩ = true := by decide
  have wD : fullB downT = true := by decide
  have hJ : ∀ a b : List UInt8, Lib.join [a, b] [32] = a ++ 32 :: b := fun a b => by simp [Lib.join_cons, Lib.joinTail]
  have hJ3 : ∀ a b c : List UInt8, Lib.join [a, b, c] [32] = a ++ 32 :: (b ++ 32 :: c) := fun a b c => by simp [Lib.join_cons, Lib.joinTail]
  have hJ4 : ∀ a b c d : List UInt8, Lib.join [a, b, c, d] [32] = a ++ 32 :: (b ++ 32 :: (c ++ 32 :: d)) := fun a b c d => by simp [Lib.join_cons, Lib.joinTail]
  rcases sieve_kind h with e | e | e | e | e | e | e | e | e | e <;> (dsimp only at e; subst e; simp [sieveB, bareB, nameS, sumS, listS] at h)
  · obtain ⟨⟨rfl, rfl⟩, ⟨rfl, rfl, rfl⟩, hn⟩ := h
    show Lib.join (rawT (fullP ((([⟨#[102, 114, 111, 109]⟩, nm] ++ [⟨#[]⟩, ⟨#[]⟩]) ++ []) ++ []))) [32] = _
    simp only [List.append_nil, List.cons_append, List.nil_append, fullP_cons, fullP_nil, w1, full_name hn, fullB_nil, if_true, Bool.false_eq_true, if_false]
    exact hJ _ _
  · obtain ⟨⟨rfl, rfl⟩, ⟨rfl, rfl, rfl⟩, hn⟩ := h
    show Lib.join (rawT (fullP ((([⟨#[119, 104, 101, 114, 101]⟩, ⟨#[]⟩] ++ [⟨#[]⟩, sumT S]) ++ []) ++ []))) [32] = _
    simp only [List.append_nil, List.cons_append, List.nil_append, fullP_cons, fullP_nil, w2, full_sum hn, fullB_nil, if_true, Bool.false_eq_true, if_false]
    exact hJ _ _
  · obtain ⟨rfl, ⟨rfl, rfl, rfl⟩, hn, hs⟩ := h
    show Lib.join (rawT (fullP ((([⟨#[108, 101, 116]⟩, nm] ++ [⟨#[61]⟩, sumT S]) ++ []) ++ []))) [32] = _
    simp only [List.append_nil, List.cons_append, List.nil_append, fullP_cons, fullP_nil, w3, wE, full_name hn, full_sum hs, if_true]
    exact hJ4 _ _ _ _
  · obtain ⟨⟨⟨rfl, rfl⟩, rfl, rfl, rfl⟩, hN⟩ := h
    have hN1 : N.all nameK = true := by
      unfold names10 at hN
      rw [Bool.and_eq_true] at hN
      exact hN.1
    show Lib.join (rawT (fullP (((((⟨#[107, 101, 101, 112]⟩ : ByteArray) :: ⟨#[]⟩ :: N) ++ [⟨#[]⟩, ⟨#[]⟩]) ++ []) ++ []))) [32] = _
    rw [List.append_nil, List.append_nil, fullP_app, fullP_cons, if_pos w4, fullP_cons, fullB_nil, if_neg (by decide), full_names hN1, fullP_cons, fullB_nil, if_neg (by decide), fullP_cons, fullB_nil, if_neg (by decide), fullP_nil, List.append_nil]
    rfl
  · obtain ⟨rfl, ⟨rfl, rfl, rfl⟩, hn, hs⟩ := h
    show Lib.join (rawT (fullP ((([⟨#[106, 111, 105, 110]⟩, nm] ++ [⟨#[111, 110]⟩, sumT S]) ++ []) ++ []))) [32] = _
    simp only [List.append_nil, List.cons_append, List.nil_append, fullP_cons, fullP_nil, w5, wO, full_name hn, full_sum hs, if_true]
    exact hJ4 _ _ _ _
  · obtain ⟨rfl, ⟨rfl, rfl, rfl⟩, hn, hs⟩ := h
    show Lib.join (rawT (fullP ((([⟨#[108, 101, 102, 116]⟩, nm] ++ [⟨#[111, 110]⟩, sumT S]) ++ []) ++ []))) [32] = _
    simp only [List.append_nil, List.cons_append, List.nil_append, fullP_cons, fullP_nil, w6, wO, full_name hn, full_sum hs, if_true]
    exact hJ4 _ _ _ _
  · obtain ⟨⟨⟨rfl, rfl⟩, rfl, rfl, rfl⟩, hN⟩ := h
    have hN1 : N.all nameK = true := by
      unfold names10 at hN
      rw [Bool.and_eq_true] at hN
      exact hN.1
    show Lib.join (rawT (fullP (((((⟨#[103, 114, 111, 117, 112]⟩ : ByteArray) :: ⟨#[]⟩ :: N) ++ [⟨#[]⟩, ⟨#[]⟩]) ++ []) ++ []))) [32] = _
    rw [List.append_nil, List.append_nil, fullP_app, fullP_cons, if_pos w7, fullP_cons, fullB_nil, if_neg (by decide), full_names hN1, fullP_cons, fullB_nil, if_neg (by decide), fullP_cons, fullB_nil, if_neg (by decide), fullP_nil, List.append_nil]
    rfl
  · obtain ⟨⟨rfl, rfl⟩, ⟨rfl, rfl⟩, hn⟩ := h
    cases dn
    · show Lib.join (rawT (fullP ((([⟨#[111, 114, 100, 101, 114]⟩, nm] ++ [⟨#[]⟩, ⟨#[]⟩]) ++ []) ++ []))) [32] = _
      simp only [List.append_nil, List.cons_append, List.nil_append, fullP_cons, fullP_nil, w8, full_name hn, fullB_nil, if_true, Bool.false_eq_true, if_false]
      exact hJ _ _
    · show Lib.join (rawT (fullP ((([⟨#[111, 114, 100, 101, 114]⟩, nm] ++ [⟨#[]⟩, ⟨#[]⟩]) ++ [downT]) ++ []))) [32] = _
      simp only [List.append_nil, List.cons_append, List.nil_append, fullP_cons, fullP_nil, w8, wD, full_name hn, fullB_nil, if_true, Bool.false_eq_true, if_false]
      exact hJ3 _ _ _
  · obtain ⟨⟨⟨rfl, rfl, rfl⟩, rfl⟩, hc, hk⟩ := h
    show Lib.join (rawT (fullP ((([⟨#[108, 105, 109, 105, 116]⟩, ⟨#[]⟩] ++ [⟨#[]⟩, ⟨#[]⟩]) ++ []) ++ [numT ct, numT sk]))) [32] = _
    simp only [List.append_nil, List.cons_append, List.nil_append, fullP_cons, fullP_nil, w9, full_num hc, full_num hk, fullB_nil, if_true, Bool.false_eq_true, if_false]
    exact hJ3 _ _ _
  · obtain ⟨⟨rfl, rfl, rfl⟩, rfl, rfl, rfl⟩ := h
    show Lib.join (rawT (fullP ((([⟨#[111, 110, 99, 101]⟩, ⟨#[]⟩] ++ [⟨#[]⟩, ⟨#[]⟩]) ++ []) ++ []))) [32] = _
    simp only [List.append_nil, List.cons_append, List.nil_append, fullP_cons, fullP_nil, w10, fullB_nil, if_true, Bool.false_eq_true, if_false]
    exact Lib.join_one _ _
theorem name_len {s : ByteArray} (h : nameK s = true) : s.size ≤ 6 := by
  have := nameK_nameB h
  unfold nameB at this
  simp only [Bool.and_eq_true, decide_eq_true_eq] at this
  omega
theorem itoa_len10 {n : Int} (h : in1000 n = true) : (Lib.itoa n).length ≤ 10 := by
  unfold in1000 at h
  simp only [Bool.and_eq_true, decide_eq_true_eq] at h
  unfold Lib.itoa
  rw [if_neg (by omega)]
  exact decDigits_len _ (by omega)
theorem wordS_len (k : Int) : (wordS k).length ≤ 5 := by
  unfold wordS
  repeat' split
  all_goals decide
/-- A right sieve's text is short. -/
theorem showS_len (s : SV) (h : sieveB s = true) : (showS s).length ≤ 700 := by
  obtain ⟨k, nm, N, S, dn, ct, sk⟩ := s
  have hj : ∀ lo hi, names10 N lo hi = true → hi ≤ 6 → ∀ w : List UInt8, w.length ≤ 5 → (Lib.join (w :: N.map (·.data.toList)) [32]).length ≤ 700 := by
    intro lo hi hN hh w hw
    unfold names10 namesB at hN
    simp only [Bool.and_eq_true, decide_eq_true_eq] at hN
    have h1 := join_len (w :: N.map (·.data.toList)) (by
      intro x hx
      rcases List.mem_cons.1 hx with rfl | hx
      · omega
      · obtain ⟨u, hu, rfl⟩ := List.mem_map.1 hx
        have := name_len (List.all_eq_true.1 hN.1 u hu)
        rw [Lib.size_eq] at this
        omega)
    rw [List.length_cons, List.length_map] at h1
    omega
  rcases sieve_kind h with e | e | e | e | e | e | e | e | e | e <;> (dsimp only at e; subst e; simp [sieveB, bareB, nameS, sumS, listS] at h)
  · obtain ⟨⟨rfl, rfl⟩, ⟨rfl, rfl, rfl⟩, hn⟩ := h
    have := name_len hn
    rw [Lib.size_eq] at this
    show (wordS 1 ++ 32 :: nm.data.toList).length ≤ 700
    rw [List.length_append, List.length_cons]
    have := wordS_len 1
    omega
  · obtain ⟨⟨rfl, rfl⟩, ⟨rfl, rfl, rfl⟩, hn⟩ := h
    have := sumL_le hn
    show (wordS 2 ++ 32 :: sumL S).length ≤ 700
    rw [List.length_append, List.length_cons]
    have := wordS_len 2
    omega
  · obtain ⟨rfl, ⟨rfl, rfl, rfl⟩, hn, hs⟩ := h
    have := sumL_le hs
    have := name_len hn
    rw [Lib.size_eq] at this
    show (wordS 3 ++ 32 :: (nm.data.toList ++ 32 :: 61 :: 32 :: sumL S)).length ≤ 700
    simp only [List.length_append, List.length_cons]
    have := wordS_len 3
    omega
  · exact hj 1 6 h.2 (by decide) _ (wordS_len 4)
  · obtain ⟨rfl, ⟨rfl, rfl, rfl⟩, hn, hs⟩ := h
    have := sumL_le hs
    have := name_len hn
    rw [Lib.size_eq] at this
    show (wordS 5 ++ 32 :: (nm.data.toList ++ 32 :: 111 :: 110 :: 32 :: sumL S)).length ≤ 700
    simp only [List.length_append, List.length_cons]
    have := wordS_len 5
    omega
  · obtain ⟨rfl, ⟨rfl, rfl, rfl⟩, hn, hs⟩ := h
    have := sumL_le hs
    have := name_len hn
    rw [Lib.size_eq] at this
    show (wordS 6 ++ 32 :: (nm.data.toList ++ 32 :: 111 :: 110 :: 32 :: sumL S)).length ≤ 700
    simp only [List.length_append, List.length_cons]
    have := wordS_len 6
    omega
  · exact hj 0 4 h.2 (by decide) _ (wordS_len 7)
  · obtain ⟨⟨rfl, rfl⟩, ⟨rfl, rfl⟩, hn⟩ := h
    have := name_len hn
    rw [Lib.size_eq] at this
    have := wordS_len 8
    cases dn
    · show (wordS 8 ++ 32 :: nm.data.toList).length ≤ 700
      rw [List.length_append, List.length_cons]
      omega
    · show (wordS 8 ++ 32 :: (nm.data.toList ++ [32, 100, 111, 119, 110])).length ≤ 700
      simp only [List.length_append, List.length_cons, List.length_nil]
      omega
  · obtain ⟨⟨⟨rfl, rfl, rfl⟩, rfl⟩, hc, hk⟩ := h
    have := itoa_len10 hc
    have := itoa_len10 hk
    have := wordS_len 9
    show (wordS 9 ++ 32 :: (Lib.itoa ct ++ 32 :: Lib.itoa sk)).length ≤ 700
    simp only [List.length_append, List.length_cons]
    omega
  · have := wordS_len 10
    show (wordS 10).length ≤ 700
    omega
theorem join_long (xs : List (List UInt8)) (sep : List UInt8) (m : Nat) (h : ∀ x ∈ xs, x.length ≤ m) : (Lib.join xs sep).length ≤ (m + sep.length) * xs.length := by
  have key : ∀ r : List (List UInt8), (∀ x ∈ r, x.length ≤ m) → (Lib.joinTail sep r).length ≤ (m + sep.length) * r.length := by
    intro r
    induction r with
    | nil => intro _; simp [Lib.joinTail]
    | cons x r ih =>
      intro hr
      have h1 := hr x (by simp)
      have h2 := ih (fun y hy => hr y (by simp [hy]))
      have e : Lib.joinTail sep (x :: r) = (sep ++ x) ++ Lib.joinTail sep r := by unfold Lib.joinTail; simp
      rw [e, List.length_append, List.length_append, List.length_cons, Nat.mul_add, Nat.mul_one]
      omega
  cases xs with
  | nil => simp [Lib.join, List.intercalate]
  | cons x r =>
    have h1 := h x (by simp)
    have h2 := key r (fun y hy => h y (by simp [hy]))
    rw [Lib.join_cons, List.length_append, List.length_cons, Nat.mul_add, Nat.mul_one]
    omega
end Go.Proofs.YtmmandkellhbeaaGreatDoor
