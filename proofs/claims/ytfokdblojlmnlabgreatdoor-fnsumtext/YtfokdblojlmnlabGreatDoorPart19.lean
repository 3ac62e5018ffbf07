/-
  A part of the proof: ShowI9, SumDraw3, Rank4, YardI.
-/
import Derived.Test.YtfokdblojlmnlabGreatDoorPart17
import Derived.Test.YtfokdblojlmnlabGreatDoorPart18
import Derived.Test.YtfokdblojlmnlabGreatDoorPart7
import Derived.Test.YtfokdblojlmnlabGreatDoorPart14
import Derived.Test.YtfokdblojlmnlabGreatDoorPart5
import Derived.Test.YtfokdblojlmnlabGreatDoorPart16
import Derived.Test.YtfokdblojlmnlabGreatDoorPart8

/-
  The contract of the program's ShowSum.
-/
namespace Go.Proofs.YtfokdblojlmnlabGreatDoor
open Go.ChangeShapes Go.WideShapes Go.ChangeAt Go.RowKit
attribute [local go_sem ↓] Go.wp_at_zero Go.wp_at_succ
attribute [local simp] World.cell?_alloc_past World.cell?_alloc_at World.frozen?_alloc_at cell_far cell_off cell_here World.frozen?_alloc_past

/-- The text that an item makes of a pile. -/
def stepX (P : List ByteArray) (x : TI) : ByteArray :=
  if needsI x.1 = 0 then leafX x else if needsI x.1 = 1 then oneX x.1 (P.getD (P.length - 1) ⟨#[]⟩) else twoX x.1 (P.getD (P.length - 2) ⟨#[]⟩) (P.getD (P.length - 1) ⟨#[]⟩)
theorem showStep_eq (P : List ByteArray) (x : TI) (h : needsI x.1 ≤ P.length) : showStep P x = P.take (P.length - needsI x.1) ++ [stepX P x] := by
  unfold stepX
  rcases needs_012 x.1 with e | e | e
  · unfold showStep
    rw [if_pos e, if_pos e, e, Nat.sub_zero, List.take_length]
  · obtain ⟨m, hm⟩ : ∃ m, P.length = m + 1 := ⟨P.length - 1, by omega⟩
    obtain ⟨R, u, rfl, hR⟩ := snoc_of hm
    rw [showStep_one e, if_neg (by omega), if_pos e, e]
    have e1 : (R ++ [u]).length - 1 = R.length := by simp
    rw [e1]
    simp [List.getD]
  · obtain ⟨m, hm⟩ : ∃ m, P.length = m + 1 + 1 := ⟨P.length - 2, by omega⟩
    obtain ⟨R, v, rfl, hR⟩ := snoc_of hm
    obtain ⟨R, u, rfl, hR2⟩ := snoc_of hR
    rw [showStep_two e, if_neg (by omega), if_neg (by omega), e]
    have e1 : (R ++ [u] ++ [v]).length - 2 = R.length := by simp
    have e2 : (R ++ [u] ++ [v]).length - 1 = R.length + 1 := by simp
    rw [e1, e2]
    have g1 : (R ++ [u] ++ [v]).getD R.length ⟨#[]⟩ = u := by simp [List.getD]
    have g2 : (R ++ [u] ++ [v]).getD (R.length + 1) ⟨#[]⟩ = v := by simp [List.getD]
    rw [g1, g2]
    simp
theorem text_any (x : TI) (hi : itemB x = true) (P : List ByteArray) (p q : Nat) (hp : P.length = p) (hq : needsI x.1 = q) (hle : q ≤ p) (hsz : sizesP P ≤ 1048576) (g pc : Nat) (pa : Option Addr) (hpa : 0 < q → pa = some ⟨g, p - q, none⟩) (w : World) (hrow : ∀ j (h : j < P.length), w.cell? ⟨g, j, none⟩ = some (.string P[j])) (hw : PowAt w) (he : ErrAt w) (hs : SgnAt w) (z : ByteArray) (hz : stepX P x = z) :
    Calls Tryz.prog 83 #[.agg #[.int .i64 x.1, .int .i64 x.2.1.1, .int .i64 x.2.1.2.1, .string x.2.1.2.2, .string x.2.2], .slice pa q pc] w fun e w' => e = .returned (.string z) ∧ Below w.heap.size w w' := by
  subst hp
  unfold stepX at hz
  rcases needs_012 x.1 with e | e | e
  · obtain rfl : 0 = q := e.symm.trans hq
    rw [if_pos e] at hz
    exact text0_impl x hi (leafX_size hi e).1 pa pc w hw he hs z hz
  · obtain rfl : 1 = q := e.symm.trans hq
    rw [if_neg (by omega), if_pos e] at hz
    have hk : x.1 = 11 ∨ x.1 = 12 := by
      have h1 : x.1 ≠ 1 := fun h => by rw [h] at e; exact absurd e (by decide)
      have h2 : x.1 ≠ 2 := fun h => by rw [h] at e; exact absurd e (by decide)
      have h3 := item_op hi h1 h2
      unfold needsI at e
      split at e
      · cases e
      · split at e
        · omega
        · cases e
    have hlt : P.length - 1 < P.length := by omega
    have hg : P.getD (P.length - 1) ⟨#[]⟩ = P[P.length - 1] := by simp [List.getD, hlt]
    rw [hg] at hz
    rw [hpa (by omega)]
    have := sizesP_get P _ hlt
    exact text1_impl x hk g _ pc _ w (hrow _ hlt) (by omega) hs z hz
  · obtain rfl : 2 = q := e.symm.trans hq
    rw [if_neg (by omega), if_neg (by omega)] at hz
    have hk : 3 ≤ x.1 ∧ x.1 ≤ 10 := by
      have h1 : x.1 ≠ 1 := fun h => by rw [h] at e; exact absurd e (by decide)
      have h2 : x.1 ≠ 2 := fun h => by rw [h] at e; exact absurd e (by decide)
      have h3 := item_op hi h1 h2
      unfold needsI at e
      split at e
      · cases e
      · split at e
        · cases e
        · omega
    have hlt : P.length - 1 < P.length := by omega
    have hlt2 : P.length - 2 < P.length := by omega
    have hg : P.getD (P.length - 1) ⟨#[]⟩ = P[P.length - 1] := by simp [List.getD, hlt]
    have hg2 : P.getD (P.length - 2) ⟨#[]⟩ = P[P.length - 2] := by simp [List.getD, hlt2]
    rw [hg, hg2] at hz
    rw [hpa (by omega)]
    have s1 := sizesP_get P _ hlt
    have s2 := sizesP_get P _ hlt2
    have r1 := hrow _ hlt
    have e1 : P.length - 2 + 1 = P.length - 1 := by omega
    exact text2_impl x hk g (P.length - 2) pc _ _ w (hrow _ hlt2) (by rw [e1]; exact r1) (by omega) (by omega) hs z hz
theorem showP_size : ∀ (l : List TI) (P : List ByteArray) (m : Nat), heapN l P.length = some m → sizesP (showP l P) ≤ sizesP P + 14 * l.length
  | [], P, m, _ => by simp [showP_nil]
  | x :: l, P, m, h => by
    unfold heapN at h
    split at h
    · rename_i hc
      have h1 := showStep_size (P := P) hc.1 hc.2
      have h2 := showP_size l (showStep P x) m (by rw [showStep_len P x hc.2]; exact h)
      show sizesP (showP l (showStep P x)) ≤ _
      simp only [List.length_cons]
      omega
    · cases h
set_option maxRecDepth 100000 in
set_option maxHeartbeats 4000000 in
theorem showsum_impl (a : Option Addr) (cap : Nat) (l : List TI) (n : Nat) (hnl : l.length = n) (w : World) (hrow : ItmAt w a l) (hfit : FitI l) (hm : n ≤ maxLen) (hp : PowAt w) (he : ErrAt w) (hs : SgnAt w) (y : ByteArray) (hy : sumT l = y) :
    Calls Tryz.prog 36 #[.slice a n cap] w fun e w' => e = .returned (.string y) ∧ Below w.heap.size w w' := by
  obtain ⟨i0, hti, hz0, hz1, hz2⟩ := info_parts infoStr
  have HR : Hid (ItmAt w a l) := hrow
  have HF : Hid (FitI l) := hfit
  have HP : Hid (PowAt w) := hp
  have HE : Hid (ErrAt w) := he
  have HSg : Hid (SgnAt w) := hs
  have HL : Hid (l.length = n) := hnl
  have HY : Hid (sumT l = y) := hy
  obtain ⟨b, hb⟩ : ∃ b, sumB l = b := ⟨_, rfl⟩
  have HB : Hid (sumB l = b) := hb
  clear hrow hfit hp he hs hnl hy hb
  go_enter Tryz.func36, Tryz.ntmps36
  go_wp2_with fail
  refine (sum_impl a cap l n HL.out _ HR.out HF.out hm HP.out HE.out b HB.out).mono ?_
  rintro e w1 ⟨rfl, hb1⟩
  cases b
  · obtain rfl : y = ⟨#[]⟩ := by rw [← HY.out]; unfold sumT; rw [if_neg (by rw [HB.out]; decide)]
    go_wp2
    go_ret
    exact ⟨rfl, hb1⟩
  have hsum := HB.out
  unfold sumB at hsum
  simp only [Bool.and_eq_true, decide_eq_true_eq] at hsum
  obtain ⟨hh1, h40⟩ := hsum
  rw [HL.out] at h40
  have HH : Hid (heapN l 0 = some 1) := hh1
  clear hh1
  go_wp2
  have hb2 : Below w.heap.size w (w1.alloc (.cells #[] 9)) := hb1.alloc hb1.size _
  have own0 : Hid ((w1.alloc (.cells #[] 9)).ownsRow w.heap.size 9 1 (.slice (some ⟨w1.heap.size, 0, none⟩) 0 0) (showP (l.take 0) []).length ((showP (l.take 0) []).map Value.string)) :=
    ⟨rfl, .inr ⟨w1.heap.size, 0, #[], rfl, hb1.size, by show (w1.heap.push _)[w1.heap.size]? = _; simp, Nat.le_refl _, by unfold maxLen; omega, rfl, rfl⟩⟩
  go_loopw [3, 14] (fun v kk wr => ∃ k : Nat, k ≤ n ∧ kk = .int .i64 k ∧ Hid (wr.ownsRow w.heap.size 9 1 v (showP (l.take k) []).length ((showP (l.take k) []).map Value.string)) ∧ Below w.heap.size w wr ∧ v ≠ .slice none 0 0) (fun _ kk _ => n - (intOf kk).toNat)
  case atStart => exact ⟨0, Nat.zero_le _, rfl, own0, hb2, by simp⟩
  case round =>
    obtain ⟨k, hk, rfl, hO, hb, hvn⟩ := hrel
    clear own0 hb2 hb1
    by_cases hlt : k < n
    · have hlk : k < l.length := by rw [HL.out]; exact hlt
      obtain ⟨g, o, rfl, hgw, c0, c1, c2, c3, c4⟩ := HR.out.below hb k hlk
      have hi0 : (0 : Int) ≤ (k : Int) := by omega
      have hi1 : (k : Int) < (n : Int) := by omega
      obtain ⟨p, hh, hit, hnd⟩ := heapN_take HH.out k hlk
      have hpl : (showP (l.take k) []).length = p := showP_len (l.take k) [] p hh
      have hsz : sizesP (showP (l.take k) []) ≤ 560 := by
        have h1 := showP_size (l.take k) [] p hh
        rw [List.length_take] at h1
        have h2 : sizesP [] = 0 := rfl
        omega
      have hpk : p ≤ k := by
        have := heapN_le _ _ _ hh
        rw [List.length_take] at this
        omega
      have hsn : showP (l.take (k + 1)) [] = showStep (showP (l.take k) []) l[k] := by
        rw [List.take_succ_eq_append_getElem hlk, showP_append, showP_one]
      have hOO := hO.out
      rw [hpl] at hOO
      generalize showP (l.take k) [] = P at hpl hsz hsn hOO
      obtain ⟨q, hq⟩ : ∃ q, needsI l[k].1 = q := ⟨_, rfl⟩
      have hqp : needsP l[k].1 = q := by rw [needsP_ok hit]; exact hq
      rw [hq] at hnd
      obtain ⟨z, hz⟩ : ∃ z, stepX P l[k] = z := ⟨_, rfl⟩
      obtain ⟨fr, hfr⟩ : ∃ fr, p - q = fr := ⟨_, rfl⟩
      have HFin : Hid (showP (l.take (k + 1)) [] = P.take fr ++ [z]) := by
        have : showP (l.take (k + 1)) [] = P.take fr ++ [z] := by
          rw [hsn, showStep_eq P _ (by rw [hq, hpl]; exact hnd), hq, hpl, hfr, hz]
        exact this
      rcases hOO.2 with ⟨h', _⟩ | ⟨gp, cp, cur, h', hbg, hcur, hcap, hcpm, _⟩
      · exact absurd h' hvn
      subst h'
      have HIT : Hid (itemB l[k] = true) := hit
      have HQ : Hid (needsI l[k].1 = q) := hq
      have HQP : Hid (needsP l[k].1 = q) := hqp
      have HZ : Hid (stepX P l[k] = z) := hz
      have HPL : Hid (P.length = p) := hpl
      have HSZ : Hid (sizesP P ≤ 1048576) := by
        have : sizesP P ≤ 1048576 := by omega
        exact this
      have hfr2 : (p : Int) - (q : Int) = (fr : Int) := by omega
      have hfr0 : (0 : Int) ≤ (fr : Int) := by omega
      have hfr3 : (fr : Int) ≤ (p : Int) := by omega
      have hpc3 : (p : Int) ≤ (cp : Int) := by omega
      have hfc3 : (fr : Int) ≤ (cp : Int) := by omega
      have hpf : (p : Int) - (fr : Int) = (q : Int) := by omega
      have hfp : fr ≤ p := by omega
      have hpm : (p : Int) ≤ 9223372036854775807 := by unfold maxLen at hcpm; omega
      have hqm : q ≤ 2 := by rw [← hqp]; exact needsP_le _
      clear hit hq hqp hz hsn hh hcur hsz hpl
      generalize l[k] = x at c0 c1 c2 c3 c4 HIT HQ HQP HZ
      obtain ⟨xk, ⟨xa, xb, xc⟩, xs⟩ := x
      dsimp only at c0 c1 c2 c3 c4 HQ HQP
      obtain ⟨V, hV⟩ : ∃ V, V = wr.alloc (.cells #[.int .i64 xk, .int .i64 xa, .int .i64 xb, .string xc, .string xs] 102) := ⟨_, rfl⟩
      have hbV : Below wr.heap.size wr V := by rw [hV]; exact (Below.refl _ _).alloc (Nat.le_refl _) _
      have hX5 := box5 (w := wr) (w1 := V) (a := .int .i64 xk) (b := .int .i64 xa) (c := .int .i64 xb) (d := .string xc) (e := .string xs) (T := 102) (by rw [hV]; exact Below.refl _ _)
      obtain ⟨e0, e1, e2, e3, e4, eB⟩ := hX5
      have O2 : Hid (V.ownsRow w.heap.size 9 1 (.slice (some ⟨gp, 0, none⟩) p cp) p (P.map Value.string)) := own_below hOO hbV
      have hxV := chain hb hbV
      go_wp2_with fail
      rw [← hV]
      obtain ⟨XB, hXB⟩ : ∃ XB, wr.heap.size = XB := ⟨_, rfl⟩
      rw [hXB] at e0 e1 e2 e3 e4 eB ⊢
      clear hV hbV hOO hO c0 c1 c2 c3 c4 hb
      refine (needs_impl xk q HQP.out _).mono ?_
      rintro e w2 ⟨rfl, hw2⟩
      replace hw2 := hw2.symm
      subst hw2
      go_wp2_with fail
      refine wp_region_held_drew (S := (fun w' => w'.cell? ⟨XB, 0, none⟩ = some (.int .i64 xk) ∧ w'.cell? ⟨XB, 1, none⟩ = some (.int .i64 xa) ∧ w'.cell? ⟨XB, 2, none⟩ = some (.int .i64 xb) ∧ w'.cell? ⟨XB, 3, none⟩ = some (.string xc) ∧ w'.cell? ⟨XB, 4, none⟩ = some (.string xs))) (by kernel_rfl) ?_ (fun hHeld => ?_)
      · (((try dsimp only); (repeat' apply And.intro) <;> first | (go_keep; done) | (simp (disch := first | omega | (simp <;> omega) | fail) [*]; done) | fail))
      refine wpAnyH_take (i := 0) (by simp only [List.getElem?_toArray, List.getElem?_cons_zero]; rfl) (by kernel_rfl) (by kernel_rfl) (by kernel_rfl) (by intro _ _ _ h; exact h) (Or.inl ⟨by rfl, fun w hSw => by (dsimp only at hSw; go_simp; (try with_reducible rfl))⟩) (by assumption) ?_
      simp only [Act.put, List.setIfInBounds_toArray, List.set_cons_zero, List.set_cons_succ]
      refine wpAnyH_take (i := 1) (by simp only [List.getElem?_toArray, List.getElem?_cons_zero, List.getElem?_cons_succ]; rfl) (by kernel_rfl) (by kernel_rfl) (by kernel_rfl) (by intro _ _ _ h; exact h) (Or.inl ⟨by rfl, fun w hSw => by (dsimp only at hSw; go_simp; (try with_reducible rfl))⟩) (by assumption) ?_
      simp only [Act.put, List.setIfInBounds_toArray, List.set_cons_zero, List.set_cons_succ]
      refine wpAnyH_take (i := 2) (by simp only [List.getElem?_toArray, List.getElem?_cons_zero, List.getElem?_cons_succ]; rfl) (by kernel_rfl) (by kernel_rfl) (by kernel_rfl) (by intro _ _ _ h; exact h) (Or.inl ⟨by rfl, fun w hSw => by (dsimp only at hSw; go_simp; (try with_reducible rfl))⟩) (by assumption) ?_
      simp only [Act.put, List.setIfInBounds_toArray, List.set_cons_zero, List.set_cons_succ]
      refine wpAnyH_take (i := 3) (by simp only [List.getElem?_toArray, List.getElem?_cons_zero, List.getElem?_cons_succ]; rfl) (by kernel_rfl) (by kernel_rfl) (by kernel_rfl) (by intro _ _ _ h; exact h) (Or.inl ⟨by rfl, fun w hSw => by (dsimp only at hSw; go_simp; (try with_reducible rfl))⟩) (by assumption) ?_
      simp only [Act.put, List.setIfInBounds_toArray, List.set_cons_zero, List.set_cons_succ]
      refine wpAnyH_ready (rs := [4]) (by kernel_rfl) (by simp) ?_
      refine AllReadyH.cons (by simp only [List.getElem?_toArray, List.getElem?_cons_zero, List.getElem?_cons_succ]; rfl) ?_ AllReadyH.nil
      intro K hK
      go_simp
      have hpq : p - fr = q := by omega
      rw [hpq]
      obtain ⟨pa, hpa⟩ : ∃ pa : Option Addr, (if cp = fr then some ⟨gp, 0, none⟩ else some ⟨gp, fr, none⟩) = pa := ⟨_, rfl⟩
      rw [hpa]
      have HPA : Hid (0 < q → pa = some ⟨gp, p - q, none⟩) := by
        have : 0 < q → pa = some ⟨gp, p - q, none⟩ := fun h0 => by rw [← hpa, if_neg (by omega), hfr]
        exact this
      clear hpa
      have hdr : Below V.heap.size V V.drew := (Below.refl _ _).drew
      have O3 : Hid (V.drew.ownsRow w.heap.size 9 1 (.slice (some ⟨gp, 0, none⟩) p cp) p (P.map Value.string)) := own_below O2.out hdr
      have hxd : Below w.heap.size w V.drew := chain hxV hdr
      refine (text_any (xk, (xa, xb, xc), xs) HIT.out P p q HPL.out HQ.out hnd HSZ.out gp _ _ HPA.out V.drew (fun j hj => by
        have := O3.out.cellAt j (by rw [← HPL.out]; simpa using hj)
        rw [this]; simp) (HP.out.below hxd) (HE.out.below hxd) (HSg.out.below hxd) z HZ.out).mono ?_
      rintro e w3 ⟨rfl, hb3⟩
      have hb3' := undrew hb3
      obtain ⟨e0, e1, e2, e3, e4, eB⟩ := later5 hb3' ⟨e0, e1, e2, e3, e4, eB⟩
      have hx3 := chain hxV hb3'
      have O4 : Hid (w3.ownsRow w.heap.size 9 1 (.slice (some ⟨gp, 0, none⟩) p cp) p (P.map Value.string)) := own_below O2.out hb3'
      clear O2 O3 hb3 hb3' hxV hdr hxd
      go_wp2_with fail
      refine hK.out _ _ ?_ (fun hHeld => ?_)
      · (((try dsimp only); (repeat' apply And.intro) <;> first | (go_keep; done) | (simp (disch := first | omega | (simp <;> omega) | fail) [*]; done) | fail))
      clear hK K
      try simp only [Act.put, List.setIfInBounds_toArray, List.set_cons_zero, List.set_cons_succ]
      refine wpAnyH_take (i := 5) (by simp only [List.getElem?_toArray, List.getElem?_cons_zero, List.getElem?_cons_succ]; rfl) (by kernel_rfl) (by kernel_rfl) (by kernel_rfl) (by intro _ _ _ h; exact h) (Or.inl ⟨by rfl, fun w hSw => by (dsimp only at hSw; go_simp; (try with_reducible rfl))⟩) (by assumption) ?_
      simp only [Act.put, List.setIfInBounds_toArray, List.set_cons_zero, List.set_cons_succ]
      refine wpAnyH_done (by kernel_rfl) ?_ _
      clear e0 e1 e2 e3 e4 eB hHeld
      have O5 : Hid (w3.ownsRow w.heap.size 9 1 (.slice (some ⟨gp, 0, none⟩) fr cp) fr ((P.take fr).map Value.string)) := own_shrink O4.out fr hfp
      clear O4
      go_wp2_with (at_builtin; refine wpList_append_own _ rfl _ _ 25 rfl w.heap.size 9 i0 (.string ⟨#[]⟩) 1 16 Tryz.underlying25 hti hz0 hz1 hz2 rfl (by decide) _ _ _ rfl (O5.out.alloc _) ⟨w3.heap.size, 0, none⟩ 1 1 [.string z] rfl rfl (cells1S w3 _) (by intro u hu; simp at hu; subst hu; rfl) (by unfold maxLen; omega) (by omega) (by have := hx3.size; simp; omega) ?_)
      intro v' w4 own4 hgrow hnn
      have hx4 : Below w.heap.size w w4 := by
        refine (hx3.alloc hx3.size _).grown hgrow (by have := hx3.size; simp; omega) ?_
        intro kk hkk
        exact (O5.out.lt kk hkk).1
      have hvn2 : v' ≠ .slice none 0 0 := by first | exact hnn | exact fun e => by simp at e hnn
      have SS : Hid (w4.ownsRow w.heap.size 9 1 v' (showP (l.take (k + 1)) []).length ((showP (l.take (k + 1)) []).map Value.string)) := by
        have hl : (P.take fr).length = fr := by rw [List.length_take, HPL.out]; omega
        have : w4.ownsRow w.heap.size 9 1 v' (showP (l.take (k + 1)) []).length ((showP (l.take (k + 1)) []).map Value.string) := by
          rw [HFin.out, List.length_append, hl, List.map_append, List.map_take]
          exact own4
        exact this
      clear own4 hgrow hnn O5
      go_wp2
      go_roundw
      case rel => exact ⟨k + 1, by omega, by go_num, SS, hx4, hvn2⟩
      case measure => simp [intOf]; omega
    · have hkl : k = n := by omega
      subst hkl
      have hi1 : ¬ (k : Int) < (k : Int) := by omega
      have hO2 := hO.out
      rw [List.take_of_length_le (by rw [HL.out]; exact Nat.le_refl _)] at hO2
      have hl1 := showP_len l [] 1 HH.out
      have hy2 := HY.out
      unfold sumT at hy2
      rw [if_pos HB.out] at hy2
      rw [hl1] at hO2
      obtain ⟨R, u, hP, hR⟩ := snoc_of (m := 0) hl1
      obtain rfl : R = [] := List.length_eq_zero_iff.1 hR
      rw [hP] at hO2 hy2
      obtain rfl : u = y := hy2
      rcases hO2.2 with ⟨h', _⟩ | ⟨gp, cp, cur, h', hbg, _⟩
      · exact absurd h' hvn
      subst h'
      have hc := hO2.cellAt 0 (by omega)
      simp only [List.nil_append, List.map_cons, List.map_nil, List.getElem?_cons_zero] at hc
      clear hO hO2 HY hP hl1 HH
      go_wp2
      go_ret
      exact ⟨rfl, hb⟩
end Go.Proofs.YtfokdblojlmnlabGreatDoor

/-
  The contract of the model's draw of tokens for ReadSum.
-/
namespace Go.Proofs.YtfokdblojlmnlabGreatDoor
open Go.ChangeShapes Go.WideShapes Go.ChangeAt Go.RowKit
attribute [local go_sem ↓] Go.wp_at_zero Go.wp_at_succ
attribute [local simp] World.cell?_alloc_past World.cell?_alloc_at World.frozen?_alloc_at cell_far cell_off cell_here World.frozen?_alloc_past

theorem sumT_size (l : List TI) : (sumT l).size ≤ 14 * l.length := by
  unfold sumT
  split
  · rename_i h
    unfold sumB at h
    simp only [Bool.and_eq_true, decide_eq_true_eq] at h
    have h1 := showP_size l [] 1 h.1
    have h2 := showP_len l [] 1 h.1
    have h0 : sizesP [] = 0 := rfl
    obtain ⟨R, u, hP, hR⟩ := snoc_of (m := 0) h2
    obtain rfl : R = [] := List.length_eq_zero_iff.1 hR
    rw [hP] at h1 ⊢
    rw [List.nil_append, sizesP_one] at h1
    show u.size ≤ _
    omega
  · exact Nat.zero_le _
def tab9 : List ByteArray := [⟨#[97, 32, 43, 32, 98, 32, 42, 32, 99, 32, 45, 32, 50]⟩, ⟨#[110, 111, 116, 32, 97, 32, 61, 32, 49, 32, 97, 110, 100, 32, 98, 32, 60, 32, 50, 32, 111, 114, 32, 99]⟩, ⟨#[108, 97, 99, 107, 115, 32, 97, 32, 43, 32, 49]⟩, ⟨#[97, 32, 61, 32, 98, 32, 61, 32, 99]⟩, ⟨#[97, 32, 60, 32, 40, 98]⟩, ⟨#[110, 111, 116, 32, 110, 111, 116, 32, 121, 101, 115]⟩, ⟨#[97, 32, 43, 32, 41, 32, 98]⟩, ⟨#[40, 97, 41]⟩, ⟨#[49, 32, 45, 32, 45, 50]⟩]
theorem lit9 {w : World} (l : List ByteArray) {o : Obj} (ho : o = .cells (l.map Value.string).toArray 9 (0, 0)) (r : Nat) (hr : r < l.length) : ∃ s ∈ l, (w.alloc o).cell? ⟨w.heap.size, r, none⟩ = some (.string s) := by
  subst ho
  exact ⟨l[r], List.getElem_mem hr, by simp [hr]⟩
def DrawnRead (w : World) (e : Ending) (w' : World) : Prop := ∃ g n cc l, e = .returned (.slice (some ⟨g, 0, none⟩) n cc) ∧ l.length = n ∧ TokAt w' (some ⟨g, 0, none⟩) l ∧ n ≤ 2000 ∧ (∀ x ∈ l, x.2.1.size ≤ 1048576 ∧ x.2.2.2.2.size ≤ maxLen) ∧ Below w.heap.size w w'
set_option maxRecDepth 100000 in
set_option maxHeartbeats 4000000 in
theorem readsum_draw {w : World} {a : Option Addr} {len cap : Nat} (hlen : len ≤ 4096)
    (row : ∀ j, j < len → ∃ (rb ro : Nat) (v : Int), a = some ⟨rb, ro, none⟩ ∧ rb < w.heap.size ∧ w.cell? ⟨rb, ro + j, none⟩ = some (.int .u8 v) ∧ 0 ≤ v ∧ v ≤ 255) :
    Calls Tryz.prog 37 #[.slice a len cap] w (DrawnRead w) := by
  have hR : Hid (∀ j, j < len → ∃ (rb ro : Nat) (v : Int), a = some ⟨rb, ro, none⟩ ∧ rb < w.heap.size ∧ w.cell? ⟨rb, ro + j, none⟩ = some (.int .u8 v) ∧ 0 ≤ v ∧ v ≤ 255) := row
  clear row
  go_enter Tryz.func37, Tryz.ntmps37
  go_wp2_with fail
  refine (new_draw hlen hR.out).mono ?_
  rintro e w1 ⟨c, rfl, hcs, hc1, hb1⟩
  have C1 : Hid (Cur w1 c a len cap) := hc1
  clear hc1
  go_wp2_with fail
  refine (once_draw C1.out 4 (by omega) (by omega)).mono ?_
  rintro e w2 ⟨b1, rfl, hc2, hk2⟩
  have hx2 : Below w.heap.size w w2 := hb1.trans (hk2.below hcs hb1.size)
  have C2 : Hid (Cur w2 c a len cap) := hc2
  clear hc2 hk2 C1 hb1
  cases b1
  · go_wp2_with fail
    refine (any8 C2.out).mono ?_
    rintro e w3 ⟨v, l, rfl, ⟨g, cc, rfl, _, hA⟩, hl, hF, hc3, hk3⟩
    have hx3 : Below w.heap.size w w3 := hx2.trans (hk3.below hcs hx2.size)
    have C3 : Hid (Cur w3 c a len cap) := hc3
    have A3 : Hid (ItmAt w3 (some ⟨g, 0, none⟩) l) := hA
    have F3 : Hid (FitItm l) := by
      have : FitItm l := fun j hj => by
        have := hF _ (List.getElem_mem hj)
        unfold maxLen at this ⊢
        omega
      exact this
    have hts := sumT_size l
    obtain ⟨n, hn⟩ : ∃ n, l.length = n := ⟨_, rfl⟩
    have HN : Hid (l.length = n) := hn
    rw [hn] at hl hts ⊢
    obtain ⟨s, hs⟩ : ∃ s, sumT l = s := ⟨_, rfl⟩
    have HS : Hid (sumT l = s) := hs
    rw [hs] at hts
    have hs250 : s.size ≤ 250 := by omega
    clear hA hc3 hk3 hF hn hs hts C2 hx2
    go_wp2_with fail
    refine (showsum_spec _ _ l n HN.out _ A3.out F3.out (by unfold maxLen; omega) s HS.out).mono ?_
    rintro e w4 ⟨rfl, hb4⟩
    have hx4 := chain hx3 hb4
    have C4 : Hid (Cur w4 c a len cap) := C3.out.below hb4
    clear A3 F3 C3 hb4 hx3 HN HS
    go_wp2_with fail
    refine (once_draw C4.out 3 (by omega) (by omega)).mono ?_
    rintro e w5 ⟨b2, rfl, hc5, hk5⟩
    have hx5 : Below w.heap.size w w5 := hx4.trans (hk5.below hcs hx4.size)
    have C5 : Hid (Cur w5 c a len cap) := hc5
    clear hc5 hk5 C4 hx4
    cases b2
    · obtain ⟨w8, rfl⟩ : ∃ x, x = w5 := ⟨_, rfl⟩
      have C8 : Hid (Cur w8 c a len cap) := C5
      have hx8 : Below w.heap.size w w8 := hx5
      clear C5 hx5
      go_wp2_with fail
      refine (once_draw C8.out 4 (by omega) (by omega)).mono ?_
      rintro e w9 ⟨b3, rfl, hc9, hk9⟩
      have hx9 : Below w.heap.size w w9 := hx8.trans (hk9.below hcs hx8.size)
      have C9 : Hid (Cur w9 c a len cap) := hc9
      clear hc9 hk9 C8 hx8
      cases b3
      · obtain ⟨l, b, hR2⟩ : ∃ l b, toksR s = (l, b) := ⟨_, _, rfl⟩
        have HR2 : Hid (toksR s = (l, b)) := hR2
        have FX : Hid (∀ x ∈ l, x.2.1.size ≤ 1048576 ∧ x.2.2.2.2.size ≤ maxLen) := by
          have : ∀ x ∈ l, x.2.1.size ≤ 1048576 ∧ x.2.2.2.2.size ≤ maxLen := fun t ht => by
            have := tokB_fits (List.all_eq_true.1 (toksR_all hR2) t ht)
            unfold maxLen
            omega
          exact this
        have hn2 := toksR_len _ _ _ hR2
        clear hR2
        go_wp2_with fail
        refine (tokensof_spec s _ l b HR2.out (by omega)).mono ?_
        rintro e wZ ⟨vZ, rfl, AZ, hbZ⟩
        have hxZ := chain hx9 hbZ
        obtain ⟨gz, cz, rfl⟩ : ∃ gz cz, vZ = .slice (some ⟨gz, 0, none⟩) l.length cz := by
          rcases AZ.1.2 with ⟨h', _⟩ | ⟨gz, cz, cur, h', _⟩
          · exact absurd h' AZ.2
          · exact ⟨gz, cz, h'⟩
        have TZ : Hid (TokAt wZ (some ⟨gz, 0, none⟩) l) := ownTok AZ.1
        obtain ⟨nz, hnz⟩ : ∃ n, l.length = n := ⟨_, rfl⟩
        have HNZ : Hid (l.length = nz) := hnz
        rw [hnz] at hn2 ⊢
        clear AZ hbZ hnz
        go_wp2
        go_ret
        exact ⟨gz, nz, cz, l, rfl, HNZ.out, TZ.out, hn2, FX.out, hxZ⟩
      · go_wp2_with fail
        refine (bend_draw C9.out s ⟨#[97, 53, 43, 40, 32, 41, 60]⟩ hs250 (by decide) (by decide)).mono ?_
        rintro e w10 ⟨t, rfl, ht, hc10, hk10⟩
        have hx10 : Below w.heap.size w w10 := hx9.trans (hk10.below hcs hx9.size)
        clear hc10 hk10 C9 hx9
        obtain ⟨l, b, hR2⟩ : ∃ l b, toksR t = (l, b) := ⟨_, _, rfl⟩
        have HR2 : Hid (toksR t = (l, b)) := hR2
        have FX : Hid (∀ x ∈ l, x.2.1.size ≤ 1048576 ∧ x.2.2.2.2.size ≤ maxLen) := by
          have : ∀ x ∈ l, x.2.1.size ≤ 1048576 ∧ x.2.2.2.2.size ≤ maxLen := fun t ht => by
            have := tokB_fits (List.all_eq_true.1 (toksR_all hR2) t ht)
            unfold maxLen
            omega
          exact this
        have hn2 := toksR_len _ _ _ hR2
        clear hR2
        go_wp2_with fail
        refine (tokensof_spec t _ l b HR2.out (by omega)).mono ?_
        rintro e wZ ⟨vZ, rfl, AZ, hbZ⟩
        have hxZ := chain hx10 hbZ
        obtain ⟨gz, cz, rfl⟩ : ∃ gz cz, vZ = .slice (some ⟨gz, 0, none⟩) l.length cz := by
          rcases AZ.1.2 with ⟨h', _⟩ | ⟨gz, cz, cur, h', _⟩
          · exact absurd h' AZ.2
          · exact ⟨gz, cz, h'⟩
        have TZ : Hid (TokAt wZ (some ⟨gz, 0, none⟩) l) := ownTok AZ.1
        obtain ⟨nz, hnz⟩ : ∃ n, l.length = n := ⟨_, rfl⟩
        have HNZ : Hid (l.length = nz) := hnz
        rw [hnz] at hn2 ⊢
        clear AZ hbZ hnz
        go_wp2
        go_ret
        exact ⟨gz, nz, cz, l, rfl, HNZ.out, TZ.out, hn2, FX.out, hxZ⟩
    · obtain ⟨V, hV⟩ : ∃ V, V = w5.alloc (.cells #[.string ⟨#[97, 32, 43, 32, 98, 32, 42, 32, 99, 32, 45, 32, 50]⟩, .string ⟨#[110, 111, 116, 32, 97, 32, 61, 32, 49, 32, 97, 110, 100, 32, 98, 32, 60, 32, 50, 32, 111, 114, 32, 99]⟩, .string ⟨#[108, 97, 99, 107, 115, 32, 97, 32, 43, 32, 49]⟩, .string ⟨#[97, 32, 61, 32, 98, 32, 61, 32, 99]⟩, .string ⟨#[97, 32, 60, 32, 40, 98]⟩, .string ⟨#[110, 111, 116, 32, 110, 111, 116, 32, 121, 101, 115]⟩, .string ⟨#[97, 32, 43, 32, 41, 32, 98]⟩, .string ⟨#[40, 97, 41]⟩, .string ⟨#[49, 32, 45, 32, 45, 50]⟩] 9) := ⟨_, rfl⟩
      have C6 : Hid (Cur V c a len cap) := by
        have : Cur V c a len cap := by rw [hV]; exact C5.out.alloc _
        exact this
      have hx6 : Below w.heap.size w V := by rw [hV]; exact hx5.alloc hx5.size _
      have L9 : Hid (∀ r : Nat, r < 9 → ∃ s ∈ tab9, V.cell? ⟨w5.heap.size, r, none⟩ = some (.string s)) := by
        have : ∀ r : Nat, r < 9 → ∃ s ∈ tab9, V.cell? ⟨w5.heap.size, r, none⟩ = some (.string s) := fun r hr => by
          rw [hV]
          exact lit9 tab9 rfl r hr
        exact this
      have hVs : w5.heap.size < V.heap.size := by rw [hV]; simp
      have hcw5 := C5.out.lt
      go_wp2_with fail
      rw [← hV]
      obtain ⟨B, hB⟩ : ∃ B, w5.heap.size = B := ⟨_, rfl⟩
      simp only [hB] at L9 ⊢
      rw [hB] at hVs hcw5
      clear hV C5 hx5 hB
      refine (below_draw C6.out 9 (by omega) (by omega)).mono ?_
      rintro e w8 ⟨x, rfl, hx0, hx1, hc8, hk8⟩
      obtain ⟨r, rfl⟩ : ∃ r : Nat, x = (r : Int) := ⟨x.toNat, by omega⟩
      obtain ⟨s2, hs2, cs⟩ := L9.out r (by omega)
      rw [← hk8.cell hVs (by omega)] at cs
      have hx8 : Below w.heap.size w w8 := hx6.trans (hk8.below hcs hx6.size)
      have C8 : Hid (Cur w8 c a len cap) := hc8
      have hs250' : s2.size ≤ 250 := (by decide : ∀ s ∈ tab9, s.size ≤ 250) s2 hs2
      clear hc8 hk8 C6 hx6 L9 hs2 hs250
      obtain ⟨s, rfl⟩ : ∃ x, x = s2 := ⟨_, rfl⟩
      have hs250 : s.size ≤ 250 := hs250'
      clear hs250'
      go_wp2_with fail
      refine (once_draw C8.out 4 (by omega) (by omega)).mono ?_
      rintro e w9 ⟨b3, rfl, hc9, hk9⟩
      have hx9 : Below w.heap.size w w9 := hx8.trans (hk9.below hcs hx8.size)
      have C9 : Hid (Cur w9 c a len cap) := hc9
      clear hc9 hk9 C8 hx8
      cases b3
      · obtain ⟨l, b, hR2⟩ : ∃ l b, toksR s = (l, b) := ⟨_, _, rfl⟩
        have HR2 : Hid (toksR s = (l, b)) := hR2
        have FX : Hid (∀ x ∈ l, x.2.1.size ≤ 1048576 ∧ x.2.2.2.2.size ≤ maxLen) := by
          have : ∀ x ∈ l, x.2.1.size ≤ 1048576 ∧ x.2.2.2.2.size ≤ maxLen := fun t ht => by
            have := tokB_fits (List.all_eq_true.1 (toksR_all hR2) t ht)
            unfold maxLen
            omega
          exact this
        have hn2 := toksR_len _ _ _ hR2
        clear hR2
        go_wp2_with fail
        refine (tokensof_spec s _ l b HR2.out (by omega)).mono ?_
        rintro e wZ ⟨vZ, rfl, AZ, hbZ⟩
        have hxZ := chain hx9 hbZ
        obtain ⟨gz, cz, rfl⟩ : ∃ gz cz, vZ = .slice (some ⟨gz, 0, none⟩) l.length cz := by
          rcases AZ.1.2 with ⟨h', _⟩ | ⟨gz, cz, cur, h', _⟩
          · exact absurd h' AZ.2
          · exact ⟨gz, cz, h'⟩
        have TZ : Hid (TokAt wZ (some ⟨gz, 0, none⟩) l) := ownTok AZ.1
        obtain ⟨nz, hnz⟩ : ∃ n, l.length = n := ⟨_, rfl⟩
        have HNZ : Hid (l.length = nz) := hnz
        rw [hnz] at hn2 ⊢
        clear AZ hbZ hnz
        go_wp2
        go_ret
        exact ⟨gz, nz, cz, l, rfl, HNZ.out, TZ.out, hn2, FX.out, hxZ⟩
      · go_wp2_with fail
        refine (bend_draw C9.out s ⟨#[97, 53, 43, 40, 32, 41, 60]⟩ hs250 (by decide) (by decide)).mono ?_
        rintro e w10 ⟨t, rfl, ht, hc10, hk10⟩
        have hx10 : Below w.heap.size w w10 := hx9.trans (hk10.below hcs hx9.size)
        clear hc10 hk10 C9 hx9
        obtain ⟨l, b, hR2⟩ : ∃ l b, toksR t = (l, b) := ⟨_, _, rfl⟩
        have HR2 : Hid (toksR t = (l, b)) := hR2
        have FX : Hid (∀ x ∈ l, x.2.1.size ≤ 1048576 ∧ x.2.2.2.2.size ≤ maxLen) := by
          have : ∀ x ∈ l, x.2.1.size ≤ 1048576 ∧ x.2.2.2.2.size ≤ maxLen := fun t ht => by
            have := tokB_fits (List.all_eq_true.1 (toksR_all hR2) t ht)
            unfold maxLen
            omega
          exact this
        have hn2 := toksR_len _ _ _ hR2
        clear hR2
        go_wp2_with fail
        refine (tokensof_spec t _ l b HR2.out (by omega)).mono ?_
        rintro e wZ ⟨vZ, rfl, AZ, hbZ⟩
        have hxZ := chain hx10 hbZ
        obtain ⟨gz, cz, rfl⟩ : ∃ gz cz, vZ = .slice (some ⟨gz, 0, none⟩) l.length cz := by
          rcases AZ.1.2 with ⟨h', _⟩ | ⟨gz, cz, cur, h', _⟩
          · exact absurd h' AZ.2
          · exact ⟨gz, cz, h'⟩
        have TZ : Hid (TokAt wZ (some ⟨gz, 0, none⟩) l) := ownTok AZ.1
        obtain ⟨nz, hnz⟩ : ∃ n, l.length = n := ⟨_, rfl⟩
        have HNZ : Hid (l.length = nz) := hnz
        rw [hnz] at hn2 ⊢
        clear AZ hbZ hnz
        go_wp2
        go_ret
        exact ⟨gz, nz, cz, l, rfl, HNZ.out, TZ.out, hn2, FX.out, hxZ⟩
  · go_wp2_with fail
    refine (toks_draw C2.out).mono ?_
    rintro e w3 ⟨v, l, rfl, hF, ⟨g, cc, rfl, _, hA⟩, _, hk3⟩
    have hx3 : Below w.heap.size w w3 := hx2.trans (hk3.below hcs hx2.size)
    have A3 : Hid (TokAt w3 (some ⟨g, 0, none⟩) l) := hA
    have F3 : Hid (FewTok l) := hF
    obtain ⟨n, hn⟩ : ∃ n, l.length = n := ⟨_, rfl⟩
    have HN : Hid (l.length = n) := hn
    have h100 : n ≤ 100 := by rw [← hn]; exact hF.1
    rw [hn]
    clear hA hF hk3 hn
    go_wp2
    go_ret
    exact ⟨g, n, cc, l, rfl, HN.out, A3.out, by omega, F3.out.2, hx3⟩
end Go.Proofs.YtfokdblojlmnlabGreatDoor

/-
  The contract of the model's helper that takes rows over: new memory, a block for each row.
-/
namespace Go.Proofs.YtfokdblojlmnlabGreatDoor
open Go.ChangeShapes Go.WideShapes Go.ChangeAt Go.RowKit
attribute [local go_sem ↓] Go.wp_at_zero Go.wp_at_succ

/-- The head of the i-th row. -/
def headOf (G C : Nat → Nat) (L : List (List CT)) (i : Nat) : Value := .slice (some ⟨G i, 0, none⟩) (L.getD i []).length (C i)
/-- Rows that lie in memory of their own: the heads in one block, each row in another. -/
structure OwnRows (w : World) (base : Nat) (v : Value) (L : List (List CT)) (G C : Nat → Nat) : Prop where
  outer : w.ownsRow base 87 1 v L.length ((List.range L.length).map (headOf G C L))
  inner : ∀ i, i < L.length → w.ownsRow base 54 3 (headOf G C L i) (L.getD i []).length (flat (L.getD i []))
  apart : ∀ i j, i < L.length → j < L.length → i ≠ j → G i ≠ G j

theorem OwnRows.below {w w' : World} {base : Nat} {v : Value} {L : List (List CT)} {G C : Nat → Nat} (h : OwnRows w base v L G C) (hb : Below w.heap.size w w') : OwnRows w' base v L G C :=
  ⟨own_below h.outer hb, fun i hi => own_below (h.inner i hi) hb, h.apart⟩

/-- The block of a row is none of the heads'. -/
theorem own_other {w : World} {base b2 n m sz sz2 : Nat} {e e2 : TypeId} {v : Value} {g c : Nat} {xs ys : List Value} (h : w.ownsRow base e sz v n xs) (k : w.ownsRow b2 e2 sz2 (.slice (some ⟨g, 0, none⟩) m c) m ys) (he : e ≠ e2) : v.ownBlock ≠ some g := by
  rcases h.2 with ⟨rfl, _⟩ | ⟨g1, c1, cur, rfl, _, hg, _⟩
  · simp [Value.ownBlock]
  · rcases k.2 with ⟨h', _⟩ | ⟨g2, c2, cur2, h', _, hg2, _⟩
    · simp at h'
    · simp only [Value.slice.injEq, Option.some.injEq, Addr.mk.injEq, and_true, true_and] at h'
      obtain ⟨rfl, rfl⟩ := h'
      intro hh
      simp only [Value.ownBlock, Option.some.injEq] at hh
      subst hh
      rw [hg] at hg2
      simp at hg2
      exact he hg2.2

theorem own_base {w : World} {b1 b2 n sz : Nat} {e : TypeId} {v : Value} {xs : List Value} (h : w.ownsRow b1 e sz v n xs) (hle : b2 ≤ b1) : w.ownsRow b2 e sz v n xs := by
  refine ⟨h.1, ?_⟩
  rcases h.2 with h' | ⟨g, cap, cur, h', hbg, hr⟩
  · exact .inl h'
  · exact .inr ⟨g, cap, cur, h', Nat.le_trans hle hbg, hr⟩

/-- One row more: its head is appended. -/
theorem OwnRows.step {w w1 w2 : World} {base : Nat} {v v' : Value} {L : List (List CT)} {G C : Nat → Nat} {x : List CT} {g c : Nat} {o : Obj} (h : OwnRows w base v L G C) (hb : Below w.heap.size w w1) (hg : w.heap.size ≤ g)
    (own : w1.ownsRow base 54 3 (.slice (some ⟨g, 0, none⟩) x.length c) x.length (flat x))
    (own2 : w2.ownsRow base 87 1 v' (L.length + 1) ((List.range L.length).map (headOf G C L) ++ [.slice (some ⟨g, 0, none⟩) x.length c])) (hgr : (w1.alloc o).grownBy w2 v.ownBlock) :
    ∃ G' C', OwnRows w2 base v' (L ++ [x]) G' C' := by
  have h1 := h.below hb
  have hlt : ∀ i, i < L.length → G i < w.heap.size := by
    intro i hi
    rcases (h.inner i hi).2 with ⟨h', _⟩ | ⟨g2, c2, cur2, h', _, hg2, _⟩
    · simp [headOf] at h'
    · simp only [headOf, Value.slice.injEq, Option.some.injEq, Addr.mk.injEq, and_true, true_and] at h'
      obtain ⟨rfl, rfl⟩ := h'
      by_cases hl : G i < w.heap.size
      · exact hl
      · rw [Array.getElem?_eq_none (by omega)] at hg2; cases hg2
  have he : (87 : TypeId) ≠ 54 := by decide
  have hd : ∀ i, i < L.length → (L ++ [x]).getD i [] = L.getD i [] := by
    intro i hi
    simp [List.getD, List.getElem?_append_left hi]
  have hdl : (L ++ [x]).getD L.length [] = x := by simp [List.getD]
  refine ⟨fun i => if i = L.length then g else G i, fun i => if i = L.length then c else C i, ?_, ?_, ?_⟩
  · have e1 : (L ++ [x]).length = L.length + 1 := by simp
    rw [e1, List.range_succ, List.map_append]
    have e2 : (List.range L.length).map (headOf (fun i => if i = L.length then g else G i) (fun i => if i = L.length then c else C i) (L ++ [x])) = (List.range L.length).map (headOf G C L) := by
      refine List.map_congr_left fun i hi => ?_
      have hi' : i < L.length := by simpa using hi
      have hne : i ≠ L.length := by omega
      simp only [headOf, if_neg hne, hd i hi']
    have e3 : [L.length].map (headOf (fun i => if i = L.length then g else G i) (fun i => if i = L.length then c else C i) (L ++ [x])) = [.slice (some ⟨g, 0, none⟩) x.length c] := by
      simp only [List.map_cons, List.map_nil, headOf, if_true, hdl]
    rw [e2, e3]; exact own2
  · intro i hi
    by_cases hil : i = L.length
    · subst hil
      rw [hdl]
      have := own.alloc o
      have k := this.kept hgr (.inr (by simp only [Value.ownBlock]; exact (own_other (h1.outer.alloc o) this he).symm))
      simpa only [headOf, if_true, hdl] using k
    · have hi' : i < L.length := by simp at hi; omega
      rw [hd i hi']
      have := (h1.inner i hi').alloc o
      have k := this.kept hgr (.inr (by simp only [headOf, Value.ownBlock]; exact (own_other (h1.outer.alloc o) this he).symm))
      simpa only [headOf, if_neg hil, hd i hi'] using k
  · intro i j hi hj hij
    have hi2 : i < L.length + 1 := by simpa using hi
    have hj2 : j < L.length + 1 := by simpa using hj
    by_cases e1 : i = L.length
    · have e2 : j ≠ L.length := by omega
      have := hlt j (by omega)
      simp only [if_pos e1, if_neg e2]; omega
    · by_cases e2 : j = L.length
      · have := hlt i (by omega)
        simp only [if_neg e1, if_pos e2]; omega
      · simp only [if_neg e1, if_neg e2]; exact h.apart i j (by omega) (by omega) hij

theorem infoRow : (Tryz.prog.info? 87).map (fun i => (i.zero, i.size, i.bytes)) = some (some (.slice none 0 0), 1, 24) := by kernel_rfl

set_option maxRecDepth 100000 in
set_option maxHeartbeats 2000000 in
theorem rows_spec (a : Option Addr) (cap : Nat) (L : List (List CT)) (w : World) (hrow : RowsAt w a L) (hm : L.length ≤ 1048576) (hms : ∀ i (h : i < L.length), L[i].length ≤ 1048576) :
    Calls Tryz.prog 114 #[.slice a L.length cap] w fun e w' => ∃ v G C, e = .returned v ∧ OwnRows w' w.heap.size v L G C ∧ Below w.heap.size w w' ∧ v ≠ .slice none 0 0 := by
  obtain ⟨i0, hi, hz0, hz1, hz2⟩ := info_parts infoRow
  have hR : Hid (RowsAt w a L) := hrow
  have hMS : Hid (∀ i (h : i < L.length), L[i].length ≤ 1048576) := hms
  clear hrow hms
  have own0 : Hid (∃ G C, OwnRows (w.alloc (.cells #[] 87)) w.heap.size (.slice (some ⟨w.heap.size, 0, none⟩) 0 0) (L.take 0) G C) := by
    refine ⟨fun _ => 0, fun _ => 0, ⟨rfl, .inr ⟨w.heap.size, 0, #[], rfl, Nat.le_refl _, by show (w.heap.push _)[w.heap.size]? = _; simp, Nat.le_refl _, by unfold maxLen; omega, rfl, rfl⟩⟩, ?_, ?_⟩
    · intro i hi; simp at hi
    · intro i j hi; simp at hi
  have hb0 : Below w.heap.size w (w.alloc (.cells #[] 87)) := (Below.refl _ _).alloc (Nat.le_refl _) _
  go_enter Tryz.func114, Tryz.ntmps114
  go_wp2
  go_loopw [3, 4] (fun v i wr => ∃ m : Nat, m ≤ L.length ∧ i = .int .i64 m ∧ Hid (∃ G C, OwnRows wr w.heap.size v (L.take m) G C) ∧ Below w.heap.size w wr ∧ v ≠ .slice none 0 0)
    (fun _ i _ => L.length - (intOf i).toNat)
  case atStart => exact ⟨0, Nat.zero_le _, rfl, own0, hb0, by simp⟩
  case round =>
    obtain ⟨m, hmL, rfl, hO, hb, hvn⟩ := hrel
    by_cases hlt : m < L.length
    · obtain ⟨b, o, ai, ci, ha, hbw, c0, hra, _, _, hnil⟩ := hR.out.below hb m hlt
      have hi0 : (0 : Int) ≤ (m : Int) := by omega
      have hi1 : (m : Int) < (L.length : Int) := by omega
      have hRA : Hid (RowAt wr ai L[m]) := hra
      have hml := hMS.out m hlt
      have htk := List.take_succ_eq_append_getElem hlt
      clear hra
      generalize L[m] = x at c0 hRA hml htk
      subst ha
      obtain ⟨G, C, O⟩ := hO.out
      have hlen : (L.take m).length = m := by rw [List.length_take]; omega
      have hOO : Hid (OwnRows wr w.heap.size _ (L.take m) G C) := O
      clear O hO
      go_wp2_with fail
      refine (row_spec _ _ _ _ hRA.out hnil hml).mono ?_
      rintro e w1 ⟨g, c, rfl, hg, own, hb1⟩
      have O1 := hOO.out.below hb1
      have hx := chain hb hb1
      go_wp2_with (at_builtin; refine wpList_append_own _ rfl _ _ 33 rfl w.heap.size 87 i0 (.slice none 0 0) 1 24 Tryz.underlying33 hi hz0 hz1 hz2 rfl (by decide) _ _ _ rfl (O1.outer.alloc _) ⟨w1.heap.size, 0, none⟩ 1 1 [.slice (some ⟨g, 0, none⟩) x.length c] rfl rfl ?c1 ?c2 ?c3 ?c4 ?c5 ?_)
      case c1 =>
        intro j u hj
        match j, hj with
        | 0, hj => simp at hj; subst hj; simp [Addr.add]
      case c2 => intro u hu; simp at hu; subst hu; rfl
      case c3 => rw [hlen]; unfold maxLen; omega
      case c4 => rw [hlen]; omega
      case c5 => have := hx.size; simp; omega
      intro v' w2 own2 hgrow hnn
      have S := hOO.out.step hb1 hg (own_base own hb.size) (by rw [hlen]; exact own2) hgrow
      rw [← htk] at S
      have hx2 : Below w.heap.size w w2 := by
        refine (hx.alloc hx.size _).grown hgrow (by have := hx.size; simp; omega) ?_
        intro k hk
        rcases O1.outer.2 with ⟨h, _⟩ | ⟨g', c', cur, h, hbg, _⟩
        · rw [h] at hk; simp [Value.ownBlock] at hk
        · rw [h] at hk; simp [Value.ownBlock] at hk; omega
      have hvn2 : v' ≠ .slice none 0 0 := by first | exact hnn | exact fun e => hvn (hnn.1 e).1
      have SS : Hid (∃ G C, OwnRows w2 w.heap.size v' (L.take (m + 1)) G C) := S
      clear S own2 hgrow hnn own O1 hOO
      go_wp2
      go_roundw
      case rel => exact ⟨m + 1, by omega, by go_num, SS, hx2, hvn2⟩
      case measure => simp [intOf]; omega
    · have hkl : m = L.length := by omega
      subst hkl
      rw [List.take_length] at hO
      go_wp2
      go_ret
      obtain ⟨G, C, O⟩ := hO.out
      exact ⟨_, G, C, rfl, O, hb, hvn⟩

end Go.Proofs.YtfokdblojlmnlabGreatDoor

/-
  The program's reader of sums: where its lists lie, and its small steps.
-/
namespace Go.Proofs.YtfokdblojlmnlabGreatDoor
open Go.ChangeShapes Go.WideShapes Go.ChangeAt Go.RowKit
attribute [local go_sem ↓] Go.wp_at_zero Go.wp_at_succ
attribute [local simp] World.cell?_alloc_past World.cell?_alloc_at World.frozen?_alloc_at cell_far cell_off cell_here World.frozen?_alloc_past

/-- The three fields of a reader in block R. -/
def YBox (w : World) (R : Nat) (vi vw : Value) (wh : Bool) : Prop := w.heap[R]? = some (.cells #[vi, vw, .bool wh] 109 (0, 0))
theorem YBox.lt {w : World} {R : Nat} {vi vw : Value} {wh : Bool} (h : YBox w R vi vw wh) : R < w.heap.size := by
  by_cases hl : R < w.heap.size
  · exact hl
  · unfold YBox at h; rw [Array.getElem?_eq_none (by omega)] at h; cases h
theorem YBox.cells {w : World} {R : Nat} {vi vw : Value} {wh : Bool} (h : YBox w R vi vw wh) : w.cell? ⟨R, 0, none⟩ = some vi ∧ w.cell? ⟨R, 1, none⟩ = some vw ∧ w.cell? ⟨R, 2, none⟩ = some (.bool wh) := by
  unfold YBox at h
  refine ⟨?_, ?_, ?_⟩ <;> simp [World.cell?, h]
theorem YBox.free {w : World} {R : Nat} {vi vw : Value} {wh : Bool} (h : YBox w R vi vw wh) : w.frozen? ⟨R, 0, none⟩ = false ∧ w.frozen? ⟨R, 1, none⟩ = false ∧ w.frozen? ⟨R, 2, none⟩ = false := by
  unfold YBox at h
  refine ⟨?_, ?_, ?_⟩ <;> simp [World.frozen?, h]
theorem YBox.of {w w' : World} {R : Nat} {vi vw : Value} {wh : Bool} (h : YBox w R vi vw wh) (e : w'.heap[R]? = w.heap[R]?) : YBox w' R vi vw wh := by unfold YBox at h ⊢; rw [e]; exact h
theorem YBox.below {w w' : World} {R : Nat} {vi vw : Value} {wh : Bool} (h : YBox w R vi vw wh) (hb : Below w.heap.size w w') : YBox w' R vi vw wh := h.of (hb.block R h.lt)
theorem YBox.set0 {w : World} {R : Nat} {vi vw : Value} {wh : Bool} (h : YBox w R vi vw wh) (u : Value) : YBox (w.setCell ⟨R, 0, none⟩ u) R u vw wh := by
  have := heap_setCell_same w R 0 #[vi, vw, .bool wh] 109 u h
  unfold YBox; rw [this]; rfl
theorem YBox.set1 {w : World} {R : Nat} {vi vw : Value} {wh : Bool} (h : YBox w R vi vw wh) (u : Value) : YBox (w.setCell ⟨R, 1, none⟩ u) R vi u wh := by
  have := heap_setCell_same w R 1 #[vi, vw, .bool wh] 109 u h
  unfold YBox; rw [this]; rfl
theorem YBox.set2 {w : World} {R : Nat} {vi vw : Value} {wh : Bool} (h : YBox w R vi vw wh) (u : Bool) : YBox (w.setCell ⟨R, 2, none⟩ (.bool u)) R vi vw u := by
  have := heap_setCell_same w R 2 #[vi, vw, .bool wh] 109 (.bool u) h
  unfold YBox; rw [this]; rfl
theorem YBox.notOwn {w : World} {R : Nat} {vi vw : Value} {wh : Bool} (h : YBox w R vi vw wh) {base : Nat} {size n : Nat} {v : Value} {xs : List Value} {e : TypeId} (he : e ≠ 109) (ho : w.ownsRow base e size v n xs) : v.ownBlock ≠ some R := by
  rcases ho.2 with ⟨rfl, _⟩ | ⟨g, cap, cur, rfl, _, hg, _⟩
  · simp [Value.ownBlock]
  · intro hh
    simp only [Value.ownBlock, Option.some.injEq] at hh
    subst hh
    unfold YBox at h
    rw [h] at hg
    simp only [Option.some.injEq, Obj.cells.injEq] at hg
    exact he hg.2.1.symm
theorem own_same {w w' : World} {base : Nat} {e : TypeId} {size n : Nat} {v : Value} {xs : List Value} (h : w.ownsRow base e size v n xs) (hb : ∀ g, v.ownBlock = some g → w'.heap[g]? = w.heap[g]?) : w'.ownsRow base e size v n xs := by
  refine ⟨h.1, ?_⟩
  rcases h.2 with h' | ⟨g, cap, cur, rfl, hbg, hg, hr⟩
  · exact .inl h'
  · exact .inr ⟨g, cap, cur, rfl, hbg, by rw [hb g rfl]; exact hg, hr⟩
theorem own_ne {w : World} {b1 b2 n m s1 s2 : Nat} {e1 e2 : TypeId} {v1 v2 : Value} {xs ys : List Value} (h : w.ownsRow b1 e1 s1 v1 n xs) (k : w.ownsRow b2 e2 s2 v2 m ys) (he : e1 ≠ e2) (g : Nat) (hg : v1.ownBlock = some g) : v2.ownBlock ≠ some g := by
  rcases h.2 with ⟨rfl, _⟩ | ⟨g1, c1, cur, rfl, _, hg1, _⟩
  · simp [Value.ownBlock] at hg
  · rcases k.2 with ⟨rfl, _⟩ | ⟨g2, c2, cur2, rfl, _, hg2, _⟩
    · simp [Value.ownBlock]
    · intro hh
      simp only [Value.ownBlock, Option.some.injEq] at hg hh
      subst hg hh
      rw [hg1] at hg2
      simp only [Option.some.injEq, Obj.cells.injEq] at hg2
      exact he hg2.2.1
theorem own_cut {w : World} {base g c n : Nat} {e : TypeId} {xs : List Value} (h : w.ownsRow base e 1 (.slice (some ⟨g, 0, none⟩) n c) n xs) (m : Nat) (hm : m ≤ n) : w.ownsRow base e 1 (.slice (some ⟨g, 0, none⟩) m c) m (xs.take m) := by
  have hl : xs.length = n := by have := h.1; rwa [Nat.mul_one] at this
  rcases h.2 with ⟨h', _⟩ | ⟨g', c', cur, h', hb', hg', hc', hm', hz', ht'⟩
  · simp at h'
  · simp only [Value.slice.injEq, Option.some.injEq, Addr.mk.injEq, and_true, true_and] at h'
    obtain ⟨rfl, rfl⟩ := h'
    refine ⟨by rw [List.length_take]; omega, .inr ⟨g, c, cur, rfl, hb', hg', by omega, hm', hz', ?_⟩⟩
    have e2 : cur.toList.take (m * 1) = (cur.toList.take (n * 1)).take (m * 1) := by rw [List.take_take]; congr 1; omega
    rw [e2, ht', Nat.mul_one]
/-- The kinds that wait, as they lie: the last one at the end. -/
def ksV (W : List Int) : List Value := W.reverse.map (Value.int .i64)
theorem ksV_cons (k : Int) (W : List Int) : ksV (k :: W) = ksV W ++ [.int .i64 k] := by simp [ksV]
theorem ksV_len (W : List Int) : (ksV W).length = W.length := by simp [ksV]
/-- A reader: its items, what waits, whether one is whole; all that was there before w0 is as it was. -/
structure Yd (w0 w : World) (R : Nat) (vi vw : Value) (o : List TI) (W : List Int) (wh : Bool) : Prop where
  box : YBox w R vi vw wh
  ownI : w.ownsRow w0.heap.size 102 5 vi o.length (flatItm o)
  ownW : w.ownsRow w0.heap.size 2 1 vw W.length (ksV W)
  kept : Below w0.heap.size w0 w
  hR : w0.heap.size ≤ R
theorem Yd.below {w0 w w' : World} {R : Nat} {vi vw : Value} {o : List TI} {W : List Int} {wh : Bool} (h : Yd w0 w R vi vw o W wh) (hb : Below w.heap.size w w') : Yd w0 w' R vi vw o W wh :=
  ⟨h.box.below hb, own_below h.ownI hb, own_below h.ownW hb, chain h.kept hb, h.hR⟩
theorem Yd.whole {w0 w : World} {R : Nat} {vi vw : Value} {o : List TI} {W : List Int} {wh : Bool} (h : Yd w0 w R vi vw o W wh) (b : Bool) : Yd w0 (w.setCell ⟨R, 2, none⟩ (.bool b)) R vi vw o W b :=
  ⟨h.box.set2 b, ownsRow_setCell_other h.ownI (h.box.notOwn (by decide) h.ownI) _, ownsRow_setCell_other h.ownW (h.box.notOwn (by decide) h.ownW) _, h.kept.setCell h.hR _, h.hR⟩
theorem Yd.formW {w0 w : World} {R : Nat} {vi vw : Value} {o : List TI} {W : List Int} {wh : Bool} (h : Yd w0 w R vi vw o W wh) : ∃ ga c, vw = .slice ga W.length c ∧ W.length ≤ c ∧ c ≤ maxLen ∧ (0 < W.length → ∃ g, ga = some ⟨g, 0, none⟩) := by
  rcases h.ownW.2 with ⟨h1, h2⟩ | ⟨g, c, cur, h1, _, _, h3, h4, _⟩
  · exact ⟨none, 0, by rw [h1, h2], by omega, by unfold maxLen; omega, fun h => by omega⟩
  · exact ⟨some ⟨g, 0, none⟩, c, h1, h3, h4, fun _ => ⟨g, rfl⟩⟩
theorem Yd.formI {w0 w : World} {R : Nat} {vi vw : Value} {o : List TI} {W : List Int} {wh : Bool} (h : Yd w0 w R vi vw o W wh) : ∃ ga c, vi = .slice ga o.length c := by
  rcases h.ownI.2 with ⟨h1, h2⟩ | ⟨g, c, cur, h1, _⟩
  · exact ⟨none, 0, by rw [h1, h2]⟩
  · exact ⟨some ⟨g, 0, none⟩, c, h1⟩
/-- What waits last is taken off. -/
theorem Yd.cut {w0 w : World} {R : Nat} {vi : Value} {g c : Nat} {o : List TI} {k : Int} {W : List Int} {wh : Bool} (h : Yd w0 w R vi (.slice (some ⟨g, 0, none⟩) (k :: W).length c) o (k :: W) wh) : Yd w0 (w.setCell ⟨R, 1, none⟩ (.slice (some ⟨g, 0, none⟩) W.length c)) R vi (.slice (some ⟨g, 0, none⟩) W.length c) o W wh := by
  have h2 : w.ownsRow w0.heap.size 2 1 (.slice (some ⟨g, 0, none⟩) W.length c) W.length (ksV W) := by
    have := own_cut h.ownW W.length (by simp)
    rw [ksV_cons, List.take_left' (ksV_len W)] at this
    exact this
  exact ⟨h.box.set1 _, ownsRow_setCell_other h.ownI (h.box.notOwn (by decide) h.ownI) _, ownsRow_setCell_other h2 (h.box.notOwn (by decide) h2) _, h.kept.setCell h.hR _, h.hR⟩
/-- An item more, in the world behind the append and behind the store. -/
theorem Yd.pushI {w0 w w2 : World} {R : Nat} {vi vw : Value} {o : List TI} {W : List Int} {wh : Bool} (h : Yd w0 w R vi vw o W wh) (ob : Obj) (x : TI) {v' : Value}
    (own2 : w2.ownsRow w0.heap.size 102 5 v' (o.length + 1) (flatItm o ++ [.int .i64 x.1, .int .i64 x.2.1.1, .int .i64 x.2.1.2.1, .string x.2.1.2.2, .string x.2.2])) (hgrow : (w.alloc ob).grownBy w2 vi.ownBlock) :
    ∃ gv cv, v' = .slice (some ⟨gv, 0, none⟩) (o.length + 1) cv ∧ YBox w2 R vi vw wh ∧ Yd w0 (w2.setCell ⟨R, 0, none⟩ v') R v' vw (o ++ [x]) W wh := by
  have hA : Yd w0 (w.alloc ob) R vi vw o W wh := h.below ((Below.refl _ _).alloc (Nat.le_refl _) _)
  have hbox2 : YBox w2 R vi vw wh := hA.box.of (hgrow.block R hA.box.lt (fun e => hA.box.notOwn (by decide) hA.ownI e.symm))
  have hk2 : Below w0.heap.size w0 w2 := by
    refine hA.kept.grown hgrow hA.kept.size ?_
    intro kk hkk
    exact (h.ownI.lt kk hkk).1
  have own3 : w2.ownsRow w0.heap.size 102 5 v' (o ++ [x]).length (flatItm (o ++ [x])) := by
    rw [flatItm_append, List.length_append]
    exact own2
  have ownw : w2.ownsRow w0.heap.size 2 1 vw W.length (ksV W) := own_same hA.ownW (fun g hg => hgrow.block g (hA.ownW.lt g hg).2 (fun e => own_ne hA.ownW hA.ownI (by decide) g hg e.symm))
  obtain ⟨gv, cv, hv⟩ : ∃ gv cv, v' = .slice (some ⟨gv, 0, none⟩) (o.length + 1) cv := by
    rcases own2.2 with ⟨h', h''⟩ | ⟨gv, cv, cur, h', _⟩
    · exfalso; simp at h''
    · exact ⟨gv, cv, h'⟩
  exact ⟨gv, cv, hv, hbox2, hbox2.set0 _, ownsRow_setCell_other own3 (hbox2.notOwn (by decide) own3) _, ownsRow_setCell_other ownw (hbox2.notOwn (by decide) ownw) _, hk2.setCell h.hR _, h.hR⟩
/-- A kind more that waits. -/
theorem Yd.pushW {w0 w w2 : World} {R : Nat} {vi vw : Value} {o : List TI} {W : List Int} {wh : Bool} (h : Yd w0 w R vi vw o W wh) (ob : Obj) (k : Int) {v' : Value}
    (own2 : w2.ownsRow w0.heap.size 2 1 v' (W.length + 1) (ksV W ++ [.int .i64 k])) (hgrow : (w.alloc ob).grownBy w2 vw.ownBlock) :
    ∃ gv cv, v' = .slice (some ⟨gv, 0, none⟩) (W.length + 1) cv ∧ YBox w2 R vi vw wh ∧ Yd w0 (w2.setCell ⟨R, 1, none⟩ v') R vi v' o (k :: W) wh := by
  have hA : Yd w0 (w.alloc ob) R vi vw o W wh := h.below ((Below.refl _ _).alloc (Nat.le_refl _) _)
  have hbox2 : YBox w2 R vi vw wh := hA.box.of (hgrow.block R hA.box.lt (fun e => hA.box.notOwn (by decide) hA.ownW e.symm))
  have hk2 : Below w0.heap.size w0 w2 := by
    refine hA.kept.grown hgrow hA.kept.size ?_
    intro kk hkk
    exact (h.ownW.lt kk hkk).1
  have own3 : w2.ownsRow w0.heap.size 2 1 v' (k :: W).length (ksV (k :: W)) := by
    rw [ksV_cons]
    exact own2
  have owni : w2.ownsRow w0.heap.size 102 5 vi o.length (flatItm o) := own_same hA.ownI (fun g hg => hgrow.block g (hA.ownI.lt g hg).2 (fun e => own_ne hA.ownI hA.ownW (by decide) g hg e.symm))
  obtain ⟨gv, cv, hv⟩ : ∃ gv cv, v' = .slice (some ⟨gv, 0, none⟩) (W.length + 1) cv := by
    rcases own2.2 with ⟨h', h''⟩ | ⟨gv, cv, cur, h', _⟩
    · exfalso; simp at h''
    · exact ⟨gv, cv, h'⟩
  exact ⟨gv, cv, hv, hbox2, hbox2.set1 _, ownsRow_setCell_other owni (hbox2.notOwn (by decide) owni) _, ownsRow_setCell_other own3 (hbox2.notOwn (by decide) own3) _, hk2.setCell h.hR _, h.hR⟩
/-- How many wait, off the memory. -/
def waitOf (R : Nat) (w : World) : Nat := match w.cell? ⟨R, 1, none⟩ with
  | some (.slice _ n _) => n
  | _ => 0
theorem Yd.waitOf {w0 w : World} {R : Nat} {vi vw : Value} {o : List TI} {W : List Int} {wh : Bool} (h : Yd w0 w R vi vw o W wh) : waitOf R w = W.length := by
  obtain ⟨ga, c, rfl, _⟩ := h.formW
  unfold Go.Proofs.YtfokdblojlmnlabGreatDoor.waitOf
  rw [h.box.cells.2.1]
theorem infoInt : (Tryz.prog.info? 2).map (fun i => (i.zero, i.size, i.bytes)) = some (some (.int .i64 0), 1, 8) := by kernel_rfl
theorem cells1K (w : World) (x : Value) : ∀ j u, [x][j]? = some u → (w.alloc (.cells #[x] 2)).cell? ((⟨w.heap.size, 0, none⟩ : Addr).add j) = some u := by
  intro j u hj
  match j, hj with
  | 0, hj => simp at hj; subst hj; simp [Addr.add]
end Go.Proofs.YtfokdblojlmnlabGreatDoor
