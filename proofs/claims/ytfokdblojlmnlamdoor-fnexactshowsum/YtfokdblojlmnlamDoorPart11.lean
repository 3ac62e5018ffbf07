/-
  A part of the proof: ShowI9, Lists4, Open1, Open5, Laid, LaidSg.
-/
import Derived.Test.YtfokdblojlmnlamDoorPart9
import Derived.Test.YtfokdblojlmnlamDoorPart10
import Derived.Test.YtfokdblojlmnlamDoorPart4
import Derived.Deep.SlicePairs
import Derived.Lib.SmallJoins
import Derived.Test.YtfokdblojlmnlamDoorPart5
import Derived.LaidMore
import Derived.Stop.LaidErr
import Derived.Lib.LaidTab
import Derived.Stop.Joined
import Derived.ProofKit
import Derived.LaidLaws
import Derived.OpenVars
import Derived.ChangeVars

/-
  The contract of the program's ShowSum.
-/
namespace Go.Proofs.YtfokdblojlmnlamDoor
open Go.ChangeShapes Go.WideShapes Go.ChangeAt Go.RowKit
attribute [local go_sem ↓] Go.wp_at_zero Go.wp_at_succ
attribute [local simp] World.cell?_alloc_past World.cell?_alloc_at World.frozen?_alloc_at cell_far cell_off cell_here World.frozen?_alloc_past

/-- The text that an item makes of a pile. -/
def stepX (P : List ByteArray) (x : TI) : ByteArray :=
  if needsI x.1 = 0 then leafX x else if needsI x.1 = 1 then oneX x.1 (P.getD (P.length - 1) ⟨#[]⟩) else twoX x.1 (P.getD (P.length - 2) ⟨#[]⟩) (P.getD (P.length - 1) ⟨#[]⟩)
theorem showStep_eq (P : List ByteArray) (x : TI) (h : needsI x.1 ≤ P.length) : showStep P x = P.take (P.length - needsI x.1) ++ [stepX P x] := by
  unfold stepX
  rcases needs_012 x.1 with e | e | e
  · unfold showStep
    rw [if_pos e, if_pos e, e, Nat.sub_zero, List.take_length]
  · obtain ⟨m, hm⟩ : ∃ m, P.length = m + 1 := ⟨P.length - 1, by omega⟩
    obtain ⟨R, u, rfl, hR⟩ := snoc_of hm
    rw [showStep_one e, if_neg (by omega), if_pos e, e]
    have e1 : (R ++ [u]).length - 1 = R.length := by simp
    rw [e1]
    simp [List.getD]
  · obtain ⟨m, hm⟩ : ∃ m, P.length = m + 1 + 1 := ⟨P.length - 2, by omega⟩
    obtain ⟨R, v, rfl, hR⟩ := snoc_of hm
    obtain ⟨R, u, rfl, hR2⟩ := snoc_of hR
    rw [showStep_two e, if_neg (by omega), if_neg (by omega), e]
    have e1 : (R ++ [u] ++ [v]).length - 2 = R.length := by simp
    have e2 : (R ++ [u] ++ [v]).length - 1 = R.length + 1 := by simp
    rw [e1, e2]
    have g1 : (R ++ [u] ++ [v]).getD R.length ⟨#[]⟩ = u := by simp [List.getD]
    have g2 : (R ++ [u] ++ [v]).getD (R.length + 1) ⟨#[]⟩ = v := by simp [List.getD]
    rw [g1, g2]
    simp
theorem text_any (x : TI) (hi : itemB x = true) (P : List ByteArray) (p q : Nat) (hp : P.length = p) (hq : needsI x.1 = q) (hle : q ≤ p) (hsz : sizesP P ≤ 1048576) (g pc : Nat) (pa : Option Addr) (hpa : 0 < q → pa = some ⟨g, p - q, none⟩) (w : World) (hrow : ∀ j (h : j < P.length), w.cell? ⟨g, j, none⟩ = some (.string P[j])) (hw : PowAt w) (he : ErrAt w) (hs : SgnAt w) (z : ByteArray) (hz : stepX P x = z) :
    Calls Tryd.prog 18 #[.agg #[.int .i64 x.1, .int .i64 x.2.1.1, .int .i64 x.2.1.2.1, .string x.2.1.2.2, .string x.2.2], .slice pa q pc] w fun e w' => e = .returned (.string z) ∧ Below w.heap.size w w' := by
  subst hp
  unfold stepX at hz
  rcases needs_012 x.1 with e | e | e
  · obtain rfl : 0 = q := e.symm.trans hq
    rw [if_pos e] at hz
    exact text0_impl x hi (leafX_size hi e).1 pa pc w hw he hs z hz
  · obtain rfl : 1 = q := e.symm.trans hq
    rw [if_neg (by omega), if_pos e] at hz
    have hk : x.1 = 11 ∨ x.1 = 12 := by
      have h1 : x.1 ≠ 1 := fun h => by rw [h] at e; exact absurd e (by decide)
      have h2 : x.1 ≠ 2 := fun h => by rw [h] at e; exact absurd e (by decide)
      have h3 := item_op hi h1 h2
      unfold needsI at e
      split at e
      · cases e
      · split at e
        · omega
        · cases e
    have hlt : P.length - 1 < P.length := by omega
    have hg : P.getD (P.length - 1) ⟨#[]⟩ = P[P.length - 1] := by simp [List.getD, hlt]
    rw [hg] at hz
    rw [hpa (by omega)]
    have := sizesP_get P _ hlt
    exact text1_impl x hk g _ pc _ w (hrow _ hlt) (by omega) hs z hz
  · obtain rfl : 2 = q := e.symm.trans hq
    rw [if_neg (by omega), if_neg (by omega)] at hz
    have hk : 3 ≤ x.1 ∧ x.1 ≤ 10 := by
      have h1 : x.1 ≠ 1 := fun h => by rw [h] at e; exact absurd e (by decide)
      have h2 : x.1 ≠ 2 := fun h => by rw [h] at e; exact absurd e (by decide)
      have h3 := item_op hi h1 h2
      unfold needsI at e
      split at e
      · cases e
      · split at e
        · cases e
        · omega
    have hlt : P.length - 1 < P.length := by omega
    have hlt2 : P.length - 2 < P.length := by omega
    have hg : P.getD (P.length - 1) ⟨#[]⟩ = P[P.length - 1] := by simp [List.getD, hlt]
    have hg2 : P.getD (P.length - 2) ⟨#[]⟩ = P[P.length - 2] := by simp [List.getD, hlt2]
    rw [hg, hg2] at hz
    rw [hpa (by omega)]
    have s1 := sizesP_get P _ hlt
    have s2 := sizesP_get P _ hlt2
    have r1 := hrow _ hlt
    have e1 : P.length - 2 + 1 = P.length - 1 := by omega
    exact text2_impl x hk g (P.length - 2) pc _ _ w (hrow _ hlt2) (by rw [e1]; exact r1) (by omega) (by omega) hs z hz
theorem showP_size : ∀ (l : List TI) (P : List ByteArray) (m : Nat), heapN l P.length = some m → sizesP (showP l P) ≤ sizesP P + 14 * l.length
  | [], P, m, _ => by simp [showP_nil]
  | x :: l, P, m, h => by
    unfold heapN at h
    split at h
    · rename_i hc
      have h1 := showStep_size (P := P) hc.1 hc.2
      have h2 := showP_size l (showStep P x) m (by rw [showStep_len P x hc.2]; exact h)
      show sizesP (showP l (showStep P x)) ≤ _
      simp only [List.length_cons]
      omega
    · cases h
set_option maxRecDepth 100000 in
set_option maxHeartbeats 4000000 in
theorem showsum_impl (a : Option Addr) (cap : Nat) (l : List TI) (n : Nat) (hnl : l.length = n) (w : World) (hrow : ItmAt w a l) (hfit : FitI l) (hm : n ≤ maxLen) (hp : PowAt w) (he : ErrAt w) (hs : SgnAt w) (y : ByteArray) (hy : sumT l = y) :
    Calls Tryd.prog 8 #[.slice a n cap] w fun e w' => e = .returned (.string y) ∧ Below w.heap.size w w' := by
  obtain ⟨i0, hti, hz0, hz1, hz2⟩ := info_parts infoStr
  have HR : Hid (ItmAt w a l) := hrow
  have HF : Hid (FitI l) := hfit
  have HP : Hid (PowAt w) := hp
  have HE : Hid (ErrAt w) := he
  have HSg : Hid (SgnAt w) := hs
  have HL : Hid (l.length = n) := hnl
  have HY : Hid (sumT l = y) := hy
  obtain ⟨b, hb⟩ : ∃ b, sumB l = b := ⟨_, rfl⟩
  have HB : Hid (sumB l = b) := hb
  clear hrow hfit hp he hs hnl hy hb
  go_enter Tryd.func8, Tryd.ntmps8
  go_wp2_with fail
  refine (sum_impl a cap l n HL.out _ HR.out HF.out hm HP.out HE.out b HB.out).mono ?_
  rintro e w1 ⟨rfl, hb1⟩
  cases b
  · obtain rfl : y = ⟨#[]⟩ := by rw [← HY.out]; unfold sumT; rw [if_neg (by rw [HB.out]; decide)]
    go_wp2
    go_ret
    exact ⟨rfl, hb1⟩
  have hsum := HB.out
  unfold sumB at hsum
  simp only [Bool.and_eq_true, decide_eq_true_eq] at hsum
  obtain ⟨hh1, h40⟩ := hsum
  rw [HL.out] at h40
  have HH : Hid (heapN l 0 = some 1) := hh1
  clear hh1
  go_wp2
  have hb2 : Below w.heap.size w (w1.alloc (.cells #[] 9)) := hb1.alloc hb1.size _
  have own0 : Hid ((w1.alloc (.cells #[] 9)).ownsRow w.heap.size 9 1 (.slice (some ⟨w1.heap.size, 0, none⟩) 0 0) (showP (l.take 0) []).length ((showP (l.take 0) []).map Value.string)) :=
    ⟨rfl, .inr ⟨w1.heap.size, 0, #[], rfl, hb1.size, by show (w1.heap.push _)[w1.heap.size]? = _; simp, Nat.le_refl _, by unfold maxLen; omega, rfl, rfl⟩⟩
  go_loopw [3, 14] (fun v kk wr => ∃ k : Nat, k ≤ n ∧ kk = .int .i64 k ∧ Hid (wr.ownsRow w.heap.size 9 1 v (showP (l.take k) []).length ((showP (l.take k) []).map Value.string)) ∧ Below w.heap.size w wr ∧ v ≠ .slice none 0 0) (fun _ kk _ => n - (intOf kk).toNat)
  case atStart => exact ⟨0, Nat.zero_le _, rfl, own0, hb2, by simp⟩
  case round =>
    obtain ⟨k, hk, rfl, hO, hb, hvn⟩ := hrel
    clear own0 hb2 hb1
    by_cases hlt : k < n
    · have hlk : k < l.length := by rw [HL.out]; exact hlt
      obtain ⟨g, o, rfl, hgw, c0, c1, c2, c3, c4⟩ := HR.out.below hb k hlk
      have hi0 : (0 : Int) ≤ (k : Int) := by omega
      have hi1 : (k : Int) < (n : Int) := by omega
      obtain ⟨p, hh, hit, hnd⟩ := heapN_take HH.out k hlk
      have hpl : (showP (l.take k) []).length = p := showP_len (l.take k) [] p hh
      have hsz : sizesP (showP (l.take k) []) ≤ 560 := by
        have h1 := showP_size (l.take k) [] p hh
        rw [List.length_take] at h1
        have h2 : sizesP [] = 0 := rfl
        omega
      have hpk : p ≤ k := by
        have := heapN_le _ _ _ hh
        rw [List.length_take] at this
        omega
      have hsn : showP (l.take (k + 1)) [] = showStep (showP (l.take k) []) l[k] := by
        rw [List.take_succ_eq_append_getElem hlk, showP_append, showP_one]
      have hOO := hO.out
      rw [hpl] at hOO
      generalize showP (l.take k) [] = P at hpl hsz hsn hOO
      obtain ⟨q, hq⟩ : ∃ q, needsI l[k].1 = q := ⟨_, rfl⟩
      have hqp : needsP l[k].1 = q := by rw [needsP_ok hit]; exact hq
      rw [hq] at hnd
      obtain ⟨z, hz⟩ : ∃ z, stepX P l[k] = z := ⟨_, rfl⟩
      obtain ⟨fr, hfr⟩ : ∃ fr, p - q = fr := ⟨_, rfl⟩
      have HFin : Hid (showP (l.take (k + 1)) [] = P.take fr ++ [z]) := by
        have : showP (l.take (k + 1)) [] = P.take fr ++ [z] := by
          rw [hsn, showStep_eq P _ (by rw [hq, hpl]; exact hnd), hq, hpl, hfr, hz]
        exact this
      rcases hOO.2 with ⟨h', _⟩ | ⟨gp, cp, cur, h', hbg, hcur, hcap, hcpm, _⟩
      · exact absurd h' hvn
      subst h'
      have HIT : Hid (itemB l[k] = true) := hit
      have HQ : Hid (needsI l[k].1 = q) := hq
      have HQP : Hid (needsP l[k].1 = q) := hqp
      have HZ : Hid (stepX P l[k] = z) := hz
      have HPL : Hid (P.length = p) := hpl
      have HSZ : Hid (sizesP P ≤ 1048576) := by
        have : sizesP P ≤ 1048576 := by omega
        exact this
      have hfr2 : (p : Int) - (q : Int) = (fr : Int) := by omega
      have hfr0 : (0 : Int) ≤ (fr : Int) := by omega
      have hfr3 : (fr : Int) ≤ (p : Int) := by omega
      have hpc3 : (p : Int) ≤ (cp : Int) := by omega
      have hfc3 : (fr : Int) ≤ (cp : Int) := by omega
      have hpf : (p : Int) - (fr : Int) = (q : Int) := by omega
      have hfp : fr ≤ p := by omega
      have hpm : (p : Int) ≤ 9223372036854775807 := by unfold maxLen at hcpm; omega
      have hqm : q ≤ 2 := by rw [← hqp]; exact needsP_le _
      clear hit hq hqp hz hsn hh hcur hsz hpl
      generalize l[k] = x at c0 c1 c2 c3 c4 HIT HQ HQP HZ
      obtain ⟨xk, ⟨xa, xb, xc⟩, xs⟩ := x
      dsimp only at c0 c1 c2 c3 c4 HQ HQP
      obtain ⟨V, hV⟩ : ∃ V, V = wr.alloc (.cells #[.int .i64 xk, .int .i64 xa, .int .i64 xb, .string xc, .string xs] 37) := ⟨_, rfl⟩
      have hbV : Below wr.heap.size wr V := by rw [hV]; exact (Below.refl _ _).alloc (Nat.le_refl _) _
      have hX5 := box5 (w := wr) (w1 := V) (a := .int .i64 xk) (b := .int .i64 xa) (c := .int .i64 xb) (d := .string xc) (e := .string xs) (T := 37) (by rw [hV]; exact Below.refl _ _)
      obtain ⟨e0, e1, e2, e3, e4, eB⟩ := hX5
      have O2 : Hid (V.ownsRow w.heap.size 9 1 (.slice (some ⟨gp, 0, none⟩) p cp) p (P.map Value.string)) := own_below hOO hbV
      have hxV := chain hb hbV
      go_wp2_with fail
      rw [← hV]
      obtain ⟨XB, hXB⟩ : ∃ XB, wr.heap.size = XB := ⟨_, rfl⟩
      rw [hXB] at e0 e1 e2 e3 e4 eB ⊢
      clear hV hbV hOO hO c0 c1 c2 c3 c4 hb
      refine (needs_impl xk q HQP.out _).mono ?_
      rintro e w2 ⟨rfl, hw2⟩
      replace hw2 := hw2.symm
      subst hw2
      go_wp2_with fail
      refine wp_region_held_drew (S := (fun w' => w'.cell? ⟨XB, 0, none⟩ = some (.int .i64 xk) ∧ w'.cell? ⟨XB, 1, none⟩ = some (.int .i64 xa) ∧ w'.cell? ⟨XB, 2, none⟩ = some (.int .i64 xb) ∧ w'.cell? ⟨XB, 3, none⟩ = some (.string xc) ∧ w'.cell? ⟨XB, 4, none⟩ = some (.string xs))) (by kernel_rfl) ?_ (fun hHeld => ?_)
      · (((try dsimp only); (repeat' apply And.intro) <;> first | (go_keep; done) | (simp (disch := first | omega | (simp <;> omega) | fail) [*]; done) | fail))
      refine wpAnyH_take (i := 0) (by simp only [List.getElem?_toArray, List.getElem?_cons_zero]; rfl) (by kernel_rfl) (by kernel_rfl) (by kernel_rfl) (by intro _ _ _ h; exact h) (Or.inl ⟨by rfl, fun w hSw => by (dsimp only at hSw; go_simp; (try with_reducible rfl))⟩) (by assumption) ?_
      simp only [Act.put, List.setIfInBounds_toArray, List.set_cons_zero, List.set_cons_succ]
      refine wpAnyH_take (i := 1) (by simp only [List.getElem?_toArray, List.getElem?_cons_zero, List.getElem?_cons_succ]; rfl) (by kernel_rfl) (by kernel_rfl) (by kernel_rfl) (by intro _ _ _ h; exact h) (Or.inl ⟨by rfl, fun w hSw => by (dsimp only at hSw; go_simp; (try with_reducible rfl))⟩) (by assumption) ?_
      simp only [Act.put, List.setIfInBounds_toArray, List.set_cons_zero, List.set_cons_succ]
      refine wpAnyH_take (i := 2) (by simp only [List.getElem?_toArray, List.getElem?_cons_zero, List.getElem?_cons_succ]; rfl) (by kernel_rfl) (by kernel_rfl) (by kernel_rfl) (by intro _ _ _ h; exact h) (Or.inl ⟨by rfl, fun w hSw => by (dsimp only at hSw; go_simp; (try with_reducible rfl))⟩) (by assumption) ?_
      simp only [Act.put, List.setIfInBounds_toArray, List.set_cons_zero, List.set_cons_succ]
      refine wpAnyH_take (i := 3) (by simp only [List.getElem?_toArray, List.getElem?_cons_zero, List.getElem?_cons_succ]; rfl) (by kernel_rfl) (by kernel_rfl) (by kernel_rfl) (by intro _ _ _ h; exact h) (Or.inl ⟨by rfl, fun w hSw => by (dsimp only at hSw; go_simp; (try with_reducible rfl))⟩) (by assumption) ?_
      simp only [Act.put, List.setIfInBounds_toArray, List.set_cons_zero, List.set_cons_succ]
      refine wpAnyH_ready (rs := [4]) (by kernel_rfl) (by simp) ?_
      refine AllReadyH.cons (by simp only [List.getElem?_toArray, List.getElem?_cons_zero, List.getElem?_cons_succ]; rfl) ?_ AllReadyH.nil
      intro K hK
      go_simp
      have hpq : p - fr = q := by omega
      rw [hpq]
      obtain ⟨pa, hpa⟩ : ∃ pa : Option Addr, (if cp = fr then some ⟨gp, 0, none⟩ else some ⟨gp, fr, none⟩) = pa := ⟨_, rfl⟩
      rw [hpa]
      have HPA : Hid (0 < q → pa = some ⟨gp, p - q, none⟩) := by
        have : 0 < q → pa = some ⟨gp, p - q, none⟩ := fun h0 => by rw [← hpa, if_neg (by omega), hfr]
        exact this
      clear hpa
      have hdr : Below V.heap.size V V.drew := (Below.refl _ _).drew
      have O3 : Hid (V.drew.ownsRow w.heap.size 9 1 (.slice (some ⟨gp, 0, none⟩) p cp) p (P.map Value.string)) := own_below O2.out hdr
      have hxd : Below w.heap.size w V.drew := chain hxV hdr
      refine (text_any (xk, (xa, xb, xc), xs) HIT.out P p q HPL.out HQ.out hnd HSZ.out gp _ _ HPA.out V.drew (fun j hj => by
        have := O3.out.cellAt j (by rw [← HPL.out]; simpa using hj)
        rw [this]; simp) (HP.out.below hxd) (HE.out.below hxd) (HSg.out.below hxd) z HZ.out).mono ?_
      rintro e w3 ⟨rfl, hb3⟩
      have hb3' := undrew hb3
      obtain ⟨e0, e1, e2, e3, e4, eB⟩ := later5 hb3' ⟨e0, e1, e2, e3, e4, eB⟩
      have hx3 := chain hxV hb3'
      have O4 : Hid (w3.ownsRow w.heap.size 9 1 (.slice (some ⟨gp, 0, none⟩) p cp) p (P.map Value.string)) := own_below O2.out hb3'
      clear O2 O3 hb3 hb3' hxV hdr hxd
      go_wp2_with fail
      refine hK.out _ _ ?_ (fun hHeld => ?_)
      · (((try dsimp only); (repeat' apply And.intro) <;> first | (go_keep; done) | (simp (disch := first | omega | (simp <;> omega) | fail) [*]; done) | fail))
      clear hK K
      try simp only [Act.put, List.setIfInBounds_toArray, List.set_cons_zero, List.set_cons_succ]
      refine wpAnyH_take (i := 5) (by simp only [List.getElem?_toArray, List.getElem?_cons_zero, List.getElem?_cons_succ]; rfl) (by kernel_rfl) (by kernel_rfl) (by kernel_rfl) (by intro _ _ _ h; exact h) (Or.inl ⟨by rfl, fun w hSw => by (dsimp only at hSw; go_simp; (try with_reducible rfl))⟩) (by assumption) ?_
      simp only [Act.put, List.setIfInBounds_toArray, List.set_cons_zero, List.set_cons_succ]
      refine wpAnyH_done (by kernel_rfl) ?_ _
      clear e0 e1 e2 e3 e4 eB hHeld
      have O5 : Hid (w3.ownsRow w.heap.size 9 1 (.slice (some ⟨gp, 0, none⟩) fr cp) fr ((P.take fr).map Value.string)) := own_shrink O4.out fr hfp
      clear O4
      go_wp2_with (at_builtin; refine wpList_append_own _ rfl _ _ 39 rfl w.heap.size 9 i0 (.string ⟨#[]⟩) 1 16 Tryd.underlying39 hti hz0 hz1 hz2 rfl (by decide) _ _ _ rfl (O5.out.alloc _) ⟨w3.heap.size, 0, none⟩ 1 1 [.string z] rfl rfl (cells1S w3 _) (by intro u hu; simp at hu; subst hu; rfl) (by unfold maxLen; omega) (by omega) (by have := hx3.size; simp; omega) ?_)
      intro v' w4 own4 hgrow hnn
      have hx4 : Below w.heap.size w w4 := by
        refine (hx3.alloc hx3.size _).grown hgrow (by have := hx3.size; simp; omega) ?_
        intro kk hkk
        exact (O5.out.lt kk hkk).1
      have hvn2 : v' ≠ .slice none 0 0 := by first | exact hnn | exact fun e => by simp at e hnn
      have SS : Hid (w4.ownsRow w.heap.size 9 1 v' (showP (l.take (k + 1)) []).length ((showP (l.take (k + 1)) []).map Value.string)) := by
        have hl : (P.take fr).length = fr := by rw [List.length_take, HPL.out]; omega
        have : w4.ownsRow w.heap.size 9 1 v' (showP (l.take (k + 1)) []).length ((showP (l.take (k + 1)) []).map Value.string) := by
          rw [HFin.out, List.length_append, hl, List.map_append, List.map_take]
          exact own4
        exact this
      clear own4 hgrow hnn O5
      go_wp2
      go_roundw
      case rel => exact ⟨k + 1, by omega, by go_num, SS, hx4, hvn2⟩
      case measure => simp [intOf]; omega
    · have hkl : k = n := by omega
      subst hkl
      have hi1 : ¬ (k : Int) < (k : Int) := by omega
      have hO2 := hO.out
      rw [List.take_of_length_le (by rw [HL.out]; exact Nat.le_refl _)] at hO2
      have hl1 := showP_len l [] 1 HH.out
      have hy2 := HY.out
      unfold sumT at hy2
      rw [if_pos HB.out] at hy2
      rw [hl1] at hO2
      obtain ⟨R, u, hP, hR⟩ := snoc_of (m := 0) hl1
      obtain rfl : R = [] := List.length_eq_zero_iff.1 hR
      rw [hP] at hO2 hy2
      obtain rfl : u = y := hy2
      rcases hO2.2 with ⟨h', _⟩ | ⟨gp, cp, cur, h', hbg, _⟩
      · exact absurd h' hvn
      subst h'
      have hc := hO2.cellAt 0 (by omega)
      simp only [List.nil_append, List.map_cons, List.map_nil, List.getElem?_cons_zero] at hc
      clear hO hO2 HY hP hl1 HH
      go_wp2
      go_ret
      exact ⟨rfl, hb⟩
end Go.Proofs.YtfokdblojlmnlamDoor

/-
  Lists of lists of cells: how they lie in memory, and the contracts of the law's helpers that measure them and hold two of them against each other.
-/
namespace Go.Proofs.YtfokdblojlmnlamDoor
open Go.ChangeShapes Go.WideShapes Go.ChangeAt Go.RowKit
attribute [local go_sem ↓] Go.wp_at_zero Go.wp_at_succ

/-- The lists of a slice of slices lie where it says. -/
def RowsAt (w : World) (a : Option Addr) (L : List (List CT)) : Prop :=
  ∀ i (h : i < L.length), ∃ b o ai ci, a = some ⟨b, o, none⟩ ∧ b < w.heap.size ∧ w.cell? ⟨b, o + i, none⟩ = some (.slice ai L[i].length ci) ∧ RowAt w ai L[i] ∧ Fit L[i] ∧ L[i].length ≤ maxLen ∧ (ai = none → ci = 0)
theorem RowsAt.below {w w' : World} {a : Option Addr} {L : List (List CT)} (h : RowsAt w a L) (hb : Below w.heap.size w w') : RowsAt w' a L := by
  intro i hi
  obtain ⟨b, o, ai, ci, ha, hlt, h0, h1, h2⟩ := h i hi
  refine ⟨b, o, ai, ci, ha, Nat.lt_of_lt_of_le hlt hb.size, ?_, h1.below hb, h2⟩
  rw [hb.cell (p := ⟨b, _, none⟩) hlt]; exact h0
/-- How much a list of lists takes of a measure. -/
def total (L : List (List CT)) : Nat := (L.map fun l => l.length + weight l).sum
theorem total_take (L : List (List CT)) (k : Nat) (h : k < L.length) : total (L.take (k + 1)) = total (L.take k) + ((L[k]).length + weight L[k]) := by
  unfold total
  rw [List.take_succ_eq_append_getElem h, List.map_append, List.sum_append]; simp
theorem total_le (L : List (List CT)) (k : Nat) : total (L.take k) ≤ total L := by
  unfold total
  conv => rhs; rw [← List.take_append_drop k L, List.map_append, List.sum_append]
  omega

end Go.Proofs.YtfokdblojlmnlamDoor

/-
  A law's argument that is a slice of cells, opened: which list of cells it is, and where they lie.
-/
namespace Go.Proofs.YtfokdblojlmnlamDoor
open Go.ChangeShapes Go.WideShapes Go.ChangeAt Go.RowKit Go.Deep

theorem open_cells {H : Type} {enc : TypeId × Value → H} {P : Program} {w : World} {base : Nat} {spare : Nat → Bool} {held : Bool} {t e : TypeId} {f0 f1 f2 : Field} {fuel : Nat} {a : Option Addr} {len cap : Nat} {x : DataW H × List MemPlace}
    (ht : P.underlying t = some (.slice e)) (he : P.underlying e = some (.struct #[f0, f1, f2])) (ce : P.cellsOf e = 3) (o0 : f0.offset = 0) (o1 : f1.offset = 1) (o2 : f2.offset = 2)
    (c0 : P.cellsOf f0.type = 1) (c1 : P.cellsOf f1.type = 1) (c2 : P.cellsOf f2.type = 1) (u0 : P.underlying f0.type = some (.int .i64)) (u1 : P.underlying f1.type = some (.int .i64)) (u2 : P.underlying f2.type = some .string)
    (h : DataW.trod enc P w base spare held fuel t [.slice a len cap] = some x) :
    ∃ l : List CT, l.length = len ∧ RowAt w a l ∧ Fit l ∧ len ≤ maxLen ∧ (a = none → cap = 0) := by
  rcases open_slice ht h with ⟨h0, _⟩ | ⟨ad, len', cap', m, n, D, Pl, hcs, hb, hl, hm, hmm, _, hx⟩
  · simp at h0
    obtain ⟨rfl, rfl, rfl⟩ := h0
    exact ⟨[], rfl, fun j hj => by simp at hj, fun j hj => by simp at hj, by unfold maxLen; omega, fun _ => rfl⟩
  simp at hcs
  obtain ⟨rfl, rfl, rfl⟩ := hcs
  have hlm : len ≤ m := by rw [hmm]; split <;> omega
  have each : ∀ i, i < len → ∃ q : CT, w.cell? (ad.add (i * 3)) = some (.int .i64 q.1) ∧ w.cell? (ad.add (i * 3 + 1)) = some (.int .i64 q.2.1) ∧ w.cell? (ad.add (i * 3 + 2)) = some (.string q.2.2) ∧ q.2.2.size ≤ maxLen := by
    intro i hi
    obtain ⟨cs', h1, h2⟩ := hx i (by omega)
    rw [ce] at h1
    obtain ⟨_, hlen, hcell⟩ := World.cells?_some h1
    obtain ⟨xs, k, hk, hxy, _, hxl, hf⟩ := DataW.trod_struct he h2
    match xs, hxl, cs', hlen with
    | [y0, y1, y2], _, [v0, v1, v2], _ =>
      have g0 := hf 0 f0 rfl
      have g1 := hf 1 f1 rfl
      have g2 := hf 2 f2 rfl
      simp [o0, o1, o2, c0, c1, c2] at g0 g1 g2
      have e0 := hcell 0 (by omega)
      have e1 := hcell 1 (by omega)
      have e2 := hcell 2 (by omega)
      rw [add_add] at e0 e1 e2
      obtain ⟨k0, ek, _, _⟩ := DataW.trod_int u0 g0
      obtain ⟨n0, en, _, _⟩ := DataW.trod_int u1 g1
      obtain ⟨s0, es, _, hs⟩ := DataW.trod_string u2 g2
      simp at ek en es
      subst ek en es
      exact ⟨(k0, n0, s0), by simpa using e0, by simpa using e1, by simpa using e2, hs⟩
  obtain ⟨q, hq⟩ := choose_lt each
  have spot : 0 < len → ad.spot = none := by
    intro h0
    obtain ⟨e0, _⟩ := hq 0 h0
    simpa [Addr.add] using World.cell?_spot e0
  refine ⟨(List.range len).map q, by simp, ?_, ?_, by omega, fun h => by cases h⟩
  · intro j hj
    have hj' : j < len := by simpa using hj
    obtain ⟨b, o, sp⟩ := ad
    have hsp := spot (by omega)
    simp at hsp
    subst hsp
    obtain ⟨e0, e1, e2, _⟩ := hq j hj'
    have hadd : ∀ q, ((⟨b, o, none⟩ : Addr).add q) = ⟨b, o + q, none⟩ := by
      intro q
      unfold Addr.add
      by_cases hq : q = 0 <;> simp [hq]
    rw [hadd] at e0 e1 e2
    refine ⟨b, o, rfl, World.block_lt_of_cell? w _ e0, ?_, ?_, ?_⟩
    · simpa using e0
    · simpa [Nat.add_assoc] using e1
    · simpa [Nat.add_assoc] using e2
  · intro j hj
    have hj' : j < len := by simpa using hj
    simpa using (hq j hj').2.2.2

theorem open_rows {H : Type} {enc : TypeId × Value → H} {P : Program} {w : World} {base : Nat} {spare : Nat → Bool} {held : Bool} {tt t e : TypeId} {f0 f1 f2 : Field} {fuel : Nat} {a : Option Addr} {len cap : Nat} {x : DataW H × List MemPlace}
    (htt : P.underlying tt = some (.slice t)) (ct : P.cellsOf t = 1) (ht : P.underlying t = some (.slice e)) (he : P.underlying e = some (.struct #[f0, f1, f2])) (ce : P.cellsOf e = 3) (o0 : f0.offset = 0) (o1 : f1.offset = 1) (o2 : f2.offset = 2)
    (c0 : P.cellsOf f0.type = 1) (c1 : P.cellsOf f1.type = 1) (c2 : P.cellsOf f2.type = 1) (u0 : P.underlying f0.type = some (.int .i64)) (u1 : P.underlying f1.type = some (.int .i64)) (u2 : P.underlying f2.type = some .string)
    (h : DataW.trod enc P w base spare held fuel tt [.slice a len cap] = some x) :
    ∃ L : List (List CT), L.length = len ∧ RowsAt w a L ∧ len ≤ maxLen ∧ (a = none → cap = 0) := by
  rcases open_slice htt h with ⟨h0, _⟩ | ⟨ad, len', cap', m, n, D, Pl, hcs, hb, hl, hm, hmm, _, hx⟩
  · simp at h0
    obtain ⟨rfl, rfl, rfl⟩ := h0
    exact ⟨[], rfl, fun j hj => by simp at hj, by unfold maxLen; omega, fun _ => rfl⟩
  simp at hcs
  obtain ⟨rfl, rfl, rfl⟩ := hcs
  have hlm : len ≤ m := by rw [hmm]; split <;> omega
  have each : ∀ i, i < len → ∃ l : List CT, ∃ ai ci, w.cell? (ad.add i) = some (.slice ai l.length ci) ∧ RowAt w ai l ∧ Fit l ∧ l.length ≤ maxLen ∧ (ai = none → ci = 0) := by
    intro i hi
    obtain ⟨cs', h1, h2⟩ := hx i (by omega)
    rw [ct, Nat.mul_one] at h1
    obtain ⟨_, hlen, hcell⟩ := World.cells?_some h1
    match cs', hlen with
    | [v], _ =>
      have e0 := hcell 0 (by omega)
      rw [add_add] at e0
      have e1 : w.cell? (ad.add i) = some v := by simpa using e0
      obtain ⟨ai, li, ci, rfl⟩ : ∃ ai li ci, v = .slice ai li ci := by
        rcases open_slice ht h2 with ⟨hv, _⟩ | ⟨a', l', c', _, _, _, _, hv, _⟩
        · simp at hv; exact ⟨_, _, _, hv⟩
        · simp at hv; exact ⟨_, _, _, hv⟩
      obtain ⟨l, hll, hr, hf, hml, hn⟩ := open_cells ht he ce o0 o1 o2 c0 c1 c2 u0 u1 u2 h2
      subst hll
      exact ⟨l, ai, ci, e1, hr, hf, hml, hn⟩
  obtain ⟨q, hq⟩ := choose_lt each
  have spot : 0 < len → ad.spot = none := by
    intro h0
    obtain ⟨ai, ci, e0, _⟩ := hq 0 h0
    simpa [Addr.add] using World.cell?_spot e0
  refine ⟨(List.range len).map q, by simp, ?_, by omega, fun h => by cases h⟩
  intro j hj
  have hj' : j < len := by simpa using hj
  obtain ⟨b, o, sp⟩ := ad
  have hsp := spot (by omega)
  simp at hsp
  subst hsp
  obtain ⟨ai, ci, e0, hr, hf, hml, hn⟩ := hq j hj'
  have hadd : ((⟨b, o, none⟩ : Addr).add j) = ⟨b, o + j, none⟩ := by
    unfold Addr.add
    by_cases hq : j = 0 <;> simp [hq]
  rw [hadd] at e0
  have hg : ((List.range len).map q)[j] = q j := by simp
  rw [hg]
  exact ⟨b, o, ai, ci, rfl, World.block_lt_of_cell? w _ e0, e0, hr, hf, hml, hn⟩

end Go.Proofs.YtfokdblojlmnlamDoor

/-
  A law's argument that is a slice of items, opened; what the laws ask of lists of items, with their lengths as letters.
-/
namespace Go.Proofs.YtfokdblojlmnlamDoor
open Go.ChangeShapes Go.WideShapes Go.ChangeAt Go.RowKit Go.Deep

theorem open_itms {H : Type} {enc : TypeId × Value → H} {P : Program} {w : World} {base : Nat} {spare : Nat → Bool} {held : Bool} {t e : TypeId} {f0 f1 f2 g0 g1 g2 : Field} {fuel : Nat} {a : Option Addr} {len cap : Nat} {x : DataW H × List MemPlace}
    (ht : P.underlying t = some (.slice e)) (he : P.underlying e = some (.struct #[f0, f1, f2])) (hce : P.underlying f1.type = some (.struct #[g0, g1, g2])) (kk : P.cellsOf e = 5)
    (o0 : f0.offset = 0) (o1 : f1.offset = 1) (o2 : f2.offset = 4) (p0 : g0.offset = 0) (p1 : g1.offset = 1) (p2 : g2.offset = 2)
    (c0 : P.cellsOf f0.type = 1) (c1 : P.cellsOf f1.type = 3) (c2 : P.cellsOf f2.type = 1) (d0 : P.cellsOf g0.type = 1) (d1 : P.cellsOf g1.type = 1) (d2 : P.cellsOf g2.type = 1)
    (u0 : P.underlying f0.type = some (.int .i64)) (u1 : P.underlying f2.type = some .string) (v0 : P.underlying g0.type = some (.int .i64)) (v1 : P.underlying g1.type = some (.int .i64)) (v2 : P.underlying g2.type = some .string)
    (h : DataW.trod enc P w base spare held fuel t [.slice a len cap] = some x) :
    ∃ l : List TI, l.length = len ∧ ItmAt w a l ∧ FitItm l ∧ len ≤ maxLen ∧ (a = none → cap = 0) := by
  rcases open_slice ht h with ⟨h0, _⟩ | ⟨ad, len', cap', m, n, D, Pl, hcs, hb, hl, hm, hmm, _, hx⟩
  · simp at h0
    obtain ⟨rfl, rfl, rfl⟩ := h0
    exact ⟨[], rfl, fun j hj => by simp at hj, fun j hj => by simp at hj, by unfold maxLen; omega, fun _ => rfl⟩
  simp at hcs
  obtain ⟨rfl, rfl, rfl⟩ := hcs
  have hlm : len ≤ m := by rw [hmm]; split <;> omega
  have each : ∀ i, i < len → ∃ q : TI, w.cell? (ad.add (i * 5)) = some (.int .i64 q.1) ∧ w.cell? (ad.add (i * 5 + 1)) = some (.int .i64 q.2.1.1) ∧ w.cell? (ad.add (i * 5 + 2)) = some (.int .i64 q.2.1.2.1) ∧ w.cell? (ad.add (i * 5 + 3)) = some (.string q.2.1.2.2) ∧ w.cell? (ad.add (i * 5 + 4)) = some (.string q.2.2) ∧ q.2.1.2.2.size ≤ maxLen ∧ q.2.2.size ≤ maxLen := by
    intro i hi
    obtain ⟨cs', h1, h2⟩ := hx i (by omega)
    rw [kk] at h1
    obtain ⟨_, hlen, hcell⟩ := World.cells?_some h1
    obtain ⟨xs, k, hk, hxy, _, hxl, hf⟩ := DataW.trod_struct he h2
    match xs, hxl, cs', hlen with
    | [y0, y1, y2], _, [w0, w1, w2, w3, w4], _ =>
      have q0 := hf 0 f0 rfl
      have q1 := hf 1 f1 rfl
      have q2 := hf 2 f2 rfl
      simp [o0, o1, o2, c0, c1, c2] at q0 q1 q2
      obtain ⟨ys, k2, hk2, hyy, _, hyl, hg⟩ := DataW.trod_struct hce q1
      match ys, hyl with
      | [z0, z1, z2], _ =>
        have r0 := hg 0 g0 rfl
        have r1 := hg 1 g1 rfl
        have r2 := hg 2 g2 rfl
        simp [p0, p1, p2, d0, d1, d2] at r0 r1 r2
        have e0 := hcell 0 (by omega)
        have e1 := hcell 1 (by omega)
        have e2 := hcell 2 (by omega)
        have e3 := hcell 3 (by omega)
        have e4 := hcell 4 (by omega)
        rw [add_add] at e0 e1 e2 e3 e4
        obtain ⟨k0, ek, _, _⟩ := DataW.trod_int u0 q0
        obtain ⟨s0, es, _, hs⟩ := DataW.trod_string u1 q2
        obtain ⟨k1, ek1, _, _⟩ := DataW.trod_int v0 r0
        obtain ⟨n1, en1, _, _⟩ := DataW.trod_int v1 r1
        obtain ⟨s1, es1, _, hs1⟩ := DataW.trod_string v2 r2
        simp at ek es ek1 en1 es1
        subst ek es ek1 en1 es1
        exact ⟨(k0, (k1, n1, s1), s0), by simpa using e0, by simpa using e1, by simpa using e2, by simpa using e3, by simpa using e4, hs1, hs⟩
  obtain ⟨q, hq⟩ := choose_lt each
  have spot : 0 < len → ad.spot = none := by
    intro h0
    obtain ⟨e0, _⟩ := hq 0 h0
    simpa [Addr.add] using World.cell?_spot e0
  refine ⟨(List.range len).map q, by simp, ?_, ?_, by omega, fun h => by cases h⟩
  · intro j hj
    have hj' : j < len := by simpa using hj
    obtain ⟨b, o, sp⟩ := ad
    have hsp := spot (by omega)
    simp at hsp
    subst hsp
    obtain ⟨e0, e1, e2, e3, e4, _⟩ := hq j hj'
    have hadd : ∀ q, ((⟨b, o, none⟩ : Addr).add q) = ⟨b, o + q, none⟩ := by
      intro q
      unfold Addr.add
      by_cases hq : q = 0 <;> simp [hq]
    rw [hadd] at e0 e1 e2 e3 e4
    refine ⟨b, o, rfl, World.block_lt_of_cell? w _ e0, ?_, ?_, ?_, ?_, ?_⟩
    · simpa using e0
    · simpa [Nat.add_assoc] using e1
    · simpa [Nat.add_assoc] using e2
    · simpa [Nat.add_assoc] using e3
    · simpa [Nat.add_assoc] using e4
  · intro j hj
    have hj' : j < len := by simpa using hj
    simpa using (hq j hj').2.2.2.2.2
theorem szI (n : Nat) (a : Option Addr) (cap : Nat) (l : List TI) (hn : l.length = n) (w : World) (hrow : ItmAt w a l) (hfit : FitItm l) (hm : n ≤ maxLen) (r : Int) (hr : leftOfItm l 1048576 = r) :
    Calls Tryd.prog 5 #[.slice a n cap, .int .i64 1048576] w fun e w' => e = .returned (.int .i64 r) ∧ Below w.heap.size w w' := by
  subst hn hr; exact szsItm a cap l 1048576 w hrow hfit hm (by omega) (by omega)
theorem tosI (n : Nat) (a : Option Addr) (cap : Nat) (l : List TI) (hn : l.length = n) (w : World) (hrow : ItmAt w a l) (hm : n ≤ 1048576) :
    Calls Tryd.prog 7 #[.slice a n cap] w fun e w' => ∃ g, e = .returned (.slice (some ⟨g, 0, none⟩) n n) ∧ ItmAt w' (some ⟨g, 0, none⟩) l ∧ w.heap.size ≤ g ∧ (∀ j, j < n * 5 → w'.frozen? ⟨g, 0 + j, none⟩ = false) ∧ Below w.heap.size w w' := by
  subst hn
  refine (tosItm a cap l w hrow hm).mono ?_
  rintro e w' ⟨rfl, hO, hb⟩
  refine ⟨_, rfl, ownItm hO, (hO.lt _ rfl).1, fun j _ => ?_, hb⟩
  rw [Nat.zero_add]; exact hO.frozenAt j
theorem eqsI (n : Nat) (a b : Option Addr) (ca cb : Nat) (l : List TI) (hn : l.length = n) (w : World) (ha : ItmAt w a l) (hb : ItmAt w b l) (hm : n ≤ maxLen) :
    Calls Tryd.prog 9 #[.slice a n ca, .slice b n cb] w fun e w' => e = .returned (.bool true) ∧ Below w.heap.size w w' := by
  subst hn; exact eqsItm a b ca cb l w ha hb hm
theorem oneI_le {l : List TI} {x : TI} (h : x ∈ l) : oneItm x ≤ weightItm l := by
  unfold weightItm
  obtain ⟨j, hj, rfl⟩ := List.mem_iff_getElem.1 h
  have h1 := weightItm_take l j hj
  have h2 := weightItm_le l (j + 1)
  unfold weightItm at h1 h2
  omega
end Go.Proofs.YtfokdblojlmnlamDoor

/-
  From the row's condition on the listed variables to what the walks ask of them.
-/
namespace Go.Proofs.YtfokdblojlmnlamDoor
open Go.ChangeShapes Go.WideShapes Go.ChangeAt Go.RowKit

theorem gPow : (Tryd.prog.globalNamed "internal/strconv.uint64pow10").bind (fun g => (Tryd.prog.globals[g]?).map (·.type)) = some 126 := by kernel_rfl
theorem pow_data : (Rows.laid_internal_strconv_uint64pow10 : DataW Unit) = Lib.tabData .u64 Lib.pow10Tab := by kernel_rfl
theorem pow_of {W : World} {rest : List (String × DataW Unit)} (h : laidMet Tryd.prog (("internal/strconv.uint64pow10", Rows.laid_internal_strconv_uint64pow10) :: rest) W) : PowAt W := by
  rw [pow_data] at h
  obtain ⟨g, hg, ht⟩ := Option.bind_eq_some_iff.1 gPow
  exact Lib.tabIs_of_head hg ht Tryd.underlying126 Tryd.underlying106 (by kernel_rfl) (by kernel_rfl) h

theorem star_name : "*" ++ "errors.errorString" = "*errors.errorString" := by decide
theorem row_err (u : TypeId) (h : Tryd.prog.typeName? 3 u = some "*errors.errorString") : u = 131 :=
  typeName_ptr_named (nm := "errors.errorString") (by rw [star_name]; kernel_rfl) (by kernel_rfl) (by decide) u (by rw [star_name]; exact h)
theorem gRange : (Tryd.prog.globalNamed "strconv.ErrRange").bind (fun g => (Tryd.prog.globals[g]?).map (·.type)) = some 81 := by kernel_rfl
theorem gSyntax : (Tryd.prog.globalNamed "strconv.ErrSyntax").bind (fun g => (Tryd.prog.globals[g]?).map (·.type)) = some 81 := by kernel_rfl
theorem err_of {W : World} {rest : List (String × DataW Unit)} (h : laidMet Tryd.prog (("strconv.ErrRange", Rows.laid_strconv_ErrRange) :: ("strconv.ErrSyntax", Rows.laid_strconv_ErrSyntax) :: rest) W) : ErrAt W := by
  obtain ⟨g, hg, ht⟩ := Option.bind_eq_some_iff.1 gRange
  obtain ⟨g2, hg2, ht2⟩ := Option.bind_eq_some_iff.1 gSyntax
  have h2 := h.tail
  unfold Rows.laid_strconv_ErrRange at h
  unfold Rows.laid_strconv_ErrSyntax at h2
  obtain ⟨a, s, hv, _⟩ := laid_sentinel h hg ht Tryd.underlying81 row_err Tryd.underlying131 Tryd.underlying133 rfl rfl Tryd.underlying9 (by kernel_rfl) (by kernel_rfl)
  obtain ⟨a2, s2, hv2, _⟩ := laid_sentinel h2 hg2 ht2 Tryd.underlying81 row_err Tryd.underlying131 Tryd.underlying133 rfl rfl Tryd.underlying9 (by kernel_rfl) (by kernel_rfl)
  exact ⟨⟨_, _, hv2⟩, ⟨_, _, hv⟩⟩

end Go.Proofs.YtfokdblojlmnlamDoor

/-
  From the row's condition on the program's own table of signs to what the walks ask of it.
-/
namespace Go.Proofs.YtfokdblojlmnlamDoor
open Go.ChangeShapes Go.WideShapes Go.ChangeAt Go.RowKit

def strData {H : Type} (ss : List ByteArray) : DataW H := .agg (ss.map fun s => .lit (.string s.data.toList))
theorem cells_of_strs {H : Type} {enc : TypeId × Value → H} {P : Program} {w : World} {base : Nat} {sp : Nat → Bool} {held : Bool} {fuel : Nat} {t e : TypeId} {n : Nat} {cs : List Value} {ss : List ByteArray} {p : List MemPlace}
    (ht : P.underlying t = some (.array n e)) (he : P.underlying e = some .string) (hce : P.cellsOf e = 1) (hct : P.cellsOf t = n)
    (h : DataW.trod enc P w base sp held fuel t cs = some (strData ss, p)) : cs = ss.map Value.string := by
  cases fuel with
  | zero => simp [DataW.trod] at h
  | succ fuel =>
    simp only [DataW.trod, ht, hce, hct, Nat.mul_one] at h
    split at h
    · rename_i hl
      obtain ⟨xs, hm, hx⟩ := Option.map_eq_some_iff.1 h
      have hxs : xs.map (·.1) = ss.map fun s => (DataW.lit (.string s.data.toList) : DataW H) := by
        have := congrArg Prod.fst hx
        simpa [strData] using this
      have hxl : xs.length = n := by simpa using Lib.mapM_length hm
      have hzl : ss.length = n := by
        have := congrArg List.length hxs
        simp at this
        omega
      apply List.ext_getElem?
      intro i
      by_cases hi : i < n
      · obtain ⟨b, hb, hf⟩ := Lib.mapM_at hm i i (by simp [hi])
        obtain ⟨z, hc, rfl, _⟩ := DataW.trod_string he hf
        have h1 : cs[i]? = some (.string z) := by
          have := congrArg (·[0]?) hc
          simpa [List.getElem?_take, List.getElem?_drop] using this
        have h2 : (xs.map (·.1))[i]? = some (DataW.lit (.string z.data.toList) : DataW H) := by simp [hb]
        rw [hxs] at h2
        simp only [List.getElem?_map, Option.map_eq_some_iff, DataW.lit.injEq, Lit.string.injEq] at h2
        obtain ⟨z', hz', e2⟩ := h2
        have e3 : z' = z := bytes_ext e2
        subst e3
        simp [h1, hz']
      · rw [List.getElem?_eq_none (by omega), List.getElem?_eq_none (by simp; omega)]
    · cases h
theorem gSgnT : (Tryd.prog.globals[0]?).map (·.type) = some 49 := by kernel_rfl
theorem sgn_data : (Rows.laid_loop_example_g00536_impl_itemSigns : DataW Unit) = strData ((List.range 13).map sgn0) := by kernel_rfl
theorem sgn_of {W : World} {rest : List (String × DataW Unit)} (h : laidMet Tryd.prog (("loop.example/g00536/impl.itemSigns", Rows.laid_loop_example_g00536_impl_itemSigns) :: rest) W) : SgnAt W := by
  rw [sgn_data] at h
  obtain ⟨ps, ⟨g', t', cs, fuel, p, q, hg', ht', hvar, hd, _, _⟩, _⟩ := h
  obtain rfl := Option.some.inj (gSgn.symm.trans hg')
  obtain rfl := Option.some.inj (gSgnT.symm.trans ht')
  have hc := cells_of_strs Tryd.underlying49 Tryd.underlying9 (by kernel_rfl) (by kernel_rfl) hd
  unfold SgnAt
  rw [hvar]
  congr 1
  have : cs = (cs.toList).toArray := by simp
  rw [this, hc]
  unfold sgnArr
  rw [List.map_map]
  rfl
end Go.Proofs.YtfokdblojlmnlamDoor
