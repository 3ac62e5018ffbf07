/-
  A part of the proof: SumTxtWalk, Laid, LaidSg.
-/
import Derived.Test.YtfokdblojlmnlabGreatDoorPart19
import Derived.Test.YtfokdblojlmnlabGreatDoorPart21
import Derived.Test.YtfokdblojlmnlabGreatDoorPart24
import Derived.Test.YtfokdblojlmnlabGreatDoorPart9
import Derived.LaidMore
import Derived.Stop.LaidErr
import Derived.Lib.LaidTab
import Derived.Stop.Joined
import Derived.ProofKit
import Derived.LaidLaws
import Derived.Test.YtfokdblojlmnlabGreatDoorPart17
import Derived.OpenVars
import Derived.ChangeVars

/-
  The walk of the law FnSumText.
-/
namespace Go.Proofs.YtfokdblojlmnlabGreatDoor
open Go.ChangeShapes Go.WideShapes Go.ChangeAt Go.RowKit
attribute [local go_sem ↓] Go.wp_at_zero Go.wp_at_succ
attribute [local simp] World.cell?_alloc_past World.cell?_alloc_at World.frozen?_alloc_at cell_far cell_off cell_here World.frozen?_alloc_past

namespace sumTextLaw
theorem likeI (n : Nat) (a b : Option Addr) (ca cb : Nat) (l : List TI) (hn : l.length = n) (w : World) (ha : ItmAt w a l) (hb : ItmAt w b l) (hm : n ≤ maxLen) :
    Calls Tryz.prog 40 #[.slice a n ca, .slice b n cb] w fun e w' => e = .returned (.bool true) ∧ Below w.heap.size w w' := by
  subst hn; exact like_sum a b ca cb l w ha hb hm
theorem ans_formI {w : World} {B : Nat} {v : Value} {l : List TI} (h : AnsItm w B v l) : ∃ g c, v = .slice (some ⟨g, 0, none⟩) l.length c := by
  rcases h.1.2 with ⟨h', _⟩ | ⟨g, c, cur, h', _⟩
  · exact absurd h' h.2
  · exact ⟨g, c, h'⟩
theorem ans_formB {w : World} {B : Nat} {v : Value} {l : List TT} (h : AnsTok w B v l) : ∃ g c, v = .slice (some ⟨g, 0, none⟩) l.length c := by
  rcases h.1.2 with ⟨h', _⟩ | ⟨g, c, cur, h', _⟩
  · exact absurd h' h.2
  · exact ⟨g, c, h'⟩
theorem sumR_facts {toks : List TT} {L : List TI} {b : Bool} (h : sumR toks = (L, b)) : L.length ≤ 40 ∧ (b = true → sumB L = true) ∧ (b = false → L = []) := by
  unfold sumR at h
  split at h
  · split at h
    · split at h
      · rename_i hs
        injection h with e1 e2
        subst e1 e2
        refine ⟨?_, fun _ => hs, fun e => by cases e⟩
        unfold sumB at hs
        simp only [Bool.and_eq_true, decide_eq_true_eq] at hs
        omega
      · injection h with e1 e2
        subst e1 e2
        exact ⟨by simp, (fun e => by cases e), fun _ => rfl⟩
    · injection h with e1 e2
      subst e1 e2
      exact ⟨by simp, (fun e => by cases e), fun _ => rfl⟩
  · injection h with e1 e2
    subst e1 e2
    exact ⟨by simp, (fun e => by cases e), fun _ => rfl⟩
/-- A sum is read from its text. -/
theorem text_read {l : List TI} {s : ByteArray} (h : sumB l = true) (hs : sumT l = s) (hz : s.size ≤ 2000) : ∃ x, toksR s = (x, true) ∧ sumR x = (l, true) := by
  obtain ⟨t, ht, rfl⟩ := sum_tree h
  have e1 : s.data.toList = t.text := by rw [← hs, sumT_tree ht h]; rfl
  have e2 := toksB_sum ht s e1 hz
  refine ⟨t.toks, by unfold toksR; rw [e2], ?_⟩
  have ha : t.toks.all tokB = true := by
    have := toksR_all (s := s) (l := t.toks) (b := true) (by unfold toksR; rw [e2])
    exact this
  rw [sumR_end ha ((par_sum ht).levR (by omega)), if_pos h]
theorem heap_items : ∀ (l : List TI) (n m : Nat), heapN l n = some m → ∀ x ∈ l, itemB x = true
  | [], _, _, _, x, hx => by simp at hx
  | y :: l, n, m, h, x, hx => by
    unfold heapN at h
    split at h
    · rename_i hc
      rcases List.mem_cons.1 hx with rfl | hx
      · exact hc.1
      · exact heap_items l _ m h x hx
    · cases h
theorem fitI_few {l : List TI} (h : FitD l) : FitItm l := fun j hj => by
  have := h _ (List.getElem_mem hj)
  unfold maxLen at this ⊢
  omega
set_option maxRecDepth 100000 in
set_option maxHeartbeats 8000000 in
theorem walk (a : Option Addr) (len cap : Nat) (w : World) (hc : Code0 w a len) (hp : PowAt w) (he : ErrAt w) (hs : SgnAt w) :
    Calls Tryz.prog 5 #[.slice a len cap] w fun e w' => e = .returned (.bool true) ∧ Below w.heap.size w w' := by
  have HC : Hid (Code0 w a len) := hc
  have HP : Hid (PowAt w) := hp
  have HE : Hid (ErrAt w) := he
  have HSg : Hid (SgnAt w) := hs
  clear hc hp he hs
  by_cases hbig : (4096 : Int) < (len : Int)
  · go_enter Tryz.func5, Tryz.ntmps5
    go_wp2_with fail
    refine (big_laws a len cap _).mono ?_
    rintro e w1 ⟨rfl, rfl⟩
    rw [decide_eq_true hbig]
    go_wp2
    go_ret
    exact ⟨rfl, Below.refl _ _⟩
  have hlen : len ≤ 4096 := by omega
  go_enter Tryz.func5, Tryz.ntmps5
  go_wp2_with fail
  refine (big_laws a len cap _).mono ?_
  rintro e w1 ⟨rfl, rfl⟩
  rw [decide_eq_false (by omega)]
  go_wp2_with fail
  refine (showsum_draw hlen HC.out).mono ?_
  rintro e w1 ⟨gl, n, cl, l, rfl, hn, hA, hn16, hF, hb1⟩
  have HN : Hid (l.length = n) := hn
  have A1 : Hid (ItmAt w1 (some ⟨gl, 0, none⟩) l) := hA
  have FD : Hid (FitI l) := hF
  have FI : Hid (FitItm l) := fitI_few hF
  have hts := sumT_size l
  rw [hn] at hts
  obtain ⟨s, hs⟩ : ∃ s, sumT l = s := ⟨_, rfl⟩
  have HS : Hid (sumT l = s) := hs
  rw [hs] at hts
  have hnM : n ≤ maxLen := by unfold maxLen; omega
  clear hA hF hs hn
  go_wp2_with fail
  refine (showsum_impl _ _ l n HN.out _ A1.out FD.out hnM (HP.out.below hb1) (HE.out.below hb1) (HSg.out.below hb1) s HS.out).mono ?_
  rintro e w2 ⟨rfl, hb2⟩
  have hx2 := chain hb1 hb2
  have A2 : Hid (ItmAt w2 (some ⟨gl, 0, none⟩) l) := A1.out.below hb2
  clear A1 hb2 hb1
  go_wp2_with fail
  refine (readsum_draw hlen (HC.out.below hx2)).mono ?_
  rintro e w3 ⟨gt, nt, ct, T, rfl, hnt, hTk, hnt2, hFT, hb3⟩
  have HNT : Hid (T.length = nt) := hnt
  have T3 : Hid (TokAt w3 (some ⟨gt, 0, none⟩) T) := hTk
  have FT : Hid (∀ x ∈ T, x.2.1.size ≤ 1048576 ∧ x.2.2.2.2.size ≤ maxLen) := hFT
  have FTT : Hid (FitTok T) := by
    have : FitTok T := fun j hj => by
      have := hFT _ (List.getElem_mem hj)
      unfold maxLen at this ⊢
      omega
    exact this
  have hx3 := chain hx2 hb3
  have A3 : Hid (ItmAt w3 (some ⟨gl, 0, none⟩) l) := A2.out.below hb3
  obtain ⟨X, b, hR⟩ : ∃ X b, sumR T = (X, b) := ⟨_, _, rfl⟩
  have HR : Hid (sumR T = (X, b)) := hR
  obtain ⟨hX40, hXt, hXf⟩ := sumR_facts hR
  obtain ⟨nX, hnX⟩ : ∃ n, X.length = n := ⟨_, rfl⟩
  have HNX : Hid (X.length = nX) := hnX
  rw [hnX] at hX40
  have hXM : nX ≤ maxLen := by unfold maxLen; omega
  have HXT : Hid (b = true → sumB X = true) := hXt
  have HXF : Hid (b = false → X = []) := hXf
  clear hnt hTk hFT hb3 A2 hx2 hR hXt hXf hnX
  go_wp2_with fail
  refine (readsum_impl _ _ T nt HNT.out _ T3.out FT.out (by omega) (HP.out.below hx3) (HE.out.below hx3) (HSg.out.below hx3) X b HR.out).mono ?_
  rintro e w4 ⟨v4, rfl, A4, hb4⟩
  obtain ⟨gx, cx, rfl⟩ := ans_formI A4
  rw [HNX.out]
  have X4 : Hid (ItmAt w4 (some ⟨gx, 0, none⟩) X) := ownItm A4.1
  have hx4 := chain hx3 hb4
  have A4l : Hid (ItmAt w4 (some ⟨gl, 0, none⟩) l) := A3.out.below hb4
  have T4 : Hid (TokAt w4 (some ⟨gt, 0, none⟩) T) := T3.out.below hb4
  clear A4 A3 T3 hb4 hx3
  go_wp2_with fail
  refine (readsum_spec _ _ T nt HNT.out _ T4.out FTT.out (by omega) X b HR.out).mono ?_
  rintro e w5 ⟨a5, c5, rfl, Y5, hb5⟩
  rw [HNX.out]
  have Y5h : Hid (ItmAt w5 a5 X) := Y5
  have hx5 := chain hx4 hb5
  have A5 : Hid (ItmAt w5 (some ⟨gl, 0, none⟩) l) := A4l.out.below hb5
  have X5 : Hid (ItmAt w5 (some ⟨gx, 0, none⟩) X) := X4.out.below hb5
  have FX : Hid (FitI X) := by
    have : FitI X := by
      cases b with
      | false => rw [HXF.out rfl]; intro x hx; simp at hx
      | true =>
        have h1 := HXT.out rfl
        unfold sumB at h1
        simp only [Bool.and_eq_true, decide_eq_true_eq] at h1
        intro x hx
        have := itemB_fits (heap_items X 0 1 h1.1 x hx)
        unfold maxLen
        omega
    exact this
  obtain ⟨q, hq⟩ : ∃ q, sumB l = q := ⟨_, rfl⟩
  have HQ : Hid (sumB l = q) := hq
  have hss : (s.toList == s.toList) = true := by simp
  clear Y5 hb5 hx4 A4l T4 X4 hq
  cases b
  · cases q
    · go_wp2_with fail
      refine (likeI nX _ _ _ _ X HNX.out _ X5.out Y5h.out hXM).mono ?_
      rintro e w6 ⟨rfl, hb6⟩
      have hx6 := chain hx5 hb6
      have A6 : Hid (ItmAt w6 (some ⟨gl, 0, none⟩) l) := A5.out.below hb6
      have X6 : Hid (ItmAt w6 (some ⟨gx, 0, none⟩) X) := X5.out.below hb6
      clear A5 X5 Y5h hb6 hx5
      go_wp2_with fail
      refine (showsum_spec _ _ l n HN.out _ A6.out FI.out hnM s HS.out).mono ?_
      rintro e w7 ⟨rfl, hb7⟩
      have hx7 := chain hx6 hb7
      have A7 : Hid (ItmAt w7 (some ⟨gl, 0, none⟩) l) := A6.out.below hb7
      have X7 : Hid (ItmAt w7 (some ⟨gx, 0, none⟩) X) := X6.out.below hb7
      clear A6 X6 hb7 hx6
      go_wp2_with fail
      refine (sum_impl _ _ l n HN.out _ A7.out FD.out hnM (HP.out.below hx7) (HE.out.below hx7) _ HQ.out).mono ?_
      rintro e w8 ⟨rfl, hb8⟩
      have hx8 := chain hx7 hb8
      have A8 : Hid (ItmAt w8 (some ⟨gl, 0, none⟩) l) := A7.out.below hb8
      have X8 : Hid (ItmAt w8 (some ⟨gx, 0, none⟩) X) := X7.out.below hb8
      clear A7 X7 hb8 hx7
      go_wp2_with fail
      refine (sum_spec _ _ l n HN.out _ A8.out FI.out hnM _ HQ.out).mono ?_
      rintro e w9 ⟨rfl, hb9⟩
      have hx9 := chain hx8 hb9
      have A9 : Hid (ItmAt w9 (some ⟨gl, 0, none⟩) l) := A8.out.below hb9
      have X9 : Hid (ItmAt w9 (some ⟨gx, 0, none⟩) X) := X8.out.below hb9
      clear A8 X8 hb9 hx8
      have hX0 : X = [] := HXF.out (by first | rfl | trivial)
      have hnX0 : nX = 0 := by rw [← HNX.out, hX0]; rfl
      subst hnX0
      have AZ : Hid (ItmAt w9 (some ⟨gl, 0, none⟩) l) := A9
      have hxZ := hx9
      clear A9 X9 hx9 hX0
      go_wp2_with fail
      refine (sum_spec _ _ l n HN.out _ AZ.out FI.out hnM _ HQ.out).mono ?_
      rintro e w11 ⟨rfl, hb11⟩
      have hx11 := chain hxZ hb11
      obtain rfl : s = ⟨#[]⟩ := by rw [← HS.out]; unfold sumT; rw [if_neg (by rw [HQ.out]; decide)]
      clear AZ hb11 hxZ
      go_wp2
      go_ret
      exact ⟨rfl, hx11⟩
    · go_wp2_with fail
      refine (likeI nX _ _ _ _ X HNX.out _ X5.out Y5h.out hXM).mono ?_
      rintro e w6 ⟨rfl, hb6⟩
      have hx6 := chain hx5 hb6
      have A6 : Hid (ItmAt w6 (some ⟨gl, 0, none⟩) l) := A5.out.below hb6
      have X6 : Hid (ItmAt w6 (some ⟨gx, 0, none⟩) X) := X5.out.below hb6
      clear A5 X5 Y5h hb6 hx5
      go_wp2_with fail
      refine (showsum_spec _ _ l n HN.out _ A6.out FI.out hnM s HS.out).mono ?_
      rintro e w7 ⟨rfl, hb7⟩
      have hx7 := chain hx6 hb7
      have A7 : Hid (ItmAt w7 (some ⟨gl, 0, none⟩) l) := A6.out.below hb7
      have X7 : Hid (ItmAt w7 (some ⟨gx, 0, none⟩) X) := X6.out.below hb7
      clear A6 X6 hb7 hx6
      go_wp2_with fail
      refine (sum_impl _ _ l n HN.out _ A7.out FD.out hnM (HP.out.below hx7) (HE.out.below hx7) _ HQ.out).mono ?_
      rintro e w8 ⟨rfl, hb8⟩
      have hx8 := chain hx7 hb8
      have A8 : Hid (ItmAt w8 (some ⟨gl, 0, none⟩) l) := A7.out.below hb8
      have X8 : Hid (ItmAt w8 (some ⟨gx, 0, none⟩) X) := X7.out.below hb8
      clear A7 X7 hb8 hx7
      go_wp2_with fail
      refine (sum_spec _ _ l n HN.out _ A8.out FI.out hnM _ HQ.out).mono ?_
      rintro e w9 ⟨rfl, hb9⟩
      have hx9 := chain hx8 hb9
      have A9 : Hid (ItmAt w9 (some ⟨gl, 0, none⟩) l) := A8.out.below hb9
      have X9 : Hid (ItmAt w9 (some ⟨gx, 0, none⟩) X) := X8.out.below hb9
      clear A8 X8 hb9 hx8
      have hX0 : X = [] := HXF.out (by first | rfl | trivial)
      have hnX0 : nX = 0 := by rw [← HNX.out, hX0]; rfl
      subst hnX0
      have AZ : Hid (ItmAt w9 (some ⟨gl, 0, none⟩) l) := A9
      have hxZ := hx9
      clear A9 X9 hx9 hX0
      go_wp2_with fail
      refine (sum_spec _ _ l n HN.out _ AZ.out FI.out hnM _ HQ.out).mono ?_
      rintro e w11 ⟨rfl, hb11⟩
      have hx11 := chain hxZ hb11
      have A11 : Hid (ItmAt w11 (some ⟨gl, 0, none⟩) l) := AZ.out.below hb11
      obtain ⟨K, hK1, hK2⟩ := text_read HQ.out HS.out (by omega)
      have HK1 : Hid (toksR s = (K, true)) := hK1
      have HK2 : Hid (sumR K = (l, true)) := hK2
      have FK : Hid (∀ x ∈ K, x.2.1.size ≤ 1048576 ∧ x.2.2.2.2.size ≤ maxLen) := by
        have : ∀ x ∈ K, x.2.1.size ≤ 1048576 ∧ x.2.2.2.2.size ≤ maxLen := fun t ht => by
          have := tokB_fits (List.all_eq_true.1 (toksR_all hK1) t ht)
          unfold maxLen
          omega
        exact this
      have hKl := toksR_len _ _ _ hK1
      obtain ⟨nK, hnK⟩ : ∃ n, K.length = n := ⟨_, rfl⟩
      have HNK : Hid (K.length = nK) := hnK
      rw [hnK] at hKl
      clear AZ hb11 hxZ hK1 hK2 hnK
      go_wp2_with fail
      refine (tokensof_spec s _ K true HK1.out (by omega)).mono ?_
      rintro e w12 ⟨v12, rfl, A12, hb12⟩
      obtain ⟨gk, ck, rfl⟩ := ans_formB A12
      rw [HNK.out]
      have K12 : Hid (TokAt w12 (some ⟨gk, 0, none⟩) K) := ownTok A12.1
      have hx12 := chain hx11 hb12
      have A12l : Hid (ItmAt w12 (some ⟨gl, 0, none⟩) l) := A11.out.below hb12
      clear A12 A11 hb12 hx11
      go_wp2_with fail
      refine (readsum_impl _ _ K nK HNK.out _ K12.out FK.out (by omega) (HP.out.below hx12) (HE.out.below hx12) (HSg.out.below hx12) l true HK2.out).mono ?_
      rintro e w13 ⟨v13, rfl, A13, hb13⟩
      obtain ⟨gy, cy, rfl⟩ := ans_formI A13
      rw [HN.out]
      have Y13 : Hid (ItmAt w13 (some ⟨gy, 0, none⟩) l) := ownItm A13.1
      have A13l : Hid (ItmAt w13 (some ⟨gl, 0, none⟩) l) := A12l.out.below hb13
      have hx13 := chain hx12 hb13
      clear A13 A12l K12 hb13 hx12
      go_wp2_with fail
      refine (likeI n _ _ _ _ l HN.out _ Y13.out A13l.out hnM).mono ?_
      rintro e w14 ⟨rfl, hb14⟩
      have hx14 := chain hx13 hb14
      go_wp2
      go_ret
      exact ⟨rfl, hx14⟩
  · cases q
    · go_wp2_with fail
      refine (likeI nX _ _ _ _ X HNX.out _ X5.out Y5h.out hXM).mono ?_
      rintro e w6 ⟨rfl, hb6⟩
      have hx6 := chain hx5 hb6
      have A6 : Hid (ItmAt w6 (some ⟨gl, 0, none⟩) l) := A5.out.below hb6
      have X6 : Hid (ItmAt w6 (some ⟨gx, 0, none⟩) X) := X5.out.below hb6
      clear A5 X5 Y5h hb6 hx5
      go_wp2_with fail
      refine (showsum_spec _ _ l n HN.out _ A6.out FI.out hnM s HS.out).mono ?_
      rintro e w7 ⟨rfl, hb7⟩
      have hx7 := chain hx6 hb7
      have A7 : Hid (ItmAt w7 (some ⟨gl, 0, none⟩) l) := A6.out.below hb7
      have X7 : Hid (ItmAt w7 (some ⟨gx, 0, none⟩) X) := X6.out.below hb7
      clear A6 X6 hb7 hx6
      go_wp2_with fail
      refine (sum_impl _ _ l n HN.out _ A7.out FD.out hnM (HP.out.below hx7) (HE.out.below hx7) _ HQ.out).mono ?_
      rintro e w8 ⟨rfl, hb8⟩
      have hx8 := chain hx7 hb8
      have A8 : Hid (ItmAt w8 (some ⟨gl, 0, none⟩) l) := A7.out.below hb8
      have X8 : Hid (ItmAt w8 (some ⟨gx, 0, none⟩) X) := X7.out.below hb8
      clear A7 X7 hb8 hx7
      go_wp2_with fail
      refine (sum_spec _ _ l n HN.out _ A8.out FI.out hnM _ HQ.out).mono ?_
      rintro e w9 ⟨rfl, hb9⟩
      have hx9 := chain hx8 hb9
      have A9 : Hid (ItmAt w9 (some ⟨gl, 0, none⟩) l) := A8.out.below hb9
      have X9 : Hid (ItmAt w9 (some ⟨gx, 0, none⟩) X) := X8.out.below hb9
      clear A8 X8 hb9 hx8
      go_wp2_with fail
      refine (sum_impl _ _ X nX HNX.out _ X9.out FX.out hXM (HP.out.below hx9) (HE.out.below hx9) true (HXT.out (by first | rfl | trivial))).mono ?_
      rintro e w10 ⟨rfl, hb10⟩
      have hxZ := chain hx9 hb10
      have AZ : Hid (ItmAt w10 (some ⟨gl, 0, none⟩) l) := A9.out.below hb10
      clear A9 X9 hb10 hx9
      go_wp2_with fail
      refine (sum_spec _ _ l n HN.out _ AZ.out FI.out hnM _ HQ.out).mono ?_
      rintro e w11 ⟨rfl, hb11⟩
      have hx11 := chain hxZ hb11
      obtain rfl : s = ⟨#[]⟩ := by rw [← HS.out]; unfold sumT; rw [if_neg (by rw [HQ.out]; decide)]
      clear AZ hb11 hxZ
      go_wp2
      go_ret
      exact ⟨rfl, hx11⟩
    · go_wp2_with fail
      refine (likeI nX _ _ _ _ X HNX.out _ X5.out Y5h.out hXM).mono ?_
      rintro e w6 ⟨rfl, hb6⟩
      have hx6 := chain hx5 hb6
      have A6 : Hid (ItmAt w6 (some ⟨gl, 0, none⟩) l) := A5.out.below hb6
      have X6 : Hid (ItmAt w6 (some ⟨gx, 0, none⟩) X) := X5.out.below hb6
      clear A5 X5 Y5h hb6 hx5
      go_wp2_with fail
      refine (showsum_spec _ _ l n HN.out _ A6.out FI.out hnM s HS.out).mono ?_
      rintro e w7 ⟨rfl, hb7⟩
      have hx7 := chain hx6 hb7
      have A7 : Hid (ItmAt w7 (some ⟨gl, 0, none⟩) l) := A6.out.below hb7
      have X7 : Hid (ItmAt w7 (some ⟨gx, 0, none⟩) X) := X6.out.below hb7
      clear A6 X6 hb7 hx6
      go_wp2_with fail
      refine (sum_impl _ _ l n HN.out _ A7.out FD.out hnM (HP.out.below hx7) (HE.out.below hx7) _ HQ.out).mono ?_
      rintro e w8 ⟨rfl, hb8⟩
      have hx8 := chain hx7 hb8
      have A8 : Hid (ItmAt w8 (some ⟨gl, 0, none⟩) l) := A7.out.below hb8
      have X8 : Hid (ItmAt w8 (some ⟨gx, 0, none⟩) X) := X7.out.below hb8
      clear A7 X7 hb8 hx7
      go_wp2_with fail
      refine (sum_spec _ _ l n HN.out _ A8.out FI.out hnM _ HQ.out).mono ?_
      rintro e w9 ⟨rfl, hb9⟩
      have hx9 := chain hx8 hb9
      have A9 : Hid (ItmAt w9 (some ⟨gl, 0, none⟩) l) := A8.out.below hb9
      have X9 : Hid (ItmAt w9 (some ⟨gx, 0, none⟩) X) := X8.out.below hb9
      clear A8 X8 hb9 hx8
      go_wp2_with fail
      refine (sum_impl _ _ X nX HNX.out _ X9.out FX.out hXM (HP.out.below hx9) (HE.out.below hx9) true (HXT.out (by first | rfl | trivial))).mono ?_
      rintro e w10 ⟨rfl, hb10⟩
      have hxZ := chain hx9 hb10
      have AZ : Hid (ItmAt w10 (some ⟨gl, 0, none⟩) l) := A9.out.below hb10
      clear A9 X9 hb10 hx9
      go_wp2_with fail
      refine (sum_spec _ _ l n HN.out _ AZ.out FI.out hnM _ HQ.out).mono ?_
      rintro e w11 ⟨rfl, hb11⟩
      have hx11 := chain hxZ hb11
      have A11 : Hid (ItmAt w11 (some ⟨gl, 0, none⟩) l) := AZ.out.below hb11
      obtain ⟨K, hK1, hK2⟩ := text_read HQ.out HS.out (by omega)
      have HK1 : Hid (toksR s = (K, true)) := hK1
      have HK2 : Hid (sumR K = (l, true)) := hK2
      have FK : Hid (∀ x ∈ K, x.2.1.size ≤ 1048576 ∧ x.2.2.2.2.size ≤ maxLen) := by
        have : ∀ x ∈ K, x.2.1.size ≤ 1048576 ∧ x.2.2.2.2.size ≤ maxLen := fun t ht => by
          have := tokB_fits (List.all_eq_true.1 (toksR_all hK1) t ht)
          unfold maxLen
          omega
        exact this
      have hKl := toksR_len _ _ _ hK1
      obtain ⟨nK, hnK⟩ : ∃ n, K.length = n := ⟨_, rfl⟩
      have HNK : Hid (K.length = nK) := hnK
      rw [hnK] at hKl
      clear AZ hb11 hxZ hK1 hK2 hnK
      go_wp2_with fail
      refine (tokensof_spec s _ K true HK1.out (by omega)).mono ?_
      rintro e w12 ⟨v12, rfl, A12, hb12⟩
      obtain ⟨gk, ck, rfl⟩ := ans_formB A12
      rw [HNK.out]
      have K12 : Hid (TokAt w12 (some ⟨gk, 0, none⟩) K) := ownTok A12.1
      have hx12 := chain hx11 hb12
      have A12l : Hid (ItmAt w12 (some ⟨gl, 0, none⟩) l) := A11.out.below hb12
      clear A12 A11 hb12 hx11
      go_wp2_with fail
      refine (readsum_impl _ _ K nK HNK.out _ K12.out FK.out (by omega) (HP.out.below hx12) (HE.out.below hx12) (HSg.out.below hx12) l true HK2.out).mono ?_
      rintro e w13 ⟨v13, rfl, A13, hb13⟩
      obtain ⟨gy, cy, rfl⟩ := ans_formI A13
      rw [HN.out]
      have Y13 : Hid (ItmAt w13 (some ⟨gy, 0, none⟩) l) := ownItm A13.1
      have A13l : Hid (ItmAt w13 (some ⟨gl, 0, none⟩) l) := A12l.out.below hb13
      have hx13 := chain hx12 hb13
      clear A13 A12l K12 hb13 hx12
      go_wp2_with fail
      refine (likeI n _ _ _ _ l HN.out _ Y13.out A13l.out hnM).mono ?_
      rintro e w14 ⟨rfl, hb14⟩
      have hx14 := chain hx13 hb14
      go_wp2
      go_ret
      exact ⟨rfl, hx14⟩
end sumTextLaw
end Go.Proofs.YtfokdblojlmnlabGreatDoor

/-
  From the row's condition on the listed variables to what the walks ask of them.
-/
namespace Go.Proofs.YtfokdblojlmnlabGreatDoor
open Go.ChangeShapes Go.WideShapes Go.ChangeAt Go.RowKit

theorem gPow : (Tryz.prog.globalNamed "internal/strconv.uint64pow10").bind (fun g => (Tryz.prog.globals[g]?).map (·.type)) = some 251 := by kernel_rfl
theorem pow_data : (Rows.laid_internal_strconv_uint64pow10 : DataW Unit) = Lib.tabData .u64 Lib.pow10Tab := by kernel_rfl
theorem pow_of {W : World} {rest : List (String × DataW Unit)} (h : laidMet Tryz.prog (("internal/strconv.uint64pow10", Rows.laid_internal_strconv_uint64pow10) :: rest) W) : PowAt W := by
  rw [pow_data] at h
  obtain ⟨g, hg, ht⟩ := Option.bind_eq_some_iff.1 gPow
  exact Lib.tabIs_of_head hg ht Tryz.underlying251 Tryz.underlying224 (by kernel_rfl) (by kernel_rfl) h

theorem star_name : "*" ++ "errors.errorString" = "*errors.errorString" := by decide
theorem row_err (u : TypeId) (h : Tryz.prog.typeName? 3 u = some "*errors.errorString") : u = 259 :=
  typeName_ptr_named (nm := "errors.errorString") (by rw [star_name]; kernel_rfl) (by kernel_rfl) (by decide) u (by rw [star_name]; exact h)
theorem gRange : (Tryz.prog.globalNamed "strconv.ErrRange").bind (fun g => (Tryz.prog.globals[g]?).map (·.type)) = some 180 := by kernel_rfl
theorem gSyntax : (Tryz.prog.globalNamed "strconv.ErrSyntax").bind (fun g => (Tryz.prog.globals[g]?).map (·.type)) = some 180 := by kernel_rfl
theorem err_of {W : World} {rest : List (String × DataW Unit)} (h : laidMet Tryz.prog (("strconv.ErrRange", Rows.laid_strconv_ErrRange) :: ("strconv.ErrSyntax", Rows.laid_strconv_ErrSyntax) :: rest) W) : ErrAt W := by
  obtain ⟨g, hg, ht⟩ := Option.bind_eq_some_iff.1 gRange
  obtain ⟨g2, hg2, ht2⟩ := Option.bind_eq_some_iff.1 gSyntax
  have h2 := h.tail
  unfold Rows.laid_strconv_ErrRange at h
  unfold Rows.laid_strconv_ErrSyntax at h2
  obtain ⟨a, s, hv, _⟩ := laid_sentinel h hg ht Tryz.underlying180 row_err Tryz.underlying259 Tryz.underlying261 rfl rfl Tryz.underlying9 (by kernel_rfl) (by kernel_rfl)
  obtain ⟨a2, s2, hv2, _⟩ := laid_sentinel h2 hg2 ht2 Tryz.underlying180 row_err Tryz.underlying259 Tryz.underlying261 rfl rfl Tryz.underlying9 (by kernel_rfl) (by kernel_rfl)
  exact ⟨⟨_, _, hv2⟩, ⟨_, _, hv⟩⟩

end Go.Proofs.YtfokdblojlmnlabGreatDoor

/-
  From the row's condition on the program's own table of signs to what the walks ask of it.
-/
namespace Go.Proofs.YtfokdblojlmnlabGreatDoor
open Go.ChangeShapes Go.WideShapes Go.ChangeAt Go.RowKit

def strData {H : Type} (ss : List ByteArray) : DataW H := .agg (ss.map fun s => .lit (.string s.data.toList))
theorem cells_of_strs {H : Type} {enc : TypeId × Value → H} {P : Program} {w : World} {base : Nat} {sp : Nat → Bool} {held : Bool} {fuel : Nat} {t e : TypeId} {n : Nat} {cs : List Value} {ss : List ByteArray} {p : List MemPlace}
    (ht : P.underlying t = some (.array n e)) (he : P.underlying e = some .string) (hce : P.cellsOf e = 1) (hct : P.cellsOf t = n)
    (h : DataW.trod enc P w base sp held fuel t cs = some (strData ss, p)) : cs = ss.map Value.string := by
  cases fuel with
  | zero => simp [DataW.trod] at h
  | succ fuel =>
    simp only [DataW.trod, ht, hce, hct, Nat.mul_one] at h
    split at h
    · rename_i hl
      obtain ⟨xs, hm, hx⟩ := Option.map_eq_some_iff.1 h
      have hxs : xs.map (·.1) = ss.map fun s => (DataW.lit (.string s.data.toList) : DataW H) := by
        have := congrArg Prod.fst hx
        simpa [strData] using this
      have hxl : xs.length = n := by simpa using Lib.mapM_length hm
      have hzl : ss.length = n := by
        have := congrArg List.length hxs
        simp at this
        omega
      apply List.ext_getElem?
      intro i
      by_cases hi : i < n
      · obtain ⟨b, hb, hf⟩ := Lib.mapM_at hm i i (by simp [hi])
        obtain ⟨z, hc, rfl, _⟩ := DataW.trod_string he hf
        have h1 : cs[i]? = some (.string z) := by
          have := congrArg (·[0]?) hc
          simpa [List.getElem?_take, List.getElem?_drop] using this
        have h2 : (xs.map (·.1))[i]? = some (DataW.lit (.string z.data.toList) : DataW H) := by simp [hb]
        rw [hxs] at h2
        simp only [List.getElem?_map, Option.map_eq_some_iff, DataW.lit.injEq, Lit.string.injEq] at h2
        obtain ⟨z', hz', e2⟩ := h2
        have e3 : z' = z := bytes_ext e2
        subst e3
        simp [h1, hz']
      · rw [List.getElem?_eq_none (by omega), List.getElem?_eq_none (by simp; omega)]
    · cases h
theorem gSgnT : (Tryz.prog.globals[0]?).map (·.type) = some 160 := by kernel_rfl
theorem sgn_data : (Rows.laid_loop_example_g00536_impl_itemSigns : DataW Unit) = strData ((List.range 13).map sgn0) := by kernel_rfl
theorem sgn_of {W : World} {rest : List (String × DataW Unit)} (h : laidMet Tryz.prog (("loop.example/g00536/impl.itemSigns", Rows.laid_loop_example_g00536_impl_itemSigns) :: rest) W) : SgnAt W := by
  rw [sgn_data] at h
  obtain ⟨ps, ⟨g', t', cs, fuel, p, q, hg', ht', hvar, hd, _, _⟩, _⟩ := h
  obtain rfl := Option.some.inj (gSgn.symm.trans hg')
  obtain rfl := Option.some.inj (gSgnT.symm.trans ht')
  have hc := cells_of_strs Tryz.underlying160 Tryz.underlying9 (by kernel_rfl) (by kernel_rfl) hd
  unfold SgnAt
  rw [hvar]
  congr 1
  have : cs = (cs.toList).toArray := by simp
  rw [this, hc]
  unfold sgnArr
  rw [List.map_map]
  rfl
end Go.Proofs.YtfokdblojlmnlabGreatDoor
