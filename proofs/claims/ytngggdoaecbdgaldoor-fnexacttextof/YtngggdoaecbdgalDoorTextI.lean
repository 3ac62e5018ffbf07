/-
  The contract of the program's text of tokens.
-/
import Derived.Test.YtngggdoaecbdgalDoorTokI
import Derived.Test.YtngggdoaecbdgalDoorTextS
import Derived.Test.YtngggdoaecbdgalDoorKeyI
namespace Go.Proofs.YtngggdoaecbdgalDoor
open Go.ChangeShapes Go.WideShapes Go.ChangeAt Go.RowKit
attribute [local go_sem ↓] Go.wp_at_zero Go.wp_at_succ

theorem toksT_no {l : List TT} {k : Nat} (h : k < l.length) (ho : tokB l[k] = false) : toksT l = ⟨#[]⟩ := by
  unfold toksT
  rw [if_neg]
  intro e
  rw [List.all_eq_true.1 e _ (List.getElem_mem h)] at ho
  cases ho
theorem toktext_impl (t : TT) (ht : tokB t = true) (y : ByteArray) (hy : (⟨(tokT t).toArray⟩ : ByteArray) = y) (w : World) (hs : t.2.2.2.2.size ≤ maxLen) (hp : PowAt w) :
    Calls Tryd.prog 34 #[.agg #[.int .i64 t.1, .string t.2.1, .int .i64 t.2.2.1, .int .i64 t.2.2.2.1, .string t.2.2.2.2]] w fun e w' => e = .returned (.string y) ∧ Below w.heap.size w w' := by
  have HP : Hid (PowAt w) := hp
  clear hp
  rcases tokB_kind ht with ⟨s, rfl, hn⟩ | ⟨⟨ck, cn, ct⟩, rfl, hc⟩ | ⟨s, rfl, hs⟩
  · rw [tokT_1] at hy
    obtain rfl : s = y := hy
    unfold zeroC
    dsimp only
    go_enter Tryd.func34, Tryd.ntmps34
    go_wp2
    go_ret
    exact ⟨rfl, by go_grown⟩
  · rw [tokT_2] at hy
    have hy2 : cellT ck cn ct = y := by
      rw [← hy]
      exact bytes_ext (cellT_ok hc)
    have HY : Hid (cellT ck cn ct = y) := hy2
    clear hy hy2
    dsimp only at hs ⊢
    have hA : Below w.heap.size w (w.alloc (.cells #[.int .i64 2, .string ⟨#[]⟩, .int .i64 ck, .int .i64 cn, .string ct] 30)) := (Below.refl _ _).alloc (Nat.le_refl _) _
    go_enter Tryd.func34, Tryd.ntmps34
    go_wp2_with fail
    refine (ctext_implb ck cn ct y HY.out _ hs (HP.out.below hA)).mono ?_
    rintro e w1 ⟨rfl, hb1⟩
    have hx := chain hA hb1
    go_wp2
    go_ret
    exact ⟨rfl, hx⟩
  · rw [tokT_3] at hy
    obtain rfl : s = y := hy
    unfold zeroC
    dsimp only
    go_enter Tryd.func34, Tryd.ntmps34
    go_wp2
    go_ret
    exact ⟨rfl, by go_grown⟩
set_option maxRecDepth 100000 in
set_option maxHeartbeats 2000000 in
theorem textof_impl (a : Option Addr) (cap : Nat) (l : List TT) (w : World) (hrow : TokAt w a l) (hfit : ∀ x ∈ l, x.2.1.size ≤ 1048576 ∧ x.2.2.2.2.size ≤ maxLen) (hm : l.length ≤ 1048576) (hp : PowAt w) (he : ErrAt w) (y : ByteArray) (hy : toksT l = y) :
    Calls Tryd.prog 18 #[.slice a l.length cap] w fun e w' => e = .returned (.string y) ∧ Below w.heap.size w w' := by
  obtain ⟨i0, hti, hz0, hz1, hz2⟩ := info_parts infoStr
  have HR : Hid (TokAt w a l) := hrow
  have HF : Hid (∀ x ∈ l, x.2.1.size ≤ 1048576 ∧ x.2.2.2.2.size ≤ maxLen) := hfit
  have HY : Hid (toksT l = y) := hy
  have HP : Hid (PowAt w) := hp
  have HE : Hid (ErrAt w) := he
  clear hrow hfit hy hp he
  go_enter Tryd.func18, Tryd.ntmps18
  go_wp2_with (at_make; refine wpList_make_own _ rfl _ _ 54 rfl w.heap.size 9 i0 (.string ⟨#[]⟩) 1 Tryd.underlying54 hti hz0 hz1 .i64 .i64 _ l.length rfl rfl rfl (by rw [hz2]; omega) (by unfold maxLen; omega) (Nat.le_refl _) ?_)
  intro w0 hown0 hgrow0
  have hb0 : Below w.heap.size w w0 := (Below.refl _ _).grown hgrow0 (Nat.le_refl _) (by intro k h; cases h)
  have own0 : Hid (w0.ownsRow w.heap.size 9 1 (.slice (some ⟨w.heap.size, 0, none⟩) 0 l.length) (textsK (l.take 0)).length ((textsK (l.take 0)).map Value.string)) := hown0
  clear hown0 hgrow0
  go_wp2
  go_loopw [3, 11] (fun v kk wr => ∃ k : Nat, k ≤ l.length ∧ kk = .int .i64 k ∧ Hid ((l.take k).all tokB = true) ∧ Hid (wr.ownsRow w.heap.size 9 1 v (textsK (l.take k)).length ((textsK (l.take k)).map Value.string)) ∧ Below w.heap.size w wr ∧ v ≠ .slice none 0 0) (fun _ kk _ => l.length - (intOf kk).toNat)
  case atStart => exact ⟨0, Nat.zero_le _, rfl, rfl, own0, hb0, by simp⟩
  case round =>
    obtain ⟨k, hk, rfl, hall, hO, hb, hvn⟩ := hrel
    by_cases hlt : k < l.length
    · obtain ⟨g, o, rfl, hgw, c0, c1, c2, c3, c4⟩ := HR.out.below hb k hlt
      have hi0 : (0 : Int) ≤ (k : Int) := by omega
      have hi1 : (k : Int) < (l.length : Int) := by omega
      obtain ⟨hf1, hf2⟩ := HF.out _ (List.getElem_mem hlt)
      have hsa := allK_snoc l k hlt
      rw [hall.out, Bool.true_and] at hsa
      have HS0 : Hid ((l.take (k + 1)).all tokB = tokB l[k]) := hsa
      obtain ⟨r, hr⟩ : ∃ r, tokB l[k] = r := ⟨_, rfl⟩
      have HRR : Hid (tokB l[k] = r) := hr
      have hno : Hid (tokB l[k] = false → y = ⟨#[]⟩) := by
        have : tokB l[k] = false → y = ⟨#[]⟩ := fun e => by rw [← HY.out]; exact toksT_no hlt e
        exact this
      have hsn := textsK_snoc l k hlt
      have hlen : (textsK (l.take k)).length = k := by rw [textsK_length, List.length_take]; omega
      obtain ⟨z, hz⟩ : ∃ z : ByteArray, (⟨(tokT l[k]).toArray⟩ : ByteArray) = z := ⟨_, rfl⟩
      have hsn2 : r = true → textsK (l.take (k + 1)) = textsK (l.take k) ++ [z] := by
        intro _
        rw [hsn, ← hz]
      have HS : Hid (r = true → textsK (l.take (k + 1)) = textsK (l.take k) ++ [z]) := hsn2
      clear hsn hsn2 hsa
      have hOO := hO.out
      rw [hlen] at hOO
      generalize textsK (l.take k) = xs at HS hOO hlen
      have HZ : Hid ((⟨(tokT l[k]).toArray⟩ : ByteArray) = z) := hz
      clear hz hr
      generalize l[k] = x at c0 c1 c2 c3 c4 hf1 hf2 HZ HS0 HRR hno
      go_wp2_with fail
      refine (tok_impl x _ hf1 hf2 ?hp ?he r HRR.out).mono ?_
      case hp => exact (HP.out.below hb).below ((Below.refl _ _).alloc (Nat.le_refl _) _)
      case he => exact (HE.out.below hb).below ((Below.refl _ _).alloc (Nat.le_refl _) _)
      rintro e w1 ⟨rfl, hb1⟩
      obtain ⟨d0, d1, d2, d3, d4, d5⟩ := box5 hb1
      clear c0 c1 c2 c3 c4
      cases r
      · have e := hno.out HRR.out
        subst e
        clear d0 d1 d2 d3 d4
        go_wp2
        go_ret
        exact ⟨rfl, chain hb (chainA hb1)⟩
      · have hbx := chain hb (chainA hb1)
        go_wp2_with fail
        refine (toktext_impl x HRR.out z HZ.out _ hf2 (HP.out.below hbx)).mono ?_
        rintro e w2 ⟨rfl, hb2⟩
        clear d0 d1 d2 d3 d4
        have O1 := own_below hOO (chain (chainA hb1) hb2)
        have hx := chain hbx hb2
        go_wp2_with (at_builtin; refine wpList_append_own _ rfl _ _ 54 rfl w.heap.size 9 i0 (.string ⟨#[]⟩) 1 16 Tryd.underlying54 hti hz0 hz1 hz2 rfl (by decide) _ _ _ rfl (O1.alloc _) ⟨w2.heap.size, 0, none⟩ 1 1 [.string z] rfl rfl ?c1 ?c2 ?c3 ?c4 ?c5 ?_)
        case c1 =>
          intro j u hj
          match j, hj with
          | 0, hj => simp at hj; subst hj; simp [Addr.add]
        case c2 => intro u hu; simp at hu; subst hu; rfl
        case c3 => unfold maxLen; omega
        case c4 => omega
        case c5 => have := hx.size; simp; omega
        intro v' w3 own2 hgrow hnn
        have hx2 : Below w.heap.size w w3 := by
          refine (hx.alloc hx.size _).grown hgrow (by have := hx.size; simp; omega) ?_
          intro kk hkk
          exact (O1.lt kk hkk).1
        have hvn2 : v' ≠ .slice none 0 0 := by first | exact hnn | exact fun e => hvn (hnn.1 e).1
        have SS : Hid (w3.ownsRow w.heap.size 9 1 v' (textsK (l.take (k + 1))).length ((textsK (l.take (k + 1))).map Value.string)) := by
          have : w3.ownsRow w.heap.size 9 1 v' (textsK (l.take (k + 1))).length ((textsK (l.take (k + 1))).map Value.string) := by
            rw [HS.out (by trivial), List.length_append, hlen, List.map_append]; exact own2
          exact this
        clear own2 hgrow hnn O1 hOO hO
        go_wp2
        go_roundw
        case rel => exact ⟨k + 1, by omega, by go_num, HS0.out.trans HRR.out, SS, hx2, hvn2⟩
        case measure => simp [intOf]; omega
    · have hkl : k = l.length := by omega
      subst hkl
      have hi1 : ¬ (l.length : Int) < (l.length : Int) := by omega
      have hAll : l.all tokB = true := by have := hall.out; rwa [List.take_length] at this
      have hOO := hO.out
      rw [List.take_length] at hOO
      rcases hOO.2 with ⟨h', _⟩ | ⟨g, c, cur, h', hbg, _, hcap, _⟩
      · exact absurd h' hvn
      subst h'
      have hT := texts_own hOO
      have h14 := textsK_14 hAll
      have hl2 := textsK_length l
      have hjl := join_len (rawT (textsK l)) (by
        intro z hz
        unfold rawT at hz
        obtain ⟨u, hu, rfl⟩ := List.mem_map.1 hz
        have := h14 u hu
        rw [Lib.size_eq] at this
        exact this)
      have hrl : (rawT (textsK l)).length = l.length := by unfold rawT; rw [List.length_map, hl2]
      have HY2 : Hid ((⟨(Lib.join (rawT (textsK l)) [32]).toArray⟩ : ByteArray) = y) := by
        have : (⟨(Lib.join (rawT (textsK l)) [32]).toArray⟩ : ByteArray) = y := by rw [← HY.out, toksT_texts hAll]
        exact this
      have HT : Hid (TextsAt wr g (textsK l)) := hT
      by_cases hn0 : (textsK l).length = 0
      · have hl0 : l = [] := List.length_eq_zero_iff.1 (by omega)
        subst hl0
        have e : y = ⟨#[]⟩ := by rw [← HY.out]; rfl
        subst e
        clear hT h14 hl2 hjl hrl hOO hO hn0 hcap HT HY2 hAll
        go_wp2_with fail
        refine (joined_none _ _ _ _).mono ?_
        rintro e w2 ⟨rfl, rfl⟩
        go_wp2
        go_ret
        exact ⟨rfl, hb⟩
      · have hg : g < wr.heap.size := (hT 0 (by omega)).2
        have HJ : Hid ((Lib.join (rawT (textsK l)) [32]).length ≤ 140737488355328) := by
          have : (Lib.join (rawT (textsK l)) [32]).length ≤ 140737488355328 := by omega
          exact this
        have HL : Hid ((textsK l).length ≤ 140737488355328) := by
          have : (textsK l).length ≤ 140737488355328 := by omega
          exact this
        have HC : Hid ((textsK l).length ≤ c) := hcap
        clear hT h14 hl2 hjl hrl hOO hO hn0 hcap
        go_wp2_with fail
        refine (joined_impl g c (textsK l) ⟨#[32]⟩ _ (fun j x hj => ?_) hg HL.out HC.out HJ.out y HY2.out).mono ?_
        · obtain ⟨hlt, rfl⟩ := List.getElem?_eq_some_iff.1 hj
          rw [Nat.zero_add]
          exact (HT.out j hlt).1
        rintro e w2 ⟨rfl, hb2⟩
        go_wp2
        go_ret
        exact ⟨rfl, chain hb hb2⟩

end Go.Proofs.YtngggdoaecbdgalDoor
